/- Recover: Merged, walked. Recover: Missing, the program's and the reference's. Recover: what the document fixes (alive). -/
import Derived.Test.YtebkkdoggagcdaaB10
section
namespace Go.Proofs.Ytebkkdoggagcdaa
open Go.RowKit Go.Hay
attribute [local go_sem] Oper.semAt_some
set_option linter.unusedVariables false
set_option linter.unusedSimpArgs false

theorem once_no_dup {m : List Vn} (x : Vn) (h : x ∈ onceV m) : x ∈ m := once_mem h
set_option maxHeartbeats 32000000 in
set_option maxRecDepth 100000 in
theorem cMerged (a b : Option Addr) (ca cb : Nat) (l m : List Vn) (w : World) (hs : VnE.See w a l) (hn : a = none → ca = 0) (ht : VnE.See w b m) (hnb : b = none → cb = 0) (hl : l.length + m.length ≤ 4000000000000) (hx : ∀ x ∈ l ++ m, VnOk w x) (hr : ∀ x ∈ l ++ m, VnR x) :
    Calls Try.prog 16 #[.slice a l.length ca, .slice b m.length cb] w (LvP (mrgV l m) w) := by
  obtain ⟨w1, hw1, k1⟩ : ∃ x, w.alloc (.map #[] 0) = x ∧ Kp [] w x := ⟨_, rfl, (Kp.refl _ _).alloc _⟩
  obtain ⟨qm, hqm⟩ : ∃ q, w.heap.size = q := ⟨_, rfl⟩
  have hmm : (Instr.makeMap 55 none).run Try.prog w = .ok (.map (some w.heap.size)) (w.alloc (.map #[] 0)) := by simp [Instr.makeMap, run_underlying Try.underlying55, go_sem]
  rw [hw1, hqm] at hmm
  have own1 : OwnU w1 qm 0 (.map []) := by rw [← hw1, ← hqm]; exact World.ownsMap_made _ _ _ _
  have z1 : w1.heap.size = w.heap.size + 1 := by rw [← hw1]; simp
  have cB := hid (cByNames b cb m w1 (ht.keptNew k1) hnb (by omega))
  obtain ⟨A, hA⟩ : ∃ A, Hid (onceV m = A) := ⟨_, hid rfl⟩
  obtain ⟨L, hL⟩ : ∃ L, Hid (onceV (l ++ m) = L) := ⟨_, hid rfl⟩
  have hAs : Hid (Srt A) := hid (by rw [← hA.out]; exact once_srt m)
  have hAl : A.length ≤ 4000000000000 := by have h2 := once_len m; rw [hA.out] at h2; omega
  have hLl : L.length ≤ 4000000000000 := by have h2 := once_len (l ++ m); rw [hL.out, List.length_append] at h2; omega
  have hAr := hid (fun x (hm : x ∈ A) => hr x (List.mem_append_right _ (once_mem (by rw [hA.out]; exact hm))))
  have hLr := hid (fun x (hm : x ∈ L) => hr x (once_mem (by rw [hL.out]; exact hm)))
  have hLx := hid (fun x (hm : x ∈ L) => hx x (once_mem (by rw [hL.out]; exact hm)))
  have hU : Hid (mrgV l m = L.map (mrgG m)) := hid (by unfold mrgV; rw [hL.out])
  obtain ⟨U, hU2⟩ : ∃ U, Hid (mrgV l m = U) := ⟨_, hid rfl⟩
  rw [hU2.out] at hU ⊢
  rw [hA.out] at cB
  have hdl : Hid (∀ i, delOf A i = delOf m i) := hid fun i => by unfold delOf; rw [← hA.out, once_lk]
  have HQ : Hid (qm = w.heap.size ∧ w1.heap.size = w.heap.size + 1) := hid ⟨hqm.symm, z1⟩
  have HSL := hid (And.intro hs ht)
  have HLM := hid hl
  have H1 := hid (And.intro own1 k1)
  clear hs hn ht hnb hl hx hr own1 k1 z1
  go_enter Try.func16, Try.ntmps16
  go_wp2_with fail
  refine cB.out.mono ?_
  rintro e w2 ⟨a2, c2, rfl, hrow, k2, hnw⟩
  have hS2 := hid (See.ofRow hrow)
  have hN2 : Hid (∀ k ∈ blk a2, k ≠ qm) := hid fun k hk e => by have := hnw k hk; have := HQ.out; omega
  have hA2 : Hid (A ≠ [] → ∀ k ∈ blk a2, k < w2.heap.size) := hid fun hne k hk => hS2.out.lt hne k hk
  have H2 : Hid (OwnU w2 qm 0 (.map []) ∧ MapD (.map []) (A.take 0) ∧ Kp [] w w2 ∧ Kp [qm] w2 w2) := hid ⟨ownKeptU H1.out.1 k2 (by simp), MapD.nil, H1.out.2.trans k2 (by simp), Kp.refl _ _⟩
  have HSZ : Hid (w1.heap.size ≤ w2.heap.size) := hid k2.size
  clear cB hrow k2 hnw H1
  go_wp2_with fail
  go_loopw [15] (fun i wr => ∃ (j : Nat) (D : DataW Unit), j ≤ A.length ∧ i = .int .i64 (j : Int) ∧ Hid (OwnU wr qm j D ∧ MapD D (A.take j) ∧ Kp [] w wr ∧ Kp [qm] w2 wr)) (fun i _ => A.length - (intOf i).toNat)
  case atStart => exact ⟨0, _, Nat.zero_le _, rfl, H2⟩
  case round =>
    obtain ⟨j, D, hj, rfl, H⟩ := hrel
    clear H2
    by_cases hlt : j < A.length
    · have hsee : VnE.See wr a2 A := hS2.out.kept H.out.2.2.2 (fun hne k hk => by simpa using hN2.out k hk)
      obtain ⟨g, o, ea, x0, x1, x2, x3⟩ := idAt hsee (i := j) (x := A[j]) (by simp [hlt])
      have hxr := hid (hAr.out A[j] (List.getElem_mem hlt))
      have htk : Hid (A.take (j + 1) = A.take j ++ [A[j]]) := hid (List.take_succ_eq_append_getElem hlt)
      have hnl := hid (take_lk hAs.out hlt)
      obtain ⟨x, hx⟩ : ∃ x, Hid (A[j] = x) := ⟨A[j], hid rfl⟩
      rw [hx.out] at x0 x1 x2 x3 hxr htk hnl
      have hput := hid (fun kl hk => H.out.2.1.put H.out.1.isMap (x := x) (kl := kl) hk hnl.out)
      obtain ⟨xe, xn, xa, xc, xr, xd⟩ := x
      dsimp only at x0 x1 x2 x3 hput
      obtain ⟨kl, hkl⟩ := keyIdK xe xn hxr.out.e hxr.out.n
      obtain ⟨q7, W1, W2, eq7, eW1, b1, eW2, b2, kW2⟩ := boxVn wr xe xn xa xr.length xc xd
      have m0 := b1.get 0 _ rfl; have m1 := b1.get 1 _ rfl; have m2 := b1.get 2 _ rfl; have m3 := b1.get 3 _ rfl
      have f0 := b1.free 0; have f1 := b1.free 1; have f2 := b1.free 2; have f3 := b1.free 3
      have v0 := b2.get 0 _ rfl; have v1 := b2.get 1 _ rfl; have v2 := b2.get 2 _ rfl; have v3 := b2.get 3 _ rfl
      have kA1 : Kp [] wr W1 := by rw [← eW1]; exact (Kp.refl [] wr).alloc _
      have g0 := kpAt kA1 x0; have g1 := kpAt kA1 x1; have g2 := kpAt kA1 x2; have g3 := kpAt kA1 x3
      have own2 : OwnU W2 qm j D := ownKeptU H.out.1 kW2 (by simp)
      have KW2 := hid (H.out.2.2.1.trans kW2 (by simp))
      have KQ2 := hid (H.out.2.2.2.trans kW2 (by simp))
      have i1 : (0 : Int) ≤ (j : Int) := by omega
      have i2 : (j : Int) < (A.length : Int) := by omega
      have i3 : (j : Int) + 1 ≤ 9223372036854775807 := by omega
      have hval : plainElem (H := Unit) Try.prog 23 (.int .u64 xd) = some (.lit (.int .u64 xd), []) := plainElem_int Try.underlying23 (by have hd0 := hxr.out.d; dsimp only at hd0; simp [Lit.wf, IntKind.min, IntKind.max, IntKind.bits, IntKind.signed]; omega)
      have hpt := hid (hput.out kl hkl)
      rw [← htk.out] at hpt
      subst ea
      clear b1 b2 kW2 kA1 hsee hput
      go_wp2_with (first | (at_mapUpdate; refine wpList_mapUpdate_own _ rfl _ _ _ 55 rfl 31 23 lawIdK Try.underlying55 _ qm j _ rfl own2 (by unfold maxLen; omega) _ _ kl rfl rfl hkl _ [] hval ?_; intro w5 own5 hg5) | fail)
      have HF : Hid (OwnU w5 qm (j + 1) (D.put kl (.lit (.int .u64 xd))) ∧ MapD (D.put kl (.lit (.int .u64 xd))) (A.take (j + 1)) ∧ Kp [] w w5 ∧ Kp [qm] w2 w5) := hid ⟨own5, hpt.out, KW2.out.trans (kpGrownU hg5) (fun x hx => .inr (by simp at hx; have := HQ.out; omega)), KQ2.out.trans (kpGrownU hg5) (fun x hx => .inl hx)⟩
      exact ⟨⟨j + 1, _, by omega, by go_num, HF⟩, by simp [intOf]; omega⟩
    · obtain ⟨w9, hw9⟩ : ∃ x, x = wr := ⟨_, rfl⟩
      subst hw9
      have hje : j = A.length := by omega
      have HM : Hid (OwnU w9 qm j D ∧ (∀ i : Int × Int, ∀ kl, keyOf Try.prog 31 (.agg #[.int .u64 i.1, .int .u32 i.2]) = some kl → D.atKey kl (.lit (.int .u64 0)) = .lit (.int .u64 (delOf m i))) ∧ Kp [] w w9) := hid ⟨H.out.1, fun i kl hk => by
        have h1 := H.out.2.1
        rw [hje, List.take_length] at h1
        have := h1 i.1 i.2 kl hk
        rw [this, hdl.out], H.out.2.2.1⟩
      have dj1 : ¬ (j : Int) < (A.length : Int) := by omega
      have dj2 : decide ((j : Int) < (A.length : Int)) = false := by simp; omega
      obtain ⟨wa, hwa, ka, ba⟩ : ∃ x, w9.alloc (.cells #[.slice a l.length ca, .slice b m.length cb] 22) = x ∧ Kp [] w9 x ∧ Bn x w9.heap.size [.slice a l.length ca, .slice b m.length cb] := ⟨_, rfl, (Kp.refl _ _).alloc _, Bn.new w9 _ _⟩
      obtain ⟨q9, hq9⟩ : ∃ q, w9.heap.size = q := ⟨_, rfl⟩
      rw [hq9] at ba
      have KA := hid (HM.out.2.2.trans ka (by simp))
      have hsa : WsE.See wa (some ⟨q9, 0, none⟩) [⟨a, ca, l⟩, ⟨b, cb, m⟩] := .inr ⟨q9, 0, rfl, fun j u hu => by rw [Nat.zero_add]; exact ba.get j u (by simpa [El.cs, WsE] using hu)⟩
      have cC := hid (cConcatN (some ⟨q9, 0, none⟩) 2 [⟨a, ca, l⟩, ⟨b, cb, m⟩] wa hsa (fun x hx => by
        rcases List.mem_cons.1 hx with rfl | hx
        · exact HSL.out.1.keptNew KA.out
        · rw [List.mem_singleton.1 hx]; exact HSL.out.2.keptNew KA.out) (by simp) (by have := HLM.out; simp [sumL]; omega))
      have ecat : catL [(⟨a, ca, l⟩ : Ws), ⟨b, cb, m⟩] = l ++ m := by simp [catL]
      rw [ecat] at cC
      have HQ9 : Hid (w.heap.size ≤ w9.heap.size ∧ qm < w9.heap.size) := hid ⟨HM.out.2.2.size, World.ownsMap.lt HM.out.1⟩
      have HKA := hid ka
      have cN := hid (fun a5 c5 W (h : VnE.Row W (.slice a5 (l ++ m).length c5) (l ++ m)) => cByNames a5 c5 (l ++ m) W (See.ofRow h) (fun e => by
        obtain ⟨_, _, e2, _, h3, _⟩ := h.see
        cases e2
        exact (h3 e).2) (by have := HLM.out; rw [List.length_append]; omega))
      obtain ⟨LM, hLM⟩ : ∃ x, Hid (l ++ m = x) := ⟨_, hid rfl⟩
      simp only [hL.out] at cN
      simp only [hLM.out] at cC cN
      clear H hje ba hsa ecat ka
      go_wp2_with fail
      refine cC.out.mono ?_
      rintro e wc ⟨a5, c5, rfl, hrow5, k5, hn5⟩
      have cN5 := hid (cN.out a5 c5 wc hrow5)
      have KC := hid (HKA.out.trans k5 (by simp))
      clear cC cN hrow5 hn5 k5
      go_wp2_with fail
      refine cN5.out.mono ?_
      rintro e wd ⟨a6, c6, rfl, hrow6, k6, hn6⟩
      have KD := hid (KC.out.trans k6 (by simp))
      have HR6 := hid hrow6
      have HN6 := hid (fun k hk => Nat.le_trans KC.out.size (hn6 k hk))
      clear cN5 hrow6 hn6 k6
      by_cases hL0 : L = []
      · subst hL0
        have hUe : Hid (U = []) := hid (by rw [hU.out]; rfl)
        rcases HR6.out with ⟨e, _⟩ | ⟨g, o, cap, e, _⟩
        · have e' := Value.slice.inj e
          obtain ⟨rfl, _, rfl⟩ := e'
          clear e hL hLr hLx
          simp only [List.length_nil]
          go_wp2_with fail
          go_loopw [32] (fun i wr => i = .int .i64 0 ∧ wr = wd) (fun _ _ => 0)
          case atStart => exact ⟨rfl, rfl⟩
          case round =>
            obtain ⟨rfl, rfl⟩ := hrel
            go_wp2_with fail
            go_ret
            exact ⟨none, 0, [], rfl, Lvn.nil _ _, by rw [hUe.out]; rfl, HM.out.2.2.trans KD.out (by simp)⟩
        · have e' := Value.slice.inj e
          obtain ⟨rfl, _, rfl⟩ := e'
          have HL0 : Hid (Lvn w.heap.size (some ⟨g, o, none⟩) c6 [] wd) := hid ⟨HR6.out, by simp, fun k hk => Nat.le_trans HQ9.out.1 (HN6.out k hk)⟩
          clear e hL hLr hLx
          simp only [List.length_nil]
          go_wp2_with fail
          go_loopw [32] (fun i wr => i = .int .i64 0 ∧ wr = wd) (fun _ _ => 0)
          case atStart => exact ⟨rfl, rfl⟩
          case round =>
            obtain ⟨rfl, rfl⟩ := hrel
            go_wp2_with fail
            go_ret
            exact ⟨_, c6, [], rfl, HL0.out, by rw [hUe.out]; rfl, HM.out.2.2.trans KD.out (by simp)⟩
      · obtain ⟨g, o, rfl⟩ : ∃ g o, a6 = some ⟨g, o, none⟩ := by
          rcases HR6.out with ⟨e, e2⟩ | ⟨g, o, cap, e, _⟩
          · exact absurd e2 hL0
          · have := Value.slice.inj e
            exact ⟨g, o, this.1⟩
        have hg : w9.heap.size ≤ g := HN6.out g (by simp [blk])
        have HG : Hid (w9.heap.size ≤ g ∧ qm ≠ g ∧ w.heap.size ≤ g) := hid ⟨hg, by have := HQ9.out; omega, by have := HQ9.out; omega⟩
        have H0 : Hid (MgI w.heap.size g o c6 L m 0 [] wd ∧ OwnU wd qm j D ∧ Kp [g] wd wd ∧ Kp [] w wd) := hid ⟨⟨rfl, rfl, by simpa using HR6.out, by simp⟩, ownKeptU HM.out.1 KD.out (by simp), Kp.refl _ _, HM.out.2.2.trans KD.out (by simp)⟩
        clear hL0 hg HR6 HN6
        go_wp2_with fail
        go_loopw [32] (fun i wr => ∃ (k : Nat) (dn : List Vn), k ≤ L.length ∧ i = .int .i64 (k : Int) ∧ Hid (MgI w.heap.size g o c6 L m k dn wr ∧ OwnU wr qm j D ∧ Kp [g] wd wr ∧ Kp [] w wr)) (fun i _ => L.length - (intOf i).toNat)
        case atStart => exact ⟨0, [], Nat.zero_le _, rfl, H0⟩
        case round =>
          obtain ⟨k, dn, hk, rfl, H⟩ := hrel
          clear H0
          by_cases hlt : k < L.length
          · have hat := H.out.1.at hlt
            have hcells := rowCells H.out.1.row
            have htot := H.out.1.tot hk
            rw [htot] at hcells
            obtain ⟨_, _, _, hcl⟩ := hcells
            have fz : ∀ s, s < 4 → wr.frozen? ⟨g, o + k * 4 + s, none⟩ = false := fun s hs => by
              rw [Nat.add_assoc]
              exact (hcl (k * 4 + s) (by have : VnE.n = 4 := rfl; rw [this]; omega)).2
            obtain ⟨g', o', ea, x0, x1, x2, x3⟩ := idAt (rowLen H.out.1.row rfl) hat
            simp only [Option.some.injEq, Addr.mk.injEq] at ea
            obtain ⟨rfl, rfl, _⟩ := ea
            have hxr := hid (hLr.out L[k] (List.getElem_mem hlt))
            have hxo := hid ((hLx.out L[k] (List.getElem_mem hlt)).kept H.out.2.2.2)
            obtain ⟨x, hx⟩ : ∃ x, Hid (L[k] = x) := ⟨L[k], hid rfl⟩
            rw [hx.out] at x0 x1 x2 x3 hxr hxo
            have hstep := hid (fun W (q : Kp [] wr W) a9 c9 hr hb => (H.out.1.kp q).step hlt x hx.out a9 c9 hr hxo.out.few hb)
            have cC := hid (fun W (q : Kp [] wr W) => cCloneV x.a x.c x.row W (hxo.out.see.keptNew q) hxo.out.nil hxo.out.few)
            have hmap := hid (HM.out.2.1 x.id)
            obtain ⟨xe, xn, xa, xc, xr, xd⟩ := x
            dsimp only at x0 x1 x2 x3 hstep cC
            obtain ⟨kl, hkl⟩ := keyIdK xe xn hxr.out.e hxr.out.n
            have hmk := hid (hmap.out kl hkl)
            obtain ⟨dv, hdv⟩ : ∃ dv, Hid (delOf m (⟨xe, xn, xa, xc, xr, xd⟩ : Vn).id = dv) := ⟨_, hid rfl⟩
            rw [hdv.out] at hmk
            obtain ⟨q7, W1, W2, eq7, eW1, b1, eW2, b2, kW2⟩ := boxVn wr xe xn xa xr.length xc xd
            have m0 := b1.get 0 _ rfl; have m1 := b1.get 1 _ rfl; have m2 := b1.get 2 _ rfl; have m3 := b1.get 3 _ rfl
            have f0 := b1.free 0; have f1 := b1.free 1; have f2 := b1.free 2; have f3 := b1.free 3
            have v2 := b2.get 2 _ rfl
            have kA1 : Kp [] wr W1 := by rw [← eW1]; exact (Kp.refl [] wr).alloc _
            have g0 := kpAt kA1 x0; have g1 := kpAt kA1 x1; have g2 := kpAt kA1 x2; have g3 := kpAt kA1 x3
            have cC2 := hid (cC.out W2 kW2)
            have KW2 := hid kW2
            have B2 := hid b2
            have FZ := hid fz
            have X23 := hid (And.intro x2 x3)
            have i1 : (0 : Int) ≤ (k : Int) := by omega
            have i2 : (k : Int) < (L.length : Int) := by omega
            have i3 : (k : Int) + 1 ≤ 9223372036854775807 := by omega
            have hgl : g < wr.heap.size := World.block_lt_of_cell? _ _ x2
            have hq7 : Hid (q7 ≠ g ∧ g < wr.heap.size ∧ q7 = wr.heap.size) := hid (by omega)
            clear b1 b2 kW2 kA1 cC hmap hat hcl fz hgl htot
            go_wp2_with fail
            refine cC2.out.mono ?_
            rintro e w3 ⟨a9, c9, rfl, hr9, k9, hb9⟩
            have K93 := hid (KW2.out.trans k9 (by simp))
            have hb9' : ∀ j ∈ blk a9, w.heap.size ≤ j ∧ j ≠ g := fun j hj => by
              have h1 := hb9 j hj
              have h2 := KW2.out.size
              have h3 := H.out.2.2.2.size
              have h4 := hq7.out
              exact ⟨by omega, by omega⟩
            obtain ⟨st1, st2⟩ := hstep.out w3 K93.out a9 c9 hr9 hb9'
            have y2 := kpAt K93.out X23.out.1
            have y3 := kpAt K93.out X23.out.2
            have fy2 : w3.frozen? ⟨g, o + k * 4 + 2, none⟩ = false := (K93.out.frozen (p := ⟨g, o + k * 4 + 2, none⟩) hq7.out.2.1 (by simp)).trans (FZ.out 2 (by omega))
            have fy3 : w3.frozen? ⟨g, o + k * 4 + 3, none⟩ = false := (K93.out.frozen (p := ⟨g, o + k * 4 + 3, none⟩) hq7.out.2.1 (by simp)).trans (FZ.out 3 (by omega))
            obtain ⟨W4, eW4⟩ : ∃ Y, w3.setCell ⟨g, o + k * 4 + 2, none⟩ (.slice a9 xr.length c9) = Y := ⟨_, rfl⟩
            have k4 : Kp [g] w3 W4 := by rw [← eW4]; exact (Kp.refl _ _).setCell (by simp) _
            have b3 := B2.out.kept k9
            have hl3 : q7 < w3.heap.size := b3.lt (by simp)
            have b4 := b3.keptS k4 (by simpa using hq7.out.1) hl3
            have p0 := b4.get 0 _ rfl; have p1 := b4.get 1 _ rfl; have p2 := b4.get 2 _ rfl; have p3 := b4.get 3 _ rfl
            have own4 : OwnU W4 qm j D := ownKeptU (ownKeptU H.out.2.1 K93.out (by simp)) k4 (by simpa using HG.out.2.1)
            have z3 : W4.cell? ⟨g, o + k * 4 + 3, none⟩ = some (.int .u64 xd) := by rw [← eW4, World.cell?_setCell_other _ _ _ _ (by intro h; simp only [Addr.mk.injEq] at h; omega)]; exact y3
            have fz3 : W4.frozen? ⟨g, o + k * 4 + 3, none⟩ = false := by rw [← eW4, World.frozen?_setCell]; exact fy3
            have KWD4 := hid ((H.out.2.2.1.trans K93.out (by simp)).trans k4 (fun x hx => .inl hx))
            have KW4 := hid ((H.out.2.2.2.trans K93.out (by simp)).trans k4 (fun x hx => .inr (by simp at hx; have := HG.out; omega)))
            rw [eW4] at st1 st2
            have ST1 := hid st1
            have ST2 := hid (fun hd => st2 hd dv hdv.out)
            clear st1 st2 hr9 k9 hb9 hb9' hstep b3 b4 hl3 k4 cC2 y3 fy3
            by_cases hd : xd = 0
            · have e1 : (xd == 0) = true := by simpa using hd
              have HN := hid (ST2.out hd)
              obtain ⟨W5, eW5⟩ : ∃ Y, W4.setCell ⟨g, o + k * 4 + 3, none⟩ (.int .u64 dv) = Y := ⟨_, rfl⟩
              have k5 : Kp [g] W4 W5 := by rw [← eW5]; exact (Kp.refl _ _).setCell (by simp) _
              rw [eW5] at HN
              have HF : Hid (MgI w.heap.size g o c6 L m (k + 1) (dn ++ [⟨xe, xn, a9, c9, xr, dv⟩]) W5 ∧ OwnU W5 qm j D ∧ Kp [g] wd W5 ∧ Kp [] w W5) := hid ⟨HN.out, ownKeptU own4 k5 (by simpa using HG.out.2.1), KWD4.out.trans k5 (fun x hx => .inl hx), KW4.out.trans k5 (fun x hx => .inr (by simp at hx; have := HG.out; omega))⟩
              clear hd ST1 ST2 HN k5
              go_wp2_with (first | (at_lookup; refine wpList_lookup_own_int _ rfl _ _ 55 rfl 31 23 .u64 lawIdK Try.underlying55 Try.underlying23 (zeroU _) qm j D rfl own4 _ kl rfl hkl ?_; intro cv hat hwc; have ecv : cv = dv := (by have h1 := hmk.out.symm.trans hat; simpa using h1.symm); clear hat hwc; rw [ecv]; clear ecv) | fail)
              go_roundw
              case rel => exact ⟨k + 1, _, by omega, by go_num, HF⟩
              case measure => simp [intOf]; omega
            · have e1 : (xd == 0) = false := by simpa using hd
              have HN := hid (ST1.out hd)
              have HF : Hid (MgI w.heap.size g o c6 L m (k + 1) (dn ++ [⟨xe, xn, a9, c9, xr, xd⟩]) W4 ∧ OwnU W4 qm j D ∧ Kp [g] wd W4 ∧ Kp [] w W4) := hid ⟨HN.out, own4, KWD4.out, KW4.out⟩
              clear hd ST1 ST2 HN
              go_wp2_with fail
              go_roundw
              case rel => exact ⟨k + 1, _, by omega, by go_num, HF⟩
              case measure => simp [intOf]; omega
          · obtain rfl : k = L.length := by omega
            have hrow := H.out.1.row
            have hlk := H.out.1.like
            rw [List.drop_length, List.append_nil] at hrow
            rw [List.take_length] at hlk
            have hdl := H.out.1.len
            have HFIN : Hid (LvP U w (.returned (.slice (some ⟨g, o, none⟩) L.length c6)) wr) := hid ⟨_, c6, dn, by rw [hdl], ⟨hrow, fun x hx => ⟨(H.out.1.rows x hx).1, (H.out.1.rows x hx).2.1, fun j hj => ⟨((H.out.1.rows x hx).2.2 j hj).1, by have := ((H.out.1.rows x hx).2.2 j hj).2; simpa [blk] using this⟩⟩, fun j hj => by simp [blk] at hj; have := HG.out; omega⟩, by rw [hU.out]; exact hlk, H.out.2.2.2⟩
            clear hrow hlk hdl
            go_wp2_with fail
            go_ret
            exact HFIN.out
end Go.Proofs.Ytebkkdoggagcdaa
end

section
namespace Go.Proofs.Ytebkkdoggagcdaa
open Go.RowKit Go.Hay
attribute [local go_sem] Oper.semAt_some
set_option linter.unusedVariables false
set_option linter.unusedSimpArgs false

/-- A segment. -/
structure Sgm where
  p : Int
  s : Int
def SgE : El Sgm where
  n := 2
  c x := [.int .i64 x.p, .int .i64 x.s]
  len _ := rfl
  one _ u hu := by simp at hu; rcases hu with rfl | rfl <;> rfl
  pos := by decide
/-- What is held: a segment, and a slice of versions. -/
structure Hl where
  p : Int
  s : Int
  a : Option Addr
  n : Nat
  c : Nat
def HlE : El Hl where
  n := 3
  c x := [.int .i64 x.p, .int .i64 x.s, .slice x.a x.n x.c]
  len _ := rfl
  one _ u hu := by simp at hu; rcases hu with rfl | rfl | rfl <;> rfl
  pos := by decide
theorem sgAt {w : World} {a : Option Addr} {l : List Sgm} (h : SgE.See w a l) {i : Nat} {x : Sgm} (hx : l[i]? = some x) : ∃ g o, a = some ⟨g, o, none⟩ ∧ w.cell? ⟨g, o + i * 2, none⟩ = some (.int .i64 x.p) ∧ w.cell? ⟨g, o + i * 2 + 1, none⟩ = some (.int .i64 x.s) := by
  obtain ⟨g, o, e, hc⟩ := h.at hx
  exact ⟨g, o, e, hc 0 _ rfl, hc 1 _ rfl⟩
theorem hlAt {w : World} {a : Option Addr} {l : List Hl} (h : HlE.See w a l) {i : Nat} {x : Hl} (hx : l[i]? = some x) : ∃ g o, a = some ⟨g, o, none⟩ ∧ w.cell? ⟨g, o + i * 3, none⟩ = some (.int .i64 x.p) ∧ w.cell? ⟨g, o + i * 3 + 1, none⟩ = some (.int .i64 x.s) ∧ w.cell? ⟨g, o + i * 3 + 2, none⟩ = some (.slice x.a x.n x.c) := by
  obtain ⟨g, o, e, hc⟩ := h.at hx
  exact ⟨g, o, e, hc 0 _ rfl, hc 1 _ rfl, hc 2 _ rfl⟩
/-- Whether something is held of a segment. -/
def heldS (H : List Hl) (x : Sgm) : Bool := H.any fun h => decide ((h.p, h.s) = (x.p, x.s))
def misV (W : List Sgm) (H : List Hl) : List Sgm := W.filter fun x => !heldS H x
theorem heldS_snoc (H : List Hl) (h : Hl) (x : Sgm) : heldS (H ++ [h]) x = (heldS H x || decide ((h.p, h.s) = (x.p, x.s))) := by
  unfold heldS
  rw [List.any_append]
  simp
theorem misV_snoc {W : List Sgm} (H : List Hl) {j : Nat} (h : j < W.length) : misV (W.take (j + 1)) H = misV (W.take j) H ++ (if heldS H W[j] = true then [] else [W[j]]) := by
  rw [List.take_succ_eq_append_getElem h]
  unfold misV
  rw [List.filter_append]
  by_cases c : heldS H W[j] = true <;> simp [c]
theorem infoS : ∃ i : TypeInfo, Try.prog.info? 50 = some i ∧ i.zero = some (.agg #[.int .i64 0, .int .i64 0]) ∧ i.size = 2 ∧ i.bytes = 16 := info3 (by kernel_rfl)
def GS (w : World) (ra : Option Addr) (rc : Nat) (O : List Sgm) (W : World) : Prop := SgE.Row W (.slice ra O.length rc) O ∧ Kp [] w W ∧ ∀ k ∈ blk ra, w.heap.size ≤ k
theorem GS.kp {w : World} {ra : Option Addr} {rc : Nat} {O : List Sgm} {W W' : World} (h : GS w ra rc O W) (k : Kp [] W W') : GS w ra rc O W' := ⟨h.1.keptNew k, h.2.1.trans k (by simp), h.2.2⟩
theorem GS.app {w : World} {ra : Option Addr} {rc : Nat} {L : List Sgm} {W : World} (h : GS w ra rc L W) (x : Sgm) (q : Nat) (hq : W.heap.size = q) (hL : L.length ≤ 9000000000000) :
    ∃ a' c' w', (Builtin.append_ #[46, 46] 46 #[.slice ra L.length rc, .slice (some ⟨q, 0, none⟩) 1 1]).run Try.prog (W.alloc (.cells #[.int .i64 x.p, .int .i64 x.s] 50)) = .ok (.slice a' (L ++ [x]).length c') w' ∧ GS w a' c' (L ++ [x]) w' ∧ Kp (blk ra) W w' := by
  have k1 : Kp [] W (W.alloc (.cells #[.int .i64 x.p, .int .i64 x.s] 50)) := (Kp.refl _ _).alloc _
  have bx : Bn (W.alloc (.cells #[.int .i64 x.p, .int .i64 x.s] 50)) q (SgE.c x) := by rw [← hq]; exact Bn.new W (SgE.c x) _
  have hse : SgE.See (W.alloc (.cells #[.int .i64 x.p, .int .i64 x.s] 50)) (some ⟨q, 0, none⟩) [x] := .inr ⟨q, 0, rfl, fun j u hu => by rw [Nat.zero_add]; exact bx.get j u (by simpa [El.cs] using hu)⟩
  obtain ⟨i0, hi, hz0, hz1, hz2⟩ := infoS
  have hsr := hse.src (P := Try.prog) Try.underlying46 1
  obtain ⟨v', w', hrun, h1, h2, h3⟩ := run_appendG (E := SgE) (P := Try.prog) _ 46 46 46 50 i0 _ 16 Try.underlying46 hi hz0 hz1 hz2 rfl (.slice ra L.length rc) L (h.1.keptNew k1) _ [x] hsr (by simp only [List.length_cons, List.length_nil]; omega) (by simp only [List.length_cons, List.length_nil]; omega)
  obtain ⟨a', c', rfl, _⟩ := h1.see
  simp only [own_slice] at h2 h3
  have kk : Kp (blk ra) W w' := (k1.mono (by simp)).trans h2 (fun _ h => .inl h)
  refine ⟨a', c', w', hrun, ⟨h1, h.2.1.trans kk (fun x hx => .inr (h.2.2 x hx)), fun k hk => ?_⟩, kk⟩
  rcases h3 k hk with e | e
  · exact h.2.2 k e
  · exact Nat.le_trans h.2.1.size (Nat.le_trans k1.size e)
theorem eqSg (a b c d : Int) (w : World) : (binOp .eql 50 (.agg #[.int .i64 a, .int .i64 b]) (.agg #[.int .i64 c, .int .i64 d])).run Try.prog w = .ok (.bool (decide ((a, b) = (c, d)))) w := by
  rw [run_eql_struct, run_equalIn_agg (ht := by kernel_rfl) (hp := by kernel_rfl)]
  by_cases h1 : a = c
  · by_cases h2 : b = d
    · simp [go_sem, h1, h2]
    · simp [go_sem, h1, h2]
  · simp [go_sem, h1]
set_option maxHeartbeats 16000000 in
set_option maxRecDepth 100000 in
theorem rMissing (a b : Option Addr) (ca cb : Nat) (Wn : List Sgm) (H : List Hl) (w : World) (hs : SgE.See w a Wn) (ht : HlE.See w b H) (hl : Wn.length ≤ 9000000000000) (hm : H.length ≤ 9000000000000) :
    Calls Try.prog 23 #[.slice a Wn.length ca, .slice b H.length cb] w (CloneP SgE (misV Wn H) w) := by
  have HS := hid (And.intro hs ht)
  obtain ⟨U, hU⟩ : ∃ U, Hid (misV Wn H = U) := ⟨_, hid rfl⟩
  rw [hU.out]
  clear hs ht
  go_enter Try.func23, Try.ntmps23
  go_wp2_with fail
  go_loopw [5, 6] (fun v5 i wr => ∃ (j : Nat) (ra : Option Addr) (rc : Nat) (M : List Sgm), j ≤ Wn.length ∧ i = .int .i64 (j : Int) ∧ v5 = .slice ra M.length rc ∧ Hid (M = misV (Wn.take j) H) ∧ Hid (GS w ra rc M wr)) (fun _ i _ => Wn.length - (intOf i).toNat)
  case atStart => exact ⟨0, none, 0, [], Nat.zero_le _, rfl, rfl, hid rfl, hid ⟨.inl ⟨rfl, rfl⟩, Kp.refl _ _, by simp [blk]⟩⟩
  case round =>
    obtain ⟨j, ra, rc, M, hj, rfl, rfl, hlk, G⟩ := hrel
    have hMl : M.length ≤ j := by
      have h1 := congrArg List.length hlk.out
      have h2 := List.length_filter_le (fun x => !heldS H x) (Wn.take j)
      rw [List.length_take] at h2
      unfold misV at h1
      omega
    by_cases hlt : j < Wn.length
    · have hsn := hid (misV_snoc H hlt)
      rw [← hlk.out] at hsn
      obtain ⟨g, o, ea, x0, x1⟩ := sgAt (HS.out.1.keptNew G.out.2.1) (i := j) (x := Wn[j]) (by simp [hlt])
      obtain ⟨x, hx⟩ : ∃ x, Hid (Wn[j] = x) := ⟨Wn[j], hid rfl⟩
      rw [hx.out] at x0 x1 hsn
      obtain ⟨wo, hwo⟩ : ∃ x, x = wr := ⟨_, rfl⟩
      subst hwo
      have hXX : Hid (∀ W', Kp [] wo W' → W'.cell? ⟨g, o + j * 2, none⟩ = some (.int .i64 x.p) ∧ W'.cell? ⟨g, o + j * 2 + 1, none⟩ = some (.int .i64 x.s)) := hid fun W' k => ⟨kpAt k x0, kpAt k x1⟩
      obtain ⟨xp, xs⟩ := x
      have i1 : (0 : Int) ≤ (j : Int) := by omega
      have i2 : (j : Int) < (Wn.length : Int) := by omega
      have i3 : (j : Int) + 1 ≤ 9223372036854775807 := by omega
      subst ea
      clear x0 x1 hMl
      go_wp2_with fail
      go_loopw [7, 8] (fun v7 i2 wr => ∃ k : Nat, k ≤ H.length ∧ i2 = .int .i64 (k : Int) ∧ v7 = .bool (heldS (H.take k) ⟨xp, xs⟩) ∧ Hid (Kp [] wo wr)) (fun _ i2 _ => H.length - (intOf i2).toNat)
      case atStart => exact ⟨0, Nat.zero_le _, rfl, rfl, hid (Kp.refl _ _)⟩
      case round =>
        obtain ⟨k, hk, rfl, rfl, kr⟩ := hrel
        by_cases hlt2 : k < H.length
        · obtain ⟨g2, o2, ea2, y0, y1, y2⟩ := hlAt (HS.out.2.keptNew (G.out.2.1.trans kr.out (by simp))) (i := k) (x := H[k]) (by simp [hlt2])
          obtain ⟨z0, z1⟩ := hXX.out wr kr.out
          have hsn2 : Hid (heldS (H.take (k + 1)) ⟨xp, xs⟩ = (heldS (H.take k) ⟨xp, xs⟩ || decide ((H[k].p, H[k].s) = (xp, xs)))) := hid (by rw [List.take_succ_eq_append_getElem hlt2, heldS_snoc])
          obtain ⟨y, hy⟩ : ∃ y, Hid (H[k] = y) := ⟨H[k], hid rfl⟩
          rw [hy.out] at y0 y1 y2 hsn2
          obtain ⟨yp, ys, ya, yn, yc⟩ := y
          dsimp only at y0 y1 y2 hsn2 z0 z1
          have q := eqSg yp ys xp xs
          obtain ⟨B, hB⟩ : ∃ B, Hid (decide ((yp, ys) = (xp, xs)) = B) := ⟨_, hid rfl⟩
          simp only [hB.out] at q hsn2
          obtain ⟨C, hC⟩ : ∃ C, Hid (heldS (H.take k) ⟨xp, xs⟩ = C) := ⟨_, hid rfl⟩
          rw [hC.out] at hsn2 ⊢
          have j1 : (0 : Int) ≤ (k : Int) := by omega
          have j2 : (k : Int) < (H.length : Int) := by omega
          have j3 : (k : Int) + 1 ≤ 9223372036854775807 := by omega
          subst ea2
          cases B with
          | true =>
            have hn : Hid (Value.bool true = .bool (heldS (H.take (k + 1)) ⟨xp, xs⟩)) := hid (by rw [hsn2.out, Bool.or_true])
            clear hsn2 hB
            go_wp2_with fail
            go_quiet (fail)
            go_wp2_with fail
            exact ⟨⟨k + 1, by omega, by go_num, hn.out, hid (kr.out.drewN _)⟩, by simp [intOf]; omega⟩
          | false =>
            have hn : Hid (Value.bool C = .bool (heldS (H.take (k + 1)) ⟨xp, xs⟩)) := hid (by rw [hsn2.out, Bool.or_false])
            clear hsn2 hB
            go_wp2_with fail
            go_quiet (fail)
            go_wp2_with fail
            exact ⟨⟨k + 1, by omega, by go_num, hn.out, hid (kr.out.drewN _)⟩, by simp [intOf]; omega⟩
        · obtain rfl : k = H.length := by omega
          have hC : heldS (H.take H.length) ⟨xp, xs⟩ = heldS H ⟨xp, xs⟩ := by rw [List.take_length]
          rw [hC]
          have G2 := hid (G.out.kp kr.out)
          obtain ⟨z0, z1⟩ := hXX.out wr kr.out
          try dsimp only at z0 z1
          cases hB : heldS H ⟨xp, xs⟩ with
          | true =>
            have hn : Hid (M = misV (Wn.take (j + 1)) H) := hid (by rw [hsn.out, if_pos hB, List.append_nil])
            clear hsn hB hC z0 z1
            go_wp2_with fail
            exact ⟨⟨j + 1, ra, rc, M, by omega, by go_num, rfl, hn, G2⟩, by simp [intOf]; omega⟩
          | false =>
            have hn : Hid (M ++ [⟨xp, xs⟩] = misV (Wn.take (j + 1)) H) := hid (by rw [hsn.out, if_neg (by rw [hB]; simp)])
            obtain ⟨q8, hq8⟩ : ∃ q, wr.heap.size = q := ⟨_, rfl⟩
            obtain ⟨a4, c4, W4, hrun, hg4, k4⟩ := G2.out.app ⟨xp, xs⟩ q8 hq8 (by
              have h1 := congrArg List.length hlk.out
              have h2 := List.length_filter_le (fun x => !heldS H x) (Wn.take j)
              rw [List.length_take] at h2
              unfold misV at h1
              omega)
            obtain ⟨M4, hM4⟩ : ∃ M4, Hid (M ++ [(⟨xp, xs⟩ : Sgm)] = M4) := ⟨_, hid rfl⟩
            rw [hM4.out] at hrun hg4 hn
            dsimp only at hrun
            have HF := hid hg4
            clear hsn hB hC hg4 k4
            go_wp2_with (first | (refine wpAppRun rfl _ _ 46 46 rfl _ _ _ rfl rfl hrun ?_) | fail)
            exact ⟨⟨j + 1, a4, c4, M4, by omega, by go_num, rfl, hn, HF⟩, by simp [intOf]; omega⟩
    · obtain rfl : j = Wn.length := by omega
      have hfin : Hid (M = U) := hid (by have := hlk.out; rw [List.take_length] at this; rw [← hU.out]; exact this)
      clear hMl
      go_wp2_with fail
      go_ret
      rw [← hfin.out]
      exact ⟨ra, rc, rfl, G.out.1, G.out.2.1, G.out.2.2⟩
theorem segK : (50 : TypeId) < Try.prog.types.size := of_decide_eq_true (by kernel_rfl)
theorem wideSegK : (match Try.prog.underlying 50 with | some (.array _ _) | some (.struct _) => true | _ => false) = true := by rw [Try.underlying50]
set_option maxRecDepth 100000 in
theorem lawSegK : Maps.Keyed Try.prog 50 := Maps.Keyed.of_law (deep_law_laid Try.laidOut (m := 2) (by omega) segK (by kernel_rfl) wideSegK)
theorem zeroUnit (w : World) : (zeroValue 62).run Try.prog w = .ok (.agg #[]) w := by kernel_rfl
/-- Numbers that an int holds. -/
def I64 (x : Int) : Prop := -9223372036854775808 ≤ x ∧ x ≤ 9223372036854775807
theorem keySegK (e n : Int) (he : I64 e) (hn : I64 n) : ∃ kl, keyOf Try.prog 50 (.agg #[.int .i64 e, .int .i64 n]) = some kl := by
  unfold I64 at he hn
  have h1 : (Lit.int .i64 e).wf = true := by simp [Lit.wf, IntKind.min, IntKind.max, IntKind.bits, IntKind.signed]; omega
  have h2 : (Lit.int .i64 n).wf = true := by simp [Lit.wf, IntKind.min, IntKind.max, IntKind.bits, IntKind.signed]; omega
  have hsz : ∀ s : Nat, 0 < s → ∃ m, s = m + 1 := fun s h => ⟨s - 1, by omega⟩
  obtain ⟨m, hm⟩ := hsz Try.prog.types.size (Nat.lt_of_le_of_lt (Nat.zero_le _) segK)
  have hk : Try.prog.keyType 50 = true := by kernel_rfl
  have hc : Try.prog.cellsOf 50 = 2 := by kernel_rfl
  have hc1 : Try.prog.cellsOf 3 = 1 := by kernel_rfl
  have hf : (Value.agg #[.int .i64 e, .int .i64 n]).formed Try.prog 50 = true := by simp [Value.formed, Try.underlying50, hc]
  unfold keyOf
  rw [Try.underlying50]
  simp only [hk, hf, Bool.and_self, if_true, hm]
  simp [Program.keyLits, Try.underlying50, Try.underlying3, hc, hc1, Value.cells, h1, h2]
abbrev OwnS (w : World) (q n : Nat) (D : DataW Unit) : Prop := w.ownsMap Try.prog 50 unitElem q n D
theorem ownKeptS {X Y : World} {S : List Nat} {q n : Nat} {D : DataW Unit} (h : OwnS X q n D) (k : Kp S X Y) (hq : q ∉ S) : OwnS Y q n D := by
  obtain ⟨es, cl, hb, r⟩ := h
  exact ⟨es, cl, (k.block q (Array.getElem?_eq_some_iff.1 hb).1 hq).trans hb, r⟩
/-- The map has just those segments of which something is held. -/
def MapS (D : DataW Unit) (L : List Hl) : Prop := ∀ (e n : Int) (kl : Lit), keyOf Try.prog 50 (.agg #[.int .i64 e, .int .i64 n]) = some kl → Maps.has D kl = heldS L ⟨e, n⟩
theorem MapS.nil : MapS (.map []) [] := fun e n kl _ => rfl
theorem MapS.put {D : DataW Unit} {L : List Hl} (h : MapS D L) (hD : Maps.IsMap D) {x : Hl} {kl : Lit} (hk : keyOf Try.prog 50 (.agg #[.int .i64 x.p, .int .i64 x.s]) = some kl) : MapS (D.put kl (.agg [])) (L ++ [x]) := fun e n kl' hk' => by
  rw [heldS_snoc]
  by_cases he : (x.p, x.s) = (e, n)
  · have e1 : x.p = e := congrArg Prod.fst he
    have e2 : x.s = n := congrArg Prod.snd he
    subst e1 e2
    rw [hk] at hk'
    cases hk'
    rw [Maps.has_put_same hD (lawSegK.key hk)]
    simp
  · have hne : kl' ≠ kl := fun e' => he (by
      rw [e'] at hk'
      have := lawSegK.inj hk hk'
      simp at this
      rw [this.1, this.2])
    rw [Maps.has_put_other hne, h e n kl' hk']
    simp [he]
theorem boxHl (w : World) (p s : Int) (a : Option Addr) (n c : Nat) : ∃ q W1 W2, w.heap.size = q ∧ w.alloc (.cells #[.int .i64 0, .int .i64 0, .slice none 0 0] 61) = W1 ∧ Bn W1 q [.int .i64 0, .int .i64 0, .slice none 0 0] ∧ ((W1.setCell ⟨q, 0, none⟩ (.int .i64 p)).setCell ⟨q, 1, none⟩ (.int .i64 s)).setCell ⟨q, 2, none⟩ (.slice a n c) = W2 ∧ Bn W2 q [.int .i64 p, .int .i64 s, .slice a n c] ∧ Kp [] w W2 := by
  have b0 := Bn.new w [.int .i64 0, .int .i64 0, .slice none 0 0] 61
  have k0 : Kp [] w (w.alloc (.cells #[.int .i64 0, .int .i64 0, .slice none 0 0] 61)) := (Kp.refl _ _).alloc _
  have h : w.heap.size ∈ ([] : List Nat) ∨ w.heap.size ≤ w.heap.size := .inr (Nat.le_refl _)
  exact ⟨_, _, _, rfl, rfl, b0, rfl, ((b0.set 0 (by simp) (.int .i64 p)).set 1 (by simp) (.int .i64 s)).set 2 (by simp) (.slice a n c), ((k0.setCell h _).setCell h _).setCell h _⟩
theorem boxSg (w : World) (p s : Int) : ∃ q W1 W2, w.heap.size = q ∧ w.alloc (.cells #[.int .i64 0, .int .i64 0] 50) = W1 ∧ Bn W1 q [.int .i64 0, .int .i64 0] ∧ (W1.setCell ⟨q, 0, none⟩ (.int .i64 p)).setCell ⟨q, 1, none⟩ (.int .i64 s) = W2 ∧ Bn W2 q [.int .i64 p, .int .i64 s] ∧ Kp [] w W2 := by
  have b0 := Bn.new w [.int .i64 0, .int .i64 0] 50
  have k0 : Kp [] w (w.alloc (.cells #[.int .i64 0, .int .i64 0] 50)) := (Kp.refl _ _).alloc _
  have h : w.heap.size ∈ ([] : List Nat) ∨ w.heap.size ≤ w.heap.size := .inr (Nat.le_refl _)
  exact ⟨_, _, _, rfl, rfl, b0, rfl, (b0.set 0 (by simp) (.int .i64 p)).set 1 (by simp) (.int .i64 s), (k0.setCell h _).setCell h _⟩
set_option maxHeartbeats 16000000 in
set_option maxRecDepth 100000 in
theorem cMissing (a b : Option Addr) (ca cb : Nat) (Wn : List Sgm) (H : List Hl) (w : World) (hs : SgE.See w a Wn) (ht : HlE.See w b H) (hl : Wn.length ≤ 9000000000000) (hm : H.length ≤ 9000000000000) (hr : ∀ x ∈ Wn, I64 x.p ∧ I64 x.s) (hr2 : ∀ x ∈ H, I64 x.p ∧ I64 x.s) :
    Calls Try.prog 22 #[.slice a Wn.length ca, .slice b H.length cb] w (CloneP SgE (misV Wn H) w) := by
  have HS := hid (And.intro hs ht)
  have HR := hid (And.intro hr hr2)
  obtain ⟨U, hU⟩ : ∃ U, Hid (misV Wn H = U) := ⟨_, hid rfl⟩
  rw [hU.out]
  obtain ⟨w1, hw1, k1⟩ : ∃ x, w.alloc (.map #[] 0) = x ∧ Kp [] w x := ⟨_, rfl, (Kp.refl _ _).alloc _⟩
  obtain ⟨qm, hqm⟩ : ∃ q, w.heap.size = q := ⟨_, rfl⟩
  have hmm : (Instr.makeMap 59 (some (.int .i64 (H.length : Int)))).run Try.prog w = .ok (.map (some w.heap.size)) (w.alloc (.map #[] 0)) := by simp [Instr.makeMap, run_underlying Try.underlying59, go_sem]
  rw [hw1, hqm] at hmm
  have own1 : OwnS w1 qm 0 (.map []) := by rw [← hw1, ← hqm]; exact World.ownsMap_made _ _ _ _
  have H0 : Hid (OwnS w1 qm 0 (.map []) ∧ MapS (.map []) (H.take 0) ∧ Kp [] w w1) := hid ⟨own1, MapS.nil, k1⟩
  have HQ := hid hqm
  clear hs ht hr hr2 own1 k1
  go_enter Try.func22, Try.ntmps22
  go_wp2_with fail
  go_loopw [18] (fun i wr => ∃ (j : Nat) (D : DataW Unit), j ≤ H.length ∧ i = .int .i64 (j : Int) ∧ Hid (OwnS wr qm j D ∧ MapS D (H.take j) ∧ Kp [] w wr)) (fun i _ => H.length - (intOf i).toNat)
  case atStart => exact ⟨0, _, Nat.zero_le _, rfl, H0⟩
  case round =>
    obtain ⟨j, D, hj, rfl, G⟩ := hrel
    clear H0
    by_cases hlt : j < H.length
    · obtain ⟨g, o, ea, x0, x1, x2⟩ := hlAt (HS.out.2.keptNew G.out.2.2) (i := j) (x := H[j]) (by simp [hlt])
      have hxr := hid (HR.out.2 H[j] (List.getElem_mem hlt))
      have htk : Hid (H.take (j + 1) = H.take j ++ [H[j]]) := hid (List.take_succ_eq_append_getElem hlt)
      obtain ⟨x, hx⟩ : ∃ x, Hid (H[j] = x) := ⟨H[j], hid rfl⟩
      rw [hx.out] at x0 x1 x2 hxr htk
      have hput := hid (fun kl hk => G.out.2.1.put G.out.1.isMap (x := x) (kl := kl) hk)
      obtain ⟨xp, xs, xa, xn, xc⟩ := x
      dsimp only at x0 x1 x2 hput
      obtain ⟨kl, hkl⟩ := keySegK xp xs hxr.out.1 hxr.out.2
      obtain ⟨q7, W1, W2, eq7, eW1, b1, eW2, b2, kW2⟩ := boxHl wr xp xs xa xn xc
      have m0 := b1.get 0 _ rfl; have m1 := b1.get 1 _ rfl; have m2 := b1.get 2 _ rfl
      have f0 := b1.free 0; have f1 := b1.free 1; have f2 := b1.free 2
      have v0 := b2.get 0 _ rfl; have v1 := b2.get 1 _ rfl; have v2 := b2.get 2 _ rfl
      have own2 : OwnS W2 qm j D := ownKeptS G.out.1 kW2 (by simp)
      have KW2 := hid (G.out.2.2.trans kW2 (by simp))
      have i1 : (0 : Int) ≤ (j : Int) := by omega
      have i2 : (j : Int) < (H.length : Int) := by omega
      have i3 : (j : Int) + 1 ≤ 9223372036854775807 := by omega
      have hval : unitElem (H := Unit) (.agg #[]) = some (.agg [], []) := unitElem_mk
      have hpt := hid (hput.out kl hkl)
      rw [← htk.out] at hpt
      subst ea
      clear b1 b2 kW2 hput
      go_wp2_with (first | (at_mapUpdate; refine wpList_mapUpdate_own _ rfl _ _ _ 59 rfl 50 62 lawSegK Try.underlying59 _ qm j _ rfl own2 (by unfold maxLen; omega) _ _ kl rfl rfl hkl _ [] hval ?_; intro w5 own5 hg5) | fail)
      have HF : Hid (OwnS w5 qm (j + 1) (D.put kl (.agg [])) ∧ MapS (D.put kl (.agg [])) (H.take (j + 1)) ∧ Kp [] w w5) := hid ⟨own5, hpt.out, KW2.out.trans (kpGrownU hg5) (fun x hx => .inr (by simp at hx; have := HQ.out; omega))⟩
      exact ⟨⟨j + 1, _, by omega, by go_num, HF⟩, by simp [intOf]; omega⟩
    · obtain ⟨w9, hw9⟩ : ∃ x, x = wr := ⟨_, rfl⟩
      subst hw9
      have hje : j = H.length := by omega
      have HM : Hid (OwnS w9 qm j D ∧ MapS D H ∧ Kp [] w w9) := hid ⟨G.out.1, by have h1 := G.out.2.1; rw [hje, List.take_length] at h1; exact h1, G.out.2.2⟩
      have dj1 : ¬ (j : Int) < (H.length : Int) := by omega
      have dj2 : decide ((j : Int) < (H.length : Int)) = false := by simp; omega
      have hqml : Hid (qm < w9.heap.size) := hid (World.ownsMap.lt HM.out.1)
      clear G hje
      go_wp2_with fail
      go_loopw [8, 29] (fun v8 i wr => ∃ (k : Nat) (ra : Option Addr) (rc : Nat) (M : List Sgm), k ≤ Wn.length ∧ i = .int .i64 (k : Int) ∧ v8 = .slice ra M.length rc ∧ Hid (M = misV (Wn.take k) H) ∧ Hid (GS w9 ra rc M wr ∧ OwnS wr qm j D)) (fun _ i _ => Wn.length - (intOf i).toNat)
      case atStart => exact ⟨0, none, 0, [], Nat.zero_le _, rfl, rfl, hid rfl, hid ⟨⟨.inl ⟨rfl, rfl⟩, Kp.refl _ _, by simp [blk]⟩, HM.out.1⟩⟩
      case round =>
        obtain ⟨k, ra, rc, M, hk, rfl, rfl, hlk, G⟩ := hrel
        have hMl : M.length ≤ k := by
          have h1 := congrArg List.length hlk.out
          have h2 := List.length_filter_le (fun x => !heldS H x) (Wn.take k)
          rw [List.length_take] at h2
          unfold misV at h1
          omega
        have KWr := hid (HM.out.2.2.trans G.out.1.2.1 (by simp))
        by_cases hlt : k < Wn.length
        · have hsn := hid (misV_snoc H hlt)
          rw [← hlk.out] at hsn
          obtain ⟨g, o, ea, x0, x1⟩ := sgAt (HS.out.1.keptNew KWr.out) (i := k) (x := Wn[k]) (by simp [hlt])
          have hxr := hid (HR.out.1 Wn[k] (List.getElem_mem hlt))
          obtain ⟨x, hx⟩ : ∃ x, Hid (Wn[k] = x) := ⟨Wn[k], hid rfl⟩
          rw [hx.out] at x0 x1 hsn hxr
          obtain ⟨xp, xs⟩ := x
          dsimp only at x0 x1
          obtain ⟨kl, hkl⟩ := keySegK xp xs hxr.out.1 hxr.out.2
          have hh := HM.out.2.1 xp xs kl hkl
          obtain ⟨q10, W1, W2, eq10, eW1, b1, eW2, b2, kW2⟩ := boxSg wr xp xs
          have m0 := b1.get 0 _ rfl; have m1 := b1.get 1 _ rfl
          have f0 := b1.free 0; have f1 := b1.free 1
          have v0 := b2.get 0 _ rfl; have v1 := b2.get 1 _ rfl
          have own2 : OwnS W2 qm j D := ownKeptS G.out.2 kW2 (by simp)
          obtain ⟨W3, eW3⟩ : ∃ Y, W2.alloc (.cells #[] 62) = Y := ⟨_, rfl⟩
          have k3 : Kp [] W2 W3 := by rw [← eW3]; exact (Kp.refl _ _).alloc _
          have b3 := b2.kept k3
          have u0 := b3.get 0 _ rfl; have u1 := b3.get 1 _ rfl
          have own3 : OwnS W3 qm j D := ownKeptS own2 k3 (by simp)
          have G3 := hid (G.out.1.kp (kW2.trans k3 (by simp)))
          have O3 := hid own3
          have i1 : (0 : Int) ≤ (k : Int) := by omega
          have i2 : (k : Int) < (Wn.length : Int) := by omega
          have i3 : (k : Int) + 1 ≤ 9223372036854775807 := by omega
          subst ea
          clear b1 b2 kW2 b3 k3
          cases hB : heldS H ⟨xp, xs⟩ with
          | true =>
            rw [hB] at hh
            have hn : Hid (M = misV (Wn.take (k + 1)) H) := hid (by rw [hsn.out, if_pos hB, List.append_nil])
            have HF : Hid (GS w9 ra rc M W3 ∧ OwnS W3 qm j D) := hid ⟨G3.out, O3.out⟩
            clear hsn hB
            go_wp2_with (first | (at_lookup; refine wpList_lookup_own_unit _ rfl _ _ 59 rfl 50 62 lawSegK Try.underlying59 (zeroUnit _) qm j D rfl own2 _ kl rfl hkl ?_; rw [hh]) | fail)
            go_roundw
            case rel => exact ⟨k + 1, ra, rc, M, by omega, by go_num, rfl, hn, HF⟩
            case measure => simp [intOf]; omega
          | false =>
            rw [hB] at hh
            have hn : Hid (M ++ [⟨xp, xs⟩] = misV (Wn.take (k + 1)) H) := hid (by rw [hsn.out, if_neg (by rw [hB]; simp)])
            obtain ⟨q8, hq8⟩ : ∃ q, W3.heap.size = q := ⟨_, rfl⟩
            obtain ⟨a4, c4, W4, hrun, hg4, k4⟩ := G3.out.app ⟨xp, xs⟩ q8 hq8 (by omega)
            obtain ⟨M4, hM4⟩ : ∃ M4, Hid (M ++ [(⟨xp, xs⟩ : Sgm)] = M4) := ⟨_, hid rfl⟩
            rw [hM4.out] at hrun hg4 hn
            dsimp only at hrun
            have HF : Hid (GS w9 a4 c4 M4 W4 ∧ OwnS W4 qm j D) := hid ⟨hg4, ownKeptS O3.out k4 (fun hm => by have h1 := G3.out.2.2 qm hm; have h2 := hqml.out; omega)⟩
            clear hsn hB hg4 k4
            go_wp2_with (first | (at_lookup; refine wpList_lookup_own_unit _ rfl _ _ 59 rfl 50 62 lawSegK Try.underlying59 (zeroUnit _) qm j D rfl own2 _ kl rfl hkl ?_; rw [hh]) | (refine wpAppRun rfl _ _ 46 46 rfl _ _ _ rfl rfl hrun ?_) | fail)
            go_roundw
            case rel => exact ⟨k + 1, a4, c4, M4, by omega, by go_num, rfl, hn, HF⟩
            case measure => simp [intOf]; omega
        · obtain rfl : k = Wn.length := by omega
          have hfin : Hid (M = U) := hid (by have := hlk.out; rw [List.take_length] at this; rw [← hU.out]; exact this)
          clear hMl
          go_wp2_with fail
          go_ret
          rw [← hfin.out]
          exact ⟨ra, rc, rfl, G.out.1.1, KWr.out, fun k hk => Nat.le_trans HM.out.2.2.size (G.out.1.2.2 k hk)⟩
end Go.Proofs.Ytebkkdoggagcdaa
end

section
namespace Go.Proofs.Ytebkkdoggagcdaa
open Go.RowKit Go.Hay
attribute [local go_sem] Oper.semAt_some
set_option linter.unusedVariables false
set_option linter.unusedSimpArgs false

theorem Like.one {M : List Vn} {x : Vn} (h : Like M [x]) : ∃ a, M = [a] ∧ a.p = x.p := by
  obtain ⟨y, s, rfl, e, h'⟩ := Like.cons h.symm
  rw [Like.nil h']
  exact ⟨y, rfl, e.symm⟩
theorem Like.two {M : List Vn} {x y : Vn} (h : Like M [x, y]) : ∃ a b, M = [a, b] ∧ a.p = x.p ∧ b.p = y.p := by
  obtain ⟨z, s, rfl, e, h'⟩ := Like.cons h.symm
  obtain ⟨b, rfl, e2⟩ := Like.one h'.symm
  exact ⟨z, b, rfl, e.symm, e2⟩
abbrev alV0 : Vn := ⟨2, 0, none, 0, [], 0⟩
abbrev alV1 : Vn := ⟨1, 0, none, 0, [], 3⟩
abbrev alU0 : Vn := ⟨1, 0, none, 0, [], 0⟩
theorem al_upto : uptoV [alV0, alV1] 2 = [alU0, alV0] := by rfl
theorem al_chg : chgV [alV0, alV1] 2 3 = [alV1] := by rfl
theorem al_mrg : (mrgV [alU0, alV0] [alV1]).length = 2 := by rfl
theorem al_mis : misV [⟨1, 0⟩] [] = [⟨1, 0⟩] := by rfl
theorem Lvn.at0 {N : Nat} {ra : Option Addr} {rc : Nat} {x : Vn} {L : List Vn} {W : World} (h : Lvn N ra rc (x :: L) W) : ∃ g o, ra = some ⟨g, o, none⟩ ∧ ∀ W', Kp [] W W' → W'.cell? ⟨g, o, none⟩ = some (.int .u64 x.ep) ∧ W'.cell? ⟨g, o + 3, none⟩ = some (.int .u64 x.del) := by
  obtain ⟨g, o, e, c0, c1, c2, c3⟩ := idAt h.see (i := 0) (x := x) rfl
  rw [Nat.zero_mul, Nat.add_zero] at c0 c3
  exact ⟨g, o, e, fun W' k => ⟨kpAt k c0, kpAt k c3⟩⟩
set_option maxHeartbeats 16000000 in
set_option maxRecDepth 100000 in
theorem cAliveR (w : World) : Calls Try.prog 12 #[] w fun e w' => e = .returned (.bool true) ∧ Kp [] w w' := by
  obtain ⟨w1, hw1, k1, b1⟩ : ∃ x, w.alloc (.cells #[.int .u64 2, .int .u32 0, .slice none 0 0, .int .u64 0, .int .u64 1, .int .u32 0, .slice none 0 0, .int .u64 3] 34) = x ∧ Kp [] w x ∧ Bn x w.heap.size (VnE.cs [alV0, alV1]) := ⟨_, rfl, (Kp.refl _ _).alloc _, Bn.new w _ _⟩
  obtain ⟨q, hq⟩ : ∃ q, w.heap.size = q := ⟨_, rfl⟩
  rw [hq] at b1
  have hsee : VnE.See w1 (some ⟨q, 0, none⟩) [alV0, alV1] := .inr ⟨q, 0, rfl, fun j u hu => by rw [Nat.zero_add]; exact b1.get j u hu⟩
  have hok : ∀ W, ∀ x ∈ [alV0, alV1], VnOk W x := fun W x hx => by
    rcases List.mem_cons.1 hx with rfl | hx
    · exact ⟨.inl rfl, Nat.le_refl _, fun _ => rfl, by decide⟩
    · rw [List.mem_singleton.1 hx]; exact ⟨.inl rfl, Nat.le_refl _, fun _ => rfl, by decide⟩
  have cU := hid (fun W (k : Kp [] w1 W) => cUpto (some ⟨q, 0, none⟩) 2 [alV0, alV1] 2 W (hsee.keptNew k) (fun e => by cases e) (by decide) (hok W))
  have cC := hid (fun W (k : Kp [] w1 W) => cChanges (some ⟨q, 0, none⟩) 2 [alV0, alV1] 2 3 W (hsee.keptNew k) (fun e => by cases e) (by decide) (hok W))
  rw [al_upto] at cU
  rw [al_chg] at cC
  simp only [List.length_cons, List.length_nil, Nat.reduceAdd] at cU cC
  have K1 := hid k1
  have cU1 := hid (cU.out w1 (Kp.refl _ _))
  clear k1 b1 hsee hok cU
  go_enter Try.func12, Try.ntmps12
  go_wp2_with fail
  refine cU1.out.mono ?_
  rintro e w2 ⟨ra, rc, M, rfl, hlv, hlk, k2⟩
  obtain ⟨m0, m1, rfl, e0, e1⟩ := Like.two hlk
  have HL := hid hlv
  have K2 := hid k2
  have cC2 := hid (cC.out w2 k2)
  clear cU1 cC hlv hlk k2
  simp only [List.length_cons, List.length_nil, Nat.reduceAdd]
  go_wp2_with fail
  refine cC2.out.mono ?_
  rintro e w3 ⟨rb, rd, N, rfl, hlv3, hlk3, k3⟩
  obtain ⟨n0, rfl, e3⟩ := Like.one hlk3
  have K3 := hid (K2.out.trans k3 (by simp))
  have HL2 := hid (HL.out.kp k3)
  obtain ⟨g, o, rfl, hA⟩ := HL2.out.at0
  obtain ⟨g2, o2, rfl, hB⟩ := hlv3.at0
  obtain ⟨x0, x3⟩ := hA w3 (Kp.refl _ _)
  obtain ⟨y0, y3⟩ := hB w3 (Kp.refl _ _)
  rw [show m0.ep = 1 from p_ep e0] at x0
  rw [show m0.del = 0 from p_del e0] at x3
  rw [show n0.del = 3 from p_del e3] at y3
  have hR : ∀ x ∈ [m0, m1] ++ [n0], VnR x := fun x hx => by
    simp at hx
    rcases hx with rfl | rfl | rfl
    · exact ⟨by rw [show x.ep = 1 from p_ep e0]; omega, by rw [show x.num = 0 from p_num e0]; omega, by rw [show x.del = 0 from p_del e0]; omega⟩
    · exact ⟨by rw [show x.ep = 2 from p_ep e1]; omega, by rw [show x.num = 0 from p_num e1]; omega, by rw [show x.del = 0 from p_del e1]; omega⟩
    · exact ⟨by rw [show x.ep = 1 from p_ep e3]; omega, by rw [show x.num = 0 from p_num e3]; omega, by rw [show x.del = 3 from p_del e3]; omega⟩
  have cM := hid (cMerged (some ⟨g, o, none⟩) (some ⟨g2, o2, none⟩) rc rd [m0, m1] [n0] w3 HL2.out.see (fun e => by cases e) hlv3.see (fun e => by cases e) (by simp) (fun x hx => by
    rcases List.mem_append.1 hx with hx | hx
    · exact HL2.out.ok x hx
    · exact hlv3.ok x hx) hR)
  have hml : Hid (∀ M : List Vn, Like M (mrgV [m0, m1] [n0]) → M.length = 2) := hid fun M h => by
    have h1 : Like (mrgV [m0, m1] [n0]) (mrgV [alU0, alV0] [alV1]) := mrg_like (Like.mk e0 (Like.mk e1 rfl)) (Like.mk e3 rfl)
    rw [h.len, h1.len, al_mrg]
  simp only [List.length_cons, List.length_nil, Nat.reduceAdd] at cM
  clear cC2 hlv3 hlk3 k3 hA hB hR e0 e1 e3
  simp only [List.length_cons, List.length_nil, Nat.reduceAdd]
  go_wp2_with fail
  refine cM.out.mono ?_
  rintro e w4 ⟨rm, rmc, MM, rfl, hlv4, hlk4, k4⟩
  have hmm := hml.out MM hlk4
  have K4 := hid (K3.out.trans k4 (by simp))
  obtain ⟨w5, hw5, k5, b5⟩ : ∃ x, w4.alloc (.cells #[.int .i64 1, .int .i64 0] 50) = x ∧ Kp [] w4 x ∧ Bn x w4.heap.size (SgE.cs [⟨1, 0⟩]) := ⟨_, rfl, (Kp.refl _ _).alloc _, Bn.new w4 _ _⟩
  obtain ⟨q5, hq5⟩ : ∃ q, w4.heap.size = q := ⟨_, rfl⟩
  rw [hq5] at b5
  have hsee5 : SgE.See w5 (some ⟨q5, 0, none⟩) [⟨1, 0⟩] := .inr ⟨q5, 0, rfl, fun j u hu => by rw [Nat.zero_add]; exact b5.get j u hu⟩
  have cS := hid (cMissing (some ⟨q5, 0, none⟩) none 1 0 [⟨1, 0⟩] [] w5 hsee5 (.inl rfl) (by decide) (by decide) (fun x hx => by rw [List.mem_singleton.1 hx]; exact ⟨⟨by decide, by decide⟩, ⟨by decide, by decide⟩⟩) (by simp))
  rw [al_mis] at cS
  simp only [List.length_cons, List.length_nil, Nat.reduceAdd] at cS
  have K5 := hid (K4.out.trans k5 (by simp))
  clear cM hml hlv4 hlk4 k4 k5 b5 hsee5 x0 x3 y0 y3
  rw [hmm]
  go_wp2_with fail
  refine cS.out.mono ?_
  rintro e w6 ⟨rs, rsc, rfl, hrs, k6, _⟩
  have K6 := hid ((K1.out.trans K5.out (by simp)).trans k6 (by simp))
  clear cS hrs k6
  simp only [List.length_cons, List.length_nil, Nat.reduceAdd]
  go_wp2_with fail
  go_ret
  exact ⟨rfl, K6.out⟩
end Go.Proofs.Ytebkkdoggagcdaa
end

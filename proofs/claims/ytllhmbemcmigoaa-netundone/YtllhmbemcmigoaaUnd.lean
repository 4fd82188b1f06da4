/- What was sent last, or doubled, and is dropped at once, is not seen any more: the law answers true, for every room, every script and every call. -/
import Derived.Test.YtllhmbemcmigoaaB7
import Derived.Test.YtllhmbemcmigoaaB2
import Derived.Test.YtllhmbemcmigoaaB3
import Derived.SizedLaws
import Derived.JoinedCond
import Derived.Deep.CondSized
section
namespace Go.Proofs.Ytllhmbemcmigoaa
open Go.RowKit Go.Hay
set_option linter.unusedVariables false
set_option linter.unusedSimpArgs false

/-- What a call that lays one in tells, and leaves. -/
def Laid (n : Nt) (x : Nt × Int) : Prop := (x.1 = n ∧ x.2 ≠ 0) ∨ ∃ m, x.1 = { n with l := n.l ++ [m] } ∧ x.2 = 0
theorem laidPut (n : Nt) (m : Msg) : Laid n (putN n m) := by
  unfold putN
  split
  · exact .inl ⟨rfl, by simp⟩
  · exact .inr ⟨m, rfl, rfl⟩
theorem laidDbl (n : Nt) (i : Int) : Laid n (dblN n i) := by
  unfold dblN
  cases atN n i with
  | none => exact .inl ⟨rfl, by simp⟩
  | some m => exact laidPut n m
theorem drop_laid (n : Nt) (m : Msg) : dropN { n with l := n.l ++ [m] } (n.l.length : Int) = n ∧ (atN { n with l := n.l ++ [m] } (n.l.length : Int)).isSome = true := by
  constructor
  · unfold dropN
    rw [if_pos (by omega)]
    simp [List.eraseIdx_append_of_length_le]
  · rw [atN_nat]; simp
theorem box4N (o : NOp) (w : World) : ∃ wb, w.alloc (.cells #[.int .i64 o.kind, .int .i64 o.to, .int .i64 o.n, .slice o.raw.a o.raw.bs.length o.raw.c] 39) = wb ∧ Kp [] w wb ∧ wb.cell? ⟨w.heap.size, 0, none⟩ = some (.int .i64 o.kind) ∧ wb.cell? ⟨w.heap.size, 1, none⟩ = some (.int .i64 o.to) ∧ wb.cell? ⟨w.heap.size, 2, none⟩ = some (.int .i64 o.n) ∧ wb.cell? ⟨w.heap.size, 3, none⟩ = some (.slice o.raw.a o.raw.bs.length o.raw.c) ∧ wb.heap.size = w.heap.size + 1 :=
  ⟨_, rfl, (Kp.refl _ _).alloc _, World.cell?_alloc_new w _ _ 0, World.cell?_alloc_new w _ _ 1, World.cell?_alloc_new w _ _ 2, World.cell?_alloc_new w _ _ 3, by simp⟩
set_option maxHeartbeats 16000000 in
set_option maxRecDepth 100000 in
theorem undWalk (room : Int) (a : Option Addr) (c : Nat) (l : List NOp) (o : NOp) (W : World) (hs1 : NOpE.See W a l) (hok1 : ∀ o ∈ l, o.ok W) (hfew : ∀ o ∈ l, FewO o) (hn1 : l.length ≤ 3000000000000) (hoo : o.ok W) (hof : FewO o) :
    Calls Try.prog 6 #[.int .i64 room, .slice a l.length c, o.v] W (fun e W' => e = .returned (.bool true) ∧ Below W.heap.size W W') := by
  obtain ⟨Wb, hWb, kb, y0, y1, y2, y3, hzb⟩ := box4N o W
  have hWb' := hid hWb
  have hzb' := hid hzb
  simp only [NOp.v]
  clear hWb hzb
  go_enter Try.func6, Try.ntmps6
  go_wp2_with fail
  rw [hWb'.out]
  refine (cBegun room Wb).mono ?_
  rintro e w1 ⟨p, rfl, hN1, k1, hp⟩
  have a2 := cRNew room w1
  go_wp2_with fail
  refine a2.mono ?_
  rintro e w2 ⟨v, rfl, r, rfl, hr2, hL2, k2, hft2⟩
  have P2 := pnNew hN1 k1 hp hr2 hL2 k2 hft2
  have a3 := cRunN P2 (by intro m hm; simp at hm) (m0 := 0) (by simp) a c l (hs1.keptNew kb) (fun x hx => (hok1 x hx).kept (S := []) kb (by simp)) hfew (by omega)
  obtain ⟨room', la', lc', l'⟩ := r
  simp only [RN.v] at *
  clear P2 hN1 hr2 hL2 hft2 a2
  go_wp2_with fail
  refine a3.mono ?_
  rintro e w3 ⟨p', v', n, r, rfl, P, hBn, hln⟩
  clear a3
  obtain ⟨w4, hw4, k4, bx, hz4⟩ := boxN r w3
  have hw4' := hid hw4
  have P4 := P.keep k4
  have z0 := cell_kp P4.kp y0
  have z1 := cell_kp P4.kp y1
  have z2 := cell_kp P4.kp y2
  have z3 := cell_kp P4.kp y3
  have hq5 : W.heap.size ∉ p' :: own v' := fun h => by have := P.nw _ h; have := hzb'.out; omega
  have hq9 : w3.heap.size ∉ p' :: own v' := fun h => by have := P.D.ltAll _ h; omega
  have hr9 : w3.heap.size ∉ r.foot := fun h => by have := P.R.lt _ h; omega
  have hW4 : Kp [] W w4 := kb.trans P4.kp (by simp)
  have hsend := cSend P4.D (by omega) o.to o.raw.a o.raw.c o.raw.bs ((hoo.raw.see).kept hW4 (by simp))
  have hdbl := cDouble P4.D (by omega) o.n
  have hl1 := laidPut n ⟨o.to, o.raw.bs⟩
  have hl2 := laidDbl n o.n
  -- behind the call that lays one in
  have hA : Hid (∀ (x : Nt × Int) w5 v5, Laid n x → Net w5 p' v5 x.1 → Wrote p' v' w4 v5 w5 →
      (x.2 ≠ 0 → Calls Try.prog 12 #[.pointer (some ⟨p', 0, none⟩), r.v] w5 (fun e w' => e = .returned (.bool true) ∧ Kp [] W w')) ∧
      (x.2 = 0 → Calls Try.prog 18 #[.pointer (some ⟨p', 0, none⟩)] w5 (fun e w' => e = .returned (.int .i64 ((n.l.length : Int) + 1)) ∧ w' = w5) ∧
        Calls Try.prog 17 #[.pointer (some ⟨p', 0, none⟩), .int .i64 (n.l.length : Int)] w5 (fun e w' => e = .returned (.bool true) ∧ B2 w' w3.heap.size (.int .i64 r.room) (.slice r.la r.l.length r.lc) ∧ Calls Try.prog 12 #[.pointer (some ⟨p', 0, none⟩), r.v] w' (fun e w'' => e = .returned (.bool true) ∧ Kp [] W w''))) ∧
      B2 w5 w3.heap.size (.int .i64 r.room) (.slice r.la r.l.length r.lc)) := fun x w5 v5 hl hN hw => by
    have hR5 : RnOk w5 r := P4.R.kept hw.kp (fun k hk h => P4.ap k hk h)
    have kW5 : Kp [] W w5 := hW4.trans hw.kp (fun k hk => .inr (by have := P4.nw k hk; have := hzb'.out; omega))
    have b5 := bx.keptS hw.kp hq9
    rcases hl with ⟨e1, e2⟩ | ⟨m, e1, e2⟩
    · rw [e1] at hN
      exact ⟨fun _ => (cStandsN hN hBn (by omega) r hR5 P4.L.l).mono fun e w' h => ⟨h.1, kW5.trans h.2 (by simp)⟩, fun h => absurd h e2, b5⟩
    · rw [e1] at hN
      refine ⟨fun h => absurd e2 h, fun _ => ⟨?_, ?_⟩, b5⟩
      · have := cLen hN
        simpa using this
      · obtain ⟨d1, d2⟩ := drop_laid n m
        have hd := cDrop hN (by simp; omega) (n.l.length : Int)
        rw [d1, d2] at hd
        refine hd.mono ?_
        rintro e w6 ⟨v6, rfl, hN6, hw6⟩
        have hkn : ∀ k ∈ p' :: own v5, k ∈ p' :: own v' ∨ w4.heap.size ≤ k := fun k hk => by
          rcases List.mem_cons.1 hk with rfl | hk
          · exact .inl (by simp)
          · exact (hw.new k hk).imp (fun h => by simp [h]) id
        have k46 : Kp (p' :: own v') w4 w6 := hw.kp.trans hw6.kp hkn
        have hR6 : RnOk w6 r := P4.R.kept k46 (fun k hk h => P4.ap k hk h)
        have kW6 : Kp [] W w6 := hW4.trans k46 (fun k hk => .inr (by have := P4.nw k hk; have := hzb'.out; omega))
        exact ⟨rfl, bx.keptS k46 hq9, (cStandsN hN6 hBn (by omega) r hR6 P4.L.l).mono fun e w' h => ⟨h.1, kW6.trans h.2 (by simp)⟩⟩
  obtain ⟨n1, hn1'⟩ : ∃ n1, Hid (n1 = putN n ⟨o.to, o.raw.bs⟩) := ⟨_, rfl⟩
  obtain ⟨n2, hn2'⟩ : ∃ n2, Hid (n2 = dblN n o.n) := ⟨_, rfl⟩
  rw [← hn1'.out] at hsend hl1
  rw [← hn2'.out] at hdbl hl2
  obtain ⟨room', la', lc', l'⟩ := r
  simp only [RN.v] at *
  obtain ⟨N, hN⟩ : ∃ N, Hid (n.l.length = N) := ⟨_, rfl⟩
  rw [hN.out] at hA hln
  have b0 := bx.c0; have b1 := bx.c1
  have x0 := cell_kp P.kp y0
  have x1 := cell_kp P.kp y1
  have x2 := cell_kp P.kp y2
  have x3 := cell_kp P.kp y3
  have hlt3 : W.heap.size < w3.heap.size := by have := P.kp.size; have := hzb'.out; omega
  clear P P4 hw4 y0 y1 y2 y3 z0 z1 z2 z3
  by_cases hk : o.kind = 0
  · rw [hk] at x0 ⊢
    clear hk hdbl
    go_wp2_with fail
    rw [hw4'.out]
    refine hsend.mono ?_
    rintro e w5 ⟨v5, rfl, hN5, hw5⟩
    clear hsend
    obtain ⟨f1, f2, f3⟩ := hA.out n1 w5 v5 hl1 hN5 hw5
    have d0 := f3.c0; have d1 := f3.c1
    clear b0 b1 hN5 hw5
    obtain ⟨n1a, x⟩ := n1
    simp only at *
    by_cases hx : x = 0
    · obtain ⟨g1, g2⟩ := f2 hx
      subst hx
      clear f1 f2 d0 d1
      go_wp2_with (first | (refine g1.mono ?_; rintro e w6 ⟨rfl, rfl⟩) | (refine g2.mono ?_; rintro e w7 ⟨rfl, c7, g3⟩; have t0 := c7.c0; have t1 := c7.c1) | fail)
      refine g3.mono ?_
      rintro e w8 ⟨rfl, k8⟩
      go_wp2_with fail
      go_ret
      exact ⟨rfl, k8.below⟩
    · have g1 := f1 hx
      have ex : (x != 0) = true := by simpa using hx
      have ex2 : (x == 0) = false := by simpa using hx
      clear f1 f2
      go_wp2_with fail
      refine g1.mono ?_
      rintro e w8 ⟨rfl, k8⟩
      go_wp2_with fail
      go_ret
      exact ⟨rfl, k8.below⟩
  · have ek : (o.kind == 0) = false := by simpa using hk
    clear hk hsend
    go_wp2_with fail
    rw [hw4'.out]
    refine hdbl.mono ?_
    rintro e w5 ⟨v5, rfl, hN5, hw5⟩
    clear hdbl
    obtain ⟨f1, f2, f3⟩ := hA.out n2 w5 v5 hl2 hN5 hw5
    have d0 := f3.c0; have d1 := f3.c1
    clear b0 b1 hN5 hw5
    obtain ⟨n1a, x⟩ := n2
    simp only at *
    by_cases hx : x = 0
    · obtain ⟨g1, g2⟩ := f2 hx
      subst hx
      clear f1 f2 d0 d1
      go_wp2_with (first | (refine g1.mono ?_; rintro e w6 ⟨rfl, rfl⟩) | (refine g2.mono ?_; rintro e w7 ⟨rfl, c7, g3⟩; have t0 := c7.c0; have t1 := c7.c1) | fail)
      refine g3.mono ?_
      rintro e w8 ⟨rfl, k8⟩
      go_wp2_with fail
      go_ret
      exact ⟨rfl, k8.below⟩
    · have g1 := f1 hx
      have ex : (x != 0) = true := by simpa using hx
      have ex2 : (x == 0) = false := by simpa using hx
      clear f1 f2
      go_wp2_with fail
      refine g1.mono ?_
      rintro e w8 ⟨rfl, k8⟩
      go_wp2_with fail
      go_ret
      exact ⟨rfl, k8.below⟩
end Go.Proofs.Ytllhmbemcmigoaa
end

section
namespace Go.Proofs.Ytllhmbemcmigoaa
open Go.ChangeShapes Go.WideShapes Go.ChangeAt Go.RowKit Go.Hay
set_option linter.unusedVariables false
set_option linter.unusedSimpArgs false

set_option maxRecDepth 100000 in
theorem openNopV {H : Type} {enc : TypeId × Value → H} {W : World} {base : Nat} {v : Value} {d : DataW H} {ps : List MemPlace} (hv : Value.okWide Try.prog W .any base 39 v)
    (h : DataW.Trod enc Try.prog W 0 (fun _ => true) true 39 v d ps) : ∃ y : NOp, v = y.v ∧ y.ok W ∧ (Fit 39 d → FewO y) := by
  obtain ⟨cs, rfl, hsz⟩ := okWide_struct Try.underlying39 hv
  rw [cellsO] at hsz
  obtain ⟨fuel, hf⟩ := h
  obtain ⟨l⟩ := cs
  have hf' : DataW.trod enc Try.prog W 0 (fun _ => true) true fuel 39 l = some (d, ps) := hf
  obtain ⟨y, h1, h2, h3, _⟩ := openNop hf' (by simpa using hsz)
  subst h2
  exact ⟨y, rfl, h1, h3⟩
theorem cellsNWays : Try.prog.cellsOf 34 = 3 := by kernel_rfl
theorem cellsNOps : Try.prog.cellsOf 22 = 1 := by kernel_rfl
theorem openNSl {H : Type} {enc : TypeId × Value → H} {W : World} {fuel : Nat} {c : Value} {x : DataW H × List MemPlace} (h : DataW.trod enc Try.prog W 0 (fun _ => true) true fuel 22 [c] = some x) :
    ∃ (a : Option Addr) (cap : Nat) (l : List NOp), c = .slice a l.length cap ∧ NOpE.See W a l ∧ (∀ y ∈ l, y.ok W) ∧ (Fit 22 x.1 → l.length ≤ 3000000000000 ∧ ∀ y ∈ l, FewO y) := by
  have hv : ∃ a len cap, c = .slice a len cap := by
    rcases Go.Deep.open_slice Try.underlying22 h with ⟨hcs, _⟩ | ⟨a, len, cap, _, _, _, _, hcs, _⟩
    · exact ⟨none, 0, 0, by simpa using hcs⟩
    · exact ⟨_, _, _, by simpa using hcs⟩
  obtain ⟨a, len, cap, rfl⟩ := hv
  obtain ⟨l, rfl, hs, hok, hl, _, _, hfit, hb, hc⟩ := openNops (d := x.1) (ps := x.2) ⟨_, h⟩
  exact ⟨a, cap, l, rfl, hs, hok, fun hf => ⟨by have := (hfit hf).1; omega, (hfit hf).2⟩⟩
set_option maxRecDepth 100000 in
theorem openNWays {H : Type} {enc : TypeId × Value → H} {W : World} {base : Nat} {v : Value} {d : DataW H} {ps : List MemPlace} (hv : Value.okWide Try.prog W .any base 34 v)
    (h : DataW.Trod enc Try.prog W 0 (fun _ => true) true 34 v d ps) : ∃ (a0 : Option Addr) (c0 : Nat) (l0 : List NOp) (a1 : Option Addr) (c1 : Nat) (l1 : List NOp) (a2 : Option Addr) (c2 : Nat) (l2 : List NOp), v = .agg #[.slice a0 l0.length c0, .slice a1 l1.length c1, .slice a2 l2.length c2] ∧
      (NOpE.See W a0 l0 ∧ (∀ y ∈ l0, y.ok W)) ∧ (NOpE.See W a1 l1 ∧ (∀ y ∈ l1, y.ok W)) ∧ (NOpE.See W a2 l2 ∧ (∀ y ∈ l2, y.ok W)) ∧
      (Fit 34 d → (l0.length ≤ 3000000000000 ∧ ∀ y ∈ l0, FewO y) ∧ (l1.length ≤ 3000000000000 ∧ ∀ y ∈ l1, FewO y) ∧ (l2.length ≤ 3000000000000 ∧ ∀ y ∈ l2, FewO y)) := by
  obtain ⟨cs, rfl, hsz⟩ := okWide_struct Try.underlying34 hv
  rw [cellsNWays] at hsz
  obtain ⟨fuel, hf⟩ := h
  obtain ⟨l⟩ := cs
  match l, hsz, hf with
  | [c0, c1, c2], _, hf =>
    have hf' : DataW.trod enc Try.prog W 0 (fun _ => true) true fuel 34 [c0, c1, c2] = some (d, ps) := hf
    obtain ⟨xs, n, _, he, _, hlen, hff⟩ := DataW.trod_struct Try.underlying34 hf'
    match xs, hlen with
    | [y0, y1, y2], _ =>
      have h0 := hff 0 _ rfl
      have h1 := hff 1 _ rfl
      have h2 := hff 2 _ rfl
      simp [cellsNOps] at h0 h1 h2
      obtain ⟨a0, k0, l0, e0, s0, o0, f0⟩ := openNSl h0
      obtain ⟨a1, k1, l1, e1, s1, o1, f1⟩ := openNSl h1
      obtain ⟨a2, k2, l2, e2, s2, o2, f2⟩ := openNSl h2
      subst e0 e1 e2
      have hd : d = DataW.agg (List.map (fun x => x.fst) [y0, y1, y2]) := congrArg Prod.fst he
      refine ⟨a0, k0, l0, a1, k1, l1, a2, k2, l2, rfl, ⟨s0, o0⟩, ⟨s1, o1⟩, ⟨s2, o2⟩, fun hfit => ?_⟩
      rw [hd] at hfit
      have hin : ∀ z, (z ∈ DataW.weights Try.prog 22 y0.1 ∨ z ∈ DataW.weights Try.prog 22 y1.1 ∨ z ∈ DataW.weights Try.prog 22 y2.1) → decide (z ≤ reachBytes) = true := fun z hz => by
        refine List.all_eq_true.1 hfit z ?_
        simp only [List.map_cons, List.map_nil, DataW.weights, Try.underlying34]
        simp [DataW.weightsEach]
        exact hz
      exact ⟨f0 (List.all_eq_true.2 fun z hz => hin z (.inl hz)), f1 (List.all_eq_true.2 fun z hz => hin z (.inr (.inl hz))), f2 (List.all_eq_true.2 fun z hz => hin z (.inr (.inr hz)))⟩
end Go.Proofs.Ytllhmbemcmigoaa
end

section
namespace Go.Proofs.Ytllhmbemcmigoaa
open Go.ChangeShapes Go.WideShapes Go.ChangeAt Go.RowKit Go.Hay
set_option linter.unusedVariables false

set_option maxRecDepth 100000 in
theorem netUndoneContract (H : Type) (enc : TypeId × Value → H) (W : World) (base : Nat) (args : Array Value) (ds gs : List (DataW H)) (before : List MemPlace)
    (hval : ∀ (j : Nat) t v, Try.f6.params[j]? = some t → args[j]? = some v → Value.okWide Try.prog W .any base t v)
    (hW : DataW.Whole enc Try.prog Try.f6.params.toList Rows.netUndoneSpec.vars false W args.toList ds gs before)
    (hsz : (DataW.weightsEach Try.prog (Try.f6.params.toList ++ (OpenSpec.ofChange Rows.netUndoneSpec).bare.plain.varTypes Try.prog) (ds ++ gs)).all (· ≤ reachBytes) = true) :
    Calls Try.prog 6 args W fun e W' => ∃ v, e = .returned v ∧ Rows.netUndoneSpec.post enc Try.prog Try.f6 false true false false W args v W' := by
  have hW' := hW
  obtain ⟨p, q, hA0, hV, rfl, hfz, hnd⟩ := hW
  have hA : DataW.TrodAll enc Try.prog W 0 (fun _ => true) true Try.f6.params.toList args.toList ds p := hA0
  rw [Try.params6] at hA hval hsz
  obtain ⟨v0, vs0, d0, ds0, p0, q0, hargs, rfl, rfl, h0, r0⟩ := trodAll_cons hA
  obtain ⟨v1, vs1, d1, ds1, p1, q1, rfl, rfl, rfl, h1, r1⟩ := trodAll_cons r0
  obtain ⟨v2, vs2, d2, ds2, p2, q2, rfl, rfl, rfl, h2, r2⟩ := trodAll_cons r1
  obtain ⟨rfl, rfl, rfl⟩ := trodAll_nil r2
  obtain rfl : args = #[v0, v1, v2] := by cases args; simp_all
  obtain ⟨rfl, rfl⟩ := trodVars_none hV
  obtain ⟨a0, rfl, rfl, rfl, w0⟩ := open_int Try.underlying3 (hval 0 3 v0 rfl rfl) h0
  have hb0 := bounds_i64 w0
  obtain ⟨a1, len1, cap1, rfl⟩ := okWide_slice Try.underlying22 (hval 1 22 v1 rfl rfl)
  have k1 := h1
  have lt1 : ∀ x ∈ p1, x.block < W.heap.size := by obtain ⟨m, hm⟩ := k1; exact DataW.trod_lt m _ _ _ hm
  obtain ⟨l1, rfl, hs1, hok1, hl1, hm1, hn1, hfit1, hbk1, hcp1⟩ := openNops h1
  obtain ⟨hc1, hq1⟩ := hfit1 (List.all_eq_true.2 fun x hx => List.all_eq_true.1 hsz x (by simp [DataW.weightsEach]; first | exact .inl hx | exact .inr hx | exact .inr (.inl hx) | exact .inr (.inr hx) | exact hx))
  have k2 := h2
  have lt2 : ∀ x ∈ p2, x.block < W.heap.size := by obtain ⟨m, hm⟩ := k2; exact DataW.trod_lt m _ _ _ hm
  obtain ⟨y2, rfl, ok2, hfit2⟩ := openNopV (hval 2 39 v2 rfl rfl) h2
  have hq2 := hfit2 (List.all_eq_true.2 fun x hx => List.all_eq_true.1 hsz x (by simp [DataW.weightsEach]; first | exact .inl hx | exact .inr hx | exact .inr (.inl hx) | exact .inr (.inr hx) | exact hx))
  clear hA0
  refine (undWalk a0 a1 cap1 l1 y2 W hs1 hok1 hq1 (by omega) ok2 hq2).mono fun e W' ⟨he, bel⟩ => ?_
  subst he
  exact ⟨_, rfl, _, _, _, [], _, [], hW', trodAll_mk1 (shut_bool Try.underlying4 _), (trodAll_cons_mk (shut_int Try.underlying3 w0) (trodAll_cons_mk (Below.trod Try.laidOut (by kernel_rfl) (of_decide_eq_true (by kernel_rfl)) k1 bel lt1) (trodAll_cons_mk (Below.trod Try.laidOut (by kernel_rfl) (of_decide_eq_true (by kernel_rfl)) k2 bel lt2) trodAll_mk0))), rfl, bel.frame _, fun h => by cases h⟩

set_option maxRecDepth 100000 in
theorem netUndoneLifted (os : Os) (started : os.Started) (H : Type) (enc : TypeId × Value → H) :
    ReturnsInHanded {} Try.checked os 6 .any (Rows.netUndoneSpec.pre6 enc Try.prog Try.f6 Rows.netUndoneRow.domain false) (Rows.netUndoneSpec.post enc Try.prog Try.f6 false true false false) := by
  refine returnsInHanded_of_change_sized (C := Try.checked) Try.own started (by kernel_rfl) Try.func6
    (ChangeSpec.witness6 (enc := enc) (C := Try.checked) false ⟨#[], #[.int .i64 0, .slice none 0 0, .agg #[.int .i64 0, .int .i64 0, .int .i64 0, .slice none 0 0]], []⟩ 8 (by kernel_rfl) (by kernel_rfl) (by kernel_rfl) (by kernel_rfl)) ?_
  intro W base args ds gs before hval hW _ hsz _
  exact netUndoneContract H enc W base args ds gs before hval hW hsz

theorem NetUndone_holds : Rows.NetUndoneSaid :=
  OpenClaim.holds_of_wide 6 Try.f6 rfl rfl rfl rfl rfl rfl rfl ⟨rfl, rfl, rfl, rfl, rfl⟩ rfl rfl rfl rfl rfl (by kernel_rfl) Try.func6 (by kernel_rfl)
    (of_decide_eq_true (by kernel_rfl)) (by unfold Func.isWrapper; first | (rw [if_pos (by decide +kernel)]; kernel_rfl) | (rw [if_neg (by decide +kernel)]; exact ⟨rfl, rfl⟩))
    (fun os started H enc _ => netUndoneLifted os started H enc)

#print axioms NetUndone_holds
end Go.Proofs.Ytllhmbemcmigoaa
end

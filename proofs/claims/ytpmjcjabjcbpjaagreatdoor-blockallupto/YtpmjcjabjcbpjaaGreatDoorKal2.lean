/- The values of blocks one behind the other are all that can be read; where what is read is of bulk at most 1048576. -/
import Derived.Test.YtpmjcjabjcbpjaaGreatDoorKal1
import Derived.Test.YtpmjcjabjcbpjaaGreatDoorB3
import Derived.Test.YtpmjcjabjcbpjaaGreatDoorB19
import Derived.SizedLaws
import Derived.JoinedCond
import Derived.Deep.CondSized
section
namespace Go.Proofs.YtpmjcjabjcbpjaaGreatDoor
open Go.RowKit Go.Hay
attribute [local go_sem] Oper.semAt_some
set_option linter.unusedVariables false
set_option linter.unusedSimpArgs false
theorem neVV (v : Val) (w : World) : (binOp .neq 30 (.agg #[.int .i64 v.k, .bool v.b, .int .i64 v.n, .string v.t]) (.agg #[.int .i64 v.k, .bool v.b, .int .i64 v.n, .string v.t])).run Tryz.prog w = .ok (.bool false) w := by
  rw [run_neq_struct, run_equalIn_agg (ht := by kernel_rfl) (hp := by kernel_rfl)]
  simp [go_sem]
theorem results_cell_oneB {fn : Func} {t : Tmp} {tmps : Array Value} {w : World} {g : Nat} {v : Value} (h : fn.results = #[.cell t 4]) (hp : tmps.getD t undef = .pointer (some ⟨g, 0, none⟩)) (hc : w.cell? ⟨g, 0, none⟩ = some v) :
    (results fn tmps).run Tryz.prog w = .ok v w := by
  have hp' : tmps[t]?.getD undef = .pointer (some ⟨g, 0, none⟩) := by simpa using hp
  simp [results, h, hp', asAddr, loadVar, hc, go_sem]
theorem eqlFuncNil {P : Program} {t : TypeId} {ps rs : Array TypeId} {v : Bool} (h : P.underlying t = some (.func ps rs v)) (f : Fn) (fi ca : Array Value) (w : World) : (binOp .eql t (.func f fi ca) .nilFunc).run P w = .ok (.bool false) w := by
  have e0 : ∀ d : Nat, (Op.equalIn (d + 1) t (.func f fi ca) .nilFunc).run P w = .ok false w := fun d => by simp [Op.equalIn, run_underlying h]
  have e : (Op.equal t (.func f fi ca) .nilFunc).run P w = .ok false w := e0 9999
  simp only [binOp]
  simp [e]
set_option maxHeartbeats 64000000 in
set_option maxRecDepth 100000 in
theorem walkBA (a : Option Addr) (c : Nat) (bs : List UInt8) (lv : Int) (w : World) (ht0 : Tab w) (hs : Sees w a bs) (hl : bs.length ≤ c) (hm : c ≤ maxLen) (hb : bs.length ≤ 2000000) :
    CallsIn Fence.wide 9 Tryz.prog 3 #[.slice a bs.length c, .int .i64 lv] w fun e w' => e = .returned (.bool true) ∧ Kp [] w w' := by
  obtain ⟨w1, hw1, k1, b1⟩ : ∃ w1, w.alloc (.cells #[.int .i64 lv] 3) = w1 ∧ Kp [] w w1 ∧ Bx w1 w.heap.size [.int .i64 lv] := ⟨_, rfl, (Kp.refl _ _).alloc _, Bx.new w _ _⟩
  obtain ⟨w2, hw2, k2, b2⟩ : ∃ w2, w1.alloc (.cells #[.bool false] 4) = w2 ∧ Kp [] w1 w2 ∧ Bx w2 w1.heap.size [.bool false] := ⟨_, rfl, (Kp.refl _ _).alloc _, Bx.new w1 _ _⟩
  obtain ⟨q3, hq3⟩ : ∃ q, Hid (w.heap.size = q) := ⟨_, rfl⟩
  obtain ⟨q4, hq4⟩ : ∃ q, Hid (w1.heap.size = q) := ⟨_, rfl⟩
  rw [hq3.out] at b1
  rw [hq4.out] at b2
  have b12 := b1.kept k2 (by simp) (b1.lt (by simp))
  have kw2 := k1.trans k2 (by simp)
  have hq34 : q3 < q4 := by rw [← hq4.out]; exact b1.lt (by simp)
  have hq3w : w.heap.size ≤ q3 := by rw [hq3.out]; omega
  have cA := rAll a c bs w2 (hs.kept kw2 (by simp)) hl hm hb
  have hal : Hid (∀ W, Kp [] w W → Calls Tryz.prog 7 #[] W fun e w' => e = .returned (.bool true) ∧ Kp [] W w') := fun W k => bAlive W (ht0.kept k (by simp))
  have hcA : Hid (∀ W, Kp [] w W → Calls Tryz.prog 6 #[.slice a bs.length c] W (AllP bs W)) := fun W kW => cAll a c bs W (ht0.kept kW (by simp)) (hs.kept kW (by simp)) (by omega)
  have hVl := allV_len bs
  have hsq := hid (fun q a' c' W (h1 : bs.length ≤ c') (h2 : c' ≤ maxLen) hA => allSeq 8 (by omega) q a' c' bs h1 h2 (by omega) W hA)
  obtain ⟨V, hV⟩ : ∃ V, Hid (allV bs = V) := ⟨_, rfl⟩
  rw [hV.out] at cA hVl
  simp only [hV.out] at hsq
  have hVb : V.length ≤ 128000000 := by omega
  have H2 := hid (And.intro b12 (And.intro b2 kw2))
  clear hs ht0 k1 k2 b1 b2 b12 kw2 hV hVl
  refine callsIn_of_wp_marks Tryz.func3 rfl trivial ?_ rfl
  simp only [Tryz.ntmps3, List.size_toArray, List.length_cons, List.length_nil, Nat.reduceAdd, Nat.reduceSub, Array.replicate_succ, Array.replicate_zero, List.push_toArray, List.append_toArray, List.nil_append, List.cons_append]
  refine wpIn_wide.2 ?_
  have hq3' := hq3.out
  have hq4' := hq4.out
  go_wp2_with fail
  refine cA.mono ?_
  rintro e w3 ⟨aw, cw, rfl, hrow3, k3, hn3⟩
  obtain ⟨w5, hw5⟩ : ∃ w5, w3.alloc (.cells #[.slice aw V.length cw] 23) = w5 := ⟨_, rfl⟩
  have k5 : Kp [] w3 w5 := by rw [← hw5]; exact (Kp.refl _ _).alloc _
  obtain ⟨q5, hq5⟩ : ∃ q, Hid (w3.heap.size = q) := ⟨_, rfl⟩
  have b5 : Bx w5 q5 [.slice aw V.length cw] := by rw [← hw5, ← hq5.out]; exact Bx.new w3 [.slice aw V.length cw] _
  have k25 := k3.trans k5 (by simp)
  obtain ⟨hvw, hlw, hmw⟩ := rowVals hrow3
  have H5 := hid (And.intro (H2.out.1.kept k25 (by simp) (H2.out.1.lt (by simp))) (And.intro (H2.out.2.1.kept k25 (by simp) (H2.out.2.1.lt (by simp))) (And.intro b5 (And.intro (hvw.kept k5) (H2.out.2.2.trans k25 (by simp))))))
  have hv3 := hid hvw
  have kk5 := hid k5
  have hq45 : q4 < q5 := by rw [← hq5.out]; have := H2.out.2.1.lt (by simp); have := k3.size; omega
  have cB := hcA.out w5 H5.out.2.2.2.2
  have hq5' := hq5.out
  clear cA hrow3 k3 hn3 k5 b5 k25 hvw H2 hcA
  go_wp2_with fail
  refine cB.mono ?_
  rintro e w6 ⟨qb, ab, cb, rfl, hAt, hlb, hmb, k6, hqb, hbk⟩
  have H6 := hid (And.intro (H5.out.1.kept k6 (by simp) (H5.out.1.lt (by simp))) (And.intro (H5.out.2.1.kept k6 (by simp) (H5.out.2.1.lt (by simp))) (And.intro (H5.out.2.2.1.kept k6 (by simp) (H5.out.2.2.1.lt (by simp))) (And.intro (H5.out.2.2.2.1.kept k6) (H5.out.2.2.2.2.trans k6 (by simp))))))
  have hnf : ∀ W : World, (binOp .eql 26 (.func (.func 11) #[] #[.pointer (some ⟨qb, 0, none⟩)]) .nilFunc).run Tryz.prog W = .ok (.bool false) W := fun W => eqlFuncNil Tryz.underlying26 _ _ _ W
  have kk6 := hid (kk5.out.trans k6 (by simp))
  have hAt' := hid hAt
  have hq5b : q5 < qb := by have := H5.out.2.2.1.lt (by simp); omega
  clear cB hAt k6 H5 hw5 hq5' hw1 hw2 hq3' hq4'
  go_wp2_with fail
  refine (hal.out w6 H6.out.2.2.2.2).mono ?_
  rintro e w7 ⟨rfl, k7⟩
  have H7 := hid (And.intro (H6.out.1.kept k7 (by simp) (H6.out.1.lt (by simp))) (And.intro (H6.out.2.1.kept k7 (by simp) (H6.out.2.1.lt (by simp))) (And.intro (H6.out.2.2.1.kept k7 (by simp) (H6.out.2.2.1.lt (by simp))) (And.intro (H6.out.2.2.2.1.kept k7) (H6.out.2.2.2.2.trans k7 (by simp))))))
  have hA7 := hid (hAt'.out.kept (KeepB.ofKp k7 (by simp)))
  have hz7 := hid k7.size
  have kk7 := hid (kk6.out.trans k7 (by simp))
  obtain ⟨w8z, hw8z⟩ : ∃ w8, w7.alloc (.cells #[.int .i64 0] 3) = w8 := ⟨_, rfl⟩
  obtain ⟨q7, hq7⟩ : ∃ q, Hid (w7.heap.size = q) := ⟨_, rfl⟩
  have bz7 : Bx w8z q7 [.int .i64 0] := by rw [← hw8z, ← hq7.out]; exact Bx.new w7 [.int .i64 0] _
  have c7z := bz7.get 0 _ rfl
  have f7z := bz7.free 0
  obtain ⟨w8, hw8⟩ : ∃ w8, w8z.setCell ⟨q7, 0, none⟩ (.int .i64 0) = w8 := ⟨_, rfl⟩
  have b7 : Bx w8 q7 [.int .i64 0] := by rw [← hw8]; exact bz7.set 0 (by simp) _
  have k8 : Kp [] w7 w8 := by
    have kz : Kp [] w7 w8z := by rw [← hw8z]; exact (Kp.refl _ _).alloc _
    rw [← hw8]
    exact kz.setCell (.inr (by show w7.heap.size ≤ q7; rw [hq7.out]; omega)) _
  have H8 := hid (And.intro (H7.out.1.kept k8 (by simp) (H7.out.1.lt (by simp))) (And.intro (H7.out.2.1.kept k8 (by simp) (H7.out.2.1.lt (by simp))) (And.intro (H7.out.2.2.1.kept k8 (by simp) (H7.out.2.2.1.lt (by simp))) (And.intro (H7.out.2.2.2.1.kept k8) (And.intro (H7.out.2.2.2.2.trans k8 (by simp)) b7)))))
  have kk8 := hid (kk7.out.trans k8 (by simp))
  have hbk7 : Hid (∀ j ∈ bk ab bs, j < w7.heap.size) := fun j hj => by
    unfold bk at hj
    split at hj
    · simp at hj
    · rename_i hne; exact hA7.out.sees.lt hne j hj
  have hA8 := hid (hA7.out.kept (KeepB.ofKp k8 (by simp)))
  have hqb7 : qb < q7 := by rw [← hq7.out]; exact World.block_lt_of_cell? _ _ hA7.out.box
  have hq7' := hq7.out
  clear k7 H6 hAt' k8 b7 bz7 H7 hA7
  go_wp2_with fail
  refine (wpIn_wide (n := 9)).1 ?_
  have hseq := hsq.out qb ab cb w8 hlb hmb hA8.out
  have hz78 : q7 < w8.heap.size := H8.out.2.2.2.2.2.lt (by simp)
  have hjs0 : ∀ j ∈ 0 :: qb :: bk ab bs, j ≠ q7 ∧ j ≠ w8.heap.size ∧ j ≠ w8.heap.size + 1 := fun j hj => by
    have hlt : j < q7 := by
      simp only [List.mem_cons] at hj
      rcases hj with rfl | rfl | hj
      · omega
      · exact hqb7
      · rw [← hq7.out]; exact hbk7.out j hj
    omega
  refine wpRangeY rfl (by omega) (gf := 11) (lb := #[.pointer (some ⟨qb, 0, none⟩)]) rfl trivial (enters_of Tryz.func11 (by kernel_rfl) rfl)
    hseq (fun _ => rfl) KeepA.trans (fun s W o => KeepA.alloc s W o) (KeepA.refl _ _)
    (CoI w8 q7) (fun _ _ _ => False) (CoI.own hz78) (fun _ _ _ _ _ h _ _ => h) ⟨⟨rfl, rfl, rfl, Nat.le_refl _, fun _ _ _ => rfl, fun h => (by cases h), hjs0⟩, H8.out.2.2.2.2.2.get 0 _ rfl, H8.out.2.2.2.2.2.free 0⟩
    (fun s s' A B h ht k o hk ho => h.co.keeps ht k o hk ho) (fun _ _ _ _ h => h.elim) (fun s s' A B hz h ht => h.step hz78 hz ht) (fun _ _ _ _ h => h.elim)
    (fun s W o' h => h.co.recs o') (fun s x W o' h => CoX.recs (s := s) ⟨h.co.os, h.co.tape, h.co.output, h.co.size, h.co.low, h.co.mde, h.co.js⟩ o') (fun _ _ _ _ _ h => h.elim)
    (fun x => .cells #[.int .i64 x.v.k, .bool x.v.b, .int .i64 x.v.n, .string x.v.t] 30)
    (fun x q => { tmps := #[.slice a bs.length c, .int .i64 lv, undef, .pointer (some ⟨q3, 0, none⟩), .pointer (some ⟨q4, 0, none⟩), .pointer (some ⟨q5, 0, none⟩), .func (.func 11) #[] #[.pointer (some ⟨qb, 0, none⟩)], .pointer (some ⟨q7, 0, none⟩), .int .i64 (x.i : Int), .pointer (some ⟨q, 0, none⟩), undef, undef, .slice a bs.length c, .slice aw V.length cw, .slice a bs.length c, .func (.func 11) #[] #[.pointer (some ⟨qb, 0, none⟩)], .func (.func 11) #[] #[.pointer (some ⟨qb, 0, none⟩)], .bool false, .bool false, .bool true, .bool false, .bool false, .func (.func 11) #[] #[.pointer (some ⟨qb, 0, none⟩)], .int .i64 (x.i : Int), .agg #[.int .i64 x.v.k, .bool x.v.b, .int .i64 x.v.n, .string x.v.t], undef, undef, undef, undef, undef, undef, undef, undef, undef, undef, undef, undef, undef, undef, undef, undef, undef, undef, undef, undef, undef, undef, undef, undef, undef, undef, undef, undef, undef, undef, undef, undef, undef, undef, undef, undef, undef, undef, undef, undef, undef, undef, undef, undef], defers := [] }) ?assign ?body ?done ?stop
  case assign =>
    intro l x W C hC
    gi_wp2_with fail
    exact hC
  case body =>
    rintro l s ⟨ix, ⟨vk, vb, vn, vt⟩⟩ W q hI ⟨hxi, hxv⟩ hob hq2
    simp only at hxi hxv hob ⊢
    obtain ⟨i, hi⟩ : ∃ i : Nat, Hid (s.i = i) := ⟨_, rfl⟩
    rw [hxi, hi.out]
    rw [hi.out] at hxv
    have hcnt := hI.cnt
    rw [hi.out] at hcnt
    have hiV : i < V.length := (List.getElem?_eq_some_iff.1 hxv).1
    have kW := hI.co.kp
    have b5 := H8.out.2.2.1.kept kW (by simp; omega) (H8.out.2.2.1.lt (by simp))
    obtain ⟨g, o, ea, c0, c1, c2, c3⟩ := hv3.out.at i hiV
    have eV : V[i] = ⟨vk, vb, vn, vt⟩ := by have := List.getElem?_eq_some_iff.1 hxv; exact this.2
    rw [eV] at c0 c1 c2 c3
    dsimp only at c0 c1 c2 c3
    have hg3 : g < w3.heap.size := World.block_lt_of_cell? _ _ c0
    have hgq : g ≠ q7 := by have := hq5.out; omega
    have hmv : ∀ z v, w3.cell? ⟨g, z, none⟩ = some v → W.cell? ⟨g, z, none⟩ = some v := fun z v hv => by
      have h1 := kpAt kk8.out hv
      exact (kW.cell (p := ⟨g, z, none⟩) (World.block_lt_of_cell? _ _ h1) (by simpa using hgq)).trans h1
    have y0 := hmv _ _ c0; have y1 := hmv _ _ c1; have y2 := hmv _ _ c2; have y3 := hmv _ _ c3
    subst ea
    have hbx : ∀ z : Nat, W.cell? ⟨q, z, none⟩ = (#[.int .i64 vk, .bool vb, .int .i64 vn, .string vt] : Array Value)[z]? := fun z => by
      unfold World.cell?
      simp [hob]
    have s5 := b5.get 0 _ rfl
    have hS0 : (fun A : World => (A.cell? ⟨q7, 0, none⟩ = some (.int .i64 (i : Int)) ∧ A.cell? ⟨q5, 0, none⟩ = some (.slice (some ⟨g, o, none⟩) V.length cw)) ∧ (A.cell? ⟨q, 0, none⟩ = some (.int .i64 vk) ∧ A.cell? ⟨q, 1, none⟩ = some (.bool vb) ∧ A.cell? ⟨q, 2, none⟩ = some (.int .i64 vn) ∧ A.cell? ⟨q, 3, none⟩ = some (.string vt)) ∧ (A.cell? ⟨g, o + i * 4, none⟩ = some (.int .i64 vk) ∧ A.cell? ⟨g, o + i * 4 + 1, none⟩ = some (.bool vb) ∧ A.cell? ⟨g, o + i * 4 + 2, none⟩ = some (.int .i64 vn) ∧ A.cell? ⟨g, o + i * 4 + 3, none⟩ = some (.string vt))) W.drew := ⟨⟨hcnt, s5⟩, ⟨hbx 0, hbx 1, hbx 2, hbx 3⟩, y0, y1, y2, y3⟩
    have nV := neVV ⟨vk, vb, vn, vt⟩
    dsimp only at nV
    have hq7q : q7 ≠ q := by omega
    have di1 : ((i : Int) != (i : Int)) = false := by simp
    have di2 : ¬ (V.length : Int) ≤ (i : Int) := by omega
    have di3 : decide ((V.length : Int) ≤ (i : Int)) = false := by simp; omega
    have di6 : decide (V.length ≤ i) = false := by simp; omega
    have di4 : (i : Int) < (V.length : Int) := by omega
    have di5 : (0 : Int) ≤ (i : Int) := by omega
    have hfree : W.drew.frozen? ⟨q7, 0, none⟩ = false := hI.free
    have di7 : (-9223372036854775808 : Int) ≤ (i : Int) + 1 := by omega
    have di8 : (i : Int) + 1 ≤ 9223372036854775807 := by omega
    have hIo := hid hI
    have hcl : Hid (W.heap[q7]?.map Obj.isCells = some true) := by
      show _ = _
      have := hcnt
      unfold World.cell? at this
      cases e : W.heap[q7]? with
      | none => rw [e] at this; cases this
      | some ob => rw [e] at this; cases ob <;> simp_all [Obj.isCells]
    have kd : Kp [] W W.drew := (Kp.refl _ _).drew
    have hkd := hid kd
    clear hI hmv hbx b5 s5 y0 y1 y2 y3 c0 c1 c2 c3 eV hxv hob hcnt kd kW
    gi_wp2_with fail
    refine region_round (fun A => (A.cell? ⟨q7, 0, none⟩ = some (.int .i64 (i : Int)) ∧ A.cell? ⟨q5, 0, none⟩ = some (.slice (some ⟨g, o, none⟩) V.length cw)) ∧ (A.cell? ⟨q, 0, none⟩ = some (.int .i64 vk) ∧ A.cell? ⟨q, 1, none⟩ = some (.bool vb) ∧ A.cell? ⟨q, 2, none⟩ = some (.int .i64 vn) ∧ A.cell? ⟨q, 3, none⟩ = some (.string vt)) ∧ (A.cell? ⟨g, o + i * 4, none⟩ = some (.int .i64 vk) ∧ A.cell? ⟨g, o + i * 4 + 1, none⟩ = some (.bool vb) ∧ A.cell? ⟨g, o + i * 4 + 2, none⟩ = some (.int .i64 vn) ∧ A.cell? ⟨g, o + i * 4 + 3, none⟩ = some (.string vt))) (by kernel_rfl) (by kernel_rfl) (by rintro ⟨_, _, hlo⟩; exact hlo) ?_ (fun hHeld => ?_)
    · exact hS0
    clear hHeld
    have hHeld : (fun A : World => (A.cell? ⟨q7, 0, none⟩ = some (.int .i64 (i : Int)) ∧ A.cell? ⟨q5, 0, none⟩ = some (.slice (some ⟨g, o, none⟩) V.length cw)) ∧ (A.cell? ⟨q, 0, none⟩ = some (.int .i64 vk) ∧ A.cell? ⟨q, 1, none⟩ = some (.bool vb) ∧ A.cell? ⟨q, 2, none⟩ = some (.int .i64 vn) ∧ A.cell? ⟨q, 3, none⟩ = some (.string vt)) ∧ (A.cell? ⟨g, o + i * 4, none⟩ = some (.int .i64 vk) ∧ A.cell? ⟨g, o + i * 4 + 1, none⟩ = some (.bool vb) ∧ A.cell? ⟨g, o + i * 4 + 2, none⟩ = some (.int .i64 vn) ∧ A.cell? ⟨g, o + i * 4 + 3, none⟩ = some (.string vt))) W.drew := hS0
    dsimp only at hHeld
    clear hS0
    generalize W.drew = wd at *
    refine wpAnyH_take (i := 0) (v := ?_) rfl (by kernel_rfl) (by kernel_rfl) (by kernel_rfl) (fun _ _ _ h => h) (Or.inl ⟨by rfl, ?_⟩) (by assumption) ?_
    rotate_left
    · intro w hSw; (try dsimp only at hSw); go_simp <;> with_reducible rfl
    try simp only [Act.put, List.getElem_toArray, List.getElem_cons_zero, List.getElem_cons_succ, List.setIfInBounds_toArray, List.set_cons_zero, List.set_cons_succ]
    refine wpAnyH_take (i := 1) (v := ?_) rfl (by kernel_rfl) (by kernel_rfl) (by kernel_rfl) (fun _ _ _ h => h) (Or.inl ⟨by rfl, ?_⟩) (by assumption) ?_
    rotate_left
    · intro w hSw; (try dsimp only at hSw); go_simp <;> with_reducible rfl
    try simp only [Act.put, List.getElem_toArray, List.getElem_cons_zero, List.getElem_cons_succ, List.setIfInBounds_toArray, List.set_cons_zero, List.set_cons_succ]
    try simp only [di1]
    refine wpAnyH_take (i := 2) (v := ?_) rfl (by kernel_rfl) (by kernel_rfl) (by kernel_rfl) (fun _ _ _ h => h) (Or.inl ⟨by rfl, ?_⟩) (by assumption) ?_
    rotate_left
    · intro w hSw; (try dsimp only at hSw); go_simp <;> with_reducible rfl
    try simp only [Act.put, List.getElem_toArray, List.getElem_cons_zero, List.getElem_cons_succ, List.setIfInBounds_toArray, List.set_cons_zero, List.set_cons_succ]
    try simp only [di1]
    refine wpAnyH_take (i := 3) (v := ?_) rfl (by kernel_rfl) (by kernel_rfl) (by kernel_rfl) (fun _ _ _ h => h) (Or.inl ⟨by rfl, ?_⟩) (by assumption) ?_
    rotate_left
    · intro w hSw; (try dsimp only at hSw); go_simp <;> with_reducible rfl
    try simp only [Act.put, List.getElem_toArray, List.getElem_cons_zero, List.getElem_cons_succ, List.setIfInBounds_toArray, List.set_cons_zero, List.set_cons_succ]
    try simp only [di1]
    refine wpAnyH_take (i := 4) (v := ?_) rfl (by kernel_rfl) (by kernel_rfl) (by kernel_rfl) (fun _ _ _ h => h) (Or.inl ⟨by rfl, ?_⟩) (by assumption) ?_
    rotate_left
    · intro w hSw; (try dsimp only at hSw); go_simp <;> with_reducible rfl
    try simp only [Act.put, List.getElem_toArray, List.getElem_cons_zero, List.getElem_cons_succ, List.setIfInBounds_toArray, List.set_cons_zero, List.set_cons_succ]
    refine wpAnyH_take (i := 5) (v := ?_) rfl (by kernel_rfl) (by kernel_rfl) (by kernel_rfl) (fun _ _ _ h => h) (Or.inl ⟨by rfl, ?_⟩) (by assumption) ?_
    rotate_left
    · intro w hSw; (try dsimp only at hSw); go_simp <;> with_reducible rfl
    try simp only [Act.put, List.getElem_toArray, List.getElem_cons_zero, List.getElem_cons_succ, List.setIfInBounds_toArray, List.set_cons_zero, List.set_cons_succ]
    refine wpAnyH_take (i := 6) (v := ?_) rfl (by kernel_rfl) (by kernel_rfl) (by kernel_rfl) (fun _ _ _ h => h) (Or.inl ⟨by rfl, ?_⟩) (by assumption) ?_
    rotate_left
    · intro w hSw; (try dsimp only at hSw); go_simp <;> with_reducible rfl
    try simp only [Act.put, List.getElem_toArray, List.getElem_cons_zero, List.getElem_cons_succ, List.setIfInBounds_toArray, List.set_cons_zero, List.set_cons_succ]
    refine wpAnyH_take (i := 7) (v := ?_) rfl (by kernel_rfl) (by kernel_rfl) (by kernel_rfl) (fun _ _ _ h => h) (Or.inl ⟨by rfl, ?_⟩) (by assumption) ?_
    rotate_left
    · intro w hSw; (try dsimp only at hSw); go_simp <;> with_reducible rfl
    try simp only [Act.put, List.getElem_toArray, List.getElem_cons_zero, List.getElem_cons_succ, List.setIfInBounds_toArray, List.set_cons_zero, List.set_cons_succ]
    try simp only [di3, di6, di2]
    refine wpAnyH_take (i := 8) (v := ?_) rfl (by kernel_rfl) (by kernel_rfl) (by kernel_rfl) (fun _ _ _ h => h) (Or.inl ⟨by rfl, ?_⟩) (by assumption) ?_
    rotate_left
    · intro w hSw; (try dsimp only at hSw); go_simp <;> with_reducible rfl
    try simp only [Act.put, List.getElem_toArray, List.getElem_cons_zero, List.getElem_cons_succ, List.setIfInBounds_toArray, List.set_cons_zero, List.set_cons_succ]
    try simp only [di3, di6, di2]
    refine wpAnyH_take (i := 9) (v := ?_) rfl (by kernel_rfl) (by kernel_rfl) (by kernel_rfl) (fun _ _ _ h => h) (Or.inl ⟨by rfl, ?_⟩) (by assumption) ?_
    rotate_left
    · intro w hSw; (try dsimp only at hSw); go_simp <;> with_reducible rfl
    try simp only [Act.put, List.getElem_toArray, List.getElem_cons_zero, List.getElem_cons_succ, List.setIfInBounds_toArray, List.set_cons_zero, List.set_cons_succ]
    try simp only [di3, di6, di2]
    refine wpAnyH_take (i := 10) (v := ?_) rfl (by kernel_rfl) (by kernel_rfl) (by kernel_rfl) (fun _ _ _ h => h) (Or.inl ⟨by rfl, ?_⟩) (by assumption) ?_
    rotate_left
    · intro w hSw; (try dsimp only at hSw); go_simp <;> with_reducible rfl
    try simp only [Act.put, List.getElem_toArray, List.getElem_cons_zero, List.getElem_cons_succ, List.setIfInBounds_toArray, List.set_cons_zero, List.set_cons_succ]
    refine wpAnyH_take (i := 11) (v := ?_) rfl (by kernel_rfl) (by kernel_rfl) (by kernel_rfl) (fun _ _ _ h => h) (Or.inl ⟨by rfl, ?_⟩) (by assumption) ?_
    rotate_left
    · intro w hSw; (try dsimp only at hSw); go_simp <;> with_reducible rfl
    try simp only [Act.put, List.getElem_toArray, List.getElem_cons_zero, List.getElem_cons_succ, List.setIfInBounds_toArray, List.set_cons_zero, List.set_cons_succ]
    refine wpAnyH_take (i := 12) (v := ?_) rfl (by kernel_rfl) (by kernel_rfl) (by kernel_rfl) (fun _ _ _ h => h) (Or.inl ⟨by rfl, ?_⟩) (by assumption) ?_
    rotate_left
    · intro w hSw; (try dsimp only at hSw); go_simp <;> with_reducible rfl
    try simp only [Act.put, List.getElem_toArray, List.getElem_cons_zero, List.getElem_cons_succ, List.setIfInBounds_toArray, List.set_cons_zero, List.set_cons_succ]
    refine wpAnyH_take (i := 13) (v := ?_) rfl (by kernel_rfl) (by kernel_rfl) (by kernel_rfl) (fun _ _ _ h => h) (Or.inl ⟨by rfl, ?_⟩) (by assumption) ?_
    rotate_left
    · intro w hSw; (try dsimp only at hSw); go_simp <;> with_reducible rfl
    try simp only [Act.put, List.getElem_toArray, List.getElem_cons_zero, List.getElem_cons_succ, List.setIfInBounds_toArray, List.set_cons_zero, List.set_cons_succ]
    refine wpAnyH_take (i := 14) (v := ?_) rfl (by kernel_rfl) (by kernel_rfl) (by kernel_rfl) (fun _ _ _ h => h) (Or.inl ⟨by rfl, ?_⟩) (by assumption) ?_
    rotate_left
    · intro w hSw; (try dsimp only at hSw); go_simp <;> with_reducible rfl
    try simp only [Act.put, List.getElem_toArray, List.getElem_cons_zero, List.getElem_cons_succ, List.setIfInBounds_toArray, List.set_cons_zero, List.set_cons_succ]
    refine wpAnyH_take (i := 15) (v := ?_) rfl (by kernel_rfl) (by kernel_rfl) (by kernel_rfl) (fun _ _ _ h => h) (Or.inl ⟨by rfl, ?_⟩) (by assumption) ?_
    rotate_left
    · intro w hSw; (try dsimp only at hSw); go_simp <;> with_reducible rfl
    try simp only [Act.put, List.getElem_toArray, List.getElem_cons_zero, List.getElem_cons_succ, List.setIfInBounds_toArray, List.set_cons_zero, List.set_cons_succ]
    refine wpAnyH_take (i := 16) (v := ?_) rfl (by kernel_rfl) (by kernel_rfl) (by kernel_rfl) (fun _ _ _ h => h) (Or.inl ⟨by rfl, ?_⟩) (by assumption) ?_
    rotate_left
    · intro w hSw; (try dsimp only at hSw); go_simp <;> with_reducible rfl
    try simp only [Act.put, List.getElem_toArray, List.getElem_cons_zero, List.getElem_cons_succ, List.setIfInBounds_toArray, List.set_cons_zero, List.set_cons_succ]
    refine wpAnyH_done (by kernel_rfl) ?_ _
    have hc7 := hHeld.1.1
    gi_wp2_with fail
    have kY : Kp [q7] W (wd.setCell ⟨q7, 0, none⟩ (.int .i64 ((i : Int) + 1))) := (hkd.out.mono (by simp)).setCell (.inl (by simp)) _
    obtain ⟨r1, r2, r3⟩ := hIo.out.co.round (x := ⟨i, ⟨vk, vb, vn, vt⟩⟩) kY hcl.out
    refine ⟨r1, r2, r3, ?_, (World.frozen?_setCell _ _ _ _).trans hfree⟩
    rw [World.cell?_setCell_same _ _ _ hc7]
    simp [Sa.nx, hi.out]
  case done =>
    rintro D s X hD ⟨hmd, hsi⟩ hI hrec
    have hcX := hI.cnt
    rw [hsi] at hcX
    have kX := hI.co.kp
    have hfX := hI.free
    have hAX := hid (hA8.out.kept (KeepB.ofKp kX (fun j hj => by simpa using (hjs0 j hj).1)))
    have hzX := kX.size
    have HX := hid (And.intro (H8.out.1.kept kX (by simp; omega) (H8.out.1.lt (by simp))) (And.intro (H8.out.2.1.kept kX (by simp; omega) (H8.out.2.1.lt (by simp))) (And.intro (H8.out.2.2.1.kept kX (by simp; omega) (H8.out.2.2.1.lt (by simp))) (H8.out.2.2.2.2.1.trans kX (by simp; omega)))))
    clear hI kX
    obtain ⟨X1z, hX1z⟩ : ∃ y, X.alloc (.cells #[.int .i64 0] 3) = y := ⟨_, rfl⟩
    obtain ⟨q9, hq9⟩ : ∃ q, Hid (X.heap.size = q) := ⟨_, rfl⟩
    have bz9 : Bx X1z q9 [.int .i64 0] := by rw [← hX1z, ← hq9.out]; exact Bx.new X [.int .i64 0] _
    have cz9 := bz9.get 0 _ rfl
    have fz9 := bz9.free 0
    obtain ⟨X1, hX1⟩ : ∃ y, X1z.setCell ⟨q9, 0, none⟩ (.int .i64 0) = y := ⟨_, rfl⟩
    have b9 : Bx X1 q9 [.int .i64 0] := by rw [← hX1]; exact bz9.set 0 (by simp) _
    have k9 : Kp [] X X1 := by
      have kz : Kp [] X X1z := by rw [← hX1z]; exact (Kp.refl _ _).alloc _
      rw [← hX1]
      exact kz.setCell (.inr (by show X.heap.size ≤ q9; rw [hq9.out]; omega)) _
    have hq9' := hq9.out
    have HX1 := hid (And.intro (HX.out.1.kept k9 (by simp) (HX.out.1.lt (by simp))) (And.intro (HX.out.2.1.kept k9 (by simp) (HX.out.2.1.lt (by simp))) (And.intro (HX.out.2.2.1.kept k9 (by simp) (HX.out.2.2.1.lt (by simp))) (And.intro (HX.out.2.2.2.trans k9 (by simp)) b9))))
    have hA1 := hid (hAX.out.kept (KeepB.ofKp k9 (by simp)))
    have hc1 := hid (kpAt k9 hcX)
    have hD1 := hid ((k9.block D (Array.getElem?_eq_some_iff.1 hrec).1 (by simp)).trans hrec)
    have hDX := (Array.getElem?_eq_some_iff.1 hrec).1
    have hz9 : q9 < X1.heap.size := b9.lt (by simp)
    have hqq : q7 < q9 := by rw [← hq9.out]; omega
    have hjs1 : ∀ j ∈ 0 :: qb :: bk ab bs, j ≠ q9 ∧ j ≠ X1.heap.size ∧ j ≠ X1.heap.size + 1 := fun j hj => by
      have hlt : j < q7 := by
        simp only [List.mem_cons] at hj
        rcases hj with rfl | rfl | hj
        · omega
        · exact hqb7
        · rw [← hq7.out]; exact hbk7.out j hj
      omega
    clear k9 b9 bz9 HX hAX hrec hcX
    go_wp2_with fail
    refine (wpIn_wide (n := 9)).1 ?_
    refine wpRangeX rfl (by omega) (gf := 11) (lb := #[.pointer (some ⟨qb, 0, none⟩)]) rfl trivial (enters_of Tryz.func11 (by kernel_rfl) rfl)
      (hsq.out qb ab cb X1 hlb hmb hA1.out) (fun _ => rfl) KeepA.trans (fun s W o => KeepA.alloc s W o) (KeepA.refl _ _)
      (CoI X1 q9) (fun c s W => c = .exit 2 ∧ CoX X1 q9 s W) (CoI.own hz9) (fun _ _ _ _ _ h hg hr => ⟨h.1, h.2.grown hg hr⟩) ⟨⟨rfl, rfl, rfl, Nat.le_refl _, fun _ _ _ => rfl, fun h => (by cases h), hjs1⟩, HX1.out.2.2.2.2.get 0 _ rfl, HX1.out.2.2.2.2.free 0⟩
      (fun s s' A B h ht k o hk ho => h.co.keeps ht k o hk ho) (fun _ _ _ _ h ht k o hk ho => h.2.keepsX ht k o hk ho) (fun s s' A B hz h ht => h.step hz9 hz ht) (fun _ _ _ _ h ht => ⟨h.1, h.2.stepX ht⟩)
      (fun s W o' h => h.co.recs o') (fun s x W o' h => CoX.recs (s := s) ⟨h.co.os, h.co.tape, h.co.output, h.co.size, h.co.low, h.co.mde, h.co.js⟩ o') (fun c s x W o' h => CoX.recs (s := s) ⟨h.2.os, h.2.tape, h.2.output, h.2.size, h.2.low, h.2.mde, h.2.js⟩ o')
      (fun x => { tmps := #[.slice a bs.length c, .int .i64 lv, undef, .pointer (some ⟨q3, 0, none⟩), .pointer (some ⟨q4, 0, none⟩), .pointer (some ⟨q5, 0, none⟩), .func (.func 11) #[] #[.pointer (some ⟨qb, 0, none⟩)], .pointer (some ⟨q7, 0, none⟩), undef, undef, .pointer (some ⟨q9, 0, none⟩), undef, .slice a bs.length c, .slice aw V.length cw, .slice a bs.length c, .func (.func 11) #[] #[.pointer (some ⟨qb, 0, none⟩)], .func (.func 11) #[] #[.pointer (some ⟨qb, 0, none⟩)], .bool false, .bool false, .bool true, .bool false, .bool false, .func (.func 11) #[] #[.pointer (some ⟨qb, 0, none⟩)], undef, undef, undef, undef, undef, undef, undef, undef, undef, undef, undef, undef, undef, undef, undef, undef, undef, undef, undef, undef, undef, .func (.func 11) #[] #[.pointer (some ⟨qb, 0, none⟩)], .int .i64 (x.i : Int), .agg #[.int .i64 x.v.k, .bool x.v.b, .int .i64 x.v.n, .string x.v.t], undef, undef, undef, undef, undef, undef, undef, undef, undef, undef, undef, undef, undef, undef, undef, undef, undef, undef, undef, undef, undef, undef], defers := [] }) ?assign2 ?body2 ?done2 ?stop2
    case assign2 =>
      intro l x W C hC
      gi_wp2_with fail
      exact hC
    case body2 =>
      rintro l s ⟨ix, ⟨vk, vb, vn, vt⟩⟩ W hI ⟨hxi, hxv⟩
      simp only at hxi hxv ⊢
      obtain ⟨i, hi⟩ : ∃ i : Nat, Hid (s.i = i) := ⟨_, rfl⟩
      rw [hxi, hi.out]
      rw [hi.out] at hxv
      have hcnt := hI.cnt
      have hfree := hI.free
      rw [hi.out] at hcnt
      have hiV : i < V.length := (List.getElem?_eq_some_iff.1 hxv).1
      have kW := hI.co.kp
      have hIo := hid hI
      have hcl : Hid (W.heap[q9]?.map Obj.isCells = some true) := by
        show _ = _
        have := hcnt
        unfold World.cell? at this
        cases e : W.heap[q9]? with
        | none => rw [e] at this; cases this
        | some ob => rw [e] at this; cases ob <;> simp_all [Obj.isCells]
      have di7 : (-9223372036854775808 : Int) ≤ (i : Int) + 1 := by omega
      have di8 : (i : Int) + 1 ≤ 9223372036854775807 := by omega
      have s3 := (HX1.out.1.kept kW (by simp; omega) (HX1.out.1.lt (by simp))).get 0 _ rfl
      clear hI hxv kW
      by_cases hlv : (i : Int) = lv
      · have e1 : ((i : Int) == lv) = true := by simp [hlv]
        clear hlv
        gi_wp2_with fail
        obtain ⟨r1, r2, r3⟩ := hIo.out.co.round (x := ⟨i, ⟨vk, vb, vn, vt⟩⟩) (Kp.refl [q9] W) hcl.out
        exact ⟨r1, r2, rfl, r3⟩
      · have e1 : ((i : Int) == lv) = false := by simp [hlv]
        clear hlv
        gi_wp2_with fail
        have kY : Kp [q9] W (W.setCell ⟨q9, 0, none⟩ (.int .i64 ((i : Int) + 1))) := (Kp.refl _ _).setCell (.inl (by simp)) _
        obtain ⟨r1, r2, r3⟩ := hIo.out.co.round (x := ⟨i, ⟨vk, vb, vn, vt⟩⟩) kY hcl.out
        refine ⟨r1, r2, r3, ?_, (World.frozen?_setCell _ _ _ _).trans hfree⟩
        rw [World.cell?_setCell_same _ _ _ hcnt]
        simp [Sa.nx, hi.out]
    case done2 =>
      rintro D2 s2 X2 hD2 _ hI2 hrec2
      have kX2 := hI2.co.kp
      clear hI2
      have hzX2 := kX2.size
      have HX2 := hid (And.intro (HX1.out.2.1.kept kX2 (by simp; omega) (HX1.out.2.1.lt (by simp))) (And.intro (HX1.out.2.2.1.kept kX2 (by simp; omega) (HX1.out.2.2.1.lt (by simp))) (HX1.out.2.2.2.1.trans kX2 (by simp; omega))))
      have hA2 := hid (hA1.out.kept (KeepB.ofKp kX2 (fun j hj => by simpa using (hjs1 j hj).1)))
      have hc2 := hid ((kX2.cell (p := ⟨q7, 0, none⟩) (World.block_lt_of_cell? _ _ hc1.out) (by simp; omega)).trans hc1.out)
      have hDq : D ≠ q9 := by rw [← hq9.out]; omega
      have hD2' := hid ((kX2.block D (Array.getElem?_eq_some_iff.1 hD1.out).1 (by simpa using hDq)).trans hD1.out)
      have hDX2 := (Array.getElem?_eq_some_iff.1 hrec2).1
      clear kX2
      obtain ⟨X3z, hX3z⟩ : ∃ y, X2.alloc (.cells #[.int .i64 0] 3) = y := ⟨_, rfl⟩
      obtain ⟨qk, hqk⟩ : ∃ q, Hid (X2.heap.size = q) := ⟨_, rfl⟩
      have bz11 : Bx X3z qk [.int .i64 0] := by rw [← hX3z, ← hqk.out]; exact Bx.new X2 [.int .i64 0] _
      have cz11 := bz11.get 0 _ rfl
      have fz11 := bz11.free 0
      obtain ⟨X3, hX3⟩ : ∃ y, X3z.setCell ⟨qk, 0, none⟩ (.int .i64 0) = y := ⟨_, rfl⟩
      have b11 : Bx X3 qk [.int .i64 0] := by rw [← hX3]; exact bz11.set 0 (by simp) _
      have k11 : Kp [] X2 X3 := by
        have kz : Kp [] X2 X3z := by rw [← hX3z]; exact (Kp.refl _ _).alloc _
        rw [← hX3]
        exact kz.setCell (.inr (by show X2.heap.size ≤ qk; rw [hqk.out]; omega)) _
      have hqk' := hqk.out
      have HX3 := hid (And.intro (HX2.out.1.kept k11 (by simp) (HX2.out.1.lt (by simp))) (And.intro (HX2.out.2.1.kept k11 (by simp) (HX2.out.2.1.lt (by simp))) (And.intro (HX2.out.2.2.trans k11 (by simp)) b11)))
      have hA3 := hid (hA2.out.kept (KeepB.ofKp k11 (by simp)))
      have hc3 := hid (kpAt k11 hc2.out)
      have hD3 := hid ((k11.block D (Array.getElem?_eq_some_iff.1 hD2'.out).1 (by simp)).trans hD2'.out)
      have hE3 := hid ((k11.block D2 hDX2 (by simp)).trans hrec2)
      have hz11 : qk < X3.heap.size := b11.lt (by simp)
      have hqk : q9 < qk := by rw [← hqk.out]; omega
      have hDk : D < qk := by rw [← hqk'] ; exact (Array.getElem?_eq_some_iff.1 hD2'.out).1
      have hEk : D2 < qk := by rw [← hqk'] ; exact hDX2
      have hjs3 : ∀ j ∈ 0 :: qb :: bk ab bs, j ≠ qk ∧ j ≠ X3.heap.size ∧ j ≠ X3.heap.size + 1 := fun j hj => by
        have hlt : j < q7 := by
          simp only [List.mem_cons] at hj
          rcases hj with rfl | rfl | hj
          · omega
          · exact hqb7
          · rw [← hq7.out]; exact hbk7.out j hj
        omega
      clear k11 b11 bz11 HX2 hA2 hrec2 hc2 hD2' hc1 hD1 HX1 hA1
      go_wp2_with fail
      refine (wpIn_wide (n := 9)).1 ?_
      refine wpRangeX rfl (by omega) (gf := 11) (lb := #[.pointer (some ⟨qb, 0, none⟩)]) rfl trivial (enters_of Tryz.func11 (by kernel_rfl) rfl)
        (hsq.out qb ab cb X3 hlb hmb hA3.out) (fun _ => rfl) KeepA.trans (fun s W o => KeepA.alloc s W o) (KeepA.refl _ _)
        (CoI X3 qk) (fun _ _ _ => False) (CoI.own hz11) (fun _ _ _ _ _ h _ _ => h) ⟨⟨rfl, rfl, rfl, Nat.le_refl _, fun _ _ _ => rfl, fun h => (by cases h), hjs3⟩, HX3.out.2.2.2.get 0 _ rfl, HX3.out.2.2.2.free 0⟩
        (fun s s' A B h ht k o hk ho => h.co.keeps ht k o hk ho) (fun _ _ _ _ h => h.elim) (fun s s' A B hz h ht => h.step hz11 hz ht) (fun _ _ _ _ h => h.elim)
        (fun s W o' h => h.co.recs o') (fun s x W o' h => CoX.recs (s := s) ⟨h.co.os, h.co.tape, h.co.output, h.co.size, h.co.low, h.co.mde, h.co.js⟩ o') (fun _ _ _ _ _ h => h.elim)
        (fun x => { tmps := #[.slice a bs.length c, .int .i64 lv, undef, .pointer (some ⟨q3, 0, none⟩), .pointer (some ⟨q4, 0, none⟩), .pointer (some ⟨q5, 0, none⟩), .func (.func 11) #[] #[.pointer (some ⟨qb, 0, none⟩)], .pointer (some ⟨q7, 0, none⟩), undef, undef, .pointer (some ⟨q9, 0, none⟩), .pointer (some ⟨qk, 0, none⟩), .slice a bs.length c, .slice aw V.length cw, .slice a bs.length c, .func (.func 11) #[] #[.pointer (some ⟨qb, 0, none⟩)], .func (.func 11) #[] #[.pointer (some ⟨qb, 0, none⟩)], .bool false, .bool false, .bool true, .bool false, .bool false, .func (.func 11) #[] #[.pointer (some ⟨qb, 0, none⟩)], undef, undef, undef, undef, undef, undef, undef, undef, undef, undef, undef, undef, undef, undef, undef, undef, undef, undef, undef, undef, undef, .func (.func 11) #[] #[.pointer (some ⟨qb, 0, none⟩)], undef, undef, undef, undef, undef, undef, undef, .func (.func 11) #[] #[.pointer (some ⟨qb, 0, none⟩)], .int .i64 (x.i : Int), .agg #[.int .i64 x.v.k, .bool x.v.b, .int .i64 x.v.n, .string x.v.t], undef, undef, undef, undef, undef, undef, undef, undef, undef, undef, undef, undef, undef, undef], defers := [] }) ?assign3 ?body3 ?done3 ?stop3
      case assign3 =>
        intro l x W C hC
        gi_wp2_with fail
        exact hC
      case body3 =>
        rintro l s ⟨ix, ⟨vk, vb, vn, vt⟩⟩ W hI ⟨hxi, hxv⟩
        simp only at hxi hxv ⊢
        obtain ⟨i, hi⟩ : ∃ i : Nat, Hid (s.i = i) := ⟨_, rfl⟩
        rw [hxi, hi.out]
        rw [hi.out] at hxv
        have hcnt := hI.cnt
        have hfree := hI.free
        rw [hi.out] at hcnt
        have hiV : i < V.length := (List.getElem?_eq_some_iff.1 hxv).1
        have kW := hI.co.kp
        have hIo := hid hI
        have hcl : Hid (W.heap[qk]?.map Obj.isCells = some true) := by
          show _ = _
          have := hcnt
          unfold World.cell? at this
          cases e : W.heap[qk]? with
          | none => rw [e] at this; cases this
          | some ob => rw [e] at this; cases ob <;> simp_all [Obj.isCells]
        have di7 : (-9223372036854775808 : Int) ≤ (i : Int) + 1 := by omega
        have di8 : (i : Int) + 1 ≤ 9223372036854775807 := by omega
        clear hI hxv kW
        gi_wp2_with fail
        have kY : Kp [qk] W (W.setCell ⟨qk, 0, none⟩ (.int .i64 ((i : Int) + 1))) := (Kp.refl _ _).setCell (.inl (by simp)) _
        obtain ⟨r1, r2, r3⟩ := hIo.out.co.round (x := ⟨i, ⟨vk, vb, vn, vt⟩⟩) kY hcl.out
        refine ⟨r1, r2, r3, ?_, (World.frozen?_setCell _ _ _ _).trans hfree⟩
        rw [World.cell?_setCell_same _ _ _ hcnt]
        simp [Sa.nx, hi.out]
      case stop3 =>
        rintro D4 c4 s4 X4 hD4 _ h _
        exact h.elim
      case done3 =>
        rintro D4 s4 X4 hD4 ⟨_, hs4⟩ hI4 hrec4
        have hck := hI4.cnt
        rw [hs4] at hck
        have kX4 := hI4.co.kp
        have HX4 := hid (And.intro (HX3.out.1.kept kX4 (by simp; omega) (HX3.out.1.lt (by simp))) (HX3.out.2.2.1.trans kX4 (by simp; omega)))
        have s5 := (HX3.out.2.1.kept kX4 (by simp; omega) (HX3.out.2.1.lt (by simp))).get 0 _ rfl
        have s7 := (kX4.cell (p := ⟨q7, 0, none⟩) (World.block_lt_of_cell? _ _ hc3.out) (by simp; omega)).trans hc3.out
        have hDf := hid (And.intro ((kX4.block D (by omega) (by simp; omega)).trans hD3.out) (And.intro ((kX4.block D2 (by omega) (by simp; omega)).trans hE3.out) hrec4))
        clear kX4 hI4 hrec4 hD3 hE3 HX3 hA3 hc3
        go_wp2_with fail
        refine (hal.out X4 HX4.out.2).mono ?_
        rintro e X5 ⟨rfl, kf⟩
        have z5 := kpAt kf s5
        have z7 := kpAt kf s7
        have zk := kpAt kf hck
        have b4 := HX4.out.1.kept kf (by simp) (HX4.out.1.lt (by simp))
        have z4 := b4.get 0 _ rfl
        have y4 := b4.free 0
        have kF := hid (HX4.out.2.trans kf (by simp))
        have hDg := hid (And.intro ((kf.block D (Array.getElem?_eq_some_iff.1 hDf.out.1).1 (by simp)).trans hDf.out.1) (And.intro ((kf.block D2 (Array.getElem?_eq_some_iff.1 hDf.out.2.1).1 (by simp)).trans hDf.out.2.1) ((kf.block D4 (Array.getElem?_eq_some_iff.1 hDf.out.2.2).1 (by simp)).trans hDf.out.2.2)))
        have ee1 : ((V.length : Int) == (V.length : Int)) = true := by simp
        clear s5 s7 hck b4 kf
        go_wp2_with fail
        have kY0 : Kp [q4] X5 (X5.setCell ⟨q4, 0, none⟩ (.bool true)) := (Kp.refl _ _).setCell (.inl (by simp)) _
        have hp : ∀ (A : World) (d : Nat), Kp [d] A (A.putObj d (.deferred none)) := fun A d => ⟨rfl, rfl, rfl, by simp, fun k hk hn => World.putObj_heap_other (by simpa using hn)⟩
        have o1 : q4 < D := by omega
        have o2 : D < D2 := by have := hq9.out; omega
        have o3 : D2 < D4 := by omega
        have g4 := (kY0.block D4 (Array.getElem?_eq_some_iff.1 hDg.out.2.2).1 (by simp; omega)).trans hDg.out.2.2
        have g2 := (kY0.block D2 (Array.getElem?_eq_some_iff.1 hDg.out.2.1).1 (by simp; omega)).trans hDg.out.2.1
        have g1 := (kY0.block D (Array.getElem?_eq_some_iff.1 hDg.out.1).1 (by simp; omega)).trans hDg.out.1
        have c4 : (X5.setCell ⟨q4, 0, none⟩ (.bool true)).cell? ⟨q4, 0, none⟩ = some (.bool true) := World.cell?_setCell_same _ _ _ z4
        have kY := kF.out.setCell (p := ⟨q4, 0, none⟩) (.inr (by show w.heap.size ≤ q4; omega)) (.bool true)
        generalize X5.setCell ⟨q4, 0, none⟩ (.bool true) = Y0 at *
        have g2' : (Y0.putObj D4 (.deferred none)).heap[D2]? = some (.deferred (some [])) := (World.putObj_heap_other (by omega)).trans g2
        have g1' : ((Y0.putObj D4 (.deferred none)).putObj D2 (.deferred none)).heap[D]? = some (.deferred (some [])) := (World.putObj_heap_other (by omega)).trans ((World.putObj_heap_other (by omega)).trans g1)
        have c4' : (((Y0.putObj D4 (.deferred none)).putObj D2 (.deferred none)).putObj D (.deferred none)).cell? ⟨q4, 0, none⟩ = some (.bool true) :=
          (World.cell?_of_block (a := ⟨q4, 0, none⟩) ((World.putObj_heap_other (by show _ ≠ _; simp; omega)).trans ((World.putObj_heap_other (by show _ ≠ _; simp; omega)).trans (World.putObj_heap_other (by show _ ≠ _; simp; omega))))).trans c4
        have kE := ((kY.trans (hp _ D4) (fun x hx => .inr (by simp at hx; omega))).trans (hp _ D2) (fun x hx => .inr (by simp at hx; omega))).trans (hp _ D) (fun x hx => .inr (by simp at hx; omega))
        refine ⟨by simp, .inl ⟨_, _, rfl, run_takeDeferred g4, ?_⟩⟩
        refine ⟨by simp, .inl ⟨_, _, rfl, run_takeDeferred g2', ?_⟩⟩
        refine ⟨by simp, .inl ⟨_, _, rfl, run_takeDeferred g1', ?_⟩⟩
        exact ⟨_, results_cell_oneB rfl rfl c4', rfl, kE⟩
    case stop2 =>
      rintro D2 c2 s2 X2 hD2 _ ⟨rfl, hI2⟩ hrec2
      have kX2 := hI2.kp
      clear hI2
      refine wpIn_wide.2 ?_
      have hzX2 := kX2.size
      have HX2 := hid (And.intro (HX1.out.2.1.kept kX2 (by simp; omega) (HX1.out.2.1.lt (by simp))) (And.intro (HX1.out.2.2.1.kept kX2 (by simp; omega) (HX1.out.2.2.1.lt (by simp))) (HX1.out.2.2.2.1.trans kX2 (by simp; omega))))
      have hA2 := hid (hA1.out.kept (KeepB.ofKp kX2 (fun j hj => by simpa using (hjs1 j hj).1)))
      have hc2 := hid ((kX2.cell (p := ⟨q7, 0, none⟩) (World.block_lt_of_cell? _ _ hc1.out) (by simp; omega)).trans hc1.out)
      have hDq : D ≠ q9 := by rw [← hq9.out]; omega
      have hD2' := hid ((kX2.block D (Array.getElem?_eq_some_iff.1 hD1.out).1 (by simpa using hDq)).trans hD1.out)
      have hDX2 := (Array.getElem?_eq_some_iff.1 hrec2).1
      clear kX2
      obtain ⟨X3z, hX3z⟩ : ∃ y, X2.alloc (.cells #[.int .i64 0] 3) = y := ⟨_, rfl⟩
      obtain ⟨qk, hqk⟩ : ∃ q, Hid (X2.heap.size = q) := ⟨_, rfl⟩
      have bz11 : Bx X3z qk [.int .i64 0] := by rw [← hX3z, ← hqk.out]; exact Bx.new X2 [.int .i64 0] _
      have cz11 := bz11.get 0 _ rfl
      have fz11 := bz11.free 0
      obtain ⟨X3, hX3⟩ : ∃ y, X3z.setCell ⟨qk, 0, none⟩ (.int .i64 0) = y := ⟨_, rfl⟩
      have b11 : Bx X3 qk [.int .i64 0] := by rw [← hX3]; exact bz11.set 0 (by simp) _
      have k11 : Kp [] X2 X3 := by
        have kz : Kp [] X2 X3z := by rw [← hX3z]; exact (Kp.refl _ _).alloc _
        rw [← hX3]
        exact kz.setCell (.inr (by show X2.heap.size ≤ qk; rw [hqk.out]; omega)) _
      have hqk' := hqk.out
      have HX3 := hid (And.intro (HX2.out.1.kept k11 (by simp) (HX2.out.1.lt (by simp))) (And.intro (HX2.out.2.1.kept k11 (by simp) (HX2.out.2.1.lt (by simp))) (And.intro (HX2.out.2.2.trans k11 (by simp)) b11)))
      have hA3 := hid (hA2.out.kept (KeepB.ofKp k11 (by simp)))
      have hc3 := hid (kpAt k11 hc2.out)
      have hD3 := hid ((k11.block D (Array.getElem?_eq_some_iff.1 hD2'.out).1 (by simp)).trans hD2'.out)
      have hE3 := hid ((k11.block D2 hDX2 (by simp)).trans hrec2)
      have hz11 : qk < X3.heap.size := b11.lt (by simp)
      have hqk : q9 < qk := by rw [← hqk.out]; omega
      have hDk : D < qk := by rw [← hqk'] ; exact (Array.getElem?_eq_some_iff.1 hD2'.out).1
      have hEk : D2 < qk := by rw [← hqk'] ; exact hDX2
      have hjs3 : ∀ j ∈ 0 :: qb :: bk ab bs, j ≠ qk ∧ j ≠ X3.heap.size ∧ j ≠ X3.heap.size + 1 := fun j hj => by
        have hlt : j < q7 := by
          simp only [List.mem_cons] at hj
          rcases hj with rfl | rfl | hj
          · omega
          · exact hqb7
          · rw [← hq7.out]; exact hbk7.out j hj
        omega
      clear k11 b11 bz11 HX2 hA2 hrec2 hc2 hD2' hc1 hD1 HX1 hA1
      go_wp2_with fail
      refine (wpIn_wide (n := 9)).1 ?_
      refine wpRangeX rfl (by omega) (gf := 11) (lb := #[.pointer (some ⟨qb, 0, none⟩)]) rfl trivial (enters_of Tryz.func11 (by kernel_rfl) rfl)
        (hsq.out qb ab cb X3 hlb hmb hA3.out) (fun _ => rfl) KeepA.trans (fun s W o => KeepA.alloc s W o) (KeepA.refl _ _)
        (CoI X3 qk) (fun _ _ _ => False) (CoI.own hz11) (fun _ _ _ _ _ h _ _ => h) ⟨⟨rfl, rfl, rfl, Nat.le_refl _, fun _ _ _ => rfl, fun h => (by cases h), hjs3⟩, HX3.out.2.2.2.get 0 _ rfl, HX3.out.2.2.2.free 0⟩
        (fun s s' A B h ht k o hk ho => h.co.keeps ht k o hk ho) (fun _ _ _ _ h => h.elim) (fun s s' A B hz h ht => h.step hz11 hz ht) (fun _ _ _ _ h => h.elim)
        (fun s W o' h => h.co.recs o') (fun s x W o' h => CoX.recs (s := s) ⟨h.co.os, h.co.tape, h.co.output, h.co.size, h.co.low, h.co.mde, h.co.js⟩ o') (fun _ _ _ _ _ h => h.elim)
        (fun x => { tmps := #[.slice a bs.length c, .int .i64 lv, undef, .pointer (some ⟨q3, 0, none⟩), .pointer (some ⟨q4, 0, none⟩), .pointer (some ⟨q5, 0, none⟩), .func (.func 11) #[] #[.pointer (some ⟨qb, 0, none⟩)], .pointer (some ⟨q7, 0, none⟩), undef, undef, .pointer (some ⟨q9, 0, none⟩), .pointer (some ⟨qk, 0, none⟩), .slice a bs.length c, .slice aw V.length cw, .slice a bs.length c, .func (.func 11) #[] #[.pointer (some ⟨qb, 0, none⟩)], .func (.func 11) #[] #[.pointer (some ⟨qb, 0, none⟩)], .bool false, .bool false, .bool true, .bool false, .bool false, .func (.func 11) #[] #[.pointer (some ⟨qb, 0, none⟩)], undef, undef, undef, undef, undef, undef, undef, undef, undef, undef, undef, undef, undef, undef, undef, undef, undef, undef, undef, undef, undef, .func (.func 11) #[] #[.pointer (some ⟨qb, 0, none⟩)], undef, undef, undef, undef, undef, undef, undef, .func (.func 11) #[] #[.pointer (some ⟨qb, 0, none⟩)], .int .i64 (x.i : Int), .agg #[.int .i64 x.v.k, .bool x.v.b, .int .i64 x.v.n, .string x.v.t], undef, undef, undef, undef, undef, undef, undef, undef, undef, undef, undef, undef, undef, undef], defers := [] }) ?assign3 ?body3 ?done3 ?stop3
      case assign3 =>
        intro l x W C hC
        gi_wp2_with fail
        exact hC
      case body3 =>
        rintro l s ⟨ix, ⟨vk, vb, vn, vt⟩⟩ W hI ⟨hxi, hxv⟩
        simp only at hxi hxv ⊢
        obtain ⟨i, hi⟩ : ∃ i : Nat, Hid (s.i = i) := ⟨_, rfl⟩
        rw [hxi, hi.out]
        rw [hi.out] at hxv
        have hcnt := hI.cnt
        have hfree := hI.free
        rw [hi.out] at hcnt
        have hiV : i < V.length := (List.getElem?_eq_some_iff.1 hxv).1
        have kW := hI.co.kp
        have hIo := hid hI
        have hcl : Hid (W.heap[qk]?.map Obj.isCells = some true) := by
          show _ = _
          have := hcnt
          unfold World.cell? at this
          cases e : W.heap[qk]? with
          | none => rw [e] at this; cases this
          | some ob => rw [e] at this; cases ob <;> simp_all [Obj.isCells]
        have di7 : (-9223372036854775808 : Int) ≤ (i : Int) + 1 := by omega
        have di8 : (i : Int) + 1 ≤ 9223372036854775807 := by omega
        clear hI hxv kW
        gi_wp2_with fail
        have kY : Kp [qk] W (W.setCell ⟨qk, 0, none⟩ (.int .i64 ((i : Int) + 1))) := (Kp.refl _ _).setCell (.inl (by simp)) _
        obtain ⟨r1, r2, r3⟩ := hIo.out.co.round (x := ⟨i, ⟨vk, vb, vn, vt⟩⟩) kY hcl.out
        refine ⟨r1, r2, r3, ?_, (World.frozen?_setCell _ _ _ _).trans hfree⟩
        rw [World.cell?_setCell_same _ _ _ hcnt]
        simp [Sa.nx, hi.out]
      case stop3 =>
        rintro D4 c4 s4 X4 hD4 _ h _
        exact h.elim
      case done3 =>
        rintro D4 s4 X4 hD4 ⟨_, hs4⟩ hI4 hrec4
        have hck := hI4.cnt
        rw [hs4] at hck
        have kX4 := hI4.co.kp
        have HX4 := hid (And.intro (HX3.out.1.kept kX4 (by simp; omega) (HX3.out.1.lt (by simp))) (HX3.out.2.2.1.trans kX4 (by simp; omega)))
        have s5 := (HX3.out.2.1.kept kX4 (by simp; omega) (HX3.out.2.1.lt (by simp))).get 0 _ rfl
        have s7 := (kX4.cell (p := ⟨q7, 0, none⟩) (World.block_lt_of_cell? _ _ hc3.out) (by simp; omega)).trans hc3.out
        have hDf := hid (And.intro ((kX4.block D (by omega) (by simp; omega)).trans hD3.out) (And.intro ((kX4.block D2 (by omega) (by simp; omega)).trans hE3.out) hrec4))
        clear kX4 hI4 hrec4 hD3 hE3 HX3 hA3 hc3
        go_wp2_with fail
        refine (hal.out X4 HX4.out.2).mono ?_
        rintro e X5 ⟨rfl, kf⟩
        have z5 := kpAt kf s5
        have z7 := kpAt kf s7
        have zk := kpAt kf hck
        have b4 := HX4.out.1.kept kf (by simp) (HX4.out.1.lt (by simp))
        have z4 := b4.get 0 _ rfl
        have y4 := b4.free 0
        have kF := hid (HX4.out.2.trans kf (by simp))
        have hDg := hid (And.intro ((kf.block D (Array.getElem?_eq_some_iff.1 hDf.out.1).1 (by simp)).trans hDf.out.1) (And.intro ((kf.block D2 (Array.getElem?_eq_some_iff.1 hDf.out.2.1).1 (by simp)).trans hDf.out.2.1) ((kf.block D4 (Array.getElem?_eq_some_iff.1 hDf.out.2.2).1 (by simp)).trans hDf.out.2.2)))
        have ee1 : ((V.length : Int) == (V.length : Int)) = true := by simp
        clear s5 s7 hck b4 kf
        go_wp2_with fail
        have kY0 : Kp [q4] X5 (X5.setCell ⟨q4, 0, none⟩ (.bool true)) := (Kp.refl _ _).setCell (.inl (by simp)) _
        have hp : ∀ (A : World) (d : Nat), Kp [d] A (A.putObj d (.deferred none)) := fun A d => ⟨rfl, rfl, rfl, by simp, fun k hk hn => World.putObj_heap_other (by simpa using hn)⟩
        have o1 : q4 < D := by omega
        have o2 : D < D2 := by have := hq9.out; omega
        have o3 : D2 < D4 := by omega
        have g4 := (kY0.block D4 (Array.getElem?_eq_some_iff.1 hDg.out.2.2).1 (by simp; omega)).trans hDg.out.2.2
        have g2 := (kY0.block D2 (Array.getElem?_eq_some_iff.1 hDg.out.2.1).1 (by simp; omega)).trans hDg.out.2.1
        have g1 := (kY0.block D (Array.getElem?_eq_some_iff.1 hDg.out.1).1 (by simp; omega)).trans hDg.out.1
        have c4 : (X5.setCell ⟨q4, 0, none⟩ (.bool true)).cell? ⟨q4, 0, none⟩ = some (.bool true) := World.cell?_setCell_same _ _ _ z4
        have kY := kF.out.setCell (p := ⟨q4, 0, none⟩) (.inr (by show w.heap.size ≤ q4; omega)) (.bool true)
        generalize X5.setCell ⟨q4, 0, none⟩ (.bool true) = Y0 at *
        have g2' : (Y0.putObj D4 (.deferred none)).heap[D2]? = some (.deferred (some [])) := (World.putObj_heap_other (by omega)).trans g2
        have g1' : ((Y0.putObj D4 (.deferred none)).putObj D2 (.deferred none)).heap[D]? = some (.deferred (some [])) := (World.putObj_heap_other (by omega)).trans ((World.putObj_heap_other (by omega)).trans g1)
        have c4' : (((Y0.putObj D4 (.deferred none)).putObj D2 (.deferred none)).putObj D (.deferred none)).cell? ⟨q4, 0, none⟩ = some (.bool true) :=
          (World.cell?_of_block (a := ⟨q4, 0, none⟩) ((World.putObj_heap_other (by show _ ≠ _; simp; omega)).trans ((World.putObj_heap_other (by show _ ≠ _; simp; omega)).trans (World.putObj_heap_other (by show _ ≠ _; simp; omega))))).trans c4
        have kE := ((kY.trans (hp _ D4) (fun x hx => .inr (by simp at hx; omega))).trans (hp _ D2) (fun x hx => .inr (by simp at hx; omega))).trans (hp _ D) (fun x hx => .inr (by simp at hx; omega))
        refine ⟨by simp, .inl ⟨_, _, rfl, run_takeDeferred g4, ?_⟩⟩
        refine ⟨by simp, .inl ⟨_, _, rfl, run_takeDeferred g2', ?_⟩⟩
        refine ⟨by simp, .inl ⟨_, _, rfl, run_takeDeferred g1', ?_⟩⟩
        exact ⟨_, results_cell_oneB rfl rfl c4', rfl, kE⟩
  case stop =>
    rintro D c s X hD _ h
    exact h.elim
end Go.Proofs.YtpmjcjabjcbpjaaGreatDoor
end

section
namespace Go.Proofs.YtpmjcjabjcbpjaaGreatDoor
open Go.RowKit Go.Hay
theorem allWalk7 (a : Option Addr) (len c : Nat) (bs : List UInt8) (lv : Int) (w : World) (ht0 : Tab w) (hs : Sees w a bs) (hlen : len = bs.length) (hl : bs.length ≤ c) (hm : c ≤ maxLen) (hb : bs.length ≤ 2000000) :
    Calls Tryz.prog 3 #[.slice a len c, .int .i64 lv] w fun e w' => e = .returned (.bool true) ∧ Below w.heap.size w w' := by
  subst hlen
  exact (callsIn_wide.1 (walkBA a c bs lv w ht0 hs hl hm hb)).mono fun e w' h => ⟨h.1, h.2.below⟩
end Go.Proofs.YtpmjcjabjcbpjaaGreatDoor
end

section
namespace Go.Proofs.YtpmjcjabjcbpjaaGreatDoor
open Go.ChangeShapes Go.WideShapes Go.ChangeAt Go.RowKit Go.Hay
theorem bulk_pos {H : Type} (d : DataW H) : 1 ≤ Rows.uptoBulk d := by
  cases d with
  | lit l => cases l <;> simp [Rows.uptoBulk]
  | _ => simp [Rows.uptoBulk]
theorem bulkAll_ge {H : Type} (l : List (DataW H)) : l.length ≤ Rows.uptoBulkAll l := by
  induction l with
  | nil => simp
  | cons d l ih => have := bulk_pos d; simp only [Rows.uptoBulkAll, List.length_cons]; omega
theorem bulk_cap {H : Type} (d : DataW H) : capD d + 1 ≤ Rows.uptoBulk d := by
  cases d with
  | slice e sp => have := bulkAll_ge e; have := bulkAll_ge sp; simp only [capD, Rows.uptoBulk]; omega
  | lit l => cases l <;> simp [capD, Rows.uptoBulk]
  | _ => simp [capD, Rows.uptoBulk]
end Go.Proofs.YtpmjcjabjcbpjaaGreatDoor
end

section
namespace Go.Proofs.YtpmjcjabjcbpjaaGreatDoor
open Go.ChangeShapes Go.WideShapes Go.ChangeAt Go.RowKit Go.Hay
set_option linter.unusedVariables false

set_option maxRecDepth 100000 in
theorem blockAllContract (H : Type) (enc : TypeId × Value → H) (W : World) (base : Nat) (args : Array Value) (ds gs : List (DataW H)) (before : List MemPlace)
    (hval : ∀ (j : Nat) t v, Tryz.f3.params[j]? = some t → args[j]? = some v → Value.okWide Tryz.prog W .any base t v)
    (hW : DataW.Whole enc Tryz.prog Tryz.f3.params.toList Rows.blockAllSpec.vars false W args.toList ds gs before)
    (hsz : (DataW.weightsEach Tryz.prog (Tryz.f3.params.toList ++ (Rows.OpenSpec.upto Rows.blockAllSpec).bare.plain.varTypes Tryz.prog) (ds ++ gs)).all (· ≤ reachBytes) = true)
    (hk : Rows.uptoSmall H (ds ++ gs) = true)
    (hL : laidMetH Tryz.prog Rows.blockAllUptoRow.laid W) :
    Calls Tryz.prog 3 args W fun e W' => ∃ v, e = .returned v ∧ Rows.blockAllSpec.post enc Tryz.prog Tryz.f3 false true false false W args v W' := by
  have hW' := hW
  obtain ⟨p, q, hA0, hV, rfl, hfz, hnd⟩ := hW
  have hA : DataW.TrodAll enc Tryz.prog W 0 (fun _ => true) true Tryz.f3.params.toList args.toList ds p := hA0
  rw [Tryz.params3] at hA hval hsz
  obtain ⟨v0, vs0, d0, ds0, p0, q0, hargs, rfl, rfl, h0, r0⟩ := trodAll_cons hA
  obtain ⟨v1, vs1, d1, ds1, p1, q1, rfl, rfl, rfl, h1, r1⟩ := trodAll_cons r0
  obtain ⟨rfl, rfl, rfl⟩ := trodAll_nil r1
  obtain rfl : args = #[v0, v1] := by cases args; simp_all
  obtain ⟨rfl, rfl⟩ := trodVars_none hV
  obtain ⟨a0, len0, cap0, rfl⟩ := okWide_slice Tryz.underlying22 (hval 0 22 v0 rfl rfl)
  have k0 := h0
  have lt0 : ∀ x ∈ p0, x.block < W.heap.size := by obtain ⟨m, hm⟩ := k0; exact DataW.trod_lt m _ _ _ hm
  obtain ⟨bs0, hlen0, hs0, hl0, hm0, hcap0⟩ := openBytes h0
  have hr0 := reachBytesOf (d := d0) (List.all_eq_true.2 fun x hx => List.all_eq_true.1 hsz x (by simp [DataW.weightsEach]; first | exact .inl hx | exact .inr hx | exact .inr (.inl hx) | exact .inr (.inr hx) | exact hx))
  obtain ⟨a1, rfl, rfl, rfl, w1⟩ := open_int Tryz.underlying3 (hval 1 3 v1 rfl rfl) h1
  have hb1 := bounds_i64 w1
  have hbk := of_decide_eq_true hk
  simp only [List.append_nil, Rows.uptoBulkAll] at hbk
  have hc0 := bulk_cap d0
  clear hA0
  refine (allWalk7 a0 len0 cap0 bs0 a1 W (table hL) hs0 hlen0 hl0 hm0 (by omega)).mono fun e W' ⟨he, bel⟩ => ?_
  subst he
  exact ⟨_, rfl, _, _, _, [], _, [], hW', trodAll_mk1 (shut_bool Tryz.underlying4 _), (trodAll_cons_mk (Below.trod Tryz.laidOut (by kernel_rfl) (of_decide_eq_true (by kernel_rfl)) k0 bel lt0) (trodAll_cons_mk (shut_int Tryz.underlying3 w1) trodAll_mk0)), rfl, bel.frame _, fun h => by cases h⟩

set_option maxRecDepth 100000 in
theorem blockAllLifted (os : Os) (started : os.Started) (H : Type) (enc : TypeId × Value → H) (F : Stop.Interp) :
    ReturnsInHanded {} Tryz.checked os 3 .any ((Rows.OpenSpec.upto Rows.blockAllSpec).preRow enc Tryz.prog Tryz.f3 Rows.blockAllUptoRow.domain false Rows.blockAllUptoRow.laid) (((Rows.OpenSpec.upto Rows.blockAllSpec).at F).post enc Tryz.prog Tryz.f3 false true false false) := by
  refine returnsInHanded_of_row (C := Tryz.checked) (s := Rows.OpenSpec.upto Rows.blockAllSpec) Tryz.own started (by kernel_rfl) Tryz.func3
    (witness_row_at (enc := enc) (C := Tryz.checked) false ({ World.holding Tryz.prog os ⟨#[], #[], []⟩ with heap := (World.holding Tryz.prog os ⟨#[], #[], []⟩).heap.modify 0 fun
      | .cells _ t frozen => .cells tabCells t frozen
      | o => o }) #[.slice none 0 0, .int .i64 0] rfl (by kernel_rfl) (by kernel_rfl) (by kernel_rfl)
      (OpenSpec.preRow_of_cond (x := ([.nil, .lit (.int .i64 0)], [], [])) 8 (by kernel_rfl) (by kernel_rfl) (fun k hk => by cases hk; kernel_rfl) (by kernel_rfl) (laidMet_of_run' 8 (by kernel_rfl) (by kernel_rfl)))) ?_
  intro W base args ds gs before hval hW _ hcond hsz hL _ _
  exact blockAllContract H enc W base args ds gs before hval hW hsz (hcond _ rfl) hL

theorem blockAllSaid : Rows.BlockAllUptoSaid :=
  OpenClaim.holds_of_cond 3 Tryz.f3 rfl rfl rfl rfl rfl rfl rfl ⟨rfl, rfl, rfl, rfl, rfl⟩ rfl rfl rfl rfl rfl (by kernel_rfl) Tryz.func3 (by kernel_rfl)
    (of_decide_eq_true (by kernel_rfl)) (by unfold Func.isWrapper; first | (rw [if_pos (by decide +kernel)]; kernel_rfl) | (rw [if_neg (by decide +kernel)]; exact ⟨rfl, rfl⟩))
    (fun os started H enc _ F => by rw [OpenClaim.pre_eq_preRow]; exact blockAllLifted os started H enc F)

theorem blockAllPlain (f : FuncId) (fn : Func) (hf : Tryz.pinned.checked.prog.funcNamed "hayloft/hayloftlaw07.BlockAll" = some f) (hfn : Tryz.pinned.checked.prog.funcs[f]? = some fn) :
    false = Tryz.pinned.checked.prog.looks [] ∧ ∀ (j : Nat) t, fn.params[j]? = some t → Tryz.pinned.checked.prog.wantsStandIn t = false := by
  obtain rfl : f = 3 := Option.some.inj ((show Tryz.prog.funcNamed "hayloft/hayloftlaw07.BlockAll" = some 3 by kernel_rfl).symm.trans hf) |>.symm
  obtain rfl : fn = Tryz.f3 := (Option.some.inj (Tryz.func3.symm.trans hfn)).symm
  refine ⟨by kernel_rfl, fun j t ht => ?_⟩
  rw [Tryz.params3] at ht
  have hm := Array.mem_of_getElem? ht
  have h2 : t = 22 ∨ t = 3 := by first | (simpa using hm) | (rcases (show t = 22 ∨ t = 3 from by simpa using hm) with h | h <;> simp [h])
  rcases h2 with rfl | rfl
  · exact (show Tryz.prog.wantsStandIn 22 = false by kernel_rfl)
  · exact (show Tryz.prog.wantsStandIn 3 = false by kernel_rfl)

theorem BlockAll_holds : Rows.BlockAllUptoCardSaid :=
  Claim7.holds_tied_plain_at .later [] _ _ _ _ blockAllSaid (fun _ h => by cases h) (by kernel_rfl) (fun _ h => by cases h) blockAllUpto_row_tie rfl ⟨rfl, rfl⟩ (by kernel_rfl) rfl blockAllPlain (by kernel_rfl)
#print axioms BlockAll_holds
end Go.Proofs.YtpmjcjabjcbpjaaGreatDoor
end

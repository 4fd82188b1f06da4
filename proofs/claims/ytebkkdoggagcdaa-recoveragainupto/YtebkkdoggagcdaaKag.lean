/- RecoverAgain: changes that come twice, or in two orders, make no difference; for every input that holds together at most 1048576 values. -/
import Derived.Test.YtebkkdoggagcdaaB13
import Derived.SizedLaws
import Derived.JoinedCond
import Derived.Deep.CondSized
section
namespace Go.Proofs.Ytebkkdoggagcdaa
open Go.RowKit Go.Hay
attribute [local go_sem] Oper.semAt_some
set_option linter.unusedVariables false
set_option linter.unusedSimpArgs false

theorem baLoop (b : ByteArray) : ∀ (m i : Nat) (r : List UInt8), b.size - i = m → ByteArray.toList.loop b i r = r.reverse ++ b.data.toList.drop i
  | 0, i, r, h => by
    rw [ByteArray.toList.loop]
    rw [if_neg (by omega), List.drop_eq_nil_of_le (by simp; have : b.data.size = b.size := rfl; omega), List.append_nil]
  | m + 1, i, r, h => by
    rw [ByteArray.toList.loop]
    have hi : i < b.size := by omega
    rw [if_pos hi, baLoop b m (i + 1) _ (by omega)]
    have hi' : i < b.data.toList.length := by simpa using hi
    rw [List.drop_eq_getElem_cons hi']
    simp
    show b.get! i = _
    simp [ByteArray.get!, hi]
theorem baList (b : ByteArray) : b.toList = b.data.toList := by
  unfold ByteArray.toList
  rw [baLoop b _ 0 [] rfl]
  simp
theorem baInj {a b : ByteArray} (h : a.toList = b.toList) : a = b := by
  rw [baList, baList] at h
  cases a; cases b
  simp only [ByteArray.mk.injEq]
  exact Array.toList_inj.1 h
/-- Are two values the same? -/
def eqvR (x y : Val) : Bool := x.k == y.k && (x.b == y.b && (x.n == y.n && x.t.toList == y.t.toList))
theorem eqVR (x y : Val) : ∃ X : Bool, Hid (X = eqvR x y) ∧ ∀ w : World, (binOp .eql 36 (.agg #[.int .i64 x.k, .bool x.b, .int .i64 x.n, .string x.t]) (.agg #[.int .i64 y.k, .bool y.b, .int .i64 y.n, .string y.t])).run Try.prog w = .ok (.bool X) w := by
  refine ⟨_, rfl, fun w => ?_⟩
  rw [run_eql_struct, run_equalIn_agg (ht := by kernel_rfl) (hp := by kernel_rfl)]
  obtain ⟨k1, b1, n1, t1⟩ := x
  obtain ⟨k2, b2, n2, t2⟩ := y
  simp only [eqvR]
  by_cases h1 : k1 = k2
  · by_cases h2 : b1 = b2
    · by_cases h3 : n1 = n2
      · by_cases h4 : t1.toList = t2.toList
        · simp [go_sem, h1, h2, h3, h4]
        · simp [go_sem, h1, h2, h3, h4]
      · simp [go_sem, h1, h2, h3]
    · simp [go_sem, h1, h2]
  · simp [go_sem, h1]

theorem neVR (x y : Val) : ∃ X : Bool, Hid (X = eqvR x y) ∧ ∀ w : World, (binOp .neq 36 (.agg #[.int .i64 x.k, .bool x.b, .int .i64 x.n, .string x.t]) (.agg #[.int .i64 y.k, .bool y.b, .int .i64 y.n, .string y.t])).run Try.prog w = .ok (.bool (!X)) w := by
  obtain ⟨X, HX, hX⟩ := eqVR x y
  refine ⟨X, HX, fun w => ?_⟩
  have h := hX w
  rw [run_eql_struct] at h
  rw [run_neq_struct]
  cases hr : (Op.equalIn 10000 36 (.agg #[.int .i64 x.k, .bool x.b, .int .i64 x.n, .string x.t]) (.agg #[.int .i64 y.k, .bool y.b, .int .i64 y.n, .string y.t])).run Try.prog w with
  | ok b w' => rw [hr] at h; simp [Result.andThen] at h; obtain ⟨rfl, rfl⟩ := h; rfl
  | halt p w' => rw [hr] at h; cases h


theorem eqvR_eq {x y : Val} (h : eqvR x y = true) : x = y := by
  obtain ⟨xk, xb, xn, xt⟩ := x
  obtain ⟨yk, yb, yn, yt⟩ := y
  simp [eqvR] at h
  obtain ⟨rfl, rfl, rfl, h4⟩ := h
  rw [baInj h4]
set_option maxHeartbeats 8000000 in
set_option maxRecDepth 100000 in
theorem rSameB (x y : Vn) (w : World) (hx : VnOk w x) (hy : VnOk w y) : Calls Try.prog 21 #[.agg #[.int .u64 x.ep, .int .u32 x.num, .slice x.a x.row.length x.c, .int .u64 x.del], .agg #[.int .u64 y.ep, .int .u32 y.num, .slice y.a y.row.length y.c, .int .u64 y.del]] w fun e w' => ∃ B : Bool, e = .returned (.bool B) ∧ (B = true → x.p = y.p) ∧ Kp [] w w' := by
  obtain ⟨xe, xn, xa, xc, xr, xd⟩ := x
  obtain ⟨ye, yn, ya, yc, yr, yd⟩ := y
  have hfew := hx.few
  dsimp only at hfew ⊢
  obtain ⟨w1, hw1, k1, b0, b1, hz1⟩ := box45 w (.int .u64 xe) (.int .u32 xn) (.slice xa xr.length xc) (.int .u64 xd) (.int .u64 ye) (.int .u32 yn) (.slice ya yr.length yc) (.int .u64 yd) 34
  have hs1 := hid (hx.see.keptNew k1)
  have hs2 := hid (hy.see.keptNew k1)
  dsimp only at hs1 hs2
  have p0 := b0.get 0 _ rfl; have p1 := b0.get 1 _ rfl; have p2 := b0.get 2 _ rfl; have p3 := b0.get 3 _ rfl
  have q0 := b1.get 0 _ rfl; have q1 := b1.get 1 _ rfl; have q2 := b1.get 2 _ rfl; have q3 := b1.get 3 _ rfl
  have n1 := neI xe xn ye yn
  have K1 := hid k1
  by_cases hI : (xe, xn) = (ye, yn)
  · rw [decide_eq_true hI] at n1
    simp only [Bool.not_true] at n1
    have HI := hid hI
    clear hI
    by_cases hd : xd = yd
    · have n2 : (xd != yd) = false := by simpa using hd
      have HD := hid hd
      clear hd
      by_cases hl : xr.length = yr.length
      · obtain ⟨m, hm⟩ : ∃ m, Hid (xr.length = m) := ⟨_, hid rfl⟩
        have hmy : Hid (yr.length = m) := hid (by rw [← hl, hm.out])
        rw [hm.out] at p2 hfew
        rw [hmy.out] at q2
        rw [hm.out, hmy.out] at hw1 ⊢
        have n3 : ((m : Int) != (m : Int)) = false := by simp
        have hB0 := hid b0
        have hB1 := hid b1
        rw [hm.out] at hB0
        rw [hmy.out] at hB1
        clear hx hy b0 b1 hl
        go_enter Try.func21, Try.ntmps21
        go_wp2_with fail
        go_loopw [5] (fun i wr => ∃ j : Nat, j ≤ m ∧ i = .int .i64 j ∧ Hid (xr.take j = yr.take j) ∧ Kp [] w1 wr) (fun i _ => m - (intOf i).toNat)
        case atStart => exact ⟨0, Nat.zero_le _, rfl, hid rfl, Kp.refl _ _⟩
        case round =>
          clear p0 p1 p2 p3 q0 q1 q2 q3
          obtain ⟨j, hj, rfl, htk, kr⟩ := hrel
          have P2 := (hB0.out.kept kr (by omega)).get 2 _ rfl
          have Q2 := (hB1.out.kept kr (by omega)).get 2 _ rfl
          by_cases hjm : j < m
          · have jx : j < xr.length := by rw [hm.out]; exact hjm
            have jy : j < yr.length := by rw [hmy.out]; exact hjm
            have hx : xr[j]? = some xr[j] := by simp [jx]
            have hy : yr[j]? = some yr[j] := by simp [jy]
            obtain ⟨g, o, rfl, a0, a1, a2, a3⟩ := valAt (hs1.out.keptNew kr) hx
            obtain ⟨g2, o2, rfl, d0, d1, d2, d3⟩ := valAt (hs2.out.keptNew kr) hy
            have hsn : Hid (xr[j] = yr[j] → xr.take (j + 1) = yr.take (j + 1)) := hid fun e => by rw [List.take_succ_eq_append_getElem jx, List.take_succ_eq_append_getElem jy, htk.out, e]
            obtain ⟨X, HX, hv⟩ := neVR xr[j] yr[j]
            have hXe : Hid (X = true → xr[j] = yr[j]) := hid fun e => eqvR_eq (by rw [← HX.out]; exact e)
            clear hx hy HX
            generalize xr[j] = z at *
            generalize yr[j] = u at *
            obtain ⟨zk, zb, zn, zt⟩ := z
            obtain ⟨uk, ub, un, ut⟩ := u
            dsimp only at a0 a1 a2 a3 d0 d1 d2 d3 hv
            have i1 : (0 : Int) ≤ (j : Int) := by omega
            have i2 : (j : Int) < (m : Int) := by omega
            clear jx jy
            go_wp2_with fail
            go_quiet (fail)
            cases X with
            | true =>
              have hn := hid (hsn.out (hXe.out rfl))
              clear hsn hXe
              go_wp2_with fail
              exact ⟨⟨j + 1, by omega, by go_num, hn, kr.drewN _⟩, by simp [intOf]; omega⟩
            | false =>
              clear hsn hXe
              go_wp2_with fail
              go_ret
              exact ⟨false, rfl, fun h => (by cases h), (K1.out.trans kr (by simp)).drewN _⟩
          · have e : j = m := by omega
            subst e
            have hrow : Hid (xr = yr) := hid (by have h1 := htk.out; rwa [← hm.out, List.take_length, hm.out, ← hmy.out, List.take_length] at h1)
            clear hrow
            have hrow : Hid (xr = yr) := hid (by
              have h1 := htk.out
              rw [List.take_of_length_le (by rw [hm.out]; exact Nat.le_refl _), List.take_of_length_le (by rw [hmy.out]; exact Nat.le_refl _)] at h1
              exact h1)
            go_wp2_with fail
            go_ret
            exact ⟨true, rfl, fun _ => by
              have h1 := HI.out
              simp only [Prod.mk.injEq] at h1
              obtain ⟨rfl, rfl⟩ := h1
              rw [Vn.p, Vn.p, hrow.out, HD.out], K1.out.trans kr (by simp)⟩
      · have n3 : ((xr.length : Int) != (yr.length : Int)) = true := by
          have : (xr.length : Int) ≠ (yr.length : Int) := by omega
          simpa using this
        clear hx hy b0 b1 hl
        go_enter Try.func21, Try.ntmps21
        go_wp2_with fail
        go_ret
        exact ⟨false, rfl, fun h => (by cases h), K1.out⟩
    · have n2 : (xd != yd) = true := by simpa using hd
      clear hx hy b0 b1 hd
      go_enter Try.func21, Try.ntmps21
      go_wp2_with fail
      go_ret
      exact ⟨false, rfl, fun h => (by cases h), K1.out⟩
  · rw [decide_eq_false hI] at n1
    simp only [Bool.not_false] at n1
    clear hx hy b0 b1 hI
    go_enter Try.func21, Try.ntmps21
    go_wp2_with fail
    go_ret
    exact ⟨false, rfl, fun h => (by cases h), K1.out⟩
set_option maxHeartbeats 64000000 in
set_option maxRecDepth 100000 in
theorem againWalk (a b c : Option Addr) (ca cb cc : Nat) (l m o : List Vn) (w : World) (hl : InV a ca l w) (hm : InV b cb m w) (ho : InV c cc o w) (hlz : l.length ≤ 1000000000 ∧ m.length ≤ 1000000000 ∧ o.length ≤ 1000000000) :
    Calls Try.prog 7 #[.slice a l.length ca, .slice b m.length cb, .slice c o.length cc] w fun e w' => e = .returned (.bool true) ∧ Below w.heap.size w w' := by
  have HI := hid hl
  have HM := hid hm
  have HO := hid ho
  have HSZ : Hid (l.length ≤ 1000000000 ∧ m.length ≤ 1000000000 ∧ o.length ≤ 1000000000 ∧ (mrgV l m).length ≤ 2000000000 ∧ (mrgV l o).length ≤ 2000000000) := hid (by
    have h1 := mrg_len l m
    have h2 := mrg_len l o
    omega)
  have Kw0 : Hid (Kp [] w w) := hid (Kp.refl _ _)
  have hmb := hlz.2.1; have hob := hlz.2.2
  clear hl hm ho hlz
  go_enter Try.func7, Try.ntmps7
  have cX := hid (tMrg (HI.out.kp Kw0.out) (HM.out.kp Kw0.out) (Eq.refl (l.map Vn.p)) (Eq.refl (m.map Vn.p)) (by have := HSZ.out; omega))
  go_wp2_with fail
  refine cX.out.mono ?_
  rintro e w1 ⟨aA, cA, LA, rfl, tA, kk⟩
  clear cX
  have Kw1 := hid (Kw0.out.trans kk (by simp))
  have TA := hid tA
  clear tA kk
  have cX := hid (cAliveR w1)
  go_wp2_with fail
  refine cX.out.mono ?_
  rintro e w2 ⟨rfl, kk⟩
  have Kw2 := hid (Kw1.out.trans kk (by simp))
  replace TA := hid (TA.out.kp kk)
  clear cX kk
  have cX := hid (tMrg TA.out.i (HM.out.kp Kw2.out) TA.out.like (Eq.refl (m.map Vn.p)) (by have := HSZ.out; omega))
  go_wp2_with fail
  refine cX.out.mono ?_
  rintro e w3 ⟨aB, cB, LB, rfl, tB, kk⟩
  clear cX
  have Kw3 := hid (Kw2.out.trans kk (by simp))
  have TB := hid tB
  replace TA := hid (TA.out.kp kk)
  clear tB kk
  have cX := hid (tSame TB.out.i TA.out.i (TB.out.like.trans (by rw [mrg_again]; exact TA.out.like.symm)))
  go_wp2_with fail
  refine cX.out.mono ?_
  rintro e w4 ⟨rfl, kk⟩
  have Kw4 := hid (Kw3.out.trans kk (by simp))
  replace TA := hid (TA.out.kp kk)
  clear cX kk TB
  go_wp2_with fail
  go_loopw [31] (fun i wr => ∃ i1 : Nat, i1 ≤ m.length ∧ i = .int .i64 (i1 : Int) ∧ Hid (∀ v ∈ m.take i1, ∀ z ∈ o, v.id = z.id → v.p = z.p) ∧ Hid (Kp [] w4 wr)) (fun i _ => m.length - (intOf i).toNat)
  case atStart => exact ⟨0, Nat.zero_le _, rfl, hid (by simp), hid (Kp.refl _ _)⟩
  case round =>
    obtain ⟨i, hi, rfl, hall, kr⟩ := hrel
    by_cases hlt : i < m.length
    · have htk : Hid (m.take (i + 1) = m.take i ++ [m[i]]) := hid (List.take_succ_eq_append_getElem hlt)
      have KI := hid (Kw4.out.trans kr.out (by simp))
      obtain ⟨g, oo, ea, x0, x1, x2, x3⟩ := idAt ((HM.out.kp KI.out).see) (i := i) (x := m[i]) (by simp [hlt])
      have hxok := hid (fun W (k : Kp [] w W) => (HM.out.kp k).ok m[i] (List.getElem_mem hlt))
      obtain ⟨x, hx⟩ : ∃ x, Hid (m[i] = x) := ⟨m[i], hid rfl⟩
      rw [hx.out] at x0 x1 x2 x3 htk hxok
      obtain ⟨xv, hxv⟩ : ∃ y, Hid (y = x) := ⟨x, hid rfl⟩
      have hxid : Hid (xv.id = (x.ep, x.num)) := hid (by rw [hxv.out])
      rw [← hxv.out] at htk
      obtain ⟨xe, xn, xa, xc, xr, xd⟩ := x
      dsimp only at x0 x1 x2 x3 hxid
      obtain ⟨q9, q9A, q9B, q9e, q9eA, q9b1, q9eB, q9b2, q9k⟩ := boxVn wr xe xn xa xr.length xc xd
      have q9m0 := q9b1.get 0 _ rfl; have q9m1 := q9b1.get 1 _ rfl; have q9m2 := q9b1.get 2 _ rfl; have q9m3 := q9b1.get 3 _ rfl
      have q9f0 := q9b1.free 0; have q9f1 := q9b1.free 1; have q9f2 := q9b1.free 2; have q9f3 := q9b1.free 3
      have q9kA : Kp [] wr q9A := by rw [← q9eA]; exact (Kp.refl [] wr).alloc _
      have HB9 := hid q9b2
      have K9B := hid (KI.out.trans q9k (by simp))
      have g0 := kpAt q9kA x0; have g1 := kpAt q9kA x1; have g2 := kpAt q9kA x2; have g3 := kpAt q9kA x3
      have i1 : (0 : Int) ≤ (i : Int) := by omega
      have i2 : (i : Int) < (m.length : Int) := by omega
      have i3 : (i : Int) + 1 ≤ 9223372036854775807 := by omega
      have KR9 := hid (kr.out.trans q9k (by simp))
      subst ea
      clear q9b1 q9b2 q9k q9kA
      go_wp2_with fail
      go_loopw [37] (fun i2 wr => ∃ k : Nat, k ≤ o.length ∧ i2 = .int .i64 (k : Int) ∧ Hid (∀ z ∈ o.take k, xv.id = z.id → xv.p = z.p) ∧ Hid (Kp [] q9B wr)) (fun i2 _ => o.length - (intOf i2).toNat)
      case atStart => exact ⟨0, Nat.zero_le _, rfl, hid (by simp), hid (Kp.refl _ _)⟩
      case round =>
        clear x0 x1 x2 x3 g0 g1 g2 g3 q9m0 q9m1 q9m2 q9m3 q9f0 q9f1 q9f2 q9f3
        obtain ⟨k, hk, rfl, hall2, kr2⟩ := hrel
        by_cases hlt2 : k < o.length
        · have htk2 : Hid (o.take (k + 1) = o.take k ++ [o[k]]) := hid (List.take_succ_eq_append_getElem hlt2)
          have KK := hid (K9B.out.trans kr2.out (by simp))
          obtain ⟨g2, o2, ea2, y0, y1, y2, y3⟩ := idAt ((HO.out.kp KK.out).see) (i := k) (x := o[k]) (by simp [hlt2])
          have hyok := hid (fun W (k1 : Kp [] w W) => (HO.out.kp k1).ok o[k] (List.getElem_mem hlt2))
          obtain ⟨y, hy⟩ : ∃ x, Hid (o[k] = x) := ⟨o[k], hid rfl⟩
          rw [hy.out] at y0 y1 y2 y3 htk2 hyok
          have cS := hid (fun W (k1 : Kp [] w W) => rSameB ⟨xe, xn, xa, xc, xr, xd⟩ y W (hxok.out W k1) (hyok.out W k1))
          obtain ⟨yv, hyv⟩ : ∃ z, Hid (z = y) := ⟨y, hid rfl⟩
          have hyid : Hid (yv.id = (y.ep, y.num)) := hid (by rw [hyv.out])
          have hpp : Hid ((⟨xe, xn, xa, xc, xr, xd⟩ : Vn).p = y.p → xv.p = yv.p) := hid fun e => by rw [hxv.out, hyv.out]; exact e
          rw [← hyv.out] at htk2
          obtain ⟨ye, yn, ya, yc, yr, yd⟩ := y
          dsimp only at y0 y1 y2 y3 cS hyid
          have b9 := HB9.out.kept kr2.out
          obtain ⟨q11, q11A, q11B, q11e, q11eA, q11b1, q11eB, q11b2, q11k⟩ := boxVn wr ye yn ya yr.length yc yd
          have q11m0 := q11b1.get 0 _ rfl; have q11m1 := q11b1.get 1 _ rfl; have q11m2 := q11b1.get 2 _ rfl; have q11m3 := q11b1.get 3 _ rfl
          have q11f0 := q11b1.free 0; have q11f1 := q11b1.free 1; have q11f2 := q11b1.free 2; have q11f3 := q11b1.free 3
          have q11kA : Kp [] wr q11A := by rw [← q11eA]; exact (Kp.refl [] wr).alloc _
          have z0 := kpAt q11kA y0; have z1 := kpAt q11kA y1; have z2 := kpAt q11kA y2; have z3 := kpAt q11kA y3
          have b9B := b9.kept q11k
          have u0 := b9B.get 0 _ rfl; have u1 := b9B.get 1 _ rfl; have u2 := b9B.get 2 _ rfl; have u3 := b9B.get 3 _ rfl
          have v0 := q11b2.get 0 _ rfl; have v1 := q11b2.get 1 _ rfl; have v2 := q11b2.get 2 _ rfl; have v3 := q11b2.get 3 _ rfl
          have KB := hid (KK.out.trans q11k (by simp))
          have KR2 := hid (kr2.out.trans q11k (by simp))
          have cS2 := hid (cS.out q11B KB.out)
          have qE := eqI xe xn ye yn
          obtain ⟨E, hE⟩ : ∃ E, Hid (decide ((xe, xn) = (ye, yn)) = E) := ⟨_, hid rfl⟩
          simp only [hE.out] at qE
          have j1 : (0 : Int) ≤ (k : Int) := by omega
          have j2 : (k : Int) < (o.length : Int) := by omega
          have j3 : (k : Int) + 1 ≤ 9223372036854775807 := by omega
          have hsn : Hid ((xv.id = yv.id → xv.p = yv.p) → ∀ z ∈ o.take (k + 1), xv.id = z.id → xv.p = z.p) := hid fun h z hz e => by
            rw [htk2.out] at hz
            rcases List.mem_append.1 hz with hz | hz
            · exact hall2.out z hz e
            · rw [List.mem_singleton.1 hz] at e ⊢; exact h e
          subst ea2
          clear q11b1 q11b2 q11k q11kA b9 b9B cS
          cases E with
          | false =>
            have hn := hid (hsn.out (fun e => by rw [hxid.out, hyid.out] at e; have := hE.out; rw [e] at this; simp at this))
            clear hsn hE hpp
            go_wp2_with fail
            exact ⟨⟨k + 1, by omega, by go_num, hn, KR2⟩, by simp [intOf]; omega⟩
          | true =>
            go_wp2_with fail
            refine cS2.out.mono ?_
            rintro e w7 ⟨B, rfl, hB, k7⟩
            have K7 := hid (KB.out.trans k7 (by simp))
            have KR7 := hid (KR2.out.trans k7 (by simp))
            clear cS2 k7
            cases B with
            | false =>
              clear hsn hE hpp hB
              go_wp2_with fail
              go_ret
              exact ⟨rfl, K7.out.below⟩
            | true =>
              have hn := hid (hsn.out (fun _ => hpp.out (hB rfl)))
              clear hsn hE hpp hB
              go_wp2_with fail
              exact ⟨⟨k + 1, by omega, by go_num, hn, KR7⟩, by simp [intOf]; omega⟩
        · obtain rfl : k = o.length := by omega
          have hn : Hid (∀ v ∈ m.take (i + 1), ∀ z ∈ o, v.id = z.id → v.p = z.p) := hid fun v hv z hz e => by
            rw [htk.out] at hv
            rcases List.mem_append.1 hv with hv | hv
            · exact hall.out v hv z hz e
            · rw [List.mem_singleton.1 hv] at e ⊢
              exact hall2.out z (by rw [List.take_length]; exact hz) e
          have KRR := hid (KR9.out.trans kr2.out (by simp))
          go_wp2_with fail
          exact ⟨⟨i + 1, by omega, by go_num, hn, KRR⟩, by simp [intOf]; omega⟩
    · obtain ⟨w5, hw5⟩ : ∃ x, x = wr := ⟨_, rfl⟩
      subst hw5
      obtain rfl : i = m.length := by omega
      have HMO : Hid (∀ v ∈ m, ∀ z ∈ o, v.id = z.id → v.p = z.p) := hid fun v hv => hall.out v (by rw [List.take_length]; exact hv)
      have Kw5 := hid (Kw4.out.trans kr.out (by simp))
      replace TA := hid (TA.out.kp kr.out)
      obtain ⟨w6, hw6, k6, b6⟩ : ∃ x, w5.alloc (.cells #[.slice b m.length cb, .slice c o.length cc] 22) = x ∧ Kp [] w5 x ∧ Bn x w5.heap.size [.slice b m.length cb, .slice c o.length cc] := ⟨_, rfl, (Kp.refl _ _).alloc _, Bn.new w5 _ _⟩
      obtain ⟨q6, hq6⟩ : ∃ q, w5.heap.size = q := ⟨_, rfl⟩
      rw [hq6] at b6
      have Kw6 := hid (Kw5.out.trans k6 (by simp))
      replace TA := hid (TA.out.kp k6)
      have hS6 : Hid (WsE.See w6 (some ⟨q6, 0, none⟩) [⟨b, cb, m⟩, ⟨c, cc, o⟩]) := hid (.inr ⟨q6, 0, rfl, fun j u hu => by rw [Nat.zero_add]; exact b6.get j u (by simpa [El.cs, WsE] using hu)⟩)
      have hL6 : Hid (∀ x ∈ [(⟨b, cb, m⟩ : Ws), ⟨c, cc, o⟩], x.l.length ≤ 1000000000 ∧ ∀ W, Kp [] w W → InV x.a x.c x.l W) := hid fun x hx => by
        rcases List.mem_cons.1 hx with rfl | hx
        · exact ⟨HSZ.out.2.1, fun W k => HM.out.kp k⟩
        · rw [List.mem_singleton.1 hx]; exact ⟨HSZ.out.2.2.1, fun W k => HO.out.kp k⟩
      obtain ⟨LS, hLS⟩ : ∃ x, Hid ([(⟨b, cb, m⟩ : Ws), ⟨c, cc, o⟩] = x) := ⟨_, hid rfl⟩
      rw [hLS.out] at hS6 hL6
      have hLn : Hid (LS.length = 2) := hid (by rw [← hLS.out]; rfl)
      clear b6 k6 hall hLS
      go_wp2_with fail
      go_loopw [58] (fun i wr => ∃ t : Nat, t ≤ 2 ∧ i = .int .i64 (t : Int) ∧ Hid (Kp [] w6 wr)) (fun i _ => 2 - (intOf i).toNat)
      case atStart => exact ⟨0, Nat.zero_le _, rfl, hid (Kp.refl _ _)⟩
      case round =>
        obtain ⟨t, ht, rfl, kt⟩ := hrel
        by_cases hlt : t < 2
        · obtain ⟨gs, os, eas, xs⟩ := wsAt (hS6.out.keptNew kt.out) (j := t) (x := LS[t]'(by rw [hLn.out]; exact hlt)) (by simp [hLn.out, hlt])
          have hil := hid (hL6.out (LS[t]'(by rw [hLn.out]; exact hlt)) (List.getElem_mem _))
          generalize LS[t]'(by rw [hLn.out]; exact hlt) = z at *
          obtain ⟨za, zc, zl⟩ := z
          dsimp only at xs hil
          simp only [Option.some.injEq, Addr.mk.injEq] at eas
          obtain ⟨rfl, rfl, _⟩ := eas
          rw [Nat.zero_add] at xs
          have hzb := hil.out.1
          have t1 : (0 : Int) ≤ (t : Int) := by omega
          have t2 : (t : Int) < (2 : Int) := by omega
          have t3 : (t : Int) + 1 ≤ 9223372036854775807 := by omega
          go_wp2_with fail
          go_loopw [64] (fun i wr => ∃ i1 : Nat, i1 ≤ zl.length ∧ i = .int .i64 (i1 : Int) ∧ Hid (Kp [] w6 wr)) (fun i _ => zl.length - (intOf i).toNat)
          case atStart => exact ⟨0, Nat.zero_le _, rfl, kt⟩
          case round =>
            clear kt xs
            obtain ⟨i, hi, rfl, ki⟩ := hrel
            by_cases hlti : i < zl.length
            · have i1 : (0 : Int) ≤ (i : Int) := by omega
              have i2 : (i : Int) < (zl.length : Int) := by omega
              have i3 : (i : Int) + 1 ≤ 9223372036854775807 := by omega
              go_wp2_with fail
              go_loopw [68] (fun i2 wr => ∃ k : Nat, k ≤ i ∧ i2 = .int .i64 (k : Int) ∧ Hid (Kp [] w6 wr)) (fun i2 _ => i - (intOf i2).toNat)
              case atStart => exact ⟨0, Nat.zero_le _, rfl, ki⟩
              case round =>
                clear ki
                obtain ⟨k, hk, rfl, kr⟩ := hrel
                by_cases hltk : k < i
                · obtain ⟨g, oo, ea, x0, x1, x2, x3⟩ := idAt ((hil.out.2 _ (Kw6.out.trans kr.out (by simp))).see) (i := i) (x := zl[i]) (by simp [hlti])
                  obtain ⟨g', oo', ea', y0, y1, y2, y3⟩ := idAt ((hil.out.2 _ (Kw6.out.trans kr.out (by simp))).see) (i := k) (x := zl[k]'(by omega)) (by simp [show k < zl.length by omega])
                  rw [ea] at ea'
                  simp only [Option.some.injEq, Addr.mk.injEq] at ea'
                  obtain ⟨rfl, rfl, _⟩ := ea'
                  have cS := hid (fun W (q : Kp [] wr W) => rSameB zl[i] (zl[k]'(by omega)) W ((hil.out.2 W ((Kw6.out.trans kr.out (by simp)).trans q (by simp))).ok _ (List.getElem_mem _)) ((hil.out.2 W ((Kw6.out.trans kr.out (by simp)).trans q (by simp))).ok _ (List.getElem_mem _)))
                  generalize zl[i] = x at *
                  generalize zl[k]'(by omega) = y at *
                  obtain ⟨xe, xn, xa, xc, xr, xd⟩ := x
                  obtain ⟨ye, yn, ya, yc, yr, yd⟩ := y
                  dsimp only at x0 x1 x2 x3 y0 y1 y2 y3 cS
                  have hG : Hid (∀ W', Kp [] wr W' → W'.cell? ⟨g, oo + i * 4, none⟩ = some (.int .u64 xe) ∧ W'.cell? ⟨g, oo + i * 4 + 1, none⟩ = some (.int .u32 xn) ∧ W'.cell? ⟨g, oo + i * 4 + 2, none⟩ = some (.slice xa xr.length xc) ∧ W'.cell? ⟨g, oo + i * 4 + 3, none⟩ = some (.int .u64 xd) ∧ W'.cell? ⟨g, oo + k * 4, none⟩ = some (.int .u64 ye) ∧ W'.cell? ⟨g, oo + k * 4 + 1, none⟩ = some (.int .u32 yn) ∧ W'.cell? ⟨g, oo + k * 4 + 2, none⟩ = some (.slice ya yr.length yc) ∧ W'.cell? ⟨g, oo + k * 4 + 3, none⟩ = some (.int .u64 yd)) := hid fun W' q => ⟨kpAt q x0, kpAt q x1, kpAt q x2, kpAt q x3, kpAt q y0, kpAt q y1, kpAt q y2, kpAt q y3⟩
                  have qE0 := eqI xe xn ye yn
                  obtain ⟨E, hE⟩ : ∃ E, Hid (decide ((xe, xn) = (ye, yn)) = E) := ⟨_, hid rfl⟩
                  simp only [hE.out] at qE0
                  have qE : ∀ W : World, (binOp .eql 31 (.agg #[.int .u64 xe, .int .u32 xn]) (.agg #[.int .u64 ye, .int .u32 yn])).run Try.prog W = .ok (.bool E) W := qE0
                  have j1 : (0 : Int) ≤ (k : Int) := by omega
                  have j2 : (k : Int) < (zl.length : Int) := by omega
                  have j3 : (k : Int) + 1 ≤ 9223372036854775807 := by omega
                  have j4 : (k : Int) < (i : Int) := by omega
                  have HKR := hid kr
                  subst ea
                  clear qE0 hE
                  go_wp2_with fail
                  refine wp_region_held_drew (S := fun W' => W'.cell? ⟨g, oo + i * 4, none⟩ = some (.int .u64 xe) ∧ W'.cell? ⟨g, oo + i * 4 + 1, none⟩ = some (.int .u32 xn) ∧ W'.cell? ⟨g, oo + i * 4 + 2, none⟩ = some (.slice xa xr.length xc) ∧ W'.cell? ⟨g, oo + i * 4 + 3, none⟩ = some (.int .u64 xd) ∧ W'.cell? ⟨g, oo + k * 4, none⟩ = some (.int .u64 ye) ∧ W'.cell? ⟨g, oo + k * 4 + 1, none⟩ = some (.int .u32 yn) ∧ W'.cell? ⟨g, oo + k * 4 + 2, none⟩ = some (.slice ya yr.length yc) ∧ W'.cell? ⟨g, oo + k * 4 + 3, none⟩ = some (.int .u64 yd)) (by kernel_rfl) ?_ (fun hHeld => ?_)
                  · exact hG.out _ (Kp.refl [] wr).drew
                  have KD : Hid (Kp [] wr wr.drew) := hid (Kp.refl [] wr).drew
                  generalize wr.drew = Wd at *
                  refine wpAnyH_take (i := 0) (v := ?_) rfl (by kernel_rfl) (by kernel_rfl) (by kernel_rfl) (fun _ _ _ h => h) (Or.inl ⟨by rfl, ?_⟩) (by assumption) ?_
                  rotate_left
                  · intro w hSw; (try dsimp only at hSw); go_simp <;> with_reducible rfl
                  try simp only [Act.put, List.getElem_toArray, List.getElem_cons_zero, List.getElem_cons_succ, List.setIfInBounds_toArray, List.set_cons_zero, List.set_cons_succ]
                  refine wpAnyH_take (i := 1) (v := ?_) rfl (by kernel_rfl) (by kernel_rfl) (by kernel_rfl) (fun _ _ _ h => h) (Or.inl ⟨by rfl, ?_⟩) (by assumption) ?_
                  rotate_left
                  · intro w hSw; (try dsimp only at hSw); go_simp <;> with_reducible rfl
                  try simp only [Act.put, List.getElem_toArray, List.getElem_cons_zero, List.getElem_cons_succ, List.setIfInBounds_toArray, List.set_cons_zero, List.set_cons_succ]
                  refine wpAnyH_take (i := 2) (v := ?_) rfl (by kernel_rfl) (by kernel_rfl) (by kernel_rfl) (fun _ _ _ h => h) (Or.inl ⟨by rfl, ?_⟩) (by assumption) ?_
                  rotate_left
                  · intro w hSw; (try dsimp only at hSw); go_simp <;> with_reducible rfl
                  try simp only [Act.put, List.getElem_toArray, List.getElem_cons_zero, List.getElem_cons_succ, List.setIfInBounds_toArray, List.set_cons_zero, List.set_cons_succ]
                  refine wpAnyH_take (i := 3) (v := ?_) rfl (by kernel_rfl) (by kernel_rfl) (by kernel_rfl) (fun _ _ _ h => h) (Or.inl ⟨by rfl, ?_⟩) (by assumption) ?_
                  rotate_left
                  · intro w hSw; (try dsimp only at hSw); go_simp <;> with_reducible rfl
                  try simp only [Act.put, List.getElem_toArray, List.getElem_cons_zero, List.getElem_cons_succ, List.setIfInBounds_toArray, List.set_cons_zero, List.set_cons_succ]
                  refine wpAnyH_take (i := 4) (v := ?_) rfl (by kernel_rfl) (by kernel_rfl) (by kernel_rfl) (fun _ _ _ h => h) (Or.inl ⟨by rfl, ?_⟩) (by assumption) ?_
                  rotate_left
                  · intro w hSw; (try dsimp only at hSw); go_simp <;> with_reducible rfl
                  try simp only [Act.put, List.getElem_toArray, List.getElem_cons_zero, List.getElem_cons_succ, List.setIfInBounds_toArray, List.set_cons_zero, List.set_cons_succ]
                  refine wpAnyH_take (i := 5) (v := ?_) rfl (by kernel_rfl) (by kernel_rfl) (by kernel_rfl) (fun _ _ _ h => h) (Or.inl ⟨by rfl, ?_⟩) (by assumption) ?_
                  rotate_left
                  · intro w hSw; (try dsimp only at hSw); go_simp <;> with_reducible rfl
                  try simp only [Act.put, List.getElem_toArray, List.getElem_cons_zero, List.getElem_cons_succ, List.setIfInBounds_toArray, List.set_cons_zero, List.set_cons_succ]
                  refine wpAnyH_take (i := 6) (v := ?_) rfl (by kernel_rfl) (by kernel_rfl) (by kernel_rfl) (fun _ _ _ h => h) (Or.inl ⟨by rfl, ?_⟩) (by assumption) ?_
                  rotate_left
                  · intro w hSw; (try dsimp only at hSw); go_simp <;> with_reducible rfl
                  try simp only [Act.put, List.getElem_toArray, List.getElem_cons_zero, List.getElem_cons_succ, List.setIfInBounds_toArray, List.set_cons_zero, List.set_cons_succ]
                  refine wpAnyH_take (i := 7) (v := ?_) rfl (by kernel_rfl) (by kernel_rfl) (by kernel_rfl) (fun _ _ _ h => h) (Or.inl ⟨by rfl, ?_⟩) (by assumption) ?_
                  rotate_left
                  · intro w hSw; (try dsimp only at hSw); go_simp <;> with_reducible rfl
                  try simp only [Act.put, List.getElem_toArray, List.getElem_cons_zero, List.getElem_cons_succ, List.setIfInBounds_toArray, List.set_cons_zero, List.set_cons_succ]
                  refine wpAnyH_take (i := 8) (v := ?_) rfl (by kernel_rfl) (by kernel_rfl) (by kernel_rfl) (fun _ _ _ h => h) (Or.inl ⟨by rfl, ?_⟩) (by assumption) ?_
                  rotate_left
                  · intro w hSw; (try dsimp only at hSw); go_simp <;> with_reducible rfl
                  try simp only [Act.put, List.getElem_toArray, List.getElem_cons_zero, List.getElem_cons_succ, List.setIfInBounds_toArray, List.set_cons_zero, List.set_cons_succ]
                  refine wpAnyH_take (i := 9) (v := ?_) rfl (by kernel_rfl) (by kernel_rfl) (by kernel_rfl) (fun _ _ _ h => h) (Or.inl ⟨by rfl, ?_⟩) (by assumption) ?_
                  rotate_left
                  · intro w hSw; (try dsimp only at hSw); go_simp <;> with_reducible rfl
                  try simp only [Act.put, List.getElem_toArray, List.getElem_cons_zero, List.getElem_cons_succ, List.setIfInBounds_toArray, List.set_cons_zero, List.set_cons_succ]
                  refine wpAnyH_take (i := 10) (v := ?_) rfl (by kernel_rfl) (by kernel_rfl) (by kernel_rfl) (fun _ _ _ h => h) (Or.inl ⟨by rfl, ?_⟩) (by assumption) ?_
                  rotate_left
                  · intro w hSw; (try dsimp only at hSw); go_simp <;> (try simp only [qE, Result.andThen]) <;> with_reducible rfl
                  try simp only [Act.put, List.getElem_toArray, List.getElem_cons_zero, List.getElem_cons_succ, List.setIfInBounds_toArray, List.set_cons_zero, List.set_cons_succ]
                  refine wpAnyH_take (i := 11) (v := ?_) rfl (by kernel_rfl) (by kernel_rfl) (by kernel_rfl) (fun _ _ _ h => h) (Or.inl ⟨by rfl, ?_⟩) (by assumption) ?_
                  rotate_left
                  · intro w hSw; (try dsimp only at hSw); go_simp <;> with_reducible rfl
                  try simp only [Act.put, List.getElem_toArray, List.getElem_cons_zero, List.getElem_cons_succ, List.setIfInBounds_toArray, List.set_cons_zero, List.set_cons_succ]
                  cases E with
                  | false =>
                    refine wpAnyH_take (i := 12) (v := undef) rfl (by kernel_rfl) (by kernel_rfl) (by kernel_rfl) (fun _ _ _ h => h) (Or.inr ⟨by rfl, rfl⟩) (by assumption) ?_
                    try simp only [Act.put, List.getElem_toArray, List.getElem_cons_zero, List.getElem_cons_succ, List.setIfInBounds_toArray, List.set_cons_zero, List.set_cons_succ]
                    refine wpAnyH_take (i := 13) (v := undef) rfl (by kernel_rfl) (by kernel_rfl) (by kernel_rfl) (fun _ _ _ h => h) (Or.inr ⟨by rfl, rfl⟩) (by assumption) ?_
                    try simp only [Act.put, List.getElem_toArray, List.getElem_cons_zero, List.getElem_cons_succ, List.setIfInBounds_toArray, List.set_cons_zero, List.set_cons_succ]
                    refine wpAnyH_take (i := 14) (v := undef) rfl (by kernel_rfl) (by kernel_rfl) (by kernel_rfl) (fun _ _ _ h => h) (Or.inr ⟨by rfl, rfl⟩) (by assumption) ?_
                    try simp only [Act.put, List.getElem_toArray, List.getElem_cons_zero, List.getElem_cons_succ, List.setIfInBounds_toArray, List.set_cons_zero, List.set_cons_succ]
                    refine wpAnyH_take (i := 15) (v := undef) rfl (by kernel_rfl) (by kernel_rfl) (by kernel_rfl) (fun _ _ _ h => h) (Or.inr ⟨by rfl, rfl⟩) (by assumption) ?_
                    try simp only [Act.put, List.getElem_toArray, List.getElem_cons_zero, List.getElem_cons_succ, List.setIfInBounds_toArray, List.set_cons_zero, List.set_cons_succ]
                    refine wpAnyH_take (i := 16) (v := undef) rfl (by kernel_rfl) (by kernel_rfl) (by kernel_rfl) (fun _ _ _ h => h) (Or.inr ⟨by rfl, rfl⟩) (by assumption) ?_
                    try simp only [Act.put, List.getElem_toArray, List.getElem_cons_zero, List.getElem_cons_succ, List.setIfInBounds_toArray, List.set_cons_zero, List.set_cons_succ]
                    refine wpAnyH_take (i := 17) (v := undef) rfl (by kernel_rfl) (by kernel_rfl) (by kernel_rfl) (fun _ _ _ h => h) (Or.inr ⟨by rfl, rfl⟩) (by assumption) ?_
                    try simp only [Act.put, List.getElem_toArray, List.getElem_cons_zero, List.getElem_cons_succ, List.setIfInBounds_toArray, List.set_cons_zero, List.set_cons_succ]
                    refine wpAnyH_take (i := 18) (v := undef) rfl (by kernel_rfl) (by kernel_rfl) (by kernel_rfl) (fun _ _ _ h => h) (Or.inr ⟨by rfl, rfl⟩) (by assumption) ?_
                    try simp only [Act.put, List.getElem_toArray, List.getElem_cons_zero, List.getElem_cons_succ, List.setIfInBounds_toArray, List.set_cons_zero, List.set_cons_succ]
                    refine wpAnyH_take (i := 19) (v := undef) rfl (by kernel_rfl) (by kernel_rfl) (by kernel_rfl) (fun _ _ _ h => h) (Or.inr ⟨by rfl, rfl⟩) (by assumption) ?_
                    try simp only [Act.put, List.getElem_toArray, List.getElem_cons_zero, List.getElem_cons_succ, List.setIfInBounds_toArray, List.set_cons_zero, List.set_cons_succ]
                    refine wpAnyH_take (i := 20) (v := undef) rfl (by kernel_rfl) (by kernel_rfl) (by kernel_rfl) (fun _ _ _ h => h) (Or.inr ⟨by rfl, rfl⟩) (by assumption) ?_
                    try simp only [Act.put, List.getElem_toArray, List.getElem_cons_zero, List.getElem_cons_succ, List.setIfInBounds_toArray, List.set_cons_zero, List.set_cons_succ]
                    refine wpAnyH_take (i := 21) (v := undef) rfl (by kernel_rfl) (by kernel_rfl) (by kernel_rfl) (fun _ _ _ h => h) (Or.inr ⟨by rfl, rfl⟩) (by assumption) ?_
                    try simp only [Act.put, List.getElem_toArray, List.getElem_cons_zero, List.getElem_cons_succ, List.setIfInBounds_toArray, List.set_cons_zero, List.set_cons_succ]
                    refine wpAnyH_take (i := 22) (v := ?_) rfl (by kernel_rfl) (by kernel_rfl) (by kernel_rfl) (fun _ _ _ h => h) (Or.inl ⟨by rfl, ?_⟩) (by assumption) ?_
                    rotate_left
                    · intro w hSw; (try dsimp only at hSw); go_simp <;> with_reducible rfl
                    try simp only [Act.put, List.getElem_toArray, List.getElem_cons_zero, List.getElem_cons_succ, List.setIfInBounds_toArray, List.set_cons_zero, List.set_cons_succ]
                    refine wpAnyH_done (by kernel_rfl) ?_ _
                    have KF : Hid (Kp [] w6 Wd) := hid (kr.out.trans KD.out (by simp))
                    clear hHeld hG cS
                    go_wp2_with fail
                    exact ⟨⟨k + 1, by omega, by go_num, KF⟩, by simp [intOf]; omega⟩
                  | true =>
                    refine wpAnyH_take (i := 12) (v := ?_) rfl (by kernel_rfl) (by kernel_rfl) (by kernel_rfl) (fun _ _ _ h => h) (Or.inl ⟨by rfl, ?_⟩) (by assumption) ?_
                    rotate_left
                    · intro w hSw; (try dsimp only at hSw); go_simp <;> with_reducible rfl
                    try simp only [Act.put, List.getElem_toArray, List.getElem_cons_zero, List.getElem_cons_succ, List.setIfInBounds_toArray, List.set_cons_zero, List.set_cons_succ]
                    refine wpAnyH_take (i := 13) (v := ?_) rfl (by kernel_rfl) (by kernel_rfl) (by kernel_rfl) (fun _ _ _ h => h) (Or.inl ⟨by rfl, ?_⟩) (by assumption) ?_
                    rotate_left
                    · intro w hSw; (try dsimp only at hSw); go_simp <;> with_reducible rfl
                    try simp only [Act.put, List.getElem_toArray, List.getElem_cons_zero, List.getElem_cons_succ, List.setIfInBounds_toArray, List.set_cons_zero, List.set_cons_succ]
                    refine wpAnyH_take (i := 14) (v := ?_) rfl (by kernel_rfl) (by kernel_rfl) (by kernel_rfl) (fun _ _ _ h => h) (Or.inl ⟨by rfl, ?_⟩) (by assumption) ?_
                    rotate_left
                    · intro w hSw; (try dsimp only at hSw); go_simp <;> with_reducible rfl
                    try simp only [Act.put, List.getElem_toArray, List.getElem_cons_zero, List.getElem_cons_succ, List.setIfInBounds_toArray, List.set_cons_zero, List.set_cons_succ]
                    refine wpAnyH_take (i := 15) (v := ?_) rfl (by kernel_rfl) (by kernel_rfl) (by kernel_rfl) (fun _ _ _ h => h) (Or.inl ⟨by rfl, ?_⟩) (by assumption) ?_
                    rotate_left
                    · intro w hSw; (try dsimp only at hSw); go_simp <;> with_reducible rfl
                    try simp only [Act.put, List.getElem_toArray, List.getElem_cons_zero, List.getElem_cons_succ, List.setIfInBounds_toArray, List.set_cons_zero, List.set_cons_succ]
                    refine wpAnyH_take (i := 16) (v := ?_) rfl (by kernel_rfl) (by kernel_rfl) (by kernel_rfl) (fun _ _ _ h => h) (Or.inl ⟨by rfl, ?_⟩) (by assumption) ?_
                    rotate_left
                    · intro w hSw; (try dsimp only at hSw); go_simp <;> with_reducible rfl
                    try simp only [Act.put, List.getElem_toArray, List.getElem_cons_zero, List.getElem_cons_succ, List.setIfInBounds_toArray, List.set_cons_zero, List.set_cons_succ]
                    refine wpAnyH_take (i := 17) (v := ?_) rfl (by kernel_rfl) (by kernel_rfl) (by kernel_rfl) (fun _ _ _ h => h) (Or.inl ⟨by rfl, ?_⟩) (by assumption) ?_
                    rotate_left
                    · intro w hSw; (try dsimp only at hSw); go_simp <;> with_reducible rfl
                    try simp only [Act.put, List.getElem_toArray, List.getElem_cons_zero, List.getElem_cons_succ, List.setIfInBounds_toArray, List.set_cons_zero, List.set_cons_succ]
                    refine wpAnyH_take (i := 18) (v := ?_) rfl (by kernel_rfl) (by kernel_rfl) (by kernel_rfl) (fun _ _ _ h => h) (Or.inl ⟨by rfl, ?_⟩) (by assumption) ?_
                    rotate_left
                    · intro w hSw; (try dsimp only at hSw); go_simp <;> with_reducible rfl
                    try simp only [Act.put, List.getElem_toArray, List.getElem_cons_zero, List.getElem_cons_succ, List.setIfInBounds_toArray, List.set_cons_zero, List.set_cons_succ]
                    refine wpAnyH_take (i := 19) (v := ?_) rfl (by kernel_rfl) (by kernel_rfl) (by kernel_rfl) (fun _ _ _ h => h) (Or.inl ⟨by rfl, ?_⟩) (by assumption) ?_
                    rotate_left
                    · intro w hSw; (try dsimp only at hSw); go_simp <;> with_reducible rfl
                    try simp only [Act.put, List.getElem_toArray, List.getElem_cons_zero, List.getElem_cons_succ, List.setIfInBounds_toArray, List.set_cons_zero, List.set_cons_succ]
                    refine wpAnyH_ready (rs := [20]) (by kernel_rfl) (by simp) ?_
                    refine AllReadyH.cons rfl (fun K hK => ?_) AllReadyH.nil
                    go_simp
                    refine (cS.out _ KD.out).mono ?_
                    rintro e w9 ⟨B, rfl, _, k9⟩
                    have K9 := hid (KD.out.trans k9 (by simp))
                    clear k9
                    (try go_wp2_with fail)
                    refine hK.out _ _ ?_ (fun hHeld => ?_)
                    · exact hG.out _ K9.out
                    clear hK K
                    try simp only [Act.put, List.getElem_toArray, List.getElem_cons_zero, List.getElem_cons_succ, List.setIfInBounds_toArray, List.set_cons_zero, List.set_cons_succ]
                    refine wpAnyH_take (i := 21) (v := ?_) rfl (by kernel_rfl) (by kernel_rfl) (by kernel_rfl) (fun _ _ _ h => h) (Or.inl ⟨by rfl, ?_⟩) (by assumption) ?_
                    rotate_left
                    · intro w hSw; (try dsimp only at hSw); go_simp <;> with_reducible rfl
                    try simp only [Act.put, List.getElem_toArray, List.getElem_cons_zero, List.getElem_cons_succ, List.setIfInBounds_toArray, List.set_cons_zero, List.set_cons_succ]
                    refine wpAnyH_take (i := 22) (v := ?_) rfl (by kernel_rfl) (by kernel_rfl) (by kernel_rfl) (fun _ _ _ h => h) (Or.inl ⟨by rfl, ?_⟩) (by assumption) ?_
                    rotate_left
                    · intro w hSw; (try dsimp only at hSw); go_simp <;> with_reducible rfl
                    try simp only [Act.put, List.getElem_toArray, List.getElem_cons_zero, List.getElem_cons_succ, List.setIfInBounds_toArray, List.set_cons_zero, List.set_cons_succ]
                    refine wpAnyH_done (by kernel_rfl) ?_ _
                    have KF : Hid (Kp [] w6 w9) := hid (kr.out.trans K9.out (by simp))
                    have KFW := hid (Kw6.out.trans KF.out (by simp))
                    clear hHeld hG cS
                    cases B with
                    | true =>
                      try simp only [Bool.not_true, Bool.not_false]
                      go_wp2_with fail
                      exact ⟨⟨k + 1, by omega, by go_num, KF⟩, by simp [intOf]; omega⟩
                    | false =>
                      try simp only [Bool.not_true, Bool.not_false]
                      go_wp2_with fail
                      go_ret
                      exact ⟨rfl, KFW.out.below⟩
                · obtain rfl : k = i := by omega
                  go_wp2_with fail
                  exact ⟨⟨k + 1, by omega, by go_num, kr⟩, by simp [intOf]; omega⟩
            · obtain rfl : i = zl.length := by omega
              go_wp2_with fail
              exact ⟨⟨t + 1, by omega, by go_num, ki⟩, by simp [intOf]; omega⟩
        · obtain ⟨w7, hw7⟩ : ∃ x, x = wr := ⟨_, rfl⟩
          subst hw7
          obtain rfl : t = 2 := by omega
          have Kw7 := hid (Kw6.out.trans kt.out (by simp))
          replace TA := hid (TA.out.kp kt.out)
          have cX := hid (tMrg TA.out.i (HO.out.kp Kw7.out) TA.out.like (Eq.refl (o.map Vn.p)) (by have := HSZ.out; omega))
          go_wp2_with fail
          refine cX.out.mono ?_
          rintro e w8 ⟨aC, cC, LC, rfl, tC, kk⟩
          clear cX
          have Kw8 := hid (Kw7.out.trans kk (by simp))
          have TC := hid tC
          clear tC kk
          have cX := hid (tMrg (HI.out.kp Kw8.out) (HO.out.kp Kw8.out) (Eq.refl (l.map Vn.p)) (Eq.refl (o.map Vn.p)) (by have := HSZ.out; omega))
          go_wp2_with fail
          refine cX.out.mono ?_
          rintro e w9 ⟨aD, cD, LD, rfl, tD, kk⟩
          clear cX
          have Kw9 := hid (Kw8.out.trans kk (by simp))
          have TD := hid tD
          replace TC := hid (TC.out.kp kk)
          clear tD kk
          have cX := hid (tMrg TD.out.i (HM.out.kp Kw9.out) TD.out.like (Eq.refl (m.map Vn.p)) (by have := HSZ.out; omega))
          go_wp2_with fail
          refine cX.out.mono ?_
          rintro e w10 ⟨aE, cE, LE, rfl, tE, kk⟩
          clear cX
          have Kw10 := hid (Kw9.out.trans kk (by simp))
          have TE := hid tE
          replace TC := hid (TC.out.kp kk)
          clear tE kk
          have cX := hid (tSame TC.out.i TE.out.i (TC.out.like.trans ((mrg_comm l m o (fun i x y h1 h2 => HMO.out x (lk_mem h1) y (lk_mem h2) ((lk_id h1).trans (lk_id h2).symm))).trans TE.out.like.symm)))
          go_wp2_with fail
          refine cX.out.mono ?_
          rintro e w11 ⟨rfl, kk⟩
          have Kw11 := hid (Kw10.out.trans kk (by simp))
          clear cX kk
          go_wp2_with fail
          go_ret
          exact ⟨rfl, Kw11.out.below⟩
end Go.Proofs.Ytebkkdoggagcdaa
end

section
namespace Go.Proofs.Ytebkkdoggagcdaa
open Go.ChangeShapes Go.WideShapes Go.ChangeAt Go.RowKit Go.Hay
set_option linter.unusedVariables false

set_option maxRecDepth 100000 in
theorem recoverAgainContract (H : Type) (enc : TypeId × Value → H) (W : World) (base : Nat) (args : Array Value) (ds gs : List (DataW H)) (before : List MemPlace)
    (hval : ∀ (j : Nat) t v, Try.f7.params[j]? = some t → args[j]? = some v → Value.okWide Try.prog W .any base t v)
    (hW : DataW.Whole enc Try.prog Try.f7.params.toList Rows.recoverAgainSpec.vars false W args.toList ds gs before)
    (hsz : (DataW.weightsEach Try.prog (Try.f7.params.toList ++ (Rows.OpenSpec.upto Rows.recoverAgainSpec).bare.plain.varTypes Try.prog) (ds ++ gs)).all (· ≤ reachBytes) = true)
    (hk : Rows.uptoSmall H (ds ++ gs) = true) :
    Calls Try.prog 7 args W fun e W' => ∃ v, e = .returned v ∧ Rows.recoverAgainSpec.post enc Try.prog Try.f7 false true false false W args v W' := by
  have hW' := hW
  obtain ⟨p, q, hA0, hV, rfl, hfz, hnd⟩ := hW
  have hA : DataW.TrodAll enc Try.prog W 0 (fun _ => true) true Try.f7.params.toList args.toList ds p := hA0
  rw [Try.params7] at hA hval hsz
  obtain ⟨v0, vs0, d0, ds0, p0, q0, hargs, rfl, rfl, h0, r0⟩ := trodAll_cons hA
  obtain ⟨v1, vs1, d1, ds1, p1, q1, rfl, rfl, rfl, h1, r1⟩ := trodAll_cons r0
  obtain ⟨v2, vs2, d2, ds2, p2, q2, rfl, rfl, rfl, h2, r2⟩ := trodAll_cons r1
  obtain ⟨rfl, rfl, rfl⟩ := trodAll_nil r2
  obtain rfl : args = #[v0, v1, v2] := by cases args; simp_all
  obtain ⟨rfl, rfl⟩ := trodVars_none hV
  obtain ⟨a0, len0, cap0, rfl⟩ := okWide_slice Try.underlying22 (hval 0 22 v0 rfl rfl)
  have k0 := h0
  have lt0 : ∀ x ∈ p0, x.block < W.heap.size := by obtain ⟨m, hm⟩ := k0; exact DataW.trod_lt m _ _ _ hm
  obtain ⟨l0, rfl, hs0, hok0, hl0, hm0, hn0, hfit0, hbk0, hcp0⟩ := openVers h0
  obtain ⟨hc0, hq0⟩ := hfit0 (List.all_eq_true.2 fun x hx => List.all_eq_true.1 hsz x (by simp [DataW.weightsEach]; first | exact .inl hx | exact .inr hx | exact .inr (.inl hx) | exact .inr (.inr hx) | exact hx))
  obtain ⟨a1, len1, cap1, rfl⟩ := okWide_slice Try.underlying22 (hval 1 22 v1 rfl rfl)
  have k1 := h1
  have lt1 : ∀ x ∈ p1, x.block < W.heap.size := by obtain ⟨m, hm⟩ := k1; exact DataW.trod_lt m _ _ _ hm
  obtain ⟨l1, rfl, hs1, hok1, hl1, hm1, hn1, hfit1, hbk1, hcp1⟩ := openVers h1
  obtain ⟨hc1, hq1⟩ := hfit1 (List.all_eq_true.2 fun x hx => List.all_eq_true.1 hsz x (by simp [DataW.weightsEach]; first | exact .inl hx | exact .inr hx | exact .inr (.inl hx) | exact .inr (.inr hx) | exact hx))
  obtain ⟨a2, len2, cap2, rfl⟩ := okWide_slice Try.underlying22 (hval 2 22 v2 rfl rfl)
  have k2 := h2
  have lt2 : ∀ x ∈ p2, x.block < W.heap.size := by obtain ⟨m, hm⟩ := k2; exact DataW.trod_lt m _ _ _ hm
  obtain ⟨l2, rfl, hs2, hok2, hl2, hm2, hn2, hfit2, hbk2, hcp2⟩ := openVers h2
  obtain ⟨hc2, hq2⟩ := hfit2 (List.all_eq_true.2 fun x hx => List.all_eq_true.1 hsz x (by simp [DataW.weightsEach]; first | exact .inl hx | exact .inr hx | exact .inr (.inl hx) | exact .inr (.inr hx) | exact hx))
  have hbk := of_decide_eq_true hk
  simp only [List.append_nil, Rows.uptoBulkAll] at hbk
  clear hA0
  refine (againWalk a0 a1 a2 cap0 cap1 cap2 l0 l1 l2 W ⟨hs0, hn0, by omega, fun y hy => (hok0 y hy).ok (hq0 y hy), fun y hy => (hok0 y hy).rg⟩ ⟨hs1, hn1, by omega, fun y hy => (hok1 y hy).ok (hq1 y hy), fun y hy => (hok1 y hy).rg⟩ ⟨hs2, hn2, by omega, fun y hy => (hok2 y hy).ok (hq2 y hy), fun y hy => (hok2 y hy).rg⟩ (by omega)).mono fun e W' ⟨he, bel⟩ => ?_
  subst he
  exact ⟨_, rfl, _, _, _, [], _, [], hW', trodAll_mk1 (shut_bool Try.underlying4 _), (trodAll_cons_mk (Below.trod Try.laidOut (by kernel_rfl) (of_decide_eq_true (by kernel_rfl)) k0 bel lt0) (trodAll_cons_mk (Below.trod Try.laidOut (by kernel_rfl) (of_decide_eq_true (by kernel_rfl)) k1 bel lt1) (trodAll_cons_mk (Below.trod Try.laidOut (by kernel_rfl) (of_decide_eq_true (by kernel_rfl)) k2 bel lt2) trodAll_mk0))), rfl, bel.frame _, fun h => by cases h⟩

set_option maxRecDepth 100000 in
theorem recoverAgainLifted (os : Os) (started : os.Started) (H : Type) (enc : TypeId × Value → H) (F : Stop.Interp) :
    ReturnsInHanded {} Try.checked os 7 .any ((Rows.OpenSpec.upto Rows.recoverAgainSpec).pre6 enc Try.prog Try.f7 Rows.recoverAgainUptoRow.domain false) (((Rows.OpenSpec.upto Rows.recoverAgainSpec).at F).post enc Try.prog Try.f7 false true false false) := by
  refine returnsInHanded_of_cond_sized (C := Try.checked) (s := Rows.OpenSpec.upto Rows.recoverAgainSpec) (k := Rows.uptoSmall) rfl Try.own started (by kernel_rfl) Try.func7
    (OpenSpec.witness (enc := enc) (C := Try.checked) (s := Rows.OpenSpec.upto Rows.recoverAgainSpec) (k := Rows.uptoSmall) rfl false ⟨#[], #[.slice none 0 0, .slice none 0 0, .slice none 0 0], []⟩ 8 (by kernel_rfl) (by kernel_rfl) (by kernel_rfl)
      (x := ([.nil, .nil, .nil], [], [])) (by kernel_rfl) rfl (by kernel_rfl)) ?_
  intro W base args ds gs before hval hW _ hk hsz _
  exact recoverAgainContract H enc W base args ds gs before hval hW hsz hk

theorem RecoverAgain_holds : Rows.RecoverAgainUptoSaid :=
  OpenClaim.holds_of_cond 7 Try.f7 rfl rfl rfl rfl rfl rfl rfl ⟨rfl, rfl, rfl, rfl, rfl⟩ rfl rfl rfl rfl rfl (by kernel_rfl) Try.func7 (by kernel_rfl)
    (of_decide_eq_true (by kernel_rfl)) (by unfold Func.isWrapper; first | (rw [if_pos (by decide +kernel)]; kernel_rfl) | (rw [if_neg (by decide +kernel)]; exact ⟨rfl, rfl⟩))
    (fun os started H enc _ F => recoverAgainLifted os started H enc F)

#print axioms RecoverAgain_holds
end Go.Proofs.Ytebkkdoggagcdaa
end

/- Keys written: the reference's Key. -/
import Derived.Test.YtlehalhficlenaaRenc
namespace Go.Proofs.Ytlehalhficlenaa
open Go.RowKit Go.Hay
set_option linter.unusedVariables false
set_option linter.unusedSimpArgs false

/-- An int in a key, as an unsigned number. -/
def n64 (n : Int) : Nat := u64 (n + 9223372036854775808)
theorem n64_lt (n : Int) : n64 n < 18446744073709551616 := by unfold n64 u64; omega
theorem wrap_n64 (n : Int) : IntKind.u64.wrap (IntKind.u64.wrap n + 9223372036854775808) = (n64 n : Int) := by
  rw [IntKind.wrap_u64, IntKind.wrap_u64]; unfold n64 u64; omega
theorem keyB_low (x : Val) (h : x.k = 0 ∨ x.k = 1) : keyB x = rowB x := by
  unfold keyB rowB fixB
  have h3 : ¬ x.k = 3 := by omega
  rw [if_neg h3, if_neg h3]
  rcases h with h | h
  · rw [if_pos h, if_pos h]
  · have h0 : ¬ x.k = 0 := by omega
    rw [if_neg h0, if_neg h0, if_pos h, if_pos h]
theorem keyB_int (x : Val) (h : x.k = 2) : keyB x = octet 2 :: be (n64 x.n) 8 := by simp [keyB, fixB, h, octet, n64]
theorem keyB_text (x : Val) (h : x.k = 3) : keyB x = octet 3 :: (escK x.t.data.toList ++ [0, 0]) := by simp [keyB, h, octet]
theorem ownFar {k : Nat} {v v' : Value} {w w' : World} (h : k ∉ own v) (hg : Grew v w v' w') (hk : k < w.heap.size) : k ∉ own v' := fun hm => by
  rcases hg.new _ hm with h' | h'
  · exact h h'
  · omega
theorem notNew {w w1 : World} {v : Value} (h : New w v w1) (hr : ∀ k ∈ own v, k < w1.heap.size) : w1.heap.size ∉ own v := fun hk => by have := hr _ hk; omega

set_option maxHeartbeats 8000000 in
set_option maxRecDepth 100000 in
theorem cRefKey (a : Option Addr) (ca : Nat) (l : List Val) (w : World) (ha : Vals w a l) (hl : l.length ≤ 9223372036854775807) :
    Calls Try.prog 7 #[.slice a l.length ca] w (Wrt w (keyS l)) := by
  have hR := fun w' (k : Kp [] w w') => cRefRights a ca l w' (ha.kept k) hl
  obtain ⟨R, HR⟩ : ∃ R : Bool, Hid (okR l = R) := ⟨_, rfl⟩
  rw [HR.out] at hR
  have HS : Hid (keyS l = if R = true then (keysB l, 0) else ([], 30)) := by show _ = _; unfold keyS; rw [HR.out]
  cases R
  · have HS2 : Hid (keyS l = ([], 30)) := HS
    clear HS
    go_enter Try.func7, Try.ntmps7
    go_wp2_with fail
    refine (hR _ (Kp.refl _ _)).mono ?_
    rintro e w1 ⟨rfl, k1⟩
    go_wp2_with fail
    go_ret2
    exact ⟨none, 0, [], 30, HS2, rfl, Row.nil _, New.nil k1 _, by simp⟩
  · have HS2 : Hid (keyS l = (keysB l, 0)) := HS
    have h16 := okR_len HR.out
    have hal := okR_all HR.out
    have HA := hid hal
    clear HS hal
    go_enter Try.func7, Try.ntmps7
    go_wp2_with fail
    refine (hR _ (Kp.refl _ _)).mono ?_
    rintro e w1 ⟨rfl, k1⟩
    go_wp2_with fail
    go_loopw [5, 6] (fun v i wn => ∃ (j : Nat) (cur : List UInt8) (a' : Option Addr) (c' : Nat), j ≤ l.length ∧ i = .int .i64 j ∧ v = .slice a' cur.length c' ∧ Row wn (.slice a' cur.length c') cur ∧ Hid (cur = (l.take j).flatMap keyB) ∧ New w (.slice a' cur.length c') wn) (fun _ i _ => l.length - (intOf i).toNat)
    case atStart => exact ⟨0, [], none, 0, Nat.zero_le _, rfl, rfl, Row.nil _, rfl, New.nil k1 _⟩
    case round =>
      obtain ⟨j, cur, a', c', hj, rfl, rfl, hrow, hcur, hN⟩ := hrel
      have hcl : cur.length ≤ 2200 := by
        have := flat_length (f := keyB) (m := 131) (fun x hx => keyB_length hx) (l.take j) (allR_take HA.out j)
        rw [hcur.out]
        simp at this ⊢
        omega
      by_cases hjm : j < l.length
      · obtain ⟨g, o, rfl, a0, a1, a2, a3⟩ := (ha.kept hN.kp).at j hjm
        have hst := hid (flat_take keyB l j hjm)
        have hxr := allR_at HA.out j hjm
        generalize l[j] = x at *
        have hkind := right_kind hxr
        have htext := fun h => right_text hxr h
        have hxl := rowB_length hxr
        have hone := fun w' => cOne x hxr w'
        obtain ⟨kb, Hkb⟩ : ∃ kb : List UInt8, Hid (keyB x = kb) := ⟨_, rfl⟩
        have hst2 : Hid ((l.take (j + 1)).flatMap keyB = cur ++ kb) := by show _ = _; rw [hst.out, hcur.out, Hkb.out]
        have hno := notNew hN hrow.lt
        have bA := Box4.new wr (.int .i64 x.k) (.bool x.b) (.int .i64 x.n) (.string x.t) 35
        have hNA := hN.post (kpNew wr (.cells #[.int .i64 x.k, .bool x.b, .int .i64 x.n, .string x.t] 35))
        have hrA := rowKeep hrow (kpNew wr (.cells #[.int .i64 x.k, .bool x.b, .int .i64 x.n, .string x.t] 35))
        clear hst hcur
        by_cases hk2 : x.k < 2
        · have h1 : Hid (kb = rowB x) := Hkb.out.symm.trans (keyB_low x (by omega))
          clear htext hkind hxr Hkb
          generalize rowB x = rb at *
          obtain ⟨xk, xb, xn, xt⟩ := x
          unfold Val.v at hone
          dsimp only at a0 a1 a2 a3 hone hk2 bA hNA hrA
          go_wp2_with fail
          refine (hone _).mono ?_
          rintro e w2 ⟨v2, rfl, hr2, hn2⟩
          obtain ⟨a2', c2', rfl, hs2, _⟩ := hr2.sees
          go_wp2_with (at_builtin; refine wpAppR rfl _ _ rfl _ cur rfl (rowKeep hrA hn2.kp) _ _ _ rb rfl rfl hs2 (by omega) ?_)
          intro b3 a3 c3 w3 hb3 _ hr3 hg3
          have hN2 := (hNA.post hn2.kp).grew hg3
          go_wp2_with fail
          exact ⟨⟨j + 1, b3, a3, c3, by omega, by go_num, rfl, hr3, by show _ = _; rw [hst2.out, hb3.out, h1.out], hN2⟩, by simp [intOf]; omega⟩
        · clear hone hxl
          by_cases hx2 : x.k = 2
          · have h1 : Hid (kb = octet 2 :: be (n64 x.n) 8) := Hkb.out.symm.trans (keyB_int x hx2)
            clear htext hkind hxr Hkb
            obtain ⟨xk, xb, xn, xt⟩ := x
            dsimp only at a0 a1 a2 a3 hk2 hx2 h1 bA hNA hrA
            subst hx2
            have hu := hid (wrap_n64 xn)
            have hu2 := n64_lt xn
            have hL := fun w => cRefNumber (n64 xn) w (by omega) (by omega)
            rw [Int.toNat_natCast] at hL
            have hbl := be_length (n64 xn) 8
            go_wp2_with (at_builtin; refine wpAppR rfl _ _ rfl _ cur rfl (rowKeep hrA (kpNew _ _)) _ _ _ [octet 2] rfl rfl (seesOne _ (by simp) 2 (by omega) (by omega) _) (by simp; omega) ?_)
            intro b3 a3 c3 w3 hb3 hl3 hr3 hg3
            have hl3' : b3.length ≤ 2201 := by have : b3.length ≤ cur.length + 1 := hl3; omega
            have hN3 := (hNA.post (kpNew _ _)).grew hg3
            have bC := boxGrew (boxKeep bA (kpNew _ _)) hg3 hno
            have q0 := bC.c0; have q1 := bC.c1; have q2 := bC.c2; have q3 := bC.c3
            clear hl3
            go_wp2_with fail
            rw [hu.out]
            refine (hL _).mono ?_
            rintro e w4 ⟨v4, rfl, hr4, ho4, k4⟩
            obtain ⟨a4, c4, rfl, hs4, _⟩ := hr4.sees
            go_wp2_with (at_builtin; refine wpAppR rfl _ _ rfl _ b3 rfl (rowKeep hr3 k4) _ _ _ (be (n64 xn) 8) rfl rfl hs4 (by simp [be_length]; omega) ?_)
            intro b5 a5 c5 w5 hb5 _ hr5 hg5
            have hN5 := (hN3.post k4).grew hg5
            go_wp2_with fail
            exact ⟨⟨j + 1, b5, a5, c5, by omega, by go_num, rfl, hr5, by show _ = _; rw [hst2.out, hb5.out, hb3.out, h1.out]; simp, hN5⟩, by simp [intOf]; omega⟩
          · have hx3 : x.k = 3 := by omega
            have h64 := htext hx3
            have h1 : Hid (kb = octet 3 :: (escK x.t.data.toList ++ [0, 0])) := Hkb.out.symm.trans (keyB_text x hx3)
            clear htext hkind hxr Hkb hx2
            obtain ⟨xk, xb, xn, t⟩ := x
            dsimp only at a0 a1 a2 a3 hk2 hx3 h1 h64 bA hNA hrA
            subst hx3
            have hlen : t.data.toList.length = t.size := by rw [Array.length_toList]; rfl
            go_wp2_with (at_builtin; refine wpAppR rfl _ _ rfl _ cur rfl (rowKeep hrA (kpNew _ _)) _ _ _ [octet 3] rfl rfl (seesOne _ (by simp) 3 (by omega) (by omega) _) (by simp; omega) ?_)
            intro b3 a3 c3 w3 hb3 hl3 hr3 hg3
            have hN3 := (hNA.post (kpNew _ _)).grew hg3
            have bC := boxGrew (boxKeep bA (kpNew _ _)) hg3 hno
            have hno3 : wr.heap.size ∉ own (.slice a3 b3.length c3) := fun h => by
              rcases hg3.new _ h with h' | h'
              · exact hno h'
              · simp at h'; omega
            have hWr : wr.heap.size < w3.heap.size := bC.lt
            have q0 := bC.c0; have q1 := bC.c1; have q2 := bC.c2; have q3 := bC.c3
            clear hl3 hg3 bA hNA hrA hrow hN
            go_wp2_with fail
            clear q0 q1 q2 q3
            go_loopw [5, 8] (fun v i wn => ∃ (q : Nat) (cu : List UInt8) (a' : Option Addr) (c' : Nat), q ≤ t.size ∧ i = .int .i64 q ∧ v = .slice a' cu.length c' ∧ Row wn (.slice a' cu.length c') cu ∧ Hid (cu = cur ++ octet 3 :: escK (t.data.toList.take q)) ∧ New w (.slice a' cu.length c') wn ∧ wr.heap.size ∉ own (.slice a' cu.length c') ∧ Box4 wn wr.heap.size (.int .i64 3) (.bool xb) (.int .i64 xn) (.string t)) (fun _ i _ => t.size - (intOf i).toNat)
            case atStart => exact ⟨0, b3, a3, c3, Nat.zero_le _, rfl, rfl, hr3, by show _ = _; rw [hb3.out]; rfl, hN3, hno3, bC⟩
            case round =>
              obtain ⟨q, cu, a', c', hq, rfl, rfl, hrow, hcu, hN, hno, bB⟩ := hrel
              have hcul : cu.length ≤ 2400 := by
                have := escK_length (t.data.toList.take q)
                rw [hcu.out]
                simp at this ⊢
                omega
              have q0 := bB.c0; have q1 := bB.c1; have q2 := bB.c2; have q3 := bB.c3
              by_cases hqs : q < t.size
              · have hql : q < t.data.toList.length := by rw [hlen]; exact hqs
                have hes := escK_take t.data.toList q hql
                obtain ⟨y, hcj⟩ : ∃ y : UInt8, t[q] = y := ⟨_, rfl⟩
                rw [show t.data.toList[q] = y from hcj] at hes
                have HES := hid hes
                have hy := y.toNat_lt
                clear hes
                have hlt := bB.lt
                go_wp2_with (at_builtin; refine wpAppR rfl _ _ rfl _ cu rfl (rowKeep hrow (kpNew _ _)) _ _ _ [octet y.toNat] rfl rfl (seesOne _ (by simp) y.toNat (by omega) (by omega) _) (by simp; omega) ?_)
                intro b5 a5 c5 w5 hb5 hl5 hr5 hg5
                have hl5' : b5.length ≤ 2401 := by have : b5.length ≤ cu.length + 1 := hl5; omega
                have hN5 := (hN.post (kpNew _ _)).grew hg5
                have bD := boxGrew (boxKeep bB (kpNew _ _)) hg5 hno
                have hno5 := ownFar hno hg5 (by simp; omega)
                clear q0 q1 q2 q3 hl5
                have q0 := bD.c0; have q1 := bD.c1; have q2 := bD.c2; have q3 := bD.c3
                by_cases hy0 : y = 0
                · subst hy0
                  have hlt5 := bD.lt
                  go_wp2_with (at_builtin; refine wpAppR rfl _ _ rfl _ b5 rfl (rowKeep hr5 (kpNew _ _)) _ _ _ [octet 255] rfl rfl (seesOne _ (by simp) 255 (by omega) (by omega) _) (by simp; omega) ?_)
                  intro b6 a6 c6 w6 hb6 _ hr6 hg6
                  have hN6 := (hN5.post (kpNew _ _)).grew hg6
                  have bE := boxGrew (boxKeep bD (kpNew _ _)) hg6 hno5
                  have hno6 := ownFar hno5 hg6 (by simp; omega)
                  go_wp2_with fail
                  refine ⟨⟨q + 1, b6, a6, c6, by omega, by go_num, rfl, hr6, ?_, hN6, hno6, bE⟩, by simp [intOf]; omega⟩
                  show _ = _
                  rw [HES.out, hb6.out, hb5.out, hcu.out]
                  simp [octet]
                · have hyn : ((y.toNat : Int) == 0) = false := by
                    have : y.toNat ≠ 0 := fun h => hy0 (UInt8.toNat_inj.1 h)
                    simp; omega
                  go_wp2_with fail
                  refine ⟨⟨q + 1, b5, a5, c5, by omega, by go_num, rfl, hr5, ?_, hN5, hno5, bD⟩, by simp [intOf]; omega⟩
                  show _ = _
                  rw [HES.out, hb5.out, hcu.out, if_neg hy0, octet_nat]
                  simp
              · obtain rfl : q = t.size := by omega
                rw [List.take_of_length_le (by omega)] at hcu
                go_wp2_with (at_builtin; refine wpAppR rfl _ _ rfl _ cu rfl (rowKeep hrow (kpNew _ _)) _ _ _ [octet 0, octet 0] rfl rfl (seesTwo _ (by simp) 0 0 (by omega) (by omega) (by omega) (by omega) _) (by simp; omega) ?_)
                intro b7 a7 c7 w7 hb7 _ hr7 hg7
                have hN7 := (hN.post (kpNew _ _)).grew hg7
                go_wp2_with fail
                exact ⟨⟨j + 1, b7, a7, c7, by omega, by go_num, rfl, hr7, by show _ = _; rw [hst2.out, hb7.out, hcu.out, h1.out]; simp [octet], hN7⟩, by simp [intOf]; omega⟩
      · obtain rfl : j = l.length := by omega
        rw [List.take_length] at hcur
        go_wp2_with fail
        go_ret2
        exact ⟨_, _, cur, 0, by show _ = _; rw [HS2.out, hcur.out]; rfl, rfl, hrow, hN, by omega⟩
end Go.Proofs.Ytlehalhficlenaa

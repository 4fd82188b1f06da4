/- A value's bytes, more: the program's putKey, the reference's One. -/
import Derived.Test.YtlehalhficlenaaRput
namespace Go.Proofs.Ytlehalhficlenaa
open Go.RowKit Go.Hay
set_option linter.unusedVariables false
set_option linter.unusedSimpArgs false

theorem escK_take (l : List UInt8) (j : Nat) (h : j < l.length) : escK (l.take (j + 1)) = escK (l.take j) ++ (if l[j] = 0 then [0, 255] else [l[j]]) := by
  unfold escK
  rw [List.take_succ_eq_append_getElem h, List.flatMap_append]
  simp
theorem escK_length (l : List UInt8) : (escK l).length ≤ 2 * l.length := by
  induction l with
  | nil => simp [escK]
  | cons x l ih =>
    have e : escK (x :: l) = (if x = 0 then [0, 255] else [x]) ++ escK l := by simp [escK]
    rw [e, List.length_append, List.length_cons]
    split <;> simp <;> omega
theorem notOwn {a : Option Addr} {n c : Nat} {bs : List UInt8} {w : World} {o : Obj} {v' : Value} {w' : World} (hr : Row w (.slice a n c) bs) (hg : Grew (.slice a n c) (w.alloc o) v' w') : w.heap.size ∉ own v' := fun h => by
  rcases hg.new _ h with h1 | h1
  · have := hr.lt _ h1; omega
  · simp at h1; omega

set_option maxHeartbeats 4000000 in
set_option maxRecDepth 100000 in
theorem cPutKey (x : Val) (hx : x.right = true) (a : Option Addr) (c : Nat) (bs : List UInt8) (w : World) (hr : Row w (.slice a bs.length c) bs) (hb : bs.length ≤ 100000000000) :
    Calls Try.prog 16 #[.slice a bs.length c, x.v] w fun e w' => ∃ v', e = .returned v' ∧ Row w' v' (bs ++ keyB x) ∧ Grew (.slice a bs.length c) w v' w' := by
  by_cases h3 : x.k = 3
  · have h64 := right_text hx h3
    have e : keyB x = 3 :: (escK x.t.data.toList ++ [0, 0]) := by unfold keyB; rw [if_pos h3]
    have HE := hid e
    obtain ⟨k, b, n, t⟩ := x
    unfold Val.v
    dsimp only at h3 h64 HE ⊢
    subst h3
    clear hx e
    have hlen : t.data.toList.length = t.size := by rw [Array.length_toList]; rfl
    have bA := Box4.new w (.int .i64 3) (.bool b) (.int .i64 n) (.string t) 35
    have kW : Kp [] w (w.alloc (.cells #[.int .i64 3, .bool b, .int .i64 n, .string t] 35)) := (Kp.refl _ _).alloc _
    have hrW := rowKeep hr kW
    have hqn : w.heap.size ∉ own (.slice a bs.length c) := fun h => by have := hr.lt _ h; omega
    have hno := fun v' w' => notOwn (v' := v') (w' := w') (o := .cells #[.int .i64 3, .bool b, .int .i64 n, .string t] 35) hr
    go_enter Try.func16, Try.ntmps16
    go_wp2_with (at_builtin; refine wpAppR rfl _ _ rfl (.slice a bs.length c) bs rfl (rowKeep hrW (kpNew _ _)) _ _ _ [octet 3] rfl rfl (seesOne _ (by simp) 3 (by omega) (by omega) _) (by simp; omega) ?_)
    intro b1 a1 c1 w1 hb1 hl1 hr1 hg1
    have hg := hg1.pre (kpNew _ _)
    have bA1 := boxGrew (boxKeep bA (kpNew _ _)) hg1 hqn
    have q0 := bA1.c0; have q1 := bA1.c1; have q2 := bA1.c2; have q3 := bA1.c3
    clear hrW hl1 hg1
    go_wp2_with fail
    clear q0 q1 q2 q3
    generalize w.alloc (.cells #[.int .i64 3, .bool b, .int .i64 n, .string t] 35) = W at *
    go_loopw [0, 18] (fun v i wn => ∃ (j : Nat) (cur : List UInt8) (a' : Option Addr) (c' : Nat), j ≤ t.size ∧ i = .int .i64 j ∧ v = .slice a' cur.length c' ∧ Row wn (.slice a' cur.length c') cur ∧ Hid (cur = bs ++ 3 :: escK (t.data.toList.take j)) ∧ Grew (.slice a bs.length c) W (.slice a' cur.length c') wn ∧ Box4 wn w.heap.size (.int .i64 3) (.bool b) (.int .i64 n) (.string t)) (fun _ i _ => t.size - (intOf i).toNat)
    case atStart => exact ⟨0, b1, a1, c1, Nat.zero_le _, rfl, rfl, hr1, by show _ = _; rw [hb1.out]; rfl, hg, bA1⟩
    case round =>
      obtain ⟨j, cur, a', c', hj, rfl, rfl, hrow, hcur, hgr, bB⟩ := hrel
      have hcl : cur.length ≤ 100000000200 := by
        have := escK_length (t.data.toList.take j)
        rw [hcur.out]
        simp at this ⊢
        omega
      have q0 := bB.c0; have q1 := bB.c1; have q2 := bB.c2; have q3 := bB.c3
      by_cases hjs : j < t.size
      · have hjl : j < t.data.toList.length := by rw [hlen]; exact hjs
        have hst := escK_take t.data.toList j hjl
        obtain ⟨y, hcj⟩ : ∃ y : UInt8, t[j] = y := ⟨_, rfl⟩
        rw [show t.data.toList[j] = y from hcj] at hst
        have HS := hid hst
        have hy := y.toNat_lt
        clear hst
        have hno1 := hno _ _ hgr
        go_wp2_with (at_builtin; refine wpAppR rfl _ _ rfl _ cur rfl (rowKeep hrow (kpNew _ _)) _ _ _ [octet y.toNat] rfl rfl (seesOne _ (by simp) y.toNat (by omega) (by omega) _) (by simp; omega) ?_)
        intro b2 a2 c2 w2 hb2 hl2 hr2 hg2
        have hl2' : b2.length ≤ 100000000201 := by have : b2.length ≤ cur.length + 1 := hl2; omega
        have hgg := hgr.trans (hg2.pre (kpNew _ _))
        have bC := boxGrew (boxKeep bB (kpNew _ _)) hg2 hno1
        clear q0 q1 q2 q3 hl2
        have q0 := bC.c0; have q1 := bC.c1; have q2 := bC.c2; have q3 := bC.c3
        by_cases hy0 : y = 0
        · subst hy0
          have hno2 := hno _ _ hgg
          go_wp2_with (at_builtin; refine wpAppR rfl _ _ rfl _ b2 rfl (rowKeep hr2 (kpNew _ _)) _ _ _ [octet 255] rfl rfl (seesOne _ (by simp) 255 (by omega) (by omega) _) (by simp; omega) ?_)
          intro b3 a3 c3 w3 hb3 _ hr3 hg3
          have hggg := hgg.trans (hg3.pre (kpNew _ _))
          have bD := boxGrew (boxKeep bC (kpNew _ _)) hg3 hno2
          go_wp2_with fail
          refine ⟨⟨j + 1, b3, a3, c3, by omega, by go_num, rfl, hr3, ?_, hggg, bD⟩, by simp [intOf]; omega⟩
          show _ = _
          rw [HS.out, hb3.out, hb2.out, hcur.out]
          simp [octet]
        · have hyn : ((y.toNat : Int) == 0) = false := by
            have : y.toNat ≠ 0 := fun h => hy0 (UInt8.toNat_inj.1 h)
            simp; omega
          go_wp2_with fail
          refine ⟨⟨j + 1, b2, a2, c2, by omega, by go_num, rfl, hr2, ?_, hgg, bC⟩, by simp [intOf]; omega⟩
          show _ = _
          rw [HS.out, hb2.out, hcur.out, if_neg hy0, octet_nat]
          simp
      · obtain rfl : j = t.size := by omega
        rw [List.take_of_length_le (by omega)] at hcur
        go_wp2_with (at_builtin; refine wpAppR rfl _ _ rfl _ cur rfl (rowKeep hrow (kpNew _ _)) _ _ _ [octet 0, octet 0] rfl rfl (seesTwo _ (by simp) 0 0 (by omega) (by omega) (by omega) (by omega) _) (by simp; omega) ?_)
        intro b2 a2 c2 w2 hb2 _ hr2 hg2
        have hgg := (hgr.trans (hg2.pre (kpNew _ _))).pre kW
        go_wp2_with fail
        go_ret
        refine ⟨_, rfl, ?_, hgg⟩
        rw [show bs ++ keyB ⟨3, b, n, t⟩ = b2 by rw [hb2.out, hcur.out, HE.out]; simp [octet]]
        exact hr2
  · have hk : x.k = 0 ∨ x.k = 1 ∨ x.k = 2 := by have := right_kind hx; omega
    have e : keyB x = fixB x 9223372036854775808 := by unfold keyB; rw [if_neg h3]
    have HE := hid e
    have hP := fun w' (h : Row w' (.slice a bs.length c) bs) => cPutFixed x hk 9223372036854775808 a c bs w' h (by omega)
    rw [← HE.out] at hP
    have hk3 : (x.k == 3) = false := by simpa using h3
    generalize keyB x = rb at *
    obtain ⟨k, b, n, t⟩ := x
    unfold Val.v at *
    dsimp only at hP hk3 ⊢
    clear hx e HE hk h3
    have bA := Box4.new w (.int .i64 k) (.bool b) (.int .i64 n) (.string t) 35
    have kW : Kp [] w (w.alloc (.cells #[.int .i64 k, .bool b, .int .i64 n, .string t] 35)) := (Kp.refl _ _).alloc _
    have hrW := rowKeep hr kW
    have q0 := bA.c0; have q1 := bA.c1; have q2 := bA.c2; have q3 := bA.c3
    go_enter Try.func16, Try.ntmps16
    go_wp2_with fail
    refine (hP _ hrW).mono ?_
    rintro e w1 ⟨v1, rfl, hr1, hg1⟩
    go_wp2_with fail
    go_ret
    exact ⟨_, rfl, hr1, hg1.pre kW⟩
/-- A row that grew, all new. -/
structure New (w : World) (v : Value) (w' : World) : Prop where
  kp : Kp [] w w'
  own : ∀ k ∈ Go.Hay.own v, w.heap.size ≤ k
theorem New.grew {w w1 w2 : World} {v v' : Value} (h : New w v w1) (g : Grew v w1 v' w2) : New w v' w2 := by
  obtain ⟨a, b⟩ := g.fresh h.kp h.own
  exact ⟨a, b⟩
theorem New.post {w w1 w2 : World} {v : Value} (h : New w v w1) (k : Kp [] w1 w2) : New w v w2 := ⟨h.kp.trans k (by simp), h.own⟩
theorem New.nil {w w' : World} (k : Kp [] w w') (c : Nat) : New w (.slice none 0 c) w' := ⟨k, by simp [Go.Hay.own, Value.ownBlock]⟩
theorem New.pre {w w0 w1 : World} {v : Value} (k : Kp [] w w0) (h : New w0 v w1) : New w v w1 := ⟨k.trans h.kp (by simp), fun x hx => Nat.le_trans k.size (h.own x hx)⟩

set_option maxHeartbeats 4000000 in
set_option maxRecDepth 100000 in
theorem cOne (x : Val) (hx : x.right = true) (w : World) :
    Calls Try.prog 18 #[x.v] w fun e w' => ∃ v, e = .returned v ∧ Row w' v (rowB x) ∧ New w v w' := by
  have hkind := right_kind hx
  have htext := fun h => right_text hx h
  obtain ⟨rb, Hrb⟩ : ∃ rb : List UInt8, Hid (rowB x = rb) := ⟨_, rfl⟩
  rw [Hrb.out]
  obtain ⟨k, b, n, t⟩ := x
  unfold Val.v
  dsimp only at hkind htext ⊢
  clear hx
  have bA := Box4.new w (.int .i64 k) (.bool b) (.int .i64 n) (.string t) 35
  have kW : Kp [] w (w.alloc (.cells #[.int .i64 k, .bool b, .int .i64 n, .string t] 35)) := (Kp.refl _ _).alloc _
  have hown : ∀ k' ∈ own (.slice (some ⟨w.heap.size + 1, 0, none⟩) 1 1), w.heap.size ≤ k' := by intro k' hk'; simp [own, Value.ownBlock] at hk'; omega
  rcases hkind with rfl | rfl | rfl | rfl
  · have hrw := rowNew (w.alloc (.cells #[.int .i64 0, .bool b, .int .i64 n, .string t] 35)) (q := w.heap.size + 1) (by simp) 0 (by omega) (by omega) 5
    have h1 : Hid (rb = [octet 0]) := by show _ = _; rw [← Hrb.out]; rfl
    clear Hrb htext
    go_enter Try.func18, Try.ntmps18
    go_wp2_with fail
    go_ret
    exact ⟨_, rfl, by rw [h1.out]; exact hrw, kW.trans (kpNew _ _) (by simp), hown⟩
  · have hrw := rowNew (w.alloc (.cells #[.int .i64 1, .bool b, .int .i64 n, .string t] 35)) (q := w.heap.size + 1) (by simp) 1 (by omega) (by omega) 5
    have kV := kW.alloc (.cells #[.int .u8 1] 5)
    clear htext
    cases b
    · have h1 : Hid (rb = [octet 1] ++ [octet 0]) := by show _ = _; rw [← Hrb.out]; rfl
      go_enter Try.func18, Try.ntmps18
      go_wp2_with (at_builtin; refine wpAppR rfl _ _ rfl _ [octet 1] rfl (rowKeep hrw (kpNew _ _)) _ _ _ [octet 0] rfl rfl (seesOne _ (by simp) 0 (by omega) (by omega) _) (by simp) ?_)
      intro b2 a2 c2 w2 hb2 _ hr2 hg2
      have hN := New.grew ⟨kV, hown⟩ (hg2.pre (kpNew _ _))
      go_wp2_with fail
      go_ret
      exact ⟨_, rfl, by rw [show rb = b2 from h1.out.trans (Eq.trans (by simp) hb2.out.symm)]; exact hr2, hN⟩
    · have h1 : Hid (rb = [octet 1] ++ [octet 1]) := by show _ = _; rw [← Hrb.out]; rfl
      go_enter Try.func18, Try.ntmps18
      go_wp2_with (at_builtin; refine wpAppR rfl _ _ rfl _ [octet 1] rfl (rowKeep hrw (kpNew _ _)) _ _ _ [octet 1] rfl rfl (seesOne _ (by simp) 1 (by omega) (by omega) _) (by simp) ?_)
      intro b2 a2 c2 w2 hb2 _ hr2 hg2
      have hN := New.grew ⟨kV, hown⟩ (hg2.pre (kpNew _ _))
      go_wp2_with fail
      go_ret
      exact ⟨_, rfl, by rw [show rb = b2 from h1.out.trans (Eq.trans (by simp) hb2.out.symm)]; exact hr2, hN⟩
  · have hrw := rowNew (w.alloc (.cells #[.int .i64 2, .bool b, .int .i64 n, .string t] 35)) (q := w.heap.size + 1) (by simp) 2 (by omega) (by omega) 5
    have kV := kW.alloc (.cells #[.int .u8 2] 5)
    have bB := boxKeep bA (kpNew _ (.cells #[.int .u8 2] 5))
    clear htext
    have h1 : Hid (rb = [octet 2] ++ be (u64 n) 8) := by show _ = _; rw [← Hrb.out]; simp [rowB, fixB, octet]
    have hu : Hid (IntKind.u64.wrap n = (u64 n : Int)) := by
      show _ = _
      rw [IntKind.wrap_u64]; unfold u64; omega
    have hu2 : u64 n < 18446744073709551616 := by unfold u64; omega
    have hL := fun w => cRefNumber (u64 n) w (by omega) (by omega)
    rw [Int.toNat_natCast] at hL
    go_enter Try.func18, Try.ntmps18
    go_wp2_with fail
    rw [hu.out]
    refine (hL _).mono ?_
    rintro e w2 ⟨v2, rfl, hr2, ho2, k2⟩
    obtain ⟨a2, c2, rfl, hs2, _⟩ := hr2.sees
    have hbl := be_length (u64 n) 8
    go_wp2_with (at_builtin; refine wpAppR rfl _ _ rfl _ [octet 2] rfl (rowKeep hrw k2) _ _ _ (be (u64 n) 8) rfl rfl hs2 (by simp [be_length]) ?_)
    intro b3 a3 c3 w3 hb3 _ hr3 hg3
    have hN := New.grew ⟨kV, hown⟩ (hg3.pre k2)
    go_wp2_with fail
    go_ret
    exact ⟨_, rfl, by rw [show rb = b3 from h1.out.trans (Eq.trans (by simp) hb3.out.symm)]; exact hr3, hN⟩
  · have hrw := rowNew (w.alloc (.cells #[.int .i64 3, .bool b, .int .i64 n, .string t] 35)) (q := w.heap.size + 1) (by simp) 3 (by omega) (by omega) 5
    have kV := kW.alloc (.cells #[.int .u8 3] 5)
    have bB := boxKeep bA (kpNew _ (.cells #[.int .u8 3] 5))
    have h64 := htext rfl
    have h1 : Hid (rb = [octet 3] ++ [octet t.size] ++ t.data.toList) := by show _ = _; rw [← Hrb.out]; simp [rowB, octet]
    have hwr : IntKind.u8.wrap (t.size : Int) = (t.size : Int) := by rw [IntKind.wrap_u8]; omega
    clear htext
    go_enter Try.func18, Try.ntmps18
    go_wp2_with (at_builtin; refine wpAppR rfl _ _ rfl _ [octet 3] rfl (rowKeep hrw (kpNew _ _)) _ _ _ [octet t.size] rfl rfl (seesOne _ (by simp) t.size (by omega) (by omega) _) (by simp) ?_)
    intro b3 a3 c3 w3 hb3 hl3 hr3 hg3
    have hl3' : b3.length ≤ 2 := hl3
    have hN := New.grew ⟨kV, hown⟩ (hg3.pre (kpNew _ _))
    have bC := boxGrew (boxKeep bB (kpNew _ _)) hg3 (by simp [own, Value.ownBlock])
    have q0 := bC.c0; have q1 := bC.c1; have q2 := bC.c2; have q3 := bC.c3
    clear hl3
    go_wp2_with (at_builtin; refine wpAppS rfl _ _ rfl _ b3 rfl hr3 t rfl (by omega) ?_)
    intro b4 a4 c4 w4 hb4 _ hr4 hg4
    go_wp2_with fail
    go_ret
    exact ⟨_, rfl, by rw [show rb = b4 from h1.out.trans (Eq.trans (by rw [hb3.out]; simp) hb4.out.symm)]; exact hr4, hN.grew hg4⟩
end Go.Proofs.Ytlehalhficlenaa

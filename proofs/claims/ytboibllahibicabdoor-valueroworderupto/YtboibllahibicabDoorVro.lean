/- The law: rows, too, are in a total order. -/
import Derived.Test.YtboibllahibicabDoorVsam
import Derived.Test.YtboibllahibicabDoorVfit
import Derived.Test.YtboibllahibicabDoorVapp
import Derived.Test.YtboibllahibicabDoorVali
namespace Go.Proofs.YtboibllahibicabDoor
open Go.RowKit Go.Hay
set_option linter.unusedVariables false
set_option linter.unusedSimpArgs false

theorem Vals.take {w : World} {a : Option Addr} {l : List Val} (h : Vals w a l) (j : Nat) : Vals w a (l.take j) := by
  rcases h with h | ⟨g, o, rfl, hc⟩
  · exact .inl (by simp [h])
  · refine .inr ⟨g, o, rfl, fun i t ht => hc i t ?_⟩
    rw [List.getElem?_take] at ht
    split at ht
    · exact ht
    · cases ht
def allR (l : List Val) : Bool := l.all Val.right
theorem allR_step (l : List Val) (j : Nat) (h : j < l.length) : allR (l.take (j + 1)) = (allR (l.take j) && l[j].right) := by
  unfold allR
  rw [← List.take_append_getElem h, List.all_append]
  simp
/-- Where all are right. -/
def Ims (R : Bool) (x : Int) (s : Bool) : Prop := R = true → (x == 0) = s

set_option maxHeartbeats 8000000 in
set_option maxRecDepth 100000 in
theorem rowOrderWalk (a b c : Option Addr) (na nb nc ca cb cc : Nat) (la lb lc : List Val) (w : World) (ha : Vals w a la) (hb : Vals w b lb) (hc : Vals w c lc) (hna : na = la.length) (hnb : nb = lb.length) (hnc : nc = lc.length)
    (hla : la.length ≤ ca) (hlb : lb.length ≤ cb) (hlc : lc.length ≤ cc) (hma : ca ≤ maxLen) (hmb : cb ≤ maxLen) (hmc : cc ≤ maxLen) (hnila : a = none → ca = 0) (hnilb : b = none → cb = 0) (hsz : la.length + lb.length ≤ 1048576) (ht : Pow w) :
    Calls Tryd.prog 4 #[.slice a na ca, .slice b nb cb, .slice c nc cc] w fun e w' => e = .returned (.bool true) ∧ Below w.heap.size w w' := by
  subst hna hnb hnc
  unfold maxLen at hma hmb hmc
  have hab := fun w' (k : Kp [] w w') => cRows a b ca cb la lb w' (ha.kept k) (hb.kept k) (by omega) (by omega)
  have hbc := fun w' (k : Kp [] w w') => cRows b c cb cc lb lc w' (hb.kept k) (hc.kept k) (by omega) (by omega)
  have hba := fun w' (k : Kp [] w w') => cRows b a cb ca lb la w' (hb.kept k) (ha.kept k) (by omega) (by omega)
  have haa := fun w' (k : Kp [] w w') => cRows a a ca ca la la w' (ha.kept k) (ha.kept k) (by omega) (by omega)
  have hac := fun w' (k : Kp [] w w') => cRows a c ca cc la lc w' (ha.kept k) (hc.kept k) (by omega) (by omega)
  have hsm := fun w' (k : Kp [] w w') => cSame a b ca cb la lb w' (ha.kept k) (hb.kept k) (by omega) (by omega)
  have hle := fun w' (k : Kp [] w w') (h0 : la ≠ []) => cRows a a ca ca (la.take (la.length - 1)) la w' ((ha.kept k).take _) (ha.kept k) (by simp; omega) (by omega)
  have hx := rows_range la lb
  have hy := rows_range lb lc
  have htr := rows_trans la lb lc
  have hims : Ims (allR (la ++ lb)) (rowsV la lb) (sameV la lb) := by
    intro h
    unfold allR at h
    rw [List.all_append, Bool.and_eq_true, List.all_eq_true, List.all_eq_true] at h
    exact rows_same la lb h.1 h.2
  rw [rows_neg la lb] at hba
  rw [rows_self] at haa
  have hle2 : ∀ w' (k : Kp [] w w') (h0 : la ≠ []), Calls Tryd.prog 10 #[.slice a (la.length - 1) ca, .slice a la.length ca] w' fun e w'' => e = .returned (.int .i64 (-1)) ∧ Kp [] w' w'' := by
    intro w' k h0
    have := hle w' k h0
    rw [rows_less la h0, show (la.take (la.length - 1)).length = la.length - 1 by simp] at this
    exact this
  clear hle
  generalize rowsV la lb = x at *
  generalize rowsV lb lc = y at *
  generalize rowsV la lc = z at *
  generalize sameV la lb = sm at *
  have HT := hid htr
  clear htr
  have hwx : IntKind.i64.wrap (-x) = -x := by rw [IntKind.wrap_i64]; omega
  go_enter Tryd.func4, Tryd.ntmps4
  go_wp2_with fail
  refine (hab _ (Kp.refl _ _)).mono ?_
  rintro e w1 ⟨rfl, k1⟩
  go_wp2_with fail
  refine (hbc _ k1).mono ?_
  rintro e w2 ⟨rfl, j2⟩
  have k2 := k1.trans j2 (by simp)
  go_wp2_with fail
  refine (cAlive _ (ht.kept k2)).mono ?_
  rintro e w3 ⟨rfl, j3⟩
  have k3 := k2.trans j3 (by simp)
  go_wp2_with fail
  refine (hba _ k3).mono ?_
  rintro e w4 ⟨rfl, j4⟩
  have k4 := k3.trans j4 (by simp)
  go_wp2_with fail
  refine (haa _ k4).mono ?_
  rintro e w5 ⟨rfl, j5⟩
  have k5 := k4.trans j5 (by simp)
  clear j2 j3 j4 j5 k1 k2 k3 k4 hab hbc hba haa
  by_cases hxx : x ≤ 0
  · by_cases hyy : y ≤ 0
    · have hz : z ≤ 0 := HT.out hxx hyy
      go_wp2_with fail
      refine (hac _ k5).mono ?_
      rintro e w6 ⟨rfl, j6⟩
      have k6 := k5.trans j6 (by simp)
      go_wp2_with (at_builtin; refine wpAppendV rfl _ _ rfl w6 (.slice (some ⟨w6.heap.size, 0, none⟩) 0 0) [] rfl (RowV.fresh (Nat.le_refl _)) a la.length ca la rfl rfl ((ha.kept k6).kept ((Kp.refl _ _).alloc _)) hnila (by simp; omega) ((Kp.refl _ _).alloc _) ?_)
      intro v1 u1 r1 kk1
      have r1 : RowV w6 u1 v1 la := r1
      go_wp2_with (at_builtin; refine wpAppendV rfl _ _ rfl w6 v1 la rfl r1 b lb.length cb lb rfl rfl ((hb.kept k6).kept kk1) hnilb (by omega) kk1 ?_)
      intro v2 u2 r2 kk2
      obtain ⟨a2, c2, rfl, hv2, hc2, hm2⟩ := r2.vals
      obtain ⟨m, Hm⟩ : ∃ m : List Val, Hid (la ++ lb = m) := ⟨_, show la ++ lb = _ from rfl⟩
      have hml : m.length ≤ 1048576 := by rw [← Hm.out, List.length_append]; omega
      rw [Hm.out] at hims hv2 hc2 ⊢
      have kx := k6.trans kk2 (by simp)
      clear r1 kk1 r2 kk2 Hm hm2
      go_wp2_with fail
      go_loopw [9, 54] (fun rt i wn => ∃ j : Nat, j ≤ m.length ∧ i = .int .i64 j ∧ rt = .bool (allR (m.take j)) ∧ Kp [] u2 wn) (fun _ i _ => m.length - (intOf i).toNat)
      case atStart => exact ⟨0, Nat.zero_le _, rfl, rfl, Kp.refl _ _⟩
      case round =>
        obtain ⟨j, hj, rfl, rfl, hk⟩ := hrel
        by_cases hjm : j < m.length
        · obtain ⟨g, o, rfl, a0, a1, a2, a3⟩ := (hv2.kept hk).at j hjm
          have hst := hid (allR_step m j hjm)
          generalize m[j] = v at *
          have h5 := cRefRight v
          obtain ⟨X, HX⟩ : ∃ X : Bool, Hid (v.right = X) := ⟨_, rfl⟩
          rw [HX.out] at h5
          obtain ⟨R, HR⟩ : ∃ R : Bool, Hid (allR (m.take j) = R) := ⟨_, rfl⟩
          have hst2 : Hid (allR (m.take (j + 1)) = (R && X)) := by show _ = _; rw [hst.out, HR.out, HX.out]
          rw [HR.out]
          clear hst HR HX
          obtain ⟨vk, vb, vn, vt⟩ := v
          unfold Val.v at h5
          dsimp only at a0 a1 a2 a3 h5
          cases R
          · go_wp2_with fail
            exact ⟨⟨j + 1, by omega, by go_num, by rw [hst2.out]; rfl, hk.alloc _⟩, by simp [intOf]; omega⟩
          · go_wp2_with fail
            refine (h5 _).mono ?_
            rintro e w9 ⟨rfl, k9⟩
            go_wp2_with fail
            exact ⟨⟨j + 1, by omega, by go_num, by rw [hst2.out]; rfl, (hk.alloc _).trans k9 (by simp)⟩, by simp [intOf]; omega⟩
        · have hjl : j = m.length := by omega
          subst hjl
          rw [List.take_length]
          have kz := kx.trans hk (by simp)
          generalize allR m = R at *
          clear hk hv2 hc2 kx
          cases R
          · by_cases h0 : la = []
            · have e0 : ((la.length : Int) == 0) = true := by simp [h0]
              clear h0
              go_wp2_with fail
              go_ret
              exact ⟨rfl, kz.below⟩
            · have hpos : 0 < la.length := by cases la with | nil => exact absurd rfl h0 | cons _ _ => simp
              have hle3 := hle2 _ kz h0
              obtain ⟨g, o, rfl, _⟩ := (ha.kept kz).at 0 hpos
              obtain ⟨n1, Hn⟩ : ∃ n1 : Nat, Hid (la.length = n1 + 1) := ⟨la.length - 1, by show _ = _; omega⟩
              rw [Hn.out] at hle3 hla ⊢
              have hle4 : Calls Tryd.prog 10 #[.slice (some ⟨g, o, none⟩) n1 ca, .slice (some ⟨g, o, none⟩) (n1 + 1) ca] _ _ := hle3
              have hn1 : n1 ≤ 1048576 := by have := Hn.out; omega
              go_wp2_with fail
              refine hle4.mono ?_
              rintro e w10 ⟨rfl, k10⟩
              go_wp2_with fail
              go_ret
              exact ⟨rfl, (kz.trans k10 (by simp)).below⟩
          · have hs : (x == 0) = sm := hims rfl
            subst hs
            go_wp2_with fail
            refine (hsm _ kz).mono ?_
            rintro e w9 ⟨rfl, k9⟩
            have kz := kz.trans k9 (by simp)
            by_cases h0 : la = []
            · have e0 : ((la.length : Int) == 0) = true := by simp [h0]
              clear h0
              go_wp2_with fail
              go_ret
              exact ⟨rfl, kz.below⟩
            · have hpos : 0 < la.length := by cases la with | nil => exact absurd rfl h0 | cons _ _ => simp
              have hle3 := hle2 _ kz h0
              obtain ⟨g, o, rfl, _⟩ := (ha.kept kz).at 0 hpos
              obtain ⟨n1, Hn⟩ : ∃ n1 : Nat, Hid (la.length = n1 + 1) := ⟨la.length - 1, by show _ = _; omega⟩
              rw [Hn.out] at hle3 hla ⊢
              have hle4 : Calls Tryd.prog 10 #[.slice (some ⟨g, o, none⟩) n1 ca, .slice (some ⟨g, o, none⟩) (n1 + 1) ca] _ _ := hle3
              have hn1 : n1 ≤ 1048576 := by have := Hn.out; omega
              go_wp2_with fail
              refine hle4.mono ?_
              rintro e w10 ⟨rfl, k10⟩
              go_wp2_with fail
              go_ret
              exact ⟨rfl, (kz.trans k10 (by simp)).below⟩
    · go_wp2_with (at_builtin; refine wpAppendV rfl _ _ rfl w5 (.slice (some ⟨w5.heap.size, 0, none⟩) 0 0) [] rfl (RowV.fresh (Nat.le_refl _)) a la.length ca la rfl rfl ((ha.kept k5).kept ((Kp.refl _ _).alloc _)) hnila (by simp; omega) ((Kp.refl _ _).alloc _) ?_)
      intro v1 u1 r1 kk1
      have r1 : RowV w5 u1 v1 la := r1
      go_wp2_with (at_builtin; refine wpAppendV rfl _ _ rfl w5 v1 la rfl r1 b lb.length cb lb rfl rfl ((hb.kept k5).kept kk1) hnilb (by omega) kk1 ?_)
      intro v2 u2 r2 kk2
      obtain ⟨a2, c2, rfl, hv2, hc2, hm2⟩ := r2.vals
      obtain ⟨m, Hm⟩ : ∃ m : List Val, Hid (la ++ lb = m) := ⟨_, show la ++ lb = _ from rfl⟩
      have hml : m.length ≤ 1048576 := by rw [← Hm.out, List.length_append]; omega
      rw [Hm.out] at hims hv2 hc2 ⊢
      have kx := k5.trans kk2 (by simp)
      clear r1 kk1 r2 kk2 Hm hm2
      go_wp2_with fail
      go_loopw [9, 54] (fun rt i wn => ∃ j : Nat, j ≤ m.length ∧ i = .int .i64 j ∧ rt = .bool (allR (m.take j)) ∧ Kp [] u2 wn) (fun _ i _ => m.length - (intOf i).toNat)
      case atStart => exact ⟨0, Nat.zero_le _, rfl, rfl, Kp.refl _ _⟩
      case round =>
        obtain ⟨j, hj, rfl, rfl, hk⟩ := hrel
        by_cases hjm : j < m.length
        · obtain ⟨g, o, rfl, a0, a1, a2, a3⟩ := (hv2.kept hk).at j hjm
          have hst := hid (allR_step m j hjm)
          generalize m[j] = v at *
          have h5 := cRefRight v
          obtain ⟨X, HX⟩ : ∃ X : Bool, Hid (v.right = X) := ⟨_, rfl⟩
          rw [HX.out] at h5
          obtain ⟨R, HR⟩ : ∃ R : Bool, Hid (allR (m.take j) = R) := ⟨_, rfl⟩
          have hst2 : Hid (allR (m.take (j + 1)) = (R && X)) := by show _ = _; rw [hst.out, HR.out, HX.out]
          rw [HR.out]
          clear hst HR HX
          obtain ⟨vk, vb, vn, vt⟩ := v
          unfold Val.v at h5
          dsimp only at a0 a1 a2 a3 h5
          cases R
          · go_wp2_with fail
            exact ⟨⟨j + 1, by omega, by go_num, by rw [hst2.out]; rfl, hk.alloc _⟩, by simp [intOf]; omega⟩
          · go_wp2_with fail
            refine (h5 _).mono ?_
            rintro e w9 ⟨rfl, k9⟩
            go_wp2_with fail
            exact ⟨⟨j + 1, by omega, by go_num, by rw [hst2.out]; rfl, (hk.alloc _).trans k9 (by simp)⟩, by simp [intOf]; omega⟩
        · have hjl : j = m.length := by omega
          subst hjl
          rw [List.take_length]
          have kz := kx.trans hk (by simp)
          generalize allR m = R at *
          clear hk hv2 hc2 kx
          cases R
          · by_cases h0 : la = []
            · have e0 : ((la.length : Int) == 0) = true := by simp [h0]
              clear h0
              go_wp2_with fail
              go_ret
              exact ⟨rfl, kz.below⟩
            · have hpos : 0 < la.length := by cases la with | nil => exact absurd rfl h0 | cons _ _ => simp
              have hle3 := hle2 _ kz h0
              obtain ⟨g, o, rfl, _⟩ := (ha.kept kz).at 0 hpos
              obtain ⟨n1, Hn⟩ : ∃ n1 : Nat, Hid (la.length = n1 + 1) := ⟨la.length - 1, by show _ = _; omega⟩
              rw [Hn.out] at hle3 hla ⊢
              have hle4 : Calls Tryd.prog 10 #[.slice (some ⟨g, o, none⟩) n1 ca, .slice (some ⟨g, o, none⟩) (n1 + 1) ca] _ _ := hle3
              have hn1 : n1 ≤ 1048576 := by have := Hn.out; omega
              go_wp2_with fail
              refine hle4.mono ?_
              rintro e w10 ⟨rfl, k10⟩
              go_wp2_with fail
              go_ret
              exact ⟨rfl, (kz.trans k10 (by simp)).below⟩
          · have hs : (x == 0) = sm := hims rfl
            subst hs
            go_wp2_with fail
            refine (hsm _ kz).mono ?_
            rintro e w9 ⟨rfl, k9⟩
            have kz := kz.trans k9 (by simp)
            by_cases h0 : la = []
            · have e0 : ((la.length : Int) == 0) = true := by simp [h0]
              clear h0
              go_wp2_with fail
              go_ret
              exact ⟨rfl, kz.below⟩
            · have hpos : 0 < la.length := by cases la with | nil => exact absurd rfl h0 | cons _ _ => simp
              have hle3 := hle2 _ kz h0
              obtain ⟨g, o, rfl, _⟩ := (ha.kept kz).at 0 hpos
              obtain ⟨n1, Hn⟩ : ∃ n1 : Nat, Hid (la.length = n1 + 1) := ⟨la.length - 1, by show _ = _; omega⟩
              rw [Hn.out] at hle3 hla ⊢
              have hle4 : Calls Tryd.prog 10 #[.slice (some ⟨g, o, none⟩) n1 ca, .slice (some ⟨g, o, none⟩) (n1 + 1) ca] _ _ := hle3
              have hn1 : n1 ≤ 1048576 := by have := Hn.out; omega
              go_wp2_with fail
              refine hle4.mono ?_
              rintro e w10 ⟨rfl, k10⟩
              go_wp2_with fail
              go_ret
              exact ⟨rfl, (kz.trans k10 (by simp)).below⟩
  · go_wp2_with (at_builtin; refine wpAppendV rfl _ _ rfl w5 (.slice (some ⟨w5.heap.size, 0, none⟩) 0 0) [] rfl (RowV.fresh (Nat.le_refl _)) a la.length ca la rfl rfl ((ha.kept k5).kept ((Kp.refl _ _).alloc _)) hnila (by simp; omega) ((Kp.refl _ _).alloc _) ?_)
    intro v1 u1 r1 kk1
    have r1 : RowV w5 u1 v1 la := r1
    go_wp2_with (at_builtin; refine wpAppendV rfl _ _ rfl w5 v1 la rfl r1 b lb.length cb lb rfl rfl ((hb.kept k5).kept kk1) hnilb (by omega) kk1 ?_)
    intro v2 u2 r2 kk2
    obtain ⟨a2, c2, rfl, hv2, hc2, hm2⟩ := r2.vals
    obtain ⟨m, Hm⟩ : ∃ m : List Val, Hid (la ++ lb = m) := ⟨_, show la ++ lb = _ from rfl⟩
    have hml : m.length ≤ 1048576 := by rw [← Hm.out, List.length_append]; omega
    rw [Hm.out] at hims hv2 hc2 ⊢
    have kx := k5.trans kk2 (by simp)
    clear r1 kk1 r2 kk2 Hm hm2
    go_wp2_with fail
    go_loopw [9, 54] (fun rt i wn => ∃ j : Nat, j ≤ m.length ∧ i = .int .i64 j ∧ rt = .bool (allR (m.take j)) ∧ Kp [] u2 wn) (fun _ i _ => m.length - (intOf i).toNat)
    case atStart => exact ⟨0, Nat.zero_le _, rfl, rfl, Kp.refl _ _⟩
    case round =>
      obtain ⟨j, hj, rfl, rfl, hk⟩ := hrel
      by_cases hjm : j < m.length
      · obtain ⟨g, o, rfl, a0, a1, a2, a3⟩ := (hv2.kept hk).at j hjm
        have hst := hid (allR_step m j hjm)
        generalize m[j] = v at *
        have h5 := cRefRight v
        obtain ⟨X, HX⟩ : ∃ X : Bool, Hid (v.right = X) := ⟨_, rfl⟩
        rw [HX.out] at h5
        obtain ⟨R, HR⟩ : ∃ R : Bool, Hid (allR (m.take j) = R) := ⟨_, rfl⟩
        have hst2 : Hid (allR (m.take (j + 1)) = (R && X)) := by show _ = _; rw [hst.out, HR.out, HX.out]
        rw [HR.out]
        clear hst HR HX
        obtain ⟨vk, vb, vn, vt⟩ := v
        unfold Val.v at h5
        dsimp only at a0 a1 a2 a3 h5
        cases R
        · go_wp2_with fail
          exact ⟨⟨j + 1, by omega, by go_num, by rw [hst2.out]; rfl, hk.alloc _⟩, by simp [intOf]; omega⟩
        · go_wp2_with fail
          refine (h5 _).mono ?_
          rintro e w9 ⟨rfl, k9⟩
          go_wp2_with fail
          exact ⟨⟨j + 1, by omega, by go_num, by rw [hst2.out]; rfl, (hk.alloc _).trans k9 (by simp)⟩, by simp [intOf]; omega⟩
      · have hjl : j = m.length := by omega
        subst hjl
        rw [List.take_length]
        have kz := kx.trans hk (by simp)
        generalize allR m = R at *
        clear hk hv2 hc2 kx
        cases R
        · by_cases h0 : la = []
          · have e0 : ((la.length : Int) == 0) = true := by simp [h0]
            clear h0
            go_wp2_with fail
            go_ret
            exact ⟨rfl, kz.below⟩
          · have hpos : 0 < la.length := by cases la with | nil => exact absurd rfl h0 | cons _ _ => simp
            have hle3 := hle2 _ kz h0
            obtain ⟨g, o, rfl, _⟩ := (ha.kept kz).at 0 hpos
            obtain ⟨n1, Hn⟩ : ∃ n1 : Nat, Hid (la.length = n1 + 1) := ⟨la.length - 1, by show _ = _; omega⟩
            rw [Hn.out] at hle3 hla ⊢
            have hle4 : Calls Tryd.prog 10 #[.slice (some ⟨g, o, none⟩) n1 ca, .slice (some ⟨g, o, none⟩) (n1 + 1) ca] _ _ := hle3
            have hn1 : n1 ≤ 1048576 := by have := Hn.out; omega
            go_wp2_with fail
            refine hle4.mono ?_
            rintro e w10 ⟨rfl, k10⟩
            go_wp2_with fail
            go_ret
            exact ⟨rfl, (kz.trans k10 (by simp)).below⟩
        · have hs : (x == 0) = sm := hims rfl
          subst hs
          go_wp2_with fail
          refine (hsm _ kz).mono ?_
          rintro e w9 ⟨rfl, k9⟩
          have kz := kz.trans k9 (by simp)
          by_cases h0 : la = []
          · have e0 : ((la.length : Int) == 0) = true := by simp [h0]
            clear h0
            go_wp2_with fail
            go_ret
            exact ⟨rfl, kz.below⟩
          · have hpos : 0 < la.length := by cases la with | nil => exact absurd rfl h0 | cons _ _ => simp
            have hle3 := hle2 _ kz h0
            obtain ⟨g, o, rfl, _⟩ := (ha.kept kz).at 0 hpos
            obtain ⟨n1, Hn⟩ : ∃ n1 : Nat, Hid (la.length = n1 + 1) := ⟨la.length - 1, by show _ = _; omega⟩
            rw [Hn.out] at hle3 hla ⊢
            have hle4 : Calls Tryd.prog 10 #[.slice (some ⟨g, o, none⟩) n1 ca, .slice (some ⟨g, o, none⟩) (n1 + 1) ca] _ _ := hle3
            have hn1 : n1 ≤ 1048576 := by have := Hn.out; omega
            go_wp2_with fail
            refine hle4.mono ?_
            rintro e w10 ⟨rfl, k10⟩
            go_wp2_with fail
            go_ret
            exact ⟨rfl, (kz.trans k10 (by simp)).below⟩
end Go.Proofs.YtboibllahibicabDoor

/- The law: a row is one of a table just if each value fits its column; one value more or less is none. -/
import Derived.Test.YtboibllahibicabDoorVrwr
import Derived.Test.YtboibllahibicabDoorVapp
import Derived.Test.YtboibllahibicabDoorVali
namespace Go.Proofs.YtboibllahibicabDoor
open Go.RowKit Go.Hay
set_option linter.unusedVariables false
set_option linter.unusedSimpArgs false

def fitUpto (l : List Col) (r : List Val) (j : Nat) : Bool := (List.range j).all (fitAt l r)
theorem fitUpto_step (l : List Col) (r : List Val) (j : Nat) : fitUpto l r (j + 1) = (fitUpto l r j && fitAt l r j) := by
  unfold fitUpto
  rw [List.range_succ, List.all_append]
  simp
def Ut (U : Bool) (a b : Nat) : Prop := U = true → a = b
theorem fitUpto_all (l : List Col) (r : List Val) : fitUpto l r l.length = fitsAllV l r := rfl

set_option maxHeartbeats 4000000 in
set_option maxRecDepth 100000 in
theorem fitsAllNone (nm : ByteArray) (a : Option Addr) (ca : Nat) (l : List Col) (b : Option Addr) (nb cb : Nat) (r : List Val) (w : World) (ha : Cols w a l) (hl : l.length ≤ ca) (hm : ca ≤ maxLen) (hnb : nb = r.length) (hb : Vals w b r) (hr : r.length ≤ cb) (hmb : cb ≤ maxLen) (hnil : b = none → cb = 0) (hsz : r.length + 1 ≤ 4000000000000) (ht : Pow w) (h20 : tableV nm l = 20) :
    Calls Tryd.prog 5 #[.agg #[.string nm, .slice a l.length ca], .slice b nb cb] w fun e w' => e = .returned (.bool true) ∧ Below w.heap.size w w' := by
  subst hnb
  unfold maxLen at hm hmb
  have h1 := fun w' (k : Kp [] w w') => cTable nm a ca l w' (ha.kept k) hl hm
  have h3 := fun w' (k : Kp [] w w') => cRow nm a ca l b cb r w' (ha.kept k) hl hm (hb.kept k) hr hmb
  have bT := Box2.new w (.string nm) (.slice a l.length ca) 37
  have kW : Kp [] w (w.alloc (.cells #[.string nm, .slice a l.length ca] 37)) := (Kp.refl _ _).alloc _
  have hv : rowV nm l r = 20 := by unfold rowV; rw [h20]; rfl
  rw [h20] at h1
  rw [hv] at h3
  clear hv h20
  go_enter Tryd.func5, Tryd.ntmps5
  go_wp2_with fail
  refine (h1 _ kW).mono ?_
  rintro e w1 ⟨rfl, k1⟩
  have k1' := kW.trans k1 (by simp)
  have bT1 := bT.kept k1
  go_wp2_with fail
  refine (cAlive _ (ht.kept k1')).mono ?_
  rintro e w2 ⟨rfl, k2⟩
  have k2' := k1'.trans k2 (by simp)
  have bT2 := bT1.kept k2
  have q0 := bT2.c0; have q1 := bT2.c1
  go_wp2_with fail
  refine (h3 _ k2').mono ?_
  rintro e w3 ⟨rfl, k3⟩
  have k3' := k2'.trans k3 (by simp)
  go_wp2_with fail
  go_ret
  exact ⟨rfl, k3'.below⟩

set_option maxHeartbeats 8000000 in
set_option maxRecDepth 100000 in
theorem fitsAllAlike (nm : ByteArray) (a : Option Addr) (ca : Nat) (l : List Col) (b : Option Addr) (nb cb : Nat) (r : List Val) (w : World) (ha : Cols w a l) (hl : l.length ≤ ca) (hm : ca ≤ maxLen) (hnb : nb = r.length) (hb : Vals w b r) (hr : r.length ≤ cb) (hmb : cb ≤ maxLen) (hnil : b = none → cb = 0) (hsz : r.length + 1 ≤ 4000000000000) (ht : Pow w) (h0 : tableV nm l = 0) (hE : r.length = l.length) :
    Calls Tryd.prog 5 #[.agg #[.string nm, .slice a l.length ca], .slice b nb cb] w fun e w' => e = .returned (.bool true) ∧ Below w.heap.size w w' := by
  subst hnb
  unfold maxLen at hm hmb
  have h1 := fun w' (k : Kp [] w w') => cTable nm a ca l w' (ha.kept k) hl hm
  have h3 := fun w' (k : Kp [] w w') => cRow nm a ca l b cb r w' (ha.kept k) hl hm (hb.kept k) hr hmb
  have bT := Box2.new w (.string nm) (.slice a l.length ca) 37
  have kW : Kp [] w (w.alloc (.cells #[.string nm, .slice a l.length ca] 37)) := (Kp.refl _ _).alloc _
  have HR : Hid (rowV nm l r = if fitsAllV l r then 0 else 21) := by show _ = _; unfold rowV; rw [h0, if_pos rfl, if_pos hE]
  have HM : Hid (∀ m : List Val, m.length = r.length + 1 → r.length = l.length → rowV nm l m = 21) := by show ∀ m : List Val, _; intro m hm1 hm2; unfold rowV; rw [h0, if_pos rfl, if_neg (by omega)]
  have h4 := fun w' (k : Kp [] w w') (d : Option Addr) (cd : Nat) (m : List Val) (hd : Vals w' d m) (hd1 : m.length ≤ cd) (hd2 : cd ≤ 9223372036854775807) => cRow nm a ca l d cd m w' (ha.kept k) hl hm hd hd1 hd2
  rw [h0] at h1
  have hE' := hid hE
  have hEe : ((r.length : Int) == (l.length : Int)) = true := by simp; omega
  clear h0 hE
  go_enter Tryd.func5, Tryd.ntmps5
  go_wp2_with fail
  refine (h1 _ kW).mono ?_
  rintro e w1 ⟨rfl, k1⟩
  have k1' := kW.trans k1 (by simp)
  have bT1 := bT.kept k1
  have q0 := bT1.c0; have q1 := bT1.c1
  clear k1 bT kW
  go_wp2_with fail
  go_loopw [5, 6] (fun al i wn => ∃ j : Nat, j ≤ r.length ∧ j ≤ l.length ∧ i = .int .i64 j ∧ al = .bool (fitUpto l r j) ∧ Box2 wn w.heap.size (.string nm) (.slice a l.length ca) ∧ Kp [] w wn) (fun _ i _ => r.length - (intOf i).toNat)
  case atStart => exact ⟨0, Nat.zero_le _, Nat.zero_le _, rfl, rfl, bT1, k1'⟩
  case round =>
    obtain ⟨j, hj, hj', rfl, rfl, hbx, hk⟩ := hrel
    clear q0 q1
    have q1 := hbx.c1
    by_cases hjr : j < r.length
    · by_cases hjl : j < l.length
      · obtain ⟨g, o, rfl, a0, a1, a2⟩ := (ha.kept hk).at j hjl
        obtain ⟨g', o', rfl, b0, b1, b2, b3⟩ := (hb.kept hk).at j hjr
        have hca := hid (fitAt_eq l r j hjl hjr)
        generalize l[j] = x at *
        generalize r[j] = y at *
        obtain ⟨xn, xk, xz⟩ := x
        dsimp only at a0 a1 a2
        have h5 := cFits xn xk xz y
        obtain ⟨F, HF⟩ : ∃ F : Bool, Hid (fitsV xk xz y = F) := ⟨_, rfl⟩
        rw [HF.out] at h5
        have hC : Hid (fitUpto l r (j + 1) = (fitUpto l r j && F)) := by show _ = _; rw [fitUpto_step, hca.out]; exact congrArg _ HF.out
        clear hca HF
        obtain ⟨yk, yb, yn, yt⟩ := y
        unfold Val.v at h5
        dsimp only at b0 b1 b2 b3 h5
        obtain ⟨U, HU⟩ : ∃ U : Bool, Hid (fitUpto l r j = U) := ⟨_, rfl⟩
        rw [HU.out] at hC ⊢
        clear HU
        cases U
        · go_wp2_with fail
          go_quiet ((fail))
          go_wp2_with fail
          exact ⟨⟨j + 1, by omega, by omega, by go_num, by rw [hC.out]; rfl, ⟨hbx.c0, hbx.c1⟩, hk.drewN _⟩, by simp [intOf]; omega⟩
        · go_wp2_with fail
          go_region_held3 (fun w' => w'.cell? ⟨w.heap.size, 1, none⟩ = some (.slice (some ⟨g, o, none⟩) l.length ca) ∧ w'.cell? ⟨g, o + j * 3, none⟩ = some (.string xn) ∧ w'.cell? ⟨g, o + j * 3 + 1, none⟩ = some (.int .i64 xk) ∧ w'.cell? ⟨g, o + j * 3 + 2, none⟩ = some (.bool xz) ∧ w'.cell? ⟨g', o' + j * 4, none⟩ = some (.int .i64 yk) ∧ w'.cell? ⟨g', o' + j * 4 + 1, none⟩ = some (.bool yb) ∧ w'.cell? ⟨g', o' + j * 4 + 2, none⟩ = some (.int .i64 yn) ∧ w'.cell? ⟨g', o' + j * 4 + 3, none⟩ = some (.string yt)) (first | go_keep)
            (first | (go_at_call 15; refine (h5 _).mono ?_; rintro e w3 ⟨rfl, k3⟩; have y0 := kpAt (w := wr.drew) k3 a0; have y1 := kpAt (w := wr.drew) k3 a1; have y2 := kpAt (w := wr.drew) k3 a2; have y3 := kpAt (w := wr.drew) k3 b0; have y4 := kpAt (w := wr.drew) k3 b1; have y5 := kpAt (w := wr.drew) k3 b2; have y6 := kpAt (w := wr.drew) k3 b3; have y7 := kpAt (w := wr.drew) k3 q1))
          have hk3 := hk.drew.trans k3 (by simp)
          have hbx3 : Box2 w3 w.heap.size (.string nm) (.slice (some ⟨g, o, none⟩) l.length ca) := hbx.kept ((Kp.refl [] wr).drew.trans k3 (by simp))
          clear k3 y0 y1 y2 y3 y4 y5 y6 y7 a0 a1 a2 b0 b1 b2 b3 q1
          go_wp2_with fail
          exact ⟨⟨j + 1, by omega, by omega, by go_num, by rw [hC.out]; rfl, hbx3, hk3⟩, by simp [intOf]; omega⟩
      · exfalso; have := hE'.out; omega
    · have hjl : j = l.length := by have := hE'.out; omega
      subst hjl
      rw [fitUpto_all]
      obtain ⟨U, HU⟩ : ∃ U : Bool, Hid (fitsAllV l r = U) := ⟨_, rfl⟩
      have HR2 : Hid (rowV nm l r = if U then 0 else 21) := by show _ = _; rw [HR.out]; simp only [HU.out]
      rw [HR2.out] at h3
      rw [HU.out]
      have HUT : Ut U r.length l.length := by unfold Ut; exact fun _ => hE'.out
      clear HR HR2 HU q1
      go_wp2_with (at_builtin; refine wpAppendV rfl _ _ rfl wr (.slice (some ⟨wr.heap.size, 0, none⟩) 0 0) [] rfl (RowV.fresh (Nat.le_refl _)) b r.length cb r rfl rfl ((hb.kept hk).kept ((Kp.refl _ _).alloc _)) hnil (by simp; omega) ((Kp.refl _ _).alloc _) ?_)
      intro v1 w1 r1 kk1
      have r1 : RowV wr w1 v1 r := r1
      go_wp2_with (at_builtin; refine wpAppendV rfl _ _ rfl wr v1 r rfl (r1.kept ((Kp.refl _ _).alloc _)) (some ⟨w1.heap.size, 0, none⟩) 1 1 [⟨0, false, 0, ⟨#[]⟩⟩] rfl rfl (Vals.single w1 ⟨0, false, 0, ⟨#[]⟩⟩ 23) (fun h => by cases h) (by simp; omega) (kk1.alloc _) ?_)
      intro v2 w2 r2 kk2
      clear r1 kk1
      obtain ⟨a2, c2, rfl, hv2, hc2, hm2⟩ := r2.vals
      obtain ⟨mr, Hmr⟩ : ∃ mr : List Val, Hid (r ++ [(⟨0, false, 0, ⟨#[]⟩⟩ : Val)] = mr) := ⟨_, show r ++ [(⟨0, false, 0, ⟨#[]⟩⟩ : Val)] = _ from rfl⟩
      rw [Hmr.out] at hv2 hc2 ⊢
      have hml : Hid (mr.length = r.length + 1) := by show _ = _; rw [← Hmr.out]; simp
      unfold maxLen at hm2
      have kx := hk.trans kk2 (by simp)
      have bx2 := hbx.kept kk2
      clear r2 kk2 Hmr hbx
      go_wp2_with fail
      refine (cAlive _ (ht.kept kx)).mono ?_
      rintro e w3 ⟨rfl, k3⟩
      have kx3 := kx.trans k3 (by simp)
      have bx3 := bx2.kept k3
      have hv3 := hv2.kept k3
      clear k3 kx bx2 hv2
      have q0 := bx3.c0; have q1 := bx3.c1
      cases U
      · go_wp2_with fail
        refine (h3 _ kx3).mono ?_
        rintro e w4 ⟨rfl, k4⟩
        go_wp2_with fail
        go_ret
        exact ⟨rfl, (kx3.trans k4 (by simp)).below⟩
      · go_wp2_with fail
        refine (h3 _ kx3).mono ?_
        rintro e w4 ⟨rfl, k4⟩
        have kx4 := kx3.trans k4 (by simp)
        have bx4 := bx3.kept k4
        have hv4 := hv3.kept k4
        clear q0 q1 k4 bx3 hv3
        have q0 := bx4.c0; have q1 := bx4.c1
        have h6 := h4 _ kx4 a2 c2 mr hv4 hc2 hm2
        rw [HM.out mr hml.out (HUT rfl)] at h6
        go_wp2_with fail
        refine h6.mono ?_
        rintro e w5 ⟨rfl, k5⟩
        go_wp2_with fail
        go_ret
        exact ⟨rfl, (kx4.trans k5 (by simp)).below⟩
set_option maxHeartbeats 8000000 in
set_option maxRecDepth 100000 in
theorem fitsAllUnlike (nm : ByteArray) (a : Option Addr) (ca : Nat) (l : List Col) (b : Option Addr) (nb cb : Nat) (r : List Val) (w : World) (ha : Cols w a l) (hl : l.length ≤ ca) (hm : ca ≤ maxLen) (hnb : nb = r.length) (hb : Vals w b r) (hr : r.length ≤ cb) (hmb : cb ≤ maxLen) (hnil : b = none → cb = 0) (hsz : r.length + 1 ≤ 4000000000000) (ht : Pow w) (h0 : tableV nm l = 0) (hE : ¬ r.length = l.length) :
    Calls Tryd.prog 5 #[.agg #[.string nm, .slice a l.length ca], .slice b nb cb] w fun e w' => e = .returned (.bool true) ∧ Below w.heap.size w w' := by
  subst hnb
  unfold maxLen at hm hmb
  have h1 := fun w' (k : Kp [] w w') => cTable nm a ca l w' (ha.kept k) hl hm
  have h3 := fun w' (k : Kp [] w w') => cRow nm a ca l b cb r w' (ha.kept k) hl hm (hb.kept k) hr hmb
  have bT := Box2.new w (.string nm) (.slice a l.length ca) 37
  have kW : Kp [] w (w.alloc (.cells #[.string nm, .slice a l.length ca] 37)) := (Kp.refl _ _).alloc _
  have HR : Hid (rowV nm l r = 21) := by show _ = _; unfold rowV; rw [h0, if_pos rfl, if_neg hE]
  have HM : Hid (∀ m : List Val, m.length = r.length + 1 → r.length = l.length → rowV nm l m = 21) := by show ∀ m : List Val, _; intro m hm1 hm2; unfold rowV; rw [h0, if_pos rfl, if_neg (by omega)]
  have h4 := fun w' (k : Kp [] w w') (d : Option Addr) (cd : Nat) (m : List Val) (hd : Vals w' d m) (hd1 : m.length ≤ cd) (hd2 : cd ≤ 9223372036854775807) => cRow nm a ca l d cd m w' (ha.kept k) hl hm hd hd1 hd2
  rw [h0] at h1
  have hE' := hid hE
  have hEe : ((r.length : Int) == (l.length : Int)) = false := by simp; omega
  clear h0 hE
  go_enter Tryd.func5, Tryd.ntmps5
  go_wp2_with fail
  refine (h1 _ kW).mono ?_
  rintro e w1 ⟨rfl, k1⟩
  have k1' := kW.trans k1 (by simp)
  have bT1 := bT.kept k1
  have q0 := bT1.c0; have q1 := bT1.c1
  clear k1 bT kW
  go_wp2_with fail
  go_loopw [5, 6] (fun al i wn => ∃ j : Nat, j ≤ r.length ∧ j ≤ l.length ∧ i = .int .i64 j ∧ al = .bool (false) ∧ Box2 wn w.heap.size (.string nm) (.slice a l.length ca) ∧ Kp [] w wn) (fun _ i _ => r.length - (intOf i).toNat)
  case atStart => exact ⟨0, Nat.zero_le _, Nat.zero_le _, rfl, rfl, bT1, k1'⟩
  case round =>
    obtain ⟨j, hj, hj', rfl, rfl, hbx, hk⟩ := hrel
    clear q0 q1
    have q1 := hbx.c1
    by_cases hjr : j < r.length
    · by_cases hjl : j < l.length
      · go_wp2_with fail
        go_quiet ((fail))
        go_wp2_with fail
        exact ⟨⟨j + 1, by omega, by omega, by go_num, rfl, ⟨hbx.c0, hbx.c1⟩, hk.drewN _⟩, by simp [intOf]; omega⟩
      · have hll : j = l.length := by omega
        rw [HR.out] at h3
        clear HR HM h4
        go_wp2_with (at_builtin; refine wpAppendV rfl _ _ rfl wr (.slice (some ⟨wr.heap.size, 0, none⟩) 0 0) [] rfl (RowV.fresh (Nat.le_refl _)) b r.length cb r rfl rfl ((hb.kept hk).kept ((Kp.refl _ _).alloc _)) hnil (by simp; omega) ((Kp.refl _ _).alloc _) ?_)
        intro v1 w1 r1 kk1
        have r1 : RowV wr w1 v1 r := r1
        go_wp2_with (at_builtin; refine wpAppendV rfl _ _ rfl wr v1 r rfl (r1.kept ((Kp.refl _ _).alloc _)) (some ⟨w1.heap.size, 0, none⟩) 1 1 [⟨0, false, 0, ⟨#[]⟩⟩] rfl rfl (Vals.single w1 ⟨0, false, 0, ⟨#[]⟩⟩ 23) (fun h => by cases h) (by simp; omega) (kk1.alloc _) ?_)
        intro v2 w2 r2 kk2
        clear r1 kk1
        obtain ⟨a2, c2, rfl, hv2, hc2, hm2⟩ := r2.vals
        obtain ⟨mr, Hmr⟩ : ∃ mr : List Val, Hid (r ++ [(⟨0, false, 0, ⟨#[]⟩⟩ : Val)] = mr) := ⟨_, show r ++ [(⟨0, false, 0, ⟨#[]⟩⟩ : Val)] = _ from rfl⟩
        rw [Hmr.out] at hv2 hc2 ⊢
        have hml : Hid (mr.length = r.length + 1) := by show _ = _; rw [← Hmr.out]; simp
        unfold maxLen at hm2
        have kx := hk.trans kk2 (by simp)
        have bx2 := hbx.kept kk2
        clear r2 kk2 Hmr hbx
        go_wp2_with fail
        refine (cAlive _ (ht.kept kx)).mono ?_
        rintro e w3 ⟨rfl, k3⟩
        have kx3 := kx.trans k3 (by simp)
        have bx3 := bx2.kept k3
        have hv3 := hv2.kept k3
        clear k3 kx bx2 hv2
        have q0 := bx3.c0; have q1 := bx3.c1
        go_wp2_with fail
        refine (h3 _ kx3).mono ?_
        rintro e w4 ⟨rfl, k4⟩
        go_wp2_with fail
        go_ret
        exact ⟨rfl, (kx3.trans k4 (by simp)).below⟩
    · have hll : j = r.length := by omega
      rw [HR.out] at h3
      clear HR HM h4
      go_wp2_with (at_builtin; refine wpAppendV rfl _ _ rfl wr (.slice (some ⟨wr.heap.size, 0, none⟩) 0 0) [] rfl (RowV.fresh (Nat.le_refl _)) b r.length cb r rfl rfl ((hb.kept hk).kept ((Kp.refl _ _).alloc _)) hnil (by simp; omega) ((Kp.refl _ _).alloc _) ?_)
      intro v1 w1 r1 kk1
      have r1 : RowV wr w1 v1 r := r1
      go_wp2_with (at_builtin; refine wpAppendV rfl _ _ rfl wr v1 r rfl (r1.kept ((Kp.refl _ _).alloc _)) (some ⟨w1.heap.size, 0, none⟩) 1 1 [⟨0, false, 0, ⟨#[]⟩⟩] rfl rfl (Vals.single w1 ⟨0, false, 0, ⟨#[]⟩⟩ 23) (fun h => by cases h) (by simp; omega) (kk1.alloc _) ?_)
      intro v2 w2 r2 kk2
      clear r1 kk1
      obtain ⟨a2, c2, rfl, hv2, hc2, hm2⟩ := r2.vals
      obtain ⟨mr, Hmr⟩ : ∃ mr : List Val, Hid (r ++ [(⟨0, false, 0, ⟨#[]⟩⟩ : Val)] = mr) := ⟨_, show r ++ [(⟨0, false, 0, ⟨#[]⟩⟩ : Val)] = _ from rfl⟩
      rw [Hmr.out] at hv2 hc2 ⊢
      have hml : Hid (mr.length = r.length + 1) := by show _ = _; rw [← Hmr.out]; simp
      unfold maxLen at hm2
      have kx := hk.trans kk2 (by simp)
      have bx2 := hbx.kept kk2
      clear r2 kk2 Hmr hbx
      go_wp2_with fail
      refine (cAlive _ (ht.kept kx)).mono ?_
      rintro e w3 ⟨rfl, k3⟩
      have kx3 := kx.trans k3 (by simp)
      have bx3 := bx2.kept k3
      have hv3 := hv2.kept k3
      clear k3 kx bx2 hv2
      have q0 := bx3.c0; have q1 := bx3.c1
      go_wp2_with fail
      refine (h3 _ kx3).mono ?_
      rintro e w4 ⟨rfl, k4⟩
      go_wp2_with fail
      go_ret
      exact ⟨rfl, (kx3.trans k4 (by simp)).below⟩
theorem fitsAllWalk (nm : ByteArray) (a : Option Addr) (ca : Nat) (l : List Col) (b : Option Addr) (nb cb : Nat) (r : List Val) (w : World) (ha : Cols w a l) (hl : l.length ≤ ca) (hm : ca ≤ maxLen) (hnb : nb = r.length) (hb : Vals w b r) (hr : r.length ≤ cb) (hmb : cb ≤ maxLen) (hnil : b = none → cb = 0) (hsz : r.length + 1 ≤ 4000000000000) (ht : Pow w) :
    Calls Tryd.prog 5 #[.agg #[.string nm, .slice a l.length ca], .slice b nb cb] w fun e w' => e = .returned (.bool true) ∧ Below w.heap.size w w' := by
  rcases tableV_or nm l with h | h
  · by_cases hE : r.length = l.length
    · exact fitsAllAlike nm a ca l b nb cb r w ha hl hm hnb hb hr hmb hnil hsz ht h hE
    · exact fitsAllUnlike nm a ca l b nb cb r w ha hl hm hnb hb hr hmb hnil hsz ht h hE
  · exact fitsAllNone nm a ca l b nb cb r w ha hl hm hnb hb hr hmb hnil hsz ht h
end Go.Proofs.YtboibllahibicabDoor

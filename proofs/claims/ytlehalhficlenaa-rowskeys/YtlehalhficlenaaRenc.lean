/- Rows' bytes: which rows can be written, the program's Encode and Key, the reference's Right and Encode. -/
import Derived.Test.YtlehalhficlenaaRone
import Derived.Test.YtlehalhficlenaaVrow
import Derived.Test.YtlehalhficlenaaVfit
namespace Go.Proofs.Ytlehalhficlenaa
open Go.RowKit Go.Hay
set_option linter.unusedVariables false
set_option linter.unusedSimpArgs false

/-- Are all values right? -/
def allR (l : List Val) : Bool := l.all Val.right
/-- Which rows can be written. -/
def okR (l : List Val) : Bool := decide (l.length ≤ 16) && allR l
theorem allR_drop (l : List Val) (j : Nat) (h : j < l.length) : allR (l.drop j) = (l[j].right && allR (l.drop (j + 1))) := by
  unfold allR
  rw [List.drop_eq_getElem_cons h, List.all_cons]
theorem allR_at {l : List Val} (h : allR l = true) (j : Nat) (hj : j < l.length) : l[j].right = true := (List.all_eq_true.1 h) _ (List.getElem_mem hj)
theorem okR_len {l : List Val} (h : okR l = true) : l.length ≤ 16 := by unfold okR at h; simp at h; exact h.1
theorem okR_all {l : List Val} (h : okR l = true) : allR l = true := by unfold okR at h; simp at h; exact h.2
/-- A row's bytes, and a key's. -/
def encB (l : List Val) : List UInt8 := octet l.length :: l.flatMap rowB
def keysB (l : List Val) : List UInt8 := l.flatMap keyB
theorem rowB_length {x : Val} (h : x.right = true) : (rowB x).length ≤ 66 := by
  unfold rowB fixB
  split
  · have := right_text h (by assumption)
    simp
    omega
  · repeat (first | split | simp [be_length])
theorem keyB_length {x : Val} (h : x.right = true) : (keyB x).length ≤ 131 := by
  unfold keyB fixB
  split
  · have := right_text h (by assumption)
    have := escK_length x.t.data.toList
    simp at this ⊢
    omega
  · repeat (first | split | simp [be_length])
theorem flat_length {f : Val → List UInt8} {m : Nat} (hf : ∀ x : Val, x.right = true → (f x).length ≤ m) : ∀ l : List Val, allR l = true → (l.flatMap f).length ≤ m * l.length
  | [], _ => by simp
  | x :: l, h => by
    unfold allR at h
    rw [List.all_cons, Bool.and_eq_true] at h
    have h1 := hf x h.1
    have h2 := flat_length hf l h.2
    rw [List.flatMap_cons, List.length_append, List.length_cons, Nat.mul_add]
    omega
theorem flat_take (f : Val → List UInt8) (l : List Val) (j : Nat) (h : j < l.length) : (l.take (j + 1)).flatMap f = (l.take j).flatMap f ++ f l[j] := by
  rw [List.take_succ_eq_append_getElem h, List.flatMap_append]
  simp
theorem allR_take {l : List Val} (h : allR l = true) (j : Nat) : allR (l.take j) = true := by
  unfold allR at *
  rw [List.all_eq_true] at *
  exact fun x hx => h x (List.mem_of_mem_take hx)
/-- What is written, or that it can't be. -/
def encS (l : List Val) : List UInt8 × Int := if okR l = true then (encB l, 0) else ([], 30)
def keyS (l : List Val) : List UInt8 × Int := if okR l = true then (keysB l, 0) else ([], 30)

set_option maxHeartbeats 4000000 in
set_option maxRecDepth 100000 in
theorem cRights (a : Option Addr) (ca : Nat) (l : List Val) (w : World) (ha : Vals w a l) (hl : l.length ≤ 9223372036854775807) :
    Calls Try.prog 15 #[.slice a l.length ca] w fun e w' => e = .returned (.bool (okR l)) ∧ Kp [] w w' := by
  by_cases h16 : l.length ≤ 16
  · have HO : Hid (okR l = allR l) := by show _ = _; unfold okR; simp [h16]
    go_enter Try.func15, Try.ntmps15
    go_wp2_with fail
    go_loopw [10] (fun i wn => ∃ j : Nat, j ≤ l.length ∧ i = .int .i64 j ∧ Hid (allR (l.drop j) = allR l) ∧ Kp [] w wn) (fun i _ => l.length - (intOf i).toNat)
    case atStart => exact ⟨0, Nat.zero_le _, rfl, rfl, Kp.refl _ _⟩
    case round =>
      obtain ⟨j, hj, rfl, hr, hk⟩ := hrel
      by_cases hjm : j < l.length
      · obtain ⟨g, o, rfl, a0, a1, a2, a3⟩ := (ha.kept hk).at j hjm
        have hst := hid (allR_drop l j hjm)
        generalize l[j] = x at *
        have hc := cRight x
        obtain ⟨X, HX⟩ : ∃ X : Bool, Hid (x.right = X) := ⟨_, rfl⟩
        rw [HX.out] at hc
        have hst2 : Hid (allR l = (X && allR (l.drop (j + 1)))) := by show _ = _; rw [← hr.out, hst.out, HX.out]
        clear hst HX hr
        obtain ⟨xk, xb, xn, xt⟩ := x
        unfold Val.v at hc
        dsimp only at a0 a1 a2 a3 hc
        go_wp2_with fail
        refine (hc _).mono ?_
        rintro e w1 ⟨rfl, k1⟩
        cases X
        · go_wp2_with fail
          go_ret
          exact ⟨by rw [HO.out, hst2.out]; rfl, (hk.alloc _).trans k1 (by simp)⟩
        · go_wp2_with fail
          exact ⟨⟨j + 1, by omega, by go_num, by show _ = _; rw [hst2.out]; rfl, (hk.alloc _).trans k1 (by simp)⟩, by simp [intOf]; omega⟩
      · obtain rfl : j = l.length := by omega
        have hn : Hid (allR l = true) := by show _ = _; rw [← hr.out, List.drop_length]; rfl
        clear hr
        go_wp2_with fail
        go_ret
        exact ⟨by rw [HO.out, hn.out]; rfl, hk⟩
  · have HO : Hid (okR l = false) := by show _ = _; unfold okR; simp [h16]
    go_enter Try.func15, Try.ntmps15
    go_wp2_with fail
    go_ret
    exact ⟨by rw [HO.out]; rfl, Kp.refl _ _⟩

/-- What an Encode hands back: a new row. -/
def Wrt (w : World) (r : List UInt8 × Int) (e : Ending) (w' : World) : Prop :=
  ∃ a c bs E, Hid (r = (bs, E)) ∧ e = .returned (.tuple #[.slice a bs.length c, .int .i64 E]) ∧ Row w' (.slice a bs.length c) bs ∧ New w (.slice a bs.length c) w' ∧ bs.length ≤ 10000

set_option maxHeartbeats 4000000 in
set_option maxRecDepth 100000 in
theorem cEncode (a : Option Addr) (ca : Nat) (l : List Val) (w : World) (ha : Vals w a l) (hl : l.length ≤ 9223372036854775807) :
    Calls Try.prog 12 #[.slice a l.length ca] w (Wrt w (encS l)) := by
  have hR := fun w' (k : Kp [] w w') => cRights a ca l w' (ha.kept k) hl
  obtain ⟨R, HR⟩ : ∃ R : Bool, Hid (okR l = R) := ⟨_, rfl⟩
  rw [HR.out] at hR
  have HS : Hid (encS l = if R = true then (encB l, 0) else ([], 30)) := by show _ = _; unfold encS; rw [HR.out]
  cases R
  · have HS2 : Hid (encS l = ([], 30)) := HS
    clear HS
    go_enter Try.func12, Try.ntmps12
    go_wp2_with fail
    refine (hR _ (Kp.refl _ _)).mono ?_
    rintro e w1 ⟨rfl, k1⟩
    go_wp2_with fail
    go_ret2
    exact ⟨none, 0, [], 30, HS2, rfl, Row.nil _, New.nil k1 _, by simp⟩
  · have HS2 : Hid (encS l = (encB l, 0)) := HS
    have h16 := okR_len HR.out
    have hal := okR_all HR.out
    have HA := hid hal
    clear HS hal
    have hwr : IntKind.u8.wrap (l.length : Int) = (l.length : Int) := by rw [IntKind.wrap_u8]; omega
    go_enter Try.func12, Try.ntmps12
    go_wp2_with fail
    refine (hR _ (Kp.refl _ _)).mono ?_
    rintro e w1 ⟨rfl, k1⟩
    have hrw := rowNew w1 rfl l.length (by omega) (by omega) 5
    have hN1 : New w (.slice (some ⟨w1.heap.size, 0, none⟩) 1 1) (w1.alloc (.cells #[.int .u8 l.length] 5)) := ⟨k1.alloc _, by intro k hk; simp [own, Value.ownBlock] at hk; have := k1.size; omega⟩
    go_wp2_with fail
    go_loopw [4, 16] (fun v i wn => ∃ (j : Nat) (cur : List UInt8) (a' : Option Addr) (c' : Nat), j ≤ l.length ∧ i = .int .i64 j ∧ v = .slice a' cur.length c' ∧ Row wn (.slice a' cur.length c') cur ∧ Hid (cur = octet l.length :: (l.take j).flatMap rowB) ∧ New w (.slice a' cur.length c') wn) (fun _ i _ => l.length - (intOf i).toNat)
    case atStart => exact ⟨0, _, _, _, Nat.zero_le _, rfl, rfl, hrw, rfl, hN1⟩
    case round =>
      obtain ⟨j, cur, a', c', hj, rfl, rfl, hrow, hcur, hN⟩ := hrel
      have hcl : cur.length ≤ 1100 := by
        have := flat_length (f := rowB) (m := 66) (fun x hx => rowB_length hx) (l.take j) (allR_take HA.out j)
        rw [hcur.out]
        simp at this ⊢
        omega
      by_cases hjm : j < l.length
      · obtain ⟨g, o, rfl, a0, a1, a2, a3⟩ := (ha.kept hN.kp).at j hjm
        have hst := hid (flat_take rowB l j hjm)
        have hxr := allR_at HA.out j hjm
        generalize l[j] = x at *
        have hc := fun w' (h : Row w' (.slice a' cur.length c') cur) => cPutValue x hxr a' c' cur w' h (by omega)
        clear hxr
        obtain ⟨rb, Hrb⟩ : ∃ rb : List UInt8, Hid (rowB x = rb) := ⟨_, rfl⟩
        rw [Hrb.out] at hc
        obtain ⟨xk, xb, xn, xt⟩ := x
        unfold Val.v at hc
        dsimp only at a0 a1 a2 a3 hc
        go_wp2_with fail
        refine (hc _ (rowKeep hrow (kpNew _ _))).mono ?_
        rintro e w2 ⟨v2, rfl, hr2, hg2⟩
        obtain ⟨a2', c2', rfl, _⟩ := hr2.shape
        obtain ⟨cur2, Hc2⟩ : ∃ cur2 : List UInt8, Hid (cur ++ rb = cur2) := ⟨_, rfl⟩
        rw [Hc2.out] at hr2 hg2 ⊢
        have hN2 := (hN.post (kpNew _ _)).grew hg2
        go_wp2_with fail
        refine ⟨⟨j + 1, cur2, a2', c2', by omega, by go_num, rfl, hr2, ?_, hN2⟩, by simp [intOf]; omega⟩
        show _ = _
        rw [hst.out, ← Hc2.out, hcur.out, Hrb.out] <;> simp
      · obtain rfl : j = l.length := by omega
        rw [List.take_length] at hcur
        go_wp2_with fail
        go_ret2
        exact ⟨_, _, cur, 0, by show _ = _; rw [HS2.out, hcur.out]; rfl, rfl, hrow, hN, by omega⟩
set_option maxHeartbeats 4000000 in
set_option maxRecDepth 100000 in
theorem cKey (a : Option Addr) (ca : Nat) (l : List Val) (w : World) (ha : Vals w a l) (hl : l.length ≤ 9223372036854775807) :
    Calls Try.prog 6 #[.slice a l.length ca] w (Wrt w (keyS l)) := by
  have hR := fun w' (k : Kp [] w w') => cRights a ca l w' (ha.kept k) hl
  obtain ⟨R, HR⟩ : ∃ R : Bool, Hid (okR l = R) := ⟨_, rfl⟩
  rw [HR.out] at hR
  have HS : Hid (keyS l = if R = true then (keysB l, 0) else ([], 30)) := by show _ = _; unfold keyS; rw [HR.out]
  cases R
  · have HS2 : Hid (keyS l = ([], 30)) := HS
    clear HS
    go_enter Try.func6, Try.ntmps6
    go_wp2_with fail
    refine (hR _ (Kp.refl _ _)).mono ?_
    rintro e w1 ⟨rfl, k1⟩
    go_wp2_with fail
    go_ret2
    exact ⟨none, 0, [], 30, HS2, rfl, Row.nil _, New.nil k1 _, by simp⟩
  · have HS2 : Hid (keyS l = (keysB l, 0)) := HS
    have h16 := okR_len HR.out
    have hal := okR_all HR.out
    have HA := hid hal
    clear HS hal
    go_enter Try.func6, Try.ntmps6
    go_wp2_with fail
    refine (hR _ (Kp.refl _ _)).mono ?_
    rintro e w1 ⟨rfl, k1⟩
    go_wp2_with fail
    go_loopw [4, 12] (fun v i wn => ∃ (j : Nat) (cur : List UInt8) (a' : Option Addr) (c' : Nat), j ≤ l.length ∧ i = .int .i64 j ∧ v = .slice a' cur.length c' ∧ Row wn (.slice a' cur.length c') cur ∧ Hid (cur = (l.take j).flatMap keyB) ∧ New w (.slice a' cur.length c') wn) (fun _ i _ => l.length - (intOf i).toNat)
    case atStart => exact ⟨0, [], none, 0, Nat.zero_le _, rfl, rfl, Row.nil _, rfl, New.nil k1 _⟩
    case round =>
      obtain ⟨j, cur, a', c', hj, rfl, rfl, hrow, hcur, hN⟩ := hrel
      have hcl : cur.length ≤ 2200 := by
        have := flat_length (f := keyB) (m := 131) (fun x hx => keyB_length hx) (l.take j) (allR_take HA.out j)
        rw [hcur.out]
        simp at this ⊢
        omega
      by_cases hjm : j < l.length
      · obtain ⟨g, o, rfl, a0, a1, a2, a3⟩ := (ha.kept hN.kp).at j hjm
        have hst := hid (flat_take keyB l j hjm)
        have hxr := allR_at HA.out j hjm
        generalize l[j] = x at *
        have hc := fun w' (h : Row w' (.slice a' cur.length c') cur) => cPutKey x hxr a' c' cur w' h (by omega)
        clear hxr
        obtain ⟨rb, Hrb⟩ : ∃ rb : List UInt8, Hid (keyB x = rb) := ⟨_, rfl⟩
        rw [Hrb.out] at hc
        obtain ⟨xk, xb, xn, xt⟩ := x
        unfold Val.v at hc
        dsimp only at a0 a1 a2 a3 hc
        go_wp2_with fail
        refine (hc _ (rowKeep hrow (kpNew _ _))).mono ?_
        rintro e w2 ⟨v2, rfl, hr2, hg2⟩
        obtain ⟨a2', c2', rfl, _⟩ := hr2.shape
        obtain ⟨cur2, Hc2⟩ : ∃ cur2 : List UInt8, Hid (cur ++ rb = cur2) := ⟨_, rfl⟩
        rw [Hc2.out] at hr2 hg2 ⊢
        have hN2 := (hN.post (kpNew _ _)).grew hg2
        go_wp2_with fail
        refine ⟨⟨j + 1, cur2, a2', c2', by omega, by go_num, rfl, hr2, ?_, hN2⟩, by simp [intOf]; omega⟩
        show _ = _
        rw [hst.out, ← Hc2.out, hcur.out, Hrb.out] <;> simp
      · obtain rfl : j = l.length := by omega
        rw [List.take_length] at hcur
        go_wp2_with fail
        go_ret2
        exact ⟨_, _, cur, 0, by show _ = _; rw [HS2.out, hcur.out]; rfl, rfl, hrow, hN, by omega⟩

set_option maxHeartbeats 4000000 in
set_option maxRecDepth 100000 in
theorem cRefRights (a : Option Addr) (ca : Nat) (l : List Val) (w : World) (ha : Vals w a l) (hl : l.length ≤ 9223372036854775807) :
    Calls Try.prog 17 #[.slice a l.length ca] w fun e w' => e = .returned (.bool (okR l)) ∧ Kp [] w w' := by
  go_enter Try.func17, Try.ntmps17
  go_wp2_with fail
  go_loopw [3] (fun i wn => ∃ j : Nat, j ≤ l.length ∧ i = .int .i64 j ∧ Hid (allR (l.drop j) = allR l) ∧ Kp [] w wn) (fun i _ => l.length - (intOf i).toNat)
  case atStart => exact ⟨0, Nat.zero_le _, rfl, rfl, Kp.refl _ _⟩
  case round =>
    obtain ⟨j, hj, rfl, hr, hk⟩ := hrel
    by_cases hjm : j < l.length
    · obtain ⟨g, o, rfl, a0, a1, a2, a3⟩ := (ha.kept hk).at j hjm
      have hst := hid (allR_drop l j hjm)
      generalize l[j] = x at *
      have hc := cRefRight x
      obtain ⟨X, HX⟩ : ∃ X : Bool, Hid (x.right = X) := ⟨_, rfl⟩
      rw [HX.out] at hc
      have hst2 : Hid (allR l = (X && allR (l.drop (j + 1)))) := by show _ = _; rw [← hr.out, hst.out, HX.out]
      clear hst HX hr
      obtain ⟨xk, xb, xn, xt⟩ := x
      unfold Val.v at hc
      dsimp only at a0 a1 a2 a3 hc
      go_wp2_with fail
      refine (hc _).mono ?_
      rintro e w1 ⟨rfl, k1⟩
      cases X
      · go_wp2_with fail
        go_ret
        exact ⟨by rw [show okR l = false by unfold okR; rw [hst2.out]; simp]; rfl, hk.trans k1 (by simp)⟩
      · go_wp2_with fail
        exact ⟨⟨j + 1, by omega, by go_num, by show _ = _; rw [hst2.out]; rfl, hk.trans k1 (by simp)⟩, by simp [intOf]; omega⟩
    · obtain rfl : j = l.length := by omega
      have hn : Hid (okR l = decide ((l.length : Int) ≤ 16)) := by
        show _ = _
        have : allR l = true := by rw [← hr.out, List.drop_length]; rfl
        unfold okR
        rw [this]
        simp
        omega
      clear hr
      go_wp2_with fail
      go_ret
      exact ⟨by rw [hn.out]; rfl, hk⟩
end Go.Proofs.Ytlehalhficlenaa

/- Plain mathematics: keys are ordered, byte by byte, as their rows are. -/
import Derived.Test.YtkmcdngeddiocaaRkmt
namespace Go.Proofs.Ytkmcdngeddiocaa
open Go.RowKit Go.Hay
set_option linter.unusedVariables false
set_option linter.unusedSimpArgs false

/-- x's bytes stand below y's, whatever stands behind. -/
def Under (p q : List UInt8) : Prop := ∀ s t, Op.bytesLess (p ++ s) (q ++ t) = true
theorem less_same (c : UInt8) (p q : List UInt8) : Op.bytesLess (c :: p) (c :: q) = Op.bytesLess p q := by
  have : ¬ c < c := fun h => by rw [UInt8.lt_iff_toNat_lt] at h; omega
  simp [Op.bytesLess, this]
theorem less_head (c d : UInt8) (p q : List UInt8) (h : c.toNat < d.toNat) : Op.bytesLess (c :: p) (d :: q) = true := by
  have : c < d := UInt8.lt_iff_toNat_lt.2 h
  simp [Op.bytesLess, this]
theorem under_head (c d : UInt8) (p q : List UInt8) (h : c.toNat < d.toNat) : Under (c :: p) (d :: q) := fun s t => less_head c d _ _ h
theorem under_cons (c : UInt8) {p q : List UInt8} (h : Under p q) : Under (c :: p) (c :: q) := fun s t => by
  rw [List.cons_append, List.cons_append, less_same]
  exact h s t
theorem under_be : ∀ (k m n : Nat), m < n → n < 256 ^ k → Under (be m k) (be n k)
  | 0, m, n, h, hn => by simp at hn; omega
  | k + 1, m, n, h, hn => by
    have hp : 0 < 256 ^ k := Nat.pow_pos (by omega)
    have hm' : m / 256 ^ k < 256 := by rw [Nat.div_lt_iff_lt_mul hp, ← Nat.pow_succ']; omega
    have hn' : n / 256 ^ k < 256 := by rw [Nat.div_lt_iff_lt_mul hp, ← Nat.pow_succ']; omega
    have hle : m / 256 ^ k ≤ n / 256 ^ k := Nat.div_le_div_right (by omega)
    have be_mod : ∀ x j, j ≤ k → be (x % 256 ^ k) j = be x j := by
      intro x j hj
      induction j with
      | zero => rfl
      | succ j ih =>
        rw [be, be, ih (by omega)]
        congr 2
        have hs : 256 ^ k = 256 ^ j * (256 * 256 ^ (k - (j + 1))) := by
          rw [← Nat.mul_assoc, ← Nat.pow_succ, ← Nat.pow_add]
          congr 1
          omega
        rw [hs, Nat.mod_mul_right_div_self, Nat.mod_mul_right_mod]
    rw [be, be]
    by_cases he : m / 256 ^ k = n / 256 ^ k
    · rw [he]
      refine under_cons _ ?_
      rw [← be_mod m k (Nat.le_refl _), ← be_mod n k (Nat.le_refl _)]
      refine under_be k _ _ ?_ (Nat.mod_lt _ hp)
      have h1 := Nat.div_add_mod m (256 ^ k)
      have h2 := Nat.div_add_mod n (256 ^ k)
      rw [he] at h1
      omega
    · refine under_head _ _ _ _ ?_
      rw [UInt8.toNat_ofNat', UInt8.toNat_ofNat']
      generalize m / 256 ^ k = A at *
      generalize n / 256 ^ k = B at *
      rw [Nat.mod_eq_of_lt hm', Nat.mod_eq_of_lt hn']
      omega
theorem under_esc : ∀ s t : List UInt8, Op.bytesLess s t = true → Under (escK s ++ [0, 0]) (escK t ++ [0, 0])
  | _, [], h => by simp [Op.bytesLess] at h
  | [], d :: t, _ => by
    rw [escK_cons]
    by_cases hd : d = 0
    · rw [if_pos hd]
      exact under_cons 0 (under_head _ _ _ _ (by decide))
    · rw [if_neg hd]
      have : d.toNat ≠ 0 := fun h => hd (UInt8.toNat_inj.1 h)
      exact under_head _ _ _ _ (by show 0 < d.toNat; omega)
  | c :: s, d :: t, h => by
    rw [escK_cons, escK_cons]
    by_cases hcd : c = d
    · subst hcd
      rw [less_same] at h
      have ih := under_esc s t h
      by_cases hc : c = 0
      · rw [if_pos hc]
        exact under_cons 0 (under_cons 255 ih)
      · rw [if_neg hc]
        exact under_cons c ih
    · have hlt : c.toNat < d.toNat := by
        simp [Op.bytesLess, hcd] at h
        exact UInt8.lt_iff_toNat_lt.1 h
      have hd : d ≠ 0 := by rintro rfl; simp at hlt
      rw [if_neg hd]
      by_cases hc : c = 0
      · rw [if_pos hc]
        exact under_head _ _ _ _ (by show 0 < d.toNat; subst hc; simpa using hlt)
      · rw [if_neg hc]
        exact under_head _ _ _ _ hlt
theorem keyB_kind {x : Val} (h : x.right = true) : ∃ s, keyB x = octet x.k :: s := by
  rcases right_kind h with hk | hk | hk | hk
  · exact ⟨[], by simp [keyB, fixB, hk, octet]⟩
  · exact ⟨[if x.b then 1 else 0], by simp [keyB, fixB, hk, octet]⟩
  · exact ⟨be (u64 (x.n + 9223372036854775808)) 8, by simp [keyB, fixB, hk, octet]⟩
  · exact ⟨escK x.t.data.toList ++ [0, 0], by simp [keyB, hk, octet]⟩
theorem under_val {x y : Val} (hx : x.right = true) (hy : y.right = true) (ix : x.in64) (iy : y.in64) (h : x.lt y = true) : Under (keyB x) (keyB y) := by
  have kx := right_kind hx
  have ky := right_kind hy
  unfold Val.lt at h
  by_cases hk : x.k = y.k
  · rw [if_neg (by simpa using hk)] at h
    by_cases h1 : x.k = 1
    · rw [if_pos h1] at h
      have h1y : y.k = 1 := hk ▸ h1
      simp at h
      simp only [keyB, fixB, h1, h1y]
      rw [h.1, h.2]
      exact under_cons 1 (under_head _ _ _ _ (by decide))
    rw [if_neg h1] at h
    by_cases h2 : x.k = 2
    · rw [if_pos h2] at h
      have h2y : y.k = 2 := hk ▸ h2
      simp at h
      simp only [keyB, fixB, h2, h2y]
      refine under_cons 2 (under_be 8 _ _ ?_ ?_)
      · obtain ⟨p, q⟩ := ix; obtain ⟨p', q'⟩ := iy; unfold u64; omega
      · unfold u64; omega
    rw [if_neg h2] at h
    by_cases h3 : x.k = 3
    · rw [if_pos h3] at h
      have h3y : y.k = 3 := hk ▸ h3
      simp only [keyB, h3, h3y, if_true]
      unfold bl at h
      rw [Go.Lib.toList_data, Go.Lib.toList_data] at h
      exact under_cons 3 (under_esc _ _ h)
    · rw [if_neg h3] at h; cases h
  · rw [if_pos hk] at h
    simp at h
    obtain ⟨s, hs⟩ := keyB_kind hx
    obtain ⟨t, ht⟩ := keyB_kind hy
    rw [hs, ht]
    refine under_head _ _ _ _ ?_
    have a1 := octet_toNat x.k (by omega) (by omega)
    have a2 := octet_toNat y.k (by omega) (by omega)
    omega
theorem less_app (p s t : List UInt8) : Op.bytesLess (p ++ s) (p ++ t) = Op.bytesLess s t := by
  induction p with
  | nil => rfl
  | cons c p ih => rw [List.cons_append, List.cons_append, less_same, ih]
theorem keysB_cons (x : Val) (l : List Val) : keysB (x :: l) = keyB x ++ keysB l := by simp [keysB]
/-- The order of keys is that of rows. -/
theorem keys_less : ∀ a b : List Val, allR a = true → allR b = true → (∀ x ∈ a, x.in64) → (∀ x ∈ b, x.in64) → Op.bytesLess (keysB a) (keysB b) = decide (rowsV a b < 0)
  | [], [], _, _, _, _ => rfl
  | [], y :: b, _, _, _, _ => by
    obtain ⟨f, s, h⟩ := keyB_cons (x := y)
    rw [keysB_cons, h]
    rfl
  | x :: a, [], _, _, _, _ => by
    rw [show keysB [] = [] from rfl]
    cases keysB (x :: a) <;> rfl
  | x :: a, y :: b, ha, hb, ia, ib => by
    unfold allR at ha hb
    rw [List.all_cons, Bool.and_eq_true] at ha hb
    have ih := keys_less a b ha.2 hb.2 (fun z hz => ia z (by simp [hz])) (fun z hz => ib z (by simp [hz]))
    rw [keysB_cons, keysB_cons]
    have hrow : rowsV (x :: a) (y :: b) = if cmpV x y = 0 then rowsV a b else cmpV x y := rfl
    have hc := cmp_eqv x y ha.1 hb.1
    by_cases h1 : x.lt y = true
    · have e : cmpV x y = -1 := by unfold cmpV; rw [if_pos h1]
      have e2 : rowsV (x :: a) (y :: b) = -1 := by rw [hrow, e, if_neg (by omega)]
      rw [e2, under_val ha.1 hb.1 (ia x (by simp)) (ib y (by simp)) h1]
      rfl
    · by_cases h2 : y.lt x = true
      · have e : cmpV x y = 1 := by unfold cmpV; rw [if_neg h1, if_pos h2]
        have e2 : rowsV (x :: a) (y :: b) = 1 := by rw [hrow, e, if_neg (by omega)]
        have hu := under_val hb.1 ha.1 (ib y (by simp)) (ia x (by simp)) h2 (keysB b) (keysB a)
        rw [e2, ← less_total (keyB y ++ keysB b) (keyB x ++ keysB a), hu]
        rfl
      · have e : cmpV x y = 0 := by unfold cmpV; rw [if_neg h1, if_neg h2]
        have e2 : rowsV (x :: a) (y :: b) = rowsV a b := by rw [hrow, if_pos e]
        rw [e] at hc
        have hxy := eqv_eq hc.symm
        rw [e2, ← ih, ← hxy, less_app]
theorem keys_equal (a b : List Val) (ha : okR a = true) (hb : okR b = true) (ia : ∀ x ∈ a, x.in64) (ib : ∀ x ∈ b, x.in64) : (keysB a == keysB b) = (rowsV a b == 0) := by
  rw [keys_same a b ha hb ia ib, rows_same a b (fun x hx => List.all_eq_true.1 (okR_all ha) x hx) (fun x hx => List.all_eq_true.1 (okR_all hb) x hx)]
end Go.Proofs.Ytkmcdngeddiocaa

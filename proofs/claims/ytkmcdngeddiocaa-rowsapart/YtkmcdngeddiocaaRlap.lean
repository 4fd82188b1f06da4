/- The law: unlike rows have unlike bytes, unlike keys; the same value belongs to the same segment. -/
import Derived.Test.YtkmcdngeddiocaaRkmt
import Derived.Test.YtkmcdngeddiocaaRhsh
import Derived.Test.YtkmcdngeddiocaaRlor
import Derived.Test.YtkmcdngeddiocaaVsam
namespace Go.Proofs.Ytkmcdngeddiocaa
open Go.RowKit Go.Hay
set_option linter.unusedVariables false
set_option linter.unusedSimpArgs false

/-- Two values are held, and nothing older turns. -/
theorem keep2 {w wc w1 : World} {p0 p1 p2 p3 r0 r1 r2 r3 : Addr} {a0 a1 a2 a3 b0 b1 b2 b3 : Value}
    (h : wc.cell? p0 = some a0 ∧ wc.cell? p1 = some a1 ∧ wc.cell? p2 = some a2 ∧ wc.cell? p3 = some a3 ∧ wc.cell? r0 = some b0 ∧ wc.cell? r1 = some b1 ∧ wc.cell? r2 = some b2 ∧ wc.cell? r3 = some b3 ∧ Kp [] w wc) (k : Kp [] wc w1) :
    w1.cell? p0 = some a0 ∧ w1.cell? p1 = some a1 ∧ w1.cell? p2 = some a2 ∧ w1.cell? p3 = some a3 ∧ w1.cell? r0 = some b0 ∧ w1.cell? r1 = some b1 ∧ w1.cell? r2 = some b2 ∧ w1.cell? r3 = some b3 ∧ Kp [] w w1 :=
  ⟨kpAt k h.1, kpAt k h.2.1, kpAt k h.2.2.1, kpAt k h.2.2.2.1, kpAt k h.2.2.2.2.1, kpAt k h.2.2.2.2.2.1, kpAt k h.2.2.2.2.2.2.1, kpAt k h.2.2.2.2.2.2.2.1, h.2.2.2.2.2.2.2.2.trans k (by simp)⟩
theorem kpOf2 {w wc : World} {p0 p1 p2 p3 r0 r1 r2 r3 : Addr} {a0 a1 a2 a3 b0 b1 b2 b3 : Value}
    (h : wc.cell? p0 = some a0 ∧ wc.cell? p1 = some a1 ∧ wc.cell? p2 = some a2 ∧ wc.cell? p3 = some a3 ∧ wc.cell? r0 = some b0 ∧ wc.cell? r1 = some b1 ∧ wc.cell? r2 = some b2 ∧ wc.cell? r3 = some b3 ∧ Kp [] w wc) : Kp [] w wc := h.2.2.2.2.2.2.2.2

set_option maxHeartbeats 8000000 in
set_option maxRecDepth 100000 in
theorem apartWalk (a : Option Addr) (na ca : Nat) (l : List Val) (b : Option Addr) (nb cb : Nat) (m : List Val) (many : Int) (w : World) (ha : Vals w a l) (hna : na = l.length) (hca : l.length ≤ ca) (hma : ca ≤ maxLen) (hi : ∀ x ∈ l, x.in64)
    (hb : Vals w b m) (hnb : nb = m.length) (hcb : m.length ≤ cb) (hmb : cb ≤ maxLen) (hj : ∀ x ∈ m, x.in64) (hmany : many ≤ 9223372036854775807) :
    Calls Try.prog 8 #[.slice a na ca, .slice b nb cb, .int .i64 many] w fun e w' => e = .returned (.bool true) ∧ Below w.heap.size w w' := by
  subst hna hnb
  have hla : l.length ≤ 9223372036854775807 := by unfold maxLen at hma; omega
  have hlb : m.length ≤ 9223372036854775807 := by unfold maxLen at hmb; omega
  go_enter Try.func8, Try.ntmps8
  go_wp2_with fail
  refine (cEncode a ca l w ha hla).mono ?_
  rintro e w1 ⟨a1, c1, X, E, hX, rfl, hr1, hn1, hl1⟩
  have k1 := hn1.kp
  go_wp2_with fail
  refine (cEncode b cb m w1 (hb.kept k1) hlb).mono ?_
  rintro e w2 ⟨a2, c2, Y, F, hY, rfl, hr2, hn2, hl2⟩
  have k2 := k1.trans hn2.kp (by simp)
  go_wp2_with fail
  refine (cKey a ca l w2 (ha.kept k2) hla).mono ?_
  rintro e w3 ⟨a3, c3, Z, G, hZ, rfl, hr3, hn3, hl3⟩
  have k3 := k2.trans hn3.kp (by simp)
  go_wp2_with fail
  refine (cKey b cb m w3 (hb.kept k3) hlb).mono ?_
  rintro e w4 ⟨a4, c4, V, H, hV, rfl, hr4, hn4, hl4⟩
  have k4 := k3.trans hn4.kp (by simp)
  have hSa : encS l = if okR l = true then (encB l, 0) else ([], 30) := rfl
  have hSb : encS m = if okR m = true then (encB m, 0) else ([], 30) := rfl
  have hTa : keyS l = if okR l = true then (keysB l, 0) else ([], 30) := rfl
  have hTb : keyS m = if okR m = true then (keysB m, 0) else ([], 30) := rfl
  by_cases hok0 : ¬ okR l = true
  · rw [if_neg hok0, hX.out] at hSa
    obtain ⟨_, rfl⟩ : X = [] ∧ E = 30 := by simpa only [Prod.mk.injEq] using hSa
    clear hSa hSb hTa hTb hX hY hZ hV
    go_wp2_with fail
    refine (cAlive _).mono ?_
    rintro e w5 ⟨rfl, j5⟩
    go_wp2_with fail
    go_ret
    exact ⟨rfl, (k4.trans j5 (by simp)).below⟩
  have hok : okR l = true := Decidable.not_not.1 hok0
  rw [if_pos hok, hX.out] at hSa
  rw [if_pos hok, hZ.out] at hTa
  obtain ⟨rfl, rfl⟩ : X = encB l ∧ E = 0 := by simpa only [Prod.mk.injEq] using hSa
  obtain ⟨rfl, rfl⟩ : Z = keysB l ∧ G = 0 := by simpa only [Prod.mk.injEq] using hTa
  by_cases hok9 : ¬ okR m = true
  · rw [if_neg hok9, hY.out] at hSb
    obtain ⟨_, rfl⟩ : Y = [] ∧ F = 30 := by simpa only [Prod.mk.injEq] using hSb
    clear hSa hSb hTa hTb hX hY hZ hV
    go_wp2_with fail
    refine (cAlive _).mono ?_
    rintro e w5 ⟨rfl, j5⟩
    go_wp2_with fail
    go_ret
    exact ⟨rfl, (k4.trans j5 (by simp)).below⟩
  have hok2 : okR m = true := Decidable.not_not.1 hok9
  rw [if_pos hok2, hY.out] at hSb
  rw [if_pos hok2, hV.out] at hTb
  obtain ⟨rfl, rfl⟩ : Y = encB m ∧ F = 0 := by simpa only [Prod.mk.injEq] using hSb
  obtain ⟨rfl, rfl⟩ : V = keysB m ∧ H = 0 := by simpa only [Prod.mk.injEq] using hTb
  have hen := enc_same l m hok hok2 hi hj
  have hke := keys_same l m hok hok2 hi hj
  have t1 := seesKeep (seesKeep (seesKeep (rowSees hr1).1 hn2.kp) hn3.kp) hn4.kp
  have t2 := seesKeep (seesKeep (rowSees hr2).1 hn3.kp) hn4.kp
  have t3 := seesKeep (rowSees hr3).1 hn4.kp
  have t4 := (rowSees hr4).1
  clear hSa hSb hTa hTb hX hY hZ hV hr1 hr2 hr3 hr4 hn1 hn2 hn3 hn4 k1 k2 k3 hl1 hl2 hl3 hl4
  have hsm := cSame a b ca cb l m w4 (ha.kept k4) (hb.kept k4) hla hlb
  generalize sameV l m = sm at *
  go_wp2_with fail
  refine hsm.mono ?_
  rintro e w5 ⟨rfl, j5⟩
  have k5 := k4.trans j5 (by simp)
  have cv1 := convSees (seesKeep t1 j5) c1
  have cv2 := convSees (seesKeep t2 j5) c2
  have cv3 := convSees (seesKeep t3 j5) c3
  have cv4 := convSees (seesKeep t4 j5) c4
  have hQ1 : ((⟨(encB l).toArray⟩ : ByteArray).toList == (⟨(encB m).toArray⟩ : ByteArray).toList) = sm := by rw [bytesOf, bytesOf]; exact hen
  have hQ2 : ((⟨(keysB l).toArray⟩ : ByteArray).toList == (⟨(keysB m).toArray⟩ : ByteArray).toList) = sm := by rw [bytesOf, bytesOf]; exact hke
  generalize (⟨(encB l).toArray⟩ : ByteArray) = T1 at *
  generalize (⟨(encB m).toArray⟩ : ByteArray) = T2 at *
  generalize (⟨(keysB l).toArray⟩ : ByteArray) = T3 at *
  generalize (⟨(keysB m).toArray⟩ : ByteArray) = T4 at *
  generalize encB l = Z1 at *
  generalize encB m = Z2 at *
  generalize keysB l = Z3 at *
  generalize keysB m = Z4 at *
  clear hen hke t1 t2 t3 t4 hsm k4 j5 hok hok2 hok0 hok9
  have hbs : (sm != sm) = false := by cases sm <;> rfl
  have hva := ha.kept k5
  have hvb := hb.kept k5
  by_cases hl0 : l = []
  · have e0 : ((l.length : Int) == 0) = true := by simp [hl0]
    clear hl0
    cases sm
    all_goals go_wp2_with fail
    all_goals go_quiet ((fail))
    all_goals go_wp2_with fail
    all_goals refine (cAlive _).mono ?_
    all_goals rintro e w6 ⟨rfl, j6⟩
    all_goals go_wp2_with fail
    all_goals go_ret
    all_goals exact ⟨rfl, ((k5.drewN _).trans j6 (by simp)).below⟩
  have hlp : 0 < l.length := by cases l with | nil => exact absurd rfl hl0 | cons _ _ => simp
  have e0 : ((l.length : Int) == 0) = false := beq_eq_false_iff_ne.2 (by omega)
  by_cases hm0 : m = []
  · have e1 : ((m.length : Int) == 0) = true := by simp [hm0]
    clear hm0
    cases sm
    all_goals go_wp2_with fail
    all_goals go_quiet ((fail))
    all_goals go_wp2_with fail
    all_goals refine (cAlive _).mono ?_
    all_goals rintro e w6 ⟨rfl, j6⟩
    all_goals go_wp2_with fail
    all_goals go_ret
    all_goals exact ⟨rfl, ((k5.drewN _).trans j6 (by simp)).below⟩
  have hmp : 0 < m.length := by cases m with | nil => exact absurd rfl hm0 | cons _ _ => simp
  have e1 : ((m.length : Int) == 0) = false := beq_eq_false_iff_ne.2 (by omega)
  obtain ⟨g, o, rfl, x0, x1, x2, x3⟩ := hva.at 0 hlp
  obtain ⟨g', o', rfl, y0, y1, y2, y3⟩ := hvb.at 0 hmp
  simp only [Nat.zero_mul, Nat.add_zero] at x0 x1 x2 x3 y0 y1 y2 y3
  generalize l[0] = x at *
  generalize m[0] = y at *
  obtain ⟨XX, HX, hXX⟩ := neV x y
  have hseg := fun w' => cSegment x many w' hmany
  have hseg2 := fun w' => cSegment y many w' hmany
  cases XX
  · clear hseg hseg2 HX hva hvb
    obtain ⟨xk, xb, xn, xt⟩ := x
    obtain ⟨yk, yb, yn, yt⟩ := y
    dsimp only at x0 x1 x2 x3 y0 y1 y2 y3 hXX
    cases sm
    all_goals go_wp2_with fail
    all_goals go_quiet ((fail))
    all_goals go_wp2_with fail
    all_goals refine (cAlive _).mono ?_
    all_goals rintro e w6 ⟨rfl, j6⟩
    all_goals go_wp2_with fail
    all_goals go_ret
    all_goals exact ⟨rfl, ((k5.drewN _).trans j6 (by simp)).below⟩
  · obtain rfl := eqv_eq HX.out.symm
    clear HX hva hvb hseg2
    generalize segV x many = sg at *
    obtain ⟨xk, xb, xn, xt⟩ := x
    unfold Val.v at hseg
    dsimp only at x0 x1 x2 x3 y0 y1 y2 y3 hXX hseg
    cases sm
    all_goals go_wp2_with fail
    all_goals go_quiet ((fail))
    all_goals go_wp2_with fail
    all_goals first
      | go_region_held3 (fun w' => w'.cell? ⟨g, o, none⟩ = some (.int .i64 xk) ∧ w'.cell? ⟨g, o + 1, none⟩ = some (.bool xb) ∧ w'.cell? ⟨g, o + 2, none⟩ = some (.int .i64 xn) ∧ w'.cell? ⟨g, o + 3, none⟩ = some (.string xt) ∧ w'.cell? ⟨g', o', none⟩ = some (.int .i64 xk) ∧ w'.cell? ⟨g', o' + 1, none⟩ = some (.bool xb) ∧ w'.cell? ⟨g', o' + 2, none⟩ = some (.int .i64 xn) ∧ w'.cell? ⟨g', o' + 3, none⟩ = some (.string xt) ∧ Kp [] w w')
          (first | assumption | exact ⟨x0, x1, x2, x3, y0, y1, y2, y3, (k5.drewN _).drew⟩ | exact keep2 (by assumption) (by assumption))
          (first
            | (go_at_call 13; refine (cAlive _).mono ?_; rintro e w6 ⟨rfl, j6⟩)
            | (go_at_call 20; refine (hseg _).mono ?_; rintro e w6 ⟨rfl, j6⟩))
      | fail
    all_goals go_wp2_with fail
    all_goals go_ret
    all_goals exact ⟨by simp, (kpOf2 (by assumption)).below⟩
end Go.Proofs.Ytkmcdngeddiocaa

/- The law: keys are ordered, byte by byte, as their rows are. -/
import Derived.Test.YtkmcdngeddiocaaRkor
import Derived.Test.YtkmcdngeddiocaaRlpf
namespace Go.Proofs.Ytkmcdngeddiocaa
open Go.RowKit Go.Hay
set_option linter.unusedVariables false
set_option linter.unusedSimpArgs false

theorem bytesOf (l : List UInt8) : (⟨l.toArray⟩ : ByteArray).toList = l := by rw [Go.Lib.toList_data]

set_option maxHeartbeats 8000000 in
set_option maxRecDepth 100000 in
theorem orderWalk (a : Option Addr) (na ca : Nat) (l : List Val) (b : Option Addr) (nb cb : Nat) (m : List Val) (w : World) (ha : Vals w a l) (hna : na = l.length) (hca : l.length ≤ ca) (hma : ca ≤ maxLen) (hi : ∀ x ∈ l, x.in64)
    (hb : Vals w b m) (hnb : nb = m.length) (hcb : m.length ≤ cb) (hmb : cb ≤ maxLen) (hj : ∀ x ∈ m, x.in64) :
    Calls Try.prog 6 #[.slice a na ca, .slice b nb cb] w fun e w' => e = .returned (.bool true) ∧ Below w.heap.size w w' := by
  subst hna hnb
  have hla : l.length ≤ 9223372036854775807 := by unfold maxLen at hma; omega
  have hlb : m.length ≤ 9223372036854775807 := by unfold maxLen at hmb; omega
  have hKa := cKey a ca l w ha hla
  have hKb := fun w' (k : Kp [] w w') => cKey b cb m w' (hb.kept k) hlb
  have hRw := fun w' (k : Kp [] w w') => cRefRows a b ca cb l m w' (ha.kept k) (hb.kept k) hla hlb
  have hSa : keyS l = if okR l = true then (keysB l, 0) else ([], 30) := rfl
  have hSb : keyS m = if okR m = true then (keysB m, 0) else ([], 30) := rfl
  by_cases hok : okR l = true
  · rw [if_pos hok] at hSa
    by_cases hok2 : okR m = true
    · rw [if_pos hok2] at hSb
      have hless := keys_less l m (okR_all hok) (okR_all hok2) hi hj
      have hequal := keys_equal l m hok hok2 hi hj
      rw [hSa] at hKa
      rw [hSb] at hKb
      generalize keysB l = X at *
      generalize keysB m = Y at *
      generalize rowsV l m = n at *
      clear hSa hSb
      go_enter Try.func6, Try.ntmps6
      go_wp2_with fail
      refine hKa.mono ?_
      rintro e w1 ⟨a1, c1, X', E, hX, rfl, hr1, hn1, hl1⟩
      obtain ⟨rfl, rfl⟩ : X = X' ∧ 0 = E := by have := hX.out; simp only [Prod.mk.injEq] at this; exact this
      have k1 := hn1.kp
      go_wp2_with fail
      refine (hKb _ k1).mono ?_
      rintro e w2 ⟨a2, c2, Y', F, hY, rfl, hr2, hn2, hl2⟩
      obtain ⟨rfl, rfl⟩ : Y = Y' ∧ 0 = F := by have := hY.out; simp only [Prod.mk.injEq] at this; exact this
      have k2 := k1.trans hn2.kp (by simp)
      go_wp2_with fail
      refine (cAlive _).mono ?_
      rintro e w3 ⟨rfl, j3⟩
      have k3 := k2.trans j3 (by simp)
      go_wp2_with fail
      refine (hRw _ k3).mono ?_
      rintro e w4 ⟨rfl, j4⟩
      have k4 := k3.trans j4 (by simp)
      have cv1 := convSees (seesKeep (seesKeep (seesKeep (rowSees hr1).1 hn2.kp) j3) j4) c1
      have cv2 := convSees (seesKeep (seesKeep (rowSees hr2).1 j3) j4) c2
      have hL : Op.bytesLess (⟨X.toArray⟩ : ByteArray).toList (⟨Y.toArray⟩ : ByteArray).toList = decide (n < 0) := by rw [bytesOf, bytesOf]; exact hless
      have hQ : ((⟨X.toArray⟩ : ByteArray).toList == (⟨Y.toArray⟩ : ByteArray).toList) = (n == 0) := by rw [bytesOf, bytesOf]; exact hequal
      generalize (⟨X.toArray⟩ : ByteArray) = T at *
      generalize (⟨Y.toArray⟩ : ByteArray) = U at *
      obtain ⟨B1, hB1⟩ : ∃ B1 : Bool, decide (n < 0) = B1 := ⟨_, rfl⟩
      obtain ⟨B2, hB2⟩ : ∃ B2 : Bool, (n == 0) = B2 := ⟨_, rfl⟩
      rw [hB1] at hL
      rw [hB2] at hQ
      clear hX hY hKa hKb hRw hless hequal hr1 hr2 hn1 hn2 j3 j4 k1 k2 k3
      cases B1 <;> cases B2
      all_goals go_wp2_with fail
      all_goals go_ret
      all_goals exact ⟨rfl, k4.below⟩
    · rw [if_neg hok2] at hSb
      rw [hSa] at hKa
      rw [hSb] at hKb
      clear hSa hSb hRw
      go_enter Try.func6, Try.ntmps6
      go_wp2_with fail
      refine hKa.mono ?_
      rintro e w1 ⟨a1, c1, X', E, hX, rfl, hr1, hn1, hl1⟩
      obtain ⟨_, rfl⟩ : keysB l = X' ∧ 0 = E := by have := hX.out; simp only [Prod.mk.injEq] at this; exact this
      have k1 := hn1.kp
      clear hX
      go_wp2_with fail
      refine (hKb _ k1).mono ?_
      rintro e w2 ⟨a2, c2, Y', F, hY, rfl, hr2, hn2, hl2⟩
      obtain ⟨_, rfl⟩ : [] = Y' ∧ 30 = F := by have := hY.out; simp only [Prod.mk.injEq] at this; exact this
      have k2 := k1.trans hn2.kp (by simp)
      clear hY
      go_wp2_with fail
      refine (cAlive _).mono ?_
      rintro e w3 ⟨rfl, j3⟩
      have k3 := k2.trans j3 (by simp)
      go_wp2_with fail
      refine (cAlive _).mono ?_
      rintro e w4 ⟨rfl, j4⟩
      go_wp2_with fail
      go_ret
      exact ⟨rfl, (k3.trans j4 (by simp)).below⟩
  · rw [if_neg hok] at hSa
    rw [hSa] at hKa
    clear hSa hSb hRw
    go_enter Try.func6, Try.ntmps6
    go_wp2_with fail
    refine hKa.mono ?_
    rintro e w1 ⟨a1, c1, X', E, hX, rfl, hr1, hn1, hl1⟩
    obtain ⟨_, rfl⟩ : [] = X' ∧ 30 = E := by have := hX.out; simp only [Prod.mk.injEq] at this; exact this
    have k1 := hn1.kp
    clear hX
    go_wp2_with fail
    refine (hKb _ k1).mono ?_
    rintro e w2 ⟨a2, c2, Y', F, hY, rfl, hr2, hn2, hl2⟩
    have k2 := k1.trans hn2.kp (by simp)
    clear hY
    go_wp2_with fail
    refine (cAlive _).mono ?_
    rintro e w3 ⟨rfl, j3⟩
    have k3 := k2.trans j3 (by simp)
    go_wp2_with fail
    refine (cAlive _).mono ?_
    rintro e w4 ⟨rfl, j4⟩
    go_wp2_with fail
    go_ret
    exact ⟨rfl, (k3.trans j4 (by simp)).below⟩
end Go.Proofs.Ytkmcdngeddiocaa

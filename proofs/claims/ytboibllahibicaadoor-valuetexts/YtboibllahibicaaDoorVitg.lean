/- The reference's integer. -/
import Derived.Test.YtboibllahibicaaDoorVint
namespace Go.Proofs.YtboibllahibicaaDoor
open Go.RowKit Go.Hay
set_option linter.unusedVariables false
set_option linter.unusedSimpArgs false

theorem intF_range : ∀ (l : List UInt8) (n : Int), -9223372036854775808 ≤ n → n ≤ 9223372036854775807 → -9223372036854775808 ≤ l.foldl istep n ∧ l.foldl istep n ≤ 9223372036854775807
  | [], n, h0, h1 => ⟨h0, h1⟩
  | c :: l, n, h0, h1 => intF_range l (istep n c) (istep_range n c h0 h1).1 (istep_range n c h0 h1).2

set_option maxHeartbeats 4000000 in
set_option maxRecDepth 100000 in
theorem cInteger (s : ByteArray) (hs : s.size < 4611686018427387904) (w : World) : Calls Tryd.prog 40 #[.string s] w fun e w' => e = .returned (.int .i64 (integerV s.data.toList)) ∧ w' = w := by
  have hlen : s.data.toList.length = s.size := by rw [Array.length_toList]; rfl
  go_enter Tryd.func40, Tryd.ntmps40
  go_wp2_with fail
  go_loopw [3, 4] (fun n i wn => ∃ j : Nat, j ≤ s.size ∧ i = .int .i64 j ∧ n = .int .i64 (intF (s.data.toList.take j)) ∧ wn = w) (fun _ i _ => s.size - (intOf i).toNat)
  case atStart => exact ⟨0, by omega, rfl, rfl, rfl⟩
  case round =>
    obtain ⟨j, hj, rfl, rfl, rfl⟩ := hrel
    by_cases hjs : j < s.size
    · have hjl : j < s.data.toList.length := by rw [hlen]; exact hjs
      have hst := intF_take s.data.toList j hjl
      have hrg := intF_range (s.data.toList.take j) 0 (by omega) (by omega)
      change _ ≤ intF (s.data.toList.take j) ∧ intF (s.data.toList.take j) ≤ _ at hrg
      obtain ⟨c, hcj⟩ : ∃ c : UInt8, s[j] = c := ⟨_, rfl⟩
      rw [show s.data.toList[j] = c from hcj] at hst
      generalize intF (s.data.toList.take j) = n at *
      generalize hN : intF (s.data.toList.take (j + 1)) = N at *
      have HN := hid hN
      clear hN
      by_cases h45 : c = 45
      · subst h45
        have HS : Hid (N = n) := hst
        clear hst
        go_wp2_with fail
        exact ⟨⟨j + 1, by omega, by go_num, by rw [HN.out, HS.out], by first | rfl | trivial⟩, by simp [intOf]; omega⟩
      · have k45 : c.toNat ≠ 45 := fun h => h45 (UInt8.toNat_inj.1 h)
        have e45 : ((c.toNat : Int) == 45) = false := by simp; omega
        unfold istep at hst
        rw [if_neg h45] at hst
        have HS : Hid (N = wrap64 (wrap64 (wrap64 (n * 10) - wrap64 c.toNat) + 48)) := by
          show _ = _
          have hc := c.toNat_lt
          rw [hst, IntKind.wrap_i64, IntKind.wrap_i64, IntKind.wrap_i64]
          unfold wrap64
          omega
        clear hst h45 k45
        go_wp2_with fail
        exact ⟨⟨j + 1, by omega, by go_num, by rw [HN.out, HS.out], by first | rfl | trivial⟩, by simp [intOf]; omega⟩
    · have hjl : j = s.size := by omega
      subst hjl
      rw [← hlen, List.take_length]
      have HI : Hid (integerV s.data.toList = if s.data.toList.head? = some 45 then intF s.data.toList else IntKind.i64.wrap (-(intF s.data.toList))) := rfl
      have hrg := intF_range s.data.toList 0 (by omega) (by omega)
      change _ ≤ intF s.data.toList ∧ intF s.data.toList ≤ _ at hrg
      generalize intF s.data.toList = n at *
      by_cases h0 : 0 < s.size
      · have h0l : 0 < s.data.toList.length := by rw [hlen]; exact h0
        obtain ⟨c, hcj⟩ : ∃ c : UInt8, s[0] = c := ⟨_, rfl⟩
        have hh : s.data.toList.head? = some c := by rw [List.head?_eq_getElem?, List.getElem?_eq_getElem h0l]; exact congrArg some hcj
        rw [hh] at HI
        clear hh
        by_cases h45 : c = 45
        · subst h45
          have HJ : Hid (integerV s.data.toList = n) := by have := HI.out; rwa [if_pos rfl] at this
          clear HI
          go_wp2_with fail
          go_ret
          exact ⟨by rw [HJ.out]; rfl, rfl⟩
        · have HJ : Hid (integerV s.data.toList = wrap64 (-n)) := by have := HI.out; rw [if_neg (by simpa using h45), IntKind.wrap_i64] at this; show _ = _; unfold wrap64; exact this
          have k45 : c.toNat ≠ 45 := fun h => h45 (UInt8.toNat_inj.1 h)
          have e45 : ((c.toNat : Int) == 45) = false := by simp; omega
          clear HI h45 k45
          go_wp2_with fail
          go_ret
          exact ⟨by rw [HJ.out]; rfl, rfl⟩
      · have h00 : s.size = 0 := by omega
        have hh : s.data.toList = [] := List.length_eq_zero_iff.1 (by rw [hlen]; exact h00)
        have HJ : Hid (integerV s.data.toList = wrap64 (-n)) := by have := HI.out; rw [if_neg (by rw [hh]; simp), IntKind.wrap_i64] at this; show _ = _; unfold wrap64; exact this
        clear HI hh
        go_wp2_with fail
        go_ret
        exact ⟨by rw [HJ.out]; rfl, rfl⟩
end Go.Proofs.YtboibllahibicaaDoor

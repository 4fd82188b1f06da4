/- Is a text a file's name? The program's answer, the reference's. -/
import Derived.Test.YtgllkonbgigcbabDok
import Derived.Test.YtgllkonbgigcbabDmem
import Derived.BigQuiet
import Derived.Deep.QuietTactic
namespace Go.Proofs.Ytgllkonbgigcbab
open Go.RowKit Go.Hay
set_option linter.unusedVariables false
set_option linter.unusedSimpArgs false

def okc (c : UInt8) : Bool := decide (33 ≤ c.toNat) && decide (c.toNat ≤ 126)
theorem nameOk_of {B : ByteArray} (h : ∀ i (hi : i < B.size), okc (B.data[i]'hi) = true) : nameOk B.data.toList = (decide (1 ≤ B.size) && decide (B.size ≤ 32)) := by
  have e : B.data.toList.all (fun c => decide (33 ≤ c.toNat) && decide (c.toNat ≤ 126)) = true := by
    rw [List.all_eq_true]
    intro x hx
    obtain ⟨i, hi, rfl⟩ := List.mem_iff_getElem.1 hx
    exact h i (by simpa using hi)
  unfold nameOk
  rw [e]
  rfl
theorem nameOk_not {B : ByteArray} {i : Nat} (hi : i < B.size) (h : okc (B.data[i]'hi) = false) : nameOk B.data.toList = false := by
  have e : B.data.toList.all (fun c => decide (33 ≤ c.toNat) && decide (c.toNat ≤ 126)) = false := by
    rw [List.all_eq_false]
    exact ⟨B.data[i]'hi, by simp, by rw [show (decide (33 ≤ (B.data[i]'hi).toNat) && decide ((B.data[i]'hi).toNat ≤ 126)) = okc (B.data[i]'hi) from rfl, h]; simp⟩
  unfold nameOk
  rw [e]
  rfl
theorem ixS (B : ByteArray) (j : Nat) (h : j < B.size) (w' : World) : (Instr.index 9 (.string B) (.int .i64 (j : Int))).run Try.prog w' = .ok (.int .u8 ((B.data[j]'h).toNat : Int)) w' := by
  rw [run_index_string w' _ B .i64 _ Try.underlying9, dif_pos ⟨by omega, by omega⟩]
  rfl
set_option maxHeartbeats 2000000 in
theorem cIsName (B : ByteArray) (w : World) (hB : B.size ≤ maxLen) : Calls Try.prog 29 #[.string B] w fun e w' => e = .returned (.bool (nameOk B.data.toList)) ∧ w' = w := by
  by_cases h1 : B.size < 1
  · have hn : Hid (nameOk B.data.toList = false) := by
      show _ = _
      rw [nameOk_of (fun i hi => by omega)]
      simp; omega
    go_enter Try.func29, Try.ntmps29
    go_wp2_with fail
    go_ret
    exact ⟨by rw [hn.out]; rfl, rfl⟩
  · by_cases h2 : 32 < B.size
    · have hn : Hid (nameOk B.data.toList = false) := by
        show _ = _
        unfold nameOk
        have : decide (B.data.toList.length ≤ 32) = false := by simp; omega
        rw [this]; simp
      go_enter Try.func29, Try.ntmps29
      go_wp2_with fail
      go_ret
      exact ⟨by rw [hn.out]; rfl, rfl⟩
    · go_enter Try.func29, Try.ntmps29
      go_wp2_with fail
      go_loopw [14] (fun i wn => ∃ j : Nat, j ≤ B.size ∧ i = .int .i64 j ∧ Hid (∀ k (hk : k < B.size), k < j → okc (B.data[k]'hk) = true) ∧ wn = w) (fun i _ => B.size - (intOf i).toNat)
      case atStart => exact ⟨0, Nat.zero_le _, rfl, (fun k hk h => by omega), rfl⟩
      case round =>
        obtain ⟨j, hj, rfl, hr, rfl⟩ := hrel
        by_cases hjm : j < B.size
        · have ix := ixS B j hjm
          obtain ⟨c, Hc⟩ : ∃ c : Nat, Hid ((B.data[j]'hjm).toNat = c) := ⟨_, rfl⟩
          rw [Hc.out] at ix
          have hc : c < 256 := by rw [← Hc.out]; exact UInt8.toNat_lt _
          by_cases hlo : 33 ≤ c
          · by_cases hhi : c ≤ 126
            · have hn : Hid (∀ k (hk : k < B.size), k < j + 1 → okc (B.data[k]'hk) = true) := fun k hk h => by
                by_cases e : k = j
                · subst e; simp [okc, Hc.out, hlo, hhi]
                · exact hr.out k hk (by omega)
              clear hr
              go_wp2_with fail
              exact ⟨⟨j + 1, by omega, by go_num, hn, trivial⟩, by simp [intOf]; omega⟩
            · have hn : Hid (nameOk B.data.toList = false) := nameOk_not hjm (by simp [okc, Hc.out]; omega)
              clear hr
              go_wp2_with fail
              go_ret
              exact ⟨by rw [hn.out]; rfl, rfl⟩
          · have hn : Hid (nameOk B.data.toList = false) := nameOk_not hjm (by simp [okc, Hc.out]; omega)
            clear hr
            go_wp2_with fail
            go_ret
            exact ⟨by rw [hn.out]; rfl, rfl⟩
        · have hn : Hid (nameOk B.data.toList = true) := by
            show _ = _
            rw [nameOk_of (fun i hi => hr.out i hi (by omega))]
            simp; omega
          clear hr
          go_wp2_with fail
          go_ret
          exact ⟨by rw [hn.out]; rfl, rfl⟩
set_option maxHeartbeats 2000000 in
theorem cRefName (B : ByteArray) (w : World) (hB : B.size ≤ maxLen) : Calls Try.prog 33 #[.string B] w fun e w' => e = .returned (.bool (nameOk B.data.toList)) ∧ w' = w := by
  go_enter Try.func33, Try.ntmps33
  unfold maxLen at hB
  go_wp2_with fail
  go_loopw [3] (fun i wn => ∃ j : Nat, j ≤ B.size ∧ i = .int .i64 j ∧ Hid (∀ k (hk : k < B.size), k < j → okc (B.data[k]'hk) = true) ∧ wn = w) (fun i _ => B.size - (intOf i).toNat)
  case atStart => exact ⟨0, Nat.zero_le _, rfl, (fun k hk h => by omega), rfl⟩
  case round =>
    obtain ⟨j, hj, rfl, hr, rfl⟩ := hrel
    by_cases hjm : j < B.size
    · have ix := ixS B j hjm
      obtain ⟨c, Hc⟩ : ∃ c : Nat, Hid ((B.data[j]'hjm).toNat = c) := ⟨_, rfl⟩
      rw [Hc.out] at ix
      have hc : c < 256 := by rw [← Hc.out]; exact UInt8.toNat_lt _
      by_cases hlo : 33 ≤ c
      · by_cases hhi : c ≤ 126
        · have hn : Hid (∀ k (hk : k < B.size), k < j + 1 → okc (B.data[k]'hk) = true) := fun k hk h => by
            by_cases e : k = j
            · subst e; simp [okc, Hc.out, hlo, hhi]
            · exact hr.out k hk (by omega)
          clear hr
          go_wp2_with fail
          exact ⟨⟨j + 1, by omega, by go_num, hn, trivial⟩, by simp [intOf]; omega⟩
        · have hn : Hid (nameOk B.data.toList = false) := nameOk_not hjm (by simp [okc, Hc.out]; omega)
          clear hr
          go_wp2_with fail
          go_ret
          exact ⟨by rw [hn.out]; rfl, rfl⟩
      · have hn : Hid (nameOk B.data.toList = false) := nameOk_not hjm (by simp [okc, Hc.out]; omega)
        clear hr
        go_wp2_with fail
        go_ret
        exact ⟨by rw [hn.out]; rfl, rfl⟩
    · have hn : Hid (nameOk B.data.toList = (decide (1 ≤ B.size) && decide (B.size ≤ 32))) := nameOk_of (fun i hi => hr.out i hi (by omega))
      clear hr
      by_cases h1 : 1 ≤ B.size
      · by_cases h2 : B.size ≤ 32
        · go_wp2_with fail
          go_ret
          exact ⟨by rw [hn.out]; simp [h1, h2]; omega, rfl⟩
        · go_wp2_with fail
          go_ret
          exact ⟨by rw [hn.out]; simp [h1, h2]; omega, rfl⟩
      · go_wp2_with fail
        go_ret
        exact ⟨by rw [hn.out]; simp [h1], rfl⟩
end Go.Proofs.Ytgllkonbgigcbab

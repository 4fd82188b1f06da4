/- Two bytes read as a number of two digits, at base 16. -/
import Derived.Test.YtboibllahibicaaDoorVbld
import Derived.Lib.ConvBytes
import Derived.Lib.AtoiAllMem
import Derived.Lib.AtoiErrMem
import Derived.Laws.Strings3
import Derived.Laws.Closers25
import Derived.Laws.Closers25b
import Derived.BigCall
import Derived.BigGuard
namespace Go.Proofs.YtboibllahibicaaDoor
open Go.RowKit Go.Hay
set_option linter.unusedVariables false
set_option linter.unusedSimpArgs false

/-- What a byte says as a digit. -/
def dig (c : UInt8) : Option Nat :=
  if 48 ≤ c.toNat ∧ c.toNat ≤ 57 then some (c.toNat - 48) else if 97 ≤ bits .or .u8 (c.toNat : Int) 32 ∧ bits .or .u8 (c.toNat : Int) 32 ≤ 102 then some ((bits .or .u8 (c.toNat : Int) 32).toNat - 87) else none
def pu (n : Nat) : List UInt8 → Option Nat
  | [] => some n
  | c :: r => match dig c with
    | some d => pu (n * 16 + d) r
    | none => none
def puV (T : TypeId) : Option Nat → Value
  | some n => .tuple #[.int .u64 n, .nilIface]
  | none => .tuple #[.int .u64 0, .iface T (.int .i64 2)]

theorem kpBytes (w : World) (t : ByteArray) : Kp [] w (Lib.bytesWorld w 5 t) := Kp.ofBelow (Lib.bytesWorld_below w 5 t) _

set_option maxHeartbeats 32000000 in
set_option maxRecDepth 100000 in
theorem cPuIn (t : ByteArray) (h2 : t.size = 2) (w : World) :
    Calls Tryd.prog 72 #[.string t, .int .i64 16, .int .i64 8] w fun e w' => e = .returned (puV 98 (pu 0 t.data.toList)) ∧ Kp [] w w' := by
  have hne : t.size ≠ 0 := by omega
  have hemp : t.toList.isEmpty = false := by
    rw [← decide_eq_emptyBytes]
    exact decide_eq_false (fun h => hne (by rw [h]; rfl))
  have hcv := Lib.run_convert_string_bytes (P := Tryd.prog) w 9 64 5 t (u := .string) Tryd.underlying9 Tryd.underlying64 Tryd.underlying5
  have hB : ∀ j, j < t.size → (Lib.bytesWorld w 5 t).cell? ⟨w.heap.size, j, none⟩ = some (.int .u8 (t.data.toList.getD j 0).toNat) := fun j hj => Lib.bytesWorld_cell w 5 t j hj
  have hKp : Kp [] w (Lib.bytesWorld w 5 t) := kpBytes w t
  obtain ⟨W1, hW1⟩ : ∃ W1, W1 = Lib.bytesWorld w 5 t := ⟨_, rfl⟩
  rw [← hW1] at hcv hB hKp
  clear hW1
  obtain ⟨bs, hL⟩ : ∃ bs, bs = t.data.toList := ⟨_, rfl⟩
  have hLn : bs.length = t.size := by rw [hL, Lib.size_eq]
  rw [← hL] at hB ⊢
  clear hL
  have h2i : (t.size : Int) = 2 := by omega
  go_enter Tryd.func72, Tryd.ntmps72
  go_wp2
  go_loop [12, 13, 101] (fun vu vn vi => ∃ (k acc : Nat) (a : Int), vu = .bool false ∧ vn = .int .u64 a ∧ vi = .int .i64 k ∧ k ≤ 2 ∧ Hid (a = (acc : Int) ∧ ((k = 0 ∧ acc = 0) ∨ (k = 1 ∧ acc < 16) ∨ (k = 2 ∧ acc < 256)) ∧ pu 0 bs = pu acc (bs.drop k)))
    (fun _ _ vi => 2 - (intOf vi).toNat)
  case atStart => exact ⟨0, 0, 0, rfl, rfl, rfl, by omega, rfl, .inl ⟨rfl, rfl⟩, rfl⟩
  case round =>
    obtain ⟨k, acc, a, rfl, rfl, rfl, hk, hh⟩ := hrel
    obtain ⟨ha, hacc, hdec⟩ := hh.out
    clear hh
    have a0 : 0 ≤ a := by omega
    by_cases hkn : k < 2
    · have hc := hB k (by omega)
      have hdrop : bs.drop k = bs[k]'(by omega) :: bs.drop (k + 1) := List.drop_eq_getElem_cons (by omega)
      have hget : bs.getD k 0 = bs[k]'(by omega) := by simp [List.getD, List.getElem?_eq_getElem (show k < bs.length by omega)]
      rw [hdrop] at hdec
      rw [hget] at hc
      generalize bs[k]'(by omega) = c at hc hdec
      have hc256 : c.toNat < 256 := c.toNat_lt
      have a1 : a ≤ 15 := by omega
      clear hB hdrop hget
      by_cases hdig : 48 ≤ c.toNat ∧ c.toNat ≤ 57
      · have hd : dig c = some (c.toNat - 48) := by unfold dig; rw [if_pos hdig]
        obtain ⟨hd0, hd1⟩ := hdig
        have hF : pu acc (c :: bs.drop (k + 1)) = pu (acc * 16 + (c.toNat - 48)) (bs.drop (k + 1)) := by rw [pu, hd]
        have HN : Hid (a * 16 + ((c.toNat : Int) - 48) = ((acc * 16 + (c.toNat - 48) : Nat) : Int) ∧ ((k + 1 = 0 ∧ acc * 16 + (c.toNat - 48) = 0) ∨ (k + 1 = 1 ∧ acc * 16 + (c.toNat - 48) < 16) ∨ (k + 1 = 2 ∧ acc * 16 + (c.toNat - 48) < 256)) ∧ pu 0 bs = pu (acc * 16 + (c.toNat - 48)) (bs.drop (k + 1))) := hid ⟨by omega, by omega, hdec.trans hF⟩
        clear hF hdec ha hacc hd
        go_wp2
        refine ⟨⟨k + 1, acc * 16 + (c.toNat - 48), a * 16 + ((c.toNat : Int) - 48), rfl, (by first | rfl | (congr 1; omega)), (by first | rfl | (congr 1; omega)), by omega, HN⟩, by simp [intOf]; omega⟩
      · by_cases h95 : c = 95
        · subst h95
          have hb : bits .or .u8 95 32 = 127 := by decide
          have hlow := fun w' => Tryd.internal_strconv_lower 95 w'
          rw [hb] at hlow
          have hF : pu 0 bs = none := by rw [hdec, pu, show dig 95 = none by decide]
          have HF := hid hF
          clear hF hdec ha hacc hdig hb
          go_wp2_with (go_at_call 84; refine (hlow _).mono ?_; rintro e w' ⟨rfl, rfl⟩)
          all_goals go_ret2
          all_goals exact ⟨by rw [HF.out]; rfl, hKp⟩
        have e95 : ((c.toNat : Int) == 95) = false := by have : c.toNat ≠ 95 := fun h => h95 (UInt8.toNat_inj.1 h); simp; omega
        have hlow := fun w' => Tryd.internal_strconv_lower (c.toNat : Int) w'
        have hv0 := bits_lo_u8 .or (c.toNat : Int) 32
        have hv1 := bits_hi_u8 .or (c.toNat : Int) 32
        have hdd : dig c = if 97 ≤ bits .or .u8 (c.toNat : Int) 32 ∧ bits .or .u8 (c.toNat : Int) 32 ≤ 102 then some ((bits .or .u8 (c.toNat : Int) 32).toNat - 87) else none := by unfold dig; rw [if_neg hdig]
        clear h95
        generalize bits .or .u8 (c.toNat : Int) 32 = v at *
        by_cases hl : 97 ≤ v ∧ v ≤ 102
        · have hF : pu acc (c :: bs.drop (k + 1)) = pu (acc * 16 + (v.toNat - 87)) (bs.drop (k + 1)) := by rw [pu, hdd, if_pos hl]
          have HN : Hid (a * 16 + (v - 87) = ((acc * 16 + (v.toNat - 87) : Nat) : Int) ∧ ((k + 1 = 0 ∧ acc * 16 + (v.toNat - 87) = 0) ∨ (k + 1 = 1 ∧ acc * 16 + (v.toNat - 87) < 16) ∨ (k + 1 = 2 ∧ acc * 16 + (v.toNat - 87) < 256)) ∧ pu 0 bs = pu (acc * 16 + (v.toNat - 87)) (bs.drop (k + 1))) := hid ⟨by omega, by omega, hdec.trans hF⟩
          obtain ⟨l0, l1⟩ := hl
          clear hF hdec ha hacc hdd
          go_wp2_with (go_at_call 84; refine (hlow _).mono ?_; rintro e w' ⟨rfl, rfl⟩)
          all_goals first | (exfalso; omega) | skip
          all_goals refine ⟨⟨k + 1, acc * 16 + (v.toNat - 87), a * 16 + (v - 87), rfl, (by first | rfl | (congr 1; omega)), (by first | rfl | (congr 1; omega)), by omega, HN⟩, by simp [intOf]; omega⟩
        · have hF : pu 0 bs = none := by rw [hdec, pu, hdd, if_neg hl]
          have HF := hid hF
          clear hF hdec ha hacc hdd
          go_wp2_with (go_at_call 84; refine (hlow _).mono ?_; rintro e w' ⟨rfl, rfl⟩)
          all_goals first | (exfalso; omega) | skip
          all_goals go_ret2
          all_goals exact ⟨by rw [HF.out]; rfl, hKp⟩
    · have hkk : k = 2 := by omega
      subst hkk
      have hF : pu 0 bs = some acc := by rw [hdec, List.drop_eq_nil_of_le (by omega), pu]
      have HF := hid hF
      subst ha
      clear hF hdec hacc a0
      go_wp2
      go_ret2
      exact ⟨by rw [HF.out]; rfl, hKp⟩
end Go.Proofs.YtboibllahibicaaDoor

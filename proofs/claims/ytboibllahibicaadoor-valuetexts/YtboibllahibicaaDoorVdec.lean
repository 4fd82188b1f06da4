/- The reference's digits. -/
import Derived.Test.YtboibllahibicaaDoorVnum
import Derived.Laws.BytesArg
import Derived.Laws.IdiomStrings
import Derived.Lib.ItoaLen
namespace Go.Proofs.YtboibllahibicaaDoor
open Go.RowKit Go.Hay
set_option linter.unusedVariables false
set_option linter.unusedSimpArgs false

theorem cHex (n : Nat) (m : Int) (hm : m = (n : Int)) (h : n < 16) (w : World) : Calls Tryd.prog 46 #[.int .u8 m] w fun e w' => e = .returned (.int .u8 (hexB n).toNat) ∧ w' = w := by
  subst hm
  by_cases h10 : n < 10
  · have hh : Hid ((hexB n).toNat = 48 + n) := by show _ = _; unfold hexB; rw [if_pos h10, UInt8.toNat_ofNat']; omega
    go_enter Tryd.func46, Tryd.ntmps46
    go_wp2_with fail
    go_ret
    exact ⟨by rw [hh.out]; simp, rfl⟩
  · have hh : Hid ((hexB n).toNat = 87 + n) := by show _ = _; unfold hexB; rw [if_neg h10, UInt8.toNat_ofNat']; omega
    go_enter Tryd.func46, Tryd.ntmps46
    go_wp2_with fail
    go_ret
    exact ⟨by rw [hh.out]; simp, rfl⟩

/-- One byte, as a string. -/
theorem convOne (w : World) (c : UInt8) : (convert 64 9 (.slice (some ⟨w.heap.size, 0, none⟩) 1 1)).run Tryd.prog (w.alloc (.cells #[.int .u8 c.toNat] 5)) = .ok (.string ⟨#[c]⟩) (w.alloc (.cells #[.int .u8 c.toNat] 5)) := by
  refine run_convert_bytes_back (P := Tryd.prog) _ 64 9 5 ⟨w.heap.size, 0, none⟩ 1 [c] Tryd.underlying64 Tryd.underlying5 Tryd.underlying9 (fun j hj => ?_)
  have : j = 0 := by simpa using hj
  subst this
  exact World.cell?_alloc_new w _ _ 0

theorem tmodN (u : Nat) : Int.tmod (-(u : Int)) 10 = -((u % 10 : Nat) : Int) := by
  rw [Int.neg_tmod]
  exact congrArg Neg.neg (Int.ofNat_tmod u 10).symm
theorem tdivN (u : Nat) : Int.tdiv (-(u : Int)) 10 = -((u / 10 : Nat) : Int) := by
  rw [Int.neg_tdiv]
  exact congrArg Neg.neg (Int.ofNat_tdiv u 10).symm
theorem bapp (a b : List UInt8) : (⟨a.toArray⟩ : ByteArray) ++ ⟨b.toArray⟩ = ⟨(a ++ b).toArray⟩ := by
  apply ByteArray.ext
  simp
/-- Digits that are left. -/
def leftD (u : Nat) : List UInt8 := if u = 0 then [] else Lib.decDigits u
theorem leftD_step (u : Nat) (h : 0 < u) : leftD u = leftD (u / 10) ++ [UInt8.ofNat (48 + u % 10)] := by
  unfold leftD
  rw [if_neg (by omega)]
  by_cases h10 : u < 10
  · rw [if_pos (by omega), Lib.decDigits_one h10]
    simp
    congr 1
    omega
  · rw [if_neg (by omega), Lib.decDigits, dif_neg h10]

set_option maxHeartbeats 4000000 in
set_option maxRecDepth 100000 in
theorem cDecimal (n : Int) (h0 : -9223372036854775808 ≤ n) (h1 : n ≤ 9223372036854775807) (w : World) :
    Calls Tryd.prog 45 #[.int .i64 n] w fun e w' => e = .returned (.string ⟨(Lib.itoa n).toArray⟩) ∧ Kp [] w w' := by
  by_cases hz : n = 0
  · subst hz
    have hi : Hid (Lib.itoa 0 = [48]) := by show _ = _; simp [Lib.itoa, Lib.decDigits]
    go_enter Tryd.func45, Tryd.ntmps45
    go_wp2_with fail
    go_ret
    exact ⟨by rw [hi.out]; rfl, Kp.refl _ _⟩
  have hzz : (n == 0) = false := by simpa using hz
  have hwn : 0 < n → IntKind.i64.wrap (-n) = -n := fun h => by rw [IntKind.wrap_i64]; omega
  obtain ⟨u0, hu0⟩ : ∃ u0 : Nat, u0 = n.natAbs := ⟨_, rfl⟩
  by_cases hp : 0 < n
  · have hw := hwn hp
    have hi : Hid (Lib.itoa n = Lib.decDigits u0) := by show _ = _; rw [hu0]; unfold Lib.itoa; rw [if_neg (by omega)]; congr 1; omega
    go_enter Tryd.func45, Tryd.ntmps45
    go_wp2_with fail
    go_loopw [3, 4] (fun vm vs wn => ∃ (m : Int) (u : Nat) (ds : List UInt8), vm = .int .i64 m ∧ vs = .string ⟨ds.toArray⟩ ∧ Hid (m = -(u : Int) ∧ u ≤ 9223372036854775808 ∧ leftD u ++ ds = Lib.decDigits u0) ∧ Kp [] w wn) (fun vm _ _ => (intOf vm).natAbs)
    case atStart => exact ⟨-n, u0, [], rfl, rfl, ⟨by omega, by omega, by unfold leftD; rw [if_neg (by omega)]; simp⟩, Kp.refl _ _⟩
    case round =>
      obtain ⟨m, u, ds, rfl, rfl, hh, hk⟩ := hrel
      obtain ⟨hm, hu, hd⟩ := hh.out
      have hdl : ds.length ≤ 20 := by
        have h1 := congrArg List.length hd
        rw [List.length_append, Lib.decDigits_length] at h1
        have h2 := Lib.nDigits_le20 u0 (by omega)
        omega
      by_cases hm0 : m < 0
      · obtain ⟨rr, e1⟩ : ∃ rr : Int, Int.tmod m 10 = rr := ⟨_, rfl⟩
        obtain ⟨m2, e2⟩ : ∃ m2 : Int, Int.tdiv m 10 = m2 := ⟨_, rfl⟩
        have hrr : rr = -((u % 10 : Nat) : Int) := by rw [← e1, hm]; exact tmodN u
        have hm2 : m2 = -((u / 10 : Nat) : Int) := by rw [← e2, hm]; exact tdivN u
        have hcv : (convert 64 9 (.slice (some ⟨wr.heap.size, 0, none⟩) 1 1)).run Tryd.prog (wr.alloc (.cells #[.int .u8 (48 + (u : Int) % 10)] 5)) = .ok (.string ⟨#[UInt8.ofNat (48 + u % 10)]⟩) (wr.alloc (.cells #[.int .u8 (48 + (u : Int) % 10)] 5)) := by
          have := convOne wr (UInt8.ofNat (48 + u % 10))
          rw [ofNat_digit _ (by omega), show ((48 + u % 10 : Nat) : Int) = 48 + (u : Int) % 10 by omega] at this
          exact this
        have hn2 : Hid (leftD (u / 10) ++ (UInt8.ofNat (48 + u % 10) :: ds) = Lib.decDigits u0) := by
          show _ = _
          rw [← hd, leftD_step u (by omega)]
          simp
        clear hd hh
        go_wp2_with fail
        refine ⟨⟨-((u / 10 : Nat) : Int), u / 10, UInt8.ofNat (48 + u % 10) :: ds, by first | rfl | (simp), ?_, hid ⟨rfl, by omega, hn2.out⟩, hk.alloc _⟩, by simp [intOf]; omega⟩
        have hb := bapp [UInt8.ofNat (48 + u % 10)] ds
        simp at hb ⊢
        exact hb
      · have hu00 : u = 0 := by omega
        subst hu00
        have hds : Hid (ds = Lib.decDigits u0) := by show _ = _; rw [← hd]; simp [leftD]
        clear hd hh
        go_wp2_with fail
        go_ret
        exact ⟨by rw [hi.out, ← hds.out]; rfl, hk⟩
  · have hi : Hid (Lib.itoa n = 45 :: Lib.decDigits u0) := by show _ = _; rw [hu0]; unfold Lib.itoa; rw [if_pos (by omega)]
    go_enter Tryd.func45, Tryd.ntmps45
    go_wp2_with fail
    go_loopw [3, 4] (fun vm vs wn => ∃ (m : Int) (u : Nat) (ds : List UInt8), vm = .int .i64 m ∧ vs = .string ⟨ds.toArray⟩ ∧ Hid (m = -(u : Int) ∧ u ≤ 9223372036854775808 ∧ leftD u ++ ds = Lib.decDigits u0) ∧ Kp [] w wn) (fun vm _ _ => (intOf vm).natAbs)
    case atStart => exact ⟨n, u0, [], rfl, rfl, ⟨by omega, by omega, by unfold leftD; rw [if_neg (by omega)]; simp⟩, Kp.refl _ _⟩
    case round =>
      obtain ⟨m, u, ds, rfl, rfl, hh, hk⟩ := hrel
      obtain ⟨hm, hu, hd⟩ := hh.out
      have hdl : ds.length ≤ 20 := by
        have h1 := congrArg List.length hd
        rw [List.length_append, Lib.decDigits_length] at h1
        have h2 := Lib.nDigits_le20 u0 (by omega)
        omega
      by_cases hm0 : m < 0
      · obtain ⟨rr, e1⟩ : ∃ rr : Int, Int.tmod m 10 = rr := ⟨_, rfl⟩
        obtain ⟨m2, e2⟩ : ∃ m2 : Int, Int.tdiv m 10 = m2 := ⟨_, rfl⟩
        have hrr : rr = -((u % 10 : Nat) : Int) := by rw [← e1, hm]; exact tmodN u
        have hm2 : m2 = -((u / 10 : Nat) : Int) := by rw [← e2, hm]; exact tdivN u
        have hcv : (convert 64 9 (.slice (some ⟨wr.heap.size, 0, none⟩) 1 1)).run Tryd.prog (wr.alloc (.cells #[.int .u8 (48 + (u : Int) % 10)] 5)) = .ok (.string ⟨#[UInt8.ofNat (48 + u % 10)]⟩) (wr.alloc (.cells #[.int .u8 (48 + (u : Int) % 10)] 5)) := by
          have := convOne wr (UInt8.ofNat (48 + u % 10))
          rw [ofNat_digit _ (by omega), show ((48 + u % 10 : Nat) : Int) = 48 + (u : Int) % 10 by omega] at this
          exact this
        have hn2 : Hid (leftD (u / 10) ++ (UInt8.ofNat (48 + u % 10) :: ds) = Lib.decDigits u0) := by
          show _ = _
          rw [← hd, leftD_step u (by omega)]
          simp
        clear hd hh
        go_wp2_with fail
        refine ⟨⟨-((u / 10 : Nat) : Int), u / 10, UInt8.ofNat (48 + u % 10) :: ds, by first | rfl | (simp), ?_, hid ⟨rfl, by omega, hn2.out⟩, hk.alloc _⟩, by simp [intOf]; omega⟩
        have hb := bapp [UInt8.ofNat (48 + u % 10)] ds
        simp at hb ⊢
        exact hb
      · have hu00 : u = 0 := by omega
        subst hu00
        have hds : Hid (ds = Lib.decDigits u0) := by show _ = _; rw [← hd]; simp [leftD]
        clear hd hh
        go_wp2_with fail
        go_ret
        exact ⟨by rw [hi.out, ← hds.out]; exact congrArg (fun x => Ending.returned (Value.string x)) (bapp [45] ds), hk⟩
end Go.Proofs.YtboibllahibicaaDoor

/- unquote: the text up to the quote that ends it. -/
import Derived.Test.YtboibllahibicaaDoorVunq
namespace Go.Proofs.YtboibllahibicaaDoor
open Go.RowKit Go.Hay
set_option linter.unusedVariables false
set_option linter.unusedSimpArgs false

/-- What unquote hands back. -/
def UnqPost (l : List UInt8) (e : Ending) : Prop := ∃ (u : List UInt8) (ok : Bool), e = .returned (.tuple #[.string ⟨u.toArray⟩, .bool ok]) ∧ u.length ≤ 65 ∧ ∀ t : List UInt8, t.length ≤ 64 → l = bodyB t ++ [34] → u = t ∧ ok = true

set_option maxHeartbeats 8000000 in
set_option maxRecDepth 100000 in
theorem cUnquote (s : ByteArray) (w : World) (he : Errs w) (hm : s.size ≤ 9223372036854775807) :
    Calls Tryd.prog 51 #[.string s] w fun e w' => UnqPost s.data.toList e ∧ Kp [] w w' := by
  have hcut := Tryd.strings_CutSuffix s ⟨#[34]⟩ w hm
  rw [show (⟨#[34]⟩ : ByteArray).data.toList = [34] from rfl] at hcut
  obtain ⟨ended, Hend⟩ : ∃ b : Bool, Hid (Lib.hasSuffix s.data.toList [34] = b) := ⟨_, rfl⟩
  obtain ⟨l, Hl⟩ : ∃ l : List UInt8, Hid (Lib.trimSuffix s.data.toList [34] = l) := ⟨_, rfl⟩
  rw [Hend.out, Hl.out] at hcut
  have hB := Bu.new w
  cases ended
  · have HN : Hid (∀ t : List UInt8, s.data.toList = bodyB t ++ [34] → False) := by
      show ∀ t : List UInt8, _
      intro t ht
      have h := Hend.out
      rw [ht] at h
      unfold Lib.hasSuffix at h
      rw [List.isSuffixOf_iff_suffix.2 (List.suffix_append _ _)] at h
      cases h
    clear Hend Hl
    go_enter Tryd.func51, Tryd.ntmps51
    go_wp2_with fail
    refine hcut.mono ?_
    rintro e w1 ⟨rfl, rfl⟩
    go_wp2_with fail
    go_loopw [0] (fun i wn => wn = (w1.alloc (.cells #[.pointer none, .slice none 0 0] 77)) ∧ i = .string ⟨l.toArray⟩) (fun _ _ => 0)
    case atStart => exact ⟨rfl, rfl⟩
    case round =>
      obtain ⟨rfl, rfl⟩ := hrel
      go_wp2_with fail
      refine (cBStr _ _ _ _ hB).mono ?_
      rintro e w2 ⟨rfl, h2⟩
      go_wp2_with fail
      go_ret2
      exact ⟨⟨[], false, rfl, by simp, fun t _ h => (HN.out t h).elim⟩, h2.2⟩
  · have HW : Hid (∀ t : List UInt8, s.data.toList = bodyB t ++ [34] → l = bodyB t) := by
      show ∀ t : List UInt8, _
      intro t ht
      have h := Hl.out
      unfold Lib.trimSuffix at h
      rw [Hend.out, if_pos rfl, ht] at h
      rw [← h]
      simp
    have hll : l.length ≤ s.size := by
      rw [← Hl.out, Lib.size_eq]
      unfold Lib.trimSuffix
      split
      · simp
      · exact Nat.le_refl _
    clear Hend Hl
    go_enter Tryd.func51, Tryd.ntmps51
    go_wp2_with fail
    refine hcut.mono ?_
    rintro e w1 ⟨rfl, rfl⟩
    go_wp2_with fail
    go_loopw [0] (fun i wn => ∃ (rs : ByteArray) (p : List UInt8), i = .string rs ∧ rs.size ≤ 9223372036854775807 ∧ p.length ≤ 65 ∧ Way l p rs.data.toList ∧ Bu w1 wn w1.heap.size p) (fun i _ => match i with | .string rs => rs.size | _ => 0)
    case atStart => exact ⟨⟨l.toArray⟩, [], rfl, by rw [Lib.size_eq]; show l.toArray.toList.length ≤ _; simp; omega, by simp, Way.start l, hB⟩
    case round =>
      obtain ⟨rs, p, rfl, hrs, hp, hway, hb⟩ := hrel
      by_cases h0 : rs.size = 0
      · have hnil : rs.data.toList = [] := by have := Lib.size_eq rs; rw [h0] at this; exact List.length_eq_zero_iff.1 this.symm
        rw [hnil] at hway
        have e0 : (rs.size : Int) = 0 := by omega
        clear h0 hnil
        go_wp2_with fail
        refine (cBStr _ _ _ _ hb).mono ?_
        rintro e w2 ⟨rfl, h2⟩
        go_wp2_with fail
        go_ret2
        exact ⟨⟨p, true, rfl, hp, fun t ht h => ⟨hway.done t ht (HW.out t h), rfl⟩⟩, h2.2⟩
      · have hne : rs.data.toList ≠ [] := fun h => h0 (by rw [Lib.size_eq, h]; rfl)
        have hpos : (0 : Int) < rs.size := by omega
        by_cases h64 : p.length ≤ 64
        · have hfr := fun w' (k : Errs w') => cFront rs w' k h0 hrs
          have hfl := front_le rs.data.toList
          rw [← Lib.size_eq] at hfl
          have hst := hway.step hne
          have hno := hway.none hne
          generalize frontV rs.data.toList = fv at *
          obtain ⟨c, n⟩ := fv
          dsimp only at hfr hfl hst hno
          have h64i : (p.length : Int) ≤ 64 := by omega
          clear hne
          go_wp2_with fail
          refine (cBLen _ _ _ _ hb).mono ?_
          rintro e w2 ⟨rfl, rfl⟩
          go_wp2_with fail
          refine (hfr _ (he.kept hb.2)).mono ?_
          rintro e w3 ⟨rfl, k3⟩
          have hb3 := hb.kept k3
          by_cases hn : n = 0
          · subst hn
            have hno2 := hno rfl
            go_wp2_with fail
            go_ret2
            exact ⟨⟨[], false, rfl, by simp, fun t ht h => (hno2 t ht (HW.out t h)).elim⟩, hb3.2⟩
          · have hnn : ((n : Int) == 0) = false := by simp; omega
            have hnb : (n : Int) ≤ rs.size := by omega
            clear hno hb k3
            go_wp2_with fail
            refine (cWByte _ _ _ _ c _ rfl hb3 (by omega)).mono ?_
            rintro e w4 ⟨rfl, h4⟩
            have hxl : (rs.extract n rs.size).data.toList = rs.data.toList.drop n := by rw [extractL]; exact List.take_of_length_le (by rw [List.length_drop, Lib.size_eq]; omega)
            have hxs : (rs.extract n rs.size).size = rs.size - n := by rw [Lib.size_eq, hxl, List.length_drop, ← Lib.size_eq]
            have HX1 := hid hxl
            have HX2 := hid hxs
            clear hxl hxs
            go_wp2_with fail
            exact ⟨⟨rs.extract n rs.size, p ++ [c], rfl, by rw [HX2.out]; omega, by simp; omega, by rw [HX1.out]; exact hst, h4⟩, by show (rs.extract n rs.size).size < rs.size; rw [HX2.out]; omega⟩
        · have h64i : ¬ (p.length : Int) ≤ 64 := by omega
          go_wp2_with fail
          refine (cBLen _ _ _ _ hb).mono ?_
          rintro e w2 ⟨rfl, rfl⟩
          go_wp2_with fail
          refine (cBStr _ _ _ _ hb).mono ?_
          rintro e w3 ⟨rfl, h3⟩
          go_wp2_with fail
          go_ret2
          exact ⟨⟨p, true, rfl, hp, fun t ht h => (hway.long (by omega) t ht (HW.out t h)).elim⟩, h3.2⟩
end Go.Proofs.YtboibllahibicaaDoor

/- How a value is printed, by the reference. -/
import Derived.Test.YtboibllahibicaaDoorVdec
import Derived.Test.YtboibllahibicaaDoorVrwb
import Derived.Test.YtboibllahibicaaDoorVfit
namespace Go.Proofs.YtboibllahibicaaDoor
open Go.RowKit Go.Hay
set_option linter.unusedVariables false
set_option linter.unusedSimpArgs false

set_option maxHeartbeats 8000000 in
set_option maxRecDepth 100000 in
theorem cRefPrint (x : Val) (h0 : -9223372036854775808 ≤ x.n) (h1 : x.n ≤ 9223372036854775807) (w : World) :
    Calls Tryd.prog 29 #[x.v] w fun e w' => e = .returned (.string ⟨(printB x).toArray⟩) ∧ Kp [] w w' := by
  have hR := cRefRight x
  obtain ⟨r, Hr⟩ : ∃ r : Bool, Hid (x.right = r) := ⟨_, rfl⟩
  rw [Hr.out] at hR
  have hkind : r = true → x.k = 0 ∨ x.k = 1 ∨ x.k = 2 ∨ x.k = 3 := fun h => right_kind (Hr.out.trans h)
  have htext : r = true → x.k = 3 → x.t.size ≤ 64 := fun h => right_text (Hr.out.trans h)
  have hP : printB x = if r = true then (if x.k = 0 then [110, 117, 108, 108] else if x.k = 1 then Lib.formatBool x.b else if x.k = 2 then Lib.itoa x.n else quoteB x.t.data.toList) else [] := by unfold printB; rw [Hr.out]
  generalize printB x = pb at *
  obtain ⟨k, b, n, t⟩ := x
  unfold Val.v at *
  dsimp only at hR hkind htext hP h0 h1
  have kw : Kp [] w (w.alloc (.cells #[.int .i64 k, .bool b, .int .i64 n, .string t] 25)) := (Kp.refl _ _).alloc _
  have bA := Box4.new w (.int .i64 k) (.bool b) (.int .i64 n) (.string t) 25
  clear Hr
  cases r
  · have HP : Hid (pb = []) := hP
    clear hP hkind htext
    go_enter Tryd.func29, Tryd.ntmps29
    go_wp2_with fail
    refine (hR _).mono ?_
    rintro e w1 ⟨rfl, k1⟩
    go_wp2_with fail
    go_ret
    exact ⟨by rw [HP.out]; rfl, kw.trans k1 (by simp)⟩
  · rw [if_pos rfl] at hP
    have hk4 := hkind rfl
    have h64 := htext rfl
    clear hkind htext
    rcases hk4 with rfl | rfl | rfl | rfl
    · have HP : Hid (pb = [110, 117, 108, 108]) := hP
      clear hP h64
      go_enter Tryd.func29, Tryd.ntmps29
      go_wp2_with fail
      refine (hR _).mono ?_
      rintro e w1 ⟨rfl, k1⟩
      have bA1 := bA.kept k1 (by simp)
      have kw1 := kw.trans k1 (by simp)
      have q0 := bA1.c0; have q1 := bA1.c1; have q2 := bA1.c2; have q3 := bA1.c3
      clear bA kw k1 hR
      go_wp2_with fail
      go_ret
      exact ⟨by rw [HP.out]; rfl, kw1⟩
    · have HP : Hid (pb = if b then [116, 114, 117, 101] else [102, 97, 108, 115, 101]) := by show _ = _; rw [← fbool]; exact hP
      clear hP h64
      cases b
      · go_enter Tryd.func29, Tryd.ntmps29
        go_wp2_with fail
        refine (hR _).mono ?_
        rintro e w1 ⟨rfl, k1⟩
        have bA1 := bA.kept k1 (by simp)
        have kw1 := kw.trans k1 (by simp)
        have q0 := bA1.c0; have q1 := bA1.c1; have q2 := bA1.c2; have q3 := bA1.c3
        clear bA kw k1 hR
        go_wp2_with fail
        go_ret
        exact ⟨by rw [HP.out]; rfl, kw1⟩
      · go_enter Tryd.func29, Tryd.ntmps29
        go_wp2_with fail
        refine (hR _).mono ?_
        rintro e w1 ⟨rfl, k1⟩
        have bA1 := bA.kept k1 (by simp)
        have kw1 := kw.trans k1 (by simp)
        have q0 := bA1.c0; have q1 := bA1.c1; have q2 := bA1.c2; have q3 := bA1.c3
        clear bA kw k1 hR
        go_wp2_with fail
        go_ret
        exact ⟨by rw [HP.out]; rfl, kw1⟩
    · have HP : Hid (pb = Lib.itoa n) := hP
      clear hP h64
      go_enter Tryd.func29, Tryd.ntmps29
      go_wp2_with fail
      refine (hR _).mono ?_
      rintro e w1 ⟨rfl, k1⟩
      have bA1 := bA.kept k1 (by simp)
      have kw1 := kw.trans k1 (by simp)
      have q0 := bA1.c0; have q1 := bA1.c1; have q2 := bA1.c2; have q3 := bA1.c3
      clear bA kw k1 hR
      go_wp2_with fail
      refine (cDecimal n h0 h1 _).mono ?_
      rintro e w2 ⟨rfl, k2⟩
      go_wp2_with fail
      go_ret
      exact ⟨by rw [HP.out]; rfl, kw1.trans k2 (by simp)⟩
    · have HP : Hid (pb = quoteB t.data.toList) := hP
      have h65 := h64 rfl
      have hlen : t.data.toList.length = t.size := by rw [Array.length_toList]; rfl
      clear hP h64
      go_enter Tryd.func29, Tryd.ntmps29
      go_wp2_with fail
      refine (hR _).mono ?_
      rintro e w1 ⟨rfl, k1⟩
      have bA1 := bA.kept k1 (by simp)
      have kw1 := kw.trans k1 (by simp)
      have q0 := bA1.c0; have q1 := bA1.c1; have q2 := bA1.c2; have q3 := bA1.c3
      clear bA kw k1 hR
      go_wp2_with fail
      have hrow0 := RowB.new w1 w1 (Nat.le_refl _) [34] 1 rfl (by unfold maxLen; omega)
      go_loopw [4, 5] (fun vb i wn => ∃ j : Nat, j ≤ t.size ∧ i = .int .i64 j ∧ RowB w1 wn vb (34 :: bodyB (t.data.toList.take j)) ∧ Kp [] w1 wn) (fun _ i _ => t.size - (intOf i).toNat)
      case atStart => exact ⟨0, Nat.zero_le _, rfl, hrow0, (Kp.refl _ _).alloc _⟩
      case round =>
        obtain ⟨j, hj, rfl, hrow, hk⟩ := hrel
        clear q0 q1 q2 q3
        have bA2 := bA1.kept hk (by simp)
        have q3 := bA2.c3
        have hbl := bodyB_length (t.data.toList.take j)
        rw [List.length_take] at hbl
        by_cases hjs : j < t.size
        · have hjl : j < t.data.toList.length := by rw [hlen]; exact hjs
          have hst := bodyB_take t.data.toList j hjl
          obtain ⟨c, hcj⟩ : ∃ c : UInt8, t[j] = c := ⟨_, rfl⟩
          rw [show t.data.toList[j] = c from hcj] at hst
          have HS := hid hst
          clear hst
          by_cases h34 : c = 34
          · subst h34
            have he : escB 34 = [92, 34] := rfl
            go_wp2_with (at_builtin; refine wpAppendB rfl _ _ rfl w1 _ _ rfl hrow _ 2 2 [92, 34] rfl rfl rfl (by simp; omega) hk ?_)
            intro v2 w2 r2 k2
            go_wp2_with fail
            exact ⟨⟨j + 1, by omega, by go_num, by rw [HS.out, he]; exact r2, k2⟩, by simp [intOf]; omega⟩
          by_cases h92 : c = 92
          · subst h92
            have he : escB 92 = [92, 92] := rfl
            go_wp2_with (at_builtin; refine wpAppendB rfl _ _ rfl w1 _ _ rfl hrow _ 2 2 [92, 92] rfl rfl rfl (by simp; omega) hk ?_)
            intro v2 w2 r2 k2
            go_wp2_with fail
            exact ⟨⟨j + 1, by omega, by go_num, by rw [HS.out, he]; exact r2, k2⟩, by simp [intOf]; omega⟩
          have k34 : c.toNat ≠ 34 := fun h => h34 (UInt8.toNat_inj.1 h)
          have k92 : c.toNat ≠ 92 := fun h => h92 (UInt8.toNat_inj.1 h)
          have e34 : ((c.toNat : Int) == 34) = false := by simp; omega
          have e92 : ((c.toNat : Int) == 92) = false := by simp; omega
          by_cases hx : c.toNat < 32 ∨ 126 < c.toNat
          · have he : Hid (escB c = [92, 120, hexB (c.toNat / 16), hexB (c.toNat % 16)]) := by show _ = _; unfold escB; rw [if_neg (by simp [h34, h92]), if_pos hx]
            have hc := c.toNat_lt
            clear h34 h92 k34 k92
            rcases hx with hx | hx
            · go_wp2_with fail
              refine (cHex (c.toNat / 16) _ (by omega) (by omega) _).mono ?_
              rintro e w' ⟨rfl, rfl⟩
              go_wp2_with fail
              refine (cHex (c.toNat % 16) _ (by omega) (by omega) _).mono ?_
              rintro e w' ⟨rfl, rfl⟩
              go_wp2_with (at_builtin; refine wpAppendB rfl _ _ rfl w1 _ _ rfl hrow _ 4 4 [92, 120, hexB (c.toNat / 16), hexB (c.toNat % 16)] rfl rfl rfl (by simp; omega) hk ?_)
              intro v2 w2 r2 k2
              go_wp2_with fail
              exact ⟨⟨j + 1, by omega, by go_num, by rw [HS.out, he.out]; exact r2, k2⟩, by simp [intOf]; omega⟩
            · go_wp2_with fail
              refine (cHex (c.toNat / 16) _ (by omega) (by omega) _).mono ?_
              rintro e w' ⟨rfl, rfl⟩
              go_wp2_with fail
              refine (cHex (c.toNat % 16) _ (by omega) (by omega) _).mono ?_
              rintro e w' ⟨rfl, rfl⟩
              go_wp2_with (at_builtin; refine wpAppendB rfl _ _ rfl w1 _ _ rfl hrow _ 4 4 [92, 120, hexB (c.toNat / 16), hexB (c.toNat % 16)] rfl rfl rfl (by simp; omega) hk ?_)
              intro v2 w2 r2 k2
              go_wp2_with fail
              exact ⟨⟨j + 1, by omega, by go_num, by rw [HS.out, he.out]; exact r2, k2⟩, by simp [intOf]; omega⟩
          · have he : Hid (escB c = [c]) := by show _ = _; unfold escB; rw [if_neg (by simp [h34, h92]), if_neg hx]
            have g1 : ¬ c.toNat < 32 := by omega
            have g2 : ¬ 126 < c.toNat := by omega
            clear h34 h92 k34 k92 hx
            go_wp2_with (at_builtin; refine wpAppendB rfl _ _ rfl w1 _ _ rfl hrow _ 1 1 [c] rfl rfl rfl (by simp; omega) hk ?_)
            intro v2 w2 r2 k2
            go_wp2_with fail
            exact ⟨⟨j + 1, by omega, by go_num, by rw [HS.out, he.out]; exact r2, k2⟩, by simp [intOf]; omega⟩
        · have hjl : j = t.size := by omega
          subst hjl
          rw [← hlen, List.take_length] at hrow
          rw [← hlen, List.take_length] at hbl
          go_wp2_with (at_builtin; refine wpAppendB rfl _ _ rfl w1 _ _ rfl hrow _ 1 1 [34] rfl rfl rfl (by simp; omega) hk ?_)
          intro v2 w2 r2 k2
          have hcv := convRow r2
          go_wp2_with fail
          go_ret
          exact ⟨by rw [HP.out]; rfl, kw1.trans k2 (by simp)⟩
end Go.Proofs.YtboibllahibicaaDoor

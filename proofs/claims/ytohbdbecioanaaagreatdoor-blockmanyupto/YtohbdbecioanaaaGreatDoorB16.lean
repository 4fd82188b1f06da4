/- The reference's smalls, read. The reference's dicts, read. The reference's dict. The reference's Runs. -/
import Derived.Test.YtohbdbecioanaaaGreatDoorB15
import Derived.Deep.RegionHeld3
import Derived.Test.YtohbdbecioanaaaGreatDoorB14
import Derived.Test.YtohbdbecioanaaaGreatDoorB4
section
namespace Go.Proofs.YtohbdbecioanaaaGreatDoor
open Go.RowKit Go.Hay
set_option linter.unusedVariables false
set_option linter.unusedSimpArgs false

theorem wrap_sum (U n : Nat) : IntKind.i64.wrap (wrap64 (U : Int) + (n : Int)) = wrap64 (IntKind.u64.wrap ((U : Int) + (n : Int))) := by
  rw [IntKind.wrap_i64, IntKind.wrap_u64]
  unfold wrap64
  generalize (U : Int) = u
  generalize (n : Int) = m
  have h1 : (u + 9223372036854775808) % 18446744073709551616 = u + 9223372036854775808 - 18446744073709551616 * ((u + 9223372036854775808) / 18446744073709551616) := by rw [Int.emod_def]
  have h2 : (u + m) % 18446744073709551616 = u + m - 18446744073709551616 * ((u + m) / 18446744073709551616) := by rw [Int.emod_def]
  rw [h1, h2]
  generalize (u + 9223372036854775808) / 18446744073709551616 = a
  generalize (u + m) / 18446744073709551616 = b
  omega
set_option maxHeartbeats 16000000 in
set_option maxRecDepth 100000 in
theorem cRdSmalls (a : Option Addr) (c : Nat) (bs : List UInt8) (many : Nat) (w : World) (hs : Sees w a bs) (hl : bs.length ≤ c) (hm : c ≤ maxLen) (hb : bs.length ≤ 900000000000000) (hmn : many ≤ 64) :
    Calls Tryz.prog 48 #[.slice a bs.length c, .int .i64 many] w (RvP w (rpBt many bs)) := by
  obtain ⟨F, hFF⟩ : ∃ F, Hid (rpBt many bs = F) := ⟨_, rfl⟩
  rw [hFF.out]
  unfold maxLen at hm
  by_cases h9 : bs.length < 9
  · have hF : Hid (F = []) := by show _ = _; rw [← hFF.out]; unfold rpBt; rw [if_pos (.inl h9)]
    have hfin : RvP w F (.returned (.slice none 0 0)) w := by rw [hF.out]; exact rvP_nil w w (Kp.refl _ _)
    have d1 : (bs.length : Int) < 9 := by omega
    clear hs hFF hF
    go_enter Tryz.func48, Tryz.ntmps48
    go_wp2_with fail
    go_ret
    exact hfin
  · obtain ⟨g, o, rfl, hc⟩ : ∃ g o, a = some ⟨g, o, none⟩ ∧ ∀ j u, bs[j]? = some u → w.cell? ⟨g, o + j, none⟩ = some (.int .u8 u.toNat) := by
      rcases hs with h | h
      · rw [h] at h9; simp at h9
      · exact h
    have h8' : 8 < bs.length := by omega
    have hcx0 := hc 8 bs[8] (by simp [h8'])
    have hg8 : Hid (bs.getD 8 0 = bs[8]) := by show _ = _; simp [h8']
    have hx := bs[8].toNat_lt
    obtain ⟨x, hxx⟩ : ∃ x, Hid (bs[8].toNat = x) := ⟨bs[8].toNat, by show _ = _; rfl⟩
    rw [hxx.out] at hcx0 hx
    have d1 : ¬ (bs.length : Int) < 9 := by omega
    have d1' : ¬ bs.length < 9 := h9
    have hFe : Hid (F = if bs.length < 9 ∨ 64 < x ∨ bs.length ≠ 9 + (many * x + 7) / 8 then [] else (upk (bs.drop 9) many x).map fun (n : Nat) => intV (IntKind.i64.wrap (wordV bs + (n : Int)))) := by show _ = _; rw [← hFF.out]; unfold rpBt; rw [hg8.out, hxx.out]
    by_cases hx64 : 64 < x
    · have hF : Hid (F = []) := by show _ = _; rw [hFe.out, if_pos (.inr (.inl hx64))]
      have hfin : RvP w F (.returned (.slice none 0 0)) w := by rw [hF.out]; exact rvP_nil w w (Kp.refl _ _)
      have d2 : (64 : Int) < (x : Int) := by omega
      clear hs hFF hF hc hFe
      go_enter Tryz.func48, Tryz.ntmps48
      go_wp2_with fail
      go_ret
      exact hfin
    · have d2 : ¬ (64 : Int) < (x : Int) := by omega
      obtain ⟨N, hN⟩ : ∃ N, Hid (many * x = N) := ⟨_, rfl⟩
      have hNb : N ≤ 4096 := by rw [← hN.out]; exact Nat.mul_le_mul hmn (show x ≤ 64 by omega)
      have eN : (many : Int) * (x : Int) = (N : Int) := by rw [← hN.out]; simp
      rw [hN.out] at hFe
      obtain ⟨sz, hsz⟩ : ∃ sz, Hid ((N + 7) / 8 = sz) := ⟨_, rfl⟩
      rw [hsz.out] at hFe
      have esz : ((N : Int) + 7) / 8 = (sz : Int) := by have := hsz.out; omega
      have hszb : sz ≤ 513 := by have := hsz.out; omega
      by_cases hE : bs.length = 9 + sz
      · rw [if_neg (by omega)] at hFe
        have dE : ((bs.length : Int) != 9 + (sz : Int)) = false := by rw [show (bs.length : Int) = 9 + (sz : Int) by omega]; simp
        have dE2 : ((bs.length : Int) == 9 + (sz : Int)) = true := by simp; omega
        have cS := cRefSaid (some ⟨g, o, none⟩) 8 c (bs.take 8) w (hs.front 8) (by simp; omega) (by simp; omega)
        have hwv : Hid (wordV bs = wrap64 (num (bs.take 8))) := rfl
        have hnl := num_lt64 (bs.take 8) (by simp; omega)
        obtain ⟨U, hU⟩ : ∃ U, Hid (num (bs.take 8) = U) := ⟨_, rfl⟩
        rw [hU.out] at cS hwv hnl
        rw [hwv.out] at hFe
        have hdl : (bs.drop 9).length = bs.length - 9 := by simp
        obtain ⟨ba, hba, hsb⟩ := tailB hs c 9 (by omega) hl
        have hcU : Hid (∀ W, Kp [] w W → ∀ i, i < many → Calls Tryz.prog 75 #[.slice ba sz (c - 9), .int .i64 x, .int .i64 i] W fun e w' => e = .returned (.int .u64 (numTo (bs.drop 9) x i x : Int)) ∧ w' = W) := fun W kW i hi => by
          have := cUnpacked ba (c - 9) (bs.drop 9) x i W (hsb.kept kW (by simp)) (by rw [hdl]; omega) (by omega) (by omega) (by
            rw [hdl, hE]
            have h1 : (i + 1) * x ≤ many * x := Nat.mul_le_mul_right _ hi
            rw [hN.out, Nat.succ_mul] at h1
            have := hsz.out
            omega)
          rw [hdl, show bs.length - 9 = sz by omega] at this
          exact this
        have hul := hid (fun i (hi : i < many) => upk_at (bs.drop 9) many x i hi)
        have hnl2 := upk_length (bs.drop 9) many x
        have hbe2 := hba g o rfl
        obtain ⟨ns, hns⟩ : ∃ ns, Hid (upk (bs.drop 9) many x = ns) := ⟨_, rfl⟩
        rw [hns.out] at hFe hul hnl2
        have hnum : Hid (∀ i (hi : i < ns.length), numTo (bs.drop 9) x i x = ns[i]) := fun i hi => by
          have := hul.out i (by omega)
          rw [List.getElem?_eq_getElem hi] at this
          exact (Option.some.inj this).symm
        have hn64 : Hid (∀ i, numTo (bs.drop 9) x i x < 18446744073709551616) := fun i => Nat.lt_of_lt_of_le (numTo_lt _ _ _ _) (Nat.le_trans (Nat.pow_le_pow_right (n := 2) (by omega) (show x ≤ 64 by omega)) (by decide))
        obtain ⟨f, hf⟩ : ∃ f : Nat → Val, Hid ((fun (n : Nat) => intV (IntKind.i64.wrap (wrap64 (U : Int) + (n : Int)))) = f) := ⟨_, rfl⟩
        have hfa : Hid (∀ n : Nat, f n = intV (wrap64 (IntKind.u64.wrap ((U : Int) + (n : Int))))) := fun n => by
          rw [← hf.out]
          exact congrArg intV (wrap_sum U n)
        rw [hf.out] at hFe
        have hcx : Hid (∀ W, Kp [] w W → W.cell? ⟨g, o + 8, none⟩ = some (.int .u8 x)) := fun W kW => kpAt kW hcx0
        have hn2 := hid (NwV.nil w)
        have hnl' := hid hnl2
        have hE' := hid hE
        have d8 : (8 : Int) ≤ (c : Int) := by omega
        clear hba hsb hul hns hf hnl2 hs hFF hc hg8 hxx hU hwv hdl
        go_enter Tryz.func48, Tryz.ntmps48
        go_wp2_with fail
        refine cS.mono ?_
        rintro e w9 ⟨rfl, hw9⟩
        rw [hw9]
        clear hw9 w9 cS
        go_wp2_with fail
        clear esz eN dE dE2 hcx0 hE d1 d2
        go_loopw [6, 7] (fun v6 i wn => ∃ (j : Nat) (oa : Option Addr) (oc : Nat) (os : List Val), j ≤ many ∧ i = .int .i64 j ∧ v6 = .slice oa os.length oc ∧ os.length ≤ 64 ∧ Hid (os = (ns.take j).map f) ∧ NwV w wn oa oc os) (fun _ i _ => many - (intOf i).toNat)
        case atStart => exact ⟨0, none, 0, [], Nat.zero_le _, rfl, rfl, Nat.zero_le _, by show _ = _; simp, hn2.out⟩
        case round =>
          clear hn2
          obtain ⟨i, oa, oc, os, hi, rfl, rfl, hol, hos, I⟩ := hrel
          by_cases hlt : i < many
          · have hin : i < ns.length := by rw [hnl'.out]; exact hlt
            have hq := hnum.out i hin
            have hq64 := hn64.out i
            have hcUi := hid (fun W (kW : Kp [] w W) => hcU.out W kW i hlt)
            simp only [hq] at hcUi
            rw [hq] at hq64
            have hos2 : Hid (os ++ [f (ns[i]'hin)] = (ns.take (i + 1)).map f) := by show _ = _; rw [List.take_succ_eq_append_getElem hin, List.map_append, hos.out]; rfl
            have hfP := hfa.out (ns[i]'hin)
            rw [hfP] at hos2
            have hol3 : os.length + 1 ≤ 64 := by rw [hos.out]; simp; omega
            obtain ⟨P, hP⟩ : ∃ P, Hid (ns[i]'hin = P) := ⟨_, rfl⟩
            simp only [hP.out] at hcUi
            rw [hP.out] at hq64 hos2
            obtain ⟨V, hV⟩ : ∃ V, Hid (wrap64 (IntKind.u64.wrap ((U : Int) + (P : Int))) = V) := ⟨_, rfl⟩
            rw [hV.out] at hos2
            have hVe := hV.out
            have hVe2 : IntKind.i64.wrap (IntKind.u64.wrap ((U : Int) + (P : Int))) = V := by
              rw [← hV.out]
              generalize IntKind.u64.wrap ((U : Int) + (P : Int)) = q
              rw [IntKind.wrap_i64]
              first | rfl | (unfold wrap64; omega)
            have hI := hid I
            have kd : Kp [] w wr.drew := I.kp.drew
            have kdr : Kp [] wr wr.drew := (Kp.refl _ _).drew
            have hS : Hid (∀ A, Kp [] w A → A.cell? ⟨g, o + 8, none⟩ = some (.int .u8 x)) := hcx
            have hwx : IntKind.i64.wrap (x : Int) = (x : Int) := by rw [IntKind.wrap_i64]; omega
            have d9 : (9 : Int) ≤ (bs.length : Int) := by omega
            have hA9 : Hid (∀ X, Kp [] wr X → ∃ X2, X.alloc (.cells #[.int .i64 2, .bool false, .int .i64 V, .string ⟨#[]⟩] 30) = X2 ∧ Kp [] w X2 ∧ ∃ v3 X3, (Builtin.append_ #[23, 23] 23 #[.slice oa os.length oc, .slice (some ⟨X.heap.size, 0, none⟩) 1 1]).run Tryz.prog X2 = .ok v3 X3 ∧ Kp [] w X3 ∧ ∃ (j' : Nat) (oa' : Option Addr) (oc' : Nat) (os' : List Val), j' ≤ many ∧ (.int .i64 ((i : Int) + 1) : Value) = .int .i64 j' ∧ v3 = .slice oa' os'.length oc' ∧ os'.length ≤ 64 ∧ Hid (os' = (ns.take j').map f) ∧ NwV w X3 oa' oc' os') := fun X kX => by
              have hIX := hI.out.keep kX
              obtain ⟨v3, X3, hrun3, a3, c3, rfl, I3, _⟩ := hIX.app1 (intV V) (by omega)
              refine ⟨_, rfl, hIX.kp.alloc _, _, X3, hrun3, I3.kp, i + 1, a3, c3, os ++ [intV V], by omega, by go_num, by simp, by simpa using hol3, hos2, I3⟩
            clear I hos hP hV hos2 hq hfP
            go_wp2_with fail
            refine wp_region_held_drew (S := (fun A => A.cell? ⟨g, o + 8, none⟩ = some (.int .u8 x))) (by kernel_rfl) ?_ (fun hHeld => ?_)
            · exact hS.out _ kd
            generalize wr.drew = wd at *
            refine wpAnyH_take (i := 0) (v := ?_) rfl (by kernel_rfl) (by kernel_rfl) (by kernel_rfl) (fun _ _ _ h => h) (Or.inl ⟨by rfl, ?_⟩) (by assumption) ?_
            rotate_left
            · intro w hSw; (try dsimp only at hSw); go_simp <;> with_reducible rfl
            try simp only [Act.put, List.getElem_toArray, List.getElem_cons_zero, List.getElem_cons_succ, List.setIfInBounds_toArray, List.set_cons_zero, List.set_cons_succ]
            refine wpAnyH_take (i := 1) (v := ?_) rfl (by kernel_rfl) (by kernel_rfl) (by kernel_rfl) (fun _ _ _ h => h) (Or.inl ⟨by rfl, ?_⟩) (by assumption) ?_
            rotate_left
            · intro w hSw; (try dsimp only at hSw); go_simp <;> with_reducible rfl
            try simp only [Act.put, List.getElem_toArray, List.getElem_cons_zero, List.getElem_cons_succ, List.setIfInBounds_toArray, List.set_cons_zero, List.set_cons_succ]
            refine wpAnyH_take (i := 2) (v := ?_) rfl (by kernel_rfl) (by kernel_rfl) (by kernel_rfl) (fun _ _ _ h => h) (Or.inl ⟨by rfl, ?_⟩) (by assumption) ?_
            rotate_left
            · intro w hSw; (try dsimp only at hSw); go_simp <;> with_reducible rfl
            try simp only [Act.put, List.getElem_toArray, List.getElem_cons_zero, List.getElem_cons_succ, List.setIfInBounds_toArray, List.set_cons_zero, List.set_cons_succ]
            refine wpAnyH_take (i := 3) (v := ?_) rfl (by kernel_rfl) (by kernel_rfl) (by kernel_rfl) (fun _ _ _ h => h) (Or.inl ⟨by rfl, ?_⟩) (by assumption) ?_
            rotate_left
            · intro w hSw; (try dsimp only at hSw); go_simp <;> with_reducible rfl
            try simp only [Act.put, List.getElem_toArray, List.getElem_cons_zero, List.getElem_cons_succ, List.setIfInBounds_toArray, List.set_cons_zero, List.set_cons_succ]
            refine wpAnyH_take (i := 4) (v := ?_) rfl (by kernel_rfl) (by kernel_rfl) (by kernel_rfl) (fun _ _ _ h => h) (Or.inl ⟨by rfl, ?_⟩) (by assumption) ?_
            rotate_left
            · intro w hSw; (try dsimp only at hSw); go_simp <;> with_reducible rfl
            try simp only [Act.put, List.getElem_toArray, List.getElem_cons_zero, List.getElem_cons_succ, List.setIfInBounds_toArray, List.set_cons_zero, List.set_cons_succ]
            refine wpAnyH_take (i := 5) (v := ?_) rfl (by kernel_rfl) (by kernel_rfl) (by kernel_rfl) (fun _ _ _ h => h) (Or.inl ⟨by rfl, ?_⟩) (by assumption) ?_
            rotate_left
            · intro w hSw; (try dsimp only at hSw); go_simp <;> with_reducible rfl
            try simp only [Act.put, List.getElem_toArray, List.getElem_cons_zero, List.getElem_cons_succ, List.setIfInBounds_toArray, List.set_cons_zero, List.set_cons_succ]
            refine wpAnyH_take (i := 6) (v := ?_) rfl (by kernel_rfl) (by kernel_rfl) (by kernel_rfl) (fun _ _ _ h => h) (Or.inl ⟨by rfl, ?_⟩) (by assumption) ?_
            rotate_left
            · intro w hSw; (try dsimp only at hSw); go_simp <;> with_reducible rfl
            try simp only [Act.put, List.getElem_toArray, List.getElem_cons_zero, List.getElem_cons_succ, List.setIfInBounds_toArray, List.set_cons_zero, List.set_cons_succ]
            refine wpAnyH_take (i := 7) (v := ?_) rfl (by kernel_rfl) (by kernel_rfl) (by kernel_rfl) (fun _ _ _ h => h) (Or.inl ⟨by rfl, ?_⟩) (by assumption) ?_
            rotate_left
            · intro w hSw; (try dsimp only at hSw); go_simp <;> with_reducible rfl
            try simp only [Act.put, List.getElem_toArray, List.getElem_cons_zero, List.getElem_cons_succ, List.setIfInBounds_toArray, List.set_cons_zero, List.set_cons_succ]
            refine wpAnyH_take (i := 8) (v := ?_) rfl (by kernel_rfl) (by kernel_rfl) (by kernel_rfl) (fun _ _ _ h => h) (Or.inl ⟨by rfl, ?_⟩) (by assumption) ?_
            rotate_left
            · intro w hSw; (try dsimp only at hSw); go_simp <;> with_reducible rfl
            try simp only [Act.put, List.getElem_toArray, List.getElem_cons_zero, List.getElem_cons_succ, List.setIfInBounds_toArray, List.set_cons_zero, List.set_cons_succ]
            refine wpAnyH_ready (rs := [9]) (by kernel_rfl) (by simp) ?_
            refine AllReadyH.cons rfl (fun K hK => ?_) AllReadyH.nil
            go_simp
            refine (hcUi.out wd kd).mono ?_
            rintro e y1 ⟨rfl, hy1⟩
            rw [hy1]
            (try go_wp2_with fail)
            refine hK.out _ _ ?_ (fun hHeld => ?_)
            · exact hHeld
            clear hK K
            try simp only [Act.put, List.getElem_toArray, List.getElem_cons_zero, List.getElem_cons_succ, List.setIfInBounds_toArray, List.set_cons_zero, List.set_cons_succ]
            refine wpAnyH_take (i := 10) (v := ?_) rfl (by kernel_rfl) (by kernel_rfl) (by kernel_rfl) (fun _ _ _ h => h) (Or.inl ⟨by rfl, ?_⟩) (by assumption) ?_
            rotate_left
            · intro w hSw; (try dsimp only at hSw); go_simp <;> with_reducible rfl
            try simp only [Act.put, List.getElem_toArray, List.getElem_cons_zero, List.getElem_cons_succ, List.setIfInBounds_toArray, List.set_cons_zero, List.set_cons_succ]
            refine wpAnyH_take (i := 11) (v := ?_) rfl (by kernel_rfl) (by kernel_rfl) (by kernel_rfl) (fun _ _ _ h => h) (Or.inl ⟨by rfl, ?_⟩) (by assumption) ?_
            rotate_left
            · intro w hSw; (try dsimp only at hSw); go_simp <;> with_reducible rfl
            try simp only [Act.put, List.getElem_toArray, List.getElem_cons_zero, List.getElem_cons_succ, List.setIfInBounds_toArray, List.set_cons_zero, List.set_cons_succ]
            refine wpAnyH_take (i := 12) (v := ?_) rfl (by kernel_rfl) (by kernel_rfl) (by kernel_rfl) (fun _ _ _ h => h) (Or.inl ⟨by rfl, ?_⟩) (by assumption) ?_
            rotate_left
            · intro w hSw; (try dsimp only at hSw); go_simp <;> with_reducible rfl
            try simp only [Act.put, List.getElem_toArray, List.getElem_cons_zero, List.getElem_cons_succ, List.setIfInBounds_toArray, List.set_cons_zero, List.set_cons_succ]
            obtain ⟨X2, hX2, kX2, v3, X3, hrun3, kX3, hgo⟩ := hA9.out wd kdr
            have hX2' := hid hX2
            have hgo' := hid hgo
            clear hX2 hA9 hgo hI
            refine wpAnyH_ready (rs := [13]) (by kernel_rfl) (by simp) ?_
            refine AllReadyH.cons rfl (fun K hK => ?_) AllReadyH.nil
            go_simp
            rw [hX2'.out]
            (try go_wp2_with fail)
            refine hK.out _ _ ?_ (fun hHeld => ?_)
            · exact hS.out _ kX2
            clear hK K
            try simp only [Act.put, List.getElem_toArray, List.getElem_cons_zero, List.getElem_cons_succ, List.setIfInBounds_toArray, List.set_cons_zero, List.set_cons_succ]
            refine wpAnyH_ready (rs := [14]) (by kernel_rfl) (by simp) ?_
            refine AllReadyH.cons rfl (fun K hK => ?_) AllReadyH.nil
            refine stepAppRun rfl _ _ 23 23 rfl _ _ _ rfl rfl hrun3 ?_
            refine hK.out _ _ ?_ (fun hHeld => ?_)
            · exact hS.out _ kX3
            clear hK K
            try simp only [Act.put, List.getElem_toArray, List.getElem_cons_zero, List.getElem_cons_succ, List.setIfInBounds_toArray, List.set_cons_zero, List.set_cons_succ]
            refine wpAnyH_take (i := 15) (v := ?_) rfl (by kernel_rfl) (by kernel_rfl) (by kernel_rfl) (fun _ _ _ h => h) (Or.inl ⟨by rfl, ?_⟩) (by assumption) ?_
            rotate_left
            · intro w hSw; (try dsimp only at hSw); go_simp <;> with_reducible rfl
            try simp only [Act.put, List.getElem_toArray, List.getElem_cons_zero, List.getElem_cons_succ, List.setIfInBounds_toArray, List.set_cons_zero, List.set_cons_succ]
            refine wpAnyH_done (by kernel_rfl) ?_ _
            go_wp2_with fail
            exact ⟨hgo'.out, by simp [intOf]; omega⟩
          · obtain rfl : i = many := by omega
            rw [← hnl'.out, List.take_length] at hos
            rw [← hos.out] at hFe
            have hfin : RvP w F (.returned (.slice oa os.length oc)) wr := by rw [hFe.out]; exact ⟨oa, oc, rfl, I⟩
            clear I hos hFe
            go_wp2_with fail
            go_ret
            exact hfin
      · have hF : Hid (F = []) := by show _ = _; rw [hFe.out, if_pos (.inr (.inr hE))]
        have hfin : RvP w F (.returned (.slice none 0 0)) w := by rw [hF.out]; exact rvP_nil w w (Kp.refl _ _)
        have dE : ((bs.length : Int) != 9 + (sz : Int)) = true := by simp only [bne_iff_ne]; omega
        have dE2 : ((bs.length : Int) == 9 + (sz : Int)) = false := by rw [beq_eq_false_iff_ne]; omega
        clear hs hFF hF hc hFe
        go_enter Tryz.func48, Tryz.ntmps48
        go_wp2_with fail
        go_ret
        exact hfin
end Go.Proofs.YtohbdbecioanaaaGreatDoor
end

section
namespace Go.Proofs.YtohbdbecioanaaaGreatDoor
open Go.RowKit Go.Hay
set_option linter.unusedVariables false
set_option linter.unusedSimpArgs false

theorem tkF_len : ∀ (n : Nat) (acc : List Val) (bs : List UInt8) (q : List Val × List UInt8), tkF n acc bs = some q → q.1.length = acc.length + n ∧ q.2.length ≤ bs.length
  | 0, acc, bs, q, h => by rw [tkF] at h; injection h with h; subst h; simp
  | n + 1, acc, bs, q, h => by
    rw [tkF] at h
    split at h
    · cases h
    · obtain ⟨h1, h2⟩ := tkF_len n _ _ q h
      simp at h1 h2
      omega
/-- The rest of dicts, once the words are read. -/
def rpDr (many : Nat) (u : List Val) (r : List UInt8) : List Val := if u.length = 0 then [] else if r.length ≠ (many * Lib.bitLen (u.length - 1) + 7) / 8 then [] else
      if (upk r many (Lib.bitLen (u.length - 1))).all (fun p => decide (p < u.length)) = true then (upk r many (Lib.bitLen (u.length - 1))).map fun p => u.getD p nv else []
def rpDo (many : Nat) : Option (List Val × List UInt8) → List Val
  | none => []
  | some q => rpDr many q.1 q.2
theorem rpDc_eq (many : Nat) (bs : List UInt8) (h : ¬ bs.length = 0) : rpDc many bs = rpDo many (tkF (bs.getD 0 0).toNat [] (bs.drop 1)) := by
  unfold rpDc
  rw [if_neg h]
  cases tkF (bs.getD 0 0).toNat [] (bs.drop 1) with
  | none => rfl
  | some q => rfl
set_option maxHeartbeats 16000000 in
set_option maxRecDepth 100000 in
theorem cRdDicts (a : Option Addr) (c : Nat) (bs : List UInt8) (many : Nat) (w : World) (hs : Sees w a bs) (hl : bs.length ≤ c) (hm : c ≤ maxLen) (hb : bs.length ≤ 900000000000000) (hmn : many ≤ 64) :
    Calls Tryz.prog 47 #[.slice a bs.length c, .int .i64 many] w (RvP w (rpDc many bs)) := by
  obtain ⟨F, hFF⟩ : ∃ F, Hid (rpDc many bs = F) := ⟨_, rfl⟩
  rw [hFF.out]
  have hmx := hid hm
  unfold maxLen at hm
  by_cases h8 : bs.length = 0
  · have hF : Hid (F = []) := by show _ = _; rw [← hFF.out]; unfold rpDc; rw [if_pos h8]
    have hfin : RvP w F (.returned (.slice none 0 0)) w := by rw [hF.out]; exact rvP_nil w w (Kp.refl _ _)
    rw [h8]
    clear hs hFF hF h8 hl hb
    go_enter Tryz.func47, Tryz.ntmps47
    go_wp2_with fail
    go_ret
    exact hfin
  · have hF : Hid (rpDo many (tkF (bs.getD 0 0).toNat [] (bs.drop 1)) = F) := by show _ = _; rw [← hFF.out, rpDc_eq many bs h8]
    obtain ⟨g, o, rfl, hc⟩ : ∃ g o, a = some ⟨g, o, none⟩ ∧ ∀ j u, bs[j]? = some u → w.cell? ⟨g, o + j, none⟩ = some (.int .u8 u.toNat) := by
      rcases hs with h | h
      · rw [h] at h8; simp at h8
      · exact h
    have h8' : 0 < bs.length := by omega
    have hg8 : Hid (bs.getD 0 0 = bs[0]) := by show _ = _; simp [h8']
    have hx := bs[0].toNat_lt
    have hcx : Hid (∀ W, Kp [] w W → W.cell? ⟨g, o, none⟩ = some (.int .u8 bs[0].toNat)) := fun W kW => by
      have := kpAt kW (hc 0 bs[0] (by simp [h8']))
      rw [Nat.add_zero] at this
      exact this
    obtain ⟨x, hxx⟩ : ∃ x, Hid (bs[0].toNat = x) := ⟨bs[0].toNat, by show _ = _; rfl⟩
    rw [hg8.out, hxx.out] at hF
    rw [hxx.out] at hx
    simp only [hxx.out] at hcx
    have d1 : ((bs.length : Int) == 0) = false := by rw [beq_eq_false_iff_ne]; omega
    have hn0 := hid (NwV.nil w)
    have hs' := hid hs
    have hcx0 := hcx.out w (Kp.refl _ _)
    clear hs hFF hc hg8 hxx
    go_enter Tryz.func47, Tryz.ntmps47
    go_wp2_with fail
    clear hcx0
    go_loopw [5, 6, 7] (fun v5 v6 i wn => ∃ (j A : Nat) (la : Option Addr) (lc : Nat) (acc : List Val), j ≤ x ∧ i = .int .i64 j ∧ A ≤ bs.length ∧ v6 = .int .i64 A ∧ v5 = .slice la acc.length lc ∧ acc.length ≤ 255 ∧ NwV w wn la lc acc ∧ Hid (acc.length = j) ∧ Hid (rpDo many (tkF (x - j) acc (bs.drop A)) = F)) (fun _ _ i _ => x - (intOf i).toNat)
    case atStart => exact ⟨0, 1, none, 0, [], Nat.zero_le _, rfl, by omega, rfl, rfl, Nat.zero_le _, hn0.out, rfl, by rw [Nat.sub_zero]; exact hF⟩
    case round =>
      clear hn0 hF
      obtain ⟨j, A, la, lc, acc, hj, rfl, hA, rfl, rfl, hal2, I, hal, hF⟩ := hrel
      have hcb := hcx.out wr I.kp
      have dx : (x : Int) < 256 := by omega
      by_cases hlt : j < x
      · obtain ⟨ba, hba, hsb⟩ := tailB hs'.out c A hA hl
        have hdl : (bs.drop A).length = bs.length - A := by simp
        have cF := cFront ba (c - A) (bs.drop A) wr (hsb.kept I.kp (by simp)) (by rw [hdl]; omega) (by have := hmx.out; unfold maxLen at this ⊢; omega)
        rw [hdl] at cF
        have hle := rowF_le (bs.drop A)
        rw [hdl] at hle
        rw [show x - j = (x - (j + 1)) + 1 by omega, tkF] at hF
        have hd2 : Hid (∀ n, (bs.drop A).drop n = bs.drop (A + n)) := fun n => by rw [List.drop_drop]
        obtain ⟨⟨v, n⟩, hR⟩ : ∃ t, Hid (rowF (bs.drop A) = t) := ⟨_, rfl⟩
        rw [hR.out] at cF hle hF
        unfold Tk at cF
        dsimp only at cF hle hF
        rw [hd2.out] at hF
        have hxv : Hid (v.v = .agg #[.int .i64 v.k, .bool v.b, .int .i64 v.n, .string v.t]) := rfl
        rw [hxv.out] at cF
        have hI := hid I
        have hbe2 := hba g o rfl
        clear I hxv hsb hR hd2 hdl hba
        have djx : (j : Int) < (x : Int) := by omega
        go_wp2_with fail
        refine cF.mono ?_
        rintro e w1 ⟨rfl, k1⟩
        obtain ⟨wb, hwb⟩ : ∃ wb, w1.alloc (.cells #[.int .i64 v.k, .bool v.b, .int .i64 v.n, .string v.t] 30) = wb := ⟨_, rfl⟩
        have kb : Kp [] w1 wb := by rw [← hwb]; exact (Kp.refl _ _).alloc _
        have bx : Box4 wb w1.heap.size (.int .i64 v.k) (.bool v.b) (.int .i64 v.n) (.string v.t) := by rw [← hwb]; exact Box4.new _ _ _ _ _ _
        have kwb := k1.trans kb (by simp)
        clear cF hbe2 hcb
        by_cases hn : n = 0
        · subst hn
          rw [if_pos rfl] at hF
          have hfin : RvP w F (.returned (.slice none 0 0)) wb := by rw [← hF.out]; exact rvP_nil w wb (hI.out.kp.trans kwb (by simp))
          clear hF hI
          go_wp2_with fail
          go_ret
          exact hfin
        · rw [if_neg hn] at hF
          have hn' : ((n : Int) == 0) = false := by rw [beq_eq_false_iff_ne]; omega
          have p0 := bx.c0; have p1 := bx.c1; have p2 := bx.c2; have p3 := bx.c3
          obtain ⟨v3, X3, hrun3, a3, c3, rfl, I3, _⟩ := (hI.out.keep kwb).app1 v (by omega)
          have hal3 : acc.length + 1 ≤ 255 := by rw [hal.out]; omega
          have hnx : Hid (∃ (j' A' : Nat) (la : Option Addr) (lc : Nat) (acc' : List Val), j' ≤ x ∧ (.int .i64 ((j : Int) + 1) : Value) = .int .i64 j' ∧ A' ≤ bs.length ∧ (.int .i64 ((A : Int) + (n : Int)) : Value) = .int .i64 A' ∧ (.slice a3 (acc.length + 1) c3 : Value) = .slice la acc'.length lc ∧ acc'.length ≤ 255 ∧ NwV w X3 la lc acc' ∧ Hid (acc'.length = j') ∧ Hid (rpDo many (tkF (x - j') acc' (bs.drop A')) = F)) :=
            ⟨j + 1, A + n, a3, c3, acc ++ [v], by omega, by go_num, by omega, by go_num, by simp, by simpa using hal3, I3, by show _ = _; simp [hal.out], hF⟩
          clear I3 hI hF hal bx
          go_wp2_with (first | (refine wpAppRun rfl _ _ 23 23 rfl _ _ _ rfl rfl hrun3 ?_) | fail)
          exact ⟨hnx.out, by simp [intOf]; omega⟩
      · obtain rfl : j = x := by omega
        rw [Nat.sub_self, tkF] at hF
        have hF0 : Hid (rpDr many acc (bs.drop A) = F) := hF
        have djx : ¬ (j : Int) < (j : Int) := by omega
        by_cases h0 : acc.length = 0
        · have hF1 : Hid (F = []) := by show _ = _; rw [← hF0.out]; unfold rpDr; rw [if_pos h0]
          have hfin : RvP w F (.returned (.slice none 0 0)) wr := by rw [hF1.out]; exact rvP_nil w wr I.kp
          rw [h0]
          clear I hF hF0 hF1
          go_wp2_with fail
          go_ret
          exact hfin
        · have dac : ((acc.length : Int) == 0) = false := by rw [beq_eq_false_iff_ne]; omega
          have cW := cRefWidth (acc.length - 1) wr (by omega)
          have hwb := bitLen_le64 (acc.length - 1)
          have hF1 : Hid ((if (bs.drop A).length ≠ (many * Lib.bitLen (acc.length - 1) + 7) / 8 then [] else if (upk (bs.drop A) many (Lib.bitLen (acc.length - 1))).all (fun p => decide (p < acc.length)) = true then (upk (bs.drop A) many (Lib.bitLen (acc.length - 1))).map fun p => acc.getD p nv else []) = F) := by show _ = _; rw [← hF0.out]; unfold rpDr; rw [if_neg h0]
          obtain ⟨W0, hW0⟩ : ∃ W0, Hid (Lib.bitLen (acc.length - 1) = W0) := ⟨_, rfl⟩
          rw [hW0.out] at cW hwb hF1
          have hdl : (bs.drop A).length = bs.length - A := by simp
          rw [hdl] at hF1
          obtain ⟨U1, hU1⟩ : ∃ U1, Hid (acc.length - 1 = U1) := ⟨_, rfl⟩
          rw [hU1.out] at cW
          have e2 : ((acc.length : Int) - 1) = (U1 : Int) := by have := hU1.out; omega
          have e3 : IntKind.u64.wrap (U1 : Int) = (U1 : Int) := by rw [IntKind.wrap_u64]; have := hU1.out; omega
          obtain ⟨N, hN⟩ : ∃ N, Hid (many * W0 = N) := ⟨_, rfl⟩
          have hNb : N ≤ 4096 := by rw [← hN.out]; exact Nat.mul_le_mul hmn hwb
          have eN : (many : Int) * (W0 : Int) = (N : Int) := by rw [← hN.out]; simp
          rw [hN.out] at hF1
          obtain ⟨sz, hsz⟩ : ∃ sz, Hid ((N + 7) / 8 = sz) := ⟨_, rfl⟩
          rw [hsz.out] at hF1
          have esz : ((N : Int) + 7) / 8 = (sz : Int) := by have := hsz.out; omega
          have hszb : sz ≤ 513 := by have := hsz.out; omega
          have hI := hid I
          clear I hF hF0 hW0 hU1
          go_wp2_with fail
          refine cW.mono ?_
          rintro e w9 ⟨rfl, hw9⟩
          rw [hw9]
          clear hw9 w9 cW hcb
          by_cases hE : bs.length - A = sz
          · rw [if_neg (by omega)] at hF1
            have dE : ((bs.length : Int) != (A : Int) + (sz : Int)) = false := by rw [show (bs.length : Int) = (A : Int) + (sz : Int) by omega]; simp
            have dE2 : ((bs.length : Int) == (A : Int) + (sz : Int)) = true := by simp; omega
            obtain ⟨ba, hba, hsb⟩ := tailB hs'.out c A hA hl
            have hcU : Hid (∀ W, Kp [] w W → ∀ i, i < many → Calls Tryz.prog 75 #[.slice ba sz (c - A), .int .i64 W0, .int .i64 i] W fun e w' => e = .returned (.int .u64 (numTo (bs.drop A) W0 i W0 : Int)) ∧ w' = W) := fun W kW i hi => by
              have := cUnpacked ba (c - A) (bs.drop A) W0 i W (hsb.kept kW (by simp)) (by rw [hdl]; omega) hwb (by omega) (by
                rw [hdl, hE]
                have h1 : (i + 1) * W0 ≤ many * W0 := Nat.mul_le_mul_right _ hi
                rw [hN.out, Nat.succ_mul] at h1
                have := hsz.out
                omega)
              rw [hdl, hE] at this
              exact this
            have hul := hid (fun i (hi : i < many) => upk_at (bs.drop A) many W0 i hi)
            have hnl := upk_length (bs.drop A) many W0
            have hbe2 := hba g o rfl
            obtain ⟨ns, hns⟩ : ∃ ns, Hid (upk (bs.drop A) many W0 = ns) := ⟨_, rfl⟩
            rw [hns.out] at hF1 hul hnl
            have hnum : Hid (∀ i (hi : i < ns.length), numTo (bs.drop A) W0 i W0 = ns[i]) := fun i hi => by
              have := hul.out i (by omega)
              rw [List.getElem?_eq_getElem hi] at this
              exact (Option.some.inj this).symm
            have hn64 : Hid (∀ i, numTo (bs.drop A) W0 i W0 < 18446744073709551616) := fun i => Nat.lt_of_lt_of_le (numTo_lt _ _ _ _) (Nat.le_trans (Nat.pow_le_pow_right (n := 2) (by omega) hwb) (by decide))
            have kI := hI.out.kp
            have hov : Hid (∀ W, Kp [] wr W → Vals W la acc) := fun W kW => (rowVals (hI.out.row.keptNew kW)).1
            generalize wr = w2 at *
            have hn2 := hid (NwV.nil w2)
            obtain ⟨f, hf⟩ : ∃ f : Nat → Val, Hid ((fun p => acc.getD p nv) = f) := ⟨_, rfl⟩
            have hfa : Hid (∀ p (h : p < acc.length), f p = acc[p]) := fun p h => by rw [← hf.out]; simp [h]
            rw [hf.out] at hF1
            have hnl' := hid hnl
            clear hba hsb hul hns hI hf hnl
            go_wp2_with fail
            clear esz eN e2 e3 dE dE2
            go_loopw [11, 12] (fun v11 i wn => ∃ (j : Nat) (oa : Option Addr) (oc : Nat) (os : List Val), j ≤ many ∧ i = .int .i64 j ∧ v11 = .slice oa os.length oc ∧ os.length ≤ 64 ∧ Hid (os = (ns.take j).map f) ∧ Hid ((ns.take j).all (fun p => decide (p < acc.length)) = true) ∧ NwV w2 wn oa oc os) (fun _ i _ => many - (intOf i).toNat)
            case atStart => exact ⟨0, none, 0, [], Nat.zero_le _, rfl, rfl, Nat.zero_le _, by show _ = _; simp, by show _ = _; simp, hn2.out⟩
            case round =>
              clear hn2
              obtain ⟨i, oa, oc, os, hi, rfl, rfl, hol, hos, hall, I⟩ := hrel
              by_cases hlt2 : i < many
              · have hin : i < ns.length := by rw [hnl'.out]; exact hlt2
                have cU := hcU.out wr (kI.trans I.kp (by simp)) i hlt2
                have hq := hnum.out i hin
                have hq64 := hn64.out i
                rw [hq] at cU hq64
                have hI2 := hid I
                have di : (i : Int) < (many : Int) := by omega
                obtain ⟨P, hP⟩ : ∃ P, Hid (ns[i]'hin = P) := ⟨_, rfl⟩
                rw [hP.out] at cU hq64
                by_cases hPu : P < acc.length
                · obtain ⟨g3, o3, rfl, y0, y1, y2, y3⟩ := (hov.out wr I.kp).at P hPu
                  have hfP := hid (hfa.out P hPu)
                  have hall2 : Hid ((ns.take (i + 1)).all (fun p => decide (p < acc.length)) = true) := all_take hall.out hin (by rw [hP.out]; simpa using hPu)
                  have hos2 : Hid (os ++ [f P] = (ns.take (i + 1)).map f) := by show _ = _; rw [List.take_succ_eq_append_getElem hin, List.map_append, hos.out, hP.out]; rfl
                  rw [hfP.out] at hos2
                  obtain ⟨v, hv⟩ : ∃ v, Hid (acc[P]'hPu = v) := ⟨_, rfl⟩
                  rw [hv.out] at y0 y1 y2 y3 hos2
                  obtain ⟨v3, X3, hrun3, a3, c3, rfl, I3, _⟩ := hI2.out.app1 v (by omega)
                  have hol3 : os.length + 1 ≤ 64 := by rw [hos.out]; simp; omega
                  have hnx : Hid (∃ (j' : Nat) (oa : Option Addr) (oc : Nat) (os' : List Val), j' ≤ many ∧ (.int .i64 ((i : Int) + 1) : Value) = .int .i64 j' ∧ (.slice a3 (os.length + 1) c3 : Value) = .slice oa os'.length oc ∧ os'.length ≤ 64 ∧ Hid (os' = (ns.take j').map f) ∧ Hid ((ns.take j').all (fun p => decide (p < acc.length)) = true) ∧ NwV w2 X3 oa oc os') :=
                    ⟨i + 1, a3, c3, os ++ [v], by omega, by go_num, by simp, by simpa using hol3, hos2, hall2, I3⟩
                  have e1 : ¬ (acc.length : Int) ≤ (P : Int) := by omega
                  have e2' : ¬ acc.length ≤ P := by omega
                  clear I I3 hI2 hos hall hfP hv hP hos2
                  go_wp2_with fail
                  refine cU.mono ?_
                  rintro e w9 ⟨rfl, hw9⟩
                  rw [hw9]
                  clear hw9 w9 cU
                  go_wp2_with (first | (refine wpAppRun rfl _ _ 23 23 rfl _ _ _ rfl rfl hrun3 ?_) | fail)
                  exact ⟨hnx.out, by simp [intOf]; omega⟩
                · have hF2 : Hid (F = []) := by show _ = _; rw [← hF1.out, all_false hin (by rw [hP.out]; simpa using hPu)]; simp
                  have hfin : RvP w F (.returned (.slice none 0 0)) wr := by rw [hF2.out]; exact rvP_nil w wr (kI.trans I.kp (by simp))
                  have e1 : (acc.length : Int) ≤ (P : Int) := by omega
                  have e2' : acc.length ≤ P := by omega
                  clear I hI2 hos hall hP hF1 hF2
                  go_wp2_with fail
                  refine cU.mono ?_
                  rintro e w9 ⟨rfl, hw9⟩
                  rw [hw9]
                  clear hw9 w9 cU
                  go_wp2_with fail
                  go_ret
                  exact hfin
              · obtain rfl : i = many := by omega
                rw [← hnl'.out, List.take_length] at hall hos
                rw [if_pos hall.out, ← hos.out] at hF1
                have hfin : RvP w F (.returned (.slice oa os.length oc)) wr := by rw [← hF1.out]; exact ⟨oa, oc, rfl, I.back kI⟩
                have di : ¬ (i : Int) < (i : Int) := by omega
                clear I hos hall hF1
                go_wp2_with fail
                go_ret
                exact hfin
          · rw [if_pos hE] at hF1
            have hfin : RvP w F (.returned (.slice none 0 0)) wr := by rw [← hF1.out]; exact rvP_nil w wr hI.out.kp
            have dE : ((bs.length : Int) != (A : Int) + (sz : Int)) = true := by simp only [bne_iff_ne]; omega
            have dE2 : ((bs.length : Int) == (A : Int) + (sz : Int)) = false := by rw [beq_eq_false_iff_ne]; omega
            clear hF1 hI
            go_wp2_with fail
            go_ret
            exact hfin
end Go.Proofs.YtohbdbecioanaaaGreatDoor
end

section
namespace Go.Proofs.YtohbdbecioanaaaGreatDoor
open Go.RowKit Go.Hay
set_option linter.unusedVariables false
set_option linter.unusedSimpArgs false

/-- Just one place is a value's. -/
theorem idx_only {u : List Val} (hu : u.Nodup) {x : Val} (hx : x ∈ u) (k : Nat) (hk : k < u.length) : (u[k].eqv x = true) ↔ k = idxV u x := by
  obtain ⟨h1, h2, _⟩ := idxV_mem u x hx
  have e2 : u[idxV u x] = x := by have : u.getD (idxV u x) nv = u[idxV u x] := by simp [h1]
                                  rw [← this]; exact h2
  rw [eqv_iff]
  constructor
  · intro h
    rcases Nat.lt_trichotomy k (idxV u x) with h3 | h3 | h3
    · exact absurd (by rw [h, e2]) (List.pairwise_iff_getElem.1 hu k (idxV u x) hk h1 h3)
    · exact h3
    · exact absurd (by rw [h, e2]) (List.pairwise_iff_getElem.1 hu (idxV u x) k h1 hk h3)
  · rintro rfl; exact e2
set_option maxHeartbeats 16000000 in
set_option maxRecDepth 100000 in
theorem cRefDict (a : Option Addr) (ca : Nat) (l : List Val) (w : World) (ha : Vals w a l) (hr : allR l = true) (h0 : 0 < l.length) (hl : l.length ≤ 64) :
    Calls Tryz.prog 80 #[.slice a l.length ca] w (NB (dictB l) w) := by
  have cWd := cRefWords a ca l w ha hl
  rw [words_uniq l hr] at cWd
  have hul := uniq_len l
  have hur := uniq_right l hr
  have hum := uniq_mem l
  have hnd := uniq_sorted l hr
  have hF : Hid (dictB l = [octet (uniq l).length] ++ (uniq l).flatMap rowB ++ packB (plcs (uniq l) l l.length) (Lib.bitLen ((uniq l).length - 1))) := rfl
  obtain ⟨F, hFF⟩ : ∃ F, Hid (dictB l = F) := ⟨_, rfl⟩
  rw [hFF.out] at hF ⊢
  obtain ⟨u, hu⟩ : ∃ u, Hid (uniq l = u) := ⟨_, rfl⟩
  rw [hu.out] at cWd hul hur hF hnd
  simp only [hu.out] at hum
  have hu0 : 0 < u.length := by
    cases l with
    | nil => simp at h0
    | cons x r => exact List.length_pos_of_mem ((hum x).2 (by simp))
  have hu64 : u.length ≤ 64 := by omega
  have hplb : Hid (∀ j, j ≤ l.length → ∀ p ∈ plcs u l j, p < u.length) := fun j hj p hp => by
    unfold plcs at hp
    obtain ⟨k, hk, rfl⟩ := List.mem_map.1 hp
    have hk' : k < l.length := by have : k < j := by simpa using hk
                                  omega
    have eg : l.getD k nv = l[k] := by simp [hk']
    exact (idxV_mem u _ ((hum _).2 (by rw [eg]; exact List.getElem_mem hk'))).1
  have hidx : Hid (∀ j (hj : j < l.length) k (hk : k < u.length), (u[k].eqv l[j] = true) ↔ k = idxV u l[j]) := fun j hj k hk => idx_only hnd ((hum _).2 (List.getElem_mem hj)) k hk
  have hidl : Hid (∀ j (hj : j < l.length), idxV u l[j] < u.length) := fun j hj => (idxV_mem u _ ((hum _).2 (List.getElem_mem hj))).1
  have hfl := flat_length (f := rowB) (m := 66) (fun x hx => rowB_length hx) u hur
  have hur' := hid hur
  have ha' := hid ha
  clear ha hFF hu hum hnd hur
  go_enter Tryz.func80, Tryz.ntmps80
  go_wp2_with fail
  refine cWd.mono ?_
  rintro e w1 ⟨ua, uc, rfl, U1⟩
  have hvx : (u.length : Int) = ((octet u.length).toNat : Int) := by rw [octet_nat u.length (by omega)]
  have I1 : NwB w (w1.alloc (.cells #[.int .u8 (u.length : Int)] 5)) (some ⟨w1.heap.size, 0, none⟩) 1 [octet u.length] := by
    refine ⟨.inr ⟨w1.heap.size, 0, 1, rfl, Nat.le_refl _, by decide, by simp, fun j v hv => ?_, fun j hj => ?_⟩, fun q hq => by simp [blk] at hq; have := U1.kp.size; omega, U1.kp.alloc _⟩
    · have e : (w1.alloc (.cells #[.int .u8 (u.length : Int)] 5)).cell? ⟨w1.heap.size, 0 + j, none⟩ = _ := World.cell?_alloc_new w1 _ _ (0 + j)
      rw [e, Nat.zero_add]
      rw [hvx]
      simpa [El.cs, BytE] using hv
    · have e : (w1.alloc (.cells #[.int .u8 (u.length : Int)] 5)).cell? ⟨w1.heap.size, 0 + j, none⟩ = _ := World.cell?_alloc_new w1 _ _ (0 + j)
      refine ⟨?_, World.frozen?_alloc_new w1 _ _ (0 + j)⟩
      have hj1 : j = 0 := by have e4 : BytE.n = 1 := rfl; rw [e4] at hj; omega
      subst hj1
      rw [e]; rfl
  have hI1 := hid I1
  have kA1 : Kp [] w1 (w1.alloc (.cells #[.int .u8 (u.length : Int)] 5)) := (Kp.refl _ _).alloc _
  have hvx' := hid hvx
  have hU := hid U1
  have hwz : IntKind.u8.wrap (u.length : Int) = (u.length : Int) := by rw [IntKind.wrap_u8]; omega
  have hwz2 : (u.length : Int) % 256 = (u.length : Int) := by omega
  have kw1 := U1.kp
  clear cWd I1 U1 hvx
  go_wp2_with fail
  clear hwz hwz2
  go_loopw [4, 5] (fun v4 i wn => ∃ (j : Nat) (ba : Option Addr) (bc : Nat) (bs : List UInt8), j ≤ u.length ∧ i = .int .i64 j ∧ v4 = .slice ba bs.length bc ∧ NwB w wn ba bc bs ∧ Kp [] w1 wn ∧ (∀ k ∈ blk ba, w1.heap.size ≤ k) ∧ Hid (bs = [octet u.length] ++ (u.take j).flatMap rowB)) (fun _ i _ => u.length - (intOf i).toNat)
  case atStart => exact ⟨0, _, 1, [octet u.length], Nat.zero_le _, rfl, rfl, hI1.out, kA1, by simp [blk], by show _ = _; simp⟩
  case round =>
    clear hI1 kA1
    obtain ⟨j, ba, bc, bs, hj, rfl, rfl, I, kn, hnw, hbs⟩ := hrel
    have hbl : bs.length ≤ 5000 := by
      rw [hbs.out, List.length_append]
      have := flat_length (f := rowB) (m := 66) (fun x hx => rowB_length hx) (u.take j) (allR_take hur'.out j)
      have e : (u.take j).length ≤ 64 := by simp; omega
      simp only [List.length_cons, List.length_nil]
      omega
    by_cases hlt : j < u.length
    · obtain ⟨g2, o2, rfl, y0, y1, y2, y3⟩ := (rowVals (hU.out.keep kn).row).1.at j hlt
      have hxr := allR_at hur'.out j hlt
      have hst := hid (flat_take rowB u j hlt)
      obtain ⟨x, hx⟩ : ∃ x, Hid (u[j]'hlt = x) := ⟨u[j]'hlt, rfl⟩
      rw [hx.out] at y0 y1 y2 y3 hxr hst
      have cO := cOne x hxr wr
      have hrb := rowB_length hxr
      obtain ⟨R, hR⟩ : ∃ R, Hid (rowB x = R) := ⟨_, rfl⟩
      rw [hR.out] at cO hst hrb
      unfold Val.v at cO
      obtain ⟨xk, xb, xn, xt⟩ := x
      dsimp only at y0 y1 y2 y3 cO
      have hI := hid I
      clear I hxr hR hx
      go_wp2_with fail
      refine cO.mono ?_
      rintro e w3 ⟨v3, rfl, hr3, hn3⟩
      have k3 := hn3.kp
      obtain ⟨a3, c3, rfl, I3⟩ := NwB.of hr3 hn3.own k3
      obtain ⟨hs3, _, _⟩ := rowSee hr3
      have hJ : NwB w1 wr ba bc bs := ⟨hI.out.row, hnw, kn⟩
      obtain ⟨v4, X4, hrun4, a4, c4, rfl, J4, kk4⟩ := (hJ.keep k3).appS a3 c3 R hs3 (by omega) (by omega)
      have hnA4 := J4.new
      have I4 : NwB w X4 a4 c4 (bs ++ R) := J4.back kw1
      have kX4 : Kp [] w1 X4 := (kn.trans k3 (by simp)).trans kk4 (fun q hq => .inr (hnw q hq))
      have hnx : Hid (∃ (j' : Nat) (ba : Option Addr) (bc : Nat) (bs' : List UInt8), j' ≤ u.length ∧ (.int .i64 ((j : Int) + 1) : Value) = .int .i64 j' ∧ (.slice a4 (bs.length + R.length) c4 : Value) = .slice ba bs'.length bc ∧ NwB w X4 ba bc bs' ∧ Kp [] w1 X4 ∧ (∀ k ∈ blk ba, w1.heap.size ≤ k) ∧ Hid (bs' = [octet u.length] ++ (u.take j').flatMap rowB)) := by
        refine ⟨j + 1, a4, c4, bs ++ R, by omega, by go_num, by simp, I4, kX4, ?_, by show _ = _; rw [hst.out, hbs.out, List.append_assoc]⟩
        exact hnA4
      clear cO hr3 hn3 I3 I4 kk4 hI hs3 hst hbs hJ J4 hnA4
      go_wp2_with (first | (refine wpAppRun rfl _ _ 22 22 rfl _ _ _ rfl rfl hrun4 ?_) | fail)
      exact ⟨hnx.out, by simp [intOf]; omega⟩
    · obtain rfl : j = u.length := by omega
      rw [List.take_length] at hbs
      rw [← hbs.out] at hF
      generalize wr = w2 at *
      have hn2 := hid (NwU.nil w2)
      have hI := hid I
      have kI := I.kp
      clear I hnw
      go_wp2_with fail
      go_loopw [6, 7] (fun v6 i wn => ∃ (j : Nat) (na : Option Addr) (nc : Nat) (ns : List Nat), j ≤ l.length ∧ i = .int .i64 j ∧ v6 = .slice na ns.length nc ∧ NwU w2 wn na nc ns ∧ Hid (ns = plcs u l j)) (fun _ i _ => l.length - (intOf i).toNat)
      case atStart => exact ⟨0, none, 0, [], Nat.zero_le _, rfl, rfl, hn2.out, by show _ = _; simp [plcs]⟩
      case round =>
        clear hn2
        obtain ⟨j, na, nc, ns, hj, rfl, rfl, I, hns⟩ := hrel
        have hnl : ns.length ≤ 64 := by rw [hns.out, plcs_length]; omega
        by_cases hlt : j < l.length
        · have hidj := hid (hidx.out j hlt)
          have hidk := hidl.out j hlt
          have hps := hid (plcs_succ u l j)
          have eg : l.getD j nv = l[j] := by simp [hlt]
          rw [eg] at hps
          obtain ⟨g, o, rfl, hdrop⟩ := (ha'.out.kept (kI.trans I.kp (by simp))).at j hlt
          clear hdrop
          have hcx : Hid (∀ W, Kp [] w2 W → W.cell? ⟨g, o + j * 4, none⟩ = some (.int .i64 (l[j]'hlt).k) ∧ W.cell? ⟨g, o + j * 4 + 1, none⟩ = some (.bool (l[j]'hlt).b) ∧ W.cell? ⟨g, o + j * 4 + 2, none⟩ = some (.int .i64 (l[j]'hlt).n) ∧ W.cell? ⟨g, o + j * 4 + 3, none⟩ = some (.string (l[j]'hlt).t)) := fun W kW => by
            obtain ⟨_, _, e, y0, y1, y2, y3⟩ := (ha'.out.kept (kI.trans kW (by simp))).at j hlt
            cases e
            exact ⟨y0, y1, y2, y3⟩
          obtain ⟨x, hx⟩ : ∃ x, Hid (l[j]'hlt = x) := ⟨l[j]'hlt, rfl⟩
          rw [hx.out] at hidj hidk hps
          simp only [hx.out] at hcx
          obtain ⟨P, hP⟩ : ∃ P, Hid (idxV u x = P) := ⟨_, rfl⟩
          rw [hP.out] at hidj hidk hps
          obtain ⟨xk, xb, xn, xt⟩ := x
          dsimp only at hcx
          have hI2 := hid I
          clear I hx hP eg
          go_wp2_with fail
          go_loopw [6, 8] (fun v6 v8 wn => ∃ (k : Nat) (na : Option Addr) (nc : Nat) (ms : List Nat), k ≤ u.length ∧ v8 = .int .i64 k ∧ v6 = .slice na ms.length nc ∧ NwU w2 wn na nc ms ∧ Hid (ms = if k ≤ P then ns else ns ++ [P])) (fun _ v8 _ => u.length - (intOf v8).toNat)
          case atStart => exact ⟨0, na, nc, ns, Nat.zero_le _, rfl, rfl, hI2.out, by show _ = _; rw [if_pos (Nat.zero_le _)]⟩
          case round =>
            clear hI2
            obtain ⟨k, na, nc, ms, hk, rfl, rfl, I, hms⟩ := hrel
            have hml : ms.length ≤ 65 := by rw [hms.out]; split <;> (try simp) <;> omega
            by_cases hku : k < u.length
            · obtain ⟨p0, p1, p2, p3⟩ := hcx.out wr I.kp
              obtain ⟨g2, o2, rfl, y0, y1, y2, y3⟩ := (rowVals (hU.out.keep (kn.trans I.kp (by simp))).row).1.at k hku
              have hik := hidj.out k hku
              obtain ⟨y, hy⟩ : ∃ y, Hid (u[k]'hku = y) := ⟨u[k]'hku, rfl⟩
              rw [hy.out] at y0 y1 y2 y3 hik
              obtain ⟨X, HX, hX⟩ := eqV y ⟨xk, xb, xn, xt⟩
              rw [← HX.out] at hik
              have hik' := hid hik
              obtain ⟨yk, yb, yn, yt⟩ := y
              dsimp only at y0 y1 y2 y3 hX
              have kq0 : ∀ n, Kp [] wr (wr.drewN n) := fun n => (Kp.refl _ _).drewN n
              have hI3 := hid I
              clear I hik HX hy
              cases X with
              | true =>
                have hkP : k = P := hik'.out.1 rfl
                have hkP' := hid hkP
                clear hkP hik'
                go_wp2_with fail
                go_quiet ((fail))
                have I3 := hI3.out.keep (kq0 nq)
                generalize wr.drewN nq = wq at *
                obtain ⟨v4, X4, hrun4, a4, c4, rfl, I4, _⟩ := I3.app1 k (by omega)
                have hnx : Hid (∃ (k' : Nat) (na : Option Addr) (nc : Nat) (ms' : List Nat), k' ≤ u.length ∧ (.int .i64 ((k : Int) + 1) : Value) = .int .i64 k' ∧ (.slice a4 (ms.length + 1) c4 : Value) = .slice na ms'.length nc ∧ NwU w2 X4 na nc ms' ∧ Hid (ms' = if k' ≤ P then ns else ns ++ [P])) :=
                  ⟨k + 1, a4, c4, ms ++ [k], by omega, by go_num, by simp, I4, by show _ = _; rw [hms.out, if_pos (by rw [hkP'.out]; exact Nat.le_refl _), if_neg (by rw [hkP'.out]; omega), hkP'.out]⟩
                have hwk : IntKind.u64.wrap (k : Int) = (k : Int) := by rw [IntKind.wrap_u64]; omega
                clear I3 I4 hI3 hms p0 p1 p2 p3 y0 y1 y2 y3 hX kq0
                go_wp2_with (first | (refine wpAppRun rfl _ _ 136 136 rfl _ _ _ rfl rfl hrun4 ?_) | fail)
                exact ⟨hnx.out, by simp [intOf]; omega⟩
              | false =>
                have hkP : k ≠ P := fun e => by have := hik'.out.2 e; cases this
                have hkP' := hid hkP
                clear hkP hik'
                go_wp2_with fail
                go_quiet ((fail))
                have I3 := hI3.out.keep (kq0 nq)
                generalize wr.drewN nq = wq at *
                have hnx : Hid (∃ (k' : Nat) (na' : Option Addr) (nc' : Nat) (ms' : List Nat), k' ≤ u.length ∧ (.int .i64 ((k : Int) + 1) : Value) = .int .i64 k' ∧ (.slice na ms.length nc : Value) = .slice na' ms'.length nc' ∧ NwU w2 wq na' nc' ms' ∧ Hid (ms' = if k' ≤ P then ns else ns ++ [P])) := by
                  refine ⟨k + 1, na, nc, ms, by omega, by go_num, rfl, I3, ?_⟩
                  show _ = _
                  rw [hms.out]
                  have := hkP'.out
                  by_cases h : k ≤ P
                  · rw [if_pos h, if_pos (by omega)]
                  · rw [if_neg h, if_neg (by omega)]
                clear I3 hI3 hms p0 p1 p2 p3 y0 y1 y2 y3 hX kq0
                go_wp2_with fail
                exact ⟨hnx.out, by simp [intOf]; omega⟩
            · obtain rfl : k = u.length := by omega
              have hN : Hid (∃ (j' : Nat) (na' : Option Addr) (nc' : Nat) (ns' : List Nat), j' ≤ l.length ∧ (.int .i64 ((j : Int) + 1) : Value) = .int .i64 j' ∧ (.slice na ms.length nc : Value) = .slice na' ns'.length nc' ∧ NwU w2 wr na' nc' ns' ∧ Hid (ns' = plcs u l j')) :=
                ⟨j + 1, na, nc, ms, by omega, by go_num, rfl, I, by show _ = _; rw [hms.out, if_neg (by omega), hps.out, hns.out]⟩
              clear I hms
              go_wp2_with fail
              exact ⟨hN.out, by simp [intOf]; omega⟩
        · obtain rfl : j = l.length := by omega
          rw [← hns.out] at hF
          have hnb : ∀ x ∈ ns, x < 18446744073709551616 := fun x hx => by
            rw [hns.out] at hx
            have := hplb.out l.length (Nat.le_refl _) x hx
            omega
          have hwb := bitLen_le64 (u.length - 1)
          have cW := cRefWidth (u.length - 1) wr (by omega)
          obtain ⟨W0, hW0⟩ : ∃ W0, Hid (Lib.bitLen (u.length - 1) = W0) := ⟨_, rfl⟩
          rw [hW0.out] at cW hF hwb
          have cP := cRefPacked na nc ns W0 wr I.see hnl hnb hwb
          have hpl := packB_le ns W0 hnl hwb
          obtain ⟨PB, hPB⟩ : ∃ PB, Hid (packB ns W0 = PB) := ⟨_, rfl⟩
          rw [hPB.out] at cP hF hpl
          have kw := I.kp
          have e1 : IntKind.u64.wrap ((u.length : Int) - 1) = ((u.length - 1 : Nat) : Int) := by rw [IntKind.wrap_u64]; omega
          have e2 : ((u.length : Int) - 1) = ((u.length - 1 : Nat) : Int) := by omega
          obtain ⟨U1, hU1⟩ : ∃ U1, Hid (u.length - 1 = U1) := ⟨_, rfl⟩
          rw [hU1.out] at e1 e2 cW
          have hUb : U1 ≤ 64 := by rw [← hU1.out]; omega
          have e3 : IntKind.u64.wrap (U1 : Int) = (U1 : Int) := by rw [IntKind.wrap_u64]; omega
          clear I hns hnb hW0 hPB
          go_wp2_with fail
          refine cW.mono ?_
          rintro e w9 ⟨rfl, hw9⟩
          rw [hw9]
          clear hw9 w9 cW
          go_wp2_with fail
          refine cP.mono ?_
          rintro e w5 ⟨a5, c5, rfl, hr5, k5, hn5⟩
          obtain ⟨hs5, _, _⟩ := rowSee hr5
          obtain ⟨v6, X6, hrun6, a6, c6, rfl, I6, kk6⟩ := ((hI.out.keep kw).keep k5).appS a5 c5 PB hs5 (by omega) (by omega)
          have hfin : NB F w (.returned (.slice a6 (bs.length + PB.length) c6)) X6 := by
            have e : bs ++ PB = F := hF.out.symm
            rw [e] at I6
            have e2 : bs.length + PB.length = F.length := by rw [← e]; exact (List.length_append).symm
            rw [e2]
            exact ⟨a6, c6, rfl, rowByt.1 I6.row, I6.kp, I6.new⟩
          clear cP hr5 hn5 hs5 I6 kk6 hI hF
          go_wp2_with (first | (refine wpAppRun rfl _ _ 22 22 rfl _ _ _ rfl rfl hrun6 ?_) | fail)
          go_ret
          exact hfin
end Go.Proofs.YtohbdbecioanaaaGreatDoor
end

section
namespace Go.Proofs.YtohbdbecioanaaaGreatDoor
open Go.RowKit Go.Hay
set_option linter.unusedVariables false
set_option linter.unusedSimpArgs false

theorem runsV_last (x : Val) : ∀ l, ∃ R m, runsV (l ++ [x]) = R ++ [⟨m, x⟩]
  | [] => ⟨[], 1, rfl⟩
  | z :: l => by
    obtain ⟨R, m, h⟩ := runsV_last x l
    rw [List.cons_append, runsV, h]
    cases R with
    | nil =>
      simp only [List.nil_append]
      split
      · exact ⟨[], m + 1, rfl⟩
      · exact ⟨[⟨1, z⟩], m, rfl⟩
    | cons r R =>
      simp only [List.cons_append]
      split
      · exact ⟨⟨r.m + 1, r.v⟩ :: R, m, rfl⟩
      · exact ⟨⟨1, z⟩ :: r :: R, m, rfl⟩
theorem runsV_none {l : List Val} (h : runsV l = []) : l = [] := by
  cases l with
  | nil => rfl
  | cons a l => obtain ⟨k, rs, e⟩ := runsV_head a l; rw [e] at h; cases h
theorem runsV_snoc (x y : Val) : ∀ (l : List Val) (R : List Rn) (m : Nat), runsV l = R ++ [⟨m, y⟩] → runsV (l ++ [x]) = if x.eqv y = true then R ++ [⟨m + 1, y⟩] else R ++ [⟨m, y⟩, ⟨1, x⟩]
  | [], R, m, h => by simp [runsV] at h
  | z :: l, R, m, h => by
    rw [runsV] at h
    rw [List.cons_append, runsV]
    cases hl : runsV l with
    | nil =>
      have e := runsV_none hl
      subst e
      rw [hl] at h
      cases R with
      | nil =>
        simp only [List.nil_append, List.cons.injEq, Rn.mk.injEq, and_true] at h
        obtain ⟨rfl, rfl⟩ := h
        simp only [List.nil_append, runsV]
        by_cases hx : x.eqv z = true
        · have := eqv_iff.1 hx; subst this; simp [eqv_self]
        · have : ¬ z.eqv x = true := fun h => hx (by rw [eqv_iff.1 h]; exact eqv_self _)
          rw [if_neg hx, if_neg this]
      | cons r R => simp at h
    | cons r rs =>
      rw [hl] at h
      simp only at h
      by_cases hz : z.eqv r.v = true
      · rw [if_pos hz] at h
        cases R with
        | nil =>
          simp only [List.nil_append, List.cons.injEq, Rn.mk.injEq] at h
          obtain ⟨⟨rfl, rfl⟩, rfl⟩ := h
          rw [runsV_snoc x r.v l [] r.m (by rw [hl]; rfl)]
          by_cases hx : x.eqv r.v = true
          · simp [hx, hz]
          · simp [hx, hz]
        | cons r' R' =>
          simp only [List.cons_append, List.cons.injEq] at h
          obtain ⟨rfl, rfl⟩ := h
          rw [runsV_snoc x y l (r :: R') m (by rw [hl]; rfl)]
          by_cases hx : x.eqv y = true
          · simp [hx, hz]
          · simp [hx, hz]
      · rw [if_neg hz] at h
        cases R with
        | nil => simp at h
        | cons r' R' =>
          simp only [List.cons_append, List.cons.injEq] at h
          obtain ⟨rfl, h⟩ := h
          rw [runsV_snoc x y l R' m (by rw [hl]; exact h)]
          cases R' with
          | nil =>
            simp only [List.nil_append, List.cons.injEq] at h
            obtain ⟨rfl, rfl⟩ := h
            by_cases hx : x.eqv y = true
            · simp [hx, hz]
            · simp [hx, hz]
          | cons q Q =>
            simp only [List.cons_append, List.cons.injEq] at h
            obtain ⟨rfl, rfl⟩ := h
            by_cases hx : x.eqv y = true
            · simp [hx, hz]
            · simp [hx, hz]
theorem infoRr : ∃ i : TypeInfo, Tryz.prog.info? 111 = some i ∧ i.zero = some (.agg #[.int .i64 0, .int .i64 0, .bool false, .int .i64 0, .string ⟨#[]⟩]) ∧ i.size = 5 ∧ i.bytes = 48 := info4 (by kernel_rfl)
theorem rowNoneR (w : World) {q : Nat} (hq : w.heap.size = q) (C : Array Value) (t : TypeId) : RunE.Row (w.alloc (.cells C t)) (.slice (some ⟨q, 0, none⟩) 0 0) [] := by
  subst hq
  exact .inr ⟨w.heap.size, 0, 0, rfl, Nat.le_refl _, by decide, by simp, fun j u hu => by simp [El.cs] at hu, fun j hj => absurd hj (by simp)⟩
/-- How the reference's loop stands. -/
structure RfI (l : List Val) (w wn : World) (ra : Option Addr) (rc j : Nat) (R : List Rn) : Prop where
  row : RunE.Row wn (.slice ra R.length rc) R
  new : ∀ k ∈ blk ra, w.heap.size ≤ k
  kp : Kp [] w wn
  runs : Hid (runsV (l.take j) = R)
theorem RfI.len {l : List Val} {w wn : World} {ra : Option Addr} {rc j : Nat} {R : List Rn} (h : RfI l w wn ra rc j R) : R.length ≤ j := by
  rw [← h.runs.out]
  have := runsV_len (l.take j)
  simp at this
  omega
theorem RfI.keep {l : List Val} {w wn w' : World} {ra : Option Addr} {rc j : Nat} {R : List Rn} (h : RfI l w wn ra rc j R) (k : Kp [] wn w') : RfI l w w' ra rc j R :=
  ⟨h.row.keptNew k, h.new, h.kp.trans k (by simp), h.runs⟩
theorem take_snoc (l : List Val) (j : Nat) (h : j < l.length) : l.take (j + 1) = l.take j ++ [l[j]] := List.take_succ_eq_append_getElem h
/-- What the runs of one value more are. -/
theorem runs_next (l : List Val) (j : Nat) (h : j < l.length) (X : Bool) (hX : j = 0 ∨ ∃ hj : j - 1 < l.length, X = l[j].eqv l[j - 1]) (h0 : j = 0 → X = false) : (X = false ∧ runsV (l.take (j + 1)) = runsV (l.take j) ++ [⟨1, l[j]⟩]) ∨ (X = true ∧ ∃ R m, runsV (l.take j) = R ++ [⟨m, l[j]⟩] ∧ runsV (l.take (j + 1)) = R ++ [⟨m + 1, l[j]⟩]) := by
  rw [take_snoc l j h]
  by_cases hj : j = 0
  · subst hj
    exact .inl ⟨h0 rfl, by simp [runsV]⟩
  · rcases hX with e | ⟨hj1, hX⟩
    · exact absurd e hj
    · obtain ⟨R, m, hR⟩ := runsV_last l[j - 1] (l.take (j - 1))
      rw [← take_snoc l (j - 1) hj1, show j - 1 + 1 = j by omega] at hR
      have hs := runsV_snoc l[j] l[j - 1] (l.take j) R m hR
      rw [← hX] at hs
      cases X with
      | false => exact .inl ⟨rfl, by rw [hs, hR]; simp⟩
      | true =>
        have e := eqv_iff.1 hX.symm
        exact .inr ⟨rfl, R, m, by rw [hR, e], by rw [hs, ← e]; simp⟩
end Go.Proofs.YtohbdbecioanaaaGreatDoor
end

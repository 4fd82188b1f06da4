/- The reference's text. -/
import Derived.Test.YtboibllahibicaaDoorVtxm
import Derived.Test.YtboibllahibicaaDoorVrwb
import Derived.Deep.RegionHeld3
namespace Go.Proofs.YtboibllahibicaaDoor
open Go.RowKit Go.Hay
set_option linter.unusedVariables false
set_option linter.unusedSimpArgs false

/-- An append of bytes in a new block onto a row of the call's own, one operation. -/
theorem wpApB {w : World} {o : Oper} {a : Act} {K : Act → World → Prop} {Q : Exit → Act → World → Prop} (s x : Operand)
    (ho : o.op = .call { callee := .builtin .append, args := #[s, x], argTypes := #[64, 64] })
    (w0 : World) (v : Value) (l : List UInt8) (hs : a.eval s = v) (hown : RowB w0 w v l) (cs : Array Value) (m c : Nat) (r : List UInt8) (hx : a.eval x = .slice (some ⟨w.heap.size, 0, none⟩) m c) (hmr : m = r.length) (hcs : cs = (bcells r).toArray)
    (hb : l.length + r.length ≤ 200000000000000) (hk : Kp [] w0 w)
    (h : ∀ v' w', RowB w0 w' v' (l ++ r) → Kp [] w0 w' → K (a.put o.dst v') w') : o.wp Tryd.prog a (w.alloc (.cells cs 5)) K Q := by
  obtain ⟨i, hi, hz, hz1, hz2⟩ := infoB8
  subst hmr hcs
  have hkA := hk.alloc (.cells (bcells r).toArray 5)
  have hownA := hown.kept ((Kp.refl [] w).alloc (.cells (bcells r).toArray 5))
  refine wp_append_own_wide _ s x 64 ho w0.heap.size 5 i _ 1 1 Tryd.underlying64 hi hz hz1 hz2 rfl (by omega) v l.length (bcells l) hs hownA ⟨w.heap.size, 0, none⟩ r.length c (bcells r) hx (by rw [bcells_length, Nat.mul_one]) ?_ (bcells_one r) (by unfold maxLen; omega) (by omega) hkA.size ?_
  · intro j u hu
    rw [Addr.add_lit]
    rw [World.cell?_alloc_new w _ _ (0 + j), Nat.zero_add]
    simpa using hu
  · intro v' w' h2 h3 _
    exact h v' w' (by unfold RowB; rw [List.length_append, bcells_append]; exact h2) (kpGrownB hkA h3 hown.own)

def TextPost (l : List UInt8) (e : Ending) : Prop := ∃ u : List UInt8, e = .returned (.string ⟨u.toArray⟩) ∧ ∀ t, l = quoteB t → u = t

set_option maxHeartbeats 8000000 in
set_option maxRecDepth 100000 in
theorem cRefText (s : ByteArray) (w : World) (hm : s.size ≤ 140737488355328) :
    Calls Tryd.prog 41 #[.string s] w fun e w' => TextPost s.data.toList e ∧ Kp [] w w' := by
  have hlen : s.data.toList.length = s.size := by rw [Array.length_toList]; rfl
  have hat : ∀ i (h : i < s.size), s.data.toList[i]? = some s[i] := by
    intro i h
    rw [List.getElem?_eq_getElem (by rw [hlen]; exact h)]
    rfl
  have HAT := hid hat
  clear hat
  go_enter Tryd.func41, Tryd.ntmps41
  go_wp2_with fail
  go_loopw [3, 4] (fun vb i wn => ∃ (j : Nat) (u : List UInt8), 1 ≤ j ∧ (j = 1 ∨ j + 1 ≤ s.size) ∧ i = .int .i64 j ∧ RowB w wn vb u ∧ u.length ≤ j ∧ Hid (ReadTo s.data.toList j u) ∧ Kp [] w wn) (fun _ i _ => s.size - (intOf i).toNat)
  case atStart => exact ⟨1, [], Nat.le_refl _, .inl rfl, rfl, RowB.nil _ _, by simp, ReadTo.start _, Kp.refl _ _⟩
  case round =>
    obtain ⟨j, u, hj1, hj2, rfl, hrow, hul, hrd, hk⟩ := hrel
    by_cases hjs : j + 1 < s.size
    · obtain ⟨c, hcj⟩ : ∃ c : UInt8, s[j] = c := ⟨_, rfl⟩
      have g0 : Hid (s.data.toList[j]? = some c) := by rw [← hcj]; exact HAT.out j (by omega)
      by_cases h92 : c = 92
      · subst h92
        have g92 : True := trivial
        by_cases h3 : j + 2 < s.size
        · obtain ⟨d, hdj⟩ : ∃ d : UInt8, s[j + 1] = d := ⟨_, rfl⟩
          have g1 : Hid (s.data.toList[j + 1]? = some d) := by rw [← hdj]; exact HAT.out (j + 1) (by omega)
          by_cases h5 : j + 4 < s.size
          · by_cases h120 : d = 120
            · subst h120
              obtain ⟨x, hxj⟩ : ∃ x : UInt8, s[j + 2] = x := ⟨_, rfl⟩
              obtain ⟨y, hyj⟩ : ∃ y : UInt8, s[j + 3] = y := ⟨_, rfl⟩
              have g2 : Hid (s.data.toList[j + 2]? = some x) := by rw [← hxj]; exact HAT.out (j + 2) (by omega)
              have g3 : Hid (s.data.toList[j + 3]? = some y) := by rw [← hyj]; exact HAT.out (j + 3) (by omega)
              have d2 : Hid (s.data.toList.getD (j + 2) 0 = x) := by show _ = _; rw [List.getD_eq_getElem?_getD, g2.out]; rfl
              have d3 : Hid (s.data.toList.getD (j + 3) 0 = y) := by show _ = _; rw [List.getD_eq_getElem?_getD, g3.out]; rfl
              have rx := nib_range x
              have ry := nib_range y
              by_cases hx : 0 ≤ nibV x
              · obtain ⟨a, Ha⟩ : ∃ a : Nat, Hid (nibV x = a) := ⟨(nibV x).toNat, by show _ = _; omega⟩
                rw [Ha.out] at rx
                by_cases hy : 0 ≤ nibV y
                · obtain ⟨b, Hb⟩ : ∃ b : Nat, Hid (nibV y = b) := ⟨(nibV y).toNat, by show _ = _; omega⟩
                  rw [Hb.out] at ry
                  have hs2 : Hid (ReadTo s.data.toList (j + 4) (u ++ [UInt8.ofNat (a * 16 + b)])) := hrd.out.step (by rw [hlen]; exact hjs) _ 4 (textA_hex _ _ x y a b (by rw [hlen]; omega) g0.out g1.out g2.out g3.out Ha.out Hb.out)
                  clear g0 g1 g2 g3 d2 d3 hrd hx hy
                  go_wp2_with fail
                  refine (cNibble x _ rfl _).mono ?_
                  rintro e w' ⟨rfl, rfl⟩
                  rw [Ha.out]
                  go_wp2_with fail
                  refine (cNibble y _ rfl _).mono ?_
                  rintro e w' ⟨rfl, rfl⟩
                  rw [Hb.out]
                  go_wp2_with fail
                  have hrowD := hrow.kept ((Kp.refl [] _).drew)
                  have hkD := hk.drew
                  obtain ⟨nx, hnx⟩ : ∃ n : Int, (x.toNat : Int) = n := ⟨_, rfl⟩
                  obtain ⟨ny, hny⟩ : ∃ n : Int, (y.toNat : Int) = n := ⟨_, rfl⟩
                  have cx : ∀ w', Calls Tryd.prog 53 #[.int .u8 nx] w' fun e w'' => e = .returned (.int .i64 a) ∧ w'' = w' := by intro w'; have := cNibble x nx hnx.symm w'; rw [Ha.out] at this; exact this
                  have cy : ∀ w', Calls Tryd.prog 53 #[.int .u8 ny] w' fun e w'' => e = .returned (.int .i64 b) ∧ w'' = w' := by intro w'; have := cNibble y ny hny.symm w'; rw [Hb.out] at this; exact this
                  have v2' : IntKind.i64.wrap ((j : Int) + 2) = (j : Int) + 2 := by rw [IntKind.wrap_i64]; omega
                  have v3' : IntKind.i64.wrap ((j : Int) + 3) = (j : Int) + 3 := by rw [IntKind.wrap_i64]; omega
                  have ix2 : ∀ w', (Instr.index 9 (.string s) (.int .i64 ((j : Int) + 2))).run Tryd.prog w' = .ok (.int .u8 nx) w' := by
                    intro w'
                    rw [run_index_string w' _ s .i64 _ Tryd.underlying9, dif_pos ⟨by omega, by omega⟩]
                    simp only [show ((j : Int) + 2).toNat = j + 2 by omega, hxj, hnx]
                  have ix3 : ∀ w', (Instr.index 9 (.string s) (.int .i64 ((j : Int) + 3))).run Tryd.prog w' = .ok (.int .u8 ny) w' := by
                    intro w'
                    rw [run_index_string w' _ s .i64 _ Tryd.underlying9, dif_pos ⟨by omega, by omega⟩]
                    simp only [show ((j : Int) + 3).toNat = j + 3 by omega, hyj, hny]
                  clear hnx hny
                  have v4 : IntKind.i64.wrap (16 * (a : Int)) = 16 * (a : Int) := by rw [IntKind.wrap_i64]; omega
                  have v5 : IntKind.i64.wrap (16 * (a : Int) + (b : Int)) = 16 * (a : Int) + (b : Int) := by rw [IntKind.wrap_i64]; omega
                  have v6 : IntKind.u8.wrap (16 * (a : Int) + (b : Int)) = 16 * (a : Int) + (b : Int) := by rw [IntKind.wrap_u8]; omega
                  go_region_held3 (fun w' => True) (first | trivial)
                    (first
                      | (go_at_call 53; with_reducible refine (cx _).mono ?_; rintro e w' ⟨rfl, rfl⟩)
                      | (go_at_call 53; with_reducible refine (cy _).mono ?_; rintro e w' ⟨rfl, rfl⟩)
                      | (rw [if_pos (by rfl)]; refine wpApB _ _ rfl w _ u rfl hrowD _ 1 1 [UInt8.ofNat (a * 16 + b)] rfl rfl (by simp [bcells, UInt8.toNat_ofNat']; omega) (by simp; omega) hkD ?_; intro v2 w2 r2 k2))
                  all_goals (clear ix2 ix3 cx cy v4 v5 v6 v2' v3' hrowD hkD)
                  all_goals (go_wp2_with fail)
                  all_goals (exact ⟨⟨j + 4, u ++ [UInt8.ofNat (a * 16 + b)], by omega, by omega, by go_num, r2, by simp; omega, hs2, k2⟩, by simp [intOf]; omega⟩)
                · have Hb : Hid (nibV y = -1) := by show _ = _; omega
                  clear ry hy hx
                  have hs2 : Hid (ReadTo s.data.toList (j + 2) (u ++ [120])) := hrd.out.step (by rw [hlen]; exact hjs) 120 2 (textA_skip _ _ 120 (by rw [hlen]; omega) g0.out g1.out (by rintro ⟨_, _, _, h4⟩; rw [d3.out, Hb.out] at h4; omega))
                  clear g0 g1 hrd
                  clear d2 d3 g2 g3
                  go_wp2_with fail
                  refine (cNibble x _ rfl _).mono ?_
                  rintro e w' ⟨rfl, rfl⟩
                  rw [Ha.out]
                  go_wp2_with fail
                  refine (cNibble y _ rfl _).mono ?_
                  rintro e w' ⟨rfl, rfl⟩
                  rw [Hb.out]
                  go_wp2_with (at_builtin; refine wpAppendB rfl _ _ rfl w _ _ rfl hrow _ 1 1 [120] rfl rfl rfl (by simp; omega) hk ?_)
                  intro v2 w2 r2 k2
                  go_wp2_with fail
                  exact ⟨⟨j + 2, u ++ [120], by omega, by omega, by go_num, r2, by simp; omega, hs2, k2⟩, by simp [intOf]; omega⟩
              · have Ha : Hid (nibV x = -1) := by show _ = _; omega
                clear rx ry hx
                have hs2 : Hid (ReadTo s.data.toList (j + 2) (u ++ [120])) := hrd.out.step (by rw [hlen]; exact hjs) 120 2 (textA_skip _ _ 120 (by rw [hlen]; omega) g0.out g1.out (by rintro ⟨_, _, h4, _⟩; rw [d2.out, Ha.out] at h4; omega))
                clear g0 g1 hrd
                clear d2 d3 g2 g3
                go_wp2_with fail
                refine (cNibble x _ rfl _).mono ?_
                rintro e w' ⟨rfl, rfl⟩
                rw [Ha.out]
                go_wp2_with (at_builtin; refine wpAppendB rfl _ _ rfl w _ _ rfl hrow _ 1 1 [120] rfl rfl rfl (by simp; omega) hk ?_)
                intro v2 w2 r2 k2
                go_wp2_with fail
                exact ⟨⟨j + 2, u ++ [120], by omega, by omega, by go_num, r2, by simp; omega, hs2, k2⟩, by simp [intOf]; omega⟩
            · have k120 : d.toNat ≠ 120 := fun h => h120 (UInt8.toNat_inj.1 h)
              have e120 : ((d.toNat : Int) == 120) = false := by simp; omega
              have hs2 : Hid (ReadTo s.data.toList (j + 2) (u ++ [d])) := hrd.out.step (by rw [hlen]; exact hjs) d 2 (textA_skip _ _ d (by rw [hlen]; omega) g0.out g1.out (by rintro ⟨_, h4, _⟩; exact h120 h4))
              clear g0 g1 hrd
              clear h120 k120
              go_wp2_with (at_builtin; refine wpAppendB rfl _ _ rfl w _ _ rfl hrow _ 1 1 [d] rfl rfl rfl (by simp; omega) hk ?_)
              intro v2 w2 r2 k2
              go_wp2_with fail
              exact ⟨⟨j + 2, u ++ [d], by omega, by omega, by go_num, r2, by simp; omega, hs2, k2⟩, by simp [intOf]; omega⟩
          · 
            have hs2 : Hid (ReadTo s.data.toList (j + 2) (u ++ [d])) := hrd.out.step (by rw [hlen]; exact hjs) d 2 (textA_skip _ _ d (by rw [hlen]; omega) g0.out g1.out (by rw [hlen]; omega))
            clear g0 g1 hrd
            go_wp2_with (at_builtin; refine wpAppendB rfl _ _ rfl w _ _ rfl hrow _ 1 1 [d] rfl rfl rfl (by simp; omega) hk ?_)
            intro v2 w2 r2 k2
            go_wp2_with fail
            exact ⟨⟨j + 2, u ++ [d], by omega, by omega, by go_num, r2, by simp; omega, hs2, k2⟩, by simp [intOf]; omega⟩
        · have hs2 : Hid (ReadTo s.data.toList (j + 1) (u ++ [92])) := hrd.out.step (by rw [hlen]; exact hjs) 92 1 (textA_last _ _ (by rw [hlen]; omega) g0.out)
          clear g0 hrd
          go_wp2_with (at_builtin; refine wpAppendB rfl _ _ rfl w _ _ rfl hrow _ 1 1 [92] rfl rfl rfl (by simp; omega) hk ?_)
          intro v2 w2 r2 k2
          go_wp2_with fail
          exact ⟨⟨j + 1, u ++ [92], by omega, by omega, by go_num, r2, by simp; omega, hs2, k2⟩, by simp [intOf]; omega⟩
      · have k92 : c.toNat ≠ 92 := fun h => h92 (UInt8.toNat_inj.1 h)
        have e92 : ((c.toNat : Int) == 92) = false := by simp; omega
        have hs2 : Hid (ReadTo s.data.toList (j + 1) (u ++ [c])) := hrd.out.step (by rw [hlen]; exact hjs) c 1 (textA_plain _ _ c g0.out h92)
        clear h92 k92 g0 hrd
        go_wp2_with (at_builtin; refine wpAppendB rfl _ _ rfl w _ _ rfl hrow _ 1 1 [c] rfl rfl rfl (by simp; omega) hk ?_)
        intro v2 w2 r2 k2
        go_wp2_with fail
        exact ⟨⟨j + 1, u ++ [c], by omega, by omega, by go_num, r2, by simp; omega, hs2, k2⟩, by simp [intOf]; omega⟩
    · have hcv := convRow hrow
      have hd : Hid (∀ t, s.data.toList = quoteB t → u = t) := hrd.out.done (by rw [hlen]; omega)
      by_cases hz : 0 < s.size
      · go_wp2_with fail
        go_ret
        exact ⟨⟨u, rfl, hd.out⟩, hk⟩
      · go_wp2_with fail
        go_ret
        exact ⟨⟨u, rfl, hd.out⟩, hk⟩
end Go.Proofs.YtboibllahibicaaDoor

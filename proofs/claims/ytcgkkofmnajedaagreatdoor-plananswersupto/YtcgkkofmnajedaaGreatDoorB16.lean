/- The reference's ahead. Three appends of rows: what is ahead, one, what is behind. law16: the reference's join, which stops where it has too many. The reference's At, Pick, Filter, Project. The reference's agg: plain, and its boxes. The reference's agg. The reference's keys. -/
import Derived.Test.YtcgkkofmnajedaaGreatDoorB13
import Derived.Test.YtcgkkofmnajedaaGreatDoorB15
import Derived.Test.YtcgkkofmnajedaaGreatDoorB7
import Derived.Test.YtcgkkofmnajedaaGreatDoorB12
import Derived.Test.YtcgkkofmnajedaaGreatDoorB9
import Derived.Deep.CutBlock
import Derived.Test.YtcgkkofmnajedaaGreatDoorB10
section
namespace Go.Proofs.YtcgkkofmnajedaaGreatDoor
open Go.RowKit Go.Hay
attribute [local go_sem] Oper.semAt_some
set_option linter.unusedVariables false
set_option linter.unusedSimpArgs false

set_option maxHeartbeats 16000000 in
set_option maxRecDepth 100000 in
theorem rAhead (x y : Vs) (oa : Option Addr) (oc : Nat) (os : List (Int × Bool)) (w : World) (hx : x.lies w) (hy : y.lies w) (ho : OrE.See w oa os) (hol : os.length ≤ 4000000000000) :
  Calls Tryz.prog 117 #[.slice x.a x.l.length x.c, .slice y.a y.l.length y.c, .slice oa os.length oc] w fun e w' => e = .returned (.bool (decide (cmpO os x.l y.l < 0))) ∧ Kp [] w w' := by
 obtain ⟨xa, xc, xl⟩ := x
 obtain ⟨ya, yc, yl⟩ := y
 have h1 := hx.cap; have h2 := hx.most; have h3 := hy.cap; have h4 := hy.most
 unfold maxLen at h2 h4
 dsimp only at *
 have HX := hid hx
 have HY := hid hy
 have HO := hid ho
 obtain ⟨Z, hZ⟩ : ∃ Z, Hid (cmpO os xl yl = Z) := ⟨_, rfl⟩
 rw [hZ.out]
 clear hx hy ho
 go_enter Tryz.func117, Tryz.ntmps117
 go_wp2_with fail
 go_loopw [7] (fun i wr => ∃ j : Nat, j ≤ os.length ∧ i = .int .i64 (j : Int) ∧ Hid (cmpO (os.drop j) xl yl = Z) ∧ Hid (Kp [] w wr)) (fun i _ => os.length - (intOf i).toNat)
 case atStart => exact ⟨0, Nat.zero_le _, rfl, hZ, Kp.refl _ _⟩
 case round =>
  obtain ⟨j, hj, rfl, hz, H⟩ := hrel
  by_cases hlt : j < os.length
  ·obtain ⟨g, o, ea, c0, c1⟩ := orAt HO.out j hlt
   have hdr := hid (cmpO_drop os xl yl j hlt)
   obtain ⟨p, hp⟩ : ∃ p, Hid (os[j] = p) := ⟨os[j], rfl⟩
   rw [hp.out] at c0 c1 hdr
   obtain ⟨col, dn⟩ := p
   dsimp only at c0 c1 hdr
   have hS : Hid (∀ A, Kp [] w A → A.cell? ⟨g, o + j * 2, none⟩ = some (.int .i64 col) ∧ A.cell? ⟨g, o + j * 2 + 1, none⟩ = some (.bool dn)) := fun A k => ⟨kpAt k c0, kpAt k c1⟩
   have cA : Hid (∀ A, Kp [] w A → Calls Tryz.prog 93 #[.slice xa xl.length xc, .int .i64 col] A fun e w' => e = .returned (.agg #[.int .i64 (vAt xl col).k, .bool (vAt xl col).b, .int .i64 (vAt xl col).n, .string (vAt xl col).t]) ∧ Kp [] A w') := fun A k => rAtE xa xc xl col A (HX.out.see.kept k) (by omega)
   have cB : Hid (∀ A, Kp [] w A → Calls Tryz.prog 93 #[.slice ya yl.length yc, .int .i64 col] A fun e w' => e = .returned (.agg #[.int .i64 (vAt yl col).k, .bool (vAt yl col).b, .int .i64 (vAt yl col).n, .string (vAt yl col).t]) ∧ Kp [] A w') := fun A k => rAtE ya yc yl col A (HY.out.see.kept k) (by omega)
   obtain ⟨⟨uk, ub, un, ut⟩, hu⟩ : ∃ y, Hid (vAt xl col = y) := ⟨_, rfl⟩
   obtain ⟨⟨vk, vb, vn, vt⟩, hv⟩ : ∃ y, Hid (vAt yl col = y) := ⟨_, rfl⟩
   simp only [hu.out] at cA
   simp only [hv.out] at cB
   rw [hu.out, hv.out] at hdr
   have cC := hid (fun A => cRefCompare ⟨uk, ub, un, ut⟩ ⟨vk, vb, vn, vt⟩ A)
   simp only [Val.v] at cC
   have hrg := cmp_range ⟨uk, ub, un, ut⟩ ⟨vk, vb, vn, vt⟩
   obtain ⟨C, hC⟩ : ∃ C, Hid (cmpV ⟨uk, ub, un, ut⟩ ⟨vk, vb, vn, vt⟩ = C) := ⟨_, rfl⟩
   simp only [hC.out] at cC
   rw [hC.out] at hdr hrg
   have i1 : (0 : Int) ≤ (j : Int) := by omega
   have i2 : (j : Int) < (os.length : Int) := by omega
   have i3 : (j : Int) + 1 ≤ 9223372036854775807 := by omega
   subst ea
   clear c0 c1
   go_wp2_with fail
   refine wp_noPanicY ?_
   refine wp_region_held_drew (S := fun A => A.cell? ⟨g, o + j * 2, none⟩ = some (.int .i64 col) ∧ A.cell? ⟨g, o + j * 2 + 1, none⟩ = some (.bool dn)) (by kernel_rfl) (hS.out _ H.out.drew) (fun hHeld => ?_)
   have KD : Hid (Kp [] w wr.drew) := hid H.out.drew
   generalize wr.drew = wd at *
   refine wpAnyH_take (i := 0) (v := ?_) rfl (by kernel_rfl) (by kernel_rfl) (by kernel_rfl) (fun _ _ _ h => by cases h.1) (Or.inl ⟨by rfl, ?_⟩) (by assumption) ?_
   rotate_left
   ·intro w hSw; (try dsimp only at hSw); go_simp <;> with_reducible rfl
   try simp only [Act.put, lz]
   refine wpAnyH_take (i := 1) (v := ?_) rfl (by kernel_rfl) (by kernel_rfl) (by kernel_rfl) (fun _ _ _ h => by cases h.1) (Or.inl ⟨by rfl, ?_⟩) (by assumption) ?_
   rotate_left
   ·intro w hSw; (try dsimp only at hSw); go_simp <;> with_reducible rfl
   try simp only [Act.put, lz]
   refine wpAnyH_take (i := 2) (v := ?_) rfl (by kernel_rfl) (by kernel_rfl) (by kernel_rfl) (fun _ _ _ h => by cases h.1) (Or.inl ⟨by rfl, ?_⟩) (by assumption) ?_
   rotate_left
   ·intro w hSw; (try dsimp only at hSw); go_simp <;> with_reducible rfl
   try simp only [Act.put, lz]
   refine wpAnyH_take (i := 3) (v := ?_) rfl (by kernel_rfl) (by kernel_rfl) (by kernel_rfl) (fun _ _ _ h => by cases h.1) (Or.inl ⟨by rfl, ?_⟩) (by assumption) ?_
   rotate_left
   ·intro w hSw; (try dsimp only at hSw); go_simp <;> with_reducible rfl
   try simp only [Act.put, lz]
   refine wpAnyH_take (i := 4) (v := ?_) rfl (by kernel_rfl) (by kernel_rfl) (by kernel_rfl) (fun _ _ _ h => by cases h.1) (Or.inl ⟨by rfl, ?_⟩) (by assumption) ?_
   rotate_left
   ·intro w hSw; (try dsimp only at hSw); go_simp <;> with_reducible rfl
   try simp only [Act.put, lz]
   refine wpAnyH_take (i := 5) (v := ?_) rfl (by kernel_rfl) (by kernel_rfl) (by kernel_rfl) (fun _ _ _ h => by cases h.1) (Or.inl ⟨by rfl, ?_⟩) (by assumption) ?_
   rotate_left
   ·intro w hSw; (try dsimp only at hSw); go_simp <;> with_reducible rfl
   try simp only [Act.put, lz]
   refine wpAnyH_take (i := 7) (v := ?_) rfl (by kernel_rfl) (by kernel_rfl) (by kernel_rfl) (fun _ _ _ h => by cases h.1) (Or.inl ⟨by rfl, ?_⟩) (by assumption) ?_
   rotate_left
   ·intro w hSw; (try dsimp only at hSw); go_simp <;> with_reducible rfl
   try simp only [Act.put, lz]
   refine wpAnyH_take (i := 8) (v := ?_) rfl (by kernel_rfl) (by kernel_rfl) (by kernel_rfl) (fun _ _ _ h => by cases h.1) (Or.inl ⟨by rfl, ?_⟩) (by assumption) ?_
   rotate_left
   ·intro w hSw; (try dsimp only at hSw); go_simp <;> with_reducible rfl
   try simp only [Act.put, lz]
   refine wpAnyH_take (i := 9) (v := ?_) rfl (by kernel_rfl) (by kernel_rfl) (by kernel_rfl) (fun _ _ _ h => by cases h.1) (Or.inl ⟨by rfl, ?_⟩) (by assumption) ?_
   rotate_left
   ·intro w hSw; (try dsimp only at hSw); go_simp <;> with_reducible rfl
   try simp only [Act.put, lz]
   refine wpAnyH_take (i := 10) (v := ?_) rfl (by kernel_rfl) (by kernel_rfl) (by kernel_rfl) (fun _ _ _ h => by cases h.1) (Or.inl ⟨by rfl, ?_⟩) (by assumption) ?_
   rotate_left
   ·intro w hSw; (try dsimp only at hSw); go_simp <;> with_reducible rfl
   try simp only [Act.put, lz]
   refine wpAnyH_take (i := 11) (v := ?_) rfl (by kernel_rfl) (by kernel_rfl) (by kernel_rfl) (fun _ _ _ h => by cases h.1) (Or.inl ⟨by rfl, ?_⟩) (by assumption) ?_
   rotate_left
   ·intro w hSw; (try dsimp only at hSw); go_simp <;> with_reducible rfl
   try simp only [Act.put, lz]
   refine wpAnyH_take (i := 12) (v := ?_) rfl (by kernel_rfl) (by kernel_rfl) (by kernel_rfl) (fun _ _ _ h => by cases h.1) (Or.inl ⟨by rfl, ?_⟩) (by assumption) ?_
   rotate_left
   ·intro w hSw; (try dsimp only at hSw); go_simp <;> with_reducible rfl
   try simp only [Act.put, lz]
   refine wpAnyH_ready (rs := [6]) (by kernel_rfl) (by simp) ?_
   refine AllReadyH.cons rfl (fun K hK => ?_) AllReadyH.nil
   go_simp
   refine (cA.out wd KD.out).mono ?_
   rintro e we ⟨rfl, ke⟩
   (try go_wp2_with fail)
   refine hK.out _ _ ?_ (fun hHeld => ?_)
   ·exact hS.out we (KD.out.trans ke (by simp))
   clear hK K
   try simp only [Act.put, lz]
   have KE := hid (KD.out.trans ke (by simp))
   refine wpAnyH_ready (rs := [13]) (by kernel_rfl) (by simp) ?_
   refine AllReadyH.cons rfl (fun K hK => ?_) AllReadyH.nil
   go_simp
   refine (cB.out we KE.out).mono ?_
   rintro e wf ⟨rfl, kf⟩
   (try go_wp2_with fail)
   refine hK.out _ _ ?_ (fun hHeld => ?_)
   ·exact hS.out wf (KE.out.trans kf (by simp))
   clear hK K
   try simp only [Act.put, lz]
   have KF := hid (KE.out.trans kf (by simp))
   refine wpAnyH_ready (rs := [14]) (by kernel_rfl) (by simp) ?_
   refine AllReadyH.cons rfl (fun K hK => ?_) AllReadyH.nil
   go_simp
   refine (cC.out wf).mono ?_
   rintro e wg ⟨rfl, kg⟩
   (try go_wp2_with fail)
   refine hK.out _ _ ?_ (fun hHeld => ?_)
   ·exact hS.out wg (KF.out.trans kg (by simp))
   clear hK K
   try simp only [Act.put, lz]
   refine wpAnyH_take (i := 15) (v := ?_) rfl (by kernel_rfl) (by kernel_rfl) (by kernel_rfl) (fun _ _ _ h => by cases h.1) (Or.inl ⟨by rfl, ?_⟩) (by assumption) ?_
   rotate_left
   ·intro w hSw; (try dsimp only at hSw); go_simp <;> with_reducible rfl
   try simp only [Act.put, lz]
   refine wpAnyH_done (by kernel_rfl) ⟨rfl, ?_⟩ _
   have KG := hid (KF.out.trans kg (by simp))
   obtain ⟨s0, s1⟩ := hS.out wg KG.out
   clear hHeld ke kf kg
   by_cases hC0 : C = 0
   ·have d1 : (C != 0) = false := by simpa using hC0
    have hz2 : Hid (cmpO (os.drop (j + 1)) xl yl = Z) := by show _ = _; rw [← hz.out, hdr.out, dirC]; cases dn <;> simp [hC0]
    clear hC0
    go_wp2_with fail
    go_roundw
    case rel => exact ⟨j + 1, by omega, by go_num, hz2, KG⟩
    case measure => simp [intOf]; omega
   ·have d1 : (C != 0) = true := by simpa using hC0
    have hz2 : Hid ((decide (C < 0) != dn) = decide (Z < 0)) := by
     show _ = _
     have hne : ¬ dirC dn C = 0 := fun h => hC0 ((dir_zero dn C).1 h)
     rw [← hz.out, hdr.out, if_neg hne]
     rcases hrg with rfl | rfl | rfl
     ·cases dn <;> rfl
     ·exact absurd rfl hC0
     ·cases dn <;> rfl
    clear hC0
    go_wp2_with fail
    go_ret
    rw [← hz2.out]
    exact ⟨rfl, KG.out⟩
  ·have hje : os.drop j = [] := List.drop_eq_nil_of_le (by omega)
   have hz2 : Hid (rowsV xl yl = Z) := by show _ = _; rw [← hz.out, hje]; rfl
   have cR := hid (cRefRows xa ya xc yc xl yl wr (HX.out.see.kept H.out) (HY.out.see.kept H.out) (by omega) (by omega))
   rw [hz2.out] at cR
   have dj1 : ¬ (j : Int) < (os.length : Int) := by omega
   have dj2 : decide ((j : Int) < (os.length : Int)) = false := by simp; omega
   clear hje
   go_wp2_with fail
   refine cR.out.mono ?_
   rintro e w2 ⟨rfl, k2⟩
   have KF := hid (H.out.trans k2 (by simp))
   clear cR k2
   go_wp2_with fail
   go_ret
   exact ⟨rfl, KF.out⟩
end Go.Proofs.YtcgkkofmnajedaaGreatDoor
end

section
namespace Go.Proofs.YtcgkkofmnajedaaGreatDoor
open Go.RowKit Go.Hay
set_option linter.unusedVariables false
set_option linter.unusedSimpArgs false

theorem insI_len (lt : Nat → Nat → Prop) [∀ x y, Decidable (lt x y)] (n : Nat) : (srtI lt n).length = n := by rw [(srtI_perm lt n).length_eq, List.length_range]
theorem insI_map {α : Type} (lt : Nat → Nat → Prop) [∀ x y, Decidable (lt x y)] (A : Nat → α) (j K : Nat) (h : insP lt j (srtI lt j) j = K) : (srtI lt (j + 1)).map A = ((srtI lt j).map A).take K ++ A j :: ((srtI lt j).map A).drop K := by
 rw [srtI, insI, insI_len, h, List.map_append, List.map_cons, List.map_take, List.map_drop]
/-- Rows that lie somewhere, appended to a row of the call's own. -/
theorem appVsS (w : World) (L : List Vs) (a : Option Addr) (c : Nat) (ys : List Vs) (a2 : Option Addr) (c2 : Nat) (hr : VsE.Row w (.slice a L.length c) L) (hs : VsE.See w a2 ys) (hL : L.length + ys.length ≤ 4000000) :
  ∃ a' c' w', (Builtin.append_ #[60, 60] 60 #[.slice a L.length c, .slice a2 ys.length c2]).run Tryz.prog w = .ok (.slice a' (L ++ ys).length c') w' ∧ VsE.Row w' (.slice a' (L ++ ys).length c') (L ++ ys) ∧ Kp (blk a) w w' ∧ ∀ k ∈ blk a', k ∈ blk a ∨ w.heap.size ≤ k := by
 obtain ⟨i0, hi, hz0, hz1, hz2⟩ := infoVs
 have hsr := hs.src (P := Tryz.prog) Tryz.underlying60 c2
 obtain ⟨v', w', hrun, h1, h2, h3⟩ := run_appendG (E := VsE) (P := Tryz.prog) w 60 60 60 61 i0 _ 24 Tryz.underlying60 hi hz0 hz1 hz2 rfl (.slice a L.length c) L hr _ ys hsr (by omega) (by omega)
 obtain ⟨a', c', rfl, _⟩ := h1.see
 simp only [ownV] at h2 h3
 exact ⟨a', c', w', hrun, h1, h2, h3⟩
/-- One row appended. -/
theorem appVsO (w : World) (L : List Vs) (a : Option Addr) (c : Nat) (x : Vs) (hr : VsE.Row w (.slice a L.length c) L) (hL : L.length ≤ 3000000) :
  ∃ a' c' w', (Builtin.append_ #[60, 60] 60 #[.slice a L.length c, .slice (some ⟨w.heap.size, 0, none⟩) 1 1]).run Tryz.prog (w.alloc (.cells #[.slice x.a x.l.length x.c] 61)) = .ok (.slice a' (L ++ [x]).length c') w' ∧ VsE.Row w' (.slice a' (L ++ [x]).length c') (L ++ [x]) ∧ Kp (blk a) w w' ∧ ∀ k ∈ blk a', k ∈ blk a ∨ w.heap.size ≤ k := by
 obtain ⟨A1, hA1⟩ : ∃ A1, w.alloc (.cells #[.slice x.a x.l.length x.c] 61) = A1 := ⟨_, rfl⟩
 have k1 : Kp [] w A1 := by rw [← hA1]; exact (Kp.refl _ _).alloc _
 have bx : Bn A1 w.heap.size (VsE.c x) := by rw [← hA1]; exact Bn.new w (VsE.c x) _
 have hs1 : VsE.See A1 (some ⟨w.heap.size, 0, none⟩) [x] := .inr ⟨w.heap.size, 0, rfl, fun j u hu => by rw [Nat.zero_add]; exact bx.get j u (by simpa [El.cs] using hu)⟩
 obtain ⟨a', c', w', h1, h2, h3, h4⟩ := appVsS A1 L a c [x] _ 1 (hr.keptNew k1) hs1 (by simp only [List.length_cons, List.length_nil]; omega)
 rw [hA1]
 have z := k1.size
 exact ⟨a', c', w', h1, h2, (k1.mono (by simp)).trans h3 (fun _ h => .inl h), fun k hk => by
  rcases h4 k hk with e | e
  ·exact .inl e
  ·exact .inr (by omega)⟩
/-- The rest of a row of rows. -/
theorem sliceFromVs (a : Option Addr) (n c k : Nat) (w : World) (hk : k ≤ n) : (Instr.slice 60 (.slice a n c) (some (.int .i64 (k : Int))) none none).run Tryz.prog w = .ok (.slice (if c = k then a else a.map (·.add k)) (n - k) (c - k)) w := by
 obtain ⟨i0, hi, hz0, hz1, hz2⟩ := infoVs
 have hsz := run_sizeOf (P := Tryz.prog) (w := w) hi
 have h1 : (0 : Int) ≤ (k : Int) := by omega
 have h2 : (k : Int) ≤ (n : Int) := by omega
 simp [Instr.slice, Instr.sliceBounds, Instr.sliceBound, run_underlying Tryz.underlying60, h1, h2, hk, asIntOf]
theorem addrMap0 (a : Option Addr) : a.map (·.add 0) = a := by cases a <;> rfl
/-- The beginning of a row of rows. -/
theorem sliceToVs (a : Option Addr) (n c k : Nat) (w : World) (hk : k ≤ c) : (Instr.slice 60 (.slice a n c) none (some (.int .i64 (k : Int))) none).run Tryz.prog w = .ok (.slice a k c) w := by
 obtain ⟨i0, hi, hz0, hz1, hz2⟩ := infoVs
 have hsz := run_sizeOf (P := Tryz.prog) (w := w) hi
 have h1 : (0 : Int) ≤ (k : Int) := by omega
 have h2 : (k : Int) ≤ (c : Int) := by omega
 have e0 := addrMap0 a
 simp [Instr.slice, Instr.sliceBounds, Instr.sliceBound, run_underlying Tryz.underlying60, h1, h2, hk, asIntOf, e0]
/-- Three appends: what is ahead, one, what is behind. -/
theorem app3V (u : World) (a cq : Option Addr) (ca cc j K : Nat) (O : List Vs) (hO : O.length = j) (hK : K ≤ j) (h1 : VsE.See u a (O.take K)) (h2 : VsE.See u cq (O.drop K)) (x : Vs) (hj : j ≤ 1048576) :
  ∃ a1 c1 W1 a2 c2 W2 a3 c3 W3, (Builtin.append_ #[60, 60] 60 #[.slice none 0 0, .slice a K ca]).run Tryz.prog u = .ok (.slice a1 K c1) W1
   ∧ (Builtin.append_ #[60, 60] 60 #[.slice a1 K c1, .slice (some ⟨W1.heap.size, 0, none⟩) 1 1]).run Tryz.prog (W1.alloc (.cells #[.slice x.a x.l.length x.c] 61)) = .ok (.slice a2 (K + 1) c2) W2
   ∧ (Builtin.append_ #[60, 60] 60 #[.slice a2 (K + 1) c2, .slice cq (j - K) cc]).run Tryz.prog W2 = .ok (.slice a3 (j + 1) c3) W3
   ∧ VsE.Row W3 (.slice a3 (O.take K ++ x :: O.drop K).length c3) (O.take K ++ x :: O.drop K) ∧ (∀ k ∈ blk a3, u.heap.size ≤ k) ∧ Kp [] u W1 ∧ Kp [] u W2 ∧ Kp [] u W3 := by
 have l1 : (O.take K).length = K := by rw [List.length_take]; omega
 have l2 : (O.drop K).length = j - K := by rw [List.length_drop]; omega
 obtain ⟨a1, c1, W1, r1, R1, k1, n1⟩ := appVsS u [] none 0 (O.take K) a ca (.inl ⟨rfl, rfl⟩) h1 (by simp; omega)
 simp only [List.nil_append, List.length_nil] at r1 R1
 obtain ⟨a2, c2, W2, r2, R2, k2, n2⟩ := appVsO W1 (O.take K) a1 c1 x R1 (by omega)
 have k1' : Kp [] u W1 := by simpa [blk] using k1
 have n1' : ∀ k ∈ blk a1, u.heap.size ≤ k := fun k hk => by
  rcases n1 k hk with e | e
  ·simp [blk] at e
  ·exact e
 have k2' : Kp [] u W2 := k1'.trans k2 (fun y hy => .inr (n1' y hy))
 have n2' : ∀ k ∈ blk a2, u.heap.size ≤ k := fun k hk => by
  rcases n2 k hk with e | e
  ·exact n1' k e
  ·have := k1'.size; omega
 obtain ⟨a3, c3, W3, r3, R3, k3, n3⟩ := appVsS W2 (O.take K ++ [x]) a2 c2 (O.drop K) cq cc R2 (h2.keptNew k2') (by simp; omega)
 have e1 : (O.take K ++ [x]).length = K + 1 := by simp; omega
 have e2 : O.take K ++ [x] ++ O.drop K = O.take K ++ x :: O.drop K := by simp
 have e3 : (O.take K ++ x :: O.drop K).length = j + 1 := by simp; omega
 rw [l1] at r1 r2
 rw [e1] at r2 r3
 rw [e2] at r3 R3
 rw [e3, l2] at r3
 exact ⟨a1, c1, W1, a2, c2, W2, a3, c3, W3, r1, r2, r3, R3, fun k hk => by
  rcases n3 k hk with e | e
  ·exact n2' k e
  ·have := k2'.size; omega, k1', k2', k2'.trans k3 (fun y hy => .inr (n2' y hy))⟩
end Go.Proofs.YtcgkkofmnajedaaGreatDoor
end

section
namespace Go.Proofs.YtcgkkofmnajedaaGreatDoor
open Go.RowKit Go.Hay
attribute [local go_sem] Oper.semAt_some
set_option linter.unusedVariables false
set_option linter.unusedSimpArgs false

theorem refJ_app (A B RR : List (List Val)) (lo ro : Int) : refJ (A ++ B) RR lo ro = refJ A RR lo ro ++ refJ B RR lo ro := by
 rw [refJ_eq, refJ_eq, refJ_eq, List.flatMap_append]
theorem refJ_pre {L M : List Vs} {lo ro : Int} {j k : Nat} (hj : j < L.length) : (refJ ((L.take j).map (·.l)) (M.map (·.l)) lo ro ++ (((M.take k).map (·.l)).filter (prJ lo ro L[j].l)).map (L[j].l ++ ·)).length ≤ (refJ (L.map (·.l)) (M.map (·.l)) lo ro).length := by
 have h1 : L.map (·.l) = (L.take (j + 1)).map (·.l) ++ (L.drop (j + 1)).map (·.l) := by rw [← List.map_append, List.take_append_drop]
 rw [h1, refJ_app, refJ_snoc hj]
 have h2 : (((M.take k).map (·.l)).filter (prJ lo ro L[j].l)).length ≤ ((M.map (·.l)).filter (prJ lo ro L[j].l)).length := ((List.take_sublist k M).map _).filter _ |>.length_le
 simp only [List.length_append, List.length_map]
 omega
def JoiP (R : List (List Val)) (w : World) (e : Ending) (w' : World) : Prop :=
 Kp [] w w' ∧ ((65536 < R.length ∧ e = .returned (.tuple #[.slice none 0 0, .bool false])) ∨ (R.length ≤ 65536 ∧ ∃ ra rc L, e = .returned (.tuple #[.slice ra L.length rc, .bool true]) ∧ Lot w.heap.size ra rc L w' ∧ L.map (·.l) = R))
set_option maxHeartbeats 32000000 in
set_option maxRecDepth 100000 in
theorem rJoinedQ (q : Qy) (a b : Option Addr) (ca cb : Nat) (L M : List Vs) (w0 : World) (ha : VsE.See w0 a L) (hb : VsE.See w0 b M) (hA : ∀ x ∈ L, x.lies w0) (hB : ∀ x ∈ M, x.lies w0) (hl : L.length ≤ 1048576) (hm : M.length ≤ 1048576) (hAl : ∀ x ∈ L, x.l.length ≤ 1048576) (hBl : ∀ x ∈ M, x.l.length ≤ 1048576) :
  Calls Tryz.prog 61 #[.agg q.cs.toArray, .slice a L.length ca, .slice b M.length cb] w0 (JoiP (refJ (L.map (·.l)) (M.map (·.l)) q.lo q.ro) w0) := by
 obtain ⟨w, hw1, k1, b1⟩ : ∃ x, w0.alloc (.cells q.cs.toArray 31) = x ∧ Kp [] w0 x ∧ Bn x w0.heap.size q.cs := ⟨_, rfl, (Kp.refl _ _).alloc _, Bn.new w0 _ _⟩
 obtain ⟨qq, hqq⟩ : ∃ x, Hid (w0.heap.size = x) := ⟨_, hid rfl⟩
 rw [hqq.out] at b1
 have KW := hid k1
 have hqq' := hqq.out
 have HA := hid (show VsE.See w a L from ckSee (CK.ofKp k1) ha (by simp))
 have HB := hid (show VsE.See w b M from ckSee (CK.ofKp k1) hb (by simp))
 have HLA := hid (show ∀ x ∈ L, x.lies w from fun x h => (hA x h).ck (CK.ofKp k1) (by simp))
 have HLB := hid (show ∀ x ∈ M, x.lies w from fun x h => (hB x h).ck (CK.ofKp k1) (by simp))
 have hAl' := hid hAl
 have hBl' := hid hBl
 have H0 : Hid (Lot w.heap.size none 0 [] w ∧ Kp [] w w) := ⟨Lot.nil _ _, Kp.refl _ _⟩
 clear ha hb hA hB hAl hBl k1
 obtain ⟨tb, jn, rt, lo, ro, ⟨wa, wc, wl⟩, ⟨ca', cc, cl⟩, gr, ⟨ya, yc, yl⟩, ⟨ga, gc, gl⟩, ⟨oa, oc, ol⟩, lim⟩ := q
 simp only [Qy.cs, Sl.v] at hw1 b1 ⊢
 have BQ : Hid (∀ W, Kp [] w W → W.cell? ⟨qq, 3, none⟩ = some (.int .i64 lo) ∧ W.cell? ⟨qq, 4, none⟩ = some (.int .i64 ro)) := hid fun W k => ⟨(b1.kept k).get 3 _ rfl, (b1.kept k).get 4 _ rfl⟩
 clear b1
 go_enter Tryz.func61, Tryz.ntmps61
 go_wp2_with fail
 go_loopw [8, 9] (fun v9 i wr => ∃ (j : Nat) (ra : Option Addr) (rc : Nat) (m : List Vs), j ≤ L.length ∧ i = .int .i64 (j : Int) ∧ v9 = .slice ra m.length rc ∧ Hid (m.map (·.l) = refJ ((L.take j).map (·.l)) (M.map (·.l)) lo ro ∧ m.length ≤ 65536) ∧ Hid (Lot w.heap.size ra rc m wr ∧ Kp [] w wr)) (fun _ i _ => L.length - (intOf i).toNat)
 case atStart => exact ⟨0, none, 0, [], Nat.zero_le _, rfl, rfl, ⟨rfl, by simp⟩, H0⟩
 case round =>
  obtain ⟨j, ra, rc, m, hj, rfl, rfl, hme, H⟩ := hrel
  clear H0
  by_cases hlt : j < L.length
  ·have hpre := hid (fun k : Nat => refJ_pre (M := M) (lo := lo) (ro := ro) (k := k) hlt)
   have hsn := hid (refJ_snoc (RR := M.map (·.l)) (lo := lo) (ro := ro) hlt)
   obtain ⟨g, o, ea, x0⟩ := vsAt HA.out (k := j) (x := L[j]) (by simp [hlt])
   have hxli := hid (HLA.out L[j] (List.getElem_mem hlt))
   have hxl := hAl'.out L[j] (List.getElem_mem hlt)
   obtain ⟨x, hx⟩ : ∃ x, Hid (L[j] = x) := ⟨L[j], rfl⟩
   rw [hx.out] at x0 hxli hxl hsn hpre
   obtain ⟨xa, xc, xl⟩ := x
   dsimp only at x0 hxl hsn hpre
   have HX : Hid (∀ W', Kp [] w W' → W'.cell? ⟨g, o + j, none⟩ = some (.slice xa xl.length xc)) := fun W' k => kpAt k x0
   obtain ⟨⟨uk, ub, un, ut⟩, hu⟩ : ∃ y, Hid (vAt xl lo = y) := ⟨_, rfl⟩
   have cAx : Hid (∀ W', Kp [] w W' → Calls Tryz.prog 93 #[.slice xa xl.length xc, .int .i64 lo] W' fun e w' => e = .returned (.agg #[.int .i64 uk, .bool ub, .int .i64 un, .string ut]) ∧ Kp [] W' w') := fun W' k => by
    have h1 := rAtE xa xc xl lo W' (hxli.out.see.kept k) (by omega)
    rw [hu.out] at h1
    exact h1
   have i1 : (0 : Int) ≤ (j : Int) := by omega
   have i2 : (j : Int) < (L.length : Int) := by omega
   have i3 : (j : Int) + 1 ≤ 9223372036854775807 := by omega
   subst ea
   clear x0
   go_wp2_with fail
   go_loopw [8, 10] (fun v9 v11 wk => ∃ (k : Nat) (rb : Option Addr) (rd : Nat) (m2 : List Vs), k ≤ M.length ∧ v11 = .int .i64 (k : Int) ∧ v9 = .slice rb m2.length rd ∧ Hid (m2.map (·.l) = refJ ((L.take j).map (·.l)) (M.map (·.l)) lo ro ++ (((M.take k).map (·.l)).filter (prJ lo ro xl)).map (xl ++ ·) ∧ m2.length ≤ 65536) ∧ Hid (Lot w.heap.size rb rd m2 wk ∧ Kp [] w wk)) (fun _ v11 _ => M.length - (intOf v11).toNat)
   case atStart => exact ⟨0, ra, rc, m, Nat.zero_le _, rfl, rfl, ⟨by rw [hme.out.1]; simp, by have := hme.out.2; omega⟩, H⟩
   case round =>
    obtain ⟨k, rb, rd, m2, hk, rfl, rfl, hm2, Hk⟩ := hrel
    clear H
    by_cases hkl : k < M.length
    ·obtain ⟨g2, o2, eb, y0⟩ := vsAt HB.out (k := k) (x := M[k]) (by simp [hkl])
     have hyli := hid (HLB.out M[k] (List.getElem_mem hkl))
     have hyl := hBl'.out M[k] (List.getElem_mem hkl)
     have hfs := hid (filtJ_snoc (p := prJ lo ro xl) hkl)
     obtain ⟨y, hy⟩ : ∃ y, Hid (M[k] = y) := ⟨M[k], rfl⟩
     rw [hy.out] at y0 hyli hyl hfs
     obtain ⟨ya, yc, yl⟩ := y
     dsimp only at y0 hyl hfs
     have HC : Hid (∀ W', Kp [] w W' → W'.cell? ⟨g, o + j, none⟩ = some (.slice xa xl.length xc) ∧ W'.cell? ⟨g2, o2 + k, none⟩ = some (.slice ya yl.length yc)) := fun W' q => ⟨HX.out W' q, kpAt q y0⟩
     obtain ⟨⟨vk, vb, vn, vt⟩, hv⟩ : ∃ y, Hid (vAt yl ro = y) := ⟨_, rfl⟩
     have cAy : Hid (∀ W', Kp [] w W' → Calls Tryz.prog 93 #[.slice ya yl.length yc, .int .i64 ro] W' fun e w' => e = .returned (.agg #[.int .i64 vk, .bool vb, .int .i64 vn, .string vt]) ∧ Kp [] W' w') := fun W' k => by
      have h1 := rAtE ya yc yl ro W' (hyli.out.see.kept k) (by omega)
      rw [hv.out] at h1
      exact h1
     have hpr : Hid (prJ lo ro xl yl = (uk != 0 && vk != 0 && cmpV ⟨uk, ub, un, ut⟩ ⟨vk, vb, vn, vt⟩ == 0)) := by show _ = _; unfold prJ; rw [hu.out, hv.out]
     have cCm := hid (fun W' => cRefCompare ⟨uk, ub, un, ut⟩ ⟨vk, vb, vn, vt⟩ W')
     simp only [Val.v] at cCm
     have k1 : (0 : Int) ≤ (k : Int) := by omega
     have k2 : (k : Int) < (M.length : Int) := by omega
     have k3 : (k : Int) + 1 ≤ 9223372036854775807 := by omega
     subst eb
     clear y0
     obtain ⟨wo, hwo⟩ : ∃ x, x = wr := ⟨wr, rfl⟩
     subst hwo
     have hS1 : Hid (∀ W', Kp [] wo W' → (fun W' => W'.cell? ⟨g, o + j, none⟩ = some (.slice xa xl.length xc) ∧ W'.cell? ⟨qq, 3, none⟩ = some (.int .i64 lo)) W') := hid (fun W' q => ⟨HX.out W' (Hk.out.2.trans q (by simp)), (BQ.out W' (Hk.out.2.trans q (by simp))).1⟩)
     have cX1 : Hid (∀ W', Kp [] wo W' → Calls Tryz.prog 93 #[.slice xa xl.length xc, .int .i64 lo] W' fun e w' => e = .returned (.agg #[.int .i64 uk, .bool ub, .int .i64 un, .string ut]) ∧ Kp [] W' w') := hid (fun W' q => cAx.out W' (Hk.out.2.trans q (by simp)))
     go_upto_region 8 with fail
     go_cut [11] from 25 to 32 (fun v7 wx => ∃ q12, v7 = .pointer (some ⟨q12, 0, none⟩) ∧ Hid (Bn wx q12 [.int .i64 uk, .bool ub, .int .i64 un, .string ut] ∧ Kp [] wo wx ∧ wo.heap.size ≤ q12))
     case first =>
      refine wp_noPanicY ?_
      refine wp_region_held_drew (S := fun W' => W'.cell? ⟨g, o + j, none⟩ = some (.slice xa xl.length xc) ∧ W'.cell? ⟨qq, 3, none⟩ = some (.int .i64 lo)) (by kernel_rfl) (hS1.out _ (Kp.refl _ _).drew) (fun hHeld => ?_)
      have KD : Hid (Kp [] wo wo.drew) := hid (Kp.refl _ _).drew
      generalize wo.drew = wd at *
      refine wpAnyH_take (i := 0) (v := ?_) rfl (by kernel_rfl) (by kernel_rfl) (by kernel_rfl) (fun _ _ _ h => by cases h.1) (Or.inl ⟨by rfl, ?_⟩) (by assumption) ?_
      rotate_left
      ·intro w hSw; (try dsimp only at hSw); go_simp <;> with_reducible rfl
      try simp only [Act.put, lz]
      refine wpAnyH_take (i := 1) (v := ?_) rfl (by kernel_rfl) (by kernel_rfl) (by kernel_rfl) (fun _ _ _ h => by cases h.1) (Or.inl ⟨by rfl, ?_⟩) (by assumption) ?_
      rotate_left
      ·intro w hSw; (try dsimp only at hSw); go_simp <;> with_reducible rfl
      try simp only [Act.put, lz]
      refine wpAnyH_take (i := 2) (v := ?_) rfl (by kernel_rfl) (by kernel_rfl) (by kernel_rfl) (fun _ _ _ h => by cases h.1) (Or.inl ⟨by rfl, ?_⟩) (by assumption) ?_
      rotate_left
      ·intro w hSw; (try dsimp only at hSw); go_simp <;> with_reducible rfl
      try simp only [Act.put, lz]
      refine wpAnyH_take (i := 3) (v := ?_) rfl (by kernel_rfl) (by kernel_rfl) (by kernel_rfl) (fun _ _ _ h => by cases h.1) (Or.inl ⟨by rfl, ?_⟩) (by assumption) ?_
      rotate_left
      ·intro w hSw; (try dsimp only at hSw); go_simp <;> with_reducible rfl
      try simp only [Act.put, lz]
      refine wpAnyH_take (i := 4) (v := ?_) rfl (by kernel_rfl) (by kernel_rfl) (by kernel_rfl) (fun _ _ _ h => by cases h.1) (Or.inl ⟨by rfl, ?_⟩) (by assumption) ?_
      rotate_left
      ·intro w hSw; (try dsimp only at hSw); go_simp <;> with_reducible rfl
      try simp only [Act.put, lz]
      refine wpAnyH_take (i := 5) (v := ?_) rfl (by kernel_rfl) (by kernel_rfl) (by kernel_rfl) (fun _ _ _ h => by cases h.1) (Or.inl ⟨by rfl, ?_⟩) (by assumption) ?_
      rotate_left
      ·intro w hSw; (try dsimp only at hSw); go_simp <;> with_reducible rfl
      try simp only [Act.put, lz]
      refine wpAnyH_ready (rs := [6, 7]) (by kernel_rfl) (by simp) ?_
      refine AllReadyH.cons rfl (fun K hK => ?_) (AllReadyH.cons rfl (fun K hK => ?_) AllReadyH.nil)
      ·go_simp
       refine (cX1.out wd KD.out).mono ?_
       rintro e we ⟨rfl, ke⟩
       have KE := hid (KD.out.trans ke (by simp))
       obtain ⟨q12, V1, V2, eq12, eV1, bv1, eV2, bv2, kV, zV⟩ := boxV4Y we ⟨uk, ub, un, ut⟩
       have u0 := bv1.get 0 _ rfl; have u1 := bv1.get 1 _ rfl; have u2 := bv1.get 2 _ rfl; have u3 := bv1.get 3 _ rfl
       have g0 := bv1.free 0; have g1 := bv1.free 1; have g2 := bv1.free 2; have g3 := bv1.free 3
       try dsimp only at eV2
       have kAl : Kp [] we V1 := by rw [← eV1]; exact (Kp.refl _ _).alloc _
       have hfin : Hid (Bn V2 q12 [.int .i64 uk, .bool ub, .int .i64 un, .string ut] ∧ Kp [] wo V2 ∧ wo.heap.size ≤ q12) := hid ⟨bv2, KE.out.trans kV (by simp), by have := KE.out.size; omega⟩
       (try go_wp2_with fail)
       refine hK.out _ _ (hS1.out we KE.out) (fun hHeld => ?_)
       clear hK K
       try simp only [Act.put, lz]
       refine wpAnyH_ready (rs := [7]) (by kernel_rfl) (by simp) ?_
       refine AllReadyH.cons rfl (fun K hK => ?_) AllReadyH.nil
       go_simp
       (try go_wp2_with fail)
       refine hK.out _ _ (hS1.out _ (KE.out.trans kAl (by simp))) (fun hHeld => ?_)
       clear hK K
       try simp only [Act.put, lz]
       refine wpAnyH_ready (rs := [8]) (by kernel_rfl) (by simp) ?_
       refine AllReadyH.cons rfl (fun K hK => ?_) AllReadyH.nil
       go_simp
       (try go_wp2_with fail)
       refine hK.out _ _ (hS1.out _ (KE.out.trans kV (by simp))) (fun hHeld => ?_)
       clear hK K
       try simp only [Act.put, lz]
       refine wpAnyH_done (by kernel_rfl) ⟨rfl, ?_⟩ _
       clear hHeld
       go_wp2_with fail
       go_meet
       exact ⟨q12, rfl, hfin⟩
      ·obtain ⟨B1, eB1, bb, kB, zB⟩ := addE wd nulV
       obtain ⟨q12, eq12⟩ : ∃ q, wd.heap.size = q := ⟨_, rfl⟩
       rw [eq12] at bb zB
       have KB := hid (KD.out.trans kB (by simp))
       have BB := hid bb
       go_simp
       (try go_wp2_with fail)
       refine hK.out _ _ (hS1.out _ KB.out) (fun hHeld => ?_)
       clear hK K
       try simp only [Act.put, lz]
       refine wpAnyH_ready (rs := [6]) (by kernel_rfl) (by simp) ?_
       refine AllReadyH.cons rfl (fun K hK => ?_) AllReadyH.nil
       go_simp
       refine (cX1.out B1 KB.out).mono ?_
       rintro e we ⟨rfl, ke⟩
       have KE := hid (KB.out.trans ke (by simp))
       (try go_wp2_with fail)
       refine hK.out _ _ (hS1.out we KE.out) (fun hHeld => ?_)
       clear hK K
       try simp only [Act.put, lz]
       have hq12 : wo.heap.size ≤ q12 := by have := KD.out.size; omega
       obtain ⟨V2, eV2, bv2, kV, _⟩ := putV4 (BB.out.kept ke) hq12 KE.out ⟨uk, ub, un, ut⟩
       have bz := BB.out.kept ke
       have u0 := bz.get 0 _ rfl; have u1 := bz.get 1 _ rfl; have u2 := bz.get 2 _ rfl; have u3 := bz.get 3 _ rfl
       have g0 := bz.free 0; have g1 := bz.free 1; have g2 := bz.free 2; have g3 := bz.free 3
       try dsimp only at eV2
       have hfin : Hid (Bn V2 q12 [.int .i64 uk, .bool ub, .int .i64 un, .string ut] ∧ Kp [] wo V2 ∧ wo.heap.size ≤ q12) := hid ⟨bv2, kV, hq12⟩
       clear bz bv2
       refine wpAnyH_ready (rs := [8]) (by kernel_rfl) (by simp) ?_
       refine AllReadyH.cons rfl (fun K hK => ?_) AllReadyH.nil
       go_simp
       (try go_wp2_with fail)
       refine hK.out _ _ (hS1.out _ kV) (fun hHeld => ?_)
       clear hK K
       try simp only [Act.put, lz]
       refine wpAnyH_done (by kernel_rfl) ⟨rfl, ?_⟩ _
       clear hHeld
       go_wp2_with fail
       go_meet
       exact ⟨q12, rfl, hfin⟩
     case rest =>
      obtain ⟨q12, rfl, hA12⟩ := hcut
      obtain ⟨wu, hwu⟩ : ∃ x, x = wc := ⟨wc, rfl⟩
      subst hwu
      have KU := hid (Hk.out.2.trans hA12.out.2.1 (by simp))
      have hS2 : Hid (∀ W', Kp [] wu W' → (fun W' => W'.cell? ⟨g2, o2 + k, none⟩ = some (.slice ya yl.length yc) ∧ W'.cell? ⟨qq, 4, none⟩ = some (.int .i64 ro)) W') := hid (fun W' q => ⟨(HC.out W' (KU.out.trans q (by simp))).2, (BQ.out W' (KU.out.trans q (by simp))).2⟩)
      have cX2 : Hid (∀ W', Kp [] wu W' → Calls Tryz.prog 93 #[.slice ya yl.length yc, .int .i64 ro] W' fun e w' => e = .returned (.agg #[.int .i64 vk, .bool vb, .int .i64 vn, .string vt]) ∧ Kp [] W' w') := hid (fun W' q => cAy.out W' (KU.out.trans q (by simp)))
      go_upto_region 9 with fail
      go_cut [12] from 32 to 39 (fun v7 wx => ∃ q13, v7 = .pointer (some ⟨q13, 0, none⟩) ∧ Hid (Bn wx q13 [.int .i64 vk, .bool vb, .int .i64 vn, .string vt] ∧ Kp [] wu wx ∧ wu.heap.size ≤ q13))
      case first =>
       refine wp_noPanicY ?_
       refine wp_region_held_drew (S := fun W' => W'.cell? ⟨g2, o2 + k, none⟩ = some (.slice ya yl.length yc) ∧ W'.cell? ⟨qq, 4, none⟩ = some (.int .i64 ro)) (by kernel_rfl) (hS2.out _ (Kp.refl _ _).drew) (fun hHeld => ?_)
       have KD : Hid (Kp [] wu wu.drew) := hid (Kp.refl _ _).drew
       generalize wu.drew = wd at *
       refine wpAnyH_take (i := 0) (v := ?_) rfl (by kernel_rfl) (by kernel_rfl) (by kernel_rfl) (fun _ _ _ h => by cases h.1) (Or.inl ⟨by rfl, ?_⟩) (by assumption) ?_
       rotate_left
       ·intro w hSw; (try dsimp only at hSw); go_simp <;> with_reducible rfl
       try simp only [Act.put, lz]
       refine wpAnyH_take (i := 1) (v := ?_) rfl (by kernel_rfl) (by kernel_rfl) (by kernel_rfl) (fun _ _ _ h => by cases h.1) (Or.inl ⟨by rfl, ?_⟩) (by assumption) ?_
       rotate_left
       ·intro w hSw; (try dsimp only at hSw); go_simp <;> with_reducible rfl
       try simp only [Act.put, lz]
       refine wpAnyH_take (i := 2) (v := ?_) rfl (by kernel_rfl) (by kernel_rfl) (by kernel_rfl) (fun _ _ _ h => by cases h.1) (Or.inl ⟨by rfl, ?_⟩) (by assumption) ?_
       rotate_left
       ·intro w hSw; (try dsimp only at hSw); go_simp <;> with_reducible rfl
       try simp only [Act.put, lz]
       refine wpAnyH_take (i := 3) (v := ?_) rfl (by kernel_rfl) (by kernel_rfl) (by kernel_rfl) (fun _ _ _ h => by cases h.1) (Or.inl ⟨by rfl, ?_⟩) (by assumption) ?_
       rotate_left
       ·intro w hSw; (try dsimp only at hSw); go_simp <;> with_reducible rfl
       try simp only [Act.put, lz]
       refine wpAnyH_take (i := 4) (v := ?_) rfl (by kernel_rfl) (by kernel_rfl) (by kernel_rfl) (fun _ _ _ h => by cases h.1) (Or.inl ⟨by rfl, ?_⟩) (by assumption) ?_
       rotate_left
       ·intro w hSw; (try dsimp only at hSw); go_simp <;> with_reducible rfl
       try simp only [Act.put, lz]
       refine wpAnyH_take (i := 5) (v := ?_) rfl (by kernel_rfl) (by kernel_rfl) (by kernel_rfl) (fun _ _ _ h => by cases h.1) (Or.inl ⟨by rfl, ?_⟩) (by assumption) ?_
       rotate_left
       ·intro w hSw; (try dsimp only at hSw); go_simp <;> with_reducible rfl
       try simp only [Act.put, lz]
       refine wpAnyH_ready (rs := [6, 7]) (by kernel_rfl) (by simp) ?_
       refine AllReadyH.cons rfl (fun K hK => ?_) (AllReadyH.cons rfl (fun K hK => ?_) AllReadyH.nil)
       ·go_simp
        refine (cX2.out wd KD.out).mono ?_
        rintro e we ⟨rfl, ke⟩
        have KE := hid (KD.out.trans ke (by simp))
        obtain ⟨q13, V1, V2, eq13, eV1, bv1, eV2, bv2, kV, zV⟩ := boxV4Y we ⟨vk, vb, vn, vt⟩
        have u0 := bv1.get 0 _ rfl; have u1 := bv1.get 1 _ rfl; have u2 := bv1.get 2 _ rfl; have u3 := bv1.get 3 _ rfl
        have g0 := bv1.free 0; have g1 := bv1.free 1; have g2 := bv1.free 2; have g3 := bv1.free 3
        try dsimp only at eV2
        have kAl : Kp [] we V1 := by rw [← eV1]; exact (Kp.refl _ _).alloc _
        have hfin : Hid (Bn V2 q13 [.int .i64 vk, .bool vb, .int .i64 vn, .string vt] ∧ Kp [] wu V2 ∧ wu.heap.size ≤ q13) := hid ⟨bv2, KE.out.trans kV (by simp), by have := KE.out.size; omega⟩
        (try go_wp2_with fail)
        refine hK.out _ _ (hS2.out we KE.out) (fun hHeld => ?_)
        clear hK K
        try simp only [Act.put, lz]
        refine wpAnyH_ready (rs := [7]) (by kernel_rfl) (by simp) ?_
        refine AllReadyH.cons rfl (fun K hK => ?_) AllReadyH.nil
        go_simp
        (try go_wp2_with fail)
        refine hK.out _ _ (hS2.out _ (KE.out.trans kAl (by simp))) (fun hHeld => ?_)
        clear hK K
        try simp only [Act.put, lz]
        refine wpAnyH_ready (rs := [8]) (by kernel_rfl) (by simp) ?_
        refine AllReadyH.cons rfl (fun K hK => ?_) AllReadyH.nil
        go_simp
        (try go_wp2_with fail)
        refine hK.out _ _ (hS2.out _ (KE.out.trans kV (by simp))) (fun hHeld => ?_)
        clear hK K
        try simp only [Act.put, lz]
        refine wpAnyH_done (by kernel_rfl) ⟨rfl, ?_⟩ _
        clear hHeld
        go_wp2_with fail
        go_meet
        exact ⟨q13, rfl, hfin⟩
       ·obtain ⟨B1, eB1, bb, kB, zB⟩ := addE wd nulV
        obtain ⟨q13, eq13⟩ : ∃ q, wd.heap.size = q := ⟨_, rfl⟩
        rw [eq13] at bb zB
        have KB := hid (KD.out.trans kB (by simp))
        have BB := hid bb
        go_simp
        (try go_wp2_with fail)
        refine hK.out _ _ (hS2.out _ KB.out) (fun hHeld => ?_)
        clear hK K
        try simp only [Act.put, lz]
        refine wpAnyH_ready (rs := [6]) (by kernel_rfl) (by simp) ?_
        refine AllReadyH.cons rfl (fun K hK => ?_) AllReadyH.nil
        go_simp
        refine (cX2.out B1 KB.out).mono ?_
        rintro e we ⟨rfl, ke⟩
        have KE := hid (KB.out.trans ke (by simp))
        (try go_wp2_with fail)
        refine hK.out _ _ (hS2.out we KE.out) (fun hHeld => ?_)
        clear hK K
        try simp only [Act.put, lz]
        have hq13 : wu.heap.size ≤ q13 := by have := KD.out.size; omega
        obtain ⟨V2, eV2, bv2, kV, _⟩ := putV4 (BB.out.kept ke) hq13 KE.out ⟨vk, vb, vn, vt⟩
        have bz := BB.out.kept ke
        have u0 := bz.get 0 _ rfl; have u1 := bz.get 1 _ rfl; have u2 := bz.get 2 _ rfl; have u3 := bz.get 3 _ rfl
        have g0 := bz.free 0; have g1 := bz.free 1; have g2 := bz.free 2; have g3 := bz.free 3
        try dsimp only at eV2
        have hfin : Hid (Bn V2 q13 [.int .i64 vk, .bool vb, .int .i64 vn, .string vt] ∧ Kp [] wu V2 ∧ wu.heap.size ≤ q13) := hid ⟨bv2, kV, hq13⟩
        clear bz bv2
        refine wpAnyH_ready (rs := [8]) (by kernel_rfl) (by simp) ?_
        refine AllReadyH.cons rfl (fun K hK => ?_) AllReadyH.nil
        go_simp
        (try go_wp2_with fail)
        refine hK.out _ _ (hS2.out _ kV) (fun hHeld => ?_)
        clear hK K
        try simp only [Act.put, lz]
        refine wpAnyH_done (by kernel_rfl) ⟨rfl, ?_⟩ _
        clear hHeld
        go_wp2_with fail
        go_meet
        exact ⟨q13, rfl, hfin⟩
      case rest =>
       obtain ⟨q13, rfl, hA13⟩ := hcut
       obtain ⟨W4, hW4⟩ : ∃ x, x = wc := ⟨wc, rfl⟩
       subst hW4
       have KW4 := hid (KU.out.trans hA13.out.2.1 (by simp))
       have HL4 := hid (Hk.out.1.ck (CK.ofKp (hA12.out.2.1.trans hA13.out.2.1 (by simp))) (by simp) (by simp))
       have bx4 := hA12.out.1.kept hA13.out.2.1
       have p0 := bx4.get 0 _ rfl; have p1 := bx4.get 1 _ rfl; have p2 := bx4.get 2 _ rfl; have p3 := bx4.get 3 _ rfl
       have by4 := hA13.out.1
       have r0 := by4.get 0 _ rfl; have r1 := by4.get 1 _ rfl; have r2 := by4.get 2 _ rfl; have r3 := by4.get 3 _ rfl
       clear bx4 by4 hA12 hA13 hS1 hS2 cX1 cX2
       by_cases hp1 : uk = 0
       ·have d1 : (uk != 0) = false := by simp [hp1]
        have hm5 : Hid (m2.map (·.l) = refJ ((L.take j).map (·.l)) (M.map (·.l)) lo ro ++ (((M.take (k + 1)).map (·.l)).filter (prJ lo ro xl)).map (xl ++ ·) ∧ m2.length ≤ 65536) := ⟨by rw [hfs.out, hpr.out, d1]; simpa using hm2.out.1, by have := hm2.out.2; omega⟩
        have HF : Hid (Lot w.heap.size rb rd m2 W4 ∧ Kp [] w W4) := ⟨HL4.out, KW4.out⟩
        clear d1
        subst hp1
        go_wp2_with fail
        go_roundw
        case rel => exact ⟨k + 1, rb, rd, m2, by omega, by go_num, rfl, hm5, HF⟩
        case measure => simp [intOf]; omega
       by_cases hp2 : vk = 0
       ·have d1 : (uk != 0) = true := by simpa using hp1
        have d2 : (vk != 0) = false := by simp [hp2]
        have hm5 : Hid (m2.map (·.l) = refJ ((L.take j).map (·.l)) (M.map (·.l)) lo ro ++ (((M.take (k + 1)).map (·.l)).filter (prJ lo ro xl)).map (xl ++ ·) ∧ m2.length ≤ 65536) := ⟨by rw [hfs.out, hpr.out, d1, d2]; simpa using hm2.out.1, by have := hm2.out.2; omega⟩
        have HF : Hid (Lot w.heap.size rb rd m2 W4 ∧ Kp [] w W4) := ⟨HL4.out, KW4.out⟩
        have e1 : (uk == 0) = false := by simpa using hp1
        clear d1 d2 hp1
        subst hp2
        go_wp2_with fail
        go_roundw
        case rel => exact ⟨k + 1, rb, rd, m2, by omega, by go_num, rfl, hm5, HF⟩
        case measure => simp [intOf]; omega
       have d1 : (uk != 0) = true := by simpa using hp1
       have d2 : (vk != 0) = true := by simpa using hp2
       rw [d1, d2] at hpr
       obtain ⟨C, hCe⟩ : ∃ C, Hid (cmpV ⟨uk, ub, un, ut⟩ ⟨vk, vb, vn, vt⟩ = C) := ⟨_, rfl⟩
       rw [hCe.out] at hpr
       simp only [hCe.out] at cCm
       have e1 : (uk == 0) = false := by simpa using hp1
       have e2 : (vk == 0) = false := by simpa using hp2
       clear hp1 hp2 d1 d2
       go_wp2_with fail
       refine (cCm.out W4).mono ?_
       rintro e wc ⟨rfl, kc⟩
       have KC := hid (KW4.out.trans kc (by simp))
       have HLc := hid (HL4.out.ck (CK.ofKp kc) (by simp) (by simp))
       clear kc HL4 p0 p1 p2 p3 r0 r1 r2 r3
       by_cases hC0 : C = 0
       ·have d3 : (C == 0) = true := by simpa using hC0
        have hpt : Hid (prJ lo ro xl yl = true) := by show _ = _; rw [hpr.out, d3]; rfl
        clear d3
        subst hC0
        have htot : Hid (m2.length + 1 ≤ (refJ (L.map (·.l)) (M.map (·.l)) lo ro).length) := hid (by
         have h1 := hpre.out (k + 1)
         rw [hfs.out, hpt.out, if_pos rfl] at h1
         have h2 := congrArg List.length hm2.out.1
         simp only [List.length_append, List.length_map, List.length_cons, List.length_nil] at h1 h2
         omega)
        by_cases hfull : 65536 ≤ m2.length
        ·have d4 : decide ((m2.length : Int) ≥ 65536) = true := by simp; omega
         go_wp2_with fail
         go_returns
         exact ⟨KW.out.trans KC.out (by simp), .inl ⟨by have := htot.out; omega, rfl⟩⟩
        have d4 : decide ((m2.length : Int) ≥ 65536) = false := by simp; omega
        have hm64 : m2.length < 65536 := by omega
        clear hfull
        go_wp2_with fail
        clear d4
        refine wp_noPanicY ?_
        refine wp_region_held_drew (S := fun W' => W'.cell? ⟨g, o + j, none⟩ = some (.slice xa xl.length xc) ∧ W'.cell? ⟨g2, o2 + k, none⟩ = some (.slice ya yl.length yc)) (by kernel_rfl) (HC.out _ KC.out.drew) (fun hHeld => ?_)
        have KD : Hid (Kp [] wc wc.drew) := hid (Kp.refl _ _).drew
        generalize wc.drew = we at *
        have KE := hid (KC.out.trans KD.out (by simp))
        have cJ := hid (rJoined xa ya xc yc xl yl we (hxli.out.see.kept KE.out) (hyli.out.see.kept KE.out) (by omega))
        obtain ⟨zl, hzl⟩ : ∃ z, Hid (xl ++ yl = z) := ⟨_, rfl⟩
        rw [hzl.out] at cJ
        refine wpAnyH_take (i := 0) (v := ?_) rfl (by kernel_rfl) (by kernel_rfl) (by kernel_rfl) (fun _ _ _ h => by cases h.1) (Or.inl ⟨by rfl, ?_⟩) (by assumption) ?_
        rotate_left
        ·intro w hSw; (try dsimp only at hSw); go_simp <;> with_reducible rfl
        try simp only [Act.put, lz]
        refine wpAnyH_take (i := 1) (v := ?_) rfl (by kernel_rfl) (by kernel_rfl) (by kernel_rfl) (fun _ _ _ h => by cases h.1) (Or.inl ⟨by rfl, ?_⟩) (by assumption) ?_
        rotate_left
        ·intro w hSw; (try dsimp only at hSw); go_simp <;> with_reducible rfl
        try simp only [Act.put, lz]
        refine wpAnyH_take (i := 2) (v := ?_) rfl (by kernel_rfl) (by kernel_rfl) (by kernel_rfl) (fun _ _ _ h => by cases h.1) (Or.inl ⟨by rfl, ?_⟩) (by assumption) ?_
        rotate_left
        ·intro w hSw; (try dsimp only at hSw); go_simp <;> with_reducible rfl
        try simp only [Act.put, lz]
        refine wpAnyH_take (i := 3) (v := ?_) rfl (by kernel_rfl) (by kernel_rfl) (by kernel_rfl) (fun _ _ _ h => by cases h.1) (Or.inl ⟨by rfl, ?_⟩) (by assumption) ?_
        rotate_left
        ·intro w hSw; (try dsimp only at hSw); go_simp <;> with_reducible rfl
        try simp only [Act.put, lz]
        refine wpAnyH_take (i := 4) (v := ?_) rfl (by kernel_rfl) (by kernel_rfl) (by kernel_rfl) (fun _ _ _ h => by cases h.1) (Or.inl ⟨by rfl, ?_⟩) (by assumption) ?_
        rotate_left
        ·intro w hSw; (try dsimp only at hSw); go_simp <;> with_reducible rfl
        try simp only [Act.put, lz]
        refine wpAnyH_take (i := 5) (v := ?_) rfl (by kernel_rfl) (by kernel_rfl) (by kernel_rfl) (fun _ _ _ h => by cases h.1) (Or.inl ⟨by rfl, ?_⟩) (by assumption) ?_
        rotate_left
        ·intro w hSw; (try dsimp only at hSw); go_simp <;> with_reducible rfl
        try simp only [Act.put, lz]
        refine wpAnyH_take (i := 6) (v := ?_) rfl (by kernel_rfl) (by kernel_rfl) (by kernel_rfl) (fun _ _ _ h => by cases h.1) (Or.inl ⟨by rfl, ?_⟩) (by assumption) ?_
        rotate_left
        ·intro w hSw; (try dsimp only at hSw); go_simp <;> with_reducible rfl
        try simp only [Act.put, lz]
        refine wpAnyH_take (i := 7) (v := ?_) rfl (by kernel_rfl) (by kernel_rfl) (by kernel_rfl) (fun _ _ _ h => by cases h.1) (Or.inl ⟨by rfl, ?_⟩) (by assumption) ?_
        rotate_left
        ·intro w hSw; (try dsimp only at hSw); go_simp <;> with_reducible rfl
        try simp only [Act.put, lz]
        refine wpAnyH_take (i := 8) (v := ?_) rfl (by kernel_rfl) (by kernel_rfl) (by kernel_rfl) (fun _ _ _ h => by cases h.1) (Or.inl ⟨by rfl, ?_⟩) (by assumption) ?_
        rotate_left
        ·intro w hSw; (try dsimp only at hSw); go_simp <;> with_reducible rfl
        try simp only [Act.put, lz]
        refine wpAnyH_ready (rs := [9]) (by kernel_rfl) (by simp) ?_
        refine AllReadyH.cons rfl (fun K hK => ?_) AllReadyH.nil
        go_simp
        refine cJ.out.mono ?_
        rintro e wz ⟨za, zc, rfl, hzr, kz, hzb⟩
        (try go_wp2_with fail)
        refine hK.out _ _ (HC.out _ (KE.out.trans kz (by simp))) (fun hHeld => ?_)
        clear hK K
        try simp only [Act.put, lz]
        have KZ := hid (KE.out.trans kz (by simp))
        have hlz : Lot w.heap.size rb rd m2 wz := HLc.out.ck (CK.ofKp (KD.out.trans kz (by simp))) (by simp) (by simp)
        have hsz := KE.out.size
        obtain ⟨a4, c4, W6, hrun, hl4, k4, hn4⟩ := hlz.app ⟨za, zc, zl⟩ (rowLies hzr) KZ.out.size (fun k hk => ⟨by have := hzb k hk; omega, hzr.lt k (by rw [ownV]; exact hk), fun hm' => by have := hzb k hk; have := HLc.out.lt k hm'; have := KD.out.size; omega⟩) (by have := hm2.out.2; omega)
        obtain ⟨m4, hm4⟩ : ∃ m4, Hid (m2 ++ [(⟨za, zc, zl⟩ : Vs)] = m4) := ⟨_, rfl⟩
        rw [hm4.out] at hrun hl4
        dsimp only at hrun
        have KW6 : Kp [] w W6 := KZ.out.trans k4 (fun x hx => .inr (HLc.out.own x hx))
        have HF : Hid (Lot w.heap.size a4 c4 m4 W6 ∧ Kp [] w W6) := ⟨hl4, KW6⟩
        have hm5 : Hid (m4.map (·.l) = refJ ((L.take j).map (·.l)) (M.map (·.l)) lo ro ++ (((M.take (k + 1)).map (·.l)).filter (prJ lo ro xl)).map (xl ++ ·) ∧ m4.length ≤ 65536) := ⟨by
         rw [hfs.out, hpt.out, if_pos rfl, ← hm4.out, List.map_append, hm2.out.1, List.map_append, ← List.append_assoc, ← hzl.out]
         rfl, by rw [← hm4.out, List.length_append]; simp; omega⟩
        have sA := HC.out _ (KZ.out.alloc (.cells #[.slice za zl.length zc] 61))
        have s4 := HC.out _ KW6
        clear hlz hl4 k4 hn4 kz hzr hzb hsz KW6
        refine wpAnyH_ready (rs := [10]) (by kernel_rfl) (by simp) ?_
        refine AllReadyH.cons rfl (fun K hK => ?_) AllReadyH.nil
        go_simp
        (try go_wp2_with fail)
        refine hK.out _ _ (sA) (fun hHeld => ?_)
        clear hK K
        try simp only [Act.put, lz]
        refine wpAnyH_ready (rs := [11]) (by kernel_rfl) (by simp) ?_
        refine AllReadyH.cons rfl (fun K hK => ?_) AllReadyH.nil
        refine stepAppRun rfl _ _ 60 60 rfl _ _ _ rfl rfl hrun ?_
        refine hK.out _ _ s4 (fun hHeld => ?_)
        clear hK K
        try simp only [Act.put, lz]
        refine wpAnyH_take (i := 12) (v := ?_) rfl (by kernel_rfl) (by kernel_rfl) (by kernel_rfl) (fun _ _ _ h => by cases h.1) (Or.inl ⟨by rfl, ?_⟩) (by assumption) ?_
        rotate_left
        ·intro w hSw; (try dsimp only at hSw); go_simp <;> with_reducible rfl
        try simp only [Act.put, lz]
        refine wpAnyH_done (by kernel_rfl) ⟨rfl, ?_⟩ _
        clear hHeld sA s4 hrun
        go_wp2_with fail
        go_roundw
        case rel => exact ⟨k + 1, a4, c4, m4, by omega, by go_num, rfl, hm5, HF⟩
        case measure => simp [intOf]; omega
       ·have d3 : (C == 0) = false := beq_eq_false_iff_ne.2 hC0
        have hm5 : Hid (m2.map (·.l) = refJ ((L.take j).map (·.l)) (M.map (·.l)) lo ro ++ (((M.take (k + 1)).map (·.l)).filter (prJ lo ro xl)).map (xl ++ ·) ∧ m2.length ≤ 65536) := ⟨by rw [hfs.out, hpr.out, d3]; simpa using hm2.out.1, by have := hm2.out.2; omega⟩
        have HF : Hid (Lot w.heap.size rb rd m2 wc ∧ Kp [] w wc) := ⟨HLc.out, KC.out⟩
        have d5 : (C != 0) = true := by simpa using hC0
        clear hC0 d3
        go_wp2_with fail
        go_roundw
        case rel => exact ⟨k + 1, rb, rd, m2, by omega, by go_num, rfl, hm5, HF⟩
        case measure => simp [intOf]; omega
    ·have hke : k = M.length := by omega
     have hm5 : Hid (m2.map (·.l) = refJ ((L.take (j + 1)).map (·.l)) (M.map (·.l)) lo ro ∧ m2.length ≤ 65536) := ⟨by
      have h1 := hm2.out.1
      rw [hke, List.take_length] at h1
      rw [hsn.out, h1], by have := hm2.out.2; omega⟩
     have dj1 : ¬ (k : Int) < (M.length : Int) := by omega
     have dj2 : decide ((k : Int) < (M.length : Int)) = false := by simp; omega
     clear hke
     go_wp2_with fail
     go_roundw
     case rel => exact ⟨j + 1, rb, rd, m2, by omega, by go_num, rfl, hm5, Hk⟩
     case measure => simp [intOf]; omega
  ·have hmm : m.map (·.l) = refJ (L.map (·.l)) (M.map (·.l)) lo ro := by rw [hme.out.1, show j = L.length by omega, List.take_length]
   have dj1 : ¬ (j : Int) < (L.length : Int) := by omega
   have dj2 : decide ((j : Int) < (L.length : Int)) = false := by simp; omega
   have hmm' := hid hmm
   clear hmm
   go_wp2_with fail
   go_returns
   exact ⟨KW.out.trans H.out.2 (by simp), .inr ⟨by rw [← hmm'.out, List.length_map]; exact hme.out.2, ra, rc, m, rfl, H.out.1.mono KW.out.size, hmm'.out⟩⟩
end Go.Proofs.YtcgkkofmnajedaaGreatDoor
end

section
namespace Go.Proofs.YtcgkkofmnajedaaGreatDoor
open Go.RowKit Go.Hay
attribute [local go_sem] Oper.semAt_some
set_option linter.unusedVariables false
set_option linter.unusedSimpArgs false

/-- One more row, behind others: the row itself is not copied. -/
theorem appVs1 {ra : Option Addr} {rc : Nat} {L : List Vs} {w : World} (h : VsE.Row w (.slice ra L.length rc) L) (x : Vs) (hl : L.length ≤ 4000000000000) :
  ∃ a' c' W', (Builtin.append_ #[60, 60] 60 #[.slice ra L.length rc, .slice (some ⟨w.heap.size, 0, none⟩) 1 1]).run Tryz.prog (w.alloc (.cells #[.slice x.a x.l.length x.c] 61)) = .ok (.slice a' (L ++ [x]).length c') W' ∧ VsE.Row W' (.slice a' (L ++ [x]).length c') (L ++ [x]) ∧ Kp (blk ra) w W' ∧ ∀ k ∈ blk a', k ∈ blk ra ∨ w.heap.size ≤ k := by
 obtain ⟨A1, hA1⟩ : ∃ A1, w.alloc (.cells #[.slice x.a x.l.length x.c] 61) = A1 := ⟨_, rfl⟩
 have kA1 : Kp [] w A1 := by rw [← hA1]; exact (Kp.refl _ _).alloc _
 have bx1 : Bn A1 w.heap.size (VsE.c x) := by rw [← hA1]; exact Bn.new w (VsE.c x) _
 have hs1 : VsE.See A1 (some ⟨w.heap.size, 0, none⟩) [x] := .inr ⟨w.heap.size, 0, rfl, fun j u hu => by rw [Nat.zero_add]; exact bx1.get j u (by simpa [El.cs] using hu)⟩
 obtain ⟨i0, hi, hz0', hz1', hz2'⟩ := infoVs
 have hsr := hs1.src (P := Tryz.prog) Tryz.underlying60 1
 obtain ⟨v', A2, hrun, hrow2, k2, hn2⟩ := run_appendG (E := VsE) (P := Tryz.prog) A1 60 60 60 61 i0 _ 24 Tryz.underlying60 hi hz0' hz1' hz2' rfl (.slice ra L.length rc) L (h.keptNew kA1) _ [x] hsr (by simp only [List.length_cons, List.length_nil]; omega) (by simp only [List.length_cons, List.length_nil]; omega)
 obtain ⟨a', c', rfl, _⟩ := hrow2.see
 simp only [ownV] at k2 hn2
 rw [hA1]
 have z1 := kA1.size
 exact ⟨a', c', A2, hrun, hrow2, (kA1.mono (by simp)).trans k2 (fun j hj => .inl hj), fun k hk => by
  rcases hn2 k hk with e | e
  ·exact .inl e
  ·exact .inr (by omega)⟩
/-- Rows that were gathered, and are somebody else's. -/
def RefP (L : List Vs) (w : World) (e : Ending) (w' : World) : Prop := ∃ a c, e = .returned (.slice a L.length c) ∧ VsE.Row w' (.slice a L.length c) L ∧ Kp [] w w' ∧ ∀ k ∈ blk a, w.heap.size ≤ k
theorem filter_snoc {α : Type} (p : α → Bool) (L : List α) (j : Nat) (hj : j < L.length) : (L.take (j + 1)).filter p = (L.take j).filter p ++ (if p L[j] then [L[j]] else []) := by
 rw [List.take_succ_eq_append_getElem hj, List.filter_append]
 by_cases h : p L[j] <;> simp [h]
set_option maxHeartbeats 8000000 in
set_option maxRecDepth 100000 in
theorem rFilter (a : Option Addr) (c : Nat) (L : List Vs) (ta : Option Addr) (tc : Nat) (ts : List Tm) (w : World) (hs : VsE.See w a L) (hx : ∀ x ∈ L, x.lies w) (ht : TmE.See w ta ts) (hl : L.length ≤ 4000000000000) (htl : ts.length ≤ 3000000000000) (hr : ∀ x ∈ L, x.l.length ≤ 1800000000000) :
  Calls Tryz.prog 62 #[.slice a L.length c, .slice ta ts.length tc] w (RefP (L.filter fun x => allT ts x.l) w) := by
 have HS := hid hs
 have HX := hid hx
 have HT := hid ht
 have HR := hid hr
 obtain ⟨pf, hpf⟩ : ∃ p, Hid ((fun x : Vs => allT ts x.l) = p) := ⟨_, rfl⟩
 rw [hpf.out]
 have H0 : Hid (VsE.Row w (.slice none 0 0) [] ∧ Kp [] w w ∧ ∀ k ∈ blk none, w.heap.size ≤ k) := ⟨.inl ⟨rfl, rfl⟩, Kp.refl _ _, by simp [blk]⟩
 clear hs hx ht hr
 go_enter Tryz.func62, Tryz.ntmps62
 go_wp2_with fail
 go_loopw [5, 6] (fun v5 i wr => ∃ (j : Nat) (ra : Option Addr) (rc : Nat) (m : List Vs), j ≤ L.length ∧ i = .int .i64 (j : Int) ∧ v5 = .slice ra m.length rc ∧ Hid (m = (L.take j).filter pf) ∧ Hid (VsE.Row wr (.slice ra m.length rc) m ∧ Kp [] w wr ∧ ∀ k ∈ blk ra, w.heap.size ≤ k)) (fun _ i _ => L.length - (intOf i).toNat)
 case atStart => exact ⟨0, none, 0, [], Nat.zero_le _, rfl, rfl, rfl, H0⟩
 case round =>
  obtain ⟨j, ra, rc, m, hj, rfl, rfl, hm, H⟩ := hrel
  clear H0
  by_cases hlt : j < L.length
  ·have hxj : L[j]? = some L[j] := by simp [hlt]
   obtain ⟨g, o, ea, c0⟩ := vsAt HS.out hxj
   have cg := kpAt H.out.2.1 c0
   have hli := (HX.out L[j] (List.getElem_mem hlt)).ck (CK.ofKp H.out.2.1) (by simp)
   have hln := HR.out L[j] (List.getElem_mem hlt)
   have hsn := hid (filter_snoc pf L j hlt)
   have hpx : Hid (pf L[j] = allT ts L[j].l) := by show _ = _; rw [← hpf.out]
   obtain ⟨x, hx⟩ : ∃ x, Hid (L[j] = x) := ⟨L[j], rfl⟩
   rw [hx.out] at cg hli hln hsn hpx
   obtain ⟨xa, xc, xl⟩ := x
   dsimp only at cg hln hpx
   have hml : m.length ≤ 4000000000000 := by rw [hm.out]; have := List.length_filter_le pf (L.take j); simp at this; omega
   have cA := hid (rAll ta xa tc xc ts xl wr (ckSee (CK.ofKp H.out.2.1) HT.out (by simp)) (seeV.2 hli.see) (by omega) (by omega))
   have hli' := hid hli
   have i1 : (0 : Int) ≤ (j : Int) := by omega
   have i2 : (j : Int) < (L.length : Int) := by omega
   have i3 : (j : Int) + 1 ≤ 9223372036854775807 := by omega
   obtain ⟨B, hB⟩ : ∃ B, Hid (allT ts xl = B) := ⟨_, rfl⟩
   rw [hB.out] at cA hpx
   subst ea
   clear c0 hli hxj
   go_wp2_with fail
   refine cA.out.mono ?_
   rintro e wd ⟨rfl, kd⟩
   have KD := hid (H.out.2.1.trans kd (by simp))
   have cgd := kpAt kd cg
   have hrd := hid (H.out.1.keptNew kd)
   clear cA kd cg
   cases B with
   | true =>
    obtain ⟨a4, c4, W4, hrun, hr4, k4, hn4⟩ := appVs1 hrd.out ⟨xa, xc, xl⟩ hml
    obtain ⟨m4, hm4⟩ : ∃ m4, Hid (m ++ [(⟨xa, xc, xl⟩ : Vs)] = m4) := ⟨_, rfl⟩
    rw [hm4.out] at hrun hr4
    dsimp only at hrun
    have HF : Hid (VsE.Row W4 (.slice a4 m4.length c4) m4 ∧ Kp [] w W4 ∧ ∀ k ∈ blk a4, w.heap.size ≤ k) := ⟨hr4, KD.out.trans k4 (fun x hx => .inr (H.out.2.2 x hx)), fun k hk => by
     rcases hn4 k hk with e | e
     ·exact H.out.2.2 k e
     ·have := KD.out.size; omega⟩
    have hm5 : Hid (m4 = (L.take (j + 1)).filter pf) := by show _ = _; rw [hsn.out, hpx.out, ← hm4.out, hm.out]; rfl
    clear hr4 k4 hn4
    go_wp2_with (first | (refine wpAppRunY rfl _ _ 60 60 rfl _ _ _ rfl rfl hrun ?_) | fail)
    go_roundw
    case rel => exact ⟨j + 1, a4, c4, m4, by omega, by go_num, rfl, hm5, HF⟩
    case measure => simp [intOf]; omega
   | false =>
    have hm5 : Hid (m = (L.take (j + 1)).filter pf) := by show _ = _; rw [hsn.out, hpx.out, ← hm.out]; simp
    have HF : Hid (VsE.Row wd (.slice ra m.length rc) m ∧ Kp [] w wd ∧ ∀ k ∈ blk ra, w.heap.size ≤ k) := ⟨hrd.out, KD.out, H.out.2.2⟩
    go_wp2_with fail
    go_roundw
    case rel => exact ⟨j + 1, ra, rc, m, by omega, by go_num, rfl, hm5, HF⟩
    case measure => simp [intOf]; omega
  ·have hmm : m = L.filter pf := by rw [hm.out, show j = L.length by omega, List.take_length]
   have dj1 : ¬ (j : Int) < (L.length : Int) := by omega
   have dj2 : decide ((j : Int) < (L.length : Int)) = false := by simp; omega
   have hmm' := hid hmm
   clear hmm
   go_wp2_with fail
   go_ret
   rw [← hmm'.out]
   exact ⟨ra, rc, rfl, H.out.1, H.out.2.1, H.out.2.2⟩
set_option maxHeartbeats 8000000 in
set_option maxRecDepth 100000 in
theorem rProject (a : Option Addr) (c : Nat) (L : List Vs) (pa : Option Addr) (pc : Nat) (ps : List Int) (w : World) (hs : VsE.See w a L) (hx : ∀ x ∈ L, x.lies w) (hp : IntE.See w pa ps) (hl : L.length ≤ 4000000000000) (hpl : ps.length ≤ 3000000000000) (hr : ∀ x ∈ L, x.l.length ≤ 1800000000000) :
  Calls Tryz.prog 64 #[.slice a L.length c, .slice pa ps.length pc] w (LotP ((L.map (·.l)).map fun l => pickV l ps) w) := by
 have HS := hid hs
 have HX := hid hx
 have HP := hid hp
 have HR := hid hr
 obtain ⟨pf, hpf⟩ : ∃ p, Hid ((fun x : Vs => pickV x.l ps) = p) := ⟨_, rfl⟩
 have hpe : (L.map (·.l)).map (fun l => pickV l ps) = L.map pf := by rw [List.map_map, ← hpf.out]; rfl
 rw [hpe]
 have H0 : Hid (Lot w.heap.size none 0 [] w ∧ Kp [] w w) := ⟨Lot.nil _ _, Kp.refl _ _⟩
 clear hs hx hp hr hpe
 go_enter Tryz.func64, Tryz.ntmps64
 go_wp2_with fail
 go_loopw [5, 6] (fun v5 i wr => ∃ (j : Nat) (ra : Option Addr) (rc : Nat) (m : List Vs), j ≤ L.length ∧ i = .int .i64 (j : Int) ∧ v5 = .slice ra m.length rc ∧ Hid (m.map (·.l) = (L.take j).map pf) ∧ Hid (Lot w.heap.size ra rc m wr ∧ Kp [] w wr)) (fun _ i _ => L.length - (intOf i).toNat)
 case atStart => exact ⟨0, none, 0, [], Nat.zero_le _, rfl, rfl, rfl, H0⟩
 case round =>
  obtain ⟨j, ra, rc, m, hj, rfl, rfl, hm, H⟩ := hrel
  clear H0
  by_cases hlt : j < L.length
  ·have hxj : L[j]? = some L[j] := by simp [hlt]
   obtain ⟨g, o, ea, c0⟩ := vsAt HS.out hxj
   have cg := kpAt H.out.2 c0
   have hli := (HX.out L[j] (List.getElem_mem hlt)).ck (CK.ofKp H.out.2) (by simp)
   have hln := HR.out L[j] (List.getElem_mem hlt)
   have hsn : Hid ((L.take (j + 1)).map pf = (L.take j).map pf ++ [pf L[j]]) := by show _ = _; rw [List.take_succ_eq_append_getElem hlt, List.map_append]; rfl
   have hpx : Hid (pf L[j] = pickV L[j].l ps) := by show _ = _; rw [← hpf.out]
   obtain ⟨x, hx⟩ : ∃ x, Hid (L[j] = x) := ⟨L[j], rfl⟩
   rw [hx.out] at cg hli hln hsn hpx
   obtain ⟨xa, xc, xl⟩ := x
   dsimp only at cg hln hpx
   have hml : m.length ≤ 4000000000000 := by have := congrArg List.length hm.out; simp at this; omega
   have cA := hid (rPick xa xc xl pa pc ps wr hli.see (by omega) (ckSee (CK.ofKp H.out.2) HP.out (by simp)) hpl)
   have i1 : (0 : Int) ≤ (j : Int) := by omega
   have i2 : (j : Int) < (L.length : Int) := by omega
   have i3 : (j : Int) + 1 ≤ 9223372036854775807 := by omega
   obtain ⟨B, hB⟩ : ∃ B, Hid (pickV xl ps = B) := ⟨_, rfl⟩
   rw [hB.out] at cA hpx
   subst ea
   clear c0 hli hxj
   go_wp2_with fail
   refine cA.out.mono ?_
   rintro e wd ⟨ya, yc, rfl, hyr, kd, hyb⟩
   have KD := hid (H.out.2.trans kd (by simp))
   have hzs := KD.out.size
   have hld := H.out.1.ck (CK.ofKp kd) (by simp) (by simp)
   obtain ⟨a4, c4, W4, hrun, hl4, k4, hn4⟩ := hld.app ⟨ya, yc, B⟩ (rowLies hyr) (by omega) (fun k hk => ⟨by have := hyb k hk; have := H.out.2.size; omega, hyr.lt k (by rw [ownV]; exact hk), fun hm' => by have := hyb k hk; have := H.out.1.lt k hm'; omega⟩) hml
   obtain ⟨m4, hm4⟩ : ∃ m4, Hid (m ++ [(⟨ya, yc, B⟩ : Vs)] = m4) := ⟨_, rfl⟩
   rw [hm4.out] at hrun hl4
   dsimp only at hrun
   have HF : Hid (Lot w.heap.size a4 c4 m4 W4 ∧ Kp [] w W4) := ⟨hl4, KD.out.trans k4 (fun x hx => .inr (H.out.1.own x hx))⟩
   have hm5 : Hid (m4.map (·.l) = (L.take (j + 1)).map pf) := by show _ = _; rw [hsn.out, hpx.out, ← hm4.out, List.map_append, hm.out]; rfl
   clear cA kd hyr hyb hld hl4 k4 hn4 hzs
   go_wp2_with (first | (refine wpAppRunY rfl _ _ 60 60 rfl _ _ _ rfl rfl hrun ?_) | fail)
   go_roundw
   case rel => exact ⟨j + 1, a4, c4, m4, by omega, by go_num, rfl, hm5, HF⟩
   case measure => simp [intOf]; omega
  ·have hmm : m.map (·.l) = L.map pf := by rw [hm.out, show j = L.length by omega, List.take_length]
   have dj1 : ¬ (j : Int) < (L.length : Int) := by omega
   have dj2 : decide ((j : Int) < (L.length : Int)) = false := by simp; omega
   have hmm' := hid hmm
   clear hmm
   go_wp2_with fail
   go_ret
   exact ⟨ra, rc, m, rfl, H.out.1, hmm'.out, H.out.2⟩
end Go.Proofs.YtcgkkofmnajedaaGreatDoor
end

section
namespace Go.Proofs.YtcgkkofmnajedaaGreatDoor
open Go.RowKit Go.Hay
set_option linter.unusedVariables false
set_option linter.unusedSimpArgs false

def aggS (op col : Int) (out : Val) (l : List Val) : Val := if op = 1 then sumS col out l else if op = 2 then utmS col (-1) out l else if op = 3 then utmS col 1 out l else out
theorem fold_same {f g : Val → List Val → Val} (h : ∀ o l, f o l = g o l) (R : List (List Val)) (o : Val) : R.foldl f o = R.foldl g o := by
 have : f = g := by funext o l; exact h o l
 rw [this]
theorem fold_id (R : List (List Val)) (o : Val) : R.foldl (fun o _ => o) o = o := by
 induction R with
 | nil => rfl
 | cons l R ih => exact ih
theorem tell_fold (op col : Int) (h0 : op ≠ 0) (R : List (List Val)) : tellV R (op, col) = R.foldl (aggS op col) nulV := by
 unfold tellV
 simp only [h0, if_false]
 by_cases h1 : op = 1
 ·rw [if_pos h1]
  exact fold_same (fun o l => by unfold aggS; rw [if_pos h1]) R nulV
 rw [if_neg h1]
 by_cases h2 : op = 2
 ·rw [if_pos h2]
  exact fold_same (fun o l => by unfold aggS; rw [if_neg h1, if_pos h2]) R nulV
 rw [if_neg h2]
 by_cases h3 : op = 3
 ·rw [if_pos h3]
  exact fold_same (fun o l => by unfold aggS; rw [if_neg h1, if_neg h2, if_pos h3]) R nulV
 rw [if_neg h3]
 rw [fold_same (g := fun o _ => o) (fun o l => by unfold aggS; rw [if_neg h1, if_neg h2, if_neg h3]) R nulV, fold_id]
/-- Three boxes: what is asked, what is gathered, what is handed back. -/
structure Bx3 (w : World) (q3 q4 q5 : Nat) (op col : Int) (v : Val) (W : World) : Prop where
 bx : Bx2 w q4 q5 v W
 ask : Bn W q3 [.int .i64 op, .int .i64 col]
 n4 : q3 ≠ q4
 n5 : q3 ≠ q5
theorem Bx3.kept {w : World} {q3 q4 q5 : Nat} {op col : Int} {v : Val} {W W' : World} (h : Bx3 w q3 q4 q5 op col v W) (k : Kp [] W W') : Bx3 w q3 q4 q5 op col v W' := ⟨h.bx.kept k, h.ask.kept k, h.n4, h.n5⟩
theorem Bx3.put {w : World} {q3 q4 q5 : Nat} {op col : Int} {v : Val} {W : World} (h : Bx3 w q3 q4 q5 op col v W) (x : Val) : ∃ W2, (((W.setCell ⟨q5, 0, none⟩ (.int .i64 x.k)).setCell ⟨q5, 1, none⟩ (.bool x.b)).setCell ⟨q5, 2, none⟩ (.int .i64 x.n)).setCell ⟨q5, 3, none⟩ (.string x.t) = W2 ∧ Bx3 w q3 q4 q5 op col x W2 ∧ Kp [q5] W W2 := by
 obtain ⟨W2, e, b, k, k2⟩ := putV4 h.bx.out h.bx.l5 h.bx.kp x
 exact ⟨W2, e, ⟨⟨b, h.bx.res.keptS k2 (by simp [h.bx.ne]) (h.bx.res.lt (by simp)), k, h.bx.l4, h.bx.l5, h.bx.ne⟩, h.ask.keptS k2 (by simp [h.n5]) (h.ask.lt (by simp)), h.n4, h.n5⟩, k2⟩
end Go.Proofs.YtcgkkofmnajedaaGreatDoor
end

section
namespace Go.Proofs.YtcgkkofmnajedaaGreatDoor
open Go.RowKit Go.Hay
attribute [local go_sem] Oper.semAt_some
set_option linter.unusedVariables false
set_option linter.unusedSimpArgs false

theorem foldR_snoc {f : Val → List Val → Val} {L : List Vs} {j : Nat} (h : j < L.length) : ((L.take (j + 1)).map (·.l)).foldl f nulV = f (((L.take j).map (·.l)).foldl f nulV) L[j].l := fold_snoc (f := f) (g := fun x : Vs => x.l) h
set_option maxHeartbeats 64000000 in
set_option maxRecDepth 100000 in
theorem rAgg (a : Option Addr) (c : Nat) (L : List Vs) (op col : Int) (w : World) (hs : VsE.See w a L) (hx : ∀ x ∈ L, x.lies w) (hl : L.length ≤ 4000000000000) :
  Calls Tryz.prog 116 #[.slice a L.length c, .agg #[.int .i64 op, .int .i64 col]] w fun e w' => e = .returned (.agg #[.int .i64 (tellV (L.map (·.l)) (op, col)).k, .bool (tellV (L.map (·.l)) (op, col)).b, .int .i64 (tellV (L.map (·.l)) (op, col)).n, .string (tellV (L.map (·.l)) (op, col)).t]) ∧ Kp [] w w' := by
 obtain ⟨w1, hw1, k1, b1⟩ : ∃ w1, w.alloc (.cells #[.int .i64 op, .int .i64 col] 102) = w1 ∧ Kp [] w w1 ∧ Bn w1 w.heap.size [.int .i64 op, .int .i64 col] := ⟨_, rfl, (Kp.refl _ _).alloc _, Bn.new w _ _⟩
 obtain ⟨w2, hw2, b2, k2, z2⟩ := addE w1 nulV
 obtain ⟨q3, hq3⟩ : ∃ q, w.heap.size = q := ⟨_, rfl⟩
 obtain ⟨q4, hq4⟩ : ∃ q, w1.heap.size = q := ⟨_, rfl⟩
 rw [hq3] at b1
 rw [hq4] at b2 z2
 have z1 := b1.lt (by simp)
 have b12 := b1.kept k2
 have a0 := b12.get 0 _ rfl
 have a1 := b12.get 1 _ rfl
 have r0 := b2.get 0 _ rfl; have r1 := b2.get 1 _ rfl; have r2 := b2.get 2 _ rfl; have r3 := b2.get 3 _ rfl
 have s0 := b2.free 0; have s1 := b2.free 1; have s2 := b2.free 2; have s3 := b2.free 3
 have K2 := hid (k1.trans k2 (by simp))
 have HS := hid hs
 have HX := hid hx
 have HQ := hid (And.intro hq3 (And.intro hq4 z1))
 obtain ⟨Z, hZ⟩ : ∃ Z, Hid (tellV (L.map (·.l)) (op, col) = Z) := ⟨_, hid rfl⟩
 rw [hZ.out]
 by_cases h0 : op = 0
 ·have d0 : (op == 0) = true := by simp [h0]
  have hv : Hid (Z = ⟨2, false, (L.length : Int), ⟨#[]⟩⟩) := hid (by rw [← hZ.out]; simp [tellV, h0])
  obtain ⟨W2, eW2, bW, kW, _⟩ := putV4 b2 (by have := k1.size; omega) K2.out ⟨2, false, (L.length : Int), ⟨#[]⟩⟩
  try dsimp only at eW2 bW
  have v0 := bW.get 0 _ rfl; have v1 := bW.get 1 _ rfl; have v2 := bW.get 2 _ rfl; have v3 := bW.get 3 _ rfl
  have KW := hid kW
  rw [hv.out]
  clear h0 hs hx b1 b2 b12 k1 k2 bW kW hv hZ z1 z2
  go_enter Tryz.func116, Tryz.ntmps116
  go_wp2_with fail
  exact bodyPost_ret (v := .agg #[.int .i64 2, .bool false, .int .i64 (L.length : Int), .string ⟨#[]⟩]) (by simp [results, Tryz.results116, go_sem, v0, v1, v2, v3]) rfl ⟨rfl, KW.out⟩
 have d0 : (op == 0) = false := beq_eq_false_iff_ne.2 h0
 have hfold := hid (tell_fold op col h0 (L.map (·.l)))
 obtain ⟨q5, B1, B2, eq5, eB1, bb1, eB2, bb2, kB, zB⟩ := boxV4Y w2 nulV
 have m0 := bb1.get 0 _ rfl; have m1 := bb1.get 1 _ rfl; have m2 := bb1.get 2 _ rfl; have m3 := bb1.get 3 _ rfl
 have f0 := bb1.free 0; have f1 := bb1.free 1; have f2 := bb1.free 2; have f3 := bb1.free 3
 unfold nulV at eB2 bb2
 dsimp only at eB2 bb2
 have HB0 : Hid (Bx3 w q3 q4 q5 op col (((L.take 0).map (·.l)).foldl (aggS op col) nulV) B2) := hid ⟨⟨bb2, b2.kept kB, K2.out.trans kB (by simp), by have := k1.size; omega, by have := K2.out.size; omega, by omega⟩, b12.kept kB, by omega, by omega⟩
 clear hs hx b1 b2 b12 k1 k2 bb1 bb2 kB zB z1 z2 h0
 go_enter Tryz.func116, Tryz.ntmps116
 go_wp2_with fail
 clear m0 m1 m2 m3 f0 f1 f2 f3 r0 r1 r2 r3 s0 s1 s2 s3 a0 a1
 go_loopw [6] (fun i wr => ∃ j : Nat, j ≤ L.length ∧ i = .int .i64 (j : Int) ∧ Hid (Bx3 w q3 q4 q5 op col (((L.take j).map (·.l)).foldl (aggS op col) nulV) wr)) (fun i _ => L.length - (intOf i).toNat)
 case atStart => exact ⟨0, Nat.zero_le _, rfl, HB0⟩
 case round =>
  obtain ⟨j, hj, rfl, H⟩ := hrel
  clear HB0
  by_cases hlt : j < L.length
  ·have hsn := hid (foldR_snoc (f := aggS op col) hlt)
   obtain ⟨g, o, ea, c0⟩ := vsAt HS.out (k := j) (x := L[j]) (by simp [hlt])
   have hxl := hid (HX.out L[j] (List.getElem_mem hlt))
   obtain ⟨x, hxe⟩ : ∃ x, Hid (L[j] = x) := ⟨_, hid rfl⟩
   rw [hxe.out] at c0 hxl hsn
   obtain ⟨xa, xc, xl⟩ := x
   have hxc := hxl.out.cap; have hxm := hxl.out.most
   unfold maxLen at hxm
   dsimp only at c0 hsn hxc hxm
   have hS : Hid (∀ W', Kp [] wr W' → W'.cell? ⟨g, o + j, none⟩ = some (.slice xa xl.length xc) ∧ W'.cell? ⟨q3, 1, none⟩ = some (.int .i64 col)) := hid (fun W' k => ⟨kpAt (H.out.bx.kp.trans k (by simp)) c0, (H.out.ask.kept k).get 1 _ rfl⟩)
   obtain ⟨⟨vk, vb, vn, vt⟩, hv⟩ : ∃ y, Hid (vAt xl col = y) := ⟨_, hid rfl⟩
   have cA : Hid (∀ W', Kp [] wr W' → Calls Tryz.prog 93 #[.slice xa xl.length xc, .int .i64 col] W' fun e w' => e = .returned (.agg #[.int .i64 vk, .bool vb, .int .i64 vn, .string vt]) ∧ Kp [] W' w') := hid (fun W' k => by
    have h1 := rAtE xa xc xl col W' (hxl.out.see.kept (H.out.bx.kp.trans k (by simp))) (by omega)
    rw [hv.out] at h1
    exact h1)
   have i1 : (0 : Int) ≤ (j : Int) := by omega
   have i2 : (j : Int) < (L.length : Int) := by omega
   have i3 : (j : Int) + 1 ≤ 9223372036854775807 := by omega
   subst ea
   clear c0
   go_upto_region 7 with fail
   go_cut [7] from 15 to 74 (fun v7 wx => ∃ q7, v7 = .pointer (some ⟨q7, 0, none⟩) ∧ Hid (Bn wx q7 [.int .i64 vk, .bool vb, .int .i64 vn, .string vt] ∧ Kp [] wr wx ∧ wr.heap.size ≤ q7))
   case first =>
    refine wp_noPanicY ?_
    refine wp_region_held_drew (S := fun W' => W'.cell? ⟨g, o + j, none⟩ = some (.slice xa xl.length xc) ∧ W'.cell? ⟨q3, 1, none⟩ = some (.int .i64 col)) (by kernel_rfl) (hS.out _ (Kp.refl _ _).drew) (fun hHeld => ?_)
    have KD : Hid (Kp [] wr wr.drew) := hid (Kp.refl _ _).drew
    generalize wr.drew = wd at *
    refine wpAnyH_take (i := 0) (v := ?_) rfl (by kernel_rfl) (by kernel_rfl) (by kernel_rfl) (fun _ _ _ h => by cases h.1) (Or.inl ⟨by rfl, ?_⟩) (by assumption) ?_
    rotate_left
    ·intro w hSw; (try dsimp only at hSw); go_simp <;> with_reducible rfl
    try simp only [Act.put, lz]
    refine wpAnyH_take (i := 1) (v := ?_) rfl (by kernel_rfl) (by kernel_rfl) (by kernel_rfl) (fun _ _ _ h => by cases h.1) (Or.inl ⟨by rfl, ?_⟩) (by assumption) ?_
    rotate_left
    ·intro w hSw; (try dsimp only at hSw); go_simp <;> with_reducible rfl
    try simp only [Act.put, lz]
    refine wpAnyH_take (i := 2) (v := ?_) rfl (by kernel_rfl) (by kernel_rfl) (by kernel_rfl) (fun _ _ _ h => by cases h.1) (Or.inl ⟨by rfl, ?_⟩) (by assumption) ?_
    rotate_left
    ·intro w hSw; (try dsimp only at hSw); go_simp <;> with_reducible rfl
    try simp only [Act.put, lz]
    refine wpAnyH_take (i := 3) (v := ?_) rfl (by kernel_rfl) (by kernel_rfl) (by kernel_rfl) (fun _ _ _ h => by cases h.1) (Or.inl ⟨by rfl, ?_⟩) (by assumption) ?_
    rotate_left
    ·intro w hSw; (try dsimp only at hSw); go_simp <;> with_reducible rfl
    try simp only [Act.put, lz]
    refine wpAnyH_take (i := 4) (v := ?_) rfl (by kernel_rfl) (by kernel_rfl) (by kernel_rfl) (fun _ _ _ h => by cases h.1) (Or.inl ⟨by rfl, ?_⟩) (by assumption) ?_
    rotate_left
    ·intro w hSw; (try dsimp only at hSw); go_simp <;> with_reducible rfl
    try simp only [Act.put, lz]
    refine wpAnyH_take (i := 5) (v := ?_) rfl (by kernel_rfl) (by kernel_rfl) (by kernel_rfl) (fun _ _ _ h => by cases h.1) (Or.inl ⟨by rfl, ?_⟩) (by assumption) ?_
    rotate_left
    ·intro w hSw; (try dsimp only at hSw); go_simp <;> with_reducible rfl
    try simp only [Act.put, lz]
    refine wpAnyH_ready (rs := [6, 7]) (by kernel_rfl) (by simp) ?_
    refine AllReadyH.cons rfl (fun K hK => ?_) (AllReadyH.cons rfl (fun K hK => ?_) AllReadyH.nil)
    ·go_simp
     refine (cA.out wd KD.out).mono ?_
     rintro e we ⟨rfl, ke⟩
     have KE := hid (KD.out.trans ke (by simp))
     obtain ⟨q7, V1, V2, eq7, eV1, bv1, eV2, bv2, kV, zV⟩ := boxV4Y we ⟨vk, vb, vn, vt⟩
     have u0 := bv1.get 0 _ rfl; have u1 := bv1.get 1 _ rfl; have u2 := bv1.get 2 _ rfl; have u3 := bv1.get 3 _ rfl
     have g0 := bv1.free 0; have g1 := bv1.free 1; have g2 := bv1.free 2; have g3 := bv1.free 3
     try dsimp only at eV2
     have kAl : Kp [] we V1 := by rw [← eV1]; exact (Kp.refl _ _).alloc _
     have hfin : Hid (Bn V2 q7 [.int .i64 vk, .bool vb, .int .i64 vn, .string vt] ∧ Kp [] wr V2 ∧ wr.heap.size ≤ q7) := hid ⟨bv2, KE.out.trans kV (by simp), by have := KE.out.size; omega⟩
     (try go_wp2_with fail)
     refine hK.out _ _ (hS.out we KE.out) (fun hHeld => ?_)
     clear hK K
     try simp only [Act.put, lz]
     refine wpAnyH_ready (rs := [7]) (by kernel_rfl) (by simp) ?_
     refine AllReadyH.cons rfl (fun K hK => ?_) AllReadyH.nil
     go_simp
     (try go_wp2_with fail)
     refine hK.out _ _ (hS.out _ (KE.out.trans kAl (by simp))) (fun hHeld => ?_)
     clear hK K
     try simp only [Act.put, lz]
     refine wpAnyH_ready (rs := [8]) (by kernel_rfl) (by simp) ?_
     refine AllReadyH.cons rfl (fun K hK => ?_) AllReadyH.nil
     go_simp
     (try go_wp2_with fail)
     refine hK.out _ _ (hS.out _ (KE.out.trans kV (by simp))) (fun hHeld => ?_)
     clear hK K
     try simp only [Act.put, lz]
     refine wpAnyH_done (by kernel_rfl) ⟨rfl, ?_⟩ _
     clear hHeld
     go_wp2_with fail
     go_meet
     exact ⟨q7, rfl, hfin⟩
    ·obtain ⟨B1, eB1, bb, kB, zB⟩ := addE wd nulV
     obtain ⟨q7, eq7⟩ : ∃ q, wd.heap.size = q := ⟨_, rfl⟩
     rw [eq7] at bb zB
     have KB := hid (KD.out.trans kB (by simp))
     have BB := hid bb
     go_simp
     (try go_wp2_with fail)
     refine hK.out _ _ (hS.out _ KB.out) (fun hHeld => ?_)
     clear hK K
     try simp only [Act.put, lz]
     refine wpAnyH_ready (rs := [6]) (by kernel_rfl) (by simp) ?_
     refine AllReadyH.cons rfl (fun K hK => ?_) AllReadyH.nil
     go_simp
     refine (cA.out B1 KB.out).mono ?_
     rintro e we ⟨rfl, ke⟩
     have KE := hid (KB.out.trans ke (by simp))
     (try go_wp2_with fail)
     refine hK.out _ _ (hS.out we KE.out) (fun hHeld => ?_)
     clear hK K
     try simp only [Act.put, lz]
     have hq7 : wr.heap.size ≤ q7 := by have := KD.out.size; omega
     obtain ⟨V2, eV2, bv2, kV, _⟩ := putV4 (BB.out.kept ke) hq7 KE.out ⟨vk, vb, vn, vt⟩
     have bz := BB.out.kept ke
     have u0 := bz.get 0 _ rfl; have u1 := bz.get 1 _ rfl; have u2 := bz.get 2 _ rfl; have u3 := bz.get 3 _ rfl
     have g0 := bz.free 0; have g1 := bz.free 1; have g2 := bz.free 2; have g3 := bz.free 3
     try dsimp only at eV2
     have hfin : Hid (Bn V2 q7 [.int .i64 vk, .bool vb, .int .i64 vn, .string vt] ∧ Kp [] wr V2 ∧ wr.heap.size ≤ q7) := hid ⟨bv2, kV, hq7⟩
     clear bz bv2
     refine wpAnyH_ready (rs := [8]) (by kernel_rfl) (by simp) ?_
     refine AllReadyH.cons rfl (fun K hK => ?_) AllReadyH.nil
     go_simp
     (try go_wp2_with fail)
     refine hK.out _ _ (hS.out _ kV) (fun hHeld => ?_)
     clear hK K
     try simp only [Act.put, lz]
     refine wpAnyH_done (by kernel_rfl) ⟨rfl, ?_⟩ _
     clear hHeld
     go_wp2_with fail
     go_meet
     exact ⟨q7, rfl, hfin⟩
   case rest =>
    obtain ⟨q7, rfl, hvb⟩ := hcut
    have HB0' := H.out.kept hvb.out.2.1
    obtain ⟨⟨ok, ob, on, ot⟩, ho⟩ : ∃ y, Hid (((L.take j).map (·.l)).foldl (aggS op col) nulV = y) := ⟨_, hid rfl⟩
    rw [ho.out] at HB0' hsn
    obtain ⟨NX, hNX⟩ : ∃ y, Hid ((((L.take (j + 1)).map (·.l)).foldl (aggS op col) nulV) = y) := ⟨_, hid rfl⟩
    rw [hNX.out] at hsn
    have HB := hid HB0'
    have y0 := hvb.out.1.get 0 _ rfl; have y1 := hvb.out.1.get 1 _ rfl; have y2 := hvb.out.1.get 2 _ rfl; have y3 := hvb.out.1.get 3 _ rfl
    have t0 := HB.out.bx.out.get 0 _ rfl; have t1 := HB.out.bx.out.get 1 _ rfl; have t2 := HB.out.bx.out.get 2 _ rfl; have t3 := HB.out.bx.out.get 3 _ rfl
    have g0 := HB.out.bx.out.free 0; have g1 := HB.out.bx.out.free 1; have g2 := HB.out.bx.out.free 2; have g3 := HB.out.bx.out.free 3
    have a0 := HB.out.ask.get 0 _ rfl; have a1 := HB.out.ask.get 1 _ rfl
    try dsimp only at t0 t1 t2 t3
    have hq57 : Hid (¬ q7 = q5) := hid (by have := H.out.bx.out.lt (by simp); have := hvb.out.2.2; omega)
    clear HB0' hS cA
    by_cases h1 : op = 1
    ·have d1 : (op == 1) = true := by simp [h1]
     have d2 : (op == 2) = false := by simp [h1]
     have d3 : (op == 3) = false := by simp [h1]
     have hsn2 := hsn.out
     unfold aggS at hsn2
     rw [if_pos h1] at hsn2
     unfold sumS at hsn2
     rw [hv.out] at hsn2
     dsimp only at hsn2
     clear h1
     by_cases hk2 : vk = 2
     ·rw [if_pos hk2] at hsn2
      have e0 : (vk == 0) = false := by simp [hk2]
      have e2 : (vk == 2) = true := by simp [hk2]
      obtain ⟨N, hN⟩ : ∃ N, Hid (IntKind.i64.wrap (on + vn) = N) := ⟨_, hid rfl⟩
      have hN' := hN.out
      rw [hN.out] at hsn2
      obtain ⟨W2, eW2, hW2, kW2⟩ := HB.out.put ⟨2, false, N, ⟨#[]⟩⟩
      try dsimp only at eW2
      have b7 := hvb.out.1.keptS kW2 (by simp; exact hq57.out) (hvb.out.1.lt (by simp))
      have ba := hW2.ask
      have x0 := b7.get 0 _ rfl; have x1 := b7.get 1 _ rfl; have x2 := b7.get 2 _ rfl; have x3 := b7.get 3 _ rfl
      have l0 := ba.get 0 _ rfl; have l1 := ba.get 1 _ rfl
      have HF : Hid (Bx3 w q3 q4 q5 op col (((((L.take (j + 1)).map (·.l)).foldl (aggS op col) nulV))) W2) := hid (by rw [hNX.out, hsn2]; exact hW2)
      clear hW2 b7 ba kW2 hk2 hsn2
      go_wp2_with fail
      go_roundw
      case rel => exact ⟨j + 1, by omega, by go_num, HF⟩
      case measure => simp [intOf] <;> omega
     ·rw [if_neg hk2] at hsn2
      have e2 : (vk == 2) = false := beq_eq_false_iff_ne.2 hk2
      have HF : Hid (Bx3 w q3 q4 q5 op col (((((L.take (j + 1)).map (·.l)).foldl (aggS op col) nulV))) wc) := hid (by rw [hNX.out, hsn2]; exact HB.out)
      clear hk2 hsn2
      by_cases hk0 : vk = 0
      ·have e1 : (vk == 0) = true := by simp [hk0]
       clear hk0
       go_wp2_with fail
       go_roundw
       case rel => exact ⟨j + 1, by omega, by go_num, HF⟩
       case measure => simp [intOf] <;> omega
      ·have e1 : (vk == 0) = false := beq_eq_false_iff_ne.2 hk0
       clear hk0
       go_wp2_with fail
       go_roundw
       case rel => exact ⟨j + 1, by omega, by go_num, HF⟩
       case measure => simp [intOf] <;> omega
    have d1 : (op == 1) = false := beq_eq_false_iff_ne.2 h1
    by_cases h2 : op = 2
    ·have d2 : (op == 2) = true := by simp [h2]
     have d3 : (op == 3) = false := by simp [h2]
     have hq1 : ¬ (2 : Int) = 1 := by decide
     have hsn2 := hsn.out
     unfold aggS at hsn2
     simp only [h2, hq1, if_true, if_false] at hsn2
     unfold utmS at hsn2
     rw [hv.out] at hsn2
     dsimp only at hsn2
     clear h2
     by_cases hk0 : vk = 0
     ·rw [if_pos hk0] at hsn2
      have HF : Hid (Bx3 w q3 q4 q5 op col (((((L.take (j + 1)).map (·.l)).foldl (aggS op col) nulV))) wc) := hid (by rw [hNX.out, hsn2]; exact HB.out)
      have e1 : (vk == 0) = true := by simp [hk0]
      clear hk0 hsn2
      go_wp2_with fail
      go_roundw
      case rel => exact ⟨j + 1, by omega, by go_num, HF⟩
      case measure => simp [intOf] <;> omega
     rw [if_neg hk0] at hsn2
     have e1 : (vk == 0) = false := beq_eq_false_iff_ne.2 hk0
     obtain ⟨W2, eW2, hW2, kW2⟩ := HB.out.put ⟨vk, vb, vn, vt⟩
     try dsimp only at eW2
     by_cases hok : ok = 0
     ·rw [if_pos (.inl hok)] at hsn2
      have e2 : (ok == 0) = true := by simp [hok]
      have HF : Hid (Bx3 w q3 q4 q5 op col (((((L.take (j + 1)).map (·.l)).foldl (aggS op col) nulV))) W2) := hid (by rw [hNX.out, hsn2]; exact hW2)
      have ba2 := hW2.ask
      have l0 := ba2.get 0 _ rfl; have l1 := ba2.get 1 _ rfl
      clear ba2 hW2 hk0 hok hsn2
      go_wp2_with fail
      go_roundw
      case rel => exact ⟨j + 1, by omega, by go_num, HF⟩
      case measure => simp [intOf] <;> omega
     have e2 : (ok == 0) = false := beq_eq_false_iff_ne.2 hok
     have cC := hid (cRefCompare ⟨vk, vb, vn, vt⟩ ⟨ok, ob, on, ot⟩ wc)
     simp only [Val.v] at cC
     have hrg := cmp_range ⟨vk, vb, vn, vt⟩ ⟨ok, ob, on, ot⟩
     obtain ⟨C, hC⟩ : ∃ C, Hid (cmpV ⟨vk, vb, vn, vt⟩ ⟨ok, ob, on, ot⟩ = C) := ⟨_, hid rfl⟩
     simp only [hC.out] at cC
     rw [hC.out] at hsn2 hrg
     have hsn3 := hid hsn2
     clear hW2 eW2 hsn2 kW2
     go_wp2_with fail
     refine cC.out.mono ?_
     rintro e w4 ⟨rfl, k4⟩
     obtain ⟨W2, eW2, hW2, kW2⟩ := (HB.out.kept k4).put ⟨vk, vb, vn, vt⟩
     try dsimp only at eW2
     have by4 := hvb.out.1.kept k4
     have x0 := by4.get 0 _ rfl; have x1 := by4.get 1 _ rfl; have x2 := by4.get 2 _ rfl; have x3 := by4.get 3 _ rfl
     have bo4 := (HB.out.kept k4).bx.out
     have p0 := bo4.get 0 _ rfl; have p1 := bo4.get 1 _ rfl; have p2 := bo4.get 2 _ rfl; have p3 := bo4.get 3 _ rfl
     have u0 := bo4.free 0; have u1 := bo4.free 1; have u2 := bo4.free 2; have u3 := bo4.free 3
     have ba4 := (HB.out.kept k4).ask
     have l0 := ba4.get 0 _ rfl; have l1 := ba4.get 1 _ rfl
     have HB5 := hid (HB.out.kept k4)
     try dsimp only at x0 x1 x2 x3 p0 p1 p2 p3
     clear cC k4 by4 bo4 ba4 y0 y1 y2 y3 t0 t1 t2 t3 a0 a1
     by_cases hCs : C = -1
     ·have hsn4 := hsn3.out
      rw [if_pos (.inr hCs)] at hsn4
      have e3 : decide (C < 0) = true := by simp; omega
      have HF : Hid (Bx3 w q3 q4 q5 op col (((((L.take (j + 1)).map (·.l)).foldl (aggS op col) nulV))) W2) := hid (by rw [hNX.out, hsn4]; exact hW2)
      have ba2 := hW2.ask
      have l2 := ba2.get 0 _ rfl; have l3 := ba2.get 1 _ rfl
      clear ba2
      have e5 : C < 0 := by omega
      clear hW2 hk0 hok hCs HB5 hsn4 hrg
      go_wp2_with fail
      go_roundw
      case rel => exact ⟨j + 1, by omega, by go_num, HF⟩
      case measure => simp [intOf] <;> omega
     ·have hsn4 := hsn3.out
      rw [if_neg (fun h => h.elim hok hCs)] at hsn4
      have e3 : decide (C < 0) = false := by simp; omega
      have e5 : ¬ (C < 0) := by omega
      have HF : Hid (Bx3 w q3 q4 q5 op col (((((L.take (j + 1)).map (·.l)).foldl (aggS op col) nulV))) w4) := hid (by rw [hNX.out, hsn4]; exact HB5.out)
      clear hW2 hk0 hok hCs HB5 eW2 hsn4 hrg
      go_wp2_with fail
      go_roundw
      case rel => exact ⟨j + 1, by omega, by go_num, HF⟩
      case measure => simp [intOf] <;> omega
    have d2 : (op == 2) = false := beq_eq_false_iff_ne.2 h2
    by_cases h3 : op = 3
    ·have d3 : (op == 3) = true := by simp [h3]
     have hq1 : ¬ (3 : Int) = 1 := by decide
     have hq2 : ¬ (3 : Int) = 2 := by decide
     have hsn2 := hsn.out
     unfold aggS at hsn2
     simp only [h3, hq1, hq2, if_true, if_false] at hsn2
     unfold utmS at hsn2
     rw [hv.out] at hsn2
     dsimp only at hsn2
     clear h3
     by_cases hk0 : vk = 0
     ·rw [if_pos hk0] at hsn2
      have HF : Hid (Bx3 w q3 q4 q5 op col (((((L.take (j + 1)).map (·.l)).foldl (aggS op col) nulV))) wc) := hid (by rw [hNX.out, hsn2]; exact HB.out)
      have e1 : (vk == 0) = true := by simp [hk0]
      clear hk0 hsn2
      go_wp2_with fail
      go_roundw
      case rel => exact ⟨j + 1, by omega, by go_num, HF⟩
      case measure => simp [intOf] <;> omega
     rw [if_neg hk0] at hsn2
     have e1 : (vk == 0) = false := beq_eq_false_iff_ne.2 hk0
     obtain ⟨W2, eW2, hW2, kW2⟩ := HB.out.put ⟨vk, vb, vn, vt⟩
     try dsimp only at eW2
     by_cases hok : ok = 0
     ·rw [if_pos (.inl hok)] at hsn2
      have e2 : (ok == 0) = true := by simp [hok]
      have HF : Hid (Bx3 w q3 q4 q5 op col (((((L.take (j + 1)).map (·.l)).foldl (aggS op col) nulV))) W2) := hid (by rw [hNX.out, hsn2]; exact hW2)
      have ba2 := hW2.ask
      have l0 := ba2.get 0 _ rfl; have l1 := ba2.get 1 _ rfl
      clear ba2 hW2 hk0 hok hsn2
      go_wp2_with fail
      go_roundw
      case rel => exact ⟨j + 1, by omega, by go_num, HF⟩
      case measure => simp [intOf] <;> omega
     have e2 : (ok == 0) = false := beq_eq_false_iff_ne.2 hok
     have cC := hid (cRefCompare ⟨vk, vb, vn, vt⟩ ⟨ok, ob, on, ot⟩ wc)
     simp only [Val.v] at cC
     have hrg := cmp_range ⟨vk, vb, vn, vt⟩ ⟨ok, ob, on, ot⟩
     obtain ⟨C, hC⟩ : ∃ C, Hid (cmpV ⟨vk, vb, vn, vt⟩ ⟨ok, ob, on, ot⟩ = C) := ⟨_, hid rfl⟩
     simp only [hC.out] at cC
     rw [hC.out] at hsn2 hrg
     have hsn3 := hid hsn2
     clear hW2 eW2 hsn2 kW2
     go_wp2_with fail
     refine cC.out.mono ?_
     rintro e w4 ⟨rfl, k4⟩
     obtain ⟨W2, eW2, hW2, kW2⟩ := (HB.out.kept k4).put ⟨vk, vb, vn, vt⟩
     try dsimp only at eW2
     have by4 := hvb.out.1.kept k4
     have x0 := by4.get 0 _ rfl; have x1 := by4.get 1 _ rfl; have x2 := by4.get 2 _ rfl; have x3 := by4.get 3 _ rfl
     have bo4 := (HB.out.kept k4).bx.out
     have p0 := bo4.get 0 _ rfl; have p1 := bo4.get 1 _ rfl; have p2 := bo4.get 2 _ rfl; have p3 := bo4.get 3 _ rfl
     have u0 := bo4.free 0; have u1 := bo4.free 1; have u2 := bo4.free 2; have u3 := bo4.free 3
     have ba4 := (HB.out.kept k4).ask
     have l0 := ba4.get 0 _ rfl; have l1 := ba4.get 1 _ rfl
     have HB5 := hid (HB.out.kept k4)
     try dsimp only at x0 x1 x2 x3 p0 p1 p2 p3
     clear cC k4 by4 bo4 ba4 y0 y1 y2 y3 t0 t1 t2 t3 a0 a1
     by_cases hCs : C = 1
     ·have hsn4 := hsn3.out
      rw [if_pos (.inr hCs)] at hsn4
      have e3 : decide (0 < C) = true := by simp; omega
      have HF : Hid (Bx3 w q3 q4 q5 op col (((((L.take (j + 1)).map (·.l)).foldl (aggS op col) nulV))) W2) := hid (by rw [hNX.out, hsn4]; exact hW2)
      have ba2 := hW2.ask
      have l2 := ba2.get 0 _ rfl; have l3 := ba2.get 1 _ rfl
      clear ba2
      have e5 : 0 < C := by omega
      clear hW2 hk0 hok hCs HB5 hsn4 hrg
      go_wp2_with fail
      go_roundw
      case rel => exact ⟨j + 1, by omega, by go_num, HF⟩
      case measure => simp [intOf] <;> omega
     ·have hsn4 := hsn3.out
      rw [if_neg (fun h => h.elim hok hCs)] at hsn4
      have e3 : decide (0 < C) = false := by simp; omega
      have e5 : ¬ (0 < C) := by omega
      have HF : Hid (Bx3 w q3 q4 q5 op col (((((L.take (j + 1)).map (·.l)).foldl (aggS op col) nulV))) w4) := hid (by rw [hNX.out, hsn4]; exact HB5.out)
      clear hW2 hk0 hok hCs HB5 eW2 hsn4 hrg
      go_wp2_with fail
      go_roundw
      case rel => exact ⟨j + 1, by omega, by go_num, HF⟩
      case measure => simp [intOf] <;> omega
    have d3 : (op == 3) = false := beq_eq_false_iff_ne.2 h3
    have hsn2 := hsn.out
    unfold aggS at hsn2
    rw [if_neg h1, if_neg h2, if_neg h3] at hsn2
    have HF : Hid (Bx3 w q3 q4 q5 op col (((((L.take (j + 1)).map (·.l)).foldl (aggS op col) nulV))) wc) := hid (by rw [hNX.out, hsn2]; exact HB.out)
    clear hsn2 h1 h2 h3
    by_cases hk0 : vk = 0
    ·have e1 : (vk == 0) = true := by simp [hk0]
     clear hk0
     go_wp2_with fail
     go_roundw
     case rel => exact ⟨j + 1, by omega, by go_num, HF⟩
     case measure => simp [intOf] <;> omega
    ·have e1 : (vk == 0) = false := beq_eq_false_iff_ne.2 hk0
     clear hk0
     go_wp2_with fail
     go_roundw
     case rel => exact ⟨j + 1, by omega, by go_num, HF⟩
     case measure => simp [intOf] <;> omega
  ·have hje : Hid (((L.take j).map (·.l)).foldl (aggS op col) nulV = Z) := hid (by rw [show j = L.length by omega, List.take_length, ← hZ.out, hfold.out])
   have hB := H.out
   rw [hje.out] at hB
   obtain ⟨zk, zb, zn, zt⟩ := Z
   obtain ⟨W2, eW2, bW2, kW2⟩ := hB.bx.ret
   have t0 := hB.bx.out.get 0 _ rfl; have t1 := hB.bx.out.get 1 _ rfl; have t2 := hB.bx.out.get 2 _ rfl; have t3 := hB.bx.out.get 3 _ rfl
   have p0 := hB.bx.res.get 0 _ rfl; have p1 := hB.bx.res.get 1 _ rfl; have p2 := hB.bx.res.get 2 _ rfl; have p3 := hB.bx.res.get 3 _ rfl
   have r0 := hB.bx.res.free 0; have r1 := hB.bx.res.free 1; have r2 := hB.bx.res.free 2; have r3 := hB.bx.res.free 3
   have v0 := bW2.get 0 _ rfl; have v1 := bW2.get 1 _ rfl; have v2 := bW2.get 2 _ rfl; have v3 := bW2.get 3 _ rfl
   try dsimp only at eW2 t0 t1 t2 t3 v0 v1 v2 v3
   have KF := hid kW2
   have dj1 : ¬ (j : Int) < (L.length : Int) := by omega
   have dj2 : decide ((j : Int) < (L.length : Int)) = false := by simp; omega
   clear hB bW2 kW2 H
   go_wp2_with fail
   exact bodyPost_ret (v := .agg #[.int .i64 zk, .bool zb, .int .i64 zn, .string zt]) (by simp [results, Tryz.results116, go_sem, v0, v1, v2, v3]) rfl ⟨rfl, KF.out⟩
end Go.Proofs.YtcgkkofmnajedaaGreatDoor
end

section
namespace Go.Proofs.YtcgkkofmnajedaaGreatDoor
open Go.RowKit Go.Hay
attribute [local go_sem] Oper.semAt_some
set_option linter.unusedVariables false
set_option linter.unusedSimpArgs false

theorem keys_snoc {bs : List Int} {L : List Vs} {j : Nat} (h : j < L.length) : keysV bs ((L.take (j + 1)).map (·.l)) = insK (keysV bs ((L.take j).map (·.l))) (pickV L[j].l bs) := by
 rw [List.take_succ_eq_append_getElem h, List.map_append]
 exact keysV_snoc _ _ _
theorem getD_ml (m : List Vs) (k : Nat) (h : k < m.length) : (m.map (·.l)).getD k [] = m[k].l := by
 rw [List.getD_eq_getElem?_getD, List.getElem?_map, List.getElem?_eq_getElem h]
 rfl
set_option maxHeartbeats 32000000 in
set_option maxRecDepth 100000 in
theorem rKeys (a : Option Addr) (c : Nat) (L : List Vs) (ba : Option Addr) (bc : Nat) (bs : List Int) (w : World) (hs : VsE.See w a L) (hx : ∀ x ∈ L, x.lies w) (hb : IntE.See w ba bs) (hl : L.length ≤ 1048576) (hbl : bs.length ≤ 1048576) :
  Calls Tryz.prog 113 #[.slice a L.length c, .slice ba bs.length bc] w (LotP (keysV bs (L.map (·.l))) w) := by
 have HS := hid hs
 have HX := hid hx
 have HB := hid hb
 have H0 : Hid (Lot w.heap.size none 0 [] w ∧ Kp [] w w) := hid ⟨Lot.nil _ _, Kp.refl _ _⟩
 clear hs hx hb
 go_enter Tryz.func113, Tryz.ntmps113
 go_wp2_with fail
 go_loopw [5, 6] (fun v5 i wr => ∃ (j : Nat) (ra : Option Addr) (rc : Nat) (m : List Vs), j ≤ L.length ∧ i = .int .i64 (j : Int) ∧ v5 = .slice ra m.length rc ∧ Hid (m.map (·.l) = keysV bs ((L.take j).map (·.l)) ∧ m.length ≤ j) ∧ Hid (Lot w.heap.size ra rc m wr ∧ Kp [] w wr)) (fun _ i _ => L.length - (intOf i).toNat)
 case atStart => exact ⟨0, none, 0, [], Nat.zero_le _, rfl, rfl, hid ⟨rfl, by simp⟩, H0⟩
 case round =>
  obtain ⟨j, ra, rc, m, hj, rfl, rfl, hm, H⟩ := hrel
  obtain ⟨wo, hwo⟩ : ∃ x, x = wr := ⟨wr, rfl⟩
  subst hwo
  clear H0
  by_cases hlt : j < L.length
  ·have hsnk := hid (keys_snoc (bs := bs) hlt)
   obtain ⟨g, o, ea, c0⟩ := vsAt HS.out (k := j) (x := L[j]) (by simp [hlt])
   have hxl := hid (HX.out L[j] (List.getElem_mem hlt))
   obtain ⟨x, hxe⟩ : ∃ x, Hid (L[j] = x) := ⟨_, hid rfl⟩
   rw [hxe.out] at c0 hxl hsnk
   obtain ⟨xa, xc, xl⟩ := x
   have hxc := hxl.out.cap; have hxm := hxl.out.most
   unfold maxLen at hxm
   dsimp only at c0 hsnk hxc hxm
   have cg := kpAt H.out.2 c0
   have cP0 := rPick xa xc xl ba bc bs wo (hxl.out.see.kept H.out.2) (by omega) (HB.out.keptNew H.out.2) (by omega)
   obtain ⟨zl, hzl⟩ : ∃ z, Hid (pickV xl bs = z) := ⟨_, hid rfl⟩
   rw [hzl.out] at cP0 hsnk
   have cP := hid cP0
   have hmj := hid hm.out.2
   have hmb : m.length ≤ 1048576 := by have := hm.out.2; omega
   have i1 : (0 : Int) ≤ (j : Int) := by omega
   have i2 : (j : Int) < (L.length : Int) := by omega
   have i3 : (j : Int) + 1 ≤ 9223372036854775807 := by omega
   subst ea
   clear c0 cP0
   go_wp2_with fail
   refine cP.out.mono ?_
   rintro e wz ⟨za, zc, rfl, hzrow, kz, hzb⟩
   have Kz := hid kz
   have hzr := hid (And.intro hzrow hzb)
   have Hl0 : Hid (Lot w.heap.size ra rc m wz) := hid (H.out.1.ck (CK.ofKp kz) (by simp) (by simp))
   have hzli := hid (rowLies hzrow)
   have hzlen : zl.length ≤ 1048576 := by rw [← hzl.out]; unfold pickV; rw [List.length_map]; exact hbl
   obtain ⟨_, _, e3, hsee0, _, hcp, _⟩ := Hl0.out.row.see
   obtain ⟨e5, e6, e7⟩ := Value.slice.inj e3
   rw [← e5] at hsee0
   rw [← e7] at hcp
   have hcap := hid hcp
   have hsee := hid hsee0
   clear cP hzrow kz hzb cg e3 e5 e6 e7 hcp hsee0
   have hpk := hid (And.intro (posK_le zl (m.map (·.l))) (And.intro (posK_lt zl (m.map (·.l))) (posK_ge zl (m.map (·.l)))))
   obtain ⟨P, hP⟩ : ∃ P, Hid (posK zl (m.map (·.l)) = P) := ⟨_, hid rfl⟩
   rw [hP.out, List.length_map] at hpk
   have hPm : P ≤ m.length := hpk.out.1
   -- a row's key held against one
   have cRw : Hid (∀ (k : Nat) (hk : k < m.length) (W : World), Kp [] wz W → (∃ g o, ra = some ⟨g, o, none⟩ ∧ W.cell? ⟨g, o + k, none⟩ = some (.slice m[k].a m[k].l.length m[k].c)) ∧ Calls Tryz.prog 114 #[.slice m[k].a m[k].l.length m[k].c, .slice za zl.length zc] W fun e w' => e = .returned (.int .i64 (rowsV m[k].l zl)) ∧ Kp [] W w') := hid (fun k hk W q => by
    obtain ⟨g', o', ea', hc⟩ := vsAt hsee.out (k := k) (x := m[k]) (by simp [hk])
    have hli := (Hl0.out.lies m[k] (List.getElem_mem hk)).ck (CK.ofKp q) (by simp)
    have hcc := hli.cap; have hmm := hli.most
    unfold maxLen at hmm
    exact ⟨⟨g', o', ea', kpAt q hc⟩, cRefRows m[k].a za m[k].c zc m[k].l zl W hli.see ((hzli.out.ck (CK.ofKp q) (by simp)).see) (by omega) (by omega)⟩)
   go_upto_block 2 with fail
   go_cut [8] from 22 to 36 (fun v8 wc => v8 = .int .i64 (P : Int) ∧ Hid (Kp [] wz wc))
   case first =>
    go_wp2_with fail
    go_loopw [8] (fun v8 wn => ∃ n : Nat, n ≤ P ∧ v8 = .int .i64 (n : Int) ∧ Hid (Kp [] wz wn)) (fun v8 _ => P - (intOf v8).toNat)
    case atStart => exact ⟨0, Nat.zero_le _, rfl, hid (Kp.refl _ _)⟩
    case round =>
     obtain ⟨n, hn, rfl, kn⟩ := hrel
     by_cases hnm : n < m.length
     ·obtain ⟨⟨g2, o2, eb, y0⟩, cR0⟩ := cRw.out n hnm wr kn.out
      have hrel2 : Hid ((n < P → rowsV m[n].l zl < 0) ∧ (n = P → 0 ≤ rowsV m[n].l zl)) := hid ⟨fun h => by have := hpk.out.2.1 n h; rwa [getD_ml m n hnm] at this, fun h => by have := hpk.out.2.2 (by omega); rw [← h, getD_ml m n hnm] at this; omega⟩
      obtain ⟨y, hye⟩ : ∃ y, Hid (m[n] = y) := ⟨_, hid rfl⟩
      rw [hye.out] at y0 cR0 hrel2
      obtain ⟨ya, yc, yl⟩ := y
      dsimp only at y0 cR0 hrel2
      obtain ⟨C, hC⟩ : ∃ C, Hid (rowsV yl zl = C) := ⟨_, hid rfl⟩
      rw [hC.out] at cR0 hrel2
      have cR := hid cR0
      have k1 : (0 : Int) ≤ (n : Int) := by omega
      have k2 : (n : Int) < (m.length : Int) := by omega
      have k3 : (n : Int) + 1 ≤ 9223372036854775807 := by omega
      have k4 : decide ((n : Int) < (m.length : Int)) = true := by simp; omega
      have hsub := hid eb
      subst eb
      clear cR0 hsub
      go_wp2_with fail
      refine cR.out.mono ?_
      rintro e we ⟨rfl, ke⟩
      have KE := hid (kn.out.trans ke (by simp))
      clear ke cR
      by_cases hC0 : C < 0
      ·have d1 : decide (C < 0) = true := by simpa using hC0
       have hnP : n < P := by
        rcases Nat.lt_or_ge n P with h | h
        ·exact h
        ·have := hrel2.out.2 (by omega); omega
       go_wp2_with fail
       go_roundw
       case rel => exact ⟨n + 1, by omega, by go_num, KE⟩
       case measure => simp [intOf] <;> omega
      ·have d1 : decide (C < 0) = false := by simpa using hC0
       have hnP : Hid (n = P) := hid (by
        rcases Nat.lt_or_ge n P with h | h
        ·exact absurd (hrel2.out.1 h) hC0
        ·omega)
       go_wp2_with fail
       go_meet
       exact ⟨by rw [hnP.out], KE⟩
     ·have hnP : Hid (n = P) := hid (by omega)
      have k4 : decide ((n : Int) < (m.length : Int)) = false := by simp; omega
      have k5 : ¬ (n : Int) < (m.length : Int) := by omega
      go_wp2_with fail
      go_meet
      exact ⟨by rw [hnP.out], kn⟩
   case rest =>
    obtain ⟨rfl, Kzc⟩ := hcut
    obtain ⟨n0, hn0e⟩ : ∃ n0, n0 = P := ⟨P, rfl⟩
    subst hn0e
    have hn0 : n0 ≤ m.length := hPm
    have hpos : Hid (posK zl (m.map (·.l)) = n0) := hP
    have Hlc : Hid (Lot w.heap.size ra rc m wc) := hid (Hl0.out.ck (CK.ofKp Kzc.out) (by simp) (by simp))
    have Kwc : Hid (Kp [] w wc) := hid ((H.out.2.trans Kz.out (by simp)).trans Kzc.out (by simp))
    have hseeW0 := hsee.out.keptNew Kzc.out
    by_cases hnm : n0 < m.length
    ·obtain ⟨⟨g2, o2, eb, y0⟩, cR0⟩ := cRw.out n0 hnm wc Kzc.out
     have hhit : Hid (hitK zl (m.map (·.l)) = (rowsV m[n0].l zl == 0)) := hid (by
      unfold hitK
      rw [hP.out, List.length_map, getD_ml m n0 hnm]
      simp [hnm])
     obtain ⟨y, hye⟩ : ∃ y, Hid (m[n0] = y) := ⟨_, hid rfl⟩
     rw [hye.out] at y0 cR0 hhit
     obtain ⟨ya, yc, yl⟩ := y
     dsimp only at y0 cR0 hhit
     obtain ⟨C, hC⟩ : ∃ C, Hid (rowsV yl zl = C) := ⟨_, hid rfl⟩
     rw [hC.out] at cR0 hhit
     have cR := hid cR0
     have k1 : (0 : Int) ≤ (n0 : Int) := by omega
     have k2 : (n0 : Int) < (m.length : Int) := by omega
     have k4 : decide ((n0 : Int) < (m.length : Int)) = true := by simp; omega
     have HSW := hid hseeW0
     subst eb
     clear cR0 hseeW0
     go_wp2_with fail
     refine cR.out.mono ?_
     rintro e we ⟨rfl, ke⟩
     by_cases hC0 : C = 0
     ·have d1 : (C == 0) = true := by simp [hC0]
      have hmF : Hid (m.map (·.l) = keysV bs ((L.take (j + 1)).map (·.l)) ∧ m.length ≤ j + 1) := hid ⟨by
       rw [hsnk.out, ← hm.out.1]
       unfold insK
       rw [hhit.out, d1]
       rfl, by have := hm.out.2; omega⟩
      have HF : Hid (Lot w.heap.size (some ⟨g2, o2, none⟩) rc m we ∧ Kp [] w we) := hid ⟨Hlc.out.ck (CK.ofKp ke) (by simp) (by simp), Kwc.out.trans ke (by simp)⟩
      clear hC0 ke cR y0
      go_wp2_with fail
      go_roundw
      case rel => exact ⟨j + 1, _, rc, m, by omega, by go_num, rfl, hmF, HF⟩
      case measure => simp [intOf] <;> omega
     ·have d1 : (C == 0) = false := beq_eq_false_iff_ne.2 hC0
      have hnhit : Hid (hitK zl (m.map (·.l)) = false) := hid (by rw [hhit.out, d1])
      have Kze : Hid (Kp [] wz we) := hid (Kzc.out.trans ke (by simp))
      have Hle : Hid (Lot w.heap.size (some ⟨g2, o2, none⟩) rc m we) := hid (Hlc.out.ck (CK.ofKp ke) (by simp) (by simp))
      have Kwe : Hid (Kp [] w we) := hid (Kwc.out.trans ke (by simp))
      have hseeW := HSW.out.keptNew ke
      clear hC0 ke cR y0
      have hsf := fun W : World => sliceFromVs (some ⟨g2, o2, none⟩) m.length rc n0 W hn0
      have hsee2 : VsE.See we (if rc = n0 then (some ⟨g2, o2, none⟩ : Option Addr) else (some ⟨g2, o2, none⟩ : Option Addr).map (·.add n0)) (m.drop n0) := by
       by_cases hc : rc = n0
       ·rw [List.drop_eq_nil_of_le (by have := hcap.out; omega)]; exact .inl rfl
       ·rw [if_neg hc]; exact seeDropVs hseeW n0
      obtain ⟨cq, hcq⟩ : ∃ q, Hid ((if rc = n0 then (some ⟨g2, o2, none⟩ : Option Addr) else (some ⟨g2, o2, none⟩ : Option Addr).map (·.add n0)) = q) := ⟨_, hid rfl⟩
      rw [hcq.out] at hsee2
      simp only [hcq.out] at hsf
      obtain ⟨cc, hcc⟩ : ∃ q, Hid (rc - n0 = q) := ⟨_, hid rfl⟩
      simp only [hcc.out] at hsf
      obtain ⟨a1, c1, W1, a2, c2, W2, a3, c3, W3, r1, r2, r3, R3, n3, k1, k2, k3⟩ := app3V we (some ⟨g2, o2, none⟩) cq rc cc m.length n0 m rfl hn0 (hseeW.front n0) hsee2 ⟨za, zc, zl⟩ (by omega)
      obtain ⟨nk, hnk⟩ : ∃ q, Hid (m.length - n0 = q) := ⟨_, hid rfl⟩
      simp only [hnk.out] at hsf
      rw [hnk.out] at r3
      have HSF := hid hsf
      have HST := hid (fun W : World => sliceToVs (some ⟨g2, o2, none⟩) m.length rc n0 W (by have := hcap.out; omega))
      dsimp only at r1 r2 r3
      have hr1 := hid r1
      have hr2 := hid r2
      have hr3 := hid r3
      obtain ⟨m3, hm3⟩ : ∃ m3, Hid (m.take n0 ++ (⟨za, zc, zl⟩ : Vs) :: m.drop n0 = m3) := ⟨_, hid rfl⟩
      rw [hm3.out] at R3
      have hm3l : m3.length = m.length + 1 := by rw [← hm3.out]; simp; omega
      have hm3i : ∀ x ∈ m3, x ∈ m ∨ x = ⟨za, zc, zl⟩ := fun x hx => by
       rw [← hm3.out] at hx
       rcases List.mem_append.1 hx with hx | hx
       ·exact .inl (List.mem_of_mem_take hx)
       ·rcases List.mem_cons.1 hx with hx | hx
        ·exact .inr hx
        ·exact .inl (List.mem_of_mem_drop hx)
      have hzc := Kze.out
      have HF : Hid (Lot w.heap.size a3 c3 m3 W3 ∧ Kp [] w W3) := hid ⟨⟨R3, fun x hx => by
       rcases hm3i x hx with h | rfl
       ·exact ((Hle.out.lies x h)).ck (CK.ofKp k3) (by simp)
       ·exact (rowLies (hzr.out.1.keptNew hzc)).ck (CK.ofKp k3) (by simp), fun k hk => by have := n3 k hk; have := Kwe.out.size; omega, fun x hx k hk => by
       have h1 : w.heap.size ≤ k ∧ k < we.heap.size := by
        rcases hm3i x hx with h | rfl
        ·exact ⟨(Hle.out.rows x h k hk).1, (Hle.out.rows x h k hk).2.1⟩
        ·exact ⟨by have := hzr.out.2 k hk; have := H.out.2.size; omega, (hzr.out.1.keptNew hzc).lt k (by rw [ownV]; exact hk)⟩
       exact ⟨h1.1, Nat.lt_of_lt_of_le h1.2 k3.size, fun hm' => by have := n3 k hm'; omega⟩⟩, Kwe.out.trans k3 (by simp)⟩
      have hmF : Hid (m3.map (·.l) = keysV bs ((L.take (j + 1)).map (·.l)) ∧ m3.length ≤ j + 1) := hid ⟨by
       rw [hsnk.out, ← hm.out.1, ← hm3.out, List.map_append, List.map_cons, List.map_take, List.map_drop]
       unfold insK
       rw [hnhit.out, hpos.out]
       rfl, by have := hm.out.2; omega⟩
      have hm3e := hid hm3l
      rw [← hm3l] at r3
      have hr3 := hid r3
      clear R3 n3 k1 k2 k3 r1 r2 r3 hseeW hsee2 hsf hm3l hm3i hzc
      have hsl := HST.out we
      go_upto_region 12 with (first | (refine wpAppRunY rfl _ _ 60 60 rfl _ _ _ rfl rfl hr1.out ?_) | fail)
      clear hsl
      go_upto_region 13 with (first | (refine wpAppRunY rfl _ _ 60 60 rfl _ _ _ rfl rfl hr2.out ?_) | fail)
      have hsl := HSF.out W2
      go_upto_region 14 with (first | (refine wpAppRunY rfl _ _ 60 60 rfl _ _ _ rfl rfl hr3.out ?_) | fail)
      clear hsl
      go_wp2_with fail
      go_roundw
      case rel => exact ⟨j + 1, a3, c3, m3, by omega, by go_num, rfl, hmF, HF⟩
      case measure => simp [intOf] <;> omega
    ·have hnhit : Hid (hitK zl (m.map (·.l)) = false) := hid (by
      unfold hitK
      rw [hP.out, List.length_map]
      simp; omega)
     have k4 : decide ((n0 : Int) < (m.length : Int)) = false := by simp; omega
     have k5 : ¬ (n0 : Int) < (m.length : Int) := by omega
     have hseeW := hseeW0
     clear hseeW0
     have hsf := fun W : World => sliceFromVs ra m.length rc n0 W hn0
     have hsee2 : VsE.See wc (if rc = n0 then ra else ra.map (·.add n0)) (m.drop n0) := by
      by_cases hc : rc = n0
      ·rw [List.drop_eq_nil_of_le (by have := hcap.out; omega)]; exact .inl rfl
      ·rw [if_neg hc]; exact seeDropVs hseeW n0
     obtain ⟨cq, hcq⟩ : ∃ q, Hid ((if rc = n0 then ra else ra.map (·.add n0)) = q) := ⟨_, hid rfl⟩
     rw [hcq.out] at hsee2
     simp only [hcq.out] at hsf
     obtain ⟨cc, hcc⟩ : ∃ q, Hid (rc - n0 = q) := ⟨_, hid rfl⟩
     simp only [hcc.out] at hsf
     obtain ⟨a1, c1, W1, a2, c2, W2, a3, c3, W3, r1, r2, r3, R3, n3, k1, k2, k3⟩ := app3V wc ra cq rc cc m.length n0 m rfl hn0 (hseeW.front n0) hsee2 ⟨za, zc, zl⟩ (by omega)
     obtain ⟨nk, hnk⟩ : ∃ q, Hid (m.length - n0 = q) := ⟨_, hid rfl⟩
     simp only [hnk.out] at hsf
     rw [hnk.out] at r3
     have HSF := hid hsf
     have HST := hid (fun W : World => sliceToVs ra m.length rc n0 W (by have := hcap.out; omega))
     dsimp only at r1 r2 r3
     have hr1 := hid r1
     have hr2 := hid r2
     have hr3 := hid r3
     obtain ⟨m3, hm3⟩ : ∃ m3, Hid (m.take n0 ++ (⟨za, zc, zl⟩ : Vs) :: m.drop n0 = m3) := ⟨_, hid rfl⟩
     rw [hm3.out] at R3
     have hm3l : m3.length = m.length + 1 := by rw [← hm3.out]; simp; omega
     have hm3i : ∀ x ∈ m3, x ∈ m ∨ x = ⟨za, zc, zl⟩ := fun x hx => by
      rw [← hm3.out] at hx
      rcases List.mem_append.1 hx with hx | hx
      ·exact .inl (List.mem_of_mem_take hx)
      ·rcases List.mem_cons.1 hx with hx | hx
       ·exact .inr hx
       ·exact .inl (List.mem_of_mem_drop hx)
     have hzc := Kzc.out
     have HF : Hid (Lot w.heap.size a3 c3 m3 W3 ∧ Kp [] w W3) := hid ⟨⟨R3, fun x hx => by
      rcases hm3i x hx with h | rfl
      ·exact ((Hlc.out.lies x h)).ck (CK.ofKp k3) (by simp)
      ·exact (rowLies (hzr.out.1.keptNew hzc)).ck (CK.ofKp k3) (by simp), fun k hk => by have := n3 k hk; have := Kwc.out.size; omega, fun x hx k hk => by
      have h1 : w.heap.size ≤ k ∧ k < wc.heap.size := by
       rcases hm3i x hx with h | rfl
       ·exact ⟨(Hlc.out.rows x h k hk).1, (Hlc.out.rows x h k hk).2.1⟩
       ·exact ⟨by have := hzr.out.2 k hk; have := H.out.2.size; omega, (hzr.out.1.keptNew hzc).lt k (by rw [ownV]; exact hk)⟩
      exact ⟨h1.1, Nat.lt_of_lt_of_le h1.2 k3.size, fun hm' => by have := n3 k hm'; omega⟩⟩, Kwc.out.trans k3 (by simp)⟩
     have hmF : Hid (m3.map (·.l) = keysV bs ((L.take (j + 1)).map (·.l)) ∧ m3.length ≤ j + 1) := hid ⟨by
      rw [hsnk.out, ← hm.out.1, ← hm3.out, List.map_append, List.map_cons, List.map_take, List.map_drop]
      unfold insK
      rw [hnhit.out, hpos.out]
      rfl, by have := hm.out.2; omega⟩
     have hm3e := hid hm3l
     rw [← hm3l] at r3
     have hr3 := hid r3
     clear R3 n3 k1 k2 k3 r1 r2 r3 hseeW hsee2 hsf hm3l hm3i hzc
     have hsl := HST.out wc
     go_upto_region 12 with (first | (refine wpAppRunY rfl _ _ 60 60 rfl _ _ _ rfl rfl hr1.out ?_) | fail)
     clear hsl
     go_upto_region 13 with (first | (refine wpAppRunY rfl _ _ 60 60 rfl _ _ _ rfl rfl hr2.out ?_) | fail)
     have hsl := HSF.out W2
     go_upto_region 14 with (first | (refine wpAppRunY rfl _ _ 60 60 rfl _ _ _ rfl rfl hr3.out ?_) | fail)
     clear hsl
     go_wp2_with fail
     go_roundw
     case rel => exact ⟨j + 1, a3, c3, m3, by omega, by go_num, rfl, hmF, HF⟩
     case measure => simp [intOf] <;> omega
  ·have hmm : m.map (·.l) = keysV bs (L.map (·.l)) := by rw [hm.out.1, show j = L.length by omega, List.take_length]
   have dj1 : ¬ (j : Int) < (L.length : Int) := by omega
   have dj2 : decide ((j : Int) < (L.length : Int)) = false := by simp; omega
   have hmm' := hid hmm
   clear hmm
   go_wp2_with fail
   go_ret
   exact ⟨ra, rc, m, rfl, H.out.1, hmm'.out, H.out.2⟩
end Go.Proofs.YtcgkkofmnajedaaGreatDoor
end

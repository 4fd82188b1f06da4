/- How a text is read, by the reference. -/
import Derived.Test.YtboibllahibicaaDoorVcnd
import Derived.Test.YtboibllahibicaaDoorVrow
namespace Go.Proofs.YtboibllahibicaaDoor
open Go.RowKit Go.Hay
set_option linter.unusedVariables false
set_option linter.unusedSimpArgs false

theorem candsVals (w : World) (n : Int) (u : List UInt8) (t : TypeId) : Vals (w.alloc (.cells #[.int .i64 0, .bool false, .int .i64 0, .string ⟨#[]⟩, .int .i64 1, .bool false, .int .i64 0, .string ⟨#[]⟩, .int .i64 1, .bool true, .int .i64 0, .string ⟨#[]⟩, .int .i64 2, .bool false, .int .i64 n, .string ⟨#[]⟩, .int .i64 3, .bool false, .int .i64 0, .string ⟨u.toArray⟩] t)) (some ⟨w.heap.size, 0, none⟩) (cands n u) := by
  refine .inr ⟨_, _, rfl, fun j z hz => ?_⟩
  match j, hz with
  | 0, hz => cases hz; exact ⟨World.cell?_alloc_new w _ _ 0, World.cell?_alloc_new w _ _ 1, World.cell?_alloc_new w _ _ 2, World.cell?_alloc_new w _ _ 3⟩
  | 1, hz => cases hz; exact ⟨World.cell?_alloc_new w _ _ 4, World.cell?_alloc_new w _ _ 5, World.cell?_alloc_new w _ _ 6, World.cell?_alloc_new w _ _ 7⟩
  | 2, hz => cases hz; exact ⟨World.cell?_alloc_new w _ _ 8, World.cell?_alloc_new w _ _ 9, World.cell?_alloc_new w _ _ 10, World.cell?_alloc_new w _ _ 11⟩
  | 3, hz => cases hz; exact ⟨World.cell?_alloc_new w _ _ 12, World.cell?_alloc_new w _ _ 13, World.cell?_alloc_new w _ _ 14, World.cell?_alloc_new w _ _ 15⟩
  | 4, hz => cases hz; exact ⟨World.cell?_alloc_new w _ _ 16, World.cell?_alloc_new w _ _ 17, World.cell?_alloc_new w _ _ 18, World.cell?_alloc_new w _ _ 19⟩
  | j + 5, hz => simp [cands] at hz

set_option maxHeartbeats 8000000 in
set_option maxRecDepth 100000 in
theorem cRefParse (s : ByteArray) (w : World) (hm : s.size ≤ 140737488355328) :
    Calls Tryd.prog 27 #[.string s] w fun e w' => ParsePost s.data.toList e ∧ Kp [] w w' := by
  have hI := cInteger s (by omega)
  have hT := fun w' => cRefText s w' hm
  have hrg := intF_range s.data.toList 0 (by omega) (by omega)
  change _ ≤ intF s.data.toList ∧ intF s.data.toList ≤ _ at hrg
  have hN := integerV_range s.data.toList hrg
  obtain ⟨l, hl⟩ : ∃ l, s.data.toList = l := ⟨_, rfl⟩
  have hl2 : s.toList = l := by rw [Lib.toList_data]; exact hl
  rw [hl] at hI hT hN ⊢
  have HC := hid (cands_all l)
  generalize integerV l = n at *
  have hk0 : Kp [] w (w.alloc (.cells #[.int .i64 0, .bool false, .int .i64 0, .string ⟨#[]⟩] 25)) := (Kp.refl _ _).alloc _
  have bR := Box4.new w (.int .i64 0) (.bool false) (.int .i64 0) (.string ⟨#[]⟩) 25
  clear hrg hl
  go_enter Tryd.func27, Tryd.ntmps27
  go_wp2_with fail
  refine (hI _).mono ?_
  rintro e w1 ⟨rfl, rfl⟩
  go_wp2_with fail
  refine (hT _).mono ?_
  rintro e w1 ⟨⟨u, rfl, hu⟩, k1⟩
  have HA : Hid (∀ y : Val, y.right = true → y.in64 → printB y = l → y ∈ cands n u) := fun y h1 h2 h3 => HC.out u hu y h1 h2 h3
  have h64 := hid (cands_in64 n u hN.1 hN.2)
  have bR1 := bR.kept k1 (by simp)
  have kk1 := hk0.trans k1 (by simp)
  have hV := candsVals w1 n u 25
  have kV : Kp [] w1 (w1.alloc (.cells #[.int .i64 0, .bool false, .int .i64 0, .string ⟨#[]⟩, .int .i64 1, .bool false, .int .i64 0, .string ⟨#[]⟩, .int .i64 1, .bool true, .int .i64 0, .string ⟨#[]⟩, .int .i64 2, .bool false, .int .i64 n, .string ⟨#[]⟩, .int .i64 3, .bool false, .int .i64 0, .string ⟨u.toArray⟩] 25)) := (Kp.refl _ _).alloc _
  have bR2 := bR1.kept kV (by simp)
  have kk2 := kk1.trans kV (by simp)
  have HL := hid (cands_len n u)
  have hq := bR1.lt
  clear bR hk0 hI hT HC hu k1 bR1 kk1
  go_wp2_with fail
  generalize cands n u = cs at *
  generalize (w1.alloc (.cells #[.int .i64 0, .bool false, .int .i64 0, .string ⟨#[]⟩, .int .i64 1, .bool false, .int .i64 0, .string ⟨#[]⟩, .int .i64 1, .bool true, .int .i64 0, .string ⟨#[]⟩, .int .i64 2, .bool false, .int .i64 n, .string ⟨#[]⟩, .int .i64 3, .bool false, .int .i64 0, .string ⟨u.toArray⟩] 25)) = w2 at *
  go_loopw [5] (fun i wn => ∃ j : Nat, j ≤ 5 ∧ i = .int .i64 j ∧ Hid (∀ k, k < j → ∀ x, cs[k]? = some x → l ≠ [] → printB x ≠ l) ∧ Kp [] w2 wn) (fun i _ => 5 - (intOf i).toNat)
  case atStart => exact ⟨0, by omega, rfl, fun k hk => by omega, Kp.refl _ _⟩
  case round =>
    obtain ⟨j, hj, rfl, hno, hk⟩ := hrel
    have bR3 := bR2.kept hk (by simp)
    have kk3 := kk2.trans hk (by simp)
    by_cases hj5 : j < 5
    · have hjc : j < cs.length := by rw [HL.out]; exact hj5
      obtain ⟨g, o, hgo, a0, a1, a2, a3⟩ := (hV.kept hk).at j hjc
      cases hgo
      simp only [Nat.zero_add] at a0 a1 a2 a3
      have hx64 := h64.out cs[j] (List.getElem_mem hjc)
      have hxj : Hid (cs[j]? = some cs[j]) := List.getElem?_eq_getElem hjc
      generalize cs[j] = x at *
      have hP := cRefPrint x hx64.1 hx64.2
      obtain ⟨pb, Hpb⟩ : ∃ pb : List UInt8, Hid (printB x = pb) := ⟨_, rfl⟩
      rw [Hpb.out] at hP
      have hpl : (⟨pb.toArray⟩ : ByteArray).toList = pb := by rw [Lib.toList_data]
      have H64 := hid hx64
      clear hx64
      obtain ⟨xk, xb, xn, xt⟩ := x
      unfold Val.v at hP
      dsimp only at a0 a1 a2 a3 hP
      by_cases hl0 : l = []
      · have el : (l == []) = true := by rw [hl0]; rfl
        have hn2 : Hid (∀ k, k < j + 1 → ∀ x, cs[k]? = some x → l ≠ [] → printB x ≠ l) := by
          show ∀ k, _
          intro k _ x _ h
          exact absurd hl0 h
        clear hno hl0
        go_wp2_with fail
        exact ⟨⟨j + 1, by omega, by go_num, hn2, hk⟩, by simp [intOf]; omega⟩
      · have el : (l == []) = false := by simpa using hl0
        go_wp2_with fail
        refine (hP _).mono ?_
        rintro e w3 ⟨rfl, k3⟩
        have bR4 := bR3.kept k3 (by simp)
        have kk4 := kk3.trans k3 (by simp)
        have hk4 := hk.trans k3 (by simp)
        have y0 := kpAt k3 a0; have y1 := kpAt k3 a1; have y2 := kpAt k3 a2; have y3 := kpAt k3 a3
        have q0 := bR4.c0; have q1 := bR4.c1; have q2 := bR4.c2; have q3 := bR4.c3; have qf := bR4.free
        clear a0 a1 a2 a3 hP bR3 kk3 k3
        by_cases hp : pb = l
        · subst hp
          obtain ⟨bR5, ks⟩ := setAll4 bR4 (.int .i64 xk) (.bool xb) (.int .i64 xn) (.string xt)
          have kk5 := kk4.trans ks (fun x hx => .inr (by simp at hx; omega))
          have z0 := bR5.c0; have z1 := bR5.c1; have z2 := bR5.c2; have z3 := bR5.c3
          have hr : Hid (Val.right ⟨xk, xb, xn, xt⟩ = true) := print_right Hpb.out hl0
          clear hno hl0
          go_wp2_with fail
          exact bodyPost_ret (v := .tuple #[.agg #[.int .i64 xk, .bool xb, .int .i64 xn, .string xt], .int .i64 0]) (by simp [results, Tryd.results27, go_sem, z0, z1, z2, z3]) rfl ⟨Or.inl ⟨⟨xk, xb, xn, xt⟩, hr.out, H64.out, Hpb.out, rfl⟩, kk5⟩
        · have hpp : (pb == l) = false := by simpa using hp
          have hn2 : Hid (∀ k, k < j + 1 → ∀ x, cs[k]? = some x → l ≠ [] → printB x ≠ l) := by
            show ∀ k, _
            intro k hk' x hx hl'
            by_cases e : k = j
            · subst e
              rw [hxj.out] at hx
              cases hx
              rw [Hpb.out]
              exact hp
            · exact hno.out k (by omega) x hx hl'
          clear hno hp hl0
          go_wp2_with fail
          exact ⟨⟨j + 1, by omega, by go_num, hn2, hk4⟩, by simp [intOf]; omega⟩
    · have hj55 : j = 5 := by omega
      subst hj55
      have q0 := bR3.c0; have q1 := bR3.c1; have q2 := bR3.c2; have q3 := bR3.c3; have qf := bR3.free
      obtain ⟨bR5, ks⟩ := setAll4 bR3 (.int .i64 0) (.bool false) (.int .i64 0) (.string ⟨#[]⟩)
      have kk5 := kk3.trans ks (fun x hx => .inr (by simp at hx; omega))
      have z0 := bR5.c0; have z1 := bR5.c1; have z2 := bR5.c2; have z3 := bR5.c3
      have HN : Hid (∀ y : Val, y.right = true → y.in64 → printB y ≠ l) := by
        show ∀ y : Val, _
        intro y hy hy2 h
        have hm' := HA.out y hy hy2 h
        obtain ⟨k, hk5, hky⟩ := List.getElem_of_mem hm'
        obtain ⟨c, r, h1, _⟩ := print_head hy
        refine hno.out k (by rw [HL.out] at hk5; exact hk5) y (by rw [List.getElem?_eq_getElem hk5, hky]) ?_ h
        rw [← h, h1]
        simp
      clear hno
      go_wp2_with fail
      exact bodyPost_ret (v := .tuple #[.agg #[.int .i64 0, .bool false, .int .i64 0, .string ⟨#[]⟩], .int .i64 21]) (by simp [results, Tryd.results27, go_sem, z0, z1, z2, z3]) rfl ⟨Or.inr ⟨HN.out, rfl⟩, kk5⟩
end Go.Proofs.YtboibllahibicaaDoor

/- What bytes begin with: the reference's Front. -/
import Derived.Test.YtlehalhficlenaaRfrt
namespace Go.Proofs.Ytlehalhficlenaa
open Go.RowKit Go.Hay
set_option linter.unusedVariables false
set_option linter.unusedSimpArgs false

set_option maxHeartbeats 4000000 in
set_option maxRecDepth 100000 in
theorem cFront (a : Option Addr) (c : Nat) (bs : List UInt8) (w : World) (hs : Sees w a bs) (hl : bs.length ≤ c) (hm : c ≤ maxLen) :
    Calls Try.prog 31 #[.slice a bs.length c] w (Tk w (rowF bs)) := by
  have kW : Kp [] w (w.alloc (.cells #[.int .i64 0, .bool false, .int .i64 0, .string ⟨#[]⟩] 35)) := (Kp.refl _ _).alloc _
  have bA := Box4.new w (.int .i64 0) (.bool false) (.int .i64 0) (.string ⟨#[]⟩) 35
  cases bs with
  | nil =>
    go_enter Try.func31, Try.ntmps31
    go_wp2_with fail
    all_goals refine bodyPost_ret (v := .tuple #[Val.v nilV, .int .i64 0]) (by simp [results, Try.results31, go_sem, Val.v, nilV]) rfl ⟨?_, by first | exact kW | exact (Kp.refl _ _).alloc _⟩
    rfl
  | cons f r =>
    obtain ⟨g, o, rfl, hc⟩ : ∃ g o, a = some ⟨g, o, none⟩ ∧ ∀ j u, (f :: r)[j]? = some u → w.cell? ⟨g, o + j, none⟩ = some (.int .u8 u.toNat) := by
      rcases hs with h | h
      · cases h
      · exact h
    have hc0 : w.cell? ⟨g, o, none⟩ = some (.int .u8 f.toNat) := hc 0 f rfl
    have hg := World.block_lt_of_cell? _ _ hc0
    have hf := f.toNat_lt
    have htl := fun n : Nat => (show Sees w (some ⟨g, o + 1, none⟩) (r.take n) by have := (Sees.tail hs 1).front n; simpa [Addr.add_lit] using this)
    rw [List.length_cons] at hl ⊢
    unfold maxLen at hm
    by_cases h0 : f.toNat = 0
    · have HF : Hid (rowF (f :: r) = (nilV, 1)) := by show _ = _; simp [rowF, fixF, h0]
      rw [h0] at hc0
      clear hc h0 hs htl hf
      generalize rowF (f :: r) = R at *
      go_enter Try.func31, Try.ntmps31
      go_wp2_with fail
      all_goals refine bodyPost_ret (v := .tuple #[Val.v nilV, .int .i64 1]) (by simp [results, Try.results31, go_sem, Val.v, nilV]) rfl ⟨?_, by first | exact kW | exact (Kp.refl _ _).alloc _⟩
      all_goals (rw [HF.out]; rfl)
    have e0 : ((f.toNat : Int) == 0) = false := by simp; omega
    by_cases h1 : f.toNat = 1
    · rw [h1] at hc0
      cases r with
      | nil =>
        have HF : Hid (rowF (f :: []) = (nilV, 0)) := by show _ = _; simp [rowF, fixF, h1]
        clear hc h0 h1 hs htl hf e0
        generalize rowF (f :: []) = R at *
        rw [List.length_nil] at hl ⊢
        go_enter Try.func31, Try.ntmps31
        go_wp2_with fail
        all_goals refine bodyPost_ret (v := .tuple #[Val.v nilV, .int .i64 0]) (by simp [results, Try.results31, go_sem, Val.v, nilV]) rfl ⟨?_, by first | exact kW | exact (Kp.refl _ _).alloc _⟩
        all_goals (rw [HF.out]; rfl)
      | cons y s =>
        have hc1 : w.cell? ⟨g, o + 1, none⟩ = some (.int .u8 y.toNat) := hc 1 y rfl
        rw [List.length_cons] at hl ⊢
        have hy := y.toNat_lt
        by_cases hy1 : y.toNat ≤ 1
        · have HF : Hid (rowF (f :: y :: s) = (⟨1, y.toNat == 1, 0, ⟨#[]⟩⟩, 2)) := by show _ = _; simp [rowF, fixF, h1, hy1]
          clear hc h0 h1 hs htl hf e0
          generalize rowF (f :: y :: s) = R at *
          obtain ⟨b, Hb⟩ : ∃ b : Bool, Hid ((y.toNat == 1) = b) := ⟨_, rfl⟩
          rw [Hb.out] at HF
          have hbb : ((y.toNat : Int) == 1) = b := by rw [← Hb.out, Bool.eq_iff_iff]; simp; omega
          have hy2 : (y.toNat : Int) < 2 := by omega
          go_enter Try.func31, Try.ntmps31
          go_wp2_with fail
          all_goals refine bodyPost_ret (v := .tuple #[Val.v ⟨1, b, 0, ⟨#[]⟩⟩, .int .i64 2]) (by simp [results, Try.results31, go_sem, Val.v, nilV]) rfl ⟨?_, by first | exact kW | exact (Kp.refl _ _).alloc _⟩
          all_goals (rw [HF.out]; rfl)
        · have HF : Hid (rowF (f :: y :: s) = (nilV, 0)) := by show _ = _; simp [rowF, fixF, h1, hy1]
          clear hc h0 h1 hs htl hf e0
          generalize rowF (f :: y :: s) = R at *
          have hy2 : ¬ (y.toNat : Int) < 2 := by omega
          go_enter Try.func31, Try.ntmps31
          go_wp2_with fail
          all_goals refine bodyPost_ret (v := .tuple #[Val.v nilV, .int .i64 0]) (by simp [results, Try.results31, go_sem, Val.v, nilV]) rfl ⟨?_, by first | exact kW | exact (Kp.refl _ _).alloc _⟩
          all_goals (rw [HF.out]; rfl)
    have e1 : ((f.toNat : Int) == 1) = false := by simp; omega
    by_cases h2 : f.toNat = 2
    · rw [h2] at hc0
      by_cases h8 : 8 ≤ r.length
      · have HF : Hid (rowF (f :: r) = (⟨2, false, wrap64 (num (r.take 8)), ⟨#[]⟩⟩, 9)) := by show _ = _; simp [rowF, fixF, h2, h8]
        have hs8 := fun w' (k : Kp [] w w') => seesKeep (htl 8) k
        have hlen8 : 8 = (r.take 8).length := by simp; omega
        have hN := fun w' (k : Kp [] w w') => cRefSaid _ 8 (c - 1) (r.take 8) w' (hs8 w' k) hlen8 (by simp; omega)
        have hnb := num_lt64 (r.take 8) (by simp; omega)
        clear hc h0 h1 h2 hs htl hf hs8 hlen8
        generalize rowF (f :: r) = R at *
        generalize num (r.take 8) = m at *
        have hc9 : (9 : Nat) ≤ c := by omega
        go_enter Try.func31, Try.ntmps31
        go_wp2_with fail
        refine (hN _ kW).mono ?_
        rintro e w1 ⟨rfl, rfl⟩
        go_wp2_with fail
        all_goals refine bodyPost_ret (v := .tuple #[Val.v ⟨2, false, wrap64 m, ⟨#[]⟩⟩, .int .i64 9]) (by simp [results, Try.results31, go_sem, Val.v, nilV]) rfl ⟨?_, by first | exact kW | exact (Kp.refl _ _).alloc _⟩
        all_goals (rw [HF.out]; rfl)
      · have HF : Hid (rowF (f :: r) = (nilV, 0)) := by show _ = _; simp [rowF, fixF, h2, h8]
        clear hc h0 h1 h2 hs htl hf
        generalize rowF (f :: r) = R at *
        have h8' : ¬ (8 : Int) < (r.length : Int) + 1 := by omega
        go_enter Try.func31, Try.ntmps31
        go_wp2_with fail
        all_goals refine bodyPost_ret (v := .tuple #[Val.v nilV, .int .i64 0]) (by simp [results, Try.results31, go_sem, Val.v, nilV]) rfl ⟨?_, by first | exact kW | exact (Kp.refl _ _).alloc _⟩
        all_goals (rw [HF.out]; rfl)
    have e2 : ((f.toNat : Int) == 2) = false := by simp; omega
    by_cases h3 : f.toNat = 3
    · rw [h3] at hc0
      cases r with
      | nil =>
        have HF : Hid (rowF (f :: []) = (nilV, 0)) := by show _ = _; simp [rowF, h3]
        clear hc h0 h1 h2 h3 hs htl hf e0 e1 e2
        generalize rowF (f :: []) = R at *
        rw [List.length_nil] at hl ⊢
        go_enter Try.func31, Try.ntmps31
        go_wp2_with fail
        all_goals refine bodyPost_ret (v := .tuple #[Val.v nilV, .int .i64 0]) (by simp [results, Try.results31, go_sem, Val.v, nilV]) rfl ⟨?_, by first | exact kW | exact (Kp.refl _ _).alloc _⟩
        all_goals (rw [HF.out]; rfl)
      | cons y s =>
        clear e0 e1 e2
        have hc1 : w.cell? ⟨g, o + 1, none⟩ = some (.int .u8 y.toNat) := hc 1 y rfl
        rw [List.length_cons] at hl ⊢
        have hy := y.toNat_lt
        by_cases hy6 : y.toNat ≤ 64
        · by_cases hys : y.toNat ≤ s.length
          · have HF : Hid (rowF (f :: y :: s) = (⟨3, false, 0, ⟨(s.take y.toNat).toArray⟩⟩, 2 + y.toNat)) := by show _ = _; simp [rowF, h3, hy6, hys]
            have hs2 : Sees (w.alloc (.cells #[.int .i64 0, .bool false, .int .i64 0, .string ⟨#[]⟩] 35)) (some ⟨g, o + 2, none⟩) (s.take y.toNat) := by
              have := seesKeep ((Sees.tail hs 2).front y.toNat) kW
              simpa [Addr.add_lit] using this
            have hcv := convSees hs2 (c - 2)
            rw [show (s.take y.toNat).length = y.toNat by simp; omega] at hcv
            have hT0 : y.toNat = 0 → (⟨(s.take y.toNat).toArray⟩ : ByteArray) = ⟨#[]⟩ := by intro h; rw [h]; rfl
            have hcv0 := fun a c => convSees (w := w.alloc (.cells #[.int .i64 0, .bool false, .int .i64 0, .string ⟨#[]⟩] 35)) (Sees.nil _ a) c
            rw [List.length_nil] at hcv0
            generalize (⟨(s.take y.toNat).toArray⟩ : ByteArray) = T at *
            clear hc h3 hs htl hf hs2
            generalize rowF (f :: y :: s) = R at *
            generalize y.toNat = n at *
            by_cases hc2 : c = 2
            · subst hc2
              obtain rfl : n = 0 := by omega
              have hT1 := hT0 rfl
              subst hT1
              clear hcv hT0
              go_enter Try.func31, Try.ntmps31
              go_wp2_with fail
              all_goals refine bodyPost_ret (v := .tuple #[Val.v ⟨3, false, 0, ⟨#[]⟩⟩, .int .i64 2]) (by simp [results, Try.results31, go_sem, Val.v, nilV]) rfl ⟨?_, by first | exact kW | exact (Kp.refl _ _).alloc _⟩
              all_goals (rw [HF.out]; rfl)
            clear hcv0 hT0
            go_enter Try.func31, Try.ntmps31
            go_wp2_with fail
            all_goals refine bodyPost_ret (v := .tuple #[Val.v ⟨3, false, 0, T⟩, .int .i64 (2 + (n : Int))]) (by simp [results, Try.results31, go_sem, Val.v, nilV]) rfl ⟨?_, by first | exact kW | exact (Kp.refl _ _).alloc _⟩
            all_goals (rw [HF.out]; rfl)
          · have HF : Hid (rowF (f :: y :: s) = (nilV, 0)) := by show _ = _; simp [rowF, h3, hys]
            clear hc h3 hs htl hf
            generalize rowF (f :: y :: s) = R at *
            go_enter Try.func31, Try.ntmps31
            go_wp2_with fail
            all_goals refine bodyPost_ret (v := .tuple #[Val.v nilV, .int .i64 0]) (by simp [results, Try.results31, go_sem, Val.v, nilV]) rfl ⟨?_, kW⟩
            all_goals (rw [HF.out]; rfl)
        · have HF : Hid (rowF (f :: y :: s) = (nilV, 0)) := by show _ = _; simp [rowF, h3, hy6]
          clear hc h3 hs htl hf
          generalize rowF (f :: y :: s) = R at *
          go_enter Try.func31, Try.ntmps31
          go_wp2_with fail
          all_goals refine bodyPost_ret (v := .tuple #[Val.v nilV, .int .i64 0]) (by simp [results, Try.results31, go_sem, Val.v, nilV]) rfl ⟨?_, kW⟩
          all_goals (rw [HF.out]; rfl)
    have e3 : ((f.toNat : Int) == 3) = false := by simp; omega
    have HF : Hid (rowF (f :: r) = (nilV, 0)) := by show _ = _; simp [rowF, fixF, h0, h1, h2, h3]
    clear hs htl
    by_cases hlen : 1 ≤ r.length
    · obtain ⟨y, s, rfl⟩ : ∃ y s, r = y :: s := by cases r with | nil => simp at hlen | cons y s => exact ⟨y, s, rfl⟩
      have hc1 : w.cell? ⟨g, o + 1, none⟩ = some (.int .u8 y.toNat) := hc 1 y rfl
      clear hc h0 h1 h2 h3 hf
      generalize rowF (f :: y :: s) = R at *
      by_cases h9 : 9 ≤ (y :: s).length + 1
      · go_enter Try.func31, Try.ntmps31
        go_wp2_with fail
        all_goals refine bodyPost_ret (v := .tuple #[Val.v nilV, .int .i64 0]) (by simp [results, Try.results31, go_sem, Val.v, nilV]) rfl ⟨?_, by first | exact kW | exact (Kp.refl _ _).alloc _⟩
        all_goals (rw [HF.out]; rfl)
      · go_enter Try.func31, Try.ntmps31
        go_wp2_with fail
        all_goals refine bodyPost_ret (v := .tuple #[Val.v nilV, .int .i64 0]) (by simp [results, Try.results31, go_sem, Val.v, nilV]) rfl ⟨?_, by first | exact kW | exact (Kp.refl _ _).alloc _⟩
        all_goals (rw [HF.out]; rfl)
    · clear hc h0 h1 h2 h3 hf
      generalize rowF (f :: r) = R at *
      go_enter Try.func31, Try.ntmps31
      go_wp2_with fail
      all_goals refine bodyPost_ret (v := .tuple #[Val.v nilV, .int .i64 0]) (by simp [results, Try.results31, go_sem, Val.v, nilV]) rfl ⟨?_, by first | exact kW | exact (Kp.refl _ _).alloc _⟩
      all_goals (rw [HF.out]; rfl)
end Go.Proofs.Ytlehalhficlenaa

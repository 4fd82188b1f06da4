/- All bytes are read as so many values, in every kind, or refused, as the document says. -/
import Derived.Test.YtpekgpgfdiffcaaGreatB7
import Derived.Test.YtpekgpgfdiffcaaGreatRrd1
import Derived.Deep.RegionHeld3
import Derived.Test.YtpekgpgfdiffcaaGreatB4
import Derived.Test.YtpekgpgfdiffcaaGreatB2
import Derived.Test.YtpekgpgfdiffcaaGreatB1
import Derived.ProofKit
import Derived.OpenShut
import Derived.ShutString
import Derived.ChangeOld
import Derived.ChangeArms
import Derived.Below
import Derived.Deep.Slices
import Derived.Deep.DeepHandedRow
import Derived.SizedLaws
import Derived.JoinedCond
import Derived.Deep.CondSized
section
namespace Go.Proofs.YtpekgpgfdiffcaaGreat
open Go.RowKit Go.Hay
set_option linter.unusedVariables false
set_option linter.unusedSimpArgs false

set_option maxHeartbeats 4000000 in
set_option maxRecDepth 100000 in
theorem cFront (a : Option Addr) (c : Nat) (bs : List UInt8) (w : World) (hs : Sees w a bs) (hl : bs.length ≤ c) (hm : c ≤ maxLen) :
    Calls Tryz.prog 26 #[.slice a bs.length c] w (Tk w (rowF bs)) := by
  have kW : Kp [] w (w.alloc (.cells #[.int .i64 0, .bool false, .int .i64 0, .string ⟨#[]⟩] 38)) := (Kp.refl _ _).alloc _
  have bA := Box4.new w (.int .i64 0) (.bool false) (.int .i64 0) (.string ⟨#[]⟩) 38
  cases bs with
  | nil =>
    go_enter Tryz.func26, Tryz.ntmps26
    go_wp2_with fail
    all_goals refine bodyPost_ret (v := .tuple #[Val.v nilV, .int .i64 0]) (by simp [results, Tryz.results26, go_sem, Val.v, nilV]) rfl ⟨?_, by first | exact kW | exact (Kp.refl _ _).alloc _⟩
    rfl
  | cons f r =>
    obtain ⟨g, o, rfl, hc⟩ : ∃ g o, a = some ⟨g, o, none⟩ ∧ ∀ j u, (f :: r)[j]? = some u → w.cell? ⟨g, o + j, none⟩ = some (.int .u8 u.toNat) := by
      rcases hs with h | h
      · cases h
      · exact h
    have hc0 : w.cell? ⟨g, o, none⟩ = some (.int .u8 f.toNat) := hc 0 f rfl
    have hg := World.block_lt_of_cell? _ _ hc0
    have hf := f.toNat_lt
    have htl := fun n : Nat => (show Sees w (some ⟨g, o + 1, none⟩) (r.take n) by have := (Sees.tail hs 1).front n; simpa [Addr.add_lit] using this)
    rw [List.length_cons] at hl ⊢
    unfold maxLen at hm
    by_cases h0 : f.toNat = 0
    · have HF : Hid (rowF (f :: r) = (nilV, 1)) := by show _ = _; simp [rowF, fixF, h0]
      rw [h0] at hc0
      clear hc h0 hs htl hf
      generalize rowF (f :: r) = R at *
      go_enter Tryz.func26, Tryz.ntmps26
      go_wp2_with fail
      all_goals refine bodyPost_ret (v := .tuple #[Val.v nilV, .int .i64 1]) (by simp [results, Tryz.results26, go_sem, Val.v, nilV]) rfl ⟨?_, by first | exact kW | exact (Kp.refl _ _).alloc _⟩
      all_goals (rw [HF.out]; rfl)
    have e0 : ((f.toNat : Int) == 0) = false := by simp; omega
    by_cases h1 : f.toNat = 1
    · rw [h1] at hc0
      cases r with
      | nil =>
        have HF : Hid (rowF (f :: []) = (nilV, 0)) := by show _ = _; simp [rowF, fixF, h1]
        clear hc h0 h1 hs htl hf e0
        generalize rowF (f :: []) = R at *
        rw [List.length_nil] at hl ⊢
        go_enter Tryz.func26, Tryz.ntmps26
        go_wp2_with fail
        all_goals refine bodyPost_ret (v := .tuple #[Val.v nilV, .int .i64 0]) (by simp [results, Tryz.results26, go_sem, Val.v, nilV]) rfl ⟨?_, by first | exact kW | exact (Kp.refl _ _).alloc _⟩
        all_goals (rw [HF.out]; rfl)
      | cons y s =>
        have hc1 : w.cell? ⟨g, o + 1, none⟩ = some (.int .u8 y.toNat) := hc 1 y rfl
        rw [List.length_cons] at hl ⊢
        have hy := y.toNat_lt
        by_cases hy1 : y.toNat ≤ 1
        · have HF : Hid (rowF (f :: y :: s) = (⟨1, y.toNat == 1, 0, ⟨#[]⟩⟩, 2)) := by show _ = _; simp [rowF, fixF, h1, hy1]
          clear hc h0 h1 hs htl hf e0
          generalize rowF (f :: y :: s) = R at *
          obtain ⟨b, Hb⟩ : ∃ b : Bool, Hid ((y.toNat == 1) = b) := ⟨_, rfl⟩
          rw [Hb.out] at HF
          have hbb : ((y.toNat : Int) == 1) = b := by rw [← Hb.out, Bool.eq_iff_iff]; simp; omega
          have hy2 : (y.toNat : Int) < 2 := by omega
          go_enter Tryz.func26, Tryz.ntmps26
          go_wp2_with fail
          all_goals refine bodyPost_ret (v := .tuple #[Val.v ⟨1, b, 0, ⟨#[]⟩⟩, .int .i64 2]) (by simp [results, Tryz.results26, go_sem, Val.v, nilV]) rfl ⟨?_, by first | exact kW | exact (Kp.refl _ _).alloc _⟩
          all_goals (rw [HF.out]; rfl)
        · have HF : Hid (rowF (f :: y :: s) = (nilV, 0)) := by show _ = _; simp [rowF, fixF, h1, hy1]
          clear hc h0 h1 hs htl hf e0
          generalize rowF (f :: y :: s) = R at *
          have hy2 : ¬ (y.toNat : Int) < 2 := by omega
          go_enter Tryz.func26, Tryz.ntmps26
          go_wp2_with fail
          all_goals refine bodyPost_ret (v := .tuple #[Val.v nilV, .int .i64 0]) (by simp [results, Tryz.results26, go_sem, Val.v, nilV]) rfl ⟨?_, by first | exact kW | exact (Kp.refl _ _).alloc _⟩
          all_goals (rw [HF.out]; rfl)
    have e1 : ((f.toNat : Int) == 1) = false := by simp; omega
    by_cases h2 : f.toNat = 2
    · rw [h2] at hc0
      by_cases h8 : 8 ≤ r.length
      · have HF : Hid (rowF (f :: r) = (⟨2, false, wrap64 (num (r.take 8)), ⟨#[]⟩⟩, 9)) := by show _ = _; simp [rowF, fixF, h2, h8]
        have hs8 := fun w' (k : Kp [] w w') => seesKeep (htl 8) k
        have hlen8 : 8 = (r.take 8).length := by simp; omega
        have hN := fun w' (k : Kp [] w w') => cRefSaid _ 8 (c - 1) (r.take 8) w' (hs8 w' k) hlen8 (by simp; omega)
        have hnb := num_lt64 (r.take 8) (by simp; omega)
        clear hc h0 h1 h2 hs htl hf hs8 hlen8
        generalize rowF (f :: r) = R at *
        generalize num (r.take 8) = m at *
        have hc9 : (9 : Nat) ≤ c := by omega
        go_enter Tryz.func26, Tryz.ntmps26
        go_wp2_with fail
        refine (hN _ kW).mono ?_
        rintro e w1 ⟨rfl, rfl⟩
        go_wp2_with fail
        all_goals refine bodyPost_ret (v := .tuple #[Val.v ⟨2, false, wrap64 m, ⟨#[]⟩⟩, .int .i64 9]) (by simp [results, Tryz.results26, go_sem, Val.v, nilV]) rfl ⟨?_, by first | exact kW | exact (Kp.refl _ _).alloc _⟩
        all_goals (rw [HF.out]; rfl)
      · have HF : Hid (rowF (f :: r) = (nilV, 0)) := by show _ = _; simp [rowF, fixF, h2, h8]
        clear hc h0 h1 h2 hs htl hf
        generalize rowF (f :: r) = R at *
        have h8' : ¬ (8 : Int) < (r.length : Int) + 1 := by omega
        go_enter Tryz.func26, Tryz.ntmps26
        go_wp2_with fail
        all_goals refine bodyPost_ret (v := .tuple #[Val.v nilV, .int .i64 0]) (by simp [results, Tryz.results26, go_sem, Val.v, nilV]) rfl ⟨?_, by first | exact kW | exact (Kp.refl _ _).alloc _⟩
        all_goals (rw [HF.out]; rfl)
    have e2 : ((f.toNat : Int) == 2) = false := by simp; omega
    by_cases h3 : f.toNat = 3
    · rw [h3] at hc0
      cases r with
      | nil =>
        have HF : Hid (rowF (f :: []) = (nilV, 0)) := by show _ = _; simp [rowF, h3]
        clear hc h0 h1 h2 h3 hs htl hf e0 e1 e2
        generalize rowF (f :: []) = R at *
        rw [List.length_nil] at hl ⊢
        go_enter Tryz.func26, Tryz.ntmps26
        go_wp2_with fail
        all_goals refine bodyPost_ret (v := .tuple #[Val.v nilV, .int .i64 0]) (by simp [results, Tryz.results26, go_sem, Val.v, nilV]) rfl ⟨?_, by first | exact kW | exact (Kp.refl _ _).alloc _⟩
        all_goals (rw [HF.out]; rfl)
      | cons y s =>
        clear e0 e1 e2
        have hc1 : w.cell? ⟨g, o + 1, none⟩ = some (.int .u8 y.toNat) := hc 1 y rfl
        rw [List.length_cons] at hl ⊢
        have hy := y.toNat_lt
        by_cases hy6 : y.toNat ≤ 64
        · by_cases hys : y.toNat ≤ s.length
          · have HF : Hid (rowF (f :: y :: s) = (⟨3, false, 0, ⟨(s.take y.toNat).toArray⟩⟩, 2 + y.toNat)) := by show _ = _; simp [rowF, h3, hy6, hys]
            have hs2 : Sees (w.alloc (.cells #[.int .i64 0, .bool false, .int .i64 0, .string ⟨#[]⟩] 38)) (some ⟨g, o + 2, none⟩) (s.take y.toNat) := by
              have := seesKeep ((Sees.tail hs 2).front y.toNat) kW
              simpa [Addr.add_lit] using this
            have hcv := convSees hs2 (c - 2)
            rw [show (s.take y.toNat).length = y.toNat by simp; omega] at hcv
            have hT0 : y.toNat = 0 → (⟨(s.take y.toNat).toArray⟩ : ByteArray) = ⟨#[]⟩ := by intro h; rw [h]; rfl
            have hcv0 := fun a c => convSees (w := w.alloc (.cells #[.int .i64 0, .bool false, .int .i64 0, .string ⟨#[]⟩] 38)) (Sees.nil _ a) c
            rw [List.length_nil] at hcv0
            generalize (⟨(s.take y.toNat).toArray⟩ : ByteArray) = T at *
            clear hc h3 hs htl hf hs2
            generalize rowF (f :: y :: s) = R at *
            generalize y.toNat = n at *
            by_cases hc2 : c = 2
            · subst hc2
              obtain rfl : n = 0 := by omega
              have hT1 := hT0 rfl
              subst hT1
              clear hcv hT0
              go_enter Tryz.func26, Tryz.ntmps26
              go_wp2_with fail
              all_goals refine bodyPost_ret (v := .tuple #[Val.v ⟨3, false, 0, ⟨#[]⟩⟩, .int .i64 2]) (by simp [results, Tryz.results26, go_sem, Val.v, nilV]) rfl ⟨?_, by first | exact kW | exact (Kp.refl _ _).alloc _⟩
              all_goals (rw [HF.out]; rfl)
            clear hcv0 hT0
            go_enter Tryz.func26, Tryz.ntmps26
            go_wp2_with fail
            all_goals refine bodyPost_ret (v := .tuple #[Val.v ⟨3, false, 0, T⟩, .int .i64 (2 + (n : Int))]) (by simp [results, Tryz.results26, go_sem, Val.v, nilV]) rfl ⟨?_, by first | exact kW | exact (Kp.refl _ _).alloc _⟩
            all_goals (rw [HF.out]; rfl)
          · have HF : Hid (rowF (f :: y :: s) = (nilV, 0)) := by show _ = _; simp [rowF, h3, hys]
            clear hc h3 hs htl hf
            generalize rowF (f :: y :: s) = R at *
            go_enter Tryz.func26, Tryz.ntmps26
            go_wp2_with fail
            all_goals refine bodyPost_ret (v := .tuple #[Val.v nilV, .int .i64 0]) (by simp [results, Tryz.results26, go_sem, Val.v, nilV]) rfl ⟨?_, kW⟩
            all_goals (rw [HF.out]; rfl)
        · have HF : Hid (rowF (f :: y :: s) = (nilV, 0)) := by show _ = _; simp [rowF, h3, hy6]
          clear hc h3 hs htl hf
          generalize rowF (f :: y :: s) = R at *
          go_enter Tryz.func26, Tryz.ntmps26
          go_wp2_with fail
          all_goals refine bodyPost_ret (v := .tuple #[Val.v nilV, .int .i64 0]) (by simp [results, Tryz.results26, go_sem, Val.v, nilV]) rfl ⟨?_, kW⟩
          all_goals (rw [HF.out]; rfl)
    have e3 : ((f.toNat : Int) == 3) = false := by simp; omega
    have HF : Hid (rowF (f :: r) = (nilV, 0)) := by show _ = _; simp [rowF, fixF, h0, h1, h2, h3]
    clear hs htl
    by_cases hlen : 1 ≤ r.length
    · obtain ⟨y, s, rfl⟩ : ∃ y s, r = y :: s := by cases r with | nil => simp at hlen | cons y s => exact ⟨y, s, rfl⟩
      have hc1 : w.cell? ⟨g, o + 1, none⟩ = some (.int .u8 y.toNat) := hc 1 y rfl
      clear hc h0 h1 h2 h3 hf
      generalize rowF (f :: y :: s) = R at *
      by_cases h9 : 9 ≤ (y :: s).length + 1
      · go_enter Tryz.func26, Tryz.ntmps26
        go_wp2_with fail
        all_goals refine bodyPost_ret (v := .tuple #[Val.v nilV, .int .i64 0]) (by simp [results, Tryz.results26, go_sem, Val.v, nilV]) rfl ⟨?_, by first | exact kW | exact (Kp.refl _ _).alloc _⟩
        all_goals (rw [HF.out]; rfl)
      · go_enter Tryz.func26, Tryz.ntmps26
        go_wp2_with fail
        all_goals refine bodyPost_ret (v := .tuple #[Val.v nilV, .int .i64 0]) (by simp [results, Tryz.results26, go_sem, Val.v, nilV]) rfl ⟨?_, by first | exact kW | exact (Kp.refl _ _).alloc _⟩
        all_goals (rw [HF.out]; rfl)
    · clear hc h0 h1 h2 h3 hf
      generalize rowF (f :: r) = R at *
      go_enter Tryz.func26, Tryz.ntmps26
      go_wp2_with fail
      all_goals refine bodyPost_ret (v := .tuple #[Val.v nilV, .int .i64 0]) (by simp [results, Tryz.results26, go_sem, Val.v, nilV]) rfl ⟨?_, by first | exact kW | exact (Kp.refl _ _).alloc _⟩
      all_goals (rw [HF.out]; rfl)
end Go.Proofs.YtpekgpgfdiffcaaGreat
end

section
namespace Go.Proofs.YtpekgpgfdiffcaaGreat
open Go.RowKit Go.Hay
set_option linter.unusedVariables false
set_option linter.unusedSimpArgs false

/-- Values that are handed back, all new. -/
def RvP (w : World) (l : List Val) (e : Ending) (w' : World) : Prop := ∃ a c, e = .returned (.slice a l.length c) ∧ NwV w w' a c l
theorem rvP_nil (w w' : World) (k : Kp [] w w') : RvP w [] (.returned (.slice none 0 0)) w' := ⟨none, 0, rfl, (NwV.nil w).keep k⟩
/-- The bytes from a place on. -/
theorem tailB {w : World} {a : Option Addr} {bs : List UInt8} (hs : Sees w a bs) (c A : Nat) (hA : A ≤ bs.length) (hl : bs.length ≤ c) : ∃ ba, (∀ g o, a = some ⟨g, o, none⟩ → (if c = A then some ⟨g, o, none⟩ else some ⟨g, o + A, none⟩ : Option Addr) = ba) ∧ Sees w ba (bs.drop A) := by
  cases a with
  | none =>
    refine ⟨none, (fun g o e => by cases e), ?_⟩
    rcases hs with h | ⟨g, o, e, _⟩
    · subst h; simp; exact .inl rfl
    · cases e
  | some ad =>
    rcases hs with h | ⟨g, o, e, hc⟩
    · subst h
      obtain ⟨g, o, t⟩ := ad
      refine ⟨if c = A then some ⟨g, o, none⟩ else some ⟨g, o + A, none⟩, (fun g' o' e => by cases e; rfl), ?_⟩
      simp; exact .inl rfl
    · cases e
      refine ⟨_, (fun g' o' e => by cases e; rfl), ?_⟩
      split
      · have : bs.drop A = [] := List.drop_eq_nil_of_le (by omega)
        rw [this]; exact .inl rfl
      · have := Sees.tail (show Sees w (some ⟨g, o, none⟩) bs from .inr ⟨g, o, rfl, hc⟩) A; simpa [Addr.add_lit] using this
theorem NwV.app2 {w W : World} {a : Option Addr} {c : Nat} {l : List Val} (h : NwV w W a c l) (x : Val) (hl : l.length ≤ 100000) :
    ∃ v' W', (Builtin.append_ #[23, 23] 23 #[.slice a l.length c, .slice (some ⟨W.heap.size, 0, none⟩) 1 1]).run Tryz.prog (W.alloc (.cells #[.int .i64 x.k, .bool x.b, .int .i64 x.n, .string x.t] 38)) = .ok v' W' ∧ ∃ a' c', v' = .slice a' (l.length + 1) c' ∧ NwV w W' a' c' (l ++ [x]) ∧ Kp (blk a) W W' ∧ ∀ k ∈ blk a', k ∈ blk a ∨ W.heap.size < k := by
  obtain ⟨i0, hi, hz0, hz1, hz2⟩ := infoV'
  have kA : Kp [] W (W.alloc (.cells #[.int .i64 x.k, .bool x.b, .int .i64 x.n, .string x.t] 38)) := (Kp.refl _ _).alloc _
  have hsrc := (oneV W rfl x 38).src (P := Tryz.prog) Tryz.underlying23 1
  obtain ⟨v6, X4, hrun2, hrow6, kk6, hn6⟩ := run_appendG (E := VE) (P := Tryz.prog) _ 23 23 23 38 i0 _ 40 Tryz.underlying23 hi hz0 hz1 hz2 rfl (.slice a l.length c) l (h.row.keptNew kA) _ [x] hsrc (by simp; omega) (by simp; omega)
  obtain ⟨a6, c6, rfl, _⟩ := hrow6.see
  rw [ownS] at kk6
  have el : (l ++ [x]).length = l.length + 1 := by simp
  refine ⟨_, X4, hrun2, a6, c6, by rw [el], ⟨hrow6, fun q hq => ?_, (h.kp.trans kA (by simp)).trans kk6 (fun q hq => .inr (h.new q hq))⟩, (kA.mono (fun x hx => by simp at hx)).trans kk6 (fun q hq => .inl hq), fun q hq => ?_⟩
  · rcases hn6 q (by rw [ownS]; exact hq) with h1 | h1
    · rw [ownS] at h1; exact h.new q h1
    · have := h.kp.size; have := kA.size; omega
  · rcases hn6 q (by rw [ownS]; exact hq) with h1 | h1
    · rw [ownS] at h1; exact .inl h1
    · refine .inr ?_
      simp at h1
      omega
set_option maxHeartbeats 8000000 in
set_option maxRecDepth 100000 in
theorem cRdPlain (a : Option Addr) (c : Nat) (bs : List UInt8) (many : Nat) (w : World) (hs : Sees w a bs) (hl : bs.length ≤ c) (hm : c ≤ maxLen) (hb : bs.length ≤ 900000000000000) (hmn : many ≤ 64) :
    Calls Tryz.prog 12 #[.slice a bs.length c, .int .i64 many] w (RvP w (orNil ((tkF many [] bs).map Prod.fst))) := by
  obtain ⟨F, hF⟩ : ∃ F, Hid (orNil ((tkF many [] bs).map Prod.fst) = F) := ⟨_, rfl⟩
  rw [hF.out]
  have hn0 := hid (NwV.nil w)
  have hs' := hid hs
  have hmx := hid hm
  unfold maxLen at hm
  clear hs
  go_enter Tryz.func12, Tryz.ntmps12
  go_wp2_with fail
  go_loopw [5, 6, 7] (fun v5 v6 i wn => ∃ (j A : Nat) (la : Option Addr) (lc : Nat) (acc : List Val), j ≤ many ∧ i = .int .i64 j ∧ A ≤ bs.length ∧ v6 = .int .i64 A ∧ v5 = .slice la acc.length lc ∧ NwV w wn la lc acc ∧ Hid (acc.length = j) ∧ Hid (orNil ((tkF (many - j) acc (bs.drop A)).map Prod.fst) = F)) (fun _ _ i _ => many - (intOf i).toNat)
  case atStart => exact ⟨0, 0, none, 0, [], Nat.zero_le _, rfl, Nat.zero_le _, rfl, rfl, hn0.out, rfl, by rw [Nat.sub_zero, List.drop_zero]; exact hF⟩
  case round =>
    clear hn0 hF
    obtain ⟨j, A, la, lc, acc, hj, rfl, hA, rfl, rfl, I, hal, hF⟩ := hrel
    have hal2 : acc.length ≤ 64 := by rw [hal.out]; omega
    by_cases hlt : j < many
    · obtain ⟨ba, hba, hsb⟩ := tailB hs'.out c A hA hl
      have hdl : (bs.drop A).length = bs.length - A := by simp
      have cF := cFront ba (c - A) (bs.drop A) wr (hsb.kept I.kp (by simp)) (by rw [hdl]; omega) (by have := hmx.out; unfold maxLen at this ⊢; omega)
      rw [hdl] at cF
      have hle := rowF_le (bs.drop A)
      rw [hdl] at hle
      rw [show many - j = (many - (j + 1)) + 1 by omega, tkF] at hF
      have hd2 : Hid (∀ n, (bs.drop A).drop n = bs.drop (A + n)) := fun n => by rw [List.drop_drop]
      obtain ⟨⟨v, n⟩, hR⟩ : ∃ t, Hid (rowF (bs.drop A) = t) := ⟨_, rfl⟩
      rw [hR.out] at cF hle hF
      unfold Tk at cF
      dsimp only at cF hle hF
      rw [hd2.out] at hF
      have hxv : Hid (v.v = .agg #[.int .i64 v.k, .bool v.b, .int .i64 v.n, .string v.t]) := rfl
      rw [hxv.out] at cF
      have hI := hid I
      have hbe := hid hba
      clear I hxv hsb hR hd2 hdl hba
      have hbx : Hid (∀ w1, Kp [] wr w1 → ∀ wb, w1.alloc (.cells #[.int .i64 v.k, .bool v.b, .int .i64 v.n, .string v.t] 38) = wb → Kp [] w1 wb ∧ Box4 wb w1.heap.size (.int .i64 v.k) (.bool v.b) (.int .i64 v.n) (.string v.t)) := fun w1 k1 wb hwb => ⟨by rw [← hwb]; exact (Kp.refl _ _).alloc _, by rw [← hwb]; exact Box4.new _ _ _ _ _ _⟩
      by_cases hbe0 : bs.length = 0
      · have hA0 : A = 0 := by omega
        have hn00 : n = 0 := by omega
        subst hA0 hn00
        rw [if_pos rfl] at hF
        have hfin : Hid (∀ W, Kp [] w W → RvP w F (.returned (.slice none 0 0)) W) := fun W kW => by rw [← hF.out]; exact rvP_nil w W kW
        have kI := hI.out.kp
        rw [hbe0]
        clear hF hI
        have cF0 := cFront a c [] wr (.inl rfl) (by simp) hmx.out
        have e0 : rowF [] = (nilV, 0) := rfl
        rw [e0] at cF0
        unfold Tk at cF0
        dsimp only [List.length_nil] at cF0
        have hnv : Hid (nilV.v = .agg #[.int .i64 0, .bool false, .int .i64 0, .string ⟨#[]⟩]) := rfl
        rw [hnv.out] at cF0
        clear hnv e0 hbx cF
        go_wp2_with fail
        refine cF0.mono ?_
        rintro e w1 ⟨rfl, k1⟩
        have hf := hfin.out _ ((kI.trans k1 (by simp)).alloc (.cells #[.int .i64 0, .bool false, .int .i64 0, .string ⟨#[]⟩] 38))
        clear hfin cF0
        go_wp2_with fail
        go_ret
        exact hf
      · obtain ⟨g, o, rfl⟩ : ∃ g o, a = some ⟨g, o, none⟩ := by
          rcases hs'.out with h | ⟨g, o, h, _⟩
          · rw [h] at hbe0; simp at hbe0
          · exact ⟨g, o, h⟩
        have hbe2 := hbe.out g o rfl
        clear hbe
        go_wp2_with fail
        refine cF.mono ?_
        rintro e w1 ⟨rfl, k1⟩
        obtain ⟨wb, hwb⟩ : ∃ wb, w1.alloc (.cells #[.int .i64 v.k, .bool v.b, .int .i64 v.n, .string v.t] 38) = wb := ⟨_, rfl⟩
        obtain ⟨kb, bx⟩ := hbx.out w1 k1 wb hwb
        have kwb := k1.trans kb (by simp)
        clear hbx cF
        by_cases hn : n = 0
        · subst hn
          rw [if_pos rfl] at hF
          have hfin : RvP w F (.returned (.slice none 0 0)) wb := by rw [← hF.out]; exact rvP_nil w wb (hI.out.kp.trans kwb (by simp))
          clear hF hI
          go_wp2_with fail
          go_ret
          exact hfin
        · rw [if_neg hn] at hF
          have hn' : ((n : Int) == 0) = false := by rw [beq_eq_false_iff_ne]; omega
          have p0 := bx.c0; have p1 := bx.c1; have p2 := bx.c2; have p3 := bx.c3
          obtain ⟨v3, X3, hrun3, a3, c3, rfl, I3, _⟩ := (hI.out.keep kwb).app1 v (by omega)
          have hnx : Hid (∃ (j' A' : Nat) (la : Option Addr) (lc : Nat) (acc' : List Val), j' ≤ many ∧ (.int .i64 ((j : Int) + 1) : Value) = .int .i64 j' ∧ A' ≤ bs.length ∧ (.int .i64 ((A : Int) + (n : Int)) : Value) = .int .i64 A' ∧ (.slice a3 (acc.length + 1) c3 : Value) = .slice la acc'.length lc ∧ NwV w X3 la lc acc' ∧ Hid (acc'.length = j') ∧ Hid (orNil ((tkF (many - j') acc' (bs.drop A')).map Prod.fst) = F)) :=
            ⟨j + 1, A + n, a3, c3, acc ++ [v], by omega, by go_num, by omega, by go_num, by simp, I3, by show _ = _; simp [hal.out], hF⟩
          clear I3 hI hF hal bx
          go_wp2_with (first | (refine wpAppRun rfl _ _ 23 23 rfl _ _ _ rfl rfl hrun3 ?_) | fail)
          exact ⟨hnx.out, by simp [intOf]; omega⟩
    · obtain rfl : j = many := by omega
      have hfin : RvP w F (.returned (.slice la acc.length lc)) wr := by
        have e : F = acc := by rw [← hF.out, Nat.sub_self, tkF]; rfl
        rw [e]
        exact ⟨la, lc, rfl, I⟩
      clear I hF
      go_wp2_with fail
      go_ret
      exact hfin
end Go.Proofs.YtpekgpgfdiffcaaGreat
end

section
namespace Go.Proofs.YtpekgpgfdiffcaaGreat
open Go.RowKit Go.Hay
set_option linter.unusedVariables false
set_option linter.unusedSimpArgs false

theorem dropCons {bs : List UInt8} {A : Nat} (h : A < bs.length) : bs.drop A = bs[A] :: bs.drop (A + 1) := List.drop_eq_getElem_cons h
set_option maxHeartbeats 8000000 in
set_option maxRecDepth 100000 in
theorem cRdRuns (a : Option Addr) (c : Nat) (bs : List UInt8) (many : Nat) (w : World) (hs : Sees w a bs) (hl : bs.length ≤ c) (hm : c ≤ maxLen) (hb : bs.length ≤ 900000000000000) (hmn : many ≤ 64) :
    Calls Tryz.prog 13 #[.slice a bs.length c, .int .i64 many] w (RvP w (rpR many [] bs)) := by
  obtain ⟨F, hF⟩ : ∃ F, Hid (rpR many [] bs = F) := ⟨_, rfl⟩
  rw [hF.out]
  have hn0 := hid (NwV.nil w)
  have hs' := hid hs
  have hmx := hid hm
  unfold maxLen at hm
  clear hs
  go_enter Tryz.func13, Tryz.ntmps13
  go_wp2_with fail
  go_loopw [5, 6] (fun v5 v6 wn => ∃ (A : Nat) (la : Option Addr) (lc : Nat) (acc : List Val), A ≤ bs.length ∧ v6 = .int .i64 A ∧ v5 = .slice la acc.length lc ∧ acc.length ≤ 400 ∧ NwV w wn la lc acc ∧ Hid (rpR many acc (bs.drop A) = F)) (fun _ v6 _ => bs.length - (intOf v6).toNat)
  case atStart => exact ⟨0, none, 0, [], Nat.zero_le _, rfl, rfl, Nat.zero_le _, hn0.out, by rw [List.drop_zero]; exact hF⟩
  case round =>
    clear hn0 hF
    obtain ⟨A, la, lc, acc, hA, rfl, rfl, hal, I, hF⟩ := hrel
    by_cases hlt : A < bs.length
    · have dA : (A : Int) < (bs.length : Int) := by omega
      rw [dropCons hlt, rpR_cons] at hF
      by_cases hmo : many ≤ acc.length
      · rw [if_pos hmo] at hF
        have hfin : RvP w F (.returned (.slice la acc.length lc)) wr := by rw [← hF.out]; exact ⟨la, lc, rfl, I⟩
        have dm : ¬ (acc.length : Int) < (many : Int) := by omega
        have dm2 : ¬ acc.length < many := by omega
        clear I hF
        go_wp2_with fail
        go_ret
        exact hfin
      · rw [if_neg hmo] at hF
        have dm : (acc.length : Int) < (many : Int) := by omega
        have dm2 : acc.length < many := by omega
        obtain ⟨g, o, rfl, hc⟩ : ∃ g o, a = some ⟨g, o, none⟩ ∧ ∀ j u, bs[j]? = some u → w.cell? ⟨g, o + j, none⟩ = some (.int .u8 u.toNat) := by
          rcases hs'.out with h | h
          · rw [h] at hlt; simp at hlt
          · exact h
        have hcx : Hid (∀ W, Kp [] w W → W.cell? ⟨g, o + A, none⟩ = some (.int .u8 (bs[A]'hlt).toNat)) := fun W kW => kpAt kW (hc A _ (by simp [hlt]))
        obtain ⟨ba, hba, hsb⟩ := tailB hs'.out c (A + 1) (by omega) hl
        have hdl : (bs.drop (A + 1)).length = bs.length - (A + 1) := by simp
        have cF := cFront ba (c - (A + 1)) (bs.drop (A + 1)) wr (hsb.kept I.kp (by simp)) (by rw [hdl]; omega) (by have := hmx.out; unfold maxLen at this ⊢; omega)
        rw [hdl] at cF
        have hle := rowF_le (bs.drop (A + 1))
        rw [hdl] at hle
        have hd2 : Hid (∀ n, (bs.drop (A + 1)).drop n = bs.drop (A + 1 + n)) := fun n => by rw [List.drop_drop]
        obtain ⟨⟨v, n⟩, hR⟩ : ∃ t, Hid (rowF (bs.drop (A + 1)) = t) := ⟨_, rfl⟩
        rw [hR.out] at cF hle hF
        have hx := (bs[A]'hlt).toNat_lt
        obtain ⟨x, hxx⟩ : ∃ x, Hid ((bs[A]'hlt).toNat = x) := ⟨_, by show _ = _; rfl⟩
        rw [hxx.out] at hF hx
        simp only [hxx.out] at hcx
        unfold Tk at cF
        dsimp only at cF hle hF
        rw [hd2.out] at hF
        have hxv : Hid (v.v = .agg #[.int .i64 v.k, .bool v.b, .int .i64 v.n, .string v.t]) := rfl
        rw [hxv.out] at cF
        have hI := hid I
        have hbe2 := hba g o rfl
        obtain ⟨A1, hA1⟩ : ∃ A1, A + 1 = A1 := ⟨_, rfl⟩
        rw [hA1] at cF hbe2 hle hF
        have eA1 : (A : Int) + 1 = (A1 : Int) := by omega
        have hA1' := hid hA1
        clear I hxv hsb hR hd2 hdl hba hc hA1
        have hA1l : A1 ≤ bs.length := by have := hA1'.out; omega
        go_wp2_with fail
        refine cF.mono ?_
        rintro e w1 ⟨rfl, k1⟩
        obtain ⟨wb, hwb⟩ : ∃ wb, w1.alloc (.cells #[.int .i64 v.k, .bool v.b, .int .i64 v.n, .string v.t] 38) = wb := ⟨_, rfl⟩
        have kb : Kp [] w1 wb := by rw [← hwb]; exact (Kp.refl _ _).alloc _
        have bx : Box4 wb w1.heap.size (.int .i64 v.k) (.bool v.b) (.int .i64 v.n) (.string v.t) := by rw [← hwb]; exact Box4.new _ _ _ _ _ _
        have kwb := k1.trans kb (by simp)
        have kww := hI.out.kp.trans kwb (by simp)
        clear cF hbe2
        by_cases hn : n = 0
        · subst hn
          rw [if_pos rfl] at hF
          have hfin : RvP w F (.returned (.slice none 0 0)) wb := by rw [← hF.out]; exact rvP_nil w wb kww
          clear hF hI
          go_wp2_with fail
          go_ret
          exact hfin
        · rw [if_neg hn] at hF
          have hn' : ((n : Int) == 0) = false := by rw [beq_eq_false_iff_ne]; omega
          have I2 := hI.out.keep kwb
          have hq : w1.heap.size ∉ blk la := fun hm' => by have := hI.out.row.lt _ (by rw [ownS]; exact hm'); have := k1.size; omega
          have R0 : Hid (NwV w wb la lc (acc ++ List.replicate 0 v) ∧ w1.heap.size ∉ blk la) := ⟨by simpa using I2, hq⟩
          have hcb := hcx.out wb kww
          clear hI I2 hq
          go_wp2_with fail
          go_loopw [5, 9] (fun v5 i wn => ∃ (k : Nat) (la : Option Addr) (lc : Nat) (ac : List Val), k ≤ x ∧ i = .int .i64 k ∧ v5 = .slice la ac.length lc ∧ Hid (ac = acc ++ List.replicate k v) ∧ NwV w wn la lc ac ∧ w1.heap.size ∉ blk la ∧ Box4 wn w1.heap.size (.int .i64 v.k) (.bool v.b) (.int .i64 v.n) (.string v.t)) (fun _ i _ => x - (intOf i).toNat)
          case atStart => exact ⟨0, la, lc, acc, Nat.zero_le _, rfl, rfl, by show _ = _; simp, by simpa using R0.out.1, R0.out.2, bx⟩
          case round =>
            clear R0 bx kb hwb hcb
            obtain ⟨k, la', lc', ac, hk, rfl, rfl, hac, I, hqn, bx⟩ := hrel
            have hacl : ac.length ≤ 700 := by rw [hac.out]; simp; omega
            have hcb := hcx.out wr I.kp
            by_cases hkx : k < x
            · have p0 := bx.c0; have p1 := bx.c1; have p2 := bx.c2; have p3 := bx.c3
              obtain ⟨v3, X3, hrun3, a3, c3, rfl, I3, kk3, hn3⟩ := I.app2 v (by omega)
              have hQ : w1.heap.size ∉ blk a3 := fun hm' => by
                rcases hn3 _ hm' with h | h
                · exact hqn h
                · have := bx.lt; omega
              have hnx : Hid (∃ (k' : Nat) (la : Option Addr) (lc : Nat) (ac' : List Val), k' ≤ x ∧ (.int .i64 ((k : Int) + 1) : Value) = .int .i64 k' ∧ (.slice a3 (ac.length + 1) c3 : Value) = .slice la ac'.length lc ∧ Hid (ac' = acc ++ List.replicate k' v) ∧ NwV w X3 la lc ac' ∧ w1.heap.size ∉ blk la ∧ Box4 X3 w1.heap.size (.int .i64 v.k) (.bool v.b) (.int .i64 v.n) (.string v.t)) := by
                refine ⟨k + 1, a3, c3, ac ++ [v], by omega, by go_num, by simp, by show _ = _; rw [hac.out, List.append_assoc, ← List.replicate_succ'], I3, ?_, bx.kept kk3 hqn⟩
                intro hm'
                exact hQ hm'
              clear I I3 bx kk3 hac hn3 hQ
              go_wp2_with (first | (refine wpAppRun rfl _ _ 23 23 rfl _ _ _ rfl rfl hrun3 ?_) | fail)
              exact ⟨hnx.out, by simp [intOf]; omega⟩
            · obtain rfl : k = x := by omega
              have hal3 : ac.length ≤ 400 := by rw [hac.out]; simp; omega
              rw [← hac.out] at hF
              have hN : Hid (∃ (A' : Nat) (la : Option Addr) (lc : Nat) (acc' : List Val), A' ≤ bs.length ∧ (.int .i64 ((A1 : Int) + (n : Int)) : Value) = .int .i64 A' ∧ (.slice la' ac.length lc' : Value) = .slice la acc'.length lc ∧ acc'.length ≤ 400 ∧ NwV w wr la lc acc' ∧ Hid (rpR many acc' (bs.drop A') = F)) :=
                ⟨A1 + n, la', lc', ac, by omega, by go_num, rfl, hal3, I, hF⟩
              have hAA := hA1'.out
              clear I bx hac hF
              go_wp2_with fail
              exact ⟨hN.out, by simp [intOf]; omega⟩
    · obtain rfl : A = bs.length := by omega
      rw [List.drop_length, rpR_nil] at hF
      have hfin : RvP w F (.returned (.slice la acc.length lc)) wr := by rw [← hF.out]; exact ⟨la, lc, rfl, I⟩
      clear I hF
      go_wp2_with fail
      go_ret
      exact hfin
end Go.Proofs.YtpekgpgfdiffcaaGreat
end

section
namespace Go.Proofs.YtpekgpgfdiffcaaGreat
open Go.RowKit Go.Hay
set_option linter.unusedVariables false
set_option linter.unusedSimpArgs false

theorem NwV.one (w w1 : World) (k : Kp [] w w1) (x : Val) (t : TypeId) : NwV w (w1.alloc (.cells #[.int .i64 x.k, .bool x.b, .int .i64 x.n, .string x.t] t)) (some ⟨w1.heap.size, 0, none⟩) 1 [x] :=
  ⟨rowOneV w1 rfl x t, fun q hq => by simp [blk] at hq; have := k.size; omega, k.alloc _⟩
theorem zag_pos {z : Nat} (h : z % 2 = 0) : zag z = ((z / 2 : Nat) : Int) := by unfold zag; rw [if_pos h]
theorem zag_neg {z : Nat} (h : ¬ z % 2 = 0) : zag z = -((z / 2 : Nat) : Int) - 1 := by unfold zag; rw [if_neg h]
theorem zz_lt (z s : Nat) (x : UInt8) : zz z s x < 18446744073709551616 := by unfold zz; omega
theorem pow_min (y S : Nat) : y * 2 ^ min S 64 % 18446744073709551616 = y * 2 ^ S % 18446744073709551616 := by
  by_cases h : S ≤ 64
  · rw [Nat.min_eq_left h]
  · have e1 : min S 64 = 64 := by omega
    have e2 : y * 2 ^ S = y * 2 ^ (S - 64) * 18446744073709551616 := by
      have : S = (S - 64) + 64 := by omega
      conv => lhs; rw [this, Nat.pow_add]
      rw [← Nat.mul_assoc]
    have e3 : y * 2 ^ 64 = y * 18446744073709551616 := by rfl
    rw [e1, e2, e3, Nat.mul_mod_left, Nat.mul_mod_left]
set_option maxHeartbeats 8000000 in
set_option maxRecDepth 100000 in
theorem cRdDeltas (a : Option Addr) (c : Nat) (bs : List UInt8) (many : Nat) (w : World) (hs : Sees w a bs) (hl : bs.length ≤ c) (hm : c ≤ maxLen) (hb : bs.length ≤ 900000000000000) (hmn : many ≤ 64) :
    Calls Tryz.prog 14 #[.slice a bs.length c, .int .i64 many] w (RvP w (rpDl many bs)) := by
  obtain ⟨F, hFF⟩ : ∃ F, Hid (rpDl many bs = F) := ⟨_, rfl⟩
  rw [hFF.out]
  unfold maxLen at hm
  by_cases h8 : bs.length < 8
  · have hF : Hid (F = []) := by show _ = _; rw [← hFF.out]; unfold rpDl; rw [if_pos h8]
    have hfin : RvP w F (.returned (.slice none 0 0)) w := by rw [hF.out]; exact rvP_nil w w (Kp.refl _ _)
    have d1 : (bs.length : Int) < 8 := by omega
    clear hs hFF hF
    go_enter Tryz.func14, Tryz.ntmps14
    go_wp2_with fail
    go_ret
    exact hfin
  · have hF : Hid (rpD many (wordV bs) 0 0 [intV (wordV bs)] (bs.drop 8) = F) := by show _ = _; rw [← hFF.out]; unfold rpDl; rw [if_neg h8]
    obtain ⟨g, o, rfl, hc⟩ : ∃ g o, a = some ⟨g, o, none⟩ ∧ ∀ j u, bs[j]? = some u → w.cell? ⟨g, o + j, none⟩ = some (.int .u8 u.toNat) := by
      rcases hs with h | h
      · rw [h] at h8; simp at h8
      · exact h
    have h8' : 8 ≤ bs.length := by omega
    have cS := cRefSaid (some ⟨g, o, none⟩) 8 c (bs.take 8) w (hs.front 8) (by simp; omega) (by simp; omega)
    have hwv : Hid (wordV bs = wrap64 (num (bs.take 8))) := rfl
    have hnl := num_lt64 (bs.take 8) (by simp; omega)
    obtain ⟨N, hN⟩ : ∃ N, Hid (num (bs.take 8) = N) := ⟨_, rfl⟩
    rw [hN.out] at cS hwv hnl
    have hbd := wordV_bd bs
    obtain ⟨n, hn⟩ : ∃ n, Hid (wordV bs = n) := ⟨_, rfl⟩
    rw [hn.out] at hF hwv hbd
    have ew : wrap64 (N : Int) = n := hwv.out.symm
    have hcx : Hid (∀ W, Kp [] w W → ∀ A (hA : A < bs.length), W.cell? ⟨g, o + A, none⟩ = some (.int .u8 (bs[A]'hA).toNat)) := fun W kW A hA => kpAt kW (hc A _ (by simp [hA]))
    have I0 := hid (NwV.one w w (Kp.refl _ _) (intV n) 38)
    have d1 : ¬ (bs.length : Int) < 8 := by omega
    have d8 : (8 : Int) ≤ (c : Int) := by omega
    unfold intV at I0
    dsimp only at I0
    have hbd' := hid hbd
    clear hs hFF hc hN hn hwv hbd
    go_enter Tryz.func14, Tryz.ntmps14
    go_wp2_with fail
    refine cS.mono ?_
    rintro e w9 ⟨rfl, hw9⟩
    rw [hw9]
    clear hw9 w9 cS
    go_wp2_with fail
    rw [ew]
    go_loopw [5, 6, 7, 8, 9] (fun v5 v6 v7 v8 v9 wn => ∃ (A z S : Nat) (n : Int) (la : Option Addr) (lc : Nat) (acc : List Val), A ≤ bs.length ∧ v9 = .int .i64 A ∧ v8 = .int .i64 S ∧ S ≤ 7 * A ∧ v7 = .int .u64 z ∧ z < 18446744073709551616 ∧ v5 = .int .i64 n ∧ -9223372036854775808 ≤ n ∧ n < 9223372036854775808 ∧ v6 = .slice la acc.length lc ∧ acc.length ≤ A ∧ NwV w wn la lc acc ∧ Hid (rpD many n z S acc (bs.drop A) = F)) (fun _ _ _ _ v9 _ => bs.length - (intOf v9).toNat)
    case atStart => exact ⟨8, 0, 0, n, _, 1, [intV n], h8', rfl, rfl, by omega, rfl, by omega, rfl, hbd'.out.1, hbd'.out.2, rfl, by simp, I0.out, hF⟩
    case round =>
      clear I0 hF ew hnl hbd'
      obtain ⟨A, z, S, n, la, lc, acc, hA, rfl, rfl, hS, rfl, hz, rfl, hn1, hn2, rfl, hal, I, hF⟩ := hrel
      by_cases hlt : A < bs.length
      · have dA : (A : Int) < (bs.length : Int) := by omega
        rw [dropCons hlt, rpD] at hF
        by_cases hmo : many ≤ acc.length
        · rw [if_pos hmo] at hF
          have hfin : RvP w F (.returned (.slice la acc.length lc)) wr := by rw [← hF.out]; exact ⟨la, lc, rfl, I⟩
          have dm : ¬ (acc.length : Int) < (many : Int) := by omega
          have dm2 : ¬ acc.length < many := by omega
          clear I hF
          go_wp2_with fail
          go_ret
          exact hfin
        · rw [if_neg hmo] at hF
          have dm : (acc.length : Int) < (many : Int) := by omega
          have dm2 : acc.length < many := by omega
          have hcb := hcx.out wr I.kp A hlt
          have hzz : Hid (zz z S (bs[A]'hlt) = (z + (bs[A]'hlt).toNat % 128 * 2 ^ S % 18446744073709551616) % 18446744073709551616) := rfl
          have hzl := zz_lt z S (bs[A]'hlt)
          have hx := (bs[A]'hlt).toNat_lt
          obtain ⟨Zv, hZv⟩ : ∃ Zv, Hid (zz z S (bs[A]'hlt) = Zv) := ⟨_, rfl⟩
          rw [hZv.out] at hF hzz hzl
          generalize (bs[A]'hlt).toNat = x at *
          have ez : IntKind.u64.wrap ((z : Int) + IntKind.u64.wrap ((x : Int) % 128 * 2 ^ min S 64)) = (Zv : Int) := by
            have e2 : (x : Int) % 128 * 2 ^ min S 64 = ((x % 128 * 2 ^ min S 64 : Nat) : Int) := by simp
            have e3 := pow_min (x % 128) S
            rw [e2, hzz.out, ← e3, IntKind.wrap_u64, IntKind.wrap_u64]
            omega
          have hI := hid I
          clear I hzz hZv
          by_cases hx8 : 128 ≤ x
          · rw [if_pos hx8] at hF
            have d128 : (128 : Int) ≤ (x : Int) := by omega
            have hN : Hid (∃ (A' z' S' : Nat) (n' : Int) (la' : Option Addr) (lc' : Nat) (acc' : List Val), A' ≤ bs.length ∧ (.int .i64 ((A : Int) + 1) : Value) = .int .i64 A' ∧ (.int .i64 ((S : Int) + 7) : Value) = .int .i64 S' ∧ S' ≤ 7 * A' ∧ (.int .u64 (Zv : Int) : Value) = .int .u64 z' ∧ z' < 18446744073709551616 ∧ (.int .i64 n : Value) = .int .i64 n' ∧ -9223372036854775808 ≤ n' ∧ n' < 9223372036854775808 ∧ (.slice la acc.length lc : Value) = .slice la' acc'.length lc' ∧ acc'.length ≤ A' ∧ NwV w wr la' lc' acc' ∧ Hid (rpD many n' z' S' acc' (bs.drop A') = F)) :=
              ⟨A + 1, Zv, S + 7, n, la, lc, acc, by omega, by go_num, by go_num, by omega, rfl, hzl, rfl, hn1, hn2, rfl, by omega, hI.out, hF⟩
            clear hI hF
            go_wp2_with fail
            exact ⟨hN.out, by simp [intOf]; omega⟩
          · rw [if_neg hx8] at hF
            have d128 : ¬ (128 : Int) ≤ (x : Int) := by omega
            have hNb := wrap64_bd (n + zag Zv)
            have hgo : Hid (∀ (m : Int), m = IntKind.i64.wrap (n + zag Zv) → ∃ v3 X3, (Builtin.append_ #[23, 23] 23 #[.slice la acc.length lc, .slice (some ⟨wr.heap.size, 0, none⟩) 1 1]).run Tryz.prog (wr.alloc (.cells #[.int .i64 2, .bool false, .int .i64 m, .string ⟨#[]⟩] 38)) = .ok v3 X3 ∧ ∃ a3 c3, v3 = .slice a3 (acc.length + 1) c3 ∧ ∃ (A' z' S' : Nat) (n' : Int) (la' : Option Addr) (lc' : Nat) (acc' : List Val), A' ≤ bs.length ∧ (.int .i64 ((A : Int) + 1) : Value) = .int .i64 A' ∧ (.int .i64 0 : Value) = .int .i64 S' ∧ S' ≤ 7 * A' ∧ (.int .u64 0 : Value) = .int .u64 z' ∧ z' < 18446744073709551616 ∧ (.int .i64 m : Value) = .int .i64 n' ∧ -9223372036854775808 ≤ n' ∧ n' < 9223372036854775808 ∧ (.slice a3 (acc.length + 1) c3 : Value) = .slice la' acc'.length lc' ∧ acc'.length ≤ A' ∧ NwV w X3 la' lc' acc' ∧ Hid (rpD many n' z' S' acc' (bs.drop A') = F)) := fun m hm' => by
              obtain ⟨v3, X3, hrun3, a3, c3, rfl, I3, _⟩ := hI.out.app1 (intV m) (by omega)
              rw [← hm'] at hF hNb
              exact ⟨_, X3, hrun3, a3, c3, rfl, A + 1, 0, 0, m, a3, c3, acc ++ [intV m], by omega, by go_num, rfl, by omega, rfl, by omega, rfl, hNb.1, hNb.2, by simp, by simp; omega, I3, hF⟩
            by_cases hev : Zv % 2 = 0
            · have ezg := zag_pos hev
              have e1 : ((Zv : Int) % 2 == 0) = true := by simp; omega
              have hm' : wrap64 (n + (Zv : Int) / 2) = IntKind.i64.wrap (n + zag Zv) := by rw [ezg, IntKind.wrap_i64]; unfold wrap64; omega
              obtain ⟨m, hmm⟩ : ∃ m, wrap64 (n + (Zv : Int) / 2) = m := ⟨_, rfl⟩
              obtain ⟨v3, X3, hrun3, a3, c3, rfl, hN⟩ := hgo.out m (by rw [← hmm, hm'])
              have hN' := hid hN
              have hmm2 : IntKind.i64.wrap (n + (Zv : Int) / 2) = m := by rw [← hmm, IntKind.wrap_i64]; unfold wrap64; omega
              clear hgo hI hF hN hm' ezg
              go_wp2_with (first | (refine wpAppRun rfl _ _ 23 23 rfl _ _ _ rfl rfl hrun3 ?_) | fail)
              exact ⟨hN'.out, by simp [intOf]; omega⟩
            · have ezg := zag_neg hev
              have hod : Zv % 2 = 1 := by omega
              have e1 : ((Zv : Int) % 2 == 0) = false := by rw [beq_eq_false_iff_ne]; omega
              have hm' : wrap64 (wrap64 (n - (Zv : Int) / 2) - 1) = IntKind.i64.wrap (n + zag Zv) := by rw [ezg, IntKind.wrap_i64]; unfold wrap64; omega
              obtain ⟨m, hmm⟩ : ∃ m, wrap64 (wrap64 (n - (Zv : Int) / 2) - 1) = m := ⟨_, rfl⟩
              obtain ⟨v3, X3, hrun3, a3, c3, rfl, hN⟩ := hgo.out m (by rw [← hmm, hm'])
              have hN' := hid hN
              clear hgo hI hF hN hm' ezg
              go_wp2_with (first | (refine wpAppRun rfl _ _ 23 23 rfl _ _ _ rfl rfl hrun3 ?_) | fail)
              exact ⟨hN'.out, by simp [intOf]; omega⟩
      · obtain rfl : A = bs.length := by omega
        rw [List.drop_length, rpD] at hF
        have hfin : RvP w F (.returned (.slice la acc.length lc)) wr := by rw [← hF.out]; exact ⟨la, lc, rfl, I⟩
        clear I hF
        go_wp2_with fail
        go_ret
        exact hfin
end Go.Proofs.YtpekgpgfdiffcaaGreat
end

section
namespace Go.Proofs.YtpekgpgfdiffcaaGreat
open Go.RowKit Go.Hay
set_option linter.unusedVariables false
set_option linter.unusedSimpArgs false

/-- A number's upper bits, so many of them. -/
def hnb (bs : List UInt8) (wd i : Nat) : Nat → Nat
  | 0 => 0
  | m + 1 => 2 * hnb bs wd i m + bitAt bs (i * wd + (wd - 1 - m))
theorem hnb_lt (bs : List UInt8) (wd i : Nat) : ∀ m, hnb bs wd i m < 2 ^ m
  | 0 => by simp [hnb]
  | m + 1 => by
    have h1 := hnb_lt bs wd i m
    have h2 := bitAt_lt bs (i * wd + (wd - 1 - m))
    rw [hnb, Nat.pow_succ]
    omega
theorem hnb_num (bs : List UInt8) (wd i : Nat) : ∀ m, m ≤ wd → numTo bs wd i (wd - m) + 2 ^ (wd - m) * hnb bs wd i m = numTo bs wd i wd
  | 0, _ => by simp [hnb]
  | m + 1, h => by
    have ih := hnb_num bs wd i m (by omega)
    have e : wd - m = (wd - (m + 1)) + 1 := by omega
    rw [e, numTo, Nat.pow_succ, show wd - (m + 1) = wd - 1 - m by omega] at ih
    rw [hnb, show wd - (m + 1) = wd - 1 - m by omega, ← ih, Nat.mul_add]
    have e2 : 2 ^ (wd - 1 - m) * bitAt bs (i * wd + (wd - 1 - m)) = bitAt bs (i * wd + (wd - 1 - m)) * 2 ^ (wd - 1 - m) := Nat.mul_comm _ _
    have e3 : 2 ^ (wd - 1 - m) * (2 * hnb bs wd i m) = 2 ^ (wd - 1 - m) * 2 * hnb bs wd i m := by rw [Nat.mul_assoc]
    rw [e2, e3]
    omega
theorem hnb_all (bs : List UInt8) (wd i : Nat) : hnb bs wd i wd = numTo bs wd i wd := by
  have := hnb_num bs wd i wd (Nat.le_refl _)
  rw [Nat.sub_self, show numTo bs wd i 0 = 0 from rfl, Nat.pow_zero, Nat.one_mul, Nat.zero_add] at this
  exact this
set_option maxHeartbeats 4000000 in
set_option maxRecDepth 100000 in
theorem cUnpacked (a : Option Addr) (c : Nat) (bs : List UInt8) (wd i : Nat) (w : World) (hs : Sees w a bs) (hb : bs.length ≤ 900000000000000) (hwd : wd ≤ 64) (hi : i ≤ 64) (hin : i * wd + wd ≤ 8 * bs.length) :
    Calls Tryz.prog 29 #[.slice a bs.length c, .int .i64 wd, .int .i64 i] w fun e w' => e = .returned (.int .u64 (numTo bs wd i wd : Int)) ∧ w' = w := by
  obtain ⟨F, hF⟩ : ∃ F, Hid (numTo bs wd i wd = F) := ⟨_, rfl⟩
  rw [hF.out]
  obtain ⟨M, hM⟩ : ∃ M, Hid (i * wd = M) := ⟨_, rfl⟩
  have hMe : (i : Int) * (wd : Int) = (M : Int) := by rw [← hM.out]; simp
  rw [hM.out] at hin
  have hMb : M ≤ 4096 := by rw [← hM.out]; exact Nat.mul_le_mul hi hwd
  have hat : Hid (∀ j (hj : j < bs.length), ∃ g o, a = some ⟨g, o, none⟩ ∧ w.cell? ⟨g, o + j, none⟩ = some (.int .u8 bs[j].toNat)) := fun j hj => by
    rcases hs with h | ⟨g, o, h, hc⟩
    · rw [h] at hj; simp at hj
    · exact ⟨g, o, h, hc j bs[j] (by simp [hj])⟩
  clear hs
  go_enter Tryz.func29, Tryz.ntmps29
  go_wp2_with fail
  go_loopw [7, 8] (fun v7 v8 wn => ∃ m n : Nat, m ≤ wd ∧ v8 = .int .i64 ((wd : Int) - 1 - (m : Int)) ∧ v7 = .int .u64 (n : Int) ∧ Hid (n = hnb bs wd i m) ∧ wn = w) (fun _ v8 _ => (intOf v8 + 1).toNat)
  case atStart => exact ⟨0, 0, Nat.zero_le _, by congr 1; omega, rfl, rfl, rfl⟩
  case round =>
    obtain ⟨m, n, hm, rfl, rfl, hn, rfl⟩ := hrel
    by_cases hlt : m < wd
    · obtain ⟨K, hK⟩ : ∃ K, Hid (wd - 1 - m = K) := ⟨_, rfl⟩
      have eK : (wd : Int) - 1 - (m : Int) = (K : Int) := by have := hK.out; omega
      have hKw : K < wd := by have := hK.out; omega
      have hnl : n < 2 ^ m := by rw [hn.out]; exact hnb_lt bs wd i m
      have hn63 : n < 9223372036854775808 := Nat.lt_of_lt_of_le hnl (Nat.le_trans (Nat.pow_le_pow_right (n := 2) (by omega) (show m ≤ 63 by omega)) (by decide))
      obtain ⟨q, hq⟩ : ∃ q, (M + K) / 8 = q := ⟨_, rfl⟩
      obtain ⟨r, hr⟩ : ∃ r, (M + K) % 8 = r := ⟨_, rfl⟩
      have eq1 : ((M : Int) + (K : Int)) / 8 = (q : Int) := by omega
      have eq2 : ((M : Int) + (K : Int)) % 8 = (r : Int) := by omega
      have hqs : q < bs.length := by omega
      obtain ⟨g, o, rfl, hcx⟩ := hat.out q hqs
      have hbit : Hid (bitAt bs (i * wd + (wd - 1 - m)) = bs[q].toNat / 2 ^ r % 2) := by
        show _ = _
        unfold bitAt
        rw [hM.out, hK.out, hq, hr]
        simp [hqs]
      have hx := bs[q].toNat_lt
      generalize bs[q].toNat = x at *
      obtain ⟨y, hy⟩ : ∃ y, Hid (x / 2 ^ r = y) := ⟨_, rfl⟩
      have hyl : y < 256 := by rw [← hy.out]; exact Nat.lt_of_le_of_lt (Nat.div_le_self _ _) hx
      have ey : (x : Int) / 2 ^ r = (y : Int) := by rw [← hy.out]; simp
      have hns : Hid (hnb bs wd i (m + 1) = 2 * n + y % 2) := by show _ = _; rw [hnb, hbit.out, hn.out, hy.out]
      have d0 : (0 : Int) ≤ (K : Int) := by omega
      have hnx : Hid (∃ m' n' : Nat, m' ≤ wd ∧ (.int .i64 ((K : Int) - 1) : Value) = .int .i64 ((wd : Int) - 1 - (m' : Int)) ∧ (.int .u64 ((n : Int) * 2 + (y : Int) % 2) : Value) = .int .u64 (n' : Int) ∧ Hid (n' = hnb bs wd i m') ∧ True) :=
        ⟨m + 1, 2 * n + y % 2, by omega, by rw [← eK]; congr 1; omega, by go_num, by show _ = _; rw [hns.out], trivial⟩
      rw [eK]
      clear hns hbit hn hy hnl
      go_wp2_with fail

      exact ⟨hnx.out, by simp [intOf]⟩
    · obtain rfl : m = wd := by omega
      have hnF : Hid (F = n) := by show _ = _; rw [hn.out, hnb_all]; exact hF.out.symm
      have e1 : (m : Int) - 1 - (m : Int) = -1 := by omega
      rw [e1]
      clear hn
      go_wp2_with fail
      go_ret
      exact ⟨by rw [hnF.out]; rfl, rfl⟩
end Go.Proofs.YtpekgpgfdiffcaaGreat
end

section
namespace Go.Proofs.YtpekgpgfdiffcaaGreat
open Go.RowKit Go.Hay
set_option linter.unusedVariables false
set_option linter.unusedSimpArgs false

theorem wrap_sum (U n : Nat) : IntKind.i64.wrap (wrap64 (U : Int) + (n : Int)) = wrap64 (IntKind.u64.wrap ((U : Int) + (n : Int))) := by
  rw [IntKind.wrap_i64, IntKind.wrap_u64]
  unfold wrap64
  generalize (U : Int) = u
  generalize (n : Int) = m
  have h1 : (u + 9223372036854775808) % 18446744073709551616 = u + 9223372036854775808 - 18446744073709551616 * ((u + 9223372036854775808) / 18446744073709551616) := by rw [Int.emod_def]
  have h2 : (u + m) % 18446744073709551616 = u + m - 18446744073709551616 * ((u + m) / 18446744073709551616) := by rw [Int.emod_def]
  rw [h1, h2]
  generalize (u + 9223372036854775808) / 18446744073709551616 = a
  generalize (u + m) / 18446744073709551616 = b
  omega
set_option maxHeartbeats 16000000 in
set_option maxRecDepth 100000 in
theorem cRdSmalls (a : Option Addr) (c : Nat) (bs : List UInt8) (many : Nat) (w : World) (hs : Sees w a bs) (hl : bs.length ≤ c) (hm : c ≤ maxLen) (hb : bs.length ≤ 900000000000000) (hmn : many ≤ 64) :
    Calls Tryz.prog 16 #[.slice a bs.length c, .int .i64 many] w (RvP w (rpBt many bs)) := by
  obtain ⟨F, hFF⟩ : ∃ F, Hid (rpBt many bs = F) := ⟨_, rfl⟩
  rw [hFF.out]
  unfold maxLen at hm
  by_cases h9 : bs.length < 9
  · have hF : Hid (F = []) := by show _ = _; rw [← hFF.out]; unfold rpBt; rw [if_pos (.inl h9)]
    have hfin : RvP w F (.returned (.slice none 0 0)) w := by rw [hF.out]; exact rvP_nil w w (Kp.refl _ _)
    have d1 : (bs.length : Int) < 9 := by omega
    clear hs hFF hF
    go_enter Tryz.func16, Tryz.ntmps16
    go_wp2_with fail
    go_ret
    exact hfin
  · obtain ⟨g, o, rfl, hc⟩ : ∃ g o, a = some ⟨g, o, none⟩ ∧ ∀ j u, bs[j]? = some u → w.cell? ⟨g, o + j, none⟩ = some (.int .u8 u.toNat) := by
      rcases hs with h | h
      · rw [h] at h9; simp at h9
      · exact h
    have h8' : 8 < bs.length := by omega
    have hcx0 := hc 8 bs[8] (by simp [h8'])
    have hg8 : Hid (bs.getD 8 0 = bs[8]) := by show _ = _; simp [h8']
    have hx := bs[8].toNat_lt
    obtain ⟨x, hxx⟩ : ∃ x, Hid (bs[8].toNat = x) := ⟨bs[8].toNat, by show _ = _; rfl⟩
    rw [hxx.out] at hcx0 hx
    have d1 : ¬ (bs.length : Int) < 9 := by omega
    have d1' : ¬ bs.length < 9 := h9
    have hFe : Hid (F = if bs.length < 9 ∨ 64 < x ∨ bs.length ≠ 9 + (many * x + 7) / 8 then [] else (upk (bs.drop 9) many x).map fun (n : Nat) => intV (IntKind.i64.wrap (wordV bs + (n : Int)))) := by show _ = _; rw [← hFF.out]; unfold rpBt; rw [hg8.out, hxx.out]
    by_cases hx64 : 64 < x
    · have hF : Hid (F = []) := by show _ = _; rw [hFe.out, if_pos (.inr (.inl hx64))]
      have hfin : RvP w F (.returned (.slice none 0 0)) w := by rw [hF.out]; exact rvP_nil w w (Kp.refl _ _)
      have d2 : (64 : Int) < (x : Int) := by omega
      clear hs hFF hF hc hFe
      go_enter Tryz.func16, Tryz.ntmps16
      go_wp2_with fail
      go_ret
      exact hfin
    · have d2 : ¬ (64 : Int) < (x : Int) := by omega
      obtain ⟨N, hN⟩ : ∃ N, Hid (many * x = N) := ⟨_, rfl⟩
      have hNb : N ≤ 4096 := by rw [← hN.out]; exact Nat.mul_le_mul hmn (show x ≤ 64 by omega)
      have eN : (many : Int) * (x : Int) = (N : Int) := by rw [← hN.out]; simp
      rw [hN.out] at hFe
      obtain ⟨sz, hsz⟩ : ∃ sz, Hid ((N + 7) / 8 = sz) := ⟨_, rfl⟩
      rw [hsz.out] at hFe
      have esz : ((N : Int) + 7) / 8 = (sz : Int) := by have := hsz.out; omega
      have hszb : sz ≤ 513 := by have := hsz.out; omega
      by_cases hE : bs.length = 9 + sz
      · rw [if_neg (by omega)] at hFe
        have dE : ((bs.length : Int) != 9 + (sz : Int)) = false := by rw [show (bs.length : Int) = 9 + (sz : Int) by omega]; simp
        have dE2 : ((bs.length : Int) == 9 + (sz : Int)) = true := by simp; omega
        have cS := cRefSaid (some ⟨g, o, none⟩) 8 c (bs.take 8) w (hs.front 8) (by simp; omega) (by simp; omega)
        have hwv : Hid (wordV bs = wrap64 (num (bs.take 8))) := rfl
        have hnl := num_lt64 (bs.take 8) (by simp; omega)
        obtain ⟨U, hU⟩ : ∃ U, Hid (num (bs.take 8) = U) := ⟨_, rfl⟩
        rw [hU.out] at cS hwv hnl
        rw [hwv.out] at hFe
        have hdl : (bs.drop 9).length = bs.length - 9 := by simp
        obtain ⟨ba, hba, hsb⟩ := tailB hs c 9 (by omega) hl
        have hcU : Hid (∀ W, Kp [] w W → ∀ i, i < many → Calls Tryz.prog 29 #[.slice ba sz (c - 9), .int .i64 x, .int .i64 i] W fun e w' => e = .returned (.int .u64 (numTo (bs.drop 9) x i x : Int)) ∧ w' = W) := fun W kW i hi => by
          have := cUnpacked ba (c - 9) (bs.drop 9) x i W (hsb.kept kW (by simp)) (by rw [hdl]; omega) (by omega) (by omega) (by
            rw [hdl, hE]
            have h1 : (i + 1) * x ≤ many * x := Nat.mul_le_mul_right _ hi
            rw [hN.out, Nat.succ_mul] at h1
            have := hsz.out
            omega)
          rw [hdl, show bs.length - 9 = sz by omega] at this
          exact this
        have hul := hid (fun i (hi : i < many) => upk_at (bs.drop 9) many x i hi)
        have hnl2 := upk_length (bs.drop 9) many x
        have hbe2 := hba g o rfl
        obtain ⟨ns, hns⟩ : ∃ ns, Hid (upk (bs.drop 9) many x = ns) := ⟨_, rfl⟩
        rw [hns.out] at hFe hul hnl2
        have hnum : Hid (∀ i (hi : i < ns.length), numTo (bs.drop 9) x i x = ns[i]) := fun i hi => by
          have := hul.out i (by omega)
          rw [List.getElem?_eq_getElem hi] at this
          exact (Option.some.inj this).symm
        have hn64 : Hid (∀ i, numTo (bs.drop 9) x i x < 18446744073709551616) := fun i => Nat.lt_of_lt_of_le (numTo_lt _ _ _ _) (Nat.le_trans (Nat.pow_le_pow_right (n := 2) (by omega) (show x ≤ 64 by omega)) (by decide))
        obtain ⟨f, hf⟩ : ∃ f : Nat → Val, Hid ((fun (n : Nat) => intV (IntKind.i64.wrap (wrap64 (U : Int) + (n : Int)))) = f) := ⟨_, rfl⟩
        have hfa : Hid (∀ n : Nat, f n = intV (wrap64 (IntKind.u64.wrap ((U : Int) + (n : Int))))) := fun n => by
          rw [← hf.out]
          exact congrArg intV (wrap_sum U n)
        rw [hf.out] at hFe
        have hcx : Hid (∀ W, Kp [] w W → W.cell? ⟨g, o + 8, none⟩ = some (.int .u8 x)) := fun W kW => kpAt kW hcx0
        have hn2 := hid (NwV.nil w)
        have hnl' := hid hnl2
        have hE' := hid hE
        have d8 : (8 : Int) ≤ (c : Int) := by omega
        clear hba hsb hul hns hf hnl2 hs hFF hc hg8 hxx hU hwv hdl
        go_enter Tryz.func16, Tryz.ntmps16
        go_wp2_with fail
        refine cS.mono ?_
        rintro e w9 ⟨rfl, hw9⟩
        rw [hw9]
        clear hw9 w9 cS
        go_wp2_with fail
        clear esz eN dE dE2 hcx0 hE d1 d2
        go_loopw [6, 7] (fun v6 i wn => ∃ (j : Nat) (oa : Option Addr) (oc : Nat) (os : List Val), j ≤ many ∧ i = .int .i64 j ∧ v6 = .slice oa os.length oc ∧ os.length ≤ 64 ∧ Hid (os = (ns.take j).map f) ∧ NwV w wn oa oc os) (fun _ i _ => many - (intOf i).toNat)
        case atStart => exact ⟨0, none, 0, [], Nat.zero_le _, rfl, rfl, Nat.zero_le _, by show _ = _; simp, hn2.out⟩
        case round =>
          clear hn2
          obtain ⟨i, oa, oc, os, hi, rfl, rfl, hol, hos, I⟩ := hrel
          by_cases hlt : i < many
          · have hin : i < ns.length := by rw [hnl'.out]; exact hlt
            have hq := hnum.out i hin
            have hq64 := hn64.out i
            have hcUi := hid (fun W (kW : Kp [] w W) => hcU.out W kW i hlt)
            simp only [hq] at hcUi
            rw [hq] at hq64
            have hos2 : Hid (os ++ [f (ns[i]'hin)] = (ns.take (i + 1)).map f) := by show _ = _; rw [List.take_succ_eq_append_getElem hin, List.map_append, hos.out]; rfl
            have hfP := hfa.out (ns[i]'hin)
            rw [hfP] at hos2
            have hol3 : os.length + 1 ≤ 64 := by rw [hos.out]; simp; omega
            obtain ⟨P, hP⟩ : ∃ P, Hid (ns[i]'hin = P) := ⟨_, rfl⟩
            simp only [hP.out] at hcUi
            rw [hP.out] at hq64 hos2
            obtain ⟨V, hV⟩ : ∃ V, Hid (wrap64 (IntKind.u64.wrap ((U : Int) + (P : Int))) = V) := ⟨_, rfl⟩
            rw [hV.out] at hos2
            have hVe := hV.out
            have hVe2 : IntKind.i64.wrap (IntKind.u64.wrap ((U : Int) + (P : Int))) = V := by
              rw [← hV.out]
              generalize IntKind.u64.wrap ((U : Int) + (P : Int)) = q
              rw [IntKind.wrap_i64]
              first | rfl | (unfold wrap64; omega)
            have hI := hid I
            have kd : Kp [] w wr.drew := I.kp.drew
            have kdr : Kp [] wr wr.drew := (Kp.refl _ _).drew
            have hS : Hid (∀ A, Kp [] w A → A.cell? ⟨g, o + 8, none⟩ = some (.int .u8 x)) := hcx
            have hwx : IntKind.i64.wrap (x : Int) = (x : Int) := by rw [IntKind.wrap_i64]; omega
            have d9 : (9 : Int) ≤ (bs.length : Int) := by omega
            have hA9 : Hid (∀ X, Kp [] wr X → ∃ X2, X.alloc (.cells #[.int .i64 2, .bool false, .int .i64 V, .string ⟨#[]⟩] 38) = X2 ∧ Kp [] w X2 ∧ ∃ v3 X3, (Builtin.append_ #[23, 23] 23 #[.slice oa os.length oc, .slice (some ⟨X.heap.size, 0, none⟩) 1 1]).run Tryz.prog X2 = .ok v3 X3 ∧ Kp [] w X3 ∧ ∃ (j' : Nat) (oa' : Option Addr) (oc' : Nat) (os' : List Val), j' ≤ many ∧ (.int .i64 ((i : Int) + 1) : Value) = .int .i64 j' ∧ v3 = .slice oa' os'.length oc' ∧ os'.length ≤ 64 ∧ Hid (os' = (ns.take j').map f) ∧ NwV w X3 oa' oc' os') := fun X kX => by
              have hIX := hI.out.keep kX
              obtain ⟨v3, X3, hrun3, a3, c3, rfl, I3, _⟩ := hIX.app1 (intV V) (by omega)
              refine ⟨_, rfl, hIX.kp.alloc _, _, X3, hrun3, I3.kp, i + 1, a3, c3, os ++ [intV V], by omega, by go_num, by simp, by simpa using hol3, hos2, I3⟩
            clear I hos hP hV hos2 hq hfP
            go_wp2_with fail
            refine wp_region_held_drew (S := (fun A => A.cell? ⟨g, o + 8, none⟩ = some (.int .u8 x))) (by kernel_rfl) ?_ (fun hHeld => ?_)
            · exact hS.out _ kd
            generalize wr.drew = wd at *
            refine wpAnyH_take (i := 0) (v := ?_) rfl (by kernel_rfl) (by kernel_rfl) (by kernel_rfl) (fun _ _ _ h => h) (Or.inl ⟨by rfl, ?_⟩) (by assumption) ?_
            rotate_left
            · intro w hSw; (try dsimp only at hSw); go_simp <;> with_reducible rfl
            try simp only [Act.put, List.getElem_toArray, List.getElem_cons_zero, List.getElem_cons_succ, List.setIfInBounds_toArray, List.set_cons_zero, List.set_cons_succ]
            refine wpAnyH_take (i := 1) (v := ?_) rfl (by kernel_rfl) (by kernel_rfl) (by kernel_rfl) (fun _ _ _ h => h) (Or.inl ⟨by rfl, ?_⟩) (by assumption) ?_
            rotate_left
            · intro w hSw; (try dsimp only at hSw); go_simp <;> with_reducible rfl
            try simp only [Act.put, List.getElem_toArray, List.getElem_cons_zero, List.getElem_cons_succ, List.setIfInBounds_toArray, List.set_cons_zero, List.set_cons_succ]
            refine wpAnyH_take (i := 2) (v := ?_) rfl (by kernel_rfl) (by kernel_rfl) (by kernel_rfl) (fun _ _ _ h => h) (Or.inl ⟨by rfl, ?_⟩) (by assumption) ?_
            rotate_left
            · intro w hSw; (try dsimp only at hSw); go_simp <;> with_reducible rfl
            try simp only [Act.put, List.getElem_toArray, List.getElem_cons_zero, List.getElem_cons_succ, List.setIfInBounds_toArray, List.set_cons_zero, List.set_cons_succ]
            refine wpAnyH_take (i := 3) (v := ?_) rfl (by kernel_rfl) (by kernel_rfl) (by kernel_rfl) (fun _ _ _ h => h) (Or.inl ⟨by rfl, ?_⟩) (by assumption) ?_
            rotate_left
            · intro w hSw; (try dsimp only at hSw); go_simp <;> with_reducible rfl
            try simp only [Act.put, List.getElem_toArray, List.getElem_cons_zero, List.getElem_cons_succ, List.setIfInBounds_toArray, List.set_cons_zero, List.set_cons_succ]
            refine wpAnyH_take (i := 4) (v := ?_) rfl (by kernel_rfl) (by kernel_rfl) (by kernel_rfl) (fun _ _ _ h => h) (Or.inl ⟨by rfl, ?_⟩) (by assumption) ?_
            rotate_left
            · intro w hSw; (try dsimp only at hSw); go_simp <;> with_reducible rfl
            try simp only [Act.put, List.getElem_toArray, List.getElem_cons_zero, List.getElem_cons_succ, List.setIfInBounds_toArray, List.set_cons_zero, List.set_cons_succ]
            refine wpAnyH_take (i := 5) (v := ?_) rfl (by kernel_rfl) (by kernel_rfl) (by kernel_rfl) (fun _ _ _ h => h) (Or.inl ⟨by rfl, ?_⟩) (by assumption) ?_
            rotate_left
            · intro w hSw; (try dsimp only at hSw); go_simp <;> with_reducible rfl
            try simp only [Act.put, List.getElem_toArray, List.getElem_cons_zero, List.getElem_cons_succ, List.setIfInBounds_toArray, List.set_cons_zero, List.set_cons_succ]
            refine wpAnyH_take (i := 6) (v := ?_) rfl (by kernel_rfl) (by kernel_rfl) (by kernel_rfl) (fun _ _ _ h => h) (Or.inl ⟨by rfl, ?_⟩) (by assumption) ?_
            rotate_left
            · intro w hSw; (try dsimp only at hSw); go_simp <;> with_reducible rfl
            try simp only [Act.put, List.getElem_toArray, List.getElem_cons_zero, List.getElem_cons_succ, List.setIfInBounds_toArray, List.set_cons_zero, List.set_cons_succ]
            refine wpAnyH_take (i := 7) (v := ?_) rfl (by kernel_rfl) (by kernel_rfl) (by kernel_rfl) (fun _ _ _ h => h) (Or.inl ⟨by rfl, ?_⟩) (by assumption) ?_
            rotate_left
            · intro w hSw; (try dsimp only at hSw); go_simp <;> with_reducible rfl
            try simp only [Act.put, List.getElem_toArray, List.getElem_cons_zero, List.getElem_cons_succ, List.setIfInBounds_toArray, List.set_cons_zero, List.set_cons_succ]
            refine wpAnyH_take (i := 8) (v := ?_) rfl (by kernel_rfl) (by kernel_rfl) (by kernel_rfl) (fun _ _ _ h => h) (Or.inl ⟨by rfl, ?_⟩) (by assumption) ?_
            rotate_left
            · intro w hSw; (try dsimp only at hSw); go_simp <;> with_reducible rfl
            try simp only [Act.put, List.getElem_toArray, List.getElem_cons_zero, List.getElem_cons_succ, List.setIfInBounds_toArray, List.set_cons_zero, List.set_cons_succ]
            refine wpAnyH_ready (rs := [9]) (by kernel_rfl) (by simp) ?_
            refine AllReadyH.cons rfl (fun K hK => ?_) AllReadyH.nil
            go_simp
            refine (hcUi.out wd kd).mono ?_
            rintro e y1 ⟨rfl, hy1⟩
            rw [hy1]
            (try go_wp2_with fail)
            refine hK.out _ _ ?_ (fun hHeld => ?_)
            · exact hHeld
            clear hK K
            try simp only [Act.put, List.getElem_toArray, List.getElem_cons_zero, List.getElem_cons_succ, List.setIfInBounds_toArray, List.set_cons_zero, List.set_cons_succ]
            refine wpAnyH_take (i := 10) (v := ?_) rfl (by kernel_rfl) (by kernel_rfl) (by kernel_rfl) (fun _ _ _ h => h) (Or.inl ⟨by rfl, ?_⟩) (by assumption) ?_
            rotate_left
            · intro w hSw; (try dsimp only at hSw); go_simp <;> with_reducible rfl
            try simp only [Act.put, List.getElem_toArray, List.getElem_cons_zero, List.getElem_cons_succ, List.setIfInBounds_toArray, List.set_cons_zero, List.set_cons_succ]
            refine wpAnyH_take (i := 11) (v := ?_) rfl (by kernel_rfl) (by kernel_rfl) (by kernel_rfl) (fun _ _ _ h => h) (Or.inl ⟨by rfl, ?_⟩) (by assumption) ?_
            rotate_left
            · intro w hSw; (try dsimp only at hSw); go_simp <;> with_reducible rfl
            try simp only [Act.put, List.getElem_toArray, List.getElem_cons_zero, List.getElem_cons_succ, List.setIfInBounds_toArray, List.set_cons_zero, List.set_cons_succ]
            refine wpAnyH_take (i := 12) (v := ?_) rfl (by kernel_rfl) (by kernel_rfl) (by kernel_rfl) (fun _ _ _ h => h) (Or.inl ⟨by rfl, ?_⟩) (by assumption) ?_
            rotate_left
            · intro w hSw; (try dsimp only at hSw); go_simp <;> with_reducible rfl
            try simp only [Act.put, List.getElem_toArray, List.getElem_cons_zero, List.getElem_cons_succ, List.setIfInBounds_toArray, List.set_cons_zero, List.set_cons_succ]
            obtain ⟨X2, hX2, kX2, v3, X3, hrun3, kX3, hgo⟩ := hA9.out wd kdr
            have hX2' := hid hX2
            have hgo' := hid hgo
            clear hX2 hA9 hgo hI
            refine wpAnyH_ready (rs := [13]) (by kernel_rfl) (by simp) ?_
            refine AllReadyH.cons rfl (fun K hK => ?_) AllReadyH.nil
            go_simp
            rw [hX2'.out]
            (try go_wp2_with fail)
            refine hK.out _ _ ?_ (fun hHeld => ?_)
            · exact hS.out _ kX2
            clear hK K
            try simp only [Act.put, List.getElem_toArray, List.getElem_cons_zero, List.getElem_cons_succ, List.setIfInBounds_toArray, List.set_cons_zero, List.set_cons_succ]
            refine wpAnyH_ready (rs := [14]) (by kernel_rfl) (by simp) ?_
            refine AllReadyH.cons rfl (fun K hK => ?_) AllReadyH.nil
            refine stepAppRun rfl _ _ 23 23 rfl _ _ _ rfl rfl hrun3 ?_
            refine hK.out _ _ ?_ (fun hHeld => ?_)
            · exact hS.out _ kX3
            clear hK K
            try simp only [Act.put, List.getElem_toArray, List.getElem_cons_zero, List.getElem_cons_succ, List.setIfInBounds_toArray, List.set_cons_zero, List.set_cons_succ]
            refine wpAnyH_take (i := 15) (v := ?_) rfl (by kernel_rfl) (by kernel_rfl) (by kernel_rfl) (fun _ _ _ h => h) (Or.inl ⟨by rfl, ?_⟩) (by assumption) ?_
            rotate_left
            · intro w hSw; (try dsimp only at hSw); go_simp <;> with_reducible rfl
            try simp only [Act.put, List.getElem_toArray, List.getElem_cons_zero, List.getElem_cons_succ, List.setIfInBounds_toArray, List.set_cons_zero, List.set_cons_succ]
            refine wpAnyH_done (by kernel_rfl) ?_ _
            go_wp2_with fail
            exact ⟨hgo'.out, by simp [intOf]; omega⟩
          · obtain rfl : i = many := by omega
            rw [← hnl'.out, List.take_length] at hos
            rw [← hos.out] at hFe
            have hfin : RvP w F (.returned (.slice oa os.length oc)) wr := by rw [hFe.out]; exact ⟨oa, oc, rfl, I⟩
            clear I hos hFe
            go_wp2_with fail
            go_ret
            exact hfin
      · have hF : Hid (F = []) := by show _ = _; rw [hFe.out, if_pos (.inr (.inr hE))]
        have hfin : RvP w F (.returned (.slice none 0 0)) w := by rw [hF.out]; exact rvP_nil w w (Kp.refl _ _)
        have dE : ((bs.length : Int) != 9 + (sz : Int)) = true := by simp only [bne_iff_ne]; omega
        have dE2 : ((bs.length : Int) == 9 + (sz : Int)) = false := by rw [beq_eq_false_iff_ne]; omega
        clear hs hFF hF hc hFe
        go_enter Tryz.func16, Tryz.ntmps16
        go_wp2_with fail
        go_ret
        exact hfin
end Go.Proofs.YtpekgpgfdiffcaaGreat
end

section
namespace Go.Proofs.YtpekgpgfdiffcaaGreat
open Go.RowKit Go.Hay
set_option linter.unusedVariables false
set_option linter.unusedSimpArgs false

theorem tkF_len : ∀ (n : Nat) (acc : List Val) (bs : List UInt8) (q : List Val × List UInt8), tkF n acc bs = some q → q.1.length = acc.length + n ∧ q.2.length ≤ bs.length
  | 0, acc, bs, q, h => by rw [tkF] at h; injection h with h; subst h; simp
  | n + 1, acc, bs, q, h => by
    rw [tkF] at h
    split at h
    · cases h
    · obtain ⟨h1, h2⟩ := tkF_len n _ _ q h
      simp at h1 h2
      omega
/-- The rest of dicts, once the words are read. -/
def rpDr (many : Nat) (u : List Val) (r : List UInt8) : List Val := if u.length = 0 then [] else if r.length ≠ (many * Lib.bitLen (u.length - 1) + 7) / 8 then [] else
      if (upk r many (Lib.bitLen (u.length - 1))).all (fun p => decide (p < u.length)) = true then (upk r many (Lib.bitLen (u.length - 1))).map fun p => u.getD p nv else []
def rpDo (many : Nat) : Option (List Val × List UInt8) → List Val
  | none => []
  | some q => rpDr many q.1 q.2
theorem rpDc_eq (many : Nat) (bs : List UInt8) (h : ¬ bs.length = 0) : rpDc many bs = rpDo many (tkF (bs.getD 0 0).toNat [] (bs.drop 1)) := by
  unfold rpDc
  rw [if_neg h]
  cases tkF (bs.getD 0 0).toNat [] (bs.drop 1) with
  | none => rfl
  | some q => rfl
set_option maxHeartbeats 16000000 in
set_option maxRecDepth 100000 in
theorem cRdDicts (a : Option Addr) (c : Nat) (bs : List UInt8) (many : Nat) (w : World) (hs : Sees w a bs) (hl : bs.length ≤ c) (hm : c ≤ maxLen) (hb : bs.length ≤ 900000000000000) (hmn : many ≤ 64) :
    Calls Tryz.prog 15 #[.slice a bs.length c, .int .i64 many] w (RvP w (rpDc many bs)) := by
  obtain ⟨F, hFF⟩ : ∃ F, Hid (rpDc many bs = F) := ⟨_, rfl⟩
  rw [hFF.out]
  have hmx := hid hm
  unfold maxLen at hm
  by_cases h8 : bs.length = 0
  · have hF : Hid (F = []) := by show _ = _; rw [← hFF.out]; unfold rpDc; rw [if_pos h8]
    have hfin : RvP w F (.returned (.slice none 0 0)) w := by rw [hF.out]; exact rvP_nil w w (Kp.refl _ _)
    rw [h8]
    clear hs hFF hF h8 hl hb
    go_enter Tryz.func15, Tryz.ntmps15
    go_wp2_with fail
    go_ret
    exact hfin
  · have hF : Hid (rpDo many (tkF (bs.getD 0 0).toNat [] (bs.drop 1)) = F) := by show _ = _; rw [← hFF.out, rpDc_eq many bs h8]
    obtain ⟨g, o, rfl, hc⟩ : ∃ g o, a = some ⟨g, o, none⟩ ∧ ∀ j u, bs[j]? = some u → w.cell? ⟨g, o + j, none⟩ = some (.int .u8 u.toNat) := by
      rcases hs with h | h
      · rw [h] at h8; simp at h8
      · exact h
    have h8' : 0 < bs.length := by omega
    have hg8 : Hid (bs.getD 0 0 = bs[0]) := by show _ = _; simp [h8']
    have hx := bs[0].toNat_lt
    have hcx : Hid (∀ W, Kp [] w W → W.cell? ⟨g, o, none⟩ = some (.int .u8 bs[0].toNat)) := fun W kW => by
      have := kpAt kW (hc 0 bs[0] (by simp [h8']))
      rw [Nat.add_zero] at this
      exact this
    obtain ⟨x, hxx⟩ : ∃ x, Hid (bs[0].toNat = x) := ⟨bs[0].toNat, by show _ = _; rfl⟩
    rw [hg8.out, hxx.out] at hF
    rw [hxx.out] at hx
    simp only [hxx.out] at hcx
    have d1 : ((bs.length : Int) == 0) = false := by rw [beq_eq_false_iff_ne]; omega
    have hn0 := hid (NwV.nil w)
    have hs' := hid hs
    have hcx0 := hcx.out w (Kp.refl _ _)
    clear hs hFF hc hg8 hxx
    go_enter Tryz.func15, Tryz.ntmps15
    go_wp2_with fail
    clear hcx0
    go_loopw [5, 6, 7] (fun v5 v6 i wn => ∃ (j A : Nat) (la : Option Addr) (lc : Nat) (acc : List Val), j ≤ x ∧ i = .int .i64 j ∧ A ≤ bs.length ∧ v6 = .int .i64 A ∧ v5 = .slice la acc.length lc ∧ acc.length ≤ 255 ∧ NwV w wn la lc acc ∧ Hid (acc.length = j) ∧ Hid (rpDo many (tkF (x - j) acc (bs.drop A)) = F)) (fun _ _ i _ => x - (intOf i).toNat)
    case atStart => exact ⟨0, 1, none, 0, [], Nat.zero_le _, rfl, by omega, rfl, rfl, Nat.zero_le _, hn0.out, rfl, by rw [Nat.sub_zero]; exact hF⟩
    case round =>
      clear hn0 hF
      obtain ⟨j, A, la, lc, acc, hj, rfl, hA, rfl, rfl, hal2, I, hal, hF⟩ := hrel
      have hcb := hcx.out wr I.kp
      have dx : (x : Int) < 256 := by omega
      by_cases hlt : j < x
      · obtain ⟨ba, hba, hsb⟩ := tailB hs'.out c A hA hl
        have hdl : (bs.drop A).length = bs.length - A := by simp
        have cF := cFront ba (c - A) (bs.drop A) wr (hsb.kept I.kp (by simp)) (by rw [hdl]; omega) (by have := hmx.out; unfold maxLen at this ⊢; omega)
        rw [hdl] at cF
        have hle := rowF_le (bs.drop A)
        rw [hdl] at hle
        rw [show x - j = (x - (j + 1)) + 1 by omega, tkF] at hF
        have hd2 : Hid (∀ n, (bs.drop A).drop n = bs.drop (A + n)) := fun n => by rw [List.drop_drop]
        obtain ⟨⟨v, n⟩, hR⟩ : ∃ t, Hid (rowF (bs.drop A) = t) := ⟨_, rfl⟩
        rw [hR.out] at cF hle hF
        unfold Tk at cF
        dsimp only at cF hle hF
        rw [hd2.out] at hF
        have hxv : Hid (v.v = .agg #[.int .i64 v.k, .bool v.b, .int .i64 v.n, .string v.t]) := rfl
        rw [hxv.out] at cF
        have hI := hid I
        have hbe2 := hba g o rfl
        clear I hxv hsb hR hd2 hdl hba
        have djx : (j : Int) < (x : Int) := by omega
        go_wp2_with fail
        refine cF.mono ?_
        rintro e w1 ⟨rfl, k1⟩
        obtain ⟨wb, hwb⟩ : ∃ wb, w1.alloc (.cells #[.int .i64 v.k, .bool v.b, .int .i64 v.n, .string v.t] 38) = wb := ⟨_, rfl⟩
        have kb : Kp [] w1 wb := by rw [← hwb]; exact (Kp.refl _ _).alloc _
        have bx : Box4 wb w1.heap.size (.int .i64 v.k) (.bool v.b) (.int .i64 v.n) (.string v.t) := by rw [← hwb]; exact Box4.new _ _ _ _ _ _
        have kwb := k1.trans kb (by simp)
        clear cF hbe2 hcb
        by_cases hn : n = 0
        · subst hn
          rw [if_pos rfl] at hF
          have hfin : RvP w F (.returned (.slice none 0 0)) wb := by rw [← hF.out]; exact rvP_nil w wb (hI.out.kp.trans kwb (by simp))
          clear hF hI
          go_wp2_with fail
          go_ret
          exact hfin
        · rw [if_neg hn] at hF
          have hn' : ((n : Int) == 0) = false := by rw [beq_eq_false_iff_ne]; omega
          have p0 := bx.c0; have p1 := bx.c1; have p2 := bx.c2; have p3 := bx.c3
          obtain ⟨v3, X3, hrun3, a3, c3, rfl, I3, _⟩ := (hI.out.keep kwb).app1 v (by omega)
          have hal3 : acc.length + 1 ≤ 255 := by rw [hal.out]; omega
          have hnx : Hid (∃ (j' A' : Nat) (la : Option Addr) (lc : Nat) (acc' : List Val), j' ≤ x ∧ (.int .i64 ((j : Int) + 1) : Value) = .int .i64 j' ∧ A' ≤ bs.length ∧ (.int .i64 ((A : Int) + (n : Int)) : Value) = .int .i64 A' ∧ (.slice a3 (acc.length + 1) c3 : Value) = .slice la acc'.length lc ∧ acc'.length ≤ 255 ∧ NwV w X3 la lc acc' ∧ Hid (acc'.length = j') ∧ Hid (rpDo many (tkF (x - j') acc' (bs.drop A')) = F)) :=
            ⟨j + 1, A + n, a3, c3, acc ++ [v], by omega, by go_num, by omega, by go_num, by simp, by simpa using hal3, I3, by show _ = _; simp [hal.out], hF⟩
          clear I3 hI hF hal bx
          go_wp2_with (first | (refine wpAppRun rfl _ _ 23 23 rfl _ _ _ rfl rfl hrun3 ?_) | fail)
          exact ⟨hnx.out, by simp [intOf]; omega⟩
      · obtain rfl : j = x := by omega
        rw [Nat.sub_self, tkF] at hF
        have hF0 : Hid (rpDr many acc (bs.drop A) = F) := hF
        have djx : ¬ (j : Int) < (j : Int) := by omega
        by_cases h0 : acc.length = 0
        · have hF1 : Hid (F = []) := by show _ = _; rw [← hF0.out]; unfold rpDr; rw [if_pos h0]
          have hfin : RvP w F (.returned (.slice none 0 0)) wr := by rw [hF1.out]; exact rvP_nil w wr I.kp
          rw [h0]
          clear I hF hF0 hF1
          go_wp2_with fail
          go_ret
          exact hfin
        · have dac : ((acc.length : Int) == 0) = false := by rw [beq_eq_false_iff_ne]; omega
          have cW := cRefWidth (acc.length - 1) wr (by omega)
          have hwb := bitLen_le64 (acc.length - 1)
          have hF1 : Hid ((if (bs.drop A).length ≠ (many * Lib.bitLen (acc.length - 1) + 7) / 8 then [] else if (upk (bs.drop A) many (Lib.bitLen (acc.length - 1))).all (fun p => decide (p < acc.length)) = true then (upk (bs.drop A) many (Lib.bitLen (acc.length - 1))).map fun p => acc.getD p nv else []) = F) := by show _ = _; rw [← hF0.out]; unfold rpDr; rw [if_neg h0]
          obtain ⟨W0, hW0⟩ : ∃ W0, Hid (Lib.bitLen (acc.length - 1) = W0) := ⟨_, rfl⟩
          rw [hW0.out] at cW hwb hF1
          have hdl : (bs.drop A).length = bs.length - A := by simp
          rw [hdl] at hF1
          obtain ⟨U1, hU1⟩ : ∃ U1, Hid (acc.length - 1 = U1) := ⟨_, rfl⟩
          rw [hU1.out] at cW
          have e2 : ((acc.length : Int) - 1) = (U1 : Int) := by have := hU1.out; omega
          have e3 : IntKind.u64.wrap (U1 : Int) = (U1 : Int) := by rw [IntKind.wrap_u64]; have := hU1.out; omega
          obtain ⟨N, hN⟩ : ∃ N, Hid (many * W0 = N) := ⟨_, rfl⟩
          have hNb : N ≤ 4096 := by rw [← hN.out]; exact Nat.mul_le_mul hmn hwb
          have eN : (many : Int) * (W0 : Int) = (N : Int) := by rw [← hN.out]; simp
          rw [hN.out] at hF1
          obtain ⟨sz, hsz⟩ : ∃ sz, Hid ((N + 7) / 8 = sz) := ⟨_, rfl⟩
          rw [hsz.out] at hF1
          have esz : ((N : Int) + 7) / 8 = (sz : Int) := by have := hsz.out; omega
          have hszb : sz ≤ 513 := by have := hsz.out; omega
          have hI := hid I
          clear I hF hF0 hW0 hU1
          go_wp2_with fail
          refine cW.mono ?_
          rintro e w9 ⟨rfl, hw9⟩
          rw [hw9]
          clear hw9 w9 cW hcb
          by_cases hE : bs.length - A = sz
          · rw [if_neg (by omega)] at hF1
            have dE : ((bs.length : Int) != (A : Int) + (sz : Int)) = false := by rw [show (bs.length : Int) = (A : Int) + (sz : Int) by omega]; simp
            have dE2 : ((bs.length : Int) == (A : Int) + (sz : Int)) = true := by simp; omega
            obtain ⟨ba, hba, hsb⟩ := tailB hs'.out c A hA hl
            have hcU : Hid (∀ W, Kp [] w W → ∀ i, i < many → Calls Tryz.prog 29 #[.slice ba sz (c - A), .int .i64 W0, .int .i64 i] W fun e w' => e = .returned (.int .u64 (numTo (bs.drop A) W0 i W0 : Int)) ∧ w' = W) := fun W kW i hi => by
              have := cUnpacked ba (c - A) (bs.drop A) W0 i W (hsb.kept kW (by simp)) (by rw [hdl]; omega) hwb (by omega) (by
                rw [hdl, hE]
                have h1 : (i + 1) * W0 ≤ many * W0 := Nat.mul_le_mul_right _ hi
                rw [hN.out, Nat.succ_mul] at h1
                have := hsz.out
                omega)
              rw [hdl, hE] at this
              exact this
            have hul := hid (fun i (hi : i < many) => upk_at (bs.drop A) many W0 i hi)
            have hnl := upk_length (bs.drop A) many W0
            have hbe2 := hba g o rfl
            obtain ⟨ns, hns⟩ : ∃ ns, Hid (upk (bs.drop A) many W0 = ns) := ⟨_, rfl⟩
            rw [hns.out] at hF1 hul hnl
            have hnum : Hid (∀ i (hi : i < ns.length), numTo (bs.drop A) W0 i W0 = ns[i]) := fun i hi => by
              have := hul.out i (by omega)
              rw [List.getElem?_eq_getElem hi] at this
              exact (Option.some.inj this).symm
            have hn64 : Hid (∀ i, numTo (bs.drop A) W0 i W0 < 18446744073709551616) := fun i => Nat.lt_of_lt_of_le (numTo_lt _ _ _ _) (Nat.le_trans (Nat.pow_le_pow_right (n := 2) (by omega) hwb) (by decide))
            have kI := hI.out.kp
            have hov : Hid (∀ W, Kp [] wr W → Vals W la acc) := fun W kW => (rowVals (hI.out.row.keptNew kW)).1
            generalize wr = w2 at *
            have hn2 := hid (NwV.nil w2)
            obtain ⟨f, hf⟩ : ∃ f : Nat → Val, Hid ((fun p => acc.getD p nv) = f) := ⟨_, rfl⟩
            have hfa : Hid (∀ p (h : p < acc.length), f p = acc[p]) := fun p h => by rw [← hf.out]; simp [h]
            rw [hf.out] at hF1
            have hnl' := hid hnl
            clear hba hsb hul hns hI hf hnl
            go_wp2_with fail
            clear esz eN e2 e3 dE dE2
            go_loopw [11, 12] (fun v11 i wn => ∃ (j : Nat) (oa : Option Addr) (oc : Nat) (os : List Val), j ≤ many ∧ i = .int .i64 j ∧ v11 = .slice oa os.length oc ∧ os.length ≤ 64 ∧ Hid (os = (ns.take j).map f) ∧ Hid ((ns.take j).all (fun p => decide (p < acc.length)) = true) ∧ NwV w2 wn oa oc os) (fun _ i _ => many - (intOf i).toNat)
            case atStart => exact ⟨0, none, 0, [], Nat.zero_le _, rfl, rfl, Nat.zero_le _, by show _ = _; simp, by show _ = _; simp, hn2.out⟩
            case round =>
              clear hn2
              obtain ⟨i, oa, oc, os, hi, rfl, rfl, hol, hos, hall, I⟩ := hrel
              by_cases hlt2 : i < many
              · have hin : i < ns.length := by rw [hnl'.out]; exact hlt2
                have cU := hcU.out wr (kI.trans I.kp (by simp)) i hlt2
                have hq := hnum.out i hin
                have hq64 := hn64.out i
                rw [hq] at cU hq64
                have hI2 := hid I
                have di : (i : Int) < (many : Int) := by omega
                obtain ⟨P, hP⟩ : ∃ P, Hid (ns[i]'hin = P) := ⟨_, rfl⟩
                rw [hP.out] at cU hq64
                by_cases hPu : P < acc.length
                · obtain ⟨g3, o3, rfl, y0, y1, y2, y3⟩ := (hov.out wr I.kp).at P hPu
                  have hfP := hid (hfa.out P hPu)
                  have hall2 : Hid ((ns.take (i + 1)).all (fun p => decide (p < acc.length)) = true) := all_take hall.out hin (by rw [hP.out]; simpa using hPu)
                  have hos2 : Hid (os ++ [f P] = (ns.take (i + 1)).map f) := by show _ = _; rw [List.take_succ_eq_append_getElem hin, List.map_append, hos.out, hP.out]; rfl
                  rw [hfP.out] at hos2
                  obtain ⟨v, hv⟩ : ∃ v, Hid (acc[P]'hPu = v) := ⟨_, rfl⟩
                  rw [hv.out] at y0 y1 y2 y3 hos2
                  obtain ⟨v3, X3, hrun3, a3, c3, rfl, I3, _⟩ := hI2.out.app1 v (by omega)
                  have hol3 : os.length + 1 ≤ 64 := by rw [hos.out]; simp; omega
                  have hnx : Hid (∃ (j' : Nat) (oa : Option Addr) (oc : Nat) (os' : List Val), j' ≤ many ∧ (.int .i64 ((i : Int) + 1) : Value) = .int .i64 j' ∧ (.slice a3 (os.length + 1) c3 : Value) = .slice oa os'.length oc ∧ os'.length ≤ 64 ∧ Hid (os' = (ns.take j').map f) ∧ Hid ((ns.take j').all (fun p => decide (p < acc.length)) = true) ∧ NwV w2 X3 oa oc os') :=
                    ⟨i + 1, a3, c3, os ++ [v], by omega, by go_num, by simp, by simpa using hol3, hos2, hall2, I3⟩
                  have e1 : ¬ (acc.length : Int) ≤ (P : Int) := by omega
                  have e2' : ¬ acc.length ≤ P := by omega
                  clear I I3 hI2 hos hall hfP hv hP hos2
                  go_wp2_with fail
                  refine cU.mono ?_
                  rintro e w9 ⟨rfl, hw9⟩
                  rw [hw9]
                  clear hw9 w9 cU
                  go_wp2_with (first | (refine wpAppRun rfl _ _ 23 23 rfl _ _ _ rfl rfl hrun3 ?_) | fail)
                  exact ⟨hnx.out, by simp [intOf]; omega⟩
                · have hF2 : Hid (F = []) := by show _ = _; rw [← hF1.out, all_false hin (by rw [hP.out]; simpa using hPu)]; simp
                  have hfin : RvP w F (.returned (.slice none 0 0)) wr := by rw [hF2.out]; exact rvP_nil w wr (kI.trans I.kp (by simp))
                  have e1 : (acc.length : Int) ≤ (P : Int) := by omega
                  have e2' : acc.length ≤ P := by omega
                  clear I hI2 hos hall hP hF1 hF2
                  go_wp2_with fail
                  refine cU.mono ?_
                  rintro e w9 ⟨rfl, hw9⟩
                  rw [hw9]
                  clear hw9 w9 cU
                  go_wp2_with fail
                  go_ret
                  exact hfin
              · obtain rfl : i = many := by omega
                rw [← hnl'.out, List.take_length] at hall hos
                rw [if_pos hall.out, ← hos.out] at hF1
                have hfin : RvP w F (.returned (.slice oa os.length oc)) wr := by rw [← hF1.out]; exact ⟨oa, oc, rfl, I.back kI⟩
                have di : ¬ (i : Int) < (i : Int) := by omega
                clear I hos hall hF1
                go_wp2_with fail
                go_ret
                exact hfin
          · rw [if_pos hE] at hF1
            have hfin : RvP w F (.returned (.slice none 0 0)) wr := by rw [← hF1.out]; exact rvP_nil w wr hI.out.kp
            have dE : ((bs.length : Int) != (A : Int) + (sz : Int)) = true := by simp only [bne_iff_ne]; omega
            have dE2 : ((bs.length : Int) == (A : Int) + (sz : Int)) = false := by rw [beq_eq_false_iff_ne]; omega
            clear hF1 hI
            go_wp2_with fail
            go_ret
            exact hfin
end Go.Proofs.YtpekgpgfdiffcaaGreat
end

section
namespace Go.Proofs.YtpekgpgfdiffcaaGreat
open Go.RowKit Go.Hay
set_option linter.unusedVariables false
set_option linter.unusedSimpArgs false

/-- Just one place is a value's. -/
theorem idx_only {u : List Val} (hu : u.Nodup) {x : Val} (hx : x ∈ u) (k : Nat) (hk : k < u.length) : (u[k].eqv x = true) ↔ k = idxV u x := by
  obtain ⟨h1, h2, _⟩ := idxV_mem u x hx
  have e2 : u[idxV u x] = x := by have : u.getD (idxV u x) nv = u[idxV u x] := by simp [h1]
                                  rw [← this]; exact h2
  rw [eqv_iff]
  constructor
  · intro h
    rcases Nat.lt_trichotomy k (idxV u x) with h3 | h3 | h3
    · exact absurd (by rw [h, e2]) (List.pairwise_iff_getElem.1 hu k (idxV u x) hk h1 h3)
    · exact h3
    · exact absurd (by rw [h, e2]) (List.pairwise_iff_getElem.1 hu (idxV u x) k h1 hk h3)
  · rintro rfl; exact e2
set_option maxHeartbeats 16000000 in
set_option maxRecDepth 100000 in
theorem cRefDict (a : Option Addr) (ca : Nat) (l : List Val) (w : World) (ha : Vals w a l) (hr : allR l = true) (h0 : 0 < l.length) (hl : l.length ≤ 64) :
    Calls Tryz.prog 34 #[.slice a l.length ca] w (NB (dictB l) w) := by
  have cWd := cRefWords a ca l w ha hl
  rw [words_uniq l hr] at cWd
  have hul := uniq_len l
  have hur := uniq_right l hr
  have hum := uniq_mem l
  have hnd := uniq_sorted l hr
  have hF : Hid (dictB l = [octet (uniq l).length] ++ (uniq l).flatMap rowB ++ packB (plcs (uniq l) l l.length) (Lib.bitLen ((uniq l).length - 1))) := rfl
  obtain ⟨F, hFF⟩ : ∃ F, Hid (dictB l = F) := ⟨_, rfl⟩
  rw [hFF.out] at hF ⊢
  obtain ⟨u, hu⟩ : ∃ u, Hid (uniq l = u) := ⟨_, rfl⟩
  rw [hu.out] at cWd hul hur hF hnd
  simp only [hu.out] at hum
  have hu0 : 0 < u.length := by
    cases l with
    | nil => simp at h0
    | cons x r => exact List.length_pos_of_mem ((hum x).2 (by simp))
  have hu64 : u.length ≤ 64 := by omega
  have hplb : Hid (∀ j, j ≤ l.length → ∀ p ∈ plcs u l j, p < u.length) := fun j hj p hp => by
    unfold plcs at hp
    obtain ⟨k, hk, rfl⟩ := List.mem_map.1 hp
    have hk' : k < l.length := by have : k < j := by simpa using hk
                                  omega
    have eg : l.getD k nv = l[k] := by simp [hk']
    exact (idxV_mem u _ ((hum _).2 (by rw [eg]; exact List.getElem_mem hk'))).1
  have hidx : Hid (∀ j (hj : j < l.length) k (hk : k < u.length), (u[k].eqv l[j] = true) ↔ k = idxV u l[j]) := fun j hj k hk => idx_only hnd ((hum _).2 (List.getElem_mem hj)) k hk
  have hidl : Hid (∀ j (hj : j < l.length), idxV u l[j] < u.length) := fun j hj => (idxV_mem u _ ((hum _).2 (List.getElem_mem hj))).1
  have hfl := flat_length (f := rowB) (m := 66) (fun x hx => rowB_length hx) u hur
  have hur' := hid hur
  have ha' := hid ha
  clear ha hFF hu hum hnd hur
  go_enter Tryz.func34, Tryz.ntmps34
  go_wp2_with fail
  refine cWd.mono ?_
  rintro e w1 ⟨ua, uc, rfl, U1⟩
  have hvx : (u.length : Int) = ((octet u.length).toNat : Int) := by rw [octet_nat u.length (by omega)]
  have I1 : NwB w (w1.alloc (.cells #[.int .u8 (u.length : Int)] 5)) (some ⟨w1.heap.size, 0, none⟩) 1 [octet u.length] := by
    refine ⟨.inr ⟨w1.heap.size, 0, 1, rfl, Nat.le_refl _, by decide, by simp, fun j v hv => ?_, fun j hj => ?_⟩, fun q hq => by simp [blk] at hq; have := U1.kp.size; omega, U1.kp.alloc _⟩
    · have e : (w1.alloc (.cells #[.int .u8 (u.length : Int)] 5)).cell? ⟨w1.heap.size, 0 + j, none⟩ = _ := World.cell?_alloc_new w1 _ _ (0 + j)
      rw [e, Nat.zero_add]
      rw [hvx]
      simpa [El.cs, BytE] using hv
    · have e : (w1.alloc (.cells #[.int .u8 (u.length : Int)] 5)).cell? ⟨w1.heap.size, 0 + j, none⟩ = _ := World.cell?_alloc_new w1 _ _ (0 + j)
      refine ⟨?_, World.frozen?_alloc_new w1 _ _ (0 + j)⟩
      have hj1 : j = 0 := by have e4 : BytE.n = 1 := rfl; rw [e4] at hj; omega
      subst hj1
      rw [e]; rfl
  have hI1 := hid I1
  have kA1 : Kp [] w1 (w1.alloc (.cells #[.int .u8 (u.length : Int)] 5)) := (Kp.refl _ _).alloc _
  have hvx' := hid hvx
  have hU := hid U1
  have hwz : IntKind.u8.wrap (u.length : Int) = (u.length : Int) := by rw [IntKind.wrap_u8]; omega
  have hwz2 : (u.length : Int) % 256 = (u.length : Int) := by omega
  have kw1 := U1.kp
  clear cWd I1 U1 hvx
  go_wp2_with fail
  clear hwz hwz2
  go_loopw [4, 5] (fun v4 i wn => ∃ (j : Nat) (ba : Option Addr) (bc : Nat) (bs : List UInt8), j ≤ u.length ∧ i = .int .i64 j ∧ v4 = .slice ba bs.length bc ∧ NwB w wn ba bc bs ∧ Kp [] w1 wn ∧ (∀ k ∈ blk ba, w1.heap.size ≤ k) ∧ Hid (bs = [octet u.length] ++ (u.take j).flatMap rowB)) (fun _ i _ => u.length - (intOf i).toNat)
  case atStart => exact ⟨0, _, 1, [octet u.length], Nat.zero_le _, rfl, rfl, hI1.out, kA1, by simp [blk], by show _ = _; simp⟩
  case round =>
    clear hI1 kA1
    obtain ⟨j, ba, bc, bs, hj, rfl, rfl, I, kn, hnw, hbs⟩ := hrel
    have hbl : bs.length ≤ 5000 := by
      rw [hbs.out, List.length_append]
      have := flat_length (f := rowB) (m := 66) (fun x hx => rowB_length hx) (u.take j) (allR_take hur'.out j)
      have e : (u.take j).length ≤ 64 := by simp; omega
      simp only [List.length_cons, List.length_nil]
      omega
    by_cases hlt : j < u.length
    · obtain ⟨g2, o2, rfl, y0, y1, y2, y3⟩ := (rowVals (hU.out.keep kn).row).1.at j hlt
      have hxr := allR_at hur'.out j hlt
      have hst := hid (flat_take rowB u j hlt)
      obtain ⟨x, hx⟩ : ∃ x, Hid (u[j]'hlt = x) := ⟨u[j]'hlt, rfl⟩
      rw [hx.out] at y0 y1 y2 y3 hxr hst
      have cO := cOne x hxr wr
      have hrb := rowB_length hxr
      obtain ⟨R, hR⟩ : ∃ R, Hid (rowB x = R) := ⟨_, rfl⟩
      rw [hR.out] at cO hst hrb
      unfold Val.v at cO
      obtain ⟨xk, xb, xn, xt⟩ := x
      dsimp only at y0 y1 y2 y3 cO
      have hI := hid I
      clear I hxr hR hx
      go_wp2_with fail
      refine cO.mono ?_
      rintro e w3 ⟨v3, rfl, hr3, hn3⟩
      have k3 := hn3.kp
      obtain ⟨a3, c3, rfl, I3⟩ := NwB.of hr3 hn3.own k3
      obtain ⟨hs3, _, _⟩ := rowSee hr3
      have hJ : NwB w1 wr ba bc bs := ⟨hI.out.row, hnw, kn⟩
      obtain ⟨v4, X4, hrun4, a4, c4, rfl, J4, kk4⟩ := (hJ.keep k3).appS a3 c3 R hs3 (by omega) (by omega)
      have hnA4 := J4.new
      have I4 : NwB w X4 a4 c4 (bs ++ R) := J4.back kw1
      have kX4 : Kp [] w1 X4 := (kn.trans k3 (by simp)).trans kk4 (fun q hq => .inr (hnw q hq))
      have hnx : Hid (∃ (j' : Nat) (ba : Option Addr) (bc : Nat) (bs' : List UInt8), j' ≤ u.length ∧ (.int .i64 ((j : Int) + 1) : Value) = .int .i64 j' ∧ (.slice a4 (bs.length + R.length) c4 : Value) = .slice ba bs'.length bc ∧ NwB w X4 ba bc bs' ∧ Kp [] w1 X4 ∧ (∀ k ∈ blk ba, w1.heap.size ≤ k) ∧ Hid (bs' = [octet u.length] ++ (u.take j').flatMap rowB)) := by
        refine ⟨j + 1, a4, c4, bs ++ R, by omega, by go_num, by simp, I4, kX4, ?_, by show _ = _; rw [hst.out, hbs.out, List.append_assoc]⟩
        exact hnA4
      clear cO hr3 hn3 I3 I4 kk4 hI hs3 hst hbs hJ J4 hnA4
      go_wp2_with (first | (refine wpAppRun rfl _ _ 22 22 rfl _ _ _ rfl rfl hrun4 ?_) | fail)
      exact ⟨hnx.out, by simp [intOf]; omega⟩
    · obtain rfl : j = u.length := by omega
      rw [List.take_length] at hbs
      rw [← hbs.out] at hF
      generalize wr = w2 at *
      have hn2 := hid (NwU.nil w2)
      have hI := hid I
      have kI := I.kp
      clear I hnw
      go_wp2_with fail
      go_loopw [6, 7] (fun v6 i wn => ∃ (j : Nat) (na : Option Addr) (nc : Nat) (ns : List Nat), j ≤ l.length ∧ i = .int .i64 j ∧ v6 = .slice na ns.length nc ∧ NwU w2 wn na nc ns ∧ Hid (ns = plcs u l j)) (fun _ i _ => l.length - (intOf i).toNat)
      case atStart => exact ⟨0, none, 0, [], Nat.zero_le _, rfl, rfl, hn2.out, by show _ = _; simp [plcs]⟩
      case round =>
        clear hn2
        obtain ⟨j, na, nc, ns, hj, rfl, rfl, I, hns⟩ := hrel
        have hnl : ns.length ≤ 64 := by rw [hns.out, plcs_length]; omega
        by_cases hlt : j < l.length
        · have hidj := hid (hidx.out j hlt)
          have hidk := hidl.out j hlt
          have hps := hid (plcs_succ u l j)
          have eg : l.getD j nv = l[j] := by simp [hlt]
          rw [eg] at hps
          obtain ⟨g, o, rfl, hdrop⟩ := (ha'.out.kept (kI.trans I.kp (by simp))).at j hlt
          clear hdrop
          have hcx : Hid (∀ W, Kp [] w2 W → W.cell? ⟨g, o + j * 4, none⟩ = some (.int .i64 (l[j]'hlt).k) ∧ W.cell? ⟨g, o + j * 4 + 1, none⟩ = some (.bool (l[j]'hlt).b) ∧ W.cell? ⟨g, o + j * 4 + 2, none⟩ = some (.int .i64 (l[j]'hlt).n) ∧ W.cell? ⟨g, o + j * 4 + 3, none⟩ = some (.string (l[j]'hlt).t)) := fun W kW => by
            obtain ⟨_, _, e, y0, y1, y2, y3⟩ := (ha'.out.kept (kI.trans kW (by simp))).at j hlt
            cases e
            exact ⟨y0, y1, y2, y3⟩
          obtain ⟨x, hx⟩ : ∃ x, Hid (l[j]'hlt = x) := ⟨l[j]'hlt, rfl⟩
          rw [hx.out] at hidj hidk hps
          simp only [hx.out] at hcx
          obtain ⟨P, hP⟩ : ∃ P, Hid (idxV u x = P) := ⟨_, rfl⟩
          rw [hP.out] at hidj hidk hps
          obtain ⟨xk, xb, xn, xt⟩ := x
          dsimp only at hcx
          have hI2 := hid I
          clear I hx hP eg
          go_wp2_with fail
          go_loopw [6, 8] (fun v6 v8 wn => ∃ (k : Nat) (na : Option Addr) (nc : Nat) (ms : List Nat), k ≤ u.length ∧ v8 = .int .i64 k ∧ v6 = .slice na ms.length nc ∧ NwU w2 wn na nc ms ∧ Hid (ms = if k ≤ P then ns else ns ++ [P])) (fun _ v8 _ => u.length - (intOf v8).toNat)
          case atStart => exact ⟨0, na, nc, ns, Nat.zero_le _, rfl, rfl, hI2.out, by show _ = _; rw [if_pos (Nat.zero_le _)]⟩
          case round =>
            clear hI2
            obtain ⟨k, na, nc, ms, hk, rfl, rfl, I, hms⟩ := hrel
            have hml : ms.length ≤ 65 := by rw [hms.out]; split <;> (try simp) <;> omega
            by_cases hku : k < u.length
            · obtain ⟨p0, p1, p2, p3⟩ := hcx.out wr I.kp
              obtain ⟨g2, o2, rfl, y0, y1, y2, y3⟩ := (rowVals (hU.out.keep (kn.trans I.kp (by simp))).row).1.at k hku
              have hik := hidj.out k hku
              obtain ⟨y, hy⟩ : ∃ y, Hid (u[k]'hku = y) := ⟨u[k]'hku, rfl⟩
              rw [hy.out] at y0 y1 y2 y3 hik
              obtain ⟨X, HX, hX⟩ := eqV y ⟨xk, xb, xn, xt⟩
              rw [← HX.out] at hik
              have hik' := hid hik
              obtain ⟨yk, yb, yn, yt⟩ := y
              dsimp only at y0 y1 y2 y3 hX
              have kq0 : ∀ n, Kp [] wr (wr.drewN n) := fun n => (Kp.refl _ _).drewN n
              have hI3 := hid I
              clear I hik HX hy
              cases X with
              | true =>
                have hkP : k = P := hik'.out.1 rfl
                have hkP' := hid hkP
                clear hkP hik'
                go_wp2_with fail
                go_quiet ((fail))
                have I3 := hI3.out.keep (kq0 nq)
                generalize wr.drewN nq = wq at *
                obtain ⟨v4, X4, hrun4, a4, c4, rfl, I4, _⟩ := I3.app1 k (by omega)
                have hnx : Hid (∃ (k' : Nat) (na : Option Addr) (nc : Nat) (ms' : List Nat), k' ≤ u.length ∧ (.int .i64 ((k : Int) + 1) : Value) = .int .i64 k' ∧ (.slice a4 (ms.length + 1) c4 : Value) = .slice na ms'.length nc ∧ NwU w2 X4 na nc ms' ∧ Hid (ms' = if k' ≤ P then ns else ns ++ [P])) :=
                  ⟨k + 1, a4, c4, ms ++ [k], by omega, by go_num, by simp, I4, by show _ = _; rw [hms.out, if_pos (by rw [hkP'.out]; exact Nat.le_refl _), if_neg (by rw [hkP'.out]; omega), hkP'.out]⟩
                have hwk : IntKind.u64.wrap (k : Int) = (k : Int) := by rw [IntKind.wrap_u64]; omega
                clear I3 I4 hI3 hms p0 p1 p2 p3 y0 y1 y2 y3 hX kq0
                go_wp2_with (first | (refine wpAppRun rfl _ _ 62 62 rfl _ _ _ rfl rfl hrun4 ?_) | fail)
                exact ⟨hnx.out, by simp [intOf]; omega⟩
              | false =>
                have hkP : k ≠ P := fun e => by have := hik'.out.2 e; cases this
                have hkP' := hid hkP
                clear hkP hik'
                go_wp2_with fail
                go_quiet ((fail))
                have I3 := hI3.out.keep (kq0 nq)
                generalize wr.drewN nq = wq at *
                have hnx : Hid (∃ (k' : Nat) (na' : Option Addr) (nc' : Nat) (ms' : List Nat), k' ≤ u.length ∧ (.int .i64 ((k : Int) + 1) : Value) = .int .i64 k' ∧ (.slice na ms.length nc : Value) = .slice na' ms'.length nc' ∧ NwU w2 wq na' nc' ms' ∧ Hid (ms' = if k' ≤ P then ns else ns ++ [P])) := by
                  refine ⟨k + 1, na, nc, ms, by omega, by go_num, rfl, I3, ?_⟩
                  show _ = _
                  rw [hms.out]
                  have := hkP'.out
                  by_cases h : k ≤ P
                  · rw [if_pos h, if_pos (by omega)]
                  · rw [if_neg h, if_neg (by omega)]
                clear I3 hI3 hms p0 p1 p2 p3 y0 y1 y2 y3 hX kq0
                go_wp2_with fail
                exact ⟨hnx.out, by simp [intOf]; omega⟩
            · obtain rfl : k = u.length := by omega
              have hN : Hid (∃ (j' : Nat) (na' : Option Addr) (nc' : Nat) (ns' : List Nat), j' ≤ l.length ∧ (.int .i64 ((j : Int) + 1) : Value) = .int .i64 j' ∧ (.slice na ms.length nc : Value) = .slice na' ns'.length nc' ∧ NwU w2 wr na' nc' ns' ∧ Hid (ns' = plcs u l j')) :=
                ⟨j + 1, na, nc, ms, by omega, by go_num, rfl, I, by show _ = _; rw [hms.out, if_neg (by omega), hps.out, hns.out]⟩
              clear I hms
              go_wp2_with fail
              exact ⟨hN.out, by simp [intOf]; omega⟩
        · obtain rfl : j = l.length := by omega
          rw [← hns.out] at hF
          have hnb : ∀ x ∈ ns, x < 18446744073709551616 := fun x hx => by
            rw [hns.out] at hx
            have := hplb.out l.length (Nat.le_refl _) x hx
            omega
          have hwb := bitLen_le64 (u.length - 1)
          have cW := cRefWidth (u.length - 1) wr (by omega)
          obtain ⟨W0, hW0⟩ : ∃ W0, Hid (Lib.bitLen (u.length - 1) = W0) := ⟨_, rfl⟩
          rw [hW0.out] at cW hF hwb
          have cP := cRefPacked na nc ns W0 wr I.see hnl hnb hwb
          have hpl := packB_le ns W0 hnl hwb
          obtain ⟨PB, hPB⟩ : ∃ PB, Hid (packB ns W0 = PB) := ⟨_, rfl⟩
          rw [hPB.out] at cP hF hpl
          have kw := I.kp
          have e1 : IntKind.u64.wrap ((u.length : Int) - 1) = ((u.length - 1 : Nat) : Int) := by rw [IntKind.wrap_u64]; omega
          have e2 : ((u.length : Int) - 1) = ((u.length - 1 : Nat) : Int) := by omega
          obtain ⟨U1, hU1⟩ : ∃ U1, Hid (u.length - 1 = U1) := ⟨_, rfl⟩
          rw [hU1.out] at e1 e2 cW
          have hUb : U1 ≤ 64 := by rw [← hU1.out]; omega
          have e3 : IntKind.u64.wrap (U1 : Int) = (U1 : Int) := by rw [IntKind.wrap_u64]; omega
          clear I hns hnb hW0 hPB
          go_wp2_with fail
          refine cW.mono ?_
          rintro e w9 ⟨rfl, hw9⟩
          rw [hw9]
          clear hw9 w9 cW
          go_wp2_with fail
          refine cP.mono ?_
          rintro e w5 ⟨a5, c5, rfl, hr5, k5, hn5⟩
          obtain ⟨hs5, _, _⟩ := rowSee hr5
          obtain ⟨v6, X6, hrun6, a6, c6, rfl, I6, kk6⟩ := ((hI.out.keep kw).keep k5).appS a5 c5 PB hs5 (by omega) (by omega)
          have hfin : NB F w (.returned (.slice a6 (bs.length + PB.length) c6)) X6 := by
            have e : bs ++ PB = F := hF.out.symm
            rw [e] at I6
            have e2 : bs.length + PB.length = F.length := by rw [← e]; exact (List.length_append).symm
            rw [e2]
            exact ⟨a6, c6, rfl, rowByt.1 I6.row, I6.kp, I6.new⟩
          clear cP hr5 hn5 hs5 I6 kk6 hI hF
          go_wp2_with (first | (refine wpAppRun rfl _ _ 22 22 rfl _ _ _ rfl rfl hrun6 ?_) | fail)
          go_ret
          exact hfin
end Go.Proofs.YtpekgpgfdiffcaaGreat
end

section
namespace Go.Proofs.YtpekgpgfdiffcaaGreat
open Go.RowKit Go.Hay
set_option linter.unusedVariables false
set_option linter.unusedSimpArgs false

theorem runsV_last (x : Val) : ∀ l, ∃ R m, runsV (l ++ [x]) = R ++ [⟨m, x⟩]
  | [] => ⟨[], 1, rfl⟩
  | z :: l => by
    obtain ⟨R, m, h⟩ := runsV_last x l
    rw [List.cons_append, runsV, h]
    cases R with
    | nil =>
      simp only [List.nil_append]
      split
      · exact ⟨[], m + 1, rfl⟩
      · exact ⟨[⟨1, z⟩], m, rfl⟩
    | cons r R =>
      simp only [List.cons_append]
      split
      · exact ⟨⟨r.m + 1, r.v⟩ :: R, m, rfl⟩
      · exact ⟨⟨1, z⟩ :: r :: R, m, rfl⟩
theorem runsV_none {l : List Val} (h : runsV l = []) : l = [] := by
  cases l with
  | nil => rfl
  | cons a l => obtain ⟨k, rs, e⟩ := runsV_head a l; rw [e] at h; cases h
theorem runsV_snoc (x y : Val) : ∀ (l : List Val) (R : List Rn) (m : Nat), runsV l = R ++ [⟨m, y⟩] → runsV (l ++ [x]) = if x.eqv y = true then R ++ [⟨m + 1, y⟩] else R ++ [⟨m, y⟩, ⟨1, x⟩]
  | [], R, m, h => by simp [runsV] at h
  | z :: l, R, m, h => by
    rw [runsV] at h
    rw [List.cons_append, runsV]
    cases hl : runsV l with
    | nil =>
      have e := runsV_none hl
      subst e
      rw [hl] at h
      cases R with
      | nil =>
        simp only [List.nil_append, List.cons.injEq, Rn.mk.injEq, and_true] at h
        obtain ⟨rfl, rfl⟩ := h
        simp only [List.nil_append, runsV]
        by_cases hx : x.eqv z = true
        · have := eqv_iff.1 hx; subst this; simp [eqv_self]
        · have : ¬ z.eqv x = true := fun h => hx (by rw [eqv_iff.1 h]; exact eqv_self _)
          rw [if_neg hx, if_neg this]
      | cons r R => simp at h
    | cons r rs =>
      rw [hl] at h
      simp only at h
      by_cases hz : z.eqv r.v = true
      · rw [if_pos hz] at h
        cases R with
        | nil =>
          simp only [List.nil_append, List.cons.injEq, Rn.mk.injEq] at h
          obtain ⟨⟨rfl, rfl⟩, rfl⟩ := h
          rw [runsV_snoc x r.v l [] r.m (by rw [hl]; rfl)]
          by_cases hx : x.eqv r.v = true
          · simp [hx, hz]
          · simp [hx, hz]
        | cons r' R' =>
          simp only [List.cons_append, List.cons.injEq] at h
          obtain ⟨rfl, rfl⟩ := h
          rw [runsV_snoc x y l (r :: R') m (by rw [hl]; rfl)]
          by_cases hx : x.eqv y = true
          · simp [hx, hz]
          · simp [hx, hz]
      · rw [if_neg hz] at h
        cases R with
        | nil => simp at h
        | cons r' R' =>
          simp only [List.cons_append, List.cons.injEq] at h
          obtain ⟨rfl, h⟩ := h
          rw [runsV_snoc x y l R' m (by rw [hl]; exact h)]
          cases R' with
          | nil =>
            simp only [List.nil_append, List.cons.injEq] at h
            obtain ⟨rfl, rfl⟩ := h
            by_cases hx : x.eqv y = true
            · simp [hx, hz]
            · simp [hx, hz]
          | cons q Q =>
            simp only [List.cons_append, List.cons.injEq] at h
            obtain ⟨rfl, rfl⟩ := h
            by_cases hx : x.eqv y = true
            · simp [hx, hz]
            · simp [hx, hz]
theorem infoRr : ∃ i : TypeInfo, Tryz.prog.info? 54 = some i ∧ i.zero = some (.agg #[.int .i64 0, .int .i64 0, .bool false, .int .i64 0, .string ⟨#[]⟩]) ∧ i.size = 5 ∧ i.bytes = 48 := info4 (by kernel_rfl)
theorem rowNoneR (w : World) {q : Nat} (hq : w.heap.size = q) (C : Array Value) (t : TypeId) : RunE.Row (w.alloc (.cells C t)) (.slice (some ⟨q, 0, none⟩) 0 0) [] := by
  subst hq
  exact .inr ⟨w.heap.size, 0, 0, rfl, Nat.le_refl _, by decide, by simp, fun j u hu => by simp [El.cs] at hu, fun j hj => absurd hj (by simp)⟩
/-- How the reference's loop stands. -/
structure RfI (l : List Val) (w wn : World) (ra : Option Addr) (rc j : Nat) (R : List Rn) : Prop where
  row : RunE.Row wn (.slice ra R.length rc) R
  new : ∀ k ∈ blk ra, w.heap.size ≤ k
  kp : Kp [] w wn
  runs : Hid (runsV (l.take j) = R)
theorem RfI.len {l : List Val} {w wn : World} {ra : Option Addr} {rc j : Nat} {R : List Rn} (h : RfI l w wn ra rc j R) : R.length ≤ j := by
  rw [← h.runs.out]
  have := runsV_len (l.take j)
  simp at this
  omega
theorem RfI.keep {l : List Val} {w wn w' : World} {ra : Option Addr} {rc j : Nat} {R : List Rn} (h : RfI l w wn ra rc j R) (k : Kp [] wn w') : RfI l w w' ra rc j R :=
  ⟨h.row.keptNew k, h.new, h.kp.trans k (by simp), h.runs⟩
theorem take_snoc (l : List Val) (j : Nat) (h : j < l.length) : l.take (j + 1) = l.take j ++ [l[j]] := List.take_succ_eq_append_getElem h
/-- What the runs of one value more are. -/
theorem runs_next (l : List Val) (j : Nat) (h : j < l.length) (X : Bool) (hX : j = 0 ∨ ∃ hj : j - 1 < l.length, X = l[j].eqv l[j - 1]) (h0 : j = 0 → X = false) : (X = false ∧ runsV (l.take (j + 1)) = runsV (l.take j) ++ [⟨1, l[j]⟩]) ∨ (X = true ∧ ∃ R m, runsV (l.take j) = R ++ [⟨m, l[j]⟩] ∧ runsV (l.take (j + 1)) = R ++ [⟨m + 1, l[j]⟩]) := by
  rw [take_snoc l j h]
  by_cases hj : j = 0
  · subst hj
    exact .inl ⟨h0 rfl, by simp [runsV]⟩
  · rcases hX with e | ⟨hj1, hX⟩
    · exact absurd e hj
    · obtain ⟨R, m, hR⟩ := runsV_last l[j - 1] (l.take (j - 1))
      rw [← take_snoc l (j - 1) hj1, show j - 1 + 1 = j by omega] at hR
      have hs := runsV_snoc l[j] l[j - 1] (l.take j) R m hR
      rw [← hX] at hs
      cases X with
      | false => exact .inl ⟨rfl, by rw [hs, hR]; simp⟩
      | true =>
        have e := eqv_iff.1 hX.symm
        exact .inr ⟨rfl, R, m, by rw [hR, e], by rw [hs, ← e]; simp⟩
end Go.Proofs.YtpekgpgfdiffcaaGreat
end

section
namespace Go.Proofs.YtpekgpgfdiffcaaGreat
open Go.RowKit Go.Hay
set_option linter.unusedVariables false
set_option linter.unusedSimpArgs false

set_option maxHeartbeats 8000000 in
set_option maxRecDepth 100000 in
theorem cRefRuns (a : Option Addr) (ca : Nat) (l : List Val) (w : World) (ha : Vals w a l) (hl : l.length ≤ 3600000000000) :
    Calls Tryz.prog 31 #[.slice a l.length ca] w (NR (runsV l) w) := by
  obtain ⟨i0, hi, hz0, hz1, hz2⟩ := infoRr
  have I0 : Hid (RfI l w w none 0 0 []) := ⟨.inl ⟨rfl, rfl⟩, by simp [blk], Kp.refl _ _, rfl⟩
  have ha' := hid ha
  clear ha
  obtain ⟨F, hF⟩ : ∃ F, Hid (runsV l = F) := ⟨_, rfl⟩
  rw [hF.out]
  go_enter Tryz.func31, Tryz.ntmps31
  go_wp2_with fail
  go_loopw [3, 4] (fun v3 i wn => ∃ (j : Nat) (ra : Option Addr) (rc : Nat) (R : List Rn), j ≤ l.length ∧ i = .int .i64 j ∧ v3 = .slice ra R.length rc ∧ RfI l w wn ra rc j R) (fun _ i _ => l.length - (intOf i).toNat)
  case atStart => exact ⟨0, none, 0, [], Nat.zero_le _, rfl, rfl, I0.out⟩
  case round =>
    clear I0
    obtain ⟨j, ra, rc, R, hj, rfl, rfl, I⟩ := hrel
    have hRl := I.len
    by_cases hlt : j < l.length
    · obtain ⟨g, o, rfl, a0, a1, a2, a3⟩ := (ha'.out.kept I.kp).at j hlt
      obtain ⟨y, hy⟩ : ∃ y, Hid (l[j]'hlt = y) := ⟨_, rfl⟩
      have hnx := hid (runs_next l j hlt)
      rw [hy.out] at a0 a1 a2 a3 hnx
      obtain ⟨yk, yb, yn, yt⟩ := y
      dsimp only at a0 a1 a2 a3
      have hplain : Hid (runsV (l.take (j + 1)) = R ++ [⟨1, ⟨yk, yb, yn, yt⟩⟩] → ∀ wq, Kp [] wr wq → Kp [] wq (wq.alloc (.cells #[.int .i64 1, .int .i64 yk, .bool yb, .int .i64 yn, .string yt] 54)) ∧ RunE.Row (wq.alloc (.cells #[.int .i64 1, .int .i64 yk, .bool yb, .int .i64 yn, .string yt] 54)) (.slice ra R.length rc) R ∧ Src Tryz.prog 5 51 (.slice (some ⟨wq.heap.size, 0, none⟩) 1 1) 1 (RunE.cs [⟨1, ⟨yk, yb, yn, yt⟩⟩]) (wq.alloc (.cells #[.int .i64 1, .int .i64 yk, .bool yb, .int .i64 yn, .string yt] 54)) ∧ ∀ ys a' c' w', Hid (ys = R ++ [⟨1, ⟨yk, yb, yn, yt⟩⟩]) → RunE.Row w' (.slice a' ys.length c') ys → Kp (own (.slice ra R.length rc)) (wq.alloc (.cells #[.int .i64 1, .int .i64 yk, .bool yb, .int .i64 yn, .string yt] 54)) w' → (∀ k ∈ blk a', k ∈ own (.slice ra R.length rc) ∨ (wq.alloc (.cells #[.int .i64 1, .int .i64 yk, .bool yb, .int .i64 yn, .string yt] 54)).heap.size ≤ k) → RfI l w w' a' c' (j + 1) ys) := fun hs wq kq => by
        have kc : Kp [] wq (wq.alloc (.cells #[.int .i64 1, .int .i64 yk, .bool yb, .int .i64 yn, .string yt] 54)) := (Kp.refl _ _).alloc _
        have hsee : RunE.See (wq.alloc (.cells #[.int .i64 1, .int .i64 yk, .bool yb, .int .i64 yn, .string yt] 54)) (some ⟨wq.heap.size, 0, none⟩) [⟨1, ⟨yk, yb, yn, yt⟩⟩] := runOne wq rfl ⟨1, ⟨yk, yb, yn, yt⟩⟩ _
        refine ⟨kc, (I.keep (kq.trans kc (by simp))).row, hsee.src (P := Tryz.prog) Tryz.underlying51 1, fun ys a' c' w' hy' hrow' hg' hn' => ?_⟩
        rw [ownS] at hg' hn'
        refine ⟨hrow', fun k hk => ?_, (I.kp.trans (kq.trans kc (by simp)) (by simp)).trans hg' (fun k hk => .inr (I.new k hk)), by show _ = _; rw [hy'.out, hs]⟩
        rcases hn' k hk with h1 | h1
        · exact I.new k h1
        · have := I.kp.size; have := kq.size; have := kc.size; omega
      by_cases hj0 : j = 0
      · subst hj0
        rw [Nat.zero_mul, Nat.add_zero] at a0 a1 a2 a3
        have hpl : Hid (runsV (l.take (0 + 1)) = R ++ [⟨1, ⟨yk, yb, yn, yt⟩⟩]) := by
          show _ = _
          rcases hnx.out false (.inl rfl) (fun _ => rfl) with ⟨_, h⟩ | ⟨h, _⟩
          · rw [h, I.runs.out]
          · cases h
        have hp2 := hplain.out hpl.out
        clear hplain hnx hpl I
        have kq0 : ∀ n, Kp [] wr (wr.drewN n) := fun n => (Kp.refl _ _).drewN n
        go_wp2_with fail
        go_quiet ((fail))
        obtain ⟨kc, hrowc, hsr, hnext⟩ := hp2 (wr.drewN nq) (kq0 nq)
        have hnx := hid hnext
        have a0' := kpAt (kq0 nq) a0; have a1' := kpAt (kq0 nq) a1; have a2' := kpAt (kq0 nq) a2; have a3' := kpAt (kq0 nq) a3
        generalize wr.drewN nq = wq at *
        clear a0 a1 a2 a3 hp2 hnext
        go_wp2_with (first | (refine wpAppG (E := RunE) rfl _ _ 51 51 54 rfl i0 _ 48 Tryz.underlying51 hi hz0 hz1 hz2 rfl _ R rfl hrowc _ [⟨1, ⟨yk, yb, yn, yt⟩⟩] rfl hsr (by simp; omega) (by simp; omega) ?_; intro ys a' c' w' hy' hrow' hg' hn') | fail)
        exact ⟨⟨0 + 1, a', c', ys, by omega, by go_num, rfl, hnx.out ys a' c' w' hy' hrow' hg' hn'⟩, by simp [intOf]; omega⟩
      · have hj1 : j - 1 < l.length := by omega
        obtain ⟨_, _, e, b0, b1, b2, b3⟩ := (ha'.out.kept I.kp).at (j - 1) hj1
        cases e
        obtain ⟨z, hz⟩ : ∃ z, Hid (l[j - 1]'hj1 = z) := ⟨_, rfl⟩
        rw [hz.out] at b0 b1 b2 b3
        obtain ⟨X, HX, hX⟩ := eqV ⟨yk, yb, yn, yt⟩ z
        have hnx2 := hid (hnx.out X (.inr ⟨hj1, by rw [hz.out]; exact HX.out⟩) (fun h => absurd h hj0))
        obtain ⟨zk, zb, zn, zt⟩ := z
        dsimp only at b0 b1 b2 b3 hX
        have d0 : 0 < j := by omega
        have d3 : decide (0 < j) = true := by simp; omega
        have d1 : (0 : Int) < (j : Int) := by omega
        have d2 : ((j : Int) - 1) = ((j - 1 : Nat) : Int) := by omega
        have hI := hid I
        clear hnx HX I
        cases X with
        | false =>
          have hpl : Hid (runsV (l.take (j + 1)) = R ++ [⟨1, ⟨yk, yb, yn, yt⟩⟩]) := by
            show _ = _
            rcases hnx2.out with ⟨_, h⟩ | ⟨h, _⟩
            · rw [h, hI.out.runs.out]
            · cases h
          have hp2 := hplain.out hpl.out
          clear hplain hnx2 hpl hI
          have kq0 : ∀ n, Kp [] wr (wr.drewN n) := fun n => (Kp.refl _ _).drewN n
          go_wp2_with fail
          go_quiet ((fail))
          obtain ⟨kc, hrowc, hsr, hnext⟩ := hp2 (wr.drewN nq) (kq0 nq)
          have hnx := hid hnext
          have a0' := kpAt (kq0 nq) a0; have a1' := kpAt (kq0 nq) a1; have a2' := kpAt (kq0 nq) a2; have a3' := kpAt (kq0 nq) a3
          generalize wr.drewN nq = wq at *
          clear a0 a1 a2 a3 hp2 hnext
          go_wp2_with (first | (refine wpAppG (E := RunE) rfl _ _ 51 51 54 rfl i0 _ 48 Tryz.underlying51 hi hz0 hz1 hz2 rfl _ R rfl hrowc _ [⟨1, ⟨yk, yb, yn, yt⟩⟩] rfl hsr (by simp; omega) (by simp; omega) ?_; intro ys a' c' w' hy' hrow' hg' hn') | fail)
          exact ⟨⟨j + 1, a', c', ys, by omega, by go_num, rfl, hnx.out ys a' c' w' hy' hrow' hg' hn'⟩, by simp [intOf]; omega⟩
        | true =>
          clear hplain
          obtain ⟨R0, m, hR0, hR1⟩ : ∃ R0 m, R = R0 ++ [⟨m, ⟨yk, yb, yn, yt⟩⟩] ∧ Hid (runsV (l.take (j + 1)) = R0 ++ [⟨m + 1, ⟨yk, yb, yn, yt⟩⟩]) := by
            rcases hnx2.out with ⟨h, _⟩ | ⟨_, R0, m, h1, h2⟩
            · cases h
            · exact ⟨R0, m, by rw [← hI.out.runs.out, h1], h2⟩
          obtain ⟨n0, hn0⟩ : ∃ n0, Hid (R0.length = n0) := ⟨_, rfl⟩
          have hRn : R.length = n0 + 1 := by rw [hR0, List.length_append, hn0.out]; rfl
          have hsee : RunE.See wr ra R := by obtain ⟨_, _, e, hs, _⟩ := hI.out.row.see; injection e with e1 e2 e3; rw [e1]; exact hs
          obtain ⟨g2, o2, rfl, r0, r1, r2, r3, r4⟩ := runE_at hsee (j := n0) (x := ⟨m, ⟨yk, yb, yn, yt⟩⟩) (by rw [hR0, ← hn0.out]; simp)
          dsimp only at r0 r1 r2 r3 r4
          have hsee' : Hid (∀ W, Kp [] wr W → RunE.See W (some ⟨g2, o2, none⟩) R0) := fun W kW => by
            have := (hsee.keptNew kW).front n0
            rw [hR0, ← hn0.out, List.take_left] at this
            exact this
          have hrm : Hid (m ≤ l.length) := by
            have := (runsV_in (l := l.take j) ⟨m, ⟨yk, yb, yn, yt⟩⟩ (by rw [hI.out.runs.out, hR0]; simp)).2
            simp at this
            show m ≤ _
            omega
          have hmle := hrm.out
          have hrc : n0 + 1 ≤ rc ∧ rc ≤ maxLen := by
            obtain ⟨_, _, e, _, _, h1, h2, _⟩ := hI.out.row.see
            injection e with e1 e2 e3
            rw [← e3, hRn] at h1
            rw [← e3] at h2
            exact ⟨h1, h2⟩
          obtain ⟨hrc1, hrc2⟩ := hrc
          unfold maxLen at hrc2
          have hnl : n0 + 1 ≤ j := by rw [← hRn]; exact hRl
          rw [hRn]
          have hkw := hid hI.out.kp
          clear hsee hI hRn hnx2 hrm hR0 hRl
          have kq0 : ∀ n, Kp [] wr (wr.drewN n) := fun n => (Kp.refl _ _).drewN n
          go_wp2_with fail
          go_quiet ((fail))
          have r0' := kpAt (kq0 nq) r0; have r1' := kpAt (kq0 nq) r1; have r2' := kpAt (kq0 nq) r2; have r3' := kpAt (kq0 nq) r3; have r4' := kpAt (kq0 nq) r4
          have kqq := kq0 nq
          generalize wr.drewN nq = wq at *
          clear a0 a1 a2 a3 b0 b1 b2 b3 r0 r1 r2 r3 r4 hX
          obtain ⟨wc, hwc⟩ : ∃ wc, wq.alloc (.cells #[.int .i64 ((m : Int) + 1), .int .i64 yk, .bool yb, .int .i64 yn, .string yt] 54) = wc := ⟨_, rfl⟩
          have kc : Kp [] wq wc := by rw [← hwc]; exact (Kp.refl _ _).alloc _
          have kd : Kp [] wr wc.drew := (kqq.trans kc (by simp)).drew
          have hS : Hid (∀ A, Kp [] wc.drew A → A.cell? ⟨wq.heap.size, 0, none⟩ = some (.int .i64 ((m : Int) + 1)) ∧ A.cell? ⟨wq.heap.size, 1, none⟩ = some (.int .i64 yk) ∧ A.cell? ⟨wq.heap.size, 2, none⟩ = some (.bool yb) ∧ A.cell? ⟨wq.heap.size, 3, none⟩ = some (.int .i64 yn) ∧ A.cell? ⟨wq.heap.size, 4, none⟩ = some (.string yt)) := fun A kA => by
            have kA' : Kp [] wc A := (Kp.refl [] wc).drew.trans kA (by simp)
            rw [← hwc] at kA'
            exact ⟨kpAt kA' (World.cell?_alloc_new wq _ _ 0), kpAt kA' (World.cell?_alloc_new wq _ _ 1), kpAt kA' (World.cell?_alloc_new wq _ _ 2), kpAt kA' (World.cell?_alloc_new wq _ _ 3), kpAt kA' (World.cell?_alloc_new wq _ _ 4)⟩
          have hwc' := hid hwc
          have hWd : Kp [] w wc.drew := hkw.out.trans kd (by simp)
          have hsee2 : Hid (∀ W, Kp [] wc.drew W → RunE.See W (some ⟨g2, o2, none⟩) R0) := fun W kW => hsee'.out W (kd.trans kW (by simp))
          clear hwc hsee' kd kc
          go_wp2_with fail
          rw [hwc'.out]
          clear r0' r1' r2' r3' r4' hwc'
          refine wp_region_held_drew (S := (fun A => A.cell? ⟨wq.heap.size, 0, none⟩ = some (.int .i64 ((m : Int) + 1)) ∧ A.cell? ⟨wq.heap.size, 1, none⟩ = some (.int .i64 yk) ∧ A.cell? ⟨wq.heap.size, 2, none⟩ = some (.bool yb) ∧ A.cell? ⟨wq.heap.size, 3, none⟩ = some (.int .i64 yn) ∧ A.cell? ⟨wq.heap.size, 4, none⟩ = some (.string yt))) (by kernel_rfl) ?_ (fun hHeld => ?_)
          · exact hS.out _ (Kp.refl _ _)
          generalize wc.drew = wd at *
          have hA0 : Hid (∀ X, Kp [] wd X → ∃ X', X.alloc (.cells #[] 54) = X' ∧ Kp [] wd X' ∧ Kp [] X X' ∧ X.heap.size < X'.heap.size ∧ RunE.Row X' (.slice (some ⟨X.heap.size, 0, none⟩) 0 0) []) := fun X kX =>
            ⟨_, rfl, kX.alloc _, (Kp.refl _ _).alloc _, by simp, rowNoneR X rfl _ _⟩
          have hA8 : Hid (∀ X, Kp [] wd X → ∃ X', X.alloc (.cells #[.int .i64 ((m : Int) + 1), .int .i64 yk, .bool yb, .int .i64 yn, .string yt] 54) = X' ∧ Kp [] wd X' ∧ Kp [] X X' ∧ X.heap.size < X'.heap.size ∧ RunE.See X' (some ⟨X.heap.size, 0, none⟩) [⟨m + 1, ⟨yk, yb, yn, yt⟩⟩]) := fun X kX => by
            have := runOne X rfl ⟨m + 1, ⟨yk, yb, yn, yt⟩⟩ 54
            have e : ((m + 1 : Nat) : Int) = (m : Int) + 1 := by omega
            dsimp only at this
            rw [e] at this
            exact ⟨_, rfl, kX.alloc _, (Kp.refl _ _).alloc _, by simp, this⟩
          have hA6 : Hid (∀ X p, Kp [] wd X → RunE.Row X (.slice (some ⟨p, 0, none⟩) 0 0) [] → wd.heap.size ≤ p → ∃ a c X', (Builtin.append_ #[51, 51] 51 #[.slice (some ⟨p, 0, none⟩) 0 0, .slice (some ⟨g2, o2, none⟩) n0 rc]).run Tryz.prog X = .ok (.slice a n0 c) X' ∧ RunE.Row X' (.slice a n0 c) R0 ∧ Kp [p] X X' ∧ Kp [] wd X' ∧ ∀ k ∈ blk a, wd.heap.size ≤ k) := fun X p kX hr hp => by
            have hsr := (hsee2.out X kX).src (P := Tryz.prog) Tryz.underlying51 rc
            rw [hn0.out] at hsr
            have hsr' : Src Tryz.prog RunE.n 51 (.slice (some ⟨g2, o2, none⟩) n0 rc) R0.length (RunE.cs R0) X := by rw [hn0.out]; exact hsr
            obtain ⟨v', X3, hrun, hrow3, kk3, hn3⟩ := run_appendG (E := RunE) (P := Tryz.prog) X 51 51 51 54 i0 _ 48 Tryz.underlying51 hi hz0 hz1 hz2 rfl (.slice (some ⟨p, 0, none⟩) 0 0) [] hr _ R0 hsr' (by rw [List.length_nil, hn0.out]; omega) (by rw [List.length_nil, hn0.out]; omega)
            rw [List.nil_append] at hrow3
            obtain ⟨a', c', rfl, _⟩ := hrow3.see
            rw [ownS] at kk3
            rw [hn0.out] at hrun hrow3
            have hb : blk (some (⟨p, 0, none⟩ : Addr)) = [p] := rfl
            rw [hb] at kk3
            refine ⟨a', c', X3, hrun, hrow3, kk3, kX.trans kk3 (fun k hk => .inr (by simp at hk; omega)), fun k hk => ?_⟩
            rcases hn3 k (by rw [ownS]; exact hk) with h | h
            · rw [ownS, hb] at h; simp at h; omega
            · have := kX.size; omega
          have hA9 : Hid (∀ X a c q', Kp [] wd X → RunE.Row X (.slice a n0 c) R0 → (∀ k ∈ blk a, wd.heap.size ≤ k) → RunE.See X (some ⟨q', 0, none⟩) [⟨m + 1, ⟨yk, yb, yn, yt⟩⟩] → ∃ v X', (Builtin.append_ #[51, 51] 51 #[.slice a n0 c, .slice (some ⟨q', 0, none⟩) 1 1]).run Tryz.prog X = .ok v X' ∧ Kp [] wd X' ∧ ∃ a' c' R', v = .slice a' R'.length c' ∧ RfI l w X' a' c' (j + 1) R') := fun X a c q' kX hr hnw hs => by
            have hsr := hs.src (P := Tryz.prog) Tryz.underlying51 1
            obtain ⟨v', X3, hrun, hrow3, kk3, hn3⟩ := run_appendG (E := RunE) (P := Tryz.prog) X 51 51 51 54 i0 _ 48 Tryz.underlying51 hi hz0 hz1 hz2 rfl (.slice a n0 c) R0 hr _ [⟨m + 1, ⟨yk, yb, yn, yt⟩⟩] hsr (by rw [hn0.out]; simp; omega) (by rw [hn0.out]; simp; omega)
            obtain ⟨a', c', rfl, _⟩ := hrow3.see
            rw [ownS] at kk3
            have kX3 : Kp [] wd X3 := kX.trans kk3 (fun k hk => .inr (hnw k hk))
            refine ⟨_, X3, hrun, kX3, a', c', _, rfl, hrow3, fun k hk => ?_, hWd.trans kX3 (by simp), hR1⟩
            rcases hn3 k (by rw [ownS]; exact hk) with h | h
            · rw [ownS] at h; have := hnw k h; have := hWd.size; omega
            · have := kX.size; have := hWd.size; omega
          have hSP : Hid (∀ A, Kp [] wd A → _) := hS
          clear hS hsee2 hn0 hR1
          have wn0 : IntKind.i64.wrap (n0 : Int) = (n0 : Int) := by rw [IntKind.wrap_i64]; omega
          have wn1 : (n0 : Int) ≤ (rc : Int) := by omega
          have wn2 : (0 : Int) ≤ (n0 : Int) := by omega
          have wn3 : n0 ≤ rc := by omega
          refine wpAnyH_take (i := 1) (v := ?_) rfl (by kernel_rfl) (by kernel_rfl) (by kernel_rfl) (fun _ _ _ h => h) (Or.inl ⟨by rfl, ?_⟩) (by assumption) ?_
          rotate_left
          · intro w hSw; (try dsimp only at hSw); go_simp <;> with_reducible rfl
          try simp only [Act.put, List.getElem_toArray, List.getElem_cons_zero, List.getElem_cons_succ, List.setIfInBounds_toArray, List.set_cons_zero, List.set_cons_succ]
          refine wpAnyH_take (i := 2) (v := ?_) rfl (by kernel_rfl) (by kernel_rfl) (by kernel_rfl) (fun _ _ _ h => h) (Or.inl ⟨by rfl, ?_⟩) (by assumption) ?_
          rotate_left
          · intro w hSw; (try dsimp only at hSw); go_simp <;> with_reducible rfl
          try simp only [Act.put, List.getElem_toArray, List.getElem_cons_zero, List.getElem_cons_succ, List.setIfInBounds_toArray, List.set_cons_zero, List.set_cons_succ]
          refine wpAnyH_take (i := 3) (v := ?_) rfl (by kernel_rfl) (by kernel_rfl) (by kernel_rfl) (fun _ _ _ h => h) (Or.inl ⟨by rfl, ?_⟩) (by assumption) ?_
          rotate_left
          · intro w hSw; (try dsimp only at hSw); go_simp <;> with_reducible rfl
          try simp only [Act.put, List.getElem_toArray, List.getElem_cons_zero, List.getElem_cons_succ, List.setIfInBounds_toArray, List.set_cons_zero, List.set_cons_succ]
          refine wpAnyH_take (i := 4) (v := ?_) rfl (by kernel_rfl) (by kernel_rfl) (by kernel_rfl) (fun _ _ _ h => h) (Or.inl ⟨by rfl, ?_⟩) (by assumption) ?_
          rotate_left
          · intro w hSw; (try dsimp only at hSw); go_simp <;> with_reducible rfl
          try simp only [Act.put, List.getElem_toArray, List.getElem_cons_zero, List.getElem_cons_succ, List.setIfInBounds_toArray, List.set_cons_zero, List.set_cons_succ]
          refine wpAnyH_take (i := 5) (v := ?_) rfl (by kernel_rfl) (by kernel_rfl) (by kernel_rfl) (fun _ _ _ h => h) (Or.inl ⟨by rfl, ?_⟩) (by assumption) ?_
          rotate_left
          · intro w hSw; (try dsimp only at hSw); go_simp <;> with_reducible rfl
          try simp only [Act.put, List.getElem_toArray, List.getElem_cons_zero, List.getElem_cons_succ, List.setIfInBounds_toArray, List.set_cons_zero, List.set_cons_succ]
          refine wpAnyH_take (i := 7) (v := ?_) rfl (by kernel_rfl) (by kernel_rfl) (by kernel_rfl) (fun _ _ _ h => h) (Or.inl ⟨by rfl, ?_⟩) (by assumption) ?_
          rotate_left
          · intro w hSw; (try dsimp only at hSw); go_simp <;> with_reducible rfl
          try simp only [Act.put, List.getElem_toArray, List.getElem_cons_zero, List.getElem_cons_succ, List.setIfInBounds_toArray, List.set_cons_zero, List.set_cons_succ]
          refine wpAnyH_ready (rs := [0, 8]) (by kernel_rfl) (by simp) ?_
          refine AllReadyH.cons rfl (fun K hK => ?_) (AllReadyH.cons rfl (fun K hK => ?_) AllReadyH.nil)
          · obtain ⟨X1, hX1, kX1, kkX1, ltX1, rX1⟩ := hA0.out wd (Kp.refl _ _)
            have hX1' := hid hX1
            clear hX1
            go_simp
            (try go_wp2_with fail)
            rw [hX1'.out]
            refine hK.out _ _ ?_ (fun hHeld => ?_)
            · exact hSP.out _ kX1
            clear hK K
            try simp only [Act.put, List.getElem_toArray, List.getElem_cons_zero, List.getElem_cons_succ, List.setIfInBounds_toArray, List.set_cons_zero, List.set_cons_succ]
            refine wpAnyH_ready (rs := [6, 8]) (by kernel_rfl) (by simp) ?_
            refine AllReadyH.cons rfl (fun K hK => ?_) (AllReadyH.cons rfl (fun K hK => ?_) AllReadyH.nil)
            · obtain ⟨a6, c6, X2, hrun6, row6, kkX2, kX2, nw6⟩ := hA6.out X1 _ kX1 rX1 (Nat.le_refl _)
              refine stepAppRun rfl _ _ 51 51 rfl _ _ _ rfl rfl hrun6 ?_
              refine hK.out _ _ ?_ (fun hHeld => ?_)
              · exact hSP.out _ kX2
              clear hK K
              try simp only [Act.put, List.getElem_toArray, List.getElem_cons_zero, List.getElem_cons_succ, List.setIfInBounds_toArray, List.set_cons_zero, List.set_cons_succ]
              refine wpAnyH_ready (rs := [8]) (by kernel_rfl) (by simp) ?_
              refine AllReadyH.cons rfl (fun K hK => ?_) AllReadyH.nil
              obtain ⟨X3, hX3, kX3, kkX3, ltX3, rX3⟩ := hA8.out X2 kX2
              have hX3' := hid hX3
              clear hX3
              go_simp
              (try go_wp2_with fail)
              rw [hX3'.out]
              refine hK.out _ _ ?_ (fun hHeld => ?_)
              · exact hSP.out _ kX3
              clear hK K
              try simp only [Act.put, List.getElem_toArray, List.getElem_cons_zero, List.getElem_cons_succ, List.setIfInBounds_toArray, List.set_cons_zero, List.set_cons_succ]
              refine wpAnyH_ready (rs := [9]) (by kernel_rfl) (by simp) ?_
              refine AllReadyH.cons rfl (fun K hK => ?_) AllReadyH.nil
              obtain ⟨v9, X9, hrun9, k9, a9, c9, R9, rfl, I9⟩ := hA9.out X3 a6 c6 _ kX3 (row6.keptNew kkX3) nw6 (rX3)
              refine stepAppRun rfl _ _ 51 51 rfl _ _ _ rfl rfl hrun9 ?_
              refine hK.out _ _ ?_ (fun hHeld => ?_)
              · exact hSP.out _ k9
              clear hK K
              try simp only [Act.put, List.getElem_toArray, List.getElem_cons_zero, List.getElem_cons_succ, List.setIfInBounds_toArray, List.set_cons_zero, List.set_cons_succ]
              refine wpAnyH_take (i := 10) (v := ?_) rfl (by kernel_rfl) (by kernel_rfl) (by kernel_rfl) (fun _ _ _ h => h) (Or.inl ⟨by rfl, ?_⟩) (by assumption) ?_
              rotate_left
              · intro w hSw; (try dsimp only at hSw); go_simp <;> with_reducible rfl
              try simp only [Act.put, List.getElem_toArray, List.getElem_cons_zero, List.getElem_cons_succ, List.setIfInBounds_toArray, List.set_cons_zero, List.set_cons_succ]
              refine wpAnyH_done (by kernel_rfl) ?_ _
              have I9' := hid I9
              clear I9 hrun9 hrun6 row6 hHeld hSP hA0 hA8 hA6 hA9
              go_wp2_with fail
              exact ⟨⟨j + 1, a9, c9, R9, by omega, by go_num, rfl, I9'.out⟩, by simp [intOf]; omega⟩
            · obtain ⟨X2, hX2, kX2, kkX2, ltX2, rX2⟩ := hA8.out X1 kX1
              have hX2' := hid hX2
              clear hX2
              go_simp
              (try go_wp2_with fail)
              rw [hX2'.out]
              refine hK.out _ _ ?_ (fun hHeld => ?_)
              · exact hSP.out _ kX2
              clear hK K
              try simp only [Act.put, List.getElem_toArray, List.getElem_cons_zero, List.getElem_cons_succ, List.setIfInBounds_toArray, List.set_cons_zero, List.set_cons_succ]
              refine wpAnyH_ready (rs := [6]) (by kernel_rfl) (by simp) ?_
              refine AllReadyH.cons rfl (fun K hK => ?_) AllReadyH.nil
              obtain ⟨a6, c6, X3, hrun6, row6, kkX3, kX3, nw6⟩ := hA6.out X2 _ kX2 (rX1.keptNew kkX2) (Nat.le_refl _)
              refine stepAppRun rfl _ _ 51 51 rfl _ _ _ rfl rfl hrun6 ?_
              refine hK.out _ _ ?_ (fun hHeld => ?_)
              · exact hSP.out _ kX3
              clear hK K
              try simp only [Act.put, List.getElem_toArray, List.getElem_cons_zero, List.getElem_cons_succ, List.setIfInBounds_toArray, List.set_cons_zero, List.set_cons_succ]
              refine wpAnyH_ready (rs := [9]) (by kernel_rfl) (by simp) ?_
              refine AllReadyH.cons rfl (fun K hK => ?_) AllReadyH.nil
              obtain ⟨v9, X9, hrun9, k9, a9, c9, R9, rfl, I9⟩ := hA9.out X3 a6 c6 _ kX3 (row6) nw6 (rX2.kept kkX3 (fun _ k hk hm => by simp [blk] at hk hm; omega))
              refine stepAppRun rfl _ _ 51 51 rfl _ _ _ rfl rfl hrun9 ?_
              refine hK.out _ _ ?_ (fun hHeld => ?_)
              · exact hSP.out _ k9
              clear hK K
              try simp only [Act.put, List.getElem_toArray, List.getElem_cons_zero, List.getElem_cons_succ, List.setIfInBounds_toArray, List.set_cons_zero, List.set_cons_succ]
              refine wpAnyH_take (i := 10) (v := ?_) rfl (by kernel_rfl) (by kernel_rfl) (by kernel_rfl) (fun _ _ _ h => h) (Or.inl ⟨by rfl, ?_⟩) (by assumption) ?_
              rotate_left
              · intro w hSw; (try dsimp only at hSw); go_simp <;> with_reducible rfl
              try simp only [Act.put, List.getElem_toArray, List.getElem_cons_zero, List.getElem_cons_succ, List.setIfInBounds_toArray, List.set_cons_zero, List.set_cons_succ]
              refine wpAnyH_done (by kernel_rfl) ?_ _
              have I9' := hid I9
              clear I9 hrun9 hrun6 row6 hHeld hSP hA0 hA8 hA6 hA9
              go_wp2_with fail
              exact ⟨⟨j + 1, a9, c9, R9, by omega, by go_num, rfl, I9'.out⟩, by simp [intOf]; omega⟩
          · obtain ⟨X1, hX1, kX1, kkX1, ltX1, rX1⟩ := hA8.out wd (Kp.refl _ _)
            have hX1' := hid hX1
            clear hX1
            go_simp
            (try go_wp2_with fail)
            rw [hX1'.out]
            refine hK.out _ _ ?_ (fun hHeld => ?_)
            · exact hSP.out _ kX1
            clear hK K
            try simp only [Act.put, List.getElem_toArray, List.getElem_cons_zero, List.getElem_cons_succ, List.setIfInBounds_toArray, List.set_cons_zero, List.set_cons_succ]
            refine wpAnyH_ready (rs := [0]) (by kernel_rfl) (by simp) ?_
            refine AllReadyH.cons rfl (fun K hK => ?_) AllReadyH.nil
            obtain ⟨X2, hX2, kX2, kkX2, ltX2, rX2⟩ := hA0.out X1 kX1
            have hX2' := hid hX2
            clear hX2
            go_simp
            (try go_wp2_with fail)
            rw [hX2'.out]
            refine hK.out _ _ ?_ (fun hHeld => ?_)
            · exact hSP.out _ kX2
            clear hK K
            try simp only [Act.put, List.getElem_toArray, List.getElem_cons_zero, List.getElem_cons_succ, List.setIfInBounds_toArray, List.set_cons_zero, List.set_cons_succ]
            refine wpAnyH_ready (rs := [6]) (by kernel_rfl) (by simp) ?_
            refine AllReadyH.cons rfl (fun K hK => ?_) AllReadyH.nil
            obtain ⟨a6, c6, X3, hrun6, row6, kkX3, kX3, nw6⟩ := hA6.out X2 _ kX2 rX2 (kX1.size)
            refine stepAppRun rfl _ _ 51 51 rfl _ _ _ rfl rfl hrun6 ?_
            refine hK.out _ _ ?_ (fun hHeld => ?_)
            · exact hSP.out _ kX3
            clear hK K
            try simp only [Act.put, List.getElem_toArray, List.getElem_cons_zero, List.getElem_cons_succ, List.setIfInBounds_toArray, List.set_cons_zero, List.set_cons_succ]
            refine wpAnyH_ready (rs := [9]) (by kernel_rfl) (by simp) ?_
            refine AllReadyH.cons rfl (fun K hK => ?_) AllReadyH.nil
            obtain ⟨v9, X9, hrun9, k9, a9, c9, R9, rfl, I9⟩ := hA9.out X3 a6 c6 _ kX3 (row6) nw6 ((rX1.keptNew kkX2).kept kkX3 (fun _ k hk hm => by simp [blk] at hk hm; omega))
            refine stepAppRun rfl _ _ 51 51 rfl _ _ _ rfl rfl hrun9 ?_
            refine hK.out _ _ ?_ (fun hHeld => ?_)
            · exact hSP.out _ k9
            clear hK K
            try simp only [Act.put, List.getElem_toArray, List.getElem_cons_zero, List.getElem_cons_succ, List.setIfInBounds_toArray, List.set_cons_zero, List.set_cons_succ]
            refine wpAnyH_take (i := 10) (v := ?_) rfl (by kernel_rfl) (by kernel_rfl) (by kernel_rfl) (fun _ _ _ h => h) (Or.inl ⟨by rfl, ?_⟩) (by assumption) ?_
            rotate_left
            · intro w hSw; (try dsimp only at hSw); go_simp <;> with_reducible rfl
            try simp only [Act.put, List.getElem_toArray, List.getElem_cons_zero, List.getElem_cons_succ, List.setIfInBounds_toArray, List.set_cons_zero, List.set_cons_succ]
            refine wpAnyH_done (by kernel_rfl) ?_ _
            have I9' := hid I9
            clear I9 hrun9 hrun6 row6 hHeld hSP hA0 hA8 hA6 hA9
            go_wp2_with fail
            exact ⟨⟨j + 1, a9, c9, R9, by omega, by go_num, rfl, I9'.out⟩, by simp [intOf]; omega⟩
    · obtain rfl : j = l.length := by omega
      have hfin : NR F w (.returned (.slice ra R.length rc)) wr := by
        have e : R = F := by rw [← I.runs.out, List.take_length]; exact hF.out
        subst e
        exact ⟨ra, rc, rfl, I.row, I.kp, I.new⟩
      clear I
      go_wp2_with fail
      go_ret
      exact hfin
end Go.Proofs.YtpekgpgfdiffcaaGreat
end

section
namespace Go.Proofs.YtpekgpgfdiffcaaGreat
open Go.RowKit Go.Hay
set_option linter.unusedVariables false
set_option linter.unusedSimpArgs false

theorem u8_mod (m : Nat) (h : m < 256) : (m : Int) = ((octet m).toNat : Int) := by rw [octet_nat m h]
set_option maxHeartbeats 16000000 in
set_option maxRecDepth 100000 in
theorem cRefEncR (a : Option Addr) (ca : Nat) (l : List Val) (w : World) (ha : Vals w a l) (h0 : 0 < l.length) (hr : refE 1 l = 0) : Calls Tryz.prog 17 #[.int .i64 1, .slice a l.length ca] w (EncP 1 l w) := by
  obtain ⟨_, h64, hall⟩ := refE_ok hr
  have cR := cRefRefusedE 1 a ca l w ha (by omega)
  rw [hr] at cR
  have cRu := hid (fun W (k : Kp [] w W) => cRefRuns a ca l W (ha.kept k) (by omega))
  have hrl := runsV_len l
  have hrin := hid (fun r (h : r ∈ runsV l) => (⟨List.all_eq_true.1 hall _ (runsV_in r h).1, (runsV_in r h).2⟩ : r.v.right = true ∧ r.m ≤ l.length))
  have hfin : Hid (∀ W b c n, Kp [] w W → n = (encR 1 l).length → Row W (.slice b (encR 1 l).length c) (encR 1 l) → (∀ q ∈ blk b, w.heap.size ≤ q) → EncP 1 l w (.returned (.tuple #[.slice b n c, .int .i64 0])) W) := fun W b c n kW hn hrow hnw => ⟨b, c, by rw [hr, hn], hrow, kW, hnw⟩
  have hGe : Hid (encR 1 l = (runsV l).flatMap runB) := by show _ = _; rw [encR_put hr h0]; rfl
  obtain ⟨R, hR⟩ : ∃ R, Hid (runsV l = R) := ⟨_, rfl⟩
  rw [hR.out] at hGe hrin hrl
  simp only [hR.out] at cRu
  rw [hGe.out] at hfin
  have hflr := hid (flatRun_len (R := R) (fun r h => (hrin.out r h).1))
  have hd0 : ((l.length : Int) == 0) = false := by rw [beq_eq_false_iff_ne]; omega
  clear ha hr hall hGe hR
  go_enter Tryz.func17, Tryz.ntmps17
  go_wp2_with fail
  refine cR.mono ?_
  rintro e w1 ⟨rfl, k1⟩
  have cU := cRu.out w1 k1
  clear cR cRu
  go_wp2_with fail
  refine cU.mono ?_
  rintro e w2 ⟨ra, rc, rfl, hrow, k2, hn2⟩
  have kw2 := k1.trans k2 (by simp)
  have hse : Hid (∀ W, Kp [] w2 W → RunE.See W ra R) := fun W kW => by
    obtain ⟨_, _, e, hs, _⟩ := hrow.see
    injection e with e1 e2 e3
    rw [e1]; exact hs.keptNew kW
  have hnil := hid (NwB.nil w2)
  clear cU hrow hn2
  go_wp2_with fail
  go_loopw [7, 9] (fun v7 i wn => ∃ (j : Nat) (ba : Option Addr) (bc : Nat) (bs : List UInt8), j ≤ R.length ∧ i = .int .i64 j ∧ v7 = .slice ba bs.length bc ∧ NwB w2 wn ba bc bs ∧ Hid (bs = (R.take j).flatMap runB)) (fun _ i _ => R.length - (intOf i).toNat)
  case atStart => exact ⟨0, none, 0, [], Nat.zero_le _, rfl, rfl, hnil.out, by show _ = _; simp⟩
  case round =>
    clear hnil
    obtain ⟨j, ba, bc, bs, hj, rfl, rfl, I, hbs⟩ := hrel
    have hbl : bs.length ≤ 5000 := by
      rw [hbs.out]
      have := flatRun_len (R := R.take j) (fun r h => (hrin.out r (List.mem_of_mem_take h)).1)
      have e : (R.take j).length ≤ 64 := by simp; omega
      omega
    by_cases hlt : j < R.length
    · have hx : R[j]? = some R[j] := by simp [hlt]
      obtain ⟨g2, o2, rfl, hdrop⟩ := runE_at (hse.out wr I.kp) hx
      clear hdrop
      have hcx : Hid (∀ W, Kp [] w2 W → W.cell? ⟨g2, o2 + j * 5, none⟩ = some (.int .i64 (R[j]'hlt).m) ∧ W.cell? ⟨g2, o2 + j * 5 + 1, none⟩ = some (.int .i64 (R[j]'hlt).v.k) ∧ W.cell? ⟨g2, o2 + j * 5 + 2, none⟩ = some (.bool (R[j]'hlt).v.b) ∧ W.cell? ⟨g2, o2 + j * 5 + 3, none⟩ = some (.int .i64 (R[j]'hlt).v.n) ∧ W.cell? ⟨g2, o2 + j * 5 + 4, none⟩ = some (.string (R[j]'hlt).v.t)) := fun W kW => by
        obtain ⟨_, _, e, y0, y1, y2, y3, y4⟩ := runE_at (hse.out W kW) hx
        cases e
        exact ⟨y0, y1, y2, y3, y4⟩
      obtain ⟨hxr, hxm⟩ := hrin.out _ (List.getElem_mem hlt)
      have hst := hid (flatRun_take R j hlt)
      obtain ⟨r, hre⟩ : ∃ r, Hid (R[j]'hlt = r) := ⟨R[j]'hlt, rfl⟩
      rw [hre.out] at hxr hxm hst
      simp only [hre.out] at hcx
      have hrb := rowB_length hxr
      have hvx := u8_mod r.m (by omega)
      have hrB : Hid (runB r = octet r.m :: rowB r.v) := rfl
      obtain ⟨v3, X3, hrun3, a3, c3, rfl, I3, _⟩ := I.app1 (octet r.m) (r.m : Int) hvx (by omega)
      obtain ⟨p0, p1, p2, p3, p4⟩ := hcx.out wr I.kp
      obtain ⟨q0, q1, q2, q3, q4⟩ := hcx.out X3 I3.kp
      have cO := cOne r.v hxr X3
      obtain ⟨B, hB⟩ : ∃ B, Hid (rowB r.v = B) := ⟨_, rfl⟩
      rw [hB.out] at cO hrb hrB
      unfold Val.v at cO
      have hI3 := hid I3
      have hwz : IntKind.u8.wrap (r.m : Int) = (r.m : Int) := by rw [IntKind.wrap_u8]; omega
      have hwz2 : (r.m : Int) % 256 = (r.m : Int) := by omega
      have hvx' := hid hvx
      rw [hrB.out] at hst
      clear I I3 hxr hre hcx hx hB hvx hrB
      obtain ⟨m, xk, xb, xn, xt⟩ := r
      dsimp only at *
      go_wp2_with (first | (refine wpAppRun rfl _ _ 22 22 rfl _ _ _ rfl rfl hrun3 ?_) | fail)
      refine cO.mono ?_
      rintro e w3 ⟨v4, rfl, hr4, hn4⟩
      have k4 := hn4.kp
      obtain ⟨a4, c4, rfl, _⟩ := NwB.of hr4 hn4.own k4
      obtain ⟨hs4, _, _⟩ := rowSee hr4
      have el : (bs ++ [octet m]).length = bs.length + 1 := by simp
      obtain ⟨v5, X5, hrun5, a5, c5, rfl, I5, _⟩ := (hI3.out.keep k4).appS a4 c4 B hs4 (by rw [el]; omega) (by omega)
      rw [el] at hrun5
      have hnx : Hid (∃ (j' : Nat) (ba : Option Addr) (bc : Nat) (bs' : List UInt8), j' ≤ R.length ∧ (.int .i64 ((j : Int) + 1) : Value) = .int .i64 j' ∧ (.slice a5 (bs.length + 1 + B.length) c5 : Value) = .slice ba bs'.length bc ∧ NwB w2 X5 ba bc bs' ∧ Hid (bs' = (R.take j').flatMap runB)) :=
        ⟨j + 1, a5, c5, bs ++ [octet m] ++ B, by omega, by go_num, by rw [List.length_append, el], I5, by show _ = _; rw [hst.out, hbs.out]; simp⟩
      clear cO hr4 hn4 I5 hI3 hs4 hst hbs hrun3 el
      go_wp2_with (first | (refine wpAppRun rfl _ _ 22 22 rfl _ _ _ rfl rfl hrun5 ?_) | fail)
      exact ⟨hnx.out, by simp [intOf]; omega⟩
    · obtain rfl : j = R.length := by omega
      rw [List.take_length] at hbs
      rw [← hbs.out] at hfin
      have I' := I.back kw2
      have hf := hfin.out wr ba bc bs.length I'.kp rfl (rowByt.1 I'.row) I'.new
      clear I I' hfin hbs
      go_wp2_with fail
      go_ret2
      exact hf
set_option maxHeartbeats 16000000 in
set_option maxRecDepth 100000 in
theorem cRefEncP (k : Int) (a : Option Addr) (ca : Nat) (l : List Val) (w : World) (ha : Vals w a l) (h0 : 0 < l.length) (hr : refE k l = 0) (e1 : (k == 1) = false) (e2 : (k == 2) = false) (e3 : (k == 3) = false) (e4 : (k == 4) = false) : Calls Tryz.prog 17 #[.int .i64 k, .slice a l.length ca] w (EncP k l w) := by
  obtain ⟨_, h64, hall⟩ := refE_ok hr
  have cR := cRefRefusedE k a ca l w ha (by omega)
  rw [hr] at cR
  have hall' := hid hall
  have ha' := hid ha
  have hGe : Hid (encR k l = l.flatMap rowB) := by
    show _ = _
    rw [encR_put hr h0]
    unfold putB
    rw [beq_eq_false_iff_ne] at e1 e2 e3 e4
    rw [if_neg e1, if_neg e2, if_neg e3, if_neg e4]
  have hfin : Hid (∀ W b c n, Kp [] w W → n = (encR k l).length → Row W (.slice b (encR k l).length c) (encR k l) → (∀ q ∈ blk b, w.heap.size ≤ q) → EncP k l w (.returned (.tuple #[.slice b n c, .int .i64 0])) W) := fun W b c n kW hn hrow hnw => ⟨b, c, by rw [hr, hn], hrow, kW, hnw⟩
  rw [hGe.out] at hfin
  have hd0 : ((l.length : Int) == 0) = false := by rw [beq_eq_false_iff_ne]; omega
  clear ha hr hall hGe
  go_enter Tryz.func17, Tryz.ntmps17
  go_wp2_with fail
  refine cR.mono ?_
  rintro e w2 ⟨rfl, kw2⟩
  have hnil := hid (NwB.nil w2)
  clear cR
  go_wp2_with fail
  go_loopw [7, 10] (fun v7 i wn => ∃ (j : Nat) (ba : Option Addr) (bc : Nat) (bs : List UInt8), j ≤ l.length ∧ i = .int .i64 j ∧ v7 = .slice ba bs.length bc ∧ NwB w2 wn ba bc bs ∧ Hid (bs = (l.take j).flatMap rowB)) (fun _ i _ => l.length - (intOf i).toNat)
  case atStart => exact ⟨0, none, 0, [], Nat.zero_le _, rfl, rfl, hnil.out, by show _ = _; simp⟩
  case round =>
    clear hnil
    obtain ⟨j, ba, bc, bs, hj, rfl, rfl, I, hbs⟩ := hrel
    have hbl : bs.length ≤ 5000 := by
      rw [hbs.out]
      have := flat_length (f := rowB) (m := 66) (fun x hx => rowB_length hx) (l.take j) (allR_take hall'.out j)
      have e : (l.take j).length ≤ 64 := by simp; omega
      omega
    by_cases hlt : j < l.length
    · obtain ⟨g2, o2, rfl, y0, y1, y2, y3⟩ := (ha'.out.kept (kw2.trans I.kp (by simp))).at j hlt
      have hxr := allR_at hall'.out j hlt
      have hst := hid (flat_take rowB l j hlt)
      obtain ⟨x, hx⟩ : ∃ x, Hid (l[j]'hlt = x) := ⟨l[j]'hlt, rfl⟩
      rw [hx.out] at y0 y1 y2 y3 hxr hst
      have cO := cOne x hxr wr
      have hrb := rowB_length hxr
      obtain ⟨R, hR⟩ : ∃ R, Hid (rowB x = R) := ⟨_, rfl⟩
      rw [hR.out] at cO hst hrb
      unfold Val.v at cO
      obtain ⟨xk, xb, xn, xt⟩ := x
      dsimp only at y0 y1 y2 y3 cO
      have hI := hid I
      clear I hxr hR hx
      go_wp2_with fail
      refine cO.mono ?_
      rintro e w3 ⟨v3, rfl, hr3, hn3⟩
      have k3 := hn3.kp
      obtain ⟨a3, c3, rfl, _⟩ := NwB.of hr3 hn3.own k3
      obtain ⟨hs3, _, _⟩ := rowSee hr3
      obtain ⟨v4, X4, hrun4, a4, c4, rfl, I4, _⟩ := (hI.out.keep k3).appS a3 c3 R hs3 (by omega) (by omega)
      have hnx : Hid (∃ (j' : Nat) (ba : Option Addr) (bc : Nat) (bs' : List UInt8), j' ≤ l.length ∧ (.int .i64 ((j : Int) + 1) : Value) = .int .i64 j' ∧ (.slice a4 (bs.length + R.length) c4 : Value) = .slice ba bs'.length bc ∧ NwB w2 X4 ba bc bs' ∧ Hid (bs' = (l.take j').flatMap rowB)) :=
        ⟨j + 1, a4, c4, bs ++ R, by omega, by go_num, by simp, I4, by show _ = _; rw [hst.out, hbs.out]⟩
      clear cO hr3 hn3 I4 hI hs3 hst hbs
      go_wp2_with (first | (refine wpAppRun rfl _ _ 22 22 rfl _ _ _ rfl rfl hrun4 ?_) | fail)
      exact ⟨hnx.out, by simp [intOf]; omega⟩
    · obtain rfl : j = l.length := by omega
      rw [List.take_length] at hbs
      rw [← hbs.out] at hfin
      have I' := I.back kw2
      have hf := hfin.out wr ba bc bs.length I'.kp rfl (rowByt.1 I'.row) I'.new
      clear I I' hfin hbs
      go_wp2_with fail
      go_ret2
      exact hf
set_option maxHeartbeats 8000000 in
set_option maxRecDepth 100000 in
theorem cRefEnc2K (a : Option Addr) (ca : Nat) (l : List Val) (w : World) (ha : Vals w a l) (h0 : 0 < l.length) (hr : refE 2 l = 0) : Calls Tryz.prog 17 #[.int .i64 2, .slice a l.length ca] w (EncP 2 l w) := by
  obtain ⟨_, h64, hall⟩ := refE_ok hr
  have cR := cRefRefusedE 2 a ca l w ha (by omega)
  rw [hr] at cR
  have cK := hid (fun W (k : Kp [] w W) => cRefDelta a ca l W (ha.kept k) h0 h64)
  have hG : Hid (encR 2 l = deltaB l) := by show _ = _; rw [encR_put hr h0]; rfl
  have hfin : Hid (∀ W b c, Kp [] w W → Row W (.slice b (encR 2 l).length c) (encR 2 l) → (∀ q ∈ blk b, w.heap.size ≤ q) → EncP 2 l w (.returned (.tuple #[.slice b (encR 2 l).length c, .int .i64 0])) W) := fun W b c kW hrow hnw => ⟨b, c, by rw [hr], hrow, kW, hnw⟩
  rw [hG.out] at hfin
  obtain ⟨G, hGG⟩ : ∃ G, Hid (deltaB l = G) := ⟨_, rfl⟩
  simp only [hGG.out] at cK hfin
  have hd0 : ((l.length : Int) == 0) = false := by rw [beq_eq_false_iff_ne]; omega
  clear ha hr hall hG hGG
  go_enter Tryz.func17, Tryz.ntmps17
  go_wp2_with fail
  refine cR.mono ?_
  rintro e w1 ⟨rfl, k1⟩
  have cK1 := cK.out w1 k1
  clear cR cK
  go_wp2_with fail
  refine cK1.mono ?_
  rintro e w2 ⟨a2, c2, rfl, hr2, k2, hn2⟩
  have hf := hfin.out w2 a2 c2 (k1.trans k2 (by simp)) hr2 (fun q hq => by have := hn2 q hq; have := k1.size; omega)
  clear cK1 hr2 hn2 hfin
  go_wp2_with fail
  go_ret2
  exact hf
set_option maxHeartbeats 8000000 in
set_option maxRecDepth 100000 in
theorem cRefEnc3K (a : Option Addr) (ca : Nat) (l : List Val) (w : World) (ha : Vals w a l) (h0 : 0 < l.length) (hr : refE 3 l = 0) : Calls Tryz.prog 17 #[.int .i64 3, .slice a l.length ca] w (EncP 3 l w) := by
  obtain ⟨_, h64, hall⟩ := refE_ok hr
  have cR := cRefRefusedE 3 a ca l w ha (by omega)
  rw [hr] at cR
  have cK := hid (fun W (k : Kp [] w W) => cRefDict a ca l W (ha.kept k) hall h0 h64)
  have hG : Hid (encR 3 l = dictB l) := by show _ = _; rw [encR_put hr h0]; rfl
  have hfin : Hid (∀ W b c, Kp [] w W → Row W (.slice b (encR 3 l).length c) (encR 3 l) → (∀ q ∈ blk b, w.heap.size ≤ q) → EncP 3 l w (.returned (.tuple #[.slice b (encR 3 l).length c, .int .i64 0])) W) := fun W b c kW hrow hnw => ⟨b, c, by rw [hr], hrow, kW, hnw⟩
  rw [hG.out] at hfin
  obtain ⟨G, hGG⟩ : ∃ G, Hid (dictB l = G) := ⟨_, rfl⟩
  simp only [hGG.out] at cK hfin
  have hd0 : ((l.length : Int) == 0) = false := by rw [beq_eq_false_iff_ne]; omega
  clear ha hr hall hG hGG
  go_enter Tryz.func17, Tryz.ntmps17
  go_wp2_with fail
  refine cR.mono ?_
  rintro e w1 ⟨rfl, k1⟩
  have cK1 := cK.out w1 k1
  clear cR cK
  go_wp2_with fail
  refine cK1.mono ?_
  rintro e w2 ⟨a2, c2, rfl, hr2, k2, hn2⟩
  have hf := hfin.out w2 a2 c2 (k1.trans k2 (by simp)) hr2 (fun q hq => by have := hn2 q hq; have := k1.size; omega)
  clear cK1 hr2 hn2 hfin
  go_wp2_with fail
  go_ret2
  exact hf
set_option maxHeartbeats 8000000 in
set_option maxRecDepth 100000 in
theorem cRefEnc4K (a : Option Addr) (ca : Nat) (l : List Val) (w : World) (ha : Vals w a l) (h0 : 0 < l.length) (hr : refE 4 l = 0) : Calls Tryz.prog 17 #[.int .i64 4, .slice a l.length ca] w (EncP 4 l w) := by
  obtain ⟨_, h64, hall⟩ := refE_ok hr
  have cR := cRefRefusedE 4 a ca l w ha (by omega)
  rw [hr] at cR
  have cK := hid (fun W (k : Kp [] w W) => cRefSmall a ca l W (ha.kept k) h0 h64)
  have hG : Hid (encR 4 l = bitsB l) := by show _ = _; rw [encR_put hr h0]; rfl
  have hfin : Hid (∀ W b c, Kp [] w W → Row W (.slice b (encR 4 l).length c) (encR 4 l) → (∀ q ∈ blk b, w.heap.size ≤ q) → EncP 4 l w (.returned (.tuple #[.slice b (encR 4 l).length c, .int .i64 0])) W) := fun W b c kW hrow hnw => ⟨b, c, by rw [hr], hrow, kW, hnw⟩
  rw [hG.out] at hfin
  obtain ⟨G, hGG⟩ : ∃ G, Hid (bitsB l = G) := ⟨_, rfl⟩
  simp only [hGG.out] at cK hfin
  have hd0 : ((l.length : Int) == 0) = false := by rw [beq_eq_false_iff_ne]; omega
  clear ha hr hall hG hGG
  go_enter Tryz.func17, Tryz.ntmps17
  go_wp2_with fail
  refine cR.mono ?_
  rintro e w1 ⟨rfl, k1⟩
  have cK1 := cK.out w1 k1
  clear cR cK
  go_wp2_with fail
  refine cK1.mono ?_
  rintro e w2 ⟨a2, c2, rfl, hr2, k2, hn2⟩
  have hf := hfin.out w2 a2 c2 (k1.trans k2 (by simp)) hr2 (fun q hq => by have := hn2 q hq; have := k1.size; omega)
  clear cK1 hr2 hn2 hfin
  go_wp2_with fail
  go_ret2
  exact hf
set_option maxHeartbeats 4000000 in
theorem cRefEnc6 (k : Int) (a : Option Addr) (ca : Nat) (l : List Val) (w : World) (ha : Vals w a l) (hl : l.length ≤ 9223372036854775807) : Calls Tryz.prog 17 #[.int .i64 k, .slice a l.length ca] w (EncP k l w) := by
  by_cases hr : refE k l = 0
  · by_cases h0 : l.length = 0
    · have cR := cRefRefusedE k a ca l w ha hl
      rw [hr] at cR
      have hfin : Hid (∀ W, Kp [] w W → EncP k l w (.returned (.tuple #[.slice none 0 0, .int .i64 0])) W) := fun W kW => by
        unfold EncP
        rw [encR_none h0, hr]
        exact ⟨none, 0, rfl, .inl ⟨rfl, rfl⟩, kW, by simp [blk]⟩
      rw [h0] at cR ⊢
      clear ha hl
      go_enter Tryz.func17, Tryz.ntmps17
      go_wp2_with fail
      refine cR.mono ?_
      rintro e w1 ⟨rfl, k1⟩
      have hf := hfin.out w1 k1
      clear cR hfin
      go_wp2_with fail
      go_ret2
      exact hf
    · have h1 : 0 < l.length := by omega
      by_cases q1 : k = 1
      · subst q1; exact cRefEncR a ca l w ha h1 hr
      · by_cases q2 : k = 2
        · subst q2; exact cRefEnc2K a ca l w ha h1 hr
        · by_cases q3 : k = 3
          · subst q3; exact cRefEnc3K a ca l w ha h1 hr
          · by_cases q4 : k = 4
            · subst q4; exact cRefEnc4K a ca l w ha h1 hr
            · exact cRefEncP k a ca l w ha h1 hr (by rw [beq_eq_false_iff_ne]; exact q1) (by rw [beq_eq_false_iff_ne]; exact q2) (by rw [beq_eq_false_iff_ne]; exact q3) (by rw [beq_eq_false_iff_ne]; exact q4)
  · have cR := cRefRefusedE k a ca l w ha hl
    obtain ⟨E, hE⟩ : ∃ E, Hid (refE k l = E) := ⟨_, rfl⟩
    have hfin : Hid (∀ W, Kp [] w W → EncP k l w (.returned (.tuple #[.slice none 0 0, .int .i64 E])) W) := fun W kW => by
      unfold EncP encR
      rw [if_neg (fun h => hr h.1), hE.out]
      exact ⟨none, 0, rfl, .inl ⟨rfl, rfl⟩, kW, by simp [blk]⟩
    rw [hE.out] at cR hr
    have d1 : (E != 0) = true := by simpa using hr
    have d2 : (E == 0) = false := by simpa using hr
    clear ha hl hE
    go_enter Tryz.func17, Tryz.ntmps17
    go_wp2_with fail
    refine cR.mono ?_
    rintro e w1 ⟨rfl, k1⟩
    have hf := hfin.out w1 k1
    clear cR hfin
    go_wp2_with fail
    go_ret2
    exact hf
end Go.Proofs.YtpekgpgfdiffcaaGreat
end

section
namespace Go.Proofs.YtpekgpgfdiffcaaGreat
open Go.RowKit Go.Hay
set_option linter.unusedVariables false
set_option linter.unusedSimpArgs false

set_option maxHeartbeats 8000000 in
set_option maxRecDepth 100000 in
theorem cRdDec0 (a : Option Addr) (c : Nat) (bs : List UInt8) (many : Nat) (w : World) (hs : Sees w a bs) (hl : bs.length ≤ c) (hm : c ≤ maxLen) (hb : bs.length ≤ 900000000000000) (hmn : many ≤ 64) (h0 : 0 < many) :
    Calls Tryz.prog 5 #[.int .i64 0, .slice a bs.length c, .int .i64 many] w (DecP w (refD 0 bs many)) := by
  have cK := cRdPlain a c bs many w hs hl hm hb hmn
  have hrp : Hid (rpA 0 many bs = orNil ((tkF many [] bs).map Prod.fst)) := by show _ = _; unfold rpA; rw [if_neg (by omega)]; rfl
  rw [← hrp.out] at cK
  have hFe : Hid (refD 0 bs many = if refE 0 (rpA 0 many bs) = 0 ∧ (rpA 0 many bs).length = many ∧ encR 0 (rpA 0 many bs) = bs then (rpA 0 many bs, 0) else ([], 60)) := rfl
  obtain ⟨F, hFF⟩ : ∃ F, Hid (refD 0 bs many = F) := ⟨_, rfl⟩
  rw [hFF.out] at hFe ⊢
  obtain ⟨L, hL⟩ : ∃ L, Hid (rpA 0 many bs = L) := ⟨_, rfl⟩
  rw [hL.out] at hFe cK
  have hs' := hid hs
  have d0 : ¬ (many : Int) < 0 := by omega
  have d1 : ¬ (64 : Int) < (many : Int) := by omega
  have d2 : (0 : Int) < (many : Int) := by omega
  clear hs hm hrp hFF hL
  go_enter Tryz.func5, Tryz.ntmps5
  go_wp2_with fail
  refine cK.mono ?_
  rintro e w1 ⟨la, lc, rfl, IL⟩
  clear cK
  obtain ⟨hvL, hlL, hmL⟩ := rowVals IL.row
  have cE := cRefEnc6 0 la lc L w1 hvL (by unfold maxLen at hmL; omega)
  unfold EncP at cE
  obtain ⟨E, hEE⟩ : ∃ E, Hid (refE 0 L = E) := ⟨_, rfl⟩
  obtain ⟨R, hRR⟩ : ∃ R, Hid (encR 0 L = R) := ⟨_, rfl⟩
  rw [hEE.out, hRR.out] at hFe
  rw [hEE.out, hRR.out] at cE
  have hIL := hid IL
  unfold maxLen at hmL
  clear hvL IL hEE hRR
  go_wp2_with fail
  refine cE.mono ?_
  rintro e w5 ⟨b5, c5, rfl, hrow5, k5, hn5⟩
  obtain ⟨hs5, _, _⟩ := rowSee hrow5
  have IL5 := hIL.out.keep k5
  have cv1 := convSees hs5 c5
  have cv2 := convSees (hs'.out.kept IL5.kp (by simp)) c
  have hIL5 := hid IL5
  have kw5 := IL5.kp
  clear cE hrow5 hn5 hs5 hIL IL5
  by_cases hE0 : E = 0
  · subst hE0
    by_cases hLm : L.length = many
    · have hLm' := hid hLm
      have dL : ((L.length : Int) != (many : Int)) = false := by rw [hLm]; simp
      have dL2 : ((L.length : Int) == (many : Int)) = true := by rw [hLm]; simp
      by_cases hRb : R = bs
      · have hF2 : Hid (F = (L, 0)) := by show _ = _; rw [hFe.out, if_pos ⟨rfl, hLm'.out, hRb⟩]
        have hfin : DecP w F (.returned (.tuple #[.slice la L.length lc, .int .i64 0])) w5 := by rw [hF2.out]; exact ⟨la, lc, rfl, hIL5.out.row, kw5, hIL5.out.new⟩
        subst hRb
        clear hFe hF2 hIL5 hLm
        go_wp2_with fail
        go_ret2
        exact hfin
      · have hF2 : Hid (F = ([], 60)) := by show _ = _; rw [hFe.out, if_neg (fun h => hRb h.2.2)]
        have hfin : DecP w F (.returned (.tuple #[.slice none 0 0, .int .i64 60])) w5 := by rw [hF2.out]; exact decP_no w w5 kw5
        have dR : (R == bs) = false := by simpa using hRb
        have dR2 : (R != bs) = true := by simpa using hRb
        clear hFe hF2 hIL5 hLm
        go_wp2_with fail
        go_ret2
        exact hfin
    · have hF2 : Hid (F = ([], 60)) := by show _ = _; rw [hFe.out, if_neg (fun h => hLm h.2.1)]
      have hfin : DecP w F (.returned (.tuple #[.slice none 0 0, .int .i64 60])) w5 := by rw [hF2.out]; exact decP_no w w5 kw5
      have dL : ((L.length : Int) != (many : Int)) = true := by simp only [bne_iff_ne]; omega
      have dL2 : ((L.length : Int) == (many : Int)) = false := by rw [beq_eq_false_iff_ne]; omega
      clear hFe hF2 hIL5
      go_wp2_with fail
      go_ret2
      exact hfin
  · have hF2 : Hid (F = ([], 60)) := by show _ = _; rw [hFe.out, if_neg (fun h => hE0 h.1)]
    have hfin : DecP w F (.returned (.tuple #[.slice none 0 0, .int .i64 60])) w5 := by rw [hF2.out]; exact decP_no w w5 kw5
    have dE : (E != 0) = true := by simpa using hE0
    have dE2 : (E == 0) = false := by simpa using hE0
    clear hFe hF2 hIL5
    go_wp2_with fail
    go_ret2
    exact hfin
set_option maxHeartbeats 8000000 in
set_option maxRecDepth 100000 in
theorem cRdDec1 (a : Option Addr) (c : Nat) (bs : List UInt8) (many : Nat) (w : World) (hs : Sees w a bs) (hl : bs.length ≤ c) (hm : c ≤ maxLen) (hb : bs.length ≤ 900000000000000) (hmn : many ≤ 64) (h0 : 0 < many) :
    Calls Tryz.prog 5 #[.int .i64 1, .slice a bs.length c, .int .i64 many] w (DecP w (refD 1 bs many)) := by
  have cK := cRdRuns a c bs many w hs hl hm hb hmn
  have hrp : Hid (rpA 1 many bs = rpR many [] bs) := by show _ = _; unfold rpA; rw [if_neg (by omega)]; rfl
  rw [← hrp.out] at cK
  have hFe : Hid (refD 1 bs many = if refE 1 (rpA 1 many bs) = 0 ∧ (rpA 1 many bs).length = many ∧ encR 1 (rpA 1 many bs) = bs then (rpA 1 many bs, 0) else ([], 60)) := rfl
  obtain ⟨F, hFF⟩ : ∃ F, Hid (refD 1 bs many = F) := ⟨_, rfl⟩
  rw [hFF.out] at hFe ⊢
  obtain ⟨L, hL⟩ : ∃ L, Hid (rpA 1 many bs = L) := ⟨_, rfl⟩
  rw [hL.out] at hFe cK
  have hs' := hid hs
  have d0 : ¬ (many : Int) < 0 := by omega
  have d1 : ¬ (64 : Int) < (many : Int) := by omega
  have d2 : (0 : Int) < (many : Int) := by omega
  clear hs hm hrp hFF hL
  go_enter Tryz.func5, Tryz.ntmps5
  go_wp2_with fail
  refine cK.mono ?_
  rintro e w1 ⟨la, lc, rfl, IL⟩
  clear cK
  obtain ⟨hvL, hlL, hmL⟩ := rowVals IL.row
  have cE := cRefEnc6 1 la lc L w1 hvL (by unfold maxLen at hmL; omega)
  unfold EncP at cE
  obtain ⟨E, hEE⟩ : ∃ E, Hid (refE 1 L = E) := ⟨_, rfl⟩
  obtain ⟨R, hRR⟩ : ∃ R, Hid (encR 1 L = R) := ⟨_, rfl⟩
  rw [hEE.out, hRR.out] at hFe
  rw [hEE.out, hRR.out] at cE
  have hIL := hid IL
  unfold maxLen at hmL
  clear hvL IL hEE hRR
  go_wp2_with fail
  refine cE.mono ?_
  rintro e w5 ⟨b5, c5, rfl, hrow5, k5, hn5⟩
  obtain ⟨hs5, _, _⟩ := rowSee hrow5
  have IL5 := hIL.out.keep k5
  have cv1 := convSees hs5 c5
  have cv2 := convSees (hs'.out.kept IL5.kp (by simp)) c
  have hIL5 := hid IL5
  have kw5 := IL5.kp
  clear cE hrow5 hn5 hs5 hIL IL5
  by_cases hE0 : E = 0
  · subst hE0
    by_cases hLm : L.length = many
    · have hLm' := hid hLm
      have dL : ((L.length : Int) != (many : Int)) = false := by rw [hLm]; simp
      have dL2 : ((L.length : Int) == (many : Int)) = true := by rw [hLm]; simp
      by_cases hRb : R = bs
      · have hF2 : Hid (F = (L, 0)) := by show _ = _; rw [hFe.out, if_pos ⟨rfl, hLm'.out, hRb⟩]
        have hfin : DecP w F (.returned (.tuple #[.slice la L.length lc, .int .i64 0])) w5 := by rw [hF2.out]; exact ⟨la, lc, rfl, hIL5.out.row, kw5, hIL5.out.new⟩
        subst hRb
        clear hFe hF2 hIL5 hLm
        go_wp2_with fail
        go_ret2
        exact hfin
      · have hF2 : Hid (F = ([], 60)) := by show _ = _; rw [hFe.out, if_neg (fun h => hRb h.2.2)]
        have hfin : DecP w F (.returned (.tuple #[.slice none 0 0, .int .i64 60])) w5 := by rw [hF2.out]; exact decP_no w w5 kw5
        have dR : (R == bs) = false := by simpa using hRb
        have dR2 : (R != bs) = true := by simpa using hRb
        clear hFe hF2 hIL5 hLm
        go_wp2_with fail
        go_ret2
        exact hfin
    · have hF2 : Hid (F = ([], 60)) := by show _ = _; rw [hFe.out, if_neg (fun h => hLm h.2.1)]
      have hfin : DecP w F (.returned (.tuple #[.slice none 0 0, .int .i64 60])) w5 := by rw [hF2.out]; exact decP_no w w5 kw5
      have dL : ((L.length : Int) != (many : Int)) = true := by simp only [bne_iff_ne]; omega
      have dL2 : ((L.length : Int) == (many : Int)) = false := by rw [beq_eq_false_iff_ne]; omega
      clear hFe hF2 hIL5
      go_wp2_with fail
      go_ret2
      exact hfin
  · have hF2 : Hid (F = ([], 60)) := by show _ = _; rw [hFe.out, if_neg (fun h => hE0 h.1)]
    have hfin : DecP w F (.returned (.tuple #[.slice none 0 0, .int .i64 60])) w5 := by rw [hF2.out]; exact decP_no w w5 kw5
    have dE : (E != 0) = true := by simpa using hE0
    have dE2 : (E == 0) = false := by simpa using hE0
    clear hFe hF2 hIL5
    go_wp2_with fail
    go_ret2
    exact hfin
set_option maxHeartbeats 8000000 in
set_option maxRecDepth 100000 in
theorem cRdDec2 (a : Option Addr) (c : Nat) (bs : List UInt8) (many : Nat) (w : World) (hs : Sees w a bs) (hl : bs.length ≤ c) (hm : c ≤ maxLen) (hb : bs.length ≤ 900000000000000) (hmn : many ≤ 64) (h0 : 0 < many) :
    Calls Tryz.prog 5 #[.int .i64 2, .slice a bs.length c, .int .i64 many] w (DecP w (refD 2 bs many)) := by
  have cK := cRdDeltas a c bs many w hs hl hm hb hmn
  have hrp : Hid (rpA 2 many bs = rpDl many bs) := by show _ = _; unfold rpA; rw [if_neg (by omega)]; rfl
  rw [← hrp.out] at cK
  have hFe : Hid (refD 2 bs many = if refE 2 (rpA 2 many bs) = 0 ∧ (rpA 2 many bs).length = many ∧ encR 2 (rpA 2 many bs) = bs then (rpA 2 many bs, 0) else ([], 60)) := rfl
  obtain ⟨F, hFF⟩ : ∃ F, Hid (refD 2 bs many = F) := ⟨_, rfl⟩
  rw [hFF.out] at hFe ⊢
  obtain ⟨L, hL⟩ : ∃ L, Hid (rpA 2 many bs = L) := ⟨_, rfl⟩
  rw [hL.out] at hFe cK
  have hs' := hid hs
  have d0 : ¬ (many : Int) < 0 := by omega
  have d1 : ¬ (64 : Int) < (many : Int) := by omega
  have d2 : (0 : Int) < (many : Int) := by omega
  clear hs hm hrp hFF hL
  go_enter Tryz.func5, Tryz.ntmps5
  go_wp2_with fail
  refine cK.mono ?_
  rintro e w1 ⟨la, lc, rfl, IL⟩
  clear cK
  obtain ⟨hvL, hlL, hmL⟩ := rowVals IL.row
  have cE := cRefEnc6 2 la lc L w1 hvL (by unfold maxLen at hmL; omega)
  unfold EncP at cE
  obtain ⟨E, hEE⟩ : ∃ E, Hid (refE 2 L = E) := ⟨_, rfl⟩
  obtain ⟨R, hRR⟩ : ∃ R, Hid (encR 2 L = R) := ⟨_, rfl⟩
  rw [hEE.out, hRR.out] at hFe
  rw [hEE.out, hRR.out] at cE
  have hIL := hid IL
  unfold maxLen at hmL
  clear hvL IL hEE hRR
  go_wp2_with fail
  refine cE.mono ?_
  rintro e w5 ⟨b5, c5, rfl, hrow5, k5, hn5⟩
  obtain ⟨hs5, _, _⟩ := rowSee hrow5
  have IL5 := hIL.out.keep k5
  have cv1 := convSees hs5 c5
  have cv2 := convSees (hs'.out.kept IL5.kp (by simp)) c
  have hIL5 := hid IL5
  have kw5 := IL5.kp
  clear cE hrow5 hn5 hs5 hIL IL5
  by_cases hE0 : E = 0
  · subst hE0
    by_cases hLm : L.length = many
    · have hLm' := hid hLm
      have dL : ((L.length : Int) != (many : Int)) = false := by rw [hLm]; simp
      have dL2 : ((L.length : Int) == (many : Int)) = true := by rw [hLm]; simp
      by_cases hRb : R = bs
      · have hF2 : Hid (F = (L, 0)) := by show _ = _; rw [hFe.out, if_pos ⟨rfl, hLm'.out, hRb⟩]
        have hfin : DecP w F (.returned (.tuple #[.slice la L.length lc, .int .i64 0])) w5 := by rw [hF2.out]; exact ⟨la, lc, rfl, hIL5.out.row, kw5, hIL5.out.new⟩
        subst hRb
        clear hFe hF2 hIL5 hLm
        go_wp2_with fail
        go_ret2
        exact hfin
      · have hF2 : Hid (F = ([], 60)) := by show _ = _; rw [hFe.out, if_neg (fun h => hRb h.2.2)]
        have hfin : DecP w F (.returned (.tuple #[.slice none 0 0, .int .i64 60])) w5 := by rw [hF2.out]; exact decP_no w w5 kw5
        have dR : (R == bs) = false := by simpa using hRb
        have dR2 : (R != bs) = true := by simpa using hRb
        clear hFe hF2 hIL5 hLm
        go_wp2_with fail
        go_ret2
        exact hfin
    · have hF2 : Hid (F = ([], 60)) := by show _ = _; rw [hFe.out, if_neg (fun h => hLm h.2.1)]
      have hfin : DecP w F (.returned (.tuple #[.slice none 0 0, .int .i64 60])) w5 := by rw [hF2.out]; exact decP_no w w5 kw5
      have dL : ((L.length : Int) != (many : Int)) = true := by simp only [bne_iff_ne]; omega
      have dL2 : ((L.length : Int) == (many : Int)) = false := by rw [beq_eq_false_iff_ne]; omega
      clear hFe hF2 hIL5
      go_wp2_with fail
      go_ret2
      exact hfin
  · have hF2 : Hid (F = ([], 60)) := by show _ = _; rw [hFe.out, if_neg (fun h => hE0 h.1)]
    have hfin : DecP w F (.returned (.tuple #[.slice none 0 0, .int .i64 60])) w5 := by rw [hF2.out]; exact decP_no w w5 kw5
    have dE : (E != 0) = true := by simpa using hE0
    have dE2 : (E == 0) = false := by simpa using hE0
    clear hFe hF2 hIL5
    go_wp2_with fail
    go_ret2
    exact hfin
set_option maxHeartbeats 8000000 in
set_option maxRecDepth 100000 in
theorem cRdDec3 (a : Option Addr) (c : Nat) (bs : List UInt8) (many : Nat) (w : World) (hs : Sees w a bs) (hl : bs.length ≤ c) (hm : c ≤ maxLen) (hb : bs.length ≤ 900000000000000) (hmn : many ≤ 64) (h0 : 0 < many) :
    Calls Tryz.prog 5 #[.int .i64 3, .slice a bs.length c, .int .i64 many] w (DecP w (refD 3 bs many)) := by
  have cK := cRdDicts a c bs many w hs hl hm hb hmn
  have hrp : Hid (rpA 3 many bs = rpDc many bs) := by show _ = _; unfold rpA; rw [if_neg (by omega)]; rfl
  rw [← hrp.out] at cK
  have hFe : Hid (refD 3 bs many = if refE 3 (rpA 3 many bs) = 0 ∧ (rpA 3 many bs).length = many ∧ encR 3 (rpA 3 many bs) = bs then (rpA 3 many bs, 0) else ([], 60)) := rfl
  obtain ⟨F, hFF⟩ : ∃ F, Hid (refD 3 bs many = F) := ⟨_, rfl⟩
  rw [hFF.out] at hFe ⊢
  obtain ⟨L, hL⟩ : ∃ L, Hid (rpA 3 many bs = L) := ⟨_, rfl⟩
  rw [hL.out] at hFe cK
  have hs' := hid hs
  have d0 : ¬ (many : Int) < 0 := by omega
  have d1 : ¬ (64 : Int) < (many : Int) := by omega
  have d2 : (0 : Int) < (many : Int) := by omega
  clear hs hm hrp hFF hL
  go_enter Tryz.func5, Tryz.ntmps5
  go_wp2_with fail
  refine cK.mono ?_
  rintro e w1 ⟨la, lc, rfl, IL⟩
  clear cK
  obtain ⟨hvL, hlL, hmL⟩ := rowVals IL.row
  have cE := cRefEnc6 3 la lc L w1 hvL (by unfold maxLen at hmL; omega)
  unfold EncP at cE
  obtain ⟨E, hEE⟩ : ∃ E, Hid (refE 3 L = E) := ⟨_, rfl⟩
  obtain ⟨R, hRR⟩ : ∃ R, Hid (encR 3 L = R) := ⟨_, rfl⟩
  rw [hEE.out, hRR.out] at hFe
  rw [hEE.out, hRR.out] at cE
  have hIL := hid IL
  unfold maxLen at hmL
  clear hvL IL hEE hRR
  go_wp2_with fail
  refine cE.mono ?_
  rintro e w5 ⟨b5, c5, rfl, hrow5, k5, hn5⟩
  obtain ⟨hs5, _, _⟩ := rowSee hrow5
  have IL5 := hIL.out.keep k5
  have cv1 := convSees hs5 c5
  have cv2 := convSees (hs'.out.kept IL5.kp (by simp)) c
  have hIL5 := hid IL5
  have kw5 := IL5.kp
  clear cE hrow5 hn5 hs5 hIL IL5
  by_cases hE0 : E = 0
  · subst hE0
    by_cases hLm : L.length = many
    · have hLm' := hid hLm
      have dL : ((L.length : Int) != (many : Int)) = false := by rw [hLm]; simp
      have dL2 : ((L.length : Int) == (many : Int)) = true := by rw [hLm]; simp
      by_cases hRb : R = bs
      · have hF2 : Hid (F = (L, 0)) := by show _ = _; rw [hFe.out, if_pos ⟨rfl, hLm'.out, hRb⟩]
        have hfin : DecP w F (.returned (.tuple #[.slice la L.length lc, .int .i64 0])) w5 := by rw [hF2.out]; exact ⟨la, lc, rfl, hIL5.out.row, kw5, hIL5.out.new⟩
        subst hRb
        clear hFe hF2 hIL5 hLm
        go_wp2_with fail
        go_ret2
        exact hfin
      · have hF2 : Hid (F = ([], 60)) := by show _ = _; rw [hFe.out, if_neg (fun h => hRb h.2.2)]
        have hfin : DecP w F (.returned (.tuple #[.slice none 0 0, .int .i64 60])) w5 := by rw [hF2.out]; exact decP_no w w5 kw5
        have dR : (R == bs) = false := by simpa using hRb
        have dR2 : (R != bs) = true := by simpa using hRb
        clear hFe hF2 hIL5 hLm
        go_wp2_with fail
        go_ret2
        exact hfin
    · have hF2 : Hid (F = ([], 60)) := by show _ = _; rw [hFe.out, if_neg (fun h => hLm h.2.1)]
      have hfin : DecP w F (.returned (.tuple #[.slice none 0 0, .int .i64 60])) w5 := by rw [hF2.out]; exact decP_no w w5 kw5
      have dL : ((L.length : Int) != (many : Int)) = true := by simp only [bne_iff_ne]; omega
      have dL2 : ((L.length : Int) == (many : Int)) = false := by rw [beq_eq_false_iff_ne]; omega
      clear hFe hF2 hIL5
      go_wp2_with fail
      go_ret2
      exact hfin
  · have hF2 : Hid (F = ([], 60)) := by show _ = _; rw [hFe.out, if_neg (fun h => hE0 h.1)]
    have hfin : DecP w F (.returned (.tuple #[.slice none 0 0, .int .i64 60])) w5 := by rw [hF2.out]; exact decP_no w w5 kw5
    have dE : (E != 0) = true := by simpa using hE0
    have dE2 : (E == 0) = false := by simpa using hE0
    clear hFe hF2 hIL5
    go_wp2_with fail
    go_ret2
    exact hfin
set_option maxHeartbeats 8000000 in
set_option maxRecDepth 100000 in
theorem cRdDec4 (a : Option Addr) (c : Nat) (bs : List UInt8) (many : Nat) (w : World) (hs : Sees w a bs) (hl : bs.length ≤ c) (hm : c ≤ maxLen) (hb : bs.length ≤ 900000000000000) (hmn : many ≤ 64) (h0 : 0 < many) :
    Calls Tryz.prog 5 #[.int .i64 4, .slice a bs.length c, .int .i64 many] w (DecP w (refD 4 bs many)) := by
  have cK := cRdSmalls a c bs many w hs hl hm hb hmn
  have hrp : Hid (rpA 4 many bs = rpBt many bs) := by show _ = _; unfold rpA; rw [if_neg (by omega)]; rfl
  rw [← hrp.out] at cK
  have hFe : Hid (refD 4 bs many = if refE 4 (rpA 4 many bs) = 0 ∧ (rpA 4 many bs).length = many ∧ encR 4 (rpA 4 many bs) = bs then (rpA 4 many bs, 0) else ([], 60)) := rfl
  obtain ⟨F, hFF⟩ : ∃ F, Hid (refD 4 bs many = F) := ⟨_, rfl⟩
  rw [hFF.out] at hFe ⊢
  obtain ⟨L, hL⟩ : ∃ L, Hid (rpA 4 many bs = L) := ⟨_, rfl⟩
  rw [hL.out] at hFe cK
  have hs' := hid hs
  have d0 : ¬ (many : Int) < 0 := by omega
  have d1 : ¬ (64 : Int) < (many : Int) := by omega
  have d2 : (0 : Int) < (many : Int) := by omega
  clear hs hm hrp hFF hL
  go_enter Tryz.func5, Tryz.ntmps5
  go_wp2_with fail
  refine cK.mono ?_
  rintro e w1 ⟨la, lc, rfl, IL⟩
  clear cK
  obtain ⟨hvL, hlL, hmL⟩ := rowVals IL.row
  have cE := cRefEnc6 4 la lc L w1 hvL (by unfold maxLen at hmL; omega)
  unfold EncP at cE
  obtain ⟨E, hEE⟩ : ∃ E, Hid (refE 4 L = E) := ⟨_, rfl⟩
  obtain ⟨R, hRR⟩ : ∃ R, Hid (encR 4 L = R) := ⟨_, rfl⟩
  rw [hEE.out, hRR.out] at hFe
  rw [hEE.out, hRR.out] at cE
  have hIL := hid IL
  unfold maxLen at hmL
  clear hvL IL hEE hRR
  go_wp2_with fail
  refine cE.mono ?_
  rintro e w5 ⟨b5, c5, rfl, hrow5, k5, hn5⟩
  obtain ⟨hs5, _, _⟩ := rowSee hrow5
  have IL5 := hIL.out.keep k5
  have cv1 := convSees hs5 c5
  have cv2 := convSees (hs'.out.kept IL5.kp (by simp)) c
  have hIL5 := hid IL5
  have kw5 := IL5.kp
  clear cE hrow5 hn5 hs5 hIL IL5
  by_cases hE0 : E = 0
  · subst hE0
    by_cases hLm : L.length = many
    · have hLm' := hid hLm
      have dL : ((L.length : Int) != (many : Int)) = false := by rw [hLm]; simp
      have dL2 : ((L.length : Int) == (many : Int)) = true := by rw [hLm]; simp
      by_cases hRb : R = bs
      · have hF2 : Hid (F = (L, 0)) := by show _ = _; rw [hFe.out, if_pos ⟨rfl, hLm'.out, hRb⟩]
        have hfin : DecP w F (.returned (.tuple #[.slice la L.length lc, .int .i64 0])) w5 := by rw [hF2.out]; exact ⟨la, lc, rfl, hIL5.out.row, kw5, hIL5.out.new⟩
        subst hRb
        clear hFe hF2 hIL5 hLm
        go_wp2_with fail
        go_ret2
        exact hfin
      · have hF2 : Hid (F = ([], 60)) := by show _ = _; rw [hFe.out, if_neg (fun h => hRb h.2.2)]
        have hfin : DecP w F (.returned (.tuple #[.slice none 0 0, .int .i64 60])) w5 := by rw [hF2.out]; exact decP_no w w5 kw5
        have dR : (R == bs) = false := by simpa using hRb
        have dR2 : (R != bs) = true := by simpa using hRb
        clear hFe hF2 hIL5 hLm
        go_wp2_with fail
        go_ret2
        exact hfin
    · have hF2 : Hid (F = ([], 60)) := by show _ = _; rw [hFe.out, if_neg (fun h => hLm h.2.1)]
      have hfin : DecP w F (.returned (.tuple #[.slice none 0 0, .int .i64 60])) w5 := by rw [hF2.out]; exact decP_no w w5 kw5
      have dL : ((L.length : Int) != (many : Int)) = true := by simp only [bne_iff_ne]; omega
      have dL2 : ((L.length : Int) == (many : Int)) = false := by rw [beq_eq_false_iff_ne]; omega
      clear hFe hF2 hIL5
      go_wp2_with fail
      go_ret2
      exact hfin
  · have hF2 : Hid (F = ([], 60)) := by show _ = _; rw [hFe.out, if_neg (fun h => hE0 h.1)]
    have hfin : DecP w F (.returned (.tuple #[.slice none 0 0, .int .i64 60])) w5 := by rw [hF2.out]; exact decP_no w w5 kw5
    have dE : (E != 0) = true := by simpa using hE0
    have dE2 : (E == 0) = false := by simpa using hE0
    clear hFe hF2 hIL5
    go_wp2_with fail
    go_ret2
    exact hfin
set_option maxHeartbeats 8000000 in
set_option maxRecDepth 100000 in
theorem cRdDecZ (k : Int) (a : Option Addr) (c : Nat) (bs : List UInt8) (w : World) (hs : Sees w a bs) (h1 : 0 ≤ k) (h4 : k ≤ 4) :
    Calls Tryz.prog 5 #[.int .i64 k, .slice a bs.length c, .int .i64 0] w (DecP w (refD k bs 0)) := by
  have hrp : Hid (rpA k 0 bs = []) := by show _ = _; unfold rpA; rw [if_pos rfl]
  have hFe : Hid (refD k bs 0 = if refE k (rpA k 0 bs) = 0 ∧ (rpA k 0 bs).length = 0 ∧ encR k (rpA k 0 bs) = bs then (rpA k 0 bs, 0) else ([], 60)) := rfl
  obtain ⟨F, hFF⟩ : ∃ F, Hid (refD k bs 0 = F) := ⟨_, rfl⟩
  rw [hFF.out, hrp.out] at hFe
  rw [hFF.out]
  have hs' := hid hs
  have n1 : ¬ k < 0 := by omega
  have n2 : ¬ 4 < k := by omega
  have IL := NwV.nil w
  obtain ⟨many, hmany⟩ : ∃ many : Nat, many = 0 := ⟨0, rfl⟩
  obtain ⟨L, hL⟩ : ∃ L : List Val, Hid (L = []) := ⟨[], rfl⟩
  have cE := cRefEnc6 k none 0 [] w (.inl rfl) (by simp)
  unfold EncP at cE
  obtain ⟨E, hEE⟩ : ∃ E, Hid (refE k [] = E) := ⟨_, rfl⟩
  obtain ⟨R, hRR⟩ : ∃ R, Hid (encR k [] = R) := ⟨_, rfl⟩
  rw [hEE.out, hRR.out] at hFe
  rw [hEE.out, hRR.out, List.length_nil] at cE
  clear hs hFF hrp hEE hRR IL hL hmany
  go_enter Tryz.func5, Tryz.ntmps5
  go_wp2_with fail
  refine cE.mono ?_
  rintro e w5 ⟨b5, c5, rfl, hrow5, k5, hn5⟩
  obtain ⟨hs5, _, _⟩ := rowSee hrow5
  have cv1 := convSees hs5 c5
  have cv2 := convSees (hs'.out.kept k5 (by simp)) c
  clear cE hrow5 hn5 hs5
  by_cases hE0 : E = 0
  · subst hE0
    by_cases hRb : R = bs
    · have hF2 : Hid (F = ([], 0)) := by show _ = _; rw [hFe.out, if_pos ⟨rfl, rfl, hRb⟩]
      have hfin : DecP w F (.returned (.tuple #[.slice none 0 0, .int .i64 0])) w5 := by rw [hF2.out]; exact ⟨none, 0, rfl, .inl ⟨rfl, rfl⟩, k5, by simp [blk]⟩
      subst hRb
      clear hFe hF2
      go_wp2_with fail
      go_ret2
      exact hfin
    · have hF2 : Hid (F = ([], 60)) := by show _ = _; rw [hFe.out, if_neg (fun h => hRb h.2.2)]
      have hfin : DecP w F (.returned (.tuple #[.slice none 0 0, .int .i64 60])) w5 := by rw [hF2.out]; exact decP_no w w5 k5
      have dR : (R == bs) = false := by simpa using hRb
      have dR2 : (R != bs) = true := by simpa using hRb
      clear hFe hF2
      go_wp2_with fail
      go_ret2
      exact hfin
  · have hF2 : Hid (F = ([], 60)) := by show _ = _; rw [hFe.out, if_neg (fun h => hE0 h.1)]
    have hfin : DecP w F (.returned (.tuple #[.slice none 0 0, .int .i64 60])) w5 := by rw [hF2.out]; exact decP_no w w5 k5
    have dE : (E != 0) = true := by simpa using hE0
    have dE2 : (E == 0) = false := by simpa using hE0
    clear hFe hF2
    go_wp2_with fail
    go_ret2
    exact hfin
/-- What the two Decodes tell. -/
def decI (k : Int) (bs : List UInt8) (mi : Int) : List Val × Int := if knownB k = false then ([], 62) else if mi < 0 ∨ 64 < mi then ([], 61) else decA k bs mi.toNat
set_option maxHeartbeats 4000000 in
theorem cRefDec (k : Int) (a : Option Addr) (c : Nat) (bs : List UInt8) (mi : Int) (w : World) (hs : Sees w a bs) (hl : bs.length ≤ c) (hm : c ≤ maxLen) (hb : bs.length ≤ 900000000000000) :
    Calls Tryz.prog 5 #[.int .i64 k, .slice a bs.length c, .int .i64 mi] w (DecP w (decI k bs mi)) := by
  unfold decI
  by_cases hk : knownB k = false
  · rw [if_pos hk]
    have hfin := decP_err w 62
    have hk2 : k < 0 ∨ 4 < k := by unfold knownB at hk; simp at hk; omega
    clear hs hm hk
    rcases hk2 with h | h
    · go_enter Tryz.func5, Tryz.ntmps5
      go_wp2_with fail
      go_ret2
      exact hfin
    · have h' : ¬ k < 0 := by omega
      go_enter Tryz.func5, Tryz.ntmps5
      go_wp2_with fail
      go_ret2
      exact hfin
  · rw [if_neg hk]
    have hk' : knownB k = true := by simpa using hk
    have hk2 : 0 ≤ k ∧ k ≤ 4 := by unfold knownB at hk'; simp at hk'; exact hk'
    have n1 : ¬ k < 0 := by omega
    have n2 : ¬ 4 < k := by omega
    by_cases hmi : mi < 0 ∨ 64 < mi
    · rw [if_pos hmi]
      have hfin := decP_err w 61
      clear hs hm hk hk' hk2
      rcases hmi with h | h
      · go_enter Tryz.func5, Tryz.ntmps5
        go_wp2_with fail
        go_ret2
        exact hfin
      · have h' : ¬ mi < 0 := by omega
        go_enter Tryz.func5, Tryz.ntmps5
        go_wp2_with fail
        go_ret2
        exact hfin
    · rw [if_neg hmi]
      obtain ⟨many, rfl⟩ := Int.eq_ofNat_of_zero_le (by omega : 0 ≤ mi)
      rw [Int.toNat_natCast, ← refD_eq k bs many hk' (by omega)]
      rcases Nat.eq_zero_or_pos many with h0 | h0
      · subst h0
        exact cRdDecZ k a c bs w hs hk2.1 hk2.2
      · have hmn : many ≤ 64 := by omega
        by_cases q0 : k = 0
        · subst q0; exact cRdDec0 a c bs many w hs hl hm hb hmn h0
        · by_cases q1 : k = 1
          · subst q1; exact cRdDec1 a c bs many w hs hl hm hb hmn h0
          · by_cases q2 : k = 2
            · subst q2; exact cRdDec2 a c bs many w hs hl hm hb hmn h0
            · by_cases q3 : k = 3
              · subst q3; exact cRdDec3 a c bs many w hs hl hm hb hmn h0
              · obtain rfl : k = 4 := by omega
                exact cRdDec4 a c bs many w hs hl hm hb hmn h0
set_option maxHeartbeats 4000000 in
theorem cDecI (k : Int) (a : Option Addr) (c : Nat) (bs : List UInt8) (mi : Int) (w : World) (hs : Sees w a bs) (hl : bs.length ≤ c) (hm : c ≤ maxLen) (hb : bs.length ≤ 900000000000000) (hmi : mi ≤ 9223372036854775807) :
    Calls Tryz.prog 4 #[.int .i64 k, .slice a bs.length c, .int .i64 mi] w (DecP w (decI k bs mi)) := by
  by_cases h0 : mi < 0
  · have cK := cKnown k w
    unfold decI
    by_cases hk : knownB k = false
    · rw [hk] at cK
      rw [if_pos hk]
      have hfin := decP_err w 62
      clear hs hm hk
      go_enter Tryz.func4, Tryz.ntmps4
      go_wp2_with fail
      refine cK.mono ?_
      rintro e w9 ⟨rfl, hw9⟩
      rw [hw9]
      clear hw9 w9 cK
      go_wp2_with fail
      go_ret2
      exact hfin
    · rw [if_neg hk, if_pos (.inl h0)]
      have hk' : knownB k = true := by simpa using hk
      rw [hk'] at cK
      have hfin := decP_err w 61
      clear hs hm hk hk'
      go_enter Tryz.func4, Tryz.ntmps4
      go_wp2_with fail
      refine cK.mono ?_
      rintro e w9 ⟨rfl, hw9⟩
      rw [hw9]
      clear hw9 w9 cK
      go_wp2_with fail
      go_ret2
      exact hfin
  · obtain ⟨many, rfl⟩ := Int.eq_ofNat_of_zero_le (by omega : 0 ≤ mi)
    have := cDecA k a c bs many w hs hl hm hb (by omega)
    have e : decI k bs (many : Int) = decA k bs many := by
      unfold decI
      by_cases hk : knownB k = false
      · rw [if_pos hk]; unfold decA; rw [if_pos hk]
      · rw [if_neg hk]
        by_cases h64 : 64 < many
        · rw [if_pos (.inr (by omega))]; unfold decA; rw [if_neg hk, if_pos h64]
        · rw [if_neg (by omega), Int.toNat_natCast]
    rw [e]
    exact this
end Go.Proofs.YtpekgpgfdiffcaaGreat
end

section
namespace Go.Proofs.YtpekgpgfdiffcaaGreat
open Go.RowKit Go.Hay
set_option linter.unusedVariables false
set_option linter.unusedSimpArgs false

set_option maxHeartbeats 8000000 in
set_option maxRecDepth 100000 in
theorem walkReads (k : Int) (a : Option Addr) (c : Nat) (bs : List UInt8) (mi : Int) (w : World) (hs : Sees w a bs) (hl : bs.length ≤ c) (hm : c ≤ maxLen) (hb : bs.length ≤ 150000000000000) (hmi : mi ≤ 9223372036854775807) :
    Calls Tryz.prog 3 #[.int .i64 k, .slice a bs.length c, .int .i64 mi] w fun e w' => e = .returned (.bool true) ∧ Kp [] w w' := by
  obtain ⟨i0, hi, hz0, hz1, hz2⟩ := infoU'
  obtain ⟨X1, hX1⟩ : ∃ X1, w.alloc (.cells #[] 5) = X1 := ⟨_, rfl⟩
  have kX1 : Kp [] w X1 := by rw [← hX1]; exact (Kp.refl _ _).alloc _
  have hr0 : BytE.Row X1 (.slice (some ⟨w.heap.size, 0, none⟩) 0 0) [] := by
    rw [← hX1]
    exact .inr ⟨w.heap.size, 0, 0, rfl, Nat.le_refl _, by decide, by simp, fun j u hu => by simp [El.cs] at hu, fun j hj => absurd hj (by simp)⟩
  have hsX := hid (hs.kept kX1 (by simp))
  have hr0' := hid (rowByt.1 hr0)
  have cDX : Hid (∀ W (b : Option Addr) (d : Nat), Sees W b bs → bs.length ≤ d → d ≤ maxLen → Calls Tryz.prog 4 #[.int .i64 k, .slice b bs.length d, .int .i64 mi] W (DecP W (decI k bs mi))) := fun W b d h1 h2 h3 => cDecI k b d bs mi W h1 h2 h3 (by omega) hmi
  have hR : Hid (∀ W, Kp [] w W → Calls Tryz.prog 5 #[.int .i64 k, .slice a bs.length c, .int .i64 mi] W (DecP W (decI k bs mi))) := fun W kW => cRefDec k a c bs mi W (hs.kept kW (by simp)) hl hm (by omega)
  obtain ⟨⟨L, D⟩, hD⟩ : ∃ D, Hid (decI k bs mi = D) := ⟨_, rfl⟩
  simp only [hD.out] at hR cDX
  unfold DecP at cDX hR
  dsimp only at cDX hR
  have hs' := hid hs
  have hDD : (D == D) = true := by simp
  have hrX := hr0'.out
  have hsXX := hsX.out
  clear hs hr0 hD hm hr0' hsX
  go_enter Tryz.func3, Tryz.ntmps3
  go_wp2_with (at_builtin; refine wpAppR rfl _ _ rfl _ [] rfl hrX a bs.length c bs rfl rfl hsXX (by simp; omega) ?_)
  intro b5 a5 c5 X2 hb5 _ hr5 hg5
  obtain rfl : b5 = bs := by have := hb5.out; simpa using this
  obtain ⟨hs5, hl5, hm5⟩ := rowSee hr5
  have kX2 : Kp [] w X2 := kX1.trans hg5.kp (fun q hq => .inr (by rw [ownS] at hq; simp [blk] at hq; omega))
  have cD := cDX.out X2 a5 c5 hs5 hl5 hm5
  have hs5' := hid hs5
  clear hr5 hg5 hs5 cDX hrX hsXX hb5
  go_wp2_with fail
  refine cD.mono ?_
  rintro e w3 ⟨a3, c3, rfl, hrow3, k3, hn3⟩
  have k13 := kX2.trans k3 (by simp)
  have cR := hR.out w3 k13
  obtain ⟨hv3, hl3, hm3⟩ := rowVals hrow3
  have hv3' := hid hv3
  clear cD hrow3 hn3 hR hv3
  go_wp2_with fail
  refine cR.mono ?_
  rintro e w4 ⟨a4, c4, rfl, hrow4, k4, hn4⟩
  have k14 := k13.trans k4 (by simp)
  obtain ⟨hv4, _, _⟩ := rowVals hrow4
  have hv4' := hid hv4
  clear cR hrow4 hn4 hv4
  go_wp2_with fail
  refine (cAlive _).mono ?_
  rintro e w5 ⟨rfl, k5⟩
  have k15 := k14.trans k5 (by simp)
  have cS := cSame a3 a4 c3 c4 L L w5 ((hv3'.out.kept k4).kept k5) (hv4'.out.kept k5) (by unfold maxLen at hm3; omega) (by unfold maxLen at hm3; omega)
  rw [sameV_self] at cS
  clear hv3' hv4'
  go_wp2_with fail
  refine cS.mono ?_
  rintro e w6 ⟨rfl, k6⟩
  have k16 := k15.trans k6 (by simp)
  have cv1 := convSees ((((hs5'.out.kept k3 (by simp)).kept k4 (by simp)).kept k5 (by simp)).kept k6 (by simp)) c5
  have cv2 := convSees (hs'.out.kept k16 (by simp)) c
  clear cS hs5' hs'
  go_wp2_with fail
  go_ret
  exact ⟨by simp, k16⟩
theorem encReadsWalk (k : Int) (a : Option Addr) (nb c : Nat) (bs : List UInt8) (mi : Int) (w : World) (hs : Sees w a bs) (hnb : nb = bs.length) (hl : bs.length ≤ c) (hr : c ≤ 140737488351232) (hmi : mi ≤ 9223372036854775807) :
    Calls Tryz.prog 3 #[.int .i64 k, .slice a nb c, .int .i64 mi] w fun e w' => e = .returned (.bool true) ∧ Below w.heap.size w w' := by
  subst hnb
  exact (walkReads k a c bs mi w hs hl (by unfold maxLen; omega) (by omega) hmi).mono fun e w' ⟨h1, h2⟩ => ⟨h1, h2.below⟩
end Go.Proofs.YtpekgpgfdiffcaaGreat
end

section
namespace Go.Proofs.YtpekgpgfdiffcaaGreat
open Go.ChangeShapes Go.WideShapes Go.ChangeAt Go.RowKit Go.Hay
set_option linter.unusedVariables false

theorem Tryz.own : ownKnob Tryz.prog.godebug = none := by kernel_rfl
theorem Tryz.laidOut : laidOutB Tryz.prog = true := by kernel_rfl
theorem Tryz.bytesB : Tryz.prog.bytesOf 5 = 1 := by kernel_rfl
theorem Tryz.cellsB : Tryz.prog.cellsOf 5 = 1 := by kernel_rfl

/-- How many values a slice's datum holds, its spare places too. -/
def capD {H : Type} : DataW H → Nat
  | .slice e sp => e.length + sp.length
  | _ => 0

theorem openBytes {H : Type} {enc : TypeId × Value → H} {W : World} {a : Option Addr} {len cap : Nat} {d : DataW H} {ps : List MemPlace}
    (h : DataW.Trod enc Tryz.prog W 0 (fun _ => true) true 22 (.slice a len cap) d ps) : ∃ bs : List UInt8, len = bs.length ∧ Sees W a bs ∧ bs.length ≤ cap ∧ cap ≤ maxLen ∧ capD d = cap := by
  obtain ⟨fuel, hf⟩ := h
  rcases open_ints Tryz.underlying22 Tryz.underlying5 Tryz.cellsB hf with ⟨hcs, hx⟩ | ⟨x, l, c, zs, hcs, _, hl, hm, hz, hx, hcell, hwz⟩
  · simp [Value.cells] at hcs
    obtain ⟨rfl, rfl, rfl⟩ := hcs
    cases hx
    exact ⟨[], rfl, Sees.nil _ _, Nat.le_refl _, Nat.zero_le _, rfl⟩
  · simp [Value.cells] at hcs
    obtain ⟨rfl, rfl, rfl⟩ := hcs
    cases hx
    have hz' : zs.length = cap := by simpa using hz
    refine ⟨(zs.take len).map octet, by simp; omega, ?_, by simp; omega, hm, by simp [capD, lits]; omega⟩
    cases hlen : len with
    | zero => exact .inl (by simp)
    | succ n =>
      obtain ⟨b, off, spot⟩ := x
      have hc0 := hcell 0 (by omega)
      have hspot : spot = none := by simpa [Addr.add] using World.cell?_spot hc0
      subst hspot
      refine .inr ⟨b, off, rfl, fun j u hu => ?_⟩
      rw [List.getElem?_map, List.getElem?_take] at hu
      split at hu
      · rename_i hj
        have hjz : j < zs.length := by omega
        have hc := hcell j hjz
        rw [List.getElem?_eq_getElem hjz] at hu
        cases hu
        have hw := hwz zs[j] (List.getElem_mem hjz)
        have hbd := bounds_u8 hw
        rw [octet_toNat _ hbd.1 hbd.2, ← Addr.add_lit, hc]
        simp [List.getD, List.getElem?_eq_getElem hjz]
      · cases hu

/-- The form's own reach, of a slice of bytes among the arguments. -/
theorem reachBytesOf {H : Type} {d : DataW H} (h : (DataW.weights Tryz.prog 22 d).all (· ≤ reachBytes) = true) : capD d ≤ 140737488351232 := by
  cases d with
  | slice e sp =>
    have h2 : (e.length + sp.length) * Tryz.prog.bytesOf 5 ≤ reachBytes := of_decide_eq_true (List.all_eq_true.1 h ((e.length + sp.length) * Tryz.prog.bytesOf 5) (by simp [DataW.weights, Tryz.underlying22]))
    rw [Tryz.bytesB] at h2
    simp only [reachBytes] at h2
    simp only [capD]
    omega
  | _ => simp [capD]
theorem cellsV : Tryz.prog.cellsOf 38 = 4 := by kernel_rfl
theorem cellsI : Tryz.prog.cellsOf 3 = 1 := by kernel_rfl
theorem cellsB : Tryz.prog.cellsOf 4 = 1 := by kernel_rfl
theorem cellsL : Tryz.prog.cellsOf 2 = 1 := by kernel_rfl
theorem cellsS : Tryz.prog.cellsOf 9 = 1 := by kernel_rfl

/-- What an int64's bounds and a string's length are. -/
def Val.ok (x : Val) : Prop := (-9223372036854775808 ≤ x.k ∧ x.k ≤ 9223372036854775807) ∧ (-9223372036854775808 ≤ x.n ∧ x.n ≤ 9223372036854775807) ∧ x.t.size ≤ maxLen

theorem openVal4 {H : Type} {enc : TypeId × Value → H} {W : World} {fuel : Nat} {c0 c1 c2 c3 : Value} {x : DataW H × List MemPlace} (h : DataW.trod enc Tryz.prog W 0 (fun _ => true) true fuel 38 [c0, c1, c2, c3] = some x) :
    ∃ t : Val, t.ok ∧ c0 = .int .i64 t.k ∧ c1 = .bool t.b ∧ c2 = .int .i64 t.n ∧ c3 = .string t.t := by
  obtain ⟨xs, n, _, rfl, _, hlen, hf⟩ := DataW.trod_struct Tryz.underlying38 h
  match xs, hlen with
  | [y0, y1, y2, y3], _ =>
    have h0 := hf 0 _ rfl
    have h1 := hf 1 _ rfl
    have h2 := hf 2 _ rfl
    have h3 := hf 3 _ rfl
    simp [cellsI, cellsB, cellsL, cellsS] at h0 h1 h2 h3
    obtain ⟨k, e0, _, w0⟩ := DataW.trod_int Tryz.underlying3 h0
    obtain ⟨b, e1, _⟩ := DataW.trod_bool Tryz.underlying4 h1
    obtain ⟨n2, e2, _, w2⟩ := DataW.trod_int Tryz.underlying2 h2
    obtain ⟨s, e3, _, w3⟩ := DataW.trod_string Tryz.underlying9 h3
    simp at e0 e1 e2 e3
    exact ⟨⟨k, b, n2, s⟩, ⟨bounds_i64 w0, bounds_i64 w2, w3⟩, e0, e1, e2, e3⟩

set_option maxRecDepth 100000 in
theorem openVal {H : Type} {enc : TypeId × Value → H} {W : World} {base : Nat} {v : Value} {d : DataW H} {ps : List MemPlace} (hv : Value.okWide Tryz.prog W .any base 38 v)
    (h : DataW.Trod enc Tryz.prog W 0 (fun _ => true) true 38 v d ps) : ∃ x : Val, v = x.v ∧ x.ok := by
  obtain ⟨cs, rfl, hsz⟩ := okWide_struct Tryz.underlying38 hv
  rw [cellsV] at hsz
  obtain ⟨fuel, hf⟩ := h
  obtain ⟨l⟩ := cs
  match l, hsz, hf with
  | [c0, c1, c2, c3], _, hf =>
    obtain ⟨t, ok, e0, e1, e2, e3⟩ := openVal4 (c0 := c0) (c1 := c1) (c2 := c2) (c3 := c3) hf
    subst e0 e1 e2 e3
    exact ⟨t, rfl, ok⟩

theorem openVals {H : Type} {enc : TypeId × Value → H} {W : World} {a : Option Addr} {len cap : Nat} {d : DataW H} {ps : List MemPlace}
    (h : DataW.Trod enc Tryz.prog W 0 (fun _ => true) true 23 (.slice a len cap) d ps) : ∃ l : List Val, len = l.length ∧ Vals W a l ∧ l.length ≤ cap ∧ cap ≤ maxLen ∧ ∀ x ∈ l, x.ok := by
  obtain ⟨fuel, hf⟩ := h
  rcases Go.Deep.open_slice Tryz.underlying23 hf with ⟨hcs, hx⟩ | ⟨x, len', cap', m, n, D, Pl, hcs, _, hl, hmx, hm, hx, hcell⟩
  · simp [Value.cells] at hcs
    obtain ⟨rfl, rfl, rfl⟩ := hcs
    cases hx
    exact ⟨[], rfl, .inl rfl, Nat.le_refl _, Nat.zero_le _, by simp⟩
  · simp [Value.cells] at hcs
    obtain ⟨rfl, rfl, rfl⟩ := hcs
    cases hx
    have hm' : m = cap := by simpa using hm
    subst hm'
    rw [cellsV] at hcell
    have : Inhabited Val := ⟨⟨0, false, 0, ⟨#[]⟩⟩⟩
    obtain ⟨B, hB⟩ := Go.Deep.choose_lt (α := Val) (n := len) (p := fun i t => t.ok ∧ W.cell? (x.add (i * 4)) = some (.int .i64 t.k) ∧ W.cell? ((x.add (i * 4)).add 1) = some (.bool t.b) ∧ W.cell? ((x.add (i * 4)).add 2) = some (.int .i64 t.n) ∧ W.cell? ((x.add (i * 4)).add 3) = some (.string t.t)) (fun i hi => by
      obtain ⟨cs', h1, h2⟩ := hcell i (by omega)
      obtain ⟨_, hlen, hc⟩ := World.cells?_some h1
      match cs', hlen with
      | [c0, c1, c2, c3], _ =>
        obtain ⟨t, g1, e0, e1, e2, e3⟩ := openVal4 h2
        have q0 := hc 0 (by omega)
        have q1 := hc 1 (by omega)
        have q2 := hc 2 (by omega)
        have q3 := hc 3 (by omega)
        simp at q0 q1 q2 q3
        subst e0 e1 e2 e3
        exact ⟨t, g1, by simpa [Addr.add] using q0, q1, q2, q3⟩)
    refine ⟨(List.range len).map B, by simp, ?_, by simpa using hl, hmx, ?_⟩
    · cases hlen : len with
      | zero => exact .inl rfl
      | succ k =>
        obtain ⟨b, off, spot⟩ := x
        have hc0 := (hB 0 (by omega)).2.1
        have hspot : spot = none := by simpa [Addr.add] using World.cell?_spot hc0
        subst hspot
        refine .inr ⟨b, off, rfl, fun j y hy => ?_⟩
        rw [← hlen] at hy
        have hj : j < len := by have := (List.getElem?_eq_some_iff.1 hy).1; simpa using this
        rw [List.getElem?_map, List.getElem?_range hj] at hy
        cases hy
        obtain ⟨g1, q0, q1, q2, q3⟩ := hB j hj
        rw [Addr.add_lit] at q0
        rw [Addr.add_lit, Addr.add_lit] at q1 q2 q3
        exact ⟨q0, q1, q2, q3⟩
    · intro y hy
      obtain ⟨i, hi, rfl⟩ := List.mem_map.1 hy
      exact (hB i (List.mem_range.1 hi)).1
end Go.Proofs.YtpekgpgfdiffcaaGreat
end

section
namespace Go.Proofs.YtpekgpgfdiffcaaGreat
open Go.ChangeShapes Go.WideShapes Go.ChangeAt Go.RowKit Go.Hay
set_option linter.unusedVariables false

/-- A nil slice has no room. -/
theorem nilVals {H : Type} {enc : TypeId × Value → H} {W : World} {a : Option Addr} {len cap : Nat} {d : DataW H} {ps : List MemPlace}
    (h : DataW.Trod enc Tryz.prog W 0 (fun _ => true) true 23 (.slice a len cap) d ps) : a = none → cap = 0 := by
  obtain ⟨fuel, hf⟩ := h
  rcases Go.Deep.open_slice Tryz.underlying23 hf with ⟨hcs, hx⟩ | ⟨x, len', cap', m, n, D, Pl, hcs, _, hl, hmx, hm, hx, hcell⟩
  · simp [Value.cells] at hcs
    intro _
    exact hcs.2.2
  · simp [Value.cells] at hcs
    intro h
    rw [h] at hcs
    cases hcs.1
theorem bytesV : Tryz.prog.bytesOf 38 = 40 := by kernel_rfl
/-- The form's own reach, of a slice of values among the arguments. -/
theorem reachVals {H : Type} {enc : TypeId × Value → H} {W : World} {a : Option Addr} {len cap : Nat} {d : DataW H} {ps : List MemPlace}
    (h : DataW.Trod enc Tryz.prog W 0 (fun _ => true) true 23 (.slice a len cap) d ps) (hr : (DataW.weights Tryz.prog 23 d).all (· ≤ reachBytes) = true) : len * 40 ≤ 140737488351232 := by
  obtain ⟨fuel, hf⟩ := h
  rcases Go.Deep.open_slice Tryz.underlying23 hf with ⟨hcs, hx⟩ | ⟨x, len', cap', m, n, D, Pl, hcs, _, hl, hmx, hm, hx, hcell⟩
  · simp [Value.cells] at hcs
    obtain ⟨rfl, rfl, rfl⟩ := hcs
    omega
  · simp [Value.cells] at hcs
    obtain ⟨rfl, rfl, rfl⟩ := hcs
    cases hx
    have h2 := of_decide_eq_true (List.all_eq_true.1 hr ((((List.range len).map D).length + ((List.range' len (m - len)).map D).length) * Tryz.prog.bytesOf 38) (by simp [DataW.weights, Tryz.underlying23]))
    rw [bytesV] at h2
    simp [reachBytes] at h2
    omega

end Go.Proofs.YtpekgpgfdiffcaaGreat
end

section
namespace Go.Proofs.YtpekgpgfdiffcaaGreat
open Go.ChangeShapes Go.WideShapes Go.ChangeAt Go.RowKit Go.Hay
set_option linter.unusedVariables false

set_option maxRecDepth 100000 in
theorem encodeReadsContract (H : Type) (enc : TypeId × Value → H) (W : World) (base : Nat) (args : Array Value) (ds gs : List (DataW H)) (before : List MemPlace)
    (hval : ∀ (j : Nat) t v, Tryz.f3.params[j]? = some t → args[j]? = some v → Value.okWide Tryz.prog W .any base t v)
    (hW : DataW.Whole enc Tryz.prog Tryz.f3.params.toList Rows.encodeReadsSpec.vars false W args.toList ds gs before)
    (hsz : (DataW.weightsEach Tryz.prog (Tryz.f3.params.toList ++ (OpenSpec.ofChange Rows.encodeReadsSpec).bare.plain.varTypes Tryz.prog) (ds ++ gs)).all (· ≤ reachBytes) = true) :
    Calls Tryz.prog 3 args W fun e W' => ∃ v, e = .returned v ∧ Rows.encodeReadsSpec.post enc Tryz.prog Tryz.f3 false true false false W args v W' := by
  have hW' := hW
  obtain ⟨p, q, hA0, hV, rfl, hfz, hnd⟩ := hW
  have hA : DataW.TrodAll enc Tryz.prog W 0 (fun _ => true) true Tryz.f3.params.toList args.toList ds p := hA0
  rw [Tryz.params3] at hA hval hsz
  obtain ⟨v0, vs0, d0, ds0, p0, q0, hargs, rfl, rfl, h0, r0⟩ := trodAll_cons hA
  obtain ⟨v1, vs1, d1, ds1, p1, q1, rfl, rfl, rfl, h1, r1⟩ := trodAll_cons r0
  obtain ⟨v2, vs2, d2, ds2, p2, q2, rfl, rfl, rfl, h2, r2⟩ := trodAll_cons r1
  obtain ⟨rfl, rfl, rfl⟩ := trodAll_nil r2
  obtain rfl : args = #[v0, v1, v2] := by cases args; simp_all
  obtain ⟨rfl, rfl⟩ := trodVars_none hV
  obtain ⟨a0, rfl, rfl, rfl, w0⟩ := open_int Tryz.underlying3 (hval 0 3 v0 rfl rfl) h0
  have hb0 := bounds_i64 w0
  obtain ⟨a1, len1, cap1, rfl⟩ := okWide_slice Tryz.underlying22 (hval 1 22 v1 rfl rfl)
  have k1 := h1
  have lt1 : ∀ x ∈ p1, x.block < W.heap.size := by obtain ⟨m, hm⟩ := k1; exact DataW.trod_lt m _ _ _ hm
  obtain ⟨bs1, hlen1, hs1, hl1, hm1, hcap1⟩ := openBytes h1
  have hr1 := reachBytesOf (d := d1) (List.all_eq_true.2 fun x hx => List.all_eq_true.1 hsz x (by simp [DataW.weightsEach]; first | exact .inl hx | exact .inr hx | exact .inr (.inl hx) | exact .inr (.inr hx) | exact hx))
  obtain ⟨a2, rfl, rfl, rfl, w2⟩ := open_int Tryz.underlying3 (hval 2 3 v2 rfl rfl) h2
  have hb2 := bounds_i64 w2
  clear hA0
  refine (encReadsWalk a0 a1 len1 cap1 bs1 a2 W hs1 hlen1 hl1 (by omega) (by omega)).mono fun e W' ⟨he, bel⟩ => ?_
  subst he
  exact ⟨_, rfl, _, _, _, [], _, [], hW', trodAll_mk1 (shut_bool Tryz.underlying4 _), (trodAll_cons_mk (shut_int Tryz.underlying3 w0) (trodAll_cons_mk (Below.trod Tryz.laidOut (by kernel_rfl) (of_decide_eq_true (by kernel_rfl)) k1 bel lt1) (trodAll_cons_mk (shut_int Tryz.underlying3 w2) trodAll_mk0))), rfl, bel.frame _, fun h => by cases h⟩

set_option maxRecDepth 100000 in
theorem encodeReadsLifted (os : Os) (started : os.Started) (H : Type) (enc : TypeId × Value → H) :
    ReturnsInHanded {} Tryz.checked os 3 .any (Rows.encodeReadsSpec.pre6 enc Tryz.prog Tryz.f3 Rows.encodeReadsRow.domain false) (Rows.encodeReadsSpec.post enc Tryz.prog Tryz.f3 false true false false) := by
  refine returnsInHanded_of_change_sized (C := Tryz.checked) Tryz.own started (by kernel_rfl) Tryz.func3
    (ChangeSpec.witness6 (enc := enc) (C := Tryz.checked) false ⟨#[], #[.int .i64 0, .slice none 0 0, .int .i64 0], []⟩ 8 (by kernel_rfl) (by kernel_rfl) (by kernel_rfl) (by kernel_rfl)) ?_
  intro W base args ds gs before hval hW _ hsz _
  exact encodeReadsContract H enc W base args ds gs before hval hW hsz

theorem EncodeReads_holds : Rows.EncodeReadsSaid :=
  OpenClaim.holds_of_wide 3 Tryz.f3 rfl rfl rfl rfl rfl rfl rfl ⟨rfl, rfl, rfl, rfl, rfl⟩ rfl rfl rfl rfl rfl (by kernel_rfl) Tryz.func3 (by kernel_rfl)
    (of_decide_eq_true (by kernel_rfl)) (by unfold Func.isWrapper; first | (rw [if_pos (by decide +kernel)]; kernel_rfl) | (rw [if_neg (by decide +kernel)]; exact ⟨rfl, rfl⟩))
    (fun os started H enc _ => encodeReadsLifted os started H enc)

#print axioms EncodeReads_holds
end Go.Proofs.YtpekgpgfdiffcaaGreat
end

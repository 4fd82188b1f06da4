/- The reference reads back what is written: Decode's answer by it. What bytes begin with: the reference's Front. The reference's plain and runs, read. The reference's runs, read. The reference's deltas, read. The reference's unpacked. -/
import Derived.Test.YtohbdbecioanaaaGreatDoorB11
import Derived.Test.YtohbdbecioanaaaGreatDoorB6
import Derived.Test.YtohbdbecioanaaaGreatDoorB14
section
namespace Go.Proofs.YtohbdbecioanaaaGreatDoor
open Go.RowKit Go.Hay
set_option linter.unusedVariables false
set_option linter.unusedSimpArgs false

theorem tkF_put : ∀ (l acc : List Val) (s : List UInt8), allR l = true → (∀ x ∈ l, x.in64) → tkF l.length acc (l.flatMap rowB ++ s) = some (acc ++ l, s)
  | [], acc, s, _, _ => by simp [tkF]
  | x :: l, acc, s, h, hi => by
    have hx : x.right = true := by simp [allR] at h; exact h.1
    have hl : allR l = true := by simp [allR] at h ⊢; exact h.2
    have hp := rowB_pos hx
    rw [List.flatMap_cons, List.append_assoc, List.length_cons, tkF, rowF_put x hx (hi x (by simp))]
    simp only
    rw [if_neg (by omega), List.drop_left, tkF_put l _ s hl (fun y hy => hi y (by simp [hy]))]
    simp
theorem rpR_put : ∀ (R : List Rn) (acc : List Val) (many : Nat), (∀ r ∈ R, r.v.right = true ∧ r.v.in64 ∧ 0 < r.m ∧ r.m < 256) → many = acc.length + (R.map Rn.m).sum → rpR many acc (R.flatMap runB) = acc ++ R.flatMap fun r => List.replicate r.m r.v
  | [], acc, many, _, hm => by rw [List.flatMap_nil, rpR_nil]; simp
  | r :: R, acc, many, h, hm => by
    obtain ⟨h1, h2, h3, h4⟩ := h r (by simp)
    have hp := rowB_pos h1
    simp only [List.map_cons, List.sum_cons] at hm
    have e : (r :: R).flatMap runB = octet r.m :: (rowB r.v ++ R.flatMap runB) := by simp [runB]
    rw [e, rpR_cons, if_neg (by omega), rowF_put r.v h1 h2]
    simp only
    rw [if_neg (by omega), List.drop_left, octet_nat r.m h4, rpR_put R _ many (fun r' hr' => h r' (by simp [hr'])) (by simp; omega)]
    simp
theorem rpD_gB (many : Nat) (n0 : Int) (acc : List Val) (s : List UInt8) (hacc : ¬ many ≤ acc.length) : ∀ (N z i a : Nat), z ≤ N → a + z * 2 ^ (7 * i) < 18446744073709551616 → rpD many n0 a (7 * i) acc (gB z ++ s) = rpD many (IntKind.i64.wrap (n0 + zag (a + z * 2 ^ (7 * i)))) 0 0 (acc ++ [intV (IntKind.i64.wrap (n0 + zag (a + z * 2 ^ (7 * i))))]) s := by
  intro N
  induction N with
  | zero =>
    intro z i a hn hz
    obtain rfl : z = 0 := by omega
    rw [gB_lo (by omega)]
    simp only [List.cons_append, List.nil_append]
    have e : zz a (7 * i) (UInt8.ofNat 0) = a + 0 * 2 ^ (7 * i) := by
      unfold zz
      simp
      omega
    rw [rpD, if_neg hacc, if_neg (by simp), e]
  | succ N ih =>
    intro z i a hn hz
    by_cases h : z < 128
    · rw [gB_lo h]
      simp only [List.cons_append, List.nil_append]
      have e0 : (UInt8.ofNat z).toNat = z := by rw [UInt8.toNat_ofNat']; omega
      have e : zz a (7 * i) (UInt8.ofNat z) = a + z * 2 ^ (7 * i) := by
        unfold zz
        rw [e0, Nat.mod_eq_of_lt h, Nat.mod_eq_of_lt (show z * 2 ^ (7 * i) < 18446744073709551616 by omega), Nat.mod_eq_of_lt hz]
      rw [rpD, if_neg hacc, e0, if_neg (by omega), e]
    · rw [gB_hi h]
      simp only [List.cons_append]
      have hle : z % 128 * 2 ^ (7 * i) + z / 128 * 2 ^ (7 * (i + 1)) = z * 2 ^ (7 * i) := by
        have e : 2 ^ (7 * (i + 1)) = 128 * 2 ^ (7 * i) := by rw [show 7 * (i + 1) = 7 + 7 * i by omega, Nat.pow_add]
        rw [e, ← Nat.mul_assoc, ← Nat.add_mul]
        congr 1
        omega
      have e : zz a (7 * i) (UInt8.ofNat (z % 128 + 128)) = a + z % 128 * 2 ^ (7 * i) := by
        unfold zz
        rw [low128, show (z % 128 + 128) % 128 = z % 128 by omega, Nat.mod_eq_of_lt (show z % 128 * 2 ^ (7 * i) < 18446744073709551616 by omega), Nat.mod_eq_of_lt (by omega)]
      rw [rpD, if_neg hacc, low128, if_pos (by omega), e, show 7 * i + 7 = 7 * (i + 1) by omega, ih (z / 128) (i + 1) _ (by omega) (by omega)]
      have e2 : a + z % 128 * 2 ^ (7 * i) + z / 128 * 2 ^ (7 * (i + 1)) = a + z * 2 ^ (7 * i) := by omega
      rw [e2]
theorem rpD_put (many : Nat) : ∀ (r : List Val) (x : Val) (acc : List Val), x.in64 → (∀ y ∈ r, y.in64 ∧ y = intV y.n) → acc.length + r.length ≤ many → rpD many x.n 0 0 acc (dltL x r) = acc ++ r
  | [], x, acc, _, _, _ => by simp [dltL, rpD]
  | y :: r, x, acc, hx, h, hl => by
    obtain ⟨hy1, hy2⟩ := h y (by simp)
    have hw := wrap64_bd (y.n - x.n)
    have hb := zig_bd hw.1 hw.2
    rw [List.length_cons] at hl
    have hg := rpD_gB many x.n acc (dltL y r) (by omega) _ (zig (IntKind.i64.wrap (y.n - x.n))).toNat 0 0 (Nat.le_refl _) (by simp; omega)
    simp only [Nat.mul_zero, Nat.pow_zero, Nat.mul_one, Nat.zero_add] at hg
    rw [dltL, hg, zag_zig hw.1 hw.2, wrap_diff x.n y.n hx hy1, ← hy2, rpD_put many r y _ hy1 (fun z hz => h z (by simp [hz])) (by simp; omega)]
    simp
theorem rback_delta (l : List Val) (h : allR l = true) (hi : ∀ x ∈ l, x.in64) (h2 : allI l = true) (h0 : 0 < l.length) : rpDl l.length (deltaB l) = l := by
  cases l with
  | nil => simp at h0
  | cons x r =>
    have hint : ∀ y ∈ x :: r, y = intV y.n := fun y hy => int_of (List.all_eq_true.1 h y hy) (by have := List.all_eq_true.1 h2 y hy; simpa using this)
    have e : deltaB (x :: r) = be (u64 x.n) 8 ++ dltL x r := by
      unfold deltaB
      rw [List.length_cons, Nat.add_sub_cancel, dltL_eq]
      simp
    unfold rpDl
    rw [e, if_neg (by rw [List.length_append, be_length]; omega), wordV_put x.n (hi x (by simp)), List.drop_left' (be_length _ _), rpD_put _ r x _ (hi x (by simp)) (fun y hy => ⟨hi y (by simp [hy]), hint y (by simp [hy])⟩) (by simp; omega), ← hint x (by simp)]
    rfl
theorem rback_bits (l : List Val) (h : allR l = true) (hi : ∀ x ∈ l, x.in64) (h2 : allI l = true) (h0 : 0 < l.length) : rpBt l.length (bitsB l) = l := by
  have hb := back_bits l h hi h2 h0
  unfold tkBt at hb
  split at hb
  · cases hb
  · rename_i hc
    unfold upkO at hb
    split at hb
    · rename_i hlen
      unfold rpBt
      rw [List.length_drop] at hlen
      rw [if_neg (by omega)]
      injection hb
    · cases hb
theorem rback_dict (l : List Val) (h : allR l = true) (hi : ∀ x ∈ l, x.in64) (h0 : 0 < l.length) (hl : l.length ≤ 64) : rpDc l.length (dictB l) = l := by
  have hb := back_dict l h hi h0 hl
  have hul := uniq_len l
  have hur := uniq_right l h
  have hum := uniq_mem l
  obtain ⟨u, hu⟩ : ∃ u, uniq l = u := ⟨_, rfl⟩
  have e : dictB l = octet u.length :: (u.flatMap rowB ++ packB (plcs u l l.length) (Lib.bitLen (u.length - 1))) := by unfold dictB; rw [hu]; simp
  rw [hu] at hul hur
  simp only [hu] at hum
  have hu0 : 0 < u.length := by
    cases l with
    | nil => simp at h0
    | cons x r => exact List.length_pos_of_mem ((hum x).2 (by simp))
  have ho : (octet u.length).toNat = u.length := octet_nat _ (by omega)
  have e0 : (octet (u.length : Int) :: (u.flatMap rowB ++ packB (plcs u l l.length) (Lib.bitLen (u.length - 1)))).getD 0 0 = octet u.length := rfl
  unfold tkDc at hb
  rw [e, e0, ho, if_neg (by rw [List.length_cons]; omega), List.drop_one, List.tail_cons, tkP_put u [] _ hur (fun x hx => hi x ((hum x).1 hx))] at hb
  unfold rpDc
  rw [e, e0, ho, if_neg (by rw [List.length_cons]; omega), List.drop_one, List.tail_cons, tkF_put u [] _ hur (fun x hx => hi x ((hum x).1 hx))]
  simp only [List.nil_append] at hb ⊢
  rw [if_neg (by omega)]
  unfold upkO at hb
  split at hb
  · cases hb
  · rename_i ps hps
    split at hps
    · rename_i hlen
      injection hps with hps
      rw [if_neg (by simpa using hlen), hps]
      split at hb
      · rename_i hall
        rw [if_pos hall]
        injection hb
      · cases hb
    · cases hps
theorem rpA_back (k : Int) (l : List Val) (hi : ∀ x ∈ l, x.in64) (hr : refE k l = 0) (h0 : 0 < l.length) : rpA k l.length (encR k l) = l := by
  obtain ⟨hk, hl, ha⟩ := refE_ok hr
  have hint : ofI k = true → allI l = true := fun ho => by
    unfold refE at hr
    rw [hk, ha, ho] at hr
    simp at hr
    split at hr
    · simp at hr
    · by_cases h : allI l = true
      · exact h
      · simp [h] at hr
  have hkk : 0 ≤ k ∧ k ≤ 4 := by unfold knownB at hk; simp at hk; exact hk
  rw [encR_put hr h0]
  unfold rpA putB
  rw [if_neg (by omega)]
  by_cases q0 : k = 0
  · subst q0
    rw [if_pos rfl]
    have := tkF_put l [] [] ha hi
    rw [List.append_nil] at this
    simp only [if_neg (by omega : ¬ (0 : Int) = 1), if_neg (by omega : ¬ (0 : Int) = 2), if_neg (by omega : ¬ (0 : Int) = 3), if_neg (by omega : ¬ (0 : Int) = 4)]
    rw [this]; rfl
  · rw [if_neg q0]
    by_cases h1 : k = 1
    · subst h1
      obtain ⟨q1, q2, q3⟩ := runsV_flat l
      rw [if_pos rfl, if_pos rfl, rpR_put (runsV l) [] l.length (fun r hr' => by
        have := runsV_in r hr'
        exact ⟨List.all_eq_true.1 ha _ this.1, hi _ this.1, q2 r hr', by omega⟩) (by simp [q3]), q1]
      rfl
    · rw [if_neg h1, if_neg h1]
      by_cases h2 : k = 2
      · subst h2; simpa using rback_delta l ha hi (hint rfl) h0
      · rw [if_neg h2, if_neg h2]
        by_cases h3 : k = 3
        · subst h3; simpa using rback_dict l ha hi h0 hl
        · rw [if_neg h3, if_neg h3]
          have h4 : k = 4 := by omega
          subst h4
          rw [if_pos rfl]
          exact rback_bits l ha hi (hint rfl) h0
/-- Decode's answer, by what the reference reads. -/
def refD (k : Int) (bs : List UInt8) (many : Nat) : List Val × Int := if refE k (rpA k many bs) = 0 ∧ (rpA k many bs).length = many ∧ encR k (rpA k many bs) = bs then (rpA k many bs, 0) else ([], 60)
theorem refD_eq (k : Int) (bs : List UInt8) (many : Nat) (hk : knownB k = true) (hm : many ≤ 64) : refD k bs many = decA k bs many := by
  unfold refD
  split
  · rename_i h
    obtain ⟨h1, h2, h3⟩ := h
    have := decA_back k (rpA k many bs) (rpA_in64 k many bs) h1
    rw [h2, h3] at this
    exact this.symm
  · rename_i h
    unfold decA decE
    rw [if_neg (by simp [hk]), if_neg (by omega)]
    cases hT : tkA k many bs with
    | none => rw [if_neg (by simp [okV])]
    | some L =>
      rw [if_neg]
      rintro ⟨_, hl, hr, he⟩
      simp only [okV] at hl hr he
      apply h
      have hin := tkA_in64 k many bs L hT
      have e : rpA k many bs = L := by
        rcases Nat.eq_zero_or_pos L.length with h0 | h0
        · obtain rfl := List.eq_nil_of_length_eq_zero h0
          unfold rpA
          rw [if_pos (by simpa using hl.symm)]
        · have := rpA_back k L hin hr h0
          rw [he, hl] at this
          exact this
      rw [e]
      exact ⟨hr, hl, he⟩
end Go.Proofs.YtohbdbecioanaaaGreatDoor
end

section
namespace Go.Proofs.YtohbdbecioanaaaGreatDoor
open Go.RowKit Go.Hay
set_option linter.unusedVariables false
set_option linter.unusedSimpArgs false

set_option maxHeartbeats 4000000 in
set_option maxRecDepth 100000 in
theorem cFront (a : Option Addr) (c : Nat) (bs : List UInt8) (w : World) (hs : Sees w a bs) (hl : bs.length ≤ c) (hm : c ≤ maxLen) :
    Calls Tryz.prog 43 #[.slice a bs.length c] w (Tk w (rowF bs)) := by
  have kW : Kp [] w (w.alloc (.cells #[.int .i64 0, .bool false, .int .i64 0, .string ⟨#[]⟩] 30)) := (Kp.refl _ _).alloc _
  have bA := Box4.new w (.int .i64 0) (.bool false) (.int .i64 0) (.string ⟨#[]⟩) 30
  cases bs with
  | nil =>
    go_enter Tryz.func43, Tryz.ntmps43
    go_wp2_with fail
    all_goals refine bodyPost_ret (v := .tuple #[Val.v nilV, .int .i64 0]) (by simp [results, Tryz.results43, go_sem, Val.v, nilV]) rfl ⟨?_, by first | exact kW | exact (Kp.refl _ _).alloc _⟩
    rfl
  | cons f r =>
    obtain ⟨g, o, rfl, hc⟩ : ∃ g o, a = some ⟨g, o, none⟩ ∧ ∀ j u, (f :: r)[j]? = some u → w.cell? ⟨g, o + j, none⟩ = some (.int .u8 u.toNat) := by
      rcases hs with h | h
      · cases h
      · exact h
    have hc0 : w.cell? ⟨g, o, none⟩ = some (.int .u8 f.toNat) := hc 0 f rfl
    have hg := World.block_lt_of_cell? _ _ hc0
    have hf := f.toNat_lt
    have htl := fun n : Nat => (show Sees w (some ⟨g, o + 1, none⟩) (r.take n) by have := (Sees.tail hs 1).front n; simpa [Addr.add_lit] using this)
    rw [List.length_cons] at hl ⊢
    unfold maxLen at hm
    by_cases h0 : f.toNat = 0
    · have HF : Hid (rowF (f :: r) = (nilV, 1)) := by show _ = _; simp [rowF, fixF, h0]
      rw [h0] at hc0
      clear hc h0 hs htl hf
      generalize rowF (f :: r) = R at *
      go_enter Tryz.func43, Tryz.ntmps43
      go_wp2_with fail
      all_goals refine bodyPost_ret (v := .tuple #[Val.v nilV, .int .i64 1]) (by simp [results, Tryz.results43, go_sem, Val.v, nilV]) rfl ⟨?_, by first | exact kW | exact (Kp.refl _ _).alloc _⟩
      all_goals (rw [HF.out]; rfl)
    have e0 : ((f.toNat : Int) == 0) = false := by simp; omega
    by_cases h1 : f.toNat = 1
    · rw [h1] at hc0
      cases r with
      | nil =>
        have HF : Hid (rowF (f :: []) = (nilV, 0)) := by show _ = _; simp [rowF, fixF, h1]
        clear hc h0 h1 hs htl hf e0
        generalize rowF (f :: []) = R at *
        rw [List.length_nil] at hl ⊢
        go_enter Tryz.func43, Tryz.ntmps43
        go_wp2_with fail
        all_goals refine bodyPost_ret (v := .tuple #[Val.v nilV, .int .i64 0]) (by simp [results, Tryz.results43, go_sem, Val.v, nilV]) rfl ⟨?_, by first | exact kW | exact (Kp.refl _ _).alloc _⟩
        all_goals (rw [HF.out]; rfl)
      | cons y s =>
        have hc1 : w.cell? ⟨g, o + 1, none⟩ = some (.int .u8 y.toNat) := hc 1 y rfl
        rw [List.length_cons] at hl ⊢
        have hy := y.toNat_lt
        by_cases hy1 : y.toNat ≤ 1
        · have HF : Hid (rowF (f :: y :: s) = (⟨1, y.toNat == 1, 0, ⟨#[]⟩⟩, 2)) := by show _ = _; simp [rowF, fixF, h1, hy1]
          clear hc h0 h1 hs htl hf e0
          generalize rowF (f :: y :: s) = R at *
          obtain ⟨b, Hb⟩ : ∃ b : Bool, Hid ((y.toNat == 1) = b) := ⟨_, rfl⟩
          rw [Hb.out] at HF
          have hbb : ((y.toNat : Int) == 1) = b := by rw [← Hb.out, Bool.eq_iff_iff]; simp; omega
          have hy2 : (y.toNat : Int) < 2 := by omega
          go_enter Tryz.func43, Tryz.ntmps43
          go_wp2_with fail
          all_goals refine bodyPost_ret (v := .tuple #[Val.v ⟨1, b, 0, ⟨#[]⟩⟩, .int .i64 2]) (by simp [results, Tryz.results43, go_sem, Val.v, nilV]) rfl ⟨?_, by first | exact kW | exact (Kp.refl _ _).alloc _⟩
          all_goals (rw [HF.out]; rfl)
        · have HF : Hid (rowF (f :: y :: s) = (nilV, 0)) := by show _ = _; simp [rowF, fixF, h1, hy1]
          clear hc h0 h1 hs htl hf e0
          generalize rowF (f :: y :: s) = R at *
          have hy2 : ¬ (y.toNat : Int) < 2 := by omega
          go_enter Tryz.func43, Tryz.ntmps43
          go_wp2_with fail
          all_goals refine bodyPost_ret (v := .tuple #[Val.v nilV, .int .i64 0]) (by simp [results, Tryz.results43, go_sem, Val.v, nilV]) rfl ⟨?_, by first | exact kW | exact (Kp.refl _ _).alloc _⟩
          all_goals (rw [HF.out]; rfl)
    have e1 : ((f.toNat : Int) == 1) = false := by simp; omega
    by_cases h2 : f.toNat = 2
    · rw [h2] at hc0
      by_cases h8 : 8 ≤ r.length
      · have HF : Hid (rowF (f :: r) = (⟨2, false, wrap64 (num (r.take 8)), ⟨#[]⟩⟩, 9)) := by show _ = _; simp [rowF, fixF, h2, h8]
        have hs8 := fun w' (k : Kp [] w w') => seesKeep (htl 8) k
        have hlen8 : 8 = (r.take 8).length := by simp; omega
        have hN := fun w' (k : Kp [] w w') => cRefSaid _ 8 (c - 1) (r.take 8) w' (hs8 w' k) hlen8 (by simp; omega)
        have hnb := num_lt64 (r.take 8) (by simp; omega)
        clear hc h0 h1 h2 hs htl hf hs8 hlen8
        generalize rowF (f :: r) = R at *
        generalize num (r.take 8) = m at *
        have hc9 : (9 : Nat) ≤ c := by omega
        go_enter Tryz.func43, Tryz.ntmps43
        go_wp2_with fail
        refine (hN _ kW).mono ?_
        rintro e w1 ⟨rfl, rfl⟩
        go_wp2_with fail
        all_goals refine bodyPost_ret (v := .tuple #[Val.v ⟨2, false, wrap64 m, ⟨#[]⟩⟩, .int .i64 9]) (by simp [results, Tryz.results43, go_sem, Val.v, nilV]) rfl ⟨?_, by first | exact kW | exact (Kp.refl _ _).alloc _⟩
        all_goals (rw [HF.out]; rfl)
      · have HF : Hid (rowF (f :: r) = (nilV, 0)) := by show _ = _; simp [rowF, fixF, h2, h8]
        clear hc h0 h1 h2 hs htl hf
        generalize rowF (f :: r) = R at *
        have h8' : ¬ (8 : Int) < (r.length : Int) + 1 := by omega
        go_enter Tryz.func43, Tryz.ntmps43
        go_wp2_with fail
        all_goals refine bodyPost_ret (v := .tuple #[Val.v nilV, .int .i64 0]) (by simp [results, Tryz.results43, go_sem, Val.v, nilV]) rfl ⟨?_, by first | exact kW | exact (Kp.refl _ _).alloc _⟩
        all_goals (rw [HF.out]; rfl)
    have e2 : ((f.toNat : Int) == 2) = false := by simp; omega
    by_cases h3 : f.toNat = 3
    · rw [h3] at hc0
      cases r with
      | nil =>
        have HF : Hid (rowF (f :: []) = (nilV, 0)) := by show _ = _; simp [rowF, h3]
        clear hc h0 h1 h2 h3 hs htl hf e0 e1 e2
        generalize rowF (f :: []) = R at *
        rw [List.length_nil] at hl ⊢
        go_enter Tryz.func43, Tryz.ntmps43
        go_wp2_with fail
        all_goals refine bodyPost_ret (v := .tuple #[Val.v nilV, .int .i64 0]) (by simp [results, Tryz.results43, go_sem, Val.v, nilV]) rfl ⟨?_, by first | exact kW | exact (Kp.refl _ _).alloc _⟩
        all_goals (rw [HF.out]; rfl)
      | cons y s =>
        clear e0 e1 e2
        have hc1 : w.cell? ⟨g, o + 1, none⟩ = some (.int .u8 y.toNat) := hc 1 y rfl
        rw [List.length_cons] at hl ⊢
        have hy := y.toNat_lt
        by_cases hy6 : y.toNat ≤ 64
        · by_cases hys : y.toNat ≤ s.length
          · have HF : Hid (rowF (f :: y :: s) = (⟨3, false, 0, ⟨(s.take y.toNat).toArray⟩⟩, 2 + y.toNat)) := by show _ = _; simp [rowF, h3, hy6, hys]
            have hs2 : Sees (w.alloc (.cells #[.int .i64 0, .bool false, .int .i64 0, .string ⟨#[]⟩] 30)) (some ⟨g, o + 2, none⟩) (s.take y.toNat) := by
              have := seesKeep ((Sees.tail hs 2).front y.toNat) kW
              simpa [Addr.add_lit] using this
            have hcv := convSees hs2 (c - 2)
            rw [show (s.take y.toNat).length = y.toNat by simp; omega] at hcv
            have hT0 : y.toNat = 0 → (⟨(s.take y.toNat).toArray⟩ : ByteArray) = ⟨#[]⟩ := by intro h; rw [h]; rfl
            have hcv0 := fun a c => convSees (w := w.alloc (.cells #[.int .i64 0, .bool false, .int .i64 0, .string ⟨#[]⟩] 30)) (Sees.nil _ a) c
            rw [List.length_nil] at hcv0
            generalize (⟨(s.take y.toNat).toArray⟩ : ByteArray) = T at *
            clear hc h3 hs htl hf hs2
            generalize rowF (f :: y :: s) = R at *
            generalize y.toNat = n at *
            by_cases hc2 : c = 2
            · subst hc2
              obtain rfl : n = 0 := by omega
              have hT1 := hT0 rfl
              subst hT1
              clear hcv hT0
              go_enter Tryz.func43, Tryz.ntmps43
              go_wp2_with fail
              all_goals refine bodyPost_ret (v := .tuple #[Val.v ⟨3, false, 0, ⟨#[]⟩⟩, .int .i64 2]) (by simp [results, Tryz.results43, go_sem, Val.v, nilV]) rfl ⟨?_, by first | exact kW | exact (Kp.refl _ _).alloc _⟩
              all_goals (rw [HF.out]; rfl)
            clear hcv0 hT0
            go_enter Tryz.func43, Tryz.ntmps43
            go_wp2_with fail
            all_goals refine bodyPost_ret (v := .tuple #[Val.v ⟨3, false, 0, T⟩, .int .i64 (2 + (n : Int))]) (by simp [results, Tryz.results43, go_sem, Val.v, nilV]) rfl ⟨?_, by first | exact kW | exact (Kp.refl _ _).alloc _⟩
            all_goals (rw [HF.out]; rfl)
          · have HF : Hid (rowF (f :: y :: s) = (nilV, 0)) := by show _ = _; simp [rowF, h3, hys]
            clear hc h3 hs htl hf
            generalize rowF (f :: y :: s) = R at *
            go_enter Tryz.func43, Tryz.ntmps43
            go_wp2_with fail
            all_goals refine bodyPost_ret (v := .tuple #[Val.v nilV, .int .i64 0]) (by simp [results, Tryz.results43, go_sem, Val.v, nilV]) rfl ⟨?_, kW⟩
            all_goals (rw [HF.out]; rfl)
        · have HF : Hid (rowF (f :: y :: s) = (nilV, 0)) := by show _ = _; simp [rowF, h3, hy6]
          clear hc h3 hs htl hf
          generalize rowF (f :: y :: s) = R at *
          go_enter Tryz.func43, Tryz.ntmps43
          go_wp2_with fail
          all_goals refine bodyPost_ret (v := .tuple #[Val.v nilV, .int .i64 0]) (by simp [results, Tryz.results43, go_sem, Val.v, nilV]) rfl ⟨?_, kW⟩
          all_goals (rw [HF.out]; rfl)
    have e3 : ((f.toNat : Int) == 3) = false := by simp; omega
    have HF : Hid (rowF (f :: r) = (nilV, 0)) := by show _ = _; simp [rowF, fixF, h0, h1, h2, h3]
    clear hs htl
    by_cases hlen : 1 ≤ r.length
    · obtain ⟨y, s, rfl⟩ : ∃ y s, r = y :: s := by cases r with | nil => simp at hlen | cons y s => exact ⟨y, s, rfl⟩
      have hc1 : w.cell? ⟨g, o + 1, none⟩ = some (.int .u8 y.toNat) := hc 1 y rfl
      clear hc h0 h1 h2 h3 hf
      generalize rowF (f :: y :: s) = R at *
      by_cases h9 : 9 ≤ (y :: s).length + 1
      · go_enter Tryz.func43, Tryz.ntmps43
        go_wp2_with fail
        all_goals refine bodyPost_ret (v := .tuple #[Val.v nilV, .int .i64 0]) (by simp [results, Tryz.results43, go_sem, Val.v, nilV]) rfl ⟨?_, by first | exact kW | exact (Kp.refl _ _).alloc _⟩
        all_goals (rw [HF.out]; rfl)
      · go_enter Tryz.func43, Tryz.ntmps43
        go_wp2_with fail
        all_goals refine bodyPost_ret (v := .tuple #[Val.v nilV, .int .i64 0]) (by simp [results, Tryz.results43, go_sem, Val.v, nilV]) rfl ⟨?_, by first | exact kW | exact (Kp.refl _ _).alloc _⟩
        all_goals (rw [HF.out]; rfl)
    · clear hc h0 h1 h2 h3 hf
      generalize rowF (f :: r) = R at *
      go_enter Tryz.func43, Tryz.ntmps43
      go_wp2_with fail
      all_goals refine bodyPost_ret (v := .tuple #[Val.v nilV, .int .i64 0]) (by simp [results, Tryz.results43, go_sem, Val.v, nilV]) rfl ⟨?_, by first | exact kW | exact (Kp.refl _ _).alloc _⟩
      all_goals (rw [HF.out]; rfl)
end Go.Proofs.YtohbdbecioanaaaGreatDoor
end

section
namespace Go.Proofs.YtohbdbecioanaaaGreatDoor
open Go.RowKit Go.Hay
set_option linter.unusedVariables false
set_option linter.unusedSimpArgs false

/-- Values that are handed back, all new. -/
def RvP (w : World) (l : List Val) (e : Ending) (w' : World) : Prop := ∃ a c, e = .returned (.slice a l.length c) ∧ NwV w w' a c l
theorem rvP_nil (w w' : World) (k : Kp [] w w') : RvP w [] (.returned (.slice none 0 0)) w' := ⟨none, 0, rfl, (NwV.nil w).keep k⟩
/-- The bytes from a place on. -/
theorem tailB {w : World} {a : Option Addr} {bs : List UInt8} (hs : Sees w a bs) (c A : Nat) (hA : A ≤ bs.length) (hl : bs.length ≤ c) : ∃ ba, (∀ g o, a = some ⟨g, o, none⟩ → (if c = A then some ⟨g, o, none⟩ else some ⟨g, o + A, none⟩ : Option Addr) = ba) ∧ Sees w ba (bs.drop A) := by
  cases a with
  | none =>
    refine ⟨none, (fun g o e => by cases e), ?_⟩
    rcases hs with h | ⟨g, o, e, _⟩
    · subst h; simp; exact .inl rfl
    · cases e
  | some ad =>
    rcases hs with h | ⟨g, o, e, hc⟩
    · subst h
      obtain ⟨g, o, t⟩ := ad
      refine ⟨if c = A then some ⟨g, o, none⟩ else some ⟨g, o + A, none⟩, (fun g' o' e => by cases e; rfl), ?_⟩
      simp; exact .inl rfl
    · cases e
      refine ⟨_, (fun g' o' e => by cases e; rfl), ?_⟩
      split
      · have : bs.drop A = [] := List.drop_eq_nil_of_le (by omega)
        rw [this]; exact .inl rfl
      · have := Sees.tail (show Sees w (some ⟨g, o, none⟩) bs from .inr ⟨g, o, rfl, hc⟩) A; simpa [Addr.add_lit] using this
theorem NwV.app2 {w W : World} {a : Option Addr} {c : Nat} {l : List Val} (h : NwV w W a c l) (x : Val) (hl : l.length ≤ 100000) :
    ∃ v' W', (Builtin.append_ #[23, 23] 23 #[.slice a l.length c, .slice (some ⟨W.heap.size, 0, none⟩) 1 1]).run Tryz.prog (W.alloc (.cells #[.int .i64 x.k, .bool x.b, .int .i64 x.n, .string x.t] 30)) = .ok v' W' ∧ ∃ a' c', v' = .slice a' (l.length + 1) c' ∧ NwV w W' a' c' (l ++ [x]) ∧ Kp (blk a) W W' ∧ ∀ k ∈ blk a', k ∈ blk a ∨ W.heap.size < k := by
  obtain ⟨i0, hi, hz0, hz1, hz2⟩ := infoV'
  have kA : Kp [] W (W.alloc (.cells #[.int .i64 x.k, .bool x.b, .int .i64 x.n, .string x.t] 30)) := (Kp.refl _ _).alloc _
  have hsrc := (oneV W rfl x 30).src (P := Tryz.prog) Tryz.underlying23 1
  obtain ⟨v6, X4, hrun2, hrow6, kk6, hn6⟩ := run_appendG (E := VE) (P := Tryz.prog) _ 23 23 23 30 i0 _ 40 Tryz.underlying23 hi hz0 hz1 hz2 rfl (.slice a l.length c) l (h.row.keptNew kA) _ [x] hsrc (by simp; omega) (by simp; omega)
  obtain ⟨a6, c6, rfl, _⟩ := hrow6.see
  rw [ownS] at kk6
  have el : (l ++ [x]).length = l.length + 1 := by simp
  refine ⟨_, X4, hrun2, a6, c6, by rw [el], ⟨hrow6, fun q hq => ?_, (h.kp.trans kA (by simp)).trans kk6 (fun q hq => .inr (h.new q hq))⟩, (kA.mono (fun x hx => by simp at hx)).trans kk6 (fun q hq => .inl hq), fun q hq => ?_⟩
  · rcases hn6 q (by rw [ownS]; exact hq) with h1 | h1
    · rw [ownS] at h1; exact h.new q h1
    · have := h.kp.size; have := kA.size; omega
  · rcases hn6 q (by rw [ownS]; exact hq) with h1 | h1
    · rw [ownS] at h1; exact .inl h1
    · refine .inr ?_
      simp at h1
      omega
set_option maxHeartbeats 8000000 in
set_option maxRecDepth 100000 in
theorem cRdPlain (a : Option Addr) (c : Nat) (bs : List UInt8) (many : Nat) (w : World) (hs : Sees w a bs) (hl : bs.length ≤ c) (hm : c ≤ maxLen) (hb : bs.length ≤ 900000000000000) (hmn : many ≤ 64) :
    Calls Tryz.prog 44 #[.slice a bs.length c, .int .i64 many] w (RvP w (orNil ((tkF many [] bs).map Prod.fst))) := by
  obtain ⟨F, hF⟩ : ∃ F, Hid (orNil ((tkF many [] bs).map Prod.fst) = F) := ⟨_, rfl⟩
  rw [hF.out]
  have hn0 := hid (NwV.nil w)
  have hs' := hid hs
  have hmx := hid hm
  unfold maxLen at hm
  clear hs
  go_enter Tryz.func44, Tryz.ntmps44
  go_wp2_with fail
  go_loopw [5, 6, 7] (fun v5 v6 i wn => ∃ (j A : Nat) (la : Option Addr) (lc : Nat) (acc : List Val), j ≤ many ∧ i = .int .i64 j ∧ A ≤ bs.length ∧ v6 = .int .i64 A ∧ v5 = .slice la acc.length lc ∧ NwV w wn la lc acc ∧ Hid (acc.length = j) ∧ Hid (orNil ((tkF (many - j) acc (bs.drop A)).map Prod.fst) = F)) (fun _ _ i _ => many - (intOf i).toNat)
  case atStart => exact ⟨0, 0, none, 0, [], Nat.zero_le _, rfl, Nat.zero_le _, rfl, rfl, hn0.out, rfl, by rw [Nat.sub_zero, List.drop_zero]; exact hF⟩
  case round =>
    clear hn0 hF
    obtain ⟨j, A, la, lc, acc, hj, rfl, hA, rfl, rfl, I, hal, hF⟩ := hrel
    have hal2 : acc.length ≤ 64 := by rw [hal.out]; omega
    by_cases hlt : j < many
    · obtain ⟨ba, hba, hsb⟩ := tailB hs'.out c A hA hl
      have hdl : (bs.drop A).length = bs.length - A := by simp
      have cF := cFront ba (c - A) (bs.drop A) wr (hsb.kept I.kp (by simp)) (by rw [hdl]; omega) (by have := hmx.out; unfold maxLen at this ⊢; omega)
      rw [hdl] at cF
      have hle := rowF_le (bs.drop A)
      rw [hdl] at hle
      rw [show many - j = (many - (j + 1)) + 1 by omega, tkF] at hF
      have hd2 : Hid (∀ n, (bs.drop A).drop n = bs.drop (A + n)) := fun n => by rw [List.drop_drop]
      obtain ⟨⟨v, n⟩, hR⟩ : ∃ t, Hid (rowF (bs.drop A) = t) := ⟨_, rfl⟩
      rw [hR.out] at cF hle hF
      unfold Tk at cF
      dsimp only at cF hle hF
      rw [hd2.out] at hF
      have hxv : Hid (v.v = .agg #[.int .i64 v.k, .bool v.b, .int .i64 v.n, .string v.t]) := rfl
      rw [hxv.out] at cF
      have hI := hid I
      have hbe := hid hba
      clear I hxv hsb hR hd2 hdl hba
      have hbx : Hid (∀ w1, Kp [] wr w1 → ∀ wb, w1.alloc (.cells #[.int .i64 v.k, .bool v.b, .int .i64 v.n, .string v.t] 30) = wb → Kp [] w1 wb ∧ Box4 wb w1.heap.size (.int .i64 v.k) (.bool v.b) (.int .i64 v.n) (.string v.t)) := fun w1 k1 wb hwb => ⟨by rw [← hwb]; exact (Kp.refl _ _).alloc _, by rw [← hwb]; exact Box4.new _ _ _ _ _ _⟩
      by_cases hbe0 : bs.length = 0
      · have hA0 : A = 0 := by omega
        have hn00 : n = 0 := by omega
        subst hA0 hn00
        rw [if_pos rfl] at hF
        have hfin : Hid (∀ W, Kp [] w W → RvP w F (.returned (.slice none 0 0)) W) := fun W kW => by rw [← hF.out]; exact rvP_nil w W kW
        have kI := hI.out.kp
        rw [hbe0]
        clear hF hI
        have cF0 := cFront a c [] wr (.inl rfl) (by simp) hmx.out
        have e0 : rowF [] = (nilV, 0) := rfl
        rw [e0] at cF0
        unfold Tk at cF0
        dsimp only [List.length_nil] at cF0
        have hnv : Hid (nilV.v = .agg #[.int .i64 0, .bool false, .int .i64 0, .string ⟨#[]⟩]) := rfl
        rw [hnv.out] at cF0
        clear hnv e0 hbx cF
        go_wp2_with fail
        refine cF0.mono ?_
        rintro e w1 ⟨rfl, k1⟩
        have hf := hfin.out _ ((kI.trans k1 (by simp)).alloc (.cells #[.int .i64 0, .bool false, .int .i64 0, .string ⟨#[]⟩] 30))
        clear hfin cF0
        go_wp2_with fail
        go_ret
        exact hf
      · obtain ⟨g, o, rfl⟩ : ∃ g o, a = some ⟨g, o, none⟩ := by
          rcases hs'.out with h | ⟨g, o, h, _⟩
          · rw [h] at hbe0; simp at hbe0
          · exact ⟨g, o, h⟩
        have hbe2 := hbe.out g o rfl
        clear hbe
        go_wp2_with fail
        refine cF.mono ?_
        rintro e w1 ⟨rfl, k1⟩
        obtain ⟨wb, hwb⟩ : ∃ wb, w1.alloc (.cells #[.int .i64 v.k, .bool v.b, .int .i64 v.n, .string v.t] 30) = wb := ⟨_, rfl⟩
        obtain ⟨kb, bx⟩ := hbx.out w1 k1 wb hwb
        have kwb := k1.trans kb (by simp)
        clear hbx cF
        by_cases hn : n = 0
        · subst hn
          rw [if_pos rfl] at hF
          have hfin : RvP w F (.returned (.slice none 0 0)) wb := by rw [← hF.out]; exact rvP_nil w wb (hI.out.kp.trans kwb (by simp))
          clear hF hI
          go_wp2_with fail
          go_ret
          exact hfin
        · rw [if_neg hn] at hF
          have hn' : ((n : Int) == 0) = false := by rw [beq_eq_false_iff_ne]; omega
          have p0 := bx.c0; have p1 := bx.c1; have p2 := bx.c2; have p3 := bx.c3
          obtain ⟨v3, X3, hrun3, a3, c3, rfl, I3, _⟩ := (hI.out.keep kwb).app1 v (by omega)
          have hnx : Hid (∃ (j' A' : Nat) (la : Option Addr) (lc : Nat) (acc' : List Val), j' ≤ many ∧ (.int .i64 ((j : Int) + 1) : Value) = .int .i64 j' ∧ A' ≤ bs.length ∧ (.int .i64 ((A : Int) + (n : Int)) : Value) = .int .i64 A' ∧ (.slice a3 (acc.length + 1) c3 : Value) = .slice la acc'.length lc ∧ NwV w X3 la lc acc' ∧ Hid (acc'.length = j') ∧ Hid (orNil ((tkF (many - j') acc' (bs.drop A')).map Prod.fst) = F)) :=
            ⟨j + 1, A + n, a3, c3, acc ++ [v], by omega, by go_num, by omega, by go_num, by simp, I3, by show _ = _; simp [hal.out], hF⟩
          clear I3 hI hF hal bx
          go_wp2_with (first | (refine wpAppRun rfl _ _ 23 23 rfl _ _ _ rfl rfl hrun3 ?_) | fail)
          exact ⟨hnx.out, by simp [intOf]; omega⟩
    · obtain rfl : j = many := by omega
      have hfin : RvP w F (.returned (.slice la acc.length lc)) wr := by
        have e : F = acc := by rw [← hF.out, Nat.sub_self, tkF]; rfl
        rw [e]
        exact ⟨la, lc, rfl, I⟩
      clear I hF
      go_wp2_with fail
      go_ret
      exact hfin
end Go.Proofs.YtohbdbecioanaaaGreatDoor
end

section
namespace Go.Proofs.YtohbdbecioanaaaGreatDoor
open Go.RowKit Go.Hay
set_option linter.unusedVariables false
set_option linter.unusedSimpArgs false

theorem dropCons {bs : List UInt8} {A : Nat} (h : A < bs.length) : bs.drop A = bs[A] :: bs.drop (A + 1) := List.drop_eq_getElem_cons h
set_option maxHeartbeats 8000000 in
set_option maxRecDepth 100000 in
theorem cRdRuns (a : Option Addr) (c : Nat) (bs : List UInt8) (many : Nat) (w : World) (hs : Sees w a bs) (hl : bs.length ≤ c) (hm : c ≤ maxLen) (hb : bs.length ≤ 900000000000000) (hmn : many ≤ 64) :
    Calls Tryz.prog 45 #[.slice a bs.length c, .int .i64 many] w (RvP w (rpR many [] bs)) := by
  obtain ⟨F, hF⟩ : ∃ F, Hid (rpR many [] bs = F) := ⟨_, rfl⟩
  rw [hF.out]
  have hn0 := hid (NwV.nil w)
  have hs' := hid hs
  have hmx := hid hm
  unfold maxLen at hm
  clear hs
  go_enter Tryz.func45, Tryz.ntmps45
  go_wp2_with fail
  go_loopw [5, 6] (fun v5 v6 wn => ∃ (A : Nat) (la : Option Addr) (lc : Nat) (acc : List Val), A ≤ bs.length ∧ v6 = .int .i64 A ∧ v5 = .slice la acc.length lc ∧ acc.length ≤ 400 ∧ NwV w wn la lc acc ∧ Hid (rpR many acc (bs.drop A) = F)) (fun _ v6 _ => bs.length - (intOf v6).toNat)
  case atStart => exact ⟨0, none, 0, [], Nat.zero_le _, rfl, rfl, Nat.zero_le _, hn0.out, by rw [List.drop_zero]; exact hF⟩
  case round =>
    clear hn0 hF
    obtain ⟨A, la, lc, acc, hA, rfl, rfl, hal, I, hF⟩ := hrel
    by_cases hlt : A < bs.length
    · have dA : (A : Int) < (bs.length : Int) := by omega
      rw [dropCons hlt, rpR_cons] at hF
      by_cases hmo : many ≤ acc.length
      · rw [if_pos hmo] at hF
        have hfin : RvP w F (.returned (.slice la acc.length lc)) wr := by rw [← hF.out]; exact ⟨la, lc, rfl, I⟩
        have dm : ¬ (acc.length : Int) < (many : Int) := by omega
        have dm2 : ¬ acc.length < many := by omega
        clear I hF
        go_wp2_with fail
        go_ret
        exact hfin
      · rw [if_neg hmo] at hF
        have dm : (acc.length : Int) < (many : Int) := by omega
        have dm2 : acc.length < many := by omega
        obtain ⟨g, o, rfl, hc⟩ : ∃ g o, a = some ⟨g, o, none⟩ ∧ ∀ j u, bs[j]? = some u → w.cell? ⟨g, o + j, none⟩ = some (.int .u8 u.toNat) := by
          rcases hs'.out with h | h
          · rw [h] at hlt; simp at hlt
          · exact h
        have hcx : Hid (∀ W, Kp [] w W → W.cell? ⟨g, o + A, none⟩ = some (.int .u8 (bs[A]'hlt).toNat)) := fun W kW => kpAt kW (hc A _ (by simp [hlt]))
        obtain ⟨ba, hba, hsb⟩ := tailB hs'.out c (A + 1) (by omega) hl
        have hdl : (bs.drop (A + 1)).length = bs.length - (A + 1) := by simp
        have cF := cFront ba (c - (A + 1)) (bs.drop (A + 1)) wr (hsb.kept I.kp (by simp)) (by rw [hdl]; omega) (by have := hmx.out; unfold maxLen at this ⊢; omega)
        rw [hdl] at cF
        have hle := rowF_le (bs.drop (A + 1))
        rw [hdl] at hle
        have hd2 : Hid (∀ n, (bs.drop (A + 1)).drop n = bs.drop (A + 1 + n)) := fun n => by rw [List.drop_drop]
        obtain ⟨⟨v, n⟩, hR⟩ : ∃ t, Hid (rowF (bs.drop (A + 1)) = t) := ⟨_, rfl⟩
        rw [hR.out] at cF hle hF
        have hx := (bs[A]'hlt).toNat_lt
        obtain ⟨x, hxx⟩ : ∃ x, Hid ((bs[A]'hlt).toNat = x) := ⟨_, by show _ = _; rfl⟩
        rw [hxx.out] at hF hx
        simp only [hxx.out] at hcx
        unfold Tk at cF
        dsimp only at cF hle hF
        rw [hd2.out] at hF
        have hxv : Hid (v.v = .agg #[.int .i64 v.k, .bool v.b, .int .i64 v.n, .string v.t]) := rfl
        rw [hxv.out] at cF
        have hI := hid I
        have hbe2 := hba g o rfl
        obtain ⟨A1, hA1⟩ : ∃ A1, A + 1 = A1 := ⟨_, rfl⟩
        rw [hA1] at cF hbe2 hle hF
        have eA1 : (A : Int) + 1 = (A1 : Int) := by omega
        have hA1' := hid hA1
        clear I hxv hsb hR hd2 hdl hba hc hA1
        have hA1l : A1 ≤ bs.length := by have := hA1'.out; omega
        go_wp2_with fail
        refine cF.mono ?_
        rintro e w1 ⟨rfl, k1⟩
        obtain ⟨wb, hwb⟩ : ∃ wb, w1.alloc (.cells #[.int .i64 v.k, .bool v.b, .int .i64 v.n, .string v.t] 30) = wb := ⟨_, rfl⟩
        have kb : Kp [] w1 wb := by rw [← hwb]; exact (Kp.refl _ _).alloc _
        have bx : Box4 wb w1.heap.size (.int .i64 v.k) (.bool v.b) (.int .i64 v.n) (.string v.t) := by rw [← hwb]; exact Box4.new _ _ _ _ _ _
        have kwb := k1.trans kb (by simp)
        have kww := hI.out.kp.trans kwb (by simp)
        clear cF hbe2
        by_cases hn : n = 0
        · subst hn
          rw [if_pos rfl] at hF
          have hfin : RvP w F (.returned (.slice none 0 0)) wb := by rw [← hF.out]; exact rvP_nil w wb kww
          clear hF hI
          go_wp2_with fail
          go_ret
          exact hfin
        · rw [if_neg hn] at hF
          have hn' : ((n : Int) == 0) = false := by rw [beq_eq_false_iff_ne]; omega
          have I2 := hI.out.keep kwb
          have hq : w1.heap.size ∉ blk la := fun hm' => by have := hI.out.row.lt _ (by rw [ownS]; exact hm'); have := k1.size; omega
          have R0 : Hid (NwV w wb la lc (acc ++ List.replicate 0 v) ∧ w1.heap.size ∉ blk la) := ⟨by simpa using I2, hq⟩
          have hcb := hcx.out wb kww
          clear hI I2 hq
          go_wp2_with fail
          go_loopw [5, 9] (fun v5 i wn => ∃ (k : Nat) (la : Option Addr) (lc : Nat) (ac : List Val), k ≤ x ∧ i = .int .i64 k ∧ v5 = .slice la ac.length lc ∧ Hid (ac = acc ++ List.replicate k v) ∧ NwV w wn la lc ac ∧ w1.heap.size ∉ blk la ∧ Box4 wn w1.heap.size (.int .i64 v.k) (.bool v.b) (.int .i64 v.n) (.string v.t)) (fun _ i _ => x - (intOf i).toNat)
          case atStart => exact ⟨0, la, lc, acc, Nat.zero_le _, rfl, rfl, by show _ = _; simp, by simpa using R0.out.1, R0.out.2, bx⟩
          case round =>
            clear R0 bx kb hwb hcb
            obtain ⟨k, la', lc', ac, hk, rfl, rfl, hac, I, hqn, bx⟩ := hrel
            have hacl : ac.length ≤ 700 := by rw [hac.out]; simp; omega
            have hcb := hcx.out wr I.kp
            by_cases hkx : k < x
            · have p0 := bx.c0; have p1 := bx.c1; have p2 := bx.c2; have p3 := bx.c3
              obtain ⟨v3, X3, hrun3, a3, c3, rfl, I3, kk3, hn3⟩ := I.app2 v (by omega)
              have hQ : w1.heap.size ∉ blk a3 := fun hm' => by
                rcases hn3 _ hm' with h | h
                · exact hqn h
                · have := bx.lt; omega
              have hnx : Hid (∃ (k' : Nat) (la : Option Addr) (lc : Nat) (ac' : List Val), k' ≤ x ∧ (.int .i64 ((k : Int) + 1) : Value) = .int .i64 k' ∧ (.slice a3 (ac.length + 1) c3 : Value) = .slice la ac'.length lc ∧ Hid (ac' = acc ++ List.replicate k' v) ∧ NwV w X3 la lc ac' ∧ w1.heap.size ∉ blk la ∧ Box4 X3 w1.heap.size (.int .i64 v.k) (.bool v.b) (.int .i64 v.n) (.string v.t)) := by
                refine ⟨k + 1, a3, c3, ac ++ [v], by omega, by go_num, by simp, by show _ = _; rw [hac.out, List.append_assoc, ← List.replicate_succ'], I3, ?_, bx.kept kk3 hqn⟩
                intro hm'
                exact hQ hm'
              clear I I3 bx kk3 hac hn3 hQ
              go_wp2_with (first | (refine wpAppRun rfl _ _ 23 23 rfl _ _ _ rfl rfl hrun3 ?_) | fail)
              exact ⟨hnx.out, by simp [intOf]; omega⟩
            · obtain rfl : k = x := by omega
              have hal3 : ac.length ≤ 400 := by rw [hac.out]; simp; omega
              rw [← hac.out] at hF
              have hN : Hid (∃ (A' : Nat) (la : Option Addr) (lc : Nat) (acc' : List Val), A' ≤ bs.length ∧ (.int .i64 ((A1 : Int) + (n : Int)) : Value) = .int .i64 A' ∧ (.slice la' ac.length lc' : Value) = .slice la acc'.length lc ∧ acc'.length ≤ 400 ∧ NwV w wr la lc acc' ∧ Hid (rpR many acc' (bs.drop A') = F)) :=
                ⟨A1 + n, la', lc', ac, by omega, by go_num, rfl, hal3, I, hF⟩
              have hAA := hA1'.out
              clear I bx hac hF
              go_wp2_with fail
              exact ⟨hN.out, by simp [intOf]; omega⟩
    · obtain rfl : A = bs.length := by omega
      rw [List.drop_length, rpR_nil] at hF
      have hfin : RvP w F (.returned (.slice la acc.length lc)) wr := by rw [← hF.out]; exact ⟨la, lc, rfl, I⟩
      clear I hF
      go_wp2_with fail
      go_ret
      exact hfin
end Go.Proofs.YtohbdbecioanaaaGreatDoor
end

section
namespace Go.Proofs.YtohbdbecioanaaaGreatDoor
open Go.RowKit Go.Hay
set_option linter.unusedVariables false
set_option linter.unusedSimpArgs false

theorem NwV.one (w w1 : World) (k : Kp [] w w1) (x : Val) (t : TypeId) : NwV w (w1.alloc (.cells #[.int .i64 x.k, .bool x.b, .int .i64 x.n, .string x.t] t)) (some ⟨w1.heap.size, 0, none⟩) 1 [x] :=
  ⟨rowOneV w1 rfl x t, fun q hq => by simp [blk] at hq; have := k.size; omega, k.alloc _⟩
theorem zag_pos {z : Nat} (h : z % 2 = 0) : zag z = ((z / 2 : Nat) : Int) := by unfold zag; rw [if_pos h]
theorem zag_neg {z : Nat} (h : ¬ z % 2 = 0) : zag z = -((z / 2 : Nat) : Int) - 1 := by unfold zag; rw [if_neg h]
theorem zz_lt (z s : Nat) (x : UInt8) : zz z s x < 18446744073709551616 := by unfold zz; omega
theorem pow_min (y S : Nat) : y * 2 ^ min S 64 % 18446744073709551616 = y * 2 ^ S % 18446744073709551616 := by
  by_cases h : S ≤ 64
  · rw [Nat.min_eq_left h]
  · have e1 : min S 64 = 64 := by omega
    have e2 : y * 2 ^ S = y * 2 ^ (S - 64) * 18446744073709551616 := by
      have : S = (S - 64) + 64 := by omega
      conv => lhs; rw [this, Nat.pow_add]
      rw [← Nat.mul_assoc]
    have e3 : y * 2 ^ 64 = y * 18446744073709551616 := by rfl
    rw [e1, e2, e3, Nat.mul_mod_left, Nat.mul_mod_left]
set_option maxHeartbeats 8000000 in
set_option maxRecDepth 100000 in
theorem cRdDeltas (a : Option Addr) (c : Nat) (bs : List UInt8) (many : Nat) (w : World) (hs : Sees w a bs) (hl : bs.length ≤ c) (hm : c ≤ maxLen) (hb : bs.length ≤ 900000000000000) (hmn : many ≤ 64) :
    Calls Tryz.prog 46 #[.slice a bs.length c, .int .i64 many] w (RvP w (rpDl many bs)) := by
  obtain ⟨F, hFF⟩ : ∃ F, Hid (rpDl many bs = F) := ⟨_, rfl⟩
  rw [hFF.out]
  unfold maxLen at hm
  by_cases h8 : bs.length < 8
  · have hF : Hid (F = []) := by show _ = _; rw [← hFF.out]; unfold rpDl; rw [if_pos h8]
    have hfin : RvP w F (.returned (.slice none 0 0)) w := by rw [hF.out]; exact rvP_nil w w (Kp.refl _ _)
    have d1 : (bs.length : Int) < 8 := by omega
    clear hs hFF hF
    go_enter Tryz.func46, Tryz.ntmps46
    go_wp2_with fail
    go_ret
    exact hfin
  · have hF : Hid (rpD many (wordV bs) 0 0 [intV (wordV bs)] (bs.drop 8) = F) := by show _ = _; rw [← hFF.out]; unfold rpDl; rw [if_neg h8]
    obtain ⟨g, o, rfl, hc⟩ : ∃ g o, a = some ⟨g, o, none⟩ ∧ ∀ j u, bs[j]? = some u → w.cell? ⟨g, o + j, none⟩ = some (.int .u8 u.toNat) := by
      rcases hs with h | h
      · rw [h] at h8; simp at h8
      · exact h
    have h8' : 8 ≤ bs.length := by omega
    have cS := cRefSaid (some ⟨g, o, none⟩) 8 c (bs.take 8) w (hs.front 8) (by simp; omega) (by simp; omega)
    have hwv : Hid (wordV bs = wrap64 (num (bs.take 8))) := rfl
    have hnl := num_lt64 (bs.take 8) (by simp; omega)
    obtain ⟨N, hN⟩ : ∃ N, Hid (num (bs.take 8) = N) := ⟨_, rfl⟩
    rw [hN.out] at cS hwv hnl
    have hbd := wordV_bd bs
    obtain ⟨n, hn⟩ : ∃ n, Hid (wordV bs = n) := ⟨_, rfl⟩
    rw [hn.out] at hF hwv hbd
    have ew : wrap64 (N : Int) = n := hwv.out.symm
    have hcx : Hid (∀ W, Kp [] w W → ∀ A (hA : A < bs.length), W.cell? ⟨g, o + A, none⟩ = some (.int .u8 (bs[A]'hA).toNat)) := fun W kW A hA => kpAt kW (hc A _ (by simp [hA]))
    have I0 := hid (NwV.one w w (Kp.refl _ _) (intV n) 30)
    have d1 : ¬ (bs.length : Int) < 8 := by omega
    have d8 : (8 : Int) ≤ (c : Int) := by omega
    unfold intV at I0
    dsimp only at I0
    have hbd' := hid hbd
    clear hs hFF hc hN hn hwv hbd
    go_enter Tryz.func46, Tryz.ntmps46
    go_wp2_with fail
    refine cS.mono ?_
    rintro e w9 ⟨rfl, hw9⟩
    rw [hw9]
    clear hw9 w9 cS
    go_wp2_with fail
    rw [ew]
    go_loopw [5, 6, 7, 8, 9] (fun v5 v6 v7 v8 v9 wn => ∃ (A z S : Nat) (n : Int) (la : Option Addr) (lc : Nat) (acc : List Val), A ≤ bs.length ∧ v9 = .int .i64 A ∧ v8 = .int .i64 S ∧ S ≤ 7 * A ∧ v7 = .int .u64 z ∧ z < 18446744073709551616 ∧ v5 = .int .i64 n ∧ -9223372036854775808 ≤ n ∧ n < 9223372036854775808 ∧ v6 = .slice la acc.length lc ∧ acc.length ≤ A ∧ NwV w wn la lc acc ∧ Hid (rpD many n z S acc (bs.drop A) = F)) (fun _ _ _ _ v9 _ => bs.length - (intOf v9).toNat)
    case atStart => exact ⟨8, 0, 0, n, _, 1, [intV n], h8', rfl, rfl, by omega, rfl, by omega, rfl, hbd'.out.1, hbd'.out.2, rfl, by simp, I0.out, hF⟩
    case round =>
      clear I0 hF ew hnl hbd'
      obtain ⟨A, z, S, n, la, lc, acc, hA, rfl, rfl, hS, rfl, hz, rfl, hn1, hn2, rfl, hal, I, hF⟩ := hrel
      by_cases hlt : A < bs.length
      · have dA : (A : Int) < (bs.length : Int) := by omega
        rw [dropCons hlt, rpD] at hF
        by_cases hmo : many ≤ acc.length
        · rw [if_pos hmo] at hF
          have hfin : RvP w F (.returned (.slice la acc.length lc)) wr := by rw [← hF.out]; exact ⟨la, lc, rfl, I⟩
          have dm : ¬ (acc.length : Int) < (many : Int) := by omega
          have dm2 : ¬ acc.length < many := by omega
          clear I hF
          go_wp2_with fail
          go_ret
          exact hfin
        · rw [if_neg hmo] at hF
          have dm : (acc.length : Int) < (many : Int) := by omega
          have dm2 : acc.length < many := by omega
          have hcb := hcx.out wr I.kp A hlt
          have hzz : Hid (zz z S (bs[A]'hlt) = (z + (bs[A]'hlt).toNat % 128 * 2 ^ S % 18446744073709551616) % 18446744073709551616) := rfl
          have hzl := zz_lt z S (bs[A]'hlt)
          have hx := (bs[A]'hlt).toNat_lt
          obtain ⟨Zv, hZv⟩ : ∃ Zv, Hid (zz z S (bs[A]'hlt) = Zv) := ⟨_, rfl⟩
          rw [hZv.out] at hF hzz hzl
          generalize (bs[A]'hlt).toNat = x at *
          have ez : IntKind.u64.wrap ((z : Int) + IntKind.u64.wrap ((x : Int) % 128 * 2 ^ min S 64)) = (Zv : Int) := by
            have e2 : (x : Int) % 128 * 2 ^ min S 64 = ((x % 128 * 2 ^ min S 64 : Nat) : Int) := by simp
            have e3 := pow_min (x % 128) S
            rw [e2, hzz.out, ← e3, IntKind.wrap_u64, IntKind.wrap_u64]
            omega
          have hI := hid I
          clear I hzz hZv
          by_cases hx8 : 128 ≤ x
          · rw [if_pos hx8] at hF
            have d128 : (128 : Int) ≤ (x : Int) := by omega
            have hN : Hid (∃ (A' z' S' : Nat) (n' : Int) (la' : Option Addr) (lc' : Nat) (acc' : List Val), A' ≤ bs.length ∧ (.int .i64 ((A : Int) + 1) : Value) = .int .i64 A' ∧ (.int .i64 ((S : Int) + 7) : Value) = .int .i64 S' ∧ S' ≤ 7 * A' ∧ (.int .u64 (Zv : Int) : Value) = .int .u64 z' ∧ z' < 18446744073709551616 ∧ (.int .i64 n : Value) = .int .i64 n' ∧ -9223372036854775808 ≤ n' ∧ n' < 9223372036854775808 ∧ (.slice la acc.length lc : Value) = .slice la' acc'.length lc' ∧ acc'.length ≤ A' ∧ NwV w wr la' lc' acc' ∧ Hid (rpD many n' z' S' acc' (bs.drop A') = F)) :=
              ⟨A + 1, Zv, S + 7, n, la, lc, acc, by omega, by go_num, by go_num, by omega, rfl, hzl, rfl, hn1, hn2, rfl, by omega, hI.out, hF⟩
            clear hI hF
            go_wp2_with fail
            exact ⟨hN.out, by simp [intOf]; omega⟩
          · rw [if_neg hx8] at hF
            have d128 : ¬ (128 : Int) ≤ (x : Int) := by omega
            have hNb := wrap64_bd (n + zag Zv)
            have hgo : Hid (∀ (m : Int), m = IntKind.i64.wrap (n + zag Zv) → ∃ v3 X3, (Builtin.append_ #[23, 23] 23 #[.slice la acc.length lc, .slice (some ⟨wr.heap.size, 0, none⟩) 1 1]).run Tryz.prog (wr.alloc (.cells #[.int .i64 2, .bool false, .int .i64 m, .string ⟨#[]⟩] 30)) = .ok v3 X3 ∧ ∃ a3 c3, v3 = .slice a3 (acc.length + 1) c3 ∧ ∃ (A' z' S' : Nat) (n' : Int) (la' : Option Addr) (lc' : Nat) (acc' : List Val), A' ≤ bs.length ∧ (.int .i64 ((A : Int) + 1) : Value) = .int .i64 A' ∧ (.int .i64 0 : Value) = .int .i64 S' ∧ S' ≤ 7 * A' ∧ (.int .u64 0 : Value) = .int .u64 z' ∧ z' < 18446744073709551616 ∧ (.int .i64 m : Value) = .int .i64 n' ∧ -9223372036854775808 ≤ n' ∧ n' < 9223372036854775808 ∧ (.slice a3 (acc.length + 1) c3 : Value) = .slice la' acc'.length lc' ∧ acc'.length ≤ A' ∧ NwV w X3 la' lc' acc' ∧ Hid (rpD many n' z' S' acc' (bs.drop A') = F)) := fun m hm' => by
              obtain ⟨v3, X3, hrun3, a3, c3, rfl, I3, _⟩ := hI.out.app1 (intV m) (by omega)
              rw [← hm'] at hF hNb
              exact ⟨_, X3, hrun3, a3, c3, rfl, A + 1, 0, 0, m, a3, c3, acc ++ [intV m], by omega, by go_num, rfl, by omega, rfl, by omega, rfl, hNb.1, hNb.2, by simp, by simp; omega, I3, hF⟩
            by_cases hev : Zv % 2 = 0
            · have ezg := zag_pos hev
              have e1 : ((Zv : Int) % 2 == 0) = true := by simp; omega
              have hm' : wrap64 (n + (Zv : Int) / 2) = IntKind.i64.wrap (n + zag Zv) := by rw [ezg, IntKind.wrap_i64]; unfold wrap64; omega
              obtain ⟨m, hmm⟩ : ∃ m, wrap64 (n + (Zv : Int) / 2) = m := ⟨_, rfl⟩
              obtain ⟨v3, X3, hrun3, a3, c3, rfl, hN⟩ := hgo.out m (by rw [← hmm, hm'])
              have hN' := hid hN
              have hmm2 : IntKind.i64.wrap (n + (Zv : Int) / 2) = m := by rw [← hmm, IntKind.wrap_i64]; unfold wrap64; omega
              clear hgo hI hF hN hm' ezg
              go_wp2_with (first | (refine wpAppRun rfl _ _ 23 23 rfl _ _ _ rfl rfl hrun3 ?_) | fail)
              exact ⟨hN'.out, by simp [intOf]; omega⟩
            · have ezg := zag_neg hev
              have hod : Zv % 2 = 1 := by omega
              have e1 : ((Zv : Int) % 2 == 0) = false := by rw [beq_eq_false_iff_ne]; omega
              have hm' : wrap64 (wrap64 (n - (Zv : Int) / 2) - 1) = IntKind.i64.wrap (n + zag Zv) := by rw [ezg, IntKind.wrap_i64]; unfold wrap64; omega
              obtain ⟨m, hmm⟩ : ∃ m, wrap64 (wrap64 (n - (Zv : Int) / 2) - 1) = m := ⟨_, rfl⟩
              obtain ⟨v3, X3, hrun3, a3, c3, rfl, hN⟩ := hgo.out m (by rw [← hmm, hm'])
              have hN' := hid hN
              clear hgo hI hF hN hm' ezg
              go_wp2_with (first | (refine wpAppRun rfl _ _ 23 23 rfl _ _ _ rfl rfl hrun3 ?_) | fail)
              exact ⟨hN'.out, by simp [intOf]; omega⟩
      · obtain rfl : A = bs.length := by omega
        rw [List.drop_length, rpD] at hF
        have hfin : RvP w F (.returned (.slice la acc.length lc)) wr := by rw [← hF.out]; exact ⟨la, lc, rfl, I⟩
        clear I hF
        go_wp2_with fail
        go_ret
        exact hfin
end Go.Proofs.YtohbdbecioanaaaGreatDoor
end

section
namespace Go.Proofs.YtohbdbecioanaaaGreatDoor
open Go.RowKit Go.Hay
set_option linter.unusedVariables false
set_option linter.unusedSimpArgs false

/-- A number's upper bits, so many of them. -/
def hnb (bs : List UInt8) (wd i : Nat) : Nat → Nat
  | 0 => 0
  | m + 1 => 2 * hnb bs wd i m + bitAt bs (i * wd + (wd - 1 - m))
theorem hnb_lt (bs : List UInt8) (wd i : Nat) : ∀ m, hnb bs wd i m < 2 ^ m
  | 0 => by simp [hnb]
  | m + 1 => by
    have h1 := hnb_lt bs wd i m
    have h2 := bitAt_lt bs (i * wd + (wd - 1 - m))
    rw [hnb, Nat.pow_succ]
    omega
theorem hnb_num (bs : List UInt8) (wd i : Nat) : ∀ m, m ≤ wd → numTo bs wd i (wd - m) + 2 ^ (wd - m) * hnb bs wd i m = numTo bs wd i wd
  | 0, _ => by simp [hnb]
  | m + 1, h => by
    have ih := hnb_num bs wd i m (by omega)
    have e : wd - m = (wd - (m + 1)) + 1 := by omega
    rw [e, numTo, Nat.pow_succ, show wd - (m + 1) = wd - 1 - m by omega] at ih
    rw [hnb, show wd - (m + 1) = wd - 1 - m by omega, ← ih, Nat.mul_add]
    have e2 : 2 ^ (wd - 1 - m) * bitAt bs (i * wd + (wd - 1 - m)) = bitAt bs (i * wd + (wd - 1 - m)) * 2 ^ (wd - 1 - m) := Nat.mul_comm _ _
    have e3 : 2 ^ (wd - 1 - m) * (2 * hnb bs wd i m) = 2 ^ (wd - 1 - m) * 2 * hnb bs wd i m := by rw [Nat.mul_assoc]
    rw [e2, e3]
    omega
theorem hnb_all (bs : List UInt8) (wd i : Nat) : hnb bs wd i wd = numTo bs wd i wd := by
  have := hnb_num bs wd i wd (Nat.le_refl _)
  rw [Nat.sub_self, show numTo bs wd i 0 = 0 from rfl, Nat.pow_zero, Nat.one_mul, Nat.zero_add] at this
  exact this
set_option maxHeartbeats 4000000 in
set_option maxRecDepth 100000 in
theorem cUnpacked (a : Option Addr) (c : Nat) (bs : List UInt8) (wd i : Nat) (w : World) (hs : Sees w a bs) (hb : bs.length ≤ 900000000000000) (hwd : wd ≤ 64) (hi : i ≤ 64) (hin : i * wd + wd ≤ 8 * bs.length) :
    Calls Tryz.prog 75 #[.slice a bs.length c, .int .i64 wd, .int .i64 i] w fun e w' => e = .returned (.int .u64 (numTo bs wd i wd : Int)) ∧ w' = w := by
  obtain ⟨F, hF⟩ : ∃ F, Hid (numTo bs wd i wd = F) := ⟨_, rfl⟩
  rw [hF.out]
  obtain ⟨M, hM⟩ : ∃ M, Hid (i * wd = M) := ⟨_, rfl⟩
  have hMe : (i : Int) * (wd : Int) = (M : Int) := by rw [← hM.out]; simp
  rw [hM.out] at hin
  have hMb : M ≤ 4096 := by rw [← hM.out]; exact Nat.mul_le_mul hi hwd
  have hat : Hid (∀ j (hj : j < bs.length), ∃ g o, a = some ⟨g, o, none⟩ ∧ w.cell? ⟨g, o + j, none⟩ = some (.int .u8 bs[j].toNat)) := fun j hj => by
    rcases hs with h | ⟨g, o, h, hc⟩
    · rw [h] at hj; simp at hj
    · exact ⟨g, o, h, hc j bs[j] (by simp [hj])⟩
  clear hs
  go_enter Tryz.func75, Tryz.ntmps75
  go_wp2_with fail
  go_loopw [7, 8] (fun v7 v8 wn => ∃ m n : Nat, m ≤ wd ∧ v8 = .int .i64 ((wd : Int) - 1 - (m : Int)) ∧ v7 = .int .u64 (n : Int) ∧ Hid (n = hnb bs wd i m) ∧ wn = w) (fun _ v8 _ => (intOf v8 + 1).toNat)
  case atStart => exact ⟨0, 0, Nat.zero_le _, by congr 1; omega, rfl, rfl, rfl⟩
  case round =>
    obtain ⟨m, n, hm, rfl, rfl, hn, rfl⟩ := hrel
    by_cases hlt : m < wd
    · obtain ⟨K, hK⟩ : ∃ K, Hid (wd - 1 - m = K) := ⟨_, rfl⟩
      have eK : (wd : Int) - 1 - (m : Int) = (K : Int) := by have := hK.out; omega
      have hKw : K < wd := by have := hK.out; omega
      have hnl : n < 2 ^ m := by rw [hn.out]; exact hnb_lt bs wd i m
      have hn63 : n < 9223372036854775808 := Nat.lt_of_lt_of_le hnl (Nat.le_trans (Nat.pow_le_pow_right (n := 2) (by omega) (show m ≤ 63 by omega)) (by decide))
      obtain ⟨q, hq⟩ : ∃ q, (M + K) / 8 = q := ⟨_, rfl⟩
      obtain ⟨r, hr⟩ : ∃ r, (M + K) % 8 = r := ⟨_, rfl⟩
      have eq1 : ((M : Int) + (K : Int)) / 8 = (q : Int) := by omega
      have eq2 : ((M : Int) + (K : Int)) % 8 = (r : Int) := by omega
      have hqs : q < bs.length := by omega
      obtain ⟨g, o, rfl, hcx⟩ := hat.out q hqs
      have hbit : Hid (bitAt bs (i * wd + (wd - 1 - m)) = bs[q].toNat / 2 ^ r % 2) := by
        show _ = _
        unfold bitAt
        rw [hM.out, hK.out, hq, hr]
        simp [hqs]
      have hx := bs[q].toNat_lt
      generalize bs[q].toNat = x at *
      obtain ⟨y, hy⟩ : ∃ y, Hid (x / 2 ^ r = y) := ⟨_, rfl⟩
      have hyl : y < 256 := by rw [← hy.out]; exact Nat.lt_of_le_of_lt (Nat.div_le_self _ _) hx
      have ey : (x : Int) / 2 ^ r = (y : Int) := by rw [← hy.out]; simp
      have hns : Hid (hnb bs wd i (m + 1) = 2 * n + y % 2) := by show _ = _; rw [hnb, hbit.out, hn.out, hy.out]
      have d0 : (0 : Int) ≤ (K : Int) := by omega
      have hnx : Hid (∃ m' n' : Nat, m' ≤ wd ∧ (.int .i64 ((K : Int) - 1) : Value) = .int .i64 ((wd : Int) - 1 - (m' : Int)) ∧ (.int .u64 ((n : Int) * 2 + (y : Int) % 2) : Value) = .int .u64 (n' : Int) ∧ Hid (n' = hnb bs wd i m') ∧ True) :=
        ⟨m + 1, 2 * n + y % 2, by omega, by rw [← eK]; congr 1; omega, by go_num, by show _ = _; rw [hns.out], trivial⟩
      rw [eK]
      clear hns hbit hn hy hnl
      go_wp2_with fail

      exact ⟨hnx.out, by simp [intOf]⟩
    · obtain rfl : m = wd := by omega
      have hnF : Hid (F = n) := by show _ = _; rw [hn.out, hnb_all]; exact hF.out.symm
      have e1 : (m : Int) - 1 - (m : Int) = -1 := by omega
      rw [e1]
      clear hn
      go_wp2_with fail
      go_ret
      exact ⟨by rw [hnF.out]; rfl, rfl⟩
end Go.Proofs.YtohbdbecioanaaaGreatDoor
end

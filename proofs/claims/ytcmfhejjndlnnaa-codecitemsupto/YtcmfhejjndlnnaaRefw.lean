/- The reference's GetVar. -/
import Derived.Test.YtcmfhejjndlnnaaRefg
import Derived.Deep.RegionHeld3
namespace Go.Proofs.Ytcmfhejjndlnnaa
open Go.RowKit Go.Hay
set_option linter.unusedVariables false

theorem Box3.drew {w : World} {q : Nat} {a b c : Value} (h : Box3 w q a b c) : Box3 w.drew q a b c := ⟨h.c0, h.c1, h.c2, h.free⟩
theorem gv_big (f : UInt8) (r : List UInt8) (n : Int) (k : Nat) (hf : 253 ≤ f.toNat) (hk : behindI f.toNat = (k : Int)) (hl : k ≤ r.length) (hn : n = num (r.take k)) :
    ((varB n).length = 1 + k → fv (f :: r) = (n, ((1 + k : Nat) : Int), 0)) ∧ ((varB n).length ≠ 1 + k → ∀ m, varS m (f :: r) 0 = (0, f :: r, 11)) := by
  have hf2 := f.toNat_lt
  have h0 : 0 ≤ n := by omega
  have hkp : behindI f.toNat ≠ 0 := by unfold behindI; repeat (first | split | omega)
  have hlen := varB_len n
  have hiff := lead_of_behind n f.toNat h0 hf (by omega)
  rw [hk] at hiff hkp
  have e : fv (f :: r) = if leadI n ≠ f.toNat then (0, 0, 11) else (n, 1 + (k : Int), 0) := by
    simp only [fv, hk, Int.toNat_natCast]
    rw [if_neg hkp, if_neg (by omega), ← hn]
  refine ⟨fun h => ?_, fun h m => ?_⟩
  · rw [e, if_neg (by rw [Decidable.not_not]; exact hiff.1 (by omega))]
    simp
  · have e' : fv (f :: r) = (0, 0, 11) := by rw [e, if_pos (fun hh => h (by have := hiff.2 hh; omega))]
    unfold varS
    rw [e']
    simp
theorem gv_short (f : UInt8) (r : List UInt8) (k : Nat) (hk : behindI f.toNat = (k : Int)) (hk0 : k ≠ 0) (hl : r.length < k) (m : Int) : varS m (f :: r) 0 = (0, f :: r, 10) := by
  unfold varS
  simp only [fv, hk]
  rw [if_neg (show ¬ ((k : Int) = 0) by omega), if_pos (show (r.length : Int) < k by omega)]
  simp

/-- What GetVar leaves. -/
def GetVarPost (b : Option Addr) (cb : Nat) (full : List UInt8) (at' : Nat) (e0 most : Int) (neg : Bool) (w : World) (e : Ending) (w' : World) : Prop :=
  ∃ (n : Int) (at2 : Nat) (e2 : Int), gvS most neg (full.drop at') e0 = (n, full.drop at2, e2) ∧ 0 ≤ n ∧ n < 18446744073709551616 ∧ at2 ≤ full.length ∧ e = .returned (.tuple #[.agg #[.slice b full.length cb, .int .i64 at2, .int .i64 e2], .int .u64 n]) ∧ Kp [] w w'

set_option maxHeartbeats 40000000 in
set_option maxRecDepth 100000 in
theorem cRefGetVar (b : Option Addr) (cb : Nat) (full : List UInt8) (at' : Nat) (e0 most : Int) (neg : Bool) (w : World) (hs : Sees w b full) (hl : full.length ≤ cb) (hm : cb ≤ maxLen) (ha : at' ≤ full.length) (hb : full.length ≤ 200000000000000) (hm0 : 0 ≤ most) (hm1 : most < 18446744073709551616) :
    Calls Try.prog 24 #[.agg #[.slice b full.length cb, .int .i64 at', .int .i64 e0], .int .u64 most, .bool neg] w (GetVarPost b cb full at' e0 most neg w) := by
  have kx : Kp [] w ((w.alloc (.cells #[.slice b full.length cb, .int .i64 at', .int .i64 e0] 31)).alloc (.cells #[.slice none 0 0, .int .i64 0, .int .i64 0] 31)) := ((Kp.refl _ _).alloc _).alloc _
  have bA := (Box3.new w (.slice b full.length cb) (.int .i64 at') (.int .i64 e0) 31).kept (S := []) ((Kp.refl _ _).alloc (.cells #[.slice none 0 0, .int .i64 0, .int .i64 0] 31)) (by simp)
  have bB := Box3.new (w.alloc (.cells #[.slice b full.length cb, .int .i64 at', .int .i64 e0] 31)) (.slice none 0 0) (.int .i64 0) (.int .i64 0) 31
  rw [show (w.alloc (.cells #[.slice b full.length cb, .int .i64 at', .int .i64 e0] 31)).heap.size = w.heap.size + 1 by simp] at bB
  go_enter Try.func24, Try.ntmps24
  go_wp2_with fail
  refine (cRefGet b cb full at' e0 1 _ (hs.kept kx (by simp)) hl hm ha hb (by omega)).mono ?_
  rintro e w1 ⟨out, at1, e1, ht, ha1, rfl, k1⟩
  have bA1 := bA.kept k1 (by simp)
  have bB1 := bB.kept k1 (by simp)
  have kw1 := kx.trans k1 (by simp)
  have hQ1 : w.heap.size + 2 ≤ w1.heap.size := by have := k1.size; simpa using this
  have qa0 := bA1.c0
  have qa1 := bA1.c1
  have qa2 := bA1.c2
  have qaf := bA1.free
  have qb0 := bB1.c0
  have qb1 := bB1.c1
  have qb2 := bB1.c2
  have qbf := bB1.free
  have hne1 : w.heap.size < w1.heap.size := by omega
  have hne2 : w.heap.size + 1 < w1.heap.size := by omega
  clear bA bB kx k1
  by_cases he1 : e1 = 0
  · subst he1
    obtain ⟨h00, hlen, hout, hdrop⟩ := takeS_ok _ _ _ ht
    subst h00
    obtain ⟨f, rest, hfr⟩ : ∃ f rest, full.drop at' = f :: rest := by
      cases hq : full.drop at' with
      | nil => rw [hq] at hlen; simp at hlen
      | cons f rest => exact ⟨f, rest, rfl⟩
    have HA1 := hid (show at1 = at' + 1 by
      have h1 := congrArg List.length hdrop
      simp at h1 hlen
      omega)
    have HR := hid (show full.drop at1 = rest by rw [hdrop, hfr]; rfl)
    have hout1 : out = [f] := by rw [hout, hfr]; rfl
    subst hout1
    have hnumf : num [f] = f.toNat := by simp [num]
    rw [hnumf]
    have hf := f.toNat_lt
    have HFR := hid hfr
    clear hout hdrop hlen ht hnumf hfr
    by_cases h253 : f.toNat < 253
    · have HG := hid (show (varB (f.toNat : Int)).length = at1 - at' → fv (full.drop at') = ((f.toNat : Int), ((at1 - at' : Nat) : Int), 0) from fun _ => by rw [HFR.out, fv_f f rest h253, show at1 - at' = 1 by have := HA1.out; omega]; rfl)
      have HB := hid (show (varB (f.toNat : Int)).length ≠ at1 - at' → ∀ m, varS m (full.drop at') 0 = (0, full.drop at', 11) from fun h => absurd (by rw [varB_small _ (by omega) (by omega)]; have := HA1.out; simp; omega) h)
      have hle : at' ≤ at1 := by have := HA1.out; omega
      have hn0 : (0 : Int) ≤ (f.toNat : Int) := by omega
      have hn1 : (f.toNat : Int) < 18446744073709551616 := by omega
      generalize hfn : (f.toNat : Int) = n at *
      have h253' : n < 253 := by omega
      clear hfn h253 hf
      go_wp2_with fail
      have kA := (Kp.refl [] w1).alloc (.cells #[.slice b full.length cb, .int .i64 at1, .int .i64 0] 31)
      have bS := Box3.new w1 (.slice b full.length cb) (.int .i64 at1) (.int .i64 0) 31
      have bA := bA1.kept kA (by simp)
      have bB := bB1.kept kA (by simp)
      have kW := kw1.trans kA (by simp)
      clear qa0 qa1 qa2 qaf qb0 qb1 qb2 qbf bA1 bB1 kA kw1 hne1 hne2 h253'
      generalize (w1.alloc (.cells #[.slice b full.length cb, .int .i64 at1, .int .i64 0] 31)) = W at *
      generalize w1.heap.size = q at *
      have hmq : at1 ≤ full.length := ha1
      have hbA := bA.c1
      have hbS := bS.c1
      have HL9 := hid (varB_length n).1
      have HLv := hid (rfl : (varB n).length = (varB n).length)
      generalize hLv : (varB n).length = L at *
      have HL := hid hLv
      clear hLv HLv
      obtain ⟨D, HD⟩ : ∃ D : Nat, Hid (D = at1 - at') := ⟨_, rfl⟩
      have hwr : IntKind.i64.wrap ((at1 : Int) - (at' : Int)) = (D : Int) := by
        have := HD.out
        rw [show ((at1 : Int) - (at' : Int)) = (D : Int) by omega]
        rw [IntKind.wrap_i64]; omega
      go_region_held3 (fun w' => w'.cell? ⟨w.heap.size, 1, none⟩ = some (.int .i64 at') ∧ w'.cell? ⟨q, 1, none⟩ = some (.int .i64 at1)) (go_keep)
        (first | (go_at_call 38; refine (cRefVar n _ hn0 hn1).mono ?_; rintro e w4 ⟨v, rfl, hrow, k4, ho⟩; obtain ⟨a4, c4, rfl, hle4⟩ := hrow.shape; have hbA4 := (bA.drew.kept k4 (by simp)).c1; have hbS4 := (bS.drew.kept k4 (by simp)).c1; rw [HL.out]))
      all_goals
        have bA4 := (bA.drew.kept k4 (by simp))
        have bB4 := (bB.drew.kept k4 (by simp))
        have bS4 := (bS.drew.kept k4 (by simp))
        have kW4 := kW.drew.trans k4 (by simp)
        clear hrow k4 ho hbA4 hbS4 bA bB bS kW hbA hbS
        have xa0 := bA4.c0
        have xa1 := bA4.c1
        have xa2 := bA4.c2
        have xaf := bA4.free
        have xb0 := bB4.c0
        have xb1 := bB4.c1
        have xb2 := bB4.c2
        have xbf := bB4.free
        have xs0 := bS4.c0
        have xs1 := bS4.c1
        have xs2 := bS4.c2
        have hL9 := HL9.out
        clear bA4 bS4 bB4
        have h0 : w.heap.size ≤ w.heap.size := by omega
        have h1 : w.heap.size ≤ w.heap.size + 1 := by omega
        by_cases hform : L = D
        · have hfv := hid (HG.out (by rw [hform, HD.out]))
          have HN := hid (gvS_num most neg (full.drop at') (full.drop at1) n _ hfv.out hn1 (by rw [List.drop_drop, Int.toNat_natCast]; congr 1; omega))
          have hee : ((L : Int) != (D : Int)) = false := by rw [hform]; simp
          clear hfv HG HB hform
          by_cases hng : neg = true ∨ most < n
          · have HN' := hid (show gvS most neg (full.drop at') 0 = (0, full.drop at', 12) by rw [HN.out, if_pos hng])
            clear HN
            rcases hng with hng | hng
            · subst hng
              go_wp2_with fail
              exact bodyPost_ret (v := .tuple #[.agg #[.slice b full.length cb, .int .i64 at', .int .i64 12], .int .u64 0]) (by simp [results, Try.results24, go_sem, xb0, xb1, xb2]) rfl ⟨0, at', 12, HN'.out, by omega, by omega, ha, rfl, (((kW4.setCell (.inr h0) _).setCell (.inr h1) _).setCell (.inr h1) _).setCell (.inr h1) _⟩
            · cases neg
              all_goals
                go_wp2_with fail
                exact bodyPost_ret (v := .tuple #[.agg #[.slice b full.length cb, .int .i64 at', .int .i64 12], .int .u64 0]) (by simp [results, Try.results24, go_sem, xb0, xb1, xb2]) rfl ⟨0, at', 12, HN'.out, by omega, by omega, ha, rfl, (((kW4.setCell (.inr h0) _).setCell (.inr h1) _).setCell (.inr h1) _).setCell (.inr h1) _⟩
          · have HN' := hid (show gvS most neg (full.drop at') 0 = (n, full.drop at1, 0) by rw [HN.out, if_neg hng])
            clear HN
            have hng1 : neg = false := by cases neg <;> simp_all
            have hng2 : ¬ (most < n) := fun h => hng (.inr h)
            clear hng
            subst hng1
            go_wp2_with fail
            exact bodyPost_ret (v := .tuple #[.agg #[.slice b full.length cb, .int .i64 at1, .int .i64 0], .int .u64 n]) (by simp [results, Try.results24, go_sem, xb0, xb1, xb2]) rfl ⟨n, at1, 0, HN'.out, hn0, hn1, hmq, rfl, ((kW4.setCell (.inr h1) _).setCell (.inr h1) _).setCell (.inr h1) _⟩
        · have hvb := hid (HB.out (fun h => hform (by rw [h, HD.out])))
          have HN := hid (show gvS most neg (full.drop at') 0 = (0, full.drop at', 11) from gvS_bad _ _ _ _ _ (by omega) hvb.out)
          have hneq : ((L : Int) != (D : Int)) = true := by simp; omega
          clear hvb HG HB hform
          go_wp2_with fail
          exact bodyPost_ret (v := .tuple #[.agg #[.slice b full.length cb, .int .i64 at', .int .i64 11], .int .u64 0]) (by simp [results, Try.results24, go_sem, xb0, xb1, xb2]) rfl ⟨0, at', 11, HN.out, by omega, by omega, ha, rfl, (((kW4.setCell (.inr h0) _).setCell (.inr h1) _).setCell (.inr h1) _).setCell (.inr h1) _⟩
    · have hsp : f.toNat = 253 ∨ f.toNat = 254 ∨ f.toNat = 255 := by omega
      rcases hsp with h | h | h
      · rw [h]
        have HK := hid (show behindI f.toNat = ((2 : Nat) : Int) by rw [h]; rfl)
        have HF := hid h
        clear h hf h253
        go_wp2_with fail
        have kA := (Kp.refl [] w1).alloc (.cells #[.slice b full.length cb, .int .i64 at1, .int .i64 0] 31)
        refine (cRefGet b cb full at1 0 2 _ (hs.kept (kw1.trans kA (by simp)) (by simp)) hl hm ha1 hb (by omega)).mono ?_
        rintro e w2 ⟨out2, at2, e2, ht2, ha2, rfl, k2⟩
        have bS := (Box3.new w1 (.slice b full.length cb) (.int .i64 at1) (.int .i64 0) 31).kept k2 (by simp)
        have bA := (bA1.kept kA (by simp)).kept k2 (by simp)
        have bB := (bB1.kept kA (by simp)).kept k2 (by simp)
        have kW := (kw1.trans kA (by simp)).trans k2 (by simp)
        clear qa0 qa1 qa2 qaf qb0 qb1 qb2 qbf bA1 bB1 kA k2 kw1 hne1 hne2
        generalize w1.heap.size = q at *
        have qa0 := bA.c0
        have qa1 := bA.c1
        have qa2 := bA.c2
        have qaf := bA.free
        have qb0 := bB.c0
        have qb1 := bB.c1
        have qb2 := bB.c2
        have qbf := bB.free
        have qs0 := bS.c0
        have qs1 := bS.c1
        have qs2 := bS.c2
        have qsf := bS.free
        have hd1 : ¬ (w.heap.size = q) := by omega
        have hd2 : ¬ (q = w.heap.size) := by omega
        have hd3 : ¬ (w.heap.size + 1 = q) := by omega
        have hd4 : ¬ (q = w.heap.size + 1) := by omega
        have hq : w.heap.size ≤ q := by omega
        have h0 : w.heap.size ≤ w.heap.size := by omega
        have h1 : w.heap.size ≤ w.heap.size + 1 := by omega
        by_cases he2 : e2 = 0
        · subst he2
          obtain ⟨_, hlen, hout, hdrop⟩ := takeS_ok _ _ _ ht2
          have HA2 := hid (show at2 = at1 + 2 by
            have h1 := congrArg List.length hdrop
            simp at h1 hlen
            omega)
          have hle : at' ≤ at2 := by have := HA1.out; have := HA2.out; omega
          have hln : out2.length ≤ 8 := by rw [hout]; simp; omega
          have HGB := hid (gv_big f rest (num out2 : Int) 2 (by rw [HF.out]; omega) HK.out (by rw [← HR.out]; exact hlen) (by rw [hout, HR.out]))
          have hdif : at2 - at' = 1 + 2 := by have := HA1.out; have := HA2.out; omega
          have HG := hid (show (varB (num out2 : Int)).length = at2 - at' → fv (full.drop at') = ((num out2 : Int), ((at2 - at' : Nat) : Int), 0) from fun h => by rw [HFR.out, hdif]; exact HGB.out.1 (by omega))
          have HB := hid (show (varB (num out2 : Int)).length ≠ at2 - at' → ∀ m, varS m (full.drop at') 0 = (0, full.drop at', 11) from fun h => by rw [HFR.out]; exact HGB.out.2 (by omega))
          have hn0 : (0 : Int) ≤ (num out2 : Int) := by omega
          have hn1 : (num out2 : Int) < 18446744073709551616 := by have := num_lt64 out2 hln; omega
          generalize hfn : (num out2 : Int) = n at *
          clear hfn hln HGB hdif hout hdrop hlen ht2
          go_wp2_with fail
          obtain ⟨bS', ks⟩ := bS.setAll (.slice b full.length cb) (.int .i64 at2) (.int .i64 0)
          replace bA := bA.kept ks (by simp; omega)
          replace bB := bB.kept ks (by simp; omega)
          replace kW := kW.trans ks (fun x hx => .inr (by simp at hx; omega))
          clear qa0 qa1 qa2 qaf qb0 qb1 qb2 qbf qs0 qs1 qs2 qsf hd1 hd2 hd3 hd4 ks bS
          have bS := bS'
          clear bS'
          generalize (((w2.setCell ⟨q, 0, none⟩ (.slice b full.length cb)).setCell ⟨q, 1, none⟩ (.int .i64 at2)).setCell ⟨q, 2, none⟩ (.int .i64 0)) = W at *
          have hmq : at2 ≤ full.length := ha2
          have hbA := bA.c1
          have hbS := bS.c1
          have HL9 := hid (varB_length n).1
          have HLv := hid (rfl : (varB n).length = (varB n).length)
          generalize hLv : (varB n).length = L at *
          have HL := hid hLv
          clear hLv HLv
          obtain ⟨D, HD⟩ : ∃ D : Nat, Hid (D = at2 - at') := ⟨_, rfl⟩
          have hwr : IntKind.i64.wrap ((at2 : Int) - (at' : Int)) = (D : Int) := by
            have := HD.out
            rw [show ((at2 : Int) - (at' : Int)) = (D : Int) by omega]
            rw [IntKind.wrap_i64]; omega
          go_region_held3 (fun w' => w'.cell? ⟨w.heap.size, 1, none⟩ = some (.int .i64 at') ∧ w'.cell? ⟨q, 1, none⟩ = some (.int .i64 at2)) (go_keep)
            (first | (go_at_call 38; refine (cRefVar n _ hn0 hn1).mono ?_; rintro e w4 ⟨v, rfl, hrow, k4, ho⟩; obtain ⟨a4, c4, rfl, hle4⟩ := hrow.shape; have hbA4 := (bA.drew.kept k4 (by simp)).c1; have hbS4 := (bS.drew.kept k4 (by simp)).c1; rw [HL.out]))
          all_goals
            have bA4 := (bA.drew.kept k4 (by simp))
            have bB4 := (bB.drew.kept k4 (by simp))
            have bS4 := (bS.drew.kept k4 (by simp))
            have kW4 := kW.drew.trans k4 (by simp)
            clear hrow k4 ho hbA4 hbS4 bA bB bS kW hbA hbS
            have xa0 := bA4.c0
            have xa1 := bA4.c1
            have xa2 := bA4.c2
            have xaf := bA4.free
            have xb0 := bB4.c0
            have xb1 := bB4.c1
            have xb2 := bB4.c2
            have xbf := bB4.free
            have xs0 := bS4.c0
            have xs1 := bS4.c1
            have xs2 := bS4.c2
            have hL9 := HL9.out
            clear bA4 bS4 bB4
            have h0 : w.heap.size ≤ w.heap.size := by omega
            have h1 : w.heap.size ≤ w.heap.size + 1 := by omega
            by_cases hform : L = D
            · have hfv := hid (HG.out (by rw [hform, HD.out]))
              have HN := hid (gvS_num most neg (full.drop at') (full.drop at2) n _ hfv.out hn1 (by rw [List.drop_drop, Int.toNat_natCast]; congr 1; omega))
              have hee : ((L : Int) != (D : Int)) = false := by rw [hform]; simp
              clear hfv HG HB hform
              by_cases hng : neg = true ∨ most < n
              · have HN' := hid (show gvS most neg (full.drop at') 0 = (0, full.drop at', 12) by rw [HN.out, if_pos hng])
                clear HN
                rcases hng with hng | hng
                · subst hng
                  go_wp2_with fail
                  exact bodyPost_ret (v := .tuple #[.agg #[.slice b full.length cb, .int .i64 at', .int .i64 12], .int .u64 0]) (by simp [results, Try.results24, go_sem, xb0, xb1, xb2]) rfl ⟨0, at', 12, HN'.out, by omega, by omega, ha, rfl, (((kW4.setCell (.inr h0) _).setCell (.inr h1) _).setCell (.inr h1) _).setCell (.inr h1) _⟩
                · cases neg
                  all_goals
                    go_wp2_with fail
                    exact bodyPost_ret (v := .tuple #[.agg #[.slice b full.length cb, .int .i64 at', .int .i64 12], .int .u64 0]) (by simp [results, Try.results24, go_sem, xb0, xb1, xb2]) rfl ⟨0, at', 12, HN'.out, by omega, by omega, ha, rfl, (((kW4.setCell (.inr h0) _).setCell (.inr h1) _).setCell (.inr h1) _).setCell (.inr h1) _⟩
              · have HN' := hid (show gvS most neg (full.drop at') 0 = (n, full.drop at2, 0) by rw [HN.out, if_neg hng])
                clear HN
                have hng1 : neg = false := by cases neg <;> simp_all
                have hng2 : ¬ (most < n) := fun h => hng (.inr h)
                clear hng
                subst hng1
                go_wp2_with fail
                exact bodyPost_ret (v := .tuple #[.agg #[.slice b full.length cb, .int .i64 at2, .int .i64 0], .int .u64 n]) (by simp [results, Try.results24, go_sem, xb0, xb1, xb2]) rfl ⟨n, at2, 0, HN'.out, hn0, hn1, hmq, rfl, ((kW4.setCell (.inr h1) _).setCell (.inr h1) _).setCell (.inr h1) _⟩
            · have hvb := hid (HB.out (fun h => hform (by rw [h, HD.out])))
              have HN := hid (show gvS most neg (full.drop at') 0 = (0, full.drop at', 11) from gvS_bad _ _ _ _ _ (by omega) hvb.out)
              have hneq : ((L : Int) != (D : Int)) = true := by simp; omega
              clear hvb HG HB hform
              go_wp2_with fail
              exact bodyPost_ret (v := .tuple #[.agg #[.slice b full.length cb, .int .i64 at', .int .i64 11], .int .u64 0]) (by simp [results, Try.results24, go_sem, xb0, xb1, xb2]) rfl ⟨0, at', 11, HN.out, by omega, by omega, ha, rfl, (((kW4.setCell (.inr h0) _).setCell (.inr h1) _).setCell (.inr h1) _).setCell (.inr h1) _⟩
        · have hno := takeS_no _ _ _ ht2 he2
          have hat : at2 = at1 := drop_inj full at2 at1 ha2 ha1 hno.2.1
          have hsh : (full.drop at1).length < 2 ∧ e2 = 10 := by
            rcases hno.2.2 with ⟨h1, h2⟩ | ⟨h1, h2, h3⟩
            · exact absurd rfl h1
            · exact ⟨h2, h3⟩
          have HG := hid (show gvS most neg (full.drop at') 0 = (0, full.drop at', e2) from gvS_bad _ _ _ _ _ he2 (fun m => by
            rw [HFR.out, hsh.2]
            exact gv_short f rest 2 HK.out (by omega) (by rw [← HR.out]; exact hsh.1) m))
          have he2' : (e2 == 0) = false := by simpa using he2
          have he2n : (e2 != 0) = true := by simpa using he2
          clear ht2 hno hat hsh
          go_wp2_with fail
          exact bodyPost_ret (v := .tuple #[.agg #[.slice b full.length cb, .int .i64 at', .int .i64 e2], .int .u64 0]) (by simp [results, Try.results24, go_sem, qb0, qb1, qb2]) rfl ⟨0, at', e2, HG.out, by omega, by omega, ha, rfl, (((((((kW.setCell (.inr hq) _).setCell (.inr hq) _).setCell (.inr hq) _).setCell (.inr h0) _).setCell (.inr h1) _).setCell (.inr h1) _).setCell (.inr h1) _)⟩
      · rw [h]
        have HK := hid (show behindI f.toNat = ((4 : Nat) : Int) by rw [h]; rfl)
        have HF := hid h
        clear h hf h253
        go_wp2_with fail
        have kA := (Kp.refl [] w1).alloc (.cells #[.slice b full.length cb, .int .i64 at1, .int .i64 0] 31)
        refine (cRefGet b cb full at1 0 4 _ (hs.kept (kw1.trans kA (by simp)) (by simp)) hl hm ha1 hb (by omega)).mono ?_
        rintro e w2 ⟨out2, at2, e2, ht2, ha2, rfl, k2⟩
        have bS := (Box3.new w1 (.slice b full.length cb) (.int .i64 at1) (.int .i64 0) 31).kept k2 (by simp)
        have bA := (bA1.kept kA (by simp)).kept k2 (by simp)
        have bB := (bB1.kept kA (by simp)).kept k2 (by simp)
        have kW := (kw1.trans kA (by simp)).trans k2 (by simp)
        clear qa0 qa1 qa2 qaf qb0 qb1 qb2 qbf bA1 bB1 kA k2 kw1 hne1 hne2
        generalize w1.heap.size = q at *
        have qa0 := bA.c0
        have qa1 := bA.c1
        have qa2 := bA.c2
        have qaf := bA.free
        have qb0 := bB.c0
        have qb1 := bB.c1
        have qb2 := bB.c2
        have qbf := bB.free
        have qs0 := bS.c0
        have qs1 := bS.c1
        have qs2 := bS.c2
        have qsf := bS.free
        have hd1 : ¬ (w.heap.size = q) := by omega
        have hd2 : ¬ (q = w.heap.size) := by omega
        have hd3 : ¬ (w.heap.size + 1 = q) := by omega
        have hd4 : ¬ (q = w.heap.size + 1) := by omega
        have hq : w.heap.size ≤ q := by omega
        have h0 : w.heap.size ≤ w.heap.size := by omega
        have h1 : w.heap.size ≤ w.heap.size + 1 := by omega
        by_cases he2 : e2 = 0
        · subst he2
          obtain ⟨_, hlen, hout, hdrop⟩ := takeS_ok _ _ _ ht2
          have HA2 := hid (show at2 = at1 + 4 by
            have h1 := congrArg List.length hdrop
            simp at h1 hlen
            omega)
          have hle : at' ≤ at2 := by have := HA1.out; have := HA2.out; omega
          have hln : out2.length ≤ 8 := by rw [hout]; simp; omega
          have HGB := hid (gv_big f rest (num out2 : Int) 4 (by rw [HF.out]; omega) HK.out (by rw [← HR.out]; exact hlen) (by rw [hout, HR.out]))
          have hdif : at2 - at' = 1 + 4 := by have := HA1.out; have := HA2.out; omega
          have HG := hid (show (varB (num out2 : Int)).length = at2 - at' → fv (full.drop at') = ((num out2 : Int), ((at2 - at' : Nat) : Int), 0) from fun h => by rw [HFR.out, hdif]; exact HGB.out.1 (by omega))
          have HB := hid (show (varB (num out2 : Int)).length ≠ at2 - at' → ∀ m, varS m (full.drop at') 0 = (0, full.drop at', 11) from fun h => by rw [HFR.out]; exact HGB.out.2 (by omega))
          have hn0 : (0 : Int) ≤ (num out2 : Int) := by omega
          have hn1 : (num out2 : Int) < 18446744073709551616 := by have := num_lt64 out2 hln; omega
          generalize hfn : (num out2 : Int) = n at *
          clear hfn hln HGB hdif hout hdrop hlen ht2
          go_wp2_with fail
          obtain ⟨bS', ks⟩ := bS.setAll (.slice b full.length cb) (.int .i64 at2) (.int .i64 0)
          replace bA := bA.kept ks (by simp; omega)
          replace bB := bB.kept ks (by simp; omega)
          replace kW := kW.trans ks (fun x hx => .inr (by simp at hx; omega))
          clear qa0 qa1 qa2 qaf qb0 qb1 qb2 qbf qs0 qs1 qs2 qsf hd1 hd2 hd3 hd4 ks bS
          have bS := bS'
          clear bS'
          generalize (((w2.setCell ⟨q, 0, none⟩ (.slice b full.length cb)).setCell ⟨q, 1, none⟩ (.int .i64 at2)).setCell ⟨q, 2, none⟩ (.int .i64 0)) = W at *
          have hmq : at2 ≤ full.length := ha2
          have hbA := bA.c1
          have hbS := bS.c1
          have HL9 := hid (varB_length n).1
          have HLv := hid (rfl : (varB n).length = (varB n).length)
          generalize hLv : (varB n).length = L at *
          have HL := hid hLv
          clear hLv HLv
          obtain ⟨D, HD⟩ : ∃ D : Nat, Hid (D = at2 - at') := ⟨_, rfl⟩
          have hwr : IntKind.i64.wrap ((at2 : Int) - (at' : Int)) = (D : Int) := by
            have := HD.out
            rw [show ((at2 : Int) - (at' : Int)) = (D : Int) by omega]
            rw [IntKind.wrap_i64]; omega
          go_region_held3 (fun w' => w'.cell? ⟨w.heap.size, 1, none⟩ = some (.int .i64 at') ∧ w'.cell? ⟨q, 1, none⟩ = some (.int .i64 at2)) (go_keep)
            (first | (go_at_call 38; refine (cRefVar n _ hn0 hn1).mono ?_; rintro e w4 ⟨v, rfl, hrow, k4, ho⟩; obtain ⟨a4, c4, rfl, hle4⟩ := hrow.shape; have hbA4 := (bA.drew.kept k4 (by simp)).c1; have hbS4 := (bS.drew.kept k4 (by simp)).c1; rw [HL.out]))
          all_goals
            have bA4 := (bA.drew.kept k4 (by simp))
            have bB4 := (bB.drew.kept k4 (by simp))
            have bS4 := (bS.drew.kept k4 (by simp))
            have kW4 := kW.drew.trans k4 (by simp)
            clear hrow k4 ho hbA4 hbS4 bA bB bS kW hbA hbS
            have xa0 := bA4.c0
            have xa1 := bA4.c1
            have xa2 := bA4.c2
            have xaf := bA4.free
            have xb0 := bB4.c0
            have xb1 := bB4.c1
            have xb2 := bB4.c2
            have xbf := bB4.free
            have xs0 := bS4.c0
            have xs1 := bS4.c1
            have xs2 := bS4.c2
            have hL9 := HL9.out
            clear bA4 bS4 bB4
            have h0 : w.heap.size ≤ w.heap.size := by omega
            have h1 : w.heap.size ≤ w.heap.size + 1 := by omega
            by_cases hform : L = D
            · have hfv := hid (HG.out (by rw [hform, HD.out]))
              have HN := hid (gvS_num most neg (full.drop at') (full.drop at2) n _ hfv.out hn1 (by rw [List.drop_drop, Int.toNat_natCast]; congr 1; omega))
              have hee : ((L : Int) != (D : Int)) = false := by rw [hform]; simp
              clear hfv HG HB hform
              by_cases hng : neg = true ∨ most < n
              · have HN' := hid (show gvS most neg (full.drop at') 0 = (0, full.drop at', 12) by rw [HN.out, if_pos hng])
                clear HN
                rcases hng with hng | hng
                · subst hng
                  go_wp2_with fail
                  exact bodyPost_ret (v := .tuple #[.agg #[.slice b full.length cb, .int .i64 at', .int .i64 12], .int .u64 0]) (by simp [results, Try.results24, go_sem, xb0, xb1, xb2]) rfl ⟨0, at', 12, HN'.out, by omega, by omega, ha, rfl, (((kW4.setCell (.inr h0) _).setCell (.inr h1) _).setCell (.inr h1) _).setCell (.inr h1) _⟩
                · cases neg
                  all_goals
                    go_wp2_with fail
                    exact bodyPost_ret (v := .tuple #[.agg #[.slice b full.length cb, .int .i64 at', .int .i64 12], .int .u64 0]) (by simp [results, Try.results24, go_sem, xb0, xb1, xb2]) rfl ⟨0, at', 12, HN'.out, by omega, by omega, ha, rfl, (((kW4.setCell (.inr h0) _).setCell (.inr h1) _).setCell (.inr h1) _).setCell (.inr h1) _⟩
              · have HN' := hid (show gvS most neg (full.drop at') 0 = (n, full.drop at2, 0) by rw [HN.out, if_neg hng])
                clear HN
                have hng1 : neg = false := by cases neg <;> simp_all
                have hng2 : ¬ (most < n) := fun h => hng (.inr h)
                clear hng
                subst hng1
                go_wp2_with fail
                exact bodyPost_ret (v := .tuple #[.agg #[.slice b full.length cb, .int .i64 at2, .int .i64 0], .int .u64 n]) (by simp [results, Try.results24, go_sem, xb0, xb1, xb2]) rfl ⟨n, at2, 0, HN'.out, hn0, hn1, hmq, rfl, ((kW4.setCell (.inr h1) _).setCell (.inr h1) _).setCell (.inr h1) _⟩
            · have hvb := hid (HB.out (fun h => hform (by rw [h, HD.out])))
              have HN := hid (show gvS most neg (full.drop at') 0 = (0, full.drop at', 11) from gvS_bad _ _ _ _ _ (by omega) hvb.out)
              have hneq : ((L : Int) != (D : Int)) = true := by simp; omega
              clear hvb HG HB hform
              go_wp2_with fail
              exact bodyPost_ret (v := .tuple #[.agg #[.slice b full.length cb, .int .i64 at', .int .i64 11], .int .u64 0]) (by simp [results, Try.results24, go_sem, xb0, xb1, xb2]) rfl ⟨0, at', 11, HN.out, by omega, by omega, ha, rfl, (((kW4.setCell (.inr h0) _).setCell (.inr h1) _).setCell (.inr h1) _).setCell (.inr h1) _⟩
        · have hno := takeS_no _ _ _ ht2 he2
          have hat : at2 = at1 := drop_inj full at2 at1 ha2 ha1 hno.2.1
          have hsh : (full.drop at1).length < 4 ∧ e2 = 10 := by
            rcases hno.2.2 with ⟨h1, h2⟩ | ⟨h1, h2, h3⟩
            · exact absurd rfl h1
            · exact ⟨h2, h3⟩
          have HG := hid (show gvS most neg (full.drop at') 0 = (0, full.drop at', e2) from gvS_bad _ _ _ _ _ he2 (fun m => by
            rw [HFR.out, hsh.2]
            exact gv_short f rest 4 HK.out (by omega) (by rw [← HR.out]; exact hsh.1) m))
          have he2' : (e2 == 0) = false := by simpa using he2
          have he2n : (e2 != 0) = true := by simpa using he2
          clear ht2 hno hat hsh
          go_wp2_with fail
          exact bodyPost_ret (v := .tuple #[.agg #[.slice b full.length cb, .int .i64 at', .int .i64 e2], .int .u64 0]) (by simp [results, Try.results24, go_sem, qb0, qb1, qb2]) rfl ⟨0, at', e2, HG.out, by omega, by omega, ha, rfl, (((((((kW.setCell (.inr hq) _).setCell (.inr hq) _).setCell (.inr hq) _).setCell (.inr h0) _).setCell (.inr h1) _).setCell (.inr h1) _).setCell (.inr h1) _)⟩
      · rw [h]
        have HK := hid (show behindI f.toNat = ((8 : Nat) : Int) by rw [h]; rfl)
        have HF := hid h
        clear h hf h253
        go_wp2_with fail
        have kA := (Kp.refl [] w1).alloc (.cells #[.slice b full.length cb, .int .i64 at1, .int .i64 0] 31)
        refine (cRefGet b cb full at1 0 8 _ (hs.kept (kw1.trans kA (by simp)) (by simp)) hl hm ha1 hb (by omega)).mono ?_
        rintro e w2 ⟨out2, at2, e2, ht2, ha2, rfl, k2⟩
        have bS := (Box3.new w1 (.slice b full.length cb) (.int .i64 at1) (.int .i64 0) 31).kept k2 (by simp)
        have bA := (bA1.kept kA (by simp)).kept k2 (by simp)
        have bB := (bB1.kept kA (by simp)).kept k2 (by simp)
        have kW := (kw1.trans kA (by simp)).trans k2 (by simp)
        clear qa0 qa1 qa2 qaf qb0 qb1 qb2 qbf bA1 bB1 kA k2 kw1 hne1 hne2
        generalize w1.heap.size = q at *
        have qa0 := bA.c0
        have qa1 := bA.c1
        have qa2 := bA.c2
        have qaf := bA.free
        have qb0 := bB.c0
        have qb1 := bB.c1
        have qb2 := bB.c2
        have qbf := bB.free
        have qs0 := bS.c0
        have qs1 := bS.c1
        have qs2 := bS.c2
        have qsf := bS.free
        have hd1 : ¬ (w.heap.size = q) := by omega
        have hd2 : ¬ (q = w.heap.size) := by omega
        have hd3 : ¬ (w.heap.size + 1 = q) := by omega
        have hd4 : ¬ (q = w.heap.size + 1) := by omega
        have hq : w.heap.size ≤ q := by omega
        have h0 : w.heap.size ≤ w.heap.size := by omega
        have h1 : w.heap.size ≤ w.heap.size + 1 := by omega
        by_cases he2 : e2 = 0
        · subst he2
          obtain ⟨_, hlen, hout, hdrop⟩ := takeS_ok _ _ _ ht2
          have HA2 := hid (show at2 = at1 + 8 by
            have h1 := congrArg List.length hdrop
            simp at h1 hlen
            omega)
          have hle : at' ≤ at2 := by have := HA1.out; have := HA2.out; omega
          have hln : out2.length ≤ 8 := by rw [hout]; simp; omega
          have HGB := hid (gv_big f rest (num out2 : Int) 8 (by rw [HF.out]; omega) HK.out (by rw [← HR.out]; exact hlen) (by rw [hout, HR.out]))
          have hdif : at2 - at' = 1 + 8 := by have := HA1.out; have := HA2.out; omega
          have HG := hid (show (varB (num out2 : Int)).length = at2 - at' → fv (full.drop at') = ((num out2 : Int), ((at2 - at' : Nat) : Int), 0) from fun h => by rw [HFR.out, hdif]; exact HGB.out.1 (by omega))
          have HB := hid (show (varB (num out2 : Int)).length ≠ at2 - at' → ∀ m, varS m (full.drop at') 0 = (0, full.drop at', 11) from fun h => by rw [HFR.out]; exact HGB.out.2 (by omega))
          have hn0 : (0 : Int) ≤ (num out2 : Int) := by omega
          have hn1 : (num out2 : Int) < 18446744073709551616 := by have := num_lt64 out2 hln; omega
          generalize hfn : (num out2 : Int) = n at *
          clear hfn hln HGB hdif hout hdrop hlen ht2
          go_wp2_with fail
          obtain ⟨bS', ks⟩ := bS.setAll (.slice b full.length cb) (.int .i64 at2) (.int .i64 0)
          replace bA := bA.kept ks (by simp; omega)
          replace bB := bB.kept ks (by simp; omega)
          replace kW := kW.trans ks (fun x hx => .inr (by simp at hx; omega))
          clear qa0 qa1 qa2 qaf qb0 qb1 qb2 qbf qs0 qs1 qs2 qsf hd1 hd2 hd3 hd4 ks bS
          have bS := bS'
          clear bS'
          generalize (((w2.setCell ⟨q, 0, none⟩ (.slice b full.length cb)).setCell ⟨q, 1, none⟩ (.int .i64 at2)).setCell ⟨q, 2, none⟩ (.int .i64 0)) = W at *
          have hmq : at2 ≤ full.length := ha2
          have hbA := bA.c1
          have hbS := bS.c1
          have HL9 := hid (varB_length n).1
          have HLv := hid (rfl : (varB n).length = (varB n).length)
          generalize hLv : (varB n).length = L at *
          have HL := hid hLv
          clear hLv HLv
          obtain ⟨D, HD⟩ : ∃ D : Nat, Hid (D = at2 - at') := ⟨_, rfl⟩
          have hwr : IntKind.i64.wrap ((at2 : Int) - (at' : Int)) = (D : Int) := by
            have := HD.out
            rw [show ((at2 : Int) - (at' : Int)) = (D : Int) by omega]
            rw [IntKind.wrap_i64]; omega
          go_region_held3 (fun w' => w'.cell? ⟨w.heap.size, 1, none⟩ = some (.int .i64 at') ∧ w'.cell? ⟨q, 1, none⟩ = some (.int .i64 at2)) (go_keep)
            (first | (go_at_call 38; refine (cRefVar n _ hn0 hn1).mono ?_; rintro e w4 ⟨v, rfl, hrow, k4, ho⟩; obtain ⟨a4, c4, rfl, hle4⟩ := hrow.shape; have hbA4 := (bA.drew.kept k4 (by simp)).c1; have hbS4 := (bS.drew.kept k4 (by simp)).c1; rw [HL.out]))
          all_goals
            have bA4 := (bA.drew.kept k4 (by simp))
            have bB4 := (bB.drew.kept k4 (by simp))
            have bS4 := (bS.drew.kept k4 (by simp))
            have kW4 := kW.drew.trans k4 (by simp)
            clear hrow k4 ho hbA4 hbS4 bA bB bS kW hbA hbS
            have xa0 := bA4.c0
            have xa1 := bA4.c1
            have xa2 := bA4.c2
            have xaf := bA4.free
            have xb0 := bB4.c0
            have xb1 := bB4.c1
            have xb2 := bB4.c2
            have xbf := bB4.free
            have xs0 := bS4.c0
            have xs1 := bS4.c1
            have xs2 := bS4.c2
            have hL9 := HL9.out
            clear bA4 bS4 bB4
            have h0 : w.heap.size ≤ w.heap.size := by omega
            have h1 : w.heap.size ≤ w.heap.size + 1 := by omega
            by_cases hform : L = D
            · have hfv := hid (HG.out (by rw [hform, HD.out]))
              have HN := hid (gvS_num most neg (full.drop at') (full.drop at2) n _ hfv.out hn1 (by rw [List.drop_drop, Int.toNat_natCast]; congr 1; omega))
              have hee : ((L : Int) != (D : Int)) = false := by rw [hform]; simp
              clear hfv HG HB hform
              by_cases hng : neg = true ∨ most < n
              · have HN' := hid (show gvS most neg (full.drop at') 0 = (0, full.drop at', 12) by rw [HN.out, if_pos hng])
                clear HN
                rcases hng with hng | hng
                · subst hng
                  go_wp2_with fail
                  exact bodyPost_ret (v := .tuple #[.agg #[.slice b full.length cb, .int .i64 at', .int .i64 12], .int .u64 0]) (by simp [results, Try.results24, go_sem, xb0, xb1, xb2]) rfl ⟨0, at', 12, HN'.out, by omega, by omega, ha, rfl, (((kW4.setCell (.inr h0) _).setCell (.inr h1) _).setCell (.inr h1) _).setCell (.inr h1) _⟩
                · cases neg
                  all_goals
                    go_wp2_with fail
                    exact bodyPost_ret (v := .tuple #[.agg #[.slice b full.length cb, .int .i64 at', .int .i64 12], .int .u64 0]) (by simp [results, Try.results24, go_sem, xb0, xb1, xb2]) rfl ⟨0, at', 12, HN'.out, by omega, by omega, ha, rfl, (((kW4.setCell (.inr h0) _).setCell (.inr h1) _).setCell (.inr h1) _).setCell (.inr h1) _⟩
              · have HN' := hid (show gvS most neg (full.drop at') 0 = (n, full.drop at2, 0) by rw [HN.out, if_neg hng])
                clear HN
                have hng1 : neg = false := by cases neg <;> simp_all
                have hng2 : ¬ (most < n) := fun h => hng (.inr h)
                clear hng
                subst hng1
                go_wp2_with fail
                exact bodyPost_ret (v := .tuple #[.agg #[.slice b full.length cb, .int .i64 at2, .int .i64 0], .int .u64 n]) (by simp [results, Try.results24, go_sem, xb0, xb1, xb2]) rfl ⟨n, at2, 0, HN'.out, hn0, hn1, hmq, rfl, ((kW4.setCell (.inr h1) _).setCell (.inr h1) _).setCell (.inr h1) _⟩
            · have hvb := hid (HB.out (fun h => hform (by rw [h, HD.out])))
              have HN := hid (show gvS most neg (full.drop at') 0 = (0, full.drop at', 11) from gvS_bad _ _ _ _ _ (by omega) hvb.out)
              have hneq : ((L : Int) != (D : Int)) = true := by simp; omega
              clear hvb HG HB hform
              go_wp2_with fail
              exact bodyPost_ret (v := .tuple #[.agg #[.slice b full.length cb, .int .i64 at', .int .i64 11], .int .u64 0]) (by simp [results, Try.results24, go_sem, xb0, xb1, xb2]) rfl ⟨0, at', 11, HN.out, by omega, by omega, ha, rfl, (((kW4.setCell (.inr h0) _).setCell (.inr h1) _).setCell (.inr h1) _).setCell (.inr h1) _⟩
        · have hno := takeS_no _ _ _ ht2 he2
          have hat : at2 = at1 := drop_inj full at2 at1 ha2 ha1 hno.2.1
          have hsh : (full.drop at1).length < 8 ∧ e2 = 10 := by
            rcases hno.2.2 with ⟨h1, h2⟩ | ⟨h1, h2, h3⟩
            · exact absurd rfl h1
            · exact ⟨h2, h3⟩
          have HG := hid (show gvS most neg (full.drop at') 0 = (0, full.drop at', e2) from gvS_bad _ _ _ _ _ he2 (fun m => by
            rw [HFR.out, hsh.2]
            exact gv_short f rest 8 HK.out (by omega) (by rw [← HR.out]; exact hsh.1) m))
          have he2' : (e2 == 0) = false := by simpa using he2
          have he2n : (e2 != 0) = true := by simpa using he2
          clear ht2 hno hat hsh
          go_wp2_with fail
          exact bodyPost_ret (v := .tuple #[.agg #[.slice b full.length cb, .int .i64 at', .int .i64 e2], .int .u64 0]) (by simp [results, Try.results24, go_sem, qb0, qb1, qb2]) rfl ⟨0, at', e2, HG.out, by omega, by omega, ha, rfl, (((((((kW.setCell (.inr hq) _).setCell (.inr hq) _).setCell (.inr hq) _).setCell (.inr h0) _).setCell (.inr h1) _).setCell (.inr h1) _).setCell (.inr h1) _)⟩
  · have hno := takeS_no _ _ _ ht he1
    have hat : at1 = at' := drop_inj full at1 at' ha1 ha hno.2.1
    have HG := hid (show gvS most neg (full.drop at') e0 = (0, full.drop at', e1) from gvS_bad _ _ _ _ _ he1 (fun m => by
      rcases hno.2.2 with ⟨h1, h2⟩ | ⟨h1, h2, h3⟩
      · rw [h2]; unfold varS; rw [if_pos h1]
      · subst h1
        have : full.drop at' = [] := List.length_eq_zero_iff.1 (by omega)
        rw [this, h3]
        simp [varS, fv]))
    have he1' : (e1 == 0) = false := by simpa using he1
    have he1n : (e1 != 0) = true := by simpa using he1
    rw [hno.1]
    have hnum0 : num [] = 0 := rfl
    rw [hnum0]
    clear ht hno hnum0 hat
    go_wp2_with fail
    exact bodyPost_ret (v := .tuple #[.agg #[.slice b full.length cb, .int .i64 at', .int .i64 e1], .int .u64 0]) (by simp [results, Try.results24, go_sem, qb0, qb1, qb2, hne2]) rfl ⟨0, at', e1, HG.out, by omega, by omega, ha, rfl, ((((kw1.setCell (.inr (by simp)) _).setCell (.inr (by simp)) _).setCell (.inr (by simp)) _).setCell (.inr (by simp)) _).alloc _⟩
end Go.Proofs.Ytcmfhejjndlnnaa

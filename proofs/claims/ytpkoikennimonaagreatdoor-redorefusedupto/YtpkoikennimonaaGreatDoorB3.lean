/- The reference's GetVar. The reference's GetText. What a list is, by the reference. A range over an iterator that writes memory of its own between two rounds: a law. No statement of the seat is proved here. The iterator that codec.Items makes: what it promises. -/
import Derived.Test.YtpkoikennimonaaGreatDoorB2
import Derived.Deep.RegionHeld3
import Derived.RangeFuncNested
import Derived.RangeFuncBound
import Derived.RangeFuncCalls
import Derived.RangeFuncLeaves
import Derived.Shelf.Abstract
import Derived.Shelf.RegionOpen
import Derived.WalkKit
import Derived.OwnWalkIn
import Derived.TacticsInMore
import Derived.LoopNIn
import Derived.LoopIn
section
namespace Go.Proofs.YtpkoikennimonaaGreatDoor
open Go.RowKit Go.Hay
set_option linter.unusedVariables false

theorem Box3.drew {w : World} {q : Nat} {a b c : Value} (h : Box3 w q a b c) : Box3 w.drew q a b c := ⟨h.c0, h.c1, h.c2, h.free⟩
theorem gv_big (f : UInt8) (r : List UInt8) (n : Int) (k : Nat) (hf : 253 ≤ f.toNat) (hk : behindI f.toNat = (k : Int)) (hl : k ≤ r.length) (hn : n = num (r.take k)) :
    ((varB n).length = 1 + k → fv (f :: r) = (n, ((1 + k : Nat) : Int), 0)) ∧ ((varB n).length ≠ 1 + k → ∀ m, varS m (f :: r) 0 = (0, f :: r, 11)) := by
  have hf2 := f.toNat_lt
  have h0 : 0 ≤ n := by omega
  have hkp : behindI f.toNat ≠ 0 := by unfold behindI; repeat (first | split | omega)
  have hlen := varB_len n
  have hiff := lead_of_behind n f.toNat h0 hf (by omega)
  rw [hk] at hiff hkp
  have e : fv (f :: r) = if leadI n ≠ f.toNat then (0, 0, 11) else (n, 1 + (k : Int), 0) := by
    simp only [fv, hk, Int.toNat_natCast]
    rw [if_neg hkp, if_neg (by omega), ← hn]
  refine ⟨fun h => ?_, fun h m => ?_⟩
  · rw [e, if_neg (by rw [Decidable.not_not]; exact hiff.1 (by omega))]
    simp
  · have e' : fv (f :: r) = (0, 0, 11) := by rw [e, if_pos (fun hh => h (by have := hiff.2 hh; omega))]
    unfold varS
    rw [e']
    simp
theorem gv_short (f : UInt8) (r : List UInt8) (k : Nat) (hk : behindI f.toNat = (k : Int)) (hk0 : k ≠ 0) (hl : r.length < k) (m : Int) : varS m (f :: r) 0 = (0, f :: r, 10) := by
  unfold varS
  simp only [fv, hk]
  rw [if_neg (show ¬ ((k : Int) = 0) by omega), if_pos (show (r.length : Int) < k by omega)]
  simp

/-- What GetVar leaves. -/
def GetVarPost (b : Option Addr) (cb : Nat) (full : List UInt8) (at' : Nat) (e0 most : Int) (neg : Bool) (w : World) (e : Ending) (w' : World) : Prop :=
  ∃ (n : Int) (at2 : Nat) (e2 : Int), gvS most neg (full.drop at') e0 = (n, full.drop at2, e2) ∧ 0 ≤ n ∧ n < 18446744073709551616 ∧ at2 ≤ full.length ∧ e = .returned (.tuple #[.agg #[.slice b full.length cb, .int .i64 at2, .int .i64 e2], .int .u64 n]) ∧ Kp [] w w'

set_option maxHeartbeats 40000000 in
set_option maxRecDepth 100000 in
theorem cRefGetVar (b : Option Addr) (cb : Nat) (full : List UInt8) (at' : Nat) (e0 most : Int) (neg : Bool) (w : World) (hs : Sees w b full) (hl : full.length ≤ cb) (hm : cb ≤ maxLen) (ha : at' ≤ full.length) (hb : full.length ≤ 200000000000000) (hm0 : 0 ≤ most) (hm1 : most < 18446744073709551616) :
    Calls Tryz.prog 89 #[.agg #[.slice b full.length cb, .int .i64 at', .int .i64 e0], .int .u64 most, .bool neg] w (GetVarPost b cb full at' e0 most neg w) := by
  have kx : Kp [] w ((w.alloc (.cells #[.slice b full.length cb, .int .i64 at', .int .i64 e0] 141)).alloc (.cells #[.slice none 0 0, .int .i64 0, .int .i64 0] 141)) := ((Kp.refl _ _).alloc _).alloc _
  have bA := (Box3.new w (.slice b full.length cb) (.int .i64 at') (.int .i64 e0) 141).kept (S := []) ((Kp.refl _ _).alloc (.cells #[.slice none 0 0, .int .i64 0, .int .i64 0] 141)) (by simp)
  have bB := Box3.new (w.alloc (.cells #[.slice b full.length cb, .int .i64 at', .int .i64 e0] 141)) (.slice none 0 0) (.int .i64 0) (.int .i64 0) 141
  rw [show (w.alloc (.cells #[.slice b full.length cb, .int .i64 at', .int .i64 e0] 141)).heap.size = w.heap.size + 1 by simp] at bB
  go_enter Tryz.func89, Tryz.ntmps89
  go_wp2_with fail
  refine (cRefGet b cb full at' e0 1 _ (hs.kept kx (by simp)) hl hm ha hb (by omega)).mono ?_
  rintro e w1 ⟨out, at1, e1, ht, ha1, rfl, k1⟩
  have bA1 := bA.kept k1 (by simp)
  have bB1 := bB.kept k1 (by simp)
  have kw1 := kx.trans k1 (by simp)
  have hQ1 : w.heap.size + 2 ≤ w1.heap.size := by have := k1.size; simpa using this
  have qa0 := bA1.c0
  have qa1 := bA1.c1
  have qa2 := bA1.c2
  have qaf := bA1.free
  have qb0 := bB1.c0
  have qb1 := bB1.c1
  have qb2 := bB1.c2
  have qbf := bB1.free
  have hne1 : w.heap.size < w1.heap.size := by omega
  have hne2 : w.heap.size + 1 < w1.heap.size := by omega
  clear bA bB kx k1
  by_cases he1 : e1 = 0
  · subst he1
    obtain ⟨h00, hlen, hout, hdrop⟩ := takeS_ok _ _ _ ht
    subst h00
    obtain ⟨f, rest, hfr⟩ : ∃ f rest, full.drop at' = f :: rest := by
      cases hq : full.drop at' with
      | nil => rw [hq] at hlen; simp at hlen
      | cons f rest => exact ⟨f, rest, rfl⟩
    have HA1 := hid (show at1 = at' + 1 by
      have h1 := congrArg List.length hdrop
      simp at h1 hlen
      omega)
    have HR := hid (show full.drop at1 = rest by rw [hdrop, hfr]; rfl)
    have hout1 : out = [f] := by rw [hout, hfr]; rfl
    subst hout1
    have hnumf : num [f] = f.toNat := by simp [num]
    rw [hnumf]
    have hf := f.toNat_lt
    have HFR := hid hfr
    clear hout hdrop hlen ht hnumf hfr
    by_cases h253 : f.toNat < 253
    · have HG := hid (show (varB (f.toNat : Int)).length = at1 - at' → fv (full.drop at') = ((f.toNat : Int), ((at1 - at' : Nat) : Int), 0) from fun _ => by rw [HFR.out, fv_f f rest h253, show at1 - at' = 1 by have := HA1.out; omega]; rfl)
      have HB := hid (show (varB (f.toNat : Int)).length ≠ at1 - at' → ∀ m, varS m (full.drop at') 0 = (0, full.drop at', 11) from fun h => absurd (by rw [varB_small _ (by omega) (by omega)]; have := HA1.out; simp; omega) h)
      have hle : at' ≤ at1 := by have := HA1.out; omega
      have hn0 : (0 : Int) ≤ (f.toNat : Int) := by omega
      have hn1 : (f.toNat : Int) < 18446744073709551616 := by omega
      generalize hfn : (f.toNat : Int) = n at *
      have h253' : n < 253 := by omega
      clear hfn h253 hf
      go_wp2_with fail
      have kA := (Kp.refl [] w1).alloc (.cells #[.slice b full.length cb, .int .i64 at1, .int .i64 0] 141)
      have bS := Box3.new w1 (.slice b full.length cb) (.int .i64 at1) (.int .i64 0) 141
      have bA := bA1.kept kA (by simp)
      have bB := bB1.kept kA (by simp)
      have kW := kw1.trans kA (by simp)
      clear qa0 qa1 qa2 qaf qb0 qb1 qb2 qbf bA1 bB1 kA kw1 hne1 hne2 h253'
      generalize (w1.alloc (.cells #[.slice b full.length cb, .int .i64 at1, .int .i64 0] 141)) = W at *
      generalize w1.heap.size = q at *
      have hmq : at1 ≤ full.length := ha1
      have hbA := bA.c1
      have hbS := bS.c1
      have HL9 := hid (varB_length n).1
      have HLv := hid (rfl : (varB n).length = (varB n).length)
      generalize hLv : (varB n).length = L at *
      have HL := hid hLv
      clear hLv HLv
      obtain ⟨D, HD⟩ : ∃ D : Nat, Hid (D = at1 - at') := ⟨_, rfl⟩
      have hwr : IntKind.i64.wrap ((at1 : Int) - (at' : Int)) = (D : Int) := by
        have := HD.out
        rw [show ((at1 : Int) - (at' : Int)) = (D : Int) by omega]
        rw [IntKind.wrap_i64]; omega
      go_region_held3 (fun w' => w'.cell? ⟨w.heap.size, 1, none⟩ = some (.int .i64 at') ∧ w'.cell? ⟨q, 1, none⟩ = some (.int .i64 at1)) (go_keep)
        (first | (go_at_call 71; refine (cRefVar n _ hn0 hn1).mono ?_; rintro e w4 ⟨v, rfl, hrow, k4, ho⟩; obtain ⟨a4, c4, rfl, hle4⟩ := hrow.shape; have hbA4 := (bA.drew.kept k4 (by simp)).c1; have hbS4 := (bS.drew.kept k4 (by simp)).c1; rw [HL.out]))
      all_goals
        have bA4 := (bA.drew.kept k4 (by simp))
        have bB4 := (bB.drew.kept k4 (by simp))
        have bS4 := (bS.drew.kept k4 (by simp))
        have kW4 := kW.drew.trans k4 (by simp)
        clear hrow k4 ho hbA4 hbS4 bA bB bS kW hbA hbS
        have xa0 := bA4.c0
        have xa1 := bA4.c1
        have xa2 := bA4.c2
        have xaf := bA4.free
        have xb0 := bB4.c0
        have xb1 := bB4.c1
        have xb2 := bB4.c2
        have xbf := bB4.free
        have xs0 := bS4.c0
        have xs1 := bS4.c1
        have xs2 := bS4.c2
        have hL9 := HL9.out
        clear bA4 bS4 bB4
        have h0 : w.heap.size ≤ w.heap.size := by omega
        have h1 : w.heap.size ≤ w.heap.size + 1 := by omega
        by_cases hform : L = D
        · have hfv := hid (HG.out (by rw [hform, HD.out]))
          have HN := hid (gvS_num most neg (full.drop at') (full.drop at1) n _ hfv.out hn1 (by rw [List.drop_drop, Int.toNat_natCast]; congr 1; omega))
          have hee : ((L : Int) != (D : Int)) = false := by rw [hform]; simp
          clear hfv HG HB hform
          by_cases hng : neg = true ∨ most < n
          · have HN' := hid (show gvS most neg (full.drop at') 0 = (0, full.drop at', 12) by rw [HN.out, if_pos hng])
            clear HN
            rcases hng with hng | hng
            · subst hng
              go_wp2_with fail
              exact bodyPost_ret (v := .tuple #[.agg #[.slice b full.length cb, .int .i64 at', .int .i64 12], .int .u64 0]) (by simp [results, Tryz.results89, go_sem, xb0, xb1, xb2]) rfl ⟨0, at', 12, HN'.out, by omega, by omega, ha, rfl, (((kW4.setCell (.inr h0) _).setCell (.inr h1) _).setCell (.inr h1) _).setCell (.inr h1) _⟩
            · cases neg
              all_goals
                go_wp2_with fail
                exact bodyPost_ret (v := .tuple #[.agg #[.slice b full.length cb, .int .i64 at', .int .i64 12], .int .u64 0]) (by simp [results, Tryz.results89, go_sem, xb0, xb1, xb2]) rfl ⟨0, at', 12, HN'.out, by omega, by omega, ha, rfl, (((kW4.setCell (.inr h0) _).setCell (.inr h1) _).setCell (.inr h1) _).setCell (.inr h1) _⟩
          · have HN' := hid (show gvS most neg (full.drop at') 0 = (n, full.drop at1, 0) by rw [HN.out, if_neg hng])
            clear HN
            have hng1 : neg = false := by cases neg <;> simp_all
            have hng2 : ¬ (most < n) := fun h => hng (.inr h)
            clear hng
            subst hng1
            go_wp2_with fail
            exact bodyPost_ret (v := .tuple #[.agg #[.slice b full.length cb, .int .i64 at1, .int .i64 0], .int .u64 n]) (by simp [results, Tryz.results89, go_sem, xb0, xb1, xb2]) rfl ⟨n, at1, 0, HN'.out, hn0, hn1, hmq, rfl, ((kW4.setCell (.inr h1) _).setCell (.inr h1) _).setCell (.inr h1) _⟩
        · have hvb := hid (HB.out (fun h => hform (by rw [h, HD.out])))
          have HN := hid (show gvS most neg (full.drop at') 0 = (0, full.drop at', 11) from gvS_bad _ _ _ _ _ (by omega) hvb.out)
          have hneq : ((L : Int) != (D : Int)) = true := by simp; omega
          clear hvb HG HB hform
          go_wp2_with fail
          exact bodyPost_ret (v := .tuple #[.agg #[.slice b full.length cb, .int .i64 at', .int .i64 11], .int .u64 0]) (by simp [results, Tryz.results89, go_sem, xb0, xb1, xb2]) rfl ⟨0, at', 11, HN.out, by omega, by omega, ha, rfl, (((kW4.setCell (.inr h0) _).setCell (.inr h1) _).setCell (.inr h1) _).setCell (.inr h1) _⟩
    · have hsp : f.toNat = 253 ∨ f.toNat = 254 ∨ f.toNat = 255 := by omega
      rcases hsp with h | h | h
      · rw [h]
        have HK := hid (show behindI f.toNat = ((2 : Nat) : Int) by rw [h]; rfl)
        have HF := hid h
        clear h hf h253
        go_wp2_with fail
        have kA := (Kp.refl [] w1).alloc (.cells #[.slice b full.length cb, .int .i64 at1, .int .i64 0] 141)
        refine (cRefGet b cb full at1 0 2 _ (hs.kept (kw1.trans kA (by simp)) (by simp)) hl hm ha1 hb (by omega)).mono ?_
        rintro e w2 ⟨out2, at2, e2, ht2, ha2, rfl, k2⟩
        have bS := (Box3.new w1 (.slice b full.length cb) (.int .i64 at1) (.int .i64 0) 141).kept k2 (by simp)
        have bA := (bA1.kept kA (by simp)).kept k2 (by simp)
        have bB := (bB1.kept kA (by simp)).kept k2 (by simp)
        have kW := (kw1.trans kA (by simp)).trans k2 (by simp)
        clear qa0 qa1 qa2 qaf qb0 qb1 qb2 qbf bA1 bB1 kA k2 kw1 hne1 hne2
        generalize w1.heap.size = q at *
        have qa0 := bA.c0
        have qa1 := bA.c1
        have qa2 := bA.c2
        have qaf := bA.free
        have qb0 := bB.c0
        have qb1 := bB.c1
        have qb2 := bB.c2
        have qbf := bB.free
        have qs0 := bS.c0
        have qs1 := bS.c1
        have qs2 := bS.c2
        have qsf := bS.free
        have hd1 : ¬ (w.heap.size = q) := by omega
        have hd2 : ¬ (q = w.heap.size) := by omega
        have hd3 : ¬ (w.heap.size + 1 = q) := by omega
        have hd4 : ¬ (q = w.heap.size + 1) := by omega
        have hq : w.heap.size ≤ q := by omega
        have h0 : w.heap.size ≤ w.heap.size := by omega
        have h1 : w.heap.size ≤ w.heap.size + 1 := by omega
        by_cases he2 : e2 = 0
        · subst he2
          obtain ⟨_, hlen, hout, hdrop⟩ := takeS_ok _ _ _ ht2
          have HA2 := hid (show at2 = at1 + 2 by
            have h1 := congrArg List.length hdrop
            simp at h1 hlen
            omega)
          have hle : at' ≤ at2 := by have := HA1.out; have := HA2.out; omega
          have hln : out2.length ≤ 8 := by rw [hout]; simp; omega
          have HGB := hid (gv_big f rest (num out2 : Int) 2 (by rw [HF.out]; omega) HK.out (by rw [← HR.out]; exact hlen) (by rw [hout, HR.out]))
          have hdif : at2 - at' = 1 + 2 := by have := HA1.out; have := HA2.out; omega
          have HG := hid (show (varB (num out2 : Int)).length = at2 - at' → fv (full.drop at') = ((num out2 : Int), ((at2 - at' : Nat) : Int), 0) from fun h => by rw [HFR.out, hdif]; exact HGB.out.1 (by omega))
          have HB := hid (show (varB (num out2 : Int)).length ≠ at2 - at' → ∀ m, varS m (full.drop at') 0 = (0, full.drop at', 11) from fun h => by rw [HFR.out]; exact HGB.out.2 (by omega))
          have hn0 : (0 : Int) ≤ (num out2 : Int) := by omega
          have hn1 : (num out2 : Int) < 18446744073709551616 := by have := num_lt64 out2 hln; omega
          generalize hfn : (num out2 : Int) = n at *
          clear hfn hln HGB hdif hout hdrop hlen ht2
          go_wp2_with fail
          obtain ⟨bS', ks⟩ := bS.setAll (.slice b full.length cb) (.int .i64 at2) (.int .i64 0)
          replace bA := bA.kept ks (by simp; omega)
          replace bB := bB.kept ks (by simp; omega)
          replace kW := kW.trans ks (fun x hx => .inr (by simp at hx; omega))
          clear qa0 qa1 qa2 qaf qb0 qb1 qb2 qbf qs0 qs1 qs2 qsf hd1 hd2 hd3 hd4 ks bS
          have bS := bS'
          clear bS'
          generalize (((w2.setCell ⟨q, 0, none⟩ (.slice b full.length cb)).setCell ⟨q, 1, none⟩ (.int .i64 at2)).setCell ⟨q, 2, none⟩ (.int .i64 0)) = W at *
          have hmq : at2 ≤ full.length := ha2
          have hbA := bA.c1
          have hbS := bS.c1
          have HL9 := hid (varB_length n).1
          have HLv := hid (rfl : (varB n).length = (varB n).length)
          generalize hLv : (varB n).length = L at *
          have HL := hid hLv
          clear hLv HLv
          obtain ⟨D, HD⟩ : ∃ D : Nat, Hid (D = at2 - at') := ⟨_, rfl⟩
          have hwr : IntKind.i64.wrap ((at2 : Int) - (at' : Int)) = (D : Int) := by
            have := HD.out
            rw [show ((at2 : Int) - (at' : Int)) = (D : Int) by omega]
            rw [IntKind.wrap_i64]; omega
          go_region_held3 (fun w' => w'.cell? ⟨w.heap.size, 1, none⟩ = some (.int .i64 at') ∧ w'.cell? ⟨q, 1, none⟩ = some (.int .i64 at2)) (go_keep)
            (first | (go_at_call 71; refine (cRefVar n _ hn0 hn1).mono ?_; rintro e w4 ⟨v, rfl, hrow, k4, ho⟩; obtain ⟨a4, c4, rfl, hle4⟩ := hrow.shape; have hbA4 := (bA.drew.kept k4 (by simp)).c1; have hbS4 := (bS.drew.kept k4 (by simp)).c1; rw [HL.out]))
          all_goals
            have bA4 := (bA.drew.kept k4 (by simp))
            have bB4 := (bB.drew.kept k4 (by simp))
            have bS4 := (bS.drew.kept k4 (by simp))
            have kW4 := kW.drew.trans k4 (by simp)
            clear hrow k4 ho hbA4 hbS4 bA bB bS kW hbA hbS
            have xa0 := bA4.c0
            have xa1 := bA4.c1
            have xa2 := bA4.c2
            have xaf := bA4.free
            have xb0 := bB4.c0
            have xb1 := bB4.c1
            have xb2 := bB4.c2
            have xbf := bB4.free
            have xs0 := bS4.c0
            have xs1 := bS4.c1
            have xs2 := bS4.c2
            have hL9 := HL9.out
            clear bA4 bS4 bB4
            have h0 : w.heap.size ≤ w.heap.size := by omega
            have h1 : w.heap.size ≤ w.heap.size + 1 := by omega
            by_cases hform : L = D
            · have hfv := hid (HG.out (by rw [hform, HD.out]))
              have HN := hid (gvS_num most neg (full.drop at') (full.drop at2) n _ hfv.out hn1 (by rw [List.drop_drop, Int.toNat_natCast]; congr 1; omega))
              have hee : ((L : Int) != (D : Int)) = false := by rw [hform]; simp
              clear hfv HG HB hform
              by_cases hng : neg = true ∨ most < n
              · have HN' := hid (show gvS most neg (full.drop at') 0 = (0, full.drop at', 12) by rw [HN.out, if_pos hng])
                clear HN
                rcases hng with hng | hng
                · subst hng
                  go_wp2_with fail
                  exact bodyPost_ret (v := .tuple #[.agg #[.slice b full.length cb, .int .i64 at', .int .i64 12], .int .u64 0]) (by simp [results, Tryz.results89, go_sem, xb0, xb1, xb2]) rfl ⟨0, at', 12, HN'.out, by omega, by omega, ha, rfl, (((kW4.setCell (.inr h0) _).setCell (.inr h1) _).setCell (.inr h1) _).setCell (.inr h1) _⟩
                · cases neg
                  all_goals
                    go_wp2_with fail
                    exact bodyPost_ret (v := .tuple #[.agg #[.slice b full.length cb, .int .i64 at', .int .i64 12], .int .u64 0]) (by simp [results, Tryz.results89, go_sem, xb0, xb1, xb2]) rfl ⟨0, at', 12, HN'.out, by omega, by omega, ha, rfl, (((kW4.setCell (.inr h0) _).setCell (.inr h1) _).setCell (.inr h1) _).setCell (.inr h1) _⟩
              · have HN' := hid (show gvS most neg (full.drop at') 0 = (n, full.drop at2, 0) by rw [HN.out, if_neg hng])
                clear HN
                have hng1 : neg = false := by cases neg <;> simp_all
                have hng2 : ¬ (most < n) := fun h => hng (.inr h)
                clear hng
                subst hng1
                go_wp2_with fail
                exact bodyPost_ret (v := .tuple #[.agg #[.slice b full.length cb, .int .i64 at2, .int .i64 0], .int .u64 n]) (by simp [results, Tryz.results89, go_sem, xb0, xb1, xb2]) rfl ⟨n, at2, 0, HN'.out, hn0, hn1, hmq, rfl, ((kW4.setCell (.inr h1) _).setCell (.inr h1) _).setCell (.inr h1) _⟩
            · have hvb := hid (HB.out (fun h => hform (by rw [h, HD.out])))
              have HN := hid (show gvS most neg (full.drop at') 0 = (0, full.drop at', 11) from gvS_bad _ _ _ _ _ (by omega) hvb.out)
              have hneq : ((L : Int) != (D : Int)) = true := by simp; omega
              clear hvb HG HB hform
              go_wp2_with fail
              exact bodyPost_ret (v := .tuple #[.agg #[.slice b full.length cb, .int .i64 at', .int .i64 11], .int .u64 0]) (by simp [results, Tryz.results89, go_sem, xb0, xb1, xb2]) rfl ⟨0, at', 11, HN.out, by omega, by omega, ha, rfl, (((kW4.setCell (.inr h0) _).setCell (.inr h1) _).setCell (.inr h1) _).setCell (.inr h1) _⟩
        · have hno := takeS_no _ _ _ ht2 he2
          have hat : at2 = at1 := drop_inj full at2 at1 ha2 ha1 hno.2.1
          have hsh : (full.drop at1).length < 2 ∧ e2 = 10 := by
            rcases hno.2.2 with ⟨h1, h2⟩ | ⟨h1, h2, h3⟩
            · exact absurd rfl h1
            · exact ⟨h2, h3⟩
          have HG := hid (show gvS most neg (full.drop at') 0 = (0, full.drop at', e2) from gvS_bad _ _ _ _ _ he2 (fun m => by
            rw [HFR.out, hsh.2]
            exact gv_short f rest 2 HK.out (by omega) (by rw [← HR.out]; exact hsh.1) m))
          have he2' : (e2 == 0) = false := by simpa using he2
          have he2n : (e2 != 0) = true := by simpa using he2
          clear ht2 hno hat hsh
          go_wp2_with fail
          exact bodyPost_ret (v := .tuple #[.agg #[.slice b full.length cb, .int .i64 at', .int .i64 e2], .int .u64 0]) (by simp [results, Tryz.results89, go_sem, qb0, qb1, qb2]) rfl ⟨0, at', e2, HG.out, by omega, by omega, ha, rfl, (((((((kW.setCell (.inr hq) _).setCell (.inr hq) _).setCell (.inr hq) _).setCell (.inr h0) _).setCell (.inr h1) _).setCell (.inr h1) _).setCell (.inr h1) _)⟩
      · rw [h]
        have HK := hid (show behindI f.toNat = ((4 : Nat) : Int) by rw [h]; rfl)
        have HF := hid h
        clear h hf h253
        go_wp2_with fail
        have kA := (Kp.refl [] w1).alloc (.cells #[.slice b full.length cb, .int .i64 at1, .int .i64 0] 141)
        refine (cRefGet b cb full at1 0 4 _ (hs.kept (kw1.trans kA (by simp)) (by simp)) hl hm ha1 hb (by omega)).mono ?_
        rintro e w2 ⟨out2, at2, e2, ht2, ha2, rfl, k2⟩
        have bS := (Box3.new w1 (.slice b full.length cb) (.int .i64 at1) (.int .i64 0) 141).kept k2 (by simp)
        have bA := (bA1.kept kA (by simp)).kept k2 (by simp)
        have bB := (bB1.kept kA (by simp)).kept k2 (by simp)
        have kW := (kw1.trans kA (by simp)).trans k2 (by simp)
        clear qa0 qa1 qa2 qaf qb0 qb1 qb2 qbf bA1 bB1 kA k2 kw1 hne1 hne2
        generalize w1.heap.size = q at *
        have qa0 := bA.c0
        have qa1 := bA.c1
        have qa2 := bA.c2
        have qaf := bA.free
        have qb0 := bB.c0
        have qb1 := bB.c1
        have qb2 := bB.c2
        have qbf := bB.free
        have qs0 := bS.c0
        have qs1 := bS.c1
        have qs2 := bS.c2
        have qsf := bS.free
        have hd1 : ¬ (w.heap.size = q) := by omega
        have hd2 : ¬ (q = w.heap.size) := by omega
        have hd3 : ¬ (w.heap.size + 1 = q) := by omega
        have hd4 : ¬ (q = w.heap.size + 1) := by omega
        have hq : w.heap.size ≤ q := by omega
        have h0 : w.heap.size ≤ w.heap.size := by omega
        have h1 : w.heap.size ≤ w.heap.size + 1 := by omega
        by_cases he2 : e2 = 0
        · subst he2
          obtain ⟨_, hlen, hout, hdrop⟩ := takeS_ok _ _ _ ht2
          have HA2 := hid (show at2 = at1 + 4 by
            have h1 := congrArg List.length hdrop
            simp at h1 hlen
            omega)
          have hle : at' ≤ at2 := by have := HA1.out; have := HA2.out; omega
          have hln : out2.length ≤ 8 := by rw [hout]; simp; omega
          have HGB := hid (gv_big f rest (num out2 : Int) 4 (by rw [HF.out]; omega) HK.out (by rw [← HR.out]; exact hlen) (by rw [hout, HR.out]))
          have hdif : at2 - at' = 1 + 4 := by have := HA1.out; have := HA2.out; omega
          have HG := hid (show (varB (num out2 : Int)).length = at2 - at' → fv (full.drop at') = ((num out2 : Int), ((at2 - at' : Nat) : Int), 0) from fun h => by rw [HFR.out, hdif]; exact HGB.out.1 (by omega))
          have HB := hid (show (varB (num out2 : Int)).length ≠ at2 - at' → ∀ m, varS m (full.drop at') 0 = (0, full.drop at', 11) from fun h => by rw [HFR.out]; exact HGB.out.2 (by omega))
          have hn0 : (0 : Int) ≤ (num out2 : Int) := by omega
          have hn1 : (num out2 : Int) < 18446744073709551616 := by have := num_lt64 out2 hln; omega
          generalize hfn : (num out2 : Int) = n at *
          clear hfn hln HGB hdif hout hdrop hlen ht2
          go_wp2_with fail
          obtain ⟨bS', ks⟩ := bS.setAll (.slice b full.length cb) (.int .i64 at2) (.int .i64 0)
          replace bA := bA.kept ks (by simp; omega)
          replace bB := bB.kept ks (by simp; omega)
          replace kW := kW.trans ks (fun x hx => .inr (by simp at hx; omega))
          clear qa0 qa1 qa2 qaf qb0 qb1 qb2 qbf qs0 qs1 qs2 qsf hd1 hd2 hd3 hd4 ks bS
          have bS := bS'
          clear bS'
          generalize (((w2.setCell ⟨q, 0, none⟩ (.slice b full.length cb)).setCell ⟨q, 1, none⟩ (.int .i64 at2)).setCell ⟨q, 2, none⟩ (.int .i64 0)) = W at *
          have hmq : at2 ≤ full.length := ha2
          have hbA := bA.c1
          have hbS := bS.c1
          have HL9 := hid (varB_length n).1
          have HLv := hid (rfl : (varB n).length = (varB n).length)
          generalize hLv : (varB n).length = L at *
          have HL := hid hLv
          clear hLv HLv
          obtain ⟨D, HD⟩ : ∃ D : Nat, Hid (D = at2 - at') := ⟨_, rfl⟩
          have hwr : IntKind.i64.wrap ((at2 : Int) - (at' : Int)) = (D : Int) := by
            have := HD.out
            rw [show ((at2 : Int) - (at' : Int)) = (D : Int) by omega]
            rw [IntKind.wrap_i64]; omega
          go_region_held3 (fun w' => w'.cell? ⟨w.heap.size, 1, none⟩ = some (.int .i64 at') ∧ w'.cell? ⟨q, 1, none⟩ = some (.int .i64 at2)) (go_keep)
            (first | (go_at_call 71; refine (cRefVar n _ hn0 hn1).mono ?_; rintro e w4 ⟨v, rfl, hrow, k4, ho⟩; obtain ⟨a4, c4, rfl, hle4⟩ := hrow.shape; have hbA4 := (bA.drew.kept k4 (by simp)).c1; have hbS4 := (bS.drew.kept k4 (by simp)).c1; rw [HL.out]))
          all_goals
            have bA4 := (bA.drew.kept k4 (by simp))
            have bB4 := (bB.drew.kept k4 (by simp))
            have bS4 := (bS.drew.kept k4 (by simp))
            have kW4 := kW.drew.trans k4 (by simp)
            clear hrow k4 ho hbA4 hbS4 bA bB bS kW hbA hbS
            have xa0 := bA4.c0
            have xa1 := bA4.c1
            have xa2 := bA4.c2
            have xaf := bA4.free
            have xb0 := bB4.c0
            have xb1 := bB4.c1
            have xb2 := bB4.c2
            have xbf := bB4.free
            have xs0 := bS4.c0
            have xs1 := bS4.c1
            have xs2 := bS4.c2
            have hL9 := HL9.out
            clear bA4 bS4 bB4
            have h0 : w.heap.size ≤ w.heap.size := by omega
            have h1 : w.heap.size ≤ w.heap.size + 1 := by omega
            by_cases hform : L = D
            · have hfv := hid (HG.out (by rw [hform, HD.out]))
              have HN := hid (gvS_num most neg (full.drop at') (full.drop at2) n _ hfv.out hn1 (by rw [List.drop_drop, Int.toNat_natCast]; congr 1; omega))
              have hee : ((L : Int) != (D : Int)) = false := by rw [hform]; simp
              clear hfv HG HB hform
              by_cases hng : neg = true ∨ most < n
              · have HN' := hid (show gvS most neg (full.drop at') 0 = (0, full.drop at', 12) by rw [HN.out, if_pos hng])
                clear HN
                rcases hng with hng | hng
                · subst hng
                  go_wp2_with fail
                  exact bodyPost_ret (v := .tuple #[.agg #[.slice b full.length cb, .int .i64 at', .int .i64 12], .int .u64 0]) (by simp [results, Tryz.results89, go_sem, xb0, xb1, xb2]) rfl ⟨0, at', 12, HN'.out, by omega, by omega, ha, rfl, (((kW4.setCell (.inr h0) _).setCell (.inr h1) _).setCell (.inr h1) _).setCell (.inr h1) _⟩
                · cases neg
                  all_goals
                    go_wp2_with fail
                    exact bodyPost_ret (v := .tuple #[.agg #[.slice b full.length cb, .int .i64 at', .int .i64 12], .int .u64 0]) (by simp [results, Tryz.results89, go_sem, xb0, xb1, xb2]) rfl ⟨0, at', 12, HN'.out, by omega, by omega, ha, rfl, (((kW4.setCell (.inr h0) _).setCell (.inr h1) _).setCell (.inr h1) _).setCell (.inr h1) _⟩
              · have HN' := hid (show gvS most neg (full.drop at') 0 = (n, full.drop at2, 0) by rw [HN.out, if_neg hng])
                clear HN
                have hng1 : neg = false := by cases neg <;> simp_all
                have hng2 : ¬ (most < n) := fun h => hng (.inr h)
                clear hng
                subst hng1
                go_wp2_with fail
                exact bodyPost_ret (v := .tuple #[.agg #[.slice b full.length cb, .int .i64 at2, .int .i64 0], .int .u64 n]) (by simp [results, Tryz.results89, go_sem, xb0, xb1, xb2]) rfl ⟨n, at2, 0, HN'.out, hn0, hn1, hmq, rfl, ((kW4.setCell (.inr h1) _).setCell (.inr h1) _).setCell (.inr h1) _⟩
            · have hvb := hid (HB.out (fun h => hform (by rw [h, HD.out])))
              have HN := hid (show gvS most neg (full.drop at') 0 = (0, full.drop at', 11) from gvS_bad _ _ _ _ _ (by omega) hvb.out)
              have hneq : ((L : Int) != (D : Int)) = true := by simp; omega
              clear hvb HG HB hform
              go_wp2_with fail
              exact bodyPost_ret (v := .tuple #[.agg #[.slice b full.length cb, .int .i64 at', .int .i64 11], .int .u64 0]) (by simp [results, Tryz.results89, go_sem, xb0, xb1, xb2]) rfl ⟨0, at', 11, HN.out, by omega, by omega, ha, rfl, (((kW4.setCell (.inr h0) _).setCell (.inr h1) _).setCell (.inr h1) _).setCell (.inr h1) _⟩
        · have hno := takeS_no _ _ _ ht2 he2
          have hat : at2 = at1 := drop_inj full at2 at1 ha2 ha1 hno.2.1
          have hsh : (full.drop at1).length < 4 ∧ e2 = 10 := by
            rcases hno.2.2 with ⟨h1, h2⟩ | ⟨h1, h2, h3⟩
            · exact absurd rfl h1
            · exact ⟨h2, h3⟩
          have HG := hid (show gvS most neg (full.drop at') 0 = (0, full.drop at', e2) from gvS_bad _ _ _ _ _ he2 (fun m => by
            rw [HFR.out, hsh.2]
            exact gv_short f rest 4 HK.out (by omega) (by rw [← HR.out]; exact hsh.1) m))
          have he2' : (e2 == 0) = false := by simpa using he2
          have he2n : (e2 != 0) = true := by simpa using he2
          clear ht2 hno hat hsh
          go_wp2_with fail
          exact bodyPost_ret (v := .tuple #[.agg #[.slice b full.length cb, .int .i64 at', .int .i64 e2], .int .u64 0]) (by simp [results, Tryz.results89, go_sem, qb0, qb1, qb2]) rfl ⟨0, at', e2, HG.out, by omega, by omega, ha, rfl, (((((((kW.setCell (.inr hq) _).setCell (.inr hq) _).setCell (.inr hq) _).setCell (.inr h0) _).setCell (.inr h1) _).setCell (.inr h1) _).setCell (.inr h1) _)⟩
      · rw [h]
        have HK := hid (show behindI f.toNat = ((8 : Nat) : Int) by rw [h]; rfl)
        have HF := hid h
        clear h hf h253
        go_wp2_with fail
        have kA := (Kp.refl [] w1).alloc (.cells #[.slice b full.length cb, .int .i64 at1, .int .i64 0] 141)
        refine (cRefGet b cb full at1 0 8 _ (hs.kept (kw1.trans kA (by simp)) (by simp)) hl hm ha1 hb (by omega)).mono ?_
        rintro e w2 ⟨out2, at2, e2, ht2, ha2, rfl, k2⟩
        have bS := (Box3.new w1 (.slice b full.length cb) (.int .i64 at1) (.int .i64 0) 141).kept k2 (by simp)
        have bA := (bA1.kept kA (by simp)).kept k2 (by simp)
        have bB := (bB1.kept kA (by simp)).kept k2 (by simp)
        have kW := (kw1.trans kA (by simp)).trans k2 (by simp)
        clear qa0 qa1 qa2 qaf qb0 qb1 qb2 qbf bA1 bB1 kA k2 kw1 hne1 hne2
        generalize w1.heap.size = q at *
        have qa0 := bA.c0
        have qa1 := bA.c1
        have qa2 := bA.c2
        have qaf := bA.free
        have qb0 := bB.c0
        have qb1 := bB.c1
        have qb2 := bB.c2
        have qbf := bB.free
        have qs0 := bS.c0
        have qs1 := bS.c1
        have qs2 := bS.c2
        have qsf := bS.free
        have hd1 : ¬ (w.heap.size = q) := by omega
        have hd2 : ¬ (q = w.heap.size) := by omega
        have hd3 : ¬ (w.heap.size + 1 = q) := by omega
        have hd4 : ¬ (q = w.heap.size + 1) := by omega
        have hq : w.heap.size ≤ q := by omega
        have h0 : w.heap.size ≤ w.heap.size := by omega
        have h1 : w.heap.size ≤ w.heap.size + 1 := by omega
        by_cases he2 : e2 = 0
        · subst he2
          obtain ⟨_, hlen, hout, hdrop⟩ := takeS_ok _ _ _ ht2
          have HA2 := hid (show at2 = at1 + 8 by
            have h1 := congrArg List.length hdrop
            simp at h1 hlen
            omega)
          have hle : at' ≤ at2 := by have := HA1.out; have := HA2.out; omega
          have hln : out2.length ≤ 8 := by rw [hout]; simp; omega
          have HGB := hid (gv_big f rest (num out2 : Int) 8 (by rw [HF.out]; omega) HK.out (by rw [← HR.out]; exact hlen) (by rw [hout, HR.out]))
          have hdif : at2 - at' = 1 + 8 := by have := HA1.out; have := HA2.out; omega
          have HG := hid (show (varB (num out2 : Int)).length = at2 - at' → fv (full.drop at') = ((num out2 : Int), ((at2 - at' : Nat) : Int), 0) from fun h => by rw [HFR.out, hdif]; exact HGB.out.1 (by omega))
          have HB := hid (show (varB (num out2 : Int)).length ≠ at2 - at' → ∀ m, varS m (full.drop at') 0 = (0, full.drop at', 11) from fun h => by rw [HFR.out]; exact HGB.out.2 (by omega))
          have hn0 : (0 : Int) ≤ (num out2 : Int) := by omega
          have hn1 : (num out2 : Int) < 18446744073709551616 := by have := num_lt64 out2 hln; omega
          generalize hfn : (num out2 : Int) = n at *
          clear hfn hln HGB hdif hout hdrop hlen ht2
          go_wp2_with fail
          obtain ⟨bS', ks⟩ := bS.setAll (.slice b full.length cb) (.int .i64 at2) (.int .i64 0)
          replace bA := bA.kept ks (by simp; omega)
          replace bB := bB.kept ks (by simp; omega)
          replace kW := kW.trans ks (fun x hx => .inr (by simp at hx; omega))
          clear qa0 qa1 qa2 qaf qb0 qb1 qb2 qbf qs0 qs1 qs2 qsf hd1 hd2 hd3 hd4 ks bS
          have bS := bS'
          clear bS'
          generalize (((w2.setCell ⟨q, 0, none⟩ (.slice b full.length cb)).setCell ⟨q, 1, none⟩ (.int .i64 at2)).setCell ⟨q, 2, none⟩ (.int .i64 0)) = W at *
          have hmq : at2 ≤ full.length := ha2
          have hbA := bA.c1
          have hbS := bS.c1
          have HL9 := hid (varB_length n).1
          have HLv := hid (rfl : (varB n).length = (varB n).length)
          generalize hLv : (varB n).length = L at *
          have HL := hid hLv
          clear hLv HLv
          obtain ⟨D, HD⟩ : ∃ D : Nat, Hid (D = at2 - at') := ⟨_, rfl⟩
          have hwr : IntKind.i64.wrap ((at2 : Int) - (at' : Int)) = (D : Int) := by
            have := HD.out
            rw [show ((at2 : Int) - (at' : Int)) = (D : Int) by omega]
            rw [IntKind.wrap_i64]; omega
          go_region_held3 (fun w' => w'.cell? ⟨w.heap.size, 1, none⟩ = some (.int .i64 at') ∧ w'.cell? ⟨q, 1, none⟩ = some (.int .i64 at2)) (go_keep)
            (first | (go_at_call 71; refine (cRefVar n _ hn0 hn1).mono ?_; rintro e w4 ⟨v, rfl, hrow, k4, ho⟩; obtain ⟨a4, c4, rfl, hle4⟩ := hrow.shape; have hbA4 := (bA.drew.kept k4 (by simp)).c1; have hbS4 := (bS.drew.kept k4 (by simp)).c1; rw [HL.out]))
          all_goals
            have bA4 := (bA.drew.kept k4 (by simp))
            have bB4 := (bB.drew.kept k4 (by simp))
            have bS4 := (bS.drew.kept k4 (by simp))
            have kW4 := kW.drew.trans k4 (by simp)
            clear hrow k4 ho hbA4 hbS4 bA bB bS kW hbA hbS
            have xa0 := bA4.c0
            have xa1 := bA4.c1
            have xa2 := bA4.c2
            have xaf := bA4.free
            have xb0 := bB4.c0
            have xb1 := bB4.c1
            have xb2 := bB4.c2
            have xbf := bB4.free
            have xs0 := bS4.c0
            have xs1 := bS4.c1
            have xs2 := bS4.c2
            have hL9 := HL9.out
            clear bA4 bS4 bB4
            have h0 : w.heap.size ≤ w.heap.size := by omega
            have h1 : w.heap.size ≤ w.heap.size + 1 := by omega
            by_cases hform : L = D
            · have hfv := hid (HG.out (by rw [hform, HD.out]))
              have HN := hid (gvS_num most neg (full.drop at') (full.drop at2) n _ hfv.out hn1 (by rw [List.drop_drop, Int.toNat_natCast]; congr 1; omega))
              have hee : ((L : Int) != (D : Int)) = false := by rw [hform]; simp
              clear hfv HG HB hform
              by_cases hng : neg = true ∨ most < n
              · have HN' := hid (show gvS most neg (full.drop at') 0 = (0, full.drop at', 12) by rw [HN.out, if_pos hng])
                clear HN
                rcases hng with hng | hng
                · subst hng
                  go_wp2_with fail
                  exact bodyPost_ret (v := .tuple #[.agg #[.slice b full.length cb, .int .i64 at', .int .i64 12], .int .u64 0]) (by simp [results, Tryz.results89, go_sem, xb0, xb1, xb2]) rfl ⟨0, at', 12, HN'.out, by omega, by omega, ha, rfl, (((kW4.setCell (.inr h0) _).setCell (.inr h1) _).setCell (.inr h1) _).setCell (.inr h1) _⟩
                · cases neg
                  all_goals
                    go_wp2_with fail
                    exact bodyPost_ret (v := .tuple #[.agg #[.slice b full.length cb, .int .i64 at', .int .i64 12], .int .u64 0]) (by simp [results, Tryz.results89, go_sem, xb0, xb1, xb2]) rfl ⟨0, at', 12, HN'.out, by omega, by omega, ha, rfl, (((kW4.setCell (.inr h0) _).setCell (.inr h1) _).setCell (.inr h1) _).setCell (.inr h1) _⟩
              · have HN' := hid (show gvS most neg (full.drop at') 0 = (n, full.drop at2, 0) by rw [HN.out, if_neg hng])
                clear HN
                have hng1 : neg = false := by cases neg <;> simp_all
                have hng2 : ¬ (most < n) := fun h => hng (.inr h)
                clear hng
                subst hng1
                go_wp2_with fail
                exact bodyPost_ret (v := .tuple #[.agg #[.slice b full.length cb, .int .i64 at2, .int .i64 0], .int .u64 n]) (by simp [results, Tryz.results89, go_sem, xb0, xb1, xb2]) rfl ⟨n, at2, 0, HN'.out, hn0, hn1, hmq, rfl, ((kW4.setCell (.inr h1) _).setCell (.inr h1) _).setCell (.inr h1) _⟩
            · have hvb := hid (HB.out (fun h => hform (by rw [h, HD.out])))
              have HN := hid (show gvS most neg (full.drop at') 0 = (0, full.drop at', 11) from gvS_bad _ _ _ _ _ (by omega) hvb.out)
              have hneq : ((L : Int) != (D : Int)) = true := by simp; omega
              clear hvb HG HB hform
              go_wp2_with fail
              exact bodyPost_ret (v := .tuple #[.agg #[.slice b full.length cb, .int .i64 at', .int .i64 11], .int .u64 0]) (by simp [results, Tryz.results89, go_sem, xb0, xb1, xb2]) rfl ⟨0, at', 11, HN.out, by omega, by omega, ha, rfl, (((kW4.setCell (.inr h0) _).setCell (.inr h1) _).setCell (.inr h1) _).setCell (.inr h1) _⟩
        · have hno := takeS_no _ _ _ ht2 he2
          have hat : at2 = at1 := drop_inj full at2 at1 ha2 ha1 hno.2.1
          have hsh : (full.drop at1).length < 8 ∧ e2 = 10 := by
            rcases hno.2.2 with ⟨h1, h2⟩ | ⟨h1, h2, h3⟩
            · exact absurd rfl h1
            · exact ⟨h2, h3⟩
          have HG := hid (show gvS most neg (full.drop at') 0 = (0, full.drop at', e2) from gvS_bad _ _ _ _ _ he2 (fun m => by
            rw [HFR.out, hsh.2]
            exact gv_short f rest 8 HK.out (by omega) (by rw [← HR.out]; exact hsh.1) m))
          have he2' : (e2 == 0) = false := by simpa using he2
          have he2n : (e2 != 0) = true := by simpa using he2
          clear ht2 hno hat hsh
          go_wp2_with fail
          exact bodyPost_ret (v := .tuple #[.agg #[.slice b full.length cb, .int .i64 at', .int .i64 e2], .int .u64 0]) (by simp [results, Tryz.results89, go_sem, qb0, qb1, qb2]) rfl ⟨0, at', e2, HG.out, by omega, by omega, ha, rfl, (((((((kW.setCell (.inr hq) _).setCell (.inr hq) _).setCell (.inr hq) _).setCell (.inr h0) _).setCell (.inr h1) _).setCell (.inr h1) _).setCell (.inr h1) _)⟩
  · have hno := takeS_no _ _ _ ht he1
    have hat : at1 = at' := drop_inj full at1 at' ha1 ha hno.2.1
    have HG := hid (show gvS most neg (full.drop at') e0 = (0, full.drop at', e1) from gvS_bad _ _ _ _ _ he1 (fun m => by
      rcases hno.2.2 with ⟨h1, h2⟩ | ⟨h1, h2, h3⟩
      · rw [h2]; unfold varS; rw [if_pos h1]
      · subst h1
        have : full.drop at' = [] := List.length_eq_zero_iff.1 (by omega)
        rw [this, h3]
        simp [varS, fv]))
    have he1' : (e1 == 0) = false := by simpa using he1
    have he1n : (e1 != 0) = true := by simpa using he1
    rw [hno.1]
    have hnum0 : num [] = 0 := rfl
    rw [hnum0]
    clear ht hno hnum0 hat
    go_wp2_with fail
    exact bodyPost_ret (v := .tuple #[.agg #[.slice b full.length cb, .int .i64 at', .int .i64 e1], .int .u64 0]) (by simp [results, Tryz.results89, go_sem, qb0, qb1, qb2, hne2]) rfl ⟨0, at', e1, HG.out, by omega, by omega, ha, rfl, ((((kw1.setCell (.inr (by simp)) _).setCell (.inr (by simp)) _).setCell (.inr (by simp)) _).setCell (.inr (by simp)) _).alloc _⟩
end Go.Proofs.YtpkoikennimonaaGreatDoor
end

section
namespace Go.Proofs.YtpkoikennimonaaGreatDoor
open Go.RowKit Go.Hay
set_option linter.unusedVariables false

set_option maxHeartbeats 4000000 in
set_option maxRecDepth 100000 in
theorem cRefGetText (b : Option Addr) (cb : Nat) (full : List UInt8) (at' : Nat) (e0 most : Int) (w : World) (hs : Sees w b full) (hl : full.length ≤ cb) (hm : cb ≤ maxLen) (ha : at' ≤ full.length) (hb : full.length ≤ 200000000000000) (hm0 : -9223372036854775808 ≤ most) (hm1 : most ≤ 9223372036854775807) :
    Calls Tryz.prog 90 #[.agg #[.slice b full.length cb, .int .i64 at', .int .i64 e0], .int .i64 most] w (TextPost b cb full at' e0 most w) := by
  have kx : Kp [] w ((w.alloc (.cells #[.slice b full.length cb, .int .i64 at', .int .i64 e0] 141)).alloc (.cells #[.slice none 0 0, .int .i64 0, .int .i64 0] 141)) := ((Kp.refl _ _).alloc _).alloc _
  have bA := (Box3.new w (.slice b full.length cb) (.int .i64 at') (.int .i64 e0) 141).kept (S := []) ((Kp.refl _ _).alloc (.cells #[.slice none 0 0, .int .i64 0, .int .i64 0] 141)) (by simp)
  have bB := Box3.new (w.alloc (.cells #[.slice b full.length cb, .int .i64 at', .int .i64 e0] 141)) (.slice none 0 0) (.int .i64 0) (.int .i64 0) 141
  rw [show (w.alloc (.cells #[.slice b full.length cb, .int .i64 at', .int .i64 e0] 141)).heap.size = w.heap.size + 1 by simp] at bB
  obtain ⟨M, HM⟩ : ∃ M : Int, Hid (IntKind.u64.wrap most = M) := ⟨_, rfl⟩
  have hM := HM.out
  have hM0 : 0 ≤ M := by rw [← hM, IntKind.wrap_u64]; omega
  have hM1 : M < 18446744073709551616 := by rw [← hM, IntKind.wrap_u64]; omega
  have HC := hid (gvS_count most M (full.drop at') e0 (fun h => by rw [← hM, IntKind.wrap_u64]; omega))
  obtain ⟨neg, HN⟩ : ∃ neg : Bool, Hid (decide (most < 0) = neg) := ⟨_, rfl⟩
  rw [HN.out] at HC
  have hneg := HN.out
  go_enter Tryz.func90, Tryz.ntmps90
  go_wp2_with fail
  refine (cRefGetVar b cb full at' e0 M neg _ (hs.kept kx (by simp)) hl hm ha hb hM0 hM1).mono ?_
  rintro e w1 ⟨n, at1, e1, ht, hn0, hn1, ha1, rfl, k1⟩
  have HT := hid (HC.out.symm.trans ht)
  have bA1 := bA.kept k1 (by simp)
  have bB1 := bB.kept k1 (by simp)
  have kw1 := kx.trans k1 (by simp)
  have hQ1 : w.heap.size + 2 ≤ w1.heap.size := by have := k1.size; simpa using this
  have qa0 := bA1.c0
  have qa1 := bA1.c1
  have qa2 := bA1.c2
  have qaf := bA1.free
  have qb0 := bB1.c0
  have qb1 := bB1.c1
  have qb2 := bB1.c2
  have qbf := bB1.free
  have hne1 : w.heap.size < w1.heap.size := by omega
  have hne2 : w.heap.size + 1 < w1.heap.size := by omega
  have h0 : w.heap.size ≤ w.heap.size := by omega
  have h1 : w.heap.size ≤ w.heap.size + 1 := by omega
  clear bA bB kx k1 ht HC HN HM hneg hM
  by_cases he1 : e1 = 0
  · subst he1
    by_cases hsh : (full.length : Int) - at1 < n
    · have HX := hid (textS_short most _ _ _ _ HT.out hn0 (by simp; omega))
      have hw1 : IntKind.i64.wrap ((full.length : Int) - (at1 : Int)) = (full.length : Int) - (at1 : Int) := by rw [IntKind.wrap_i64]; omega
      have hw2 : IntKind.u64.wrap ((full.length : Int) - (at1 : Int)) = (full.length : Int) - (at1 : Int) := by rw [IntKind.wrap_u64]; omega
      clear HT
      go_wp2_with fail
      exact bodyPost_ret (v := .tuple #[.agg #[.slice b full.length cb, .int .i64 at', .int .i64 10], .slice none 0 0]) (by simp [results, Tryz.results90, go_sem, qb0, qb1, qb2, hne2]) rfl ⟨[], at', 10, _, HX.out, ha, rfl, Row.nil _, ((((kw1.setCell (.inr h0) _).setCell (.inr h1) _).setCell (.inr h1) _).setCell (.inr h1) _).alloc _, by simp [own, Value.ownBlock]⟩
    · have HX := hid (textS_good most _ _ _ _ HT.out hn0 (by simp; omega))
      have hw1 : IntKind.i64.wrap ((full.length : Int) - (at1 : Int)) = (full.length : Int) - (at1 : Int) := by rw [IntKind.wrap_i64]; omega
      have hw2 : IntKind.u64.wrap ((full.length : Int) - (at1 : Int)) = (full.length : Int) - (at1 : Int) := by rw [IntKind.wrap_u64]; omega
      have hw3 : IntKind.i64.wrap n = n := by rw [IntKind.wrap_i64]; omega
      clear HT
      go_wp2_with fail
      have kA := (Kp.refl [] w1).alloc (.cells #[.slice b full.length cb, .int .i64 at1, .int .i64 0] 141)
      refine (cRefRaw b cb full at1 0 n _ (hs.kept (kw1.trans kA (by simp)) (by simp)) hl hm ha1 hb (by omega) (by omega)).mono ?_
      rintro e w2 ⟨out, at2, e2, v, hraw, ha2, rfl, hrow, k2, ho⟩
      have HY := hid (HX.out.trans hraw)
      have bB2 := (bB1.kept kA (by simp)).kept k2 (by simp)
      have kW := (kw1.trans kA (by simp)).trans k2 (by simp)
      have ho' : ∀ x ∈ own v, w.heap.size + 2 ≤ x := fun x hx => by have := ho x hx; simp at this; omega
      clear HX hraw k2 ho kA qa0 qa1 qa2 qaf qb0 qb1 qb2 qbf bA1 bB1 kw1
      have qb0 := bB2.c0
      have qb1 := bB2.c1
      have qb2 := bB2.c2
      have qbf := bB2.free
      obtain ⟨bB3, ks⟩ := bB2.setAll (.slice b full.length cb) (.int .i64 at2) (.int .i64 e2)
      obtain ⟨a3, c3, rfl, s3, _⟩ := hrow.sees
      have hrow3 := hrow.kept ks (fun x hx hm => by have := ho' x hx; simp at hm; omega)
      have kW3 := kW.trans ks (fun x hx => .inr (by simp at hx; omega))
      have z0 := bB3.c0
      have z1 := bB3.c1
      have z2 := bB3.c2
      clear bB3 bB2 ks kW s3 hrow
      go_wp2_with fail
      exact bodyPost_ret (v := .tuple #[.agg #[.slice b full.length cb, .int .i64 at2, .int .i64 e2], .slice a3 out.length c3]) (by simp [results, Tryz.results90, go_sem, z0, z1, z2]) rfl ⟨out, at2, e2, _, HY.out, ha2, rfl, hrow3, kW3, fun x hx => by have := ho' x hx; omega⟩
  · obtain ⟨hn, hr⟩ := countS_bad _ _ _ HT.out he1
    have hat : at1 = at' := drop_inj full at1 at' ha1 ha hr
    subst hat
    subst hn
    have HX := hid (textS_bad most _ _ _ HT.out he1)
    have he1' : (e1 == 0) = false := by simpa using he1
    have he1n : (e1 != 0) = true := by simpa using he1
    clear HT
    go_wp2_with fail
    exact bodyPost_ret (v := .tuple #[.agg #[.slice b full.length cb, .int .i64 at1, .int .i64 e1], .slice none 0 0]) (by simp [results, Tryz.results90, go_sem, qb0, qb1, qb2, hne2]) rfl ⟨[], at1, e1, _, HX.out, ha, rfl, Row.nil _, (((kw1.setCell (.inr h1) _).setCell (.inr h1) _).setCell (.inr h1) _).alloc _, by simp [own, Value.ownBlock]⟩
end Go.Proofs.YtpkoikennimonaaGreatDoor
end

section
namespace Go.Proofs.YtpkoikennimonaaGreatDoor
open Go.RowKit Go.Hay
set_option linter.unusedVariables false
set_option linter.unusedSimpArgs false

/-- So many texts of 16777216 bytes at most, up to the first that fails. -/
def lstS : Nat → List UInt8 → Int → List (List UInt8) × List UInt8 × Int
  | 0, bs, e => ([], bs, e)
  | n + 1, bs, e => if e ≠ 0 then ([], bs, e) else if (textS 16777216 bs e).2.2 = 0 then ((textS 16777216 bs e).1 :: (lstS n (textS 16777216 bs e).2.1 0).1, (lstS n (textS 16777216 bs e).2.1 0).2) else ([], (textS 16777216 bs e).2)
theorem lstS_err (n : Nat) (bs : List UInt8) (e : Int) (h : e ≠ 0) : lstS n bs e = ([], bs, e) := by
  cases n with
  | zero => rfl
  | succ n => rw [lstS, if_pos h]
theorem lstS_good (n : Nat) (bs bs' out : List UInt8) (h : textS 16777216 bs 0 = (out, bs', 0)) : lstS (n + 1) bs 0 = (out :: (lstS n bs' 0).1, (lstS n bs' 0).2) := by
  rw [lstS, if_neg (by simp), h, if_pos rfl]
theorem lstS_bad (n : Nat) (bs bs' out : List UInt8) (e : Int) (he : e ≠ 0) (h : textS 16777216 bs 0 = (out, bs', e)) : lstS (n + 1) bs 0 = ([], bs', e) := by
  rw [lstS, if_neg (by simp), h, if_neg he]

theorem varB_some (n : Int) : 0 < (varB n).length := by
  unfold varB
  repeat' split
  all_goals simp
theorem textS_shorter {bs bs' out : List UInt8} (h : textS 16777216 bs 0 = (out, bs', 0)) : bs'.length < bs.length := by
  obtain ⟨⟨n, r, e1⟩, hc⟩ : ∃ c, varS 16777216 bs 0 = c := ⟨_, rfl⟩
  have hcs := varS_cases 16777216 bs (by omega) hc
  have hcc : countS 16777216 bs 0 = (n, r, e1) := by unfold countS; rw [if_pos (by omega)]; exact hc
  unfold textS at h
  rw [hcc] at h
  dsimp only at h
  split at h
  · rename_i h1
    exact absurd (congrArg (fun x => x.2.2) h) h1
  · unfold rawS at h
    rw [if_neg (by omega)] at h
    obtain ⟨he, _, _, hb'⟩ := takeS_ok _ _ _ h
    have h2 := (hcs.2.2.2.2 he).2
    have h3 := varB_some n
    rw [h2, List.length_take] at h3
    have := congrArg List.length hb'
    rw [List.length_drop] at this
    omega

theorem textS_same {bs bs' out : List UInt8} {e e' : Int} (h : textS 16777216 bs e = (out, bs', e')) (he : e' ≠ 0) : bs' = bs := by
  unfold textS at h
  split at h
  · cases h; rfl
  · rename_i h1
    rw [h] at h1
    exact absurd he h1

theorem RowL.low {m n0 : Nat} {w : World} {v : Value} {L : List (List UInt8)} (h : RowL n0 w v L) (hm : m ≤ n0) : RowL m w v L := by
  obtain ⟨vs, hvl, hs, hfr, hel⟩ := h
  exact ⟨vs, hvl, hs, fun k hk => Nat.le_trans hm (hfr k hk), fun j y ob hy hob => ⟨(hel j y ob hy hob).1, fun k hk => ⟨Nat.le_trans hm ((hel j y ob hy hob).2 k hk).1, ((hel j y ob hy hob).2 k hk).2⟩⟩⟩
end Go.Proofs.YtpkoikennimonaaGreatDoor
end

section
namespace Go.Hay
open Go.RowKit
set_option linter.unusedVariables false

variable {F : Fence} {n : Nat} {P : Program} {σ α : Type}

/-- What an iterator that stands at some s of σ promises: it hands on things x (as encs x), each behind a step T of its own, which may turn memory; a round that goes on takes it from s to nx s x and keeps what K says; S: it is at its end; Sp: a round has said 'no more'. -/
def SeqT (F : Fence) (n : Nat) (P : Program) (g : Nat) (lb : Array Value) (encs : α → Array Value) (T : σ → σ → World → World → Prop) (K : World → World → Prop) (ok : σ → α → Prop) (nx : σ → α → σ) (S Sp : σ → Prop) (s0 : σ) (w : World) : Prop :=
  ∀ (l : Nat) (J Jx : σ → World → Prop) (W : World), K w W → (∀ s s' A B, J s A → T s s' A B → J s' B) →
    (∀ s x A, J s A → ok s x → YieldAt F (n - 1) P l (encs x) A fun e A' => (e = .returned (.bool true) ∧ J (nx s x) A' ∧ K A A') ∨ (e = .returned (.bool false) ∧ Jx (nx s x) A')) →
    J s0 W → CallsIn F n P g (#[.func (.yield l) #[] #[]] ++ lb) W fun e A' => (∃ v, e = .returned v) ∧ ((∃ s, S s ∧ J s A') ∨ (∃ s, Sp s ∧ Jx s A'))

/-- How a round's body may be left: B: from which block on whatever is no cells must lie as it lay. -/
def leftT (B : Nat) (K : World → World → Prop) (I : σ → World → Prop) (Ix : Code → σ → World → Prop) (s : σ) (W : World) : Exit → Act → World → Prop
  | .normal, _, W' => KeepsFrom B W W' ∧ K W W' ∧ I s W'
  | .ret, _, W' => KeepsFrom B W W' ∧ Ix .ret s W'
  | .exit id, _, W' => KeepsFrom B W W' ∧ Ix (.exit id) s W'
  | .goto t, _, W' => KeepsFrom B W W' ∧ Ix (.goto t) s W'
  | _, _, _ => False

/-- The law. -/
theorem wpRangeT {g : Operand} {ps : Array Tmp} {assign body : Code} {Q : Exit → Act → World → Prop} {a : Act} {w : World}
    (hro : F.round = none) (h1 : 1 ≤ n) {gf : Nat} {lb : Array Value} (hg : a.eval g = .func (.func gf) #[] lb) (hFg : F.fn gf) (eg : ∀ args w, (callFunc gf args).run P w = .ok (.enter gf args) w)
    {encs : α → Array Value} {T : σ → σ → World → World → Prop} {K : World → World → Prop} {ok : σ → α → Prop} {nx : σ → α → σ} {S Sp : σ → Prop} {s0 : σ} {w0 : World}
    (hseq : SeqT F (n - 1) P gf lb encs T K ok nx S Sp s0 w0) (hps : ∀ x, (encs x).size = ps.size)
    (hKt : ∀ {A B C : World}, K A B → K B C → K A C) (hKa : ∀ W o, K W (W.alloc o)) (hKb : ∀ (W : World) (l : Nat) (o o' : Obj), w.heap.size ≤ l → W.heap[l]? = some o → o.isCells = false → K W (W.putObj l o')) (hb0 : K w0 w)
    (hTk : ∀ s s' A B, T s s' A B → KeepsFrom w.heap.size A B)
    (I : σ → World → Prop) (Ix : Code → σ → World → Prop) (hI : OwnFrom w.heap.size I) (hIx : ∀ c, OwnFrom w.heap.size (Ix c)) (hIT : ∀ s s' A B, I s A → T s s' A B → I s' B) (h0 : I s0 w)
    (a₁ : α → Act) (hassign : ∀ (l : Nat) (x : α) (W : World) (C : Act → World → Prop), C (a₁ x) W →
      assign.wpIn (F.inRound l) (n - 1 - 1) P (Exit.then C (fun _ _ _ => False)) { tmps := (ps.zip (encs x)).foldl (fun t (p, v) => t.setIfInBounds p v) a.tmps, defers := [] } W)
    (hbody : ∀ (l : Nat) (s : σ) (x : α) (W : World), I s W → ok s x → body.wpIn (F.inRound l) (n - 1 - 1) P (leftT w.heap.size K I Ix (nx s x) W) (a₁ x) W)
    (hdone : ∀ (D : Nat) (s : σ) (W : World), w.heap.size ≤ D → S s → I s W → W.heap[D]? = some (.deferred (some [])) → Q .normal { a with defers := { target := .collected D, args := #[] } :: a.defers } W)
    (hstop : ∀ (D : Nat) (c : Code) (s : σ) (W : World), w.heap.size ≤ D → Sp s → Ix c s W → W.heap[D]? = some (.deferred (some [])) → c.wpIn F n P Q { a with defers := { target := .collected D, args := #[] } :: a.defers } W) :
    (Code.rangeFunc g ps assign body).wpIn F n P Q a w := by
  refine wpIn_rangeFunc fun fn hfn => ?_
  rw [hro]
  -- the loop's record, as it may stand
  let R : LoopState → Option Code → Obj := fun st pe => .loop { state := st, pending := pe, fn, tmps := a.tmps, params := ps, assign, body, defers := w.heap.size }
  let Bk : LoopState → Option Code → World → Prop := fun st pe W => W.heap[w.heap.size + 1]? = some (R st pe) ∧ W.heap[w.heap.size]? = some (.deferred (some []))
  have bkK : ∀ {st pe A B}, KeepsFrom w.heap.size A B → Bk st pe A → Bk st pe B := fun hk hb => ⟨hk.same _ _ (by omega) hb.1 rfl, hk.same _ _ (Nat.le_refl _) hb.2 rfl⟩
  have bkP : ∀ {st pe st' pe' A}, Bk st pe A → Bk st' pe' (A.putObj (w.heap.size + 1) (R st' pe')) := fun hb =>
    ⟨World.putObj_heap_same (Array.getElem?_eq_some_iff.1 hb.1).1, (World.putObj_heap_other (by omega)).trans hb.2⟩
  have iP : ∀ {st pe s A} (o : Obj), Bk st pe A → I s A → I s (A.putObj (w.heap.size + 1) o) := fun o hb hi => hI.putObj o hi (by omega) hb.1 rfl
  have ixP : ∀ {st pe s c A} (o : Obj), Bk st pe A → Ix c s A → Ix c s (A.putObj (w.heap.size + 1) o) := fun o hb hi => (hIx _).putObj o hi (by omega) hb.1 rfl
  have kP : ∀ {st pe A} (o : Obj), Bk st pe A → K A (A.putObj (w.heap.size + 1) o) := fun o hb => hKb _ _ _ _ (by omega) hb.1 rfl
  have b0 : Bk .ready none ((w.alloc (.deferred (some []))).alloc (R .ready none)) :=
    ⟨by have := World.alloc_heap_new (w.alloc (.deferred (some []))) (R .ready none); rwa [World.size_alloc] at this, (Below.heap_alloc _ _ _ (by simp)).trans (World.alloc_heap_new w _)⟩
  refine ⟨w.heap.size + 1, [{ target := .collected w.heap.size, args := #[] }], ((w.alloc (.deferred (some []))).alloc (R .ready none)), { target := .fn (.func gf) lb, args := #[.func (.yield (w.heap.size + 1)) #[] #[]] }, ((w.alloc (.deferred (some []))).alloc (R .ready none)), gf, #[.func (.yield (w.heap.size + 1)) #[] #[]] ++ lb, ((w.alloc (.deferred (some []))).alloc (R .ready none)),
    run_enterLoop_outer _ _ _ _ _, by simp only [resolve, hg]; simp [go_sem], fun f' hf' => by simp [Target.leads] at hf'; subst hf'; exact hFg, by simp [invoke, go_sem, eg], fun _ => h1, ?_⟩
  refine (hseq (w.heap.size + 1) (fun s A => I s A ∧ Bk .ready none A) (fun s A => ∃ c, Ix c s A ∧ Bk .done (some c) A) _ (hKt hb0 (hKt (hKa _ _) (hKa _ _)))
    (fun s s' A B hs ht => ⟨hIT s s' A B hs.1 ht, bkK (hTk s s' A B ht) hs.2⟩) ?_ ⟨hI.alloc _ (hI.alloc _ h0), b0⟩).mono ?_
  · -- one round
    rintro s x A ⟨hi, hb⟩ hok
    refine ⟨fn, _, assign, body, run_yield hb.1 (hps x), roundIn_of_wpIn hfn (hassign _ x A _ ⟨_, run_beginRound hb.1 rfl, ?_⟩)⟩
    have hb2 : Bk .busy none (A.putObj (w.heap.size + 1) (R .busy none)) := bkP hb
    refine wpIn_mono (hbody _ s x _ (iP _ hb hi) hok) ?_
    rintro e a3 W3 hp
    cases e with
    | normal =>
      have hb3 := bkK hp.1 hb2
      exact ⟨_, _, run_endRound none hb3.1, .inl ⟨rfl, ⟨iP _ hb3 hp.2.2, bkP hb3⟩, hKt (kP _ hb) (hKt hp.2.1 (kP _ hb3))⟩⟩
    | ret => have hb3 := bkK hp.1 hb2; exact ⟨_, _, run_endRound (some .ret) hb3.1, .inr ⟨rfl, .ret, ixP _ hb3 hp.2, bkP hb3⟩⟩
    | exit id => have hb3 := bkK hp.1 hb2; exact ⟨_, _, run_endRound (some (.exit id)) hb3.1, .inr ⟨rfl, .exit id, ixP _ hb3 hp.2, bkP hb3⟩⟩
    | goto t => have hb3 := bkK hp.1 hb2; exact ⟨_, _, run_endRound (some (.goto t)) hb3.1, .inr ⟨rfl, .goto t, ixP _ hb3 hp.2, bkP hb3⟩⟩
    | panic ch => exact hp.elim
    | outgrown => exact hp.elim
  · -- behind the iterator
    rintro e A ⟨⟨v, rfl⟩, (⟨s, hS, hi, hb⟩ | ⟨s, hSp, c, hi, hb⟩)⟩
    · exact ⟨none, _, run_endLoop hb.1 (by simp), hdone _ s _ (Nat.le_refl _) hS (iP _ hb hi) ((World.putObj_heap_other (by omega)).trans hb.2)⟩
    · exact ⟨some c, _, run_endLoop hb.1 (by simp), hstop _ c s _ (Nat.le_refl _) hSp (ixP _ hb hi) ((World.putObj_heap_other (by omega)).trans hb.2)⟩
end Go.Hay
end

section
namespace Go.Proofs.YtpkoikennimonaaGreatDoor
open Go.RowKit Go.Hay Go.Shelf
attribute [local go_sem] Oper.semAt_some
set_option linter.unusedVariables false
set_option linter.unusedSimpArgs false

/-- How the iterator stands: so many things given, so many left, the reader's bytes and error, whether it has begun, the thing at hand. -/
structure St where
  k : Nat
  m : Nat
  bs : List UInt8
  e : Int
  go : Bool
  pend : Option (Value × List UInt8)
/-- Blocks that are not turned. -/
def Away (Js : List Nat) (A B : World) : Prop := ∃ S, Kp S A B ∧ ∀ j ∈ Js, j ∉ S
theorem Away.trans {Js : List Nat} {A B C : World} (h : Away Js A B) (k : Away Js B C) : Away Js A C := by
  obtain ⟨S, h1, h2⟩ := h
  obtain ⟨S', k1, k2⟩ := k
  exact ⟨S ++ S', (h1.mono (T := S ++ S') (fun x hx => .inl (by simp [hx]))).trans k1 (fun x hx => .inl (by simp [hx])), fun j hj hm => by rcases List.mem_append.1 hm with h | h; exact h2 j hj h; exact k2 j hj h⟩
theorem Away.alloc (Js : List Nat) (W : World) (o : Obj) : Away Js W (W.alloc o) := ⟨[], (Kp.refl _ _).alloc _, fun _ _ h => by cases h⟩
theorem Away.putObj {Js : List Nat} {B : Nat} (hB : ∀ j ∈ Js, j < B) (W : World) (l : Nat) (o : Obj) (hl : B ≤ l) : Away Js W (W.putObj l o) :=
  ⟨[l], ⟨rfl, rfl, rfl, by simp, fun k hk hn => World.putObj_heap_other (by simpa using hn)⟩, fun j hj hm => by have := hB j hj; simp at hm; omega⟩
theorem Away.rd {Js : List Nat} {A B : World} {p : Nat} {D : List Nat} {bs : List UInt8} {e : Int} (h : Away Js A B) (hr : Rd A p D bs e) (hp : p ∈ Js) (hD : ∀ k ∈ D, k ∈ Js) : Rd B p D bs e := by
  obtain ⟨S, h1, h2⟩ := h
  exact hr.kept h1 (h2 p hp) (fun k hk => h2 k (hD k hk))
theorem Away.cell {Js : List Nat} {A B : World} {q : Nat} {v : Value} (h : Away Js A B) (hq : q ∈ Js) (hc : A.cell? ⟨q, 0, none⟩ = some v) : B.cell? ⟨q, 0, none⟩ = some v := by
  obtain ⟨S, h1, h2⟩ := h
  exact (h1.cell (p := ⟨q, 0, none⟩) (World.block_lt_of_cell? _ _ hc) (h2 q hq)).trans hc
/-- A step of the iterator's own: it has counted; or it has read a thing. -/
def Turn (p : Nat) (D : List Nat) (most : Int) (s s' : St) (A B : World) : Prop :=
  Kp [p] A B ∧ Rd B p D s'.bs s'.e ∧
  ((s.go = false ∧ ∃ n, countS most s.bs s.e = (n, s'.bs, s'.e) ∧ 0 ≤ n ∧ s' = ⟨s.k, n.toNat, s'.bs, s'.e, true, none⟩) ∨
   (s.go = true ∧ s.pend = none ∧ s.e = 0 ∧ 0 < s.m ∧ ∃ v out, textS 16777216 s.bs 0 = (out, s'.bs, s'.e) ∧ s' = ⟨s.k, s.m, s'.bs, s'.e, true, some (v, out)⟩ ∧ Row B v out ∧ ∀ j ∈ own v, A.heap.size ≤ j))
/-- Behind a round. -/
def St.nx (s : St) (x : Nat × Value × List UInt8) : St := ⟨s.k + 1, s.m - 1, s.bs, s.e, s.go, none⟩

theorem textS_le {bs bs' out : List UInt8} {e' : Int} (h : textS 16777216 bs 0 = (out, bs', e')) : bs'.length ≤ bs.length := by
  by_cases he : e' = 0
  · subst he; exact Nat.le_of_lt (textS_shorter h)
  · rw [textS_same h he]; exact Nat.le_refl _

set_option maxHeartbeats 8000000 in
set_option maxRecDepth 100000 in
theorem itemsSeq (n : Nat) (hn : 1 ≤ n) (p q1 q2 q3 : Nat) (D : List Nat) (most : Int) (hm0 : -9223372036854775808 ≤ most) (hm1 : most ≤ 9223372036854775807) (full : List UInt8) (e0 : Int) (w : World)
    (h1 : w.cell? ⟨q1, 0, none⟩ = some (.pointer (some ⟨p, 0, none⟩))) (h2 : w.cell? ⟨q2, 0, none⟩ = some (.int .i64 most)) (h3 : w.cell? ⟨q3, 0, none⟩ = some (.func (.func 58) #[] #[])) (hr : Rd w p D full e0)
    (hq : p ≠ q1 ∧ p ≠ q2 ∧ p ≠ q3) (hb : ∀ N bs1 e1, countS most full e0 = (N, bs1, e1) → bs1.length ≤ 200000000000000) :
    SeqT Fence.wide n Tryz.prog 84 #[.pointer (some ⟨q1, 0, none⟩), .pointer (some ⟨q2, 0, none⟩), .pointer (some ⟨q3, 0, none⟩)] (fun x : Nat × Value × List UInt8 => #[.int .i64 x.1, x.2.1]) (Turn p D most) (Away (p :: q1 :: q2 :: q3 :: D))
      (fun s x => s.e = 0 ∧ s.pend = some (x.2.1, x.2.2) ∧ x.1 = s.k) St.nx (fun s => s.go = true ∧ ((s.m = 0 ∧ s.pend = none) ∨ s.e ≠ 0)) (fun s => s.go = true ∧ s.e = 0 ∧ s.pend = none) ⟨0, 0, full, e0, false, none⟩ w := by
  intro l J Jx W hW hT hY h0
  have g1 := hW.cell (by simp) h1
  have g2 := hW.cell (by simp) h2
  have g3 := hW.cell (by simp) h3
  have gr := hW.rd hr (by simp) (fun k hk => by simp [hk])
  have hcells : ∀ {A B : World}, Kp [p] A B → A.cell? ⟨q1, 0, none⟩ = some (.pointer (some ⟨p, 0, none⟩)) → A.cell? ⟨q2, 0, none⟩ = some (.int .i64 most) → A.cell? ⟨q3, 0, none⟩ = some (.func (.func 58) #[] #[]) →
      B.cell? ⟨q1, 0, none⟩ = some (.pointer (some ⟨p, 0, none⟩)) ∧ B.cell? ⟨q2, 0, none⟩ = some (.int .i64 most) ∧ B.cell? ⟨q3, 0, none⟩ = some (.func (.func 58) #[] #[]) := fun hk a b c =>
    ⟨(hk.cell (World.block_lt_of_cell? _ _ a) (by simp; omega)).trans a, (hk.cell (World.block_lt_of_cell? _ _ b) (by simp; omega)).trans b, (hk.cell (World.block_lt_of_cell? _ _ c) (by simp; omega)).trans c⟩
  clear h1 h2 h3 hr hW
  refine callsIn_of_wp Tryz.func84 rfl trivial ?_ rfl
  simp only [Tryz.ntmps84, List.size_toArray, List.length_cons, List.length_nil, Nat.reduceAdd, Nat.reduceSub, Array.replicate_succ, Array.replicate_zero, List.push_toArray, List.append_toArray, List.nil_append, List.cons_append]
  gi_wp2_with fail
  refine ⟨trivial, (callsIn_wide.2 (rCount p D full e0 most W gr hm0 hm1)).mono ?_⟩
  rintro e w1 ⟨N, bs1, e1, hc, rfl, hN0, hN1, hrd, hk1⟩
  have hbl := hb N bs1 e1 hc
  have hJ1 : J ⟨0, N.toNat, bs1, e1, true, none⟩ w1 := hT _ _ _ _ h0 ⟨hk1, hrd, .inl ⟨rfl, N, hc, hN0, rfl⟩⟩
  obtain ⟨c1, c2, c3⟩ := hcells hk1 g1 g2 g3
  clear g1 g2 g3 gr hc hk1 h0 hb
  gi_wp2_with fail
  gi_loopw [10] (fun i wr => ∃ s : St, i = .int .i64 s.k ∧ s.go = true ∧ s.pend = none ∧ Hid ((s.k : Int) + s.m = N) ∧ (s.k : Int) ≤ N ∧ J s wr ∧ Rd wr p D s.bs s.e ∧ s.bs.length ≤ 200000000000000 ∧ wr.cell? ⟨q1, 0, none⟩ = some (.pointer (some ⟨p, 0, none⟩)) ∧ wr.cell? ⟨q2, 0, none⟩ = some (.int .i64 most) ∧ wr.cell? ⟨q3, 0, none⟩ = some (.func (.func 58) #[] #[])) (fun i _ => (N - intOf i).toNat)
  case atStart => exact ⟨_, rfl, rfl, rfl, by show ((0 : Nat) : Int) + (N.toNat : Nat) = N; omega, by simpa using hN0, hJ1, hrd, hbl, c1, c2, c3⟩
  case round =>
    obtain ⟨s, rfl, hgo, hpe, hkm, hkN, hJ, hR, hbs, d1, d2, d3⟩ := hrel
    by_cases hkn : (s.k : Int) < N
    · have her := hR.err
      have hplt := hR.lt
      by_cases he : s.e = 0
      · have hSh := cTakeRec p D s.bs s.e wr hR hbs
        rw [he] at her hSh
        have HE := hid he
        clear he
        gi_wp2_with fail
        refine ⟨trivial, (callsIn_wide.2 hSh).mono ?_⟩
        rintro e w2 ⟨out, bs', e', v, ht, rfl, hrow, hown, hrd2, hk2⟩
        have hmp : 0 < s.m := by have := hkm.out; omega
        have hJ2 : J ⟨s.k, s.m, bs', e', true, some (v, out)⟩ w2 := hT s _ _ _ hJ ⟨hk2, hrd2, .inr ⟨hgo, hpe, HE.out, hmp, v, out, ht, rfl, hrow, hown⟩⟩
        have hbs2 : bs'.length ≤ 200000000000000 := Nat.le_trans (textS_le ht) hbs
        obtain ⟨f1, f2, f3⟩ := hcells hk2 d1 d2 d3
        have her2 := hrd2.err
        have hplt2 := hrd2.lt
        obtain ⟨av, cv, rfl, _⟩ := hrow.shape
        clear d1 d2 d3 her hplt hSh ht hown hk2 hJ
        by_cases he2 : e' = 0
        · subst he2
          obtain ⟨fn, tmps, assign, body, hy, hRd⟩ := hY _ (s.k, .slice av out.length cv, out) w2 hJ2 ⟨rfl, rfl, rfl⟩
          dsimp only at hy
          gi_wp2_with fail
          refine hRd.mono ?_
          rintro e w3 (⟨rfl, hJ3, hk3⟩ | ⟨rfl, hJx3⟩)
          · have r3 := hk3.rd hrd2 (by simp) (fun k hk => by simp [hk])
            have x1 := hk3.cell (by simp) f1
            have x2 := hk3.cell (by simp) f2
            have x3 := hk3.cell (by simp) f3
            clear f1 f2 f3 hrow hrd2 her2 hplt2 hy
            gi_wp2_with fail
            go_roundw
            case rel => exact ⟨_, by simp [St.nx], rfl, rfl, by show (((s.k + 1 : Nat) : Int) + ((s.m - 1 : Nat) : Int)) = N; have := hkm.out; omega, by show ((s.k + 1 : Nat) : Int) ≤ N; omega, hJ3, r3, hbs2, x1, x2, x3⟩
            case measure => simp [intOf]; omega
          · gi_wp2_with fail
            refine bodyPost_ret (results_none rfl _ _ _) rfl ?_
            exact ⟨⟨_, rfl⟩, .inr ⟨_, ⟨rfl, rfl, rfl⟩, hJx3⟩⟩
        · have he' : (e' == 0) = false := by simpa using he2
          have he3 : (e' != 0) = true := by simpa using he2
          have HX := hid he2
          clear he2
          gi_wp2_with fail
          refine ⟨fun _ h => (by cases h), ?_⟩
          gi_wp2_with fail
          refine bodyPost_ret (results_none rfl _ _ _) rfl ?_
          exact ⟨⟨_, rfl⟩, .inl ⟨_, ⟨rfl, .inr HX.out⟩, hJ2⟩⟩
      · have he' : (s.e == 0) = false := by simpa using he
        have he2 : (s.e != 0) = true := by simpa using he
        have HX := hid he
        clear he
        gi_wp2_with fail
        refine bodyPost_ret (results_none rfl _ _ _) rfl ?_
        exact ⟨⟨_, rfl⟩, .inl ⟨s, ⟨hgo, .inr HX.out⟩, hJ⟩⟩
    · have hm : s.m = 0 := by have := hkm.out; omega
      gi_wp2_with fail
      go_end0
      exact ⟨⟨_, rfl⟩, .inl ⟨s, ⟨hgo, .inl ⟨hm, hpe⟩⟩, hJ⟩⟩
end Go.Proofs.YtpkoikennimonaaGreatDoor
end

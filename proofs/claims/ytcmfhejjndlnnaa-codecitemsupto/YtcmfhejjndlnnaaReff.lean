/- The reference's GetText. -/
import Derived.Test.YtcmfhejjndlnnaaReft
import Derived.Test.YtcmfhejjndlnnaaRefw
namespace Go.Proofs.Ytcmfhejjndlnnaa
open Go.RowKit Go.Hay
set_option linter.unusedVariables false

set_option maxHeartbeats 4000000 in
set_option maxRecDepth 100000 in
theorem cRefGetText (b : Option Addr) (cb : Nat) (full : List UInt8) (at' : Nat) (e0 most : Int) (w : World) (hs : Sees w b full) (hl : full.length ≤ cb) (hm : cb ≤ maxLen) (ha : at' ≤ full.length) (hb : full.length ≤ 200000000000000) (hm0 : -9223372036854775808 ≤ most) (hm1 : most ≤ 9223372036854775807) :
    Calls Try.prog 25 #[.agg #[.slice b full.length cb, .int .i64 at', .int .i64 e0], .int .i64 most] w (TextPost b cb full at' e0 most w) := by
  have kx : Kp [] w ((w.alloc (.cells #[.slice b full.length cb, .int .i64 at', .int .i64 e0] 31)).alloc (.cells #[.slice none 0 0, .int .i64 0, .int .i64 0] 31)) := ((Kp.refl _ _).alloc _).alloc _
  have bA := (Box3.new w (.slice b full.length cb) (.int .i64 at') (.int .i64 e0) 31).kept (S := []) ((Kp.refl _ _).alloc (.cells #[.slice none 0 0, .int .i64 0, .int .i64 0] 31)) (by simp)
  have bB := Box3.new (w.alloc (.cells #[.slice b full.length cb, .int .i64 at', .int .i64 e0] 31)) (.slice none 0 0) (.int .i64 0) (.int .i64 0) 31
  rw [show (w.alloc (.cells #[.slice b full.length cb, .int .i64 at', .int .i64 e0] 31)).heap.size = w.heap.size + 1 by simp] at bB
  obtain ⟨M, HM⟩ : ∃ M : Int, Hid (IntKind.u64.wrap most = M) := ⟨_, rfl⟩
  have hM := HM.out
  have hM0 : 0 ≤ M := by rw [← hM, IntKind.wrap_u64]; omega
  have hM1 : M < 18446744073709551616 := by rw [← hM, IntKind.wrap_u64]; omega
  have HC := hid (gvS_count most M (full.drop at') e0 (fun h => by rw [← hM, IntKind.wrap_u64]; omega))
  obtain ⟨neg, HN⟩ : ∃ neg : Bool, Hid (decide (most < 0) = neg) := ⟨_, rfl⟩
  rw [HN.out] at HC
  have hneg := HN.out
  go_enter Try.func25, Try.ntmps25
  go_wp2_with fail
  refine (cRefGetVar b cb full at' e0 M neg _ (hs.kept kx (by simp)) hl hm ha hb hM0 hM1).mono ?_
  rintro e w1 ⟨n, at1, e1, ht, hn0, hn1, ha1, rfl, k1⟩
  have HT := hid (HC.out.symm.trans ht)
  have bA1 := bA.kept k1 (by simp)
  have bB1 := bB.kept k1 (by simp)
  have kw1 := kx.trans k1 (by simp)
  have hQ1 : w.heap.size + 2 ≤ w1.heap.size := by have := k1.size; simpa using this
  have qa0 := bA1.c0
  have qa1 := bA1.c1
  have qa2 := bA1.c2
  have qaf := bA1.free
  have qb0 := bB1.c0
  have qb1 := bB1.c1
  have qb2 := bB1.c2
  have qbf := bB1.free
  have hne1 : w.heap.size < w1.heap.size := by omega
  have hne2 : w.heap.size + 1 < w1.heap.size := by omega
  have h0 : w.heap.size ≤ w.heap.size := by omega
  have h1 : w.heap.size ≤ w.heap.size + 1 := by omega
  clear bA bB kx k1 ht HC HN HM hneg hM
  by_cases he1 : e1 = 0
  · subst he1
    by_cases hsh : (full.length : Int) - at1 < n
    · have HX := hid (textS_short most _ _ _ _ HT.out hn0 (by simp; omega))
      have hw1 : IntKind.i64.wrap ((full.length : Int) - (at1 : Int)) = (full.length : Int) - (at1 : Int) := by rw [IntKind.wrap_i64]; omega
      have hw2 : IntKind.u64.wrap ((full.length : Int) - (at1 : Int)) = (full.length : Int) - (at1 : Int) := by rw [IntKind.wrap_u64]; omega
      clear HT
      go_wp2_with fail
      exact bodyPost_ret (v := .tuple #[.agg #[.slice b full.length cb, .int .i64 at', .int .i64 10], .slice none 0 0]) (by simp [results, Try.results25, go_sem, qb0, qb1, qb2, hne2]) rfl ⟨[], at', 10, _, HX.out, ha, rfl, Row.nil _, ((((kw1.setCell (.inr h0) _).setCell (.inr h1) _).setCell (.inr h1) _).setCell (.inr h1) _).alloc _, by simp [own, Value.ownBlock]⟩
    · have HX := hid (textS_good most _ _ _ _ HT.out hn0 (by simp; omega))
      have hw1 : IntKind.i64.wrap ((full.length : Int) - (at1 : Int)) = (full.length : Int) - (at1 : Int) := by rw [IntKind.wrap_i64]; omega
      have hw2 : IntKind.u64.wrap ((full.length : Int) - (at1 : Int)) = (full.length : Int) - (at1 : Int) := by rw [IntKind.wrap_u64]; omega
      have hw3 : IntKind.i64.wrap n = n := by rw [IntKind.wrap_i64]; omega
      clear HT
      go_wp2_with fail
      have kA := (Kp.refl [] w1).alloc (.cells #[.slice b full.length cb, .int .i64 at1, .int .i64 0] 31)
      refine (cRefRaw b cb full at1 0 n _ (hs.kept (kw1.trans kA (by simp)) (by simp)) hl hm ha1 hb (by omega) (by omega)).mono ?_
      rintro e w2 ⟨out, at2, e2, v, hraw, ha2, rfl, hrow, k2, ho⟩
      have HY := hid (HX.out.trans hraw)
      have bB2 := (bB1.kept kA (by simp)).kept k2 (by simp)
      have kW := (kw1.trans kA (by simp)).trans k2 (by simp)
      have ho' : ∀ x ∈ own v, w.heap.size + 2 ≤ x := fun x hx => by have := ho x hx; simp at this; omega
      clear HX hraw k2 ho kA qa0 qa1 qa2 qaf qb0 qb1 qb2 qbf bA1 bB1 kw1
      have qb0 := bB2.c0
      have qb1 := bB2.c1
      have qb2 := bB2.c2
      have qbf := bB2.free
      obtain ⟨bB3, ks⟩ := bB2.setAll (.slice b full.length cb) (.int .i64 at2) (.int .i64 e2)
      obtain ⟨a3, c3, rfl, s3, _⟩ := hrow.sees
      have hrow3 := hrow.kept ks (fun x hx hm => by have := ho' x hx; simp at hm; omega)
      have kW3 := kW.trans ks (fun x hx => .inr (by simp at hx; omega))
      have z0 := bB3.c0
      have z1 := bB3.c1
      have z2 := bB3.c2
      clear bB3 bB2 ks kW s3 hrow
      go_wp2_with fail
      exact bodyPost_ret (v := .tuple #[.agg #[.slice b full.length cb, .int .i64 at2, .int .i64 e2], .slice a3 out.length c3]) (by simp [results, Try.results25, go_sem, z0, z1, z2]) rfl ⟨out, at2, e2, _, HY.out, ha2, rfl, hrow3, kW3, fun x hx => by have := ho' x hx; omega⟩
  · obtain ⟨hn, hr⟩ := countS_bad _ _ _ HT.out he1
    have hat : at1 = at' := drop_inj full at1 at' ha1 ha hr
    subst hat
    subst hn
    have HX := hid (textS_bad most _ _ _ HT.out he1)
    have he1' : (e1 == 0) = false := by simpa using he1
    have he1n : (e1 != 0) = true := by simpa using he1
    clear HT
    go_wp2_with fail
    exact bodyPost_ret (v := .tuple #[.agg #[.slice b full.length cb, .int .i64 at1, .int .i64 e1], .slice none 0 0]) (by simp [results, Try.results25, go_sem, qb0, qb1, qb2, hne2]) rfl ⟨[], at1, e1, _, HX.out, ha, rfl, Row.nil _, (((kw1.setCell (.inr h1) _).setCell (.inr h1) _).setCell (.inr h1) _).alloc _, by simp [own, Value.ownBlock]⟩
end Go.Proofs.Ytcmfhejjndlnnaa

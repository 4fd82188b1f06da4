/- The reference's reader: Get, GetVar. -/
import Derived.Test.YtcmfhejjndlnnaaRefr
namespace Go.Proofs.Ytcmfhejjndlnnaa
open Go.RowKit Go.Hay
set_option linter.unusedVariables false

/-- What Get leaves. -/
def GetPost (b : Option Addr) (cb : Nat) (full : List UInt8) (at' : Nat) (e0 : Int) (k : Nat) (w : World) (e : Ending) (w' : World) : Prop :=
  ∃ (out : List UInt8) (at2 : Nat) (e2 : Int), takeS k (full.drop at') e0 = (out, full.drop at2, e2) ∧ at2 ≤ full.length ∧ e = .returned (.tuple #[.agg #[.slice b full.length cb, .int .i64 at2, .int .i64 e2], .int .u64 (num out)]) ∧ Kp [] w w'

set_option maxHeartbeats 2000000 in
set_option maxRecDepth 100000 in
theorem cRefGet (b : Option Addr) (cb : Nat) (full : List UInt8) (at' : Nat) (e0 : Int) (k : Nat) (w : World) (hs : Sees w b full) (hl : full.length ≤ cb) (hm : cb ≤ maxLen) (ha : at' ≤ full.length) (hb : full.length ≤ 200000000000000) (hk : k ≤ 8) :
    Calls Try.prog 37 #[.agg #[.slice b full.length cb, .int .i64 at', .int .i64 e0], .int .i64 k] w (GetPost b cb full at' e0 k w) := by
  have kx : Kp [] w ((w.alloc (.cells #[.slice b full.length cb, .int .i64 at', .int .i64 e0] 31)).alloc (.cells #[.slice none 0 0, .int .i64 0, .int .i64 0] 31)) := ((Kp.refl _ _).alloc _).alloc _
  have bA := (Box3.new w (.slice b full.length cb) (.int .i64 at') (.int .i64 e0) 31).kept (S := []) ((Kp.refl _ _).alloc (.cells #[.slice none 0 0, .int .i64 0, .int .i64 0] 31)) (by simp)
  have bB := Box3.new (w.alloc (.cells #[.slice b full.length cb, .int .i64 at', .int .i64 e0] 31)) (.slice none 0 0) (.int .i64 0) (.int .i64 0) 31
  rw [show (w.alloc (.cells #[.slice b full.length cb, .int .i64 at', .int .i64 e0] 31)).heap.size = w.heap.size + 1 by simp] at bB
  go_enter Try.func37, Try.ntmps37
  go_wp2_with fail
  refine (cRefRaw b cb full at' e0 k _ (hs.kept kx (by simp)) hl hm ha hb (by omega) (by omega)).mono ?_
  rintro e w2 ⟨out, at2, e2, v, hraw, ha2, rfl, hrow, k2, ho⟩
  have bA2 := bA.kept k2 (by simp)
  have bB2 := bB.kept k2 (by simp)
  have kw := kx.trans k2 (by simp)
  have hlen : out.length ≤ 8 := by
    rw [show rawS (k : Int) (full.drop at') e0 = takeS k (full.drop at') e0 by unfold rawS; rw [if_neg (by omega), Int.toNat_natCast]] at hraw
    have := takeS_len _ _ _ hraw
    omega
  have HR := hid (show takeS k (full.drop at') e0 = (out, full.drop at2, e2) by rw [← hraw]; unfold rawS; rw [if_neg (by omega), Int.toNat_natCast])
  have ho' : ∀ x ∈ own v, w.heap.size + 2 ≤ x := fun x hx => by simpa using ho x hx
  obtain ⟨a1, c1, rfl, s1, _⟩ := hrow.sees
  obtain ⟨bA3, ks⟩ := bA2.setAll (.slice b full.length cb) (.int .i64 at2) (.int .i64 e2)
  have r3 := hrow.kept ks (fun x hx hm => by have := ho' x hx; simp at hm; omega)
  obtain ⟨a1', c1', e1, s3, _⟩ := r3.sees
  cases e1
  have bB3 := bB2.kept ks (by simp)
  have kw3 := kw.trans ks (fun x hx => .inr (by simp at hx; omega))
  have qa0 := bA2.c0
  have qa1 := bA2.c1
  have qa2 := bA2.c2
  have qaf := bA2.free
  clear hraw bA bB k2 ho hrow s1 r3 bB2 kx ks kw
  go_wp2_with fail
  clear qa0 qa1 qa2 qaf bA2
  generalize ((w2.setCell ⟨w.heap.size, 0, none⟩ (.slice b full.length cb)).setCell ⟨w.heap.size, 1, none⟩ (.int .i64 at2)).setCell ⟨w.heap.size, 2, none⟩ (.int .i64 e2) = W3 at *
  have q0 := bA3.c0
  have q1 := bA3.c1
  have q2 := bA3.c2
  have p0 := bB3.c0
  have p1 := bB3.c1
  have p2 := bB3.c2
  have pf := bB3.free
  obtain ⟨bB4, ks4⟩ := bB3.setAll (.slice b full.length cb) (.int .i64 at2) (.int .i64 e2)
  have z0 := bB4.c0
  have z1 := bB4.c1
  have z2 := bB4.c2
  have kw4 := (kw3.trans ks4 (fun x hx => .inr (by simp at hx; omega))).drew
  clear bB4 ks4 kw3 bB3 bA3
  go_region_with (go_at_call 41; refine (cSaid a1 out.length c1 out _ s3.drew rfl hlen).mono ?_; rintro e w4 ⟨rfl, rfl⟩)
  all_goals
    go_wp2_with fail
    exact bodyPost_ret (v := .tuple #[.agg #[.slice b full.length cb, .int .i64 at2, .int .i64 e2], .int .u64 (num out)]) (by simp [results, Try.results37, go_sem, z0, z1, z2]) rfl ⟨out, at2, e2, HR.out, ha2, rfl, kw4⟩

/-- What GetVar tells. -/
def gvS (most : Int) (neg : Bool) (bs : List UInt8) (e : Int) : Int × List UInt8 × Int :=
  if neg = true then (0, bs, if (varS 18446744073709551615 bs e).2.2 = 0 then 12 else (varS 18446744073709551615 bs e).2.2) else varS most bs e
theorem gvS_bad (most : Int) (neg : Bool) (bs : List UInt8) (e e1 : Int) (he : e1 ≠ 0) (h : ∀ m, varS m bs e = (0, bs, e1)) : gvS most neg bs e = (0, bs, e1) := by
  unfold gvS
  cases neg
  · rw [if_neg (by simp), h]
  · rw [if_pos rfl, h, if_neg he]
/-- Where the number is right but for the bound. -/
theorem gvS_num (most : Int) (neg : Bool) (bs rest : List UInt8) (n k : Int) (h : fv bs = (n, k, 0)) (hn : n < 18446744073709551616) (hr : rest = bs.drop k.toNat) : gvS most neg bs 0 = if neg = true ∨ most < n then (0, bs, 12) else (n, rest, 0) := by
  unfold gvS varS
  rw [h]
  cases neg
  · by_cases hm : most < n
    · simp [hm]
    · simp [hm, hr]
  · simp
    rw [if_neg (by omega)]
    simp
theorem fv_f (f : UInt8) (r : List UInt8) (h : f.toNat < 253) : fv (f :: r) = ((f.toNat : Int), 1, 0) := by
  have e : behindI f.toNat = 0 := by unfold behindI; rw [if_neg (by omega), if_neg (by omega), if_neg (by omega)]
  simp only [fv, e]
  rfl
theorem varB_len (n : Int) : ((varB n).length : Int) = 1 + behindI (leadI n) := by
  have := behindI_bd (leadI n)
  simp only [varB, List.length_cons, be_length]
  omega
theorem lead_of_behind (n : Int) (f : Nat) (h0 : 0 ≤ n) (hf : 253 ≤ f) (hf2 : f ≤ 255) : behindI (leadI n) = behindI f ↔ leadI n = f := by
  unfold leadI behindI
  repeat (first | split | omega)
theorem drop_inj (l : List UInt8) (i j : Nat) (hi : i ≤ l.length) (hj : j ≤ l.length) (h : l.drop i = l.drop j) : i = j := by
  have := congrArg List.length h
  simp at this
  omega
theorem takeS_ok (k : Nat) (bs : List UInt8) (e : Int) {out bs' : List UInt8} (h : takeS k bs e = (out, bs', 0)) : e = 0 ∧ k ≤ bs.length ∧ out = bs.take k ∧ bs' = bs.drop k := by
  unfold takeS at h
  split at h
  · rename_i he; cases h; exact absurd rfl he
  · rename_i he
    split at h
    · cases h
    · cases h; exact ⟨Decidable.not_not.1 he, by omega, rfl, rfl⟩
theorem takeS_no (k : Nat) (bs : List UInt8) (e : Int) {out bs' : List UInt8} {e' : Int} (h : takeS k bs e = (out, bs', e')) (he' : e' ≠ 0) : out = [] ∧ bs' = bs ∧ ((e ≠ 0 ∧ e' = e) ∨ (e = 0 ∧ bs.length < k ∧ e' = 10)) := by
  unfold takeS at h
  split at h
  · rename_i he; cases h; exact ⟨rfl, rfl, .inl ⟨he, rfl⟩⟩
  · rename_i he
    split at h
    · cases h; exact ⟨rfl, rfl, .inr ⟨Decidable.not_not.1 he, by assumption, rfl⟩⟩
    · cases h; exact absurd rfl he'

end Go.Proofs.Ytcmfhejjndlnnaa

/- The reference's GetText. -/
import Derived.Test.YtcmfhejjndlnnaaRefg
namespace Go.Proofs.Ytcmfhejjndlnnaa
open Go.RowKit Go.Hay
set_option linter.unusedVariables false

/-- What is asked for, and whether it is below nought, tell a count. -/
theorem gvS_count (most m : Int) (bs : List UInt8) (e : Int) (hm : 0 ≤ most → m = most) : gvS m (decide (most < 0)) bs e = countS most bs e := by
  unfold gvS countS
  by_cases h : 0 ≤ most
  · rw [if_neg (by simp; omega), if_pos h, hm h]
  · rw [if_pos (by simp; omega), if_neg h]
theorem textS_bad (most : Int) (bs : List UInt8) (e e1 : Int) (h : countS most bs e = (0, bs, e1)) (he : e1 ≠ 0) : textS most bs e = ([], bs, e1) := by
  have hr : rawS 0 bs e1 = ([], bs, e1) := by simp [rawS, takeS, he]
  unfold textS
  rw [h]
  simp only [hr]
  rw [if_pos he]
theorem textS_short (most : Int) (bs rest : List UInt8) (e n : Int) (h : countS most bs e = (n, rest, 0)) (hn : 0 ≤ n) (hl : (rest.length : Int) < n) : textS most bs e = ([], bs, 10) := by
  have hr : rawS n rest 0 = ([], rest, 10) := by
    unfold rawS takeS
    rw [if_neg (by omega), if_neg (by simp), if_pos (by omega)]
  unfold textS
  rw [h]
  simp only [hr]
  rw [if_pos (by decide)]
theorem textS_good (most : Int) (bs rest : List UInt8) (e n : Int) (h : countS most bs e = (n, rest, 0)) (hn : 0 ≤ n) (hl : n ≤ rest.length) : textS most bs e = rawS n rest 0 := by
  have hr : rawS n rest 0 = (rest.take n.toNat, rest.drop n.toNat, 0) := by
    unfold rawS takeS
    rw [if_neg (by omega), if_neg (by simp), if_neg (by omega)]
  unfold textS
  rw [h]
  simp only [hr]
  rw [if_neg (by simp)]
/-- Where a count fails nothing was read. -/
theorem countS_bad (most : Int) (bs : List UInt8) (e : Int) {n e1 : Int} {r : List UInt8} (h : countS most bs e = (n, r, e1)) (he : e1 ≠ 0) : n = 0 ∧ r = bs := by
  unfold countS varS at h
  repeat (first | (split at h) | (cases h; first | exact ⟨rfl, rfl⟩ | exact absurd rfl he))

/-- What GetText leaves. -/
def TextPost (b : Option Addr) (cb : Nat) (full : List UInt8) (at' : Nat) (e0 most : Int) (w : World) (e : Ending) (w' : World) : Prop :=
  ∃ (out : List UInt8) (at2 : Nat) (e2 : Int) (v : Value), textS most (full.drop at') e0 = (out, full.drop at2, e2) ∧ at2 ≤ full.length ∧ e = .returned (.tuple #[.agg #[.slice b full.length cb, .int .i64 at2, .int .i64 e2], v]) ∧ Row w' v out ∧ Kp [] w w' ∧ ∀ k ∈ own v, w.heap.size ≤ k

end Go.Proofs.Ytcmfhejjndlnnaa

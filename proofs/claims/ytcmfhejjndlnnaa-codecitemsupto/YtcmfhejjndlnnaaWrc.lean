/- The writer's calls, the rest: Var, Word, Long, Raw, Text, Len, Bytes; bytes.Clone. -/
import Derived.Test.YtcmfhejjndlnnaaWrb
import Derived.Lib.SliceRun
namespace Go.Proofs.Ytcmfhejjndlnnaa
open Go.RowKit Go.Hay
set_option linter.unusedVariables false

set_option maxHeartbeats 400000 in
theorem wVar (p : Nat) (v : Value) (bs : List UInt8) (n : Int) (w : World) (h : Wr w p v bs) (hb : bs.length + 9 ≤ 200000000000000) (h0 : 0 ≤ n) (h1 : n < 18446744073709551616) :
    Calls Try.prog 16 #[.pointer (some ⟨p, 0, none⟩), .int .u64 n] w fun e w' => e = .returned (.tuple #[]) ∧ ∃ v', Wr w' p v' (bs ++ varB n) ∧ Wrote p v w v' w' := by
  have hl := leadI_bd n h0
  have hbh := behindI_bd (leadI n)
  obtain ⟨k, hk⟩ : ∃ k : Nat, behindI (leadI n) = k := ⟨(behindI (leadI n)).toNat, by omega⟩
  have hk8 : k ≤ 8 := by omega
  have HE : Hid (bs ++ varB n = bs ++ [octet (leadI n)] ++ be n.toNat k) := by show _ = _; simp [varB, hk]
  have HK := hid hk
  clear hk hbh
  go_enter Try.func16, Try.ntmps16
  go_wp2_with fail
  refine (cLead n _ h0 h1).mono ?_
  rintro e w1 ⟨rfl, rfl⟩
  go_wp2_with fail
  refine (wByte p v bs _ _ h (by omega) hl.1 hl.2).mono ?_
  rintro e w1 ⟨rfl, v1, hw1, hwr1⟩
  go_wp2_with fail
  refine (cBehind _ _ hl.1 hl.2).mono ?_
  rintro e w2 ⟨rfl, rfl⟩
  rw [HK.out]
  go_wp2_with fail
  refine (wNumber p v1 _ n k _ hw1 (by simp; omega) h0 h1 hk8).mono ?_
  rintro e w2 ⟨rfl, v2, hw2, hwr2⟩
  go_wp2_with fail
  go_end0
  exact ⟨rfl, v2, HE.out ▸ hw2, hwr1.trans hwr2⟩

set_option maxHeartbeats 400000 in
theorem wRaw (p : Nat) (v : Value) (bs : List UInt8) (a : Option Addr) (n c : Nat) (xs : List UInt8) (w : World) (h : Wr w p v bs) (hs : Sees w a xs) (hn : n = xs.length) (hb : bs.length + xs.length ≤ 200000000000000) :
    Calls Try.prog 32 #[.pointer (some ⟨p, 0, none⟩), .slice a n c] w fun e w' => e = .returned (.tuple #[]) ∧ ∃ v', Wr w' p v' (bs ++ xs) ∧ Wrote p v w v' w' := by
  subst hn
  obtain ⟨i0, hi, hz0, hz1, hz2⟩ := info_parts Try.infoB
  have hcell := h.cell
  have hfree := h.free
  have hlt := h.lt
  have hsrc : Src Try.prog 1 22 (.slice a xs.length c) xs.length (bcells xs) w := hs.src Try.underlying22 c
  obtain ⟨a1, c1, rfl, _⟩ := h.row.shape
  go_enter Try.func32, Try.ntmps32
  go_wp2_with (at_builtin; refine wpList_append_src _ rfl (.tmp 8) (.tmp 9) 22 22 rfl i0 Try.underlying22 hi hz0 hz1 hz2 _ bs rfl h.row _ xs rfl hsrc hb ?_)
  intro v' w1 hr hk hn
  obtain ⟨c1, f1, hw, hwr⟩ := h.stored (Kp.refl _ _) hr hk hn
  obtain ⟨a', c', hv, _⟩ := hr.shape
  rw [List.length_append] at hv
  subst hv
  go_wp2
  go_end0
  exact ⟨rfl, _, hw, hwr⟩

set_option maxHeartbeats 400000 in
theorem wText (p : Nat) (v : Value) (bs : List UInt8) (a : Option Addr) (n c : Nat) (xs : List UInt8) (w : World) (h : Wr w p v bs) (hs : Sees w a xs) (hn : n = xs.length) (hb : bs.length + xs.length + 9 ≤ 200000000000000)
    (hap : xs ≠ [] → ∀ k ∈ blk a, k ∉ p :: own v) :
    Calls Try.prog 17 #[.pointer (some ⟨p, 0, none⟩), .slice a n c] w fun e w' => e = .returned (.tuple #[]) ∧ ∃ v', Wr w' p v' (bs ++ textB xs) ∧ Wrote p v w v' w' := by
  subst hn
  have hl := varB_length xs.length
  go_enter Try.func17, Try.ntmps17
  go_wp2_with fail
  refine (wVar p v bs xs.length _ h (by omega) (by omega) (by omega)).mono ?_
  rintro e w1 ⟨rfl, v1, hw1, hwr1⟩
  go_wp2_with fail
  refine (wRaw p v1 _ a xs.length c xs _ hw1 (hs.kept' hwr1.kp hap) rfl (by simp; omega)).mono ?_
  rintro e w2 ⟨rfl, v2, hw2, hwr2⟩
  go_wp2_with fail
  go_end0
  exact ⟨rfl, v2, by rw [textB, ← List.append_assoc]; exact hw2, hwr1.trans hwr2⟩

set_option maxHeartbeats 400000 in
theorem wLen (p : Nat) (v : Value) (bs : List UInt8) (w : World) (h : Wr w p v bs) :
    Calls Try.prog 19 #[.pointer (some ⟨p, 0, none⟩)] w fun e w' => e = .returned (.int .i64 bs.length) ∧ w' = w := by
  have hcell := h.cell
  obtain ⟨a1, c1, rfl, _⟩ := h.row.shape
  go_enter Try.func19, Try.ntmps19
  go_wp2
  go_ret
  exact ⟨rfl, rfl⟩

set_option maxHeartbeats 400000 in
theorem cClone (a : Option Addr) (n c : Nat) (xs : List UInt8) (w : World) (hs : Sees w a xs) (hn : n = xs.length) (hb : xs.length ≤ 200000000000000) :
    Calls Try.prog 14 #[.slice a n c] w fun e w' => ∃ v', e = .returned v' ∧ Row w' v' xs ∧ Kp [] w w' ∧ ∀ k ∈ own v', w.heap.size ≤ k := by
  subst hn
  cases a with
  | none =>
    obtain rfl : xs = [] := by rcases hs with h | ⟨g, o, h, _⟩; exact h; cases h
    have hnil := fun (w : World) => Lib.run_eql_slice_nil (P := Try.prog) w 22 5 none 0 c 0 0 Try.underlying22
    rw [List.length_nil]
    go_enter Try.func14, Try.ntmps14
    go_wp2
    go_ret
    exact ⟨_, rfl, Row.nil _, Kp.refl _ _, by simp [own, Value.ownBlock]⟩
  | some ad =>
    have hnil := fun (w : World) => Lib.run_eql_slice_nil (P := Try.prog) w 22 5 (some ad) xs.length c 0 0 Try.underlying22
    obtain ⟨i0, hi, hz0, hz1, hz2⟩ := info_parts Try.infoB
    have k0 : Kp [] w (w.alloc (.cells #[] 5)) := (Kp.refl _ _).alloc _
    have hsrc : Src Try.prog 1 22 (.slice (some ad) xs.length c) xs.length (bcells xs) (w.alloc (.cells #[] 5)) := (hs.kept k0 (by simp)).src Try.underlying22 c
    have hrow : Row (w.alloc (.cells #[] 5)) (.slice (some ⟨w.heap.size, 0, none⟩) 0 0) [] := .inr ⟨w.heap.size, 0, 0, rfl, Nat.le_refl _, Nat.zero_le _, by simp, by simp, by simp⟩
    go_enter Try.func14, Try.ntmps14
    go_wp2_with (at_builtin; refine wpList_append_src _ rfl (.tmp 5) (.tmp 6) 22 22 rfl i0 Try.underlying22 hi hz0 hz1 hz2 _ [] rfl hrow _ xs rfl hsrc (by simpa using hb) ?_)
    intro v' w1 hr hk hn
    go_wp2
    go_ret
    refine ⟨_, rfl, by simpa using hr, k0.trans hk (by simp [own, Value.ownBlock]), fun k hk' => ?_⟩
    rcases hn k hk' with h1 | h1
    · simp [own, Value.ownBlock] at h1; omega
    · omega

set_option maxHeartbeats 400000 in
theorem wBytes (p : Nat) (v : Value) (bs : List UInt8) (w : World) (h : Wr w p v bs) (hb : bs.length ≤ 200000000000000) :
    Calls Try.prog 18 #[.pointer (some ⟨p, 0, none⟩)] w fun e w' => ∃ v', e = .returned v' ∧ Row w' v' bs ∧ Kp [] w w' ∧ ∀ k ∈ own v', w.heap.size ≤ k := by
  have hcell := h.cell
  obtain ⟨a1, c1, rfl, hs, _⟩ := h.row.sees
  go_enter Try.func18, Try.ntmps18
  go_wp2_with fail
  refine (cClone a1 bs.length c1 bs _ hs rfl hb).mono ?_
  rintro e w1 ⟨v', rfl, h1, h2, h3⟩
  go_wp2_with fail
  go_ret
  exact ⟨_, rfl, h1, h2, h3⟩
end Go.Proofs.Ytcmfhejjndlnnaa

/- The reader's calls, more: take, Byte, Word, Long, frontVar, Var, Raw, count, Text. -/
import Derived.Test.YtcmfhejjndlnnaaRda
namespace Go.Proofs.Ytcmfhejjndlnnaa
open Go.RowKit Go.Hay
set_option linter.unusedVariables false

set_option maxHeartbeats 400000 in
theorem rTake (p : Nat) (D : List Nat) (bs : List UInt8) (e0 n : Int) (w : World) (h : Rd w p D bs e0) (h0 : 0 ≤ n) :
    Calls Try.prog 36 #[.pointer (some ⟨p, 0, none⟩), .int .i64 n] w fun e w' => ∃ out bs' e' a c, takeS n.toNat bs e0 = (out, bs', e') ∧ e = .returned (.slice a out.length c) ∧ Sees w' a out ∧ (∀ k ∈ blk a, k ∈ D) ∧ out.length ≤ c ∧ Rd w' p D bs' e' ∧ Kp [p] w w' := by
  obtain ⟨n, rfl⟩ := Int.eq_ofNat_of_zero_le h0
  rw [Int.toNat_natCast]
  have hR := h
  have h1 := h.err
  have f0 := h.free0
  have f1 := h.free1
  obtain ⟨a, c, hc, hl, hm, hs, hD⟩ := h.left
  by_cases he : e0 = 0
  · subst he
    by_cases hn : bs.length < n
    · obtain ⟨r1, r2⟩ := h.setErr 10
      clear h hR
      go_enter Try.func36, Try.ntmps36
      go_wp2
      go_ret
      exact ⟨[], bs, 10, none, 0, by simp [takeS, hn], rfl, Sees.nil _ _, by simp [blk], Nat.le_refl _, r1, r2⟩
    · have hn' : n ≤ bs.length := by omega
      have hp1 := hs.front n
      have hp2 := hs.tail n
      have htk : (bs.take n).length = n := by simp; omega
      have ho : ∀ k ∈ blk a, k ∉ [p] := fun k hk hm' => by rw [List.mem_singleton] at hm'; subst hm'; exact h.apart (hD _ hk)
      by_cases hcn : c = n
      · subst hcn
        have hnil : bs.drop c = [] := by rw [List.drop_of_length_le hl]
        obtain ⟨r1, r2⟩ := h.setLeft (bs' := bs.drop c) a 0 0 (by simp; omega) (by simp; omega) (Nat.zero_le _) (by rw [hnil]; exact Sees.nil _ _) hD
        have hq1 := hp1.kept r2 ho
        clear h hR hnil hp1 hp2 ho
        go_enter Try.func36, Try.ntmps36
        go_wp2
        go_ret
        exact ⟨_, _, _, a, c, by rw [takeS, if_neg (by simp), if_neg (by omega)], by rw [htk]; rfl, hq1, hD, by omega, r1, r2⟩
      · obtain ⟨r1, r2⟩ := h.setLeft (bs' := bs.drop n) (a.map (fun x => x.add n)) (c - n) (bs.length - n) (by simp) (by simp; omega) (by omega) hp2 (fun k hk => hD k (by rwa [blk_tail] at hk))
        have hq1 := hp1.kept r2 ho
        clear h hR hp1 hp2 ho
        go_enter Try.func36, Try.ntmps36
        go_wp2
        go_ret
        exact ⟨_, _, _, a, c, by rw [takeS, if_neg (by simp), if_neg (by omega)], by rw [htk]; rfl, hq1, hD, by omega, r1, r2⟩
  · have he' : (e0 == 0) = false := by simpa using he
    have he2 : (e0 != 0) = true := by simpa using he
    go_enter Try.func36, Try.ntmps36
    go_wp2
    go_ret
    exact ⟨[], bs, e0, none, 0, by simp [takeS, he], rfl, Sees.nil _ _, by simp [blk], Nat.le_refl _, hR, Kp.refl _ _⟩

theorem takeS_len (n : Nat) (bs : List UInt8) (e : Int) {out bs' : List UInt8} {e' : Int} (h : takeS n bs e = (out, bs', e')) : out.length ≤ n := by
  unfold takeS at h
  split at h
  · cases h; simp
  · split at h
    · cases h; simp
    · cases h; simp; omega
theorem num_lt_of (xs : List UInt8) (k : Nat) (h : xs.length ≤ k) : num xs < 256 ^ k := Nat.lt_of_lt_of_le (num_lt xs) (Nat.pow_le_pow_right (by omega) h)

set_option maxHeartbeats 400000 in
theorem rByte (p : Nat) (D : List Nat) (bs : List UInt8) (e0 : Int) (w : World) (h : Rd w p D bs e0) :
    Calls Try.prog 23 #[.pointer (some ⟨p, 0, none⟩)] w fun e w' => ∃ out bs' e', takeS 1 bs e0 = (out, bs', e') ∧ e = .returned (.int .u8 (num out)) ∧ Rd w' p D bs' e' ∧ Kp [p] w w' := by
  go_enter Try.func23, Try.ntmps23
  go_wp2_with fail
  refine (rTake p D bs e0 1 _ h (by omega)).mono ?_
  rintro e w1 ⟨out, bs', e', a, c, ht, rfl, hs, hD, hl, hr, hk⟩
  have hlen := takeS_len _ _ _ ht
  have hnum := num_lt_of out 1 hlen
  have HT := hid ht
  clear ht
  go_wp2_with fail
  refine (cNumber a _ c out _ hs rfl (by omega)).mono ?_
  rintro e w2 ⟨rfl, rfl⟩
  go_wp2_with fail
  go_ret
  exact ⟨out, bs', e', HT.out, rfl, hr, hk⟩

set_option maxHeartbeats 400000 in
set_option maxRecDepth 100000 in
theorem cFront (a : Option Addr) (n c : Nat) (bs : List UInt8) (w : World) (hs : Sees w a bs) (hn : n = bs.length) (hl : bs.length ≤ c) (hm : c ≤ maxLen) :
    Calls Try.prog 33 #[.slice a n c] w fun e w' => e = .returned (.tuple #[.int .u64 (fv bs).1, .int .i64 (fv bs).2.1, .int .i64 (fv bs).2.2]) ∧ w' = w := by
  subst hn
  cases bs with
  | nil =>
    rw [show fv [] = (0, 0, 10) from rfl, List.length_nil]
    go_enter Try.func33, Try.ntmps33
    go_wp2
    go_ret3
    exact ⟨rfl, rfl⟩
  | cons f r =>
    have hf : f.toNat < 256 := f.toNat_lt
    obtain ⟨g, o, rfl, hc⟩ : ∃ g o, a = some ⟨g, o, none⟩ ∧ ∀ j u, (f :: r)[j]? = some u → w.cell? ⟨g, o + j, none⟩ = some (.int .u8 u.toNat) := by
      rcases hs with h | h
      · cases h
      · exact h
    have hc0 : w.cell? ⟨g, o, none⟩ = some (.int .u8 f.toNat) := hc 0 f rfl
    have htl := (Sees.tail hs 1).front
    clear hc
    have hbh := behindI_bd f.toNat
    obtain ⟨k, hk⟩ : ∃ k : Nat, behindI f.toNat = k := ⟨(behindI f.toNat).toNat, by omega⟩
    rw [List.length_cons] at hl ⊢
    have hk8 : k ≤ 8 := by omega
    unfold maxLen at hm
    by_cases hk0 : k = 0
    · have e : fv (f :: r) = ((f.toNat : Int), 1, 0) := by simp only [fv, hk, hk0]; rfl
      rw [e]
      have HK := hid hk
      clear hk hbh e htl hs
      subst hk0
      go_enter Try.func33, Try.ntmps33
      go_wp2_with fail
      refine (cBehind _ _ (by omega) (by omega)).mono ?_
      rintro e w2 ⟨rfl, rfl⟩
      rw [HK.out]
      go_wp2_with fail
      go_ret3
      exact ⟨rfl, rfl⟩
    have hk1 : ((1 + (k : Int)) == 1) = false := by simp; omega
    by_cases hsh : r.length < k
    · have e : fv (f :: r) = (0, 0, 10) := by simp only [fv, hk]; rw [if_neg (by omega), if_pos (by omega)]
      rw [e]
      have HK := hid hk
      clear hk hbh e htl hs
      go_enter Try.func33, Try.ntmps33
      go_wp2_with fail
      refine (cBehind _ _ (by omega) (by omega)).mono ?_
      rintro e w2 ⟨rfl, rfl⟩
      rw [HK.out]
      go_wp2_with fail
      go_ret3
      exact ⟨rfl, rfl⟩
    · have hc1 : ¬ c = 1 := by omega
      have hkl : k ≤ r.length := by omega
      have hnn := num_lt64 (r.take k) (by simp; omega)
      have hlen : (r.take k).length = k := by simp; omega
      have hv : fv (f :: r) = if leadI (num (r.take k)) ≠ f.toNat then ((0 : Int), (0 : Int), (11 : Int)) else ((num (r.take k) : Int), 1 + (k : Int), 0) := by
        simp only [fv, hk, Int.toNat_natCast]
        rw [if_neg (by omega), if_neg (by omega)]
      rw [hv]
      have HK := hid hk
      have hs1 := htl k
      rw [List.drop_one, List.tail_cons, Option.map_some, Addr.add_lit] at hs1
      clear hk hbh htl hs hv
      generalize hm' : num (r.take k) = m at *
      generalize hq : leadI (m : Int) = q at *
      have hqb := leadI_bd m (by omega)
      rw [hq] at hqb
      have HM := hid hm'
      have HL := hid hq
      clear hm' hq
      by_cases hqf : q = f.toNat
      · rw [if_neg (fun h => h hqf)]
        subst hqf
        go_enter Try.func33, Try.ntmps33
        go_wp2_with fail
        refine (cBehind _ _ (by omega) (by omega)).mono ?_
        rintro e w2 ⟨rfl, rfl⟩
        rw [HK.out]
        go_wp2_with fail
        refine (cNumber _ k _ (r.take k) _ hs1 hlen.symm (by omega)).mono ?_
        rintro e w2 ⟨rfl, rfl⟩
        rw [HM.out]
        go_wp2_with fail
        refine (cLead _ _ (by omega) (by omega)).mono ?_
        rintro e w2 ⟨rfl, rfl⟩
        rw [HL.out]
        go_wp2_with fail
        go_ret3
        exact ⟨rfl, rfl⟩
      · rw [if_pos hqf]
        have hq' : (q != (f.toNat : Int)) = true := by simpa using hqf
        clear hqf
        go_enter Try.func33, Try.ntmps33
        go_wp2_with fail
        refine (cBehind _ _ (by omega) (by omega)).mono ?_
        rintro e w2 ⟨rfl, rfl⟩
        rw [HK.out]
        go_wp2_with fail
        refine (cNumber _ k _ (r.take k) _ hs1 hlen.symm (by omega)).mono ?_
        rintro e w2 ⟨rfl, rfl⟩
        rw [HM.out]
        go_wp2_with fail
        refine (cLead _ _ (by omega) (by omega)).mono ?_
        rintro e w2 ⟨rfl, rfl⟩
        rw [HL.out]
        go_wp2_with fail
        go_ret3
        exact ⟨rfl, rfl⟩
end Go.Proofs.Ytcmfhejjndlnnaa

/- The reader's calls, the rest: Var, Raw, count, Text. -/
import Derived.Test.YtcmfhejjndlnnaaRdb
namespace Go.Proofs.Ytcmfhejjndlnnaa
open Go.RowKit Go.Hay
set_option linter.unusedVariables false

set_option maxHeartbeats 400000 in
theorem rVar (p : Nat) (D : List Nat) (bs : List UInt8) (e0 most : Int) (w : World) (h : Rd w p D bs e0) (h0 : 0 ≤ most) (h1 : most < 18446744073709551616) :
    Calls Try.prog 20 #[.pointer (some ⟨p, 0, none⟩), .int .u64 most] w fun e w' => ∃ n bs' e', varS most bs e0 = (n, bs', e') ∧ e = .returned (.int .u64 n) ∧ Rd w' p D bs' e' ∧ Kp [p] w w' := by
  have he1 := h.err
  have f0 := h.free0
  have f1 := h.free1
  obtain ⟨a, c, hc, hl, hm, hs, hD⟩ := h.left
  by_cases he : e0 = 0
  · subst he
    have hbd := fv_bd bs
    obtain ⟨n, k, e2, hfv⟩ : ∃ n k e2, fv bs = (n, k, e2) := ⟨_, _, _, rfl⟩
    have hvar : varS most bs 0 = if e2 ≠ 0 then (0, bs, e2) else if most < n then (0, bs, 12) else (n, bs.drop k.toNat, 0) := by simp [varS, hfv]
    rw [hvar]
    have hfront := cFront a bs.length c bs w hs rfl hl hm
    rw [hfv] at hbd hfront
    obtain ⟨hn0, hn1, hk0, hk9, hkl⟩ : 0 ≤ n ∧ n < 18446744073709551616 ∧ 0 ≤ k ∧ k ≤ 9 ∧ k ≤ bs.length := hbd
    have hfront : Calls Try.prog 33 #[.slice a bs.length c] w fun e w' => e = .returned (.tuple #[.int .u64 n, .int .i64 k, .int .i64 e2]) ∧ w' = w := hfront
    have HF := hid hfront
    clear hfv hvar hfront
    obtain ⟨k, rfl⟩ := Int.eq_ofNat_of_zero_le hk0
    rw [Int.toNat_natCast]
    by_cases he2 : e2 = 0
    · subst he2
      rw [if_neg (fun h => h rfl)]
      by_cases hmn : most < n
      · rw [if_pos hmn]
        obtain ⟨r1, r2⟩ := h.setErr 12
        clear h
        go_enter Try.func20, Try.ntmps20
        go_wp2_with fail
        refine HF.out.mono ?_
        rintro e w2 ⟨rfl, rfl⟩
        go_wp2_with fail
        go_ret
        exact ⟨_, _, _, rfl, rfl, r1, r2⟩
      · rw [if_neg hmn]
        have ho : ∀ k ∈ blk a, k ∉ [p] := fun k hk hm' => by rw [List.mem_singleton] at hm'; subst hm'; exact h.apart (hD _ hk)
        by_cases hck : c = k
        · have hnil : bs.drop k = [] := by rw [List.drop_of_length_le (by omega)]
          obtain ⟨r1, r2⟩ := h.setLeft (bs' := bs.drop k) a 0 0 (by simp; omega) (by simp; omega) (Nat.zero_le _) (by rw [hnil]; exact Sees.nil _ _) hD
          subst hck
          clear h hnil ho hs hD
          go_enter Try.func20, Try.ntmps20
          go_wp2_with fail
          refine HF.out.mono ?_
          rintro e w2 ⟨rfl, rfl⟩
          go_wp2_with fail
          go_ret
          exact ⟨_, _, _, rfl, rfl, r1, r2⟩
        · obtain ⟨r1, r2⟩ := h.setLeft (bs' := bs.drop k) (a.map (fun x => x.add k)) (c - k) (bs.length - k) (by simp) (by simp; omega) (by omega) (hs.tail k) (fun k hk => hD k (by rwa [blk_tail] at hk))
          clear h ho hs hD
          go_enter Try.func20, Try.ntmps20
          go_wp2_with fail
          refine HF.out.mono ?_
          rintro e w2 ⟨rfl, rfl⟩
          go_wp2_with fail
          go_ret
          exact ⟨_, _, _, rfl, rfl, r1, r2⟩
    · rw [if_pos he2]
      obtain ⟨r1, r2⟩ := h.setErr e2
      have he' : (e2 == 0) = false := by simpa using he2
      have he2' : (e2 != 0) = true := by simpa using he2
      clear h
      go_enter Try.func20, Try.ntmps20
      go_wp2_with fail
      refine HF.out.mono ?_
      rintro e w2 ⟨rfl, rfl⟩
      go_wp2_with fail
      go_ret
      exact ⟨_, _, _, rfl, rfl, r1, r2⟩
  · have he' : (e0 == 0) = false := by simpa using he
    have he2 : (e0 != 0) = true := by simpa using he
    go_enter Try.func20, Try.ntmps20
    go_wp2_with fail
    go_ret
    exact ⟨0, bs, e0, by simp [varS, he], rfl, h, Kp.refl _ _⟩

set_option maxHeartbeats 400000 in
theorem rRaw (p : Nat) (D : List Nat) (bs : List UInt8) (e0 n : Int) (w : World) (h : Rd w p D bs e0) (hb : bs.length ≤ 200000000000000) :
    Calls Try.prog 34 #[.pointer (some ⟨p, 0, none⟩), .int .i64 n] w fun e w' => ∃ out bs' e' v, rawS n bs e0 = (out, bs', e') ∧ e = .returned v ∧ Row w' v out ∧ (∀ k ∈ own v, w.heap.size ≤ k) ∧ Rd w' p D bs' e' ∧ Kp [p] w w' := by
  by_cases hn : n < 0
  · have HE := hid (show rawS n bs e0 = ([], bs, if e0 = 0 then 12 else e0) by rw [rawS, if_pos hn])
    go_enter Try.func34, Try.ntmps34
    go_wp2_with fail
    refine (rFail p D bs e0 12 _ h).mono ?_
    rintro e w1 ⟨rfl, r1, r2⟩
    go_wp2_with fail
    go_ret
    exact ⟨_, _, _, _, HE.out, rfl, Row.nil _, by simp [own, Value.ownBlock], r1, r2⟩
  · have hn' : 0 ≤ n := by omega
    have HE := hid (show rawS n bs e0 = takeS n.toNat bs e0 by rw [rawS, if_neg hn])
    go_enter Try.func34, Try.ntmps34
    go_wp2_with fail
    refine (rTake p D bs e0 n _ h hn').mono ?_
    rintro e w1 ⟨out, bs', e', a, c, ht, rfl, hs, hD, hl, hr, hk⟩
    have hout : out.length ≤ bs.length := by
      unfold takeS at ht
      split at ht
      · cases ht; simp
      · split at ht
        · cases ht; simp
        · cases ht; simp; omega
    have HT := hid (HE.out.trans ht)
    clear ht HE
    go_wp2_with fail
    refine (cClone a out.length c out _ hs rfl (by omega)).mono ?_
    rintro e w2 ⟨v', rfl, g1, g2, g3⟩
    go_wp2_with fail
    go_ret
    have hlt := hr.lt
    exact ⟨out, bs', e', v', HT.out, rfl, g1, fun k hk' => Nat.le_trans hk.size (g3 k hk'), hr.kept g2 (by simp) (by simp), hk.trans g2 (by simp)⟩

set_option maxHeartbeats 400000 in
theorem rCount (p : Nat) (D : List Nat) (bs : List UInt8) (e0 most : Int) (w : World) (h : Rd w p D bs e0) (h0 : -9223372036854775808 ≤ most) (h1 : most ≤ 9223372036854775807) :
    Calls Try.prog 27 #[.pointer (some ⟨p, 0, none⟩), .int .i64 most] w fun e w' => ∃ n bs' e', countS most bs e0 = (n, bs', e') ∧ e = .returned (.int .i64 n) ∧ 0 ≤ n ∧ n ≤ 9223372036854775807 ∧ Rd w' p D bs' e' ∧ Kp [p] w w' := by
  by_cases hm : 0 ≤ most
  · have HE := hid (show countS most bs e0 = varS most bs e0 by rw [countS, if_pos hm])
    go_enter Try.func27, Try.ntmps27
    go_wp2_with fail
    refine (rVar p D bs e0 most _ h hm (by omega)).mono ?_
    rintro e w1 ⟨n, bs', e', ht, rfl, hr, hk⟩
    have hn : 0 ≤ n ∧ n ≤ most := by
      have := fv_bd bs
      unfold varS at ht
      split at ht
      · cases ht; omega
      · split at ht
        · cases ht; omega
        · split at ht
          · cases ht; omega
          · cases ht; omega
    obtain ⟨hn0, hn1⟩ := hn
    have hn2 : n ≤ 9223372036854775807 := by omega
    have HT := hid (HE.out.trans ht)
    clear ht HE
    go_wp2_with fail
    go_ret
    exact ⟨n, bs', e', HT.out, rfl, hn0, hn2, hr, hk⟩
  · obtain ⟨a, c, hc, hl, hmx, hs, hD⟩ := h.left
    have f0 := h.free0
    have hap := h.apart
    have hlt := h.lt
    have HE := hid (show countS most bs e0 = (0, bs, if (varS 18446744073709551615 bs e0).2.2 = 0 then 12 else (varS 18446744073709551615 bs e0).2.2) by rw [countS, if_neg hm])
    go_enter Try.func27, Try.ntmps27
    go_wp2_with fail
    refine (rVar p D bs e0 18446744073709551615 _ h (by omega) (by omega)).mono ?_
    rintro e w1 ⟨n, bs', e', ht, rfl, hr, hk⟩
    have he := HE.out
    rw [ht] at he
    have HT := hid he
    clear ht HE he
    have ho : ∀ k ∈ blk a, k ∉ [p] := fun k hka hm' => by rw [List.mem_singleton] at hm'; subst hm'; exact hap (hD _ hka)
    have hs1 : Sees w1 a bs := hs.kept hk ho
    obtain ⟨r1, r2⟩ := hr.setLeft a c bs.length rfl hl hmx hs1 hD
    obtain ⟨a1, c1, hc1, _⟩ := hr.left
    have f1 := hr.free0
    clear f0 hc hs ho hs1 hD h
    go_wp2_with fail
    refine (rFail p D bs e' 12 _ r1).mono ?_
    rintro e w2 ⟨rfl, q1, q2⟩
    go_wp2_with fail
    go_ret
    exact ⟨_, _, _, HT.out, rfl, by omega, by omega, q1, (hk.trans r2 (by simp)).trans q2 (by simp)⟩

set_option maxHeartbeats 400000 in
theorem rText (p : Nat) (D : List Nat) (bs : List UInt8) (e0 most : Int) (w : World) (h : Rd w p D bs e0) (h0 : -9223372036854775808 ≤ most) (h1 : most ≤ 9223372036854775807) (hb : bs.length ≤ 200000000000000) :
    Calls Try.prog 21 #[.pointer (some ⟨p, 0, none⟩), .int .i64 most] w fun e w' => ∃ out bs' e' v, textS most bs e0 = (out, bs', e') ∧ e = .returned v ∧ Row w' v out ∧ (∀ k ∈ own v, w.heap.size ≤ k) ∧ Rd w' p D bs' e' ∧ Kp [p] w w' := by
  obtain ⟨a, c, hc, hl, hmx, hs, hD⟩ := h.left
  have hap := h.apart
  have ho : ∀ k ∈ blk a, k ∉ [p] := fun k hka hm' => by rw [List.mem_singleton] at hm'; subst hm'; exact hap (hD _ hka)
  go_enter Try.func21, Try.ntmps21
  go_wp2_with fail
  refine (rCount p D bs e0 most _ h h0 h1).mono ?_
  rintro e w1 ⟨n, bs1, e1, ht, rfl, hn0, hn1, hr1, hk1⟩
  have hb1 : bs1.length ≤ bs.length := by
    unfold countS varS at ht
    split at ht
    · split at ht
      · cases ht; simp
      · split at ht
        · cases ht; simp
        · split at ht
          · cases ht; simp
          · cases ht; simp
    · cases ht; simp
  have HT := hid ht
  clear ht
  go_wp2_with fail
  refine (rRaw p D bs1 e1 n _ hr1 (by omega)).mono ?_
  rintro e w2 ⟨out, bs2, e2, v, ht2, rfl, hv, hown, hr2, hk2⟩
  have HX : Hid (textS most bs e0 = if e2 ≠ 0 then (out, bs, e2) else (out, bs2, e2)) := by show _ = _; simp only [textS]; rw [HT.out, ht2]
  clear ht2 HT
  have he2 := hr2.err
  have f2 := hr2.free0
  obtain ⟨a2, c2, hc2, _⟩ := hr2.left
  have kk := hk1.trans hk2 (by simp)
  have hs2 : Sees w2 a bs := hs.kept kk ho
  obtain ⟨r1, r2⟩ := hr2.setLeft a c bs.length rfl hl hmx hs2 hD
  have hrow := hv.kept r2 (fun k hk' hm' => by rw [List.mem_singleton] at hm'; subst hm'; have := hown _ hk'; have := hr1.lt; omega)
  clear hc hs hD ho hs2 h
  by_cases hz : e2 = 0
  · subst hz
    go_wp2_with fail
    go_ret
    exact ⟨_, _, _, _, HX.out.trans (if_neg (fun h => h rfl)), rfl, hv, fun k hk' => Nat.le_trans hk1.size (hown k hk'), hr2, kk⟩
  · have hz' : (e2 != 0) = true := by simpa using hz
    go_wp2_with fail
    go_ret
    exact ⟨_, _, _, _, HX.out.trans (if_pos hz), rfl, hrow, fun k hk' => Nat.le_trans hk1.size (hown k hk'), r1, kk.trans r2 (by simp)⟩
end Go.Proofs.Ytcmfhejjndlnnaa

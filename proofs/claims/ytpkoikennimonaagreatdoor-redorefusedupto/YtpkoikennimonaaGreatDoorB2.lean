/- The reader's calls, more: take, Byte, Word, Long, frontVar, Var, Raw, count, Text. The reader's calls, the rest: Var, Raw, count, Text. Rows of rows of bytes: an append. What reads one thing of a list. More plain mathematics: a number and its bytes, back and forth; what a Var read comes to. The reference's bytes: Number, Said. The reference's Var and Text. The reference's reader: Raw, Get, GetVar, GetText, End. The reference's reader: Get, GetVar. The reference's GetText. -/
import Derived.Test.YtpkoikennimonaaGreatDoorB1
import Derived.Deep.RegionWith
import Derived.Deep.QuietTactic
import Derived.BigQuiet
section
namespace Go.Proofs.YtpkoikennimonaaGreatDoor
open Go.RowKit Go.Hay
set_option linter.unusedVariables false

set_option maxHeartbeats 400000 in
theorem rTake (p : Nat) (D : List Nat) (bs : List UInt8) (e0 n : Int) (w : World) (h : Rd w p D bs e0) (h0 : 0 ≤ n) :
    Calls Tryz.prog 108 #[.pointer (some ⟨p, 0, none⟩), .int .i64 n] w fun e w' => ∃ out bs' e' a c, takeS n.toNat bs e0 = (out, bs', e') ∧ e = .returned (.slice a out.length c) ∧ Sees w' a out ∧ (∀ k ∈ blk a, k ∈ D) ∧ out.length ≤ c ∧ Rd w' p D bs' e' ∧ Kp [p] w w' := by
  obtain ⟨n, rfl⟩ := Int.eq_ofNat_of_zero_le h0
  rw [Int.toNat_natCast]
  have hR := h
  have h1 := h.err
  have f0 := h.free0
  have f1 := h.free1
  obtain ⟨a, c, hc, hl, hm, hs, hD⟩ := h.left
  by_cases he : e0 = 0
  · subst he
    by_cases hn : bs.length < n
    · obtain ⟨r1, r2⟩ := h.setErr 10
      clear h hR
      go_enter Tryz.func108, Tryz.ntmps108
      go_wp2
      go_ret
      exact ⟨[], bs, 10, none, 0, by simp [takeS, hn], rfl, Sees.nil _ _, by simp [blk], Nat.le_refl _, r1, r2⟩
    · have hn' : n ≤ bs.length := by omega
      have hp1 := hs.front n
      have hp2 := hs.tail n
      have htk : (bs.take n).length = n := by simp; omega
      have ho : ∀ k ∈ blk a, k ∉ [p] := fun k hk hm' => by rw [List.mem_singleton] at hm'; subst hm'; exact h.apart (hD _ hk)
      by_cases hcn : c = n
      · subst hcn
        have hnil : bs.drop c = [] := by rw [List.drop_of_length_le hl]
        obtain ⟨r1, r2⟩ := h.setLeft (bs' := bs.drop c) a 0 0 (by simp; omega) (by simp; omega) (Nat.zero_le _) (by rw [hnil]; exact Sees.nil _ _) hD
        have hq1 := hp1.kept r2 ho
        clear h hR hnil hp1 hp2 ho
        go_enter Tryz.func108, Tryz.ntmps108
        go_wp2
        go_ret
        exact ⟨_, _, _, a, c, by rw [takeS, if_neg (by simp), if_neg (by omega)], by rw [htk]; rfl, hq1, hD, by omega, r1, r2⟩
      · obtain ⟨r1, r2⟩ := h.setLeft (bs' := bs.drop n) (a.map (fun x => x.add n)) (c - n) (bs.length - n) (by simp) (by simp; omega) (by omega) hp2 (fun k hk => hD k (by rwa [blk_tail] at hk))
        have hq1 := hp1.kept r2 ho
        clear h hR hp1 hp2 ho
        go_enter Tryz.func108, Tryz.ntmps108
        go_wp2
        go_ret
        exact ⟨_, _, _, a, c, by rw [takeS, if_neg (by simp), if_neg (by omega)], by rw [htk]; rfl, hq1, hD, by omega, r1, r2⟩
  · have he' : (e0 == 0) = false := by simpa using he
    have he2 : (e0 != 0) = true := by simpa using he
    go_enter Tryz.func108, Tryz.ntmps108
    go_wp2
    go_ret
    exact ⟨[], bs, e0, none, 0, by simp [takeS, he], rfl, Sees.nil _ _, by simp [blk], Nat.le_refl _, hR, Kp.refl _ _⟩

theorem takeS_len (n : Nat) (bs : List UInt8) (e : Int) {out bs' : List UInt8} {e' : Int} (h : takeS n bs e = (out, bs', e')) : out.length ≤ n := by
  unfold takeS at h
  split at h
  · cases h; simp
  · split at h
    · cases h; simp
    · cases h; simp; omega
theorem num_lt_of (xs : List UInt8) (k : Nat) (h : xs.length ≤ k) : num xs < 256 ^ k := Nat.lt_of_lt_of_le (num_lt xs) (Nat.pow_le_pow_right (by omega) h)

set_option maxHeartbeats 400000 in
set_option maxRecDepth 100000 in
theorem cFront (a : Option Addr) (n c : Nat) (bs : List UInt8) (w : World) (hs : Sees w a bs) (hn : n = bs.length) (hl : bs.length ≤ c) (hm : c ≤ maxLen) :
    Calls Tryz.prog 107 #[.slice a n c] w fun e w' => e = .returned (.tuple #[.int .u64 (fv bs).1, .int .i64 (fv bs).2.1, .int .i64 (fv bs).2.2]) ∧ w' = w := by
  subst hn
  cases bs with
  | nil =>
    rw [show fv [] = (0, 0, 10) from rfl, List.length_nil]
    go_enter Tryz.func107, Tryz.ntmps107
    go_wp2
    go_ret3
    exact ⟨rfl, rfl⟩
  | cons f r =>
    have hf : f.toNat < 256 := f.toNat_lt
    obtain ⟨g, o, rfl, hc⟩ : ∃ g o, a = some ⟨g, o, none⟩ ∧ ∀ j u, (f :: r)[j]? = some u → w.cell? ⟨g, o + j, none⟩ = some (.int .u8 u.toNat) := by
      rcases hs with h | h
      · cases h
      · exact h
    have hc0 : w.cell? ⟨g, o, none⟩ = some (.int .u8 f.toNat) := hc 0 f rfl
    have htl := (Sees.tail hs 1).front
    clear hc
    have hbh := behindI_bd f.toNat
    obtain ⟨k, hk⟩ : ∃ k : Nat, behindI f.toNat = k := ⟨(behindI f.toNat).toNat, by omega⟩
    rw [List.length_cons] at hl ⊢
    have hk8 : k ≤ 8 := by omega
    unfold maxLen at hm
    by_cases hk0 : k = 0
    · have e : fv (f :: r) = ((f.toNat : Int), 1, 0) := by simp only [fv, hk, hk0]; rfl
      rw [e]
      have HK := hid hk
      clear hk hbh e htl hs
      subst hk0
      go_enter Tryz.func107, Tryz.ntmps107
      go_wp2_with fail
      refine (cBehind _ _ (by omega) (by omega)).mono ?_
      rintro e w2 ⟨rfl, rfl⟩
      rw [HK.out]
      go_wp2_with fail
      go_ret3
      exact ⟨rfl, rfl⟩
    have hk1 : ((1 + (k : Int)) == 1) = false := by simp; omega
    by_cases hsh : r.length < k
    · have e : fv (f :: r) = (0, 0, 10) := by simp only [fv, hk]; rw [if_neg (by omega), if_pos (by omega)]
      rw [e]
      have HK := hid hk
      clear hk hbh e htl hs
      go_enter Tryz.func107, Tryz.ntmps107
      go_wp2_with fail
      refine (cBehind _ _ (by omega) (by omega)).mono ?_
      rintro e w2 ⟨rfl, rfl⟩
      rw [HK.out]
      go_wp2_with fail
      go_ret3
      exact ⟨rfl, rfl⟩
    · have hc1 : ¬ c = 1 := by omega
      have hkl : k ≤ r.length := by omega
      have hnn := num_lt64 (r.take k) (by simp; omega)
      have hlen : (r.take k).length = k := by simp; omega
      have hv : fv (f :: r) = if leadI (num (r.take k)) ≠ f.toNat then ((0 : Int), (0 : Int), (11 : Int)) else ((num (r.take k) : Int), 1 + (k : Int), 0) := by
        simp only [fv, hk, Int.toNat_natCast]
        rw [if_neg (by omega), if_neg (by omega)]
      rw [hv]
      have HK := hid hk
      have hs1 := htl k
      rw [List.drop_one, List.tail_cons, Option.map_some, Addr.add_lit] at hs1
      clear hk hbh htl hs hv
      generalize hm' : num (r.take k) = m at *
      generalize hq : leadI (m : Int) = q at *
      have hqb := leadI_bd m (by omega)
      rw [hq] at hqb
      have HM := hid hm'
      have HL := hid hq
      clear hm' hq
      by_cases hqf : q = f.toNat
      · rw [if_neg (fun h => h hqf)]
        subst hqf
        go_enter Tryz.func107, Tryz.ntmps107
        go_wp2_with fail
        refine (cBehind _ _ (by omega) (by omega)).mono ?_
        rintro e w2 ⟨rfl, rfl⟩
        rw [HK.out]
        go_wp2_with fail
        refine (cNumber _ k _ (r.take k) _ hs1 hlen.symm (by omega)).mono ?_
        rintro e w2 ⟨rfl, rfl⟩
        rw [HM.out]
        go_wp2_with fail
        refine (cLead _ _ (by omega) (by omega)).mono ?_
        rintro e w2 ⟨rfl, rfl⟩
        rw [HL.out]
        go_wp2_with fail
        go_ret3
        exact ⟨rfl, rfl⟩
      · rw [if_pos hqf]
        have hq' : (q != (f.toNat : Int)) = true := by simpa using hqf
        clear hqf
        go_enter Tryz.func107, Tryz.ntmps107
        go_wp2_with fail
        refine (cBehind _ _ (by omega) (by omega)).mono ?_
        rintro e w2 ⟨rfl, rfl⟩
        rw [HK.out]
        go_wp2_with fail
        refine (cNumber _ k _ (r.take k) _ hs1 hlen.symm (by omega)).mono ?_
        rintro e w2 ⟨rfl, rfl⟩
        rw [HM.out]
        go_wp2_with fail
        refine (cLead _ _ (by omega) (by omega)).mono ?_
        rintro e w2 ⟨rfl, rfl⟩
        rw [HL.out]
        go_wp2_with fail
        go_ret3
        exact ⟨rfl, rfl⟩
end Go.Proofs.YtpkoikennimonaaGreatDoor
end

section
namespace Go.Proofs.YtpkoikennimonaaGreatDoor
open Go.RowKit Go.Hay
set_option linter.unusedVariables false

set_option maxHeartbeats 400000 in
theorem rVar (p : Nat) (D : List Nat) (bs : List UInt8) (e0 most : Int) (w : World) (h : Rd w p D bs e0) (h0 : 0 ≤ most) (h1 : most < 18446744073709551616) :
    Calls Tryz.prog 98 #[.pointer (some ⟨p, 0, none⟩), .int .u64 most] w fun e w' => ∃ n bs' e', varS most bs e0 = (n, bs', e') ∧ e = .returned (.int .u64 n) ∧ Rd w' p D bs' e' ∧ Kp [p] w w' := by
  have he1 := h.err
  have f0 := h.free0
  have f1 := h.free1
  obtain ⟨a, c, hc, hl, hm, hs, hD⟩ := h.left
  by_cases he : e0 = 0
  · subst he
    have hbd := fv_bd bs
    obtain ⟨n, k, e2, hfv⟩ : ∃ n k e2, fv bs = (n, k, e2) := ⟨_, _, _, rfl⟩
    have hvar : varS most bs 0 = if e2 ≠ 0 then (0, bs, e2) else if most < n then (0, bs, 12) else (n, bs.drop k.toNat, 0) := by simp [varS, hfv]
    rw [hvar]
    have hfront := cFront a bs.length c bs w hs rfl hl hm
    rw [hfv] at hbd hfront
    obtain ⟨hn0, hn1, hk0, hk9, hkl⟩ : 0 ≤ n ∧ n < 18446744073709551616 ∧ 0 ≤ k ∧ k ≤ 9 ∧ k ≤ bs.length := hbd
    have hfront : Calls Tryz.prog 107 #[.slice a bs.length c] w fun e w' => e = .returned (.tuple #[.int .u64 n, .int .i64 k, .int .i64 e2]) ∧ w' = w := hfront
    have HF := hid hfront
    clear hfv hvar hfront
    obtain ⟨k, rfl⟩ := Int.eq_ofNat_of_zero_le hk0
    rw [Int.toNat_natCast]
    by_cases he2 : e2 = 0
    · subst he2
      rw [if_neg (fun h => h rfl)]
      by_cases hmn : most < n
      · rw [if_pos hmn]
        obtain ⟨r1, r2⟩ := h.setErr 12
        clear h
        go_enter Tryz.func98, Tryz.ntmps98
        go_wp2_with fail
        refine HF.out.mono ?_
        rintro e w2 ⟨rfl, rfl⟩
        go_wp2_with fail
        go_ret
        exact ⟨_, _, _, rfl, rfl, r1, r2⟩
      · rw [if_neg hmn]
        have ho : ∀ k ∈ blk a, k ∉ [p] := fun k hk hm' => by rw [List.mem_singleton] at hm'; subst hm'; exact h.apart (hD _ hk)
        by_cases hck : c = k
        · have hnil : bs.drop k = [] := by rw [List.drop_of_length_le (by omega)]
          obtain ⟨r1, r2⟩ := h.setLeft (bs' := bs.drop k) a 0 0 (by simp; omega) (by simp; omega) (Nat.zero_le _) (by rw [hnil]; exact Sees.nil _ _) hD
          subst hck
          clear h hnil ho hs hD
          go_enter Tryz.func98, Tryz.ntmps98
          go_wp2_with fail
          refine HF.out.mono ?_
          rintro e w2 ⟨rfl, rfl⟩
          go_wp2_with fail
          go_ret
          exact ⟨_, _, _, rfl, rfl, r1, r2⟩
        · obtain ⟨r1, r2⟩ := h.setLeft (bs' := bs.drop k) (a.map (fun x => x.add k)) (c - k) (bs.length - k) (by simp) (by simp; omega) (by omega) (hs.tail k) (fun k hk => hD k (by rwa [blk_tail] at hk))
          clear h ho hs hD
          go_enter Tryz.func98, Tryz.ntmps98
          go_wp2_with fail
          refine HF.out.mono ?_
          rintro e w2 ⟨rfl, rfl⟩
          go_wp2_with fail
          go_ret
          exact ⟨_, _, _, rfl, rfl, r1, r2⟩
    · rw [if_pos he2]
      obtain ⟨r1, r2⟩ := h.setErr e2
      have he' : (e2 == 0) = false := by simpa using he2
      have he2' : (e2 != 0) = true := by simpa using he2
      clear h
      go_enter Tryz.func98, Tryz.ntmps98
      go_wp2_with fail
      refine HF.out.mono ?_
      rintro e w2 ⟨rfl, rfl⟩
      go_wp2_with fail
      go_ret
      exact ⟨_, _, _, rfl, rfl, r1, r2⟩
  · have he' : (e0 == 0) = false := by simpa using he
    have he2 : (e0 != 0) = true := by simpa using he
    go_enter Tryz.func98, Tryz.ntmps98
    go_wp2_with fail
    go_ret
    exact ⟨0, bs, e0, by simp [varS, he], rfl, h, Kp.refl _ _⟩

set_option maxHeartbeats 400000 in
theorem rRaw (p : Nat) (D : List Nat) (bs : List UInt8) (e0 n : Int) (w : World) (h : Rd w p D bs e0) (hb : bs.length ≤ 200000000000000) :
    Calls Tryz.prog 100 #[.pointer (some ⟨p, 0, none⟩), .int .i64 n] w fun e w' => ∃ out bs' e' v, rawS n bs e0 = (out, bs', e') ∧ e = .returned v ∧ Row w' v out ∧ (∀ k ∈ own v, w.heap.size ≤ k) ∧ Rd w' p D bs' e' ∧ Kp [p] w w' := by
  by_cases hn : n < 0
  · have HE := hid (show rawS n bs e0 = ([], bs, if e0 = 0 then 12 else e0) by rw [rawS, if_pos hn])
    go_enter Tryz.func100, Tryz.ntmps100
    go_wp2_with fail
    refine (rFail p D bs e0 12 _ h).mono ?_
    rintro e w1 ⟨rfl, r1, r2⟩
    go_wp2_with fail
    go_ret
    exact ⟨_, _, _, _, HE.out, rfl, Row.nil _, by simp [own, Value.ownBlock], r1, r2⟩
  · have hn' : 0 ≤ n := by omega
    have HE := hid (show rawS n bs e0 = takeS n.toNat bs e0 by rw [rawS, if_neg hn])
    go_enter Tryz.func100, Tryz.ntmps100
    go_wp2_with fail
    refine (rTake p D bs e0 n _ h hn').mono ?_
    rintro e w1 ⟨out, bs', e', a, c, ht, rfl, hs, hD, hl, hr, hk⟩
    have hout : out.length ≤ bs.length := by
      unfold takeS at ht
      split at ht
      · cases ht; simp
      · split at ht
        · cases ht; simp
        · cases ht; simp; omega
    have HT := hid (HE.out.trans ht)
    clear ht HE
    go_wp2_with fail
    refine (cClone a out.length c out _ hs rfl (by omega)).mono ?_
    rintro e w2 ⟨v', rfl, g1, g2, g3⟩
    go_wp2_with fail
    go_ret
    have hlt := hr.lt
    exact ⟨out, bs', e', v', HT.out, rfl, g1, fun k hk' => Nat.le_trans hk.size (g3 k hk'), hr.kept g2 (by simp) (by simp), hk.trans g2 (by simp)⟩

set_option maxHeartbeats 400000 in
theorem rCount (p : Nat) (D : List Nat) (bs : List UInt8) (e0 most : Int) (w : World) (h : Rd w p D bs e0) (h0 : -9223372036854775808 ≤ most) (h1 : most ≤ 9223372036854775807) :
    Calls Tryz.prog 85 #[.pointer (some ⟨p, 0, none⟩), .int .i64 most] w fun e w' => ∃ n bs' e', countS most bs e0 = (n, bs', e') ∧ e = .returned (.int .i64 n) ∧ 0 ≤ n ∧ n ≤ 9223372036854775807 ∧ Rd w' p D bs' e' ∧ Kp [p] w w' := by
  by_cases hm : 0 ≤ most
  · have HE := hid (show countS most bs e0 = varS most bs e0 by rw [countS, if_pos hm])
    go_enter Tryz.func85, Tryz.ntmps85
    go_wp2_with fail
    refine (rVar p D bs e0 most _ h hm (by omega)).mono ?_
    rintro e w1 ⟨n, bs', e', ht, rfl, hr, hk⟩
    have hn : 0 ≤ n ∧ n ≤ most := by
      have := fv_bd bs
      unfold varS at ht
      split at ht
      · cases ht; omega
      · split at ht
        · cases ht; omega
        · split at ht
          · cases ht; omega
          · cases ht; omega
    obtain ⟨hn0, hn1⟩ := hn
    have hn2 : n ≤ 9223372036854775807 := by omega
    have HT := hid (HE.out.trans ht)
    clear ht HE
    go_wp2_with fail
    go_ret
    exact ⟨n, bs', e', HT.out, rfl, hn0, hn2, hr, hk⟩
  · obtain ⟨a, c, hc, hl, hmx, hs, hD⟩ := h.left
    have f0 := h.free0
    have hap := h.apart
    have hlt := h.lt
    have HE := hid (show countS most bs e0 = (0, bs, if (varS 18446744073709551615 bs e0).2.2 = 0 then 12 else (varS 18446744073709551615 bs e0).2.2) by rw [countS, if_neg hm])
    go_enter Tryz.func85, Tryz.ntmps85
    go_wp2_with fail
    refine (rVar p D bs e0 18446744073709551615 _ h (by omega) (by omega)).mono ?_
    rintro e w1 ⟨n, bs', e', ht, rfl, hr, hk⟩
    have he := HE.out
    rw [ht] at he
    have HT := hid he
    clear ht HE he
    have ho : ∀ k ∈ blk a, k ∉ [p] := fun k hka hm' => by rw [List.mem_singleton] at hm'; subst hm'; exact hap (hD _ hka)
    have hs1 : Sees w1 a bs := hs.kept hk ho
    obtain ⟨r1, r2⟩ := hr.setLeft a c bs.length rfl hl hmx hs1 hD
    obtain ⟨a1, c1, hc1, _⟩ := hr.left
    have f1 := hr.free0
    clear f0 hc hs ho hs1 hD h
    go_wp2_with fail
    refine (rFail p D bs e' 12 _ r1).mono ?_
    rintro e w2 ⟨rfl, q1, q2⟩
    go_wp2_with fail
    go_ret
    exact ⟨_, _, _, HT.out, rfl, by omega, by omega, q1, (hk.trans r2 (by simp)).trans q2 (by simp)⟩

set_option maxHeartbeats 400000 in
theorem rText (p : Nat) (D : List Nat) (bs : List UInt8) (e0 most : Int) (w : World) (h : Rd w p D bs e0) (h0 : -9223372036854775808 ≤ most) (h1 : most ≤ 9223372036854775807) (hb : bs.length ≤ 200000000000000) :
    Calls Tryz.prog 86 #[.pointer (some ⟨p, 0, none⟩), .int .i64 most] w fun e w' => ∃ out bs' e' v, textS most bs e0 = (out, bs', e') ∧ e = .returned v ∧ Row w' v out ∧ (∀ k ∈ own v, w.heap.size ≤ k) ∧ Rd w' p D bs' e' ∧ Kp [p] w w' := by
  obtain ⟨a, c, hc, hl, hmx, hs, hD⟩ := h.left
  have hap := h.apart
  have ho : ∀ k ∈ blk a, k ∉ [p] := fun k hka hm' => by rw [List.mem_singleton] at hm'; subst hm'; exact hap (hD _ hka)
  go_enter Tryz.func86, Tryz.ntmps86
  go_wp2_with fail
  refine (rCount p D bs e0 most _ h h0 h1).mono ?_
  rintro e w1 ⟨n, bs1, e1, ht, rfl, hn0, hn1, hr1, hk1⟩
  have hb1 : bs1.length ≤ bs.length := by
    unfold countS varS at ht
    split at ht
    · split at ht
      · cases ht; simp
      · split at ht
        · cases ht; simp
        · split at ht
          · cases ht; simp
          · cases ht; simp
    · cases ht; simp
  have HT := hid ht
  clear ht
  go_wp2_with fail
  refine (rRaw p D bs1 e1 n _ hr1 (by omega)).mono ?_
  rintro e w2 ⟨out, bs2, e2, v, ht2, rfl, hv, hown, hr2, hk2⟩
  have HX : Hid (textS most bs e0 = if e2 ≠ 0 then (out, bs, e2) else (out, bs2, e2)) := by show _ = _; simp only [textS]; rw [HT.out, ht2]
  clear ht2 HT
  have he2 := hr2.err
  have f2 := hr2.free0
  obtain ⟨a2, c2, hc2, _⟩ := hr2.left
  have kk := hk1.trans hk2 (by simp)
  have hs2 : Sees w2 a bs := hs.kept kk ho
  obtain ⟨r1, r2⟩ := hr2.setLeft a c bs.length rfl hl hmx hs2 hD
  have hrow := hv.kept r2 (fun k hk' hm' => by rw [List.mem_singleton] at hm'; subst hm'; have := hown _ hk'; have := hr1.lt; omega)
  clear hc hs hD ho hs2 h
  by_cases hz : e2 = 0
  · subst hz
    go_wp2_with fail
    go_ret
    exact ⟨_, _, _, _, HX.out.trans (if_neg (fun h => h rfl)), rfl, hv, fun k hk' => Nat.le_trans hk1.size (hown k hk'), hr2, kk⟩
  · have hz' : (e2 != 0) = true := by simpa using hz
    go_wp2_with fail
    go_ret
    exact ⟨_, _, _, _, HX.out.trans (if_pos hz), rfl, hrow, fun k hk' => Nat.le_trans hk1.size (hown k hk'), r1, kk.trans r2 (by simp)⟩
end Go.Proofs.YtpkoikennimonaaGreatDoor
end

section
namespace Go.Proofs.YtpkoikennimonaaGreatDoor
open Go.RowKit Go.Hay
set_option linter.unusedVariables false
set_option linter.unusedSimpArgs false

theorem infoSl : ∃ i : TypeInfo, Tryz.prog.info? 45 = some i ∧ i.zero = some (.slice none 0 0) ∧ i.size = 1 ∧ i.bytes = 24 := by
  have h : (Tryz.prog.info? 45).map (fun i => (i.zero, i.size, i.bytes)) = some (some (.slice none 0 0), 1, 24) := by kernel_rfl
  cases hp : Tryz.prog.info? 45 with
  | none => rw [hp] at h; cases h
  | some i =>
    rw [hp] at h
    simp at h
    exact ⟨i, rfl, h.1, h.2.1, h.2.2⟩
theorem rowOne {w : World} {v : Value} {bs : List UInt8} (h : Row w v bs) : v.oneCell' = true := by
  rcases h with ⟨rfl, _⟩ | ⟨g, o, cap, rfl, _⟩ <;> rfl
/-- An append of one slice onto a row of the call's own, for the walk. -/
theorem wpAppendL {n0 : Nat} {w : World} {ops : Array Oper} {rest : List Oper} {o : Oper} {a : Act} {Q : Exit → Act → World → Prop} (hgd : o.guard = none) (s x : Operand)
    (ho : o.op = .call { callee := .builtin .append, args := #[s, x], argTypes := #[30, 30] })
    (v : Value) (L : List (List UInt8)) (hv : a.eval s = v) (h : RowL n0 w v L) (xv : Value) (bs : List UInt8) (hr : Row w xv bs) (hd : ∀ k ∈ own xv, n0 ≤ k ∧ k ∉ own v) (hn0 : n0 ≤ w.heap.size)
    {q : Nat} (hq : w.heap.size = q) (hx : a.eval x = .slice (some ⟨q, 0, none⟩) 1 1) (hb : L.length + 1 ≤ 5000000000000)
    (hK : ∀ v' w', RowL n0 w' v' (L ++ [bs]) → Kp (own v) w w' → (∀ k ∈ own v', k ∈ own v ∨ w.heap.size ≤ k) → wpList Tryz.prog ops Q rest (a.put o.dst v') w') : wpList Tryz.prog ops Q (o :: rest) a (w.alloc (.cells #[xv] 45)) := by
  subst hq
  obtain ⟨i, hi, hz, hz1, hz2⟩ := infoSl
  obtain ⟨vs, hvl, hs, hfr, hel⟩ := h
  have hkA : Kp (own v) w (w.alloc (.cells #[xv] 45)) := (Kp.refl _ _).alloc _
  have hsA := hs.kept (S := []) ((Kp.refl _ _).alloc (.cells #[xv] 45)) (by simp)
  refine wpList_appendS (P := Tryz.prog) _ hgd s x 30 30 ho i Tryz.underlying30 hi hz hz1 hz2 v vs hv hsA _ [xv] hx ?_ (by simp; omega) ?_
  · refine Src.ofSlice _ Tryz.underlying30 ⟨w.heap.size, 0, none⟩ 1 1 [xv] rfl ?_ (by intro u hu; simp at hu; subst hu; exact rowOne hr)
    intro j u hu
    match j, hu with
    | 0, hu => cases hu; rw [Addr.add_lit]; exact World.cell?_alloc_new w _ _ 0
    | j + 1, hu => simp at hu
  · intro v' w' h1 h2 h3
    have hkk : Kp (own v) w w' := hkA.trans h2 (fun x hx => .inl hx)
    have hnew : ∀ k ∈ own v', k ∈ own v ∨ w.heap.size ≤ k := by
      intro k hk
      rcases h3 k hk with h | h
      · exact .inl h
      · right; simp at h; omega
    refine hK v' w' ⟨vs ++ [xv], by simp [hvl], h1, fun k hk => (by rcases hnew k hk with h | h; exact hfr k h; omega), ?_⟩ hkk hnew
    intro j y ob hy hob
    have key : Row w y ob ∧ ∀ k ∈ own y, n0 ≤ k ∧ k ∉ own v := by
      by_cases hj : j < vs.length
      · rw [List.getElem?_append_left hj] at hy
        rw [List.getElem?_append_left (by omega)] at hob
        exact hel j y ob hy hob
      · rw [List.getElem?_append_right (by omega)] at hy
        rw [List.getElem?_append_right (by omega)] at hob
        have : j - vs.length = 0 := by have := (List.getElem?_eq_some_iff.1 hy).1; simp at this; omega
        rw [this] at hy
        rw [← hvl, this] at hob
        cases hy
        cases hob
        exact ⟨hr, hd⟩
    refine ⟨key.1.kept hkk (fun k hk => (key.2 k hk).2), fun k hk => ⟨(key.2 k hk).1, fun hm => ?_⟩⟩
    rcases hnew k hm with h | h
    · exact (key.2 k hk).2 h
    · have := key.1.lt k hk; omega
end Go.Proofs.YtpkoikennimonaaGreatDoor
end

section
namespace Go.Proofs.YtpkoikennimonaaGreatDoor
open Go.RowKit Go.Hay
set_option linter.unusedVariables false
set_option linter.unusedSimpArgs false
set_option maxHeartbeats 4000000 in
set_option maxRecDepth 100000 in
theorem cTakeRec (p : Nat) (D : List Nat) (bs : List UInt8) (e0 : Int) (w : World) (h : Rd w p D bs e0) (hb : bs.length ≤ 200000000000000) :
    Calls Tryz.prog 58 #[.pointer (some ⟨p, 0, none⟩)] w fun e w' => ∃ out bs' e' v, textS 16777216 bs e0 = (out, bs', e') ∧ e = .returned v ∧ Row w' v out ∧ (∀ k ∈ own v, w.heap.size ≤ k) ∧ Rd w' p D bs' e' ∧ Kp [p] w w' := by
  go_enter Tryz.func58, Tryz.ntmps58
  go_wp2_with fail
  refine (rText p D bs e0 16777216 _ h (by omega) (by omega) hb).mono ?_
  rintro e w1 ⟨out, bs', e', v, ht, rfl, hr, ho, hd, hk⟩
  have HT := hid ht
  clear ht
  go_wp2_with fail
  go_ret
  exact ⟨out, bs', e', v, HT.out, rfl, hr, ho, hd, hk⟩
end Go.Proofs.YtpkoikennimonaaGreatDoor
end

section
namespace Go.Hay
set_option linter.unusedVariables false

theorem be_snoc (n k : Nat) : be n (k + 1) = be (n / 256) k ++ [UInt8.ofNat (n % 256)] := by
  induction k with
  | zero => simp [be]
  | succ k ih =>
    rw [be, ih, be, List.cons_append]
    congr 2
    rw [Nat.div_div_eq_div_mul, Nat.pow_succ, Nat.mul_comm]
theorem be_num_rev (l : List UInt8) : be (num l.reverse) l.length = l.reverse := by
  induction l with
  | nil => simp [be]
  | cons x l ih =>
    have hx := x.toNat_lt
    rw [List.reverse_cons, num_snoc, List.length_cons, be_snoc, show (num l.reverse * 256 + x.toNat) / 256 = num l.reverse by omega, ih, show (num l.reverse * 256 + x.toNat) % 256 = x.toNat by omega, UInt8.ofNat_toNat]
theorem be_num (xs : List UInt8) : be (num xs) xs.length = xs := by simpa using be_num_rev xs.reverse
theorem num_be (n k : Nat) : num (be n k) = n % 256 ^ k := by
  induction k generalizing n with
  | zero => simp [be, num, Nat.mod_one]
  | succ k ih =>
    rw [be_snoc, num_snoc, ih, UInt8.toNat_ofNat', show 256 ^ (k + 1) = 256 * 256 ^ k by rw [Nat.pow_succ, Nat.mul_comm], Nat.mod_mul]
    omega
theorem octet_nat (x : UInt8) : octet x.toNat = x := by simp [octet]

/-- What is read as a number is written as the same bytes. -/
theorem fv_back (bs : List UInt8) (h : (fv bs).2.2 = 0) : varB (fv bs).1 = bs.take (fv bs).2.1.toNat ∧ 1 ≤ (fv bs).2.1 := by
  cases bs with
  | nil => simp [fv] at h
  | cons f r =>
    have hf := f.toNat_lt
    have hb := behindI_bd f.toNat
    simp only [fv] at h ⊢
    split
    · rename_i h0
      have hl : leadI f.toNat = f.toNat := by
        unfold behindI at h0
        unfold leadI
        repeat (first | split at h0 | (split <;> omega) | omega)
      simp only [varB, hl, h0, octet_nat]
      simp [be]
    · rename_i h0
      rw [if_neg h0] at h
      by_cases h1 : (r.length : Int) < behindI f.toNat
      · rw [if_pos h1] at h; simp at h
      rw [if_neg h1] at h ⊢
      by_cases h2 : leadI (num (r.take (behindI f.toNat).toNat)) ≠ f.toNat
      · rw [if_pos h2] at h; simp at h
      rw [if_neg h2]
      have h3 : leadI (num (r.take (behindI f.toNat).toNat)) = f.toNat := Decidable.not_not.1 h2
      obtain ⟨k, hk⟩ : ∃ k : Nat, behindI f.toNat = k := ⟨(behindI f.toNat).toNat, by omega⟩
      rw [hk, Int.toNat_natCast] at h3
      have hlen : (r.take k).length = k := by simp; omega
      refine ⟨?_, by show 1 ≤ 1 + behindI f.toNat; omega⟩
      show varB (num (r.take (behindI f.toNat).toNat)) = List.take (1 + behindI f.toNat).toNat (f :: r)
      rw [hk, Int.toNat_natCast]
      simp only [varB]
      rw [h3, hk, Int.toNat_natCast, Int.toNat_natCast, octet_nat]
      have e := be_num (r.take k)
      rw [hlen] at e
      rw [e, show (1 + (k : Int)).toNat = k + 1 by omega, List.take_succ_cons]

/-- Of a Var that was read: in words that the law uses. -/
theorem varS_cases (most : Int) (bs : List UInt8) {n : Int} {bs' : List UInt8} {e' : Int} (h0 : 0 ≤ most) (h : varS most bs 0 = (n, bs', e')) :
    0 ≤ n ∧ n < 18446744073709551616 ∧ bs'.length ≤ bs.length ∧ (e' ≠ 0 → n = 0 ∧ bs' = bs) ∧ (e' = 0 → n ≤ most ∧ varB n = bs.take (bs.length - bs'.length)) := by
  have hbd := fv_bd bs
  have hbk := fv_back bs
  unfold varS at h
  rw [if_neg (by simp)] at h
  split at h
  · rename_i h1
    cases h
    exact ⟨by omega, by omega, Nat.le_refl _, fun _ => ⟨rfl, rfl⟩, fun h => absurd h h1⟩
  · rename_i h1
    have h1' : (fv bs).2.2 = 0 := Decidable.not_not.1 h1
    have hbk := hbk h1'
    split at h
    · cases h
      exact ⟨by omega, by omega, Nat.le_refl _, fun _ => ⟨rfl, rfl⟩, fun h => by simp at h⟩
    · cases h
      refine ⟨by omega, by omega, by simp, fun h => absurd rfl h, fun _ => ⟨by omega, ?_⟩⟩
      rw [hbk.1]
      congr 1
      rw [List.length_drop]
      omega
end Go.Hay
end

section
namespace Go.Proofs.YtpkoikennimonaaGreatDoor
open Go.RowKit Go.Hay
set_option linter.unusedVariables false

theorem said_step (m x : Nat) (hm : m < 72057594037927936) (hx : x < 256) : IntKind.u64.wrap (IntKind.u64.wrap (256 * (m : Int)) + (x : Int)) = ((m * 256 + x : Nat) : Int) := by
  rw [IntKind.wrap_u64, IntKind.wrap_u64]
  omega

set_option maxHeartbeats 400000 in
theorem cSaid (a : Option Addr) (n c : Nat) (xs : List UInt8) (w : World) (hs : Sees w a xs) (hn : n = xs.length) (hb : xs.length ≤ 8) :
    Calls Tryz.prog 87 #[.slice a n c] w fun e w' => e = .returned (.int .u64 (num xs)) ∧ w' = w := by
  subst hn
  go_enter Tryz.func87, Tryz.ntmps87
  go_wp2_with fail
  go_loop [3, 4] (fun s i => ∃ k : Nat, k ≤ xs.length ∧ i = .int .i64 k ∧ s = .int .u64 (num (xs.take k))) (fun _ i => xs.length - (intOf i).toNat)
  case atStart => exact ⟨0, Nat.zero_le _, rfl, rfl⟩
  case round =>
    obtain ⟨k, hk, rfl, rfl⟩ := hrel
    by_cases hlt : k < xs.length
    · rcases hs with rfl | ⟨g, o, rfl, hc⟩
      · simp at hlt
      have hck := hc k xs[k] (by simp)
      have H := hid (num_take_succ xs k hlt)
      have H2 := hid (num_take_lt xs k (by omega))
      have hx : xs[k].toNat < 256 := xs[k].toNat_lt
      clear hc
      go_wp2
      refine ⟨⟨k + 1, by omega, by go_num, ?_⟩, by simp [intOf]; omega⟩
      rw [H.out, ← said_step _ _ H2.out hx]
    · go_wp2
      go_ret
      exact ⟨ret_int (by rw [List.take_of_length_le (by omega)]), rfl⟩

set_option maxHeartbeats 1000000 in
set_option maxRecDepth 100000 in
theorem cRefNumber (n : Int) (k : Nat) (w : World) (h0 : 0 ≤ n) (h1 : n < 18446744073709551616) (hk : k ≤ 8) :
    Calls Tryz.prog 95 #[.int .u64 n, .int .i64 k] w fun e w' => ∃ v, e = .returned v ∧ Row w' v (be n.toNat k) ∧ Kp [] w w' ∧ ∀ k ∈ own v, w.heap.size ≤ k := by
  obtain ⟨n, rfl⟩ := Int.eq_ofNat_of_zero_le h0
  rw [Int.toNat_natCast]
  obtain ⟨i0, hi, hz0, hz1, hz2⟩ := info_parts Tryz.infoB
  go_enter Tryz.func95, Tryz.ntmps95
  go_wp2_with fail
  go_loopw [5, 6, 7, 8] (fun b i _ _ wr => ∃ (j : Nat) (cur : List UInt8), i = .int .i64 ((j : Int) - 1) ∧ j ≤ k ∧ Row wr b cur ∧ Hid (cur ++ be n j = be n k) ∧ Kp [] w wr ∧ ∀ k ∈ own b, w.heap.size ≤ k) (fun _ i _ _ _ => (intOf i + 1).toNat)
  case atStart => exact ⟨k, [], rfl, Nat.le_refl _, Row.nil _, rfl, Kp.refl _ _, by simp [own, Value.ownBlock]⟩
  case round =>
    obtain ⟨j, cur, rfl, hj, hrow, hcur, hkp, hown⟩ := hrel
    have hlen : cur.length + j = k := by have := congrArg List.length hcur.out; simpa [be_length] using this
    cases j with
    | zero =>
      go_wp2_with fail
      go_ret
      have e : cur = be n k := by have := hcur.out; simpa [be] using this
      exact ⟨_, rfl, e ▸ hrow, hkp, hown⟩
    | succ j =>
      rw [show (((j + 1 : Nat) : Int) - 1) = (j : Int) by omega]
      have hj8 : j < 8 := by omega
      go_wp2_with fail
      go_loop [7, 8] (fun kk jj => ∃ m : Nat, m ≤ j ∧ jj = .int .i64 m ∧ kk = .int .u64 ((n / 256 ^ m : Nat))) (fun _ jj => j - (intOf jj).toNat)
      case atStart => exact ⟨0, Nat.zero_le _, rfl, by simp⟩
      case round =>
        obtain ⟨m, hm, rfl, rfl⟩ := hrel
        have hq : n / 256 ^ m ≤ n := Nat.div_le_self _ _
        by_cases hmj : m < j
        · have HQ := hid (show n / 256 ^ (m + 1) = n / 256 ^ m / 256 by rw [Nat.pow_succ, Nat.div_div_eq_div_mul])
          generalize n / 256 ^ m = q at *
          go_wp2_with fail
          exact ⟨⟨m + 1, by omega, by go_num, by rw [HQ.out, Int.natCast_ediv]; rfl⟩, by simp [intOf]; omega⟩
        · obtain rfl : m = j := by omega
          have H : Hid (cur ++ [octet ((n / 256 ^ m : Nat) % 256 : Int)] ++ be n m = be n k) := by
            have := hcur.out
            show _ = _
            rw [show octet ((n / 256 ^ m : Nat) % 256 : Int) = UInt8.ofNat (n / 256 ^ m % 256) by
              unfold octet; congr 1]
            simpa [be] using this
          generalize n / 256 ^ m = q at *
          have k0 : Kp [] wr (wr.alloc (.cells #[.int .u8 ((q : Int) % 256)] 5)) := (Kp.refl _ _).alloc _
          have hsrc : Src Tryz.prog 1 45 (.slice (some ⟨wr.heap.size, 0, none⟩) 1 1) [octet ((q : Int) % 256)].length (bcells [octet ((q : Int) % 256)]) (wr.alloc (.cells #[.int .u8 ((q : Int) % 256)] 5)) :=
            Src.ofSlice _ Tryz.underlying45 ⟨wr.heap.size, 0, none⟩ 1 1 _ rfl (by intro j u hj; match j, hj with | 0, hj => simp [bcells] at hj; subst hj; rw [octet_toNat _ (by omega) (by omega)]; simp [Addr.add]) (bcells_one _)
          go_wp2_with (at_builtin; refine wpList_append_src _ rfl (.tmp 23) (.tmp 27) 45 45 rfl i0 Tryz.underlying45 hi hz0 hz1 hz2 _ cur rfl (hrow.kept k0 (by simp)) _ [octet ((q : Int) % 256)] rfl hsrc (by simp; omega) ?_)
          intro v' w1 hr hk' hn
          go_wp2_with fail
          have hsz := hkp.size
          exact ⟨⟨m, cur ++ [octet ((q : Int) % 256)], rfl, by omega, hr, H, (hkp.trans k0 (by simp)).trans hk' (fun x hx => .inr (hown x hx)), fun x hx => by
            rcases hn x hx with h | h
            · exact hown x h
            · omega⟩, by simp [intOf]⟩
end Go.Proofs.YtpkoikennimonaaGreatDoor
end

section
namespace Go.Proofs.YtpkoikennimonaaGreatDoor
open Go.RowKit Go.Hay
set_option linter.unusedVariables false

theorem rowNew (w : World) (C : Array Value) (t : TypeId) (bs : List UInt8) (n : Nat) (h : C.toList = bcells bs) (hn : n = bs.length) (hb : bs.length ≤ maxLen) : Row (w.alloc (.cells C t)) (.slice (some ⟨w.heap.size, 0, none⟩) n n) bs := by
  subst hn
  have hsz : C.size = bs.length := by rw [← Array.length_toList, h, bcells_length]
  refine .inr ⟨w.heap.size, 0, bs.length, rfl, Nat.le_refl _, hb, by simp, ?_, fun j hj => ⟨?_, World.frozen?_alloc_new w _ _ (0 + j)⟩⟩
  · rcases Sees.new w C t (0, 0) bs h with h1 | ⟨g, o, h1, h2⟩
    · subst h1; intro j u hu; simp at hu
    · cases h1; exact h2
  · have e1 : (w.alloc (.cells C t)).cell? ⟨w.heap.size, 0 + j, none⟩ = C[0 + j]? := World.cell?_alloc_new w _ _ (0 + j)
    rw [e1, Nat.zero_add, Array.getElem?_eq_getElem (by omega)]
    rfl

theorem varB_small (n : Int) (h0 : 0 ≤ n) (h : n < 253) : varB n = [octet n] := by
  have e : leadI n = n := by simp [leadI, h]
  have e2 : behindI n = 0 := by unfold behindI; rw [if_neg (by omega), if_neg (by omega), if_neg (by omega)]
  simp [varB, e, e2, be]

set_option maxHeartbeats 1000000 in
set_option maxRecDepth 100000 in
theorem cRefVar (n : Int) (w : World) (h0 : 0 ≤ n) (h1 : n < 18446744073709551616) :
    Calls Tryz.prog 71 #[.int .u64 n] w fun e w' => ∃ v, e = .returned v ∧ Row w' v (varB n) ∧ Kp [] w w' ∧ ∀ k ∈ own v, w.heap.size ≤ k := by
  by_cases hsm : n < 253
  · rw [varB_small n h0 hsm]
    have hrow := rowNew w #[.int .u8 n] 5 [octet n] 1 (by simp [bcells, octet_toNat n h0 (by omega)]) rfl (by unfold maxLen; simp)
    go_enter Tryz.func71, Tryz.ntmps71
    go_wp2_with fail
    go_ret
    exact ⟨_, rfl, hrow, (Kp.refl _ _).alloc _, by simp [own, Value.ownBlock]⟩
  obtain ⟨i0, hi, hz0, hz1, hz2⟩ := info_parts Tryz.infoB
  have fin : ∀ (f : Nat) (k : Nat), f < 256 → k ≤ 8 → varB n = octet f :: be n.toNat k → Row (w.alloc (.cells #[.int .u8 f] 5)) (.slice (some ⟨w.heap.size, 0, none⟩) 1 1) [octet f] ∧ Hid (varB n = [octet f] ++ be n.toNat k) := by
    intro f k hf hk e
    exact ⟨rowNew w #[.int .u8 f] 5 [octet f] 1 (by simp [bcells, octet_toNat (f : Int) (by omega) (by omega)]) rfl (by unfold maxLen; simp), hid (by rw [e]; rfl)⟩
  by_cases h16 : n < 65536
  · obtain ⟨hrow, HV⟩ := fin 253 2 (by omega) (by omega) (by simp [varB, leadI, behindI, hsm, h16])
    rw [HV.out]
    clear fin
    go_enter Tryz.func71, Tryz.ntmps71
    go_wp2_with fail
    refine (cRefNumber n 2 _ h0 h1 (by omega)).mono ?_
    rintro e w2 ⟨v2, rfl, r2, k2, o2⟩
    obtain ⟨a2, c2, rfl, s2, _⟩ := r2.sees
    have hsrc := s2.src (P := Tryz.prog) Tryz.underlying45 c2
    have hrow' := hrow.kept k2 (by simp)
    have k3 : Kp [] w w2 := ((Kp.refl [] w).alloc (.cells #[.int .u8 (253 : Nat)] 5)).trans k2 (by simp)
    go_wp2_with (at_builtin; refine wpList_append_src _ rfl (.tmp 17) (.tmp 20) 45 45 rfl i0 Tryz.underlying45 hi hz0 hz1 hz2 _ _ rfl hrow' _ _ rfl hsrc (by simp [be_length]) ?_)
    intro v4 w4 r4 k4 o4
    obtain ⟨k5, o5⟩ := stepA k3 (by simp [own, Value.ownBlock]) k4 o4
    go_wp2_with fail
    go_ret
    exact ⟨_, rfl, r4, k5, o5⟩
  by_cases h32 : n < 4294967296
  · obtain ⟨hrow, HV⟩ := fin 254 4 (by omega) (by omega) (by simp [varB, leadI, behindI, hsm, h16, h32])
    rw [HV.out]
    clear fin
    go_enter Tryz.func71, Tryz.ntmps71
    go_wp2_with fail
    refine (cRefNumber n 4 _ h0 h1 (by omega)).mono ?_
    rintro e w2 ⟨v2, rfl, r2, k2, o2⟩
    obtain ⟨a2, c2, rfl, s2, _⟩ := r2.sees
    have hsrc := s2.src (P := Tryz.prog) Tryz.underlying45 c2
    have hrow' := hrow.kept k2 (by simp)
    have k3 : Kp [] w w2 := ((Kp.refl [] w).alloc (.cells #[.int .u8 (254 : Nat)] 5)).trans k2 (by simp)
    go_wp2_with (at_builtin; refine wpList_append_src _ rfl (.tmp 17) (.tmp 20) 45 45 rfl i0 Tryz.underlying45 hi hz0 hz1 hz2 _ _ rfl hrow' _ _ rfl hsrc (by simp [be_length]) ?_)
    intro v4 w4 r4 k4 o4
    obtain ⟨k5, o5⟩ := stepA k3 (by simp [own, Value.ownBlock]) k4 o4
    go_wp2_with fail
    go_ret
    exact ⟨_, rfl, r4, k5, o5⟩
  · obtain ⟨hrow, HV⟩ := fin 255 8 (by omega) (by omega) (by simp [varB, leadI, behindI, hsm, h16, h32])
    rw [HV.out]
    clear fin
    go_enter Tryz.func71, Tryz.ntmps71
    go_wp2_with fail
    refine (cRefNumber n 8 _ h0 h1 (by omega)).mono ?_
    rintro e w2 ⟨v2, rfl, r2, k2, o2⟩
    obtain ⟨a2, c2, rfl, s2, _⟩ := r2.sees
    have hsrc := s2.src (P := Tryz.prog) Tryz.underlying45 c2
    have hrow' := hrow.kept k2 (by simp)
    have k3 : Kp [] w w2 := ((Kp.refl [] w).alloc (.cells #[.int .u8 (255 : Nat)] 5)).trans k2 (by simp)
    go_wp2_with (at_builtin; refine wpList_append_src _ rfl (.tmp 17) (.tmp 20) 45 45 rfl i0 Tryz.underlying45 hi hz0 hz1 hz2 _ _ rfl hrow' _ _ rfl hsrc (by simp [be_length]) ?_)
    intro v4 w4 r4 k4 o4
    obtain ⟨k5, o5⟩ := stepA k3 (by simp [own, Value.ownBlock]) k4 o4
    go_wp2_with fail
    go_ret
    exact ⟨_, rfl, r4, k5, o5⟩

set_option maxHeartbeats 1000000 in
set_option maxRecDepth 100000 in
theorem cRefText (a : Option Addr) (n c : Nat) (xs : List UInt8) (w : World) (hs : Sees w a xs) (hn : n = xs.length) (hb : xs.length ≤ 140737488351232) :
    Calls Tryz.prog 72 #[.slice a n c] w fun e w' => ∃ v, e = .returned v ∧ Row w' v (textB xs) ∧ Kp [] w w' ∧ ∀ k ∈ own v, w.heap.size ≤ k := by
  subst hn
  obtain ⟨i0, hi, hz0, hz1, hz2⟩ := info_parts Tryz.infoB
  have hvl := varB_length xs.length
  go_enter Tryz.func72, Tryz.ntmps72
  go_wp2_with fail
  refine (cRefVar xs.length _ (by omega) (by omega)).mono ?_
  rintro e w2 ⟨v2, rfl, r2, k2, o2⟩
  have hsrc := (hs.kept k2 (by simp)).src (P := Tryz.prog) Tryz.underlying45 c
  go_wp2_with (at_builtin; refine wpList_append_src _ rfl (.tmp 8) (.tmp 9) 45 45 rfl i0 Tryz.underlying45 hi hz0 hz1 hz2 _ _ rfl r2 _ _ rfl hsrc (by omega) ?_)
  intro v4 w4 r4 k4 o4
  obtain ⟨k5, o5⟩ := stepA k2 o2 k4 o4
  go_wp2_with fail
  go_ret
  exact ⟨_, rfl, r4, k5, o5⟩
end Go.Proofs.YtpkoikennimonaaGreatDoor
end

section
namespace Go.Proofs.YtpkoikennimonaaGreatDoor
open Go.RowKit Go.Hay
set_option linter.unusedVariables false

/-- What a reference's reader has left. -/
theorem rawS_at (full : List UInt8) (at' : Nat) (n : Int) (e : Int) (ha : at' ≤ full.length) :
    rawS n (full.drop at') e = if e ≠ 0 then ([], full.drop at', e) else if n < 0 then ([], full.drop at', 12) else if (full.length : Int) - at' < n then ([], full.drop at', 10) else ((full.drop at').take n.toNat, full.drop (at' + n.toNat), 0) := by
  unfold rawS takeS
  by_cases he : e ≠ 0
  · by_cases hn : n < 0
    · rw [if_pos hn, if_pos he, if_neg he]
    · rw [if_neg hn, if_pos he, if_pos he]
  · have he' : e = 0 := Decidable.not_not.1 he
    by_cases hn : n < 0
    · rw [if_pos hn, if_neg he, if_pos hn, if_pos he']
    · rw [if_neg hn, if_neg he, if_neg he, if_neg hn, List.length_drop, List.drop_drop]
      by_cases hs : full.length - at' < n.toNat
      · rw [if_pos hs, if_pos (by omega)]
      · rw [if_neg hs, if_neg (by omega)]

/-- A box of three cells. -/
structure Box3 (w : World) (q : Nat) (a b c : Value) : Prop where
  c0 : w.cell? ⟨q, 0, none⟩ = some a
  c1 : w.cell? ⟨q, 1, none⟩ = some b
  c2 : w.cell? ⟨q, 2, none⟩ = some c
  free : ∀ j, w.frozen? ⟨q, j, none⟩ = false
theorem Box3.new (w : World) (a b c : Value) (t : TypeId) : Box3 (w.alloc (.cells #[a, b, c] t)) w.heap.size a b c :=
  ⟨World.cell?_alloc_new w _ _ 0, World.cell?_alloc_new w _ _ 1, World.cell?_alloc_new w _ _ 2, fun j => World.frozen?_alloc_new w _ _ j⟩
theorem Box3.lt {w : World} {q : Nat} {a b c : Value} (h : Box3 w q a b c) : q < w.heap.size := World.block_lt_of_cell? _ _ h.c0
theorem Box3.kept {w w' : World} {q : Nat} {a b c : Value} {S : List Nat} (h : Box3 w q a b c) (hk : Kp S w w') (hq : q ∉ S) : Box3 w' q a b c :=
  ⟨(hk.cell (p := ⟨q, 0, none⟩) h.lt hq).trans h.c0, (hk.cell (p := ⟨q, 1, none⟩) h.lt hq).trans h.c1, (hk.cell (p := ⟨q, 2, none⟩) h.lt hq).trans h.c2, fun j => (hk.frozen (p := ⟨q, j, none⟩) h.lt hq).trans (h.free j)⟩

theorem Box3.setAll {w : World} {q : Nat} {a b c : Value} (h : Box3 w q a b c) (x y z : Value) : Box3 (((w.setCell ⟨q, 0, none⟩ x).setCell ⟨q, 1, none⟩ y).setCell ⟨q, 2, none⟩ z) q x y z ∧ Kp [q] w (((w.setCell ⟨q, 0, none⟩ x).setCell ⟨q, 1, none⟩ y).setCell ⟨q, 2, none⟩ z) := by
  have e1 : (w.setCell ⟨q, 0, none⟩ x).cell? ⟨q, 1, none⟩ = some b := by rw [World.cell?_setCell_other _ _ _ _ (by simp)]; exact h.c1
  have e2 : ((w.setCell ⟨q, 0, none⟩ x).setCell ⟨q, 1, none⟩ y).cell? ⟨q, 2, none⟩ = some c := by rw [World.cell?_setCell_other _ _ _ _ (by simp), World.cell?_setCell_other _ _ _ _ (by simp)]; exact h.c2
  refine ⟨⟨?_, ?_, World.cell?_setCell_same _ _ _ e2, fun j => by rw [World.frozen?_setCell, World.frozen?_setCell, World.frozen?_setCell]; exact h.free j⟩, (((Kp.refl [q] w).setCell (by simp) _).setCell (by simp) _).setCell (by simp) _⟩
  · rw [World.cell?_setCell_other _ _ _ _ (by simp), World.cell?_setCell_other _ _ _ _ (by simp)]; exact World.cell?_setCell_same _ _ _ h.c0
  · rw [World.cell?_setCell_other _ _ _ _ (by simp)]; exact World.cell?_setCell_same _ _ _ e1

/-- What Raw leaves. -/
def RawPost (b : Option Addr) (cb : Nat) (full : List UInt8) (at' : Nat) (e0 n : Int) (w : World) (e : Ending) (w' : World) : Prop :=
  ∃ (out : List UInt8) (at2 : Nat) (e2 : Int) (v : Value), rawS n (full.drop at') e0 = (out, full.drop at2, e2) ∧ at2 ≤ full.length ∧ e = .returned (.tuple #[.agg #[.slice b full.length cb, .int .i64 at2, .int .i64 e2], v]) ∧ Row w' v out ∧ Kp [] w w' ∧ ∀ k ∈ own v, w.heap.size ≤ k

set_option maxHeartbeats 2000000 in
set_option maxRecDepth 100000 in
theorem cRefRaw (b : Option Addr) (cb : Nat) (full : List UInt8) (at' : Nat) (e0 n : Int) (w : World) (hs : Sees w b full) (hl : full.length ≤ cb) (hm : cb ≤ maxLen) (ha : at' ≤ full.length) (hb : full.length ≤ 200000000000000) (hn0 : -9223372036854775808 ≤ n) (hn1 : n ≤ 9223372036854775807) :
    Calls Tryz.prog 102 #[.agg #[.slice b full.length cb, .int .i64 at', .int .i64 e0], .int .i64 n] w (RawPost b cb full at' e0 n w) := by
  have HR := hid (rawS_at full at' n e0 ha)
  unfold maxLen at hm
  by_cases he : e0 = 0
  · subst he
    by_cases hneg : n < 0
    · go_enter Tryz.func102, Tryz.ntmps102
      go_wp2_with fail
      refine bodyPost_ret (v := .tuple #[.agg #[.slice b full.length cb, .int .i64 at', .int .i64 12], .slice none 0 0]) (by simp [results, Tryz.results102, go_sem]) rfl ⟨[], at', 12, _, by rw [HR.out, if_neg (fun h => h rfl), if_pos hneg], ha, rfl, Row.nil _, ((Kp.refl _ _).alloc _).alloc _, by simp [own, Value.ownBlock]⟩
    obtain ⟨n, rfl⟩ := Int.eq_ofNat_of_zero_le (Int.not_lt.1 hneg)
    by_cases hsh : (full.length : Int) - at' < n
    · go_enter Tryz.func102, Tryz.ntmps102
      go_wp2_with fail
      refine bodyPost_ret (v := .tuple #[.agg #[.slice b full.length cb, .int .i64 at', .int .i64 10], .slice none 0 0]) (by simp [results, Tryz.results102, go_sem]) rfl ⟨[], at', 10, _, by rw [HR.out, if_neg (fun h => h rfl), if_neg (by omega), if_pos hsh], ha, rfl, Row.nil _, ((Kp.refl _ _).alloc _).alloc _, by simp [own, Value.ownBlock]⟩
    have HR2 := hid (show rawS (n : Int) (full.drop at') 0 = ((full.drop at').take n, full.drop (at' + n), 0) by rw [HR.out, if_neg (fun h => h rfl), if_neg (by omega), if_neg hsh, Int.toNat_natCast])
    clear HR hneg
    obtain ⟨i0, hi, hz0, hz1, hz2⟩ := info_parts Tryz.infoB
    have hat : at' + n ≤ full.length := by omega
    have HLen := hid (show ((full.drop at').take n).length = n by simp; omega)
    have j1 : (at' : Int) ≤ (at' : Int) + (n : Int) := by omega
    have j2 : (at' : Int) + (n : Int) ≤ (cb : Int) := by omega
    have kx : Kp [] w ((w.alloc (.cells #[.slice b full.length cb, .int .i64 at', .int .i64 0] 141)).alloc (.cells #[.slice none 0 0, .int .i64 0, .int .i64 0] 141)) := ((Kp.refl _ _).alloc _).alloc _
    have key : ∀ (sa : Option Addr) (sc : Nat), Sees w sa ((full.drop at').take n) → (if cb = at' then b else b.map (fun x => x.add at')) = sa → sc = cb - at' →
        Src Tryz.prog 1 45 (.slice sa (at' + n - at') sc) ((full.drop at').take n).length (bcells ((full.drop at').take n)) ((w.alloc (.cells #[.slice b full.length cb, .int .i64 at', .int .i64 0] 141)).alloc (.cells #[.slice none 0 0, .int .i64 0, .int .i64 0] 141)) := by
      intro sa sc hsa _ _
      have := (hsa.kept kx (by simp)).src (P := Tryz.prog) Tryz.underlying45 sc
      rw [HLen.out] at this ⊢
      rw [show at' + n - at' = n by omega]
      exact this
    by_cases hcb : cb = at'
    · have hn0' : n = 0 := by omega
      subst hn0'
      subst hcb
      clear key
      have hsrc : Src Tryz.prog 1 45 (.slice b 0 0) ([] : List UInt8).length (bcells []) ((w.alloc (.cells #[.slice b full.length cb, .int .i64 cb, .int .i64 0] 141)).alloc (.cells #[.slice none 0 0, .int .i64 0, .int .i64 0] 141)) := (Sees.nil _ b).src Tryz.underlying45 0
      go_enter Tryz.func102, Tryz.ntmps102
      go_wp2_with (at_builtin; refine wpList_append_src _ rfl (.tmp 28) (.tmp 37) 45 45 rfl i0 Tryz.underlying45 hi hz0 hz1 hz2 _ [] rfl (Row.nil _) _ [] rfl hsrc (by simp) ?_)
      intro v1 w1 r1 k1 o1
      have r1 : Row w1 v1 [] := by simpa using r1
      have k1' : Kp [] ((w.alloc (.cells #[.slice b full.length cb, .int .i64 cb, .int .i64 0] 141)).alloc (.cells #[.slice none 0 0, .int .i64 0, .int .i64 0] 141)) w1 := k1.mono (by simp [own, Value.ownBlock])
      have o1' : ∀ x ∈ own v1, w.heap.size + 2 ≤ x := fun x hx => by
        rcases o1 x hx with h | h
        · simp [own, Value.ownBlock] at h
        · simpa using h
      obtain ⟨a1, c1, rfl, s1, _⟩ := r1.sees
      have bA := (Box3.new w (.slice b full.length cb) (.int .i64 cb) (.int .i64 0) 141).kept (S := []) ((Kp.refl _ _).alloc (.cells #[.slice none 0 0, .int .i64 0, .int .i64 0] 141)) (by simp)
      have bB := Box3.new (w.alloc (.cells #[.slice b full.length cb, .int .i64 cb, .int .i64 0] 141)) (.slice none 0 0) (.int .i64 0) (.int .i64 0) 141
      have bA1 := bA.kept k1' (by simp)
      have bB1 := bB.kept k1' (by simp)
      rw [show (w.alloc (.cells #[.slice b full.length cb, .int .i64 cb, .int .i64 0] 141)).heap.size = w.heap.size + 1 by simp] at bB1
      have kw := kx.trans k1' (by simp)
      have qa0 := bA1.c0
      have qa1 := bA1.c1
      have qa2 := bA1.c2
      have qaf := bA1.free
      have qb0 := bB1.c0
      have qb1 := bB1.c1
      have qb2 := bB1.c2
      have qbf := bB1.free
      clear bA bB bA1 bB1 hsrc kx k1 k1' o1 hi hz0 hz1 hz2 i0 s1
      go_wp2_with fail
      have ks : Kp [w.heap.size, w.heap.size + 1] w1 ((((w1.setCell ⟨w.heap.size, 1, none⟩ (.int .i64 cb)).setCell ⟨w.heap.size + 1, 0, none⟩ (.slice b full.length cb)).setCell ⟨w.heap.size + 1, 1, none⟩ (.int .i64 cb)).setCell ⟨w.heap.size + 1, 2, none⟩ (.int .i64 0)) :=
        ((((Kp.refl _ w1).setCell (by simp) _).setCell (by simp) _).setCell (by simp) _).setCell (by simp) _
      refine bodyPost_ret (v := .tuple #[.agg #[.slice b full.length cb, .int .i64 ((cb : Nat) : Int), .int .i64 0], .slice a1 0 c1]) (by simp [results, Tryz.results102, go_sem, qb0, qb1, qb2]) rfl ⟨[], cb, 0, _, by simpa using HR2.out, by omega, rfl, r1.kept ks (fun x hx hm => ?_), kw.trans ks (fun x hx => .inr ?_), fun x hx => ?_⟩
      · have := o1' x hx; simp at hm; omega
      · simp at hx; omega
      · have := o1' x hx; omega
    · have hsrc := key (b.map (fun x => x.add at')) (cb - at') ((hs.tail at').front n) (if_neg hcb) rfl
      clear key
      generalize (full.drop at').take n = out at *
      have hob : ([] : List UInt8).length + out.length ≤ 200000000000000 := by rw [HLen.out, List.length_nil]; omega
      go_enter Tryz.func102, Tryz.ntmps102
      go_wp2_with (at_builtin; refine wpList_append_src _ rfl (.tmp 28) (.tmp 37) 45 45 rfl i0 Tryz.underlying45 hi hz0 hz1 hz2 _ [] rfl (Row.nil _) _ out rfl hsrc hob ?_)
      intro v1 w1 r1 k1 o1
      have r1 : Row w1 v1 out := by simpa using r1
      have k1' : Kp [] ((w.alloc (.cells #[.slice b full.length cb, .int .i64 at', .int .i64 0] 141)).alloc (.cells #[.slice none 0 0, .int .i64 0, .int .i64 0] 141)) w1 := k1.mono (by simp [own, Value.ownBlock])
      have o1' : ∀ x ∈ own v1, w.heap.size + 2 ≤ x := fun x hx => by
        rcases o1 x hx with h | h
        · simp [own, Value.ownBlock] at h
        · simpa using h
      obtain ⟨a1, c1, rfl, s1, _⟩ := r1.sees
      have bA := (Box3.new w (.slice b full.length cb) (.int .i64 at') (.int .i64 0) 141).kept (S := []) ((Kp.refl _ _).alloc (.cells #[.slice none 0 0, .int .i64 0, .int .i64 0] 141)) (by simp)
      have bB := Box3.new (w.alloc (.cells #[.slice b full.length cb, .int .i64 at', .int .i64 0] 141)) (.slice none 0 0) (.int .i64 0) (.int .i64 0) 141
      have bA1 := bA.kept k1' (by simp)
      have bB1 := bB.kept k1' (by simp)
      rw [show (w.alloc (.cells #[.slice b full.length cb, .int .i64 at', .int .i64 0] 141)).heap.size = w.heap.size + 1 by simp] at bB1
      have kw := kx.trans k1' (by simp)
      have qa0 := bA1.c0
      have qa1 := bA1.c1
      have qa2 := bA1.c2
      have qaf := bA1.free
      have qb0 := bB1.c0
      have qb1 := bB1.c1
      have qb2 := bB1.c2
      have qbf := bB1.free
      clear bA bB bA1 bB1 hsrc kx k1 k1' o1 hi hz0 hz1 hz2 i0 s1
      go_wp2_with fail
      have ks : Kp [w.heap.size, w.heap.size + 1] w1 ((((w1.setCell ⟨w.heap.size, 1, none⟩ (.int .i64 (at' + n))).setCell ⟨w.heap.size + 1, 0, none⟩ (.slice b full.length cb)).setCell ⟨w.heap.size + 1, 1, none⟩ (.int .i64 (at' + n))).setCell ⟨w.heap.size + 1, 2, none⟩ (.int .i64 0)) :=
        ((((Kp.refl _ w1).setCell (by simp) _).setCell (by simp) _).setCell (by simp) _).setCell (by simp) _
      refine bodyPost_ret (v := .tuple #[.agg #[.slice b full.length cb, .int .i64 ((at' + n : Nat) : Int), .int .i64 0], .slice a1 out.length c1]) (by simp [results, Tryz.results102, go_sem, qb0, qb1, qb2]) rfl ⟨out, at' + n, 0, _, HR2.out, hat, rfl, r1.kept ks (fun x hx hm => ?_), kw.trans ks (fun x hx => .inr ?_), fun x hx => ?_⟩
      · have := o1' x hx; simp at hm; omega
      · simp at hx; omega
      · have := o1' x hx; omega
  · have he' : (e0 != 0) = true := by simpa using he
    go_enter Tryz.func102, Tryz.ntmps102
    go_wp2_with fail
    refine bodyPost_ret (v := .tuple #[.agg #[.slice b full.length cb, .int .i64 at', .int .i64 e0], .slice none 0 0]) (by simp [results, Tryz.results102, go_sem]) rfl ⟨[], at', e0, _, by rw [HR.out, if_pos he], ha, rfl, Row.nil _, ((Kp.refl _ _).alloc _).alloc _, by simp [own, Value.ownBlock]⟩
end Go.Proofs.YtpkoikennimonaaGreatDoor
end

section
namespace Go.Proofs.YtpkoikennimonaaGreatDoor
open Go.RowKit Go.Hay
set_option linter.unusedVariables false

/-- What Get leaves. -/
def GetPost (b : Option Addr) (cb : Nat) (full : List UInt8) (at' : Nat) (e0 : Int) (k : Nat) (w : World) (e : Ending) (w' : World) : Prop :=
  ∃ (out : List UInt8) (at2 : Nat) (e2 : Int), takeS k (full.drop at') e0 = (out, full.drop at2, e2) ∧ at2 ≤ full.length ∧ e = .returned (.tuple #[.agg #[.slice b full.length cb, .int .i64 at2, .int .i64 e2], .int .u64 (num out)]) ∧ Kp [] w w'

set_option maxHeartbeats 2000000 in
set_option maxRecDepth 100000 in
theorem cRefGet (b : Option Addr) (cb : Nat) (full : List UInt8) (at' : Nat) (e0 : Int) (k : Nat) (w : World) (hs : Sees w b full) (hl : full.length ≤ cb) (hm : cb ≤ maxLen) (ha : at' ≤ full.length) (hb : full.length ≤ 200000000000000) (hk : k ≤ 8) :
    Calls Tryz.prog 101 #[.agg #[.slice b full.length cb, .int .i64 at', .int .i64 e0], .int .i64 k] w (GetPost b cb full at' e0 k w) := by
  have kx : Kp [] w ((w.alloc (.cells #[.slice b full.length cb, .int .i64 at', .int .i64 e0] 141)).alloc (.cells #[.slice none 0 0, .int .i64 0, .int .i64 0] 141)) := ((Kp.refl _ _).alloc _).alloc _
  have bA := (Box3.new w (.slice b full.length cb) (.int .i64 at') (.int .i64 e0) 141).kept (S := []) ((Kp.refl _ _).alloc (.cells #[.slice none 0 0, .int .i64 0, .int .i64 0] 141)) (by simp)
  have bB := Box3.new (w.alloc (.cells #[.slice b full.length cb, .int .i64 at', .int .i64 e0] 141)) (.slice none 0 0) (.int .i64 0) (.int .i64 0) 141
  rw [show (w.alloc (.cells #[.slice b full.length cb, .int .i64 at', .int .i64 e0] 141)).heap.size = w.heap.size + 1 by simp] at bB
  go_enter Tryz.func101, Tryz.ntmps101
  go_wp2_with fail
  refine (cRefRaw b cb full at' e0 k _ (hs.kept kx (by simp)) hl hm ha hb (by omega) (by omega)).mono ?_
  rintro e w2 ⟨out, at2, e2, v, hraw, ha2, rfl, hrow, k2, ho⟩
  have bA2 := bA.kept k2 (by simp)
  have bB2 := bB.kept k2 (by simp)
  have kw := kx.trans k2 (by simp)
  have hlen : out.length ≤ 8 := by
    rw [show rawS (k : Int) (full.drop at') e0 = takeS k (full.drop at') e0 by unfold rawS; rw [if_neg (by omega), Int.toNat_natCast]] at hraw
    have := takeS_len _ _ _ hraw
    omega
  have HR := hid (show takeS k (full.drop at') e0 = (out, full.drop at2, e2) by rw [← hraw]; unfold rawS; rw [if_neg (by omega), Int.toNat_natCast])
  have ho' : ∀ x ∈ own v, w.heap.size + 2 ≤ x := fun x hx => by simpa using ho x hx
  obtain ⟨a1, c1, rfl, s1, _⟩ := hrow.sees
  obtain ⟨bA3, ks⟩ := bA2.setAll (.slice b full.length cb) (.int .i64 at2) (.int .i64 e2)
  have r3 := hrow.kept ks (fun x hx hm => by have := ho' x hx; simp at hm; omega)
  obtain ⟨a1', c1', e1, s3, _⟩ := r3.sees
  cases e1
  have bB3 := bB2.kept ks (by simp)
  have kw3 := kw.trans ks (fun x hx => .inr (by simp at hx; omega))
  have qa0 := bA2.c0
  have qa1 := bA2.c1
  have qa2 := bA2.c2
  have qaf := bA2.free
  clear hraw bA bB k2 ho hrow s1 r3 bB2 kx ks kw
  go_wp2_with fail
  clear qa0 qa1 qa2 qaf bA2
  generalize ((w2.setCell ⟨w.heap.size, 0, none⟩ (.slice b full.length cb)).setCell ⟨w.heap.size, 1, none⟩ (.int .i64 at2)).setCell ⟨w.heap.size, 2, none⟩ (.int .i64 e2) = W3 at *
  have q0 := bA3.c0
  have q1 := bA3.c1
  have q2 := bA3.c2
  have p0 := bB3.c0
  have p1 := bB3.c1
  have p2 := bB3.c2
  have pf := bB3.free
  obtain ⟨bB4, ks4⟩ := bB3.setAll (.slice b full.length cb) (.int .i64 at2) (.int .i64 e2)
  have z0 := bB4.c0
  have z1 := bB4.c1
  have z2 := bB4.c2
  have kw4 := (kw3.trans ks4 (fun x hx => .inr (by simp at hx; omega))).drew
  clear bB4 ks4 kw3 bB3 bA3
  go_region_with (go_at_call 87; refine (cSaid a1 out.length c1 out _ s3.drew rfl hlen).mono ?_; rintro e w4 ⟨rfl, rfl⟩)
  all_goals
    go_wp2_with fail
    exact bodyPost_ret (v := .tuple #[.agg #[.slice b full.length cb, .int .i64 at2, .int .i64 e2], .int .u64 (num out)]) (by simp [results, Tryz.results101, go_sem, z0, z1, z2]) rfl ⟨out, at2, e2, HR.out, ha2, rfl, kw4⟩

/-- What GetVar tells. -/
def gvS (most : Int) (neg : Bool) (bs : List UInt8) (e : Int) : Int × List UInt8 × Int :=
  if neg = true then (0, bs, if (varS 18446744073709551615 bs e).2.2 = 0 then 12 else (varS 18446744073709551615 bs e).2.2) else varS most bs e
theorem gvS_bad (most : Int) (neg : Bool) (bs : List UInt8) (e e1 : Int) (he : e1 ≠ 0) (h : ∀ m, varS m bs e = (0, bs, e1)) : gvS most neg bs e = (0, bs, e1) := by
  unfold gvS
  cases neg
  · rw [if_neg (by simp), h]
  · rw [if_pos rfl, h, if_neg he]
/-- Where the number is right but for the bound. -/
theorem gvS_num (most : Int) (neg : Bool) (bs rest : List UInt8) (n k : Int) (h : fv bs = (n, k, 0)) (hn : n < 18446744073709551616) (hr : rest = bs.drop k.toNat) : gvS most neg bs 0 = if neg = true ∨ most < n then (0, bs, 12) else (n, rest, 0) := by
  unfold gvS varS
  rw [h]
  cases neg
  · by_cases hm : most < n
    · simp [hm]
    · simp [hm, hr]
  · simp
    rw [if_neg (by omega)]
    simp
theorem fv_f (f : UInt8) (r : List UInt8) (h : f.toNat < 253) : fv (f :: r) = ((f.toNat : Int), 1, 0) := by
  have e : behindI f.toNat = 0 := by unfold behindI; rw [if_neg (by omega), if_neg (by omega), if_neg (by omega)]
  simp only [fv, e]
  rfl
theorem varB_len (n : Int) : ((varB n).length : Int) = 1 + behindI (leadI n) := by
  have := behindI_bd (leadI n)
  simp only [varB, List.length_cons, be_length]
  omega
theorem lead_of_behind (n : Int) (f : Nat) (h0 : 0 ≤ n) (hf : 253 ≤ f) (hf2 : f ≤ 255) : behindI (leadI n) = behindI f ↔ leadI n = f := by
  unfold leadI behindI
  repeat (first | split | omega)
theorem drop_inj (l : List UInt8) (i j : Nat) (hi : i ≤ l.length) (hj : j ≤ l.length) (h : l.drop i = l.drop j) : i = j := by
  have := congrArg List.length h
  simp at this
  omega
theorem takeS_ok (k : Nat) (bs : List UInt8) (e : Int) {out bs' : List UInt8} (h : takeS k bs e = (out, bs', 0)) : e = 0 ∧ k ≤ bs.length ∧ out = bs.take k ∧ bs' = bs.drop k := by
  unfold takeS at h
  split at h
  · rename_i he; cases h; exact absurd rfl he
  · rename_i he
    split at h
    · cases h
    · cases h; exact ⟨Decidable.not_not.1 he, by omega, rfl, rfl⟩
theorem takeS_no (k : Nat) (bs : List UInt8) (e : Int) {out bs' : List UInt8} {e' : Int} (h : takeS k bs e = (out, bs', e')) (he' : e' ≠ 0) : out = [] ∧ bs' = bs ∧ ((e ≠ 0 ∧ e' = e) ∨ (e = 0 ∧ bs.length < k ∧ e' = 10)) := by
  unfold takeS at h
  split at h
  · rename_i he; cases h; exact ⟨rfl, rfl, .inl ⟨he, rfl⟩⟩
  · rename_i he
    split at h
    · cases h; exact ⟨rfl, rfl, .inr ⟨Decidable.not_not.1 he, by assumption, rfl⟩⟩
    · cases h; exact absurd rfl he'

end Go.Proofs.YtpkoikennimonaaGreatDoor
end

section
namespace Go.Proofs.YtpkoikennimonaaGreatDoor
open Go.RowKit Go.Hay
set_option linter.unusedVariables false

/-- What is asked for, and whether it is below nought, tell a count. -/
theorem gvS_count (most m : Int) (bs : List UInt8) (e : Int) (hm : 0 ≤ most → m = most) : gvS m (decide (most < 0)) bs e = countS most bs e := by
  unfold gvS countS
  by_cases h : 0 ≤ most
  · rw [if_neg (by simp; omega), if_pos h, hm h]
  · rw [if_pos (by simp; omega), if_neg h]
theorem textS_bad (most : Int) (bs : List UInt8) (e e1 : Int) (h : countS most bs e = (0, bs, e1)) (he : e1 ≠ 0) : textS most bs e = ([], bs, e1) := by
  have hr : rawS 0 bs e1 = ([], bs, e1) := by simp [rawS, takeS, he]
  unfold textS
  rw [h]
  simp only [hr]
  rw [if_pos he]
theorem textS_short (most : Int) (bs rest : List UInt8) (e n : Int) (h : countS most bs e = (n, rest, 0)) (hn : 0 ≤ n) (hl : (rest.length : Int) < n) : textS most bs e = ([], bs, 10) := by
  have hr : rawS n rest 0 = ([], rest, 10) := by
    unfold rawS takeS
    rw [if_neg (by omega), if_neg (by simp), if_pos (by omega)]
  unfold textS
  rw [h]
  simp only [hr]
  rw [if_pos (by decide)]
theorem textS_good (most : Int) (bs rest : List UInt8) (e n : Int) (h : countS most bs e = (n, rest, 0)) (hn : 0 ≤ n) (hl : n ≤ rest.length) : textS most bs e = rawS n rest 0 := by
  have hr : rawS n rest 0 = (rest.take n.toNat, rest.drop n.toNat, 0) := by
    unfold rawS takeS
    rw [if_neg (by omega), if_neg (by simp), if_neg (by omega)]
  unfold textS
  rw [h]
  simp only [hr]
  rw [if_neg (by simp)]
/-- Where a count fails nothing was read. -/
theorem countS_bad (most : Int) (bs : List UInt8) (e : Int) {n e1 : Int} {r : List UInt8} (h : countS most bs e = (n, r, e1)) (he : e1 ≠ 0) : n = 0 ∧ r = bs := by
  unfold countS varS at h
  repeat (first | (split at h) | (cases h; first | exact ⟨rfl, rfl⟩ | exact absurd rfl he))

/-- What GetText leaves. -/
def TextPost (b : Option Addr) (cb : Nat) (full : List UInt8) (at' : Nat) (e0 most : Int) (w : World) (e : Ending) (w' : World) : Prop :=
  ∃ (out : List UInt8) (at2 : Nat) (e2 : Int) (v : Value), textS most (full.drop at') e0 = (out, full.drop at2, e2) ∧ at2 ≤ full.length ∧ e = .returned (.tuple #[.agg #[.slice b full.length cb, .int .i64 at2, .int .i64 e2], v]) ∧ Row w' v out ∧ Kp [] w w' ∧ ∀ k ∈ own v, w.heap.size ≤ k

end Go.Proofs.YtpkoikennimonaaGreatDoor
end

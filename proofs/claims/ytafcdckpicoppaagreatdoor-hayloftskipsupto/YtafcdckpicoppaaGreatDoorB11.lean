/- The reader's calls, more: take, Byte, Word, Long, frontVar, Var, Raw, count, Text. The reader's calls, the rest: Var, Raw, count, Text. Plain mathematics of the checksum: a step by half bytes is four single steps; one bit that is turned is found. The checksum's two texts: the program's, by a table of half bytes, and the reference's, bit by bit. Blocks: plain functions: what is written, what is read, back and forth. The writer's Word. block.Write. -/
import Derived.Test.YtafcdckpicoppaaGreatDoorB10
import Derived.Test.YtafcdckpicoppaaGreatDoorB1
import Derived.Laws.BitsAllLaws
import Derived.Test.YtafcdckpicoppaaGreatDoorB6
import Derived.Test.YtafcdckpicoppaaGreatDoorB3
import Derived.Test.YtafcdckpicoppaaGreatDoorB7
import Derived.Test.YtafcdckpicoppaaGreatDoorB5
section
namespace Go.Proofs.YtafcdckpicoppaaGreatDoor
open Go.RowKit Go.Hay
set_option linter.unusedVariables false

set_option maxHeartbeats 400000 in
theorem rTake (p : Nat) (D : List Nat) (bs : List UInt8) (e0 n : Int) (w : World) (h : Rd w p D bs e0) (h0 : 0 ≤ n) :
    Calls Tryz.prog 59 #[.pointer (some ⟨p, 0, none⟩), .int .i64 n] w fun e w' => ∃ out bs' e' a c, takeS n.toNat bs e0 = (out, bs', e') ∧ e = .returned (.slice a out.length c) ∧ Sees w' a out ∧ (∀ k ∈ blk a, k ∈ D) ∧ out.length ≤ c ∧ Rd w' p D bs' e' ∧ Kp [p] w w' := by
  obtain ⟨n, rfl⟩ := Int.eq_ofNat_of_zero_le h0
  rw [Int.toNat_natCast]
  have hR := h
  have h1 := h.err
  have f0 := h.free0
  have f1 := h.free1
  obtain ⟨a, c, hc, hl, hm, hs, hD⟩ := h.left
  by_cases he : e0 = 0
  · subst he
    by_cases hn : bs.length < n
    · obtain ⟨r1, r2⟩ := h.setErr 10
      clear h hR
      go_enter Tryz.func59, Tryz.ntmps59
      go_wp2
      go_ret
      exact ⟨[], bs, 10, none, 0, by simp [takeS, hn], rfl, Sees.nil _ _, by simp [blk], Nat.le_refl _, r1, r2⟩
    · have hn' : n ≤ bs.length := by omega
      have hp1 := hs.front n
      have hp2 := hs.tail n
      have htk : (bs.take n).length = n := by simp; omega
      have ho : ∀ k ∈ blk a, k ∉ [p] := fun k hk hm' => by rw [List.mem_singleton] at hm'; subst hm'; exact h.apart (hD _ hk)
      by_cases hcn : c = n
      · subst hcn
        have hnil : bs.drop c = [] := by rw [List.drop_of_length_le hl]
        obtain ⟨r1, r2⟩ := h.setLeft (bs' := bs.drop c) a 0 0 (by simp; omega) (by simp; omega) (Nat.zero_le _) (by rw [hnil]; exact Sees.nil _ _) hD
        have hq1 := hp1.kept r2 ho
        clear h hR hnil hp1 hp2 ho
        go_enter Tryz.func59, Tryz.ntmps59
        go_wp2
        go_ret
        exact ⟨_, _, _, a, c, by rw [takeS, if_neg (by simp), if_neg (by omega)], by rw [htk]; rfl, hq1, hD, by omega, r1, r2⟩
      · obtain ⟨r1, r2⟩ := h.setLeft (bs' := bs.drop n) (a.map (fun x => x.add n)) (c - n) (bs.length - n) (by simp) (by simp; omega) (by omega) hp2 (fun k hk => hD k (by rwa [blk_tail] at hk))
        have hq1 := hp1.kept r2 ho
        clear h hR hp1 hp2 ho
        go_enter Tryz.func59, Tryz.ntmps59
        go_wp2
        go_ret
        exact ⟨_, _, _, a, c, by rw [takeS, if_neg (by simp), if_neg (by omega)], by rw [htk]; rfl, hq1, hD, by omega, r1, r2⟩
  · have he' : (e0 == 0) = false := by simpa using he
    have he2 : (e0 != 0) = true := by simpa using he
    go_enter Tryz.func59, Tryz.ntmps59
    go_wp2
    go_ret
    exact ⟨[], bs, e0, none, 0, by simp [takeS, he], rfl, Sees.nil _ _, by simp [blk], Nat.le_refl _, hR, Kp.refl _ _⟩
theorem takeS_len (n : Nat) (bs : List UInt8) (e : Int) {out bs' : List UInt8} {e' : Int} (h : takeS n bs e = (out, bs', e')) : out.length ≤ n := by
  unfold takeS at h
  split at h
  · cases h; simp
  · split at h
    · cases h; simp
    · cases h; simp; omega
theorem num_lt_of (xs : List UInt8) (k : Nat) (h : xs.length ≤ k) : num xs < 256 ^ k := Nat.lt_of_lt_of_le (num_lt xs) (Nat.pow_le_pow_right (by omega) h)

set_option maxHeartbeats 400000 in
theorem rByte (p : Nat) (D : List Nat) (bs : List UInt8) (e0 : Int) (w : World) (h : Rd w p D bs e0) :
    Calls Tryz.prog 38 #[.pointer (some ⟨p, 0, none⟩)] w fun e w' => ∃ out bs' e', takeS 1 bs e0 = (out, bs', e') ∧ e = .returned (.int .u8 (num out)) ∧ Rd w' p D bs' e' ∧ Kp [p] w w' := by
  go_enter Tryz.func38, Tryz.ntmps38
  go_wp2_with fail
  refine (rTake p D bs e0 1 _ h (by omega)).mono ?_
  rintro e w1 ⟨out, bs', e', a, c, ht, rfl, hs, hD, hl, hr, hk⟩
  have hlen := takeS_len _ _ _ ht
  have hnum := num_lt_of out 1 hlen
  have HT := hid ht
  clear ht
  go_wp2_with fail
  refine (cNumber a _ c out _ hs rfl (by omega)).mono ?_
  rintro e w2 ⟨rfl, rfl⟩
  go_wp2_with fail
  go_ret
  exact ⟨out, bs', e', HT.out, rfl, hr, hk⟩
set_option maxHeartbeats 400000 in
set_option maxRecDepth 100000 in
theorem cFrontC (a : Option Addr) (n c : Nat) (bs : List UInt8) (w : World) (hs : Sees w a bs) (hn : n = bs.length) (hl : bs.length ≤ c) (hm : c ≤ maxLen) :
    Calls Tryz.prog 88 #[.slice a n c] w fun e w' => e = .returned (.tuple #[.int .u64 (fv bs).1, .int .i64 (fv bs).2.1, .int .i64 (fv bs).2.2]) ∧ w' = w := by
  subst hn
  cases bs with
  | nil =>
    rw [show fv [] = (0, 0, 10) from rfl, List.length_nil]
    go_enter Tryz.func88, Tryz.ntmps88
    go_wp2
    go_ret3
    exact ⟨rfl, rfl⟩
  | cons f r =>
    have hf : f.toNat < 256 := f.toNat_lt
    obtain ⟨g, o, rfl, hc⟩ : ∃ g o, a = some ⟨g, o, none⟩ ∧ ∀ j u, (f :: r)[j]? = some u → w.cell? ⟨g, o + j, none⟩ = some (.int .u8 u.toNat) := by
      rcases hs with h | h
      · cases h
      · exact h
    have hc0 : w.cell? ⟨g, o, none⟩ = some (.int .u8 f.toNat) := hc 0 f rfl
    have htl := (Sees.tail hs 1).front
    clear hc
    have hbh := behindI_bd f.toNat
    obtain ⟨k, hk⟩ : ∃ k : Nat, behindI f.toNat = k := ⟨(behindI f.toNat).toNat, by omega⟩
    rw [List.length_cons] at hl ⊢
    have hk8 : k ≤ 8 := by omega
    unfold maxLen at hm
    by_cases hk0 : k = 0
    · have e : fv (f :: r) = ((f.toNat : Int), 1, 0) := by simp only [fv, hk, hk0]; rfl
      rw [e]
      have HK := hid hk
      clear hk hbh e htl hs
      subst hk0
      go_enter Tryz.func88, Tryz.ntmps88
      go_wp2_with fail
      refine (cBehind _ _ (by omega) (by omega)).mono ?_
      rintro e w2 ⟨rfl, rfl⟩
      rw [HK.out]
      go_wp2_with fail
      go_ret3
      exact ⟨rfl, rfl⟩
    have hk1 : ((1 + (k : Int)) == 1) = false := by simp; omega
    by_cases hsh : r.length < k
    · have e : fv (f :: r) = (0, 0, 10) := by simp only [fv, hk]; rw [if_neg (by omega), if_pos (by omega)]
      rw [e]
      have HK := hid hk
      clear hk hbh e htl hs
      go_enter Tryz.func88, Tryz.ntmps88
      go_wp2_with fail
      refine (cBehind _ _ (by omega) (by omega)).mono ?_
      rintro e w2 ⟨rfl, rfl⟩
      rw [HK.out]
      go_wp2_with fail
      go_ret3
      exact ⟨rfl, rfl⟩
    · have hc1 : ¬ c = 1 := by omega
      have hkl : k ≤ r.length := by omega
      have hnn := num_lt64 (r.take k) (by simp; omega)
      have hlen : (r.take k).length = k := by simp; omega
      have hv : fv (f :: r) = if leadI (num (r.take k)) ≠ f.toNat then ((0 : Int), (0 : Int), (11 : Int)) else ((num (r.take k) : Int), 1 + (k : Int), 0) := by
        simp only [fv, hk, Int.toNat_natCast]
        rw [if_neg (by omega), if_neg (by omega)]
      rw [hv]
      have HK := hid hk
      have hs1 := htl k
      rw [List.drop_one, List.tail_cons, Option.map_some, Addr.add_lit] at hs1
      clear hk hbh htl hs hv
      generalize hm' : num (r.take k) = m at *
      generalize hq : leadI (m : Int) = q at *
      have hqb := leadI_bd m (by omega)
      rw [hq] at hqb
      have HM := hid hm'
      have HL := hid hq
      clear hm' hq
      by_cases hqf : q = f.toNat
      · rw [if_neg (fun h => h hqf)]
        subst hqf
        go_enter Tryz.func88, Tryz.ntmps88
        go_wp2_with fail
        refine (cBehind _ _ (by omega) (by omega)).mono ?_
        rintro e w2 ⟨rfl, rfl⟩
        rw [HK.out]
        go_wp2_with fail
        refine (cNumber _ k _ (r.take k) _ hs1 hlen.symm (by omega)).mono ?_
        rintro e w2 ⟨rfl, rfl⟩
        rw [HM.out]
        go_wp2_with fail
        refine (cLead _ _ (by omega) (by omega)).mono ?_
        rintro e w2 ⟨rfl, rfl⟩
        rw [HL.out]
        go_wp2_with fail
        go_ret3
        exact ⟨rfl, rfl⟩
      · rw [if_pos hqf]
        have hq' : (q != (f.toNat : Int)) = true := by simpa using hqf
        clear hqf
        go_enter Tryz.func88, Tryz.ntmps88
        go_wp2_with fail
        refine (cBehind _ _ (by omega) (by omega)).mono ?_
        rintro e w2 ⟨rfl, rfl⟩
        rw [HK.out]
        go_wp2_with fail
        refine (cNumber _ k _ (r.take k) _ hs1 hlen.symm (by omega)).mono ?_
        rintro e w2 ⟨rfl, rfl⟩
        rw [HM.out]
        go_wp2_with fail
        refine (cLead _ _ (by omega) (by omega)).mono ?_
        rintro e w2 ⟨rfl, rfl⟩
        rw [HL.out]
        go_wp2_with fail
        go_ret3
        exact ⟨rfl, rfl⟩
end Go.Proofs.YtafcdckpicoppaaGreatDoor
end

section
namespace Go.Proofs.YtafcdckpicoppaaGreatDoor
open Go.RowKit Go.Hay
set_option linter.unusedVariables false

set_option maxHeartbeats 400000 in
theorem rVar (p : Nat) (D : List Nat) (bs : List UInt8) (e0 most : Int) (w : World) (h : Rd w p D bs e0) (h0 : 0 ≤ most) (h1 : most < 18446744073709551616) :
    Calls Tryz.prog 62 #[.pointer (some ⟨p, 0, none⟩), .int .u64 most] w fun e w' => ∃ n bs' e', varS most bs e0 = (n, bs', e') ∧ e = .returned (.int .u64 n) ∧ Rd w' p D bs' e' ∧ Kp [p] w w' := by
  have he1 := h.err
  have f0 := h.free0
  have f1 := h.free1
  obtain ⟨a, c, hc, hl, hm, hs, hD⟩ := h.left
  by_cases he : e0 = 0
  · subst he
    have hbd := fv_bd bs
    obtain ⟨n, k, e2, hfv⟩ : ∃ n k e2, fv bs = (n, k, e2) := ⟨_, _, _, rfl⟩
    have hvar : varS most bs 0 = if e2 ≠ 0 then (0, bs, e2) else if most < n then (0, bs, 12) else (n, bs.drop k.toNat, 0) := by simp [varS, hfv]
    rw [hvar]
    have hfront := cFrontC a bs.length c bs w hs rfl hl hm
    rw [hfv] at hbd hfront
    obtain ⟨hn0, hn1, hk0, hk9, hkl⟩ : 0 ≤ n ∧ n < 18446744073709551616 ∧ 0 ≤ k ∧ k ≤ 9 ∧ k ≤ bs.length := hbd
    have hfront : Calls Tryz.prog 88 #[.slice a bs.length c] w fun e w' => e = .returned (.tuple #[.int .u64 n, .int .i64 k, .int .i64 e2]) ∧ w' = w := hfront
    have HF := hid hfront
    clear hfv hvar hfront
    obtain ⟨k, rfl⟩ := Int.eq_ofNat_of_zero_le hk0
    rw [Int.toNat_natCast]
    by_cases he2 : e2 = 0
    · subst he2
      rw [if_neg (fun h => h rfl)]
      by_cases hmn : most < n
      · rw [if_pos hmn]
        obtain ⟨r1, r2⟩ := h.setErr 12
        clear h
        go_enter Tryz.func62, Tryz.ntmps62
        go_wp2_with fail
        refine HF.out.mono ?_
        rintro e w2 ⟨rfl, rfl⟩
        go_wp2_with fail
        go_ret
        exact ⟨_, _, _, rfl, rfl, r1, r2⟩
      · rw [if_neg hmn]
        have ho : ∀ k ∈ blk a, k ∉ [p] := fun k hk hm' => by rw [List.mem_singleton] at hm'; subst hm'; exact h.apart (hD _ hk)
        by_cases hck : c = k
        · have hnil : bs.drop k = [] := by rw [List.drop_of_length_le (by omega)]
          obtain ⟨r1, r2⟩ := h.setLeft (bs' := bs.drop k) a 0 0 (by simp; omega) (by simp; omega) (Nat.zero_le _) (by rw [hnil]; exact Sees.nil _ _) hD
          subst hck
          clear h hnil ho hs hD
          go_enter Tryz.func62, Tryz.ntmps62
          go_wp2_with fail
          refine HF.out.mono ?_
          rintro e w2 ⟨rfl, rfl⟩
          go_wp2_with fail
          go_ret
          exact ⟨_, _, _, rfl, rfl, r1, r2⟩
        · obtain ⟨r1, r2⟩ := h.setLeft (bs' := bs.drop k) (a.map (fun x => x.add k)) (c - k) (bs.length - k) (by simp) (by simp; omega) (by omega) (hs.tail k) (fun k hk => hD k (by rwa [blk_tail] at hk))
          clear h ho hs hD
          go_enter Tryz.func62, Tryz.ntmps62
          go_wp2_with fail
          refine HF.out.mono ?_
          rintro e w2 ⟨rfl, rfl⟩
          go_wp2_with fail
          go_ret
          exact ⟨_, _, _, rfl, rfl, r1, r2⟩
    · rw [if_pos he2]
      obtain ⟨r1, r2⟩ := h.setErr e2
      have he' : (e2 == 0) = false := by simpa using he2
      have he2' : (e2 != 0) = true := by simpa using he2
      clear h
      go_enter Tryz.func62, Tryz.ntmps62
      go_wp2_with fail
      refine HF.out.mono ?_
      rintro e w2 ⟨rfl, rfl⟩
      go_wp2_with fail
      go_ret
      exact ⟨_, _, _, rfl, rfl, r1, r2⟩
  · have he' : (e0 == 0) = false := by simpa using he
    have he2 : (e0 != 0) = true := by simpa using he
    go_enter Tryz.func62, Tryz.ntmps62
    go_wp2_with fail
    go_ret
    exact ⟨0, bs, e0, by simp [varS, he], rfl, h, Kp.refl _ _⟩
set_option maxHeartbeats 400000 in
theorem rRaw (p : Nat) (D : List Nat) (bs : List UInt8) (e0 n : Int) (w : World) (h : Rd w p D bs e0) (hb : bs.length ≤ 200000000000000) :
    Calls Tryz.prog 89 #[.pointer (some ⟨p, 0, none⟩), .int .i64 n] w fun e w' => ∃ out bs' e' v, rawS n bs e0 = (out, bs', e') ∧ e = .returned v ∧ Row w' v out ∧ (∀ k ∈ own v, w.heap.size ≤ k) ∧ Rd w' p D bs' e' ∧ Kp [p] w w' := by
  by_cases hn : n < 0
  · have HE := hid (show rawS n bs e0 = ([], bs, if e0 = 0 then 12 else e0) by rw [rawS, if_pos hn])
    go_enter Tryz.func89, Tryz.ntmps89
    go_wp2_with fail
    refine (rFail p D bs e0 12 _ h).mono ?_
    rintro e w1 ⟨rfl, r1, r2⟩
    go_wp2_with fail
    go_ret
    exact ⟨_, _, _, _, HE.out, rfl, Row.nil _, by simp [own, Value.ownBlock], r1, r2⟩
  · have hn' : 0 ≤ n := by omega
    have HE := hid (show rawS n bs e0 = takeS n.toNat bs e0 by rw [rawS, if_neg hn])
    go_enter Tryz.func89, Tryz.ntmps89
    go_wp2_with fail
    refine (rTake p D bs e0 n _ h hn').mono ?_
    rintro e w1 ⟨out, bs', e', a, c, ht, rfl, hs, hD, hl, hr, hk⟩
    have hout : out.length ≤ bs.length := by
      unfold takeS at ht
      split at ht
      · cases ht; simp
      · split at ht
        · cases ht; simp
        · cases ht; simp; omega
    have HT := hid (HE.out.trans ht)
    clear ht HE
    go_wp2_with fail
    refine (cClone a out.length c out _ hs rfl (by omega)).mono ?_
    rintro e w2 ⟨v', rfl, g1, g2, g3⟩
    go_wp2_with fail
    go_ret
    have hlt := hr.lt
    exact ⟨out, bs', e', v', HT.out, rfl, g1, fun k hk' => Nat.le_trans hk.size (g3 k hk'), hr.kept g2 (by simp) (by simp), hk.trans g2 (by simp)⟩
set_option maxHeartbeats 400000 in
theorem rCount (p : Nat) (D : List Nat) (bs : List UInt8) (e0 most : Int) (w : World) (h : Rd w p D bs e0) (h0 : -9223372036854775808 ≤ most) (h1 : most ≤ 9223372036854775807) :
    Calls Tryz.prog 90 #[.pointer (some ⟨p, 0, none⟩), .int .i64 most] w fun e w' => ∃ n bs' e', countS most bs e0 = (n, bs', e') ∧ e = .returned (.int .i64 n) ∧ 0 ≤ n ∧ n ≤ 9223372036854775807 ∧ Rd w' p D bs' e' ∧ Kp [p] w w' := by
  by_cases hm : 0 ≤ most
  · have HE := hid (show countS most bs e0 = varS most bs e0 by rw [countS, if_pos hm])
    go_enter Tryz.func90, Tryz.ntmps90
    go_wp2_with fail
    refine (rVar p D bs e0 most _ h hm (by omega)).mono ?_
    rintro e w1 ⟨n, bs', e', ht, rfl, hr, hk⟩
    have hn : 0 ≤ n ∧ n ≤ most := by
      have := fv_bd bs
      unfold varS at ht
      split at ht
      · cases ht; omega
      · split at ht
        · cases ht; omega
        · split at ht
          · cases ht; omega
          · cases ht; omega
    obtain ⟨hn0, hn1⟩ := hn
    have hn2 : n ≤ 9223372036854775807 := by omega
    have HT := hid (HE.out.trans ht)
    clear ht HE
    go_wp2_with fail
    go_ret
    exact ⟨n, bs', e', HT.out, rfl, hn0, hn2, hr, hk⟩
  · obtain ⟨a, c, hc, hl, hmx, hs, hD⟩ := h.left
    have f0 := h.free0
    have hap := h.apart
    have hlt := h.lt
    have HE := hid (show countS most bs e0 = (0, bs, if (varS 18446744073709551615 bs e0).2.2 = 0 then 12 else (varS 18446744073709551615 bs e0).2.2) by rw [countS, if_neg hm])
    go_enter Tryz.func90, Tryz.ntmps90
    go_wp2_with fail
    refine (rVar p D bs e0 18446744073709551615 _ h (by omega) (by omega)).mono ?_
    rintro e w1 ⟨n, bs', e', ht, rfl, hr, hk⟩
    have he := HE.out
    rw [ht] at he
    have HT := hid he
    clear ht HE he
    have ho : ∀ k ∈ blk a, k ∉ [p] := fun k hka hm' => by rw [List.mem_singleton] at hm'; subst hm'; exact hap (hD _ hka)
    have hs1 : Sees w1 a bs := hs.kept hk ho
    obtain ⟨r1, r2⟩ := hr.setLeft a c bs.length rfl hl hmx hs1 hD
    obtain ⟨a1, c1, hc1, _⟩ := hr.left
    have f1 := hr.free0
    clear f0 hc hs ho hs1 hD h
    go_wp2_with fail
    refine (rFail p D bs e' 12 _ r1).mono ?_
    rintro e w2 ⟨rfl, q1, q2⟩
    go_wp2_with fail
    go_ret
    exact ⟨_, _, _, HT.out, rfl, by omega, by omega, q1, (hk.trans r2 (by simp)).trans q2 (by simp)⟩
set_option maxHeartbeats 400000 in
theorem rText (p : Nat) (D : List Nat) (bs : List UInt8) (e0 most : Int) (w : World) (h : Rd w p D bs e0) (h0 : -9223372036854775808 ≤ most) (h1 : most ≤ 9223372036854775807) (hb : bs.length ≤ 200000000000000) :
    Calls Tryz.prog 66 #[.pointer (some ⟨p, 0, none⟩), .int .i64 most] w fun e w' => ∃ out bs' e' v, textS most bs e0 = (out, bs', e') ∧ e = .returned v ∧ Row w' v out ∧ (∀ k ∈ own v, w.heap.size ≤ k) ∧ Rd w' p D bs' e' ∧ Kp [p] w w' := by
  obtain ⟨a, c, hc, hl, hmx, hs, hD⟩ := h.left
  have hap := h.apart
  have ho : ∀ k ∈ blk a, k ∉ [p] := fun k hka hm' => by rw [List.mem_singleton] at hm'; subst hm'; exact hap (hD _ hka)
  go_enter Tryz.func66, Tryz.ntmps66
  go_wp2_with fail
  refine (rCount p D bs e0 most _ h h0 h1).mono ?_
  rintro e w1 ⟨n, bs1, e1, ht, rfl, hn0, hn1, hr1, hk1⟩
  have hb1 : bs1.length ≤ bs.length := by
    unfold countS varS at ht
    split at ht
    · split at ht
      · cases ht; simp
      · split at ht
        · cases ht; simp
        · split at ht
          · cases ht; simp
          · cases ht; simp
    · cases ht; simp
  have HT := hid ht
  clear ht
  go_wp2_with fail
  refine (rRaw p D bs1 e1 n _ hr1 (by omega)).mono ?_
  rintro e w2 ⟨out, bs2, e2, v, ht2, rfl, hv, hown, hr2, hk2⟩
  have HX : Hid (textS most bs e0 = if e2 ≠ 0 then (out, bs, e2) else (out, bs2, e2)) := by show _ = _; simp only [textS]; rw [HT.out, ht2]
  clear ht2 HT
  have he2 := hr2.err
  have f2 := hr2.free0
  obtain ⟨a2, c2, hc2, _⟩ := hr2.left
  have kk := hk1.trans hk2 (by simp)
  have hs2 : Sees w2 a bs := hs.kept kk ho
  obtain ⟨r1, r2⟩ := hr2.setLeft a c bs.length rfl hl hmx hs2 hD
  have hrow := hv.kept r2 (fun k hk' hm' => by rw [List.mem_singleton] at hm'; subst hm'; have := hown _ hk'; have := hr1.lt; omega)
  clear hc hs hD ho hs2 h
  by_cases hz : e2 = 0
  · subst hz
    go_wp2_with fail
    go_ret
    exact ⟨_, _, _, _, HX.out.trans (if_neg (fun h => h rfl)), rfl, hv, fun k hk' => Nat.le_trans hk1.size (hown k hk'), hr2, kk⟩
  · have hz' : (e2 != 0) = true := by simpa using hz
    go_wp2_with fail
    go_ret
    exact ⟨_, _, _, _, HX.out.trans (if_pos hz), rfl, hrow, fun k hk' => Nat.le_trans hk1.size (hown k hk'), r1, kk.trans r2 (by simp)⟩
end Go.Proofs.YtafcdckpicoppaaGreatDoor
end

section
namespace Go.Hay
set_option linter.unusedVariables false

/-- One step of the register. -/
def bit1 (r : Nat) : Nat := if r % 2 = 1 then r / 2 ^^^ 3988292384 else r / 2
def bitN : Nat → Nat → Nat
  | 0, r => r
  | k + 1, r => bit1 (bitN k r)
def crcTab : List Nat := [0, 498536548, 997073096, 651767980, 1994146192, 1802195444, 1303535960, 1342533948, 3988292384, 4027552580, 3604390888, 3412177804, 2607071920, 2262029012, 2685067896, 3183342108]
def nib (r : Nat) : Nat := r / 16 ^^^ crcTab.getD (r % 16) 0
/-- The register behind a byte. -/
def crcStep (r : Nat) (x : UInt8) : Nat := bitN 8 (r ^^^ x.toNat)
def crcR (r : Nat) (bs : List UInt8) : Nat := bs.foldl crcStep r
/-- The checksum. -/
def crc (bs : List UInt8) : Nat := crcR 4294967295 bs ^^^ 4294967295

theorem xor_mod2 (a b : Nat) : (a ^^^ b) % 2 = (a % 2) ^^^ (b % 2) := by simpa using Nat.xor_mod_two_pow (a := a) (b := b) (n := 1)
theorem xor_left (a b c : Nat) (h : a ^^^ b = a ^^^ c) : b = c := by
  have := congrArg (a ^^^ ·) h
  simp only [← Nat.xor_assoc, Nat.xor_self, Nat.zero_xor] at this
  exact this
theorem xor_ne (a b : Nat) (h : b ≠ 0) : a ^^^ b ≠ a := fun e => h (xor_left a b 0 (by rw [e, Nat.xor_zero]))

theorem bit1_eq (r : Nat) : bit1 r = r / 2 ^^^ (if r % 2 = 1 then 3988292384 else 0) := by unfold bit1; split <;> simp
theorem bit1_xor (a b : Nat) : bit1 (a ^^^ b) = bit1 a ^^^ bit1 b := by
  rw [bit1_eq, bit1_eq, bit1_eq, Nat.xor_div_two, xor_mod2]
  have key : ∀ A B C D E : Nat, E = C ^^^ D → (A ^^^ B) ^^^ E = (A ^^^ C) ^^^ (B ^^^ D) := by
    intro A B C D E h
    rw [h, Nat.xor_assoc, Nat.xor_assoc, ← Nat.xor_assoc B, ← Nat.xor_assoc C, Nat.xor_comm B C]
  apply key
  rcases Nat.mod_two_eq_zero_or_one a with h1 | h1 <;> rcases Nat.mod_two_eq_zero_or_one b with h2 | h2 <;> simp [h1, h2]
theorem bit1_lt (r : Nat) (h : r < 4294967296) : bit1 r < 4294967296 := by
  unfold bit1
  split
  · exact Nat.xor_lt_two_pow (n := 32) (by omega) (by omega)
  · omega
theorem bit1_two (a : Nat) : bit1 (2 * a) = a := by unfold bit1; rw [if_neg (by omega)]; omega
theorem bit1_ne (r : Nat) (h : r < 4294967296) (h0 : r ≠ 0) : bit1 r ≠ 0 := by
  unfold bit1
  split
  · intro e
    have := xor_left (r / 2) 3988292384 (r / 2) (by rw [e, Nat.xor_self])
    omega
  · omega
theorem bitN_xor (k a b : Nat) : bitN k (a ^^^ b) = bitN k a ^^^ bitN k b := by
  induction k with
  | zero => rfl
  | succ k ih => simp only [bitN]; rw [ih, bit1_xor]
theorem bitN_lt (k r : Nat) (h : r < 4294967296) : bitN k r < 4294967296 := by
  induction k with
  | zero => exact h
  | succ k ih => exact bit1_lt _ ih
theorem bitN_ne (k r : Nat) (h : r < 4294967296) (h0 : r ≠ 0) : bitN k r ≠ 0 := by
  induction k with
  | zero => exact h0
  | succ k ih => exact bit1_ne _ (bitN_lt k r h) ih
theorem bitN_add (j k r : Nat) : bitN (j + k) r = bitN j (bitN k r) := by
  induction j with
  | zero => rw [Nat.zero_add]; rfl
  | succ j ih => rw [Nat.succ_add]; simp only [bitN]; rw [ih]
theorem split16 (r : Nat) : r = (16 * (r / 16)) ^^^ (r % 16) := by
  have h1 := Nat.xor_div_two_pow (a := 16 * (r / 16)) (b := r % 16) (n := 4)
  have h2 := Nat.xor_mod_two_pow (a := 16 * (r / 16)) (b := r % 16) (n := 4)
  simp only [show (2 : Nat) ^ 4 = 16 from rfl] at h1 h2
  rw [show 16 * (r / 16) / 16 = r / 16 by omega, show r % 16 / 16 = 0 by omega, Nat.xor_zero] at h1
  rw [show 16 * (r / 16) % 16 = 0 by omega, show r % 16 % 16 = r % 16 by omega, Nat.zero_xor] at h2
  omega
theorem tab_bitN : ∀ d, d < 16 → bitN 4 d = crcTab.getD d 0 := by decide +kernel
theorem nib_eq (r : Nat) : nib r = bitN 4 r := by
  conv => rhs; rw [split16 r]
  rw [bitN_xor, tab_bitN (r % 16) (by omega)]
  show r / 16 ^^^ _ = bit1 (bit1 (bit1 (bit1 (16 * (r / 16))))) ^^^ _
  rw [show 16 * (r / 16) = 2 * (2 * (2 * (2 * (r / 16)))) by omega, bit1_two, bit1_two, bit1_two, bit1_two]
theorem step_nib (r : Nat) (x : UInt8) : nib (nib (r ^^^ x.toNat)) = crcStep r x := by
  rw [nib_eq, nib_eq]
  exact (bitN_add 4 4 _).symm
theorem xor_lt32 (a b : Nat) (ha : a < 4294967296) (hb : b < 4294967296) : a ^^^ b < 4294967296 := Nat.xor_lt_two_pow (n := 32) (by omega) (by omega)
theorem crcStep_lt (r : Nat) (x : UInt8) (h : r < 4294967296) : crcStep r x < 4294967296 := bitN_lt 8 _ (xor_lt32 _ _ h (by have := x.toNat_lt; omega))
theorem crcR_lt (bs : List UInt8) (r : Nat) (h : r < 4294967296) : crcR r bs < 4294967296 := by
  induction bs generalizing r with
  | nil => exact h
  | cons x l ih => exact ih _ (crcStep_lt r x h)
theorem crc_lt (bs : List UInt8) : crc bs < 4294967296 := xor_lt32 _ _ (crcR_lt bs _ (by omega)) (by omega)
theorem crcR_snoc (bs : List UInt8) (x : UInt8) (r : Nat) : crcR r (bs ++ [x]) = crcStep (crcR r bs) x := by simp [crcR]
theorem crcR_append (a b : List UInt8) (r : Nat) : crcR r (a ++ b) = crcR (crcR r a) b := by simp [crcR]

/-- What a difference of the register becomes. -/
theorem crcR_diff (bs : List UInt8) (r d : Nat) (hd : d < 4294967296) (h0 : d ≠ 0) : ∃ d', d' ≠ 0 ∧ d' < 4294967296 ∧ crcR (r ^^^ d) bs = crcR r bs ^^^ d' := by
  induction bs generalizing r d with
  | nil => exact ⟨d, h0, hd, rfl⟩
  | cons x l ih =>
    have e : crcStep (r ^^^ d) x = crcStep r x ^^^ bitN 8 d := by
      unfold crcStep
      rw [Nat.xor_assoc, Nat.xor_comm d, ← Nat.xor_assoc, bitN_xor]
    obtain ⟨d', h1, h2, h3⟩ := ih (crcStep r x) (bitN 8 d) (bitN_lt 8 d hd) (bitN_ne 8 d hd h0)
    exact ⟨d', h1, h2, by show crcR (crcStep (r ^^^ d) x) l = _; rw [e, h3]; rfl⟩
/-- A byte that differs is found. -/
theorem crc_byte (a b : List UInt8) (x y : UInt8) (h : x ≠ y) : crc (a ++ x :: b) ≠ crc (a ++ y :: b) := by
  unfold crc
  rw [crcR_append, crcR_append]
  generalize crcR 4294967295 a = r
  have hx := x.toNat_lt
  have hy := y.toNat_lt
  have hne : x.toNat ^^^ y.toNat ≠ 0 := fun e => by
    have := xor_left x.toNat y.toNat x.toNat (by rw [e, Nat.xor_self])
    exact h (UInt8.toNat_inj.1 this.symm)
  have hlt : x.toNat ^^^ y.toNat < 4294967296 := xor_lt32 _ _ (by omega) (by omega)
  have e : crcStep r y = crcStep r x ^^^ bitN 8 (x.toNat ^^^ y.toNat) := by
    unfold crcStep
    rw [← bitN_xor]
    congr 1
    rw [Nat.xor_assoc, ← Nat.xor_assoc x.toNat x.toNat, Nat.xor_self, Nat.zero_xor]
  obtain ⟨d', h1, h2, h3⟩ := crcR_diff b (crcStep r x) _ (bitN_lt 8 _ hlt) (bitN_ne 8 _ hlt hne)
  show crcR (crcStep r x) b ^^^ 4294967295 ≠ crcR (crcStep r y) b ^^^ 4294967295
  rw [e, h3]
  intro e2
  rw [Nat.xor_comm _ 4294967295, Nat.xor_comm _ 4294967295] at e2
  exact xor_ne _ d' h1 (xor_left _ _ _ e2).symm
end Go.Hay
end

section
namespace Go.Proofs.YtafcdckpicoppaaGreatDoor
open Go.RowKit Go.Hay
set_option linter.unusedVariables false

/-- The table of half bytes lies in block 0. -/
def Tab (w : World) : Prop := 1 < w.heap.size ∧ ∀ d, d < 16 → w.cell? ⟨1, d, none⟩ = some (.int .u32 (crcTab.getD d 0))
theorem Tab.kept {w w' : World} {S : List Nat} (h : Tab w) (hk : Kp S w w') (h0 : 1 ∉ S) : Tab w' :=
  ⟨Nat.lt_of_lt_of_le h.1 hk.size, fun d hd => (hk.cell (p := ⟨1, d, none⟩) h.1 h0).trans (h.2 d hd)⟩
theorem crcTab_lt (d : Nat) : crcTab.getD d 0 < 4294967296 := by
  by_cases h : d < 16
  · have : ∀ d, d < 16 → crcTab.getD d 0 < 4294967296 := by decide +kernel
    exact this d h
  · have h2 : crcTab[d]? = none := List.getElem?_eq_none (by have : crcTab.length = 16 := rfl; omega)
    simp [List.getD, h2]

theorem xorEnd (xs : List UInt8) : bits BinOp.xor IntKind.u32 ((crcR 4294967295 xs : Nat) : Int) 4294967295 = ((crc xs : Nat) : Int) :=
  u32_xor_nat (crcR 4294967295 xs) 4294967295 (crcR_lt xs _ (by omega)) (by omega)
theorem notEnd (xs : List UInt8) : bits BinOp.xor IntKind.u32 IntKind.u32.max ((crcR 4294967295 xs : Nat) : Int) = ((crc xs : Nat) : Int) := by
  have h := u32_xor_nat 4294967295 (crcR 4294967295 xs) (by omega) (crcR_lt xs _ (by omega))
  rw [Nat.xor_comm] at h
  exact h
theorem crcR_take (xs : List UInt8) (k : Nat) (h : k < xs.length) : crcR 4294967295 (xs.take (k + 1)) = crcStep (crcR 4294967295 (xs.take k)) xs[k] := by
  rw [List.take_succ_eq_append_getElem h, crcR_snoc]

set_option maxHeartbeats 1000000 in
set_option maxRecDepth 100000 in
theorem cSum (a : Option Addr) (n c : Nat) (xs : List UInt8) (w : World) (ht : Tab w) (hs : Sees w a xs) (hn : n = xs.length) (hb : xs.length ≤ 200000000000000) :
    Calls Tryz.prog 16 #[.slice a n c] w fun e w' => e = .returned (.int .u32 (crc xs)) ∧ w' = w := by
  subst hn
  go_enter Tryz.func16, Tryz.ntmps16
  go_wp2_with fail
  go_loop [3, 5, 8] (fun s _ i => ∃ k : Nat, k ≤ xs.length ∧ i = .int .i64 k ∧ s = .int .u32 (crcR 4294967295 (xs.take k))) (fun _ _ i => xs.length - (intOf i).toNat)
  case atStart => exact ⟨0, Nat.zero_le _, rfl, rfl⟩
  case round =>
    obtain ⟨k, hk, rfl, rfl⟩ := hrel
    have hr := crcR_lt (xs.take k) 4294967295 (by omega)
    by_cases hlt : k < xs.length
    · rcases hs with rfl | ⟨g, o, rfl, hc⟩
      · simp at hlt
      have hck := hc k xs[k] (by simp)
      have H := hid (crcR_take xs k hlt)
      have hx : xs[k].toNat < 256 := xs[k].toNat_lt
      clear hc
      generalize crcR 4294967295 (xs.take k) = r at *
      have H1 : Hid (nib (nib (r ^^^ xs[k].toNat)) = crcR 4294967295 (xs.take (k + 1))) := (step_nib r xs[k]).trans H.out.symm
      clear H
      generalize xs[k] = x at *
      have e1 : bits BinOp.xor IntKind.u32 (r : Int) (x.toNat : Int) = ((r ^^^ x.toNat : Nat) : Int) := u32_xor_nat _ _ hr (by omega)
      have b1 := xor_lt32 r x.toNat hr (by omega)
      generalize r ^^^ x.toNat = r1 at *
      have half : ∀ m : Nat, m < 4294967296 → ∃ d t q : Nat, bits BinOp.and IntKind.u32 (m : Int) 15 = (d : Int) ∧ d < 16 ∧ w.cell? ⟨1, d, none⟩ = some (.int .u32 t) ∧ bits BinOp.xor IntKind.u32 ((m : Int) / 16) (t : Int) = (q : Int) ∧ q < 4294967296 ∧ Hid (q = nib m) := by
        intro m hm
        have ht16 := crcTab_lt (m % 16)
        refine ⟨m % 16, crcTab.getD (m % 16) 0, nib m, ?_, by omega, ht.2 _ (by omega), ?_, ?_, rfl⟩
        · have h1 := u32_and_nat m 15 hm (by omega)
          rw [show m &&& 15 = m % 16 from Nat.and_two_pow_sub_one_eq_mod m 4] at h1
          exact h1
        · have h1 := u32_xor_nat (m / 16) (crcTab.getD (m % 16) 0) (by omega) ht16
          rw [Int.natCast_ediv] at h1
          exact h1
        · exact xor_lt32 _ _ (by omega) ht16
      obtain ⟨d1, t1, r2, f1, f2, f3, f4, f5, f6⟩ := half r1 b1
      obtain ⟨d2, t2, r3, g1, g2, g3, g4, g5, g6⟩ := half r2 f5
      have H2 : Hid (r3 = crcR 4294967295 (xs.take (k + 1))) := by show _ = _; rw [g6.out, f6.out]; exact H1.out
      clear half H1 f6 g6 ht
      go_wp2
      exact ⟨⟨k + 1, by omega, by go_num, by rw [H2.out]⟩, by simp [intOf]; omega⟩
    · have H : Hid (xs.take k = xs) := List.take_of_length_le (by omega)
      go_wp2
      go_ret
      exact ⟨ret_int (by rw [H.out]; exact notEnd xs), rfl⟩
end Go.Proofs.YtafcdckpicoppaaGreatDoor
end

section
namespace Go.Proofs.YtafcdckpicoppaaGreatDoor
open Go.RowKit Go.Hay
set_option linter.unusedVariables false
set_option linter.unusedSimpArgs false

theorem minTo_mem (l : List Val) (h0 : 0 < l.length) : ∀ j, j < l.length → minTo l j ∈ l
  | 0, h => by simp [minTo, h0]
  | j + 1, h => by
    unfold minTo
    split
    · simp [h]
    · exact minTo_mem l h0 j (by omega)
theorem maxTo_mem (l : List Val) (h0 : 0 < l.length) : ∀ j, j < l.length → maxTo l j ∈ l
  | 0, h => by simp [maxTo, h0]
  | j + 1, h => by
    unfold maxTo
    split
    · simp [h]
    · exact maxTo_mem l h0 j (by omega)
theorem minV_mem {l : List Val} (h0 : 0 < l.length) : minV l ∈ l := minTo_mem l h0 _ (by omega)
theorem maxV_mem {l : List Val} (h0 : 0 < l.length) : maxV l ∈ l := maxTo_mem l h0 _ (by omega)
theorem minV_right {l : List Val} (h0 : 0 < l.length) (h : allR l = true) : (minV l).right = true := List.all_eq_true.1 h _ (minV_mem h0)
theorem maxV_right {l : List Val} (h0 : 0 < l.length) (h : allR l = true) : (maxV l).right = true := List.all_eq_true.1 h _ (maxV_mem h0)

/-- A block's head, ahead of an encoding of n bytes. -/
def hdB (k : Int) (l : List Val) (n : Nat) : List UInt8 := [octet k, octet l.length, octet (nullsV l)] ++ rowB (minV l) ++ rowB (maxV l) ++ [octet ((n / 256 : Nat) : Int), octet ((n % 256 : Nat) : Int)]
def preB (k : Int) (l : List Val) : List UInt8 := hdB k l (encR k l).length ++ encR k l
def blkB (k : Int) (l : List Val) : List UInt8 := preB k l ++ be (crc (preB k l)) 4
def kindW (k : Int) (l : List Val) : Int := if k = -1 then bestV l else k
def wrB (k : Int) (l : List Val) : List UInt8 × Int := if l.length = 0 then ([], 70) else if refE (kindW k l) l = 0 then (blkB (kindW k l) l, 0) else ([], refE (kindW k l) l)

def zeroI : Inf := ⟨0, 0, nilV, nilV, 0, 0⟩
/-- How many bytes a block has whose encoding begins behind p bytes. -/
def endR (bs : List UInt8) (p : Nat) : Nat := p + 2 + num ((bs.drop p).take 2) + 4
/-- What bytes begin with, read as a head; and where the encoding begins. -/
def hdR (bs : List UInt8) : Option (Inf × Nat) :=
  if bs.length < 3 ∨ 4 < (bs.getD 0 0).toNat ∨ (bs.getD 1 0).toNat = 0 ∨ 64 < (bs.getD 1 0).toNat ∨ (bs.getD 1 0).toNat < (bs.getD 2 0).toNat then none
  else if (rowF (bs.drop 3)).2 = 0 then none
  else if (rowF (bs.drop (3 + (rowF (bs.drop 3)).2))).2 = 0 ∨ bs.length < 3 + (rowF (bs.drop 3)).2 + (rowF (bs.drop (3 + (rowF (bs.drop 3)).2))).2 + 2 then none
  else if bs.length < endR bs (3 + (rowF (bs.drop 3)).2 + (rowF (bs.drop (3 + (rowF (bs.drop 3)).2))).2) then none
  else some (⟨(bs.getD 0 0).toNat, (bs.getD 1 0).toNat, (rowF (bs.drop 3)).1, (rowF (bs.drop (3 + (rowF (bs.drop 3)).2))).1, (bs.getD 2 0).toNat, endR bs (3 + (rowF (bs.drop 3)).2 + (rowF (bs.drop (3 + (rowF (bs.drop 3)).2))).2)⟩,
    3 + (rowF (bs.drop 3)).2 + (rowF (bs.drop (3 + (rowF (bs.drop 3)).2))).2 + 2)
def hdP (bs : List UInt8) : Inf × Nat × Int := match hdR bs with | none => (zeroI, 0, 70) | some (i, s) => (i, s, 0)
/-- Does a head say of values what they are? -/
def tellB (i : Inf) (l : List Val) : Bool := i.many == (l.length : Int) && i.mn.eqv (minV l) && i.mx.eqv (maxV l) && i.nulls == (nullsV l : Int)
def rdR (bs : List UInt8) : List Val × Nat × Int := match hdR bs with
  | none => ([], 0, 70)
  | some (i, s) =>
    if num ((bs.drop (i.bytes.toNat - 4)).take 4) ≠ crc (bs.take (i.bytes.toNat - 4)) then ([], 0, 71)
    else if (decA i.kind ((bs.take (i.bytes.toNat - 4)).drop s) i.many.toNat).2 = 0 ∧ tellB i (decA i.kind ((bs.take (i.bytes.toNat - 4)).drop s) i.many.toNat).1 = true
      then ((decA i.kind ((bs.take (i.bytes.toNat - 4)).drop s) i.many.toNat).1, i.bytes.toNat, 0) else ([], 0, 70)

/-- The parts of bytes that a head is read of. -/
theorem hdR_some {bs : List UInt8} {i : Inf} {s : Nat} (h : hdR bs = some (i, s)) :
    ∃ k m n : UInt8, ∃ v1 v2 : Val, ∃ x y : UInt8, ∃ rest : List UInt8, bs = k :: m :: n :: (rowB v1 ++ rowB v2 ++ x :: y :: rest) ∧ v1.right = true ∧ v2.right = true ∧ v1.in64 ∧ v2.in64 ∧ k.toNat ≤ 4 ∧ 1 ≤ m.toNat ∧ m.toNat ≤ 64 ∧ n.toNat ≤ m.toNat ∧
      i = ⟨k.toNat, m.toNat, v1, v2, n.toNat, (s + (x.toNat * 256 + y.toNat) + 4 : Nat)⟩ ∧ s = 5 + (rowB v1).length + (rowB v2).length ∧ s + (x.toNat * 256 + y.toNat) + 4 ≤ bs.length := by
  unfold hdR at h
  split at h
  · cases h
  · rename_i h1
    split at h
    · cases h
    · rename_i h2
      split at h
      · cases h
      · rename_i h3
        split at h
        · cases h
        · rename_i h4
          injection h with h
          injection h with hi hs
          match bs, h1 with
          | k :: m :: n :: r, h1 =>
            simp only [List.length_cons, List.getD_cons_zero, List.getD_cons_succ, not_or, Nat.not_lt] at h1
            simp only [List.drop_succ_cons, List.drop_zero, List.getD_cons_zero, List.getD_cons_succ, List.length_cons] at h2 h3 h4 hi hs ⊢
            obtain ⟨_, hk, hm, hm2, hn⟩ := h1
            obtain ⟨r1, b1⟩ := rowF_back r h2
            have i1 := rowF_in64 r
            have l1 := rowF_le r
            obtain ⟨⟨v1, n1⟩, hv1⟩ : ∃ q, rowF r = q := ⟨_, rfl⟩
            rw [hv1] at h2 h3 h4 hi hs r1 b1 i1 l1
            dsimp only at h2 h3 h4 hi hs r1 b1 i1 l1
            have ed : (k :: m :: n :: r).drop (3 + n1) = r.drop n1 := by rw [show 3 + n1 = n1 + 3 by omega]; rfl
            rw [ed] at h3 h4 hi hs
            rw [not_or] at h3
            obtain ⟨h3, h3l⟩ := h3
            obtain ⟨r2, b2⟩ := rowF_back (r.drop n1) h3
            have i2 := rowF_in64 (r.drop n1)
            have l2 := rowF_le (r.drop n1)
            obtain ⟨⟨v2, n2⟩, hv2⟩ : ∃ q, rowF (r.drop n1) = q := ⟨_, rfl⟩
            rw [hv2] at h3 h3l h4 hi hs r2 b2 i2 l2
            dsimp only at h3 h3l h4 hi hs r2 b2 i2 l2
            have er : r = rowB v1 ++ (rowB v2 ++ r.drop (n1 + n2)) := by
              rw [b1, b2, ← List.drop_drop, List.take_append_drop, List.take_append_drop]
            have e1 : (rowB v1).length = n1 := by rw [b1, List.length_take]; omega
            have e2 : (rowB v2).length = n2 := by rw [b2, List.length_take]; omega
            have l3 : 2 ≤ (r.drop (n1 + n2)).length := by rw [List.length_drop]; omega
            have ed2 : (k :: m :: n :: r).drop (3 + n1 + n2) = r.drop (n1 + n2) := by rw [show 3 + n1 + n2 = (n1 + n2) + 3 by omega]; rfl
            unfold endR at hi h4
            rw [ed2] at hi h4
            match hq : r.drop (n1 + n2), l3 with
            | x :: y :: q, _ =>
              rw [hq] at hi h4 er
              have en : num ([x, y] : List UInt8) = x.toNat * 256 + y.toNat := by simp [num]
              simp only [List.take_succ_cons, List.take_zero, en] at hi h4
              refine ⟨k, m, n, v1, v2, x, y, q, by rw [List.append_assoc, ← er], r1, r2, i1, i2, by omega, by omega, by omega, by omega, ?_, by omega, by omega⟩
              rw [← hi, ← hs]
/-- .. and the other way round. -/
theorem hdR_put (k m n : UInt8) (v1 v2 : Val) (x y : UInt8) (rest : List UInt8) (r1 : v1.right = true) (r2 : v2.right = true) (i1 : v1.in64) (i2 : v2.in64) (hk : k.toNat ≤ 4) (hm : 1 ≤ m.toNat) (hm2 : m.toNat ≤ 64) (hn : n.toNat ≤ m.toNat)
    (hl : x.toNat * 256 + y.toNat + 4 ≤ rest.length) :
    hdR (k :: m :: n :: (rowB v1 ++ rowB v2 ++ x :: y :: rest)) = some (⟨k.toNat, m.toNat, v1, v2, n.toNat, (5 + (rowB v1).length + (rowB v2).length + (x.toNat * 256 + y.toNat) + 4 : Nat)⟩, 5 + (rowB v1).length + (rowB v2).length) := by
  have f1 : rowF (rowB v1 ++ rowB v2 ++ x :: y :: rest) = (v1, (rowB v1).length) := by rw [List.append_assoc]; exact rowF_put v1 r1 i1 _
  have p1 := rowB_pos r1
  have p2 := rowB_pos r2
  have ed : ∀ s : List UInt8, (k :: m :: n :: s).drop (3 + (rowB v1).length) = s.drop (rowB v1).length := fun s => by rw [show 3 + (rowB v1).length = (rowB v1).length + 3 by omega]; rfl
  have f2 : rowF ((rowB v1 ++ rowB v2 ++ x :: y :: rest).drop (rowB v1).length) = (v2, (rowB v2).length) := by
    rw [List.append_assoc, List.drop_left]
    exact rowF_put v2 r2 i2 _
  have ed2 : (k :: m :: n :: (rowB v1 ++ rowB v2 ++ x :: y :: rest)).drop (3 + (rowB v1).length + (rowB v2).length) = x :: y :: rest := by
    rw [show 3 + (rowB v1).length + (rowB v2).length = ((rowB v1).length + (rowB v2).length) + 3 by omega]
    show (rowB v1 ++ rowB v2 ++ x :: y :: rest).drop ((rowB v1).length + (rowB v2).length) = _
    rw [← List.length_append, List.drop_left]
  have en : num ([x, y] : List UInt8) = x.toNat * 256 + y.toNat := by simp [num]
  have el : (k :: m :: n :: (rowB v1 ++ rowB v2 ++ x :: y :: rest)).length = 5 + (rowB v1).length + (rowB v2).length + rest.length := by simp; omega
  unfold hdR
  rw [if_neg (by simp only [List.length_cons, List.getD_cons_zero, List.getD_cons_succ]; omega)]
  simp only [List.drop_succ_cons, List.drop_zero, List.getD_cons_zero, List.getD_cons_succ, f1, ed, f2]
  unfold endR
  rw [ed2, el, if_neg (by omega), if_neg (by omega)]
  simp only [List.take_succ_cons, List.take_zero, en]
  rw [if_neg (by omega)]
  congr 2
  · congr 1
    omega
  · omega
/-- What stands behind does not bear on a head. -/
theorem hdR_mono {bs : List UInt8} {i : Inf} {s : Nat} (h : hdR bs = some (i, s)) (q : List UInt8) : hdR (bs ++ q) = some (i, s) := by
  obtain ⟨k, m, n, v1, v2, x, y, rest, rfl, r1, r2, i1, i2, hk, hm, hm2, hn, hi, hs, hl⟩ := hdR_some h
  have hr : x.toNat * 256 + y.toNat + 4 ≤ (rest ++ q).length := by simp at hl ⊢; omega
  have := hdR_put k m n v1 v2 x y (rest ++ q) r1 r2 i1 i2 hk hm hm2 hn hr
  simp only [List.cons_append, List.append_assoc] at this ⊢
  rw [this, hi, hs]
theorem octet_small (n : Nat) (h : n < 256) : (octet (n : Int)).toNat = n := by
  have := octet_toNat (n : Int) (by omega) (by omega)
  omega
theorem hdB_len (k : Int) (l : List Val) (n : Nat) : (hdB k l n).length = 5 + (rowB (minV l)).length + (rowB (maxV l)).length := by unfold hdB; simp; omega
theorem preB_len (k : Int) (l : List Val) : (preB k l).length = 5 + (rowB (minV l)).length + (rowB (maxV l)).length + (encR k l).length := by unfold preB; simp [hdB_len]
theorem blkB_len (k : Int) (l : List Val) : (blkB k l).length = 5 + (rowB (minV l)).length + (rowB (maxV l)).length + (encR k l).length + 4 := by unfold blkB; simp [preB_len, be_length]
theorem known_bd {k : Int} (h : knownB k = true) : 0 ≤ k ∧ k ≤ 4 := by unfold knownB at h; simpa using h
theorem blkB_cons (k : Int) (l : List Val) (q : List UInt8) : blkB k l ++ q = octet k :: octet l.length :: octet (nullsV l) :: (rowB (minV l) ++ rowB (maxV l) ++ octet (((encR k l).length / 256 : Nat) : Int) :: octet (((encR k l).length % 256 : Nat) : Int) :: (encR k l ++ be (crc (preB k l)) 4 ++ q)) := by
  unfold blkB
  generalize be (crc (preB k l)) 4 = c
  unfold preB hdB
  simp
/-- The head of what is written. -/
theorem hdR_blk (k : Int) (l : List Val) (h0 : 0 < l.length) (hi : ∀ x ∈ l, x.in64) (hr : refE k l = 0) (q : List UInt8) :
    hdR (blkB k l ++ q) = some (⟨k, l.length, minV l, maxV l, nullsV l, (blkB k l).length⟩, 5 + (rowB (minV l)).length + (rowB (maxV l)).length) := by
  obtain ⟨hk, h64, hall⟩ := refE_ok hr
  have hkb := known_bd hk
  have hel := encR_len k l
  have hnl := nulls_le l
  have ok : ((octet k).toNat : Int) = k := octet_toNat k hkb.1 (by omega)
  have om := octet_small l.length (by omega)
  have on := octet_small (nullsV l) (by omega)
  have ox := octet_small ((encR k l).length / 256) (by omega)
  have oy := octet_small ((encR k l).length % 256) (by omega)
  rw [blkB_cons, hdR_put (octet k) (octet l.length) (octet (nullsV l)) (minV l) (maxV l) _ _ _ (minV_right h0 hall) (maxV_right h0 hall) (hi _ (minV_mem h0)) (hi _ (maxV_mem h0)) (by omega) (by omega) (by omega) (by omega) (by rw [ox, oy]; simp [be_length]; omega)]
  rw [ok, om, on, ox, oy, blkB_len]
  congr 3
  omega
theorem tellB_iff {i : Inf} {l : List Val} : tellB i l = true ↔ i.many = (l.length : Int) ∧ i.mn = minV l ∧ i.mx = maxV l ∧ i.nulls = (nullsV l : Int) := by
  unfold tellB
  simp only [Bool.and_eq_true, beq_iff_eq, eqv_iff]
  constructor
  · rintro ⟨⟨⟨a, b⟩, c⟩, d⟩; exact ⟨a, b, c, d⟩
  · rintro ⟨a, b, c, d⟩; exact ⟨⟨⟨a, b⟩, c⟩, d⟩
theorem num_crc (xs : List UInt8) : num (be (crc xs) 4) = crc xs := by
  have := crc_lt xs
  rw [num_be]
  exact Nat.mod_eq_of_lt (by omega)
/-- What was written is read as it was, whatever stands behind. -/
theorem rdR_blk (k : Int) (l : List Val) (h0 : 0 < l.length) (hi : ∀ x ∈ l, x.in64) (hr : refE k l = 0) (q : List UInt8) : rdR (blkB k l ++ q) = (l, (blkB k l).length, 0) := by
  unfold rdR
  rw [hdR_blk k l h0 hi hr q]
  have hbl := blkB_len k l
  have hpl := preB_len k l
  have e1 : ((blkB k l).length : Int).toNat - 4 = (preB k l).length := by omega
  have e2 : (blkB k l ++ q).take (preB k l).length = preB k l := by unfold blkB; rw [List.append_assoc, List.take_left]
  have e3 : ((blkB k l ++ q).drop (preB k l).length).take 4 = be (crc (preB k l)) 4 := by
    unfold blkB
    rw [List.append_assoc, List.drop_left]
    have := List.take_left (l₁ := be (crc (preB k l)) 4) (l₂ := q)
    rwa [be_length] at this
  have e4 : (preB k l).drop (5 + (rowB (minV l)).length + (rowB (maxV l)).length) = encR k l := by
    unfold preB
    rw [← hdB_len k l (encR k l).length, List.drop_left]
  dsimp only
  rw [e1, e2, e3, e4, num_crc, if_neg (by simp), Int.toNat_natCast, decA_back k l hi hr, if_pos ⟨rfl, tellB_iff.2 ⟨rfl, rfl, rfl, rfl⟩⟩, Int.toNat_natCast]
/-- What is read is written as the same bytes. -/
theorem rdR_put {bs : List UInt8} {l : List Val} {n : Nat} (h : rdR bs = (l, n, 0)) : ∃ i s, hdR bs = some (i, s) ∧ refE i.kind l = 0 ∧ 0 < l.length ∧ blkB i.kind l = bs.take n ∧ n ≤ bs.length ∧ i.bytes = n ∧ 0 < n := by
  unfold rdR at h
  split at h
  · simp at h
  · rename_i i s hh
    split at h
    · simp at h
    · rename_i hc
      split at h
      · rename_i hd
        simp only [Prod.mk.injEq, and_true] at h
        obtain ⟨hl, hn⟩ := h
        obtain ⟨k, m, nn, v1, v2, x, y, rest, rfl, r1, r2, i1, i2, hk, hm, hm2, hnn, hi, hs, hle⟩ := hdR_some hh
        have hb : i.bytes.toNat = s + (x.toNat * 256 + y.toNat) + 4 := by rw [hi]; rfl
        rw [hb] at hc hd hl hn
        have e0 : s + (x.toNat * 256 + y.toNat) + 4 - 4 = s + (x.toNat * 256 + y.toNat) := by omega
        rw [e0] at hc hd hl
        obtain ⟨D, hD⟩ : ∃ D, D = ((k :: m :: nn :: (rowB v1 ++ rowB v2 ++ x :: y :: rest)).take (s + (x.toNat * 256 + y.toNat))).drop s := ⟨_, rfl⟩
        rw [← hD] at hd hl
        obtain ⟨hp1, hp2⟩ := decA_put _ _ _ hd.1
        rw [hl] at hp1 hp2 hd
        obtain ⟨t1, t2, t3, t4⟩ := tellB_iff.1 hd.2
        have ik : i.kind = (k.toNat : Int) := by rw [hi]
        have im : i.many = (m.toNat : Int) := by rw [hi]
        have inn : i.nulls = (nn.toNat : Int) := by rw [hi]
        have e1 : i.mn = v1 := by rw [hi]
        have e2 : i.mx = v2 := by rw [hi]
        have hlen : l.length = m.toNat := by omega
        have hnul : nullsV l = nn.toNat := by omega
        have hDl : D.length = x.toNat * 256 + y.toNat := by rw [hD, List.length_drop, List.length_take]; omega
        refine ⟨i, s, hh, hp1, by omega, ?_, by omega, by rw [hi, ← hn], by omega⟩
        have hx := x.toNat_lt
        have hy := y.toNat_lt
        have hpre : preB i.kind l = (k :: m :: nn :: (rowB v1 ++ rowB v2 ++ x :: y :: rest)).take (s + (x.toNat * 256 + y.toNat)) := by
          have hsp : (k :: m :: nn :: (rowB v1 ++ rowB v2 ++ x :: y :: rest)).take (s + (x.toNat * 256 + y.toNat)) = (k :: m :: nn :: (rowB v1 ++ rowB v2 ++ [x, y])) ++ D := by
            rw [← List.take_append_drop s ((k :: m :: nn :: (rowB v1 ++ rowB v2 ++ x :: y :: rest)).take (s + (x.toNat * 256 + y.toNat))), ← hD, List.take_take, Nat.min_eq_left (by omega)]
            congr 1
            have e : k :: m :: nn :: (rowB v1 ++ rowB v2 ++ x :: y :: rest) = (k :: m :: nn :: (rowB v1 ++ rowB v2 ++ [x, y])) ++ rest := by simp
            have el : (k :: m :: nn :: (rowB v1 ++ rowB v2 ++ [x, y])).length = s := by simp; omega
            rw [e, ← el, List.take_left]
          rw [hsp]
          unfold preB hdB
          rw [hp2, hDl, ← t2, ← t3, e1, e2, hlen, hnul, ik, show (x.toNat * 256 + y.toNat) / 256 = x.toNat by omega, show (x.toNat * 256 + y.toNat) % 256 = y.toNat by omega]
          have on : ∀ x : UInt8, octet ((x.toNat : Nat) : Int) = x := fun x => by simp [octet]
          simp only [on]
          simp
        unfold blkB
        rw [hpre]
        have hcc := Decidable.not_not.1 hc
        have h4 : (((k :: m :: nn :: (rowB v1 ++ rowB v2 ++ x :: y :: rest)).drop (s + (x.toNat * 256 + y.toNat))).take 4).length = 4 := by rw [List.length_take, List.length_drop]; omega
        have hbn := be_num (((k :: m :: nn :: (rowB v1 ++ rowB v2 ++ x :: y :: rest)).drop (s + (x.toNat * 256 + y.toNat))).take 4)
        rw [h4, hcc] at hbn
        rw [hbn, ← hn, ← List.take_add]
      · simp at h
theorem rdR_bad {bs : List UInt8} (h : (rdR bs).2.2 ≠ 0) : (rdR bs).1 = [] ∧ (rdR bs).2.1 = 0 := by
  unfold rdR at h ⊢
  split
  · exact ⟨rfl, rfl⟩
  · rename_i i s hh
    rw [hh] at h
    dsimp only at h
    split
    · exact ⟨rfl, rfl⟩
    · rename_i h1
      rw [if_neg h1] at h
      split
      · rename_i h2
        rw [if_pos h2] at h
        exact absurd rfl h
      · exact ⟨rfl, rfl⟩
/-- A block that is cut is none. -/
theorem hdR_cut (k : Int) (l : List Val) (h0 : 0 < l.length) (hi : ∀ x ∈ l, x.in64) (hr : refE k l = 0) (cut : Nat) (hc : cut < (blkB k l).length) : hdR ((blkB k l).take cut) = none := by
  cases h : hdR ((blkB k l).take cut) with
  | none => rfl
  | some r =>
    obtain ⟨i, s⟩ := r
    have h1 := hdR_mono h ((blkB k l).drop cut)
    rw [List.take_append_drop] at h1
    have h2 := hdR_blk k l h0 hi hr []
    rw [List.append_nil] at h2
    rw [h2] at h1
    injection h1 with h1
    injection h1 with h1 h3
    obtain ⟨_, _, _, _, _, x, y, _, hb, _, _, _, _, _, _, _, _, hi, _, hl⟩ := hdR_some h
    rw [← h1] at hi
    have := congrArg Inf.bytes hi
    dsimp only at this
    rw [List.length_take] at hl
    omega
theorem rdR_none {bs : List UInt8} (h : hdR bs = none) : rdR bs = ([], 0, 70) := by unfold rdR; rw [h]
end Go.Proofs.YtafcdckpicoppaaGreatDoor
end

section
namespace Go.Proofs.YtafcdckpicoppaaGreatDoor
open Go.RowKit Go.Hay
set_option linter.unusedVariables false

set_option maxHeartbeats 400000 in
theorem wWord (p : Nat) (v : Value) (bs : List UInt8) (n : Int) (w : World) (h : Wr w p v bs) (hb : bs.length + 8 ≤ 200000000000000) (h0 : 0 ≤ n) (h1 : n < 4294967296) :
    Calls Tryz.prog 15 #[.pointer (some ⟨p, 0, none⟩), .int .u32 n] w fun e w' => e = .returned (.tuple #[]) ∧ ∃ v', Wr w' p v' (bs ++ be n.toNat 4) ∧ Wrote p v w v' w' := by
  go_enter Tryz.func15, Tryz.ntmps15
  go_wp2_with fail
  refine (wNumber p v bs n 4 _ h (by omega) h0 (by omega) (by omega)).mono ?_
  rintro e w2 ⟨rfl, v2, hw2, hwr2⟩
  go_wp2_with fail
  go_end0
  exact ⟨rfl, v2, hw2, hwr2⟩
end Go.Proofs.YtafcdckpicoppaaGreatDoor
end

section
namespace Go.Proofs.YtafcdckpicoppaaGreatDoor
open Go.RowKit Go.Hay
set_option linter.unusedVariables false
set_option linter.unusedSimpArgs false

/-- Bytes of the call's own, or an error. -/
def BsP (r : List UInt8 × Int) (w : World) (e : Ending) (w' : World) : Prop := ∃ b c, e = .returned (.tuple #[.slice b r.1.length c, .int .i64 r.2]) ∧ Row w' (.slice b r.1.length c) r.1 ∧ Kp [] w w' ∧ ∀ k ∈ blk b, w.heap.size ≤ k
set_option maxHeartbeats 16000000 in
set_option maxRecDepth 100000 in
theorem cWriteK (k : Int) (hk1 : k ≠ -1) (a : Option Addr) (ca : Nat) (l : List Val) (w : World) (ht0 : Tab w) (ha : Vals w a l) (hc : l.length ≤ ca) (hm : ca ≤ maxLen) (h0 : 0 < l.length) :
    Calls Tryz.prog 4 #[.int .i64 (k), .slice a l.length ca] w (BsP (wrB (k) l) w) := by
  have ht := hid ht0
  have hla := hid (fun W (kp : Kp [] w W) => ha.kept kp)
  have hlE := hid (fun W (kp : Kp [] w W) => cEncE (k) a ca l W (ha.kept kp) hc hm)
  have hfacts : Hid (refE (k) l = 0 → (0 ≤ (k) ∧ (k) ≤ 4) ∧ l.length ≤ 64 ∧ allR l = true) := fun h => by obtain ⟨h1, h2, h3⟩ := refE_ok h; exact ⟨known_bd h1, h2, h3⟩
  have hkw : kindW (k) l = k := by unfold kindW; rw [if_neg hk1]
  have hyes : Hid (refE (k) l = 0 → wrB (k) l = (blkB (k) l, 0)) := fun h => by unfold wrB; rw [if_neg (by omega), hkw, if_pos h]
  have hno : Hid (refE (k) l ≠ 0 → wrB (k) l = ([], refE (k) l)) := fun h => by unfold wrB; rw [if_neg (by omega), hkw, if_neg h]
  have hel := encR_len (k) l
  have hml : l.length ≤ 9223372036854775807 := by unfold maxLen at hm; omega
  have h64 : Hid (refE (k) l = 0 → l.length ≤ 64) := fun h => (refE_ok h).2.1
  have hlen0 : ((l.length : Int) == 0) = false := beq_eq_false_iff_ne.2 (by omega)
  unfold EncP at hlE
  obtain ⟨E, hE⟩ : ∃ E, Hid (refE (k) l = E) := ⟨_, rfl⟩
  obtain ⟨R, hRR⟩ : ∃ R, Hid (encR (k) l = R) := ⟨_, rfl⟩
  simp only [hE.out, hRR.out] at hlE
  simp only [hE.out] at hfacts hyes hno h64
  rw [hRR.out] at hel
  unfold BsP
  clear ht0 ha hkw
  have cE := hlE.out w (Kp.refl _ _)
  have hkn : (k == -1) = false := by simpa using hk1
  clear hlE hE hk1
  go_enter Tryz.func4, Tryz.ntmps4
  go_wp2_with fail
  refine cE.mono ?_
  rintro e w1 ⟨b1, c1, rfl, hrow1, k1, hn1⟩
  have kw1 := (Kp.refl [] w).trans k1 (by simp)
  by_cases hE0 : E = 0
  · subst hE0
    obtain ⟨hs1, hc1, hm1⟩ := rowSee hrow1
    have hok := hfacts.out rfl
    have hwr : Hid (wrB k l = (blkB k l, 0)) := hyes.out rfl
    have H1 := hid (And.intro hs1 (And.intro kw1 (And.intro hrow1 hn1)))
    clear hs1 hrow1 hn1 k1 cE
    go_wp2_with fail
    refine (wNew w1).mono ?_
    rintro e w2 ⟨p, rfl, hpe, hW2, k2⟩
    have hp2 : w1.heap.size ≤ p := by omega
    have ho2 : ∀ k ∈ own (.slice none 0 0), w1.heap.size ≤ k := by simp [own, Value.ownBlock]
    clear hpe
    have kw2 := H1.out.2.1.trans k2 (by simp)
    have cH := cHeadOf k a ca l w2 (hla.out w2 kw2) h0 (by omega)
    have H2 := hid (And.intro hW2 (And.intro kw2 (And.intro hp2 ho2)))
    have s2 := hid (H1.out.1.kept k2 (by simp))
    clear hW2 k2 kw2
    go_wp2_with fail
    refine cH.mono ?_
    rintro e w3 ⟨rfl, k3⟩
    have kw3 := H2.out.2.1.trans k3 (by simp)
    have hW3 := H2.out.1.keptNew k3
    have cP := bPutHead p (.slice none 0 0) [] ⟨k, l.length, minV l, maxV l, nullsV l, 0⟩ R.length w3 hW3 (by simp) (minV_right h0 hok.2.2) (maxV_right h0 hok.2.2) hok.1.1 (by have := hok.1.2; dsimp only; omega) (by dsimp only; omega) (by have := hok.2.1; dsimp only; omega) (by dsimp only; omega) (by have := nulls_le l; have := hok.2.1; dsimp only; omega) (by omega)
    dsimp only at cP
    have s3 := hid (s2.out.kept k3 (by simp))
    clear cH k3 hW3
    go_wp2_with fail
    refine cP.mono ?_
    rintro e w4 ⟨rfl, v4, hW4, hr4⟩
    rw [List.nil_append] at hW4
    have hp1 : w1.heap.size ≤ p := H2.out.2.2.1
    have kk4 := stepW kw3 (Nat.le_trans H1.out.2.1.size hp1) (fun k hk => Nat.le_trans H1.out.2.1.size (H2.out.2.2.2 k hk)) hr4
    have s4 : Sees w4 b1 R := s3.out.kept' hr4.kp (fun hne k hk hm => by
      have hb1 := H1.out.1.lt hne k hk
      rcases List.mem_cons.1 hm with e | e
      · omega
      · have := H2.out.2.2.2 k e; omega)
    have hap : R ≠ [] → ∀ k ∈ blk b1, k ∉ p :: own v4 := fun hne k hk hm => by
      have hb1 := H1.out.1.lt hne k hk
      rcases List.mem_cons.1 hm with e | e
      · omega
      · rcases hr4.new k e with h5 | h5
        · have := H2.out.2.2.2 k h5; omega
        · have := kw3.size; have := H2.out.2.1.size; have := (H1.out.2.1).size; have h9 := s3.out.lt hne k hk; omega
    have hW4h : Hid (([octet k, octet (l.length : Int), octet (nullsV l : Int)] ++ rowB (minV l) ++ rowB (maxV l) ++ [octet ((R.length / 256 : Nat) : Int), octet ((R.length % 256 : Nat) : Int)]) = hdB k l R.length) := rfl
    rw [hW4h.out] at hW4
    obtain ⟨HB, hHB⟩ : ∃ HB, Hid (hdB k l R.length = HB) := ⟨_, rfl⟩
    have hHl : HB.length ≤ 200 := by rw [← hHB.out, hdB_len]; have := rowB_length (minV_right h0 hok.2.2); have := rowB_length (maxV_right h0 hok.2.2); omega
    rw [hHB.out] at hW4
    have cR := wRaw p v4 HB b1 R.length c1 R w4 hW4 s4 rfl (by omega)
    have H4 := hid kk4
    clear cP kw3 s3 hr4 s4 hW4 kk4 hap
    go_wp2_with fail
    refine cR.mono ?_
    rintro e w5 ⟨rfl, v5, hW5, hr5⟩
    have kk5 := stepW H4.out.1 (Nat.le_trans H1.out.2.1.size hp1) H4.out.2 hr5
    obtain ⟨PB, hPB⟩ : ∃ PB, Hid (HB ++ R = PB) := ⟨_, rfl⟩
    have hPl : PB.length ≤ 20000 := by rw [← hPB.out, List.length_append]; omega
    rw [hPB.out] at hW5
    have cB := wBytes p v5 PB w5 hW5 (by omega)
    have H5 := hid (And.intro hW5 kk5)
    clear cR hW5 kk5 hr5
    go_wp2_with fail
    refine cB.mono ?_
    rintro e w6 ⟨v6, rfl, hR6, k6, hn6⟩
    obtain ⟨a6, c6, rfl, hs6, _⟩ := hR6.sees
    have kk6 := H5.out.2.1.trans k6 (by simp)
    have cS := cSum a6 PB.length c6 PB w6 (ht.out.kept kk6 (by simp)) hs6 rfl (by omega)
    have hcr := crc_lt PB
    obtain ⟨CR, hCR⟩ : ∃ c : Nat, Hid (crc PB = c) := ⟨_, rfl⟩
    rw [hCR.out] at cS hcr
    have H6 := hid (And.intro (H5.out.1.keptNew k6) kk6)
    clear cB hR6 hs6 kk6 hn6
    go_wp2_with fail
    refine cS.mono ?_
    rintro e w7 ⟨rfl, hw7⟩
    subst hw7
    have cW := wWord p v5 PB CR w7 H6.out.1 (by omega) (by omega) (by omega)
    clear cS
    go_wp2_with fail
    refine cW.mono ?_
    rintro e w8 ⟨rfl, v8, hW8, hr8⟩
    have kk8 := stepW H6.out.2 (Nat.le_trans H1.out.2.1.size hp1) H5.out.2.2 hr8
    rw [Int.toNat_natCast] at hW8
    obtain ⟨WB, hWB⟩ : ∃ WB, Hid (PB ++ be CR 4 = WB) := ⟨_, rfl⟩
    have hWl : WB.length ≤ 20004 := by rw [← hWB.out, List.length_append, be_length]; omega
    rw [hWB.out] at hW8
    have cB2 := wBytes p v8 WB w8 hW8 (by omega)
    have H8 := hid kk8
    clear cW hr8 hW8 kk8
    go_wp2_with fail
    refine cB2.mono ?_
    rintro e w9 ⟨v9, rfl, hR9, k9, hn9⟩
    obtain ⟨a9, c9, rfl, hs9, ho9⟩ := hR9.sees
    have kk9 := H8.out.1.trans k9 (by simp)
    have hn9' : ∀ k ∈ blk a9, w.heap.size ≤ k := fun k hk => Nat.le_trans H8.out.1.size (hn9 k (by rw [ho9]; exact hk))
    have hfin : Hid (blkB k l = WB) := by
      show _ = _
      unfold blkB preB
      rw [hRR.out, hHB.out, hPB.out, hCR.out, hWB.out]
    have H9 := hid (And.intro hR9 (And.intro kk9 hn9'))
    clear cB2 hR9 hs9 kk9 hn9 hn9' k9 ho9
    go_wp2_with fail
    go_ret2
    rw [hwr.out, hfin.out]
    exact ⟨a9, c9, rfl, H9.out.1, H9.out.2.1, H9.out.2.2⟩
  · have hwr : Hid (wrB k l = ([], E)) := hno.out hE0
    have d1 : (E != 0) = true := by simpa using hE0
    clear cE hrow1 hn1 k1
    go_wp2_with fail
    go_ret2
    rw [hwr.out]
    exact ⟨none, 0, rfl, .inl ⟨rfl, rfl⟩, kw1, by simp [blk]⟩
set_option maxHeartbeats 16000000 in
set_option maxRecDepth 100000 in
theorem cWriteN (a : Option Addr) (ca : Nat) (l : List Val) (w : World) (ht0 : Tab w) (ha : Vals w a l) (hc : l.length ≤ ca) (hm : ca ≤ maxLen) (h0 : 0 < l.length) :
    Calls Tryz.prog 4 #[.int .i64 (-1), .slice a l.length ca] w (BsP (wrB (-1) l) w) := by
  have ht := hid ht0
  have hla := hid (fun W (kp : Kp [] w W) => ha.kept kp)
  have hlE := hid (fun W (kp : Kp [] w W) => cEncE (bestV l) a ca l W (ha.kept kp) hc hm)
  have hfacts : Hid (refE (bestV l) l = 0 → (0 ≤ (bestV l) ∧ (bestV l) ≤ 4) ∧ l.length ≤ 64 ∧ allR l = true) := fun h => by obtain ⟨h1, h2, h3⟩ := refE_ok h; exact ⟨known_bd h1, h2, h3⟩
  have hkw : kindW (-1) l = bestV l := by unfold kindW; rw [if_pos rfl]
  have hyes : Hid (refE (bestV l) l = 0 → wrB (-1) l = (blkB (bestV l) l, 0)) := fun h => by unfold wrB; rw [if_neg (by omega), hkw, if_pos h]
  have hno : Hid (refE (bestV l) l ≠ 0 → wrB (-1) l = ([], refE (bestV l) l)) := fun h => by unfold wrB; rw [if_neg (by omega), hkw, if_neg h]
  have hel := encR_len (bestV l) l
  have hml : l.length ≤ 9223372036854775807 := by unfold maxLen at hm; omega
  have h64 : Hid (refE (bestV l) l = 0 → l.length ≤ 64) := fun h => (refE_ok h).2.1
  have hlen0 : ((l.length : Int) == 0) = false := beq_eq_false_iff_ne.2 (by omega)
  unfold EncP at hlE
  obtain ⟨E, hE⟩ : ∃ E, Hid (refE (bestV l) l = E) := ⟨_, rfl⟩
  obtain ⟨R, hRR⟩ : ∃ R, Hid (encR (bestV l) l = R) := ⟨_, rfl⟩
  simp only [hE.out, hRR.out] at hlE
  simp only [hE.out] at hfacts hyes hno h64
  rw [hRR.out] at hel
  unfold BsP
  clear ht0 ha hkw
  have cBe := cBest a ca l w (hla.out w (Kp.refl _ _)) hc hm
  obtain ⟨kb, hkb⟩ : ∃ kb, Hid (bestV l = kb) := ⟨_, rfl⟩
  rw [hkb.out] at cBe
  simp only [hkb.out] at hlE hfacts hyes hno hE hRR h64
  clear hE
  go_enter Tryz.func4, Tryz.ntmps4
  go_wp2_with fail
  refine cBe.mono ?_
  rintro e w0 ⟨rfl, kb0⟩
  have cE := hlE.out w0 kb0
  clear cBe hlE
  go_wp2_with fail
  refine cE.mono ?_
  rintro e w1 ⟨b1, c1, rfl, hrow1, k1, hn1⟩
  have kw1 := kb0.trans k1 (by simp)
  by_cases hE0 : E = 0
  · subst hE0
    obtain ⟨hs1, hc1, hm1⟩ := rowSee hrow1
    have hok := hfacts.out rfl
    have hwr : Hid (wrB (-1) l = (blkB kb l, 0)) := hyes.out rfl
    have H1 := hid (And.intro hs1 (And.intro kw1 (And.intro hrow1 hn1)))
    clear hs1 hrow1 hn1 k1 cE
    go_wp2_with fail
    refine (wNew w1).mono ?_
    rintro e w2 ⟨p, rfl, hpe, hW2, k2⟩
    have hp2 : w1.heap.size ≤ p := by omega
    have ho2 : ∀ k ∈ own (.slice none 0 0), w1.heap.size ≤ k := by simp [own, Value.ownBlock]
    clear hpe
    have kw2 := H1.out.2.1.trans k2 (by simp)
    have cH := cHeadOf kb a ca l w2 (hla.out w2 kw2) h0 (by omega)
    have H2 := hid (And.intro hW2 (And.intro kw2 (And.intro hp2 ho2)))
    have s2 := hid (H1.out.1.kept k2 (by simp))
    clear hW2 k2 kw2
    go_wp2_with fail
    refine cH.mono ?_
    rintro e w3 ⟨rfl, k3⟩
    have kw3 := H2.out.2.1.trans k3 (by simp)
    have hW3 := H2.out.1.keptNew k3
    have cP := bPutHead p (.slice none 0 0) [] ⟨kb, l.length, minV l, maxV l, nullsV l, 0⟩ R.length w3 hW3 (by simp) (minV_right h0 hok.2.2) (maxV_right h0 hok.2.2) hok.1.1 (by have := hok.1.2; dsimp only; omega) (by dsimp only; omega) (by have := hok.2.1; dsimp only; omega) (by dsimp only; omega) (by have := nulls_le l; have := hok.2.1; dsimp only; omega) (by omega)
    dsimp only at cP
    have s3 := hid (s2.out.kept k3 (by simp))
    clear cH k3 hW3
    go_wp2_with fail
    refine cP.mono ?_
    rintro e w4 ⟨rfl, v4, hW4, hr4⟩
    rw [List.nil_append] at hW4
    have hp1 : w1.heap.size ≤ p := H2.out.2.2.1
    have kk4 := stepW kw3 (Nat.le_trans H1.out.2.1.size hp1) (fun k hk => Nat.le_trans H1.out.2.1.size (H2.out.2.2.2 k hk)) hr4
    have s4 : Sees w4 b1 R := s3.out.kept' hr4.kp (fun hne k hk hm => by
      have hb1 := H1.out.1.lt hne k hk
      rcases List.mem_cons.1 hm with e | e
      · omega
      · have := H2.out.2.2.2 k e; omega)
    have hap : R ≠ [] → ∀ k ∈ blk b1, k ∉ p :: own v4 := fun hne k hk hm => by
      have hb1 := H1.out.1.lt hne k hk
      rcases List.mem_cons.1 hm with e | e
      · omega
      · rcases hr4.new k e with h5 | h5
        · have := H2.out.2.2.2 k h5; omega
        · have := kw3.size; have := H2.out.2.1.size; have := (H1.out.2.1).size; have h9 := s3.out.lt hne k hk; omega
    have hW4h : Hid (([octet kb, octet (l.length : Int), octet (nullsV l : Int)] ++ rowB (minV l) ++ rowB (maxV l) ++ [octet ((R.length / 256 : Nat) : Int), octet ((R.length % 256 : Nat) : Int)]) = hdB kb l R.length) := rfl
    rw [hW4h.out] at hW4
    obtain ⟨HB, hHB⟩ : ∃ HB, Hid (hdB kb l R.length = HB) := ⟨_, rfl⟩
    have hHl : HB.length ≤ 200 := by rw [← hHB.out, hdB_len]; have := rowB_length (minV_right h0 hok.2.2); have := rowB_length (maxV_right h0 hok.2.2); omega
    rw [hHB.out] at hW4
    have cR := wRaw p v4 HB b1 R.length c1 R w4 hW4 s4 rfl (by omega)
    have H4 := hid kk4
    clear cP kw3 s3 hr4 s4 hW4 kk4 hap
    go_wp2_with fail
    refine cR.mono ?_
    rintro e w5 ⟨rfl, v5, hW5, hr5⟩
    have kk5 := stepW H4.out.1 (Nat.le_trans H1.out.2.1.size hp1) H4.out.2 hr5
    obtain ⟨PB, hPB⟩ : ∃ PB, Hid (HB ++ R = PB) := ⟨_, rfl⟩
    have hPl : PB.length ≤ 20000 := by rw [← hPB.out, List.length_append]; omega
    rw [hPB.out] at hW5
    have cB := wBytes p v5 PB w5 hW5 (by omega)
    have H5 := hid (And.intro hW5 kk5)
    clear cR hW5 kk5 hr5
    go_wp2_with fail
    refine cB.mono ?_
    rintro e w6 ⟨v6, rfl, hR6, k6, hn6⟩
    obtain ⟨a6, c6, rfl, hs6, _⟩ := hR6.sees
    have kk6 := H5.out.2.1.trans k6 (by simp)
    have cS := cSum a6 PB.length c6 PB w6 (ht.out.kept kk6 (by simp)) hs6 rfl (by omega)
    have hcr := crc_lt PB
    obtain ⟨CR, hCR⟩ : ∃ c : Nat, Hid (crc PB = c) := ⟨_, rfl⟩
    rw [hCR.out] at cS hcr
    have H6 := hid (And.intro (H5.out.1.keptNew k6) kk6)
    clear cB hR6 hs6 kk6 hn6
    go_wp2_with fail
    refine cS.mono ?_
    rintro e w7 ⟨rfl, hw7⟩
    subst hw7
    have cW := wWord p v5 PB CR w7 H6.out.1 (by omega) (by omega) (by omega)
    clear cS
    go_wp2_with fail
    refine cW.mono ?_
    rintro e w8 ⟨rfl, v8, hW8, hr8⟩
    have kk8 := stepW H6.out.2 (Nat.le_trans H1.out.2.1.size hp1) H5.out.2.2 hr8
    rw [Int.toNat_natCast] at hW8
    obtain ⟨WB, hWB⟩ : ∃ WB, Hid (PB ++ be CR 4 = WB) := ⟨_, rfl⟩
    have hWl : WB.length ≤ 20004 := by rw [← hWB.out, List.length_append, be_length]; omega
    rw [hWB.out] at hW8
    have cB2 := wBytes p v8 WB w8 hW8 (by omega)
    have H8 := hid kk8
    clear cW hr8 hW8 kk8
    go_wp2_with fail
    refine cB2.mono ?_
    rintro e w9 ⟨v9, rfl, hR9, k9, hn9⟩
    obtain ⟨a9, c9, rfl, hs9, ho9⟩ := hR9.sees
    have kk9 := H8.out.1.trans k9 (by simp)
    have hn9' : ∀ k ∈ blk a9, w.heap.size ≤ k := fun k hk => Nat.le_trans H8.out.1.size (hn9 k (by rw [ho9]; exact hk))
    have hfin : Hid (blkB kb l = WB) := by
      show _ = _
      unfold blkB preB
      rw [hRR.out, hHB.out, hPB.out, hCR.out, hWB.out]
    have H9 := hid (And.intro hR9 (And.intro kk9 hn9'))
    clear cB2 hR9 hs9 kk9 hn9 hn9' k9 ho9
    go_wp2_with fail
    go_ret2
    rw [hwr.out, hfin.out]
    exact ⟨a9, c9, rfl, H9.out.1, H9.out.2.1, H9.out.2.2⟩
  · have hwr : Hid (wrB (-1) l = ([], E)) := hno.out hE0
    have d1 : (E != 0) = true := by simpa using hE0
    clear cE hrow1 hn1 k1
    go_wp2_with fail
    go_ret2
    rw [hwr.out]
    exact ⟨none, 0, rfl, .inl ⟨rfl, rfl⟩, kw1, by simp [blk]⟩
theorem cWriteB (k : Int) (a : Option Addr) (ca : Nat) (l : List Val) (w : World) (ht : Tab w) (ha : Vals w a l) (hc : l.length ≤ ca) (hm : ca ≤ maxLen) :
    Calls Tryz.prog 4 #[.int .i64 k, .slice a l.length ca] w (BsP (wrB k l) w) := by
  rcases Nat.eq_zero_or_pos l.length with h0 | h0
  · have hwr : Hid (wrB k l = ([], 70)) := by show _ = _; unfold wrB; rw [if_pos h0]
    rw [h0, hwr.out]
    unfold BsP
    clear ha hc
    go_enter Tryz.func4, Tryz.ntmps4
    go_wp2_with fail
    go_ret2
    exact ⟨none, 0, rfl, .inl ⟨rfl, rfl⟩, Kp.refl _ _, by simp [blk]⟩
  · by_cases hk : k = -1
    · subst hk
      exact cWriteN a ca l w ht ha hc hm h0
    · exact cWriteK k hk a ca l w ht ha hc hm h0
end Go.Proofs.YtafcdckpicoppaaGreatDoor
end

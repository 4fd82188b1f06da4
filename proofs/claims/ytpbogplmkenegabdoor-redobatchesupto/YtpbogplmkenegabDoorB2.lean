/- The reader's calls, more: take, Byte, Word, Long, frontVar, Var, Raw, count, Text. The reader's calls, the rest: Var, Raw, count, Text. Rows of rows of bytes: an append. What reads one thing of a list. More plain mathematics: a number and its bytes, back and forth; what a Var read comes to. The reference's bytes: Number, Said. The reference's Var and Text. The reference's reader: Raw, Get, GetVar, GetText, End. The reference's reader: Get, GetVar. The reference's GetText. The reference's GetVar. The reference's GetText. What a list is, by the reference. A range over an iterator that writes memory of its own between two rounds: a law. No statement of the seat is proved here. The iterator that codec.Items makes: what it promises. What is kept where only blocks that hold no cells have turned. -/
import Derived.Test.YtpbogplmkenegabDoorB1
import Derived.Deep.RegionWith
import Derived.Deep.QuietTactic
import Derived.BigQuiet
import Derived.Deep.RegionHeld3
import Derived.RangeFuncNested
import Derived.RangeFuncBound
import Derived.RangeFuncCalls
import Derived.RangeFuncLeaves
import Derived.Shelf.Abstract
import Derived.Shelf.RegionOpen
import Derived.WalkKit
import Derived.OwnWalkIn
import Derived.TacticsInMore
import Derived.LoopNIn
import Derived.LoopIn
section
namespace Go.Proofs.YtpbogplmkenegabDoor
open Go.RowKit Go.Hay
set_option linter.unusedVariables false

set_option maxHeartbeats 400000 in
theorem rTake (p : Nat) (D : List Nat) (bs : List UInt8) (e0 n : Int) (w : World) (h : Rd w p D bs e0) (h0 : 0 ≤ n) :
    Calls Tryd.prog 58 #[.pointer (some ⟨p, 0, none⟩), .int .i64 n] w fun e w' => ∃ out bs' e' a c, takeS n.toNat bs e0 = (out, bs', e') ∧ e = .returned (.slice a out.length c) ∧ Sees w' a out ∧ (∀ k ∈ blk a, k ∈ D) ∧ out.length ≤ c ∧ Rd w' p D bs' e' ∧ Kp [p] w w' := by
  obtain ⟨n, rfl⟩ := Int.eq_ofNat_of_zero_le h0
  rw [Int.toNat_natCast]
  have hR := h
  have h1 := h.err
  have f0 := h.free0
  have f1 := h.free1
  obtain ⟨a, c, hc, hl, hm, hs, hD⟩ := h.left
  by_cases he : e0 = 0
  · subst he
    by_cases hn : bs.length < n
    · obtain ⟨r1, r2⟩ := h.setErr 10
      clear h hR
      go_enter Tryd.func58, Tryd.ntmps58
      go_wp2
      go_ret
      exact ⟨[], bs, 10, none, 0, by simp [takeS, hn], rfl, Sees.nil _ _, by simp [blk], Nat.le_refl _, r1, r2⟩
    · have hn' : n ≤ bs.length := by omega
      have hp1 := hs.front n
      have hp2 := hs.tail n
      have htk : (bs.take n).length = n := by simp; omega
      have ho : ∀ k ∈ blk a, k ∉ [p] := fun k hk hm' => by rw [List.mem_singleton] at hm'; subst hm'; exact h.apart (hD _ hk)
      by_cases hcn : c = n
      · subst hcn
        have hnil : bs.drop c = [] := by rw [List.drop_of_length_le hl]
        obtain ⟨r1, r2⟩ := h.setLeft (bs' := bs.drop c) a 0 0 (by simp; omega) (by simp; omega) (Nat.zero_le _) (by rw [hnil]; exact Sees.nil _ _) hD
        have hq1 := hp1.kept r2 ho
        clear h hR hnil hp1 hp2 ho
        go_enter Tryd.func58, Tryd.ntmps58
        go_wp2
        go_ret
        exact ⟨_, _, _, a, c, by rw [takeS, if_neg (by simp), if_neg (by omega)], by rw [htk]; rfl, hq1, hD, by omega, r1, r2⟩
      · obtain ⟨r1, r2⟩ := h.setLeft (bs' := bs.drop n) (a.map (fun x => x.add n)) (c - n) (bs.length - n) (by simp) (by simp; omega) (by omega) hp2 (fun k hk => hD k (by rwa [blk_tail] at hk))
        have hq1 := hp1.kept r2 ho
        clear h hR hp1 hp2 ho
        go_enter Tryd.func58, Tryd.ntmps58
        go_wp2
        go_ret
        exact ⟨_, _, _, a, c, by rw [takeS, if_neg (by simp), if_neg (by omega)], by rw [htk]; rfl, hq1, hD, by omega, r1, r2⟩
  · have he' : (e0 == 0) = false := by simpa using he
    have he2 : (e0 != 0) = true := by simpa using he
    go_enter Tryd.func58, Tryd.ntmps58
    go_wp2
    go_ret
    exact ⟨[], bs, e0, none, 0, by simp [takeS, he], rfl, Sees.nil _ _, by simp [blk], Nat.le_refl _, hR, Kp.refl _ _⟩

theorem takeS_len (n : Nat) (bs : List UInt8) (e : Int) {out bs' : List UInt8} {e' : Int} (h : takeS n bs e = (out, bs', e')) : out.length ≤ n := by
  unfold takeS at h
  split at h
  · cases h; simp
  · split at h
    · cases h; simp
    · cases h; simp; omega
theorem num_lt_of (xs : List UInt8) (k : Nat) (h : xs.length ≤ k) : num xs < 256 ^ k := Nat.lt_of_lt_of_le (num_lt xs) (Nat.pow_le_pow_right (by omega) h)

set_option maxHeartbeats 400000 in
set_option maxRecDepth 100000 in
theorem cFront (a : Option Addr) (n c : Nat) (bs : List UInt8) (w : World) (hs : Sees w a bs) (hn : n = bs.length) (hl : bs.length ≤ c) (hm : c ≤ maxLen) :
    Calls Tryd.prog 57 #[.slice a n c] w fun e w' => e = .returned (.tuple #[.int .u64 (fv bs).1, .int .i64 (fv bs).2.1, .int .i64 (fv bs).2.2]) ∧ w' = w := by
  subst hn
  cases bs with
  | nil =>
    rw [show fv [] = (0, 0, 10) from rfl, List.length_nil]
    go_enter Tryd.func57, Tryd.ntmps57
    go_wp2
    go_ret3
    exact ⟨rfl, rfl⟩
  | cons f r =>
    have hf : f.toNat < 256 := f.toNat_lt
    obtain ⟨g, o, rfl, hc⟩ : ∃ g o, a = some ⟨g, o, none⟩ ∧ ∀ j u, (f :: r)[j]? = some u → w.cell? ⟨g, o + j, none⟩ = some (.int .u8 u.toNat) := by
      rcases hs with h | h
      · cases h
      · exact h
    have hc0 : w.cell? ⟨g, o, none⟩ = some (.int .u8 f.toNat) := hc 0 f rfl
    have htl := (Sees.tail hs 1).front
    clear hc
    have hbh := behindI_bd f.toNat
    obtain ⟨k, hk⟩ : ∃ k : Nat, behindI f.toNat = k := ⟨(behindI f.toNat).toNat, by omega⟩
    rw [List.length_cons] at hl ⊢
    have hk8 : k ≤ 8 := by omega
    unfold maxLen at hm
    by_cases hk0 : k = 0
    · have e : fv (f :: r) = ((f.toNat : Int), 1, 0) := by simp only [fv, hk, hk0]; rfl
      rw [e]
      have HK := hid hk
      clear hk hbh e htl hs
      subst hk0
      go_enter Tryd.func57, Tryd.ntmps57
      go_wp2_with fail
      refine (cBehind _ _ (by omega) (by omega)).mono ?_
      rintro e w2 ⟨rfl, rfl⟩
      rw [HK.out]
      go_wp2_with fail
      go_ret3
      exact ⟨rfl, rfl⟩
    have hk1 : ((1 + (k : Int)) == 1) = false := by simp; omega
    by_cases hsh : r.length < k
    · have e : fv (f :: r) = (0, 0, 10) := by simp only [fv, hk]; rw [if_neg (by omega), if_pos (by omega)]
      rw [e]
      have HK := hid hk
      clear hk hbh e htl hs
      go_enter Tryd.func57, Tryd.ntmps57
      go_wp2_with fail
      refine (cBehind _ _ (by omega) (by omega)).mono ?_
      rintro e w2 ⟨rfl, rfl⟩
      rw [HK.out]
      go_wp2_with fail
      go_ret3
      exact ⟨rfl, rfl⟩
    · have hc1 : ¬ c = 1 := by omega
      have hkl : k ≤ r.length := by omega
      have hnn := num_lt64 (r.take k) (by simp; omega)
      have hlen : (r.take k).length = k := by simp; omega
      have hv : fv (f :: r) = if leadI (num (r.take k)) ≠ f.toNat then ((0 : Int), (0 : Int), (11 : Int)) else ((num (r.take k) : Int), 1 + (k : Int), 0) := by
        simp only [fv, hk, Int.toNat_natCast]
        rw [if_neg (by omega), if_neg (by omega)]
      rw [hv]
      have HK := hid hk
      have hs1 := htl k
      rw [List.drop_one, List.tail_cons, Option.map_some, Addr.add_lit] at hs1
      clear hk hbh htl hs hv
      generalize hm' : num (r.take k) = m at *
      generalize hq : leadI (m : Int) = q at *
      have hqb := leadI_bd m (by omega)
      rw [hq] at hqb
      have HM := hid hm'
      have HL := hid hq
      clear hm' hq
      by_cases hqf : q = f.toNat
      · rw [if_neg (fun h => h hqf)]
        subst hqf
        go_enter Tryd.func57, Tryd.ntmps57
        go_wp2_with fail
        refine (cBehind _ _ (by omega) (by omega)).mono ?_
        rintro e w2 ⟨rfl, rfl⟩
        rw [HK.out]
        go_wp2_with fail
        refine (cNumber _ k _ (r.take k) _ hs1 hlen.symm (by omega)).mono ?_
        rintro e w2 ⟨rfl, rfl⟩
        rw [HM.out]
        go_wp2_with fail
        refine (cLead _ _ (by omega) (by omega)).mono ?_
        rintro e w2 ⟨rfl, rfl⟩
        rw [HL.out]
        go_wp2_with fail
        go_ret3
        exact ⟨rfl, rfl⟩
      · rw [if_pos hqf]
        have hq' : (q != (f.toNat : Int)) = true := by simpa using hqf
        clear hqf
        go_enter Tryd.func57, Tryd.ntmps57
        go_wp2_with fail
        refine (cBehind _ _ (by omega) (by omega)).mono ?_
        rintro e w2 ⟨rfl, rfl⟩
        rw [HK.out]
        go_wp2_with fail
        refine (cNumber _ k _ (r.take k) _ hs1 hlen.symm (by omega)).mono ?_
        rintro e w2 ⟨rfl, rfl⟩
        rw [HM.out]
        go_wp2_with fail
        refine (cLead _ _ (by omega) (by omega)).mono ?_
        rintro e w2 ⟨rfl, rfl⟩
        rw [HL.out]
        go_wp2_with fail
        go_ret3
        exact ⟨rfl, rfl⟩
end Go.Proofs.YtpbogplmkenegabDoor
end

section
namespace Go.Proofs.YtpbogplmkenegabDoor
open Go.RowKit Go.Hay
set_option linter.unusedVariables false

set_option maxHeartbeats 400000 in
theorem rVar (p : Nat) (D : List Nat) (bs : List UInt8) (e0 most : Int) (w : World) (h : Rd w p D bs e0) (h0 : 0 ≤ most) (h1 : most < 18446744073709551616) :
    Calls Tryd.prog 53 #[.pointer (some ⟨p, 0, none⟩), .int .u64 most] w fun e w' => ∃ n bs' e', varS most bs e0 = (n, bs', e') ∧ e = .returned (.int .u64 n) ∧ Rd w' p D bs' e' ∧ Kp [p] w w' := by
  have he1 := h.err
  have f0 := h.free0
  have f1 := h.free1
  obtain ⟨a, c, hc, hl, hm, hs, hD⟩ := h.left
  by_cases he : e0 = 0
  · subst he
    have hbd := fv_bd bs
    obtain ⟨n, k, e2, hfv⟩ : ∃ n k e2, fv bs = (n, k, e2) := ⟨_, _, _, rfl⟩
    have hvar : varS most bs 0 = if e2 ≠ 0 then (0, bs, e2) else if most < n then (0, bs, 12) else (n, bs.drop k.toNat, 0) := by simp [varS, hfv]
    rw [hvar]
    have hfront := cFront a bs.length c bs w hs rfl hl hm
    rw [hfv] at hbd hfront
    obtain ⟨hn0, hn1, hk0, hk9, hkl⟩ : 0 ≤ n ∧ n < 18446744073709551616 ∧ 0 ≤ k ∧ k ≤ 9 ∧ k ≤ bs.length := hbd
    have hfront : Calls Tryd.prog 57 #[.slice a bs.length c] w fun e w' => e = .returned (.tuple #[.int .u64 n, .int .i64 k, .int .i64 e2]) ∧ w' = w := hfront
    have HF := hid hfront
    clear hfv hvar hfront
    obtain ⟨k, rfl⟩ := Int.eq_ofNat_of_zero_le hk0
    rw [Int.toNat_natCast]
    by_cases he2 : e2 = 0
    · subst he2
      rw [if_neg (fun h => h rfl)]
      by_cases hmn : most < n
      · rw [if_pos hmn]
        obtain ⟨r1, r2⟩ := h.setErr 12
        clear h
        go_enter Tryd.func53, Tryd.ntmps53
        go_wp2_with fail
        refine HF.out.mono ?_
        rintro e w2 ⟨rfl, rfl⟩
        go_wp2_with fail
        go_ret
        exact ⟨_, _, _, rfl, rfl, r1, r2⟩
      · rw [if_neg hmn]
        have ho : ∀ k ∈ blk a, k ∉ [p] := fun k hk hm' => by rw [List.mem_singleton] at hm'; subst hm'; exact h.apart (hD _ hk)
        by_cases hck : c = k
        · have hnil : bs.drop k = [] := by rw [List.drop_of_length_le (by omega)]
          obtain ⟨r1, r2⟩ := h.setLeft (bs' := bs.drop k) a 0 0 (by simp; omega) (by simp; omega) (Nat.zero_le _) (by rw [hnil]; exact Sees.nil _ _) hD
          subst hck
          clear h hnil ho hs hD
          go_enter Tryd.func53, Tryd.ntmps53
          go_wp2_with fail
          refine HF.out.mono ?_
          rintro e w2 ⟨rfl, rfl⟩
          go_wp2_with fail
          go_ret
          exact ⟨_, _, _, rfl, rfl, r1, r2⟩
        · obtain ⟨r1, r2⟩ := h.setLeft (bs' := bs.drop k) (a.map (fun x => x.add k)) (c - k) (bs.length - k) (by simp) (by simp; omega) (by omega) (hs.tail k) (fun k hk => hD k (by rwa [blk_tail] at hk))
          clear h ho hs hD
          go_enter Tryd.func53, Tryd.ntmps53
          go_wp2_with fail
          refine HF.out.mono ?_
          rintro e w2 ⟨rfl, rfl⟩
          go_wp2_with fail
          go_ret
          exact ⟨_, _, _, rfl, rfl, r1, r2⟩
    · rw [if_pos he2]
      obtain ⟨r1, r2⟩ := h.setErr e2
      have he' : (e2 == 0) = false := by simpa using he2
      have he2' : (e2 != 0) = true := by simpa using he2
      clear h
      go_enter Tryd.func53, Tryd.ntmps53
      go_wp2_with fail
      refine HF.out.mono ?_
      rintro e w2 ⟨rfl, rfl⟩
      go_wp2_with fail
      go_ret
      exact ⟨_, _, _, rfl, rfl, r1, r2⟩
  · have he' : (e0 == 0) = false := by simpa using he
    have he2 : (e0 != 0) = true := by simpa using he
    go_enter Tryd.func53, Tryd.ntmps53
    go_wp2_with fail
    go_ret
    exact ⟨0, bs, e0, by simp [varS, he], rfl, h, Kp.refl _ _⟩

set_option maxHeartbeats 400000 in
theorem rRaw (p : Nat) (D : List Nat) (bs : List UInt8) (e0 n : Int) (w : World) (h : Rd w p D bs e0) (hb : bs.length ≤ 200000000000000) :
    Calls Tryd.prog 55 #[.pointer (some ⟨p, 0, none⟩), .int .i64 n] w fun e w' => ∃ out bs' e' v, rawS n bs e0 = (out, bs', e') ∧ e = .returned v ∧ Row w' v out ∧ (∀ k ∈ own v, w.heap.size ≤ k) ∧ Rd w' p D bs' e' ∧ Kp [p] w w' := by
  by_cases hn : n < 0
  · have HE := hid (show rawS n bs e0 = ([], bs, if e0 = 0 then 12 else e0) by rw [rawS, if_pos hn])
    go_enter Tryd.func55, Tryd.ntmps55
    go_wp2_with fail
    refine (rFail p D bs e0 12 _ h).mono ?_
    rintro e w1 ⟨rfl, r1, r2⟩
    go_wp2_with fail
    go_ret
    exact ⟨_, _, _, _, HE.out, rfl, Row.nil _, by simp [own, Value.ownBlock], r1, r2⟩
  · have hn' : 0 ≤ n := by omega
    have HE := hid (show rawS n bs e0 = takeS n.toNat bs e0 by rw [rawS, if_neg hn])
    go_enter Tryd.func55, Tryd.ntmps55
    go_wp2_with fail
    refine (rTake p D bs e0 n _ h hn').mono ?_
    rintro e w1 ⟨out, bs', e', a, c, ht, rfl, hs, hD, hl, hr, hk⟩
    have hout : out.length ≤ bs.length := by
      unfold takeS at ht
      split at ht
      · cases ht; simp
      · split at ht
        · cases ht; simp
        · cases ht; simp; omega
    have HT := hid (HE.out.trans ht)
    clear ht HE
    go_wp2_with fail
    refine (cClone a out.length c out _ hs rfl (by omega)).mono ?_
    rintro e w2 ⟨v', rfl, g1, g2, g3⟩
    go_wp2_with fail
    go_ret
    have hlt := hr.lt
    exact ⟨out, bs', e', v', HT.out, rfl, g1, fun k hk' => Nat.le_trans hk.size (g3 k hk'), hr.kept g2 (by simp) (by simp), hk.trans g2 (by simp)⟩

set_option maxHeartbeats 400000 in
theorem rCount (p : Nat) (D : List Nat) (bs : List UInt8) (e0 most : Int) (w : World) (h : Rd w p D bs e0) (h0 : -9223372036854775808 ≤ most) (h1 : most ≤ 9223372036854775807) :
    Calls Tryd.prog 49 #[.pointer (some ⟨p, 0, none⟩), .int .i64 most] w fun e w' => ∃ n bs' e', countS most bs e0 = (n, bs', e') ∧ e = .returned (.int .i64 n) ∧ 0 ≤ n ∧ n ≤ 9223372036854775807 ∧ Rd w' p D bs' e' ∧ Kp [p] w w' := by
  by_cases hm : 0 ≤ most
  · have HE := hid (show countS most bs e0 = varS most bs e0 by rw [countS, if_pos hm])
    go_enter Tryd.func49, Tryd.ntmps49
    go_wp2_with fail
    refine (rVar p D bs e0 most _ h hm (by omega)).mono ?_
    rintro e w1 ⟨n, bs', e', ht, rfl, hr, hk⟩
    have hn : 0 ≤ n ∧ n ≤ most := by
      have := fv_bd bs
      unfold varS at ht
      split at ht
      · cases ht; omega
      · split at ht
        · cases ht; omega
        · split at ht
          · cases ht; omega
          · cases ht; omega
    obtain ⟨hn0, hn1⟩ := hn
    have hn2 : n ≤ 9223372036854775807 := by omega
    have HT := hid (HE.out.trans ht)
    clear ht HE
    go_wp2_with fail
    go_ret
    exact ⟨n, bs', e', HT.out, rfl, hn0, hn2, hr, hk⟩
  · obtain ⟨a, c, hc, hl, hmx, hs, hD⟩ := h.left
    have f0 := h.free0
    have hap := h.apart
    have hlt := h.lt
    have HE := hid (show countS most bs e0 = (0, bs, if (varS 18446744073709551615 bs e0).2.2 = 0 then 12 else (varS 18446744073709551615 bs e0).2.2) by rw [countS, if_neg hm])
    go_enter Tryd.func49, Tryd.ntmps49
    go_wp2_with fail
    refine (rVar p D bs e0 18446744073709551615 _ h (by omega) (by omega)).mono ?_
    rintro e w1 ⟨n, bs', e', ht, rfl, hr, hk⟩
    have he := HE.out
    rw [ht] at he
    have HT := hid he
    clear ht HE he
    have ho : ∀ k ∈ blk a, k ∉ [p] := fun k hka hm' => by rw [List.mem_singleton] at hm'; subst hm'; exact hap (hD _ hka)
    have hs1 : Sees w1 a bs := hs.kept hk ho
    obtain ⟨r1, r2⟩ := hr.setLeft a c bs.length rfl hl hmx hs1 hD
    obtain ⟨a1, c1, hc1, _⟩ := hr.left
    have f1 := hr.free0
    clear f0 hc hs ho hs1 hD h
    go_wp2_with fail
    refine (rFail p D bs e' 12 _ r1).mono ?_
    rintro e w2 ⟨rfl, q1, q2⟩
    go_wp2_with fail
    go_ret
    exact ⟨_, _, _, HT.out, rfl, by omega, by omega, q1, (hk.trans r2 (by simp)).trans q2 (by simp)⟩

set_option maxHeartbeats 400000 in
theorem rText (p : Nat) (D : List Nat) (bs : List UInt8) (e0 most : Int) (w : World) (h : Rd w p D bs e0) (h0 : -9223372036854775808 ≤ most) (h1 : most ≤ 9223372036854775807) (hb : bs.length ≤ 200000000000000) :
    Calls Tryd.prog 50 #[.pointer (some ⟨p, 0, none⟩), .int .i64 most] w fun e w' => ∃ out bs' e' v, textS most bs e0 = (out, bs', e') ∧ e = .returned v ∧ Row w' v out ∧ (∀ k ∈ own v, w.heap.size ≤ k) ∧ Rd w' p D bs' e' ∧ Kp [p] w w' := by
  obtain ⟨a, c, hc, hl, hmx, hs, hD⟩ := h.left
  have hap := h.apart
  have ho : ∀ k ∈ blk a, k ∉ [p] := fun k hka hm' => by rw [List.mem_singleton] at hm'; subst hm'; exact hap (hD _ hka)
  go_enter Tryd.func50, Tryd.ntmps50
  go_wp2_with fail
  refine (rCount p D bs e0 most _ h h0 h1).mono ?_
  rintro e w1 ⟨n, bs1, e1, ht, rfl, hn0, hn1, hr1, hk1⟩
  have hb1 : bs1.length ≤ bs.length := by
    unfold countS varS at ht
    split at ht
    · split at ht
      · cases ht; simp
      · split at ht
        · cases ht; simp
        · split at ht
          · cases ht; simp
          · cases ht; simp
    · cases ht; simp
  have HT := hid ht
  clear ht
  go_wp2_with fail
  refine (rRaw p D bs1 e1 n _ hr1 (by omega)).mono ?_
  rintro e w2 ⟨out, bs2, e2, v, ht2, rfl, hv, hown, hr2, hk2⟩
  have HX : Hid (textS most bs e0 = if e2 ≠ 0 then (out, bs, e2) else (out, bs2, e2)) := by show _ = _; simp only [textS]; rw [HT.out, ht2]
  clear ht2 HT
  have he2 := hr2.err
  have f2 := hr2.free0
  obtain ⟨a2, c2, hc2, _⟩ := hr2.left
  have kk := hk1.trans hk2 (by simp)
  have hs2 : Sees w2 a bs := hs.kept kk ho
  obtain ⟨r1, r2⟩ := hr2.setLeft a c bs.length rfl hl hmx hs2 hD
  have hrow := hv.kept r2 (fun k hk' hm' => by rw [List.mem_singleton] at hm'; subst hm'; have := hown _ hk'; have := hr1.lt; omega)
  clear hc hs hD ho hs2 h
  by_cases hz : e2 = 0
  · subst hz
    go_wp2_with fail
    go_ret
    exact ⟨_, _, _, _, HX.out.trans (if_neg (fun h => h rfl)), rfl, hv, fun k hk' => Nat.le_trans hk1.size (hown k hk'), hr2, kk⟩
  · have hz' : (e2 != 0) = true := by simpa using hz
    go_wp2_with fail
    go_ret
    exact ⟨_, _, _, _, HX.out.trans (if_pos hz), rfl, hrow, fun k hk' => Nat.le_trans hk1.size (hown k hk'), r1, kk.trans r2 (by simp)⟩
end Go.Proofs.YtpbogplmkenegabDoor
end

section
namespace Go.Proofs.YtpbogplmkenegabDoor
open Go.RowKit Go.Hay
set_option linter.unusedVariables false
set_option linter.unusedSimpArgs false

theorem infoSl : ∃ i : TypeInfo, Tryd.prog.info? 32 = some i ∧ i.zero = some (.slice none 0 0) ∧ i.size = 1 ∧ i.bytes = 24 := by
  have h : (Tryd.prog.info? 32).map (fun i => (i.zero, i.size, i.bytes)) = some (some (.slice none 0 0), 1, 24) := by kernel_rfl
  cases hp : Tryd.prog.info? 32 with
  | none => rw [hp] at h; cases h
  | some i =>
    rw [hp] at h
    simp at h
    exact ⟨i, rfl, h.1, h.2.1, h.2.2⟩
theorem rowOne {w : World} {v : Value} {bs : List UInt8} (h : Row w v bs) : v.oneCell' = true := by
  rcases h with ⟨rfl, _⟩ | ⟨g, o, cap, rfl, _⟩ <;> rfl
/-- An append of one slice onto a row of the call's own, for the walk. -/
theorem wpAppendL {n0 : Nat} {w : World} {ops : Array Oper} {rest : List Oper} {o : Oper} {a : Act} {Q : Exit → Act → World → Prop} (hgd : o.guard = none) (s x : Operand)
    (ho : o.op = .call { callee := .builtin .append, args := #[s, x], argTypes := #[30, 30] })
    (v : Value) (L : List (List UInt8)) (hv : a.eval s = v) (h : RowL n0 w v L) (xv : Value) (bs : List UInt8) (hr : Row w xv bs) (hd : ∀ k ∈ own xv, n0 ≤ k ∧ k ∉ own v) (hn0 : n0 ≤ w.heap.size)
    {q : Nat} (hq : w.heap.size = q) (hx : a.eval x = .slice (some ⟨q, 0, none⟩) 1 1) (hb : L.length + 1 ≤ 5000000000000)
    (hK : ∀ v' w', RowL n0 w' v' (L ++ [bs]) → Kp (own v) w w' → (∀ k ∈ own v', k ∈ own v ∨ w.heap.size ≤ k) → wpList Tryd.prog ops Q rest (a.put o.dst v') w') : wpList Tryd.prog ops Q (o :: rest) a (w.alloc (.cells #[xv] 32)) := by
  subst hq
  obtain ⟨i, hi, hz, hz1, hz2⟩ := infoSl
  obtain ⟨vs, hvl, hs, hfr, hel⟩ := h
  have hkA : Kp (own v) w (w.alloc (.cells #[xv] 32)) := (Kp.refl _ _).alloc _
  have hsA := hs.kept (S := []) ((Kp.refl _ _).alloc (.cells #[xv] 32)) (by simp)
  refine wpList_appendS (P := Tryd.prog) _ hgd s x 30 30 ho i Tryd.underlying30 hi hz hz1 hz2 v vs hv hsA _ [xv] hx ?_ (by simp; omega) ?_
  · refine Src.ofSlice _ Tryd.underlying30 ⟨w.heap.size, 0, none⟩ 1 1 [xv] rfl ?_ (by intro u hu; simp at hu; subst hu; exact rowOne hr)
    intro j u hu
    match j, hu with
    | 0, hu => cases hu; rw [Addr.add_lit]; exact World.cell?_alloc_new w _ _ 0
    | j + 1, hu => simp at hu
  · intro v' w' h1 h2 h3
    have hkk : Kp (own v) w w' := hkA.trans h2 (fun x hx => .inl hx)
    have hnew : ∀ k ∈ own v', k ∈ own v ∨ w.heap.size ≤ k := by
      intro k hk
      rcases h3 k hk with h | h
      · exact .inl h
      · right; simp at h; omega
    refine hK v' w' ⟨vs ++ [xv], by simp [hvl], h1, fun k hk => (by rcases hnew k hk with h | h; exact hfr k h; omega), ?_⟩ hkk hnew
    intro j y ob hy hob
    have key : Row w y ob ∧ ∀ k ∈ own y, n0 ≤ k ∧ k ∉ own v := by
      by_cases hj : j < vs.length
      · rw [List.getElem?_append_left hj] at hy
        rw [List.getElem?_append_left (by omega)] at hob
        exact hel j y ob hy hob
      · rw [List.getElem?_append_right (by omega)] at hy
        rw [List.getElem?_append_right (by omega)] at hob
        have : j - vs.length = 0 := by have := (List.getElem?_eq_some_iff.1 hy).1; simp at this; omega
        rw [this] at hy
        rw [← hvl, this] at hob
        cases hy
        cases hob
        exact ⟨hr, hd⟩
    refine ⟨key.1.kept hkk (fun k hk => (key.2 k hk).2), fun k hk => ⟨(key.2 k hk).1, fun hm => ?_⟩⟩
    rcases hnew k hm with h | h
    · exact (key.2 k hk).2 h
    · have := key.1.lt k hk; omega
end Go.Proofs.YtpbogplmkenegabDoor
end

section
namespace Go.Proofs.YtpbogplmkenegabDoor
open Go.RowKit Go.Hay
set_option linter.unusedVariables false
set_option linter.unusedSimpArgs false
set_option maxHeartbeats 4000000 in
set_option maxRecDepth 100000 in
theorem cTakeRec (p : Nat) (D : List Nat) (bs : List UInt8) (e0 : Int) (w : World) (h : Rd w p D bs e0) (hb : bs.length ≤ 200000000000000) :
    Calls Tryd.prog 35 #[.pointer (some ⟨p, 0, none⟩)] w fun e w' => ∃ out bs' e' v, textS 16777216 bs e0 = (out, bs', e') ∧ e = .returned v ∧ Row w' v out ∧ (∀ k ∈ own v, w.heap.size ≤ k) ∧ Rd w' p D bs' e' ∧ Kp [p] w w' := by
  go_enter Tryd.func35, Tryd.ntmps35
  go_wp2_with fail
  refine (rText p D bs e0 16777216 _ h (by omega) (by omega) hb).mono ?_
  rintro e w1 ⟨out, bs', e', v, ht, rfl, hr, ho, hd, hk⟩
  have HT := hid ht
  clear ht
  go_wp2_with fail
  go_ret
  exact ⟨out, bs', e', v, HT.out, rfl, hr, ho, hd, hk⟩
end Go.Proofs.YtpbogplmkenegabDoor
end

section
namespace Go.Hay
set_option linter.unusedVariables false

theorem be_snoc (n k : Nat) : be n (k + 1) = be (n / 256) k ++ [UInt8.ofNat (n % 256)] := by
  induction k with
  | zero => simp [be]
  | succ k ih =>
    rw [be, ih, be, List.cons_append]
    congr 2
    rw [Nat.div_div_eq_div_mul, Nat.pow_succ, Nat.mul_comm]
theorem be_num_rev (l : List UInt8) : be (num l.reverse) l.length = l.reverse := by
  induction l with
  | nil => simp [be]
  | cons x l ih =>
    have hx := x.toNat_lt
    rw [List.reverse_cons, num_snoc, List.length_cons, be_snoc, show (num l.reverse * 256 + x.toNat) / 256 = num l.reverse by omega, ih, show (num l.reverse * 256 + x.toNat) % 256 = x.toNat by omega, UInt8.ofNat_toNat]
theorem be_num (xs : List UInt8) : be (num xs) xs.length = xs := by simpa using be_num_rev xs.reverse
theorem num_be (n k : Nat) : num (be n k) = n % 256 ^ k := by
  induction k generalizing n with
  | zero => simp [be, num, Nat.mod_one]
  | succ k ih =>
    rw [be_snoc, num_snoc, ih, UInt8.toNat_ofNat', show 256 ^ (k + 1) = 256 * 256 ^ k by rw [Nat.pow_succ, Nat.mul_comm], Nat.mod_mul]
    omega
theorem octet_nat (x : UInt8) : octet x.toNat = x := by simp [octet]

/-- What is read as a number is written as the same bytes. -/
theorem fv_back (bs : List UInt8) (h : (fv bs).2.2 = 0) : varB (fv bs).1 = bs.take (fv bs).2.1.toNat ∧ 1 ≤ (fv bs).2.1 := by
  cases bs with
  | nil => simp [fv] at h
  | cons f r =>
    have hf := f.toNat_lt
    have hb := behindI_bd f.toNat
    simp only [fv] at h ⊢
    split
    · rename_i h0
      have hl : leadI f.toNat = f.toNat := by
        unfold behindI at h0
        unfold leadI
        repeat (first | split at h0 | (split <;> omega) | omega)
      simp only [varB, hl, h0, octet_nat]
      simp [be]
    · rename_i h0
      rw [if_neg h0] at h
      by_cases h1 : (r.length : Int) < behindI f.toNat
      · rw [if_pos h1] at h; simp at h
      rw [if_neg h1] at h ⊢
      by_cases h2 : leadI (num (r.take (behindI f.toNat).toNat)) ≠ f.toNat
      · rw [if_pos h2] at h; simp at h
      rw [if_neg h2]
      have h3 : leadI (num (r.take (behindI f.toNat).toNat)) = f.toNat := Decidable.not_not.1 h2
      obtain ⟨k, hk⟩ : ∃ k : Nat, behindI f.toNat = k := ⟨(behindI f.toNat).toNat, by omega⟩
      rw [hk, Int.toNat_natCast] at h3
      have hlen : (r.take k).length = k := by simp; omega
      refine ⟨?_, by show 1 ≤ 1 + behindI f.toNat; omega⟩
      show varB (num (r.take (behindI f.toNat).toNat)) = List.take (1 + behindI f.toNat).toNat (f :: r)
      rw [hk, Int.toNat_natCast]
      simp only [varB]
      rw [h3, hk, Int.toNat_natCast, Int.toNat_natCast, octet_nat]
      have e := be_num (r.take k)
      rw [hlen] at e
      rw [e, show (1 + (k : Int)).toNat = k + 1 by omega, List.take_succ_cons]

/-- Of a Var that was read: in words that the law uses. -/
theorem varS_cases (most : Int) (bs : List UInt8) {n : Int} {bs' : List UInt8} {e' : Int} (h0 : 0 ≤ most) (h : varS most bs 0 = (n, bs', e')) :
    0 ≤ n ∧ n < 18446744073709551616 ∧ bs'.length ≤ bs.length ∧ (e' ≠ 0 → n = 0 ∧ bs' = bs) ∧ (e' = 0 → n ≤ most ∧ varB n = bs.take (bs.length - bs'.length)) := by
  have hbd := fv_bd bs
  have hbk := fv_back bs
  unfold varS at h
  rw [if_neg (by simp)] at h
  split at h
  · rename_i h1
    cases h
    exact ⟨by omega, by omega, Nat.le_refl _, fun _ => ⟨rfl, rfl⟩, fun h => absurd h h1⟩
  · rename_i h1
    have h1' : (fv bs).2.2 = 0 := Decidable.not_not.1 h1
    have hbk := hbk h1'
    split at h
    · cases h
      exact ⟨by omega, by omega, Nat.le_refl _, fun _ => ⟨rfl, rfl⟩, fun h => by simp at h⟩
    · cases h
      refine ⟨by omega, by omega, by simp, fun h => absurd rfl h, fun _ => ⟨by omega, ?_⟩⟩
      rw [hbk.1]
      congr 1
      rw [List.length_drop]
      omega
end Go.Hay
end

section
namespace Go.Proofs.YtpbogplmkenegabDoor
open Go.RowKit Go.Hay
set_option linter.unusedVariables false

theorem said_step (m x : Nat) (hm : m < 72057594037927936) (hx : x < 256) : IntKind.u64.wrap (IntKind.u64.wrap (256 * (m : Int)) + (x : Int)) = ((m * 256 + x : Nat) : Int) := by
  rw [IntKind.wrap_u64, IntKind.wrap_u64]
  omega

end Go.Proofs.YtpbogplmkenegabDoor
end

section
namespace Go.Proofs.YtpbogplmkenegabDoor
open Go.RowKit Go.Hay
set_option linter.unusedVariables false

theorem rowNew (w : World) (C : Array Value) (t : TypeId) (bs : List UInt8) (n : Nat) (h : C.toList = bcells bs) (hn : n = bs.length) (hb : bs.length ≤ maxLen) : Row (w.alloc (.cells C t)) (.slice (some ⟨w.heap.size, 0, none⟩) n n) bs := by
  subst hn
  have hsz : C.size = bs.length := by rw [← Array.length_toList, h, bcells_length]
  refine .inr ⟨w.heap.size, 0, bs.length, rfl, Nat.le_refl _, hb, by simp, ?_, fun j hj => ⟨?_, World.frozen?_alloc_new w _ _ (0 + j)⟩⟩
  · rcases Sees.new w C t (0, 0) bs h with h1 | ⟨g, o, h1, h2⟩
    · subst h1; intro j u hu; simp at hu
    · cases h1; exact h2
  · have e1 : (w.alloc (.cells C t)).cell? ⟨w.heap.size, 0 + j, none⟩ = C[0 + j]? := World.cell?_alloc_new w _ _ (0 + j)
    rw [e1, Nat.zero_add, Array.getElem?_eq_getElem (by omega)]
    rfl

theorem varB_small (n : Int) (h0 : 0 ≤ n) (h : n < 253) : varB n = [octet n] := by
  have e : leadI n = n := by simp [leadI, h]
  have e2 : behindI n = 0 := by unfold behindI; rw [if_neg (by omega), if_neg (by omega), if_neg (by omega)]
  simp [varB, e, e2, be]

end Go.Proofs.YtpbogplmkenegabDoor
end

section
namespace Go.Proofs.YtpbogplmkenegabDoor
open Go.RowKit Go.Hay
set_option linter.unusedVariables false

/-- What a reference's reader has left. -/
theorem rawS_at (full : List UInt8) (at' : Nat) (n : Int) (e : Int) (ha : at' ≤ full.length) :
    rawS n (full.drop at') e = if e ≠ 0 then ([], full.drop at', e) else if n < 0 then ([], full.drop at', 12) else if (full.length : Int) - at' < n then ([], full.drop at', 10) else ((full.drop at').take n.toNat, full.drop (at' + n.toNat), 0) := by
  unfold rawS takeS
  by_cases he : e ≠ 0
  · by_cases hn : n < 0
    · rw [if_pos hn, if_pos he, if_neg he]
    · rw [if_neg hn, if_pos he, if_pos he]
  · have he' : e = 0 := Decidable.not_not.1 he
    by_cases hn : n < 0
    · rw [if_pos hn, if_neg he, if_pos hn, if_pos he']
    · rw [if_neg hn, if_neg he, if_neg he, if_neg hn, List.length_drop, List.drop_drop]
      by_cases hs : full.length - at' < n.toNat
      · rw [if_pos hs, if_pos (by omega)]
      · rw [if_neg hs, if_neg (by omega)]

/-- A box of three cells. -/
structure Box3 (w : World) (q : Nat) (a b c : Value) : Prop where
  c0 : w.cell? ⟨q, 0, none⟩ = some a
  c1 : w.cell? ⟨q, 1, none⟩ = some b
  c2 : w.cell? ⟨q, 2, none⟩ = some c
  free : ∀ j, w.frozen? ⟨q, j, none⟩ = false
theorem Box3.new (w : World) (a b c : Value) (t : TypeId) : Box3 (w.alloc (.cells #[a, b, c] t)) w.heap.size a b c :=
  ⟨World.cell?_alloc_new w _ _ 0, World.cell?_alloc_new w _ _ 1, World.cell?_alloc_new w _ _ 2, fun j => World.frozen?_alloc_new w _ _ j⟩
theorem Box3.lt {w : World} {q : Nat} {a b c : Value} (h : Box3 w q a b c) : q < w.heap.size := World.block_lt_of_cell? _ _ h.c0
theorem Box3.kept {w w' : World} {q : Nat} {a b c : Value} {S : List Nat} (h : Box3 w q a b c) (hk : Kp S w w') (hq : q ∉ S) : Box3 w' q a b c :=
  ⟨(hk.cell (p := ⟨q, 0, none⟩) h.lt hq).trans h.c0, (hk.cell (p := ⟨q, 1, none⟩) h.lt hq).trans h.c1, (hk.cell (p := ⟨q, 2, none⟩) h.lt hq).trans h.c2, fun j => (hk.frozen (p := ⟨q, j, none⟩) h.lt hq).trans (h.free j)⟩

theorem Box3.setAll {w : World} {q : Nat} {a b c : Value} (h : Box3 w q a b c) (x y z : Value) : Box3 (((w.setCell ⟨q, 0, none⟩ x).setCell ⟨q, 1, none⟩ y).setCell ⟨q, 2, none⟩ z) q x y z ∧ Kp [q] w (((w.setCell ⟨q, 0, none⟩ x).setCell ⟨q, 1, none⟩ y).setCell ⟨q, 2, none⟩ z) := by
  have e1 : (w.setCell ⟨q, 0, none⟩ x).cell? ⟨q, 1, none⟩ = some b := by rw [World.cell?_setCell_other _ _ _ _ (by simp)]; exact h.c1
  have e2 : ((w.setCell ⟨q, 0, none⟩ x).setCell ⟨q, 1, none⟩ y).cell? ⟨q, 2, none⟩ = some c := by rw [World.cell?_setCell_other _ _ _ _ (by simp), World.cell?_setCell_other _ _ _ _ (by simp)]; exact h.c2
  refine ⟨⟨?_, ?_, World.cell?_setCell_same _ _ _ e2, fun j => by rw [World.frozen?_setCell, World.frozen?_setCell, World.frozen?_setCell]; exact h.free j⟩, (((Kp.refl [q] w).setCell (by simp) _).setCell (by simp) _).setCell (by simp) _⟩
  · rw [World.cell?_setCell_other _ _ _ _ (by simp), World.cell?_setCell_other _ _ _ _ (by simp)]; exact World.cell?_setCell_same _ _ _ h.c0
  · rw [World.cell?_setCell_other _ _ _ _ (by simp)]; exact World.cell?_setCell_same _ _ _ e1

/-- What Raw leaves. -/
def RawPost (b : Option Addr) (cb : Nat) (full : List UInt8) (at' : Nat) (e0 n : Int) (w : World) (e : Ending) (w' : World) : Prop :=
  ∃ (out : List UInt8) (at2 : Nat) (e2 : Int) (v : Value), rawS n (full.drop at') e0 = (out, full.drop at2, e2) ∧ at2 ≤ full.length ∧ e = .returned (.tuple #[.agg #[.slice b full.length cb, .int .i64 at2, .int .i64 e2], v]) ∧ Row w' v out ∧ Kp [] w w' ∧ ∀ k ∈ own v, w.heap.size ≤ k

end Go.Proofs.YtpbogplmkenegabDoor
end

section
namespace Go.Proofs.YtpbogplmkenegabDoor
open Go.RowKit Go.Hay
set_option linter.unusedVariables false

/-- What Get leaves. -/
def GetPost (b : Option Addr) (cb : Nat) (full : List UInt8) (at' : Nat) (e0 : Int) (k : Nat) (w : World) (e : Ending) (w' : World) : Prop :=
  ∃ (out : List UInt8) (at2 : Nat) (e2 : Int), takeS k (full.drop at') e0 = (out, full.drop at2, e2) ∧ at2 ≤ full.length ∧ e = .returned (.tuple #[.agg #[.slice b full.length cb, .int .i64 at2, .int .i64 e2], .int .u64 (num out)]) ∧ Kp [] w w'

/-- What GetVar tells. -/
def gvS (most : Int) (neg : Bool) (bs : List UInt8) (e : Int) : Int × List UInt8 × Int :=
  if neg = true then (0, bs, if (varS 18446744073709551615 bs e).2.2 = 0 then 12 else (varS 18446744073709551615 bs e).2.2) else varS most bs e
theorem gvS_bad (most : Int) (neg : Bool) (bs : List UInt8) (e e1 : Int) (he : e1 ≠ 0) (h : ∀ m, varS m bs e = (0, bs, e1)) : gvS most neg bs e = (0, bs, e1) := by
  unfold gvS
  cases neg
  · rw [if_neg (by simp), h]
  · rw [if_pos rfl, h, if_neg he]
/-- Where the number is right but for the bound. -/
theorem gvS_num (most : Int) (neg : Bool) (bs rest : List UInt8) (n k : Int) (h : fv bs = (n, k, 0)) (hn : n < 18446744073709551616) (hr : rest = bs.drop k.toNat) : gvS most neg bs 0 = if neg = true ∨ most < n then (0, bs, 12) else (n, rest, 0) := by
  unfold gvS varS
  rw [h]
  cases neg
  · by_cases hm : most < n
    · simp [hm]
    · simp [hm, hr]
  · simp
    rw [if_neg (by omega)]
    simp
theorem fv_f (f : UInt8) (r : List UInt8) (h : f.toNat < 253) : fv (f :: r) = ((f.toNat : Int), 1, 0) := by
  have e : behindI f.toNat = 0 := by unfold behindI; rw [if_neg (by omega), if_neg (by omega), if_neg (by omega)]
  simp only [fv, e]
  rfl
theorem varB_len (n : Int) : ((varB n).length : Int) = 1 + behindI (leadI n) := by
  have := behindI_bd (leadI n)
  simp only [varB, List.length_cons, be_length]
  omega
theorem lead_of_behind (n : Int) (f : Nat) (h0 : 0 ≤ n) (hf : 253 ≤ f) (hf2 : f ≤ 255) : behindI (leadI n) = behindI f ↔ leadI n = f := by
  unfold leadI behindI
  repeat (first | split | omega)
theorem drop_inj (l : List UInt8) (i j : Nat) (hi : i ≤ l.length) (hj : j ≤ l.length) (h : l.drop i = l.drop j) : i = j := by
  have := congrArg List.length h
  simp at this
  omega
theorem takeS_ok (k : Nat) (bs : List UInt8) (e : Int) {out bs' : List UInt8} (h : takeS k bs e = (out, bs', 0)) : e = 0 ∧ k ≤ bs.length ∧ out = bs.take k ∧ bs' = bs.drop k := by
  unfold takeS at h
  split at h
  · rename_i he; cases h; exact absurd rfl he
  · rename_i he
    split at h
    · cases h
    · cases h; exact ⟨Decidable.not_not.1 he, by omega, rfl, rfl⟩
theorem takeS_no (k : Nat) (bs : List UInt8) (e : Int) {out bs' : List UInt8} {e' : Int} (h : takeS k bs e = (out, bs', e')) (he' : e' ≠ 0) : out = [] ∧ bs' = bs ∧ ((e ≠ 0 ∧ e' = e) ∨ (e = 0 ∧ bs.length < k ∧ e' = 10)) := by
  unfold takeS at h
  split at h
  · rename_i he; cases h; exact ⟨rfl, rfl, .inl ⟨he, rfl⟩⟩
  · rename_i he
    split at h
    · cases h; exact ⟨rfl, rfl, .inr ⟨Decidable.not_not.1 he, by assumption, rfl⟩⟩
    · cases h; exact absurd rfl he'

end Go.Proofs.YtpbogplmkenegabDoor
end

section
namespace Go.Proofs.YtpbogplmkenegabDoor
open Go.RowKit Go.Hay
set_option linter.unusedVariables false

/-- What is asked for, and whether it is below nought, tell a count. -/
theorem gvS_count (most m : Int) (bs : List UInt8) (e : Int) (hm : 0 ≤ most → m = most) : gvS m (decide (most < 0)) bs e = countS most bs e := by
  unfold gvS countS
  by_cases h : 0 ≤ most
  · rw [if_neg (by simp; omega), if_pos h, hm h]
  · rw [if_pos (by simp; omega), if_neg h]
theorem textS_bad (most : Int) (bs : List UInt8) (e e1 : Int) (h : countS most bs e = (0, bs, e1)) (he : e1 ≠ 0) : textS most bs e = ([], bs, e1) := by
  have hr : rawS 0 bs e1 = ([], bs, e1) := by simp [rawS, takeS, he]
  unfold textS
  rw [h]
  simp only [hr]
  rw [if_pos he]
theorem textS_short (most : Int) (bs rest : List UInt8) (e n : Int) (h : countS most bs e = (n, rest, 0)) (hn : 0 ≤ n) (hl : (rest.length : Int) < n) : textS most bs e = ([], bs, 10) := by
  have hr : rawS n rest 0 = ([], rest, 10) := by
    unfold rawS takeS
    rw [if_neg (by omega), if_neg (by simp), if_pos (by omega)]
  unfold textS
  rw [h]
  simp only [hr]
  rw [if_pos (by decide)]
theorem textS_good (most : Int) (bs rest : List UInt8) (e n : Int) (h : countS most bs e = (n, rest, 0)) (hn : 0 ≤ n) (hl : n ≤ rest.length) : textS most bs e = rawS n rest 0 := by
  have hr : rawS n rest 0 = (rest.take n.toNat, rest.drop n.toNat, 0) := by
    unfold rawS takeS
    rw [if_neg (by omega), if_neg (by simp), if_neg (by omega)]
  unfold textS
  rw [h]
  simp only [hr]
  rw [if_neg (by simp)]
/-- Where a count fails nothing was read. -/
theorem countS_bad (most : Int) (bs : List UInt8) (e : Int) {n e1 : Int} {r : List UInt8} (h : countS most bs e = (n, r, e1)) (he : e1 ≠ 0) : n = 0 ∧ r = bs := by
  unfold countS varS at h
  repeat (first | (split at h) | (cases h; first | exact ⟨rfl, rfl⟩ | exact absurd rfl he))

/-- What GetText leaves. -/
def TextPost (b : Option Addr) (cb : Nat) (full : List UInt8) (at' : Nat) (e0 most : Int) (w : World) (e : Ending) (w' : World) : Prop :=
  ∃ (out : List UInt8) (at2 : Nat) (e2 : Int) (v : Value), textS most (full.drop at') e0 = (out, full.drop at2, e2) ∧ at2 ≤ full.length ∧ e = .returned (.tuple #[.agg #[.slice b full.length cb, .int .i64 at2, .int .i64 e2], v]) ∧ Row w' v out ∧ Kp [] w w' ∧ ∀ k ∈ own v, w.heap.size ≤ k

end Go.Proofs.YtpbogplmkenegabDoor
end

section
namespace Go.Proofs.YtpbogplmkenegabDoor
open Go.RowKit Go.Hay
set_option linter.unusedVariables false

theorem Box3.drew {w : World} {q : Nat} {a b c : Value} (h : Box3 w q a b c) : Box3 w.drew q a b c := ⟨h.c0, h.c1, h.c2, h.free⟩
theorem gv_big (f : UInt8) (r : List UInt8) (n : Int) (k : Nat) (hf : 253 ≤ f.toNat) (hk : behindI f.toNat = (k : Int)) (hl : k ≤ r.length) (hn : n = num (r.take k)) :
    ((varB n).length = 1 + k → fv (f :: r) = (n, ((1 + k : Nat) : Int), 0)) ∧ ((varB n).length ≠ 1 + k → ∀ m, varS m (f :: r) 0 = (0, f :: r, 11)) := by
  have hf2 := f.toNat_lt
  have h0 : 0 ≤ n := by omega
  have hkp : behindI f.toNat ≠ 0 := by unfold behindI; repeat (first | split | omega)
  have hlen := varB_len n
  have hiff := lead_of_behind n f.toNat h0 hf (by omega)
  rw [hk] at hiff hkp
  have e : fv (f :: r) = if leadI n ≠ f.toNat then (0, 0, 11) else (n, 1 + (k : Int), 0) := by
    simp only [fv, hk, Int.toNat_natCast]
    rw [if_neg hkp, if_neg (by omega), ← hn]
  refine ⟨fun h => ?_, fun h m => ?_⟩
  · rw [e, if_neg (by rw [Decidable.not_not]; exact hiff.1 (by omega))]
    simp
  · have e' : fv (f :: r) = (0, 0, 11) := by rw [e, if_pos (fun hh => h (by have := hiff.2 hh; omega))]
    unfold varS
    rw [e']
    simp
theorem gv_short (f : UInt8) (r : List UInt8) (k : Nat) (hk : behindI f.toNat = (k : Int)) (hk0 : k ≠ 0) (hl : r.length < k) (m : Int) : varS m (f :: r) 0 = (0, f :: r, 10) := by
  unfold varS
  simp only [fv, hk]
  rw [if_neg (show ¬ ((k : Int) = 0) by omega), if_pos (show (r.length : Int) < k by omega)]
  simp

/-- What GetVar leaves. -/
def GetVarPost (b : Option Addr) (cb : Nat) (full : List UInt8) (at' : Nat) (e0 most : Int) (neg : Bool) (w : World) (e : Ending) (w' : World) : Prop :=
  ∃ (n : Int) (at2 : Nat) (e2 : Int), gvS most neg (full.drop at') e0 = (n, full.drop at2, e2) ∧ 0 ≤ n ∧ n < 18446744073709551616 ∧ at2 ≤ full.length ∧ e = .returned (.tuple #[.agg #[.slice b full.length cb, .int .i64 at2, .int .i64 e2], .int .u64 n]) ∧ Kp [] w w'

end Go.Proofs.YtpbogplmkenegabDoor
end

section
namespace Go.Proofs.YtpbogplmkenegabDoor
open Go.RowKit Go.Hay
set_option linter.unusedVariables false

end Go.Proofs.YtpbogplmkenegabDoor
end

section
namespace Go.Proofs.YtpbogplmkenegabDoor
open Go.RowKit Go.Hay
set_option linter.unusedVariables false
set_option linter.unusedSimpArgs false

/-- So many texts of 16777216 bytes at most, up to the first that fails. -/
def lstS : Nat → List UInt8 → Int → List (List UInt8) × List UInt8 × Int
  | 0, bs, e => ([], bs, e)
  | n + 1, bs, e => if e ≠ 0 then ([], bs, e) else if (textS 16777216 bs e).2.2 = 0 then ((textS 16777216 bs e).1 :: (lstS n (textS 16777216 bs e).2.1 0).1, (lstS n (textS 16777216 bs e).2.1 0).2) else ([], (textS 16777216 bs e).2)
theorem lstS_err (n : Nat) (bs : List UInt8) (e : Int) (h : e ≠ 0) : lstS n bs e = ([], bs, e) := by
  cases n with
  | zero => rfl
  | succ n => rw [lstS, if_pos h]
theorem lstS_good (n : Nat) (bs bs' out : List UInt8) (h : textS 16777216 bs 0 = (out, bs', 0)) : lstS (n + 1) bs 0 = (out :: (lstS n bs' 0).1, (lstS n bs' 0).2) := by
  rw [lstS, if_neg (by simp), h, if_pos rfl]
theorem lstS_bad (n : Nat) (bs bs' out : List UInt8) (e : Int) (he : e ≠ 0) (h : textS 16777216 bs 0 = (out, bs', e)) : lstS (n + 1) bs 0 = ([], bs', e) := by
  rw [lstS, if_neg (by simp), h, if_neg he]

theorem varB_some (n : Int) : 0 < (varB n).length := by
  unfold varB
  repeat' split
  all_goals simp
theorem textS_shorter {bs bs' out : List UInt8} (h : textS 16777216 bs 0 = (out, bs', 0)) : bs'.length < bs.length := by
  obtain ⟨⟨n, r, e1⟩, hc⟩ : ∃ c, varS 16777216 bs 0 = c := ⟨_, rfl⟩
  have hcs := varS_cases 16777216 bs (by omega) hc
  have hcc : countS 16777216 bs 0 = (n, r, e1) := by unfold countS; rw [if_pos (by omega)]; exact hc
  unfold textS at h
  rw [hcc] at h
  dsimp only at h
  split at h
  · rename_i h1
    exact absurd (congrArg (fun x => x.2.2) h) h1
  · unfold rawS at h
    rw [if_neg (by omega)] at h
    obtain ⟨he, _, _, hb'⟩ := takeS_ok _ _ _ h
    have h2 := (hcs.2.2.2.2 he).2
    have h3 := varB_some n
    rw [h2, List.length_take] at h3
    have := congrArg List.length hb'
    rw [List.length_drop] at this
    omega

theorem textS_same {bs bs' out : List UInt8} {e e' : Int} (h : textS 16777216 bs e = (out, bs', e')) (he : e' ≠ 0) : bs' = bs := by
  unfold textS at h
  split at h
  · cases h; rfl
  · rename_i h1
    rw [h] at h1
    exact absurd he h1

theorem RowL.low {m n0 : Nat} {w : World} {v : Value} {L : List (List UInt8)} (h : RowL n0 w v L) (hm : m ≤ n0) : RowL m w v L := by
  obtain ⟨vs, hvl, hs, hfr, hel⟩ := h
  exact ⟨vs, hvl, hs, fun k hk => Nat.le_trans hm (hfr k hk), fun j y ob hy hob => ⟨(hel j y ob hy hob).1, fun k hk => ⟨Nat.le_trans hm ((hel j y ob hy hob).2 k hk).1, ((hel j y ob hy hob).2 k hk).2⟩⟩⟩
end Go.Proofs.YtpbogplmkenegabDoor
end

section
namespace Go.Hay
open Go.RowKit
set_option linter.unusedVariables false

variable {F : Fence} {n : Nat} {P : Program} {σ α : Type}

/-- What an iterator that stands at some s of σ promises: it hands on things x (as encs x), each behind a step T of its own, which may turn memory; a round that goes on takes it from s to nx s x and keeps what K says; S: it is at its end; Sp: a round has said 'no more'. -/
def SeqT (F : Fence) (n : Nat) (P : Program) (g : Nat) (lb : Array Value) (encs : α → Array Value) (T : σ → σ → World → World → Prop) (K : World → World → Prop) (ok : σ → α → Prop) (nx : σ → α → σ) (S Sp : σ → Prop) (s0 : σ) (w : World) : Prop :=
  ∀ (l : Nat) (J Jx : σ → World → Prop) (W : World), K w W → (∀ s s' A B, J s A → T s s' A B → J s' B) →
    (∀ s x A, J s A → ok s x → YieldAt F (n - 1) P l (encs x) A fun e A' => (e = .returned (.bool true) ∧ J (nx s x) A' ∧ K A A') ∨ (e = .returned (.bool false) ∧ Jx (nx s x) A')) →
    J s0 W → CallsIn F n P g (#[.func (.yield l) #[] #[]] ++ lb) W fun e A' => (∃ v, e = .returned v) ∧ ((∃ s, S s ∧ J s A') ∨ (∃ s, Sp s ∧ Jx s A'))

/-- How a round's body may be left: B: from which block on whatever is no cells must lie as it lay. -/
def leftT (B : Nat) (K : World → World → Prop) (I : σ → World → Prop) (Ix : Code → σ → World → Prop) (s : σ) (W : World) : Exit → Act → World → Prop
  | .normal, _, W' => KeepsFrom B W W' ∧ K W W' ∧ I s W'
  | .ret, _, W' => KeepsFrom B W W' ∧ Ix .ret s W'
  | .exit id, _, W' => KeepsFrom B W W' ∧ Ix (.exit id) s W'
  | .goto t, _, W' => KeepsFrom B W W' ∧ Ix (.goto t) s W'
  | _, _, _ => False

/-- The law. -/
theorem wpRangeT {g : Operand} {ps : Array Tmp} {assign body : Code} {Q : Exit → Act → World → Prop} {a : Act} {w : World}
    (hro : F.round = none) (h1 : 1 ≤ n) {gf : Nat} {lb : Array Value} (hg : a.eval g = .func (.func gf) #[] lb) (hFg : F.fn gf) (eg : ∀ args w, (callFunc gf args).run P w = .ok (.enter gf args) w)
    {encs : α → Array Value} {T : σ → σ → World → World → Prop} {K : World → World → Prop} {ok : σ → α → Prop} {nx : σ → α → σ} {S Sp : σ → Prop} {s0 : σ} {w0 : World}
    (hseq : SeqT F (n - 1) P gf lb encs T K ok nx S Sp s0 w0) (hps : ∀ x, (encs x).size = ps.size)
    (hKt : ∀ {A B C : World}, K A B → K B C → K A C) (hKa : ∀ W o, K W (W.alloc o)) (hKb : ∀ (W : World) (l : Nat) (o o' : Obj), w.heap.size ≤ l → W.heap[l]? = some o → o.isCells = false → K W (W.putObj l o')) (hb0 : K w0 w)
    (hTk : ∀ s s' A B, T s s' A B → KeepsFrom w.heap.size A B)
    (I : σ → World → Prop) (Ix : Code → σ → World → Prop) (hI : OwnFrom w.heap.size I) (hIx : ∀ c, OwnFrom w.heap.size (Ix c)) (hIT : ∀ s s' A B, I s A → T s s' A B → I s' B) (h0 : I s0 w)
    (a₁ : α → Act) (hassign : ∀ (l : Nat) (x : α) (W : World) (C : Act → World → Prop), C (a₁ x) W →
      assign.wpIn (F.inRound l) (n - 1 - 1) P (Exit.then C (fun _ _ _ => False)) { tmps := (ps.zip (encs x)).foldl (fun t (p, v) => t.setIfInBounds p v) a.tmps, defers := [] } W)
    (hbody : ∀ (l : Nat) (s : σ) (x : α) (W : World), I s W → ok s x → body.wpIn (F.inRound l) (n - 1 - 1) P (leftT w.heap.size K I Ix (nx s x) W) (a₁ x) W)
    (hdone : ∀ (D : Nat) (s : σ) (W : World), w.heap.size ≤ D → S s → I s W → W.heap[D]? = some (.deferred (some [])) → Q .normal { a with defers := { target := .collected D, args := #[] } :: a.defers } W)
    (hstop : ∀ (D : Nat) (c : Code) (s : σ) (W : World), w.heap.size ≤ D → Sp s → Ix c s W → W.heap[D]? = some (.deferred (some [])) → c.wpIn F n P Q { a with defers := { target := .collected D, args := #[] } :: a.defers } W) :
    (Code.rangeFunc g ps assign body).wpIn F n P Q a w := by
  refine wpIn_rangeFunc fun fn hfn => ?_
  rw [hro]
  -- the loop's record, as it may stand
  let R : LoopState → Option Code → Obj := fun st pe => .loop { state := st, pending := pe, fn, tmps := a.tmps, params := ps, assign, body, defers := w.heap.size }
  let Bk : LoopState → Option Code → World → Prop := fun st pe W => W.heap[w.heap.size + 1]? = some (R st pe) ∧ W.heap[w.heap.size]? = some (.deferred (some []))
  have bkK : ∀ {st pe A B}, KeepsFrom w.heap.size A B → Bk st pe A → Bk st pe B := fun hk hb => ⟨hk.same _ _ (by omega) hb.1 rfl, hk.same _ _ (Nat.le_refl _) hb.2 rfl⟩
  have bkP : ∀ {st pe st' pe' A}, Bk st pe A → Bk st' pe' (A.putObj (w.heap.size + 1) (R st' pe')) := fun hb =>
    ⟨World.putObj_heap_same (Array.getElem?_eq_some_iff.1 hb.1).1, (World.putObj_heap_other (by omega)).trans hb.2⟩
  have iP : ∀ {st pe s A} (o : Obj), Bk st pe A → I s A → I s (A.putObj (w.heap.size + 1) o) := fun o hb hi => hI.putObj o hi (by omega) hb.1 rfl
  have ixP : ∀ {st pe s c A} (o : Obj), Bk st pe A → Ix c s A → Ix c s (A.putObj (w.heap.size + 1) o) := fun o hb hi => (hIx _).putObj o hi (by omega) hb.1 rfl
  have kP : ∀ {st pe A} (o : Obj), Bk st pe A → K A (A.putObj (w.heap.size + 1) o) := fun o hb => hKb _ _ _ _ (by omega) hb.1 rfl
  have b0 : Bk .ready none ((w.alloc (.deferred (some []))).alloc (R .ready none)) :=
    ⟨by have := World.alloc_heap_new (w.alloc (.deferred (some []))) (R .ready none); rwa [World.size_alloc] at this, (Below.heap_alloc _ _ _ (by simp)).trans (World.alloc_heap_new w _)⟩
  refine ⟨w.heap.size + 1, [{ target := .collected w.heap.size, args := #[] }], ((w.alloc (.deferred (some []))).alloc (R .ready none)), { target := .fn (.func gf) lb, args := #[.func (.yield (w.heap.size + 1)) #[] #[]] }, ((w.alloc (.deferred (some []))).alloc (R .ready none)), gf, #[.func (.yield (w.heap.size + 1)) #[] #[]] ++ lb, ((w.alloc (.deferred (some []))).alloc (R .ready none)),
    run_enterLoop_outer _ _ _ _ _, by simp only [resolve, hg]; simp [go_sem], fun f' hf' => by simp [Target.leads] at hf'; subst hf'; exact hFg, by simp [invoke, go_sem, eg], fun _ => h1, ?_⟩
  refine (hseq (w.heap.size + 1) (fun s A => I s A ∧ Bk .ready none A) (fun s A => ∃ c, Ix c s A ∧ Bk .done (some c) A) _ (hKt hb0 (hKt (hKa _ _) (hKa _ _)))
    (fun s s' A B hs ht => ⟨hIT s s' A B hs.1 ht, bkK (hTk s s' A B ht) hs.2⟩) ?_ ⟨hI.alloc _ (hI.alloc _ h0), b0⟩).mono ?_
  · -- one round
    rintro s x A ⟨hi, hb⟩ hok
    refine ⟨fn, _, assign, body, run_yield hb.1 (hps x), roundIn_of_wpIn hfn (hassign _ x A _ ⟨_, run_beginRound hb.1 rfl, ?_⟩)⟩
    have hb2 : Bk .busy none (A.putObj (w.heap.size + 1) (R .busy none)) := bkP hb
    refine wpIn_mono (hbody _ s x _ (iP _ hb hi) hok) ?_
    rintro e a3 W3 hp
    cases e with
    | normal =>
      have hb3 := bkK hp.1 hb2
      exact ⟨_, _, run_endRound none hb3.1, .inl ⟨rfl, ⟨iP _ hb3 hp.2.2, bkP hb3⟩, hKt (kP _ hb) (hKt hp.2.1 (kP _ hb3))⟩⟩
    | ret => have hb3 := bkK hp.1 hb2; exact ⟨_, _, run_endRound (some .ret) hb3.1, .inr ⟨rfl, .ret, ixP _ hb3 hp.2, bkP hb3⟩⟩
    | exit id => have hb3 := bkK hp.1 hb2; exact ⟨_, _, run_endRound (some (.exit id)) hb3.1, .inr ⟨rfl, .exit id, ixP _ hb3 hp.2, bkP hb3⟩⟩
    | goto t => have hb3 := bkK hp.1 hb2; exact ⟨_, _, run_endRound (some (.goto t)) hb3.1, .inr ⟨rfl, .goto t, ixP _ hb3 hp.2, bkP hb3⟩⟩
    | panic ch => exact hp.elim
    | outgrown => exact hp.elim
  · -- behind the iterator
    rintro e A ⟨⟨v, rfl⟩, (⟨s, hS, hi, hb⟩ | ⟨s, hSp, c, hi, hb⟩)⟩
    · exact ⟨none, _, run_endLoop hb.1 (by simp), hdone _ s _ (Nat.le_refl _) hS (iP _ hb hi) ((World.putObj_heap_other (by omega)).trans hb.2)⟩
    · exact ⟨some c, _, run_endLoop hb.1 (by simp), hstop _ c s _ (Nat.le_refl _) hSp (ixP _ hb hi) ((World.putObj_heap_other (by omega)).trans hb.2)⟩
end Go.Hay
end

section
namespace Go.Proofs.YtpbogplmkenegabDoor
open Go.RowKit Go.Hay Go.Shelf
attribute [local go_sem] Oper.semAt_some
set_option linter.unusedVariables false
set_option linter.unusedSimpArgs false

/-- How the iterator stands: so many things given, so many left, the reader's bytes and error, whether it has begun, the thing at hand. -/
structure St where
  k : Nat
  m : Nat
  bs : List UInt8
  e : Int
  go : Bool
  pend : Option (Value × List UInt8)
/-- Blocks that are not turned. -/
def Away (Js : List Nat) (A B : World) : Prop := ∃ S, Kp S A B ∧ ∀ j ∈ Js, j ∉ S
theorem Away.trans {Js : List Nat} {A B C : World} (h : Away Js A B) (k : Away Js B C) : Away Js A C := by
  obtain ⟨S, h1, h2⟩ := h
  obtain ⟨S', k1, k2⟩ := k
  exact ⟨S ++ S', (h1.mono (T := S ++ S') (fun x hx => .inl (by simp [hx]))).trans k1 (fun x hx => .inl (by simp [hx])), fun j hj hm => by rcases List.mem_append.1 hm with h | h; exact h2 j hj h; exact k2 j hj h⟩
theorem Away.alloc (Js : List Nat) (W : World) (o : Obj) : Away Js W (W.alloc o) := ⟨[], (Kp.refl _ _).alloc _, fun _ _ h => by cases h⟩
theorem Away.putObj {Js : List Nat} {B : Nat} (hB : ∀ j ∈ Js, j < B) (W : World) (l : Nat) (o : Obj) (hl : B ≤ l) : Away Js W (W.putObj l o) :=
  ⟨[l], ⟨rfl, rfl, rfl, by simp, fun k hk hn => World.putObj_heap_other (by simpa using hn)⟩, fun j hj hm => by have := hB j hj; simp at hm; omega⟩
theorem Away.rd {Js : List Nat} {A B : World} {p : Nat} {D : List Nat} {bs : List UInt8} {e : Int} (h : Away Js A B) (hr : Rd A p D bs e) (hp : p ∈ Js) (hD : ∀ k ∈ D, k ∈ Js) : Rd B p D bs e := by
  obtain ⟨S, h1, h2⟩ := h
  exact hr.kept h1 (h2 p hp) (fun k hk => h2 k (hD k hk))
theorem Away.cell {Js : List Nat} {A B : World} {q : Nat} {v : Value} (h : Away Js A B) (hq : q ∈ Js) (hc : A.cell? ⟨q, 0, none⟩ = some v) : B.cell? ⟨q, 0, none⟩ = some v := by
  obtain ⟨S, h1, h2⟩ := h
  exact (h1.cell (p := ⟨q, 0, none⟩) (World.block_lt_of_cell? _ _ hc) (h2 q hq)).trans hc
/-- A step of the iterator's own: it has counted; or it has read a thing. -/
def Turn (p : Nat) (D : List Nat) (most : Int) (s s' : St) (A B : World) : Prop :=
  Kp [p] A B ∧ Rd B p D s'.bs s'.e ∧
  ((s.go = false ∧ ∃ n, countS most s.bs s.e = (n, s'.bs, s'.e) ∧ 0 ≤ n ∧ s' = ⟨s.k, n.toNat, s'.bs, s'.e, true, none⟩) ∨
   (s.go = true ∧ s.pend = none ∧ s.e = 0 ∧ 0 < s.m ∧ ∃ v out, textS 16777216 s.bs 0 = (out, s'.bs, s'.e) ∧ s' = ⟨s.k, s.m, s'.bs, s'.e, true, some (v, out)⟩ ∧ Row B v out ∧ ∀ j ∈ own v, A.heap.size ≤ j))
/-- Behind a round. -/
def St.nx (s : St) (x : Nat × Value × List UInt8) : St := ⟨s.k + 1, s.m - 1, s.bs, s.e, s.go, none⟩

theorem textS_le {bs bs' out : List UInt8} {e' : Int} (h : textS 16777216 bs 0 = (out, bs', e')) : bs'.length ≤ bs.length := by
  by_cases he : e' = 0
  · subst he; exact Nat.le_of_lt (textS_shorter h)
  · rw [textS_same h he]; exact Nat.le_refl _

set_option maxHeartbeats 8000000 in
set_option maxRecDepth 100000 in
theorem itemsSeq (n : Nat) (hn : 1 ≤ n) (p q1 q2 q3 : Nat) (D : List Nat) (most : Int) (hm0 : -9223372036854775808 ≤ most) (hm1 : most ≤ 9223372036854775807) (full : List UInt8) (e0 : Int) (w : World)
    (h1 : w.cell? ⟨q1, 0, none⟩ = some (.pointer (some ⟨p, 0, none⟩))) (h2 : w.cell? ⟨q2, 0, none⟩ = some (.int .i64 most)) (h3 : w.cell? ⟨q3, 0, none⟩ = some (.func (.func 35) #[] #[])) (hr : Rd w p D full e0)
    (hq : p ≠ q1 ∧ p ≠ q2 ∧ p ≠ q3) (hb : ∀ N bs1 e1, countS most full e0 = (N, bs1, e1) → bs1.length ≤ 200000000000000) :
    SeqT Fence.wide n Tryd.prog 48 #[.pointer (some ⟨q1, 0, none⟩), .pointer (some ⟨q2, 0, none⟩), .pointer (some ⟨q3, 0, none⟩)] (fun x : Nat × Value × List UInt8 => #[.int .i64 x.1, x.2.1]) (Turn p D most) (Away (p :: q1 :: q2 :: q3 :: D))
      (fun s x => s.e = 0 ∧ s.pend = some (x.2.1, x.2.2) ∧ x.1 = s.k) St.nx (fun s => s.go = true ∧ ((s.m = 0 ∧ s.pend = none) ∨ s.e ≠ 0)) (fun s => s.go = true ∧ s.e = 0 ∧ s.pend = none) ⟨0, 0, full, e0, false, none⟩ w := by
  intro l J Jx W hW hT hY h0
  have g1 := hW.cell (by simp) h1
  have g2 := hW.cell (by simp) h2
  have g3 := hW.cell (by simp) h3
  have gr := hW.rd hr (by simp) (fun k hk => by simp [hk])
  have hcells : ∀ {A B : World}, Kp [p] A B → A.cell? ⟨q1, 0, none⟩ = some (.pointer (some ⟨p, 0, none⟩)) → A.cell? ⟨q2, 0, none⟩ = some (.int .i64 most) → A.cell? ⟨q3, 0, none⟩ = some (.func (.func 35) #[] #[]) →
      B.cell? ⟨q1, 0, none⟩ = some (.pointer (some ⟨p, 0, none⟩)) ∧ B.cell? ⟨q2, 0, none⟩ = some (.int .i64 most) ∧ B.cell? ⟨q3, 0, none⟩ = some (.func (.func 35) #[] #[]) := fun hk a b c =>
    ⟨(hk.cell (World.block_lt_of_cell? _ _ a) (by simp; omega)).trans a, (hk.cell (World.block_lt_of_cell? _ _ b) (by simp; omega)).trans b, (hk.cell (World.block_lt_of_cell? _ _ c) (by simp; omega)).trans c⟩
  clear h1 h2 h3 hr hW
  refine callsIn_of_wp Tryd.func48 rfl trivial ?_ rfl
  simp only [Tryd.ntmps48, List.size_toArray, List.length_cons, List.length_nil, Nat.reduceAdd, Nat.reduceSub, Array.replicate_succ, Array.replicate_zero, List.push_toArray, List.append_toArray, List.nil_append, List.cons_append]
  gi_wp2_with fail
  refine ⟨trivial, (callsIn_wide.2 (rCount p D full e0 most W gr hm0 hm1)).mono ?_⟩
  rintro e w1 ⟨N, bs1, e1, hc, rfl, hN0, hN1, hrd, hk1⟩
  have hbl := hb N bs1 e1 hc
  have hJ1 : J ⟨0, N.toNat, bs1, e1, true, none⟩ w1 := hT _ _ _ _ h0 ⟨hk1, hrd, .inl ⟨rfl, N, hc, hN0, rfl⟩⟩
  obtain ⟨c1, c2, c3⟩ := hcells hk1 g1 g2 g3
  clear g1 g2 g3 gr hc hk1 h0 hb
  gi_wp2_with fail
  gi_loopw [10] (fun i wr => ∃ s : St, i = .int .i64 s.k ∧ s.go = true ∧ s.pend = none ∧ Hid ((s.k : Int) + s.m = N) ∧ (s.k : Int) ≤ N ∧ J s wr ∧ Rd wr p D s.bs s.e ∧ s.bs.length ≤ 200000000000000 ∧ wr.cell? ⟨q1, 0, none⟩ = some (.pointer (some ⟨p, 0, none⟩)) ∧ wr.cell? ⟨q2, 0, none⟩ = some (.int .i64 most) ∧ wr.cell? ⟨q3, 0, none⟩ = some (.func (.func 35) #[] #[])) (fun i _ => (N - intOf i).toNat)
  case atStart => exact ⟨_, rfl, rfl, rfl, by show ((0 : Nat) : Int) + (N.toNat : Nat) = N; omega, by simpa using hN0, hJ1, hrd, hbl, c1, c2, c3⟩
  case round =>
    obtain ⟨s, rfl, hgo, hpe, hkm, hkN, hJ, hR, hbs, d1, d2, d3⟩ := hrel
    by_cases hkn : (s.k : Int) < N
    · have her := hR.err
      have hplt := hR.lt
      by_cases he : s.e = 0
      · have hSh := cTakeRec p D s.bs s.e wr hR hbs
        rw [he] at her hSh
        have HE := hid he
        clear he
        gi_wp2_with fail
        refine ⟨trivial, (callsIn_wide.2 hSh).mono ?_⟩
        rintro e w2 ⟨out, bs', e', v, ht, rfl, hrow, hown, hrd2, hk2⟩
        have hmp : 0 < s.m := by have := hkm.out; omega
        have hJ2 : J ⟨s.k, s.m, bs', e', true, some (v, out)⟩ w2 := hT s _ _ _ hJ ⟨hk2, hrd2, .inr ⟨hgo, hpe, HE.out, hmp, v, out, ht, rfl, hrow, hown⟩⟩
        have hbs2 : bs'.length ≤ 200000000000000 := Nat.le_trans (textS_le ht) hbs
        obtain ⟨f1, f2, f3⟩ := hcells hk2 d1 d2 d3
        have her2 := hrd2.err
        have hplt2 := hrd2.lt
        obtain ⟨av, cv, rfl, _⟩ := hrow.shape
        clear d1 d2 d3 her hplt hSh ht hown hk2 hJ
        by_cases he2 : e' = 0
        · subst he2
          obtain ⟨fn, tmps, assign, body, hy, hRd⟩ := hY _ (s.k, .slice av out.length cv, out) w2 hJ2 ⟨rfl, rfl, rfl⟩
          dsimp only at hy
          gi_wp2_with fail
          refine hRd.mono ?_
          rintro e w3 (⟨rfl, hJ3, hk3⟩ | ⟨rfl, hJx3⟩)
          · have r3 := hk3.rd hrd2 (by simp) (fun k hk => by simp [hk])
            have x1 := hk3.cell (by simp) f1
            have x2 := hk3.cell (by simp) f2
            have x3 := hk3.cell (by simp) f3
            clear f1 f2 f3 hrow hrd2 her2 hplt2 hy
            gi_wp2_with fail
            go_roundw
            case rel => exact ⟨_, by simp [St.nx], rfl, rfl, by show (((s.k + 1 : Nat) : Int) + ((s.m - 1 : Nat) : Int)) = N; have := hkm.out; omega, by show ((s.k + 1 : Nat) : Int) ≤ N; omega, hJ3, r3, hbs2, x1, x2, x3⟩
            case measure => simp [intOf]; omega
          · gi_wp2_with fail
            refine bodyPost_ret (results_none rfl _ _ _) rfl ?_
            exact ⟨⟨_, rfl⟩, .inr ⟨_, ⟨rfl, rfl, rfl⟩, hJx3⟩⟩
        · have he' : (e' == 0) = false := by simpa using he2
          have he3 : (e' != 0) = true := by simpa using he2
          have HX := hid he2
          clear he2
          gi_wp2_with fail
          refine ⟨fun _ h => (by cases h), ?_⟩
          gi_wp2_with fail
          refine bodyPost_ret (results_none rfl _ _ _) rfl ?_
          exact ⟨⟨_, rfl⟩, .inl ⟨_, ⟨rfl, .inr HX.out⟩, hJ2⟩⟩
      · have he' : (s.e == 0) = false := by simpa using he
        have he2 : (s.e != 0) = true := by simpa using he
        have HX := hid he
        clear he
        gi_wp2_with fail
        refine bodyPost_ret (results_none rfl _ _ _) rfl ?_
        exact ⟨⟨_, rfl⟩, .inl ⟨s, ⟨hgo, .inr HX.out⟩, hJ⟩⟩
    · have hm : s.m = 0 := by have := hkm.out; omega
      gi_wp2_with fail
      go_end0
      exact ⟨⟨_, rfl⟩, .inl ⟨s, ⟨hgo, .inl ⟨hm, hpe⟩⟩, hJ⟩⟩
end Go.Proofs.YtpbogplmkenegabDoor
end

section
namespace Go.Proofs.YtpbogplmkenegabDoor
open Go.RowKit Go.Hay
set_option linter.unusedVariables false
set_option linter.unusedSimpArgs false

/-- None of these blocks holds cells. -/
def NoC (S : List Nat) (W : World) : Prop := ∀ r ∈ S, ∃ o : Obj, W.heap[r]? = some o ∧ o.isCells = false
theorem NoC.out {S : List Nat} {W : World} (h : NoC S W) {a : Addr} (hc : (W.cell? a).isSome = true) : a.block ∉ S := fun hm => by
  obtain ⟨o, ho, hn⟩ := h _ hm
  unfold World.cell? at hc
  rw [ho] at hc
  cases o <;> simp_all [Obj.isCells]
theorem kpOfGrown {W W' : World} {row : Option Nat} (hg : W.grownBy W' row) : Kp row.toList W W' :=
  ⟨hg.os, hg.tape, hg.output, hg.size, fun k hk hn => hg.block k hk (fun e => hn (by simp [← e]))⟩
theorem nocOf {W : World} {row : Option Nat} {B : Nat} (hr : ∀ r, row = some r → B ≤ r ∧ ∃ o : Obj, W.heap[r]? = some o ∧ o.isCells = false) : NoC row.toList W := fun r hm => (hr r (by simpa [Option.mem_toList] using hm)).2
theorem cellN {S : List Nat} {W W' : World} (hk : Kp S W W') (hn : NoC S W) {a : Addr} {v : Value} (hc : W.cell? a = some v) : W'.cell? a = some v :=
  (hk.cell (World.block_lt_of_cell? _ _ hc) (hn.out (by rw [hc]; rfl))).trans hc
theorem frozenN {S : List Nat} {W W' : World} (hk : Kp S W W') (hn : NoC S W) {a : Addr} (hc : (W.cell? a).isSome = true) : W'.frozen? a = W.frozen? a := by
  obtain ⟨v, hv⟩ := Option.isSome_iff_exists.1 hc
  exact hk.frozen (World.block_lt_of_cell? _ _ hv) (hn.out hc)
theorem someN {S : List Nat} {W W' : World} (hk : Kp S W W') (hn : NoC S W) {a : Addr} (hc : (W.cell? a).isSome = true) : (W'.cell? a).isSome = true := by
  obtain ⟨v, hv⟩ := Option.isSome_iff_exists.1 hc
  rw [cellN hk hn hv]; rfl
theorem rowN {S : List Nat} {W W' : World} (hk : Kp S W W') (hn : NoC S W) {v : Value} {bs : List UInt8} (h : Row W v bs) : Row W' v bs := by
  rcases h with h | ⟨g, o, cap, rfl, hl, hm, hg, hc, ht⟩
  · exact .inl h
  · exact .inr ⟨g, o, cap, rfl, hl, hm, Nat.lt_of_lt_of_le hg hk.size, fun j u hu => cellN hk hn (hc j u hu), fun j hj => ⟨someN hk hn (ht j hj).1, (frozenN hk hn (ht j hj).1).trans (ht j hj).2⟩⟩
theorem seesN {S : List Nat} {W W' : World} (hk : Kp S W W') (hn : NoC S W) {a : Option Addr} {bs : List UInt8} (h : Sees W a bs) : Sees W' a bs := by
  rcases h with h | ⟨g, o, h, hc⟩
  · exact .inl h
  · exact .inr ⟨g, o, h, fun j u hu => cellN hk hn (hc j u hu)⟩
theorem rdN {S : List Nat} {W W' : World} (hk : Kp S W W') (hn : NoC S W) {p : Nat} {D : List Nat} {bs : List UInt8} {e : Int} (h : Rd W p D bs e) : Rd W' p D bs e := by
  obtain ⟨a, c, h1, h2, h3, h4, h5⟩ := h.left
  exact ⟨⟨a, c, cellN hk hn h1, h2, h3, seesN hk hn h4, h5⟩, cellN hk hn h.err, (frozenN hk hn (by rw [h1]; rfl)).trans h.free0, (frozenN hk hn (by rw [h.err]; rfl)).trans h.free1, h.apart, fun k hk' => Nat.lt_of_lt_of_le (h.dlt k hk') hk.size⟩
theorem rowSN {S : List Nat} {W W' : World} (hk : Kp S W W') (hn : NoC S W) {v : Value} {vs : List Value} (h : RowS W v vs) : RowS W' v vs := by
  rcases h with h | ⟨g, o, cap, rfl, hl, hm, hg, hc, ht⟩
  · exact .inl h
  · exact .inr ⟨g, o, cap, rfl, hl, hm, Nat.lt_of_lt_of_le hg hk.size, fun j u hu => cellN hk hn (hc j u hu), fun j hj => ⟨someN hk hn (ht j hj).1, (frozenN hk hn (ht j hj).1).trans (ht j hj).2⟩⟩
theorem rowLN {S : List Nat} {W W' : World} (hk : Kp S W W') (hn : NoC S W) {n0 : Nat} {v : Value} {L : List (List UInt8)} (h : RowL n0 W v L) : RowL n0 W' v L := by
  obtain ⟨vs, hvl, hs, hfr, hel⟩ := h
  exact ⟨vs, hvl, rowSN hk hn hs, hfr, fun j y ob hy hob => ⟨rowN hk hn (hel j y ob hy hob).1, (hel j y ob hy hob).2⟩⟩

theorem newCell (w : World) (v : Value) (t : TypeId) {q : Nat} (hq : w.heap.size = q) : (w.alloc (.cells #[v] t)).cell? ⟨q, 0, none⟩ = some v := by subst hq; exact World.cell?_alloc_new w _ _ 0
theorem oldCell {w : World} {a : Addr} {v : Value} (h : w.cell? a = some v) (o : Obj) : (w.alloc o).cell? a = some v := (World.cell?_alloc_lt _ _ _ (World.block_lt_of_cell? _ _ h)).trans h
/-- What Items hands back: a closure over three boxes. -/
theorem cItems (p : Nat) (most : Int) (w : World) : Calls Tryd.prog 34 #[.pointer (some ⟨p, 0, none⟩), .int .i64 most, .func (.func 35) #[] #[]] w fun e w' =>
    e = .returned (.func (.func 48) #[] #[.pointer (some ⟨w.heap.size, 0, none⟩), .pointer (some ⟨w.heap.size + 1, 0, none⟩), .pointer (some ⟨w.heap.size + 2, 0, none⟩)]) ∧ Kp [] w w' ∧ w'.heap.size = w.heap.size + 3 ∧
    w'.cell? ⟨w.heap.size, 0, none⟩ = some (.pointer (some ⟨p, 0, none⟩)) ∧ w'.cell? ⟨w.heap.size + 1, 0, none⟩ = some (.int .i64 most) ∧ w'.cell? ⟨w.heap.size + 2, 0, none⟩ = some (.func (.func 35) #[] #[]) := by
  go_enter Tryd.func34, Tryd.ntmps34
  go_wp2_with fail
  go_ret
  refine ⟨rfl, (((Kp.refl _ _).alloc _).alloc _).alloc _, by simp, oldCell (oldCell (newCell _ _ _ rfl) _) _, oldCell (newCell _ _ _ (by simp)) _, newCell _ _ _ (by simp)⟩
end Go.Proofs.YtpbogplmkenegabDoor
end

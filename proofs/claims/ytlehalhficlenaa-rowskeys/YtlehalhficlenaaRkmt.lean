/- Plain mathematics: rows, keys and their bytes, back and forth; unlike rows have unlike bytes. -/
import Derived.Test.YtlehalhficlenaaRkdf
import Derived.Test.YtlehalhficlenaaRmth
import Derived.Test.YtlehalhficlenaaVmr
namespace Go.Proofs.Ytlehalhficlenaa
open Go.RowKit Go.Hay
set_option linter.unusedVariables false
set_option linter.unusedSimpArgs false

theorem escK_cons (c : UInt8) (t : List UInt8) : escK (c :: t) = (if c = 0 then [0, 255] else [c]) ++ escK t := by simp [escK]
theorem scan_put : ∀ (t r : List UInt8), scanK (escK t ++ 0 :: 0 :: r) = some (t, (escK t).length + 2)
  | [], r => by simp [escK, scanK]
  | c :: t, r => by
    have ih := scan_put t r
    rw [escK_cons]
    by_cases hc : c = 0
    · subst hc
      rw [if_pos rfl, List.append_assoc]
      simp only [List.cons_append, List.nil_append]
      rw [scanK, if_neg (by decide), if_neg (by decide), if_pos (by decide), ih]
      simp
    · rw [if_neg hc, List.append_assoc]
      simp only [List.cons_append, List.nil_append]
      have hn : c.toNat ≠ 0 := fun h => hc (UInt8.toNat_inj.1 h)
      obtain ⟨d, s, hds⟩ : ∃ d s, escK t ++ 0 :: 0 :: r = d :: s := by
        cases he : escK t with
        | nil => exact ⟨0, 0 :: r, rfl⟩
        | cons d s => exact ⟨d, s ++ 0 :: 0 :: r, rfl⟩
      rw [hds] at ih ⊢
      rw [scanK, if_pos hn, ih]
      simp
theorem fixB_head (x : Val) (add : Int) : ∃ f s, fixB x add = f :: s ∧ f.toNat ≠ 3 := by
  unfold fixB
  split
  · exact ⟨_, _, rfl, by decide⟩
  · split
    · exact ⟨_, _, rfl, by decide⟩
    · exact ⟨_, _, rfl, by decide⟩
theorem keyF_put (x : Val) (h : x.right = true) (hi : x.in64) (r : List UInt8) : keyF (keyB x ++ r) = (x, (keyB x).length) := by
  by_cases h3 : x.k = 3
  · obtain ⟨e, h6⟩ := right3 h h3
    generalize x.t = t at *
    rw [e]
    have hl : t.data.toList.length = t.size := by simp
    simp only [keyB, List.cons_append, List.append_assoc, List.nil_append, if_true, keyF]
    rw [if_pos (by decide), scan_put]
    simp only [short, Option.bind_some]
    rw [if_pos (by omega)]
    simp [textV]
    omega
  · have e : keyB x = fixB x 9223372036854775808 := by unfold keyB; rw [if_neg h3]
    rw [e]
    have := fixF_put x h hi h3 9223372036854775808 r
    obtain ⟨f, s, hfs, hf⟩ := fixB_head x 9223372036854775808
    rw [hfs] at this ⊢
    rw [List.cons_append] at this ⊢
    simp only [keyF, if_neg hf]
    exact this
theorem keyB_cons {x : Val} : ∃ f s, keyB x = f :: s := by
  unfold keyB
  split
  · exact ⟨_, _, rfl⟩
  · obtain ⟨f, s, h, _⟩ := fixB_head x 9223372036854775808
    exact ⟨f, s, h⟩
theorem unkL_put : ∀ (l : List Val) (m : Nat), l.length ≤ m → allR l = true → (∀ x ∈ l, x.in64) → unkL m (keysB l) = some l
  | [], m, _, _, _ => by unfold keysB; exact unkL_nil m
  | x :: l, 0, hm, _, _ => by simp at hm
  | x :: l, m + 1, hm, h, hi => by
    unfold allR at h
    rw [List.all_cons, Bool.and_eq_true] at h
    have ih := unkL_put l m (by simpa using hm) h.2 (fun y hy => hi y (by simp [hy]))
    have e : keysB (x :: l) = keyB x ++ keysB l := by simp [keysB]
    obtain ⟨f, s, hfs⟩ := keyB_cons (x := x)
    have hk := keyF_put x h.1 (hi x (by simp)) (keysB l)
    have hlen : (keyB x).length ≠ 0 := by rw [hfs]; simp
    rw [e]
    have hd : (keyB x ++ keysB l).drop (keyB x).length = keysB l := List.drop_left
    generalize hg : keyB x ++ keysB l = z at *
    cases z with
    | nil => rw [hfs] at hg; simp at hg
    | cons z0 z1 =>
      rw [unkL, hk]
      simp only
      rw [if_neg hlen, hd, ih]
      rfl
theorem unkS_put (l : List Val) (h : okR l = true) (hi : ∀ x ∈ l, x.in64) : unkS (keysB l) = (l, 0) := by
  unfold unkS
  rw [unkL_put l 16 (okR_len h) (okR_all h) hi]
  rfl

theorem u8_of {f : UInt8} {n : Nat} (g : UInt8) (h : f.toNat = n) (hg : g.toNat = n) : f = g := UInt8.toNat_inj.1 (h.trans hg.symm)
/-- What is read is written so. -/
theorem fixF_back (add : Int) (bs : List UInt8) (h : (fixF add bs).2 ≠ 0) : (fixF add bs).1.right = true ∧ (fixF add bs).1.k ≠ 3 ∧ fixB (fixF add bs).1 add = bs.take (fixF add bs).2 := by
  cases bs with
  | nil => simp [fixF] at h
  | cons f r =>
    by_cases h0 : f.toNat = 0
    · obtain rfl := u8_of 0 h0 rfl
      simp [fixF, nilV, Val.right, emptyL, fixB]
    by_cases h1 : f.toNat = 1
    · obtain rfl := u8_of 1 h1 rfl
      cases r with
      | nil => simp [fixF] at h
      | cons y s =>
        by_cases hy : y.toNat ≤ 1
        · have hy2 : y = 0 ∨ y = 1 := by
            rcases (by omega : y.toNat = 0 ∨ y.toNat = 1) with e | e
            · exact .inl (u8_of 0 e rfl)
            · exact .inr (u8_of 1 e rfl)
          rcases hy2 with rfl | rfl <;> simp [fixF, Val.right, emptyL, fixB]
        · simp [fixF, hy] at h
    by_cases h2 : f.toNat = 2
    · obtain rfl := u8_of 2 h2 rfl
      by_cases h8 : 8 ≤ r.length
      · have hl : (r.take 8).length = 8 := by simp; omega
        have hn := num_lt64 (r.take 8) (by omega)
        have hb := be_num (r.take 8)
        rw [hl] at hb
        have hu := u64_s64 (num (r.take 8)) add hn
        have e : fixF add (2 :: r) = (⟨2, false, wrap64 (num (r.take 8) - add), ⟨#[]⟩⟩, 9) := by simp [fixF, h8]
        rw [e]
        refine ⟨by simp [Val.right, emptyL], by simp, ?_⟩
        simp only [fixB, if_neg (by omega : ¬ (2 : Int) = 0), if_neg (by omega : ¬ (2 : Int) = 1), hu, hb, List.take_succ_cons]
      · simp [fixF, h8] at h
    · simp [fixF, h0, h1, h2] at h
theorem rowF_back (bs : List UInt8) (h : (rowF bs).2 ≠ 0) : (rowF bs).1.right = true ∧ rowB (rowF bs).1 = bs.take (rowF bs).2 := by
  cases bs with
  | nil => simp [rowF] at h
  | cons f r =>
    by_cases h3 : f.toNat = 3
    · obtain rfl := u8_of 3 h3 rfl
      cases r with
      | nil => simp [rowF] at h
      | cons y s =>
        by_cases hc : y.toNat ≤ 64 ∧ y.toNat ≤ s.length
        · have e : rowF (3 :: y :: s) = (⟨3, false, 0, ⟨(s.take y.toNat).toArray⟩⟩, 2 + y.toNat) := by simp [rowF, hc]
          have hz : (⟨(s.take y.toNat).toArray⟩ : ByteArray).size = y.toNat := by rw [textV_size]; simp; omega
          rw [e]
          refine ⟨?_, ?_⟩
          · simp only [Val.right, if_neg (by omega : ¬ (3 : Int) = 0), if_neg (by omega : ¬ (3 : Int) = 1), if_neg (by omega : ¬ (3 : Int) = 2), if_true]
            rw [hz]
            simp
            omega
          · simp only [rowB, if_true]
            rw [hz, octet_nat, show 2 + y.toNat = y.toNat + 1 + 1 by omega, List.take_succ_cons, List.take_succ_cons]
        · simp [rowF, hc] at h
    · have e : rowF (f :: r) = fixF 0 (f :: r) := by simp only [rowF, if_neg h3]
      rw [e] at h ⊢
      obtain ⟨a, b, c⟩ := fixF_back 0 (f :: r) h
      exact ⟨a, by unfold rowB; rw [if_neg b]; exact c⟩
theorem decL_back : ∀ (n : Nat) (bs : List UInt8) (l : List Val), decL n bs = some l → l.length = n ∧ allR l = true ∧ l.flatMap rowB = bs
  | 0, bs, l, h => by
    rw [decL] at h
    split at h
    · cases h; subst bs; exact ⟨rfl, rfl, rfl⟩
    · cases h
  | n + 1, bs, l, h => by
    rw [decL] at h
    by_cases h0 : (rowF bs).2 = 0
    · rw [if_pos h0] at h; cases h
    · rw [if_neg h0] at h
      obtain ⟨l', h', rfl⟩ := Option.map_eq_some_iff.1 h
      obtain ⟨a, b, c⟩ := decL_back n _ l' h'
      obtain ⟨p, q⟩ := rowF_back bs h0
      refine ⟨by simp [a], by unfold allR at *; simp [p, b], ?_⟩
      rw [List.flatMap_cons, c, q, List.take_append_drop]
theorem decS_back (bs : List UInt8) (l : List Val) (h : decS bs = (l, 0)) : okR l = true ∧ encB l = bs := by
  cases bs with
  | nil => simp [decS] at h
  | cons n r =>
    simp only [decS] at h
    split at h
    · simp at h
    · cases hd : decL n.toNat r with
      | none => rw [hd] at h; simp [decO] at h
      | some l' =>
        rw [hd] at h
        simp [decO] at h
        subst h
        obtain ⟨a, b, c⟩ := decL_back _ _ _ hd
        refine ⟨by unfold okR; rw [b]; simp; omega, ?_⟩
        unfold encB
        rw [c, a, octet_nat]
theorem scan_back : ∀ (r : List UInt8) (x : List UInt8 × Nat), scanK r = some x → escK x.1 ++ [0, 0] = r.take x.2
  | [], x, h => by simp [scanK] at h
  | [_], x, h => by simp [scanK] at h
  | c :: d :: r, x, h => by
    rw [scanK] at h
    split at h
    · obtain ⟨y, hy, rfl⟩ := Option.map_eq_some_iff.1 h
      have ih := scan_back (d :: r) y hy
      have hc : c ≠ 0 := by rintro rfl; contradiction
      simp only
      rw [escK_cons, if_neg hc, List.take_succ_cons, ← ih]
      rfl
    · have hc : c = 0 := u8_of 0 (by omega : c.toNat = 0) rfl
      subst hc
      split at h
      · have hd : d = 0 := u8_of 0 (by assumption) rfl
        subst hd
        cases h
        rfl
      · split at h
        · obtain ⟨y, hy, rfl⟩ := Option.map_eq_some_iff.1 h
          have ih := scan_back r y hy
          have hd : d = 255 := u8_of 255 (by assumption) rfl
          subst hd
          simp only
          rw [escK_cons, if_pos rfl, List.take_succ_cons, List.take_succ_cons, ← ih]
          rfl
        · cases h
theorem keyF_back (bs : List UInt8) (h : (keyF bs).2 ≠ 0) : (keyF bs).1.right = true ∧ keyB (keyF bs).1 = bs.take (keyF bs).2 := by
  cases bs with
  | nil => simp [keyF] at h
  | cons f r =>
    by_cases h3 : f.toNat = 3
    · obtain rfl := u8_of 3 h3 rfl
      have e : keyF (3 :: r) = textV (short (scanK r)) := by simp only [keyF]; rw [if_pos (by decide)]
      rw [e] at h ⊢
      cases hs : scanK r with
      | none => rw [hs] at h; simp [short, textV] at h
      | some x =>
        rw [hs] at h
        by_cases h6 : x.1.length ≤ 64
        · have e2 : short (some x) = some x := by simp [short, h6]
          rw [e2]
          have hb := scan_back r x hs
          have hz := textV_size x.1
          simp only [textV]
          refine ⟨?_, ?_⟩
          · simp only [Val.right, if_neg (by omega : ¬ (3 : Int) = 0), if_neg (by omega : ¬ (3 : Int) = 1), if_neg (by omega : ¬ (3 : Int) = 2), if_true]
            rw [hz]
            simp
            omega
          · simp only [keyB, if_true]
            rw [show 1 + x.2 = x.2 + 1 by omega, List.take_succ_cons, ← hb]
        · have e2 : short (some x) = none := by simp [short, h6]
          rw [e2] at h
          simp [textV] at h
    · have e : keyF (f :: r) = fixF 9223372036854775808 (f :: r) := by simp only [keyF, if_neg h3]
      rw [e] at h ⊢
      obtain ⟨a, b, c⟩ := fixF_back 9223372036854775808 (f :: r) h
      exact ⟨a, by unfold keyB; rw [if_neg b]; exact c⟩
theorem unkL_back : ∀ (m : Nat) (bs : List UInt8) (l : List Val), unkL m bs = some l → l.length ≤ m ∧ allR l = true ∧ keysB l = bs
  | m, [], l, h => by rw [unkL_nil] at h; cases h; exact ⟨Nat.zero_le _, rfl, rfl⟩
  | 0, _ :: _, l, h => by cases h
  | m + 1, f :: r, l, h => by
    rw [unkL] at h
    by_cases h0 : (keyF (f :: r)).2 = 0
    · rw [if_pos h0] at h; cases h
    · rw [if_neg h0] at h
      obtain ⟨l', h', rfl⟩ := Option.map_eq_some_iff.1 h
      obtain ⟨a, b, c⟩ := unkL_back m _ l' h'
      obtain ⟨p, q⟩ := keyF_back (f :: r) h0
      refine ⟨by simp; omega, by unfold allR at *; simp [p, b], ?_⟩
      have e : keysB ((keyF (f :: r)).1 :: l') = keyB (keyF (f :: r)).1 ++ keysB l' := by simp [keysB]
      rw [e, c, q, List.take_append_drop]
theorem unkS_back (bs : List UInt8) (l : List Val) (h : unkS bs = (l, 0)) : okR l = true ∧ keysB l = bs := by
  unfold unkS at h
  cases hd : unkL 16 bs with
  | none => rw [hd] at h; simp [decO] at h
  | some l' =>
    rw [hd] at h
    simp [decO] at h
    subst h
    obtain ⟨a, b, c⟩ := unkL_back _ _ _ hd
    exact ⟨by unfold okR; rw [b]; simp [a], c⟩

/-- The same, or not. -/
theorem eqv_eq {x y : Val} (h : x.eqv y = true) : x = y := by
  obtain ⟨k1, b1, n1, t1⟩ := x
  obtain ⟨k2, b2, n2, t2⟩ := y
  simp [Val.eqv] at h
  obtain ⟨rfl, rfl, rfl, ht⟩ := h
  rw [Go.Lib.toList_data, Go.Lib.toList_data] at ht
  cases t1; cases t2
  simp at ht
  rw [ht]
theorem same_eq : ∀ a b : List Val, sameV a b = true → a = b
  | [], [], _ => rfl
  | [], _ :: _, h => by cases h
  | _ :: _, [], h => by cases h
  | x :: a, y :: b, h => by
    rw [sameV, Bool.and_eq_true] at h
    rw [eqv_eq h.1, same_eq a b h.2]
theorem same_self : ∀ l : List Val, sameV l l = true
  | [] => rfl
  | x :: l => by simp only [sameV, same_self l]; unfold Val.eqv; simp
theorem enc_same (a b : List Val) (ha : okR a = true) (hb : okR b = true) (ia : ∀ x ∈ a, x.in64) (ib : ∀ x ∈ b, x.in64) : (encB a == encB b) = sameV a b := by
  rw [Bool.eq_iff_iff, beq_iff_eq]
  constructor
  · intro h
    have h1 := decS_put a ha ia
    rw [h, decS_put b hb ib] at h1
    simp only [Prod.mk.injEq] at h1
    rw [h1.1]
    exact same_self _
  · intro h; rw [same_eq a b h]
theorem keys_same (a b : List Val) (ha : okR a = true) (hb : okR b = true) (ia : ∀ x ∈ a, x.in64) (ib : ∀ x ∈ b, x.in64) : (keysB a == keysB b) = sameV a b := by
  rw [Bool.eq_iff_iff, beq_iff_eq]
  constructor
  · intro h
    have h1 := unkS_put a ha ia
    rw [h, unkS_put b hb ib] at h1
    simp only [Prod.mk.injEq] at h1
    rw [h1.1]
    exact same_self _
  · intro h; rw [same_eq a b h]
end Go.Proofs.Ytlehalhficlenaa

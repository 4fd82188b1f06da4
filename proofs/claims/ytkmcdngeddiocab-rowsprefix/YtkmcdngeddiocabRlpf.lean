/- The law: no row's bytes are the beginning of another row's. -/
import Derived.Test.YtkmcdngeddiocabRmth
import Derived.Test.YtkmcdngeddiocabRali
namespace Go.Proofs.Ytkmcdngeddiocab
open Go.RowKit Go.Hay
set_option linter.unusedVariables false
set_option linter.unusedSimpArgs false

theorem rowSees {w : World} {a : Option Addr} {n c : Nat} {bs : List UInt8} (h : Row w (.slice a n c) bs) : Sees w a bs ∧ bs.length ≤ c ∧ c ≤ maxLen := by
  rcases h with ⟨h, rfl⟩ | ⟨g, o, cap, h, hl, hm, hg, hc, ht⟩
  · simp only [Value.slice.injEq] at h
    obtain ⟨rfl, rfl, rfl⟩ := h
    exact ⟨.inl rfl, Nat.le_refl _, by unfold maxLen; omega⟩
  · simp only [Value.slice.injEq] at h
    obtain ⟨rfl, _, rfl⟩ := h
    exact ⟨.inr ⟨g, o, rfl, hc⟩, hl, hm⟩
theorem rowEmpty (w : World) {q : Nat} (hq : w.heap.size = q) (t : TypeId) : Row (w.alloc (.cells #[] t)) (.slice (some ⟨q, 0, none⟩) 0 0) [] := by
  subst hq
  exact .inr ⟨w.heap.size, 0, 0, rfl, Nat.le_refl _, by unfold maxLen; omega, by simp, fun j u hu => by simp at hu, fun j hj => by omega⟩
theorem newEmpty (w : World) (t : TypeId) : New w (.slice (some ⟨w.heap.size, 0, none⟩) 0 0) (w.alloc (.cells #[] t)) := ⟨kpNew _ _, by intro k hk; simp [own, Value.ownBlock] at hk; omega⟩

set_option maxHeartbeats 8000000 in
set_option maxRecDepth 100000 in
theorem prefixWalk (a : Option Addr) (na ca : Nat) (l : List Val) (cut : Int) (b : Option Addr) (nb cb : Nat) (more : List UInt8) (w : World) (ha : Vals w a l) (hna : na = l.length) (hca : l.length ≤ ca) (hma : ca ≤ maxLen) (hi : ∀ x ∈ l, x.in64)
    (hb : Sees w b more) (hnb : nb = more.length) (hcb : more.length ≤ cb) (hrb : cb ≤ 140737488351232) :
    Calls Try.prog 3 #[.slice a na ca, .int .i64 cut, .slice b nb cb] w fun e w' => e = .returned (.bool true) ∧ Below w.heap.size w w' := by
  subst hna hnb
  unfold maxLen at hma
  have hE := cEncode a ca l w ha (by omega)
  by_cases hok : okR l = true
  · have hS : encS l = (encB l, 0) := by unfold encS; rw [if_pos hok]
    have hD1 := decS_cut l hok hi
    have hD2 := decS_more l hok hi more
    rw [hS] at hE
    generalize encB l = full at *
    clear hS
    go_enter Try.func3, Try.ntmps3
    go_wp2_with fail
    refine hE.mono ?_
    rintro e w1 ⟨a1, c1, bs, E, hbs, rfl, hr1, hn1, hl1⟩
    obtain ⟨rfl, rfl⟩ : full = bs ∧ 0 = E := by have := hbs.out; simp only [Prod.mk.injEq] at this; exact this
    clear hE hbs
    have k1 := hn1.kp
    obtain ⟨hs1, hc1, hm1⟩ := rowSees hr1
    by_cases hneg : cut < 0
    · go_wp2_with fail
      refine (cAlive _).mono ?_
      rintro e w2 ⟨rfl, k2⟩
      go_wp2_with fail
      go_ret
      exact ⟨rfl, (k1.trans k2 (by simp)).below⟩
    by_cases hbig : (full.length : Int) ≤ cut
    · go_wp2_with fail
      refine (cAlive _).mono ?_
      rintro e w2 ⟨rfl, k2⟩
      go_wp2_with fail
      go_ret
      exact ⟨rfl, (k1.trans k2 (by simp)).below⟩
    obtain ⟨n, rfl⟩ := Int.eq_ofNat_of_zero_le (by omega : 0 ≤ cut)
    have hn : n < full.length := by omega
    have hc := cDecode a1 c1 (full.take n) w1 (hs1.front n) (by simp; omega) hm1
    rw [hD1 n hn, List.length_take, Nat.min_eq_left (by omega)] at hc
    clear hD1
    unfold maxLen at hm1
    go_wp2_with fail
    refine hc.mono ?_
    rintro e w2 ⟨a2, c2, l2, E, hl2, rfl, _, _, _, _, _, k2⟩
    obtain ⟨rfl, rfl⟩ : [] = l2 ∧ 30 = E := by have := hl2.out; simp only [Prod.mk.injEq] at this; exact this
    clear hc hl2
    have kk2 := k1.trans k2 (by simp)
    have hs2 := seesKeep hs1 k2
    have hN0 := newEmpty w2 5
    have hR0 := rowEmpty w2 rfl 5
    have hs3 := seesKeep hs2 hN0.kp
    go_wp2_with (at_builtin; refine wpAppR rfl _ _ rfl _ [] rfl hR0 a1 full.length c1 full rfl rfl hs3 (by simp; omega) ?_)
    intro b3 a3 c3 w3 hb3 hl3 hr3 hg3
    obtain rfl : b3 = full := hb3.out
    have hN3 := hN0.grew hg3
    have hs4 := seesKeep hb (kk2.trans hN3.kp (by simp))
    clear hl3 hg3 hs3 hR0 hN0 hb3
    go_wp2_with (at_builtin; refine wpAppR rfl _ _ rfl _ b3 rfl hr3 b more.length cb more rfl rfl hs4 (by omega) ?_)
    intro b5 a5 c5 w5 hb5 hl5 hr5 hg5
    have hN5 := hN3.grew hg5
    have k5 := kk2.trans hN5.kp (by simp)
    obtain ⟨hs6, hc6, hm6⟩ := rowSees hr5
    have hcd := cDecode a5 c5 b5 w5 hs6 hc6 hm6
    by_cases hmo : more = []
    · subst hmo
      clear hD2
      go_wp2_with fail
      refine hcd.mono ?_
      rintro e w6 ⟨a6, c6, l6, E6, hl6, rfl, _, _, _, _, _, k6⟩
      go_wp2_with fail
      refine (cAlive _).mono ?_
      rintro e w7 ⟨rfl, k7⟩
      go_wp2_with fail
      go_ret
      exact ⟨rfl, ((k5.trans k6 (by simp)).trans k7 (by simp)).below⟩
    · rw [hb5.out, hD2 hmo] at hcd
      have hml : ((more.length : Int) == 0) = false := beq_eq_false_iff_ne.2 (by have : more.length ≠ 0 := fun h => hmo (List.length_eq_zero_iff.1 h); omega)
      rw [← hb5.out] at hcd
      clear hD2 hmo
      go_wp2_with fail
      refine hcd.mono ?_
      rintro e w6 ⟨a6, c6, l6, E6, hl6, rfl, _, _, _, _, _, k6⟩
      obtain ⟨rfl, rfl⟩ : [] = l6 ∧ 30 = E6 := by have := hl6.out; simp only [Prod.mk.injEq] at this; exact this
      go_wp2_with fail
      refine (cAlive _).mono ?_
      rintro e w7 ⟨rfl, k7⟩
      go_wp2_with fail
      go_ret
      exact ⟨rfl, ((k5.trans k6 (by simp)).trans k7 (by simp)).below⟩
  · have hS : encS l = ([], 30) := by unfold encS; rw [if_neg hok]
    rw [hS] at hE
    go_enter Try.func3, Try.ntmps3
    go_wp2_with fail
    refine hE.mono ?_
    rintro e w1 ⟨a1, c1, bs, E, hbs, rfl, hr1, hn1, hl1⟩
    obtain ⟨rfl, rfl⟩ : [] = bs ∧ 30 = E := by have := hbs.out; simp only [Prod.mk.injEq] at this; exact this
    clear hE hbs
    go_wp2_with fail
    refine (cAlive _).mono ?_
    rintro e w2 ⟨rfl, k2⟩
    go_wp2_with fail
    go_ret
    exact ⟨rfl, (hn1.kp.trans k2 (by simp)).below⟩
end Go.Proofs.Ytkmcdngeddiocab

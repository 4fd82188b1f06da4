/- For every list of things that hold together at most 1048576 values, and every cut: what was written is read as it was, by the same calls, and nothing is left; of any shorter beginning the reader fails for want of bytes. -/
import Derived.Test.YtamankgichaacaaBck
import Derived.Test.YtamankgichaacaaBckm
namespace Go.Proofs.Ytamankgichaacaa
open Go.ChangeShapes Go.WideShapes Go.ChangeAt Go.RowKit Go.Hay
set_option linter.unusedVariables false

theorem cBack (p : Nat) (D : List Nat) (bs : List UInt8) (e0 : Int) (k n m : Int) (ab : Option Addr) (cb : Nat) (xs : List UInt8) (w : World) (h : Rd w p D bs e0) (hs : Sees w ab xs) (hn0 : 0 ≤ n) (hn1 : n < 18446744073709551616) (hb : bs.length ≤ 200000000000000) (hx : xs.length ≤ 200000000000000) (hap : xs ≠ [] → ∀ k ∈ blk ab, k ∉ [p]) :
    Calls Try.prog 20 #[.pointer (some ⟨p, 0, none⟩), .agg #[.int .i64 k, .int .u64 n, .int .u64 m, .slice ab xs.length cb]] w fun e w' => ∃ r bs' e', backS ⟨k, n, m, .slice ab xs.length cb, xs⟩ bs e0 = (r, bs', e') ∧ e = .returned (.bool r) ∧ Rd w' p D bs' e' ∧ Kp [p] w w' := by
  by_cases c0 : k = 0
  · subst c0
    refine (cBack0 p D bs e0 n m ab cb xs w h hn0 hn1).mono ?_
    rintro e w1 ⟨out, bs', e', ht, rfl, hr, hk⟩
    exact ⟨_, bs', e', by simp only [backS, ht]; rfl, rfl, hr, hk⟩
  by_cases c1 : k = 1
  · subst c1
    refine (cBack1 p D bs e0 n m ab cb xs w h hn0 hn1).mono ?_
    rintro e w1 ⟨out, bs', e', ht, rfl, hr, hk⟩
    exact ⟨_, bs', e', by simp only [backS, ht]; rfl, rfl, hr, hk⟩
  by_cases c2 : k = 2
  · subst c2
    refine (cBack2 p D bs e0 n m ab cb xs w h hn0 hn1).mono ?_
    rintro e w1 ⟨out, bs', e', ht, rfl, hr, hk⟩
    exact ⟨_, bs', e', by simp only [backS, ht]; rfl, rfl, hr, hk⟩
  by_cases c3 : k = 3
  · subst c3
    refine (cBack3 p D bs e0 n m ab cb xs w h hn0 hn1).mono ?_
    rintro e w1 ⟨out, bs', e', ht, rfl, hr, hk⟩
    exact ⟨_, bs', e', by simp only [backS, ht]; rfl, rfl, hr, hk⟩
  by_cases c4 : k = 4
  · subst c4
    refine (cBack4 p D bs e0 n m ab cb xs w h hs hb hx hap).mono ?_
    rintro e w1 ⟨out, bs', e', ht, rfl, hr, hk⟩
    exact ⟨_, bs', e', by simp only [backS, ht]; rfl, rfl, hr, hk⟩
  by_cases c5 : k = 5
  · subst c5
    refine (cBack5 p D bs e0 n m ab cb xs w h hs hb hx hap).mono ?_
    rintro e w1 ⟨out, bs', e', ht, rfl, hr, hk⟩
    exact ⟨_, bs', e', by simp only [backS, ht]; rfl, rfl, hr, hk⟩
  · refine (cBackX p D bs e0 k n m ab cb xs w h (by omega)).mono ?_
    rintro e w1 ⟨rfl, hr, hk⟩
    exact ⟨true, bs, e0, by simp only [backS, if_neg c0, if_neg c1, if_neg c2, if_neg c3, if_neg c4, if_neg c5], rfl, hr, hk⟩

theorem thingsB_drop (l : List Thing) (k : Nat) (h : k < l.length) : thingsB (l.drop k) = thingB l[k] ++ thingsB (l.drop (k + 1)) := by
  unfold thingsB
  rw [List.drop_eq_getElem_cons h, List.flatMap_cons]

/-- How a reader of a beginning stands ahead of the k-th thing. -/
def cutState (l : List Thing) (k : Nat) (bs : List UInt8) (e : Int) : Prop := (e = 0 ∧ ∃ c, bs = (thingsB (l.drop k)).take c ∧ c < (thingsB (l.drop k)).length) ∨ e = 10
theorem cutState_step (l : List Thing) (k : Nat) (h : k < l.length) (hn0 : 0 ≤ l[k].n) (hn1 : l[k].n < 18446744073709551616) (hx : l[k].bs.length ≤ 200000000000000) (bs : List UInt8) (e : Int) (hs : cutState l k bs e) {r : Bool} {bs' : List UInt8} {e' : Int} (hb : backS l[k] bs e = (r, bs', e')) : cutState l (k + 1) bs' e' := by
  have he' : e' = (backS l[k] bs e).2.2 := by rw [hb]
  rcases hs with ⟨rfl, c, rfl, hc⟩ | rfl
  · rw [thingsB_drop l k h] at hb hc he'
    rw [List.length_append] at hc
    by_cases hlt : c < (thingB l[k]).length
    · rw [List.take_append_of_le_length (by omega)] at he'
      exact .inr (he'.trans (back_short _ hn0 hn1 hx c hlt))
    · rw [List.take_append, List.take_of_length_le (by omega), back_same _ hn0 hn1 hx] at hb
      cases hb
      exact .inl ⟨rfl, c - (thingB l[k]).length, rfl, by omega⟩
  · exact .inr (he'.trans (back_bad _ _ _ (by omega)))
theorem cutState_end (l : List Thing) (bs : List UInt8) (e : Int) (hs : cutState l l.length bs e) : e = 10 := by
  rcases hs with ⟨_, c, _, hc⟩ | h
  · rw [List.drop_length] at hc; simp [thingsB] at hc
  · exact h
theorem endE10 (bs : List UInt8) : endE bs 10 = 10 := by simp [endE]

set_option maxHeartbeats 4000000 in
set_option maxRecDepth 100000 in
theorem backWalk (a : Option Addr) (n c : Nat) (l : List Thing) (cut : Int) (w : World) (hl : Ths w a l) (hn : n = l.length) (hb : sumT l ≤ 1048576) (h0 : -9223372036854775808 ≤ cut) (h1 : cut ≤ 9223372036854775807) :
    Calls Try.prog 5 #[.slice a n c, .int .i64 cut] w fun e w' => e = .returned (.bool true) ∧ Below w.heap.size w w' := by
  subst hn
  have hlen := sumT_len l
  have htot := thingsB_length l
  go_enter Try.func5, Try.ntmps5
  go_wp2_with fail
  refine (wNew _).mono ?_
  rintro e w1 ⟨p, rfl, hp, hw1, k1⟩
  have hpge : w.heap.size ≤ p := by omega
  clear hp
  go_wp2_with fail
  refine (cAlive _).mono ?_
  rintro e w2 ⟨rfl, k2⟩
  have hw2 := hw1.keptNew k2
  have k3 := k1.trans k2 (by simp)
  clear hw1 k1 k2
  go_wp2_with fail
  go_loopw [7, 24] (fun _ i wr => ∃ (k : Nat) (v : Value), k ≤ l.length ∧ i = .int .i64 k ∧ Wr wr p v (thingsB (l.take k)) ∧ Kp [] w wr ∧ ∀ x ∈ own v, w.heap.size ≤ x) (fun _ i _ => l.length - (intOf i).toNat)
  case atStart => exact ⟨0, _, Nat.zero_le _, rfl, by simpa [thingsB] using hw2, k3, by simp [own, Value.ownBlock]⟩
  case round =>
    obtain ⟨k, v, hk, rfl, hw, hkp, hov⟩ := hrel
    by_cases hlt : k < l.length
    · have hsum := sumT_take l k
      have htl := thingsB_length (l.take k)
      have hget := sumT_get l k hlt
      have H := hid (thingsB_snoc l k hlt)
      obtain ⟨g, o, b, cb, rfl, hbb, hsee, hsee0, hsep0, ⟨hn0, hn1⟩, ⟨hm0, hm1⟩, c0, c1, c2, c3, hbl, hbm, hkd⟩ := Ths.at hl hkp k hlt
      have HT : Hid (thingB l[k] = thingB ⟨l[k].kind, l[k].n, l[k].m, .slice b l[k].bs.length cb, l[k].bs⟩) := by show _ = _; rw [← hbb]
      clear hbb
      generalize l[k].kind = kd at *
      generalize l[k].n = tn at *
      generalize l[k].m = tm at *
      generalize l[k].bs = xs at *
      have kx : Kp [] wr (wr.alloc (.cells #[.int .i64 kd, .int .u64 tn, .int .u64 tm, .slice b xs.length cb] 29)) := (Kp.refl _ _).alloc _
      go_wp2_with fail
      refine (cWrite p v _ kd tn tm b cb xs _ (hw.keptNew kx) (hsee.kept kx (by simp)) hn0 hn1 (by omega) ?_).mono ?_
      · intro hne x hx hm
        have := hsep0 hne x hx
        rcases List.mem_cons.1 hm with h | h
        · omega
        · have := hov x h; omega
      rintro e w4 ⟨rfl, v4, hw4, hr4⟩
      obtain ⟨k5, o5⟩ := stepW (hkp.trans kx (by simp)) hpge hov hr4
      go_wp2_with fail
      exact ⟨⟨k + 1, v4, by omega, by go_num, by rw [H.out, HT.out]; exact hw4, k5, o5⟩, by simp [intOf]; omega⟩
    · have HT : Hid (l.take k = l) := List.take_of_length_le (by omega)
      rw [HT.out] at hw
      go_wp2_with fail
      refine (wBytes p v _ _ hw (by omega)).mono ?_
      rintro e w4 ⟨v4, rfl, r4, k4, o4⟩
      have kw4 := hkp.trans k4 (by simp)
      obtain ⟨a4, c4, rfl, s4, _⟩ := r4.sees
      obtain ⟨_, c4', e4, hlc4⟩ := r4.shape
      cases e4
      have hs4lt := s4.lt
      clear hkp k4 hw hov r4 o4 HT
      go_wp2_with fail
      refine (rRead a4 _ c4 (thingsB l) _ s4 rfl (by omega)).mono ?_
      rintro e w5 ⟨q, D, rfl, hq, k5, hqge, hD⟩
      have kw5 := kw4.trans k5 (by simp)
      have s5 := s4.kept k5 (by simp)
      have hqw : w.heap.size ≤ q := by have := kw4.size; omega
      clear kw4 k5 s4 hD
      have hsq : thingsB l ≠ [] → ∀ x ∈ blk a4, x ∉ [q] := fun hne x hx hm => by
        rw [List.mem_singleton] at hm
        have := hs4lt hne x hx
        omega
      go_wp2_with fail
      go_loopw [11, 40] (fun _ i wr => ∃ k : Nat, k ≤ l.length ∧ i = .int .i64 k ∧ Rd wr q D (thingsB (l.drop k)) 0 ∧ Kp [] w wr ∧ Sees wr a4 (thingsB l)) (fun _ i _ => l.length - (intOf i).toNat)
      case atStart => exact ⟨0, Nat.zero_le _, rfl, hq, kw5, s5⟩
      case round =>
        obtain ⟨k, hk, rfl, hr, hkp, hsa⟩ := hrel
        by_cases hlt : k < l.length
        · have hget := sumT_get l k hlt
          have H := hid (thingsB_drop l k hlt)
          have htl := thingsB_length (l.drop k)
          have hdr : (thingsB (l.drop k)).length ≤ 200000000000000 := by
            have e : l = l.take k ++ l.drop k := by simp
            have e2 : sumT l = sumT (l.take k) + sumT (l.drop k) := by conv => lhs; rw [e]
                                                                       simp only [sumT, List.map_append, List.sum_append]
            omega
          obtain ⟨g, o, b, cb, rfl, hbb, hsee, hsee0, hsep0, ⟨hn0, hn1⟩, ⟨hm0, hm1⟩, c0, c1, c2, c3, hbl, hbm, hkd⟩ := Ths.at hl hkp k hlt
          have HB := hid (back_same l[k] hn0 hn1 (by omega) (thingsB (l.drop (k + 1))))
          have HE : Hid (l[k] = ⟨l[k].kind, l[k].n, l[k].m, .slice b l[k].bs.length cb, l[k].bs⟩) := by show _ = _; rw [← hbb]
          rw [← H.out] at HB
          have HB2 : Hid (backS ⟨l[k].kind, l[k].n, l[k].m, .slice b l[k].bs.length cb, l[k].bs⟩ (thingsB (l.drop k)) 0 = (true, thingsB (l.drop (k + 1)), 0)) := by show _ = _; rw [← HE.out]; exact HB.out
          clear hbb HB HE H htl
          generalize l[k].kind = kd at *
          generalize l[k].n = tn at *
          generalize l[k].m = tm at *
          generalize l[k].bs = xs at *
          have kx : Kp [] wr (wr.alloc (.cells #[.int .i64 kd, .int .u64 tn, .int .u64 tm, .slice b xs.length cb] 29)) := (Kp.refl _ _).alloc _
          go_wp2_with fail
          refine (cBack q D _ 0 kd tn tm b cb xs _ (hr.kept kx (by simp) (by simp)) (hsee.kept kx (by simp)) hn0 hn1 hdr (by omega) (fun hne x hx hm => by rw [List.mem_singleton] at hm; have := hsep0 hne x hx; omega)).mono ?_
          rintro e w6 ⟨r, bs', e', hbk, rfl, hr6, k6⟩
          rw [HB2.out] at hbk
          cases hbk
          have kw6 := stepR (hkp.trans kx (by simp)) hqw k6
          have s6 := (hsa.kept kx (by simp)).kept' k6 hsq
          clear hr hkp kx hsa k6 hsee
          go_wp2_with fail
          refine (rErr q D _ 0 _ hr6).mono ?_
          rintro e w7 ⟨rfl, rfl⟩
          go_wp2_with fail
          exact ⟨⟨k + 1, by omega, by go_num, hr6, kw6, s6⟩, by simp [intOf]; omega⟩
        · have HT : Hid (thingsB (l.drop k) = []) := by show _ = _; rw [List.drop_of_length_le (by omega)]; rfl
          rw [HT.out] at hr
          have hend : endE [] 0 = 0 := e0
          clear HT
          go_wp2_with fail
          refine (rEnd q D _ 0 _ hr).mono ?_
          rintro e w6 ⟨rfl, rfl⟩
          rw [hend]
          go_wp2_with fail
          refine (rLeft q D _ 0 _ hr).mono ?_
          rintro e w6 ⟨rfl, rfl⟩
          clear hend hr
          by_cases hc0 : cut < 0
          · go_wp2_with fail
            go_ret
            exact ⟨rfl, hkp.below⟩
          obtain ⟨cut, rfl⟩ := Int.eq_ofNat_of_zero_le (Int.not_lt.1 hc0)
          clear hc0 h0
          by_cases hcN : (thingsB l).length ≤ cut
          · have hcN' : ((thingsB l).length : Int) ≤ (cut : Int) := by omega
            go_wp2_with fail
            go_ret
            exact ⟨rfl, hkp.below⟩
          have hcN' : (cut : Int) < ((thingsB l).length : Int) := by omega
          have hcc : (cut : Int) ≤ (c4 : Int) := by omega
          have HL := hid (show ((thingsB l).take cut).length = cut by simp; omega)
          have sfr := hsa.front cut
          have HC : Hid (cutState l 0 ((thingsB l).take cut) 0) := .inl ⟨rfl, cut, rfl, by rw [List.drop_zero]; omega⟩
          generalize (thingsB l).take cut = body at *
          go_wp2_with fail
          refine (rRead a4 cut c4 body _ sfr HL.out.symm (by rw [HL.out]; omega)).mono ?_
          rintro e w7 ⟨q2, D2, rfl, hq2, k7, hq2ge, hD2⟩
          have kw7 := hkp.trans k7 (by simp)
          have hq2w : w.heap.size ≤ q2 := by have := hkp.size; omega
          have hbl0 : body.length ≤ 200000000000000 := by rw [HL.out]; omega
          clear hkp k7 sfr hsa hq2ge
          go_wp2_with fail
          go_loopw [14, 76] (fun _ i wr => ∃ (k : Nat) (bs : List UInt8) (e : Int), k ≤ l.length ∧ i = .int .i64 k ∧ Rd wr q2 D2 bs e ∧ Kp [] w wr ∧ bs.length ≤ 200000000000000 ∧ Hid (cutState l k bs e)) (fun _ i _ => l.length - (intOf i).toNat)
          case atStart => exact ⟨0, body, 0, Nat.zero_le _, rfl, hq2, kw7, hbl0, HC⟩
          case round =>
            obtain ⟨k, bs, e, hk, rfl, hr, hkp, hbsl, HS⟩ := hrel
            by_cases hlt : k < l.length
            · have hget := sumT_get l k hlt
              obtain ⟨g, o, b, cb, rfl, hbb, hsee, hsee0, hsep0, ⟨hn0, hn1⟩, ⟨hm0, hm1⟩, c0, c1, c2, c3, hbl, hbm, hkd⟩ := Ths.at hl hkp k hlt
              have HB : Hid (∀ r bs' e', backS ⟨l[k].kind, l[k].n, l[k].m, .slice b l[k].bs.length cb, l[k].bs⟩ bs e = (r, bs', e') → cutState l (k + 1) bs' e') := fun r bs' e' hb => by
                rw [show (⟨l[k].kind, l[k].n, l[k].m, .slice b l[k].bs.length cb, l[k].bs⟩ : Thing) = l[k] by rw [← hbb]] at hb
                exact cutState_step l k hlt hn0 hn1 (by omega) bs e HS.out hb
              have HBl : Hid (∀ r bs' e', backS ⟨l[k].kind, l[k].n, l[k].m, .slice b l[k].bs.length cb, l[k].bs⟩ bs e = (r, bs', e') → bs'.length ≤ bs.length) := fun r bs' e' hb => back_left _ _ _ hb
              clear hbb
              generalize l[k].kind = kd at *
              generalize l[k].n = tn at *
              generalize l[k].m = tm at *
              generalize l[k].bs = xs at *
              have kx : Kp [] wr (wr.alloc (.cells #[.int .i64 kd, .int .u64 tn, .int .u64 tm, .slice b xs.length cb] 29)) := (Kp.refl _ _).alloc _
              go_wp2_with fail
              refine (cBack q2 D2 bs e kd tn tm b cb xs _ (hr.kept kx (by simp) (by simp)) (hsee.kept kx (by simp)) hn0 hn1 hbsl (by omega) (fun hne x hx hm => by rw [List.mem_singleton] at hm; have := hsep0 hne x hx; omega)).mono ?_
              rintro e w8 ⟨r, bs', e', hbk, rfl, hr8, k8⟩
              have hlb := HBl.out r bs' e' hbk
              have HS' := hid (HB.out r bs' e' hbk)
              have kw8 := stepR (hkp.trans kx (by simp)) hq2w k8
              clear hbk HB HBl
              go_wp2_with fail
              exact ⟨⟨k + 1, bs', e', by omega, by go_num, hr8, kw8, by omega, HS'⟩, by simp [intOf]; omega⟩
            · have hke : k = l.length := by omega
              subst hke
              have hee := cutState_end l bs e HS.out
              subst hee
              have hen := endE10 bs
              go_wp2_with fail
              refine (rErr q2 D2 _ 10 _ hr).mono ?_
              rintro e w8 ⟨rfl, rfl⟩
              go_wp2_with fail
              refine (rEnd q2 D2 _ 10 _ hr).mono ?_
              rintro e w8 ⟨rfl, rfl⟩
              rw [hen]
              go_wp2_with fail
              go_ret
              exact ⟨rfl, hkp.below⟩
end Go.Proofs.Ytamankgichaacaa

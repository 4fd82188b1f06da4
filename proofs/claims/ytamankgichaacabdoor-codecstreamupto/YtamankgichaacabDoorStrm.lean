/- For every list of slices of bytes that hold together at most 1048576 values, and every cut: of frames one behind the other, cut off there, just the whole ones are read, in order. -/
import Derived.Test.YtamankgichaacabDoorUnfm
import Derived.Test.YtamankgichaacabDoorOpl
namespace Go.Proofs.YtamankgichaacabDoor
open Go.ChangeShapes Go.WideShapes Go.ChangeAt Go.RowKit Go.Hay
set_option linter.unusedVariables false

/-- The frames of a list, one behind the other. -/
def framesB (l : List (Value × List UInt8)) : List UInt8 := l.flatMap fun x => frameB x.2
/-- How many bytes the first k frames are. -/
def preB (l : List (Value × List UInt8)) (k : Nat) : Nat := (framesB (l.take k)).length
theorem framesB_snoc (l : List (Value × List UInt8)) (k : Nat) (h : k < l.length) : framesB (l.take (k + 1)) = framesB (l.take k) ++ frameB l[k].2 := by
  unfold framesB
  rw [List.take_succ_eq_append_getElem h, List.flatMap_append]
  simp only [List.flatMap_cons, List.flatMap_nil, List.append_nil]
theorem preB_succ (l : List (Value × List UInt8)) (k : Nat) (h : k < l.length) : preB l (k + 1) = preB l k + l[k].2.length + 12 := by
  unfold preB
  rw [framesB_snoc l k h, List.length_append, frameB_length]
  omega
theorem preB_zero (l : List (Value × List UInt8)) : preB l 0 = 0 := rfl
theorem preB_mono (l : List (Value × List UInt8)) (i j : Nat) (hij : i ≤ j) (hj : j ≤ l.length) : preB l i ≤ preB l j := by
  induction j with
  | zero => rw [show i = 0 by omega]; exact Nat.le_refl _
  | succ j ih =>
    by_cases h : i = j + 1
    · rw [h]; exact Nat.le_refl _
    · have h1 := ih (by omega) (by omega)
      have h2 := preB_succ l j (by omega)
      omega
theorem sumL_len' (l : List (Value × List UInt8)) : l.length ≤ sumL l := by
  induction l with
  | nil => simp
  | cons x l ih => simp only [sumL, List.map_cons, List.sum_cons, List.length_cons] at ih ⊢; omega
theorem preB_le (l : List (Value × List UInt8)) (k : Nat) : preB l k ≤ 13 * sumL l := by
  have gen : ∀ l : List (Value × List UInt8), (framesB l).length ≤ 13 * sumL l := by
    intro l
    induction l with
    | nil => simp [framesB]
    | cons x l ih =>
      have e : framesB (x :: l) = frameB x.2 ++ framesB l := by simp [framesB]
      have e2 : sumL (x :: l) = x.2.length + 1 + sumL l := by simp [sumL]
      rw [e, e2, List.length_append, frameB_length]
      omega
  have sub : ∀ (l : List (Value × List UInt8)) (k : Nat), sumL (l.take k) ≤ sumL l := by
    intro l
    induction l with
    | nil => intro k; simp
    | cons x l ih =>
      intro k
      cases k with
      | zero => simp [sumL]
      | succ k =>
        have := ih k
        simp only [sumL, List.take_succ_cons, List.map_cons, List.sum_cons] at this ⊢
        omega
  have := gen (l.take k)
  have := sub l k
  unfold preB
  omega
/-- What stands behind the first k frames. -/
theorem framesB_drop (l : List (Value × List UInt8)) (k : Nat) (h : k < l.length) : (framesB l).drop (preB l k) = frameB l[k].2 ++ framesB (l.drop (k + 1)) := by
  have e : framesB l = framesB (l.take k) ++ (frameB l[k].2 ++ framesB (l.drop (k + 1))) := by
    have e1 : l = l.take k ++ l[k] :: l.drop (k + 1) := by simp
    have e2 := congrArg (fun t : List (Value × List UInt8) => t.flatMap fun x => frameB x.2) e1
    simp only [List.flatMap_append, List.flatMap_cons] at e2
    exact e2
  rw [e]
  unfold preB
  rw [List.drop_left]
theorem preB_all (l : List (Value × List UInt8)) : preB l l.length = (framesB l).length := by unfold preB; rw [List.take_of_length_le (Nat.le_refl _)]

/-- A whole frame ahead of the cut. -/
theorem cut_whole (l : List (Value × List UInt8)) (k cut : Nat) (h : k < l.length) (hx : l[k].2.length ≤ 16777216) (hc : preB l (k + 1) ≤ cut) : unf (((framesB l).drop (preB l k)).take (cut - preB l k)) = (l[k].2, ((l[k].2.length + 12 : Nat) : Int), 0) := by
  have hs := preB_succ l k h
  have hl := frameB_length l[k].2
  rw [framesB_drop l k h, List.take_append, List.take_of_length_le (by omega)]
  exact unf_frame _ _ hx
/-- Behind the last whole frame. -/
theorem cut_last (l : List (Value × List UInt8)) (k cut : Nat) (hk : k ≤ l.length) (hx : ∀ j (h : j < l.length), l[j].2.length ≤ 16777216) (h1 : preB l k ≤ cut) (h2 : k < l.length → cut < preB l (k + 1)) (h3 : cut ≤ (framesB l).length) :
    unf (((framesB l).drop (preB l k)).take (cut - preB l k)) = ([], 0, 10) := by
  by_cases h : k < l.length
  · have hs := preB_succ l k h
    have hl := frameB_length l[k].2
    have := h2 h
    rw [framesB_drop l k h, List.take_append_of_le_length (by omega)]
    exact unf_cut _ (hx k h) _ (by omega)
  · have e : k = l.length := by omega
    subst e
    rw [preB_all, List.drop_of_length_le (Nat.le_refl _)]
    simp [unf]

set_option maxHeartbeats 2000000 in
set_option maxRecDepth 100000 in
theorem streamWalk (a : Option Addr) (n c : Nat) (l : List (Value × List UInt8)) (cut : Int) (w : World) (ht : Tab w) (hl : Lst w a l) (hn : n = l.length) (hb : sumL l ≤ 1048576) (h0 : -9223372036854775808 ≤ cut) (h1 : cut ≤ 9223372036854775807) :
    Calls Tryd.prog 6 #[.slice a n c, .int .i64 cut] w fun e w' => e = .returned (.bool true) ∧ Below w.heap.size w w' := by
  subst hn
  obtain ⟨i0, hi, hz0, hz1, hz2⟩ := info_parts Tryd.infoB
  have hlen := sumL_len' l
  go_enter Tryd.func6, Tryd.ntmps6
  go_wp2_with fail
  go_loopw [5, 6, 7, 9, 10, 11, 22] (fun b wh en _ _ _ i wr => ∃ k m : Nat, k ≤ l.length ∧ m ≤ k ∧ i = .int .i64 k ∧ wh = .int .i64 m ∧ en = .int .i64 (preB l m) ∧ Row wr b (framesB (l.take k)) ∧ Kp [] w wr ∧ (∀ k ∈ own b, w.heap.size ≤ k) ∧
      Hid ((∀ j (h : j < l.length), j < k → l[j].2.length ≤ 16777216) ∧ (0 < m → (preB l m : Int) ≤ cut) ∧ ∀ j, m < j → j ≤ k → cut < preB l j)) (fun _ _ _ _ _ _ i _ => l.length - (intOf i).toNat)
  case atStart => exact ⟨0, 0, Nat.zero_le _, Nat.zero_le _, rfl, rfl, rfl, Row.nil _, Kp.refl _ _, by simp [own, Value.ownBlock], ⟨fun j _ h => absurd h (Nat.not_lt_zero _), fun h => absurd h (Nat.lt_irrefl _), fun j h1 h2 => absurd (Nat.lt_of_lt_of_le h1 h2) (Nat.lt_irrefl _)⟩⟩
  case round =>
    obtain ⟨k, m, hk, hmk, rfl, rfl, rfl, hrow, hkp, hown, HI⟩ := hrel
    by_cases hlt : k < l.length
    · have hpl := preB_le l (k + 1)
      have hps := preB_succ l k hlt
      have HA := hid (framesB_snoc l k hlt)
      have hfl := frameB_length l[k].2
      have hal : (framesB (l.take k)).length = preB l k := rfl
      rcases hl with rfl | ⟨g, o, rfl, hcl⟩
      · simp at hlt
      obtain ⟨hcell0, b0, c0, hb0, hsee0, hbl, hbm⟩ := hcl k l[k] (by simp)
      rw [hb0] at hcell0
      have hcell := (hkp.cell (World.block_lt_of_cell? _ _ hcell0) (by simp)).trans hcell0
      have hsee := hsee0.kept hkp (by simp)
      have hxs : Hid (∀ j (h : j < l.length), j < k + 1 → j ≠ k → l[j].2.length ≤ 16777216) := fun j h hj hne => HI.out.1 j h (by omega)
      have HLK : Hid (∃ y, y = l[k].2) := ⟨_, rfl⟩
      have HK : Hid (∀ j (h : j < l.length), j = k → l[j].2 = l[k].2) := fun j h e => by subst e; rfl
      obtain ⟨P1, hP1⟩ : ∃ P1, P1 = preB l (k + 1) := ⟨_, rfl⟩
      have HP1 := hid hP1
      have hAl : Hid ((framesB (l.take k) ++ frameB l[k].2).length = P1) := by show _ = _; rw [List.length_append, hal, hfl]; omega
      have hP1b : P1 ≤ 100000000 := by omega
      have hPk : preB l k ≤ 100000000 := by have := preB_le l k; omega
      have hPm : preB l m ≤ 100000000 := by have := preB_le l m; omega
      have hal' := Nat.le_of_eq hal
      clear hps hfl hpl hP1 hal hsee0 hcell0 hb0 hcl HLK
      generalize l[k].2 = xs at *
      by_cases hx : 16777216 < xs.length
      · go_wp2_with fail
        refine (cFrameLong b0 _ c0 xs _ rfl hx).mono ?_
        rintro e w2 ⟨rfl, rfl⟩
        go_wp2_with fail
        refine (cAlive _).mono ?_
        rintro e w3 ⟨rfl, k3⟩
        go_wp2_with fail
        go_ret
        exact ⟨rfl, (hkp.trans k3 (by simp)).below⟩
      · go_wp2_with fail
        refine (cFrame b0 _ c0 xs _ (ht.kept hkp (by simp)) hsee rfl (by omega)).mono ?_
        rintro e w2 ⟨v2, rfl, r2, k2, o2⟩
        obtain ⟨a2, c2, rfl, s2, _⟩ := r2.sees
        have hsrc := s2.src (P := Tryd.prog) Tryd.underlying22 c2
        have hrow' := hrow.kept k2 (by simp)
        have kk := hkp.trans k2 (by simp)
        have hfl2 := Nat.le_of_eq (frameB_length xs)
        go_wp2_with (at_builtin; refine wpList_append_src _ rfl (.tmp 38) (.tmp 39) 22 22 rfl i0 Tryd.underlying22 hi hz0 hz1 hz2 _ _ rfl hrow' _ _ rfl hsrc (by omega) ?_)
        intro v4 w4 r4 k4 o4
        obtain ⟨k5, o5⟩ := stepA kk hown k4 o4
        obtain ⟨a4, c4, hv4, _⟩ := r4.shape
        rw [hAl.out] at hv4
        subst hv4
        clear hrow' hrow hsrc s2 r2 k2 o2 kk k4 o4 hfl2 hsee hcell
        have hx1 : Hid (∀ j (h : j < l.length), j < k + 1 → l[j].2.length ≤ 16777216) := fun j h hj => by
          by_cases e : j = k
          · rw [HK.out j h e]; omega
          · exact hxs.out j h hj e
        by_cases hcut : (P1 : Int) ≤ cut
        · have hmk2 : m = k := by
            by_cases e : m = k
            · exact e
            · have h1 := HI.out.2.2 k (by omega) (Nat.le_refl _)
              have h2 := preB_mono l k (k + 1) (by omega) (by omega)
              have h3 := HP1.out
              omega
          go_wp2_with fail
          exact ⟨⟨k + 1, m + 1, by omega, by omega, by go_num, by go_num, by rw [HP1.out, hmk2], by rw [HA.out]; exact r4, k5, o5,
            ⟨hx1.out, fun _ => by rw [hmk2, ← HP1.out]; exact hcut, fun j h1 h2 => absurd h2 (by omega)⟩⟩, by simp [intOf]; omega⟩
        · have hnot : cut < (P1 : Int) := by omega
          go_wp2_with fail
          exact ⟨⟨k + 1, m, by omega, by omega, by go_num, rfl, rfl, by rw [HA.out]; exact r4, k5, o5,
            ⟨hx1.out, HI.out.2.1, fun j h1 h2 => by
              by_cases e : j = k + 1
              · rw [e, ← HP1.out]; exact hnot
              · exact HI.out.2.2 j h1 (by omega)⟩⟩, by simp [intOf]; omega⟩
    · have hkl : k = l.length := by omega
      have HT : Hid (l.take k = l) := List.take_of_length_le (by omega)
      rw [HT.out] at hrow
      obtain ⟨hxs, hm1, hm2⟩ := HI.out
      have hNb : (framesB l).length ≤ 100000000 := by have := preB_le l l.length; rw [preB_all] at this; omega
      have hPm : preB l m ≤ 100000000 := by have := preB_le l m; omega
      obtain ⟨ab, cap, rfl, hs, hlc, hcm, _⟩ := rowFull hrow
      have hcm' := hcm
      unfold maxLen at hcm'
      by_cases hc0 : cut < 0
      · go_wp2_with fail
        refine (cAlive _).mono ?_
        rintro e w3 ⟨rfl, k3⟩
        go_wp2_with fail
        go_ret
        exact ⟨rfl, (hkp.trans k3 (by simp)).below⟩
      obtain ⟨cut, rfl⟩ := Int.eq_ofNat_of_zero_le (Int.not_lt.1 hc0)
      clear hc0 h0
      by_cases hcN : (framesB l).length < cut
      · go_wp2_with fail
        refine (cAlive _).mono ?_
        rintro e w3 ⟨rfl, k3⟩
        go_wp2_with fail
        go_ret
        exact ⟨rfl, (hkp.trans k3 (by simp)).below⟩
      have hxs' : Hid (∀ j (h : j < l.length), l[j].2.length ≤ 16777216) := fun j h => hxs j h (by omega)
      have hm1' : Hid (∀ j, j ≤ m → preB l j ≤ cut) := fun j hj => by
        rcases Nat.eq_zero_or_pos m with h | h
        · rw [show j = 0 by omega, preB_zero]; omega
        · have := hm1 h; have := preB_mono l j m hj (by omega); omega
      have hm2' : Hid (m < l.length → cut < preB l (m + 1)) := fun h => by have := hm2 (m + 1) (by omega) (by omega); omega
      clear hxs hm1 hm2 HI hrow hown
      go_wp2_with fail
      rename World => wo
      go_loopw [12, 13, 14, 15, 16, 60] (fun at' _ _ _ _ i wn => ∃ q : Nat, q ≤ m ∧ i = .int .i64 q ∧ at' = .int .i64 (preB l q) ∧ Kp [] wo wn) (fun _ _ _ _ _ i _ => m - (intOf i).toNat)
      case atStart => exact ⟨0, Nat.zero_le _, rfl, rfl, Kp.refl _ _⟩
      case round =>
        obtain ⟨q, hq, rfl, rfl, hkn⟩ := hrel
        have kw := hkp.trans hkn (by simp)
        have hqc := hm1'.out q hq
        have hpq : preB l q ≤ 100000000 := by have := preB_le l q; omega
        by_cases hqm : q < m
        · have hq1 := hm1'.out (q + 1) (by omega)
          have hql : q < l.length := by omega
          have hps := preB_succ l q hql
          have HC := hid (cut_whole l q cut hql (hxs'.out q hql) hq1)
          have HN := hid (show (preB l q : Int) + ((l[q].2.length + 12 : Nat) : Int) = (preB l (q + 1) : Int) by omega)
          have hne : ¬ cap = preB l q := by omega
          have hx12 : l[q].2.length + 12 ≤ 100000000 := by have := preB_le l (q + 1); omega
          rcases hl with rfl | ⟨g, o, rfl, hcl⟩
          · simp at hql
          obtain ⟨hcell0, b0, c0, hb0, hsee0, hbl, hbm⟩ := hcl q l[q] (by simp)
          rw [hb0] at hcell0
          have hcell := (kw.cell (World.block_lt_of_cell? _ _ hcell0) (by simp)).trans hcell0
          have hsee := hsee0.kept kw (by simp)
          have hsl : Sees wr (ab.map (fun x => x.add (preB l q))) (((framesB l).drop (preB l q)).take (cut - preB l q)) := ((hs.kept hkn (by simp)).tail _).front _
          have HLn := hid (show (((framesB l).drop (preB l q)).take (cut - preB l q)).length = cut - preB l q by simp; omega)
          have hle1 : (preB l q : Int) ≤ (cut : Int) := by omega
          have hle2 : (cut : Int) ≤ (cap : Int) := by omega
          clear hps hcl hcell0 hsee0 hb0
          generalize ((framesB l).drop (preB l q)).take (cut - preB l q) = body at *
          generalize l[q].2 = xs at *
          generalize preB l q = pq at *
          go_wp2_with fail
          refine (cUnframe _ (cut - pq) (cap - pq) body _ (ht.kept kw (by simp)) hsl HLn.out.symm (by rw [HLn.out]; omega) (by omega) (by rw [HLn.out]; omega)).mono ?_
          rintro e w5 ⟨v5, rfl, r5, k5, _⟩
          rw [HC.out] at r5 ⊢
          obtain ⟨a5, c5, rfl, s5, _⟩ := r5.sees
          have hcell5 := (k5.cell (World.block_lt_of_cell? _ _ hcell) (by simp)).trans hcell
          have hsee5 := hsee.kept k5 (by simp)
          clear hcell hsee hsl r5
          go_wp2_with fail
          refine (cSame a5 b0 _ _ c5 c0 xs xs _ s5 hsee5 rfl rfl).mono ?_
          rintro e w6 ⟨rfl, rfl⟩
          rw [beq_self_eq_true]
          go_wp2_with fail
          exact ⟨⟨q + 1, by omega, by go_num, by rw [← HN.out]; go_num, hkn.trans k5 (by simp)⟩, by simp [intOf]; omega⟩
        · have hqe : q = m := by omega
          subst hqe
          have HC := hid (cut_last l q cut (by omega) hxs'.out hqc hm2'.out (by omega))
          have HLn := hid (show (((framesB l).drop (preB l q)).take (cut - preB l q)).length = cut - preB l q by simp; omega)
          have hle1 : (preB l q : Int) ≤ (cut : Int) := by omega
          have hle2 : (cut : Int) ≤ (cap : Int) := by omega
          by_cases hce : cap = preB l q
          · have hce2 : cut = preB l q := by omega
            have HC0 : Hid (unf [] = ([], 0, 10)) := by show _ = _; simp [unf]
            clear HC HLn
            go_wp2_with fail
            refine (cUnframe ab 0 0 [] _ (ht.kept kw (by simp)) (Sees.nil _ _) rfl (Nat.le_refl _) (Nat.zero_le _) (by simp)).mono ?_
            rintro e w5 ⟨v5, rfl, r5, k5, _⟩
            rw [HC0.out] at r5 ⊢
            obtain ⟨a5, c5, rfl, s5, _⟩ := r5.sees
            go_wp2_with fail
            refine (cAlive _).mono ?_
            rintro e w6 ⟨rfl, k6⟩
            go_wp2_with fail
            go_ret
            exact ⟨rfl, ((kw.trans k5 (by simp)).trans k6 (by simp)).below⟩
          · have hsl : Sees wr (ab.map (fun x => x.add (preB l q))) (((framesB l).drop (preB l q)).take (cut - preB l q)) := ((hs.kept hkn (by simp)).tail _).front _
            generalize ((framesB l).drop (preB l q)).take (cut - preB l q) = body at *
            generalize preB l q = pq at *
            go_wp2_with fail
            refine (cUnframe _ (cut - pq) (cap - pq) body _ (ht.kept kw (by simp)) hsl HLn.out.symm (by rw [HLn.out]; omega) (by omega) (by rw [HLn.out]; omega)).mono ?_
            rintro e w5 ⟨v5, rfl, r5, k5, _⟩
            rw [HC.out] at r5 ⊢
            obtain ⟨a5, c5, rfl, s5, _⟩ := r5.sees
            go_wp2_with fail
            refine (cAlive _).mono ?_
            rintro e w6 ⟨rfl, k6⟩
            go_wp2_with fail
            go_ret
            exact ⟨rfl, ((kw.trans k5 (by simp)).trans k6 (by simp)).below⟩
end Go.Proofs.YtamankgichaacabDoor

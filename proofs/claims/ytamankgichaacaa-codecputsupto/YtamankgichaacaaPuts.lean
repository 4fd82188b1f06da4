/- For every slice of slices of bytes that hold together at most 1048576 values: what Put writes of it with Text is how many there are and each of them, as the reference has it. -/
import Derived.Test.YtamankgichaacaaRefv
import Derived.Test.YtamankgichaacaaOpl
namespace Go.Proofs.Ytamankgichaacaa
open Go.ChangeShapes Go.WideShapes Go.ChangeAt Go.RowKit Go.Hay
set_option linter.unusedVariables false

/-- The texts of a list. -/
def textsB (l : List (Value × List UInt8)) : List UInt8 := l.flatMap fun x => textB x.2
theorem textsB_snoc (l : List (Value × List UInt8)) (k : Nat) (h : k < l.length) : textsB (l.take (k + 1)) = textsB (l.take k) ++ textB l[k].2 := by
  unfold textsB
  rw [List.take_succ_eq_append_getElem h, List.flatMap_append]
  simp only [List.flatMap_cons, List.flatMap_nil, List.append_nil]
theorem textsB_length (l : List (Value × List UInt8)) : (textsB l).length ≤ 10 * sumL l := by
  induction l with
  | nil => simp [textsB]
  | cons x l ih =>
    have h1 := varB_length x.2.length
    have e : textsB (x :: l) = textB x.2 ++ textsB l := by simp [textsB]
    have e2 : sumL (x :: l) = x.2.length + 1 + sumL l := by simp [sumL]
    rw [e, e2, List.length_append, textB, List.length_append]
    omega
theorem sumL_take (l : List (Value × List UInt8)) (k : Nat) : sumL (l.take k) ≤ sumL l := by
  induction l generalizing k with
  | nil => simp
  | cons x l ih =>
    cases k with
    | zero => simp [sumL]
    | succ k =>
      have := ih k
      simp only [sumL, List.take_succ_cons, List.map_cons, List.sum_cons] at this ⊢
      omega
theorem sumL_get (l : List (Value × List UInt8)) (k : Nat) (h : k < l.length) : l[k].2.length + 1 ≤ sumL l := by
  induction l generalizing k with
  | nil => simp at h
  | cons x l ih =>
    cases k with
    | zero => simp [sumL]
    | succ k =>
      have := ih k (by simpa using h)
      simp only [sumL, List.map_cons, List.sum_cons, List.getElem_cons_succ] at this ⊢
      omega
theorem sumL_len (l : List (Value × List UInt8)) : l.length ≤ sumL l := by
  induction l with
  | nil => simp
  | cons x l ih => simp only [sumL, List.map_cons, List.sum_cons, List.length_cons] at ih ⊢; omega
theorem Lst.at {w : World} {a : Option Addr} {l : List (Value × List UInt8)} (h : Lst w a l) (k : Nat) (hk : k < l.length) : ∃ g o b c, a = some ⟨g, o, none⟩ ∧ w.cell? ⟨g, o + k, none⟩ = some (.slice b l[k].2.length c) ∧ Sees w b l[k].2 ∧ l[k].2.length ≤ c ∧ c ≤ maxLen := by
  rcases h with rfl | ⟨g, o, rfl, hc⟩
  · simp at hk
  · obtain ⟨h1, b, c, h2, h3, h4, h5⟩ := hc k l[k] (by simp)
    exact ⟨g, o, b, c, rfl, by rw [h1, h2], h3, h4, h5⟩

set_option maxHeartbeats 400000 in
theorem cTextF (p : Nat) (v : Value) (bs : List UInt8) (a : Option Addr) (n c : Nat) (xs : List UInt8) (w : World) (h : Wr w p v bs) (hs : Sees w a xs) (hn : n = xs.length) (hb : bs.length + xs.length + 9 ≤ 200000000000000)
    (hap : xs ≠ [] → ∀ k ∈ blk a, k ∉ p :: own v) :
    Calls Try.prog 26 #[.pointer (some ⟨p, 0, none⟩), .slice a n c] w fun e w' => e = .returned (.tuple #[]) ∧ ∃ v', Wr w' p v' (bs ++ textB xs) ∧ Wrote p v w v' w' := by
  subst hn
  go_enter Try.func26, Try.ntmps26
  go_wp2_with fail
  refine (wText p v bs a _ c xs _ h hs rfl hb hap).mono ?_
  rintro e w1 ⟨rfl, v1, h1, h2⟩
  go_wp2_with fail
  go_end0
  exact ⟨rfl, v1, h1, h2⟩

set_option maxHeartbeats 1000000 in
set_option maxRecDepth 100000 in
theorem cPut (W0 : World) (p : Nat) (v : Value) (bs : List UInt8) (a : Option Addr) (n c : Nat) (l : List (Value × List UInt8)) (w : World) (h : Wr w p v bs) (hl : Lst W0 a l) (hn : n = l.length) (k0 : Kp [] W0 w) (hp : W0.heap.size ≤ p) (ho : ∀ k ∈ own v, W0.heap.size ≤ k)
    (hb : bs.length + 10 * sumL l + 9 ≤ 100000000000000) :
    Calls Try.prog 25 #[.pointer (some ⟨p, 0, none⟩), .slice a n c, .func (.func 26) #[] #[]] w fun e w' => e = .returned (.tuple #[]) ∧ ∃ v', Wr w' p v' (bs ++ varB l.length ++ textsB l) ∧ Kp [] W0 w' ∧ ∀ k ∈ own v', W0.heap.size ≤ k := by
  subst hn
  have hlen := sumL_len l
  have hv9 := varB_length l.length
  go_enter Try.func25, Try.ntmps25
  go_wp2_with fail
  refine (wVar p v bs l.length _ h (by omega) (by omega) (by omega)).mono ?_
  rintro e w1 ⟨rfl, v1, hw1, hr1⟩
  obtain ⟨k1, o1⟩ := stepW k0 hp ho hr1
  clear hr1 h k0 ho
  go_wp2_with fail
  go_loopw [7, 15] (fun _ i wr => ∃ (k : Nat) (v' : Value), k ≤ l.length ∧ i = .int .i64 k ∧ Wr wr p v' (bs ++ varB l.length ++ textsB (l.take k)) ∧ Kp [] W0 wr ∧ ∀ k ∈ own v', W0.heap.size ≤ k) (fun _ i _ => l.length - (intOf i).toNat)
  case atStart => exact ⟨0, v1, Nat.zero_le _, rfl, by simpa [textsB] using hw1, k1, o1⟩
  case round =>
    obtain ⟨k, v', hk, rfl, hw, hkp, hown⟩ := hrel
    by_cases hlt : k < l.length
    · have hsum := sumL_take l k
      have htl := textsB_length (l.take k)
      have hget := sumL_get l k hlt
      have H := hid (textsB_snoc l k hlt)
      obtain ⟨g, o, b, cb, rfl, hcell, hsee, hbl, hbm⟩ := Lst.at (hl.kept hkp) k hlt
      have hsee0 : l[k].2 ≠ [] → ∀ x ∈ blk b, x < W0.heap.size := by
        intro hne x hx
        obtain ⟨g', o', b', c', hab, hcell', hsee', _⟩ := Lst.at hl k hlt
        cases hab
        have e := (hkp.cell (World.block_lt_of_cell? _ _ hcell') (by simp)).trans hcell'
        rw [hcell] at e
        cases e
        exact hsee'.lt hne x hx
      generalize l[k].2 = xs at *
      go_wp2_with fail
      refine (cTextF p v' _ b _ cb xs _ hw hsee rfl (by simp only [List.length_append]; omega) ?_).mono ?_
      · intro hne x hx hm
        have := hsee0 hne x hx
        rcases List.mem_cons.1 hm with h | h
        · omega
        · have := hown x h; omega
      rintro e w2 ⟨rfl, v2, hw2, hr2⟩
      obtain ⟨k2, o2⟩ := stepW hkp hp hown hr2
      clear hr2 hw
      go_wp2_with fail
      go_roundw
      case rel => exact ⟨k + 1, v2, by omega, by go_num, by rw [H.out, ← List.append_assoc]; exact hw2, k2, o2⟩
      case measure => simp [intOf]; omega
    · have H : Hid (l.take k = l) := List.take_of_length_le (by omega)
      go_wp2_with fail
      go_end0
      exact ⟨rfl, v', by rw [H.out] at hw; exact hw, hkp, hown⟩

set_option maxHeartbeats 1000000 in
set_option maxRecDepth 100000 in
theorem putsWalk (a : Option Addr) (n c : Nat) (l : List (Value × List UInt8)) (w : World) (hl : Lst w a l) (hn : n = l.length) (hb : sumL l ≤ 1048576) :
    Calls Try.prog 7 #[.slice a n c] w fun e w' => e = .returned (.bool true) ∧ Below w.heap.size w w' := by
  subst hn
  obtain ⟨i0, hi, hz0, hz1, hz2⟩ := info_parts Try.infoB
  have hlen := sumL_len l
  have hv9 := varB_length l.length
  have htot := textsB_length l
  go_enter Try.func7, Try.ntmps7
  go_wp2_with fail
  refine (wNew _).mono ?_
  rintro e w1 ⟨p, rfl, hp, hw1, k1⟩
  have hpge : w.heap.size ≤ p := by omega
  clear hp
  go_wp2_with fail
  refine (cAlive _).mono ?_
  rintro e w2 ⟨rfl, k2⟩
  have hw2 := hw1.keptNew k2
  have k3 := k1.trans k2 (by simp)
  clear hw1 k1 k2
  go_wp2_with fail
  refine (cPut w p _ [] a _ c l _ hw2 hl rfl k3 hpge (by simp [own, Value.ownBlock]) (by simp; omega)).mono ?_
  rintro e w4 ⟨rfl, v4, hw4, k4, o4⟩
  rw [List.nil_append] at hw4
  clear hw2 k3
  go_wp2_with fail
  refine (cRefVar l.length _ (by omega) (by omega)).mono ?_
  rintro e w5 ⟨v5, rfl, r5, k5, o5⟩
  have hw5 := hw4.keptNew k5
  have k6 := k4.trans k5 (by simp)
  have o5' : ∀ k ∈ own v5, w4.heap.size ≤ k := o5
  have hsep : ∀ k ∈ own v5, k ∉ p :: own v4 := fun k hk hm => by
    have h1 := o5 k hk
    rcases List.mem_cons.1 hm with h | h
    · have := hw4.lt; omega
    · have := hw4.row.lt k h; omega
  have o5g : ∀ k ∈ own v5, w.heap.size ≤ k := fun k hk => by have := o5 k hk; have := k4.size; omega
  clear k4 k5 hw4 o5 o5'
  go_wp2_with fail
  go_loopw [4, 6, 23] (fun b _ i wr => ∃ k : Nat, k ≤ l.length ∧ i = .int .i64 k ∧ Row wr b (varB l.length ++ textsB (l.take k)) ∧ Wr wr p v4 (varB l.length ++ textsB l) ∧ Kp [] w wr ∧ (∀ k ∈ own b, w.heap.size ≤ k) ∧ ∀ k ∈ own b, k ∉ p :: own v4) (fun _ _ i _ => l.length - (intOf i).toNat)
  case atStart => exact ⟨0, Nat.zero_le _, rfl, by simpa [textsB] using r5, hw5, k6, o5g, hsep⟩
  case round =>
    obtain ⟨k, hk, rfl, hrow, hw, hkp, hown, hsp⟩ := hrel
    by_cases hlt : k < l.length
    · have hsum := sumL_take l k
      have htl := textsB_length (l.take k)
      have hget := sumL_get l k hlt
      have H := hid (textsB_snoc l k hlt)
      obtain ⟨g, o, b, cb, rfl, hcell, hsee, hbl, hbm⟩ := Lst.at (hl.kept hkp) k hlt
      have hvx := varB_length l[k].2.length
      generalize l[k].2 = xs at *
      go_wp2_with fail
      refine (cRefText b _ cb xs _ hsee rfl (by omega)).mono ?_
      rintro e w7 ⟨v7, rfl, r7, k7, o7⟩
      obtain ⟨a7, c7, rfl, s7, _⟩ := r7.sees
      have hsrc := s7.src (P := Try.prog) Try.underlying26 c7
      have hrow' := hrow.kept k7 (by simp)
      have hw' := hw.keptNew k7
      have kk := hkp.trans k7 (by simp)
      go_wp2_with (at_builtin; refine wpList_append_src _ rfl (.tmp 27) (.tmp 29) 26 26 rfl i0 Try.underlying26 hi hz0 hz1 hz2 _ _ rfl hrow' _ _ rfl hsrc (by simp only [List.length_append, textB]; omega) ?_)
      intro v8 w8 r8 k8 o8
      obtain ⟨k9, o9⟩ := stepA kk hown k8 o8
      have hw8 := hw'.kept k8 (fun k hk h => hsp k h hk)
      go_wp2_with fail
      have hwlt := hw'.lt
      exact ⟨⟨k + 1, by omega, by go_num, by rw [H.out]; simpa using r8, hw8, k9, o9, fun x hx hm => by
        rcases o8 x hx with h | h
        · exact hsp x h hm
        · rcases List.mem_cons.1 hm with h2 | h2
          · omega
          · have := hw'.row.lt x h2; omega⟩, by simp [intOf]; omega⟩
    · have H : Hid (l.take k = l) := List.take_of_length_le (by omega)
      rw [H.out] at hrow
      go_wp2_with fail
      refine (wBytes p v4 _ _ hw (by simp only [List.length_append]; omega)).mono ?_
      rintro e w7 ⟨v7, rfl, r7, k7, o7⟩
      obtain ⟨a7, c7, rfl, s7, _⟩ := r7.sees
      obtain ⟨a8, c8, rfl, s8, _⟩ := (hrow.kept k7 (by simp)).sees
      go_wp2_with fail
      refine (cSame a7 a8 _ _ c7 c8 (varB l.length ++ textsB l) (varB l.length ++ textsB l) _ s7 s8 (by simp) (by simp)).mono ?_
      rintro e w9 ⟨rfl, rfl⟩
      rw [beq_self_eq_true]
      go_wp2_with fail
      go_ret
      exact ⟨rfl, (hkp.trans k7 (by simp)).below⟩
end Go.Proofs.Ytamankgichaacaa

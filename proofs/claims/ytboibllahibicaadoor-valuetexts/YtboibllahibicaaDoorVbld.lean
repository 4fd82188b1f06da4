/- A builder of the call's own; what a text is written as. -/
import Derived.Test.YtboibllahibicaaDoorVali
import Derived.Test.YtboibllahibicaaDoorShf
import Derived.Lib.FrozenHead
namespace Go.Proofs.YtboibllahibicaaDoor
open Go.RowKit Go.Hay
set_option linter.unusedVariables false
set_option linter.unusedSimpArgs false

/-- A builder that holds these bytes; of what was there ahead of w0 nothing has turned. -/
def Bu (w0 w : World) (b : Nat) (l : List UInt8) : Prop := Lib.IsBuilderF 77 5 w0.heap.size b (Lib.byteCells l) w ∧ Kp [] w0 w
theorem kpBelow {w0 w w' : World} (h : Kp [] w0 w) (hb : Below w0.heap.size w w') : Kp [] w0 w' :=
  ⟨hb.os.trans h.os, hb.tape.trans h.tape, hb.output.trans h.output, Nat.le_trans h.size hb.size, fun k hk hS => (hb.block k hk).trans (h.block k hk hS)⟩
theorem Bu.new (w : World) : Bu w (w.alloc (.cells #[.pointer none, .slice none 0 0] 77)) w.heap.size [] := by
  refine ⟨?_, (Kp.refl _ _).alloc _⟩
  rcases Lib.fresh_isBuilder 77 5 w with h | h
  · exact .inl (Lib.BuilderAtF.of h)
  · exact .inr (Lib.BuilderAtF.of h)
theorem cWByte (w0 w : World) (b : Nat) (l : List UInt8) (c : UInt8) (n : Int) (hn : n = (c.toNat : Int)) (h : Bu w0 w b l) (hl : l.length ≤ 1000) :
    Calls Tryd.prog 56 #[.pointer (some ⟨b, 0, none⟩), .int .u8 n] w fun e w' => e = .returned .nilIface ∧ Bu w0 w' b (l ++ [c]) := by
  subst hn
  refine (Tryd.Builder_WriteByte_k w0.heap.size b (Lib.byteCells l) c.toNat w h.1 (by rw [Lib.byteCells_length]; omega) h.2.size).mono ?_
  rintro e w' ⟨rfl, h1, h2, _⟩
  exact ⟨rfl, by simpa [Lib.byteCells] using h1, kpBelow h.2 h2⟩
theorem cWText (w0 w : World) (b : Nat) (l : List UInt8) (s : ByteArray) (h : Bu w0 w b l) (hl : l.length + s.size ≤ 1000) :
    Calls Tryd.prog 57 #[.pointer (some ⟨b, 0, none⟩), .string s] w fun e w' => e = .returned (.tuple #[.int .i64 s.size, .nilIface]) ∧ Bu w0 w' b (l ++ s.data.toList) := by
  refine (Tryd.Builder_WriteString_k w0.heap.size b (Lib.byteCells l) s w h.1 (by rw [Lib.byteCells_length]; omega) h.2.size).mono ?_
  rintro e w' ⟨rfl, h1, h2, _⟩
  exact ⟨rfl, by simpa [Lib.byteCells] using h1, kpBelow h.2 h2⟩
theorem cBStr (w0 w : World) (b : Nat) (l : List UInt8) (h : Bu w0 w b l) :
    Calls Tryd.prog 58 #[.pointer (some ⟨b, 0, none⟩)] w fun e w' => e = .returned (.string ⟨l.toArray⟩) ∧ Bu w0 w' b l := by
  refine (Tryd.Builder_String_any_k w0.heap.size b l w h.1 h.2.size).mono ?_
  rintro e w' ⟨rfl, h1, h2, _⟩
  exact ⟨rfl, h1, kpBelow h.2 h2⟩
theorem cBLen (w0 w : World) (b : Nat) (l : List UInt8) (h : Bu w0 w b l) :
    Calls Tryd.prog 61 #[.pointer (some ⟨b, 0, none⟩)] w fun e w' => e = .returned (.int .i64 l.length) ∧ w' = w := by
  refine (Tryd.Builder_Len_f w0.heap.size b (Lib.byteCells l) w h.1).mono ?_
  rintro e w' ⟨rfl, rfl⟩
  exact ⟨by rw [Lib.byteCells_length], rfl⟩

/-- A digit; a byte as it is written. -/
def hexB (n : Nat) : UInt8 := if n < 10 then UInt8.ofNat (48 + n) else UInt8.ofNat (87 + n)
def escB (c : UInt8) : List UInt8 :=
  if c = 34 ∨ c = 92 then [92, c] else if c.toNat < 32 ∨ 126 < c.toNat then [92, 120, hexB (c.toNat / 16), hexB (c.toNat % 16)] else [c]
theorem escB_length (c : UInt8) : (escB c).length ≤ 4 := by
  unfold escB
  split
  · simp
  · split <;> simp
def bodyB (l : List UInt8) : List UInt8 := l.flatMap escB
theorem bodyB_length (l : List UInt8) : (bodyB l).length ≤ 4 * l.length := by
  induction l with
  | nil => simp [bodyB]
  | cons c l ih => have := escB_length c; simp only [bodyB, List.flatMap_cons, List.length_append, List.length_cons] at ih ⊢; omega
def quoteB (l : List UInt8) : List UInt8 := 34 :: (bodyB l ++ [34])
theorem bodyB_take (l : List UInt8) (j : Nat) (h : j < l.length) : bodyB (l.take (j + 1)) = bodyB (l.take j) ++ escB l[j] := by
  unfold bodyB
  rw [← List.take_append_getElem h, List.flatMap_append]
  simp

theorem digAt (n : Nat) (h : n < (⟨#[48, 49, 50, 51, 52, 53, 54, 55, 56, 57, 97, 98, 99, 100, 101, 102]⟩ : ByteArray).size) : (⟨#[48, 49, 50, 51, 52, 53, 54, 55, 56, 57, 97, 98, 99, 100, 101, 102]⟩ : ByteArray)[n]'h = hexB n := by
  have h16 : n < 16 := h
  match n, h16 with
  | 0, _ => rfl
  | 1, _ => rfl
  | 2, _ => rfl
  | 3, _ => rfl
  | 4, _ => rfl
  | 5, _ => rfl
  | 6, _ => rfl
  | 7, _ => rfl
  | 8, _ => rfl
  | 9, _ => rfl
  | 10, _ => rfl
  | 11, _ => rfl
  | 12, _ => rfl
  | 13, _ => rfl
  | 14, _ => rfl
  | 15, _ => rfl
  | n + 16, h => omega

set_option maxHeartbeats 4000000 in
set_option maxRecDepth 100000 in
theorem cQuote (s : ByteArray) (w : World) (hs : s.size ≤ 64) : Calls Tryd.prog 44 #[.string s] w fun e w' => e = .returned (.string ⟨(quoteB s.data.toList).toArray⟩) ∧ Kp [] w w' := by
  have h0 := Bu.new w
  have hlen : s.data.toList.length = s.size := by rw [Array.length_toList]; rfl
  go_enter Tryd.func44, Tryd.ntmps44
  go_wp2_with fail
  refine (cWByte w _ _ [] 34 _ rfl h0 (by simp)).mono ?_
  rintro e w1 ⟨rfl, h1⟩
  go_wp2_with fail
  go_loopw [9] (fun i wn => ∃ j : Nat, j ≤ s.size ∧ i = .int .i64 j ∧ Bu w wn w.heap.size (34 :: bodyB (s.data.toList.take j))) (fun i _ => s.size - (intOf i).toNat)
  case atStart => exact ⟨0, Nat.zero_le _, rfl, by simpa [bodyB] using h1⟩
  case round =>
    obtain ⟨j, hj, rfl, hb⟩ := hrel
    by_cases hjs : j < s.size
    · have hjl : j < s.data.toList.length := by rw [hlen]; exact hjs
      have hst := bodyB_take s.data.toList j hjl
      have hbl := bodyB_length (s.data.toList.take j)
      rw [List.length_take] at hbl
      obtain ⟨c, hcj⟩ : ∃ c : UInt8, s[j] = c := ⟨_, rfl⟩
      rw [show s.data.toList[j] = c from hcj] at hst
      have HS := hid hst
      clear hst
      by_cases h34 : c = 34
      · subst h34
        have he : escB 34 = [92, 34] := rfl
        go_wp2_with fail
        refine (cWByte w _ _ _ 92 _ rfl hb (by simp; omega)).mono ?_
        rintro e w2 ⟨rfl, h2⟩
        go_wp2_with fail
        refine (cWByte w _ _ _ 34 _ rfl h2 (by simp; omega)).mono ?_
        rintro e w3 ⟨rfl, h3⟩
        go_wp2_with fail
        exact ⟨⟨j + 1, by omega, by go_num, by rw [HS.out, he]; simpa using h3⟩, by simp [intOf]; omega⟩
      by_cases h92 : c = 92
      · subst h92
        have he : escB 92 = [92, 92] := rfl
        go_wp2_with fail
        refine (cWByte w _ _ _ 92 _ rfl hb (by simp; omega)).mono ?_
        rintro e w2 ⟨rfl, h2⟩
        go_wp2_with fail
        refine (cWByte w _ _ _ 92 _ rfl h2 (by simp; omega)).mono ?_
        rintro e w3 ⟨rfl, h3⟩
        go_wp2_with fail
        exact ⟨⟨j + 1, by omega, by go_num, by rw [HS.out, he]; simpa using h3⟩, by simp [intOf]; omega⟩
      have k34 : c.toNat ≠ 34 := fun h => h34 (UInt8.toNat_inj.1 h)
      have k92 : c.toNat ≠ 92 := fun h => h92 (UInt8.toNat_inj.1 h)
      have e34 : ((c.toNat : Int) == 34) = false := by simp; omega
      have e92 : ((c.toNat : Int) == 92) = false := by simp; omega
      by_cases hx : c.toNat < 32 ∨ 126 < c.toNat
      · have he : Hid (escB c = [92, 120, hexB (c.toNat / 16), hexB (c.toNat % 16)]) := by show _ = _; unfold escB; rw [if_neg (by simp [h34, h92]), if_pos hx]
        have hc := c.toNat_lt
        clear h34 h92 k34 k92
        rcases hx with hx | hx
        · go_wp2_with fail
          refine (cWText w _ _ _ _ hb (by show _ + 2 ≤ 1000; simp; omega)).mono ?_
          rintro e w2 ⟨rfl, h2⟩
          go_wp2_with fail
          refine (cWByte w _ _ _ (hexB (c.toNat / 16)) _ (by rw [digAt]) h2 (by simp; omega)).mono ?_
          rintro e w3 ⟨rfl, h3⟩
          go_wp2_with fail
          refine (cWByte w _ _ _ (hexB (c.toNat % 16)) _ (by rw [digAt]) h3 (by simp; omega)).mono ?_
          rintro e w4 ⟨rfl, h4⟩
          go_wp2_with fail
          exact ⟨⟨j + 1, by omega, by go_num, by rw [HS.out, he.out]; simpa using h4⟩, by simp [intOf]; omega⟩
        · go_wp2_with fail
          refine (cWText w _ _ _ _ hb (by show _ + 2 ≤ 1000; simp; omega)).mono ?_
          rintro e w2 ⟨rfl, h2⟩
          go_wp2_with fail
          refine (cWByte w _ _ _ (hexB (c.toNat / 16)) _ (by rw [digAt]) h2 (by simp; omega)).mono ?_
          rintro e w3 ⟨rfl, h3⟩
          go_wp2_with fail
          refine (cWByte w _ _ _ (hexB (c.toNat % 16)) _ (by rw [digAt]) h3 (by simp; omega)).mono ?_
          rintro e w4 ⟨rfl, h4⟩
          go_wp2_with fail
          exact ⟨⟨j + 1, by omega, by go_num, by rw [HS.out, he.out]; simpa using h4⟩, by simp [intOf]; omega⟩
      · have he : Hid (escB c = [c]) := by show _ = _; unfold escB; rw [if_neg (by simp [h34, h92]), if_neg hx]
        have g1 : ¬ c.toNat < 32 := by omega
        have g2 : ¬ 126 < c.toNat := by omega
        clear h34 h92 k34 k92 hx
        go_wp2_with fail
        refine (cWByte w _ _ _ c _ rfl hb (by simp; omega)).mono ?_
        rintro e w2 ⟨rfl, h2⟩
        go_wp2_with fail
        exact ⟨⟨j + 1, by omega, by go_num, by rw [HS.out, he.out]; simpa using h2⟩, by simp [intOf]; omega⟩
    · have hjl : j = s.size := by omega
      subst hjl
      rw [← hlen, List.take_length] at hb
      have hbl := bodyB_length s.data.toList
      go_wp2_with fail
      refine (cWByte w _ _ _ 34 _ rfl hb (by simp; omega)).mono ?_
      rintro e w2 ⟨rfl, h2⟩
      go_wp2_with fail
      refine (cBStr w _ _ _ h2).mono ?_
      rintro e w3 ⟨rfl, h3⟩
      go_wp2_with fail
      go_ret
      exact ⟨rfl, h3.2⟩
end Go.Proofs.YtboibllahibicaaDoor

/- The reader's calls: what each answers, and how the reader stands behind it: number, Read, Err, Left, End, Fail, take. -/
import Derived.Test.YtcmfhejjndlnnaaWrc
namespace Go.Proofs.Ytcmfhejjndlnnaa
open Go.RowKit Go.Hay
set_option linter.unusedVariables false

theorem or_byte (m x : Nat) (hm : m < 72057594037927936) (hx : x < 256) : bits BinOp.or IntKind.u64 (IntKind.u64.wrap ((m : Int) * 256)) (x : Int) = ((m * 256 + x : Nat) : Int) := by
  have e : IntKind.u64.wrap ((m : Int) * 256) = ((m * 256 : Nat) : Int) := by rw [IntKind.wrap_u64]; omega
  rw [e, bits_or_u64_nat _ _ (by omega) (by omega)]
  have := Nat.two_pow_add_eq_or_of_lt (i := 8) (b := x) (by omega) m
  rw [Nat.mul_comm m 256]
  congr 1
  exact this.symm
theorem num_take_succ (xs : List UInt8) (k : Nat) (h : k < xs.length) : num (xs.take (k + 1)) = num (xs.take k) * 256 + xs[k].toNat := by
  rw [List.take_succ_eq_append_getElem h, num_snoc]
theorem num_take_lt (xs : List UInt8) (k : Nat) (h : k ≤ 7) : num (xs.take k) < 72057594037927936 := by
  have h1 := num_lt (xs.take k)
  have h2 : (xs.take k).length ≤ 7 := by simp; omega
  have h3 : 256 ^ (xs.take k).length ≤ 256 ^ 7 := Nat.pow_le_pow_right (by omega) h2
  omega
theorem num_lt64 (xs : List UInt8) (h : xs.length ≤ 8) : num xs < 18446744073709551616 := by
  have h1 := num_lt xs
  have h3 : 256 ^ xs.length ≤ 256 ^ 8 := Nat.pow_le_pow_right (by omega) h
  omega

set_option maxHeartbeats 400000 in
theorem cNumber (a : Option Addr) (n c : Nat) (xs : List UInt8) (w : World) (hs : Sees w a xs) (hn : n = xs.length) (hb : xs.length ≤ 8) :
    Calls Try.prog 35 #[.slice a n c] w fun e w' => e = .returned (.int .u64 (num xs)) ∧ w' = w := by
  subst hn
  go_enter Try.func35, Try.ntmps35
  go_wp2_with fail
  go_loop [3, 5, 8] (fun s _ i => ∃ k : Nat, k ≤ xs.length ∧ i = .int .i64 k ∧ s = .int .u64 (num (xs.take k))) (fun _ _ i => xs.length - (intOf i).toNat)
  case atStart => exact ⟨0, Nat.zero_le _, rfl, rfl⟩
  case round =>
    obtain ⟨k, hk, rfl, rfl⟩ := hrel
    by_cases hlt : k < xs.length
    · rcases hs with rfl | ⟨g, o, rfl, hc⟩
      · simp at hlt
      have hck := hc k xs[k] (by simp)
      have H := hid (num_take_succ xs k hlt)
      have H2 := hid (num_take_lt xs k (by omega))
      have hx : xs[k].toNat < 256 := xs[k].toNat_lt
      clear hc
      go_wp2
      refine ⟨⟨k + 1, by omega, by go_num, ?_⟩, by simp [intOf]; omega⟩
      rw [or_byte _ _ H2.out hx, ← H.out]
    · go_wp2
      go_ret
      exact ⟨ret_int (by rw [List.take_of_length_le (by omega)]), rfl⟩

/-- A Reader lies in block p: what is left, bs, in blocks of D; what was amiss, e. -/
structure Rd (w : World) (p : Nat) (D : List Nat) (bs : List UInt8) (e : Int) : Prop where
  left : ∃ a c, w.cell? ⟨p, 0, none⟩ = some (.slice a bs.length c) ∧ bs.length ≤ c ∧ c ≤ maxLen ∧ Sees w a bs ∧ ∀ k ∈ blk a, k ∈ D
  err : w.cell? ⟨p, 1, none⟩ = some (.int .i64 e)
  free0 : w.frozen? ⟨p, 0, none⟩ = false
  free1 : w.frozen? ⟨p, 1, none⟩ = false
  apart : p ∉ D
  dlt : ∀ k ∈ D, k < w.heap.size
theorem Rd.lt {w : World} {p : Nat} {D : List Nat} {bs : List UInt8} {e : Int} (h : Rd w p D bs e) : p < w.heap.size := World.block_lt_of_cell? _ _ h.err
theorem Rd.kept {w w' : World} {S : List Nat} {p : Nat} {D : List Nat} {bs : List UInt8} {e : Int} (h : Rd w p D bs e) (hk : Kp S w w') (hp : p ∉ S) (hD : ∀ k ∈ D, k ∉ S) : Rd w' p D bs e := by
  obtain ⟨a, c, h1, h2, h3, h4, h5⟩ := h.left
  exact ⟨⟨a, c, (hk.cell (p := ⟨p, 0, none⟩) h.lt hp).trans h1, h2, h3, h4.kept hk (fun k hk' => hD k (h5 k hk')), h5⟩, (hk.cell (p := ⟨p, 1, none⟩) h.lt hp).trans h.err,
    (hk.frozen (p := ⟨p, 0, none⟩) h.lt hp).trans h.free0, (hk.frozen (p := ⟨p, 1, none⟩) h.lt hp).trans h.free1, h.apart, fun k hk' => Nat.lt_of_lt_of_le (h.dlt k hk') hk.size⟩
theorem Rd.len {w : World} {p : Nat} {D : List Nat} {bs : List UInt8} {e : Int} (h : Rd w p D bs e) : bs.length ≤ maxLen := by
  obtain ⟨a, c, _, h2, h3, _⟩ := h.left
  omega
/-- Behind a store into the reader's second cell. -/
theorem Rd.setErr {w : World} {p : Nat} {D : List Nat} {bs : List UInt8} {e : Int} (h : Rd w p D bs e) (e' : Int) : Rd (w.setCell ⟨p, 1, none⟩ (.int .i64 e')) p D bs e' ∧ Kp [p] w (w.setCell ⟨p, 1, none⟩ (.int .i64 e')) := by
  have k1 : Kp [p] w (w.setCell ⟨p, 1, none⟩ (.int .i64 e')) := (Kp.refl [p] w).setCell (by simp) _
  obtain ⟨a, c, h1, h2, h3, h4, h5⟩ := h.left
  refine ⟨⟨⟨a, c, ?_, h2, h3, h4.kept k1 (fun k hk hm => ?_), h5⟩, World.cell?_setCell_same _ _ _ h.err, ?_, ?_, h.apart, fun k hk => Nat.lt_of_lt_of_le (h.dlt k hk) k1.size⟩, k1⟩
  · rw [World.cell?_setCell_other _ _ _ _ (by simp)]; exact h1
  · rw [List.mem_singleton] at hm; subst hm; exact h.apart (h5 _ hk)
  · rw [World.frozen?_setCell]; exact h.free0
  · rw [World.frozen?_setCell]; exact h.free1
/-- Behind a store into its first one. -/
theorem Rd.setLeft {w : World} {p : Nat} {D : List Nat} {bs bs' : List UInt8} {e : Int} (h : Rd w p D bs e) (a : Option Addr) (c n : Nat) (hn : n = bs'.length) (h2 : bs'.length ≤ c) (h3 : c ≤ maxLen) (h4 : Sees w a bs') (h5 : ∀ k ∈ blk a, k ∈ D) :
    Rd (w.setCell ⟨p, 0, none⟩ (.slice a n c)) p D bs' e ∧ Kp [p] w (w.setCell ⟨p, 0, none⟩ (.slice a n c)) := by
  subst hn
  have k1 : Kp [p] w (w.setCell ⟨p, 0, none⟩ (.slice a bs'.length c)) := (Kp.refl [p] w).setCell (by simp) _
  obtain ⟨a0, c0, h1, _⟩ := h.left
  refine ⟨⟨⟨a, c, World.cell?_setCell_same _ _ _ h1, h2, h3, h4.kept k1 (fun k hk hm => ?_), h5⟩, ?_, ?_, ?_, h.apart, fun k hk => Nat.lt_of_lt_of_le (h.dlt k hk) k1.size⟩, k1⟩
  · rw [List.mem_singleton] at hm; subst hm; exact h.apart (h5 _ hk)
  · rw [World.cell?_setCell_other _ _ _ _ (by simp)]; exact h.err
  · rw [World.frozen?_setCell]; exact h.free0
  · rw [World.frozen?_setCell]; exact h.free1

set_option maxHeartbeats 400000 in
theorem rRead (a : Option Addr) (n c : Nat) (xs : List UInt8) (w : World) (hs : Sees w a xs) (hn : n = xs.length) (hb : xs.length ≤ 200000000000000) :
    Calls Try.prog 5 #[.slice a n c] w fun e w' => ∃ p D, e = .returned (.pointer (some ⟨p, 0, none⟩)) ∧ Rd w' p D xs 0 ∧ Kp [] w w' ∧ w.heap.size ≤ p ∧ ∀ k ∈ D, w.heap.size ≤ k := by
  subst hn
  go_enter Try.func5, Try.ntmps5
  go_wp2_with fail
  refine (cClone a _ c xs _ hs rfl hb).mono ?_
  rintro e w1 ⟨v', rfl, h1, h2, h3⟩
  have hsee := h1.sees
  have hcap : ∀ a c, v' = .slice a xs.length c → c ≤ maxLen ∧ xs.length ≤ c := by
    intro a c e
    rcases h1 with ⟨rfl, rfl⟩ | ⟨g, o, cap, rfl, hl, hm, _⟩
    · cases e; exact ⟨Nat.zero_le _, Nat.le_refl _⟩
    · cases e; exact ⟨hm, hl⟩
  have hlt := h1.lt
  obtain ⟨a', c', rfl, hs', hown⟩ := hsee
  have hc' := hcap a' c' rfl
  clear hcap h1
  go_wp2_with fail
  go_ret
  have k1 : Kp [] w1 (w1.alloc (.cells #[.slice a' xs.length c', .int .i64 0] 44)) := (Kp.refl _ _).alloc _
  have hsz := h2.size
  refine ⟨w1.heap.size, own (.slice a' xs.length c'), rfl, ⟨⟨a', c', by simp, hc'.2, hc'.1, hs'.kept k1 (by simp), fun k hk => by rw [hown]; exact hk⟩, by simp, by simp, by simp, fun hm => ?_, fun k hk => by have := hlt k hk; simp; omega⟩, h2.trans k1 (by simp), hsz, h3⟩
  have := hlt _ hm
  omega

set_option maxHeartbeats 400000 in
theorem rErr (p : Nat) (D : List Nat) (bs : List UInt8) (e0 : Int) (w : World) (h : Rd w p D bs e0) :
    Calls Try.prog 10 #[.pointer (some ⟨p, 0, none⟩)] w fun e w' => e = .returned (.int .i64 e0) ∧ w' = w := by
  have h1 := h.err
  go_enter Try.func10, Try.ntmps10
  go_wp2
  go_ret
  exact ⟨rfl, rfl⟩

set_option maxHeartbeats 400000 in
theorem rLeft (p : Nat) (D : List Nat) (bs : List UInt8) (e0 : Int) (w : World) (h : Rd w p D bs e0) :
    Calls Try.prog 11 #[.pointer (some ⟨p, 0, none⟩)] w fun e w' => e = .returned (.int .i64 bs.length) ∧ w' = w := by
  obtain ⟨a, c, h1, _⟩ := h.left
  go_enter Try.func11, Try.ntmps11
  go_wp2
  go_ret
  exact ⟨rfl, rfl⟩

/-- What End tells. -/
def endE (bs : List UInt8) (e : Int) : Int := if e = 0 ∧ 0 < bs.length then 13 else e

set_option maxHeartbeats 400000 in
theorem rEnd (p : Nat) (D : List Nat) (bs : List UInt8) (e0 : Int) (w : World) (h : Rd w p D bs e0) :
    Calls Try.prog 22 #[.pointer (some ⟨p, 0, none⟩)] w fun e w' => e = .returned (.int .i64 (endE bs e0)) ∧ w' = w := by
  obtain ⟨a, c, h1, _⟩ := h.left
  have h2 := h.err
  clear h
  by_cases he : e0 = 0
  · subst he
    by_cases hl : 0 < bs.length
    · rw [show endE bs 0 = 13 by simp [endE, hl]]
      go_enter Try.func22, Try.ntmps22
      go_wp2
      go_ret
      exact ⟨rfl, rfl⟩
    · rw [show endE bs 0 = 0 by simp only [endE]; rw [if_neg (fun h => hl h.2)]]
      go_enter Try.func22, Try.ntmps22
      go_wp2
      go_ret
      exact ⟨rfl, rfl⟩
  · rw [show endE bs e0 = e0 by simp [endE, he]]
    have he' : (e0 == 0) = false := by simpa using he
    go_enter Try.func22, Try.ntmps22
    go_wp2
    go_ret
    exact ⟨rfl, rfl⟩

set_option maxHeartbeats 400000 in
theorem rFail (p : Nat) (D : List Nat) (bs : List UInt8) (e0 e1 : Int) (w : World) (h : Rd w p D bs e0) :
    Calls Try.prog 40 #[.pointer (some ⟨p, 0, none⟩), .int .i64 e1] w fun e w' => e = .returned (.tuple #[]) ∧ Rd w' p D bs (if e0 = 0 then e1 else e0) ∧ Kp [p] w w' := by
  have h2 := h.err
  have h3 := h.free1
  by_cases he : e0 = 0
  · subst he
    obtain ⟨r1, r2⟩ := h.setErr e1
    go_enter Try.func40, Try.ntmps40
    go_wp2
    go_end0
    exact ⟨rfl, r1, r2⟩
  · have he' : (e0 == 0) = false := by simpa using he
    rw [if_neg he]
    go_enter Try.func40, Try.ntmps40
    go_wp2
    go_end0
    exact ⟨rfl, h, Kp.refl _ _⟩
end Go.Proofs.Ytcmfhejjndlnnaa

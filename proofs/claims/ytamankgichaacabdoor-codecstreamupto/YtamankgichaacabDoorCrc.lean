/- Plain mathematics of the checksum: a step by half bytes is four single steps; one bit that is turned is found. -/
import Derived.Test.YtamankgichaacabDoorMath
namespace Go.Hay
set_option linter.unusedVariables false

/-- One step of the register. -/
def bit1 (r : Nat) : Nat := if r % 2 = 1 then r / 2 ^^^ 3988292384 else r / 2
def bitN : Nat → Nat → Nat
  | 0, r => r
  | k + 1, r => bit1 (bitN k r)
def crcTab : List Nat := [0, 498536548, 997073096, 651767980, 1994146192, 1802195444, 1303535960, 1342533948, 3988292384, 4027552580, 3604390888, 3412177804, 2607071920, 2262029012, 2685067896, 3183342108]
def nib (r : Nat) : Nat := r / 16 ^^^ crcTab.getD (r % 16) 0
/-- The register behind a byte. -/
def crcStep (r : Nat) (x : UInt8) : Nat := bitN 8 (r ^^^ x.toNat)
def crcR (r : Nat) (bs : List UInt8) : Nat := bs.foldl crcStep r
/-- The checksum. -/
def crc (bs : List UInt8) : Nat := crcR 4294967295 bs ^^^ 4294967295

theorem xor_mod2 (a b : Nat) : (a ^^^ b) % 2 = (a % 2) ^^^ (b % 2) := by simpa using Nat.xor_mod_two_pow (a := a) (b := b) (n := 1)
theorem xor_left (a b c : Nat) (h : a ^^^ b = a ^^^ c) : b = c := by
  have := congrArg (a ^^^ ·) h
  simp only [← Nat.xor_assoc, Nat.xor_self, Nat.zero_xor] at this
  exact this
theorem xor_ne (a b : Nat) (h : b ≠ 0) : a ^^^ b ≠ a := fun e => h (xor_left a b 0 (by rw [e, Nat.xor_zero]))

theorem bit1_eq (r : Nat) : bit1 r = r / 2 ^^^ (if r % 2 = 1 then 3988292384 else 0) := by unfold bit1; split <;> simp
theorem bit1_xor (a b : Nat) : bit1 (a ^^^ b) = bit1 a ^^^ bit1 b := by
  rw [bit1_eq, bit1_eq, bit1_eq, Nat.xor_div_two, xor_mod2]
  have key : ∀ A B C D E : Nat, E = C ^^^ D → (A ^^^ B) ^^^ E = (A ^^^ C) ^^^ (B ^^^ D) := by
    intro A B C D E h
    rw [h, Nat.xor_assoc, Nat.xor_assoc, ← Nat.xor_assoc B, ← Nat.xor_assoc C, Nat.xor_comm B C]
  apply key
  rcases Nat.mod_two_eq_zero_or_one a with h1 | h1 <;> rcases Nat.mod_two_eq_zero_or_one b with h2 | h2 <;> simp [h1, h2]
theorem bit1_lt (r : Nat) (h : r < 4294967296) : bit1 r < 4294967296 := by
  unfold bit1
  split
  · exact Nat.xor_lt_two_pow (n := 32) (by omega) (by omega)
  · omega
theorem bit1_two (a : Nat) : bit1 (2 * a) = a := by unfold bit1; rw [if_neg (by omega)]; omega
theorem bit1_ne (r : Nat) (h : r < 4294967296) (h0 : r ≠ 0) : bit1 r ≠ 0 := by
  unfold bit1
  split
  · intro e
    have := xor_left (r / 2) 3988292384 (r / 2) (by rw [e, Nat.xor_self])
    omega
  · omega
theorem bitN_xor (k a b : Nat) : bitN k (a ^^^ b) = bitN k a ^^^ bitN k b := by
  induction k with
  | zero => rfl
  | succ k ih => simp only [bitN]; rw [ih, bit1_xor]
theorem bitN_lt (k r : Nat) (h : r < 4294967296) : bitN k r < 4294967296 := by
  induction k with
  | zero => exact h
  | succ k ih => exact bit1_lt _ ih
theorem bitN_ne (k r : Nat) (h : r < 4294967296) (h0 : r ≠ 0) : bitN k r ≠ 0 := by
  induction k with
  | zero => exact h0
  | succ k ih => exact bit1_ne _ (bitN_lt k r h) ih
theorem bitN_add (j k r : Nat) : bitN (j + k) r = bitN j (bitN k r) := by
  induction j with
  | zero => rw [Nat.zero_add]; rfl
  | succ j ih => rw [Nat.succ_add]; simp only [bitN]; rw [ih]
theorem split16 (r : Nat) : r = (16 * (r / 16)) ^^^ (r % 16) := by
  have h1 := Nat.xor_div_two_pow (a := 16 * (r / 16)) (b := r % 16) (n := 4)
  have h2 := Nat.xor_mod_two_pow (a := 16 * (r / 16)) (b := r % 16) (n := 4)
  simp only [show (2 : Nat) ^ 4 = 16 from rfl] at h1 h2
  rw [show 16 * (r / 16) / 16 = r / 16 by omega, show r % 16 / 16 = 0 by omega, Nat.xor_zero] at h1
  rw [show 16 * (r / 16) % 16 = 0 by omega, show r % 16 % 16 = r % 16 by omega, Nat.zero_xor] at h2
  omega
theorem tab_bitN : ∀ d, d < 16 → bitN 4 d = crcTab.getD d 0 := by decide +kernel
theorem nib_eq (r : Nat) : nib r = bitN 4 r := by
  conv => rhs; rw [split16 r]
  rw [bitN_xor, tab_bitN (r % 16) (by omega)]
  show r / 16 ^^^ _ = bit1 (bit1 (bit1 (bit1 (16 * (r / 16))))) ^^^ _
  rw [show 16 * (r / 16) = 2 * (2 * (2 * (2 * (r / 16)))) by omega, bit1_two, bit1_two, bit1_two, bit1_two]
theorem step_nib (r : Nat) (x : UInt8) : nib (nib (r ^^^ x.toNat)) = crcStep r x := by
  rw [nib_eq, nib_eq]
  exact (bitN_add 4 4 _).symm
theorem xor_lt32 (a b : Nat) (ha : a < 4294967296) (hb : b < 4294967296) : a ^^^ b < 4294967296 := Nat.xor_lt_two_pow (n := 32) (by omega) (by omega)
theorem crcStep_lt (r : Nat) (x : UInt8) (h : r < 4294967296) : crcStep r x < 4294967296 := bitN_lt 8 _ (xor_lt32 _ _ h (by have := x.toNat_lt; omega))
theorem crcR_lt (bs : List UInt8) (r : Nat) (h : r < 4294967296) : crcR r bs < 4294967296 := by
  induction bs generalizing r with
  | nil => exact h
  | cons x l ih => exact ih _ (crcStep_lt r x h)
theorem crc_lt (bs : List UInt8) : crc bs < 4294967296 := xor_lt32 _ _ (crcR_lt bs _ (by omega)) (by omega)
theorem crcR_snoc (bs : List UInt8) (x : UInt8) (r : Nat) : crcR r (bs ++ [x]) = crcStep (crcR r bs) x := by simp [crcR]
theorem crcR_append (a b : List UInt8) (r : Nat) : crcR r (a ++ b) = crcR (crcR r a) b := by simp [crcR]

/-- What a difference of the register becomes. -/
theorem crcR_diff (bs : List UInt8) (r d : Nat) (hd : d < 4294967296) (h0 : d ≠ 0) : ∃ d', d' ≠ 0 ∧ d' < 4294967296 ∧ crcR (r ^^^ d) bs = crcR r bs ^^^ d' := by
  induction bs generalizing r d with
  | nil => exact ⟨d, h0, hd, rfl⟩
  | cons x l ih =>
    have e : crcStep (r ^^^ d) x = crcStep r x ^^^ bitN 8 d := by
      unfold crcStep
      rw [Nat.xor_assoc, Nat.xor_comm d, ← Nat.xor_assoc, bitN_xor]
    obtain ⟨d', h1, h2, h3⟩ := ih (crcStep r x) (bitN 8 d) (bitN_lt 8 d hd) (bitN_ne 8 d hd h0)
    exact ⟨d', h1, h2, by show crcR (crcStep (r ^^^ d) x) l = _; rw [e, h3]; rfl⟩
/-- A byte that differs is found. -/
theorem crc_byte (a b : List UInt8) (x y : UInt8) (h : x ≠ y) : crc (a ++ x :: b) ≠ crc (a ++ y :: b) := by
  unfold crc
  rw [crcR_append, crcR_append]
  generalize crcR 4294967295 a = r
  have hx := x.toNat_lt
  have hy := y.toNat_lt
  have hne : x.toNat ^^^ y.toNat ≠ 0 := fun e => by
    have := xor_left x.toNat y.toNat x.toNat (by rw [e, Nat.xor_self])
    exact h (UInt8.toNat_inj.1 this.symm)
  have hlt : x.toNat ^^^ y.toNat < 4294967296 := xor_lt32 _ _ (by omega) (by omega)
  have e : crcStep r y = crcStep r x ^^^ bitN 8 (x.toNat ^^^ y.toNat) := by
    unfold crcStep
    rw [← bitN_xor]
    congr 1
    rw [Nat.xor_assoc, ← Nat.xor_assoc x.toNat x.toNat, Nat.xor_self, Nat.zero_xor]
  obtain ⟨d', h1, h2, h3⟩ := crcR_diff b (crcStep r x) _ (bitN_lt 8 _ hlt) (bitN_ne 8 _ hlt hne)
  show crcR (crcStep r x) b ^^^ 4294967295 ≠ crcR (crcStep r y) b ^^^ 4294967295
  rw [e, h3]
  intro e2
  rw [Nat.xor_comm _ 4294967295, Nat.xor_comm _ 4294967295] at e2
  exact xor_ne _ d' h1 (xor_left _ _ _ e2).symm
end Go.Hay

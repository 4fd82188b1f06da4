/- word, unfold, takeGroups. takePlain. unpack. takeDelta. takeBits. -/
import Derived.Test.YtafcdckpicoppaaGreatDoorB8
import Derived.Deep.RegionHeld3
section
namespace Go.Proofs.YtafcdckpicoppaaGreatDoor
open Go.RowKit Go.Hay
set_option linter.unusedVariables false
set_option linter.unusedSimpArgs false

theorem i64_or_nat (A b : Nat) (hA : A < 72057594037927936) (hb : b < 256) : bits .or .i64 (wrap64 ((A : Int) * 256)) (b : Int) = wrap64 ((A * 256 + b : Nat) : Int) := by
  show IntKind.i64.wrap ((BitVec.ofInt 64 (wrap64 ((A : Int) * 256)) ||| BitVec.ofInt 64 (b : Int)).toNat : Int) = _
  have e1 : (BitVec.ofInt 64 (wrap64 ((A : Int) * 256))).toNat = A * 256 := by
    rw [BitVec.toNat_ofInt]; unfold wrap64; omega
  have e2 : (BitVec.ofInt 64 (b : Int)).toNat = b := by rw [BitVec.toNat_ofInt]; omega
  rw [BitVec.toNat_or, e1, e2, IntKind.wrap_i64]
  have e3 : A * 256 ||| b = A * 256 + b := by
    have := or_sum b A 8 (by omega)
    rw [Nat.or_comm]
    rw [show A * 256 + b = b + A * 2 ^ 8 by omega, ← this]
  rw [e3]
  unfold wrap64
  omega
set_option maxHeartbeats 2000000 in
theorem cWord (a : Option Addr) (c : Nat) (bs : List UInt8) (w : World) (hs : Sees w a bs) (h8 : 8 ≤ bs.length) (hl : bs.length ≤ 900000000000000) :
    Calls Tryz.prog 116 #[.slice a bs.length c] w fun e w' => e = .returned (.int .i64 (wordV bs)) ∧ w' = w := by
  obtain ⟨g, o, rfl, hc⟩ : ∃ g o, a = some ⟨g, o, none⟩ ∧ ∀ j u, bs[j]? = some u → w.cell? ⟨g, o + j, none⟩ = some (.int .u8 u.toNat) := by
    rcases hs with h | h
    · rw [h] at h8; simp at h8
    · exact h
  have hc' := hid hc
  have hF : Hid (wordV bs = wrap64 (num (bs.take 8))) := rfl
  rw [hF.out]
  clear hs hc
  go_enter Tryz.func116, Tryz.ntmps116
  go_wp2_with fail
  go_loopw [3, 5] (fun n i wn => ∃ j : Nat, j ≤ 8 ∧ i = .int .i64 j ∧ n = .int .i64 (wrap64 (num (bs.take j))) ∧ wn = w) (fun _ i _ => 8 - (intOf i).toNat)
  case atStart => exact ⟨0, Nat.zero_le _, rfl, by simp [num, wrap64], rfl⟩
  case round =>
    obtain ⟨j, hj, rfl, rfl, rfl⟩ := hrel
    by_cases hlt : j < 8
    · have hjl : j < bs.length := by omega
      have hcx := hc'.out j bs[j] (by simp [hjl])
      have hx := bs[j].toNat_lt
      have hs := hid (num_take_succ bs j hjl)
      have hA := num_take_lt bs j (by omega)
      generalize bs[j].toNat = x at *
      obtain ⟨A, hAA⟩ : ∃ A, Hid (num (bs.take j) = A) := ⟨_, rfl⟩
      rw [hAA.out] at hs hA ⊢
      have eA : wrap64 (A : Int) = (A : Int) := by unfold wrap64; omega
      have hor := i64_or_nat A x hA hx
      rw [← hs.out] at hor
      rw [eA]
      clear eA
      go_wp2_with fail
      exact ⟨⟨j + 1, by omega, by go_num, rfl, trivial⟩, by simp [intOf]; omega⟩
    · obtain rfl : j = 8 := by omega
      obtain ⟨A, hAA⟩ : ∃ A, Hid (wrap64 (num (bs.take 8)) = A) := ⟨_, rfl⟩
      rw [hAA.out]
      go_wp2_with fail
      go_ret
      exact ⟨by rw [hAA.out]; rfl, rfl⟩
theorem i64_not (d : Nat) (h : d < 9223372036854775808) : bits .xor .i64 (-1) (d : Int) = -(d : Int) - 1 := by
  show IntKind.i64.wrap ((BitVec.ofInt 64 (-1) ^^^ BitVec.ofInt 64 (d : Int)).toNat : Int) = _
  have h1 : BitVec.ofInt 64 (-1) = BitVec.allOnes 64 := by decide
  rw [h1, BitVec.allOnes_xor, BitVec.toNat_not]
  have e2 : (BitVec.ofInt 64 (d : Int)).toNat = d := by rw [BitVec.toNat_ofInt]; omega
  rw [e2, IntKind.wrap_i64]
  omega
theorem cUnfold (z : Nat) (hz : z < 18446744073709551616) (w : World) : Calls Tryz.prog 118 #[.int .u64 (z : Int)] w fun e w' => e = .returned (.int .i64 (zag z)) ∧ w' = w := by
  have hn := i64_not (z / 2) (by omega)
  by_cases h : z % 2 = 0
  · have hF : Hid (zag z = ((z / 2 : Nat) : Int)) := by show _ = _; unfold zag; rw [if_pos h]
    rw [hF.out]
    clear hn
    go_enter Tryz.func118, Tryz.ntmps118
    go_wp2_with fail
    go_ret
    exact ⟨by go_num, rfl⟩
  · have hF : Hid (zag z = -((z / 2 : Nat) : Int) - 1) := by show _ = _; unfold zag; rw [if_neg h]
    have h1 : z % 2 = 1 := by omega
    rw [hF.out]
    have hn' := hid hn
    clear hn
    go_enter Tryz.func118, Tryz.ntmps118
    go_wp2_with fail
    go_ret
    refine ⟨?_, rfl⟩
    have e : ((z / 2 : Nat) : Int) = (z : Int) / 2 := by omega
    rw [e] at hn'
    have := hn'.out
    simp [this]
theorem grp_step (j z x : Nat) (hj : j < 10) (hz : z < 2 ^ (7 * j)) (hz2 : z < 18446744073709551616) : bits .or .u64 (z : Int) (IntKind.u64.wrap ((x : Int) % 128 * 2 ^ (7 * j))) = ((z + x % 128 * 2 ^ (7 * j) % 18446744073709551616 : Nat) : Int) ∧ z + x % 128 * 2 ^ (7 * j) % 18446744073709551616 < 2 ^ (7 * (j + 1)) ∧ z + x % 128 * 2 ^ (7 * j) % 18446744073709551616 < 18446744073709551616 := by
  have hx : x % 128 < 128 := Nat.mod_lt _ (by omega)
  have e : IntKind.u64.wrap ((x : Int) % 128 * 2 ^ (7 * j)) = ((x % 128 * 2 ^ (7 * j) % 18446744073709551616 : Nat) : Int) := by
    have e2 : (x : Int) % 128 * 2 ^ (7 * j) = ((x % 128 * 2 ^ (7 * j) : Nat) : Int) := by simp
    rw [IntKind.wrap_u64, e2]
    omega
  have hdiv : ∃ y, x % 128 * 2 ^ (7 * j) % 18446744073709551616 = y * 2 ^ (7 * j) ∧ y < 128 := by
    by_cases h9 : j = 9
    · subst h9
      exact ⟨x % 128 % 2, by omega, by omega⟩
    · have : 2 ^ (7 * j) ≤ 2 ^ 56 := Nat.pow_le_pow_right (by omega) (by omega)
      have h2 : x % 128 * 2 ^ (7 * j) ≤ 127 * 2 ^ 56 := Nat.mul_le_mul (by omega) this
      exact ⟨x % 128, by omega, hx⟩
  obtain ⟨y, hy, hy2⟩ := hdiv
  have hlt : x % 128 * 2 ^ (7 * j) % 18446744073709551616 < 18446744073709551616 := Nat.mod_lt _ (by omega)
  rw [e, hy]
  rw [hy] at hlt
  have hor : z ||| y * 2 ^ (7 * j) = z + y * 2 ^ (7 * j) := or_sum z y (7 * j) hz
  have hlt2 : z ||| y * 2 ^ (7 * j) < 2 ^ 64 := Nat.or_lt_two_pow (by omega) (by omega)
  rw [hor] at hlt2
  refine ⟨?_, ?_, by omega⟩
  · rw [u64_or_nat z (y * 2 ^ (7 * j)) hz2 hlt, hor]
  · have e7 : 2 ^ (7 * (j + 1)) = 128 * 2 ^ (7 * j) := by rw [show 7 * (j + 1) = 7 + 7 * j by omega, Nat.pow_add]
    rw [e7]
    have : y * 2 ^ (7 * j) ≤ 127 * 2 ^ (7 * j) := Nat.mul_le_mul_right _ (by omega)
    omega
set_option maxHeartbeats 2000000 in
set_option maxRecDepth 100000 in
theorem cTakeGroups (a : Option Addr) (c : Nat) (bs : List UInt8) (w : World) (hs : Sees w a bs) (hl : bs.length ≤ 900000000000000) :
    Calls Tryz.prog 117 #[.slice a bs.length c] w fun e w' => e = .returned (.tuple #[.int .u64 ((tkG 0 0 bs).1 : Int), .int .i64 ((tkG 0 0 bs).2 : Int)]) ∧ w' = w := by
  obtain ⟨F, hF⟩ : ∃ F, Hid (tkG 0 0 bs = F) := ⟨_, rfl⟩
  rw [hF.out]
  obtain ⟨g, o, haa, hc'⟩ : ∃ g o, (bs ≠ [] → a = some ⟨g, o, none⟩) ∧ Hid (∀ j u, bs[j]? = some u → w.cell? ⟨g, o + j, none⟩ = some (.int .u8 u.toNat)) := by
    rcases hs with h | ⟨g, o, h, hc⟩
    · subst h; exact ⟨0, 0, fun h => absurd rfl h, fun j u hu => by simp at hu⟩
    · exact ⟨g, o, fun _ => h, hc⟩
  have haa' := hid haa
  clear hs haa
  by_cases h10 : bs.length ≤ 10
  · have d10 : (bs.length : Int) ≤ 10 := by omega
    go_enter Tryz.func117, Tryz.ntmps117
    go_wp2_with fail
    go_loopw [4, 9] (fun n i wn => ∃ j z : Nat, j ≤ bs.length ∧ i = .int .i64 j ∧ n = .int .u64 (z : Int) ∧ z < 2 ^ (7 * j) ∧ z < 18446744073709551616 ∧ Hid (tkG j z (bs.drop j) = F) ∧ wn = w) (fun _ i _ => bs.length - (intOf i).toNat)
    case atStart => exact ⟨0, 0, Nat.zero_le _, rfl, rfl, by decide, by decide, hF, rfl⟩
    case round =>
      obtain ⟨j, z, hj, rfl, rfl, hz, hz2, hT, rfl⟩ := hrel
      by_cases hlt : j < bs.length
      · have hjl : j < bs.length := by omega
        have hj1 : j < 10 := by omega
        have hcx := hc'.out j bs[j] (by simp [hjl])
        rw [haa'.out (fun h => by rw [h] at hjl; simp at hjl)]
        have hx := bs[j].toNat_lt
        rw [List.drop_eq_getElem_cons hjl, tkG, if_pos hj1] at hT
        obtain ⟨hg1, hg2, hg3⟩ := grp_step j z bs[j].toNat hj1 hz hz2
        generalize bs[j].toNat = x at *
        obtain ⟨Z, hZ⟩ : ∃ Z, Hid (z + x % 128 * 2 ^ (7 * j) % 18446744073709551616 = Z) := ⟨_, rfl⟩
        rw [hZ.out] at hT hg1 hg2 hg3
        have hg1' := hid hg1
        clear hg1
        by_cases hx1 : x < 128
        · rw [if_pos hx1] at hT
          have hfin : Hid (F = (Z, j + 1)) := hT.out.symm
          have d1 : (x : Int) < 128 := by omega
          clear hT
          go_wp2_with fail
          go_ret2
          exact ⟨by rw [hfin.out]; simp [hg1'.out], rfl⟩
        · rw [if_neg hx1] at hT
          have d1 : ¬ (x : Int) < 128 := by omega
          go_wp2_with fail
          exact ⟨⟨j + 1, Z, by omega, by go_num, by rw [hg1'.out], hg2, hg3, hT, trivial⟩, by simp [intOf]; omega⟩
      · obtain rfl : j = bs.length := by omega
        have hfin : Hid (F = (0, 0)) := by
          show _ = _
          rw [← hT.out]
          rw [List.drop_length, tkG]
        go_wp2_with fail
        go_ret2
        exact ⟨by rw [hfin.out]; rfl, rfl⟩
  · have d10 : ¬ (bs.length : Int) ≤ 10 := by omega
    go_enter Tryz.func117, Tryz.ntmps117
    go_wp2_with fail
    go_loopw [4, 9] (fun n i wn => ∃ j z : Nat, j ≤ 10 ∧ i = .int .i64 j ∧ n = .int .u64 (z : Int) ∧ z < 2 ^ (7 * j) ∧ z < 18446744073709551616 ∧ Hid (tkG j z (bs.drop j) = F) ∧ wn = w) (fun _ i _ => 10 - (intOf i).toNat)
    case atStart => exact ⟨0, 0, Nat.zero_le _, rfl, rfl, by decide, by decide, hF, rfl⟩
    case round =>
      obtain ⟨j, z, hj, rfl, rfl, hz, hz2, hT, rfl⟩ := hrel
      by_cases hlt : j < 10
      · have hjl : j < bs.length := by omega
        have hj1 : j < 10 := by omega
        have hcx := hc'.out j bs[j] (by simp [hjl])
        rw [haa'.out (fun h => by rw [h] at hjl; simp at hjl)]
        have hx := bs[j].toNat_lt
        rw [List.drop_eq_getElem_cons hjl, tkG, if_pos hj1] at hT
        obtain ⟨hg1, hg2, hg3⟩ := grp_step j z bs[j].toNat hj1 hz hz2
        generalize bs[j].toNat = x at *
        obtain ⟨Z, hZ⟩ : ∃ Z, Hid (z + x % 128 * 2 ^ (7 * j) % 18446744073709551616 = Z) := ⟨_, rfl⟩
        rw [hZ.out] at hT hg1 hg2 hg3
        have hg1' := hid hg1
        clear hg1
        by_cases hx1 : x < 128
        · rw [if_pos hx1] at hT
          have hfin : Hid (F = (Z, j + 1)) := hT.out.symm
          have d1 : (x : Int) < 128 := by omega
          clear hT
          go_wp2_with fail
          go_ret2
          exact ⟨by rw [hfin.out]; simp [hg1'.out], rfl⟩
        · rw [if_neg hx1] at hT
          have d1 : ¬ (x : Int) < 128 := by omega
          go_wp2_with fail
          exact ⟨⟨j + 1, Z, by omega, by go_num, by rw [hg1'.out], hg2, hg3, hT, trivial⟩, by simp [intOf]; omega⟩
      · obtain rfl : j = 10 := by omega
        have hfin : Hid (F = (0, 0)) := by
          show _ = _
          rw [← hT.out]
          cases hd : bs.drop 10 with
          | nil => rw [tkG]
          | cons x r => rw [tkG, if_neg (by omega)]
        go_wp2_with fail
        go_ret2
        exact ⟨by rw [hfin.out]; rfl, rfl⟩
end Go.Proofs.YtafcdckpicoppaaGreatDoor
end

section
namespace Go.Proofs.YtafcdckpicoppaaGreatDoor
open Go.RowKit Go.Hay
set_option linter.unusedVariables false
set_option linter.unusedSimpArgs false

/-- What takePlain hands back. -/
def TkP (w : World) (r : Option (List Val × List UInt8)) (e : Ending) (w' : World) : Prop :=
  match r with
  | none => e = .returned (.tuple #[.slice none 0 0, .slice none 0 0, .bool false]) ∧ Kp [] w w'
  | some q => ∃ a c b d, e = .returned (.tuple #[.slice a q.1.length c, .slice b q.2.length d, .bool true]) ∧ VE.Row w' (.slice a q.1.length c) q.1 ∧ Sees w b q.2 ∧ q.2.length ≤ d ∧ d ≤ maxLen ∧ Kp [] w w' ∧ ∀ k ∈ blk a, w.heap.size ≤ k
/-- A value laid at a place of a row of values. -/
theorem nv_nil : nilV = nv := rfl
structure TpI (w W : World) (many j : Nat) (ba : Option Addr) (bc : Nat) (rest : List UInt8) (acc : List Val) (F : Option (List Val × List UInt8)) : Prop where
  see : Sees w ba rest
  len : rest.length ≤ bc
  cap : bc ≤ 9223372036854775807
  few : rest.length ≤ 900000000000000
  row : VE.Row W (.slice (some ⟨w.heap.size, 0, none⟩) many many) (acc ++ List.replicate (many - j) nv)
  kp : Kp [] w W
  al : Hid (acc.length = j)
  fin : Hid (tkP (many - j) acc rest = F)
set_option maxHeartbeats 8000000 in
set_option maxRecDepth 100000 in
theorem cTakePlain (a : Option Addr) (c : Nat) (bs : List UInt8) (many : Nat) (w : World) (hs : Sees w a bs) (hl : bs.length ≤ c) (hm : c ≤ maxLen) (hb : bs.length ≤ 900000000000000) (hmn : many ≤ 255) :
    Calls Tryz.prog 103 #[.slice a bs.length c, .int .i64 many] w (TkP w (tkP many [] bs)) := by
  obtain ⟨i0, hi, hz0, hz1, hz2⟩ := infoV'
  obtain ⟨W1, hmk, hrow1, k1, hs1⟩ := run_makeG (E := VE) (P := Tryz.prog) w 32 25 i0 _ nv 40 Tryz.underlying32 hi hz0 hz1 hz2 rfl .i64 .i64 many (by omega) (by unfold maxLen; omega)
  obtain ⟨F, hF⟩ : ∃ F, Hid (tkP many [] bs = F) := ⟨_, rfl⟩
  rw [hF.out]
  unfold maxLen at hm
  have I0 : Hid (TpI w W1 many 0 a c bs [] F) := ⟨hs, hl, hm, hb, by simpa using hrow1, k1, rfl, by simpa using hF⟩
  clear hs hrow1 k1 hF
  go_enter Tryz.func103, Tryz.ntmps103
  go_wp2_with fail
  go_loopw [0, 15] (fun v0 i wn => ∃ (j : Nat) (ba : Option Addr) (bc : Nat) (rest : List UInt8) (acc : List Val), j ≤ many ∧ i = .int .i64 j ∧ v0 = .slice ba rest.length bc ∧ TpI w wn many j ba bc rest acc F) (fun _ i _ => many - (intOf i).toNat)
  case atStart => exact ⟨0, a, c, bs, [], Nat.zero_le _, rfl, rfl, I0.out⟩
  case round =>
    clear I0 hmk
    obtain ⟨j, ba, bc, rest, acc, hj, rfl, rfl, I⟩ := hrel
    by_cases hlt : j < many
    · have hkw := I.kp
      have hcap := I.cap
      have hlen := I.len
      have hfew := I.few
      have ht := cTakeV ba bc rest wr (I.see.kept I.kp (by simp)) I.len (by unfold maxLen; omega) I.few
      have htle := tkV_le rest
      have hfin := I.fin
      rw [show many - j = (many - (j + 1)) + 1 by omega, tkP] at hfin
      obtain ⟨⟨v, sz⟩, htk⟩ : ∃ t, Hid (tkV rest = t) := ⟨_, rfl⟩
      rw [htk.out] at ht htle hfin
      unfold Tk at ht
      dsimp only at ht htle hfin
      have hxv : Hid (v.v = .agg #[.int .i64 v.k, .bool v.b, .int .i64 v.n, .string v.t]) := rfl
      rw [hxv.out] at ht
      have hI := hid I
      clear I hxv
      go_wp2_with fail
      refine ht.mono ?_
      rintro e w1 ⟨rfl, k1⟩
      obtain ⟨wb, hwb⟩ : ∃ wb, w1.alloc (.cells #[.int .i64 v.k, .bool v.b, .int .i64 v.n, .string v.t] 25) = wb := ⟨_, rfl⟩
      have kb : Kp [] w1 wb := by rw [← hwb]; exact (Kp.refl _ _).alloc _
      have bx : Box4 wb w1.heap.size (.int .i64 v.k) (.bool v.b) (.int .i64 v.n) (.string v.t) := by rw [← hwb]; exact Box4.new _ _ _ _ _ _
      have kwb : Kp [] w wb := (hkw.trans k1 (by simp)).trans kb (by simp)
      by_cases hsz : sz = 0
      · subst hsz
        rw [if_pos rfl] at hfin
        have hF' : Hid (F = none) := hfin.out.symm
        have hP : TkP w F (.returned (.tuple #[.slice none 0 0, .slice none 0 0, .bool false])) wb := by rw [hF'.out]; exact ⟨rfl, kwb⟩
        clear hfin hI ht hF'
        go_wp2_with fail
        go_ret3
        exact hP
      · rw [if_neg hsz] at hfin
        have hsz' : ((sz : Int) == 0) = false := by rw [beq_eq_false_iff_ne]; omega
        have hrow := hI.out.row.keptNew (k1.trans kb (by simp))
        have hal : (acc ++ List.replicate (many - j) nv).length = many := by rw [List.length_append, hI.out.al.out, List.length_replicate]; omega
        have hcl := rowCellsV hrow j (by rw [hal]; exact hlt)
        obtain ⟨⟨u0, c0⟩, f0⟩ := hcl 0 (by omega)
        obtain ⟨⟨u1, c1⟩, f1⟩ := hcl 1 (by omega)
        obtain ⟨⟨u2, c2⟩, f2⟩ := hcl 2 (by omega)
        obtain ⟨⟨u3, c3⟩, f3⟩ := hcl 3 (by omega)
        rw [Nat.add_zero] at c0 f0
        have hset := rowSetV hrow j (by rw [hal]; exact hlt) v
        have e1 : (acc ++ List.replicate (many - j) nv).set j v = acc ++ [v] ++ List.replicate (many - (j + 1)) nv := by
          have := set_app acc nv v (many - (j + 1))
          rw [hI.out.al.out, show many - (j + 1) + 1 = many - j by omega] at this
          exact this
        rw [e1] at hset
        have kset := kpSet4 (i := j) kwb (Nat.le_refl _) (.int .i64 v.k) (.bool v.b) (.int .i64 v.n) (.string v.t)
        have p0 := bx.c0; have p1 := bx.c1; have p2 := bx.c2; have p3 := bx.c3
        obtain ⟨W3, hW3⟩ : ∃ W3, (((wb.setCell ⟨w.heap.size, j * 4, none⟩ (.int .i64 v.k)).setCell ⟨w.heap.size, j * 4 + 1, none⟩ (.bool v.b)).setCell ⟨w.heap.size, j * 4 + 2, none⟩ (.int .i64 v.n)).setCell ⟨w.heap.size, j * 4 + 3, none⟩ (.string v.t) = W3 := ⟨_, rfl⟩
        rw [hW3] at hset kset
        have hdl : (rest.drop sz).length = rest.length - sz := by simp
        have hnxt : Hid (∀ ba', Sees w ba' (rest.drop sz) → ∃ (j' : Nat) (ba2 : Option Addr) (bc2 : Nat) (rest2 : List UInt8) (acc2 : List Val), j' ≤ many ∧ (.int .i64 ((j : Int) + 1) : Value) = .int .i64 j' ∧ (.slice ba' (rest.length - sz) (bc - sz) : Value) = .slice ba2 rest2.length bc2 ∧ TpI w W3 many j' ba2 bc2 rest2 acc2 F) := fun ba' hsb =>
          ⟨j + 1, ba', bc - sz, rest.drop sz, acc ++ [v], by omega, by go_num, by rw [hdl], hsb, by rw [hdl]; omega, by omega, by rw [hdl]; omega, hset, kset, by show _ = _; simp [hI.out.al.out], hfin⟩
        have htl : Hid (∀ g o, ba = some ⟨g, o, none⟩ → Sees w (some ⟨g, o + sz, none⟩) (rest.drop sz)) := fun g o e => by subst e; have := Sees.tail hI.out.see sz; simpa [Addr.add_lit] using this
        obtain ⟨g, o, rfl⟩ : ∃ g o, ba = some ⟨g, o, none⟩ := by
          rcases hI.out.see with h | ⟨g, o, h, _⟩
          · rw [h] at htle; simp at htle; omega
          · exact ⟨g, o, h⟩
        have htd := hid (htl.out g o rfl)
        have hW3' := hid hW3
        clear hrow hset hfin hI htl hal hW3 ht kset e1 hcl
        by_cases hce : sz = bc
        · have hemp : rest.drop sz = [] := List.drop_eq_nil_of_le (by omega)
          have hN := hid (hnxt.out (some ⟨g, o, none⟩) (by rw [hemp]; exact .inl rfl))
          rw [show rest.length - sz = 0 by omega, show bc - sz = 0 by omega] at hN
          clear hnxt hemp htd
          go_wp2_with fail
          rw [hW3'.out]
          exact ⟨hN.out, by simp [intOf]; omega⟩
        · have hN := hid (hnxt.out (some ⟨g, o + sz, none⟩) htd.out)
          clear hnxt htd
          go_wp2_with fail
          rw [hW3'.out]
          exact ⟨hN.out, by simp [intOf]; omega⟩
    · obtain rfl : j = many := by omega
      have hfin : Hid (F = some (acc, rest)) := by
        have := I.fin.out
        rw [Nat.sub_self, tkP] at this
        exact this.symm
      have hrow := I.row
      rw [Nat.sub_self, List.replicate_zero, List.append_nil] at hrow
      have hP : TkP w F (.returned (.tuple #[.slice (some ⟨w.heap.size, 0, none⟩) j j, .slice ba rest.length bc, .bool true])) wr := by
        rw [hfin.out]
        refine ⟨some ⟨w.heap.size, 0, none⟩, j, ba, bc, by rw [I.al.out], by rw [I.al.out]; exact hrow, I.see, I.len, by unfold maxLen; exact I.cap, I.kp, fun k hk => by simp [blk] at hk; omega⟩
      clear I hrow hfin
      go_wp2_with fail
      go_ret3
      exact hP
end Go.Proofs.YtafcdckpicoppaaGreatDoor
end

section
namespace Go.Proofs.YtafcdckpicoppaaGreatDoor
open Go.RowKit Go.Hay
set_option linter.unusedVariables false
set_option linter.unusedSimpArgs false

/-- What unpack hands back. -/
def UpP (w : World) (r : Option (List Nat)) (e : Ending) (w' : World) : Prop :=
  match r with
  | none => e = .returned (.tuple #[.slice none 0 0, .bool false]) ∧ Kp [] w w'
  | some l => ∃ a c, e = .returned (.tuple #[.slice a l.length c, .bool true]) ∧ U64E.Row w' (.slice a l.length c) l ∧ Kp [] w w' ∧ ∀ k ∈ blk a, w.heap.size ≤ k
theorem or_up (A x k r : Nat) (hk : k < 64) (hA : A < 2 ^ k) (hx : x < 256) : bits .or .u64 (A : Int) (IntKind.u64.wrap (IntKind.u64.wrap (bits .and .u8 ((x : Int) / 2 ^ r) 1) * 2 ^ k)) = ((A + x / 2 ^ r % 2 * 2 ^ k : Nat) : Int) := by
  have e1 : (x : Int) / 2 ^ r = ((x / 2 ^ r : Nat) : Int) := by simp
  have hy : x / 2 ^ r < 256 := Nat.lt_of_le_of_lt (Nat.div_le_self _ _) hx
  rw [e1]
  generalize x / 2 ^ r = y at hy
  have e2 : bits .and .u8 (y : Int) 1 = ((y % 2 : Nat) : Int) := by
    have := u8_and_nat y 1 hy (by omega)
    rw [Nat.and_one_is_mod] at this
    exact this
  have e2' : IntKind.u64.wrap ((y % 2 : Nat) : Int) = ((y % 2 : Nat) : Int) := by rw [IntKind.wrap_u64]; omega
  rw [e2, e2']
  have hb : y % 2 < 2 := Nat.mod_lt _ (by omega)
  generalize y % 2 = b at hb
  have h2 : 2 ^ k ≤ 2 ^ 63 := Nat.pow_le_pow_right (n := 2) (by omega) (by omega)
  have hm : b * 2 ^ k ≤ 1 * 2 ^ k := Nat.mul_le_mul_right _ (by omega)
  have e3 : IntKind.u64.wrap ((b : Int) * 2 ^ k) = ((b * 2 ^ k : Nat) : Int) := by
    have h4 : (b : Int) * 2 ^ k = ((b * 2 ^ k : Nat) : Int) := by simp
    rw [h4, IntKind.wrap_u64]
    omega
  rw [e3, u64_or_nat A (b * 2 ^ k) (by omega) (by omega), or_sum A b k hA]
/-- So many numbers read, and one half way. -/
def upSt (bs : List UInt8) (wd many j x : Nat) : List Nat := (List.range j).map (fun i => numTo bs wd i wd) ++ x :: List.replicate (many - j - 1) 0
theorem upSt_len (bs : List UInt8) (wd many j x : Nat) (h : j < many) : (upSt bs wd many j x).length = many := by unfold upSt; simp; omega
theorem upSt_set (bs : List UInt8) (wd many j x y : Nat) : (upSt bs wd many j x).set j y = upSt bs wd many j y := by
  unfold upSt
  rw [List.set_append_right _ _ (by simp)]
  simp
theorem upSt_at (bs : List UInt8) (wd many j x : Nat) : (upSt bs wd many j x)[j]? = some x := by
  unfold upSt
  rw [List.getElem?_append_right (by simp)]
  simp
def upTo (bs : List UInt8) (wd many j : Nat) : List Nat := (List.range j).map (fun i => numTo bs wd i wd) ++ List.replicate (many - j) 0
theorem upTo_st (bs : List UInt8) (wd many j : Nat) (h : j < many) : upTo bs wd many j = upSt bs wd many j (numTo bs wd j 0) := by
  unfold upTo upSt
  rw [show many - j = (many - j - 1) + 1 by omega, List.replicate_succ]; rfl
theorem upSt_to (bs : List UInt8) (wd many j : Nat) (h : j < many) : upSt bs wd many j (numTo bs wd j wd) = upTo bs wd many (j + 1) := by
  unfold upTo upSt
  rw [List.range_succ, List.map_append, show many - j - 1 = many - (j + 1) by omega]; simp
theorem upTo_all (bs : List UInt8) (wd many : Nat) : upTo bs wd many many = upk bs many wd := by unfold upTo upk; simp
set_option maxHeartbeats 4000000 in
set_option maxRecDepth 100000 in
theorem cUnpack (a : Option Addr) (c : Nat) (bs : List UInt8) (many wd : Nat) (w : World) (hs : Sees w a bs) (hb : bs.length ≤ 900000000000000) (hmn : many ≤ 64) (hwd : wd ≤ 64) :
    Calls Tryz.prog 119 #[.slice a bs.length c, .int .i64 many, .int .i64 wd] w (UpP w (upkO bs many wd)) := by
  obtain ⟨i0, hi, hz0, hz1, hz2⟩ := infoU64
  obtain ⟨N, hN⟩ : ∃ N, Hid (many * wd = N) := ⟨_, rfl⟩
  have hNb : N ≤ 4096 := by rw [← hN.out]; exact Nat.mul_le_mul hmn hwd
  have hsz := cPackedSize many wd N hN.out (by omega) w
  obtain ⟨sz, hsz'⟩ : ∃ sz, Hid ((N + 7) / 8 = sz) := ⟨_, rfl⟩
  rw [hsz'.out] at hsz
  have hF : Hid (upkO bs many wd = if bs.length = sz then some (upk bs many wd) else none) := by show _ = _; unfold upkO; rw [hN.out, hsz'.out]
  obtain ⟨F, hFF⟩ : ∃ F, Hid (upkO bs many wd = F) := ⟨_, rfl⟩
  rw [hFF.out] at hF ⊢
  by_cases hE : bs.length = sz
  · have hF2 : Hid (F = some (upk bs many wd)) := by show _ = _; rw [hF.out, if_pos hE]
    have hE' := hid hE
    have hbs : bs.length ≤ 513 := by rw [hE, ← hsz'.out]; omega
    have hszb : sz = bs.length := hE.symm
    have hat : Hid (∀ W, Kp [] w W → ∀ i (hi : i < bs.length), ∃ g o, a = some ⟨g, o, none⟩ ∧ W.cell? ⟨g, o + i, none⟩ = some (.int .u8 bs[i].toNat)) := fun W kW i hi => by
      rcases hs.kept kW (by simp) with h | ⟨g, o, h, hc⟩
      · rw [h] at hi; simp at hi
      · exact ⟨g, o, h, hc i bs[i] (by simp [hi])⟩
    obtain ⟨W1, hmk, hrow1, k1, hs1⟩ := run_makeG (E := U64E) (P := Tryz.prog) w 123 74 i0 (.int .u64 0) 0 8 Tryz.underlying123 hi hz0 hz1 hz2 rfl .i64 .i64 many (by omega) (by unfold maxLen; omega)
    have R0 : Hid (U64E.Row W1 (.slice (some ⟨w.heap.size, 0, none⟩) many many) (upTo bs wd many 0)) := by show U64E.Row _ _ _; simpa [upTo] using hrow1
    have e0 : ((bs.length : Int) != (bs.length : Int)) = false := by simp
    rw [hszb] at hsz
    clear hs hrow1 hF hE hszb hFF
    go_enter Tryz.func119, Tryz.ntmps119
    go_wp2_with fail
    refine hsz.mono ?_
    rintro e w9 ⟨rfl, hw9⟩
    rw [hw9]
    clear hw9 w9 hsz
    go_wp2_with fail
    go_loopw [22] (fun i wn => ∃ j : Nat, j ≤ many ∧ i = .int .i64 j ∧ U64E.Row wn (.slice (some ⟨w.heap.size, 0, none⟩) many many) (upTo bs wd many j) ∧ Kp [] w wn) (fun i _ => many - (intOf i).toNat)
    case atStart => exact ⟨0, Nat.zero_le _, rfl, R0.out, k1⟩
    case round =>
      clear hmk R0 k1 hs1
      obtain ⟨j, hj, rfl, hrow, kn⟩ := hrel
      by_cases hlt : j < many
      · rw [upTo_st bs wd many j hlt] at hrow
        obtain ⟨M, hM⟩ : ∃ M, Hid (j * wd = M) := ⟨_, rfl⟩
        have hMe : (j : Int) * (wd : Int) = (M : Int) := by rw [← hM.out]; simp
        have hMN : M + wd ≤ N := by
          have : (j + 1) * wd ≤ many * wd := Nat.mul_le_mul_right _ hlt
          rw [hN.out, Nat.succ_mul, hM.out] at this
          exact this
        go_wp2_with fail
        go_loopw [26] (fun i wn => ∃ k : Nat, k ≤ wd ∧ i = .int .i64 k ∧ U64E.Row wn (.slice (some ⟨w.heap.size, 0, none⟩) many many) (upSt bs wd many j (numTo bs wd j k)) ∧ Kp [] w wn) (fun i _ => wd - (intOf i).toNat)
        case atStart => exact ⟨0, Nat.zero_le _, rfl, hrow, kn⟩
        case round =>
          clear hrow kn
          obtain ⟨k, hk, rfl, hrow, kn⟩ := hrel
          by_cases hkl : k < wd
          · obtain ⟨q, hq⟩ : ∃ q, (M + k) / 8 = q := ⟨_, rfl⟩
            obtain ⟨r, hr⟩ : ∃ r, (M + k) % 8 = r := ⟨_, rfl⟩
            have eq1 : ((M : Int) + (k : Int)) / 8 = (q : Int) := by omega
            have eq2 : ((M : Int) + (k : Int)) % 8 = (r : Int) := by omega
            have hqs : q < bs.length := by rw [hE'.out, ← hsz'.out]; omega
            have hr8 : r < 8 := by omega
            obtain ⟨g, o, rfl, hcx⟩ := hat.out wr kn q hqs
            have hbit : Hid (bitAt bs (j * wd + k) = bs[q].toNat / 2 ^ r % 2) := by
              show _ = _
              unfold bitAt
              rw [hM.out, hq, hr]
              simp [hqs]
            have hx := bs[q].toNat_lt
            generalize bs[q].toNat = x at *
            have hlt2 := numTo_lt bs wd j k
            have hns : Hid (numTo bs wd j (k + 1) = numTo bs wd j k + x / 2 ^ r % 2 * 2 ^ k) := by show _ = _; rw [numTo, hbit.out]
            have hold := upSt_at bs wd many j (numTo bs wd j k)
            have hput := hrow.setAt j (by rw [upSt_len _ _ _ _ _ hlt]; exact hlt) (numTo bs wd j (k + 1))
            rw [upSt_set] at hput
            obtain ⟨A, hA⟩ : ∃ A, Hid (numTo bs wd j k = A) := ⟨_, rfl⟩
            rw [hA.out] at hold hlt2 hns hrow
            have hval := or_up A x k r (by omega) hlt2 hx
            rw [← hns.out] at hval
            have hcell : wr.cell? ⟨w.heap.size, j, none⟩ = some (.int .u64 (A : Int)) ∧ wr.frozen? ⟨w.heap.size, j, none⟩ = false := by
              rcases hrow with ⟨e, _⟩ | ⟨g9, o9, c9, e, q1, q2, q3, q4, q5⟩
              · cases e
              · injection e with e1 e2 e3
                injection e1 with e1
                injection e1 with e4 e5
                subst e3 e4 e5
                have h5 := q5 j (by have : U64E.n = 1 := rfl; rw [this]; omega)
                have h4 := q4 j (.int .u64 (A : Int)) (by
                  have := El.cs_get U64E hold (k := 0) (by decide)
                  have e1 : U64E.n = 1 := rfl
                  rw [e1, Nat.mul_one, Nat.add_zero] at this
                  rw [this]
                  simp [U64E])
                rw [Nat.zero_add] at h4 h5
                exact ⟨h4, h5.2⟩
            obtain ⟨hc, hfz⟩ := hcell
            have eW : Hid (wr.setCells w.heap.size (0 + j * U64E.n) (U64E.c (numTo bs wd j (k + 1))) = wr.setCell ⟨w.heap.size, j, none⟩ (.int .u64 (bits .or .u64 (A : Int) (IntKind.u64.wrap (IntKind.u64.wrap (bits .and .u8 ((x : Int) / 2 ^ r) 1) * 2 ^ k))))) := by
              show _ = _
              rw [hval]
              have : U64E.n = 1 := rfl
              rw [this]
              simp [U64E, World.setCells]
            rw [eW.out] at hput
            have kf : Kp [] w (wr.setCell ⟨w.heap.size, j, none⟩ (.int .u64 (bits .or .u64 (A : Int) (IntKind.u64.wrap (IntKind.u64.wrap (bits .and .u8 ((x : Int) / 2 ^ r) 1) * 2 ^ k))))).drew := (kn.setCell (p := ⟨w.heap.size, j, none⟩) (.inr (by simp)) _).drew
            have hput2 : U64E.Row (wr.setCell ⟨w.heap.size, j, none⟩ (.int .u64 (bits .or .u64 (A : Int) (IntKind.u64.wrap (IntKind.u64.wrap (bits .and .u8 ((x : Int) / 2 ^ r) 1) * 2 ^ k))))).drew (.slice (some ⟨w.heap.size, 0, none⟩) many many) (upSt bs wd many j (numTo bs wd j (k + 1))) := hput.keptNew (Kp.refl _ _).drew
            have hput3 := hid hput2
            have kf3 := hid kf
            clear hold hput eW hval hrow hput2 kf hns hA
            go_wp2_with fail
            go_region
            go_wp2_with fail
            exact ⟨⟨k + 1, by omega, by go_num, hput3.out, kf3.out⟩, by simp [intOf]; omega⟩
          · obtain rfl : k = wd := by omega
            rw [upSt_to bs k many j hlt] at hrow
            go_wp2_with fail
            exact ⟨⟨j + 1, by omega, by go_num, hrow, kn⟩, by simp [intOf]; omega⟩
      · obtain rfl : j = many := by omega
        rw [upTo_all] at hrow
        have hlen := upk_length bs j wd
        have hfin : UpP w F (.returned (.tuple #[.slice (some ⟨w.heap.size, 0, none⟩) j j, .bool true])) wr := by
          rw [hF2.out]
          exact ⟨some ⟨w.heap.size, 0, none⟩, j, by rw [hlen], by rw [hlen]; exact hrow, kn, fun k hk => by simp [blk] at hk; omega⟩
        clear hrow hlen
        go_wp2_with fail
        go_ret2
        exact hfin
  · have hF2 : Hid (F = none) := by show _ = _; rw [hF.out, if_neg hE]
    have hfin : UpP w F (.returned (.tuple #[.slice none 0 0, .bool false])) w := by rw [hF2.out]; exact ⟨rfl, Kp.refl _ _⟩
    have e0 : ((bs.length : Int) != (sz : Int)) = true := by simp only [bne_iff_ne]; omega
    have e1 : ((bs.length : Int) == (sz : Int)) = false := by rw [beq_eq_false_iff_ne]; omega
    clear hs hF hE hFF
    go_enter Tryz.func119, Tryz.ntmps119
    go_wp2_with fail
    refine hsz.mono ?_
    rintro e w9 ⟨rfl, hw9⟩
    rw [hw9]
    clear hw9 w9 hsz
    go_wp2_with fail
    go_ret2
    exact hfin
end Go.Proofs.YtafcdckpicoppaaGreatDoor
end

section
namespace Go.Proofs.YtafcdckpicoppaaGreatDoor
open Go.RowKit Go.Hay
set_option linter.unusedVariables false
set_option linter.unusedSimpArgs false

theorem tkG_lt : ∀ (bs : List UInt8) (i z : Nat), z < 2 ^ (7 * i) → z < 18446744073709551616 → (tkG i z bs).1 < 18446744073709551616
  | [], i, z, _, _ => by simp [tkG]
  | x :: r, i, z, h1, h2 => by
    rw [tkG]
    split
    · rename_i hi
      obtain ⟨_, g1, g2⟩ := grp_step i z x.toNat hi h1 h2
      split
      · exact g2
      · exact tkG_lt r (i + 1) _ g1 g2
    · simp
theorem rowOneV (w : World) {q : Nat} (hq : w.heap.size = q) (x : Val) (t : TypeId) : VE.Row (w.alloc (.cells #[.int .i64 x.k, .bool x.b, .int .i64 x.n, .string x.t] t)) (.slice (some ⟨q, 0, none⟩) 1 1) [x] := by
  subst hq
  refine .inr ⟨w.heap.size, 0, 1, rfl, Nat.le_refl _, by decide, by simp, fun j u hu => ?_, fun j hj => ?_⟩
  · have e : (w.alloc (.cells #[.int .i64 x.k, .bool x.b, .int .i64 x.n, .string x.t] t)).cell? ⟨w.heap.size, 0 + j, none⟩ = _ := World.cell?_alloc_new w _ _ (0 + j)
    rw [e, Nat.zero_add]
    simpa [El.cs, VE] using hu
  · have e : (w.alloc (.cells #[.int .i64 x.k, .bool x.b, .int .i64 x.n, .string x.t] t)).cell? ⟨w.heap.size, 0 + j, none⟩ = _ := World.cell?_alloc_new w _ _ (0 + j)
    have hj4 : j < 4 := by have e4 : VE.n = 4 := rfl; rw [e4] at hj; omega
    refine ⟨?_, World.frozen?_alloc_new w _ _ (0 + j)⟩
    rw [e, Nat.zero_add]
    match j, hj4 with
    | 0, _ | 1, _ | 2, _ | 3, _ => rfl
structure TdI (w W : World) (many j : Nat) (n : Int) (ba : Option Addr) (bc : Nat) (rest : List UInt8) (la : Option Addr) (lc : Nat) (acc : List Val) (F : Option (List Val)) : Prop where
  see : Sees w ba rest
  len : rest.length ≤ bc
  cap : bc ≤ 9223372036854775807
  few : rest.length ≤ 900000000000000
  row : VE.Row W (.slice la acc.length lc) acc
  new : ∀ k ∈ blk la, w.heap.size ≤ k
  kp : Kp [] w W
  al : Hid (acc.length = j + 1)
  lo : -9223372036854775808 ≤ n ∧ n < 9223372036854775808
  fin : Hid (tkD (many - 1 - j) n acc rest = F)
theorem wordV_bd (bs : List UInt8) : -9223372036854775808 ≤ wordV bs ∧ wordV bs < 9223372036854775808 := by unfold wordV wrap64; omega
set_option maxHeartbeats 8000000 in
set_option maxRecDepth 100000 in
theorem cTakeDelta (a : Option Addr) (c : Nat) (bs : List UInt8) (many : Nat) (w : World) (hs : Sees w a bs) (hl : bs.length ≤ c) (hm : c ≤ maxLen) (hb : bs.length ≤ 900000000000000) (hmn : many ≤ 64) (h0 : 0 < many) :
    Calls Tryz.prog 100 #[.slice a bs.length c, .int .i64 many] w (TkL w (okV (tkDl many bs))) := by
  obtain ⟨i0, hi, hz0, hz1, hz2⟩ := infoV'
  unfold maxLen at hm
  by_cases h8 : bs.length < 8
  · have hF : Hid (tkDl many bs = none) := by show _ = _; unfold tkDl; rw [if_pos h8]
    rw [hF.out]
    have hfin := tkL_none w w (Kp.refl _ _)
    have d1 : (bs.length : Int) < 8 := by omega
    clear hs
    go_enter Tryz.func100, Tryz.ntmps100
    go_wp2_with fail
    go_ret2
    exact hfin
  · have hF : Hid (tkDl many bs = tkD (many - 1) (wordV bs) [intV (wordV bs)] (bs.drop 8)) := by show _ = _; unfold tkDl; rw [if_neg h8]
    rw [hF.out]
    have cW := cWord a c bs w hs (by omega) hb
    have hbd := wordV_bd bs
    obtain ⟨n, hn⟩ : ∃ n, Hid (wordV bs = n) := ⟨_, rfl⟩
    rw [hn.out] at cW hbd ⊢
    obtain ⟨F, hFF⟩ : ∃ F, Hid (tkD (many - 1) n [intV n] (bs.drop 8) = F) := ⟨_, rfl⟩
    rw [hFF.out]
    obtain ⟨g, o, rfl, _⟩ : ∃ g o, a = some ⟨g, o, none⟩ ∧ ∀ j u, bs[j]? = some u → w.cell? ⟨g, o + j, none⟩ = some (.int .u8 u.toNat) := by
      rcases hs with h | h
      · rw [h] at h8; simp at h8
      · exact h
    have htl : Hid (Sees w (some ⟨g, o + 8, none⟩) (bs.drop 8)) := by show Sees _ _ _; have := Sees.tail hs 8; simpa [Addr.add_lit] using this
    have cI := cInt n w
    have d1 : ¬ (bs.length : Int) < 8 := by omega
    have hdl : (bs.drop 8).length = bs.length - 8 := by simp
    have hst : Hid (∀ ba W, Sees w ba (bs.drop 8) → Kp [] w W → ∃ (j : Nat) (n' : Int) (ba' : Option Addr) (bc : Nat) (rest : List UInt8) (la : Option Addr) (lc : Nat) (acc : List Val), j ≤ many - 1 ∧ (.int .i64 0 : Value) = .int .i64 j ∧ (.slice ba (bs.length - 8) (c - 8) : Value) = .slice ba' rest.length bc ∧ (.int .i64 n : Value) = .int .i64 n' ∧ (.slice (some ⟨W.heap.size, 0, none⟩) 1 1 : Value) = .slice la acc.length lc ∧ TdI w (W.alloc (.cells #[.int .i64 2, .bool false, .int .i64 n, .string ⟨#[]⟩] 25)) many j n' ba' bc rest la lc acc F) := fun ba W hsb kW =>
      ⟨0, n, ba, c - 8, bs.drop 8, some ⟨W.heap.size, 0, none⟩, 1, [intV n], Nat.zero_le _, rfl, by rw [hdl], rfl, rfl, hsb, by rw [hdl]; omega, by omega, by rw [hdl]; omega, rowOneV W rfl (intV n) _, fun k hk => by simp [blk] at hk; have := kW.size; omega, kW.alloc _, rfl, hbd, by rw [Nat.sub_zero]; exact hFF⟩
    clear hs hF hFF hn
    go_enter Tryz.func100, Tryz.ntmps100
    go_wp2_with fail
    refine cW.mono ?_
    rintro e w9 ⟨rfl, hw9⟩
    rw [hw9]
    clear hw9 w9 cW
    go_wp2_with fail
    refine cI.mono ?_
    rintro e w1 ⟨rfl, k1⟩
    clear cI
    obtain ⟨ba, hba, hsb⟩ : ∃ ba, Hid ((if c = 8 then some ⟨g, o, none⟩ else some ⟨g, o + 8, none⟩ : Option Addr) = ba) ∧ Hid (Sees w ba (bs.drop 8)) := by
      refine ⟨_, rfl, ?_⟩
      show Sees _ _ _
      split
      · have : bs.drop 8 = [] := List.drop_eq_nil_of_le (by omega)
        rw [this]; exact .inl rfl
      · exact htl.out
    have hst1 := hid (hst.out ba w1 hsb.out k1)
    clear hst hsb htl
    have hbe : (if c - 8 = 0 then (some ⟨g, o, none⟩ : Option Addr) else some ⟨g, o + 8, none⟩) = ba := by
      rw [← hba.out]
      by_cases h : c = 8
      · rw [if_pos h, if_pos (by omega)]
      · rw [if_neg h, if_neg (by omega)]
    have hba' := hba.out
    go_wp2_with fail
    clear hbe hba' hba hbd
    go_loopw [0, 6, 7, 22] (fun v0 v6 v7 i wn => ∃ (j : Nat) (n' : Int) (ba' : Option Addr) (bc : Nat) (rest : List UInt8) (la : Option Addr) (lc : Nat) (acc : List Val), j ≤ many - 1 ∧ i = .int .i64 j ∧ v0 = .slice ba' rest.length bc ∧ v6 = .int .i64 n' ∧ v7 = .slice la acc.length lc ∧ TdI w wn many j n' ba' bc rest la lc acc F) (fun _ _ _ i _ => many - 1 - (intOf i).toNat)
    case atStart => exact hst1.out
    case round =>
      clear hst1 k1
      obtain ⟨j, n, ba, bc, rest, la, lc, acc, hj, rfl, rfl, rfl, rfl, I⟩ := hrel
      by_cases hlt : j < many - 1
      · have hkw := I.kp
        have hcap := I.cap
        have hlen := I.len
        have hfew := I.few
        have hlo := I.lo
        have hal := I.al
        have hal2 : acc.length ≤ 65 := by rw [hal.out]; omega
        have ht := cTakeGroups ba bc rest wr (I.see.kept I.kp (by simp)) I.few
        have htle := tkG_le rest 0 0
        have htlt := tkG_lt rest 0 0 (by decide) (by decide)
        have hfin := I.fin
        rw [show many - 1 - j = (many - 1 - (j + 1)) + 1 by omega, tkD] at hfin
        obtain ⟨⟨z, sz⟩, htk⟩ : ∃ t, Hid (tkG 0 0 rest = t) := ⟨_, rfl⟩
        rw [htk.out] at ht htle htlt hfin
        dsimp only at ht htle htlt hfin
        have hI := hid I
        have d2 : (j : Int) < (many : Int) - 1 := by omega
        clear I
        go_wp2_with fail
        refine ht.mono ?_
        rintro e w9 ⟨rfl, hw9⟩
        rw [hw9]
        clear hw9 w9 ht
        by_cases hsz : sz = 0
        · subst hsz
          rw [if_pos rfl] at hfin
          have hF' : Hid (F = none) := hfin.out.symm
          have hP : TkL w (okV F) (.returned (.tuple #[.slice none 0 0, .bool false])) wr := by rw [hF'.out]; exact tkL_none w wr hkw
          clear hfin hI hF'
          go_wp2_with fail
          go_ret2
          exact hP
        · rw [if_neg hsz] at hfin
          have hsz' : ((sz : Int) == 0) = false := by rw [beq_eq_false_iff_ne]; omega
          have cU := cUnfold z htlt wr
          obtain ⟨N, hN⟩ : ∃ N, Hid (IntKind.i64.wrap (n + zag z) = N) := ⟨_, rfl⟩
          have hNb := wrap64_bd (n + zag z)
          rw [hN.out] at hfin hNb
          have hNe : IntKind.i64.wrap (n + zag z) = N := hN.out
          have cI := cInt N wr
          go_wp2_with fail
          refine cU.mono ?_
          rintro e w9 ⟨rfl, hw9⟩
          rw [hw9]
          clear hw9 w9 cU
          go_wp2_with fail
          refine cI.mono ?_
          rintro e w1 ⟨rfl, k1⟩
          clear cI
          obtain ⟨wc, hwc⟩ : ∃ wc, w1.alloc (.cells #[.int .i64 2, .bool false, .int .i64 N, .string ⟨#[]⟩] 25) = wc := ⟨_, rfl⟩
          have kc : Kp [] wr wc := by rw [← hwc]; exact k1.alloc _
          have hsr : VE.See wc (some ⟨w1.heap.size, 0, none⟩) [intV N] := by rw [← hwc]; exact oneV w1 rfl (intV N) _
          have hsrc := hsr.src (P := Tryz.prog) Tryz.underlying32 1
          have hrowc := hI.out.row.keptNew kc
          obtain ⟨v', X3, hrun, hrow3, kk3, hn3⟩ := run_appendG (E := VE) (P := Tryz.prog) wc 32 32 32 25 i0 _ 40 Tryz.underlying32 hi hz0 hz1 hz2 rfl (.slice la acc.length lc) acc hrowc _ [intV N] hsrc (by simp; omega) (by simp; omega)
          obtain ⟨a3, c3, rfl, _⟩ := hrow3.see
          rw [ownS] at kk3
          obtain ⟨g, o, rfl⟩ : ∃ g o, ba = some ⟨g, o, none⟩ := by
            rcases hI.out.see with h | ⟨g, o, h, _⟩
            · rw [h] at htle; simp at htle; omega
            · exact ⟨g, o, h⟩
          obtain ⟨ba2, hba2, hsb2⟩ : ∃ ba2, Hid ((if bc = sz then some ⟨g, o, none⟩ else some ⟨g, o + sz, none⟩ : Option Addr) = ba2) ∧ Hid (Sees w ba2 (rest.drop sz)) := by
            refine ⟨_, rfl, ?_⟩
            show Sees _ _ _
            split
            · have : rest.drop sz = [] := List.drop_eq_nil_of_le (by omega)
              rw [this]; exact .inl rfl
            · have := Sees.tail hI.out.see sz; simpa [Addr.add_lit] using this
          have hdl2 : (rest.drop sz).length = rest.length - sz := by simp
          have hnxt : Hid (∃ (j' : Nat) (n' : Int) (ba' : Option Addr) (bc' : Nat) (rest' : List UInt8) (la' : Option Addr) (lc' : Nat) (acc' : List Val), j' ≤ many - 1 ∧ (.int .i64 ((j : Int) + 1) : Value) = .int .i64 j' ∧ (.slice ba2 (rest.length - sz) (bc - sz) : Value) = .slice ba' rest'.length bc' ∧ (.int .i64 N : Value) = .int .i64 n' ∧ (.slice a3 (acc.length + 1) c3 : Value) = .slice la' acc'.length lc' ∧ TdI w X3 many j' n' ba' bc' rest' la' lc' acc' F) := by
            refine ⟨j + 1, N, ba2, bc - sz, rest.drop sz, a3, c3, acc ++ [intV N], by omega, by go_num, by rw [hdl2], rfl, by rw [List.length_append]; rfl, hsb2.out, by rw [hdl2]; omega, by omega, by rw [hdl2]; omega, hrow3, fun k hk => ?_, ?_, by show _ = _; rw [List.length_append, hal.out]; rfl, hNb, hfin⟩
            · rcases hn3 k (by rw [ownS]; exact hk) with h | h
              · rw [ownS] at h; exact hI.out.new k h
              · have := hkw.size; have := kc.size; omega
            · exact (hkw.trans kc (by simp)).trans kk3 (fun k hk => .inr (hI.out.new k hk))
          have hba3 := hba2.out
          clear hrowc hrow3 kk3 hn3 hsr hsrc kc hfin hI hN hsb2 hba2 hal
          go_wp2_with (first | (refine wpAppRun rfl _ _ 32 32 rfl _ _ _ rfl rfl hrun ?_) | fail)
          exact ⟨hnxt.out, by simp [intOf]; omega⟩
      · obtain rfl : j = many - 1 := by omega
        have hfin : Hid (F = some acc) := by
          have := I.fin.out
          rw [Nat.sub_self, tkD] at this
          exact this.symm
        have hP : TkL w (okV F) (.returned (.tuple #[.slice la acc.length lc, .bool true])) wr := by
          rw [hfin.out]
          exact ⟨la, lc, rfl, I.row, I.kp, I.new⟩
        have d2 : ¬ ((many - 1 : Nat) : Int) < (many : Int) - 1 := by omega
        clear I hfin
        go_wp2_with fail
        go_ret2
        exact hP
end Go.Proofs.YtafcdckpicoppaaGreatDoor
end

section
namespace Go.Proofs.YtafcdckpicoppaaGreatDoor
open Go.RowKit Go.Hay
set_option linter.unusedVariables false
set_option linter.unusedSimpArgs false

theorem u64At {W : World} {a : Option Addr} {l : List Nat} (h : U64E.See W a l) (i : Nat) (hi : i < l.length) : ∃ g o, a = some ⟨g, o, none⟩ ∧ W.cell? ⟨g, o + i, none⟩ = some (.int .u64 (l[i] : Int)) := by
  obtain ⟨g, o, e, hc⟩ := h.at (List.getElem?_eq_getElem hi)
  refine ⟨g, o, e, ?_⟩
  have := hc 0 (.int .u64 (l[i] : Int)) rfl
  simpa [U64E] using this
theorem wrap_twice (m : Int) (n : Nat) : IntKind.i64.wrap (m + IntKind.i64.wrap (n : Int)) = IntKind.i64.wrap (m + (n : Int)) := by
  rw [IntKind.wrap_i64, IntKind.wrap_i64, IntKind.wrap_i64]; omega
/-- A row made of so many values of a list, the rest nought. -/
def mapTo (f : Nat → Val) (ns : List Nat) (many j : Nat) : List Val := (ns.take j).map f ++ List.replicate (many - j) nv
theorem mapTo_len (f : Nat → Val) (ns : List Nat) (j : Nat) (h : j ≤ ns.length) : (mapTo f ns ns.length j).length = ns.length := by unfold mapTo; simp; omega
theorem mapTo_set (f : Nat → Val) (ns : List Nat) (j : Nat) (h : j < ns.length) : (mapTo f ns ns.length j).set j (f ns[j]) = mapTo f ns ns.length (j + 1) := by
  unfold mapTo
  have := set_app ((ns.take j).map f) nv (f ns[j]) (ns.length - (j + 1))
  rw [List.length_map, List.length_take, Nat.min_eq_left (by omega), show ns.length - (j + 1) + 1 = ns.length - j by omega] at this
  rw [this, List.take_succ_eq_append_getElem h, List.map_append]
  rfl
theorem mapTo_all (f : Nat → Val) (ns : List Nat) : mapTo f ns ns.length ns.length = ns.map f := by unfold mapTo; simp
theorem upkO_len {bs : List UInt8} {many wd : Nat} {ns : List Nat} (h : upkO bs many wd = some ns) : ns.length = many ∧ ns = upk bs many wd := by
  unfold upkO at h
  split at h
  · injection h with h; subst h; exact ⟨upk_length _ _ _, rfl⟩
  · cases h
set_option maxHeartbeats 8000000 in
set_option maxRecDepth 100000 in
theorem cTakeBits (a : Option Addr) (c : Nat) (bs : List UInt8) (many : Nat) (w : World) (hs : Sees w a bs) (hl : bs.length ≤ c) (hm : c ≤ maxLen) (hb : bs.length ≤ 900000000000000) (hmn : many ≤ 64) :
    Calls Tryz.prog 102 #[.slice a bs.length c, .int .i64 many] w (TkL w (okV (tkBt many bs))) := by
  obtain ⟨i0, hi, hz0, hz1, hz2⟩ := infoV'
  unfold maxLen at hm
  obtain ⟨F, hFF⟩ : ∃ F, Hid (tkBt many bs = F) := ⟨_, rfl⟩
  rw [hFF.out]
  by_cases h8 : bs.length ≤ 8
  · have hF : Hid (F = none) := by show _ = _; rw [← hFF.out]; unfold tkBt; rw [if_pos (.inl h8)]
    have hfin : TkL w (okV F) (.returned (.tuple #[.slice none 0 0, .bool false])) w := by rw [hF.out]; exact tkL_none w w (Kp.refl _ _)
    have d1 : (bs.length : Int) ≤ 8 := by omega
    clear hs hFF hF
    go_enter Tryz.func102, Tryz.ntmps102
    go_wp2_with fail
    go_ret2
    exact hfin
  · obtain ⟨g, o, rfl, hc⟩ : ∃ g o, a = some ⟨g, o, none⟩ ∧ ∀ j u, bs[j]? = some u → w.cell? ⟨g, o + j, none⟩ = some (.int .u8 u.toNat) := by
      rcases hs with h | h
      · rw [h] at h8; simp at h8
      · exact h
    have h8' : 8 < bs.length := by omega
    have hcx := hc 8 bs[8] (by simp [h8'])
    have hg8 : Hid (bs.getD 8 0 = bs[8]) := by show _ = _; simp [h8']
    have hx := bs[8].toNat_lt
    obtain ⟨x, hxx⟩ : ∃ x, Hid (bs[8].toNat = x) := ⟨bs[8].toNat, by show _ = _; rfl⟩
    rw [hxx.out] at hcx hx
    have d1 : ¬ (bs.length : Int) ≤ 8 := by omega
    have d1' : ¬ bs.length ≤ 8 := h8
    by_cases hx64 : 64 < x
    · have hF : Hid (F = none) := by show _ = _; rw [← hFF.out]; unfold tkBt; rw [if_pos (.inr (by rw [hg8.out, hxx.out]; exact hx64))]
      have hfin : TkL w (okV F) (.returned (.tuple #[.slice none 0 0, .bool false])) w := by rw [hF.out]; exact tkL_none w w (Kp.refl _ _)
      have d2 : (64 : Int) < (x : Int) := by omega
      clear hs hFF hF hc
      go_enter Tryz.func102, Tryz.ntmps102
      go_wp2_with fail
      go_ret2
      exact hfin
    · have hF : Hid (F = (upkO (bs.drop 9) many x).map fun l => l.map fun (n : Nat) => intV (IntKind.i64.wrap (wordV bs + (n : Int)))) := by
        show _ = _
        rw [← hFF.out]; unfold tkBt; rw [hg8.out, hxx.out, if_neg (by omega)]
      have d2 : ¬ (64 : Int) < (x : Int) := by omega
      have hcW := hid (fun W (k : Kp [] w W) => cWord (some ⟨g, o, none⟩) c bs W (hs.kept k (by simp)) (by omega) hb)
      obtain ⟨ba, hba, hsb⟩ : ∃ ba, Hid ((if c = 9 then some ⟨g, o, none⟩ else some ⟨g, o + 9, none⟩ : Option Addr) = ba) ∧ Hid (Sees w ba (bs.drop 9)) := by
        refine ⟨_, rfl, ?_⟩
        show Sees _ _ _
        split
        · have : bs.drop 9 = [] := List.drop_eq_nil_of_le (by omega)
          rw [this]; exact .inl rfl
        · have := Sees.tail hs 9; simpa [Addr.add_lit] using this
      have hdl : (bs.drop 9).length = bs.length - 9 := by simp
      have hcU : Hid (∀ W, Kp [] w W → Calls Tryz.prog 119 #[.slice ba (bs.length - 9) (c - 9), .int .i64 many, .int .i64 x] W (UpP W (upkO (bs.drop 9) many x))) := fun W k => by
        have := cUnpack ba (c - 9) (bs.drop 9) many x W (hsb.out.kept k (by simp)) (by rw [hdl]; omega) hmn (by omega)
        rw [hdl] at this
        exact this
      have hlen := hid (fun ns (h : upkO (bs.drop 9) many x = some ns) => (upkO_len h).1)
      obtain ⟨U, hU⟩ : ∃ U, Hid (upkO (bs.drop 9) many x = U) := ⟨_, rfl⟩
      rw [hU.out] at hF hlen
      simp only [hU.out] at hcU
      obtain ⟨n, hn⟩ : ∃ n, Hid (wordV bs = n) := ⟨_, rfl⟩
      rw [hn.out] at hF
      simp only [hn.out] at hcW
      have hbe := hba.out
      have kd : Kp [] w w.drew := (Kp.refl _ _).drew
      have hS : Hid (∀ A, Kp [] w A → A.cell? ⟨g, o + 8, none⟩ = some (.int .u8 x)) := fun A kA => kpAt kA hcx
      have d9 : (9 : Int) ≤ (bs.length : Int) := by omega
      have hwx : IntKind.i64.wrap (x : Int) = (x : Int) := by rw [IntKind.wrap_i64]; omega
      clear hs hFF hc hg8 hxx hsb hU hn hba hdl
      go_enter Tryz.func102, Tryz.ntmps102
      go_wp2_with fail
      clear hcx
      refine wp_region_held_drew (S := (fun A => A.cell? ⟨g, o + 8, none⟩ = some (.int .u8 x))) (by kernel_rfl) ?_ (fun hHeld => ?_)
      · exact hS.out _ kd
      generalize w.drew = wd at *
      refine wpAnyH_take (i := 0) (v := ?_) rfl (by kernel_rfl) (by kernel_rfl) (by kernel_rfl) (fun _ _ _ h => h) (Or.inl ⟨by rfl, ?_⟩) (by assumption) ?_
      rotate_left
      · intro w hSw; (try dsimp only at hSw); go_simp <;> with_reducible rfl
      try simp only [Act.put, List.getElem_toArray, List.getElem_cons_zero, List.getElem_cons_succ, List.setIfInBounds_toArray, List.set_cons_zero, List.set_cons_succ]
      refine wpAnyH_take (i := 1) (v := ?_) rfl (by kernel_rfl) (by kernel_rfl) (by kernel_rfl) (fun _ _ _ h => h) (Or.inl ⟨by rfl, ?_⟩) (by assumption) ?_
      rotate_left
      · intro w hSw; (try dsimp only at hSw); go_simp <;> with_reducible rfl
      try simp only [Act.put, List.getElem_toArray, List.getElem_cons_zero, List.getElem_cons_succ, List.setIfInBounds_toArray, List.set_cons_zero, List.set_cons_succ]
      refine wpAnyH_take (i := 2) (v := ?_) rfl (by kernel_rfl) (by kernel_rfl) (by kernel_rfl) (fun _ _ _ h => h) (Or.inl ⟨by rfl, ?_⟩) (by assumption) ?_
      rotate_left
      · intro w hSw; (try dsimp only at hSw); go_simp <;> with_reducible rfl
      try simp only [Act.put, List.getElem_toArray, List.getElem_cons_zero, List.getElem_cons_succ, List.setIfInBounds_toArray, List.set_cons_zero, List.set_cons_succ]
      refine wpAnyH_take (i := 3) (v := ?_) rfl (by kernel_rfl) (by kernel_rfl) (by kernel_rfl) (fun _ _ _ h => h) (Or.inl ⟨by rfl, ?_⟩) (by assumption) ?_
      rotate_left
      · intro w hSw; (try dsimp only at hSw); go_simp <;> with_reducible rfl
      try simp only [Act.put, List.getElem_toArray, List.getElem_cons_zero, List.getElem_cons_succ, List.setIfInBounds_toArray, List.set_cons_zero, List.set_cons_succ]
      refine wpAnyH_take (i := 4) (v := ?_) rfl (by kernel_rfl) (by kernel_rfl) (by kernel_rfl) (fun _ _ _ h => h) (Or.inl ⟨by rfl, ?_⟩) (by assumption) ?_
      rotate_left
      · intro w hSw; (try dsimp only at hSw); go_simp <;> with_reducible rfl
      try simp only [Act.put, List.getElem_toArray, List.getElem_cons_zero, List.getElem_cons_succ, List.setIfInBounds_toArray, List.set_cons_zero, List.set_cons_succ]
      refine wpAnyH_take (i := 5) (v := ?_) rfl (by kernel_rfl) (by kernel_rfl) (by kernel_rfl) (fun _ _ _ h => h) (Or.inl ⟨by rfl, ?_⟩) (by assumption) ?_
      rotate_left
      · intro w hSw; (try dsimp only at hSw); go_simp <;> with_reducible rfl
      try simp only [Act.put, List.getElem_toArray, List.getElem_cons_zero, List.getElem_cons_succ, List.setIfInBounds_toArray, List.set_cons_zero, List.set_cons_succ]
      refine wpAnyH_take (i := 6) (v := ?_) rfl (by kernel_rfl) (by kernel_rfl) (by kernel_rfl) (fun _ _ _ h => h) (Or.inl ⟨by rfl, ?_⟩) (by assumption) ?_
      rotate_left
      · intro w hSw; (try dsimp only at hSw); go_simp <;> with_reducible rfl
      try simp only [Act.put, List.getElem_toArray, List.getElem_cons_zero, List.getElem_cons_succ, List.setIfInBounds_toArray, List.set_cons_zero, List.set_cons_succ]
      cases U with
      | none =>
        refine wpAnyH_ready (rs := [7]) (by kernel_rfl) (by simp) ?_
        refine AllReadyH.cons rfl (fun K hK => ?_) AllReadyH.nil
        go_simp
        refine (hcU.out wd kd).mono ?_
        rintro e w2 ⟨rfl, k2⟩
        (try go_wp2_with fail)
        refine hK.out _ _ ?_ (fun hHeld => ?_)
        · exact hS.out _ (kd.trans k2 (by simp))
        clear hK K
        try simp only [Act.put, List.getElem_toArray, List.getElem_cons_zero, List.getElem_cons_succ, List.setIfInBounds_toArray, List.set_cons_zero, List.set_cons_succ]
        refine wpAnyH_take (i := 8) (v := ?_) rfl (by kernel_rfl) (by kernel_rfl) (by kernel_rfl) (fun _ _ _ h => h) (Or.inl ⟨by rfl, ?_⟩) (by assumption) ?_
        rotate_left
        · intro w hSw; (try dsimp only at hSw); go_simp <;> with_reducible rfl
        try simp only [Act.put, List.getElem_toArray, List.getElem_cons_zero, List.getElem_cons_succ, List.setIfInBounds_toArray, List.set_cons_zero, List.set_cons_succ]
        refine wpAnyH_take (i := 9) (v := ?_) rfl (by kernel_rfl) (by kernel_rfl) (by kernel_rfl) (fun _ _ _ h => h) (Or.inl ⟨by rfl, ?_⟩) (by assumption) ?_
        rotate_left
        · intro w hSw; (try dsimp only at hSw); go_simp <;> with_reducible rfl
        try simp only [Act.put, List.getElem_toArray, List.getElem_cons_zero, List.getElem_cons_succ, List.setIfInBounds_toArray, List.set_cons_zero, List.set_cons_succ]
        refine wpAnyH_take (i := 10) (v := ?_) rfl (by kernel_rfl) (by kernel_rfl) (by kernel_rfl) (fun _ _ _ h => h) (Or.inl ⟨by rfl, ?_⟩) (by assumption) ?_
        rotate_left
        · intro w hSw; (try dsimp only at hSw); go_simp <;> with_reducible rfl
        try simp only [Act.put, List.getElem_toArray, List.getElem_cons_zero, List.getElem_cons_succ, List.setIfInBounds_toArray, List.set_cons_zero, List.set_cons_succ]
        refine wpAnyH_take (i := 11) (v := ?_) rfl (by kernel_rfl) (by kernel_rfl) (by kernel_rfl) (fun _ _ _ h => h) (Or.inl ⟨by rfl, ?_⟩) (by assumption) ?_
        rotate_left
        · intro w hSw; (try dsimp only at hSw); go_simp <;> with_reducible rfl
        try simp only [Act.put, List.getElem_toArray, List.getElem_cons_zero, List.getElem_cons_succ, List.setIfInBounds_toArray, List.set_cons_zero, List.set_cons_succ]
        refine wpAnyH_take (i := 12) (v := ?_) rfl (by kernel_rfl) (by kernel_rfl) (by kernel_rfl) (fun _ _ _ h => h) (Or.inl ⟨by rfl, ?_⟩) (by assumption) ?_
        rotate_left
        · intro w hSw; (try dsimp only at hSw); go_simp <;> with_reducible rfl
        try simp only [Act.put, List.getElem_toArray, List.getElem_cons_zero, List.getElem_cons_succ, List.setIfInBounds_toArray, List.set_cons_zero, List.set_cons_succ]
        refine wpAnyH_done (by kernel_rfl) ?_ _
        have hfin : TkL w (okV F) (.returned (.tuple #[.slice none 0 0, .bool false])) w2 := by rw [hF.out]; exact tkL_none w w2 (kd.trans k2 (by simp))
        clear hF hcU hcW hS
        go_wp2_with fail
        go_ret2
        exact hfin
      | some ns =>
        refine wpAnyH_ready (rs := [7]) (by kernel_rfl) (by simp) ?_
        refine AllReadyH.cons rfl (fun K hK => ?_) AllReadyH.nil
        go_simp
        refine (hcU.out wd kd).mono ?_
        rintro e w2 ⟨a2, c2, rfl, hrow2, k2, hn2⟩
        have hrow2' := hid hrow2
        clear hrow2
        (try go_wp2_with fail)
        refine hK.out _ _ ?_ (fun hHeld => ?_)
        · exact hS.out _ (kd.trans k2 (by simp))
        clear hK K
        try simp only [Act.put, List.getElem_toArray, List.getElem_cons_zero, List.getElem_cons_succ, List.setIfInBounds_toArray, List.set_cons_zero, List.set_cons_succ]
        refine wpAnyH_take (i := 8) (v := ?_) rfl (by kernel_rfl) (by kernel_rfl) (by kernel_rfl) (fun _ _ _ h => h) (Or.inl ⟨by rfl, ?_⟩) (by assumption) ?_
        rotate_left
        · intro w hSw; (try dsimp only at hSw); go_simp <;> with_reducible rfl
        try simp only [Act.put, List.getElem_toArray, List.getElem_cons_zero, List.getElem_cons_succ, List.setIfInBounds_toArray, List.set_cons_zero, List.set_cons_succ]
        refine wpAnyH_take (i := 9) (v := ?_) rfl (by kernel_rfl) (by kernel_rfl) (by kernel_rfl) (fun _ _ _ h => h) (Or.inl ⟨by rfl, ?_⟩) (by assumption) ?_
        rotate_left
        · intro w hSw; (try dsimp only at hSw); go_simp <;> with_reducible rfl
        try simp only [Act.put, List.getElem_toArray, List.getElem_cons_zero, List.getElem_cons_succ, List.setIfInBounds_toArray, List.set_cons_zero, List.set_cons_succ]
        refine wpAnyH_take (i := 10) (v := ?_) rfl (by kernel_rfl) (by kernel_rfl) (by kernel_rfl) (fun _ _ _ h => h) (Or.inl ⟨by rfl, ?_⟩) (by assumption) ?_
        rotate_left
        · intro w hSw; (try dsimp only at hSw); go_simp <;> with_reducible rfl
        try simp only [Act.put, List.getElem_toArray, List.getElem_cons_zero, List.getElem_cons_succ, List.setIfInBounds_toArray, List.set_cons_zero, List.set_cons_succ]
        refine wpAnyH_take (i := 11) (v := ?_) rfl (by kernel_rfl) (by kernel_rfl) (by kernel_rfl) (fun _ _ _ h => h) (Or.inl ⟨by rfl, ?_⟩) (by assumption) ?_
        rotate_left
        · intro w hSw; (try dsimp only at hSw); go_simp <;> with_reducible rfl
        try simp only [Act.put, List.getElem_toArray, List.getElem_cons_zero, List.getElem_cons_succ, List.setIfInBounds_toArray, List.set_cons_zero, List.set_cons_succ]
        refine wpAnyH_take (i := 12) (v := ?_) rfl (by kernel_rfl) (by kernel_rfl) (by kernel_rfl) (fun _ _ _ h => h) (Or.inl ⟨by rfl, ?_⟩) (by assumption) ?_
        rotate_left
        · intro w hSw; (try dsimp only at hSw); go_simp <;> with_reducible rfl
        try simp only [Act.put, List.getElem_toArray, List.getElem_cons_zero, List.getElem_cons_succ, List.setIfInBounds_toArray, List.set_cons_zero, List.set_cons_succ]
        refine wpAnyH_done (by kernel_rfl) ?_ _
        have hnl := hlen.out ns rfl
        subst hnl
        have kw2 := kd.trans k2 (by simp)
        have cW := hcW.out w2 kw2
        have hsn : Hid (∀ W, Kp [] w2 W → U64E.See W a2 ns) := fun W kW => by
          obtain ⟨_, _, e, h1, _⟩ := hrow2'.out.see
          injection e with e1 e2 e3
          rw [e1]
          exact h1.keptNew kW
        obtain ⟨W1, hmk, hrow1, k1, hs1⟩ := run_makeG (E := VE) (P := Tryz.prog) w2 32 25 i0 _ nv 40 Tryz.underlying32 hi hz0 hz1 hz2 rfl .i64 .i64 ns.length (by omega) (by unfold maxLen; omega)
        obtain ⟨f, hf⟩ : ∃ f : Nat → Val, Hid ((fun (m : Nat) => intV (IntKind.i64.wrap (n + (m : Int)))) = f) := ⟨_, rfl⟩
        have hfa : Hid (∀ m : Nat, f m = intV (IntKind.i64.wrap (n + IntKind.i64.wrap (m : Int)))) := fun m => by rw [← hf.out, wrap_twice]
        have hF2 : Hid (F = some (ns.map f)) := by show _ = _; rw [hF.out, ← hf.out]; rfl
        have R0 : Hid (VE.Row W1 (.slice (some ⟨w2.heap.size, 0, none⟩) ns.length ns.length) (mapTo f ns ns.length 0)) := by show VE.Row _ _ _; simpa [mapTo] using hrow1
        have hw2 := hid (kw2)
        clear hF hcU hS hrow2' hrow1 hf hlen hcW hHeld hn2 hbe
        go_wp2_with fail
        refine cW.mono ?_
        rintro e w9 ⟨rfl, hw9⟩
        rw [hw9]
        clear hw9 w9 cW
        go_wp2_with fail
        go_loopw [40] (fun i wn => ∃ j : Nat, j ≤ ns.length ∧ i = .int .i64 j ∧ VE.Row wn (.slice (some ⟨w2.heap.size, 0, none⟩) ns.length ns.length) (mapTo f ns ns.length j) ∧ Kp [] w2 wn) (fun i _ => ns.length - (intOf i).toNat)
        case atStart => exact ⟨0, Nat.zero_le _, rfl, R0.out, k1⟩
        case round =>
          clear hmk R0 k1 hs1
          obtain ⟨j, hj, rfl, hrow, kn⟩ := hrel
          by_cases hlt : j < ns.length
          · obtain ⟨g2, o2, rfl, hcn⟩ := u64At (hsn.out wr kn) j hlt
            have hset := hid (fun W (k : Kp [] wr W) => rowSetV (hrow.keptNew k) j (by rw [mapTo_len _ _ _ (by omega)]; exact hlt) (f ns[j]))
            have hcells := hid (fun W (k : Kp [] wr W) => rowCellsV (hrow.keptNew k) j (by rw [mapTo_len _ _ _ (by omega)]; exact hlt))
            rw [mapTo_set f ns j hlt] at hset
            have hfj := hfa.out ns[j]
            generalize ns[j] = m at *
            obtain ⟨V, hV⟩ : ∃ V, Hid (IntKind.i64.wrap (n + IntKind.i64.wrap (m : Int)) = V) := ⟨_, rfl⟩
            have hVe : wrap64 (n + wrap64 (m : Int)) = V := by rw [← hV.out, IntKind.wrap_i64, IntKind.wrap_i64]; unfold wrap64; omega
            rw [hV.out] at hfj
            rw [hfj] at hset
            have cI := cInt V wr
            have hrow' := hid hrow
            clear hV hfj hrow
            go_wp2_with fail
            refine cI.mono ?_
            rintro e w3 ⟨rfl, k3⟩
            have hset3 := hset.out w3 k3
            have hcl := hcells.out w3 k3
            obtain ⟨⟨u0, c0⟩, f0⟩ := hcl 0 (by omega)
            obtain ⟨⟨u1, c1⟩, f1⟩ := hcl 1 (by omega)
            obtain ⟨⟨u2, c2'⟩, f2⟩ := hcl 2 (by omega)
            obtain ⟨⟨u3, c3⟩, f3⟩ := hcl 3 (by omega)
            rw [Nat.add_zero] at c0 f0
            have kset := kpSet4 (i := j) (kn.trans k3 (by simp)) (Nat.le_refl _) (.int .i64 (intV V).k) (.bool (intV V).b) (.int .i64 (intV V).n) (.string (intV V).t)
            unfold intV at hset3 kset
            dsimp only at hset3 kset
            have hs3 := hid hset3
            have ks3 := hid kset
            clear hset hcells hset3 kset hcl cI
            go_wp2_with fail
            exact ⟨⟨j + 1, by omega, by go_num, hs3.out, ks3.out⟩, by simp [intOf]; omega⟩
          · obtain rfl : j = ns.length := by omega
            rw [mapTo_all] at hrow
            have hml : (ns.map f).length = ns.length := by simp
            have hP : TkL w (okV F) (.returned (.tuple #[.slice (some ⟨w2.heap.size, 0, none⟩) ns.length ns.length, .bool true])) wr := by
              rw [hF2.out]
              exact ⟨some ⟨w2.heap.size, 0, none⟩, ns.length, by simp [okV], by show VE.Row _ (.slice _ (ns.map f).length _) _; rw [hml]; exact hrow, kw2.trans kn (by simp), fun k hk => by simp [blk] at hk; have := kw2.size; omega⟩
            clear hrow hF2
            go_wp2_with fail
            go_ret2
            exact hP
end Go.Proofs.YtafcdckpicoppaaGreatDoor
end

/- The reference's Packed. The reference's delta. The reference's small. The unlike values in order, one put in behind the other. The reference's words. -/
import Derived.Test.YtohbdbecioanaaaGreatDoorB13
import Derived.Test.YtohbdbecioanaaaGreatDoorB10
import Derived.Test.YtohbdbecioanaaaGreatDoorB11
import Derived.Test.YtohbdbecioanaaaGreatDoorB9
import Derived.Deep.RegionHeld3
section
namespace Go.Proofs.YtohbdbecioanaaaGreatDoor
open Go.RowKit Go.Hay
set_option linter.unusedVariables false
set_option linter.unusedSimpArgs false

/-- The upper bits of a byte, from bit k on. -/
def hib (f : Nat → Nat) (q : Nat) : Nat → Nat
  | 0 => 0
  | m + 1 => f (8 * q + (7 - m)) + 2 * hib f q m
theorem hib_lt (f : Nat → Nat) (hf : ∀ p, f p < 2) (q : Nat) : ∀ m, hib f q m < 2 ^ m
  | 0 => by simp [hib]
  | m + 1 => by
    have h1 := hib_lt f hf q m
    have h2 := hf (8 * q + (7 - m))
    rw [hib, Nat.pow_succ]
    omega
theorem hib_acc (f : Nat → Nat) (q : Nat) : ∀ m, m ≤ 8 → acc f q (8 - m) + 2 ^ (8 - m) * hib f q m = acc f q 8
  | 0, _ => by simp [hib]
  | m + 1, h => by
    have ih := hib_acc f q m (by omega)
    have e : 8 - m = (8 - (m + 1)) + 1 := by omega
    rw [e, acc, Nat.pow_succ, show 8 - (m + 1) = 7 - m by omega] at ih
    rw [hib, show 8 - (m + 1) = 7 - m by omega, ← ih, Nat.mul_add]
    have e2 : 2 ^ (7 - m) * f (8 * q + (7 - m)) = f (8 * q + (7 - m)) * 2 ^ (7 - m) := Nat.mul_comm _ _
    rw [e2, ← Nat.mul_assoc, Nat.add_assoc]
theorem acc_mask (f : Nat → Nat) (N q : Nat) : ∀ r, acc (fun p => if p < N then f p else 0) q r = acc f q (min r (N - 8 * q))
  | 0 => by simp [acc]
  | r + 1 => by
    rw [acc, acc_mask f N q r]
    by_cases h : 8 * q + r < N
    · rw [if_pos h, show min r (N - 8 * q) = r by omega, show min (r + 1) (N - 8 * q) = r + 1 by omega, acc]
    · rw [if_neg h, show min (r + 1) (N - 8 * q) = min r (N - 8 * q) by omega]; simp
/-- So many bits as a list of bytes. -/
def bitL (f : Nat → Nat) (p : Nat) : List UInt8 := (List.range p).map fun i => UInt8.ofNat (f i)
theorem bitL_len (f : Nat → Nat) (p : Nat) : (bitL f p).length = p := by simp [bitL]
theorem bitL_succ (f : Nat → Nat) (p : Nat) : bitL f (p + 1) = bitL f p ++ [UInt8.ofNat (f p)] := by simp [bitL, List.range_succ]
theorem bitL_at (f : Nat → Nat) (p i : Nat) (h : i < p) : (bitL f p)[i]? = some (UInt8.ofNat (f i)) := by
  unfold bitL
  rw [List.getElem?_map, List.getElem?_range h]; rfl
/-- So many bytes of them. -/
def byL (f : Nat → Nat) (N q : Nat) : List UInt8 := (List.range q).map fun i => UInt8.ofNat (acc f i (min 8 (N - 8 * i)))
theorem byL_len (f : Nat → Nat) (N q : Nat) : (byL f N q).length = q := by simp [byL]
theorem byL_succ (f : Nat → Nat) (N q : Nat) : byL f N (q + 1) = byL f N q ++ [UInt8.ofNat (acc f q (min 8 (N - 8 * q)))] := by simp [byL, List.range_succ]
/-- A row of bytes of the call's own, all new. -/
structure NwB (w W : World) (a : Option Addr) (c : Nat) (bs : List UInt8) : Prop where
  row : BytE.Row W (.slice a bs.length c) bs
  new : ∀ k ∈ blk a, w.heap.size ≤ k
  kp : Kp [] w W
theorem NwB.keep {w W W' : World} {a : Option Addr} {c : Nat} {bs : List UInt8} (h : NwB w W a c bs) (k : Kp [] W W') : NwB w W' a c bs := ⟨h.row.keptNew k, h.new, h.kp.trans k (by simp)⟩
theorem NwB.nil (w : World) : NwB w w none 0 [] := ⟨.inl ⟨rfl, rfl⟩, by simp [blk], Kp.refl _ _⟩
/-- One byte more. -/
theorem NwB.app1 {w W : World} {a : Option Addr} {c : Nat} {bs : List UInt8} (h : NwB w W a c bs) (x : UInt8) (v : Int) (hv : v = (x.toNat : Int)) (hl : bs.length ≤ 100000) :
    ∃ v' W', (Builtin.append_ #[22, 22] 22 #[.slice a bs.length c, .slice (some ⟨W.heap.size, 0, none⟩) 1 1]).run Tryz.prog (W.alloc (.cells #[.int .u8 v] 5)) = .ok v' W' ∧ ∃ a' c', v' = .slice a' (bs.length + 1) c' ∧ NwB w W' a' c' (bs ++ [x]) ∧ Kp (blk a) W W' := by
  obtain ⟨i0, hi, hz0, hz1, hz2⟩ := infoU'
  have kA : Kp [] W (W.alloc (.cells #[.int .u8 v] 5)) := (Kp.refl _ _).alloc _
  have hsx : Sees (W.alloc (.cells #[.int .u8 v] 5)) (some ⟨W.heap.size, 0, none⟩) [x] := oneB W rfl x v hv _
  have hsrc := (seeByt.2 hsx).src (P := Tryz.prog) Tryz.underlying22 1
  obtain ⟨v6, X4, hrun2, hrow6, kk6, hn6⟩ := run_appendG (E := BytE) (P := Tryz.prog) _ 22 22 22 5 i0 _ 1 Tryz.underlying22 hi hz0 hz1 hz2 rfl (.slice a bs.length c) bs (h.row.keptNew kA) _ [x] hsrc (by simp; omega) (by simp; omega)
  obtain ⟨a6, c6, rfl, _⟩ := hrow6.see
  rw [ownS] at kk6
  have el : (bs ++ [x]).length = bs.length + 1 := by simp
  refine ⟨_, X4, hrun2, a6, c6, by rw [el], ⟨hrow6, fun q hq => ?_, (h.kp.trans kA (by simp)).trans kk6 (fun q hq => .inr (h.new q hq))⟩, (kA.mono (fun x hx => by simp at hx)).trans kk6 (fun q hq => .inl hq)⟩
  · rcases hn6 q (by rw [ownS]; exact hq) with h1 | h1
    · rw [ownS] at h1; exact h.new q h1
    · have := h.kp.size; have := kA.size; omega
theorem mask_lt (f : Nat → Nat) (hf : ∀ p, f p < 2) (N : Nat) : ∀ p, (if p < N then f p else 0) < 2 := fun p => by split; exact hf p; omega
set_option maxHeartbeats 8000000 in
set_option maxRecDepth 100000 in
theorem cRefPacked (a : Option Addr) (ca : Nat) (l : List Nat) (wd : Nat) (w : World) (ha : U64E.See w a l) (hl : l.length ≤ 64) (hb : ∀ x ∈ l, x < 18446744073709551616) (hw : wd ≤ 64) :
    Calls Tryz.prog 119 #[.slice a l.length ca, .int .i64 wd] w (NB (packB l wd) w) := by
  obtain ⟨N, hN⟩ : ∃ N, Hid (l.length * wd = N) := ⟨_, rfl⟩
  have hNb : N ≤ 4096 := by rw [← hN.out]; exact Nat.mul_le_mul hl hw
  have hF : Hid (packB l wd = byL (bitOf l wd) N ((N + 7) / 8)) := by show _ = _; unfold packB; rw [hN.out]; rfl
  obtain ⟨f, hf⟩ : ∃ f, Hid (bitOf l wd = f) := ⟨_, rfl⟩
  have hf2 : Hid (∀ p, f p < 2) := by rw [← hf.out]; exact bitOf_lt l wd
  have hfa : Hid (∀ j k (hj : j < l.length), k < wd → f (j * wd + k) = l[j] / 2 ^ k % 2) := fun j k hj hk => by rw [← hf.out]; exact bitOf_at l wd j k hk hj
  rw [hf.out] at hF
  rw [hF.out]
  obtain ⟨F, hFF⟩ : ∃ F, Hid (byL f N ((N + 7) / 8) = F) := ⟨_, rfl⟩
  rw [hFF.out]
  have hb' := hid hb
  have hat : Hid (∀ W, Kp [] w W → ∀ i (hi : i < l.length), ∃ g o, a = some ⟨g, o, none⟩ ∧ W.cell? ⟨g, o + i, none⟩ = some (.int .u64 (l[i] : Int))) := fun W kW i hi => u64At (ha.keptNew kW) i hi
  have hnil := hid (NwB.nil w)
  clear ha hb hF hf
  go_enter Tryz.func119, Tryz.ntmps119
  go_wp2_with fail
  go_loopw [5, 6] (fun v5 i wn => ∃ (j : Nat) (ba : Option Addr) (bc : Nat) (bs : List UInt8), j ≤ l.length ∧ i = .int .i64 j ∧ v5 = .slice ba bs.length bc ∧ NwB w wn ba bc bs ∧ Hid (bs = bitL f (j * wd))) (fun _ i _ => l.length - (intOf i).toNat)
  case atStart => exact ⟨0, none, 0, [], Nat.zero_le _, rfl, rfl, hnil.out, by show _ = _; simp [bitL]⟩
  case round =>
    clear hnil
    obtain ⟨j, ba, bc, bs, hj, rfl, rfl, I, hbs⟩ := hrel
    by_cases hlt : j < l.length
    · obtain ⟨g, o, rfl, hcx⟩ := hat.out wr I.kp j hlt
      have hfj := hid (fun k => hfa.out j k hlt)
      have hxb := hb'.out _ (List.getElem_mem hlt)
      obtain ⟨x, hx⟩ : ∃ x, Hid (l[j]'hlt = x) := ⟨l[j]'hlt, rfl⟩
      rw [hx.out] at hcx hfj hxb
      obtain ⟨M, hM⟩ : ∃ M, Hid (j * wd = M) := ⟨_, rfl⟩
      rw [hM.out] at hbs hfj
      have hMN : M + wd ≤ N := by
        have : (j + 1) * wd ≤ l.length * wd := Nat.mul_le_mul_right _ hlt
        rw [hN.out, Nat.succ_mul, hM.out] at this
        exact this
      have I' := hid I
      clear I
      go_wp2_with fail
      go_loopw [5, 7, 8] (fun v5 v7 i wn => ∃ (k y : Nat) (ba : Option Addr) (bc : Nat) (bs : List UInt8), k ≤ wd ∧ i = .int .i64 k ∧ v7 = .int .u64 (y : Int) ∧ Hid (y = x / 2 ^ k) ∧ v5 = .slice ba bs.length bc ∧ NwB w wn ba bc bs ∧ Hid (bs = bitL f (M + k))) (fun _ _ i _ => wd - (intOf i).toNat)
      case atStart => exact ⟨0, x, ba, bc, bs, Nat.zero_le _, rfl, rfl, by show _ = _; simp, rfl, I'.out, hbs⟩
      case round =>
        clear hbs I' hcx
        obtain ⟨k, y, ba, bc, bs, hk, rfl, rfl, hy, rfl, I, hbs⟩ := hrel
        by_cases hkl : k < wd
        · have hfp := hfj.out k hkl
          have hbl : bs.length ≤ 5000 := by rw [hbs.out, bitL_len]; omega
          have hy64 : y < 18446744073709551616 := by rw [hy.out]; exact Nat.lt_of_le_of_lt (Nat.div_le_self _ _) hxb
          have hvx : ((y : Int) % 2) = ((UInt8.ofNat (f (M + k))).toNat : Int) := by rw [hfp, ← hy.out, UInt8.toNat_ofNat']; omega
          obtain ⟨v', X3, hrun, a3, c3, rfl, I3, _⟩ := I.app1 (UInt8.ofNat (f (M + k))) ((y : Int) % 2) hvx (by omega)
          have hnx : Hid (∃ (k' y' : Nat) (ba : Option Addr) (bc : Nat) (bs' : List UInt8), k' ≤ wd ∧ (.int .i64 ((k : Int) + 1) : Value) = .int .i64 k' ∧ (.int .u64 ((y : Int) / 2) : Value) = .int .u64 (y' : Int) ∧ Hid (y' = x / 2 ^ k') ∧ (.slice a3 (bs.length + 1) c3 : Value) = .slice ba bs'.length bc ∧ NwB w X3 ba bc bs' ∧ Hid (bs' = bitL f (M + k'))) :=
            ⟨k + 1, y / 2, a3, c3, bs ++ [UInt8.ofNat (f (M + k))], by omega, by go_num, by go_num, by show _ = _; rw [hy.out, Nat.pow_succ, Nat.div_div_eq_div_mul], by simp, I3, by show _ = _; rw [hbs.out, ← bitL_succ, Nat.add_assoc]⟩
          clear I I3 hbs hfp hvx hy
          go_wp2_with (first | (refine wpAppRun rfl _ _ 22 22 rfl _ _ _ rfl rfl hrun ?_) | fail)
          exact ⟨hnx.out, by simp [intOf]; omega⟩
        · obtain rfl : k = wd := by omega
          have hnx : Hid (bs = bitL f ((j + 1) * k)) := by show _ = _; rw [hbs.out, Nat.succ_mul, hM.out]
          clear hbs
          go_wp2_with fail
          exact ⟨⟨j + 1, ba, bc, bs, by omega, by go_num, rfl, I, hnx⟩, by simp [intOf]; omega⟩
    · obtain rfl : j = l.length := by omega
      rw [hN.out] at hbs
      have hbl : bs.length = N := by rw [hbs.out, bitL_len]
      have hbit : Hid (∀ W, Kp [] wr W → ∀ i, i < N → ∃ g o, ba = some ⟨g, o, none⟩ ∧ W.cell? ⟨g, o + i, none⟩ = some (.int .u8 (f i : Int))) := fun W kW i hi => by
        obtain ⟨_, _, e, hs, _⟩ := (I.row.keptNew kW).see
        injection e with e1 e2 e3
        obtain ⟨g, o, e4, hc⟩ := hs.at (j := i) (x := UInt8.ofNat (f i)) (by rw [hbs.out]; exact bitL_at f N i hi)
        refine ⟨g, o, by rw [e1]; exact e4, ?_⟩
        have := hc 0 _ rfl
        have h2 := hf2.out i
        have e5 : (UInt8.ofNat (f i)).toNat = f i := by rw [UInt8.toNat_ofNat']; omega
        simpa [BytE, e5] using this
      have kI := I.kp
      obtain ⟨fm, hfm⟩ : ∃ fm : Nat → Nat, Hid (fm = fun p => if p < N then f p else 0) := ⟨_, rfl⟩
      have hfm2 : Hid (∀ p, fm p < 2) := by rw [hfm.out]; exact mask_lt f hf2.out N
      have hby : Hid (∀ q, UInt8.ofNat (hib fm q 8) = UInt8.ofNat (acc f q (min 8 (N - 8 * q)))) := fun q => by
        have h1 : hib fm q 8 = acc fm q 8 := by
          have h3 := hib_acc fm q 8 (Nat.le_refl _)
          rw [Nat.sub_self, show acc fm q 0 = 0 from rfl, Nat.pow_zero, Nat.one_mul, Nat.zero_add] at h3
          exact h3
        have h2 := acc_mask f N q 8
        rw [← hfm.out] at h2
        rw [h1, h2]
      generalize wr = w1 at *
      have hn2 := hid (NwB.nil w1)
      rw [hbl]
      clear I hbs hat hfa hbl
      go_wp2_with fail
      go_loopw [9, 10] (fun v9 v10 wn => ∃ (q A : Nat) (oa : Option Addr) (oc : Nat) (os : List UInt8), v10 = .int .i64 (A : Int) ∧ Hid (A = 8 * q) ∧ q ≤ (N + 7) / 8 ∧ v9 = .slice oa os.length oc ∧ NwB w1 wn oa oc os ∧ Hid (os = byL f N q)) (fun _ v10 _ => N + 8 - (intOf v10).toNat)
      case atStart => exact ⟨0, 0, none, 0, [], rfl, rfl, Nat.zero_le _, rfl, hn2.out, by show _ = _; simp [byL]⟩
      case round =>
        clear hn2
        obtain ⟨q, A, oa, oc, os, rfl, hA, hq, rfl, I, hos⟩ := hrel
        have hol : os.length ≤ 600 := by rw [hos.out, byL_len]; omega
        by_cases hlt : A < N
        · have hq8 : 8 * q < N := by rw [← hA.out]; exact hlt
          have hI := hid I
          clear I
          have dA : (A : Int) < (N : Int) := by omega
          go_wp2_with fail
          go_loopw [11, 12] (fun v11 v12 wn => ∃ (m h : Nat), m ≤ 8 ∧ v12 = .int .i64 (7 - (m : Int)) ∧ v11 = .int .u8 (h : Int) ∧ Hid (h = hib fm q m) ∧ NwB w1 wn oa oc os) (fun _ v12 _ => (intOf v12 + 1).toNat)
          case atStart => exact ⟨0, 0, Nat.zero_le _, rfl, rfl, rfl, hI.out⟩
          case round =>
            clear hI
            obtain ⟨m, h, hm, rfl, rfl, hh, I⟩ := hrel
            by_cases hm8 : m < 8
            · have hhl : h < 2 ^ m := by rw [hh.out]; exact hib_lt fm hfm2.out q m
              have hhl2 : h < 128 := Nat.lt_of_lt_of_le hhl (Nat.le_trans (Nat.pow_le_pow_right (n := 2) (by omega) (show m ≤ 7 by omega)) (by decide))
              obtain ⟨n, hn⟩ : ∃ n, Hid (7 - m = n) := ⟨_, rfl⟩
              have en : (7 : Int) - (m : Int) = (n : Int) := by have := hn.out; omega
              have hn7 : n ≤ 7 := by have := hn.out; omega
              have hhs : Hid (hib fm q (m + 1) = fm (A + n) + 2 * h) := by show _ = _; rw [hib, hh.out, hn.out, hA.out]
              have d0 : (0 : Int) ≤ (n : Int) := by omega
              have dk : (h : Int) * 2 % 256 = ((2 * h : Nat) : Int) := by omega
              have dk2 : IntKind.u8.wrap ((h : Int) * 2) = ((2 * h : Nat) : Int) := by rw [IntKind.wrap_u8]; omega
              rw [en]
              by_cases hin : A + n < N
              · obtain ⟨g, o, rfl, hcb⟩ := hbit.out wr I.kp (A + n) hin
                have hfv : Hid (fm (A + n) = f (A + n)) := by show _ = _; rw [hfm.out]; simp [hin]
                have hf1 := hf2.out (A + n)
                rw [hfv.out] at hhs
                generalize f (A + n) = y at *
                obtain ⟨P, hP⟩ : ∃ P, Hid (A + n = P) := ⟨_, rfl⟩
                rw [hP.out] at hcb hin
                have eP : (A : Int) + (n : Int) = (P : Int) := by have := hP.out; omega
                have dP : (P : Int) < (N : Int) := by omega
                have hnx : Hid (∃ (m' h' : Nat), m' ≤ 8 ∧ (.int .i64 ((n : Int) - 1) : Value) = .int .i64 (7 - (m' : Int)) ∧ (.int .u8 (2 * (h : Int) + (y : Int)) : Value) = .int .u8 (h' : Int) ∧ Hid (h' = hib fm q m') ∧ NwB w1 wr oa oc os) :=
                  ⟨m + 1, y + 2 * h, by omega, by rw [← en]; congr 1; omega, by congr 1; omega, by show _ = _; rw [hhs.out], I⟩
                clear I hhs hh hfv hP
                go_wp2_with fail
                exact ⟨hnx.out, by simp [intOf]⟩
              · have hfv : Hid (fm (A + n) = 0) := by show _ = _; rw [hfm.out]; simp [hin]
                rw [hfv.out] at hhs
                obtain ⟨P, hP⟩ : ∃ P, Hid (A + n = P) := ⟨_, rfl⟩
                rw [hP.out] at hin
                have eP : (A : Int) + (n : Int) = (P : Int) := by have := hP.out; omega
                have dP : ¬ (P : Int) < (N : Int) := by omega
                have hnx : Hid (∃ (m' h' : Nat), m' ≤ 8 ∧ (.int .i64 ((n : Int) - 1) : Value) = .int .i64 (7 - (m' : Int)) ∧ (.int .u8 (2 * (h : Int)) : Value) = .int .u8 (h' : Int) ∧ Hid (h' = hib fm q m') ∧ NwB w1 wr oa oc os) :=
                  ⟨m + 1, 2 * h, by omega, by rw [← en]; congr 1; omega, by go_num, by show _ = _; (rw [hhs.out]; try omega), I⟩
                clear I hhs hh hfv hP
                go_wp2_with fail
                exact ⟨hnx.out, by simp [intOf]⟩
            · obtain rfl : m = 8 := by omega
              have hh8 : h < 256 := by rw [hh.out]; exact hib_lt fm hfm2.out q 8
              have hvx : (h : Int) = ((UInt8.ofNat h).toNat : Int) := by rw [UInt8.toNat_ofNat']; omega
              obtain ⟨v', X3, hrun, a3, c3, rfl, I3, _⟩ := I.app1 (UInt8.ofNat h) (h : Int) hvx (by omega)
              have hvx' := hid hvx
              have e7 : (7 : Int) - ((8 : Nat) : Int) = -1 := by omega
              rw [e7]
              have hnx : Hid (∃ (q' A' : Nat) (oa : Option Addr) (oc : Nat) (os' : List UInt8), (.int .i64 ((A : Int) + 8) : Value) = .int .i64 (A' : Int) ∧ Hid (A' = 8 * q') ∧ q' ≤ (N + 7) / 8 ∧ (.slice a3 (os.length + 1) c3 : Value) = .slice oa os'.length oc ∧ NwB w1 X3 oa oc os' ∧ Hid (os' = byL f N q')) :=
                ⟨q + 1, A + 8, a3, c3, os ++ [UInt8.ofNat h], by go_num, by show _ = _; rw [hA.out]; omega, by omega, by simp, I3, by show _ = _; rw [byL_succ, ← hos.out, hh.out, hby.out]⟩
              clear I I3 hvx hos hh
              go_wp2_with (first | (refine wpAppRun rfl _ _ 22 22 rfl _ _ _ rfl rfl hrun ?_) | fail)
              exact ⟨hnx.out, by simp [intOf]; omega⟩
        · have hqe : q = (N + 7) / 8 := by have := hA.out; omega
          have hfin : NB F w (.returned (.slice oa os.length oc)) wr := by
            have e : os = F := by rw [hos.out, hqe]; exact hFF.out
            subst e
            exact ⟨oa, oc, rfl, rowByt.1 I.row, kI.trans I.kp (by simp), fun k hk => by have := I.new k hk; have := kI.size; omega⟩
          have dA : ¬ (A : Int) < (N : Int) := by omega
          clear I hos hqe
          go_wp2_with fail
          go_ret
          exact hfin
end Go.Proofs.YtohbdbecioanaaaGreatDoor
end

section
namespace Go.Proofs.YtohbdbecioanaaaGreatDoor
open Go.RowKit Go.Hay
set_option linter.unusedVariables false
set_option linter.unusedSimpArgs false

/-- Bytes that a slice sees, behind a row. -/
theorem NwB.appS {w W : World} {a : Option Addr} {c : Nat} {bs : List UInt8} (h : NwB w W a c bs) (a2 : Option Addr) (c2 : Nat) (ys : List UInt8) (hs : Sees W a2 ys) (hl : bs.length ≤ 100000) (hy : ys.length ≤ 100000) :
    ∃ v' W', (Builtin.append_ #[22, 22] 22 #[.slice a bs.length c, .slice a2 ys.length c2]).run Tryz.prog W = .ok v' W' ∧ ∃ a' c', v' = .slice a' (bs.length + ys.length) c' ∧ NwB w W' a' c' (bs ++ ys) ∧ Kp (blk a) W W' := by
  obtain ⟨i0, hi, hz0, hz1, hz2⟩ := infoU'
  have hsrc := (seeByt.2 hs).src (P := Tryz.prog) Tryz.underlying22 c2
  obtain ⟨v6, X4, hrun2, hrow6, kk6, hn6⟩ := run_appendG (E := BytE) (P := Tryz.prog) _ 22 22 22 5 i0 _ 1 Tryz.underlying22 hi hz0 hz1 hz2 rfl (.slice a bs.length c) bs h.row _ ys hsrc (by omega) (by omega)
  obtain ⟨a6, c6, rfl, _⟩ := hrow6.see
  rw [ownS] at kk6
  have el : (bs ++ ys).length = bs.length + ys.length := by simp
  refine ⟨_, X4, hrun2, a6, c6, by rw [el], ⟨hrow6, fun q hq => ?_, h.kp.trans kk6 (fun q hq => .inr (h.new q hq))⟩, kk6⟩
  rcases hn6 q (by rw [ownS]; exact hq) with h1 | h1
  · rw [ownS] at h1; exact h.new q h1
  · have := h.kp.size; omega
theorem NwB.of {w W : World} {v : Value} {bs : List UInt8} (hr : Row W v bs) (hn : ∀ k ∈ own v, w.heap.size ≤ k) (k : Kp [] w W) : ∃ a c, v = .slice a bs.length c ∧ NwB w W a c bs := by
  obtain ⟨a, c, rfl, _⟩ := (rowByt.2 hr).see
  exact ⟨a, c, rfl, rowByt.2 hr, fun q hq => hn q (by rw [ownS]; exact hq), k⟩
theorem NwB.back {w W W' : World} {a : Option Addr} {c : Nat} {bs : List UInt8} (h : NwB W W' a c bs) (k : Kp [] w W) : NwB w W' a c bs := ⟨h.row, fun q hq => by have := h.new q hq; have := k.size; omega, k.trans h.kp (by simp)⟩
theorem zig_pos {d : Int} (h0 : ¬ d < 0) (h : d < 9223372036854775808) : IntKind.u64.wrap (wrap64 (2 * d)) = zig d := by
  unfold zig wrap64; rw [if_pos (by omega), IntKind.wrap_u64]; omega
theorem zig_neg {d : Int} (h0 : d < 0) (h : -9223372036854775808 ≤ d) : IntKind.u64.wrap (wrap64 (wrap64 (-2 * d) - 1)) = zig d := by
  unfold zig wrap64; rw [if_neg (by omega), IntKind.wrap_u64]; omega
set_option maxHeartbeats 8000000 in
set_option maxRecDepth 100000 in
theorem cRefDelta (a : Option Addr) (ca : Nat) (l : List Val) (w : World) (ha : Vals w a l) (h0 : 0 < l.length) (hl : l.length ≤ 64) :
    Calls Tryz.prog 79 #[.slice a l.length ca] w (NB (deltaB l) w) := by
  have hF : Hid (deltaB l = be (u64 (l.getD 0 nv).n) 8 ++ dlt l (l.length - 1)) := rfl
  obtain ⟨F, hFF⟩ : ∃ F, Hid (deltaB l = F) := ⟨_, rfl⟩
  rw [hFF.out] at hF ⊢
  obtain ⟨g, o, rfl, hdrop⟩ := ha.at 0 h0
  clear hdrop
  have hat : Hid (∀ W, Kp [] w W → ∀ j, j < l.length → W.cell? ⟨g, o + j * 4 + 2, none⟩ = some (.int .i64 (l.getD j nv).n)) := fun W kW j hj => by
    obtain ⟨_, _, e, _, _, a2, _⟩ := (ha.kept kW).at j hj
    cases e
    have eg : l.getD j nv = l[j] := by simp [hj]
    rw [eg]; exact a2
  have c0 := hat.out w (Kp.refl _ _) 0 h0
  rw [Nat.zero_mul, Nat.add_zero] at c0
  obtain ⟨n0, hn0⟩ : ∃ n0, Hid ((l.getD 0 nv).n = n0) := ⟨_, rfl⟩
  rw [hn0.out] at c0 hF
  have hu : Hid ((IntKind.u64.wrap n0).toNat = u64 n0) := by show _ = _; rw [IntKind.wrap_u64]; rfl
  have hw0 : IntKind.u64.wrap n0 = ((u64 n0 : Nat) : Int) := by rw [IntKind.wrap_u64]; unfold u64; omega
  have hult : u64 n0 < 18446744073709551616 := by unfold u64; omega
  have cN := cRefNumber ((u64 n0 : Nat) : Int) w (by omega) (by omega)
  rw [Int.toNat_natCast] at cN
  have hB8 : (be (u64 n0) 8).length = 8 := be_length _ _
  obtain ⟨B8, hB⟩ : ∃ B8, Hid (be (u64 n0) 8 = B8) := ⟨_, rfl⟩
  rw [hB.out] at cN hF hB8
  have hB8' := hid hB8
  generalize u64 n0 = U at *
  clear ha hFF hu hB hn0 hB8
  go_enter Tryz.func79, Tryz.ntmps79
  go_wp2_with fail
  refine cN.mono ?_
  rintro e w1 ⟨v1, rfl, hr1, hn1, k1⟩
  obtain ⟨a1, c1, rfl, I1⟩ := NwB.of hr1 hn1 k1
  have hI1 := hid I1
  clear hr1 hn1 cN I1 c0
  go_wp2_with fail
  go_loopw [3, 4] (fun v3 i wn => ∃ (j : Nat) (ba : Option Addr) (bc : Nat) (bs : List UInt8), j < l.length ∧ i = .int .i64 ((j : Int) + 1) ∧ v3 = .slice ba bs.length bc ∧ NwB w wn ba bc bs ∧ Hid (bs = B8 ++ dlt l j)) (fun _ i _ => l.length - (intOf i).toNat)
  case atStart => exact ⟨0, a1, c1, B8, h0, rfl, rfl, hI1.out, by show _ = _; simp [dlt]⟩
  case round =>
    clear hI1 k1
    obtain ⟨j, ba, bc, bs, hj, rfl, rfl, I, hbs⟩ := hrel
    have hbl : bs.length ≤ 700 := by rw [hbs.out, List.length_append, hB8'.out]; have := dlt_len l j; omega
    by_cases hlt : j + 1 < l.length
    · have y1 := hat.out wr I.kp (j + 1) hlt
      have y0 := hat.out wr I.kp j (by omega)
      have hdz : Hid (IntKind.i64.wrap ((l.getD (j + 1) nv).n - (l.getD j nv).n) = dz l j) := rfl
      have hst := hid (dlt_succ l j)
      have hzb := dz_bd l j
      have hDb := wrap64_bd ((l.getD (j + 1) nv).n - (l.getD j nv).n)
      rw [hdz.out] at hDb
      generalize (l.getD (j + 1) nv).n = u at *
      generalize (l.getD j nv).n = v at *
      obtain ⟨D, hD⟩ : ∃ D, Hid (dz l j = D) := ⟨_, rfl⟩
      rw [hD.out] at hdz hzb hst hDb
      have hdz' : IntKind.i64.wrap (u - v) = D := hdz.out
      obtain ⟨Z, hZ⟩ : ∃ Z : Nat, zig D = (Z : Int) := ⟨(zig D).toNat, by omega⟩
      rw [hZ, Int.toNat_natCast] at hst
      have hZ64 : Z < 18446744073709551616 := by omega
      have hjI : ((j : Int) + 1 - 1) = (j : Int) := by omega
      have e4 : o + (j + 1) * 4 + 2 = o + (j + 1) * 4 + 2 := rfl
      have dlt1 : (j : Int) + 1 < (l.length : Int) := by omega
      have hgl := gB_len64 Z hZ64
      obtain ⟨G, hG⟩ : ∃ G, Hid (gB Z = G) := ⟨_, rfl⟩
      rw [hG.out] at hst hgl
      have hI := hid I
      have hgo : Hid (∀ W, Kp [] wr W → ∃ (z : Nat) (ba' : Option Addr) (bc' : Nat) (bs' : List UInt8), (.int .u64 (Z : Int) : Value) = .int .u64 (z : Int) ∧ (.slice ba bs.length bc : Value) = .slice ba' bs'.length bc' ∧ z < 18446744073709551616 ∧ NwB w W ba' bc' bs' ∧ Hid (bs' ++ gB z = bs ++ G)) := fun W kW => ⟨Z, ba, bc, bs, rfl, rfl, hZ64, hI.out.keep kW, by show _ = _; rw [hG.out]⟩
      have hend : Hid (∀ (W : World) (a3 : Option Addr) (c3 : Nat) (bs3 : List UInt8), NwB w W a3 c3 bs3 → bs3 = bs ++ G → ∃ (j' : Nat) (ba' : Option Addr) (bc' : Nat) (bs' : List UInt8), j' < l.length ∧ (.int .i64 ((j : Int) + 1 + 1) : Value) = .int .i64 ((j' : Int) + 1) ∧ (.slice a3 bs3.length c3 : Value) = .slice ba' bs'.length bc' ∧ NwB w W ba' bc' bs' ∧ Hid (bs' = B8 ++ dlt l j')) := fun W a3 c3 bs3 I3 hb3 =>
        ⟨j + 1, a3, c3, bs3, by omega, by go_num, rfl, I3, by show _ = _; rw [hb3, hst.out, hbs.out, List.append_assoc]⟩
      clear I hbs hst hG
      have kq0 : ∀ n, Kp [] wr (wr.drewN n) := fun n => (Kp.refl _ _).drewN n
      by_cases hneg : D < 0
      · have hz := zig_neg hneg hDb.1
        rw [hZ] at hz
        go_wp2_with fail
        go_quiet ((fail))
        have hg0 := hid (hgo.out _ (kq0 nq))
        generalize wr.drewN nq = wq at *
        clear hgo hI kq0 y0 y1
        go_wp2_with fail
        go_loopw [3, 6] (fun v3 v6 wn => ∃ (z : Nat) (ba' : Option Addr) (bc' : Nat) (bs' : List UInt8), v6 = .int .u64 (z : Int) ∧ v3 = .slice ba' bs'.length bc' ∧ z < 18446744073709551616 ∧ NwB w wn ba' bc' bs' ∧ Hid (bs' ++ gB z = bs ++ G)) (fun _ v6 _ => (intOf v6).toNat)
        case atStart => exact hg0.out
        case round =>
          clear hg0 hz
          obtain ⟨z, ba, bc, cs, rfl, rfl, hz6, I, hcs⟩ := hrel
          have hcl : cs.length ≤ 800 := by have := congrArg List.length hcs.out; simp at this; omega
          by_cases h128 : z < 128
          · rw [gB_lo h128] at hcs
            have hvx : (z : Int) = ((UInt8.ofNat z).toNat : Int) := by rw [UInt8.toNat_ofNat']; omega
            obtain ⟨v', X3, hrun, a3, c3, rfl, I3, _⟩ := I.app1 (UInt8.ofNat z) (z : Int) hvx (by omega)
            have hN := hid (hend.out X3 a3 c3 (cs ++ [UInt8.ofNat z]) I3 hcs.out)
            rw [List.length_append, List.length_singleton] at hN
            have hvx' := hid hvx
            have d1 : ¬ (128 : Int) ≤ (z : Int) := by omega
            have hwz : IntKind.u8.wrap (z : Int) = (z : Int) := by rw [IntKind.wrap_u8]; omega
            clear I I3 hvx hend hcs
            go_wp2_with (first | (refine wpAppRun rfl _ _ 22 22 rfl _ _ _ rfl rfl hrun ?_) | fail)
            exact ⟨hN.out, by simp [intOf]; omega⟩
          · rw [gB_hi h128] at hcs
            have hvx : (z : Int) % 128 + 128 = ((UInt8.ofNat (z % 128 + 128)).toNat : Int) := by rw [UInt8.toNat_ofNat']; omega
            obtain ⟨v', X3, hrun, a3, c3, rfl, I3, _⟩ := I.app1 (UInt8.ofNat (z % 128 + 128)) ((z : Int) % 128 + 128) hvx (by omega)
            have hN : Hid (∃ (z' : Nat) (ba' : Option Addr) (bc' : Nat) (bs' : List UInt8), (.int .u64 ((z : Int) / 128) : Value) = .int .u64 (z' : Int) ∧ (.slice a3 (cs.length + 1) c3 : Value) = .slice ba' bs'.length bc' ∧ z' < 18446744073709551616 ∧ NwB w X3 ba' bc' bs' ∧ Hid (bs' ++ gB z' = bs ++ G)) :=
              ⟨z / 128, a3, c3, cs ++ [UInt8.ofNat (z % 128 + 128)], by go_num, by simp, by omega, I3, by show _ = _; rw [← hcs.out]; simp⟩
            have hvx' := hid hvx
            have d1 : (128 : Int) ≤ (z : Int) := by omega
            clear I I3 hvx hend hcs
            go_wp2_with (first | (refine wpAppRun rfl _ _ 22 22 rfl _ _ _ rfl rfl hrun ?_) | fail)
            exact ⟨hN.out, by simp [intOf]; omega⟩
      · have hz := zig_pos hneg hDb.2
        rw [hZ] at hz
        go_wp2_with fail
        go_quiet ((fail))
        have hg0 := hid (hgo.out _ (kq0 nq))
        generalize wr.drewN nq = wq at *
        clear hgo hI kq0 y0 y1
        go_wp2_with fail
        go_loopw [3, 6] (fun v3 v6 wn => ∃ (z : Nat) (ba' : Option Addr) (bc' : Nat) (bs' : List UInt8), v6 = .int .u64 (z : Int) ∧ v3 = .slice ba' bs'.length bc' ∧ z < 18446744073709551616 ∧ NwB w wn ba' bc' bs' ∧ Hid (bs' ++ gB z = bs ++ G)) (fun _ v6 _ => (intOf v6).toNat)
        case atStart => exact hg0.out
        case round =>
          clear hg0 hz
          obtain ⟨z, ba, bc, cs, rfl, rfl, hz6, I, hcs⟩ := hrel
          have hcl : cs.length ≤ 800 := by have := congrArg List.length hcs.out; simp at this; omega
          by_cases h128 : z < 128
          · rw [gB_lo h128] at hcs
            have hvx : (z : Int) = ((UInt8.ofNat z).toNat : Int) := by rw [UInt8.toNat_ofNat']; omega
            obtain ⟨v', X3, hrun, a3, c3, rfl, I3, _⟩ := I.app1 (UInt8.ofNat z) (z : Int) hvx (by omega)
            have hN := hid (hend.out X3 a3 c3 (cs ++ [UInt8.ofNat z]) I3 hcs.out)
            rw [List.length_append, List.length_singleton] at hN
            have hvx' := hid hvx
            have d1 : ¬ (128 : Int) ≤ (z : Int) := by omega
            have hwz : IntKind.u8.wrap (z : Int) = (z : Int) := by rw [IntKind.wrap_u8]; omega
            clear I I3 hvx hend hcs
            go_wp2_with (first | (refine wpAppRun rfl _ _ 22 22 rfl _ _ _ rfl rfl hrun ?_) | fail)
            exact ⟨hN.out, by simp [intOf]; omega⟩
          · rw [gB_hi h128] at hcs
            have hvx : (z : Int) % 128 + 128 = ((UInt8.ofNat (z % 128 + 128)).toNat : Int) := by rw [UInt8.toNat_ofNat']; omega
            obtain ⟨v', X3, hrun, a3, c3, rfl, I3, _⟩ := I.app1 (UInt8.ofNat (z % 128 + 128)) ((z : Int) % 128 + 128) hvx (by omega)
            have hN : Hid (∃ (z' : Nat) (ba' : Option Addr) (bc' : Nat) (bs' : List UInt8), (.int .u64 ((z : Int) / 128) : Value) = .int .u64 (z' : Int) ∧ (.slice a3 (cs.length + 1) c3 : Value) = .slice ba' bs'.length bc' ∧ z' < 18446744073709551616 ∧ NwB w X3 ba' bc' bs' ∧ Hid (bs' ++ gB z' = bs ++ G)) :=
              ⟨z / 128, a3, c3, cs ++ [UInt8.ofNat (z % 128 + 128)], by go_num, by simp, by omega, I3, by show _ = _; rw [← hcs.out]; simp⟩
            have hvx' := hid hvx
            have d1 : (128 : Int) ≤ (z : Int) := by omega
            clear I I3 hvx hend hcs
            go_wp2_with (first | (refine wpAppRun rfl _ _ 22 22 rfl _ _ _ rfl rfl hrun ?_) | fail)
            exact ⟨hN.out, by simp [intOf]; omega⟩
    · have hje : j = l.length - 1 := by omega
      have hfin : NB F w (.returned (.slice ba bs.length bc)) wr := by
        have e : bs = F := by rw [hF.out, hbs.out, hje]
        subst e
        exact ⟨ba, bc, rfl, rowByt.1 I.row, I.kp, I.new⟩
      have d1 : ¬ (j : Int) + 1 < (l.length : Int) := by omega
      clear I hbs hje
      go_wp2_with fail
      go_ret
      exact hfin
end Go.Proofs.YtohbdbecioanaaaGreatDoor
end

section
namespace Go.Proofs.YtohbdbecioanaaaGreatDoor
open Go.RowKit Go.Hay
set_option linter.unusedVariables false
set_option linter.unusedSimpArgs false

/-- A row of numbers of the call's own, all new. -/
structure NwU (w W : World) (a : Option Addr) (c : Nat) (ns : List Nat) : Prop where
  row : U64E.Row W (.slice a ns.length c) ns
  new : ∀ k ∈ blk a, w.heap.size ≤ k
  kp : Kp [] w W
theorem NwU.keep {w W W' : World} {a : Option Addr} {c : Nat} {ns : List Nat} (h : NwU w W a c ns) (k : Kp [] W W') : NwU w W' a c ns := ⟨h.row.keptNew k, h.new, h.kp.trans k (by simp)⟩
theorem NwU.nil (w : World) : NwU w w none 0 [] := ⟨.inl ⟨rfl, rfl⟩, by simp [blk], Kp.refl _ _⟩
theorem NwU.see {w W : World} {a : Option Addr} {c : Nat} {ns : List Nat} (h : NwU w W a c ns) : U64E.See W a ns := by
  obtain ⟨_, _, e, h1, _⟩ := h.row.see
  injection e with e1 e2 e3
  rw [e1]; exact h1
theorem oneU (w : World) {q : Nat} (hq : w.heap.size = q) (x : Nat) (t : TypeId) : U64E.See (w.alloc (.cells #[.int .u64 (x : Int)] t)) (some ⟨q, 0, none⟩) [x] := by
  subst hq
  refine .inr ⟨_, 0, rfl, fun j u hu => ?_⟩
  have e : (w.alloc (.cells #[.int .u64 (x : Int)] t)).cell? ⟨w.heap.size, 0 + j, none⟩ = _ := World.cell?_alloc_new w _ _ (0 + j)
  rw [e, Nat.zero_add]
  simpa [El.cs, U64E] using hu
theorem NwU.app1 {w W : World} {a : Option Addr} {c : Nat} {ns : List Nat} (h : NwU w W a c ns) (x : Nat) (hl : ns.length ≤ 100000) :
    ∃ v' W', (Builtin.append_ #[136, 136] 136 #[.slice a ns.length c, .slice (some ⟨W.heap.size, 0, none⟩) 1 1]).run Tryz.prog (W.alloc (.cells #[.int .u64 (x : Int)] 62)) = .ok v' W' ∧ ∃ a' c', v' = .slice a' (ns.length + 1) c' ∧ NwU w W' a' c' (ns ++ [x]) ∧ Kp (blk a) W W' := by
  obtain ⟨i0, hi, hz0, hz1, hz2⟩ := infoU64
  have kA : Kp [] W (W.alloc (.cells #[.int .u64 (x : Int)] 62)) := (Kp.refl _ _).alloc _
  have hsrc := (oneU W rfl x 62).src (P := Tryz.prog) Tryz.underlying136 1
  obtain ⟨v6, X4, hrun2, hrow6, kk6, hn6⟩ := run_appendG (E := U64E) (P := Tryz.prog) _ 136 136 136 62 i0 _ 8 Tryz.underlying136 hi hz0 hz1 hz2 rfl (.slice a ns.length c) ns (h.row.keptNew kA) _ [x] hsrc (by simp; omega) (by simp; omega)
  obtain ⟨a6, c6, rfl, _⟩ := hrow6.see
  rw [ownS] at kk6
  have el : (ns ++ [x]).length = ns.length + 1 := by simp
  refine ⟨_, X4, hrun2, a6, c6, by rw [el], ⟨hrow6, fun q hq => ?_, (h.kp.trans kA (by simp)).trans kk6 (fun q hq => .inr (h.new q hq))⟩, (kA.mono (fun x hx => by simp at hx)).trans kk6 (fun q hq => .inl hq)⟩
  rcases hn6 q (by rw [ownS]; exact hq) with h1 | h1
  · rw [ownS] at h1; exact h.new q h1
  · have := h.kp.size; have := kA.size; omega
set_option maxHeartbeats 8000000 in
set_option maxRecDepth 100000 in
theorem cRefSmall (a : Option Addr) (ca : Nat) (l : List Val) (w : World) (ha : Vals w a l) (h0 : 0 < l.length) (hl : l.length ≤ 64) :
    Calls Tryz.prog 81 #[.slice a l.length ca] w (NB (bitsB l) w) := by
  obtain ⟨g, o, rfl, hdrop⟩ := ha.at 0 h0
  clear hdrop
  have hat : Hid (∀ W, Kp [] w W → ∀ j, j < l.length → W.cell? ⟨g, o + j * 4 + 2, none⟩ = some (.int .i64 (l.getD j nv).n)) := fun W kW j hj => by
    obtain ⟨_, _, e, _, _, a2, _⟩ := (ha.kept kW).at j hj
    cases e
    have eg : l.getD j nv = l[j] := by simp [hj]
    rw [eg]; exact a2
  have a2 := hat.out w (Kp.refl _ _) 0 h0
  rw [Nat.zero_mul, Nat.add_zero] at a2
  obtain ⟨F, hF⟩ : ∃ F, Hid (bitsB l = F) := ⟨_, rfl⟩
  rw [hF.out]
  have hm00 : Hid (leastTo l 0 = (l.getD 0 nv).n) := rfl
  obtain ⟨m0, hm0⟩ : ∃ m0, Hid (leastTo l 0 = m0) := ⟨_, rfl⟩
  rw [← hm00.out, hm0.out] at a2
  clear ha hm00
  go_enter Tryz.func81, Tryz.ntmps81
  go_wp2_with fail
  go_loopw [3, 4] (fun s i wn => ∃ j : Nat, j ≤ l.length ∧ i = .int .i64 j ∧ s = .int .i64 (leastTo l j) ∧ Kp [] w wn) (fun _ i _ => l.length - (intOf i).toNat)
  case atStart => exact ⟨0, Nat.zero_le _, rfl, by rw [hm0.out], Kp.refl _ _⟩
  case round =>
    clear a2
    obtain ⟨j, hj, rfl, rfl, kn⟩ := hrel
    by_cases hlt : j < l.length
    · have y2 := hat.out wr kn j hlt
      have hsu : Hid (leastTo l (j + 1) = min (leastTo l j) (l.getD j nv).n) := rfl
      obtain ⟨c, hc'⟩ : ∃ c, Hid (leastTo l j = c) := ⟨_, rfl⟩
      rw [hc'.out] at hsu ⊢
      generalize (l.getD j nv).n = vn at *
      go_wp2_with fail
      exact ⟨⟨j + 1, by omega, by go_num, by rw [hsu.out], kn⟩, by simp [intOf]; omega⟩
    · obtain rfl : j = l.length := by omega
      have hFe : Hid (F = be (u64 (leastTo l l.length)) 8 ++ [octet (wdt l (leastTo l l.length) l.length)] ++ packB (abvs l (leastTo l l.length) l.length) (wdt l (leastTo l l.length) l.length)) := by show _ = _; rw [← hF.out]; rfl
      obtain ⟨m, hmm⟩ : ∃ m, Hid (leastTo l l.length = m) := ⟨_, rfl⟩
      rw [hmm.out] at hFe ⊢
      clear hF hm0
      generalize wr = w1 at *
      have hn2 := hid (NwU.nil w1)
      go_wp2_with fail
      go_loopw [5, 6, 7] (fun v5 v6 i wn => ∃ (j : Nat) (ba : Option Addr) (bc : Nat) (ns : List Nat), j ≤ l.length ∧ i = .int .i64 j ∧ v6 = .int .i64 (wdt l m j) ∧ v5 = .slice ba ns.length bc ∧ NwU w1 wn ba bc ns ∧ Hid (ns = abvs l m j)) (fun _ _ i _ => l.length - (intOf i).toNat)
      case atStart => exact ⟨0, none, 0, [], Nat.zero_le _, rfl, rfl, rfl, hn2.out, by show _ = _; simp [abvs]⟩
      case round =>
        clear hn2
        obtain ⟨j, ba, bc, ns, hj, rfl, rfl, rfl, I, hns⟩ := hrel
        have hnl : ns.length ≤ 64 := by rw [hns.out, abvs_length]; exact Nat.le_trans hj hl
        by_cases hlt : j < l.length
        · have y2 := hat.out wr (kn.trans I.kp (by simp)) j hlt
          have hw1 : Hid (wdt l m (j + 1) = max (wdt l m j) (Lib.bitLen (abv l m j))) := rfl
          have hA : Hid (abv l m j = (((l.getD j nv).n - m) % 18446744073709551616).toNat) := rfl
          have hAb := abv_lt l m j
          have hab := abvs_succ l m j
          obtain ⟨A, hAA⟩ : ∃ A, Hid (abv l m j = A) := ⟨_, rfl⟩
          rw [hAA.out] at hw1 hA hAb hab
          generalize (l.getD j nv).n = vn at *
          have hval : IntKind.u64.wrap (IntKind.u64.wrap vn - IntKind.u64.wrap m) = (A : Int) := by
            rw [IntKind.wrap_u64, IntKind.wrap_u64, IntKind.wrap_u64, hA.out]; omega
          obtain ⟨v', X3, hrun, a3, c3, rfl, I3, kk3⟩ := I.app1 A (by omega)
          have cW := cRefWidth A X3 hAb
          obtain ⟨W0, hW0⟩ : ∃ W0, Hid (wdt l m j = W0) := ⟨_, rfl⟩
          obtain ⟨B0, hB0⟩ : ∃ B0, Hid (Lib.bitLen A = B0) := ⟨_, rfl⟩
          rw [hB0.out] at cW hw1
          rw [hW0.out] at hw1 ⊢
          have hnx : Hid (∃ (j' : Nat) (ba : Option Addr) (bc : Nat) (ns' : List Nat), j' ≤ l.length ∧ (.int .i64 ((j : Int) + 1) : Value) = .int .i64 j' ∧ (.int .i64 (max (W0 : Int) (B0 : Int)) : Value) = .int .i64 (wdt l m j') ∧ (.slice a3 (ns.length + 1) c3 : Value) = .slice ba ns'.length bc ∧ NwU w1 X3 ba bc ns' ∧ Hid (ns' = abvs l m j')) :=
            ⟨j + 1, a3, c3, ns ++ [A], by omega, by go_num, by rw [hw1.out]; congr 1; omega, by simp, I3, by show _ = _; rw [hab, hns.out]⟩
          clear I I3 hns hw1 hA hab kk3 hAA hB0 hW0
          go_wp2_with (first | (refine wpAppRun rfl _ _ 136 136 rfl _ _ _ rfl rfl hrun ?_) | fail)
          refine cW.mono ?_
          rintro e w9 ⟨rfl, hw9⟩
          rw [hw9]
          clear hw9 w9 cW hrun
          go_wp2_with fail
          exact ⟨hnx.out, by simp [intOf]; omega⟩
        · obtain rfl : j = l.length := by omega
          have hI := hid I
          have hwl := wdt_le l m l.length
          have hns64 : ∀ x ∈ ns, x < 18446744073709551616 := by rw [hns.out]; exact abvs_lt l m l.length
          rw [← hns.out] at hFe
          obtain ⟨W0, hW0⟩ : ∃ W0, Hid (wdt l m l.length = W0) := ⟨_, rfl⟩
          rw [hW0.out] at hFe hwl ⊢
          have hult : u64 m < 18446744073709551616 := by unfold u64; omega
          have hw0 : IntKind.u64.wrap m = ((u64 m : Nat) : Int) := by rw [IntKind.wrap_u64]; unfold u64; omega
          have cN := cRefNumber ((u64 m : Nat) : Int) wr (by omega) (by omega)
          rw [Int.toNat_natCast] at cN
          have hB8 : (be (u64 m) 8).length = 8 := be_length _ _
          obtain ⟨B8, hB⟩ : ∃ B8, Hid (be (u64 m) 8 = B8) := ⟨_, rfl⟩
          rw [hB.out] at cN hFe hB8
          have hB8' := hid hB8
          have hpl := packB_le ns W0 hnl hwl
          generalize u64 m = U at *
          have kw := kn.trans I.kp (by simp)
          clear I hns hmm hW0 hB hB8 kn
          go_wp2_with fail
          refine cN.mono ?_
          rintro e w3 ⟨v3, rfl, hr3, hn3, k3⟩
          obtain ⟨a3, c3, rfl, I3⟩ := NwB.of hr3 hn3 k3
          have hvx : (W0 : Int) = ((octet W0).toNat : Int) := by rw [octet_nat W0 (by omega)]
          have hb8 : B8.length ≤ 100000 := by rw [hB8'.out]; omega
          obtain ⟨v4, X4, hrun4, a4, c4, rfl, I4, kk4⟩ := I3.app1 (octet W0) (W0 : Int) hvx hb8
          have k4 : Kp [] wr X4 := I4.kp
          have cP := cRefPacked ba bc ns W0 X4 (hI.out.keep k4).see hnl hns64 hwl
          obtain ⟨PB, hPB⟩ : ∃ PB, Hid (packB ns W0 = PB) := ⟨_, rfl⟩
          rw [hPB.out] at cP hFe hpl
          have hI4 := hid I4
          have hvx' := hid hvx
          have hwz : IntKind.u8.wrap (W0 : Int) = (W0 : Int) := by rw [IntKind.wrap_u8]; omega
          have hwz2 : (W0 : Int) % 256 = (W0 : Int) := by omega
          clear cN hr3 hn3 I3 I4 hI hPB kk4 hns64 hvx
          go_wp2_with (first | (refine wpAppRun rfl _ _ 22 22 rfl _ _ _ rfl rfl hrun4 ?_) | fail)
          refine cP.mono ?_
          rintro e w5 ⟨a5, c5, rfl, hr5, k5, hn5⟩
          obtain ⟨hs5, _, _⟩ := rowSee hr5
          have el : (B8 ++ [octet W0]).length = B8.length + 1 := by simp
          obtain ⟨v6, X6, hrun6, a6, c6, rfl, I6, kk6⟩ := (hI4.out.keep k5).appS a5 c5 PB hs5 (by rw [el, hB8'.out]; omega) (by omega)
          rw [el] at hrun6
          have hfin : NB F w (.returned (.slice a6 ((B8 ++ [octet W0]).length + PB.length) c6)) X6 := by
            have e : (B8 ++ [octet W0]) ++ PB = F := hFe.out.symm
            rw [e] at I6
            have e2 : (B8 ++ [octet W0]).length + PB.length = F.length := by rw [← e]; exact (List.length_append).symm
            rw [e2]
            have I7 := I6.back kw
            exact ⟨a6, c6, rfl, rowByt.1 I7.row, I7.kp, I7.new⟩
          rw [el] at hfin
          clear cP hr5 hn5 hs5 I6 kk6 hI4 hFe el
          go_wp2_with (first | (refine wpAppRun rfl _ _ 22 22 rfl _ _ _ rfl rfl hrun6 ?_) | fail)
          go_ret
          exact hfin
end Go.Proofs.YtohbdbecioanaaaGreatDoor
end

section
namespace Go.Proofs.YtohbdbecioanaaaGreatDoor
open Go.RowKit Go.Hay
set_option linter.unusedVariables false
set_option linter.unusedSimpArgs false

/-- A value put in its place. -/
def insR (x : Val) : List Val → List Val
  | [] => [x]
  | y :: r => if cmpV x y < 0 then x :: y :: r else if cmpV x y = 0 then x :: r else y :: insR x r
def wordsV : List Val → List Val → List Val
  | out, [] => out
  | out, x :: l => wordsV (insR x out) l
theorem cmpV_neg {x y : Val} : cmpV x y < 0 ↔ x.lt y = true := by
  have := ltV x y
  unfold ltOf at this
  rw [← this]; simp
theorem cmp_same {x y : Val} (hx : x.right = true) (hy : y.right = true) (h : cmpV x y = 0) : x = y := by
  obtain ⟨h1, h2⟩ := (cmp_zero x y).1 h
  exact lt_total x y hx hy h1 h2
theorem cmp_pos {x y : Val} (hx : x.right = true) (hy : y.right = true) (h1 : ¬ cmpV x y < 0) (h2 : ¬ cmpV x y = 0) : y.lt x = true := by
  cases h : y.lt x with
  | true => rfl
  | false =>
    have h3 : x.lt y = false := by
      cases h4 : x.lt y with
      | false => rfl
      | true => exact absurd (cmpV_neg.2 h4) h1
    exact absurd ((cmp_zero x y).2 ⟨h3, h⟩) h2
theorem insR_mem (x z : Val) (hx : x.right = true) : ∀ l : List Val, allR l = true → (z ∈ insR x l ↔ z = x ∨ z ∈ l)
  | [], _ => by simp [insR]
  | y :: r, h => by
    have hy : y.right = true := by simp [allR] at h; exact h.1
    have hr : allR r = true := by simp [allR] at h ⊢; exact h.2
    rw [insR]
    split
    · simp
    · split
      · rename_i h1 h2
        have := cmp_same hx hy h2
        subst this
        simp
      · have ih := insR_mem x z hx r hr
        simp only [List.mem_cons, ih]
        constructor
        · rintro (h | h | h)
          · exact .inr (.inl h)
          · exact .inl h
          · exact .inr (.inr h)
        · rintro (h | h | h)
          · exact .inr (.inl h)
          · exact .inl h
          · exact .inr (.inr h)
theorem insR_right (x : Val) (hx : x.right = true) (l : List Val) (h : allR l = true) : allR (insR x l) = true := List.all_eq_true.2 fun z hz => by
  rcases (insR_mem x z hx l h).1 hz with h1 | h1
  · rw [h1]; exact hx
  · exact List.all_eq_true.1 h z h1
theorem insR_sorted (x : Val) (hx : x.right = true) : ∀ l : List Val, allR l = true → l.Pairwise (fun a b => a.lt b = true) → (insR x l).Pairwise (fun a b => a.lt b = true)
  | [], _, _ => by simp [insR]
  | y :: r, h, hp => by
    have hy : y.right = true := by simp [allR] at h; exact h.1
    have hr : allR r = true := by simp [allR] at h ⊢; exact h.2
    obtain ⟨hp1, hp2⟩ := List.pairwise_cons.1 hp
    rw [insR]
    split
    · rename_i h1
      have hxy := cmpV_neg.1 h1
      refine List.pairwise_cons.2 ⟨fun z hz => ?_, hp⟩
      rcases List.mem_cons.1 hz with rfl | hz
      · exact hxy
      · exact ltV_trans x y z hxy (hp1 z hz)
    · split
      · rename_i h1 h2
        have := cmp_same hx hy h2
        subst this
        exact hp
      · rename_i h1 h2
        have hyx := cmp_pos hx hy h1 h2
        refine List.pairwise_cons.2 ⟨fun z hz => ?_, insR_sorted x hx r hr hp2⟩
        rcases (insR_mem x z hx r hr).1 hz with h3 | h3
        · rw [h3]; exact hyx
        · exact hp1 z h3
theorem wordsV_all : ∀ (l out : List Val), allR l = true → allR out = true → out.Pairwise (fun a b => a.lt b = true) → (wordsV out l).Pairwise (fun a b => a.lt b = true) ∧ ∀ z, z ∈ wordsV out l ↔ z ∈ out ∨ z ∈ l
  | [], out, _, _, hp => ⟨hp, fun z => by simp [wordsV]⟩
  | x :: l, out, h, ho, hp => by
    have hx : x.right = true := by simp [allR] at h; exact h.1
    have hr : allR l = true := by simp [allR] at h ⊢; exact h.2
    obtain ⟨h1, h2⟩ := wordsV_all l (insR x out) hr (insR_right x hx out ho) (insR_sorted x hx out ho hp)
    refine ⟨h1, fun z => ?_⟩
    show z ∈ wordsV (insR x out) l ↔ _
    rw [h2 z, insR_mem x z hx out ho, List.mem_cons]
    constructor
    · rintro ((h | h) | h)
      · exact .inr (.inl h)
      · exact .inl h
      · exact .inr (.inr h)
    · rintro (h | h | h)
      · exact .inl (.inr h)
      · exact .inl (.inl h)
      · exact .inr h
theorem lt_irr (x : Val) : x.lt x = false := by
  cases h : x.lt x with
  | false => rfl
  | true => have := Val.lt_asymm x x h; rw [h] at this; cases this
theorem sort_sorted (l : List Val) : (sortV l).Pairwise (fun x y => y.lt x = false) := by
  have := List.pairwise_mergeSort (le := fun x y : Val => !(y.lt x)) (fun a b c h1 h2 => by simp only [Bool.not_eq_true'] at *; exact Val.lt_ntrans a b c h1 h2) (fun a b => by
    cases h : b.lt a with
    | false => simp
    | true => simp [Val.lt_asymm b a h]) l
  exact this.imp (by simp)
theorem cpt_sorted (s : List Val) (hr : allR s = true) (hs : s.Pairwise (fun x y => y.lt x = false)) : ∀ j, j ≤ s.length → (cptTo s j).Pairwise (fun a b => a.lt b = true) ∧ (0 < j → ∀ z ∈ cptTo s j, z.lt (s.getD (j - 1) nv) = true ∨ z = s.getD (j - 1) nv) := by
  intro j
  induction j with
  | zero => intro _; exact ⟨by simp [cptTo], fun h => absurd h (by omega)⟩
  | succ j ih =>
    intro hj
    obtain ⟨h1, h2⟩ := ih (by omega)
    have hjl : j < s.length := by omega
    have ej : s.getD j nv = s[j] := by simp [hjl]
    by_cases hc : j ≠ 0 ∧ (s.getD j nv).eqv (s.getD (j - 1) nv) = true
    · rw [cptTo_same s j hc.1 hc.2]
      refine ⟨h1, fun _ z hz => ?_⟩
      have e := eqv_iff.1 hc.2
      rw [Nat.add_sub_cancel, e]
      exact h2 (by omega) z hz
    · have hc' : j = 0 ∨ (s.getD j nv).eqv (s.getD (j - 1) nv) = false := by
        by_cases h0 : j = 0
        · exact .inl h0
        · refine .inr ?_
          cases he : (s.getD j nv).eqv (s.getD (j - 1) nv) with
          | false => rfl
          | true => exact absurd ⟨h0, he⟩ hc
      rw [cptTo_new s j hc']
      have hlt : ∀ z ∈ cptTo s j, z.lt (s.getD j nv) = true := fun z hz => by
        have h0 : 0 < j := by
          rcases Nat.eq_zero_or_pos j with h0 | h0
          · subst h0; simp [cptTo] at hz
          · exact h0
        have hj1 : j - 1 < s.length := by omega
        have ej1 : s.getD (j - 1) nv = s[j - 1] := by simp [hj1]
        have hpp := List.pairwise_iff_getElem.1 hs (j - 1) j hj1 hjl (by omega)
        have hne : s.getD j nv ≠ s.getD (j - 1) nv := fun e => by
          rcases hc' with h3 | h3
          · omega
          · rw [e, eqv_self] at h3; cases h3
        have hstep : (s.getD (j - 1) nv).lt (s.getD j nv) = true := by
          cases hl : (s.getD (j - 1) nv).lt (s.getD j nv) with
          | true => rfl
          | false =>
            exact absurd (lt_total _ _ (by rw [ej]; exact List.all_eq_true.1 hr _ (List.getElem_mem hjl)) (by rw [ej1]; exact List.all_eq_true.1 hr _ (List.getElem_mem hj1)) (by rw [ej, ej1]; exact hpp) hl) hne
        rcases h2 h0 z hz with h3 | h3
        · exact ltV_trans _ _ _ h3 hstep
        · rw [h3]; exact hstep
      refine ⟨List.pairwise_append.2 ⟨h1, by simp, fun a ha b hb => ?_⟩, fun _ z hz => ?_⟩
      · rw [List.mem_singleton.1 hb]; exact hlt a ha
      · rw [Nat.add_sub_cancel]
        rcases List.mem_append.1 hz with h3 | h3
        · exact .inl (hlt z h3)
        · exact .inr (List.mem_singleton.1 h3)
theorem nodup_of {l : List Val} (h : l.Pairwise (fun a b => a.lt b = true)) : l.Nodup := h.imp (fun {a b} hab e => by subst e; rw [lt_irr] at hab; cases hab)
/-- The reference's words are the unlike values in order. -/
theorem words_uniq (l : List Val) (h : allR l = true) : wordsV [] l = uniq l := by
  obtain ⟨h1, h2⟩ := wordsV_all l [] h rfl (by simp)
  have hsr : allR (sortV l) = true := List.all_eq_true.2 fun x hx => List.all_eq_true.1 h x ((List.mergeSort_perm l _).mem_iff.1 hx)
  have h3 : (uniq l).Pairwise (fun a b => a.lt b = true) := (cpt_sorted (sortV l) hsr (sort_sorted l) _ (Nat.le_refl _)).1
  have hp : (wordsV [] l).Perm (uniq l) := (List.perm_ext_iff_of_nodup (nodup_of h1) (nodup_of h3)).2 fun z => by rw [h2 z, uniq_mem]; simp
  refine List.Perm.eq_of_pairwise ?_ h1 h3 hp
  intro a b _ _ hab hba
  rw [Val.lt_asymm a b hab] at hba
  cases hba
theorem uniq_sorted (l : List Val) (h : allR l = true) : (uniq l).Nodup := by
  have hsr : allR (sortV l) = true := List.all_eq_true.2 fun x hx => List.all_eq_true.1 h x ((List.mergeSort_perm l _).mem_iff.1 hx)
  exact nodup_of (cpt_sorted (sortV l) hsr (sort_sorted l) _ (Nat.le_refl _)).1
end Go.Proofs.YtohbdbecioanaaaGreatDoor
end

section
namespace Go.Proofs.YtohbdbecioanaaaGreatDoor
open Go.RowKit Go.Hay
set_option linter.unusedVariables false
set_option linter.unusedSimpArgs false

/-- A row of values of the call's own, all new. -/
structure NwV (w W : World) (a : Option Addr) (c : Nat) (l : List Val) : Prop where
  row : VE.Row W (.slice a l.length c) l
  new : ∀ k ∈ blk a, w.heap.size ≤ k
  kp : Kp [] w W
theorem NwV.keep {w W W' : World} {a : Option Addr} {c : Nat} {l : List Val} (h : NwV w W a c l) (k : Kp [] W W') : NwV w W' a c l := ⟨h.row.keptNew k, h.new, h.kp.trans k (by simp)⟩
theorem NwV.nil (w : World) : NwV w w none 0 [] := ⟨.inl ⟨rfl, rfl⟩, by simp [blk], Kp.refl _ _⟩
theorem NwV.back {w W W' : World} {a : Option Addr} {c : Nat} {l : List Val} (h : NwV W W' a c l) (k : Kp [] w W) : NwV w W' a c l := ⟨h.row, fun q hq => by have := h.new q hq; have := k.size; omega, k.trans h.kp (by simp)⟩
theorem NwV.app1 {w W : World} {a : Option Addr} {c : Nat} {l : List Val} (h : NwV w W a c l) (x : Val) (hl : l.length ≤ 100000) :
    ∃ v' W', (Builtin.append_ #[23, 23] 23 #[.slice a l.length c, .slice (some ⟨W.heap.size, 0, none⟩) 1 1]).run Tryz.prog (W.alloc (.cells #[.int .i64 x.k, .bool x.b, .int .i64 x.n, .string x.t] 30)) = .ok v' W' ∧ ∃ a' c', v' = .slice a' (l.length + 1) c' ∧ NwV w W' a' c' (l ++ [x]) ∧ Kp (blk a) W W' := by
  obtain ⟨i0, hi, hz0, hz1, hz2⟩ := infoV'
  have kA : Kp [] W (W.alloc (.cells #[.int .i64 x.k, .bool x.b, .int .i64 x.n, .string x.t] 30)) := (Kp.refl _ _).alloc _
  have hsrc := (oneV W rfl x 30).src (P := Tryz.prog) Tryz.underlying23 1
  obtain ⟨v6, X4, hrun2, hrow6, kk6, hn6⟩ := run_appendG (E := VE) (P := Tryz.prog) _ 23 23 23 30 i0 _ 40 Tryz.underlying23 hi hz0 hz1 hz2 rfl (.slice a l.length c) l (h.row.keptNew kA) _ [x] hsrc (by simp; omega) (by simp; omega)
  obtain ⟨a6, c6, rfl, _⟩ := hrow6.see
  rw [ownS] at kk6
  have el : (l ++ [x]).length = l.length + 1 := by simp
  refine ⟨_, X4, hrun2, a6, c6, by rw [el], ⟨hrow6, fun q hq => ?_, (h.kp.trans kA (by simp)).trans kk6 (fun q hq => .inr (h.new q hq))⟩, (kA.mono (fun x hx => by simp at hx)).trans kk6 (fun q hq => .inl hq)⟩
  rcases hn6 q (by rw [ownS]; exact hq) with h1 | h1
  · rw [ownS] at h1; exact h.new q h1
  · have := h.kp.size; have := kA.size; omega
theorem insR_len (x : Val) : ∀ l : List Val, (insR x l).length ≤ l.length + 1
  | [] => by simp [insR]
  | y :: r => by
    have := insR_len x r
    rw [insR]
    split
    · simp
    · split
      · simp
      · simp; omega
/-- What becomes of it from here on. -/
def finW (x : Val) (d : Bool) (acc rest : List Val) : List Val := if d then acc ++ rest else acc ++ insR x rest
set_option maxHeartbeats 16000000 in
set_option maxRecDepth 100000 in
theorem cRefWords (a : Option Addr) (ca : Nat) (l : List Val) (w : World) (ha : Vals w a l) (hl : l.length ≤ 64) :
    Calls Tryz.prog 118 #[.slice a l.length ca] w fun e w' => ∃ a' c', e = .returned (.slice a' (wordsV [] l).length c') ∧ NwV w w' a' c' (wordsV [] l) := by
  obtain ⟨F, hF⟩ : ∃ F, Hid (wordsV [] l = F) := ⟨_, rfl⟩
  rw [hF.out]
  have ha' := hid ha
  have hnil := hid (NwV.nil w)
  clear ha
  go_enter Tryz.func118, Tryz.ntmps118
  go_wp2_with fail
  go_loopw [3, 4] (fun v3 i wn => ∃ (j : Nat) (oa : Option Addr) (oc : Nat) (out : List Val), j ≤ l.length ∧ i = .int .i64 j ∧ v3 = .slice oa out.length oc ∧ out.length ≤ j ∧ NwV w wn oa oc out ∧ Hid (wordsV out (l.drop j) = F)) (fun _ i _ => l.length - (intOf i).toNat)
  case atStart => exact ⟨0, none, 0, [], Nat.zero_le _, rfl, rfl, Nat.zero_le _, hnil.out, hF⟩
  case round =>
    clear hnil hF
    obtain ⟨j, oa, oc, out, hj, rfl, rfl, hol, I, hF⟩ := hrel
    by_cases hlt : j < l.length
    · rw [List.drop_eq_getElem_cons hlt, wordsV] at hF
      obtain ⟨g, o, rfl, hdrop⟩ := (ha'.out.kept I.kp).at j hlt
      clear hdrop
      have hcx : Hid (∀ W, Kp [] wr W → W.cell? ⟨g, o + j * 4, none⟩ = some (.int .i64 (l[j]'hlt).k) ∧ W.cell? ⟨g, o + j * 4 + 1, none⟩ = some (.bool (l[j]'hlt).b) ∧ W.cell? ⟨g, o + j * 4 + 2, none⟩ = some (.int .i64 (l[j]'hlt).n) ∧ W.cell? ⟨g, o + j * 4 + 3, none⟩ = some (.string (l[j]'hlt).t)) := fun W kW => by
        obtain ⟨_, _, e, y0, y1, y2, y3⟩ := (ha'.out.kept (I.kp.trans kW (by simp))).at j hlt
        cases e
        exact ⟨y0, y1, y2, y3⟩
      obtain ⟨x, hx⟩ : ∃ x, Hid (l[j]'hlt = x) := ⟨l[j]'hlt, rfl⟩
      rw [hx.out] at hF
      simp only [hx.out] at hcx
      have hov : Hid (∀ W, Kp [] wr W → Vals W oa out) := fun W kW => (rowVals (I.row.keptNew kW)).1
      have hil := insR_len x out
      have hfin0 : Hid (finW x false [] out = insR x out) := by show _ = _; unfold finW; simp
      obtain ⟨Q, hQ⟩ : ∃ Q, Hid (insR x out = Q) := ⟨_, rfl⟩
      rw [hQ.out] at hfin0 hil hF
      have kI := I.kp
      generalize wr = w1 at *
      have hn1 := hid (NwV.nil w1)
      clear hQ I hx
      obtain ⟨xk, xb, xn, xt⟩ := x
      dsimp only at hcx
      go_wp2_with fail
      go_loopw [5, 6, 7] (fun v5 v6 v7 wn => ∃ (k : Nat) (d : Bool) (na : Option Addr) (nc : Nat) (nx : List Val), k ≤ out.length ∧ v7 = .int .i64 k ∧ v6 = .bool d ∧ v5 = .slice na nx.length nc ∧ nx.length ≤ k + d.toNat ∧ NwV w1 wn na nc nx ∧ Hid (finW ⟨xk, xb, xn, xt⟩ d nx (out.drop k) = Q)) (fun _ _ v7 _ => out.length - (intOf v7).toNat)
      case atStart => exact ⟨0, false, none, 0, [], Nat.zero_le _, rfl, rfl, rfl, Nat.zero_le _, hn1.out, hfin0⟩
      case round =>
        clear hn1 hfin0
        obtain ⟨k, d, na, nc, nx, hk, rfl, rfl, rfl, hnl0, I, hfin⟩ := hrel
        have hnl : nx.length ≤ k + 1 := by cases d <;> simp at hnl0 <;> omega
        have hnl1 := hid hnl0
        clear hnl0
        by_cases hko : k < out.length
        · rw [List.drop_eq_getElem_cons hko] at hfin
          obtain ⟨g2, o2, rfl, hdrop⟩ := (hov.out wr I.kp).at k hko
          clear hdrop
          have hcy : Hid (∀ W, Kp [] w1 W → W.cell? ⟨g2, o2 + k * 4, none⟩ = some (.int .i64 (out[k]'hko).k) ∧ W.cell? ⟨g2, o2 + k * 4 + 1, none⟩ = some (.bool (out[k]'hko).b) ∧ W.cell? ⟨g2, o2 + k * 4 + 2, none⟩ = some (.int .i64 (out[k]'hko).n) ∧ W.cell? ⟨g2, o2 + k * 4 + 3, none⟩ = some (.string (out[k]'hko).t)) := fun W kW => by
            obtain ⟨_, _, e, y0, y1, y2, y3⟩ := (hov.out W kW).at k hko
            cases e
            exact ⟨y0, y1, y2, y3⟩
          obtain ⟨y, hy⟩ : ∃ y, Hid (out[k]'hko = y) := ⟨out[k]'hko, rfl⟩
          rw [hy.out] at hfin
          simp only [hy.out] at hcy
          have cC : Hid (∀ W, Calls Tryz.prog 50 #[.agg #[.int .i64 xk, .bool xb, .int .i64 xn, .string xt], y.v] W fun e w' => e = .returned (.int .i64 (cmpV ⟨xk, xb, xn, xt⟩ y)) ∧ Kp [] W w') := fun W => cRefCompare ⟨xk, xb, xn, xt⟩ y W
          obtain ⟨yk, yb, yn, yt⟩ := y
          unfold Val.v at cC
          dsimp only at hcy cC
          have hins : Hid (insR ⟨xk, xb, xn, xt⟩ (⟨yk, yb, yn, yt⟩ :: out.drop (k + 1)) = if cmpV ⟨xk, xb, xn, xt⟩ ⟨yk, yb, yn, yt⟩ < 0 then ⟨xk, xb, xn, xt⟩ :: ⟨yk, yb, yn, yt⟩ :: out.drop (k + 1) else if cmpV ⟨xk, xb, xn, xt⟩ ⟨yk, yb, yn, yt⟩ = 0 then ⟨xk, xb, xn, xt⟩ :: out.drop (k + 1) else ⟨yk, yb, yn, yt⟩ :: insR ⟨xk, xb, xn, xt⟩ (out.drop (k + 1))) := rfl
          obtain ⟨C, hC⟩ : ∃ C, Hid (cmpV ⟨xk, xb, xn, xt⟩ ⟨yk, yb, yn, yt⟩ = C) := ⟨_, rfl⟩
          simp only [hC.out] at cC
          rw [hC.out] at hins
          have hS : Hid (∀ A, Kp [] w1 A → (A.cell? ⟨g, o + j * 4, none⟩ = some (.int .i64 xk) ∧ A.cell? ⟨g, o + j * 4 + 1, none⟩ = some (.bool xb) ∧ A.cell? ⟨g, o + j * 4 + 2, none⟩ = some (.int .i64 xn) ∧ A.cell? ⟨g, o + j * 4 + 3, none⟩ = some (.string xt)) ∧ (A.cell? ⟨g2, o2 + k * 4, none⟩ = some (.int .i64 yk) ∧ A.cell? ⟨g2, o2 + k * 4 + 1, none⟩ = some (.bool yb) ∧ A.cell? ⟨g2, o2 + k * 4 + 2, none⟩ = some (.int .i64 yn) ∧ A.cell? ⟨g2, o2 + k * 4 + 3, none⟩ = some (.string yt))) := fun A kA => ⟨hcx.out A kA, hcy.out A kA⟩
          have kIw := I.kp
          have hI := hid I
          have kd : Kp [] w1 wr.drew := kIw.drew
          have kd2 : Kp [] wr wr.drew := (Kp.refl _ _).drew
          clear hy hC I
          go_wp2_with fail
          refine wp_region_held_drew (S := (fun A => (A.cell? ⟨g, o + j * 4, none⟩ = some (.int .i64 xk) ∧ A.cell? ⟨g, o + j * 4 + 1, none⟩ = some (.bool xb) ∧ A.cell? ⟨g, o + j * 4 + 2, none⟩ = some (.int .i64 xn) ∧ A.cell? ⟨g, o + j * 4 + 3, none⟩ = some (.string xt)) ∧ (A.cell? ⟨g2, o2 + k * 4, none⟩ = some (.int .i64 yk) ∧ A.cell? ⟨g2, o2 + k * 4 + 1, none⟩ = some (.bool yb) ∧ A.cell? ⟨g2, o2 + k * 4 + 2, none⟩ = some (.int .i64 yn) ∧ A.cell? ⟨g2, o2 + k * 4 + 3, none⟩ = some (.string yt)))) (by kernel_rfl) ?_ (fun hHeld => ?_)
          · exact hS.out _ kd
          generalize wr.drew = wd at *
          refine wpAnyH_take (i := 0) (v := ?_) rfl (by kernel_rfl) (by kernel_rfl) (by kernel_rfl) (fun _ _ _ h => h) (Or.inl ⟨by rfl, ?_⟩) (by assumption) ?_
          rotate_left
          · intro w hSw; (try dsimp only at hSw); go_simp <;> with_reducible rfl
          try simp only [Act.put, List.getElem_toArray, List.getElem_cons_zero, List.getElem_cons_succ, List.setIfInBounds_toArray, List.set_cons_zero, List.set_cons_succ]
          refine wpAnyH_take (i := 1) (v := ?_) rfl (by kernel_rfl) (by kernel_rfl) (by kernel_rfl) (fun _ _ _ h => h) (Or.inl ⟨by rfl, ?_⟩) (by assumption) ?_
          rotate_left
          · intro w hSw; (try dsimp only at hSw); go_simp <;> with_reducible rfl
          try simp only [Act.put, List.getElem_toArray, List.getElem_cons_zero, List.getElem_cons_succ, List.setIfInBounds_toArray, List.set_cons_zero, List.set_cons_succ]
          refine wpAnyH_take (i := 2) (v := ?_) rfl (by kernel_rfl) (by kernel_rfl) (by kernel_rfl) (fun _ _ _ h => h) (Or.inl ⟨by rfl, ?_⟩) (by assumption) ?_
          rotate_left
          · intro w hSw; (try dsimp only at hSw); go_simp <;> with_reducible rfl
          try simp only [Act.put, List.getElem_toArray, List.getElem_cons_zero, List.getElem_cons_succ, List.setIfInBounds_toArray, List.set_cons_zero, List.set_cons_succ]
          refine wpAnyH_take (i := 3) (v := ?_) rfl (by kernel_rfl) (by kernel_rfl) (by kernel_rfl) (fun _ _ _ h => h) (Or.inl ⟨by rfl, ?_⟩) (by assumption) ?_
          rotate_left
          · intro w hSw; (try dsimp only at hSw); go_simp <;> with_reducible rfl
          try simp only [Act.put, List.getElem_toArray, List.getElem_cons_zero, List.getElem_cons_succ, List.setIfInBounds_toArray, List.set_cons_zero, List.set_cons_succ]
          refine wpAnyH_take (i := 4) (v := ?_) rfl (by kernel_rfl) (by kernel_rfl) (by kernel_rfl) (fun _ _ _ h => h) (Or.inl ⟨by rfl, ?_⟩) (by assumption) ?_
          rotate_left
          · intro w hSw; (try dsimp only at hSw); go_simp <;> with_reducible rfl
          try simp only [Act.put, List.getElem_toArray, List.getElem_cons_zero, List.getElem_cons_succ, List.setIfInBounds_toArray, List.set_cons_zero, List.set_cons_succ]
          refine wpAnyH_take (i := 5) (v := ?_) rfl (by kernel_rfl) (by kernel_rfl) (by kernel_rfl) (fun _ _ _ h => h) (Or.inl ⟨by rfl, ?_⟩) (by assumption) ?_
          rotate_left
          · intro w hSw; (try dsimp only at hSw); go_simp <;> with_reducible rfl
          try simp only [Act.put, List.getElem_toArray, List.getElem_cons_zero, List.getElem_cons_succ, List.setIfInBounds_toArray, List.set_cons_zero, List.set_cons_succ]
          refine wpAnyH_take (i := 6) (v := ?_) rfl (by kernel_rfl) (by kernel_rfl) (by kernel_rfl) (fun _ _ _ h => h) (Or.inl ⟨by rfl, ?_⟩) (by assumption) ?_
          rotate_left
          · intro w hSw; (try dsimp only at hSw); go_simp <;> with_reducible rfl
          try simp only [Act.put, List.getElem_toArray, List.getElem_cons_zero, List.getElem_cons_succ, List.setIfInBounds_toArray, List.set_cons_zero, List.set_cons_succ]
          refine wpAnyH_take (i := 7) (v := ?_) rfl (by kernel_rfl) (by kernel_rfl) (by kernel_rfl) (fun _ _ _ h => h) (Or.inl ⟨by rfl, ?_⟩) (by assumption) ?_
          rotate_left
          · intro w hSw; (try dsimp only at hSw); go_simp <;> with_reducible rfl
          try simp only [Act.put, List.getElem_toArray, List.getElem_cons_zero, List.getElem_cons_succ, List.setIfInBounds_toArray, List.set_cons_zero, List.set_cons_succ]
          refine wpAnyH_ready (rs := [8]) (by kernel_rfl) (by simp) ?_
          refine AllReadyH.cons rfl (fun K hK => ?_) AllReadyH.nil
          go_simp
          refine (cC.out wd).mono ?_
          rintro e w2 ⟨rfl, k2⟩
          (try go_wp2_with fail)
          refine hK.out _ _ ?_ (fun hHeld => ?_)
          · exact hS.out _ (kd.trans k2 (by simp))
          clear hK K
          try simp only [Act.put, List.getElem_toArray, List.getElem_cons_zero, List.getElem_cons_succ, List.setIfInBounds_toArray, List.set_cons_zero, List.set_cons_succ]
          refine wpAnyH_take (i := 9) (v := ?_) rfl (by kernel_rfl) (by kernel_rfl) (by kernel_rfl) (fun _ _ _ h => h) (Or.inl ⟨by rfl, ?_⟩) (by assumption) ?_
          rotate_left
          · intro w hSw; (try dsimp only at hSw); go_simp <;> with_reducible rfl
          try simp only [Act.put, List.getElem_toArray, List.getElem_cons_zero, List.getElem_cons_succ, List.setIfInBounds_toArray, List.set_cons_zero, List.set_cons_succ]
          refine wpAnyH_done (by kernel_rfl) ?_ _
          have kw2 := kd.trans k2 (by simp)
          have I2 := hI.out.keep (kd2.trans k2 (by simp))
          obtain ⟨⟨p0, p1, p2, p3⟩, r0, r1, r2, r3⟩ := hS.out w2 kw2
          clear hHeld hI cC hcx hcy
          have hgo : Hid (∀ (d' : Bool) (nx' : List Val) (W : World) (a' : Option Addr) (c' : Nat) (n' : Nat), n' = nx'.length → NwV w1 W a' c' nx' → nx'.length ≤ k + 1 + d'.toNat → finW ⟨xk, xb, xn, xt⟩ d' nx' (out.drop (k + 1)) = Q → ∃ (k' : Nat) (d : Bool) (na : Option Addr) (nc : Nat) (nx : List Val), k' ≤ out.length ∧ (.int .i64 ((k : Int) + 1) : Value) = .int .i64 k' ∧ (.bool d' : Value) = .bool d ∧ (.slice a' n' c' : Value) = .slice na nx.length nc ∧ nx.length ≤ k' + d.toNat ∧ NwV w1 W na nc nx ∧ Hid (finW ⟨xk, xb, xn, xt⟩ d nx (out.drop k') = Q)) := fun d' nx' W a' c' n' hn' I' hl' hf' => ⟨k + 1, d', a', c', nx', by omega, by go_num, rfl, by rw [hn'], hl', I', hf'⟩
          have hI2 := hid I2
          clear I2
          cases d with
          | true =>
            obtain ⟨v3, X3, hrun3, a3, c3, rfl, I3, _⟩ := hI2.out.app1 ⟨yk, yb, yn, yt⟩ (by omega)
            dsimp only at hrun3
            have hN := hid (hgo.out true (nx ++ [⟨yk, yb, yn, yt⟩]) X3 a3 c3 (nx.length + 1) (by simp) I3 (by have := hnl1.out; simp at this ⊢; omega) (by rw [← hfin.out]; unfold finW; simp))
            clear hgo I3 hI2 hfin hins
            go_wp2_with (first | (refine wpAppRun rfl _ _ 23 23 rfl _ _ _ rfl rfl hrun3 ?_) | fail)
            exact ⟨hN.out, by simp [intOf]; omega⟩
          | false =>
            have hf0 : Hid (nx ++ insR ⟨xk, xb, xn, xt⟩ (⟨yk, yb, yn, yt⟩ :: out.drop (k + 1)) = Q) := hfin
            rw [hins.out] at hf0
            by_cases hneg : C < 0
            · rw [if_pos hneg] at hf0
              obtain ⟨v3, X3, hrun3, a3, c3, rfl, I3, kk3⟩ := hI2.out.app1 ⟨xk, xb, xn, xt⟩ (by omega)
              have k3 : Kp [] w1 X3 := I3.kp
              obtain ⟨_, s0, s1, s2, s3⟩ := hS.out X3 k3
              have el : (nx ++ [(⟨xk, xb, xn, xt⟩ : Val)]).length = nx.length + 1 := by simp
              obtain ⟨v4, X4, hrun4, a4, c4, rfl, I4, _⟩ := I3.app1 ⟨yk, yb, yn, yt⟩ (by rw [el]; omega)
              rw [el] at hrun4
              dsimp only at hrun3 hrun4
              have hN := hid (hgo.out true (nx ++ [⟨xk, xb, xn, xt⟩] ++ [⟨yk, yb, yn, yt⟩]) X4 a4 c4 (nx.length + 1 + 1) (by simp) I4 (by have := hnl1.out; simp at this ⊢; omega) (by rw [← hf0.out]; unfold finW; simp))
              have d1 : C ≤ 0 := by omega
              have d2 : (C == 0) = false := by rw [beq_eq_false_iff_ne]; omega
              clear hgo I3 I4 hI2 hfin hins hf0 hS kk3 k3 el
              go_wp2_with (first | (refine wpAppRun rfl _ _ 23 23 rfl _ _ _ rfl rfl hrun3 ?_) | (refine wpAppRun rfl _ _ 23 23 rfl _ _ _ rfl rfl hrun4 ?_) | fail)
              exact ⟨hN.out, by simp [intOf]; omega⟩
            · rw [if_neg hneg] at hf0
              by_cases hz : C = 0
              · rw [if_pos hz] at hf0
                subst hz
                obtain ⟨v3, X3, hrun3, a3, c3, rfl, I3, kk3⟩ := hI2.out.app1 ⟨xk, xb, xn, xt⟩ (by omega)
                dsimp only at hrun3
                have hN := hid (hgo.out true (nx ++ [⟨xk, xb, xn, xt⟩]) X3 a3 c3 (nx.length + 1) (by simp) I3 (by have := hnl1.out; simp at this ⊢; omega) (by rw [← hf0.out]; unfold finW; simp))
                clear hgo I3 hI2 hfin hins hf0 hS kk3
                go_wp2_with (first | (refine wpAppRun rfl _ _ 23 23 rfl _ _ _ rfl rfl hrun3 ?_) | fail)
                exact ⟨hN.out, by simp [intOf]; omega⟩
              · rw [if_neg hz] at hf0
                obtain ⟨v3, X3, hrun3, a3, c3, rfl, I3, _⟩ := hI2.out.app1 ⟨yk, yb, yn, yt⟩ (by omega)
                dsimp only at hrun3
                have hN := hid (hgo.out false (nx ++ [⟨yk, yb, yn, yt⟩]) X3 a3 c3 (nx.length + 1) (by simp) I3 (by have := hnl1.out; simp at this ⊢; omega) (by rw [← hf0.out]; unfold finW; simp))
                have d1 : ¬ C ≤ 0 := by omega
                clear hgo I3 hI2 hfin hins hf0 hS
                go_wp2_with (first | (refine wpAppRun rfl _ _ 23 23 rfl _ _ _ rfl rfl hrun3 ?_) | fail)
                exact ⟨hN.out, by simp [intOf]; omega⟩
        · obtain rfl : k = out.length := by omega
          rw [List.drop_length] at hfin
          have hgo : Hid (∀ (Q' : List Val) (W : World) (a' : Option Addr) (c' n' : Nat), n' = Q'.length → Q' = Q → NwV w1 W a' c' Q' → ∃ (j' : Nat) (oa : Option Addr) (oc : Nat) (out' : List Val), j' ≤ l.length ∧ (.int .i64 ((j : Int) + 1) : Value) = .int .i64 j' ∧ (.slice a' n' c' : Value) = .slice oa out'.length oc ∧ out'.length ≤ j' ∧ NwV w W oa oc out' ∧ Hid (wordsV out' (l.drop j') = F)) := fun Q' W a' c' n' hn' hq I' => ⟨j + 1, a', c', Q', by omega, by go_num, by rw [hn'], by rw [hq]; omega, I'.back kI, by show _ = _; rw [hq]; exact hF.out⟩
          cases d with
          | true =>
            have hN := hid (hgo.out nx wr na nc nx.length rfl (by rw [← hfin.out]; unfold finW; simp) I)
            clear hgo I hfin
            go_wp2_with fail
            exact ⟨hN.out, by simp [intOf]; omega⟩
          | false =>
            obtain ⟨p0, p1, p2, p3⟩ := hcx.out wr I.kp
            obtain ⟨v3, X3, hrun3, a3, c3, rfl, I3, _⟩ := I.app1 ⟨xk, xb, xn, xt⟩ (by omega)
            dsimp only at hrun3
            have hN := hid (hgo.out (nx ++ [⟨xk, xb, xn, xt⟩]) X3 a3 c3 (nx.length + 1) (by simp) (by rw [← hfin.out]; unfold finW; simp [insR]) I3)
            clear hgo I3 I hfin
            go_wp2_with (first | (refine wpAppRun rfl _ _ 23 23 rfl _ _ _ rfl rfl hrun3 ?_) | fail)
            exact ⟨hN.out, by simp [intOf]; omega⟩
    · obtain rfl : j = l.length := by omega
      rw [List.drop_length, wordsV] at hF
      have hFo := hF.out
      subst hFo
      have hI := hid I
      clear I hF
      go_wp2_with fail
      go_ret
      exact ⟨oa, oc, rfl, hI.out⟩
end Go.Proofs.YtohbdbecioanaaaGreatDoor
end

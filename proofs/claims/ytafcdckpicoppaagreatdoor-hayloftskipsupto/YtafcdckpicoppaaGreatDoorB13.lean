/- Two heads compared; tells. The reference's refused and width. The reference's Packed. The reference's delta. The reference's small. The unlike values in order, one put in behind the other. The reference's words. The reference reads back what is written: Decode's answer by it. What bytes begin with: the reference's Front. The reference's plain and runs, read. The reference's runs, read. The reference's deltas, read. The reference's unpacked. The reference's smalls, read. The reference's dicts, read. The reference's dict. The reference's Runs. The reference's Runs. The reference's Encode. The reference's Decode. -/
import Derived.Test.YtafcdckpicoppaaGreatDoorB12
import Derived.Test.YtafcdckpicoppaaGreatDoorB10
import Derived.Test.YtafcdckpicoppaaGreatDoorB9
import Derived.Test.YtafcdckpicoppaaGreatDoorB8
import Derived.Deep.RegionHeld3
import Derived.Test.YtafcdckpicoppaaGreatDoorB5
import Derived.Test.YtafcdckpicoppaaGreatDoorB3
import Derived.Test.YtafcdckpicoppaaGreatDoorB4
section
namespace Go.Proofs.YtafcdckpicoppaaGreatDoor
open Go.RowKit Go.Hay
set_option linter.unusedVariables false
set_option linter.unusedSimpArgs false

/-- Are two heads the same? -/
def Inf.eqI (a b : Inf) : Bool := a.kind == b.kind && (a.many == b.many && (a.mn.eqv b.mn && (a.mx.eqv b.mx && (a.nulls == b.nulls && a.bytes == b.bytes))))
set_option maxHeartbeats 8000000 in
set_option maxRecDepth 100000 in
theorem eqI_run (a b : Inf) : ∃ X : Bool, Hid (X = a.eqI b) ∧ ∀ w : World, (binOp .eql 35 a.v b.v).run Tryz.prog w = .ok (.bool X) w := by
  refine ⟨_, rfl, fun w => ?_⟩
  unfold Inf.v Inf.cs
  rw [run_eql_struct, run_equalIn_agg (ht := by kernel_rfl) (hp := by kernel_rfl)]
  simp only [Inf.eqI, Val.eqv]
  by_cases h0 : a.kind = b.kind
  · by_cases h1 : a.many = b.many
    · by_cases h2 : a.mn.k = b.mn.k
      · by_cases h3 : a.mn.b = b.mn.b
        · by_cases h4 : a.mn.n = b.mn.n
          · by_cases h5 : a.mn.t.toList = b.mn.t.toList
            · by_cases h6 : a.mx.k = b.mx.k
              · by_cases h7 : a.mx.b = b.mx.b
                · by_cases h8 : a.mx.n = b.mx.n
                  · by_cases h9 : a.mx.t.toList = b.mx.t.toList
                    · by_cases h10 : a.nulls = b.nulls
                      · by_cases h11 : a.bytes = b.bytes
                        · simp [go_sem, h0, h1, h2, h3, h4, h5, h6, h7, h8, h9, h10, h11]
                        · simp [go_sem, h0, h1, h2, h3, h4, h5, h6, h7, h8, h9, h10, h11]
                      · simp [go_sem, h0, h1, h2, h3, h4, h5, h6, h7, h8, h9, h10]
                    · simp [go_sem, h0, h1, h2, h3, h4, h5, h6, h7, h8, h9]
                  · simp [go_sem, h0, h1, h2, h3, h4, h5, h6, h7, h8]
                · simp [go_sem, h0, h1, h2, h3, h4, h5, h6, h7]
              · simp [go_sem, h0, h1, h2, h3, h4, h5, h6]
            · simp [go_sem, h0, h1, h2, h3, h4, h5]
          · simp [go_sem, h0, h1, h2, h3, h4]
        · simp [go_sem, h0, h1, h2, h3]
      · simp [go_sem, h0, h1, h2]
    · simp [go_sem, h0, h1]
  · simp [go_sem, h0]
theorem eqI_tell (i : Inf) (l : List Val) : i.eqI ⟨i.kind, l.length, minV l, maxV l, nullsV l, i.bytes⟩ = tellB i l := by
  unfold Inf.eqI tellB
  simp [Bool.and_assoc]
set_option maxHeartbeats 16000000 in
set_option maxRecDepth 100000 in
theorem bTells (i : Inf) (a : Option Addr) (ca : Nat) (l : List Val) (w : World) (ha : Vals w a l) (h0 : 0 < l.length) (hl : l.length ≤ 1000000) :
    Calls Tryz.prog 71 #[i.v, .slice a l.length ca] w fun e w' => e = .returned (.bool (tellB i l)) ∧ Kp [] w w' := by
  obtain ⟨w1, hw1, kw1, bx⟩ : ∃ w1, w.alloc (.cells i.cs.toArray 35) = w1 ∧ Kp [] w w1 ∧ Bx w1 w.heap.size i.cs := ⟨_, rfl, (Kp.refl _ _).alloc _, Bx.new w _ _⟩
  have cH := cHeadOf i.kind a ca l w1 (ha.kept kw1) h0 hl
  have hI := hid (eqI_tell i l)
  obtain ⟨k, m, ⟨ak, ab, an, at'⟩, ⟨bk, bb, bn, bt⟩, nn, yy⟩ := i
  dsimp only at cH hI
  obtain ⟨⟨uk, ub, un, ut⟩, hU⟩ : ∃ u, Hid (minV l = u) := ⟨_, rfl⟩
  obtain ⟨⟨zk, zb, zn, zt⟩, hZ⟩ : ∃ u, Hid (maxV l = u) := ⟨_, rfl⟩
  obtain ⟨NU, hN⟩ : ∃ n : Nat, Hid (nullsV l = n) := ⟨_, rfl⟩
  rw [hU.out, hZ.out, hN.out] at cH hI
  obtain ⟨X, HX, hX⟩ := eqI_run ⟨k, m, ⟨ak, ab, an, at'⟩, ⟨bk, bb, bn, bt⟩, nn, yy⟩ ⟨k, l.length, ⟨uk, ub, un, ut⟩, ⟨zk, zb, zn, zt⟩, NU, yy⟩
  have hfin : Hid (X = tellB ⟨k, m, ⟨ak, ab, an, at'⟩, ⟨bk, bb, bn, bt⟩, nn, yy⟩ l) := HX.out.trans hI.out
  obtain ⟨TB, hTB⟩ : ∃ B, Hid (tellB ⟨k, m, ⟨ak, ab, an, at'⟩, ⟨bk, bb, bn, bt⟩, nn, yy⟩ l = B) := ⟨_, rfl⟩
  rw [hTB.out] at hfin ⊢
  unfold Inf.v Inf.cs at *
  dsimp only at *
  have c0 := bx.get 0 _ rfl
  obtain ⟨q, hq⟩ : ∃ q, Hid (w.heap.size = q) := ⟨_, rfl⟩
  have hqw : w.heap.size ≤ q := by rw [hq.out]; omega
  rw [hq.out] at bx
  rw [← hw1] at cH c0
  have hw1' := hid hw1
  have hbx := hid bx
  have hkw := hid kw1
  clear hw1 bx kw1 hU hZ hN hTB hI HX ha
  go_enter Tryz.func71, Tryz.ntmps71
  go_wp2_with fail
  refine cH.mono ?_
  rintro e w2 ⟨rfl, k2⟩
  rw [hw1'.out] at k2
  rw [hq.out]
  have b2 := hbx.out.kept k2 (by simp) (hbx.out.lt (by simp))
  have kk2 := hkw.out.trans k2 (by simp)
  obtain ⟨q2, hq2⟩ : ∃ q, Hid (w2.heap.size = q) := ⟨_, rfl⟩
  obtain ⟨w3, hw3, k3, b3⟩ : ∃ w3, w2.alloc (.cells #[.int .i64 0, .int .i64 0, .int .i64 0, .bool false, .int .i64 0, .string ⟨#[]⟩, .int .i64 0, .bool false, .int .i64 0, .string ⟨#[]⟩, .int .i64 0, .int .i64 0] 35) = w3 ∧ Kp [] w2 w3 ∧ Bx w3 w2.heap.size [.int .i64 0, .int .i64 0, .int .i64 0, .bool false, .int .i64 0, .string ⟨#[]⟩, .int .i64 0, .bool false, .int .i64 0, .string ⟨#[]⟩, .int .i64 0, .int .i64 0] := ⟨_, rfl, (Kp.refl _ _).alloc _, Bx.new w2 _ _⟩
  have hqq : q < w2.heap.size := b2.lt (by simp)
  have b23 := b2.kept k3 (by simp) hqq
  have hne : q ≠ q2 := by rw [← hq2.out]; omega
  have hq2w : w.heap.size ≤ q2 := by rw [← hq2.out]; exact kk2.size
  rw [hq2.out] at b3
  have p0 := b3.get 0 _ rfl; have f0 := b3.free 0
  have p1 := b3.get 1 _ rfl; have f1 := b3.free 1
  have p2 := b3.get 2 _ rfl; have f2 := b3.free 2
  have p3 := b3.get 3 _ rfl; have f3 := b3.free 3
  have p4 := b3.get 4 _ rfl; have f4 := b3.free 4
  have p5 := b3.get 5 _ rfl; have f5 := b3.free 5
  have p6 := b3.get 6 _ rfl; have f6 := b3.free 6
  have p7 := b3.get 7 _ rfl; have f7 := b3.free 7
  have p8 := b3.get 8 _ rfl; have f8 := b3.free 8
  have p9 := b3.get 9 _ rfl; have f9 := b3.free 9
  have p10 := b3.get 10 _ rfl; have f10 := b3.free 10
  have p11 := b3.get 11 _ rfl; have f11 := b3.free 11
  obtain ⟨W, hW, bW, kW⟩ : ∃ W, ((((((((((((w3.setCell ⟨q2, 0, none⟩ (.int .i64 k)).setCell ⟨q2, 1, none⟩ (.int .i64 (l.length : Int))).setCell ⟨q2, 2, none⟩ (.int .i64 uk)).setCell ⟨q2, 3, none⟩ (.bool ub)).setCell ⟨q2, 4, none⟩ (.int .i64 un)).setCell ⟨q2, 5, none⟩ (.string ut)).setCell ⟨q2, 6, none⟩ (.int .i64 zk)).setCell ⟨q2, 7, none⟩ (.bool zb)).setCell ⟨q2, 8, none⟩ (.int .i64 zn)).setCell ⟨q2, 9, none⟩ (.string zt)).setCell ⟨q2, 10, none⟩ (.int .i64 (NU : Int))).setCell ⟨q2, 11, none⟩ (.int .i64 0)) = W ∧ Bx W q2 [.int .i64 k, .int .i64 (l.length : Int), .int .i64 uk, .bool ub, .int .i64 un, .string ut, .int .i64 zk, .bool zb, .int .i64 zn, .string zt, .int .i64 (NU : Int), .int .i64 0] ∧ Kp [q2] w3 W := ⟨_, rfl, gen12q (R := fun W => Bx W q2 [.int .i64 k, .int .i64 (l.length : Int), .int .i64 uk, .bool ub, .int .i64 un, .string ut, .int .i64 zk, .bool zb, .int .i64 zn, .string zt, .int .i64 (NU : Int), .int .i64 0]) b3 rfl (.int .i64 k) (.int .i64 (l.length : Int)) (.int .i64 uk) (.bool ub) (.int .i64 un) (.string ut) (.int .i64 zk) (.bool zb) (.int .i64 zn) (.string zt) (.int .i64 (NU : Int)) (.int .i64 0) (fun W b _ => b), gen12q (R := fun W => Kp [q2] w3 W) b3 rfl (.int .i64 k) (.int .i64 (l.length : Int)) (.int .i64 uk) (.bool ub) (.int .i64 un) (.string ut) (.int .i64 zk) (.bool zb) (.int .i64 zn) (.string zt) (.int .i64 (NU : Int)) (.int .i64 0) (fun W _ k => k)⟩
  have bq := b23.kept kW (by simpa using hne) (b23.lt (by simp))
  have y11 := bq.get 11 _ rfl
  have z11 := bW.get 11 _ rfl
  have z11f := bW.free 11
  have kk3 := (kk2.trans k3 (by simp)).trans kW (fun x hx => .inr (by simp at hx; omega))
  obtain ⟨V, hV, bV, kV⟩ : ∃ V, W.setCell ⟨q2, 11, none⟩ (.int .i64 yy) = V ∧ Bx V q2 [.int .i64 k, .int .i64 (l.length : Int), .int .i64 uk, .bool ub, .int .i64 un, .string ut, .int .i64 zk, .bool zb, .int .i64 zn, .string zt, .int .i64 (NU : Int), .int .i64 yy] ∧ Kp [q2] W V := ⟨_, rfl, genS (R := fun V => Bx V q2 [.int .i64 k, .int .i64 (l.length : Int), .int .i64 uk, .bool ub, .int .i64 un, .string ut, .int .i64 zk, .bool zb, .int .i64 zn, .string zt, .int .i64 (NU : Int), .int .i64 yy]) bW 11 (by simp) (.int .i64 yy) (fun W b _ => b), genS (R := fun V => Kp [q2] W V) bW 11 (by simp) (.int .i64 yy) (fun W _ k => k)⟩
  have bqV := bq.kept kV (by simpa using hne) (bq.lt (by simp))
  have kkV := hid (kk3.trans kV (fun x hx => .inr (by simp at hx; omega)))
  have s0 := bqV.get 0 _ rfl; have t0 := bV.get 0 _ rfl
  have s1 := bqV.get 1 _ rfl; have t1 := bV.get 1 _ rfl
  have s2 := bqV.get 2 _ rfl; have t2 := bV.get 2 _ rfl
  have s3 := bqV.get 3 _ rfl; have t3 := bV.get 3 _ rfl
  have s4 := bqV.get 4 _ rfl; have t4 := bV.get 4 _ rfl
  have s5 := bqV.get 5 _ rfl; have t5 := bV.get 5 _ rfl
  have s6 := bqV.get 6 _ rfl; have t6 := bV.get 6 _ rfl
  have s7 := bqV.get 7 _ rfl; have t7 := bV.get 7 _ rfl
  have s8 := bqV.get 8 _ rfl; have t8 := bV.get 8 _ rfl
  have s9 := bqV.get 9 _ rfl; have t9 := bV.get 9 _ rfl
  have s10 := bqV.get 10 _ rfl; have t10 := bV.get 10 _ rfl
  have s11 := bqV.get 11 _ rfl; have t11 := bV.get 11 _ rfl
  have hq2' := hq2.out
  clear cH k2 b2 kk2 k3 b3 b23 bW kW bq bV kV bqV kk3 hbx hkw hw1' c0 hqw hqq
  go_wp2_with fail
  go_ret
  exact ⟨by rw [hfin.out]; rfl, kkV.out⟩
end Go.Proofs.YtafcdckpicoppaaGreatDoor
end

section
namespace Go.Proofs.YtafcdckpicoppaaGreatDoor
open Go.RowKit Go.Hay
set_option linter.unusedVariables false
set_option linter.unusedSimpArgs false

theorem bitLenAux_more : ∀ (f x : Nat), x < 2 ^ f → Lib.bitLenAux (f + 1) x = Lib.bitLenAux f x
  | 0, x, h => by obtain rfl : x = 0 := by simpa using h
                  rfl
  | f + 1, x, h => by
    show (if x = 0 then 0 else 1 + Lib.bitLenAux (f + 1) (x / 2)) = (if x = 0 then 0 else 1 + Lib.bitLenAux f (x / 2))
    split
    · rfl
    · rw [bitLenAux_more f (x / 2) (by rw [Nat.pow_succ] at h; omega)]
theorem bitLen_half (x : Nat) (h : x < 18446744073709551616) (h0 : 0 < x) : Lib.bitLen x = Lib.bitLen (x / 2) + 1 := by
  show Lib.bitLenAux 64 x = Lib.bitLenAux 64 (x / 2) + 1
  rw [Lib.bitLenAux, if_neg (by omega), bitLenAux_more 63 (x / 2) (by omega), Nat.add_comm]
end Go.Proofs.YtafcdckpicoppaaGreatDoor
end

section
namespace Go.Proofs.YtafcdckpicoppaaGreatDoor
open Go.RowKit Go.Hay
set_option linter.unusedVariables false
set_option linter.unusedSimpArgs false

/-- The upper bits of a byte, from bit k on. -/
def hib (f : Nat → Nat) (q : Nat) : Nat → Nat
  | 0 => 0
  | m + 1 => f (8 * q + (7 - m)) + 2 * hib f q m
theorem hib_lt (f : Nat → Nat) (hf : ∀ p, f p < 2) (q : Nat) : ∀ m, hib f q m < 2 ^ m
  | 0 => by simp [hib]
  | m + 1 => by
    have h1 := hib_lt f hf q m
    have h2 := hf (8 * q + (7 - m))
    rw [hib, Nat.pow_succ]
    omega
theorem hib_acc (f : Nat → Nat) (q : Nat) : ∀ m, m ≤ 8 → acc f q (8 - m) + 2 ^ (8 - m) * hib f q m = acc f q 8
  | 0, _ => by simp [hib]
  | m + 1, h => by
    have ih := hib_acc f q m (by omega)
    have e : 8 - m = (8 - (m + 1)) + 1 := by omega
    rw [e, acc, Nat.pow_succ, show 8 - (m + 1) = 7 - m by omega] at ih
    rw [hib, show 8 - (m + 1) = 7 - m by omega, ← ih, Nat.mul_add]
    have e2 : 2 ^ (7 - m) * f (8 * q + (7 - m)) = f (8 * q + (7 - m)) * 2 ^ (7 - m) := Nat.mul_comm _ _
    rw [e2, ← Nat.mul_assoc, Nat.add_assoc]
theorem acc_mask (f : Nat → Nat) (N q : Nat) : ∀ r, acc (fun p => if p < N then f p else 0) q r = acc f q (min r (N - 8 * q))
  | 0 => by simp [acc]
  | r + 1 => by
    rw [acc, acc_mask f N q r]
    by_cases h : 8 * q + r < N
    · rw [if_pos h, show min r (N - 8 * q) = r by omega, show min (r + 1) (N - 8 * q) = r + 1 by omega, acc]
    · rw [if_neg h, show min (r + 1) (N - 8 * q) = min r (N - 8 * q) by omega]; simp
/-- So many bits as a list of bytes. -/
def bitL (f : Nat → Nat) (p : Nat) : List UInt8 := (List.range p).map fun i => UInt8.ofNat (f i)
theorem bitL_len (f : Nat → Nat) (p : Nat) : (bitL f p).length = p := by simp [bitL]
theorem bitL_succ (f : Nat → Nat) (p : Nat) : bitL f (p + 1) = bitL f p ++ [UInt8.ofNat (f p)] := by simp [bitL, List.range_succ]
theorem bitL_at (f : Nat → Nat) (p i : Nat) (h : i < p) : (bitL f p)[i]? = some (UInt8.ofNat (f i)) := by
  unfold bitL
  rw [List.getElem?_map, List.getElem?_range h]; rfl
/-- So many bytes of them. -/
def byL (f : Nat → Nat) (N q : Nat) : List UInt8 := (List.range q).map fun i => UInt8.ofNat (acc f i (min 8 (N - 8 * i)))
theorem byL_len (f : Nat → Nat) (N q : Nat) : (byL f N q).length = q := by simp [byL]
theorem byL_succ (f : Nat → Nat) (N q : Nat) : byL f N (q + 1) = byL f N q ++ [UInt8.ofNat (acc f q (min 8 (N - 8 * q)))] := by simp [byL, List.range_succ]
/-- A row of bytes of the call's own, all new. -/
structure NwB (w W : World) (a : Option Addr) (c : Nat) (bs : List UInt8) : Prop where
  row : BytE.Row W (.slice a bs.length c) bs
  new : ∀ k ∈ blk a, w.heap.size ≤ k
  kp : Kp [] w W
theorem NwB.keep {w W W' : World} {a : Option Addr} {c : Nat} {bs : List UInt8} (h : NwB w W a c bs) (k : Kp [] W W') : NwB w W' a c bs := ⟨h.row.keptNew k, h.new, h.kp.trans k (by simp)⟩
theorem NwB.nil (w : World) : NwB w w none 0 [] := ⟨.inl ⟨rfl, rfl⟩, by simp [blk], Kp.refl _ _⟩
/-- One byte more. -/
theorem NwB.app1 {w W : World} {a : Option Addr} {c : Nat} {bs : List UInt8} (h : NwB w W a c bs) (x : UInt8) (v : Int) (hv : v = (x.toNat : Int)) (hl : bs.length ≤ 100000) :
    ∃ v' W', (Builtin.append_ #[28, 28] 28 #[.slice a bs.length c, .slice (some ⟨W.heap.size, 0, none⟩) 1 1]).run Tryz.prog (W.alloc (.cells #[.int .u8 v] 5)) = .ok v' W' ∧ ∃ a' c', v' = .slice a' (bs.length + 1) c' ∧ NwB w W' a' c' (bs ++ [x]) ∧ Kp (blk a) W W' := by
  obtain ⟨i0, hi, hz0, hz1, hz2⟩ := infoU'
  have kA : Kp [] W (W.alloc (.cells #[.int .u8 v] 5)) := (Kp.refl _ _).alloc _
  have hsx : Sees (W.alloc (.cells #[.int .u8 v] 5)) (some ⟨W.heap.size, 0, none⟩) [x] := oneB W rfl x v hv _
  have hsrc := (seeByt.2 hsx).src (P := Tryz.prog) Tryz.underlying28 1
  obtain ⟨v6, X4, hrun2, hrow6, kk6, hn6⟩ := run_appendG (E := BytE) (P := Tryz.prog) _ 28 28 28 5 i0 _ 1 Tryz.underlying28 hi hz0 hz1 hz2 rfl (.slice a bs.length c) bs (h.row.keptNew kA) _ [x] hsrc (by simp; omega) (by simp; omega)
  obtain ⟨a6, c6, rfl, _⟩ := hrow6.see
  rw [ownS] at kk6
  have el : (bs ++ [x]).length = bs.length + 1 := by simp
  refine ⟨_, X4, hrun2, a6, c6, by rw [el], ⟨hrow6, fun q hq => ?_, (h.kp.trans kA (by simp)).trans kk6 (fun q hq => .inr (h.new q hq))⟩, (kA.mono (fun x hx => by simp at hx)).trans kk6 (fun q hq => .inl hq)⟩
  · rcases hn6 q (by rw [ownS]; exact hq) with h1 | h1
    · rw [ownS] at h1; exact h.new q h1
    · have := h.kp.size; have := kA.size; omega
theorem mask_lt (f : Nat → Nat) (hf : ∀ p, f p < 2) (N : Nat) : ∀ p, (if p < N then f p else 0) < 2 := fun p => by split; exact hf p; omega
end Go.Proofs.YtafcdckpicoppaaGreatDoor
end

section
namespace Go.Proofs.YtafcdckpicoppaaGreatDoor
open Go.RowKit Go.Hay
set_option linter.unusedVariables false
set_option linter.unusedSimpArgs false

/-- Bytes that a slice sees, behind a row. -/
theorem NwB.appS {w W : World} {a : Option Addr} {c : Nat} {bs : List UInt8} (h : NwB w W a c bs) (a2 : Option Addr) (c2 : Nat) (ys : List UInt8) (hs : Sees W a2 ys) (hl : bs.length ≤ 100000) (hy : ys.length ≤ 100000) :
    ∃ v' W', (Builtin.append_ #[28, 28] 28 #[.slice a bs.length c, .slice a2 ys.length c2]).run Tryz.prog W = .ok v' W' ∧ ∃ a' c', v' = .slice a' (bs.length + ys.length) c' ∧ NwB w W' a' c' (bs ++ ys) ∧ Kp (blk a) W W' := by
  obtain ⟨i0, hi, hz0, hz1, hz2⟩ := infoU'
  have hsrc := (seeByt.2 hs).src (P := Tryz.prog) Tryz.underlying28 c2
  obtain ⟨v6, X4, hrun2, hrow6, kk6, hn6⟩ := run_appendG (E := BytE) (P := Tryz.prog) _ 28 28 28 5 i0 _ 1 Tryz.underlying28 hi hz0 hz1 hz2 rfl (.slice a bs.length c) bs h.row _ ys hsrc (by omega) (by omega)
  obtain ⟨a6, c6, rfl, _⟩ := hrow6.see
  rw [ownS] at kk6
  have el : (bs ++ ys).length = bs.length + ys.length := by simp
  refine ⟨_, X4, hrun2, a6, c6, by rw [el], ⟨hrow6, fun q hq => ?_, h.kp.trans kk6 (fun q hq => .inr (h.new q hq))⟩, kk6⟩
  rcases hn6 q (by rw [ownS]; exact hq) with h1 | h1
  · rw [ownS] at h1; exact h.new q h1
  · have := h.kp.size; omega
theorem NwB.of {w W : World} {v : Value} {bs : List UInt8} (hr : Row W v bs) (hn : ∀ k ∈ own v, w.heap.size ≤ k) (k : Kp [] w W) : ∃ a c, v = .slice a bs.length c ∧ NwB w W a c bs := by
  obtain ⟨a, c, rfl, _⟩ := (rowByt.2 hr).see
  exact ⟨a, c, rfl, rowByt.2 hr, fun q hq => hn q (by rw [ownS]; exact hq), k⟩
theorem NwB.back {w W W' : World} {a : Option Addr} {c : Nat} {bs : List UInt8} (h : NwB W W' a c bs) (k : Kp [] w W) : NwB w W' a c bs := ⟨h.row, fun q hq => by have := h.new q hq; have := k.size; omega, k.trans h.kp (by simp)⟩
theorem zig_pos {d : Int} (h0 : ¬ d < 0) (h : d < 9223372036854775808) : IntKind.u64.wrap (wrap64 (2 * d)) = zig d := by
  unfold zig wrap64; rw [if_pos (by omega), IntKind.wrap_u64]; omega
theorem zig_neg {d : Int} (h0 : d < 0) (h : -9223372036854775808 ≤ d) : IntKind.u64.wrap (wrap64 (wrap64 (-2 * d) - 1)) = zig d := by
  unfold zig wrap64; rw [if_neg (by omega), IntKind.wrap_u64]; omega
end Go.Proofs.YtafcdckpicoppaaGreatDoor
end

section
namespace Go.Proofs.YtafcdckpicoppaaGreatDoor
open Go.RowKit Go.Hay
set_option linter.unusedVariables false
set_option linter.unusedSimpArgs false

/-- A row of numbers of the call's own, all new. -/
structure NwU (w W : World) (a : Option Addr) (c : Nat) (ns : List Nat) : Prop where
  row : U64E.Row W (.slice a ns.length c) ns
  new : ∀ k ∈ blk a, w.heap.size ≤ k
  kp : Kp [] w W
theorem NwU.keep {w W W' : World} {a : Option Addr} {c : Nat} {ns : List Nat} (h : NwU w W a c ns) (k : Kp [] W W') : NwU w W' a c ns := ⟨h.row.keptNew k, h.new, h.kp.trans k (by simp)⟩
theorem NwU.nil (w : World) : NwU w w none 0 [] := ⟨.inl ⟨rfl, rfl⟩, by simp [blk], Kp.refl _ _⟩
theorem NwU.see {w W : World} {a : Option Addr} {c : Nat} {ns : List Nat} (h : NwU w W a c ns) : U64E.See W a ns := by
  obtain ⟨_, _, e, h1, _⟩ := h.row.see
  injection e with e1 e2 e3
  rw [e1]; exact h1
theorem oneU (w : World) {q : Nat} (hq : w.heap.size = q) (x : Nat) (t : TypeId) : U64E.See (w.alloc (.cells #[.int .u64 (x : Int)] t)) (some ⟨q, 0, none⟩) [x] := by
  subst hq
  refine .inr ⟨_, 0, rfl, fun j u hu => ?_⟩
  have e : (w.alloc (.cells #[.int .u64 (x : Int)] t)).cell? ⟨w.heap.size, 0 + j, none⟩ = _ := World.cell?_alloc_new w _ _ (0 + j)
  rw [e, Nat.zero_add]
  simpa [El.cs, U64E] using hu
theorem NwU.app1 {w W : World} {a : Option Addr} {c : Nat} {ns : List Nat} (h : NwU w W a c ns) (x : Nat) (hl : ns.length ≤ 100000) :
    ∃ v' W', (Builtin.append_ #[123, 123] 123 #[.slice a ns.length c, .slice (some ⟨W.heap.size, 0, none⟩) 1 1]).run Tryz.prog (W.alloc (.cells #[.int .u64 (x : Int)] 74)) = .ok v' W' ∧ ∃ a' c', v' = .slice a' (ns.length + 1) c' ∧ NwU w W' a' c' (ns ++ [x]) ∧ Kp (blk a) W W' := by
  obtain ⟨i0, hi, hz0, hz1, hz2⟩ := infoU64
  have kA : Kp [] W (W.alloc (.cells #[.int .u64 (x : Int)] 74)) := (Kp.refl _ _).alloc _
  have hsrc := (oneU W rfl x 74).src (P := Tryz.prog) Tryz.underlying123 1
  obtain ⟨v6, X4, hrun2, hrow6, kk6, hn6⟩ := run_appendG (E := U64E) (P := Tryz.prog) _ 123 123 123 74 i0 _ 8 Tryz.underlying123 hi hz0 hz1 hz2 rfl (.slice a ns.length c) ns (h.row.keptNew kA) _ [x] hsrc (by simp; omega) (by simp; omega)
  obtain ⟨a6, c6, rfl, _⟩ := hrow6.see
  rw [ownS] at kk6
  have el : (ns ++ [x]).length = ns.length + 1 := by simp
  refine ⟨_, X4, hrun2, a6, c6, by rw [el], ⟨hrow6, fun q hq => ?_, (h.kp.trans kA (by simp)).trans kk6 (fun q hq => .inr (h.new q hq))⟩, (kA.mono (fun x hx => by simp at hx)).trans kk6 (fun q hq => .inl hq)⟩
  rcases hn6 q (by rw [ownS]; exact hq) with h1 | h1
  · rw [ownS] at h1; exact h.new q h1
  · have := h.kp.size; have := kA.size; omega
end Go.Proofs.YtafcdckpicoppaaGreatDoor
end

section
namespace Go.Proofs.YtafcdckpicoppaaGreatDoor
open Go.RowKit Go.Hay
set_option linter.unusedVariables false
set_option linter.unusedSimpArgs false

/-- A value put in its place. -/
def insR (x : Val) : List Val → List Val
  | [] => [x]
  | y :: r => if cmpV x y < 0 then x :: y :: r else if cmpV x y = 0 then x :: r else y :: insR x r
def wordsV : List Val → List Val → List Val
  | out, [] => out
  | out, x :: l => wordsV (insR x out) l
theorem cmpV_neg {x y : Val} : cmpV x y < 0 ↔ x.lt y = true := by
  have := ltV x y
  unfold ltOf at this
  rw [← this]; simp
theorem cmp_same {x y : Val} (hx : x.right = true) (hy : y.right = true) (h : cmpV x y = 0) : x = y := by
  obtain ⟨h1, h2⟩ := (cmp_zero x y).1 h
  exact lt_total x y hx hy h1 h2
theorem cmp_pos {x y : Val} (hx : x.right = true) (hy : y.right = true) (h1 : ¬ cmpV x y < 0) (h2 : ¬ cmpV x y = 0) : y.lt x = true := by
  cases h : y.lt x with
  | true => rfl
  | false =>
    have h3 : x.lt y = false := by
      cases h4 : x.lt y with
      | false => rfl
      | true => exact absurd (cmpV_neg.2 h4) h1
    exact absurd ((cmp_zero x y).2 ⟨h3, h⟩) h2
theorem insR_mem (x z : Val) (hx : x.right = true) : ∀ l : List Val, allR l = true → (z ∈ insR x l ↔ z = x ∨ z ∈ l)
  | [], _ => by simp [insR]
  | y :: r, h => by
    have hy : y.right = true := by simp [allR] at h; exact h.1
    have hr : allR r = true := by simp [allR] at h ⊢; exact h.2
    rw [insR]
    split
    · simp
    · split
      · rename_i h1 h2
        have := cmp_same hx hy h2
        subst this
        simp
      · have ih := insR_mem x z hx r hr
        simp only [List.mem_cons, ih]
        constructor
        · rintro (h | h | h)
          · exact .inr (.inl h)
          · exact .inl h
          · exact .inr (.inr h)
        · rintro (h | h | h)
          · exact .inr (.inl h)
          · exact .inl h
          · exact .inr (.inr h)
theorem insR_right (x : Val) (hx : x.right = true) (l : List Val) (h : allR l = true) : allR (insR x l) = true := List.all_eq_true.2 fun z hz => by
  rcases (insR_mem x z hx l h).1 hz with h1 | h1
  · rw [h1]; exact hx
  · exact List.all_eq_true.1 h z h1
theorem insR_sorted (x : Val) (hx : x.right = true) : ∀ l : List Val, allR l = true → l.Pairwise (fun a b => a.lt b = true) → (insR x l).Pairwise (fun a b => a.lt b = true)
  | [], _, _ => by simp [insR]
  | y :: r, h, hp => by
    have hy : y.right = true := by simp [allR] at h; exact h.1
    have hr : allR r = true := by simp [allR] at h ⊢; exact h.2
    obtain ⟨hp1, hp2⟩ := List.pairwise_cons.1 hp
    rw [insR]
    split
    · rename_i h1
      have hxy := cmpV_neg.1 h1
      refine List.pairwise_cons.2 ⟨fun z hz => ?_, hp⟩
      rcases List.mem_cons.1 hz with rfl | hz
      · exact hxy
      · exact ltV_trans x y z hxy (hp1 z hz)
    · split
      · rename_i h1 h2
        have := cmp_same hx hy h2
        subst this
        exact hp
      · rename_i h1 h2
        have hyx := cmp_pos hx hy h1 h2
        refine List.pairwise_cons.2 ⟨fun z hz => ?_, insR_sorted x hx r hr hp2⟩
        rcases (insR_mem x z hx r hr).1 hz with h3 | h3
        · rw [h3]; exact hyx
        · exact hp1 z h3
theorem wordsV_all : ∀ (l out : List Val), allR l = true → allR out = true → out.Pairwise (fun a b => a.lt b = true) → (wordsV out l).Pairwise (fun a b => a.lt b = true) ∧ ∀ z, z ∈ wordsV out l ↔ z ∈ out ∨ z ∈ l
  | [], out, _, _, hp => ⟨hp, fun z => by simp [wordsV]⟩
  | x :: l, out, h, ho, hp => by
    have hx : x.right = true := by simp [allR] at h; exact h.1
    have hr : allR l = true := by simp [allR] at h ⊢; exact h.2
    obtain ⟨h1, h2⟩ := wordsV_all l (insR x out) hr (insR_right x hx out ho) (insR_sorted x hx out ho hp)
    refine ⟨h1, fun z => ?_⟩
    show z ∈ wordsV (insR x out) l ↔ _
    rw [h2 z, insR_mem x z hx out ho, List.mem_cons]
    constructor
    · rintro ((h | h) | h)
      · exact .inr (.inl h)
      · exact .inl h
      · exact .inr (.inr h)
    · rintro (h | h | h)
      · exact .inl (.inr h)
      · exact .inl (.inl h)
      · exact .inr h
theorem lt_irr (x : Val) : x.lt x = false := by
  cases h : x.lt x with
  | false => rfl
  | true => have := Val.lt_asymm x x h; rw [h] at this; cases this
theorem sort_sorted (l : List Val) : (sortV l).Pairwise (fun x y => y.lt x = false) := by
  have := List.pairwise_mergeSort (le := fun x y : Val => !(y.lt x)) (fun a b c h1 h2 => by simp only [Bool.not_eq_true'] at *; exact Val.lt_ntrans a b c h1 h2) (fun a b => by
    cases h : b.lt a with
    | false => simp
    | true => simp [Val.lt_asymm b a h]) l
  exact this.imp (by simp)
theorem cpt_sorted (s : List Val) (hr : allR s = true) (hs : s.Pairwise (fun x y => y.lt x = false)) : ∀ j, j ≤ s.length → (cptTo s j).Pairwise (fun a b => a.lt b = true) ∧ (0 < j → ∀ z ∈ cptTo s j, z.lt (s.getD (j - 1) nv) = true ∨ z = s.getD (j - 1) nv) := by
  intro j
  induction j with
  | zero => intro _; exact ⟨by simp [cptTo], fun h => absurd h (by omega)⟩
  | succ j ih =>
    intro hj
    obtain ⟨h1, h2⟩ := ih (by omega)
    have hjl : j < s.length := by omega
    have ej : s.getD j nv = s[j] := by simp [hjl]
    by_cases hc : j ≠ 0 ∧ (s.getD j nv).eqv (s.getD (j - 1) nv) = true
    · rw [cptTo_same s j hc.1 hc.2]
      refine ⟨h1, fun _ z hz => ?_⟩
      have e := eqv_iff.1 hc.2
      rw [Nat.add_sub_cancel, e]
      exact h2 (by omega) z hz
    · have hc' : j = 0 ∨ (s.getD j nv).eqv (s.getD (j - 1) nv) = false := by
        by_cases h0 : j = 0
        · exact .inl h0
        · refine .inr ?_
          cases he : (s.getD j nv).eqv (s.getD (j - 1) nv) with
          | false => rfl
          | true => exact absurd ⟨h0, he⟩ hc
      rw [cptTo_new s j hc']
      have hlt : ∀ z ∈ cptTo s j, z.lt (s.getD j nv) = true := fun z hz => by
        have h0 : 0 < j := by
          rcases Nat.eq_zero_or_pos j with h0 | h0
          · subst h0; simp [cptTo] at hz
          · exact h0
        have hj1 : j - 1 < s.length := by omega
        have ej1 : s.getD (j - 1) nv = s[j - 1] := by simp [hj1]
        have hpp := List.pairwise_iff_getElem.1 hs (j - 1) j hj1 hjl (by omega)
        have hne : s.getD j nv ≠ s.getD (j - 1) nv := fun e => by
          rcases hc' with h3 | h3
          · omega
          · rw [e, eqv_self] at h3; cases h3
        have hstep : (s.getD (j - 1) nv).lt (s.getD j nv) = true := by
          cases hl : (s.getD (j - 1) nv).lt (s.getD j nv) with
          | true => rfl
          | false =>
            exact absurd (lt_total _ _ (by rw [ej]; exact List.all_eq_true.1 hr _ (List.getElem_mem hjl)) (by rw [ej1]; exact List.all_eq_true.1 hr _ (List.getElem_mem hj1)) (by rw [ej, ej1]; exact hpp) hl) hne
        rcases h2 h0 z hz with h3 | h3
        · exact ltV_trans _ _ _ h3 hstep
        · rw [h3]; exact hstep
      refine ⟨List.pairwise_append.2 ⟨h1, by simp, fun a ha b hb => ?_⟩, fun _ z hz => ?_⟩
      · rw [List.mem_singleton.1 hb]; exact hlt a ha
      · rw [Nat.add_sub_cancel]
        rcases List.mem_append.1 hz with h3 | h3
        · exact .inl (hlt z h3)
        · exact .inr (List.mem_singleton.1 h3)
theorem nodup_of {l : List Val} (h : l.Pairwise (fun a b => a.lt b = true)) : l.Nodup := h.imp (fun {a b} hab e => by subst e; rw [lt_irr] at hab; cases hab)
/-- The reference's words are the unlike values in order. -/
theorem words_uniq (l : List Val) (h : allR l = true) : wordsV [] l = uniq l := by
  obtain ⟨h1, h2⟩ := wordsV_all l [] h rfl (by simp)
  have hsr : allR (sortV l) = true := List.all_eq_true.2 fun x hx => List.all_eq_true.1 h x ((List.mergeSort_perm l _).mem_iff.1 hx)
  have h3 : (uniq l).Pairwise (fun a b => a.lt b = true) := (cpt_sorted (sortV l) hsr (sort_sorted l) _ (Nat.le_refl _)).1
  have hp : (wordsV [] l).Perm (uniq l) := (List.perm_ext_iff_of_nodup (nodup_of h1) (nodup_of h3)).2 fun z => by rw [h2 z, uniq_mem]; simp
  refine List.Perm.eq_of_pairwise ?_ h1 h3 hp
  intro a b _ _ hab hba
  rw [Val.lt_asymm a b hab] at hba
  cases hba
theorem uniq_sorted (l : List Val) (h : allR l = true) : (uniq l).Nodup := by
  have hsr : allR (sortV l) = true := List.all_eq_true.2 fun x hx => List.all_eq_true.1 h x ((List.mergeSort_perm l _).mem_iff.1 hx)
  exact nodup_of (cpt_sorted (sortV l) hsr (sort_sorted l) _ (Nat.le_refl _)).1
end Go.Proofs.YtafcdckpicoppaaGreatDoor
end

section
namespace Go.Proofs.YtafcdckpicoppaaGreatDoor
open Go.RowKit Go.Hay
set_option linter.unusedVariables false
set_option linter.unusedSimpArgs false

/-- A row of values of the call's own, all new. -/
structure NwV (w W : World) (a : Option Addr) (c : Nat) (l : List Val) : Prop where
  row : VE.Row W (.slice a l.length c) l
  new : ∀ k ∈ blk a, w.heap.size ≤ k
  kp : Kp [] w W
theorem NwV.keep {w W W' : World} {a : Option Addr} {c : Nat} {l : List Val} (h : NwV w W a c l) (k : Kp [] W W') : NwV w W' a c l := ⟨h.row.keptNew k, h.new, h.kp.trans k (by simp)⟩
theorem NwV.nil (w : World) : NwV w w none 0 [] := ⟨.inl ⟨rfl, rfl⟩, by simp [blk], Kp.refl _ _⟩
theorem NwV.back {w W W' : World} {a : Option Addr} {c : Nat} {l : List Val} (h : NwV W W' a c l) (k : Kp [] w W) : NwV w W' a c l := ⟨h.row, fun q hq => by have := h.new q hq; have := k.size; omega, k.trans h.kp (by simp)⟩
theorem NwV.app1 {w W : World} {a : Option Addr} {c : Nat} {l : List Val} (h : NwV w W a c l) (x : Val) (hl : l.length ≤ 100000) :
    ∃ v' W', (Builtin.append_ #[32, 32] 32 #[.slice a l.length c, .slice (some ⟨W.heap.size, 0, none⟩) 1 1]).run Tryz.prog (W.alloc (.cells #[.int .i64 x.k, .bool x.b, .int .i64 x.n, .string x.t] 25)) = .ok v' W' ∧ ∃ a' c', v' = .slice a' (l.length + 1) c' ∧ NwV w W' a' c' (l ++ [x]) ∧ Kp (blk a) W W' := by
  obtain ⟨i0, hi, hz0, hz1, hz2⟩ := infoV'
  have kA : Kp [] W (W.alloc (.cells #[.int .i64 x.k, .bool x.b, .int .i64 x.n, .string x.t] 25)) := (Kp.refl _ _).alloc _
  have hsrc := (oneV W rfl x 25).src (P := Tryz.prog) Tryz.underlying32 1
  obtain ⟨v6, X4, hrun2, hrow6, kk6, hn6⟩ := run_appendG (E := VE) (P := Tryz.prog) _ 32 32 32 25 i0 _ 40 Tryz.underlying32 hi hz0 hz1 hz2 rfl (.slice a l.length c) l (h.row.keptNew kA) _ [x] hsrc (by simp; omega) (by simp; omega)
  obtain ⟨a6, c6, rfl, _⟩ := hrow6.see
  rw [ownS] at kk6
  have el : (l ++ [x]).length = l.length + 1 := by simp
  refine ⟨_, X4, hrun2, a6, c6, by rw [el], ⟨hrow6, fun q hq => ?_, (h.kp.trans kA (by simp)).trans kk6 (fun q hq => .inr (h.new q hq))⟩, (kA.mono (fun x hx => by simp at hx)).trans kk6 (fun q hq => .inl hq)⟩
  rcases hn6 q (by rw [ownS]; exact hq) with h1 | h1
  · rw [ownS] at h1; exact h.new q h1
  · have := h.kp.size; have := kA.size; omega
theorem insR_len (x : Val) : ∀ l : List Val, (insR x l).length ≤ l.length + 1
  | [] => by simp [insR]
  | y :: r => by
    have := insR_len x r
    rw [insR]
    split
    · simp
    · split
      · simp
      · simp; omega
/-- What becomes of it from here on. -/
def finW (x : Val) (d : Bool) (acc rest : List Val) : List Val := if d then acc ++ rest else acc ++ insR x rest
end Go.Proofs.YtafcdckpicoppaaGreatDoor
end

section
namespace Go.Proofs.YtafcdckpicoppaaGreatDoor
open Go.RowKit Go.Hay
set_option linter.unusedVariables false
set_option linter.unusedSimpArgs false

theorem tkF_put : ∀ (l acc : List Val) (s : List UInt8), allR l = true → (∀ x ∈ l, x.in64) → tkF l.length acc (l.flatMap rowB ++ s) = some (acc ++ l, s)
  | [], acc, s, _, _ => by simp [tkF]
  | x :: l, acc, s, h, hi => by
    have hx : x.right = true := by simp [allR] at h; exact h.1
    have hl : allR l = true := by simp [allR] at h ⊢; exact h.2
    have hp := rowB_pos hx
    rw [List.flatMap_cons, List.append_assoc, List.length_cons, tkF, rowF_put x hx (hi x (by simp))]
    simp only
    rw [if_neg (by omega), List.drop_left, tkF_put l _ s hl (fun y hy => hi y (by simp [hy]))]
    simp
theorem rpR_put : ∀ (R : List Rn) (acc : List Val) (many : Nat), (∀ r ∈ R, r.v.right = true ∧ r.v.in64 ∧ 0 < r.m ∧ r.m < 256) → many = acc.length + (R.map Rn.m).sum → rpR many acc (R.flatMap runB) = acc ++ R.flatMap fun r => List.replicate r.m r.v
  | [], acc, many, _, hm => by rw [List.flatMap_nil, rpR_nil]; simp
  | r :: R, acc, many, h, hm => by
    obtain ⟨h1, h2, h3, h4⟩ := h r (by simp)
    have hp := rowB_pos h1
    simp only [List.map_cons, List.sum_cons] at hm
    have e : (r :: R).flatMap runB = octet r.m :: (rowB r.v ++ R.flatMap runB) := by simp [runB]
    rw [e, rpR_cons, if_neg (by omega), rowF_put r.v h1 h2]
    simp only
    rw [if_neg (by omega), List.drop_left, octet_nat r.m h4, rpR_put R _ many (fun r' hr' => h r' (by simp [hr'])) (by simp; omega)]
    simp
theorem rpD_gB (many : Nat) (n0 : Int) (acc : List Val) (s : List UInt8) (hacc : ¬ many ≤ acc.length) : ∀ (N z i a : Nat), z ≤ N → a + z * 2 ^ (7 * i) < 18446744073709551616 → rpD many n0 a (7 * i) acc (gB z ++ s) = rpD many (IntKind.i64.wrap (n0 + zag (a + z * 2 ^ (7 * i)))) 0 0 (acc ++ [intV (IntKind.i64.wrap (n0 + zag (a + z * 2 ^ (7 * i))))]) s := by
  intro N
  induction N with
  | zero =>
    intro z i a hn hz
    obtain rfl : z = 0 := by omega
    rw [gB_lo (by omega)]
    simp only [List.cons_append, List.nil_append]
    have e : zz a (7 * i) (UInt8.ofNat 0) = a + 0 * 2 ^ (7 * i) := by
      unfold zz
      simp
      omega
    rw [rpD, if_neg hacc, if_neg (by simp), e]
  | succ N ih =>
    intro z i a hn hz
    by_cases h : z < 128
    · rw [gB_lo h]
      simp only [List.cons_append, List.nil_append]
      have e0 : (UInt8.ofNat z).toNat = z := by rw [UInt8.toNat_ofNat']; omega
      have e : zz a (7 * i) (UInt8.ofNat z) = a + z * 2 ^ (7 * i) := by
        unfold zz
        rw [e0, Nat.mod_eq_of_lt h, Nat.mod_eq_of_lt (show z * 2 ^ (7 * i) < 18446744073709551616 by omega), Nat.mod_eq_of_lt hz]
      rw [rpD, if_neg hacc, e0, if_neg (by omega), e]
    · rw [gB_hi h]
      simp only [List.cons_append]
      have hle : z % 128 * 2 ^ (7 * i) + z / 128 * 2 ^ (7 * (i + 1)) = z * 2 ^ (7 * i) := by
        have e : 2 ^ (7 * (i + 1)) = 128 * 2 ^ (7 * i) := by rw [show 7 * (i + 1) = 7 + 7 * i by omega, Nat.pow_add]
        rw [e, ← Nat.mul_assoc, ← Nat.add_mul]
        congr 1
        omega
      have e : zz a (7 * i) (UInt8.ofNat (z % 128 + 128)) = a + z % 128 * 2 ^ (7 * i) := by
        unfold zz
        rw [low128, show (z % 128 + 128) % 128 = z % 128 by omega, Nat.mod_eq_of_lt (show z % 128 * 2 ^ (7 * i) < 18446744073709551616 by omega), Nat.mod_eq_of_lt (by omega)]
      rw [rpD, if_neg hacc, low128, if_pos (by omega), e, show 7 * i + 7 = 7 * (i + 1) by omega, ih (z / 128) (i + 1) _ (by omega) (by omega)]
      have e2 : a + z % 128 * 2 ^ (7 * i) + z / 128 * 2 ^ (7 * (i + 1)) = a + z * 2 ^ (7 * i) := by omega
      rw [e2]
theorem rpD_put (many : Nat) : ∀ (r : List Val) (x : Val) (acc : List Val), x.in64 → (∀ y ∈ r, y.in64 ∧ y = intV y.n) → acc.length + r.length ≤ many → rpD many x.n 0 0 acc (dltL x r) = acc ++ r
  | [], x, acc, _, _, _ => by simp [dltL, rpD]
  | y :: r, x, acc, hx, h, hl => by
    obtain ⟨hy1, hy2⟩ := h y (by simp)
    have hw := wrap64_bd (y.n - x.n)
    have hb := zig_bd hw.1 hw.2
    rw [List.length_cons] at hl
    have hg := rpD_gB many x.n acc (dltL y r) (by omega) _ (zig (IntKind.i64.wrap (y.n - x.n))).toNat 0 0 (Nat.le_refl _) (by simp; omega)
    simp only [Nat.mul_zero, Nat.pow_zero, Nat.mul_one, Nat.zero_add] at hg
    rw [dltL, hg, zag_zig hw.1 hw.2, wrap_diff x.n y.n hx hy1, ← hy2, rpD_put many r y _ hy1 (fun z hz => h z (by simp [hz])) (by simp; omega)]
    simp
theorem rback_delta (l : List Val) (h : allR l = true) (hi : ∀ x ∈ l, x.in64) (h2 : allI l = true) (h0 : 0 < l.length) : rpDl l.length (deltaB l) = l := by
  cases l with
  | nil => simp at h0
  | cons x r =>
    have hint : ∀ y ∈ x :: r, y = intV y.n := fun y hy => int_of (List.all_eq_true.1 h y hy) (by have := List.all_eq_true.1 h2 y hy; simpa using this)
    have e : deltaB (x :: r) = be (u64 x.n) 8 ++ dltL x r := by
      unfold deltaB
      rw [List.length_cons, Nat.add_sub_cancel, dltL_eq]
      simp
    unfold rpDl
    rw [e, if_neg (by rw [List.length_append, be_length]; omega), wordV_put x.n (hi x (by simp)), List.drop_left' (be_length _ _), rpD_put _ r x _ (hi x (by simp)) (fun y hy => ⟨hi y (by simp [hy]), hint y (by simp [hy])⟩) (by simp; omega), ← hint x (by simp)]
    rfl
theorem rback_bits (l : List Val) (h : allR l = true) (hi : ∀ x ∈ l, x.in64) (h2 : allI l = true) (h0 : 0 < l.length) : rpBt l.length (bitsB l) = l := by
  have hb := back_bits l h hi h2 h0
  unfold tkBt at hb
  split at hb
  · cases hb
  · rename_i hc
    unfold upkO at hb
    split at hb
    · rename_i hlen
      unfold rpBt
      rw [List.length_drop] at hlen
      rw [if_neg (by omega)]
      injection hb
    · cases hb
theorem rback_dict (l : List Val) (h : allR l = true) (hi : ∀ x ∈ l, x.in64) (h0 : 0 < l.length) (hl : l.length ≤ 64) : rpDc l.length (dictB l) = l := by
  have hb := back_dict l h hi h0 hl
  have hul := uniq_len l
  have hur := uniq_right l h
  have hum := uniq_mem l
  obtain ⟨u, hu⟩ : ∃ u, uniq l = u := ⟨_, rfl⟩
  have e : dictB l = octet u.length :: (u.flatMap rowB ++ packB (plcs u l l.length) (Lib.bitLen (u.length - 1))) := by unfold dictB; rw [hu]; simp
  rw [hu] at hul hur
  simp only [hu] at hum
  have hu0 : 0 < u.length := by
    cases l with
    | nil => simp at h0
    | cons x r => exact List.length_pos_of_mem ((hum x).2 (by simp))
  have ho : (octet u.length).toNat = u.length := octet_nat _ (by omega)
  have e0 : (octet (u.length : Int) :: (u.flatMap rowB ++ packB (plcs u l l.length) (Lib.bitLen (u.length - 1)))).getD 0 0 = octet u.length := rfl
  unfold tkDc at hb
  rw [e, e0, ho, if_neg (by rw [List.length_cons]; omega), List.drop_one, List.tail_cons, tkP_put u [] _ hur (fun x hx => hi x ((hum x).1 hx))] at hb
  unfold rpDc
  rw [e, e0, ho, if_neg (by rw [List.length_cons]; omega), List.drop_one, List.tail_cons, tkF_put u [] _ hur (fun x hx => hi x ((hum x).1 hx))]
  simp only [List.nil_append] at hb ⊢
  rw [if_neg (by omega)]
  unfold upkO at hb
  split at hb
  · cases hb
  · rename_i ps hps
    split at hps
    · rename_i hlen
      injection hps with hps
      rw [if_neg (by simpa using hlen), hps]
      split at hb
      · rename_i hall
        rw [if_pos hall]
        injection hb
      · cases hb
    · cases hps
theorem rpA_back (k : Int) (l : List Val) (hi : ∀ x ∈ l, x.in64) (hr : refE k l = 0) (h0 : 0 < l.length) : rpA k l.length (encR k l) = l := by
  obtain ⟨hk, hl, ha⟩ := refE_ok hr
  have hint : ofI k = true → allI l = true := fun ho => by
    unfold refE at hr
    rw [hk, ha, ho] at hr
    simp at hr
    split at hr
    · simp at hr
    · by_cases h : allI l = true
      · exact h
      · simp [h] at hr
  have hkk : 0 ≤ k ∧ k ≤ 4 := by unfold knownB at hk; simp at hk; exact hk
  rw [encR_put hr h0]
  unfold rpA putB
  rw [if_neg (by omega)]
  by_cases q0 : k = 0
  · subst q0
    rw [if_pos rfl]
    have := tkF_put l [] [] ha hi
    rw [List.append_nil] at this
    simp only [if_neg (by omega : ¬ (0 : Int) = 1), if_neg (by omega : ¬ (0 : Int) = 2), if_neg (by omega : ¬ (0 : Int) = 3), if_neg (by omega : ¬ (0 : Int) = 4)]
    rw [this]; rfl
  · rw [if_neg q0]
    by_cases h1 : k = 1
    · subst h1
      obtain ⟨q1, q2, q3⟩ := runsV_flat l
      rw [if_pos rfl, if_pos rfl, rpR_put (runsV l) [] l.length (fun r hr' => by
        have := runsV_in r hr'
        exact ⟨List.all_eq_true.1 ha _ this.1, hi _ this.1, q2 r hr', by omega⟩) (by simp [q3]), q1]
      rfl
    · rw [if_neg h1, if_neg h1]
      by_cases h2 : k = 2
      · subst h2; simpa using rback_delta l ha hi (hint rfl) h0
      · rw [if_neg h2, if_neg h2]
        by_cases h3 : k = 3
        · subst h3; simpa using rback_dict l ha hi h0 hl
        · rw [if_neg h3, if_neg h3]
          have h4 : k = 4 := by omega
          subst h4
          rw [if_pos rfl]
          exact rback_bits l ha hi (hint rfl) h0
/-- Decode's answer, by what the reference reads. -/
def refD (k : Int) (bs : List UInt8) (many : Nat) : List Val × Int := if refE k (rpA k many bs) = 0 ∧ (rpA k many bs).length = many ∧ encR k (rpA k many bs) = bs then (rpA k many bs, 0) else ([], 60)
theorem refD_eq (k : Int) (bs : List UInt8) (many : Nat) (hk : knownB k = true) (hm : many ≤ 64) : refD k bs many = decA k bs many := by
  unfold refD
  split
  · rename_i h
    obtain ⟨h1, h2, h3⟩ := h
    have := decA_back k (rpA k many bs) (rpA_in64 k many bs) h1
    rw [h2, h3] at this
    exact this.symm
  · rename_i h
    unfold decA decE
    rw [if_neg (by simp [hk]), if_neg (by omega)]
    cases hT : tkA k many bs with
    | none => rw [if_neg (by simp [okV])]
    | some L =>
      rw [if_neg]
      rintro ⟨_, hl, hr, he⟩
      simp only [okV] at hl hr he
      apply h
      have hin := tkA_in64 k many bs L hT
      have e : rpA k many bs = L := by
        rcases Nat.eq_zero_or_pos L.length with h0 | h0
        · obtain rfl := List.eq_nil_of_length_eq_zero h0
          unfold rpA
          rw [if_pos (by simpa using hl.symm)]
        · have := rpA_back k L hin hr h0
          rw [he, hl] at this
          exact this
      rw [e]
      exact ⟨hr, hl, he⟩
end Go.Proofs.YtafcdckpicoppaaGreatDoor
end

section
namespace Go.Proofs.YtafcdckpicoppaaGreatDoor
open Go.RowKit Go.Hay
set_option linter.unusedVariables false
set_option linter.unusedSimpArgs false

end Go.Proofs.YtafcdckpicoppaaGreatDoor
end

section
namespace Go.Proofs.YtafcdckpicoppaaGreatDoor
open Go.RowKit Go.Hay
set_option linter.unusedVariables false
set_option linter.unusedSimpArgs false

/-- Values that are handed back, all new. -/
def RvP (w : World) (l : List Val) (e : Ending) (w' : World) : Prop := ∃ a c, e = .returned (.slice a l.length c) ∧ NwV w w' a c l
theorem rvP_nil (w w' : World) (k : Kp [] w w') : RvP w [] (.returned (.slice none 0 0)) w' := ⟨none, 0, rfl, (NwV.nil w).keep k⟩
/-- The bytes from a place on. -/
theorem tailB {w : World} {a : Option Addr} {bs : List UInt8} (hs : Sees w a bs) (c A : Nat) (hA : A ≤ bs.length) (hl : bs.length ≤ c) : ∃ ba, (∀ g o, a = some ⟨g, o, none⟩ → (if c = A then some ⟨g, o, none⟩ else some ⟨g, o + A, none⟩ : Option Addr) = ba) ∧ Sees w ba (bs.drop A) := by
  cases a with
  | none =>
    refine ⟨none, (fun g o e => by cases e), ?_⟩
    rcases hs with h | ⟨g, o, e, _⟩
    · subst h; simp; exact .inl rfl
    · cases e
  | some ad =>
    rcases hs with h | ⟨g, o, e, hc⟩
    · subst h
      obtain ⟨g, o, t⟩ := ad
      refine ⟨if c = A then some ⟨g, o, none⟩ else some ⟨g, o + A, none⟩, (fun g' o' e => by cases e; rfl), ?_⟩
      simp; exact .inl rfl
    · cases e
      refine ⟨_, (fun g' o' e => by cases e; rfl), ?_⟩
      split
      · have : bs.drop A = [] := List.drop_eq_nil_of_le (by omega)
        rw [this]; exact .inl rfl
      · have := Sees.tail (show Sees w (some ⟨g, o, none⟩) bs from .inr ⟨g, o, rfl, hc⟩) A; simpa [Addr.add_lit] using this
theorem NwV.app2 {w W : World} {a : Option Addr} {c : Nat} {l : List Val} (h : NwV w W a c l) (x : Val) (hl : l.length ≤ 100000) :
    ∃ v' W', (Builtin.append_ #[32, 32] 32 #[.slice a l.length c, .slice (some ⟨W.heap.size, 0, none⟩) 1 1]).run Tryz.prog (W.alloc (.cells #[.int .i64 x.k, .bool x.b, .int .i64 x.n, .string x.t] 25)) = .ok v' W' ∧ ∃ a' c', v' = .slice a' (l.length + 1) c' ∧ NwV w W' a' c' (l ++ [x]) ∧ Kp (blk a) W W' ∧ ∀ k ∈ blk a', k ∈ blk a ∨ W.heap.size < k := by
  obtain ⟨i0, hi, hz0, hz1, hz2⟩ := infoV'
  have kA : Kp [] W (W.alloc (.cells #[.int .i64 x.k, .bool x.b, .int .i64 x.n, .string x.t] 25)) := (Kp.refl _ _).alloc _
  have hsrc := (oneV W rfl x 25).src (P := Tryz.prog) Tryz.underlying32 1
  obtain ⟨v6, X4, hrun2, hrow6, kk6, hn6⟩ := run_appendG (E := VE) (P := Tryz.prog) _ 32 32 32 25 i0 _ 40 Tryz.underlying32 hi hz0 hz1 hz2 rfl (.slice a l.length c) l (h.row.keptNew kA) _ [x] hsrc (by simp; omega) (by simp; omega)
  obtain ⟨a6, c6, rfl, _⟩ := hrow6.see
  rw [ownS] at kk6
  have el : (l ++ [x]).length = l.length + 1 := by simp
  refine ⟨_, X4, hrun2, a6, c6, by rw [el], ⟨hrow6, fun q hq => ?_, (h.kp.trans kA (by simp)).trans kk6 (fun q hq => .inr (h.new q hq))⟩, (kA.mono (fun x hx => by simp at hx)).trans kk6 (fun q hq => .inl hq), fun q hq => ?_⟩
  · rcases hn6 q (by rw [ownS]; exact hq) with h1 | h1
    · rw [ownS] at h1; exact h.new q h1
    · have := h.kp.size; have := kA.size; omega
  · rcases hn6 q (by rw [ownS]; exact hq) with h1 | h1
    · rw [ownS] at h1; exact .inl h1
    · refine .inr ?_
      simp at h1
      omega
end Go.Proofs.YtafcdckpicoppaaGreatDoor
end

section
namespace Go.Proofs.YtafcdckpicoppaaGreatDoor
open Go.RowKit Go.Hay
set_option linter.unusedVariables false
set_option linter.unusedSimpArgs false

theorem dropCons {bs : List UInt8} {A : Nat} (h : A < bs.length) : bs.drop A = bs[A] :: bs.drop (A + 1) := List.drop_eq_getElem_cons h
end Go.Proofs.YtafcdckpicoppaaGreatDoor
end

section
namespace Go.Proofs.YtafcdckpicoppaaGreatDoor
open Go.RowKit Go.Hay
set_option linter.unusedVariables false
set_option linter.unusedSimpArgs false

theorem NwV.one (w w1 : World) (k : Kp [] w w1) (x : Val) (t : TypeId) : NwV w (w1.alloc (.cells #[.int .i64 x.k, .bool x.b, .int .i64 x.n, .string x.t] t)) (some ⟨w1.heap.size, 0, none⟩) 1 [x] :=
  ⟨rowOneV w1 rfl x t, fun q hq => by simp [blk] at hq; have := k.size; omega, k.alloc _⟩
theorem zag_pos {z : Nat} (h : z % 2 = 0) : zag z = ((z / 2 : Nat) : Int) := by unfold zag; rw [if_pos h]
theorem zag_neg {z : Nat} (h : ¬ z % 2 = 0) : zag z = -((z / 2 : Nat) : Int) - 1 := by unfold zag; rw [if_neg h]
theorem zz_lt (z s : Nat) (x : UInt8) : zz z s x < 18446744073709551616 := by unfold zz; omega
theorem pow_min (y S : Nat) : y * 2 ^ min S 64 % 18446744073709551616 = y * 2 ^ S % 18446744073709551616 := by
  by_cases h : S ≤ 64
  · rw [Nat.min_eq_left h]
  · have e1 : min S 64 = 64 := by omega
    have e2 : y * 2 ^ S = y * 2 ^ (S - 64) * 18446744073709551616 := by
      have : S = (S - 64) + 64 := by omega
      conv => lhs; rw [this, Nat.pow_add]
      rw [← Nat.mul_assoc]
    have e3 : y * 2 ^ 64 = y * 18446744073709551616 := by rfl
    rw [e1, e2, e3, Nat.mul_mod_left, Nat.mul_mod_left]
end Go.Proofs.YtafcdckpicoppaaGreatDoor
end

section
namespace Go.Proofs.YtafcdckpicoppaaGreatDoor
open Go.RowKit Go.Hay
set_option linter.unusedVariables false
set_option linter.unusedSimpArgs false

/-- A number's upper bits, so many of them. -/
def hnb (bs : List UInt8) (wd i : Nat) : Nat → Nat
  | 0 => 0
  | m + 1 => 2 * hnb bs wd i m + bitAt bs (i * wd + (wd - 1 - m))
theorem hnb_lt (bs : List UInt8) (wd i : Nat) : ∀ m, hnb bs wd i m < 2 ^ m
  | 0 => by simp [hnb]
  | m + 1 => by
    have h1 := hnb_lt bs wd i m
    have h2 := bitAt_lt bs (i * wd + (wd - 1 - m))
    rw [hnb, Nat.pow_succ]
    omega
theorem hnb_num (bs : List UInt8) (wd i : Nat) : ∀ m, m ≤ wd → numTo bs wd i (wd - m) + 2 ^ (wd - m) * hnb bs wd i m = numTo bs wd i wd
  | 0, _ => by simp [hnb]
  | m + 1, h => by
    have ih := hnb_num bs wd i m (by omega)
    have e : wd - m = (wd - (m + 1)) + 1 := by omega
    rw [e, numTo, Nat.pow_succ, show wd - (m + 1) = wd - 1 - m by omega] at ih
    rw [hnb, show wd - (m + 1) = wd - 1 - m by omega, ← ih, Nat.mul_add]
    have e2 : 2 ^ (wd - 1 - m) * bitAt bs (i * wd + (wd - 1 - m)) = bitAt bs (i * wd + (wd - 1 - m)) * 2 ^ (wd - 1 - m) := Nat.mul_comm _ _
    have e3 : 2 ^ (wd - 1 - m) * (2 * hnb bs wd i m) = 2 ^ (wd - 1 - m) * 2 * hnb bs wd i m := by rw [Nat.mul_assoc]
    rw [e2, e3]
    omega
theorem hnb_all (bs : List UInt8) (wd i : Nat) : hnb bs wd i wd = numTo bs wd i wd := by
  have := hnb_num bs wd i wd (Nat.le_refl _)
  rw [Nat.sub_self, show numTo bs wd i 0 = 0 from rfl, Nat.pow_zero, Nat.one_mul, Nat.zero_add] at this
  exact this
end Go.Proofs.YtafcdckpicoppaaGreatDoor
end

section
namespace Go.Proofs.YtafcdckpicoppaaGreatDoor
open Go.RowKit Go.Hay
set_option linter.unusedVariables false
set_option linter.unusedSimpArgs false

theorem wrap_sum (U n : Nat) : IntKind.i64.wrap (wrap64 (U : Int) + (n : Int)) = wrap64 (IntKind.u64.wrap ((U : Int) + (n : Int))) := by
  rw [IntKind.wrap_i64, IntKind.wrap_u64]
  unfold wrap64
  generalize (U : Int) = u
  generalize (n : Int) = m
  have h1 : (u + 9223372036854775808) % 18446744073709551616 = u + 9223372036854775808 - 18446744073709551616 * ((u + 9223372036854775808) / 18446744073709551616) := by rw [Int.emod_def]
  have h2 : (u + m) % 18446744073709551616 = u + m - 18446744073709551616 * ((u + m) / 18446744073709551616) := by rw [Int.emod_def]
  rw [h1, h2]
  generalize (u + 9223372036854775808) / 18446744073709551616 = a
  generalize (u + m) / 18446744073709551616 = b
  omega
end Go.Proofs.YtafcdckpicoppaaGreatDoor
end

section
namespace Go.Proofs.YtafcdckpicoppaaGreatDoor
open Go.RowKit Go.Hay
set_option linter.unusedVariables false
set_option linter.unusedSimpArgs false

theorem tkF_len : ∀ (n : Nat) (acc : List Val) (bs : List UInt8) (q : List Val × List UInt8), tkF n acc bs = some q → q.1.length = acc.length + n ∧ q.2.length ≤ bs.length
  | 0, acc, bs, q, h => by rw [tkF] at h; injection h with h; subst h; simp
  | n + 1, acc, bs, q, h => by
    rw [tkF] at h
    split at h
    · cases h
    · obtain ⟨h1, h2⟩ := tkF_len n _ _ q h
      simp at h1 h2
      omega
/-- The rest of dicts, once the words are read. -/
def rpDr (many : Nat) (u : List Val) (r : List UInt8) : List Val := if u.length = 0 then [] else if r.length ≠ (many * Lib.bitLen (u.length - 1) + 7) / 8 then [] else
      if (upk r many (Lib.bitLen (u.length - 1))).all (fun p => decide (p < u.length)) = true then (upk r many (Lib.bitLen (u.length - 1))).map fun p => u.getD p nv else []
def rpDo (many : Nat) : Option (List Val × List UInt8) → List Val
  | none => []
  | some q => rpDr many q.1 q.2
theorem rpDc_eq (many : Nat) (bs : List UInt8) (h : ¬ bs.length = 0) : rpDc many bs = rpDo many (tkF (bs.getD 0 0).toNat [] (bs.drop 1)) := by
  unfold rpDc
  rw [if_neg h]
  cases tkF (bs.getD 0 0).toNat [] (bs.drop 1) with
  | none => rfl
  | some q => rfl
end Go.Proofs.YtafcdckpicoppaaGreatDoor
end

section
namespace Go.Proofs.YtafcdckpicoppaaGreatDoor
open Go.RowKit Go.Hay
set_option linter.unusedVariables false
set_option linter.unusedSimpArgs false

/-- Just one place is a value's. -/
theorem idx_only {u : List Val} (hu : u.Nodup) {x : Val} (hx : x ∈ u) (k : Nat) (hk : k < u.length) : (u[k].eqv x = true) ↔ k = idxV u x := by
  obtain ⟨h1, h2, _⟩ := idxV_mem u x hx
  have e2 : u[idxV u x] = x := by have : u.getD (idxV u x) nv = u[idxV u x] := by simp [h1]
                                  rw [← this]; exact h2
  rw [eqv_iff]
  constructor
  · intro h
    rcases Nat.lt_trichotomy k (idxV u x) with h3 | h3 | h3
    · exact absurd (by rw [h, e2]) (List.pairwise_iff_getElem.1 hu k (idxV u x) hk h1 h3)
    · exact h3
    · exact absurd (by rw [h, e2]) (List.pairwise_iff_getElem.1 hu (idxV u x) k h1 hk h3)
  · rintro rfl; exact e2
end Go.Proofs.YtafcdckpicoppaaGreatDoor
end

section
namespace Go.Proofs.YtafcdckpicoppaaGreatDoor
open Go.RowKit Go.Hay
set_option linter.unusedVariables false
set_option linter.unusedSimpArgs false

theorem runsV_last (x : Val) : ∀ l, ∃ R m, runsV (l ++ [x]) = R ++ [⟨m, x⟩]
  | [] => ⟨[], 1, rfl⟩
  | z :: l => by
    obtain ⟨R, m, h⟩ := runsV_last x l
    rw [List.cons_append, runsV, h]
    cases R with
    | nil =>
      simp only [List.nil_append]
      split
      · exact ⟨[], m + 1, rfl⟩
      · exact ⟨[⟨1, z⟩], m, rfl⟩
    | cons r R =>
      simp only [List.cons_append]
      split
      · exact ⟨⟨r.m + 1, r.v⟩ :: R, m, rfl⟩
      · exact ⟨⟨1, z⟩ :: r :: R, m, rfl⟩
theorem runsV_none {l : List Val} (h : runsV l = []) : l = [] := by
  cases l with
  | nil => rfl
  | cons a l => obtain ⟨k, rs, e⟩ := runsV_head a l; rw [e] at h; cases h
theorem runsV_snoc (x y : Val) : ∀ (l : List Val) (R : List Rn) (m : Nat), runsV l = R ++ [⟨m, y⟩] → runsV (l ++ [x]) = if x.eqv y = true then R ++ [⟨m + 1, y⟩] else R ++ [⟨m, y⟩, ⟨1, x⟩]
  | [], R, m, h => by simp [runsV] at h
  | z :: l, R, m, h => by
    rw [runsV] at h
    rw [List.cons_append, runsV]
    cases hl : runsV l with
    | nil =>
      have e := runsV_none hl
      subst e
      rw [hl] at h
      cases R with
      | nil =>
        simp only [List.nil_append, List.cons.injEq, Rn.mk.injEq, and_true] at h
        obtain ⟨rfl, rfl⟩ := h
        simp only [List.nil_append, runsV]
        by_cases hx : x.eqv z = true
        · have := eqv_iff.1 hx; subst this; simp [eqv_self]
        · have : ¬ z.eqv x = true := fun h => hx (by rw [eqv_iff.1 h]; exact eqv_self _)
          rw [if_neg hx, if_neg this]
      | cons r R => simp at h
    | cons r rs =>
      rw [hl] at h
      simp only at h
      by_cases hz : z.eqv r.v = true
      · rw [if_pos hz] at h
        cases R with
        | nil =>
          simp only [List.nil_append, List.cons.injEq, Rn.mk.injEq] at h
          obtain ⟨⟨rfl, rfl⟩, rfl⟩ := h
          rw [runsV_snoc x r.v l [] r.m (by rw [hl]; rfl)]
          by_cases hx : x.eqv r.v = true
          · simp [hx, hz]
          · simp [hx, hz]
        | cons r' R' =>
          simp only [List.cons_append, List.cons.injEq] at h
          obtain ⟨rfl, rfl⟩ := h
          rw [runsV_snoc x y l (r :: R') m (by rw [hl]; rfl)]
          by_cases hx : x.eqv y = true
          · simp [hx, hz]
          · simp [hx, hz]
      · rw [if_neg hz] at h
        cases R with
        | nil => simp at h
        | cons r' R' =>
          simp only [List.cons_append, List.cons.injEq] at h
          obtain ⟨rfl, h⟩ := h
          rw [runsV_snoc x y l R' m (by rw [hl]; exact h)]
          cases R' with
          | nil =>
            simp only [List.nil_append, List.cons.injEq] at h
            obtain ⟨rfl, rfl⟩ := h
            by_cases hx : x.eqv y = true
            · simp [hx, hz]
            · simp [hx, hz]
          | cons q Q =>
            simp only [List.cons_append, List.cons.injEq] at h
            obtain ⟨rfl, rfl⟩ := h
            by_cases hx : x.eqv y = true
            · simp [hx, hz]
            · simp [hx, hz]
theorem rowNoneR (w : World) {q : Nat} (hq : w.heap.size = q) (C : Array Value) (t : TypeId) : RunE.Row (w.alloc (.cells C t)) (.slice (some ⟨q, 0, none⟩) 0 0) [] := by
  subst hq
  exact .inr ⟨w.heap.size, 0, 0, rfl, Nat.le_refl _, by decide, by simp, fun j u hu => by simp [El.cs] at hu, fun j hj => absurd hj (by simp)⟩
/-- How the reference's loop stands. -/
structure RfI (l : List Val) (w wn : World) (ra : Option Addr) (rc j : Nat) (R : List Rn) : Prop where
  row : RunE.Row wn (.slice ra R.length rc) R
  new : ∀ k ∈ blk ra, w.heap.size ≤ k
  kp : Kp [] w wn
  runs : Hid (runsV (l.take j) = R)
theorem RfI.len {l : List Val} {w wn : World} {ra : Option Addr} {rc j : Nat} {R : List Rn} (h : RfI l w wn ra rc j R) : R.length ≤ j := by
  rw [← h.runs.out]
  have := runsV_len (l.take j)
  simp at this
  omega
theorem RfI.keep {l : List Val} {w wn w' : World} {ra : Option Addr} {rc j : Nat} {R : List Rn} (h : RfI l w wn ra rc j R) (k : Kp [] wn w') : RfI l w w' ra rc j R :=
  ⟨h.row.keptNew k, h.new, h.kp.trans k (by simp), h.runs⟩
theorem take_snoc (l : List Val) (j : Nat) (h : j < l.length) : l.take (j + 1) = l.take j ++ [l[j]] := List.take_succ_eq_append_getElem h
/-- What the runs of one value more are. -/
theorem runs_next (l : List Val) (j : Nat) (h : j < l.length) (X : Bool) (hX : j = 0 ∨ ∃ hj : j - 1 < l.length, X = l[j].eqv l[j - 1]) (h0 : j = 0 → X = false) : (X = false ∧ runsV (l.take (j + 1)) = runsV (l.take j) ++ [⟨1, l[j]⟩]) ∨ (X = true ∧ ∃ R m, runsV (l.take j) = R ++ [⟨m, l[j]⟩] ∧ runsV (l.take (j + 1)) = R ++ [⟨m + 1, l[j]⟩]) := by
  rw [take_snoc l j h]
  by_cases hj : j = 0
  · subst hj
    exact .inl ⟨h0 rfl, by simp [runsV]⟩
  · rcases hX with e | ⟨hj1, hX⟩
    · exact absurd e hj
    · obtain ⟨R, m, hR⟩ := runsV_last l[j - 1] (l.take (j - 1))
      rw [← take_snoc l (j - 1) hj1, show j - 1 + 1 = j by omega] at hR
      have hs := runsV_snoc l[j] l[j - 1] (l.take j) R m hR
      rw [← hX] at hs
      cases X with
      | false => exact .inl ⟨rfl, by rw [hs, hR]; simp⟩
      | true =>
        have e := eqv_iff.1 hX.symm
        exact .inr ⟨rfl, R, m, by rw [hR, e], by rw [hs, ← e]; simp⟩
end Go.Proofs.YtafcdckpicoppaaGreatDoor
end

section
namespace Go.Proofs.YtafcdckpicoppaaGreatDoor
open Go.RowKit Go.Hay
set_option linter.unusedVariables false
set_option linter.unusedSimpArgs false

end Go.Proofs.YtafcdckpicoppaaGreatDoor
end

section
namespace Go.Proofs.YtafcdckpicoppaaGreatDoor
open Go.RowKit Go.Hay
set_option linter.unusedVariables false
set_option linter.unusedSimpArgs false

theorem u8_mod (m : Nat) (h : m < 256) : (m : Int) = ((octet m).toNat : Int) := by rw [octet_nat m h]
end Go.Proofs.YtafcdckpicoppaaGreatDoor
end

section
namespace Go.Proofs.YtafcdckpicoppaaGreatDoor
open Go.RowKit Go.Hay
set_option linter.unusedVariables false
set_option linter.unusedSimpArgs false

/-- What the two Decodes tell. -/
def decI (k : Int) (bs : List UInt8) (mi : Int) : List Val × Int := if knownB k = false then ([], 62) else if mi < 0 ∨ 64 < mi then ([], 61) else decA k bs mi.toNat
set_option maxHeartbeats 4000000 in
theorem cDecI (k : Int) (a : Option Addr) (c : Nat) (bs : List UInt8) (mi : Int) (w : World) (hs : Sees w a bs) (hl : bs.length ≤ c) (hm : c ≤ maxLen) (hb : bs.length ≤ 900000000000000) (hmi : mi ≤ 9223372036854775807) :
    Calls Tryz.prog 70 #[.int .i64 k, .slice a bs.length c, .int .i64 mi] w (DecP w (decI k bs mi)) := by
  by_cases h0 : mi < 0
  · have cK := cKnown k w
    unfold decI
    by_cases hk : knownB k = false
    · rw [hk] at cK
      rw [if_pos hk]
      have hfin := decP_err w 62
      clear hs hm hk
      go_enter Tryz.func70, Tryz.ntmps70
      go_wp2_with fail
      refine cK.mono ?_
      rintro e w9 ⟨rfl, hw9⟩
      rw [hw9]
      clear hw9 w9 cK
      go_wp2_with fail
      go_ret2
      exact hfin
    · rw [if_neg hk, if_pos (.inl h0)]
      have hk' : knownB k = true := by simpa using hk
      rw [hk'] at cK
      have hfin := decP_err w 61
      clear hs hm hk hk'
      go_enter Tryz.func70, Tryz.ntmps70
      go_wp2_with fail
      refine cK.mono ?_
      rintro e w9 ⟨rfl, hw9⟩
      rw [hw9]
      clear hw9 w9 cK
      go_wp2_with fail
      go_ret2
      exact hfin
  · obtain ⟨many, rfl⟩ := Int.eq_ofNat_of_zero_le (by omega : 0 ≤ mi)
    have := cDecA k a c bs many w hs hl hm hb (by omega)
    have e : decI k bs (many : Int) = decA k bs many := by
      unfold decI
      by_cases hk : knownB k = false
      · rw [if_pos hk]; unfold decA; rw [if_pos hk]
      · rw [if_neg hk]
        by_cases h64 : 64 < many
        · rw [if_pos (.inr (by omega))]; unfold decA; rw [if_neg hk, if_pos h64]
        · rw [if_neg (by omega), Int.toNat_natCast]
    rw [e]
    exact this
end Go.Proofs.YtafcdckpicoppaaGreatDoor
end

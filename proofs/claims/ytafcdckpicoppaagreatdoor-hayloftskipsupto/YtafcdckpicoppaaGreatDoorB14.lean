/- block.Head, block.Read. The law's own test that the program is alive. A range over an iterator that makes memory of its own, which the rounds leave alone: a law. No statement of the seat is proved here. The values of each block, given to a range: the inner iterator, block.lists. A range over an iterator that ranges over another one: its own steps turn records of its own, and the rounds leave these alone: a law. No statement of the seat is proved here. -/
import Derived.Test.YtafcdckpicoppaaGreatDoorB12
import Derived.Test.YtafcdckpicoppaaGreatDoorB13
import Derived.Deep.RegionHeld3
import Derived.Test.YtafcdckpicoppaaGreatDoorB11
import Derived.RangeFuncNested
import Derived.RangeFuncBound
import Derived.RangeFuncCalls
import Derived.RangeFuncLeaves
import Derived.RangeFuncSeq
import Derived.Shelf.RegionOpen
import Derived.LoopIn
import Derived.LoopNIn
import Derived.OrdersIn
import Derived.TacticsInMore
import Derived.OwnWalkIn
import Derived.RegionIn
section
namespace Go.Proofs.YtafcdckpicoppaaGreatDoor
open Go.RowKit Go.Hay
set_option linter.unusedVariables false
set_option linter.unusedSimpArgs false

set_option maxHeartbeats 16000000 in
set_option maxRecDepth 100000 in
theorem bHead (a : Option Addr) (c : Nat) (bs : List UInt8) (w : World) (hs : Sees w a bs) (hl : bs.length ≤ c) (hm : c ≤ maxLen) :
    Calls Tryz.prog 6 #[.slice a bs.length c] w fun e w' => e = .returned (.tuple #[(hdP bs).1.v, .int .i64 (hdP bs).2.2]) ∧ Kp [] w w' := by
  obtain ⟨w0, hw0, kw0, bR⟩ : ∃ w0, w.alloc (.cells #[.int .i64 0, .int .i64 0, .int .i64 0, .bool false, .int .i64 0, .string ⟨#[]⟩, .int .i64 0, .bool false, .int .i64 0, .string ⟨#[]⟩, .int .i64 0, .int .i64 0] 35) = w0 ∧ Kp [] w w0 ∧ Bx w0 w.heap.size [.int .i64 0, .int .i64 0, .int .i64 0, .bool false, .int .i64 0, .string ⟨#[]⟩, .int .i64 0, .bool false, .int .i64 0, .string ⟨#[]⟩, .int .i64 0, .int .i64 0] := ⟨_, rfl, (Kp.refl _ _).alloc _, Bx.new w _ _⟩
  have cT := bTakeHead a c bs w0 (hs.kept kw0 (by simp)) hl hm
  obtain ⟨⟨⟨K, M, ⟨mk, mb, mn, mt⟩, ⟨xk, xb, xn, xt⟩, NN, BB⟩, s, E⟩, hP⟩ : ∃ r, Hid (hdP bs = r) := ⟨_, rfl⟩
  rw [hP.out] at cT ⊢
  unfold HdP Inf.v Inf.cs at cT
  dsimp only at cT ⊢
  obtain ⟨q, hq⟩ : ∃ q, Hid (w.heap.size = q) := ⟨_, rfl⟩
  have hqw : w.heap.size ≤ q := by rw [hq.out]; omega
  rw [hq.out] at bR
  have hbR := hid bR
  have hkw := hid kw0
  rw [← hw0] at cT
  have hw0' := hid hw0
  clear hw0 kw0 bR hs hP
  go_enter Tryz.func6, Tryz.ntmps6
  go_wp2_with fail
  refine cT.mono ?_
  rintro e w1 ⟨rfl, k1⟩
  rw [hw0'.out] at k1
  rw [hq.out]
  have bR1 := hbR.out.kept k1 (by simp) (hbR.out.lt (by simp))
  have kw1 := hkw.out.trans k1 (by simp)
  obtain ⟨w2, hw2, k2, bI⟩ : ∃ w2, w1.alloc (.cells #[.int .i64 0, .int .i64 0, .int .i64 0, .bool false, .int .i64 0, .string ⟨#[]⟩, .int .i64 0, .bool false, .int .i64 0, .string ⟨#[]⟩, .int .i64 0, .int .i64 0] 35) = w2 ∧ Kp [] w1 w2 ∧ Bx w2 w1.heap.size [.int .i64 0, .int .i64 0, .int .i64 0, .bool false, .int .i64 0, .string ⟨#[]⟩, .int .i64 0, .bool false, .int .i64 0, .string ⟨#[]⟩, .int .i64 0, .int .i64 0] := ⟨_, rfl, (Kp.refl _ _).alloc _, Bx.new w1 _ _⟩
  obtain ⟨qi, hqi⟩ : ∃ q, Hid (w1.heap.size = q) := ⟨_, rfl⟩
  have hne : q ≠ qi := by rw [← hqi.out]; have := bR1.lt (by simp); omega
  have hqiw : w.heap.size ≤ qi := by rw [← hqi.out]; exact kw1.size
  rw [hqi.out] at bI
  have bR2 := bR1.kept k2 (by simp) (bR1.lt (by simp))
  have p0 := bI.get 0 _ rfl; have f0 := bI.free 0
  have p1 := bI.get 1 _ rfl; have f1 := bI.free 1
  have p2 := bI.get 2 _ rfl; have f2 := bI.free 2
  have p3 := bI.get 3 _ rfl; have f3 := bI.free 3
  have p4 := bI.get 4 _ rfl; have f4 := bI.free 4
  have p5 := bI.get 5 _ rfl; have f5 := bI.free 5
  have p6 := bI.get 6 _ rfl; have f6 := bI.free 6
  have p7 := bI.get 7 _ rfl; have f7 := bI.free 7
  have p8 := bI.get 8 _ rfl; have f8 := bI.free 8
  have p9 := bI.get 9 _ rfl; have f9 := bI.free 9
  have p10 := bI.get 10 _ rfl; have f10 := bI.free 10
  have p11 := bI.get 11 _ rfl; have f11 := bI.free 11
  obtain ⟨W, hW, bW, kW⟩ : ∃ Y9, ((((((((((((w2.setCell ⟨qi, 0, none⟩ (.int .i64 K)).setCell ⟨qi, 1, none⟩ (.int .i64 M)).setCell ⟨qi, 2, none⟩ (.int .i64 mk)).setCell ⟨qi, 3, none⟩ (.bool mb)).setCell ⟨qi, 4, none⟩ (.int .i64 mn)).setCell ⟨qi, 5, none⟩ (.string mt)).setCell ⟨qi, 6, none⟩ (.int .i64 xk)).setCell ⟨qi, 7, none⟩ (.bool xb)).setCell ⟨qi, 8, none⟩ (.int .i64 xn)).setCell ⟨qi, 9, none⟩ (.string xt)).setCell ⟨qi, 10, none⟩ (.int .i64 NN)).setCell ⟨qi, 11, none⟩ (.int .i64 BB)) = Y9 ∧ Bx Y9 qi [.int .i64 K, .int .i64 M, .int .i64 mk, .bool mb, .int .i64 mn, .string mt, .int .i64 xk, .bool xb, .int .i64 xn, .string xt, .int .i64 NN, .int .i64 BB] ∧ Kp [qi] w2 Y9 := ⟨_, rfl, gen12q (R := fun Y9 => Bx Y9 qi [.int .i64 K, .int .i64 M, .int .i64 mk, .bool mb, .int .i64 mn, .string mt, .int .i64 xk, .bool xb, .int .i64 xn, .string xt, .int .i64 NN, .int .i64 BB]) bI rfl (.int .i64 K) (.int .i64 M) (.int .i64 mk) (.bool mb) (.int .i64 mn) (.string mt) (.int .i64 xk) (.bool xb) (.int .i64 xn) (.string xt) (.int .i64 NN) (.int .i64 BB) (fun Y9 b _ => b), gen12q (R := fun Y9 => Kp [qi] w2 Y9) bI rfl (.int .i64 K) (.int .i64 M) (.int .i64 mk) (.bool mb) (.int .i64 mn) (.string mt) (.int .i64 xk) (.bool xb) (.int .i64 xn) (.string xt) (.int .i64 NN) (.int .i64 BB) (fun Y9 _ k => k)⟩
  have bRW := bR2.kept kW (by simpa using hne) (bR2.lt (by simp))
  have u0 := bW.get 0 _ rfl
  have u1 := bW.get 1 _ rfl
  have u2 := bW.get 2 _ rfl
  have u3 := bW.get 3 _ rfl
  have u4 := bW.get 4 _ rfl
  have u5 := bW.get 5 _ rfl
  have u6 := bW.get 6 _ rfl
  have u7 := bW.get 7 _ rfl
  have u8 := bW.get 8 _ rfl
  have u9 := bW.get 9 _ rfl
  have u10 := bW.get 10 _ rfl
  have u11 := bW.get 11 _ rfl
  have y0 := bRW.get 0 _ rfl; have z0 := bRW.free 0
  have y1 := bRW.get 1 _ rfl; have z1 := bRW.free 1
  have y2 := bRW.get 2 _ rfl; have z2 := bRW.free 2
  have y3 := bRW.get 3 _ rfl; have z3 := bRW.free 3
  have y4 := bRW.get 4 _ rfl; have z4 := bRW.free 4
  have y5 := bRW.get 5 _ rfl; have z5 := bRW.free 5
  have y6 := bRW.get 6 _ rfl; have z6 := bRW.free 6
  have y7 := bRW.get 7 _ rfl; have z7 := bRW.free 7
  have y8 := bRW.get 8 _ rfl; have z8 := bRW.free 8
  have y9 := bRW.get 9 _ rfl; have z9 := bRW.free 9
  have y10 := bRW.get 10 _ rfl; have z10 := bRW.free 10
  have y11 := bRW.get 11 _ rfl; have z11 := bRW.free 11
  obtain ⟨V, hV, bV, kV⟩ : ∃ Y9, ((((((((((((W.setCell ⟨q, 0, none⟩ (.int .i64 K)).setCell ⟨q, 1, none⟩ (.int .i64 M)).setCell ⟨q, 2, none⟩ (.int .i64 mk)).setCell ⟨q, 3, none⟩ (.bool mb)).setCell ⟨q, 4, none⟩ (.int .i64 mn)).setCell ⟨q, 5, none⟩ (.string mt)).setCell ⟨q, 6, none⟩ (.int .i64 xk)).setCell ⟨q, 7, none⟩ (.bool xb)).setCell ⟨q, 8, none⟩ (.int .i64 xn)).setCell ⟨q, 9, none⟩ (.string xt)).setCell ⟨q, 10, none⟩ (.int .i64 NN)).setCell ⟨q, 11, none⟩ (.int .i64 BB)) = Y9 ∧ Bx Y9 q [.int .i64 K, .int .i64 M, .int .i64 mk, .bool mb, .int .i64 mn, .string mt, .int .i64 xk, .bool xb, .int .i64 xn, .string xt, .int .i64 NN, .int .i64 BB] ∧ Kp [q] W Y9 := ⟨_, rfl, gen12q (R := fun Y9 => Bx Y9 q [.int .i64 K, .int .i64 M, .int .i64 mk, .bool mb, .int .i64 mn, .string mt, .int .i64 xk, .bool xb, .int .i64 xn, .string xt, .int .i64 NN, .int .i64 BB]) bRW rfl (.int .i64 K) (.int .i64 M) (.int .i64 mk) (.bool mb) (.int .i64 mn) (.string mt) (.int .i64 xk) (.bool xb) (.int .i64 xn) (.string xt) (.int .i64 NN) (.int .i64 BB) (fun Y9 b _ => b), gen12q (R := fun Y9 => Kp [q] W Y9) bRW rfl (.int .i64 K) (.int .i64 M) (.int .i64 mk) (.bool mb) (.int .i64 mn) (.string mt) (.int .i64 xk) (.bool xb) (.int .i64 xn) (.string xt) (.int .i64 NN) (.int .i64 BB) (fun Y9 _ k => k)⟩
  have kkV := hid ((((kw1.trans k2 (by simp)).trans kW (fun x hx => .inr (by simp at hx; omega))).trans kV (fun x hx => .inr (by simp at hx; omega))))
  have hV' := hid hV
  have hbV := hid bV
  clear hV
  have hqi' := hqi.out
  clear cT k1 bR1 kw1 k2 bI bR2 kW bW bRW kV bV hbR hkw hw0'
  go_wp2_with fail
  rw [hV'.out]
  have r0 := hbV.out.get 0 _ rfl
  have r1 := hbV.out.get 1 _ rfl
  have r2 := hbV.out.get 2 _ rfl
  have r3 := hbV.out.get 3 _ rfl
  have r4 := hbV.out.get 4 _ rfl
  have r5 := hbV.out.get 5 _ rfl
  have r6 := hbV.out.get 6 _ rfl
  have r7 := hbV.out.get 7 _ rfl
  have r8 := hbV.out.get 8 _ rfl
  have r9 := hbV.out.get 9 _ rfl
  have r10 := hbV.out.get 10 _ rfl
  have r11 := hbV.out.get 11 _ rfl
  refine bodyPost_ret (v := .tuple #[.agg #[.int .i64 K, .int .i64 M, .int .i64 mk, .bool mb, .int .i64 mn, .string mt, .int .i64 xk, .bool xb, .int .i64 xn, .string xt, .int .i64 NN, .int .i64 BB], .int .i64 E]) (by simp [results, Tryz.results6, go_sem, r0, r1, r2, r3, r4, r5, r6, r7, r8, r9, r10, r11]) rfl ⟨rfl, kkV.out⟩
/-- What a call that reads a block hands back. -/
def RdP (r : List Val × Nat × Int) (w : World) (e : Ending) (w' : World) : Prop := ∃ a c, e = .returned (.tuple #[.slice a r.1.length c, .int .i64 r.2.1, .int .i64 r.2.2]) ∧ VE.Row w' (.slice a r.1.length c) r.1 ∧ Kp [] w w' ∧ ∀ k ∈ blk a, w.heap.size ≤ k
theorem rdP_no (n : Int) {w w' : World} (k : Kp [] w w') : RdP ([], 0, n) w (.returned (.tuple #[.slice none 0 0, .int .i64 0, .int .i64 n])) w' := ⟨none, 0, rfl, .inl ⟨rfl, rfl⟩, k, by simp [blk]⟩
theorem take4 (xs : List UInt8) (h : xs.length = 4) : takeS 4 xs 0 = (xs, [], 0) := by
  unfold takeS
  rw [if_neg (by simp), if_neg (by omega), List.take_of_length_le (by omega), List.drop_of_length_le (by omega)]
set_option maxHeartbeats 16000000 in
set_option maxRecDepth 100000 in
theorem bReadN (a : Option Addr) (c : Nat) (bs : List UInt8) (w : World) (hs : Sees w a bs) (hl : bs.length ≤ c) (hm : c ≤ maxLen) (hn : hdR bs = none) :
    Calls Tryz.prog 44 #[.slice a bs.length c] w (RdP ([], 0, 70) w) := by
  have cT := bTakeHead a c bs w hs hl hm
  have hP : hdP bs = (zeroI, 0, 70) := by unfold hdP; rw [hn]
  rw [hP] at cT
  unfold HdP at cT
  rw [zeroI_v] at cT
  clear hs hn hP
  go_enter Tryz.func44, Tryz.ntmps44
  go_wp2_with fail
  refine cT.mono ?_
  rintro e w1 ⟨rfl, k1⟩
  obtain ⟨w2, hw2, k2, bI⟩ : ∃ w2, w1.alloc (.cells #[.int .i64 0, .int .i64 0, .int .i64 0, .bool false, .int .i64 0, .string ⟨#[]⟩, .int .i64 0, .bool false, .int .i64 0, .string ⟨#[]⟩, .int .i64 0, .int .i64 0] 35) = w2 ∧ Kp [] w1 w2 ∧ Bx w2 w1.heap.size [.int .i64 0, .int .i64 0, .int .i64 0, .bool false, .int .i64 0, .string ⟨#[]⟩, .int .i64 0, .bool false, .int .i64 0, .string ⟨#[]⟩, .int .i64 0, .int .i64 0] := ⟨_, rfl, (Kp.refl _ _).alloc _, Bx.new w1 _ _⟩
  obtain ⟨qi, hqi⟩ : ∃ q, Hid (w1.heap.size = q) := ⟨_, rfl⟩
  have hqiw : w.heap.size ≤ qi := by rw [← hqi.out]; exact k1.size
  rw [hqi.out] at bI
  have p0 := bI.get 0 _ rfl; have f0 := bI.free 0
  have p1 := bI.get 1 _ rfl; have f1 := bI.free 1
  have p2 := bI.get 2 _ rfl; have f2 := bI.free 2
  have p3 := bI.get 3 _ rfl; have f3 := bI.free 3
  have p4 := bI.get 4 _ rfl; have f4 := bI.free 4
  have p5 := bI.get 5 _ rfl; have f5 := bI.free 5
  have p6 := bI.get 6 _ rfl; have f6 := bI.free 6
  have p7 := bI.get 7 _ rfl; have f7 := bI.free 7
  have p8 := bI.get 8 _ rfl; have f8 := bI.free 8
  have p9 := bI.get 9 _ rfl; have f9 := bI.free 9
  have p10 := bI.get 10 _ rfl; have f10 := bI.free 10
  have p11 := bI.get 11 _ rfl; have f11 := bI.free 11
  obtain ⟨W, hW, bW, kW⟩ : ∃ Y9, ((((((((((((w2.setCell ⟨qi, 0, none⟩ (.int .i64 0)).setCell ⟨qi, 1, none⟩ (.int .i64 0)).setCell ⟨qi, 2, none⟩ (.int .i64 0)).setCell ⟨qi, 3, none⟩ (.bool false)).setCell ⟨qi, 4, none⟩ (.int .i64 0)).setCell ⟨qi, 5, none⟩ (.string ⟨#[]⟩)).setCell ⟨qi, 6, none⟩ (.int .i64 0)).setCell ⟨qi, 7, none⟩ (.bool false)).setCell ⟨qi, 8, none⟩ (.int .i64 0)).setCell ⟨qi, 9, none⟩ (.string ⟨#[]⟩)).setCell ⟨qi, 10, none⟩ (.int .i64 0)).setCell ⟨qi, 11, none⟩ (.int .i64 0)) = Y9 ∧ Bx Y9 qi [.int .i64 0, .int .i64 0, .int .i64 0, .bool false, .int .i64 0, .string ⟨#[]⟩, .int .i64 0, .bool false, .int .i64 0, .string ⟨#[]⟩, .int .i64 0, .int .i64 0] ∧ Kp [qi] w2 Y9 := ⟨_, rfl, gen12q (R := fun Y9 => Bx Y9 qi [.int .i64 0, .int .i64 0, .int .i64 0, .bool false, .int .i64 0, .string ⟨#[]⟩, .int .i64 0, .bool false, .int .i64 0, .string ⟨#[]⟩, .int .i64 0, .int .i64 0]) bI rfl (.int .i64 0) (.int .i64 0) (.int .i64 0) (.bool false) (.int .i64 0) (.string ⟨#[]⟩) (.int .i64 0) (.bool false) (.int .i64 0) (.string ⟨#[]⟩) (.int .i64 0) (.int .i64 0) (fun Y9 b _ => b), gen12q (R := fun Y9 => Kp [qi] w2 Y9) bI rfl (.int .i64 0) (.int .i64 0) (.int .i64 0) (.bool false) (.int .i64 0) (.string ⟨#[]⟩) (.int .i64 0) (.bool false) (.int .i64 0) (.string ⟨#[]⟩) (.int .i64 0) (.int .i64 0) (fun Y9 _ k => k)⟩
  have kkW := hid ((k1.trans k2 (by simp)).trans kW (fun x hx => .inr (by simp at hx; omega)))
  have hqi' := hqi.out
  clear cT k1 k2 bI kW bW
  go_wp2_with fail
  go_ret3
  exact rdP_no 70 kkW.out
set_option maxHeartbeats 32000000 in
set_option maxRecDepth 100000 in
theorem bReadS (a : Option Addr) (c : Nat) (bs : List UInt8) (w : World) (ht0 : Tab w) (hs : Sees w a bs) (hl : bs.length ≤ c) (hm : c ≤ maxLen) (hb : bs.length ≤ 200000000000000)
    (K : Int) (M s n B : Nat) (mk : Int) (mb : Bool) (mn : Int) (mt : ByteArray) (xk : Int) (xb : Bool) (xn : Int) (xt : ByteArray) (NN : Int)
    (hn : hdR bs = some (⟨K, (M : Int), ⟨mk, mb, mn, mt⟩, ⟨xk, xb, xn, xt⟩, NN, (B : Int)⟩, s)) (hB : n + 4 = B) (hBl : B ≤ bs.length) (hsn : s ≤ n) (hs0 : 0 < s) (hM0 : 0 < M) (hM : M ≤ 64) :
    Calls Tryz.prog 44 #[.slice a bs.length c] w (RdP (rdR bs) w) := by
  have cT := bTakeHead a c bs w hs hl hm
  have hP : hdP bs = (⟨K, (M : Int), ⟨mk, mb, mn, mt⟩, ⟨xk, xb, xn, xt⟩, NN, (B : Int)⟩, s, 0) := by unfold hdP; rw [hn]
  rw [hP] at cT
  unfold HdP Inf.v Inf.cs at cT
  dsimp only at cT
  have hrd : Hid (rdR bs = if num ((bs.drop n).take 4) ≠ crc (bs.take n) then ([], 0, 71) else if (decA K ((bs.take n).drop s) M).2 = 0 ∧ tellB ⟨K, (M : Int), ⟨mk, mb, mn, mt⟩, ⟨xk, xb, xn, xt⟩, NN, (B : Int)⟩ (decA K ((bs.take n).drop s) M).1 = true then ((decA K ((bs.take n).drop s) M).1, B, 0) else ([], 0, 70)) := by
    show _ = _
    unfold rdR
    rw [hn]
    dsimp only
    rw [Int.toNat_natCast, Int.toNat_natCast, show B - 4 = n by omega]
  obtain ⟨g, o, rfl, hc⟩ : ∃ g o, a = some ⟨g, o, none⟩ ∧ ∀ j u, bs[j]? = some u → w.cell? ⟨g, o + j, none⟩ = some (.int .u8 u.toNat) := by
    rcases hs with h | h
    · rw [h] at hBl; simp at hBl; omega
    · exact h
  have hs' : Sees w (some ⟨g, o, none⟩) bs := .inr ⟨g, o, rfl, hc⟩
  have s4 : Sees w (some ⟨g, o + n, none⟩) ((bs.drop n).take 4) := by have := (hs'.tail n).front 4; simpa [Addr.add_lit] using this
  have l4 : ((bs.drop n).take 4).length = 4 := by rw [List.length_take, List.length_drop]; omega
  have sn : Sees w (some ⟨g, o, none⟩) (bs.take n) := hs'.front n
  have ln : (bs.take n).length = n := by rw [List.length_take]; omega
  have sD : Sees w (some ⟨g, o + s, none⟩) ((bs.take n).drop s) := by have := sn.tail s; simpa [Addr.add_lit] using this
  have lD : ((bs.take n).drop s).length = n - s := by rw [List.length_drop, ln]
  have hcR : Hid (∀ W, Kp [] w W → Calls Tryz.prog 37 #[.slice (some ⟨g, o + n, none⟩) 4 (c - n)] W fun e w' => ∃ p D, e = .returned (.pointer (some ⟨p, 0, none⟩)) ∧ Rd w' p D ((bs.drop n).take 4) 0 ∧ Kp [] W w' ∧ W.heap.size ≤ p ∧ ∀ k ∈ D, W.heap.size ≤ k) := fun W kW => rRead (some ⟨g, o + n, none⟩) 4 (c - n) ((bs.drop n).take 4) W (s4.kept kW (by simp)) l4.symm (by omega)
  have hcS : Hid (∀ W, Kp [] w W → Calls Tryz.prog 16 #[.slice (some ⟨g, o, none⟩) n c] W fun e w' => e = .returned (.int .u32 (crc (bs.take n))) ∧ w' = W) := fun W kW => cSum (some ⟨g, o, none⟩) n c (bs.take n) W (ht0.kept kW (by simp)) (sn.kept kW (by simp)) ln.symm (by omega)
  have hcD : Hid (∀ W, Kp [] w W → Calls Tryz.prog 70 #[.int .i64 K, .slice (some ⟨g, o + s, none⟩) (n - s) (c - s), .int .i64 (M : Int)] W (DecP W (decA K ((bs.take n).drop s) M))) := fun W kW => by
    have := cDecA K (some ⟨g, o + s, none⟩) (c - s) ((bs.take n).drop s) M W (sD.kept kW (by simp)) (by rw [lD]; omega) (by omega) (by rw [lD]; omega) (by omega)
    rwa [lD] at this
  have hw4 : Hid (∀ p D W, Rd W p D ((bs.drop n).take 4) 0 → Calls Tryz.prog 69 #[.pointer (some ⟨p, 0, none⟩)] W fun e w' => e = .returned (.int .u32 (num ((bs.drop n).take 4))) ∧ Kp [p] W w') := fun p D W hr => (rWord p D _ 0 W hr).mono fun e w' ⟨out, b2, e2, h1, h2, h3, h4⟩ => by
    rw [take4 _ l4] at h1
    injection h1 with h1 h5
    subst h1
    exact ⟨h2, h4⟩
  have hMn : Hid (∀ l, (decA K ((bs.take n).drop s) M).2 = 0 → (decA K ((bs.take n).drop s) M).1 = l → l.length = M) := fun l h1 h2 => by
    subst h2
    unfold decA at h1 ⊢
    split at h1
    · simp at h1
    · split at h1
      · simp at h1
      · unfold decE at h1 ⊢
        split at h1
        · rename_i q1 q2 q3
          rw [if_neg q1, if_neg q2, if_pos q3]
          exact q3.2.1
        · simp at h1
  obtain ⟨N4, hN4⟩ : ∃ x : Nat, Hid (num ((bs.drop n).take 4) = x) := ⟨_, rfl⟩
  obtain ⟨CR, hCR⟩ : ∃ x : Nat, Hid (crc (bs.take n) = x) := ⟨_, rfl⟩
  simp only [hN4.out] at hw4
  simp only [hCR.out] at hcS
  rw [hN4.out, hCR.out] at hrd
  obtain ⟨⟨L, DE⟩, hDD⟩ : ∃ r, Hid (decA K ((bs.take n).drop s) M = r) := ⟨_, rfl⟩
  simp only [hDD.out] at hcD hMn hrd
  unfold DecP at hcD
  dsimp only at hcD hMn hrd
  have hrw : Hid (∀ W p D, Rd W p D ((bs.drop n).take 4) 0 → True) := fun _ _ _ _ => trivial
  obtain ⟨X4, hX4⟩ : ∃ X, Hid ((bs.drop n).take 4 = X) := ⟨_, rfl⟩
  simp only [hX4.out] at hcR hw4
  have ht := hid ht0
  unfold maxLen at hm
  clear hs hs' hc s4 sn sD l4 ln lD hn hP ht0 hrw hN4 hCR hDD hX4
  go_enter Tryz.func44, Tryz.ntmps44
  go_wp2_with fail
  refine cT.mono ?_
  rintro e w1 ⟨rfl, k1⟩
  obtain ⟨w2, hw2, k2, bI⟩ : ∃ w2, w1.alloc (.cells #[.int .i64 0, .int .i64 0, .int .i64 0, .bool false, .int .i64 0, .string ⟨#[]⟩, .int .i64 0, .bool false, .int .i64 0, .string ⟨#[]⟩, .int .i64 0, .int .i64 0] 35) = w2 ∧ Kp [] w1 w2 ∧ Bx w2 w1.heap.size [.int .i64 0, .int .i64 0, .int .i64 0, .bool false, .int .i64 0, .string ⟨#[]⟩, .int .i64 0, .bool false, .int .i64 0, .string ⟨#[]⟩, .int .i64 0, .int .i64 0] := ⟨_, rfl, (Kp.refl _ _).alloc _, Bx.new w1 _ _⟩
  obtain ⟨qi, hqi⟩ : ∃ q, Hid (w1.heap.size = q) := ⟨_, rfl⟩
  have hqiw : w.heap.size ≤ qi := by rw [← hqi.out]; exact k1.size
  rw [hqi.out] at bI
  have p0 := bI.get 0 _ rfl; have f0 := bI.free 0
  have p1 := bI.get 1 _ rfl; have f1 := bI.free 1
  have p2 := bI.get 2 _ rfl; have f2 := bI.free 2
  have p3 := bI.get 3 _ rfl; have f3 := bI.free 3
  have p4 := bI.get 4 _ rfl; have f4 := bI.free 4
  have p5 := bI.get 5 _ rfl; have f5 := bI.free 5
  have p6 := bI.get 6 _ rfl; have f6 := bI.free 6
  have p7 := bI.get 7 _ rfl; have f7 := bI.free 7
  have p8 := bI.get 8 _ rfl; have f8 := bI.free 8
  have p9 := bI.get 9 _ rfl; have f9 := bI.free 9
  have p10 := bI.get 10 _ rfl; have f10 := bI.free 10
  have p11 := bI.get 11 _ rfl; have f11 := bI.free 11
  obtain ⟨W, hW, bW, kW⟩ : ∃ Y9, ((((((((((((w2.setCell ⟨qi, 0, none⟩ (.int .i64 K)).setCell ⟨qi, 1, none⟩ (.int .i64 (M : Int))).setCell ⟨qi, 2, none⟩ (.int .i64 mk)).setCell ⟨qi, 3, none⟩ (.bool mb)).setCell ⟨qi, 4, none⟩ (.int .i64 mn)).setCell ⟨qi, 5, none⟩ (.string mt)).setCell ⟨qi, 6, none⟩ (.int .i64 xk)).setCell ⟨qi, 7, none⟩ (.bool xb)).setCell ⟨qi, 8, none⟩ (.int .i64 xn)).setCell ⟨qi, 9, none⟩ (.string xt)).setCell ⟨qi, 10, none⟩ (.int .i64 NN)).setCell ⟨qi, 11, none⟩ (.int .i64 (B : Int))) = Y9 ∧ Bx Y9 qi [.int .i64 K, .int .i64 (M : Int), .int .i64 mk, .bool mb, .int .i64 mn, .string mt, .int .i64 xk, .bool xb, .int .i64 xn, .string xt, .int .i64 NN, .int .i64 (B : Int)] ∧ Kp [qi] w2 Y9 := ⟨_, rfl, gen12q (R := fun Y9 => Bx Y9 qi [.int .i64 K, .int .i64 (M : Int), .int .i64 mk, .bool mb, .int .i64 mn, .string mt, .int .i64 xk, .bool xb, .int .i64 xn, .string xt, .int .i64 NN, .int .i64 (B : Int)]) bI rfl (.int .i64 K) (.int .i64 (M : Int)) (.int .i64 mk) (.bool mb) (.int .i64 mn) (.string mt) (.int .i64 xk) (.bool xb) (.int .i64 xn) (.string xt) (.int .i64 NN) (.int .i64 (B : Int)) (fun Y9 b _ => b), gen12q (R := fun Y9 => Kp [qi] w2 Y9) bI rfl (.int .i64 K) (.int .i64 (M : Int)) (.int .i64 mk) (.bool mb) (.int .i64 mn) (.string mt) (.int .i64 xk) (.bool xb) (.int .i64 xn) (.string xt) (.int .i64 NN) (.int .i64 (B : Int)) (fun Y9 _ k => k)⟩
  have kkW := hid ((k1.trans k2 (by simp)).trans kW (fun x hx => .inr (by simp at hx; omega)))
  have hbW := hid bW
  have u11 := bW.get 11 _ rfl
  have hqi' := hqi.out
  have hB4 : (B : Int) - 4 = (n : Int) := by omega
  clear cT k1 k2 bI kW bW
  go_wp2_with fail
  clear p0 f0 p1 f1 p2 f2 p3 f3 p4 f4 p5 f5 p6 f6 p7 f7 p8 f8 p9 f9 p10 f10 p11 f11 hW hqi' hw2 hB4 u11
  have kd : Kp [] W W.drew := (Kp.refl _ _).drew
  have hS : Hid (∀ A, Kp [] W A → A.cell? ⟨qi, 11, none⟩ = some (.int .i64 (B : Int))) := fun A kA => (hbW.out.kept kA (by simp) (hbW.out.lt (by simp))).get 11 _ rfl
  refine wp_region_held_drew (S := (fun A => A.cell? ⟨qi, 11, none⟩ = some (.int .i64 (B : Int)))) (by kernel_rfl) ?_ (fun hHeld => ?_)
  · exact hS.out _ kd
  have kwd := hid (kkW.out.trans kd (by simp))
  have hWd : Hid (Kp [] W W.drew) := kd
  clear kd
  generalize W.drew = wd at *
  have y1 : (0 : Int) ≤ (n : Int) := by omega
  have y2 : (n : Int) ≤ (B : Int) := by omega
  have y3 : (B : Int) ≤ (c : Int) := by omega
  have y4 : n ≤ B := by omega
  have y5 : B ≤ c := by omega
  have y6 : n < c := by omega
  have y7 : (n : Int) ≤ (c : Int) := by omega
  have y8 : B - n = 4 := by omega
  have y9 : n ≠ c := by omega
  have y10 : n ≤ c := by omega
  have y11 : c ≠ n := by omega
  refine wpAnyH_take (i := 0) (v := ?_) rfl (by kernel_rfl) (by kernel_rfl) (by kernel_rfl) (fun _ _ _ h => h) (Or.inl ⟨by rfl, ?_⟩) (by assumption) ?_
  rotate_left
  · intro w hSw; (try dsimp only at hSw); go_simp <;> with_reducible rfl
  try simp only [Act.put, List.getElem_toArray, List.getElem_cons_zero, List.getElem_cons_succ, List.setIfInBounds_toArray, List.set_cons_zero, List.set_cons_succ]
  refine wpAnyH_take (i := 1) (v := ?_) rfl (by kernel_rfl) (by kernel_rfl) (by kernel_rfl) (fun _ _ _ h => h) (Or.inl ⟨by rfl, ?_⟩) (by assumption) ?_
  rotate_left
  · intro w hSw; (try dsimp only at hSw); go_simp <;> with_reducible rfl
  try simp only [Act.put, List.getElem_toArray, List.getElem_cons_zero, List.getElem_cons_succ, List.setIfInBounds_toArray, List.set_cons_zero, List.set_cons_succ]
  refine wpAnyH_take (i := 2) (v := ?_) rfl (by kernel_rfl) (by kernel_rfl) (by kernel_rfl) (fun _ _ _ h => h) (Or.inl ⟨by rfl, ?_⟩) (by assumption) ?_
  rotate_left
  · intro w hSw; (try dsimp only at hSw); go_simp <;> with_reducible rfl
  try simp only [Act.put, List.getElem_toArray, List.getElem_cons_zero, List.getElem_cons_succ, List.setIfInBounds_toArray, List.set_cons_zero, List.set_cons_succ]
  refine wpAnyH_take (i := 3) (v := ?_) rfl (by kernel_rfl) (by kernel_rfl) (by kernel_rfl) (fun _ _ _ h => h) (Or.inl ⟨by rfl, ?_⟩) (by assumption) ?_
  rotate_left
  · intro w hSw; (try dsimp only at hSw); go_simp <;> with_reducible rfl
  try simp only [Act.put, List.getElem_toArray, List.getElem_cons_zero, List.getElem_cons_succ, List.setIfInBounds_toArray, List.set_cons_zero, List.set_cons_succ]
  refine wpAnyH_take (i := 4) (v := ?_) rfl (by kernel_rfl) (by kernel_rfl) (by kernel_rfl) (fun _ _ _ h => h) (Or.inl ⟨by rfl, ?_⟩) (by assumption) ?_
  rotate_left
  · intro w hSw; (try dsimp only at hSw); go_simp <;> with_reducible rfl
  try simp only [Act.put, List.getElem_toArray, List.getElem_cons_zero, List.getElem_cons_succ, List.setIfInBounds_toArray, List.set_cons_zero, List.set_cons_succ]
  refine wpAnyH_take (i := 7) (v := ?_) rfl (by kernel_rfl) (by kernel_rfl) (by kernel_rfl) (fun _ _ _ h => h) (Or.inl ⟨by rfl, ?_⟩) (by assumption) ?_
  rotate_left
  · intro w hSw; (try dsimp only at hSw); go_simp <;> with_reducible rfl
  try simp only [Act.put, List.getElem_toArray, List.getElem_cons_zero, List.getElem_cons_succ, List.setIfInBounds_toArray, List.set_cons_zero, List.set_cons_succ]
  refine wpAnyH_take (i := 8) (v := ?_) rfl (by kernel_rfl) (by kernel_rfl) (by kernel_rfl) (fun _ _ _ h => h) (Or.inl ⟨by rfl, ?_⟩) (by assumption) ?_
  rotate_left
  · intro w hSw; (try dsimp only at hSw); go_simp <;> with_reducible rfl
  try simp only [Act.put, List.getElem_toArray, List.getElem_cons_zero, List.getElem_cons_succ, List.setIfInBounds_toArray, List.set_cons_zero, List.set_cons_succ]
  refine wpAnyH_take (i := 9) (v := ?_) rfl (by kernel_rfl) (by kernel_rfl) (by kernel_rfl) (fun _ _ _ h => h) (Or.inl ⟨by rfl, ?_⟩) (by assumption) ?_
  rotate_left
  · intro w hSw; (try dsimp only at hSw); go_simp <;> with_reducible rfl
  try simp only [Act.put, List.getElem_toArray, List.getElem_cons_zero, List.getElem_cons_succ, List.setIfInBounds_toArray, List.set_cons_zero, List.set_cons_succ]
  refine wpAnyH_ready (rs := [5]) (by kernel_rfl) (by simp) ?_
  refine AllReadyH.cons rfl (fun K hK => ?_) AllReadyH.nil
  go_simp
  refine (hcR.out wd kwd.out).mono ?_
  rintro e w5 ⟨p, D, rfl, hr5, k5, hp5, hD5⟩
  (try go_wp2_with fail)
  refine hK.out _ _ ?_ (fun hHeld => ?_)
  · exact hS.out _ (hWd.out.trans k5 (by simp))
  clear hK K
  try simp only [Act.put, List.getElem_toArray, List.getElem_cons_zero, List.getElem_cons_succ, List.setIfInBounds_toArray, List.set_cons_zero, List.set_cons_succ]
  have kw5 := hid (kwd.out.trans k5 (by simp))
  have kW5 := hid (hWd.out.trans k5 (by simp))
  have hr5' := hid hr5
  have hpw5 : w.heap.size ≤ p := Nat.le_trans kwd.out.size hp5
  have hpq : qi ≠ p := by have := hbW.out.lt (by simp); have := hWd.out.size; omega
  clear hr5 k5 hp5 hD5
  refine wpAnyH_ready (rs := [6]) (by kernel_rfl) (by simp) ?_
  refine AllReadyH.cons rfl (fun K hK => ?_) AllReadyH.nil
  go_simp
  refine (hw4.out p D w5 hr5'.out).mono ?_
  rintro e w6 ⟨rfl, k6⟩
  (try go_wp2_with fail)
  refine hK.out _ _ ?_ (fun hHeld => ?_)
  · exact ((hbW.out.kept kW5.out (by simp) (hbW.out.lt (by simp))).kept k6 (by simpa using hpq) (by have := hbW.out.lt (by simp); have := kW5.out.size; omega)).get 11 _ rfl
  clear hK K
  try simp only [Act.put, List.getElem_toArray, List.getElem_cons_zero, List.getElem_cons_succ, List.setIfInBounds_toArray, List.set_cons_zero, List.set_cons_succ]
  have kw6 := hid (kw5.out.trans k6 (fun x hx => .inr (by simp at hx; omega)))
  have b6 := hid ((hbW.out.kept kW5.out (by simp) (hbW.out.lt (by simp))).kept k6 (by simpa using hpq) (by have := hbW.out.lt (by simp); have := kW5.out.size; omega))
  clear k6
  refine wpAnyH_ready (rs := [10]) (by kernel_rfl) (by simp) ?_
  refine AllReadyH.cons rfl (fun K hK => ?_) AllReadyH.nil
  go_simp
  refine (hcS.out w6 kw6.out).mono ?_
  rintro e w7 ⟨rfl, hw7⟩
  rw [hw7]
  (try go_wp2_with fail)
  refine hK.out _ _ ?_ (fun hHeld => ?_)
  · exact b6.out.get 11 _ rfl
  clear hK K
  try simp only [Act.put, List.getElem_toArray, List.getElem_cons_zero, List.getElem_cons_succ, List.setIfInBounds_toArray, List.set_cons_zero, List.set_cons_succ]
  refine wpAnyH_take (i := 11) (v := ?_) rfl (by kernel_rfl) (by kernel_rfl) (by kernel_rfl) (fun _ _ _ h => h) (Or.inl ⟨by rfl, ?_⟩) (by assumption) ?_
  rotate_left
  · intro w hSw; (try dsimp only at hSw); go_simp <;> with_reducible rfl
  try simp only [Act.put, List.getElem_toArray, List.getElem_cons_zero, List.getElem_cons_succ, List.setIfInBounds_toArray, List.set_cons_zero, List.set_cons_succ]
  refine wpAnyH_done (by kernel_rfl) ?_ _
  clear hHeld y2 y3 y4 y5 y8 hS hcR hw4 hcS
  by_cases hne : N4 = CR
  · have d1 : ((N4 : Int) != (CR : Int)) = false := by simp [hne]
    have hrd2 : Hid (rdR bs = if DE = 0 ∧ tellB ⟨K, (M : Int), ⟨mk, mb, mn, mt⟩, ⟨xk, xb, xn, xt⟩, NN, (B : Int)⟩ L = true then (L, B, 0) else ([], 0, 70)) := by show _ = _; rw [hrd.out, if_neg (by simp [hne])]
    clear hrd hne
    have u0 := b6.out.get 0 _ rfl
    have u1 := b6.out.get 1 _ rfl
    go_wp2_with fail
    have kd : Kp [] w6 w6.drew := (Kp.refl _ _).drew
    have hS : Hid (∀ A, Kp [] w6 A → (A.cell? ⟨qi, 0, none⟩ = some (.int .i64 K) ∧ A.cell? ⟨qi, 1, none⟩ = some (.int .i64 (M : Int)))) := fun A kA => ⟨(b6.out.kept kA (by simp) (b6.out.lt (by simp))).get 0 _ rfl, (b6.out.kept kA (by simp) (b6.out.lt (by simp))).get 1 _ rfl⟩
    refine wp_region_held_drew (S := (fun A => (A.cell? ⟨qi, 0, none⟩ = some (.int .i64 K) ∧ A.cell? ⟨qi, 1, none⟩ = some (.int .i64 (M : Int))))) (by kernel_rfl) ?_ (fun hHeld => ?_)
    · exact hS.out _ kd
    have kwd6 := hid (kw6.out.trans kd (by simp))
    have hWd6 : Hid (Kp [] w6 w6.drew) := kd
    clear kd u0 u1 hHeld
    generalize w6.drew = wd6 at *
    have hHeld := hS.out _ hWd6.out
    have v1 : (0 : Int) ≤ (s : Int) := by omega
    have v2 : (s : Int) ≤ (n : Int) := by omega
    have v3 : s ≤ n := by omega
    have v4 : s < c := by omega
    have v5 : s ≠ c := by omega
    have v6 : s ≤ c := by omega
    have v9 : c ≠ s := by omega
    have v7 : (s : Int) ≤ (c : Int) := by omega
    have v8 : (n : Int) - (s : Int) = ((n - s : Nat) : Int) := by omega
    refine wpAnyH_take (i := 0) (v := ?_) rfl (by kernel_rfl) (by kernel_rfl) (by kernel_rfl) (fun _ _ _ h => h) (Or.inl ⟨by rfl, ?_⟩) (by assumption) ?_
    rotate_left
    · intro w hSw; (try dsimp only at hSw); go_simp <;> with_reducible rfl
    try simp only [Act.put, List.getElem_toArray, List.getElem_cons_zero, List.getElem_cons_succ, List.setIfInBounds_toArray, List.set_cons_zero, List.set_cons_succ]
    refine wpAnyH_take (i := 1) (v := ?_) rfl (by kernel_rfl) (by kernel_rfl) (by kernel_rfl) (fun _ _ _ h => h) (Or.inl ⟨by rfl, ?_⟩) (by assumption) ?_
    rotate_left
    · intro w hSw; (try dsimp only at hSw); go_simp <;> with_reducible rfl
    try simp only [Act.put, List.getElem_toArray, List.getElem_cons_zero, List.getElem_cons_succ, List.setIfInBounds_toArray, List.set_cons_zero, List.set_cons_succ]
    refine wpAnyH_take (i := 2) (v := ?_) rfl (by kernel_rfl) (by kernel_rfl) (by kernel_rfl) (fun _ _ _ h => h) (Or.inl ⟨by rfl, ?_⟩) (by assumption) ?_
    rotate_left
    · intro w hSw; (try dsimp only at hSw); go_simp <;> with_reducible rfl
    try simp only [Act.put, List.getElem_toArray, List.getElem_cons_zero, List.getElem_cons_succ, List.setIfInBounds_toArray, List.set_cons_zero, List.set_cons_succ]
    refine wpAnyH_take (i := 3) (v := ?_) rfl (by kernel_rfl) (by kernel_rfl) (by kernel_rfl) (fun _ _ _ h => h) (Or.inl ⟨by rfl, ?_⟩) (by assumption) ?_
    rotate_left
    · intro w hSw; (try dsimp only at hSw); go_simp <;> with_reducible rfl
    try simp only [Act.put, List.getElem_toArray, List.getElem_cons_zero, List.getElem_cons_succ, List.setIfInBounds_toArray, List.set_cons_zero, List.set_cons_succ]
    refine wpAnyH_take (i := 4) (v := ?_) rfl (by kernel_rfl) (by kernel_rfl) (by kernel_rfl) (fun _ _ _ h => h) (Or.inl ⟨by rfl, ?_⟩) (by assumption) ?_
    rotate_left
    · intro w hSw; (try dsimp only at hSw); go_simp <;> with_reducible rfl
    try simp only [Act.put, List.getElem_toArray, List.getElem_cons_zero, List.getElem_cons_succ, List.setIfInBounds_toArray, List.set_cons_zero, List.set_cons_succ]
    refine wpAnyH_take (i := 5) (v := ?_) rfl (by kernel_rfl) (by kernel_rfl) (by kernel_rfl) (fun _ _ _ h => h) (Or.inl ⟨by rfl, ?_⟩) (by assumption) ?_
    rotate_left
    · intro w hSw; (try dsimp only at hSw); go_simp <;> with_reducible rfl
    try simp only [Act.put, List.getElem_toArray, List.getElem_cons_zero, List.getElem_cons_succ, List.setIfInBounds_toArray, List.set_cons_zero, List.set_cons_succ]
    refine wpAnyH_take (i := 6) (v := ?_) rfl (by kernel_rfl) (by kernel_rfl) (by kernel_rfl) (fun _ _ _ h => h) (Or.inl ⟨by rfl, ?_⟩) (by assumption) ?_
    rotate_left
    · intro w hSw; (try dsimp only at hSw); go_simp <;> with_reducible rfl
    try simp only [Act.put, List.getElem_toArray, List.getElem_cons_zero, List.getElem_cons_succ, List.setIfInBounds_toArray, List.set_cons_zero, List.set_cons_succ]
    refine wpAnyH_take (i := 7) (v := ?_) rfl (by kernel_rfl) (by kernel_rfl) (by kernel_rfl) (fun _ _ _ h => h) (Or.inl ⟨by rfl, ?_⟩) (by assumption) ?_
    rotate_left
    · intro w hSw; (try dsimp only at hSw); go_simp <;> with_reducible rfl
    try simp only [Act.put, List.getElem_toArray, List.getElem_cons_zero, List.getElem_cons_succ, List.setIfInBounds_toArray, List.set_cons_zero, List.set_cons_succ]
    refine wpAnyH_ready (rs := [8]) (by kernel_rfl) (by simp) ?_
    refine AllReadyH.cons rfl (fun K hK => ?_) AllReadyH.nil
    go_simp
    refine (hcD.out wd6 kwd6.out).mono ?_
    rintro e w8 ⟨a8, c8, rfl, hrow8, k8, hn8⟩
    (try go_wp2_with fail)
    refine hK.out _ _ ?_ (fun hHeld => ?_)
    · exact hS.out _ (hWd6.out.trans k8 (by simp))
    clear hK K
    try simp only [Act.put, List.getElem_toArray, List.getElem_cons_zero, List.getElem_cons_succ, List.setIfInBounds_toArray, List.set_cons_zero, List.set_cons_succ]
    have kw8 := hid (kwd6.out.trans k8 (by simp))
    have b8 := hid (b6.out.kept (hWd6.out.trans k8 (by simp)) (by simp) (b6.out.lt (by simp)))
    have hr8 := hid (And.intro hrow8 hn8)
    clear hrow8 hn8 k8
    refine wpAnyH_take (i := 9) (v := ?_) rfl (by kernel_rfl) (by kernel_rfl) (by kernel_rfl) (fun _ _ _ h => h) (Or.inl ⟨by rfl, ?_⟩) (by assumption) ?_
    rotate_left
    · intro w hSw; (try dsimp only at hSw); go_simp <;> with_reducible rfl
    try simp only [Act.put, List.getElem_toArray, List.getElem_cons_zero, List.getElem_cons_succ, List.setIfInBounds_toArray, List.set_cons_zero, List.set_cons_succ]
    refine wpAnyH_take (i := 10) (v := ?_) rfl (by kernel_rfl) (by kernel_rfl) (by kernel_rfl) (fun _ _ _ h => h) (Or.inl ⟨by rfl, ?_⟩) (by assumption) ?_
    rotate_left
    · intro w hSw; (try dsimp only at hSw); go_simp <;> with_reducible rfl
    try simp only [Act.put, List.getElem_toArray, List.getElem_cons_zero, List.getElem_cons_succ, List.setIfInBounds_toArray, List.set_cons_zero, List.set_cons_succ]
    refine wpAnyH_take (i := 11) (v := ?_) rfl (by kernel_rfl) (by kernel_rfl) (by kernel_rfl) (fun _ _ _ h => h) (Or.inl ⟨by rfl, ?_⟩) (by assumption) ?_
    rotate_left
    · intro w hSw; (try dsimp only at hSw); go_simp <;> with_reducible rfl
    try simp only [Act.put, List.getElem_toArray, List.getElem_cons_zero, List.getElem_cons_succ, List.setIfInBounds_toArray, List.set_cons_zero, List.set_cons_succ]
    refine wpAnyH_take (i := 12) (v := ?_) rfl (by kernel_rfl) (by kernel_rfl) (by kernel_rfl) (fun _ _ _ h => h) (Or.inl ⟨by rfl, ?_⟩) (by assumption) ?_
    rotate_left
    · intro w hSw; (try dsimp only at hSw); go_simp <;> with_reducible rfl
    try simp only [Act.put, List.getElem_toArray, List.getElem_cons_zero, List.getElem_cons_succ, List.setIfInBounds_toArray, List.set_cons_zero, List.set_cons_succ]
    refine wpAnyH_take (i := 13) (v := ?_) rfl (by kernel_rfl) (by kernel_rfl) (by kernel_rfl) (fun _ _ _ h => h) (Or.inl ⟨by rfl, ?_⟩) (by assumption) ?_
    rotate_left
    · intro w hSw; (try dsimp only at hSw); go_simp <;> with_reducible rfl
    try simp only [Act.put, List.getElem_toArray, List.getElem_cons_zero, List.getElem_cons_succ, List.setIfInBounds_toArray, List.set_cons_zero, List.set_cons_succ]
    refine wpAnyH_done (by kernel_rfl) ?_ _
    clear hS v1 v2 v3 v4 v5 v6 v7 v8 hcD
    by_cases hDE : DE = 0
    · subst hDE
      have hLM := hMn.out L rfl rfl
      obtain ⟨hv8, hl8, hm8⟩ := rowVals hr8.out.1
      have cL := bTells ⟨K, (M : Int), ⟨mk, mb, mn, mt⟩, ⟨xk, xb, xn, xt⟩, NN, (B : Int)⟩ a8 c8 L w8 hv8 (by omega) (by omega)
      obtain ⟨TB, hTB⟩ : ∃ T9, Hid (tellB ⟨K, (M : Int), ⟨mk, mb, mn, mt⟩, ⟨xk, xb, xn, xt⟩, NN, (B : Int)⟩ L = T9) := ⟨_, rfl⟩
      rw [hTB.out] at cL hrd2
      unfold Inf.v Inf.cs at cL
      dsimp only at cL
      have u0 := b8.out.get 0 _ rfl
      have u1 := b8.out.get 1 _ rfl
      have u2 := b8.out.get 2 _ rfl
      have u3 := b8.out.get 3 _ rfl
      have u4 := b8.out.get 4 _ rfl
      have u5 := b8.out.get 5 _ rfl
      have u6 := b8.out.get 6 _ rfl
      have u7 := b8.out.get 7 _ rfl
      have u8 := b8.out.get 8 _ rfl
      have u9 := b8.out.get 9 _ rfl
      have u10 := b8.out.get 10 _ rfl
      have u11 := b8.out.get 11 _ rfl
      clear hLM hv8 hl8 hm8 hTB hMn
      go_wp2_with fail
      refine cL.mono ?_
      rintro e w9 ⟨rfl, k9⟩
      have kw9 := hid (kw8.out.trans k9 (by simp))
      have b9 := hid (b8.out.kept k9 (by simp) (b8.out.lt (by simp)))
      have hr9 := hid (And.intro (hr8.out.1.keptNew k9) (fun k hk => Nat.le_trans kwd6.out.size (hr8.out.2 k hk)))
      clear cL u0 u1 u2 u3 u4 u5 u6 u7 u8 u9 u10 u11
      cases TB with
      | false =>
        have hrd3 : Hid (rdR bs = ([], 0, 70)) := by show _ = _; rw [hrd2.out, if_neg (by simp)]
        clear hrd2
        go_wp2_with fail
        go_ret3
        rw [hrd3.out]
        exact rdP_no 70 kw9.out
      | true =>
        have hrd3 : Hid (rdR bs = (L, B, 0)) := by show _ = _; rw [hrd2.out, if_pos (by simp)]
        have u11 := b9.out.get 11 _ rfl
        clear hrd2
        go_wp2_with fail
        go_quiet (fail)
        go_wp2_with fail
        go_ret3
        rw [hrd3.out]
        exact ⟨a8, c8, rfl, hr9.out.1, kw9.out.drewN _, hr9.out.2⟩
    · have hrd3 : Hid (rdR bs = ([], 0, 70)) := by show _ = _; rw [hrd2.out, if_neg (fun h => hDE h.1)]
      have d2 : (DE != 0) = true := by simpa using hDE
      clear hrd2
      go_wp2_with fail
      go_ret3
      rw [hrd3.out]
      exact rdP_no 70 kw8.out
  · have d1 : ((N4 : Int) != (CR : Int)) = true := by simp; omega
    have hrd2 : Hid (rdR bs = ([], 0, 71)) := by show _ = _; rw [hrd.out, if_pos hne]
    clear hrd
    go_wp2_with fail
    go_ret3
    rw [hrd2.out]
    exact rdP_no 71 kw6.out
theorem bRead (a : Option Addr) (c : Nat) (bs : List UInt8) (w : World) (ht : Tab w) (hs : Sees w a bs) (hl : bs.length ≤ c) (hm : c ≤ maxLen) (hb : bs.length ≤ 200000000000000) :
    Calls Tryz.prog 44 #[.slice a bs.length c] w (RdP (rdR bs) w) := by
  cases hn : hdR bs with
  | none => rw [rdR_none hn]; exact bReadN a c bs w hs hl hm hn
  | some r =>
    obtain ⟨i, s⟩ := r
    obtain ⟨k, m, n, ⟨mk, mb, mn, mt⟩, ⟨xk, xb, xn, xt⟩, x, y, rest, hbs, r1, r2, i1, i2, hk, hm1, hm2, hn2, hi, hss, hle⟩ := hdR_some hn
    rw [hi] at hn
    exact bReadS a c bs w ht hs hl hm hb k.toNat m.toNat s (s + (x.toNat * 256 + y.toNat)) (s + (x.toNat * 256 + y.toNat) + 4) mk mb mn mt xk xb xn xt n.toNat hn rfl hle (by omega) (by omega) (by omega) hm2
end Go.Proofs.YtafcdckpicoppaaGreatDoor
end

section
namespace Go.Proofs.YtafcdckpicoppaaGreatDoor
open Go.RowKit Go.Hay
set_option linter.unusedVariables false
set_option linter.unusedSimpArgs false

theorem wrB_ok {k : Int} {l : List Val} (h : (wrB k l).2 = 0) : 0 < l.length ∧ refE (kindW k l) l = 0 ∧ (wrB k l).1 = blkB (kindW k l) l := by
  unfold wrB at h ⊢
  by_cases h0 : l.length = 0
  · rw [if_pos h0] at h; simp at h
  · rw [if_neg h0] at h ⊢
    by_cases hr : refE (kindW k l) l = 0
    · rw [if_pos hr]; exact ⟨by omega, hr, rfl⟩
    · rw [if_neg hr] at h; exact absurd h hr
theorem blkB_le (k : Int) (l : List Val) (hr : refE k l = 0) (h0 : 0 < l.length) : (blkB k l).length ≤ 10200 := by
  obtain ⟨_, _, ha⟩ := refE_ok hr
  have := rowB_length (minV_right h0 ha)
  have := rowB_length (maxV_right h0 ha)
  have := encR_len k l
  rw [blkB_len]
  omega
theorem wrB_le (k : Int) (l : List Val) : (wrB k l).1.length ≤ 10200 := by
  by_cases h : (wrB k l).2 = 0
  · obtain ⟨h0, hr, e⟩ := wrB_ok h
    rw [e]
    exact blkB_le _ l hr h0
  · unfold wrB at h ⊢
    split
    · simp
    · split
      · rename_i h1 h2; rw [if_neg h1, if_pos h2] at h; exact absurd rfl h
      · simp
def vT : Val := ⟨1, true, 0, ⟨#[]⟩⟩
def lT : List Val := [vT]
theorem refT : refE 0 lT = 0 := by decide +kernel
theorem inT : ∀ x ∈ lT, x.in64 := fun x hx => by
  simp [lT] at hx
  subst hx
  exact ⟨by show (-9223372036854775808 : Int) ≤ 0; omega, by show (0 : Int) ≤ 9223372036854775807; omega⟩
theorem wrT : wrB 0 lT = (blkB 0 lT, 0) := by
  have e : kindW 0 lT = 0 := by unfold kindW; rw [if_neg (by omega)]
  unfold wrB
  rw [if_neg (by simp [lT]), e, if_pos refT]
theorem lenT : (blkB 0 lT).length = 15 := by
  rw [blkB_len]
  have e1 : minV lT = vT := rfl
  have e2 : maxV lT = vT := rfl
  rw [e1, e2]
  decide +kernel
theorem hdT : hdP (blkB 0 lT) = (⟨0, 1, vT, vT, nullsV lT, 15⟩, 5 + (rowB (minV lT)).length + (rowB (maxV lT)).length, 0) := by
  have h := hdR_blk 0 lT (by simp [lT]) inT refT []
  rw [List.append_nil, lenT] at h
  unfold hdP
  rw [h]
  rfl
theorem rdT : rdR (blkB 0 lT) = (lT, 15, 0) := by
  have h := rdR_blk 0 lT (by simp [lT]) inT refT []
  rw [List.append_nil, lenT] at h
  exact h
theorem seeT (w : World) (t : TypeId) : Vals (w.alloc (.cells #[.int .i64 1, .bool true, .int .i64 0, .string ⟨#[]⟩] t)) (some ⟨w.heap.size, 0, none⟩) lT := by
  have b := Box4.new w (.int .i64 1) (.bool true) (.int .i64 0) (.string ⟨#[]⟩) t
  refine .inr ⟨_, 0, rfl, fun j y hy => ?_⟩
  obtain ⟨rfl, rfl⟩ : j = 0 ∧ y = vT := by
    cases j with
    | zero => exact ⟨rfl, by simpa [lT] using hy.symm⟩
    | succ j => simp [lT] at hy
  exact ⟨b.c0, b.c1, b.c2, b.c3⟩
end Go.Proofs.YtafcdckpicoppaaGreatDoor
end

section
namespace Go.Hay
open Go.RowKit
set_option linter.unusedVariables false

variable {F : Fence} {n : Nat} {P : Program} {σ α : Type}

/-- What an iterator that stands at some s of σ promises: it hands on things x (as encs x), each behind a step T of its own, which may turn memory; a round that goes on takes it from s to nx s x and keeps what K says; S: it is at its end; Sp: a round has said 'no more'. -/
def SeqS (F : Fence) (n : Nat) (P : Program) (g : Nat) (lb : Array Value) (encs : α → Array Value) (T : σ → σ → World → World → Prop) (K : σ → World → World → Prop) (ok : σ → α → Prop) (nx : σ → α → σ) (S Sp : σ → Prop) (s0 : σ) (w : World) : Prop :=
  ∀ (l : Nat) (J Jx : σ → World → Prop) (W : World), K s0 w W → (∀ s s' A B, J s A → T s s' A B → J s' B) →
    (∀ s x A, J s A → ok s x → YieldAt F (n - 1) P l (encs x) A fun e A' => (e = .returned (.bool true) ∧ J (nx s x) A' ∧ K s A A') ∨ (e = .returned (.bool false) ∧ Jx (nx s x) A')) →
    J s0 W → CallsIn F n P g (#[.func (.yield l) #[] #[]] ++ lb) W fun e A' => (∃ v, e = .returned v) ∧ ((∃ s, S s ∧ J s A') ∨ (∃ s, Sp s ∧ Jx s A'))

/-- How a round's body may be left: B: from which block on whatever is no cells must lie as it lay. -/
def leftS (B : Nat) (K : σ → World → World → Prop) (I : σ → World → Prop) (Ix : Code → σ → World → Prop) (s0 s : σ) (W : World) : Exit → Act → World → Prop
  | .normal, _, W' => KeepsFrom B W W' ∧ K s0 W W' ∧ I s W'
  | .ret, _, W' => KeepsFrom B W W' ∧ Ix .ret s W'
  | .exit id, _, W' => KeepsFrom B W W' ∧ Ix (.exit id) s W'
  | .goto t, _, W' => KeepsFrom B W W' ∧ Ix (.goto t) s W'
  | _, _, _ => False

/-- The law. -/
theorem wpRangeS {g : Operand} {ps : Array Tmp} {assign body : Code} {Q : Exit → Act → World → Prop} {a : Act} {w : World}
    (hro : F.round = none) (h1 : 1 ≤ n) {gf : Nat} {lb : Array Value} (hg : a.eval g = .func (.func gf) #[] lb) (hFg : F.fn gf) (eg : ∀ args w, (callFunc gf args).run P w = .ok (.enter gf args) w)
    {encs : α → Array Value} {T : σ → σ → World → World → Prop} {K : σ → World → World → Prop} {ok : σ → α → Prop} {nx : σ → α → σ} {S Sp : σ → Prop} {s0 : σ} {w0 : World}
    (hseq : SeqS F (n - 1) P gf lb encs T K ok nx S Sp s0 w0) (hps : ∀ x, (encs x).size = ps.size)
    (hKt : ∀ {s : σ} {A B C : World}, K s A B → K s B C → K s A C) (hKa : ∀ s W o, K s W (W.alloc o)) (hKb : ∀ (s : σ) (W : World) (l : Nat) (o o' : Obj), w.heap.size ≤ l → W.heap[l]? = some o → o.isCells = false → o.isWalk = false → K s W (W.putObj l o')) (hb0 : K s0 w0 w)
    (hTk : ∀ s s' A B, T s s' A B → ∀ (k : Nat) (o : Obj), w.heap.size ≤ k → A.heap[k]? = some o → o.isCells = false → o.isWalk = false → B.heap[k]? = some o)
    (I : σ → World → Prop) (Ix : Code → σ → World → Prop) (hI : OwnFrom w.heap.size I) (hIx : ∀ c, OwnFrom w.heap.size (Ix c)) (hIT : ∀ s s' A B, I s A → T s s' A B → I s' B) (h0 : I s0 w)
    (a₁ : α → Act) (hassign : ∀ (l : Nat) (x : α) (W : World) (C : Act → World → Prop), C (a₁ x) W →
      assign.wpIn (F.inRound l) (n - 1 - 1) P (Exit.then C (fun _ _ _ => False)) { tmps := (ps.zip (encs x)).foldl (fun t (p, v) => t.setIfInBounds p v) a.tmps, defers := [] } W)
    (hbody : ∀ (l : Nat) (s : σ) (x : α) (W : World), I s W → ok s x → body.wpIn (F.inRound l) (n - 1 - 1) P (leftS w.heap.size K I Ix s (nx s x) W) (a₁ x) W)
    (hdone : ∀ (D : Nat) (s : σ) (W : World), w.heap.size ≤ D → S s → I s W → W.heap[D]? = some (.deferred (some [])) → Q .normal { a with defers := { target := .collected D, args := #[] } :: a.defers } W)
    (hstop : ∀ (D : Nat) (c : Code) (s : σ) (W : World), w.heap.size ≤ D → Sp s → Ix c s W → W.heap[D]? = some (.deferred (some [])) → c.wpIn F n P Q { a with defers := { target := .collected D, args := #[] } :: a.defers } W) :
    (Code.rangeFunc g ps assign body).wpIn F n P Q a w := by
  refine wpIn_rangeFunc fun fn hfn => ?_
  rw [hro]
  -- the loop's record, as it may stand
  let R : LoopState → Option Code → Obj := fun st pe => .loop { state := st, pending := pe, fn, tmps := a.tmps, params := ps, assign, body, defers := w.heap.size }
  let Bk : LoopState → Option Code → World → Prop := fun st pe W => W.heap[w.heap.size + 1]? = some (R st pe) ∧ W.heap[w.heap.size]? = some (.deferred (some []))
  have bkK : ∀ {st pe A B}, KeepsFrom w.heap.size A B → Bk st pe A → Bk st pe B := fun hk hb => ⟨hk.same _ _ (by omega) hb.1 rfl, hk.same _ _ (Nat.le_refl _) hb.2 rfl⟩
  have bkP : ∀ {st pe st' pe' A}, Bk st pe A → Bk st' pe' (A.putObj (w.heap.size + 1) (R st' pe')) := fun hb =>
    ⟨World.putObj_heap_same (Array.getElem?_eq_some_iff.1 hb.1).1, (World.putObj_heap_other (by omega)).trans hb.2⟩
  have iP : ∀ {st pe s A} (o : Obj), Bk st pe A → I s A → I s (A.putObj (w.heap.size + 1) o) := fun o hb hi => hI.putObj o hi (by omega) hb.1 rfl
  have ixP : ∀ {st pe s c A} (o : Obj), Bk st pe A → Ix c s A → Ix c s (A.putObj (w.heap.size + 1) o) := fun o hb hi => (hIx _).putObj o hi (by omega) hb.1 rfl
  have kP : ∀ {s st pe A} (o : Obj), Bk st pe A → K s A (A.putObj (w.heap.size + 1) o) := fun o hb => hKb _ _ _ _ _ (by omega) hb.1 rfl rfl
  have bkT : ∀ {s s' st pe A B}, T s s' A B → Bk st pe A → Bk st pe B := fun ht hb => ⟨hTk _ _ _ _ ht _ _ (by omega) hb.1 rfl rfl, hTk _ _ _ _ ht _ _ (Nat.le_refl _) hb.2 rfl rfl⟩
  have b0 : Bk .ready none ((w.alloc (.deferred (some []))).alloc (R .ready none)) :=
    ⟨by have := World.alloc_heap_new (w.alloc (.deferred (some []))) (R .ready none); rwa [World.size_alloc] at this, (Below.heap_alloc _ _ _ (by simp)).trans (World.alloc_heap_new w _)⟩
  refine ⟨w.heap.size + 1, [{ target := .collected w.heap.size, args := #[] }], ((w.alloc (.deferred (some []))).alloc (R .ready none)), { target := .fn (.func gf) lb, args := #[.func (.yield (w.heap.size + 1)) #[] #[]] }, ((w.alloc (.deferred (some []))).alloc (R .ready none)), gf, #[.func (.yield (w.heap.size + 1)) #[] #[]] ++ lb, ((w.alloc (.deferred (some []))).alloc (R .ready none)),
    run_enterLoop_outer _ _ _ _ _, by simp only [resolve, hg]; simp [go_sem], fun f' hf' => by simp [Target.leads] at hf'; subst hf'; exact hFg, by simp [invoke, go_sem, eg], fun _ => h1, ?_⟩
  refine (hseq (w.heap.size + 1) (fun s A => I s A ∧ Bk .ready none A) (fun s A => ∃ c, Ix c s A ∧ Bk .done (some c) A) _ (hKt hb0 (hKt (hKa _ _ _) (hKa _ _ _)))
    (fun s s' A B hs ht => ⟨hIT s s' A B hs.1 ht, bkT ht hs.2⟩) ?_ ⟨hI.alloc _ (hI.alloc _ h0), b0⟩).mono ?_
  · -- one round
    rintro s x A ⟨hi, hb⟩ hok
    refine ⟨fn, _, assign, body, run_yield hb.1 (hps x), roundIn_of_wpIn hfn (hassign _ x A _ ⟨_, run_beginRound hb.1 rfl, ?_⟩)⟩
    have hb2 : Bk .busy none (A.putObj (w.heap.size + 1) (R .busy none)) := bkP hb
    refine wpIn_mono (hbody _ s x _ (iP _ hb hi) hok) ?_
    rintro e a3 W3 hp
    cases e with
    | normal =>
      have hb3 := bkK hp.1 hb2
      exact ⟨_, _, run_endRound none hb3.1, .inl ⟨rfl, ⟨iP _ hb3 hp.2.2, bkP hb3⟩, hKt (kP _ hb) (hKt hp.2.1 (kP _ hb3))⟩⟩
    | ret => have hb3 := bkK hp.1 hb2; exact ⟨_, _, run_endRound (some .ret) hb3.1, .inr ⟨rfl, .ret, ixP _ hb3 hp.2, bkP hb3⟩⟩
    | exit id => have hb3 := bkK hp.1 hb2; exact ⟨_, _, run_endRound (some (.exit id)) hb3.1, .inr ⟨rfl, .exit id, ixP _ hb3 hp.2, bkP hb3⟩⟩
    | goto t => have hb3 := bkK hp.1 hb2; exact ⟨_, _, run_endRound (some (.goto t)) hb3.1, .inr ⟨rfl, .goto t, ixP _ hb3 hp.2, bkP hb3⟩⟩
    | panic ch => exact hp.elim
    | outgrown => exact hp.elim
  · -- behind the iterator
    rintro e A ⟨⟨v, rfl⟩, (⟨s, hS, hi, hb⟩ | ⟨s, hSp, c, hi, hb⟩)⟩
    · exact ⟨none, _, run_endLoop hb.1 (by simp), hdone _ s _ (Nat.le_refl _) hS (iP _ hb hi) ((World.putObj_heap_other (by omega)).trans hb.2)⟩
    · exact ⟨some c, _, run_endLoop hb.1 (by simp), hstop _ c s _ (Nat.le_refl _) hSp (ixP _ hb hi) ((World.putObj_heap_other (by omega)).trans hb.2)⟩
end Go.Hay
end

section
namespace Go.Proofs.YtafcdckpicoppaaGreatDoor
open Go.RowKit Go.Hay
attribute [local go_sem] Oper.semAt_some
set_option linter.unusedVariables false
set_option linter.unusedSimpArgs false

/-- What the rounds leave alone: the blocks Js. -/
def KeepB (Js : List Nat) (A B : World) : Prop := A.heap.size ≤ B.heap.size ∧ ∀ k ∈ Js, ∀ o, A.heap[k]? = some o → B.heap[k]? = some o
theorem KeepB.trans {Js : List Nat} {A B C : World} (h : KeepB Js A B) (k : KeepB Js B C) : KeepB Js A C := ⟨Nat.le_trans h.1 k.1, fun j hj o ho => k.2 j hj o (h.2 j hj o ho)⟩
theorem KeepB.refl (Js : List Nat) (A : World) : KeepB Js A A := ⟨Nat.le_refl _, fun _ _ _ h => h⟩
theorem KeepB.ofKp {Js S : List Nat} {A B : World} (hk : Kp S A B) (hJ : ∀ j ∈ Js, j ∉ S) : KeepB Js A B := ⟨hk.size, fun j hj o ho => (hk.block j (Array.getElem?_eq_some_iff.1 ho).1 (hJ j hj)).trans ho⟩
theorem KeepB.cell {Js : List Nat} {A B : World} (h : KeepB Js A B) {g j : Nat} (hg : g ∈ Js) {v : Value} (hc : A.cell? ⟨g, j, none⟩ = some v) : B.cell? ⟨g, j, none⟩ = some v := by
  have hl := World.block_lt_of_cell? _ _ hc
  have e : A.heap[g]? = some A.heap[g] := by simp at hl; simp [hl]
  exact (World.cell?_of_block (a := ⟨g, j, none⟩) ((h.2 g hg _ e).trans e.symm)).trans hc
/-- What is given: a slice of values, of a block of so many bytes. -/
structure Gl where
  a : Option Addr
  c : Nat
  l : List Val
  n : Nat
abbrev encL (x : Gl) : Array Value := #[.slice x.a x.l.length x.c]
/-- How the iterator stands: so many bytes are read; what is given now. -/
structure Ls where
  d : Nat
  v : Option Gl
def Ls.nx (s : Ls) (x : Gl) : Ls := ⟨s.d + x.n, none⟩
/-- The iterator's own step: it reads a block, into memory of its own. -/
structure StepL (bs : List UInt8) (s s' : Ls) (A B : World) : Prop where
  kp : Kp [] A B
  was : s.v = none
  same : s'.d = s.d
  given : s'.v = none ∨ ∃ x : Gl, s'.v = some x ∧ rdR (bs.drop s.d) = (x.l, x.n, 0) ∧ VE.Row B (.slice x.a x.l.length x.c) x.l ∧ ∀ k ∈ blk x.a, A.heap.size ≤ k
/-- The block of bytes, where there are any. -/
def bk (a : Option Addr) (bs : List UInt8) : List Nat := if bs = [] then [] else blk a
/-- What the iterator finds: the slice in its box, the bytes, the table of the sums. -/
structure AtL (q : Nat) (a : Option Addr) (c : Nat) (bs : List UInt8) (w : World) : Prop where
  box : w.cell? ⟨q, 0, none⟩ = some (.slice a bs.length c)
  sees : Sees w a bs
  tab : Tab w
theorem AtL.kept {q : Nat} {a : Option Addr} {c : Nat} {bs : List UInt8} {A B : World} (h : AtL q a c bs A) (hk : KeepB (1 :: q :: bk a bs) A B) : AtL q a c bs B := by
  refine ⟨hk.cell (by simp) h.box, ?_, ?_⟩
  · by_cases hbs : bs = []
    · exact .inl hbs
    rcases h.sees with e | ⟨g, o, e, hc⟩
    · exact .inl e
    · subst e
      exact .inr ⟨g, o, rfl, fun j u hu => hk.cell (by simp [bk, hbs, blk]) (hc j u hu)⟩
  · exact ⟨Nat.lt_of_lt_of_le h.tab.1 hk.1, fun d hd => hk.cell (by simp) (h.tab.2 d hd)⟩
/-- The end: nothing is left, or no block. -/
def endL (bs : List UInt8) (s : Ls) : Prop := s.v = none ∧ (bs.drop s.d = [] ∨ (rdR (bs.drop s.d)).2.2 ≠ 0)
/-- How many things a slice has. -/
def slen : Value → Nat
  | .slice _ n _ => n
  | _ => 0
theorem rdR_n {bs : List UInt8} {l : List Val} {n : Nat} (h : rdR bs = (l, n, 0)) : 0 < n ∧ n ≤ bs.length := by
  obtain ⟨i, s, _, _, _, _, h5, _, h7⟩ := rdR_put h
  exact ⟨h7, h5⟩
set_option maxHeartbeats 16000000 in
set_option maxRecDepth 100000 in
theorem listsSeq (n : Nat) (hn : 1 ≤ n) (q : Nat) (a : Option Addr) (c : Nat) (bs : List UInt8) (hl : bs.length ≤ c) (hm : c ≤ maxLen) (hb : bs.length ≤ 200000000000000) (w : World) (hA : AtL q a c bs w) :
    SeqS Fence.wide n Tryz.prog 43 #[.pointer (some ⟨q, 0, none⟩)] encL (StepL bs) (fun _ => KeepB (1 :: q :: bk a bs))
      (fun s x => s.v = some x ∧ rdR (bs.drop s.d) = (x.l, x.n, 0)) Ls.nx (endL bs) (fun _ => True) ⟨0, none⟩ w := by
  intro ly J Jx W hW hT hY h0
  have hAW := hA.kept hW
  have hbx := hAW.box
  have hAW' := hid hAW
  have hT' := hid hT
  have hY' := hid hY
  clear hA hW hAW hT hY
  refine callsIn_of_wp Tryz.func43 rfl trivial ?_ rfl
  simp only [Tryz.ntmps43, List.size_toArray, List.length_cons, List.length_nil, Nat.reduceAdd, Nat.reduceSub, Array.replicate_succ, Array.replicate_zero, List.push_toArray, List.append_toArray, List.nil_append, List.cons_append]
  gi_wp2_with fail
  gi_loopw [3] (fun v wr => ∃ (d : Nat) (A : Option Addr), d ≤ bs.length ∧ v = .slice A (bs.length - d) (c - d) ∧ (bs.drop d = [] ∨ ∃ g o, a = some ⟨g, o, none⟩ ∧ A = some ⟨g, o + d, none⟩) ∧ J ⟨d, none⟩ wr ∧ KeepB (1 :: q :: bk a bs) W wr) (fun v _ => slen v)
  case atStart =>
    refine ⟨0, a, Nat.zero_le _, rfl, ?_, h0, KeepB.refl _ _⟩
    rcases hAW'.out.sees with e | ⟨g, o, e, _⟩
    · left; rw [e]; rfl
    · right; exact ⟨g, o, e, by rw [e]; rfl⟩
  case round =>
    obtain ⟨d, A, hd, rfl, hAd, hJd, hkr⟩ := hrel
    clear h0 hbx
    have hAr := hAW'.out.kept hkr
    have hld : (bs.drop d).length = bs.length - d := List.length_drop
    by_cases hz : bs.length - d = 0
    · have e0 : bs.drop d = [] := List.drop_of_length_le (by omega)
      rw [hz]
      clear hAr
      gi_wp2
      go_end0
      exact ⟨⟨_, rfl⟩, .inl ⟨⟨d, none⟩, ⟨rfl, .inl e0⟩, hJd⟩⟩
    · obtain ⟨g, o, ea, eA⟩ : ∃ g o, a = some ⟨g, o, none⟩ ∧ A = some ⟨g, o + d, none⟩ := by
        rcases hAd with e | h
        · rw [e] at hld; simp at hld; omega
        · exact h
      subst eA
      subst ea
      have hsd : Sees wr (some ⟨g, o + d, none⟩) (bs.drop d) := by
        have := hAr.sees.tail d
        simpa [Addr.add_lit] using this
      have cR := bRead (some ⟨g, o + d, none⟩) (c - d) (bs.drop d) wr hAr.tab hsd (by omega) (by unfold maxLen at hm ⊢; omega) (by omega)
      rw [hld] at cR
      have hrn := hid (fun l n => rdR_n (bs := bs.drop d) (l := l) (n := n))
      obtain ⟨⟨L, N, F⟩, hF⟩ : ∃ r, Hid (rdR (bs.drop d) = r) := ⟨_, rfl⟩
      rw [hF.out] at cR
      simp only [hF.out] at hrn
      unfold RdP at cR
      dsimp only at cR
      have hpos : ¬ ((bs.length - d : Nat) : Int) ≤ 0 := by omega
      have hpos2 : (0 : Int) < ((bs.length - d : Nat) : Int) := by omega
      obtain ⟨LN, hLN⟩ : ∃ x : Nat, Hid (bs.length - d = x) := ⟨_, rfl⟩
      rw [hLN.out] at cR hpos hpos2 hz ⊢
      clear hAr hsd hAd hld
      gi_wp2_with fail
      refine ⟨trivial, (callsIn_wide.2 cR).mono ?_⟩
      rintro e w2 ⟨a2, c2, rfl, hrow2, k2, hn2⟩
      by_cases hF0 : F = 0
      · subst hF0
        obtain ⟨hN0, hNl⟩ := hrn.out L N rfl
        rw [List.length_drop] at hNl
        have hJ2 : J ⟨d, some ⟨a2, c2, L, N⟩⟩ w2 := hT'.out _ _ wr w2 hJd ⟨k2, rfl, rfl, .inr ⟨⟨a2, c2, L, N⟩, rfl, hF.out, hrow2, hn2⟩⟩
        obtain ⟨fn, tmps, assign, body, hy, hR⟩ := hY'.out ⟨d, some ⟨a2, c2, L, N⟩⟩ ⟨a2, c2, L, N⟩ w2 hJ2 ⟨rfl, hF.out⟩
        have hk2 := hid (hkr.trans (KeepB.ofKp k2 (by simp)))
        have hNc : N ≤ c - d := by omega
        have hNL : N ≤ LN := by rw [← hLN.out]; omega
        clear cR hrow2 hn2 k2 hJd hkr hrn
        gi_wp2
        refine hR.mono ?_
        rintro e1 W3 (⟨rfl, hJ3, hk3⟩ | ⟨rfl, hJx⟩)
        · have hN1 : (N : Int) ≤ (LN : Int) := by omega
          unfold maxLen at hm
          gi_wp2
          have hLN' := hLN.out
          have hJ3' : J ⟨d + N, none⟩ W3 := hJ3
          refine ⟨⟨d + N, (if c - d = N then some { block := g, off := o + d } else some { block := g, off := o + d + N }), by omega, by rw [show LN - N = bs.length - (d + N) by omega, show c - d - N = c - (d + N) by omega], ?_, hJ3', hk2.out.trans hk3⟩, by show LN - N < LN; omega⟩
          by_cases hcd : c - d = N
          · left; exact List.drop_of_length_le (by omega)
          · right; exact ⟨g, o, rfl, by rw [if_neg hcd, Nat.add_assoc]⟩
        · gi_wp2
          go_returns
          exact ⟨⟨_, rfl⟩, .inr ⟨_, trivial, hJx⟩⟩
      · have hJ2 : J ⟨d, none⟩ w2 := hT'.out _ _ wr w2 hJd ⟨k2, rfl, rfl, .inl rfl⟩
        have hend : endL bs ⟨d, none⟩ := ⟨rfl, .inr (by show (rdR (bs.drop d)).2.2 ≠ 0; rw [hF.out]; exact hF0)⟩
        have d5 : (F != 0) = true := by simpa using hF0
        clear cR hrow2 hn2 k2 hJd hkr hrn
        gi_wp2
        refine ⟨fun f hf => (by cases hf), ?_⟩
        gi_wp2
        go_returns
        exact ⟨⟨_, rfl⟩, .inl ⟨⟨d, none⟩, hend, hJ2⟩⟩
end Go.Proofs.YtafcdckpicoppaaGreatDoor
end

section
namespace Go.Hay
open Go.RowKit
set_option linter.unusedVariables false

variable {F : Fence} {n : Nat} {P : Program} {σ α : Type}

/-- As SeqS; a round keeps what K says also where it has said 'no more', and behind that the iterator may turn what Tx says. -/
def SeqX (F : Fence) (n : Nat) (P : Program) (g : Nat) (lb : Array Value) (encs : α → Array Value) (T : σ → σ → World → World → Prop) (Tx : σ → World → World → Prop) (K : σ → World → World → Prop) (ok : σ → α → Prop) (nx : σ → α → σ) (S Sp : σ → Prop) (s0 : σ) (w : World) : Prop :=
  ∀ (l : Nat) (J Jx : σ → World → Prop) (W : World), K s0 w W → (∀ s s' A B, J s A → T s s' A B → J s' B) → (∀ s A B, Jx s A → Tx s A B → Jx s B) →
    (∀ s x A, J s A → ok s x → YieldAt F (n - 1) P l (encs x) A fun e A' => (e = .returned (.bool true) ∧ J (nx s x) A' ∧ K s A A') ∨ (e = .returned (.bool false) ∧ Jx (nx s x) A' ∧ K s A A')) →
    J s0 W → CallsIn F n P g (#[.func (.yield l) #[] #[]] ++ lb) W fun e A' => (∃ v, e = .returned v) ∧ ((∃ s, S s ∧ J s A') ∨ (∃ s, Sp s ∧ Jx s A'))

/-- How a round's body may be left. -/
def leftX (B : Nat) (K : σ → World → World → Prop) (I : σ → World → Prop) (Ix : Code → σ → World → Prop) (s0 s : σ) (W : World) : Exit → Act → World → Prop
  | .normal, _, W' => KeepsFrom B W W' ∧ K s0 W W' ∧ I s W'
  | .ret, _, W' => KeepsFrom B W W' ∧ K s0 W W' ∧ Ix .ret s W'
  | .exit id, _, W' => KeepsFrom B W W' ∧ K s0 W W' ∧ Ix (.exit id) s W'
  | .goto t, _, W' => KeepsFrom B W W' ∧ K s0 W W' ∧ Ix (.goto t) s W'
  | _, _, _ => False

/-- The law. -/
theorem wpRangeX {g : Operand} {ps : Array Tmp} {assign body : Code} {Q : Exit → Act → World → Prop} {a : Act} {w : World}
    (hro : F.round = none) (h1 : 1 ≤ n) {gf : Nat} {lb : Array Value} (hg : a.eval g = .func (.func gf) #[] lb) (hFg : F.fn gf) (eg : ∀ args w, (callFunc gf args).run P w = .ok (.enter gf args) w)
    {encs : α → Array Value} {T : σ → σ → World → World → Prop} {Tx : σ → World → World → Prop} {K : σ → World → World → Prop} {ok : σ → α → Prop} {nx : σ → α → σ} {S Sp : σ → Prop} {s0 : σ} {w0 : World}
    (hseq : SeqX F (n - 1) P gf lb encs T Tx K ok nx S Sp s0 w0) (hps : ∀ x, (encs x).size = ps.size)
    (hKt : ∀ {s : σ} {A B C : World}, K s A B → K s B C → K s A C) (hKa : ∀ s W o, K s W (W.alloc o)) (hb0 : K s0 w0 w)
    (I : σ → World → Prop) (Ix : Code → σ → World → Prop) (hI : OwnFrom w.heap.size I) (hIx : ∀ c, OwnFrom w.heap.size (Ix c)) (h0 : I s0 w)
    (hTk : ∀ s s' A B, I s A → T s s' A B → ∀ (k : Nat) (o : Obj), (k = w.heap.size ∨ k = w.heap.size + 1) → A.heap[k]? = some o → B.heap[k]? = some o)
    (hXk : ∀ c s A B, Ix c s A → Tx s A B → ∀ (k : Nat) (o : Obj), (k = w.heap.size ∨ k = w.heap.size + 1) → A.heap[k]? = some o → B.heap[k]? = some o)
    (hIT : ∀ s s' A B, w.heap.size + 2 ≤ A.heap.size → I s A → T s s' A B → I s' B) (hXT : ∀ c s A B, Ix c s A → Tx s A B → Ix c s B)
    (hKb : ∀ (s : σ) (W : World) (o' : Obj), I s W → K s W (W.putObj (w.heap.size + 1) o')) (hKc : ∀ (s : σ) (x : α) (W : World) (o' : Obj), I (nx s x) W → K s W (W.putObj (w.heap.size + 1) o'))
    (hKx : ∀ (c : Code) (s : σ) (x : α) (W : World) (o' : Obj), Ix c (nx s x) W → K s W (W.putObj (w.heap.size + 1) o'))
    (a₁ : α → Act) (hassign : ∀ (l : Nat) (x : α) (W : World) (C : Act → World → Prop), C (a₁ x) W →
      assign.wpIn (F.inRound l) (n - 1 - 1) P (Exit.then C (fun _ _ _ => False)) { tmps := (ps.zip (encs x)).foldl (fun t (p, v) => t.setIfInBounds p v) a.tmps, defers := [] } W)
    (hbody : ∀ (l : Nat) (s : σ) (x : α) (W : World), I s W → ok s x → body.wpIn (F.inRound l) (n - 1 - 1) P (leftX w.heap.size K I Ix s (nx s x) W) (a₁ x) W)
    (hdone : ∀ (D : Nat) (s : σ) (W : World), w.heap.size ≤ D → S s → I s W → W.heap[D]? = some (.deferred (some [])) → Q .normal { a with defers := { target := .collected D, args := #[] } :: a.defers } W)
    (hstop : ∀ (D : Nat) (c : Code) (s : σ) (W : World), w.heap.size ≤ D → Sp s → Ix c s W → W.heap[D]? = some (.deferred (some [])) → c.wpIn F n P Q { a with defers := { target := .collected D, args := #[] } :: a.defers } W) :
    (Code.rangeFunc g ps assign body).wpIn F n P Q a w := by
  refine wpIn_rangeFunc fun fn hfn => ?_
  rw [hro]
  -- the loop's record, as it may stand
  let R : LoopState → Option Code → Obj := fun st pe => .loop { state := st, pending := pe, fn, tmps := a.tmps, params := ps, assign, body, defers := w.heap.size }
  let Bk : LoopState → Option Code → World → Prop := fun st pe W => W.heap[w.heap.size + 1]? = some (R st pe) ∧ W.heap[w.heap.size]? = some (.deferred (some []))
  have bkK : ∀ {st pe A B}, KeepsFrom w.heap.size A B → Bk st pe A → Bk st pe B := fun hk hb => ⟨hk.same _ _ (by omega) hb.1 rfl, hk.same _ _ (Nat.le_refl _) hb.2 rfl⟩
  have bkP : ∀ {st pe st' pe' A}, Bk st pe A → Bk st' pe' (A.putObj (w.heap.size + 1) (R st' pe')) := fun hb =>
    ⟨World.putObj_heap_same (Array.getElem?_eq_some_iff.1 hb.1).1, (World.putObj_heap_other (by omega)).trans hb.2⟩
  have iP : ∀ {st pe s A} (o : Obj), Bk st pe A → I s A → I s (A.putObj (w.heap.size + 1) o) := fun o hb hi => hI.putObj o hi (by omega) hb.1 rfl
  have ixP : ∀ {st pe s c A} (o : Obj), Bk st pe A → Ix c s A → Ix c s (A.putObj (w.heap.size + 1) o) := fun o hb hi => (hIx _).putObj o hi (by omega) hb.1 rfl
  have bsz : ∀ {st pe A}, Bk st pe A → w.heap.size + 2 ≤ A.heap.size := fun hb => by have := (Array.getElem?_eq_some_iff.1 hb.1).1; omega
  have b0 : Bk .ready none ((w.alloc (.deferred (some []))).alloc (R .ready none)) :=
    ⟨by have := World.alloc_heap_new (w.alloc (.deferred (some []))) (R .ready none); rwa [World.size_alloc] at this, (Below.heap_alloc _ _ _ (by simp)).trans (World.alloc_heap_new w _)⟩
  refine ⟨w.heap.size + 1, [{ target := .collected w.heap.size, args := #[] }], ((w.alloc (.deferred (some []))).alloc (R .ready none)), { target := .fn (.func gf) lb, args := #[.func (.yield (w.heap.size + 1)) #[] #[]] }, ((w.alloc (.deferred (some []))).alloc (R .ready none)), gf, #[.func (.yield (w.heap.size + 1)) #[] #[]] ++ lb, ((w.alloc (.deferred (some []))).alloc (R .ready none)),
    run_enterLoop_outer _ _ _ _ _, by simp only [resolve, hg]; simp [go_sem], fun f' hf' => by simp [Target.leads] at hf'; subst hf'; exact hFg, by simp [invoke, go_sem, eg], fun _ => h1, ?_⟩
  refine (hseq (w.heap.size + 1) (fun s A => I s A ∧ Bk .ready none A) (fun s A => ∃ c, Ix c s A ∧ Bk .done (some c) A) _ (hKt hb0 (hKt (hKa _ _ _) (hKa _ _ _)))
    (fun s s' A B hs ht => ⟨hIT s s' A B (bsz hs.2) hs.1 ht, hTk s s' A B hs.1 ht _ _ (.inr rfl) hs.2.1, hTk s s' A B hs.1 ht _ _ (.inl rfl) hs.2.2⟩)
    (fun s A B ⟨c, hs, hb⟩ ht => ⟨c, hXT c s A B hs ht, hXk c s A B hs ht _ _ (.inr rfl) hb.1, hXk c s A B hs ht _ _ (.inl rfl) hb.2⟩) ?_ ⟨hI.alloc _ (hI.alloc _ h0), b0⟩).mono ?_
  · -- one round
    rintro s x A ⟨hi, hb⟩ hok
    refine ⟨fn, _, assign, body, run_yield hb.1 (hps x), roundIn_of_wpIn hfn (hassign _ x A _ ⟨_, run_beginRound hb.1 rfl, ?_⟩)⟩
    have hb2 : Bk .busy none (A.putObj (w.heap.size + 1) (R .busy none)) := bkP hb
    refine wpIn_mono (hbody _ s x _ (iP _ hb hi) hok) ?_
    rintro e a3 W3 hp
    cases e with
    | normal =>
      have hb3 := bkK hp.1 hb2
      exact ⟨_, _, run_endRound none hb3.1, .inl ⟨rfl, ⟨iP _ hb3 hp.2.2, bkP hb3⟩, hKt (hKb _ _ _ hi) (hKt hp.2.1 (hKc _ _ _ _ hp.2.2))⟩⟩
    | ret => have hb3 := bkK hp.1 hb2; exact ⟨_, _, run_endRound (some .ret) hb3.1, .inr ⟨rfl, ⟨.ret, ixP _ hb3 hp.2.2, bkP hb3⟩, hKt (hKb _ _ _ hi) (hKt hp.2.1 (hKx _ _ _ _ _ hp.2.2))⟩⟩
    | exit id => have hb3 := bkK hp.1 hb2; exact ⟨_, _, run_endRound (some (.exit id)) hb3.1, .inr ⟨rfl, ⟨.exit id, ixP _ hb3 hp.2.2, bkP hb3⟩, hKt (hKb _ _ _ hi) (hKt hp.2.1 (hKx _ _ _ _ _ hp.2.2))⟩⟩
    | goto t => have hb3 := bkK hp.1 hb2; exact ⟨_, _, run_endRound (some (.goto t)) hb3.1, .inr ⟨rfl, ⟨.goto t, ixP _ hb3 hp.2.2, bkP hb3⟩, hKt (hKb _ _ _ hi) (hKt hp.2.1 (hKx _ _ _ _ _ hp.2.2))⟩⟩
    | panic ch => exact hp.elim
    | outgrown => exact hp.elim
  · -- behind the iterator
    rintro e A ⟨⟨v, rfl⟩, (⟨s, hS, hi, hb⟩ | ⟨s, hSp, c, hi, hb⟩)⟩
    · exact ⟨none, _, run_endLoop hb.1 (by simp), hdone _ s _ (Nat.le_refl _) hS (iP _ hb hi) ((World.putObj_heap_other (by omega)).trans hb.2)⟩
    · exact ⟨some c, _, run_endLoop hb.1 (by simp), hstop _ c s _ (Nat.le_refl _) hSp (ixP _ hb hi) ((World.putObj_heap_other (by omega)).trans hb.2)⟩
end Go.Hay
end

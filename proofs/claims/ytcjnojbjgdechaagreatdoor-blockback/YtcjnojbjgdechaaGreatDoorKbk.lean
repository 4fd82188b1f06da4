/- What is written is read as it was; what is read is written as the same bytes, in that kind. -/
import Derived.Test.YtcjnojbjgdechaaGreatDoorB19
import Derived.Test.YtcjnojbjgdechaaGreatDoorB3
import Derived.SizedLaws
import Derived.JoinedCond
import Derived.Deep.CondSized
section
namespace Go.Proofs.YtcjnojbjgdechaaGreatDoor
open Go.RowKit Go.Hay
set_option linter.unusedVariables false
set_option linter.unusedSimpArgs false

set_option maxHeartbeats 16000000 in
set_option maxRecDepth 100000 in
theorem walkBB (k : Int) (a : Option Addr) (ca : Nat) (l : List Val) (b : Option Addr) (cb : Nat) (bs : List UInt8) (w : World) (ht0 : Tab w) (ha : Vals w a l) (hc : l.length ≤ ca) (hm : ca ≤ maxLen) (hin : ∀ x ∈ l, x.in64)
    (hb : Sees w b bs) (hcb : bs.length ≤ cb) (hmb : cb ≤ maxLen) (hbl : bs.length ≤ 200000000000000) :
    Calls Tryz.prog 6 #[.int .i64 k, .slice a l.length ca, .slice b bs.length cb] w fun e w' => e = .returned (.bool true) ∧ Kp [] w w' := by
  have hml : l.length ≤ 9223372036854775807 := by unfold maxLen at hm; omega
  have ht : Hid (∀ W, Kp [] w W → Tab W) := fun W k => ht0.kept k (by simp)
  have hal : Hid (∀ W, Kp [] w W → Calls Tryz.prog 12 #[] W fun e w' => e = .returned (.bool true) ∧ Kp [] W w') := fun W k => bAlive W (ht0.kept k (by simp))
  have hWr : Hid (∀ W, Kp [] w W → Calls Tryz.prog 10 #[.int .i64 k, .slice a l.length ca] W (BsP (wrB k l) W)) := fun W kp => cWriteB k a ca l W (ht0.kept kp (by simp)) (ha.kept kp) hc hm
  have hR : Hid (∀ W, Kp [] w W → Calls Tryz.prog 16 #[.slice b bs.length cb] W (RdP (rdR bs) W)) := fun W kp => bRead b cb bs W (ht0.kept kp (by simp)) (hb.kept kp (by simp)) hcb hmb hbl
  have hH : Hid (∀ W, Kp [] w W → Calls Tryz.prog 14 #[.slice b bs.length cb] W fun e w' => e = .returned (.tuple #[(hdP bs).1.v, .int .i64 (hdP bs).2.2]) ∧ Kp [] W w') := fun W kp => bHead b cb bs W (hb.kept kp (by simp)) hcb hmb
  have hla := hid (fun W (kp : Kp [] w W) => ha.kept kp)
  have hlb := hid (fun W (kp : Kp [] w W) => hb.kept kp (by simp))
  have hbk : Hid ((wrB k l).2 = 0 → rdR (wrB k l).1 = (l, (wrB k l).1.length, 0)) := fun h => by
    obtain ⟨h0, hr, e⟩ := wrB_ok h
    have := rdR_blk (kindW k l) l h0 hin hr []
    rw [List.append_nil] at this
    rw [e]
    exact this
  have hput : Hid (∀ L N, rdR bs = (L, N, 0) → ∃ i s, hdP bs = (i, s, 0) ∧ wrB i.kind L = (bs.take N, 0) ∧ N ≤ bs.length) := fun L N h => by
    obtain ⟨i, s, h1, h2, h3, h4, h5, h6, h7⟩ := rdR_put h
    refine ⟨i, s, by unfold hdP; rw [h1], ?_, h5⟩
    have hkb := known_bd (refE_ok h2).1
    have e : kindW i.kind L = i.kind := by unfold kindW; rw [if_neg (by omega)]
    unfold wrB
    rw [if_neg (by omega), e, if_pos h2, h4]
  have hbad := hid (rdR_bad (bs := bs))
  have hwl := wrB_le k l
  obtain ⟨⟨X, E⟩, hX⟩ : ∃ r, Hid (wrB k l = r) := ⟨_, rfl⟩
  simp only [hX.out] at hWr hbk
  rw [hX.out] at hwl
  obtain ⟨⟨L, N, F⟩, hF⟩ : ∃ r, Hid (rdR bs = r) := ⟨_, rfl⟩
  simp only [hF.out] at hR hbad hput
  unfold BsP at hWr
  unfold RdP at hR
  dsimp only at hWr hbk hR hbad hwl
  unfold maxLen at hmb
  clear ht0 ha hb hX hF
  go_enter Tryz.func6, Tryz.ntmps6
  go_wp2_with fail
  refine (hal.out w (Kp.refl _ _)).mono ?_
  rintro e w0 ⟨rfl, kw0⟩
  have cW := hWr.out w0 kw0
  clear hWr
  go_wp2_with fail
  refine cW.mono ?_
  rintro e w1 ⟨b1, c1, rfl, hrow1, k1, hn1⟩
  have kw1 := kw0.trans k1 (by simp)
  clear cW k1 hn1
  by_cases hE0 : E = 0
  · subst hE0
    obtain ⟨hs1, hc1, hm1⟩ := rowSee hrow1
    have cR1 := bRead b1 c1 X w1 (ht.out w1 kw1) hs1 hc1 hm1 (by omega)
    rw [hbk.out rfl] at cR1
    unfold RdP at cR1
    dsimp only at cR1
    clear hbk hs1 hrow1
    unfold maxLen at hm1
    go_wp2_with fail
    refine cR1.mono ?_
    rintro e w2 ⟨a2, c2, rfl, hrow2, k2, hn2⟩
    have kw2 := kw1.trans k2 (by simp)
    obtain ⟨hv2, hl2, hm2⟩ := rowVals hrow2
    have cS := cSame a2 a c2 ca l l w2 hv2 (hla.out w2 kw2) hml hml
    rw [sameV_self] at cS
    clear cR1 hrow2 hn2 hv2 k2
    go_wp2_with fail
    refine cS.mono ?_
    rintro e w3 ⟨rfl, k3⟩
    have kw3 := kw2.trans k3 (by simp)
    clear cS k3 kw2 kw1
    have cR := hR.out w3 kw3
    clear hR
    go_wp2_with fail
    refine cR.mono ?_
    rintro e w4 ⟨a4, c4, rfl, hrow4, k4, hn4⟩
    have kw4 := (kw3).trans k4 (by simp)
    clear cR k4 hn4
    by_cases hF0 : F = 0
    · subst hF0
      obtain ⟨⟨iK, iM, ⟨mk, mb, mn, mt⟩, ⟨xk, xb, xn, xt⟩, iN, iB⟩, s, hP, hwr, hNl⟩ := hput.out L N rfl
      have cH := hH.out w4 kw4
      rw [hP] at cH
      unfold Inf.v Inf.cs at cH
      dsimp only at cH hwr
      obtain ⟨hv4, hl4, hm4⟩ := rowVals hrow4
      have hwr' := hid hwr
      have hv4' := hid hv4
      have hm4' := hid hm4
      unfold maxLen at hm4
      clear hP hwr hput hH hbad hv4 hrow4
      go_wp2_with fail
      refine cH.mono ?_
      rintro e w5 ⟨rfl, k5⟩
      have kw5 := kw4.trans k5 (by simp)
      obtain ⟨w6, hw6, k6, bI⟩ : ∃ w6, w5.alloc (.cells #[.int .i64 0, .int .i64 0, .int .i64 0, .bool false, .int .i64 0, .string ⟨#[]⟩, .int .i64 0, .bool false, .int .i64 0, .string ⟨#[]⟩, .int .i64 0, .int .i64 0] 34) = w6 ∧ Kp [] w5 w6 ∧ Bx w6 w5.heap.size [.int .i64 0, .int .i64 0, .int .i64 0, .bool false, .int .i64 0, .string ⟨#[]⟩, .int .i64 0, .bool false, .int .i64 0, .string ⟨#[]⟩, .int .i64 0, .int .i64 0] := ⟨_, rfl, (Kp.refl _ _).alloc _, Bx.new w5 _ _⟩
      obtain ⟨qi, hqi⟩ : ∃ q, Hid (w5.heap.size = q) := ⟨_, rfl⟩
      rw [hqi.out] at bI
      have p0 := bI.get 0 _ rfl; have f0 := bI.free 0
      have p1 := bI.get 1 _ rfl; have f1 := bI.free 1
      have p2 := bI.get 2 _ rfl; have f2 := bI.free 2
      have p3 := bI.get 3 _ rfl; have f3 := bI.free 3
      have p4 := bI.get 4 _ rfl; have f4 := bI.free 4
      have p5 := bI.get 5 _ rfl; have f5 := bI.free 5
      have p6 := bI.get 6 _ rfl; have f6 := bI.free 6
      have p7 := bI.get 7 _ rfl; have f7 := bI.free 7
      have p8 := bI.get 8 _ rfl; have f8 := bI.free 8
      have p9 := bI.get 9 _ rfl; have f9 := bI.free 9
      have p10 := bI.get 10 _ rfl; have f10 := bI.free 10
      have p11 := bI.get 11 _ rfl; have f11 := bI.free 11
      obtain ⟨W, hW, bW, kW⟩ : ∃ Y9, ((((((((((((w6.setCell ⟨qi, 0, none⟩ (.int .i64 iK)).setCell ⟨qi, 1, none⟩ (.int .i64 iM)).setCell ⟨qi, 2, none⟩ (.int .i64 mk)).setCell ⟨qi, 3, none⟩ (.bool mb)).setCell ⟨qi, 4, none⟩ (.int .i64 mn)).setCell ⟨qi, 5, none⟩ (.string mt)).setCell ⟨qi, 6, none⟩ (.int .i64 xk)).setCell ⟨qi, 7, none⟩ (.bool xb)).setCell ⟨qi, 8, none⟩ (.int .i64 xn)).setCell ⟨qi, 9, none⟩ (.string xt)).setCell ⟨qi, 10, none⟩ (.int .i64 iN)).setCell ⟨qi, 11, none⟩ (.int .i64 iB)) = Y9 ∧ Bx Y9 qi [.int .i64 iK, .int .i64 iM, .int .i64 mk, .bool mb, .int .i64 mn, .string mt, .int .i64 xk, .bool xb, .int .i64 xn, .string xt, .int .i64 iN, .int .i64 iB] ∧ Kp [qi] w6 Y9 := ⟨_, rfl, gen12q (R := fun Y9 => Bx Y9 qi [.int .i64 iK, .int .i64 iM, .int .i64 mk, .bool mb, .int .i64 mn, .string mt, .int .i64 xk, .bool xb, .int .i64 xn, .string xt, .int .i64 iN, .int .i64 iB]) bI rfl (.int .i64 iK) (.int .i64 iM) (.int .i64 mk) (.bool mb) (.int .i64 mn) (.string mt) (.int .i64 xk) (.bool xb) (.int .i64 xn) (.string xt) (.int .i64 iN) (.int .i64 iB) (fun Y9 b _ => b), gen12q (R := fun Y9 => Kp [qi] w6 Y9) bI rfl (.int .i64 iK) (.int .i64 iM) (.int .i64 mk) (.bool mb) (.int .i64 mn) (.string mt) (.int .i64 xk) (.bool xb) (.int .i64 xn) (.string xt) (.int .i64 iN) (.int .i64 iB) (fun Y9 _ k => k)⟩
      have k56 : Kp [] w5 W := k6.trans kW (fun x hx => .inr (by simp at hx; rw [hx, ← hqi.out]; exact Nat.le_refl _))
      have kkW := hid (kw5.trans k56 (by simp))
      have u0 := bW.get 0 _ rfl
      have cW2 := cWriteB iK a4 c4 L W (ht.out W kkW.out) (hv4'.out.kept (k5.trans k56 (by simp))) hl4 hm4'.out
      rw [hwr'.out] at cW2
      unfold BsP at cW2
      dsimp only at cW2
      rw [List.length_take, Nat.min_eq_left hNl] at cW2
      have hqi' := hqi.out
      clear cH k5 kw5 k6 bI kW bW k56 hv4' hm4'
      go_wp2_with fail
      refine cW2.mono ?_
      rintro e w7 ⟨b7, c7, rfl, hrow7, k7, hn7⟩
      have kw7 := kkW.out.trans k7 (by simp)
      have hlt : (bs.take N).length = N := by rw [List.length_take]; omega
      have hrow8 : Row w7 (.slice b7 (bs.take N).length c7) (bs.take N) := by rw [hlt]; exact hrow7
      obtain ⟨hs7, _, _⟩ := rowSee hrow8
      have cv1 : ∀ n, (convert 24 9 (.slice b7 N c7)).run Tryz.prog (w7.drewN n) = .ok (.string ⟨(bs.take N).toArray⟩) (w7.drewN n) := fun n => by
        have := convSees (w := w7.drewN n) hs7 c7
        rwa [hlt] at this
      have cv2 : ∀ n, (convert 24 9 (.slice b N cb)).run Tryz.prog (w7.drewN n) = .ok (.string ⟨(bs.take N).toArray⟩) (w7.drewN n) := fun n => by
        have := convSees (w := w7.drewN n) ((hlb.out w7 kw7).front N) cb
        rwa [hlt] at this
      obtain ⟨ST, hST⟩ : ∃ s, Hid ((⟨(bs.take N).toArray⟩ : ByteArray) = s) := ⟨_, rfl⟩
      simp only [hST.out] at cv1 cv2
      have z1 : (N : Int) ≤ (cb : Int) := by omega
      have z2 : N ≤ cb := by omega
      have kk7 := hid kw7
      clear cW2 hrow7 hrow8 k7 hn7 hlt hs7 kw7 p0 f0 p1 f1 p2 f2 p3 f3 p4 f4 p5 f5 p6 f6 p7 f7 p8 f8 p9 f9 p10 f10 p11 f11 hW hw6 u0 hST
      go_wp2_with fail
      go_quiet (fail)
      go_wp2_with fail
      go_ret
      exact ⟨rfl, kk7.out.drewN _⟩
    · have d5 : (F != 0) = true := by simpa using hF0
      obtain ⟨e1, e2⟩ := hbad.out hF0
      subst e1
      subst e2
      have kk4 := hid kw4
      clear hrow4 hbad hput hH kw4
      go_wp2_with fail
      go_ret
      exact ⟨rfl, kk4.out⟩
  · have d7 : (E == 0) = false := by simpa using hE0
    clear hbk hrow1
    have cR := hR.out w1 kw1
    clear hR
    go_wp2_with fail
    refine cR.mono ?_
    rintro e w4 ⟨a4, c4, rfl, hrow4, k4, hn4⟩
    have kw4 := (kw1).trans k4 (by simp)
    clear cR k4 hn4
    by_cases hF0 : F = 0
    · subst hF0
      obtain ⟨⟨iK, iM, ⟨mk, mb, mn, mt⟩, ⟨xk, xb, xn, xt⟩, iN, iB⟩, s, hP, hwr, hNl⟩ := hput.out L N rfl
      have cH := hH.out w4 kw4
      rw [hP] at cH
      unfold Inf.v Inf.cs at cH
      dsimp only at cH hwr
      obtain ⟨hv4, hl4, hm4⟩ := rowVals hrow4
      have hwr' := hid hwr
      have hv4' := hid hv4
      have hm4' := hid hm4
      unfold maxLen at hm4
      clear hP hwr hput hH hbad hv4 hrow4
      go_wp2_with fail
      refine cH.mono ?_
      rintro e w5 ⟨rfl, k5⟩
      have kw5 := kw4.trans k5 (by simp)
      obtain ⟨w6, hw6, k6, bI⟩ : ∃ w6, w5.alloc (.cells #[.int .i64 0, .int .i64 0, .int .i64 0, .bool false, .int .i64 0, .string ⟨#[]⟩, .int .i64 0, .bool false, .int .i64 0, .string ⟨#[]⟩, .int .i64 0, .int .i64 0] 34) = w6 ∧ Kp [] w5 w6 ∧ Bx w6 w5.heap.size [.int .i64 0, .int .i64 0, .int .i64 0, .bool false, .int .i64 0, .string ⟨#[]⟩, .int .i64 0, .bool false, .int .i64 0, .string ⟨#[]⟩, .int .i64 0, .int .i64 0] := ⟨_, rfl, (Kp.refl _ _).alloc _, Bx.new w5 _ _⟩
      obtain ⟨qi, hqi⟩ : ∃ q, Hid (w5.heap.size = q) := ⟨_, rfl⟩
      rw [hqi.out] at bI
      have p0 := bI.get 0 _ rfl; have f0 := bI.free 0
      have p1 := bI.get 1 _ rfl; have f1 := bI.free 1
      have p2 := bI.get 2 _ rfl; have f2 := bI.free 2
      have p3 := bI.get 3 _ rfl; have f3 := bI.free 3
      have p4 := bI.get 4 _ rfl; have f4 := bI.free 4
      have p5 := bI.get 5 _ rfl; have f5 := bI.free 5
      have p6 := bI.get 6 _ rfl; have f6 := bI.free 6
      have p7 := bI.get 7 _ rfl; have f7 := bI.free 7
      have p8 := bI.get 8 _ rfl; have f8 := bI.free 8
      have p9 := bI.get 9 _ rfl; have f9 := bI.free 9
      have p10 := bI.get 10 _ rfl; have f10 := bI.free 10
      have p11 := bI.get 11 _ rfl; have f11 := bI.free 11
      obtain ⟨W, hW, bW, kW⟩ : ∃ Y9, ((((((((((((w6.setCell ⟨qi, 0, none⟩ (.int .i64 iK)).setCell ⟨qi, 1, none⟩ (.int .i64 iM)).setCell ⟨qi, 2, none⟩ (.int .i64 mk)).setCell ⟨qi, 3, none⟩ (.bool mb)).setCell ⟨qi, 4, none⟩ (.int .i64 mn)).setCell ⟨qi, 5, none⟩ (.string mt)).setCell ⟨qi, 6, none⟩ (.int .i64 xk)).setCell ⟨qi, 7, none⟩ (.bool xb)).setCell ⟨qi, 8, none⟩ (.int .i64 xn)).setCell ⟨qi, 9, none⟩ (.string xt)).setCell ⟨qi, 10, none⟩ (.int .i64 iN)).setCell ⟨qi, 11, none⟩ (.int .i64 iB)) = Y9 ∧ Bx Y9 qi [.int .i64 iK, .int .i64 iM, .int .i64 mk, .bool mb, .int .i64 mn, .string mt, .int .i64 xk, .bool xb, .int .i64 xn, .string xt, .int .i64 iN, .int .i64 iB] ∧ Kp [qi] w6 Y9 := ⟨_, rfl, gen12q (R := fun Y9 => Bx Y9 qi [.int .i64 iK, .int .i64 iM, .int .i64 mk, .bool mb, .int .i64 mn, .string mt, .int .i64 xk, .bool xb, .int .i64 xn, .string xt, .int .i64 iN, .int .i64 iB]) bI rfl (.int .i64 iK) (.int .i64 iM) (.int .i64 mk) (.bool mb) (.int .i64 mn) (.string mt) (.int .i64 xk) (.bool xb) (.int .i64 xn) (.string xt) (.int .i64 iN) (.int .i64 iB) (fun Y9 b _ => b), gen12q (R := fun Y9 => Kp [qi] w6 Y9) bI rfl (.int .i64 iK) (.int .i64 iM) (.int .i64 mk) (.bool mb) (.int .i64 mn) (.string mt) (.int .i64 xk) (.bool xb) (.int .i64 xn) (.string xt) (.int .i64 iN) (.int .i64 iB) (fun Y9 _ k => k)⟩
      have k56 : Kp [] w5 W := k6.trans kW (fun x hx => .inr (by simp at hx; rw [hx, ← hqi.out]; exact Nat.le_refl _))
      have kkW := hid (kw5.trans k56 (by simp))
      have u0 := bW.get 0 _ rfl
      have cW2 := cWriteB iK a4 c4 L W (ht.out W kkW.out) (hv4'.out.kept (k5.trans k56 (by simp))) hl4 hm4'.out
      rw [hwr'.out] at cW2
      unfold BsP at cW2
      dsimp only at cW2
      rw [List.length_take, Nat.min_eq_left hNl] at cW2
      have hqi' := hqi.out
      clear cH k5 kw5 k6 bI kW bW k56 hv4' hm4'
      go_wp2_with fail
      refine cW2.mono ?_
      rintro e w7 ⟨b7, c7, rfl, hrow7, k7, hn7⟩
      have kw7 := kkW.out.trans k7 (by simp)
      have hlt : (bs.take N).length = N := by rw [List.length_take]; omega
      have hrow8 : Row w7 (.slice b7 (bs.take N).length c7) (bs.take N) := by rw [hlt]; exact hrow7
      obtain ⟨hs7, _, _⟩ := rowSee hrow8
      have cv1 : ∀ n, (convert 24 9 (.slice b7 N c7)).run Tryz.prog (w7.drewN n) = .ok (.string ⟨(bs.take N).toArray⟩) (w7.drewN n) := fun n => by
        have := convSees (w := w7.drewN n) hs7 c7
        rwa [hlt] at this
      have cv2 : ∀ n, (convert 24 9 (.slice b N cb)).run Tryz.prog (w7.drewN n) = .ok (.string ⟨(bs.take N).toArray⟩) (w7.drewN n) := fun n => by
        have := convSees (w := w7.drewN n) ((hlb.out w7 kw7).front N) cb
        rwa [hlt] at this
      obtain ⟨ST, hST⟩ : ∃ s, Hid ((⟨(bs.take N).toArray⟩ : ByteArray) = s) := ⟨_, rfl⟩
      simp only [hST.out] at cv1 cv2
      have z1 : (N : Int) ≤ (cb : Int) := by omega
      have z2 : N ≤ cb := by omega
      have kk7 := hid kw7
      clear cW2 hrow7 hrow8 k7 hn7 hlt hs7 kw7 p0 f0 p1 f1 p2 f2 p3 f3 p4 f4 p5 f5 p6 f6 p7 f7 p8 f8 p9 f9 p10 f10 p11 f11 hW hw6 u0 hST
      go_wp2_with fail
      go_quiet (fail)
      go_wp2_with fail
      go_ret
      exact ⟨rfl, kk7.out.drewN _⟩
    · have d5 : (F != 0) = true := by simpa using hF0
      obtain ⟨e1, e2⟩ := hbad.out hF0
      subst e1
      subst e2
      have kk4 := hid kw4
      clear hrow4 hbad hput hH kw4
      go_wp2_with fail
      go_ret
      exact ⟨rfl, kk4.out⟩
theorem backWalk7 (k : Int) (a : Option Addr) (len ca : Nat) (l : List Val) (b : Option Addr) (nb cb : Nat) (bs : List UInt8) (w : World) (ht : Tab w) (hs : Vals w a l) (hlen : len = l.length) (hl : l.length ≤ ca) (hm : ca ≤ maxLen) (hin : ∀ x ∈ l, x.in64)
    (hb : Sees w b bs) (hnb : nb = bs.length) (hcb : bs.length ≤ cb) (hrb : cb ≤ 140737488351232) :
    Calls Tryz.prog 6 #[.int .i64 k, .slice a len ca, .slice b nb cb] w fun e w' => e = .returned (.bool true) ∧ Below w.heap.size w w' := by
  subst hlen hnb
  exact (walkBB k a ca l b cb bs w ht hs hl hm hin hb hcb (by unfold maxLen; omega) (by omega)).mono fun e w' ⟨h1, h2⟩ => ⟨h1, h2.below⟩
end Go.Proofs.YtcjnojbjgdechaaGreatDoor
end

section
namespace Go.Proofs.YtcjnojbjgdechaaGreatDoor
open Go.ChangeShapes Go.WideShapes Go.ChangeAt Go.RowKit Go.Hay
set_option linter.unusedVariables false

set_option maxRecDepth 100000 in
theorem blockBackContract (H : Type) (enc : TypeId × Value → H) (W : World) (base : Nat) (args : Array Value) (ds gs : List (DataW H)) (before : List MemPlace)
    (hval : ∀ (j : Nat) t v, Tryz.f6.params[j]? = some t → args[j]? = some v → Value.okWide Tryz.prog W .any base t v)
    (hW : DataW.Whole enc Tryz.prog Tryz.f6.params.toList Rows.blockBackSpec.vars false W args.toList ds gs before)
    (hsz : (DataW.weightsEach Tryz.prog (Tryz.f6.params.toList ++ (OpenSpec.ofChange Rows.blockBackSpec).bare.plain.varTypes Tryz.prog) (ds ++ gs)).all (· ≤ reachBytes) = true)
    (hL : laidMetH Tryz.prog Rows.blockBackRow.laid W) :
    Calls Tryz.prog 6 args W fun e W' => ∃ v, e = .returned v ∧ Rows.blockBackSpec.post enc Tryz.prog Tryz.f6 false true false false W args v W' := by
  have hW' := hW
  obtain ⟨p, q, hA0, hV, rfl, hfz, hnd⟩ := hW
  have hA : DataW.TrodAll enc Tryz.prog W 0 (fun _ => true) true Tryz.f6.params.toList args.toList ds p := hA0
  rw [Tryz.params6] at hA hval hsz
  obtain ⟨v0, vs0, d0, ds0, p0, q0, hargs, rfl, rfl, h0, r0⟩ := trodAll_cons hA
  obtain ⟨v1, vs1, d1, ds1, p1, q1, rfl, rfl, rfl, h1, r1⟩ := trodAll_cons r0
  obtain ⟨v2, vs2, d2, ds2, p2, q2, rfl, rfl, rfl, h2, r2⟩ := trodAll_cons r1
  obtain ⟨rfl, rfl, rfl⟩ := trodAll_nil r2
  obtain rfl : args = #[v0, v1, v2] := by cases args; simp_all
  obtain ⟨rfl, rfl⟩ := trodVars_none hV
  obtain ⟨a0, rfl, rfl, rfl, w0⟩ := open_int Tryz.underlying3 (hval 0 3 v0 rfl rfl) h0
  have hb0 := bounds_i64 w0
  obtain ⟨a1, len1, cap1, rfl⟩ := okWide_slice Tryz.underlying22 (hval 1 22 v1 rfl rfl)
  have k1 := h1
  have lt1 : ∀ x ∈ p1, x.block < W.heap.size := by obtain ⟨m, hm⟩ := k1; exact DataW.trod_lt m _ _ _ hm
  obtain ⟨l1, hlen1, hs1, hl1, hm1, hok1⟩ := openVals h1
  obtain ⟨a2, len2, cap2, rfl⟩ := okWide_slice Tryz.underlying24 (hval 2 24 v2 rfl rfl)
  have k2 := h2
  have lt2 : ∀ x ∈ p2, x.block < W.heap.size := by obtain ⟨m, hm⟩ := k2; exact DataW.trod_lt m _ _ _ hm
  obtain ⟨bs2, hlen2, hs2, hl2, hm2, hcap2⟩ := openBytes h2
  have hr2 := reachBytesOf (d := d2) (List.all_eq_true.2 fun x hx => List.all_eq_true.1 hsz x (by simp [DataW.weightsEach]; first | exact .inl hx | exact .inr hx | exact .inr (.inl hx) | exact .inr (.inr hx) | exact hx))
  clear hA0
  refine (backWalk7 a0 a1 len1 cap1 l1 a2 len2 cap2 bs2 W (table hL) hs1 hlen1 hl1 hm1 (fun x hx => (hok1 x hx).2.1) hs2 hlen2 hl2 (by omega)).mono fun e W' ⟨he, bel⟩ => ?_
  subst he
  exact ⟨_, rfl, _, _, _, [], _, [], hW', trodAll_mk1 (shut_bool Tryz.underlying4 _), (trodAll_cons_mk (shut_int Tryz.underlying3 w0) (trodAll_cons_mk (Below.trod Tryz.laidOut (by kernel_rfl) (of_decide_eq_true (by kernel_rfl)) k1 bel lt1) (trodAll_cons_mk (Below.trod Tryz.laidOut (by kernel_rfl) (of_decide_eq_true (by kernel_rfl)) k2 bel lt2) trodAll_mk0))), rfl, bel.frame _, fun h => by cases h⟩

set_option maxRecDepth 100000 in
theorem blockBackLifted (os : Os) (started : os.Started) (H : Type) (enc : TypeId × Value → H) (F : Stop.Interp) :
    ReturnsInHanded {} Tryz.checked os 6 .any ((OpenSpec.ofChange Rows.blockBackSpec).preRow enc Tryz.prog Tryz.f6 Rows.blockBackRow.domain false Rows.blockBackRow.laid) (((OpenSpec.ofChange Rows.blockBackSpec).at F).post enc Tryz.prog Tryz.f6 false true false false) := by
  refine returnsInHanded_of_row (C := Tryz.checked) (s := OpenSpec.ofChange Rows.blockBackSpec) Tryz.own started (by kernel_rfl) Tryz.func6
    (witness_row_at (enc := enc) (C := Tryz.checked) false ({ World.holding Tryz.prog os ⟨#[], #[], []⟩ with heap := (World.holding Tryz.prog os ⟨#[], #[], []⟩).heap.modify 0 fun
      | .cells _ t frozen => .cells tabCells t frozen
      | o => o }) #[.int .i64 0, .slice none 0 0, .slice none 0 0] rfl (by kernel_rfl) (by kernel_rfl) (by kernel_rfl)
      (OpenSpec.preRow_of_cond (x := ([.lit (.int .i64 0), .nil, .nil], [], [])) 8 (by kernel_rfl) (by kernel_rfl) (fun k hk => by cases hk) (by kernel_rfl) (laidMet_of_run' 8 (by kernel_rfl) (by kernel_rfl)))) ?_
  intro W base args ds gs before hval hW _ hcond hsz hL _ _
  exact blockBackContract H enc W base args ds gs before hval hW hsz hL

theorem blockBackSaid : Rows.BlockBackSaid :=
  OpenClaim.holds_of_cond 6 Tryz.f6 rfl rfl rfl rfl rfl rfl rfl ⟨rfl, rfl, rfl, rfl, rfl⟩ rfl rfl rfl rfl rfl (by kernel_rfl) Tryz.func6 (by kernel_rfl)
    (of_decide_eq_true (by kernel_rfl)) (by unfold Func.isWrapper; first | (rw [if_pos (by decide +kernel)]; kernel_rfl) | (rw [if_neg (by decide +kernel)]; exact ⟨rfl, rfl⟩))
    (fun os started H enc _ F => by rw [OpenClaim.pre_eq_preRow]; exact blockBackLifted os started H enc F)

theorem blockBackPlain (f : FuncId) (fn : Func) (hf : Tryz.pinned.checked.prog.funcNamed "hayloft/hayloftlaw07.BlockBack" = some f) (hfn : Tryz.pinned.checked.prog.funcs[f]? = some fn) :
    false = Tryz.pinned.checked.prog.looks [] ∧ ∀ (j : Nat) t, fn.params[j]? = some t → Tryz.pinned.checked.prog.wantsStandIn t = false := by
  obtain rfl : f = 6 := Option.some.inj ((show Tryz.prog.funcNamed "hayloft/hayloftlaw07.BlockBack" = some 6 by kernel_rfl).symm.trans hf) |>.symm
  obtain rfl : fn = Tryz.f6 := (Option.some.inj (Tryz.func6.symm.trans hfn)).symm
  refine ⟨by kernel_rfl, fun j t ht => ?_⟩
  rw [Tryz.params6] at ht
  have hm := Array.mem_of_getElem? ht
  have h2 : t = 3 ∨ t = 22 ∨ t = 24 := by simpa using hm
  rcases h2 with rfl | rfl | rfl
  · exact (show Tryz.prog.wantsStandIn 3 = false by kernel_rfl)
  · exact (show Tryz.prog.wantsStandIn 22 = false by kernel_rfl)
  · exact (show Tryz.prog.wantsStandIn 24 = false by kernel_rfl)

theorem BlockBack_holds : Rows.BlockBackCardSaid :=
  Claim7.holds_tied_plain_at .later [] _ _ _ _ blockBackSaid (fun _ h => by cases h) (by kernel_rfl) (fun _ h => by cases h) blockBack_row_tie rfl ⟨rfl, rfl⟩ (by kernel_rfl) rfl blockBackPlain (by kernel_rfl)
#print axioms BlockBack_holds
end Go.Proofs.YtcjnojbjgdechaaGreatDoor
end

/- All bytes are read as the block that they begin with, its head and its values, or refused, as the document says. -/
import Derived.Test.YtcjnojbjgdechaaGreatDoorB18
import Derived.Test.YtcjnojbjgdechaaGreatDoorB15
import Derived.Deep.RegionHeld3
import Derived.Test.YtcjnojbjgdechaaGreatDoorB19
import Derived.Test.YtcjnojbjgdechaaGreatDoorB3
import Derived.SizedLaws
import Derived.JoinedCond
import Derived.Deep.CondSized
section
namespace Go.Proofs.YtcjnojbjgdechaaGreatDoor
open Go.RowKit Go.Hay
set_option linter.unusedVariables false
set_option linter.unusedSimpArgs false

theorem hdR_short (bs : List UInt8) (h : bs.length < 3) : hdR bs = none := by unfold hdR; rw [if_pos (.inl h)]
theorem hdR_first (bs : List UInt8) (h : 4 < (bs.getD 0 0).toNat ∨ (bs.getD 1 0).toNat = 0 ∨ 64 < (bs.getD 1 0).toNat ∨ (bs.getD 1 0).toNat < (bs.getD 2 0).toNat) : hdR bs = none := by unfold hdR; rw [if_pos (.inr h)]
set_option maxHeartbeats 64000000 in
set_option maxRecDepth 100000 in
theorem rHeadS (a : Option Addr) (c : Nat) (bs : List UInt8) (w : World) (hs : Sees w a bs) (hl : bs.length ≤ c) (hm : c ≤ maxLen) (h3 : bs.length < 3) :
    Calls Tryz.prog 15 #[.slice a bs.length c] w (HdP (hdP bs) w) := by
  obtain ⟨w0, hw0, kw0, bR⟩ : ∃ w0, w.alloc (.cells #[.int .i64 0, .int .i64 0, .int .i64 0, .bool false, .int .i64 0, .string ⟨#[]⟩, .int .i64 0, .bool false, .int .i64 0, .string ⟨#[]⟩, .int .i64 0, .int .i64 0] 37) = w0 ∧ Kp [] w w0 ∧ Bx w0 w.heap.size [.int .i64 0, .int .i64 0, .int .i64 0, .bool false, .int .i64 0, .string ⟨#[]⟩, .int .i64 0, .bool false, .int .i64 0, .string ⟨#[]⟩, .int .i64 0, .int .i64 0] := ⟨_, rfl, (Kp.refl _ _).alloc _, Bx.new w _ _⟩
  obtain ⟨q, hq⟩ : ∃ q, Hid (w.heap.size = q) := ⟨_, rfl⟩
  have hqw : w.heap.size ≤ q := by rw [hq.out]; omega
  rw [hq.out] at bR
  have d1 : (bs.length : Int) < 3 := by omega
  have d1' : decide ((bs.length : Int) < 3) = true := by simpa using d1
  have hbR := hid bR
  have hkw := hid kw0
  have hq' := hq.out
  clear bR kw0 hs
  go_enter Tryz.func15, Tryz.ntmps15
  go_wp2_with fail
  go_quiet (fail)
  have bRq := hid (hbR.out.kept ((Kp.refl [] w0).drewN nq) (by simp) (hbR.out.lt (by simp)))
  have kq := hid (hkw.out.drewN nq)
  generalize w0.drewN nq = wq at *
  have hnone : Hid (hdR bs = none) := hdR_short bs h3
  have p0 := bRq.out.get 0 _ rfl; have f0 := bRq.out.free 0
  have p1 := bRq.out.get 1 _ rfl; have f1 := bRq.out.free 1
  have p2 := bRq.out.get 2 _ rfl; have f2 := bRq.out.free 2
  have p3 := bRq.out.get 3 _ rfl; have f3 := bRq.out.free 3
  have p4 := bRq.out.get 4 _ rfl; have f4 := bRq.out.free 4
  have p5 := bRq.out.get 5 _ rfl; have f5 := bRq.out.free 5
  have p6 := bRq.out.get 6 _ rfl; have f6 := bRq.out.free 6
  have p7 := bRq.out.get 7 _ rfl; have f7 := bRq.out.free 7
  have p8 := bRq.out.get 8 _ rfl; have f8 := bRq.out.free 8
  have p9 := bRq.out.get 9 _ rfl; have f9 := bRq.out.free 9
  have p10 := bRq.out.get 10 _ rfl; have f10 := bRq.out.free 10
  have p11 := bRq.out.get 11 _ rfl; have f11 := bRq.out.free 11
  obtain ⟨W, hW, bW, kW⟩ : ∃ Y9, ((((((((((((wq.setCell ⟨q, 0, none⟩ (.int .i64 0)).setCell ⟨q, 1, none⟩ (.int .i64 0)).setCell ⟨q, 2, none⟩ (.int .i64 0)).setCell ⟨q, 3, none⟩ (.bool false)).setCell ⟨q, 4, none⟩ (.int .i64 0)).setCell ⟨q, 5, none⟩ (.string ⟨#[]⟩)).setCell ⟨q, 6, none⟩ (.int .i64 0)).setCell ⟨q, 7, none⟩ (.bool false)).setCell ⟨q, 8, none⟩ (.int .i64 0)).setCell ⟨q, 9, none⟩ (.string ⟨#[]⟩)).setCell ⟨q, 10, none⟩ (.int .i64 0)).setCell ⟨q, 11, none⟩ (.int .i64 0)) = Y9 ∧ Bx Y9 q [.int .i64 0, .int .i64 0, .int .i64 0, .bool false, .int .i64 0, .string ⟨#[]⟩, .int .i64 0, .bool false, .int .i64 0, .string ⟨#[]⟩, .int .i64 0, .int .i64 0] ∧ Kp [q] wq Y9 := ⟨_, rfl, gen12q (R := fun Y9 => Bx Y9 q [.int .i64 0, .int .i64 0, .int .i64 0, .bool false, .int .i64 0, .string ⟨#[]⟩, .int .i64 0, .bool false, .int .i64 0, .string ⟨#[]⟩, .int .i64 0, .int .i64 0]) bRq.out rfl (.int .i64 0) (.int .i64 0) (.int .i64 0) (.bool false) (.int .i64 0) (.string ⟨#[]⟩) (.int .i64 0) (.bool false) (.int .i64 0) (.string ⟨#[]⟩) (.int .i64 0) (.int .i64 0) (fun Y9 b _ => b), gen12q (R := fun Y9 => Kp [q] wq Y9) bRq.out rfl (.int .i64 0) (.int .i64 0) (.int .i64 0) (.bool false) (.int .i64 0) (.string ⟨#[]⟩) (.int .i64 0) (.bool false) (.int .i64 0) (.string ⟨#[]⟩) (.int .i64 0) (.int .i64 0) (fun Y9 _ k => k)⟩
  have r0 := bW.get 0 _ rfl
  have r1 := bW.get 1 _ rfl
  have r2 := bW.get 2 _ rfl
  have r3 := bW.get 3 _ rfl
  have r4 := bW.get 4 _ rfl
  have r5 := bW.get 5 _ rfl
  have r6 := bW.get 6 _ rfl
  have r7 := bW.get 7 _ rfl
  have r8 := bW.get 8 _ rfl
  have r9 := bW.get 9 _ rfl
  have r10 := bW.get 10 _ rfl
  have r11 := bW.get 11 _ rfl
  have kkW := hid (kq.out.trans kW (fun x hx => .inr (by simp at hx; omega)))
  clear kW bW
  go_wp2_with fail
  refine bodyPost_ret (v := .tuple #[zeroI.v, .int .i64 0, .int .i64 70]) (by rw [zeroI_v]; simp [results, Tryz.results15, go_sem, r0, r1, r2, r3, r4, r5, r6, r7, r8, r9, r10, r11]) rfl ?_
  unfold HdP
  have e70 : hdP bs = (zeroI, 0, 70) := by unfold hdP; rw [hnone.out]
  rw [e70]
  exact ⟨rfl, kkW.out⟩
set_option maxHeartbeats 64000000 in
set_option maxRecDepth 100000 in
theorem rHeadL (a : Option Addr) (c : Nat) (k m n : UInt8) (r bs : List UInt8) (hbs : bs = k :: m :: n :: r) (w : World) (hs : Sees w a bs) (hl : bs.length ≤ c) (hm : c ≤ maxLen) (hb2 : bs.length ≤ 200000000000000) :
    Calls Tryz.prog 15 #[.slice a bs.length c] w (HdP (hdP bs) w) := by
  obtain ⟨w0, hw0, kw0, bR⟩ : ∃ w0, w.alloc (.cells #[.int .i64 0, .int .i64 0, .int .i64 0, .bool false, .int .i64 0, .string ⟨#[]⟩, .int .i64 0, .bool false, .int .i64 0, .string ⟨#[]⟩, .int .i64 0, .int .i64 0] 37) = w0 ∧ Kp [] w w0 ∧ Bx w0 w.heap.size [.int .i64 0, .int .i64 0, .int .i64 0, .bool false, .int .i64 0, .string ⟨#[]⟩, .int .i64 0, .bool false, .int .i64 0, .string ⟨#[]⟩, .int .i64 0, .int .i64 0] := ⟨_, rfl, (Kp.refl _ _).alloc _, Bx.new w _ _⟩
  obtain ⟨q, hq⟩ : ∃ q, Hid (w.heap.size = q) := ⟨_, rfl⟩
  have hqw : w.heap.size ≤ q := by rw [hq.out]; omega
  rw [hq.out] at bR
  obtain ⟨g, o, rfl, hc⟩ : ∃ g o, a = some ⟨g, o, none⟩ ∧ ∀ j u, bs[j]? = some u → w.cell? ⟨g, o + j, none⟩ = some (.int .u8 u.toNat) := by
    rcases hs with h | h
    · rw [hbs] at h; cases h
    · exact h
  have hs' : Sees w (some ⟨g, o, none⟩) bs := .inr ⟨g, o, rfl, hc⟩
  have hlen : bs.length = r.length + 3 := by rw [hbs]; simp
  have hat : Hid (∀ W, Kp [] w W → W.cell? ⟨g, o, none⟩ = some (.int .u8 k.toNat) ∧ W.cell? ⟨g, o + 1, none⟩ = some (.int .u8 m.toNat) ∧ W.cell? ⟨g, o + 2, none⟩ = some (.int .u8 n.toNat)) := fun W kW => ⟨kpAt kW (hc 0 k (by rw [hbs]; rfl)), kpAt kW (hc 1 m (by rw [hbs]; rfl)), kpAt kW (hc 2 n (by rw [hbs]; rfl))⟩
  have hg : Hid ((bs.getD 0 0) = k ∧ (bs.getD 1 0) = m ∧ (bs.getD 2 0) = n) := by rw [hbs]; exact ⟨rfl, rfl, rfl⟩
  have hkl := k.toNat_lt
  have hml := m.toNat_lt
  have hnl := n.toNat_lt
  have hsB := hid (fun W (kW : Kp [] w W) => hs'.kept kW (by simp))
  have hlh := hid hlen
  have hlb : 3 ≤ bs.length := by omega
  have hfirst : Hid (4 < k.toNat ∨ m.toNat = 0 ∨ 64 < m.toNat ∨ m.toNat < n.toNat → hdR bs = none) := fun h => hdR_first bs (by rw [hg.out.1, hg.out.2.1, hg.out.2.2]; exact h)
  have hsome : Hid (¬ (4 < k.toNat ∨ m.toNat = 0 ∨ 64 < m.toNat ∨ m.toNat < n.toNat) → hdR bs = if (rowF (bs.drop 3)).2 = 0 then none
      else if (rowF (bs.drop (3 + (rowF (bs.drop 3)).2))).2 = 0 ∨ bs.length < 3 + (rowF (bs.drop 3)).2 + (rowF (bs.drop (3 + (rowF (bs.drop 3)).2))).2 + 2 then none
      else if bs.length < endR bs (3 + (rowF (bs.drop 3)).2 + (rowF (bs.drop (3 + (rowF (bs.drop 3)).2))).2) then none
      else some (⟨k.toNat, m.toNat, (rowF (bs.drop 3)).1, (rowF (bs.drop (3 + (rowF (bs.drop 3)).2))).1, n.toNat, endR bs (3 + (rowF (bs.drop 3)).2 + (rowF (bs.drop (3 + (rowF (bs.drop 3)).2))).2)⟩, 3 + (rowF (bs.drop 3)).2 + (rowF (bs.drop (3 + (rowF (bs.drop 3)).2))).2 + 2)) := fun h => by
    unfold hdR
    rw [hg.out.1, hg.out.2.1, hg.out.2.2, if_neg (fun h' => by rcases h' with h' | h'; omega; exact h h')]
  obtain ⟨K, hK⟩ : ∃ x : Nat, Hid (k.toNat = x) := ⟨_, rfl⟩
  obtain ⟨M, hM⟩ : ∃ x : Nat, Hid (m.toNat = x) := ⟨_, rfl⟩
  obtain ⟨N, hN⟩ : ∃ x : Nat, Hid (n.toNat = x) := ⟨_, rfl⟩
  rw [hK.out] at hkl hfirst hsome
  rw [hM.out] at hml hfirst hsome
  rw [hN.out] at hnl hfirst hsome
  simp only [hK.out, hM.out, hN.out] at hat
  have d1 : ¬ (bs.length : Int) < 3 := by omega
  have d1' : decide ((bs.length : Int) < 3) = false := by simpa using d1
  have z0 : (0 : Int) < (bs.length : Int) := by omega
  have z1 : (1 : Int) < (bs.length : Int) := by omega
  have z2 : (2 : Int) < (bs.length : Int) := by omega
  have n0 : 0 < bs.length := by omega
  have n1 : 1 < bs.length := by omega
  have n2 : 2 < bs.length := by omega
  obtain ⟨x0, x1, x2⟩ := hat.out w0 kw0
  have hbR := hid bR
  have hkw := hid kw0
  have hq' := hq.out
  unfold maxLen at hm
  clear bR kw0 hs hs' hc hg hK hM hN hlen hbs
  by_cases hA : 4 < K
  · have y1 : (4 : Int) < (K : Int) := by omega
    have y1' : decide ((4 : Int) < (K : Int)) = true := by simpa using y1
    go_enter Tryz.func15, Tryz.ntmps15
    go_wp2_with fail
    go_quiet (fail)
    have bRq := hid (hbR.out.kept ((Kp.refl [] w0).drewN nq) (by simp) (hbR.out.lt (by simp)))
    have kq := hid (hkw.out.drewN nq)
    generalize w0.drewN nq = wq at *
    clear x0 x1 x2 hw0 hq'
    have hnone : Hid (hdR bs = none) := hfirst.out (.inl hA)
    have p0 := bRq.out.get 0 _ rfl; have f0 := bRq.out.free 0
    have p1 := bRq.out.get 1 _ rfl; have f1 := bRq.out.free 1
    have p2 := bRq.out.get 2 _ rfl; have f2 := bRq.out.free 2
    have p3 := bRq.out.get 3 _ rfl; have f3 := bRq.out.free 3
    have p4 := bRq.out.get 4 _ rfl; have f4 := bRq.out.free 4
    have p5 := bRq.out.get 5 _ rfl; have f5 := bRq.out.free 5
    have p6 := bRq.out.get 6 _ rfl; have f6 := bRq.out.free 6
    have p7 := bRq.out.get 7 _ rfl; have f7 := bRq.out.free 7
    have p8 := bRq.out.get 8 _ rfl; have f8 := bRq.out.free 8
    have p9 := bRq.out.get 9 _ rfl; have f9 := bRq.out.free 9
    have p10 := bRq.out.get 10 _ rfl; have f10 := bRq.out.free 10
    have p11 := bRq.out.get 11 _ rfl; have f11 := bRq.out.free 11
    obtain ⟨W, hW, bW, kW⟩ : ∃ Y9, ((((((((((((wq.setCell ⟨q, 0, none⟩ (.int .i64 0)).setCell ⟨q, 1, none⟩ (.int .i64 0)).setCell ⟨q, 2, none⟩ (.int .i64 0)).setCell ⟨q, 3, none⟩ (.bool false)).setCell ⟨q, 4, none⟩ (.int .i64 0)).setCell ⟨q, 5, none⟩ (.string ⟨#[]⟩)).setCell ⟨q, 6, none⟩ (.int .i64 0)).setCell ⟨q, 7, none⟩ (.bool false)).setCell ⟨q, 8, none⟩ (.int .i64 0)).setCell ⟨q, 9, none⟩ (.string ⟨#[]⟩)).setCell ⟨q, 10, none⟩ (.int .i64 0)).setCell ⟨q, 11, none⟩ (.int .i64 0)) = Y9 ∧ Bx Y9 q [.int .i64 0, .int .i64 0, .int .i64 0, .bool false, .int .i64 0, .string ⟨#[]⟩, .int .i64 0, .bool false, .int .i64 0, .string ⟨#[]⟩, .int .i64 0, .int .i64 0] ∧ Kp [q] wq Y9 := ⟨_, rfl, gen12q (R := fun Y9 => Bx Y9 q [.int .i64 0, .int .i64 0, .int .i64 0, .bool false, .int .i64 0, .string ⟨#[]⟩, .int .i64 0, .bool false, .int .i64 0, .string ⟨#[]⟩, .int .i64 0, .int .i64 0]) bRq.out rfl (.int .i64 0) (.int .i64 0) (.int .i64 0) (.bool false) (.int .i64 0) (.string ⟨#[]⟩) (.int .i64 0) (.bool false) (.int .i64 0) (.string ⟨#[]⟩) (.int .i64 0) (.int .i64 0) (fun Y9 b _ => b), gen12q (R := fun Y9 => Kp [q] wq Y9) bRq.out rfl (.int .i64 0) (.int .i64 0) (.int .i64 0) (.bool false) (.int .i64 0) (.string ⟨#[]⟩) (.int .i64 0) (.bool false) (.int .i64 0) (.string ⟨#[]⟩) (.int .i64 0) (.int .i64 0) (fun Y9 _ k => k)⟩
    have r0 := bW.get 0 _ rfl
    have r1 := bW.get 1 _ rfl
    have r2 := bW.get 2 _ rfl
    have r3 := bW.get 3 _ rfl
    have r4 := bW.get 4 _ rfl
    have r5 := bW.get 5 _ rfl
    have r6 := bW.get 6 _ rfl
    have r7 := bW.get 7 _ rfl
    have r8 := bW.get 8 _ rfl
    have r9 := bW.get 9 _ rfl
    have r10 := bW.get 10 _ rfl
    have r11 := bW.get 11 _ rfl
    have kkW := hid (kq.out.trans kW (fun x hx => .inr (by simp at hx; omega)))
    clear kW bW
    go_wp2_with fail
    refine bodyPost_ret (v := .tuple #[zeroI.v, .int .i64 0, .int .i64 70]) (by rw [zeroI_v]; simp [results, Tryz.results15, go_sem, r0, r1, r2, r3, r4, r5, r6, r7, r8, r9, r10, r11]) rfl ?_
    unfold HdP
    have e70 : hdP bs = (zeroI, 0, 70) := by unfold hdP; rw [hnone.out]
    rw [e70]
    exact ⟨rfl, kkW.out⟩
  have y1 : ¬ (4 : Int) < (K : Int) := by omega
  have y1' : decide ((4 : Int) < (K : Int)) = false := by simpa using y1
  by_cases hB : M = 0
  · have y2 : ((M : Int) == 0) = true := by simpa using hB
    go_enter Tryz.func15, Tryz.ntmps15
    go_wp2_with fail
    go_quiet (fail)
    have bRq := hid (hbR.out.kept ((Kp.refl [] w0).drewN nq) (by simp) (hbR.out.lt (by simp)))
    have kq := hid (hkw.out.drewN nq)
    generalize w0.drewN nq = wq at *
    clear x0 x1 x2 hw0 hq'
    have hnone : Hid (hdR bs = none) := hfirst.out (.inr (.inl hB))
    have p0 := bRq.out.get 0 _ rfl; have f0 := bRq.out.free 0
    have p1 := bRq.out.get 1 _ rfl; have f1 := bRq.out.free 1
    have p2 := bRq.out.get 2 _ rfl; have f2 := bRq.out.free 2
    have p3 := bRq.out.get 3 _ rfl; have f3 := bRq.out.free 3
    have p4 := bRq.out.get 4 _ rfl; have f4 := bRq.out.free 4
    have p5 := bRq.out.get 5 _ rfl; have f5 := bRq.out.free 5
    have p6 := bRq.out.get 6 _ rfl; have f6 := bRq.out.free 6
    have p7 := bRq.out.get 7 _ rfl; have f7 := bRq.out.free 7
    have p8 := bRq.out.get 8 _ rfl; have f8 := bRq.out.free 8
    have p9 := bRq.out.get 9 _ rfl; have f9 := bRq.out.free 9
    have p10 := bRq.out.get 10 _ rfl; have f10 := bRq.out.free 10
    have p11 := bRq.out.get 11 _ rfl; have f11 := bRq.out.free 11
    obtain ⟨W, hW, bW, kW⟩ : ∃ Y9, ((((((((((((wq.setCell ⟨q, 0, none⟩ (.int .i64 0)).setCell ⟨q, 1, none⟩ (.int .i64 0)).setCell ⟨q, 2, none⟩ (.int .i64 0)).setCell ⟨q, 3, none⟩ (.bool false)).setCell ⟨q, 4, none⟩ (.int .i64 0)).setCell ⟨q, 5, none⟩ (.string ⟨#[]⟩)).setCell ⟨q, 6, none⟩ (.int .i64 0)).setCell ⟨q, 7, none⟩ (.bool false)).setCell ⟨q, 8, none⟩ (.int .i64 0)).setCell ⟨q, 9, none⟩ (.string ⟨#[]⟩)).setCell ⟨q, 10, none⟩ (.int .i64 0)).setCell ⟨q, 11, none⟩ (.int .i64 0)) = Y9 ∧ Bx Y9 q [.int .i64 0, .int .i64 0, .int .i64 0, .bool false, .int .i64 0, .string ⟨#[]⟩, .int .i64 0, .bool false, .int .i64 0, .string ⟨#[]⟩, .int .i64 0, .int .i64 0] ∧ Kp [q] wq Y9 := ⟨_, rfl, gen12q (R := fun Y9 => Bx Y9 q [.int .i64 0, .int .i64 0, .int .i64 0, .bool false, .int .i64 0, .string ⟨#[]⟩, .int .i64 0, .bool false, .int .i64 0, .string ⟨#[]⟩, .int .i64 0, .int .i64 0]) bRq.out rfl (.int .i64 0) (.int .i64 0) (.int .i64 0) (.bool false) (.int .i64 0) (.string ⟨#[]⟩) (.int .i64 0) (.bool false) (.int .i64 0) (.string ⟨#[]⟩) (.int .i64 0) (.int .i64 0) (fun Y9 b _ => b), gen12q (R := fun Y9 => Kp [q] wq Y9) bRq.out rfl (.int .i64 0) (.int .i64 0) (.int .i64 0) (.bool false) (.int .i64 0) (.string ⟨#[]⟩) (.int .i64 0) (.bool false) (.int .i64 0) (.string ⟨#[]⟩) (.int .i64 0) (.int .i64 0) (fun Y9 _ k => k)⟩
    have r0 := bW.get 0 _ rfl
    have r1 := bW.get 1 _ rfl
    have r2 := bW.get 2 _ rfl
    have r3 := bW.get 3 _ rfl
    have r4 := bW.get 4 _ rfl
    have r5 := bW.get 5 _ rfl
    have r6 := bW.get 6 _ rfl
    have r7 := bW.get 7 _ rfl
    have r8 := bW.get 8 _ rfl
    have r9 := bW.get 9 _ rfl
    have r10 := bW.get 10 _ rfl
    have r11 := bW.get 11 _ rfl
    have kkW := hid (kq.out.trans kW (fun x hx => .inr (by simp at hx; omega)))
    clear kW bW
    go_wp2_with fail
    refine bodyPost_ret (v := .tuple #[zeroI.v, .int .i64 0, .int .i64 70]) (by rw [zeroI_v]; simp [results, Tryz.results15, go_sem, r0, r1, r2, r3, r4, r5, r6, r7, r8, r9, r10, r11]) rfl ?_
    unfold HdP
    have e70 : hdP bs = (zeroI, 0, 70) := by unfold hdP; rw [hnone.out]
    rw [e70]
    exact ⟨rfl, kkW.out⟩
  have y2 : ((M : Int) == 0) = false := beq_eq_false_iff_ne.2 (by omega)
  by_cases hC : 64 < M
  · have y3 : (64 : Int) < (M : Int) := by omega
    have y3' : decide ((64 : Int) < (M : Int)) = true := by simpa using y3
    go_enter Tryz.func15, Tryz.ntmps15
    go_wp2_with fail
    go_quiet (fail)
    have bRq := hid (hbR.out.kept ((Kp.refl [] w0).drewN nq) (by simp) (hbR.out.lt (by simp)))
    have kq := hid (hkw.out.drewN nq)
    generalize w0.drewN nq = wq at *
    clear x0 x1 x2 hw0 hq'
    have hnone : Hid (hdR bs = none) := hfirst.out (.inr (.inr (.inl hC)))
    have p0 := bRq.out.get 0 _ rfl; have f0 := bRq.out.free 0
    have p1 := bRq.out.get 1 _ rfl; have f1 := bRq.out.free 1
    have p2 := bRq.out.get 2 _ rfl; have f2 := bRq.out.free 2
    have p3 := bRq.out.get 3 _ rfl; have f3 := bRq.out.free 3
    have p4 := bRq.out.get 4 _ rfl; have f4 := bRq.out.free 4
    have p5 := bRq.out.get 5 _ rfl; have f5 := bRq.out.free 5
    have p6 := bRq.out.get 6 _ rfl; have f6 := bRq.out.free 6
    have p7 := bRq.out.get 7 _ rfl; have f7 := bRq.out.free 7
    have p8 := bRq.out.get 8 _ rfl; have f8 := bRq.out.free 8
    have p9 := bRq.out.get 9 _ rfl; have f9 := bRq.out.free 9
    have p10 := bRq.out.get 10 _ rfl; have f10 := bRq.out.free 10
    have p11 := bRq.out.get 11 _ rfl; have f11 := bRq.out.free 11
    obtain ⟨W, hW, bW, kW⟩ : ∃ Y9, ((((((((((((wq.setCell ⟨q, 0, none⟩ (.int .i64 0)).setCell ⟨q, 1, none⟩ (.int .i64 0)).setCell ⟨q, 2, none⟩ (.int .i64 0)).setCell ⟨q, 3, none⟩ (.bool false)).setCell ⟨q, 4, none⟩ (.int .i64 0)).setCell ⟨q, 5, none⟩ (.string ⟨#[]⟩)).setCell ⟨q, 6, none⟩ (.int .i64 0)).setCell ⟨q, 7, none⟩ (.bool false)).setCell ⟨q, 8, none⟩ (.int .i64 0)).setCell ⟨q, 9, none⟩ (.string ⟨#[]⟩)).setCell ⟨q, 10, none⟩ (.int .i64 0)).setCell ⟨q, 11, none⟩ (.int .i64 0)) = Y9 ∧ Bx Y9 q [.int .i64 0, .int .i64 0, .int .i64 0, .bool false, .int .i64 0, .string ⟨#[]⟩, .int .i64 0, .bool false, .int .i64 0, .string ⟨#[]⟩, .int .i64 0, .int .i64 0] ∧ Kp [q] wq Y9 := ⟨_, rfl, gen12q (R := fun Y9 => Bx Y9 q [.int .i64 0, .int .i64 0, .int .i64 0, .bool false, .int .i64 0, .string ⟨#[]⟩, .int .i64 0, .bool false, .int .i64 0, .string ⟨#[]⟩, .int .i64 0, .int .i64 0]) bRq.out rfl (.int .i64 0) (.int .i64 0) (.int .i64 0) (.bool false) (.int .i64 0) (.string ⟨#[]⟩) (.int .i64 0) (.bool false) (.int .i64 0) (.string ⟨#[]⟩) (.int .i64 0) (.int .i64 0) (fun Y9 b _ => b), gen12q (R := fun Y9 => Kp [q] wq Y9) bRq.out rfl (.int .i64 0) (.int .i64 0) (.int .i64 0) (.bool false) (.int .i64 0) (.string ⟨#[]⟩) (.int .i64 0) (.bool false) (.int .i64 0) (.string ⟨#[]⟩) (.int .i64 0) (.int .i64 0) (fun Y9 _ k => k)⟩
    have r0 := bW.get 0 _ rfl
    have r1 := bW.get 1 _ rfl
    have r2 := bW.get 2 _ rfl
    have r3 := bW.get 3 _ rfl
    have r4 := bW.get 4 _ rfl
    have r5 := bW.get 5 _ rfl
    have r6 := bW.get 6 _ rfl
    have r7 := bW.get 7 _ rfl
    have r8 := bW.get 8 _ rfl
    have r9 := bW.get 9 _ rfl
    have r10 := bW.get 10 _ rfl
    have r11 := bW.get 11 _ rfl
    have kkW := hid (kq.out.trans kW (fun x hx => .inr (by simp at hx; omega)))
    clear kW bW
    go_wp2_with fail
    refine bodyPost_ret (v := .tuple #[zeroI.v, .int .i64 0, .int .i64 70]) (by rw [zeroI_v]; simp [results, Tryz.results15, go_sem, r0, r1, r2, r3, r4, r5, r6, r7, r8, r9, r10, r11]) rfl ?_
    unfold HdP
    have e70 : hdP bs = (zeroI, 0, 70) := by unfold hdP; rw [hnone.out]
    rw [e70]
    exact ⟨rfl, kkW.out⟩
  have y3 : ¬ (64 : Int) < (M : Int) := by omega
  have y3' : decide ((64 : Int) < (M : Int)) = false := by simpa using y3
  by_cases hD : M < N
  · have y4 : (M : Int) < (N : Int) := by omega
    have y4' : decide ((M : Int) < (N : Int)) = true := by simpa using y4
    go_enter Tryz.func15, Tryz.ntmps15
    go_wp2_with fail
    go_quiet (fail)
    have bRq := hid (hbR.out.kept ((Kp.refl [] w0).drewN nq) (by simp) (hbR.out.lt (by simp)))
    have kq := hid (hkw.out.drewN nq)
    generalize w0.drewN nq = wq at *
    clear x0 x1 x2 hw0 hq'
    have hnone : Hid (hdR bs = none) := hfirst.out (.inr (.inr (.inr hD)))
    have p0 := bRq.out.get 0 _ rfl; have f0 := bRq.out.free 0
    have p1 := bRq.out.get 1 _ rfl; have f1 := bRq.out.free 1
    have p2 := bRq.out.get 2 _ rfl; have f2 := bRq.out.free 2
    have p3 := bRq.out.get 3 _ rfl; have f3 := bRq.out.free 3
    have p4 := bRq.out.get 4 _ rfl; have f4 := bRq.out.free 4
    have p5 := bRq.out.get 5 _ rfl; have f5 := bRq.out.free 5
    have p6 := bRq.out.get 6 _ rfl; have f6 := bRq.out.free 6
    have p7 := bRq.out.get 7 _ rfl; have f7 := bRq.out.free 7
    have p8 := bRq.out.get 8 _ rfl; have f8 := bRq.out.free 8
    have p9 := bRq.out.get 9 _ rfl; have f9 := bRq.out.free 9
    have p10 := bRq.out.get 10 _ rfl; have f10 := bRq.out.free 10
    have p11 := bRq.out.get 11 _ rfl; have f11 := bRq.out.free 11
    obtain ⟨W, hW, bW, kW⟩ : ∃ Y9, ((((((((((((wq.setCell ⟨q, 0, none⟩ (.int .i64 0)).setCell ⟨q, 1, none⟩ (.int .i64 0)).setCell ⟨q, 2, none⟩ (.int .i64 0)).setCell ⟨q, 3, none⟩ (.bool false)).setCell ⟨q, 4, none⟩ (.int .i64 0)).setCell ⟨q, 5, none⟩ (.string ⟨#[]⟩)).setCell ⟨q, 6, none⟩ (.int .i64 0)).setCell ⟨q, 7, none⟩ (.bool false)).setCell ⟨q, 8, none⟩ (.int .i64 0)).setCell ⟨q, 9, none⟩ (.string ⟨#[]⟩)).setCell ⟨q, 10, none⟩ (.int .i64 0)).setCell ⟨q, 11, none⟩ (.int .i64 0)) = Y9 ∧ Bx Y9 q [.int .i64 0, .int .i64 0, .int .i64 0, .bool false, .int .i64 0, .string ⟨#[]⟩, .int .i64 0, .bool false, .int .i64 0, .string ⟨#[]⟩, .int .i64 0, .int .i64 0] ∧ Kp [q] wq Y9 := ⟨_, rfl, gen12q (R := fun Y9 => Bx Y9 q [.int .i64 0, .int .i64 0, .int .i64 0, .bool false, .int .i64 0, .string ⟨#[]⟩, .int .i64 0, .bool false, .int .i64 0, .string ⟨#[]⟩, .int .i64 0, .int .i64 0]) bRq.out rfl (.int .i64 0) (.int .i64 0) (.int .i64 0) (.bool false) (.int .i64 0) (.string ⟨#[]⟩) (.int .i64 0) (.bool false) (.int .i64 0) (.string ⟨#[]⟩) (.int .i64 0) (.int .i64 0) (fun Y9 b _ => b), gen12q (R := fun Y9 => Kp [q] wq Y9) bRq.out rfl (.int .i64 0) (.int .i64 0) (.int .i64 0) (.bool false) (.int .i64 0) (.string ⟨#[]⟩) (.int .i64 0) (.bool false) (.int .i64 0) (.string ⟨#[]⟩) (.int .i64 0) (.int .i64 0) (fun Y9 _ k => k)⟩
    have r0 := bW.get 0 _ rfl
    have r1 := bW.get 1 _ rfl
    have r2 := bW.get 2 _ rfl
    have r3 := bW.get 3 _ rfl
    have r4 := bW.get 4 _ rfl
    have r5 := bW.get 5 _ rfl
    have r6 := bW.get 6 _ rfl
    have r7 := bW.get 7 _ rfl
    have r8 := bW.get 8 _ rfl
    have r9 := bW.get 9 _ rfl
    have r10 := bW.get 10 _ rfl
    have r11 := bW.get 11 _ rfl
    have kkW := hid (kq.out.trans kW (fun x hx => .inr (by simp at hx; omega)))
    clear kW bW
    go_wp2_with fail
    refine bodyPost_ret (v := .tuple #[zeroI.v, .int .i64 0, .int .i64 70]) (by rw [zeroI_v]; simp [results, Tryz.results15, go_sem, r0, r1, r2, r3, r4, r5, r6, r7, r8, r9, r10, r11]) rfl ?_
    unfold HdP
    have e70 : hdP bs = (zeroI, 0, 70) := by unfold hdP; rw [hnone.out]
    rw [e70]
    exact ⟨rfl, kkW.out⟩
  have y4 : ¬ (M : Int) < (N : Int) := by omega
  have y4' : decide ((M : Int) < (N : Int)) = false := by simpa using y4
  have hsm := hid (hsome.out (by omega))
  clear hsome hfirst
  go_enter Tryz.func15, Tryz.ntmps15
  go_wp2_with fail
  go_quiet (fail)
  have bRq := hid (hbR.out.kept ((Kp.refl [] w0).drewN nq) (by simp) (hbR.out.lt (by simp)))
  have kq := hid (hkw.out.drewN nq)
  generalize w0.drewN nq = wq at *
  clear x0 x1 x2 hw0 hq'
  clear y1 y1' y2 y3 y3' y4 y4' d1 d1'
  -- the head's first three fields
  have kd : Kp [] wq wq.drew := (Kp.refl _ _).drew
  have hS : Hid (∀ A, Kp [] wq A → (A.cell? ⟨g, o, none⟩ = some (.int .u8 K) ∧ A.cell? ⟨g, o + 1, none⟩ = some (.int .u8 M) ∧ A.cell? ⟨g, o + 2, none⟩ = some (.int .u8 N))) := fun A kA => hat.out A (kq.out.trans kA (by simp))
  go_wp2_with fail
  refine wp_region_held_drew (S := (fun A => A.cell? ⟨g, o, none⟩ = some (.int .u8 K) ∧ A.cell? ⟨g, o + 1, none⟩ = some (.int .u8 M) ∧ A.cell? ⟨g, o + 2, none⟩ = some (.int .u8 N))) (by kernel_rfl) ?_ (fun hHeld => ?_)
  · exact hS.out _ kd
  have hkd := hid kd
  have kwd := hid (kq.out.trans kd (by simp))
  have hbd := hid (bRq.out.kept kd (by simp) (bRq.out.lt (by simp)))
  clear hHeld kd bRq
  have hHeld := hS.out _ hkd.out
  generalize wq.drew = wd at *
  have wk : IntKind.i64.wrap (K : Int) = (K : Int) := by rw [IntKind.wrap_i64]; omega
  have wm : IntKind.i64.wrap (M : Int) = (M : Int) := by rw [IntKind.wrap_i64]; omega
  have wn : IntKind.i64.wrap (N : Int) = (N : Int) := by rw [IntKind.wrap_i64]; omega
  refine wpAnyH_take (i := 0) (v := ?_) rfl (by kernel_rfl) (by kernel_rfl) (by kernel_rfl) (fun _ _ _ h => h) (Or.inl ⟨by rfl, ?_⟩) (by assumption) ?_
  rotate_left
  · intro w hSw; (try dsimp only at hSw); go_simp <;> with_reducible rfl
  try simp only [Act.put, List.getElem_toArray, List.getElem_cons_zero, List.getElem_cons_succ, List.setIfInBounds_toArray, List.set_cons_zero, List.set_cons_succ]
  refine wpAnyH_take (i := 1) (v := ?_) rfl (by kernel_rfl) (by kernel_rfl) (by kernel_rfl) (fun _ _ _ h => h) (Or.inl ⟨by rfl, ?_⟩) (by assumption) ?_
  rotate_left
  · intro w hSw; (try dsimp only at hSw); go_simp <;> with_reducible rfl
  try simp only [Act.put, List.getElem_toArray, List.getElem_cons_zero, List.getElem_cons_succ, List.setIfInBounds_toArray, List.set_cons_zero, List.set_cons_succ]
  refine wpAnyH_take (i := 2) (v := ?_) rfl (by kernel_rfl) (by kernel_rfl) (by kernel_rfl) (fun _ _ _ h => h) (Or.inl ⟨by rfl, ?_⟩) (by assumption) ?_
  rotate_left
  · intro w hSw; (try dsimp only at hSw); go_simp <;> with_reducible rfl
  try simp only [Act.put, List.getElem_toArray, List.getElem_cons_zero, List.getElem_cons_succ, List.setIfInBounds_toArray, List.set_cons_zero, List.set_cons_succ]
  refine wpAnyH_take (i := 3) (v := ?_) rfl (by kernel_rfl) (by kernel_rfl) (by kernel_rfl) (fun _ _ _ h => h) (Or.inl ⟨by rfl, ?_⟩) (by assumption) ?_
  rotate_left
  · intro w hSw; (try dsimp only at hSw); go_simp <;> with_reducible rfl
  try simp only [Act.put, List.getElem_toArray, List.getElem_cons_zero, List.getElem_cons_succ, List.setIfInBounds_toArray, List.set_cons_zero, List.set_cons_succ]
  refine wpAnyH_take (i := 4) (v := ?_) rfl (by kernel_rfl) (by kernel_rfl) (by kernel_rfl) (fun _ _ _ h => h) (Or.inl ⟨by rfl, ?_⟩) (by assumption) ?_
  rotate_left
  · intro w hSw; (try dsimp only at hSw); go_simp <;> with_reducible rfl
  try simp only [Act.put, List.getElem_toArray, List.getElem_cons_zero, List.getElem_cons_succ, List.setIfInBounds_toArray, List.set_cons_zero, List.set_cons_succ]
  refine wpAnyH_take (i := 5) (v := ?_) rfl (by kernel_rfl) (by kernel_rfl) (by kernel_rfl) (fun _ _ _ h => h) (Or.inl ⟨by rfl, ?_⟩) (by assumption) ?_
  rotate_left
  · intro w hSw; (try dsimp only at hSw); go_simp <;> with_reducible rfl
  try simp only [Act.put, List.getElem_toArray, List.getElem_cons_zero, List.getElem_cons_succ, List.setIfInBounds_toArray, List.set_cons_zero, List.set_cons_succ]
  refine wpAnyH_take (i := 6) (v := ?_) rfl (by kernel_rfl) (by kernel_rfl) (by kernel_rfl) (fun _ _ _ h => h) (Or.inl ⟨by rfl, ?_⟩) (by assumption) ?_
  rotate_left
  · intro w hSw; (try dsimp only at hSw); go_simp <;> with_reducible rfl
  try simp only [Act.put, List.getElem_toArray, List.getElem_cons_zero, List.getElem_cons_succ, List.setIfInBounds_toArray, List.set_cons_zero, List.set_cons_succ]
  refine wpAnyH_take (i := 7) (v := ?_) rfl (by kernel_rfl) (by kernel_rfl) (by kernel_rfl) (fun _ _ _ h => h) (Or.inl ⟨by rfl, ?_⟩) (by assumption) ?_
  rotate_left
  · intro w hSw; (try dsimp only at hSw); go_simp <;> with_reducible rfl
  try simp only [Act.put, List.getElem_toArray, List.getElem_cons_zero, List.getElem_cons_succ, List.setIfInBounds_toArray, List.set_cons_zero, List.set_cons_succ]
  refine wpAnyH_take (i := 8) (v := ?_) rfl (by kernel_rfl) (by kernel_rfl) (by kernel_rfl) (fun _ _ _ h => h) (Or.inl ⟨by rfl, ?_⟩) (by assumption) ?_
  rotate_left
  · intro w hSw; (try dsimp only at hSw); go_simp <;> with_reducible rfl
  try simp only [Act.put, List.getElem_toArray, List.getElem_cons_zero, List.getElem_cons_succ, List.setIfInBounds_toArray, List.set_cons_zero, List.set_cons_succ]
  refine wpAnyH_take (i := 9) (v := ?_) rfl (by kernel_rfl) (by kernel_rfl) (by kernel_rfl) (fun _ _ _ h => h) (Or.inl ⟨by rfl, ?_⟩) (by assumption) ?_
  rotate_left
  · intro w hSw; (try dsimp only at hSw); go_simp <;> with_reducible rfl
  try simp only [Act.put, List.getElem_toArray, List.getElem_cons_zero, List.getElem_cons_succ, List.setIfInBounds_toArray, List.set_cons_zero, List.set_cons_succ]
  refine wpAnyH_take (i := 10) (v := ?_) rfl (by kernel_rfl) (by kernel_rfl) (by kernel_rfl) (fun _ _ _ h => h) (Or.inl ⟨by rfl, ?_⟩) (by assumption) ?_
  rotate_left
  · intro w hSw; (try dsimp only at hSw); go_simp <;> with_reducible rfl
  try simp only [Act.put, List.getElem_toArray, List.getElem_cons_zero, List.getElem_cons_succ, List.setIfInBounds_toArray, List.set_cons_zero, List.set_cons_succ]
  refine wpAnyH_take (i := 11) (v := ?_) rfl (by kernel_rfl) (by kernel_rfl) (by kernel_rfl) (fun _ _ _ h => h) (Or.inl ⟨by rfl, ?_⟩) (by assumption) ?_
  rotate_left
  · intro w hSw; (try dsimp only at hSw); go_simp <;> with_reducible rfl
  try simp only [Act.put, List.getElem_toArray, List.getElem_cons_zero, List.getElem_cons_succ, List.setIfInBounds_toArray, List.set_cons_zero, List.set_cons_succ]
  refine wpAnyH_take (i := 12) (v := ?_) rfl (by kernel_rfl) (by kernel_rfl) (by kernel_rfl) (fun _ _ _ h => h) (Or.inl ⟨by rfl, ?_⟩) (by assumption) ?_
  rotate_left
  · intro w hSw; (try dsimp only at hSw); go_simp <;> with_reducible rfl
  try simp only [Act.put, List.getElem_toArray, List.getElem_cons_zero, List.getElem_cons_succ, List.setIfInBounds_toArray, List.set_cons_zero, List.set_cons_succ]
  obtain ⟨w1, hw1, k1, bI⟩ : ∃ w1, wd.alloc (.cells #[.int .i64 0, .int .i64 0, .int .i64 0, .bool false, .int .i64 0, .string ⟨#[]⟩, .int .i64 0, .bool false, .int .i64 0, .string ⟨#[]⟩, .int .i64 0, .int .i64 0] 37) = w1 ∧ Kp [] wd w1 ∧ Bx w1 wd.heap.size [.int .i64 0, .int .i64 0, .int .i64 0, .bool false, .int .i64 0, .string ⟨#[]⟩, .int .i64 0, .bool false, .int .i64 0, .string ⟨#[]⟩, .int .i64 0, .int .i64 0] := ⟨_, rfl, (Kp.refl _ _).alloc _, Bx.new wd _ _⟩
  obtain ⟨qi, hqi⟩ : ∃ q, Hid (wd.heap.size = q) := ⟨_, rfl⟩
  have hne : q ≠ qi := by rw [← hqi.out]; have := hbd.out.lt (by simp); omega
  have hqiw : w.heap.size ≤ qi := by rw [← hqi.out]; exact kwd.out.size
  rw [hqi.out] at bI
  have hw1' := hid hw1
  have hbI := hid bI
  have k1' := hid k1
  clear hw1 bI k1
  refine wpAnyH_ready (rs := [13]) (by kernel_rfl) (by simp) ?_
  refine AllReadyH.cons rfl (fun K1 hK => ?_) AllReadyH.nil
  go_simp
  rw [hw1'.out, hqi.out]
  refine hK.out _ _ ?_ (fun hHeld => ?_)
  · exact hS.out _ (hkd.out.trans k1'.out (by simp))
  clear hK
  try simp only [Act.put, List.getElem_toArray, List.getElem_cons_zero, List.getElem_cons_succ, List.setIfInBounds_toArray, List.set_cons_zero, List.set_cons_succ]
  have p0 := hbI.out.get 0 _ rfl; have f0 := hbI.out.free 0
  have p1 := hbI.out.get 1 _ rfl; have f1 := hbI.out.free 1
  have p2 := hbI.out.get 2 _ rfl; have f2 := hbI.out.free 2
  have p3 := hbI.out.get 3 _ rfl; have f3 := hbI.out.free 3
  have p4 := hbI.out.get 4 _ rfl; have f4 := hbI.out.free 4
  have p5 := hbI.out.get 5 _ rfl; have f5 := hbI.out.free 5
  have p6 := hbI.out.get 6 _ rfl; have f6 := hbI.out.free 6
  have p7 := hbI.out.get 7 _ rfl; have f7 := hbI.out.free 7
  have p8 := hbI.out.get 8 _ rfl; have f8 := hbI.out.free 8
  have p9 := hbI.out.get 9 _ rfl; have f9 := hbI.out.free 9
  have p10 := hbI.out.get 10 _ rfl; have f10 := hbI.out.free 10
  have p11 := hbI.out.get 11 _ rfl; have f11 := hbI.out.free 11
  obtain ⟨W, hW, bW, kW⟩ : ∃ Y9, ((((((((((((w1.setCell ⟨qi, 0, none⟩ (.int .i64 (K : Int))).setCell ⟨qi, 1, none⟩ (.int .i64 (M : Int))).setCell ⟨qi, 2, none⟩ (.int .i64 0)).setCell ⟨qi, 3, none⟩ (.bool false)).setCell ⟨qi, 4, none⟩ (.int .i64 0)).setCell ⟨qi, 5, none⟩ (.string ⟨#[]⟩)).setCell ⟨qi, 6, none⟩ (.int .i64 0)).setCell ⟨qi, 7, none⟩ (.bool false)).setCell ⟨qi, 8, none⟩ (.int .i64 0)).setCell ⟨qi, 9, none⟩ (.string ⟨#[]⟩)).setCell ⟨qi, 10, none⟩ (.int .i64 (N : Int))).setCell ⟨qi, 11, none⟩ (.int .i64 0)) = Y9 ∧ Bx Y9 qi [.int .i64 (K : Int), .int .i64 (M : Int), .int .i64 0, .bool false, .int .i64 0, .string ⟨#[]⟩, .int .i64 0, .bool false, .int .i64 0, .string ⟨#[]⟩, .int .i64 (N : Int), .int .i64 0] ∧ Kp [qi] w1 Y9 := ⟨_, rfl, gen12q (R := fun Y9 => Bx Y9 qi [.int .i64 (K : Int), .int .i64 (M : Int), .int .i64 0, .bool false, .int .i64 0, .string ⟨#[]⟩, .int .i64 0, .bool false, .int .i64 0, .string ⟨#[]⟩, .int .i64 (N : Int), .int .i64 0]) hbI.out rfl (.int .i64 (K : Int)) (.int .i64 (M : Int)) (.int .i64 0) (.bool false) (.int .i64 0) (.string ⟨#[]⟩) (.int .i64 0) (.bool false) (.int .i64 0) (.string ⟨#[]⟩) (.int .i64 (N : Int)) (.int .i64 0) (fun Y9 b _ => b), gen12q (R := fun Y9 => Kp [qi] w1 Y9) hbI.out rfl (.int .i64 (K : Int)) (.int .i64 (M : Int)) (.int .i64 0) (.bool false) (.int .i64 0) (.string ⟨#[]⟩) (.int .i64 0) (.bool false) (.int .i64 0) (.string ⟨#[]⟩) (.int .i64 (N : Int)) (.int .i64 0) (fun Y9 _ k => k)⟩
  refine wpAnyH_ready (rs := [14]) (by kernel_rfl) (by simp) ?_
  refine AllReadyH.cons rfl (fun K2 hK => ?_) AllReadyH.nil
  go_simp
  refine hK.out _ _ ?_ (fun hHeld => ?_)
  · exact hS.out _ ((hkd.out.trans k1'.out (by simp)).trans kW (fun x hx => .inr (by simp at hx; have := hkd.out.size; rw [hx, ← hqi.out]; omega)))
  clear hK K2
  try simp only [Act.put, List.getElem_toArray, List.getElem_cons_zero, List.getElem_cons_succ, List.setIfInBounds_toArray, List.set_cons_zero, List.set_cons_succ]
  refine wpAnyH_done (by kernel_rfl) ?_ _
  have kwW := hid (((kwd.out.trans k1'.out (by simp)).trans kW (fun x hx => .inr (by simp at hx; omega))))
  have bRW := hid ((hbd.out.kept k1'.out (by simp) (hbd.out.lt (by simp))).kept kW (by simpa using hne) (by have := hbd.out.lt (by simp); have := k1'.out.size; omega))
  have hbW := hid bW
  clear p0 f0 p1 f1 p2 f2 p3 f3 p4 f4 p5 f5 p6 f6 p7 f7 p8 f8 p9 f9 p10 f10 p11 f11 hHeld hW bW kW hS hbd hkd hbI hw1' k1' kwd wk wm wn
  -- the least
  obtain ⟨A3, hA3⟩ : ∃ A, (if c = 3 then some ({ block := g, off := o } : Addr) else some ({ block := g, off := o + 3 } : Addr)) = A := ⟨_, rfl⟩
  have hs3 : Sees W A3 (bs.drop 3) := by
    rw [← hA3]
    by_cases h : c = 3
    · exact .inl (List.drop_of_length_le (by omega))
    · rw [if_neg h]
      have := (hsB.out W kwW.out).tail 3
      simpa [Addr.add_lit] using this
  have l3 : (bs.drop 3).length = bs.length - 3 := List.length_drop
  have cF := cFront A3 (c - 3) (bs.drop 3) W hs3 (by omega) (by unfold maxLen; omega)
  have hle1 := rowF_le (bs.drop 3)
  unfold Tk at cF
  rw [l3] at cF hle1
  obtain ⟨⟨⟨mk, mb, mn, mt⟩, n1⟩, hv1⟩ : ∃ v, Hid (rowF (bs.drop 3) = v) := ⟨_, rfl⟩
  rw [hv1.out] at cF hle1
  simp only [hv1.out] at hsm
  unfold Val.v at cF
  dsimp only at cF hle1
  have q3 : (3 : Int) ≤ (bs.length : Int) := by omega
  clear hs3 l3 hv1 hat
  go_wp2_with fail
  try rw [hA3]
  refine cF.mono ?_
  rintro e w3 ⟨rfl, k3⟩
  have kw3 := hid (kwW.out.trans k3 (by simp))
  have bR3 := hid (bRW.out.kept k3 (by simp) (bRW.out.lt (by simp)))
  have bI3 := hid (hbW.out.kept k3 (by simp) (hbW.out.lt (by simp)))
  obtain ⟨w4, hw4⟩ : ∃ w4, w3.alloc (.cells #[.int .i64 mk, .bool mb, .int .i64 mn, .string mt] 32) = w4 := ⟨_, rfl⟩
  have k4 : Kp [] w3 w4 := by rw [← hw4]; exact (Kp.refl _ _).alloc _
  obtain ⟨q6, hq6⟩ : ∃ q, Hid (w3.heap.size = q) := ⟨_, rfl⟩
  have bx6 := Box4.new w3 (.int .i64 mk) (.bool mb) (.int .i64 mn) (.string mt) 32
  rw [hw4, hq6.out] at bx6
  have hbx6 := hid bx6
  have kw4 := hid (kw3.out.trans k4 (by simp))
  have bR4 := hid (bR3.out.kept k4 (by simp) (bR3.out.lt (by simp)))
  have bI4 := hid (bI3.out.kept k4 (by simp) (bI3.out.lt (by simp)))
  have hqi6 : qi < q6 := by rw [← hq6.out]; exact bI3.out.lt (by simp)
  have hqq6 : q < q6 := by rw [← hq6.out]; exact bR3.out.lt (by simp)
  have hq6' := hq6.out
  clear cF k3 bR3 bI3 bRW hbW bx6 k4 kw3 kwW q3 hA3
  by_cases hn1 : n1 = 0
  · have y1 : ((n1 : Int) == 0) = true := by simpa using hn1
    have hnone : Hid (hdR bs = none) := by show _ = _; rw [hsm.out, if_pos hn1]
    have p0 := bR4.out.get 0 _ rfl; have f0 := bR4.out.free 0
    have p1 := bR4.out.get 1 _ rfl; have f1 := bR4.out.free 1
    have p2 := bR4.out.get 2 _ rfl; have f2 := bR4.out.free 2
    have p3 := bR4.out.get 3 _ rfl; have f3 := bR4.out.free 3
    have p4 := bR4.out.get 4 _ rfl; have f4 := bR4.out.free 4
    have p5 := bR4.out.get 5 _ rfl; have f5 := bR4.out.free 5
    have p6 := bR4.out.get 6 _ rfl; have f6 := bR4.out.free 6
    have p7 := bR4.out.get 7 _ rfl; have f7 := bR4.out.free 7
    have p8 := bR4.out.get 8 _ rfl; have f8 := bR4.out.free 8
    have p9 := bR4.out.get 9 _ rfl; have f9 := bR4.out.free 9
    have p10 := bR4.out.get 10 _ rfl; have f10 := bR4.out.free 10
    have p11 := bR4.out.get 11 _ rfl; have f11 := bR4.out.free 11
    obtain ⟨W, hW, bW, kW⟩ : ∃ Y9, ((((((((((((w4.setCell ⟨q, 0, none⟩ (.int .i64 0)).setCell ⟨q, 1, none⟩ (.int .i64 0)).setCell ⟨q, 2, none⟩ (.int .i64 0)).setCell ⟨q, 3, none⟩ (.bool false)).setCell ⟨q, 4, none⟩ (.int .i64 0)).setCell ⟨q, 5, none⟩ (.string ⟨#[]⟩)).setCell ⟨q, 6, none⟩ (.int .i64 0)).setCell ⟨q, 7, none⟩ (.bool false)).setCell ⟨q, 8, none⟩ (.int .i64 0)).setCell ⟨q, 9, none⟩ (.string ⟨#[]⟩)).setCell ⟨q, 10, none⟩ (.int .i64 0)).setCell ⟨q, 11, none⟩ (.int .i64 0)) = Y9 ∧ Bx Y9 q [.int .i64 0, .int .i64 0, .int .i64 0, .bool false, .int .i64 0, .string ⟨#[]⟩, .int .i64 0, .bool false, .int .i64 0, .string ⟨#[]⟩, .int .i64 0, .int .i64 0] ∧ Kp [q] w4 Y9 := ⟨_, rfl, gen12q (R := fun Y9 => Bx Y9 q [.int .i64 0, .int .i64 0, .int .i64 0, .bool false, .int .i64 0, .string ⟨#[]⟩, .int .i64 0, .bool false, .int .i64 0, .string ⟨#[]⟩, .int .i64 0, .int .i64 0]) bR4.out rfl (.int .i64 0) (.int .i64 0) (.int .i64 0) (.bool false) (.int .i64 0) (.string ⟨#[]⟩) (.int .i64 0) (.bool false) (.int .i64 0) (.string ⟨#[]⟩) (.int .i64 0) (.int .i64 0) (fun Y9 b _ => b), gen12q (R := fun Y9 => Kp [q] w4 Y9) bR4.out rfl (.int .i64 0) (.int .i64 0) (.int .i64 0) (.bool false) (.int .i64 0) (.string ⟨#[]⟩) (.int .i64 0) (.bool false) (.int .i64 0) (.string ⟨#[]⟩) (.int .i64 0) (.int .i64 0) (fun Y9 _ k => k)⟩
    have r0 := bW.get 0 _ rfl
    have r1 := bW.get 1 _ rfl
    have r2 := bW.get 2 _ rfl
    have r3 := bW.get 3 _ rfl
    have r4 := bW.get 4 _ rfl
    have r5 := bW.get 5 _ rfl
    have r6 := bW.get 6 _ rfl
    have r7 := bW.get 7 _ rfl
    have r8 := bW.get 8 _ rfl
    have r9 := bW.get 9 _ rfl
    have r10 := bW.get 10 _ rfl
    have r11 := bW.get 11 _ rfl
    have kkW := hid (kw4.out.trans kW (fun x hx => .inr (by simp at hx; omega)))
    clear kW bW
    go_wp2_with fail
    refine bodyPost_ret (v := .tuple #[zeroI.v, .int .i64 0, .int .i64 70]) (by rw [zeroI_v]; simp [results, Tryz.results15, go_sem, r0, r1, r2, r3, r4, r5, r6, r7, r8, r9, r10, r11]) rfl ?_
    unfold HdP
    have e70 : hdP bs = (zeroI, 0, 70) := by unfold hdP; rw [hnone.out]
    rw [e70]
    exact ⟨rfl, kkW.out⟩
  have y1 : ((n1 : Int) == 0) = false := beq_eq_false_iff_ne.2 (by omega)
  rw [if_neg hn1] at hsm
  -- the greatest
  obtain ⟨P3, hP3⟩ : ∃ x : Nat, Hid (3 + n1 = x) := ⟨_, rfl⟩
  rw [hP3.out] at hsm
  have hPn : P3 ≤ bs.length := by rw [← hP3.out]; omega
  obtain ⟨A4, hA4⟩ : ∃ A, (if c = P3 then some ({ block := g, off := o } : Addr) else some ({ block := g, off := o + P3 } : Addr)) = A := ⟨_, rfl⟩
  have hs4 : Sees w4 A4 (bs.drop P3) := by
    rw [← hA4]
    by_cases h : c = P3
    · exact .inl (List.drop_of_length_le (by omega))
    · rw [if_neg h]
      have := (hsB.out w4 kw4.out).tail P3
      simpa [Addr.add_lit] using this
  have l4 : (bs.drop P3).length = bs.length - P3 := List.length_drop
  have cF := cFront A4 (c - P3) (bs.drop P3) w4 hs4 (by omega) (by unfold maxLen; omega)
  have hle2 := rowF_le (bs.drop P3)
  unfold Tk at cF
  rw [l4] at cF hle2
  obtain ⟨⟨⟨xk, xb, xn, xt⟩, n2'⟩, hv2⟩ : ∃ v, Hid (rowF (bs.drop P3) = v) := ⟨_, rfl⟩
  rw [hv2.out] at cF hle2
  simp only [hv2.out] at hsm
  unfold Val.v at cF
  dsimp only at cF hle2
  have i3 : (3 : Int) + (n1 : Int) = (P3 : Int) := by have := hP3.out; omega
  have q4 : (P3 : Int) ≤ (bs.length : Int) := by omega
  clear hs4 l4 hv2
  go_wp2_with fail
  try rw [hA4]
  refine cF.mono ?_
  rintro e w5 ⟨rfl, k5⟩
  have kw5 := hid (kw4.out.trans k5 (by simp))
  have bR5 := hid (bR4.out.kept k5 (by simp) (bR4.out.lt (by simp)))
  have bI5 := hid (bI4.out.kept k5 (by simp) (bI4.out.lt (by simp)))
  have bx5 := hid (hbx6.out.kept k5 (by simp))
  obtain ⟨w6, hw6⟩ : ∃ w6, w5.alloc (.cells #[.int .i64 xk, .bool xb, .int .i64 xn, .string xt] 32) = w6 := ⟨_, rfl⟩
  have k6 : Kp [] w5 w6 := by rw [← hw6]; exact (Kp.refl _ _).alloc _
  obtain ⟨q8, hq8⟩ : ∃ q, Hid (w5.heap.size = q) := ⟨_, rfl⟩
  have bx8 := Box4.new w5 (.int .i64 xk) (.bool xb) (.int .i64 xn) (.string xt) 32
  rw [hw6, hq8.out] at bx8
  have hbx8 := hid bx8
  have kw6 := hid (kw5.out.trans k6 (by simp))
  have bR6 := hid (bR5.out.kept k6 (by simp) (bR5.out.lt (by simp)))
  have bI6 := hid (bI5.out.kept k6 (by simp) (bI5.out.lt (by simp)))
  have bx6 := hid (bx5.out.kept k6 (by simp))
  have hqi8 : qi < q8 := by rw [← hq8.out]; exact bI5.out.lt (by simp)
  have hqq8 : q < q8 := by rw [← hq8.out]; exact bR5.out.lt (by simp)
  have hq8' := hq8.out
  obtain ⟨AT, hAT⟩ : ∃ x : Nat, Hid (P3 + n2' = x) := ⟨_, rfl⟩
  have hATb : AT ≤ bs.length := by have := hAT.out; omega
  have i4 : (P3 : Int) + (n2' : Int) = (AT : Int) := by have := hAT.out; omega
  rw [hAT.out] at hsm
  clear cF k5 bR5 bI5 bx5 bx8 k6 kw5 kw4 bR4 bI4 hbx6 hA4 hw4 hq6'
  by_cases hn2 : n2' = 0
  · have y2 : ((n2' : Int) == 0) = true := by simpa using hn2
    have hnone : Hid (hdR bs = none) := by show _ = _; rw [hsm.out, if_pos (.inl hn2)]
    have p0 := bR6.out.get 0 _ rfl; have f0 := bR6.out.free 0
    have p1 := bR6.out.get 1 _ rfl; have f1 := bR6.out.free 1
    have p2 := bR6.out.get 2 _ rfl; have f2 := bR6.out.free 2
    have p3 := bR6.out.get 3 _ rfl; have f3 := bR6.out.free 3
    have p4 := bR6.out.get 4 _ rfl; have f4 := bR6.out.free 4
    have p5 := bR6.out.get 5 _ rfl; have f5 := bR6.out.free 5
    have p6 := bR6.out.get 6 _ rfl; have f6 := bR6.out.free 6
    have p7 := bR6.out.get 7 _ rfl; have f7 := bR6.out.free 7
    have p8 := bR6.out.get 8 _ rfl; have f8 := bR6.out.free 8
    have p9 := bR6.out.get 9 _ rfl; have f9 := bR6.out.free 9
    have p10 := bR6.out.get 10 _ rfl; have f10 := bR6.out.free 10
    have p11 := bR6.out.get 11 _ rfl; have f11 := bR6.out.free 11
    obtain ⟨W, hW, bW, kW⟩ : ∃ Y9, ((((((((((((w6.setCell ⟨q, 0, none⟩ (.int .i64 0)).setCell ⟨q, 1, none⟩ (.int .i64 0)).setCell ⟨q, 2, none⟩ (.int .i64 0)).setCell ⟨q, 3, none⟩ (.bool false)).setCell ⟨q, 4, none⟩ (.int .i64 0)).setCell ⟨q, 5, none⟩ (.string ⟨#[]⟩)).setCell ⟨q, 6, none⟩ (.int .i64 0)).setCell ⟨q, 7, none⟩ (.bool false)).setCell ⟨q, 8, none⟩ (.int .i64 0)).setCell ⟨q, 9, none⟩ (.string ⟨#[]⟩)).setCell ⟨q, 10, none⟩ (.int .i64 0)).setCell ⟨q, 11, none⟩ (.int .i64 0)) = Y9 ∧ Bx Y9 q [.int .i64 0, .int .i64 0, .int .i64 0, .bool false, .int .i64 0, .string ⟨#[]⟩, .int .i64 0, .bool false, .int .i64 0, .string ⟨#[]⟩, .int .i64 0, .int .i64 0] ∧ Kp [q] w6 Y9 := ⟨_, rfl, gen12q (R := fun Y9 => Bx Y9 q [.int .i64 0, .int .i64 0, .int .i64 0, .bool false, .int .i64 0, .string ⟨#[]⟩, .int .i64 0, .bool false, .int .i64 0, .string ⟨#[]⟩, .int .i64 0, .int .i64 0]) bR6.out rfl (.int .i64 0) (.int .i64 0) (.int .i64 0) (.bool false) (.int .i64 0) (.string ⟨#[]⟩) (.int .i64 0) (.bool false) (.int .i64 0) (.string ⟨#[]⟩) (.int .i64 0) (.int .i64 0) (fun Y9 b _ => b), gen12q (R := fun Y9 => Kp [q] w6 Y9) bR6.out rfl (.int .i64 0) (.int .i64 0) (.int .i64 0) (.bool false) (.int .i64 0) (.string ⟨#[]⟩) (.int .i64 0) (.bool false) (.int .i64 0) (.string ⟨#[]⟩) (.int .i64 0) (.int .i64 0) (fun Y9 _ k => k)⟩
    have r0 := bW.get 0 _ rfl
    have r1 := bW.get 1 _ rfl
    have r2 := bW.get 2 _ rfl
    have r3 := bW.get 3 _ rfl
    have r4 := bW.get 4 _ rfl
    have r5 := bW.get 5 _ rfl
    have r6 := bW.get 6 _ rfl
    have r7 := bW.get 7 _ rfl
    have r8 := bW.get 8 _ rfl
    have r9 := bW.get 9 _ rfl
    have r10 := bW.get 10 _ rfl
    have r11 := bW.get 11 _ rfl
    have kkW := hid (kw6.out.trans kW (fun x hx => .inr (by simp at hx; omega)))
    clear kW bW
    go_wp2_with fail
    refine bodyPost_ret (v := .tuple #[zeroI.v, .int .i64 0, .int .i64 70]) (by rw [zeroI_v]; simp [results, Tryz.results15, go_sem, r0, r1, r2, r3, r4, r5, r6, r7, r8, r9, r10, r11]) rfl ?_
    unfold HdP
    have e70 : hdP bs = (zeroI, 0, 70) := by unfold hdP; rw [hnone.out]
    rw [e70]
    exact ⟨rfl, kkW.out⟩
  have y2 : ((n2' : Int) == 0) = false := beq_eq_false_iff_ne.2 (by omega)
  by_cases hA2 : bs.length < AT + 2
  · have y3 : (bs.length : Int) < (AT : Int) + 2 := by omega
    have y3' : decide ((bs.length : Int) < (AT : Int) + 2) = true := by simpa using y3
    have hnone : Hid (hdR bs = none) := by show _ = _; rw [hsm.out, if_pos (.inr hA2)]
    have p0 := bR6.out.get 0 _ rfl; have f0 := bR6.out.free 0
    have p1 := bR6.out.get 1 _ rfl; have f1 := bR6.out.free 1
    have p2 := bR6.out.get 2 _ rfl; have f2 := bR6.out.free 2
    have p3 := bR6.out.get 3 _ rfl; have f3 := bR6.out.free 3
    have p4 := bR6.out.get 4 _ rfl; have f4 := bR6.out.free 4
    have p5 := bR6.out.get 5 _ rfl; have f5 := bR6.out.free 5
    have p6 := bR6.out.get 6 _ rfl; have f6 := bR6.out.free 6
    have p7 := bR6.out.get 7 _ rfl; have f7 := bR6.out.free 7
    have p8 := bR6.out.get 8 _ rfl; have f8 := bR6.out.free 8
    have p9 := bR6.out.get 9 _ rfl; have f9 := bR6.out.free 9
    have p10 := bR6.out.get 10 _ rfl; have f10 := bR6.out.free 10
    have p11 := bR6.out.get 11 _ rfl; have f11 := bR6.out.free 11
    obtain ⟨W, hW, bW, kW⟩ : ∃ Y9, ((((((((((((w6.setCell ⟨q, 0, none⟩ (.int .i64 0)).setCell ⟨q, 1, none⟩ (.int .i64 0)).setCell ⟨q, 2, none⟩ (.int .i64 0)).setCell ⟨q, 3, none⟩ (.bool false)).setCell ⟨q, 4, none⟩ (.int .i64 0)).setCell ⟨q, 5, none⟩ (.string ⟨#[]⟩)).setCell ⟨q, 6, none⟩ (.int .i64 0)).setCell ⟨q, 7, none⟩ (.bool false)).setCell ⟨q, 8, none⟩ (.int .i64 0)).setCell ⟨q, 9, none⟩ (.string ⟨#[]⟩)).setCell ⟨q, 10, none⟩ (.int .i64 0)).setCell ⟨q, 11, none⟩ (.int .i64 0)) = Y9 ∧ Bx Y9 q [.int .i64 0, .int .i64 0, .int .i64 0, .bool false, .int .i64 0, .string ⟨#[]⟩, .int .i64 0, .bool false, .int .i64 0, .string ⟨#[]⟩, .int .i64 0, .int .i64 0] ∧ Kp [q] w6 Y9 := ⟨_, rfl, gen12q (R := fun Y9 => Bx Y9 q [.int .i64 0, .int .i64 0, .int .i64 0, .bool false, .int .i64 0, .string ⟨#[]⟩, .int .i64 0, .bool false, .int .i64 0, .string ⟨#[]⟩, .int .i64 0, .int .i64 0]) bR6.out rfl (.int .i64 0) (.int .i64 0) (.int .i64 0) (.bool false) (.int .i64 0) (.string ⟨#[]⟩) (.int .i64 0) (.bool false) (.int .i64 0) (.string ⟨#[]⟩) (.int .i64 0) (.int .i64 0) (fun Y9 b _ => b), gen12q (R := fun Y9 => Kp [q] w6 Y9) bR6.out rfl (.int .i64 0) (.int .i64 0) (.int .i64 0) (.bool false) (.int .i64 0) (.string ⟨#[]⟩) (.int .i64 0) (.bool false) (.int .i64 0) (.string ⟨#[]⟩) (.int .i64 0) (.int .i64 0) (fun Y9 _ k => k)⟩
    have r0 := bW.get 0 _ rfl
    have r1 := bW.get 1 _ rfl
    have r2 := bW.get 2 _ rfl
    have r3 := bW.get 3 _ rfl
    have r4 := bW.get 4 _ rfl
    have r5 := bW.get 5 _ rfl
    have r6 := bW.get 6 _ rfl
    have r7 := bW.get 7 _ rfl
    have r8 := bW.get 8 _ rfl
    have r9 := bW.get 9 _ rfl
    have r10 := bW.get 10 _ rfl
    have r11 := bW.get 11 _ rfl
    have kkW := hid (kw6.out.trans kW (fun x hx => .inr (by simp at hx; omega)))
    clear kW bW
    go_wp2_with fail
    refine bodyPost_ret (v := .tuple #[zeroI.v, .int .i64 0, .int .i64 70]) (by rw [zeroI_v]; simp [results, Tryz.results15, go_sem, r0, r1, r2, r3, r4, r5, r6, r7, r8, r9, r10, r11]) rfl ?_
    unfold HdP
    have e70 : hdP bs = (zeroI, 0, 70) := by unfold hdP; rw [hnone.out]
    rw [e70]
    exact ⟨rfl, kkW.out⟩
  have y3 : ¬ (bs.length : Int) < (AT : Int) + 2 := by omega
  have y3' : decide ((bs.length : Int) < (AT : Int) + 2) = false := by simpa using y3
  rw [if_neg (by intro h; rcases h with h | h; exact hn2 h; exact hA2 h)] at hsm
  have e0 := bx6.out.c0; have e1 := bx6.out.c1; have e2 := bx6.out.c2; have e3 := bx6.out.c3
  have g2 := bI6.out.get 2 _ rfl; have gf2 := bI6.out.free 2
  have g3 := bI6.out.get 3 _ rfl; have gf3 := bI6.out.free 3
  have g4 := bI6.out.get 4 _ rfl; have gf4 := bI6.out.free 4
  have g5 := bI6.out.get 5 _ rfl; have gf5 := bI6.out.free 5
  obtain ⟨V, hV, bV, kV⟩ : ∃ Y9, ((((w6.setCell ⟨qi, 2, none⟩ (.int .i64 mk)).setCell ⟨qi, 3, none⟩ (.bool mb)).setCell ⟨qi, 4, none⟩ (.int .i64 mn)).setCell ⟨qi, 5, none⟩ (.string mt)) = Y9 ∧ Bx Y9 qi [.int .i64 (K : Int), .int .i64 (M : Int), .int .i64 mk, .bool mb, .int .i64 mn, .string mt, .int .i64 0, .bool false, .int .i64 0, .string ⟨#[]⟩, .int .i64 (N : Int), .int .i64 0] ∧ Kp [qi] w6 Y9 := ⟨_, rfl, genS4 (R := fun Y9 => Bx Y9 qi [.int .i64 (K : Int), .int .i64 (M : Int), .int .i64 mk, .bool mb, .int .i64 mn, .string mt, .int .i64 0, .bool false, .int .i64 0, .string ⟨#[]⟩, .int .i64 (N : Int), .int .i64 0]) bI6.out 2 3 4 5 (by simp) (by simp) (by simp) (by simp) (.int .i64 mk) (.bool mb) (.int .i64 mn) (.string mt) (fun Y9 b _ => b), genS4 (R := fun Y9 => Kp [qi] w6 Y9) bI6.out 2 3 4 5 (by simp) (by simp) (by simp) (by simp) (.int .i64 mk) (.bool mb) (.int .i64 mn) (.string mt) (fun Y9 _ k => k)⟩
  have bx8V := hbx8.out.kept kV (by simp; omega)
  have j0 := bx8V.c0; have j1 := bx8V.c1; have j2 := bx8V.c2; have j3 := bx8V.c3
  have g6 := bV.get 6 _ rfl; have gf6 := bV.free 6
  have g7 := bV.get 7 _ rfl; have gf7 := bV.free 7
  have g8 := bV.get 8 _ rfl; have gf8 := bV.free 8
  have g9 := bV.get 9 _ rfl; have gf9 := bV.free 9
  obtain ⟨U, hU, bU, kU⟩ : ∃ Y9, ((((V.setCell ⟨qi, 6, none⟩ (.int .i64 xk)).setCell ⟨qi, 7, none⟩ (.bool xb)).setCell ⟨qi, 8, none⟩ (.int .i64 xn)).setCell ⟨qi, 9, none⟩ (.string xt)) = Y9 ∧ Bx Y9 qi [.int .i64 (K : Int), .int .i64 (M : Int), .int .i64 mk, .bool mb, .int .i64 mn, .string mt, .int .i64 xk, .bool xb, .int .i64 xn, .string xt, .int .i64 (N : Int), .int .i64 0] ∧ Kp [qi] V Y9 := ⟨_, rfl, genS4 (R := fun Y9 => Bx Y9 qi [.int .i64 (K : Int), .int .i64 (M : Int), .int .i64 mk, .bool mb, .int .i64 mn, .string mt, .int .i64 xk, .bool xb, .int .i64 xn, .string xt, .int .i64 (N : Int), .int .i64 0]) bV 6 7 8 9 (by simp) (by simp) (by simp) (by simp) (.int .i64 xk) (.bool xb) (.int .i64 xn) (.string xt) (fun Y9 b _ => b), genS4 (R := fun Y9 => Kp [qi] V Y9) bV 6 7 8 9 (by simp) (by simp) (by simp) (by simp) (.int .i64 xk) (.bool xb) (.int .i64 xn) (.string xt) (fun Y9 _ k => k)⟩
  have kwU := hid ((kw6.out.trans kV (fun x hx => .inr (by simp at hx; omega))).trans kU (fun x hx => .inr (by simp at hx; omega)))
  have bRU := hid ((bR6.out.kept kV (by simpa using hne) (bR6.out.lt (by simp))).kept kU (by simpa using hne) (by have := bR6.out.lt (by simp); have := kV.size; omega))
  have hbU := hid bU
  have sU : Sees U (some ⟨g, o + AT, none⟩) ((bs.drop AT).take 2) := by have := ((hsB.out U kwU.out).tail AT).front 2; simpa [Addr.add_lit] using this
  have l2 : ((bs.drop AT).take 2).length = 2 := by rw [List.length_take, List.length_drop]; omega
  have cS := cRefSaid (some ⟨g, o + AT, none⟩) 2 (c - AT) ((bs.drop AT).take 2) U sU l2.symm (by omega)
  have hnb := num_lt_of ((bs.drop AT).take 2) 2 (by omega)
  have hend : Hid (endR bs AT = AT + 2 + num ((bs.drop AT).take 2) + 4) := rfl
  obtain ⟨S2, hS2⟩ : ∃ x : Nat, Hid (num ((bs.drop AT).take 2) = x) := ⟨_, rfl⟩
  rw [hS2.out] at cS hnb hend
  obtain ⟨B, hBB⟩ : ∃ x : Nat, Hid (AT + 2 + S2 + 4 = x) := ⟨_, rfl⟩
  rw [hBB.out] at hend
  rw [hend.out] at hsm
  have i5 : (AT : Int) + 2 + (S2 : Int) + 4 = (B : Int) := by have := hBB.out; omega
  have i6 : IntKind.i64.wrap (S2 : Int) = (S2 : Int) := by rw [IntKind.wrap_i64]; omega
  have hB7 : B ≤ 9223372036854000000 := by rw [← hBB.out]; omega
  have v1 : (AT : Int) ≤ (AT : Int) + 2 := by omega
  have v2 : (AT : Int) + 2 ≤ (c : Int) := by omega
  have v3 : c ≠ AT := by omega
  have v4 : AT ≤ c := by omega
  have v5 : AT + 2 ≤ c := by omega
  clear sU l2 kV bV kU bU hend hS2 bx6 hbx8 bx8V kw6 bR6 bI6
  go_wp2_with fail
  refine cS.mono ?_
  rintro e w7 ⟨rfl, hw7⟩
  subst hw7
  have g11 := hbU.out.get 11 _ rfl
  have gf11 := hbU.out.free 11
  obtain ⟨T, hT, bT, kT⟩ : ∃ Y9, w7.setCell ⟨qi, 11, none⟩ (.int .i64 (B : Int)) = Y9 ∧ Bx Y9 qi [.int .i64 (K : Int), .int .i64 (M : Int), .int .i64 mk, .bool mb, .int .i64 mn, .string mt, .int .i64 xk, .bool xb, .int .i64 xn, .string xt, .int .i64 (N : Int), .int .i64 (B : Int)] ∧ Kp [qi] w7 Y9 := ⟨_, rfl, genS (R := fun Y9 => Bx Y9 qi [.int .i64 (K : Int), .int .i64 (M : Int), .int .i64 mk, .bool mb, .int .i64 mn, .string mt, .int .i64 xk, .bool xb, .int .i64 xn, .string xt, .int .i64 (N : Int), .int .i64 (B : Int)]) hbU.out 11 (by simp) (.int .i64 (B : Int)) (fun Y9 b _ => b), genS (R := fun Y9 => Kp [qi] w7 Y9) hbU.out 11 (by simp) (.int .i64 (B : Int)) (fun Y9 _ k => k)⟩
  have kwT := hid (kwU.out.trans kT (fun x hx => .inr (by simp at hx; omega)))
  have bRT := hid (bRU.out.kept kT (by simpa using hne) (bRU.out.lt (by simp)))
  have s0 := bT.get 0 _ rfl
  have s1 := bT.get 1 _ rfl
  have s2 := bT.get 2 _ rfl
  have s3 := bT.get 3 _ rfl
  have s4 := bT.get 4 _ rfl
  have s5 := bT.get 5 _ rfl
  have s6 := bT.get 6 _ rfl
  have s7 := bT.get 7 _ rfl
  have s8 := bT.get 8 _ rfl
  have s9 := bT.get 9 _ rfl
  have s10 := bT.get 10 _ rfl
  have s11 := bT.get 11 _ rfl
  clear cS kT bT bRU kwU hbU e0 e1 e2 e3 j0 j1 j2 j3 hw6 hq8' hV hU
  clear g2 gf2 g3 gf3 g4 gf4 g5 gf5 g6 gf6 g7 gf7 g8 gf8 g9 gf9
  by_cases hBn : bs.length < B
  · have y5 : (bs.length : Int) < (B : Int) := by omega
    have y5' : decide ((bs.length : Int) < (B : Int)) = true := by simpa using y5
    have hnone : Hid (hdR bs = none) := by show _ = _; rw [hsm.out, if_pos hBn]
    have p0 := bRT.out.get 0 _ rfl; have f0 := bRT.out.free 0
    have p1 := bRT.out.get 1 _ rfl; have f1 := bRT.out.free 1
    have p2 := bRT.out.get 2 _ rfl; have f2 := bRT.out.free 2
    have p3 := bRT.out.get 3 _ rfl; have f3 := bRT.out.free 3
    have p4 := bRT.out.get 4 _ rfl; have f4 := bRT.out.free 4
    have p5 := bRT.out.get 5 _ rfl; have f5 := bRT.out.free 5
    have p6 := bRT.out.get 6 _ rfl; have f6 := bRT.out.free 6
    have p7 := bRT.out.get 7 _ rfl; have f7 := bRT.out.free 7
    have p8 := bRT.out.get 8 _ rfl; have f8 := bRT.out.free 8
    have p9 := bRT.out.get 9 _ rfl; have f9 := bRT.out.free 9
    have p10 := bRT.out.get 10 _ rfl; have f10 := bRT.out.free 10
    have p11 := bRT.out.get 11 _ rfl; have f11 := bRT.out.free 11
    obtain ⟨W, hW, bW, kW⟩ : ∃ Y9, ((((((((((((T.setCell ⟨q, 0, none⟩ (.int .i64 0)).setCell ⟨q, 1, none⟩ (.int .i64 0)).setCell ⟨q, 2, none⟩ (.int .i64 0)).setCell ⟨q, 3, none⟩ (.bool false)).setCell ⟨q, 4, none⟩ (.int .i64 0)).setCell ⟨q, 5, none⟩ (.string ⟨#[]⟩)).setCell ⟨q, 6, none⟩ (.int .i64 0)).setCell ⟨q, 7, none⟩ (.bool false)).setCell ⟨q, 8, none⟩ (.int .i64 0)).setCell ⟨q, 9, none⟩ (.string ⟨#[]⟩)).setCell ⟨q, 10, none⟩ (.int .i64 0)).setCell ⟨q, 11, none⟩ (.int .i64 0)) = Y9 ∧ Bx Y9 q [.int .i64 0, .int .i64 0, .int .i64 0, .bool false, .int .i64 0, .string ⟨#[]⟩, .int .i64 0, .bool false, .int .i64 0, .string ⟨#[]⟩, .int .i64 0, .int .i64 0] ∧ Kp [q] T Y9 := ⟨_, rfl, gen12q (R := fun Y9 => Bx Y9 q [.int .i64 0, .int .i64 0, .int .i64 0, .bool false, .int .i64 0, .string ⟨#[]⟩, .int .i64 0, .bool false, .int .i64 0, .string ⟨#[]⟩, .int .i64 0, .int .i64 0]) bRT.out rfl (.int .i64 0) (.int .i64 0) (.int .i64 0) (.bool false) (.int .i64 0) (.string ⟨#[]⟩) (.int .i64 0) (.bool false) (.int .i64 0) (.string ⟨#[]⟩) (.int .i64 0) (.int .i64 0) (fun Y9 b _ => b), gen12q (R := fun Y9 => Kp [q] T Y9) bRT.out rfl (.int .i64 0) (.int .i64 0) (.int .i64 0) (.bool false) (.int .i64 0) (.string ⟨#[]⟩) (.int .i64 0) (.bool false) (.int .i64 0) (.string ⟨#[]⟩) (.int .i64 0) (.int .i64 0) (fun Y9 _ k => k)⟩
    have r0 := bW.get 0 _ rfl
    have r1 := bW.get 1 _ rfl
    have r2 := bW.get 2 _ rfl
    have r3 := bW.get 3 _ rfl
    have r4 := bW.get 4 _ rfl
    have r5 := bW.get 5 _ rfl
    have r6 := bW.get 6 _ rfl
    have r7 := bW.get 7 _ rfl
    have r8 := bW.get 8 _ rfl
    have r9 := bW.get 9 _ rfl
    have r10 := bW.get 10 _ rfl
    have r11 := bW.get 11 _ rfl
    have kkW := hid (kwT.out.trans kW (fun x hx => .inr (by simp at hx; omega)))
    clear kW bW
    go_wp2_with fail
    refine bodyPost_ret (v := .tuple #[zeroI.v, .int .i64 0, .int .i64 70]) (by rw [zeroI_v]; simp [results, Tryz.results15, go_sem, r0, r1, r2, r3, r4, r5, r6, r7, r8, r9, r10, r11]) rfl ?_
    unfold HdP
    have e70 : hdP bs = (zeroI, 0, 70) := by unfold hdP; rw [hnone.out]
    rw [e70]
    exact ⟨rfl, kkW.out⟩
  have y5 : ¬ (bs.length : Int) < (B : Int) := by omega
  have y5' : decide ((bs.length : Int) < (B : Int)) = false := by simpa using y5
  rw [if_neg hBn] at hsm
  have p0 := bRT.out.get 0 _ rfl; have f0 := bRT.out.free 0
  have p1 := bRT.out.get 1 _ rfl; have f1 := bRT.out.free 1
  have p2 := bRT.out.get 2 _ rfl; have f2 := bRT.out.free 2
  have p3 := bRT.out.get 3 _ rfl; have f3 := bRT.out.free 3
  have p4 := bRT.out.get 4 _ rfl; have f4 := bRT.out.free 4
  have p5 := bRT.out.get 5 _ rfl; have f5 := bRT.out.free 5
  have p6 := bRT.out.get 6 _ rfl; have f6 := bRT.out.free 6
  have p7 := bRT.out.get 7 _ rfl; have f7 := bRT.out.free 7
  have p8 := bRT.out.get 8 _ rfl; have f8 := bRT.out.free 8
  have p9 := bRT.out.get 9 _ rfl; have f9 := bRT.out.free 9
  have p10 := bRT.out.get 10 _ rfl; have f10 := bRT.out.free 10
  have p11 := bRT.out.get 11 _ rfl; have f11 := bRT.out.free 11
  obtain ⟨Q, hQ, bQ, kQ⟩ : ∃ Y9, ((((((((((((T.setCell ⟨q, 0, none⟩ (.int .i64 (K : Int))).setCell ⟨q, 1, none⟩ (.int .i64 (M : Int))).setCell ⟨q, 2, none⟩ (.int .i64 mk)).setCell ⟨q, 3, none⟩ (.bool mb)).setCell ⟨q, 4, none⟩ (.int .i64 mn)).setCell ⟨q, 5, none⟩ (.string mt)).setCell ⟨q, 6, none⟩ (.int .i64 xk)).setCell ⟨q, 7, none⟩ (.bool xb)).setCell ⟨q, 8, none⟩ (.int .i64 xn)).setCell ⟨q, 9, none⟩ (.string xt)).setCell ⟨q, 10, none⟩ (.int .i64 (N : Int))).setCell ⟨q, 11, none⟩ (.int .i64 (B : Int))) = Y9 ∧ Bx Y9 q [.int .i64 (K : Int), .int .i64 (M : Int), .int .i64 mk, .bool mb, .int .i64 mn, .string mt, .int .i64 xk, .bool xb, .int .i64 xn, .string xt, .int .i64 (N : Int), .int .i64 (B : Int)] ∧ Kp [q] T Y9 := ⟨_, rfl, gen12q (R := fun Y9 => Bx Y9 q [.int .i64 (K : Int), .int .i64 (M : Int), .int .i64 mk, .bool mb, .int .i64 mn, .string mt, .int .i64 xk, .bool xb, .int .i64 xn, .string xt, .int .i64 (N : Int), .int .i64 (B : Int)]) bRT.out rfl (.int .i64 (K : Int)) (.int .i64 (M : Int)) (.int .i64 mk) (.bool mb) (.int .i64 mn) (.string mt) (.int .i64 xk) (.bool xb) (.int .i64 xn) (.string xt) (.int .i64 (N : Int)) (.int .i64 (B : Int)) (fun Y9 b _ => b), gen12q (R := fun Y9 => Kp [q] T Y9) bRT.out rfl (.int .i64 (K : Int)) (.int .i64 (M : Int)) (.int .i64 mk) (.bool mb) (.int .i64 mn) (.string mt) (.int .i64 xk) (.bool xb) (.int .i64 xn) (.string xt) (.int .i64 (N : Int)) (.int .i64 (B : Int)) (fun Y9 _ k => k)⟩
  have r0 := bQ.get 0 _ rfl
  have r1 := bQ.get 1 _ rfl
  have r2 := bQ.get 2 _ rfl
  have r3 := bQ.get 3 _ rfl
  have r4 := bQ.get 4 _ rfl
  have r5 := bQ.get 5 _ rfl
  have r6 := bQ.get 6 _ rfl
  have r7 := bQ.get 7 _ rfl
  have r8 := bQ.get 8 _ rfl
  have r9 := bQ.get 9 _ rfl
  have r10 := bQ.get 10 _ rfl
  have r11 := bQ.get 11 _ rfl
  have kkQ := hid (kwT.out.trans kQ (fun x hx => .inr (by simp at hx; omega)))
  clear kQ bQ
  go_wp2_with fail
  refine bodyPost_ret (v := .tuple #[Inf.v ⟨(K : Int), (M : Int), ⟨mk, mb, mn, mt⟩, ⟨xk, xb, xn, xt⟩, (N : Int), (B : Int)⟩, .int .i64 ((AT : Int) + 2), .int .i64 0]) (by simp [results, Tryz.results15, go_sem, Inf.v, Inf.cs, r0, r1, r2, r3, r4, r5, r6, r7, r8, r9, r10, r11]) rfl ?_
  unfold HdP
  have e70 : hdP bs = (⟨(K : Int), (M : Int), ⟨mk, mb, mn, mt⟩, ⟨xk, xb, xn, xt⟩, (N : Int), (B : Int)⟩, AT + 2, 0) := by unfold hdP; rw [hsm.out]
  rw [e70]
  exact ⟨by simp, kkQ.out⟩
theorem rHead (a : Option Addr) (c : Nat) (bs : List UInt8) (w : World) (hs : Sees w a bs) (hl : bs.length ≤ c) (hm : c ≤ maxLen) (hb2 : bs.length ≤ 200000000000000) : Calls Tryz.prog 15 #[.slice a bs.length c] w (HdP (hdP bs) w) := by
  match hb : bs with
  | k :: m :: n :: r => exact rHeadL a c k m n r (k :: m :: n :: r) rfl w hs hl hm hb2
  | [] => exact rHeadS a c [] w hs hl hm (by simp)
  | [_] => exact rHeadS a c _ w hs hl hm (by simp)
  | [_, _] => exact rHeadS a c _ w hs hl hm (by simp)
end Go.Proofs.YtcjnojbjgdechaaGreatDoor
end

section
namespace Go.Proofs.YtcjnojbjgdechaaGreatDoor
open Go.RowKit Go.Hay
set_option linter.unusedVariables false
set_option linter.unusedSimpArgs false

theorem min_step (l : List Val) (j : Nat) : minTo l (j + 1 - 1) = if cmpV (l.getD j nv) (minTo l (j - 1)) < 0 then l.getD j nv else minTo l (j - 1) := by
  cases j with
  | zero => rw [if_neg (by show ¬ cmpV (l.getD 0 nv) (l.getD 0 nv) < 0; rw [cmp_self]; omega)]
  | succ j => rfl
theorem max_step (l : List Val) (j : Nat) : maxTo l (j + 1 - 1) = if 0 < cmpV (l.getD j nv) (maxTo l (j - 1)) then l.getD j nv else maxTo l (j - 1) := by
  cases j with
  | zero => rw [if_neg (by show ¬ 0 < cmpV (l.getD 0 nv) (l.getD 0 nv); rw [cmp_self]; omega)]
  | succ j => rfl
set_option maxHeartbeats 64000000 in
set_option maxRecDepth 100000 in
theorem rFacts (k : Int) (a : Option Addr) (ca : Nat) (l : List Val) (w : World) (ha : Vals w a l) (h0 : 0 < l.length) (hl : l.length ≤ 1000000) :
    Calls Tryz.prog 35 #[.int .i64 k, .slice a l.length ca] w fun e w' => e = .returned (Inf.v ⟨k, l.length, minV l, maxV l, nullsV l, 0⟩) ∧ Kp [] w w' := by
  obtain ⟨g, o, rfl, hdrop⟩ := ha.at 0 h0
  clear hdrop
  have hat : Hid (∀ W, Kp [] w W → ∀ j, j < l.length → W.cell? ⟨g, o + j * 4, none⟩ = some (.int .i64 (l.getD j nv).k) ∧ W.cell? ⟨g, o + j * 4 + 1, none⟩ = some (.bool (l.getD j nv).b) ∧ W.cell? ⟨g, o + j * 4 + 2, none⟩ = some (.int .i64 (l.getD j nv).n) ∧ W.cell? ⟨g, o + j * 4 + 3, none⟩ = some (.string (l.getD j nv).t)) := fun W kW j hj => by
    obtain ⟨_, _, e, y0, y1, y2, y3⟩ := (ha.kept kW).at j hj
    cases e
    have eg : l.getD j nv = l[j] := by simp [hj]
    rw [eg]
    exact ⟨y0, y1, y2, y3⟩
  have hnul : Hid (∀ j, j < l.length → nullsV (l.take (j + 1)) = nullsV (l.take j) + (if (l.getD j nv).k = 0 then 1 else 0)) := fun j hj => by
    have := nulls_take l j hj
    rw [this]
    simp [hj]
  obtain ⟨w0, hw0, kW0, bR⟩ : ∃ w0, w.alloc (.cells #[.int .i64 0, .int .i64 0, .int .i64 0, .bool false, .int .i64 0, .string ⟨#[]⟩, .int .i64 0, .bool false, .int .i64 0, .string ⟨#[]⟩, .int .i64 0, .int .i64 0] 37) = w0 ∧ Kp [] w w0 ∧ Bx w0 w.heap.size [.int .i64 0, .int .i64 0, .int .i64 0, .bool false, .int .i64 0, .string ⟨#[]⟩, .int .i64 0, .bool false, .int .i64 0, .string ⟨#[]⟩, .int .i64 0, .int .i64 0] := ⟨_, rfl, (Kp.refl _ _).alloc _, Bx.new w _ _⟩
  obtain ⟨q, hq⟩ : ∃ q, Hid (w.heap.size = q) := ⟨_, rfl⟩
  have hqw : w.heap.size ≤ q := by rw [hq.out]; omega
  rw [hq.out] at bR
  have hm0 : Hid (minTo l (0 - 1) = l.getD 0 nv) := rfl
  have hx0 : Hid (maxTo l (0 - 1) = l.getD 0 nv) := rfl
  have hfm : Hid (minV l = minTo l (l.length - 1)) := rfl
  have hfx : Hid (maxV l = maxTo l (l.length - 1)) := rfl
  obtain ⟨⟨zk, zb, zn, zt⟩, hz⟩ : ∃ m, Hid (l.getD 0 nv = m) := ⟨_, rfl⟩
  have hz0 := hat.out
  rw [hz.out] at hm0 hx0
  have hat0 : Hid (∀ W, Kp [] w W → (W.cell? ⟨g, o, none⟩ = some (.int .i64 zk) ∧ W.cell? ⟨g, o + 1, none⟩ = some (.bool zb) ∧ W.cell? ⟨g, o + 2, none⟩ = some (.int .i64 zn) ∧ W.cell? ⟨g, o + 3, none⟩ = some (.string zt))) := fun W kW => by
    have := hat.out W kW 0 h0
    rw [hz.out, Nat.zero_mul, Nat.add_zero] at this
    exact this
  have hbR := hid bR
  have hkw := hid kW0
  have hw0' := hid hw0
  clear bR kW0 hw0 ha hz0 hz
  go_enter Tryz.func35, Tryz.ntmps35
  go_wp2_with fail
  rw [hw0'.out, hq.out]
  have kd : Kp [] w0 w0.drew := (Kp.refl _ _).drew
  have kwd := hid (hkw.out.trans kd (by simp))
  have hS : Hid (∀ A, Kp [] w0 A → (A.cell? ⟨g, o, none⟩ = some (.int .i64 zk) ∧ A.cell? ⟨g, o + 1, none⟩ = some (.bool zb) ∧ A.cell? ⟨g, o + 2, none⟩ = some (.int .i64 zn) ∧ A.cell? ⟨g, o + 3, none⟩ = some (.string zt))) := fun A kA => hat0.out A (hkw.out.trans kA (by simp))
  have hbd := hid (hbR.out.kept kd (by simp) (hbR.out.lt (by simp)))
  refine wp_region_held_drew (S := (fun A => (A.cell? ⟨g, o, none⟩ = some (.int .i64 zk) ∧ A.cell? ⟨g, o + 1, none⟩ = some (.bool zb) ∧ A.cell? ⟨g, o + 2, none⟩ = some (.int .i64 zn) ∧ A.cell? ⟨g, o + 3, none⟩ = some (.string zt)))) (by kernel_rfl) ?_ (fun hHeld => ?_)
  · exact hS.out _ kd
  have hHeld' := hS.out _ kd
  have hkd := hid kd
  clear hHeld hHeld' kd hbR hkw hw0'
  have hHeld := hS.out _ hkd.out
  generalize w0.drew = wd at *
  have dl : (0 : Int) < (l.length : Int) := by omega
  have dl2 : ((0 : Nat) : Int) < (l.length : Int) := by omega
  refine wpAnyH_take (i := 0) (v := ?_) rfl (by kernel_rfl) (by kernel_rfl) (by kernel_rfl) (fun _ _ _ h => h) (Or.inl ⟨by rfl, ?_⟩) (by assumption) ?_
  rotate_left
  · intro w hSw; (try dsimp only at hSw); go_simp <;> with_reducible rfl
  try simp only [Act.put, List.getElem_toArray, List.getElem_cons_zero, List.getElem_cons_succ, List.setIfInBounds_toArray, List.set_cons_zero, List.set_cons_succ]
  refine wpAnyH_take (i := 1) (v := ?_) rfl (by kernel_rfl) (by kernel_rfl) (by kernel_rfl) (fun _ _ _ h => h) (Or.inl ⟨by rfl, ?_⟩) (by assumption) ?_
  rotate_left
  · intro w hSw; (try dsimp only at hSw); go_simp <;> with_reducible rfl
  try simp only [Act.put, List.getElem_toArray, List.getElem_cons_zero, List.getElem_cons_succ, List.setIfInBounds_toArray, List.set_cons_zero, List.set_cons_succ]
  refine wpAnyH_take (i := 2) (v := ?_) rfl (by kernel_rfl) (by kernel_rfl) (by kernel_rfl) (fun _ _ _ h => h) (Or.inl ⟨by rfl, ?_⟩) (by assumption) ?_
  rotate_left
  · intro w hSw; (try dsimp only at hSw); go_simp <;> with_reducible rfl
  try simp only [Act.put, List.getElem_toArray, List.getElem_cons_zero, List.getElem_cons_succ, List.setIfInBounds_toArray, List.set_cons_zero, List.set_cons_succ]
  refine wpAnyH_take (i := 3) (v := ?_) rfl (by kernel_rfl) (by kernel_rfl) (by kernel_rfl) (fun _ _ _ h => h) (Or.inl ⟨by rfl, ?_⟩) (by assumption) ?_
  rotate_left
  · intro w hSw; (try dsimp only at hSw); go_simp <;> with_reducible rfl
  try simp only [Act.put, List.getElem_toArray, List.getElem_cons_zero, List.getElem_cons_succ, List.setIfInBounds_toArray, List.set_cons_zero, List.set_cons_succ]
  refine wpAnyH_take (i := 4) (v := ?_) rfl (by kernel_rfl) (by kernel_rfl) (by kernel_rfl) (fun _ _ _ h => h) (Or.inl ⟨by rfl, ?_⟩) (by assumption) ?_
  rotate_left
  · intro w hSw; (try dsimp only at hSw); go_simp <;> with_reducible rfl
  try simp only [Act.put, List.getElem_toArray, List.getElem_cons_zero, List.getElem_cons_succ, List.setIfInBounds_toArray, List.set_cons_zero, List.set_cons_succ]
  refine wpAnyH_take (i := 5) (v := ?_) rfl (by kernel_rfl) (by kernel_rfl) (by kernel_rfl) (fun _ _ _ h => h) (Or.inl ⟨by rfl, ?_⟩) (by assumption) ?_
  rotate_left
  · intro w hSw; (try dsimp only at hSw); go_simp <;> with_reducible rfl
  try simp only [Act.put, List.getElem_toArray, List.getElem_cons_zero, List.getElem_cons_succ, List.setIfInBounds_toArray, List.set_cons_zero, List.set_cons_succ]
  refine wpAnyH_take (i := 6) (v := ?_) rfl (by kernel_rfl) (by kernel_rfl) (by kernel_rfl) (fun _ _ _ h => h) (Or.inl ⟨by rfl, ?_⟩) (by assumption) ?_
  rotate_left
  · intro w hSw; (try dsimp only at hSw); go_simp <;> with_reducible rfl
  try simp only [Act.put, List.getElem_toArray, List.getElem_cons_zero, List.getElem_cons_succ, List.setIfInBounds_toArray, List.set_cons_zero, List.set_cons_succ]
  refine wpAnyH_take (i := 7) (v := ?_) rfl (by kernel_rfl) (by kernel_rfl) (by kernel_rfl) (fun _ _ _ h => h) (Or.inl ⟨by rfl, ?_⟩) (by assumption) ?_
  rotate_left
  · intro w hSw; (try dsimp only at hSw); go_simp <;> with_reducible rfl
  try simp only [Act.put, List.getElem_toArray, List.getElem_cons_zero, List.getElem_cons_succ, List.setIfInBounds_toArray, List.set_cons_zero, List.set_cons_succ]
  refine wpAnyH_take (i := 8) (v := ?_) rfl (by kernel_rfl) (by kernel_rfl) (by kernel_rfl) (fun _ _ _ h => h) (Or.inl ⟨by rfl, ?_⟩) (by assumption) ?_
  rotate_left
  · intro w hSw; (try dsimp only at hSw); go_simp <;> with_reducible rfl
  try simp only [Act.put, List.getElem_toArray, List.getElem_cons_zero, List.getElem_cons_succ, List.setIfInBounds_toArray, List.set_cons_zero, List.set_cons_succ]
  refine wpAnyH_take (i := 9) (v := ?_) rfl (by kernel_rfl) (by kernel_rfl) (by kernel_rfl) (fun _ _ _ h => h) (Or.inl ⟨by rfl, ?_⟩) (by assumption) ?_
  rotate_left
  · intro w hSw; (try dsimp only at hSw); go_simp <;> with_reducible rfl
  try simp only [Act.put, List.getElem_toArray, List.getElem_cons_zero, List.getElem_cons_succ, List.setIfInBounds_toArray, List.set_cons_zero, List.set_cons_succ]
  obtain ⟨w1, hw1, k1, bI⟩ : ∃ w1, wd.alloc (.cells #[.int .i64 0, .int .i64 0, .int .i64 0, .bool false, .int .i64 0, .string ⟨#[]⟩, .int .i64 0, .bool false, .int .i64 0, .string ⟨#[]⟩, .int .i64 0, .int .i64 0] 37) = w1 ∧ Kp [] wd w1 ∧ Bx w1 wd.heap.size [.int .i64 0, .int .i64 0, .int .i64 0, .bool false, .int .i64 0, .string ⟨#[]⟩, .int .i64 0, .bool false, .int .i64 0, .string ⟨#[]⟩, .int .i64 0, .int .i64 0] := ⟨_, rfl, (Kp.refl _ _).alloc _, Bx.new wd _ _⟩
  obtain ⟨qi, hqi⟩ : ∃ q, Hid (wd.heap.size = q) := ⟨_, rfl⟩
  have hne : q ≠ qi := by rw [← hqi.out]; have := hbd.out.lt (by simp); omega
  have hqiw : w.heap.size ≤ qi := by rw [← hqi.out]; exact kwd.out.size
  rw [hqi.out] at bI
  have hw1' := hid hw1
  have hbI := hid bI
  have k1' := hid k1
  clear hw1 bI k1
  refine wpAnyH_ready (rs := [10]) (by kernel_rfl) (by simp) ?_
  refine AllReadyH.cons rfl (fun K hK => ?_) AllReadyH.nil
  go_simp
  rw [hw1'.out, hqi.out]
  refine hK.out _ _ ?_ (fun hHeld => ?_)
  · exact hS.out _ (hkd.out.trans k1'.out (by simp))
  clear hK K
  try simp only [Act.put, List.getElem_toArray, List.getElem_cons_zero, List.getElem_cons_succ, List.setIfInBounds_toArray, List.set_cons_zero, List.set_cons_succ]
  have p0 := hbI.out.get 0 _ rfl; have f0 := hbI.out.free 0
  have p1 := hbI.out.get 1 _ rfl; have f1 := hbI.out.free 1
  have p2 := hbI.out.get 2 _ rfl; have f2 := hbI.out.free 2
  have p3 := hbI.out.get 3 _ rfl; have f3 := hbI.out.free 3
  have p4 := hbI.out.get 4 _ rfl; have f4 := hbI.out.free 4
  have p5 := hbI.out.get 5 _ rfl; have f5 := hbI.out.free 5
  have p6 := hbI.out.get 6 _ rfl; have f6 := hbI.out.free 6
  have p7 := hbI.out.get 7 _ rfl; have f7 := hbI.out.free 7
  have p8 := hbI.out.get 8 _ rfl; have f8 := hbI.out.free 8
  have p9 := hbI.out.get 9 _ rfl; have f9 := hbI.out.free 9
  have p10 := hbI.out.get 10 _ rfl; have f10 := hbI.out.free 10
  have p11 := hbI.out.get 11 _ rfl; have f11 := hbI.out.free 11
  obtain ⟨W, hW, bW, kW⟩ : ∃ Y9, ((((((((((((w1.setCell ⟨qi, 0, none⟩ (.int .i64 k)).setCell ⟨qi, 1, none⟩ (.int .i64 (l.length : Int))).setCell ⟨qi, 2, none⟩ (.int .i64 zk)).setCell ⟨qi, 3, none⟩ (.bool zb)).setCell ⟨qi, 4, none⟩ (.int .i64 zn)).setCell ⟨qi, 5, none⟩ (.string zt)).setCell ⟨qi, 6, none⟩ (.int .i64 zk)).setCell ⟨qi, 7, none⟩ (.bool zb)).setCell ⟨qi, 8, none⟩ (.int .i64 zn)).setCell ⟨qi, 9, none⟩ (.string zt)).setCell ⟨qi, 10, none⟩ (.int .i64 0)).setCell ⟨qi, 11, none⟩ (.int .i64 0)) = Y9 ∧ Bx Y9 qi [.int .i64 k, .int .i64 (l.length : Int), .int .i64 zk, .bool zb, .int .i64 zn, .string zt, .int .i64 zk, .bool zb, .int .i64 zn, .string zt, .int .i64 0, .int .i64 0] ∧ Kp [qi] w1 Y9 := ⟨_, rfl, gen12q (R := fun Y9 => Bx Y9 qi [.int .i64 k, .int .i64 (l.length : Int), .int .i64 zk, .bool zb, .int .i64 zn, .string zt, .int .i64 zk, .bool zb, .int .i64 zn, .string zt, .int .i64 0, .int .i64 0]) hbI.out rfl (.int .i64 k) (.int .i64 (l.length : Int)) (.int .i64 zk) (.bool zb) (.int .i64 zn) (.string zt) (.int .i64 zk) (.bool zb) (.int .i64 zn) (.string zt) (.int .i64 0) (.int .i64 0) (fun Y9 b _ => b), gen12q (R := fun Y9 => Kp [qi] w1 Y9) hbI.out rfl (.int .i64 k) (.int .i64 (l.length : Int)) (.int .i64 zk) (.bool zb) (.int .i64 zn) (.string zt) (.int .i64 zk) (.bool zb) (.int .i64 zn) (.string zt) (.int .i64 0) (.int .i64 0) (fun Y9 _ k => k)⟩
  have hW' := hid hW
  refine wpAnyH_ready (rs := [11]) (by kernel_rfl) (by simp) ?_
  refine AllReadyH.cons rfl (fun K hK => ?_) AllReadyH.nil
  go_simp
  refine hK.out _ _ ?_ (fun hHeld => ?_)
  · exact hS.out _ ((hkd.out.trans k1'.out (by simp)).trans kW (fun x hx => .inr (by simp at hx; have := hkd.out.size; rw [hx, ← hqi.out]; omega)))
  clear hK K
  try simp only [Act.put, List.getElem_toArray, List.getElem_cons_zero, List.getElem_cons_succ, List.setIfInBounds_toArray, List.set_cons_zero, List.set_cons_succ]
  refine wpAnyH_done (by kernel_rfl) ?_ _
  have kwW := hid (((kwd.out.trans k1'.out (by simp)).trans kW (fun x hx => .inr (by simp at hx; omega))))
  have bRW := hid ((hbd.out.kept k1'.out (by simp) (hbd.out.lt (by simp))).kept kW (by simpa using hne) (by have := hbd.out.lt (by simp); have := k1'.out.size; omega))
  have hbW := hid bW
  clear p0 f0 p1 f1 p2 f2 p3 f3 p4 f4 p5 f5 p6 f6 p7 f7 p8 f8 p9 f9 p10 f10 p11 f11 hHeld hW hW' bW kW hS hbd hkd hbI hw1' k1' kwd hat0
  go_wp2_with fail
  go_loopw [6] (fun i wn => ∃ (j n : Nat) (m x : Val), j ≤ l.length ∧ i = .int .i64 (j : Int) ∧ Hid (minTo l (j - 1) = m) ∧ Hid (maxTo l (j - 1) = x) ∧ Hid (nullsV (l.take j) = n) ∧ n ≤ j ∧ Kp [] w wn ∧ Bx wn q [.int .i64 0, .int .i64 0, .int .i64 0, .bool false, .int .i64 0, .string ⟨#[]⟩, .int .i64 0, .bool false, .int .i64 0, .string ⟨#[]⟩, .int .i64 0, .int .i64 0] ∧ Bx wn qi [.int .i64 k, .int .i64 (l.length : Int), .int .i64 m.k, .bool m.b, .int .i64 m.n, .string m.t, .int .i64 x.k, .bool x.b, .int .i64 x.n, .string x.t, .int .i64 (n : Int), .int .i64 0]) (fun i _ => l.length - (intOf i).toNat)
  case atStart => exact ⟨0, 0, ⟨zk, zb, zn, zt⟩, ⟨zk, zb, zn, zt⟩, Nat.zero_le _, rfl, hm0, hx0, by show _ = _; simp [nullsV], Nat.le_refl _, kwW.out, bRW.out, hbW.out⟩
  case round =>
    clear kwW bRW hbW hm0 hx0
    obtain ⟨j, n, ⟨mk, mb, mn, mt⟩, ⟨xk, xb, xn, xt⟩, hj, rfl, hm, hx, hn, hnj, kn, bR, bQ⟩ := hrel
    dsimp only at bQ
    by_cases hlt : j < l.length
    · have hcy := hid (fun W kW => hat.out W kW j hlt)
      have hsm := hid (min_step l j)
      have hsx := hid (max_step l j)
      have hsn := hid (hnul.out j hlt)
      rw [hm.out] at hsm
      rw [hx.out] at hsx
      rw [hn.out] at hsn
      obtain ⟨⟨yk, yb, yn, yt⟩, hy⟩ : ∃ y, Hid (l.getD j nv = y) := ⟨_, rfl⟩
      rw [hy.out] at hsm hsx hsn
      simp only [hy.out] at hcy
      dsimp only at hsn
      have hCm := hid (fun W => cRefCompare ⟨yk, yb, yn, yt⟩ ⟨mk, mb, mn, mt⟩ W)
      have hCx := hid (fun W => cRefCompare ⟨yk, yb, yn, yt⟩ ⟨xk, xb, xn, xt⟩ W)
      obtain ⟨Cm, hcm⟩ : ∃ C, Hid (cmpV ⟨yk, yb, yn, yt⟩ ⟨mk, mb, mn, mt⟩ = C) := ⟨_, rfl⟩
      obtain ⟨Cx, hcx⟩ : ∃ C, Hid (cmpV ⟨yk, yb, yn, yt⟩ ⟨xk, xb, xn, xt⟩ = C) := ⟨_, rfl⟩
      simp only [hcm.out] at hCm hsm
      simp only [hcx.out] at hCx hsx
      unfold Val.v at hCm hCx
      dsimp only at hCm hCx hcy
      have djl : (j : Int) < (l.length : Int) := by omega
      have d00 : (0 : Int) ≤ (j : Int) := by omega
      have hbQ := hid bQ
      have hbR := hid bR
      have hkn := hid kn
      clear bQ bR kn hm hx hn hy hcm hcx
      go_wp2_with fail
      have kd : Kp [] wr wr.drew := (Kp.refl _ _).drew
      have hS : Hid (∀ A, Kp [] wr A → (A.cell? ⟨g, o + j * 4, none⟩ = some (.int .i64 yk) ∧ A.cell? ⟨g, o + j * 4 + 1, none⟩ = some (.bool yb) ∧ A.cell? ⟨g, o + j * 4 + 2, none⟩ = some (.int .i64 yn) ∧ A.cell? ⟨g, o + j * 4 + 3, none⟩ = some (.string yt)) ∧ (A.cell? ⟨qi, 2, none⟩ = some (.int .i64 mk) ∧ A.cell? ⟨qi, 3, none⟩ = some (.bool mb) ∧ A.cell? ⟨qi, 4, none⟩ = some (.int .i64 mn) ∧ A.cell? ⟨qi, 5, none⟩ = some (.string mt))) := fun A kA => ⟨hcy.out A (hkn.out.trans kA (by simp)), (hbQ.out.kept kA (by simp) (hbQ.out.lt (by simp))).get 2 _ rfl, (hbQ.out.kept kA (by simp) (hbQ.out.lt (by simp))).get 3 _ rfl, (hbQ.out.kept kA (by simp) (hbQ.out.lt (by simp))).get 4 _ rfl, (hbQ.out.kept kA (by simp) (hbQ.out.lt (by simp))).get 5 _ rfl⟩
      refine wp_region_held_drew (S := (fun A => (A.cell? ⟨g, o + j * 4, none⟩ = some (.int .i64 yk) ∧ A.cell? ⟨g, o + j * 4 + 1, none⟩ = some (.bool yb) ∧ A.cell? ⟨g, o + j * 4 + 2, none⟩ = some (.int .i64 yn) ∧ A.cell? ⟨g, o + j * 4 + 3, none⟩ = some (.string yt)) ∧ (A.cell? ⟨qi, 2, none⟩ = some (.int .i64 mk) ∧ A.cell? ⟨qi, 3, none⟩ = some (.bool mb) ∧ A.cell? ⟨qi, 4, none⟩ = some (.int .i64 mn) ∧ A.cell? ⟨qi, 5, none⟩ = some (.string mt)))) (by kernel_rfl) ?_ (fun hHeld => ?_)
      · exact hS.out _ kd
      have kdr := hid kd
      clear kd hHeld
      have hHeld := hS.out _ kdr.out
      generalize wr.drew = wd at *
      refine wpAnyH_take (i := 0) (v := ?_) rfl (by kernel_rfl) (by kernel_rfl) (by kernel_rfl) (fun _ _ _ h => h) (Or.inl ⟨by rfl, ?_⟩) (by assumption) ?_
      rotate_left
      · intro w hSw; (try dsimp only at hSw); go_simp <;> with_reducible rfl
      try simp only [Act.put, List.getElem_toArray, List.getElem_cons_zero, List.getElem_cons_succ, List.setIfInBounds_toArray, List.set_cons_zero, List.set_cons_succ]
      refine wpAnyH_take (i := 1) (v := ?_) rfl (by kernel_rfl) (by kernel_rfl) (by kernel_rfl) (fun _ _ _ h => h) (Or.inl ⟨by rfl, ?_⟩) (by assumption) ?_
      rotate_left
      · intro w hSw; (try dsimp only at hSw); go_simp <;> with_reducible rfl
      try simp only [Act.put, List.getElem_toArray, List.getElem_cons_zero, List.getElem_cons_succ, List.setIfInBounds_toArray, List.set_cons_zero, List.set_cons_succ]
      refine wpAnyH_take (i := 2) (v := ?_) rfl (by kernel_rfl) (by kernel_rfl) (by kernel_rfl) (fun _ _ _ h => h) (Or.inl ⟨by rfl, ?_⟩) (by assumption) ?_
      rotate_left
      · intro w hSw; (try dsimp only at hSw); go_simp <;> with_reducible rfl
      try simp only [Act.put, List.getElem_toArray, List.getElem_cons_zero, List.getElem_cons_succ, List.setIfInBounds_toArray, List.set_cons_zero, List.set_cons_succ]
      refine wpAnyH_take (i := 3) (v := ?_) rfl (by kernel_rfl) (by kernel_rfl) (by kernel_rfl) (fun _ _ _ h => h) (Or.inl ⟨by rfl, ?_⟩) (by assumption) ?_
      rotate_left
      · intro w hSw; (try dsimp only at hSw); go_simp <;> with_reducible rfl
      try simp only [Act.put, List.getElem_toArray, List.getElem_cons_zero, List.getElem_cons_succ, List.setIfInBounds_toArray, List.set_cons_zero, List.set_cons_succ]
      refine wpAnyH_take (i := 4) (v := ?_) rfl (by kernel_rfl) (by kernel_rfl) (by kernel_rfl) (fun _ _ _ h => h) (Or.inl ⟨by rfl, ?_⟩) (by assumption) ?_
      rotate_left
      · intro w hSw; (try dsimp only at hSw); go_simp <;> with_reducible rfl
      try simp only [Act.put, List.getElem_toArray, List.getElem_cons_zero, List.getElem_cons_succ, List.setIfInBounds_toArray, List.set_cons_zero, List.set_cons_succ]
      refine wpAnyH_take (i := 5) (v := ?_) rfl (by kernel_rfl) (by kernel_rfl) (by kernel_rfl) (fun _ _ _ h => h) (Or.inl ⟨by rfl, ?_⟩) (by assumption) ?_
      rotate_left
      · intro w hSw; (try dsimp only at hSw); go_simp <;> with_reducible rfl
      try simp only [Act.put, List.getElem_toArray, List.getElem_cons_zero, List.getElem_cons_succ, List.setIfInBounds_toArray, List.set_cons_zero, List.set_cons_succ]
      refine wpAnyH_ready (rs := [6]) (by kernel_rfl) (by simp) ?_
      refine AllReadyH.cons rfl (fun K hK => ?_) AllReadyH.nil
      go_simp
      refine (hCm.out wd).mono ?_
      rintro e w2 ⟨rfl, k2⟩
      (try go_wp2_with fail)
      refine hK.out _ _ ?_ (fun hHeld => ?_)
      · exact hS.out _ (kdr.out.trans k2 (by simp))
      clear hK K
      try simp only [Act.put, List.getElem_toArray, List.getElem_cons_zero, List.getElem_cons_succ, List.setIfInBounds_toArray, List.set_cons_zero, List.set_cons_succ]
      refine wpAnyH_take (i := 7) (v := ?_) rfl (by kernel_rfl) (by kernel_rfl) (by kernel_rfl) (fun _ _ _ h => h) (Or.inl ⟨by rfl, ?_⟩) (by assumption) ?_
      rotate_left
      · intro w hSw; (try dsimp only at hSw); go_simp <;> with_reducible rfl
      try simp only [Act.put, List.getElem_toArray, List.getElem_cons_zero, List.getElem_cons_succ, List.setIfInBounds_toArray, List.set_cons_zero, List.set_cons_succ]
      refine wpAnyH_done (by kernel_rfl) ?_ _
      have kw2 : Kp [] wr w2 := kdr.out.trans k2 (by simp)
      have hkn2 := hid (hkn.out.trans kw2 (by simp))
      have hbQ2 := hid (hbQ.out.kept kw2 (by simp) (hbQ.out.lt (by simp)))
      have hbR2 := hid (hbR.out.kept kw2 (by simp) (hbR.out.lt (by simp)))
      clear hHeld hS kdr k2 hkn hbQ hbR kw2
      have hkn := hkn2
      have hbQ := hbQ2
      have hbR := hbR2
      clear hkn2 hbQ2 hbR2
      by_cases hcc : Cm < 0
      · have hmN : Hid (minTo l (j + 1 - 1) = ⟨yk, yb, yn, yt⟩) := by show _ = _; rw [hsm.out, if_pos hcc]
        clear hsm
        obtain ⟨y0, y1, y2, y3⟩ := hcy.out w2 hkn.out
        have e0 := hbQ.out.get 2 _ rfl; have ef0 := hbQ.out.free 2
        have e1 := hbQ.out.get 3 _ rfl; have ef1 := hbQ.out.free 3
        have e2 := hbQ.out.get 4 _ rfl; have ef2 := hbQ.out.free 4
        have e3 := hbQ.out.get 5 _ rfl; have ef3 := hbQ.out.free 5
        go_wp2_with fail
        refine genS4 (R := fun W => Code.wp _ _ _ _ W) hbQ.out 2 3 4 5 (by simp) (by simp) (by simp) (by simp) _ _ _ _ ?_
        intro w3 bI kI
        have hkn2 := hid (hkn.out.trans kI (fun x hx => .inr (by simp at hx; omega)))
        have hbR2 := hid (hbR.out.kept kI (by simpa using hne) (hbR.out.lt (by simp)))
        have hbQ2 := hid (show Bx w3 qi [.int .i64 k, .int .i64 (l.length : Int), .int .i64 yk, .bool yb, .int .i64 yn, .string yt, .int .i64 xk, .bool xb, .int .i64 xn, .string xt, .int .i64 (n : Int), .int .i64 0] from bI)
        clear y0 y1 y2 y3 e0 e1 e2 e3 ef0 ef1 ef2 ef3 hkn hbQ hbR bI kI
        have hkn := hkn2
        have hbQ := hbQ2
        have hbR := hbR2
        clear hkn2 hbQ2 hbR2
        have kd : Kp [] w3 w3.drew := (Kp.refl _ _).drew
        have hS : Hid (∀ A, Kp [] w3 A → (A.cell? ⟨g, o + j * 4, none⟩ = some (.int .i64 yk) ∧ A.cell? ⟨g, o + j * 4 + 1, none⟩ = some (.bool yb) ∧ A.cell? ⟨g, o + j * 4 + 2, none⟩ = some (.int .i64 yn) ∧ A.cell? ⟨g, o + j * 4 + 3, none⟩ = some (.string yt)) ∧ (A.cell? ⟨qi, 6, none⟩ = some (.int .i64 xk) ∧ A.cell? ⟨qi, 7, none⟩ = some (.bool xb) ∧ A.cell? ⟨qi, 8, none⟩ = some (.int .i64 xn) ∧ A.cell? ⟨qi, 9, none⟩ = some (.string xt))) := fun A kA => ⟨hcy.out A (hkn.out.trans kA (by simp)), (hbQ.out.kept kA (by simp) (hbQ.out.lt (by simp))).get 6 _ rfl, (hbQ.out.kept kA (by simp) (hbQ.out.lt (by simp))).get 7 _ rfl, (hbQ.out.kept kA (by simp) (hbQ.out.lt (by simp))).get 8 _ rfl, (hbQ.out.kept kA (by simp) (hbQ.out.lt (by simp))).get 9 _ rfl⟩
        refine wp_region_held_drew (S := (fun A => (A.cell? ⟨g, o + j * 4, none⟩ = some (.int .i64 yk) ∧ A.cell? ⟨g, o + j * 4 + 1, none⟩ = some (.bool yb) ∧ A.cell? ⟨g, o + j * 4 + 2, none⟩ = some (.int .i64 yn) ∧ A.cell? ⟨g, o + j * 4 + 3, none⟩ = some (.string yt)) ∧ (A.cell? ⟨qi, 6, none⟩ = some (.int .i64 xk) ∧ A.cell? ⟨qi, 7, none⟩ = some (.bool xb) ∧ A.cell? ⟨qi, 8, none⟩ = some (.int .i64 xn) ∧ A.cell? ⟨qi, 9, none⟩ = some (.string xt)))) (by kernel_rfl) ?_ (fun hHeld => ?_)
        · exact hS.out _ kd
        have kdr := hid kd
        clear kd hHeld
        have hHeld := hS.out _ kdr.out
        generalize w3.drew = wd at *
        refine wpAnyH_take (i := 0) (v := ?_) rfl (by kernel_rfl) (by kernel_rfl) (by kernel_rfl) (fun _ _ _ h => h) (Or.inl ⟨by rfl, ?_⟩) (by assumption) ?_
        rotate_left
        · intro w hSw; (try dsimp only at hSw); go_simp <;> with_reducible rfl
        try simp only [Act.put, List.getElem_toArray, List.getElem_cons_zero, List.getElem_cons_succ, List.setIfInBounds_toArray, List.set_cons_zero, List.set_cons_succ]
        refine wpAnyH_take (i := 1) (v := ?_) rfl (by kernel_rfl) (by kernel_rfl) (by kernel_rfl) (fun _ _ _ h => h) (Or.inl ⟨by rfl, ?_⟩) (by assumption) ?_
        rotate_left
        · intro w hSw; (try dsimp only at hSw); go_simp <;> with_reducible rfl
        try simp only [Act.put, List.getElem_toArray, List.getElem_cons_zero, List.getElem_cons_succ, List.setIfInBounds_toArray, List.set_cons_zero, List.set_cons_succ]
        refine wpAnyH_take (i := 2) (v := ?_) rfl (by kernel_rfl) (by kernel_rfl) (by kernel_rfl) (fun _ _ _ h => h) (Or.inl ⟨by rfl, ?_⟩) (by assumption) ?_
        rotate_left
        · intro w hSw; (try dsimp only at hSw); go_simp <;> with_reducible rfl
        try simp only [Act.put, List.getElem_toArray, List.getElem_cons_zero, List.getElem_cons_succ, List.setIfInBounds_toArray, List.set_cons_zero, List.set_cons_succ]
        refine wpAnyH_take (i := 3) (v := ?_) rfl (by kernel_rfl) (by kernel_rfl) (by kernel_rfl) (fun _ _ _ h => h) (Or.inl ⟨by rfl, ?_⟩) (by assumption) ?_
        rotate_left
        · intro w hSw; (try dsimp only at hSw); go_simp <;> with_reducible rfl
        try simp only [Act.put, List.getElem_toArray, List.getElem_cons_zero, List.getElem_cons_succ, List.setIfInBounds_toArray, List.set_cons_zero, List.set_cons_succ]
        refine wpAnyH_take (i := 4) (v := ?_) rfl (by kernel_rfl) (by kernel_rfl) (by kernel_rfl) (fun _ _ _ h => h) (Or.inl ⟨by rfl, ?_⟩) (by assumption) ?_
        rotate_left
        · intro w hSw; (try dsimp only at hSw); go_simp <;> with_reducible rfl
        try simp only [Act.put, List.getElem_toArray, List.getElem_cons_zero, List.getElem_cons_succ, List.setIfInBounds_toArray, List.set_cons_zero, List.set_cons_succ]
        refine wpAnyH_take (i := 5) (v := ?_) rfl (by kernel_rfl) (by kernel_rfl) (by kernel_rfl) (fun _ _ _ h => h) (Or.inl ⟨by rfl, ?_⟩) (by assumption) ?_
        rotate_left
        · intro w hSw; (try dsimp only at hSw); go_simp <;> with_reducible rfl
        try simp only [Act.put, List.getElem_toArray, List.getElem_cons_zero, List.getElem_cons_succ, List.setIfInBounds_toArray, List.set_cons_zero, List.set_cons_succ]
        refine wpAnyH_ready (rs := [6]) (by kernel_rfl) (by simp) ?_
        refine AllReadyH.cons rfl (fun K hK => ?_) AllReadyH.nil
        go_simp
        refine (hCx.out wd).mono ?_
        rintro e w4a ⟨rfl, k2⟩
        (try go_wp2_with fail)
        refine hK.out _ _ ?_ (fun hHeld => ?_)
        · exact hS.out _ (kdr.out.trans k2 (by simp))
        clear hK K
        try simp only [Act.put, List.getElem_toArray, List.getElem_cons_zero, List.getElem_cons_succ, List.setIfInBounds_toArray, List.set_cons_zero, List.set_cons_succ]
        refine wpAnyH_take (i := 7) (v := ?_) rfl (by kernel_rfl) (by kernel_rfl) (by kernel_rfl) (fun _ _ _ h => h) (Or.inl ⟨by rfl, ?_⟩) (by assumption) ?_
        rotate_left
        · intro w hSw; (try dsimp only at hSw); go_simp <;> with_reducible rfl
        try simp only [Act.put, List.getElem_toArray, List.getElem_cons_zero, List.getElem_cons_succ, List.setIfInBounds_toArray, List.set_cons_zero, List.set_cons_succ]
        refine wpAnyH_done (by kernel_rfl) ?_ _
        have kw4a : Kp [] w3 w4a := kdr.out.trans k2 (by simp)
        have hkn2 := hid (hkn.out.trans kw4a (by simp))
        have hbQ2 := hid (hbQ.out.kept kw4a (by simp) (hbQ.out.lt (by simp)))
        have hbR2 := hid (hbR.out.kept kw4a (by simp) (hbR.out.lt (by simp)))
        clear hHeld hS kdr k2 hkn hbQ hbR kw4a
        have hkn := hkn2
        have hbQ := hbQ2
        have hbR := hbR2
        clear hkn2 hbQ2 hbR2
        by_cases hcc2 : 0 < Cx
        · have hxN : Hid (maxTo l (j + 1 - 1) = ⟨yk, yb, yn, yt⟩) := by show _ = _; rw [hsx.out, if_pos hcc2]
          have hcc2b : Cx > 0 := hcc2
          clear hsx
          obtain ⟨y0, y1, y2, y3⟩ := hcy.out w4a hkn.out
          have e0 := hbQ.out.get 6 _ rfl; have ef0 := hbQ.out.free 6
          have e1 := hbQ.out.get 7 _ rfl; have ef1 := hbQ.out.free 7
          have e2 := hbQ.out.get 8 _ rfl; have ef2 := hbQ.out.free 8
          have e3 := hbQ.out.get 9 _ rfl; have ef3 := hbQ.out.free 9
          obtain ⟨w5a, hw5a, bI, kI⟩ : ∃ Y9, ((((w4a.setCell ⟨qi, 6, none⟩ (.int .i64 yk)).setCell ⟨qi, 7, none⟩ (.bool yb)).setCell ⟨qi, 8, none⟩ (.int .i64 yn)).setCell ⟨qi, 9, none⟩ (.string yt)) = Y9 ∧ Bx Y9 qi [.int .i64 k, .int .i64 (l.length : Int), .int .i64 yk, .bool yb, .int .i64 yn, .string yt, .int .i64 yk, .bool yb, .int .i64 yn, .string yt, .int .i64 (n : Int), .int .i64 0] ∧ Kp [qi] w4a Y9 := ⟨_, rfl, genS4 (R := fun Y9 => Bx Y9 qi [.int .i64 k, .int .i64 (l.length : Int), .int .i64 yk, .bool yb, .int .i64 yn, .string yt, .int .i64 yk, .bool yb, .int .i64 yn, .string yt, .int .i64 (n : Int), .int .i64 0]) hbQ.out 6 7 8 9 (by simp) (by simp) (by simp) (by simp) (.int .i64 yk) (.bool yb) (.int .i64 yn) (.string yt) (fun Y9 b _ => b), genS4 (R := fun Y9 => Kp [qi] w4a Y9) hbQ.out 6 7 8 9 (by simp) (by simp) (by simp) (by simp) (.int .i64 yk) (.bool yb) (.int .i64 yn) (.string yt) (fun Y9 _ k => k)⟩
          have hkn2 := hid (hkn.out.trans kI (fun x hx => .inr (by simp at hx; omega)))
          have hbR2 := hid (hbR.out.kept kI (by simpa using hne) (hbR.out.lt (by simp)))
          have hbQ2 := hid bI
          clear hkn hbQ hbR bI kI
          have hkn := hkn2
          have hbQ := hbQ2
          have hbR := hbR2
          clear hkn2 hbQ2 hbR2
          obtain ⟨s0, _, _, _⟩ := hcy.out w5a hkn.out
          have hkN := hid hkn.out
          by_cases hv0 : yk = 0
          · have d0 : (yk == 0) = true := by simpa using hv0
            have hst2 : Hid (nullsV (l.take (j + 1)) = n + 1) := by show _ = _; rw [hsn.out, if_pos hv0]
            clear hv0
            have c10 := hbQ.out.get 10 _ rfl
            have f10 := hbQ.out.free 10
            have hB := hbQ.out.set 10 (by simp) (.int .i64 ((n : Int) + 1))
            have kS : Kp [qi] w5a (w5a.setCell ⟨qi, 10, none⟩ (.int .i64 ((n : Int) + 1))) := (Kp.refl [qi] w5a).setCell (p := ⟨qi, 10, none⟩) (.inl (by simp)) _
            have hA := hbR.out.kept kS (by simpa using hne) (hbR.out.lt (by simp))
            have kW := hkn.out.trans kS (fun x hx => .inr (by simp at hx; omega))
            have hN := hid (And.intro kW (And.intro hA hB))
            clear hsn hB hA kS kW
            go_wp2_with fail
            exact ⟨⟨j + 1, n + 1, ⟨yk, yb, yn, yt⟩, ⟨yk, yb, yn, yt⟩, by omega, by go_num, hmN, hxN, hst2, by omega, hN.out.1, hN.out.2.1, hN.out.2.2⟩, by simp [intOf]; omega⟩
          · have hst2 : Hid (nullsV (l.take (j + 1)) = n) := by show _ = _; rw [hsn.out, if_neg hv0]; rfl
            have d0 : (yk == 0) = false := by simpa using hv0
            clear hsn
            go_wp2_with fail
            exact ⟨⟨j + 1, n, ⟨yk, yb, yn, yt⟩, ⟨yk, yb, yn, yt⟩, by omega, by go_num, hmN, hxN, hst2, by omega, hkn.out, hbR.out, hbQ.out⟩, by simp [intOf]; omega⟩
        · have hxN : Hid (maxTo l (j + 1 - 1) = ⟨xk, xb, xn, xt⟩) := by show _ = _; rw [hsx.out, if_neg hcc2]
          clear hsx
          obtain ⟨s0, _, _, _⟩ := hcy.out w4a hkn.out
          have hkN := hid hkn.out
          by_cases hv0 : yk = 0
          · have d0 : (yk == 0) = true := by simpa using hv0
            have hst2 : Hid (nullsV (l.take (j + 1)) = n + 1) := by show _ = _; rw [hsn.out, if_pos hv0]
            clear hv0
            have c10 := hbQ.out.get 10 _ rfl
            have f10 := hbQ.out.free 10
            have hB := hbQ.out.set 10 (by simp) (.int .i64 ((n : Int) + 1))
            have kS : Kp [qi] w4a (w4a.setCell ⟨qi, 10, none⟩ (.int .i64 ((n : Int) + 1))) := (Kp.refl [qi] w4a).setCell (p := ⟨qi, 10, none⟩) (.inl (by simp)) _
            have hA := hbR.out.kept kS (by simpa using hne) (hbR.out.lt (by simp))
            have kW := hkn.out.trans kS (fun x hx => .inr (by simp at hx; omega))
            have hN := hid (And.intro kW (And.intro hA hB))
            clear hsn hB hA kS kW
            go_wp2_with fail
            exact ⟨⟨j + 1, n + 1, ⟨yk, yb, yn, yt⟩, ⟨xk, xb, xn, xt⟩, by omega, by go_num, hmN, hxN, hst2, by omega, hN.out.1, hN.out.2.1, hN.out.2.2⟩, by simp [intOf]; omega⟩
          · have hst2 : Hid (nullsV (l.take (j + 1)) = n) := by show _ = _; rw [hsn.out, if_neg hv0]; rfl
            have d0 : (yk == 0) = false := by simpa using hv0
            clear hsn
            go_wp2_with fail
            exact ⟨⟨j + 1, n, ⟨yk, yb, yn, yt⟩, ⟨xk, xb, xn, xt⟩, by omega, by go_num, hmN, hxN, hst2, by omega, hkn.out, hbR.out, hbQ.out⟩, by simp [intOf]; omega⟩
      · have hmN : Hid (minTo l (j + 1 - 1) = ⟨mk, mb, mn, mt⟩) := by show _ = _; rw [hsm.out, if_neg hcc]
        clear hsm
        go_wp2_with fail
        have kd : Kp [] w2 w2.drew := (Kp.refl _ _).drew
        have hS : Hid (∀ A, Kp [] w2 A → (A.cell? ⟨g, o + j * 4, none⟩ = some (.int .i64 yk) ∧ A.cell? ⟨g, o + j * 4 + 1, none⟩ = some (.bool yb) ∧ A.cell? ⟨g, o + j * 4 + 2, none⟩ = some (.int .i64 yn) ∧ A.cell? ⟨g, o + j * 4 + 3, none⟩ = some (.string yt)) ∧ (A.cell? ⟨qi, 6, none⟩ = some (.int .i64 xk) ∧ A.cell? ⟨qi, 7, none⟩ = some (.bool xb) ∧ A.cell? ⟨qi, 8, none⟩ = some (.int .i64 xn) ∧ A.cell? ⟨qi, 9, none⟩ = some (.string xt))) := fun A kA => ⟨hcy.out A (hkn.out.trans kA (by simp)), (hbQ.out.kept kA (by simp) (hbQ.out.lt (by simp))).get 6 _ rfl, (hbQ.out.kept kA (by simp) (hbQ.out.lt (by simp))).get 7 _ rfl, (hbQ.out.kept kA (by simp) (hbQ.out.lt (by simp))).get 8 _ rfl, (hbQ.out.kept kA (by simp) (hbQ.out.lt (by simp))).get 9 _ rfl⟩
        refine wp_region_held_drew (S := (fun A => (A.cell? ⟨g, o + j * 4, none⟩ = some (.int .i64 yk) ∧ A.cell? ⟨g, o + j * 4 + 1, none⟩ = some (.bool yb) ∧ A.cell? ⟨g, o + j * 4 + 2, none⟩ = some (.int .i64 yn) ∧ A.cell? ⟨g, o + j * 4 + 3, none⟩ = some (.string yt)) ∧ (A.cell? ⟨qi, 6, none⟩ = some (.int .i64 xk) ∧ A.cell? ⟨qi, 7, none⟩ = some (.bool xb) ∧ A.cell? ⟨qi, 8, none⟩ = some (.int .i64 xn) ∧ A.cell? ⟨qi, 9, none⟩ = some (.string xt)))) (by kernel_rfl) ?_ (fun hHeld => ?_)
        · exact hS.out _ kd
        have kdr := hid kd
        clear kd hHeld
        have hHeld := hS.out _ kdr.out
        generalize w2.drew = wd at *
        refine wpAnyH_take (i := 0) (v := ?_) rfl (by kernel_rfl) (by kernel_rfl) (by kernel_rfl) (fun _ _ _ h => h) (Or.inl ⟨by rfl, ?_⟩) (by assumption) ?_
        rotate_left
        · intro w hSw; (try dsimp only at hSw); go_simp <;> with_reducible rfl
        try simp only [Act.put, List.getElem_toArray, List.getElem_cons_zero, List.getElem_cons_succ, List.setIfInBounds_toArray, List.set_cons_zero, List.set_cons_succ]
        refine wpAnyH_take (i := 1) (v := ?_) rfl (by kernel_rfl) (by kernel_rfl) (by kernel_rfl) (fun _ _ _ h => h) (Or.inl ⟨by rfl, ?_⟩) (by assumption) ?_
        rotate_left
        · intro w hSw; (try dsimp only at hSw); go_simp <;> with_reducible rfl
        try simp only [Act.put, List.getElem_toArray, List.getElem_cons_zero, List.getElem_cons_succ, List.setIfInBounds_toArray, List.set_cons_zero, List.set_cons_succ]
        refine wpAnyH_take (i := 2) (v := ?_) rfl (by kernel_rfl) (by kernel_rfl) (by kernel_rfl) (fun _ _ _ h => h) (Or.inl ⟨by rfl, ?_⟩) (by assumption) ?_
        rotate_left
        · intro w hSw; (try dsimp only at hSw); go_simp <;> with_reducible rfl
        try simp only [Act.put, List.getElem_toArray, List.getElem_cons_zero, List.getElem_cons_succ, List.setIfInBounds_toArray, List.set_cons_zero, List.set_cons_succ]
        refine wpAnyH_take (i := 3) (v := ?_) rfl (by kernel_rfl) (by kernel_rfl) (by kernel_rfl) (fun _ _ _ h => h) (Or.inl ⟨by rfl, ?_⟩) (by assumption) ?_
        rotate_left
        · intro w hSw; (try dsimp only at hSw); go_simp <;> with_reducible rfl
        try simp only [Act.put, List.getElem_toArray, List.getElem_cons_zero, List.getElem_cons_succ, List.setIfInBounds_toArray, List.set_cons_zero, List.set_cons_succ]
        refine wpAnyH_take (i := 4) (v := ?_) rfl (by kernel_rfl) (by kernel_rfl) (by kernel_rfl) (fun _ _ _ h => h) (Or.inl ⟨by rfl, ?_⟩) (by assumption) ?_
        rotate_left
        · intro w hSw; (try dsimp only at hSw); go_simp <;> with_reducible rfl
        try simp only [Act.put, List.getElem_toArray, List.getElem_cons_zero, List.getElem_cons_succ, List.setIfInBounds_toArray, List.set_cons_zero, List.set_cons_succ]
        refine wpAnyH_take (i := 5) (v := ?_) rfl (by kernel_rfl) (by kernel_rfl) (by kernel_rfl) (fun _ _ _ h => h) (Or.inl ⟨by rfl, ?_⟩) (by assumption) ?_
        rotate_left
        · intro w hSw; (try dsimp only at hSw); go_simp <;> with_reducible rfl
        try simp only [Act.put, List.getElem_toArray, List.getElem_cons_zero, List.getElem_cons_succ, List.setIfInBounds_toArray, List.set_cons_zero, List.set_cons_succ]
        refine wpAnyH_ready (rs := [6]) (by kernel_rfl) (by simp) ?_
        refine AllReadyH.cons rfl (fun K hK => ?_) AllReadyH.nil
        go_simp
        refine (hCx.out wd).mono ?_
        rintro e w4b ⟨rfl, k2⟩
        (try go_wp2_with fail)
        refine hK.out _ _ ?_ (fun hHeld => ?_)
        · exact hS.out _ (kdr.out.trans k2 (by simp))
        clear hK K
        try simp only [Act.put, List.getElem_toArray, List.getElem_cons_zero, List.getElem_cons_succ, List.setIfInBounds_toArray, List.set_cons_zero, List.set_cons_succ]
        refine wpAnyH_take (i := 7) (v := ?_) rfl (by kernel_rfl) (by kernel_rfl) (by kernel_rfl) (fun _ _ _ h => h) (Or.inl ⟨by rfl, ?_⟩) (by assumption) ?_
        rotate_left
        · intro w hSw; (try dsimp only at hSw); go_simp <;> with_reducible rfl
        try simp only [Act.put, List.getElem_toArray, List.getElem_cons_zero, List.getElem_cons_succ, List.setIfInBounds_toArray, List.set_cons_zero, List.set_cons_succ]
        refine wpAnyH_done (by kernel_rfl) ?_ _
        have kw4b : Kp [] w2 w4b := kdr.out.trans k2 (by simp)
        have hkn2 := hid (hkn.out.trans kw4b (by simp))
        have hbQ2 := hid (hbQ.out.kept kw4b (by simp) (hbQ.out.lt (by simp)))
        have hbR2 := hid (hbR.out.kept kw4b (by simp) (hbR.out.lt (by simp)))
        clear hHeld hS kdr k2 hkn hbQ hbR kw4b
        have hkn := hkn2
        have hbQ := hbQ2
        have hbR := hbR2
        clear hkn2 hbQ2 hbR2
        by_cases hcc2 : 0 < Cx
        · have hxN : Hid (maxTo l (j + 1 - 1) = ⟨yk, yb, yn, yt⟩) := by show _ = _; rw [hsx.out, if_pos hcc2]
          have hcc2b : Cx > 0 := hcc2
          clear hsx
          obtain ⟨y0, y1, y2, y3⟩ := hcy.out w4b hkn.out
          have e0 := hbQ.out.get 6 _ rfl; have ef0 := hbQ.out.free 6
          have e1 := hbQ.out.get 7 _ rfl; have ef1 := hbQ.out.free 7
          have e2 := hbQ.out.get 8 _ rfl; have ef2 := hbQ.out.free 8
          have e3 := hbQ.out.get 9 _ rfl; have ef3 := hbQ.out.free 9
          obtain ⟨w5b, hw5b, bI, kI⟩ : ∃ Y9, ((((w4b.setCell ⟨qi, 6, none⟩ (.int .i64 yk)).setCell ⟨qi, 7, none⟩ (.bool yb)).setCell ⟨qi, 8, none⟩ (.int .i64 yn)).setCell ⟨qi, 9, none⟩ (.string yt)) = Y9 ∧ Bx Y9 qi [.int .i64 k, .int .i64 (l.length : Int), .int .i64 mk, .bool mb, .int .i64 mn, .string mt, .int .i64 yk, .bool yb, .int .i64 yn, .string yt, .int .i64 (n : Int), .int .i64 0] ∧ Kp [qi] w4b Y9 := ⟨_, rfl, genS4 (R := fun Y9 => Bx Y9 qi [.int .i64 k, .int .i64 (l.length : Int), .int .i64 mk, .bool mb, .int .i64 mn, .string mt, .int .i64 yk, .bool yb, .int .i64 yn, .string yt, .int .i64 (n : Int), .int .i64 0]) hbQ.out 6 7 8 9 (by simp) (by simp) (by simp) (by simp) (.int .i64 yk) (.bool yb) (.int .i64 yn) (.string yt) (fun Y9 b _ => b), genS4 (R := fun Y9 => Kp [qi] w4b Y9) hbQ.out 6 7 8 9 (by simp) (by simp) (by simp) (by simp) (.int .i64 yk) (.bool yb) (.int .i64 yn) (.string yt) (fun Y9 _ k => k)⟩
          have hkn2 := hid (hkn.out.trans kI (fun x hx => .inr (by simp at hx; omega)))
          have hbR2 := hid (hbR.out.kept kI (by simpa using hne) (hbR.out.lt (by simp)))
          have hbQ2 := hid bI
          clear hkn hbQ hbR bI kI
          have hkn := hkn2
          have hbQ := hbQ2
          have hbR := hbR2
          clear hkn2 hbQ2 hbR2
          obtain ⟨s0, _, _, _⟩ := hcy.out w5b hkn.out
          have hkN := hid hkn.out
          by_cases hv0 : yk = 0
          · have d0 : (yk == 0) = true := by simpa using hv0
            have hst2 : Hid (nullsV (l.take (j + 1)) = n + 1) := by show _ = _; rw [hsn.out, if_pos hv0]
            clear hv0
            have c10 := hbQ.out.get 10 _ rfl
            have f10 := hbQ.out.free 10
            have hB := hbQ.out.set 10 (by simp) (.int .i64 ((n : Int) + 1))
            have kS : Kp [qi] w5b (w5b.setCell ⟨qi, 10, none⟩ (.int .i64 ((n : Int) + 1))) := (Kp.refl [qi] w5b).setCell (p := ⟨qi, 10, none⟩) (.inl (by simp)) _
            have hA := hbR.out.kept kS (by simpa using hne) (hbR.out.lt (by simp))
            have kW := hkn.out.trans kS (fun x hx => .inr (by simp at hx; omega))
            have hN := hid (And.intro kW (And.intro hA hB))
            clear hsn hB hA kS kW
            go_wp2_with fail
            exact ⟨⟨j + 1, n + 1, ⟨mk, mb, mn, mt⟩, ⟨yk, yb, yn, yt⟩, by omega, by go_num, hmN, hxN, hst2, by omega, hN.out.1, hN.out.2.1, hN.out.2.2⟩, by simp [intOf]; omega⟩
          · have hst2 : Hid (nullsV (l.take (j + 1)) = n) := by show _ = _; rw [hsn.out, if_neg hv0]; rfl
            have d0 : (yk == 0) = false := by simpa using hv0
            clear hsn
            go_wp2_with fail
            exact ⟨⟨j + 1, n, ⟨mk, mb, mn, mt⟩, ⟨yk, yb, yn, yt⟩, by omega, by go_num, hmN, hxN, hst2, by omega, hkn.out, hbR.out, hbQ.out⟩, by simp [intOf]; omega⟩
        · have hxN : Hid (maxTo l (j + 1 - 1) = ⟨xk, xb, xn, xt⟩) := by show _ = _; rw [hsx.out, if_neg hcc2]
          clear hsx
          obtain ⟨s0, _, _, _⟩ := hcy.out w4b hkn.out
          have hkN := hid hkn.out
          by_cases hv0 : yk = 0
          · have d0 : (yk == 0) = true := by simpa using hv0
            have hst2 : Hid (nullsV (l.take (j + 1)) = n + 1) := by show _ = _; rw [hsn.out, if_pos hv0]
            clear hv0
            have c10 := hbQ.out.get 10 _ rfl
            have f10 := hbQ.out.free 10
            have hB := hbQ.out.set 10 (by simp) (.int .i64 ((n : Int) + 1))
            have kS : Kp [qi] w4b (w4b.setCell ⟨qi, 10, none⟩ (.int .i64 ((n : Int) + 1))) := (Kp.refl [qi] w4b).setCell (p := ⟨qi, 10, none⟩) (.inl (by simp)) _
            have hA := hbR.out.kept kS (by simpa using hne) (hbR.out.lt (by simp))
            have kW := hkn.out.trans kS (fun x hx => .inr (by simp at hx; omega))
            have hN := hid (And.intro kW (And.intro hA hB))
            clear hsn hB hA kS kW
            go_wp2_with fail
            exact ⟨⟨j + 1, n + 1, ⟨mk, mb, mn, mt⟩, ⟨xk, xb, xn, xt⟩, by omega, by go_num, hmN, hxN, hst2, by omega, hN.out.1, hN.out.2.1, hN.out.2.2⟩, by simp [intOf]; omega⟩
          · have hst2 : Hid (nullsV (l.take (j + 1)) = n) := by show _ = _; rw [hsn.out, if_neg hv0]; rfl
            have d0 : (yk == 0) = false := by simpa using hv0
            clear hsn
            go_wp2_with fail
            exact ⟨⟨j + 1, n, ⟨mk, mb, mn, mt⟩, ⟨xk, xb, xn, xt⟩, by omega, by go_num, hmN, hxN, hst2, by omega, hkn.out, hbR.out, hbQ.out⟩, by simp [intOf]; omega⟩
    · obtain rfl : j = l.length := by omega
      rw [List.take_length] at hn
      have hkn := hid kn
      have hbQ := hid bQ
      have p0 := bQ.get 0 _ rfl; have y0 := bR.get 0 _ rfl; have f0 := bR.free 0
      have p1 := bQ.get 1 _ rfl; have y1 := bR.get 1 _ rfl; have f1 := bR.free 1
      have p2 := bQ.get 2 _ rfl; have y2 := bR.get 2 _ rfl; have f2 := bR.free 2
      have p3 := bQ.get 3 _ rfl; have y3 := bR.get 3 _ rfl; have f3 := bR.free 3
      have p4 := bQ.get 4 _ rfl; have y4 := bR.get 4 _ rfl; have f4 := bR.free 4
      have p5 := bQ.get 5 _ rfl; have y5 := bR.get 5 _ rfl; have f5 := bR.free 5
      have p6 := bQ.get 6 _ rfl; have y6 := bR.get 6 _ rfl; have f6 := bR.free 6
      have p7 := bQ.get 7 _ rfl; have y7 := bR.get 7 _ rfl; have f7 := bR.free 7
      have p8 := bQ.get 8 _ rfl; have y8 := bR.get 8 _ rfl; have f8 := bR.free 8
      have p9 := bQ.get 9 _ rfl; have y9 := bR.get 9 _ rfl; have f9 := bR.free 9
      have p10 := bQ.get 10 _ rfl; have y10 := bR.get 10 _ rfl; have f10 := bR.free 10
      have p11 := bQ.get 11 _ rfl; have y11 := bR.get 11 _ rfl; have f11 := bR.free 11
      obtain ⟨W, hW, bW, kW⟩ : ∃ Y9, ((((((((((((wr.setCell ⟨q, 0, none⟩ (.int .i64 k)).setCell ⟨q, 1, none⟩ (.int .i64 (l.length : Int))).setCell ⟨q, 2, none⟩ (.int .i64 mk)).setCell ⟨q, 3, none⟩ (.bool mb)).setCell ⟨q, 4, none⟩ (.int .i64 mn)).setCell ⟨q, 5, none⟩ (.string mt)).setCell ⟨q, 6, none⟩ (.int .i64 xk)).setCell ⟨q, 7, none⟩ (.bool xb)).setCell ⟨q, 8, none⟩ (.int .i64 xn)).setCell ⟨q, 9, none⟩ (.string xt)).setCell ⟨q, 10, none⟩ (.int .i64 (n : Int))).setCell ⟨q, 11, none⟩ (.int .i64 0)) = Y9 ∧ Bx Y9 q [.int .i64 k, .int .i64 (l.length : Int), .int .i64 mk, .bool mb, .int .i64 mn, .string mt, .int .i64 xk, .bool xb, .int .i64 xn, .string xt, .int .i64 (n : Int), .int .i64 0] ∧ Kp [q] wr Y9 := ⟨_, rfl, gen12q (R := fun Y9 => Bx Y9 q [.int .i64 k, .int .i64 (l.length : Int), .int .i64 mk, .bool mb, .int .i64 mn, .string mt, .int .i64 xk, .bool xb, .int .i64 xn, .string xt, .int .i64 (n : Int), .int .i64 0]) bR rfl (.int .i64 k) (.int .i64 (l.length : Int)) (.int .i64 mk) (.bool mb) (.int .i64 mn) (.string mt) (.int .i64 xk) (.bool xb) (.int .i64 xn) (.string xt) (.int .i64 (n : Int)) (.int .i64 0) (fun Y9 b _ => b), gen12q (R := fun Y9 => Kp [q] wr Y9) bR rfl (.int .i64 k) (.int .i64 (l.length : Int)) (.int .i64 mk) (.bool mb) (.int .i64 mn) (.string mt) (.int .i64 xk) (.bool xb) (.int .i64 xn) (.string xt) (.int .i64 (n : Int)) (.int .i64 0) (fun Y9 _ k => k)⟩
      have kkW := hid (kn.trans kW (fun x hx => .inr (by simp at hx; omega)))
      have r0 := bW.get 0 _ rfl
      have r1 := bW.get 1 _ rfl
      have r2 := bW.get 2 _ rfl
      have r3 := bW.get 3 _ rfl
      have r4 := bW.get 4 _ rfl
      have r5 := bW.get 5 _ rfl
      have r6 := bW.get 6 _ rfl
      have r7 := bW.get 7 _ rfl
      have r8 := bW.get 8 _ rfl
      have r9 := bW.get 9 _ rfl
      have r10 := bW.get 10 _ rfl
      have r11 := bW.get 11 _ rfl
      clear bQ bR kn kW bW
      go_wp2_with fail
      refine bodyPost_ret (v := Inf.v ⟨k, l.length, ⟨mk, mb, mn, mt⟩, ⟨xk, xb, xn, xt⟩, n, 0⟩) (by simp [results, Tryz.results35, go_sem, Inf.v, Inf.cs, r0, r1, r2, r3, r4, r5, r6, r7, r8, r9, r10, r11]) rfl ⟨by rw [hfm.out, hm.out, hfx.out, hx.out, hn.out], kkW.out⟩
end Go.Proofs.YtcjnojbjgdechaaGreatDoor
end

section
namespace Go.Proofs.YtcjnojbjgdechaaGreatDoor
open Go.RowKit Go.Hay
set_option linter.unusedVariables false
set_option linter.unusedSimpArgs false

theorem eqv_sym (x y : Val) : x.eqv y = y.eqv x := by
  cases h : y.eqv x with
  | true => rw [eqv_iff] at h ⊢; exact h.symm
  | false =>
    cases h2 : x.eqv y with
    | false => rfl
    | true => rw [eqv_iff] at h2; rw [h2, eqv_iff.2 rfl] at h; cases h
theorem eqI_sym (i : Inf) (l : List Val) {k y : Int} (hk : i.kind = k) (hy : i.bytes = y) : Inf.eqI ⟨k, l.length, minV l, maxV l, nullsV l, y⟩ i = tellB i l := by
  subst hk hy
  rw [← eqI_tell]
  unfold Inf.eqI
  dsimp only
  rw [eqv_sym (minV l), eqv_sym (maxV l)]
  have hb : ∀ a b : Int, (a == b) = (b == a) := fun a b => by
    cases h : b == a with
    | true => rw [beq_iff_eq] at h ⊢; exact h.symm
    | false =>
      rw [beq_eq_false_iff_ne] at h ⊢
      exact fun e => h e.symm
  rw [hb (l.length : Int), hb (nullsV l : Int)]
set_option maxHeartbeats 8000000 in
set_option maxRecDepth 100000 in
theorem neR_run (a b : Inf) : ∃ X : Bool, Hid (X = !(a.eqI b)) ∧ ∀ w : World, (binOp .neq 37 a.v b.v).run Tryz.prog w = .ok (.bool X) w := by
  refine ⟨_, rfl, fun w => ?_⟩
  unfold Inf.v Inf.cs
  rw [run_neq_struct, run_equalIn_agg (ht := by kernel_rfl) (hp := by kernel_rfl)]
  simp only [Inf.eqI, Val.eqv]
  by_cases h0 : a.kind = b.kind
  · by_cases h1 : a.many = b.many
    · by_cases h2 : a.mn.k = b.mn.k
      · by_cases h3 : a.mn.b = b.mn.b
        · by_cases h4 : a.mn.n = b.mn.n
          · by_cases h5 : a.mn.t.toList = b.mn.t.toList
            · by_cases h6 : a.mx.k = b.mx.k
              · by_cases h7 : a.mx.b = b.mx.b
                · by_cases h8 : a.mx.n = b.mx.n
                  · by_cases h9 : a.mx.t.toList = b.mx.t.toList
                    · by_cases h10 : a.nulls = b.nulls
                      · by_cases h11 : a.bytes = b.bytes
                        · simp [go_sem, h0, h1, h2, h3, h4, h5, h6, h7, h8, h9, h10, h11]
                        · simp [go_sem, h0, h1, h2, h3, h4, h5, h6, h7, h8, h9, h10, h11]
                      · simp [go_sem, h0, h1, h2, h3, h4, h5, h6, h7, h8, h9, h10]
                    · simp [go_sem, h0, h1, h2, h3, h4, h5, h6, h7, h8, h9]
                  · simp [go_sem, h0, h1, h2, h3, h4, h5, h6, h7, h8]
                · simp [go_sem, h0, h1, h2, h3, h4, h5, h6, h7]
              · simp [go_sem, h0, h1, h2, h3, h4, h5, h6]
            · simp [go_sem, h0, h1, h2, h3, h4, h5]
          · simp [go_sem, h0, h1, h2, h3, h4]
        · simp [go_sem, h0, h1, h2, h3]
      · simp [go_sem, h0, h1, h2]
    · simp [go_sem, h0, h1]
  · simp [go_sem, h0]
set_option maxHeartbeats 16000000 in
set_option maxRecDepth 100000 in
theorem rReadN (a : Option Addr) (c : Nat) (bs : List UInt8) (w : World) (hs : Sees w a bs) (hl : bs.length ≤ c) (hm : c ≤ maxLen) (hb : bs.length ≤ 200000000000000) (hn : hdR bs = none) :
    Calls Tryz.prog 17 #[.slice a bs.length c] w (RdP ([], 0, 70) w) := by
  have cT := rHead a c bs w hs hl hm hb
  have hP : hdP bs = (zeroI, 0, 70) := by unfold hdP; rw [hn]
  rw [hP] at cT
  unfold HdP at cT
  rw [zeroI_v] at cT
  clear hs hn hP
  go_enter Tryz.func17, Tryz.ntmps17
  go_wp2_with fail
  refine cT.mono ?_
  rintro e w1 ⟨rfl, k1⟩
  obtain ⟨w2, hw2, k2, bI⟩ : ∃ w2, w1.alloc (.cells #[.int .i64 0, .int .i64 0, .int .i64 0, .bool false, .int .i64 0, .string ⟨#[]⟩, .int .i64 0, .bool false, .int .i64 0, .string ⟨#[]⟩, .int .i64 0, .int .i64 0] 37) = w2 ∧ Kp [] w1 w2 ∧ Bx w2 w1.heap.size [.int .i64 0, .int .i64 0, .int .i64 0, .bool false, .int .i64 0, .string ⟨#[]⟩, .int .i64 0, .bool false, .int .i64 0, .string ⟨#[]⟩, .int .i64 0, .int .i64 0] := ⟨_, rfl, (Kp.refl _ _).alloc _, Bx.new w1 _ _⟩
  obtain ⟨qi, hqi⟩ : ∃ q, Hid (w1.heap.size = q) := ⟨_, rfl⟩
  have hqiw : w.heap.size ≤ qi := by rw [← hqi.out]; exact k1.size
  rw [hqi.out] at bI
  have p0 := bI.get 0 _ rfl; have f0 := bI.free 0
  have p1 := bI.get 1 _ rfl; have f1 := bI.free 1
  have p2 := bI.get 2 _ rfl; have f2 := bI.free 2
  have p3 := bI.get 3 _ rfl; have f3 := bI.free 3
  have p4 := bI.get 4 _ rfl; have f4 := bI.free 4
  have p5 := bI.get 5 _ rfl; have f5 := bI.free 5
  have p6 := bI.get 6 _ rfl; have f6 := bI.free 6
  have p7 := bI.get 7 _ rfl; have f7 := bI.free 7
  have p8 := bI.get 8 _ rfl; have f8 := bI.free 8
  have p9 := bI.get 9 _ rfl; have f9 := bI.free 9
  have p10 := bI.get 10 _ rfl; have f10 := bI.free 10
  have p11 := bI.get 11 _ rfl; have f11 := bI.free 11
  obtain ⟨W, hW, bW, kW⟩ : ∃ Y9, ((((((((((((w2.setCell ⟨qi, 0, none⟩ (.int .i64 0)).setCell ⟨qi, 1, none⟩ (.int .i64 0)).setCell ⟨qi, 2, none⟩ (.int .i64 0)).setCell ⟨qi, 3, none⟩ (.bool false)).setCell ⟨qi, 4, none⟩ (.int .i64 0)).setCell ⟨qi, 5, none⟩ (.string ⟨#[]⟩)).setCell ⟨qi, 6, none⟩ (.int .i64 0)).setCell ⟨qi, 7, none⟩ (.bool false)).setCell ⟨qi, 8, none⟩ (.int .i64 0)).setCell ⟨qi, 9, none⟩ (.string ⟨#[]⟩)).setCell ⟨qi, 10, none⟩ (.int .i64 0)).setCell ⟨qi, 11, none⟩ (.int .i64 0)) = Y9 ∧ Bx Y9 qi [.int .i64 0, .int .i64 0, .int .i64 0, .bool false, .int .i64 0, .string ⟨#[]⟩, .int .i64 0, .bool false, .int .i64 0, .string ⟨#[]⟩, .int .i64 0, .int .i64 0] ∧ Kp [qi] w2 Y9 := ⟨_, rfl, gen12q (R := fun Y9 => Bx Y9 qi [.int .i64 0, .int .i64 0, .int .i64 0, .bool false, .int .i64 0, .string ⟨#[]⟩, .int .i64 0, .bool false, .int .i64 0, .string ⟨#[]⟩, .int .i64 0, .int .i64 0]) bI rfl (.int .i64 0) (.int .i64 0) (.int .i64 0) (.bool false) (.int .i64 0) (.string ⟨#[]⟩) (.int .i64 0) (.bool false) (.int .i64 0) (.string ⟨#[]⟩) (.int .i64 0) (.int .i64 0) (fun Y9 b _ => b), gen12q (R := fun Y9 => Kp [qi] w2 Y9) bI rfl (.int .i64 0) (.int .i64 0) (.int .i64 0) (.bool false) (.int .i64 0) (.string ⟨#[]⟩) (.int .i64 0) (.bool false) (.int .i64 0) (.string ⟨#[]⟩) (.int .i64 0) (.int .i64 0) (fun Y9 _ k => k)⟩
  have kkW := hid ((k1.trans k2 (by simp)).trans kW (fun x hx => .inr (by simp at hx; omega)))
  have hqi' := hqi.out
  clear cT k1 k2 bI kW bW
  go_wp2_with fail
  go_ret3
  exact rdP_no 70 kkW.out
set_option maxHeartbeats 32000000 in
set_option maxRecDepth 100000 in
theorem rReadS (a : Option Addr) (c : Nat) (bs : List UInt8) (w : World) (hs : Sees w a bs) (hl : bs.length ≤ c) (hm : c ≤ maxLen) (hb : bs.length ≤ 200000000000000)
    (K : Int) (M s n B : Nat) (mk : Int) (mb : Bool) (mn : Int) (mt : ByteArray) (xk : Int) (xb : Bool) (xn : Int) (xt : ByteArray) (NN : Int)
    (hn : hdR bs = some (⟨K, (M : Int), ⟨mk, mb, mn, mt⟩, ⟨xk, xb, xn, xt⟩, NN, (B : Int)⟩, s)) (hB : n + 4 = B) (hBl : B ≤ bs.length) (hsn : s ≤ n) (hs0 : 0 < s) (hM0 : 0 < M) (hM : M ≤ 64) :
    Calls Tryz.prog 17 #[.slice a bs.length c] w (RdP (rdR bs) w) := by
  have cT := rHead a c bs w hs hl hm hb
  have hP : hdP bs = (⟨K, (M : Int), ⟨mk, mb, mn, mt⟩, ⟨xk, xb, xn, xt⟩, NN, (B : Int)⟩, s, 0) := by unfold hdP; rw [hn]
  rw [hP] at cT
  unfold HdP Inf.v Inf.cs at cT
  dsimp only at cT
  have hrd : Hid (rdR bs = if num ((bs.drop n).take 4) ≠ crc (bs.take n) then ([], 0, 71) else if (decA K ((bs.take n).drop s) M).2 = 0 ∧ tellB ⟨K, (M : Int), ⟨mk, mb, mn, mt⟩, ⟨xk, xb, xn, xt⟩, NN, (B : Int)⟩ (decA K ((bs.take n).drop s) M).1 = true then ((decA K ((bs.take n).drop s) M).1, B, 0) else ([], 0, 70)) := by
    show _ = _
    unfold rdR
    rw [hn]
    dsimp only
    rw [Int.toNat_natCast, Int.toNat_natCast, show B - 4 = n by omega]
  obtain ⟨g, o, rfl, hc⟩ : ∃ g o, a = some ⟨g, o, none⟩ ∧ ∀ j u, bs[j]? = some u → w.cell? ⟨g, o + j, none⟩ = some (.int .u8 u.toNat) := by
    rcases hs with h | h
    · rw [h] at hBl; simp at hBl; omega
    · exact h
  have hs' : Sees w (some ⟨g, o, none⟩) bs := .inr ⟨g, o, rfl, hc⟩
  have s4 : Sees w (some ⟨g, o + n, none⟩) ((bs.drop n).take 4) := by have := (hs'.tail n).front 4; simpa [Addr.add_lit] using this
  have l4 : ((bs.drop n).take 4).length = 4 := by rw [List.length_take, List.length_drop]; omega
  have sn : Sees w (some ⟨g, o, none⟩) (bs.take n) := hs'.front n
  have ln : (bs.take n).length = n := by rw [List.length_take]; omega
  have sD : Sees w (some ⟨g, o + s, none⟩) ((bs.take n).drop s) := by have := sn.tail s; simpa [Addr.add_lit] using this
  have lD : ((bs.take n).drop s).length = n - s := by rw [List.length_drop, ln]
  have hcR : Hid (∀ W, Kp [] w W → Calls Tryz.prog 41 #[.slice (some ⟨g, o + n, none⟩) 4 (c - n)] W fun e w' => e = .returned (.int .u64 (num ((bs.drop n).take 4))) ∧ w' = W) := fun W kW => cRefSaid (some ⟨g, o + n, none⟩) 4 (c - n) ((bs.drop n).take 4) W (s4.kept kW (by simp)) l4.symm (by omega)
  have hcS : Hid (∀ W, Kp [] w W → Calls Tryz.prog 38 #[.slice (some ⟨g, o, none⟩) n c] W fun e w' => e = .returned (.int .u32 (crc (bs.take n))) ∧ w' = W) := fun W kW => cRefSum (some ⟨g, o, none⟩) n c (bs.take n) W (sn.kept kW (by simp)) ln.symm (by omega)
  have hcD : Hid (∀ W, Kp [] w W → Calls Tryz.prog 46 #[.int .i64 K, .slice (some ⟨g, o + s, none⟩) (n - s) (c - s), .int .i64 (M : Int)] W (DecP W (decA K ((bs.take n).drop s) M))) := fun W kW => by
    have := cRefDec K (some ⟨g, o + s, none⟩) (c - s) ((bs.take n).drop s) (M : Int) W (sD.kept kW (by simp)) (by rw [lD]; omega) (by omega) (by rw [lD]; omega)
    have ed : decI K ((bs.take n).drop s) (M : Int) = decA K ((bs.take n).drop s) M := by
      unfold decI
      by_cases hk : knownB K = false
      · rw [if_pos hk]; unfold decA; rw [if_pos hk]
      · rw [if_neg hk, if_neg (by omega), Int.toNat_natCast]
    rwa [lD, ed] at this
  have hb4 := num_lt_of ((bs.drop n).take 4) 4 (by omega)
  have hbc := crc_lt (bs.take n)
  have hMn : Hid (∀ l, (decA K ((bs.take n).drop s) M).2 = 0 → (decA K ((bs.take n).drop s) M).1 = l → l.length = M) := fun l h1 h2 => by
    subst h2
    unfold decA at h1 ⊢
    split at h1
    · simp at h1
    · split at h1
      · simp at h1
      · unfold decE at h1 ⊢
        split at h1
        · rename_i q1 q2 q3
          rw [if_neg q1, if_neg q2, if_pos q3]
          exact q3.2.1
        · simp at h1
  obtain ⟨N4, hN4⟩ : ∃ x : Nat, Hid (num ((bs.drop n).take 4) = x) := ⟨_, rfl⟩
  obtain ⟨CR, hCR⟩ : ∃ x : Nat, Hid (crc (bs.take n) = x) := ⟨_, rfl⟩
  simp only [hN4.out] at hcR
  rw [hN4.out] at hb4
  rw [hCR.out] at hbc
  simp only [hCR.out] at hcS
  rw [hN4.out, hCR.out] at hrd
  obtain ⟨⟨L, DE⟩, hDD⟩ : ∃ r, Hid (decA K ((bs.take n).drop s) M = r) := ⟨_, rfl⟩
  simp only [hDD.out] at hcD hMn hrd
  unfold DecP at hcD
  dsimp only at hcD hMn hrd
  unfold maxLen at hm
  clear hs hs' hc s4 sn sD l4 ln lD hn hP hN4 hCR hDD
  go_enter Tryz.func17, Tryz.ntmps17
  go_wp2_with fail
  refine cT.mono ?_
  rintro e w1 ⟨rfl, k1⟩
  obtain ⟨w2, hw2, k2, bI⟩ : ∃ w2, w1.alloc (.cells #[.int .i64 0, .int .i64 0, .int .i64 0, .bool false, .int .i64 0, .string ⟨#[]⟩, .int .i64 0, .bool false, .int .i64 0, .string ⟨#[]⟩, .int .i64 0, .int .i64 0] 37) = w2 ∧ Kp [] w1 w2 ∧ Bx w2 w1.heap.size [.int .i64 0, .int .i64 0, .int .i64 0, .bool false, .int .i64 0, .string ⟨#[]⟩, .int .i64 0, .bool false, .int .i64 0, .string ⟨#[]⟩, .int .i64 0, .int .i64 0] := ⟨_, rfl, (Kp.refl _ _).alloc _, Bx.new w1 _ _⟩
  obtain ⟨qi, hqi⟩ : ∃ q, Hid (w1.heap.size = q) := ⟨_, rfl⟩
  have hqiw : w.heap.size ≤ qi := by rw [← hqi.out]; exact k1.size
  rw [hqi.out] at bI
  have p0 := bI.get 0 _ rfl; have f0 := bI.free 0
  have p1 := bI.get 1 _ rfl; have f1 := bI.free 1
  have p2 := bI.get 2 _ rfl; have f2 := bI.free 2
  have p3 := bI.get 3 _ rfl; have f3 := bI.free 3
  have p4 := bI.get 4 _ rfl; have f4 := bI.free 4
  have p5 := bI.get 5 _ rfl; have f5 := bI.free 5
  have p6 := bI.get 6 _ rfl; have f6 := bI.free 6
  have p7 := bI.get 7 _ rfl; have f7 := bI.free 7
  have p8 := bI.get 8 _ rfl; have f8 := bI.free 8
  have p9 := bI.get 9 _ rfl; have f9 := bI.free 9
  have p10 := bI.get 10 _ rfl; have f10 := bI.free 10
  have p11 := bI.get 11 _ rfl; have f11 := bI.free 11
  obtain ⟨W, hW, bW, kW⟩ : ∃ Y9, ((((((((((((w2.setCell ⟨qi, 0, none⟩ (.int .i64 K)).setCell ⟨qi, 1, none⟩ (.int .i64 (M : Int))).setCell ⟨qi, 2, none⟩ (.int .i64 mk)).setCell ⟨qi, 3, none⟩ (.bool mb)).setCell ⟨qi, 4, none⟩ (.int .i64 mn)).setCell ⟨qi, 5, none⟩ (.string mt)).setCell ⟨qi, 6, none⟩ (.int .i64 xk)).setCell ⟨qi, 7, none⟩ (.bool xb)).setCell ⟨qi, 8, none⟩ (.int .i64 xn)).setCell ⟨qi, 9, none⟩ (.string xt)).setCell ⟨qi, 10, none⟩ (.int .i64 NN)).setCell ⟨qi, 11, none⟩ (.int .i64 (B : Int))) = Y9 ∧ Bx Y9 qi [.int .i64 K, .int .i64 (M : Int), .int .i64 mk, .bool mb, .int .i64 mn, .string mt, .int .i64 xk, .bool xb, .int .i64 xn, .string xt, .int .i64 NN, .int .i64 (B : Int)] ∧ Kp [qi] w2 Y9 := ⟨_, rfl, gen12q (R := fun Y9 => Bx Y9 qi [.int .i64 K, .int .i64 (M : Int), .int .i64 mk, .bool mb, .int .i64 mn, .string mt, .int .i64 xk, .bool xb, .int .i64 xn, .string xt, .int .i64 NN, .int .i64 (B : Int)]) bI rfl (.int .i64 K) (.int .i64 (M : Int)) (.int .i64 mk) (.bool mb) (.int .i64 mn) (.string mt) (.int .i64 xk) (.bool xb) (.int .i64 xn) (.string xt) (.int .i64 NN) (.int .i64 (B : Int)) (fun Y9 b _ => b), gen12q (R := fun Y9 => Kp [qi] w2 Y9) bI rfl (.int .i64 K) (.int .i64 (M : Int)) (.int .i64 mk) (.bool mb) (.int .i64 mn) (.string mt) (.int .i64 xk) (.bool xb) (.int .i64 xn) (.string xt) (.int .i64 NN) (.int .i64 (B : Int)) (fun Y9 _ k => k)⟩
  have kkW := hid ((k1.trans k2 (by simp)).trans kW (fun x hx => .inr (by simp at hx; omega)))
  have hbW := hid bW
  have u11 := bW.get 11 _ rfl
  have hqi' := hqi.out
  have hB4 : (B : Int) - 4 = (n : Int) := by omega
  clear cT k1 k2 bI kW bW
  go_wp2_with fail
  clear p0 f0 p1 f1 p2 f2 p3 f3 p4 f4 p5 f5 p6 f6 p7 f7 p8 f8 p9 f9 p10 f10 p11 f11 hW hqi' hw2 hB4 u11
  have kd : Kp [] W W.drew := (Kp.refl _ _).drew
  have hS : Hid (∀ A, Kp [] W A → A.cell? ⟨qi, 11, none⟩ = some (.int .i64 (B : Int))) := fun A kA => (hbW.out.kept kA (by simp) (hbW.out.lt (by simp))).get 11 _ rfl
  refine wp_region_held_drew (S := (fun A => A.cell? ⟨qi, 11, none⟩ = some (.int .i64 (B : Int)))) (by kernel_rfl) ?_ (fun hHeld => ?_)
  · exact hS.out _ kd
  have kwd := hid (kkW.out.trans kd (by simp))
  have hWd : Hid (Kp [] W W.drew) := kd
  clear kd
  generalize W.drew = wd at *
  have y1 : (0 : Int) ≤ (n : Int) := by omega
  have yc : IntKind.u64.wrap (CR : Int) = (CR : Int) := by rw [IntKind.wrap_u64]; omega
  have y2 : (n : Int) ≤ (B : Int) := by omega
  have y3 : (B : Int) ≤ (c : Int) := by omega
  have y4 : n ≤ B := by omega
  have y5 : B ≤ c := by omega
  have y6 : n < c := by omega
  have y7 : (n : Int) ≤ (c : Int) := by omega
  have y8 : B - n = 4 := by omega
  have y9 : n ≠ c := by omega
  have y10 : n ≤ c := by omega
  have y11 : c ≠ n := by omega
  refine wpAnyH_take (i := 0) (v := ?_) rfl (by kernel_rfl) (by kernel_rfl) (by kernel_rfl) (fun _ _ _ h => h) (Or.inl ⟨by rfl, ?_⟩) (by assumption) ?_
  rotate_left
  · intro w hSw; (try dsimp only at hSw); go_simp <;> with_reducible rfl
  try simp only [Act.put, List.getElem_toArray, List.getElem_cons_zero, List.getElem_cons_succ, List.setIfInBounds_toArray, List.set_cons_zero, List.set_cons_succ]
  refine wpAnyH_take (i := 1) (v := ?_) rfl (by kernel_rfl) (by kernel_rfl) (by kernel_rfl) (fun _ _ _ h => h) (Or.inl ⟨by rfl, ?_⟩) (by assumption) ?_
  rotate_left
  · intro w hSw; (try dsimp only at hSw); go_simp <;> with_reducible rfl
  try simp only [Act.put, List.getElem_toArray, List.getElem_cons_zero, List.getElem_cons_succ, List.setIfInBounds_toArray, List.set_cons_zero, List.set_cons_succ]
  refine wpAnyH_take (i := 2) (v := ?_) rfl (by kernel_rfl) (by kernel_rfl) (by kernel_rfl) (fun _ _ _ h => h) (Or.inl ⟨by rfl, ?_⟩) (by assumption) ?_
  rotate_left
  · intro w hSw; (try dsimp only at hSw); go_simp <;> with_reducible rfl
  try simp only [Act.put, List.getElem_toArray, List.getElem_cons_zero, List.getElem_cons_succ, List.setIfInBounds_toArray, List.set_cons_zero, List.set_cons_succ]
  refine wpAnyH_take (i := 3) (v := ?_) rfl (by kernel_rfl) (by kernel_rfl) (by kernel_rfl) (fun _ _ _ h => h) (Or.inl ⟨by rfl, ?_⟩) (by assumption) ?_
  rotate_left
  · intro w hSw; (try dsimp only at hSw); go_simp <;> with_reducible rfl
  try simp only [Act.put, List.getElem_toArray, List.getElem_cons_zero, List.getElem_cons_succ, List.setIfInBounds_toArray, List.set_cons_zero, List.set_cons_succ]
  refine wpAnyH_take (i := 4) (v := ?_) rfl (by kernel_rfl) (by kernel_rfl) (by kernel_rfl) (fun _ _ _ h => h) (Or.inl ⟨by rfl, ?_⟩) (by assumption) ?_
  rotate_left
  · intro w hSw; (try dsimp only at hSw); go_simp <;> with_reducible rfl
  try simp only [Act.put, List.getElem_toArray, List.getElem_cons_zero, List.getElem_cons_succ, List.setIfInBounds_toArray, List.set_cons_zero, List.set_cons_succ]
  refine wpAnyH_take (i := 6) (v := ?_) rfl (by kernel_rfl) (by kernel_rfl) (by kernel_rfl) (fun _ _ _ h => h) (Or.inl ⟨by rfl, ?_⟩) (by assumption) ?_
  rotate_left
  · intro w hSw; (try dsimp only at hSw); go_simp <;> with_reducible rfl
  try simp only [Act.put, List.getElem_toArray, List.getElem_cons_zero, List.getElem_cons_succ, List.setIfInBounds_toArray, List.set_cons_zero, List.set_cons_succ]
  refine wpAnyH_take (i := 7) (v := ?_) rfl (by kernel_rfl) (by kernel_rfl) (by kernel_rfl) (fun _ _ _ h => h) (Or.inl ⟨by rfl, ?_⟩) (by assumption) ?_
  rotate_left
  · intro w hSw; (try dsimp only at hSw); go_simp <;> with_reducible rfl
  try simp only [Act.put, List.getElem_toArray, List.getElem_cons_zero, List.getElem_cons_succ, List.setIfInBounds_toArray, List.set_cons_zero, List.set_cons_succ]
  refine wpAnyH_take (i := 8) (v := ?_) rfl (by kernel_rfl) (by kernel_rfl) (by kernel_rfl) (fun _ _ _ h => h) (Or.inl ⟨by rfl, ?_⟩) (by assumption) ?_
  rotate_left
  · intro w hSw; (try dsimp only at hSw); go_simp <;> with_reducible rfl
  try simp only [Act.put, List.getElem_toArray, List.getElem_cons_zero, List.getElem_cons_succ, List.setIfInBounds_toArray, List.set_cons_zero, List.set_cons_succ]
  refine wpAnyH_ready (rs := [5]) (by kernel_rfl) (by simp) ?_
  refine AllReadyH.cons rfl (fun K hK => ?_) AllReadyH.nil
  go_simp
  refine (hcR.out wd kwd.out).mono ?_
  rintro e w5 ⟨rfl, hw5⟩
  rw [hw5]
  (try go_wp2_with fail)
  refine hK.out _ _ ?_ (fun hHeld => ?_)
  · exact hS.out _ hWd.out
  clear hK K
  try simp only [Act.put, List.getElem_toArray, List.getElem_cons_zero, List.getElem_cons_succ, List.setIfInBounds_toArray, List.set_cons_zero, List.set_cons_succ]
  have kw6 := hid kwd.out
  refine wpAnyH_ready (rs := [9]) (by kernel_rfl) (by simp) ?_
  refine AllReadyH.cons rfl (fun K hK => ?_) AllReadyH.nil
  go_simp
  refine (hcS.out wd kwd.out).mono ?_
  rintro e w6 ⟨rfl, hw6⟩
  rw [hw6]
  (try go_wp2_with fail)
  refine hK.out _ _ ?_ (fun hHeld => ?_)
  · exact hS.out _ hWd.out
  clear hK K
  try simp only [Act.put, List.getElem_toArray, List.getElem_cons_zero, List.getElem_cons_succ, List.setIfInBounds_toArray, List.set_cons_zero, List.set_cons_succ]
  refine wpAnyH_take (i := 10) (v := ?_) rfl (by kernel_rfl) (by kernel_rfl) (by kernel_rfl) (fun _ _ _ h => h) (Or.inl ⟨by rfl, ?_⟩) (by assumption) ?_
  rotate_left
  · intro w hSw; (try dsimp only at hSw); go_simp <;> with_reducible rfl
  try simp only [Act.put, List.getElem_toArray, List.getElem_cons_zero, List.getElem_cons_succ, List.setIfInBounds_toArray, List.set_cons_zero, List.set_cons_succ]
  refine wpAnyH_take (i := 11) (v := ?_) rfl (by kernel_rfl) (by kernel_rfl) (by kernel_rfl) (fun _ _ _ h => h) (Or.inl ⟨by rfl, ?_⟩) (by assumption) ?_
  rotate_left
  · intro w hSw; (try dsimp only at hSw); go_simp <;> with_reducible rfl
  try simp only [Act.put, List.getElem_toArray, List.getElem_cons_zero, List.getElem_cons_succ, List.setIfInBounds_toArray, List.set_cons_zero, List.set_cons_succ]
  refine wpAnyH_done (by kernel_rfl) ?_ _
  have b6 := hid (hbW.out.kept hWd.out (by simp) (hbW.out.lt (by simp)))
  clear hHeld
  generalize hww6 : wd = w6 at *
  clear y2 y3 y4 y5 y8 hS hcR hcS
  by_cases hne : N4 = CR
  · have d1 : ((N4 : Int) != (CR : Int)) = false := by simp [hne]
    have hrd2 : Hid (rdR bs = if DE = 0 ∧ tellB ⟨K, (M : Int), ⟨mk, mb, mn, mt⟩, ⟨xk, xb, xn, xt⟩, NN, (B : Int)⟩ L = true then (L, B, 0) else ([], 0, 70)) := by show _ = _; rw [hrd.out, if_neg (by simp [hne])]
    clear hrd hne
    have u0 := b6.out.get 0 _ rfl
    have u1 := b6.out.get 1 _ rfl
    go_wp2_with fail
    have kd : Kp [] w6 w6.drew := (Kp.refl _ _).drew
    have hS : Hid (∀ A, Kp [] w6 A → (A.cell? ⟨qi, 0, none⟩ = some (.int .i64 K) ∧ A.cell? ⟨qi, 1, none⟩ = some (.int .i64 (M : Int)))) := fun A kA => ⟨(b6.out.kept kA (by simp) (b6.out.lt (by simp))).get 0 _ rfl, (b6.out.kept kA (by simp) (b6.out.lt (by simp))).get 1 _ rfl⟩
    refine wp_region_held_drew (S := (fun A => (A.cell? ⟨qi, 0, none⟩ = some (.int .i64 K) ∧ A.cell? ⟨qi, 1, none⟩ = some (.int .i64 (M : Int))))) (by kernel_rfl) ?_ (fun hHeld => ?_)
    · exact hS.out _ kd
    have kwd6 := hid (kw6.out.trans kd (by simp))
    have hWd6 : Hid (Kp [] w6 w6.drew) := kd
    clear kd u0 u1 hHeld
    generalize w6.drew = wd6 at *
    have hHeld := hS.out _ hWd6.out
    have v1 : (0 : Int) ≤ (s : Int) := by omega
    have v2 : (s : Int) ≤ (n : Int) := by omega
    have v3 : s ≤ n := by omega
    have v4 : s < c := by omega
    have v5 : s ≠ c := by omega
    have v6 : s ≤ c := by omega
    have v9 : c ≠ s := by omega
    have v7 : (s : Int) ≤ (c : Int) := by omega
    have v8 : (n : Int) - (s : Int) = ((n - s : Nat) : Int) := by omega
    refine wpAnyH_take (i := 0) (v := ?_) rfl (by kernel_rfl) (by kernel_rfl) (by kernel_rfl) (fun _ _ _ h => h) (Or.inl ⟨by rfl, ?_⟩) (by assumption) ?_
    rotate_left
    · intro w hSw; (try dsimp only at hSw); go_simp <;> with_reducible rfl
    try simp only [Act.put, List.getElem_toArray, List.getElem_cons_zero, List.getElem_cons_succ, List.setIfInBounds_toArray, List.set_cons_zero, List.set_cons_succ]
    refine wpAnyH_take (i := 1) (v := ?_) rfl (by kernel_rfl) (by kernel_rfl) (by kernel_rfl) (fun _ _ _ h => h) (Or.inl ⟨by rfl, ?_⟩) (by assumption) ?_
    rotate_left
    · intro w hSw; (try dsimp only at hSw); go_simp <;> with_reducible rfl
    try simp only [Act.put, List.getElem_toArray, List.getElem_cons_zero, List.getElem_cons_succ, List.setIfInBounds_toArray, List.set_cons_zero, List.set_cons_succ]
    refine wpAnyH_take (i := 2) (v := ?_) rfl (by kernel_rfl) (by kernel_rfl) (by kernel_rfl) (fun _ _ _ h => h) (Or.inl ⟨by rfl, ?_⟩) (by assumption) ?_
    rotate_left
    · intro w hSw; (try dsimp only at hSw); go_simp <;> with_reducible rfl
    try simp only [Act.put, List.getElem_toArray, List.getElem_cons_zero, List.getElem_cons_succ, List.setIfInBounds_toArray, List.set_cons_zero, List.set_cons_succ]
    refine wpAnyH_take (i := 3) (v := ?_) rfl (by kernel_rfl) (by kernel_rfl) (by kernel_rfl) (fun _ _ _ h => h) (Or.inl ⟨by rfl, ?_⟩) (by assumption) ?_
    rotate_left
    · intro w hSw; (try dsimp only at hSw); go_simp <;> with_reducible rfl
    try simp only [Act.put, List.getElem_toArray, List.getElem_cons_zero, List.getElem_cons_succ, List.setIfInBounds_toArray, List.set_cons_zero, List.set_cons_succ]
    refine wpAnyH_take (i := 4) (v := ?_) rfl (by kernel_rfl) (by kernel_rfl) (by kernel_rfl) (fun _ _ _ h => h) (Or.inl ⟨by rfl, ?_⟩) (by assumption) ?_
    rotate_left
    · intro w hSw; (try dsimp only at hSw); go_simp <;> with_reducible rfl
    try simp only [Act.put, List.getElem_toArray, List.getElem_cons_zero, List.getElem_cons_succ, List.setIfInBounds_toArray, List.set_cons_zero, List.set_cons_succ]
    refine wpAnyH_take (i := 5) (v := ?_) rfl (by kernel_rfl) (by kernel_rfl) (by kernel_rfl) (fun _ _ _ h => h) (Or.inl ⟨by rfl, ?_⟩) (by assumption) ?_
    rotate_left
    · intro w hSw; (try dsimp only at hSw); go_simp <;> with_reducible rfl
    try simp only [Act.put, List.getElem_toArray, List.getElem_cons_zero, List.getElem_cons_succ, List.setIfInBounds_toArray, List.set_cons_zero, List.set_cons_succ]
    refine wpAnyH_take (i := 6) (v := ?_) rfl (by kernel_rfl) (by kernel_rfl) (by kernel_rfl) (fun _ _ _ h => h) (Or.inl ⟨by rfl, ?_⟩) (by assumption) ?_
    rotate_left
    · intro w hSw; (try dsimp only at hSw); go_simp <;> with_reducible rfl
    try simp only [Act.put, List.getElem_toArray, List.getElem_cons_zero, List.getElem_cons_succ, List.setIfInBounds_toArray, List.set_cons_zero, List.set_cons_succ]
    refine wpAnyH_take (i := 7) (v := ?_) rfl (by kernel_rfl) (by kernel_rfl) (by kernel_rfl) (fun _ _ _ h => h) (Or.inl ⟨by rfl, ?_⟩) (by assumption) ?_
    rotate_left
    · intro w hSw; (try dsimp only at hSw); go_simp <;> with_reducible rfl
    try simp only [Act.put, List.getElem_toArray, List.getElem_cons_zero, List.getElem_cons_succ, List.setIfInBounds_toArray, List.set_cons_zero, List.set_cons_succ]
    refine wpAnyH_ready (rs := [8]) (by kernel_rfl) (by simp) ?_
    refine AllReadyH.cons rfl (fun K hK => ?_) AllReadyH.nil
    go_simp
    refine (hcD.out wd6 kwd6.out).mono ?_
    rintro e w8 ⟨a8, c8, rfl, hrow8, k8, hn8⟩
    (try go_wp2_with fail)
    refine hK.out _ _ ?_ (fun hHeld => ?_)
    · exact hS.out _ (hWd6.out.trans k8 (by simp))
    clear hK K
    try simp only [Act.put, List.getElem_toArray, List.getElem_cons_zero, List.getElem_cons_succ, List.setIfInBounds_toArray, List.set_cons_zero, List.set_cons_succ]
    have kw8 := hid (kwd6.out.trans k8 (by simp))
    have b8 := hid (b6.out.kept (hWd6.out.trans k8 (by simp)) (by simp) (b6.out.lt (by simp)))
    have hr8 := hid (And.intro hrow8 hn8)
    clear hrow8 hn8 k8
    refine wpAnyH_take (i := 9) (v := ?_) rfl (by kernel_rfl) (by kernel_rfl) (by kernel_rfl) (fun _ _ _ h => h) (Or.inl ⟨by rfl, ?_⟩) (by assumption) ?_
    rotate_left
    · intro w hSw; (try dsimp only at hSw); go_simp <;> with_reducible rfl
    try simp only [Act.put, List.getElem_toArray, List.getElem_cons_zero, List.getElem_cons_succ, List.setIfInBounds_toArray, List.set_cons_zero, List.set_cons_succ]
    refine wpAnyH_take (i := 10) (v := ?_) rfl (by kernel_rfl) (by kernel_rfl) (by kernel_rfl) (fun _ _ _ h => h) (Or.inl ⟨by rfl, ?_⟩) (by assumption) ?_
    rotate_left
    · intro w hSw; (try dsimp only at hSw); go_simp <;> with_reducible rfl
    try simp only [Act.put, List.getElem_toArray, List.getElem_cons_zero, List.getElem_cons_succ, List.setIfInBounds_toArray, List.set_cons_zero, List.set_cons_succ]
    refine wpAnyH_take (i := 11) (v := ?_) rfl (by kernel_rfl) (by kernel_rfl) (by kernel_rfl) (fun _ _ _ h => h) (Or.inl ⟨by rfl, ?_⟩) (by assumption) ?_
    rotate_left
    · intro w hSw; (try dsimp only at hSw); go_simp <;> with_reducible rfl
    try simp only [Act.put, List.getElem_toArray, List.getElem_cons_zero, List.getElem_cons_succ, List.setIfInBounds_toArray, List.set_cons_zero, List.set_cons_succ]
    refine wpAnyH_take (i := 12) (v := ?_) rfl (by kernel_rfl) (by kernel_rfl) (by kernel_rfl) (fun _ _ _ h => h) (Or.inl ⟨by rfl, ?_⟩) (by assumption) ?_
    rotate_left
    · intro w hSw; (try dsimp only at hSw); go_simp <;> with_reducible rfl
    try simp only [Act.put, List.getElem_toArray, List.getElem_cons_zero, List.getElem_cons_succ, List.setIfInBounds_toArray, List.set_cons_zero, List.set_cons_succ]
    refine wpAnyH_take (i := 13) (v := ?_) rfl (by kernel_rfl) (by kernel_rfl) (by kernel_rfl) (fun _ _ _ h => h) (Or.inl ⟨by rfl, ?_⟩) (by assumption) ?_
    rotate_left
    · intro w hSw; (try dsimp only at hSw); go_simp <;> with_reducible rfl
    try simp only [Act.put, List.getElem_toArray, List.getElem_cons_zero, List.getElem_cons_succ, List.setIfInBounds_toArray, List.set_cons_zero, List.set_cons_succ]
    refine wpAnyH_done (by kernel_rfl) ?_ _
    clear hS v1 v2 v3 v4 v5 v6 v7 v8 hcD
    by_cases hDE : DE = 0
    · subst hDE
      have hLM := hMn.out L rfl rfl
      obtain ⟨hv8, hl8, hm8⟩ := rowVals hr8.out.1
      have cL := rFacts K a8 c8 L w8 hv8 (by omega) (by omega)
      have hI : Hid (Inf.eqI ⟨K, L.length, minV L, maxV L, nullsV L, (B : Int)⟩ ⟨K, (M : Int), ⟨mk, mb, mn, mt⟩, ⟨xk, xb, xn, xt⟩, NN, (B : Int)⟩ = tellB ⟨K, (M : Int), ⟨mk, mb, mn, mt⟩, ⟨xk, xb, xn, xt⟩, NN, (B : Int)⟩ L) := eqI_sym _ _ rfl rfl
      obtain ⟨⟨uk, ub, un, ut⟩, hU⟩ : ∃ u, Hid (minV L = u) := ⟨_, rfl⟩
      obtain ⟨⟨zk, zb, zn, zt⟩, hZ⟩ : ∃ u, Hid (maxV L = u) := ⟨_, rfl⟩
      obtain ⟨NU, hN⟩ : ∃ n : Nat, Hid (nullsV L = n) := ⟨_, rfl⟩
      rw [hU.out, hZ.out, hN.out] at cL hI
      obtain ⟨X, HX, hX⟩ := neR_run ⟨K, L.length, ⟨uk, ub, un, ut⟩, ⟨zk, zb, zn, zt⟩, NU, (B : Int)⟩ ⟨K, (M : Int), ⟨mk, mb, mn, mt⟩, ⟨xk, xb, xn, xt⟩, NN, (B : Int)⟩
      have hfin : Hid (X = !(tellB ⟨K, (M : Int), ⟨mk, mb, mn, mt⟩, ⟨xk, xb, xn, xt⟩, NN, (B : Int)⟩ L)) := by show _ = _; rw [HX.out, hI.out]
      obtain ⟨TB, hTB⟩ : ∃ T9, Hid (tellB ⟨K, (M : Int), ⟨mk, mb, mn, mt⟩, ⟨xk, xb, xn, xt⟩, NN, (B : Int)⟩ L = T9) := ⟨_, rfl⟩
      rw [hTB.out] at hfin hrd2
      unfold Inf.v Inf.cs at cL hX
      dsimp only at cL hX
      have u0 := b8.out.get 0 _ rfl
      clear hLM hv8 hl8 hm8 hTB hMn hU hZ hN hI HX
      go_wp2_with fail
      refine cL.mono ?_
      rintro e w9 ⟨rfl, k9⟩
      have kw9 := kw8.out.trans k9 (by simp)
      have b9 := b8.out.kept k9 (by simp) (b8.out.lt (by simp))
      obtain ⟨wa, hwa, ka, bz⟩ : ∃ wa, w9.alloc (.cells #[.int .i64 0, .int .i64 0, .int .i64 0, .bool false, .int .i64 0, .string ⟨#[]⟩, .int .i64 0, .bool false, .int .i64 0, .string ⟨#[]⟩, .int .i64 0, .int .i64 0] 37) = wa ∧ Kp [] w9 wa ∧ Bx wa w9.heap.size [.int .i64 0, .int .i64 0, .int .i64 0, .bool false, .int .i64 0, .string ⟨#[]⟩, .int .i64 0, .bool false, .int .i64 0, .string ⟨#[]⟩, .int .i64 0, .int .i64 0] := ⟨_, rfl, (Kp.refl _ _).alloc _, Bx.new w9 _ _⟩
      obtain ⟨qw, hqw⟩ : ∃ q, Hid (w9.heap.size = q) := ⟨_, rfl⟩
      have hnq : qi ≠ qw := by rw [← hqw.out]; have := b9.lt (by simp); omega
      have hqww : w.heap.size ≤ qw := by rw [← hqw.out]; exact kw9.size
      have ba := b9.kept ka (by simp) (b9.lt (by simp))
      rw [hqw.out] at bz
      have p0 := bz.get 0 _ rfl; have f0 := bz.free 0
      have p1 := bz.get 1 _ rfl; have f1 := bz.free 1
      have p2 := bz.get 2 _ rfl; have f2 := bz.free 2
      have p3 := bz.get 3 _ rfl; have f3 := bz.free 3
      have p4 := bz.get 4 _ rfl; have f4 := bz.free 4
      have p5 := bz.get 5 _ rfl; have f5 := bz.free 5
      have p6 := bz.get 6 _ rfl; have f6 := bz.free 6
      have p7 := bz.get 7 _ rfl; have f7 := bz.free 7
      have p8 := bz.get 8 _ rfl; have f8 := bz.free 8
      have p9 := bz.get 9 _ rfl; have f9 := bz.free 9
      have p10 := bz.get 10 _ rfl; have f10 := bz.free 10
      have p11 := bz.get 11 _ rfl; have f11 := bz.free 11
      obtain ⟨WA, hWA, bWA, kWA⟩ : ∃ Y9, ((((((((((((wa.setCell ⟨qw, 0, none⟩ (.int .i64 K)).setCell ⟨qw, 1, none⟩ (.int .i64 (L.length : Int))).setCell ⟨qw, 2, none⟩ (.int .i64 uk)).setCell ⟨qw, 3, none⟩ (.bool ub)).setCell ⟨qw, 4, none⟩ (.int .i64 un)).setCell ⟨qw, 5, none⟩ (.string ut)).setCell ⟨qw, 6, none⟩ (.int .i64 zk)).setCell ⟨qw, 7, none⟩ (.bool zb)).setCell ⟨qw, 8, none⟩ (.int .i64 zn)).setCell ⟨qw, 9, none⟩ (.string zt)).setCell ⟨qw, 10, none⟩ (.int .i64 (NU : Int))).setCell ⟨qw, 11, none⟩ (.int .i64 0)) = Y9 ∧ Bx Y9 qw [.int .i64 K, .int .i64 (L.length : Int), .int .i64 uk, .bool ub, .int .i64 un, .string ut, .int .i64 zk, .bool zb, .int .i64 zn, .string zt, .int .i64 (NU : Int), .int .i64 0] ∧ Kp [qw] wa Y9 := ⟨_, rfl, gen12q (R := fun Y9 => Bx Y9 qw [.int .i64 K, .int .i64 (L.length : Int), .int .i64 uk, .bool ub, .int .i64 un, .string ut, .int .i64 zk, .bool zb, .int .i64 zn, .string zt, .int .i64 (NU : Int), .int .i64 0]) bz rfl (.int .i64 K) (.int .i64 (L.length : Int)) (.int .i64 uk) (.bool ub) (.int .i64 un) (.string ut) (.int .i64 zk) (.bool zb) (.int .i64 zn) (.string zt) (.int .i64 (NU : Int)) (.int .i64 0) (fun Y9 b _ => b), gen12q (R := fun Y9 => Kp [qw] wa Y9) bz rfl (.int .i64 K) (.int .i64 (L.length : Int)) (.int .i64 uk) (.bool ub) (.int .i64 un) (.string ut) (.int .i64 zk) (.bool zb) (.int .i64 zn) (.string zt) (.int .i64 (NU : Int)) (.int .i64 0) (fun Y9 _ k => k)⟩
      have bq := ba.kept kWA (by simpa using hnq) (ba.lt (by simp))
      have y11 := bq.get 11 _ rfl
      have z11 := bWA.get 11 _ rfl
      have z11f := bWA.free 11
      have kk3 := (kw9.trans ka (by simp)).trans kWA (fun x hx => .inr (by simp at hx; omega))
      obtain ⟨V, hV, bV, kV⟩ : ∃ V, WA.setCell ⟨qw, 11, none⟩ (.int .i64 (B : Int)) = V ∧ Bx V qw [.int .i64 K, .int .i64 (L.length : Int), .int .i64 uk, .bool ub, .int .i64 un, .string ut, .int .i64 zk, .bool zb, .int .i64 zn, .string zt, .int .i64 (NU : Int), .int .i64 (B : Int)] ∧ Kp [qw] WA V := ⟨_, rfl, genS (R := fun V => Bx V qw [.int .i64 K, .int .i64 (L.length : Int), .int .i64 uk, .bool ub, .int .i64 un, .string ut, .int .i64 zk, .bool zb, .int .i64 zn, .string zt, .int .i64 (NU : Int), .int .i64 (B : Int)]) bWA 11 (by simp) (.int .i64 (B : Int)) (fun W b _ => b), genS (R := fun V => Kp [qw] WA V) bWA 11 (by simp) (.int .i64 (B : Int)) (fun W _ k => k)⟩
      have bqV := bq.kept kV (by simpa using hnq) (bq.lt (by simp))
      have kkV := hid (kk3.trans kV (fun x hx => .inr (by simp at hx; omega)))
      have hr9 := hid (And.intro (((hr8.out.1.keptNew k9).keptNew ka).kept (kWA.trans kV (fun x hx => .inl hx)) (fun k hk => by
        rw [ownS] at hk
        simp only [List.mem_singleton]
        intro e
        have h1 := hr8.out.1.lt k (by rw [ownS]; exact hk)
        rw [e, ← hqw.out] at h1
        have := k9.size
        omega)) (fun k hk => Nat.le_trans kwd6.out.size (hr8.out.2 k hk)))
      have hb9 := hid bqV
      have s0 := bqV.get 0 _ rfl; have t0 := bV.get 0 _ rfl
      have s1 := bqV.get 1 _ rfl; have t1 := bV.get 1 _ rfl
      have s2 := bqV.get 2 _ rfl; have t2 := bV.get 2 _ rfl
      have s3 := bqV.get 3 _ rfl; have t3 := bV.get 3 _ rfl
      have s4 := bqV.get 4 _ rfl; have t4 := bV.get 4 _ rfl
      have s5 := bqV.get 5 _ rfl; have t5 := bV.get 5 _ rfl
      have s6 := bqV.get 6 _ rfl; have t6 := bV.get 6 _ rfl
      have s7 := bqV.get 7 _ rfl; have t7 := bV.get 7 _ rfl
      have s8 := bqV.get 8 _ rfl; have t8 := bV.get 8 _ rfl
      have s9 := bqV.get 9 _ rfl; have t9 := bV.get 9 _ rfl
      have s10 := bqV.get 10 _ rfl; have t10 := bV.get 10 _ rfl
      have s11 := bqV.get 11 _ rfl; have t11 := bV.get 11 _ rfl
      have hqw' := hqw.out
      clear cL k9 kw9 b9 ka bz ba bWA kWA bq kk3 bV kV bqV u0
      cases TB with
      | false =>
        have hrd3 : Hid (rdR bs = ([], 0, 70)) := by show _ = _; rw [hrd2.out, if_neg (by simp)]
        have hX1 : X = true := by rw [hfin.out]; rfl
        subst hX1
        clear hrd2
        go_wp2_with fail
        go_ret3
        rw [hrd3.out]
        exact rdP_no 70 kkV.out
      | true =>
        have hrd3 : Hid (rdR bs = (L, B, 0)) := by show _ = _; rw [hrd2.out, if_pos (by simp)]
        have hX1 : X = false := by rw [hfin.out]; rfl
        subst hX1
        clear hrd2
        go_wp2_with fail
        go_quiet (fail)
        go_wp2_with fail
        go_ret3
        rw [hrd3.out]
        exact ⟨a8, c8, rfl, hr9.out.1, kkV.out.drewN _, hr9.out.2⟩
    · have hrd3 : Hid (rdR bs = ([], 0, 70)) := by show _ = _; rw [hrd2.out, if_neg (fun h => hDE h.1)]
      have d2 : (DE != 0) = true := by simpa using hDE
      clear hrd2
      go_wp2_with fail
      go_ret3
      rw [hrd3.out]
      exact rdP_no 70 kw8.out
  · have d1 : ((N4 : Int) != (CR : Int)) = true := by simp; omega
    have hrd2 : Hid (rdR bs = ([], 0, 71)) := by show _ = _; rw [hrd.out, if_pos hne]
    clear hrd
    go_wp2_with fail
    go_ret3
    rw [hrd2.out]
    exact rdP_no 71 kw6.out
theorem rRead7 (a : Option Addr) (c : Nat) (bs : List UInt8) (w : World) (hs : Sees w a bs) (hl : bs.length ≤ c) (hm : c ≤ maxLen) (hb : bs.length ≤ 200000000000000) :
    Calls Tryz.prog 17 #[.slice a bs.length c] w (RdP (rdR bs) w) := by
  cases hn : hdR bs with
  | none => rw [rdR_none hn]; exact rReadN a c bs w hs hl hm hb hn
  | some r =>
    obtain ⟨i, s⟩ := r
    obtain ⟨k, m, n, ⟨mk, mb, mn, mt⟩, ⟨xk, xb, xn, xt⟩, x, y, rest, hbs, r1, r2, i1, i2, hk, hm1, hm2, hn2, hi, hss, hle⟩ := hdR_some hn
    rw [hi] at hn
    exact rReadS a c bs w hs hl hm hb k.toNat m.toNat s (s + (x.toNat * 256 + y.toNat)) (s + (x.toNat * 256 + y.toNat) + 4) mk mb mn mt xk xb xn xt n.toNat hn rfl hle (by omega) (by omega) (by omega) hm2
end Go.Proofs.YtcjnojbjgdechaaGreatDoor
end

section
namespace Go.Proofs.YtcjnojbjgdechaaGreatDoor
open Go.RowKit Go.Hay
set_option linter.unusedVariables false
set_option linter.unusedSimpArgs false

set_option maxHeartbeats 8000000 in
set_option maxRecDepth 100000 in
theorem lSame (iK iM mk : Int) (mb : Bool) (mn : Int) (mt : ByteArray) (xk : Int) (xb : Bool) (xn : Int) (xt : ByteArray) (iN iB : Int) (w : World) :
    Calls Tryz.prog 18 #[.agg #[.int .i64 iK, .int .i64 iM, .int .i64 mk, .bool mb, .int .i64 mn, .string mt, .int .i64 xk, .bool xb, .int .i64 xn, .string xt, .int .i64 iN, .int .i64 iB], .agg #[.int .i64 iK, .int .i64 iM, .int .i64 mk, .bool mb, .int .i64 mn, .string mt, .int .i64 xk, .bool xb, .int .i64 xn, .string xt, .int .i64 iN, .int .i64 iB]] w fun e w' => e = .returned (.bool true) ∧ Kp [] w w' := by
  obtain ⟨w1, hw1, k1, b1⟩ : ∃ w1, w.alloc (.cells #[.int .i64 iK, .int .i64 iM, .int .i64 mk, .bool mb, .int .i64 mn, .string mt, .int .i64 xk, .bool xb, .int .i64 xn, .string xt, .int .i64 iN, .int .i64 iB] 34) = w1 ∧ Kp [] w w1 ∧ Bx w1 w.heap.size [.int .i64 iK, .int .i64 iM, .int .i64 mk, .bool mb, .int .i64 mn, .string mt, .int .i64 xk, .bool xb, .int .i64 xn, .string xt, .int .i64 iN, .int .i64 iB] := ⟨_, rfl, (Kp.refl _ _).alloc _, Bx.new w _ _⟩
  obtain ⟨q, hq⟩ : ∃ q, Hid (w.heap.size = q) := ⟨_, rfl⟩
  rw [hq.out] at b1
  obtain ⟨w2, hw2, k2, b2⟩ : ∃ w2, w1.alloc (.cells #[.int .i64 iK, .int .i64 iM, .int .i64 mk, .bool mb, .int .i64 mn, .string mt, .int .i64 xk, .bool xb, .int .i64 xn, .string xt, .int .i64 iN, .int .i64 iB] 37) = w2 ∧ Kp [] w1 w2 ∧ Bx w2 w1.heap.size [.int .i64 iK, .int .i64 iM, .int .i64 mk, .bool mb, .int .i64 mn, .string mt, .int .i64 xk, .bool xb, .int .i64 xn, .string xt, .int .i64 iN, .int .i64 iB] := ⟨_, rfl, (Kp.refl _ _).alloc _, Bx.new w1 _ _⟩
  obtain ⟨q2, hq2⟩ : ∃ q, Hid (w1.heap.size = q) := ⟨_, rfl⟩
  rw [hq2.out] at b2
  have b12 := b1.kept k2 (by simp) (b1.lt (by simp))
  have kk := hid (k1.trans k2 (by simp))
  obtain ⟨X, HX, hX⟩ := eqV ⟨mk, mb, mn, mt⟩ ⟨mk, mb, mn, mt⟩
  obtain ⟨Y, HY, hY⟩ := eqV ⟨xk, xb, xn, xt⟩ ⟨xk, xb, xn, xt⟩
  have eX : X = true := by rw [HX.out]; exact eqv_iff.2 rfl
  have eY : Y = true := by rw [HY.out]; exact eqv_iff.2 rfl
  subst eX
  subst eY
  have p0 := b12.get 0 _ rfl; have s0 := b2.get 0 _ rfl
  have p1 := b12.get 1 _ rfl; have s1 := b2.get 1 _ rfl
  have p2 := b12.get 2 _ rfl; have s2 := b2.get 2 _ rfl
  have p3 := b12.get 3 _ rfl; have s3 := b2.get 3 _ rfl
  have p4 := b12.get 4 _ rfl; have s4 := b2.get 4 _ rfl
  have p5 := b12.get 5 _ rfl; have s5 := b2.get 5 _ rfl
  have p6 := b12.get 6 _ rfl; have s6 := b2.get 6 _ rfl
  have p7 := b12.get 7 _ rfl; have s7 := b2.get 7 _ rfl
  have p8 := b12.get 8 _ rfl; have s8 := b2.get 8 _ rfl
  have p9 := b12.get 9 _ rfl; have s9 := b2.get 9 _ rfl
  have p10 := b12.get 10 _ rfl; have s10 := b2.get 10 _ rfl
  have p11 := b12.get 11 _ rfl; have s11 := b2.get 11 _ rfl
  have hq' := hq.out
  have hq2' := hq2.out
  clear k1 k2 b1 b2 b12 HX HY
  go_enter Tryz.func18, Tryz.ntmps18
  go_wp2_with fail
  go_ret
  exact ⟨by simp, kk.out⟩
set_option maxHeartbeats 16000000 in
set_option maxRecDepth 100000 in
theorem walkBR (a : Option Addr) (c : Nat) (bs : List UInt8) (w : World) (ht0 : Tab w) (hs : Sees w a bs) (hl : bs.length ≤ c) (hm : c ≤ maxLen) (hb : bs.length ≤ 150000000000000) :
    Calls Tryz.prog 4 #[.slice a bs.length c] w fun e w' => e = .returned (.bool true) ∧ Kp [] w w' := by
  obtain ⟨i0, hi, hz0, hz1, hz2⟩ := infoU'
  obtain ⟨X1, hX1⟩ : ∃ X1, w.alloc (.cells #[] 5) = X1 := ⟨_, rfl⟩
  have kX1 : Kp [] w X1 := by rw [← hX1]; exact (Kp.refl _ _).alloc _
  have hr0 : BytE.Row X1 (.slice (some ⟨w.heap.size, 0, none⟩) 0 0) [] := by
    rw [← hX1]
    exact .inr ⟨w.heap.size, 0, 0, rfl, Nat.le_refl _, by decide, by simp, fun j u hu => by simp [El.cs] at hu, fun j hj => absurd hj (by simp)⟩
  have hsX := hid (hs.kept kX1 (by simp))
  have hr0' := hid (rowByt.1 hr0)
  have ht : Hid (∀ W, Kp [] w W → Tab W) := fun W k => ht0.kept k (by simp)
  have hal : Hid (∀ W, Kp [] w W → Calls Tryz.prog 12 #[] W fun e w' => e = .returned (.bool true) ∧ Kp [] W w') := fun W k => bAlive W (ht0.kept k (by simp))
  have hH : Hid (∀ W (b : Option Addr) (d : Nat), Sees W b bs → bs.length ≤ d → d ≤ maxLen → Calls Tryz.prog 14 #[.slice b bs.length d] W fun e w' => e = .returned (.tuple #[(hdP bs).1.v, .int .i64 (hdP bs).2.2]) ∧ Kp [] W w') := fun W b d h1 h2 h3 => bHead b d bs W h1 h2 h3
  have hRH : Hid (∀ W, Kp [] w W → Calls Tryz.prog 15 #[.slice a bs.length c] W (HdP (hdP bs) W)) := fun W kW => rHead a c bs W (hs.kept kW (by simp)) hl hm (by omega)
  have hRd : Hid (∀ W (b : Option Addr) (d : Nat), Kp [] w W → Sees W b bs → bs.length ≤ d → d ≤ maxLen → Calls Tryz.prog 16 #[.slice b bs.length d] W (RdP (rdR bs) W)) := fun W b d kW h1 h2 h3 => bRead b d bs W (ht0.kept kW (by simp)) h1 h2 h3 (by omega)
  have hRR : Hid (∀ W, Kp [] w W → Calls Tryz.prog 17 #[.slice a bs.length c] W (RdP (rdR bs) W)) := fun W kW => rRead7 a c bs W (hs.kept kW (by simp)) hl hm (by omega)
  obtain ⟨⟨⟨iK, iM, ⟨mk, mb, mn, mt⟩, ⟨xk, xb, xn, xt⟩, iN, iB⟩, sz, E⟩, hP⟩ : ∃ r, Hid (hdP bs = r) := ⟨_, rfl⟩
  obtain ⟨⟨L, N, G⟩, hG⟩ : ∃ r, Hid (rdR bs = r) := ⟨_, rfl⟩
  simp only [hP.out] at hH hRH
  simp only [hG.out] at hRd hRR
  unfold HdP at hRH
  unfold RdP at hRd hRR
  unfold Inf.v Inf.cs at hH hRH
  dsimp only at hH hRH hRd hRR
  have hs' := hid hs
  have e1 : (E == E) = true := by simp
  have e2 : ((N : Int) == (N : Int)) = true := by simp
  have e3 : (G == G) = true := by simp
  have hrX := hr0'.out
  have hsXX := hsX.out
  clear hs hr0 hP hG hm hr0' hsX ht0
  go_enter Tryz.func4, Tryz.ntmps4
  go_wp2_with (at_builtin; refine wpAppR rfl _ _ rfl _ [] rfl hrX a bs.length c bs rfl rfl hsXX (by simp; omega) ?_)
  intro b5 a5 c5 X2 hb5 _ hr5 hg5
  obtain rfl : b5 = bs := by have := hb5.out; simpa using this
  obtain ⟨hs5, hl5, hm5⟩ := rowSee hr5
  have kX2 : Kp [] w X2 := kX1.trans hg5.kp (fun q hq => .inr (by rw [ownS] at hq; simp [blk] at hq; omega))
  have cH := hH.out X2 a5 c5 hs5 hl5 hm5
  have hs5' := hid (And.intro hs5 (And.intro hl5 hm5))
  have kX2' := hid kX2
  clear hr5 hg5 hs5 hl5 hm5 hH hrX hsXX hb5 kX2 kX1 hX1
  go_wp2_with fail
  refine cH.mono ?_
  rintro e w2 ⟨rfl, k2⟩
  obtain ⟨w3, hw3, k3, bI⟩ : ∃ w3, w2.alloc (.cells #[.int .i64 0, .int .i64 0, .int .i64 0, .bool false, .int .i64 0, .string ⟨#[]⟩, .int .i64 0, .bool false, .int .i64 0, .string ⟨#[]⟩, .int .i64 0, .int .i64 0] 34) = w3 ∧ Kp [] w2 w3 ∧ Bx w3 w2.heap.size [.int .i64 0, .int .i64 0, .int .i64 0, .bool false, .int .i64 0, .string ⟨#[]⟩, .int .i64 0, .bool false, .int .i64 0, .string ⟨#[]⟩, .int .i64 0, .int .i64 0] := ⟨_, rfl, (Kp.refl _ _).alloc _, Bx.new w2 _ _⟩
  obtain ⟨qi, hqi⟩ : ∃ q, Hid (w2.heap.size = q) := ⟨_, rfl⟩
  rw [hqi.out] at bI
  have p0 := bI.get 0 _ rfl; have f0 := bI.free 0
  have p1 := bI.get 1 _ rfl; have f1 := bI.free 1
  have p2 := bI.get 2 _ rfl; have f2 := bI.free 2
  have p3 := bI.get 3 _ rfl; have f3 := bI.free 3
  have p4 := bI.get 4 _ rfl; have f4 := bI.free 4
  have p5 := bI.get 5 _ rfl; have f5 := bI.free 5
  have p6 := bI.get 6 _ rfl; have f6 := bI.free 6
  have p7 := bI.get 7 _ rfl; have f7 := bI.free 7
  have p8 := bI.get 8 _ rfl; have f8 := bI.free 8
  have p9 := bI.get 9 _ rfl; have f9 := bI.free 9
  have p10 := bI.get 10 _ rfl; have f10 := bI.free 10
  have p11 := bI.get 11 _ rfl; have f11 := bI.free 11
  obtain ⟨W, hW, bW, kW⟩ : ∃ Y9, ((((((((((((w3.setCell ⟨qi, 0, none⟩ (.int .i64 iK)).setCell ⟨qi, 1, none⟩ (.int .i64 iM)).setCell ⟨qi, 2, none⟩ (.int .i64 mk)).setCell ⟨qi, 3, none⟩ (.bool mb)).setCell ⟨qi, 4, none⟩ (.int .i64 mn)).setCell ⟨qi, 5, none⟩ (.string mt)).setCell ⟨qi, 6, none⟩ (.int .i64 xk)).setCell ⟨qi, 7, none⟩ (.bool xb)).setCell ⟨qi, 8, none⟩ (.int .i64 xn)).setCell ⟨qi, 9, none⟩ (.string xt)).setCell ⟨qi, 10, none⟩ (.int .i64 iN)).setCell ⟨qi, 11, none⟩ (.int .i64 iB)) = Y9 ∧ Bx Y9 qi [.int .i64 iK, .int .i64 iM, .int .i64 mk, .bool mb, .int .i64 mn, .string mt, .int .i64 xk, .bool xb, .int .i64 xn, .string xt, .int .i64 iN, .int .i64 iB] ∧ Kp [qi] w3 Y9 := ⟨_, rfl, gen12q (R := fun Y9 => Bx Y9 qi [.int .i64 iK, .int .i64 iM, .int .i64 mk, .bool mb, .int .i64 mn, .string mt, .int .i64 xk, .bool xb, .int .i64 xn, .string xt, .int .i64 iN, .int .i64 iB]) bI rfl (.int .i64 iK) (.int .i64 iM) (.int .i64 mk) (.bool mb) (.int .i64 mn) (.string mt) (.int .i64 xk) (.bool xb) (.int .i64 xn) (.string xt) (.int .i64 iN) (.int .i64 iB) (fun Y9 b _ => b), gen12q (R := fun Y9 => Kp [qi] w3 Y9) bI rfl (.int .i64 iK) (.int .i64 iM) (.int .i64 mk) (.bool mb) (.int .i64 mn) (.string mt) (.int .i64 xk) (.bool xb) (.int .i64 xn) (.string xt) (.int .i64 iN) (.int .i64 iB) (fun Y9 _ k => k)⟩
  have kXW : Kp [] X2 W := (k2.trans k3 (by simp)).trans kW (fun x hx => .inr (by simp at hx; have := k2.size; rw [hx, ← hqi.out]; omega))
  have kwW := hid (kX2'.out.trans kXW (by simp))
  have hXW := hid kXW
  have hbW := hid bW
  have cRH := hRH.out W kwW.out
  have hqi' := hqi.out
  clear cH k2 k3 bI kW bW kXW hRH
  go_wp2_with fail
  refine cRH.mono ?_
  rintro e w4 ⟨rfl, k4⟩
  obtain ⟨w5, hw5, k5, bJ⟩ : ∃ w5, w4.alloc (.cells #[.int .i64 0, .int .i64 0, .int .i64 0, .bool false, .int .i64 0, .string ⟨#[]⟩, .int .i64 0, .bool false, .int .i64 0, .string ⟨#[]⟩, .int .i64 0, .int .i64 0] 37) = w5 ∧ Kp [] w4 w5 ∧ Bx w5 w4.heap.size [.int .i64 0, .int .i64 0, .int .i64 0, .bool false, .int .i64 0, .string ⟨#[]⟩, .int .i64 0, .bool false, .int .i64 0, .string ⟨#[]⟩, .int .i64 0, .int .i64 0] := ⟨_, rfl, (Kp.refl _ _).alloc _, Bx.new w4 _ _⟩
  obtain ⟨qj, hqj⟩ : ∃ q, Hid (w4.heap.size = q) := ⟨_, rfl⟩
  rw [hqj.out] at bJ
  have hij : qi < qj := by rw [← hqj.out]; have := hbW.out.lt (by simp); have := k4.size; omega
  clear p0 f0 p1 f1 p2 f2 p3 f3 p4 f4 p5 f5 p6 f6 p7 f7 p8 f8 p9 f9 p10 f10 p11 f11 hW hw3 hqi'
  have p0 := bJ.get 0 _ rfl; have f0 := bJ.free 0
  have p1 := bJ.get 1 _ rfl; have f1 := bJ.free 1
  have p2 := bJ.get 2 _ rfl; have f2 := bJ.free 2
  have p3 := bJ.get 3 _ rfl; have f3 := bJ.free 3
  have p4 := bJ.get 4 _ rfl; have f4 := bJ.free 4
  have p5 := bJ.get 5 _ rfl; have f5 := bJ.free 5
  have p6 := bJ.get 6 _ rfl; have f6 := bJ.free 6
  have p7 := bJ.get 7 _ rfl; have f7 := bJ.free 7
  have p8 := bJ.get 8 _ rfl; have f8 := bJ.free 8
  have p9 := bJ.get 9 _ rfl; have f9 := bJ.free 9
  have p10 := bJ.get 10 _ rfl; have f10 := bJ.free 10
  have p11 := bJ.get 11 _ rfl; have f11 := bJ.free 11
  obtain ⟨V, hV, bV, kV⟩ : ∃ Y9, ((((((((((((w5.setCell ⟨qj, 0, none⟩ (.int .i64 iK)).setCell ⟨qj, 1, none⟩ (.int .i64 iM)).setCell ⟨qj, 2, none⟩ (.int .i64 mk)).setCell ⟨qj, 3, none⟩ (.bool mb)).setCell ⟨qj, 4, none⟩ (.int .i64 mn)).setCell ⟨qj, 5, none⟩ (.string mt)).setCell ⟨qj, 6, none⟩ (.int .i64 xk)).setCell ⟨qj, 7, none⟩ (.bool xb)).setCell ⟨qj, 8, none⟩ (.int .i64 xn)).setCell ⟨qj, 9, none⟩ (.string xt)).setCell ⟨qj, 10, none⟩ (.int .i64 iN)).setCell ⟨qj, 11, none⟩ (.int .i64 iB)) = Y9 ∧ Bx Y9 qj [.int .i64 iK, .int .i64 iM, .int .i64 mk, .bool mb, .int .i64 mn, .string mt, .int .i64 xk, .bool xb, .int .i64 xn, .string xt, .int .i64 iN, .int .i64 iB] ∧ Kp [qj] w5 Y9 := ⟨_, rfl, gen12q (R := fun Y9 => Bx Y9 qj [.int .i64 iK, .int .i64 iM, .int .i64 mk, .bool mb, .int .i64 mn, .string mt, .int .i64 xk, .bool xb, .int .i64 xn, .string xt, .int .i64 iN, .int .i64 iB]) bJ rfl (.int .i64 iK) (.int .i64 iM) (.int .i64 mk) (.bool mb) (.int .i64 mn) (.string mt) (.int .i64 xk) (.bool xb) (.int .i64 xn) (.string xt) (.int .i64 iN) (.int .i64 iB) (fun Y9 b _ => b), gen12q (R := fun Y9 => Kp [qj] w5 Y9) bJ rfl (.int .i64 iK) (.int .i64 iM) (.int .i64 mk) (.bool mb) (.int .i64 mn) (.string mt) (.int .i64 xk) (.bool xb) (.int .i64 xn) (.string xt) (.int .i64 iN) (.int .i64 iB) (fun Y9 _ k => k)⟩
  have kWV : Kp [] W V := (k4.trans k5 (by simp)).trans kV (fun x hx => .inr (by simp at hx; have := k4.size; rw [hx, ← hqj.out]; omega))
  have kwV := hid (kwW.out.trans kWV (by simp))
  have hXV := hid (hXW.out.trans kWV (by simp))
  have hbI := hid (hbW.out.kept kWV (by simp) (hbW.out.lt (by simp)))
  have hbJ := hid bV
  have cR := hRd.out V a5 c5 kwV.out (hs5'.out.1.kept hXV.out (by simp)) hs5'.out.2.1 hs5'.out.2.2
  have hqj' := hqj.out
  clear cRH k4 k5 bJ kV bV kWV hRd hbW hXW kwW
  go_wp2_with fail
  refine cR.mono ?_
  rintro e w6 ⟨a6, c6, rfl, hrow6, k6, hn6⟩
  have kw6 := hid (kwV.out.trans k6 (by simp))
  have hX6 := hid (hXV.out.trans k6 (by simp))
  have hbI6 := hid (hbI.out.kept k6 (by simp) (hbI.out.lt (by simp)))
  have hbJ6 := hid (hbJ.out.kept k6 (by simp) (hbJ.out.lt (by simp)))
  obtain ⟨hv6, hl6, hm6⟩ := rowVals hrow6
  have hv6' := hid hv6
  have cRR := hRR.out w6 kw6.out
  clear cR hrow6 hn6 k6 hv6 hRR hbI hbJ hXV kwV p0 f0 p1 f1 p2 f2 p3 f3 p4 f4 p5 f5 p6 f6 p7 f7 p8 f8 p9 f9 p10 f10 p11 f11 hV hw5 hqj'
  go_wp2_with fail
  refine cRR.mono ?_
  rintro e w7 ⟨a7, c7, rfl, hrow7, k7, hn7⟩
  have kw7 := hid (kw6.out.trans k7 (by simp))
  obtain ⟨hv7, hl7, hm7⟩ := rowVals hrow7
  have hv7' := hid (And.intro (hv6'.out.kept k7) hv7)
  have hX7 := hid (hX6.out.trans k7 (by simp))
  have hbI7 := hid (hbI6.out.kept k7 (by simp) (hbI6.out.lt (by simp)))
  have hbJ7 := hid (hbJ6.out.kept k7 (by simp) (hbJ6.out.lt (by simp)))
  clear cRR hrow7 hn7 k7 hv7 hv6' hX6 hbI6 hbJ6
  go_wp2_with fail
  refine (hal.out w7 kw7.out).mono ?_
  rintro e w8 ⟨rfl, k8⟩
  have kw8 := hid (kw7.out.trans k8 (by simp))
  have hX8 := hid (hX7.out.trans k8 (by simp))
  have hv8 := hid (And.intro (hv7'.out.1.kept k8) (hv7'.out.2.kept k8))
  have b8 := hbI7.out.kept k8 (by simp) (hbI7.out.lt (by simp))
  have j8 := hbJ7.out.kept k8 (by simp) (hbJ7.out.lt (by simp))
  have p0 := b8.get 0 _ rfl; have s0 := j8.get 0 _ rfl
  have p1 := b8.get 1 _ rfl; have s1 := j8.get 1 _ rfl
  have p2 := b8.get 2 _ rfl; have s2 := j8.get 2 _ rfl
  have p3 := b8.get 3 _ rfl; have s3 := j8.get 3 _ rfl
  have p4 := b8.get 4 _ rfl; have s4 := j8.get 4 _ rfl
  have p5 := b8.get 5 _ rfl; have s5 := j8.get 5 _ rfl
  have p6 := b8.get 6 _ rfl; have s6 := j8.get 6 _ rfl
  have p7 := b8.get 7 _ rfl; have s7 := j8.get 7 _ rfl
  have p8 := b8.get 8 _ rfl; have s8 := j8.get 8 _ rfl
  have p9 := b8.get 9 _ rfl; have s9 := j8.get 9 _ rfl
  have p10 := b8.get 10 _ rfl; have s10 := j8.get 10 _ rfl
  have p11 := b8.get 11 _ rfl; have s11 := j8.get 11 _ rfl
  clear k8 b8 j8 hX7 hv7' hbI7 hbJ7
  go_wp2_with fail
  refine (lSame iK iM mk mb mn mt xk xb xn xt iN iB w8).mono ?_
  rintro e w9 ⟨rfl, k9⟩
  have kw9 := hid (kw8.out.trans k9 (by simp))
  have hX9 := hid (hX8.out.trans k9 (by simp))
  have cS := cSame a6 a7 c6 c7 L L w9 (hv8.out.1.kept k9) (hv8.out.2.kept k9) (by unfold maxLen at hm6; omega) (by unfold maxLen at hm6; omega)
  rw [sameV_self] at cS
  clear k9 hv8 hX8 p0 s0 p1 s1 p2 s2 p3 s3 p4 s4 p5 s5 p6 s6 p7 s7 p8 s8 p9 s9 p10 s10 p11 s11
  go_wp2_with fail
  refine cS.mono ?_
  rintro e wa ⟨rfl, ka⟩
  have kwa := hid (kw9.out.trans ka (by simp))
  have cv1 := convSees (hs5'.out.1.kept (hX9.out.trans ka (by simp)) (by simp)) c5
  have cv2 := convSees (hs'.out.kept kwa.out (by simp)) c
  clear cS hs5' hs' hX9 ka
  go_wp2_with fail
  go_ret
  exact ⟨by simp, kwa.out⟩
theorem readsWalk7 (a : Option Addr) (nb c : Nat) (bs : List UInt8) (w : World) (ht : Tab w) (hs : Sees w a bs) (hnb : nb = bs.length) (hl : bs.length ≤ c) (hr : c ≤ 140737488351232) :
    Calls Tryz.prog 4 #[.slice a nb c] w fun e w' => e = .returned (.bool true) ∧ Below w.heap.size w w' := by
  subst hnb
  exact (walkBR a c bs w ht hs hl (by unfold maxLen; omega) (by omega)).mono fun e w' ⟨h1, h2⟩ => ⟨h1, h2.below⟩
end Go.Proofs.YtcjnojbjgdechaaGreatDoor
end

section
namespace Go.Proofs.YtcjnojbjgdechaaGreatDoor
open Go.ChangeShapes Go.WideShapes Go.ChangeAt Go.RowKit Go.Hay
set_option linter.unusedVariables false

set_option maxRecDepth 100000 in
theorem blockReadsContract (H : Type) (enc : TypeId × Value → H) (W : World) (base : Nat) (args : Array Value) (ds gs : List (DataW H)) (before : List MemPlace)
    (hval : ∀ (j : Nat) t v, Tryz.f4.params[j]? = some t → args[j]? = some v → Value.okWide Tryz.prog W .any base t v)
    (hW : DataW.Whole enc Tryz.prog Tryz.f4.params.toList Rows.blockReadsSpec.vars false W args.toList ds gs before)
    (hsz : (DataW.weightsEach Tryz.prog (Tryz.f4.params.toList ++ (OpenSpec.ofChange Rows.blockReadsSpec).bare.plain.varTypes Tryz.prog) (ds ++ gs)).all (· ≤ reachBytes) = true)
    (hL : laidMetH Tryz.prog Rows.blockReadsRow.laid W) :
    Calls Tryz.prog 4 args W fun e W' => ∃ v, e = .returned v ∧ Rows.blockReadsSpec.post enc Tryz.prog Tryz.f4 false true false false W args v W' := by
  have hW' := hW
  obtain ⟨p, q, hA0, hV, rfl, hfz, hnd⟩ := hW
  have hA : DataW.TrodAll enc Tryz.prog W 0 (fun _ => true) true Tryz.f4.params.toList args.toList ds p := hA0
  rw [Tryz.params4] at hA hval hsz
  obtain ⟨v0, vs0, d0, ds0, p0, q0, hargs, rfl, rfl, h0, r0⟩ := trodAll_cons hA
  obtain ⟨rfl, rfl, rfl⟩ := trodAll_nil r0
  obtain rfl : args = #[v0] := by cases args; simp_all
  obtain ⟨rfl, rfl⟩ := trodVars_none hV
  obtain ⟨a0, len0, cap0, rfl⟩ := okWide_slice Tryz.underlying24 (hval 0 24 v0 rfl rfl)
  have k0 := h0
  have lt0 : ∀ x ∈ p0, x.block < W.heap.size := by obtain ⟨m, hm⟩ := k0; exact DataW.trod_lt m _ _ _ hm
  obtain ⟨bs0, hlen0, hs0, hl0, hm0, hcap0⟩ := openBytes h0
  have hr0 := reachBytesOf (d := d0) (List.all_eq_true.2 fun x hx => List.all_eq_true.1 hsz x (by simp [DataW.weightsEach]; first | exact .inl hx | exact .inr hx | exact .inr (.inl hx) | exact .inr (.inr hx) | exact hx))
  clear hA0
  refine (readsWalk7 a0 len0 cap0 bs0 W (table hL) hs0 hlen0 hl0 (by omega)).mono fun e W' ⟨he, bel⟩ => ?_
  subst he
  exact ⟨_, rfl, _, _, _, [], _, [], hW', trodAll_mk1 (shut_bool Tryz.underlying4 _), (trodAll_cons_mk (Below.trod Tryz.laidOut (by kernel_rfl) (of_decide_eq_true (by kernel_rfl)) k0 bel lt0) trodAll_mk0), rfl, bel.frame _, fun h => by cases h⟩

set_option maxRecDepth 100000 in
theorem blockReadsLifted (os : Os) (started : os.Started) (H : Type) (enc : TypeId × Value → H) (F : Stop.Interp) :
    ReturnsInHanded {} Tryz.checked os 4 .any ((OpenSpec.ofChange Rows.blockReadsSpec).preRow enc Tryz.prog Tryz.f4 Rows.blockReadsRow.domain false Rows.blockReadsRow.laid) (((OpenSpec.ofChange Rows.blockReadsSpec).at F).post enc Tryz.prog Tryz.f4 false true false false) := by
  refine returnsInHanded_of_row (C := Tryz.checked) (s := OpenSpec.ofChange Rows.blockReadsSpec) Tryz.own started (by kernel_rfl) Tryz.func4
    (witness_row_at (enc := enc) (C := Tryz.checked) false ({ World.holding Tryz.prog os ⟨#[], #[], []⟩ with heap := (World.holding Tryz.prog os ⟨#[], #[], []⟩).heap.modify 0 fun
      | .cells _ t frozen => .cells tabCells t frozen
      | o => o }) #[.slice none 0 0] rfl (by kernel_rfl) (by kernel_rfl) (by kernel_rfl)
      (OpenSpec.preRow_of_cond (x := ([.nil], [], [])) 8 (by kernel_rfl) (by kernel_rfl) (fun k hk => by cases hk) (by kernel_rfl) (laidMet_of_run' 8 (by kernel_rfl) (by kernel_rfl)))) ?_
  intro W base args ds gs before hval hW _ hcond hsz hL _ _
  exact blockReadsContract H enc W base args ds gs before hval hW hsz hL

theorem blockReadsSaid : Rows.BlockReadsSaid :=
  OpenClaim.holds_of_cond 4 Tryz.f4 rfl rfl rfl rfl rfl rfl rfl ⟨rfl, rfl, rfl, rfl, rfl⟩ rfl rfl rfl rfl rfl (by kernel_rfl) Tryz.func4 (by kernel_rfl)
    (of_decide_eq_true (by kernel_rfl)) (by unfold Func.isWrapper; first | (rw [if_pos (by decide +kernel)]; kernel_rfl) | (rw [if_neg (by decide +kernel)]; exact ⟨rfl, rfl⟩))
    (fun os started H enc _ F => by rw [OpenClaim.pre_eq_preRow]; exact blockReadsLifted os started H enc F)

theorem blockReadsPlain (f : FuncId) (fn : Func) (hf : Tryz.pinned.checked.prog.funcNamed "hayloft/hayloftlaw07.BlockReads" = some f) (hfn : Tryz.pinned.checked.prog.funcs[f]? = some fn) :
    false = Tryz.pinned.checked.prog.looks [] ∧ ∀ (j : Nat) t, fn.params[j]? = some t → Tryz.pinned.checked.prog.wantsStandIn t = false := by
  obtain rfl : f = 4 := Option.some.inj ((show Tryz.prog.funcNamed "hayloft/hayloftlaw07.BlockReads" = some 4 by kernel_rfl).symm.trans hf) |>.symm
  obtain rfl : fn = Tryz.f4 := (Option.some.inj (Tryz.func4.symm.trans hfn)).symm
  refine ⟨by kernel_rfl, fun j t ht => ?_⟩
  rw [Tryz.params4] at ht
  have hm := Array.mem_of_getElem? ht
  have h2 : t = 24 := by first | (simpa using hm) | (rcases (show t = 24 from by simpa using hm) with h <;> simp [h])
  subst h2
  exact (show Tryz.prog.wantsStandIn 24 = false by kernel_rfl)

theorem BlockReads_holds : Rows.BlockReadsCardSaid :=
  Claim7.holds_tied_plain_at .later [] _ _ _ _ blockReadsSaid (fun _ h => by cases h) (by kernel_rfl) (fun _ h => by cases h) blockReads_row_tie rfl ⟨rfl, rfl⟩ (by kernel_rfl) rfl blockReadsPlain (by kernel_rfl)
#print axioms BlockReads_holds
end Go.Proofs.YtcjnojbjgdechaaGreatDoor
end

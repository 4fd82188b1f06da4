/- takeHead. Two heads compared; tells. The reference's refused and width. -/
import Derived.Test.YtohbdbecioanaaaGreatDoorB12
import Derived.Test.YtohbdbecioanaaaGreatDoorB11
section
namespace Go.Proofs.YtohbdbecioanaaaGreatDoor
open Go.RowKit Go.Hay
set_option linter.unusedVariables false
set_option linter.unusedSimpArgs false

/-- What a call that reads a head hands back. -/
def HdP (r : Inf × Nat × Int) (w : World) (e : Ending) (w' : World) : Prop := e = .returned (.tuple #[r.1.v, .int .i64 r.2.1, .int .i64 r.2.2]) ∧ Kp [] w w'
theorem num1 {out bs' : List UInt8} {bs : List UInt8} {e e' : Int} (h : takeS 1 bs e = (out, bs', e')) : num out < 256 ∧ bs'.length ≤ bs.length := by
  have h1 : out.length ≤ 1 := takeS_len 1 bs e h
  have h2 := num_lt_of out 1 h1
  refine ⟨by omega, ?_⟩
  have hh := congrArg (fun r => r.2.1.length) h
  dsimp only at hh
  rw [← hh]
  unfold takeS
  split
  · exact Nat.le_refl _
  · split
    · exact Nat.le_refl _
    · simp
theorem tv_len (bs : List UInt8) (e : Int) : (tvS bs e).2.1.length ≤ bs.length := by
  have hT : ∀ n bs e, (takeS n bs e).2.1.length ≤ bs.length := fun n bs e => by
    unfold takeS
    split
    · exact Nat.le_refl _
    · split
      · exact Nat.le_refl _
      · simp
  have hV : ∀ m bs e, (varS m bs e).2.1.length ≤ bs.length := fun m bs e => by
    unfold varS
    split
    · exact Nat.le_refl _
    · split
      · exact Nat.le_refl _
      · split
        · exact Nat.le_refl _
        · simp
  have hX : (textS 64 (takeS 1 bs e).2.1 (takeS 1 bs e).2.2).2.1.length ≤ (takeS 1 bs e).2.1.length := by
    generalize (takeS 1 bs e).2.1 = b
    generalize (takeS 1 bs e).2.2 = f
    have hc : countS 64 b f = varS 64 b f := by unfold countS; rw [if_pos (by omega)]
    unfold textS
    rw [hc]
    split
    · exact Nat.le_refl _
    · have h1 := hV 64 b f
      unfold rawS
      split
      · exact h1
      · exact Nat.le_trans (hT _ _ _) h1
  have h1 := hT 1 bs e
  unfold tvS tvS1
  split
  · exact h1
  · split
    · exact Nat.le_trans (hV _ _ _) h1
    · split
      · exact Nat.le_trans (hT _ _ _) h1
      · split
        · exact Nat.le_trans hX h1
        · exact h1
theorem zeroI_v : zeroI.v = .agg #[.int .i64 0, .int .i64 0, .int .i64 0, .bool false, .int .i64 0, .string ⟨#[]⟩, .int .i64 0, .bool false, .int .i64 0, .string ⟨#[]⟩, .int .i64 0, .int .i64 0] := rfl
set_option maxHeartbeats 32000000 in
set_option maxRecDepth 100000 in
theorem bTakeHead (a : Option Addr) (c : Nat) (bs : List UInt8) (w : World) (hs : Sees w a bs) (hl : bs.length ≤ c) (hm : c ≤ maxLen)  :
    Calls Tryz.prog 30 #[.slice a bs.length c] w (HdP (hdP bs) w) := by
  obtain ⟨w0, hw0, kw0, bR⟩ : ∃ w0, w.alloc (.cells #[.int .i64 0, .int .i64 0, .int .i64 0, .bool false, .int .i64 0, .string ⟨#[]⟩, .int .i64 0, .bool false, .int .i64 0, .string ⟨#[]⟩, .int .i64 0, .int .i64 0] 46) = w0 ∧ Kp [] w w0 ∧ Bx w0 w.heap.size [.int .i64 0, .int .i64 0, .int .i64 0, .bool false, .int .i64 0, .string ⟨#[]⟩, .int .i64 0, .bool false, .int .i64 0, .string ⟨#[]⟩, .int .i64 0, .int .i64 0] := ⟨_, rfl, (Kp.refl _ _).alloc _, Bx.new w _ _⟩
  obtain ⟨L, hL⟩ : ∃ L : Nat, Hid ((min (bs.length : Int) 137).toNat = L) := ⟨_, rfl⟩
  obtain ⟨F, hF⟩ : ∃ F, Hid (bs.take 137 = F) := ⟨_, rfl⟩
  have hFl : F.length = L := by rw [← hF.out, ← hL.out, List.length_take]; omega
  have hF8 : F.length ≤ 137 := by rw [← hF.out, List.length_take]; omega
  have hsF : Sees w0 a F := by rw [← hF.out]; exact (hs.kept kw0 (by simp)).front 137
  have cR := rRead a L c F w0 hsF hFl.symm (by omega)
  obtain ⟨q, hq⟩ : ∃ q, Hid (w.heap.size = q) := ⟨_, rfl⟩
  have bR0 : Hid (Bx w0 q [.int .i64 0, .int .i64 0, .int .i64 0, .bool false, .int .i64 0, .string ⟨#[]⟩, .int .i64 0, .bool false, .int .i64 0, .string ⟨#[]⟩, .int .i64 0, .int .i64 0]) := by rw [← hq.out]; exact bR
  have hqw : w.heap.size ≤ q := by rw [hq.out]; omega
  have hq0 : q < w0.heap.size := by rw [← hq.out]; exact bR.lt (by simp)
  rw [← hw0] at cR
  unfold maxLen at hm
  have hw0' := hid hw0
  have hkw0 := hid kw0
  have htk' := hF
  have hFle := hF8
  have hFl2 := hid hFl
  clear hw0 kw0 bR hsF hs hFl hF8 hF
  go_enter Tryz.func30, Tryz.ntmps30
  go_wp2_with fail
  rw [hL.out]
  refine cR.mono ?_
  rintro e w1 ⟨p, D, rfl, hr, k1, hp, hD⟩
  rw [hw0'.out] at k1 hp hD
  rw [hq.out]
  have bR1 := bR0.out.kept k1 (by simp) hq0
  have kw1 := hkw0.out.trans k1 (by simp)
  clear cR bR0 hkw0 hw0' k1
  obtain ⟨w2, hw2, k2, bI⟩ : ∃ w2, w1.alloc (.cells #[.int .i64 0, .int .i64 0, .int .i64 0, .bool false, .int .i64 0, .string ⟨#[]⟩, .int .i64 0, .bool false, .int .i64 0, .string ⟨#[]⟩, .int .i64 0, .int .i64 0] 46) = w2 ∧ Kp [] w1 w2 ∧ Bx w2 w1.heap.size [.int .i64 0, .int .i64 0, .int .i64 0, .bool false, .int .i64 0, .string ⟨#[]⟩, .int .i64 0, .bool false, .int .i64 0, .string ⟨#[]⟩, .int .i64 0, .int .i64 0] := ⟨_, rfl, (Kp.refl _ _).alloc _, Bx.new w1 _ _⟩
  have hr2 := hr.kept k2 (by simp) (by simp)
  have bR2 := bR1.kept k2 (by simp) (bR1.lt (by simp))
  have hp1 : p < w1.heap.size := hr.lt
  have hD1 : ∀ k ∈ D, k < w1.heap.size := hr.dlt
  obtain ⟨qi, hqi⟩ : ∃ qi, Hid (w1.heap.size = qi) := ⟨_, rfl⟩
  have hpqi : p ≠ qi := by rw [← hqi.out]; omega
  have hqqi : q ≠ qi := by rw [← hqi.out]; have := bR1.lt (by simp); omega
  have hpq : p ≠ q := by omega
  have hDqi : Hid (∀ k ∈ D, k ≠ qi) := fun k hk => by rw [← hqi.out]; have := hD1 k hk; omega
  have hpw : w.heap.size ≤ p := by omega
  have hqiw : w.heap.size ≤ qi := by rw [← hqi.out]; exact kw1.size
  rw [hqi.out] at bI
  have kw2 := kw1.trans k2 (by simp)
  have cB1 := rByte p D F 0 w2 hr2
  rw [← hw2] at cB1
  have H := hid (And.intro bI (And.intro bR2 kw2))
  have hw2' := hid hw2
  have hfw : Hid (∀ W W', Kp [p] W W' → Bx W qi [.int .i64 0, .int .i64 0, .int .i64 0, .bool false, .int .i64 0, .string ⟨#[]⟩, .int .i64 0, .bool false, .int .i64 0, .string ⟨#[]⟩, .int .i64 0, .int .i64 0] → True) := fun _ _ _ _ => trivial
  clear hw2 k2 bI bR2 hr2 hr bR1 kw1 hp hD hp1 hD1 kw2 hfw
  go_wp2_with fail
  refine cB1.mono ?_
  rintro e w3 ⟨o1, F1, e1, t1, rfl, hr3, k3⟩
  rw [hw2'.out] at k3
  rw [hqi.out]
  clear cB1 hw2'
  have Hw3 := hid (And.intro (H.out.1.kept k3 (by simpa using Ne.symm hpqi) ((H.out.1).lt (by simp))) (And.intro ((H.out.2.1).kept k3 (by simpa using Ne.symm hpq) ((H.out.2.1).lt (by simp))) ((H.out.2.2).trans k3 (fun x hx => .inr (by simp at hx; omega)))))
  clear H k3
  obtain ⟨x1, hx1⟩ : ∃ x : Nat, Hid (num o1 = x) := ⟨_, rfl⟩
  have hb1 : x1 < 256 := by rw [← hx1.out]; exact (num1 t1).1
  have hle1 : F1.length ≤ F.length := (num1 t1).2
  have t1' := hid t1
  rw [hx1.out]
  have g1 := Hw3.out.1.get 0 _ rfl
  have gf1 := Hw3.out.1.free 0
  clear t1
  go_wp2_with fail
  refine genS (R := fun W => Calls _ _ _ W _) Hw3.out.1 0 (by simp) _ ?_
  intro w4 bI k4
  clear g1 gf1
  have HN := hid (And.intro (show Bx w4 qi [.int .i64 (x1 : Int), .int .i64 0, .int .i64 0, .bool false, .int .i64 0, .string ⟨#[]⟩, .int .i64 0, .bool false, .int .i64 0, .string ⟨#[]⟩, .int .i64 0, .int .i64 0] from bI) (And.intro (Hw3.out.2.1.kept k4 (by simpa using hqqi) ((Hw3.out.2.1).lt (by simp))) (And.intro (Hw3.out.2.2.trans k4 (fun x hx => .inr (by simp at hx; omega))) (rd_q hr3 k4 hpqi hDqi.out))))
  clear Hw3 bI k4 hr3
  refine (rByte p D F1 e1 w4 HN.out.2.2.2).mono ?_
  rintro e w5 ⟨o2, F2, e2, t2, rfl, hr5, k5⟩
  have Hw5 := hid (And.intro ((HN.out.1).kept k5 (by simpa using Ne.symm hpqi) ((HN.out.1).lt (by simp))) (And.intro ((HN.out.2.1).kept k5 (by simpa using Ne.symm hpq) ((HN.out.2.1).lt (by simp))) ((HN.out.2.2.1).trans k5 (fun x hx => .inr (by simp at hx; omega)))))
  clear HN k5
  obtain ⟨x2, hx2⟩ : ∃ x : Nat, Hid (num o2 = x) := ⟨_, rfl⟩
  have hb2 : x2 < 256 := by rw [← hx2.out]; exact (num1 t2).1
  have hle2 : F2.length ≤ F1.length := (num1 t2).2
  have t2' := hid t2
  rw [hx2.out]
  have g2 := Hw5.out.1.get 1 _ rfl
  have gf2 := Hw5.out.1.free 1
  clear t2
  go_wp2_with fail
  refine genS (R := fun W => Calls _ _ _ W _) Hw5.out.1 1 (by simp) _ ?_
  intro w6 bI k6
  clear g2 gf2
  have HN := hid (And.intro (show Bx w6 qi [.int .i64 (x1 : Int), .int .i64 (x2 : Int), .int .i64 0, .bool false, .int .i64 0, .string ⟨#[]⟩, .int .i64 0, .bool false, .int .i64 0, .string ⟨#[]⟩, .int .i64 0, .int .i64 0] from bI) (And.intro (Hw5.out.2.1.kept k6 (by simpa using hqqi) ((Hw5.out.2.1).lt (by simp))) (And.intro (Hw5.out.2.2.trans k6 (fun x hx => .inr (by simp at hx; omega))) (rd_q hr5 k6 hpqi hDqi.out))))
  clear Hw5 bI k6 hr5
  refine (rByte p D F2 e2 w6 HN.out.2.2.2).mono ?_
  rintro e w7 ⟨o3, F3, e3, t3, rfl, hr7, k7⟩
  have Hw7 := hid (And.intro ((HN.out.1).kept k7 (by simpa using Ne.symm hpqi) ((HN.out.1).lt (by simp))) (And.intro ((HN.out.2.1).kept k7 (by simpa using Ne.symm hpq) ((HN.out.2.1).lt (by simp))) ((HN.out.2.2.1).trans k7 (fun x hx => .inr (by simp at hx; omega)))))
  clear HN k7
  obtain ⟨x3, hx3⟩ : ∃ x : Nat, Hid (num o3 = x) := ⟨_, rfl⟩
  have hb3 : x3 < 256 := by rw [← hx3.out]; exact (num1 t3).1
  have hle3 : F3.length ≤ F2.length := (num1 t3).2
  have t3' := hid t3
  rw [hx3.out]
  have g3 := Hw7.out.1.get 10 _ rfl
  have gf3 := Hw7.out.1.free 10
  clear t3
  go_wp2_with fail
  refine genS (R := fun W => Calls _ _ _ W _) Hw7.out.1 10 (by simp) _ ?_
  intro w8 bI k8
  clear g3 gf3
  have HN := hid (And.intro (show Bx w8 qi [.int .i64 (x1 : Int), .int .i64 (x2 : Int), .int .i64 0, .bool false, .int .i64 0, .string ⟨#[]⟩, .int .i64 0, .bool false, .int .i64 0, .string ⟨#[]⟩, .int .i64 (x3 : Int), .int .i64 0] from bI) (And.intro (Hw7.out.2.1.kept k8 (by simpa using hqqi) ((Hw7.out.2.1).lt (by simp))) (And.intro (Hw7.out.2.2.trans k8 (fun x hx => .inr (by simp at hx; omega))) (rd_q hr7 k8 hpqi hDqi.out))))
  clear Hw7 bI k8 hr7
  have cV4 := bTakeValue p D F3 e3 w8 HN.out.2.2.2 (by omega)
  refine cV4.mono ?_
  rintro e w9 ⟨rfl, hr9, k9⟩
  obtain ⟨⟨v4, F4, e4⟩, t4⟩ : ∃ r, tvS F3 e3 = r := ⟨_, rfl⟩
  have hle4 : F4.length ≤ F3.length := by have := tv_len F3 e3; rw [t4] at this; exact this
  rw [t4] at hr9 ⊢
  obtain ⟨mk, mb, mn, mt⟩ := v4
  unfold Val.v
  dsimp only at hr9 ⊢
  have t4' := hid t4
  have Hw9 := hid (And.intro ((HN.out.1).kept k9 (by simpa using Ne.symm hpqi) ((HN.out.1).lt (by simp))) (And.intro ((HN.out.2.1).kept k9 (by simpa using Ne.symm hpq) ((HN.out.2.1).lt (by simp))) ((HN.out.2.2.1).trans k9 (fun x hx => .inr (by simp at hx; omega)))))
  clear HN k9 cV4 t4
  have g0 := Hw9.out.1.get 2 _ rfl; have gf0 := Hw9.out.1.free 2
  have g1 := Hw9.out.1.get 3 _ rfl; have gf1 := Hw9.out.1.free 3
  have g2 := Hw9.out.1.get 4 _ rfl; have gf2 := Hw9.out.1.free 4
  have g3 := Hw9.out.1.get 5 _ rfl; have gf3 := Hw9.out.1.free 5
  go_wp2_with fail
  refine genS4 (R := fun W => Calls _ _ _ W _) Hw9.out.1 2 3 4 5 (by simp) (by simp) (by simp) (by simp) _ _ _ _ ?_
  intro w10 bI k10
  clear g0 g1 g2 g3 gf0 gf1 gf2 gf3
  have HN := hid (And.intro (show Bx w10 qi [.int .i64 (x1 : Int), .int .i64 (x2 : Int), .int .i64 mk, .bool mb, .int .i64 mn, .string mt, .int .i64 0, .bool false, .int .i64 0, .string ⟨#[]⟩, .int .i64 (x3 : Int), .int .i64 0] from bI) (And.intro (Hw9.out.2.1.kept k10 (by simpa using hqqi) ((Hw9.out.2.1).lt (by simp))) (And.intro (Hw9.out.2.2.trans k10 (fun x hx => .inr (by simp at hx; omega))) (rd_q hr9 k10 hpqi hDqi.out))))
  clear Hw9 bI k10 hr9
  have cV5 := bTakeValue p D F4 e4 w10 HN.out.2.2.2 (by omega)
  refine cV5.mono ?_
  rintro e w11 ⟨rfl, hr11, k11⟩
  obtain ⟨⟨v5, F5, e5⟩, t5⟩ : ∃ r, tvS F4 e4 = r := ⟨_, rfl⟩
  have hle5 : F5.length ≤ F4.length := by have := tv_len F4 e4; rw [t5] at this; exact this
  rw [t5] at hr11 ⊢
  obtain ⟨xk, xb, xn, xt⟩ := v5
  unfold Val.v
  dsimp only at hr11 ⊢
  have t5' := hid t5
  have Hw11 := hid (And.intro ((HN.out.1).kept k11 (by simpa using Ne.symm hpqi) ((HN.out.1).lt (by simp))) (And.intro ((HN.out.2.1).kept k11 (by simpa using Ne.symm hpq) ((HN.out.2.1).lt (by simp))) ((HN.out.2.2.1).trans k11 (fun x hx => .inr (by simp at hx; omega)))))
  clear HN k11 cV5 t5
  have g0 := Hw11.out.1.get 6 _ rfl; have gf0 := Hw11.out.1.free 6
  have g1 := Hw11.out.1.get 7 _ rfl; have gf1 := Hw11.out.1.free 7
  have g2 := Hw11.out.1.get 8 _ rfl; have gf2 := Hw11.out.1.free 8
  have g3 := Hw11.out.1.get 9 _ rfl; have gf3 := Hw11.out.1.free 9
  go_wp2_with fail
  refine genS4 (R := fun W => Calls _ _ _ W _) Hw11.out.1 6 7 8 9 (by simp) (by simp) (by simp) (by simp) _ _ _ _ ?_
  intro w12 bI k12
  clear g0 g1 g2 g3 gf0 gf1 gf2 gf3
  have HN := hid (And.intro (show Bx w12 qi [.int .i64 (x1 : Int), .int .i64 (x2 : Int), .int .i64 mk, .bool mb, .int .i64 mn, .string mt, .int .i64 xk, .bool xb, .int .i64 xn, .string xt, .int .i64 (x3 : Int), .int .i64 0] from bI) (And.intro (Hw11.out.2.1.kept k12 (by simpa using hqqi) ((Hw11.out.2.1).lt (by simp))) (And.intro (Hw11.out.2.2.trans k12 (fun x hx => .inr (by simp at hx; omega))) (rd_q hr11 k12 hpqi hDqi.out))))
  clear Hw11 bI k12 hr11
  refine (rByte p D F5 e5 w12 HN.out.2.2.2).mono ?_
  rintro e w13 ⟨o6, F6, e6, t6, rfl, hr13, k13⟩
  obtain ⟨x6, hx6⟩ : ∃ x : Nat, Hid (num o6 = x) := ⟨_, rfl⟩
  have hb6 : x6 < 256 := by rw [← hx6.out]; exact (num1 t6).1
  have hle6 : F6.length ≤ F5.length := (num1 t6).2
  have t6' := hid t6
  rw [hx6.out]
  have HN2 := hid (And.intro ((HN.out.1).kept k13 (by simpa using Ne.symm hpqi) ((HN.out.1).lt (by simp))) (And.intro ((HN.out.2.1).kept k13 (by simpa using Ne.symm hpq) ((HN.out.2.1).lt (by simp))) (And.intro ((HN.out.2.2.1).trans k13 (fun x hx => .inr (by simp at hx; omega))) hr13)))
  clear t6 HN k13 hr13
  have HN := HN2
  clear HN2
  go_wp2_with fail
  refine (rByte p D F6 e6 w13 HN.out.2.2.2).mono ?_
  rintro e w14 ⟨o7, F7, e7, t7, rfl, hr14, k14⟩
  obtain ⟨x7, hx7⟩ : ∃ x : Nat, Hid (num o7 = x) := ⟨_, rfl⟩
  have hb7 : x7 < 256 := by rw [← hx7.out]; exact (num1 t7).1
  have hle7 : F7.length ≤ F6.length := (num1 t7).2
  have t7' := hid t7
  rw [hx7.out]
  have HN2 := hid (And.intro ((HN.out.1).kept k14 (by simpa using Ne.symm hpqi) ((HN.out.1).lt (by simp))) (And.intro ((HN.out.2.1).kept k14 (by simpa using Ne.symm hpq) ((HN.out.2.1).lt (by simp))) (And.intro ((HN.out.2.2.1).trans k14 (fun x hx => .inr (by simp at hx; omega))) hr14)))
  clear t7 HN k14 hr14
  have HN := HN2
  clear HN2
  go_wp2_with fail
  obtain ⟨size, hsz⟩ : ∃ size : Nat, Hid (size + F7.length = F.length) := ⟨F.length - F7.length, by show _ = _; omega⟩
  have hsz1 : (L : Int) - (F7.length : Int) = (size : Int) := by have := hsz.out; have := hFl2.out; omega
  have hsz2 : size ≤ 137 := by have := hsz.out; omega
  refine (rLeft p D F7 e7 w14 HN.out.2.2.2).mono ?_
  rintro e w15 ⟨rfl, hww⟩
  subst hww
  have g0 := HN.out.1.get 11 _ rfl
  have gf0 := HN.out.1.free 11
  have hkch : Hid (Chain (bs.take 137) o1 o2 o3 o6 o7 ⟨mk, mb, mn, mt⟩ ⟨xk, xb, xn, xt⟩ F7 e7) := ⟨F1, F2, F3, F4, F5, F6, e1, e2, e3, e4, e5, e6, by rw [htk'.out]; exact t1'.out, t2'.out, t3'.out, t4'.out, t5'.out, t6'.out, t7'.out⟩
  have hch := hid (chain_head hkch.out size (size + (x6 * 256 + x7) + 4) (by rw [htk'.out]; exact hsz.out) (by rw [hx6.out, hx7.out]))
  rw [hx1.out, hx2.out, hx3.out] at hch
  clear hle1 hle2 hle3 hle4 hle5 hle6 hle7 t1' t2' t3' t4' t5' t6' t7' hkch htk' hx1 hx2 hx3 hx6 hx7
  have hcc : ((size : Int) + ((x6 : Int) * 256 + (x7 : Int)) + 4) = ((size + (x6 * 256 + x7) + 4 : Nat) : Int) := by omega
  obtain ⟨B, hBB⟩ : ∃ B : Nat, Hid (size + (x6 * 256 + x7) + 4 = B) := ⟨_, rfl⟩
  rw [hBB.out] at hch hcc
  have hB6 : B ≤ 70000 := by rw [← hBB.out]; omega
  go_wp2_with fail
  refine genS (R := fun W => Calls _ _ _ W _) HN.out.1 11 (by simp) _ ?_
  intro w15 bI k15
  have H9 := hid (And.intro (show Bx w15 qi [.int .i64 (x1 : Int), .int .i64 (x2 : Int), .int .i64 mk, .bool mb, .int .i64 mn, .string mt, .int .i64 xk, .bool xb, .int .i64 xn, .string xt, .int .i64 (x3 : Int), .int .i64 (B : Int)] from bI) (And.intro (HN.out.2.1.kept k15 (by simpa using hqqi) ((HN.out.2.1).lt (by simp))) (And.intro (HN.out.2.2.1.trans k15 (fun x hx => .inr (by simp at hx; omega))) (rd_q HN.out.2.2.2 k15 hpqi hDqi.out))))
  clear HN bI k15 g0 gf0 hcc
  refine (rErr p D F7 e7 w15 H9.out.2.2.2).mono ?_
  rintro e wX ⟨rfl, hww⟩
  subst hww
  by_cases he : e7 = 0
  · have hbI := H9.out.1
    have j0 := hbI.get 0 _ rfl
    have j1 := hbI.get 1 _ rfl
    have j2 := hbI.get 2 _ rfl
    have j3 := hbI.get 3 _ rfl
    have j4 := hbI.get 4 _ rfl
    have j5 := hbI.get 5 _ rfl
    have j6 := hbI.get 6 _ rfl
    have j7 := hbI.get 7 _ rfl
    have j8 := hbI.get 8 _ rfl
    have j9 := hbI.get 9 _ rfl
    have j10 := hbI.get 10 _ rfl
    have j11 := hbI.get 11 _ rfl
    have cM := bMayBe ⟨(x1 : Int), (x2 : Int), ⟨mk, mb, mn, mt⟩, ⟨xk, xb, xn, xt⟩, (x3 : Int), (B : Int)⟩ wX
    have hmm : mayB ⟨(x1 : Int), (x2 : Int), ⟨mk, mb, mn, mt⟩, ⟨xk, xb, xn, xt⟩, (x3 : Int), (B : Int)⟩ = (knownB (x1 : Int) && (decide (1 ≤ (x2 : Int)) && (decide ((x2 : Int) ≤ 64) && decide ((x3 : Int) ≤ (x2 : Int))))) := rfl
    obtain ⟨M, hM⟩ : ∃ M, Hid (mayB ⟨(x1 : Int), (x2 : Int), ⟨mk, mb, mn, mt⟩, ⟨xk, xb, xn, xt⟩, (x3 : Int), (B : Int)⟩ = M) := ⟨_, rfl⟩
    rw [hM.out] at cM hmm
    have hmm' := hid hmm
    unfold Inf.v Inf.cs at cM
    dsimp only at cM
    subst he
    clear hbI hmm hM
    go_wp2_with fail
    refine cM.mono ?_
    rintro e wY ⟨rfl, kY⟩
    have bRY := hid (H9.out.2.1.kept kY (by simp) (H9.out.2.1.lt (by simp)))
    have bIY := H9.out.1.kept kY (by simp) (H9.out.1.lt (by simp))
    have kkY := hid (H9.out.2.2.1.trans kY (by simp))
    have hbIY := hid bIY
    clear cM kY j0 j1 j2 j3 j4 j5 j6 j7 j8 j9 j10 j11
    cases M with
    | false =>
      have hnone : Hid (hdR bs = none) := hch.out.2 (fun ⟨_, c1, c2, c3, c4, _⟩ => by
        have h := hmm'.out
        have hk : knownB (x1 : Int) = true := by unfold knownB; simp; omega
        rw [hk, decide_eq_true (by omega), decide_eq_true (by omega), decide_eq_true (by omega)] at h
        cases h)
      clear bIY hbIY
      have p0 := bRY.out.get 0 _ rfl; have f0 := bRY.out.free 0
      have p1 := bRY.out.get 1 _ rfl; have f1 := bRY.out.free 1
      have p2 := bRY.out.get 2 _ rfl; have f2 := bRY.out.free 2
      have p3 := bRY.out.get 3 _ rfl; have f3 := bRY.out.free 3
      have p4 := bRY.out.get 4 _ rfl; have f4 := bRY.out.free 4
      have p5 := bRY.out.get 5 _ rfl; have f5 := bRY.out.free 5
      have p6 := bRY.out.get 6 _ rfl; have f6 := bRY.out.free 6
      have p7 := bRY.out.get 7 _ rfl; have f7 := bRY.out.free 7
      have p8 := bRY.out.get 8 _ rfl; have f8 := bRY.out.free 8
      have p9 := bRY.out.get 9 _ rfl; have f9 := bRY.out.free 9
      have p10 := bRY.out.get 10 _ rfl; have f10 := bRY.out.free 10
      have p11 := bRY.out.get 11 _ rfl; have f11 := bRY.out.free 11
      obtain ⟨W, hW, bW, kW⟩ : ∃ W, ((((((((((((wY.setCell ⟨q, 0, none⟩ (.int .i64 0)).setCell ⟨q, 1, none⟩ (.int .i64 0)).setCell ⟨q, 2, none⟩ (.int .i64 0)).setCell ⟨q, 3, none⟩ (.bool false)).setCell ⟨q, 4, none⟩ (.int .i64 0)).setCell ⟨q, 5, none⟩ (.string ⟨#[]⟩)).setCell ⟨q, 6, none⟩ (.int .i64 0)).setCell ⟨q, 7, none⟩ (.bool false)).setCell ⟨q, 8, none⟩ (.int .i64 0)).setCell ⟨q, 9, none⟩ (.string ⟨#[]⟩)).setCell ⟨q, 10, none⟩ (.int .i64 0)).setCell ⟨q, 11, none⟩ (.int .i64 0)) = W ∧ Bx W q [.int .i64 0, .int .i64 0, .int .i64 0, .bool false, .int .i64 0, .string ⟨#[]⟩, .int .i64 0, .bool false, .int .i64 0, .string ⟨#[]⟩, .int .i64 0, .int .i64 0] ∧ Kp [q] wY W := ⟨_, rfl, gen12q (R := fun W => Bx W q [.int .i64 0, .int .i64 0, .int .i64 0, .bool false, .int .i64 0, .string ⟨#[]⟩, .int .i64 0, .bool false, .int .i64 0, .string ⟨#[]⟩, .int .i64 0, .int .i64 0]) bRY.out rfl (.int .i64 0) (.int .i64 0) (.int .i64 0) (.bool false) (.int .i64 0) (.string ⟨#[]⟩) (.int .i64 0) (.bool false) (.int .i64 0) (.string ⟨#[]⟩) (.int .i64 0) (.int .i64 0) (fun W b _ => b), gen12q (R := fun W => Kp [q] wY W) bRY.out rfl (.int .i64 0) (.int .i64 0) (.int .i64 0) (.bool false) (.int .i64 0) (.string ⟨#[]⟩) (.int .i64 0) (.bool false) (.int .i64 0) (.string ⟨#[]⟩) (.int .i64 0) (.int .i64 0) (fun W _ k => k)⟩
      go_wp2_with fail
      have r0 := bW.get 0 _ rfl
      have r1 := bW.get 1 _ rfl
      have r2 := bW.get 2 _ rfl
      have r3 := bW.get 3 _ rfl
      have r4 := bW.get 4 _ rfl
      have r5 := bW.get 5 _ rfl
      have r6 := bW.get 6 _ rfl
      have r7 := bW.get 7 _ rfl
      have r8 := bW.get 8 _ rfl
      have r9 := bW.get 9 _ rfl
      have r10 := bW.get 10 _ rfl
      have r11 := bW.get 11 _ rfl
      refine bodyPost_ret (v := .tuple #[zeroI.v, .int .i64 0, .int .i64 70]) (by rw [zeroI_v]; simp [results, Tryz.results30, go_sem, r0, r1, r2, r3, r4, r5, r6, r7, r8, r9, r10, r11]) rfl ?_
      unfold HdP
      have e70 : hdP bs = (zeroI, 0, 70) := by unfold hdP; rw [hnone.out]
      rw [e70]
      exact ⟨rfl, (kkY.out).trans kW (fun x hx => .inr (by simp at hx; omega))⟩
    | true =>
      have hmt := hmm'.out.symm
      simp only [Bool.and_eq_true, decide_eq_true_eq] at hmt
      obtain ⟨m1, m2, m3, m4⟩ := hmt
      have m1' := known_bd m1
      have j11 := bIY.get 11 _ rfl
      by_cases hBn : B ≤ bs.length
      · have hsome : Hid (hdR bs = some (⟨(x1 : Int), (x2 : Int), ⟨mk, mb, mn, mt⟩, ⟨xk, xb, xn, xt⟩, (x3 : Int), (B : Int)⟩, size)) := hch.out.1 ⟨by simp, by omega, by omega, by omega, by omega, hBn⟩
        have d1 : decide ((B : Int) > (bs.length : Int)) = false := by simp; omega
        have d2 : ¬ (bs.length : Int) < (B : Int) := by omega
        have j0 := bIY.get 0 _ rfl
        have j1 := bIY.get 1 _ rfl
        have j2 := bIY.get 2 _ rfl
        have j3 := bIY.get 3 _ rfl
        have j4 := bIY.get 4 _ rfl
        have j5 := bIY.get 5 _ rfl
        have j6 := bIY.get 6 _ rfl
        have j7 := bIY.get 7 _ rfl
        have j8 := bIY.get 8 _ rfl
        have j9 := bIY.get 9 _ rfl
        have j10 := bIY.get 10 _ rfl
        have p0 := bRY.out.get 0 _ rfl; have f0 := bRY.out.free 0
        have p1 := bRY.out.get 1 _ rfl; have f1 := bRY.out.free 1
        have p2 := bRY.out.get 2 _ rfl; have f2 := bRY.out.free 2
        have p3 := bRY.out.get 3 _ rfl; have f3 := bRY.out.free 3
        have p4 := bRY.out.get 4 _ rfl; have f4 := bRY.out.free 4
        have p5 := bRY.out.get 5 _ rfl; have f5 := bRY.out.free 5
        have p6 := bRY.out.get 6 _ rfl; have f6 := bRY.out.free 6
        have p7 := bRY.out.get 7 _ rfl; have f7 := bRY.out.free 7
        have p8 := bRY.out.get 8 _ rfl; have f8 := bRY.out.free 8
        have p9 := bRY.out.get 9 _ rfl; have f9 := bRY.out.free 9
        have p10 := bRY.out.get 10 _ rfl; have f10 := bRY.out.free 10
        have p11 := bRY.out.get 11 _ rfl; have f11 := bRY.out.free 11
        clear bIY m1 m1' hmm' hch
        obtain ⟨W, hW, bW, kW⟩ : ∃ W, ((((((((((((wY.setCell ⟨q, 0, none⟩ (.int .i64 (x1 : Int))).setCell ⟨q, 1, none⟩ (.int .i64 (x2 : Int))).setCell ⟨q, 2, none⟩ (.int .i64 mk)).setCell ⟨q, 3, none⟩ (.bool mb)).setCell ⟨q, 4, none⟩ (.int .i64 mn)).setCell ⟨q, 5, none⟩ (.string mt)).setCell ⟨q, 6, none⟩ (.int .i64 xk)).setCell ⟨q, 7, none⟩ (.bool xb)).setCell ⟨q, 8, none⟩ (.int .i64 xn)).setCell ⟨q, 9, none⟩ (.string xt)).setCell ⟨q, 10, none⟩ (.int .i64 (x3 : Int))).setCell ⟨q, 11, none⟩ (.int .i64 (B : Int))) = W ∧ Bx W q [.int .i64 (x1 : Int), .int .i64 (x2 : Int), .int .i64 mk, .bool mb, .int .i64 mn, .string mt, .int .i64 xk, .bool xb, .int .i64 xn, .string xt, .int .i64 (x3 : Int), .int .i64 (B : Int)] ∧ Kp [q] wY W := ⟨_, rfl, gen12q (R := fun W => Bx W q [.int .i64 (x1 : Int), .int .i64 (x2 : Int), .int .i64 mk, .bool mb, .int .i64 mn, .string mt, .int .i64 xk, .bool xb, .int .i64 xn, .string xt, .int .i64 (x3 : Int), .int .i64 (B : Int)]) bRY.out rfl (.int .i64 (x1 : Int)) (.int .i64 (x2 : Int)) (.int .i64 mk) (.bool mb) (.int .i64 mn) (.string mt) (.int .i64 xk) (.bool xb) (.int .i64 xn) (.string xt) (.int .i64 (x3 : Int)) (.int .i64 (B : Int)) (fun W b _ => b), gen12q (R := fun W => Kp [q] wY W) bRY.out rfl (.int .i64 (x1 : Int)) (.int .i64 (x2 : Int)) (.int .i64 mk) (.bool mb) (.int .i64 mn) (.string mt) (.int .i64 xk) (.bool xb) (.int .i64 xn) (.string xt) (.int .i64 (x3 : Int)) (.int .i64 (B : Int)) (fun W _ k => k)⟩
        go_wp2_with fail
        have r0 := bW.get 0 _ rfl
        have r1 := bW.get 1 _ rfl
        have r2 := bW.get 2 _ rfl
        have r3 := bW.get 3 _ rfl
        have r4 := bW.get 4 _ rfl
        have r5 := bW.get 5 _ rfl
        have r6 := bW.get 6 _ rfl
        have r7 := bW.get 7 _ rfl
        have r8 := bW.get 8 _ rfl
        have r9 := bW.get 9 _ rfl
        have r10 := bW.get 10 _ rfl
        have r11 := bW.get 11 _ rfl
        refine bodyPost_ret (v := .tuple #[Inf.v ⟨(x1 : Int), (x2 : Int), ⟨mk, mb, mn, mt⟩, ⟨xk, xb, xn, xt⟩, (x3 : Int), (B : Int)⟩, .int .i64 (size : Int), .int .i64 0]) (by simp [results, Tryz.results30, go_sem, Inf.v, Inf.cs, r0, r1, r2, r3, r4, r5, r6, r7, r8, r9, r10, r11]) rfl ?_
        unfold HdP
        have e70 : hdP bs = (⟨(x1 : Int), (x2 : Int), ⟨mk, mb, mn, mt⟩, ⟨xk, xb, xn, xt⟩, (x3 : Int), (B : Int)⟩, size, 0) := by unfold hdP; rw [hsome.out]
        rw [e70]
        exact ⟨rfl, (kkY.out).trans kW (fun x hx => .inr (by simp at hx; omega))⟩
      · have hnone : Hid (hdR bs = none) := hch.out.2 (fun ⟨_, _, _, _, _, c5⟩ => hBn c5)
        have d1 : decide ((B : Int) > (bs.length : Int)) = true := by simp; omega
        have d2 : (bs.length : Int) < (B : Int) := by omega
        clear bIY m1 m1' hmm' hch
        have p0 := bRY.out.get 0 _ rfl; have f0 := bRY.out.free 0
        have p1 := bRY.out.get 1 _ rfl; have f1 := bRY.out.free 1
        have p2 := bRY.out.get 2 _ rfl; have f2 := bRY.out.free 2
        have p3 := bRY.out.get 3 _ rfl; have f3 := bRY.out.free 3
        have p4 := bRY.out.get 4 _ rfl; have f4 := bRY.out.free 4
        have p5 := bRY.out.get 5 _ rfl; have f5 := bRY.out.free 5
        have p6 := bRY.out.get 6 _ rfl; have f6 := bRY.out.free 6
        have p7 := bRY.out.get 7 _ rfl; have f7 := bRY.out.free 7
        have p8 := bRY.out.get 8 _ rfl; have f8 := bRY.out.free 8
        have p9 := bRY.out.get 9 _ rfl; have f9 := bRY.out.free 9
        have p10 := bRY.out.get 10 _ rfl; have f10 := bRY.out.free 10
        have p11 := bRY.out.get 11 _ rfl; have f11 := bRY.out.free 11
        obtain ⟨W, hW, bW, kW⟩ : ∃ W, ((((((((((((wY.setCell ⟨q, 0, none⟩ (.int .i64 0)).setCell ⟨q, 1, none⟩ (.int .i64 0)).setCell ⟨q, 2, none⟩ (.int .i64 0)).setCell ⟨q, 3, none⟩ (.bool false)).setCell ⟨q, 4, none⟩ (.int .i64 0)).setCell ⟨q, 5, none⟩ (.string ⟨#[]⟩)).setCell ⟨q, 6, none⟩ (.int .i64 0)).setCell ⟨q, 7, none⟩ (.bool false)).setCell ⟨q, 8, none⟩ (.int .i64 0)).setCell ⟨q, 9, none⟩ (.string ⟨#[]⟩)).setCell ⟨q, 10, none⟩ (.int .i64 0)).setCell ⟨q, 11, none⟩ (.int .i64 0)) = W ∧ Bx W q [.int .i64 0, .int .i64 0, .int .i64 0, .bool false, .int .i64 0, .string ⟨#[]⟩, .int .i64 0, .bool false, .int .i64 0, .string ⟨#[]⟩, .int .i64 0, .int .i64 0] ∧ Kp [q] wY W := ⟨_, rfl, gen12q (R := fun W => Bx W q [.int .i64 0, .int .i64 0, .int .i64 0, .bool false, .int .i64 0, .string ⟨#[]⟩, .int .i64 0, .bool false, .int .i64 0, .string ⟨#[]⟩, .int .i64 0, .int .i64 0]) bRY.out rfl (.int .i64 0) (.int .i64 0) (.int .i64 0) (.bool false) (.int .i64 0) (.string ⟨#[]⟩) (.int .i64 0) (.bool false) (.int .i64 0) (.string ⟨#[]⟩) (.int .i64 0) (.int .i64 0) (fun W b _ => b), gen12q (R := fun W => Kp [q] wY W) bRY.out rfl (.int .i64 0) (.int .i64 0) (.int .i64 0) (.bool false) (.int .i64 0) (.string ⟨#[]⟩) (.int .i64 0) (.bool false) (.int .i64 0) (.string ⟨#[]⟩) (.int .i64 0) (.int .i64 0) (fun W _ k => k)⟩
        go_wp2_with fail
        have r0 := bW.get 0 _ rfl
        have r1 := bW.get 1 _ rfl
        have r2 := bW.get 2 _ rfl
        have r3 := bW.get 3 _ rfl
        have r4 := bW.get 4 _ rfl
        have r5 := bW.get 5 _ rfl
        have r6 := bW.get 6 _ rfl
        have r7 := bW.get 7 _ rfl
        have r8 := bW.get 8 _ rfl
        have r9 := bW.get 9 _ rfl
        have r10 := bW.get 10 _ rfl
        have r11 := bW.get 11 _ rfl
        refine bodyPost_ret (v := .tuple #[zeroI.v, .int .i64 0, .int .i64 70]) (by rw [zeroI_v]; simp [results, Tryz.results30, go_sem, r0, r1, r2, r3, r4, r5, r6, r7, r8, r9, r10, r11]) rfl ?_
        unfold HdP
        have e70 : hdP bs = (zeroI, 0, 70) := by unfold hdP; rw [hnone.out]
        rw [e70]
        exact ⟨rfl, (kkY.out).trans kW (fun x hx => .inr (by simp at hx; omega))⟩
  · have hnone : Hid (hdR bs = none) := hch.out.2 (fun h => he h.1)
    have d0 : (e7 != 0) = true := by simpa using he
    have hbRW := hid H9.out.2.1
    have kkW := hid H9.out.2.2.1
    clear hch H9
    have p0 := hbRW.out.get 0 _ rfl; have f0 := hbRW.out.free 0
    have p1 := hbRW.out.get 1 _ rfl; have f1 := hbRW.out.free 1
    have p2 := hbRW.out.get 2 _ rfl; have f2 := hbRW.out.free 2
    have p3 := hbRW.out.get 3 _ rfl; have f3 := hbRW.out.free 3
    have p4 := hbRW.out.get 4 _ rfl; have f4 := hbRW.out.free 4
    have p5 := hbRW.out.get 5 _ rfl; have f5 := hbRW.out.free 5
    have p6 := hbRW.out.get 6 _ rfl; have f6 := hbRW.out.free 6
    have p7 := hbRW.out.get 7 _ rfl; have f7 := hbRW.out.free 7
    have p8 := hbRW.out.get 8 _ rfl; have f8 := hbRW.out.free 8
    have p9 := hbRW.out.get 9 _ rfl; have f9 := hbRW.out.free 9
    have p10 := hbRW.out.get 10 _ rfl; have f10 := hbRW.out.free 10
    have p11 := hbRW.out.get 11 _ rfl; have f11 := hbRW.out.free 11
    obtain ⟨W, hW, bW, kW⟩ : ∃ W, ((((((((((((wX.setCell ⟨q, 0, none⟩ (.int .i64 0)).setCell ⟨q, 1, none⟩ (.int .i64 0)).setCell ⟨q, 2, none⟩ (.int .i64 0)).setCell ⟨q, 3, none⟩ (.bool false)).setCell ⟨q, 4, none⟩ (.int .i64 0)).setCell ⟨q, 5, none⟩ (.string ⟨#[]⟩)).setCell ⟨q, 6, none⟩ (.int .i64 0)).setCell ⟨q, 7, none⟩ (.bool false)).setCell ⟨q, 8, none⟩ (.int .i64 0)).setCell ⟨q, 9, none⟩ (.string ⟨#[]⟩)).setCell ⟨q, 10, none⟩ (.int .i64 0)).setCell ⟨q, 11, none⟩ (.int .i64 0)) = W ∧ Bx W q [.int .i64 0, .int .i64 0, .int .i64 0, .bool false, .int .i64 0, .string ⟨#[]⟩, .int .i64 0, .bool false, .int .i64 0, .string ⟨#[]⟩, .int .i64 0, .int .i64 0] ∧ Kp [q] wX W := ⟨_, rfl, gen12q (R := fun W => Bx W q [.int .i64 0, .int .i64 0, .int .i64 0, .bool false, .int .i64 0, .string ⟨#[]⟩, .int .i64 0, .bool false, .int .i64 0, .string ⟨#[]⟩, .int .i64 0, .int .i64 0]) hbRW.out rfl (.int .i64 0) (.int .i64 0) (.int .i64 0) (.bool false) (.int .i64 0) (.string ⟨#[]⟩) (.int .i64 0) (.bool false) (.int .i64 0) (.string ⟨#[]⟩) (.int .i64 0) (.int .i64 0) (fun W b _ => b), gen12q (R := fun W => Kp [q] wX W) hbRW.out rfl (.int .i64 0) (.int .i64 0) (.int .i64 0) (.bool false) (.int .i64 0) (.string ⟨#[]⟩) (.int .i64 0) (.bool false) (.int .i64 0) (.string ⟨#[]⟩) (.int .i64 0) (.int .i64 0) (fun W _ k => k)⟩
    go_wp2_with fail
    have r0 := bW.get 0 _ rfl
    have r1 := bW.get 1 _ rfl
    have r2 := bW.get 2 _ rfl
    have r3 := bW.get 3 _ rfl
    have r4 := bW.get 4 _ rfl
    have r5 := bW.get 5 _ rfl
    have r6 := bW.get 6 _ rfl
    have r7 := bW.get 7 _ rfl
    have r8 := bW.get 8 _ rfl
    have r9 := bW.get 9 _ rfl
    have r10 := bW.get 10 _ rfl
    have r11 := bW.get 11 _ rfl
    refine bodyPost_ret (v := .tuple #[zeroI.v, .int .i64 0, .int .i64 70]) (by rw [zeroI_v]; simp [results, Tryz.results30, go_sem, r0, r1, r2, r3, r4, r5, r6, r7, r8, r9, r10, r11]) rfl ?_
    unfold HdP
    have e70 : hdP bs = (zeroI, 0, 70) := by unfold hdP; rw [hnone.out]
    rw [e70]
    exact ⟨rfl, (kkW.out).trans kW (fun x hx => .inr (by simp at hx; omega))⟩
end Go.Proofs.YtohbdbecioanaaaGreatDoor
end

section
namespace Go.Proofs.YtohbdbecioanaaaGreatDoor
open Go.RowKit Go.Hay
set_option linter.unusedVariables false
set_option linter.unusedSimpArgs false

/-- Are two heads the same? -/
def Inf.eqI (a b : Inf) : Bool := a.kind == b.kind && (a.many == b.many && (a.mn.eqv b.mn && (a.mx.eqv b.mx && (a.nulls == b.nulls && a.bytes == b.bytes))))
set_option maxHeartbeats 8000000 in
set_option maxRecDepth 100000 in
theorem eqI_run (a b : Inf) : ∃ X : Bool, Hid (X = a.eqI b) ∧ ∀ w : World, (binOp .eql 46 a.v b.v).run Tryz.prog w = .ok (.bool X) w := by
  refine ⟨_, rfl, fun w => ?_⟩
  unfold Inf.v Inf.cs
  rw [run_eql_struct, run_equalIn_agg (ht := by kernel_rfl) (hp := by kernel_rfl)]
  simp only [Inf.eqI, Val.eqv]
  by_cases h0 : a.kind = b.kind
  · by_cases h1 : a.many = b.many
    · by_cases h2 : a.mn.k = b.mn.k
      · by_cases h3 : a.mn.b = b.mn.b
        · by_cases h4 : a.mn.n = b.mn.n
          · by_cases h5 : a.mn.t.toList = b.mn.t.toList
            · by_cases h6 : a.mx.k = b.mx.k
              · by_cases h7 : a.mx.b = b.mx.b
                · by_cases h8 : a.mx.n = b.mx.n
                  · by_cases h9 : a.mx.t.toList = b.mx.t.toList
                    · by_cases h10 : a.nulls = b.nulls
                      · by_cases h11 : a.bytes = b.bytes
                        · simp [go_sem, h0, h1, h2, h3, h4, h5, h6, h7, h8, h9, h10, h11]
                        · simp [go_sem, h0, h1, h2, h3, h4, h5, h6, h7, h8, h9, h10, h11]
                      · simp [go_sem, h0, h1, h2, h3, h4, h5, h6, h7, h8, h9, h10]
                    · simp [go_sem, h0, h1, h2, h3, h4, h5, h6, h7, h8, h9]
                  · simp [go_sem, h0, h1, h2, h3, h4, h5, h6, h7, h8]
                · simp [go_sem, h0, h1, h2, h3, h4, h5, h6, h7]
              · simp [go_sem, h0, h1, h2, h3, h4, h5, h6]
            · simp [go_sem, h0, h1, h2, h3, h4, h5]
          · simp [go_sem, h0, h1, h2, h3, h4]
        · simp [go_sem, h0, h1, h2, h3]
      · simp [go_sem, h0, h1, h2]
    · simp [go_sem, h0, h1]
  · simp [go_sem, h0]
set_option maxHeartbeats 8000000 in
set_option maxRecDepth 100000 in
theorem eqR_run (a b : Inf) : ∃ X : Bool, Hid (X = a.eqI b) ∧ ∀ w : World, (binOp .eql 59 a.v b.v).run Tryz.prog w = .ok (.bool X) w := by
  refine ⟨_, rfl, fun w => ?_⟩
  unfold Inf.v Inf.cs
  rw [run_eql_struct, run_equalIn_agg (ht := by kernel_rfl) (hp := by kernel_rfl)]
  simp only [Inf.eqI, Val.eqv]
  by_cases h0 : a.kind = b.kind
  · by_cases h1 : a.many = b.many
    · by_cases h2 : a.mn.k = b.mn.k
      · by_cases h3 : a.mn.b = b.mn.b
        · by_cases h4 : a.mn.n = b.mn.n
          · by_cases h5 : a.mn.t.toList = b.mn.t.toList
            · by_cases h6 : a.mx.k = b.mx.k
              · by_cases h7 : a.mx.b = b.mx.b
                · by_cases h8 : a.mx.n = b.mx.n
                  · by_cases h9 : a.mx.t.toList = b.mx.t.toList
                    · by_cases h10 : a.nulls = b.nulls
                      · by_cases h11 : a.bytes = b.bytes
                        · simp [go_sem, h0, h1, h2, h3, h4, h5, h6, h7, h8, h9, h10, h11]
                        · simp [go_sem, h0, h1, h2, h3, h4, h5, h6, h7, h8, h9, h10, h11]
                      · simp [go_sem, h0, h1, h2, h3, h4, h5, h6, h7, h8, h9, h10]
                    · simp [go_sem, h0, h1, h2, h3, h4, h5, h6, h7, h8, h9]
                  · simp [go_sem, h0, h1, h2, h3, h4, h5, h6, h7, h8]
                · simp [go_sem, h0, h1, h2, h3, h4, h5, h6, h7]
              · simp [go_sem, h0, h1, h2, h3, h4, h5, h6]
            · simp [go_sem, h0, h1, h2, h3, h4, h5]
          · simp [go_sem, h0, h1, h2, h3, h4]
        · simp [go_sem, h0, h1, h2, h3]
      · simp [go_sem, h0, h1, h2]
    · simp [go_sem, h0, h1]
  · simp [go_sem, h0]
theorem eqI_tell (i : Inf) (l : List Val) : i.eqI ⟨i.kind, l.length, minV l, maxV l, nullsV l, i.bytes⟩ = tellB i l := by
  unfold Inf.eqI tellB
  simp [Bool.and_assoc]
set_option maxHeartbeats 16000000 in
set_option maxRecDepth 100000 in
theorem bTells (i : Inf) (a : Option Addr) (ca : Nat) (l : List Val) (w : World) (ha : Vals w a l) (h0 : 0 < l.length) (hl : l.length ≤ 1000000) :
    Calls Tryz.prog 34 #[i.v, .slice a l.length ca] w fun e w' => e = .returned (.bool (tellB i l)) ∧ Kp [] w w' := by
  obtain ⟨w1, hw1, kw1, bx⟩ : ∃ w1, w.alloc (.cells i.cs.toArray 46) = w1 ∧ Kp [] w w1 ∧ Bx w1 w.heap.size i.cs := ⟨_, rfl, (Kp.refl _ _).alloc _, Bx.new w _ _⟩
  have cH := cHeadOf i.kind a ca l w1 (ha.kept kw1) h0 hl
  have hI := hid (eqI_tell i l)
  obtain ⟨k, m, ⟨ak, ab, an, at'⟩, ⟨bk, bb, bn, bt⟩, nn, yy⟩ := i
  dsimp only at cH hI
  obtain ⟨⟨uk, ub, un, ut⟩, hU⟩ : ∃ u, Hid (minV l = u) := ⟨_, rfl⟩
  obtain ⟨⟨zk, zb, zn, zt⟩, hZ⟩ : ∃ u, Hid (maxV l = u) := ⟨_, rfl⟩
  obtain ⟨NU, hN⟩ : ∃ n : Nat, Hid (nullsV l = n) := ⟨_, rfl⟩
  rw [hU.out, hZ.out, hN.out] at cH hI
  obtain ⟨X, HX, hX⟩ := eqI_run ⟨k, m, ⟨ak, ab, an, at'⟩, ⟨bk, bb, bn, bt⟩, nn, yy⟩ ⟨k, l.length, ⟨uk, ub, un, ut⟩, ⟨zk, zb, zn, zt⟩, NU, yy⟩
  have hfin : Hid (X = tellB ⟨k, m, ⟨ak, ab, an, at'⟩, ⟨bk, bb, bn, bt⟩, nn, yy⟩ l) := HX.out.trans hI.out
  obtain ⟨TB, hTB⟩ : ∃ B, Hid (tellB ⟨k, m, ⟨ak, ab, an, at'⟩, ⟨bk, bb, bn, bt⟩, nn, yy⟩ l = B) := ⟨_, rfl⟩
  rw [hTB.out] at hfin ⊢
  unfold Inf.v Inf.cs at *
  dsimp only at *
  have c0 := bx.get 0 _ rfl
  obtain ⟨q, hq⟩ : ∃ q, Hid (w.heap.size = q) := ⟨_, rfl⟩
  have hqw : w.heap.size ≤ q := by rw [hq.out]; omega
  rw [hq.out] at bx
  rw [← hw1] at cH c0
  have hw1' := hid hw1
  have hbx := hid bx
  have hkw := hid kw1
  clear hw1 bx kw1 hU hZ hN hTB hI HX ha
  go_enter Tryz.func34, Tryz.ntmps34
  go_wp2_with fail
  refine cH.mono ?_
  rintro e w2 ⟨rfl, k2⟩
  rw [hw1'.out] at k2
  rw [hq.out]
  have b2 := hbx.out.kept k2 (by simp) (hbx.out.lt (by simp))
  have kk2 := hkw.out.trans k2 (by simp)
  obtain ⟨q2, hq2⟩ : ∃ q, Hid (w2.heap.size = q) := ⟨_, rfl⟩
  obtain ⟨w3, hw3, k3, b3⟩ : ∃ w3, w2.alloc (.cells #[.int .i64 0, .int .i64 0, .int .i64 0, .bool false, .int .i64 0, .string ⟨#[]⟩, .int .i64 0, .bool false, .int .i64 0, .string ⟨#[]⟩, .int .i64 0, .int .i64 0] 46) = w3 ∧ Kp [] w2 w3 ∧ Bx w3 w2.heap.size [.int .i64 0, .int .i64 0, .int .i64 0, .bool false, .int .i64 0, .string ⟨#[]⟩, .int .i64 0, .bool false, .int .i64 0, .string ⟨#[]⟩, .int .i64 0, .int .i64 0] := ⟨_, rfl, (Kp.refl _ _).alloc _, Bx.new w2 _ _⟩
  have hqq : q < w2.heap.size := b2.lt (by simp)
  have b23 := b2.kept k3 (by simp) hqq
  have hne : q ≠ q2 := by rw [← hq2.out]; omega
  have hq2w : w.heap.size ≤ q2 := by rw [← hq2.out]; exact kk2.size
  rw [hq2.out] at b3
  have p0 := b3.get 0 _ rfl; have f0 := b3.free 0
  have p1 := b3.get 1 _ rfl; have f1 := b3.free 1
  have p2 := b3.get 2 _ rfl; have f2 := b3.free 2
  have p3 := b3.get 3 _ rfl; have f3 := b3.free 3
  have p4 := b3.get 4 _ rfl; have f4 := b3.free 4
  have p5 := b3.get 5 _ rfl; have f5 := b3.free 5
  have p6 := b3.get 6 _ rfl; have f6 := b3.free 6
  have p7 := b3.get 7 _ rfl; have f7 := b3.free 7
  have p8 := b3.get 8 _ rfl; have f8 := b3.free 8
  have p9 := b3.get 9 _ rfl; have f9 := b3.free 9
  have p10 := b3.get 10 _ rfl; have f10 := b3.free 10
  have p11 := b3.get 11 _ rfl; have f11 := b3.free 11
  obtain ⟨W, hW, bW, kW⟩ : ∃ W, ((((((((((((w3.setCell ⟨q2, 0, none⟩ (.int .i64 k)).setCell ⟨q2, 1, none⟩ (.int .i64 (l.length : Int))).setCell ⟨q2, 2, none⟩ (.int .i64 uk)).setCell ⟨q2, 3, none⟩ (.bool ub)).setCell ⟨q2, 4, none⟩ (.int .i64 un)).setCell ⟨q2, 5, none⟩ (.string ut)).setCell ⟨q2, 6, none⟩ (.int .i64 zk)).setCell ⟨q2, 7, none⟩ (.bool zb)).setCell ⟨q2, 8, none⟩ (.int .i64 zn)).setCell ⟨q2, 9, none⟩ (.string zt)).setCell ⟨q2, 10, none⟩ (.int .i64 (NU : Int))).setCell ⟨q2, 11, none⟩ (.int .i64 0)) = W ∧ Bx W q2 [.int .i64 k, .int .i64 (l.length : Int), .int .i64 uk, .bool ub, .int .i64 un, .string ut, .int .i64 zk, .bool zb, .int .i64 zn, .string zt, .int .i64 (NU : Int), .int .i64 0] ∧ Kp [q2] w3 W := ⟨_, rfl, gen12q (R := fun W => Bx W q2 [.int .i64 k, .int .i64 (l.length : Int), .int .i64 uk, .bool ub, .int .i64 un, .string ut, .int .i64 zk, .bool zb, .int .i64 zn, .string zt, .int .i64 (NU : Int), .int .i64 0]) b3 rfl (.int .i64 k) (.int .i64 (l.length : Int)) (.int .i64 uk) (.bool ub) (.int .i64 un) (.string ut) (.int .i64 zk) (.bool zb) (.int .i64 zn) (.string zt) (.int .i64 (NU : Int)) (.int .i64 0) (fun W b _ => b), gen12q (R := fun W => Kp [q2] w3 W) b3 rfl (.int .i64 k) (.int .i64 (l.length : Int)) (.int .i64 uk) (.bool ub) (.int .i64 un) (.string ut) (.int .i64 zk) (.bool zb) (.int .i64 zn) (.string zt) (.int .i64 (NU : Int)) (.int .i64 0) (fun W _ k => k)⟩
  have bq := b23.kept kW (by simpa using hne) (b23.lt (by simp))
  have y11 := bq.get 11 _ rfl
  have z11 := bW.get 11 _ rfl
  have z11f := bW.free 11
  have kk3 := (kk2.trans k3 (by simp)).trans kW (fun x hx => .inr (by simp at hx; omega))
  obtain ⟨V, hV, bV, kV⟩ : ∃ V, W.setCell ⟨q2, 11, none⟩ (.int .i64 yy) = V ∧ Bx V q2 [.int .i64 k, .int .i64 (l.length : Int), .int .i64 uk, .bool ub, .int .i64 un, .string ut, .int .i64 zk, .bool zb, .int .i64 zn, .string zt, .int .i64 (NU : Int), .int .i64 yy] ∧ Kp [q2] W V := ⟨_, rfl, genS (R := fun V => Bx V q2 [.int .i64 k, .int .i64 (l.length : Int), .int .i64 uk, .bool ub, .int .i64 un, .string ut, .int .i64 zk, .bool zb, .int .i64 zn, .string zt, .int .i64 (NU : Int), .int .i64 yy]) bW 11 (by simp) (.int .i64 yy) (fun W b _ => b), genS (R := fun V => Kp [q2] W V) bW 11 (by simp) (.int .i64 yy) (fun W _ k => k)⟩
  have bqV := bq.kept kV (by simpa using hne) (bq.lt (by simp))
  have kkV := hid (kk3.trans kV (fun x hx => .inr (by simp at hx; omega)))
  have s0 := bqV.get 0 _ rfl; have t0 := bV.get 0 _ rfl
  have s1 := bqV.get 1 _ rfl; have t1 := bV.get 1 _ rfl
  have s2 := bqV.get 2 _ rfl; have t2 := bV.get 2 _ rfl
  have s3 := bqV.get 3 _ rfl; have t3 := bV.get 3 _ rfl
  have s4 := bqV.get 4 _ rfl; have t4 := bV.get 4 _ rfl
  have s5 := bqV.get 5 _ rfl; have t5 := bV.get 5 _ rfl
  have s6 := bqV.get 6 _ rfl; have t6 := bV.get 6 _ rfl
  have s7 := bqV.get 7 _ rfl; have t7 := bV.get 7 _ rfl
  have s8 := bqV.get 8 _ rfl; have t8 := bV.get 8 _ rfl
  have s9 := bqV.get 9 _ rfl; have t9 := bV.get 9 _ rfl
  have s10 := bqV.get 10 _ rfl; have t10 := bV.get 10 _ rfl
  have s11 := bqV.get 11 _ rfl; have t11 := bV.get 11 _ rfl
  have hq2' := hq2.out
  clear cH k2 b2 kk2 k3 b3 b23 bW kW bq bV kV bqV kk3 hbx hkw hw1' c0 hqw hqq
  go_wp2_with fail
  go_ret
  exact ⟨by rw [hfin.out]; rfl, kkV.out⟩
end Go.Proofs.YtohbdbecioanaaaGreatDoor
end

section
namespace Go.Proofs.YtohbdbecioanaaaGreatDoor
open Go.RowKit Go.Hay
set_option linter.unusedVariables false
set_option linter.unusedSimpArgs false

set_option maxHeartbeats 8000000 in
set_option maxRecDepth 100000 in
theorem cRefRefusedE (k : Int) (a : Option Addr) (ca : Nat) (l : List Val) (w : World) (ha : Vals w a l) (hl : l.length ≤ 9223372036854775807) :
    Calls Tryz.prog 76 #[.int .i64 k, .slice a l.length ca] w fun e w' => e = .returned (.int .i64 (refE k l)) ∧ Kp [] w w' := by
  obtain ⟨F, hF⟩ : ∃ F, Hid (refE k l = F) := ⟨_, rfl⟩
  rw [hF.out]
  have ha' := hid ha
  clear ha
  by_cases h0 : k < 0
  · have hF2 : Hid (F = 62) := by show _ = _; rw [← hF.out]; unfold refE knownB; rw [if_pos (by simp; omega)]
    go_enter Tryz.func76, Tryz.ntmps76
    go_wp2_with fail
    go_ret
    exact ⟨by rw [hF2.out]; rfl, Kp.refl _ _⟩
  by_cases h4 : 4 < k
  · have hF2 : Hid (F = 62) := by show _ = _; rw [← hF.out]; unfold refE knownB; rw [if_pos (by simp; omega)]
    go_enter Tryz.func76, Tryz.ntmps76
    go_wp2_with fail
    go_ret
    exact ⟨by rw [hF2.out]; rfl, Kp.refl _ _⟩
  have hkn : Hid (knownB k = true) := by show _ = _; unfold knownB; simp; omega
  by_cases h64 : 64 < l.length
  · have hF2 : Hid (F = 61) := by show _ = _; rw [← hF.out]; unfold refE; rw [hkn.out, if_neg (by simp), if_pos h64]
    have d1 : (64 : Int) < (l.length : Int) := by omega
    go_enter Tryz.func76, Tryz.ntmps76
    go_wp2_with fail
    go_ret
    exact ⟨by rw [hF2.out]; rfl, Kp.refl _ _⟩
  have d1 : ¬ (64 : Int) < (l.length : Int) := by omega
  go_enter Tryz.func76, Tryz.ntmps76
  go_wp2_with fail
  go_loopw [5] (fun i wn => ∃ j : Nat, j ≤ l.length ∧ i = .int .i64 j ∧ Hid ((l.take j).all Val.right = true) ∧ Kp [] w wn) (fun i _ => l.length - (intOf i).toNat)
  case atStart => exact ⟨0, Nat.zero_le _, rfl, by show _ = _; simp, Kp.refl _ _⟩
  case round =>
    obtain ⟨j, hj, rfl, hall, kn⟩ := hrel
    by_cases hlt : j < l.length
    · obtain ⟨g, o, rfl, a0, a1, a2, a3⟩ := (ha'.out.kept kn).at j hlt
      obtain ⟨x, hx⟩ : ∃ x, Hid (l[j]'hlt = x) := ⟨_, rfl⟩
      rw [hx.out] at a0 a1 a2 a3
      have cR := cRefRight x wr
      by_cases hr : x.right = true
      · have hall2 : Hid ((l.take (j + 1)).all Val.right = true) := all_take hall.out hlt (by rw [hx.out]; exact hr)
        rw [hr] at cR
        unfold Val.v at cR
        obtain ⟨xk, xb, xn, xt⟩ := x
        dsimp only at *
        clear hall hr
        go_wp2_with fail
        refine cR.mono ?_
        rintro e w1 ⟨rfl, k1⟩
        go_wp2_with fail
        exact ⟨⟨j + 1, by omega, by go_num, hall2, kn.trans k1 (by simp)⟩, by simp [intOf]; omega⟩
      · have hr' : x.right = false := by simpa using hr
        have hF2 : Hid (F = 60) := by
          show _ = _
          have e1 : allR l = false := all_false hlt (by rw [hx.out]; exact hr')
          rw [← hF.out]
          unfold refE
          rw [hkn.out, e1, if_neg (by simp), if_neg h64, if_pos rfl]
        rw [hr'] at cR
        unfold Val.v at cR
        obtain ⟨xk, xb, xn, xt⟩ := x
        dsimp only at *
        clear hall hr hr'
        go_wp2_with fail
        refine cR.mono ?_
        rintro e w1 ⟨rfl, k1⟩
        go_wp2_with fail
        go_ret
        exact ⟨by rw [hF2.out]; rfl, kn.trans k1 (by simp)⟩
    · obtain rfl : j = l.length := by omega
      rw [List.take_length] at hall
      have harr : Hid (allR l = true) := hall
      clear hall
      by_cases h2k : k = 2
      · subst h2k
        go_wp2_with fail
        go_loopw [7] (fun i wn => ∃ j : Nat, j ≤ l.length ∧ i = .int .i64 j ∧ Hid ((l.take j).all (fun x => x.k == 2) = true) ∧ Kp [] w wn) (fun i _ => l.length - (intOf i).toNat)
        case atStart => exact ⟨0, Nat.zero_le _, rfl, by show _ = _; simp, kn⟩
        case round =>
          clear kn
          obtain ⟨j, hj, rfl, hall, kn⟩ := hrel
          by_cases hlt : j < l.length
          · obtain ⟨g, o, rfl, a0, _⟩ := (ha'.out.kept kn).at j hlt
            obtain ⟨x, hx⟩ : ∃ x, Hid (l[j]'hlt = x) := ⟨_, rfl⟩
            rw [hx.out] at a0
            by_cases hk2 : x.k = 2
            · have hall2 : Hid ((l.take (j + 1)).all (fun x => x.k == 2) = true) := all_take hall.out hlt (by rw [hx.out]; simp [hk2])
              rw [hk2] at a0
              clear hall
              go_wp2_with fail
              exact ⟨⟨j + 1, by omega, by go_num, hall2, kn⟩, by simp [intOf]; omega⟩
            · have hF2 : Hid (F = 62) := by
                show _ = _
                have e1 : allI l = false := all_false hlt (by rw [hx.out]; simp [hk2])
                rw [← hF.out]
                unfold refE
                rw [hkn.out, harr.out, e1, if_neg (by simp), if_neg h64, if_neg (by simp)]
                rfl
              obtain ⟨y, hy⟩ : ∃ y, Hid (x.k = y) := ⟨_, rfl⟩
              rw [hy.out] at a0 hk2
              have d1 : (y != 2) = true := by simpa using hk2
              have d2 : (y == 2) = false := by simpa using hk2
              clear hall
              go_wp2_with fail
              go_ret
              exact ⟨by rw [hF2.out]; rfl, kn⟩
          · obtain rfl : j = l.length := by omega
            rw [List.take_length] at hall
            have hF2 : Hid (F = 0) := by
              show _ = _
              have e1 : allI l = true := hall.out
              rw [← hF.out]
              unfold refE
              rw [hkn.out, harr.out, e1, if_neg (by simp), if_neg h64, if_neg (by simp)]
              rfl
            go_wp2_with fail
            go_ret
            exact ⟨by rw [hF2.out]; rfl, kn⟩
      · by_cases h4k : k = 4
        · subst h4k
          go_wp2_with fail
          go_loopw [7] (fun i wn => ∃ j : Nat, j ≤ l.length ∧ i = .int .i64 j ∧ Hid ((l.take j).all (fun x => x.k == 2) = true) ∧ Kp [] w wn) (fun i _ => l.length - (intOf i).toNat)
          case atStart => exact ⟨0, Nat.zero_le _, rfl, by show _ = _; simp, kn⟩
          case round =>
            clear kn
            obtain ⟨j, hj, rfl, hall, kn⟩ := hrel
            by_cases hlt : j < l.length
            · obtain ⟨g, o, rfl, a0, _⟩ := (ha'.out.kept kn).at j hlt
              obtain ⟨x, hx⟩ : ∃ x, Hid (l[j]'hlt = x) := ⟨_, rfl⟩
              rw [hx.out] at a0
              by_cases hk2 : x.k = 2
              · have hall2 : Hid ((l.take (j + 1)).all (fun x => x.k == 2) = true) := all_take hall.out hlt (by rw [hx.out]; simp [hk2])
                rw [hk2] at a0
                clear hall
                go_wp2_with fail
                exact ⟨⟨j + 1, by omega, by go_num, hall2, kn⟩, by simp [intOf]; omega⟩
              · have hF2 : Hid (F = 62) := by
                  show _ = _
                  have e1 : allI l = false := all_false hlt (by rw [hx.out]; simp [hk2])
                  rw [← hF.out]
                  unfold refE
                  rw [hkn.out, harr.out, e1, if_neg (by simp), if_neg h64, if_neg (by simp)]
                  rfl
                obtain ⟨y, hy⟩ : ∃ y, Hid (x.k = y) := ⟨_, rfl⟩
                rw [hy.out] at a0 hk2
                have d1 : (y != 2) = true := by simpa using hk2
                have d2 : (y == 2) = false := by simpa using hk2
                clear hall
                go_wp2_with fail
                go_ret
                exact ⟨by rw [hF2.out]; rfl, kn⟩
            · obtain rfl : j = l.length := by omega
              rw [List.take_length] at hall
              have hF2 : Hid (F = 0) := by
                show _ = _
                have e1 : allI l = true := hall.out
                rw [← hF.out]
                unfold refE
                rw [hkn.out, harr.out, e1, if_neg (by simp), if_neg h64, if_neg (by simp)]
                rfl
              go_wp2_with fail
              go_ret
              exact ⟨by rw [hF2.out]; rfl, kn⟩
        · have d2k : (k == 2) = false := by rw [beq_eq_false_iff_ne]; exact h2k
          have d4k : (k == 4) = false := by rw [beq_eq_false_iff_ne]; exact h4k
          go_wp2_with fail
          go_loopw [7] (fun i wn => ∃ j : Nat, j ≤ l.length ∧ i = .int .i64 j ∧ Kp [] w wn) (fun i _ => l.length - (intOf i).toNat)
          case atStart => exact ⟨0, Nat.zero_le _, rfl, kn⟩
          case round =>
            clear kn
            obtain ⟨j, hj, rfl, kn⟩ := hrel
            by_cases hlt : j < l.length
            · go_wp2_with fail
              exact ⟨⟨j + 1, by omega, by go_num, kn⟩, by simp [intOf]; omega⟩
            · obtain rfl : j = l.length := by omega
              have hF2 : Hid (F = 0) := by
                show _ = _
                have e1 : ofI k = false := by unfold ofI; rw [d2k, d4k]; rfl
                rw [← hF.out]
                unfold refE
                rw [hkn.out, harr.out, e1, if_neg (by simp), if_neg h64, if_neg (by simp)]
                rfl
              go_wp2_with fail
              go_ret
              exact ⟨by rw [hF2.out]; rfl, kn⟩
theorem bitLenAux_more : ∀ (f x : Nat), x < 2 ^ f → Lib.bitLenAux (f + 1) x = Lib.bitLenAux f x
  | 0, x, h => by obtain rfl : x = 0 := by simpa using h
                  rfl
  | f + 1, x, h => by
    show (if x = 0 then 0 else 1 + Lib.bitLenAux (f + 1) (x / 2)) = (if x = 0 then 0 else 1 + Lib.bitLenAux f (x / 2))
    split
    · rfl
    · rw [bitLenAux_more f (x / 2) (by rw [Nat.pow_succ] at h; omega)]
theorem bitLen_half (x : Nat) (h : x < 18446744073709551616) (h0 : 0 < x) : Lib.bitLen x = Lib.bitLen (x / 2) + 1 := by
  show Lib.bitLenAux 64 x = Lib.bitLenAux 64 (x / 2) + 1
  rw [Lib.bitLenAux, if_neg (by omega), bitLenAux_more 63 (x / 2) (by omega), Nat.add_comm]
theorem cRefWidth (n : Nat) (w : World) (h : n < 18446744073709551616) : Calls Tryz.prog 74 #[.int .u64 (n : Int)] w fun e w' => e = .returned (.int .i64 (Lib.bitLen n)) ∧ w' = w := by
  obtain ⟨F, hF⟩ : ∃ F, Hid (Lib.bitLen n = F) := ⟨_, rfl⟩
  rw [hF.out]
  have hb := bitLen_le64 n
  rw [hF.out] at hb
  go_enter Tryz.func74, Tryz.ntmps74
  go_wp2_with fail
  go_loopw [0, 3] (fun v0 v3 wn => ∃ m j : Nat, v0 = .int .u64 (m : Int) ∧ v3 = .int .i64 (j : Int) ∧ m < 18446744073709551616 ∧ Hid (j + Lib.bitLen m = F) ∧ wn = w) (fun v0 _ _ => (intOf v0).toNat)
  case atStart => exact ⟨n, 0, rfl, rfl, h, by show _ = _; rw [Nat.zero_add]; exact hF.out, rfl⟩
  case round =>
    obtain ⟨m, j, rfl, rfl, hm, hj, rfl⟩ := hrel
    by_cases h0 : 0 < m
    · have hj2 : Hid (j + 1 + Lib.bitLen (m / 2) = F) := by show _ = _; rw [← hj.out, bitLen_half m hm h0]; omega
      have hjb : j ≤ 64 := by have := hj.out; omega
      have d1 : (0 : Int) < (m : Int) := by omega
      go_wp2_with fail
      exact ⟨⟨m / 2, j + 1, by go_num, by go_num, by omega, hj2, trivial⟩, by simp [intOf]; omega⟩
    · obtain rfl : m = 0 := by omega
      have hjF : Hid (F = j) := by show _ = _; rw [← hj.out]; rfl
      go_wp2_with fail
      go_ret
      exact ⟨by rw [hjF.out]; rfl, rfl⟩
end Go.Proofs.YtohbdbecioanaaaGreatDoor
end

/- The reference's call Append: its walk. The reference's calls Do and Flip on a disk without files. Rows of structs, for any element: how a slice of them lies in memory, how it grows, how it is copied onto itself. No statement of the seat is proved here. Plain mathematics of the bytes: numbers in so many bytes, the highest first; the form of a Var. No Go text. More plain mathematics: a number and its bytes, back and forth; what a Var read comes to. -/
import Derived.Test.YtgllkonbgigcbaaB5
import Derived.Test.YtgllkonbgigcbaaB1
import Derived.Laws.IdiomCopy
import Derived.Deep.RegionLaw
import Derived.Below
section
namespace Go.Proofs.Ytgllkonbgigcbaa
open Go.RowKit Go.Hay
set_option linter.unusedVariables false
set_option linter.unusedSimpArgs false

set_option maxHeartbeats 16000000 in
set_option maxRecDepth 100000 in
theorem cRefAppendD (room steps : Int) (fa : Option Addr) (fc : Nat) (l : List RF) (armed : Bool) (left : Int) (d : Dk) (w : World) (hr : RdOk w (⟨room, steps, fa, fc, l, armed, true, left⟩ : RD)) (hL : Like (⟨room, steps, fa, fc, l, armed, true, left⟩ : RD) d) (ho : Okd d) (hl : l.length ≤ 1000000000) (hst : d.steps < 9000000000000000000) (name : List UInt8) (hk : name.length ≤ maxLen) (ab : Option Addr) (cb : Nat) (b : List UInt8) (hb : Sees w ab b)
    (hlen : (fileOf d.files name).bytes.length + b.length ≤ 140737488355328) :
    Calls Try.prog 31 #[.agg #[.int .i64 room, .int .i64 steps, .slice fa l.length fc, .bool armed, .bool true, .int .i64 left], .string ⟨name.toArray⟩, .slice ab b.length cb] w (RefE ((⟨room, steps, fa, fc, l, armed, true, left⟩ : RD)).foot (appendD d name b) w) := by
  obtain ⟨w1, hw1, k1, bx, br, hsz⟩ := boxRR (⟨room, steps, fa, fc, l, armed, true, left⟩ : RD) w
  simp only at hw1 bx
  have hde : d.dead = true := hL.dead.symm
  have hsame : ∀ W, Kp [] w W → ∀ {n : Int}, appendD d name b = (d, n) → RefE ((⟨room, steps, fa, fc, l, armed, true, left⟩ : RD)).foot (appendD d name b) w (.returned (.tuple #[.agg #[.int .i64 room, .int .i64 steps, .slice fa l.length fc, .bool armed, .bool true, .int .i64 left], .int .i64 n])) W := fun W hkW n e => RefE.same hr hL hkW e
  have b0 := bx.c0; have b1 := bx.c1; have b2 := bx.c2; have b3 := bx.c3; have b4 := bx.c4; have b5 := bx.c5
  have r0 := br.c0; have r1 := br.c1; have r2 := br.c2; have r3 := br.c3; have r4 := br.c4; have r5 := br.c5
  have g0 := br.free 0; have g1 := br.free 1; have g2 := br.free 2; have g3 := br.free 3; have g4 := br.free 4; have g5 := br.free 5
  have e44 : appendD d name b = (d, 44) := by simp [appendD, hde]
  have hs2 := fun W hW => hsame W hW e44
  clear hde e44 hsame
  go_enter Try.func31, Try.ntmps31
  go_wp2_with fail
  obtain ⟨W', hW', hb6, kW'⟩ := set6_ex br (.int .i64 room) (.int .i64 steps) (.slice fa l.length fc) (.bool armed) (.bool true) (.int .i64 left)
  rw [hW']
  obtain ⟨z0, z1, z2, z3, z4, z5, _⟩ := hb6
  refine bodyPost_ret (v := .tuple #[.agg #[.int .i64 room, .int .i64 steps, .slice fa l.length fc, .bool armed, .bool true, .int .i64 left], .int .i64 44]) (by simp [results, Try.results31, go_sem, z0, z1, z2, z3, z4, z5]) rfl ?_
  exact hs2 _ (k1.trans kW' (fun x hx => .inr (by simp at hx; omega)))

set_option maxHeartbeats 16000000 in
set_option maxRecDepth 100000 in
theorem cRefAppendL (room steps : Int) (fa : Option Addr) (fc : Nat) (l : List RF) (armed : Bool) (left : Int) (d : Dk) (w : World) (hr : RdOk w (⟨room, steps, fa, fc, l, armed, false, left⟩ : RD)) (hL : Like (⟨room, steps, fa, fc, l, armed, false, left⟩ : RD) d) (ho : Okd d) (hl : l.length ≤ 1000000000) (hst : d.steps < 9000000000000000000) (name : List UInt8) (hk : name.length ≤ maxLen) (ab : Option Addr) (cb : Nat) (b : List UInt8) (hb : Sees w ab b)
    (hlen : (fileOf d.files name).bytes.length + b.length ≤ 140737488355328) :
    Calls Try.prog 31 #[.agg #[.int .i64 room, .int .i64 steps, .slice fa l.length fc, .bool armed, .bool false, .int .i64 left], .string ⟨name.toArray⟩, .slice ab b.length cb] w (RefE ((⟨room, steps, fa, fc, l, armed, false, left⟩ : RD)).foot (appendD d name b) w) := by
  obtain ⟨w1, hw1, k1, bx, br, hsz⟩ := boxRR (⟨room, steps, fa, fc, l, armed, false, left⟩ : RD) w
  simp only at hw1 bx
  have hde : d.dead = false := hL.dead.symm
  have hsame : ∀ W, Kp [] w W → ∀ {n : Int}, appendD d name b = (d, n) → RefE ((⟨room, steps, fa, fc, l, armed, false, left⟩ : RD)).foot (appendD d name b) w (.returned (.tuple #[.agg #[.int .i64 room, .int .i64 steps, .slice fa l.length fc, .bool armed, .bool false, .int .i64 left], .int .i64 n])) W := fun W hkW n e => RefE.same hr hL hkW e
  have b0 := bx.c0; have b1 := bx.c1; have b2 := bx.c2; have b3 := bx.c3; have b4 := bx.c4; have b5 := bx.c5
  have r0 := br.c0; have r1 := br.c1; have r2 := br.c2; have r3 := br.c3; have r4 := br.c4; have r5 := br.c5
  have g0 := br.free 0; have g1 := br.free 1; have g2 := br.free 2; have g3 := br.free 3; have g4 := br.free 4; have g5 := br.free 5
  have hr1 := hr.keptNew k1
  have hri := hL.rise ho
  have hlk := hL.look name
  have hroom := hL.room
  have hstep := hL.steps
  have hls := lens_sum hL
  have hor := ho.room
  have hos := ho.sum
  simp only at hri hlk hroom hstep hls
  have hnm : ∀ w, Calls Try.prog 50 #[.string ⟨name.toArray⟩] w fun e w' => e = .returned (.bool (nameOk name)) ∧ w' = w := fun w => cRefName ⟨name.toArray⟩ w (by simpa [ByteArray.size] using hk)
  have hfree := cRefFree (⟨room, steps, fa, fc, l, armed, false, left⟩ : RD) w1 hr1 (by simp only; omega) (by simp only; omega) (by simp only; omega) (by simp only; omega)
  have hfe : room - (lens l : Int) = freeD d := by rw [hroom, hls]; rfl
  simp only [RD.v] at hfree
  rw [hfe] at hfree
  have hWith : ∀ (f : RF) (W : World), RdOk W (⟨room, steps, fa, fc, l, armed, false, left⟩ : RD) → Calls Try.prog 52 #[.agg #[.int .i64 room, .int .i64 steps, .slice fa l.length fc, .bool armed, .bool false, .int .i64 left], f.v] W (WithP (⟨room, steps, fa, fc, l, armed, false, left⟩ : RD) (putG RF.name f false l) W) := fun f W h => cWith (⟨room, steps, fa, fc, l, armed, false, left⟩ : RD) f W h hl
  have hAt : ∀ W, RdOk W (⟨room, steps, fa, fc, l, armed, false, left⟩ : RD) → Calls Try.prog 44 #[.agg #[.int .i64 room, .int .i64 steps, .slice fa l.length fc, .bool armed, .bool false, .int .i64 left], .string ⟨name.toArray⟩] W (AtP l name W) := fun W h => cAt (⟨room, steps, fa, fc, l, armed, false, left⟩ : RD) name W h (by simp only; omega)
  have Hde := hid hde
  have Hroom := hid hroom
  have Hstep := hid hstep
  have Hlk := hid hlk
  clear hroom hfe hls hlk
  go_enter Try.func31, Try.ntmps31
  cases hn : nameOk name with
  | false =>
    have e40 : appendD d name b = (d, 40) := by simp [appendD, hde, hn]
    have hs2 := fun W hW => hsame W hW e40
    rw [hn] at hnm
    clear hde e40 hsame hn hstep
    go_wp2_with fail
    refine (hnm _).mono ?_
    rintro e w2 ⟨rfl, rfl⟩
    go_wp2_with fail
    obtain ⟨W', hW', hb6, kW'⟩ := set6_ex br (.int .i64 room) (.int .i64 steps) (.slice fa l.length fc) (.bool armed) (.bool false) (.int .i64 left)
    rw [hW']
    obtain ⟨z0, z1, z2, z3, z4, z5, _⟩ := hb6
    refine bodyPost_ret (v := .tuple #[.agg #[.int .i64 room, .int .i64 steps, .slice fa l.length fc, .bool armed, .bool false, .int .i64 left], .int .i64 40]) (by simp [results, Try.results31, go_sem, z0, z1, z2, z3, z4, z5]) rfl ?_
    exact hs2 _ (k1.trans kW' (fun x hx => .inr (by simp at hx; omega)))
  | true =>
    rw [hn] at hnm
    by_cases hfull : freeD d < (b.length : Int)
    · have e41 : appendD d name b = (d, 41) := by simp [appendD, hde, hn, hfull]
      have hs2 := fun W hW => hsame W hW e41
      clear hde e41 hsame hn hstep
      go_wp2_with fail
      refine (hnm _).mono ?_
      rintro e w2 ⟨rfl, rfl⟩
      go_wp2_with fail
      refine hfree.mono ?_
      rintro e w3 ⟨rfl, k3⟩
      have bb := bx.kept k3
      have rr := br.kept k3
      have q0 := bb.c0; have q1 := bb.c1; have q2 := bb.c2; have q3 := bb.c3; have q4 := bb.c4; have q5 := bb.c5
      have s0 := rr.c0; have s1 := rr.c1; have s2 := rr.c2; have s3 := rr.c3; have s4 := rr.c4; have s5 := rr.c5
      have t0 := rr.free 0; have t1 := rr.free 1; have t2 := rr.free 2; have t3 := rr.free 3; have t4 := rr.free 4; have t5 := rr.free 5
      go_wp2_with fail
      obtain ⟨W', hW', hb6, kW'⟩ := set6_ex rr (.int .i64 room) (.int .i64 steps) (.slice fa l.length fc) (.bool armed) (.bool false) (.int .i64 left)
      rw [hW']
      obtain ⟨z0, z1, z2, z3, z4, z5, _⟩ := hb6
      refine bodyPost_ret (v := .tuple #[.agg #[.int .i64 room, .int .i64 steps, .slice fa l.length fc, .bool armed, .bool false, .int .i64 left], .int .i64 41]) (by simp [results, Try.results31, go_sem, z0, z1, z2, z3, z4, z5]) rfl ?_
      exact hs2 _ ((k1.trans k3 (by simp)).trans kW' (fun x hx => .inr (by simp at hx; omega)))
    · have hap := append_done (b := b) hde hn (by omega)
      have Hap := hid hap
      clear hde hap hsame hn hstep
      go_wp2_with fail
      refine (hnm _).mono ?_
      rintro e w2 ⟨rfl, rfl⟩
      go_wp2_with fail
      refine hfree.mono ?_
      rintro e w3 ⟨rfl, k3⟩
      obtain ⟨w4, hw4⟩ : ∃ w4, Hid (w3.alloc (.cells #[.string ⟨name.toArray⟩, .slice none 0 0, .int .i64 0] 45) = w4) := ⟨_, rfl⟩
      have k4 : Kp [] w3 w4 := by rw [← hw4.out]; exact (Kp.refl _ _).alloc _
      have bf : B3 w4 w3.heap.size (.string ⟨name.toArray⟩) (.slice none 0 0) (.int .i64 0) := by rw [← hw4.out]; exact B3.at _ rfl _ _ _ _
      have k14 : Kp [] w2 w4 := k3.trans k4 (by simp)
      have bb := bx.kept k3
      have q0 := bb.c0; have q1 := bb.c1; have q2 := bb.c2; have q3 := bb.c3; have q4 := bb.c4; have q5 := bb.c5
      have aAt := hAt w4 (hr1.keptNew k14)
      have hs3 : w2.heap.size ≤ w3.heap.size := k3.size
      have hs4 : w.heap.size < w3.heap.size := by omega
      go_wp2_with fail
      rw [hw4.out]
      refine aAt.mono ?_
      rintro e w5 ⟨k5, (⟨j, x, rfl, hx, hxl⟩ | ⟨rfl, hnone⟩)⟩
      · have hxm : x ∈ l := List.mem_of_getElem? hx
        have hlx := Hlk.out
        rw [hxl] at hlx
        have hfo : fileOf d.files name = RF.fl x := fileOf_some hlx
        rw [hfo] at hlen
        simp only [RF.fl] at hlen
        have kw5 : Kp [] w w5 := (k1.trans k14 (by simp)).trans k5 (by simp)
        have hr5 := hr.keptNew kw5
        obtain ⟨g, o, ea, c0, c1, c2⟩ := hr5.fls.at hx
        simp only at ea
        subst ea
        have hjl : j < l.length := (List.getElem?_eq_some_iff.1 hx).1
        have bf5 := bf.kept k5
        have hq3' : w3.heap.size < w5.heap.size := bf5.lt
        obtain ⟨w55, hw55, bfx, k55⟩ := set3_ex bf5 (.string ⟨x.name.toArray⟩) (.slice x.ba x.bytes.length x.bc) (.int .i64 (x.last : Int))
        have f0 := bf5.c0; have f1 := bf5.c1; have f2 := bf5.c2
        have ff0 := bf5.free 0; have ff1 := bf5.free 1; have ff2 := bf5.free 2
        have m1 := bfx.c1
        have bb5 := bx.kept (k14.trans k5 (by simp))
        have y2 := bb5.c2
        have kb55 : Kp [] w2 w55 := (k14.trans k5 (by simp)).trans k55 (fun x hx => .inr (by simp at hx; omega))
        have kw55 : Kp [] w w55 := kw5.trans k55 (fun x hx => .inr (by simp at hx; omega))
        have hseex := hr.see x hxm
        have hjo := cJoined x.ba ab x.bc cb x.bytes b w55 (hseex.1.kept kw55 (by simp)) (hb.kept kw55 (by simp)) (by omega)
        have hq3 : w3.heap.size < w55.heap.size := bfx.lt
        clear hxl Hlk hlen hlx hx
        go_wp2_with fail
        refine hjo.mono ?_
        rintro e w6 ⟨ja, jc, rfl, hj6, k6, hjn⟩
        obtain ⟨ys, hys⟩ : ∃ ys, Hid (ys = x.bytes ++ b) := ⟨_, rfl⟩
        rw [← hys.out] at hj6 ⊢
        have bf6 := bfx.kept k6
        have p1 := bf6.c1
        have pf1 := bf6.free 1
        obtain ⟨w7, hw7⟩ : ∃ w7, w6.setCell ⟨w3.heap.size, 1, none⟩ (.slice ja ys.length jc) = w7 := ⟨_, rfl⟩
        have bf7 : B3 w7 w3.heap.size (.string ⟨x.name.toArray⟩) (.slice ja ys.length jc) (.int .i64 (x.last : Int)) := by rw [← hw7]; exact bf6.set1 _
        have k67 : Kp [w3.heap.size] w6 w7 := by rw [← hw7]; exact kpSet _ _ _ _
        have kw7 : Kp [] w w7 := (kw55.trans k6 (by simp)).trans k67 (fun x hx => .inr (by simp at hx; omega))
        have kb7 : Kp [] w2 w7 := (kb55.trans k6 (by simp)).trans k67 (fun x hx => .inr (by simp at hx; omega))
        have bb7 := bx.kept kb7
        have rr7 := br.kept kb7
        have y0 := bb7.c0; have y1 := bb7.c1; have y2 := bb7.c2; have y3 := bb7.c3; have y4 := bb7.c4; have y5 := bb7.c5
        have n0 := bf7.c0; have n1 := bf7.c1; have n2 := bf7.c2
        have aW := hWith ⟨x.name, ja, jc, ys, x.last⟩ w7 (hr.keptNew kw7)
        simp only [RF.v] at aW
        have hLp := hL.put ⟨x.name, ja, jc, ys, x.last⟩
        have hG : grownF d.files name b = putG Fl.name (RF.fl ⟨x.name, ja, jc, ys, x.last⟩) false d.files := by rw [hys.out]; simp only [grownF, hfo]; rfl
        rw [hG] at Hap
        have hfsee : ∀ W, Kp [] w6 W ∨ (∃ S, Kp S w6 W ∧ ∀ k ∈ blk ja, k ∉ S) → FSee W ⟨x.name, ja, jc, ys, x.last⟩ := fun W h => by
          obtain ⟨_, _, ej, hsj, hnj, hcj⟩ := Row.parts hj6
          cases ej
          rcases h with h | ⟨S, h, hS⟩
          · exact ⟨hsj.kept h (by simp), hnj, hcj⟩
          · exact ⟨hsj.kept h hS, hnj, hcj⟩
        clear hG hfo hjo
        go_wp2_with fail
        refine aW.mono ?_
        rintro e w8 ⟨a2, c2, rfl, hfl8, k8, ha2⟩
        have aS := cRefStep { (⟨room, steps, some ⟨g, o, none⟩, fc, l, armed, false, left⟩ : RD) with fa := a2, fc := c2, l := putG RF.name ⟨x.name, ja, jc, ys, x.last⟩ false l } w8 (by simp only; have := Hstep.out; omega)
        have hls := like_step (hLp a2 c2)
        have hsf := stepR_files { (⟨room, steps, some ⟨g, o, none⟩, fc, l, armed, false, left⟩ : RD) with fa := a2, fc := c2, l := putG RF.name ⟨x.name, ja, jc, ys, x.last⟩ false l }
        have hsw := stepD_with d (putG Fl.name (RF.fl ⟨x.name, ja, jc, ys, x.last⟩) false d.files)
        rw [hsw] at hls
        simp only at hls
        go_wp2_with fail
        refine aS.mono ?_
        rintro e w9 ⟨rfl, k9⟩
        generalize stepR { (⟨room, steps, some ⟨g, o, none⟩, fc, l, armed, false, left⟩ : RD) with fa := a2, fc := c2, l := putG RF.name ⟨x.name, ja, jc, ys, x.last⟩ false l } = sr at hls hsf ⊢
        obtain ⟨⟨room3, steps3, fa3, fc3, l3, armed3, dead3, left3⟩, dies⟩ := sr
        simp only at hls hsf
        obtain ⟨hL3, hdies⟩ := hls
        obtain ⟨ef3, el3⟩ := hsf
        have Hef := hid ef3
        have Hel := hid el3
        have Hdies := hid hdies
        simp only [RD.v]
        have kb9 : Kp [] w2 w9 := (kb7.trans k8 (by simp)).trans k9 (by simp)
        have bb9 := bx.kept kb9
        have rr9 := br.kept kb9
        obtain ⟨W1, hW1, hB1, kW1⟩ := set6_ex bb9 (.int .i64 room3) (.int .i64 steps3) (.slice fa3 l3.length fc3) (.bool armed3) (.bool dead3) (.int .i64 left3)
        have rrW := rr9.keptS kW1 (by simp)
        have p0 := bb9.c0; have p1 := bb9.c1; have p2 := bb9.c2; have p3 := bb9.c3; have p4 := bb9.c4; have p5 := bb9.c5
        have t0 := bb9.free 0; have t1 := bb9.free 1; have t2 := bb9.free 2; have t3 := bb9.free 3; have t4 := bb9.free 4; have t5 := bb9.free 5
        have u0 := hB1.c0; have u1 := hB1.c1; have u2 := hB1.c2; have u3 := hB1.c3; have u4 := hB1.c4; have u5 := hB1.c5
        have x0 := rrW.c0; have x1 := rrW.c1; have x2 := rrW.c2; have x3 := rrW.c3; have x4 := rrW.c4; have x5 := rrW.c5
        have h0 := rrW.free 0; have h1 := rrW.free 1; have h2 := rrW.free 2; have h3 := rrW.free 3; have h4 := rrW.free 4; have h5 := rrW.free 5
        obtain ⟨W2, hW2, hB2, kW2⟩ := set6_ex rrW (.int .i64 room3) (.int .i64 steps3) (.slice fa3 l3.length fc3) (.bool armed3) (.bool dead3) (.int .i64 left3)
        have kEnd : Kp [w.heap.size, w.heap.size + 1] w9 W2 := (kW1.mono (T := [w.heap.size, w.heap.size + 1]) (fun x hx => .inl (by simp at hx; simp [hx]))).trans kW2 (fun x hx => .inl (by simp at hx; simp [hx]))
        have kw9 : Kp [] w w9 := (kw7.trans k8 (by simp)).trans k9 (by simp)
        have kwE : Kp [] w W2 := kw9.trans kEnd (fun x hx => .inr (by simp at hx; omega))
        have hs7 : w6.heap.size ≤ w7.heap.size := k67.size
        have hs56 : w55.heap.size ≤ w6.heap.size := k6.size
        have hFin : RefE ((⟨room, steps, some ⟨g, o, none⟩, fc, l, armed, false, left⟩ : RD)).foot (appendD d name b) w (.returned (.tuple #[.agg #[.int .i64 room3, .int .i64 steps3, .slice fa3 l3.length fc3, .bool armed3, .bool dead3, .int .i64 left3], .int .i64 (if dies then 44 else 0)])) W2 := by
          rw [Hap.out, ← Hdies.out]
          refine ⟨_, rfl, ⟨room3, steps3, fa3, fc3, l3, armed3, dead3, left3⟩, rfl, ?_, hL3, kwE, ?_⟩
          · have h1 : RdOk W2 { (⟨room, steps, some ⟨g, o, none⟩, fc, l, armed, false, left⟩ : RD) with fa := a2, fc := c2, l := putG RF.name ⟨x.name, ja, jc, ys, x.last⟩ false l } := hr.put hri kwE (hfsee W2 (.inr ⟨[w3.heap.size, w.heap.size, w.heap.size + 1], ?_, fun k hk hm => ?_⟩)) c2 ((hfl8.kept k9 (by simp)).kept kEnd (fun k hk hm => ?_))
            · exact h1.files Hef.out Hel.out
            · refine ((k67.mono (T := [w3.heap.size, w.heap.size, w.heap.size + 1]) (fun x hx => .inl (by simp at hx; simp [hx]))).trans (k8.trans k9 (by simp)) (by simp)).trans kEnd (fun x hx => .inl ?_)
              simp at hx ⊢
              omega
            · have := hjn k hk
              simp at hm
              omega
            · have := ha2 k hk
              simp at hm
              omega
          · intro k hk
            rw [foot_same (r := { (⟨room, steps, some ⟨g, o, none⟩, fc, l, armed, false, left⟩ : RD) with fa := a2, fc := c2, l := putG RF.name ⟨x.name, ja, jc, ys, x.last⟩ false l }) Hef.out Hel.out] at hk
            exact foot_put hri c2 (n := w.heap.size) (fun k hk => by have := ha2 k hk; omega) (fun k hk => .inr (by have := hjn k (mem_ft hk); omega)) k hk
        clear hL3 hdies ef3 el3 Hef Hel Hdies hfl8 hfsee hLp
        obtain ⟨z0, z1, z2, z3, z4, z5, _⟩ := hB2
        cases dies
        · go_wp2_with fail
          exact bodyPost_ret (v := .tuple #[.agg #[.int .i64 room3, .int .i64 steps3, .slice fa3 l3.length fc3, .bool armed3, .bool dead3, .int .i64 left3], .int .i64 0]) (by simp [results, Try.results31, go_sem, z0, z1, z2, z3, z4, z5]) rfl hFin
        · go_wp2_with fail
          exact bodyPost_ret (v := .tuple #[.agg #[.int .i64 room3, .int .i64 steps3, .slice fa3 l3.length fc3, .bool armed3, .bool dead3, .int .i64 left3], .int .i64 44]) (by simp [results, Try.results31, go_sem, z0, z1, z2, z3, z4, z5]) rfl hFin
      · -- there is none of that name
        rw [hnone] at Hlk
        have hfo : fileOf d.files name = ⟨name, [], 0⟩ := fileOf_none Hlk.out
        have kw5 : Kp [] w w5 := (k1.trans k14 (by simp)).trans k5 (by simp)
        have bfx := bf.kept k5
        have f0 := bfx.c0; have f1 := bfx.c1; have f2 := bfx.c2
        have ff1 := bfx.free 1
        have bb5 := bx.kept (k14.trans k5 (by simp))
        have rr5 := br.kept (k14.trans k5 (by simp))
        have hjo := cJoined none ab 0 cb [] b w5 (.inl rfl) (hb.kept kw5 (by simp)) (by simp; omega)
        have hq3 : w3.heap.size < w5.heap.size := bfx.lt
        clear hnone Hlk hlen
        simp only [List.length_nil] at hjo
        go_wp2_with fail
        refine hjo.mono ?_
        rintro e w6 ⟨ja, jc, rfl, hj6, k6, hjn⟩
        simp only [List.nil_append] at hj6 ⊢
        have bf6 := bfx.kept k6
        have p1 := bf6.c1
        have pf1 := bf6.free 1
        obtain ⟨w7, hw7⟩ : ∃ w7, w6.setCell ⟨w3.heap.size, 1, none⟩ (.slice ja b.length jc) = w7 := ⟨_, rfl⟩
        have bf7 : B3 w7 w3.heap.size (.string ⟨name.toArray⟩) (.slice ja b.length jc) (.int .i64 0) := by rw [← hw7]; exact bf6.set1 _
        have k67 : Kp [w3.heap.size] w6 w7 := by rw [← hw7]; exact kpSet _ _ _ _
        have kw7 : Kp [] w w7 := (kw5.trans k6 (by simp)).trans k67 (fun x hx => .inr (by simp at hx; omega))
        have kb7 : Kp [] w2 w7 := ((k14.trans k5 (by simp)).trans k6 (by simp)).trans k67 (fun x hx => .inr (by simp at hx; omega))
        have bb7 := bx.kept kb7
        have rr7 := br.kept kb7
        have y0 := bb7.c0; have y1 := bb7.c1; have y2 := bb7.c2; have y3 := bb7.c3; have y4 := bb7.c4; have y5 := bb7.c5
        have n0 := bf7.c0; have n1 := bf7.c1; have n2 := bf7.c2
        have aW := hWith ⟨name, ja, jc, b, 0⟩ w7 (hr.keptNew kw7)
        simp only [RF.v] at aW
        have hLp := hL.put ⟨name, ja, jc, b, 0⟩
        have hG : grownF d.files name b = putG Fl.name (RF.fl ⟨name, ja, jc, b, 0⟩) false d.files := by simp only [grownF, hfo]; rfl
        rw [hG] at Hap
        have hfsee : ∀ W, Kp [] w6 W ∨ (∃ S, Kp S w6 W ∧ ∀ k ∈ blk ja, k ∉ S) → FSee W ⟨name, ja, jc, b, 0⟩ := fun W h => by
          obtain ⟨_, _, ej, hsj, hnj, hcj⟩ := Row.parts hj6
          cases ej
          rcases h with h | ⟨S, h, hS⟩
          · exact ⟨hsj.kept h (by simp), hnj, hcj⟩
          · exact ⟨hsj.kept h hS, hnj, hcj⟩
        clear hG hfo hjo
        go_wp2_with fail
        refine aW.mono ?_
        rintro e w8 ⟨a2, c2, rfl, hfl8, k8, ha2⟩
        have aS := cRefStep { (⟨room, steps, fa, fc, l, armed, false, left⟩ : RD) with fa := a2, fc := c2, l := putG RF.name ⟨name, ja, jc, b, 0⟩ false l } w8 (by simp only; have := Hstep.out; omega)
        have hls := like_step (hLp a2 c2)
        have hsf := stepR_files { (⟨room, steps, fa, fc, l, armed, false, left⟩ : RD) with fa := a2, fc := c2, l := putG RF.name ⟨name, ja, jc, b, 0⟩ false l }
        have hsw := stepD_with d (putG Fl.name (RF.fl ⟨name, ja, jc, b, 0⟩) false d.files)
        rw [hsw] at hls
        simp only at hls
        go_wp2_with fail
        refine aS.mono ?_
        rintro e w9 ⟨rfl, k9⟩
        generalize stepR { (⟨room, steps, fa, fc, l, armed, false, left⟩ : RD) with fa := a2, fc := c2, l := putG RF.name ⟨name, ja, jc, b, 0⟩ false l } = sr at hls hsf ⊢
        obtain ⟨⟨room3, steps3, fa3, fc3, l3, armed3, dead3, left3⟩, dies⟩ := sr
        simp only at hls hsf
        obtain ⟨hL3, hdies⟩ := hls
        obtain ⟨ef3, el3⟩ := hsf
        have Hef := hid ef3
        have Hel := hid el3
        have Hdies := hid hdies
        simp only [RD.v]
        have kb9 : Kp [] w2 w9 := (kb7.trans k8 (by simp)).trans k9 (by simp)
        have bb9 := bx.kept kb9
        have rr9 := br.kept kb9
        obtain ⟨W1, hW1, hB1, kW1⟩ := set6_ex bb9 (.int .i64 room3) (.int .i64 steps3) (.slice fa3 l3.length fc3) (.bool armed3) (.bool dead3) (.int .i64 left3)
        have rrW := rr9.keptS kW1 (by simp)
        have p0 := bb9.c0; have p1 := bb9.c1; have p2 := bb9.c2; have p3 := bb9.c3; have p4 := bb9.c4; have p5 := bb9.c5
        have t0 := bb9.free 0; have t1 := bb9.free 1; have t2 := bb9.free 2; have t3 := bb9.free 3; have t4 := bb9.free 4; have t5 := bb9.free 5
        have u0 := hB1.c0; have u1 := hB1.c1; have u2 := hB1.c2; have u3 := hB1.c3; have u4 := hB1.c4; have u5 := hB1.c5
        have x0 := rrW.c0; have x1 := rrW.c1; have x2 := rrW.c2; have x3 := rrW.c3; have x4 := rrW.c4; have x5 := rrW.c5
        have h0 := rrW.free 0; have h1 := rrW.free 1; have h2 := rrW.free 2; have h3 := rrW.free 3; have h4 := rrW.free 4; have h5 := rrW.free 5
        obtain ⟨W2, hW2, hB2, kW2⟩ := set6_ex rrW (.int .i64 room3) (.int .i64 steps3) (.slice fa3 l3.length fc3) (.bool armed3) (.bool dead3) (.int .i64 left3)
        have kEnd : Kp [w.heap.size, w.heap.size + 1] w9 W2 := (kW1.mono (T := [w.heap.size, w.heap.size + 1]) (fun x hx => .inl (by simp at hx; simp [hx]))).trans kW2 (fun x hx => .inl (by simp at hx; simp [hx]))
        have kw9 : Kp [] w w9 := (kw7.trans k8 (by simp)).trans k9 (by simp)
        have kwE : Kp [] w W2 := kw9.trans kEnd (fun x hx => .inr (by simp at hx; omega))
        have hs7 : w6.heap.size ≤ w7.heap.size := k67.size
        have hs56 : w5.heap.size ≤ w6.heap.size := k6.size
        have hFin : RefE ((⟨room, steps, fa, fc, l, armed, false, left⟩ : RD)).foot (appendD d name b) w (.returned (.tuple #[.agg #[.int .i64 room3, .int .i64 steps3, .slice fa3 l3.length fc3, .bool armed3, .bool dead3, .int .i64 left3], .int .i64 (if dies then 44 else 0)])) W2 := by
          rw [Hap.out, ← Hdies.out]
          refine ⟨_, rfl, ⟨room3, steps3, fa3, fc3, l3, armed3, dead3, left3⟩, rfl, ?_, hL3, kwE, ?_⟩
          · have h1 : RdOk W2 { (⟨room, steps, fa, fc, l, armed, false, left⟩ : RD) with fa := a2, fc := c2, l := putG RF.name ⟨name, ja, jc, b, 0⟩ false l } := hr.put hri kwE (hfsee W2 (.inr ⟨[w3.heap.size, w.heap.size, w.heap.size + 1], ?_, fun k hk hm => ?_⟩)) c2 ((hfl8.kept k9 (by simp)).kept kEnd (fun k hk hm => ?_))
            · exact h1.files Hef.out Hel.out
            · refine ((k67.mono (T := [w3.heap.size, w.heap.size, w.heap.size + 1]) (fun x hx => .inl (by simp at hx; simp [hx]))).trans (k8.trans k9 (by simp)) (by simp)).trans kEnd (fun x hx => .inl ?_)
              simp at hx ⊢
              omega
            · have := hjn k hk
              simp at hm
              omega
            · have := ha2 k hk
              simp at hm
              omega
          · intro k hk
            rw [foot_same (r := { (⟨room, steps, fa, fc, l, armed, false, left⟩ : RD) with fa := a2, fc := c2, l := putG RF.name ⟨name, ja, jc, b, 0⟩ false l }) Hef.out Hel.out] at hk
            exact foot_put hri c2 (n := w.heap.size) (fun k hk => by have := ha2 k hk; omega) (fun k hk => .inr (by have := hjn k (mem_ft hk); omega)) k hk
        clear hL3 hdies ef3 el3 Hef Hel Hdies hfl8 hfsee hLp
        obtain ⟨z0, z1, z2, z3, z4, z5, _⟩ := hB2
        cases dies
        · go_wp2_with fail
          exact bodyPost_ret (v := .tuple #[.agg #[.int .i64 room3, .int .i64 steps3, .slice fa3 l3.length fc3, .bool armed3, .bool dead3, .int .i64 left3], .int .i64 0]) (by simp [results, Try.results31, go_sem, z0, z1, z2, z3, z4, z5]) rfl hFin
        · go_wp2_with fail
          exact bodyPost_ret (v := .tuple #[.agg #[.int .i64 room3, .int .i64 steps3, .slice fa3 l3.length fc3, .bool armed3, .bool dead3, .int .i64 left3], .int .i64 44]) (by simp [results, Try.results31, go_sem, z0, z1, z2, z3, z4, z5]) rfl hFin

theorem cRefAppend (r : RD) (d : Dk) (w : World) (hr : RdOk w r) (hL : Like r d) (ho : Okd d) (hl : r.l.length ≤ 1000000000) (hst : d.steps < 9000000000000000000) (name : List UInt8) (hk : name.length ≤ maxLen) (ab : Option Addr) (cb : Nat) (b : List UInt8) (hb : Sees w ab b)
    (hlen : (fileOf d.files name).bytes.length + b.length ≤ 140737488355328) : Calls Try.prog 31 #[r.v, .string ⟨name.toArray⟩, .slice ab b.length cb] w (RefE r.foot (appendD d name b) w) := by
  obtain ⟨room, steps, fa, fc, l, armed, dead, left⟩ := r
  cases dead
  · exact cRefAppendL room steps fa fc l armed left d w hr hL ho hl hst name hk ab cb b hb hlen
  · exact cRefAppendD room steps fa fc l armed left d w hr hL ho hl hst name hk ab cb b hb hlen
end Go.Proofs.Ytgllkonbgigcbaa
end

section
namespace Go.Proofs.Ytgllkonbgigcbaa
open Go.RowKit Go.Hay
set_option linter.unusedVariables false
set_option linter.unusedSimpArgs false

theorem doD0 {d : Dk} (h : d.files = []) (call : Int) (name to : List UInt8) (n : Int) : doD d call name to n = (d, refusedD d call name to n) ∧ refusedD d call name to n ≠ 0 := by
  have h1 : refusedD d call name to n ≠ 0 := by
    unfold refusedD
    rw [h]
    simp only [lookG, List.find?_nil]
    split <;> decide
  refine ⟨?_, h1⟩
  unfold doD
  rw [if_pos h1]
set_option maxHeartbeats 16000000 in
set_option maxRecDepth 100000 in
theorem cRefDo0 (r : RD) (d : Dk) (w : World) (hr : RdOk w r) (hL : Like r d) (h0 : d.files = []) (call : Int) (name to : List UInt8) (hto : to.length ≤ maxLen) (n : Int) :
    Calls Try.prog 32 #[r.v, .int .i64 call, .string ⟨name.toArray⟩, .string ⟨to.toArray⟩, .int .i64 n] w (RefE r.foot (doD d call name to n) w) := by
  obtain ⟨w1, hw1, k1, bx, br, hsz⟩ := boxRR r w
  have hl : r.l.length ≤ 1000000000 := by have := hL.files; rw [h0, List.map_eq_nil_iff] at this; rw [this]; simp
  obtain ⟨e1, e2⟩ := doD0 h0 call name to n
  have hc := cRefused r d w1 (hr.keptNew k1) hL hl call name to hto n
  have hsame : ∀ W, Kp [] w W → RefE r.foot (doD d call name to n) w (.returned (.tuple #[.agg #[.int .i64 r.room, .int .i64 r.steps, .slice r.fa r.l.length r.fc, .bool r.armed, .bool r.dead, .int .i64 r.left], .int .i64 (refusedD d call name to n)])) W := fun W hkW => RefE.same hr hL hkW e1
  obtain ⟨z, hz⟩ : ∃ z, z = refusedD d call name to n := ⟨_, rfl⟩
  rw [← hz] at hc hsame e2
  clear hz e1 h0 hL hr
  obtain ⟨room, steps, fa, fc, l, armed, dead, left⟩ := r
  simp only [RD.v] at *
  have b0 := bx.c0; have b1 := bx.c1; have b2 := bx.c2; have b3 := bx.c3; have b4 := bx.c4; have b5 := bx.c5
  have r0 := br.c0; have r1 := br.c1; have r2 := br.c2; have r3 := br.c3; have r4 := br.c4; have r5 := br.c5
  go_enter Try.func32, Try.ntmps32
  go_wp2_with fail
  refine hc.mono ?_
  rintro e w2 ⟨rfl, k2⟩
  have bx2 := bx.kept k2
  have br2 := br.kept k2
  have b0 := bx2.c0; have b1 := bx2.c1; have b2 := bx2.c2; have b3 := bx2.c3; have b4 := bx2.c4; have b5 := bx2.c5
  have r0 := br2.c0; have r1 := br2.c1; have r2 := br2.c2; have r3 := br2.c3; have r4 := br2.c4; have r5 := br2.c5
  have g0 := br2.free 0; have g1 := br2.free 1; have g2 := br2.free 2; have g3 := br2.free 3; have g4 := br2.free 4; have g5 := br2.free 5
  have e3 : (z == 0) = false := by simpa using e2
  have e4 : (z != 0) = true := by simpa using e2
  go_wp2_with fail
  obtain ⟨W', hW', hb6, kW'⟩ := set6_ex br2 (.int .i64 room) (.int .i64 steps) (.slice fa l.length fc) (.bool armed) (.bool dead) (.int .i64 left)
  rw [hW']
  obtain ⟨z0, z1, z2, z3, z4, z5, _⟩ := hb6
  refine bodyPost_ret (v := .tuple #[.agg #[.int .i64 room, .int .i64 steps, .slice fa l.length fc, .bool armed, .bool dead, .int .i64 left], .int .i64 z]) (by simp [results, Try.results32, go_sem, z0, z1, z2, z3, z4, z5]) rfl ?_
  exact hsame _ ((k1.trans k2 (by simp)).trans kW' (fun x hx => .inr (by simp at hx; omega)))
def RefB (T : List Nat) (d : Dk) (b : Bool) (w : World) (e : Ending) (w' : World) : Prop := ∃ v, e = .returned (.tuple #[v, .bool b]) ∧ RefP T d w v w'
theorem flipD0 {d : Dk} (h : d.files = []) (name : List UInt8) (i b : Int) : flipOk d name i b = false ∧ flipD d name i b = d := by
  have h1 : flipOk d name i b = false := by
    unfold flipOk
    rw [h]
    simp [lookG, List.find?_nil]
  refine ⟨h1, ?_⟩
  unfold flipD
  rw [h1]
  simp
set_option maxHeartbeats 16000000 in
set_option maxRecDepth 100000 in
theorem cRefFlip0 (r : RD) (d : Dk) (w : World) (hr : RdOk w r) (hL : Like r d) (h0 : d.files = []) (name : List UInt8) (i b : Int) :
    Calls Try.prog 39 #[r.v, .string ⟨name.toArray⟩, .int .i64 i, .int .i64 b] w (RefB r.foot (flipD d name i b) (flipOk d name i b) w) := by
  obtain ⟨w1, hw1, k1, bx, br, hsz⟩ := boxRR r w
  have hl0 : r.l = [] := by have := hL.files; rwa [h0, List.map_eq_nil_iff] at this
  obtain ⟨e1, e2⟩ := flipD0 h0 name i b
  rw [e1, e2]
  have hc := cAt r name w1 (hr.keptNew k1) (by rw [hl0]; simp)
  have hfin : ∀ W, Kp [] w W → RefB r.foot d false w (.returned (.tuple #[.agg #[.int .i64 r.room, .int .i64 r.steps, .slice r.fa r.l.length r.fc, .bool r.armed, .bool r.dead, .int .i64 r.left], .bool false])) W := fun W hkW => ⟨_, rfl, r, rfl, hr.keptNew hkW, hL, hkW, fun k hk => .inl hk⟩
  have hno : ∀ e w', AtP r.l name w1 e w' → e = .returned (.int .i64 (-1)) ∧ Kp [] w1 w' := fun e w' h => by
    obtain ⟨hk, ⟨j, x, _, hx, _⟩ | ⟨he, _⟩⟩ := h
    · rw [hl0] at hx; simp at hx
    · exact ⟨he, hk⟩
  clear e1 e2 h0 hL hr hl0
  obtain ⟨room, steps, fa, fc, l, armed, dead, left⟩ := r
  simp only [RD.v] at *
  have b0 := bx.c0; have b1 := bx.c1; have b2 := bx.c2; have b3 := bx.c3; have b4 := bx.c4; have b5 := bx.c5
  have r0 := br.c0; have r1 := br.c1; have r2 := br.c2; have r3 := br.c3; have r4 := br.c4; have r5 := br.c5
  have hnoh := hid hno
  clear hno
  go_enter Try.func39, Try.ntmps39
  go_wp2_with fail
  refine hc.mono ?_
  intro e w2 he
  obtain ⟨rfl, k2⟩ := hnoh.out e w2 he
  clear he hc
  have bx2 := bx.kept k2
  have br2 := br.kept k2
  have b0 := bx2.c0; have b1 := bx2.c1; have b2 := bx2.c2; have b3 := bx2.c3; have b4 := bx2.c4; have b5 := bx2.c5
  have r0 := br2.c0; have r1 := br2.c1; have r2 := br2.c2; have r3 := br2.c3; have r4 := br2.c4; have r5 := br2.c5
  have g0 := br2.free 0; have g1 := br2.free 1; have g2 := br2.free 2; have g3 := br2.free 3; have g4 := br2.free 4; have g5 := br2.free 5
  go_wp2_with fail
  obtain ⟨W', hW', hb6, kW'⟩ := set6_ex br2 (.int .i64 room) (.int .i64 steps) (.slice fa l.length fc) (.bool armed) (.bool dead) (.int .i64 left)
  rw [hW']
  obtain ⟨z0, z1, z2, z3, z4, z5, _⟩ := hb6
  refine bodyPost_ret (v := .tuple #[.agg #[.int .i64 room, .int .i64 steps, .slice fa l.length fc, .bool armed, .bool dead, .int .i64 left], .bool false]) (by simp [results, Try.results39, go_sem, z0, z1, z2, z3, z4, z5]) rfl ?_
  exact hfin _ ((k1.trans k2 (by simp)).trans kW' (fun x hx => .inr (by simp at hx; omega)))
end Go.Proofs.Ytgllkonbgigcbaa
end

section
namespace Go.Hay
open Go.RowKit

/-- How an element lies in cells. -/
structure El (α : Type) where
  n : Nat
  c : α → List Value
  len : ∀ x, (c x).length = n
  one : ∀ x, ∀ u ∈ c x, u.oneCell' = true
  pos : 0 < n
section
variable {α : Type} (E : El α)
def El.cs (l : List α) : List Value := l.flatMap E.c
theorem El.cs_cons (x : α) (l : List α) : E.cs (x :: l) = E.c x ++ E.cs l := rfl
theorem El.cs_append (a b : List α) : E.cs (a ++ b) = E.cs a ++ E.cs b := by simp [El.cs]
theorem El.cs_length (l : List α) : (E.cs l).length = l.length * E.n := by
  induction l with
  | nil => simp [El.cs]
  | cons x l ih => rw [El.cs_cons, List.length_append, E.len, ih, List.length_cons, Nat.succ_mul]; omega
theorem El.cs_one (l : List α) : ∀ u ∈ E.cs l, u.oneCell' = true := by
  intro u hu
  obtain ⟨x, _, hx⟩ := List.mem_flatMap.1 hu
  exact E.one x u hx
theorem El.cs_drop (l : List α) : ∀ i, E.cs (l.drop i) = (E.cs l).drop (i * E.n) := by
  induction l with
  | nil => intro i; simp [El.cs]
  | cons x l ih =>
    intro i
    cases i with
    | zero => simp
    | succ i =>
      rw [List.drop_succ_cons, ih i, El.cs_cons, Nat.succ_mul, Nat.add_comm, ← List.drop_drop, List.drop_left' (E.len x)]
theorem El.cs_take (l : List α) : ∀ i, E.cs (l.take i) = (E.cs l).take (i * E.n) := by
  induction l with
  | nil => intro i; simp [El.cs]
  | cons x l ih =>
    intro i
    cases i with
    | zero => simp [El.cs]
    | succ i =>
      rw [List.take_succ_cons, El.cs_cons, ih i, El.cs_cons, Nat.succ_mul, Nat.add_comm, List.take_append, E.len, List.take_of_length_le (l := E.c x) (by rw [E.len]; omega), Nat.add_sub_cancel_left]
theorem El.cs_get {l : List α} {j k : Nat} {x : α} (h : l[j]? = some x) (hk : k < E.n) : (E.cs l)[j * E.n + k]? = (E.c x)[k]? := by
  have e := El.cs_drop E l j
  have hl : l.drop j = x :: l.drop (j + 1) := by
    obtain ⟨h1, rfl⟩ := List.getElem?_eq_some_iff.1 h
    exact List.drop_eq_getElem_cons h1
  rw [hl, El.cs_cons] at e
  have : (E.cs l)[j * E.n + k]? = ((E.cs l).drop (j * E.n))[k]? := by rw [List.getElem?_drop]
  rw [this, ← e, List.getElem?_append_left (by rw [E.len]; exact hk)]

/-- What a slice of elements sees. -/
def El.See (w : World) (a : Option Addr) (l : List α) : Prop :=
  l = [] ∨ ∃ g o, a = some ⟨g, o, none⟩ ∧ ∀ j u, (E.cs l)[j]? = some u → w.cell? ⟨g, o + j, none⟩ = some u
variable {E}
theorem El.See.nil (w : World) (a : Option Addr) : E.See w a [] := .inl rfl
theorem El.See.kept {w w' : World} {a : Option Addr} {l : List α} {S : List Nat} (h : E.See w a l) (hk : Kp S w w') (hn : l ≠ [] → ∀ k ∈ blk a, k ∉ S) : E.See w' a l := by
  rcases h with rfl | ⟨g, o, rfl, hc⟩
  · exact .inl rfl
  · by_cases hl : l = []
    · exact .inl hl
    · exact .inr ⟨g, o, rfl, fun j u hu => (hk.cell (World.block_lt_of_cell? _ _ (hc j u hu)) (hn hl g (by simp [blk]))).trans (hc j u hu)⟩
theorem El.See.keptNew {w w' : World} {a : Option Addr} {l : List α} (h : E.See w a l) (hk : Kp [] w w') : E.See w' a l := h.kept hk (by simp)
theorem El.See.at {w : World} {a : Option Addr} {l : List α} (h : E.See w a l) {j : Nat} {x : α} (hx : l[j]? = some x) : ∃ g o, a = some ⟨g, o, none⟩ ∧ ∀ k u, (E.c x)[k]? = some u → w.cell? ⟨g, o + j * E.n + k, none⟩ = some u := by
  rcases h with rfl | ⟨g, o, rfl, hc⟩
  · simp at hx
  · refine ⟨g, o, rfl, fun k u hu => ?_⟩
    have hk : k < E.n := by have := (List.getElem?_eq_some_iff.1 hu).1; rwa [E.len] at this
    rw [Nat.add_assoc]
    exact hc _ _ ((El.cs_get E hx hk).trans hu)
theorem El.See.lt {w : World} {a : Option Addr} {l : List α} (h : E.See w a l) (hl : l ≠ []) : ∀ k ∈ blk a, k < w.heap.size := by
  cases l with
  | nil => exact absurd rfl hl
  | cons x l =>
    obtain ⟨g, o, rfl, hc⟩ := h.at (j := 0) (x := x) rfl
    intro k hk
    simp [blk] at hk
    subst hk
    have h0 : 0 < (E.c x).length := by rw [E.len]; exact E.pos
    exact World.block_lt_of_cell? _ _ (hc 0 _ (List.getElem?_eq_getElem h0))
theorem El.See.src {P : Program} {w : World} {a : Option Addr} {l : List α} (h : E.See w a l) {t e : TypeId} (ht : P.underlying t = some (.slice e)) (c : Nat) : Src P E.n t (.slice a l.length c) l.length (E.cs l) w := by
  rcases h with rfl | ⟨g, o, rfl, hc⟩
  · cases a with
    | none => exact Src.ofNil w ht c
    | some ad => exact Src.ofSlice w ht ad 0 c [] (by simp) (by intro j u hu; simp at hu) (by intro u hu; simp at hu)
  · exact Src.ofSlice w ht ⟨g, o, none⟩ l.length c (E.cs l) (El.cs_length E l) (fun j u hu => by rw [Addr.add_lit]; exact hc j u hu) (El.cs_one E l)
theorem El.See.front {w : World} {a : Option Addr} {l : List α} (h : E.See w a l) (i : Nat) : E.See w a (l.take i) := by
  rcases h with rfl | ⟨g, o, rfl, hc⟩
  · exact .inl (by simp)
  · refine .inr ⟨g, o, rfl, fun j u hu => ?_⟩
    rw [El.cs_take, List.getElem?_take] at hu
    split at hu
    · exact hc j u hu
    · cases hu

variable (E)
/-- A row of elements of the calls' own: its cells are there, none is frozen. -/
def El.Row (w : World) (v : Value) (l : List α) : Prop :=
  (v = .slice none 0 0 ∧ l = []) ∨ ∃ g o cap, v = .slice (some ⟨g, o, none⟩) l.length cap ∧ l.length ≤ cap ∧ cap ≤ maxLen ∧ g < w.heap.size ∧
    (∀ j u, (E.cs l)[j]? = some u → w.cell? ⟨g, o + j, none⟩ = some u) ∧ ∀ j, j < cap * E.n → (w.cell? ⟨g, o + j, none⟩).isSome = true ∧ w.frozen? ⟨g, o + j, none⟩ = false
variable {E}
theorem El.Row.nil (w : World) : E.Row w (.slice none 0 0) [] := .inl ⟨rfl, rfl⟩
theorem El.Row.lt {w : World} {v : Value} {l : List α} (h : E.Row w v l) : ∀ k ∈ own v, k < w.heap.size := by
  rcases h with ⟨rfl, _⟩ | ⟨g, o, cap, rfl, _, _, hg, _⟩
  · intro k hk; simp [own, Value.ownBlock] at hk
  · intro k hk; simp [own, Value.ownBlock] at hk; omega
theorem El.Row.see {w : World} {v : Value} {l : List α} (h : E.Row w v l) : ∃ a c, v = .slice a l.length c ∧ E.See w a l ∧ (a = none → l = [] ∧ c = 0) ∧ l.length ≤ c ∧ c ≤ maxLen ∧ own v = blk a := by
  rcases h with ⟨rfl, rfl⟩ | ⟨g, o, cap, rfl, hl, hm, hg, hc, ht⟩
  · exact ⟨none, 0, rfl, .inl rfl, fun _ => ⟨rfl, rfl⟩, Nat.le_refl _, Nat.zero_le _, rfl⟩
  · exact ⟨_, _, rfl, .inr ⟨g, o, rfl, hc⟩, fun h => (by cases h), hl, hm, rfl⟩
theorem El.Row.kept {w w' : World} {v : Value} {l : List α} {S : List Nat} (h : E.Row w v l) (hk : Kp S w w') (hn : ∀ k ∈ own v, k ∉ S) : E.Row w' v l := by
  rcases h with h | ⟨g, o, cap, rfl, hl, hm, hg, hc, ht⟩
  · exact .inl h
  · have hgS : g ∉ S := hn g (by simp [own, Value.ownBlock])
    have e1 : ∀ j, w'.cell? ⟨g, o + j, none⟩ = w.cell? ⟨g, o + j, none⟩ := fun j => hk.cell (p := ⟨g, o + j, none⟩) hg hgS
    have e2 : ∀ j, w'.frozen? ⟨g, o + j, none⟩ = w.frozen? ⟨g, o + j, none⟩ := fun j => hk.frozen (p := ⟨g, o + j, none⟩) hg hgS
    exact .inr ⟨g, o, cap, rfl, hl, hm, Nat.lt_of_lt_of_le hg hk.size, fun j u hu => (e1 j).trans (hc j u hu), fun j hj => by rw [e1, e2]; exact ht j hj⟩
theorem El.Row.keptNew {w w' : World} {v : Value} {l : List α} (h : E.Row w v l) (hk : Kp [] w w') : E.Row w' v l := h.kept hk (by simp)

theorem grown_cellsG (w : World) (g : Nat) (xs : List Value) (z : Array Value) (h : g = w.heap.size) (t : TypeId) : ∀ j u, xs[j]? = some u → (w.alloc (.cells (xs.toArray ++ z) t)).cell? ⟨g, 0 + j, none⟩ = some u := by
  subst h
  intro j u hu
  have hj : j < xs.length := (List.getElem?_eq_some_iff.1 hu).1
  have e1 : (w.alloc (.cells (xs.toArray ++ z) t)).cell? ⟨w.heap.size, 0 + j, none⟩ = _ := World.cell?_alloc_new w _ _ (0 + j)
  rw [e1, Nat.zero_add, Array.getElem?_append_left (by simp only [List.size_toArray]; exact hj), List.getElem?_toArray, hu]

/-- An append of elements, out of whatever yields them, onto a row of the call's own. -/
theorem run_appendG {P : Program} (w : World) (t tx ty e : TypeId) (i : TypeInfo) (z : Value) (bytes : Nat) (ht : P.underlying t = some (.slice e)) (hi : P.info? e = some i) (hz : i.zero = some z) (hsize : i.size = E.n) (hby : i.bytes = bytes) (hzs : z.cells.size = E.n)
    (v : Value) (xs : List α) (hown : E.Row w v xs) (x : Value) (bs : List α) (hs : Src P E.n tx x bs.length (E.cs bs) w) (hb : (xs.length + bs.length + (xs.length + bs.length) / 4 + 192) * bytes ≤ 281474976710656) (h63 : xs.length + bs.length ≤ 100000000000000) :
    ∃ v' w', (Builtin.append_ #[t, tx] ty #[v, x]).run P w = .ok v' w' ∧ E.Row w' v' (xs ++ bs) ∧ Kp (own v) w w' ∧ ∀ k ∈ own v', k ∈ own v ∨ w.heap.size ≤ k := by
  have hs' := hs
  rw [← hsize] at hs'
  have grow : ∀ (ao : Option Addr) (cap : Nat), v = .slice ao xs.length cap → cap < xs.length + bs.length → (Builtin.firstCells i.size xs.length (.slice ao xs.length cap)).run P w.drew = .ok (E.cs xs).toArray w.drew →
      ∃ v' w', (Builtin.append_ #[t, tx] ty #[v, x]).run P w = .ok v' w' ∧ E.Row w' v' (xs ++ bs) ∧ Kp (own v) w w' ∧ ∀ k ∈ own v', k ∈ own v ∨ w.heap.size ≤ k := by
    rintro ao cap rfl hlt hold
    have hrun := run_append_grow_src (P := P) w t tx ty e i z ht hi hz ao xs.length cap (E.cs xs) hold x bs.length (E.cs bs) hs' hlt (by omega) (growslice_fits_wide hlt (by rw [hby]; exact hb))
    have hge := grownCap_ge w (xs.length + bs.length) cap e
    have hcm := grownCap_le_maxLen w (xs.length + bs.length) cap e (by unfold maxLen; omega)
    rw [← El.cs_append] at hrun
    refine ⟨_, _, hrun, .inr ⟨w.heap.size, 0, _, by rw [List.length_append], by rw [List.length_append]; omega, hcm, by simp, ?_, ?_⟩, (Kp.refl _ w).drew.alloc _, ?_⟩
    · exact grown_cellsG w.drew _ (E.cs (xs ++ bs)) _ rfl _
    · intro j hj
      refine ⟨?_, World.frozen?_alloc_new w.drew _ _ (0 + j)⟩
      have e1 := World.cell?_alloc_new w.drew ((E.cs (xs ++ bs)).toArray ++ Builtin.zeroCells z.cells (grownCap w (xs.length + bs.length) cap e - (xs.length + bs.length))) e (0 + j)
      have hsz : ((E.cs (xs ++ bs)).toArray ++ Builtin.zeroCells z.cells (grownCap w (xs.length + bs.length) cap e - (xs.length + bs.length))).size = grownCap w (xs.length + bs.length) cap e * E.n := by
        rw [Array.size_append, List.size_toArray, El.cs_length, List.length_append, size_zeroCells, hzs, ← Nat.add_mul]
        congr 1
        omega
      refine (congrArg Option.isSome e1).trans ?_
      rw [Nat.zero_add, Array.getElem?_eq_getElem (by rw [hsz]; exact hj)]
      rfl
    · intro k hk
      simp [own, Value.ownBlock] at hk
      omega
  rcases hown with ⟨rfl, rfl⟩ | ⟨g, o, cap, rfl, hl, hm, hg, hc, ht'⟩
  · rcases Nat.eq_zero_or_pos bs.length with h0 | h0
    · obtain rfl : bs = [] := List.length_eq_zero_iff.1 h0
      exact ⟨_, _, run_append_nothing (P := P) w t tx ty e i ht hi none 0 0 (Nat.le_refl _) x hs', .inl ⟨rfl, rfl⟩, Kp.refl _ _, fun _ h => .inl h⟩
    · exact grow none 0 rfl (by simpa using h0) (run_firstCells_none w.drew i.size 0 0 0)
  · by_cases hroom : xs.length + bs.length ≤ cap
    · have hmul : (xs.length + bs.length) * E.n ≤ cap * E.n := Nat.mul_le_mul_right _ hroom
      rw [Nat.add_mul] at hmul
      have hsome : ∀ j, j < (E.cs bs).length → (w.cell? ⟨g, o + xs.length * i.size + j, none⟩).isSome = true := fun j hj => by
        rw [El.cs_length] at hj; rw [hsize, Nat.add_assoc]; exact (ht' _ (by omega)).1
      have hrun := run_append_room_src (P := P) w t tx ty e i ht hi g o xs.length cap x bs.length (E.cs bs) hs' hroom hsome
        (fun j hj => by rw [El.cs_length] at hj; rw [hsize, Nat.add_assoc]; exact (ht' _ (by omega)).2)
      rw [hsize] at hsome
      rw [hsize] at hrun
      refine ⟨_, _, hrun, .inr ⟨g, o, cap, by rw [List.length_append], by rw [List.length_append]; omega, hm, by rw [size_setCells]; exact hg, ?_, ?_⟩, (Kp.refl _ w).setCells (by simp [own, Value.ownBlock]) _ _, fun k hk => .inl hk⟩
      · intro j u hu
        rw [El.cs_append] at hu
        by_cases hj : j < (E.cs xs).length
        · rw [World.cell?_setCells_out g _ _ _ _ (fun _ _ => Or.inl (by show o + j < o + xs.length * E.n; rw [El.cs_length] at hj; omega))]
          rw [List.getElem?_append_left hj] at hu
          exact hc j u hu
        · rw [List.getElem?_append_right (by omega)] at hu
          have hj2 : j - (E.cs xs).length < (E.cs bs).length := (List.getElem?_eq_some_iff.1 hu).1
          have := World.cell?_setCells_in g (E.cs bs) (o + xs.length * E.n) w hsome (j - (E.cs xs).length) hj2
          rw [← List.getElem?_eq_getElem hj2, hu] at this
          rw [El.cs_length] at hj this
          rw [show o + xs.length * E.n + (j - xs.length * E.n) = o + j by omega] at this
          exact this
      · intro j hj
        refine ⟨?_, (World.frozen?_setCells g _ _ _ _).trans (ht' j hj).2⟩
        by_cases hin : xs.length * E.n ≤ j ∧ j < xs.length * E.n + (E.cs bs).length
        · have := World.cell?_setCells_in g (E.cs bs) (o + xs.length * E.n) w hsome (j - xs.length * E.n) (by omega)
          rw [show o + xs.length * E.n + (j - xs.length * E.n) = o + j by omega] at this
          rw [this]; rfl
        · rw [World.cell?_setCells_out g _ _ _ _ (fun _ _ => by show o + j < o + xs.length * E.n ∨ o + xs.length * E.n + (E.cs bs).length ≤ o + j; omega)]
          exact (ht' j hj).1
    · refine grow (some ⟨g, o, none⟩) cap rfl (by omega) ?_
      exact run_firstCells_some w.drew i.size xs.length ⟨g, o, none⟩ xs.length cap (E.cs xs) (by rw [El.cs_length, hsize]) (fun j u hu => by rw [Addr.add_lit]; exact hc j u hu)

/-- .. for the walk. -/
theorem wpAppG {P : Program} {w : World} {ops : Array Oper} {rest : List Oper} {o : Oper} {a : Act} {Q : Exit → Act → World → Prop} (hgd : o.guard = none) (s x : Operand) (t tx e : TypeId)
    (ho : o.op = .call { callee := .builtin .append, args := #[s, x], argTypes := #[t, tx] })
    (i : TypeInfo) (z : Value) (bytes : Nat) (ht : P.underlying t = some (.slice e)) (hi : P.info? e = some i) (hz : i.zero = some z) (hsize : i.size = E.n) (hby : i.bytes = bytes) (hzs : z.cells.size = E.n)
    (v : Value) (xs : List α) (hv : a.eval s = v) (hown : E.Row w v xs) (xv : Value) (bs : List α) (hx : a.eval x = xv) (hs : Src P E.n tx xv bs.length (E.cs bs) w) (hb : (xs.length + bs.length + (xs.length + bs.length) / 4 + 192) * bytes ≤ 281474976710656) (h63 : xs.length + bs.length ≤ 100000000000000)
    (hK : ∀ l' a' c' w', Hid (l' = xs ++ bs) → E.Row w' (.slice a' l'.length c') l' → Kp (own v) w w' → (∀ k ∈ blk a', k ∈ own v ∨ w.heap.size ≤ k) → wpList P ops Q rest (a.put o.dst (.slice a' l'.length c')) w') : wpList P ops Q (o :: rest) a w := by
  refine wpList_plain hgd fun K hK' => ?_
  obtain ⟨v', w', hrun, h1, h2, h3⟩ := run_appendG (P := P) w t tx o.type e i z bytes ht hi hz hsize hby hzs v xs hown xv bs hs hb h63
  obtain ⟨l', hl'⟩ : ∃ l', l' = xs ++ bs := ⟨_, rfl⟩
  rw [← hl'] at h1
  obtain ⟨a', c', rfl, _, _, _, _, eo⟩ := h1.see
  have hfin := hK' _ _ (hK l' a' c' w' hl' h1 h2 (fun k hk => h3 k (by rw [eo]; exact hk)))
  unfold Oper.wp
  simp [execOp, ho, resolve, invoke, builtin, hv, hx, hrun, Result.andThen]
  exact hfin
end
theorem run_copyG {P : Program} (w : World) (dT sT ty elem : TypeId) (i : TypeInfo) (hu : P.underlying dT = some (.slice elem)) (hi : P.info? elem = some i) (b o dLen dCap : Nat) (a : Addr) (sLen sCap : Nat) (hsd : sLen ≤ dLen) (cs : List Value)
    (hn : cs.length = sLen * i.size) (hsrc : ∀ j v, cs[j]? = some v → w.cell? (a.add j) = some v) (hc : ∀ j, j < cs.length → (w.cell? ⟨b, o + j, none⟩).isSome = true) (hf : ∀ j, j < cs.length → w.frozen? ⟨b, o + j, none⟩ = false) (h1 : ∀ v ∈ cs, v.oneCell' = true) :
    (Builtin.copy_ #[dT, sT] ty #[.slice (some ⟨b, o, none⟩) dLen dCap, .slice (some a) sLen sCap]).run P w = .ok (goInt sLen) (w.setCells b o cs) := by
  have hl := run_loadCells_list (P := P) w a cs hsrc
  have hst := run_storeCells_cells (P := P) b o cs 0 w (by simpa using hc) (by simpa using hf) h1
  simp only [Nat.add_zero] at hst
  have hmin : Nat.min sLen dLen = sLen := Nat.min_eq_left hsd
  simp [Builtin.copy_, run_underlying hu, Builtin.lenOf, Builtin.firstCells, sizeOf, typeInfo, hi, hmin, ← hn, hl, hst]
/-- An append, or a copy, whose run is known, at a step of a region that draws its order. -/
theorem stepAppRun {P : Program} {w w' : World} {ops : Array Oper} {o : Oper} {a : Act} {K : Act → World → Prop} {Q : Exit → Act → World → Prop} {E : Prop} (hgd : o.guard = none) (s x : Operand) (t tx : TypeId)
    (ho : o.op = .call { callee := .builtin .append, args := #[s, x], argTypes := #[t, tx] }) (v xv v' : Value) (hv : a.eval s = v) (hx : a.eval x = xv)
    (hrun : (Builtin.append_ #[t, tx] o.type #[v, xv]).run P w = .ok v' w') (h : K (a.put o.dst v') w') : if Region.wanted o (yielded ops a.tmps) = true then Oper.wp P o a w K Q else E := by
  have hw : Region.wanted o (yielded ops a.tmps) = true := by simp [Region.wanted, hgd]
  rw [if_pos hw]
  unfold Oper.wp execOp
  simp only [ho, resolve, invoke, builtin, Sem.run_bind, Sem.run_pure, Result.andThen_ok, List.map_toArray, List.map_cons, List.map_nil, hv, hx, hrun]
  exact h
theorem stepCpyRun {P : Program} {w w' : World} {ops : Array Oper} {o : Oper} {a : Act} {K : Act → World → Prop} {Q : Exit → Act → World → Prop} {E : Prop} (hgd : o.guard = none) (s x : Operand) (t tx : TypeId)
    (ho : o.op = .call { callee := .builtin .copy, args := #[s, x], argTypes := #[t, tx] }) (v xv v' : Value) (hv : a.eval s = v) (hx : a.eval x = xv)
    (hrun : (Builtin.copy_ #[t, tx] o.type #[v, xv]).run P w = .ok v' w') (h : K (a.put o.dst v') w') : if Region.wanted o (yielded ops a.tmps) = true then Oper.wp P o a w K Q else E := by
  have hw : Region.wanted o (yielded ops a.tmps) = true := by simp [Region.wanted, hgd]
  rw [if_pos hw]
  unfold Oper.wp execOp
  simp only [ho, resolve, invoke, builtin, Sem.run_bind, Sem.run_pure, Result.andThen_ok, List.map_toArray, List.map_cons, List.map_nil, hv, hx, hrun]
  exact h
end Go.Hay
end

section
namespace Go.Hay

/-- n in k bytes, the highest first. -/
def be (n : Nat) : Nat → List UInt8
  | 0 => []
  | k + 1 => UInt8.ofNat (n / 256 ^ k % 256) :: be n k
theorem be_length (n k : Nat) : (be n k).length = k := by
  induction k with
  | zero => rfl
  | succ k ih => simp [be, ih]
/-- The first byte of n's Var. -/
def leadI (n : Int) : Int := if n < 253 then n else if n < 65536 then 253 else if n < 4294967296 then 254 else 255
/-- How many bytes a Var has behind its first one. -/
def behindI (f : Int) : Int := if f = 253 then 2 else if f = 254 then 4 else if f = 255 then 8 else 0
theorem leadI_bd (n : Int) (h : 0 ≤ n) : 0 ≤ leadI n ∧ leadI n ≤ 255 := by unfold leadI; repeat (first | split | omega)
theorem behindI_bd (n : Int) : 0 ≤ behindI n ∧ behindI n ≤ 8 := by unfold behindI; repeat (first | split | omega)
/-- The number that bytes say, the highest first. -/
def num (bs : List UInt8) : Nat := bs.foldl (fun n x => n * 256 + x.toNat) 0
theorem num_snoc (bs : List UInt8) (x : UInt8) : num (bs ++ [x]) = num bs * 256 + x.toNat := by simp [num]
theorem num_lt (bs : List UInt8) : num bs < 256 ^ bs.length := by
  suffices ∀ (l : List UInt8), num l.reverse < 256 ^ l.length by simpa using this bs.reverse
  intro l
  induction l with
  | nil => simp [num]
  | cons x l ih =>
    rw [List.reverse_cons, num_snoc, List.length_cons, Nat.pow_succ]
    have := x.toNat_lt
    omega
/-- A byte, of a number. -/
def octet (n : Int) : UInt8 := UInt8.ofNat n.toNat
theorem octet_toNat (n : Int) (h0 : 0 ≤ n) (h1 : n ≤ 255) : ((octet n).toNat : Int) = n := by
  unfold octet
  rw [UInt8.toNat_ofNat']
  omega
/-- A number's Var. -/
def varB (n : Int) : List UInt8 := octet (leadI n) :: be n.toNat (behindI (leadI n)).toNat
theorem varB_length (n : Int) : (varB n).length ≤ 9 ∧ 1 ≤ (varB n).length := by
  have := behindI_bd (leadI n)
  simp only [varB, List.length_cons, be_length]
  omega
/-- What bytes begin with, read as a Var: the number, in how many bytes, what is amiss. -/
def fv (bs : List UInt8) : Int × Int × Int :=
  match bs with
  | [] => (0, 0, 10)
  | f :: r =>
    if behindI f.toNat = 0 then (f.toNat, 1, 0)
    else if (r.length : Int) < behindI f.toNat then (0, 0, 10)
    else if leadI (num (r.take (behindI f.toNat).toNat)) ≠ f.toNat then (0, 0, 11)
    else (num (r.take (behindI f.toNat).toNat), 1 + behindI f.toNat, 0)
theorem fv_bd (bs : List UInt8) : 0 ≤ (fv bs).1 ∧ (fv bs).1 < 18446744073709551616 ∧ 0 ≤ (fv bs).2.1 ∧ (fv bs).2.1 ≤ 9 ∧ (fv bs).2.1 ≤ bs.length := by
  cases bs with
  | nil => simp [fv]
  | cons f r =>
    have hf := f.toNat_lt
    have hb := behindI_bd f.toNat
    simp only [fv]
    have h64 : ∀ k : Nat, k ≤ 8 → num (r.take k) < 18446744073709551616 := fun k hk => by
      have h1 := num_lt (r.take k)
      have h2 : (r.take k).length ≤ 8 := by simp; omega
      have h3 : 256 ^ (r.take k).length ≤ 256 ^ 8 := Nat.pow_le_pow_right (by omega) h2
      omega
    have h64' := h64 (behindI f.toNat).toNat (by omega)
    generalize num (r.take (behindI f.toNat).toNat) = m at *
    simp only [List.length_cons]
    split
    · simp; omega
    · split
      · simp; omega
      · split
        · simp; omega
        · simp; omega
/-- A reader that takes n bytes: what it gives, what is left, what was amiss. -/
def takeS (n : Nat) (bs : List UInt8) (e : Int) : List UInt8 × List UInt8 × Int :=
  if e ≠ 0 then ([], bs, e) else if bs.length < n then ([], bs, 10) else (bs.take n, bs.drop n, 0)
/-- A reader that reads a Var. -/
def varS (most : Int) (bs : List UInt8) (e : Int) : Int × List UInt8 × Int :=
  if e ≠ 0 then (0, bs, e) else if (fv bs).2.2 ≠ 0 then (0, bs, (fv bs).2.2) else if most < (fv bs).1 then (0, bs, 12) else ((fv bs).1, bs.drop (fv bs).2.1.toNat, 0)
/-- .. raw bytes. -/
def rawS (n : Int) (bs : List UInt8) (e : Int) : List UInt8 × List UInt8 × Int :=
  if n < 0 then ([], bs, if e = 0 then 12 else e) else takeS n.toNat bs e
/-- .. a count. -/
def countS (most : Int) (bs : List UInt8) (e : Int) : Int × List UInt8 × Int :=
  if 0 ≤ most then varS most bs e else (0, bs, if (varS 18446744073709551615 bs e).2.2 = 0 then 12 else (varS 18446744073709551615 bs e).2.2)
/-- .. a text. -/
def textS (most : Int) (bs : List UInt8) (e : Int) : List UInt8 × List UInt8 × Int :=
  if (rawS (countS most bs e).1 (countS most bs e).2.1 (countS most bs e).2.2).2.2 ≠ 0 then ((rawS (countS most bs e).1 (countS most bs e).2.1 (countS most bs e).2.2).1, bs, (rawS (countS most bs e).1 (countS most bs e).2.1 (countS most bs e).2.2).2.2)
  else rawS (countS most bs e).1 (countS most bs e).2.1 (countS most bs e).2.2
/-- A text. -/
def textB (b : List UInt8) : List UInt8 := varB b.length ++ b
end Go.Hay
end

section
namespace Go.Hay
set_option linter.unusedVariables false

theorem be_snoc (n k : Nat) : be n (k + 1) = be (n / 256) k ++ [UInt8.ofNat (n % 256)] := by
  induction k with
  | zero => simp [be]
  | succ k ih =>
    rw [be, ih, be, List.cons_append]
    congr 2
    rw [Nat.div_div_eq_div_mul, Nat.pow_succ, Nat.mul_comm]
theorem be_num_rev (l : List UInt8) : be (num l.reverse) l.length = l.reverse := by
  induction l with
  | nil => simp [be]
  | cons x l ih =>
    have hx := x.toNat_lt
    rw [List.reverse_cons, num_snoc, List.length_cons, be_snoc, show (num l.reverse * 256 + x.toNat) / 256 = num l.reverse by omega, ih, show (num l.reverse * 256 + x.toNat) % 256 = x.toNat by omega, UInt8.ofNat_toNat]
theorem be_num (xs : List UInt8) : be (num xs) xs.length = xs := by simpa using be_num_rev xs.reverse
theorem num_be (n k : Nat) : num (be n k) = n % 256 ^ k := by
  induction k generalizing n with
  | zero => simp [be, num, Nat.mod_one]
  | succ k ih =>
    rw [be_snoc, num_snoc, ih, UInt8.toNat_ofNat', show 256 ^ (k + 1) = 256 * 256 ^ k by rw [Nat.pow_succ, Nat.mul_comm], Nat.mod_mul]
    omega
theorem octet_nat (x : UInt8) : octet x.toNat = x := by simp [octet]

/-- What is read as a number is written as the same bytes. -/
theorem fv_back (bs : List UInt8) (h : (fv bs).2.2 = 0) : varB (fv bs).1 = bs.take (fv bs).2.1.toNat ∧ 1 ≤ (fv bs).2.1 := by
  cases bs with
  | nil => simp [fv] at h
  | cons f r =>
    have hf := f.toNat_lt
    have hb := behindI_bd f.toNat
    simp only [fv] at h ⊢
    split
    · rename_i h0
      have hl : leadI f.toNat = f.toNat := by
        unfold behindI at h0
        unfold leadI
        repeat (first | split at h0 | (split <;> omega) | omega)
      simp only [varB, hl, h0, octet_nat]
      simp [be]
    · rename_i h0
      rw [if_neg h0] at h
      by_cases h1 : (r.length : Int) < behindI f.toNat
      · rw [if_pos h1] at h; simp at h
      rw [if_neg h1] at h ⊢
      by_cases h2 : leadI (num (r.take (behindI f.toNat).toNat)) ≠ f.toNat
      · rw [if_pos h2] at h; simp at h
      rw [if_neg h2]
      have h3 : leadI (num (r.take (behindI f.toNat).toNat)) = f.toNat := Decidable.not_not.1 h2
      obtain ⟨k, hk⟩ : ∃ k : Nat, behindI f.toNat = k := ⟨(behindI f.toNat).toNat, by omega⟩
      rw [hk, Int.toNat_natCast] at h3
      have hlen : (r.take k).length = k := by simp; omega
      refine ⟨?_, by show 1 ≤ 1 + behindI f.toNat; omega⟩
      show varB (num (r.take (behindI f.toNat).toNat)) = List.take (1 + behindI f.toNat).toNat (f :: r)
      rw [hk, Int.toNat_natCast]
      simp only [varB]
      rw [h3, hk, Int.toNat_natCast, Int.toNat_natCast, octet_nat]
      have e := be_num (r.take k)
      rw [hlen] at e
      rw [e, show (1 + (k : Int)).toNat = k + 1 by omega, List.take_succ_cons]

/-- Of a Var that was read: in words that the law uses. -/
theorem varS_cases (most : Int) (bs : List UInt8) {n : Int} {bs' : List UInt8} {e' : Int} (h0 : 0 ≤ most) (h : varS most bs 0 = (n, bs', e')) :
    0 ≤ n ∧ n < 18446744073709551616 ∧ bs'.length ≤ bs.length ∧ (e' ≠ 0 → n = 0 ∧ bs' = bs) ∧ (e' = 0 → n ≤ most ∧ varB n = bs.take (bs.length - bs'.length)) := by
  have hbd := fv_bd bs
  have hbk := fv_back bs
  unfold varS at h
  rw [if_neg (by simp)] at h
  split at h
  · rename_i h1
    cases h
    exact ⟨by omega, by omega, Nat.le_refl _, fun _ => ⟨rfl, rfl⟩, fun h => absurd h h1⟩
  · rename_i h1
    have h1' : (fv bs).2.2 = 0 := Decidable.not_not.1 h1
    have hbk := hbk h1'
    split at h
    · cases h
      exact ⟨by omega, by omega, Nat.le_refl _, fun _ => ⟨rfl, rfl⟩, fun h => by simp at h⟩
    · cases h
      refine ⟨by omega, by omega, by simp, fun h => absurd rfl h, fun _ => ⟨by omega, ?_⟩⟩
      rw [hbk.1]
      congr 1
      rw [List.length_drop]
      omega
end Go.Hay
end

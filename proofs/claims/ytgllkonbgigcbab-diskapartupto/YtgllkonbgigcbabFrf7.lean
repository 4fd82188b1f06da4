/- The reference's call Append: its walk. -/
import Derived.Test.YtgllkonbgigcbabFrf6
namespace Go.Proofs.Ytgllkonbgigcbab
open Go.RowKit Go.Hay
set_option linter.unusedVariables false
set_option linter.unusedSimpArgs false

set_option maxHeartbeats 16000000 in
set_option maxRecDepth 100000 in
theorem cRefAppendD (room steps : Int) (fa : Option Addr) (fc : Nat) (l : List RF) (armed : Bool) (left : Int) (d : Dk) (w : World) (hr : RdOk w (⟨room, steps, fa, fc, l, armed, true, left⟩ : RD)) (hL : Like (⟨room, steps, fa, fc, l, armed, true, left⟩ : RD) d) (ho : Okd d) (hl : l.length ≤ 1000000000) (hst : d.steps < 9000000000000000000) (name : List UInt8) (hk : name.length ≤ maxLen) (ab : Option Addr) (cb : Nat) (b : List UInt8) (hb : Sees w ab b)
    (hlen : (fileOf d.files name).bytes.length + b.length ≤ 140737488355328) :
    Calls Try.prog 18 #[.agg #[.int .i64 room, .int .i64 steps, .slice fa l.length fc, .bool armed, .bool true, .int .i64 left], .string ⟨name.toArray⟩, .slice ab b.length cb] w (RefE ((⟨room, steps, fa, fc, l, armed, true, left⟩ : RD)).foot (appendD d name b) w) := by
  obtain ⟨w1, hw1, k1, bx, br, hsz⟩ := boxRR (⟨room, steps, fa, fc, l, armed, true, left⟩ : RD) w
  simp only at hw1 bx
  have hde : d.dead = true := hL.dead.symm
  have hsame : ∀ W, Kp [] w W → ∀ {n : Int}, appendD d name b = (d, n) → RefE ((⟨room, steps, fa, fc, l, armed, true, left⟩ : RD)).foot (appendD d name b) w (.returned (.tuple #[.agg #[.int .i64 room, .int .i64 steps, .slice fa l.length fc, .bool armed, .bool true, .int .i64 left], .int .i64 n])) W := fun W hkW n e => RefE.same hr hL hkW e
  have b0 := bx.c0; have b1 := bx.c1; have b2 := bx.c2; have b3 := bx.c3; have b4 := bx.c4; have b5 := bx.c5
  have r0 := br.c0; have r1 := br.c1; have r2 := br.c2; have r3 := br.c3; have r4 := br.c4; have r5 := br.c5
  have g0 := br.free 0; have g1 := br.free 1; have g2 := br.free 2; have g3 := br.free 3; have g4 := br.free 4; have g5 := br.free 5
  have e44 : appendD d name b = (d, 44) := by simp [appendD, hde]
  have hs2 := fun W hW => hsame W hW e44
  clear hde e44 hsame
  go_enter Try.func18, Try.ntmps18
  go_wp2_with fail
  obtain ⟨W', hW', hb6, kW'⟩ := set6_ex br (.int .i64 room) (.int .i64 steps) (.slice fa l.length fc) (.bool armed) (.bool true) (.int .i64 left)
  rw [hW']
  obtain ⟨z0, z1, z2, z3, z4, z5, _⟩ := hb6
  refine bodyPost_ret (v := .tuple #[.agg #[.int .i64 room, .int .i64 steps, .slice fa l.length fc, .bool armed, .bool true, .int .i64 left], .int .i64 44]) (by simp [results, Try.results18, go_sem, z0, z1, z2, z3, z4, z5]) rfl ?_
  exact hs2 _ (k1.trans kW' (fun x hx => .inr (by simp at hx; omega)))

set_option maxHeartbeats 16000000 in
set_option maxRecDepth 100000 in
theorem cRefAppendL (room steps : Int) (fa : Option Addr) (fc : Nat) (l : List RF) (armed : Bool) (left : Int) (d : Dk) (w : World) (hr : RdOk w (⟨room, steps, fa, fc, l, armed, false, left⟩ : RD)) (hL : Like (⟨room, steps, fa, fc, l, armed, false, left⟩ : RD) d) (ho : Okd d) (hl : l.length ≤ 1000000000) (hst : d.steps < 9000000000000000000) (name : List UInt8) (hk : name.length ≤ maxLen) (ab : Option Addr) (cb : Nat) (b : List UInt8) (hb : Sees w ab b)
    (hlen : (fileOf d.files name).bytes.length + b.length ≤ 140737488355328) :
    Calls Try.prog 18 #[.agg #[.int .i64 room, .int .i64 steps, .slice fa l.length fc, .bool armed, .bool false, .int .i64 left], .string ⟨name.toArray⟩, .slice ab b.length cb] w (RefE ((⟨room, steps, fa, fc, l, armed, false, left⟩ : RD)).foot (appendD d name b) w) := by
  obtain ⟨w1, hw1, k1, bx, br, hsz⟩ := boxRR (⟨room, steps, fa, fc, l, armed, false, left⟩ : RD) w
  simp only at hw1 bx
  have hde : d.dead = false := hL.dead.symm
  have hsame : ∀ W, Kp [] w W → ∀ {n : Int}, appendD d name b = (d, n) → RefE ((⟨room, steps, fa, fc, l, armed, false, left⟩ : RD)).foot (appendD d name b) w (.returned (.tuple #[.agg #[.int .i64 room, .int .i64 steps, .slice fa l.length fc, .bool armed, .bool false, .int .i64 left], .int .i64 n])) W := fun W hkW n e => RefE.same hr hL hkW e
  have b0 := bx.c0; have b1 := bx.c1; have b2 := bx.c2; have b3 := bx.c3; have b4 := bx.c4; have b5 := bx.c5
  have r0 := br.c0; have r1 := br.c1; have r2 := br.c2; have r3 := br.c3; have r4 := br.c4; have r5 := br.c5
  have g0 := br.free 0; have g1 := br.free 1; have g2 := br.free 2; have g3 := br.free 3; have g4 := br.free 4; have g5 := br.free 5
  have hr1 := hr.keptNew k1
  have hri := hL.rise ho
  have hlk := hL.look name
  have hroom := hL.room
  have hstep := hL.steps
  have hls := lens_sum hL
  have hor := ho.room
  have hos := ho.sum
  simp only at hri hlk hroom hstep hls
  have hnm : ∀ w, Calls Try.prog 33 #[.string ⟨name.toArray⟩] w fun e w' => e = .returned (.bool (nameOk name)) ∧ w' = w := fun w => cRefName ⟨name.toArray⟩ w (by simpa [ByteArray.size] using hk)
  have hfree := cRefFree (⟨room, steps, fa, fc, l, armed, false, left⟩ : RD) w1 hr1 (by simp only; omega) (by simp only; omega) (by simp only; omega) (by simp only; omega)
  have hfe : room - (lens l : Int) = freeD d := by rw [hroom, hls]; rfl
  simp only [RD.v] at hfree
  rw [hfe] at hfree
  have hWith : ∀ (f : RF) (W : World), RdOk W (⟨room, steps, fa, fc, l, armed, false, left⟩ : RD) → Calls Try.prog 38 #[.agg #[.int .i64 room, .int .i64 steps, .slice fa l.length fc, .bool armed, .bool false, .int .i64 left], f.v] W (WithP (⟨room, steps, fa, fc, l, armed, false, left⟩ : RD) (putG RF.name f false l) W) := fun f W h => cWith (⟨room, steps, fa, fc, l, armed, false, left⟩ : RD) f W h hl
  have hAt : ∀ W, RdOk W (⟨room, steps, fa, fc, l, armed, false, left⟩ : RD) → Calls Try.prog 35 #[.agg #[.int .i64 room, .int .i64 steps, .slice fa l.length fc, .bool armed, .bool false, .int .i64 left], .string ⟨name.toArray⟩] W (AtP l name W) := fun W h => cAt (⟨room, steps, fa, fc, l, armed, false, left⟩ : RD) name W h (by simp only; omega)
  have Hde := hid hde
  have Hroom := hid hroom
  have Hstep := hid hstep
  have Hlk := hid hlk
  clear hroom hfe hls hlk
  go_enter Try.func18, Try.ntmps18
  cases hn : nameOk name with
  | false =>
    have e40 : appendD d name b = (d, 40) := by simp [appendD, hde, hn]
    have hs2 := fun W hW => hsame W hW e40
    rw [hn] at hnm
    clear hde e40 hsame hn hstep
    go_wp2_with fail
    refine (hnm _).mono ?_
    rintro e w2 ⟨rfl, rfl⟩
    go_wp2_with fail
    obtain ⟨W', hW', hb6, kW'⟩ := set6_ex br (.int .i64 room) (.int .i64 steps) (.slice fa l.length fc) (.bool armed) (.bool false) (.int .i64 left)
    rw [hW']
    obtain ⟨z0, z1, z2, z3, z4, z5, _⟩ := hb6
    refine bodyPost_ret (v := .tuple #[.agg #[.int .i64 room, .int .i64 steps, .slice fa l.length fc, .bool armed, .bool false, .int .i64 left], .int .i64 40]) (by simp [results, Try.results18, go_sem, z0, z1, z2, z3, z4, z5]) rfl ?_
    exact hs2 _ (k1.trans kW' (fun x hx => .inr (by simp at hx; omega)))
  | true =>
    rw [hn] at hnm
    by_cases hfull : freeD d < (b.length : Int)
    · have e41 : appendD d name b = (d, 41) := by simp [appendD, hde, hn, hfull]
      have hs2 := fun W hW => hsame W hW e41
      clear hde e41 hsame hn hstep
      go_wp2_with fail
      refine (hnm _).mono ?_
      rintro e w2 ⟨rfl, rfl⟩
      go_wp2_with fail
      refine hfree.mono ?_
      rintro e w3 ⟨rfl, k3⟩
      have bb := bx.kept k3
      have rr := br.kept k3
      have q0 := bb.c0; have q1 := bb.c1; have q2 := bb.c2; have q3 := bb.c3; have q4 := bb.c4; have q5 := bb.c5
      have s0 := rr.c0; have s1 := rr.c1; have s2 := rr.c2; have s3 := rr.c3; have s4 := rr.c4; have s5 := rr.c5
      have t0 := rr.free 0; have t1 := rr.free 1; have t2 := rr.free 2; have t3 := rr.free 3; have t4 := rr.free 4; have t5 := rr.free 5
      go_wp2_with fail
      obtain ⟨W', hW', hb6, kW'⟩ := set6_ex rr (.int .i64 room) (.int .i64 steps) (.slice fa l.length fc) (.bool armed) (.bool false) (.int .i64 left)
      rw [hW']
      obtain ⟨z0, z1, z2, z3, z4, z5, _⟩ := hb6
      refine bodyPost_ret (v := .tuple #[.agg #[.int .i64 room, .int .i64 steps, .slice fa l.length fc, .bool armed, .bool false, .int .i64 left], .int .i64 41]) (by simp [results, Try.results18, go_sem, z0, z1, z2, z3, z4, z5]) rfl ?_
      exact hs2 _ ((k1.trans k3 (by simp)).trans kW' (fun x hx => .inr (by simp at hx; omega)))
    · have hap := append_done (b := b) hde hn (by omega)
      have Hap := hid hap
      clear hde hap hsame hn hstep
      go_wp2_with fail
      refine (hnm _).mono ?_
      rintro e w2 ⟨rfl, rfl⟩
      go_wp2_with fail
      refine hfree.mono ?_
      rintro e w3 ⟨rfl, k3⟩
      obtain ⟨w4, hw4⟩ : ∃ w4, Hid (w3.alloc (.cells #[.string ⟨name.toArray⟩, .slice none 0 0, .int .i64 0] 77) = w4) := ⟨_, rfl⟩
      have k4 : Kp [] w3 w4 := by rw [← hw4.out]; exact (Kp.refl _ _).alloc _
      have bf : B3 w4 w3.heap.size (.string ⟨name.toArray⟩) (.slice none 0 0) (.int .i64 0) := by rw [← hw4.out]; exact B3.at _ rfl _ _ _ _
      have k14 : Kp [] w2 w4 := k3.trans k4 (by simp)
      have bb := bx.kept k3
      have q0 := bb.c0; have q1 := bb.c1; have q2 := bb.c2; have q3 := bb.c3; have q4 := bb.c4; have q5 := bb.c5
      have aAt := hAt w4 (hr1.keptNew k14)
      have hs3 : w2.heap.size ≤ w3.heap.size := k3.size
      have hs4 : w.heap.size < w3.heap.size := by omega
      go_wp2_with fail
      rw [hw4.out]
      refine aAt.mono ?_
      rintro e w5 ⟨k5, (⟨j, x, rfl, hx, hxl⟩ | ⟨rfl, hnone⟩)⟩
      · have hxm : x ∈ l := List.mem_of_getElem? hx
        have hlx := Hlk.out
        rw [hxl] at hlx
        have hfo : fileOf d.files name = RF.fl x := fileOf_some hlx
        rw [hfo] at hlen
        simp only [RF.fl] at hlen
        have kw5 : Kp [] w w5 := (k1.trans k14 (by simp)).trans k5 (by simp)
        have hr5 := hr.keptNew kw5
        obtain ⟨g, o, ea, c0, c1, c2⟩ := hr5.fls.at hx
        simp only at ea
        subst ea
        have hjl : j < l.length := (List.getElem?_eq_some_iff.1 hx).1
        have bf5 := bf.kept k5
        have hq3' : w3.heap.size < w5.heap.size := bf5.lt
        obtain ⟨w55, hw55, bfx, k55⟩ := set3_ex bf5 (.string ⟨x.name.toArray⟩) (.slice x.ba x.bytes.length x.bc) (.int .i64 (x.last : Int))
        have f0 := bf5.c0; have f1 := bf5.c1; have f2 := bf5.c2
        have ff0 := bf5.free 0; have ff1 := bf5.free 1; have ff2 := bf5.free 2
        have m1 := bfx.c1
        have bb5 := bx.kept (k14.trans k5 (by simp))
        have y2 := bb5.c2
        have kb55 : Kp [] w2 w55 := (k14.trans k5 (by simp)).trans k55 (fun x hx => .inr (by simp at hx; omega))
        have kw55 : Kp [] w w55 := kw5.trans k55 (fun x hx => .inr (by simp at hx; omega))
        have hseex := hr.see x hxm
        have hjo := cJoined x.ba ab x.bc cb x.bytes b w55 (hseex.1.kept kw55 (by simp)) (hb.kept kw55 (by simp)) (by omega)
        have hq3 : w3.heap.size < w55.heap.size := bfx.lt
        clear hxl Hlk hlen hlx hx
        go_wp2_with fail
        refine hjo.mono ?_
        rintro e w6 ⟨ja, jc, rfl, hj6, k6, hjn⟩
        obtain ⟨ys, hys⟩ : ∃ ys, Hid (ys = x.bytes ++ b) := ⟨_, rfl⟩
        rw [← hys.out] at hj6 ⊢
        have bf6 := bfx.kept k6
        have p1 := bf6.c1
        have pf1 := bf6.free 1
        obtain ⟨w7, hw7⟩ : ∃ w7, w6.setCell ⟨w3.heap.size, 1, none⟩ (.slice ja ys.length jc) = w7 := ⟨_, rfl⟩
        have bf7 : B3 w7 w3.heap.size (.string ⟨x.name.toArray⟩) (.slice ja ys.length jc) (.int .i64 (x.last : Int)) := by rw [← hw7]; exact bf6.set1 _
        have k67 : Kp [w3.heap.size] w6 w7 := by rw [← hw7]; exact kpSet _ _ _ _
        have kw7 : Kp [] w w7 := (kw55.trans k6 (by simp)).trans k67 (fun x hx => .inr (by simp at hx; omega))
        have kb7 : Kp [] w2 w7 := (kb55.trans k6 (by simp)).trans k67 (fun x hx => .inr (by simp at hx; omega))
        have bb7 := bx.kept kb7
        have rr7 := br.kept kb7
        have y0 := bb7.c0; have y1 := bb7.c1; have y2 := bb7.c2; have y3 := bb7.c3; have y4 := bb7.c4; have y5 := bb7.c5
        have n0 := bf7.c0; have n1 := bf7.c1; have n2 := bf7.c2
        have aW := hWith ⟨x.name, ja, jc, ys, x.last⟩ w7 (hr.keptNew kw7)
        simp only [RF.v] at aW
        have hLp := hL.put ⟨x.name, ja, jc, ys, x.last⟩
        have hG : grownF d.files name b = putG Fl.name (RF.fl ⟨x.name, ja, jc, ys, x.last⟩) false d.files := by rw [hys.out]; simp only [grownF, hfo]; rfl
        rw [hG] at Hap
        have hfsee : ∀ W, Kp [] w6 W ∨ (∃ S, Kp S w6 W ∧ ∀ k ∈ blk ja, k ∉ S) → FSee W ⟨x.name, ja, jc, ys, x.last⟩ := fun W h => by
          obtain ⟨_, _, ej, hsj, hnj, hcj⟩ := Row.parts hj6
          cases ej
          rcases h with h | ⟨S, h, hS⟩
          · exact ⟨hsj.kept h (by simp), hnj, hcj⟩
          · exact ⟨hsj.kept h hS, hnj, hcj⟩
        clear hG hfo hjo
        go_wp2_with fail
        refine aW.mono ?_
        rintro e w8 ⟨a2, c2, rfl, hfl8, k8, ha2⟩
        have aS := cRefStep { (⟨room, steps, some ⟨g, o, none⟩, fc, l, armed, false, left⟩ : RD) with fa := a2, fc := c2, l := putG RF.name ⟨x.name, ja, jc, ys, x.last⟩ false l } w8 (by simp only; have := Hstep.out; omega)
        have hls := like_step (hLp a2 c2)
        have hsf := stepR_files { (⟨room, steps, some ⟨g, o, none⟩, fc, l, armed, false, left⟩ : RD) with fa := a2, fc := c2, l := putG RF.name ⟨x.name, ja, jc, ys, x.last⟩ false l }
        have hsw := stepD_with d (putG Fl.name (RF.fl ⟨x.name, ja, jc, ys, x.last⟩) false d.files)
        rw [hsw] at hls
        simp only at hls
        go_wp2_with fail
        refine aS.mono ?_
        rintro e w9 ⟨rfl, k9⟩
        generalize stepR { (⟨room, steps, some ⟨g, o, none⟩, fc, l, armed, false, left⟩ : RD) with fa := a2, fc := c2, l := putG RF.name ⟨x.name, ja, jc, ys, x.last⟩ false l } = sr at hls hsf ⊢
        obtain ⟨⟨room3, steps3, fa3, fc3, l3, armed3, dead3, left3⟩, dies⟩ := sr
        simp only at hls hsf
        obtain ⟨hL3, hdies⟩ := hls
        obtain ⟨ef3, el3⟩ := hsf
        have Hef := hid ef3
        have Hel := hid el3
        have Hdies := hid hdies
        simp only [RD.v]
        have kb9 : Kp [] w2 w9 := (kb7.trans k8 (by simp)).trans k9 (by simp)
        have bb9 := bx.kept kb9
        have rr9 := br.kept kb9
        obtain ⟨W1, hW1, hB1, kW1⟩ := set6_ex bb9 (.int .i64 room3) (.int .i64 steps3) (.slice fa3 l3.length fc3) (.bool armed3) (.bool dead3) (.int .i64 left3)
        have rrW := rr9.keptS kW1 (by simp)
        have p0 := bb9.c0; have p1 := bb9.c1; have p2 := bb9.c2; have p3 := bb9.c3; have p4 := bb9.c4; have p5 := bb9.c5
        have t0 := bb9.free 0; have t1 := bb9.free 1; have t2 := bb9.free 2; have t3 := bb9.free 3; have t4 := bb9.free 4; have t5 := bb9.free 5
        have u0 := hB1.c0; have u1 := hB1.c1; have u2 := hB1.c2; have u3 := hB1.c3; have u4 := hB1.c4; have u5 := hB1.c5
        have x0 := rrW.c0; have x1 := rrW.c1; have x2 := rrW.c2; have x3 := rrW.c3; have x4 := rrW.c4; have x5 := rrW.c5
        have h0 := rrW.free 0; have h1 := rrW.free 1; have h2 := rrW.free 2; have h3 := rrW.free 3; have h4 := rrW.free 4; have h5 := rrW.free 5
        obtain ⟨W2, hW2, hB2, kW2⟩ := set6_ex rrW (.int .i64 room3) (.int .i64 steps3) (.slice fa3 l3.length fc3) (.bool armed3) (.bool dead3) (.int .i64 left3)
        have kEnd : Kp [w.heap.size, w.heap.size + 1] w9 W2 := (kW1.mono (T := [w.heap.size, w.heap.size + 1]) (fun x hx => .inl (by simp at hx; simp [hx]))).trans kW2 (fun x hx => .inl (by simp at hx; simp [hx]))
        have kw9 : Kp [] w w9 := (kw7.trans k8 (by simp)).trans k9 (by simp)
        have kwE : Kp [] w W2 := kw9.trans kEnd (fun x hx => .inr (by simp at hx; omega))
        have hs7 : w6.heap.size ≤ w7.heap.size := k67.size
        have hs56 : w55.heap.size ≤ w6.heap.size := k6.size
        have hFin : RefE ((⟨room, steps, some ⟨g, o, none⟩, fc, l, armed, false, left⟩ : RD)).foot (appendD d name b) w (.returned (.tuple #[.agg #[.int .i64 room3, .int .i64 steps3, .slice fa3 l3.length fc3, .bool armed3, .bool dead3, .int .i64 left3], .int .i64 (if dies then 44 else 0)])) W2 := by
          rw [Hap.out, ← Hdies.out]
          refine ⟨_, rfl, ⟨room3, steps3, fa3, fc3, l3, armed3, dead3, left3⟩, rfl, ?_, hL3, kwE, ?_⟩
          · have h1 : RdOk W2 { (⟨room, steps, some ⟨g, o, none⟩, fc, l, armed, false, left⟩ : RD) with fa := a2, fc := c2, l := putG RF.name ⟨x.name, ja, jc, ys, x.last⟩ false l } := hr.put hri kwE (hfsee W2 (.inr ⟨[w3.heap.size, w.heap.size, w.heap.size + 1], ?_, fun k hk hm => ?_⟩)) c2 ((hfl8.kept k9 (by simp)).kept kEnd (fun k hk hm => ?_))
            · exact h1.files Hef.out Hel.out
            · refine ((k67.mono (T := [w3.heap.size, w.heap.size, w.heap.size + 1]) (fun x hx => .inl (by simp at hx; simp [hx]))).trans (k8.trans k9 (by simp)) (by simp)).trans kEnd (fun x hx => .inl ?_)
              simp at hx ⊢
              omega
            · have := hjn k hk
              simp at hm
              omega
            · have := ha2 k hk
              simp at hm
              omega
          · intro k hk
            rw [foot_same (r := { (⟨room, steps, some ⟨g, o, none⟩, fc, l, armed, false, left⟩ : RD) with fa := a2, fc := c2, l := putG RF.name ⟨x.name, ja, jc, ys, x.last⟩ false l }) Hef.out Hel.out] at hk
            exact foot_put hri c2 (n := w.heap.size) (fun k hk => by have := ha2 k hk; omega) (fun k hk => .inr (by have := hjn k hk; omega)) k hk
        clear hL3 hdies ef3 el3 Hef Hel Hdies hfl8 hfsee hLp
        obtain ⟨z0, z1, z2, z3, z4, z5, _⟩ := hB2
        cases dies
        · go_wp2_with fail
          exact bodyPost_ret (v := .tuple #[.agg #[.int .i64 room3, .int .i64 steps3, .slice fa3 l3.length fc3, .bool armed3, .bool dead3, .int .i64 left3], .int .i64 0]) (by simp [results, Try.results18, go_sem, z0, z1, z2, z3, z4, z5]) rfl hFin
        · go_wp2_with fail
          exact bodyPost_ret (v := .tuple #[.agg #[.int .i64 room3, .int .i64 steps3, .slice fa3 l3.length fc3, .bool armed3, .bool dead3, .int .i64 left3], .int .i64 44]) (by simp [results, Try.results18, go_sem, z0, z1, z2, z3, z4, z5]) rfl hFin
      · -- there is none of that name
        rw [hnone] at Hlk
        have hfo : fileOf d.files name = ⟨name, [], 0⟩ := fileOf_none Hlk.out
        have kw5 : Kp [] w w5 := (k1.trans k14 (by simp)).trans k5 (by simp)
        have bfx := bf.kept k5
        have f0 := bfx.c0; have f1 := bfx.c1; have f2 := bfx.c2
        have ff1 := bfx.free 1
        have bb5 := bx.kept (k14.trans k5 (by simp))
        have rr5 := br.kept (k14.trans k5 (by simp))
        have hjo := cJoined none ab 0 cb [] b w5 (.inl rfl) (hb.kept kw5 (by simp)) (by simp; omega)
        have hq3 : w3.heap.size < w5.heap.size := bfx.lt
        clear hnone Hlk hlen
        simp only [List.length_nil] at hjo
        go_wp2_with fail
        refine hjo.mono ?_
        rintro e w6 ⟨ja, jc, rfl, hj6, k6, hjn⟩
        simp only [List.nil_append] at hj6 ⊢
        have bf6 := bfx.kept k6
        have p1 := bf6.c1
        have pf1 := bf6.free 1
        obtain ⟨w7, hw7⟩ : ∃ w7, w6.setCell ⟨w3.heap.size, 1, none⟩ (.slice ja b.length jc) = w7 := ⟨_, rfl⟩
        have bf7 : B3 w7 w3.heap.size (.string ⟨name.toArray⟩) (.slice ja b.length jc) (.int .i64 0) := by rw [← hw7]; exact bf6.set1 _
        have k67 : Kp [w3.heap.size] w6 w7 := by rw [← hw7]; exact kpSet _ _ _ _
        have kw7 : Kp [] w w7 := (kw5.trans k6 (by simp)).trans k67 (fun x hx => .inr (by simp at hx; omega))
        have kb7 : Kp [] w2 w7 := ((k14.trans k5 (by simp)).trans k6 (by simp)).trans k67 (fun x hx => .inr (by simp at hx; omega))
        have bb7 := bx.kept kb7
        have rr7 := br.kept kb7
        have y0 := bb7.c0; have y1 := bb7.c1; have y2 := bb7.c2; have y3 := bb7.c3; have y4 := bb7.c4; have y5 := bb7.c5
        have n0 := bf7.c0; have n1 := bf7.c1; have n2 := bf7.c2
        have aW := hWith ⟨name, ja, jc, b, 0⟩ w7 (hr.keptNew kw7)
        simp only [RF.v] at aW
        have hLp := hL.put ⟨name, ja, jc, b, 0⟩
        have hG : grownF d.files name b = putG Fl.name (RF.fl ⟨name, ja, jc, b, 0⟩) false d.files := by simp only [grownF, hfo]; rfl
        rw [hG] at Hap
        have hfsee : ∀ W, Kp [] w6 W ∨ (∃ S, Kp S w6 W ∧ ∀ k ∈ blk ja, k ∉ S) → FSee W ⟨name, ja, jc, b, 0⟩ := fun W h => by
          obtain ⟨_, _, ej, hsj, hnj, hcj⟩ := Row.parts hj6
          cases ej
          rcases h with h | ⟨S, h, hS⟩
          · exact ⟨hsj.kept h (by simp), hnj, hcj⟩
          · exact ⟨hsj.kept h hS, hnj, hcj⟩
        clear hG hfo hjo
        go_wp2_with fail
        refine aW.mono ?_
        rintro e w8 ⟨a2, c2, rfl, hfl8, k8, ha2⟩
        have aS := cRefStep { (⟨room, steps, fa, fc, l, armed, false, left⟩ : RD) with fa := a2, fc := c2, l := putG RF.name ⟨name, ja, jc, b, 0⟩ false l } w8 (by simp only; have := Hstep.out; omega)
        have hls := like_step (hLp a2 c2)
        have hsf := stepR_files { (⟨room, steps, fa, fc, l, armed, false, left⟩ : RD) with fa := a2, fc := c2, l := putG RF.name ⟨name, ja, jc, b, 0⟩ false l }
        have hsw := stepD_with d (putG Fl.name (RF.fl ⟨name, ja, jc, b, 0⟩) false d.files)
        rw [hsw] at hls
        simp only at hls
        go_wp2_with fail
        refine aS.mono ?_
        rintro e w9 ⟨rfl, k9⟩
        generalize stepR { (⟨room, steps, fa, fc, l, armed, false, left⟩ : RD) with fa := a2, fc := c2, l := putG RF.name ⟨name, ja, jc, b, 0⟩ false l } = sr at hls hsf ⊢
        obtain ⟨⟨room3, steps3, fa3, fc3, l3, armed3, dead3, left3⟩, dies⟩ := sr
        simp only at hls hsf
        obtain ⟨hL3, hdies⟩ := hls
        obtain ⟨ef3, el3⟩ := hsf
        have Hef := hid ef3
        have Hel := hid el3
        have Hdies := hid hdies
        simp only [RD.v]
        have kb9 : Kp [] w2 w9 := (kb7.trans k8 (by simp)).trans k9 (by simp)
        have bb9 := bx.kept kb9
        have rr9 := br.kept kb9
        obtain ⟨W1, hW1, hB1, kW1⟩ := set6_ex bb9 (.int .i64 room3) (.int .i64 steps3) (.slice fa3 l3.length fc3) (.bool armed3) (.bool dead3) (.int .i64 left3)
        have rrW := rr9.keptS kW1 (by simp)
        have p0 := bb9.c0; have p1 := bb9.c1; have p2 := bb9.c2; have p3 := bb9.c3; have p4 := bb9.c4; have p5 := bb9.c5
        have t0 := bb9.free 0; have t1 := bb9.free 1; have t2 := bb9.free 2; have t3 := bb9.free 3; have t4 := bb9.free 4; have t5 := bb9.free 5
        have u0 := hB1.c0; have u1 := hB1.c1; have u2 := hB1.c2; have u3 := hB1.c3; have u4 := hB1.c4; have u5 := hB1.c5
        have x0 := rrW.c0; have x1 := rrW.c1; have x2 := rrW.c2; have x3 := rrW.c3; have x4 := rrW.c4; have x5 := rrW.c5
        have h0 := rrW.free 0; have h1 := rrW.free 1; have h2 := rrW.free 2; have h3 := rrW.free 3; have h4 := rrW.free 4; have h5 := rrW.free 5
        obtain ⟨W2, hW2, hB2, kW2⟩ := set6_ex rrW (.int .i64 room3) (.int .i64 steps3) (.slice fa3 l3.length fc3) (.bool armed3) (.bool dead3) (.int .i64 left3)
        have kEnd : Kp [w.heap.size, w.heap.size + 1] w9 W2 := (kW1.mono (T := [w.heap.size, w.heap.size + 1]) (fun x hx => .inl (by simp at hx; simp [hx]))).trans kW2 (fun x hx => .inl (by simp at hx; simp [hx]))
        have kw9 : Kp [] w w9 := (kw7.trans k8 (by simp)).trans k9 (by simp)
        have kwE : Kp [] w W2 := kw9.trans kEnd (fun x hx => .inr (by simp at hx; omega))
        have hs7 : w6.heap.size ≤ w7.heap.size := k67.size
        have hs56 : w5.heap.size ≤ w6.heap.size := k6.size
        have hFin : RefE ((⟨room, steps, fa, fc, l, armed, false, left⟩ : RD)).foot (appendD d name b) w (.returned (.tuple #[.agg #[.int .i64 room3, .int .i64 steps3, .slice fa3 l3.length fc3, .bool armed3, .bool dead3, .int .i64 left3], .int .i64 (if dies then 44 else 0)])) W2 := by
          rw [Hap.out, ← Hdies.out]
          refine ⟨_, rfl, ⟨room3, steps3, fa3, fc3, l3, armed3, dead3, left3⟩, rfl, ?_, hL3, kwE, ?_⟩
          · have h1 : RdOk W2 { (⟨room, steps, fa, fc, l, armed, false, left⟩ : RD) with fa := a2, fc := c2, l := putG RF.name ⟨name, ja, jc, b, 0⟩ false l } := hr.put hri kwE (hfsee W2 (.inr ⟨[w3.heap.size, w.heap.size, w.heap.size + 1], ?_, fun k hk hm => ?_⟩)) c2 ((hfl8.kept k9 (by simp)).kept kEnd (fun k hk hm => ?_))
            · exact h1.files Hef.out Hel.out
            · refine ((k67.mono (T := [w3.heap.size, w.heap.size, w.heap.size + 1]) (fun x hx => .inl (by simp at hx; simp [hx]))).trans (k8.trans k9 (by simp)) (by simp)).trans kEnd (fun x hx => .inl ?_)
              simp at hx ⊢
              omega
            · have := hjn k hk
              simp at hm
              omega
            · have := ha2 k hk
              simp at hm
              omega
          · intro k hk
            rw [foot_same (r := { (⟨room, steps, fa, fc, l, armed, false, left⟩ : RD) with fa := a2, fc := c2, l := putG RF.name ⟨name, ja, jc, b, 0⟩ false l }) Hef.out Hel.out] at hk
            exact foot_put hri c2 (n := w.heap.size) (fun k hk => by have := ha2 k hk; omega) (fun k hk => .inr (by have := hjn k hk; omega)) k hk
        clear hL3 hdies ef3 el3 Hef Hel Hdies hfl8 hfsee hLp
        obtain ⟨z0, z1, z2, z3, z4, z5, _⟩ := hB2
        cases dies
        · go_wp2_with fail
          exact bodyPost_ret (v := .tuple #[.agg #[.int .i64 room3, .int .i64 steps3, .slice fa3 l3.length fc3, .bool armed3, .bool dead3, .int .i64 left3], .int .i64 0]) (by simp [results, Try.results18, go_sem, z0, z1, z2, z3, z4, z5]) rfl hFin
        · go_wp2_with fail
          exact bodyPost_ret (v := .tuple #[.agg #[.int .i64 room3, .int .i64 steps3, .slice fa3 l3.length fc3, .bool armed3, .bool dead3, .int .i64 left3], .int .i64 44]) (by simp [results, Try.results18, go_sem, z0, z1, z2, z3, z4, z5]) rfl hFin

theorem cRefAppend (r : RD) (d : Dk) (w : World) (hr : RdOk w r) (hL : Like r d) (ho : Okd d) (hl : r.l.length ≤ 1000000000) (hst : d.steps < 9000000000000000000) (name : List UInt8) (hk : name.length ≤ maxLen) (ab : Option Addr) (cb : Nat) (b : List UInt8) (hb : Sees w ab b)
    (hlen : (fileOf d.files name).bytes.length + b.length ≤ 140737488355328) : Calls Try.prog 18 #[r.v, .string ⟨name.toArray⟩, .slice ab b.length cb] w (RefE r.foot (appendD d name b) w) := by
  obtain ⟨room, steps, fa, fc, l, armed, dead, left⟩ := r
  cases dead
  · exact cRefAppendL room steps fa fc l armed left d w hr hL ho hl hst name hk ab cb b hb hlen
  · exact cRefAppendD room steps fa fc l armed left d w hr hL ho hl hst name hk ab cb b hb hlen
end Go.Proofs.Ytgllkonbgigcbab

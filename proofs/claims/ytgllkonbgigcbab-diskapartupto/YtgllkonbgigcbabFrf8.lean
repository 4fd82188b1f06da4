/- The reference's calls Do and Flip on a disk without files. -/
import Derived.Test.YtgllkonbgigcbabFrf7
namespace Go.Proofs.Ytgllkonbgigcbab
open Go.RowKit Go.Hay
set_option linter.unusedVariables false
set_option linter.unusedSimpArgs false

theorem doD0 {d : Dk} (h : d.files = []) (call : Int) (name to : List UInt8) (n : Int) : doD d call name to n = (d, refusedD d call name to n) ∧ refusedD d call name to n ≠ 0 := by
  have h1 : refusedD d call name to n ≠ 0 := by
    unfold refusedD
    rw [h]
    simp only [lookG, List.find?_nil]
    split <;> decide
  refine ⟨?_, h1⟩
  unfold doD
  rw [if_pos h1]
set_option maxHeartbeats 16000000 in
set_option maxRecDepth 100000 in
theorem cRefDo0 (r : RD) (d : Dk) (w : World) (hr : RdOk w r) (hL : Like r d) (h0 : d.files = []) (call : Int) (name to : List UInt8) (hto : to.length ≤ maxLen) (n : Int) :
    Calls Try.prog 19 #[r.v, .int .i64 call, .string ⟨name.toArray⟩, .string ⟨to.toArray⟩, .int .i64 n] w (RefE r.foot (doD d call name to n) w) := by
  obtain ⟨w1, hw1, k1, bx, br, hsz⟩ := boxRR r w
  have hl : r.l.length ≤ 1000000000 := by have := hL.files; rw [h0, List.map_eq_nil_iff] at this; rw [this]; simp
  obtain ⟨e1, e2⟩ := doD0 h0 call name to n
  have hc := cRefused r d w1 (hr.keptNew k1) hL hl call name to hto n
  have hsame : ∀ W, Kp [] w W → RefE r.foot (doD d call name to n) w (.returned (.tuple #[.agg #[.int .i64 r.room, .int .i64 r.steps, .slice r.fa r.l.length r.fc, .bool r.armed, .bool r.dead, .int .i64 r.left], .int .i64 (refusedD d call name to n)])) W := fun W hkW => RefE.same hr hL hkW e1
  obtain ⟨z, hz⟩ : ∃ z, z = refusedD d call name to n := ⟨_, rfl⟩
  rw [← hz] at hc hsame e2
  clear hz e1 h0 hL hr
  obtain ⟨room, steps, fa, fc, l, armed, dead, left⟩ := r
  simp only [RD.v] at *
  have b0 := bx.c0; have b1 := bx.c1; have b2 := bx.c2; have b3 := bx.c3; have b4 := bx.c4; have b5 := bx.c5
  have r0 := br.c0; have r1 := br.c1; have r2 := br.c2; have r3 := br.c3; have r4 := br.c4; have r5 := br.c5
  go_enter Try.func19, Try.ntmps19
  go_wp2_with fail
  refine hc.mono ?_
  rintro e w2 ⟨rfl, k2⟩
  have bx2 := bx.kept k2
  have br2 := br.kept k2
  have b0 := bx2.c0; have b1 := bx2.c1; have b2 := bx2.c2; have b3 := bx2.c3; have b4 := bx2.c4; have b5 := bx2.c5
  have r0 := br2.c0; have r1 := br2.c1; have r2 := br2.c2; have r3 := br2.c3; have r4 := br2.c4; have r5 := br2.c5
  have g0 := br2.free 0; have g1 := br2.free 1; have g2 := br2.free 2; have g3 := br2.free 3; have g4 := br2.free 4; have g5 := br2.free 5
  have e3 : (z == 0) = false := by simpa using e2
  have e4 : (z != 0) = true := by simpa using e2
  go_wp2_with fail
  obtain ⟨W', hW', hb6, kW'⟩ := set6_ex br2 (.int .i64 room) (.int .i64 steps) (.slice fa l.length fc) (.bool armed) (.bool dead) (.int .i64 left)
  rw [hW']
  obtain ⟨z0, z1, z2, z3, z4, z5, _⟩ := hb6
  refine bodyPost_ret (v := .tuple #[.agg #[.int .i64 room, .int .i64 steps, .slice fa l.length fc, .bool armed, .bool dead, .int .i64 left], .int .i64 z]) (by simp [results, Try.results19, go_sem, z0, z1, z2, z3, z4, z5]) rfl ?_
  exact hsame _ ((k1.trans k2 (by simp)).trans kW' (fun x hx => .inr (by simp at hx; omega)))
def RefB (T : List Nat) (d : Dk) (b : Bool) (w : World) (e : Ending) (w' : World) : Prop := ∃ v, e = .returned (.tuple #[v, .bool b]) ∧ RefP T d w v w'
theorem flipD0 {d : Dk} (h : d.files = []) (name : List UInt8) (i b : Int) : flipOk d name i b = false ∧ flipD d name i b = d := by
  have h1 : flipOk d name i b = false := by
    unfold flipOk
    rw [h]
    simp [lookG, List.find?_nil]
  refine ⟨h1, ?_⟩
  unfold flipD
  rw [h1]
  simp
set_option maxHeartbeats 16000000 in
set_option maxRecDepth 100000 in
theorem cRefFlip0 (r : RD) (d : Dk) (w : World) (hr : RdOk w r) (hL : Like r d) (h0 : d.files = []) (name : List UInt8) (i b : Int) :
    Calls Try.prog 25 #[r.v, .string ⟨name.toArray⟩, .int .i64 i, .int .i64 b] w (RefB r.foot (flipD d name i b) (flipOk d name i b) w) := by
  obtain ⟨w1, hw1, k1, bx, br, hsz⟩ := boxRR r w
  have hl0 : r.l = [] := by have := hL.files; rwa [h0, List.map_eq_nil_iff] at this
  obtain ⟨e1, e2⟩ := flipD0 h0 name i b
  rw [e1, e2]
  have hc := cAt r name w1 (hr.keptNew k1) (by rw [hl0]; simp)
  have hfin : ∀ W, Kp [] w W → RefB r.foot d false w (.returned (.tuple #[.agg #[.int .i64 r.room, .int .i64 r.steps, .slice r.fa r.l.length r.fc, .bool r.armed, .bool r.dead, .int .i64 r.left], .bool false])) W := fun W hkW => ⟨_, rfl, r, rfl, hr.keptNew hkW, hL, hkW, fun k hk => .inl hk⟩
  have hno : ∀ e w', AtP r.l name w1 e w' → e = .returned (.int .i64 (-1)) ∧ Kp [] w1 w' := fun e w' h => by
    obtain ⟨hk, ⟨j, x, _, hx, _⟩ | ⟨he, _⟩⟩ := h
    · rw [hl0] at hx; simp at hx
    · exact ⟨he, hk⟩
  clear e1 e2 h0 hL hr hl0
  obtain ⟨room, steps, fa, fc, l, armed, dead, left⟩ := r
  simp only [RD.v] at *
  have b0 := bx.c0; have b1 := bx.c1; have b2 := bx.c2; have b3 := bx.c3; have b4 := bx.c4; have b5 := bx.c5
  have r0 := br.c0; have r1 := br.c1; have r2 := br.c2; have r3 := br.c3; have r4 := br.c4; have r5 := br.c5
  have hnoh := hid hno
  clear hno
  go_enter Try.func25, Try.ntmps25
  go_wp2_with fail
  refine hc.mono ?_
  intro e w2 he
  obtain ⟨rfl, k2⟩ := hnoh.out e w2 he
  clear he hc
  have bx2 := bx.kept k2
  have br2 := br.kept k2
  have b0 := bx2.c0; have b1 := bx2.c1; have b2 := bx2.c2; have b3 := bx2.c3; have b4 := bx2.c4; have b5 := bx2.c5
  have r0 := br2.c0; have r1 := br2.c1; have r2 := br2.c2; have r3 := br2.c3; have r4 := br2.c4; have r5 := br2.c5
  have g0 := br2.free 0; have g1 := br2.free 1; have g2 := br2.free 2; have g3 := br2.free 3; have g4 := br2.free 4; have g5 := br2.free 5
  go_wp2_with fail
  obtain ⟨W', hW', hb6, kW'⟩ := set6_ex br2 (.int .i64 room) (.int .i64 steps) (.slice fa l.length fc) (.bool armed) (.bool dead) (.int .i64 left)
  rw [hW']
  obtain ⟨z0, z1, z2, z3, z4, z5, _⟩ := hb6
  refine bodyPost_ret (v := .tuple #[.agg #[.int .i64 room, .int .i64 steps, .slice fa l.length fc, .bool armed, .bool dead, .int .i64 left], .bool false]) (by simp [results, Try.results25, go_sem, z0, z1, z2, z3, z4, z5]) rfl ?_
  exact hfin _ ((k1.trans k2 (by simp)).trans kW' (fun x hx => .inr (by simp at hx; omega)))
end Go.Proofs.Ytgllkonbgigcbab

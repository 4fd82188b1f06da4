/- The reference's calls refused, Append. -/
import Derived.Test.YtgllkonbgigcbabFrf4
namespace Go.Proofs.Ytgllkonbgigcbab
open Go.RowKit Go.Hay
set_option linter.unusedVariables false
set_option linter.unusedSimpArgs false

theorem Like.look {r : RD} {d : Dk} (h : Like r d) (k : List UInt8) : lookG Fl.name k d.files = (lookG RF.name k r.l).map RF.fl := by
  rw [← h.files]
  exact lookG_map (nm := RF.name) (nm' := Fl.name) RF.fl (fun _ => rfl) k r.l
/-- The reference's box, as it is made. -/
theorem boxR (r : RD) (w : World) : ∃ w1, w.alloc (.cells #[.int .i64 r.room, .int .i64 r.steps, .slice r.fa r.l.length r.fc, .bool r.armed, .bool r.dead, .int .i64 r.left] 32) = w1 ∧ Kp [] w w1 ∧ B6 w1 w.heap.size (.int .i64 r.room) (.int .i64 r.steps) (.slice r.fa r.l.length r.fc) (.bool r.armed) (.bool r.dead) (.int .i64 r.left) ∧ w.heap.size < w1.heap.size :=
  ⟨_, rfl, (Kp.refl _ _).alloc _, B6.at _ rfl _ _ _ _ _ _ _, by simp⟩
set_option maxHeartbeats 4000000 in
set_option maxRecDepth 100000 in
theorem cRefused (r : RD) (d : Dk) (w : World) (hr : RdOk w r) (hL : Like r d) (hl : r.l.length ≤ 1000000000) (call : Int) (name to : List UInt8) (hto : to.length ≤ maxLen) (n : Int) :
    Calls Try.prog 39 #[r.v, .int .i64 call, .string ⟨name.toArray⟩, .string ⟨to.toArray⟩, .int .i64 n] w fun e w' => e = .returned (.int .i64 (refusedD d call name to n)) ∧ Kp [] w w' := by
  obtain ⟨w1, hw1, k1, bx, hsz⟩ := boxR r w
  have hr1 := hr.keptNew k1
  have hAt := cAt r name w1 hr1 (by omega)
  have hlk := hL.look name
  have hdd := hL.dead
  have hnm : ∀ w, Calls Try.prog 33 #[.string ⟨to.toArray⟩] w fun e w' => e = .returned (.bool (nameOk to)) ∧ w' = w := fun w => cRefName ⟨to.toArray⟩ w (by simpa [ByteArray.size] using hto)
  obtain ⟨room, steps, fa, fc, l, armed, dead, left⟩ := r
  simp only [RD.v] at *
  have b0 := bx.c0; have b1 := bx.c1; have b2 := bx.c2; have b3 := bx.c3; have b4 := bx.c4; have b5 := bx.c5
  subst hdd
  go_enter Try.func39, Try.ntmps39
  go_wp2_with fail
  refine hAt.mono ?_
  rintro e w2 ⟨k2, (⟨j, x, rfl, hx, hxl⟩ | ⟨rfl, hnone⟩)⟩
  · rw [hxl] at hlk
    have kA : Kp [] w w2 := k1.trans k2 (by simp)
    have bb := bx.kept k2
    have d2 := bb.c2
    have d4 := bb.c4
    obtain ⟨g, o, ea, c0, c1, c2⟩ := (hr1.fls.kept k2 (by simp)).at hx
    simp only at ea
    have hjl : j < l.length := (List.getElem?_eq_some_iff.1 hx).1
    cases hde : d.dead with
    | true =>
      have hR : Hid (refusedD d call name to n = 44) := by show _ = _; simp [refusedD, hde]
      rw [hde] at d4
      clear hlk hx hxl hL hnm
      go_wp2_with fail
      go_ret
      exact ⟨by rw [hR.out]; rfl, kA⟩
    | false =>
      rw [hde] at d4
      by_cases h2 : call = 2
      · subst h2
        by_cases hn0 : n < 0
        · have hR : Hid (refusedD d 2 name to n = 43) := by show _ = _; simp [refusedD, hde, hlk, hn0]
          clear hlk hx hxl hL hnm
          go_wp2_with fail
          go_ret
          exact ⟨by rw [hR.out]; rfl, kA⟩
        · by_cases hn1 : (x.bytes.length : Int) < n
          · have hR : Hid (refusedD d 2 name to n = 43) := by show _ = _; simp [refusedD, hde, hlk, RF.fl, hn1]
            clear hlk hx hxl hL hnm
            subst ea
            go_wp2_with fail
            go_ret
            exact ⟨by rw [hR.out]; rfl, kA⟩
          · have hR : Hid (refusedD d 2 name to n = 0) := by show _ = _; simp [refusedD, hde, hlk, RF.fl]; omega
            clear hlk hx hxl hL hnm
            subst ea
            go_wp2_with fail
            go_ret
            exact ⟨by rw [hR.out]; rfl, kA⟩
      · have hc2 : (call == 2) = false := by simpa using h2
        by_cases h3 : call = 3
        · subst h3
          cases hok : nameOk to with
          | false =>
            have hR : Hid (refusedD d 3 name to n = 40) := by show _ = _; simp [refusedD, hde, hlk, hok]
            rw [hok] at hnm
            clear hlk hx hxl hL hok
            go_wp2_with fail
            refine (hnm _).mono ?_
            rintro e w3 ⟨rfl, rfl⟩
            go_wp2_with fail
            go_ret
            exact ⟨by rw [hR.out]; rfl, kA⟩
          | true =>
            have hR : Hid (refusedD d 3 name to n = 0) := by show _ = _; simp [refusedD, hde, hlk, hok]
            rw [hok] at hnm
            clear hlk hx hxl hL hok
            go_wp2_with fail
            refine (hnm _).mono ?_
            rintro e w3 ⟨rfl, rfl⟩
            go_wp2_with fail
            go_ret
            exact ⟨by rw [hR.out]; rfl, kA⟩
        · have hc3 : (call == 3) = false := by simpa using h3
          have hR : Hid (refusedD d call name to n = 0) := by show _ = _; simp [refusedD, hde, hlk, h2, h3]
          clear hlk hx hxl hL hnm h2 h3
          go_wp2_with fail
          go_ret
          exact ⟨by rw [hR.out]; rfl, kA⟩
  · rw [hnone] at hlk
    have kA : Kp [] w w2 := k1.trans k2 (by simp)
    have d4 := (bx.kept k2).c4
    cases hde : d.dead with
    | true =>
      have hR : Hid (refusedD d call name to n = 44) := by show _ = _; simp [refusedD, hde]
      rw [hde] at d4
      clear hlk hL hnm
      go_wp2_with fail
      go_ret
      exact ⟨by rw [hR.out]; rfl, kA⟩
    | false =>
      have hR : Hid (refusedD d call name to n = 42) := by show _ = _; simp [refusedD, hde, hlk]
      rw [hde] at d4
      clear hlk hL hnm
      go_wp2_with fail
      go_ret
      exact ⟨by rw [hR.out]; rfl, kA⟩
end Go.Proofs.Ytgllkonbgigcbab

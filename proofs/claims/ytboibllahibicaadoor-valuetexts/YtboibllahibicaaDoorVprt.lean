/- How a value is printed: the program's Print. -/
import Derived.Test.YtboibllahibicaaDoorVbld
namespace Go.Proofs.YtboibllahibicaaDoor
open Go.RowKit Go.Hay
set_option linter.unusedVariables false
set_option linter.unusedSimpArgs false

/-- A value's text. -/
def printB (x : Val) : List UInt8 :=
  if x.right = true then (if x.k = 0 then [110, 117, 108, 108] else if x.k = 1 then Lib.formatBool x.b else if x.k = 2 then Lib.itoa x.n else quoteB x.t.data.toList) else []
theorem right_kind {x : Val} (h : x.right = true) : x.k = 0 ∨ x.k = 1 ∨ x.k = 2 ∨ x.k = 3 := by
  unfold Val.right at h
  split at h
  · omega
  split at h
  · omega
  split at h
  · omega
  split at h
  · omega
  · cases h
theorem right_text {x : Val} (h : x.right = true) (hk : x.k = 3) : x.t.size ≤ 64 := by
  unfold Val.right at h
  rw [hk] at h
  simp at h
  omega

set_option maxHeartbeats 2000000 in
set_option maxRecDepth 100000 in
theorem cPrint (x : Val) (h0 : -9223372036854775808 ≤ x.n) (h1 : x.n ≤ 9223372036854775807) (w : World) (ht : Pow w) :
    Calls Tryd.prog 28 #[x.v] w fun e w' => e = .returned (.string ⟨(printB x).toArray⟩) ∧ Kp [] w w' := by
  have hR := cRight x
  obtain ⟨r, Hr⟩ : ∃ r : Bool, Hid (x.right = r) := ⟨_, rfl⟩
  rw [Hr.out] at hR
  have hkind : r = true → x.k = 0 ∨ x.k = 1 ∨ x.k = 2 ∨ x.k = 3 := fun h => right_kind (Hr.out.trans h)
  have htext : r = true → x.k = 3 → x.t.size ≤ 64 := fun h => right_text (Hr.out.trans h)
  have hP : printB x = if r = true then (if x.k = 0 then [110, 117, 108, 108] else if x.k = 1 then Lib.formatBool x.b else if x.k = 2 then Lib.itoa x.n else quoteB x.t.data.toList) else [] := by unfold printB; rw [Hr.out]
  generalize printB x = pb at *
  obtain ⟨k, b, n, t⟩ := x
  unfold Val.v at *
  dsimp only at hR hkind htext hP h0 h1
  have kw : Kp [] w (w.alloc (.cells #[.int .i64 k, .bool b, .int .i64 n, .string t] 25)) := (Kp.refl _ _).alloc _
  have bA := Box4.new w (.int .i64 k) (.bool b) (.int .i64 n) (.string t) 25
  clear Hr
  cases r
  · have HP : Hid (pb = []) := hP
    clear hP hkind htext
    go_enter Tryd.func28, Tryd.ntmps28
    go_wp2_with fail
    refine (hR _).mono ?_
    rintro e w1 ⟨rfl, k1⟩
    go_wp2_with fail
    go_ret
    exact ⟨by rw [HP.out]; rfl, kw.trans k1 (by simp)⟩
  · rw [if_pos rfl] at hP
    have hk4 := hkind rfl
    have h64 := htext rfl
    clear hkind htext
    rcases hk4 with rfl | rfl | rfl | rfl
    · have HP : Hid (pb = [110, 117, 108, 108]) := hP
      clear hP h64
      go_enter Tryd.func28, Tryd.ntmps28
      go_wp2_with fail
      refine (hR _).mono ?_
      rintro e w1 ⟨rfl, k1⟩
      have bA1 := bA.kept k1 (by simp)
      have kw1 := kw.trans k1 (by simp)
      have q0 := bA1.c0; have q1 := bA1.c1; have q2 := bA1.c2; have q3 := bA1.c3
      clear bA kw k1 hR
      go_wp2_with fail
      go_ret
      exact ⟨by rw [HP.out]; rfl, kw1⟩
    · have HP : Hid (pb = Lib.formatBool b) := hP
      clear hP h64
      go_enter Tryd.func28, Tryd.ntmps28
      go_wp2_with fail
      refine (hR _).mono ?_
      rintro e w1 ⟨rfl, k1⟩
      have bA1 := bA.kept k1 (by simp)
      have kw1 := kw.trans k1 (by simp)
      have q0 := bA1.c0; have q1 := bA1.c1; have q2 := bA1.c2; have q3 := bA1.c3
      clear bA kw k1 hR
      go_wp2_with fail
      refine (Tryd.strconv_FormatBool b _).mono ?_
      rintro e w2 ⟨rfl, rfl⟩
      go_wp2_with fail
      go_ret
      exact ⟨by rw [HP.out]; rfl, kw1⟩
    · have HP : Hid (pb = Lib.itoa n) := hP
      clear hP h64
      go_enter Tryd.func28, Tryd.ntmps28
      go_wp2_with fail
      refine (hR _).mono ?_
      rintro e w1 ⟨rfl, k1⟩
      have bA1 := bA.kept k1 (by simp)
      have kw1 := kw.trans k1 (by simp)
      have q0 := bA1.c0; have q1 := bA1.c1; have q2 := bA1.c2; have q3 := bA1.c3
      clear bA kw k1 hR
      go_wp2_with fail
      refine (cFormat n h0 h1 _ (ht.kept kw1)).mono ?_
      rintro e w2 ⟨rfl, k2⟩
      go_wp2_with fail
      go_ret
      exact ⟨by rw [HP.out]; rfl, kw1.trans k2 (by simp)⟩
    · have HP : Hid (pb = quoteB t.data.toList) := hP
      have h65 := h64 rfl
      clear hP h64
      go_enter Tryd.func28, Tryd.ntmps28
      go_wp2_with fail
      refine (hR _).mono ?_
      rintro e w1 ⟨rfl, k1⟩
      have bA1 := bA.kept k1 (by simp)
      have kw1 := kw.trans k1 (by simp)
      have q0 := bA1.c0; have q1 := bA1.c1; have q2 := bA1.c2; have q3 := bA1.c3
      clear bA kw k1 hR
      go_wp2_with fail
      refine (cQuote t _ h65).mono ?_
      rintro e w2 ⟨rfl, k2⟩
      go_wp2_with fail
      go_ret
      exact ⟨by rw [HP.out]; rfl, kw1.trans k2 (by simp)⟩
end Go.Proofs.YtboibllahibicaaDoor

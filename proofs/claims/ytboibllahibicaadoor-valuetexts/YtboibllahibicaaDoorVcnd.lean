/- What the reference guesses. -/
import Derived.Test.YtboibllahibicaaDoorVtxt
import Derived.Test.YtboibllahibicaaDoorVrpr
import Derived.Test.YtboibllahibicaaDoorVpar
import Derived.Test.YtboibllahibicaaDoorVinj
namespace Go.Proofs.YtboibllahibicaaDoor
open Go.RowKit Go.Hay
set_option linter.unusedVariables false
set_option linter.unusedSimpArgs false

/-- The reference's five guesses. -/
def cands (n : Int) (u : List UInt8) : List Val := [⟨0, false, 0, ⟨#[]⟩⟩, ⟨1, false, 0, ⟨#[]⟩⟩, ⟨1, true, 0, ⟨#[]⟩⟩, ⟨2, false, n, ⟨#[]⟩⟩, ⟨3, false, 0, ⟨u.toArray⟩⟩]
theorem cands_len (n : Int) (u : List UInt8) : (cands n u).length = 5 := rfl
theorem cands_in64 (n : Int) (u : List UInt8) (h0 : -9223372036854775808 ≤ n) (h1 : n ≤ 9223372036854775807) : ∀ x ∈ cands n u, x.in64 := by
  intro x hx
  simp [cands] at hx
  rcases hx with rfl | rfl | rfl | rfl | rfl
  · exact ⟨by decide, by decide⟩
  · exact ⟨by decide, by decide⟩
  · exact ⟨by decide, by decide⟩
  · exact ⟨h0, h1⟩
  · exact ⟨by show (-9223372036854775808 : Int) ≤ 0; omega, by show (0 : Int) ≤ 9223372036854775807; omega⟩
theorem cands_all (l u : List UInt8) (hu : ∀ t, l = quoteB t → u = t) (y : Val) (hy : y.right = true) (hy2 : y.in64) (hp : printB y = l) : y ∈ cands (integerV l) u := by
  have hk := right_kind hy
  have hP : printB y = if y.k = 0 then [110, 117, 108, 108] else if y.k = 1 then Lib.formatBool y.b else if y.k = 2 then Lib.itoa y.n else quoteB y.t.data.toList := by unfold printB; rw [hy]; rfl
  rcases hk with hk | hk | hk | hk
  · rw [right_null hy hk]
    simp [cands]
  · rw [right_bool hy hk]
    cases y.b <;> simp [cands]
  · rw [hk] at hP
    have hP2 : l = Lib.itoa y.n := by rw [← hp, hP]; rfl
    have h := integer_itoa y.n hy2.1 hy2.2
    rw [← hP2] at h
    rw [right_int hy hk, h]
    simp [cands]
  · rw [hk] at hP
    have hP2 : l = quoteB y.t.data.toList := by rw [← hp, hP]; rfl
    have h := hu _ hP2
    rw [(right_txt hy hk).1, h]
    simp [cands]
theorem print_right {x : Val} {l : List UInt8} (h : printB x = l) (hl : l ≠ []) : x.right = true := by
  cases hr : x.right with
  | true => rfl
  | false =>
    exfalso
    apply hl
    rw [← h]
    unfold printB
    rw [hr]
    rfl
end Go.Proofs.YtboibllahibicaaDoor

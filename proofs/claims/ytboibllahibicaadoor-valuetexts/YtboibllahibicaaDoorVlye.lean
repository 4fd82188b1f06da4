/- What the rows list of the library's errors; texts that came in. -/
import Derived.Test.YtboibllahibicaaDoorVlay
import Derived.Test.YtboibllahibicaaDoorVpar
import Derived.Stop.LaidErr
namespace Go.Proofs.YtboibllahibicaaDoor
open Go.ChangeShapes Go.WideShapes Go.ChangeAt Go.RowKit Go.Hay
set_option linter.unusedVariables false
set_option linter.unusedSimpArgs false

theorem gSynType : (Tryd.prog.globals[1]?).map (·.type) = some 71 := by kernel_rfl
theorem gRng : Tryd.prog.globalNamed "strconv.ErrRange" = some 2 := by kernel_rfl
theorem gRngType : (Tryd.prog.globals[2]?).map (·.type) = some 71 := by kernel_rfl
theorem cellsEs : Tryd.prog.cellsOf 116 = 1 := by kernel_rfl
theorem starEs : "*" ++ "errors.errorString" = "*errors.errorString" := by decide
theorem rowEs (u : TypeId) (h : Tryd.prog.typeName? 3 u = some "*errors.errorString") : u = 114 :=
  typeName_ptr_named (nm := "errors.errorString") (by rw [starEs]; kernel_rfl) (by kernel_rfl) (by decide) u (by rw [starEs]; exact h)
theorem errsOf {W : World} {a b c : String × DataW Unit} {r : List (String × DataW Unit)} (h : laidMet Tryd.prog (a :: b :: c :: ("strconv.ErrRange", Rows.laid_strconv_ErrRange) :: ("strconv.ErrSyntax", Rows.laid_strconv_ErrSyntax) :: r) W) : Errs W := by
  obtain ⟨a1, s1, h1, -, -, -⟩ := laid_sentinel h.tail.tail.tail gRng gRngType Tryd.underlying71 rowEs Tryd.underlying114 Tryd.underlying116 rfl rfl Tryd.underlying9 cellsEs cellsS
  obtain ⟨a2, s2, h2, -, -, -⟩ := laid_sentinel h.tail.tail.tail.tail gSyn gSynType Tryd.underlying71 rowEs Tryd.underlying114 Tryd.underlying116 rfl rfl Tryd.underlying9 cellsEs cellsS
  exact ⟨_, _, _, _, h2, h1⟩

set_option maxRecDepth 100000 in
theorem openStr {H : Type} {enc : TypeId × Value → H} {W : World} {base : Nat} {v : Value} {d : DataW H} {ps : List MemPlace} (hv : Value.okWide Tryd.prog W .any base 9 v)
    (h : DataW.Trod enc Tryd.prog W 0 (fun _ => true) true 9 v d ps) (hr : (DataW.weights Tryd.prog 9 d).all (· ≤ reachBytes) = true) : ∃ s : ByteArray, v = .string s ∧ s.size ≤ 140737488351232 := by
  obtain ⟨s, rfl⟩ := okWide_string Tryd.underlying9 hv
  obtain ⟨fuel, hf⟩ := h
  have hf' : DataW.trod enc Tryd.prog W 0 (fun _ => true) true fuel 9 [.string s] = some (d, ps) := hf
  obtain ⟨s2, e1, e2, h3⟩ := DataW.trod_string Tryd.underlying9 hf'
  simp at e1
  subst e1
  cases e2
  have h2 := of_decide_eq_true (List.all_eq_true.1 hr s.data.toList.length (by simp [DataW.weights, Tryd.underlying9]))
  refine ⟨s, rfl, ?_⟩
  rw [Lib.size_eq]
  simp only [reachBytes] at h2
  omega
end Go.Proofs.YtboibllahibicaaDoor

/- DiskApart: the walk, as the row asks it. -/
import Derived.Test.YtgllkonbgigcbabWap2
namespace Go.Proofs.Ytgllkonbgigcbab
open Go.ChangeShapes Go.WideShapes Go.ChangeAt Go.RowKit Go.Hay
set_option linter.unusedVariables false
set_option maxRecDepth 100000 in
theorem openStr {H : Type} {enc : TypeId × Value → H} {W : World} {base : Nat} {v : Value} {d : DataW H} {ps : List MemPlace} (hv : Value.okWide Try.prog W .any base 9 v)
    (h : DataW.Trod enc Try.prog W 0 (fun _ => true) true 9 v d ps) (hr : (DataW.weights Try.prog 9 d).all (· ≤ reachBytes) = true) : ∃ s : List UInt8, v = .string ⟨s.toArray⟩ ∧ s.length ≤ maxLen := by
  obtain ⟨s, rfl⟩ := okWide_string Try.underlying9 hv
  obtain ⟨fuel, hf⟩ := h
  have hf' : DataW.trod enc Try.prog W 0 (fun _ => true) true fuel 9 [.string s] = some (d, ps) := hf
  obtain ⟨s', e, hs⟩ := openS hf'
  exact ⟨s', e, hs⟩
theorem sumB_bulk' (l : List DOp) : sumB l ≤ (l.map fun y => y.b.bs.length + 1).sum := by
  induction l with
  | nil => simp [sumB]
  | cons o l ih => simp only [sumB, List.map_cons, List.sum_cons] at *; omega
theorem apartWalk' (a : Option Addr) (c : Nat) (l1 : List DOp) (name : List UInt8) (hname : name.length ≤ maxLen) (W : World) (hs1 : DOpE.See W a l1) (hok1 : ∀ o ∈ l1, o.ok W) (hb1 : (l1.map fun y => y.b.bs.length + 1).sum ≤ 1048576) (hn1 : l1.length ≤ 1048576) :
    Calls Try.prog 3 #[.slice a l1.length c, .string ⟨name.toArray⟩] W (fun e W' => e = .returned (.bool true) ∧ Below W.heap.size W W') :=
  (apartWalk a c l1 name hname W hs1 hok1 (Nat.le_trans (sumB_bulk' l1) hb1) hn1).mono fun e W' h => ⟨h.1, h.2.below⟩
end Go.Proofs.Ytgllkonbgigcbab

/- Arguments opened: slices of slices of bytes, of bools. -/
import Derived.Test.YtgegdlllmpinfaaNord
namespace Go.Proofs.Ytgegdlllmpinfaa
open Go.ChangeShapes Go.WideShapes Go.ChangeAt Go.RowKit Go.Hay
set_option linter.unusedVariables false

theorem cellsBool : Try.prog.cellsOf 4 = 1 := by kernel_rfl
theorem bytesBool : Try.prog.bytesOf 4 = 1 := by kernel_rfl
section
variable {H : Type} {enc : TypeId × Value → H} {W : World} {a : Option Addr} {len cap : Nat} {d : DataW H} {ps : List MemPlace}
theorem one_of {l : List Value} (h : l.length = 1) : ∃ v, l = [v] := by
  match l, h with
  | [v], _ => exact ⟨v, rfl⟩
theorem openBlists (h : DataW.Trod enc Try.prog W 0 (fun _ => true) true 26 (.slice a len cap) d ps) :
    ∃ l : List Bs, len = l.length ∧ BsE.See W a l ∧ (∀ y ∈ l, y.ok W) ∧ l.length ≤ cap ∧ cap ≤ maxLen ∧ (a = none → cap = 0) ∧ (Fit 26 d → cap * 24 ≤ 140737488351232 ∧ ∀ y ∈ l, Few y) ∧ (l.map fun y => y.bs.length + 1).sum ≤ Rows.uptoBulk d ∧ cap + 1 ≤ Rows.uptoBulk d :=
  openEls BsE Try.underlying26 cellsS 24 bytesS (fun y => y.ok W) Few (fun y => y.bs.length + 1) (fun fuel cs x hx hcs => by
    obtain ⟨v, rfl⟩ := one_of hcs
    obtain ⟨y, h1, h2, h3, h4⟩ := openByt hx
    exact ⟨y, h1, by rw [h2]; rfl, h3, h4⟩) h
theorem openBools (h : DataW.Trod enc Try.prog W 0 (fun _ => true) true 39 (.slice a len cap) d ps) :
    ∃ l : List Bool, len = l.length ∧ BoolE.See W a l ∧ (∀ y ∈ l, True) ∧ l.length ≤ cap ∧ cap ≤ maxLen ∧ (a = none → cap = 0) ∧ (Fit 39 d → cap * 1 ≤ 140737488351232 ∧ ∀ y ∈ l, True) ∧ (l.map fun _ => 0).sum ≤ Rows.uptoBulk d ∧ cap + 1 ≤ Rows.uptoBulk d :=
  openEls BoolE Try.underlying39 cellsBool 1 bytesBool (fun _ => True) (fun _ => True) (fun _ => 0) (fun fuel cs x hx hcs => by
    obtain ⟨b, rfl, _⟩ := DataW.trod_bool Try.underlying4 hx
    exact ⟨b, trivial, rfl, fun _ => trivial, Nat.zero_le _⟩) h
end
end Go.Proofs.Ytgegdlllmpinfaa

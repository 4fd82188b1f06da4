/- The law: no row's bytes are the beginning of another row's. -/
import Derived.Test.YtlehalhficlenaaRmth
import Derived.Test.YtlehalhficlenaaRali
namespace Go.Proofs.Ytlehalhficlenaa
open Go.RowKit Go.Hay
set_option linter.unusedVariables false
set_option linter.unusedSimpArgs false

theorem rowSees {w : World} {a : Option Addr} {n c : Nat} {bs : List UInt8} (h : Row w (.slice a n c) bs) : Sees w a bs ∧ bs.length ≤ c ∧ c ≤ maxLen := by
  rcases h with ⟨h, rfl⟩ | ⟨g, o, cap, h, hl, hm, hg, hc, ht⟩
  · simp only [Value.slice.injEq] at h
    obtain ⟨rfl, rfl, rfl⟩ := h
    exact ⟨.inl rfl, Nat.le_refl _, by unfold maxLen; omega⟩
  · simp only [Value.slice.injEq] at h
    obtain ⟨rfl, _, rfl⟩ := h
    exact ⟨.inr ⟨g, o, rfl, hc⟩, hl, hm⟩
theorem rowEmpty (w : World) {q : Nat} (hq : w.heap.size = q) (t : TypeId) : Row (w.alloc (.cells #[] t)) (.slice (some ⟨q, 0, none⟩) 0 0) [] := by
  subst hq
  exact .inr ⟨w.heap.size, 0, 0, rfl, Nat.le_refl _, by unfold maxLen; omega, by simp, fun j u hu => by simp at hu, fun j hj => by omega⟩
theorem newEmpty (w : World) (t : TypeId) : New w (.slice (some ⟨w.heap.size, 0, none⟩) 0 0) (w.alloc (.cells #[] t)) := ⟨kpNew _ _, by intro k hk; simp [own, Value.ownBlock] at hk; omega⟩

end Go.Proofs.Ytlehalhficlenaa

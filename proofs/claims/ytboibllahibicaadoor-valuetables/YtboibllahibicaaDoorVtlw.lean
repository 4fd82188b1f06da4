/- The law on tables: which may be, and which rows are one's. -/
import Derived.Test.YtboibllahibicaaDoorVrrw
import Derived.Test.YtboibllahibicaaDoorVotb
namespace Go.Proofs.YtboibllahibicaaDoor
open Go.RowKit Go.Hay
set_option linter.unusedVariables false
set_option linter.unusedSimpArgs false

theorem keepT {w wc w1 : World} {q : Nat} {a0 a1 : Value} (h : wc.cell? ⟨q, 0, none⟩ = some a0 ∧ wc.cell? ⟨q, 1, none⟩ = some a1 ∧ Kp [] w wc) (k : Kp [] wc w1) :
    w1.cell? ⟨q, 0, none⟩ = some a0 ∧ w1.cell? ⟨q, 1, none⟩ = some a1 ∧ Kp [] w w1 := ⟨kpAt k h.1, kpAt k h.2.1, h.2.2.trans k (by simp)⟩
theorem kpOfT {w wc : World} {q : Nat} {a0 a1 : Value} (h : wc.cell? ⟨q, 0, none⟩ = some a0 ∧ wc.cell? ⟨q, 1, none⟩ = some a1 ∧ Kp [] w wc) : Kp [] w wc := h.2.2

set_option maxHeartbeats 4000000 in
set_option maxRecDepth 100000 in
theorem tablesWalk (nm : ByteArray) (a : Option Addr) (ca : Nat) (l : List Col) (b : Option Addr) (nb cb : Nat) (r : List Val) (w : World) (ha : Cols w a l) (hl : l.length ≤ ca) (hm : ca ≤ maxLen) (hnb : nb = r.length) (hb : Vals w b r) (hr : r.length ≤ cb) (hmb : cb ≤ maxLen) (ht : Pow w) :
    Calls Tryd.prog 7 #[.agg #[.string nm, .slice a l.length ca], .slice b nb cb] w fun e w' => e = .returned (.bool true) ∧ Below w.heap.size w w' := by
  subst hnb
  unfold maxLen at hm hmb
  have h1 := fun w' (k : Kp [] w w') => cTable nm a ca l w' (ha.kept k) hl hm
  have h2 := fun w' (k : Kp [] w w') => cRefTable nm a ca l w' (ha.kept k) hl hm
  have h3 := fun w' (k : Kp [] w w') => cRow nm a ca l b cb r w' (ha.kept k) hl hm (hb.kept k) hr hmb
  have h4 := fun w' (k : Kp [] w w') => cRefRow nm a ca l b cb r w' (ha.kept k) hl hm (hb.kept k) hr hmb
  generalize tableV nm l = t at *
  generalize rowV nm l r = u at *
  have bT := Box2.new w (.string nm) (.slice a l.length ca) 41
  have kW : Kp [] w (w.alloc (.cells #[.string nm, .slice a l.length ca] 41)) := (Kp.refl _ _).alloc _
  go_enter Tryd.func7, Tryd.ntmps7
  go_wp2_with fail
  generalize (w.alloc (.cells #[.string nm, .slice a l.length ca] 41)) = W at *
  go_region_held3 (fun w' => w'.cell? ⟨w.heap.size, 0, none⟩ = some (.string nm) ∧ w'.cell? ⟨w.heap.size, 1, none⟩ = some (.slice a l.length ca) ∧ Kp [] w w')
    (first | exact ⟨bT.c0, bT.c1, kW.drew⟩ | exact keepT (by assumption) (by assumption))
    (first
      | (go_at_call 13; refine (cAlive _ (ht.kept kW.drew)).mono ?_; rintro e w1 ⟨rfl, k1⟩)
      | (go_at_call 22; refine (h1 _ (kpOfT (by assumption))).mono ?_; rintro e w1 ⟨rfl, k1⟩)
      | (go_at_call 23; refine (h2 _ (kpOfT (by assumption))).mono ?_; rintro e w1 ⟨rfl, k1⟩)
      | (go_at_call 24; refine (h3 _ (kpOfT (by assumption))).mono ?_; rintro e w1 ⟨rfl, k1⟩)
      | (go_at_call 25; refine (h4 _ (kpOfT (by assumption))).mono ?_; rintro e w1 ⟨rfl, k1⟩))
  go_wp2_with fail
  go_ret
  exact ⟨rfl, (kpOfT (by assumption)).below⟩
end Go.Proofs.YtboibllahibicaaDoor

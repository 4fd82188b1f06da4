/- Clone. -/
import Derived.Test.YtgllkonbgigcbabDcra
namespace Go.Proofs.Ytgllkonbgigcbab
open Go.RowKit Go.Hay Go.Maps Go.Sort Go.Shelf
attribute [local go_sem] Oper.semAt_some
set_option linter.unusedVariables false
set_option linter.unusedSimpArgs false

def DiskP (d : Dk) (w : World) (e : Ending) (w' : World) : Prop := ∃ p mb xs, e = .returned (.pointer (some ⟨p, 0, none⟩)) ∧ Disk w' p mb xs d ∧ Kp [] w w' ∧ ∀ k ∈ foot p mb xs, w.heap.size ≤ k
theorem cell_kp {W W' : World} {a : Addr} {v : Value} (hk : Kp [] W W') (hc : W.cell? a = some v) : W'.cell? a = some v := (hk.cell (World.block_lt_of_cell? _ _ hc) (by simp)).trans hc
def takeD (d : Dk) (i : Nat) : Dk := { d with files := d.files.take i }
theorem takeD_succ {xs : List Ent} {d : Dk} (hfl : d.files = xs.map Ent.fl) {i : Nat} {x : Ent} (hx : xs[i]? = some x) : takeD d (i + 1) = { takeD d i with files := (takeD d i).files ++ [x.fl] } := by
  simp only [takeD]
  congr 1
  rw [List.take_add_one, hfl]
  simp [hx]
theorem before_take {xs : List Ent} {d : Dk} (hfl : d.files = xs.map Ent.fl) (hr : riseG Ent.name xs) {i : Nat} {x : Ent} (hx : xs[i]? = some x) : ∀ f ∈ (takeD d i).files, bytesBefore f.name x.name = true := fun f hf => by
  simp only [takeD, hfl] at hf
  rw [← List.map_take] at hf
  obtain ⟨y, hy, rfl⟩ := List.mem_map.1 hf
  obtain ⟨j, hj, rfl⟩ := List.mem_take_iff_getElem.1 hy
  obtain ⟨hi, rfl⟩ := List.getElem?_eq_some_iff.1 hx
  exact List.pairwise_iff_getElem.1 hr j i (by omega) hi (by omega)

end Go.Proofs.Ytgllkonbgigcbab

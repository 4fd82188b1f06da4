/- DiskWiped: the walk, as the row asks it. -/
import Derived.Test.YtgllkonbgigcbabWwip
namespace Go.Proofs.Ytgllkonbgigcbab
open Go.RowKit Go.Hay
set_option linter.unusedVariables false
theorem sumB_bulk (l : List DOp) : sumB l ≤ (l.map fun y => y.b.bs.length + 1).sum := by
  induction l with
  | nil => simp [sumB]
  | cons o l ih => simp only [sumB, List.map_cons, List.sum_cons] at *; omega
theorem wipedWalk' (room : Int) (hroom : room < 9223372036854775808) (a : Option Addr) (c : Nat) (l1 : List DOp) (a' : Option Addr) (c' : Nat) (l2 : List DOp) (W : World) (hs1 : DOpE.See W a l1) (hok1 : ∀ o ∈ l1, o.ok W) (hs2 : DOpE.See W a' l2) (hok2 : ∀ o ∈ l2, o.ok W)
    (hb1 : (l1.map fun y => y.b.bs.length + 1).sum ≤ 1048576) (hn1 : l1.length ≤ 1048576) (hb2 : (l2.map fun y => y.b.bs.length + 1).sum ≤ 1048576) (hn2 : l2.length ≤ 1048576) :
    Calls Try.prog 4 #[.int .i64 room, .slice a l1.length c, .slice a' l2.length c'] W (fun e W' => e = .returned (.bool true) ∧ Below W.heap.size W W') :=
  (wipedWalk room hroom a c l1 a' c' l2 W hs1 hok1 hs2 hok2 (Nat.le_trans (sumB_bulk l1) hb1) hn1 (Nat.le_trans (sumB_bulk l2) hb2) hn2).mono fun e W' h => ⟨h.1, h.2.below⟩
end Go.Proofs.Ytgllkonbgigcbab

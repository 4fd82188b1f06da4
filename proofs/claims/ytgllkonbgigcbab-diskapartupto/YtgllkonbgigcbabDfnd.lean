/- What is found of a file behind a crash. -/
import Derived.Test.YtgllkonbgigcbabDnms
import Derived.RegionTactic
import Derived.BigRegion
namespace Go.Proofs.Ytgllkonbgigcbab
open Go.RowKit Go.Hay Go.Maps
set_option linter.unusedVariables false
set_option linter.unusedSimpArgs false

def FoundP (x : Ent) (k : Int) (w : World) (e : Ending) (w' : World) : Prop := ∃ b v, e = .returned (.pointer (some ⟨b, 0, none⟩)) ∧ FileAt w' ⟨x.name, b, v, (keptF x.fl k).bytes, (keptF x.fl k).last⟩ ∧ Kp [] w w' ∧ ∀ j ∈ b :: own v, w.heap.size ≤ j
set_option maxHeartbeats 2000000 in
set_option maxRecDepth 100000 in
theorem cFound {w : World} {x : Ent} (hf : FileAt w x) (hle : x.last ≤ x.bytes.length) (hb : x.bytes.length ≤ 140737488355328) (k : Int) (hk0 : -9223372036854775808 ≤ k) (hk1 : k < 9223372036854775808) :
    Calls Try.prog 32 #[.pointer (some ⟨x.blk, 0, none⟩), .int .i64 k] w (FoundP x k w) := by
  have c1 := hf.box.c1
  have c0 := hf.box.c0
  obtain ⟨a, c, ev, hsee, hnil, hcap⟩ := Row.parts hf.row
  rw [ev] at c0
  have hxl := hf.box.lt
  obtain ⟨m, hm⟩ : ∃ m : Nat, m = min k.toNat (x.bytes.length - x.last) := ⟨_, rfl⟩
  have hlast : (keptF x.fl k).last = x.last + m := by rw [hm]; rfl
  have hbytes : (keptF x.fl k).bytes = x.bytes.take (x.last + m) := by rw [hm]; rfl
  have hmle : x.last + m ≤ x.bytes.length := by omega
  have hc := cCloneB a c (x.bytes.take (x.last + m)) w.drew (hsee.front _) (fun h => ⟨by rw [(hnil h).1]; simp, (hnil h).2⟩) (by rw [List.length_take]; omega)
  rw [List.length_take, Nat.min_eq_left hmle] at hc
  have hlen : (x.bytes.take (x.last + m)).length = x.last + m := by rw [List.length_take, Nat.min_eq_left hmle]
  have hfin : ∀ a' c' w1, Row w1 (.slice a' (x.last + m) c') (x.bytes.take (x.last + m)) → Kp [] w w1 → (∀ k ∈ blk a', w.heap.size ≤ k) → FoundP x k w (.returned (.pointer (some ⟨w1.heap.size, 0, none⟩))) (w1.alloc (.cells #[.slice a' (x.last + m) c', .int .i64 ((x.last + m : Nat) : Int)] 65)) := fun a' c' w1 hr hk hn => by
    have ka : Kp [] w1 (w1.alloc (.cells #[.slice a' (x.last + m) c', .int .i64 ((x.last + m : Nat) : Int)] 65)) := (Kp.refl _ _).alloc _
    refine ⟨w1.heap.size, .slice a' (x.last + m) c', rfl, ⟨?_, ?_, ?_⟩, hk.trans ka (by simp), fun j hj => ?_⟩
    · rw [hlast]; exact Fx.at _ rfl _
    · rw [hbytes]; exact hr.kept ka (by simp)
    · intro hm'
      exact Nat.lt_irrefl _ (hr.lt _ hm')
    · rcases List.mem_cons.1 hj with rfl | hj
      · exact hk.size
      · rw [own_slice] at hj; exact hn j hj
  go_enter Try.func32, Try.ntmps32
  have H1 := hid hlen
  have H2 := hid hbytes
  have H3 := hid hlast
  have H4 := hid hm
  have H5 := hid ev
  clear hlen hbytes hlast hm ev hnil hsee
  have e1 : min (max k 0) ((x.bytes.length : Int) - x.last) = (m : Int) := by rw [H4.out]; omega
  go_wp2_with fail
  go_region
  clear e1
  go_wp2_with fail
  refine hc.mono ?_
  rintro e w1 ⟨a', c', rfl, hr, hk', hnew⟩
  rw [H1.out] at hr
  have hf2 := hfin a' c' w1 hr (((Kp.refl [] w).drew).trans hk' (by simp)) hnew
  rw [H1.out]
  clear hfin hr H1 H2 H3 H4 H5
  rw [Int.natCast_add] at hf2
  go_wp2_with fail
  go_ret
  exact hf2
end Go.Proofs.Ytgllkonbgigcbab

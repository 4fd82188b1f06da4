/- A value's bytes, more: the program's putKey, the reference's One. -/
import Derived.Test.YtkmcdngeddiocabRput
namespace Go.Proofs.Ytkmcdngeddiocab
open Go.RowKit Go.Hay
set_option linter.unusedVariables false
set_option linter.unusedSimpArgs false

theorem escK_take (l : List UInt8) (j : Nat) (h : j < l.length) : escK (l.take (j + 1)) = escK (l.take j) ++ (if l[j] = 0 then [0, 255] else [l[j]]) := by
  unfold escK
  rw [List.take_succ_eq_append_getElem h, List.flatMap_append]
  simp
theorem escK_length (l : List UInt8) : (escK l).length ≤ 2 * l.length := by
  induction l with
  | nil => simp [escK]
  | cons x l ih =>
    have e : escK (x :: l) = (if x = 0 then [0, 255] else [x]) ++ escK l := by simp [escK]
    rw [e, List.length_append, List.length_cons]
    split <;> simp <;> omega
theorem notOwn {a : Option Addr} {n c : Nat} {bs : List UInt8} {w : World} {o : Obj} {v' : Value} {w' : World} (hr : Row w (.slice a n c) bs) (hg : Grew (.slice a n c) (w.alloc o) v' w') : w.heap.size ∉ own v' := fun h => by
  rcases hg.new _ h with h1 | h1
  · have := hr.lt _ h1; omega
  · simp at h1; omega

/-- A row that grew, all new. -/
structure New (w : World) (v : Value) (w' : World) : Prop where
  kp : Kp [] w w'
  own : ∀ k ∈ Go.Hay.own v, w.heap.size ≤ k
theorem New.grew {w w1 w2 : World} {v v' : Value} (h : New w v w1) (g : Grew v w1 v' w2) : New w v' w2 := by
  obtain ⟨a, b⟩ := g.fresh h.kp h.own
  exact ⟨a, b⟩
theorem New.post {w w1 w2 : World} {v : Value} (h : New w v w1) (k : Kp [] w1 w2) : New w v w2 := ⟨h.kp.trans k (by simp), h.own⟩
theorem New.nil {w w' : World} (k : Kp [] w w') (c : Nat) : New w (.slice none 0 c) w' := ⟨k, by simp [Go.Hay.own, Value.ownBlock]⟩
theorem New.pre {w w0 w1 : World} {v : Value} (k : Kp [] w w0) (h : New w0 v w1) : New w v w1 := ⟨k.trans h.kp (by simp), fun x hx => Nat.le_trans k.size (h.own x hx)⟩

end Go.Proofs.Ytkmcdngeddiocab

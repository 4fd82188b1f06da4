/- How each law begins: a new net, and answers that the document fixes. -/
import Derived.Test.YtgegdlllmpinfaaNop2
namespace Go.Proofs.Ytgegdlllmpinfaa
open Go.RowKit Go.Hay
set_option linter.unusedVariables false
set_option linter.unusedSimpArgs false

theorem nt1 : putN ⟨2, []⟩ ⟨3, [7]⟩ = (⟨2, [⟨3, [7]⟩]⟩, 0) := by rfl
theorem nt2 : dblN ⟨2, [⟨3, [7]⟩]⟩ 0 = (⟨2, [⟨3, [7]⟩, ⟨3, [7]⟩]⟩, 0) := by rfl
theorem nt3 : putN ⟨2, [⟨3, [7]⟩, ⟨3, [7]⟩]⟩ ⟨3, []⟩ = (⟨2, [⟨3, [7]⟩, ⟨3, [7]⟩]⟩, 50) := by rfl
theorem nt4 : dropN ⟨2, [⟨3, [7]⟩, ⟨3, [7]⟩]⟩ 1 = ⟨2, [⟨3, [7]⟩]⟩ := by rfl
theorem nt5 : atN ⟨2, [⟨3, [7]⟩, ⟨3, [7]⟩]⟩ 1 = some ⟨3, [7]⟩ := by rfl
theorem sees_new (w : World) {q : Nat} (hq : w.heap.size = q) (C : Array Value) (t : TypeId) (bs : List UInt8) (h : C.toList = bcells bs) : Sees (w.alloc (.cells C t)) (some ⟨q, 0, none⟩) bs := by subst hq; exact Sees.new w C t (0, 0) bs h
def BegN (room : Int) (w : World) (e : Ending) (w' : World) : Prop := ∃ p, e = .returned (.tuple #[.pointer (some ⟨p, 0, none⟩), .bool true]) ∧ Net w' p (.slice none 0 0) ⟨room, []⟩ ∧ Kp [] w w' ∧ w.heap.size ≤ p
set_option maxHeartbeats 4000000 in
theorem cBegun (room : Int) (w : World) : Calls Try.prog 5 #[.int .i64 room] w (BegN room w) := by
  go_enter Try.func5, Try.ntmps5
  go_wp2_with fail
  refine (cNew 2 w).mono ?_
  rintro e w1 ⟨rfl, hN1, k1⟩
  obtain ⟨p, hp⟩ : ∃ p, p = w.heap.size := ⟨_, rfl⟩
  rw [← hp] at hN1 ⊢
  have hp0 : w.heap.size ≤ p := by omega
  have hpp := hid hp
  clear hp
  obtain ⟨w2, hw2⟩ : ∃ w2, w1.alloc (.cells #[.int .u8 7] 5) = w2 := ⟨_, rfl⟩
  have k2 : Kp [] w1 w2 := by rw [← hw2]; exact (Kp.refl _ _).alloc _
  have s2 : Sees w2 (some ⟨w1.heap.size, 0, none⟩) [7] := by rw [← hw2]; exact sees_new w1 rfl _ _ _ rfl
  have a1 := cSend (hN1.keptNew k2) (by simp) 3 _ 1 [7] s2
  rw [nt1] at a1
  simp only [List.length_cons, List.length_nil, Nat.reduceAdd] at a1
  go_wp2_with fail
  refine a1.mono ?_
  rintro e w3 ⟨v3, rfl, hN3, hW3⟩
  obtain ⟨q3, o3⟩ := stepW (k1.trans k2 (by simp)) hp0 (by simp [own, Value.ownBlock]) hW3
  have a2 := cDouble hN3 (by simp) 0
  rw [nt2] at a2
  go_wp2_with fail
  refine a2.mono ?_
  rintro e w4 ⟨v4, rfl, hN4, hW4⟩
  obtain ⟨q4, o4⟩ := stepW q3 hp0 o3 hW4
  have a3 := cSend hN4 (by simp) 3 none 0 [] (Sees.nil _ _)
  rw [nt3] at a3
  simp only [List.length_nil] at a3
  go_wp2_with fail
  refine a3.mono ?_
  rintro e w5 ⟨v5, rfl, hN5, hW5⟩
  obtain ⟨q5, o5⟩ := stepW q4 hp0 o4 hW5
  have a4 := cTake hN5 (by intro m hm; simp at hm; rcases hm with rfl | rfl <;> simp) (by simp) 1
  go_wp2_with fail
  refine a4.mono ?_
  rintro e w6 ⟨v6, hN6, hW6, he⟩
  rw [nt5] at he
  rw [nt4] at hN6
  obtain ⟨a, c, rfl, hr6, hn6, _⟩ := he
  simp only [List.length_cons, List.length_nil, Nat.reduceAdd] at hr6 ⊢
  obtain ⟨q6, o6⟩ := stepW q5 hp0 o5 hW6
  have a5 := cNew room w6
  go_wp2_with fail
  refine a5.mono ?_
  rintro e w7 ⟨rfl, hN7, k7⟩
  have a6 := cLen (hN6.keptNew k7)
  obtain ⟨a', c', er, hs, _⟩ := (hr6.kept k7 (by simp)).sees
  cases er
  obtain ⟨g, o, rfl, hc⟩ : ∃ g o, a = some ⟨g, o, none⟩ ∧ w7.cell? ⟨g, o, none⟩ = some (.int .u8 7) := by
    rcases hs with h | ⟨g, o, e, hc⟩
    · cases h
    · exact ⟨g, o, e, hc 0 7 rfl⟩
  have hfin : BegN room w (.returned (.tuple #[.pointer (some ⟨w6.heap.size, 0, none⟩), .bool true])) w7 := ⟨_, rfl, hN7, q6.trans k7 (by simp), q6.size⟩
  clear hs hr6 hn6
  go_wp2_with fail
  refine a6.mono ?_
  rintro e w8 ⟨rfl, rfl⟩
  go_wp2_with fail
  go_returns
  exact hfin
end Go.Proofs.Ytgegdlllmpinfaa

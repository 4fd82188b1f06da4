/- The reference's calls Without, With. -/
import Derived.Test.YtgllkonbgigcbabFrf2
namespace Go.Proofs.Ytgllkonbgigcbab
open Go.RowKit Go.Hay
set_option linter.unusedVariables false
set_option linter.unusedSimpArgs false

def WithP (r : RD) (l' : List RF) (w : World) (e : Ending) (w' : World) : Prop := ∃ a' c', e = .returned ({ r with fa := a', fc := c', l := l' } : RD).v ∧ Fls w' a' l' ∧ Kp [] w w' ∧ ∀ k ∈ blk a', w.heap.size ≤ k
theorem dropG_snoc {k : List UInt8} {l : List RF} {j : Nat} {x : RF} (hx : l[j]? = some x) : dropG RF.name k (l.take (j + 1)) = dropG RF.name k (l.take j) ++ (if x.name == k then [] else [x]) := by
  rw [List.take_add_one, hx]
  simp only [dropG, List.filter_append, Option.toList_some]
  congr 1
  cases h : x.name == k <;> simp [h]
theorem set6_ex {W : World} {q : Nat} {a0 b0 c0 d0 e0 f0 : Value} (h : B6 W q a0 b0 c0 d0 e0 f0) (a b c d e f : Value) : ∃ W', (((((W.setCell ⟨q, 0, none⟩ a).setCell ⟨q, 1, none⟩ b).setCell ⟨q, 2, none⟩ c).setCell ⟨q, 3, none⟩ d).setCell ⟨q, 4, none⟩ e).setCell ⟨q, 5, none⟩ f = W' ∧ B6 W' q a b c d e f ∧ Kp [q] W W' := by
  have k : ∀ (A : World) (j : Nat) (u : Value), Kp [q] W A → Kp [q] W (A.setCell ⟨q, j, none⟩ u) := fun A j u hA => hA.setCell (p := ⟨q, j, none⟩) (by simp) u
  refine ⟨_, rfl, ⟨?_, ?_, ?_, ?_, ?_, ?_, fun j => ?_⟩, k _ _ _ (k _ _ _ (k _ _ _ (k _ _ _ (k _ _ _ (k _ _ _ (Kp.refl _ _))))))⟩
  · rw [setCell_off (by decide), setCell_off (by decide), setCell_off (by decide), setCell_off (by decide), setCell_off (by decide)]; exact World.cell?_setCell_same _ _ _ h.c0
  · rw [setCell_off (by decide), setCell_off (by decide), setCell_off (by decide), setCell_off (by decide)]; exact World.cell?_setCell_same _ _ _ ((setCell_off (by decide) _).trans h.c1)
  · rw [setCell_off (by decide), setCell_off (by decide), setCell_off (by decide)]; exact World.cell?_setCell_same _ _ _ ((setCell_off (by decide) _).trans ((setCell_off (by decide) _).trans h.c2))
  · rw [setCell_off (by decide), setCell_off (by decide)]; exact World.cell?_setCell_same _ _ _ ((setCell_off (by decide) _).trans ((setCell_off (by decide) _).trans ((setCell_off (by decide) _).trans h.c3)))
  · rw [setCell_off (by decide)]; exact World.cell?_setCell_same _ _ _ ((setCell_off (by decide) _).trans ((setCell_off (by decide) _).trans ((setCell_off (by decide) _).trans ((setCell_off (by decide) _).trans h.c4))))
  · exact World.cell?_setCell_same _ _ _ ((setCell_off (by decide) _).trans ((setCell_off (by decide) _).trans ((setCell_off (by decide) _).trans ((setCell_off (by decide) _).trans ((setCell_off (by decide) _).trans h.c5)))))
  · simp only [World.frozen?_setCell]; exact h.free j
theorem B6.keptS {w w' : World} {q : Nat} {a b c d e f : Value} {S : List Nat} (h : B6 w q a b c d e f) (hk : Kp S w w') (hq : q ∉ S) : B6 w' q a b c d e f :=
  ⟨(hk.cell (p := ⟨q, _, none⟩) h.lt hq).trans h.c0, (hk.cell (p := ⟨q, _, none⟩) h.lt hq).trans h.c1, (hk.cell (p := ⟨q, _, none⟩) h.lt hq).trans h.c2, (hk.cell (p := ⟨q, _, none⟩) h.lt hq).trans h.c3, (hk.cell (p := ⟨q, _, none⟩) h.lt hq).trans h.c4, (hk.cell (p := ⟨q, _, none⟩) h.lt hq).trans h.c5, fun j => (hk.frozen (p := ⟨q, j, none⟩) h.lt hq).trans (h.free j)⟩
set_option maxHeartbeats 4000000 in
set_option maxRecDepth 100000 in
theorem cWithout (r : RD) (k : List UInt8) (w : World) (hr : RdOk w r) (hl : r.l.length ≤ 1000000000) : Calls Try.prog 40 #[r.v, .string ⟨k.toArray⟩] w (WithP r (dropG RF.name k r.l) w) := by
  obtain ⟨room, steps, fa, fc, l, armed, dead, left⟩ := r
  have hf := hr.fls
  simp only [RD.v] at *
  obtain ⟨w1, hw1⟩ : ∃ w1, w1 = (w.alloc (.cells #[.int .i64 room, .int .i64 steps, .slice fa l.length fc, .bool armed, .bool dead, .int .i64 left] 32)).alloc (.cells #[.int .i64 0, .int .i64 0, .slice none 0 0, .bool false, .bool false, .int .i64 0] 32) := ⟨_, rfl⟩
  have kb : Kp [] w w1 := by rw [hw1]; exact ((Kp.refl _ _).alloc _).alloc _
  have bx : B6 w1 w.heap.size (.int .i64 room) (.int .i64 steps) (.slice fa l.length fc) (.bool armed) (.bool dead) (.int .i64 left) := by rw [hw1]; exact (B6.at _ rfl _ _ _ _ _ _ _).kept ((Kp.refl _ _).alloc _)
  have br : B6 w1 (w.heap.size + 1) (.int .i64 0) (.int .i64 0) (.slice none 0 0) (.bool false) (.bool false) (.int .i64 0) := by rw [hw1]; exact B6.at _ (by simp) _ _ _ _ _ _ _
  have hs1 : w.heap.size + 2 ≤ w1.heap.size := by rw [hw1]; simp
  have hfb := hf.kept kb (by simp)
  clear hr hf
  go_enter Try.func40, Try.ntmps40
  have hal := hw1.symm
  clear hw1
  go_wp2_with fail
  go_loopw [5, 6] (fun v i wn => ∃ (j : Nat) (l' : List RF) (a : Option Addr) (c : Nat), j ≤ l.length ∧ i = .int .i64 j ∧ v = .slice a l'.length c ∧ RowF w1.heap.size wn (.slice a l'.length c) l' ∧ Hid (l' = dropG RF.name k (l.take j)) ∧ Kp [] w1 wn ∧ l'.length ≤ j) (fun _ i _ => l.length - (intOf i).toNat)
  case atStart => exact ⟨0, [], none, 0, Nat.zero_le _, rfl, rfl, RowF.nil _ _, rfl, Kp.refl _ _, Nat.le_refl _⟩
  case round =>
    obtain ⟨j, l', av, cv, hj, rfl, rfl, hrow, hl', hk, hlen⟩ := hrel
    have b2 := (bx.kept hk).c2
    by_cases hjl : j < l.length
    · obtain ⟨x, hx⟩ : ∃ x, l[j]? = some x := ⟨l[j], by simp [hjl]⟩
      have hsn := dropG_snoc (k := k) hx
      obtain ⟨g, o, rfl, c0, c1, c2⟩ := (hfb.kept hk (by simp)).at hx
      by_cases hn : x.name = k
      · have hn' : Hid (l' = dropG RF.name k (l.take (j + 1))) := by show _ = _; rw [hsn, hl'.out]; simp [hn]
        have he1 : (x.name == k) = true := by simpa using hn
        clear hsn hl' hx hn
        go_wp2_with fail
        exact ⟨⟨j + 1, l', _, _, by omega, by go_num, rfl, hrow, hn', hk, by omega⟩, by simp [intOf]; omega⟩
      · have hn' : Hid (l' ++ [x] = dropG RF.name k (l.take (j + 1))) := by show _ = _; rw [hsn, hl'.out]; simp [hn]
        have he1 : (x.name == k) = false := by simpa using hn
        clear hsn hl' hx hn
        go_wp2_with (first | (refine wpAppF rfl _ _ rfl w1 _ l' rfl hrow x _ rfl rfl (by omega) hk ?_; intro l2 a2 c2' w2 hl2 hrow2 hk2 hs2 hsame) | fail)
        have hl2' : l2.length ≤ j + 1 := by rw [hl2.out]; simp; omega
        exact ⟨⟨j + 1, l2, a2, c2', by omega, by go_num, rfl, hrow2, by show _ = _; rw [hl2.out]; exact hn'.out, hk2, hl2'⟩, by simp [intOf]; omega⟩
    · have e : j = l.length := by omega
      subst e
      have hn' : Hid (l' = dropG RF.name k l) := by show _ = _; rw [hl'.out, List.take_length]
      have bb := bx.kept hk
      have rr := br.kept hk
      have q0 := bb.c0
      have q1 := bb.c1
      have q3 := bb.c3
      have q4 := bb.c4
      have q5 := bb.c5
      have f2 := bb.free 2
      have r0 := rr.c0
      have r1 := rr.c1
      have r2 := rr.c2
      have r3 := rr.c3
      have r4 := rr.c4
      have r5 := rr.c5
      have g0 := rr.free 0
      have g1 := rr.free 1
      have g2 := rr.free 2
      have g3 := rr.free 3
      have g4 := rr.free 4
      have g5 := rr.free 5
      clear hl'
      go_wp2_with fail
      have kS : Kp [w.heap.size] wr (wr.setCell ⟨w.heap.size, 2, none⟩ (.slice av l'.length cv)) := (Kp.refl _ _).setCell (p := ⟨w.heap.size, 2, none⟩) (by simp) _
      obtain ⟨W', hW', hb6, kW'⟩ := set6_ex (rr.keptS kS (by simp)) (.int .i64 room) (.int .i64 steps) (.slice av l'.length cv) (.bool armed) (.bool dead) (.int .i64 left)
      rw [hW']
      obtain ⟨z0, z1, z2, z3, z4, z5, _⟩ := hb6
      obtain ⟨a', c', ea, hfl, _, _, hnew⟩ := hrow.fls
      cases ea
      have kA : Kp [w.heap.size, w.heap.size + 1] wr W' := (kS.mono (T := [w.heap.size, w.heap.size + 1]) (fun x hx => .inl (by simp at hx; simp [hx]))).trans kW' (fun x hx => .inl (by simp at hx; simp [hx]))
      refine bodyPost_ret (v := .agg #[.int .i64 room, .int .i64 steps, .slice av l'.length cv, .bool armed, .bool dead, .int .i64 left]) (by simp [results, Try.results40, go_sem, z0, z1, z2, z3, z4, z5]) rfl ?_
      refine ⟨av, cv, ?_, ?_, (kb.trans hk (by simp)).trans kA (fun x hx => .inr (by simp at hx; omega)), fun x hx => by have := hnew x hx; omega⟩
      · rw [← hn'.out]; rfl
      · rw [← hn'.out]; exact hfl.kept kA (fun x hx => by have := hnew x hx; simp; omega)
end Go.Proofs.Ytgllkonbgigcbab

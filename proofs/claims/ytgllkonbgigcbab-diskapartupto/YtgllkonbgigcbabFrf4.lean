/- The reference's call With. -/
import Derived.Test.YtgllkonbgigcbabFrf3
namespace Go.Proofs.Ytgllkonbgigcbab
open Go.RowKit Go.Hay
set_option linter.unusedVariables false
set_option linter.unusedSimpArgs false

theorem keepG {W W' : World} {v : Value} {g o : Nat} {u : Value} (h : ∀ k, k < W.heap.size → v.ownBlock ≠ some k → W'.heap[k]? = W.heap[k]?) (hc : W.cell? ⟨g, o, none⟩ = some u) (hne : v.ownBlock ≠ some g) : W'.cell? ⟨g, o, none⟩ = some u :=
  (World.cell?_of_block (a := ⟨g, o, none⟩) (h g (World.block_lt_of_cell? _ _ hc) hne)).trans hc
theorem rowF_lt {n0 : Nat} {w : World} {v : Value} {l : List RF} (h : RowF n0 w v l) : ∀ k, v.ownBlock = some k → k < w.heap.size := by
  obtain ⟨_, ⟨rfl, _⟩ | ⟨g, cap, cur, rfl, hb, hg, _⟩⟩ := h
  · intro k hk; cases hk
  · intro k hk; cases hk; exact (Array.getElem?_eq_some_iff.1 hg).1
theorem runLe (a b : List UInt8) (w : World) : (binOp .leq 9 (.string ⟨a.toArray⟩) (.string ⟨b.toArray⟩)).run Try.prog w = .ok (.bool (leN a b)) w := by
  have e : binOp .leq 9 (.string ⟨a.toArray⟩) (.string ⟨b.toArray⟩) = pure (.bool (Op.bytesLess (⟨a.toArray⟩ : ByteArray).toList (⟨b.toArray⟩ : ByteArray).toList || (⟨a.toArray⟩ : ByteArray).toList == (⟨b.toArray⟩ : ByteArray).toList)) := by simp [binOp, Op.stringOp]
  rw [e, strLe]
  rfl
set_option maxHeartbeats 8000000 in
set_option maxRecDepth 100000 in
theorem cWith (r : RD) (f : RF) (w : World) (hr : RdOk w r) (hl : r.l.length ≤ 1000000000) : Calls Try.prog 38 #[r.v, f.v] w (WithP r (putG RF.name f false r.l) w) := by
  obtain ⟨room, steps, fa, fc, l, armed, dead, left⟩ := r
  have hf := hr.fls
  simp only [RD.v, RF.v] at *
  obtain ⟨w1, hw1⟩ : ∃ w1, w1 = ((w.alloc (.cells #[.int .i64 room, .int .i64 steps, .slice fa l.length fc, .bool armed, .bool dead, .int .i64 left] 32)).alloc (.cells #[.string ⟨f.name.toArray⟩, .slice f.ba f.bytes.length f.bc, .int .i64 (f.last : Int)] 77)).alloc (.cells #[.int .i64 0, .int .i64 0, .slice none 0 0, .bool false, .bool false, .int .i64 0] 32) := ⟨_, rfl⟩
  have kb : Kp [] w w1 := by rw [hw1]; exact (((Kp.refl _ _).alloc _).alloc _).alloc _
  have bx : B6 w1 w.heap.size (.int .i64 room) (.int .i64 steps) (.slice fa l.length fc) (.bool armed) (.bool dead) (.int .i64 left) := by rw [hw1]; exact (B6.at _ rfl _ _ _ _ _ _ _).kept (((Kp.refl _ _).alloc _).alloc _)
  have br : B6 w1 (w.heap.size + 2) (.int .i64 0) (.int .i64 0) (.slice none 0 0) (.bool false) (.bool false) (.int .i64 0) := by rw [hw1]; exact B6.at _ (by simp) _ _ _ _ _ _ _
  have bf : ∀ j u, (RF.c f)[j]? = some u → w1.cell? ⟨w.heap.size + 1, j, none⟩ = some u := fun j u hu => by
    rw [hw1]
    have h0 := World.cell?_alloc_new (w.alloc (.cells #[.int .i64 room, .int .i64 steps, .slice fa l.length fc, .bool armed, .bool dead, .int .i64 left] 32)) #[.string ⟨f.name.toArray⟩, .slice f.ba f.bytes.length f.bc, .int .i64 (f.last : Int)] 77 j
    rw [World.size_alloc] at h0
    refine cell_kp ((Kp.refl _ _).alloc _) (h0.trans ?_)
    simpa [RF.c] using hu
  have bf0 := bf 0 _ rfl
  have bf1 := bf 1 _ rfl
  have bf2 := bf 2 _ rfl
  have hs1 : w.heap.size + 3 ≤ w1.heap.size := by rw [hw1]; simp
  have hfb := hf.kept kb (by simp)
  clear hr hf bf
  go_enter Try.func38, Try.ntmps38
  have hal := hw1.symm
  clear hw1
  go_wp2_with fail
  go_loopw [5, 6, 7] (fun v dn i wn => ∃ (j : Nat) (l' : List RF) (a : Option Addr) (c : Nat) (b : Bool), j ≤ l.length ∧ i = .int .i64 j ∧ v = .slice a l'.length c ∧ dn = .bool b ∧ RowF w1.heap.size wn (.slice a l'.length c) l' ∧ Hid (l' ++ putG RF.name f b (l.drop j) = putG RF.name f false l) ∧ Kp [] w1 wn ∧ l'.length ≤ 2 * j) (fun _ _ i _ => l.length - (intOf i).toNat)
  case atStart => exact ⟨0, [], none, 0, false, Nat.zero_le _, rfl, rfl, rfl, RowF.nil _ _, by show _ = _; simp, Kp.refl _ _, Nat.le_refl _⟩
  case round =>
    obtain ⟨j, l', av, cv, b, hj, rfl, rfl, rfl, hrow, hl', hk, hlen⟩ := hrel
    have b2 := (bx.kept hk).c2
    by_cases hjl : j < l.length
    · obtain ⟨x, hx⟩ : ∃ x, l[j]? = some x := ⟨l[j], by simp [hjl]⟩
      have hdr : l.drop j = x :: l.drop (j + 1) := by
        rw [List.drop_eq_getElem_cons hjl]
        congr 1
        simpa using List.getElem?_eq_some_iff.1 hx |>.2
      obtain ⟨g, o, rfl, c0, c1, c2⟩ := (hfb.kept hk (by simp)).at hx
      obtain ⟨wg, hwg⟩ : ∃ wg, wr.alloc (.cells #[.string ⟨x.name.toArray⟩, .slice x.ba x.bytes.length x.bc, .int .i64 (x.last : Int)] 77) = wg := ⟨_, rfl⟩
      have kg : Kp [] wr wg := by rw [← hwg]; exact (Kp.refl _ _).alloc _
      have hkg : Kp [] w1 wg := hk.trans kg (by simp)
      have hrowg := hrow.kept kg
      have g0 : wg.cell? ⟨wr.heap.size, 0, none⟩ = some (.string ⟨x.name.toArray⟩) := by rw [← hwg]; exact World.cell?_alloc_new wr _ _ 0
      have g1 : wg.cell? ⟨wr.heap.size, 1, none⟩ = some (.slice x.ba x.bytes.length x.bc) := by rw [← hwg]; exact World.cell?_alloc_new wr _ _ 1
      have g2 : wg.cell? ⟨wr.heap.size, 2, none⟩ = some (.int .i64 (x.last : Int)) := by rw [← hwg]; exact World.cell?_alloc_new wr _ _ 2
      have hgo : (Value.slice av l'.length cv).ownBlock ≠ some wr.heap.size := fun e => Nat.lt_irrefl _ (rowF_lt hrow _ e)
      have h1j := bf0
      have fb0 := cell_kp hkg bf0
      have fb1 := cell_kp hkg bf1
      have fb2 := cell_kp hkg bf2
      cases b with
      | true =>
        by_cases hn : x.name = f.name
        · have heq : (x.name == f.name) = true := by simpa using hn
          have hle : leN f.name x.name = true := by simp [leN, hn]
          clear hn
          have hn' : Hid ((l') ++ putG RF.name f true (l.drop (j + 1)) = putG RF.name f false l) := by show _ = _; rw [← hl'.out, hdr]; simp [putG, hle, heq]
          clear hl' hx hdr
          go_wp2_with fail
          exact ⟨⟨j + 1, l', av, cv, true, by omega, by go_num, rfl, rfl, hrowg, hn', hkg, by omega⟩, by simp [intOf]; omega⟩
        · have heq : (x.name == f.name) = false := by simpa using hn
          obtain ⟨bl, hle⟩ : ∃ bl, leN f.name x.name = bl := ⟨_, rfl⟩
          clear hn
          have hn' : Hid (((l') ++ [x]) ++ putG RF.name f true (l.drop (j + 1)) = putG RF.name f false l) := by show _ = _; rw [← hl'.out, hdr]; simp [putG, hle, heq]
          clear hl' hx hdr
          go_wp2_with (first | (refine wpAppF rfl _ _ rfl w1 _ l' rfl hrowg x _ rfl rfl (by omega) hkg ?_; intro l3 a3 c3' w3 hl3 hrow3 hk3 hs3 hsame3) | fail)
          exact ⟨⟨j + 1, l3, a3, c3', true, by omega, by go_num, rfl, rfl, hrow3, by show _ = _; rw [hl3.out]; exact hn'.out, hk3, by rw [hl3.out]; simp; omega⟩, by simp [intOf]; omega⟩
      | false =>
        cases hle : leN f.name x.name with
        | true =>
          have hle2 : ∀ W, (binOp .leq 9 (.string ⟨f.name.toArray⟩) (.string ⟨x.name.toArray⟩)).run Try.prog W = .ok (.bool true) W := fun W => by rw [runLe, hle]
          by_cases hn : x.name = f.name
          · have heq : (x.name == f.name) = true := by simpa using hn
            clear hn
            have hn' : Hid ((l' ++ [f]) ++ putG RF.name f true (l.drop (j + 1)) = putG RF.name f false l) := by show _ = _; rw [← hl'.out, hdr]; simp [putG, hle, heq]
            clear hl' hx hdr
            go_wp2_with (first | (refine wpAppF rfl _ _ rfl w1 _ l' rfl hrowg f _ rfl rfl (by omega) hkg ?_; intro l2 a2 c2' w2 hl2 hrow2 hk2 hs2 hsame; have g0' := keepG hsame g0 hgo; have g1' := keepG hsame g1 hgo; have g2' := keepG hsame g2 hgo; have fb0 := cell_kp hk2 bf0; have fb1 := cell_kp hk2 bf1; have fb2 := cell_kp hk2 bf2; have hln2 : l2.length ≤ 2 * j + 1 := (by rw [hl2.out]; simp; omega)) | fail)
            exact ⟨⟨j + 1, l2, a2, c2', true, by omega, by go_num, rfl, rfl, hrow2, by show _ = _; rw [hl2.out]; exact hn'.out, hk2, by rw [hl2.out]; simp; omega⟩, by simp [intOf]; omega⟩
          · have heq : (x.name == f.name) = false := by simpa using hn
            clear hn
            have hn' : Hid (((l' ++ [f]) ++ [x]) ++ putG RF.name f true (l.drop (j + 1)) = putG RF.name f false l) := by show _ = _; rw [← hl'.out, hdr]; simp [putG, hle, heq]
            clear hl' hx hdr
            go_wp2_with (first | (refine wpAppF rfl _ _ rfl w1 _ l2 rfl hrow2 x _ rfl rfl (by omega) hk2 ?_; intro l3 a3 c3' w3 hl3 hrow3 hk3 hs3 hsame3) | (refine wpAppF rfl _ _ rfl w1 _ l' rfl hrowg f _ rfl rfl (by omega) hkg ?_; intro l2 a2 c2' w2 hl2 hrow2 hk2 hs2 hsame; have g0' := keepG hsame g0 hgo; have g1' := keepG hsame g1 hgo; have g2' := keepG hsame g2 hgo; have fb0 := cell_kp hk2 bf0; have fb1 := cell_kp hk2 bf1; have fb2 := cell_kp hk2 bf2; have hln2 : l2.length ≤ 2 * j + 1 := (by rw [hl2.out]; simp; omega)) | fail)
            exact ⟨⟨j + 1, l3, a3, c3', true, by omega, by go_num, rfl, rfl, hrow3, by show _ = _; rw [hl3.out, hl2.out]; exact hn'.out, hk3, by rw [hl3.out, hl2.out]; simp; omega⟩, by simp [intOf]; omega⟩
        | false =>
          have hle2 : ∀ W, (binOp .leq 9 (.string ⟨f.name.toArray⟩) (.string ⟨x.name.toArray⟩)).run Try.prog W = .ok (.bool false) W := fun W => by rw [runLe, hle]
          have heq : (x.name == f.name) = false := by
            simp only [leN, Bool.or_eq_false_iff, beq_eq_false_iff_ne] at hle
            simpa using Ne.symm hle.2
          have hn' : Hid (((l') ++ [x]) ++ putG RF.name f false (l.drop (j + 1)) = putG RF.name f false l) := by show _ = _; rw [← hl'.out, hdr]; simp [putG, hle, heq]
          clear hl' hx hdr
          go_wp2_with (first | (refine wpAppF rfl _ _ rfl w1 _ l' rfl hrowg x _ rfl rfl (by omega) hkg ?_; intro l3 a3 c3' w3 hl3 hrow3 hk3 hs3 hsame3) | fail)
          exact ⟨⟨j + 1, l3, a3, c3', false, by omega, by go_num, rfl, rfl, hrow3, by show _ = _; rw [hl3.out]; exact hn'.out, hk3, by rw [hl3.out]; simp; omega⟩, by simp [intOf]; omega⟩
    · have e : j = l.length := by omega
      subst e
      have bb := bx.kept hk
      have rr := br.kept hk
      have q0 := bb.c0
      have q1 := bb.c1
      have q3 := bb.c3
      have q4 := bb.c4
      have q5 := bb.c5
      have f2 := bb.free 2
      have r0 := rr.c0
      have r1 := rr.c1
      have r2 := rr.c2
      have r3 := rr.c3
      have r4 := rr.c4
      have r5 := rr.c5
      have g0 := rr.free 0
      have g1 := rr.free 1
      have g2 := rr.free 2
      have g3 := rr.free 3
      have g4 := rr.free 4
      have g5 := rr.free 5
      rw [List.drop_length] at hl'
      cases b with
      | true =>
        have hn' : Hid (l' = putG RF.name f false l) := by show _ = _; rw [← hl'.out]; simp [putG]
        clear hl'
        go_wp2_with fail
        have kS : Kp [w.heap.size] wr (wr.setCell ⟨w.heap.size, 2, none⟩ (.slice av l'.length cv)) := (Kp.refl _ _).setCell (p := ⟨w.heap.size, 2, none⟩) (by simp) _
        obtain ⟨W', hW', hb6, kW'⟩ := set6_ex (rr.keptS kS (by simp)) (.int .i64 room) (.int .i64 steps) (.slice av l'.length cv) (.bool armed) (.bool dead) (.int .i64 left)
        rw [hW']
        obtain ⟨z0, z1, z2, z3, z4, z5, _⟩ := hb6
        obtain ⟨a', c', ea, hfl, _, _, hnew⟩ := hrow.fls
        cases ea
        have kA : Kp [w.heap.size, w.heap.size + 2] wr W' := (kS.mono (T := [w.heap.size, w.heap.size + 2]) (fun x hx => .inl (by simp at hx; simp [hx]))).trans kW' (fun x hx => .inl (by simp at hx; simp [hx]))
        refine bodyPost_ret (v := .agg #[.int .i64 room, .int .i64 steps, .slice av l'.length cv, .bool armed, .bool dead, .int .i64 left]) (by simp [results, Try.results38, go_sem, z0, z1, z2, z3, z4, z5]) rfl ?_
        refine ⟨av, cv, ?_, ?_, (kb.trans hk (by simp)).trans kA (fun x hx => .inr (by simp at hx; omega)), fun x hx => by have := hnew x hx; omega⟩
        · rw [← hn'.out]; rfl
        · rw [← hn'.out]; exact hfl.kept kA (fun x hx => by have := hnew x hx; simp; omega)
      | false =>
        have hn' : Hid (l' ++ [f] = putG RF.name f false l) := by show _ = _; rw [← hl'.out]; simp [putG]
        have fb0 := cell_kp hk bf0
        have fb1 := cell_kp hk bf1
        have fb2 := cell_kp hk bf2
        clear hl' q0 q1 q3 q4 q5 f2 r0 r1 r2 r3 r4 r5 g0 g1 g2 g3 g4 g5
        go_wp2_with (first | (refine wpAppF rfl _ _ rfl w1 _ l' rfl hrow f _ rfl rfl (by omega) hk ?_; intro l2 a2 c2' w2 hl2 hrow2 hk2 hs2 hsame; have bb := bx.kept hk2; have rr := br.kept hk2; have q0 := bb.c0; have q1 := bb.c1; have q2 := bb.c2; have q3 := bb.c3; have q4 := bb.c4; have q5 := bb.c5; have f2 := bb.free 2; have r0 := rr.c0; have r1 := rr.c1; have r2 := rr.c2; have r3 := rr.c3; have r4 := rr.c4; have r5 := rr.c5; have g0 := rr.free 0; have g1 := rr.free 1; have g2 := rr.free 2; have g3 := rr.free 3; have g4 := rr.free 4; have g5 := rr.free 5) | fail)
        have kS : Kp [w.heap.size] w2 (w2.setCell ⟨w.heap.size, 2, none⟩ (.slice a2 l2.length c2')) := (Kp.refl _ _).setCell (p := ⟨w.heap.size, 2, none⟩) (by simp) _
        obtain ⟨W', hW', hb6, kW'⟩ := set6_ex ((br.kept hk2).keptS kS (by simp)) (.int .i64 room) (.int .i64 steps) (.slice a2 l2.length c2') (.bool armed) (.bool dead) (.int .i64 left)
        rw [hW']
        obtain ⟨z0, z1, z2, z3, z4, z5, _⟩ := hb6
        obtain ⟨a', c', ea, hfl, _, _, hnew⟩ := hrow2.fls
        cases ea
        have kA : Kp [w.heap.size, w.heap.size + 2] w2 W' := (kS.mono (T := [w.heap.size, w.heap.size + 2]) (fun x hx => .inl (by simp at hx; simp [hx]))).trans kW' (fun x hx => .inl (by simp at hx; simp [hx]))
        refine bodyPost_ret (v := .agg #[.int .i64 room, .int .i64 steps, .slice a2 l2.length c2', .bool armed, .bool dead, .int .i64 left]) (by simp [results, Try.results38, go_sem, z0, z1, z2, z3, z4, z5]) rfl ?_
        refine ⟨a2, c2', ?_, ?_, (kb.trans hk2 (by simp)).trans kA (fun x hx => .inr (by simp at hx; omega)), fun x hx => by have := hnew x hx; omega⟩
        · rw [← hn'.out, ← hl2.out]; rfl
        · rw [← hn'.out, ← hl2.out]; exact hfl.kept kA (fun x hx => by have := hnew x hx; simp; omega)
end Go.Proofs.Ytgllkonbgigcbab

/- The law's own step, of a net: Drop, where there is one. The law's own step, of a net: Drop, where there is none. The law's own step, of a net: Double. A range over an iterator that makes memory of its own, which the rounds leave alone: a law. No statement of the seat is proved here. A net's messages that are told to one, given to a range: the inner iterator. A range over an iterator that ranges over another one: its own steps turn records of its own, and the rounds leave these alone: a law. No statement of the seat is proved here. A net's messages that are told to one, given to a range: how the outer iterator stands, what it may turn, and what the rounds must leave alone. -/
import Derived.Test.YtllhmbemcmigoaaB3
import Derived.RangeFuncNested
import Derived.RangeFuncBound
import Derived.RangeFuncCalls
import Derived.RangeFuncLeaves
import Derived.RangeFuncSeq
import Derived.Test.YtllhmbemcmigoaaB2
import Derived.Shelf.RegionOpen
import Derived.LoopIn
import Derived.LoopNIn
import Derived.OrdersIn
import Derived.TacticsInMore
import Derived.OwnWalkIn
import Derived.RegionIn
section
namespace Go.Proofs.Ytllhmbemcmigoaa
open Go.RowKit Go.Hay
set_option linter.unusedVariables false
set_option linter.unusedSimpArgs false

set_option maxHeartbeats 16000000 in
set_option maxRecDepth 100000 in
theorem cNStep3s {w : World} {p : Nat} {v : Value} {n : Nt} (hN : Net w p v n) (hB : Smalls n) (hb : n.l.length ≤ 6000000000000) (r : RN) (hr : RnOk w r) (hL : LikeN r n) (hT : ∀ k ∈ r.foot, k ∉ p :: own v) (o : NOp) (hok : o.ok w) (hk : o.kind = 3) {m : Msg} (ho : atN n o.n = some m) :
    Calls Try.prog 11 #[.pointer (some ⟨p, 0, none⟩), r.v, o.v] w (StN p v r o (dropN n o.n) w) := by
  obtain ⟨w1, hw1, k1, bx, hsz⟩ := boxCN r o w
  have hlt := hN.ltAll
  have hrl := hr.lt
  have hlr : r.l.length ≤ 6000000000000 := by have := hL.len; omega
  have hp0 : w.heap.size ∉ p :: own v := fun h => by have := hlt _ h; omega
  have hp1 : w.heap.size + 1 ∉ p :: own v := fun h => by have := hlt _ h; omega
  have hp2 : w.heap.size + 1 + 1 ∉ p :: own v := fun h => by have := hlt _ h; omega
  have hr2 : w.heap.size + 1 + 1 ∉ r.foot := fun h => by have := hrl _ h; omega
  have hC := cDrop (hN.keptNew k1) (by omega) o.n
  have hW0 : ∀ v' w2, Wrote p v w1 v' w2 → ∀ k ∈ p :: own v', k ∈ p :: own v ∨ w1.heap.size ≤ k := fun v' w2 hW k hk => by
    rcases List.mem_cons.1 hk with h | h
    · exact .inl (by simp [h])
    · rcases hW.new k h with h | h
      · exact .inl (by simp [h])
      · exact .inr h
  obtain ⟨kN, ekN, hm, hkl⟩ := atN_some ho
  have hkr : kN < r.l.length := by have := hL.len; omega
  have e2 : (decide (0 ≤ o.n) && decide (o.n < r.l.length)) = true := by simp; omega
  rw [ho] at hC
  simp only [Option.isSome] at hC
  have aT := fun A => cThere r o.n A
  rw [e2] at aT
  have hRO : Hid (∀ A, Kp (p :: own v) w A → Calls Try.prog 25 #[r.v, .int .i64 o.n] A (fun e w' => ∃ v, e = .returned v ∧ RefN r.foot (dropN n o.n) A v w')) := fun A kA => by rw [ekN]; exact cROut r n A (hr.kept kA hT) hL hlr kN hkr
  obtain ⟨nn, hnn⟩ : ∃ nn, nn = dropN n o.n := ⟨_, rfl⟩
  rw [← hnn] at hC hRO ⊢
  have hr0 : w.heap.size ∉ r.foot := fun h => by have := hrl _ h; omega
  have hfin : Hid (∀ w2 v' w3 w4 w5 (r' : RN), Net w2 p v' nn → Wrote p v w1 v' w2 → Kp [] w2 w3 → RnOk w4 r' → LikeN r' nn → Kp [] w3 w4 → (∀ k ∈ r'.foot, k ∈ r.foot ∨ w3.heap.size ≤ k) → Kp [w.heap.size] w4 w5 → ∀ W', Kp [w.heap.size + 1 + 1] w5 W' → StN p v r o nn w (.returned (.tuple #[.pointer (some ⟨p, 0, none⟩), r'.v, .bool true])) W') := fun w2 v' w3 w4 w5 r' hN2 hW k3 hr4 hL4 k4 hf4 k5 W' kW => by
    have kk : Kp (p :: own v) w w2 := (k1.mono (T := p :: own v) (by simp)).trans hW.kp (fun x hx => .inl hx)
    have hs1 := k1.size
    have hs2 := hW.kp.size
    have hs3 := k3.size
    have hnew := hW0 v' w2 hW
    have hq0 : w.heap.size ∉ p :: own v' := fun h => by
      rcases hnew _ h with h2 | h2
      · exact hp0 h2
      · omega
    have hq0r : w.heap.size ∉ r'.foot := fun h => by
      rcases hf4 _ h with h1 | h1
      · exact hr0 h1
      · omega
    refine stFinN ((((kk.trans k3 (by simp)).trans k4 (by simp)).trans k5 (fun x hx => .inr (by simp only [List.mem_singleton] at hx; omega)))) (((hN2.keptNew k3).keptNew k4).kept k5 (fun k hk h => by simp only [List.mem_singleton] at h; subst h; exact hq0 hk)) (hr4.kept k5 (fun k hk h => by simp only [List.mem_singleton] at h; subst h; exact hq0r hk)) hL4 (fun k hk => (hnew k hk).imp id (fun h => by omega)) (fun k hk => (hf4 k hk).imp (fun h => by simp [h]) (fun h => by omega)) (fun k hk h => ?_) (by omega) (fun h => ?_) (fun h => ?_) kW
    · rcases hf4 k hk with h1 | h1
      · rcases hnew k h with h2 | h2
        · exact hT k h1 h2
        · have := hrl k h1; omega
      · have := hN2.ltAll k h; omega
    · rcases hnew _ h with h2 | h2
      · exact hp2 h2
      · omega
    · rcases hf4 _ h with h1 | h1
      · exact hr2 h1
      · omega
  clear hL hr hT hrl ho e2 hW0 hnn hm ekN
  obtain ⟨room, la, lc, l⟩ := r
  simp only [RN.v, NOp.v] at *
  have b0 := bx.rd.c0; have b1 := bx.rd.c1
  have o0 := bx.o0; have o1 := bx.o1; have o2 := bx.o2; have o3 := bx.o3
  rw [hk] at o0 hw1 ⊢
  go_enter Try.func11, Try.ntmps11
  go_wp2_with fail
  refine hC.mono ?_
  rintro e w2 ⟨v', rfl, hN2, hW2⟩
  have kk : Kp (p :: own v) w w2 := (k1.mono (T := p :: own v) (by simp)).trans hW2.kp (fun x hx => .inl hx)
  have rd2 := bx.rd.keptS hW2.kp hp0
  have an2 := bx.an.keptS hW2.kp hp2
  have o2' : w2.cell? ⟨w.heap.size + 1, 2, none⟩ = some (.int .i64 o.n) := (hW2.kp.cell (p := ⟨w.heap.size + 1, 2, none⟩) (World.block_lt_of_cell? _ _ o2) hp1).trans o2
  clear b0 b1 o0 o1 o2 o3
  have b0 := rd2.c0; have b1 := rd2.c1
  go_wp2_with fail
  refine (aT w2).mono ?_
  rintro e w3 ⟨rfl, k3⟩
  have rd3 := rd2.kept k3
  have o3' := cell_kp k3 o2'
  clear b0 b1 o2'
  have b0 := rd3.c0; have b1 := rd3.c1
  have aO := hRO.out w3 (kk.trans k3 (by simp))
  go_wp2_with fail
  refine aO.mono ?_
  rintro e w4 ⟨vv, rfl, r', rfl, hr4, hL4, k4, hf4⟩
  have rd4 := rd3.kept k4
  obtain ⟨w5, hw5, rd5, k5⟩ := set2_ex rd4 (.int .i64 r'.room) (.slice r'.la r'.l.length r'.lc)
  have an5 := ((an2.kept k3).kept k4).keptS k5 (by simp <;> omega)
  have an6 := an5.kept (w' := w5.drew) (Kp.refl _ _).drew
  obtain ⟨r0, r1, rf⟩ := an6
  have hb4 : B2 w5.drew (w.heap.size + 1 + 1) (.int .i64 0) (.slice none 0 0) := ⟨r0, r1, rf⟩
  have g0 := rf 0; have g1 := rf 1
  have hfin2 : Hid (∀ W', Kp [w.heap.size + 1 + 1] w5.drew W' → StN p v _ o nn w (.returned (.tuple #[.pointer (some ⟨p, 0, none⟩), r'.v, .bool true])) W') := fun W' kW => hfin.out w2 v' w3 w4 w5.drew r' hN2 hW2 k3 hr4 hL4 k4 hf4 k5.drew W' kW
  obtain ⟨room', la', lc', l'⟩ := r'
  simp only [RN.v] at *
  have rdd := rd5.kept (w' := w5.drew) (Kp.refl _ _).drew
  have hS : Hid (∀ A, Kp [w.heap.size + 1 + 1] w5.drew A → (A.cell? ⟨w.heap.size, 0, none⟩ = some (.int .i64 room') ∧ A.cell? ⟨w.heap.size, 1, none⟩ = some (.slice la' l'.length lc'))) := fun A kA => by
    have b := rdd.keptS kA (by simp <;> omega)
    exact ⟨b.c0, b.c1⟩
  obtain ⟨s0, s1, sf⟩ := rd4
  have sf0 := sf 0; have sf1 := sf 1
  have hw5' := hid hw5
  clear hC hfin aT aO hRO b0 b1 o3' hr4 hL4 hf4 hw5
  go_wp2_with fail
  rw [hw5'.out]
  clear s0 s1 sf sf0 sf1
  refine wp_region_held_drew (S := (fun A => A.cell? ⟨w.heap.size, 0, none⟩ = some (.int .i64 room') ∧ A.cell? ⟨w.heap.size, 1, none⟩ = some (.slice la' l'.length lc'))) (by kernel_rfl) ?_ (fun hHeld => ?_)
  · exact hS.out _ (Kp.refl _ _)
  generalize w5.drew = wd at *
  refine wpAnyH_take (i := 0) (v := ?_) rfl (by kernel_rfl) (by kernel_rfl) (by kernel_rfl) (fun _ _ _ h => h) (Or.inl ⟨by rfl, ?_⟩) (by assumption) ?_
  rotate_left
  · intro w hSw; (try dsimp only at hSw); go_simp <;> with_reducible rfl
  try simp only [Act.put, List.getElem_toArray, List.getElem_cons_zero, List.getElem_cons_succ, List.setIfInBounds_toArray, List.set_cons_zero, List.set_cons_succ]
  refine wpAnyH_take (i := 1) (v := ?_) rfl (by kernel_rfl) (by kernel_rfl) (by kernel_rfl) (fun _ _ _ h => h) (Or.inl ⟨by rfl, ?_⟩) (by assumption) ?_
  rotate_left
  · intro w hSw; (try dsimp only at hSw); go_simp <;> with_reducible rfl
  try simp only [Act.put, List.getElem_toArray, List.getElem_cons_zero, List.getElem_cons_succ, List.setIfInBounds_toArray, List.set_cons_zero, List.set_cons_succ]
  refine wpAnyH_take (i := 2) (v := ?_) rfl (by kernel_rfl) (by kernel_rfl) (by kernel_rfl) (fun _ _ _ h => h) (Or.inl ⟨by rfl, ?_⟩) (by assumption) ?_
  rotate_left
  · intro w hSw; (try dsimp only at hSw); go_simp <;> with_reducible rfl
  try simp only [Act.put, List.getElem_toArray, List.getElem_cons_zero, List.getElem_cons_succ, List.setIfInBounds_toArray, List.set_cons_zero, List.set_cons_succ]
  refine wpAnyH_take (i := 3) (v := ?_) rfl (by kernel_rfl) (by kernel_rfl) (by kernel_rfl) (fun _ _ _ h => h) (Or.inl ⟨by rfl, ?_⟩) (by assumption) ?_
  rotate_left
  · intro w hSw; (try dsimp only at hSw); go_simp <;> with_reducible rfl
  try simp only [Act.put, List.getElem_toArray, List.getElem_cons_zero, List.getElem_cons_succ, List.setIfInBounds_toArray, List.set_cons_zero, List.set_cons_succ]
  refine wpAnyH_take (i := 4) (v := ?_) rfl (by kernel_rfl) (by kernel_rfl) (by kernel_rfl) (fun _ _ _ h => h) (Or.inl ⟨by rfl, ?_⟩) (by assumption) ?_
  rotate_left
  · intro w hSw; (try dsimp only at hSw); go_simp <;> with_reducible rfl
  try simp only [Act.put, List.getElem_toArray, List.getElem_cons_zero, List.getElem_cons_succ, List.setIfInBounds_toArray, List.set_cons_zero, List.set_cons_succ]
  refine wpAnyH_take (i := 5) (v := ?_) rfl (by kernel_rfl) (by kernel_rfl) (by kernel_rfl) (fun _ _ _ h => h) (Or.inl ⟨by rfl, ?_⟩) (by assumption) ?_
  rotate_left
  · intro w hSw; (try dsimp only at hSw); go_simp <;> with_reducible rfl
  try simp only [Act.put, List.getElem_toArray, List.getElem_cons_zero, List.getElem_cons_succ, List.setIfInBounds_toArray, List.set_cons_zero, List.set_cons_succ]
  refine wpAnyH_ready (rs := [6]) (by kernel_rfl) (by simp) ?_
  refine AllReadyH.cons rfl (fun K hK => ?_) AllReadyH.nil
  go_simp
  (try go_wp2_with fail)
  refine hK.out _ _ ?_ (fun hHeld => ?_)
  · exact hS.out _ (kpSet2 _ _ _ _)
  clear hK K
  try simp only [Act.put, List.getElem_toArray, List.getElem_cons_zero, List.getElem_cons_succ, List.setIfInBounds_toArray, List.set_cons_zero, List.set_cons_succ]
  refine wpAnyH_take (i := 7) (v := ?_) rfl (by kernel_rfl) (by kernel_rfl) (by kernel_rfl) (fun _ _ _ h => h) (Or.inl ⟨by rfl, ?_⟩) (by assumption) ?_
  rotate_left
  · intro w hSw; (try dsimp only at hSw); go_simp <;> with_reducible rfl
  try simp only [Act.put, List.getElem_toArray, List.getElem_cons_zero, List.getElem_cons_succ, List.setIfInBounds_toArray, List.set_cons_zero, List.set_cons_succ]
  refine wpAnyH_done (by kernel_rfl) ?_ _
  go_wp2_with fail
  obtain ⟨W', hW', hb6, kW'⟩ := set2_ex hb4 (.int .i64 room') (.slice la' l'.length lc')
  rw [hW']
  obtain ⟨z0, z1, _⟩ := hb6
  refine bodyPost_ret (v := .tuple #[.pointer (some ⟨p, 0, none⟩), .agg #[.int .i64 room', .slice la' l'.length lc'], .bool true]) (by simp [results, Try.results11, go_sem, z0, z1]) rfl ?_
  exact hfin2.out W' kW'
end Go.Proofs.Ytllhmbemcmigoaa
end

section
namespace Go.Proofs.Ytllhmbemcmigoaa
open Go.RowKit Go.Hay
set_option linter.unusedVariables false
set_option linter.unusedSimpArgs false

set_option maxHeartbeats 16000000 in
set_option maxRecDepth 100000 in
theorem cNStep3n {w : World} {p : Nat} {v : Value} {n : Nt} (hN : Net w p v n) (hB : Smalls n) (hb : n.l.length ≤ 6000000000000) (r : RN) (hr : RnOk w r) (hL : LikeN r n) (hT : ∀ k ∈ r.foot, k ∉ p :: own v) (o : NOp) (hok : o.ok w) (hk : o.kind = 3) (ho : atN n o.n = none) :
    Calls Try.prog 11 #[.pointer (some ⟨p, 0, none⟩), r.v, o.v] w (StN p v r o (dropN n o.n) w) := by
  obtain ⟨w1, hw1, k1, bx, hsz⟩ := boxCN r o w
  have hlt := hN.ltAll
  have hrl := hr.lt
  have hlr : r.l.length ≤ 6000000000000 := by have := hL.len; omega
  have hp0 : w.heap.size ∉ p :: own v := fun h => by have := hlt _ h; omega
  have hp1 : w.heap.size + 1 ∉ p :: own v := fun h => by have := hlt _ h; omega
  have hp2 : w.heap.size + 1 + 1 ∉ p :: own v := fun h => by have := hlt _ h; omega
  have hr2 : w.heap.size + 1 + 1 ∉ r.foot := fun h => by have := hrl _ h; omega
  have hC := cDrop (hN.keptNew k1) (by omega) o.n
  have hW0 : ∀ v' w2, Wrote p v w1 v' w2 → ∀ k ∈ p :: own v', k ∈ p :: own v ∨ w1.heap.size ≤ k := fun v' w2 hW k hk => by
    rcases List.mem_cons.1 hk with h | h
    · exact .inl (by simp [h])
    · rcases hW.new k h with h | h
      · exact .inl (by simp [h])
      · exact .inr h
  have e1 : dropN n o.n = n := by
    unfold dropN
    split
    · rename_i h0
      rcases atN_none ho with h | h
      · omega
      · rw [List.eraseIdx_of_length_le (by omega)]
    · rfl
  have e2 : (decide (0 ≤ o.n) && decide (o.n < r.l.length)) = false := by
    have := hL.len
    rcases atN_none ho with h | h
    · simp; omega
    · simp; omega
  rw [ho] at hC
  simp only [Option.isSome] at hC
  have aT := fun A => cThere r o.n A
  rw [e2] at aT
  rw [e1] at hC ⊢
  have hfin : Hid (∀ w2 v' w3, Net w2 p v' n → Wrote p v w1 v' w2 → Kp [] w2 w3 → ∀ W', Kp [w.heap.size + 1 + 1] w3 W' → StN p v r o n w (.returned (.tuple #[.pointer (some ⟨p, 0, none⟩), r.v, .bool true])) W') := fun w2 v' w3 hN2 hW k3 W' kW => by
    have kk : Kp (p :: own v) w w2 := (k1.mono (T := p :: own v) (by simp)).trans hW.kp (fun x hx => .inl hx)
    have hs1 := k1.size
    have hnew := hW0 v' w2 hW
    refine stFinN (kk.trans k3 (by simp)) (hN2.keptNew k3) ((hr.kept kk hT).keptNew k3) hL (fun k hk => (hnew k hk).imp id (fun h => by omega)) (fun k hk => .inl (by simp [hk])) (fun k hk h => ?_) (by omega) (fun h => ?_) hr2 kW
    · rcases hnew k h with h2 | h2
      · exact hT k hk h2
      · have := hrl k hk; omega
    · rcases hnew _ h with h2 | h2
      · exact hp2 h2
      · omega
  clear hL hr hT hrl ho e1 e2 hW0
  obtain ⟨room, la, lc, l⟩ := r
  simp only [RN.v, NOp.v] at *
  have b0 := bx.rd.c0; have b1 := bx.rd.c1
  have o0 := bx.o0; have o1 := bx.o1; have o2 := bx.o2; have o3 := bx.o3
  rw [hk] at o0 hw1 ⊢
  go_enter Try.func11, Try.ntmps11
  go_wp2_with fail
  refine hC.mono ?_
  rintro e w2 ⟨v', rfl, hN2, hW2⟩
  have rd2 := bx.rd.keptS hW2.kp hp0
  have an2 := bx.an.keptS hW2.kp hp2
  have o2' : w2.cell? ⟨w.heap.size + 1, 2, none⟩ = some (.int .i64 o.n) := (hW2.kp.cell (p := ⟨w.heap.size + 1, 2, none⟩) (World.block_lt_of_cell? _ _ o2) hp1).trans o2
  clear b0 b1 o0 o1 o2 o3
  have b0 := rd2.c0; have b1 := rd2.c1
  go_wp2_with fail
  refine (aT w2).mono ?_
  rintro e w3 ⟨rfl, k3⟩
  have rdd := (rd2.kept k3).kept (w' := w3.drew) (Kp.refl _ _).drew
  have an4 := (an2.kept k3).kept (w' := w3.drew) (Kp.refl _ _).drew
  obtain ⟨r0, r1, rf⟩ := an4
  have hb4 : B2 w3.drew (w.heap.size + 1 + 1) (.int .i64 0) (.slice none 0 0) := ⟨r0, r1, rf⟩
  have g0 := rf 0; have g1 := rf 1
  have hfin2 : Hid (∀ W', Kp [w.heap.size + 1 + 1] w3.drew W' → StN p v _ o n w (.returned (.tuple #[.pointer (some ⟨p, 0, none⟩), _, .bool true])) W') := fun W' kW => hfin.out w2 v' w3.drew hN2 hW2 k3.drew W' kW
  have hS : Hid (∀ A, Kp [w.heap.size + 1 + 1] w3.drew A → (A.cell? ⟨w.heap.size, 0, none⟩ = some (.int .i64 room) ∧ A.cell? ⟨w.heap.size, 1, none⟩ = some (.slice la l.length lc))) := fun A kA => by
    have b := rdd.keptS kA (by simp <;> omega)
    exact ⟨b.c0, b.c1⟩
  clear hC hfin aT b0 b1 o2'
  go_wp2_with fail
  refine wp_region_held_drew (S := (fun A => A.cell? ⟨w.heap.size, 0, none⟩ = some (.int .i64 room) ∧ A.cell? ⟨w.heap.size, 1, none⟩ = some (.slice la l.length lc))) (by kernel_rfl) ?_ (fun hHeld => ?_)
  · exact hS.out _ (Kp.refl _ _)
  generalize w3.drew = wd at *
  refine wpAnyH_take (i := 0) (v := ?_) rfl (by kernel_rfl) (by kernel_rfl) (by kernel_rfl) (fun _ _ _ h => h) (Or.inl ⟨by rfl, ?_⟩) (by assumption) ?_
  rotate_left
  · intro w hSw; (try dsimp only at hSw); go_simp <;> with_reducible rfl
  try simp only [Act.put, List.getElem_toArray, List.getElem_cons_zero, List.getElem_cons_succ, List.setIfInBounds_toArray, List.set_cons_zero, List.set_cons_succ]
  refine wpAnyH_take (i := 1) (v := ?_) rfl (by kernel_rfl) (by kernel_rfl) (by kernel_rfl) (fun _ _ _ h => h) (Or.inl ⟨by rfl, ?_⟩) (by assumption) ?_
  rotate_left
  · intro w hSw; (try dsimp only at hSw); go_simp <;> with_reducible rfl
  try simp only [Act.put, List.getElem_toArray, List.getElem_cons_zero, List.getElem_cons_succ, List.setIfInBounds_toArray, List.set_cons_zero, List.set_cons_succ]
  refine wpAnyH_take (i := 2) (v := ?_) rfl (by kernel_rfl) (by kernel_rfl) (by kernel_rfl) (fun _ _ _ h => h) (Or.inl ⟨by rfl, ?_⟩) (by assumption) ?_
  rotate_left
  · intro w hSw; (try dsimp only at hSw); go_simp <;> with_reducible rfl
  try simp only [Act.put, List.getElem_toArray, List.getElem_cons_zero, List.getElem_cons_succ, List.setIfInBounds_toArray, List.set_cons_zero, List.set_cons_succ]
  refine wpAnyH_take (i := 3) (v := ?_) rfl (by kernel_rfl) (by kernel_rfl) (by kernel_rfl) (fun _ _ _ h => h) (Or.inl ⟨by rfl, ?_⟩) (by assumption) ?_
  rotate_left
  · intro w hSw; (try dsimp only at hSw); go_simp <;> with_reducible rfl
  try simp only [Act.put, List.getElem_toArray, List.getElem_cons_zero, List.getElem_cons_succ, List.setIfInBounds_toArray, List.set_cons_zero, List.set_cons_succ]
  refine wpAnyH_take (i := 4) (v := ?_) rfl (by kernel_rfl) (by kernel_rfl) (by kernel_rfl) (fun _ _ _ h => h) (Or.inl ⟨by rfl, ?_⟩) (by assumption) ?_
  rotate_left
  · intro w hSw; (try dsimp only at hSw); go_simp <;> with_reducible rfl
  try simp only [Act.put, List.getElem_toArray, List.getElem_cons_zero, List.getElem_cons_succ, List.setIfInBounds_toArray, List.set_cons_zero, List.set_cons_succ]
  refine wpAnyH_take (i := 5) (v := ?_) rfl (by kernel_rfl) (by kernel_rfl) (by kernel_rfl) (fun _ _ _ h => h) (Or.inl ⟨by rfl, ?_⟩) (by assumption) ?_
  rotate_left
  · intro w hSw; (try dsimp only at hSw); go_simp <;> with_reducible rfl
  try simp only [Act.put, List.getElem_toArray, List.getElem_cons_zero, List.getElem_cons_succ, List.setIfInBounds_toArray, List.set_cons_zero, List.set_cons_succ]
  refine wpAnyH_ready (rs := [6]) (by kernel_rfl) (by simp) ?_
  refine AllReadyH.cons rfl (fun K hK => ?_) AllReadyH.nil
  go_simp
  (try go_wp2_with fail)
  refine hK.out _ _ ?_ (fun hHeld => ?_)
  · exact hS.out _ (kpSet2 _ _ _ _)
  clear hK K
  try simp only [Act.put, List.getElem_toArray, List.getElem_cons_zero, List.getElem_cons_succ, List.setIfInBounds_toArray, List.set_cons_zero, List.set_cons_succ]
  refine wpAnyH_take (i := 7) (v := ?_) rfl (by kernel_rfl) (by kernel_rfl) (by kernel_rfl) (fun _ _ _ h => h) (Or.inl ⟨by rfl, ?_⟩) (by assumption) ?_
  rotate_left
  · intro w hSw; (try dsimp only at hSw); go_simp <;> with_reducible rfl
  try simp only [Act.put, List.getElem_toArray, List.getElem_cons_zero, List.getElem_cons_succ, List.setIfInBounds_toArray, List.set_cons_zero, List.set_cons_succ]
  refine wpAnyH_done (by kernel_rfl) ?_ _
  go_wp2_with fail
  obtain ⟨W', hW', hb6, kW'⟩ := set2_ex hb4 (.int .i64 room) (.slice la l.length lc)
  rw [hW']
  obtain ⟨z0, z1, _⟩ := hb6
  refine bodyPost_ret (v := .tuple #[.pointer (some ⟨p, 0, none⟩), .agg #[.int .i64 room, .slice la l.length lc], .bool true]) (by simp [results, Try.results11, go_sem, z0, z1]) rfl ?_
  exact hfin2.out W' kW'
end Go.Proofs.Ytllhmbemcmigoaa
end

section
namespace Go.Proofs.Ytllhmbemcmigoaa
open Go.RowKit Go.Hay
set_option linter.unusedVariables false
set_option linter.unusedSimpArgs false

set_option maxHeartbeats 16000000 in
set_option maxRecDepth 100000 in
theorem cNStep4 {w : World} {p : Nat} {v : Value} {n : Nt} (hN : Net w p v n) (hB : Smalls n) (hb : n.l.length ≤ 6000000000000) (r : RN) (hr : RnOk w r) (hL : LikeN r n) (hT : ∀ k ∈ r.foot, k ∉ p :: own v) (o : NOp) (hok : o.ok w) (hk : o.kind = 4) :
    Calls Try.prog 11 #[.pointer (some ⟨p, 0, none⟩), r.v, o.v] w (StN p v r o ((dblN n o.n).1) w) := by
  obtain ⟨w1, hw1, k1, bx, hsz⟩ := boxCN r o w
  have hlt := hN.ltAll
  have hrl := hr.lt
  have hlr : r.l.length ≤ 6000000000000 := by have := hL.len; omega
  have hp0 : w.heap.size ∉ p :: own v := fun h => by have := hlt _ h; omega
  have hp1 : w.heap.size + 1 ∉ p :: own v := fun h => by have := hlt _ h; omega
  have hp2 : w.heap.size + 1 + 1 ∉ p :: own v := fun h => by have := hlt _ h; omega
  have hr2 : w.heap.size + 1 + 1 ∉ r.foot := fun h => by have := hrl _ h; omega
  have hC := cDouble (hN.keptNew k1) (by omega) o.n
  have hRD : Hid (∀ A, Kp (p :: own v) w A → Calls Try.prog 26 #[r.v, .int .i64 o.n] A (RefNE r.foot (dblN n o.n) A)) := fun A kA => cRDouble r n A (hr.kept kA hT) hL hlr o.n
  obtain ⟨nn, hnn⟩ : ∃ nn, nn = dblN n o.n := ⟨_, rfl⟩
  rw [← hnn] at hC hRD ⊢
  have hfin : Hid (∀ w2 v' w3 (r' : RN), Net w2 p v' nn.1 → Wrote p v w1 v' w2 → RnOk w3 r' → LikeN r' nn.1 → Kp [] w2 w3 → (∀ k ∈ r'.foot, k ∈ r.foot ∨ w2.heap.size ≤ k) → ∀ w4, Kp [] w3 w4 → ∀ W', Kp [w.heap.size + 1 + 1] w4 W' → StN p v r o nn.1 w (.returned (.tuple #[.pointer (some ⟨p, 0, none⟩), r'.v, .bool true])) W') := fun w2 v' w3 r' hN2 hW hr3 hL3 k3 hf3 w4 k4 W' kW => by
    have kk : Kp (p :: own v) w w2 := (k1.mono (T := p :: own v) (by simp)).trans hW.kp (fun x hx => .inl hx)
    have hs1 := k1.size
    have hs2 := hW.kp.size
    have hnew : ∀ k ∈ p :: own v', k ∈ p :: own v ∨ w1.heap.size ≤ k := fun k hk => by
      rcases List.mem_cons.1 hk with h | h
      · exact .inl (by simp [h])
      · rcases hW.new k h with h | h
        · exact .inl (by simp [h])
        · exact .inr h
    refine stFinN ((kk.trans k3 (by simp)).trans k4 (by simp)) ((hN2.keptNew k3).keptNew k4) (hr3.keptNew k4) hL3 (fun k hk => (hnew k hk).imp id (fun h => by omega)) (fun k hk => (hf3 k hk).imp (fun h => by simp [h]) (fun h => by omega)) (fun k hk h => ?_) (by omega) (fun h => ?_) (fun h => ?_) kW
    · rcases hf3 k hk with h1 | h1
      · rcases hnew k h with h2 | h2
        · exact hT k h1 h2
        · have := hrl k h1; omega
      · have := hN2.ltAll k h; omega
    · rcases hnew _ h with h2 | h2
      · exact hp2 h2
      · omega
    · rcases hf3 _ h with h1 | h1
      · exact hr2 h1
      · omega
  clear hL hr hT hrl hnn
  obtain ⟨room, la, lc, l⟩ := r
  simp only [RN.v, NOp.v] at *
  have b0 := bx.rd.c0; have b1 := bx.rd.c1
  have o0 := bx.o0; have o1 := bx.o1; have o2 := bx.o2; have o3 := bx.o3
  rw [hk] at o0 hw1 ⊢
  go_enter Try.func11, Try.ntmps11
  go_wp2_with fail
  refine hC.mono ?_
  rintro e w2 ⟨v', rfl, hN2, hW2⟩
  have kk : Kp (p :: own v) w w2 := (k1.mono (T := p :: own v) (by simp)).trans hW2.kp (fun x hx => .inl hx)
  have rd2 := bx.rd.keptS hW2.kp hp0
  have an2 := bx.an.keptS hW2.kp hp2
  have o2' : w2.cell? ⟨w.heap.size + 1, 2, none⟩ = some (.int .i64 o.n) := (hW2.kp.cell (p := ⟨w.heap.size + 1, 2, none⟩) (World.block_lt_of_cell? _ _ o2) hp1).trans o2
  clear b0 b1 o0 o1 o2 o3
  have b0 := rd2.c0; have b1 := rd2.c1
  have aR := hRD.out w2 kk
  go_wp2_with fail
  refine aR.mono ?_
  rintro e w3 ⟨vv, rfl, r', rfl, hr3, hL3, k3, hf3⟩
  obtain ⟨w4, hw4, k4, bx4, hsz4⟩ := boxN r' w3
  have an4 := ((an2.kept k3).kept k4).kept (w' := w4.drew) (Kp.refl _ _).drew
  obtain ⟨r0, r1, rf⟩ := an4
  have hb4 : B2 w4.drew (w.heap.size + 1 + 1) (.int .i64 0) (.slice none 0 0) := ⟨r0, r1, rf⟩
  have g0 := rf 0; have g1 := rf 1
  have hfin2 : Hid (∀ W', Kp [w.heap.size + 1 + 1] w4.drew W' → StN p v _ o nn.1 w (.returned (.tuple #[.pointer (some ⟨p, 0, none⟩), r'.v, .bool true])) W') := fun W' kW => hfin.out w2 v' w3 r' hN2 hW2 hr3 hL3 k3 hf3 w4.drew k4.drew W' kW
  obtain ⟨room', la', lc', l'⟩ := r'
  simp only [RN.v] at *
  have bxd := bx4.kept (w' := w4.drew) (Kp.refl _ _).drew
  obtain ⟨q3, hq3⟩ : ∃ q3, q3 = w3.heap.size := ⟨_, rfl⟩
  have hq3n : w3.heap.size ≠ w.heap.size + 1 + 1 := by have := an2.lt; have := k3.size; omega
  have hS : Hid (∀ A, Kp [w.heap.size + 1 + 1] w4.drew A → (A.cell? ⟨q3, 0, none⟩ = some (.int .i64 room') ∧ A.cell? ⟨q3, 1, none⟩ = some (.slice la' l'.length lc'))) := fun A kA => by
    have b := bxd.keptS kA (by simp; omega)
    rw [hq3]
    exact ⟨b.c0, b.c1⟩
  obtain ⟨en, hen⟩ : ∃ en, en = nn.2 := ⟨_, rfl⟩
  have hq3' := hid hq3
  have hw4' := hid hw4
  clear hC hfin hRD aR hr3 hL3 hf3 hw4 hq3 b0 b1 o2'
  rw [← hen]
  clear hen
  go_wp2_with fail
  rw [hw4'.out, ← hq3'.out]
  refine wp_region_held_drew (S := (fun A => A.cell? ⟨q3, 0, none⟩ = some (.int .i64 room') ∧ A.cell? ⟨q3, 1, none⟩ = some (.slice la' l'.length lc'))) (by kernel_rfl) ?_ (fun hHeld => ?_)
  · exact hS.out _ (Kp.refl _ _)
  generalize w4.drew = wd at *
  refine wpAnyH_take (i := 0) (v := ?_) rfl (by kernel_rfl) (by kernel_rfl) (by kernel_rfl) (fun _ _ _ h => h) (Or.inl ⟨by rfl, ?_⟩) (by assumption) ?_
  rotate_left
  · intro w hSw; (try dsimp only at hSw); go_simp <;> with_reducible rfl
  try simp only [Act.put, List.getElem_toArray, List.getElem_cons_zero, List.getElem_cons_succ, List.setIfInBounds_toArray, List.set_cons_zero, List.set_cons_succ]
  refine wpAnyH_take (i := 1) (v := ?_) rfl (by kernel_rfl) (by kernel_rfl) (by kernel_rfl) (fun _ _ _ h => h) (Or.inl ⟨by rfl, ?_⟩) (by assumption) ?_
  rotate_left
  · intro w hSw; (try dsimp only at hSw); go_simp <;> with_reducible rfl
  try simp only [Act.put, List.getElem_toArray, List.getElem_cons_zero, List.getElem_cons_succ, List.setIfInBounds_toArray, List.set_cons_zero, List.set_cons_succ]
  refine wpAnyH_take (i := 2) (v := ?_) rfl (by kernel_rfl) (by kernel_rfl) (by kernel_rfl) (fun _ _ _ h => h) (Or.inl ⟨by rfl, ?_⟩) (by assumption) ?_
  rotate_left
  · intro w hSw; (try dsimp only at hSw); go_simp <;> with_reducible rfl
  try simp only [Act.put, List.getElem_toArray, List.getElem_cons_zero, List.getElem_cons_succ, List.setIfInBounds_toArray, List.set_cons_zero, List.set_cons_succ]
  refine wpAnyH_take (i := 3) (v := ?_) rfl (by kernel_rfl) (by kernel_rfl) (by kernel_rfl) (fun _ _ _ h => h) (Or.inl ⟨by rfl, ?_⟩) (by assumption) ?_
  rotate_left
  · intro w hSw; (try dsimp only at hSw); go_simp <;> with_reducible rfl
  try simp only [Act.put, List.getElem_toArray, List.getElem_cons_zero, List.getElem_cons_succ, List.setIfInBounds_toArray, List.set_cons_zero, List.set_cons_succ]
  refine wpAnyH_take (i := 4) (v := ?_) rfl (by kernel_rfl) (by kernel_rfl) (by kernel_rfl) (fun _ _ _ h => h) (Or.inl ⟨by rfl, ?_⟩) (by assumption) ?_
  rotate_left
  · intro w hSw; (try dsimp only at hSw); go_simp <;> with_reducible rfl
  try simp only [Act.put, List.getElem_toArray, List.getElem_cons_zero, List.getElem_cons_succ, List.setIfInBounds_toArray, List.set_cons_zero, List.set_cons_succ]
  refine wpAnyH_take (i := 5) (v := ?_) rfl (by kernel_rfl) (by kernel_rfl) (by kernel_rfl) (fun _ _ _ h => h) (Or.inl ⟨by rfl, ?_⟩) (by assumption) ?_
  rotate_left
  · intro w hSw; (try dsimp only at hSw); go_simp <;> with_reducible rfl
  try simp only [Act.put, List.getElem_toArray, List.getElem_cons_zero, List.getElem_cons_succ, List.setIfInBounds_toArray, List.set_cons_zero, List.set_cons_succ]
  refine wpAnyH_ready (rs := [6]) (by kernel_rfl) (by simp) ?_
  refine AllReadyH.cons rfl (fun K hK => ?_) AllReadyH.nil
  go_simp
  (try go_wp2_with fail)
  refine hK.out _ _ ?_ (fun hHeld => ?_)
  · exact hS.out _ (kpSet2 _ _ _ _)
  clear hK K
  try simp only [Act.put, List.getElem_toArray, List.getElem_cons_zero, List.getElem_cons_succ, List.setIfInBounds_toArray, List.set_cons_zero, List.set_cons_succ]
  refine wpAnyH_take (i := 7) (v := ?_) rfl (by kernel_rfl) (by kernel_rfl) (by kernel_rfl) (fun _ _ _ h => h) (Or.inl ⟨by rfl, ?_⟩) (by assumption) ?_
  rotate_left
  · intro w hSw; (try dsimp only at hSw); go_simp <;> with_reducible rfl
  try simp only [Act.put, List.getElem_toArray, List.getElem_cons_zero, List.getElem_cons_succ, List.setIfInBounds_toArray, List.set_cons_zero, List.set_cons_succ]
  refine wpAnyH_done (by kernel_rfl) ?_ _
  go_wp2_with fail
  obtain ⟨W', hW', hb6, kW'⟩ := set2_ex hb4 (.int .i64 room') (.slice la' l'.length lc')
  rw [hW']
  obtain ⟨z0, z1, _⟩ := hb6
  refine bodyPost_ret (v := .tuple #[.pointer (some ⟨p, 0, none⟩), .agg #[.int .i64 room', .slice la' l'.length lc'], .bool true]) (by simp [results, Try.results11, go_sem, z0, z1]) rfl ?_
  exact hfin2.out W' kW'
end Go.Proofs.Ytllhmbemcmigoaa
end

section
namespace Go.Hay
open Go.RowKit
set_option linter.unusedVariables false

variable {F : Fence} {n : Nat} {P : Program} {σ α : Type}

/-- What an iterator that stands at some s of σ promises: it hands on things x (as encs x), each behind a step T of its own, which may turn memory; a round that goes on takes it from s to nx s x and keeps what K says; S: it is at its end; Sp: a round has said 'no more'. -/
def SeqS (F : Fence) (n : Nat) (P : Program) (g : Nat) (lb : Array Value) (encs : α → Array Value) (T : σ → σ → World → World → Prop) (K : σ → World → World → Prop) (ok : σ → α → Prop) (nx : σ → α → σ) (S Sp : σ → Prop) (s0 : σ) (w : World) : Prop :=
  ∀ (l : Nat) (J Jx : σ → World → Prop) (W : World), K s0 w W → (∀ s s' A B, J s A → T s s' A B → J s' B) →
    (∀ s x A, J s A → ok s x → YieldAt F (n - 1) P l (encs x) A fun e A' => (e = .returned (.bool true) ∧ J (nx s x) A' ∧ K s A A') ∨ (e = .returned (.bool false) ∧ Jx (nx s x) A')) →
    J s0 W → CallsIn F n P g (#[.func (.yield l) #[] #[]] ++ lb) W fun e A' => (∃ v, e = .returned v) ∧ ((∃ s, S s ∧ J s A') ∨ (∃ s, Sp s ∧ Jx s A'))

/-- How a round's body may be left: B: from which block on whatever is no cells must lie as it lay. -/
def leftS (B : Nat) (K : σ → World → World → Prop) (I : σ → World → Prop) (Ix : Code → σ → World → Prop) (s0 s : σ) (W : World) : Exit → Act → World → Prop
  | .normal, _, W' => KeepsFrom B W W' ∧ K s0 W W' ∧ I s W'
  | .ret, _, W' => KeepsFrom B W W' ∧ Ix .ret s W'
  | .exit id, _, W' => KeepsFrom B W W' ∧ Ix (.exit id) s W'
  | .goto t, _, W' => KeepsFrom B W W' ∧ Ix (.goto t) s W'
  | _, _, _ => False

/-- The law. -/
theorem wpRangeS {g : Operand} {ps : Array Tmp} {assign body : Code} {Q : Exit → Act → World → Prop} {a : Act} {w : World}
    (hro : F.round = none) (h1 : 1 ≤ n) {gf : Nat} {lb : Array Value} (hg : a.eval g = .func (.func gf) #[] lb) (hFg : F.fn gf) (eg : ∀ args w, (callFunc gf args).run P w = .ok (.enter gf args) w)
    {encs : α → Array Value} {T : σ → σ → World → World → Prop} {K : σ → World → World → Prop} {ok : σ → α → Prop} {nx : σ → α → σ} {S Sp : σ → Prop} {s0 : σ} {w0 : World}
    (hseq : SeqS F (n - 1) P gf lb encs T K ok nx S Sp s0 w0) (hps : ∀ x, (encs x).size = ps.size)
    (hKt : ∀ {s : σ} {A B C : World}, K s A B → K s B C → K s A C) (hKa : ∀ s W o, K s W (W.alloc o)) (hKb : ∀ (s : σ) (W : World) (l : Nat) (o o' : Obj), w.heap.size ≤ l → W.heap[l]? = some o → o.isCells = false → o.isWalk = false → K s W (W.putObj l o')) (hb0 : K s0 w0 w)
    (hTk : ∀ s s' A B, T s s' A B → ∀ (k : Nat) (o : Obj), w.heap.size ≤ k → A.heap[k]? = some o → o.isCells = false → o.isWalk = false → B.heap[k]? = some o)
    (I : σ → World → Prop) (Ix : Code → σ → World → Prop) (hI : OwnFrom w.heap.size I) (hIx : ∀ c, OwnFrom w.heap.size (Ix c)) (hIT : ∀ s s' A B, I s A → T s s' A B → I s' B) (h0 : I s0 w)
    (a₁ : α → Act) (hassign : ∀ (l : Nat) (x : α) (W : World) (C : Act → World → Prop), C (a₁ x) W →
      assign.wpIn (F.inRound l) (n - 1 - 1) P (Exit.then C (fun _ _ _ => False)) { tmps := (ps.zip (encs x)).foldl (fun t (p, v) => t.setIfInBounds p v) a.tmps, defers := [] } W)
    (hbody : ∀ (l : Nat) (s : σ) (x : α) (W : World), I s W → ok s x → body.wpIn (F.inRound l) (n - 1 - 1) P (leftS w.heap.size K I Ix s (nx s x) W) (a₁ x) W)
    (hdone : ∀ (D : Nat) (s : σ) (W : World), w.heap.size ≤ D → S s → I s W → W.heap[D]? = some (.deferred (some [])) → Q .normal { a with defers := { target := .collected D, args := #[] } :: a.defers } W)
    (hstop : ∀ (D : Nat) (c : Code) (s : σ) (W : World), w.heap.size ≤ D → Sp s → Ix c s W → W.heap[D]? = some (.deferred (some [])) → c.wpIn F n P Q { a with defers := { target := .collected D, args := #[] } :: a.defers } W) :
    (Code.rangeFunc g ps assign body).wpIn F n P Q a w := by
  refine wpIn_rangeFunc fun fn hfn => ?_
  rw [hro]
  -- the loop's record, as it may stand
  let R : LoopState → Option Code → Obj := fun st pe => .loop { state := st, pending := pe, fn, tmps := a.tmps, params := ps, assign, body, defers := w.heap.size }
  let Bk : LoopState → Option Code → World → Prop := fun st pe W => W.heap[w.heap.size + 1]? = some (R st pe) ∧ W.heap[w.heap.size]? = some (.deferred (some []))
  have bkK : ∀ {st pe A B}, KeepsFrom w.heap.size A B → Bk st pe A → Bk st pe B := fun hk hb => ⟨hk.same _ _ (by omega) hb.1 rfl, hk.same _ _ (Nat.le_refl _) hb.2 rfl⟩
  have bkP : ∀ {st pe st' pe' A}, Bk st pe A → Bk st' pe' (A.putObj (w.heap.size + 1) (R st' pe')) := fun hb =>
    ⟨World.putObj_heap_same (Array.getElem?_eq_some_iff.1 hb.1).1, (World.putObj_heap_other (by omega)).trans hb.2⟩
  have iP : ∀ {st pe s A} (o : Obj), Bk st pe A → I s A → I s (A.putObj (w.heap.size + 1) o) := fun o hb hi => hI.putObj o hi (by omega) hb.1 rfl
  have ixP : ∀ {st pe s c A} (o : Obj), Bk st pe A → Ix c s A → Ix c s (A.putObj (w.heap.size + 1) o) := fun o hb hi => (hIx _).putObj o hi (by omega) hb.1 rfl
  have kP : ∀ {s st pe A} (o : Obj), Bk st pe A → K s A (A.putObj (w.heap.size + 1) o) := fun o hb => hKb _ _ _ _ _ (by omega) hb.1 rfl rfl
  have bkT : ∀ {s s' st pe A B}, T s s' A B → Bk st pe A → Bk st pe B := fun ht hb => ⟨hTk _ _ _ _ ht _ _ (by omega) hb.1 rfl rfl, hTk _ _ _ _ ht _ _ (Nat.le_refl _) hb.2 rfl rfl⟩
  have b0 : Bk .ready none ((w.alloc (.deferred (some []))).alloc (R .ready none)) :=
    ⟨by have := World.alloc_heap_new (w.alloc (.deferred (some []))) (R .ready none); rwa [World.size_alloc] at this, (Below.heap_alloc _ _ _ (by simp)).trans (World.alloc_heap_new w _)⟩
  refine ⟨w.heap.size + 1, [{ target := .collected w.heap.size, args := #[] }], ((w.alloc (.deferred (some []))).alloc (R .ready none)), { target := .fn (.func gf) lb, args := #[.func (.yield (w.heap.size + 1)) #[] #[]] }, ((w.alloc (.deferred (some []))).alloc (R .ready none)), gf, #[.func (.yield (w.heap.size + 1)) #[] #[]] ++ lb, ((w.alloc (.deferred (some []))).alloc (R .ready none)),
    run_enterLoop_outer _ _ _ _ _, by simp only [resolve, hg]; simp [go_sem], fun f' hf' => by simp [Target.leads] at hf'; subst hf'; exact hFg, by simp [invoke, go_sem, eg], fun _ => h1, ?_⟩
  refine (hseq (w.heap.size + 1) (fun s A => I s A ∧ Bk .ready none A) (fun s A => ∃ c, Ix c s A ∧ Bk .done (some c) A) _ (hKt hb0 (hKt (hKa _ _ _) (hKa _ _ _)))
    (fun s s' A B hs ht => ⟨hIT s s' A B hs.1 ht, bkT ht hs.2⟩) ?_ ⟨hI.alloc _ (hI.alloc _ h0), b0⟩).mono ?_
  · -- one round
    rintro s x A ⟨hi, hb⟩ hok
    refine ⟨fn, _, assign, body, run_yield hb.1 (hps x), roundIn_of_wpIn hfn (hassign _ x A _ ⟨_, run_beginRound hb.1 rfl, ?_⟩)⟩
    have hb2 : Bk .busy none (A.putObj (w.heap.size + 1) (R .busy none)) := bkP hb
    refine wpIn_mono (hbody _ s x _ (iP _ hb hi) hok) ?_
    rintro e a3 W3 hp
    cases e with
    | normal =>
      have hb3 := bkK hp.1 hb2
      exact ⟨_, _, run_endRound none hb3.1, .inl ⟨rfl, ⟨iP _ hb3 hp.2.2, bkP hb3⟩, hKt (kP _ hb) (hKt hp.2.1 (kP _ hb3))⟩⟩
    | ret => have hb3 := bkK hp.1 hb2; exact ⟨_, _, run_endRound (some .ret) hb3.1, .inr ⟨rfl, .ret, ixP _ hb3 hp.2, bkP hb3⟩⟩
    | exit id => have hb3 := bkK hp.1 hb2; exact ⟨_, _, run_endRound (some (.exit id)) hb3.1, .inr ⟨rfl, .exit id, ixP _ hb3 hp.2, bkP hb3⟩⟩
    | goto t => have hb3 := bkK hp.1 hb2; exact ⟨_, _, run_endRound (some (.goto t)) hb3.1, .inr ⟨rfl, .goto t, ixP _ hb3 hp.2, bkP hb3⟩⟩
    | panic ch => exact hp.elim
    | outgrown => exact hp.elim
  · -- behind the iterator
    rintro e A ⟨⟨v, rfl⟩, (⟨s, hS, hi, hb⟩ | ⟨s, hSp, c, hi, hb⟩)⟩
    · exact ⟨none, _, run_endLoop hb.1 (by simp), hdone _ s _ (Nat.le_refl _) hS (iP _ hb hi) ((World.putObj_heap_other (by omega)).trans hb.2)⟩
    · exact ⟨some c, _, run_endLoop hb.1 (by simp), hstop _ c s _ (Nat.le_refl _) hSp (ixP _ hb hi) ((World.putObj_heap_other (by omega)).trans hb.2)⟩
end Go.Hay
end

section
namespace Go.Proofs.Ytllhmbemcmigoaa
open Go.RowKit Go.Hay
attribute [local go_sem] Oper.semAt_some
set_option linter.unusedVariables false
set_option linter.unusedSimpArgs false

/-- What the rounds leave alone: the blocks Js. -/
def KeepN (Js : List Nat) (A B : World) : Prop := A.heap.size ≤ B.heap.size ∧ ∀ k ∈ Js, ∀ o, A.heap[k]? = some o → B.heap[k]? = some o
theorem KeepN.trans {Js : List Nat} {A B C : World} (h : KeepN Js A B) (k : KeepN Js B C) : KeepN Js A C := ⟨Nat.le_trans h.1 k.1, fun j hj o ho => k.2 j hj o (h.2 j hj o ho)⟩
theorem KeepN.refl (Js : List Nat) (A : World) : KeepN Js A A := ⟨Nat.le_refl _, fun _ _ _ h => h⟩
theorem KeepN.alloc (Js : List Nat) (W : World) (o : Obj) : KeepN Js W (W.alloc o) := ⟨by simp, fun k _ o' ho => (Below.heap_alloc W o k (Array.getElem?_eq_some_iff.1 ho).1).trans ho⟩
theorem KeepN.ofKp {Js S : List Nat} {A B : World} (hk : Kp S A B) (hJ : ∀ j ∈ Js, j ∉ S) : KeepN Js A B := ⟨hk.size, fun j hj o ho => (hk.block j (Array.getElem?_eq_some_iff.1 ho).1 (hJ j hj)).trans ho⟩
theorem KeepN.putObj {Js : List Nat} {B : Nat} (hB : ∀ j ∈ Js, j < B) (W : World) (l : Nat) (o' : Obj) (hl : B ≤ l) : KeepN Js W (W.putObj l o') :=
  ⟨by simp, fun k hk o'' h'' => (World.putObj_heap_other (by have := hB k hk; omega)).trans h''⟩
theorem KeepN.cell {Js : List Nat} {A B : World} (h : KeepN Js A B) {g j : Nat} (hg : g ∈ Js) {v : Value} (hc : A.cell? ⟨g, j, none⟩ = some v) : B.cell? ⟨g, j, none⟩ = some v := by
  have hl := World.block_lt_of_cell? _ _ hc
  have e : A.heap[g]? = some A.heap[g] := by simp at hl; simp [hl]
  exact (World.cell?_of_block (a := ⟨g, j, none⟩) ((h.2 g hg _ e).trans e.symm)).trans hc
/-- The iterator's own step: it makes a box, and passes by what is told to others. -/
def StepN (l : List Msg) (to : Int) (s s' : Nat) (A B : World) : Prop := Kp [] A B ∧ s ≤ s' ∧ ∀ k m, s ≤ k → k < s' → l[k]? = some m → m.to ≠ to
structure Plc where
  i : Nat
  m : Msg
abbrev encP (x : Plc) : Array Value := #[.int .i64 (x.i : Int), .string ⟨x.m.body.toArray⟩]
/-- What the iterator reads. -/
structure AtN (q1 q2 : Nat) (a : Option Addr) (c : Nat) (l : List Msg) (to : Int) (w : World) : Prop where
  b1 : w.cell? ⟨q1, 0, none⟩ = some (.slice a l.length c)
  b2 : w.cell? ⟨q2, 0, none⟩ = some (.int .i64 to)
  row : ∀ k m, l[k]? = some m → ∃ g o, a = some ⟨g, o, none⟩ ∧ w.cell? ⟨g, o + k * 2, none⟩ = some (.int .i64 m.to) ∧ w.cell? ⟨g, o + k * 2 + 1, none⟩ = some (.string ⟨m.body.toArray⟩)
theorem AtN.kept {q1 q2 : Nat} {a : Option Addr} {c : Nat} {l : List Msg} {to : Int} {A B : World} (h : AtN q1 q2 a c l to A) (hk : KeepN (q1 :: q2 :: blk a) A B) : AtN q1 q2 a c l to B :=
  ⟨hk.cell (by simp) h.b1, hk.cell (by simp) h.b2, fun k m hm => by
    obtain ⟨g, o, e, h1, h2⟩ := h.row k m hm
    subst e
    exact ⟨g, o, rfl, hk.cell (by simp [blk]) h1, hk.cell (by simp [blk]) h2⟩⟩
set_option maxHeartbeats 8000000 in
set_option maxRecDepth 100000 in
theorem toldSeq (n : Nat) (hn : 1 ≤ n) (q1 q2 : Nat) (a : Option Addr) (c : Nat) (l : List Msg) (to : Int) (hN : l.length ≤ 6000000000000) (hc : l.length ≤ c) (w : World) (hA : AtN q1 q2 a c l to w) :
    SeqS Fence.wide n Try.prog 32 #[.pointer (some ⟨q1, 0, none⟩), .pointer (some ⟨q2, 0, none⟩)] encP (StepN l to) (fun _ => KeepN (q1 :: q2 :: blk a))
      (fun s x => x.i = s ∧ l[s]? = some x.m ∧ x.m.to = to) (fun s _ => s + 1) (fun s => s = l.length) (fun _ => True) 0 w := by
  intro ly J Jx W hW hT hY h0
  have hAW := hA.kept hW
  have hb1 := hAW.b1
  refine callsIn_of_wp Try.func32 rfl trivial ?_ rfl
  simp only [Try.ntmps32, List.size_toArray, List.length_cons, List.length_nil, Nat.reduceAdd, Nat.reduceSub, Array.replicate_succ, Array.replicate_zero, List.push_toArray, List.append_toArray, List.nil_append, List.cons_append]
  gi_wp2_with fail
  gi_loopw [8] (fun i wr => ∃ j : Nat, j ≤ l.length ∧ i = .int .i64 j ∧ J j wr ∧ KeepN (q1 :: q2 :: blk a) W wr) (fun i _ => l.length - (intOf i).toNat)
  case atStart => exact ⟨0, Nat.zero_le _, rfl, h0, KeepN.refl _ _⟩
  case round =>
    obtain ⟨j, hj, rfl, hJj, hkr⟩ := hrel
    have hAr := hAW.kept hkr
    have hb2 := hAr.b2
    by_cases hjl : j < l.length
    · obtain ⟨m, hm⟩ : ∃ m, l[j]? = some m := ⟨l[j], by simp [hjl]⟩
      obtain ⟨g, o, ea, c0, c1⟩ := hAr.row j m hm
      subst ea
      obtain ⟨wb, hwb⟩ : ∃ wb, wr.alloc (.cells #[.int .i64 m.to, .string ⟨m.body.toArray⟩] 62) = wb := ⟨_, rfl⟩
      have kb : Kp [] wr wb := by rw [← hwb]; exact (Kp.refl _ _).alloc _
      have hq2l : q2 < wr.heap.size := World.block_lt_of_cell? _ _ hb2
      by_cases hto : m.to = to
      · have hJb : J j wb := hT j j wr wb hJj ⟨kb, Nat.le_refl _, fun k _ h1 h2 => by omega⟩
        obtain ⟨fn, tmps, assign, body, hy, hR⟩ := hY j ⟨j, m⟩ wb hJb ⟨rfl, hm, hto⟩
        have e1 : (m.to == to) = true := by simpa using hto
        rw [← hwb] at hy hR
        clear hm hto hwb
        gi_wp2
        refine hR.mono ?_
        rintro e1 W3 (⟨rfl, hJ3, hk3⟩ | ⟨rfl, hJx⟩)
        · gi_wp2
          go_roundw
          case rel => exact ⟨j + 1, by omega, by go_num, hJ3, (hkr.trans (KeepN.alloc _ _ _)).trans hk3⟩
          case measure => simp [intOf]; omega
        · gi_wp2
          go_returns
          exact ⟨⟨_, rfl⟩, .inr ⟨_, trivial, hJx⟩⟩
      · have hJb : J (j + 1) wb := hT j (j + 1) wr wb hJj ⟨kb, by omega, fun k m' h1 h2 hm' => by
          have ek : k = j := by omega
          rw [ek, hm] at hm'
          cases hm'
          exact hto⟩
        have e1 : (m.to == to) = false := by simpa using hto
        rw [← hwb] at hJb
        clear hm hto hwb
        gi_wp2
        refine ⟨fun f hf => (by cases hf), ?_⟩
        gi_wp2
        go_roundw
        case rel => exact ⟨j + 1, by omega, by go_num, hJb, hkr.trans (KeepN.alloc _ _ _)⟩
        case measure => simp [intOf]; omega
    · have e : j = l.length := by omega
      subst e
      gi_wp2
      go_end0
      exact ⟨⟨_, rfl⟩, .inl ⟨l.length, rfl, hJj⟩⟩
end Go.Proofs.Ytllhmbemcmigoaa
end

section
namespace Go.Hay
open Go.RowKit
set_option linter.unusedVariables false

variable {F : Fence} {n : Nat} {P : Program} {σ α : Type}

/-- As SeqS; a round keeps what K says also where it has said 'no more', and behind that the iterator may turn what Tx says. -/
def SeqX (F : Fence) (n : Nat) (P : Program) (g : Nat) (lb : Array Value) (encs : α → Array Value) (T : σ → σ → World → World → Prop) (Tx : σ → World → World → Prop) (K : σ → World → World → Prop) (ok : σ → α → Prop) (nx : σ → α → σ) (S Sp : σ → Prop) (s0 : σ) (w : World) : Prop :=
  ∀ (l : Nat) (J Jx : σ → World → Prop) (W : World), K s0 w W → (∀ s s' A B, J s A → T s s' A B → J s' B) → (∀ s A B, Jx s A → Tx s A B → Jx s B) →
    (∀ s x A, J s A → ok s x → YieldAt F (n - 1) P l (encs x) A fun e A' => (e = .returned (.bool true) ∧ J (nx s x) A' ∧ K s A A') ∨ (e = .returned (.bool false) ∧ Jx (nx s x) A' ∧ K s A A')) →
    J s0 W → CallsIn F n P g (#[.func (.yield l) #[] #[]] ++ lb) W fun e A' => (∃ v, e = .returned v) ∧ ((∃ s, S s ∧ J s A') ∨ (∃ s, Sp s ∧ Jx s A'))

/-- How a round's body may be left. -/
def leftX (B : Nat) (K : σ → World → World → Prop) (I : σ → World → Prop) (Ix : Code → σ → World → Prop) (s0 s : σ) (W : World) : Exit → Act → World → Prop
  | .normal, _, W' => KeepsFrom B W W' ∧ K s0 W W' ∧ I s W'
  | .ret, _, W' => KeepsFrom B W W' ∧ K s0 W W' ∧ Ix .ret s W'
  | .exit id, _, W' => KeepsFrom B W W' ∧ K s0 W W' ∧ Ix (.exit id) s W'
  | .goto t, _, W' => KeepsFrom B W W' ∧ K s0 W W' ∧ Ix (.goto t) s W'
  | _, _, _ => False

/-- The law. -/
theorem wpRangeX {g : Operand} {ps : Array Tmp} {assign body : Code} {Q : Exit → Act → World → Prop} {a : Act} {w : World}
    (hro : F.round = none) (h1 : 1 ≤ n) {gf : Nat} {lb : Array Value} (hg : a.eval g = .func (.func gf) #[] lb) (hFg : F.fn gf) (eg : ∀ args w, (callFunc gf args).run P w = .ok (.enter gf args) w)
    {encs : α → Array Value} {T : σ → σ → World → World → Prop} {Tx : σ → World → World → Prop} {K : σ → World → World → Prop} {ok : σ → α → Prop} {nx : σ → α → σ} {S Sp : σ → Prop} {s0 : σ} {w0 : World}
    (hseq : SeqX F (n - 1) P gf lb encs T Tx K ok nx S Sp s0 w0) (hps : ∀ x, (encs x).size = ps.size)
    (hKt : ∀ {s : σ} {A B C : World}, K s A B → K s B C → K s A C) (hKa : ∀ s W o, K s W (W.alloc o)) (hb0 : K s0 w0 w)
    (I : σ → World → Prop) (Ix : Code → σ → World → Prop) (hI : OwnFrom w.heap.size I) (hIx : ∀ c, OwnFrom w.heap.size (Ix c)) (h0 : I s0 w)
    (hTk : ∀ s s' A B, I s A → T s s' A B → ∀ (k : Nat) (o : Obj), (k = w.heap.size ∨ k = w.heap.size + 1) → A.heap[k]? = some o → B.heap[k]? = some o)
    (hXk : ∀ c s A B, Ix c s A → Tx s A B → ∀ (k : Nat) (o : Obj), (k = w.heap.size ∨ k = w.heap.size + 1) → A.heap[k]? = some o → B.heap[k]? = some o)
    (hIT : ∀ s s' A B, w.heap.size + 2 ≤ A.heap.size → I s A → T s s' A B → I s' B) (hXT : ∀ c s A B, Ix c s A → Tx s A B → Ix c s B)
    (hKb : ∀ (s : σ) (W : World) (o' : Obj), I s W → K s W (W.putObj (w.heap.size + 1) o')) (hKc : ∀ (s : σ) (x : α) (W : World) (o' : Obj), I (nx s x) W → K s W (W.putObj (w.heap.size + 1) o'))
    (hKx : ∀ (c : Code) (s : σ) (x : α) (W : World) (o' : Obj), Ix c (nx s x) W → K s W (W.putObj (w.heap.size + 1) o'))
    (a₁ : α → Act) (hassign : ∀ (l : Nat) (x : α) (W : World) (C : Act → World → Prop), C (a₁ x) W →
      assign.wpIn (F.inRound l) (n - 1 - 1) P (Exit.then C (fun _ _ _ => False)) { tmps := (ps.zip (encs x)).foldl (fun t (p, v) => t.setIfInBounds p v) a.tmps, defers := [] } W)
    (hbody : ∀ (l : Nat) (s : σ) (x : α) (W : World), I s W → ok s x → body.wpIn (F.inRound l) (n - 1 - 1) P (leftX w.heap.size K I Ix s (nx s x) W) (a₁ x) W)
    (hdone : ∀ (D : Nat) (s : σ) (W : World), w.heap.size ≤ D → S s → I s W → W.heap[D]? = some (.deferred (some [])) → Q .normal { a with defers := { target := .collected D, args := #[] } :: a.defers } W)
    (hstop : ∀ (D : Nat) (c : Code) (s : σ) (W : World), w.heap.size ≤ D → Sp s → Ix c s W → W.heap[D]? = some (.deferred (some [])) → c.wpIn F n P Q { a with defers := { target := .collected D, args := #[] } :: a.defers } W) :
    (Code.rangeFunc g ps assign body).wpIn F n P Q a w := by
  refine wpIn_rangeFunc fun fn hfn => ?_
  rw [hro]
  -- the loop's record, as it may stand
  let R : LoopState → Option Code → Obj := fun st pe => .loop { state := st, pending := pe, fn, tmps := a.tmps, params := ps, assign, body, defers := w.heap.size }
  let Bk : LoopState → Option Code → World → Prop := fun st pe W => W.heap[w.heap.size + 1]? = some (R st pe) ∧ W.heap[w.heap.size]? = some (.deferred (some []))
  have bkK : ∀ {st pe A B}, KeepsFrom w.heap.size A B → Bk st pe A → Bk st pe B := fun hk hb => ⟨hk.same _ _ (by omega) hb.1 rfl, hk.same _ _ (Nat.le_refl _) hb.2 rfl⟩
  have bkP : ∀ {st pe st' pe' A}, Bk st pe A → Bk st' pe' (A.putObj (w.heap.size + 1) (R st' pe')) := fun hb =>
    ⟨World.putObj_heap_same (Array.getElem?_eq_some_iff.1 hb.1).1, (World.putObj_heap_other (by omega)).trans hb.2⟩
  have iP : ∀ {st pe s A} (o : Obj), Bk st pe A → I s A → I s (A.putObj (w.heap.size + 1) o) := fun o hb hi => hI.putObj o hi (by omega) hb.1 rfl
  have ixP : ∀ {st pe s c A} (o : Obj), Bk st pe A → Ix c s A → Ix c s (A.putObj (w.heap.size + 1) o) := fun o hb hi => (hIx _).putObj o hi (by omega) hb.1 rfl
  have bsz : ∀ {st pe A}, Bk st pe A → w.heap.size + 2 ≤ A.heap.size := fun hb => by have := (Array.getElem?_eq_some_iff.1 hb.1).1; omega
  have b0 : Bk .ready none ((w.alloc (.deferred (some []))).alloc (R .ready none)) :=
    ⟨by have := World.alloc_heap_new (w.alloc (.deferred (some []))) (R .ready none); rwa [World.size_alloc] at this, (Below.heap_alloc _ _ _ (by simp)).trans (World.alloc_heap_new w _)⟩
  refine ⟨w.heap.size + 1, [{ target := .collected w.heap.size, args := #[] }], ((w.alloc (.deferred (some []))).alloc (R .ready none)), { target := .fn (.func gf) lb, args := #[.func (.yield (w.heap.size + 1)) #[] #[]] }, ((w.alloc (.deferred (some []))).alloc (R .ready none)), gf, #[.func (.yield (w.heap.size + 1)) #[] #[]] ++ lb, ((w.alloc (.deferred (some []))).alloc (R .ready none)),
    run_enterLoop_outer _ _ _ _ _, by simp only [resolve, hg]; simp [go_sem], fun f' hf' => by simp [Target.leads] at hf'; subst hf'; exact hFg, by simp [invoke, go_sem, eg], fun _ => h1, ?_⟩
  refine (hseq (w.heap.size + 1) (fun s A => I s A ∧ Bk .ready none A) (fun s A => ∃ c, Ix c s A ∧ Bk .done (some c) A) _ (hKt hb0 (hKt (hKa _ _ _) (hKa _ _ _)))
    (fun s s' A B hs ht => ⟨hIT s s' A B (bsz hs.2) hs.1 ht, hTk s s' A B hs.1 ht _ _ (.inr rfl) hs.2.1, hTk s s' A B hs.1 ht _ _ (.inl rfl) hs.2.2⟩)
    (fun s A B ⟨c, hs, hb⟩ ht => ⟨c, hXT c s A B hs ht, hXk c s A B hs ht _ _ (.inr rfl) hb.1, hXk c s A B hs ht _ _ (.inl rfl) hb.2⟩) ?_ ⟨hI.alloc _ (hI.alloc _ h0), b0⟩).mono ?_
  · -- one round
    rintro s x A ⟨hi, hb⟩ hok
    refine ⟨fn, _, assign, body, run_yield hb.1 (hps x), roundIn_of_wpIn hfn (hassign _ x A _ ⟨_, run_beginRound hb.1 rfl, ?_⟩)⟩
    have hb2 : Bk .busy none (A.putObj (w.heap.size + 1) (R .busy none)) := bkP hb
    refine wpIn_mono (hbody _ s x _ (iP _ hb hi) hok) ?_
    rintro e a3 W3 hp
    cases e with
    | normal =>
      have hb3 := bkK hp.1 hb2
      exact ⟨_, _, run_endRound none hb3.1, .inl ⟨rfl, ⟨iP _ hb3 hp.2.2, bkP hb3⟩, hKt (hKb _ _ _ hi) (hKt hp.2.1 (hKc _ _ _ _ hp.2.2))⟩⟩
    | ret => have hb3 := bkK hp.1 hb2; exact ⟨_, _, run_endRound (some .ret) hb3.1, .inr ⟨rfl, ⟨.ret, ixP _ hb3 hp.2.2, bkP hb3⟩, hKt (hKb _ _ _ hi) (hKt hp.2.1 (hKx _ _ _ _ _ hp.2.2))⟩⟩
    | exit id => have hb3 := bkK hp.1 hb2; exact ⟨_, _, run_endRound (some (.exit id)) hb3.1, .inr ⟨rfl, ⟨.exit id, ixP _ hb3 hp.2.2, bkP hb3⟩, hKt (hKb _ _ _ hi) (hKt hp.2.1 (hKx _ _ _ _ _ hp.2.2))⟩⟩
    | goto t => have hb3 := bkK hp.1 hb2; exact ⟨_, _, run_endRound (some (.goto t)) hb3.1, .inr ⟨rfl, ⟨.goto t, ixP _ hb3 hp.2.2, bkP hb3⟩, hKt (hKb _ _ _ hi) (hKt hp.2.1 (hKx _ _ _ _ _ hp.2.2))⟩⟩
    | panic ch => exact hp.elim
    | outgrown => exact hp.elim
  · -- behind the iterator
    rintro e A ⟨⟨v, rfl⟩, (⟨s, hS, hi, hb⟩ | ⟨s, hSp, c, hi, hb⟩)⟩
    · exact ⟨none, _, run_endLoop hb.1 (by simp), hdone _ s _ (Nat.le_refl _) hS (iP _ hb hi) ((World.putObj_heap_other (by omega)).trans hb.2)⟩
    · exact ⟨some c, _, run_endLoop hb.1 (by simp), hstop _ c s _ (Nat.le_refl _) hSp (ixP _ hb hi) ((World.putObj_heap_other (by omega)).trans hb.2)⟩
end Go.Hay
end

section
namespace Go.Proofs.Ytllhmbemcmigoaa
open Go.RowKit Go.Hay
set_option linter.unusedVariables false
set_option linter.unusedSimpArgs false

/-- How it stands: whether the copy is made, from which block on its records lie, which blocks the rounds leave alone, the place, the slice that is given now. -/
structure Sb where
  made : Bool
  B0 : Nat
  js : List Nat
  i : Nat
  v : Option Value
/-- What is given: a place, and a slice of bytes. -/
structure Gv where
  i : Nat
  v : Value
abbrev encG (x : Gv) : Array Value := #[.int .i64 (x.i : Int), x.v]
def Sb.nx (s : Sb) (x : Gv) : Sb := { s with i := s.i + 1, v := none }
/-- What the iterator's own step may turn: new memory, and records that hold no cells, from B0 on. -/
structure TurnT (B0 : Nat) (A B : World) : Prop where
  os : B.os = A.os
  tape : B.tape = A.tape
  output : B.output = A.output
  size : A.heap.size ≤ B.heap.size
  block : ∀ k, k < A.heap.size → B.heap[k]? = A.heap[k]? ∨ (B0 ≤ k ∧ ∃ o : Obj, A.heap[k]? = some o ∧ o.isCells = false)
theorem TurnT.ofKp {B0 : Nat} {A B : World} (h : Kp [] A B) : TurnT B0 A B := ⟨h.os, h.tape, h.output, h.size, fun k hk => .inl (h.block k hk (by simp))⟩
theorem TurnT.ofGrown {B0 : Nat} {A B : World} {row : Option Nat} (h : A.grownBy B row) (hr : ∀ r, row = some r → B0 ≤ r ∧ ∃ o : Obj, A.heap[r]? = some o ∧ o.isCells = false) : TurnT B0 A B :=
  ⟨h.os, h.tape, h.output, h.size, fun k hk => by
    by_cases e : row = some k
    · exact .inr (hr k e)
    · exact .inl (h.block k hk (fun e' => e e'.symm))⟩
/-- A block of cells is not turned. -/
theorem TurnT.cells {B0 k : Nat} {A B : World} (h : TurnT B0 A B) {o : Obj} (ho : A.heap[k]? = some o) (hc : o.isCells = true) : B.heap[k]? = some o := by
  rcases h.block k (Array.getElem?_eq_some_iff.1 ho).1 with e | ⟨_, o', ho', hc'⟩
  · exact e.trans ho
  · rw [ho] at ho'; cases ho'; rw [hc] at hc'; cases hc'
theorem TurnT.low {B0 k : Nat} {A B : World} (h : TurnT B0 A B) (hk : k < A.heap.size) (hb : k < B0) : B.heap[k]? = A.heap[k]? := by
  rcases h.block k hk with e | ⟨h1, _⟩
  · exact e
  · omega
theorem TurnT.cell {B0 : Nat} {A B : World} (h : TurnT B0 A B) {a : Addr} {v : Value} (hc : A.cell? a = some v) : B.cell? a = some v := by
  have hl := World.block_lt_of_cell? _ _ hc
  obtain ⟨o, ho⟩ : ∃ o, A.heap[a.block]? = some o := ⟨A.heap[a.block], by simp [hl]⟩
  have hoc : o.isCells = true := by
    unfold World.cell? at hc
    rw [ho] at hc
    cases o <;> simp_all [Obj.isCells]
  exact (World.cell?_of_block ((h.cells ho hoc).trans ho.symm)).trans hc
/-- The iterator's own step. -/
structure StepT (l : List Msg) (to : Int) (s s' : Sb) (A B : World) : Prop where
  turn : TurnT s'.B0 A B
  stays : s.made = true → s'.made = true ∧ s'.B0 = s.B0 ∧ s'.js = s.js
  makes : s.made = false → s'.made = true ∧ A.heap.size ≤ s'.B0 ∧ (∀ j ∈ s'.js, A.heap.size ≤ j ∧ j < B.heap.size) ∧ s'.v = none
  on : s.i ≤ s'.i
  skip : ∀ k m, s.i ≤ k → k < s'.i → l[k]? = some m → m.to ≠ to
  was : s.v = none
  given : s'.v = none ∨ ∃ u m, s'.v = some u ∧ l[s'.i]? = some m ∧ m.to = to ∧ Row B u m.body ∧ ∀ k ∈ own u, A.heap.size ≤ k
/-- What the iterator may turn behind its end. -/
def StepX (s : Sb) (A B : World) : Prop := s.made = true ∧ TurnT s.B0 A B
/-- What may be given now. -/
def okT (l : List Msg) (to : Int) (s : Sb) (x : Gv) : Prop := s.v = some x.v ∧ x.i = s.i ∧ ∃ m, l[s.i]? = some m ∧ m.to = to
/-- What the rounds leave alone: the blocks js, and every record from B0 on. -/
structure KeepT (s : Sb) (A B : World) : Prop where
  js : KeepN s.js A B
  recs : s.made = true → ∀ (k : Nat) (o : Obj), s.B0 ≤ k → A.heap[k]? = some o → o.isCells = false → B.heap[k]? = some o
theorem KeepT.trans {s : Sb} {A B C : World} (h : KeepT s A B) (k : KeepT s B C) : KeepT s A C :=
  ⟨h.js.trans k.js, fun hm j o hj ho hc => k.recs hm j o hj (h.recs hm j o hj ho hc) hc⟩
theorem KeepT.refl (s : Sb) (A : World) : KeepT s A A := ⟨KeepN.refl _ _, fun _ _ _ _ h _ => h⟩
theorem KeepT.alloc (s : Sb) (W : World) (o : Obj) : KeepT s W (W.alloc o) :=
  ⟨KeepN.alloc _ _ _, fun _ k o' _ ho _ => (Below.heap_alloc W o k (Array.getElem?_eq_some_iff.1 ho).1).trans ho⟩
theorem KeepT.putObj {s : Sb} {l : Nat} (hj : ∀ j ∈ s.js, j ≠ l) (hb : s.made = true → l < s.B0) (W : World) (o' : Obj) : KeepT s W (W.putObj l o') :=
  ⟨⟨by simp, fun k hk o'' h'' => (World.putObj_heap_other (hj k hk)).trans h''⟩, fun hm k o'' hk h'' _ => (World.putObj_heap_other (by have := hb hm; omega)).trans h''⟩
end Go.Proofs.Ytllhmbemcmigoaa
end

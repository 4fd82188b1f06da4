/- The law's own step, of a net: Send. The law's own step, of a net: Take. The law's own step, of a net: every kind. The law's own run, of a net: all calls, one behind the other. -/
import Derived.Test.YtllhmbemcmigoaaB5
import Derived.Test.YtllhmbemcmigoaaB3
import Derived.Test.YtllhmbemcmigoaaB4
import Derived.Test.YtllhmbemcmigoaaB6
import Derived.Test.YtllhmbemcmigoaaB2
section
namespace Go.Proofs.Ytllhmbemcmigoaa
open Go.RowKit Go.Hay
set_option linter.unusedVariables false
set_option linter.unusedSimpArgs false

set_option maxHeartbeats 16000000 in
set_option maxRecDepth 100000 in
theorem cNStep0 {w : World} {p : Nat} {v : Value} {n : Nt} (hN : Net w p v n) (hB : Smalls n) (hb : n.l.length ≤ 6000000000000) (r : RN) (hr : RnOk w r) (hL : LikeN r n) (hT : ∀ k ∈ r.foot, k ∉ p :: own v) (o : NOp) (hok : o.ok w) (hk : o.kind = 0) (hfew : o.raw.bs.length ≤ 140737488355328) (hoff : o.raw.bs ≠ [] → ∀ k ∈ blk o.raw.a, k ∉ p :: own v) :
    Calls Try.prog 11 #[.pointer (some ⟨p, 0, none⟩), r.v, o.v] w (StN p v r o ((putN n ⟨o.to, o.raw.bs⟩).1) w) := by
  obtain ⟨w1, hw1, k1, bx, hsz⟩ := boxCN r o w
  have hlt := hN.ltAll
  have hrl := hr.lt
  have hlr : r.l.length ≤ 6000000000000 := by have := hL.len; omega
  have hp0 : w.heap.size ∉ p :: own v := fun h => by have := hlt _ h; omega
  have hp1 : w.heap.size + 1 ∉ p :: own v := fun h => by have := hlt _ h; omega
  have hp2 : w.heap.size + 1 + 1 ∉ p :: own v := fun h => by have := hlt _ h; omega
  have hr2 : w.heap.size + 1 + 1 ∉ r.foot := fun h => by have := hrl _ h; omega
  have hob := hok.raw.see
  obtain ⟨nn, hnn⟩ : ∃ nn, nn = putN n ⟨o.to, o.raw.bs⟩ := ⟨_, rfl⟩
  have hSd : Hid (∀ A (a : Option Addr) (c : Nat), Kp [] w A → Sees A a o.raw.bs → Calls Try.prog 15 #[.pointer (some ⟨p, 0, none⟩), .int .i64 o.to, .slice a o.raw.bs.length c] A (ChgN p v nn.1 (.int .i64 nn.2) A)) := fun A a c kA hs => by rw [hnn]; exact cSend (hN.keptNew kA) (by omega) o.to a c o.raw.bs hs
  have hRS : Hid (∀ A (S : List Nat), Kp S w A → (∀ k ∈ S, k ∈ p :: own v ∨ w.heap.size ≤ k) → Calls Try.prog 21 #[r.v, .int .i64 o.to, .slice o.raw.a o.raw.bs.length o.raw.c] A (RefNE (r.foot ++ o.ft) nn A)) := fun A S kA hS => by
    rw [hnn]
    refine cRSend r n A (hr.kept kA (fun k hk h => ?_)) hL hlr o.to o.raw.a o.raw.c o.raw.bs (hob.kept' kA (fun hb k hk h => ?_))
    · rcases hS k h with h1 | h1
      · exact hT k hk h1
      · have := hrl k hk; omega
    · rcases hS k h with h1 | h1
      · exact hoff hb k hk h1
      · have := hob.lt hb k hk; omega
  have hof : ∀ k ∈ o.ft, k < w.heap.size ∧ k ∉ p :: own v := fun k hk => by
    unfold NOp.ft at hk
    split at hk
    · cases hk
    · rename_i hbn; exact ⟨hob.lt hbn k hk, hoff hbn k hk⟩
  have hTT : ∀ k ∈ r.foot ++ o.ft, k < w.heap.size ∧ k ∉ p :: own v := fun k hk => by
    rcases List.mem_append.1 hk with h | h
    · exact ⟨hrl k h, hT k h⟩
    · exact hof k h
  have hsmx : o.raw.bs.length ≤ 140737488355328 := hfew
  rw [← hnn]
  have hfin : Hid (∀ x2 (ya : Option Addr) w3 v' w4 w5 w6 (r' : RN), Kp [] w1 x2 → (∀ k ∈ blk ya, w1.heap.size ≤ k ∧ k < x2.heap.size) → Net w3 p v' nn.1 → Wrote p v x2 v' w3 → Kp (blk ya) w3 w4 → RnOk w5 r' → LikeN r' nn.1 → Kp [] w4 w5 → (∀ k ∈ r'.foot, k ∈ r.foot ++ o.ft ∨ w4.heap.size ≤ k) → Kp [] w5 w6 → ∀ W', Kp [w.heap.size + 1 + 1] w6 W' → StN p v r o nn.1 w (.returned (.tuple #[.pointer (some ⟨p, 0, none⟩), r'.v, .bool true])) W') := fun x2 ya w3 v' w4 w5 w6 r' kx1 hy hN3 hW k4 hr5 hL5 k5 hf5 k6 W' kW => by
    have hs1 := k1.size
    have hsx := kx1.size
    have kx : Kp [] w x2 := k1.trans kx1 (by simp)
    have hs3 := hW.kp.size
    have hs4 := k4.size
    have hnew : ∀ k ∈ p :: own v', k ∈ p :: own v ∨ x2.heap.size ≤ k := fun k hk => by
      rcases List.mem_cons.1 hk with h | h
      · exact .inl (by simp [h])
      · rcases hW.new k h with h | h
        · exact .inl (by simp [h])
        · exact .inr h
    have hyo : ∀ k ∈ p :: own v', k ∉ blk ya := fun k hk h => by
      have := hy k h
      rcases hnew k hk with h1 | h1
      · have := hlt k h1; omega
      · omega
    have kk : Kp (p :: own v) w w4 := ((kx.mono (T := p :: own v) (by simp)).trans hW.kp (fun x hx => .inl hx)).trans k4 (fun k hk => .inr (by have := hy k hk; omega))
    refine stFinN ((kk.trans k5 (by simp)).trans k6 (by simp)) (((hN3.kept k4 hyo).keptNew k5).keptNew k6) (hr5.keptNew k6) hL5 (fun k hk => (hnew k hk).imp id (fun h => by omega)) (fun k hk => (hf5 k hk).imp id (fun h => by omega)) (fun k hk h => ?_) (by omega) (fun h => ?_) (fun h => ?_) kW
    · rcases hf5 k hk with h1 | h1
      · rcases hnew k h with h2 | h2
        · exact (hTT k h1).2 h2
        · have := (hTT k h1).1; omega
      · have := hN3.ltAll k h; omega
    · rcases hnew _ h with h2 | h2
      · exact hp2 h2
      · omega
    · rcases hf5 _ h with h1 | h1
      · have := (hTT _ h1).1; omega
      · omega
  clear hL hr hT hrl hnn hTT hof hoff
  obtain ⟨room, la, lc, l⟩ := r
  simp only [RN.v, NOp.v] at *
  have b0 := bx.rd.c0; have b1 := bx.rd.c1
  have o0 := bx.o0; have o1 := bx.o1; have o2 := bx.o2; have o3 := bx.o3
  rw [hk] at o0 hw1 ⊢
  have hse1 := hob.kept k1 (by simp)
  go_enter Try.func11, Try.ntmps11
  go_wp2_with (first | (refine wpAppOwn rfl _ _ rfl rfl o.raw.a o.raw.c o.raw.bs rfl hse1 hsmx ?_; intro ys ya yc x2 hys hrow kx2 hyn; have u1 := cell_kp kx2 o1) | fail)
  obtain ⟨_, _, er, hsy, _⟩ := hrow.sees
  cases er
  rw [hys.out] at hsy hrow ⊢
  refine (hSd.out x2 ya yc (k1.trans kx2 (by simp)) hsy).mono ?_
  rintro e w3 ⟨v', rfl, hN3, hW3⟩
  have bx2 := bx.kept kx2
  have rd3 := bx2.rd.keptS hW3.kp hp0
  have an3 := bx2.an.keptS hW3.kp hp2
  have o13 : w3.cell? ⟨w.heap.size + 1, 1, none⟩ = some (.int .i64 o.to) := (hW3.kp.cell (p := ⟨w.heap.size + 1, 1, none⟩) (World.block_lt_of_cell? _ _ bx2.o1) hp1).trans bx2.o1
  have o33 : w3.cell? ⟨w.heap.size + 1, 3, none⟩ = some (.slice o.raw.a o.raw.bs.length o.raw.c) := (hW3.kp.cell (p := ⟨w.heap.size + 1, 3, none⟩) (World.block_lt_of_cell? _ _ bx2.o3) hp1).trans bx2.o3
  have hsx := kx2.size
  have hrow3 := hrow.kept hW3.kp (fun k hk h => by rw [own_slice] at hk; have := hyn k hk; have := hlt k h; omega)
  have kw3 : Kp (p :: own v) w w3 := ((k1.trans kx2 (by simp)).mono (T := p :: own v) (by simp)).trans hW3.kp (fun x hx => .inl hx)
  have hnq : ∀ q, q < w1.heap.size → q ∉ blk ya := fun q hq h => by have := hyn q h; omega
  obtain ⟨L, hLe⟩ : ∃ L, Hid (o.raw.bs.length = L) := ⟨_, rfl⟩
  have hL0 := hLe.out
  rw [hL0] at hrow3
  have hLs : L ≤ 140737488355328 := by omega
  have hfg : Value.slice ya o.raw.bs.length yc = .slice ya L yc := by rw [hL0]
  rw [hfg]
  clear hsy hrow hfg hL0 u1 b0 b1 o0 o1 o2 o3 hSd hsmx hfew
  go_wp2_with fail
  go_loopw [43] (fun i wn => ∃ (j : Nat) (zs : List UInt8), j ≤ L ∧ i = .int .i64 j ∧ Hid (zs.length = L) ∧ Row wn (.slice ya L yc) zs ∧ Kp (blk ya) w3 wn) (fun i _ => L - (intOf i).toNat)
  case atStart => exact ⟨0, o.raw.bs, Nat.zero_le _, rfl, hLe.out, hrow3, Kp.refl _ _⟩
  case round =>
    obtain ⟨j, zs, hj, rfl, hzl, hrz, hkz⟩ := hrel
    by_cases hjl : j < L
    · obtain ⟨y, hy⟩ : ∃ y, zs[j]? = some y := ⟨zs[j]'(by rw [hzl.out]; exact hjl), by simp [hzl.out, hjl]⟩
      obtain ⟨g, o', ea, en, hcell, hfro⟩ := rowAt hrz hy
      have hrz2 := hrz
      rw [ea] at hrz2
      have hput := Row.put hrz2 j (by rw [hzl.out]; exact hjl) (UInt8.ofNat (y.toNat + 1))
      have hw8 := u8add y 1 (by omega)
      have hkz2 : Kp (blk ya) w3 (wr.setCell ⟨g, o' + j, none⟩ (.int .u8 (IntKind.u8.wrap ((y.toNat : Int) + (1 : Nat))))) := hkz.setCell (p := ⟨g, o' + j, none⟩) (.inl (by rw [ea]; simp [blk])) _
      rw [← hw8] at hput
      have hyl : Hid ((zs.set j (UInt8.ofNat (y.toNat + 1))).length = L) := by show _ = _; rw [List.length_set]; exact hzl.out
      rw [← ea] at hput
      clear hy hzl hrz2 en hw8
      subst ea
      go_wp2_with fail
      exact ⟨⟨j + 1, _, by omega, by go_num, hyl, hput, hkz2⟩, by simp [intOf]; omega⟩
    · have hjn : ¬ ((j : Int) < (L : Int)) := by omega
      have kS : Kp (p :: own v ++ blk ya) w wr := (kw3.mono (T := p :: own v ++ blk ya) (fun x hx => .inl (List.mem_append.2 (.inl hx)))).trans hkz (fun x hx => .inl (List.mem_append.2 (.inr hx)))
      have aR := hRS.out wr _ kS (fun k hk => by
        rcases List.mem_append.1 hk with h | h
        · exact .inl h
        · exact .inr (by have := hyn k h; have := k1.size; omega))
      have rdr := rd3.keptS hkz (hnq _ (by omega))
      have anr := an3.keptS hkz (hnq _ (by omega))
      have hq1 := hnq (w.heap.size + 1) (by omega)
      have c1 : wr.cell? ⟨w.heap.size + 1, 1, none⟩ = some (.int .i64 o.to) := (hkz.cell (p := ⟨w.heap.size + 1, 1, none⟩) (World.block_lt_of_cell? _ _ o13) hq1).trans o13
      have c3 : wr.cell? ⟨w.heap.size + 1, 3, none⟩ = some (.slice o.raw.a o.raw.bs.length o.raw.c) := (hkz.cell (p := ⟨w.heap.size + 1, 3, none⟩) (World.block_lt_of_cell? _ _ o33) hq1).trans o33
      have b0 := rdr.c0; have b1 := rdr.c1
      clear hrz hzl
      go_wp2_with fail
      refine aR.mono ?_
      rintro e w5 ⟨vv, rfl, r', rfl, hr5, hL5, k5, hf5⟩
      obtain ⟨w6, hw6, k6, bx6, hsz6⟩ := boxN r' w5
      have an6 := ((anr.kept k5).kept k6).kept (w' := w6.drew) (Kp.refl _ _).drew
      obtain ⟨r0, r1, rf⟩ := an6
      have hb4 : B2 w6.drew (w.heap.size + 1 + 1) (.int .i64 0) (.slice none 0 0) := ⟨r0, r1, rf⟩
      have g0 := rf 0; have g1 := rf 1
      have hfin2 : Hid (∀ W', Kp [w.heap.size + 1 + 1] w6.drew W' → StN p v _ o nn.1 w (.returned (.tuple #[.pointer (some ⟨p, 0, none⟩), r'.v, .bool true])) W') := fun W' kW => hfin.out x2 ya w3 v' wr w5 w6.drew r' kx2 hyn hN3 hW3 hkz hr5 hL5 k5 hf5 k6.drew W' kW
      obtain ⟨room', la', lc', l'⟩ := r'
      simp only [RN.v] at *
      have bxd := bx6.kept (w' := w6.drew) (Kp.refl _ _).drew
      obtain ⟨q3, hq3⟩ : ∃ q3, q3 = w5.heap.size := ⟨_, rfl⟩
      have hq3n : w5.heap.size ≠ w.heap.size + 1 + 1 := by have := anr.lt; have := k5.size; omega
      have hS : Hid (∀ A, Kp [w.heap.size + 1 + 1] w6.drew A → (A.cell? ⟨q3, 0, none⟩ = some (.int .i64 room') ∧ A.cell? ⟨q3, 1, none⟩ = some (.slice la' l'.length lc'))) := fun A kA => by
        have b := bxd.keptS kA (by simp; omega)
        rw [hq3]
        exact ⟨b.c0, b.c1⟩
      obtain ⟨en, hen⟩ : ∃ en, en = nn.2 := ⟨_, rfl⟩
      have hq3' := hid hq3
      have hw6' := hid hw6
      clear hfin hRS aR hr5 hL5 hf5 hw6 hq3 b0 b1 c1 c3 hkz
      rw [← hen]
      clear hen
      go_wp2_with fail
      rw [hw6'.out, ← hq3'.out]
      refine wp_region_held_drew (S := (fun A => A.cell? ⟨q3, 0, none⟩ = some (.int .i64 room') ∧ A.cell? ⟨q3, 1, none⟩ = some (.slice la' l'.length lc'))) (by kernel_rfl) ?_ (fun hHeld => ?_)
      · exact hS.out _ (Kp.refl _ _)
      generalize w6.drew = wd at *
      refine wpAnyH_take (i := 0) (v := ?_) rfl (by kernel_rfl) (by kernel_rfl) (by kernel_rfl) (fun _ _ _ h => h) (Or.inl ⟨by rfl, ?_⟩) (by assumption) ?_
      rotate_left
      · intro w hSw; (try dsimp only at hSw); go_simp <;> with_reducible rfl
      try simp only [Act.put, List.getElem_toArray, List.getElem_cons_zero, List.getElem_cons_succ, List.setIfInBounds_toArray, List.set_cons_zero, List.set_cons_succ]
      refine wpAnyH_take (i := 1) (v := ?_) rfl (by kernel_rfl) (by kernel_rfl) (by kernel_rfl) (fun _ _ _ h => h) (Or.inl ⟨by rfl, ?_⟩) (by assumption) ?_
      rotate_left
      · intro w hSw; (try dsimp only at hSw); go_simp <;> with_reducible rfl
      try simp only [Act.put, List.getElem_toArray, List.getElem_cons_zero, List.getElem_cons_succ, List.setIfInBounds_toArray, List.set_cons_zero, List.set_cons_succ]
      refine wpAnyH_take (i := 2) (v := ?_) rfl (by kernel_rfl) (by kernel_rfl) (by kernel_rfl) (fun _ _ _ h => h) (Or.inl ⟨by rfl, ?_⟩) (by assumption) ?_
      rotate_left
      · intro w hSw; (try dsimp only at hSw); go_simp <;> with_reducible rfl
      try simp only [Act.put, List.getElem_toArray, List.getElem_cons_zero, List.getElem_cons_succ, List.setIfInBounds_toArray, List.set_cons_zero, List.set_cons_succ]
      refine wpAnyH_take (i := 3) (v := ?_) rfl (by kernel_rfl) (by kernel_rfl) (by kernel_rfl) (fun _ _ _ h => h) (Or.inl ⟨by rfl, ?_⟩) (by assumption) ?_
      rotate_left
      · intro w hSw; (try dsimp only at hSw); go_simp <;> with_reducible rfl
      try simp only [Act.put, List.getElem_toArray, List.getElem_cons_zero, List.getElem_cons_succ, List.setIfInBounds_toArray, List.set_cons_zero, List.set_cons_succ]
      refine wpAnyH_take (i := 4) (v := ?_) rfl (by kernel_rfl) (by kernel_rfl) (by kernel_rfl) (fun _ _ _ h => h) (Or.inl ⟨by rfl, ?_⟩) (by assumption) ?_
      rotate_left
      · intro w hSw; (try dsimp only at hSw); go_simp <;> with_reducible rfl
      try simp only [Act.put, List.getElem_toArray, List.getElem_cons_zero, List.getElem_cons_succ, List.setIfInBounds_toArray, List.set_cons_zero, List.set_cons_succ]
      refine wpAnyH_take (i := 5) (v := ?_) rfl (by kernel_rfl) (by kernel_rfl) (by kernel_rfl) (fun _ _ _ h => h) (Or.inl ⟨by rfl, ?_⟩) (by assumption) ?_
      rotate_left
      · intro w hSw; (try dsimp only at hSw); go_simp <;> with_reducible rfl
      try simp only [Act.put, List.getElem_toArray, List.getElem_cons_zero, List.getElem_cons_succ, List.setIfInBounds_toArray, List.set_cons_zero, List.set_cons_succ]
      refine wpAnyH_ready (rs := [6]) (by kernel_rfl) (by simp) ?_
      refine AllReadyH.cons rfl (fun K hK => ?_) AllReadyH.nil
      go_simp
      (try go_wp2_with fail)
      refine hK.out _ _ ?_ (fun hHeld => ?_)
      · exact hS.out _ (kpSet2 _ _ _ _)
      clear hK K
      try simp only [Act.put, List.getElem_toArray, List.getElem_cons_zero, List.getElem_cons_succ, List.setIfInBounds_toArray, List.set_cons_zero, List.set_cons_succ]
      refine wpAnyH_take (i := 7) (v := ?_) rfl (by kernel_rfl) (by kernel_rfl) (by kernel_rfl) (fun _ _ _ h => h) (Or.inl ⟨by rfl, ?_⟩) (by assumption) ?_
      rotate_left
      · intro w hSw; (try dsimp only at hSw); go_simp <;> with_reducible rfl
      try simp only [Act.put, List.getElem_toArray, List.getElem_cons_zero, List.getElem_cons_succ, List.setIfInBounds_toArray, List.set_cons_zero, List.set_cons_succ]
      refine wpAnyH_done (by kernel_rfl) ?_ _
      go_wp2_with fail
      obtain ⟨W', hW', hb6, kW'⟩ := set2_ex hb4 (.int .i64 room') (.slice la' l'.length lc')
      rw [hW']
      obtain ⟨z0, z1, _⟩ := hb6
      refine bodyPost_ret (v := .tuple #[.pointer (some ⟨p, 0, none⟩), .agg #[.int .i64 room', .slice la' l'.length lc'], .bool true]) (by simp [results, Try.results11, go_sem, z0, z1]) rfl ?_
      exact hfin2.out W' kW'
end Go.Proofs.Ytllhmbemcmigoaa
end

section
namespace Go.Proofs.Ytllhmbemcmigoaa
open Go.RowKit Go.Hay
set_option linter.unusedVariables false
set_option linter.unusedSimpArgs false

set_option maxHeartbeats 16000000 in
set_option maxRecDepth 100000 in
theorem cNStep2n {w : World} {p : Nat} {v : Value} {n : Nt} (hN : Net w p v n) (hB : Smalls n) (hb : n.l.length ≤ 6000000000000) (r : RN) (hr : RnOk w r) (hL : LikeN r n) (hT : ∀ k ∈ r.foot, k ∉ p :: own v) (o : NOp) (hok : o.ok w) (hk : o.kind = 2) (ho : atN n o.n = none) :
    Calls Try.prog 11 #[.pointer (some ⟨p, 0, none⟩), r.v, o.v] w (StN p v r o (dropN n o.n) w) := by
  obtain ⟨w1, hw1, k1, bx, hsz⟩ := boxCN r o w
  have hlt := hN.ltAll
  have hrl := hr.lt
  have hlr : r.l.length ≤ 6000000000000 := by have := hL.len; omega
  have hp0 : w.heap.size ∉ p :: own v := fun h => by have := hlt _ h; omega
  have hp1 : w.heap.size + 1 ∉ p :: own v := fun h => by have := hlt _ h; omega
  have hp2 : w.heap.size + 1 + 1 ∉ p :: own v := fun h => by have := hlt _ h; omega
  have hr2 : w.heap.size + 1 + 1 ∉ r.foot := fun h => by have := hrl _ h; omega
  have hC := cTake (hN.keptNew k1) hB (by omega) o.n
  unfold TakeP at hC
  have hW0 : ∀ v' w2, Wrote p v w1 v' w2 → ∀ k ∈ p :: own v', k ∈ p :: own v ∨ w1.heap.size ≤ k := fun v' w2 hW k hk => by
    rcases List.mem_cons.1 hk with h | h
    · exact .inl (by simp [h])
    · rcases hW.new k h with h | h
      · exact .inl (by simp [h])
      · exact .inr h
  have e1 : dropN n o.n = n := by
    unfold dropN
    split
    · rename_i h0
      rcases atN_none ho with h | h
      · omega
      · rw [List.eraseIdx_of_length_le (by omega)]
    · rfl
  have e2 : (decide (0 ≤ o.n) && decide (o.n < r.l.length)) = false := by
    have := hL.len
    rcases atN_none ho with h | h
    · simp; omega
    · simp; omega
  rw [ho] at hC
  simp only at hC
  have aT := fun A => cThere r o.n A
  rw [e2] at aT
  rw [e1] at hC ⊢
  have hAk : Hid (∀ A, Calls Try.prog 23 #[.int .i64 0, .slice none 0 0, .bool false, r.v, .int .i64 o.n] A fun e w' => e = .returned (.bool true) ∧ Kp [] A w') := fun A => cAskedN r o.n A ((atN_none ho).imp id (fun h => by have := hL.len; omega))
  have hfin : Hid (∀ w2 v' w3, Net w2 p v' n → Wrote p v w1 v' w2 → Kp [] w2 w3 → ∀ W', Kp [w.heap.size + 1 + 1] w3 W' → StN p v r o n w (.returned (.tuple #[.pointer (some ⟨p, 0, none⟩), r.v, .bool true])) W') := fun w2 v' w3 hN2 hW k3 W' kW => by
    have kk : Kp (p :: own v) w w2 := (k1.mono (T := p :: own v) (by simp)).trans hW.kp (fun x hx => .inl hx)
    have hs1 := k1.size
    have hnew := hW0 v' w2 hW
    refine stFinN (kk.trans k3 (by simp)) (hN2.keptNew k3) ((hr.kept kk hT).keptNew k3) hL (fun k hk => (hnew k hk).imp id (fun h => by omega)) (fun k hk => .inl (by simp [hk])) (fun k hk h => ?_) (by omega) (fun h => ?_) hr2 kW
    · rcases hnew k h with h2 | h2
      · exact hT k hk h2
      · have := hrl k hk; omega
    · rcases hnew _ h with h2 | h2
      · exact hp2 h2
      · omega
  clear hL hr hT hrl ho e1 e2 hW0
  obtain ⟨room, la, lc, l⟩ := r
  simp only [RN.v, NOp.v] at *
  have b0 := bx.rd.c0; have b1 := bx.rd.c1
  have o0 := bx.o0; have o1 := bx.o1; have o2 := bx.o2; have o3 := bx.o3
  rw [hk] at o0 hw1 ⊢
  go_enter Try.func11, Try.ntmps11
  go_wp2_with fail
  refine hC.mono ?_
  rintro e w2 ⟨v', hN2, hW2, rfl⟩
  have rd2 := bx.rd.keptS hW2.kp hp0
  have an2 := bx.an.keptS hW2.kp hp2
  have o2' : w2.cell? ⟨w.heap.size + 1, 2, none⟩ = some (.int .i64 o.n) := (hW2.kp.cell (p := ⟨w.heap.size + 1, 2, none⟩) (World.block_lt_of_cell? _ _ o2) hp1).trans o2
  clear b0 b1 o0 o1 o2 o3
  have b0 := rd2.c0; have b1 := rd2.c1
  go_wp2_with fail
  refine (hAk.out w2).mono ?_
  rintro e w2b ⟨rfl, k2b⟩
  have rd2b := rd2.kept k2b
  have o2b := cell_kp k2b o2'
  clear b0 b1 o2'
  have o2' := o2b
  have b0 := rd2b.c0; have b1 := rd2b.c1
  go_wp2_with fail
  refine (aT w2b).mono ?_
  rintro e w3 ⟨rfl, k3b⟩
  have k3 : Kp [] w2 w3 := k2b.trans k3b (by simp)
  have rdd := (rd2.kept k3).kept (w' := w3.drew) (Kp.refl _ _).drew
  have an4 := (an2.kept k3).kept (w' := w3.drew) (Kp.refl _ _).drew
  obtain ⟨r0, r1, rf⟩ := an4
  have hb4 : B2 w3.drew (w.heap.size + 1 + 1) (.int .i64 0) (.slice none 0 0) := ⟨r0, r1, rf⟩
  have g0 := rf 0; have g1 := rf 1
  have hfin2 : Hid (∀ W', Kp [w.heap.size + 1 + 1] w3.drew W' → StN p v _ o n w (.returned (.tuple #[.pointer (some ⟨p, 0, none⟩), _, .bool true])) W') := fun W' kW => hfin.out w2 v' w3.drew hN2 hW2 k3.drew W' kW
  have hS : Hid (∀ A, Kp [w.heap.size + 1 + 1] w3.drew A → (A.cell? ⟨w.heap.size, 0, none⟩ = some (.int .i64 room) ∧ A.cell? ⟨w.heap.size, 1, none⟩ = some (.slice la l.length lc))) := fun A kA => by
    have b := rdd.keptS kA (by simp <;> omega)
    exact ⟨b.c0, b.c1⟩
  clear hC hfin aT hAk b0 b1 o2'
  go_wp2_with fail
  refine wp_region_held_drew (S := (fun A => A.cell? ⟨w.heap.size, 0, none⟩ = some (.int .i64 room) ∧ A.cell? ⟨w.heap.size, 1, none⟩ = some (.slice la l.length lc))) (by kernel_rfl) ?_ (fun hHeld => ?_)
  · exact hS.out _ (Kp.refl _ _)
  generalize w3.drew = wd at *
  refine wpAnyH_take (i := 0) (v := ?_) rfl (by kernel_rfl) (by kernel_rfl) (by kernel_rfl) (fun _ _ _ h => h) (Or.inl ⟨by rfl, ?_⟩) (by assumption) ?_
  rotate_left
  · intro w hSw; (try dsimp only at hSw); go_simp <;> with_reducible rfl
  try simp only [Act.put, List.getElem_toArray, List.getElem_cons_zero, List.getElem_cons_succ, List.setIfInBounds_toArray, List.set_cons_zero, List.set_cons_succ]
  refine wpAnyH_take (i := 1) (v := ?_) rfl (by kernel_rfl) (by kernel_rfl) (by kernel_rfl) (fun _ _ _ h => h) (Or.inl ⟨by rfl, ?_⟩) (by assumption) ?_
  rotate_left
  · intro w hSw; (try dsimp only at hSw); go_simp <;> with_reducible rfl
  try simp only [Act.put, List.getElem_toArray, List.getElem_cons_zero, List.getElem_cons_succ, List.setIfInBounds_toArray, List.set_cons_zero, List.set_cons_succ]
  refine wpAnyH_take (i := 2) (v := ?_) rfl (by kernel_rfl) (by kernel_rfl) (by kernel_rfl) (fun _ _ _ h => h) (Or.inl ⟨by rfl, ?_⟩) (by assumption) ?_
  rotate_left
  · intro w hSw; (try dsimp only at hSw); go_simp <;> with_reducible rfl
  try simp only [Act.put, List.getElem_toArray, List.getElem_cons_zero, List.getElem_cons_succ, List.setIfInBounds_toArray, List.set_cons_zero, List.set_cons_succ]
  refine wpAnyH_take (i := 3) (v := ?_) rfl (by kernel_rfl) (by kernel_rfl) (by kernel_rfl) (fun _ _ _ h => h) (Or.inl ⟨by rfl, ?_⟩) (by assumption) ?_
  rotate_left
  · intro w hSw; (try dsimp only at hSw); go_simp <;> with_reducible rfl
  try simp only [Act.put, List.getElem_toArray, List.getElem_cons_zero, List.getElem_cons_succ, List.setIfInBounds_toArray, List.set_cons_zero, List.set_cons_succ]
  refine wpAnyH_ready (rs := [4]) (by kernel_rfl) (by simp) ?_
  refine AllReadyH.cons rfl (fun K hK => ?_) AllReadyH.nil
  go_simp
  (try go_wp2_with fail)
  refine hK.out _ _ ?_ (fun hHeld => ?_)
  · exact hS.out _ (kpSet2 _ _ _ _)
  clear hK K
  try simp only [Act.put, List.getElem_toArray, List.getElem_cons_zero, List.getElem_cons_succ, List.setIfInBounds_toArray, List.set_cons_zero, List.set_cons_succ]
  refine wpAnyH_take (i := 5) (v := ?_) rfl (by kernel_rfl) (by kernel_rfl) (by kernel_rfl) (fun _ _ _ h => h) (Or.inl ⟨by rfl, ?_⟩) (by assumption) ?_
  rotate_left
  · intro w hSw; (try dsimp only at hSw); go_simp <;> with_reducible rfl
  try simp only [Act.put, List.getElem_toArray, List.getElem_cons_zero, List.getElem_cons_succ, List.setIfInBounds_toArray, List.set_cons_zero, List.set_cons_succ]
  refine wpAnyH_done (by kernel_rfl) ?_ _
  go_wp2_with fail
  obtain ⟨W', hW', hb6, kW'⟩ := set2_ex hb4 (.int .i64 room) (.slice la l.length lc)
  rw [hW']
  obtain ⟨z0, z1, _⟩ := hb6
  refine bodyPost_ret (v := .tuple #[.pointer (some ⟨p, 0, none⟩), .agg #[.int .i64 room, .slice la l.length lc], .bool true]) (by simp [results, Try.results11, go_sem, z0, z1]) rfl ?_
  exact hfin2.out W' kW'
set_option maxHeartbeats 16000000 in
set_option maxRecDepth 100000 in
theorem cNStep2s {w : World} {p : Nat} {v : Value} {n : Nt} (hN : Net w p v n) (hB : Smalls n) (hb : n.l.length ≤ 6000000000000) (r : RN) (hr : RnOk w r) (hL : LikeN r n) (hT : ∀ k ∈ r.foot, k ∉ p :: own v) (o : NOp) (hok : o.ok w) (hk : o.kind = 2) {m : Msg} (ho : atN n o.n = some m) :
    Calls Try.prog 11 #[.pointer (some ⟨p, 0, none⟩), r.v, o.v] w (StN p v r o (dropN n o.n) w) := by
  obtain ⟨w1, hw1, k1, bx, hsz⟩ := boxCN r o w
  have hlt := hN.ltAll
  have hrl := hr.lt
  have hlr : r.l.length ≤ 6000000000000 := by have := hL.len; omega
  have hp0 : w.heap.size ∉ p :: own v := fun h => by have := hlt _ h; omega
  have hp1 : w.heap.size + 1 ∉ p :: own v := fun h => by have := hlt _ h; omega
  have hp2 : w.heap.size + 1 + 1 ∉ p :: own v := fun h => by have := hlt _ h; omega
  have hr2 : w.heap.size + 1 + 1 ∉ r.foot := fun h => by have := hrl _ h; omega
  have hC := cTake (hN.keptNew k1) hB (by omega) o.n
  unfold TakeP at hC
  have hW0 : ∀ v' w2, Wrote p v w1 v' w2 → ∀ k ∈ p :: own v', k ∈ p :: own v ∨ w1.heap.size ≤ k := fun v' w2 hW k hk => by
    rcases List.mem_cons.1 hk with h | h
    · exact .inl (by simp [h])
    · rcases hW.new k h with h | h
      · exact .inl (by simp [h])
      · exact .inr h
  obtain ⟨kN, ekN, hm, hkl⟩ := atN_some ho
  have hkr : kN < r.l.length := by have := hL.len; omega
  have e2 : (decide (0 ≤ o.n) && decide (o.n < r.l.length)) = true := by simp; omega
  rw [ho] at hC
  simp only at hC
  have aT := fun A => cThere r o.n A
  rw [e2] at aT
  obtain ⟨xr, hxr, exr⟩ := hL.at hm
  have hxb : Hid (m.to = xr.to ∧ m.body = xr.bs) := by rw [← exr]; exact ⟨rfl, rfl⟩
  have hAk : Hid (∀ A (a : Option Addr) (c : Nat), Kp (p :: own v) w A → Sees A a xr.bs → Calls Try.prog 23 #[.int .i64 xr.to, .slice a xr.bs.length c, .bool true, r.v, .int .i64 o.n] A fun e w' => e = .returned (.bool true) ∧ Kp [] A w') := fun A a c kA hs => by rw [ekN]; exact cAskedS r A (hr.kept kA hT) hlr kN xr hxr a c hs
  have hRO : Hid (∀ A, Kp (p :: own v) w A → Calls Try.prog 25 #[r.v, .int .i64 o.n] A (fun e w' => ∃ v, e = .returned v ∧ RefN r.foot (dropN n o.n) A v w')) := fun A kA => by rw [ekN]; exact cROut r n A (hr.kept kA hT) hL hlr kN hkr
  obtain ⟨nn, hnn⟩ : ∃ nn, nn = dropN n o.n := ⟨_, rfl⟩
  rw [← hnn] at hC hRO ⊢
  have hr0 : w.heap.size ∉ r.foot := fun h => by have := hrl _ h; omega
  have hfin : Hid (∀ w2 v' w3 w4 w5 (r' : RN), Net w2 p v' nn → Wrote p v w1 v' w2 → Kp [] w2 w3 → RnOk w4 r' → LikeN r' nn → Kp [] w3 w4 → (∀ k ∈ r'.foot, k ∈ r.foot ∨ w3.heap.size ≤ k) → Kp [w.heap.size] w4 w5 → ∀ W', Kp [w.heap.size + 1 + 1] w5 W' → StN p v r o nn w (.returned (.tuple #[.pointer (some ⟨p, 0, none⟩), r'.v, .bool true])) W') := fun w2 v' w3 w4 w5 r' hN2 hW k3 hr4 hL4 k4 hf4 k5 W' kW => by
    have kk : Kp (p :: own v) w w2 := (k1.mono (T := p :: own v) (by simp)).trans hW.kp (fun x hx => .inl hx)
    have hs1 := k1.size
    have hs2 := hW.kp.size
    have hs3 := k3.size
    have hnew := hW0 v' w2 hW
    have hq0 : w.heap.size ∉ p :: own v' := fun h => by
      rcases hnew _ h with h2 | h2
      · exact hp0 h2
      · omega
    have hq0r : w.heap.size ∉ r'.foot := fun h => by
      rcases hf4 _ h with h1 | h1
      · exact hr0 h1
      · omega
    refine stFinN ((((kk.trans k3 (by simp)).trans k4 (by simp)).trans k5 (fun x hx => .inr (by simp only [List.mem_singleton] at hx; omega)))) (((hN2.keptNew k3).keptNew k4).kept k5 (fun k hk h => by simp only [List.mem_singleton] at h; subst h; exact hq0 hk)) (hr4.kept k5 (fun k hk h => by simp only [List.mem_singleton] at h; subst h; exact hq0r hk)) hL4 (fun k hk => (hnew k hk).imp id (fun h => by omega)) (fun k hk => (hf4 k hk).imp (fun h => by simp [h]) (fun h => by omega)) (fun k hk h => ?_) (by omega) (fun h => ?_) (fun h => ?_) kW
    · rcases hf4 k hk with h1 | h1
      · rcases hnew k h with h2 | h2
        · exact hT k h1 h2
        · have := hrl k h1; omega
      · have := hN2.ltAll k h; omega
    · rcases hnew _ h with h2 | h2
      · exact hp2 h2
      · omega
    · rcases hf4 _ h with h1 | h1
      · exact hr2 h1
      · omega
  clear hL hr hT hrl ho e2 hW0 hnn hm ekN exr hxr
  obtain ⟨room, la, lc, l⟩ := r
  simp only [RN.v, NOp.v] at *
  have b0 := bx.rd.c0; have b1 := bx.rd.c1
  have o0 := bx.o0; have o1 := bx.o1; have o2 := bx.o2; have o3 := bx.o3
  rw [hk] at o0 hw1 ⊢
  go_enter Try.func11, Try.ntmps11
  go_wp2_with fail
  refine hC.mono ?_
  rintro e w2 ⟨v', hN2, hW2, ya, yc, rfl, hrow, hyn, hyd⟩
  rw [hxb.out.1, hxb.out.2]
  rw [hxb.out.2] at hrow
  obtain ⟨_, _, er, hsy, _⟩ := hrow.sees
  cases er
  have kk : Kp (p :: own v) w w2 := (k1.mono (T := p :: own v) (by simp)).trans hW2.kp (fun x hx => .inl hx)
  have rd2 := bx.rd.keptS hW2.kp hp0
  have an2 := bx.an.keptS hW2.kp hp2
  have o2' : w2.cell? ⟨w.heap.size + 1, 2, none⟩ = some (.int .i64 o.n) := (hW2.kp.cell (p := ⟨w.heap.size + 1, 2, none⟩) (World.block_lt_of_cell? _ _ o2) hp1).trans o2
  clear b0 b1 o0 o1 o2 o3
  have b0 := rd2.c0; have b1 := rd2.c1
  go_wp2_with fail
  refine (hAk.out w2 ya yc kk hsy).mono ?_
  rintro e w2b ⟨rfl, k2b⟩
  have rd2b := rd2.kept k2b
  have o2b := cell_kp k2b o2'
  clear b0 b1 o2'
  have o2' := o2b
  have b0 := rd2b.c0; have b1 := rd2b.c1
  go_wp2_with fail
  refine (aT w2b).mono ?_
  rintro e w3 ⟨rfl, k3b⟩
  have k3 : Kp [] w2 w3 := k2b.trans k3b (by simp)
  have rd3 := rd2.kept k3
  have o3' := cell_kp k3b o2'
  clear b0 b1 o2' o2b
  have b0 := rd3.c0; have b1 := rd3.c1
  have aO := hRO.out w3 (kk.trans k3 (by simp))
  go_wp2_with fail
  refine aO.mono ?_
  rintro e w4 ⟨vv, rfl, r', rfl, hr4, hL4, k4, hf4⟩
  have rd4 := rd3.kept k4
  obtain ⟨w5, hw5, rd5, k5⟩ := set2_ex rd4 (.int .i64 r'.room) (.slice r'.la r'.l.length r'.lc)
  have an5 := ((an2.kept k3).kept k4).keptS k5 (by simp <;> omega)
  have an6 := an5.kept (w' := w5.drew) (Kp.refl _ _).drew
  obtain ⟨r0, r1, rf⟩ := an6
  have hb4 : B2 w5.drew (w.heap.size + 1 + 1) (.int .i64 0) (.slice none 0 0) := ⟨r0, r1, rf⟩
  have g0 := rf 0; have g1 := rf 1
  have hfin2 : Hid (∀ W', Kp [w.heap.size + 1 + 1] w5.drew W' → StN p v _ o nn w (.returned (.tuple #[.pointer (some ⟨p, 0, none⟩), r'.v, .bool true])) W') := fun W' kW => hfin.out w2 v' w3 w4 w5.drew r' hN2 hW2 k3 hr4 hL4 k4 hf4 k5.drew W' kW
  obtain ⟨room', la', lc', l'⟩ := r'
  simp only [RN.v] at *
  have rdd := rd5.kept (w' := w5.drew) (Kp.refl _ _).drew
  have hS : Hid (∀ A, Kp [w.heap.size + 1 + 1] w5.drew A → (A.cell? ⟨w.heap.size, 0, none⟩ = some (.int .i64 room') ∧ A.cell? ⟨w.heap.size, 1, none⟩ = some (.slice la' l'.length lc'))) := fun A kA => by
    have b := rdd.keptS kA (by simp <;> omega)
    exact ⟨b.c0, b.c1⟩
  obtain ⟨s0, s1, sf⟩ := rd4
  have sf0 := sf 0; have sf1 := sf 1
  have hw5' := hid hw5
  clear hC hfin aT aO hRO hAk hrow hsy b0 b1 o3' hr4 hL4 hf4 hw5
  go_wp2_with fail
  rw [hw5'.out]
  clear s0 s1 sf sf0 sf1
  refine wp_region_held_drew (S := (fun A => A.cell? ⟨w.heap.size, 0, none⟩ = some (.int .i64 room') ∧ A.cell? ⟨w.heap.size, 1, none⟩ = some (.slice la' l'.length lc'))) (by kernel_rfl) ?_ (fun hHeld => ?_)
  · exact hS.out _ (Kp.refl _ _)
  generalize w5.drew = wd at *
  refine wpAnyH_take (i := 0) (v := ?_) rfl (by kernel_rfl) (by kernel_rfl) (by kernel_rfl) (fun _ _ _ h => h) (Or.inl ⟨by rfl, ?_⟩) (by assumption) ?_
  rotate_left
  · intro w hSw; (try dsimp only at hSw); go_simp <;> with_reducible rfl
  try simp only [Act.put, List.getElem_toArray, List.getElem_cons_zero, List.getElem_cons_succ, List.setIfInBounds_toArray, List.set_cons_zero, List.set_cons_succ]
  refine wpAnyH_take (i := 1) (v := ?_) rfl (by kernel_rfl) (by kernel_rfl) (by kernel_rfl) (fun _ _ _ h => h) (Or.inl ⟨by rfl, ?_⟩) (by assumption) ?_
  rotate_left
  · intro w hSw; (try dsimp only at hSw); go_simp <;> with_reducible rfl
  try simp only [Act.put, List.getElem_toArray, List.getElem_cons_zero, List.getElem_cons_succ, List.setIfInBounds_toArray, List.set_cons_zero, List.set_cons_succ]
  refine wpAnyH_take (i := 2) (v := ?_) rfl (by kernel_rfl) (by kernel_rfl) (by kernel_rfl) (fun _ _ _ h => h) (Or.inl ⟨by rfl, ?_⟩) (by assumption) ?_
  rotate_left
  · intro w hSw; (try dsimp only at hSw); go_simp <;> with_reducible rfl
  try simp only [Act.put, List.getElem_toArray, List.getElem_cons_zero, List.getElem_cons_succ, List.setIfInBounds_toArray, List.set_cons_zero, List.set_cons_succ]
  refine wpAnyH_take (i := 3) (v := ?_) rfl (by kernel_rfl) (by kernel_rfl) (by kernel_rfl) (fun _ _ _ h => h) (Or.inl ⟨by rfl, ?_⟩) (by assumption) ?_
  rotate_left
  · intro w hSw; (try dsimp only at hSw); go_simp <;> with_reducible rfl
  try simp only [Act.put, List.getElem_toArray, List.getElem_cons_zero, List.getElem_cons_succ, List.setIfInBounds_toArray, List.set_cons_zero, List.set_cons_succ]
  refine wpAnyH_ready (rs := [4]) (by kernel_rfl) (by simp) ?_
  refine AllReadyH.cons rfl (fun K hK => ?_) AllReadyH.nil
  go_simp
  (try go_wp2_with fail)
  refine hK.out _ _ ?_ (fun hHeld => ?_)
  · exact hS.out _ (kpSet2 _ _ _ _)
  clear hK K
  try simp only [Act.put, List.getElem_toArray, List.getElem_cons_zero, List.getElem_cons_succ, List.setIfInBounds_toArray, List.set_cons_zero, List.set_cons_succ]
  refine wpAnyH_take (i := 5) (v := ?_) rfl (by kernel_rfl) (by kernel_rfl) (by kernel_rfl) (fun _ _ _ h => h) (Or.inl ⟨by rfl, ?_⟩) (by assumption) ?_
  rotate_left
  · intro w hSw; (try dsimp only at hSw); go_simp <;> with_reducible rfl
  try simp only [Act.put, List.getElem_toArray, List.getElem_cons_zero, List.getElem_cons_succ, List.setIfInBounds_toArray, List.set_cons_zero, List.set_cons_succ]
  refine wpAnyH_done (by kernel_rfl) ?_ _
  go_wp2_with fail
  obtain ⟨W', hW', hb6, kW'⟩ := set2_ex hb4 (.int .i64 room') (.slice la' l'.length lc')
  rw [hW']
  obtain ⟨z0, z1, _⟩ := hb6
  refine bodyPost_ret (v := .tuple #[.pointer (some ⟨p, 0, none⟩), .agg #[.int .i64 room', .slice la' l'.length lc'], .bool true]) (by simp [results, Try.results11, go_sem, z0, z1]) rfl ?_
  exact hfin2.out W' kW'
end Go.Proofs.Ytllhmbemcmigoaa
end

section
namespace Go.Proofs.Ytllhmbemcmigoaa
open Go.RowKit Go.Hay
set_option linter.unusedVariables false
set_option linter.unusedSimpArgs false

/-- What a call of step makes of a net. -/
def stpN (n : Nt) (o : NOp) : Nt := if o.kind = 0 then (putN n ⟨o.to, o.raw.bs⟩).1 else if o.kind = 2 ∨ o.kind = 3 then dropN n o.n else if o.kind = 4 then (dblN n o.n).1 else n
theorem cNStepX {w : World} {p : Nat} {v : Value} {n : Nt} (hN : Net w p v n) (hB : Smalls n) (hb : n.l.length ≤ 6000000000000) (r : RN) (hr : RnOk w r) (hL : LikeN r n) (hT : ∀ k ∈ r.foot, k ∉ p :: own v) (o : NOp) (hok : o.ok w) (hfew : o.raw.bs.length ≤ 140737488355328) (hoff : o.raw.bs ≠ [] → ∀ k ∈ blk o.raw.a, k ∉ p :: own v) :
    Calls Try.prog 11 #[.pointer (some ⟨p, 0, none⟩), r.v, o.v] w (StN p v r o (stpN n o) w) := by
  unfold stpN
  by_cases h0 : o.kind = 0
  · rw [if_pos h0]; exact cNStep0 hN hB hb r hr hL hT o hok h0 hfew hoff
  rw [if_neg h0]
  by_cases h2 : o.kind = 2
  · rw [if_pos (.inl h2)]
    cases ho : atN n o.n with
    | none => exact cNStep2n hN hB hb r hr hL hT o hok h2 ho
    | some m => exact cNStep2s hN hB hb r hr hL hT o hok h2 ho
  by_cases h3 : o.kind = 3
  · rw [if_pos (.inr h3)]
    cases ho : atN n o.n with
    | none => exact cNStep3n hN hB hb r hr hL hT o hok h3 ho
    | some m => exact cNStep3s hN hB hb r hr hL hT o hok h3 ho
  rw [if_neg (by omega)]
  by_cases h4 : o.kind = 4
  · rw [if_pos h4]; exact cNStep4 hN hB hb r hr hL hT o hok h4
  rw [if_neg h4]
  by_cases h1 : o.kind = 1
  · cases ho : atN n o.n with
    | none => exact cNStep1n hN hB hb r hr hL hT o hok h1 ho
    | some m => exact cNStep1s hN hB hb r hr hL hT o hok h1 ho
  by_cases h7 : o.kind = 7
  · exact cNStep7 hN hB hb r hr hL hT o hok h7
  by_cases h5 : o.kind = 5
  · exact cNStep5 hN hB hb r hr hL hT o hok h5
  exact cNStep6 hN hB hb r hr hL hT o hok h0 h1 h2 h3 h4 h5 h7
end Go.Proofs.Ytllhmbemcmigoaa
end

section
namespace Go.Proofs.Ytllhmbemcmigoaa
open Go.RowKit Go.Hay
set_option linter.unusedVariables false
set_option linter.unusedSimpArgs false

theorem smallsPut {n : Nt} {m : Msg} (h : Smalls n) (hm : m.body.length ≤ 140737488355328) : Smalls (putN n m).1 := by
  unfold putN
  split
  · exact h
  · intro y hy
    rcases List.mem_append.1 hy with h1 | h1
    · exact h y h1
    · rw [List.mem_singleton] at h1; subst h1; exact hm
theorem smallsDrop {n : Nt} (i : Int) (h : Smalls n) : Smalls (dropN n i) := by
  unfold dropN
  split
  · intro y hy; exact h y (List.mem_of_mem_eraseIdx hy)
  · exact h
theorem smallsStp {n : Nt} {o : NOp} (h : Smalls n) (ho : FewO o) : Smalls (stpN n o) := by
  unfold FewO Few at ho
  unfold stpN
  split
  · exact smallsPut h (by simp only; omega)
  · split
    · exact smallsDrop _ h
    · split
      · unfold dblN
        cases ha : atN n o.n with
        | none => exact h
        | some m => obtain ⟨k, _, hm, _⟩ := atN_some ha; exact smallsPut h (h m (List.mem_of_getElem? hm))
      · exact h
theorem lenPut (n : Nt) (m : Msg) : (putN n m).1.l.length ≤ n.l.length + 1 := by unfold putN; split <;> simp
theorem lenDrop (n : Nt) (i : Int) : (dropN n i).l.length ≤ n.l.length := by
  unfold dropN
  split
  · simp [List.length_eraseIdx]; split <;> omega
  · exact Nat.le_refl _
theorem lenStp (n : Nt) (o : NOp) : (stpN n o).l.length ≤ n.l.length + 1 := by
  unfold stpN
  split
  · exact lenPut _ _
  · split
    · have := lenDrop n o.n; omega
    · split
      · unfold dblN
        cases atN n o.n with
        | none => simp only; omega
        | some m => exact lenPut _ _
      · omega
/-- There is no more than there is room for. -/
def RoomOk (n : Nt) : Prop := (n.l.length : Int) ≤ max n.room 0
theorem roomPut {n : Nt} (m : Msg) (h : RoomOk n) : RoomOk (putN n m).1 := by
  unfold RoomOk at *
  unfold putN
  split
  · exact h
  · simp only [List.length_append, List.length_cons, List.length_nil]; omega
theorem roomDrop {n : Nt} (i : Int) (h : RoomOk n) : RoomOk (dropN n i) := by
  have hl := lenDrop n i
  have hr : (dropN n i).room = n.room := by unfold dropN; split <;> rfl
  unfold RoomOk at *
  rw [hr]
  omega
theorem roomStp {n : Nt} (o : NOp) (h : RoomOk n) : RoomOk (stpN n o) := by
  unfold stpN
  split
  · exact roomPut _ h
  · split
    · exact roomDrop _ h
    · split
      · unfold dblN
        cases atN n o.n with
        | none => exact h
        | some m => exact roomPut _ h
      · exact h
/-- A net and its reference, all of it behind W. -/
structure PN (W w : World) (p : Nat) (v : Value) (r : RN) (n : Nt) : Prop where
  D : Net w p v n
  R : RnOk w r
  L : LikeN r n
  kp : Kp [] W w
  nw : ∀ k ∈ p :: own v, W.heap.size ≤ k
  ap : ∀ k ∈ r.foot, k ∉ p :: own v
theorem PN.keepS {W w w' : World} {p : Nat} {v : Value} {r : RN} {n : Nt} {S : List Nat} (P : PN W w p v r n) (hk : Kp S w w') (h1 : ∀ k ∈ S, k ∉ p :: own v) (h2 : ∀ k ∈ S, k ∉ r.foot) (h3 : ∀ k ∈ S, W.heap.size ≤ k) : PN W w' p v r n :=
  ⟨P.D.kept hk (fun k hk' hs => h1 k hs hk'), P.R.kept hk (fun k hk' hs => h2 k hs hk'), P.L, P.kp.trans hk (fun k hk' => .inr (h3 k hk')), P.nw, P.ap⟩
theorem PN.keep {W w w' : World} {p : Nat} {v : Value} {r : RN} {n : Nt} (P : PN W w p v r n) (hk : Kp [] w w') : PN W w' p v r n := P.keepS hk (by simp) (by simp) (by simp)
theorem PN.off {W w : World} {p : Nat} {v : Value} {r : RN} {n : Nt} (P : PN W w p v r n) {o : NOp} (ho : o.ok W) : o.raw.bs ≠ [] → ∀ k ∈ blk o.raw.a, k ∉ p :: own v := fun hne k hk hm => by
  have h1 := ho.raw.see.lt hne k hk
  have h2 := P.nw k hm
  omega
theorem PN.step {W w w' : World} {p p' : Nat} {v v' : Value} {r r' : RN} {n n' : Nt} (P : PN W w p v r n) (hD : Net w' p' v' n') (hR : RnOk w' r') (hL : LikeN r' n') (kk : Kp (p :: own v) w w') (n1 : ∀ k ∈ p' :: own v', k ∈ p :: own v ∨ w.heap.size ≤ k) (n3 : ∀ k ∈ r'.foot, k ∉ p' :: own v') : PN W w' p' v' r' n' :=
  ⟨hD, hR, hL, P.kp.trans kk (fun k hk => .inr (P.nw k hk)), fun k hk => by
    rcases n1 k hk with h | h
    · exact P.nw k h
    · have := P.kp.size; omega, n3⟩
/-- Behind a call of step, and the store of the reference into its box. -/
theorem pnStep {W w3 w4 w5 : World} {p p' q : Nat} {v v' : Value} {r r' : RN} {n n' : Nt} {o : NOp} (P : PN W w3 p v r n) (ho : o.ok W) (hq : q < w3.heap.size) (hW : W.heap.size ≤ q) (hqf : q ∉ p :: own v) (hqr : q ∉ r.foot)
    (hD : Net w4 p' v' n') (hR : RnOk w4 r') (hL : LikeN r' n') (kk : Kp (p :: own v) w3 w4) (n1 : ∀ k ∈ p' :: own v', k ∈ p :: own v ∨ w3.heap.size ≤ k) (n2 : ∀ k ∈ r'.foot, k ∈ r.foot ++ o.ft ∨ w3.heap.size ≤ k) (n3 : ∀ k ∈ r'.foot, k ∉ p' :: own v') (k5 : Kp [q] w4 w5) :
    PN W w5 p' v' r' n' ∧ q ∉ p' :: own v' ∧ q ∉ r'.foot := by
  have h1 : q ∉ p' :: own v' := fun h => by
    rcases n1 q h with h | h
    · exact hqf h
    · omega
  have h2 : q ∉ r'.foot := fun h => by
    rcases n2 q h with h | h
    · rcases List.mem_append.1 h with h | h
      · exact hqr h
      · unfold NOp.ft at h
        split at h
        · cases h
        · rename_i hne; have := ho.raw.see.lt hne q h; omega
    · omega
  exact ⟨(P.step hD hR hL kk n1 n3).keepS k5 (by simpa using h1) (by simpa using h2) (by simpa using hW), h1, h2⟩
theorem box4 (o : NOp) (w : World) : ∃ wb, w.alloc (.cells #[.int .i64 o.kind, .int .i64 o.to, .int .i64 o.n, .slice o.raw.a o.raw.bs.length o.raw.c] 39) = wb ∧ Kp [] w wb ∧ wb.cell? ⟨w.heap.size, 0, none⟩ = some (.int .i64 o.kind) ∧ wb.cell? ⟨w.heap.size, 1, none⟩ = some (.int .i64 o.to) ∧ wb.cell? ⟨w.heap.size, 2, none⟩ = some (.int .i64 o.n) ∧ wb.cell? ⟨w.heap.size, 3, none⟩ = some (.slice o.raw.a o.raw.bs.length o.raw.c) ∧ w.heap.size < wb.heap.size :=
  ⟨_, rfl, (Kp.refl _ _).alloc _, World.cell?_alloc_new w _ _ 0, World.cell?_alloc_new w _ _ 1, World.cell?_alloc_new w _ _ 2, World.cell?_alloc_new w _ _ 3, by simp⟩
theorem boxRN (r : RN) (w : World) : ∃ w1, (w.alloc (.cells #[.int .i64 r.room, .slice r.la r.l.length r.lc] 28)).alloc (.cells #[.int .i64 0, .slice none 0 0] 28) = w1 ∧ Kp [] w w1 ∧ B2 w1 w.heap.size (.int .i64 r.room) (.slice r.la r.l.length r.lc) ∧ B2 w1 (w.heap.size + 1) (.int .i64 0) (.slice none 0 0) :=
  ⟨_, rfl, ((Kp.refl _ _).alloc _).alloc _, (B2.at _ rfl _ _ _).kept ((Kp.refl _ _).alloc _), B2.at _ (by simp) _ _ _⟩
/-- What may have turned since w, and where net and reference lie now. -/
structure MvN (W w : World) (F R : List Nat) (p' : Nat) (v : Value) (r : RN) (wn : World) : Prop where
  kp : Kp F w wn
  net : ∀ k ∈ p' :: own v, k ∈ F ∨ w.heap.size ≤ k
  ref : ∀ k ∈ r.foot, k ∈ R ∨ k < W.heap.size ∨ w.heap.size ≤ k
theorem MvN.step {W w w3 w4 w5 : World} {F R : List Nat} {p p' q : Nat} {v v' : Value} {r r' : RN} {o : NOp} (h : MvN W w F R p v r w3) (ho : o.ok W) (hq : w.heap.size ≤ q)
    (kk : Kp (p :: own v) w3 w4) (n1 : ∀ k ∈ p' :: own v', k ∈ p :: own v ∨ w3.heap.size ≤ k) (n2 : ∀ k ∈ r'.foot, k ∈ r.foot ++ o.ft ∨ w3.heap.size ≤ k) (k5 : Kp [q] w4 w5) : MvN W w F R p' v' r' w5 := by
  have hz := h.kp.size
  refine ⟨(h.kp.trans kk h.net).trans k5 (fun k hk => .inr (by simp at hk; omega)), fun k hk => ?_, fun k hk => ?_⟩
  · rcases n1 k hk with h1 | h1
    · exact h.net k h1
    · exact .inr (by omega)
  · rcases n2 k hk with h1 | h1
    · rcases List.mem_append.1 h1 with h1 | h1
      · exact h.ref k h1
      · unfold NOp.ft at h1
        split at h1
        · cases h1
        · rename_i hne; exact .inr (.inl (ho.raw.see.lt hne k h1))
    · exact .inr (.inr (by omega))
/-- How it stands behind j calls. -/
def RunN (W w : World) (F R : List Nat) (q m0 : Nat) (p' : Nat) (j : Nat) (wn : World) : Prop :=
  ∃ (v : Value) (n : Nt) (r : RN), MvN W w F R p' v r wn ∧ PN W wn p' v r n ∧ Smalls n ∧ RoomOk n ∧ n.l.length ≤ m0 + j ∧ B2 wn q (.int .i64 r.room) (.slice r.la r.l.length r.lc) ∧ q ∉ p' :: own v ∧ q ∉ r.foot ∧ B2 wn (q + 1) (.int .i64 0) (.slice none 0 0) ∧ q + 1 ∉ p' :: own v ∧ q + 1 ∉ r.foot
def RunNR (W w : World) (F R : List Nat) (m : Nat) (e : Ending) (w' : World) : Prop :=
  ∃ (p' : Nat) (v : Value) (n : Nt) (r : RN), e = .returned (.tuple #[.pointer (some ⟨p', 0, none⟩), r.v, .bool true]) ∧ MvN W w F R p' v r w' ∧ PN W w' p' v r n ∧ Smalls n ∧ RoomOk n ∧ n.l.length ≤ m
def RunNQ (W : World) (m : Nat) (e : Ending) (w' : World) : Prop :=
  ∃ (p' : Nat) (v : Value) (n : Nt) (r : RN), e = .returned (.tuple #[.pointer (some ⟨p', 0, none⟩), r.v, .bool true]) ∧ PN W w' p' v r n ∧ Smalls n ∧ n.l.length ≤ m
set_option maxHeartbeats 16000000 in
set_option maxRecDepth 100000 in
theorem cRunM {W w : World} {p : Nat} {v : Value} {r : RN} {n : Nt} (P : PN W w p v r n) (hB : Smalls n) (hRo : RoomOk n) {m0 : Nat} (hm0 : n.l.length ≤ m0) (a : Option Addr) (c : Nat) (l : List NOp) (hs1 : NOpE.See W a l) (hok1 : ∀ o ∈ l, o.ok W) (hfew : ∀ o ∈ l, FewO o) (hn1 : m0 + l.length ≤ 5900000000000) :
    Calls Try.prog 8 #[.pointer (some ⟨p, 0, none⟩), r.v, .slice a l.length c] w (RunNR W w (p :: own v) r.foot (m0 + l.length)) := by
  obtain ⟨w1, hw1, k1, bx, br⟩ := boxRN r w
  have hWw := P.kp.size
  have hPl := P.D.ltAll
  obtain ⟨F, hF⟩ : ∃ F, Hid (F = p :: own v) := ⟨_, rfl⟩
  obtain ⟨R, hR⟩ : ∃ R, Hid (R = r.foot) := ⟨_, rfl⟩
  have A0 : Hid (RunN W w F R w.heap.size m0 p 0 w1) := ⟨v, n, r, ⟨k1.mono (by simp), fun k hk => .inl (by rw [hF.out]; exact hk), fun k hk => .inl (by rw [hR.out]; exact hk)⟩, P.keep k1, hB, hRo, by omega, bx, fun h => by have := hPl _ h; omega, fun h => by have := P.R.lt _ h; omega, br, fun h => by have := hPl _ h; omega, fun h => by have := P.R.lt _ h; omega⟩
  have hw1' := hid hw1
  rw [← hF.out, ← hR.out]
  obtain ⟨room0, la0, lc0, l0⟩ := r
  simp only [RN.v] at *
  clear P hw1 bx br hPl
  obtain ⟨q, hq⟩ : ∃ q, Hid (w.heap.size = q) := ⟨_, rfl⟩
  rw [hq.out] at A0
  have hqw : w.heap.size ≤ q := by rw [hq.out]; exact Nat.le_refl _
  have hqW : W.heap.size ≤ q := by have := hq.out; omega
  go_enter Try.func8, Try.ntmps8
  go_wp2_with fail
  rw [hw1'.out, hq.out]
  clear hw1' hWw
  go_loopw [0, 14] (fun v i wn => ∃ (p' j : Nat), j ≤ l.length ∧ i = .int .i64 j ∧ v = .pointer (some ⟨p', 0, none⟩) ∧ RunN W w F R q m0 p' j wn) (fun _ i _ => l.length - (intOf i).toNat)
  case atStart => exact ⟨p, 0, Nat.zero_le _, rfl, rfl, A0.out⟩
  case round =>
    clear A0
    obtain ⟨p', j, hj, rfl, rfl, hA⟩ := hrel
    by_cases hjl : j < l.length
    · obtain ⟨o, ho⟩ : ∃ o, l[j]? = some o := ⟨l[j], by simp [hjl]⟩
      have hom := List.mem_of_getElem? ho
      obtain ⟨v, n, r, mv, P, hBn, hRn, hln, rb, hqf, hqr, bz, hzf, hzr⟩ := hA
      obtain ⟨g, f, rfl, x0, x1, x2, x3⟩ := opAt (hs1.keptNew P.kp) ho
      obtain ⟨wb, hwb, kb, y0, y1, y2, y3, hqb⟩ := box4 o wr
      have Pb := P.keep kb
      have mvb : MvN W w F R p' v r wb := ⟨mv.kp.trans kb (by simp), mv.net, mv.ref⟩
      have hqlt : q < wr.heap.size := rb.lt
      have hzlt : q + 1 < wr.heap.size := bz.lt
      have hwb' := hid hwb
      have hoW := hok1 o hom
      have hof := hfew o hom
      have rbb := rb.kept kb
      have hzb := kb.size
      have a3 := cNStepX Pb.D hBn (by omega) r Pb.R Pb.L Pb.ap o (hoW.kept (S := []) Pb.kp (by simp)) (by unfold FewO Few at hof; omega) (P.off hoW)
      have hsm := smallsStp hBn hof
      have hls := lenStp n o
      have hrs := roomStp o hRn
      obtain ⟨n', hn'⟩ : ∃ n', n' = stpN n o := ⟨_, rfl⟩
      rw [← hn'] at a3 hsm hls hrs
      have b0 := rb.c0
      have b1 := rb.c1
      have hqb' : q < wb.heap.size := rbb.lt
      have bzb := bz.kept kb
      obtain ⟨room', la', lc', l'⟩ := r
      simp only [RN.v, NOp.v] at *
      clear P rb hn' hwb ho bz hof
      go_wp2_with fail
      rw [hwb'.out]
      clear x0 x1 x2 x3
      refine a3.mono ?_
      rintro e w4 ⟨p2, v2, r', rfl, hD4, hR4, hL4, kk, n1, n2, n3⟩
      have bq4 := rbb.keptS kk hqf
      have bz4 := bzb.keptS kk hzf
      obtain ⟨W5, hW5, rb5, k5⟩ := set2_ex bq4 (.int .i64 r'.room) (.slice r'.la r'.l.length r'.lc)
      obtain ⟨P5, hqf5, hqr5⟩ := pnStep Pb hoW hqb' hqW hqf hqr hD4 hR4 hL4 kk n1 n2 n3 k5
      have mv5 := MvN.step mvb hoW hqw kk n1 n2 k5
      have hfin5 : Hid (RunN W w F R q m0 p2 (j + 1) W5) := ⟨v2, n', r', mv5, P5, hsm, hrs, by omega, rb5, hqf5, hqr5, bz4.keptS k5 (by simp), fun h => by
        rcases n1 _ h with h | h
        · exact hzf h
        · omega, fun h => by
        rcases n2 _ h with h | h
        · rcases List.mem_append.1 h with h | h
          · exact hzr h
          · unfold NOp.ft at h
            split at h
            · cases h
            · rename_i hne; have := hoW.raw.see.lt hne _ h; omega
        · omega⟩
      have q0 := bq4.c0; have q1 := bq4.c1
      have g0 := bq4.free 0; have g1 := bq4.free 1
      obtain ⟨room', la', lc', l'⟩ := r'
      simp only [RN.v] at *
      have hW5' := hid hW5
      clear hW5 a3 y0 y1 y2 y3 b0 b1 Pb P5 hD4 hR4 hL4 n1 n2 n3 rbb
      go_wp2_with fail
      rw [hW5'.out]
      exact ⟨⟨p2, j + 1, by omega, by go_num, rfl, hfin5.out⟩, by simp [intOf]; omega⟩
    · obtain rfl : j = l.length := by omega
      obtain ⟨v, n, r, mv, P, hBn, hRn, hln, rb, hqf, hqr, bz, hzf, hzr⟩ := hA
      have Pd := P.keep (w' := wr.drew) (Kp.refl _ _).drew
      have hSt := cStandsN Pd.D hBn (by omega) r Pd.R Pd.L.l
      have rbd := rb.kept (w' := wr.drew) (Kp.refl _ _).drew
      have bzd := bz.kept (w' := wr.drew) (Kp.refl _ _).drew
      have hfin : Hid (∀ w5, Kp [] wr.drew w5 → ∀ W', Kp [q + 1] w5 W' → q + 1 ∉ r.foot → RunNR W w F R (m0 + l.length) (.returned (.tuple #[.pointer (some ⟨p', 0, none⟩), r.v, .bool true])) W') := fun w5 k5 W' kW hn => by
        exact ⟨p', v, n, r, rfl, ⟨((mv.kp.trans (Kp.refl [] wr).drew (by simp)).trans k5 (by simp)).trans kW (fun k hk => .inr (by simp at hk; omega)), mv.net, mv.ref⟩, (Pd.keep k5).keepS kW (by simpa using hzf) (by simpa using hn) (by simp; omega), hBn, hRn, hln⟩
      have hnz : Hid (q + 1 ∉ r.foot) := hzr
      obtain ⟨room, la, lc, lf⟩ := r
      simp only [RN.v] at *
      have hS : Hid (∀ A, Kp [q + 1] wr.drew A → (A.cell? ⟨q, 0, none⟩ = some (.int .i64 room) ∧ A.cell? ⟨q, 1, none⟩ = some (.slice la lf.length lc))) := fun A kA => by
        have b := rbd.keptS kA (by simp)
        exact ⟨b.c0, b.c1⟩
      clear P Pd rb bz
      go_wp2_with fail
      refine wp_region_held_drew (S := (fun A => A.cell? ⟨q, 0, none⟩ = some (.int .i64 room) ∧ A.cell? ⟨q, 1, none⟩ = some (.slice la lf.length lc))) (by kernel_rfl) ?_ (fun hHeld => ?_)
      · exact hS.out _ (Kp.refl _ _)
      generalize wr.drew = wd at *
      refine wpAnyH_take (i := 0) (v := ?_) rfl (by kernel_rfl) (by kernel_rfl) (by kernel_rfl) (fun _ _ _ h => h) (Or.inl ⟨by rfl, ?_⟩) (by assumption) ?_
      rotate_left
      · intro w hSw; (try dsimp only at hSw); go_simp <;> with_reducible rfl
      try simp only [Act.put, List.getElem_toArray, List.getElem_cons_zero, List.getElem_cons_succ, List.setIfInBounds_toArray, List.set_cons_zero, List.set_cons_succ]
      refine wpAnyH_take (i := 1) (v := ?_) rfl (by kernel_rfl) (by kernel_rfl) (by kernel_rfl) (fun _ _ _ h => h) (Or.inl ⟨by rfl, ?_⟩) (by assumption) ?_
      rotate_left
      · intro w hSw; (try dsimp only at hSw); go_simp <;> with_reducible rfl
      try simp only [Act.put, List.getElem_toArray, List.getElem_cons_zero, List.getElem_cons_succ, List.setIfInBounds_toArray, List.set_cons_zero, List.set_cons_succ]
      refine wpAnyH_take (i := 2) (v := ?_) rfl (by kernel_rfl) (by kernel_rfl) (by kernel_rfl) (fun _ _ _ h => h) (Or.inl ⟨by rfl, ?_⟩) (by assumption) ?_
      rotate_left
      · intro w hSw; (try dsimp only at hSw); go_simp <;> with_reducible rfl
      try simp only [Act.put, List.getElem_toArray, List.getElem_cons_zero, List.getElem_cons_succ, List.setIfInBounds_toArray, List.set_cons_zero, List.set_cons_succ]
      refine wpAnyH_take (i := 3) (v := ?_) rfl (by kernel_rfl) (by kernel_rfl) (by kernel_rfl) (fun _ _ _ h => h) (Or.inl ⟨by rfl, ?_⟩) (by assumption) ?_
      rotate_left
      · intro w hSw; (try dsimp only at hSw); go_simp <;> with_reducible rfl
      try simp only [Act.put, List.getElem_toArray, List.getElem_cons_zero, List.getElem_cons_succ, List.setIfInBounds_toArray, List.set_cons_zero, List.set_cons_succ]
      refine wpAnyH_ready (rs := [4]) (by kernel_rfl) (by simp) ?_
      refine AllReadyH.cons rfl (fun K hK => ?_) AllReadyH.nil
      go_simp
      refine hSt.mono ?_
      rintro e w5 ⟨rfl, k5⟩
      have hb4 := bzd.kept k5
      have r0 := hb4.c0; have r1 := hb4.c1
      have g0 := hb4.free 0; have g1 := hb4.free 1
      (try go_wp2_with fail)
      refine hK.out _ _ ?_ (fun hHeld => ?_)
      · exact hS.out _ (k5.mono (by simp))
      clear hK K
      try simp only [Act.put, List.getElem_toArray, List.getElem_cons_zero, List.getElem_cons_succ, List.setIfInBounds_toArray, List.set_cons_zero, List.set_cons_succ]
      refine wpAnyH_take (i := 5) (v := ?_) rfl (by kernel_rfl) (by kernel_rfl) (by kernel_rfl) (fun _ _ _ h => h) (Or.inl ⟨by rfl, ?_⟩) (by assumption) ?_
      rotate_left
      · intro w hSw; (try dsimp only at hSw); go_simp <;> with_reducible rfl
      try simp only [Act.put, List.getElem_toArray, List.getElem_cons_zero, List.getElem_cons_succ, List.setIfInBounds_toArray, List.set_cons_zero, List.set_cons_succ]
      refine wpAnyH_ready (rs := [6]) (by kernel_rfl) (by simp) ?_
      refine AllReadyH.cons rfl (fun K hK => ?_) AllReadyH.nil
      go_simp
      (try go_wp2_with fail)
      refine hK.out _ _ ?_ (fun hHeld => ?_)
      · exact hS.out _ ((k5.mono (T := [q + 1]) (by simp)).trans (kpSet2 _ _ _ _) (fun x hx => .inl hx))
      clear hK K
      try simp only [Act.put, List.getElem_toArray, List.getElem_cons_zero, List.getElem_cons_succ, List.setIfInBounds_toArray, List.set_cons_zero, List.set_cons_succ]
      refine wpAnyH_take (i := 7) (v := ?_) rfl (by kernel_rfl) (by kernel_rfl) (by kernel_rfl) (fun _ _ _ h => h) (Or.inl ⟨by rfl, ?_⟩) (by assumption) ?_
      rotate_left
      · intro w hSw; (try dsimp only at hSw); go_simp <;> with_reducible rfl
      try simp only [Act.put, List.getElem_toArray, List.getElem_cons_zero, List.getElem_cons_succ, List.setIfInBounds_toArray, List.set_cons_zero, List.set_cons_succ]
      refine wpAnyH_done (by kernel_rfl) ?_ _
      go_wp2_with fail
      obtain ⟨W', hW', hb6, kW'⟩ := set2_ex hb4 (.int .i64 room) (.slice la lf.length lc)
      rw [hW']
      obtain ⟨z0, z1, _⟩ := hb6
      refine bodyPost_ret (v := .tuple #[.pointer (some ⟨p', 0, none⟩), .agg #[.int .i64 room, .slice la lf.length lc], .bool true]) (by simp [results, Try.results8, go_sem, z0, z1]) rfl ?_
      exact hfin.out w5 k5 W' kW' hnz.out
theorem cRunN {W w : World} {p : Nat} {v : Value} {r : RN} {n : Nt} (P : PN W w p v r n) (hB : Smalls n) (hRo : RoomOk n) {m0 : Nat} (hm0 : n.l.length ≤ m0) (a : Option Addr) (c : Nat) (l : List NOp) (hs1 : NOpE.See W a l) (hok1 : ∀ o ∈ l, o.ok W) (hfew : ∀ o ∈ l, FewO o) (hn1 : m0 + l.length ≤ 5900000000000) :
    Calls Try.prog 8 #[.pointer (some ⟨p, 0, none⟩), r.v, .slice a l.length c] w (RunNQ W (m0 + l.length)) :=
  (cRunM P hB hRo hm0 a c l hs1 hok1 hfew hn1).mono fun e w' ⟨p', v, n, r, h1, _, h2, h3, _, h4⟩ => ⟨p', v, n, r, h1, h2, h3, h4⟩
/-- A new net, and the reference's. -/
theorem roomNew (room : Int) : RoomOk ⟨room, []⟩ := by unfold RoomOk; simp only [List.length_nil]; omega
theorem pnNew {W w1 w2 : World} {p : Nat} {room : Int} {r : RN} (hN : Net w1 p (.slice none 0 0) ⟨room, []⟩) (k1 : Kp [] W w1) (hp : W.heap.size ≤ p) (hR : RnOk w2 r) (hL : LikeN r ⟨room, []⟩) (k2 : Kp [] w1 w2) (hft : ∀ k ∈ r.foot, k ∈ ([] : List Nat) ∨ w1.heap.size ≤ k) : PN W w2 p (.slice none 0 0) r ⟨room, []⟩ :=
  ⟨hN.keptNew k2, hR, hL, k1.trans k2 (by simp), fun k hk => by simp [own, Value.ownBlock] at hk; omega, fun k hk h => by
    have h1 := hN.ltAll k h
    rcases hft k hk with h2 | h2
    · cases h2
    · omega⟩
set_option maxHeartbeats 8000000 in
set_option maxRecDepth 100000 in
theorem allNWalk (room : Int) (a : Option Addr) (c : Nat) (l : List NOp) (W : World) (hs1 : NOpE.See W a l) (hok1 : ∀ o ∈ l, o.ok W) (hfew : ∀ o ∈ l, FewO o) (hn1 : l.length ≤ 2940000000000) :
    Calls Try.prog 3 #[.int .i64 room, .slice a l.length c] W (fun e W' => e = .returned (.bool true) ∧ Below W.heap.size W W') := by
  go_enter Try.func3, Try.ntmps3
  go_wp2_with fail
  refine (cBegun room W).mono ?_
  rintro e w1 ⟨p, rfl, hN1, k1, hp⟩
  have a2 := cRNew room w1
  go_wp2_with fail
  refine a2.mono ?_
  rintro e w2 ⟨v, rfl, r, rfl, hr2, hL2, k2, hft2⟩
  have P2 := pnNew hN1 k1 hp hr2 hL2 k2 hft2
  have a3 := cRunN P2 (by intro m hm; simp at hm) (roomNew room) (m0 := 0) (by simp) a c l hs1 hok1 hfew (by omega)
  obtain ⟨room', la', lc', l'⟩ := r
  simp only [RN.v] at *
  clear P2 hN1 hr2 hL2 hft2 a2
  go_wp2_with fail
  refine a3.mono ?_
  rintro e w3 ⟨p', v', n', r', rfl, P3, _, _⟩
  have kf := P3.kp
  clear P3
  go_wp2_with fail
  go_ret
  exact ⟨rfl, kf.below⟩
end Go.Proofs.Ytllhmbemcmigoaa
end

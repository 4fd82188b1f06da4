/- A disk that was wiped has what a new one of that room has: the walk. -/
import Derived.Test.YtgllkonbgigcbabWchg
namespace Go.Proofs.Ytgllkonbgigcbab
open Go.RowKit Go.Hay
set_option linter.unusedVariables false
set_option linter.unusedSimpArgs false

/-- Where the first disk stands behind j calls. -/
def WipA (W : World) (p mb p2 mb2 : Nat) (R : Nat) (l : List DOp) (e : Dk) (j : Nat) (wn : World) : Prop :=
  ∃ (s : Nat) (files : List Fl) (xs : List Ent), Two W wn p mb xs ⟨R, s, files, none, false⟩ p2 mb2 [] e ∧ Low (sumB (l.take j)) j ⟨R, s, files, none, false⟩ ∧ s ≤ j
/-- Where both stand behind j calls. -/
def WipB (W : World) (p mb p2 mb2 : Nat) (R : Nat) (l : List DOp) (j : Nat) (wn : World) : Prop :=
  ∃ (s s2 : Nat) (files : List Fl) (xs ys : List Ent), Two W wn p mb xs ⟨R, s, files, none, false⟩ p2 mb2 ys ⟨R, s2, files, none, false⟩ ∧ Low (sumB (l.take j)) j ⟨R, s, files, none, false⟩ ∧ s ≤ 2000000 + j ∧ s2 ≤ 2000000 + j
theorem low_steps {K J R s s2 : Nat} {files : List Fl} (h : Low K J ⟨R, s, files, none, false⟩) : Low K J ⟨R, s2, files, none, false⟩ := ⟨⟨h.ok.rise, h.ok.last, h.ok.name, h.ok.sum, h.ok.room, fun n hn => by simp at hn⟩, h.len⟩
theorem offArg {W w : World} {o : DOp} (ho : o.ok W) {F : List Nat} (h : ∀ k ∈ F, W.heap.size ≤ k) : o.b.bs ≠ [] → ∀ k ∈ blk o.b.a, k ∉ F := fun hb k hk hf => by
  have := h k hf
  have := ho.b.see.lt hb k hk
  omega
/-- The region 'change(d, ref.New(0), o)': from where it begins, to where it ends. -/
theorem newRef (w : World) : Calls Try.prog 7 #[.int .i64 0] w fun e w' => ∃ r : RD, e = .returned r.v ∧ RdOk w' r ∧ Like r (newD 0) ∧ Kp [] w w' :=
  (cRefNew 0 w (by omega)).mono fun e w' h => by
    obtain ⟨v, rfl, r, rfl, h1, h2, h3, _⟩ := h
    exact ⟨r, rfl, h1, h2, h3⟩
set_option maxHeartbeats 16000000 in
set_option maxRecDepth 100000 in
theorem wipedWalk (room : Int) (hroom : room < 9223372036854775808) (a : Option Addr) (c : Nat) (l1 : List DOp) (a' : Option Addr) (c' : Nat) (l2 : List DOp) (W : World) (hs1 : DOpE.See W a l1) (hok1 : ∀ o ∈ l1, o.ok W) (hs2 : DOpE.See W a' l2) (hok2 : ∀ o ∈ l2, o.ok W)
    (hb1 : sumB l1 ≤ 1048576) (hn1 : l1.length ≤ 1048576) (hb2 : sumB l2 ≤ 1048576) (hn2 : l2.length ≤ 1048576) :
    Calls Try.prog 4 #[.int .i64 room, .slice a l1.length c, .slice a' l2.length c'] W (fun e W' => e = .returned (.bool true) ∧ Kp [] W W') := by
  obtain ⟨R, hR⟩ : ∃ R, R = room.toNat := ⟨_, rfl⟩
  have hRl : R < 9223372036854775808 := by omega
  go_enter Try.func4, Try.ntmps4
  go_wp2_with fail
  refine (cBegun room W hroom).mono ?_
  rintro e w1 ⟨p, mb, rfl, hD1, k1, hp, hmb⟩
  go_wp2_with fail
  refine (cBegun room w1 hroom).mono ?_
  rintro e w2 ⟨p2, mb2, rfl, hD2, k2, hp2, hmb2⟩
  have hlt1 := hD1.lt
  have hnd : newD room = ⟨R, 0, [], none, false⟩ := by rw [hR]; rfl
  rw [hnd] at hD1 hD2
  have T0 : Two W w2 p mb [] ⟨R, 0, [], none, false⟩ p2 mb2 [] ⟨R, 0, [], none, false⟩ := by
    refine ⟨hD1.keptNew k2, hD2, k1.trans k2 (by simp), fun k hk => by simp [foot] at hk; omega, fun k hk => ?_, fun k hk hx => ?_⟩
    · have := k1.size; simp [foot] at hk; omega
    · have := hlt1 k hk; simp [foot] at hx; omega
  have low0 : Low 0 0 ⟨R, 0, [], none, false⟩ := ⟨⟨List.Pairwise.nil, by simp, by simp, by simp [sumF], by simp, by simp⟩, by simp⟩
  have A0 : WipA W p mb p2 mb2 R l1 ⟨R, 0, [], none, false⟩ 0 w2 := ⟨0, [], [], T0, by simpa [sumB] using low0, Nat.le_refl _⟩
  clear T0 hD1 hD2 k1 k2 hlt1 hR hnd
  go_wp2_with fail
  go_loopw [40] (fun i wn => ∃ j : Nat, j ≤ l1.length ∧ i = .int .i64 j ∧ WipA W p mb p2 mb2 R l1 ⟨R, 0, [], none, false⟩ j wn) (fun i _ => l1.length - (intOf i).toNat)
  case atStart => exact ⟨0, Nat.zero_le _, rfl, A0⟩
  case round =>
    clear A0
    obtain ⟨j, hj, rfl, hA⟩ := hrel
    by_cases hjl : j < l1.length
    · obtain ⟨o, ho⟩ : ∃ o, l1[j]? = some o := ⟨l1[j], by simp [hjl]⟩
      have hom := List.mem_of_getElem? ho
      have hso := hid (sumB_take ho)
      have hsl := sumB_le l1 (j + 1)
      obtain ⟨s, files, xs, T, low, hsj⟩ := hA
      obtain ⟨g, f, rfl, x0, x1, x2, x3, x4, x5, x6⟩ := dopAt (hs1.keptNew T.kp) ho
      obtain ⟨wb, hwb, kb, hop, hqb⟩ := box7 o wr
      have Tb := T.keep kb
      have hltF := T.D1.lt
      have hop0 := hop
      obtain ⟨y0, y1, y2, y3, y4, y5, y6⟩ := hop0
      have hwb' := hid hwb
      have hoW := hok1 o hom
      clear hwb ho
      by_cases hko : o.kind < 5
      · go_wp2_with fail
        rw [hwb'.out]
        have hq : wr.heap.size ∉ foot p mb xs := fun h => by have := hltF _ h; omega
        have Td := Tb.keep (w' := wb.drew) (Kp.refl _ _).drew
        have hop1 : Op7 wr.heap.size o wb.drew := hop
        have hkeep1 : ∀ A B xs', Kp [] wb.drew A → Mv (foot p mb xs) A (foot p mb xs') B → Op7 wr.heap.size o B := fun A B xs' kA mv => (hop1.kept kA (by simp)).kept mv.kp hq
        have hfin1 : Hid (∀ A B xs', Kp [] wb.drew A → Disk B p mb xs' (chgD ⟨R, s, files, none, false⟩ o) → Mv (foot p mb xs) A (foot p mb xs') B → WipA W p mb p2 mb2 R l1 ⟨R, 0, [], none, false⟩ (j + 1) B) := fun A B xs' kA hD mv => by
          have T2 := (Td.keep kA).chg1 hD mv
          have hlow := low_chg o low (by have := hso.out; omega)
          obtain ⟨F, k, hk1, hform⟩ := chg_form R files o
          rw [hform s] at T2 hlow
          exact ⟨s + k, F, xs', T2, by rw [hso.out]; exact hlow, by omega⟩
        have hcc : Hid (∀ A (r : RD), Kp [] wb.drew A → RdOk A r → Like r (newD 0) → Calls Try.prog 6 #[.pointer (some ⟨p, 0, none⟩), r.v, o.v] A (Chg0 p mb xs (chgD ⟨R, s, files, none, false⟩ o) A)) := fun A r kA hr hL =>
          cChange0 (Td.keep kA).D1 low (by omega) r hr hL o hko (hoW.kept (Td.keep kA).kp) (by have := hso.out; omega) (by omega) (offArg (w := wb) hoW Td.n1)
        clear x0 x1 x2 x3 x4 x5 x6 y0 y1 y2 y3 y4 y5 y6 T Tb Td hop
        refine wp_region_held_drew (S := (fun w' => w'.cell? ⟨wr.heap.size, 0, none⟩ = some (.int .i64 o.kind) ∧ w'.cell? ⟨wr.heap.size, 1, none⟩ = some (.string ⟨o.name.toArray⟩) ∧ w'.cell? ⟨wr.heap.size, 2, none⟩ = some (.string ⟨o.to.toArray⟩) ∧ w'.cell? ⟨wr.heap.size, 3, none⟩ = some (.slice o.b.a o.b.bs.length o.b.c) ∧ w'.cell? ⟨wr.heap.size, 4, none⟩ = some (.int .i64 o.n) ∧ w'.cell? ⟨wr.heap.size, 5, none⟩ = some (.int .i64 o.bit) ∧ w'.cell? ⟨wr.heap.size, 6, none⟩ = some (.slice o.ka o.ks.length o.kc))) (by kernel_rfl) ?_ (fun hHeld => ?_)
        · exact hop1
        refine wpAnyH_take (i := 0) (v := ?_) rfl (by kernel_rfl) (by kernel_rfl) (by kernel_rfl) (fun _ _ _ h => h) (Or.inl ⟨by rfl, ?_⟩) (by assumption) ?_
        rotate_left
        · intro w hSw; (try dsimp only at hSw); go_simp <;> with_reducible rfl
        try simp only [Act.put, List.getElem_toArray, List.getElem_cons_zero, List.getElem_cons_succ, List.setIfInBounds_toArray, List.set_cons_zero, List.set_cons_succ]
        refine wpAnyH_take (i := 2) (v := ?_) rfl (by kernel_rfl) (by kernel_rfl) (by kernel_rfl) (fun _ _ _ h => h) (Or.inl ⟨by rfl, ?_⟩) (by assumption) ?_
        rotate_left
        · intro w hSw; (try dsimp only at hSw); go_simp <;> with_reducible rfl
        try simp only [Act.put, List.getElem_toArray, List.getElem_cons_zero, List.getElem_cons_succ, List.setIfInBounds_toArray, List.set_cons_zero, List.set_cons_succ]
        refine wpAnyH_ready (rs := [1]) (by kernel_rfl) (by simp) ?_
        refine AllReadyH.cons rfl (fun K hK => ?_) AllReadyH.nil
        go_simp
        refine (newRef _).mono ?_
        rintro e w11 ⟨r1, rfl, hr1, hL1, kr1⟩
        simp only [RD.v]
        (try go_wp2_with fail)
        refine hK.out _ _ ?_ (fun hHeld => ?_)
        · exact (show Op7 wr.heap.size o wb.drew from hHeld).kept kr1 (by simp)
        clear hK K
        try simp only [Act.put, List.getElem_toArray, List.getElem_cons_zero, List.getElem_cons_succ, List.setIfInBounds_toArray, List.set_cons_zero, List.set_cons_succ]
        refine wpAnyH_ready (rs := [3]) (by kernel_rfl) (by simp) ?_
        refine AllReadyH.cons rfl (fun K hK => ?_) AllReadyH.nil
        go_simp
        have ch1 := hcc.out w11 r1 kr1 hr1 hL1
        simp only [RD.v, DOp.v] at ch1
        refine ch1.mono ?_
        rintro e w12 ⟨v1, b1, xs1, rfl, hD1, mv1⟩
        (try go_wp2_with fail)
        refine hK.out _ _ ?_ (fun hHeld => ?_)
        · exact hkeep1 _ _ _ kr1 mv1
        clear hK K
        try simp only [Act.put, List.getElem_toArray, List.getElem_cons_zero, List.getElem_cons_succ, List.setIfInBounds_toArray, List.set_cons_zero, List.set_cons_succ]
        refine wpAnyH_done (by kernel_rfl) ?_ _
        go_wp2_with fail
        exact ⟨⟨j + 1, by omega, by go_num, hfin1.out _ _ _ kr1 hD1 mv1⟩, by simp [intOf]; omega⟩
      · have hfin1 : Hid (WipA W p mb p2 mb2 R l1 ⟨R, 0, [], none, false⟩ (j + 1) wb) := ⟨s, files, xs, Tb, low.mono (by have := hso.out; omega) (by omega) (by omega), by omega⟩
        clear T Tb hop
        go_wp2_with fail
        rw [hwb'.out]
        exact ⟨⟨j + 1, by omega, by go_num, hfin1.out⟩, by simp [intOf]; omega⟩
    · obtain rfl : j = l1.length := by omega
      obtain ⟨s, files, xs, T, low, hsj⟩ := hA
      have a1 := cWipe T.D1
      go_wp2_with fail
      refine a1.mono ?_
      rintro e w3 ⟨rfl, hD3, mv3⟩
      have T3 := T.chg1 hD3 mv3
      have hwd : wipeD ⟨R, s, files, none, false⟩ = ⟨R, s, [], none, false⟩ := rfl
      rw [hwd] at T3
      have a2 := cNames T3.D1 (by simp)
      clear a1
      go_wp2_with fail
      refine a2.mono ?_
      rintro e w4 ⟨na, nc, rfl, _, k4⟩
      have T4 := T3.keep k4
      have a3 := cFree T4.D1
      simp only [List.length_nil]
      go_wp2_with fail
      refine a3.mono ?_
      rintro e w5 ⟨rfl, k5⟩
      have T5 := T4.keep k5
      have a4 := cFree T5.D2
      go_wp2_with fail
      refine a4.mono ?_
      rintro e w6 ⟨rfl, k6⟩
      have T6 := T5.keep k6
      have ef : freeD ⟨R, s, [], none, false⟩ = freeD ⟨R, 0, [], none, false⟩ := rfl
      have low0 : Low 0 0 ⟨R, s, [], none, false⟩ := ⟨⟨List.Pairwise.nil, by simp, by simp, by simp [sumF], by simp, by simp⟩, by simp⟩
      have B0 : Hid (WipB W p mb p2 mb2 R l2 0 w6) := ⟨s, 0, [], [], [], T6, by simpa [sumB] using low0, by omega, by omega⟩
      obtain ⟨z, hz⟩ : ∃ z, z = freeD ⟨R, 0, [], none, false⟩ := ⟨_, rfl⟩
      rw [ef, ← hz]
      clear T T3 T4 T5 T6 a2 a3 a4 k4 k5 k6 mv3 hD3 ef hz low low0
      go_wp2_with fail
      go_loopw [67] (fun i wn => ∃ j : Nat, j ≤ l2.length ∧ i = .int .i64 j ∧ WipB W p mb p2 mb2 R l2 j wn) (fun i _ => l2.length - (intOf i).toNat)
      case atStart => exact ⟨0, Nat.zero_le _, rfl, B0.out⟩
      case round =>
        clear B0
        obtain ⟨j, hj, rfl, hA⟩ := hrel
        by_cases hjl : j < l2.length
        · obtain ⟨o, ho⟩ : ∃ o, l2[j]? = some o := ⟨l2[j], by simp [hjl]⟩
          have hom := List.mem_of_getElem? ho
          have hso := hid (sumB_take ho)
          have hsl := sumB_le l2 (j + 1)
          obtain ⟨s, s2, files, xs, ys, T, low, hsj, hsj2⟩ := hA
          obtain ⟨g, f, rfl, x0, x1, x2, x3, x4, x5, x6⟩ := dopAt (hs2.keptNew T.kp) ho
          obtain ⟨wb, hwb, kb, hop, hqb⟩ := box7 o wr
          have Tb := T.keep kb
          have hltF := T.D1.lt
          have hltG := T.D2.lt
          have hop0 := hop
          obtain ⟨y0, y1, y2, y3, y4, y5, y6⟩ := hop0
          have hwb' := hid hwb
          have hoW := hok2 o hom
          clear hwb ho
          by_cases hko : o.kind < 5
          · go_wp2_with fail
            rw [hwb'.out]
            have hq : wr.heap.size ∉ foot p mb xs := fun h => by have := hltF _ h; omega
            have hq' : wr.heap.size ∉ foot p2 mb2 ys := fun h => by have := hltG _ h; omega
            have Td := Tb.keep (w' := wb.drew) (Kp.refl _ _).drew
            have hop1 : Op7 wr.heap.size o wb.drew := hop
            have hkeep1 : ∀ A B xs', Kp [] wb.drew A → Mv (foot p mb xs) A (foot p mb xs') B → Op7 wr.heap.size o B := fun A B xs' kA mv => (hop1.kept kA (by simp)).kept mv.kp hq
            have hcc : Hid (∀ A (r : RD), Kp [] wb.drew A → RdOk A r → Like r (newD 0) → Calls Try.prog 6 #[.pointer (some ⟨p, 0, none⟩), r.v, o.v] A (Chg0 p mb xs (chgD ⟨R, s, files, none, false⟩ o) A)) := fun A r kA hr hL =>
              cChange0 (Td.keep kA).D1 low (by omega) r hr hL o hko (hoW.kept (Td.keep kA).kp) (by have := hso.out; omega) (by omega) (offArg (w := wb) hoW Td.n1)
            clear x0 x1 x2 x3 x4 x5 x6 y0 y1 y2 y3 y4 y5 y6 T Tb hop
            refine wp_region_held_drew (S := (fun w' => w'.cell? ⟨wr.heap.size, 0, none⟩ = some (.int .i64 o.kind) ∧ w'.cell? ⟨wr.heap.size, 1, none⟩ = some (.string ⟨o.name.toArray⟩) ∧ w'.cell? ⟨wr.heap.size, 2, none⟩ = some (.string ⟨o.to.toArray⟩) ∧ w'.cell? ⟨wr.heap.size, 3, none⟩ = some (.slice o.b.a o.b.bs.length o.b.c) ∧ w'.cell? ⟨wr.heap.size, 4, none⟩ = some (.int .i64 o.n) ∧ w'.cell? ⟨wr.heap.size, 5, none⟩ = some (.int .i64 o.bit) ∧ w'.cell? ⟨wr.heap.size, 6, none⟩ = some (.slice o.ka o.ks.length o.kc))) (by kernel_rfl) ?_ (fun hHeld => ?_)
            · exact hop1
            refine wpAnyH_take (i := 0) (v := ?_) rfl (by kernel_rfl) (by kernel_rfl) (by kernel_rfl) (fun _ _ _ h => h) (Or.inl ⟨by rfl, ?_⟩) (by assumption) ?_
            rotate_left
            · intro w hSw; (try dsimp only at hSw); go_simp <;> with_reducible rfl
            try simp only [Act.put, List.getElem_toArray, List.getElem_cons_zero, List.getElem_cons_succ, List.setIfInBounds_toArray, List.set_cons_zero, List.set_cons_succ]
            refine wpAnyH_take (i := 2) (v := ?_) rfl (by kernel_rfl) (by kernel_rfl) (by kernel_rfl) (fun _ _ _ h => h) (Or.inl ⟨by rfl, ?_⟩) (by assumption) ?_
            rotate_left
            · intro w hSw; (try dsimp only at hSw); go_simp <;> with_reducible rfl
            try simp only [Act.put, List.getElem_toArray, List.getElem_cons_zero, List.getElem_cons_succ, List.setIfInBounds_toArray, List.set_cons_zero, List.set_cons_succ]
            refine wpAnyH_ready (rs := [1]) (by kernel_rfl) (by simp) ?_
            refine AllReadyH.cons rfl (fun K hK => ?_) AllReadyH.nil
            go_simp
            refine (newRef _).mono ?_
            rintro e w11 ⟨r1, rfl, hr1, hL1, kr1⟩
            simp only [RD.v]
            (try go_wp2_with fail)
            refine hK.out _ _ ?_ (fun hHeld => ?_)
            · exact (show Op7 wr.heap.size o wb.drew from hHeld).kept kr1 (by simp)
            clear hK K
            try simp only [Act.put, List.getElem_toArray, List.getElem_cons_zero, List.getElem_cons_succ, List.setIfInBounds_toArray, List.set_cons_zero, List.set_cons_succ]
            refine wpAnyH_ready (rs := [3]) (by kernel_rfl) (by simp) ?_
            refine AllReadyH.cons rfl (fun K hK => ?_) AllReadyH.nil
            go_simp
            have ch1 := hcc.out w11 r1 kr1 hr1 hL1
            simp only [RD.v, DOp.v] at ch1
            refine ch1.mono ?_
            rintro e w12 ⟨v1, b1, xs1, rfl, hD1, mv1⟩
            (try go_wp2_with fail)
            refine hK.out _ _ ?_ (fun hHeld => ?_)
            · exact hkeep1 _ _ _ kr1 mv1
            clear hK K
            try simp only [Act.put, List.getElem_toArray, List.getElem_cons_zero, List.getElem_cons_succ, List.setIfInBounds_toArray, List.set_cons_zero, List.set_cons_succ]
            refine wpAnyH_done (by kernel_rfl) ?_ _
            have T2 := (Td.keep kr1).chg1 hD1 mv1
            have hop2 := hkeep1 _ _ _ kr1 mv1
            clear hcc hop1 hkeep1 hHeld Td kr1 hD1 mv1 hr1 hL1
            go_wp2_with fail
            have Te := T2.keep (w' := w12.drew) (Kp.refl _ _).drew
            have hop2' : Op7 wr.heap.size o w12.drew := hop2
            have hkeep2 : ∀ A B ys', Kp [] w12.drew A → Mv (foot p2 mb2 ys) A (foot p2 mb2 ys') B → Op7 wr.heap.size o B := fun A B ys' kA mv => (hop2'.kept kA (by simp)).kept mv.kp hq'
            have hfin2 : Hid (∀ A B ys', Kp [] w12.drew A → Disk B p2 mb2 ys' (chgD ⟨R, s2, files, none, false⟩ o) → Mv (foot p2 mb2 ys) A (foot p2 mb2 ys') B → WipB W p mb p2 mb2 R l2 (j + 1) B) := fun A B ys' kA hD mv => by
              have T3 := (Te.keep kA).chg2 hD mv
              have hlow := low_chg o low (by have := hso.out; omega)
              obtain ⟨F, k, hk1, hform⟩ := chg_form R files o
              rw [hform s, hform s2] at T3
              rw [hform s] at hlow
              exact ⟨s + k, s2 + k, F, _, ys', T3, by rw [hso.out]; exact hlow, by omega, by omega⟩
            have hcd : Hid (∀ A (r : RD), Kp [] w12.drew A → RdOk A r → Like r (newD 0) → Calls Try.prog 6 #[.pointer (some ⟨p2, 0, none⟩), r.v, o.v] A (Chg0 p2 mb2 ys (chgD ⟨R, s2, files, none, false⟩ o) A)) := fun A r kA hr hL =>
              cChange0 (Te.keep kA).D2 (low_steps low) (by omega) r hr hL o hko (hoW.kept (Te.keep kA).kp) (by have := hso.out; omega) (by omega) (offArg (w := wb) hoW Te.n2)
            clear T2 Te hop2
            refine wp_region_held_drew (S := (fun w' => w'.cell? ⟨wr.heap.size, 0, none⟩ = some (.int .i64 o.kind) ∧ w'.cell? ⟨wr.heap.size, 1, none⟩ = some (.string ⟨o.name.toArray⟩) ∧ w'.cell? ⟨wr.heap.size, 2, none⟩ = some (.string ⟨o.to.toArray⟩) ∧ w'.cell? ⟨wr.heap.size, 3, none⟩ = some (.slice o.b.a o.b.bs.length o.b.c) ∧ w'.cell? ⟨wr.heap.size, 4, none⟩ = some (.int .i64 o.n) ∧ w'.cell? ⟨wr.heap.size, 5, none⟩ = some (.int .i64 o.bit) ∧ w'.cell? ⟨wr.heap.size, 6, none⟩ = some (.slice o.ka o.ks.length o.kc))) (by kernel_rfl) ?_ (fun hHeld => ?_)
            · exact hop2'
            refine wpAnyH_take (i := 0) (v := ?_) rfl (by kernel_rfl) (by kernel_rfl) (by kernel_rfl) (fun _ _ _ h => h) (Or.inl ⟨by rfl, ?_⟩) (by assumption) ?_
            rotate_left
            · intro w hSw; (try dsimp only at hSw); go_simp <;> with_reducible rfl
            try simp only [Act.put, List.getElem_toArray, List.getElem_cons_zero, List.getElem_cons_succ, List.setIfInBounds_toArray, List.set_cons_zero, List.set_cons_succ]
            refine wpAnyH_take (i := 2) (v := ?_) rfl (by kernel_rfl) (by kernel_rfl) (by kernel_rfl) (fun _ _ _ h => h) (Or.inl ⟨by rfl, ?_⟩) (by assumption) ?_
            rotate_left
            · intro w hSw; (try dsimp only at hSw); go_simp <;> with_reducible rfl
            try simp only [Act.put, List.getElem_toArray, List.getElem_cons_zero, List.getElem_cons_succ, List.setIfInBounds_toArray, List.set_cons_zero, List.set_cons_succ]
            refine wpAnyH_ready (rs := [1]) (by kernel_rfl) (by simp) ?_
            refine AllReadyH.cons rfl (fun K hK => ?_) AllReadyH.nil
            go_simp
            refine (newRef _).mono ?_
            rintro e w21 ⟨r2, rfl, hr2, hL2, kr2⟩
            simp only [RD.v]
            (try go_wp2_with fail)
            refine hK.out _ _ ?_ (fun hHeld => ?_)
            · exact (show Op7 wr.heap.size o w12.drew from hHeld).kept kr2 (by simp)
            clear hK K
            try simp only [Act.put, List.getElem_toArray, List.getElem_cons_zero, List.getElem_cons_succ, List.setIfInBounds_toArray, List.set_cons_zero, List.set_cons_succ]
            refine wpAnyH_ready (rs := [3]) (by kernel_rfl) (by simp) ?_
            refine AllReadyH.cons rfl (fun K hK => ?_) AllReadyH.nil
            go_simp
            have ch2 := hcd.out w21 r2 kr2 hr2 hL2
            simp only [RD.v, DOp.v] at ch2
            refine ch2.mono ?_
            rintro e w22 ⟨v2, b2, xs2, rfl, hD2, mv2⟩
            (try go_wp2_with fail)
            refine hK.out _ _ ?_ (fun hHeld => ?_)
            · exact hkeep2 _ _ _ kr2 mv2
            clear hK K
            try simp only [Act.put, List.getElem_toArray, List.getElem_cons_zero, List.getElem_cons_succ, List.setIfInBounds_toArray, List.set_cons_zero, List.set_cons_succ]
            refine wpAnyH_done (by kernel_rfl) ?_ _
            go_wp2_with fail
            exact ⟨⟨j + 1, by omega, by go_num, hfin2.out _ _ _ kr2 hD2 mv2⟩, by simp [intOf]; omega⟩
          · have hfin1 : Hid (WipB W p mb p2 mb2 R l2 (j + 1) wb) := ⟨s, s2, files, xs, ys, Tb, low.mono (by have := hso.out; omega) (by omega) (by omega), by omega, by omega⟩
            clear T Tb hop
            go_wp2_with fail
            rw [hwb'.out]
            exact ⟨⟨j + 1, by omega, by go_num, hfin1.out⟩, by simp [intOf]; omega⟩
        · obtain rfl : j = l2.length := by omega
          obtain ⟨s, s2, files, xs, ys, T, low, hsj, hsj2⟩ := hA
          have e1 : xs.map Ent.name = files.map Fl.name := by have := T.D1.fl; simp only at this; rw [this, List.map_map]; rfl
          have e2 : ys.map Ent.name = files.map Fl.name := by have := T.D2.fl; simp only at this; rw [this, List.map_map]; rfl
          have n1 : xs.length = files.length := by have := congrArg List.length e1; simpa using this
          have n2 : ys.length = files.length := by have := congrArg List.length e2; simpa using this
          have hfl : files.length ≤ 2000000 := by have := low.len; simp only at this; omega
          have hlw := sumB_le l2 l2.length
          have hsm : Small ⟨R, s, files, none, false⟩ := low.small (by omega)
          have hsm2 : Small ⟨R, s2, files, none, false⟩ := (low_steps low).small (by omega)
          have hrise : riseG Fl.name files := low.ok.rise
          have hnames : ∀ f ∈ files, f.name.length ≤ maxLen := fun f hf => by
            have := low.ok.name f hf
            simp only [nameOk, Bool.and_eq_true, decide_eq_true_eq] at this
            have h3 : f.name.length ≤ 32 := this.2.2
            unfold maxLen
            omega
          have a1 := cNames T.D1 (by omega)
          have hH1 := hid e1
          have hH2 := hid e2
          have hH3 := hid n1
          have hH4 := hid n2
          have hn2b : ys.length ≤ 1000000000000 := by omega
          clear e1 e2 n1 n2 hs2
          go_wp2_with fail
          refine a1.mono ?_
          rintro e w4 ⟨na, nc, rfl, hrow1, k4⟩
          have T4 := T.keep k4
          obtain ⟨_, _, ev, hnm1, _⟩ := Nms.ofRow hrow1
          simp only [List.length_map, Value.slice.injEq, true_and] at ev
          obtain ⟨rfl, rfl⟩ := ev
          have a2 := cNames T4.D2 hn2b
          clear a1 hrow1
          go_wp2_with fail
          refine a2.mono ?_
          rintro e w5 ⟨ma, mc, rfl, hrow2, k5⟩
          have T5 := T4.keep k5
          obtain ⟨_, _, ev, hnm2, _⟩ := Nms.ofRow hrow2
          simp only [List.length_map, Value.slice.injEq, true_and] at ev
          obtain ⟨rfl, rfl⟩ := ev
          rw [hH1.out] at hnm1
          rw [hH2.out] at hnm2
          rw [hH3.out, hH4.out]
          have a3 := cFree T5.D1
          clear a2 hrow2
          go_wp2_with fail
          refine a3.mono ?_
          rintro e w6 ⟨rfl, k6⟩
          have T6 := T5.keep k6
          have a4 := cFree T6.D2
          go_wp2_with fail
          refine a4.mono ?_
          rintro e w7 ⟨rfl, k7⟩
          have T7 := T6.keep k7
          have ef : freeD ⟨R, s, files, none, false⟩ = freeD ⟨R, s2, files, none, false⟩ := rfl
          obtain ⟨z, hz⟩ : ∃ z, z = freeD ⟨R, s2, files, none, false⟩ := ⟨_, rfl⟩
          rw [ef, ← hz]
          have k57 : Kp [] w5 w7 := k6.trans k7 (by simp)
          have k47 : Kp [] w4 w7 := k5.trans k57 (by simp)
          have hD7 := T7.D1
          have hE7 := T7.D2
          have kW7 := T7.kp
          clear T T4 T5 T6 T7 a3 a4 ef hz
          go_wp2_with fail
          go_loopw [101] (fun i wn => ∃ j : Nat, j ≤ files.length ∧ i = .int .i64 j ∧ Kp [] w7 wn) (fun i _ => files.length - (intOf i).toNat)
          case atStart => exact ⟨0, Nat.zero_le _, rfl, Kp.refl _ _⟩
          case round =>
            obtain ⟨j, hj, rfl, kn⟩ := hrel
            by_cases hjl : j < files.length
            · obtain ⟨f, hf⟩ : ∃ f, files[j]? = some f := ⟨files[j], by simp [hjl]⟩
              have hfm := List.mem_of_getElem? hf
              have hlk : lookG Fl.name f.name files = some f := lookG_mem hrise hfm rfl
              have hfn : (files.map Fl.name)[j]? = some f.name := by simp [hf]
              rcases hnm1 with hnil | ⟨g1, rfl, hc1⟩
              · rw [hnil] at hfn; simp at hfn
              rcases hnm2 with hnil | ⟨g2, rfl, hc2⟩
              · rw [hnil] at hfn; simp at hfn
              have c1 : wr.cell? ⟨g1, j, none⟩ = some (.string ⟨f.name.toArray⟩) := cell_kp (k47.trans kn (by simp)) (hc1 j _ hfn)
              have c2 : wr.cell? ⟨g2, j, none⟩ = some (.string ⟨f.name.toArray⟩) := cell_kp (k57.trans kn (by simp)) (hc2 j _ hfn)
              have b1 := cRead (hD7.keptNew kn) hsm f.name (hnames f hfm)
              simp only [hlk, Option.map_some] at b1
              clear hc1 hc2 hf hfn
              go_wp2_with fail
              refine b1.mono ?_
              rintro e w8 ⟨ra, rc, rfl, hr8, k8, _⟩
              have b2 := cRead ((hE7.keptNew kn).keptNew k8) hsm2 f.name (hnames f hfm)
              simp only [hlk, Option.map_some] at b2
              have c2' := cell_kp k8 c2
              have c1' := cell_kp k8 c1
              clear b1 hlk
              go_wp2_with fail
              refine b2.mono ?_
              rintro e w9 ⟨sa, sc, rfl, hr9, k9, _⟩
              have c1'' := cell_kp k9 c1'
              have c2'' := cell_kp k9 c2'
              obtain ⟨_, _, er8, hs8, _⟩ := hr8.sees
              cases er8
              obtain ⟨_, _, er9, hs9, _⟩ := hr9.sees
              cases er9
              have cv1 := convSees (w := w9.drew) (hs8.kept k9 (by simp)).drew rc
              have cv2 := convSees (w := w9.drew) hs9.drew sc
              have kf : Kp [] w7 w9.drew := ((kn.trans k8 (by simp)).trans k9 (by simp)).drew
              obtain ⟨ln, hln⟩ : ∃ ln, ln = f.bytes.length := ⟨_, rfl⟩
              obtain ⟨str, hstr⟩ : ∃ str, str = (⟨f.bytes.toArray⟩ : ByteArray) := ⟨_, rfl⟩
              obtain ⟨nst, hnst⟩ : ∃ nst, nst = (⟨f.name.toArray⟩ : ByteArray) := ⟨_, rfl⟩
              rw [← hln, ← hstr] at cv1 cv2
              rw [← hnst] at c1'' c2''
              rw [← hln]
              have hS : w9.drew.cell? ⟨g1, j, none⟩ = some (.string nst) ∧ w9.drew.cell? ⟨g2, j, none⟩ = some (.string nst) ∧ (convert 26 9 (.slice ra ln rc)).run Try.prog w9.drew = .ok (.string str) w9.drew ∧ (convert 26 9 (.slice sa ln sc)).run Try.prog w9.drew = .ok (.string str) w9.drew := ⟨c1'', c2'', cv1, cv2⟩
              clear b2 hs8 hs9 hr8 hr9 c1 c2 c1' c2' hln hstr hnst
              go_wp2_with fail
              go_region_held3 (fun w' => w'.cell? ⟨g1, j, none⟩ = some (.string nst) ∧ w'.cell? ⟨g2, j, none⟩ = some (.string nst) ∧ (convert 26 9 (.slice ra ln rc)).run Try.prog w' = .ok (.string str) w' ∧ (convert 26 9 (.slice sa ln sc)).run Try.prog w' = .ok (.string str) w')
                (first | assumption) (fail)
              go_wp2_with fail
              exact ⟨⟨j + 1, by omega, by go_num, kf⟩, by simp [intOf]; omega⟩
            · have kf : Kp [] W wr := kW7.trans kn (by simp)
              go_wp2_with fail
              go_ret
              exact ⟨rfl, kf⟩
end Go.Proofs.Ytgllkonbgigcbab

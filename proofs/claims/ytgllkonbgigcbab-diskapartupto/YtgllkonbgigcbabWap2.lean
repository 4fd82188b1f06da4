/- What is done to other files is not seen in one's bytes, as long as there is room: the walk. -/
import Derived.Test.YtgllkonbgigcbabWapt
import Derived.Test.YtgllkonbgigcbabWchg
namespace Go.Proofs.Ytgllkonbgigcbab
open Go.RowKit Go.Hay
set_option linter.unusedVariables false
set_option linter.unusedSimpArgs false

theorem sum_low {K J R s : Nat} {F : List Fl} (h : Low K J ⟨R, s, F, none, false⟩) : sumF F ≤ K := h.ok.sum
/-- (a) A call on other names. -/
theorem apt_other {K J s : Nat} {F : List Fl} {k : List UInt8} (h : Low K J ⟨1125899906842624, s, F, none, false⟩) (o : DOp) (hb : K + o.b.bs.length ≤ 1000000000000000) (hk : o.kind ≤ 4) (hn : o.name ≠ k) (ht : ¬ (o.kind = 3 ∧ o.to = k)) : byt k (chgD ⟨1125899906842624, s, F, none, false⟩ o).files = byt k F := by
  have hr : riseG Fl.name F := h.ok.rise
  have hs := sum_low h
  unfold chgD
  by_cases h0 : o.kind = 0
  · rw [if_pos h0, byt_append hr _ _ (by omega), if_neg (fun h => hn h.1)]
  rw [if_neg h0]
  by_cases h1 : o.kind = 1
  · rw [if_pos h1, byt_do hr 1 (by simp) _ _ _ (fun h => by cases h), if_neg hn]
  rw [if_neg h1]
  by_cases h2 : o.kind = 2
  · rw [if_pos h2, byt_do hr 2 (by simp) _ _ _ (fun h => by cases h), if_neg hn]
  rw [if_neg h2]
  by_cases h3 : o.kind = 3
  · rw [if_pos h3, byt_do hr 3 (by simp) _ _ _ (fun _ _ e => ht ⟨h3, e⟩), if_neg hn]
  rw [if_neg h3]
  by_cases h4 : o.kind = 4
  · rw [if_pos h4, byt_do hr 4 (by simp) _ _ _ (fun h => by cases h), if_neg hn]
  rw [if_neg h4, byt_flip hr, if_neg hn]
/-- (b) A call on that name, at both. -/
theorem apt_same {K J K2 J2 s s2 : Nat} {F G : List Fl} {k : List UInt8} (h : Low K J ⟨1125899906842624, s, F, none, false⟩) (h' : Low K2 J2 ⟨1125899906842624, s2, G, none, false⟩) (o : DOp) (hb : K + o.b.bs.length ≤ 1000000000000000) (hb2 : K2 + o.b.bs.length ≤ 1000000000000000) (hn : o.name = k) (he : byt k F = byt k G) :
    byt k (chgD ⟨1125899906842624, s, F, none, false⟩ o).files = byt k (chgD ⟨1125899906842624, s2, G, none, false⟩ o).files := by
  have hr : riseG Fl.name F := h.ok.rise
  have hr' : riseG Fl.name G := h'.ok.rise
  have hs := sum_low h
  have hs' := sum_low h'
  unfold chgD
  by_cases h0 : o.kind = 0
  · rw [if_pos h0, if_pos h0, byt_append hr _ _ (by omega), byt_append hr' _ _ (by omega), he]
  rw [if_neg h0, if_neg h0]
  by_cases h1 : o.kind = 1
  · rw [if_pos h1, if_pos h1, byt_do hr 1 (by simp) _ _ _ (fun h => by cases h), byt_do hr' 1 (by simp) _ _ _ (fun h => by cases h), he]
  rw [if_neg h1, if_neg h1]
  by_cases h2 : o.kind = 2
  · rw [if_pos h2, if_pos h2, byt_do hr 2 (by simp) _ _ _ (fun h => by cases h), byt_do hr' 2 (by simp) _ _ _ (fun h => by cases h), he]
  rw [if_neg h2, if_neg h2]
  by_cases h3 : o.kind = 3
  · rw [if_pos h3, if_pos h3, byt_do hr 3 (by simp) _ _ _ (fun _ e => absurd hn e), byt_do hr' 3 (by simp) _ _ _ (fun _ e => absurd hn e), he]
  rw [if_neg h3, if_neg h3]
  by_cases h4 : o.kind = 4
  · rw [if_pos h4, if_pos h4, byt_do hr 4 (by simp) _ _ _ (fun h => by cases h), byt_do hr' 4 (by simp) _ _ _ (fun h => by cases h), he]
  rw [if_neg h4, if_neg h4, byt_flip hr, byt_flip hr', he]
/-- (c) The other one's bytes come in its place. -/
theorem apt_removed {K J s : Nat} {G : List Fl} {k : List UInt8} (h : Low K J ⟨1125899906842624, s, G, none, false⟩) : byt k (doD ⟨1125899906842624, s, G, none, false⟩ 4 k [] 0).1.files = none := by
  have hr : riseG Fl.name G := h.ok.rise
  rw [byt_do hr 4 (by simp) _ _ _ (fun h => by cases h), if_pos rfl]
  cases byt k G <;> simp
theorem apt_put {K J s : Nat} {G : List Fl} {k b : List UInt8} (h : Low K J ⟨1125899906842624, s, G, none, false⟩) (hb : K + b.length ≤ 1000000000000000) (hk : nameOk k = true) (hn : byt k G = none) : byt k (appendD ⟨1125899906842624, s, G, none, false⟩ k b).1.files = some b := by
  have hr : riseG Fl.name G := h.ok.rise
  have hs := sum_low h
  rw [byt_append hr _ _ (by omega), if_pos ⟨rfl, hk⟩, hn]
  rfl
theorem byt_name {K J R s : Nat} {F : List Fl} {k bs : List UInt8} (h : Low K J ⟨R, s, F, none, false⟩) (hb : byt k F = some bs) : nameOk k = true ∧ bs.length ≤ K := by
  unfold byt at hb
  cases hl : lookG Fl.name k F with
  | none => rw [hl] at hb; cases hb
  | some f =>
    rw [hl] at hb
    cases hb
    obtain ⟨hm, rfl⟩ := lookG_some hl
    exact ⟨h.ok.name f hm, Nat.le_trans (le_sumF hm) h.ok.sum⟩
/-- Where both stand behind j calls. -/
def AptI (W : World) (p mb p2 mb2 : Nat) (k : List UInt8) (l : List DOp) (j : Nat) (wn : World) : Prop :=
  ∃ (s s2 : Nat) (F G : List Fl) (xs ys : List Ent), Two W wn p mb xs ⟨1125899906842624, s, F, none, false⟩ p2 mb2 ys ⟨1125899906842624, s2, G, none, false⟩ ∧ Low (sumB (l.take j)) j ⟨1125899906842624, s, F, none, false⟩ ∧ Low (j * 1048576) (2 * j) ⟨1125899906842624, s2, G, none, false⟩ ∧ s ≤ j ∧ s2 ≤ 2 * j ∧ byt k F = byt k G
theorem AptI.drew {W : World} {p mb p2 mb2 : Nat} {k : List UInt8} {l : List DOp} {j : Nat} {w w' : World} (h : AptI W p mb p2 mb2 k l j w) (hk : Kp [] w w') : AptI W p mb p2 mb2 k l j w' := by
  obtain ⟨s, s2, F, G, xs, ys, T, r⟩ := h
  exact ⟨s, s2, F, G, xs, ys, T.keep hk, r⟩
set_option maxHeartbeats 16000000 in
set_option maxRecDepth 100000 in
theorem apartWalk (a : Option Addr) (c : Nat) (l1 : List DOp) (name : List UInt8) (hname : name.length ≤ maxLen) (W : World) (hs1 : DOpE.See W a l1) (hok1 : ∀ o ∈ l1, o.ok W) (hb1 : sumB l1 ≤ 1048576) (hn1 : l1.length ≤ 1048576) :
    Calls Try.prog 3 #[.slice a l1.length c, .string ⟨name.toArray⟩] W (fun e W' => e = .returned (.bool true) ∧ Kp [] W W') := by
  go_enter Try.func3, Try.ntmps3
  go_wp2_with fail
  refine (cBegun 1125899906842624 W (by decide)).mono ?_
  rintro e w1 ⟨p, mb, rfl, hD1, k1, hp, hmb⟩
  go_wp2_with fail
  refine (cBegun 1125899906842624 w1 (by decide)).mono ?_
  rintro e w2 ⟨p2, mb2, rfl, hD2, k2, hp2, hmb2⟩
  have hlt1 := hD1.lt
  have hnd : newD 1125899906842624 = ⟨1125899906842624, 0, [], none, false⟩ := rfl
  rw [hnd] at hD1 hD2
  have T0 : Two W w2 p mb [] ⟨1125899906842624, 0, [], none, false⟩ p2 mb2 [] ⟨1125899906842624, 0, [], none, false⟩ := by
    refine ⟨hD1.keptNew k2, hD2, k1.trans k2 (by simp), fun k hk => by simp [foot] at hk; omega, fun k hk => ?_, fun k hk hx => ?_⟩
    · have := k1.size; simp [foot] at hk; omega
    · have := hlt1 k hk; simp [foot] at hx; omega
  have low0 : Low 0 0 ⟨1125899906842624, 0, [], none, false⟩ := ⟨⟨List.Pairwise.nil, by simp, by simp, by simp [sumF], by simp, by simp⟩, by simp⟩
  have A0 : AptI W p mb p2 mb2 name l1 0 w2 := ⟨0, 0, [], [], [], [], T0, by simpa [sumB] using low0, by simpa using low0, Nat.le_refl _, Nat.le_refl _, rfl⟩
  clear T0 hD1 hD2 k1 k2 hlt1 hnd
  go_wp2_with fail
  go_loopw [33] (fun i wn => ∃ j : Nat, j ≤ l1.length ∧ i = .int .i64 j ∧ AptI W p mb p2 mb2 name l1 j wn) (fun i _ => l1.length - (intOf i).toNat)
  case atStart => exact ⟨0, Nat.zero_le _, rfl, A0⟩
  case round =>
    clear A0
    obtain ⟨j, hj, rfl, hA⟩ := hrel
    by_cases hjl : j < l1.length
    · obtain ⟨o, ho⟩ : ∃ o, l1[j]? = some o := ⟨l1[j], by simp [hjl]⟩
      have hom := List.mem_of_getElem? ho
      have hso := hid (sumB_take ho)
      have hsl := sumB_le l1 (j + 1)
      obtain ⟨s, s2, F, G, xs, ys, T, low, low2, hsj, hsj2, hbt⟩ := hA
      obtain ⟨g, f, rfl, x0, x1, x2, x3, x4, x5, x6⟩ := dopAt (hs1.keptNew T.kp) ho
      obtain ⟨wb, hwb, kb, hop, hqb⟩ := box7 o wr
      have Tb := T.keep kb
      have hltF := T.D1.lt
      have hltG := T.D2.lt
      have hop0 := hop
      obtain ⟨y0, y1, y2, y3, y4, y5, y6⟩ := hop0
      have hwb' := hid hwb
      have hoW := hok1 o hom
      have hbt' := hid hbt
      have hob : o.b.bs.length ≤ 1048576 := by have := hso.out; omega
      clear hwb ho hbt
      by_cases hko : o.kind ≤ 4
      · have hko' : ¬ (4 < o.kind) := by omega
        have hk5 : Hid (o.kind < 5) := (by omega : o.kind < 5)
        go_wp2_with fail
        rw [hwb'.out]
        have hq : wr.heap.size ∉ foot p mb xs := fun h => by have := hltF _ h; omega
        have hq' : wr.heap.size ∉ foot p2 mb2 ys := fun h => by have := hltG _ h; omega
        have Td := Tb.keep (w' := wb.drew) (Kp.refl _ _).drew
        have hop1 : Op7 wr.heap.size o wb.drew := hop
        have hkeep1 : ∀ A B xs', Kp [] wb.drew A → Mv (foot p mb xs) A (foot p mb xs') B → Op7 wr.heap.size o B := fun A B xs' kA mv => (hop1.kept kA (by simp)).kept mv.kp hq
        have hcc : Hid (∀ A (r : RD), Kp [] wb.drew A → RdOk A r → Like r (newD 0) → Calls Try.prog 6 #[.pointer (some ⟨p, 0, none⟩), r.v, o.v] A (Chg0 p mb xs (chgD ⟨1125899906842624, s, F, none, false⟩ o) A)) := fun A r kA hr hL =>
          cChange0 (Td.keep kA).D1 low (by omega) r hr hL o hk5.out (hoW.kept (Td.keep kA).kp) (by have := hso.out; omega) (by omega) (offArg (w := wb) hoW Td.n1)
        clear x0 x1 x2 x3 x4 x5 x6 y0 y1 y2 y3 y4 y5 y6 T Tb hop
        refine wp_region_held_drew (S := (fun w' => w'.cell? ⟨wr.heap.size, 0, none⟩ = some (.int .i64 o.kind) ∧ w'.cell? ⟨wr.heap.size, 1, none⟩ = some (.string ⟨o.name.toArray⟩) ∧ w'.cell? ⟨wr.heap.size, 2, none⟩ = some (.string ⟨o.to.toArray⟩) ∧ w'.cell? ⟨wr.heap.size, 3, none⟩ = some (.slice o.b.a o.b.bs.length o.b.c) ∧ w'.cell? ⟨wr.heap.size, 4, none⟩ = some (.int .i64 o.n) ∧ w'.cell? ⟨wr.heap.size, 5, none⟩ = some (.int .i64 o.bit) ∧ w'.cell? ⟨wr.heap.size, 6, none⟩ = some (.slice o.ka o.ks.length o.kc))) (by kernel_rfl) ?_ (fun hHeld => ?_)
        · exact hop1
        refine wpAnyH_take (i := 0) (v := ?_) rfl (by kernel_rfl) (by kernel_rfl) (by kernel_rfl) (fun _ _ _ h => h) (Or.inl ⟨by rfl, ?_⟩) (by assumption) ?_
        rotate_left
        · intro w hSw; (try dsimp only at hSw); go_simp <;> with_reducible rfl
        try simp only [Act.put, List.getElem_toArray, List.getElem_cons_zero, List.getElem_cons_succ, List.setIfInBounds_toArray, List.set_cons_zero, List.set_cons_succ]
        refine wpAnyH_take (i := 2) (v := ?_) rfl (by kernel_rfl) (by kernel_rfl) (by kernel_rfl) (fun _ _ _ h => h) (Or.inl ⟨by rfl, ?_⟩) (by assumption) ?_
        rotate_left
        · intro w hSw; (try dsimp only at hSw); go_simp <;> with_reducible rfl
        try simp only [Act.put, List.getElem_toArray, List.getElem_cons_zero, List.getElem_cons_succ, List.setIfInBounds_toArray, List.set_cons_zero, List.set_cons_succ]
        refine wpAnyH_ready (rs := [1]) (by kernel_rfl) (by simp) ?_
        refine AllReadyH.cons rfl (fun K hK => ?_) AllReadyH.nil
        go_simp
        refine (newRef _).mono ?_
        rintro e w11 ⟨r1, rfl, hr1, hL1, kr1⟩
        simp only [RD.v]
        (try go_wp2_with fail)
        refine hK.out _ _ ?_ (fun hHeld => ?_)
        · exact (show Op7 wr.heap.size o wb.drew from hHeld).kept kr1 (by simp)
        clear hK K
        try simp only [Act.put, List.getElem_toArray, List.getElem_cons_zero, List.getElem_cons_succ, List.setIfInBounds_toArray, List.set_cons_zero, List.set_cons_succ]
        refine wpAnyH_ready (rs := [3]) (by kernel_rfl) (by simp) ?_
        refine AllReadyH.cons rfl (fun K hK => ?_) AllReadyH.nil
        go_simp
        have ch1 := hcc.out w11 r1 kr1 hr1 hL1
        simp only [RD.v, DOp.v] at ch1
        refine ch1.mono ?_
        rintro e w12 ⟨v1, b1, xs1, rfl, hD1, mv1⟩
        (try go_wp2_with fail)
        refine hK.out _ _ ?_ (fun hHeld => ?_)
        · exact hkeep1 _ _ _ kr1 mv1
        clear hK K
        try simp only [Act.put, List.getElem_toArray, List.getElem_cons_zero, List.getElem_cons_succ, List.setIfInBounds_toArray, List.set_cons_zero, List.set_cons_succ]
        refine wpAnyH_done (by kernel_rfl) ?_ _
        have T2 := (Td.keep kr1).chg1 hD1 mv1
        have hop2 := hkeep1 _ _ _ kr1 mv1
        have hlow := low_chg o low (by have := hso.out; omega)
        obtain ⟨F', k, hk1, hform⟩ := chg_form 1125899906842624 F o
        have hFe : F' = (chgD ⟨1125899906842624, s, F, none, false⟩ o).files := by rw [hform s]
        rw [hform s] at T2 hlow
        have hl3 : Low (sumB (l1.take (j + 1))) (j + 1) ⟨1125899906842624, s + k, F', none, false⟩ := by rw [hso.out]; exact hlow
        have hFh := hid hFe
        clear hcc hop1 hkeep1 hHeld Td kr1 hD1 mv1 hr1 hL1 hform hlow hFe
        obtain ⟨y0, y1, y2, y3, y4, y5, y6⟩ := id hop2
        by_cases hn : o.name = name
        · have hbs : Hid (byt name F' = byt name (chgD ⟨1125899906842624, s2, G, none, false⟩ o).files) := by
            rw [hFh.out]
            exact apt_same low low2 o (by have := hso.out; omega) (by omega) hn hbt'.out
          have he1 : (o.name == name) = true := by simpa using hn
          have he2 : (o.name != name) = false := by simpa using hn
          have Te := T2.keep (w' := w12.drew) (Kp.refl _ _).drew
          have hop2' : Op7 wr.heap.size o w12.drew := hop2
          have hkeep2 : ∀ A B ys', Kp [] w12.drew A → Mv (foot p2 mb2 ys) A (foot p2 mb2 ys') B → Op7 wr.heap.size o B := fun A B ys' kA mv => (hop2'.kept kA (by simp)).kept mv.kp hq'
          have hfin2 : Hid (∀ A B ys', Kp [] w12.drew A → Disk B p2 mb2 ys' (chgD ⟨1125899906842624, s2, G, none, false⟩ o) → Mv (foot p2 mb2 ys) A (foot p2 mb2 ys') B → AptI W p mb p2 mb2 name l1 (j + 1) B) := fun A B ys' kA hD mv => by
            have T3 := (Te.keep kA).chg2 hD mv
            have hlow2 := low_chg o low2 (by omega)
            have hb3 := hbs.out
            obtain ⟨G', k2, hk2, hform2⟩ := chg_form 1125899906842624 G o
            rw [hform2 s2] at T3 hlow2 hb3
            exact ⟨s + k, s2 + k2, F', G', _, ys', T3, hl3, hlow2.mono (by omega) (by omega) (by omega), by omega, by omega, hb3⟩
          have hcd : Hid (∀ A (r : RD), Kp [] w12.drew A → RdOk A r → Like r (newD 0) → Calls Try.prog 6 #[.pointer (some ⟨p2, 0, none⟩), r.v, o.v] A (Chg0 p2 mb2 ys (chgD ⟨1125899906842624, s2, G, none, false⟩ o) A)) := fun A r kA hr hL =>
            cChange0 (Te.keep kA).D2 low2 (by omega) r hr hL o hk5.out (hoW.kept (Te.keep kA).kp) (by omega) (by omega) (offArg (w := wb) hoW Te.n2)
          clear T2 Te hn
          by_cases hk3 : o.kind = 3
          · go_wp2_with fail
            clear y0 y1 y2 y3 y4 y5 y6 hk3 he1 he2 hko'
            refine wp_region_held_drew (S := (fun w' => w'.cell? ⟨wr.heap.size, 0, none⟩ = some (.int .i64 o.kind) ∧ w'.cell? ⟨wr.heap.size, 1, none⟩ = some (.string ⟨o.name.toArray⟩) ∧ w'.cell? ⟨wr.heap.size, 2, none⟩ = some (.string ⟨o.to.toArray⟩) ∧ w'.cell? ⟨wr.heap.size, 3, none⟩ = some (.slice o.b.a o.b.bs.length o.b.c) ∧ w'.cell? ⟨wr.heap.size, 4, none⟩ = some (.int .i64 o.n) ∧ w'.cell? ⟨wr.heap.size, 5, none⟩ = some (.int .i64 o.bit) ∧ w'.cell? ⟨wr.heap.size, 6, none⟩ = some (.slice o.ka o.ks.length o.kc))) (by kernel_rfl) ?_ (fun hHeld => ?_)
            · exact hop2'
            refine wpAnyH_take (i := 0) (v := ?_) rfl (by kernel_rfl) (by kernel_rfl) (by kernel_rfl) (fun _ _ _ h => h) (Or.inl ⟨by rfl, ?_⟩) (by assumption) ?_
            rotate_left
            · intro w hSw; (try dsimp only at hSw); go_simp <;> with_reducible rfl
            try simp only [Act.put, List.getElem_toArray, List.getElem_cons_zero, List.getElem_cons_succ, List.setIfInBounds_toArray, List.set_cons_zero, List.set_cons_succ]
            refine wpAnyH_take (i := 2) (v := ?_) rfl (by kernel_rfl) (by kernel_rfl) (by kernel_rfl) (fun _ _ _ h => h) (Or.inl ⟨by rfl, ?_⟩) (by assumption) ?_
            rotate_left
            · intro w hSw; (try dsimp only at hSw); go_simp <;> with_reducible rfl
            try simp only [Act.put, List.getElem_toArray, List.getElem_cons_zero, List.getElem_cons_succ, List.setIfInBounds_toArray, List.set_cons_zero, List.set_cons_succ]
            refine wpAnyH_ready (rs := [1]) (by kernel_rfl) (by simp) ?_
            refine AllReadyH.cons rfl (fun K hK => ?_) AllReadyH.nil
            go_simp
            refine (newRef _).mono ?_
            rintro e w21 ⟨r2, rfl, hr2, hL2, kr2⟩
            simp only [RD.v]
            (try go_wp2_with fail)
            refine hK.out _ _ ?_ (fun hHeld => ?_)
            · exact (show Op7 wr.heap.size o w12.drew from hHeld).kept kr2 (by simp)
            clear hK K
            try simp only [Act.put, List.getElem_toArray, List.getElem_cons_zero, List.getElem_cons_succ, List.setIfInBounds_toArray, List.set_cons_zero, List.set_cons_succ]
            refine wpAnyH_ready (rs := [3]) (by kernel_rfl) (by simp) ?_
            refine AllReadyH.cons rfl (fun K hK => ?_) AllReadyH.nil
            go_simp
            have ch2 := hcd.out w21 r2 kr2 hr2 hL2
            simp only [RD.v, DOp.v] at ch2
            refine ch2.mono ?_
            rintro e w22 ⟨v2, b2, xs2, rfl, hD2, mv2⟩
            (try go_wp2_with fail)
            refine hK.out _ _ ?_ (fun hHeld => ?_)
            · exact hkeep2 _ _ _ kr2 mv2
            clear hK K
            try simp only [Act.put, List.getElem_toArray, List.getElem_cons_zero, List.getElem_cons_succ, List.setIfInBounds_toArray, List.set_cons_zero, List.set_cons_succ]
            refine wpAnyH_done (by kernel_rfl) ?_ _
            go_wp2_with fail
            exact ⟨⟨j + 1, by omega, by go_num, hfin2.out _ _ _ kr2 hD2 mv2⟩, by simp [intOf]; omega⟩
          · go_wp2_with fail
            clear y0 y1 y2 y3 y4 y5 y6 hk3 he1 he2 hko'
            refine wp_region_held_drew (S := (fun w' => w'.cell? ⟨wr.heap.size, 0, none⟩ = some (.int .i64 o.kind) ∧ w'.cell? ⟨wr.heap.size, 1, none⟩ = some (.string ⟨o.name.toArray⟩) ∧ w'.cell? ⟨wr.heap.size, 2, none⟩ = some (.string ⟨o.to.toArray⟩) ∧ w'.cell? ⟨wr.heap.size, 3, none⟩ = some (.slice o.b.a o.b.bs.length o.b.c) ∧ w'.cell? ⟨wr.heap.size, 4, none⟩ = some (.int .i64 o.n) ∧ w'.cell? ⟨wr.heap.size, 5, none⟩ = some (.int .i64 o.bit) ∧ w'.cell? ⟨wr.heap.size, 6, none⟩ = some (.slice o.ka o.ks.length o.kc))) (by kernel_rfl) ?_ (fun hHeld => ?_)
            · exact hop2'
            refine wpAnyH_take (i := 0) (v := ?_) rfl (by kernel_rfl) (by kernel_rfl) (by kernel_rfl) (fun _ _ _ h => h) (Or.inl ⟨by rfl, ?_⟩) (by assumption) ?_
            rotate_left
            · intro w hSw; (try dsimp only at hSw); go_simp <;> with_reducible rfl
            try simp only [Act.put, List.getElem_toArray, List.getElem_cons_zero, List.getElem_cons_succ, List.setIfInBounds_toArray, List.set_cons_zero, List.set_cons_succ]
            refine wpAnyH_take (i := 2) (v := ?_) rfl (by kernel_rfl) (by kernel_rfl) (by kernel_rfl) (fun _ _ _ h => h) (Or.inl ⟨by rfl, ?_⟩) (by assumption) ?_
            rotate_left
            · intro w hSw; (try dsimp only at hSw); go_simp <;> with_reducible rfl
            try simp only [Act.put, List.getElem_toArray, List.getElem_cons_zero, List.getElem_cons_succ, List.setIfInBounds_toArray, List.set_cons_zero, List.set_cons_succ]
            refine wpAnyH_ready (rs := [1]) (by kernel_rfl) (by simp) ?_
            refine AllReadyH.cons rfl (fun K hK => ?_) AllReadyH.nil
            go_simp
            refine (newRef _).mono ?_
            rintro e w21 ⟨r2, rfl, hr2, hL2, kr2⟩
            simp only [RD.v]
            (try go_wp2_with fail)
            refine hK.out _ _ ?_ (fun hHeld => ?_)
            · exact (show Op7 wr.heap.size o w12.drew from hHeld).kept kr2 (by simp)
            clear hK K
            try simp only [Act.put, List.getElem_toArray, List.getElem_cons_zero, List.getElem_cons_succ, List.setIfInBounds_toArray, List.set_cons_zero, List.set_cons_succ]
            refine wpAnyH_ready (rs := [3]) (by kernel_rfl) (by simp) ?_
            refine AllReadyH.cons rfl (fun K hK => ?_) AllReadyH.nil
            go_simp
            have ch2 := hcd.out w21 r2 kr2 hr2 hL2
            simp only [RD.v, DOp.v] at ch2
            refine ch2.mono ?_
            rintro e w22 ⟨v2, b2, xs2, rfl, hD2, mv2⟩
            (try go_wp2_with fail)
            refine hK.out _ _ ?_ (fun hHeld => ?_)
            · exact hkeep2 _ _ _ kr2 mv2
            clear hK K
            try simp only [Act.put, List.getElem_toArray, List.getElem_cons_zero, List.getElem_cons_succ, List.setIfInBounds_toArray, List.set_cons_zero, List.set_cons_succ]
            refine wpAnyH_done (by kernel_rfl) ?_ _
            go_wp2_with fail
            exact ⟨⟨j + 1, by omega, by go_num, hfin2.out _ _ _ kr2 hD2 mv2⟩, by simp [intOf]; omega⟩
        · have he1 : (o.name == name) = false := by simpa using hn
          have he2 : (o.name != name) = true := by simpa using hn
          by_cases hc : o.kind = 3 ∧ o.to = name
          · obtain ⟨hk3, hto⟩ := hc
            have he3 : (o.to == name) = true := by simpa using hto
            have hsm : Small ⟨1125899906842624, s + k, F', none, false⟩ := hl3.small (by omega)
            have a1 := cRead T2.D1 hsm name hname
            have hlow4 := low_do 4 (by simp) name [] 0 low2
            have hrm := hid (apt_removed (k := name) low2)
            obtain ⟨G', k2, hk2, hform2⟩ := do_form 1125899906842624 G 4 name [] 0
            have hGe : G' = (doD ⟨1125899906842624, s2, G, none, false⟩ 4 name [] 0).1.files := by rw [hform2 s2]
            have hGn : Hid (byt name G' = none) := by rw [hGe]; exact hrm.out
            rw [hform2 s2] at hlow4
            have a1' : Calls Try.prog 8 #[.pointer (some ⟨p, 0, none⟩), .string ⟨name.toArray⟩] w12 (ReadP (byt name F') w12) := a1
            clear hn hto hGe hrm a1
            go_wp2_with fail
            refine a1'.mono ?_
            intro e w13 hrd
            cases hbv : byt name F' with
            | none =>
              rw [hbv] at hrd
              obtain ⟨rfl, rfl⟩ := hrd
              have a2 := cRemove T2.D2 (show s2 < 9000000000000000000 by omega) name hname [] 0
              clear a1'
              go_wp2_with fail
              refine a2.mono ?_
              rintro e w14 ⟨rfl, ys4, hD4, mv4⟩
              have T3 := T2.chg2 hD4 mv4
              rw [hform2 s2] at T3
              have hfin : Hid (AptI W p mb p2 mb2 name l1 (j + 1) w14) := ⟨s + k, s2 + k2, F', G', _, ys4, T3, hl3, hlow4.mono (by omega) (by omega) (by omega), by omega, by omega, by rw [hbv, hGn.out]⟩
              clear T2 T3 hD4 mv4 a2 hbv
              go_wp2_with fail
              exact ⟨⟨j + 1, by omega, by go_num, hfin.out⟩, by simp [intOf]; omega⟩
            | some bs =>
              rw [hbv] at hrd
              obtain ⟨ra, rc, rfl, hr13, k13, hnew13⟩ := hrd
              obtain ⟨hnk, hbl⟩ := byt_name hl3 hbv
              have T3 := T2.keep k13
              have a2 := cRemove T3.D2 (show s2 < 9000000000000000000 by omega) name hname [] 0
              have hlt3 := T2.D2.lt
              clear a1'
              go_wp2_with fail
              refine a2.mono ?_
              rintro e w14 ⟨rfl, ys4, hD4, mv4⟩
              have T4 := T3.chg2 hD4 mv4
              rw [hform2 s2] at T4
              obtain ⟨_, _, er, hs13, _⟩ := hr13.sees
              cases er
              have hoff13 : bs ≠ [] → ∀ k ∈ blk ra, k ∉ foot p2 mb2 ys := fun _ k hk hf => by have := hnew13 k hk; have := hlt3 k hf; omega
              have hs14 : Sees w14 ra bs := hs13.kept' mv4.kp hoff13
              have hoff14 : bs ≠ [] → ∀ k ∈ blk ra, k ∉ foot p2 mb2 ys4 := fun hb k hk hf => by
                rcases mv4.new k hf with h | h
                · exact hoff13 hb k hk h
                · have := hs13.lt hb k hk; omega
              have hlen4 := hlow4.file name
              have hN4 : ys4.length < 9000000000000000000 := by have := len_of T4.D2; have := hlow4.len; simp only at *; omega
              have a3 := cAppend T4.D2 (show s2 + k2 < 9000000000000000000 by omega) hN4 (hlow4.small (by omega)) name hname ra rc bs hs14 hoff14 (show (fileOf G' name).bytes.length + bs.length ≤ 140737488355328 by simp only at hlen4; omega)
              have hlow5 := low_append name bs hlow4 (by omega)
              have hput := hid (apt_put hlow4 (by omega) hnk hGn.out (b := bs))
              clear a2
              go_wp2_with fail
              refine a3.mono ?_
              rintro e w15 ⟨rfl, ys5, hD5, mv5⟩
              have T5 := T4.chg2 hD5 mv5
              have hput' := hput.out
              obtain ⟨G5, k5, hk5', hform5⟩ := append_form 1125899906842624 G' name bs
              rw [hform5 (s2 + k2)] at T5 hlow5 hput'
              have hfin : Hid (AptI W p mb p2 mb2 name l1 (j + 1) w15) := ⟨s + k, s2 + k2 + k5, F', G5, _, ys5, T5, hl3, hlow5.mono (by omega) (by omega) (by omega), by omega, by omega, by rw [hbv]; exact hput'.symm⟩
              clear T2 T3 T4 T5 hD4 hD5 mv4 mv5 a3 hbv hput' hlow5 hr13 hs13 hs14
              go_wp2_with fail
              exact ⟨⟨j + 1, by omega, by go_num, hfin.out⟩, by simp [intOf]; omega⟩
          · have hbo : byt name F' = byt name G := by rw [hFh.out, apt_other low o (by have := hso.out; omega) hko hn hc]; exact hbt'.out
            have hfin : Hid (AptI W p mb p2 mb2 name l1 (j + 1) w12) := ⟨s + k, s2, F', G, _, ys, T2, hl3, low2.mono (by omega) (by omega) (by omega), by omega, by omega, hbo⟩
            clear T2 hbo
            by_cases hk3 : o.kind = 3
            · have he3 : (o.to == name) = false := by
                cases hq : (o.to == name) with
                | false => rfl
                | true => exact absurd ⟨hk3, by simpa using hq⟩ hc
              clear hn hc
              go_wp2_with fail
              exact ⟨⟨j + 1, by omega, by go_num, hfin.out⟩, by simp [intOf]; omega⟩
            · clear hn hc
              go_wp2_with fail
              exact ⟨⟨j + 1, by omega, by go_num, hfin.out⟩, by simp [intOf]; omega⟩
      · have hko' : 4 < o.kind := by omega
        have hfin1 : Hid (AptI W p mb p2 mb2 name l1 (j + 1) wb) := ⟨s, s2, F, G, xs, ys, Tb, low.mono (by have := hso.out; omega) (by omega) (by omega), low2.mono (by omega) (by omega) (by omega), by omega, by omega, hbt'.out⟩
        clear T Tb hop
        go_wp2_with fail
        rw [hwb'.out]
        exact ⟨⟨j + 1, by omega, by go_num, hfin1.out⟩, by simp [intOf]; omega⟩
    · obtain rfl : j = l1.length := by omega
      obtain ⟨s, s2, F, G, xs, ys, T, low, low2, hsj, hsj2, hbt⟩ := hA
      have hlw := sumB_le l1 l1.length
      have a1 : Calls Try.prog 8 #[.pointer (some ⟨p, 0, none⟩), .string ⟨name.toArray⟩] wr (ReadP (byt name F) wr) := cRead T.D1 (low.small (by omega)) name hname
      have hb' := hid hbt
      have low2' := low2.small (by omega)
      clear hbt hs1
      go_wp2_with fail
      refine a1.mono ?_
      intro e w3 hrd
      cases hbv : byt name F with
      | none =>
        rw [hbv] at hrd
        obtain ⟨rfl, rfl⟩ := hrd
        have a2 : Calls Try.prog 8 #[.pointer (some ⟨p2, 0, none⟩), .string ⟨name.toArray⟩] w3 (ReadP (byt name G) w3) := cRead T.D2 low2' name hname
        rw [← hb'.out, hbv] at a2
        have kf := T.kp
        have cv := convSees (Sees.nil w3 none) 0
        simp only [List.length_nil] at cv
        clear a1 T hbv
        go_wp2_with fail
        refine a2.mono ?_
        rintro e w4 ⟨rfl, rfl⟩
        go_wp2_with fail
        go_ret
        exact ⟨rfl, kf⟩
      | some bs =>
        rw [hbv] at hrd
        obtain ⟨ra, rc, rfl, hr3, k3, _⟩ := hrd
        have T3 := T.keep k3
        have a2 : Calls Try.prog 8 #[.pointer (some ⟨p2, 0, none⟩), .string ⟨name.toArray⟩] w3 (ReadP (byt name G) w3) := cRead T3.D2 low2' name hname
        rw [← hb'.out, hbv] at a2
        clear a1 T hbv
        go_wp2_with fail
        refine a2.mono ?_
        rintro e w4 ⟨sa, sc, rfl, hr4, k4, _⟩
        have kf : Kp [] W w4 := T3.kp.trans k4 (by simp)
        obtain ⟨_, _, er3, hs3, _⟩ := hr3.sees
        cases er3
        obtain ⟨_, _, er4, hs4, _⟩ := hr4.sees
        cases er4
        have cv1 := convSees (hs3.kept k4 (by simp)) rc
        have cv2 := convSees hs4 sc
        clear hs3 hs4 hr3 hr4 a2 T3
        go_wp2_with fail
        go_ret
        exact ⟨rfl, kf⟩
end Go.Proofs.Ytgllkonbgigcbab

/- catalog, by the reference: Nodes. catalog, by the reference: Of. Which tables may be, and which rows are theirs, by the reference. -/
import Derived.Test.YtckicbaidbgonaaB7
import Derived.Deep.RegionHeld3
import Derived.Test.YtckicbaidbgonaaB1
section
namespace Go.Proofs.Ytckicbaidbgonaa
open Go.RowKit Go.Hay
set_option linter.unusedVariables false
set_option linter.unusedSimpArgs false

theorem i64w (x : Int) (h0 : -9223372036854775808 ≤ x) (h1 : x ≤ 9223372036854775807) : IntKind.i64.wrap x = x := by
  rw [IntKind.wrap_i64]
  omega
/-- One more number, appended to a row that is the call's own. -/
theorem appI (w : World) (a : Option Addr) (cp : Nat) (l : List Int) (x : Int) (N : Nat) (hrow : IntE.Row w (.slice a l.length cp) l) (hnw : ∀ k ∈ blk a, N ≤ k) (hN : N ≤ w.heap.size) (hl : l.length ≤ 1000000) :
    ∃ a' cp' W', (Builtin.append_ #[40, 40] 40 #[.slice a l.length cp, .slice (some ⟨w.heap.size, 0, none⟩) 1 1]).run Try.prog (w.alloc (.cells #[.int .i64 x] 3)) = .ok (.slice a' (l ++ [x]).length cp') W' ∧ IntE.Row W' (.slice a' (l ++ [x]).length cp') (l ++ [x]) ∧ (∀ k ∈ blk a', N ≤ k) ∧ Kp (blk a) w W' := by
  obtain ⟨A1, hA1⟩ : ∃ A1, w.alloc (.cells #[.int .i64 x] 3) = A1 := ⟨_, rfl⟩
  have kA1 : Kp [] w A1 := by rw [← hA1]; exact (Kp.refl _ _).alloc _
  have bx1 : Bn A1 w.heap.size (IntE.c x) := by rw [← hA1]; exact Bn.new w (IntE.c x) _
  have hs1 : IntE.See A1 (some ⟨w.heap.size, 0, none⟩) [x] := .inr ⟨w.heap.size, 0, rfl, fun j u hu => by rw [Nat.zero_add]; exact bx1.get j u (by simpa [El.cs] using hu)⟩
  obtain ⟨i0, hi, hz0', hz1', hz2'⟩ := infoI
  have hsr := hs1.src (P := Try.prog) Try.underlying40 1
  obtain ⟨v', A2, hrun, hrow2, k2, hn2⟩ := run_appendG (E := IntE) (P := Try.prog) A1 40 40 40 3 i0 _ 8 Try.underlying40 hi hz0' hz1' hz2' rfl (.slice a l.length cp) l (hrow.keptNew kA1) _ [x] hsr (by simp only [List.length_cons, List.length_nil]; omega) (by simp only [List.length_cons, List.length_nil]; omega)
  obtain ⟨a', c', rfl, _⟩ := hrow2.see
  simp only [ownSl] at k2 hn2
  rw [hA1]
  have z1 := kA1.size
  exact ⟨a', c', A2, hrun, hrow2, fun k hk => by
    rcases hn2 k hk with e | e
    · exact hnw k e
    · omega, (kA1.mono (by simp)).trans k2 (fun j hj => .inl hj)⟩
/-- What the reference's Nodes hands back. -/
def RnP (l : List Int) (w : World) (e : Ending) (w' : World) : Prop := ∃ (a : Option Addr) (cp : Nat), e = .returned (.slice a l.length cp) ∧ IntE.See w' a l ∧ l.length ≤ cp ∧ 0 ≤ cp ∧ Kp [] w w'
set_option maxHeartbeats 8000000 in
set_option maxRecDepth 100000 in
theorem rNodes (c : Cg) (P S : Int) (w : World) (hc : c.ok w) (hn : cntd c = true) (hsh : ∀ p ∈ c.pl, wi p.sh c.n = true) : Calls Try.prog 19 #[c.v, .agg #[.int .i64 P, .int .i64 S]] w (RnP (ndsC c P S) w) := by
  obtain ⟨W, eW, kW, zW, bC, bA⟩ := boxCA c P S w
  have KW := hid kW
  have HC := hid hc
  have BB := hid (And.intro bC bA)
  have hN := (cntd_iff c).1 hn
  have zW' : w.heap.size + 1 < W.heap.size := by omega
  have HSH := hid hsh
  have cc0 := bC.get 0 _ rfl; have cc1 := bC.get 1 _ rfl; have cc2 := bC.get 2 _ rfl; have cc3 := bC.get 3 _ rfl; have cc4 := bC.get 4 _ rfl
  have aa0 := bA.get 0 _ rfl; have aa1 := bA.get 1 _ rfl
  clear kW bC bA hc hn hsh zW
  unfold ndsC
  simp only [Cg.v] at *
  by_cases h1 : P < 0
  · have d1 : decide (P < 0) = true := by simpa using h1
    have hL : liesC c P S = false := by unfold liesC wi; simp; omega
    rw [hL, if_neg (by simp)]
    clear hN hL
    go_enter Try.func19, Try.ntmps19
    go_wp2_with fail
    go_returns
    exact ⟨none, 0, rfl, .inl rfl, by simp, by omega, KW.out⟩
  have d1 : decide (P < 0) = false := by simpa using h1
  by_cases h2 : (c.pl.length : Int) ≤ P
  · have d2 : decide ((c.pl.length : Int) ≤ P) = true := by simpa using h2
    have hL : liesC c P S = false := by unfold liesC wi; simp; omega
    rw [hL, if_neg (by simp)]
    clear hN hL
    go_enter Try.func19, Try.ntmps19
    go_wp2_with fail
    go_returns
    exact ⟨none, 0, rfl, .inl rfl, by simp, by omega, KW.out⟩
  have d2 : decide ((c.pl.length : Int) ≤ P) = false := by simpa using h2
  by_cases h3 : S < 0
  · have d3 : decide (S < 0) = true := by simpa using h3
    have hL : liesC c P S = false := by unfold liesC wi; simp; omega
    rw [hL, if_neg (by simp)]
    clear hN hL
    go_enter Try.func19, Try.ntmps19
    go_wp2_with fail
    go_returns
    exact ⟨none, 0, rfl, .inl rfl, by simp, by omega, KW.out⟩
  have d3 : decide (S < 0) = false := by simpa using h3
  by_cases h4 : c.s ≤ S
  · have d4 : decide (c.s ≤ S) = true := by simpa using h4
    have hL : liesC c P S = false := by unfold liesC wi; simp; omega
    rw [hL, if_neg (by simp)]
    clear hN hL
    go_enter Try.func19, Try.ntmps19
    go_wp2_with fail
    go_returns
    exact ⟨none, 0, rfl, .inl rfl, by simp, by omega, KW.out⟩
  have d4 : decide (c.s ≤ S) = false := by simpa using h4
  have hL : liesC c P S = true := by unfold liesC wi; simp; omega
  rw [hL, if_pos rfl]
  obtain ⟨i, rfl⟩ := Int.eq_ofNat_of_zero_le (show 0 ≤ P by omega)
  have hil : i < c.pl.length := by omega
  have d2n : decide (c.pl.length ≤ i) = false := by simp; omega
  obtain ⟨g, o, eg, _, _, _, _, _, x5⟩ := pjAt (HC.out.ps.keptNew KW.out) (j := i) (p := c.pl[i]) (by simp [hil])
  have hs1 := HSH.out _ (List.getElem_mem hil)
  have hgd : (c.pl.getD (i : Int).toNat default).sh = c.pl[i].sh := by simp [hil]
  rw [hgd]
  generalize c.pl[i].sh = sh at *
  unfold wi at hs1
  simp only [Bool.and_eq_true, decide_eq_true_eq] at hs1
  obtain ⟨K, hK⟩ := Int.eq_ofNat_of_zero_le hN.2.1.1
  rw [eg] at eW BB cc4
  rw [eg]
  rw [hK] at eW BB cc2
  rw [hK]
  have i1 : (0 : Int) ≤ (i : Int) := by omega
  have i2 : (i : Int) < (c.pl.length : Int) := by omega
  have hF : Hid (∀ W', Kp [] W W' → (W'.cell? ⟨w.heap.size, 0, none⟩ = some (.int .i64 c.n) ∧ W'.cell? ⟨w.heap.size, 1, none⟩ = some (.int .i64 c.s) ∧ W'.cell? ⟨w.heap.size, 2, none⟩ = some (.int .i64 (K : Int)) ∧ W'.cell? ⟨w.heap.size, 3, none⟩ = some (.slice c.ta c.tl.length c.tc) ∧ W'.cell? ⟨w.heap.size, 4, none⟩ = some (.slice (some ⟨g, o, none⟩) c.pl.length c.pc) ∧ W'.cell? ⟨w.heap.size + 1, 0, none⟩ = some (.int .i64 (i : Int)) ∧ W'.cell? ⟨w.heap.size + 1, 1, none⟩ = some (.int .i64 S) ∧ W'.cell? ⟨g, o + i * 6 + 5, none⟩ = some (.int .i64 sh))) := fun W' k => by
    have h1 := BB.out.1.kept k
    have h2 := BB.out.2.kept k
    exact ⟨h1.get 0 _ rfl, h1.get 1 _ rfl, h1.get 2 _ rfl, h1.get 3 _ rfl, h1.get 4 _ rfl, h2.get 0 _ rfl, h2.get 1 _ rfl, kpAt k x5⟩
  have hn1 : 1 ≤ c.n := hN.1.1
  have hn8 : c.n ≤ 8 := hN.1.2
  have hn0 : (c.n == 0) = false := by simp; omega
  obtain ⟨F, hFe⟩ : ∃ F, S + sh = F := ⟨_, rfl⟩
  have hFb : 0 ≤ F ∧ F ≤ 16 := by omega
  have b1 : (-9223372036854775808 : Int) ≤ S + sh := by omega
  have b2 : S + sh ≤ 9223372036854775807 := by omega
  have hK8 : K < 8 := by omega
  rw [hFe, show ((K : Int)).toNat = K by simp]
  have HN := hid hN
  have HK := hid hK
  have HFe := hid hFe
  clear h1 h2 h3 h4 x5 hgd hs1 hN hK hL
  go_enter Try.func19, Try.ntmps19
  go_wp2_with fail
  clear cc0 cc1 cc2 cc3 cc4 aa0 aa1 eW
  go_loopw [5, 6] (fun lv jv wr => ∃ (j : Nat) (a : Option Addr) (cp : Nat) (l : List Int), j ≤ K + 1 ∧ jv = .int .i64 j ∧ lv = .slice a l.length cp ∧ Hid (l = ring F c.n j) ∧ Hid (IntE.Row wr (.slice a l.length cp) l ∧ (∀ z ∈ blk a, W.heap.size ≤ z) ∧ Kp [] W wr)) (fun _ jv _ => K + 1 - (intOf jv).toNat)
  case atStart => exact ⟨0, none, 0, [], Nat.zero_le _, rfl, rfl, hid (by simp [ring]), hid ⟨.inl ⟨rfl, rfl⟩, by simp [blk], Kp.refl _ _⟩⟩
  case round =>
    obtain ⟨j, a, cp, l, hj, rfl, rfl, hl, hw⟩ := hrel
    obtain ⟨q0, q1, q2, q3, q4, q5, q6, q7⟩ := hF.out _ hw.out.2.2
    by_cases hlt : j ≤ K
    · have j1 : (j : Int) ≤ (K : Int) := by omega
      have j3 : (j : Int) + 1 ≤ 9223372036854775807 := by omega
      have j4 : (-9223372036854775808 : Int) ≤ F + (j : Int) := by omega
      have j5 : F + (j : Int) ≤ 9223372036854775807 := by omega
      have hmod : Int.tmod (F + (j : Int)) c.n = (F + (j : Int)) % c.n := Int.tmod_eq_emod_of_nonneg (by omega)
      obtain ⟨V, hV⟩ : ∃ V, (F + (j : Int)) % c.n = V := ⟨_, rfl⟩
      rw [hV] at hmod
      have hlen : l.length ≤ 1000000 := by rw [hl.out, ring_length]; omega
      have hs2 := hid (ring_succ F c.n j)
      rw [hV] at hs2
      have hF2 : Hid (∀ W', Kp [] wr W' → (W'.cell? ⟨w.heap.size, 0, none⟩ = some (.int .i64 c.n) ∧ W'.cell? ⟨w.heap.size, 1, none⟩ = some (.int .i64 c.s) ∧ W'.cell? ⟨w.heap.size, 2, none⟩ = some (.int .i64 (K : Int)) ∧ W'.cell? ⟨w.heap.size, 3, none⟩ = some (.slice c.ta c.tl.length c.tc) ∧ W'.cell? ⟨w.heap.size, 4, none⟩ = some (.slice (some ⟨g, o, none⟩) c.pl.length c.pc) ∧ W'.cell? ⟨w.heap.size + 1, 0, none⟩ = some (.int .i64 (i : Int)) ∧ W'.cell? ⟨w.heap.size + 1, 1, none⟩ = some (.int .i64 S) ∧ W'.cell? ⟨g, o + i * 6 + 5, none⟩ = some (.int .i64 sh))) := fun W' k => hF.out _ (hw.out.2.2.trans k (by simp))
      have wF : IntKind.i64.wrap F = F := i64w F (by omega) (by omega)
      have wFj : IntKind.i64.wrap (F + (j : Int)) = F + (j : Int) := i64w _ (by omega) (by omega)
      have hnz : (c.n = 0) = False := by simp; omega
      clear hV
      go_wp2_with fail
      refine wp_region_held_drew (S := fun W' => W'.cell? ⟨w.heap.size, 0, none⟩ = some (.int .i64 c.n) ∧ W'.cell? ⟨w.heap.size, 1, none⟩ = some (.int .i64 c.s) ∧ W'.cell? ⟨w.heap.size, 2, none⟩ = some (.int .i64 (K : Int)) ∧ W'.cell? ⟨w.heap.size, 3, none⟩ = some (.slice c.ta c.tl.length c.tc) ∧ W'.cell? ⟨w.heap.size, 4, none⟩ = some (.slice (some ⟨g, o, none⟩) c.pl.length c.pc) ∧ W'.cell? ⟨w.heap.size + 1, 0, none⟩ = some (.int .i64 (i : Int)) ∧ W'.cell? ⟨w.heap.size + 1, 1, none⟩ = some (.int .i64 S) ∧ W'.cell? ⟨g, o + i * 6 + 5, none⟩ = some (.int .i64 sh)) (by kernel_rfl) ?_ (fun hHeld => ?_)
      · exact hF2.out _ (Kp.refl _ _).drew
      have KD : Hid (Kp [] wr wr.drew) := hid (Kp.refl _ _).drew
      generalize wr.drew = Wd at *
      have zD := KD.out.size
      have zw := hw.out.2.2.size
      obtain ⟨a', cp', W5, hrun, hrow', hnw', k'⟩ := appI Wd a cp l V W.heap.size (hw.out.1.keptNew KD.out) hw.out.2.1 (by omega) hlen
      clear q0 q1 q2 q3 q4 q5 q6 q7
      refine wpAnyH_take (i := 0) (v := ?_) rfl (by kernel_rfl) (by kernel_rfl) (by kernel_rfl) (fun _ _ _ h => h) (Or.inl ⟨by rfl, ?_⟩) (by assumption) ?_
      rotate_left
      · intro w hSw; (try dsimp only at hSw); go_simp <;> with_reducible rfl
      try simp only [Act.put, List.getElem_toArray, List.getElem_cons_zero, List.getElem_cons_succ, List.setIfInBounds_toArray, List.set_cons_zero, List.set_cons_succ]
      refine wpAnyH_take (i := 1) (v := ?_) rfl (by kernel_rfl) (by kernel_rfl) (by kernel_rfl) (fun _ _ _ h => h) (Or.inl ⟨by rfl, ?_⟩) (by assumption) ?_
      rotate_left
      · intro w hSw; (try dsimp only at hSw); go_simp <;> with_reducible rfl
      try simp only [Act.put, List.getElem_toArray, List.getElem_cons_zero, List.getElem_cons_succ, List.setIfInBounds_toArray, List.set_cons_zero, List.set_cons_succ]
      refine wpAnyH_take (i := 2) (v := ?_) rfl (by kernel_rfl) (by kernel_rfl) (by kernel_rfl) (fun _ _ _ h => h) (Or.inl ⟨by rfl, ?_⟩) (by assumption) ?_
      rotate_left
      · intro w hSw; (try dsimp only at hSw); go_simp <;> with_reducible rfl
      try simp only [Act.put, List.getElem_toArray, List.getElem_cons_zero, List.getElem_cons_succ, List.setIfInBounds_toArray, List.set_cons_zero, List.set_cons_succ]
      refine wpAnyH_take (i := 3) (v := ?_) rfl (by kernel_rfl) (by kernel_rfl) (by kernel_rfl) (fun _ _ _ h => h) (Or.inl ⟨by rfl, ?_⟩) (by assumption) ?_
      rotate_left
      · intro w hSw; (try dsimp only at hSw); go_simp <;> with_reducible rfl
      try simp only [Act.put, List.getElem_toArray, List.getElem_cons_zero, List.getElem_cons_succ, List.setIfInBounds_toArray, List.set_cons_zero, List.set_cons_succ]
      refine wpAnyH_take (i := 4) (v := ?_) rfl (by kernel_rfl) (by kernel_rfl) (by kernel_rfl) (fun _ _ _ h => h) (Or.inl ⟨by rfl, ?_⟩) (by assumption) ?_
      rotate_left
      · intro w hSw; (try dsimp only at hSw); go_simp <;> with_reducible rfl
      try simp only [Act.put, List.getElem_toArray, List.getElem_cons_zero, List.getElem_cons_succ, List.setIfInBounds_toArray, List.set_cons_zero, List.set_cons_succ]
      refine wpAnyH_take (i := 5) (v := ?_) rfl (by kernel_rfl) (by kernel_rfl) (by kernel_rfl) (fun _ _ _ h => h) (Or.inl ⟨by rfl, ?_⟩) (by assumption) ?_
      rotate_left
      · intro w hSw; (try dsimp only at hSw); go_simp <;> with_reducible rfl
      try simp only [Act.put, List.getElem_toArray, List.getElem_cons_zero, List.getElem_cons_succ, List.setIfInBounds_toArray, List.set_cons_zero, List.set_cons_succ]
      refine wpAnyH_take (i := 6) (v := ?_) rfl (by kernel_rfl) (by kernel_rfl) (by kernel_rfl) (fun _ _ _ h => h) (Or.inl ⟨by rfl, ?_⟩) (by assumption) ?_
      rotate_left
      · intro w hSw; (try dsimp only at hSw); go_simp <;> with_reducible rfl
      try simp only [Act.put, List.getElem_toArray, List.getElem_cons_zero, List.getElem_cons_succ, List.setIfInBounds_toArray, List.set_cons_zero, List.set_cons_succ]
      refine wpAnyH_take (i := 7) (v := ?_) rfl (by kernel_rfl) (by kernel_rfl) (by kernel_rfl) (fun _ _ _ h => h) (Or.inl ⟨by rfl, ?_⟩) (by assumption) ?_
      rotate_left
      · intro w hSw; (try dsimp only at hSw); go_simp <;> with_reducible rfl
      try simp only [Act.put, List.getElem_toArray, List.getElem_cons_zero, List.getElem_cons_succ, List.setIfInBounds_toArray, List.set_cons_zero, List.set_cons_succ]
      refine wpAnyH_take (i := 8) (v := ?_) rfl (by kernel_rfl) (by kernel_rfl) (by kernel_rfl) (fun _ _ _ h => h) (Or.inl ⟨by rfl, ?_⟩) (by assumption) ?_
      rotate_left
      · intro w hSw; (try dsimp only at hSw); go_simp <;> with_reducible rfl
      try simp only [Act.put, List.getElem_toArray, List.getElem_cons_zero, List.getElem_cons_succ, List.setIfInBounds_toArray, List.set_cons_zero, List.set_cons_succ]
      refine wpAnyH_take (i := 9) (v := ?_) rfl (by kernel_rfl) (by kernel_rfl) (by kernel_rfl) (fun _ _ _ h => h) (Or.inl ⟨by rfl, ?_⟩) (by assumption) ?_
      rotate_left
      · intro w hSw; (try dsimp only at hSw); go_simp <;> with_reducible rfl
      try simp only [Act.put, List.getElem_toArray, List.getElem_cons_zero, List.getElem_cons_succ, List.setIfInBounds_toArray, List.set_cons_zero, List.set_cons_succ]
      refine wpAnyH_take (i := 10) (v := ?_) rfl (by kernel_rfl) (by kernel_rfl) (by kernel_rfl) (fun _ _ _ h => h) (Or.inl ⟨by rfl, ?_⟩) (by assumption) ?_
      rotate_left
      · intro w hSw; (try dsimp only at hSw); go_simp <;> (try simp only [wF, wFj, hmod, hnz, if_false]) <;> with_reducible rfl
      try simp only [Act.put, List.getElem_toArray, List.getElem_cons_zero, List.getElem_cons_succ, List.setIfInBounds_toArray, List.set_cons_zero, List.set_cons_succ]
      try simp only [hFe, wF]
      refine wpAnyH_take (i := 11) (v := ?_) rfl (by kernel_rfl) (by kernel_rfl) (by kernel_rfl) (fun _ _ _ h => h) (Or.inl ⟨by rfl, ?_⟩) (by assumption) ?_
      rotate_left
      · intro w hSw; (try dsimp only at hSw); go_simp <;> with_reducible rfl
      try simp only [Act.put, List.getElem_toArray, List.getElem_cons_zero, List.getElem_cons_succ, List.setIfInBounds_toArray, List.set_cons_zero, List.set_cons_succ]
      refine wpAnyH_take (i := 12) (v := ?_) rfl (by kernel_rfl) (by kernel_rfl) (by kernel_rfl) (fun _ _ _ h => h) (Or.inl ⟨by rfl, ?_⟩) (by assumption) ?_
      rotate_left
      · intro w hSw; (try dsimp only at hSw); go_simp <;> (try simp only [wF, wFj, hmod, hnz, if_false]) <;> with_reducible rfl
      try simp only [Act.put, List.getElem_toArray, List.getElem_cons_zero, List.getElem_cons_succ, List.setIfInBounds_toArray, List.set_cons_zero, List.set_cons_succ]
      try simp only [wFj]
      refine wpAnyH_take (i := 13) (v := ?_) rfl (by kernel_rfl) (by kernel_rfl) (by kernel_rfl) (fun _ _ _ h => h) (Or.inl ⟨by rfl, ?_⟩) (by assumption) ?_
      rotate_left
      · intro w hSw; (try dsimp only at hSw); go_simp <;> with_reducible rfl
      try simp only [Act.put, List.getElem_toArray, List.getElem_cons_zero, List.getElem_cons_succ, List.setIfInBounds_toArray, List.set_cons_zero, List.set_cons_succ]
      refine wpAnyH_take (i := 14) (v := ?_) rfl (by kernel_rfl) (by kernel_rfl) (by kernel_rfl) (fun _ _ _ h => h) (Or.inl ⟨by rfl, ?_⟩) (by assumption) ?_
      rotate_left
      · intro w hSw; (try dsimp only at hSw); go_simp <;> with_reducible rfl
      try simp only [Act.put, List.getElem_toArray, List.getElem_cons_zero, List.getElem_cons_succ, List.setIfInBounds_toArray, List.set_cons_zero, List.set_cons_succ]
      refine wpAnyH_take (i := 15) (v := ?_) rfl (by kernel_rfl) (by kernel_rfl) (by kernel_rfl) (fun _ _ _ h => h) (Or.inl ⟨by rfl, ?_⟩) (by assumption) ?_
      rotate_left
      · intro w hSw; (try dsimp only at hSw); go_simp <;> (try simp only [wF, wFj, hmod, hnz, if_false]) <;> with_reducible rfl
      try simp only [Act.put, List.getElem_toArray, List.getElem_cons_zero, List.getElem_cons_succ, List.setIfInBounds_toArray, List.set_cons_zero, List.set_cons_succ]
      try simp only [hmod]
      refine wpAnyH_ready (rs := [16]) (by kernel_rfl) (by simp) ?_
      refine AllReadyH.cons rfl (fun K hK => ?_) AllReadyH.nil
      go_simp
      (try go_wp2_with fail)
      refine hK.out _ _ ?_ (fun hHeld => ?_)
      · exact hF2.out _ (KD.out.alloc _)
      clear hK K
      try simp only [Act.put, List.getElem_toArray, List.getElem_cons_zero, List.getElem_cons_succ, List.setIfInBounds_toArray, List.set_cons_zero, List.set_cons_succ]
      clear hHeld
      have k5 : Kp [] W W5 := (hw.out.2.2.trans KD.out (by simp)).trans k' (fun x hx => .inr (hw.out.2.1 x hx))
      have hl2 : Hid (l ++ [V] = ring F c.n (j + 1)) := by show _ = _; rw [hs2.out, ← hl.out]
      obtain ⟨L2, hL2⟩ : ∃ L2, Hid (l ++ [V] = L2) := ⟨_, hid rfl⟩
      rw [hL2.out] at hl2 hrun hrow'
      have hw2 : Hid (IntE.Row W5 (.slice a' L2.length cp') L2 ∧ (∀ z ∈ blk a', W.heap.size ≤ z) ∧ Kp [] W W5) := hid ⟨hrow', hnw', k5⟩
      have KK := hid k5
      clear hrow' hnw' k' k5
      refine wpAnyH_ready (rs := [17]) (by kernel_rfl) (by simp) ?_
      refine AllReadyH.cons rfl (fun K hK => ?_) AllReadyH.nil
      refine stepAppRun rfl _ _ 40 40 rfl _ _ _ rfl rfl hrun ?_
      refine hK.out _ _ ?_ (fun hHeld => ?_)
      · exact hF.out _ KK.out
      clear hK K
      try simp only [Act.put, List.getElem_toArray, List.getElem_cons_zero, List.getElem_cons_succ, List.setIfInBounds_toArray, List.set_cons_zero, List.set_cons_succ]
      refine wpAnyH_take (i := 18) (v := ?_) rfl (by kernel_rfl) (by kernel_rfl) (by kernel_rfl) (fun _ _ _ h => h) (Or.inl ⟨by rfl, ?_⟩) (by assumption) ?_
      rotate_left
      · intro w hSw; (try dsimp only at hSw); go_simp <;> with_reducible rfl
      try simp only [Act.put, List.getElem_toArray, List.getElem_cons_zero, List.getElem_cons_succ, List.setIfInBounds_toArray, List.set_cons_zero, List.set_cons_succ]
      refine wpAnyH_done (by kernel_rfl) ?_ _
      clear hHeld hrun
      go_wp2_with fail
      exact ⟨⟨j + 1, a', cp', L2, by omega, by go_num, rfl, hl2, hw2⟩, by simp [intOf]; omega⟩
    · have e : j = K + 1 := by omega
      subst e
      have e2 : decide ((((K + 1 : Nat) : Int)) ≤ (K : Int)) = false := by simp; omega
      go_wp2_with fail
      go_ret
      obtain ⟨_, _, e, hsee, _, hcp, _⟩ := hw.out.1.see
      cases e
      exact ⟨a, cp, by rw [← hl.out]; rfl, by rw [← hl.out]; exact hsee, by rw [← hl.out]; exact hcp, by omega, KW.out.trans hw.out.2.2 (by simp)⟩
end Go.Proofs.Ytckicbaidbgonaa
end

section
namespace Go.Proofs.Ytckicbaidbgonaa
open Go.RowKit Go.Hay
set_option linter.unusedVariables false
set_option linter.unusedSimpArgs false

theorem sgAt2 {w : World} {a : Option Addr} {l : List (Nat × Nat)} (h : SgE.See w a l) {j : Nat} {x : Nat × Nat} (hx : l[j]? = some x) : ∃ g f, a = some ⟨g, f, none⟩ ∧ w.cell? ⟨g, f + j * 2, none⟩ = some (.int .i64 (x.1 : Int)) ∧ w.cell? ⟨g, f + j * 2 + 1, none⟩ = some (.int .i64 (x.2 : Int)) := by
  obtain ⟨g, f, rfl, hc⟩ := h.at hx
  exact ⟨g, f, rfl, hc 0 _ rfl, hc 1 _ rfl⟩
set_option maxHeartbeats 8000000 in
set_option maxRecDepth 100000 in
theorem rOf (c : Cg) (node : Int) (M : Nat) (w : World) (hM : c.s = (M : Int)) (hc : c.ok w) (hn : cntd c = true) (hsh : ∀ p ∈ c.pl, wi p.sh c.n = true) (hp8 : c.pl.length ≤ 8) : Calls Try.prog 15 #[c.v, .int .i64 node] w (OfP (ofC c M node) w) := by
  obtain ⟨W, eW, kW, zW, bC⟩ := boxC c w
  have hMl : M ≤ 8 ∧ 1 ≤ M := by have := (cntd_iff c).1 hn; omega
  have aSg := hid (rSegments c M c.pl.length W hM rfl hMl.1 hp8)
  have HC := hid hc
  have HN := hid (And.intro hn hsh)
  have BC := hid bC
  have KW := hid kW
  have c0 := bC.get 0 _ rfl; have c1 := bC.get 1 _ rfl; have c2 := bC.get 2 _ rfl; have c3 := bC.get 3 _ rfl; have c4 := bC.get 4 _ rfl
  have zW' : w.heap.size < W.heap.size := by omega
  obtain ⟨N, hN⟩ : ∃ N, Hid (c.pl.length * M = N) := ⟨_, hid rfl⟩
  have hN64 : N ≤ 64 := by have h1 : c.pl.length * M ≤ 8 * 8 := Nat.mul_le_mul hp8 hMl.1; have := hN.out; omega
  unfold ofC
  rw [hN.out] at aSg
  rw [hN.out]
  clear kW bC hc hn hsh hM zW
  simp only [Cg.v] at *
  go_enter Try.func15, Try.ntmps15
  go_wp2_with fail
  refine aSg.out.mono ?_
  rintro e w1 ⟨sa, sc, rfl, hss, hsc, k1⟩
  have K1 := hid k1
  have HSS := hid hss
  rw [sgTo_len]
  clear aSg hss hsc k1 c0 c1 c2 c3 c4
  go_wp2_with fail
  go_loopw [5, 7, 8] (fun lv iv _ wr => ∃ (s : Nat) (a : Option Addr) (cp : Nat) (l : List (Nat × Nat)), s ≤ N ∧ iv = .int .i64 s ∧ lv = .slice a l.length cp ∧ Hid (l = ofTo c M node s) ∧ Hid (SgE.Row wr (.slice a l.length cp) l ∧ (∀ z ∈ blk a, w1.heap.size ≤ z) ∧ Kp [] w1 wr)) (fun _ iv _ _ => N - (intOf iv).toNat)
  case atStart => exact ⟨0, none, 0, [], Nat.zero_le _, rfl, rfl, hid (by simp [ofTo]), hid ⟨.inl ⟨rfl, rfl⟩, by simp [blk], Kp.refl _ _⟩⟩
  case round =>
    obtain ⟨s, a, cp, l, hs, rfl, rfl, hl, hw⟩ := hrel
    by_cases hsl : s < N
    · have hxg : (sgTo M N)[s]? = some (s / M, s % M) := by simp [sgTo, hsl]
      obtain ⟨x, hx⟩ : ∃ x : Nat × Nat, (s / M, s % M) = x := ⟨_, rfl⟩
      have hxs : x.1 * M + x.2 = s := by rw [← hx, Nat.mul_comm]; exact Nat.div_add_mod s M
      have hx2 : x.2 < M := by rw [← hx]; exact Nat.mod_lt _ (by omega)
      rw [hx] at hxg
      obtain ⟨g, o, eg, _⟩ := sgAt2 (HSS.out.keptNew hw.out.2.2) hxg
      subst eg
      have hF : Hid (∀ W', Kp [] w1 W' → (W'.cell? ⟨w.heap.size, 0, none⟩ = some (.int .i64 c.n) ∧ W'.cell? ⟨w.heap.size, 1, none⟩ = some (.int .i64 c.s) ∧ W'.cell? ⟨w.heap.size, 2, none⟩ = some (.int .i64 c.k) ∧ W'.cell? ⟨w.heap.size, 3, none⟩ = some (.slice c.ta c.tl.length c.tc) ∧ W'.cell? ⟨w.heap.size, 4, none⟩ = some (.slice c.pa c.pl.length c.pc) ∧ W'.cell? ⟨g, o + s * 2, none⟩ = some (.int .i64 (x.1 : Int)) ∧ W'.cell? ⟨g, o + s * 2 + 1, none⟩ = some (.int .i64 (x.2 : Int)))) := fun W' k => by
        have h1 := BC.out.kept (K1.out.trans k (by simp))
        obtain ⟨g2, o2, e2, y0, y1⟩ := sgAt2 (HSS.out.keptNew k) hxg
        injection e2 with e2
        injection e2 with e3 e4
        subst e3 e4
        exact ⟨h1.get 0 _ rfl, h1.get 1 _ rfl, h1.get 2 _ rfl, h1.get 3 _ rfl, h1.get 4 _ rfl, y0, y1⟩
      have i1 : (0 : Int) ≤ (s : Int) := by omega
      have i2 : (s : Int) < (N : Int) := by omega
      have i3 : (s : Int) + 1 ≤ 9223372036854775807 := by omega
      have hou := hid (ofTo_succ c M node s x hxs hx2)
      have aN := hid (fun W' (k : Kp [] w1 W') => rNodes c (x.1 : Int) (x.2 : Int) W' (HC.out.kept ((KW.out.trans K1.out (by simp)).trans k (by simp))) HN.out.1 HN.out.2)
      simp only [Cg.v] at aN
      have hnl := hid (ndsC_len c (x.1 : Int) (x.2 : Int))
      have hk8 : Hid (c.k.toNat ≤ 8) := by have := (cntd_iff c).1 HN.out.1; exact hid (by omega)
      have hll : l.length ≤ 1000000 := by have := ofTo_len c M node s; rw [hl.out]; omega
      clear hx hxg hxs hx2
      go_wp2_with fail
      refine wp_region_held_drew (S := fun W' => W'.cell? ⟨w.heap.size, 0, none⟩ = some (.int .i64 c.n) ∧ W'.cell? ⟨w.heap.size, 1, none⟩ = some (.int .i64 c.s) ∧ W'.cell? ⟨w.heap.size, 2, none⟩ = some (.int .i64 c.k) ∧ W'.cell? ⟨w.heap.size, 3, none⟩ = some (.slice c.ta c.tl.length c.tc) ∧ W'.cell? ⟨w.heap.size, 4, none⟩ = some (.slice c.pa c.pl.length c.pc) ∧ W'.cell? ⟨g, o + s * 2, none⟩ = some (.int .i64 (x.1 : Int)) ∧ W'.cell? ⟨g, o + s * 2 + 1, none⟩ = some (.int .i64 (x.2 : Int))) (by kernel_rfl) ?_ (fun hHeld => ?_)
      · exact hF.out _ (hw.out.2.2.trans (Kp.refl [] wr).drew (by simp))
      have KD : Hid (Kp [] wr wr.drew) := hid (Kp.refl _ _).drew
      generalize wr.drew = Wd at *
      have K1D := hid (hw.out.2.2.trans KD.out (by simp))
      refine wpAnyH_take (i := 0) (v := ?_) rfl (by kernel_rfl) (by kernel_rfl) (by kernel_rfl) (fun _ _ _ h => h) (Or.inl ⟨by rfl, ?_⟩) (by assumption) ?_
      rotate_left
      · intro w hSw; (try dsimp only at hSw); go_simp <;> with_reducible rfl
      try simp only [Act.put, List.getElem_toArray, List.getElem_cons_zero, List.getElem_cons_succ, List.setIfInBounds_toArray, List.set_cons_zero, List.set_cons_succ]
      refine wpAnyH_take (i := 1) (v := ?_) rfl (by kernel_rfl) (by kernel_rfl) (by kernel_rfl) (fun _ _ _ h => h) (Or.inl ⟨by rfl, ?_⟩) (by assumption) ?_
      rotate_left
      · intro w hSw; (try dsimp only at hSw); go_simp <;> with_reducible rfl
      try simp only [Act.put, List.getElem_toArray, List.getElem_cons_zero, List.getElem_cons_succ, List.setIfInBounds_toArray, List.set_cons_zero, List.set_cons_succ]
      refine wpAnyH_take (i := 2) (v := ?_) rfl (by kernel_rfl) (by kernel_rfl) (by kernel_rfl) (fun _ _ _ h => h) (Or.inl ⟨by rfl, ?_⟩) (by assumption) ?_
      rotate_left
      · intro w hSw; (try dsimp only at hSw); go_simp <;> with_reducible rfl
      try simp only [Act.put, List.getElem_toArray, List.getElem_cons_zero, List.getElem_cons_succ, List.setIfInBounds_toArray, List.set_cons_zero, List.set_cons_succ]
      refine wpAnyH_take (i := 3) (v := ?_) rfl (by kernel_rfl) (by kernel_rfl) (by kernel_rfl) (fun _ _ _ h => h) (Or.inl ⟨by rfl, ?_⟩) (by assumption) ?_
      rotate_left
      · intro w hSw; (try dsimp only at hSw); go_simp <;> with_reducible rfl
      try simp only [Act.put, List.getElem_toArray, List.getElem_cons_zero, List.getElem_cons_succ, List.setIfInBounds_toArray, List.set_cons_zero, List.set_cons_succ]
      refine wpAnyH_take (i := 4) (v := ?_) rfl (by kernel_rfl) (by kernel_rfl) (by kernel_rfl) (fun _ _ _ h => h) (Or.inl ⟨by rfl, ?_⟩) (by assumption) ?_
      rotate_left
      · intro w hSw; (try dsimp only at hSw); go_simp <;> with_reducible rfl
      try simp only [Act.put, List.getElem_toArray, List.getElem_cons_zero, List.getElem_cons_succ, List.setIfInBounds_toArray, List.set_cons_zero, List.set_cons_succ]
      refine wpAnyH_take (i := 6) (v := ?_) rfl (by kernel_rfl) (by kernel_rfl) (by kernel_rfl) (fun _ _ _ h => h) (Or.inl ⟨by rfl, ?_⟩) (by assumption) ?_
      rotate_left
      · intro w hSw; (try dsimp only at hSw); go_simp <;> with_reducible rfl
      try simp only [Act.put, List.getElem_toArray, List.getElem_cons_zero, List.getElem_cons_succ, List.setIfInBounds_toArray, List.set_cons_zero, List.set_cons_succ]
      refine wpAnyH_ready (rs := [5]) (by kernel_rfl) (by simp) ?_
      refine AllReadyH.cons rfl (fun K hK => ?_) AllReadyH.nil
      go_simp
      refine (aN.out Wd K1D.out).mono ?_
      rintro e wn ⟨na, nc, rfl, hns, hnc, hn8, kn⟩
      (try go_wp2_with fail)
      refine hK.out _ _ ?_ (fun hHeld => ?_)
      · exact hF.out _ (K1D.out.trans kn (by simp))
      clear hK K
      try simp only [Act.put, List.getElem_toArray, List.getElem_cons_zero, List.getElem_cons_succ, List.setIfInBounds_toArray, List.set_cons_zero, List.set_cons_succ]
      have KN := hid (KD.out.trans kn (by simp))
      have aC := hid (rIn na nc (ndsC c (x.1 : Int) (x.2 : Int)) node wn hns (by have := hnl.out; have := hk8.out; omega))
      clear kn hns
      obtain ⟨X, hX⟩ : ∃ X, Hid (decide (node ∈ ndsC c (x.1 : Int) (x.2 : Int)) = X) := ⟨_, hid rfl⟩
      rw [hX.out] at aC
      refine wpAnyH_ready (rs := [7]) (by kernel_rfl) (by simp) ?_
      refine AllReadyH.cons rfl (fun K hK => ?_) AllReadyH.nil
      go_simp
      refine aC.out.mono ?_
      rintro e wc ⟨rfl, kc⟩
      (try go_wp2_with fail)
      refine hK.out _ _ ?_ (fun hHeld => ?_)
      · exact hF.out _ (hw.out.2.2.trans (KN.out.trans kc (by simp)) (by simp))
      clear hK K
      try simp only [Act.put, List.getElem_toArray, List.getElem_cons_zero, List.getElem_cons_succ, List.setIfInBounds_toArray, List.set_cons_zero, List.set_cons_succ]
      have KC := hid (KN.out.trans kc (by simp))
      clear kc aC
      refine wpAnyH_take (i := 8) (v := ?_) rfl (by kernel_rfl) (by kernel_rfl) (by kernel_rfl) (fun _ _ _ h => h) (Or.inl ⟨by rfl, ?_⟩) (by assumption) ?_
      rotate_left
      · intro w hSw; (try dsimp only at hSw); go_simp <;> with_reducible rfl
      try simp only [Act.put, List.getElem_toArray, List.getElem_cons_zero, List.getElem_cons_succ, List.setIfInBounds_toArray, List.set_cons_zero, List.set_cons_succ]
      refine wpAnyH_done (by kernel_rfl) ?_ _
      obtain ⟨_, _, _, _, _, f0, f1⟩ := hF.out _ (hw.out.2.2.trans KC.out (by simp))
      clear hHeld hF
      cases X with
      | false =>
        have hm : ¬ node ∈ ndsC c (x.1 : Int) (x.2 : Int) := by simpa using hX.out
        have hl2 : Hid (l = ofTo c M node (s + 1)) := by show _ = _; rw [hou.out, if_neg hm, List.append_nil]; exact hl.out
        have hw2 : Hid (SgE.Row wc (.slice a l.length cp) l ∧ (∀ z ∈ blk a, w1.heap.size ≤ z) ∧ Kp [] w1 wc) := hid ⟨hw.out.1.keptNew KC.out, hw.out.2.1, hw.out.2.2.trans KC.out (by simp)⟩
        clear hm hou hl hw hX
        go_wp2_with fail
        exact ⟨⟨s + 1, a, cp, l, by omega, by go_num, rfl, hl2, hw2⟩, by simp [intOf]; omega⟩
      | true =>
        have hm : node ∈ ndsC c (x.1 : Int) (x.2 : Int) := by simpa using hX.out
        have zc := KC.out.size
        have z1 := hw.out.2.2.size
        obtain ⟨a', cp', W', hrun, hrow', hnw', k'⟩ := appSg wc a cp l x w1.heap.size (hw.out.1.keptNew KC.out) hw.out.2.1 (by omega) hll
        have hl2 : Hid (l ++ [x] = ofTo c M node (s + 1)) := by show _ = _; rw [hou.out, if_pos hm, ← hl.out]
        have hw2 : Hid (SgE.Row W' (.slice a' (l ++ [x]).length cp') (l ++ [x]) ∧ (∀ z ∈ blk a', w1.heap.size ≤ z) ∧ Kp [] w1 W') := hid ⟨hrow', hnw', (hw.out.2.2.trans KC.out (by simp)).trans k' (fun z hz => .inr (hw.out.2.1 z hz))⟩
        obtain ⟨L2, hL2⟩ : ∃ L2, Hid (l ++ [x] = L2) := ⟨_, hid rfl⟩
        rw [hL2.out] at hl2 hw2 hrun
        clear hrow' hnw' k' hm hou hl hw hX
        go_wp2_with (first | (refine wpAppRun rfl _ _ 33 33 rfl _ _ _ rfl rfl hrun ?_) | fail)
        exact ⟨⟨s + 1, a', cp', L2, by omega, by go_num, rfl, hl2, hw2⟩, by simp [intOf]; omega⟩
    · have e : s = N := by omega
      subst e
      go_wp2_with fail
      go_ret
      obtain ⟨_, _, e, hsee, _, hcp, _⟩ := hw.out.1.see
      cases e
      exact ⟨a, cp, by rw [← hl.out]; rfl, by rw [← hl.out]; exact hsee, by rw [← hl.out]; exact hcp, (KW.out.trans K1.out (by simp)).trans hw.out.2.2 (by simp)⟩
end Go.Proofs.Ytckicbaidbgonaa
end

section
namespace Go.Proofs.Ytckicbaidbgonaa
open Go.RowKit Go.Hay
set_option linter.unusedVariables false
set_option linter.unusedSimpArgs false

theorem has_take (l : List Col) (m : Nat) (h : m < l.length) (nm : ByteArray) : hasN (l.take (m + 1)) nm = (hasN (l.take m) nm || (l[m].nm.toList == nm.toList)) := by
  unfold hasN
  rw [← List.take_append_getElem h, List.any_append]
  simp
theorem has_more (l : List Col) (m j : Nat) (h : m ≤ j) (nm : ByteArray) (ht : hasN (l.take m) nm = true) : hasN (l.take j) nm = true := by
  simp only [hasN, List.any_eq_true] at ht ⊢
  obtain ⟨x, hx, hx2⟩ := ht
  refine ⟨x, ?_, hx2⟩
  rw [show m = min m j by omega, ← List.take_take] at hx
  exact List.mem_of_mem_take hx
theorem keptK_iff (k : Int) : keptK k = (decide (1 ≤ k) && decide (k ≤ 3)) := by
  unfold keptK
  by_cases h1 : k = 1
  · subst h1; rfl
  by_cases h2 : k = 2
  · subst h2; rfl
  by_cases h3 : k = 3
  · subst h3; rfl
  have e : (k == 1 || (k == 2 || k == 3)) = false := by simp [h1, h2, h3]
  rw [e]
  by_cases h4 : 1 ≤ k
  · rw [show decide (k ≤ 3) = false by simp; omega]; simp
  · rw [show decide (1 ≤ k) = false by simpa using h4]; simp

set_option maxHeartbeats 4000000 in
set_option maxRecDepth 100000 in
theorem cRefTable (nm : ByteArray) (a : Option Addr) (ca : Nat) (l : List Col) (w : World) (ha : Cols w a l) (hl : l.length ≤ ca) (hm : ca ≤ 9223372036854775807) :
    Calls Try.prog 38 #[.agg #[.string nm, .slice a l.length ca]] w fun e w' => e = .returned (.int .i64 (tableV nm l)) ∧ Kp [] w w' := by
  have bT := Box2.new w (.string nm) (.slice a l.length ca) 76
  have kW : Kp [] w (w.alloc (.cells #[.string nm, .slice a l.length ca] 76)) := (Kp.refl _ _).alloc _
  have hN := cRefNamed nm
  obtain ⟨N, HN⟩ : ∃ N : Bool, Hid (namedV nm = N) := ⟨_, rfl⟩
  rw [HN.out] at hN
  cases N
  · have HV : Hid (tableV nm l = 20) := by show _ = _; unfold tableV; rw [HN.out]; rfl
    go_enter Try.func38, Try.ntmps38
    go_wp2_with fail
    refine (hN _).mono ?_
    rintro e w' ⟨rfl, rfl⟩
    go_wp2_with fail
    go_ret
    exact ⟨by rw [HV.out]; rfl, kW⟩
  by_cases h0 : l.length = 0
  · have HV : Hid (tableV nm l = 20) := by show _ = _; unfold tableV; rw [HN.out, h0]; rfl
    have e0 : ((l.length : Int) == 0) = true := by simp [h0]
    clear h0
    go_enter Try.func38, Try.ntmps38
    go_wp2_with fail
    refine (hN _).mono ?_
    rintro e w' ⟨rfl, rfl⟩
    go_wp2_with fail
    go_ret
    exact ⟨by rw [HV.out]; rfl, kW⟩
  have e0 : ((l.length : Int) == 0) = false := by simpa using h0
  by_cases h8 : 8 < l.length
  · have HV : Hid (tableV nm l = 20) := by show _ = _; unfold tableV; rw [HN.out, show decide (l.length ≤ 8) = false by simpa using h8]; simp
    go_enter Try.func38, Try.ntmps38
    go_wp2_with fail
    refine (hN _).mono ?_
    rintro e w' ⟨rfl, rfl⟩
    go_wp2_with fail
    go_ret
    exact ⟨by rw [HV.out]; rfl, kW⟩
  have HT : Hid (tableV nm l = if colsV l then 0 else 20) := by
    show _ = _
    unfold tableV
    rw [HN.out, show decide (l.length ≤ 8) = true by simpa using h8, show decide (l.length ≠ 0) = true by simpa using h0]
    rfl
  go_enter Try.func38, Try.ntmps38
  go_wp2_with fail
  refine (hN _).mono ?_
  rintro e w' ⟨rfl, rfl⟩
  go_wp2_with fail
  go_loopw [4] (fun i wn => ∃ j : Nat, j ≤ l.length ∧ i = .int .i64 j ∧ Upto l j ∧ Box2 wn w.heap.size (.string nm) (.slice a l.length ca) ∧ Kp [] w wn) (fun i _ => l.length - (intOf i).toNat)
  case atStart => exact ⟨0, Nat.zero_le _, rfl, fun i hi => by omega, bT, kW⟩
  case round =>
    obtain ⟨j, hj, rfl, hup, hbx, hk⟩ := hrel
    have q0 := hbx.c0; have q1 := hbx.c1; have ql := hbx.lt
    by_cases hjm : j < l.length
    · obtain ⟨g, o, rfl, a0, a1, a2⟩ := (ha.kept hk).at j hjm
      have hca := hid (colAt_eq l j hjm)
      obtain ⟨x, Hx⟩ : ∃ x : Col, Hid (l[j] = x) := ⟨l[j], show l[j] = l[j] from rfl⟩
      rw [Hx.out] at a0 a1 a2 hca
      obtain ⟨xn, xk, xz⟩ := x
      dsimp only at a0 a1 a2
      have h1 := cRefNamed xn
      obtain ⟨N, HN⟩ : ∃ N : Bool, Hid (namedV xn = N) := ⟨_, rfl⟩
      rw [HN.out] at h1
      have hC : Hid (colAt l j = (N && (keptK xk && !hasN (l.take j) xn))) := by show _ = _; rw [hca.out]; simp only [HN.out]
      clear hca HN
      cases N
      · have HV : Hid (tableV nm l = 20) := by show _ = _; rw [HT.out, colsV_false l j hjm hC.out]; rfl
        go_wp2_with fail
        refine (h1 _).mono ?_
        rintro e w' ⟨rfl, rfl⟩
        go_wp2_with fail
        go_ret
        exact ⟨by rw [HV.out]; rfl, hk⟩
      by_cases hk1 : 1 ≤ xk
      · by_cases hk3 : xk ≤ 3
        · have hC2 : Hid (colAt l j = !hasN (l.take j) xn) := by show _ = _; rw [hC.out, keptK_iff, show decide (1 ≤ xk) = true by simpa using hk1, show decide (xk ≤ 3) = true by simpa using hk3]; rfl
          clear hC
          go_wp2_with fail
          refine (h1 _).mono ?_
          rintro e w' ⟨rfl, rfl⟩
          go_wp2_with fail
          go_loopw [5] (fun i wn => ∃ m : Nat, m ≤ j ∧ i = .int .i64 m ∧ Hid (hasN (l.take m) xn = false) ∧ Box2 wn w.heap.size (.string nm) (.slice (some ⟨g, o, none⟩) l.length ca) ∧ Kp [] w wn) (fun i _ => j - (intOf i).toNat)
          case atStart => exact ⟨0, Nat.zero_le _, rfl, rfl, hbx, hk⟩
          case round =>
            obtain ⟨m, hm', rfl, hh, hbx', hk'⟩ := hrel
            have q0' := hbx'.c0; have q1' := hbx'.c1; have ql' := hbx'.lt
            clear q0 q1 ql a0 a1 a2
            by_cases hmj : m < j
            · have hml : m < l.length := by omega
              obtain ⟨g', o', hgo, b0, b1, b2⟩ := (ha.kept hk').at m hml
              obtain ⟨g2, o2, hgo2, c0, c1, c2⟩ := (ha.kept hk').at j hjm
              cases hgo
              cases hgo2
              rw [Hx.out] at c0 c1 c2
              have hst := hid (has_take l m hml xn)
              have hmo := hid (has_more l (m + 1) j hmj xn)
              generalize l[m] = y at *
              obtain ⟨yn, yk, yz⟩ := y
              dsimp only at b0 b1 b2 c0 c1 c2
              by_cases he : yn.toList = xn.toList
              · have hee : (yn.toList == xn.toList) = true := by simpa using he
                have HV : Hid (tableV nm l = 20) := by show _ = _; rw [HT.out, colsV_false l j hjm (by rw [hC2.out, hmo.out (by rw [hst.out]; simp [he])]; rfl)]; rfl
                clear he hst hmo
                go_wp2_with fail
                go_quiet ((fail))
                go_wp2_with fail
                go_ret
                exact ⟨by rw [HV.out]; rfl, hk'.drewN _⟩
              · have hee : (yn.toList == xn.toList) = false := by simpa using he
                have hn2 : Hid (hasN (l.take (m + 1)) xn = false) := by show _ = _; rw [hst.out, hh.out]; exact hee
                clear he hst hmo hh
                have hbx2 := hbx'
                go_wp2_with fail
                go_quiet ((fail))
                go_wp2_with fail
                exact ⟨⟨m + 1, by omega, by go_num, hn2, ⟨hbx2.c0, hbx2.c1⟩, hk'.drewN _⟩, by simp [intOf]; omega⟩
            · have hmm : m = j := by omega
              subst hmm
              have hup2 := hup.step (by rw [hC2.out, hh.out]; rfl)
              go_wp2_with fail
              exact ⟨⟨m + 1, by omega, by go_num, hup2, hbx', hk'⟩, by simp [intOf]; omega⟩
        · have HV : Hid (tableV nm l = 20) := by show _ = _; rw [HT.out, colsV_false l j hjm (by rw [hC.out, keptK_iff, show decide (xk ≤ 3) = false by simpa using hk3]; simp)]; rfl
          have e3 : ¬ xk ≤ 3 := hk3
          go_wp2_with fail
          refine (h1 _).mono ?_
          rintro e w' ⟨rfl, rfl⟩
          go_wp2_with fail
          go_ret
          exact ⟨by rw [HV.out]; rfl, hk⟩
      · have HV : Hid (tableV nm l = 20) := by show _ = _; rw [HT.out, colsV_false l j hjm (by rw [hC.out, keptK_iff, show decide (1 ≤ xk) = false by simpa using hk1]; simp)]; rfl
        go_wp2_with fail
        refine (h1 _).mono ?_
        rintro e w' ⟨rfl, rfl⟩
        go_wp2_with fail
        go_ret
        exact ⟨by rw [HV.out]; rfl, hk⟩
    · have hjl : j = l.length := by omega
      subst hjl
      have HV : Hid (tableV nm l = 0) := by show _ = _; rw [HT.out, colsV_true l hup]; rfl
      go_wp2_with fail
      go_ret
      exact ⟨by rw [HV.out]; rfl, hk⟩
end Go.Proofs.Ytckicbaidbgonaa
end

/- Drop, Take. -/
import Derived.Test.YtgegdlllmpinfaaNop1
namespace Go.Proofs.Ytgegdlllmpinfaa
open Go.RowKit Go.Hay
set_option linter.unusedVariables false
set_option linter.unusedSimpArgs false

/-- Where the messages lie once those in front of k have moved up. -/
def upW (w : World) (g o : Nat) (l : List Msg) (k : Nat) : World := w.setCells g (o + 2) (MsgE.cs (l.take k))
def zeroW (w : World) (g o : Nat) : World := (w.setCell ⟨g, o, none⟩ (.int .i64 0)).setCell ⟨g, o + 1, none⟩ (.string ⟨#[]⟩)
theorem cell_zeroW (w : World) (g o j : Nat) (hj : o + 2 ≤ j) : (zeroW w g o).cell? ⟨g, j, none⟩ = w.cell? ⟨g, j, none⟩ := by
  unfold zeroW
  rw [World.cell?_setCell_other _ _ _ _ (off_ne (by omega)), World.cell?_setCell_other _ _ _ _ (off_ne (by omega))]
theorem frozen_zeroW (w : World) (g o : Nat) (x : Addr) : (zeroW w g o).frozen? x = w.frozen? x := by
  unfold zeroW
  rw [World.frozen?_setCell, World.frozen?_setCell]
theorem kp_zeroW {S : List Nat} {a w : World} (h : Kp S a w) {g : Nat} (hg : g ∈ S ∨ a.heap.size ≤ g) (o : Nat) : Kp S a (zeroW w g o) := (h.setCell (p := ⟨g, o, none⟩) hg _).setCell (p := ⟨g, o + 1, none⟩) hg _
theorem cs_erase (l : List Msg) (k j : Nat) (hk : k < l.length) : (MsgE.cs (l.eraseIdx k))[j]? = if j < k * 2 then (MsgE.cs l)[j]? else (MsgE.cs l)[j + 2]? := by
  have hl1 : (MsgE.cs (l.take k)).length = k * 2 := by rw [El.cs_length]; simp [MsgE]; omega
  rw [List.eraseIdx_eq_take_drop_succ, El.cs_append]
  by_cases hj : j < k * 2
  · rw [if_pos hj, List.getElem?_append_left (by omega), El.cs_take, List.getElem?_take, if_pos (by simpa [MsgE] using hj)]
  · rw [if_neg hj, List.getElem?_append_right (by omega), hl1, El.cs_drop, List.getElem?_drop]
    congr 1
    simp [MsgE]
    omega
section
variable {w : World} {g o cap : Nat} {l : List Msg} {k : Nat}
theorem up_run (hlc : l.length ≤ cap) (hc : ∀ j u, (MsgE.cs l)[j]? = some u → w.cell? ⟨g, o + j, none⟩ = some u) (ht : ∀ j, j < cap * 2 → (w.cell? ⟨g, o + j, none⟩).isSome = true ∧ w.frozen? ⟨g, o + j, none⟩ = false) (hk : k < l.length) :
    (Builtin.copy_ #[44, 44] 3 #[.slice (some ⟨g, o + 2, none⟩) (l.length - 1) (cap - 1), .slice (some ⟨g, o, none⟩) k cap]).run Try.prog w = .ok (.int .i64 (k : Int)) (upW w g o l k) := by
  obtain ⟨i0, hi, hz0, hz1, hz2⟩ := infoM
  have hl1 : (MsgE.cs (l.take k)).length = k * 2 := by rw [El.cs_length]; simp [MsgE]; omega
  refine run_copyG w _ _ _ 43 i0 Try.underlying44 hi g (o + 2) (l.length - 1) (cap - 1) ⟨g, o, none⟩ k cap (by omega) _ (by rw [hl1, hz1]) ?_ ?_ ?_ (El.cs_one _ _)
  · intro j u hu
    rw [El.cs_take, List.getElem?_take] at hu
    split at hu
    · rw [Addr.add_lit]; exact hc j u hu
    · cases hu
  · intro j hj; rw [Nat.add_assoc]; exact (ht (2 + j) (by omega)).1
  · intro j hj; rw [Nat.add_assoc]; exact (ht (2 + j) (by omega)).2
theorem up_row (hlc : l.length ≤ cap) (hcm : cap ≤ maxLen) (hg : g < w.heap.size) (hc : ∀ j u, (MsgE.cs l)[j]? = some u → w.cell? ⟨g, o + j, none⟩ = some u) (ht : ∀ j, j < cap * 2 → (w.cell? ⟨g, o + j, none⟩).isSome = true ∧ w.frozen? ⟨g, o + j, none⟩ = false) (hk : k < l.length) :
    RowM (zeroW (upW w g o l k) g o) (.slice (some ⟨g, o + 2, none⟩) (l.length - 1) (cap - 1)) (l.eraseIdx k) ∧ (∀ j, j < 2 → ((upW w g o l k).cell? ⟨g, o + j, none⟩).isSome = true) ∧ (∀ j, j < 2 → (upW w g o l k).frozen? ⟨g, o + j, none⟩ = false) := by
  have hl1 : (MsgE.cs (l.take k)).length = k * 2 := by rw [El.cs_length]; simp [MsgE]; omega
  have hsome : ∀ j, j < (MsgE.cs (l.take k)).length → (w.cell? ⟨g, o + 2 + j, none⟩).isSome = true := fun j hj => by rw [Nat.add_assoc]; exact (ht (2 + j) (by omega)).1
  have hin : ∀ j, j < k * 2 → (upW w g o l k).cell? ⟨g, o + 2 + j, none⟩ = (MsgE.cs l)[j]? := fun j hj => by
    have := World.cell?_setCells_in g (MsgE.cs (l.take k)) (o + 2) w hsome j (by omega)
    refine this.trans ?_
    rw [← List.getElem?_eq_getElem, El.cs_take, List.getElem?_take, if_pos (by simpa [MsgE] using hj)]
  have hout : ∀ x, (x < o + 2 ∨ o + 2 + k * 2 ≤ x) → (upW w g o l k).cell? ⟨g, x, none⟩ = w.cell? ⟨g, x, none⟩ := fun x hx => World.cell?_setCells_out g _ _ _ _ (fun _ _ => by rw [hl1]; exact hx)
  have hfr : ∀ x : Addr, (upW w g o l k).frozen? x = w.frozen? x := fun x => World.frozen?_setCells g _ _ _ _
  refine ⟨.inr ⟨g, o + 2, cap - 1, by rw [List.length_eraseIdx_of_lt hk], by rw [List.length_eraseIdx_of_lt hk]; omega, by omega, ?_, ?_, ?_⟩, fun j hj => ?_, fun j hj => ?_⟩
  · unfold zeroW upW; simp [World.setCell, size_setCells]; exact hg
  · intro j u hu
    rw [cell_zeroW _ _ _ _ (by omega)]
    rw [cs_erase l k j hk] at hu
    split at hu
    · rename_i h1; rw [hin j h1]; exact hu
    · rename_i h1; rw [hout _ (by omega), show o + 2 + j = o + (j + 2) by omega]; exact hc _ _ hu
  · intro j hj
    have hj' : 2 + j < cap * 2 := by have : MsgE.n = 2 := rfl; rw [this] at hj; omega
    rw [cell_zeroW _ _ _ _ (by omega), frozen_zeroW, hfr, Nat.add_assoc]
    refine ⟨?_, (ht (2 + j) hj').2⟩
    by_cases h1 : j < k * 2
    · rw [← Nat.add_assoc, hin j h1, List.getElem?_eq_getElem (by rw [El.cs_length]; have : MsgE.n = 2 := rfl; rw [this]; omega)]; rfl
    · rw [hout _ (by omega)]; exact (ht (2 + j) hj').1
  · rw [hout _ (by omega)]; exact (ht j (by omega)).1
  · rw [hfr]; exact (ht j (by omega)).2
end
theorem dropN_nat (n : Nt) (k : Nat) : dropN n k = { n with l := n.l.eraseIdx k } := by unfold dropN; rw [if_pos (by omega)]; rfl
set_option maxHeartbeats 1000000 in
theorem cDropBig {w : World} {p g o cap : Nat} {n : Nt} (h : Net w p (.slice (some ⟨g, o, none⟩) n.l.length cap) n) (hb : n.l.length ≤ 6000000000000) (k : Nat) (hk : k < n.l.length) (hcap : 2 ≤ cap) : Calls Try.prog 9 #[.pointer (some ⟨p, 0, none⟩), .int .i64 (k : Int)] w (ChgN p (.slice (some ⟨g, o, none⟩) n.l.length cap) (dropN n k) (.bool true) w) := by
  have hg : Hid (p ≠ g) := fun e => h.apart (by simp [own, Value.ownBlock, e])
  have big : ∀ W, Kp [] w W → ∃ w1, (Builtin.copy_ #[44, 44] 3 #[.slice (some ⟨g, o + 2, none⟩) (n.l.length - 1) (cap - 1), .slice (some ⟨g, o, none⟩) k cap]).run Try.prog W = .ok (.int .i64 (k : Int)) w1 ∧ w1.cell? ⟨p, 1, none⟩ = some (.slice (some ⟨g, o, none⟩) n.l.length cap) ∧
      (∃ u, w1.cell? ⟨g, o, none⟩ = some u) ∧ (∃ u, w1.cell? ⟨g, o + 1, none⟩ = some u) ∧ w1.frozen? ⟨g, o, none⟩ = false ∧ w1.frozen? ⟨g, o + 1, none⟩ = false ∧ w1.frozen? ⟨p, 1, none⟩ = false ∧
      ChgN p (.slice (some ⟨g, o, none⟩) n.l.length cap) (dropN n k) (.bool true) w (.returned (.bool true)) ((zeroW w1 g o).setCell ⟨p, 1, none⟩ (.slice (some ⟨g, o + 2, none⟩) (n.l.length - 1) (cap - 1))) := fun W kW => by
    have h1 := h.keptNew kW
    obtain ⟨e, _⟩ | ⟨g', o', cap', e, hlc, hcm, hgl, hc, ht⟩ := h1.row
    · cases e
    · cases e
      have hn2 : MsgE.n = 2 := rfl
      rw [hn2] at ht
      obtain ⟨hrow, hs, hf⟩ := up_row (k := k) hlc hcm hgl hc ht hk
      have ku : Kp [g] W (upW W g o n.l k) := (Kp.refl _ _).setCells (by simp) _ _
      have hp : p ∉ [g] := by simpa using hg.out
      have kz : Kp [g] W (zeroW (upW W g o n.l k) g o) := kp_zeroW ku (by simp) o
      obtain ⟨e1, e2, hN, hW⟩ := h.stored (w0 := W) (w1 := zeroW (upW W g o n.l k) g o) (n' := dropN n k) kW (by rw [dropN_nat]) (by rw [dropN_nat]; exact hrow) (by simpa [own, Value.ownBlock] using kz) (fun x hx => .inl (by simpa [own, Value.ownBlock] using hx))
      exact ⟨upW W g o n.l k, up_run hlc hc ht hk, (ku.cell (p := ⟨p, 1, none⟩) h1.lt hp).trans h1.c1, Option.isSome_iff_exists.1 (hs 0 (by omega)), Option.isSome_iff_exists.1 (hs 1 (by omega)), hf 0 (by omega), hf 1 (by omega), (ku.frozen (p := ⟨p, 1, none⟩) h1.lt hp).trans (h1.free 1), _, rfl, hN, hW⟩
  have hc := cHasY h k hk
  have c1 := h.c1
  obtain ⟨w1, hrun, e1, ⟨u0, e2⟩, ⟨u1, e3⟩, f0, f1, f2, hfin⟩ := big w.drew (Kp.refl _ _).drew
  unfold zeroW at hfin
  have hlc : n.l.length ≤ cap := by obtain ⟨_, _, e, _, _, hlc, _⟩ := h.row.see; cases e; exact hlc
  have x1 : (1 : Int) ≤ (n.l.length : Int) := by omega
  have x2 : ¬ cap = 1 := by omega
  have x3 : (k : Int) ≤ (cap : Int) := by omega
  have z1 : ((w1.setCell ⟨g, o, none⟩ (.int .i64 0)).setCell ⟨g, o + 1, none⟩ (.string ⟨#[]⟩)).cell? ⟨p, 1, none⟩ = some (.slice (some ⟨g, o, none⟩) n.l.length cap) := by
    rw [World.cell?_setCell_other _ _ _ _ (by intro h; simp only [Addr.mk.injEq] at h; exact hg.out h.1.symm), World.cell?_setCell_other _ _ _ _ (by intro h; simp only [Addr.mk.injEq] at h; exact hg.out h.1.symm)]
    exact e1
  clear big h
  go_enter Try.func9, Try.ntmps9
  go_wp2_with fail
  refine hc.mono ?_
  rintro e w' ⟨rfl, rfl⟩
  go_wp2_with fail
  go_region_law (refine stepCpyRun (by rfl) _ _ _ _ (by rfl) _ _ _ (by rfl) (by rfl) hrun ?_)
  all_goals (go_wp2_with fail; go_returns; exact hfin)
set_option maxHeartbeats 1000000 in
theorem cDropOne {w : World} {p g o : Nat} {n : Nt} (h : Net w p (.slice (some ⟨g, o, none⟩) n.l.length 1) n) (hl : n.l.length = 1) : Calls Try.prog 9 #[.pointer (some ⟨p, 0, none⟩), .int .i64 ((0 : Nat) : Int)] w (ChgN p (.slice (some ⟨g, o, none⟩) n.l.length 1) (dropN n ((0 : Nat) : Int)) (.bool true) w) := by
  have hg : Hid (p ≠ g) := fun e => h.apart (by simp [own, Value.ownBlock, e])
  have hc := cHasY h 0 (by omega)
  have c1 := h.c1
  obtain ⟨W, hW0⟩ : ∃ W, W = w.drew := ⟨_, rfl⟩
  have kW : Kp [] w W := by rw [hW0]; exact (Kp.refl _ _).drew
  have h1 := h.keptNew kW
  have c1' := h1.c1
  obtain ⟨e, _⟩ | ⟨g', o', cap', e, hlc, hcm, hgl, hc', ht⟩ := h1.row
  · cases e
  cases e
  have hn2 : MsgE.n = 2 := rfl
  rw [hn2] at ht
  obtain ⟨i0, hi, hz0, hz1, hz2⟩ := infoM
  have hrun : (Builtin.copy_ #[44, 44] 3 #[.slice (some ⟨g, o, none⟩) 0 0, .slice (some ⟨g, o, none⟩) 0 1]).run Try.prog w.drew = .ok (.int .i64 ((0 : Nat) : Int)) W := by
    rw [hW0]
    exact run_copyG w.drew _ _ _ 43 i0 Try.underlying44 hi g o 0 0 ⟨g, o, none⟩ 0 1 (by omega) [] (by simp) (by simp) (by simp) (by simp) (by simp)
  obtain ⟨u0, e2⟩ := Option.isSome_iff_exists.1 (ht 0 (by omega)).1
  obtain ⟨u1, e3⟩ := Option.isSome_iff_exists.1 (ht 1 (by omega)).1
  have f0 := (ht 0 (by omega)).2
  have f1 := (ht 1 (by omega)).2
  have f2 := h1.free 1
  have hp : p ∉ [g] := by simpa using hg.out
  have kz : Kp [g] W (zeroW W g o) := kp_zeroW (Kp.refl _ _) (by simp) o
  have he : n.l.eraseIdx 0 = [] := by
    match hn : n.l, hl with
    | [x], _ => rfl
  obtain ⟨e1', e2', hN, hW⟩ := h.stored (w0 := W) (w1 := zeroW W g o) (v' := .slice (some ⟨g, o, none⟩) 0 0) (n' := dropN n ((0 : Nat) : Int)) kW (by rw [dropN_nat]) (by rw [dropN_nat, he]; exact .inr ⟨g, o, 0, rfl, Nat.le_refl _, Nat.zero_le _, Nat.lt_of_lt_of_le hgl kz.size, fun j u hu => by simp [El.cs] at hu, fun j hj => by omega⟩) (by simpa [own, Value.ownBlock] using kz) (fun x hx => .inl (by simpa [own, Value.ownBlock] using hx))
  have hfin : ChgN p (.slice (some ⟨g, o, none⟩) n.l.length 1) (dropN n ((0 : Nat) : Int)) (.bool true) w (.returned (.bool true)) ((zeroW W g o).setCell ⟨p, 1, none⟩ (.slice (some ⟨g, o, none⟩) 0 0)) := ⟨_, rfl, hN, hW⟩
  clear hN hW e1' e2'
  rw [hl] at hfin c1 c1' ⊢
  unfold zeroW at hfin
  simp only [Nat.add_zero] at e2 f0
  have z1 : ((W.setCell ⟨g, o, none⟩ (.int .i64 0)).setCell ⟨g, o + 1, none⟩ (.string ⟨#[]⟩)).cell? ⟨p, 1, none⟩ = some (.slice (some ⟨g, o, none⟩) 1 1) := by
    rw [World.cell?_setCell_other _ _ _ _ (by intro h; simp only [Addr.mk.injEq] at h; exact hg.out h.1.symm), World.cell?_setCell_other _ _ _ _ (by intro h; simp only [Addr.mk.injEq] at h; exact hg.out h.1.symm)]
    exact c1'
  clear h h1 hc' ht
  have hw0 := hid hW0
  clear hW0
  rw [show ((0 : Nat) : Int) = 0 from rfl] at hc hfin hrun ⊢
  go_enter Try.func9, Try.ntmps9
  go_wp2_with fail
  refine hc.mono ?_
  rintro e w' ⟨rfl, rfl⟩
  go_wp2_with fail
  go_region_law (refine stepCpyRun (by rfl) _ _ _ _ (by rfl) _ _ _ (by rfl) (by rfl) hrun ?_)
  all_goals (go_wp2_with fail; go_returns; exact hfin)
theorem cDrop {w : World} {p : Nat} {v : Value} {n : Nt} (h : Net w p v n) (hb : n.l.length ≤ 6000000000000) (i : Int) : Calls Try.prog 9 #[.pointer (some ⟨p, 0, none⟩), .int .i64 i] w (ChgN p v (dropN n i) (.bool (atN n i).isSome) w) := by
  cases hm : atN n i with
  | none =>
    have hd : dropN n i = n := by
      unfold dropN
      split
      · rename_i h0
        have := atN_none hm
        rw [List.eraseIdx_of_length_le (by omega)]
      · rfl
    rw [hd]
    have hc := cHasN h i (atN_none hm)
    have hfin : ChgN p v n (.bool (none : Option Msg).isSome) w (.returned (.bool false)) w := ⟨v, rfl, h, Wrote.refl _ _ _⟩
    clear h hm hd
    go_enter Try.func9, Try.ntmps9
    go_wp2_with fail
    refine hc.mono ?_
    rintro e w' ⟨rfl, rfl⟩
    go_wp2_with fail
    go_returns
    exact hfin
  | some m =>
    obtain ⟨k, rfl, hk, hkl⟩ := atN_some hm
    obtain ⟨a, c, rfl, hsee, hn, hlc, hcm, hob⟩ := h.row.see
    cases a with
    | none => exact absurd (hn rfl).1 (by intro e; rw [e] at hkl; simp at hkl)
    | some ad =>
      obtain ⟨g, o, e⟩ : ∃ g o, ad = ⟨g, o, none⟩ := by
        rcases h.row with ⟨e, _⟩ | ⟨g, o, _, e, _⟩
        · cases e
        · cases e; exact ⟨g, o, rfl⟩
      subst e
      by_cases h2 : 2 ≤ c
      · exact cDropBig h hb k hkl h2
      · obtain rfl : c = 1 := by omega
        have hl : n.l.length = 1 := by omega
        obtain rfl : k = 0 := by omega
        exact cDropOne h hl
/-- What Take leaves: what At tells; the message is out. -/
def TakeP (p : Nat) (v : Value) (n : Nt) (i : Int) (w : World) (e : Ending) (w' : World) : Prop :=
  ∃ v', Net w' p v' (dropN n i) ∧ Wrote p v w v' w' ∧
    match atN n i with
    | none => e = .returned (.tuple #[.int .i64 0, .slice none 0 0, .bool false])
    | some m => ∃ a c, e = .returned (.tuple #[.int .i64 m.to, .slice a m.body.length c, .bool true]) ∧ Row w' (.slice a m.body.length c) m.body ∧ (∀ k ∈ blk a, w.heap.size ≤ k) ∧ ∀ k ∈ blk a, k ∉ p :: own v'
theorem cTake {w : World} {p : Nat} {v : Value} {n : Nt} (h : Net w p v n) (hB : Smalls n) (hb : n.l.length ≤ 6000000000000) (i : Int) : Calls Try.prog 8 #[.pointer (some ⟨p, 0, none⟩), .int .i64 i] w (TakeP p v n i w) := by
  have hc := cAt h hB hb i
  go_enter Try.func8, Try.ntmps8
  go_wp2_with fail
  refine hc.mono ?_
  intro e w1 he
  cases hm : atN n i with
  | none =>
    rw [hm] at he
    obtain ⟨rfl, k1⟩ := he
    have hd := cDrop (h.keptNew k1) hb i
    rw [hm] at hd
    go_wp2_with fail
    refine hd.mono ?_
    rintro e w2 ⟨v', rfl, hN, hW⟩
    have hfin : TakeP p v n i w (.returned (.tuple #[.int .i64 0, .slice none 0 0, .bool false])) w2 := ⟨v', hN, hW.pre k1, by rw [hm]⟩
    clear hN hW hm hd
    go_wp2_with fail
    go_returns
    exact hfin
  | some m =>
    rw [hm] at he
    obtain ⟨a, c, rfl, hr, k1, hnew⟩ := he
    have hd := cDrop (h.keptNew k1) hb i
    rw [hm] at hd
    have hlt := h.ltAll
    have hlr := hr.lt
    go_wp2_with fail
    refine hd.mono ?_
    rintro e w2 ⟨v', rfl, hN, hW⟩
    have hob : own (.slice a m.body.length c) = blk a := by obtain ⟨a', c', e, _, h'⟩ := hr.sees; cases e; exact h'
    have hfin : TakeP p v n i w (.returned (.tuple #[.int .i64 m.to, .slice a m.body.length c, .bool true])) w2 := by
      refine ⟨v', hN, hW.pre k1, ?_⟩
      rw [hm]
      refine ⟨a, c, rfl, hr.kept hW.kp (fun k hk hx => ?_), hnew, fun k hk hx => ?_⟩
      · have := hnew k (by rw [← hob]; exact hk); have := hlt k hx; omega
      · have h1 := hnew k hk
        have h2 := hlr k (by rw [hob]; exact hk)
        rcases List.mem_cons.1 hx with rfl | hx
        · have := hlt k (by simp); omega
        · rcases hW.new k hx with h3 | h3
          · have := hlt k (by simp [h3]); omega
          · omega
    clear hN hW hm hd hr
    go_wp2_with fail
    go_returns
    exact hfin
end Go.Proofs.Ytgegdlllmpinfaa

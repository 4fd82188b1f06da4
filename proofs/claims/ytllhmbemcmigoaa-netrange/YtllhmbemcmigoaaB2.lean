/- Drop, Take. A net's call Clone. How each law begins: a new net, and answers that the document fixes. Plain mathematics of the bytes: numbers in so many bytes, the highest first; the form of a Var. No Go text. More plain mathematics: a number and its bytes, back and forth; what a Var read comes to. Arguments opened: a slice of elements of whatever type, told by what it sees; how great it may be. What is neither dropped nor doubled, and always taken from the front, is taken in the order in which it was sent: the walk. Arguments opened: slices of slices of bytes, of bools. Arguments opened: a slice of a net's calls. -/
import Derived.Test.YtllhmbemcmigoaaB1
import Derived.Deep.RegionHeld3
import Derived.Laws.Cover3
import Derived.Below
import Derived.Test.YtllhmbemcmigoaaRows
import Derived.ProofKit
import Derived.OpenShut
import Derived.ShutString
import Derived.ChangeOld
import Derived.Deep.Slices
section
namespace Go.Proofs.Ytllhmbemcmigoaa
open Go.RowKit Go.Hay
set_option linter.unusedVariables false
set_option linter.unusedSimpArgs false

/-- Where the messages lie once those in front of k have moved up. -/
def upW (w : World) (g o : Nat) (l : List Msg) (k : Nat) : World := w.setCells g (o + 2) (MsgE.cs (l.take k))
def zeroW (w : World) (g o : Nat) : World := (w.setCell ⟨g, o, none⟩ (.int .i64 0)).setCell ⟨g, o + 1, none⟩ (.string ⟨#[]⟩)
theorem cell_zeroW (w : World) (g o j : Nat) (hj : o + 2 ≤ j) : (zeroW w g o).cell? ⟨g, j, none⟩ = w.cell? ⟨g, j, none⟩ := by
  unfold zeroW
  rw [World.cell?_setCell_other _ _ _ _ (off_ne (by omega)), World.cell?_setCell_other _ _ _ _ (off_ne (by omega))]
theorem frozen_zeroW (w : World) (g o : Nat) (x : Addr) : (zeroW w g o).frozen? x = w.frozen? x := by
  unfold zeroW
  rw [World.frozen?_setCell, World.frozen?_setCell]
theorem kp_zeroW {S : List Nat} {a w : World} (h : Kp S a w) {g : Nat} (hg : g ∈ S ∨ a.heap.size ≤ g) (o : Nat) : Kp S a (zeroW w g o) := (h.setCell (p := ⟨g, o, none⟩) hg _).setCell (p := ⟨g, o + 1, none⟩) hg _
theorem cs_erase (l : List Msg) (k j : Nat) (hk : k < l.length) : (MsgE.cs (l.eraseIdx k))[j]? = if j < k * 2 then (MsgE.cs l)[j]? else (MsgE.cs l)[j + 2]? := by
  have hl1 : (MsgE.cs (l.take k)).length = k * 2 := by rw [El.cs_length]; simp [MsgE]; omega
  rw [List.eraseIdx_eq_take_drop_succ, El.cs_append]
  by_cases hj : j < k * 2
  · rw [if_pos hj, List.getElem?_append_left (by omega), El.cs_take, List.getElem?_take, if_pos (by simpa [MsgE] using hj)]
  · rw [if_neg hj, List.getElem?_append_right (by omega), hl1, El.cs_drop, List.getElem?_drop]
    congr 1
    simp [MsgE]
    omega
section
variable {w : World} {g o cap : Nat} {l : List Msg} {k : Nat}
theorem up_run (hlc : l.length ≤ cap) (hc : ∀ j u, (MsgE.cs l)[j]? = some u → w.cell? ⟨g, o + j, none⟩ = some u) (ht : ∀ j, j < cap * 2 → (w.cell? ⟨g, o + j, none⟩).isSome = true ∧ w.frozen? ⟨g, o + j, none⟩ = false) (hk : k < l.length) :
    (Builtin.copy_ #[57, 57] 3 #[.slice (some ⟨g, o + 2, none⟩) (l.length - 1) (cap - 1), .slice (some ⟨g, o, none⟩) k cap]).run Try.prog w = .ok (.int .i64 (k : Int)) (upW w g o l k) := by
  obtain ⟨i0, hi, hz0, hz1, hz2⟩ := infoM
  have hl1 : (MsgE.cs (l.take k)).length = k * 2 := by rw [El.cs_length]; simp [MsgE]; omega
  refine run_copyG w _ _ _ 62 i0 Try.underlying57 hi g (o + 2) (l.length - 1) (cap - 1) ⟨g, o, none⟩ k cap (by omega) _ (by rw [hl1, hz1]) ?_ ?_ ?_ (El.cs_one _ _)
  · intro j u hu
    rw [El.cs_take, List.getElem?_take] at hu
    split at hu
    · rw [Addr.add_lit]; exact hc j u hu
    · cases hu
  · intro j hj; rw [Nat.add_assoc]; exact (ht (2 + j) (by omega)).1
  · intro j hj; rw [Nat.add_assoc]; exact (ht (2 + j) (by omega)).2
theorem up_row (hlc : l.length ≤ cap) (hcm : cap ≤ maxLen) (hg : g < w.heap.size) (hc : ∀ j u, (MsgE.cs l)[j]? = some u → w.cell? ⟨g, o + j, none⟩ = some u) (ht : ∀ j, j < cap * 2 → (w.cell? ⟨g, o + j, none⟩).isSome = true ∧ w.frozen? ⟨g, o + j, none⟩ = false) (hk : k < l.length) :
    RowM (zeroW (upW w g o l k) g o) (.slice (some ⟨g, o + 2, none⟩) (l.length - 1) (cap - 1)) (l.eraseIdx k) ∧ (∀ j, j < 2 → ((upW w g o l k).cell? ⟨g, o + j, none⟩).isSome = true) ∧ (∀ j, j < 2 → (upW w g o l k).frozen? ⟨g, o + j, none⟩ = false) := by
  have hl1 : (MsgE.cs (l.take k)).length = k * 2 := by rw [El.cs_length]; simp [MsgE]; omega
  have hsome : ∀ j, j < (MsgE.cs (l.take k)).length → (w.cell? ⟨g, o + 2 + j, none⟩).isSome = true := fun j hj => by rw [Nat.add_assoc]; exact (ht (2 + j) (by omega)).1
  have hin : ∀ j, j < k * 2 → (upW w g o l k).cell? ⟨g, o + 2 + j, none⟩ = (MsgE.cs l)[j]? := fun j hj => by
    have := World.cell?_setCells_in g (MsgE.cs (l.take k)) (o + 2) w hsome j (by omega)
    refine this.trans ?_
    rw [← List.getElem?_eq_getElem, El.cs_take, List.getElem?_take, if_pos (by simpa [MsgE] using hj)]
  have hout : ∀ x, (x < o + 2 ∨ o + 2 + k * 2 ≤ x) → (upW w g o l k).cell? ⟨g, x, none⟩ = w.cell? ⟨g, x, none⟩ := fun x hx => World.cell?_setCells_out g _ _ _ _ (fun _ _ => by rw [hl1]; exact hx)
  have hfr : ∀ x : Addr, (upW w g o l k).frozen? x = w.frozen? x := fun x => World.frozen?_setCells g _ _ _ _
  refine ⟨.inr ⟨g, o + 2, cap - 1, by rw [List.length_eraseIdx_of_lt hk], by rw [List.length_eraseIdx_of_lt hk]; omega, by omega, ?_, ?_, ?_⟩, fun j hj => ?_, fun j hj => ?_⟩
  · unfold zeroW upW; simp [World.setCell, size_setCells]; exact hg
  · intro j u hu
    rw [cell_zeroW _ _ _ _ (by omega)]
    rw [cs_erase l k j hk] at hu
    split at hu
    · rename_i h1; rw [hin j h1]; exact hu
    · rename_i h1; rw [hout _ (by omega), show o + 2 + j = o + (j + 2) by omega]; exact hc _ _ hu
  · intro j hj
    have hj' : 2 + j < cap * 2 := by have : MsgE.n = 2 := rfl; rw [this] at hj; omega
    rw [cell_zeroW _ _ _ _ (by omega), frozen_zeroW, hfr, Nat.add_assoc]
    refine ⟨?_, (ht (2 + j) hj').2⟩
    by_cases h1 : j < k * 2
    · rw [← Nat.add_assoc, hin j h1, List.getElem?_eq_getElem (by rw [El.cs_length]; have : MsgE.n = 2 := rfl; rw [this]; omega)]; rfl
    · rw [hout _ (by omega)]; exact (ht (2 + j) hj').1
  · rw [hout _ (by omega)]; exact (ht j (by omega)).1
  · rw [hfr]; exact (ht j (by omega)).2
end
theorem dropN_nat (n : Nt) (k : Nat) : dropN n k = { n with l := n.l.eraseIdx k } := by unfold dropN; rw [if_pos (by omega)]; rfl
set_option maxHeartbeats 1000000 in
theorem cDropBig {w : World} {p g o cap : Nat} {n : Nt} (h : Net w p (.slice (some ⟨g, o, none⟩) n.l.length cap) n) (hb : n.l.length ≤ 6000000000000) (k : Nat) (hk : k < n.l.length) (hcap : 2 ≤ cap) : Calls Try.prog 17 #[.pointer (some ⟨p, 0, none⟩), .int .i64 (k : Int)] w (ChgN p (.slice (some ⟨g, o, none⟩) n.l.length cap) (dropN n k) (.bool true) w) := by
  have hg : Hid (p ≠ g) := fun e => h.apart (by simp [own, Value.ownBlock, e])
  have big : ∀ W, Kp [] w W → ∃ w1, (Builtin.copy_ #[57, 57] 3 #[.slice (some ⟨g, o + 2, none⟩) (n.l.length - 1) (cap - 1), .slice (some ⟨g, o, none⟩) k cap]).run Try.prog W = .ok (.int .i64 (k : Int)) w1 ∧ w1.cell? ⟨p, 1, none⟩ = some (.slice (some ⟨g, o, none⟩) n.l.length cap) ∧
      (∃ u, w1.cell? ⟨g, o, none⟩ = some u) ∧ (∃ u, w1.cell? ⟨g, o + 1, none⟩ = some u) ∧ w1.frozen? ⟨g, o, none⟩ = false ∧ w1.frozen? ⟨g, o + 1, none⟩ = false ∧ w1.frozen? ⟨p, 1, none⟩ = false ∧
      ChgN p (.slice (some ⟨g, o, none⟩) n.l.length cap) (dropN n k) (.bool true) w (.returned (.bool true)) ((zeroW w1 g o).setCell ⟨p, 1, none⟩ (.slice (some ⟨g, o + 2, none⟩) (n.l.length - 1) (cap - 1))) := fun W kW => by
    have h1 := h.keptNew kW
    obtain ⟨e, _⟩ | ⟨g', o', cap', e, hlc, hcm, hgl, hc, ht⟩ := h1.row
    · cases e
    · cases e
      have hn2 : MsgE.n = 2 := rfl
      rw [hn2] at ht
      obtain ⟨hrow, hs, hf⟩ := up_row (k := k) hlc hcm hgl hc ht hk
      have ku : Kp [g] W (upW W g o n.l k) := (Kp.refl _ _).setCells (by simp) _ _
      have hp : p ∉ [g] := by simpa using hg.out
      have kz : Kp [g] W (zeroW (upW W g o n.l k) g o) := kp_zeroW ku (by simp) o
      obtain ⟨e1, e2, hN, hW⟩ := h.stored (w0 := W) (w1 := zeroW (upW W g o n.l k) g o) (n' := dropN n k) kW (by rw [dropN_nat]) (by rw [dropN_nat]; exact hrow) (by simpa [own, Value.ownBlock] using kz) (fun x hx => .inl (by simpa [own, Value.ownBlock] using hx))
      exact ⟨upW W g o n.l k, up_run hlc hc ht hk, (ku.cell (p := ⟨p, 1, none⟩) h1.lt hp).trans h1.c1, Option.isSome_iff_exists.1 (hs 0 (by omega)), Option.isSome_iff_exists.1 (hs 1 (by omega)), hf 0 (by omega), hf 1 (by omega), (ku.frozen (p := ⟨p, 1, none⟩) h1.lt hp).trans (h1.free 1), _, rfl, hN, hW⟩
  have hc := cHasY h k hk
  have c1 := h.c1
  obtain ⟨w1, hrun, e1, ⟨u0, e2⟩, ⟨u1, e3⟩, f0, f1, f2, hfin⟩ := big w.drew (Kp.refl _ _).drew
  unfold zeroW at hfin
  have hlc : n.l.length ≤ cap := by obtain ⟨_, _, e, _, _, hlc, _⟩ := h.row.see; cases e; exact hlc
  have x1 : (1 : Int) ≤ (n.l.length : Int) := by omega
  have x2 : ¬ cap = 1 := by omega
  have x3 : (k : Int) ≤ (cap : Int) := by omega
  have z1 : ((w1.setCell ⟨g, o, none⟩ (.int .i64 0)).setCell ⟨g, o + 1, none⟩ (.string ⟨#[]⟩)).cell? ⟨p, 1, none⟩ = some (.slice (some ⟨g, o, none⟩) n.l.length cap) := by
    rw [World.cell?_setCell_other _ _ _ _ (by intro h; simp only [Addr.mk.injEq] at h; exact hg.out h.1.symm), World.cell?_setCell_other _ _ _ _ (by intro h; simp only [Addr.mk.injEq] at h; exact hg.out h.1.symm)]
    exact e1
  clear big h
  go_enter Try.func17, Try.ntmps17
  go_wp2_with fail
  refine hc.mono ?_
  rintro e w' ⟨rfl, rfl⟩
  go_wp2_with fail
  go_region_law (refine stepCpyRun (by rfl) _ _ _ _ (by rfl) _ _ _ (by rfl) (by rfl) hrun ?_)
  all_goals (go_wp2_with fail; go_returns; exact hfin)
set_option maxHeartbeats 1000000 in
theorem cDropOne {w : World} {p g o : Nat} {n : Nt} (h : Net w p (.slice (some ⟨g, o, none⟩) n.l.length 1) n) (hl : n.l.length = 1) : Calls Try.prog 17 #[.pointer (some ⟨p, 0, none⟩), .int .i64 ((0 : Nat) : Int)] w (ChgN p (.slice (some ⟨g, o, none⟩) n.l.length 1) (dropN n ((0 : Nat) : Int)) (.bool true) w) := by
  have hg : Hid (p ≠ g) := fun e => h.apart (by simp [own, Value.ownBlock, e])
  have hc := cHasY h 0 (by omega)
  have c1 := h.c1
  obtain ⟨W, hW0⟩ : ∃ W, W = w.drew := ⟨_, rfl⟩
  have kW : Kp [] w W := by rw [hW0]; exact (Kp.refl _ _).drew
  have h1 := h.keptNew kW
  have c1' := h1.c1
  obtain ⟨e, _⟩ | ⟨g', o', cap', e, hlc, hcm, hgl, hc', ht⟩ := h1.row
  · cases e
  cases e
  have hn2 : MsgE.n = 2 := rfl
  rw [hn2] at ht
  obtain ⟨i0, hi, hz0, hz1, hz2⟩ := infoM
  have hrun : (Builtin.copy_ #[57, 57] 3 #[.slice (some ⟨g, o, none⟩) 0 0, .slice (some ⟨g, o, none⟩) 0 1]).run Try.prog w.drew = .ok (.int .i64 ((0 : Nat) : Int)) W := by
    rw [hW0]
    exact run_copyG w.drew _ _ _ 62 i0 Try.underlying57 hi g o 0 0 ⟨g, o, none⟩ 0 1 (by omega) [] (by simp) (by simp) (by simp) (by simp) (by simp)
  obtain ⟨u0, e2⟩ := Option.isSome_iff_exists.1 (ht 0 (by omega)).1
  obtain ⟨u1, e3⟩ := Option.isSome_iff_exists.1 (ht 1 (by omega)).1
  have f0 := (ht 0 (by omega)).2
  have f1 := (ht 1 (by omega)).2
  have f2 := h1.free 1
  have hp : p ∉ [g] := by simpa using hg.out
  have kz : Kp [g] W (zeroW W g o) := kp_zeroW (Kp.refl _ _) (by simp) o
  have he : n.l.eraseIdx 0 = [] := by
    match hn : n.l, hl with
    | [x], _ => rfl
  obtain ⟨e1', e2', hN, hW⟩ := h.stored (w0 := W) (w1 := zeroW W g o) (v' := .slice (some ⟨g, o, none⟩) 0 0) (n' := dropN n ((0 : Nat) : Int)) kW (by rw [dropN_nat]) (by rw [dropN_nat, he]; exact .inr ⟨g, o, 0, rfl, Nat.le_refl _, Nat.zero_le _, Nat.lt_of_lt_of_le hgl kz.size, fun j u hu => by simp [El.cs] at hu, fun j hj => by omega⟩) (by simpa [own, Value.ownBlock] using kz) (fun x hx => .inl (by simpa [own, Value.ownBlock] using hx))
  have hfin : ChgN p (.slice (some ⟨g, o, none⟩) n.l.length 1) (dropN n ((0 : Nat) : Int)) (.bool true) w (.returned (.bool true)) ((zeroW W g o).setCell ⟨p, 1, none⟩ (.slice (some ⟨g, o, none⟩) 0 0)) := ⟨_, rfl, hN, hW⟩
  clear hN hW e1' e2'
  rw [hl] at hfin c1 c1' ⊢
  unfold zeroW at hfin
  simp only [Nat.add_zero] at e2 f0
  have z1 : ((W.setCell ⟨g, o, none⟩ (.int .i64 0)).setCell ⟨g, o + 1, none⟩ (.string ⟨#[]⟩)).cell? ⟨p, 1, none⟩ = some (.slice (some ⟨g, o, none⟩) 1 1) := by
    rw [World.cell?_setCell_other _ _ _ _ (by intro h; simp only [Addr.mk.injEq] at h; exact hg.out h.1.symm), World.cell?_setCell_other _ _ _ _ (by intro h; simp only [Addr.mk.injEq] at h; exact hg.out h.1.symm)]
    exact c1'
  clear h h1 hc' ht
  have hw0 := hid hW0
  clear hW0
  rw [show ((0 : Nat) : Int) = 0 from rfl] at hc hfin hrun ⊢
  go_enter Try.func17, Try.ntmps17
  go_wp2_with fail
  refine hc.mono ?_
  rintro e w' ⟨rfl, rfl⟩
  go_wp2_with fail
  go_region_law (refine stepCpyRun (by rfl) _ _ _ _ (by rfl) _ _ _ (by rfl) (by rfl) hrun ?_)
  all_goals (go_wp2_with fail; go_returns; exact hfin)
theorem cDrop {w : World} {p : Nat} {v : Value} {n : Nt} (h : Net w p v n) (hb : n.l.length ≤ 6000000000000) (i : Int) : Calls Try.prog 17 #[.pointer (some ⟨p, 0, none⟩), .int .i64 i] w (ChgN p v (dropN n i) (.bool (atN n i).isSome) w) := by
  cases hm : atN n i with
  | none =>
    have hd : dropN n i = n := by
      unfold dropN
      split
      · rename_i h0
        have := atN_none hm
        rw [List.eraseIdx_of_length_le (by omega)]
      · rfl
    rw [hd]
    have hc := cHasN h i (atN_none hm)
    have hfin : ChgN p v n (.bool (none : Option Msg).isSome) w (.returned (.bool false)) w := ⟨v, rfl, h, Wrote.refl _ _ _⟩
    clear h hm hd
    go_enter Try.func17, Try.ntmps17
    go_wp2_with fail
    refine hc.mono ?_
    rintro e w' ⟨rfl, rfl⟩
    go_wp2_with fail
    go_returns
    exact hfin
  | some m =>
    obtain ⟨k, rfl, hk, hkl⟩ := atN_some hm
    obtain ⟨a, c, rfl, hsee, hn, hlc, hcm, hob⟩ := h.row.see
    cases a with
    | none => exact absurd (hn rfl).1 (by intro e; rw [e] at hkl; simp at hkl)
    | some ad =>
      obtain ⟨g, o, e⟩ : ∃ g o, ad = ⟨g, o, none⟩ := by
        rcases h.row with ⟨e, _⟩ | ⟨g, o, _, e, _⟩
        · cases e
        · cases e; exact ⟨g, o, rfl⟩
      subst e
      by_cases h2 : 2 ≤ c
      · exact cDropBig h hb k hkl h2
      · obtain rfl : c = 1 := by omega
        have hl : n.l.length = 1 := by omega
        obtain rfl : k = 0 := by omega
        exact cDropOne h hl
/-- What Take leaves: what At tells; the message is out. -/
def TakeP (p : Nat) (v : Value) (n : Nt) (i : Int) (w : World) (e : Ending) (w' : World) : Prop :=
  ∃ v', Net w' p v' (dropN n i) ∧ Wrote p v w v' w' ∧
    match atN n i with
    | none => e = .returned (.tuple #[.int .i64 0, .slice none 0 0, .bool false])
    | some m => ∃ a c, e = .returned (.tuple #[.int .i64 m.to, .slice a m.body.length c, .bool true]) ∧ Row w' (.slice a m.body.length c) m.body ∧ (∀ k ∈ blk a, w.heap.size ≤ k) ∧ ∀ k ∈ blk a, k ∉ p :: own v'
theorem cTake {w : World} {p : Nat} {v : Value} {n : Nt} (h : Net w p v n) (hB : Smalls n) (hb : n.l.length ≤ 6000000000000) (i : Int) : Calls Try.prog 14 #[.pointer (some ⟨p, 0, none⟩), .int .i64 i] w (TakeP p v n i w) := by
  have hc := cAt h hB hb i
  go_enter Try.func14, Try.ntmps14
  go_wp2_with fail
  refine hc.mono ?_
  intro e w1 he
  cases hm : atN n i with
  | none =>
    rw [hm] at he
    obtain ⟨rfl, k1⟩ := he
    have hd := cDrop (h.keptNew k1) hb i
    rw [hm] at hd
    go_wp2_with fail
    refine hd.mono ?_
    rintro e w2 ⟨v', rfl, hN, hW⟩
    have hfin : TakeP p v n i w (.returned (.tuple #[.int .i64 0, .slice none 0 0, .bool false])) w2 := ⟨v', hN, hW.pre k1, by rw [hm]⟩
    clear hN hW hm hd
    go_wp2_with fail
    go_returns
    exact hfin
  | some m =>
    rw [hm] at he
    obtain ⟨a, c, rfl, hr, k1, hnew⟩ := he
    have hd := cDrop (h.keptNew k1) hb i
    rw [hm] at hd
    have hlt := h.ltAll
    have hlr := hr.lt
    go_wp2_with fail
    refine hd.mono ?_
    rintro e w2 ⟨v', rfl, hN, hW⟩
    have hob : own (.slice a m.body.length c) = blk a := by obtain ⟨a', c', e, _, h'⟩ := hr.sees; cases e; exact h'
    have hfin : TakeP p v n i w (.returned (.tuple #[.int .i64 m.to, .slice a m.body.length c, .bool true])) w2 := by
      refine ⟨v', hN, hW.pre k1, ?_⟩
      rw [hm]
      refine ⟨a, c, rfl, hr.kept hW.kp (fun k hk hx => ?_), hnew, fun k hk hx => ?_⟩
      · have := hnew k (by rw [← hob]; exact hk); have := hlt k hx; omega
      · have h1 := hnew k hk
        have h2 := hlr k (by rw [hob]; exact hk)
        rcases List.mem_cons.1 hx with rfl | hx
        · have := hlt k (by simp); omega
        · rcases hW.new k hx with h3 | h3
          · have := hlt k (by simp [h3]); omega
          · omega
    clear hN hW hm hd hr
    go_wp2_with fail
    go_returns
    exact hfin
end Go.Proofs.Ytllhmbemcmigoaa
end

section
namespace Go.Proofs.Ytllhmbemcmigoaa
open Go.RowKit Go.Hay
set_option linter.unusedVariables false
set_option linter.unusedSimpArgs false

theorem cell_kp {W W' : World} {a : Addr} {v : Value} (hk : Kp [] W W') (hc : W.cell? a = some v) : W'.cell? a = some v := (hk.cell (World.block_lt_of_cell? _ _ hc) (by simp)).trans hc
theorem own_slice (a : Option Addr) (n c : Nat) : own (.slice a n c) = blk a := by cases a <;> rfl
theorem eqNilM (a : Option Addr) (n c : Nat) (w : World) : (binOp .eql 57 (.slice a n c) (.slice none 0 0)).run Try.prog w = .ok (.bool a.isNone) w := by
  simp only [binOp]
  simp [run_equal_slice_nil w 57 62 a n c Try.underlying57]
/-- A row of none, in a block of its own. -/
theorem rowNoneM (w : World) {q : Nat} (hq : w.heap.size = q) (C : Array Value) (t : TypeId) : RowM (w.alloc (.cells C t)) (.slice (some ⟨q, 0, none⟩) 0 0) [] := by
  subst hq
  exact .inr ⟨_, 0, 0, rfl, Nat.le_refl _, Nat.zero_le _, by simp, by intro j u hu; simp [El.cs] at hu, by intro j hj; omega⟩
/-- A copy of messages, all new. -/
def CloneM (l : List Msg) (w : World) (e : Ending) (w' : World) : Prop := ∃ a c, e = .returned (.slice a l.length c) ∧ RowM w' (.slice a l.length c) l ∧ Kp [] w w' ∧ ∀ k ∈ blk a, w.heap.size ≤ k
set_option maxHeartbeats 4000000 in
set_option maxRecDepth 100000 in
theorem cCloneM (a : Option Addr) (c : Nat) (l : List Msg) (w : World) (hs : RowM w (.slice a l.length c) l) (hb : l.length ≤ 6000000000000) :
    Calls Try.prog 20 #[.slice a l.length c] w (CloneM l w) := by
  cases a with
  | none =>
    have hl : l = [] ∧ c = 0 := by
      obtain ⟨_, _, e, _, h, _⟩ := hs.see
      cases e
      exact h rfl
    obtain ⟨rfl, rfl⟩ := hl
    have e1 := eqNilM none 0 0
    go_enter Try.func20, Try.ntmps20
    go_wp2_with fail
    go_ret
    exact ⟨none, 0, rfl, .inl ⟨rfl, rfl⟩, Kp.refl _ _, by simp [blk]⟩
  | some ad =>
    have e0 := eqNilM (some ad) l.length c
    go_enter Try.func20, Try.ntmps20
    have k1 : Kp [] w (w.alloc (.cells #[] 62)) := (Kp.refl _ _).alloc _
    have hr := rowNoneM w rfl #[] 62
    obtain ⟨_, _, ev, hsee, _, hlc, hcm, _⟩ := (hs.keptNew k1).see
    cases ev
    have hsr := hsee.src (P := Try.prog) Try.underlying57 c
    obtain ⟨i0, hi, hz0, hz1, hz2⟩ := infoM
    go_wp2_with (first | (refine wpAppG (E := MsgE) rfl _ _ 57 57 62 rfl i0 _ 24 Try.underlying57 hi hz0 hz1 hz2 rfl _ [] rfl hr _ l rfl hsr (by simp; omega) (by simp; omega) ?_; intro ys a' c' w' hy hrow hg hn) | fail)
    go_ret
    have e : ys = l := by rw [hy.out]; rfl
    subst e
    refine ⟨a', c', rfl, hrow, k1.trans hg (fun k hk => .inr ?_), fun k hk => ?_⟩
    · simp [own, Value.ownBlock, Act.eval] at hk; omega
    · rcases hn k hk with h1 | h1
      · simp [own, Value.ownBlock, Act.eval] at h1; omega
      · exact Nat.le_trans k1.size h1
/-- A clone: a net all new. -/
def NewN (n : Nt) (w : World) (e : Ending) (w' : World) : Prop := ∃ p v, e = .returned (.pointer (some ⟨p, 0, none⟩)) ∧ Net w' p v n ∧ Kp [] w w' ∧ ∀ k ∈ p :: own v, w.heap.size ≤ k
set_option maxHeartbeats 4000000 in
set_option maxRecDepth 100000 in
theorem cNClone {w : World} {p : Nat} {v : Value} {n : Nt} (h : Net w p v n) (hb : n.l.length ≤ 6000000000000) : Calls Try.prog 10 #[.pointer (some ⟨p, 0, none⟩)] w (NewN n w) := by
  obtain ⟨a, c, rfl, _⟩ := h.row.see
  have hd := h.keptNew (w' := w.drew) (Kp.refl _ _).drew
  have c0 := hd.c0
  have c1 := hd.c1
  have aC := cCloneM a c n.l w.drew hd.row hb
  have kd : Kp [] w w.drew := (Kp.refl _ _).drew
  have hS0 : w.drew.cell? ⟨p, 0, none⟩ = some (.int .i64 n.room) ∧ w.drew.cell? ⟨p, 1, none⟩ = some (.slice a n.l.length c) := ⟨c0, c1⟩
  go_enter Try.func10, Try.ntmps10
  go_wp2_with fail
  refine wp_region_held_drew (S := (fun A => A.cell? ⟨p, 0, none⟩ = some (.int .i64 n.room) ∧ A.cell? ⟨p, 1, none⟩ = some (.slice a n.l.length c))) (by kernel_rfl) ?_ (fun hHeld => ?_)
  · exact hS0
  generalize w.drew = wd at *
  refine wpAnyH_take (i := 0) (v := ?_) rfl (by kernel_rfl) (by kernel_rfl) (by kernel_rfl) (fun _ _ _ h => h) (Or.inl ⟨by rfl, ?_⟩) (by assumption) ?_
  rotate_left
  · intro w hSw; (try dsimp only at hSw); go_simp <;> with_reducible rfl
  try simp only [Act.put, List.getElem_toArray, List.getElem_cons_zero, List.getElem_cons_succ, List.setIfInBounds_toArray, List.set_cons_zero, List.set_cons_succ]
  refine wpAnyH_take (i := 1) (v := ?_) rfl (by kernel_rfl) (by kernel_rfl) (by kernel_rfl) (fun _ _ _ h => h) (Or.inl ⟨by rfl, ?_⟩) (by assumption) ?_
  rotate_left
  · intro w hSw; (try dsimp only at hSw); go_simp <;> with_reducible rfl
  try simp only [Act.put, List.getElem_toArray, List.getElem_cons_zero, List.getElem_cons_succ, List.setIfInBounds_toArray, List.set_cons_zero, List.set_cons_succ]
  refine wpAnyH_take (i := 2) (v := ?_) rfl (by kernel_rfl) (by kernel_rfl) (by kernel_rfl) (fun _ _ _ h => h) (Or.inl ⟨by rfl, ?_⟩) (by assumption) ?_
  rotate_left
  · intro w hSw; (try dsimp only at hSw); go_simp <;> with_reducible rfl
  try simp only [Act.put, List.getElem_toArray, List.getElem_cons_zero, List.getElem_cons_succ, List.setIfInBounds_toArray, List.set_cons_zero, List.set_cons_succ]
  refine wpAnyH_take (i := 3) (v := ?_) rfl (by kernel_rfl) (by kernel_rfl) (by kernel_rfl) (fun _ _ _ h => h) (Or.inl ⟨by rfl, ?_⟩) (by assumption) ?_
  rotate_left
  · intro w hSw; (try dsimp only at hSw); go_simp <;> with_reducible rfl
  try simp only [Act.put, List.getElem_toArray, List.getElem_cons_zero, List.getElem_cons_succ, List.setIfInBounds_toArray, List.set_cons_zero, List.set_cons_succ]
  refine wpAnyH_take (i := 4) (v := ?_) rfl (by kernel_rfl) (by kernel_rfl) (by kernel_rfl) (fun _ _ _ h => h) (Or.inl ⟨by rfl, ?_⟩) (by assumption) ?_
  rotate_left
  · intro w hSw; (try dsimp only at hSw); go_simp <;> with_reducible rfl
  try simp only [Act.put, List.getElem_toArray, List.getElem_cons_zero, List.getElem_cons_succ, List.setIfInBounds_toArray, List.set_cons_zero, List.set_cons_succ]
  refine wpAnyH_take (i := 5) (v := ?_) rfl (by kernel_rfl) (by kernel_rfl) (by kernel_rfl) (fun _ _ _ h => h) (Or.inl ⟨by rfl, ?_⟩) (by assumption) ?_
  rotate_left
  · intro w hSw; (try dsimp only at hSw); go_simp <;> with_reducible rfl
  try simp only [Act.put, List.getElem_toArray, List.getElem_cons_zero, List.getElem_cons_succ, List.setIfInBounds_toArray, List.set_cons_zero, List.set_cons_succ]
  refine wpAnyH_take (i := 6) (v := ?_) rfl (by kernel_rfl) (by kernel_rfl) (by kernel_rfl) (fun _ _ _ h => h) (Or.inl ⟨by rfl, ?_⟩) (by assumption) ?_
  rotate_left
  · intro w hSw; (try dsimp only at hSw); go_simp <;> with_reducible rfl
  try simp only [Act.put, List.getElem_toArray, List.getElem_cons_zero, List.getElem_cons_succ, List.setIfInBounds_toArray, List.set_cons_zero, List.set_cons_succ]
  refine wpAnyH_take (i := 7) (v := ?_) rfl (by kernel_rfl) (by kernel_rfl) (by kernel_rfl) (fun _ _ _ h => h) (Or.inl ⟨by rfl, ?_⟩) (by assumption) ?_
  rotate_left
  · intro w hSw; (try dsimp only at hSw); go_simp <;> with_reducible rfl
  try simp only [Act.put, List.getElem_toArray, List.getElem_cons_zero, List.getElem_cons_succ, List.setIfInBounds_toArray, List.set_cons_zero, List.set_cons_succ]
  refine wpAnyH_ready (rs := [8]) (by kernel_rfl) (by simp) ?_
  refine AllReadyH.cons rfl (fun K hK => ?_) AllReadyH.nil
  go_simp
  refine aC.mono ?_
  rintro e x1 ⟨a2, c2, rfl, hrow, kx1, hn1⟩
  (try go_wp2_with fail)
  refine hK.out _ _ ?_ (fun hHeld => ?_)
  · exact ⟨cell_kp kx1 hHeld.1, cell_kp kx1 hHeld.2⟩
  clear hK K
  try simp only [Act.put, List.getElem_toArray, List.getElem_cons_zero, List.getElem_cons_succ, List.setIfInBounds_toArray, List.set_cons_zero, List.set_cons_succ]
  refine wpAnyH_take (i := 9) (v := ?_) rfl (by kernel_rfl) (by kernel_rfl) (by kernel_rfl) (fun _ _ _ h => h) (Or.inl ⟨by rfl, ?_⟩) (by assumption) ?_
  rotate_left
  · intro w hSw; (try dsimp only at hSw); go_simp <;> with_reducible rfl
  try simp only [Act.put, List.getElem_toArray, List.getElem_cons_zero, List.getElem_cons_succ, List.setIfInBounds_toArray, List.set_cons_zero, List.set_cons_succ]
  refine wpAnyH_ready (rs := [10]) (by kernel_rfl) (by simp) ?_
  refine AllReadyH.cons rfl (fun K hK => ?_) AllReadyH.nil
  go_simp
  obtain ⟨x2, hx2⟩ : ∃ x2, x1.alloc (.cells #[.int .i64 n.room, .slice a2 n.l.length c2] 59) = x2 := ⟨_, rfl⟩
  rw [hx2]
  have kx2 : Kp [] x1 x2 := by rw [← hx2]; exact (Kp.refl _ _).alloc _
  have hN : Net x2 x1.heap.size (.slice a2 n.l.length c2) n := by
    rw [← hx2]
    exact ⟨World.cell?_alloc_new x1 _ _ 0, World.cell?_alloc_new x1 _ _ 1, fun j => World.frozen?_alloc_new x1 _ _ j, hrow.keptNew ((Kp.refl _ _).alloc _), fun hm => by have := hrow.lt _ hm; omega⟩
  (try go_wp2_with fail)
  refine hK.out _ _ ?_ (fun hHeld => ?_)
  · exact ⟨cell_kp kx2 hHeld.1, cell_kp kx2 hHeld.2⟩
  clear hK K
  try simp only [Act.put, List.getElem_toArray, List.getElem_cons_zero, List.getElem_cons_succ, List.setIfInBounds_toArray, List.set_cons_zero, List.set_cons_succ]
  refine wpAnyH_take (i := 11) (v := ?_) rfl (by kernel_rfl) (by kernel_rfl) (by kernel_rfl) (fun _ _ _ h => h) (Or.inl ⟨by rfl, ?_⟩) (by assumption) ?_
  rotate_left
  · intro w hSw; (try dsimp only at hSw); go_simp <;> with_reducible rfl
  try simp only [Act.put, List.getElem_toArray, List.getElem_cons_zero, List.getElem_cons_succ, List.setIfInBounds_toArray, List.set_cons_zero, List.set_cons_succ]
  refine wpAnyH_done (by kernel_rfl) ?_ _
  go_wp2_with fail
  go_ret
  have kN : Kp [] w x2 := (kd.trans kx1 (by simp)).trans kx2 (by simp)
  have z1 := kd.size
  have z2 := kx1.size
  have hnew : ∀ k ∈ x1.heap.size :: own (.slice a2 n.l.length c2), w.heap.size ≤ k := fun k hk => by
    rcases List.mem_cons.1 hk with rfl | hk
    · omega
    · rw [own_slice] at hk; have := hn1 k hk; omega
  exact ⟨_, _, rfl, hN, kN, hnew⟩
end Go.Proofs.Ytllhmbemcmigoaa
end

section
namespace Go.Proofs.Ytllhmbemcmigoaa
open Go.RowKit Go.Hay
set_option linter.unusedVariables false
set_option linter.unusedSimpArgs false

theorem nt1 : putN ⟨2, []⟩ ⟨3, [7]⟩ = (⟨2, [⟨3, [7]⟩]⟩, 0) := by rfl
theorem nt2 : dblN ⟨2, [⟨3, [7]⟩]⟩ 0 = (⟨2, [⟨3, [7]⟩, ⟨3, [7]⟩]⟩, 0) := by rfl
theorem nt3 : putN ⟨2, [⟨3, [7]⟩, ⟨3, [7]⟩]⟩ ⟨3, []⟩ = (⟨2, [⟨3, [7]⟩, ⟨3, [7]⟩]⟩, 50) := by rfl
theorem nt4 : dropN ⟨2, [⟨3, [7]⟩, ⟨3, [7]⟩]⟩ 1 = ⟨2, [⟨3, [7]⟩]⟩ := by rfl
theorem nt5 : atN ⟨2, [⟨3, [7]⟩, ⟨3, [7]⟩]⟩ 1 = some ⟨3, [7]⟩ := by rfl
theorem sees_new (w : World) {q : Nat} (hq : w.heap.size = q) (C : Array Value) (t : TypeId) (bs : List UInt8) (h : C.toList = bcells bs) : Sees (w.alloc (.cells C t)) (some ⟨q, 0, none⟩) bs := by subst hq; exact Sees.new w C t (0, 0) bs h
def BegN (room : Int) (w : World) (e : Ending) (w' : World) : Prop := ∃ p, e = .returned (.tuple #[.pointer (some ⟨p, 0, none⟩), .bool true]) ∧ Net w' p (.slice none 0 0) ⟨room, []⟩ ∧ Kp [] w w' ∧ w.heap.size ≤ p
set_option maxHeartbeats 4000000 in
theorem cBegun (room : Int) (w : World) : Calls Try.prog 7 #[.int .i64 room] w (BegN room w) := by
  go_enter Try.func7, Try.ntmps7
  go_wp2_with fail
  refine (cNew 2 w).mono ?_
  rintro e w1 ⟨rfl, hN1, k1⟩
  obtain ⟨p, hp⟩ : ∃ p, p = w.heap.size := ⟨_, rfl⟩
  rw [← hp] at hN1 ⊢
  have hp0 : w.heap.size ≤ p := by omega
  have hpp := hid hp
  clear hp
  obtain ⟨w2, hw2⟩ : ∃ w2, w1.alloc (.cells #[.int .u8 7] 5) = w2 := ⟨_, rfl⟩
  have k2 : Kp [] w1 w2 := by rw [← hw2]; exact (Kp.refl _ _).alloc _
  have s2 : Sees w2 (some ⟨w1.heap.size, 0, none⟩) [7] := by rw [← hw2]; exact sees_new w1 rfl _ _ _ rfl
  have a1 := cSend (hN1.keptNew k2) (by simp) 3 _ 1 [7] s2
  rw [nt1] at a1
  simp only [List.length_cons, List.length_nil, Nat.reduceAdd] at a1
  go_wp2_with fail
  refine a1.mono ?_
  rintro e w3 ⟨v3, rfl, hN3, hW3⟩
  obtain ⟨q3, o3⟩ := stepW (k1.trans k2 (by simp)) hp0 (by simp [own, Value.ownBlock]) hW3
  have a2 := cDouble hN3 (by simp) 0
  rw [nt2] at a2
  go_wp2_with fail
  refine a2.mono ?_
  rintro e w4 ⟨v4, rfl, hN4, hW4⟩
  obtain ⟨q4, o4⟩ := stepW q3 hp0 o3 hW4
  have a3 := cSend hN4 (by simp) 3 none 0 [] (Sees.nil _ _)
  rw [nt3] at a3
  simp only [List.length_nil] at a3
  go_wp2_with fail
  refine a3.mono ?_
  rintro e w5 ⟨v5, rfl, hN5, hW5⟩
  obtain ⟨q5, o5⟩ := stepW q4 hp0 o4 hW5
  have a4 := cTake hN5 (by intro m hm; simp at hm; rcases hm with rfl | rfl <;> simp) (by simp) 1
  go_wp2_with fail
  refine a4.mono ?_
  rintro e w6 ⟨v6, hN6, hW6, he⟩
  rw [nt5] at he
  rw [nt4] at hN6
  obtain ⟨a, c, rfl, hr6, hn6, _⟩ := he
  simp only [List.length_cons, List.length_nil, Nat.reduceAdd] at hr6 ⊢
  obtain ⟨q6, o6⟩ := stepW q5 hp0 o5 hW6
  have a5 := cNew room w6
  go_wp2_with fail
  refine a5.mono ?_
  rintro e w7 ⟨rfl, hN7, k7⟩
  have a6 := cLen (hN6.keptNew k7)
  obtain ⟨a', c', er, hs, _⟩ := (hr6.kept k7 (by simp)).sees
  cases er
  obtain ⟨g, o, rfl, hc⟩ : ∃ g o, a = some ⟨g, o, none⟩ ∧ w7.cell? ⟨g, o, none⟩ = some (.int .u8 7) := by
    rcases hs with h | ⟨g, o, e, hc⟩
    · cases h
    · exact ⟨g, o, e, hc 0 7 rfl⟩
  have hfin : BegN room w (.returned (.tuple #[.pointer (some ⟨w6.heap.size, 0, none⟩), .bool true])) w7 := ⟨_, rfl, hN7, q6.trans k7 (by simp), q6.size⟩
  clear hs hr6 hn6
  go_wp2_with fail
  refine a6.mono ?_
  rintro e w8 ⟨rfl, rfl⟩
  go_wp2_with fail
  go_returns
  exact hfin
end Go.Proofs.Ytllhmbemcmigoaa
end

section
namespace Go.Hay

/-- n in k bytes, the highest first. -/
def be (n : Nat) : Nat → List UInt8
  | 0 => []
  | k + 1 => UInt8.ofNat (n / 256 ^ k % 256) :: be n k
theorem be_length (n k : Nat) : (be n k).length = k := by
  induction k with
  | zero => rfl
  | succ k ih => simp [be, ih]
/-- The first byte of n's Var. -/
def leadI (n : Int) : Int := if n < 253 then n else if n < 65536 then 253 else if n < 4294967296 then 254 else 255
/-- How many bytes a Var has behind its first one. -/
def behindI (f : Int) : Int := if f = 253 then 2 else if f = 254 then 4 else if f = 255 then 8 else 0
theorem leadI_bd (n : Int) (h : 0 ≤ n) : 0 ≤ leadI n ∧ leadI n ≤ 255 := by unfold leadI; repeat (first | split | omega)
theorem behindI_bd (n : Int) : 0 ≤ behindI n ∧ behindI n ≤ 8 := by unfold behindI; repeat (first | split | omega)
/-- The number that bytes say, the highest first. -/
def num (bs : List UInt8) : Nat := bs.foldl (fun n x => n * 256 + x.toNat) 0
theorem num_snoc (bs : List UInt8) (x : UInt8) : num (bs ++ [x]) = num bs * 256 + x.toNat := by simp [num]
theorem num_lt (bs : List UInt8) : num bs < 256 ^ bs.length := by
  suffices ∀ (l : List UInt8), num l.reverse < 256 ^ l.length by simpa using this bs.reverse
  intro l
  induction l with
  | nil => simp [num]
  | cons x l ih =>
    rw [List.reverse_cons, num_snoc, List.length_cons, Nat.pow_succ]
    have := x.toNat_lt
    omega
/-- A byte, of a number. -/
def octet (n : Int) : UInt8 := UInt8.ofNat n.toNat
theorem octet_toNat (n : Int) (h0 : 0 ≤ n) (h1 : n ≤ 255) : ((octet n).toNat : Int) = n := by
  unfold octet
  rw [UInt8.toNat_ofNat']
  omega
/-- A number's Var. -/
def varB (n : Int) : List UInt8 := octet (leadI n) :: be n.toNat (behindI (leadI n)).toNat
theorem varB_length (n : Int) : (varB n).length ≤ 9 ∧ 1 ≤ (varB n).length := by
  have := behindI_bd (leadI n)
  simp only [varB, List.length_cons, be_length]
  omega
/-- What bytes begin with, read as a Var: the number, in how many bytes, what is amiss. -/
def fv (bs : List UInt8) : Int × Int × Int :=
  match bs with
  | [] => (0, 0, 10)
  | f :: r =>
    if behindI f.toNat = 0 then (f.toNat, 1, 0)
    else if (r.length : Int) < behindI f.toNat then (0, 0, 10)
    else if leadI (num (r.take (behindI f.toNat).toNat)) ≠ f.toNat then (0, 0, 11)
    else (num (r.take (behindI f.toNat).toNat), 1 + behindI f.toNat, 0)
theorem fv_bd (bs : List UInt8) : 0 ≤ (fv bs).1 ∧ (fv bs).1 < 18446744073709551616 ∧ 0 ≤ (fv bs).2.1 ∧ (fv bs).2.1 ≤ 9 ∧ (fv bs).2.1 ≤ bs.length := by
  cases bs with
  | nil => simp [fv]
  | cons f r =>
    have hf := f.toNat_lt
    have hb := behindI_bd f.toNat
    simp only [fv]
    have h64 : ∀ k : Nat, k ≤ 8 → num (r.take k) < 18446744073709551616 := fun k hk => by
      have h1 := num_lt (r.take k)
      have h2 : (r.take k).length ≤ 8 := by simp; omega
      have h3 : 256 ^ (r.take k).length ≤ 256 ^ 8 := Nat.pow_le_pow_right (by omega) h2
      omega
    have h64' := h64 (behindI f.toNat).toNat (by omega)
    generalize num (r.take (behindI f.toNat).toNat) = m at *
    simp only [List.length_cons]
    split
    · simp; omega
    · split
      · simp; omega
      · split
        · simp; omega
        · simp; omega
/-- A reader that takes n bytes: what it gives, what is left, what was amiss. -/
def takeS (n : Nat) (bs : List UInt8) (e : Int) : List UInt8 × List UInt8 × Int :=
  if e ≠ 0 then ([], bs, e) else if bs.length < n then ([], bs, 10) else (bs.take n, bs.drop n, 0)
/-- A reader that reads a Var. -/
def varS (most : Int) (bs : List UInt8) (e : Int) : Int × List UInt8 × Int :=
  if e ≠ 0 then (0, bs, e) else if (fv bs).2.2 ≠ 0 then (0, bs, (fv bs).2.2) else if most < (fv bs).1 then (0, bs, 12) else ((fv bs).1, bs.drop (fv bs).2.1.toNat, 0)
/-- .. raw bytes. -/
def rawS (n : Int) (bs : List UInt8) (e : Int) : List UInt8 × List UInt8 × Int :=
  if n < 0 then ([], bs, if e = 0 then 12 else e) else takeS n.toNat bs e
/-- .. a count. -/
def countS (most : Int) (bs : List UInt8) (e : Int) : Int × List UInt8 × Int :=
  if 0 ≤ most then varS most bs e else (0, bs, if (varS 18446744073709551615 bs e).2.2 = 0 then 12 else (varS 18446744073709551615 bs e).2.2)
/-- .. a text. -/
def textS (most : Int) (bs : List UInt8) (e : Int) : List UInt8 × List UInt8 × Int :=
  if (rawS (countS most bs e).1 (countS most bs e).2.1 (countS most bs e).2.2).2.2 ≠ 0 then ((rawS (countS most bs e).1 (countS most bs e).2.1 (countS most bs e).2.2).1, bs, (rawS (countS most bs e).1 (countS most bs e).2.1 (countS most bs e).2.2).2.2)
  else rawS (countS most bs e).1 (countS most bs e).2.1 (countS most bs e).2.2
/-- A text. -/
def textB (b : List UInt8) : List UInt8 := varB b.length ++ b
end Go.Hay
end

section
namespace Go.Hay
set_option linter.unusedVariables false

theorem be_snoc (n k : Nat) : be n (k + 1) = be (n / 256) k ++ [UInt8.ofNat (n % 256)] := by
  induction k with
  | zero => simp [be]
  | succ k ih =>
    rw [be, ih, be, List.cons_append]
    congr 2
    rw [Nat.div_div_eq_div_mul, Nat.pow_succ, Nat.mul_comm]
theorem be_num_rev (l : List UInt8) : be (num l.reverse) l.length = l.reverse := by
  induction l with
  | nil => simp [be]
  | cons x l ih =>
    have hx := x.toNat_lt
    rw [List.reverse_cons, num_snoc, List.length_cons, be_snoc, show (num l.reverse * 256 + x.toNat) / 256 = num l.reverse by omega, ih, show (num l.reverse * 256 + x.toNat) % 256 = x.toNat by omega, UInt8.ofNat_toNat]
theorem be_num (xs : List UInt8) : be (num xs) xs.length = xs := by simpa using be_num_rev xs.reverse
theorem num_be (n k : Nat) : num (be n k) = n % 256 ^ k := by
  induction k generalizing n with
  | zero => simp [be, num, Nat.mod_one]
  | succ k ih =>
    rw [be_snoc, num_snoc, ih, UInt8.toNat_ofNat', show 256 ^ (k + 1) = 256 * 256 ^ k by rw [Nat.pow_succ, Nat.mul_comm], Nat.mod_mul]
    omega
theorem octet_nat (x : UInt8) : octet x.toNat = x := by simp [octet]

/-- What is read as a number is written as the same bytes. -/
theorem fv_back (bs : List UInt8) (h : (fv bs).2.2 = 0) : varB (fv bs).1 = bs.take (fv bs).2.1.toNat ∧ 1 ≤ (fv bs).2.1 := by
  cases bs with
  | nil => simp [fv] at h
  | cons f r =>
    have hf := f.toNat_lt
    have hb := behindI_bd f.toNat
    simp only [fv] at h ⊢
    split
    · rename_i h0
      have hl : leadI f.toNat = f.toNat := by
        unfold behindI at h0
        unfold leadI
        repeat (first | split at h0 | (split <;> omega) | omega)
      simp only [varB, hl, h0, octet_nat]
      simp [be]
    · rename_i h0
      rw [if_neg h0] at h
      by_cases h1 : (r.length : Int) < behindI f.toNat
      · rw [if_pos h1] at h; simp at h
      rw [if_neg h1] at h ⊢
      by_cases h2 : leadI (num (r.take (behindI f.toNat).toNat)) ≠ f.toNat
      · rw [if_pos h2] at h; simp at h
      rw [if_neg h2]
      have h3 : leadI (num (r.take (behindI f.toNat).toNat)) = f.toNat := Decidable.not_not.1 h2
      obtain ⟨k, hk⟩ : ∃ k : Nat, behindI f.toNat = k := ⟨(behindI f.toNat).toNat, by omega⟩
      rw [hk, Int.toNat_natCast] at h3
      have hlen : (r.take k).length = k := by simp; omega
      refine ⟨?_, by show 1 ≤ 1 + behindI f.toNat; omega⟩
      show varB (num (r.take (behindI f.toNat).toNat)) = List.take (1 + behindI f.toNat).toNat (f :: r)
      rw [hk, Int.toNat_natCast]
      simp only [varB]
      rw [h3, hk, Int.toNat_natCast, Int.toNat_natCast, octet_nat]
      have e := be_num (r.take k)
      rw [hlen] at e
      rw [e, show (1 + (k : Int)).toNat = k + 1 by omega, List.take_succ_cons]

/-- Of a Var that was read: in words that the law uses. -/
theorem varS_cases (most : Int) (bs : List UInt8) {n : Int} {bs' : List UInt8} {e' : Int} (h0 : 0 ≤ most) (h : varS most bs 0 = (n, bs', e')) :
    0 ≤ n ∧ n < 18446744073709551616 ∧ bs'.length ≤ bs.length ∧ (e' ≠ 0 → n = 0 ∧ bs' = bs) ∧ (e' = 0 → n ≤ most ∧ varB n = bs.take (bs.length - bs'.length)) := by
  have hbd := fv_bd bs
  have hbk := fv_back bs
  unfold varS at h
  rw [if_neg (by simp)] at h
  split at h
  · rename_i h1
    cases h
    exact ⟨by omega, by omega, Nat.le_refl _, fun _ => ⟨rfl, rfl⟩, fun h => absurd h h1⟩
  · rename_i h1
    have h1' : (fv bs).2.2 = 0 := Decidable.not_not.1 h1
    have hbk := hbk h1'
    split at h
    · cases h
      exact ⟨by omega, by omega, Nat.le_refl _, fun _ => ⟨rfl, rfl⟩, fun h => by simp at h⟩
    · cases h
      refine ⟨by omega, by omega, by simp, fun h => absurd rfl h, fun _ => ⟨by omega, ?_⟩⟩
      rw [hbk.1]
      congr 1
      rw [List.length_drop]
      omega
end Go.Hay
end

section
namespace Go.Proofs.Ytllhmbemcmigoaa
open Go.ChangeShapes Go.WideShapes Go.ChangeAt Go.RowKit Go.Hay
set_option linter.unusedVariables false

theorem Try.own : ownKnob Try.prog.godebug = none := by kernel_rfl
theorem Try.laidOut : laidOutB Try.prog = true := by kernel_rfl

/-- How many values a slice's datum holds, its spare places too. -/
def capD {H : Type} : DataW H → Nat
  | .slice e sp => e.length + sp.length
  | _ => 0
theorem bulk_pos {H : Type} (d : DataW H) : 1 ≤ Rows.uptoBulk d := by
  cases d with
  | lit l => cases l <;> simp [Rows.uptoBulk]
  | _ => simp [Rows.uptoBulk]
theorem bulkAll_ge {H : Type} (l : List (DataW H)) : l.length ≤ Rows.uptoBulkAll l := by
  induction l with
  | nil => simp
  | cons d l ih => have := bulk_pos d; simp only [Rows.uptoBulkAll, List.length_cons]; omega
theorem bulk_cap {H : Type} (d : DataW H) : capD d + 1 ≤ Rows.uptoBulk d := by
  cases d with
  | slice e sp => have := bulkAll_ge e; have := bulkAll_ge sp; simp only [capD, Rows.uptoBulk]; omega
  | lit l => cases l <;> simp [capD, Rows.uptoBulk]
  | _ => simp [capD, Rows.uptoBulk]
theorem bulkAll_map {H : Type} (n : Nat) (D : Nat → DataW H) (f : Nat → Nat) (h : ∀ i, i < n → f i ≤ Rows.uptoBulk (D i)) : ((List.range n).map f).sum ≤ Rows.uptoBulkAll ((List.range n).map D) := by
  have gen : ∀ l : List Nat, (∀ i ∈ l, f i ≤ Rows.uptoBulk (D i)) → (l.map f).sum ≤ Rows.uptoBulkAll (l.map D) := by
    intro l
    induction l with
    | nil => intro _; simp
    | cons i l ih =>
      intro hl
      have h1 := hl i (by simp)
      have h2 := ih (fun j hj => hl j (by simp [hj]))
      simp only [List.map_cons, List.sum_cons, Rows.uptoBulkAll]
      omega
  exact gen _ (fun i hi => h i (List.mem_range.1 hi))
theorem mem_weightsAll {H : Type} {P : Program} {e : TypeId} {l : List (DataW H)} {d : DataW H} (hd : d ∈ l) {x : Nat} (hx : x ∈ d.weights P e) : x ∈ DataW.weightsAll P e l := by
  induction l with
  | nil => cases hd
  | cons y l ih =>
    rw [DataW.weightsAll, List.mem_append]
    rcases List.mem_cons.1 hd with rfl | h
    · exact .inl hx
    · exact .inr (ih h)
/-- Within the form's reach. -/
def Fit {H : Type} (t : TypeId) (d : DataW H) : Prop := (DataW.weights Try.prog t d).all (· ≤ reachBytes) = true

theorem openEls {α : Type} [Inhabited α] (E : El α) {t e : TypeId} (ht : Try.prog.underlying t = some (.slice e)) (hcells : Try.prog.cellsOf e = E.n) (B : Nat) (hB : Try.prog.bytesOf e = B)
    {H : Type} {enc : TypeId × Value → H} {W : World} (ok : α → Prop) (Q : α → Prop) (bk : α → Nat)
    (op : ∀ fuel cs x, DataW.trod enc Try.prog W 0 (fun _ => true) true fuel e cs = some x → cs.length = E.n → ∃ y : α, ok y ∧ cs = E.c y ∧ (Fit e x.1 → Q y) ∧ bk y ≤ Rows.uptoBulk x.1)
    {a : Option Addr} {len cap : Nat} {d : DataW H} {ps : List MemPlace} (h : DataW.Trod enc Try.prog W 0 (fun _ => true) true t (.slice a len cap) d ps) :
    ∃ l : List α, len = l.length ∧ E.See W a l ∧ (∀ y ∈ l, ok y) ∧ l.length ≤ cap ∧ cap ≤ maxLen ∧ (a = none → cap = 0) ∧ (Fit t d → cap * B ≤ 140737488351232 ∧ ∀ y ∈ l, Q y) ∧ (l.map bk).sum ≤ Rows.uptoBulk d ∧ cap + 1 ≤ Rows.uptoBulk d := by
  obtain ⟨fuel, hf⟩ := h
  rcases Go.Deep.open_slice ht hf with ⟨hcs, hx⟩ | ⟨x, len', cap', m, n, D, Pl, hcs, _, hl, hmx, hm, hx, hcell⟩
  · simp [Value.cells] at hcs
    obtain ⟨rfl, rfl, rfl⟩ := hcs
    cases hx
    exact ⟨[], rfl, .inl rfl, by simp, Nat.le_refl _, Nat.zero_le _, fun _ => rfl, fun _ => ⟨by omega, by simp⟩, by simp, by simp [Rows.uptoBulk]⟩
  · simp [Value.cells] at hcs
    obtain ⟨rfl, rfl, rfl⟩ := hcs
    cases hx
    have hm' : m = cap := by simpa using hm
    subst hm'
    rw [hcells] at hcell
    obtain ⟨Y, hY⟩ := Go.Deep.choose_lt (α := α) (n := len) (p := fun i y => ok y ∧ (∀ k u, (E.c y)[k]? = some u → W.cell? ((x.add (i * E.n)).add k) = some u) ∧ (Fit e (D i) → Q y) ∧ bk y ≤ Rows.uptoBulk (D i)) (fun i hi => by
      obtain ⟨cs', h1, h2⟩ := hcell i (by omega)
      obtain ⟨_, hlen, hc⟩ := World.cells?_some h1
      obtain ⟨y, g1, rfl, g2, g3⟩ := op _ _ _ h2 hlen
      refine ⟨y, g1, fun k u hu => ?_, g2, g3⟩
      have hk : k < E.n := by have := (List.getElem?_eq_some_iff.1 hu).1; rwa [E.len] at this
      exact (hc k hk).trans hu)
    refine ⟨(List.range len).map Y, by simp, ?_, ?_, by simpa using hl, hmx, fun h => (by cases h), fun hfit => ?_, ?_, ?_⟩
    · cases hlen : len with
      | zero => exact .inl rfl
      | succ k =>
        obtain ⟨b, off, spot⟩ := x
        have h0 : 0 < (E.c (Y 0)).length := by rw [E.len]; exact E.pos
        have hc0 := (hY 0 (by omega)).2.1 0 _ (List.getElem?_eq_getElem h0)
        have hspot : spot = none := by
          have := World.cell?_spot hc0
          simpa [Addr.add] using this
        subst hspot
        refine .inr ⟨b, off, rfl, fun j u hu => ?_⟩
        rw [← hlen] at hu
        have hj : j < ((List.range len).map Y).length * E.n := by have := (List.getElem?_eq_some_iff.1 hu).1; rwa [El.cs_length] at this
        have hpos := E.pos
        have hq : j / E.n < len := by
          rw [List.length_map, List.length_range] at hj
          exact Nat.div_lt_of_lt_mul (by rw [Nat.mul_comm]; exact hj)
        have hr : j % E.n < E.n := Nat.mod_lt _ hpos
        have hje : j = j / E.n * E.n + j % E.n := by rw [Nat.mul_comm]; exact (Nat.div_add_mod j E.n).symm
        have hget : ((List.range len).map Y)[j / E.n]? = some (Y (j / E.n)) := by rw [List.getElem?_map, List.getElem?_range hq]; rfl
        rw [hje, El.cs_get E hget hr] at hu
        have hcc := (hY _ hq).2.1 _ _ hu
        rw [Addr.add_lit, Addr.add_lit, Nat.add_assoc, ← hje] at hcc
        exact hcc
    · intro y hy
      obtain ⟨i, hi, rfl⟩ := List.mem_map.1 hy
      exact (hY i (List.mem_range.1 hi)).1
    · unfold Fit at hfit
      simp only [DataW.weights, ht] at hfit
      rw [List.all_cons, Bool.and_eq_true] at hfit
      refine ⟨?_, fun y hy => ?_⟩
      · have := of_decide_eq_true hfit.1
        simp only [List.length_map, List.length_range, hB, reachBytes] at this
        rwa [show len + (m - len) = m by omega] at this
      · obtain ⟨i, hi, rfl⟩ := List.mem_map.1 hy
        refine (hY i (List.mem_range.1 hi)).2.2.1 (List.all_eq_true.2 fun x hx => List.all_eq_true.1 hfit.2 x ?_)
        rw [List.mem_append]
        exact .inl (mem_weightsAll (List.mem_map_of_mem hi) hx)
    · have := bulkAll_map len D (fun i => bk (Y i)) (fun i hi => (hY i hi).2.2.2)
      simp only [List.map_map, Rows.uptoBulk]
      have e : (List.range len).map (bk ∘ Y) = (List.range len).map (fun i => bk (Y i)) := rfl
      rw [e]
      omega
    · have := bulk_cap (.slice ((List.range len).map D) ((List.range (m - len)).map fun j => D (len + j)) : DataW H)
      simp only [capD, List.length_map, List.length_range] at this
      omega

/-- A byte. -/
def ByteE : El UInt8 where
  n := 1
  c x := [.int .u8 x.toNat]
  len _ := rfl
  one _ u hu := by simp at hu; subst hu; rfl
  pos := by decide
theorem byteCs (l : List UInt8) : ByteE.cs l = bcells l := by
  induction l with
  | nil => rfl
  | cons x l ih => rw [El.cs_cons, ih]; rfl
theorem byteSee {w : World} {a : Option Addr} {l : List UInt8} (h : ByteE.See w a l) : Sees w a l := by
  rcases h with h | ⟨g, o, rfl, hc⟩
  · exact .inl h
  · refine .inr ⟨g, o, rfl, fun j u hu => hc j _ ?_⟩
    rw [byteCs, bcells_get, hu]
    rfl
/-- A slice of bytes, and what it sees. -/
structure Bs where
  a : Option Addr
  c : Nat
  bs : List UInt8
def Bs.v (x : Bs) : Value := .slice x.a x.bs.length x.c
structure Bs.ok (w : World) (x : Bs) : Prop where
  see : Sees w x.a x.bs
  cap : x.bs.length ≤ x.c
  nil : x.a = none → x.c = 0
theorem Bs.ok.kept {w w' : World} {x : Bs} {S : List Nat} (h : x.ok w) (hk : Kp S w w') (hn : x.bs ≠ [] → ∀ k ∈ blk x.a, k ∉ S) : x.ok w' := ⟨h.see.kept' hk hn, h.cap, h.nil⟩
theorem Bs.ok.keptNew {w w' : World} {x : Bs} (h : x.ok w) (hk : Kp [] w w') : x.ok w' := h.kept hk (by simp)
instance : Inhabited Bs := ⟨⟨none, 0, []⟩⟩
theorem cellsB : Try.prog.cellsOf 5 = 1 := by kernel_rfl
theorem bytesB : Try.prog.bytesOf 5 = 1 := by kernel_rfl
theorem cellsI : Try.prog.cellsOf 3 = 1 := by kernel_rfl
theorem cellsS : Try.prog.cellsOf 37 = 1 := by kernel_rfl
theorem bytesS : Try.prog.bytesOf 37 = 24 := by kernel_rfl
def Few (x : Bs) : Prop := x.bs.length ≤ 140737488351232
section
variable {H : Type} {enc : TypeId × Value → H} {W : World}
theorem openByt {fuel : Nat} {v : Value} {x : DataW H × List MemPlace} (h : DataW.trod enc Try.prog W 0 (fun _ => true) true fuel 37 [v] = some x) :
    ∃ y : Bs, y.ok W ∧ v = y.v ∧ (Fit 37 x.1 → Few y) ∧ y.bs.length + 1 ≤ Rows.uptoBulk x.1 := by
  have hv : ∃ a len cap, v = .slice a len cap := by
    rcases Go.Deep.open_slice Try.underlying37 h with ⟨hcs, _⟩ | ⟨a, len, cap, _, _, _, _, hcs, _⟩
    · exact ⟨none, 0, 0, by simpa using hcs⟩
    · exact ⟨_, _, _, by simpa using hcs⟩
  obtain ⟨a, len, cap, rfl⟩ := hv
  obtain ⟨l, rfl, hs, _, hl, hm, hn, hfit, _, hbk⟩ := openEls ByteE Try.underlying37 cellsB 1 bytesB (fun _ => True) (fun _ => True) (fun _ => 0)
    (fun fuel cs x hx hcs => by
      obtain ⟨n, rfl, _, hw⟩ := DataW.trod_int Try.underlying5 hx
      have hb := bounds_u8 hw
      exact ⟨octet n, trivial, by simp [ByteE]; exact (octet_toNat _ hb.1 hb.2).symm, fun _ => trivial, Nat.zero_le _⟩) (d := x.1) (ps := x.2) ⟨fuel, h⟩
  refine ⟨⟨a, cap, l⟩, ⟨byteSee hs, hl, hn⟩, rfl, fun hf => ?_, ?_⟩
  · have := (hfit hf).1
    unfold Few
    simp only
    omega
  · simp only
    omega
/-- A number among the arguments' cells. -/
theorem openI {fuel : Nat} {v : Value} {x : DataW H × List MemPlace} (h : DataW.trod enc Try.prog W 0 (fun _ => true) true fuel 3 [v] = some x) : ∃ n : Int, v = .int .i64 n ∧ -9223372036854775808 ≤ n ∧ n ≤ 9223372036854775807 := by
  obtain ⟨n, e, _, hw⟩ := DataW.trod_int Try.underlying3 h
  have hb := bounds_i64 hw
  exact ⟨n, by simpa using e, hb.1, hb.2⟩
end
end Go.Proofs.Ytllhmbemcmigoaa
end

section
namespace Go.Proofs.Ytllhmbemcmigoaa
open Go.RowKit Go.Hay
set_option linter.unusedVariables false
set_option linter.unusedSimpArgs false

def BsE : El Bs where
  n := 1
  c x := [x.v]
  len _ := rfl
  one _ u hu := by simp at hu; subst hu; rfl
  pos := by decide
def BoolE : El Bool where
  n := 1
  c x := [.bool x]
  len _ := rfl
  one _ u hu := by simp at hu; subst hu; rfl
  pos := by decide
theorem bsAt {w : World} {a : Option Addr} {l : List Bs} (h : BsE.See w a l) {k : Nat} {x : Bs} (hx : l[k]? = some x) : ∃ g o, a = some ⟨g, o, none⟩ ∧ w.cell? ⟨g, o + k, none⟩ = some (.slice x.a x.bs.length x.c) := by
  obtain ⟨g, o, rfl, hc⟩ := h.at hx
  exact ⟨g, o, rfl, by have := hc 0 _ rfl; simpa [BsE, Bs.v] using this⟩
theorem boolAt {w : World} {a : Option Addr} {l : List Bool} (h : BoolE.See w a l) {k : Nat} {x : Bool} (hx : l[k]? = some x) : ∃ g o, a = some ⟨g, o, none⟩ ∧ w.cell? ⟨g, o + k, none⟩ = some (.bool x) := by
  obtain ⟨g, o, rfl, hc⟩ := h.at hx
  exact ⟨g, o, rfl, by have := hc 0 _ rfl; simpa [BoolE] using this⟩
/-- The bytes at a place. -/
def bsOf (l : List Bs) (k : Nat) : List UInt8 := match l[k]? with | some x => x.bs | none => []
/-- The messages sent and not taken yet. -/
def msgsL (l : List Bs) (s n : Nat) : List Msg := (List.range' s n).map fun k : Nat => ⟨(k : Int), bsOf l k⟩
theorem msgs_len (l : List Bs) (s n : Nat) : (msgsL l s n).length = n := by simp [msgsL]
theorem msgs_snoc (l : List Bs) (s n : Nat) : msgsL l s n ++ [⟨((s + n : Nat) : Int), bsOf l (s + n)⟩] = msgsL l s (n + 1) := by
  unfold msgsL
  rw [List.range'_concat]
  simp
theorem msgs_head (l : List Bs) (s n : Nat) : msgsL l s (n + 1) = ⟨(s : Int), bsOf l s⟩ :: msgsL l (s + 1) n := by
  unfold msgsL
  rw [List.range'_succ]
  rfl
theorem msgs_small {l : List Bs} (h : ∀ x ∈ l, Few x) (room : Int) (s n : Nat) : Smalls ⟨room, msgsL l s n⟩ := by
  intro m hm
  obtain ⟨k, _, rfl⟩ := List.mem_map.1 hm
  simp only [bsOf]
  split
  · rename_i x hx
    have := h x (List.mem_of_getElem? hx)
    unfold Few at this
    omega
  · simp
structure OrdI (p : Nat) (l : List Bs) (W : World) (nx i : Nat) (wn : World) : Prop where
  le : nx ≤ i
  il : i ≤ l.length
  net : ∃ v, Net wn p v ⟨(l.length : Int), msgsL l nx (i - nx)⟩ ∧ ∀ k ∈ own v, W.heap.size ≤ k
  kp : Kp [] W wn
theorem OrdI.sent {p : Nat} {l : List Bs} {W : World} {nx i : Nat} {wn w' : World} {v : Value} (h : OrdI p l W nx i wn) (hp : W.heap.size ≤ p) (hi : i < l.length) (hn : Net wn p v ⟨(l.length : Int), msgsL l nx (i - nx)⟩) (ho : ∀ k ∈ own v, W.heap.size ≤ k) {e : Ending}
    (hc : ChgN p v (putN ⟨(l.length : Int), msgsL l nx (i - nx)⟩ ⟨(i : Int), bsOf l i⟩).1 (.int .i64 (putN ⟨(l.length : Int), msgsL l nx (i - nx)⟩ ⟨(i : Int), bsOf l i⟩).2) wn e w') : e = .returned (.int .i64 0) ∧ OrdI p l W nx (i + 1) w' := by
  have hle := h.le
  have e1 : putN ⟨(l.length : Int), msgsL l nx (i - nx)⟩ ⟨(i : Int), bsOf l i⟩ = (⟨(l.length : Int), msgsL l nx (i + 1 - nx)⟩, 0) := by
    unfold putN
    rw [if_neg (by simp only [msgs_len]; omega)]
    have := msgs_snoc l nx (i - nx)
    rw [show nx + (i - nx) = i by omega, show i - nx + 1 = i + 1 - nx by omega] at this
    rw [← this]
  rw [e1] at hc
  obtain ⟨v', rfl, hN, hW⟩ := hc
  obtain ⟨k1, o1⟩ := stepW h.kp hp ho hW
  exact ⟨rfl, by omega, by omega, ⟨v', hN, o1⟩, k1⟩
theorem OrdI.took {p : Nat} {l : List Bs} {W : World} {nx i : Nat} {wn w' : World} {v : Value} (h : OrdI p l W nx i wn) (hp : W.heap.size ≤ p) (hi : nx < i) (ho : ∀ k ∈ own v, W.heap.size ≤ k) {e : Ending}
    (hc : TakeP p v ⟨(l.length : Int), msgsL l nx (i - nx)⟩ 0 wn e w') : OrdI p l W (nx + 1) i w' ∧ ∃ a c, e = .returned (.tuple #[.int .i64 (nx : Int), .slice a (bsOf l nx).length c, .bool true]) ∧ Row w' (.slice a (bsOf l nx).length c) (bsOf l nx) := by
  have hil := h.il
  have e1 : msgsL l nx (i - nx) = ⟨(nx : Int), bsOf l nx⟩ :: msgsL l (nx + 1) (i - (nx + 1)) := by
    rw [show i - nx = (i - (nx + 1)) + 1 by omega, msgs_head]
  obtain ⟨v', hN, hW, hm⟩ := hc
  rw [e1] at hN hm
  obtain ⟨a, c, rfl, hr, _⟩ := hm
  obtain ⟨k1, o1⟩ := stepW h.kp hp ho hW
  exact ⟨⟨by omega, by omega, ⟨v', hN, o1⟩, k1⟩, a, c, rfl, hr⟩
end Go.Proofs.Ytllhmbemcmigoaa
end

section
namespace Go.Proofs.Ytllhmbemcmigoaa
open Go.ChangeShapes Go.WideShapes Go.ChangeAt Go.RowKit Go.Hay
set_option linter.unusedVariables false

theorem cellsBool : Try.prog.cellsOf 4 = 1 := by kernel_rfl
theorem bytesBool : Try.prog.bytesOf 4 = 1 := by kernel_rfl
section
variable {H : Type} {enc : TypeId × Value → H} {W : World} {a : Option Addr} {len cap : Nat} {d : DataW H} {ps : List MemPlace}
theorem one_of {l : List Value} (h : l.length = 1) : ∃ v, l = [v] := by
  match l, h with
  | [v], _ => exact ⟨v, rfl⟩
end
end Go.Proofs.Ytllhmbemcmigoaa
end

section
namespace Go.Proofs.Ytllhmbemcmigoaa
open Go.ChangeShapes Go.WideShapes Go.ChangeAt Go.RowKit Go.Hay
set_option linter.unusedVariables false

/-- A call. -/
structure NOp where
  kind : Int
  to : Int
  n : Int
  raw : Bs
instance : Inhabited NOp := ⟨⟨0, 0, 0, default⟩⟩
def NOpE : El NOp where
  n := 4
  c x := [.int .i64 x.kind, .int .i64 x.to, .int .i64 x.n, x.raw.v]
  len _ := rfl
  one _ u hu := by simp at hu; rcases hu with rfl | rfl | rfl | rfl <;> rfl
  pos := by decide
structure NOp.ok (w : World) (x : NOp) : Prop where
  raw : x.raw.ok w
  k0 : -9223372036854775808 ≤ x.kind
  k1 : x.kind ≤ 9223372036854775807
  t0 : -9223372036854775808 ≤ x.to
  t1 : x.to ≤ 9223372036854775807
  n0 : -9223372036854775808 ≤ x.n
  n1 : x.n ≤ 9223372036854775807
theorem NOp.ok.kept {w w' : World} {x : NOp} {S : List Nat} (h : x.ok w) (hk : Kp S w w') (hn : x.raw.bs ≠ [] → ∀ k ∈ blk x.raw.a, k ∉ S) : x.ok w' := ⟨h.raw.kept hk hn, h.k0, h.k1, h.t0, h.t1, h.n0, h.n1⟩
def FewO (x : NOp) : Prop := Few x.raw
theorem opAt {w : World} {a : Option Addr} {l : List NOp} (h : NOpE.See w a l) {k : Nat} {x : NOp} (hx : l[k]? = some x) : ∃ g o, a = some ⟨g, o, none⟩ ∧ w.cell? ⟨g, o + k * 4, none⟩ = some (.int .i64 x.kind) ∧ w.cell? ⟨g, o + k * 4 + 1, none⟩ = some (.int .i64 x.to) ∧ w.cell? ⟨g, o + k * 4 + 2, none⟩ = some (.int .i64 x.n) ∧ w.cell? ⟨g, o + k * 4 + 3, none⟩ = some (.slice x.raw.a x.raw.bs.length x.raw.c) := by
  obtain ⟨g, o, rfl, hc⟩ := h.at hx
  exact ⟨g, o, rfl, hc 0 _ rfl, hc 1 _ rfl, hc 2 _ rfl, hc 3 _ rfl⟩
theorem cellsO : Try.prog.cellsOf 39 = 4 := by kernel_rfl
theorem bytesO : Try.prog.bytesOf 39 = 48 := by kernel_rfl
section
variable {H : Type} {enc : TypeId × Value → H} {W : World} {a : Option Addr} {len cap : Nat} {d : DataW H} {ps : List MemPlace}
theorem openNop {fuel : Nat} {cs : List Value} {x : DataW H × List MemPlace} (h : DataW.trod enc Try.prog W 0 (fun _ => true) true fuel 39 cs = some x) (hcs : cs.length = 4) :
    ∃ y : NOp, y.ok W ∧ cs = NOpE.c y ∧ (Fit 39 x.1 → FewO y) ∧ y.raw.bs.length + 1 ≤ Rows.uptoBulk x.1 := by
  obtain ⟨c0, c1, c2, c3, rfl⟩ : ∃ c0 c1 c2 c3, cs = [c0, c1, c2, c3] := by
    match cs, hcs with
    | [c0, c1, c2, c3], _ => exact ⟨c0, c1, c2, c3, rfl⟩
  obtain ⟨xs, n, _, rfl, _, hlen, hf⟩ := DataW.trod_struct Try.underlying39 h
  match xs, hlen with
  | [y0, y1, y2, y3], _ =>
    have h0 := hf 0 _ rfl
    have h1 := hf 1 _ rfl
    have h2 := hf 2 _ rfl
    have h3 := hf 3 _ rfl
    simp [cellsI, cellsS] at h0 h1 h2 h3
    obtain ⟨k, rfl, k0, k1⟩ := openI h0
    obtain ⟨t, rfl, t0, t1⟩ := openI h1
    obtain ⟨m, rfl, m0, m1⟩ := openI h2
    obtain ⟨b, hb, rfl, hfew, hbk⟩ := openByt h3
    refine ⟨⟨k, t, m, b⟩, ⟨hb, k0, k1, t0, t1, m0, m1⟩, rfl, fun hfit => hfew (List.all_eq_true.2 fun z hz => List.all_eq_true.1 hfit z ?_), ?_⟩
    · simp only [List.map_cons, List.map_nil, DataW.weights, Try.underlying39]
      simp [DataW.weightsEach, hz]
    · simp only [List.map_cons, List.map_nil, Rows.uptoBulk, Rows.uptoBulkAll]
      omega
theorem openNops (h : DataW.Trod enc Try.prog W 0 (fun _ => true) true 22 (.slice a len cap) d ps) :
    ∃ l : List NOp, len = l.length ∧ NOpE.See W a l ∧ (∀ y ∈ l, y.ok W) ∧ l.length ≤ cap ∧ cap ≤ maxLen ∧ (a = none → cap = 0) ∧ (Fit 22 d → cap * 48 ≤ 140737488351232 ∧ ∀ y ∈ l, FewO y) ∧ (l.map fun y => y.raw.bs.length + 1).sum ≤ Rows.uptoBulk d ∧ cap + 1 ≤ Rows.uptoBulk d :=
  openEls NOpE Try.underlying22 cellsO 48 bytesO (fun y => y.ok W) FewO (fun y => y.raw.bs.length + 1) (fun fuel cs x hx hcs => openNop hx hcs) h
end
end Go.Proofs.Ytllhmbemcmigoaa
end

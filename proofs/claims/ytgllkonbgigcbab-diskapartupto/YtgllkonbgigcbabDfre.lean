/- Free: how much room a disk has. -/
import Derived.Test.YtgllkonbgigcbabDval
namespace Go.Proofs.Ytgllkonbgigcbab
open Go.RowKit Go.Hay Go.Maps Go.Sort Go.Shelf
attribute [local go_sem] Oper.semAt_some
set_option linter.unusedVariables false
set_option linter.unusedSimpArgs false

/-- How it stands between two rounds. -/
def FreeI (xs : List Ent) (room : Nat) (w : World) (s : List Ent) (W : World) : Prop := W.cell? ⟨w.heap.size, 0, none⟩ = some (.int .i64 ((room : Int) - ((s.map fun x => x.bytes.length).sum : Nat))) ∧ W.frozen? ⟨w.heap.size, 0, none⟩ = false ∧ Kp [] w W ∧ w.heap.size + 2 ≤ W.heap.size ∧ (∀ y ∈ s, y ∈ xs) ∧ (s.map Ent.name).Nodup
theorem freeOwn (xs : List Ent) (room : Nat) (w : World) (B : Nat) (hB : w.heap.size < B) : OwnFrom B (FreeI xs room w) := fun s W W' row h hg hr => by
  have hb : W'.heap[w.heap.size]? = W.heap[w.heap.size]? := hg.block _ (World.block_lt_of_cell? _ _ h.1) (fun e => by have := (hr _ e.symm).1; omega)
  exact ⟨(World.cell?_of_block (a := ⟨w.heap.size, 0, none⟩) hb).trans h.1, (World.frozen?_of_block (a := ⟨w.heap.size, 0, none⟩) hb).trans h.2.1, h.2.2.1.grown hg (fun k e => by have := (hr k e).1; exact .inr (by omega)), Nat.le_trans h.2.2.2.1 hg.size, h.2.2.2.2⟩
theorem freeTurn (xs : List Ent) (room : Nat) (w : World) (B : Nat) (hB : w.heap.size < B) (s s' : List Ent) (A A' : World) (h : FreeI xs room w s A) (ht : StepV B s s' A A') : FreeI xs room w s' A' := by
  obtain ⟨rfl, row, hg, hr⟩ := ht
  have hb : A'.heap[w.heap.size]? = A.heap[w.heap.size]? := hg.block _ (World.block_lt_of_cell? _ _ h.1) (fun e => by have := (hr _ e.symm).1; omega)
  exact ⟨(World.cell?_of_block (a := ⟨w.heap.size, 0, none⟩) hb).trans h.1, (World.frozen?_of_block (a := ⟨w.heap.size, 0, none⟩) hb).trans h.2.1, h.2.2.1.grown hg (fun k e => by have := (hr k e).1; exact .inr (by omega)), Nat.le_trans h.2.2.2.1 hg.size, h.2.2.2.2⟩
theorem stepKeeps {B : Nat} {s s' : List Ent} {A A' : World} (ht : StepV B s s' A A') (k : Nat) (o : Obj) (ho : A.heap[k]? = some o) (hw : o.isWalk = false) : A'.heap[k]? = some o := by
  obtain ⟨rfl, row, hg, hr⟩ := ht
  exact (grownBy_keeps hg (fun r e => (hr r e).2) ho hw).trans ho

set_option maxHeartbeats 8000000 in
set_option maxRecDepth 100000 in
theorem cFree {w : World} {p mb : Nat} {xs : List Ent} {d : Dk} (hD : Disk w p mb xs d) : Calls Try.prog 13 #[.pointer (some ⟨p, 0, none⟩)] w fun e w' => e = .returned (.int .i64 (freeD d)) ∧ Kp [] w w' := by
  have c0 := hD.hd.c0
  have c1 := hD.hd.c1
  have hplt := hD.hd.lt
  have hroom := hD.ok.room
  refine (callsIn_wide (n := 4)).1 ?_
  refine callsIn_of_wp_marks Try.func13 rfl trivial ?_ rfl
  simp only [Try.ntmps13, List.size_toArray, List.length_cons, List.length_nil, Nat.reduceAdd, Nat.reduceSub, Array.replicate_succ, Array.replicate_zero, List.push_toArray, List.append_toArray, List.nil_append, List.cons_append]
  gi_wp2_with fail
  refine ⟨trivial, (callsIn_wide.2 (cValues _ _)).mono ?_⟩
  rintro e w' ⟨rfl, rfl⟩
  obtain ⟨w1, hw1⟩ : ∃ w1, w1 = (w.alloc (.cells #[.int .i64 (d.room : Int)] 3)).alloc (.cells #[.map (some mb)] 60) := ⟨_, rfl⟩
  have hs1 : w1.heap.size = w.heap.size + 2 := by rw [hw1]; simp
  have k1 : Kp [] w w1 := by rw [hw1]; exact ((Kp.refl _ _).alloc _).alloc _
  have b0 : w1.cell? ⟨w.heap.size, 0, none⟩ = some (.int .i64 (d.room : Int)) := by rw [hw1]; simp
  have f0 : w1.frozen? ⟨w.heap.size, 0, none⟩ = false := by rw [hw1]; simp
  have b1 : w1.heap[w.heap.size + 1]? = some (.cells #[.map (some mb)] 60 (0, 0)) := by
    rw [hw1]
    have := World.alloc_heap_new (w.alloc (.cells #[.int .i64 (d.room : Int)] 3)) (.cells #[.map (some mb)] 60)
    rwa [World.size_alloc] at this
  rw [← hw1]
  simp only [World.size_alloc]
  have hD1 := hD.keptNew k1
  have hseq := valuesSeq (4 - 1) (by omega) (w.heap.size + 1) mb xs hD.rise w1 b1 hD1.map
  have hI0 : FreeI xs d.room w [] w1 := ⟨by simpa using b0, f0, k1, by omega, by simp, by simp⟩
  have hmaplt := hD.map.lt
  clear b0 f0 hw1 c0 c1
  gi_wp2_with fail
  refine wpRangeS rfl (by omega) (gf := 44) (lb := #[.pointer (some ⟨w.heap.size + 1, 0, none⟩)]) rfl trivial (enters_of Try.func44 (by kernel_rfl) rfl)
    hseq (fun _ => rfl) KeepV.trans (fun _ => KeepV.alloc _) (fun _ W l o o' hl ho _ hw => KeepV.putObj W l o o' (by omega) ho hw) ⟨KeepsWalks.refl _, fun _ h => h⟩ (fun s s' A B ht k o _ ho _ hw => stepKeeps ht k o ho hw)
    (FreeI xs d.room w) (fun _ _ _ => False) (freeOwn xs d.room w _ (by omega)) (fun _ _ _ _ _ h _ _ => h) (freeTurn xs d.room w _ (by omega)) hI0
    (fun x => { tmps := #[.pointer (some ⟨p, 0, none⟩), undef, .int .i64 0, .pointer (some ⟨w.heap.size, 0, none⟩), .pointer (some ⟨x.blk, 0, none⟩), .pointer (some ⟨p, 0, none⟩), .pointer (some ⟨p, 0, none⟩), .pointer (some ⟨p, 0, none⟩), .int .i64 (d.room : Int), .pointer (some ⟨p, 0, none⟩), .pointer (some ⟨p, 0, none⟩), .pointer (some ⟨p, 1, none⟩), .map (some mb), .func (.func 44) #[] #[.pointer (some ⟨w.heap.size + 1, 0, none⟩)], .pointer (some ⟨x.blk, 0, none⟩), undef, undef, undef, undef, undef, undef, undef, undef], defers := [] }) ?assign ?body ?done ?stop
  case assign =>
    intro l x W C hC
    gi_wp2_with fail
    exact hC
  case body =>
    rintro l s x W ⟨h1, h2, h3, h4, h5, h6⟩ ⟨hx, hnot⟩
    have hf := (hD.keptNew h3).files x hx
    obtain ⟨a, c, ev, hsee, hnil, hcap⟩ := Row.parts hf.row
    have c0 := hf.box.c0
    have hxl := hf.box.lt
    have hxl0 := (hD.files x hx).box.lt
    rw [ev] at c0
    have h7 : ∀ y ∈ s ++ [x], y ∈ xs := fun y hy => by
      rcases List.mem_append.1 hy with h | h
      · exact h5 y h
      · rw [List.mem_singleton.1 h]; exact hx
    have h8 : ((s ++ [x]).map Ent.name).Nodup := by
      rw [List.map_append, List.nodup_append]
      refine ⟨h6, by simp, fun a ha b hb => ?_⟩
      simp at hb
      subst hb
      exact fun e => hnot (by rw [← e]; exact ha)
    have hsum : ((s ++ [x]).map fun x => x.bytes.length).sum = (s.map fun x => x.bytes.length).sum + x.bytes.length := by simp
    have hle := sum_sub (nm := Ent.name) (fun x => x.bytes.length) (s ++ [x]) xs hD.rise h7 h8
    have htot : (xs.map fun x => x.bytes.length).sum = sumF d.files := by rw [hD.fl]; simp [sumF, Function.comp_def, Ent.fl]
    have hsm := hD.ok.sum
    have hfin : ∀ z : Int, z = (d.room : Int) - (((s ++ [x]).map fun x => x.bytes.length).sum : Nat) → leftS w1.heap.size (fun _ => KeepV (w.heap.size + 1)) (FreeI xs d.room w) (fun _ _ _ => False) s (s ++ [x]) W .normal { tmps := #[], defers := [] } (W.setCell ⟨w.heap.size, 0, none⟩ (.int .i64 z)).drew := fun z hz => by
      subst hz
      have kS : Kp [w.heap.size] W (W.setCell ⟨w.heap.size, 0, none⟩ (.int .i64 ((d.room : Int) - (((s ++ [x]).map fun x => x.bytes.length).sum : Nat)))) := (Kp.refl _ _).setCell (p := ⟨w.heap.size, 0, none⟩) (by simp) _
      have hne : ∀ k, k ≠ w.heap.size → (W.setCell ⟨w.heap.size, 0, none⟩ (.int .i64 ((d.room : Int) - (((s ++ [x]).map fun x => x.bytes.length).sum : Nat)))).heap[k]? = W.heap[k]? := fun k hk => Below.heap_setCell W _ _ k hk
      refine ⟨⟨kS.size, fun k o hk ho _ => (hne k (by omega)).trans ho⟩, ⟨⟨kS.size, fun k o ho hw => ?_⟩, fun o ho => (hne _ (by omega)).trans ho⟩, ?_, ?_, ?_, ?_, h7, h8⟩
      · by_cases e : k = w.heap.size
        · subst e
          obtain ⟨o', ho', hw'⟩ := not_walk_of_cell h1
          rw [ho] at ho'; cases ho'; rw [hw] at hw'; cases hw'
        · exact (hne k e).trans ho
      · exact World.cell?_setCell_same _ _ _ h1
      · exact (World.frozen?_setCell _ _ _ _).trans h2
      · exact (h3.setCell (p := ⟨w.heap.size, 0, none⟩) (.inr (Nat.le_refl _)) _).drew
      · exact Nat.le_trans h4 kS.size
    have hwr : ∀ z : Int, z = (d.room : Int) - (s.map fun x => x.bytes.length).sum - x.bytes.length → IntKind.i64.wrap z = z := fun z hz => by
      rw [IntKind.wrap_i64]; omega
    have hwr' := hwr _ rfl
    gi_wp2_with fail
    gi_region
    all_goals
      gi_wp2_with fail
      exact hfin _ (by rw [hsum]; simp only [Int.natCast_add]; omega)
  case done =>
    rintro D' s W hD' hS ⟨h1, h2, h3, h4, h5, h6⟩ hK
    have htot : (xs.map fun x => x.bytes.length).sum = sumF d.files := by rw [hD.fl]; simp [sumF, Function.comp_def, Ent.fl]
    have hsum : (s.map fun x => x.bytes.length).sum = sumF d.files := by rw [← htot]; exact (hS.map _).sum_nat
    rw [hsum] at h1
    have hfr : freeD d = (d.room : Int) - (sumF d.files : Nat) := rfl
    rw [← hfr] at h1
    have hkD : Kp [D'] W (W.putObj D' (.deferred none)) := ⟨rfl, rfl, rfl, by simp, fun k hk hn => World.putObj_heap_other (by simpa using hn)⟩
    have kD := h3.trans hkD (fun x hx => .inr (by simp at hx; omega))
    clear hsum htot hfr
    gi_wp2_with fail
    refine ⟨by simp, .inl ⟨_, _, rfl, run_takeDeferred hK, ?_⟩⟩
    exact ⟨_, results_tmp rfl _ _ _, rfl, kD⟩
  case stop =>
    rintro D' c s W _ _ h _
    exact h.elim
end Go.Proofs.Ytgllkonbgigcbab

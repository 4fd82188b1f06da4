/- slices.Sorted(maps.Keys(files)): the names, rising. -/
import Derived.Test.YtgllkonbgigcbabDapd
import Derived.Test.YtgllkonbgigcbabDshf
namespace Go.Proofs.Ytgllkonbgigcbab
open Go.RowKit Go.Hay Go.Maps Go.Sort Go.Shelf
set_option linter.unusedVariables false
set_option linter.unusedSimpArgs false

theorem sortsS (m : Nat) : AnyZ.SortsIn Try.prog Try.lsorted_ren Fence.wide m :=
  ⟨fun blk off cap ss W hH hblk hsz => callsIn_wide.2 (AnyM.slices_Sort_string Try.lsort blk off cap ss W hH hblk hsz), fun p cap W => callsIn_wide.2 (AnyM.slices_Sort_string_none Try.lsort p cap W)⟩
theorem cKeys (mb : Option Nat) (W : World) : Calls Try.prog 43 #[.map mb] W fun e w' => e = .returned (.func (.func 47) #[] #[.pointer (some ⟨W.heap.size, 0, none⟩)]) ∧ w' = W.alloc (.cells #[.map mb] 60) :=
  (callsIn_wide (n := 5)).1 (AnyZ.keys_in Try.lkeys Fence.wide 5 trivial rfl mb W)

theorem mergeSort_rise {xs : List Ent} (hr : riseG Ent.name xs) {ss : List (List UInt8)} (hp : ss.Perm (xs.map Ent.name)) : ss.mergeSort (fun x y => decide (x ≤ y)) = xs.map Ent.name := by
  have e1 := mergeSort_of_perm hp
  have e2 : (xs.map Ent.name).mergeSort leB = xs.map Ent.name := by
    refine List.mergeSort_of_pairwise ?_
    rw [List.pairwise_map]
    refine hr.imp fun h => ?_
    have h1 := (bb_lt _ _).1 h
    simp only [leB, decide_eq_true_eq]
    exact List.le_of_lt h1
  exact e1.trans e2
/-- A slice of texts. -/
def Nms (w : World) (a : Option Addr) (l : List (List UInt8)) : Prop := l = [] ∨ ∃ g, a = some ⟨g, 0, none⟩ ∧ ∀ j s, l[j]? = some s → w.cell? ⟨g, j, none⟩ = some (encStr s)
def SortedP (xs : List Ent) (w : World) (e : Ending) (w' : World) : Prop := ∃ a c, e = .returned (.slice a xs.length c) ∧ Nms w' a (xs.map Ent.name) ∧ Kp [] w w' ∧ ∀ k ∈ blk a, w.heap.size ≤ k ∧ k < w'.heap.size
theorem Nms.ofRow {w : World} {base : Nat} {v : Value} {l : List (List UInt8)} (h : w.ownsRow base 9 1 v l.length (l.map encStr)) : ∃ a c, v = .slice a l.length c ∧ Nms w a l ∧ ∀ k ∈ blk a, base ≤ k ∧ k < w.heap.size := by
  obtain ⟨_, ⟨rfl, h0⟩ | ⟨g, cap, cur, rfl, hb, hg, hl, hm, hsz, ht⟩⟩ := h
  · obtain rfl : l = [] := List.length_eq_zero_iff.1 h0
    exact ⟨none, 0, rfl, .inl rfl, by simp [blk]⟩
  · refine ⟨some ⟨g, 0, none⟩, cap, rfl, .inr ⟨g, rfl, fun j s hs => ?_⟩, fun k hk => ?_⟩
    · have hu : (l.map encStr)[j]? = some (encStr s) := by simp [hs]
      rw [← ht, List.getElem?_take] at hu
      split at hu
      · rw [World.cell?, hg]; simpa using hu
      · cases hu
    · simp [blk] at hk
      subst hk
      exact ⟨hb, (Array.getElem?_eq_some_iff.1 hg).1⟩
set_option maxHeartbeats 1000000 in
theorem cSorted {w : World} {mb : Nat} {xs : List Ent} (hown : OwnsM w mb xs) (hr : riseG Ent.name xs) (hN : xs.length ≤ 8796093022208) :
    Calls Try.prog 42 #[.func (.func 47) #[] #[.pointer (some ⟨w.heap.size, 0, none⟩)]] (w.alloc (.cells #[.map (some mb)] 60)) (SortedP xs (w.alloc (.cells #[.map (some mb)] 60))) := by
  have hbl := hown.lt
  have hseq : SeqGives Fence.wide 2 Try.prog 47 #[.pointer (some ⟨w.heap.size, 0, none⟩)] encStr (fun ss => ss.Perm (strKeys (DataW.map (xs.map Ent.dat)))) (Maps.size (DataW.map (xs.map Ent.dat))) (w.alloc (.cells #[.map (some mb)] 60)) :=
    AnyZ.keys_gives (ρ := Try.lkeys_ren) { Try.lkeys with } Fence.wide _ trivial rfl (by omega) w.heap.size mb xs.length (DataW.map (xs.map Ent.dat)) _ (by simp) (by simp) (by
      obtain ⟨es, clock, hb, Ft, hs, hD⟩ := hown
      exact ⟨es, clock, (Below.heap_alloc _ _ mb hbl).trans hb, Ft, hs, hD⟩)
  have hc := AnyZ.sorted_in Try.lsorted Fence.wide 5 trivial trivial trivial trivial rfl (by omega) (sortsS _) (enters_of Try.func46 (by kernel_rfl) rfl) 47 #[.pointer (some ⟨w.heap.size, 0, none⟩)] trivial (enters_of Try.func47 (by kernel_rfl) rfl) _ _
    (by rw [dat_size]; unfold maxLen; omega) (by rw [dat_size]; omega) _ hseq
  refine (callsIn_wide (n := 5)).1 (CallsIn.mono hc ?_)
  rintro e w' ⟨v, ss, rfl, hS, hrow, hnil, hb⟩
  rw [dat_keys] at hS
  rw [mergeSort_rise hr hS] at hrow
  have hlen : ss.length = (xs.map Ent.name).length := hS.length_eq
  rw [hlen] at hrow
  obtain ⟨a, c, rfl, hn, hk⟩ := Nms.ofRow hrow
  exact ⟨a, c, by rw [List.length_map], hn, Kp.ofBelow hb _, hk⟩
end Go.Proofs.Ytgllkonbgigcbab

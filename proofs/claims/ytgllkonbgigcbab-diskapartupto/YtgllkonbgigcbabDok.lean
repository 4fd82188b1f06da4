/- What every disk is, it is behind each call. -/
import Derived.Test.YtgllkonbgigcbabDdef
namespace Go.Hay
open Go.RowKit
set_option linter.unusedVariables false
set_option linter.unusedSimpArgs false

theorem fileOf_some {l : List Fl} {k : List UInt8} {f : Fl} (h : lookG Fl.name k l = some f) : fileOf l k = f := by simp [fileOf, h]
theorem fileOf_none {l : List Fl} {k : List UInt8} (h : lookG Fl.name k l = none) : fileOf l k = ⟨k, [], 0⟩ := by simp [fileOf, h]
theorem fileOf_name (l : List Fl) (k : List UInt8) : (fileOf l k).name = k := by
  cases h : lookG Fl.name k l with
  | none => rw [fileOf_none h]
  | some f => rw [fileOf_some h]; exact (lookG_some h).2
theorem fileOf_len (l : List Fl) (k : List UInt8) : ((lookG Fl.name k l).map fun f => f.bytes.length).getD 0 = (fileOf l k).bytes.length := by
  cases h : lookG Fl.name k l with
  | none => rw [fileOf_none h]; rfl
  | some f => rw [fileOf_some h]; rfl
theorem fileOf_last {d : Dk} (ho : Okd d) (k : List UInt8) : (fileOf d.files k).last ≤ (fileOf d.files k).bytes.length := by
  cases h : lookG Fl.name k d.files with
  | none => rw [fileOf_none h]; exact Nat.le_refl _
  | some f => rw [fileOf_some h]; exact ho.last f (lookG_some h).1
/-- A file put. -/
theorem okPut {d : Dk} (ho : Okd d) (f : Fl) (hl : f.last ≤ f.bytes.length) (hn : nameOk f.name = true) (hs : sumF d.files + f.bytes.length ≤ d.room + (fileOf d.files f.name).bytes.length) : Okd { d with files := putG Fl.name f false d.files } := by
  refine ⟨riseG_put f ho.rise, fun x hx => ?_, fun x hx => ?_, ?_, ho.room, ho.arm⟩
  · rcases (mem_putG ho.rise).1 hx with rfl | hx
    · exact hl
    · exact ho.last x hx.1
  · rcases (mem_putG ho.rise).1 hx with rfl | hx
    · exact hn
    · exact ho.name x hx.1
  · have := sum_put (nm := Fl.name) (fun f : Fl => f.bytes.length) f ho.rise
    rw [fileOf_len] at this
    simp only [sumF] at hs ⊢
    omega
theorem okDrop {d : Dk} (ho : Okd d) (k : List UInt8) : Okd { d with files := dropG Fl.name k d.files } := by
  refine ⟨riseG_drop k ho.rise, fun x hx => ho.last x (mem_dropG.1 hx).1, fun x hx => ho.name x (mem_dropG.1 hx).1, ?_, ho.room, ho.arm⟩
  have := sum_drop (nm := Fl.name) (fun f : Fl => f.bytes.length) (k := k) ho.rise
  have := ho.sum
  simp only [sumF] at *
  omega
theorem okGrown {d : Dk} (ho : Okd d) {name b : List UInt8} (hn : nameOk name = true) (hf : (b.length : Int) ≤ freeD d) : Okd { d with files := grownF d.files name b } := by
  refine okPut ho _ ?_ (by simp only [fileOf_name]; exact hn) ?_
  · have := fileOf_last ho name
    simp only [List.length_append]
    omega
  · simp only [fileOf_name, List.length_append]
    unfold freeD at hf
    omega
theorem okSync {d : Dk} (ho : Okd d) {name : List UInt8} {f : Fl} (h : lookG Fl.name name d.files = some f) : Okd { d with files := putG Fl.name { f with last := f.bytes.length } false d.files } := by
  obtain ⟨hm, rfl⟩ := lookG_some h
  refine okPut ho _ (Nat.le_refl _) (ho.name f hm) ?_
  have e := fileOf_some h
  have := ho.sum
  simp only [e]
  omega
theorem okTrunc {d : Dk} (ho : Okd d) {name : List UInt8} {f : Fl} (h : lookG Fl.name name d.files = some f) (n : Nat) (hn : n ≤ f.bytes.length) : Okd { d with files := putG Fl.name { f with bytes := f.bytes.take n, last := min f.last n } false d.files } := by
  obtain ⟨hm, rfl⟩ := lookG_some h
  refine okPut ho _ ?_ (ho.name f hm) ?_
  · simp only [List.length_take]
    have := ho.last f hm
    omega
  · have e := fileOf_some h
    have := ho.sum
    simp only [e, List.length_take]
    omega
theorem flipB_length (bs : List UInt8) (i bit : Nat) : (flipB bs i bit).length = bs.length := by simp [flipB]
theorem okFlip {d : Dk} (ho : Okd d) {name : List UInt8} {f : Fl} (h : lookG Fl.name name d.files = some f) (i b : Nat) : Okd { d with files := putG Fl.name { f with bytes := flipB f.bytes i b } false d.files } := by
  obtain ⟨hm, rfl⟩ := lookG_some h
  refine okPut ho _ ?_ (ho.name f hm) ?_
  · simp only [flipB_length]; exact ho.last f hm
  · have e := fileOf_some h
    have := ho.sum
    simp only [e, flipB_length]
    omega
theorem okRename {d : Dk} (ho : Okd d) {name to : List UInt8} {f : Fl} (h : lookG Fl.name name d.files = some f) (ht : nameOk to = true) : Okd { d with files := putG Fl.name { f with name := to } false (dropG Fl.name name d.files) } := by
  have hd := okDrop ho name
  refine okPut hd { f with name := to } ?_ ht ?_
  · exact ho.last f (lookG_some h).1
  · have := sum_drop (nm := Fl.name) (fun f : Fl => f.bytes.length) (k := name) ho.rise
    have e := fileOf_len d.files name
    rw [fileOf_some h] at e
    have h2 := ho.sum
    simp only [sumF] at *
    omega
theorem okWipe {d : Dk} (ho : Okd d) : Okd (wipeD d) := ⟨List.Pairwise.nil, by simp [wipeD], by simp [wipeD], by simp [wipeD, sumF], ho.room, ho.arm⟩
theorem keptF_le {f : Fl} (h : f.last ≤ f.bytes.length) (k : Int) : (keptF f k).bytes.length = (keptF f k).last ∧ (keptF f k).last ≤ f.bytes.length ∧ (keptF f k).name = f.name := by
  simp only [keptF, List.length_take]
  refine ⟨by omega, by omega, trivial⟩
theorem crashF_name : ∀ (l : List Fl) (ks : List Int), (crashF l ks).map Fl.name = l.map Fl.name
  | [], _ => by simp [crashF]
  | f :: r, [] => by simp [crashF, crashF_name r, keptF]
  | f :: r, k :: ks => by simp [crashF, crashF_name r, keptF]
theorem crashF_mem : ∀ (l : List Fl) (ks : List Int), ∀ x ∈ crashF l ks, ∃ f ∈ l, ∃ k, x = keptF f k
  | [], _ => by simp [crashF]
  | f :: r, [] => by
    intro x hx
    rcases List.mem_cons.1 hx with rfl | hx
    · exact ⟨f, by simp, 0, rfl⟩
    · obtain ⟨g, hg, k, e⟩ := crashF_mem r [] x hx
      exact ⟨g, by simp [hg], k, e⟩
  | f :: r, k :: ks => by
    intro x hx
    rcases List.mem_cons.1 hx with rfl | hx
    · exact ⟨f, by simp, k, rfl⟩
    · obtain ⟨g, hg, k, e⟩ := crashF_mem r ks x hx
      exact ⟨g, by simp [hg], k, e⟩
theorem crashF_sum : ∀ (l : List Fl) (ks : List Int), (∀ f ∈ l, f.last ≤ f.bytes.length) → sumF (crashF l ks) ≤ sumF l
  | [], _, _ => by simp [crashF]
  | f :: r, [], h => by
    have := crashF_sum r [] (fun x hx => h x (by simp [hx]))
    have := keptF_le (h f (by simp)) 0
    simp only [crashF, sumF, List.map_cons, List.sum_cons] at *
    omega
  | f :: r, k :: ks, h => by
    have := crashF_sum r ks (fun x hx => h x (by simp [hx]))
    have := keptF_le (h f (by simp)) k
    simp only [crashF, sumF, List.map_cons, List.sum_cons] at *
    omega
theorem okCrash {d : Dk} (ho : Okd d) (ks : List Int) : Okd (crashD d ks) := by
  refine ⟨?_, fun x hx => ?_, fun x hx => ?_, ?_, ho.room, by simp [crashD]⟩
  · have e := crashF_name d.files ks
    have h1 : riseG id ((crashF d.files ks).map Fl.name) := by rw [e]; exact (riseG_map Fl.name (fun _ => rfl)).2 ho.rise
    exact (riseG_map (nm := Fl.name) (nm' := id) Fl.name (fun _ => rfl)).1 h1
  · obtain ⟨f, hf, k, rfl⟩ := crashF_mem _ _ x hx
    exact Nat.le_of_eq (keptF_le (ho.last f hf) k).1.symm
  · obtain ⟨f, hf, k, rfl⟩ := crashF_mem _ _ x hx
    rw [(keptF_le (ho.last f hf) k).2.2]; exact ho.name f hf
  · exact Nat.le_trans (crashF_sum _ _ ho.last) ho.sum
end Go.Hay

/- What calls make of a disk that was never armed: by its files and its room alone; how great it grows. -/
import Derived.Test.YtgllkonbgigcbabWops
namespace Go.Proofs.Ytgllkonbgigcbab
open Go.RowKit Go.Hay
set_option linter.unusedVariables false
set_option linter.unusedSimpArgs false

def chgD (d : Dk) (o : DOp) : Dk :=
  if o.kind = 0 then (appendD d o.name o.b.bs).1 else if o.kind = 1 then (doD d 1 o.name [] 0).1 else if o.kind = 2 then (doD d 2 o.name [] o.n).1
  else if o.kind = 3 then (doD d 3 o.name o.to 0).1 else if o.kind = 4 then (doD d 4 o.name [] 0).1 else flipD d o.name o.n o.bit
theorem step_live (room s : Nat) (files : List Fl) : stepD ⟨room, s, files, none, false⟩ = (⟨room, s + 1, files, none, false⟩, false) := by simp [stepD]
theorem append_form (room : Nat) (files : List Fl) (name b : List UInt8) : ∃ F k, k ≤ 1 ∧ ∀ s, (appendD ⟨room, s, files, none, false⟩ name b).1 = ⟨room, s + k, F, none, false⟩ := by
  by_cases h1 : nameOk name = true
  · by_cases h2 : (b.length : Int) > (room : Int) - sumF files
    · exact ⟨files, 0, by omega, fun s => by simp [appendD, h1, freeD, h2]⟩
    · exact ⟨grownF files name b, 1, by omega, fun s => by simp [appendD, h1, freeD, h2, step_live]⟩
  · exact ⟨files, 0, by omega, fun s => by simp [appendD, h1]⟩
theorem do_form (room : Nat) (files : List Fl) (c : Int) (name to : List UInt8) (n : Int) : ∃ F k, k ≤ 1 ∧ ∀ s, (doD ⟨room, s, files, none, false⟩ c name to n).1 = ⟨room, s + k, F, none, false⟩ := by
  have hr : ∀ s, refusedD ⟨room, s, files, none, false⟩ c name to n = refusedD ⟨room, 0, files, none, false⟩ c name to n := fun s => rfl
  by_cases h1 : refusedD ⟨room, 0, files, none, false⟩ c name to n = 0
  · exact ⟨changedF files c name to n, 1, by omega, fun s => by unfold doD; rw [hr s, h1, step_live]; simp⟩
  · exact ⟨files, 0, by omega, fun s => by unfold doD; rw [hr s, if_pos h1]; rfl⟩
theorem flip_form (room : Nat) (files : List Fl) (name : List UInt8) (i b : Int) : ∃ F k, k ≤ 1 ∧ ∀ s, flipD ⟨room, s, files, none, false⟩ name i b = ⟨room, s + k, F, none, false⟩ := by
  have hr : ∀ s, flipOk ⟨room, s, files, none, false⟩ name i b = flipOk ⟨room, 0, files, none, false⟩ name i b := fun s => rfl
  cases h1 : flipOk ⟨room, 0, files, none, false⟩ name i b with
  | true => exact ⟨putG Fl.name { fileOf files name with bytes := flipB (fileOf files name).bytes i.toNat b.toNat } false files, 0, by omega, fun s => by unfold flipD; rw [hr s, h1]; simp⟩
  | false => exact ⟨files, 0, by omega, fun s => by unfold flipD; rw [hr s, h1]; simp⟩
theorem chg_form (room : Nat) (files : List Fl) (o : DOp) : ∃ F k, k ≤ 1 ∧ ∀ s, chgD ⟨room, s, files, none, false⟩ o = ⟨room, s + k, F, none, false⟩ := by
  unfold chgD
  by_cases h0 : o.kind = 0
  · simp only [h0, if_pos]; exact append_form ..
  by_cases h1 : o.kind = 1
  · simp only [h0, h1, if_pos, if_false]; exact do_form ..
  by_cases h2 : o.kind = 2
  · simp only [h0, h1, h2, if_pos, if_false]; exact do_form ..
  by_cases h3 : o.kind = 3
  · simp only [h0, h1, h2, h3, if_pos, if_false]; exact do_form ..
  by_cases h4 : o.kind = 4
  · simp only [h0, h1, h2, h3, h4, if_pos, if_false]; exact do_form ..
  · simp only [h0, h1, h2, h3, h4, if_false]; exact flip_form ..
theorem len_putG (f : Fl) : ∀ (done : Bool) (l : List Fl), (putG Fl.name f done l).length ≤ l.length + (if done then 0 else 1)
  | done, [] => by cases done <;> simp [putG]
  | done, g :: r => by
    have := len_putG f (done || leN f.name g.name) r
    have h2 : (if g.name = f.name then ([] : List Fl) else [g]).length ≤ 1 := by split <;> simp
    simp only [putG, List.length_append, List.length_cons]
    cases done
    · cases hle : leN f.name g.name <;> simp [hle] at this ⊢ <;> omega
    · simp at this ⊢; omega
theorem len_dropG (k : List UInt8) (l : List Fl) : (dropG Fl.name k l).length ≤ l.length := List.length_filter_le _ _
/-- At most K bytes, in at most J files. -/
structure Low (K J : Nat) (d : Dk) : Prop where
  ok : Okd { d with room := K }
  len : d.files.length ≤ J
theorem okMono {d : Dk} {K K' : Nat} (h : Okd { d with room := K }) (hK : K ≤ K') (hb : K' < 9223372036854775808) : Okd { d with room := K' } :=
  ⟨h.rise, h.last, h.name, Nat.le_trans h.sum hK, hb, h.arm⟩
theorem Low.mono {K J K' J' : Nat} {d : Dk} (h : Low K J d) (hK : K ≤ K') (hJ : J ≤ J') (hb : K' < 9223372036854775808) : Low K' J' d := ⟨okMono h.ok hK hb, Nat.le_trans h.len hJ⟩
theorem le_sumF {l : List Fl} {f : Fl} (h : f ∈ l) : f.bytes.length ≤ sumF l := by
  induction l with
  | nil => cases h
  | cons g l ih =>
    have e : sumF (g :: l) = g.bytes.length + sumF l := by simp [sumF]
    rw [e]
    rcases List.mem_cons.1 h with rfl | h
    · omega
    · have := ih h; omega
theorem Low.file {K J : Nat} {d : Dk} (h : Low K J d) (name : List UInt8) : (fileOf d.files name).bytes.length ≤ K := by
  unfold fileOf
  cases hl : lookG Fl.name name d.files with
  | none => simp
  | some f =>
    have hm := (lookG_some hl).1
    have hs := h.ok.sum
    have := le_sumF hm
    simp only [Option.getD_some]
    simp only at hs
    omega
theorem Low.small {K J : Nat} {d : Dk} (h : Low K J d) (hK : K ≤ 140737488355328) : Small d := fun f hf => by
  have hs := h.ok.sum
  have := le_sumF hf
  simp only at hs
  omega
theorem low_files {K J : Nat} {d d' : Dk} (h : Low K J d) (hf : Okd { d with room := K, files := d'.files }) (hl : d'.files.length ≤ J + 1) (ha : d'.arm = none) : Low K (J + 1) d' :=
  ⟨⟨hf.rise, hf.last, hf.name, hf.sum, hf.room, fun n hn => by simp only [ha] at hn; cases hn⟩, hl⟩
theorem low_append {K J room s : Nat} {files : List Fl} (name b : List UInt8) (h : Low K J ⟨room, s, files, none, false⟩) (hb : K + b.length < 9223372036854775808) : Low (K + b.length) (J + 1) (appendD ⟨room, s, files, none, false⟩ name b).1 := by
  have same := h.mono (K' := K + b.length) (J' := J + 1) (by omega) (by omega) hb
  unfold appendD
  simp only [Bool.false_eq_true, if_false]
  split
  · exact same
  split
  · exact same
  · rename_i h1 h2
    rw [step_live]
    have hn : nameOk name = true := by simpa using h1
    have hg := okGrown (d := ⟨K + b.length, s, files, none, false⟩) same.ok (name := name) (b := b) hn (by unfold freeD; have := h.ok.sum; simp only at this ⊢; omega)
    refine low_files (d := ⟨room, s, files, none, false⟩) ⟨same.ok, h.len⟩ hg ?_ rfl
    have := len_putG { fileOf files name with bytes := (fileOf files name).bytes ++ b } false files
    have hl := h.len
    simp only [grownF] at *
    simp at this
    omega
theorem low_do {K J room s : Nat} {files : List Fl} (c : Int) (hc : c = 1 ∨ c = 2 ∨ c = 3 ∨ c = 4) (name to : List UInt8) (n : Int) (h : Low K J ⟨room, s, files, none, false⟩) : Low K (J + 1) (doD ⟨room, s, files, none, false⟩ c name to n).1 := by
  have same := h.mono (K' := K) (J' := J + 1) (by omega) (by omega) h.ok.room
  unfold doD
  split
  · exact same
  · rename_i h1
    rw [step_live]
    simp only [Bool.false_eq_true, if_false]
    have h1 : refusedD ⟨room, s, files, none, false⟩ c name to n = 0 := by simpa using h1
    have hl := h.len
    simp only at hl
    cases hk : lookG Fl.name name files with
    | none => unfold refusedD at h1; simp [hk] at h1
    | some f =>
      have ef := fileOf_some hk
      unfold refusedD at h1
      simp only [hk, Bool.false_eq_true, if_false] at h1
      have fin : ∀ F, Okd { (⟨room, s, files, none, false⟩ : Dk) with room := K, files := F } → F.length ≤ J + 1 → Low K (J + 1) ⟨room, s + 1, F, none, false⟩ := fun F hF hL => low_files (d := ⟨room, s, files, none, false⟩) (d' := ⟨room, s + 1, F, none, false⟩) h hF hL rfl
      rcases hc with rfl | rfl | rfl | rfl
      · have := len_putG { f with last := f.bytes.length } false files
        simp at this
        simp only [changedF, ef, if_true]
        exact fin _ (okSync (d := ⟨K, s, files, none, false⟩) h.ok hk) (by omega)
      · have hn : ¬ (n < 0) ∧ ¬ (n > (f.bytes.length : Int)) := by
          split at h1
          · cases h1
          · rename_i hh; simpa using hh
        have := len_putG { f with bytes := f.bytes.take n.toNat, last := min f.last n.toNat } false files
        simp at this
        have e : changedF files 2 name to n = putG Fl.name { f with bytes := f.bytes.take n.toNat, last := min f.last n.toNat } false files := by simp [changedF, ef]
        simp only [e]
        exact fin _ (okTrunc (d := ⟨K, s, files, none, false⟩) h.ok hk n.toNat (by omega)) (by omega)
      · have ht : nameOk to = true := by
          simp at h1
          exact h1
        have h2 := len_putG { f with name := to } false (dropG Fl.name name files)
        have h3 := len_dropG name files
        simp at h2
        have e : changedF files 3 name to n = putG Fl.name { f with name := to } false (dropG Fl.name name files) := by simp [changedF, ef]
        simp only [e]
        exact fin _ (okRename (d := ⟨K, s, files, none, false⟩) h.ok hk ht) (by omega)
      · have h3 := len_dropG name files
        have e : changedF files 4 name to n = dropG Fl.name name files := by simp [changedF]
        simp only [e]
        exact fin _ (okDrop (d := ⟨K, s, files, none, false⟩) h.ok name) (by omega)
theorem low_flip {K J room s : Nat} {files : List Fl} (name : List UInt8) (i b : Int) (h : Low K J ⟨room, s, files, none, false⟩) : Low K (J + 1) (flipD ⟨room, s, files, none, false⟩ name i b) := by
  have same := h.mono (K' := K) (J' := J + 1) (by omega) (by omega) h.ok.room
  unfold flipD
  split
  · rename_i h1
    cases hk : lookG Fl.name name files with
    | none => unfold flipOk at h1; simp [hk] at h1
    | some f =>
      have ef := fileOf_some hk
      have := len_putG { f with bytes := flipB f.bytes i.toNat b.toNat } false files
      have hl := h.len
      simp at this
      simp only at hl
      simp only [ef]
      exact low_files (d := ⟨room, s, files, none, false⟩) (d' := ⟨room, s, _, none, false⟩) h (okFlip (d := ⟨K, s, files, none, false⟩) h.ok hk i.toNat b.toNat) (by simp only; omega) rfl
  · exact same
theorem low_chg {K J room s : Nat} {files : List Fl} (o : DOp) (h : Low K J ⟨room, s, files, none, false⟩) (hb : K + o.b.bs.length < 9223372036854775808) : Low (K + o.b.bs.length) (J + 1) (chgD ⟨room, s, files, none, false⟩ o) := by
  unfold chgD
  split
  · exact low_append _ _ h hb
  split
  · exact (low_do 1 (by simp) _ _ _ h).mono (by omega) (by omega) hb
  split
  · exact (low_do 2 (by simp) _ _ _ h).mono (by omega) (by omega) hb
  split
  · exact (low_do 3 (by simp) _ _ _ h).mono (by omega) (by omega) hb
  split
  · exact (low_do 4 (by simp) _ _ _ h).mono (by omega) (by omega) hb
  · exact (low_flip _ _ _ h).mono (by omega) (by omega) hb
end Go.Proofs.Ytgllkonbgigcbab

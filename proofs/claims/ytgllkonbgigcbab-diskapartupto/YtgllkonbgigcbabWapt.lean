/- What is done to other files is not seen in one's bytes: of disks as plain values. -/
import Derived.Test.YtgllkonbgigcbabWpln
namespace Go.Proofs.Ytgllkonbgigcbab
open Go.RowKit Go.Hay
set_option linter.unusedVariables false
set_option linter.unusedSimpArgs false

theorem look_ext {k : List UInt8} {l l' : List Fl} (hr : riseG Fl.name l) (hr' : riseG Fl.name l') (h : ∀ x, x.name = k → (x ∈ l ↔ x ∈ l')) : lookG Fl.name k l = lookG Fl.name k l' := by
  cases hl : lookG Fl.name k l with
  | some x => obtain ⟨h1, h2⟩ := lookG_some hl; exact (lookG_mem hr' ((h x h2).1 h1) h2).symm
  | none =>
    cases hl' : lookG Fl.name k l' with
    | none => rfl
    | some x => obtain ⟨h1, h2⟩ := lookG_some hl'; exact absurd h2 (lookG_none hl x ((h x h2).2 h1))
theorem look_put_ne {k : List UInt8} {l : List Fl} {f : Fl} (hr : riseG Fl.name l) (h : f.name ≠ k) : lookG Fl.name k (putG Fl.name f false l) = lookG Fl.name k l :=
  look_ext (riseG_put f hr) hr fun x hx => by
    rw [mem_putG hr]
    constructor
    · rintro (rfl | ⟨h1, _⟩)
      · exact absurd hx h
      · exact h1
    · exact fun h1 => .inr ⟨h1, fun e => h (e.symm.trans hx)⟩
theorem look_put_eq {l : List Fl} {f : Fl} {k : List UInt8} (hr : riseG Fl.name l) (h : f.name = k) : lookG Fl.name k (putG Fl.name f false l) = some f := lookG_mem (riseG_put f hr) ((mem_putG hr).2 (.inl rfl)) h
theorem look_drop_ne {k n : List UInt8} {l : List Fl} (hr : riseG Fl.name l) (h : n ≠ k) : lookG Fl.name k (dropG Fl.name n l) = lookG Fl.name k l :=
  look_ext (riseG_drop n hr) hr fun x hx => by
    rw [mem_dropG]
    exact ⟨fun h1 => h1.1, fun h1 => ⟨h1, fun e => h (e.symm.trans hx)⟩⟩
theorem look_drop_eq {k : List UInt8} {l : List Fl} : lookG Fl.name k (dropG Fl.name k l) = none := by
  unfold lookG
  rw [List.find?_eq_none]
  intro x hx
  have := (mem_dropG.1 hx).2
  simpa using this
/-- The bytes of a file. -/
def byt (k : List UInt8) (l : List Fl) : Option (List UInt8) := (lookG Fl.name k l).map Fl.bytes
theorem byt_put_ne {k : List UInt8} {l : List Fl} {f : Fl} (hr : riseG Fl.name l) (h : f.name ≠ k) : byt k (putG Fl.name f false l) = byt k l := by unfold byt; rw [look_put_ne hr h]
theorem byt_put_eq {k : List UInt8} {l : List Fl} {f : Fl} (hr : riseG Fl.name l) (h : f.name = k) : byt k (putG Fl.name f false l) = some f.bytes := by unfold byt; rw [look_put_eq hr h]; rfl
theorem byt_drop_ne {k n : List UInt8} {l : List Fl} (hr : riseG Fl.name l) (h : n ≠ k) : byt k (dropG Fl.name n l) = byt k l := by unfold byt; rw [look_drop_ne hr h]
theorem byt_drop_eq {k : List UInt8} {l : List Fl} : byt k (dropG Fl.name k l) = none := by unfold byt; rw [look_drop_eq]; rfl
theorem byt_fileOf (k : List UInt8) (l : List Fl) : (fileOf l k).bytes = (byt k l).getD [] := by
  unfold fileOf byt
  cases lookG Fl.name k l <;> rfl
section
variable {R s : Nat} {l : List Fl} {k : List UInt8}
/-- Where there is room. -/
theorem byt_append (hr : riseG Fl.name l) (name b : List UInt8) (hfree : (b.length : Int) ≤ (R : Int) - sumF l) : byt k (appendD ⟨R, s, l, none, false⟩ name b).1.files = if name = k ∧ nameOk name = true then some ((byt k l).getD [] ++ b) else byt k l := by
  unfold appendD
  by_cases hn : nameOk name = true
  · have hf : ¬ ((b.length : Int) > freeD ⟨R, s, l, none, false⟩) := by unfold freeD; simp only; omega
    simp only [hn, hf, step_live, Bool.not_true, Bool.false_eq_true, if_false, if_neg, grownF]
    by_cases e : name = k
    · subst e
      rw [byt_put_eq hr (by simp only [fileOf_name]), if_pos ⟨rfl, trivial⟩]
      simp only [byt_fileOf]
    · rw [byt_put_ne hr (by simp only [fileOf_name]; exact e), if_neg (by simp [e])]
  · have hn' : nameOk name = false := by simpa using hn
    simp [hn']
/-- A call that is refused, or not: by the file of its name alone. -/
theorem do_files (c : Int) (name to : List UInt8) (n : Int) : (doD ⟨R, s, l, none, false⟩ c name to n).1.files = if refusedD ⟨R, s, l, none, false⟩ c name to n = 0 then changedF l c name to n else l := by
  unfold doD
  by_cases h : refusedD ⟨R, s, l, none, false⟩ c name to n = 0
  · rw [if_neg (by simpa using h), if_pos h, step_live]
    rfl
  · rw [if_pos (by simpa using h), if_neg h]
theorem refused_byt (c : Int) (name to : List UInt8) (n : Int) : refusedD ⟨R, s, l, none, false⟩ c name to n = match byt name l with
    | none => 42
    | some bs => if c == 2 && (decide (n < 0) || decide (n > (bs.length : Int))) then 43 else if c == 3 && !nameOk to then 40 else 0 := by
  unfold refusedD byt
  cases lookG Fl.name name l <;> simp
/-- What a call on a file of that name leaves of it hangs on its bytes alone; on another name's, nothing. -/
theorem byt_do (hr : riseG Fl.name l) (c : Int) (hc : c = 1 ∨ c = 2 ∨ c = 3 ∨ c = 4) (name to : List UInt8) (n : Int) (hto : c = 3 → name ≠ k → to ≠ k) :
    byt k (doD ⟨R, s, l, none, false⟩ c name to n).1.files = if name = k then (match byt k l with
      | none => none
      | some bs => if c = 1 then some bs else if c = 2 then some (if n < 0 ∨ n > (bs.length : Int) then bs else bs.take n.toNat) else if c = 3 then (if nameOk to = true then (if to = k then some bs else none) else some bs) else none) else byt k l := by
  rw [do_files]
  by_cases e : name = k
  · subst e
    rw [if_pos rfl]
    have hrf := refused_byt (R := R) (s := s) (l := l) c name to n
    cases hb : byt name l with
    | none =>
      rw [hb] at hrf
      simp only at hrf
      rw [hrf]
      simp [hb]
    | some bs =>
      rw [hb] at hrf
      simp only at hrf
      have hfo : (fileOf l name).bytes = bs := by rw [byt_fileOf, hb]; rfl
      have hnm := fileOf_name l name
      rcases hc with rfl | rfl | rfl | rfl
      · simp only [show ((1 : Int) == 2) = false from rfl, show ((1 : Int) == 3) = false from rfl, Bool.false_and, Bool.false_eq_true, if_false] at hrf
        rw [if_pos hrf]
        simp only [changedF, if_true]
        rw [byt_put_eq hr (by simp only [hnm]), hfo]
      · by_cases hn : n < 0 ∨ n > (bs.length : Int)
        · have : refusedD ⟨R, s, l, none, false⟩ 2 name to n ≠ 0 := by rw [hrf]; rcases hn with h | h <;> simp [h]
          rw [if_neg this, hb]
          simp [hn]
        · have : refusedD ⟨R, s, l, none, false⟩ 2 name to n = 0 := by
            rw [hrf]
            have h1 : ¬ n < 0 := fun h => hn (.inl h)
            have h2 : ¬ n > (bs.length : Int) := fun h => hn (.inr h)
            simp [h1, h2]
          rw [if_pos this]
          have e2 : changedF l 2 name to n = putG Fl.name { fileOf l name with bytes := (fileOf l name).bytes.take n.toNat, last := min (fileOf l name).last n.toNat } false l := by simp [changedF]
          rw [e2, byt_put_eq hr (by simp only [hnm]), hfo]
          simp [hn]
      · by_cases ht : nameOk to = true
        · have : refusedD ⟨R, s, l, none, false⟩ 3 name to n = 0 := by rw [hrf]; simp [ht]
          rw [if_pos this]
          have e2 : changedF l 3 name to n = putG Fl.name { fileOf l name with name := to } false (dropG Fl.name name l) := by simp [changedF]
          rw [e2]
          by_cases e3 : to = name
          · rw [byt_put_eq (riseG_drop name hr) (by simp only; exact e3)]
            simp [ht, e3, hfo]
          · rw [byt_put_ne (riseG_drop name hr) (by simp only; exact e3), byt_drop_eq]
            simp [ht, e3]
        · have ht' : nameOk to = false := by simpa using ht
          have : refusedD ⟨R, s, l, none, false⟩ 3 name to n ≠ 0 := by rw [hrf]; simp [ht']
          rw [if_neg this, hb]
          simp [ht']
      · simp only [show ((4 : Int) == 2) = false from rfl, show ((4 : Int) == 3) = false from rfl, Bool.false_and, Bool.false_eq_true, if_false] at hrf
        rw [if_pos hrf]
        have e2 : changedF l 4 name to n = dropG Fl.name name l := by simp [changedF]
        rw [e2, byt_drop_eq]
        simp
  · rw [if_neg e]
    split
    · rcases hc with rfl | rfl | rfl | rfl
      · simp only [changedF, if_true]
        exact byt_put_ne hr (by simp only [fileOf_name]; exact e)
      · have e2 : changedF l 2 name to n = putG Fl.name { fileOf l name with bytes := (fileOf l name).bytes.take n.toNat, last := min (fileOf l name).last n.toNat } false l := by simp [changedF]
        rw [e2]
        exact byt_put_ne hr (by simp only [fileOf_name]; exact e)
      · have e2 : changedF l 3 name to n = putG Fl.name { fileOf l name with name := to } false (dropG Fl.name name l) := by simp [changedF]
        rw [e2, byt_put_ne (riseG_drop name hr) (by simp only; exact hto rfl e), byt_drop_ne hr e]
      · have e2 : changedF l 4 name to n = dropG Fl.name name l := by simp [changedF]
        rw [e2, byt_drop_ne hr e]
    · rfl
theorem byt_flip (hr : riseG Fl.name l) (name : List UInt8) (i b : Int) : byt k (flipD ⟨R, s, l, none, false⟩ name i b).files = if name = k then (match byt k l with
      | none => none
      | some bs => some (if 0 ≤ i ∧ i < (bs.length : Int) ∧ 0 ≤ b ∧ b ≤ 7 then flipB bs i.toNat b.toNat else bs)) else byt k l := by
  unfold flipD
  by_cases e : name = k
  · subst e
    rw [if_pos rfl]
    have hok : flipOk ⟨R, s, l, none, false⟩ name i b = match byt name l with
      | none => false
      | some bs => decide (0 ≤ i) && decide (i < (bs.length : Int)) && decide (0 ≤ b) && decide (b ≤ 7) := by
      unfold flipOk byt
      cases lookG Fl.name name l <;> simp
    rw [hok]
    cases hb : byt name l with
    | none => simp [hb]
    | some bs =>
      have hfo : (fileOf l name).bytes = bs := by rw [byt_fileOf, hb]; rfl
      by_cases hc : 0 ≤ i ∧ i < (bs.length : Int) ∧ 0 ≤ b ∧ b ≤ 7
      · have : (decide (0 ≤ i) && decide (i < (bs.length : Int)) && decide (0 ≤ b) && decide (b ≤ 7)) = true := by simp [hc]
        simp only [this, if_true]
        rw [byt_put_eq hr (by simp only [fileOf_name]), hfo, if_pos hc]
      · have : (decide (0 ≤ i) && decide (i < (bs.length : Int)) && decide (0 ≤ b) && decide (b ≤ 7)) = false := by
          rw [Bool.eq_false_iff]
          intro h
          simp at h
          exact hc ⟨h.1.1.1, h.1.1.2, h.1.2, h.2⟩
        simp only [this, Bool.false_eq_true, if_false, hb, if_neg hc]
  · rw [if_neg e]
    split
    · exact byt_put_ne hr (by simp only [fileOf_name]; exact e)
    · rfl
end
end Go.Proofs.Ytgllkonbgigcbab

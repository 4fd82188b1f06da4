/- Which tables may be: names, kinds, no name twice. -/
import Derived.Test.YtboibllahibicabDoorVfit
import Derived.Test.YtboibllahibicabDoorVrow
namespace Go.Proofs.YtboibllahibicabDoor
open Go.RowKit Go.Hay
set_option linter.unusedVariables false
set_option linter.unusedSimpArgs false

/-- A column's three fields. -/
structure Col where
  nm : ByteArray
  k : Int
  z : Bool
/-- Columns, one behind the other. -/
def Cols (w : World) (a : Option Addr) (l : List Col) : Prop :=
  l = [] ∨ ∃ g o, a = some ⟨g, o, none⟩ ∧ ∀ j x, l[j]? = some x → w.cell? ⟨g, o + j * 3, none⟩ = some (.string x.nm) ∧ w.cell? ⟨g, o + j * 3 + 1, none⟩ = some (.int .i64 x.k) ∧ w.cell? ⟨g, o + j * 3 + 2, none⟩ = some (.bool x.z)
theorem Cols.kept {w w' : World} {a : Option Addr} {l : List Col} (h : Cols w a l) (hk : Kp [] w w') : Cols w' a l := by
  rcases h with h | ⟨g, o, rfl, hc⟩
  · exact .inl h
  · refine .inr ⟨g, o, rfl, fun j t ht => ?_⟩
    obtain ⟨c0, c1, c2⟩ := hc j t ht
    exact ⟨kpAt hk c0, kpAt hk c1, kpAt hk c2⟩
theorem Cols.at {w : World} {a : Option Addr} {l : List Col} (h : Cols w a l) (j : Nat) (hj : j < l.length) : ∃ g o, a = some ⟨g, o, none⟩ ∧ w.cell? ⟨g, o + j * 3, none⟩ = some (.string l[j].nm) ∧ w.cell? ⟨g, o + j * 3 + 1, none⟩ = some (.int .i64 l[j].k) ∧ w.cell? ⟨g, o + j * 3 + 2, none⟩ = some (.bool l[j].z) := by
  rcases h with h | ⟨g, o, rfl, hc⟩
  · subst h; simp at hj
  · exact ⟨g, o, rfl, hc j l[j] (by simp)⟩
theorem Cols.take {w : World} {a : Option Addr} {l : List Col} (h : Cols w a l) (j : Nat) : Cols w a (l.take j) := by
  rcases h with h | ⟨g, o, rfl, hc⟩
  · exact .inl (by simp [h])
  · refine .inr ⟨g, o, rfl, fun i t ht => hc i t ?_⟩
    rw [List.getElem?_take] at ht
    split at ht
    · exact ht
    · cases ht

def namedV (s : ByteArray) : Bool := decide ((0 : Int) < s.size) && decide ((s.size : Int) ≤ 64)
def keptK (k : Int) : Bool := k == 1 || (k == 2 || k == 3)
def hasN (l : List Col) (nm : ByteArray) : Bool := l.any fun c => c.nm.toList == nm.toList
def colAt (l : List Col) (j : Nat) : Bool := match l[j]? with
  | some c => namedV c.nm && (keptK c.k && !hasN (l.take j) c.nm)
  | none => true
def colsV (l : List Col) : Bool := (List.range l.length).all (colAt l)
/-- Which tables may be. -/
def tableV (nm : ByteArray) (l : List Col) : Int := if namedV nm && (decide (l.length ≠ 0) && (decide (l.length ≤ 8) && colsV l)) then 0 else 20

theorem cNamed (s : ByteArray) (w : World) : Calls Tryd.prog 26 #[.string s] w fun e w' => e = .returned (.bool (namedV s)) ∧ w' = w := by
  by_cases h : (0 : Int) < s.size
  · go_enter Tryd.func26, Tryd.ntmps26
    go_wp2_with fail
    go_ret
    exact ⟨by have h3 : decide ((0 : Int) < s.size) = true := by simpa using h
              unfold namedV; rw [h3]; rfl, rfl⟩
  · have h' : s.size = 0 := by omega
    go_enter Tryd.func26, Tryd.ntmps26
    go_wp2_with fail
    go_ret
    exact ⟨by simp [namedV, h'], rfl⟩
theorem cKept (k : Int) (w : World) : Calls Tryd.prog 27 #[.int .i64 k] w fun e w' => e = .returned (.bool (keptK k)) ∧ w' = w := by
  by_cases h1 : k = 1
  · subst h1
    go_enter Tryd.func27, Tryd.ntmps27
    go_wp2_with fail
    go_ret
    exact ⟨rfl, rfl⟩
  have d1 : (k == 1) = false := by simpa using h1
  by_cases h2 : k = 2
  · subst h2
    go_enter Tryd.func27, Tryd.ntmps27
    go_wp2_with fail
    go_ret
    exact ⟨rfl, rfl⟩
  have d2 : (k == 2) = false := by simpa using h2
  by_cases h3 : k = 3
  · subst h3
    go_enter Tryd.func27, Tryd.ntmps27
    go_wp2_with fail
    go_ret
    exact ⟨rfl, rfl⟩
  have d3 : (k == 3) = false := by simpa using h3
  go_enter Tryd.func27, Tryd.ntmps27
  go_wp2_with fail
  go_ret
  exact ⟨by simp [keptK, h1, h2, h3], rfl⟩

set_option maxHeartbeats 2000000 in
set_option maxRecDepth 100000 in
theorem cHas (a : Option Addr) (n ca : Nat) (l : List Col) (nm : ByteArray) (w : World) (ha : Cols w a l) (hn : n = l.length) (hl : l.length ≤ 9223372036854775807) :
    Calls Tryd.prog 28 #[.slice a n ca, .string nm] w fun e w' => e = .returned (.bool (hasN l nm)) ∧ Kp [] w w' := by
  subst hn
  go_enter Tryd.func28, Tryd.ntmps28
  go_wp2_with fail
  go_loopw [9] (fun i wn => ∃ j : Nat, j ≤ l.length ∧ i = .int .i64 j ∧ Hid (hasN (l.take j) nm = false) ∧ Kp [] w wn) (fun i _ => l.length - (intOf i).toNat)
  case atStart => exact ⟨0, Nat.zero_le _, rfl, rfl, Kp.refl _ _⟩
  case round =>
    obtain ⟨j, hj, rfl, hr, hk⟩ := hrel
    by_cases hjm : j < l.length
    · obtain ⟨g, o, rfl, a0, a1, a2⟩ := (ha.kept hk).at j hjm
      have ht : hasN (l.take (j + 1)) nm = (hasN (l.take j) nm || (l[j].nm.toList == nm.toList)) := by
        unfold hasN
        rw [← List.take_append_getElem hjm, List.any_append]
        simp
      have hsub : hasN (l.take (j + 1)) nm = true → hasN l nm = true := by
        intro h
        simp only [hasN, List.any_eq_true] at h ⊢
        obtain ⟨x, hx, hx2⟩ := h
        exact ⟨x, List.mem_of_mem_take hx, hx2⟩
      rw [hr.out, Bool.false_or] at ht
      generalize l[j] = x at *
      obtain ⟨xn, xk, xz⟩ := x
      dsimp only at a0 a1 a2 ht
      have HT := hid ht
      have HS := hid hsub
      clear ht hsub
      by_cases he : xn.toList = nm.toList
      · have hH : Hid (hasN l nm = true) := HS.out (by rw [HT.out]; simpa using he)
        clear HS HT
        have hee : (xn.toList == nm.toList) = true := by simpa using he
        clear he
        go_wp2_with fail
        go_ret
        exact ⟨by rw [hH.out]; rfl, hk.alloc _⟩
      · have hee : (xn.toList == nm.toList) = false := by simpa using he
        have hH : Hid (hasN (l.take (j + 1)) nm = false) := by show _ = _; rw [HT.out]; exact hee
        clear HS HT he
        go_wp2_with fail
        exact ⟨⟨j + 1, by omega, by go_num, hH, hk.alloc _⟩, by simp [intOf]; omega⟩
    · have hjl : j = l.length := by omega
      subst hjl
      have hH : Hid (hasN l nm = false) := by have := hr.out; rw [List.take_length] at this; exact this
      clear hr
      go_wp2_with fail
      go_ret
      exact ⟨by rw [hH.out]; rfl, hk⟩
end Go.Proofs.YtboibllahibicabDoor

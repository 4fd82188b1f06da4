/- What a text's beginning says: the program's front. -/
import Derived.Test.YtboibllahibicaaDoorVpu
namespace Go.Proofs.YtboibllahibicaaDoor
open Go.RowKit Go.Hay
set_option linter.unusedVariables false
set_option linter.unusedSimpArgs false

/-- The library's errors are there. -/
def Errs (w : World) : Prop := ∃ (t1 : TypeId) (p1 : Value) (t2 : TypeId) (p2 : Value), w.var? Tryd.prog "strconv.ErrSyntax" = some #[.iface t1 p1] ∧ w.var? Tryd.prog "strconv.ErrRange" = some #[.iface t2 p2]
theorem varKept {w w' : World} {n : String} {cs : Array Value} (h : w.var? Tryd.prog n = some cs) (hk : Kp [] w w') : w'.var? Tryd.prog n = some cs := by
  unfold World.var? at *
  cases hg : Tryd.prog.globalNamed n with
  | none => simp [hg] at h
  | some g =>
    simp only [hg, Option.bind_some] at h ⊢
    have hlt : g < w.heap.size := by
      rcases Nat.lt_or_ge g w.heap.size with h' | h'
      · exact h'
      · rw [Array.getElem?_eq_none h'] at h; simp at h
    rw [hk.block g hlt (by simp)]
    exact h
theorem Errs.kept {w w' : World} (h : Errs w) (hk : Kp [] w w') : Errs w' := by
  obtain ⟨t1, p1, t2, p2, h1, h2⟩ := h
  exact ⟨t1, p1, t2, p2, varKept h1 hk, varKept h2 hk⟩
theorem gSyn : Tryd.prog.globalNamed "strconv.ErrSyntax" = some 1 := by kernel_rfl

/-- What ParseUint hands back, of two bytes. -/
def PuOut (l : List UInt8) (e : Ending) : Prop := (∃ n, pu 0 l = some n ∧ e = .returned (.tuple #[.int .u64 n, .nilIface])) ∨ (pu 0 l = none ∧ ∃ N, e = .returned (.tuple #[.int .u64 0, .iface 99 (.pointer (some ⟨N, 0, none⟩))]))

set_option maxHeartbeats 4000000 in
set_option maxRecDepth 100000 in
theorem cPu (t : ByteArray) (h2 : t.size = 2) (w : World) (he : Errs w) :
    Calls Tryd.prog 71 #[.string t, .int .i64 16, .int .i64 8] w fun e w' => PuOut t.data.toList e ∧ Kp [] w w' := by
  have h1 := cPuIn t h2 w
  cases hp : pu 0 t.data.toList with
  | some n =>
    rw [hp] at h1
    unfold puV at h1
    dsimp only at h1
    go_enter Tryd.func71, Tryd.ntmps71
    go_wp2_with fail
    refine h1.mono ?_
    rintro e w1 ⟨rfl, k1⟩
    go_wp2_with fail
    go_ret2
    exact ⟨Or.inl ⟨n, hp, rfl⟩, k1⟩
  | none =>
    rw [hp] at h1
    unfold puV at h1
    dsimp only at h1
    go_enter Tryd.func71, Tryd.ntmps71
    go_wp2_with fail
    refine h1.mono ?_
    rintro e w1 ⟨rfl, k1⟩
    obtain ⟨t1, p1, t2, p2, v1, v2⟩ := he.kept k1
    have hv : w1.cell? ⟨1, 0, none⟩ = some (.iface t1 p1) := by simpa using World.var?_cell gSyn v1 0
    go_wp2_with fail
    refine (Tryd.strconv_toError_syntax _ t 16 8 (.iface t1 p1) _ (by omega) hv (.inr ⟨t1, p1, rfl⟩)).mono ?_
    rintro e w2 ⟨N, rfl, _, _, hb⟩
    go_wp2_with fail
    go_ret2
    exact ⟨Or.inr ⟨hp, N, rfl⟩, k1.trans (Kp.ofBelow hb []) (by simp)⟩

theorem dig_lt (c : UInt8) (d : Nat) (h : dig c = some d) : d < 16 := by
  have hc := c.toNat_lt
  unfold dig at h
  split at h
  · cases h; omega
  split at h
  · cases h; omega
  · cases h
theorem pu_two (a b : UInt8) (n : Nat) (h : pu 0 [a, b] = some n) : n < 256 := by
  rw [pu] at h
  cases ha : dig a with
  | none => rw [ha] at h; cases h
  | some d =>
    rw [ha] at h
    dsimp only at h
    rw [pu] at h
    cases hb : dig b with
    | none => rw [hb] at h; cases h
    | some d2 =>
      rw [hb] at h
      dsimp only at h
      rw [pu] at h
      have h1 := dig_lt a d ha
      have h2 := dig_lt b d2 hb
      cases h
      omega

/-- The byte that a text begins with, and how many bytes write it. -/
def frontV : List UInt8 → UInt8 × Nat
  | [] => (0, 0)
  | c :: r => if c = 92 then (match r with
    | [] => (0, 0)
    | d :: r2 => if d = 120 then (match r2 with
      | x :: y :: _ => (match pu 0 [x, y] with
        | some n => (UInt8.ofNat n, 4)
        | none => (0, 0))
      | _ => (0, 0)) else (d, 2)) else (c, 1)
theorem dig_hex (n : Nat) (h : n < 16) : dig (hexB n) = some n := by
  match n, h with
  | 0, _ => decide
  | 1, _ => decide
  | 2, _ => decide
  | 3, _ => decide
  | 4, _ => decide
  | 5, _ => decide
  | 6, _ => decide
  | 7, _ => decide
  | 8, _ => decide
  | 9, _ => decide
  | 10, _ => decide
  | 11, _ => decide
  | 12, _ => decide
  | 13, _ => decide
  | 14, _ => decide
  | 15, _ => decide
  | n + 16, h => omega
theorem pu_hex (c : UInt8) : pu 0 [hexB (c.toNat / 16), hexB (c.toNat % 16)] = some c.toNat := by
  have hc := c.toNat_lt
  rw [pu, dig_hex _ (by omega)]
  dsimp only
  rw [pu, dig_hex _ (by omega)]
  dsimp only
  rw [pu]
  congr 1
  omega
theorem front_esc (c : UInt8) (r : List UInt8) : frontV (escB c ++ r) = (c, (escB c).length) := by
  unfold escB
  by_cases h1 : c = 34 ∨ c = 92
  · rw [if_pos h1]
    rcases h1 with rfl | rfl
    · rfl
    · rfl
  · rw [if_neg h1]
    by_cases h2 : c.toNat < 32 ∨ 126 < c.toNat
    · rw [if_pos h2]
      show frontV (92 :: 120 :: hexB (c.toNat / 16) :: hexB (c.toNat % 16) :: r) = _
      unfold frontV
      try dsimp only
      rw [if_pos rfl]
      try dsimp only
      rw [if_pos rfl]
      try dsimp only
      rw [pu_hex]
      simp
    · rw [if_neg h2]
      show frontV (c :: r) = _
      unfold frontV
      try dsimp only
      rw [if_neg (fun e => h1 (.inr e))]
      rfl
theorem front_le (l : List UInt8) : (frontV l).2 ≤ l.length := by
  unfold frontV
  split
  · simp
  · split
    · split
      · simp
      · split
        · split
          · split <;> simp
          · simp
        · simp
    · simp
end Go.Proofs.YtboibllahibicaaDoor

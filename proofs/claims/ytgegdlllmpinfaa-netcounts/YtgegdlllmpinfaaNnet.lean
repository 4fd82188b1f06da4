/- How a net lies in memory; its calls New, Len, has, lay, Send, At, Double. -/
import Derived.Test.YtgegdlllmpinfaaRows
import Derived.Test.YtgegdlllmpinfaaGel
import Derived.Handy
import Derived.BigQuiet
import Derived.Laws.IdiomStrings
import Derived.Laws.BytesArg
namespace Go.Proofs.Ytgegdlllmpinfaa
open Go.RowKit Go.Hay
set_option linter.unusedVariables false
set_option linter.unusedSimpArgs false

/-- A message. -/
structure Msg where
  to : Int
  body : List UInt8
def MsgE : El Msg where
  n := 2
  c m := [.int .i64 m.to, .string ⟨m.body.toArray⟩]
  len _ := rfl
  one _ u hu := by simp at hu; rcases hu with rfl | rfl <;> rfl
  pos := by decide
abbrev RowM := MsgE.Row
/-- A net as a plain value. -/
structure Nt where
  room : Int
  l : List Msg
def putN (n : Nt) (m : Msg) : Nt × Int := if (n.l.length : Int) ≥ n.room then (n, 50) else ({ n with l := n.l ++ [m] }, 0)
def atN (n : Nt) (i : Int) : Option Msg := if 0 ≤ i then n.l[i.toNat]? else none
def dropN (n : Nt) (i : Int) : Nt := if 0 ≤ i then { n with l := n.l.eraseIdx i.toNat } else n
def dblN (n : Nt) (i : Int) : Nt × Int := match atN n i with | none => (n, 51) | some m => putN n m
theorem atN_some {n : Nt} {i : Int} {m : Msg} (h : atN n i = some m) : ∃ k : Nat, i = k ∧ n.l[k]? = some m ∧ k < n.l.length := by
  unfold atN at h
  split at h
  · refine ⟨i.toNat, by omega, h, (List.getElem?_eq_some_iff.1 h).1⟩
  · cases h
theorem atN_none {n : Nt} {i : Int} (h : atN n i = none) : i < 0 ∨ (n.l.length : Int) ≤ i := by
  unfold atN at h
  split at h
  · rw [List.getElem?_eq_none_iff] at h; omega
  · omega
theorem atN_nat {n : Nt} (k : Nat) : atN n k = n.l[k]? := by unfold atN; rw [if_pos (by omega)]; rfl

/-- A net lies at p; its cell 1 holds v. -/
structure Net (w : World) (p : Nat) (v : Value) (n : Nt) : Prop where
  c0 : w.cell? ⟨p, 0, none⟩ = some (.int .i64 n.room)
  c1 : w.cell? ⟨p, 1, none⟩ = some v
  free : ∀ j, w.frozen? ⟨p, j, none⟩ = false
  row : RowM w v n.l
  apart : p ∉ own v
section
variable {w w' : World} {p : Nat} {v : Value} {n : Nt}
theorem Net.lt (h : Net w p v n) : p < w.heap.size := World.block_lt_of_cell? _ _ h.c0
theorem Net.ltAll (h : Net w p v n) : ∀ k ∈ p :: own v, k < w.heap.size := fun k hk => by
  rcases List.mem_cons.1 hk with rfl | hk
  · exact h.lt
  · exact h.row.lt k hk
theorem Net.kept {S : List Nat} (h : Net w p v n) (hk : Kp S w w') (hn : ∀ k ∈ p :: own v, k ∉ S) : Net w' p v n :=
  ⟨(hk.cell (p := ⟨p, 0, none⟩) h.lt (hn p (by simp))).trans h.c0, (hk.cell (p := ⟨p, 1, none⟩) h.lt (hn p (by simp))).trans h.c1, fun j => (hk.frozen (p := ⟨p, j, none⟩) h.lt (hn p (by simp))).trans (h.free j), h.row.kept hk (fun k hk' => hn k (by simp [hk'])), h.apart⟩
theorem Net.keptNew (h : Net w p v n) (hk : Kp [] w w') : Net w' p v n := h.kept hk (by simp)
end
theorem off_ne {p i j : Nat} (h : i ≠ j) : (⟨p, i, none⟩ : Addr) ≠ ⟨p, j, none⟩ := fun e => h (by injection e)
theorem setCell_off {w : World} {p i j : Nat} (h : i ≠ j) (v : Value) : (w.setCell ⟨p, j, none⟩ v).cell? ⟨p, i, none⟩ = w.cell? ⟨p, i, none⟩ := World.cell?_setCell_other _ _ _ _ (off_ne (Ne.symm h))
/-- Behind an append onto the net's row, and the store of the row into its cell. -/
theorem Net.stored {w w0 w1 : World} {p : Nat} {v v' : Value} {n n' : Nt} (h : Net w p v n) (h0 : Kp [] w w0) (er : n'.room = n.room) (hr : RowM w1 v' n'.l) (hg : Kp (own v) w0 w1) (hnew : ∀ k ∈ own v', k ∈ own v ∨ w0.heap.size ≤ k) :
    w1.cell? ⟨p, 1, none⟩ = some v ∧ w1.frozen? ⟨p, 1, none⟩ = false ∧ Net (w1.setCell ⟨p, 1, none⟩ v') p v' n' ∧ Wrote p v w v' (w1.setCell ⟨p, 1, none⟩ v') := by
  have hlt := h.lt
  have hnew' : ∀ k ∈ own v', k ∈ own v ∨ w.heap.size ≤ k := fun k hk => (hnew k hk).imp id (Nat.le_trans h0.size)
  have k1 : Kp (own v) w w1 := (h0.mono (T := own v) (by simp)).trans hg (fun _ hx => .inl hx)
  have hpv : p ∉ own v := h.apart
  have hpv' : p ∉ own v' := fun hp => by rcases hnew' p hp with h1 | h1; exact hpv h1; omega
  have c0 : w1.cell? ⟨p, 0, none⟩ = some (.int .i64 n.room) := (k1.cell hlt hpv).trans h.c0
  have c1 : w1.cell? ⟨p, 1, none⟩ = some v := (k1.cell hlt hpv).trans h.c1
  have fr : ∀ j, w1.frozen? ⟨p, j, none⟩ = false := fun j => (k1.frozen (p := ⟨p, j, none⟩) hlt hpv).trans (h.free j)
  have k2 : Kp [p] w1 (w1.setCell ⟨p, 1, none⟩ v') := (Kp.refl [p] w1).setCell (by simp) _
  refine ⟨c1, fr 1, ⟨(setCell_off (by decide) _).trans (by rw [er]; exact c0), World.cell?_setCell_same _ _ _ c1, fun j => (World.frozen?_setCell _ _ _ _).trans (fr j), hr.kept k2 (fun k hk e => ?_), hpv'⟩, ⟨?_, hnew'⟩⟩
  · rw [List.mem_singleton] at e; subst e; exact hpv' hk
  · exact (k1.mono (T := p :: own v) (fun x hx => .inl (by simp [hx]))).setCell (by simp) _

/-- Bytes that a slice sees, as a string. -/
theorem convSees {w : World} {a : Option Addr} {l : List UInt8} (h : Sees w a l) (c : Nat) : (convert 27 9 (.slice a l.length c)).run Try.prog w = .ok (.string ⟨l.toArray⟩) w := by
  rcases h with rfl | ⟨g, o, rfl, hc⟩
  · cases a with
    | none => exact run_convert_bytes_nil w 27 5 Try.underlying27 Try.underlying5 0 c 9 Try.underlying9
    | some ad => exact run_convert_bytes_back (P := Try.prog) w 27 9 5 ad c [] Try.underlying27 Try.underlying5 Try.underlying9 (fun j hj => by simp at hj)
  · refine run_convert_bytes_back (P := Try.prog) w 27 9 5 ⟨g, o, none⟩ c l Try.underlying27 Try.underlying5 Try.underlying9 (fun j hj => ?_)
    rw [Addr.add_lit]
    exact hc j l[j] (by simp)
theorem cellNew (w : World) (C : Array Value) (t : TypeId) (fr : Nat × Nat) (j : Nat) : (w.alloc (.cells C t fr)).cell? ⟨w.heap.size, j, none⟩ = C[j]? := by
  have e : (w.alloc (.cells C t fr)).heap[w.heap.size]? = some (.cells C t fr) := by show (w.heap.push (.cells C t fr))[w.heap.size]? = _; simp
  unfold World.cell?; rw [e]; rfl
theorem frozenNew (w : World) (C : Array Value) (t : TypeId) (f g : Nat) (j : Nat) (h : j < f) : (w.alloc (.cells C t (f, g))).frozen? ⟨w.heap.size, j, none⟩ = false := by
  have e : (w.alloc (.cells C t (f, g))).heap[w.heap.size]? = some (.cells C t (f, g)) := by show (w.heap.push (.cells C t (f, g)))[w.heap.size]? = _; simp
  unfold World.frozen?; rw [e]; simp; omega
/-- A string, as bytes of its own. -/
theorem convBytes (w : World) (l : List UInt8) (hl : l.length ≤ 200000000000000) : ∃ c w1, (convert 9 27 (.string ⟨l.toArray⟩)).run Try.prog w = .ok (.slice (some ⟨w.heap.size, 0, none⟩) l.length c) w1 ∧ Row w1 (.slice (some ⟨w.heap.size, 0, none⟩) l.length c) l ∧ Kp [] w w1 ∧ w1.heap.size = w.heap.size + 1 := by
  have h := run_bytes_of_string (P := Try.prog) w 9 27 5 ⟨l.toArray⟩ Try.underlying9 Try.underlying27 Try.underlying5
  have hsz : ByteArray.size ⟨l.toArray⟩ = l.length := by simp [ByteArray.size]
  rw [hsz] at h
  have hge := grownCap_ge w l.length 0 5
  have hcm := grownCap_le_maxLen w l.length 0 5 (by unfold maxLen; omega)
  have hbs : (bytesRow ⟨l.toArray⟩ (grownCap w l.length 0 5)).size = grownCap w l.length 0 5 := by simp [bytesRow, ByteArray.size]; omega
  refine ⟨_, _, h, .inr ⟨w.heap.size, 0, _, rfl, hge, hcm, by simp, ?_, ?_⟩, (Kp.refl _ w).drew.alloc _, by simp⟩
  · intro j u hu
    refine (cellNew w.drew _ _ _ _).trans ?_
    have hj : j < l.length := (List.getElem?_eq_some_iff.1 hu).1
    rw [Nat.zero_add]
    unfold bytesRow
    rw [Array.getElem?_append_left (by simp; exact hj)]
    simp [hu]
  · intro j hj
    refine ⟨?_, frozenNew w.drew _ _ _ _ _ (by rw [hbs]; omega)⟩
    refine (congrArg Option.isSome (cellNew w.drew _ _ _ _)).trans ?_
    rw [Nat.zero_add, Array.getElem?_eq_getElem (by rw [hbs]; exact hj)]
    rfl
theorem info3 {P : Program} {t : TypeId} {z : Value} {a b : Nat} (h : (P.info? t).map (fun i => (i.zero, i.size, i.bytes)) = some (some z, a, b)) : ∃ i, P.info? t = some i ∧ i.zero = some z ∧ i.size = a ∧ i.bytes = b := by
  cases hp : P.info? t with
  | none => rw [hp] at h; cases h
  | some i =>
    rw [hp] at h
    simp at h
    exact ⟨i, rfl, h.1, h.2.1, h.2.2⟩
theorem infoM : ∃ i : TypeInfo, Try.prog.info? 43 = some i ∧ i.zero = some (.agg #[.int .i64 0, .string ⟨#[]⟩]) ∧ i.size = 2 ∧ i.bytes = 24 := info3 (by kernel_rfl)

theorem cNew (room : Int) (w : World) : Calls Try.prog 13 #[.int .i64 room] w (fun e w' => e = .returned (.pointer (some ⟨w.heap.size, 0, none⟩)) ∧ Net w' w.heap.size (.slice none 0 0) ⟨room, []⟩ ∧ Kp [] w w') := by
  go_enter Try.func13, Try.ntmps13
  go_wp2_with fail
  go_returns
  exact ⟨rfl, ⟨World.cell?_alloc_new w _ _ 0, World.cell?_alloc_new w _ _ 1, fun j => World.frozen?_alloc_new w _ _ j, El.Row.nil _, by simp [own, Value.ownBlock]⟩, (Kp.refl _ _).alloc _⟩
theorem cLen {w : World} {p : Nat} {v : Value} {n : Nt} (h : Net w p v n) : Calls Try.prog 11 #[.pointer (some ⟨p, 0, none⟩)] w (fun e w' => e = .returned (.int .i64 (n.l.length : Int)) ∧ w' = w) := by
  have c1 := h.c1
  obtain ⟨a, c, rfl, _⟩ := h.row.see
  go_enter Try.func11, Try.ntmps11
  go_wp2_with fail
  go_returns
  exact ⟨rfl, rfl⟩
theorem cHasY {w : World} {p : Nat} {v : Value} {n : Nt} (h : Net w p v n) (k : Nat) (hk : k < n.l.length) : Calls Try.prog 14 #[.pointer (some ⟨p, 0, none⟩), .int .i64 (k : Int)] w (fun e w' => e = .returned (.bool true) ∧ w' = w) := by
  have c1 := h.c1
  obtain ⟨a, c, rfl, _⟩ := h.row.see
  go_enter Try.func14, Try.ntmps14
  go_wp2_with fail
  go_returns
  simp
theorem cHasN {w : World} {p : Nat} {v : Value} {n : Nt} (h : Net w p v n) (i : Int) (hi : i < 0 ∨ (n.l.length : Int) ≤ i) : Calls Try.prog 14 #[.pointer (some ⟨p, 0, none⟩), .int .i64 i] w (fun e w' => e = .returned (.bool false) ∧ w' = w) := by
  have c1 := h.c1
  obtain ⟨a, c, rfl, _⟩ := h.row.see
  go_enter Try.func14, Try.ntmps14
  by_cases h0 : 0 ≤ i
  · go_wp2_with fail
    go_returns
    simp; omega
  · go_wp2_with fail
    go_returns
    simp
end Go.Proofs.Ytgegdlllmpinfaa

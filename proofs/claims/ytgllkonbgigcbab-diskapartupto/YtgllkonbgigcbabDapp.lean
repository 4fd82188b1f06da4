/- Rows of bytes of the calls' own: appends, cuts, copies; a disk's file changed in its place. -/
import Derived.Test.YtgllkonbgigcbabDok
import Derived.Test.YtgllkonbgigcbabDmem
import Derived.BigQuiet
import Derived.Deep.QuietTactic
import Derived.Laws.Cover3
namespace Go.Proofs.Ytgllkonbgigcbab
open Go.RowKit Go.Hay
set_option linter.unusedVariables false
set_option linter.unusedSimpArgs false

/-- What a call that appends onto v may turn: v's own block; the row behind it is that one, or new. -/
structure Grew (v : Value) (w : World) (v' : Value) (w' : World) : Prop where
  kp : Kp (own v) w w'
  new : ∀ k ∈ own v', k ∈ own v ∨ w.heap.size ≤ k
theorem info3 {P : Program} {t : TypeId} {z : Value} {a b : Nat} (h : (P.info? t).map (fun i => (i.zero, i.size, i.bytes)) = some (some z, a, b)) : ∃ i, P.info? t = some i ∧ i.zero = some z ∧ i.size = a ∧ i.bytes = b := by
  cases hp : P.info? t with
  | none => rw [hp] at h; cases h
  | some i =>
    rw [hp] at h
    simp at h
    exact ⟨i, rfl, h.1, h.2.1, h.2.2⟩
theorem infoU : ∃ i : TypeInfo, Try.prog.info? 5 = some i ∧ i.zero = some (.int .u8 0) ∧ i.size = 1 ∧ i.bytes = 1 := info3 (by kernel_rfl)
/-- An append of what a slice sees. -/
theorem wpAppR {w : World} {ops : Array Oper} {rest : List Oper} {o : Oper} {a : Act} {Q : Exit → Act → World → Prop} (hgd : o.guard = none) (s x : Operand)
    (ho : o.op = .call { callee := .builtin .append, args := #[s, x], argTypes := #[26, 26] })
    (v : Value) (xs : List UInt8) (hv : a.eval s = v) (hown : Row w v xs) (sa : Option Addr) (m c : Nat) (bs : List UInt8) (hx : a.eval x = .slice sa m c) (hm : m = bs.length) (hs : Sees w sa bs) (hb : xs.length + bs.length ≤ 200000000000000)
    (hK : ∀ ys a' c' w', Hid (ys = xs ++ bs) → ys.length ≤ xs.length + bs.length → Row w' (.slice a' ys.length c') ys → Grew v w (.slice a' ys.length c') w' → wpList Try.prog ops Q rest (a.put o.dst (.slice a' ys.length c')) w') : wpList Try.prog ops Q (o :: rest) a w := by
  obtain ⟨i0, hi, hz0, hz1, hz2⟩ := infoU
  subst hm
  exact wpList_append_src _ hgd s x 26 26 ho i0 Try.underlying26 hi hz0 hz1 hz2 v xs hv hown _ bs hx (hs.src Try.underlying26 c) hb (fun v' w' h1 h2 h3 => by obtain ⟨a', c', rfl, _⟩ := h1.shape; exact hK _ a' c' w' rfl (by simp) h1 ⟨h2, h3⟩)
/-- A row of no bytes, in a block of its own. -/
theorem rowNone (w : World) {q : Nat} (hq : w.heap.size = q) (C : Array Value) (t : TypeId) : Row (w.alloc (.cells C t)) (.slice (some ⟨q, 0, none⟩) 0 0) [] := by
  subst hq
  exact .inr ⟨_, 0, 0, rfl, Nat.le_refl _, Nat.zero_le _, by simp, by intro j u hu; simp at hu, by intro j hj; omega⟩

/-- A copy: a row all new. -/
def CloneP (bs : List UInt8) (w : World) (e : Ending) (w' : World) : Prop := ∃ a c, e = .returned (.slice a bs.length c) ∧ Row w' (.slice a bs.length c) bs ∧ Kp [] w w' ∧ ∀ k ∈ blk a, w.heap.size ≤ k
theorem eqNilS (a : Option Addr) (n c : Nat) (w : World) : (binOp .eql 26 (.slice a n c) (.slice none 0 0)).run Try.prog w = .ok (.bool a.isNone) w := by
  simp only [binOp]
  simp [run_equal_slice_nil w 26 5 a n c Try.underlying26]
theorem own_slice (a : Option Addr) (n c : Nat) : own (.slice a n c) = blk a := by cases a <;> rfl
set_option maxRecDepth 100000 in
theorem cCloneB (a : Option Addr) (c : Nat) (bs : List UInt8) (w : World) (hs : Sees w a bs) (hc : a = none → bs = [] ∧ c = 0) (hb : bs.length ≤ 140737488355328) :
    Calls Try.prog 27 #[.slice a bs.length c] w (CloneP bs w) := by
  cases a with
  | none =>
    obtain ⟨rfl, rfl⟩ := hc rfl
    have e1 := eqNilS none 0 0
    go_enter Try.func27, Try.ntmps27
    go_wp2_with fail
    go_ret
    exact ⟨none, 0, rfl, Row.nil _, Kp.refl _ _, by simp [blk]⟩
  | some ad =>
    have e0 := eqNilS (some ad) bs.length c
    go_enter Try.func27, Try.ntmps27
    clear hc
    have k1 : Kp [] w (w.alloc (.cells #[] 5)) := (Kp.refl _ _).alloc _
    have hr := rowNone w rfl #[] 5
    have hs1 := hs.kept k1 (by simp)
    go_wp2_with (first | (refine wpAppR rfl _ _ rfl _ [] rfl hr _ _ _ bs rfl rfl hs1 (by simp; omega) ?_; intro ys a' c' w' hy hyl hrow hg) | fail)
    go_ret
    have e : ys = bs := by rw [hy.out]; rfl
    subst e
    refine ⟨a', c', rfl, hrow, k1.trans hg.kp (fun k hk => .inr ?_), fun k hk => ?_⟩
    · simp [own, Value.ownBlock, Act.eval] at hk; omega
    · rcases hg.new k (by rw [own_slice]; exact hk) with h1 | h1
      · simp [own, Value.ownBlock, Act.eval] at h1; omega
      · exact Nat.le_trans k1.size h1
end Go.Proofs.Ytgllkonbgigcbab

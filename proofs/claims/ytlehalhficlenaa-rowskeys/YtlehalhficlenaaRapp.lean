/- Rows of bytes of the calls' own, that grow: an append, for the walk. -/
import Derived.Test.YtlehalhficlenaaVdef
import Derived.Test.YtlehalhficlenaaRmat
namespace Go.Proofs.Ytlehalhficlenaa
open Go.RowKit Go.Hay
set_option linter.unusedVariables false
set_option linter.unusedSimpArgs false

/-- What a call that appends onto v may turn: v's own block; the row behind it is that one, or new. -/
structure Grew (v : Value) (w : World) (v' : Value) (w' : World) : Prop where
  kp : Kp (own v) w w'
  new : ∀ k ∈ own v', k ∈ own v ∨ w.heap.size ≤ k
theorem Grew.refl (v : Value) (w : World) : Grew v w v w := ⟨Kp.refl _ _, fun _ h => .inl h⟩
theorem Grew.trans {v v1 v2 : Value} {w w1 w2 : World} (h : Grew v w v1 w1) (k : Grew v1 w1 v2 w2) : Grew v w v2 w2 :=
  ⟨h.kp.trans k.kp (fun x hx => h.new x hx), fun x hx => by
      rcases k.new x hx with h1 | h1
      · exact h.new x h1
      · exact .inr (Nat.le_trans h.kp.size h1)⟩
theorem Grew.pre {v v1 : Value} {w w0 w1 : World} (h : Kp [] w w0) (k : Grew v w0 v1 w1) : Grew v w v1 w1 :=
  ⟨(h.mono (T := own v) (by simp)).trans k.kp (fun _ hx => .inl hx), fun x hx => (k.new x hx).imp id (Nat.le_trans h.size)⟩
theorem Grew.post {v v1 : Value} {w w1 w2 : World} (h : Grew v w v1 w1) (k : Kp [] w1 w2) : Grew v w v1 w2 := ⟨h.kp.trans k (by simp), h.new⟩
/-- Where v is no older than the call. -/
theorem Grew.fresh {v v' : Value} {w wn wm : World} (h : Grew v wn v' wm) (kw : Kp [] w wn) (ho : ∀ k ∈ own v, w.heap.size ≤ k) : Kp [] w wm ∧ ∀ k ∈ own v', w.heap.size ≤ k := stepA kw ho h.kp h.new

theorem kpNew (w : World) (o : Obj) : Kp [] w (w.alloc o) := (Kp.refl _ _).alloc _
theorem rowKeep {w w' : World} {v : Value} {bs : List UInt8} (h : Row w v bs) (hk : Kp [] w w') : Row w' v bs := h.kept hk (by simp)
theorem seesKeep {w w' : World} {a : Option Addr} {bs : List UInt8} (h : Sees w a bs) (hk : Kp [] w w') : Sees w' a bs := h.kept hk (by simp)
theorem boxKeep {w w' : World} {q : Nat} {a b c d : Value} (h : Box4 w q a b c d) (hk : Kp [] w w') : Box4 w' q a b c d := h.kept hk (by simp)
/-- A box that is no row's. -/
theorem boxGrew {w w' : World} {q : Nat} {a b c d v v' : Value} (h : Box4 w q a b c d) (hg : Grew v w v' w') (hq : q ∉ own v) : Box4 w' q a b c d := h.kept hg.kp hq
theorem info3 {P : Program} {t : TypeId} {z : Value} {a b : Nat} (h : (P.info? t).map (fun i => (i.zero, i.size, i.bytes)) = some (some z, a, b)) : ∃ i, P.info? t = some i ∧ i.zero = some z ∧ i.size = a ∧ i.bytes = b := by
  cases hp : P.info? t with
  | none => rw [hp] at h; cases h
  | some i =>
    rw [hp] at h
    simp at h
    exact ⟨i, rfl, h.1, h.2.1, h.2.2⟩
theorem infoU : ∃ i : TypeInfo, Try.prog.info? 5 = some i ∧ i.zero = some (.int .u8 0) ∧ i.size = 1 ∧ i.bytes = 1 := info3 (by kernel_rfl)

/-- An append of what a slice sees. -/
theorem wpAppR {w : World} {ops : Array Oper} {rest : List Oper} {o : Oper} {a : Act} {Q : Exit → Act → World → Prop} (hgd : o.guard = none) (s x : Operand)
    (ho : o.op = .call { callee := .builtin .append, args := #[s, x], argTypes := #[23, 23] })
    (v : Value) (xs : List UInt8) (hv : a.eval s = v) (hown : Row w v xs) (sa : Option Addr) (m c : Nat) (bs : List UInt8) (hx : a.eval x = .slice sa m c) (hm : m = bs.length) (hs : Sees w sa bs) (hb : xs.length + bs.length ≤ 200000000000000)
    (hK : ∀ ys a' c' w', Hid (ys = xs ++ bs) → ys.length ≤ xs.length + bs.length → Row w' (.slice a' ys.length c') ys → Grew v w (.slice a' ys.length c') w' → wpList Try.prog ops Q rest (a.put o.dst (.slice a' ys.length c')) w') : wpList Try.prog ops Q (o :: rest) a w := by
  obtain ⟨i0, hi, hz0, hz1, hz2⟩ := infoU
  subst hm
  exact wpList_append_src _ hgd s x 23 23 ho i0 Try.underlying23 hi hz0 hz1 hz2 v xs hv hown _ bs hx (hs.src Try.underlying23 c) hb (fun v' w' h1 h2 h3 => by obtain ⟨a', c', rfl, _⟩ := h1.shape; exact hK _ a' c' w' rfl (by simp) h1 ⟨h2, h3⟩)
theorem bcells_byteCells (s : ByteArray) : byteCells s = bcells s.data.toList := by
  simp [byteCells, bcells]
/-- An append of a string's bytes. -/
theorem wpAppS {w : World} {ops : Array Oper} {rest : List Oper} {o : Oper} {a : Act} {Q : Exit → Act → World → Prop} (hgd : o.guard = none) (s x : Operand)
    (ho : o.op = .call { callee := .builtin .append, args := #[s, x], argTypes := #[23, 9] })
    (v : Value) (xs : List UInt8) (hv : a.eval s = v) (hown : Row w v xs) (t : ByteArray) (hx : a.eval x = .string t) (hb : xs.length + t.size ≤ 200000000000000)
    (hK : ∀ ys a' c' w', Hid (ys = xs ++ t.data.toList) → ys.length ≤ xs.length + t.size → Row w' (.slice a' ys.length c') ys → Grew v w (.slice a' ys.length c') w' → wpList Try.prog ops Q rest (a.put o.dst (.slice a' ys.length c')) w') : wpList Try.prog ops Q (o :: rest) a w := by
  obtain ⟨i0, hi, hz0, hz1, hz2⟩ := infoU
  have hlen : t.data.toList.length = t.size := by simp
  have hs := Src.ofString (P := Try.prog) w (tx := 9) Try.underlying9 t
  rw [← hlen, bcells_byteCells] at hs
  exact wpList_append_src _ hgd s x 23 9 ho i0 Try.underlying23 hi hz0 hz1 hz2 v xs hv hown _ t.data.toList hx hs (by rw [hlen]; exact hb) (fun v' w' h1 h2 h3 => by obtain ⟨a', c', rfl, _⟩ := h1.shape; exact hK _ a' c' w' rfl (by simp) h1 ⟨h2, h3⟩)
/-- One byte, two bytes in a new block. -/
theorem seesOne (w : World) {q : Nat} (hq : w.heap.size = q) (x : Int) (h0 : 0 ≤ x) (h1 : x ≤ 255) (t : TypeId) : Sees (w.alloc (.cells #[.int .u8 x] t)) (some ⟨q, 0, none⟩) [octet x] := by
  subst hq
  exact Sees.new w _ t _ _ (by simp [bcells, octet_toNat x h0 h1])
theorem seesTwo (w : World) {q : Nat} (hq : w.heap.size = q) (x y : Int) (h0 : 0 ≤ x) (h1 : x ≤ 255) (g0 : 0 ≤ y) (g1 : y ≤ 255) (t : TypeId) : Sees (w.alloc (.cells #[.int .u8 x, .int .u8 y] t)) (some ⟨q, 0, none⟩) [octet x, octet y] := by
  subst hq
  exact Sees.new w _ t _ _ (by simp [bcells, octet_toNat x h0 h1, octet_toNat y g0 g1])
theorem rowNew (w : World) {q : Nat} (hq : w.heap.size = q) (x : Int) (h0 : 0 ≤ x) (h1 : x ≤ 255) (t : TypeId) : Row (w.alloc (.cells #[.int .u8 x] t)) (.slice (some ⟨q, 0, none⟩) 1 1) [octet x] := by
  subst hq
  refine .inr ⟨w.heap.size, 0, 1, rfl, Nat.le_refl _, by unfold maxLen; omega, by simp, ?_, ?_⟩
  · intro j u hu
    match j, hu with
    | 0, hu => cases hu; rw [octet_toNat x h0 h1]; exact World.cell?_alloc_new w _ _ 0
    | j + 1, hu => simp at hu
  · intro j hj
    obtain rfl : j = 0 := by omega
    exact ⟨by rw [show (w.alloc (.cells #[.int .u8 x] t)).cell? ⟨w.heap.size, 0 + 0, none⟩ = _ from World.cell?_alloc_new w _ _ 0]; rfl, World.frozen?_alloc_new w _ _ 0⟩
end Go.Proofs.Ytlehalhficlenaa

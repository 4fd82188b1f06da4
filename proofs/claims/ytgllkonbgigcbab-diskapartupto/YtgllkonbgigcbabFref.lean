/- The reference's disk, and its calls At, Free, joined, New, Wipe, Arm, step. -/
import Derived.Test.YtgllkonbgigcbabFfls
namespace Go.Proofs.Ytgllkonbgigcbab
open Go.RowKit Go.Hay
set_option linter.unusedVariables false
set_option linter.unusedSimpArgs false

/-- The reference's disk: its six fields. -/
structure RD where
  room : Int
  steps : Int
  fa : Option Addr
  fc : Nat
  l : List RF
  armed : Bool
  dead : Bool
  left : Int
def RD.v (r : RD) : Value := .agg #[.int .i64 r.room, .int .i64 r.steps, .slice r.fa r.l.length r.fc, .bool r.armed, .bool r.dead, .int .i64 r.left]
def RD.foot (r : RD) : List Nat := blk r.fa ++ r.l.flatMap fun f => blk f.ba
def FSee (w : World) (f : RF) : Prop := Sees w f.ba f.bytes ∧ (f.ba = none → f.bytes = [] ∧ f.bc = 0) ∧ f.bytes.length ≤ f.bc
structure RdOk (w : World) (r : RD) : Prop where
  fls : Fls w r.fa r.l
  see : ∀ f ∈ r.l, FSee w f
theorem RdOk.kept {w w' : World} {r : RD} {S : List Nat} (h : RdOk w r) (hk : Kp S w w') (hn : ∀ k ∈ r.foot, k ∉ S) : RdOk w' r :=
  ⟨h.fls.kept hk (fun k hk' => hn k (by simp [RD.foot, hk'])), fun f hf => ⟨(h.see f hf).1.kept hk (fun k hk' => hn k (by simp only [RD.foot, List.mem_append, List.mem_flatMap]; exact .inr ⟨f, hf, hk'⟩)), (h.see f hf).2⟩⟩
theorem RdOk.keptNew {w w' : World} {r : RD} (h : RdOk w r) (hk : Kp [] w w') : RdOk w' r := h.kept hk (by simp)
/-- It is the disk d. -/
structure Like (r : RD) (d : Dk) : Prop where
  room : r.room = d.room
  steps : r.steps = d.steps
  files : r.l.map RF.fl = d.files
  armed : r.armed = d.arm.isSome
  dead : r.dead = d.dead
  left : ∀ n : Nat, d.arm = some n → r.left = n
  lo : -9223372036854775808 ≤ r.left
  hi : r.left < 9223372036854775808

theorem strL (a : List UInt8) : (⟨a.toArray⟩ : ByteArray).toList = a := by rw [ByteArray.toList_eq]
theorem strEq (a b : List UInt8) : ((⟨a.toArray⟩ : ByteArray).toList == (⟨b.toArray⟩ : ByteArray).toList) = (a == b) := by rw [strL, strL]
theorem lessEq : ∀ (a b : List UInt8), Op.bytesLess a b = bytesBefore a b
  | [], [] => rfl
  | [], _ :: _ => rfl
  | _ :: _, [] => rfl
  | x :: r, y :: s => by simp [Op.bytesLess, bytesBefore, lessEq r s]
theorem strLe (a b : List UInt8) : (Op.bytesLess (⟨a.toArray⟩ : ByteArray).toList (⟨b.toArray⟩ : ByteArray).toList || (⟨a.toArray⟩ : ByteArray).toList == (⟨b.toArray⟩ : ByteArray).toList) = leN a b := by rw [strL, strL, lessEq]; rfl
/-- A box of six cells. -/
structure B6 (w : World) (q : Nat) (a b c d e f : Value) : Prop where
  c0 : w.cell? ⟨q, 0, none⟩ = some a
  c1 : w.cell? ⟨q, 1, none⟩ = some b
  c2 : w.cell? ⟨q, 2, none⟩ = some c
  c3 : w.cell? ⟨q, 3, none⟩ = some d
  c4 : w.cell? ⟨q, 4, none⟩ = some e
  c5 : w.cell? ⟨q, 5, none⟩ = some f
  free : ∀ j, w.frozen? ⟨q, j, none⟩ = false
theorem B6.at {w : World} (q : Nat) (hq : w.heap.size = q) (a b c d e f : Value) (t : TypeId) : B6 (w.alloc (.cells #[a, b, c, d, e, f] t)) q a b c d e f := by
  subst hq
  exact ⟨World.cell?_alloc_new w _ _ 0, World.cell?_alloc_new w _ _ 1, World.cell?_alloc_new w _ _ 2, World.cell?_alloc_new w _ _ 3, World.cell?_alloc_new w _ _ 4, World.cell?_alloc_new w _ _ 5, fun j => World.frozen?_alloc_new w _ _ j⟩
theorem B6.lt {w : World} {q : Nat} {a b c d e f : Value} (h : B6 w q a b c d e f) : q < w.heap.size := World.block_lt_of_cell? _ _ h.c0
theorem B6.kept {w w' : World} {q : Nat} {a b c d e f : Value} (h : B6 w q a b c d e f) (hk : Kp [] w w') : B6 w' q a b c d e f :=
  ⟨cell_kp hk h.c0, cell_kp hk h.c1, cell_kp hk h.c2, cell_kp hk h.c3, cell_kp hk h.c4, cell_kp hk h.c5, fun j => (hk.frozen (p := ⟨q, j, none⟩) h.lt (by simp)).trans (h.free j)⟩

def AtP (l : List RF) (k : List UInt8) (w : World) (e : Ending) (w' : World) : Prop :=
  Kp [] w w' ∧ ((∃ (j : Nat) (x : RF), e = .returned (.int .i64 (j : Int)) ∧ l[j]? = some x ∧ lookG RF.name k l = some x) ∨ (e = .returned (.int .i64 (-1)) ∧ lookG RF.name k l = none))
theorem look_at {l : List RF} {k : List UInt8} {j : Nat} {x : RF} (h : ∀ i y, i < j → l[i]? = some y → y.name ≠ k) (hx : l[j]? = some x) (hn : x.name = k) : lookG RF.name k l = some x := by
  induction l generalizing j with
  | nil => simp at hx
  | cons y l ih =>
    cases j with
    | zero => simp at hx; subst hx; simp [lookG, hn]
    | succ j =>
      have h0 := h 0 y (by omega) rfl
      have : lookG RF.name k (y :: l) = lookG RF.name k l := by simp [lookG, h0]
      rw [this]
      exact ih (j := j) (fun i z hi hz => h (i + 1) z (by omega) (by simpa using hz)) (by simpa using hx)
theorem look_no {l : List RF} {k : List UInt8} (h : ∀ (i : Nat) (y : RF), l[i]? = some y → y.name ≠ k) : lookG RF.name k l = none := by
  unfold lookG
  rw [List.find?_eq_none]
  intro x hx
  obtain ⟨i, hi, rfl⟩ := List.mem_iff_getElem.1 hx
  simpa using h i l[i] (by simp)
set_option maxHeartbeats 2000000 in
theorem cAt (r : RD) (k : List UInt8) (w : World) (hr : RdOk w r) (hl : r.l.length ≤ 1000000000000) : Calls Try.prog 35 #[r.v, .string ⟨k.toArray⟩] w (AtP r.l k w) := by
  obtain ⟨room, steps, fa, fc, l, armed, dead, left⟩ := r
  have hf := hr.fls
  simp only [RD.v] at *
  have kb : Kp [] w (w.alloc (.cells #[.int .i64 room, .int .i64 steps, .slice fa l.length fc, .bool armed, .bool dead, .int .i64 left] 32)) := (Kp.refl _ _).alloc _
  have bx := B6.at (w := w) w.heap.size rfl (.int .i64 room) (.int .i64 steps) (.slice fa l.length fc) (.bool armed) (.bool dead) (.int .i64 left) 32
  have hfb := hf.kept kb (by simp)
  go_enter Try.func35, Try.ntmps35
  go_wp2_with fail
  go_loopw [5] (fun i wn => ∃ j : Nat, j ≤ l.length ∧ i = .int .i64 j ∧ Hid (∀ i y, i < j → l[i]? = some y → y.name ≠ k) ∧ wn = w.alloc (.cells #[.int .i64 room, .int .i64 steps, .slice fa l.length fc, .bool armed, .bool dead, .int .i64 left] 32)) (fun i _ => l.length - (intOf i).toNat)
  case atStart => exact ⟨0, Nat.zero_le _, rfl, fun i y hi => by omega, rfl⟩
  case round =>
    obtain ⟨j, hj, rfl, hno, rfl⟩ := hrel
    by_cases hjl : j < l.length
    · obtain ⟨x, hx⟩ : ∃ x, l[j]? = some x := ⟨l[j], by simp [hjl]⟩
      obtain ⟨g, o, rfl, c0, c1, c2⟩ := hfb.at hx
      by_cases hn : x.name = k
      · have hfin : AtP l k w (.returned (.int .i64 (j : Int))) (w.alloc (.cells #[.int .i64 room, .int .i64 steps, .slice (some ⟨g, o, none⟩) l.length fc, .bool armed, .bool dead, .int .i64 left] 32)) := ⟨kb, .inl ⟨j, x, rfl, hx, look_at hno.out hx hn⟩⟩
        have he1 : (x.name == k) = true := by simpa using hn
        clear hno hn hx
        go_wp2_with fail
        go_ret
        exact hfin
      · have hno' : Hid (∀ i y, i < j + 1 → l[i]? = some y → y.name ≠ k) := fun i y hi hy => by
          by_cases e : i = j
          · subst e; rw [hx] at hy; cases hy; exact hn
          · exact hno.out i y (by omega) hy
        have he1 : (x.name == k) = false := by simpa using hn
        clear hno hn hx
        go_wp2_with fail
        exact ⟨⟨j + 1, by omega, by go_num, hno', trivial⟩, by simp [intOf]; omega⟩
    · have hfin : AtP l k w (.returned (.int .i64 (-1))) (w.alloc (.cells #[.int .i64 room, .int .i64 steps, .slice fa l.length fc, .bool armed, .bool dead, .int .i64 left] 32)) := ⟨kb, .inr ⟨rfl, look_no (fun i y hy => hno.out i y (by have := (List.getElem?_eq_some_iff.1 hy).1; omega) hy)⟩⟩
      clear hno
      go_wp2_with fail
      go_ret
      exact hfin
end Go.Proofs.Ytgllkonbgigcbab

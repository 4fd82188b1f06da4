/- What bytes begin with: a value's bytes read: the program's takeFixed and takeValue, the reference's Front. -/
import Derived.Test.YtlehalhficlenaaRlng
import Derived.Test.YtlehalhficlenaaRone
import Derived.Laws.BytesArg
import Derived.Laws.IdiomStrings
namespace Go.Proofs.Ytlehalhficlenaa
open Go.RowKit Go.Hay
set_option linter.unusedVariables false
set_option linter.unusedSimpArgs false

/-- No value. -/
def nilV : Val := ⟨0, false, 0, ⟨#[]⟩⟩
/-- The null, the bool or the int that bytes begin with, and in how many bytes; 0: none. -/
def fixF (add : Int) : List UInt8 → Val × Nat
  | [] => (nilV, 0)
  | f :: r =>
    if f.toNat = 0 then (nilV, 1)
    else if f.toNat = 1 then (match r with | [] => (nilV, 0) | y :: _ => if y.toNat ≤ 1 then (⟨1, y.toNat == 1, 0, ⟨#[]⟩⟩, 2) else (nilV, 0))
    else if f.toNat = 2 then (if 8 ≤ r.length then (⟨2, false, wrap64 (num (r.take 8) - add), ⟨#[]⟩⟩, 9) else (nilV, 0))
    else (nilV, 0)
/-- The value that a row's bytes begin with. -/
def rowF : List UInt8 → Val × Nat
  | [] => (nilV, 0)
  | f :: r =>
    if f.toNat = 3 then (match r with | [] => (nilV, 0) | y :: s => if y.toNat ≤ 64 ∧ y.toNat ≤ s.length then (⟨3, false, 0, ⟨(s.take y.toNat).toArray⟩⟩, 2 + y.toNat) else (nilV, 0))
    else fixF 0 (f :: r)

/-- Eight bytes or more are an array of eight. -/
theorem arrAt (a : Option Addr) (c : Nat) (w : World) : (Instr.arrayAt 54 (.slice a 8 c)).run Try.prog w = .ok (.pointer a) w := by
  simp [Instr.arrayAt, go_sem]
/-- Bytes that a slice sees, as a string. -/
theorem convSees {w : World} {a : Option Addr} {l : List UInt8} (h : Sees w a l) (c : Nat) : (convert 23 9 (.slice a l.length c)).run Try.prog w = .ok (.string ⟨l.toArray⟩) w := by
  rcases h with rfl | ⟨g, o, rfl, hc⟩
  · cases a with
    | none => exact run_convert_bytes_nil w 23 5 Try.underlying23 Try.underlying5 0 c 9 Try.underlying9
    | some ad => exact run_convert_bytes_back (P := Try.prog) w 23 9 5 ad c [] Try.underlying23 Try.underlying5 Try.underlying9 (fun j hj => by simp at hj)
  · refine run_convert_bytes_back (P := Try.prog) w 23 9 5 ⟨g, o, none⟩ c l Try.underlying23 Try.underlying5 Try.underlying9 (fun j hj => ?_)
    rw [Addr.add_lit]
    exact hc j l[j] (by simp)
theorem Box4.put {w : World} {q : Nat} {a b c d : Value} (h : Box4 w q a b c d) (a' b' c' d' : Value) : Box4 ((((w.setCell ⟨q, 0, none⟩ a').setCell ⟨q, 1, none⟩ b').setCell ⟨q, 2, none⟩ c').setCell ⟨q, 3, none⟩ d') q a' b' c' d' := by
  have n0 : ∀ (w : World) (i j : Nat) (v : Value), i ≠ j → (w.setCell ⟨q, j, none⟩ v).cell? ⟨q, i, none⟩ = w.cell? ⟨q, i, none⟩ := fun w i j v hij => World.cell?_setCell_other _ _ _ _ (by intro e; simp only [Addr.mk.injEq] at e; omega)
  refine ⟨?_, ?_, ?_, ?_, fun j => ?_⟩
  · rw [n0 _ 0 3 _ (by omega), n0 _ 0 2 _ (by omega), n0 _ 0 1 _ (by omega)]
    exact World.cell?_setCell_same _ _ _ h.c0
  · rw [n0 _ 1 3 _ (by omega), n0 _ 1 2 _ (by omega)]
    exact World.cell?_setCell_same _ _ _ ((n0 _ 1 0 _ (by omega)).trans h.c1)
  · rw [n0 _ 2 3 _ (by omega)]
    exact World.cell?_setCell_same _ _ _ ((n0 _ 2 1 _ (by omega)).trans ((n0 _ 2 0 _ (by omega)).trans h.c2))
  · exact World.cell?_setCell_same _ _ _ ((n0 _ 3 2 _ (by omega)).trans ((n0 _ 3 1 _ (by omega)).trans ((n0 _ 3 0 _ (by omega)).trans h.c3)))
  · rw [World.frozen?_setCell, World.frozen?_setCell, World.frozen?_setCell, World.frozen?_setCell]; exact h.free j
theorem gen4 {w0 w : World} {q : Nat} {a b c d : Value} {R : World → Prop} (h : Box4 w q a b c d) (hk : Kp [] w0 w) (hq : w0.heap.size ≤ q) (a' b' c' d' : Value)
    (H : ∀ W, Box4 W q a' b' c' d' → Kp [] w0 W → R W) : R ((((w.setCell ⟨q, 0, none⟩ a').setCell ⟨q, 1, none⟩ b').setCell ⟨q, 2, none⟩ c').setCell ⟨q, 3, none⟩ d') :=
  H _ (h.put a' b' c' d') ((((hk.setCell (.inr hq) _).setCell (.inr hq) _).setCell (.inr hq) _).setCell (.inr hq) _)

/-- What a call that takes a value hands back. -/
def Tk (w : World) (r : Val × Nat) (e : Ending) (w' : World) : Prop := e = .returned (.tuple #[r.1.v, .int .i64 r.2]) ∧ Kp [] w w'

set_option maxHeartbeats 4000000 in
set_option maxRecDepth 100000 in
theorem cTakeFixed (a : Option Addr) (c : Nat) (bs : List UInt8) (add : Int) (w : World) (hs : Sees w a bs) (hl : bs.length ≤ c) (hm : c ≤ maxLen) :
    Calls Try.prog 28 #[.slice a bs.length c, .int .u64 add] w (Tk w (fixF add bs)) := by
  have kW : Kp [] w (w.alloc (.cells #[.int .i64 0, .bool false, .int .i64 0, .string ⟨#[]⟩] 35)) := (Kp.refl _ _).alloc _
  have bA := Box4.new w (.int .i64 0) (.bool false) (.int .i64 0) (.string ⟨#[]⟩) 35
  cases bs with
  | nil =>
    go_enter Try.func28, Try.ntmps28
    go_wp2_with fail
    all_goals refine bodyPost_ret (v := .tuple #[Val.v nilV, .int .i64 0]) (by simp [results, Try.results28, go_sem, Val.v, nilV]) rfl ⟨?_, kW⟩
    rfl
  | cons f r =>
    obtain ⟨g, o, rfl, hc⟩ : ∃ g o, a = some ⟨g, o, none⟩ ∧ ∀ j u, (f :: r)[j]? = some u → w.cell? ⟨g, o + j, none⟩ = some (.int .u8 u.toNat) := by
      rcases hs with h | h
      · cases h
      · exact h
    have hc0 : w.cell? ⟨g, o, none⟩ = some (.int .u8 f.toNat) := hc 0 f rfl
    have hg := World.block_lt_of_cell? _ _ hc0
    have hf := f.toNat_lt
    have htl := fun n : Nat => (show Sees w (some ⟨g, o + 1, none⟩) (r.take n) by have := (Sees.tail hs 1).front n; simpa [Addr.add_lit] using this)
    rw [List.length_cons] at hl ⊢
    unfold maxLen at hm
    by_cases h0 : f.toNat = 0
    · have HF : Hid (fixF add (f :: r) = (nilV, 1)) := by show _ = _; simp [fixF, h0]
      rw [h0] at hc0
      clear hc h0 hs htl hf
      generalize fixF add (f :: r) = R at *
      go_enter Try.func28, Try.ntmps28
      go_wp2_with fail
      refine (cNull _).mono ?_
      rintro e w1 ⟨rfl, k1⟩
      have bA1 := boxKeep bA k1
      have q0 := bA1.c0; have q1 := bA1.c1; have q2 := bA1.c2; have q3 := bA1.c3
      have f0 := bA1.free 0; have f1 := bA1.free 1; have f2 := bA1.free 2; have f3 := bA1.free 3
      have kk := kW.trans k1 (by simp)
      go_wp2_with fail
      refine gen4 (R := fun W => bodyPost _ _ _ _ _ W) bA1 kk (Nat.le_refl _) _ _ _ _ ?_
      intro W bW kW2
      have r0 := bW.c0; have r1 := bW.c1; have r2 := bW.c2; have r3 := bW.c3
      refine bodyPost_ret (v := .tuple #[Val.v nilV, .int .i64 1]) (by simp [results, Try.results28, go_sem, Val.v, nilV, r0, r1, r2, r3]) rfl ⟨?_, kW2⟩
      all_goals (rw [HF.out]; rfl)
    have e0 : ((f.toNat : Int) == 0) = false := by simp; omega
    by_cases h1 : f.toNat = 1
    · rw [h1] at hc0
      cases r with
      | nil =>
        have HF : Hid (fixF add (f :: []) = (nilV, 0)) := by show _ = _; simp [fixF, h1]
        clear hc h0 h1 hs htl hf e0
        generalize fixF add (f :: []) = R at *
        rw [List.length_nil] at hl ⊢
        go_enter Try.func28, Try.ntmps28
        go_wp2_with fail
        all_goals refine bodyPost_ret (v := .tuple #[Val.v nilV, .int .i64 0]) (by simp [results, Try.results28, go_sem, Val.v, nilV]) rfl ⟨?_, kW⟩
        all_goals (rw [HF.out]; rfl)
      | cons y s =>
        have hc1 : w.cell? ⟨g, o + 1, none⟩ = some (.int .u8 y.toNat) := hc 1 y rfl
        rw [List.length_cons] at hl ⊢
        have hy := y.toNat_lt
        by_cases hy1 : y.toNat ≤ 1
        · have HF : Hid (fixF add (f :: y :: s) = (⟨1, y.toNat == 1, 0, ⟨#[]⟩⟩, 2)) := by show _ = _; simp [fixF, h1, hy1]
          clear hc h0 h1 hs htl hf e0
          generalize fixF add (f :: y :: s) = R at *
          obtain ⟨b, Hb⟩ : ∃ b : Bool, Hid ((y.toNat == 1) = b) := ⟨_, rfl⟩
          rw [Hb.out] at HF
          have hbb : ((y.toNat : Int) == 1) = b := by rw [← Hb.out, Bool.eq_iff_iff]; simp; omega
          go_enter Try.func28, Try.ntmps28
          go_wp2_with fail
          refine (cBool b _).mono ?_
          rintro e w1 ⟨rfl, k1⟩
          have bA1 := boxKeep bA k1
          have q0 := bA1.c0; have q1 := bA1.c1; have q2 := bA1.c2; have q3 := bA1.c3
          have f0 := bA1.free 0; have f1 := bA1.free 1; have f2 := bA1.free 2; have f3 := bA1.free 3
          have kk := kW.trans k1 (by simp)
          go_wp2_with fail
          refine gen4 (R := fun W => bodyPost _ _ _ _ _ W) bA1 kk (Nat.le_refl _) _ _ _ _ ?_
          intro W bW kW2
          have r0 := bW.c0; have r1 := bW.c1; have r2 := bW.c2; have r3 := bW.c3
          refine bodyPost_ret (v := .tuple #[Val.v ⟨1, b, 0, ⟨#[]⟩⟩, .int .i64 2]) (by simp [results, Try.results28, go_sem, Val.v, nilV, r0, r1, r2, r3]) rfl ⟨?_, kW2⟩
          all_goals (rw [HF.out]; rfl)
        · have HF : Hid (fixF add (f :: y :: s) = (nilV, 0)) := by show _ = _; simp [fixF, h1, hy1]
          clear hc h0 h1 hs htl hf e0
          generalize fixF add (f :: y :: s) = R at *
          go_enter Try.func28, Try.ntmps28
          go_wp2_with fail
          all_goals refine bodyPost_ret (v := .tuple #[Val.v nilV, .int .i64 0]) (by simp [results, Try.results28, go_sem, Val.v, nilV]) rfl ⟨?_, kW⟩
          all_goals (rw [HF.out]; rfl)
    have e1 : ((f.toNat : Int) == 1) = false := by simp; omega
    by_cases h2 : f.toNat = 2
    · rw [h2] at hc0
      by_cases h8 : 8 ≤ r.length
      · have HF : Hid (fixF add (f :: r) = (⟨2, false, wrap64 (num (r.take 8) - add), ⟨#[]⟩⟩, 9)) := by show _ = _; simp [fixF, h2, h8]
        obtain ⟨x0, x1, x2, x3, x4, x5, x6, x7, hr8⟩ : ∃ x0 x1 x2 x3 x4 x5 x6 x7 : UInt8, Hid (r.take 8 = [x0, x1, x2, x3, x4, x5, x6, x7]) := by
          match r, h8 with
          | x0 :: x1 :: x2 :: x3 :: x4 :: x5 :: x6 :: x7 :: r', _ => exact ⟨x0, x1, x2, x3, x4, x5, x6, x7, rfl⟩
        have hs8 := htl 8
        rw [hr8.out] at HF hs8
        have hN := cLongNum [x0, x1, x2, x3, x4, x5, x6, x7] rfl
        have hnb := num_lt64 [x0, x1, x2, x3, x4, x5, x6, x7] (by simp)
        rw [show long8 [x0, x1, x2, x3, x4, x5, x6, x7] = .agg #[.int .u8 x0.toNat, .int .u8 x1.toNat, .int .u8 x2.toNat, .int .u8 x3.toNat, .int .u8 x4.toNat, .int .u8 x5.toNat, .int .u8 x6.toNat, .int .u8 x7.toNat] from rfl] at hN
        have p0 : w.cell? ⟨g, o + 1, none⟩ = some (.int .u8 x0.toNat) := (by rcases hs8 with h | ⟨_, _, h, hh⟩; cases h; cases h; exact hh 0 _ rfl)
        have p1 : w.cell? ⟨g, o + 1 + 1, none⟩ = some (.int .u8 x1.toNat) := (by rcases hs8 with h | ⟨_, _, h, hh⟩; cases h; cases h; exact hh 1 _ rfl)
        have p2 : w.cell? ⟨g, o + 1 + 2, none⟩ = some (.int .u8 x2.toNat) := (by rcases hs8 with h | ⟨_, _, h, hh⟩; cases h; cases h; exact hh 2 _ rfl)
        have p3 : w.cell? ⟨g, o + 1 + 3, none⟩ = some (.int .u8 x3.toNat) := (by rcases hs8 with h | ⟨_, _, h, hh⟩; cases h; cases h; exact hh 3 _ rfl)
        have p4 : w.cell? ⟨g, o + 1 + 4, none⟩ = some (.int .u8 x4.toNat) := (by rcases hs8 with h | ⟨_, _, h, hh⟩; cases h; cases h; exact hh 4 _ rfl)
        have p5 : w.cell? ⟨g, o + 1 + 5, none⟩ = some (.int .u8 x5.toNat) := (by rcases hs8 with h | ⟨_, _, h, hh⟩; cases h; cases h; exact hh 5 _ rfl)
        have p6 : w.cell? ⟨g, o + 1 + 6, none⟩ = some (.int .u8 x6.toNat) := (by rcases hs8 with h | ⟨_, _, h, hh⟩; cases h; cases h; exact hh 6 _ rfl)
        have p7 : w.cell? ⟨g, o + 1 + 7, none⟩ = some (.int .u8 x7.toNat) := (by rcases hs8 with h | ⟨_, _, h, hh⟩; cases h; cases h; exact hh 7 _ rfl)
        clear hc h0 h1 h2 hs htl hf hs8 hr8
        generalize fixF add (f :: r) = R at *
        generalize num [x0, x1, x2, x3, x4, x5, x6, x7] = m at *
        have hc9 : (9 : Nat) ≤ c := by omega
        have hAt := arrAt (some ⟨g, o + 1, none⟩) (c - 1)
        go_enter Try.func28, Try.ntmps28
        go_wp2_with fail
        refine (hN _).mono ?_
        rintro e w1 ⟨rfl, k1⟩
        have kX := kW.trans ((kpNew _ (.cells #[.int .u8 x0.toNat, .int .u8 x1.toNat, .int .u8 x2.toNat, .int .u8 x3.toNat, .int .u8 x4.toNat, .int .u8 x5.toNat, .int .u8 x6.toNat, .int .u8 x7.toNat] 54)).trans k1 (by simp)) (by simp)
        have bA0 := boxKeep (boxKeep bA (kpNew _ (.cells #[.int .u8 x0.toNat, .int .u8 x1.toNat, .int .u8 x2.toNat, .int .u8 x3.toNat, .int .u8 x4.toNat, .int .u8 x5.toNat, .int .u8 x6.toNat, .int .u8 x7.toNat] 54))) k1
        have hww : wrap64 (IntKind.u64.wrap ((m : Int) - add)) = wrap64 ((m : Int) - add) := by rw [IntKind.wrap_u64]; unfold wrap64; omega
        generalize hz : wrap64 ((m : Int) - add) = z at *
        clear hz kW bA k1
        go_wp2_with fail
        refine (cInt z _).mono ?_
        rintro e w2 ⟨rfl, k2⟩
        have kW := kX
        have bA := bA0
        have k1 := k2
        have bA1 := boxKeep bA k1
        have q0 := bA1.c0; have q1 := bA1.c1; have q2 := bA1.c2; have q3 := bA1.c3
        have f0 := bA1.free 0; have f1 := bA1.free 1; have f2 := bA1.free 2; have f3 := bA1.free 3
        have kk := kW.trans k1 (by simp)
        go_wp2_with fail
        refine gen4 (R := fun W => bodyPost _ _ _ _ _ W) bA1 kk (Nat.le_refl _) _ _ _ _ ?_
        intro W bW kW2
        have r0 := bW.c0; have r1 := bW.c1; have r2 := bW.c2; have r3 := bW.c3
        refine bodyPost_ret (v := .tuple #[Val.v ⟨2, false, z, ⟨#[]⟩⟩, .int .i64 9]) (by simp [results, Try.results28, go_sem, Val.v, nilV, r0, r1, r2, r3]) rfl ⟨?_, kW2⟩
        all_goals (rw [HF.out]; rfl)
      · have HF : Hid (fixF add (f :: r) = (nilV, 0)) := by show _ = _; simp [fixF, h2, h8]
        clear hc h0 h1 h2 hs htl hf
        generalize fixF add (f :: r) = R at *
        go_enter Try.func28, Try.ntmps28
        go_wp2_with fail
        all_goals refine bodyPost_ret (v := .tuple #[Val.v nilV, .int .i64 0]) (by simp [results, Try.results28, go_sem, Val.v, nilV]) rfl ⟨?_, kW⟩
        all_goals (rw [HF.out]; rfl)
    have e2 : ((f.toNat : Int) == 2) = false := by simp; omega
    have HF : Hid (fixF add (f :: r) = (nilV, 0)) := by show _ = _; simp [fixF, h0, h1, h2]
    clear hs htl
    by_cases hlen : 1 ≤ r.length
    · obtain ⟨y, s, rfl⟩ : ∃ y s, r = y :: s := by cases r with | nil => simp at hlen | cons y s => exact ⟨y, s, rfl⟩
      have hc1 : w.cell? ⟨g, o + 1, none⟩ = some (.int .u8 y.toNat) := hc 1 y rfl
      clear hc h0 h1 h2 hf
      generalize fixF add (f :: y :: s) = R at *
      by_cases h9 : 9 ≤ (y :: s).length + 1
      · go_enter Try.func28, Try.ntmps28
        go_wp2_with fail
        all_goals refine bodyPost_ret (v := .tuple #[Val.v nilV, .int .i64 0]) (by simp [results, Try.results28, go_sem, Val.v, nilV]) rfl ⟨?_, kW⟩
        all_goals (rw [HF.out]; rfl)
      · go_enter Try.func28, Try.ntmps28
        go_wp2_with fail
        all_goals refine bodyPost_ret (v := .tuple #[Val.v nilV, .int .i64 0]) (by simp [results, Try.results28, go_sem, Val.v, nilV]) rfl ⟨?_, kW⟩
        all_goals (rw [HF.out]; rfl)
    · clear hc h0 h1 h2 hf
      generalize fixF add (f :: r) = R at *
      go_enter Try.func28, Try.ntmps28
      go_wp2_with fail
      all_goals refine bodyPost_ret (v := .tuple #[Val.v nilV, .int .i64 0]) (by simp [results, Try.results28, go_sem, Val.v, nilV]) rfl ⟨?_, kW⟩
      all_goals (rw [HF.out]; rfl)

set_option maxHeartbeats 4000000 in
set_option maxRecDepth 100000 in
theorem cTakeValue (a : Option Addr) (c : Nat) (bs : List UInt8) (w : World) (hs : Sees w a bs) (hl : bs.length ≤ c) (hm : c ≤ maxLen) :
    Calls Try.prog 23 #[.slice a bs.length c] w (Tk w (rowF bs)) := by
  have kW : Kp [] w (w.alloc (.cells #[.int .i64 0, .bool false, .int .i64 0, .string ⟨#[]⟩] 35)) := (Kp.refl _ _).alloc _
  have bA := Box4.new w (.int .i64 0) (.bool false) (.int .i64 0) (.string ⟨#[]⟩) 35
  have hT := fun w' (k : Kp [] w w') => cTakeFixed a c bs 0 w' (seesKeep hs k) hl hm
  cases bs with
  | nil =>
    rw [show rowF [] = fixF 0 [] from rfl]
    rw [List.length_nil] at hT ⊢
    generalize fixF 0 _ = R at *
    obtain ⟨⟨xk, xb, xn, xt⟩, n⟩ := R
    unfold Tk Val.v at hT ⊢
    dsimp only at hT ⊢
    go_enter Try.func23, Try.ntmps23
    go_wp2_with fail
    refine (hT _ kW).mono ?_
    rintro e w1 ⟨rfl, k1⟩
    have bA1 := boxKeep bA k1
    have q0 := bA1.c0; have q1 := bA1.c1; have q2 := bA1.c2; have q3 := bA1.c3
    have f0 := bA1.free 0; have f1 := bA1.free 1; have f2 := bA1.free 2; have f3 := bA1.free 3
    have kk := kW.trans k1 (by simp)
    go_wp2_with fail
    refine gen4 (R := fun W => bodyPost _ _ _ _ _ W) bA1 kk (Nat.le_refl _) _ _ _ _ ?_
    intro W bW kW2
    have r0 := bW.c0; have r1 := bW.c1; have r2 := bW.c2; have r3 := bW.c3
    refine bodyPost_ret (v := .tuple #[Val.v ⟨xk, xb, xn, xt⟩, .int .i64 n]) (by simp [results, Try.results23, go_sem, Val.v, nilV, r0, r1, r2, r3]) rfl ⟨?_, kW2⟩
    rfl
  | cons f r =>
    obtain ⟨g, o, rfl, hc⟩ : ∃ g o, a = some ⟨g, o, none⟩ ∧ ∀ j u, (f :: r)[j]? = some u → w.cell? ⟨g, o + j, none⟩ = some (.int .u8 u.toNat) := by
      rcases hs with h | h
      · cases h
      · exact h
    have hc0 : w.cell? ⟨g, o, none⟩ = some (.int .u8 f.toNat) := hc 0 f rfl
    have hg := World.block_lt_of_cell? _ _ hc0
    have hf := f.toNat_lt
    have htl := fun n : Nat => (show Sees w (some ⟨g, o + 1, none⟩) (r.take n) by have := (Sees.tail hs 1).front n; simpa [Addr.add_lit] using this)
    rw [List.length_cons] at hl ⊢
    unfold maxLen at hm
    by_cases h3 : f.toNat = 3
    · rw [h3] at hc0
      clear hT
      cases r with
      | nil =>
        have HF : Hid (rowF (f :: []) = (nilV, 0)) := by show _ = _; simp [rowF, h3]
        clear hc h3 hs htl hf
        generalize rowF (f :: []) = R at *
        rw [List.length_nil] at hl ⊢
        go_enter Try.func23, Try.ntmps23
        go_wp2_with fail
        all_goals refine bodyPost_ret (v := .tuple #[Val.v nilV, .int .i64 0]) (by simp [results, Try.results23, go_sem, Val.v, nilV]) rfl ⟨?_, kW⟩
        all_goals (rw [HF.out]; rfl)
      | cons y s =>
        have hc1 : w.cell? ⟨g, o + 1, none⟩ = some (.int .u8 y.toNat) := hc 1 y rfl
        rw [List.length_cons] at hl ⊢
        have hy := y.toNat_lt
        by_cases hy6 : y.toNat ≤ 64
        · by_cases hys : y.toNat ≤ s.length
          · have HF : Hid (rowF (f :: y :: s) = (⟨3, false, 0, ⟨(s.take y.toNat).toArray⟩⟩, 2 + y.toNat)) := by show _ = _; simp [rowF, h3, hy6, hys]
            have hs2 : Sees (w.alloc (.cells #[.int .i64 0, .bool false, .int .i64 0, .string ⟨#[]⟩] 35)) (some ⟨g, o + 2, none⟩) (s.take y.toNat) := by
              have := seesKeep ((Sees.tail hs 2).front y.toNat) kW
              simpa [Addr.add_lit] using this
            have hcv := convSees hs2 (c - 2)
            rw [show (s.take y.toNat).length = y.toNat by simp; omega] at hcv
            have hT0 : y.toNat = 0 → (⟨(s.take y.toNat).toArray⟩ : ByteArray) = ⟨#[]⟩ := by intro h; rw [h]; rfl
            have hcv0 := fun a c => convSees (w := w.alloc (.cells #[.int .i64 0, .bool false, .int .i64 0, .string ⟨#[]⟩] 35)) (Sees.nil _ a) c
            rw [List.length_nil] at hcv0
            generalize (⟨(s.take y.toNat).toArray⟩ : ByteArray) = T at *
            clear hc h3 hs htl hf hs2
            generalize rowF (f :: y :: s) = R at *
            generalize y.toNat = n at *
            by_cases hc2 : c = 2
            · subst hc2
              obtain rfl : n = 0 := by omega
              have hT1 := hT0 rfl
              subst hT1
              clear hcv hT0
              go_enter Try.func23, Try.ntmps23
              go_wp2_with fail
              refine (cText ⟨#[]⟩ _).mono ?_
              rintro e w1 ⟨rfl, k1⟩
              have bA1 := boxKeep bA k1
              have q0 := bA1.c0; have q1 := bA1.c1; have q2 := bA1.c2; have q3 := bA1.c3
              have f0 := bA1.free 0; have f1 := bA1.free 1; have f2 := bA1.free 2; have f3 := bA1.free 3
              have kk := kW.trans k1 (by simp)
              go_wp2_with fail
              refine gen4 (R := fun W => bodyPost _ _ _ _ _ W) bA1 kk (Nat.le_refl _) _ _ _ _ ?_
              intro W bW kW2
              have r0 := bW.c0; have r1 := bW.c1; have r2 := bW.c2; have r3 := bW.c3
              refine bodyPost_ret (v := .tuple #[Val.v ⟨3, false, 0, ⟨#[]⟩⟩, .int .i64 2]) (by simp [results, Try.results23, go_sem, Val.v, nilV, r0, r1, r2, r3]) rfl ⟨?_, kW2⟩
              rw [HF.out]; rfl
            clear hcv0 hT0
            go_enter Try.func23, Try.ntmps23
            go_wp2_with fail
            refine (cText T _).mono ?_
            rintro e w1 ⟨rfl, k1⟩
            have bA1 := boxKeep bA k1
            have q0 := bA1.c0; have q1 := bA1.c1; have q2 := bA1.c2; have q3 := bA1.c3
            have f0 := bA1.free 0; have f1 := bA1.free 1; have f2 := bA1.free 2; have f3 := bA1.free 3
            have kk := kW.trans k1 (by simp)
            go_wp2_with fail
            refine gen4 (R := fun W => bodyPost _ _ _ _ _ W) bA1 kk (Nat.le_refl _) _ _ _ _ ?_
            intro W bW kW2
            have r0 := bW.c0; have r1 := bW.c1; have r2 := bW.c2; have r3 := bW.c3
            refine bodyPost_ret (v := .tuple #[Val.v ⟨3, false, 0, T⟩, .int .i64 (2 + (n : Int))]) (by simp [results, Try.results23, go_sem, Val.v, nilV, r0, r1, r2, r3]) rfl ⟨?_, kW2⟩
            rw [HF.out]; rfl
          · have HF : Hid (rowF (f :: y :: s) = (nilV, 0)) := by show _ = _; simp [rowF, h3, hys]
            clear hc h3 hs htl hf
            generalize rowF (f :: y :: s) = R at *
            go_enter Try.func23, Try.ntmps23
            go_wp2_with fail
            all_goals refine bodyPost_ret (v := .tuple #[Val.v nilV, .int .i64 0]) (by simp [results, Try.results23, go_sem, Val.v, nilV]) rfl ⟨?_, kW⟩
            all_goals (rw [HF.out]; rfl)
        · have HF : Hid (rowF (f :: y :: s) = (nilV, 0)) := by show _ = _; simp [rowF, h3, hy6]
          clear hc h3 hs htl hf
          generalize rowF (f :: y :: s) = R at *
          go_enter Try.func23, Try.ntmps23
          go_wp2_with fail
          all_goals refine bodyPost_ret (v := .tuple #[Val.v nilV, .int .i64 0]) (by simp [results, Try.results23, go_sem, Val.v, nilV]) rfl ⟨?_, kW⟩
          all_goals (rw [HF.out]; rfl)
    · have e3 : ((f.toNat : Int) == 3) = false := by simp; omega
      rw [show rowF (f :: r) = fixF 0 (f :: r) by simp only [rowF, if_neg h3]]
      rw [List.length_cons] at hT
      have e3' : ((f.toNat : Int) != 3) = true := by simp; omega
      clear hc hs htl hf
      generalize fixF 0 _ = R at *
      obtain ⟨⟨xk, xb, xn, xt⟩, n⟩ := R
      unfold Tk Val.v at hT ⊢
      dsimp only at hT ⊢
      go_enter Try.func23, Try.ntmps23
      go_wp2_with fail
      refine (hT _ kW).mono ?_
      rintro e w1 ⟨rfl, k1⟩
      have bA1 := boxKeep bA k1
      have q0 := bA1.c0; have q1 := bA1.c1; have q2 := bA1.c2; have q3 := bA1.c3
      have f0 := bA1.free 0; have f1 := bA1.free 1; have f2 := bA1.free 2; have f3 := bA1.free 3
      have kk := kW.trans k1 (by simp)
      go_wp2_with fail
      refine gen4 (R := fun W => bodyPost _ _ _ _ _ W) bA1 kk (Nat.le_refl _) _ _ _ _ ?_
      intro W bW kW2
      have r0 := bW.c0; have r1 := bW.c1; have r2 := bW.c2; have r3 := bW.c3
      refine bodyPost_ret (v := .tuple #[Val.v ⟨xk, xb, xn, xt⟩, .int .i64 n]) (by simp [results, Try.results23, go_sem, Val.v, nilV, r0, r1, r2, r3]) rfl ⟨?_, kW2⟩
      rfl
end Go.Proofs.Ytlehalhficlenaa

/- What bytes begin with: a value's bytes read: the program's takeFixed and takeValue, the reference's Front. Rows read: the program's Decode, the reference's. A value at the begin of bytes. takeValue. -/
import Derived.Test.YtpekgpgfdiffcaaGreatB1
import Derived.Test.YtpekgpgfdiffcaaGreatB2
import Derived.Laws.BytesArg
import Derived.Laws.IdiomStrings
import Derived.Test.YtpekgpgfdiffcaaGreatB3
import Derived.Laws.MakeOwn
import Derived.Test.YtpekgpgfdiffcaaGreatB6
section
namespace Go.Proofs.YtpekgpgfdiffcaaGreat
open Go.RowKit Go.Hay
set_option linter.unusedVariables false
set_option linter.unusedSimpArgs false

/-- No value. -/
def nilV : Val := ⟨0, false, 0, ⟨#[]⟩⟩
/-- The null, the bool or the int that bytes begin with, and in how many bytes; 0: none. -/
def fixF (add : Int) : List UInt8 → Val × Nat
  | [] => (nilV, 0)
  | f :: r =>
    if f.toNat = 0 then (nilV, 1)
    else if f.toNat = 1 then (match r with | [] => (nilV, 0) | y :: _ => if y.toNat ≤ 1 then (⟨1, y.toNat == 1, 0, ⟨#[]⟩⟩, 2) else (nilV, 0))
    else if f.toNat = 2 then (if 8 ≤ r.length then (⟨2, false, wrap64 (num (r.take 8) - add), ⟨#[]⟩⟩, 9) else (nilV, 0))
    else (nilV, 0)
/-- The value that a row's bytes begin with. -/
def rowF : List UInt8 → Val × Nat
  | [] => (nilV, 0)
  | f :: r =>
    if f.toNat = 3 then (match r with | [] => (nilV, 0) | y :: s => if y.toNat ≤ 64 ∧ y.toNat ≤ s.length then (⟨3, false, 0, ⟨(s.take y.toNat).toArray⟩⟩, 2 + y.toNat) else (nilV, 0))
    else fixF 0 (f :: r)

/-- Eight bytes or more are an array of eight. -/
theorem arrAt (a : Option Addr) (c : Nat) (w : World) : (Instr.arrayAt 110 (.slice a 8 c)).run Tryz.prog w = .ok (.pointer a) w := by
  simp [Instr.arrayAt, go_sem]
/-- Bytes that a slice sees, as a string. -/
theorem convSees {w : World} {a : Option Addr} {l : List UInt8} (h : Sees w a l) (c : Nat) : (convert 22 9 (.slice a l.length c)).run Tryz.prog w = .ok (.string ⟨l.toArray⟩) w := by
  rcases h with rfl | ⟨g, o, rfl, hc⟩
  · cases a with
    | none => exact run_convert_bytes_nil w 22 5 Tryz.underlying22 Tryz.underlying5 0 c 9 Tryz.underlying9
    | some ad => exact run_convert_bytes_back (P := Tryz.prog) w 22 9 5 ad c [] Tryz.underlying22 Tryz.underlying5 Tryz.underlying9 (fun j hj => by simp at hj)
  · refine run_convert_bytes_back (P := Tryz.prog) w 22 9 5 ⟨g, o, none⟩ c l Tryz.underlying22 Tryz.underlying5 Tryz.underlying9 (fun j hj => ?_)
    rw [Addr.add_lit]
    exact hc j l[j] (by simp)
theorem Box4.put {w : World} {q : Nat} {a b c d : Value} (h : Box4 w q a b c d) (a' b' c' d' : Value) : Box4 ((((w.setCell ⟨q, 0, none⟩ a').setCell ⟨q, 1, none⟩ b').setCell ⟨q, 2, none⟩ c').setCell ⟨q, 3, none⟩ d') q a' b' c' d' := by
  have n0 : ∀ (w : World) (i j : Nat) (v : Value), i ≠ j → (w.setCell ⟨q, j, none⟩ v).cell? ⟨q, i, none⟩ = w.cell? ⟨q, i, none⟩ := fun w i j v hij => World.cell?_setCell_other _ _ _ _ (by intro e; simp only [Addr.mk.injEq] at e; omega)
  refine ⟨?_, ?_, ?_, ?_, fun j => ?_⟩
  · rw [n0 _ 0 3 _ (by omega), n0 _ 0 2 _ (by omega), n0 _ 0 1 _ (by omega)]
    exact World.cell?_setCell_same _ _ _ h.c0
  · rw [n0 _ 1 3 _ (by omega), n0 _ 1 2 _ (by omega)]
    exact World.cell?_setCell_same _ _ _ ((n0 _ 1 0 _ (by omega)).trans h.c1)
  · rw [n0 _ 2 3 _ (by omega)]
    exact World.cell?_setCell_same _ _ _ ((n0 _ 2 1 _ (by omega)).trans ((n0 _ 2 0 _ (by omega)).trans h.c2))
  · exact World.cell?_setCell_same _ _ _ ((n0 _ 3 2 _ (by omega)).trans ((n0 _ 3 1 _ (by omega)).trans ((n0 _ 3 0 _ (by omega)).trans h.c3)))
  · rw [World.frozen?_setCell, World.frozen?_setCell, World.frozen?_setCell, World.frozen?_setCell]; exact h.free j
theorem gen4 {w0 w : World} {q : Nat} {a b c d : Value} {R : World → Prop} (h : Box4 w q a b c d) (hk : Kp [] w0 w) (hq : w0.heap.size ≤ q) (a' b' c' d' : Value)
    (H : ∀ W, Box4 W q a' b' c' d' → Kp [] w0 W → R W) : R ((((w.setCell ⟨q, 0, none⟩ a').setCell ⟨q, 1, none⟩ b').setCell ⟨q, 2, none⟩ c').setCell ⟨q, 3, none⟩ d') :=
  H _ (h.put a' b' c' d') ((((hk.setCell (.inr hq) _).setCell (.inr hq) _).setCell (.inr hq) _).setCell (.inr hq) _)

/-- What a call that takes a value hands back. -/
def Tk (w : World) (r : Val × Nat) (e : Ending) (w' : World) : Prop := e = .returned (.tuple #[r.1.v, .int .i64 r.2]) ∧ Kp [] w w'

set_option maxHeartbeats 4000000 in
set_option maxRecDepth 100000 in
theorem cTakeFixed (a : Option Addr) (c : Nat) (bs : List UInt8) (add : Int) (w : World) (hs : Sees w a bs) (hl : bs.length ≤ c) (hm : c ≤ maxLen) :
    Calls Tryz.prog 86 #[.slice a bs.length c, .int .u64 add] w (Tk w (fixF add bs)) := by
  have kW : Kp [] w (w.alloc (.cells #[.int .i64 0, .bool false, .int .i64 0, .string ⟨#[]⟩] 38)) := (Kp.refl _ _).alloc _
  have bA := Box4.new w (.int .i64 0) (.bool false) (.int .i64 0) (.string ⟨#[]⟩) 38
  cases bs with
  | nil =>
    go_enter Tryz.func86, Tryz.ntmps86
    go_wp2_with fail
    all_goals refine bodyPost_ret (v := .tuple #[Val.v nilV, .int .i64 0]) (by simp [results, Tryz.results86, go_sem, Val.v, nilV]) rfl ⟨?_, kW⟩
    rfl
  | cons f r =>
    obtain ⟨g, o, rfl, hc⟩ : ∃ g o, a = some ⟨g, o, none⟩ ∧ ∀ j u, (f :: r)[j]? = some u → w.cell? ⟨g, o + j, none⟩ = some (.int .u8 u.toNat) := by
      rcases hs with h | h
      · cases h
      · exact h
    have hc0 : w.cell? ⟨g, o, none⟩ = some (.int .u8 f.toNat) := hc 0 f rfl
    have hg := World.block_lt_of_cell? _ _ hc0
    have hf := f.toNat_lt
    have htl := fun n : Nat => (show Sees w (some ⟨g, o + 1, none⟩) (r.take n) by have := (Sees.tail hs 1).front n; simpa [Addr.add_lit] using this)
    rw [List.length_cons] at hl ⊢
    unfold maxLen at hm
    by_cases h0 : f.toNat = 0
    · have HF : Hid (fixF add (f :: r) = (nilV, 1)) := by show _ = _; simp [fixF, h0]
      rw [h0] at hc0
      clear hc h0 hs htl hf
      generalize fixF add (f :: r) = R at *
      go_enter Tryz.func86, Tryz.ntmps86
      go_wp2_with fail
      refine (cNull _).mono ?_
      rintro e w1 ⟨rfl, k1⟩
      have bA1 := boxKeep bA k1
      have q0 := bA1.c0; have q1 := bA1.c1; have q2 := bA1.c2; have q3 := bA1.c3
      have f0 := bA1.free 0; have f1 := bA1.free 1; have f2 := bA1.free 2; have f3 := bA1.free 3
      have kk := kW.trans k1 (by simp)
      go_wp2_with fail
      refine gen4 (R := fun W => bodyPost _ _ _ _ _ W) bA1 kk (Nat.le_refl _) _ _ _ _ ?_
      intro W bW kW2
      have r0 := bW.c0; have r1 := bW.c1; have r2 := bW.c2; have r3 := bW.c3
      refine bodyPost_ret (v := .tuple #[Val.v nilV, .int .i64 1]) (by simp [results, Tryz.results86, go_sem, Val.v, nilV, r0, r1, r2, r3]) rfl ⟨?_, kW2⟩
      all_goals (rw [HF.out]; rfl)
    have e0 : ((f.toNat : Int) == 0) = false := by simp; omega
    by_cases h1 : f.toNat = 1
    · rw [h1] at hc0
      cases r with
      | nil =>
        have HF : Hid (fixF add (f :: []) = (nilV, 0)) := by show _ = _; simp [fixF, h1]
        clear hc h0 h1 hs htl hf e0
        generalize fixF add (f :: []) = R at *
        rw [List.length_nil] at hl ⊢
        go_enter Tryz.func86, Tryz.ntmps86
        go_wp2_with fail
        all_goals refine bodyPost_ret (v := .tuple #[Val.v nilV, .int .i64 0]) (by simp [results, Tryz.results86, go_sem, Val.v, nilV]) rfl ⟨?_, kW⟩
        all_goals (rw [HF.out]; rfl)
      | cons y s =>
        have hc1 : w.cell? ⟨g, o + 1, none⟩ = some (.int .u8 y.toNat) := hc 1 y rfl
        rw [List.length_cons] at hl ⊢
        have hy := y.toNat_lt
        by_cases hy1 : y.toNat ≤ 1
        · have HF : Hid (fixF add (f :: y :: s) = (⟨1, y.toNat == 1, 0, ⟨#[]⟩⟩, 2)) := by show _ = _; simp [fixF, h1, hy1]
          clear hc h0 h1 hs htl hf e0
          generalize fixF add (f :: y :: s) = R at *
          obtain ⟨b, Hb⟩ : ∃ b : Bool, Hid ((y.toNat == 1) = b) := ⟨_, rfl⟩
          rw [Hb.out] at HF
          have hbb : ((y.toNat : Int) == 1) = b := by rw [← Hb.out, Bool.eq_iff_iff]; simp; omega
          go_enter Tryz.func86, Tryz.ntmps86
          go_wp2_with fail
          refine (cBool b _).mono ?_
          rintro e w1 ⟨rfl, k1⟩
          have bA1 := boxKeep bA k1
          have q0 := bA1.c0; have q1 := bA1.c1; have q2 := bA1.c2; have q3 := bA1.c3
          have f0 := bA1.free 0; have f1 := bA1.free 1; have f2 := bA1.free 2; have f3 := bA1.free 3
          have kk := kW.trans k1 (by simp)
          go_wp2_with fail
          refine gen4 (R := fun W => bodyPost _ _ _ _ _ W) bA1 kk (Nat.le_refl _) _ _ _ _ ?_
          intro W bW kW2
          have r0 := bW.c0; have r1 := bW.c1; have r2 := bW.c2; have r3 := bW.c3
          refine bodyPost_ret (v := .tuple #[Val.v ⟨1, b, 0, ⟨#[]⟩⟩, .int .i64 2]) (by simp [results, Tryz.results86, go_sem, Val.v, nilV, r0, r1, r2, r3]) rfl ⟨?_, kW2⟩
          all_goals (rw [HF.out]; rfl)
        · have HF : Hid (fixF add (f :: y :: s) = (nilV, 0)) := by show _ = _; simp [fixF, h1, hy1]
          clear hc h0 h1 hs htl hf e0
          generalize fixF add (f :: y :: s) = R at *
          go_enter Tryz.func86, Tryz.ntmps86
          go_wp2_with fail
          all_goals refine bodyPost_ret (v := .tuple #[Val.v nilV, .int .i64 0]) (by simp [results, Tryz.results86, go_sem, Val.v, nilV]) rfl ⟨?_, kW⟩
          all_goals (rw [HF.out]; rfl)
    have e1 : ((f.toNat : Int) == 1) = false := by simp; omega
    by_cases h2 : f.toNat = 2
    · rw [h2] at hc0
      by_cases h8 : 8 ≤ r.length
      · have HF : Hid (fixF add (f :: r) = (⟨2, false, wrap64 (num (r.take 8) - add), ⟨#[]⟩⟩, 9)) := by show _ = _; simp [fixF, h2, h8]
        obtain ⟨x0, x1, x2, x3, x4, x5, x6, x7, hr8⟩ : ∃ x0 x1 x2 x3 x4 x5 x6 x7 : UInt8, Hid (r.take 8 = [x0, x1, x2, x3, x4, x5, x6, x7]) := by
          match r, h8 with
          | x0 :: x1 :: x2 :: x3 :: x4 :: x5 :: x6 :: x7 :: r', _ => exact ⟨x0, x1, x2, x3, x4, x5, x6, x7, rfl⟩
        have hs8 := htl 8
        rw [hr8.out] at HF hs8
        have hN := cLongNum [x0, x1, x2, x3, x4, x5, x6, x7] rfl
        have hnb := num_lt64 [x0, x1, x2, x3, x4, x5, x6, x7] (by simp)
        rw [show long8 [x0, x1, x2, x3, x4, x5, x6, x7] = .agg #[.int .u8 x0.toNat, .int .u8 x1.toNat, .int .u8 x2.toNat, .int .u8 x3.toNat, .int .u8 x4.toNat, .int .u8 x5.toNat, .int .u8 x6.toNat, .int .u8 x7.toNat] from rfl] at hN
        have p0 : w.cell? ⟨g, o + 1, none⟩ = some (.int .u8 x0.toNat) := (by rcases hs8 with h | ⟨_, _, h, hh⟩; cases h; cases h; exact hh 0 _ rfl)
        have p1 : w.cell? ⟨g, o + 1 + 1, none⟩ = some (.int .u8 x1.toNat) := (by rcases hs8 with h | ⟨_, _, h, hh⟩; cases h; cases h; exact hh 1 _ rfl)
        have p2 : w.cell? ⟨g, o + 1 + 2, none⟩ = some (.int .u8 x2.toNat) := (by rcases hs8 with h | ⟨_, _, h, hh⟩; cases h; cases h; exact hh 2 _ rfl)
        have p3 : w.cell? ⟨g, o + 1 + 3, none⟩ = some (.int .u8 x3.toNat) := (by rcases hs8 with h | ⟨_, _, h, hh⟩; cases h; cases h; exact hh 3 _ rfl)
        have p4 : w.cell? ⟨g, o + 1 + 4, none⟩ = some (.int .u8 x4.toNat) := (by rcases hs8 with h | ⟨_, _, h, hh⟩; cases h; cases h; exact hh 4 _ rfl)
        have p5 : w.cell? ⟨g, o + 1 + 5, none⟩ = some (.int .u8 x5.toNat) := (by rcases hs8 with h | ⟨_, _, h, hh⟩; cases h; cases h; exact hh 5 _ rfl)
        have p6 : w.cell? ⟨g, o + 1 + 6, none⟩ = some (.int .u8 x6.toNat) := (by rcases hs8 with h | ⟨_, _, h, hh⟩; cases h; cases h; exact hh 6 _ rfl)
        have p7 : w.cell? ⟨g, o + 1 + 7, none⟩ = some (.int .u8 x7.toNat) := (by rcases hs8 with h | ⟨_, _, h, hh⟩; cases h; cases h; exact hh 7 _ rfl)
        clear hc h0 h1 h2 hs htl hf hs8 hr8
        generalize fixF add (f :: r) = R at *
        generalize num [x0, x1, x2, x3, x4, x5, x6, x7] = m at *
        have hc9 : (9 : Nat) ≤ c := by omega
        have hAt := arrAt (some ⟨g, o + 1, none⟩) (c - 1)
        go_enter Tryz.func86, Tryz.ntmps86
        go_wp2_with fail
        refine (hN _).mono ?_
        rintro e w1 ⟨rfl, k1⟩
        have kX := kW.trans ((kpNew _ (.cells #[.int .u8 x0.toNat, .int .u8 x1.toNat, .int .u8 x2.toNat, .int .u8 x3.toNat, .int .u8 x4.toNat, .int .u8 x5.toNat, .int .u8 x6.toNat, .int .u8 x7.toNat] 110)).trans k1 (by simp)) (by simp)
        have bA0 := boxKeep (boxKeep bA (kpNew _ (.cells #[.int .u8 x0.toNat, .int .u8 x1.toNat, .int .u8 x2.toNat, .int .u8 x3.toNat, .int .u8 x4.toNat, .int .u8 x5.toNat, .int .u8 x6.toNat, .int .u8 x7.toNat] 110))) k1
        have hww : wrap64 (IntKind.u64.wrap ((m : Int) - add)) = wrap64 ((m : Int) - add) := by rw [IntKind.wrap_u64]; unfold wrap64; omega
        generalize hz : wrap64 ((m : Int) - add) = z at *
        clear hz kW bA k1
        go_wp2_with fail
        refine (cInt z _).mono ?_
        rintro e w2 ⟨rfl, k2⟩
        have kW := kX
        have bA := bA0
        have k1 := k2
        have bA1 := boxKeep bA k1
        have q0 := bA1.c0; have q1 := bA1.c1; have q2 := bA1.c2; have q3 := bA1.c3
        have f0 := bA1.free 0; have f1 := bA1.free 1; have f2 := bA1.free 2; have f3 := bA1.free 3
        have kk := kW.trans k1 (by simp)
        go_wp2_with fail
        refine gen4 (R := fun W => bodyPost _ _ _ _ _ W) bA1 kk (Nat.le_refl _) _ _ _ _ ?_
        intro W bW kW2
        have r0 := bW.c0; have r1 := bW.c1; have r2 := bW.c2; have r3 := bW.c3
        refine bodyPost_ret (v := .tuple #[Val.v ⟨2, false, z, ⟨#[]⟩⟩, .int .i64 9]) (by simp [results, Tryz.results86, go_sem, Val.v, nilV, r0, r1, r2, r3]) rfl ⟨?_, kW2⟩
        all_goals (rw [HF.out]; rfl)
      · have HF : Hid (fixF add (f :: r) = (nilV, 0)) := by show _ = _; simp [fixF, h2, h8]
        clear hc h0 h1 h2 hs htl hf
        generalize fixF add (f :: r) = R at *
        go_enter Tryz.func86, Tryz.ntmps86
        go_wp2_with fail
        all_goals refine bodyPost_ret (v := .tuple #[Val.v nilV, .int .i64 0]) (by simp [results, Tryz.results86, go_sem, Val.v, nilV]) rfl ⟨?_, kW⟩
        all_goals (rw [HF.out]; rfl)
    have e2 : ((f.toNat : Int) == 2) = false := by simp; omega
    have HF : Hid (fixF add (f :: r) = (nilV, 0)) := by show _ = _; simp [fixF, h0, h1, h2]
    clear hs htl
    by_cases hlen : 1 ≤ r.length
    · obtain ⟨y, s, rfl⟩ : ∃ y s, r = y :: s := by cases r with | nil => simp at hlen | cons y s => exact ⟨y, s, rfl⟩
      have hc1 : w.cell? ⟨g, o + 1, none⟩ = some (.int .u8 y.toNat) := hc 1 y rfl
      clear hc h0 h1 h2 hf
      generalize fixF add (f :: y :: s) = R at *
      by_cases h9 : 9 ≤ (y :: s).length + 1
      · go_enter Tryz.func86, Tryz.ntmps86
        go_wp2_with fail
        all_goals refine bodyPost_ret (v := .tuple #[Val.v nilV, .int .i64 0]) (by simp [results, Tryz.results86, go_sem, Val.v, nilV]) rfl ⟨?_, kW⟩
        all_goals (rw [HF.out]; rfl)
      · go_enter Tryz.func86, Tryz.ntmps86
        go_wp2_with fail
        all_goals refine bodyPost_ret (v := .tuple #[Val.v nilV, .int .i64 0]) (by simp [results, Tryz.results86, go_sem, Val.v, nilV]) rfl ⟨?_, kW⟩
        all_goals (rw [HF.out]; rfl)
    · clear hc h0 h1 h2 hf
      generalize fixF add (f :: r) = R at *
      go_enter Tryz.func86, Tryz.ntmps86
      go_wp2_with fail
      all_goals refine bodyPost_ret (v := .tuple #[Val.v nilV, .int .i64 0]) (by simp [results, Tryz.results86, go_sem, Val.v, nilV]) rfl ⟨?_, kW⟩
      all_goals (rw [HF.out]; rfl)

set_option maxHeartbeats 4000000 in
set_option maxRecDepth 100000 in
theorem cTakeValue (a : Option Addr) (c : Nat) (bs : List UInt8) (w : World) (hs : Sees w a bs) (hl : bs.length ≤ c) (hm : c ≤ maxLen) :
    Calls Tryz.prog 74 #[.slice a bs.length c] w (Tk w (rowF bs)) := by
  have kW : Kp [] w (w.alloc (.cells #[.int .i64 0, .bool false, .int .i64 0, .string ⟨#[]⟩] 38)) := (Kp.refl _ _).alloc _
  have bA := Box4.new w (.int .i64 0) (.bool false) (.int .i64 0) (.string ⟨#[]⟩) 38
  have hT := fun w' (k : Kp [] w w') => cTakeFixed a c bs 0 w' (seesKeep hs k) hl hm
  cases bs with
  | nil =>
    rw [show rowF [] = fixF 0 [] from rfl]
    rw [List.length_nil] at hT ⊢
    generalize fixF 0 _ = R at *
    obtain ⟨⟨xk, xb, xn, xt⟩, n⟩ := R
    unfold Tk Val.v at hT ⊢
    dsimp only at hT ⊢
    go_enter Tryz.func74, Tryz.ntmps74
    go_wp2_with fail
    refine (hT _ kW).mono ?_
    rintro e w1 ⟨rfl, k1⟩
    have bA1 := boxKeep bA k1
    have q0 := bA1.c0; have q1 := bA1.c1; have q2 := bA1.c2; have q3 := bA1.c3
    have f0 := bA1.free 0; have f1 := bA1.free 1; have f2 := bA1.free 2; have f3 := bA1.free 3
    have kk := kW.trans k1 (by simp)
    go_wp2_with fail
    refine gen4 (R := fun W => bodyPost _ _ _ _ _ W) bA1 kk (Nat.le_refl _) _ _ _ _ ?_
    intro W bW kW2
    have r0 := bW.c0; have r1 := bW.c1; have r2 := bW.c2; have r3 := bW.c3
    refine bodyPost_ret (v := .tuple #[Val.v ⟨xk, xb, xn, xt⟩, .int .i64 n]) (by simp [results, Tryz.results74, go_sem, Val.v, nilV, r0, r1, r2, r3]) rfl ⟨?_, kW2⟩
    rfl
  | cons f r =>
    obtain ⟨g, o, rfl, hc⟩ : ∃ g o, a = some ⟨g, o, none⟩ ∧ ∀ j u, (f :: r)[j]? = some u → w.cell? ⟨g, o + j, none⟩ = some (.int .u8 u.toNat) := by
      rcases hs with h | h
      · cases h
      · exact h
    have hc0 : w.cell? ⟨g, o, none⟩ = some (.int .u8 f.toNat) := hc 0 f rfl
    have hg := World.block_lt_of_cell? _ _ hc0
    have hf := f.toNat_lt
    have htl := fun n : Nat => (show Sees w (some ⟨g, o + 1, none⟩) (r.take n) by have := (Sees.tail hs 1).front n; simpa [Addr.add_lit] using this)
    rw [List.length_cons] at hl ⊢
    unfold maxLen at hm
    by_cases h3 : f.toNat = 3
    · rw [h3] at hc0
      clear hT
      cases r with
      | nil =>
        have HF : Hid (rowF (f :: []) = (nilV, 0)) := by show _ = _; simp [rowF, h3]
        clear hc h3 hs htl hf
        generalize rowF (f :: []) = R at *
        rw [List.length_nil] at hl ⊢
        go_enter Tryz.func74, Tryz.ntmps74
        go_wp2_with fail
        all_goals refine bodyPost_ret (v := .tuple #[Val.v nilV, .int .i64 0]) (by simp [results, Tryz.results74, go_sem, Val.v, nilV]) rfl ⟨?_, kW⟩
        all_goals (rw [HF.out]; rfl)
      | cons y s =>
        have hc1 : w.cell? ⟨g, o + 1, none⟩ = some (.int .u8 y.toNat) := hc 1 y rfl
        rw [List.length_cons] at hl ⊢
        have hy := y.toNat_lt
        by_cases hy6 : y.toNat ≤ 64
        · by_cases hys : y.toNat ≤ s.length
          · have HF : Hid (rowF (f :: y :: s) = (⟨3, false, 0, ⟨(s.take y.toNat).toArray⟩⟩, 2 + y.toNat)) := by show _ = _; simp [rowF, h3, hy6, hys]
            have hs2 : Sees (w.alloc (.cells #[.int .i64 0, .bool false, .int .i64 0, .string ⟨#[]⟩] 38)) (some ⟨g, o + 2, none⟩) (s.take y.toNat) := by
              have := seesKeep ((Sees.tail hs 2).front y.toNat) kW
              simpa [Addr.add_lit] using this
            have hcv := convSees hs2 (c - 2)
            rw [show (s.take y.toNat).length = y.toNat by simp; omega] at hcv
            have hT0 : y.toNat = 0 → (⟨(s.take y.toNat).toArray⟩ : ByteArray) = ⟨#[]⟩ := by intro h; rw [h]; rfl
            have hcv0 := fun a c => convSees (w := w.alloc (.cells #[.int .i64 0, .bool false, .int .i64 0, .string ⟨#[]⟩] 38)) (Sees.nil _ a) c
            rw [List.length_nil] at hcv0
            generalize (⟨(s.take y.toNat).toArray⟩ : ByteArray) = T at *
            clear hc h3 hs htl hf hs2
            generalize rowF (f :: y :: s) = R at *
            generalize y.toNat = n at *
            by_cases hc2 : c = 2
            · subst hc2
              obtain rfl : n = 0 := by omega
              have hT1 := hT0 rfl
              subst hT1
              clear hcv hT0
              go_enter Tryz.func74, Tryz.ntmps74
              go_wp2_with fail
              refine (cText ⟨#[]⟩ _).mono ?_
              rintro e w1 ⟨rfl, k1⟩
              have bA1 := boxKeep bA k1
              have q0 := bA1.c0; have q1 := bA1.c1; have q2 := bA1.c2; have q3 := bA1.c3
              have f0 := bA1.free 0; have f1 := bA1.free 1; have f2 := bA1.free 2; have f3 := bA1.free 3
              have kk := kW.trans k1 (by simp)
              go_wp2_with fail
              refine gen4 (R := fun W => bodyPost _ _ _ _ _ W) bA1 kk (Nat.le_refl _) _ _ _ _ ?_
              intro W bW kW2
              have r0 := bW.c0; have r1 := bW.c1; have r2 := bW.c2; have r3 := bW.c3
              refine bodyPost_ret (v := .tuple #[Val.v ⟨3, false, 0, ⟨#[]⟩⟩, .int .i64 2]) (by simp [results, Tryz.results74, go_sem, Val.v, nilV, r0, r1, r2, r3]) rfl ⟨?_, kW2⟩
              rw [HF.out]; rfl
            clear hcv0 hT0
            go_enter Tryz.func74, Tryz.ntmps74
            go_wp2_with fail
            refine (cText T _).mono ?_
            rintro e w1 ⟨rfl, k1⟩
            have bA1 := boxKeep bA k1
            have q0 := bA1.c0; have q1 := bA1.c1; have q2 := bA1.c2; have q3 := bA1.c3
            have f0 := bA1.free 0; have f1 := bA1.free 1; have f2 := bA1.free 2; have f3 := bA1.free 3
            have kk := kW.trans k1 (by simp)
            go_wp2_with fail
            refine gen4 (R := fun W => bodyPost _ _ _ _ _ W) bA1 kk (Nat.le_refl _) _ _ _ _ ?_
            intro W bW kW2
            have r0 := bW.c0; have r1 := bW.c1; have r2 := bW.c2; have r3 := bW.c3
            refine bodyPost_ret (v := .tuple #[Val.v ⟨3, false, 0, T⟩, .int .i64 (2 + (n : Int))]) (by simp [results, Tryz.results74, go_sem, Val.v, nilV, r0, r1, r2, r3]) rfl ⟨?_, kW2⟩
            rw [HF.out]; rfl
          · have HF : Hid (rowF (f :: y :: s) = (nilV, 0)) := by show _ = _; simp [rowF, h3, hys]
            clear hc h3 hs htl hf
            generalize rowF (f :: y :: s) = R at *
            go_enter Tryz.func74, Tryz.ntmps74
            go_wp2_with fail
            all_goals refine bodyPost_ret (v := .tuple #[Val.v nilV, .int .i64 0]) (by simp [results, Tryz.results74, go_sem, Val.v, nilV]) rfl ⟨?_, kW⟩
            all_goals (rw [HF.out]; rfl)
        · have HF : Hid (rowF (f :: y :: s) = (nilV, 0)) := by show _ = _; simp [rowF, h3, hy6]
          clear hc h3 hs htl hf
          generalize rowF (f :: y :: s) = R at *
          go_enter Tryz.func74, Tryz.ntmps74
          go_wp2_with fail
          all_goals refine bodyPost_ret (v := .tuple #[Val.v nilV, .int .i64 0]) (by simp [results, Tryz.results74, go_sem, Val.v, nilV]) rfl ⟨?_, kW⟩
          all_goals (rw [HF.out]; rfl)
    · have e3 : ((f.toNat : Int) == 3) = false := by simp; omega
      rw [show rowF (f :: r) = fixF 0 (f :: r) by simp only [rowF, if_neg h3]]
      rw [List.length_cons] at hT
      have e3' : ((f.toNat : Int) != 3) = true := by simp; omega
      clear hc hs htl hf
      generalize fixF 0 _ = R at *
      obtain ⟨⟨xk, xb, xn, xt⟩, n⟩ := R
      unfold Tk Val.v at hT ⊢
      dsimp only at hT ⊢
      go_enter Tryz.func74, Tryz.ntmps74
      go_wp2_with fail
      refine (hT _ kW).mono ?_
      rintro e w1 ⟨rfl, k1⟩
      have bA1 := boxKeep bA k1
      have q0 := bA1.c0; have q1 := bA1.c1; have q2 := bA1.c2; have q3 := bA1.c3
      have f0 := bA1.free 0; have f1 := bA1.free 1; have f2 := bA1.free 2; have f3 := bA1.free 3
      have kk := kW.trans k1 (by simp)
      go_wp2_with fail
      refine gen4 (R := fun W => bodyPost _ _ _ _ _ W) bA1 kk (Nat.le_refl _) _ _ _ _ ?_
      intro W bW kW2
      have r0 := bW.c0; have r1 := bW.c1; have r2 := bW.c2; have r3 := bW.c3
      refine bodyPost_ret (v := .tuple #[Val.v ⟨xk, xb, xn, xt⟩, .int .i64 n]) (by simp [results, Tryz.results74, go_sem, Val.v, nilV, r0, r1, r2, r3]) rfl ⟨?_, kW2⟩
      rfl
end Go.Proofs.YtpekgpgfdiffcaaGreat
end

section
namespace Go.Proofs.YtpekgpgfdiffcaaGreat
open Go.RowKit Go.Hay
set_option linter.unusedVariables false
set_option linter.unusedSimpArgs false

/-- So many values, and nothing behind them. -/
def decL : Nat → List UInt8 → Option (List Val)
  | 0, bs => if bs = [] then some [] else none
  | n + 1, bs => if (rowF bs).2 = 0 then none else (decL n (bs.drop (rowF bs).2)).map ((rowF bs).1 :: ·)
/-- A row, or that there is none. -/
def decO : Option (List Val) → List Val × Int
  | some l => (l, 0)
  | none => ([], 30)
/-- What bytes are read as, or that they are no row's. -/
def decS : List UInt8 → List Val × Int
  | [] => ([], 30)
  | n :: r => if 16 < n.toNat then ([], 30) else decO (decL n.toNat r)
theorem fixF_le (add : Int) (bs : List UInt8) : (fixF add bs).2 ≤ bs.length := by
  cases bs with
  | nil => simp [fixF]
  | cons f r =>
    simp only [fixF]
    split
    · simp
    · split
      · cases r with
        | nil => simp
        | cons y s => simp only; split <;> simp
      · split
        · split
          · simp; omega
          · simp
        · simp
theorem rowF_le (bs : List UInt8) : (rowF bs).2 ≤ bs.length := by
  cases bs with
  | nil => simp [rowF]
  | cons f r =>
    simp only [rowF]
    split
    · cases r with
      | nil => simp
      | cons y s =>
        simp only
        split
        · simp; omega
        · simp
    · exact fixF_le 0 (f :: r)
/-- A row of values in a block of its own. -/
structure RowZ (w : World) (B : Nat) (l : List Val) : Prop where
  vals : ∀ j x, l[j]? = some x → w.cell? ⟨B, j * 4, none⟩ = some (.int .i64 x.k) ∧ w.cell? ⟨B, j * 4 + 1, none⟩ = some (.bool x.b) ∧ w.cell? ⟨B, j * 4 + 2, none⟩ = some (.int .i64 x.n) ∧ w.cell? ⟨B, j * 4 + 3, none⟩ = some (.string x.t)
  free : ∀ j, w.frozen? ⟨B, j, none⟩ = false
theorem RowZ.set {w : World} {B : Nat} {l : List Val} (h : RowZ w B l) (i : Nat) (x : Val) (hi : i < l.length) :
    RowZ ((((w.setCell ⟨B, i * 4, none⟩ (.int .i64 x.k)).setCell ⟨B, i * 4 + 1, none⟩ (.bool x.b)).setCell ⟨B, i * 4 + 2, none⟩ (.int .i64 x.n)).setCell ⟨B, i * 4 + 3, none⟩ (.string x.t)) B (l.set i x) := by
  have n0 : ∀ (w : World) (i j : Nat) (v : Value), i ≠ j → (w.setCell ⟨B, j, none⟩ v).cell? ⟨B, i, none⟩ = w.cell? ⟨B, i, none⟩ := fun w i j v hij => World.cell?_setCell_other _ _ _ _ (by intro e; simp only [Addr.mk.injEq] at e; omega)
  obtain ⟨z0, z1, z2, z3⟩ := h.vals i l[i] (by simp)
  refine ⟨fun j y hy => ?_, fun j => by rw [World.frozen?_setCell, World.frozen?_setCell, World.frozen?_setCell, World.frozen?_setCell]; exact h.free j⟩
  by_cases hj : j = i
  · subst hj
    rw [List.getElem?_set_self (by omega)] at hy
    cases hy
    refine ⟨?_, ?_, ?_, ?_⟩
    · rw [n0 _ _ _ _ (by omega), n0 _ _ _ _ (by omega), n0 _ _ _ _ (by omega)]
      exact World.cell?_setCell_same _ _ _ z0
    · rw [n0 _ _ _ _ (by omega), n0 _ _ _ _ (by omega)]
      exact World.cell?_setCell_same _ _ _ ((n0 _ _ _ _ (by omega)).trans z1)
    · rw [n0 _ _ _ _ (by omega)]
      exact World.cell?_setCell_same _ _ _ ((n0 _ _ _ _ (by omega)).trans ((n0 _ _ _ _ (by omega)).trans z2))
    · exact World.cell?_setCell_same _ _ _ ((n0 _ _ _ _ (by omega)).trans ((n0 _ _ _ _ (by omega)).trans ((n0 _ _ _ _ (by omega)).trans z3)))
  · rw [List.getElem?_set_ne (fun e => hj e.symm)] at hy
    obtain ⟨y0, y1, y2, y3⟩ := h.vals j y hy
    refine ⟨?_, ?_, ?_, ?_⟩
    all_goals (rw [n0 _ _ _ _ (by omega), n0 _ _ _ _ (by omega), n0 _ _ _ _ (by omega), n0 _ _ _ _ (by omega)]; assumption)
theorem RowZ.kept {w w' : World} {B : Nat} {l : List Val} (h : RowZ w B l) (hB : B < w.heap.size) (hk : Kp [] w w') : RowZ w' B l :=
  ⟨fun j x hx => by
    obtain ⟨z0, z1, z2, z3⟩ := h.vals j x hx
    exact ⟨kpAt hk z0, kpAt hk z1, kpAt hk z2, kpAt hk z3⟩, fun j => (hk.frozen (p := ⟨B, j, none⟩) hB (by simp)).trans (h.free j)⟩

/-- So many values, all nought, made. -/
theorem makeRow (n : Nat) (hn : n ≤ 16) (w : World) : ∃ W : World, (Instr.makeSlice 23 (.int .u8 n) (.int .u8 n)).run Tryz.prog w = .ok (.slice (some ⟨w.heap.size, 0, none⟩) n n) W ∧ RowZ W w.heap.size (List.replicate n nilV) ∧ Kp [] w W ∧ w.heap.size < W.heap.size := by
  obtain ⟨i, hi, hz, hz1, hz2⟩ := infoV
  have hr := run_make (P := Tryz.prog) w 23 38 i _ Tryz.underlying23 hi hz .u8 .u8 n n (by omega) (by omega) (by rw [hz2]; omega) (by omega)
  rw [Int.toNat_natCast, hz1] at hr
  refine ⟨_, hr, ⟨fun j x hx => ?_, fun j => World.frozen?_alloc_new w _ _ j⟩, (Kp.refl _ _).alloc _, by simp⟩
  have hj : j < n := by have := (List.getElem?_eq_some_iff.1 hx).1; simpa using this
  rw [List.getElem?_replicate, if_pos hj] at hx
  cases hx
  have cell : ∀ k v, k < 4 → (#[.int .i64 0, .bool false, .int .i64 0, .string ⟨#[]⟩] : Array Value)[k]! = v → (w.alloc (.cells (madeCells (Value.agg #[.int .i64 0, .bool false, .int .i64 0, .string ⟨#[]⟩]).cells (n * 4)) 38)).cell? ⟨w.heap.size, j * 4 + k, none⟩ = some v := by
    intro k v hk hv
    rw [World.cell?_alloc_new w _ _ (j * 4 + k)]
    unfold madeCells
    rw [Array.getElem?_map, Array.getElem?_range, if_pos (by omega)]
    simp only [Option.map_some, Value.cells]
    rw [show (j * 4 + k) % (#[.int .i64 0, .bool false, .int .i64 0, .string ⟨#[]⟩] : Array Value).size = k by show (j * 4 + k) % 4 = k; omega, hv]
  exact ⟨cell 0 _ (by omega) rfl, cell 1 _ (by omega) rfl, cell 2 _ (by omega) rfl, cell 3 _ (by omega) rfl⟩
theorem RowZ.asVals {w : World} {B : Nat} {l : List Val} (h : RowZ w B l) : Vals w (some ⟨B, 0, none⟩) l := by
  refine .inr ⟨B, 0, rfl, fun j x hx => ?_⟩
  rw [Nat.zero_add]
  exact h.vals j x hx
theorem decL_step (n : Nat) (bs : List UInt8) (d : List Val) : (decL (n + 1) bs).map (d ++ ·) = if (rowF bs).2 = 0 then none else (decL n (bs.drop (rowF bs).2)).map (d ++ [(rowF bs).1] ++ ·) := by
  rw [decL]
  split
  · rfl
  · rw [Option.map_map]
    congr 1
    funext l
    simp

/-- What a Decode hands back: a row. -/
def Rdn (w : World) (r : List Val × Int) (e : Ending) (w' : World) : Prop :=
  ∃ a c l E, Hid (r = (l, E)) ∧ e = .returned (.tuple #[.slice a l.length c, .int .i64 E]) ∧ Vals w' a l ∧ l.length ≤ 16 ∧ l.length ≤ c ∧ c ≤ maxLen ∧ (a = none → c = 0) ∧ Kp [] w w'

set_option maxHeartbeats 4000000 in
set_option maxRecDepth 100000 in
theorem cDecode (a : Option Addr) (c : Nat) (bs : List UInt8) (w : World) (hs : Sees w a bs) (hl : bs.length ≤ c) (hm : c ≤ maxLen) :
    Calls Tryz.prog 56 #[.slice a bs.length c] w (Rdn w (decS bs)) := by
  cases bs with
  | nil =>
    have HF : Hid (decS [] = ([], 30)) := rfl
    generalize decS [] = R at *
    rw [List.length_nil] at hl ⊢
    go_enter Tryz.func56, Tryz.ntmps56
    go_wp2_with fail
    go_ret2
    exact ⟨none, 0, [], 30, HF, rfl, .inl rfl, by simp, by simp, by simp, fun _ => rfl, Kp.refl _ _⟩
  | cons f r =>
    obtain ⟨g, o, rfl, hc⟩ : ∃ g o, a = some ⟨g, o, none⟩ ∧ ∀ j u, (f :: r)[j]? = some u → w.cell? ⟨g, o + j, none⟩ = some (.int .u8 u.toNat) := by
      rcases hs with h | h
      · cases h
      · exact h
    have hc0 : w.cell? ⟨g, o, none⟩ = some (.int .u8 f.toNat) := hc 0 f rfl
    have hg : g < w.heap.size := World.block_lt_of_cell? _ _ hc0
    have hf := f.toNat_lt
    rw [List.length_cons] at hl ⊢
    unfold maxLen at hm
    by_cases h16 : 16 < f.toNat
    · have HF : Hid (decS (f :: r) = ([], 30)) := by show _ = _; simp [decS, h16]
      generalize decS (f :: r) = R at *
      clear hc hs
      go_enter Tryz.func56, Tryz.ntmps56
      go_wp2_with fail
      go_ret2
      exact ⟨none, 0, [], 30, HF, rfl, .inl rfl, by simp, by simp, by simp, fun _ => rfl, Kp.refl _ _⟩
    · clear hc
      have hn16 : f.toNat ≤ 16 := by omega
      have HF : Hid (decS (f :: r) = decO (decL f.toNat r)) := by show _ = _; simp only [decS, if_neg h16]
      have hne : (((r.length : Int) + 1) == 0) = false := by simp; omega
      have h16' : decide ((16 : Int) < (f.toNat : Int)) = false := by simp; omega
      have htl : Sees w (some ⟨g, o + 1, none⟩) r := by have := Sees.tail hs 1; simpa [Addr.add_lit] using this
      generalize decS (f :: r) = R at *
      clear hs h16
      generalize f.toNat = n at *
      obtain ⟨W, hmk, hz, kW, hWs⟩ := makeRow n hn16 w
      have hgW : g ≠ w.heap.size := by omega
      by_cases hc1 : c = 1
      · subst hc1
        have hA : Sees W (some ⟨g, o, none⟩) r := by
          have : r = [] := by cases r with | nil => rfl | cons _ _ => simp at hl
          subst this
          exact .inl rfl
        have hnb : ∀ k ∈ blk (some ⟨g, o, none⟩), k ≠ w.heap.size := fun k hk => by have : k = g := by { simpa [blk] using hk }; omega
        go_enter Tryz.func56, Tryz.ntmps56
        go_wp2_with fail
        go_loopw [0, 25] (fun v i wn => ∃ (j : Nat) (dn : List Val) (rest : List UInt8) (m : Nat) (a' : Option Addr) (c' : Nat), j ≤ n ∧ i = .int .i64 j ∧ v = .slice a' m c' ∧ m = rest.length ∧ rest.length ≤ c' ∧ c' ≤ 9223372036854775807 ∧ Sees wn a' rest ∧ dn.length = j ∧ Hid ((decL (n - j) rest).map (dn ++ ·) = decL n r) ∧ RowZ wn w.heap.size (dn ++ List.replicate (n - j) nilV) ∧ w.heap.size < wn.heap.size ∧ (∀ k ∈ blk a', k ≠ w.heap.size) ∧ Kp [] w wn) (fun _ i _ => n - (intOf i).toNat)
        case atStart => exact ⟨0, [], r, _, _, _, Nat.zero_le _, rfl, rfl, by first | rfl | omega, by omega, by omega, hA, rfl, by show _ = _; simp, by simpa using hz, hWs, hnb, kW⟩
        case round =>
          obtain ⟨j, dn, rest, m, a', c', hj, rfl, rfl, hmr, hlc, hcm, hse, hdl, hdec, hrz, hBl, hbk, hk⟩ := hrel
          subst hmr
          have hdl' := hid hdl
          clear hdl
          by_cases hjm : j < n
          · obtain ⟨q, hq⟩ : ∃ q, n - j = q + 1 := ⟨n - j - 1, by omega⟩
            have hq' := hid hq
            rw [hq, decL_step] at hdec
            have hlen : (dn ++ List.replicate (n - j) nilV).length = n := by rw [List.length_append, hdl'.out, List.length_replicate]; omega
            obtain ⟨z0, z1, z2, z3⟩ := hrz.vals j nilV (by rw [List.getElem?_append_right (by rw [hdl'.out]; omega), hdl'.out, List.getElem?_replicate, if_pos (by omega)])
            have f0 := hrz.free (j * 4); have f1 := hrz.free (j * 4 + 1); have f2 := hrz.free (j * 4 + 2); have f3 := hrz.free (j * 4 + 3)
            have hT := cTakeValue a' c' rest wr hse hlc (by unfold maxLen; omega)
            have hle := rowF_le rest
            generalize hR' : rowF rest = rr at *
            obtain ⟨x, sz⟩ := rr
            dsimp only at hle hdec
            unfold Tk at hT
            dsimp only at hT
            have hxv : Hid (x.v = .agg #[.int .i64 x.k, .bool x.b, .int .i64 x.n, .string x.t]) := rfl
            rw [hxv.out] at hT
            have hlt0 : w.heap.size < wr.heap.size := hBl
            have hzz : Hid (RowZ wr w.heap.size (dn ++ List.replicate (n - j) nilV)) := hrz
            clear hR' hrz hxv hq
            generalize hrz' : (dn ++ List.replicate (n - j) nilV) = rz at *
            have hrz := hid hrz'
            clear hrz'
            go_wp2_with fail
            refine hT.mono ?_
            rintro e w1 ⟨rfl, k1⟩
            have kN := k1.trans (kpNew w1 (.cells #[.int .i64 x.k, .bool x.b, .int .i64 x.n, .string x.t] 38)) (by simp)
            have z0' := kpAt k1 z0; have z1' := kpAt k1 z1; have z2' := kpAt k1 z2; have z3' := kpAt k1 z3
            have g0 := (k1.frozen (p := ⟨w.heap.size, j * 4, none⟩) hlt0 (by simp)).trans f0
            have g1 := (k1.frozen (p := ⟨w.heap.size, j * 4 + 1, none⟩) hlt0 (by simp)).trans f1
            have g2 := (k1.frozen (p := ⟨w.heap.size, j * 4 + 2, none⟩) hlt0 (by simp)).trans f2
            have g3 := (k1.frozen (p := ⟨w.heap.size, j * 4 + 3, none⟩) hlt0 (by simp)).trans f3
            have hlt1 : w.heap.size < w1.heap.size := Nat.lt_of_lt_of_le hlt0 k1.size
            clear z0 z1 z2 z3 f0 f1 f2 f3 hT
            by_cases hsz : sz = 0
            · subst hsz
              have HE : Hid (R = ([], 30)) := by show _ = _; rw [HF.out, ← hdec.out]; rfl
              clear hdec HF
              go_wp2_with fail
              go_ret2
              exact ⟨none, 0, [], 30, HE, rfl, .inl rfl, by simp, by simp, by simp, fun _ => rfl, hk.trans kN (by simp)⟩
            · have hsz' : ((sz : Int) == 0) = false := by simp; omega
              rw [if_neg hsz] at hdec
              have hsz1 : (sz : Int) ≤ rest.length := by omega
              have hZ1 := (hzz.out.kept hlt0 k1).set j x (by omega)
              have hkB : Kp [w.heap.size] w1 _ := ((((Kp.refl [w.heap.size] w1).setCell (p := ⟨w.heap.size, j * 4, none⟩) (.inl (by simp)) (.int .i64 x.k)).setCell (p := ⟨w.heap.size, j * 4 + 1, none⟩) (.inl (by simp)) (.bool x.b)).setCell (p := ⟨w.heap.size, j * 4 + 2, none⟩) (.inl (by simp)) (.int .i64 x.n)).setCell (p := ⟨w.heap.size, j * 4 + 3, none⟩) (.inl (by simp)) (.string x.t)
              have hBn1 : w.heap.size < _ := Nat.lt_of_lt_of_le hlt1 hkB.size
              have hS1 := seesKeep ((seesKeep hse k1).kept hkB (fun k hk' => by simpa using hbk k hk')) (kpNew _ (.cells #[.int .i64 x.k, .bool x.b, .int .i64 x.n, .string x.t] 38))
              have hkn := ((hk.trans k1 (by simp)).trans hkB (fun k hk' => .inr (by simp at hk'; omega))).alloc (.cells #[.int .i64 x.k, .bool x.b, .int .i64 x.n, .string x.t] 38)
              have hZ := hZ1.kept hBn1 (kpNew _ (.cells #[.int .i64 x.k, .bool x.b, .int .i64 x.n, .string x.t] 38))
              have hBn := Nat.lt_of_lt_of_le hBn1 (kpNew _ (.cells #[.int .i64 x.k, .bool x.b, .int .i64 x.n, .string x.t] 38)).size
              clear hZ1 hBn1
              have hset : rz.set j x = dn ++ [x] ++ List.replicate q nilV := by
                rw [← hrz.out, hq'.out, List.replicate_succ, List.set_append_right _ _ (by rw [hdl'.out]; omega), hdl'.out]
                simp
              rw [hset] at hZ
              obtain ⟨g', o', rfl⟩ : ∃ g' o', a' = some ⟨g', o', none⟩ := by
                rcases hse with h | ⟨g', o', h, _⟩
                · subst h; simp at hsz1; omega
                · exact ⟨g', o', h⟩
              have hbk' : g' ≠ w.heap.size := hbk g' (by simp [blk])
              have hdr : (rest.drop sz).length = rest.length - sz := by simp
              have hS2 := Sees.tail hS1 sz
              rw [show (some (⟨g', o', none⟩ : Addr)).map (fun x => x.add sz) = some ⟨g', o' + sz, none⟩ by simp [Addr.add_lit]] at hS2
              have hS3 : rest.length ≤ sz → Hid (rest.drop sz = []) := fun h => List.drop_eq_nil_of_le h
              have hD : Hid (Option.map (fun x_1 => dn ++ [x] ++ x_1) (decL (n - (j + 1)) (rest.drop sz)) = decL n r) := by show _ = _; rw [show n - (j + 1) = q by have := hq'.out; omega]; exact hdec.out
              rw [show q = n - (j + 1) by have := hq'.out; omega] at hZ
              have hZ' := hid hZ
              have hdl2 : Hid ((dn ++ [x]).length = j + 1) := by show _ = _; simp [hdl'.out]
              clear hZ hdec hset hS1 hkB hse hbk
              generalize rest.drop sz = rest' at *
              by_cases hcz : c' = sz
              · have hre := (hS3 (by omega)).out
                subst hcz
                subst hre
                have hr0 : rest.length - c' = 0 := by omega
                go_wp2_with fail
                exact ⟨⟨j + 1, dn ++ [x], [], _, _, _, by omega, by go_num, rfl, by simp, by simp, by omega, .inl rfl, hdl2.out, hD, hZ'.out, hBn, by intro k hk'; simp [blk] at hk'; omega, hkn⟩, by simp [intOf]; omega⟩
              · go_wp2_with fail
                exact ⟨⟨j + 1, dn ++ [x], rest', _, _, _, by omega, by go_num, rfl, by omega, by omega, by omega, hS2, hdl2.out, hD, hZ'.out, hBn, by intro k hk'; simp [blk] at hk'; omega, hkn⟩, by simp [intOf]; omega⟩
          · obtain rfl : j = n := by omega
            have hz2 := hrz
            rw [Nat.sub_self] at hdec hz2
            rw [show dn ++ List.replicate 0 nilV = dn by simp] at hz2
            cases rest with
            | nil =>
              have HE : Hid (R = (dn, 0)) := by show _ = _; rw [HF.out, ← hdec.out]; simp [decL, decO]
              have hvs := hz2.asVals
              clear hdec HF hrz
              rw [List.length_nil]
              go_wp2_with fail
              go_ret2
              exact ⟨_, _, dn, 0, HE, by rw [hdl'.out]; rfl, hvs, by rw [hdl'.out]; omega, by rw [hdl'.out]; omega, by unfold maxLen; omega, by simp, hk⟩
            | cons y s =>
              have HE : Hid (R = ([], 30)) := by show _ = _; rw [HF.out, ← hdec.out]; simp [decL, decO]
              clear hdec HF hrz
              rw [List.length_cons]
              go_wp2_with fail
              go_ret2
              exact ⟨none, 0, [], 30, HE, rfl, .inl rfl, by simp, by simp, by simp, fun _ => rfl, hk⟩
      · have hA : Sees W (some ⟨g, o + 1, none⟩) r := seesKeep htl kW
        have hnb : ∀ k ∈ blk (some ⟨g, o + 1, none⟩), k ≠ w.heap.size := fun k hk => by have : k = g := by { simpa [blk] using hk }; omega
        go_enter Tryz.func56, Tryz.ntmps56
        go_wp2_with fail
        go_loopw [0, 25] (fun v i wn => ∃ (j : Nat) (dn : List Val) (rest : List UInt8) (m : Nat) (a' : Option Addr) (c' : Nat), j ≤ n ∧ i = .int .i64 j ∧ v = .slice a' m c' ∧ m = rest.length ∧ rest.length ≤ c' ∧ c' ≤ 9223372036854775807 ∧ Sees wn a' rest ∧ dn.length = j ∧ Hid ((decL (n - j) rest).map (dn ++ ·) = decL n r) ∧ RowZ wn w.heap.size (dn ++ List.replicate (n - j) nilV) ∧ w.heap.size < wn.heap.size ∧ (∀ k ∈ blk a', k ≠ w.heap.size) ∧ Kp [] w wn) (fun _ i _ => n - (intOf i).toNat)
        case atStart => exact ⟨0, [], r, _, _, _, Nat.zero_le _, rfl, rfl, by first | rfl | omega, by omega, by omega, hA, rfl, by show _ = _; simp, by simpa using hz, hWs, hnb, kW⟩
        case round =>
          obtain ⟨j, dn, rest, m, a', c', hj, rfl, rfl, hmr, hlc, hcm, hse, hdl, hdec, hrz, hBl, hbk, hk⟩ := hrel
          subst hmr
          have hdl' := hid hdl
          clear hdl
          by_cases hjm : j < n
          · obtain ⟨q, hq⟩ : ∃ q, n - j = q + 1 := ⟨n - j - 1, by omega⟩
            have hq' := hid hq
            rw [hq, decL_step] at hdec
            have hlen : (dn ++ List.replicate (n - j) nilV).length = n := by rw [List.length_append, hdl'.out, List.length_replicate]; omega
            obtain ⟨z0, z1, z2, z3⟩ := hrz.vals j nilV (by rw [List.getElem?_append_right (by rw [hdl'.out]; omega), hdl'.out, List.getElem?_replicate, if_pos (by omega)])
            have f0 := hrz.free (j * 4); have f1 := hrz.free (j * 4 + 1); have f2 := hrz.free (j * 4 + 2); have f3 := hrz.free (j * 4 + 3)
            have hT := cTakeValue a' c' rest wr hse hlc (by unfold maxLen; omega)
            have hle := rowF_le rest
            generalize hR' : rowF rest = rr at *
            obtain ⟨x, sz⟩ := rr
            dsimp only at hle hdec
            unfold Tk at hT
            dsimp only at hT
            have hxv : Hid (x.v = .agg #[.int .i64 x.k, .bool x.b, .int .i64 x.n, .string x.t]) := rfl
            rw [hxv.out] at hT
            have hlt0 : w.heap.size < wr.heap.size := hBl
            have hzz : Hid (RowZ wr w.heap.size (dn ++ List.replicate (n - j) nilV)) := hrz
            clear hR' hrz hxv hq
            generalize hrz' : (dn ++ List.replicate (n - j) nilV) = rz at *
            have hrz := hid hrz'
            clear hrz'
            go_wp2_with fail
            refine hT.mono ?_
            rintro e w1 ⟨rfl, k1⟩
            have kN := k1.trans (kpNew w1 (.cells #[.int .i64 x.k, .bool x.b, .int .i64 x.n, .string x.t] 38)) (by simp)
            have z0' := kpAt k1 z0; have z1' := kpAt k1 z1; have z2' := kpAt k1 z2; have z3' := kpAt k1 z3
            have g0 := (k1.frozen (p := ⟨w.heap.size, j * 4, none⟩) hlt0 (by simp)).trans f0
            have g1 := (k1.frozen (p := ⟨w.heap.size, j * 4 + 1, none⟩) hlt0 (by simp)).trans f1
            have g2 := (k1.frozen (p := ⟨w.heap.size, j * 4 + 2, none⟩) hlt0 (by simp)).trans f2
            have g3 := (k1.frozen (p := ⟨w.heap.size, j * 4 + 3, none⟩) hlt0 (by simp)).trans f3
            have hlt1 : w.heap.size < w1.heap.size := Nat.lt_of_lt_of_le hlt0 k1.size
            clear z0 z1 z2 z3 f0 f1 f2 f3 hT
            by_cases hsz : sz = 0
            · subst hsz
              have HE : Hid (R = ([], 30)) := by show _ = _; rw [HF.out, ← hdec.out]; rfl
              clear hdec HF
              go_wp2_with fail
              go_ret2
              exact ⟨none, 0, [], 30, HE, rfl, .inl rfl, by simp, by simp, by simp, fun _ => rfl, hk.trans kN (by simp)⟩
            · have hsz' : ((sz : Int) == 0) = false := by simp; omega
              rw [if_neg hsz] at hdec
              have hsz1 : (sz : Int) ≤ rest.length := by omega
              have hZ1 := (hzz.out.kept hlt0 k1).set j x (by omega)
              have hkB : Kp [w.heap.size] w1 _ := ((((Kp.refl [w.heap.size] w1).setCell (p := ⟨w.heap.size, j * 4, none⟩) (.inl (by simp)) (.int .i64 x.k)).setCell (p := ⟨w.heap.size, j * 4 + 1, none⟩) (.inl (by simp)) (.bool x.b)).setCell (p := ⟨w.heap.size, j * 4 + 2, none⟩) (.inl (by simp)) (.int .i64 x.n)).setCell (p := ⟨w.heap.size, j * 4 + 3, none⟩) (.inl (by simp)) (.string x.t)
              have hBn1 : w.heap.size < _ := Nat.lt_of_lt_of_le hlt1 hkB.size
              have hS1 := seesKeep ((seesKeep hse k1).kept hkB (fun k hk' => by simpa using hbk k hk')) (kpNew _ (.cells #[.int .i64 x.k, .bool x.b, .int .i64 x.n, .string x.t] 38))
              have hkn := ((hk.trans k1 (by simp)).trans hkB (fun k hk' => .inr (by simp at hk'; omega))).alloc (.cells #[.int .i64 x.k, .bool x.b, .int .i64 x.n, .string x.t] 38)
              have hZ := hZ1.kept hBn1 (kpNew _ (.cells #[.int .i64 x.k, .bool x.b, .int .i64 x.n, .string x.t] 38))
              have hBn := Nat.lt_of_lt_of_le hBn1 (kpNew _ (.cells #[.int .i64 x.k, .bool x.b, .int .i64 x.n, .string x.t] 38)).size
              clear hZ1 hBn1
              have hset : rz.set j x = dn ++ [x] ++ List.replicate q nilV := by
                rw [← hrz.out, hq'.out, List.replicate_succ, List.set_append_right _ _ (by rw [hdl'.out]; omega), hdl'.out]
                simp
              rw [hset] at hZ
              obtain ⟨g', o', rfl⟩ : ∃ g' o', a' = some ⟨g', o', none⟩ := by
                rcases hse with h | ⟨g', o', h, _⟩
                · subst h; simp at hsz1; omega
                · exact ⟨g', o', h⟩
              have hbk' : g' ≠ w.heap.size := hbk g' (by simp [blk])
              have hdr : (rest.drop sz).length = rest.length - sz := by simp
              have hS2 := Sees.tail hS1 sz
              rw [show (some (⟨g', o', none⟩ : Addr)).map (fun x => x.add sz) = some ⟨g', o' + sz, none⟩ by simp [Addr.add_lit]] at hS2
              have hS3 : rest.length ≤ sz → Hid (rest.drop sz = []) := fun h => List.drop_eq_nil_of_le h
              have hD : Hid (Option.map (fun x_1 => dn ++ [x] ++ x_1) (decL (n - (j + 1)) (rest.drop sz)) = decL n r) := by show _ = _; rw [show n - (j + 1) = q by have := hq'.out; omega]; exact hdec.out
              rw [show q = n - (j + 1) by have := hq'.out; omega] at hZ
              have hZ' := hid hZ
              have hdl2 : Hid ((dn ++ [x]).length = j + 1) := by show _ = _; simp [hdl'.out]
              clear hZ hdec hset hS1 hkB hse hbk
              generalize rest.drop sz = rest' at *
              by_cases hcz : c' = sz
              · have hre := (hS3 (by omega)).out
                subst hcz
                subst hre
                have hr0 : rest.length - c' = 0 := by omega
                go_wp2_with fail
                exact ⟨⟨j + 1, dn ++ [x], [], _, _, _, by omega, by go_num, rfl, by simp, by simp, by omega, .inl rfl, hdl2.out, hD, hZ'.out, hBn, by intro k hk'; simp [blk] at hk'; omega, hkn⟩, by simp [intOf]; omega⟩
              · go_wp2_with fail
                exact ⟨⟨j + 1, dn ++ [x], rest', _, _, _, by omega, by go_num, rfl, by omega, by omega, by omega, hS2, hdl2.out, hD, hZ'.out, hBn, by intro k hk'; simp [blk] at hk'; omega, hkn⟩, by simp [intOf]; omega⟩
          · obtain rfl : j = n := by omega
            have hz2 := hrz
            rw [Nat.sub_self] at hdec hz2
            rw [show dn ++ List.replicate 0 nilV = dn by simp] at hz2
            cases rest with
            | nil =>
              have HE : Hid (R = (dn, 0)) := by show _ = _; rw [HF.out, ← hdec.out]; simp [decL, decO]
              have hvs := hz2.asVals
              clear hdec HF hrz
              rw [List.length_nil]
              go_wp2_with fail
              go_ret2
              exact ⟨_, _, dn, 0, HE, by rw [hdl'.out]; rfl, hvs, by rw [hdl'.out]; omega, by rw [hdl'.out]; omega, by unfold maxLen; omega, by simp, hk⟩
            | cons y s =>
              have HE : Hid (R = ([], 30)) := by show _ = _; rw [HF.out, ← hdec.out]; simp [decL, decO]
              clear hdec HF hrz
              rw [List.length_cons]
              go_wp2_with fail
              go_ret2
              exact ⟨none, 0, [], 30, HE, rfl, .inl rfl, by simp, by simp, by simp, fun _ => rfl, hk⟩
end Go.Proofs.YtpekgpgfdiffcaaGreat
end

section
namespace Go.Proofs.YtpekgpgfdiffcaaGreat
open Go.RowKit Go.Hay
set_option linter.unusedVariables false
set_option linter.unusedSimpArgs false

def vsz : List UInt8 → Nat
  | [] => 0
  | x :: r => if x.toNat = 0 then 1 else if x.toNat = 1 then 2 else if x.toNat = 2 then 9 else if x.toNat = 3 then (match r with | [] => 0 | y :: _ => 2 + y.toNat) else 0
theorem vsz_le (bs : List UInt8) : vsz bs ≤ 300 := by
  cases bs with
  | nil => simp [vsz]
  | cons x r =>
    cases r with
    | nil => simp [vsz]; split <;> (try split) <;> (try split) <;> omega
    | cons y r =>
      have := y.toNat_lt
      simp [vsz]
      split
      · omega
      · split
        · omega
        · split
          · omega
          · split <;> omega
set_option maxHeartbeats 2000000 in
theorem cValueSize (a : Option Addr) (c : Nat) (bs : List UInt8) (w : World) (hs : Sees w a bs) (hl : bs.length ≤ 900000000000000) : Calls Tryz.prog 55 #[.slice a bs.length c] w fun e w' => e = .returned (.int .i64 (vsz bs : Int)) ∧ w' = w := by
  cases bs with
  | nil =>
    have hv : Hid (vsz [] = 0) := rfl
    rw [hv.out, List.length_nil]
    clear hs hl hv
    go_enter Tryz.func55, Tryz.ntmps55
    go_wp2_with fail
    go_ret
    exact ⟨rfl, rfl⟩
  | cons x r =>
    obtain ⟨g, o, rfl, hc⟩ : ∃ g o, a = some ⟨g, o, none⟩ ∧ ∀ j u, (x :: r)[j]? = some u → w.cell? ⟨g, o + j, none⟩ = some (.int .u8 u.toNat) := by
      rcases hs with h | h
      · cases h
      · exact h
    have h0 := hc 0 x rfl
    rw [Nat.add_zero] at h0
    have hx := x.toNat_lt
    have hv : Hid (vsz (x :: r) = if x.toNat = 0 then 1 else if x.toNat = 1 then 2 else if x.toNat = 2 then 9 else if x.toNat = 3 then (match r with | [] => 0 | y :: _ => 2 + y.toNat) else 0) := rfl
    have h1 : Hid (∀ y r', r = y :: r' → w.cell? ⟨g, o + 1, none⟩ = some (.int .u8 y.toNat)) := fun y r' e => hc 1 y (by rw [e]; rfl)
    obtain ⟨V, hV⟩ : ∃ V, Hid (vsz (x :: r) = V) := ⟨_, rfl⟩
    rw [hV.out] at hv ⊢
    clear hs hc hV
    obtain ⟨n, hn⟩ : ∃ n, Hid (x.toNat = n) := ⟨_, rfl⟩
    rw [hn.out] at h0 hv hx
    rw [List.length_cons] at hl ⊢
    have hne : (((r.length + 1 : Nat) : Int) == 0) = false := by rw [beq_eq_false_iff_ne]; omega
    by_cases e0 : n = 0
    · subst e0
      have : V = 1 := by rw [hv.out]; rfl
      subst this
      clear hv h1 hn
      go_enter Tryz.func55, Tryz.ntmps55
      go_wp2_with fail
      go_ret
      exact ⟨rfl, rfl⟩
    by_cases e1 : n = 1
    · subst e1
      have : V = 2 := by rw [hv.out]; rfl
      subst this
      clear hv h1 hn e0
      go_enter Tryz.func55, Tryz.ntmps55
      go_wp2_with fail
      go_ret
      exact ⟨rfl, rfl⟩
    by_cases e2 : n = 2
    · subst e2
      have : V = 9 := by rw [hv.out]; rfl
      subst this
      clear hv h1 hn e0 e1
      go_enter Tryz.func55, Tryz.ntmps55
      go_wp2_with fail
      go_ret
      exact ⟨rfl, rfl⟩
    by_cases e3 : n = 3
    · subst e3
      cases r with
      | nil =>
        have : V = 0 := by rw [hv.out]; rfl
        subst this
        rw [List.length_nil]
        clear hv h1 hn e0 e1 e2 hne
        go_enter Tryz.func55, Tryz.ntmps55
        go_wp2_with fail
        go_ret
        exact ⟨rfl, rfl⟩
      | cons y r =>
        have : V = 2 + y.toNat := by rw [hv.out]; rfl
        subst this
        have hy := y.toNat_lt
        have h1' := h1.out y r rfl
        obtain ⟨m, hm⟩ : ∃ m, Hid (y.toNat = m) := ⟨_, rfl⟩
        rw [hm.out] at h1' hy ⊢
        rw [List.length_cons] at *
        have hgt : (1 : Int) < ((r.length + 1 + 1 : Nat) : Int) := by omega
        clear hv h1 hn e0 e1 e2 hm
        go_enter Tryz.func55, Tryz.ntmps55
        go_wp2_with fail
        go_ret
        exact ⟨by go_num, rfl⟩
    · have : V = 0 := by rw [hv.out, if_neg e0, if_neg e1, if_neg e2, if_neg e3]
      subst this
      have d0 : ((n : Int) == 0) = false := by rw [beq_eq_false_iff_ne]; omega
      have d1 : ((n : Int) == 1) = false := by rw [beq_eq_false_iff_ne]; omega
      have d2 : ((n : Int) == 2) = false := by rw [beq_eq_false_iff_ne]; omega
      have d3 : ((n : Int) == 3) = false := by rw [beq_eq_false_iff_ne]; omega
      clear hv h1 hn
      go_enter Tryz.func55, Tryz.ntmps55
      go_wp2_with fail
      go_ret
      exact ⟨rfl, rfl⟩
end Go.Proofs.YtpekgpgfdiffcaaGreat
end

section
namespace Go.Proofs.YtpekgpgfdiffcaaGreat
open Go.RowKit Go.Hay
set_option linter.unusedVariables false
set_option linter.unusedSimpArgs false

theorem decS_one (r l : List UInt8) (m : List Val) (h : decS (1 :: r) = (m, 0)) : ∃ x, m = [x] := by
  simp only [decS] at h
  rw [if_neg (by decide)] at h
  have e : (1 : UInt8).toNat = 1 := rfl
  rw [e] at h
  simp only [decL] at h
  split at h
  · simp [decO] at h
  · cases hd : (if r.drop (rowF r).2 = [] then some ([] : List Val) else none) with
    | none => rw [hd] at h; simp [decO] at h
    | some q =>
      rw [hd] at h
      split at hd
      · cases hd
        simp [decO] at h
        exact ⟨_, h.symm⟩
      · cases hd
/-- The value at the begin, and how many bytes it has (0: none). -/
def tkV (bs : List UInt8) : Val × Nat := if vsz bs = 0 ∨ bs.length < vsz bs then (nilV, 0) else if (decS (1 :: bs.take (vsz bs))).2 = 0 then ((decS (1 :: bs.take (vsz bs))).1.getD 0 nv, vsz bs) else (nilV, 0)
set_option maxHeartbeats 4000000 in
set_option maxRecDepth 100000 in
theorem cTakeV (a : Option Addr) (c : Nat) (bs : List UInt8) (w : World) (hs : Sees w a bs) (hl : bs.length ≤ c) (hm : c ≤ maxLen) (hb : bs.length ≤ 900000000000000) :
    Calls Tryz.prog 36 #[.slice a bs.length c] w (Tk w (tkV bs)) := by
  have kW : Kp [] w (w.alloc (.cells #[.int .i64 0, .bool false, .int .i64 0, .string ⟨#[]⟩] 38)) := (Kp.refl _ _).alloc _
  have bA := Box4.new w (.int .i64 0) (.bool false) (.int .i64 0) (.string ⟨#[]⟩) 38
  obtain ⟨w0, hw0⟩ : ∃ w0, w.alloc (.cells #[.int .i64 0, .bool false, .int .i64 0, .string ⟨#[]⟩] 38) = w0 := ⟨_, rfl⟩
  rw [hw0] at kW bA
  have cV := cValueSize a c bs w0 (hs.kept kW (by simp)) hb
  have hT : Hid (tkV bs = if vsz bs = 0 ∨ bs.length < vsz bs then (nilV, 0) else if (decS (1 :: bs.take (vsz bs))).2 = 0 then ((decS (1 :: bs.take (vsz bs))).1.getD 0 nv, vsz bs) else (nilV, 0)) := rfl
  have hvl := vsz_le bs
  obtain ⟨R, hR⟩ : ∃ R, Hid (tkV bs = R) := ⟨_, rfl⟩
  obtain ⟨n, hn⟩ : ∃ n, Hid (vsz bs = n) := ⟨_, rfl⟩
  rw [hR.out] at hT ⊢
  rw [hn.out] at cV hT hvl
  have hs' := hid hs
  unfold maxLen at hm
  have q0 := bA.c0; have q1 := bA.c1; have q2 := bA.c2; have q3 := bA.c3
  have f0 := bA.free 0; have f1 := bA.free 1; have f2 := bA.free 2; have f3 := bA.free 3
  by_cases hbad : n = 0 ∨ bs.length < n
  · have HF : Hid (R = (nilV, 0)) := by show _ = _; rw [hT.out, if_pos hbad]
    clear hT hs hs'
    go_enter Tryz.func36, Tryz.ntmps36
    go_wp2_with fail
    refine cV.mono ?_
    rintro e w9 ⟨rfl, hw9⟩
    rw [hw9]
    clear hw9 w9 cV
    rcases hbad with h0 | h0
    · subst h0
      go_wp2_with fail
      refine gen4 (R := fun W => bodyPost _ _ _ _ _ W) bA kW (Nat.le_refl _) _ _ _ _ ?_
      intro W bW kW2
      have r0 := bW.c0; have r1 := bW.c1; have r2 := bW.c2; have r3 := bW.c3
      refine bodyPost_ret (v := .tuple #[Val.v nilV, .int .i64 0]) (by simp [results, Tryz.results36, go_sem, Val.v, nilV, r0, r1, r2, r3]) rfl ⟨?_, kW2⟩
      rw [HF.out]; rfl
    · have d0 : ((n : Int) == 0) = false := by rw [beq_eq_false_iff_ne]; omega
      have d1 : (bs.length : Int) < (n : Int) := by omega
      go_wp2_with fail
      refine gen4 (R := fun W => bodyPost _ _ _ _ _ W) bA kW (Nat.le_refl _) _ _ _ _ ?_
      intro W bW kW2
      have r0 := bW.c0; have r1 := bW.c1; have r2 := bW.c2; have r3 := bW.c3
      refine bodyPost_ret (v := .tuple #[Val.v nilV, .int .i64 0]) (by simp [results, Tryz.results36, go_sem, Val.v, nilV, r0, r1, r2, r3]) rfl ⟨?_, kW2⟩
      rw [HF.out]; rfl
  · have hn0 : 0 < n := by omega
    have hnl : n ≤ bs.length := by omega
    rw [if_neg hbad] at hT
    clear hbad
    obtain ⟨g, o, rfl⟩ : ∃ g o, a = some ⟨g, o, none⟩ := by
      rcases hs with h | ⟨g, o, h, _⟩
      · rw [h] at hnl; simp at hnl; omega
      · exact ⟨g, o, h⟩
    have hsf : Hid (∀ W, Kp [] w W → Sees W (some ⟨g, o, none⟩) (bs.take n)) := fun W kW => (hs'.out.kept kW (by simp)).front n
    have htl : (bs.take n).length = n := by simp; omega
    obtain ⟨T, hTT⟩ : ∃ T, Hid (bs.take n = T) := ⟨_, rfl⟩
    rw [hTT.out] at hT htl
    simp only [hTT.out] at hsf
    have hd1 := hid (decS_one T T)
    have hjn : Hid (∀ Y X, w0.alloc (.cells #[.int .u8 1] 5) = Y → Y.alloc (.cells #[.slice (some ⟨w0.heap.size, 0, none⟩) 1 1, .slice (some ⟨g, o, none⟩) n c] 22) = X → Kp [] w0 X ∧ Calls Tryz.prog 57 #[.slice (some ⟨Y.heap.size, 0, none⟩) 2 2] X (NB (1 :: T) X)) := fun Y X hY hX => by
      have kY : Kp [] w0 Y := by rw [← hY]; exact (Kp.refl _ _).alloc _
      have kX : Kp [] Y X := by rw [← hX]; exact (Kp.refl _ _).alloc _
      have h1 : Sees Y (some ⟨w0.heap.size, 0, none⟩) [1] := by rw [← hY]; exact oneB w0 rfl 1 1 rfl _
      have h2 : BsE.See X (some ⟨Y.heap.size, 0, none⟩) [⟨some ⟨w0.heap.size, 0, none⟩, 1, [1]⟩, ⟨some ⟨g, o, none⟩, c, T⟩] := by
        rw [← hX]
        have := twoBs Y rfl ⟨some ⟨w0.heap.size, 0, none⟩, 1, [1]⟩ ⟨some ⟨g, o, none⟩, c, T⟩ 22
        simp only [List.length_singleton, htl] at this
        exact this
      have := cJoin (some ⟨Y.heap.size, 0, none⟩) 2 [⟨some ⟨w0.heap.size, 0, none⟩, 1, [1]⟩, ⟨some ⟨g, o, none⟩, c, T⟩] X h2 (fun x hx => by
        simp only [List.mem_cons, List.not_mem_nil, or_false] at hx
        rcases hx with rfl | rfl
        · exact h1.kept kX (by simp)
        · exact hsf.out X ((kW.trans kY (by simp)).trans kX (by simp))) (by simp) (by simp [flatB, htl]; omega)
      have e : flatB [⟨some ⟨w0.heap.size, 0, none⟩, 1, [1]⟩, ⟨some ⟨g, o, none⟩, c, T⟩] = 1 :: T := by simp [flatB]
      rw [e] at this
      exact ⟨kY.trans kX (by simp), this⟩
    have hDec : Hid (∀ Z b c', Row Z (.slice b (1 :: T).length c') (1 :: T) → Calls Tryz.prog 56 #[.slice b (1 :: T).length c'] Z (Rdn Z (decS (1 :: T)))) := fun Z b c' hr => by
      obtain ⟨_, _, e, h1, _⟩ := hr.sees
      injection e with e1 e2 e3
      subst e1
      rcases hr with ⟨_, h⟩ | ⟨g9, o9, cap, e, hl9, hm9, _⟩
      · cases h
      · injection e with e4 e5 e6
        exact cDecode b c' (1 :: T) Z h1 (by rw [e6]; exact hl9) (by rw [e6]; exact hm9)
    obtain ⟨⟨D1, D2⟩, hD⟩ : ∃ D, Hid (decS (1 :: T) = D) := ⟨_, rfl⟩
    rw [hD.out] at hT hd1
    simp only [hD.out] at hDec
    dsimp only at hT
    have hTl : Hid ((1 :: T).length = n + 1) := by show _ = _; simp [htl]
    obtain ⟨T1, hT1⟩ : ∃ T1, Hid ((1 : UInt8) :: T = T1) := ⟨_, rfl⟩
    simp only [hT1.out] at hjn hDec
    clear hs hs' hsf htl hTT hTl hT1 hD
    go_enter Tryz.func36, Tryz.ntmps36
    go_wp2_with fail
    refine cV.mono ?_
    rintro e w9 ⟨rfl, hw9⟩
    rw [hw9]
    clear hw9 w9 cV
    obtain ⟨Y, hY⟩ : ∃ Y, w0.alloc (.cells #[.int .u8 1] 5) = Y := ⟨_, rfl⟩
    obtain ⟨X, hX⟩ : ∃ X, Y.alloc (.cells #[.slice (some ⟨w0.heap.size, 0, none⟩) 1 1, .slice (some ⟨g, o, none⟩) n c] 22) = X := ⟨_, rfl⟩
    obtain ⟨kX, cJ⟩ := hjn.out Y X hY hX
    have d0 : ((n : Int) == 0) = false := by rw [beq_eq_false_iff_ne]; omega
    have d1 : ¬ (bs.length : Int) < (n : Int) := by omega
    clear hjn
    go_wp2_with fail
    refine cJ.mono ?_
    rintro e Z ⟨b2, c2, rfl, hr2, kZ, hn2⟩
    have cD := hDec.out Z b2 c2 hr2
    have kZ0 := kX.trans kZ (by simp)
    clear hr2 hDec cJ hn2 kX kZ
    go_wp2_with fail
    refine cD.mono ?_
    rintro e U ⟨a3, c3, l3, E3, h3, rfl, hv3, hl3, hl3c, hc3, _, kU⟩
    obtain ⟨e1, e2⟩ := Prod.mk.inj h3.out
    subst e1 e2
    have kU0 := kZ0.trans kU (by simp)
    have bU := boxKeep bA kU0
    have kWU := kW.trans kU0 (by simp)
    clear q0 q1 q2 q3 f0 f1 f2 f3 cD kZ0 kU h3
    have q0 := bU.c0; have q1 := bU.c1; have q2 := bU.c2; have q3 := bU.c3
    have f0 := bU.free 0; have f1 := bU.free 1; have f2 := bU.free 2; have f3 := bU.free 3
    by_cases hE : D2 = 0
    · subst hE
      obtain ⟨x, rfl⟩ := hd1.out D1 rfl
      obtain ⟨g3, o3, rfl, y0, y1, y2, y3⟩ := hv3.at 0 (by simp)
      rw [Nat.zero_mul, Nat.add_zero] at y0 y1 y2 y3
      have HF : Hid (R = (x, n)) := by show _ = _; rw [hT.out]; rfl
      simp only [List.getElem_cons_zero, List.length_singleton] at *
      obtain ⟨xk, xb, xn, xt⟩ := x
      dsimp only at y0 y1 y2 y3
      clear hT hv3 hd1
      go_wp2_with fail
      refine gen4 (R := fun W => bodyPost _ _ _ _ _ W) bU kWU (Nat.le_refl _) _ _ _ _ ?_
      intro W bW kW2
      have r0 := bW.c0; have r1 := bW.c1; have r2 := bW.c2; have r3 := bW.c3
      refine bodyPost_ret (v := .tuple #[Val.v ⟨xk, xb, xn, xt⟩, .int .i64 n]) (by simp [results, Tryz.results36, go_sem, Val.v, nilV, r0, r1, r2, r3]) rfl ⟨?_, kW2⟩
      rw [HF.out]
    · have HF : Hid (R = (nilV, 0)) := by show _ = _; rw [hT.out, if_neg hE]
      have d3 : (D2 != 0) = true := by simpa using hE
      have d4 : (D2 == 0) = false := by simpa using hE
      clear hT hv3 hd1
      go_wp2_with fail
      refine gen4 (R := fun W => bodyPost _ _ _ _ _ W) bU kWU (Nat.le_refl _) _ _ _ _ ?_
      intro W bW kW2
      have r0 := bW.c0; have r1 := bW.c1; have r2 := bW.c2; have r3 := bW.c3
      refine bodyPost_ret (v := .tuple #[Val.v nilV, .int .i64 0]) (by simp [results, Tryz.results36, go_sem, Val.v, nilV, r0, r1, r2, r3]) rfl ⟨?_, kW2⟩
      rw [HF.out]; rfl
end Go.Proofs.YtpekgpgfdiffcaaGreat
end

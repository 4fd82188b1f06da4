/- putValue: a value's bytes behind what is written. What bytes begin with: a value's bytes read: the program's takeFixed and takeValue, the reference's Front. The least and the greatest of values: slices.MinFunc, slices.MaxFunc. headOf. headOf. -/
import Derived.Test.YtohbdbecioanaaaGreatDoorB3
import Derived.Test.YtohbdbecioanaaaGreatDoorB5
import Derived.Test.YtohbdbecioanaaaGreatDoorB1
import Derived.Test.YtohbdbecioanaaaGreatDoorB2
import Derived.Laws.BytesArg
import Derived.Laws.IdiomStrings
import Derived.Deep.RegionHeld3
section
namespace Go.Proofs.YtohbdbecioanaaaGreatDoor
open Go.RowKit Go.Hay
set_option linter.unusedVariables false
set_option linter.unusedSimpArgs false

theorem Wrote.pre {p : Nat} {v v' : Value} {w w1 w2 : World} (k : Kp [] w w1) (h : Wrote p v w1 v' w2) : Wrote p v w v' w2 :=
  ⟨(k.mono (fun x hx => by simp at hx)).trans h.kp (fun x hx => .inl hx), fun x hx => by
    rcases h.new x hx with h1 | h1
    · exact .inl h1
    · exact .inr (Nat.le_trans k.size h1)⟩
set_option maxHeartbeats 4000000 in
set_option maxRecDepth 100000 in
theorem bPutValue (p : Nat) (v : Value) (bs : List UInt8) (x : Val) (hx : x.right = true) (w : World) (h : Wr w p v bs) (hb : bs.length ≤ 100000) :
    Calls Tryz.prog 38 #[.pointer (some ⟨p, 0, none⟩), x.v] w fun e w' => e = .returned (.tuple #[]) ∧ ∃ v', Wr w' p v' (bs ++ rowB x) ∧ Wrote p v w v' w' := by
  obtain ⟨w1, hw1, k1, bx⟩ : ∃ w1, w.alloc (.cells #[.int .i64 x.k, .bool x.b, .int .i64 x.n, .string x.t] 30) = w1 ∧ Kp [] w w1 ∧ Box4 w1 w.heap.size (.int .i64 x.k) (.bool x.b) (.int .i64 x.n) (.string x.t) := ⟨_, rfl, (Kp.refl _ _).alloc _, Box4.new _ _ _ _ _ _⟩
  obtain ⟨w2, hw2, k2, bx2⟩ : ∃ w2, w1.alloc (.cells #[.int .i64 x.k, .bool x.b, .int .i64 x.n, .string x.t] 30) = w2 ∧ Kp [] w1 w2 ∧ Box4 w2 w1.heap.size (.int .i64 x.k) (.bool x.b) (.int .i64 x.n) (.string x.t) := ⟨_, rfl, (Kp.refl _ _).alloc _, Box4.new _ _ _ _ _ _⟩
  have hz1 : w1.heap.size = w.heap.size + 1 := by rw [← hw1]; simp
  have hv : Vals w2 (some ⟨w.heap.size + 1, 0, none⟩) [x] := by
    refine .inr ⟨_, 0, rfl, fun j y hy => ?_⟩
    obtain ⟨rfl, rfl⟩ : j = 0 ∧ y = x := by
      cases j with
      | zero => exact ⟨rfl, by simpa using hy.symm⟩
      | succ j => simp at hy
    rw [← hz1]
    exact ⟨bx2.c0, bx2.c1, bx2.c2, bx2.c3⟩
  have hE := cEncode (some ⟨w.heap.size + 1, 0, none⟩) 1 [x] w2 hv (by simp)
  have hok : encS [x] = (octet 1 :: rowB x, 0) := by
    have : okR [x] = true := by simp [okR, allR, hx]
    unfold encS
    rw [if_pos this]
    simp [encB]
  rw [hok] at hE
  have hrl := rowB_length hx
  have k12 : Kp [] w w2 := k1.trans k2 (by simp)
  have hgo : Hid (∀ w3 g o c, Kp [] w2 w3 → Row w3 (.slice (some ⟨g, o + 1, none⟩) (rowB x).length (c - 1)) (rowB x) → Calls Tryz.prog 20 #[.pointer (some ⟨p, 0, none⟩), .slice (some ⟨g, o + 1, none⟩) (rowB x).length (c - 1)] w3 fun e w' => e = .returned (.tuple #[]) ∧ ∃ v', Wr w' p v' (bs ++ rowB x) ∧ Wrote p v w v' w') := fun w3 g o c k3 hrt => by
    have kw3 := k12.trans k3 (by simp)
    obtain ⟨_, _, e, hs, _⟩ := hrt.sees
    cases e
    exact (wRaw p v bs (some ⟨g, o + 1, none⟩) (rowB x).length (c - 1) (rowB x) w3 (h.kept kw3 (by simp)) hs rfl (by omega)).mono fun e w' ⟨h1, v', h2, h3⟩ => ⟨h1, v', h2, h3.pre kw3⟩
  obtain ⟨R, hR⟩ : ∃ R, Hid (rowB x = R) := ⟨_, rfl⟩
  rw [hR.out] at hE ⊢
  simp only [hR.out] at hgo
  have hw1' := hid hw1
  have hw2' := hid hw2
  rw [← hw2, ← hw1] at hE
  clear hw1 hw2 hok hz1 hv h
  obtain ⟨xk, xb, xn, xt⟩ := x
  unfold Val.v
  dsimp only at *
  go_enter Tryz.func38, Tryz.ntmps38
  go_wp2_with fail
  refine hE.mono ?_
  rintro e w3 ⟨a3, c3, bs3, E3, hr3, rfl, hrow, hnew, _⟩
  obtain ⟨rfl, rfl⟩ : octet 1 :: R = bs3 ∧ (0 : Int) = E3 := by have := hr3.out; exact ⟨congrArg Prod.fst this, congrArg Prod.snd this⟩
  have hkk : Kp [] w2 w3 := by rw [← hw2'.out, ← hw1'.out]; exact hnew.kp
  cases a3 with
  | none =>
    rcases hrow with ⟨_, e⟩ | ⟨_, _, _, e, _⟩
    · cases e
    · cases e
  | some ad =>
    obtain ⟨g, o, rest⟩ := ad
    obtain rfl : rest = none := by
      rcases hrow with ⟨e, _⟩ | ⟨_, _, _, e, _⟩
      · cases e
      · cases e; rfl
    obtain ⟨_, hlc, hcm, hrt⟩ := rowTail hrow
    have hf := hgo.out w3 g o c3 hkk hrt
    have hlen : (octet 1 :: R).length = R.length + 1 := by simp
    rw [hlen]
    unfold maxLen at hcm
    have hpos : 1 ≤ R.length := by rw [← hR.out]; exact rowB_one _
    have hc1 : c3 ≠ 1 := by omega
    clear hlen hgo hrow hnew hR hr3 hrt
    go_wp2_with fail
    refine hf.mono ?_
    rintro e w4 ⟨rfl, v', h2, h3⟩
    have h2' := hid h2
    clear hf h2
    go_wp2_with fail
    go_end0
    exact ⟨rfl, v', h2'.out, h3⟩
end Go.Proofs.YtohbdbecioanaaaGreatDoor
end

section
namespace Go.Proofs.YtohbdbecioanaaaGreatDoor
open Go.RowKit Go.Hay
set_option linter.unusedVariables false
set_option linter.unusedSimpArgs false

/-- No value. -/
def nilV : Val := ⟨0, false, 0, ⟨#[]⟩⟩
/-- The null, the bool or the int that bytes begin with, and in how many bytes; 0: none. -/
def fixF (add : Int) : List UInt8 → Val × Nat
  | [] => (nilV, 0)
  | f :: r =>
    if f.toNat = 0 then (nilV, 1)
    else if f.toNat = 1 then (match r with | [] => (nilV, 0) | y :: _ => if y.toNat ≤ 1 then (⟨1, y.toNat == 1, 0, ⟨#[]⟩⟩, 2) else (nilV, 0))
    else if f.toNat = 2 then (if 8 ≤ r.length then (⟨2, false, wrap64 (num (r.take 8) - add), ⟨#[]⟩⟩, 9) else (nilV, 0))
    else (nilV, 0)
/-- The value that a row's bytes begin with. -/
def rowF : List UInt8 → Val × Nat
  | [] => (nilV, 0)
  | f :: r =>
    if f.toNat = 3 then (match r with | [] => (nilV, 0) | y :: s => if y.toNat ≤ 64 ∧ y.toNat ≤ s.length then (⟨3, false, 0, ⟨(s.take y.toNat).toArray⟩⟩, 2 + y.toNat) else (nilV, 0))
    else fixF 0 (f :: r)

/-- Eight bytes or more are an array of eight. -/
theorem arrAt (a : Option Addr) (c : Nat) (w : World) : (Instr.arrayAt 169 (.slice a 8 c)).run Tryz.prog w = .ok (.pointer a) w := by
  simp [Instr.arrayAt, go_sem]
/-- Bytes that a slice sees, as a string. -/
theorem convSees {w : World} {a : Option Addr} {l : List UInt8} (h : Sees w a l) (c : Nat) : (convert 22 9 (.slice a l.length c)).run Tryz.prog w = .ok (.string ⟨l.toArray⟩) w := by
  rcases h with rfl | ⟨g, o, rfl, hc⟩
  · cases a with
    | none => exact run_convert_bytes_nil w 22 5 Tryz.underlying22 Tryz.underlying5 0 c 9 Tryz.underlying9
    | some ad => exact run_convert_bytes_back (P := Tryz.prog) w 22 9 5 ad c [] Tryz.underlying22 Tryz.underlying5 Tryz.underlying9 (fun j hj => by simp at hj)
  · refine run_convert_bytes_back (P := Tryz.prog) w 22 9 5 ⟨g, o, none⟩ c l Tryz.underlying22 Tryz.underlying5 Tryz.underlying9 (fun j hj => ?_)
    rw [Addr.add_lit]
    exact hc j l[j] (by simp)
theorem Box4.put {w : World} {q : Nat} {a b c d : Value} (h : Box4 w q a b c d) (a' b' c' d' : Value) : Box4 ((((w.setCell ⟨q, 0, none⟩ a').setCell ⟨q, 1, none⟩ b').setCell ⟨q, 2, none⟩ c').setCell ⟨q, 3, none⟩ d') q a' b' c' d' := by
  have n0 : ∀ (w : World) (i j : Nat) (v : Value), i ≠ j → (w.setCell ⟨q, j, none⟩ v).cell? ⟨q, i, none⟩ = w.cell? ⟨q, i, none⟩ := fun w i j v hij => World.cell?_setCell_other _ _ _ _ (by intro e; simp only [Addr.mk.injEq] at e; omega)
  refine ⟨?_, ?_, ?_, ?_, fun j => ?_⟩
  · rw [n0 _ 0 3 _ (by omega), n0 _ 0 2 _ (by omega), n0 _ 0 1 _ (by omega)]
    exact World.cell?_setCell_same _ _ _ h.c0
  · rw [n0 _ 1 3 _ (by omega), n0 _ 1 2 _ (by omega)]
    exact World.cell?_setCell_same _ _ _ ((n0 _ 1 0 _ (by omega)).trans h.c1)
  · rw [n0 _ 2 3 _ (by omega)]
    exact World.cell?_setCell_same _ _ _ ((n0 _ 2 1 _ (by omega)).trans ((n0 _ 2 0 _ (by omega)).trans h.c2))
  · exact World.cell?_setCell_same _ _ _ ((n0 _ 3 2 _ (by omega)).trans ((n0 _ 3 1 _ (by omega)).trans ((n0 _ 3 0 _ (by omega)).trans h.c3)))
  · rw [World.frozen?_setCell, World.frozen?_setCell, World.frozen?_setCell, World.frozen?_setCell]; exact h.free j
theorem gen4 {w0 w : World} {q : Nat} {a b c d : Value} {R : World → Prop} (h : Box4 w q a b c d) (hk : Kp [] w0 w) (hq : w0.heap.size ≤ q) (a' b' c' d' : Value)
    (H : ∀ W, Box4 W q a' b' c' d' → Kp [] w0 W → R W) : R ((((w.setCell ⟨q, 0, none⟩ a').setCell ⟨q, 1, none⟩ b').setCell ⟨q, 2, none⟩ c').setCell ⟨q, 3, none⟩ d') :=
  H _ (h.put a' b' c' d') ((((hk.setCell (.inr hq) _).setCell (.inr hq) _).setCell (.inr hq) _).setCell (.inr hq) _)

/-- What a call that takes a value hands back. -/
def Tk (w : World) (r : Val × Nat) (e : Ending) (w' : World) : Prop := e = .returned (.tuple #[r.1.v, .int .i64 r.2]) ∧ Kp [] w w'

set_option maxHeartbeats 4000000 in
set_option maxRecDepth 100000 in
theorem cTakeFixed (a : Option Addr) (c : Nat) (bs : List UInt8) (add : Int) (w : World) (hs : Sees w a bs) (hl : bs.length ≤ c) (hm : c ≤ maxLen) :
    Calls Tryz.prog 153 #[.slice a bs.length c, .int .u64 add] w (Tk w (fixF add bs)) := by
  have kW : Kp [] w (w.alloc (.cells #[.int .i64 0, .bool false, .int .i64 0, .string ⟨#[]⟩] 30)) := (Kp.refl _ _).alloc _
  have bA := Box4.new w (.int .i64 0) (.bool false) (.int .i64 0) (.string ⟨#[]⟩) 30
  cases bs with
  | nil =>
    go_enter Tryz.func153, Tryz.ntmps153
    go_wp2_with fail
    all_goals refine bodyPost_ret (v := .tuple #[Val.v nilV, .int .i64 0]) (by simp [results, Tryz.results153, go_sem, Val.v, nilV]) rfl ⟨?_, kW⟩
    rfl
  | cons f r =>
    obtain ⟨g, o, rfl, hc⟩ : ∃ g o, a = some ⟨g, o, none⟩ ∧ ∀ j u, (f :: r)[j]? = some u → w.cell? ⟨g, o + j, none⟩ = some (.int .u8 u.toNat) := by
      rcases hs with h | h
      · cases h
      · exact h
    have hc0 : w.cell? ⟨g, o, none⟩ = some (.int .u8 f.toNat) := hc 0 f rfl
    have hg := World.block_lt_of_cell? _ _ hc0
    have hf := f.toNat_lt
    have htl := fun n : Nat => (show Sees w (some ⟨g, o + 1, none⟩) (r.take n) by have := (Sees.tail hs 1).front n; simpa [Addr.add_lit] using this)
    rw [List.length_cons] at hl ⊢
    unfold maxLen at hm
    by_cases h0 : f.toNat = 0
    · have HF : Hid (fixF add (f :: r) = (nilV, 1)) := by show _ = _; simp [fixF, h0]
      rw [h0] at hc0
      clear hc h0 hs htl hf
      generalize fixF add (f :: r) = R at *
      go_enter Tryz.func153, Tryz.ntmps153
      go_wp2_with fail
      refine (cNull _).mono ?_
      rintro e w1 ⟨rfl, k1⟩
      have bA1 := boxKeep bA k1
      have q0 := bA1.c0; have q1 := bA1.c1; have q2 := bA1.c2; have q3 := bA1.c3
      have f0 := bA1.free 0; have f1 := bA1.free 1; have f2 := bA1.free 2; have f3 := bA1.free 3
      have kk := kW.trans k1 (by simp)
      go_wp2_with fail
      refine gen4 (R := fun W => bodyPost _ _ _ _ _ W) bA1 kk (Nat.le_refl _) _ _ _ _ ?_
      intro W bW kW2
      have r0 := bW.c0; have r1 := bW.c1; have r2 := bW.c2; have r3 := bW.c3
      refine bodyPost_ret (v := .tuple #[Val.v nilV, .int .i64 1]) (by simp [results, Tryz.results153, go_sem, Val.v, nilV, r0, r1, r2, r3]) rfl ⟨?_, kW2⟩
      all_goals (rw [HF.out]; rfl)
    have e0 : ((f.toNat : Int) == 0) = false := by simp; omega
    by_cases h1 : f.toNat = 1
    · rw [h1] at hc0
      cases r with
      | nil =>
        have HF : Hid (fixF add (f :: []) = (nilV, 0)) := by show _ = _; simp [fixF, h1]
        clear hc h0 h1 hs htl hf e0
        generalize fixF add (f :: []) = R at *
        rw [List.length_nil] at hl ⊢
        go_enter Tryz.func153, Tryz.ntmps153
        go_wp2_with fail
        all_goals refine bodyPost_ret (v := .tuple #[Val.v nilV, .int .i64 0]) (by simp [results, Tryz.results153, go_sem, Val.v, nilV]) rfl ⟨?_, kW⟩
        all_goals (rw [HF.out]; rfl)
      | cons y s =>
        have hc1 : w.cell? ⟨g, o + 1, none⟩ = some (.int .u8 y.toNat) := hc 1 y rfl
        rw [List.length_cons] at hl ⊢
        have hy := y.toNat_lt
        by_cases hy1 : y.toNat ≤ 1
        · have HF : Hid (fixF add (f :: y :: s) = (⟨1, y.toNat == 1, 0, ⟨#[]⟩⟩, 2)) := by show _ = _; simp [fixF, h1, hy1]
          clear hc h0 h1 hs htl hf e0
          generalize fixF add (f :: y :: s) = R at *
          obtain ⟨b, Hb⟩ : ∃ b : Bool, Hid ((y.toNat == 1) = b) := ⟨_, rfl⟩
          rw [Hb.out] at HF
          have hbb : ((y.toNat : Int) == 1) = b := by rw [← Hb.out, Bool.eq_iff_iff]; simp; omega
          go_enter Tryz.func153, Tryz.ntmps153
          go_wp2_with fail
          refine (cBool b _).mono ?_
          rintro e w1 ⟨rfl, k1⟩
          have bA1 := boxKeep bA k1
          have q0 := bA1.c0; have q1 := bA1.c1; have q2 := bA1.c2; have q3 := bA1.c3
          have f0 := bA1.free 0; have f1 := bA1.free 1; have f2 := bA1.free 2; have f3 := bA1.free 3
          have kk := kW.trans k1 (by simp)
          go_wp2_with fail
          refine gen4 (R := fun W => bodyPost _ _ _ _ _ W) bA1 kk (Nat.le_refl _) _ _ _ _ ?_
          intro W bW kW2
          have r0 := bW.c0; have r1 := bW.c1; have r2 := bW.c2; have r3 := bW.c3
          refine bodyPost_ret (v := .tuple #[Val.v ⟨1, b, 0, ⟨#[]⟩⟩, .int .i64 2]) (by simp [results, Tryz.results153, go_sem, Val.v, nilV, r0, r1, r2, r3]) rfl ⟨?_, kW2⟩
          all_goals (rw [HF.out]; rfl)
        · have HF : Hid (fixF add (f :: y :: s) = (nilV, 0)) := by show _ = _; simp [fixF, h1, hy1]
          clear hc h0 h1 hs htl hf e0
          generalize fixF add (f :: y :: s) = R at *
          go_enter Tryz.func153, Tryz.ntmps153
          go_wp2_with fail
          all_goals refine bodyPost_ret (v := .tuple #[Val.v nilV, .int .i64 0]) (by simp [results, Tryz.results153, go_sem, Val.v, nilV]) rfl ⟨?_, kW⟩
          all_goals (rw [HF.out]; rfl)
    have e1 : ((f.toNat : Int) == 1) = false := by simp; omega
    by_cases h2 : f.toNat = 2
    · rw [h2] at hc0
      by_cases h8 : 8 ≤ r.length
      · have HF : Hid (fixF add (f :: r) = (⟨2, false, wrap64 (num (r.take 8) - add), ⟨#[]⟩⟩, 9)) := by show _ = _; simp [fixF, h2, h8]
        obtain ⟨x0, x1, x2, x3, x4, x5, x6, x7, hr8⟩ : ∃ x0 x1 x2 x3 x4 x5 x6 x7 : UInt8, Hid (r.take 8 = [x0, x1, x2, x3, x4, x5, x6, x7]) := by
          match r, h8 with
          | x0 :: x1 :: x2 :: x3 :: x4 :: x5 :: x6 :: x7 :: r', _ => exact ⟨x0, x1, x2, x3, x4, x5, x6, x7, rfl⟩
        have hs8 := htl 8
        rw [hr8.out] at HF hs8
        have hN := cLongNum [x0, x1, x2, x3, x4, x5, x6, x7] rfl
        have hnb := num_lt64 [x0, x1, x2, x3, x4, x5, x6, x7] (by simp)
        rw [show long8 [x0, x1, x2, x3, x4, x5, x6, x7] = .agg #[.int .u8 x0.toNat, .int .u8 x1.toNat, .int .u8 x2.toNat, .int .u8 x3.toNat, .int .u8 x4.toNat, .int .u8 x5.toNat, .int .u8 x6.toNat, .int .u8 x7.toNat] from rfl] at hN
        have p0 : w.cell? ⟨g, o + 1, none⟩ = some (.int .u8 x0.toNat) := (by rcases hs8 with h | ⟨_, _, h, hh⟩; cases h; cases h; exact hh 0 _ rfl)
        have p1 : w.cell? ⟨g, o + 1 + 1, none⟩ = some (.int .u8 x1.toNat) := (by rcases hs8 with h | ⟨_, _, h, hh⟩; cases h; cases h; exact hh 1 _ rfl)
        have p2 : w.cell? ⟨g, o + 1 + 2, none⟩ = some (.int .u8 x2.toNat) := (by rcases hs8 with h | ⟨_, _, h, hh⟩; cases h; cases h; exact hh 2 _ rfl)
        have p3 : w.cell? ⟨g, o + 1 + 3, none⟩ = some (.int .u8 x3.toNat) := (by rcases hs8 with h | ⟨_, _, h, hh⟩; cases h; cases h; exact hh 3 _ rfl)
        have p4 : w.cell? ⟨g, o + 1 + 4, none⟩ = some (.int .u8 x4.toNat) := (by rcases hs8 with h | ⟨_, _, h, hh⟩; cases h; cases h; exact hh 4 _ rfl)
        have p5 : w.cell? ⟨g, o + 1 + 5, none⟩ = some (.int .u8 x5.toNat) := (by rcases hs8 with h | ⟨_, _, h, hh⟩; cases h; cases h; exact hh 5 _ rfl)
        have p6 : w.cell? ⟨g, o + 1 + 6, none⟩ = some (.int .u8 x6.toNat) := (by rcases hs8 with h | ⟨_, _, h, hh⟩; cases h; cases h; exact hh 6 _ rfl)
        have p7 : w.cell? ⟨g, o + 1 + 7, none⟩ = some (.int .u8 x7.toNat) := (by rcases hs8 with h | ⟨_, _, h, hh⟩; cases h; cases h; exact hh 7 _ rfl)
        clear hc h0 h1 h2 hs htl hf hs8 hr8
        generalize fixF add (f :: r) = R at *
        generalize num [x0, x1, x2, x3, x4, x5, x6, x7] = m at *
        have hc9 : (9 : Nat) ≤ c := by omega
        have hAt := arrAt (some ⟨g, o + 1, none⟩) (c - 1)
        go_enter Tryz.func153, Tryz.ntmps153
        go_wp2_with fail
        refine (hN _).mono ?_
        rintro e w1 ⟨rfl, k1⟩
        have kX := kW.trans ((kpNew _ (.cells #[.int .u8 x0.toNat, .int .u8 x1.toNat, .int .u8 x2.toNat, .int .u8 x3.toNat, .int .u8 x4.toNat, .int .u8 x5.toNat, .int .u8 x6.toNat, .int .u8 x7.toNat] 169)).trans k1 (by simp)) (by simp)
        have bA0 := boxKeep (boxKeep bA (kpNew _ (.cells #[.int .u8 x0.toNat, .int .u8 x1.toNat, .int .u8 x2.toNat, .int .u8 x3.toNat, .int .u8 x4.toNat, .int .u8 x5.toNat, .int .u8 x6.toNat, .int .u8 x7.toNat] 169))) k1
        have hww : wrap64 (IntKind.u64.wrap ((m : Int) - add)) = wrap64 ((m : Int) - add) := by rw [IntKind.wrap_u64]; unfold wrap64; omega
        generalize hz : wrap64 ((m : Int) - add) = z at *
        clear hz kW bA k1
        go_wp2_with fail
        refine (cInt z _).mono ?_
        rintro e w2 ⟨rfl, k2⟩
        have kW := kX
        have bA := bA0
        have k1 := k2
        have bA1 := boxKeep bA k1
        have q0 := bA1.c0; have q1 := bA1.c1; have q2 := bA1.c2; have q3 := bA1.c3
        have f0 := bA1.free 0; have f1 := bA1.free 1; have f2 := bA1.free 2; have f3 := bA1.free 3
        have kk := kW.trans k1 (by simp)
        go_wp2_with fail
        refine gen4 (R := fun W => bodyPost _ _ _ _ _ W) bA1 kk (Nat.le_refl _) _ _ _ _ ?_
        intro W bW kW2
        have r0 := bW.c0; have r1 := bW.c1; have r2 := bW.c2; have r3 := bW.c3
        refine bodyPost_ret (v := .tuple #[Val.v ⟨2, false, z, ⟨#[]⟩⟩, .int .i64 9]) (by simp [results, Tryz.results153, go_sem, Val.v, nilV, r0, r1, r2, r3]) rfl ⟨?_, kW2⟩
        all_goals (rw [HF.out]; rfl)
      · have HF : Hid (fixF add (f :: r) = (nilV, 0)) := by show _ = _; simp [fixF, h2, h8]
        clear hc h0 h1 h2 hs htl hf
        generalize fixF add (f :: r) = R at *
        go_enter Tryz.func153, Tryz.ntmps153
        go_wp2_with fail
        all_goals refine bodyPost_ret (v := .tuple #[Val.v nilV, .int .i64 0]) (by simp [results, Tryz.results153, go_sem, Val.v, nilV]) rfl ⟨?_, kW⟩
        all_goals (rw [HF.out]; rfl)
    have e2 : ((f.toNat : Int) == 2) = false := by simp; omega
    have HF : Hid (fixF add (f :: r) = (nilV, 0)) := by show _ = _; simp [fixF, h0, h1, h2]
    clear hs htl
    by_cases hlen : 1 ≤ r.length
    · obtain ⟨y, s, rfl⟩ : ∃ y s, r = y :: s := by cases r with | nil => simp at hlen | cons y s => exact ⟨y, s, rfl⟩
      have hc1 : w.cell? ⟨g, o + 1, none⟩ = some (.int .u8 y.toNat) := hc 1 y rfl
      clear hc h0 h1 h2 hf
      generalize fixF add (f :: y :: s) = R at *
      by_cases h9 : 9 ≤ (y :: s).length + 1
      · go_enter Tryz.func153, Tryz.ntmps153
        go_wp2_with fail
        all_goals refine bodyPost_ret (v := .tuple #[Val.v nilV, .int .i64 0]) (by simp [results, Tryz.results153, go_sem, Val.v, nilV]) rfl ⟨?_, kW⟩
        all_goals (rw [HF.out]; rfl)
      · go_enter Tryz.func153, Tryz.ntmps153
        go_wp2_with fail
        all_goals refine bodyPost_ret (v := .tuple #[Val.v nilV, .int .i64 0]) (by simp [results, Tryz.results153, go_sem, Val.v, nilV]) rfl ⟨?_, kW⟩
        all_goals (rw [HF.out]; rfl)
    · clear hc h0 h1 h2 hf
      generalize fixF add (f :: r) = R at *
      go_enter Tryz.func153, Tryz.ntmps153
      go_wp2_with fail
      all_goals refine bodyPost_ret (v := .tuple #[Val.v nilV, .int .i64 0]) (by simp [results, Tryz.results153, go_sem, Val.v, nilV]) rfl ⟨?_, kW⟩
      all_goals (rw [HF.out]; rfl)

set_option maxHeartbeats 4000000 in
set_option maxRecDepth 100000 in
theorem cTakeValue (a : Option Addr) (c : Nat) (bs : List UInt8) (w : World) (hs : Sees w a bs) (hl : bs.length ≤ c) (hm : c ≤ maxLen) :
    Calls Tryz.prog 147 #[.slice a bs.length c] w (Tk w (rowF bs)) := by
  have kW : Kp [] w (w.alloc (.cells #[.int .i64 0, .bool false, .int .i64 0, .string ⟨#[]⟩] 30)) := (Kp.refl _ _).alloc _
  have bA := Box4.new w (.int .i64 0) (.bool false) (.int .i64 0) (.string ⟨#[]⟩) 30
  have hT := fun w' (k : Kp [] w w') => cTakeFixed a c bs 0 w' (seesKeep hs k) hl hm
  cases bs with
  | nil =>
    rw [show rowF [] = fixF 0 [] from rfl]
    rw [List.length_nil] at hT ⊢
    generalize fixF 0 _ = R at *
    obtain ⟨⟨xk, xb, xn, xt⟩, n⟩ := R
    unfold Tk Val.v at hT ⊢
    dsimp only at hT ⊢
    go_enter Tryz.func147, Tryz.ntmps147
    go_wp2_with fail
    refine (hT _ kW).mono ?_
    rintro e w1 ⟨rfl, k1⟩
    have bA1 := boxKeep bA k1
    have q0 := bA1.c0; have q1 := bA1.c1; have q2 := bA1.c2; have q3 := bA1.c3
    have f0 := bA1.free 0; have f1 := bA1.free 1; have f2 := bA1.free 2; have f3 := bA1.free 3
    have kk := kW.trans k1 (by simp)
    go_wp2_with fail
    refine gen4 (R := fun W => bodyPost _ _ _ _ _ W) bA1 kk (Nat.le_refl _) _ _ _ _ ?_
    intro W bW kW2
    have r0 := bW.c0; have r1 := bW.c1; have r2 := bW.c2; have r3 := bW.c3
    refine bodyPost_ret (v := .tuple #[Val.v ⟨xk, xb, xn, xt⟩, .int .i64 n]) (by simp [results, Tryz.results147, go_sem, Val.v, nilV, r0, r1, r2, r3]) rfl ⟨?_, kW2⟩
    rfl
  | cons f r =>
    obtain ⟨g, o, rfl, hc⟩ : ∃ g o, a = some ⟨g, o, none⟩ ∧ ∀ j u, (f :: r)[j]? = some u → w.cell? ⟨g, o + j, none⟩ = some (.int .u8 u.toNat) := by
      rcases hs with h | h
      · cases h
      · exact h
    have hc0 : w.cell? ⟨g, o, none⟩ = some (.int .u8 f.toNat) := hc 0 f rfl
    have hg := World.block_lt_of_cell? _ _ hc0
    have hf := f.toNat_lt
    have htl := fun n : Nat => (show Sees w (some ⟨g, o + 1, none⟩) (r.take n) by have := (Sees.tail hs 1).front n; simpa [Addr.add_lit] using this)
    rw [List.length_cons] at hl ⊢
    unfold maxLen at hm
    by_cases h3 : f.toNat = 3
    · rw [h3] at hc0
      clear hT
      cases r with
      | nil =>
        have HF : Hid (rowF (f :: []) = (nilV, 0)) := by show _ = _; simp [rowF, h3]
        clear hc h3 hs htl hf
        generalize rowF (f :: []) = R at *
        rw [List.length_nil] at hl ⊢
        go_enter Tryz.func147, Tryz.ntmps147
        go_wp2_with fail
        all_goals refine bodyPost_ret (v := .tuple #[Val.v nilV, .int .i64 0]) (by simp [results, Tryz.results147, go_sem, Val.v, nilV]) rfl ⟨?_, kW⟩
        all_goals (rw [HF.out]; rfl)
      | cons y s =>
        have hc1 : w.cell? ⟨g, o + 1, none⟩ = some (.int .u8 y.toNat) := hc 1 y rfl
        rw [List.length_cons] at hl ⊢
        have hy := y.toNat_lt
        by_cases hy6 : y.toNat ≤ 64
        · by_cases hys : y.toNat ≤ s.length
          · have HF : Hid (rowF (f :: y :: s) = (⟨3, false, 0, ⟨(s.take y.toNat).toArray⟩⟩, 2 + y.toNat)) := by show _ = _; simp [rowF, h3, hy6, hys]
            have hs2 : Sees (w.alloc (.cells #[.int .i64 0, .bool false, .int .i64 0, .string ⟨#[]⟩] 30)) (some ⟨g, o + 2, none⟩) (s.take y.toNat) := by
              have := seesKeep ((Sees.tail hs 2).front y.toNat) kW
              simpa [Addr.add_lit] using this
            have hcv := convSees hs2 (c - 2)
            rw [show (s.take y.toNat).length = y.toNat by simp; omega] at hcv
            have hT0 : y.toNat = 0 → (⟨(s.take y.toNat).toArray⟩ : ByteArray) = ⟨#[]⟩ := by intro h; rw [h]; rfl
            have hcv0 := fun a c => convSees (w := w.alloc (.cells #[.int .i64 0, .bool false, .int .i64 0, .string ⟨#[]⟩] 30)) (Sees.nil _ a) c
            rw [List.length_nil] at hcv0
            generalize (⟨(s.take y.toNat).toArray⟩ : ByteArray) = T at *
            clear hc h3 hs htl hf hs2
            generalize rowF (f :: y :: s) = R at *
            generalize y.toNat = n at *
            by_cases hc2 : c = 2
            · subst hc2
              obtain rfl : n = 0 := by omega
              have hT1 := hT0 rfl
              subst hT1
              clear hcv hT0
              go_enter Tryz.func147, Tryz.ntmps147
              go_wp2_with fail
              refine (cText ⟨#[]⟩ _).mono ?_
              rintro e w1 ⟨rfl, k1⟩
              have bA1 := boxKeep bA k1
              have q0 := bA1.c0; have q1 := bA1.c1; have q2 := bA1.c2; have q3 := bA1.c3
              have f0 := bA1.free 0; have f1 := bA1.free 1; have f2 := bA1.free 2; have f3 := bA1.free 3
              have kk := kW.trans k1 (by simp)
              go_wp2_with fail
              refine gen4 (R := fun W => bodyPost _ _ _ _ _ W) bA1 kk (Nat.le_refl _) _ _ _ _ ?_
              intro W bW kW2
              have r0 := bW.c0; have r1 := bW.c1; have r2 := bW.c2; have r3 := bW.c3
              refine bodyPost_ret (v := .tuple #[Val.v ⟨3, false, 0, ⟨#[]⟩⟩, .int .i64 2]) (by simp [results, Tryz.results147, go_sem, Val.v, nilV, r0, r1, r2, r3]) rfl ⟨?_, kW2⟩
              rw [HF.out]; rfl
            clear hcv0 hT0
            go_enter Tryz.func147, Tryz.ntmps147
            go_wp2_with fail
            refine (cText T _).mono ?_
            rintro e w1 ⟨rfl, k1⟩
            have bA1 := boxKeep bA k1
            have q0 := bA1.c0; have q1 := bA1.c1; have q2 := bA1.c2; have q3 := bA1.c3
            have f0 := bA1.free 0; have f1 := bA1.free 1; have f2 := bA1.free 2; have f3 := bA1.free 3
            have kk := kW.trans k1 (by simp)
            go_wp2_with fail
            refine gen4 (R := fun W => bodyPost _ _ _ _ _ W) bA1 kk (Nat.le_refl _) _ _ _ _ ?_
            intro W bW kW2
            have r0 := bW.c0; have r1 := bW.c1; have r2 := bW.c2; have r3 := bW.c3
            refine bodyPost_ret (v := .tuple #[Val.v ⟨3, false, 0, T⟩, .int .i64 (2 + (n : Int))]) (by simp [results, Tryz.results147, go_sem, Val.v, nilV, r0, r1, r2, r3]) rfl ⟨?_, kW2⟩
            rw [HF.out]; rfl
          · have HF : Hid (rowF (f :: y :: s) = (nilV, 0)) := by show _ = _; simp [rowF, h3, hys]
            clear hc h3 hs htl hf
            generalize rowF (f :: y :: s) = R at *
            go_enter Tryz.func147, Tryz.ntmps147
            go_wp2_with fail
            all_goals refine bodyPost_ret (v := .tuple #[Val.v nilV, .int .i64 0]) (by simp [results, Tryz.results147, go_sem, Val.v, nilV]) rfl ⟨?_, kW⟩
            all_goals (rw [HF.out]; rfl)
        · have HF : Hid (rowF (f :: y :: s) = (nilV, 0)) := by show _ = _; simp [rowF, h3, hy6]
          clear hc h3 hs htl hf
          generalize rowF (f :: y :: s) = R at *
          go_enter Tryz.func147, Tryz.ntmps147
          go_wp2_with fail
          all_goals refine bodyPost_ret (v := .tuple #[Val.v nilV, .int .i64 0]) (by simp [results, Tryz.results147, go_sem, Val.v, nilV]) rfl ⟨?_, kW⟩
          all_goals (rw [HF.out]; rfl)
    · have e3 : ((f.toNat : Int) == 3) = false := by simp; omega
      rw [show rowF (f :: r) = fixF 0 (f :: r) by simp only [rowF, if_neg h3]]
      rw [List.length_cons] at hT
      have e3' : ((f.toNat : Int) != 3) = true := by simp; omega
      clear hc hs htl hf
      generalize fixF 0 _ = R at *
      obtain ⟨⟨xk, xb, xn, xt⟩, n⟩ := R
      unfold Tk Val.v at hT ⊢
      dsimp only at hT ⊢
      go_enter Tryz.func147, Tryz.ntmps147
      go_wp2_with fail
      refine (hT _ kW).mono ?_
      rintro e w1 ⟨rfl, k1⟩
      have bA1 := boxKeep bA k1
      have q0 := bA1.c0; have q1 := bA1.c1; have q2 := bA1.c2; have q3 := bA1.c3
      have f0 := bA1.free 0; have f1 := bA1.free 1; have f2 := bA1.free 2; have f3 := bA1.free 3
      have kk := kW.trans k1 (by simp)
      go_wp2_with fail
      refine gen4 (R := fun W => bodyPost _ _ _ _ _ W) bA1 kk (Nat.le_refl _) _ _ _ _ ?_
      intro W bW kW2
      have r0 := bW.c0; have r1 := bW.c1; have r2 := bW.c2; have r3 := bW.c3
      refine bodyPost_ret (v := .tuple #[Val.v ⟨xk, xb, xn, xt⟩, .int .i64 n]) (by simp [results, Tryz.results147, go_sem, Val.v, nilV, r0, r1, r2, r3]) rfl ⟨?_, kW2⟩
      rfl
end Go.Proofs.YtohbdbecioanaaaGreatDoor
end

section
namespace Go.Proofs.YtohbdbecioanaaaGreatDoor
open Go.RowKit Go.Hay
set_option linter.unusedVariables false
set_option linter.unusedSimpArgs false

def minTo (l : List Val) : Nat → Val
  | 0 => l.getD 0 nv
  | j + 1 => if cmpV (l.getD (j + 1) nv) (minTo l j) < 0 then l.getD (j + 1) nv else minTo l j
def maxTo (l : List Val) : Nat → Val
  | 0 => l.getD 0 nv
  | j + 1 => if 0 < cmpV (l.getD (j + 1) nv) (maxTo l j) then l.getD (j + 1) nv else maxTo l j
def minV (l : List Val) : Val := minTo l (l.length - 1)
def maxV (l : List Val) : Val := maxTo l (l.length - 1)
set_option maxHeartbeats 8000000 in
set_option maxRecDepth 100000 in
theorem cMinV (a : Option Addr) (ca : Nat) (l : List Val) (w : World) (ha : Vals w a l) (h0 : 0 < l.length) (hl : l.length ≤ 1000000) :
    Calls Tryz.prog 39 #[.slice a l.length ca, .func (.func 40) #[] #[]] w fun e w' => e = .returned (minV l).v ∧ Kp [] w w' := by
  obtain ⟨g, o, rfl, hdrop⟩ := ha.at 0 h0
  clear hdrop
  have hat : Hid (∀ W, Kp [] w W → ∀ j, j < l.length → W.cell? ⟨g, o + j * 4, none⟩ = some (.int .i64 (l.getD j nv).k) ∧ W.cell? ⟨g, o + j * 4 + 1, none⟩ = some (.bool (l.getD j nv).b) ∧ W.cell? ⟨g, o + j * 4 + 2, none⟩ = some (.int .i64 (l.getD j nv).n) ∧ W.cell? ⟨g, o + j * 4 + 3, none⟩ = some (.string (l.getD j nv).t)) := fun W kW j hj => by
    obtain ⟨_, _, e, y0, y1, y2, y3⟩ := (ha.kept kW).at j hj
    cases e
    have eg : l.getD j nv = l[j] := by simp [hj]
    rw [eg]
    exact ⟨y0, y1, y2, y3⟩
  have hF : Hid (minV l = minTo l (l.length - 1)) := rfl
  obtain ⟨F, hFF⟩ : ∃ F, Hid (minV l = F) := ⟨_, rfl⟩
  rw [hFF.out] at hF ⊢
  have kW0 : Kp [] w (w.alloc (.cells #[.int .i64 0, .bool false, .int .i64 0, .string ⟨#[]⟩] 30)) := (Kp.refl _ _).alloc _
  have bA := Box4.new w (.int .i64 0) (.bool false) (.int .i64 0) (.string ⟨#[]⟩) 30
  obtain ⟨w0, hw0⟩ : ∃ w0, w.alloc (.cells #[.int .i64 0, .bool false, .int .i64 0, .string ⟨#[]⟩] 30) = w0 := ⟨_, rfl⟩
  rw [hw0] at kW0 bA
  obtain ⟨a0, a1, a2, a3⟩ := hat.out w0 kW0 0 h0
  rw [Nat.zero_mul, Nat.add_zero] at a0 a1 a2 a3
  have hm0 : Hid (minTo l 0 = l.getD 0 nv) := rfl
  rw [← hm0.out] at a0 a1 a2 a3
  obtain ⟨⟨mk, mb, mn, mt⟩, hm⟩ : ∃ m, Hid (minTo l 0 = m) := ⟨_, rfl⟩
  rw [hm.out] at a0 a1 a2 a3
  dsimp only at a0 a1 a2 a3
  obtain ⟨q, hq⟩ : ∃ q, w0.heap.size = q := ⟨_, rfl⟩
  obtain ⟨w1, hw1⟩ : ∃ w1, w0.alloc (.cells #[.int .i64 mk, .bool mb, .int .i64 mn, .string mt] 30) = w1 := ⟨_, rfl⟩
  have k1 : Kp [] w0 w1 := by rw [← hw1]; exact (Kp.refl _ _).alloc _
  have bM : Box4 w1 q (.int .i64 mk) (.bool mb) (.int .i64 mn) (.string mt) := by rw [← hw1, ← hq]; exact Box4.new _ _ _ _ _ _
  have bA1 := boxKeep bA k1
  have hqw : w.heap.size < q := by rw [← hq]; exact bA.lt
  have kw1 := kW0.trans k1 (by simp)
  have d1 : ¬ (l.length : Int) < 1 := by omega
  clear ha hFF hm0 bA
  go_enter Tryz.func39, Tryz.ntmps39
  go_wp2_with fail
  clear a0 a1 a2 a3 hw0 hw1 hq
  go_loopw [6] (fun i wn => ∃ (j : Nat) (m : Val), j < l.length ∧ i = .int .i64 ((j : Int) + 1) ∧ Hid (minTo l j = m) ∧ Kp [] w wn ∧ Box4 wn w.heap.size (.int .i64 0) (.bool false) (.int .i64 0) (.string ⟨#[]⟩) ∧ Box4 wn q (.int .i64 m.k) (.bool m.b) (.int .i64 m.n) (.string m.t)) (fun i _ => l.length - (intOf i).toNat)
  case atStart => exact ⟨0, ⟨mk, mb, mn, mt⟩, h0, rfl, hm, kw1, bA1, bM⟩
  case round =>
    clear hm kw1 bA1 bM
    obtain ⟨j, ⟨mk, mb, mn, mt⟩, hj, rfl, hm, kn, bA, bM⟩ := hrel
    dsimp only at bM
    by_cases hlt : j + 1 < l.length
    · have hst : Hid (minTo l (j + 1) = if cmpV (l.getD (j + 1) nv) (minTo l j) < 0 then l.getD (j + 1) nv else minTo l j) := rfl
      rw [hm.out] at hst
      have hcy : Hid (∀ W, Kp [] w W → W.cell? ⟨g, o + (j + 1) * 4, none⟩ = some (.int .i64 (l.getD (j + 1) nv).k) ∧ W.cell? ⟨g, o + (j + 1) * 4 + 1, none⟩ = some (.bool (l.getD (j + 1) nv).b) ∧ W.cell? ⟨g, o + (j + 1) * 4 + 2, none⟩ = some (.int .i64 (l.getD (j + 1) nv).n) ∧ W.cell? ⟨g, o + (j + 1) * 4 + 3, none⟩ = some (.string (l.getD (j + 1) nv).t)) := fun W kW => hat.out W kW (j + 1) hlt
      obtain ⟨⟨yk, yb, yn, yt⟩, hy⟩ : ∃ y, Hid (l.getD (j + 1) nv = y) := ⟨_, rfl⟩
      rw [hy.out] at hst
      simp only [hy.out] at hcy
      have cC := fun W => cCompare ⟨yk, yb, yn, yt⟩ ⟨mk, mb, mn, mt⟩ W
      obtain ⟨C, hC⟩ : ∃ C, Hid (cmpV ⟨yk, yb, yn, yt⟩ ⟨mk, mb, mn, mt⟩ = C) := ⟨_, rfl⟩
      simp only [hC.out] at cC
      rw [hC.out] at hst
      unfold Val.v at cC
      dsimp only at cC
      have hcC := hid cC
      have kd : Kp [] w wr.drew := kn.drew
      have kdr : Kp [] wr wr.drew := (Kp.refl _ _).drew
      have hS : Hid (∀ A, Kp [] wr A → (A.cell? ⟨g, o + (j + 1) * 4, none⟩ = some (.int .i64 yk) ∧ A.cell? ⟨g, o + (j + 1) * 4 + 1, none⟩ = some (.bool yb) ∧ A.cell? ⟨g, o + (j + 1) * 4 + 2, none⟩ = some (.int .i64 yn) ∧ A.cell? ⟨g, o + (j + 1) * 4 + 3, none⟩ = some (.string yt)) ∧ (A.cell? ⟨q, 0, none⟩ = some (.int .i64 mk) ∧ A.cell? ⟨q, 1, none⟩ = some (.bool mb) ∧ A.cell? ⟨q, 2, none⟩ = some (.int .i64 mn) ∧ A.cell? ⟨q, 3, none⟩ = some (.string mt))) := fun A kA => ⟨hcy.out A (kn.trans kA (by simp)), kpAt kA bM.c0, kpAt kA bM.c1, kpAt kA bM.c2, kpAt kA bM.c3⟩
      have hbA := hid bA
      have hbM := hid bM
      have djl : (j : Int) + 1 < (l.length : Int) := by omega
      have d00 : (0 : Int) ≤ (j : Int) + 1 := by omega
      clear hC cC bA bM hy
      go_wp2_with fail
      refine wp_region_held_drew (S := (fun A => (A.cell? ⟨g, o + (j + 1) * 4, none⟩ = some (.int .i64 yk) ∧ A.cell? ⟨g, o + (j + 1) * 4 + 1, none⟩ = some (.bool yb) ∧ A.cell? ⟨g, o + (j + 1) * 4 + 2, none⟩ = some (.int .i64 yn) ∧ A.cell? ⟨g, o + (j + 1) * 4 + 3, none⟩ = some (.string yt)) ∧ (A.cell? ⟨q, 0, none⟩ = some (.int .i64 mk) ∧ A.cell? ⟨q, 1, none⟩ = some (.bool mb) ∧ A.cell? ⟨q, 2, none⟩ = some (.int .i64 mn) ∧ A.cell? ⟨q, 3, none⟩ = some (.string mt)))) (by kernel_rfl) ?_ (fun hHeld => ?_)
      · exact hS.out _ kdr
      generalize wr.drew = wd at *
      refine wpAnyH_take (i := 0) (v := ?_) rfl (by kernel_rfl) (by kernel_rfl) (by kernel_rfl) (fun _ _ _ h => h) (Or.inl ⟨by rfl, ?_⟩) (by assumption) ?_
      rotate_left
      · intro w hSw; (try dsimp only at hSw); go_simp <;> with_reducible rfl
      try simp only [Act.put, List.getElem_toArray, List.getElem_cons_zero, List.getElem_cons_succ, List.setIfInBounds_toArray, List.set_cons_zero, List.set_cons_succ]
      refine wpAnyH_take (i := 1) (v := ?_) rfl (by kernel_rfl) (by kernel_rfl) (by kernel_rfl) (fun _ _ _ h => h) (Or.inl ⟨by rfl, ?_⟩) (by assumption) ?_
      rotate_left
      · intro w hSw; (try dsimp only at hSw); go_simp <;> with_reducible rfl
      try simp only [Act.put, List.getElem_toArray, List.getElem_cons_zero, List.getElem_cons_succ, List.setIfInBounds_toArray, List.set_cons_zero, List.set_cons_succ]
      refine wpAnyH_take (i := 2) (v := ?_) rfl (by kernel_rfl) (by kernel_rfl) (by kernel_rfl) (fun _ _ _ h => h) (Or.inl ⟨by rfl, ?_⟩) (by assumption) ?_
      rotate_left
      · intro w hSw; (try dsimp only at hSw); go_simp <;> with_reducible rfl
      try simp only [Act.put, List.getElem_toArray, List.getElem_cons_zero, List.getElem_cons_succ, List.setIfInBounds_toArray, List.set_cons_zero, List.set_cons_succ]
      refine wpAnyH_take (i := 3) (v := ?_) rfl (by kernel_rfl) (by kernel_rfl) (by kernel_rfl) (fun _ _ _ h => h) (Or.inl ⟨by rfl, ?_⟩) (by assumption) ?_
      rotate_left
      · intro w hSw; (try dsimp only at hSw); go_simp <;> with_reducible rfl
      try simp only [Act.put, List.getElem_toArray, List.getElem_cons_zero, List.getElem_cons_succ, List.setIfInBounds_toArray, List.set_cons_zero, List.set_cons_succ]
      refine wpAnyH_take (i := 4) (v := ?_) rfl (by kernel_rfl) (by kernel_rfl) (by kernel_rfl) (fun _ _ _ h => h) (Or.inl ⟨by rfl, ?_⟩) (by assumption) ?_
      rotate_left
      · intro w hSw; (try dsimp only at hSw); go_simp <;> with_reducible rfl
      try simp only [Act.put, List.getElem_toArray, List.getElem_cons_zero, List.getElem_cons_succ, List.setIfInBounds_toArray, List.set_cons_zero, List.set_cons_succ]
      refine wpAnyH_take (i := 5) (v := ?_) rfl (by kernel_rfl) (by kernel_rfl) (by kernel_rfl) (fun _ _ _ h => h) (Or.inl ⟨by rfl, ?_⟩) (by assumption) ?_
      rotate_left
      · intro w hSw; (try dsimp only at hSw); go_simp <;> with_reducible rfl
      try simp only [Act.put, List.getElem_toArray, List.getElem_cons_zero, List.getElem_cons_succ, List.setIfInBounds_toArray, List.set_cons_zero, List.set_cons_succ]
      refine wpAnyH_ready (rs := [6]) (by kernel_rfl) (by simp) ?_
      refine AllReadyH.cons rfl (fun K hK => ?_) AllReadyH.nil
      go_simp
      refine (hcC.out wd).mono ?_
      rintro e w2 ⟨rfl, k2⟩
      (try go_wp2_with fail)
      refine hK.out _ _ ?_ (fun hHeld => ?_)
      · exact hS.out _ (kdr.trans k2 (by simp))
      clear hK K
      try simp only [Act.put, List.getElem_toArray, List.getElem_cons_zero, List.getElem_cons_succ, List.setIfInBounds_toArray, List.set_cons_zero, List.set_cons_succ]
      refine wpAnyH_take (i := 7) (v := ?_) rfl (by kernel_rfl) (by kernel_rfl) (by kernel_rfl) (fun _ _ _ h => h) (Or.inl ⟨by rfl, ?_⟩) (by assumption) ?_
      rotate_left
      · intro w hSw; (try dsimp only at hSw); go_simp <;> with_reducible rfl
      try simp only [Act.put, List.getElem_toArray, List.getElem_cons_zero, List.getElem_cons_succ, List.setIfInBounds_toArray, List.set_cons_zero, List.set_cons_succ]
      refine wpAnyH_done (by kernel_rfl) ?_ _
      have kw2 := kd.trans k2 (by simp)
      have k02 := kdr.trans k2 (by simp)
      have bA2 := boxKeep hbA.out k02
      have bM2 := boxKeep hbM.out k02
      clear hHeld hcC
      by_cases hcc : C < 0
      · have hst2 : Hid (minTo l (j + 1) = ⟨yk, yb, yn, yt⟩) := by show _ = _; rw [hst.out, if_pos hcc]
        obtain ⟨⟨y0, y1, y2, y3⟩, _⟩ := hS.out w2 k02
        have f0 := bM2.free 0; have f1 := bM2.free 1; have f2 := bM2.free 2; have f3 := bM2.free 3
        have p0 := bM2.c0; have p1 := bM2.c1; have p2 := bM2.c2; have p3 := bM2.c3
        have hB := bM2.put (.int .i64 yk) (.bool yb) (.int .i64 yn) (.string yt)
        have hqn : w.heap.size ≤ q := by omega
        have kS : Kp [q] w2 ((((w2.setCell ⟨q, 0, none⟩ (.int .i64 yk)).setCell ⟨q, 1, none⟩ (.bool yb)).setCell ⟨q, 2, none⟩ (.int .i64 yn)).setCell ⟨q, 3, none⟩ (.string yt)) := ((((Kp.refl [q] w2).setCell (p := ⟨q, 0, none⟩) (.inl (by simp)) _).setCell (p := ⟨q, 1, none⟩) (.inl (by simp)) _).setCell (p := ⟨q, 2, none⟩) (.inl (by simp)) _).setCell (p := ⟨q, 3, none⟩) (.inl (by simp)) _
        have hA := bA2.kept kS (by simp; omega)
        have kW := kw2.trans kS (fun x hx => .inr (by simp at hx; omega))
        have hN := hid (And.intro kW (And.intro hA hB))
        clear hst bA2 bM2 hB hA kS kW hS hcy
        go_wp2_with fail
        exact ⟨⟨j + 1, ⟨yk, yb, yn, yt⟩, hlt, by go_num, hst2, hN.out.1, hN.out.2.1, hN.out.2.2⟩, by simp [intOf]; omega⟩
      · have hst2 : Hid (minTo l (j + 1) = ⟨mk, mb, mn, mt⟩) := by show _ = _; rw [hst.out, if_neg hcc]
        have hN := hid (And.intro kw2 (And.intro bA2 bM2))
        clear hst bA2 bM2 hS hcy
        go_wp2_with fail
        exact ⟨⟨j + 1, ⟨mk, mb, mn, mt⟩, hlt, by go_num, hst2, hN.out.1, hN.out.2.1, hN.out.2.2⟩, by simp [intOf]; omega⟩
    · have hje : j = l.length - 1 := by omega
      have hFm : Hid (F = ⟨mk, mb, mn, mt⟩) := by show _ = _; rw [hF.out, ← hje]; exact hm.out
      have p0 := bM.c0; have p1 := bM.c1; have p2 := bM.c2; have p3 := bM.c3
      have f0 := bA.free 0; have f1 := bA.free 1; have f2 := bA.free 2; have f3 := bA.free 3
      have q0 := bA.c0; have q1 := bA.c1; have q2 := bA.c2; have q3 := bA.c3
      have djl : ¬ (j : Int) + 1 < (l.length : Int) := by omega
      clear hje hm
      go_wp2_with fail
      refine gen4 (R := fun W => bodyPost _ _ _ _ _ W) bA kn (Nat.le_refl _) _ _ _ _ ?_
      intro W bW kW2
      have r0 := bW.c0; have r1 := bW.c1; have r2 := bW.c2; have r3 := bW.c3
      refine bodyPost_ret (v := Val.v ⟨mk, mb, mn, mt⟩) (by simp [results, Tryz.results39, go_sem, Val.v, r0, r1, r2, r3]) rfl ⟨?_, kW2⟩
      rw [hFm.out]
set_option maxHeartbeats 8000000 in
set_option maxRecDepth 100000 in
theorem cMaxV (a : Option Addr) (ca : Nat) (l : List Val) (w : World) (ha : Vals w a l) (h0 : 0 < l.length) (hl : l.length ≤ 1000000) :
    Calls Tryz.prog 41 #[.slice a l.length ca, .func (.func 40) #[] #[]] w fun e w' => e = .returned (maxV l).v ∧ Kp [] w w' := by
  obtain ⟨g, o, rfl, hdrop⟩ := ha.at 0 h0
  clear hdrop
  have hat : Hid (∀ W, Kp [] w W → ∀ j, j < l.length → W.cell? ⟨g, o + j * 4, none⟩ = some (.int .i64 (l.getD j nv).k) ∧ W.cell? ⟨g, o + j * 4 + 1, none⟩ = some (.bool (l.getD j nv).b) ∧ W.cell? ⟨g, o + j * 4 + 2, none⟩ = some (.int .i64 (l.getD j nv).n) ∧ W.cell? ⟨g, o + j * 4 + 3, none⟩ = some (.string (l.getD j nv).t)) := fun W kW j hj => by
    obtain ⟨_, _, e, y0, y1, y2, y3⟩ := (ha.kept kW).at j hj
    cases e
    have eg : l.getD j nv = l[j] := by simp [hj]
    rw [eg]
    exact ⟨y0, y1, y2, y3⟩
  have hF : Hid (maxV l = maxTo l (l.length - 1)) := rfl
  obtain ⟨F, hFF⟩ : ∃ F, Hid (maxV l = F) := ⟨_, rfl⟩
  rw [hFF.out] at hF ⊢
  have kW0 : Kp [] w (w.alloc (.cells #[.int .i64 0, .bool false, .int .i64 0, .string ⟨#[]⟩] 30)) := (Kp.refl _ _).alloc _
  have bA := Box4.new w (.int .i64 0) (.bool false) (.int .i64 0) (.string ⟨#[]⟩) 30
  obtain ⟨w0, hw0⟩ : ∃ w0, w.alloc (.cells #[.int .i64 0, .bool false, .int .i64 0, .string ⟨#[]⟩] 30) = w0 := ⟨_, rfl⟩
  rw [hw0] at kW0 bA
  obtain ⟨a0, a1, a2, a3⟩ := hat.out w0 kW0 0 h0
  rw [Nat.zero_mul, Nat.add_zero] at a0 a1 a2 a3
  have hm0 : Hid (maxTo l 0 = l.getD 0 nv) := rfl
  rw [← hm0.out] at a0 a1 a2 a3
  obtain ⟨⟨mk, mb, mn, mt⟩, hm⟩ : ∃ m, Hid (maxTo l 0 = m) := ⟨_, rfl⟩
  rw [hm.out] at a0 a1 a2 a3
  dsimp only at a0 a1 a2 a3
  obtain ⟨q, hq⟩ : ∃ q, w0.heap.size = q := ⟨_, rfl⟩
  obtain ⟨w1, hw1⟩ : ∃ w1, w0.alloc (.cells #[.int .i64 mk, .bool mb, .int .i64 mn, .string mt] 30) = w1 := ⟨_, rfl⟩
  have k1 : Kp [] w0 w1 := by rw [← hw1]; exact (Kp.refl _ _).alloc _
  have bM : Box4 w1 q (.int .i64 mk) (.bool mb) (.int .i64 mn) (.string mt) := by rw [← hw1, ← hq]; exact Box4.new _ _ _ _ _ _
  have bA1 := boxKeep bA k1
  have hqw : w.heap.size < q := by rw [← hq]; exact bA.lt
  have kw1 := kW0.trans k1 (by simp)
  have d1 : ¬ (l.length : Int) < 1 := by omega
  clear ha hFF hm0 bA
  go_enter Tryz.func41, Tryz.ntmps41
  go_wp2_with fail
  clear a0 a1 a2 a3 hw0 hw1 hq
  go_loopw [6] (fun i wn => ∃ (j : Nat) (m : Val), j < l.length ∧ i = .int .i64 ((j : Int) + 1) ∧ Hid (maxTo l j = m) ∧ Kp [] w wn ∧ Box4 wn w.heap.size (.int .i64 0) (.bool false) (.int .i64 0) (.string ⟨#[]⟩) ∧ Box4 wn q (.int .i64 m.k) (.bool m.b) (.int .i64 m.n) (.string m.t)) (fun i _ => l.length - (intOf i).toNat)
  case atStart => exact ⟨0, ⟨mk, mb, mn, mt⟩, h0, rfl, hm, kw1, bA1, bM⟩
  case round =>
    clear hm kw1 bA1 bM
    obtain ⟨j, ⟨mk, mb, mn, mt⟩, hj, rfl, hm, kn, bA, bM⟩ := hrel
    dsimp only at bM
    by_cases hlt : j + 1 < l.length
    · have hst : Hid (maxTo l (j + 1) = if 0 < cmpV (l.getD (j + 1) nv) (maxTo l j) then l.getD (j + 1) nv else maxTo l j) := rfl
      rw [hm.out] at hst
      have hcy : Hid (∀ W, Kp [] w W → W.cell? ⟨g, o + (j + 1) * 4, none⟩ = some (.int .i64 (l.getD (j + 1) nv).k) ∧ W.cell? ⟨g, o + (j + 1) * 4 + 1, none⟩ = some (.bool (l.getD (j + 1) nv).b) ∧ W.cell? ⟨g, o + (j + 1) * 4 + 2, none⟩ = some (.int .i64 (l.getD (j + 1) nv).n) ∧ W.cell? ⟨g, o + (j + 1) * 4 + 3, none⟩ = some (.string (l.getD (j + 1) nv).t)) := fun W kW => hat.out W kW (j + 1) hlt
      obtain ⟨⟨yk, yb, yn, yt⟩, hy⟩ : ∃ y, Hid (l.getD (j + 1) nv = y) := ⟨_, rfl⟩
      rw [hy.out] at hst
      simp only [hy.out] at hcy
      have cC := fun W => cCompare ⟨yk, yb, yn, yt⟩ ⟨mk, mb, mn, mt⟩ W
      obtain ⟨C, hC⟩ : ∃ C, Hid (cmpV ⟨yk, yb, yn, yt⟩ ⟨mk, mb, mn, mt⟩ = C) := ⟨_, rfl⟩
      simp only [hC.out] at cC
      rw [hC.out] at hst
      unfold Val.v at cC
      dsimp only at cC
      have hcC := hid cC
      have kd : Kp [] w wr.drew := kn.drew
      have kdr : Kp [] wr wr.drew := (Kp.refl _ _).drew
      have hS : Hid (∀ A, Kp [] wr A → (A.cell? ⟨g, o + (j + 1) * 4, none⟩ = some (.int .i64 yk) ∧ A.cell? ⟨g, o + (j + 1) * 4 + 1, none⟩ = some (.bool yb) ∧ A.cell? ⟨g, o + (j + 1) * 4 + 2, none⟩ = some (.int .i64 yn) ∧ A.cell? ⟨g, o + (j + 1) * 4 + 3, none⟩ = some (.string yt)) ∧ (A.cell? ⟨q, 0, none⟩ = some (.int .i64 mk) ∧ A.cell? ⟨q, 1, none⟩ = some (.bool mb) ∧ A.cell? ⟨q, 2, none⟩ = some (.int .i64 mn) ∧ A.cell? ⟨q, 3, none⟩ = some (.string mt))) := fun A kA => ⟨hcy.out A (kn.trans kA (by simp)), kpAt kA bM.c0, kpAt kA bM.c1, kpAt kA bM.c2, kpAt kA bM.c3⟩
      have hbA := hid bA
      have hbM := hid bM
      have djl : (j : Int) + 1 < (l.length : Int) := by omega
      have d00 : (0 : Int) ≤ (j : Int) + 1 := by omega
      clear hC cC bA bM hy
      go_wp2_with fail
      refine wp_region_held_drew (S := (fun A => (A.cell? ⟨g, o + (j + 1) * 4, none⟩ = some (.int .i64 yk) ∧ A.cell? ⟨g, o + (j + 1) * 4 + 1, none⟩ = some (.bool yb) ∧ A.cell? ⟨g, o + (j + 1) * 4 + 2, none⟩ = some (.int .i64 yn) ∧ A.cell? ⟨g, o + (j + 1) * 4 + 3, none⟩ = some (.string yt)) ∧ (A.cell? ⟨q, 0, none⟩ = some (.int .i64 mk) ∧ A.cell? ⟨q, 1, none⟩ = some (.bool mb) ∧ A.cell? ⟨q, 2, none⟩ = some (.int .i64 mn) ∧ A.cell? ⟨q, 3, none⟩ = some (.string mt)))) (by kernel_rfl) ?_ (fun hHeld => ?_)
      · exact hS.out _ kdr
      generalize wr.drew = wd at *
      refine wpAnyH_take (i := 0) (v := ?_) rfl (by kernel_rfl) (by kernel_rfl) (by kernel_rfl) (fun _ _ _ h => h) (Or.inl ⟨by rfl, ?_⟩) (by assumption) ?_
      rotate_left
      · intro w hSw; (try dsimp only at hSw); go_simp <;> with_reducible rfl
      try simp only [Act.put, List.getElem_toArray, List.getElem_cons_zero, List.getElem_cons_succ, List.setIfInBounds_toArray, List.set_cons_zero, List.set_cons_succ]
      refine wpAnyH_take (i := 1) (v := ?_) rfl (by kernel_rfl) (by kernel_rfl) (by kernel_rfl) (fun _ _ _ h => h) (Or.inl ⟨by rfl, ?_⟩) (by assumption) ?_
      rotate_left
      · intro w hSw; (try dsimp only at hSw); go_simp <;> with_reducible rfl
      try simp only [Act.put, List.getElem_toArray, List.getElem_cons_zero, List.getElem_cons_succ, List.setIfInBounds_toArray, List.set_cons_zero, List.set_cons_succ]
      refine wpAnyH_take (i := 2) (v := ?_) rfl (by kernel_rfl) (by kernel_rfl) (by kernel_rfl) (fun _ _ _ h => h) (Or.inl ⟨by rfl, ?_⟩) (by assumption) ?_
      rotate_left
      · intro w hSw; (try dsimp only at hSw); go_simp <;> with_reducible rfl
      try simp only [Act.put, List.getElem_toArray, List.getElem_cons_zero, List.getElem_cons_succ, List.setIfInBounds_toArray, List.set_cons_zero, List.set_cons_succ]
      refine wpAnyH_take (i := 3) (v := ?_) rfl (by kernel_rfl) (by kernel_rfl) (by kernel_rfl) (fun _ _ _ h => h) (Or.inl ⟨by rfl, ?_⟩) (by assumption) ?_
      rotate_left
      · intro w hSw; (try dsimp only at hSw); go_simp <;> with_reducible rfl
      try simp only [Act.put, List.getElem_toArray, List.getElem_cons_zero, List.getElem_cons_succ, List.setIfInBounds_toArray, List.set_cons_zero, List.set_cons_succ]
      refine wpAnyH_take (i := 4) (v := ?_) rfl (by kernel_rfl) (by kernel_rfl) (by kernel_rfl) (fun _ _ _ h => h) (Or.inl ⟨by rfl, ?_⟩) (by assumption) ?_
      rotate_left
      · intro w hSw; (try dsimp only at hSw); go_simp <;> with_reducible rfl
      try simp only [Act.put, List.getElem_toArray, List.getElem_cons_zero, List.getElem_cons_succ, List.setIfInBounds_toArray, List.set_cons_zero, List.set_cons_succ]
      refine wpAnyH_take (i := 5) (v := ?_) rfl (by kernel_rfl) (by kernel_rfl) (by kernel_rfl) (fun _ _ _ h => h) (Or.inl ⟨by rfl, ?_⟩) (by assumption) ?_
      rotate_left
      · intro w hSw; (try dsimp only at hSw); go_simp <;> with_reducible rfl
      try simp only [Act.put, List.getElem_toArray, List.getElem_cons_zero, List.getElem_cons_succ, List.setIfInBounds_toArray, List.set_cons_zero, List.set_cons_succ]
      refine wpAnyH_ready (rs := [6]) (by kernel_rfl) (by simp) ?_
      refine AllReadyH.cons rfl (fun K hK => ?_) AllReadyH.nil
      go_simp
      refine (hcC.out wd).mono ?_
      rintro e w2 ⟨rfl, k2⟩
      (try go_wp2_with fail)
      refine hK.out _ _ ?_ (fun hHeld => ?_)
      · exact hS.out _ (kdr.trans k2 (by simp))
      clear hK K
      try simp only [Act.put, List.getElem_toArray, List.getElem_cons_zero, List.getElem_cons_succ, List.setIfInBounds_toArray, List.set_cons_zero, List.set_cons_succ]
      refine wpAnyH_take (i := 7) (v := ?_) rfl (by kernel_rfl) (by kernel_rfl) (by kernel_rfl) (fun _ _ _ h => h) (Or.inl ⟨by rfl, ?_⟩) (by assumption) ?_
      rotate_left
      · intro w hSw; (try dsimp only at hSw); go_simp <;> with_reducible rfl
      try simp only [Act.put, List.getElem_toArray, List.getElem_cons_zero, List.getElem_cons_succ, List.setIfInBounds_toArray, List.set_cons_zero, List.set_cons_succ]
      refine wpAnyH_done (by kernel_rfl) ?_ _
      have kw2 := kd.trans k2 (by simp)
      have k02 := kdr.trans k2 (by simp)
      have bA2 := boxKeep hbA.out k02
      have bM2 := boxKeep hbM.out k02
      clear hHeld hcC
      by_cases hcc : 0 < C
      · have hst2 : Hid (maxTo l (j + 1) = ⟨yk, yb, yn, yt⟩) := by show _ = _; rw [hst.out, if_pos hcc]
        obtain ⟨⟨y0, y1, y2, y3⟩, _⟩ := hS.out w2 k02
        have f0 := bM2.free 0; have f1 := bM2.free 1; have f2 := bM2.free 2; have f3 := bM2.free 3
        have p0 := bM2.c0; have p1 := bM2.c1; have p2 := bM2.c2; have p3 := bM2.c3
        have hB := bM2.put (.int .i64 yk) (.bool yb) (.int .i64 yn) (.string yt)
        have hqn : w.heap.size ≤ q := by omega
        have kS : Kp [q] w2 ((((w2.setCell ⟨q, 0, none⟩ (.int .i64 yk)).setCell ⟨q, 1, none⟩ (.bool yb)).setCell ⟨q, 2, none⟩ (.int .i64 yn)).setCell ⟨q, 3, none⟩ (.string yt)) := ((((Kp.refl [q] w2).setCell (p := ⟨q, 0, none⟩) (.inl (by simp)) _).setCell (p := ⟨q, 1, none⟩) (.inl (by simp)) _).setCell (p := ⟨q, 2, none⟩) (.inl (by simp)) _).setCell (p := ⟨q, 3, none⟩) (.inl (by simp)) _
        have hA := bA2.kept kS (by simp; omega)
        have kW := kw2.trans kS (fun x hx => .inr (by simp at hx; omega))
        have hN := hid (And.intro kW (And.intro hA hB))
        clear hst bA2 bM2 hB hA kS kW hS hcy
        go_wp2_with fail
        exact ⟨⟨j + 1, ⟨yk, yb, yn, yt⟩, hlt, by go_num, hst2, hN.out.1, hN.out.2.1, hN.out.2.2⟩, by simp [intOf]; omega⟩
      · have hst2 : Hid (maxTo l (j + 1) = ⟨mk, mb, mn, mt⟩) := by show _ = _; rw [hst.out, if_neg hcc]
        have hN := hid (And.intro kw2 (And.intro bA2 bM2))
        clear hst bA2 bM2 hS hcy
        go_wp2_with fail
        exact ⟨⟨j + 1, ⟨mk, mb, mn, mt⟩, hlt, by go_num, hst2, hN.out.1, hN.out.2.1, hN.out.2.2⟩, by simp [intOf]; omega⟩
    · have hje : j = l.length - 1 := by omega
      have hFm : Hid (F = ⟨mk, mb, mn, mt⟩) := by show _ = _; rw [hF.out, ← hje]; exact hm.out
      have p0 := bM.c0; have p1 := bM.c1; have p2 := bM.c2; have p3 := bM.c3
      have f0 := bA.free 0; have f1 := bA.free 1; have f2 := bA.free 2; have f3 := bA.free 3
      have q0 := bA.c0; have q1 := bA.c1; have q2 := bA.c2; have q3 := bA.c3
      have djl : ¬ (j : Int) + 1 < (l.length : Int) := by omega
      clear hje hm
      go_wp2_with fail
      refine gen4 (R := fun W => bodyPost _ _ _ _ _ W) bA kn (Nat.le_refl _) _ _ _ _ ?_
      intro W bW kW2
      have r0 := bW.c0; have r1 := bW.c1; have r2 := bW.c2; have r3 := bW.c3
      refine bodyPost_ret (v := Val.v ⟨mk, mb, mn, mt⟩) (by simp [results, Tryz.results41, go_sem, Val.v, r0, r1, r2, r3]) rfl ⟨?_, kW2⟩
      rw [hFm.out]
end Go.Proofs.YtohbdbecioanaaaGreatDoor
end

section
namespace Go.Proofs.YtohbdbecioanaaaGreatDoor
open Go.RowKit Go.Hay
set_option linter.unusedVariables false
set_option linter.unusedSimpArgs false

/-- What stands at a block's head. -/
structure Inf where
  kind : Int
  many : Int
  mn : Val
  mx : Val
  nulls : Int
  bytes : Int
def Inf.cs (i : Inf) : List Value := [.int .i64 i.kind, .int .i64 i.many, .int .i64 i.mn.k, .bool i.mn.b, .int .i64 i.mn.n, .string i.mn.t, .int .i64 i.mx.k, .bool i.mx.b, .int .i64 i.mx.n, .string i.mx.t, .int .i64 i.nulls, .int .i64 i.bytes]
def Inf.v (i : Inf) : Value := .agg i.cs.toArray
/-- A variable's block of any number of cells. -/
structure Bx (w : World) (q : Nat) (cs : List Value) : Prop where
  get : ∀ i u, cs[i]? = some u → w.cell? ⟨q, i, none⟩ = some u
  free : ∀ i, w.frozen? ⟨q, i, none⟩ = false
theorem Bx.new (w : World) (cs : List Value) (t : TypeId) : Bx (w.alloc (.cells cs.toArray t)) w.heap.size cs :=
  ⟨fun i u hu => by
    have e : (w.alloc (.cells cs.toArray t)).cell? ⟨w.heap.size, i, none⟩ = _ := World.cell?_alloc_new w _ _ i
    rw [e]; simpa using hu, fun i => World.frozen?_alloc_new w _ _ i⟩
theorem Bx.lt {w : World} {q : Nat} {cs : List Value} (h : Bx w q cs) (hn : 0 < cs.length) : q < w.heap.size := World.block_lt_of_cell? _ _ (h.get 0 cs[0] (by simp [hn]))
theorem Bx.kept {w w' : World} {S : List Nat} {q : Nat} {cs : List Value} (h : Bx w q cs) (hk : Kp S w w') (hq : q ∉ S) (hl : q < w.heap.size) : Bx w' q cs :=
  ⟨fun i u hu => (hk.cell (p := ⟨q, i, none⟩) hl hq).trans (h.get i u hu), fun i => (hk.frozen (p := ⟨q, i, none⟩) hl hq).trans (h.free i)⟩
theorem Bx.set {w : World} {q : Nat} {cs : List Value} (h : Bx w q cs) (i : Nat) (hi : i < cs.length) (v : Value) : Bx (w.setCell ⟨q, i, none⟩ v) q (cs.set i v) :=
  ⟨fun j u hu => by
    by_cases e : j = i
    · subst e
      rw [List.getElem?_set_self hi] at hu
      cases hu
      exact World.cell?_setCell_same _ _ _ (h.get j cs[j] (by simp [hi]))
    · rw [List.getElem?_set_ne (fun h => e h.symm)] at hu
      rw [World.cell?_setCell_other _ _ _ _ (by intro h; simp only [Addr.mk.injEq] at h; omega)]
      exact h.get j u hu, fun j => by rw [World.frozen?_setCell]; exact h.free j⟩
theorem gen12 {w0 w : World} {q : Nat} {cs : List Value} {R : World → Prop} (h : Bx w q cs) (hl : cs.length = 12) (hk : Kp [] w0 w) (hq : w0.heap.size ≤ q) (v0 v1 v2 v3 v4 v5 v6 v7 v8 v9 v10 v11 : Value)
    (H : ∀ W, Bx W q [v0, v1, v2, v3, v4, v5, v6, v7, v8, v9, v10, v11] → Kp [] w0 W → R W) : R ((((((((((((w.setCell ⟨q, 0, none⟩ (v0)).setCell ⟨q, 1, none⟩ (v1)).setCell ⟨q, 2, none⟩ (v2)).setCell ⟨q, 3, none⟩ (v3)).setCell ⟨q, 4, none⟩ (v4)).setCell ⟨q, 5, none⟩ (v5)).setCell ⟨q, 6, none⟩ (v6)).setCell ⟨q, 7, none⟩ (v7)).setCell ⟨q, 8, none⟩ (v8)).setCell ⟨q, 9, none⟩ (v9)).setCell ⟨q, 10, none⟩ (v10)).setCell ⟨q, 11, none⟩ (v11)) := by
  refine H _ ?_ ?_
  · have e : [v0, v1, v2, v3, v4, v5, v6, v7, v8, v9, v10, v11] = (((((((((((cs.set 0 v0).set 1 v1).set 2 v2).set 3 v3).set 4 v4).set 5 v5).set 6 v6).set 7 v7).set 8 v8).set 9 v9).set 10 v10).set 11 v11 := by
      match cs, hl with
      | [_, _, _, _, _, _, _, _, _, _, _, _], _ => rfl
    rw [e]
    exact (((((((((((h.set 0 (by simp [hl]) _).set 1 (by simp [hl]) _).set 2 (by simp [hl]) _).set 3 (by simp [hl]) _).set 4 (by simp [hl]) _).set 5 (by simp [hl]) _).set 6 (by simp [hl]) _).set 7 (by simp [hl]) _).set 8 (by simp [hl]) _).set 9 (by simp [hl]) _).set 10 (by simp [hl]) _).set 11 (by simp [hl]) _
  · exact (((((((((((hk.setCell (.inr hq) _).setCell (.inr hq) _).setCell (.inr hq) _).setCell (.inr hq) _).setCell (.inr hq) _).setCell (.inr hq) _).setCell (.inr hq) _).setCell (.inr hq) _).setCell (.inr hq) _).setCell (.inr hq) _).setCell (.inr hq) _).setCell (.inr hq) _
theorem gen12q {w : World} {q : Nat} {cs : List Value} {R : World → Prop} (h : Bx w q cs) (hl : cs.length = 12) (v0 v1 v2 v3 v4 v5 v6 v7 v8 v9 v10 v11 : Value)
    (H : ∀ W, Bx W q [v0, v1, v2, v3, v4, v5, v6, v7, v8, v9, v10, v11] → Kp [q] w W → R W) : R ((((((((((((w.setCell ⟨q, 0, none⟩ (v0)).setCell ⟨q, 1, none⟩ (v1)).setCell ⟨q, 2, none⟩ (v2)).setCell ⟨q, 3, none⟩ (v3)).setCell ⟨q, 4, none⟩ (v4)).setCell ⟨q, 5, none⟩ (v5)).setCell ⟨q, 6, none⟩ (v6)).setCell ⟨q, 7, none⟩ (v7)).setCell ⟨q, 8, none⟩ (v8)).setCell ⟨q, 9, none⟩ (v9)).setCell ⟨q, 10, none⟩ (v10)).setCell ⟨q, 11, none⟩ (v11)) := by
  refine H _ ?_ ?_
  · have e : [v0, v1, v2, v3, v4, v5, v6, v7, v8, v9, v10, v11] = (((((((((((cs.set 0 v0).set 1 v1).set 2 v2).set 3 v3).set 4 v4).set 5 v5).set 6 v6).set 7 v7).set 8 v8).set 9 v9).set 10 v10).set 11 v11 := by
      match cs, hl with
      | [_, _, _, _, _, _, _, _, _, _, _, _], _ => rfl
    rw [e]
    exact (((((((((((h.set 0 (by simp [hl]) _).set 1 (by simp [hl]) _).set 2 (by simp [hl]) _).set 3 (by simp [hl]) _).set 4 (by simp [hl]) _).set 5 (by simp [hl]) _).set 6 (by simp [hl]) _).set 7 (by simp [hl]) _).set 8 (by simp [hl]) _).set 9 (by simp [hl]) _).set 10 (by simp [hl]) _).set 11 (by simp [hl]) _
  · have hk : Kp [q] w w := Kp.refl _ _
    exact (((((((((((hk.setCell (.inl (by simp)) _).setCell (.inl (by simp)) _).setCell (.inl (by simp)) _).setCell (.inl (by simp)) _).setCell (.inl (by simp)) _).setCell (.inl (by simp)) _).setCell (.inl (by simp)) _).setCell (.inl (by simp)) _).setCell (.inl (by simp)) _).setCell (.inl (by simp)) _).setCell (.inl (by simp)) _).setCell (.inl (by simp)) _
def nullsV (l : List Val) : Nat := l.countP fun x => x.k == 0
end Go.Proofs.YtohbdbecioanaaaGreatDoor
end

section
namespace Go.Proofs.YtohbdbecioanaaaGreatDoor
open Go.RowKit Go.Hay
set_option linter.unusedVariables false
set_option linter.unusedSimpArgs false

theorem nulls_take (l : List Val) (j : Nat) (h : j < l.length) : nullsV (l.take (j + 1)) = nullsV (l.take j) + (if l[j].k = 0 then 1 else 0) := by
  unfold nullsV
  rw [List.take_succ_eq_append_getElem h, List.countP_append]
  simp
theorem nulls_le (l : List Val) : nullsV l ≤ l.length := List.countP_le_length
set_option maxHeartbeats 16000000 in
set_option maxRecDepth 100000 in
theorem cHeadOf (k : Int) (a : Option Addr) (ca : Nat) (l : List Val) (w : World) (ha : Vals w a l) (h0 : 0 < l.length) (hl : l.length ≤ 1000000) :
    Calls Tryz.prog 19 #[.int .i64 k, .slice a l.length ca] w fun e w' => e = .returned (Inf.v ⟨k, l.length, minV l, maxV l, nullsV l, 0⟩) ∧ Kp [] w w' := by
  obtain ⟨w0, hw0⟩ : ∃ w0, w.alloc (.cells #[.int .i64 0, .int .i64 0, .int .i64 0, .bool false, .int .i64 0, .string ⟨#[]⟩, .int .i64 0, .bool false, .int .i64 0, .string ⟨#[]⟩, .int .i64 0, .int .i64 0] 46) = w0 := ⟨_, rfl⟩
  have kW0 : Kp [] w w0 := by rw [← hw0]; exact (Kp.refl _ _).alloc _
  have bR : Bx w0 w.heap.size [.int .i64 0, .int .i64 0, .int .i64 0, .bool false, .int .i64 0, .string ⟨#[]⟩, .int .i64 0, .bool false, .int .i64 0, .string ⟨#[]⟩, .int .i64 0, .int .i64 0] := by rw [← hw0]; exact Bx.new w _ _
  have cMn := cMinV a ca l w0 (ha.kept kW0) h0 hl
  have hMx : Hid (∀ W, Kp [] w W → Calls Tryz.prog 41 #[.slice a l.length ca, .func (.func 40) #[] #[]] W fun e w' => e = .returned (maxV l).v ∧ Kp [] W w') := fun W kW => cMaxV a ca l W (ha.kept kW) h0 hl
  obtain ⟨⟨xk, xb, xn, xt⟩, hmn⟩ : ∃ m, Hid (minV l = m) := ⟨_, rfl⟩
  obtain ⟨⟨yk, yb, yn, yt⟩, hmx⟩ : ∃ m, Hid (maxV l = m) := ⟨_, rfl⟩
  rw [hmn.out] at cMn ⊢
  rw [hmx.out]
  simp only [hmx.out] at hMx
  unfold Val.v at cMn hMx
  dsimp only at cMn hMx
  have ha' := hid ha
  clear ha hmn hmx
  go_enter Tryz.func19, Tryz.ntmps19
  go_wp2_with fail
  refine cMn.mono ?_
  rintro e w1 ⟨rfl, k1⟩
  have kw1 := kW0.trans k1 (by simp)
  have cMx := hMx.out w1 kw1
  clear cMn hMx hw0
  go_wp2_with fail
  refine cMx.mono ?_
  rintro e w2 ⟨rfl, k2⟩
  have kw2 := kw1.trans k2 (by simp)
  have hR0 : w.heap.size < w0.heap.size := bR.lt (by simp)
  obtain ⟨q, hq⟩ : ∃ q, w2.heap.size = q := ⟨_, rfl⟩
  have hqR : w.heap.size < q := by have := k1.size; have := k2.size; omega
  obtain ⟨wz, hwz⟩ : ∃ wz, w2.alloc (.cells #[.int .i64 0, .int .i64 0, .int .i64 0, .bool false, .int .i64 0, .string ⟨#[]⟩, .int .i64 0, .bool false, .int .i64 0, .string ⟨#[]⟩, .int .i64 0, .int .i64 0] 46) = wz := ⟨_, rfl⟩
  have kz : Kp [] w2 wz := by rw [← hwz]; exact (Kp.refl _ _).alloc _
  have bZ : Bx wz q [.int .i64 0, .int .i64 0, .int .i64 0, .bool false, .int .i64 0, .string ⟨#[]⟩, .int .i64 0, .bool false, .int .i64 0, .string ⟨#[]⟩, .int .i64 0, .int .i64 0] := by rw [← hwz, ← hq]; exact Bx.new w2 _ _
  have k0z := (k1.trans k2 (by simp)).trans kz (by simp)
  have bRz := bR.kept k0z (by simp) hR0
  have kwz := kw2.trans kz (by simp)
  have hbZ := hid bZ
  have hbRz := hid bRz
  have z0 := bZ.get 0 _ rfl
  have z1 := bZ.get 1 _ rfl
  have z2 := bZ.get 2 _ rfl
  have z3 := bZ.get 3 _ rfl
  have z4 := bZ.get 4 _ rfl
  have z5 := bZ.get 5 _ rfl
  have z6 := bZ.get 6 _ rfl
  have z7 := bZ.get 7 _ rfl
  have z8 := bZ.get 8 _ rfl
  have z9 := bZ.get 9 _ rfl
  have z10 := bZ.get 10 _ rfl
  have z11 := bZ.get 11 _ rfl
  have f0 := bZ.free 0
  have f1 := bZ.free 1
  have f2 := bZ.free 2
  have f3 := bZ.free 3
  have f4 := bZ.free 4
  have f5 := bZ.free 5
  have f6 := bZ.free 6
  have f7 := bZ.free 7
  have f8 := bZ.free 8
  have f9 := bZ.free 9
  have f10 := bZ.free 10
  have f11 := bZ.free 11
  clear cMx k1 k2 bR kw1 kw2 kW0 kz k0z bZ bRz
  go_wp2_with fail
  refine gen12q (R := fun W => Code.wp _ _ _ _ W) hbZ.out rfl _ _ _ _ _ _ _ _ _ _ _ _ ?_
  intro w3 bQ kq3
  have bR3 := hbRz.out.kept kq3 (by simp; omega) (hbRz.out.lt (by simp))
  have kw3 := kwz.trans kq3 (fun x hx => .inr (by simp at hx; omega))
  clear hbZ hbRz kq3 hwz hq kwz z0 f0 z1 f1 z2 f2 z3 f3 z4 f4 z5 f5 z6 f6 z7 f7 z8 f8 z9 f9 z10 f10 z11 f11
  go_wp2_with fail
  go_loopw [18] (fun i wn => ∃ (j n : Nat), j ≤ l.length ∧ i = .int .i64 j ∧ Hid (nullsV (l.take j) = n) ∧ n ≤ j ∧ Kp [] w wn ∧ Bx wn w.heap.size [.int .i64 0, .int .i64 0, .int .i64 0, .bool false, .int .i64 0, .string ⟨#[]⟩, .int .i64 0, .bool false, .int .i64 0, .string ⟨#[]⟩, .int .i64 0, .int .i64 0] ∧ Bx wn q [.int .i64 k, .int .i64 (l.length : Int), .int .i64 xk, .bool xb, .int .i64 xn, .string xt, .int .i64 yk, .bool yb, .int .i64 yn, .string yt, .int .i64 (n : Int), .int .i64 0]) (fun i _ => l.length - (intOf i).toNat)
  case atStart => exact ⟨0, 0, Nat.zero_le _, rfl, by show _ = _; simp [nullsV], Nat.le_refl _, kw3, bR3, bQ⟩
  case round =>
    clear kw3 bR3 bQ
    obtain ⟨j, n, hj, rfl, hn, hnj, kn, bR, bQ⟩ := hrel
    by_cases hlt : j < l.length
    · obtain ⟨g, o, rfl, a0, a1, a2, a3⟩ := (ha'.out.kept kn).at j hlt
      have hst := hid (nulls_take l j hlt)
      rw [hn.out] at hst
      obtain ⟨⟨vk, vb, vn, vt⟩, hv⟩ : ∃ v, Hid (l[j]'hlt = v) := ⟨_, rfl⟩
      rw [hv.out] at a0 a1 a2 a3 hst
      dsimp only at a0 a1 a2 a3 hst
      obtain ⟨wb, hwb⟩ : ∃ wb, wr.alloc (.cells #[.int .i64 vk, .bool vb, .int .i64 vn, .string vt] 30) = wb := ⟨_, rfl⟩
      have kb : Kp [] wr wb := by rw [← hwb]; exact (Kp.refl _ _).alloc _
      have bx : Box4 wb wr.heap.size (.int .i64 vk) (.bool vb) (.int .i64 vn) (.string vt) := by rw [← hwb]; exact Box4.new _ _ _ _ _ _
      have p0 := bx.c0
      have bR2 := bR.kept kb (by simp) (bR.lt (by simp))
      have bQ2 := bQ.kept kb (by simp) (bQ.lt (by simp))
      have kwb := kn.trans kb (by simp)
      have hbx := hid bx
      clear hv bR bQ bx kb hn
      by_cases hv0 : vk = 0
      · subst hv0
        have hst2 : Hid (nullsV (l.take (j + 1)) = n + 1) := by show _ = _; rw [hst.out, if_pos rfl]
        have c10 := bQ2.get 10 (.int .i64 (n : Int)) rfl
        have f10 := bQ2.free 10
        have hB := bQ2.set 10 (by simp) (.int .i64 ((n : Int) + 1))
        have kS : Kp [q] wb (wb.setCell ⟨q, 10, none⟩ (.int .i64 ((n : Int) + 1))) := (Kp.refl [q] wb).setCell (p := ⟨q, 10, none⟩) (.inl (by simp)) _
        have hA := bR2.kept kS (by simp; omega) (bR2.lt (by simp))
        have kW := kwb.trans kS (fun x hx => .inr (by simp at hx; omega))
        have hN := hid (And.intro kW (And.intro hA hB))
        clear hst bR2 bQ2 hB hA kS kW
        go_wp2_with fail
        exact ⟨⟨j + 1, n + 1, by omega, by go_num, hst2, by omega, hN.out.1, hN.out.2.1, hN.out.2.2⟩, by simp [intOf]; omega⟩
      · have hst2 : Hid (nullsV (l.take (j + 1)) = n) := by show _ = _; rw [hst.out, if_neg hv0]; rfl
        have d0 : (vk == 0) = false := by simpa using hv0
        have hN := hid (And.intro kwb (And.intro bR2 bQ2))
        clear hst bR2 bQ2
        go_wp2_with fail
        exact ⟨⟨j + 1, n, by omega, by go_num, hst2, by omega, hN.out.1, hN.out.2.1, hN.out.2.2⟩, by simp [intOf]; omega⟩
    · obtain rfl : j = l.length := by omega
      rw [List.take_length] at hn
      have p0 := bQ.get 0 _ rfl
      have p1 := bQ.get 1 _ rfl
      have p2 := bQ.get 2 _ rfl
      have p3 := bQ.get 3 _ rfl
      have p4 := bQ.get 4 _ rfl
      have p5 := bQ.get 5 _ rfl
      have p6 := bQ.get 6 _ rfl
      have p7 := bQ.get 7 _ rfl
      have p8 := bQ.get 8 _ rfl
      have p9 := bQ.get 9 _ rfl
      have p10 := bQ.get 10 _ rfl
      have p11 := bQ.get 11 _ rfl
      have f0 := bR.free 0
      have f1 := bR.free 1
      have f2 := bR.free 2
      have f3 := bR.free 3
      have f4 := bR.free 4
      have f5 := bR.free 5
      have f6 := bR.free 6
      have f7 := bR.free 7
      have f8 := bR.free 8
      have f9 := bR.free 9
      have f10 := bR.free 10
      have f11 := bR.free 11
      have q0 := bR.get 0 _ rfl
      have q1 := bR.get 1 _ rfl
      have q2 := bR.get 2 _ rfl
      have q3 := bR.get 3 _ rfl
      have q4 := bR.get 4 _ rfl
      have q5 := bR.get 5 _ rfl
      have q6 := bR.get 6 _ rfl
      have q7 := bR.get 7 _ rfl
      have q8 := bR.get 8 _ rfl
      have q9 := bR.get 9 _ rfl
      have q10 := bR.get 10 _ rfl
      have q11 := bR.get 11 _ rfl
      have hbR := hid bR
      clear bQ bR
      go_wp2_with fail
      refine gen12 (R := fun W => bodyPost _ _ _ _ _ W) hbR.out rfl kn (Nat.le_refl _) _ _ _ _ _ _ _ _ _ _ _ _ ?_
      intro W bW kW2
      have r0 := bW.get 0 _ rfl
      have r1 := bW.get 1 _ rfl
      have r2 := bW.get 2 _ rfl
      have r3 := bW.get 3 _ rfl
      have r4 := bW.get 4 _ rfl
      have r5 := bW.get 5 _ rfl
      have r6 := bW.get 6 _ rfl
      have r7 := bW.get 7 _ rfl
      have r8 := bW.get 8 _ rfl
      have r9 := bW.get 9 _ rfl
      have r10 := bW.get 10 _ rfl
      have r11 := bW.get 11 _ rfl
      refine bodyPost_ret (v := Inf.v ⟨k, l.length, ⟨xk, xb, xn, xt⟩, ⟨yk, yb, yn, yt⟩, n, 0⟩) (by simp [results, Tryz.results19, go_sem, Inf.v, Inf.cs, r0, r1, r2, r3, r4, r5, r6, r7, r8, r9, r10, r11]) rfl ⟨by rw [hn.out], kW2⟩
end Go.Proofs.YtohbdbecioanaaaGreatDoor
end

/- A log and its disk together, all new since some world; a disk with one file, plainly. The reference's files: a slice of structs of three fields; how it grows. The reference's disk, and its calls At, Free, joined, New, Wipe, Arm, step. The reference's calls Free, joined, New, Wipe, Arm, step. The reference's calls Without, With. The reference's call With. The reference's calls refused, Append. -/
import Derived.Test.YtpkoikennimonaaGreatDoorB11
import Derived.Test.YtpkoikennimonaaGreatDoorB10
import Derived.Laws.AppendOwnNone
section
namespace Go.Hay
open Go.RowKit
/-- A disk with one file, never armed. -/
def oneD (r s : Nat) (nm x : List UInt8) (k : Nat) : Dk := ⟨r, s, [⟨nm, x, k⟩], none, false⟩
theorem sync_one (r s : Nat) (nm x : List UInt8) (k : Nat) : doD (oneD r s nm x k) 1 nm [] 0 = (oneD r (s + 1) nm x x.length, 0) := by
  simp [doD, refusedD, stepD, oneD, changedF, fileOf, lookG, putG]
  cases leN nm nm <;> rfl
theorem write_one (r s : Nat) (nm x b : List UInt8) (k : Nat) (hn : nameOk nm = true) (h : x.length + b.length ≤ r) : writeD (oneD r s nm x k) nm b = (oneD r (s + 2) nm (x ++ b) (x ++ b).length, 0) := by
  have e : appendD (oneD r s nm x k) nm b = (oneD r (s + 1) nm (x ++ b) k, 0) := by
    unfold appendD
    rw [if_neg (by simp [oneD]), if_neg (by simp [hn]), if_neg (by simp [freeD, oneD, sumF]; omega)]
    simp [stepD, oneD, grownF, fileOf, lookG, putG]
    cases leN nm nm <;> rfl
  unfold writeD
  rw [e, if_neg (by simp)]
  exact sync_one _ _ _ _ _
theorem create_new (room : Nat) (nm : List UInt8) (hn : nameOk nm = true) : createD (newD (room : Int)) nm = (oneD room 2 nm [] 0, 0) := by
  have e1 : doD (newD (room : Int)) 4 nm [] 0 = (newD (room : Int), 42) := by simp [doD, refusedD, newD, lookG]
  have e2 : appendD (newD (room : Int)) nm [] = (oneD room 1 nm [] 0, 0) := by
    unfold appendD
    rw [if_neg (by simp [newD]), if_neg (by simp [hn]), if_neg (by simp [freeD, newD, sumF])]
    simp [stepD, oneD, grownF, fileOf, lookG, putG, newD]
  unfold createD
  rw [e1, if_neg (by simp)]
  unfold writeD
  rw [e2, if_neg (by simp)]
  exact sync_one _ _ _ _ _
theorem open_one (q : List UInt8 → List (List UInt8) × Nat × Int) (r s : Nat) (nm x : List UInt8) (k : Nat) (h0 : (q x).2.2 = 0) (h1 : (q x).2.1 = x.length) : openD q (oneD r s nm x k) nm = (oneD r (s + 1) nm x x.length, 0) := by
  unfold openD
  have hl : lookG Fl.name nm (oneD r s nm x k).files = some ⟨nm, x, k⟩ := by simp [lookG, oneD]
  rw [if_neg (by simp [oneD])]
  simp only [hl]
  rw [if_neg (by simpa using h0), if_neg (by rw [h1]; omega)]
  exact sync_one _ _ _ _ _
theorem small_one {r s : Nat} {nm x : List UInt8} {k : Nat} (h : x.length ≤ 140737488355328) : ∀ f ∈ (oneD r s nm x k).files, f.bytes.length ≤ 140737488355328 := fun f hf => by simp [oneD] at hf; subst hf; exact h
theorem file_one (r s : Nat) (nm x : List UInt8) (k : Nat) : fileOf (oneD r s nm x k).files nm = ⟨nm, x, k⟩ := by simp [fileOf, oneD, lookG]
end Go.Hay
namespace Go.Proofs.YtpkoikennimonaaGreatDoor
open Go.RowKit Go.Hay
set_option linter.unusedVariables false
set_option linter.unusedSimpArgs false

/-- A log and its disk, all new since w0. -/
structure LD (w0 w : World) (p dp mb : Nat) (xs : List Ent) (d : Dk) (nm : List UInt8) (B : Nat → Prop) (v : Value) (L : List (List UInt8)) (sz : Int) : Prop where
  log : Log w p dp nm B v L sz
  disk : Disk w dp mb xs d
  sep : ∀ k ∈ foot dp mb xs, ¬ B k ∧ k ≠ p
  lf : ∀ k ∈ foot dp mb xs, w0.heap.size ≤ k
  lb : ∀ k, B k → w0.heap.size ≤ k ∧ k < w.heap.size
  lp : w0.heap.size ≤ p
  kp : Kp [] w0 w
theorem LD.keep {w0 w w' : World} {p dp mb : Nat} {xs : List Ent} {d : Dk} {nm : List UInt8} {B : Nat → Prop} {v : Value} {L : List (List UInt8)} {sz : Int} (h : LD w0 w p dp mb xs d nm B v L sz) (k : Kp [] w w') : LD w0 w' p dp mb xs d nm B v L sz :=
  ⟨h.log.kept k (by simp) (by simp), h.disk.keptNew k, h.sep, h.lf, fun j hj => ⟨(h.lb j hj).1, by have := (h.lb j hj).2; have := k.size; omega⟩, h.lp, h.kp.trans k (by simp)⟩
theorem LD.own {w0 w : World} {p dp mb : Nat} {xs : List Ent} {d : Dk} {nm : List UInt8} {B : Nat → Prop} {v : Value} {L : List (List UInt8)} {sz : Int} (h : LD w0 w p dp mb xs d nm B v L sz) : ∀ k ∈ p :: own v ++ foot dp mb xs, w0.heap.size ≤ k := fun k hk => by
  simp only [List.cons_append, List.mem_cons, List.mem_append] at hk
  rcases hk with rfl | hk | hk
  · exact h.lp
  · exact (h.lb k (h.log.row.from k hk)).1
  · exact h.lf k hk
/-- Append, of such. -/
def AppLD (w0 : World) (p dp mb : Nat) (xs : List Ent) (d : Dk) (nm : List UInt8) (B : Nat → Prop) (v : Value) (L : List (List UInt8)) (sz : Int) (R : List (List UInt8)) (w : World) (e : Ending) (w' : World) : Prop :=
  e = .returned (.int .i64 (appQ d nm R).2) ∧ ∃ xs', Kp (p :: own v ++ foot dp mb xs) w w' ∧ ((appQ d nm R).2 ≠ 0 → LD w0 w' p dp mb xs' (appQ d nm R).1 nm B v L sz) ∧ ((appQ d nm R).2 = 0 → ∃ v' B', LD w0 w' p dp mb xs' (appQ d nm R).1 nm B' v' (L ++ R) (sz + appS R))
theorem LD.app {w0 w : World} {p dp mb : Nat} {xs : List Ent} {d : Dk} {nm : List UInt8} {B : Nat → Prop} {v : Value} {L : List (List UInt8)} {sz : Int} (h : LD w0 w p dp mb xs d nm B v L sz)
    (hs : d.steps < 7000000000000000000) (hN : d.files.length < 7000000000000000000) (hB : Small d) (hk : nm.length ≤ maxLen) (hfl : (fileOf d.files nm).bytes.length ≤ 140737400000000) (hLl : L.length ≤ 900000000000) (hsz : 0 ≤ sz ∧ sz ≤ 8000000000000000000)
    (a : Option Addr) (c : Nat) (R : List Bs) (hR : ArgQ w a R (fun k => k ∈ foot dp mb xs ∨ k = p ∨ B k)) (hTb : Tab w0) :
    Calls Tryz.prog 13 #[.pointer (some ⟨p, 0, none⟩), .slice a R.length c] w (AppLD w0 p dp mb xs d nm B v L sz (bsl R) w) := by
  have h00 := hTb.1
  refine (cAppendL h.log h.disk h.sep (fun k hk => (h.lb k hk).2) hs hN hB hk hfl hLl hsz a c R hR (hTb.kept h.kp (by simp)) ⟨fun hm => by have := h.lf 0 hm; omega, by have := h.lp; omega, fun hb => by have := (h.lb 0 hb).1; omega⟩).mono ?_
  rintro e w' ⟨he, xs', hD', k', hf', h1, h2⟩
  have kw : Kp [] w0 w' := h.kp.trans k' (fun x hx => .inr (h.own x hx))
  have hz := h.kp.size
  have hz' := k'.size
  have hlf : ∀ k ∈ foot dp mb xs', w0.heap.size ≤ k := fun k hk => by rcases hf' k hk with hh | hh; exact h.lf k hh; omega
  refine ⟨he, xs', k', fun hne => ?_, fun h0 => ?_⟩
  · obtain ⟨hl, hsp⟩ := h1 hne
    exact ⟨hl, hD', hsp, hlf, fun k hk => ⟨(h.lb k hk).1, by have := (h.lb k hk).2; omega⟩, h.lp, kw⟩
  · obtain ⟨v', B', hl, hb, hsp⟩ := h2 h0
    exact ⟨v', B', hl, hD', hsp, hlf, fun k hk => by rcases hb k hk with hh | hh; exact ⟨(h.lb k hh).1, by have := (h.lb k hh).2; omega⟩; exact ⟨by omega, hh.2⟩, h.lp, kw⟩
theorem LD.ofOpn {w0 w w' : World} {dp mb : Nat} {xs : List Ent} {r : Dk × Int} {nm : List UInt8} {L : List (List UInt8)} {sz : Int} {e : Ending} (h : OpnP dp mb xs r nm L sz w e w') (h0 : r.2 = 0) (hk : Kp [] w0 w) (hf : ∀ k ∈ foot dp mb xs, w0.heap.size ≤ k) :
    ∃ p v B xs', e = .returned (.tuple #[.pointer (some ⟨p, 0, none⟩), .int .i64 r.2]) ∧ LD w0 w' p dp mb xs' r.1 nm B v L sz ∧ Mv (foot dp mb xs) w (foot dp mb xs') w' ∧ w.heap.size ≤ p := by
  obtain ⟨v0, xs', he, hD', m, _, h2⟩ := h
  obtain ⟨p, v, B, rfl, hl, hp, hb, hsp⟩ := h2 h0
  have hz := hk.size
  refine ⟨p, v, B, xs', he, ⟨hl, hD', hsp, fun k hk' => ?_, fun k hk' => ⟨by have := (hb k hk').1; omega, (hb k hk').2⟩, by omega, hk.trans m.kp (fun x hx => .inr (hf x hx))⟩, m, hp⟩
  rcases m.new k hk' with h | h
  · exact hf k h
  · omega
theorem bsCs : ∀ l : List Bs, BsE.cs l = l.map fun y => .slice y.a y.bs.length y.c
  | [] => rfl
  | x :: l => by rw [El.cs_cons, bsCs l]; rfl
/-- New slices of slices. -/
theorem bsNew (w : World) {q : Nat} (hq : w.heap.size = q) (l : List Bs) (C : Array Value) (t : TypeId) (hC : C.toList = l.map fun y => .slice y.a y.bs.length y.c) : BsE.See (w.alloc (.cells C t)) (some ⟨q, 0, none⟩) l := by
  subst hq
  refine .inr ⟨w.heap.size, 0, rfl, fun j u hu => ?_⟩
  have e : (w.alloc (.cells C t)).cell? ⟨w.heap.size, 0 + j, none⟩ = _ := World.cell?_alloc_new w _ _ (0 + j)
  rw [bsCs, ← hC] at hu
  rw [e, Nat.zero_add]
  simpa using hu
end Go.Proofs.YtpkoikennimonaaGreatDoor
end

section
namespace Go.Proofs.YtpkoikennimonaaGreatDoor
open Go.RowKit Go.Hay
set_option linter.unusedVariables false
set_option linter.unusedSimpArgs false

/-- A file of the reference's: its fields, and the bytes that its slice sees. -/
structure RF where
  name : List UInt8
  ba : Option Addr
  bc : Nat
  bytes : List UInt8
  last : Nat
def RF.fl (f : RF) : Fl := ⟨f.name, f.bytes, f.last⟩
def RF.c (f : RF) : List Value := [.string ⟨f.name.toArray⟩, .slice f.ba f.bytes.length f.bc, .int .i64 (f.last : Int)]
def RF.v (f : RF) : Value := .agg #[.string ⟨f.name.toArray⟩, .slice f.ba f.bytes.length f.bc, .int .i64 (f.last : Int)]
def fcells (l : List RF) : List Value := l.flatMap RF.c
theorem fcells_length (l : List RF) : (fcells l).length = l.length * 3 := by
  induction l with
  | nil => rfl
  | cons x l ih => simp only [fcells, List.flatMap_cons, List.length_append, List.length_cons, RF.c, List.length_nil] at ih ⊢; omega
theorem fcells_append (a b : List RF) : fcells (a ++ b) = fcells a ++ fcells b := by simp [fcells]
theorem fcells_one (l : List RF) : ∀ u ∈ fcells l, u.oneCell' = true := by
  intro u hu
  obtain ⟨x, _, hx⟩ := List.mem_flatMap.1 hu
  simp [RF.c] at hx
  rcases hx with rfl | rfl | rfl <;> rfl
theorem fcells_cons (x : RF) (l : List RF) : fcells (x :: l) = RF.c x ++ fcells l := rfl
theorem fcells_at (l : List RF) : ∀ (j : Nat) (x : RF), l[j]? = some x → (fcells l)[j * 3]? = some (.string ⟨x.name.toArray⟩) ∧ (fcells l)[j * 3 + 1]? = some (.slice x.ba x.bytes.length x.bc) ∧ (fcells l)[j * 3 + 2]? = some (.int .i64 (x.last : Int)) := by
  induction l with
  | nil => intro j x h; simp at h
  | cons y l ih =>
    intro j x h
    cases j with
    | zero => cases h; exact ⟨rfl, rfl, rfl⟩
    | succ j =>
      have := ih j x (by simpa using h)
      rw [fcells_cons, show (j + 1) * 3 = j * 3 + 3 by omega]
      simpa [RF.c] using this
/-- A slice of such files. -/
def Fls (w : World) (a : Option Addr) (l : List RF) : Prop :=
  l = [] ∨ ∃ g o, a = some ⟨g, o, none⟩ ∧ ∀ j x, l[j]? = some x → w.cell? ⟨g, o + j * 3, none⟩ = some (.string ⟨x.name.toArray⟩) ∧ w.cell? ⟨g, o + j * 3 + 1, none⟩ = some (.slice x.ba x.bytes.length x.bc) ∧ w.cell? ⟨g, o + j * 3 + 2, none⟩ = some (.int .i64 (x.last : Int))
theorem Fls.kept {w w' : World} {a : Option Addr} {l : List RF} {S : List Nat} (h : Fls w a l) (hk : Kp S w w') (hn : ∀ k ∈ blk a, k ∉ S) : Fls w' a l := by
  rcases h with rfl | ⟨g, o, rfl, hc⟩
  · exact .inl rfl
  · refine .inr ⟨g, o, rfl, fun j x hx => ?_⟩
    obtain ⟨c0, c1, c2⟩ := hc j x hx
    have hg : g < w.heap.size := World.block_lt_of_cell? _ _ c0
    have hS : g ∉ S := hn g (by simp [blk])
    exact ⟨(hk.cell (p := ⟨g, _, none⟩) hg hS).trans c0, (hk.cell (p := ⟨g, _, none⟩) hg hS).trans c1, (hk.cell (p := ⟨g, _, none⟩) hg hS).trans c2⟩
theorem Fls.at {w : World} {a : Option Addr} {l : List RF} (h : Fls w a l) {j : Nat} {x : RF} (hx : l[j]? = some x) : ∃ g o, a = some ⟨g, o, none⟩ ∧ w.cell? ⟨g, o + j * 3, none⟩ = some (.string ⟨x.name.toArray⟩) ∧ w.cell? ⟨g, o + j * 3 + 1, none⟩ = some (.slice x.ba x.bytes.length x.bc) ∧ w.cell? ⟨g, o + j * 3 + 2, none⟩ = some (.int .i64 (x.last : Int)) := by
  rcases h with rfl | ⟨g, o, rfl, hc⟩
  · simp at hx
  · obtain ⟨c0, c1, c2⟩ := hc j x hx
    exact ⟨g, o, rfl, c0, c1, c2⟩
theorem fcells_src (l : List RF) (w : World) (g o : Nat) (hc : ∀ j x, l[j]? = some x → w.cell? ⟨g, o + j * 3, none⟩ = some (.string ⟨x.name.toArray⟩) ∧ w.cell? ⟨g, o + j * 3 + 1, none⟩ = some (.slice x.ba x.bytes.length x.bc) ∧ w.cell? ⟨g, o + j * 3 + 2, none⟩ = some (.int .i64 (x.last : Int))) (j : Nat) (u : Value) (h : (fcells l)[j]? = some u) : w.cell? ⟨g, o + j, none⟩ = some u := by
  have hj : j < (fcells l).length := (List.getElem?_eq_some_iff.1 h).1
  rw [fcells_length] at hj
  have hq : j / 3 < l.length := by omega
  obtain ⟨e0, e1, e2⟩ := fcells_at l (j / 3) l[j / 3] (by simp)
  obtain ⟨c0, c1, c2⟩ := hc (j / 3) l[j / 3] (by simp)
  rcases (by omega : j % 3 = 0 ∨ j % 3 = 1 ∨ j % 3 = 2) with h4 | h4 | h4
  · rw [show j = j / 3 * 3 by omega] at h ⊢; rw [e0] at h; cases h; exact c0
  · rw [show j = j / 3 * 3 + 1 by omega] at h ⊢; rw [e1] at h; cases h; exact c1
  · rw [show j = j / 3 * 3 + 2 by omega] at h ⊢; rw [e2] at h; cases h; exact c2

/-- A row of files of the call's own. -/
def RowF (n0 : Nat) (w : World) (v : Value) (l : List RF) : Prop := w.ownsRow n0 68 3 v l.length (fcells l)
theorem RowF.nil (n0 : Nat) (w : World) : RowF n0 w (.slice none 0 0) [] := ⟨rfl, .inl ⟨rfl, rfl⟩⟩
theorem RowF.fls {n0 : Nat} {w : World} {v : Value} {l : List RF} (h : RowF n0 w v l) : ∃ a c, v = .slice a l.length c ∧ Fls w a l ∧ l.length ≤ c ∧ c ≤ maxLen ∧ ∀ k ∈ blk a, n0 ≤ k := by
  obtain ⟨_, ⟨rfl, h0⟩ | ⟨g, cap, cur, rfl, hb, hg, hl, hm, hsz, ht⟩⟩ := h
  · obtain rfl : l = [] := List.length_eq_zero_iff.1 h0
    exact ⟨none, 0, rfl, .inl rfl, Nat.le_refl _, Nat.zero_le _, by simp [blk]⟩
  · refine ⟨some ⟨g, 0, none⟩, cap, rfl, .inr ⟨g, 0, rfl, fun j x hx => ?_⟩, hl, hm, by intro k hk; simp [blk] at hk; omega⟩
    have cell : ∀ i u, (fcells l)[i]? = some u → w.cell? ⟨g, 0 + i, none⟩ = some u := fun i u hu => by
      rw [← ht, List.getElem?_take] at hu
      split at hu
      · rw [Nat.zero_add, World.cell?, hg]; simpa using hu
      · cases hu
    obtain ⟨e0, e1, e2⟩ := fcells_at l j x hx
    exact ⟨cell _ _ e0, by rw [Nat.add_assoc]; exact cell _ _ e1, by rw [Nat.add_assoc]; exact cell _ _ e2⟩
theorem RowF.kept {n0 : Nat} {w w' : World} {v : Value} {l : List RF} (h : RowF n0 w v l) (hk : Kp [] w w') : RowF n0 w' v l := by
  obtain ⟨h1, h2 | ⟨g, cap, cur, h3, hb, hg, h4⟩⟩ := h
  · exact ⟨h1, .inl h2⟩
  · refine ⟨h1, .inr ⟨g, cap, cur, h3, hb, ?_, h4⟩⟩
    rw [hk.block g (Array.getElem?_eq_some_iff.1 hg).1 (by simp)]
    exact hg
theorem infoF : ∃ i : TypeInfo, Tryz.prog.info? 68 = some i ∧ i.zero = some (.agg #[.string ⟨#[]⟩, .slice none 0 0, .int .i64 0]) ∧ i.size = 3 ∧ i.bytes = 48 := info3 (by kernel_rfl)
theorem kpGrown {w0 w w' : World} {row : Option Nat} (h : Kp [] w0 w) (hg : w.grownBy w' row) (hr : ∀ k, row = some k → w0.heap.size ≤ k) : Kp [] w0 w' := h.grown hg (fun k e => .inr (hr k e))
/-- One file more, for the walk. -/
theorem wpAppF {w : World} {ops : Array Oper} {rest : List Oper} {o : Oper} {a : Act} {Q : Exit → Act → World → Prop} (hgd : o.guard = none) (s x : Operand)
    (ho : o.op = .call { callee := .builtin .append, args := #[s, x], argTypes := #[25, 25] })
    (w0 : World) (v : Value) (l : List RF) (hs : a.eval s = v) (hown : RowF w0.heap.size w v l) (r : RF) (q : Nat) (hq : w.heap.size = q) (hx : a.eval x = .slice (some ⟨q, 0, none⟩) 1 1)
    (hb : l.length ≤ 1000000000000) (hk : Kp [] w0 w)
    (h : ∀ l' a' c' w', Hid (l' = l ++ [r]) → RowF w0.heap.size w' (.slice a' l'.length c') l' → Kp [] w0 w' → w.heap.size < w'.heap.size → (∀ k, k < w.heap.size → v.ownBlock ≠ some k → w'.heap[k]? = w.heap[k]?) → wpList Tryz.prog ops Q rest (a.put o.dst (.slice a' l'.length c')) w') :
    wpList Tryz.prog ops Q (o :: rest) a (w.alloc (.cells #[.string ⟨r.name.toArray⟩, .slice r.ba r.bytes.length r.bc, .int .i64 (r.last : Int)] 68)) := by
  obtain ⟨i, hi, hz, hz1, hz2⟩ := infoF
  subst hq
  have hk1 : Kp [] w (w.alloc (.cells #[.string ⟨r.name.toArray⟩, .slice r.ba r.bytes.length r.bc, .int .i64 (r.last : Int)] 68)) := (Kp.refl _ _).alloc _
  have hown1 := hown.kept hk1
  refine wpList_append_own_wide _ hgd s x 25 ho w0.heap.size 68 i _ 3 48 Tryz.underlying25 hi hz hz1 hz2 rfl (by omega) v l.length (fcells l) hs hown1 ⟨w.heap.size, 0, none⟩ 1 1 (RF.c r) hx rfl ?_ (by intro u hu; simp [RF.c] at hu; rcases hu with rfl | rfl | rfl <;> rfl) (by unfold maxLen; omega) (by omega) (by have := hk.size; simp; omega) ?_
  · intro j u hu
    rw [Addr.add_lit, Nat.zero_add]
    match j, hu with
    | 0, hu => cases hu; exact World.cell?_alloc_new w _ _ 0
    | 1, hu => cases hu; exact World.cell?_alloc_new w _ _ 1
    | 2, hu => cases hu; exact World.cell?_alloc_new w _ _ 2
    | j + 3, hu => simp [RF.c] at hu
  · intro v' w' h2 h3 _
    have h2' : RowF w0.heap.size w' v' (l ++ [r]) := by
      unfold RowF
      rw [List.length_append, fcells_append]
      have : fcells [r] = RF.c r := by simp [fcells]
      rw [this]
      exact h2
    obtain ⟨a', c', rfl, _⟩ := RowF.fls h2'
    have hob : ∀ k, v.ownBlock = some k → w0.heap.size ≤ k := by
      obtain ⟨_, ⟨rfl, _⟩ | ⟨g, cap, cur, rfl, hb', _⟩⟩ := hown
      · intro k hk; cases hk
      · intro k hk; cases hk; exact hb'
    refine h (l ++ [r]) a' c' w' rfl h2' (kpGrown (hk.alloc _) h3 hob) ?_ (fun k hk' hne => ?_)
    · have := h3.size; simp at this; omega
    · exact (h3.block k (by simp; omega) (Ne.symm hne)).trans (Below.heap_alloc _ _ k hk')
end Go.Proofs.YtpkoikennimonaaGreatDoor
end

section
namespace Go.Proofs.YtpkoikennimonaaGreatDoor
open Go.RowKit Go.Hay
set_option linter.unusedVariables false
set_option linter.unusedSimpArgs false

/-- The reference's disk: its six fields. -/
structure RD where
  room : Int
  steps : Int
  fa : Option Addr
  fc : Nat
  l : List RF
  armed : Bool
  dead : Bool
  left : Int
def RD.v (r : RD) : Value := .agg #[.int .i64 r.room, .int .i64 r.steps, .slice r.fa r.l.length r.fc, .bool r.armed, .bool r.dead, .int .i64 r.left]
/-- The blocks that are seen: nothing of what is empty. -/
def RF.ft (f : RF) : List Nat := if f.bytes = [] then [] else blk f.ba
def RD.ff (r : RD) : List Nat := if r.l = [] then [] else blk r.fa
def RD.foot (r : RD) : List Nat := r.ff ++ r.l.flatMap RF.ft
theorem mem_ft {f : RF} {k : Nat} (h : k ∈ f.ft) : k ∈ blk f.ba := by
  unfold RF.ft at h
  split at h
  · cases h
  · exact h
theorem mem_ff {r : RD} {k : Nat} (h : k ∈ r.ff) : k ∈ blk r.fa := by
  unfold RD.ff at h
  split at h
  · cases h
  · exact h
def FSee (w : World) (f : RF) : Prop := Sees w f.ba f.bytes ∧ (f.ba = none → f.bytes = [] ∧ f.bc = 0) ∧ f.bytes.length ≤ f.bc ∧ f.bc ≤ maxLen
theorem Row.partsM {w : World} {v : Value} {bs : List UInt8} (h : Row w v bs) : ∃ a c, v = .slice a bs.length c ∧ Sees w a bs ∧ (a = none → bs = [] ∧ c = 0) ∧ bs.length ≤ c ∧ c ≤ maxLen := by
  rcases h with ⟨rfl, rfl⟩ | ⟨g, o, cap, rfl, hl, hm, hg, hc, ht⟩
  · exact ⟨none, 0, rfl, .inl rfl, fun _ => ⟨rfl, rfl⟩, Nat.le_refl _, by unfold maxLen; omega⟩
  · exact ⟨_, _, rfl, .inr ⟨g, o, rfl, hc⟩, fun h => (by cases h), hl, hm⟩
structure RdOk (w : World) (r : RD) : Prop where
  fls : Fls w r.fa r.l
  see : ∀ f ∈ r.l, FSee w f
theorem RdOk.kept {w w' : World} {r : RD} {S : List Nat} (h : RdOk w r) (hk : Kp S w w') (hn : ∀ k ∈ r.foot, k ∉ S) : RdOk w' r :=
  ⟨by
    by_cases e : r.l = []
    · rw [e]; exact .inl rfl
    · exact h.fls.kept hk (fun k hk' => hn k (by simp [RD.foot, RD.ff, e, hk'])), fun f hf => ⟨by
    by_cases e : f.bytes = []
    · rw [e]; exact .inl rfl
    · exact (h.see f hf).1.kept hk (fun k hk' => hn k (by simp only [RD.foot, List.mem_append, List.mem_flatMap]; exact .inr ⟨f, hf, by simpa [RF.ft, e] using hk'⟩)), (h.see f hf).2⟩⟩
theorem RdOk.lt {w : World} {r : RD} (h : RdOk w r) : ∀ k ∈ r.foot, k < w.heap.size := fun k hk => by
  simp only [RD.foot, List.mem_append, List.mem_flatMap] at hk
  rcases hk with hk | ⟨f, hf, hk⟩
  · unfold RD.ff at hk
    split at hk
    · cases hk
    · rename_i hne
      obtain ⟨x, hx⟩ := List.exists_mem_of_ne_nil _ hne
      obtain ⟨j, hj, rfl⟩ := List.mem_iff_getElem.1 hx
      obtain ⟨g, o, ea, c0, _⟩ := h.fls.at (j := j) (x := r.l[j]) (by simp)
      rw [ea] at hk
      simp [blk] at hk
      subst hk
      exact World.block_lt_of_cell? _ _ c0
  · unfold RF.ft at hk
    split at hk
    · cases hk
    · rename_i hne
      rcases (h.see f hf).1 with h0 | ⟨g, o, ea, hc⟩
      · exact absurd h0 hne
      · rw [ea] at hk
        simp [blk] at hk
        subst hk
        obtain ⟨y, hy⟩ := List.exists_mem_of_ne_nil _ hne
        obtain ⟨j, hj, rfl⟩ := List.mem_iff_getElem.1 hy
        exact World.block_lt_of_cell? _ _ (hc j f.bytes[j] (by simp))
theorem RdOk.keptNew {w w' : World} {r : RD} (h : RdOk w r) (hk : Kp [] w w') : RdOk w' r := h.kept hk (by simp)
/-- It is the disk d. -/
structure Like (r : RD) (d : Dk) : Prop where
  room : r.room = d.room
  steps : r.steps = d.steps
  files : r.l.map RF.fl = d.files
  armed : r.armed = d.arm.isSome
  dead : r.dead = d.dead
  left : ∀ n : Nat, d.arm = some n → r.left = n
  lo : -9223372036854775808 ≤ r.left
  hi : r.left < 9223372036854775808

theorem strL (a : List UInt8) : (⟨a.toArray⟩ : ByteArray).toList = a := by rw [ByteArray.toList_eq]
theorem strEq (a b : List UInt8) : ((⟨a.toArray⟩ : ByteArray).toList == (⟨b.toArray⟩ : ByteArray).toList) = (a == b) := by rw [strL, strL]
theorem lessEq : ∀ (a b : List UInt8), Op.bytesLess a b = bytesBefore a b
  | [], [] => rfl
  | [], _ :: _ => rfl
  | _ :: _, [] => rfl
  | x :: r, y :: s => by simp [Op.bytesLess, bytesBefore, lessEq r s]
theorem strLe (a b : List UInt8) : (Op.bytesLess (⟨a.toArray⟩ : ByteArray).toList (⟨b.toArray⟩ : ByteArray).toList || (⟨a.toArray⟩ : ByteArray).toList == (⟨b.toArray⟩ : ByteArray).toList) = leN a b := by rw [strL, strL, lessEq]; rfl
/-- A box of six cells. -/
structure B6 (w : World) (q : Nat) (a b c d e f : Value) : Prop where
  c0 : w.cell? ⟨q, 0, none⟩ = some a
  c1 : w.cell? ⟨q, 1, none⟩ = some b
  c2 : w.cell? ⟨q, 2, none⟩ = some c
  c3 : w.cell? ⟨q, 3, none⟩ = some d
  c4 : w.cell? ⟨q, 4, none⟩ = some e
  c5 : w.cell? ⟨q, 5, none⟩ = some f
  free : ∀ j, w.frozen? ⟨q, j, none⟩ = false
theorem B6.at {w : World} (q : Nat) (hq : w.heap.size = q) (a b c d e f : Value) (t : TypeId) : B6 (w.alloc (.cells #[a, b, c, d, e, f] t)) q a b c d e f := by
  subst hq
  exact ⟨World.cell?_alloc_new w _ _ 0, World.cell?_alloc_new w _ _ 1, World.cell?_alloc_new w _ _ 2, World.cell?_alloc_new w _ _ 3, World.cell?_alloc_new w _ _ 4, World.cell?_alloc_new w _ _ 5, fun j => World.frozen?_alloc_new w _ _ j⟩
theorem B6.lt {w : World} {q : Nat} {a b c d e f : Value} (h : B6 w q a b c d e f) : q < w.heap.size := World.block_lt_of_cell? _ _ h.c0
theorem B6.kept {w w' : World} {q : Nat} {a b c d e f : Value} (h : B6 w q a b c d e f) (hk : Kp [] w w') : B6 w' q a b c d e f :=
  ⟨cell_kp hk h.c0, cell_kp hk h.c1, cell_kp hk h.c2, cell_kp hk h.c3, cell_kp hk h.c4, cell_kp hk h.c5, fun j => (hk.frozen (p := ⟨q, j, none⟩) h.lt (by simp)).trans (h.free j)⟩

def AtP (l : List RF) (k : List UInt8) (w : World) (e : Ending) (w' : World) : Prop :=
  Kp [] w w' ∧ ((∃ (j : Nat) (x : RF), e = .returned (.int .i64 (j : Int)) ∧ l[j]? = some x ∧ lookG RF.name k l = some x) ∨ (e = .returned (.int .i64 (-1)) ∧ lookG RF.name k l = none))
theorem look_at {l : List RF} {k : List UInt8} {j : Nat} {x : RF} (h : ∀ i y, i < j → l[i]? = some y → y.name ≠ k) (hx : l[j]? = some x) (hn : x.name = k) : lookG RF.name k l = some x := by
  induction l generalizing j with
  | nil => simp at hx
  | cons y l ih =>
    cases j with
    | zero => simp at hx; subst hx; simp [lookG, hn]
    | succ j =>
      have h0 := h 0 y (by omega) rfl
      have : lookG RF.name k (y :: l) = lookG RF.name k l := by simp [lookG, h0]
      rw [this]
      exact ih (j := j) (fun i z hi hz => h (i + 1) z (by omega) (by simpa using hz)) (by simpa using hx)
theorem look_no {l : List RF} {k : List UInt8} (h : ∀ (i : Nat) (y : RF), l[i]? = some y → y.name ≠ k) : lookG RF.name k l = none := by
  unfold lookG
  rw [List.find?_eq_none]
  intro x hx
  obtain ⟨i, hi, rfl⟩ := List.mem_iff_getElem.1 hx
  simpa using h i l[i] (by simp)
set_option maxHeartbeats 2000000 in
theorem cAt (r : RD) (k : List UInt8) (w : World) (hr : RdOk w r) (hl : r.l.length ≤ 1000000000000) : Calls Tryz.prog 38 #[r.v, .string ⟨k.toArray⟩] w (AtP r.l k w) := by
  obtain ⟨room, steps, fa, fc, l, armed, dead, left⟩ := r
  have hf := hr.fls
  simp only [RD.v] at *
  have kb : Kp [] w (w.alloc (.cells #[.int .i64 room, .int .i64 steps, .slice fa l.length fc, .bool armed, .bool dead, .int .i64 left] 27)) := (Kp.refl _ _).alloc _
  have bx := B6.at (w := w) w.heap.size rfl (.int .i64 room) (.int .i64 steps) (.slice fa l.length fc) (.bool armed) (.bool dead) (.int .i64 left) 27
  have hfb := hf.kept kb (by simp)
  go_enter Tryz.func38, Tryz.ntmps38
  go_wp2_with fail
  go_loopw [5] (fun i wn => ∃ j : Nat, j ≤ l.length ∧ i = .int .i64 j ∧ Hid (∀ i y, i < j → l[i]? = some y → y.name ≠ k) ∧ wn = w.alloc (.cells #[.int .i64 room, .int .i64 steps, .slice fa l.length fc, .bool armed, .bool dead, .int .i64 left] 27)) (fun i _ => l.length - (intOf i).toNat)
  case atStart => exact ⟨0, Nat.zero_le _, rfl, fun i y hi => by omega, rfl⟩
  case round =>
    obtain ⟨j, hj, rfl, hno, rfl⟩ := hrel
    by_cases hjl : j < l.length
    · obtain ⟨x, hx⟩ : ∃ x, l[j]? = some x := ⟨l[j], by simp [hjl]⟩
      obtain ⟨g, o, rfl, c0, c1, c2⟩ := hfb.at hx
      by_cases hn : x.name = k
      · have hfin : AtP l k w (.returned (.int .i64 (j : Int))) (w.alloc (.cells #[.int .i64 room, .int .i64 steps, .slice (some ⟨g, o, none⟩) l.length fc, .bool armed, .bool dead, .int .i64 left] 27)) := ⟨kb, .inl ⟨j, x, rfl, hx, look_at hno.out hx hn⟩⟩
        have he1 : (x.name == k) = true := by simpa using hn
        clear hno hn hx
        go_wp2_with fail
        go_ret
        exact hfin
      · have hno' : Hid (∀ i y, i < j + 1 → l[i]? = some y → y.name ≠ k) := fun i y hi hy => by
          by_cases e : i = j
          · subst e; rw [hx] at hy; cases hy; exact hn
          · exact hno.out i y (by omega) hy
        have he1 : (x.name == k) = false := by simpa using hn
        clear hno hn hx
        go_wp2_with fail
        exact ⟨⟨j + 1, by omega, by go_num, hno', trivial⟩, by simp [intOf]; omega⟩
    · have hfin : AtP l k w (.returned (.int .i64 (-1))) (w.alloc (.cells #[.int .i64 room, .int .i64 steps, .slice fa l.length fc, .bool armed, .bool dead, .int .i64 left] 27)) := ⟨kb, .inr ⟨rfl, look_no (fun i y hy => hno.out i y (by have := (List.getElem?_eq_some_iff.1 hy).1; omega) hy)⟩⟩
      clear hno
      go_wp2_with fail
      go_ret
      exact hfin
end Go.Proofs.YtpkoikennimonaaGreatDoor
end

section
namespace Go.Proofs.YtpkoikennimonaaGreatDoor
open Go.RowKit Go.Hay
set_option linter.unusedVariables false
set_option linter.unusedSimpArgs false

def lens (l : List RF) : Nat := (l.map fun f => f.bytes.length).sum
set_option maxHeartbeats 2000000 in
theorem cRefFree (r : RD) (w : World) (hr : RdOk w r) (hl : r.l.length ≤ 1000000000000) (h0 : 0 ≤ r.room) (h1 : r.room < 9223372036854775808) (hs : (lens r.l : Int) ≤ r.room) : Calls Tryz.prog 67 #[r.v] w fun e w' => e = .returned (.int .i64 (r.room - lens r.l)) ∧ Kp [] w w' := by
  obtain ⟨room, steps, fa, fc, l, armed, dead, left⟩ := r
  have hf := hr.fls
  simp only [RD.v] at *
  obtain ⟨w1, hw1⟩ : ∃ w1, w1 = w.alloc (.cells #[.int .i64 room, .int .i64 steps, .slice fa l.length fc, .bool armed, .bool dead, .int .i64 left] 27) := ⟨_, rfl⟩
  have kb : Kp [] w w1 := by rw [hw1]; exact (Kp.refl _ _).alloc _
  have bx : B6 w1 w.heap.size (.int .i64 room) (.int .i64 steps) (.slice fa l.length fc) (.bool armed) (.bool dead) (.int .i64 left) := by rw [hw1]; exact B6.at _ rfl _ _ _ _ _ _ _
  have hfb := hf.kept kb (by simp)
  have x0 := bx.c0
  have x2 := bx.c2
  clear bx hr hf
  go_enter Tryz.func67, Tryz.ntmps67
  have hal := hw1.symm
  clear hw1
  go_wp2_with fail
  go_loopw [3, 4] (fun n i wn => ∃ j : Nat, j ≤ l.length ∧ i = .int .i64 j ∧ (∃ z : Int, n = .int .i64 z ∧ Hid (z = room - lens (l.take j))) ∧ wn = w1) (fun _ i _ => l.length - (intOf i).toNat)
  case atStart => exact ⟨0, Nat.zero_le _, rfl, ⟨room, rfl, by show _ = _; simp [lens]⟩, rfl⟩
  case round =>
    obtain ⟨j, hj, rfl, ⟨z, rfl, hz⟩, rfl⟩ := hrel
    by_cases hjl : j < l.length
    · obtain ⟨x, hx⟩ : ∃ x, l[j]? = some x := ⟨l[j], by simp [hjl]⟩
      obtain ⟨g, o, rfl, c0, c1, c2⟩ := hfb.at hx
      have e1 : lens (l.take (j + 1)) = lens (l.take j) + x.bytes.length := by
        unfold lens
        rw [List.take_add_one, hx]; simp
      have e2 : lens (l.take (j + 1)) ≤ lens l := by
        have : lens (l.take (j + 1)) + lens (l.drop (j + 1)) = lens l := by
          unfold lens
          rw [← List.sum_append, ← List.map_append, List.take_append_drop]
        omega
      have hz' : Hid (z - x.bytes.length = room - lens (l.take (j + 1))) := by show _ = _; rw [hz.out, e1]; simp only [Int.natCast_add]; omega
      have b1 : 0 ≤ z - x.bytes.length := by rw [hz'.out]; omega
      have b2 : z ≤ room := by rw [hz.out]; omega
      clear hx e1 e2 hz
      go_wp2_with fail
      exact ⟨⟨j + 1, by omega, by go_num, ⟨_, rfl, hz'⟩, trivial⟩, by simp [intOf]; omega⟩
    · have e : j = l.length := by omega
      subst e
      have hz' : Hid (z = room - lens l) := by show _ = _; rw [hz.out, List.take_length]
      clear hz
      go_wp2_with fail
      go_ret
      exact ⟨by rw [hz'.out]; rfl, kb⟩
set_option maxRecDepth 100000 in
theorem cJoined (a b : Option Addr) (ca cb : Nat) (x y : List UInt8) (w : World) (hx : Sees w a x) (hy : Sees w b y) (hl : x.length + y.length ≤ 140737488355328) :
    Calls Tryz.prog 44 #[.slice a x.length ca, .slice b y.length cb] w (CloneP (x ++ y) w) := by
  go_enter Tryz.func44, Tryz.ntmps44
  have hn := Row.nil w
  go_wp2_with (first
    | (refine wpAppR rfl _ _ rfl _ ys rfl hrow1 _ _ _ y rfl rfl hy1' (by omega) ?_; intro zs a2 c2 w2 hz2 hzl2 hrow2 hg2)
    | (refine wpAppR rfl _ _ rfl _ [] rfl hn _ _ _ x rfl rfl hx (by simp; omega) ?_; intro ys a1 c1 w1 hy1 hyl1 hrow1 hg1; have k1 : Kp [] w w1 := hg1.kp; have hy1' : Sees w1 b y := hy.kept k1 (by simp); have hl1 : ys.length ≤ x.length := by simpa using hyl1)
    | fail)
  go_ret
  have e : zs = x ++ y := by rw [hz2.out, hy1.out]; simp
  subst e
  have ho : ∀ k ∈ own (.slice a1 ys.length c1), w.heap.size ≤ k := fun k hk => by
    rcases hg1.new k hk with h | h
    · simp [own, Value.ownBlock, Act.eval] at h
    · exact h
  refine ⟨a2, c2, rfl, hrow2, k1.trans hg2.kp (fun k hk => .inr (ho k hk)), fun k hk => ?_⟩
  rcases hg2.new k (by rw [own_slice]; exact hk) with h | h
  · exact ho k h
  · exact Nat.le_trans k1.size h
def RefP (T : List Nat) (d : Dk) (w : World) (v : Value) (w' : World) : Prop := ∃ r : RD, v = r.v ∧ RdOk w' r ∧ Like r d ∧ Kp [] w w' ∧ ∀ k ∈ r.foot, k ∈ T ∨ w.heap.size ≤ k
theorem RdOk.files {w : World} {r : RD} (h : RdOk w r) {r' : RD} (e1 : r'.fa = r.fa) (e2 : r'.l = r.l) : RdOk w r' := ⟨by rw [e1, e2]; exact h.fls, by rw [e2]; exact h.see⟩
theorem foot_same {r r' : RD} (e1 : r'.fa = r.fa) (e2 : r'.l = r.l) : r'.foot = r.foot := by simp [RD.foot, RD.ff, e1, e2]
theorem cRefNew (room : Int) (w : World) (h : room < 9223372036854775808) : Calls Tryz.prog 6 #[.int .i64 room] w fun e w' => ∃ v, e = .returned v ∧ RefP [] (newD room) w v w' := by
  go_enter Tryz.func6, Tryz.ntmps6
  go_wp2_with fail
  go_returns
  exact ⟨_, rfl, ⟨max room 0, 0, none, 0, [], false, false, 0⟩, rfl, ⟨.inl rfl, by simp⟩, ⟨by simp only [newD]; omega, rfl, rfl, rfl, rfl, by simp [newD], by simp, by simp⟩, (Kp.refl _ _).alloc _, by simp [RD.foot, RD.ff, blk]⟩
theorem cRefArm (r : RD) (w : World) (hr : RdOk w r) (d : Dk) (hL : Like r d) (n : Int) (hn0 : -9223372036854775808 ≤ n) (hn1 : n < 9223372036854775808) : Calls Tryz.prog 22 #[r.v, .int .i64 n] w fun e w' => ∃ v, e = .returned v ∧ RefP r.foot (armD d n) w v w' := by
  obtain ⟨room, steps, fa, fc, l, armed, dead, left⟩ := r
  simp only [RD.v]
  have hd := hL.dead
  simp only at hd
  cases hdd : d.dead with
  | true =>
    have e : armD d n = d := by simp [armD, hdd]
    rw [hdd] at hd
    subst hd
    rw [e]
    go_enter Tryz.func22, Tryz.ntmps22
    go_wp2_with fail
    go_returns
    have kk : Kp [] w _ := ((Kp.refl _ w).alloc (.cells #[.int .i64 room, .int .i64 steps, .slice fa l.length fc, .bool armed, .bool true, .int .i64 left] 27)).alloc (.cells #[.int .i64 room, .int .i64 steps, .slice fa l.length fc, .bool armed, .bool true, .int .i64 left] 27)
    exact ⟨_, rfl, ⟨room, steps, fa, fc, l, armed, true, left⟩, rfl, hr.keptNew kk, hL, kk, fun k hk => .inl hk⟩
  | false =>
    rw [hdd] at hd
    subst hd
    by_cases h0 : 0 ≤ n
    · have e : armD d n = { d with arm := some n.toNat } := by simp [armD, hdd, h0]
      rw [e]
      go_enter Tryz.func22, Tryz.ntmps22
      go_wp2_with fail
      go_returns
      have kk : Kp [] w _ := ((Kp.refl _ w).alloc (.cells #[.int .i64 room, .int .i64 steps, .slice fa l.length fc, .bool true, .bool false, .int .i64 n] 27)).alloc (.cells #[.int .i64 room, .int .i64 steps, .slice fa l.length fc, .bool true, .bool false, .int .i64 n] 27)
      refine ⟨_, rfl, ⟨room, steps, fa, fc, l, true, false, n⟩, rfl, (hr.keptNew kk).files rfl rfl, ⟨hL.room, hL.steps, hL.files, rfl, by first | rfl | exact hdd.symm, fun m hm => ?_, hn0, hn1⟩, kk, fun k hk => .inl hk⟩
      simp only [Option.some.injEq] at hm
      simp only
      omega
    · have e : armD d n = { d with arm := none } := by simp [armD, hdd, h0]
      rw [e]
      go_enter Tryz.func22, Tryz.ntmps22
      go_wp2_with fail
      go_returns
      have kk : Kp [] w _ := ((Kp.refl _ w).alloc (.cells #[.int .i64 room, .int .i64 steps, .slice fa l.length fc, .bool false, .bool false, .int .i64 n] 27)).alloc (.cells #[.int .i64 room, .int .i64 steps, .slice fa l.length fc, .bool false, .bool false, .int .i64 n] 27)
      exact ⟨_, rfl, ⟨room, steps, fa, fc, l, false, false, n⟩, rfl, (hr.keptNew kk).files rfl rfl, ⟨hL.room, hL.steps, hL.files, rfl, by first | rfl | exact hdd.symm, by simp, hn0, hn1⟩, kk, fun k hk => .inl hk⟩
def stepR (r : RD) : RD × Bool := if r.armed && r.left == 0 then ({ r with steps := r.steps + 1, dead := true }, true) else ({ r with steps := r.steps + 1, left := IntKind.i64.wrap (r.left - 1) }, false)
theorem like_step {r : RD} {d : Dk} (h : Like r d) : Like (stepR r).1 (stepD d).1 ∧ (stepR r).2 = (stepD d).2 := by
  have ha := h.armed
  cases hd : d.arm with
  | none =>
    rw [hd] at ha
    have e1 : stepR r = ({ r with steps := r.steps + 1, left := IntKind.i64.wrap (r.left - 1) }, false) := by simp [stepR, ha]
    have e2 : stepD d = ({ d with steps := d.steps + 1, arm := none }, false) := by simp [stepD, hd]
    rw [e1, e2]
    have hw := IntKind.wrap_i64 (r.left - 1)
    refine ⟨⟨h.room, by simp [h.steps], h.files, ha, h.dead, by simp, ?_, ?_⟩, rfl⟩
    · simp only [hw]; omega
    · simp only [hw]; omega
  | some n =>
    rw [hd] at ha
    have hl := h.left n hd
    have hlo := h.lo
    have hhi := h.hi
    rcases Nat.eq_zero_or_pos n with rfl | hn
    · have e1 : stepR r = ({ r with steps := r.steps + 1, dead := true }, true) := by simp [stepR, ha, hl]
      have e2 : stepD d = ({ d with steps := d.steps + 1, dead := true }, true) := by simp [stepD, hd]
      rw [e1, e2]
      exact ⟨⟨h.room, by simp [h.steps], h.files, by simp [ha, hd], rfl, fun m hm => h.left m hm, h.lo, h.hi⟩, rfl⟩
    · have e1 : stepR r = ({ r with steps := r.steps + 1, left := IntKind.i64.wrap (r.left - 1) }, false) := by
        have : ¬ r.left = 0 := by omega
        simp [stepR, this]
      have e2 : stepD d = ({ d with steps := d.steps + 1, arm := some (n - 1) }, false) := by
        have : ¬ n = 0 := by omega
        simp [stepD, hd, this]
      have hw : IntKind.i64.wrap (r.left - 1) = r.left - 1 := by rw [IntKind.wrap_i64]; omega
      rw [e1, e2, hw]
      exact ⟨⟨h.room, by simp [h.steps], h.files, by simp [ha], h.dead, fun m hm => by simp at hm; subst hm; simp only; omega, by simp only; omega, by simp only; omega⟩, rfl⟩
theorem stepR_files (r : RD) : (stepR r).1.fa = r.fa ∧ (stepR r).1.l = r.l := by
  unfold stepR
  split <;> exact ⟨rfl, rfl⟩
theorem wrapE (z : Int) : wrap64 z = IntKind.i64.wrap z := by rw [IntKind.wrap_i64]; unfold wrap64; omega
theorem cRefStep (r : RD) (w : World) (hs : 0 ≤ r.steps ∧ r.steps < 9000000000000000000) : Calls Tryz.prog 63 #[r.v] w fun e w' => e = .returned (.tuple #[(stepR r).1.v, .bool (stepR r).2]) ∧ Kp [] w w' := by
  obtain ⟨room, steps, fa, fc, l, armed, dead, left⟩ := r
  simp only [RD.v] at *
  obtain ⟨hs0, hs1⟩ := hs
  cases armed with
  | false =>
    go_enter Tryz.func63, Tryz.ntmps63
    go_wp2_with fail
    go_returns
    exact ⟨by simp [stepR]; exact wrapE _, ((Kp.refl _ _).alloc _).alloc _⟩
  | true =>
    by_cases h0 : left = 0
    · subst h0
      go_enter Tryz.func63, Tryz.ntmps63
      go_wp2_with fail
      go_returns
      exact ⟨by simp [stepR], ((Kp.refl _ _).alloc _).alloc _⟩
    · have h1 : (left == 0) = false := by simpa using h0
      go_enter Tryz.func63, Tryz.ntmps63
      go_wp2_with fail
      go_returns
      exact ⟨by simp [stepR, h0]; exact wrapE _, ((Kp.refl _ _).alloc _).alloc _⟩
end Go.Proofs.YtpkoikennimonaaGreatDoor
end

section
namespace Go.Proofs.YtpkoikennimonaaGreatDoor
open Go.RowKit Go.Hay
set_option linter.unusedVariables false
set_option linter.unusedSimpArgs false

def WithP (r : RD) (l' : List RF) (w : World) (e : Ending) (w' : World) : Prop := ∃ a' c', e = .returned ({ r with fa := a', fc := c', l := l' } : RD).v ∧ Fls w' a' l' ∧ Kp [] w w' ∧ ∀ k ∈ blk a', w.heap.size ≤ k
theorem dropG_snoc {k : List UInt8} {l : List RF} {j : Nat} {x : RF} (hx : l[j]? = some x) : dropG RF.name k (l.take (j + 1)) = dropG RF.name k (l.take j) ++ (if x.name == k then [] else [x]) := by
  rw [List.take_add_one, hx]
  simp only [dropG, List.filter_append, Option.toList_some]
  congr 1
  cases h : x.name == k <;> simp [h]
theorem set6_ex {W : World} {q : Nat} {a0 b0 c0 d0 e0 f0 : Value} (h : B6 W q a0 b0 c0 d0 e0 f0) (a b c d e f : Value) : ∃ W', (((((W.setCell ⟨q, 0, none⟩ a).setCell ⟨q, 1, none⟩ b).setCell ⟨q, 2, none⟩ c).setCell ⟨q, 3, none⟩ d).setCell ⟨q, 4, none⟩ e).setCell ⟨q, 5, none⟩ f = W' ∧ B6 W' q a b c d e f ∧ Kp [q] W W' := by
  have k : ∀ (A : World) (j : Nat) (u : Value), Kp [q] W A → Kp [q] W (A.setCell ⟨q, j, none⟩ u) := fun A j u hA => hA.setCell (p := ⟨q, j, none⟩) (by simp) u
  refine ⟨_, rfl, ⟨?_, ?_, ?_, ?_, ?_, ?_, fun j => ?_⟩, k _ _ _ (k _ _ _ (k _ _ _ (k _ _ _ (k _ _ _ (k _ _ _ (Kp.refl _ _))))))⟩
  · rw [setCell_off (by decide), setCell_off (by decide), setCell_off (by decide), setCell_off (by decide), setCell_off (by decide)]; exact World.cell?_setCell_same _ _ _ h.c0
  · rw [setCell_off (by decide), setCell_off (by decide), setCell_off (by decide), setCell_off (by decide)]; exact World.cell?_setCell_same _ _ _ ((setCell_off (by decide) _).trans h.c1)
  · rw [setCell_off (by decide), setCell_off (by decide), setCell_off (by decide)]; exact World.cell?_setCell_same _ _ _ ((setCell_off (by decide) _).trans ((setCell_off (by decide) _).trans h.c2))
  · rw [setCell_off (by decide), setCell_off (by decide)]; exact World.cell?_setCell_same _ _ _ ((setCell_off (by decide) _).trans ((setCell_off (by decide) _).trans ((setCell_off (by decide) _).trans h.c3)))
  · rw [setCell_off (by decide)]; exact World.cell?_setCell_same _ _ _ ((setCell_off (by decide) _).trans ((setCell_off (by decide) _).trans ((setCell_off (by decide) _).trans ((setCell_off (by decide) _).trans h.c4))))
  · exact World.cell?_setCell_same _ _ _ ((setCell_off (by decide) _).trans ((setCell_off (by decide) _).trans ((setCell_off (by decide) _).trans ((setCell_off (by decide) _).trans ((setCell_off (by decide) _).trans h.c5)))))
  · simp only [World.frozen?_setCell]; exact h.free j
theorem B6.keptS {w w' : World} {q : Nat} {a b c d e f : Value} {S : List Nat} (h : B6 w q a b c d e f) (hk : Kp S w w') (hq : q ∉ S) : B6 w' q a b c d e f :=
  ⟨(hk.cell (p := ⟨q, _, none⟩) h.lt hq).trans h.c0, (hk.cell (p := ⟨q, _, none⟩) h.lt hq).trans h.c1, (hk.cell (p := ⟨q, _, none⟩) h.lt hq).trans h.c2, (hk.cell (p := ⟨q, _, none⟩) h.lt hq).trans h.c3, (hk.cell (p := ⟨q, _, none⟩) h.lt hq).trans h.c4, (hk.cell (p := ⟨q, _, none⟩) h.lt hq).trans h.c5, fun j => (hk.frozen (p := ⟨q, j, none⟩) h.lt hq).trans (h.free j)⟩
set_option maxHeartbeats 4000000 in
set_option maxRecDepth 100000 in
theorem cWithout (r : RD) (k : List UInt8) (w : World) (hr : RdOk w r) (hl : r.l.length ≤ 1000000000) : Calls Tryz.prog 65 #[r.v, .string ⟨k.toArray⟩] w (WithP r (dropG RF.name k r.l) w) := by
  obtain ⟨room, steps, fa, fc, l, armed, dead, left⟩ := r
  have hf := hr.fls
  simp only [RD.v] at *
  obtain ⟨w1, hw1⟩ : ∃ w1, w1 = (w.alloc (.cells #[.int .i64 room, .int .i64 steps, .slice fa l.length fc, .bool armed, .bool dead, .int .i64 left] 27)).alloc (.cells #[.int .i64 0, .int .i64 0, .slice none 0 0, .bool false, .bool false, .int .i64 0] 27) := ⟨_, rfl⟩
  have kb : Kp [] w w1 := by rw [hw1]; exact ((Kp.refl _ _).alloc _).alloc _
  have bx : B6 w1 w.heap.size (.int .i64 room) (.int .i64 steps) (.slice fa l.length fc) (.bool armed) (.bool dead) (.int .i64 left) := by rw [hw1]; exact (B6.at _ rfl _ _ _ _ _ _ _).kept ((Kp.refl _ _).alloc _)
  have br : B6 w1 (w.heap.size + 1) (.int .i64 0) (.int .i64 0) (.slice none 0 0) (.bool false) (.bool false) (.int .i64 0) := by rw [hw1]; exact B6.at _ (by simp) _ _ _ _ _ _ _
  have hs1 : w.heap.size + 2 ≤ w1.heap.size := by rw [hw1]; simp
  have hfb := hf.kept kb (by simp)
  clear hr hf
  go_enter Tryz.func65, Tryz.ntmps65
  have hal := hw1.symm
  clear hw1
  go_wp2_with fail
  go_loopw [5, 6] (fun v i wn => ∃ (j : Nat) (l' : List RF) (a : Option Addr) (c : Nat), j ≤ l.length ∧ i = .int .i64 j ∧ v = .slice a l'.length c ∧ RowF w1.heap.size wn (.slice a l'.length c) l' ∧ Hid (l' = dropG RF.name k (l.take j)) ∧ Kp [] w1 wn ∧ l'.length ≤ j) (fun _ i _ => l.length - (intOf i).toNat)
  case atStart => exact ⟨0, [], none, 0, Nat.zero_le _, rfl, rfl, RowF.nil _ _, rfl, Kp.refl _ _, Nat.le_refl _⟩
  case round =>
    obtain ⟨j, l', av, cv, hj, rfl, rfl, hrow, hl', hk, hlen⟩ := hrel
    have b2 := (bx.kept hk).c2
    by_cases hjl : j < l.length
    · obtain ⟨x, hx⟩ : ∃ x, l[j]? = some x := ⟨l[j], by simp [hjl]⟩
      have hsn := dropG_snoc (k := k) hx
      obtain ⟨g, o, rfl, c0, c1, c2⟩ := (hfb.kept hk (by simp)).at hx
      by_cases hn : x.name = k
      · have hn' : Hid (l' = dropG RF.name k (l.take (j + 1))) := by show _ = _; rw [hsn, hl'.out]; simp [hn]
        have he1 : (x.name == k) = true := by simpa using hn
        clear hsn hl' hx hn
        go_wp2_with fail
        exact ⟨⟨j + 1, l', _, _, by omega, by go_num, rfl, hrow, hn', hk, by omega⟩, by simp [intOf]; omega⟩
      · have hn' : Hid (l' ++ [x] = dropG RF.name k (l.take (j + 1))) := by show _ = _; rw [hsn, hl'.out]; simp [hn]
        have he1 : (x.name == k) = false := by simpa using hn
        clear hsn hl' hx hn
        go_wp2_with (first | (refine wpAppF rfl _ _ rfl w1 _ l' rfl hrow x _ rfl rfl (by omega) hk ?_; intro l2 a2 c2' w2 hl2 hrow2 hk2 hs2 hsame) | fail)
        have hl2' : l2.length ≤ j + 1 := by rw [hl2.out]; simp; omega
        exact ⟨⟨j + 1, l2, a2, c2', by omega, by go_num, rfl, hrow2, by show _ = _; rw [hl2.out]; exact hn'.out, hk2, hl2'⟩, by simp [intOf]; omega⟩
    · have e : j = l.length := by omega
      subst e
      have hn' : Hid (l' = dropG RF.name k l) := by show _ = _; rw [hl'.out, List.take_length]
      have bb := bx.kept hk
      have rr := br.kept hk
      have q0 := bb.c0
      have q1 := bb.c1
      have q3 := bb.c3
      have q4 := bb.c4
      have q5 := bb.c5
      have f2 := bb.free 2
      have r0 := rr.c0
      have r1 := rr.c1
      have r2 := rr.c2
      have r3 := rr.c3
      have r4 := rr.c4
      have r5 := rr.c5
      have g0 := rr.free 0
      have g1 := rr.free 1
      have g2 := rr.free 2
      have g3 := rr.free 3
      have g4 := rr.free 4
      have g5 := rr.free 5
      clear hl'
      go_wp2_with fail
      have kS : Kp [w.heap.size] wr (wr.setCell ⟨w.heap.size, 2, none⟩ (.slice av l'.length cv)) := (Kp.refl _ _).setCell (p := ⟨w.heap.size, 2, none⟩) (by simp) _
      obtain ⟨W', hW', hb6, kW'⟩ := set6_ex (rr.keptS kS (by simp)) (.int .i64 room) (.int .i64 steps) (.slice av l'.length cv) (.bool armed) (.bool dead) (.int .i64 left)
      rw [hW']
      obtain ⟨z0, z1, z2, z3, z4, z5, _⟩ := hb6
      obtain ⟨a', c', ea, hfl, _, _, hnew⟩ := hrow.fls
      cases ea
      have kA : Kp [w.heap.size, w.heap.size + 1] wr W' := (kS.mono (T := [w.heap.size, w.heap.size + 1]) (fun x hx => .inl (by simp at hx; simp [hx]))).trans kW' (fun x hx => .inl (by simp at hx; simp [hx]))
      refine bodyPost_ret (v := .agg #[.int .i64 room, .int .i64 steps, .slice av l'.length cv, .bool armed, .bool dead, .int .i64 left]) (by simp [results, Tryz.results65, go_sem, z0, z1, z2, z3, z4, z5]) rfl ?_
      refine ⟨av, cv, ?_, ?_, (kb.trans hk (by simp)).trans kA (fun x hx => .inr (by simp at hx; omega)), fun x hx => by have := hnew x hx; omega⟩
      · rw [← hn'.out]; rfl
      · rw [← hn'.out]; exact hfl.kept kA (fun x hx => by have := hnew x hx; simp; omega)
end Go.Proofs.YtpkoikennimonaaGreatDoor
end

section
namespace Go.Proofs.YtpkoikennimonaaGreatDoor
open Go.RowKit Go.Hay
set_option linter.unusedVariables false
set_option linter.unusedSimpArgs false

theorem keepG {W W' : World} {v : Value} {g o : Nat} {u : Value} (h : ∀ k, k < W.heap.size → v.ownBlock ≠ some k → W'.heap[k]? = W.heap[k]?) (hc : W.cell? ⟨g, o, none⟩ = some u) (hne : v.ownBlock ≠ some g) : W'.cell? ⟨g, o, none⟩ = some u :=
  (World.cell?_of_block (a := ⟨g, o, none⟩) (h g (World.block_lt_of_cell? _ _ hc) hne)).trans hc
theorem rowF_lt {n0 : Nat} {w : World} {v : Value} {l : List RF} (h : RowF n0 w v l) : ∀ k, v.ownBlock = some k → k < w.heap.size := by
  obtain ⟨_, ⟨rfl, _⟩ | ⟨g, cap, cur, rfl, hb, hg, _⟩⟩ := h
  · intro k hk; cases hk
  · intro k hk; cases hk; exact (Array.getElem?_eq_some_iff.1 hg).1
theorem runLe (a b : List UInt8) (w : World) : (binOp .leq 9 (.string ⟨a.toArray⟩) (.string ⟨b.toArray⟩)).run Tryz.prog w = .ok (.bool (leN a b)) w := by
  have e : binOp .leq 9 (.string ⟨a.toArray⟩) (.string ⟨b.toArray⟩) = pure (.bool (Op.bytesLess (⟨a.toArray⟩ : ByteArray).toList (⟨b.toArray⟩ : ByteArray).toList || (⟨a.toArray⟩ : ByteArray).toList == (⟨b.toArray⟩ : ByteArray).toList)) := by simp [binOp, Op.stringOp]
  rw [e, strLe]
  rfl
set_option maxHeartbeats 8000000 in
set_option maxRecDepth 100000 in
theorem cWith (r : RD) (f : RF) (w : World) (hr : RdOk w r) (hl : r.l.length ≤ 1000000000) : Calls Tryz.prog 64 #[r.v, f.v] w (WithP r (putG RF.name f false r.l) w) := by
  obtain ⟨room, steps, fa, fc, l, armed, dead, left⟩ := r
  have hf := hr.fls
  simp only [RD.v, RF.v] at *
  obtain ⟨w1, hw1⟩ : ∃ w1, w1 = ((w.alloc (.cells #[.int .i64 room, .int .i64 steps, .slice fa l.length fc, .bool armed, .bool dead, .int .i64 left] 27)).alloc (.cells #[.string ⟨f.name.toArray⟩, .slice f.ba f.bytes.length f.bc, .int .i64 (f.last : Int)] 68)).alloc (.cells #[.int .i64 0, .int .i64 0, .slice none 0 0, .bool false, .bool false, .int .i64 0] 27) := ⟨_, rfl⟩
  have kb : Kp [] w w1 := by rw [hw1]; exact (((Kp.refl _ _).alloc _).alloc _).alloc _
  have bx : B6 w1 w.heap.size (.int .i64 room) (.int .i64 steps) (.slice fa l.length fc) (.bool armed) (.bool dead) (.int .i64 left) := by rw [hw1]; exact (B6.at _ rfl _ _ _ _ _ _ _).kept (((Kp.refl _ _).alloc _).alloc _)
  have br : B6 w1 (w.heap.size + 2) (.int .i64 0) (.int .i64 0) (.slice none 0 0) (.bool false) (.bool false) (.int .i64 0) := by rw [hw1]; exact B6.at _ (by simp) _ _ _ _ _ _ _
  have bf : ∀ j u, (RF.c f)[j]? = some u → w1.cell? ⟨w.heap.size + 1, j, none⟩ = some u := fun j u hu => by
    rw [hw1]
    have h0 := World.cell?_alloc_new (w.alloc (.cells #[.int .i64 room, .int .i64 steps, .slice fa l.length fc, .bool armed, .bool dead, .int .i64 left] 27)) #[.string ⟨f.name.toArray⟩, .slice f.ba f.bytes.length f.bc, .int .i64 (f.last : Int)] 68 j
    rw [World.size_alloc] at h0
    refine cell_kp ((Kp.refl _ _).alloc _) (h0.trans ?_)
    simpa [RF.c] using hu
  have bf0 := bf 0 _ rfl
  have bf1 := bf 1 _ rfl
  have bf2 := bf 2 _ rfl
  have hs1 : w.heap.size + 3 ≤ w1.heap.size := by rw [hw1]; simp
  have hfb := hf.kept kb (by simp)
  clear hr hf bf
  go_enter Tryz.func64, Tryz.ntmps64
  have hal := hw1.symm
  clear hw1
  go_wp2_with fail
  go_loopw [5, 6, 7] (fun v dn i wn => ∃ (j : Nat) (l' : List RF) (a : Option Addr) (c : Nat) (b : Bool), j ≤ l.length ∧ i = .int .i64 j ∧ v = .slice a l'.length c ∧ dn = .bool b ∧ RowF w1.heap.size wn (.slice a l'.length c) l' ∧ Hid (l' ++ putG RF.name f b (l.drop j) = putG RF.name f false l) ∧ Kp [] w1 wn ∧ l'.length ≤ 2 * j) (fun _ _ i _ => l.length - (intOf i).toNat)
  case atStart => exact ⟨0, [], none, 0, false, Nat.zero_le _, rfl, rfl, rfl, RowF.nil _ _, by show _ = _; simp, Kp.refl _ _, Nat.le_refl _⟩
  case round =>
    obtain ⟨j, l', av, cv, b, hj, rfl, rfl, rfl, hrow, hl', hk, hlen⟩ := hrel
    have b2 := (bx.kept hk).c2
    by_cases hjl : j < l.length
    · obtain ⟨x, hx⟩ : ∃ x, l[j]? = some x := ⟨l[j], by simp [hjl]⟩
      have hdr : l.drop j = x :: l.drop (j + 1) := by
        rw [List.drop_eq_getElem_cons hjl]
        congr 1
        simpa using List.getElem?_eq_some_iff.1 hx |>.2
      obtain ⟨g, o, rfl, c0, c1, c2⟩ := (hfb.kept hk (by simp)).at hx
      obtain ⟨wg, hwg⟩ : ∃ wg, wr.alloc (.cells #[.string ⟨x.name.toArray⟩, .slice x.ba x.bytes.length x.bc, .int .i64 (x.last : Int)] 68) = wg := ⟨_, rfl⟩
      have kg : Kp [] wr wg := by rw [← hwg]; exact (Kp.refl _ _).alloc _
      have hkg : Kp [] w1 wg := hk.trans kg (by simp)
      have hrowg := hrow.kept kg
      have g0 : wg.cell? ⟨wr.heap.size, 0, none⟩ = some (.string ⟨x.name.toArray⟩) := by rw [← hwg]; exact World.cell?_alloc_new wr _ _ 0
      have g1 : wg.cell? ⟨wr.heap.size, 1, none⟩ = some (.slice x.ba x.bytes.length x.bc) := by rw [← hwg]; exact World.cell?_alloc_new wr _ _ 1
      have g2 : wg.cell? ⟨wr.heap.size, 2, none⟩ = some (.int .i64 (x.last : Int)) := by rw [← hwg]; exact World.cell?_alloc_new wr _ _ 2
      have hgo : (Value.slice av l'.length cv).ownBlock ≠ some wr.heap.size := fun e => Nat.lt_irrefl _ (rowF_lt hrow _ e)
      have h1j := bf0
      have fb0 := cell_kp hkg bf0
      have fb1 := cell_kp hkg bf1
      have fb2 := cell_kp hkg bf2
      cases b with
      | true =>
        by_cases hn : x.name = f.name
        · have heq : (x.name == f.name) = true := by simpa using hn
          have hle : leN f.name x.name = true := by simp [leN, hn]
          clear hn
          have hn' : Hid ((l') ++ putG RF.name f true (l.drop (j + 1)) = putG RF.name f false l) := by show _ = _; rw [← hl'.out, hdr]; simp [putG, hle, heq]
          clear hl' hx hdr
          go_wp2_with fail
          exact ⟨⟨j + 1, l', av, cv, true, by omega, by go_num, rfl, rfl, hrowg, hn', hkg, by omega⟩, by simp [intOf]; omega⟩
        · have heq : (x.name == f.name) = false := by simpa using hn
          obtain ⟨bl, hle⟩ : ∃ bl, leN f.name x.name = bl := ⟨_, rfl⟩
          clear hn
          have hn' : Hid (((l') ++ [x]) ++ putG RF.name f true (l.drop (j + 1)) = putG RF.name f false l) := by show _ = _; rw [← hl'.out, hdr]; simp [putG, hle, heq]
          clear hl' hx hdr
          go_wp2_with (first | (refine wpAppF rfl _ _ rfl w1 _ l' rfl hrowg x _ rfl rfl (by omega) hkg ?_; intro l3 a3 c3' w3 hl3 hrow3 hk3 hs3 hsame3) | fail)
          exact ⟨⟨j + 1, l3, a3, c3', true, by omega, by go_num, rfl, rfl, hrow3, by show _ = _; rw [hl3.out]; exact hn'.out, hk3, by rw [hl3.out]; simp; omega⟩, by simp [intOf]; omega⟩
      | false =>
        cases hle : leN f.name x.name with
        | true =>
          have hle2 : ∀ W, (binOp .leq 9 (.string ⟨f.name.toArray⟩) (.string ⟨x.name.toArray⟩)).run Tryz.prog W = .ok (.bool true) W := fun W => by rw [runLe, hle]
          by_cases hn : x.name = f.name
          · have heq : (x.name == f.name) = true := by simpa using hn
            clear hn
            have hn' : Hid ((l' ++ [f]) ++ putG RF.name f true (l.drop (j + 1)) = putG RF.name f false l) := by show _ = _; rw [← hl'.out, hdr]; simp [putG, hle, heq]
            clear hl' hx hdr
            go_wp2_with (first | (refine wpAppF rfl _ _ rfl w1 _ l' rfl hrowg f _ rfl rfl (by omega) hkg ?_; intro l2 a2 c2' w2 hl2 hrow2 hk2 hs2 hsame; have g0' := keepG hsame g0 hgo; have g1' := keepG hsame g1 hgo; have g2' := keepG hsame g2 hgo; have fb0 := cell_kp hk2 bf0; have fb1 := cell_kp hk2 bf1; have fb2 := cell_kp hk2 bf2; have hln2 : l2.length ≤ 2 * j + 1 := (by rw [hl2.out]; simp; omega)) | fail)
            exact ⟨⟨j + 1, l2, a2, c2', true, by omega, by go_num, rfl, rfl, hrow2, by show _ = _; rw [hl2.out]; exact hn'.out, hk2, by rw [hl2.out]; simp; omega⟩, by simp [intOf]; omega⟩
          · have heq : (x.name == f.name) = false := by simpa using hn
            clear hn
            have hn' : Hid (((l' ++ [f]) ++ [x]) ++ putG RF.name f true (l.drop (j + 1)) = putG RF.name f false l) := by show _ = _; rw [← hl'.out, hdr]; simp [putG, hle, heq]
            clear hl' hx hdr
            go_wp2_with (first | (refine wpAppF rfl _ _ rfl w1 _ l2 rfl hrow2 x _ rfl rfl (by omega) hk2 ?_; intro l3 a3 c3' w3 hl3 hrow3 hk3 hs3 hsame3) | (refine wpAppF rfl _ _ rfl w1 _ l' rfl hrowg f _ rfl rfl (by omega) hkg ?_; intro l2 a2 c2' w2 hl2 hrow2 hk2 hs2 hsame; have g0' := keepG hsame g0 hgo; have g1' := keepG hsame g1 hgo; have g2' := keepG hsame g2 hgo; have fb0 := cell_kp hk2 bf0; have fb1 := cell_kp hk2 bf1; have fb2 := cell_kp hk2 bf2; have hln2 : l2.length ≤ 2 * j + 1 := (by rw [hl2.out]; simp; omega)) | fail)
            exact ⟨⟨j + 1, l3, a3, c3', true, by omega, by go_num, rfl, rfl, hrow3, by show _ = _; rw [hl3.out, hl2.out]; exact hn'.out, hk3, by rw [hl3.out, hl2.out]; simp; omega⟩, by simp [intOf]; omega⟩
        | false =>
          have hle2 : ∀ W, (binOp .leq 9 (.string ⟨f.name.toArray⟩) (.string ⟨x.name.toArray⟩)).run Tryz.prog W = .ok (.bool false) W := fun W => by rw [runLe, hle]
          have heq : (x.name == f.name) = false := by
            simp only [leN, Bool.or_eq_false_iff, beq_eq_false_iff_ne] at hle
            simpa using Ne.symm hle.2
          have hn' : Hid (((l') ++ [x]) ++ putG RF.name f false (l.drop (j + 1)) = putG RF.name f false l) := by show _ = _; rw [← hl'.out, hdr]; simp [putG, hle, heq]
          clear hl' hx hdr
          go_wp2_with (first | (refine wpAppF rfl _ _ rfl w1 _ l' rfl hrowg x _ rfl rfl (by omega) hkg ?_; intro l3 a3 c3' w3 hl3 hrow3 hk3 hs3 hsame3) | fail)
          exact ⟨⟨j + 1, l3, a3, c3', false, by omega, by go_num, rfl, rfl, hrow3, by show _ = _; rw [hl3.out]; exact hn'.out, hk3, by rw [hl3.out]; simp; omega⟩, by simp [intOf]; omega⟩
    · have e : j = l.length := by omega
      subst e
      have bb := bx.kept hk
      have rr := br.kept hk
      have q0 := bb.c0
      have q1 := bb.c1
      have q3 := bb.c3
      have q4 := bb.c4
      have q5 := bb.c5
      have f2 := bb.free 2
      have r0 := rr.c0
      have r1 := rr.c1
      have r2 := rr.c2
      have r3 := rr.c3
      have r4 := rr.c4
      have r5 := rr.c5
      have g0 := rr.free 0
      have g1 := rr.free 1
      have g2 := rr.free 2
      have g3 := rr.free 3
      have g4 := rr.free 4
      have g5 := rr.free 5
      rw [List.drop_length] at hl'
      cases b with
      | true =>
        have hn' : Hid (l' = putG RF.name f false l) := by show _ = _; rw [← hl'.out]; simp [putG]
        clear hl'
        go_wp2_with fail
        have kS : Kp [w.heap.size] wr (wr.setCell ⟨w.heap.size, 2, none⟩ (.slice av l'.length cv)) := (Kp.refl _ _).setCell (p := ⟨w.heap.size, 2, none⟩) (by simp) _
        obtain ⟨W', hW', hb6, kW'⟩ := set6_ex (rr.keptS kS (by simp)) (.int .i64 room) (.int .i64 steps) (.slice av l'.length cv) (.bool armed) (.bool dead) (.int .i64 left)
        rw [hW']
        obtain ⟨z0, z1, z2, z3, z4, z5, _⟩ := hb6
        obtain ⟨a', c', ea, hfl, _, _, hnew⟩ := hrow.fls
        cases ea
        have kA : Kp [w.heap.size, w.heap.size + 2] wr W' := (kS.mono (T := [w.heap.size, w.heap.size + 2]) (fun x hx => .inl (by simp at hx; simp [hx]))).trans kW' (fun x hx => .inl (by simp at hx; simp [hx]))
        refine bodyPost_ret (v := .agg #[.int .i64 room, .int .i64 steps, .slice av l'.length cv, .bool armed, .bool dead, .int .i64 left]) (by simp [results, Tryz.results64, go_sem, z0, z1, z2, z3, z4, z5]) rfl ?_
        refine ⟨av, cv, ?_, ?_, (kb.trans hk (by simp)).trans kA (fun x hx => .inr (by simp at hx; omega)), fun x hx => by have := hnew x hx; omega⟩
        · rw [← hn'.out]; rfl
        · rw [← hn'.out]; exact hfl.kept kA (fun x hx => by have := hnew x hx; simp; omega)
      | false =>
        have hn' : Hid (l' ++ [f] = putG RF.name f false l) := by show _ = _; rw [← hl'.out]; simp [putG]
        have fb0 := cell_kp hk bf0
        have fb1 := cell_kp hk bf1
        have fb2 := cell_kp hk bf2
        clear hl' q0 q1 q3 q4 q5 f2 r0 r1 r2 r3 r4 r5 g0 g1 g2 g3 g4 g5
        go_wp2_with (first | (refine wpAppF rfl _ _ rfl w1 _ l' rfl hrow f _ rfl rfl (by omega) hk ?_; intro l2 a2 c2' w2 hl2 hrow2 hk2 hs2 hsame; have bb := bx.kept hk2; have rr := br.kept hk2; have q0 := bb.c0; have q1 := bb.c1; have q2 := bb.c2; have q3 := bb.c3; have q4 := bb.c4; have q5 := bb.c5; have f2 := bb.free 2; have r0 := rr.c0; have r1 := rr.c1; have r2 := rr.c2; have r3 := rr.c3; have r4 := rr.c4; have r5 := rr.c5; have g0 := rr.free 0; have g1 := rr.free 1; have g2 := rr.free 2; have g3 := rr.free 3; have g4 := rr.free 4; have g5 := rr.free 5) | fail)
        have kS : Kp [w.heap.size] w2 (w2.setCell ⟨w.heap.size, 2, none⟩ (.slice a2 l2.length c2')) := (Kp.refl _ _).setCell (p := ⟨w.heap.size, 2, none⟩) (by simp) _
        obtain ⟨W', hW', hb6, kW'⟩ := set6_ex ((br.kept hk2).keptS kS (by simp)) (.int .i64 room) (.int .i64 steps) (.slice a2 l2.length c2') (.bool armed) (.bool dead) (.int .i64 left)
        rw [hW']
        obtain ⟨z0, z1, z2, z3, z4, z5, _⟩ := hb6
        obtain ⟨a', c', ea, hfl, _, _, hnew⟩ := hrow2.fls
        cases ea
        have kA : Kp [w.heap.size, w.heap.size + 2] w2 W' := (kS.mono (T := [w.heap.size, w.heap.size + 2]) (fun x hx => .inl (by simp at hx; simp [hx]))).trans kW' (fun x hx => .inl (by simp at hx; simp [hx]))
        refine bodyPost_ret (v := .agg #[.int .i64 room, .int .i64 steps, .slice a2 l2.length c2', .bool armed, .bool dead, .int .i64 left]) (by simp [results, Tryz.results64, go_sem, z0, z1, z2, z3, z4, z5]) rfl ?_
        refine ⟨a2, c2', ?_, ?_, (kb.trans hk2 (by simp)).trans kA (fun x hx => .inr (by simp at hx; omega)), fun x hx => by have := hnew x hx; omega⟩
        · rw [← hn'.out, ← hl2.out]; rfl
        · rw [← hn'.out, ← hl2.out]; exact hfl.kept kA (fun x hx => by have := hnew x hx; simp; omega)
end Go.Proofs.YtpkoikennimonaaGreatDoor
end

section
namespace Go.Proofs.YtpkoikennimonaaGreatDoor
open Go.RowKit Go.Hay
set_option linter.unusedVariables false
set_option linter.unusedSimpArgs false

theorem Like.look {r : RD} {d : Dk} (h : Like r d) (k : List UInt8) : lookG Fl.name k d.files = (lookG RF.name k r.l).map RF.fl := by
  rw [← h.files]
  exact lookG_map (nm := RF.name) (nm' := Fl.name) RF.fl (fun _ => rfl) k r.l
/-- The reference's box, as it is made. -/
theorem boxR (r : RD) (w : World) : ∃ w1, w.alloc (.cells #[.int .i64 r.room, .int .i64 r.steps, .slice r.fa r.l.length r.fc, .bool r.armed, .bool r.dead, .int .i64 r.left] 27) = w1 ∧ Kp [] w w1 ∧ B6 w1 w.heap.size (.int .i64 r.room) (.int .i64 r.steps) (.slice r.fa r.l.length r.fc) (.bool r.armed) (.bool r.dead) (.int .i64 r.left) ∧ w.heap.size < w1.heap.size :=
  ⟨_, rfl, (Kp.refl _ _).alloc _, B6.at _ rfl _ _ _ _ _ _ _, by simp⟩
set_option maxHeartbeats 4000000 in
set_option maxRecDepth 100000 in
theorem cRefused (r : RD) (d : Dk) (w : World) (hr : RdOk w r) (hL : Like r d) (hl : r.l.length ≤ 1000000000) (call : Int) (name to : List UInt8) (hto : to.length ≤ maxLen) (n : Int) :
    Calls Tryz.prog 62 #[r.v, .int .i64 call, .string ⟨name.toArray⟩, .string ⟨to.toArray⟩, .int .i64 n] w fun e w' => e = .returned (.int .i64 (refusedD d call name to n)) ∧ Kp [] w w' := by
  obtain ⟨w1, hw1, k1, bx, hsz⟩ := boxR r w
  have hr1 := hr.keptNew k1
  have hAt := cAt r name w1 hr1 (by omega)
  have hlk := hL.look name
  have hdd := hL.dead
  have hnm : ∀ w, Calls Tryz.prog 66 #[.string ⟨to.toArray⟩] w fun e w' => e = .returned (.bool (nameOk to)) ∧ w' = w := fun w => cRefName ⟨to.toArray⟩ w (by simpa [ByteArray.size] using hto)
  obtain ⟨room, steps, fa, fc, l, armed, dead, left⟩ := r
  simp only [RD.v] at *
  have b0 := bx.c0; have b1 := bx.c1; have b2 := bx.c2; have b3 := bx.c3; have b4 := bx.c4; have b5 := bx.c5
  subst hdd
  go_enter Tryz.func62, Tryz.ntmps62
  go_wp2_with fail
  refine hAt.mono ?_
  rintro e w2 ⟨k2, (⟨j, x, rfl, hx, hxl⟩ | ⟨rfl, hnone⟩)⟩
  · rw [hxl] at hlk
    have kA : Kp [] w w2 := k1.trans k2 (by simp)
    have bb := bx.kept k2
    have d2 := bb.c2
    have d4 := bb.c4
    obtain ⟨g, o, ea, c0, c1, c2⟩ := (hr1.fls.kept k2 (by simp)).at hx
    simp only at ea
    have hjl : j < l.length := (List.getElem?_eq_some_iff.1 hx).1
    cases hde : d.dead with
    | true =>
      have hR : Hid (refusedD d call name to n = 44) := by show _ = _; simp [refusedD, hde]
      rw [hde] at d4
      clear hlk hx hxl hL hnm
      go_wp2_with fail
      go_ret
      exact ⟨by rw [hR.out]; rfl, kA⟩
    | false =>
      rw [hde] at d4
      by_cases h2 : call = 2
      · subst h2
        by_cases hn0 : n < 0
        · have hR : Hid (refusedD d 2 name to n = 43) := by show _ = _; simp [refusedD, hde, hlk, hn0]
          clear hlk hx hxl hL hnm
          go_wp2_with fail
          go_ret
          exact ⟨by rw [hR.out]; rfl, kA⟩
        · by_cases hn1 : (x.bytes.length : Int) < n
          · have hR : Hid (refusedD d 2 name to n = 43) := by show _ = _; simp [refusedD, hde, hlk, RF.fl, hn1]
            clear hlk hx hxl hL hnm
            subst ea
            go_wp2_with fail
            go_ret
            exact ⟨by rw [hR.out]; rfl, kA⟩
          · have hR : Hid (refusedD d 2 name to n = 0) := by show _ = _; simp [refusedD, hde, hlk, RF.fl]; omega
            clear hlk hx hxl hL hnm
            subst ea
            go_wp2_with fail
            go_ret
            exact ⟨by rw [hR.out]; rfl, kA⟩
      · have hc2 : (call == 2) = false := by simpa using h2
        by_cases h3 : call = 3
        · subst h3
          cases hok : nameOk to with
          | false =>
            have hR : Hid (refusedD d 3 name to n = 40) := by show _ = _; simp [refusedD, hde, hlk, hok]
            rw [hok] at hnm
            clear hlk hx hxl hL hok
            go_wp2_with fail
            refine (hnm _).mono ?_
            rintro e w3 ⟨rfl, rfl⟩
            go_wp2_with fail
            go_ret
            exact ⟨by rw [hR.out]; rfl, kA⟩
          | true =>
            have hR : Hid (refusedD d 3 name to n = 0) := by show _ = _; simp [refusedD, hde, hlk, hok]
            rw [hok] at hnm
            clear hlk hx hxl hL hok
            go_wp2_with fail
            refine (hnm _).mono ?_
            rintro e w3 ⟨rfl, rfl⟩
            go_wp2_with fail
            go_ret
            exact ⟨by rw [hR.out]; rfl, kA⟩
        · have hc3 : (call == 3) = false := by simpa using h3
          have hR : Hid (refusedD d call name to n = 0) := by show _ = _; simp [refusedD, hde, hlk, h2, h3]
          clear hlk hx hxl hL hnm h2 h3
          go_wp2_with fail
          go_ret
          exact ⟨by rw [hR.out]; rfl, kA⟩
  · rw [hnone] at hlk
    have kA : Kp [] w w2 := k1.trans k2 (by simp)
    have d4 := (bx.kept k2).c4
    cases hde : d.dead with
    | true =>
      have hR : Hid (refusedD d call name to n = 44) := by show _ = _; simp [refusedD, hde]
      rw [hde] at d4
      clear hlk hL hnm
      go_wp2_with fail
      go_ret
      exact ⟨by rw [hR.out]; rfl, kA⟩
    | false =>
      have hR : Hid (refusedD d call name to n = 42) := by show _ = _; simp [refusedD, hde, hlk]
      rw [hde] at d4
      clear hlk hL hnm
      go_wp2_with fail
      go_ret
      exact ⟨by rw [hR.out]; rfl, kA⟩
end Go.Proofs.YtpkoikennimonaaGreatDoor
end

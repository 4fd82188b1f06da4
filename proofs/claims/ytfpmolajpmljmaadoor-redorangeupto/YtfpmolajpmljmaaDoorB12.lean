/- A log and its disk together, all new since some world; a disk with one file, plainly. alive: answers that the document fixes. What the rows list of the table of half bytes; arguments opened. -/
import Derived.Test.YtfpmolajpmljmaaDoorB11
import Derived.Test.YtfpmolajpmljmaaDoorCards
import Derived.Test.YtfpmolajpmljmaaDoorTie
import Derived.Test.YtfpmolajpmljmaaDoorB5
import Derived.Test.YtfpmolajpmljmaaDoorB4
import Derived.ProofKit
import Derived.OpenShut
import Derived.ShutString
import Derived.ChangeOld
import Derived.ChangeArms
import Derived.Below
import Derived.Deep.Slices
import Derived.Deep.DeepHandedRow
import Derived.SizedLaws
import Derived.Lib.LaidTab
section
namespace Go.Hay
open Go.RowKit
/-- A disk with one file, never armed. -/
def oneD (r s : Nat) (nm x : List UInt8) (k : Nat) : Dk := ⟨r, s, [⟨nm, x, k⟩], none, false⟩
theorem sync_one (r s : Nat) (nm x : List UInt8) (k : Nat) : doD (oneD r s nm x k) 1 nm [] 0 = (oneD r (s + 1) nm x x.length, 0) := by
  simp [doD, refusedD, stepD, oneD, changedF, fileOf, lookG, putG]
  cases leN nm nm <;> rfl
theorem write_one (r s : Nat) (nm x b : List UInt8) (k : Nat) (hn : nameOk nm = true) (h : x.length + b.length ≤ r) : writeD (oneD r s nm x k) nm b = (oneD r (s + 2) nm (x ++ b) (x ++ b).length, 0) := by
  have e : appendD (oneD r s nm x k) nm b = (oneD r (s + 1) nm (x ++ b) k, 0) := by
    unfold appendD
    rw [if_neg (by simp [oneD]), if_neg (by simp [hn]), if_neg (by simp [freeD, oneD, sumF]; omega)]
    simp [stepD, oneD, grownF, fileOf, lookG, putG]
    cases leN nm nm <;> rfl
  unfold writeD
  rw [e, if_neg (by simp)]
  exact sync_one _ _ _ _ _
theorem create_new (room : Nat) (nm : List UInt8) (hn : nameOk nm = true) : createD (newD (room : Int)) nm = (oneD room 2 nm [] 0, 0) := by
  have e1 : doD (newD (room : Int)) 4 nm [] 0 = (newD (room : Int), 42) := by simp [doD, refusedD, newD, lookG]
  have e2 : appendD (newD (room : Int)) nm [] = (oneD room 1 nm [] 0, 0) := by
    unfold appendD
    rw [if_neg (by simp [newD]), if_neg (by simp [hn]), if_neg (by simp [freeD, newD, sumF])]
    simp [stepD, oneD, grownF, fileOf, lookG, putG, newD]
  unfold createD
  rw [e1, if_neg (by simp)]
  unfold writeD
  rw [e2, if_neg (by simp)]
  exact sync_one _ _ _ _ _
theorem open_one (q : List UInt8 → List (List UInt8) × Nat × Int) (r s : Nat) (nm x : List UInt8) (k : Nat) (h0 : (q x).2.2 = 0) (h1 : (q x).2.1 = x.length) : openD q (oneD r s nm x k) nm = (oneD r (s + 1) nm x x.length, 0) := by
  unfold openD
  have hl : lookG Fl.name nm (oneD r s nm x k).files = some ⟨nm, x, k⟩ := by simp [lookG, oneD]
  rw [if_neg (by simp [oneD])]
  simp only [hl]
  rw [if_neg (by simpa using h0), if_neg (by rw [h1]; omega)]
  exact sync_one _ _ _ _ _
theorem small_one {r s : Nat} {nm x : List UInt8} {k : Nat} (h : x.length ≤ 140737488355328) : ∀ f ∈ (oneD r s nm x k).files, f.bytes.length ≤ 140737488355328 := fun f hf => by simp [oneD] at hf; subst hf; exact h
theorem file_one (r s : Nat) (nm x : List UInt8) (k : Nat) : fileOf (oneD r s nm x k).files nm = ⟨nm, x, k⟩ := by simp [fileOf, oneD, lookG]
end Go.Hay
namespace Go.Proofs.YtfpmolajpmljmaaDoor
open Go.RowKit Go.Hay
set_option linter.unusedVariables false
set_option linter.unusedSimpArgs false

/-- A log and its disk, all new since w0. -/
structure LD (w0 w : World) (p dp mb : Nat) (xs : List Ent) (d : Dk) (nm : List UInt8) (B : Nat → Prop) (v : Value) (L : List (List UInt8)) (sz : Int) : Prop where
  log : Log w p dp nm B v L sz
  disk : Disk w dp mb xs d
  sep : ∀ k ∈ foot dp mb xs, ¬ B k ∧ k ≠ p
  lf : ∀ k ∈ foot dp mb xs, w0.heap.size ≤ k
  lb : ∀ k, B k → w0.heap.size ≤ k ∧ k < w.heap.size
  lp : w0.heap.size ≤ p
  kp : Kp [] w0 w
theorem LD.keep {w0 w w' : World} {p dp mb : Nat} {xs : List Ent} {d : Dk} {nm : List UInt8} {B : Nat → Prop} {v : Value} {L : List (List UInt8)} {sz : Int} (h : LD w0 w p dp mb xs d nm B v L sz) (k : Kp [] w w') : LD w0 w' p dp mb xs d nm B v L sz :=
  ⟨h.log.kept k (by simp) (by simp), h.disk.keptNew k, h.sep, h.lf, fun j hj => ⟨(h.lb j hj).1, by have := (h.lb j hj).2; have := k.size; omega⟩, h.lp, h.kp.trans k (by simp)⟩
theorem LD.own {w0 w : World} {p dp mb : Nat} {xs : List Ent} {d : Dk} {nm : List UInt8} {B : Nat → Prop} {v : Value} {L : List (List UInt8)} {sz : Int} (h : LD w0 w p dp mb xs d nm B v L sz) : ∀ k ∈ p :: own v ++ foot dp mb xs, w0.heap.size ≤ k := fun k hk => by
  simp only [List.cons_append, List.mem_cons, List.mem_append] at hk
  rcases hk with rfl | hk | hk
  · exact h.lp
  · exact (h.lb k (h.log.row.from k hk)).1
  · exact h.lf k hk
/-- Append, of such. -/
def AppLD (w0 : World) (p dp mb : Nat) (xs : List Ent) (d : Dk) (nm : List UInt8) (B : Nat → Prop) (v : Value) (L : List (List UInt8)) (sz : Int) (R : List (List UInt8)) (w : World) (e : Ending) (w' : World) : Prop :=
  e = .returned (.int .i64 (appQ d nm R).2) ∧ ∃ xs', Kp (p :: own v ++ foot dp mb xs) w w' ∧ ((appQ d nm R).2 ≠ 0 → LD w0 w' p dp mb xs' (appQ d nm R).1 nm B v L sz) ∧ ((appQ d nm R).2 = 0 → ∃ v' B', LD w0 w' p dp mb xs' (appQ d nm R).1 nm B' v' (L ++ R) (sz + appS R))
theorem LD.app {w0 w : World} {p dp mb : Nat} {xs : List Ent} {d : Dk} {nm : List UInt8} {B : Nat → Prop} {v : Value} {L : List (List UInt8)} {sz : Int} (h : LD w0 w p dp mb xs d nm B v L sz)
    (hs : d.steps < 7000000000000000000) (hN : d.files.length < 7000000000000000000) (hB : Small d) (hk : nm.length ≤ maxLen) (hfl : (fileOf d.files nm).bytes.length ≤ 140737400000000) (hLl : L.length ≤ 900000000000) (hsz : 0 ≤ sz ∧ sz ≤ 8000000000000000000)
    (a : Option Addr) (c : Nat) (R : List Bs) (hR : ArgQ w a R (fun k => k ∈ foot dp mb xs ∨ k = p ∨ B k)) (hTb : Tab w0) :
    Calls Tryd.prog 18 #[.pointer (some ⟨p, 0, none⟩), .slice a R.length c] w (AppLD w0 p dp mb xs d nm B v L sz (bsl R) w) := by
  have h00 := hTb.1
  refine (cAppendL h.log h.disk h.sep (fun k hk => (h.lb k hk).2) hs hN hB hk hfl hLl hsz a c R hR (hTb.kept h.kp (by simp)) ⟨fun hm => by have := h.lf 0 hm; omega, by have := h.lp; omega, fun hb => by have := (h.lb 0 hb).1; omega⟩).mono ?_
  rintro e w' ⟨he, xs', hD', k', hf', h1, h2⟩
  have kw : Kp [] w0 w' := h.kp.trans k' (fun x hx => .inr (h.own x hx))
  have hz := h.kp.size
  have hz' := k'.size
  have hlf : ∀ k ∈ foot dp mb xs', w0.heap.size ≤ k := fun k hk => by rcases hf' k hk with hh | hh; exact h.lf k hh; omega
  refine ⟨he, xs', k', fun hne => ?_, fun h0 => ?_⟩
  · obtain ⟨hl, hsp⟩ := h1 hne
    exact ⟨hl, hD', hsp, hlf, fun k hk => ⟨(h.lb k hk).1, by have := (h.lb k hk).2; omega⟩, h.lp, kw⟩
  · obtain ⟨v', B', hl, hb, hsp⟩ := h2 h0
    exact ⟨v', B', hl, hD', hsp, hlf, fun k hk => by rcases hb k hk with hh | hh; exact ⟨(h.lb k hh).1, by have := (h.lb k hh).2; omega⟩; exact ⟨by omega, hh.2⟩, h.lp, kw⟩
theorem LD.ofOpn {w0 w w' : World} {dp mb : Nat} {xs : List Ent} {r : Dk × Int} {nm : List UInt8} {L : List (List UInt8)} {sz : Int} {e : Ending} (h : OpnP dp mb xs r nm L sz w e w') (h0 : r.2 = 0) (hk : Kp [] w0 w) (hf : ∀ k ∈ foot dp mb xs, w0.heap.size ≤ k) :
    ∃ p v B xs', e = .returned (.tuple #[.pointer (some ⟨p, 0, none⟩), .int .i64 r.2]) ∧ LD w0 w' p dp mb xs' r.1 nm B v L sz ∧ Mv (foot dp mb xs) w (foot dp mb xs') w' ∧ w.heap.size ≤ p := by
  obtain ⟨v0, xs', he, hD', m, _, h2⟩ := h
  obtain ⟨p, v, B, rfl, hl, hp, hb, hsp⟩ := h2 h0
  have hz := hk.size
  refine ⟨p, v, B, xs', he, ⟨hl, hD', hsp, fun k hk' => ?_, fun k hk' => ⟨by have := (hb k hk').1; omega, (hb k hk').2⟩, by omega, hk.trans m.kp (fun x hx => .inr (hf x hx))⟩, m, hp⟩
  rcases m.new k hk' with h | h
  · exact hf k h
  · omega
theorem bsCs : ∀ l : List Bs, BsE.cs l = l.map fun y => .slice y.a y.bs.length y.c
  | [] => rfl
  | x :: l => by rw [El.cs_cons, bsCs l]; rfl
/-- New slices of slices. -/
theorem bsNew (w : World) {q : Nat} (hq : w.heap.size = q) (l : List Bs) (C : Array Value) (t : TypeId) (hC : C.toList = l.map fun y => .slice y.a y.bs.length y.c) : BsE.See (w.alloc (.cells C t)) (some ⟨q, 0, none⟩) l := by
  subst hq
  refine .inr ⟨w.heap.size, 0, rfl, fun j u hu => ?_⟩
  have e : (w.alloc (.cells C t)).cell? ⟨w.heap.size, 0 + j, none⟩ = _ := World.cell?_alloc_new w _ _ (0 + j)
  rw [bsCs, ← hC] at hu
  rw [e, Nat.zero_add]
  simpa using hu
end Go.Proofs.YtfpmolajpmljmaaDoor
end

section
namespace Go.Proofs.YtfpmolajpmljmaaDoor
open Go.RowKit Go.Hay
set_option linter.unusedVariables false
set_option linter.unusedSimpArgs false

theorem frm1 : frmR [[7]] = (frameB (recB [[7]]), 0) ∧ (frameB (recB [[7]])).length = 15 ∧ (recB [[7]]).length ≤ 16777216 := by
  have h : (recB [[7]]).length = 3 := by decide
  refine ⟨by unfold frmR; rw [if_pos (by omega)], by rw [frameB_length, h], by omega⟩
theorem frm2 : frmR [[8], []] = (frameB (recB [[8], []]), 0) ∧ (frameB (recB [[8], []])).length = 16 ∧ (recB [[8], []]).length ≤ 16777216 := by
  have h : (recB [[8], []]).length = 4 := by decide
  refine ⟨by unfold frmR; rw [if_pos (by omega)], by rw [frameB_length, h], by omega⟩
theorem rn : nameOk [114] = true := by decide
theorem av2 : appQ (oneD 1000 2 [114] [] 0) [114] [[7]] = (oneD 1000 4 [114] (frameB (recB [[7]])) 15, 0) := by
  unfold appQ
  rw [if_neg (by simp), frm1.1, if_neg (by simp), write_one _ _ _ _ _ _ rn (by rw [frm1.2.1]; simp), List.nil_append, frm1.2.1]
theorem av3 : appQ (oneD 1000 4 [114] (frameB (recB [[7]])) 15) [114] [[8], []] = (oneD 1000 6 [114] (frameB (recB [[7]]) ++ frameB (recB [[8], []])) 31, 0) := by
  unfold appQ
  rw [if_neg (by simp), frm2.1, if_neg (by simp), write_one _ _ _ _ _ _ rn (by rw [frm1.2.1, frm2.2.1]; omega), List.length_append, frm1.2.1, frm2.2.1]
theorem av4 : rdQ (frameB (recB [[7]]) ++ frameB (recB [[8], []])) = ([[7], [8], []], 31, 0) := by
  rw [rdQ_frame _ frm1.2.2]
  have h := rdQ_frame _ frm2.2.2 []
  rw [List.append_nil] at h
  rw [h, rdQ_nil, frm1.2.1, frm2.2.1]
  rfl
theorem av5 : openD rdQ (oneD 1000 6 [114] (frameB (recB [[7]]) ++ frameB (recB [[8], []])) 31) [114] = (oneD 1000 7 [114] (frameB (recB [[7]]) ++ frameB (recB [[8], []])) 31, 0) := by
  have hl : (frameB (recB [[7]]) ++ frameB (recB [[8], []])).length = 31 := by rw [List.length_append, frm1.2.1, frm2.2.1]
  rw [open_one rdQ _ _ _ _ _ (by rw [av4]) (by rw [av4, hl]), hl]
theorem asz1 : appS [[7]] = 15 := by unfold appS; rw [if_neg (by simp), frm1.1, frm1.2.1]; rfl
theorem asz2 : appS [[8], []] = 16 := by unfold appS; rw [if_neg (by simp), frm2.1, frm2.2.1]; rfl
set_option maxHeartbeats 16000000 in
set_option maxRecDepth 100000 in
theorem cAliveQ (w : World) (ht : Tab w) : Calls Tryd.prog 12 #[] w fun e w' => e = .returned (.bool true) ∧ Kp [] w w' := by
  have ht' := hid ht
  have aN := hid (cNew 1000 w (by omega))
  clear ht
  go_enter Tryd.func12, Tryd.ntmps12
  go_wp2_with fail
  refine aN.out.mono ?_
  rintro e w1 ⟨dp, mb, rfl, hD1, k1, hdp, hmb⟩
  have hf1 : ∀ k ∈ foot dp mb [], w.heap.size ≤ k := fun k hk => by simp [foot] at hk; rcases hk with rfl | rfl <;> assumption
  have aC := hid (cCreate hD1 (by simp [newD]) (by simp [newD]) (by intro f hf; simp [newD] at hf) [114] (by unfold maxLen; simp))
  have ec : createD (newD 1000) [114] = (oneD 1000 2 [114] [] 0, 0) := create_new 1000 [114] rn
  rw [ec] at aC
  have H1 := hid (And.intro k1 hf1)
  clear aN hD1 k1 hf1 ec
  go_wp2_with fail
  refine aC.out.mono ?_
  intro e w2 hO
  obtain ⟨p, v, B, xs, rfl, hLD, _, _⟩ := LD.ofOpn (w0 := w) hO rfl H1.out.1 H1.out.2
  dsimp only at hLD ⊢
  -- the first record
  obtain ⟨y1, hy1⟩ : ∃ y, w2.alloc (.cells #[.int .u8 7] 5) = y := ⟨_, rfl⟩
  obtain ⟨q1, hq1⟩ : ∃ q, w2.heap.size = q := ⟨_, rfl⟩
  obtain ⟨y2, hy2⟩ : ∃ y, y1.alloc (.cells #[.slice (some ⟨q1, 0, none⟩) 1 1] 22) = y := ⟨_, rfl⟩
  obtain ⟨q2, hq2⟩ : ∃ q, y1.heap.size = q := ⟨_, rfl⟩
  have ky1 : Kp [] w2 y1 := by rw [← hy1]; exact (Kp.refl _ _).alloc _
  have ky2 : Kp [] y1 y2 := by rw [← hy2]; exact (Kp.refl _ _).alloc _
  have s1 : Sees y1 (some ⟨q1, 0, none⟩) [7] := by rw [← hy1, ← hq1]; exact Sees.new w2 _ _ (0, 0) _ rfl
  have s2 : BsE.See y2 (some ⟨q2, 0, none⟩) [⟨some ⟨q1, 0, none⟩, 1, [7]⟩] := by rw [← hy2]; exact bsNew y1 hq2 _ _ _ rfl
  have hz12 : w2.heap.size + 1 = y1.heap.size := by rw [← hy1]; simp
  have hLy := (hLD.keep ky1).keep ky2
  have hA1 : ArgQ y2 (some ⟨q2, 0, none⟩) [⟨some ⟨q1, 0, none⟩, 1, [7]⟩] (fun k => k ∈ foot dp mb xs ∨ k = p ∨ B k) := by
    have hno : ∀ k, w2.heap.size ≤ k → ¬ (k ∈ foot dp mb xs ∨ k = p ∨ B k) := fun k hk h => by
      rcases h with h | h | h
      · have := hLD.disk.lt k h; omega
      · have := hLD.log.box.lt; omega
      · have := (hLD.lb k h).2; omega
    refine ⟨s2, fun y hy => ?_, fun _ k hk => ?_, fun y hy _ k hk => ?_, by simp, fun y hy => ?_⟩
    · simp at hy; subst hy; exact ⟨s1.kept ky2 (by simp), by simp, fun h => by cases h⟩
    · simp [blk] at hk; subst hk; exact hno _ (by omega)
    · simp at hy; subst hy; simp [blk] at hk; subst hk; exact hno _ (by omega)
    · simp at hy; subst hy; simp
  have aA : Hid (Calls Tryd.prog 18 #[.pointer (some ⟨p, 0, none⟩), .slice (some ⟨q2, 0, none⟩) 1 1] y2 (AppLD w p dp mb xs (oneD 1000 2 [114] [] 0) [114] B v [] 0 [[7]] y2)) := hLy.app (by simp [oneD]) (by simp [oneD]) (small_one (by simp)) (by unfold maxLen; simp) (by rw [file_one]; simp) (by simp) (by omega) (some ⟨q2, 0, none⟩) 1 _ hA1 ht'.out
  unfold AppLD at aA
  rw [av2, asz1] at aA
  dsimp only at aA
  clear aC hO hLD ky1 ky2 s1 s2 hA1 hLy H1
  go_wp2_with fail
  refine aA.out.mono ?_
  rintro e w3 ⟨rfl, xs3, _, _, h3⟩
  obtain ⟨v3, B3, hL3⟩ := h3 (by trivial)
  -- two more
  obtain ⟨y3, hy3⟩ : ∃ y, w3.alloc (.cells #[.int .u8 8] 5) = y := ⟨_, rfl⟩
  obtain ⟨q3, hq3⟩ : ∃ q, w3.heap.size = q := ⟨_, rfl⟩
  obtain ⟨y4, hy4⟩ : ∃ y, y3.alloc (.cells #[.slice (some ⟨q3, 0, none⟩) 1 1, .slice none 0 0] 22) = y := ⟨_, rfl⟩
  obtain ⟨q4, hq4⟩ : ∃ q, y3.heap.size = q := ⟨_, rfl⟩
  have ky3 : Kp [] w3 y3 := by rw [← hy3]; exact (Kp.refl _ _).alloc _
  have ky4 : Kp [] y3 y4 := by rw [← hy4]; exact (Kp.refl _ _).alloc _
  have s3 : Sees y3 (some ⟨q3, 0, none⟩) [8] := by rw [← hy3, ← hq3]; exact Sees.new w3 _ _ (0, 0) _ rfl
  have s4 : BsE.See y4 (some ⟨q4, 0, none⟩) [⟨some ⟨q3, 0, none⟩, 1, [8]⟩, ⟨none, 0, []⟩] := by rw [← hy4]; exact bsNew y3 hq4 _ _ _ rfl
  have hz34 : w3.heap.size + 1 = y3.heap.size := by rw [← hy3]; simp
  have hLy := (hL3.keep ky3).keep ky4
  have hA2 : ArgQ y4 (some ⟨q4, 0, none⟩) [⟨some ⟨q3, 0, none⟩, 1, [8]⟩, ⟨none, 0, []⟩] (fun k => k ∈ foot dp mb xs3 ∨ k = p ∨ B3 k) := by
    have hno : ∀ k, w3.heap.size ≤ k → ¬ (k ∈ foot dp mb xs3 ∨ k = p ∨ B3 k) := fun k hk h => by
      rcases h with h | h | h
      · have := hL3.disk.lt k h; omega
      · have := hL3.log.box.lt; omega
      · have := (hL3.lb k h).2; omega
    refine ⟨s4, fun y hy => ?_, fun _ k hk => ?_, fun y hy hb k hk => ?_, by simp, fun y hy => ?_⟩
    · simp at hy
      rcases hy with rfl | rfl
      · exact ⟨s3.kept ky4 (by simp), by simp, fun h => by cases h⟩
      · exact ⟨Sees.nil _ _, by simp, fun _ => rfl⟩
    · simp [blk] at hk; subst hk; exact hno _ (by omega)
    · simp at hy
      rcases hy with rfl | rfl
      · simp [blk] at hk; subst hk; exact hno _ (by omega)
      · exact absurd rfl hb
    · simp at hy
      rcases hy with rfl | rfl <;> simp
  have l15 := frm1.2.1
  have l31 : (frameB (recB [[7]]) ++ frameB (recB [[8], []])).length = 31 := by rw [List.length_append, frm1.2.1, frm2.2.1]
  have aB : Hid (Calls Tryd.prog 18 #[.pointer (some ⟨p, 0, none⟩), .slice (some ⟨q4, 0, none⟩) 2 2] y4 (AppLD w p dp mb xs3 (oneD 1000 4 [114] (frameB (recB [[7]])) 15) [114] B3 v3 ([] ++ [[7]]) (0 + 15) [[8], []] y4)) := hLy.app (by simp [oneD]) (by simp [oneD]) (small_one (by rw [l15]; omega)) (by unfold maxLen; simp) (by rw [file_one]; simp [l15]) (by simp) (by omega) (some ⟨q4, 0, none⟩) 2 _ hA2 ht'.out
  unfold AppLD at aB
  rw [av3, asz2] at aB
  dsimp only at aB
  clear aA h3 hL3 ky3 ky4 s3 s4 hA2 hLy hy1 hy2 hq1 hq2 hz12
  go_wp2_with fail
  refine aB.out.mono ?_
  rintro e w5 ⟨rfl, xs5, _, _, h5⟩
  obtain ⟨v5, B5, hL5⟩ := h5 (by trivial)
  have aO := hid (cOpen hL5.disk (by simp [oneD]) (small_one (by rw [l31]; omega)) [114] (by unfold maxLen; simp) (ht'.out.kept hL5.kp (by simp)) (by rw [file_one, l31]; omega))
  rw [file_one, av4, av5] at aO
  dsimp only at aO
  have HL5 := hid hL5
  clear aB h5 hL5 hy3 hy4 hq3 hq4 hz34 l15 l31
  go_wp2_with fail
  refine aO.out.mono ?_
  intro e w6 hO6
  obtain ⟨p6, v6, B6, xs6, rfl, hL6, m6, hp6⟩ := LD.ofOpn (w0 := w) hO6 rfl HL5.out.kp HL5.out.lf
  dsimp only at hL6 ⊢
  have hLl : Log w6 p dp [114] B5 v5 ([] ++ [[7]] ++ [[8], []]) (0 + 15 + 16) := HL5.out.log.kept m6.kp (fun hm => (HL5.out.sep p hm).2 rfl) (fun k hk => (HL5.out.sep k hk).1)
  have n1 := hid (cLenQ hL6.log)
  have n2 := hid (cSizeQ hL6.log)
  have n3 := hid (cLenQ hLl)
  have n4 := hid (cGoneQ hL6.log (by simp) (by intro x hx; simp at hx; rcases hx with rfl | rfl | rfl <;> simp))
  have HL6 := hid hL6.kp
  clear aO hO6 hL6 m6 hLl HL5
  go_wp2_with fail
  refine n1.out.mono ?_
  rintro e w6 ⟨rfl, rfl⟩
  clear n1
  go_wp2_with fail
  refine n2.out.mono ?_
  rintro e w6 ⟨rfl, rfl⟩
  clear n2
  go_wp2_with fail
  refine n3.out.mono ?_
  rintro e w6 ⟨rfl, rfl⟩
  clear n3
  go_wp2_with fail
  refine n4.out.mono ?_
  rintro e w7 ⟨v7, rfl, hr7, k7⟩
  obtain ⟨a7, c7, l7, rfl, hs7, ho7, hb7⟩ := hr7.bs
  obtain ⟨z1, hz1⟩ : ∃ y, w7.alloc (.cells #[.int .u8 7] 5) = y := ⟨_, rfl⟩
  obtain ⟨r1, hr1⟩ : ∃ q, w7.heap.size = q := ⟨_, rfl⟩
  obtain ⟨z2, hz2⟩ : ∃ y, z1.alloc (.cells #[.int .u8 8] 5) = y := ⟨_, rfl⟩
  obtain ⟨r2, hr2⟩ : ∃ q, z1.heap.size = q := ⟨_, rfl⟩
  obtain ⟨z3, hz3⟩ : ∃ y, z2.alloc (.cells #[.slice (some ⟨r1, 0, none⟩) 1 1, .slice (some ⟨r2, 0, none⟩) 1 1, .slice none 0 0] 22) = y := ⟨_, rfl⟩
  obtain ⟨r3, hr3⟩ : ∃ q, z2.heap.size = q := ⟨_, rfl⟩
  have kz1 : Kp [] w7 z1 := by rw [← hz1]; exact (Kp.refl _ _).alloc _
  have kz2 : Kp [] z1 z2 := by rw [← hz2]; exact (Kp.refl _ _).alloc _
  have kz3 : Kp [] z2 z3 := by rw [← hz3]; exact (Kp.refl _ _).alloc _
  have kz := (kz1.trans kz2 (by simp)).trans kz3 (by simp)
  have t1 : Sees z1 (some ⟨r1, 0, none⟩) [7] := by rw [← hz1, ← hr1]; exact Sees.new w7 _ _ (0, 0) _ rfl
  have t2 : Sees z2 (some ⟨r2, 0, none⟩) [8] := by rw [← hz2, ← hr2]; exact Sees.new z1 _ _ (0, 0) _ rfl
  have t3 : BsE.See z3 (some ⟨r3, 0, none⟩) [⟨some ⟨r1, 0, none⟩, 1, [7]⟩, ⟨some ⟨r2, 0, none⟩, 1, [8]⟩, ⟨none, 0, []⟩] := by rw [← hz3]; exact bsNew z2 hr3 _ _ _ rfl
  have hl7 : l7.length = 3 := by have := congrArg List.length hb7; rw [bsl_len] at this; simpa using this
  have aS := cSameQ a7 (some ⟨r3, 0, none⟩) c7 3 l7 [⟨some ⟨r1, 0, none⟩, 1, [7]⟩, ⟨some ⟨r2, 0, none⟩, 1, [8]⟩, ⟨none, 0, []⟩] z3 (hs7.keptNew kz) t3 (fun y hy => ((ho7 y hy).1.keptNew kz)) (fun y hy => by
    simp at hy
    rcases hy with rfl | rfl | rfl
    · exact ⟨(t1.kept kz2 (by simp)).kept kz3 (by simp), by simp, fun h => by cases h⟩
    · exact ⟨t2.kept kz3 (by simp), by simp, fun h => by cases h⟩
    · exact ⟨Sees.nil _ _, by simp, fun _ => rfl⟩) (by omega) (by simp)
  rw [hb7, show decide (([[7], [8], []] : List (List UInt8)) = bsl [⟨some ⟨r1, 0, none⟩, 1, [7]⟩, ⟨some ⟨r2, 0, none⟩, 1, [8]⟩, ⟨none, 0, []⟩]) = true from rfl] at aS
  simp only [List.length_cons, List.length_nil, Nat.reduceAdd] at aS
  rw [hl7] at aS
  have HS := hid aS
  have HK := hid ((HL6.out.trans k7 (by simp)).trans kz (by simp))
  clear n4 hr7 k7 hs7 ho7 hb7 kz1 kz2 kz3 kz t1 t2 t3 aS HL6
  go_wp2_with fail
  refine HS.out.mono ?_
  rintro e w9 ⟨rfl, k9⟩
  have HK9 := hid (HK.out.trans k9 (by simp))
  clear HS HK k9
  go_wp2_with fail
  go_ret
  exact ⟨rfl, HK9.out⟩
end Go.Proofs.YtfpmolajpmljmaaDoor
end

section
namespace Go.Proofs.YtfpmolajpmljmaaDoor
open Go.ChangeShapes Go.WideShapes Go.ChangeAt Go.RowKit Go.Hay
set_option linter.unusedVariables false
theorem Tryd.bytesB : Tryd.prog.bytesOf 5 = 1 := by kernel_rfl
theorem Tryd.cellsB : Tryd.prog.cellsOf 5 = 1 := by kernel_rfl
theorem openBytes {H : Type} {enc : TypeId × Value → H} {W : World} {a : Option Addr} {len cap : Nat} {d : DataW H} {ps : List MemPlace}
    (h : DataW.Trod enc Tryd.prog W 0 (fun _ => true) true 22 (.slice a len cap) d ps) : ∃ bs : List UInt8, len = bs.length ∧ Sees W a bs ∧ bs.length ≤ cap ∧ cap ≤ maxLen ∧ capD d = cap := by
  obtain ⟨fuel, hf⟩ := h
  rcases open_ints Tryd.underlying22 Tryd.underlying5 Tryd.cellsB hf with ⟨hcs, hx⟩ | ⟨x, l, c, zs, hcs, _, hl, hm, hz, hx, hcell, hwz⟩
  · simp [Value.cells] at hcs
    obtain ⟨rfl, rfl, rfl⟩ := hcs
    cases hx
    exact ⟨[], rfl, Sees.nil _ _, Nat.le_refl _, Nat.zero_le _, rfl⟩
  · simp [Value.cells] at hcs
    obtain ⟨rfl, rfl, rfl⟩ := hcs
    cases hx
    have hz' : zs.length = cap := by simpa using hz
    refine ⟨(zs.take len).map octet, by simp; omega, ?_, by simp; omega, hm, by simp [capD, lits]; omega⟩
    cases hlen : len with
    | zero => exact .inl (by simp)
    | succ n =>
      obtain ⟨b, off, spot⟩ := x
      have hc0 := hcell 0 (by omega)
      have hspot : spot = none := by simpa [Addr.add] using World.cell?_spot hc0
      subst hspot
      refine .inr ⟨b, off, rfl, fun j u hu => ?_⟩
      rw [List.getElem?_map, List.getElem?_take] at hu
      split at hu
      · rename_i hj
        have hjz : j < zs.length := by omega
        have hc := hcell j hjz
        rw [List.getElem?_eq_getElem hjz] at hu
        cases hu
        have hw := hwz zs[j] (List.getElem_mem hjz)
        have hbd := bounds_u8 hw
        rw [octet_toNat _ hbd.1 hbd.2, ← Addr.add_lit, hc]
        simp [List.getD, List.getElem?_eq_getElem hjz]
      · cases hu

/-- The form's own reach, of a slice of bytes among the arguments. -/
theorem reachBytesOf {H : Type} {d : DataW H} (h : (DataW.weights Tryd.prog 22 d).all (· ≤ reachBytes) = true) : capD d ≤ 140737488351232 := by
  cases d with
  | slice e sp =>
    have h2 : (e.length + sp.length) * Tryd.prog.bytesOf 5 ≤ reachBytes := of_decide_eq_true (List.all_eq_true.1 h ((e.length + sp.length) * Tryd.prog.bytesOf 5) (by simp [DataW.weights, Tryd.underlying22]))
    rw [Tryd.bytesB] at h2
    simp only [reachBytes] at h2
    simp only [capD]
    omega
  | _ => simp [capD]
theorem gTab : Tryd.prog.globalNamed "hayloft/codec.nibbleSums" = some 0 := by kernel_rfl
theorem gTabType : (Tryd.prog.globals[0]?).map (·.type) = some 120 := by kernel_rfl
theorem cellsTab : Tryd.prog.cellsOf 120 = 16 := by kernel_rfl
theorem cellsW : Tryd.prog.cellsOf 90 = 1 := by kernel_rfl

theorem table {W : World} (h : laidMetH Tryd.prog [("hayloft/codec.nibbleSums", Rows.laid_hayloft_codec_nibbleSums)] W) : Tab W := by
  have ht : Lib.TabIs Tryd.prog W "hayloft/codec.nibbleSums" .u32 [0, 498536548, 997073096, 651767980, 1994146192, 1802195444, 1303535960, 1342533948, 3988292384, 4027552580, 3604390888, 3412177804, 2607071920, 2262029012, 2685067896, 3183342108] :=
    Lib.tabIs_of_head (rest := []) gTab gTabType Tryd.underlying120 Tryd.underlying90 cellsW cellsTab h
  have hc : ∀ d, d < 16 → W.cell? ⟨0, d, none⟩ = some (.int .u32 (crcTab.getD d 0)) := by
    intro d hd
    match d, hd with
    | 0, _ => exact ht.cell gTab 0 (by decide)
    | 1, _ => exact ht.cell gTab 1 (by decide)
    | 2, _ => exact ht.cell gTab 2 (by decide)
    | 3, _ => exact ht.cell gTab 3 (by decide)
    | 4, _ => exact ht.cell gTab 4 (by decide)
    | 5, _ => exact ht.cell gTab 5 (by decide)
    | 6, _ => exact ht.cell gTab 6 (by decide)
    | 7, _ => exact ht.cell gTab 7 (by decide)
    | 8, _ => exact ht.cell gTab 8 (by decide)
    | 9, _ => exact ht.cell gTab 9 (by decide)
    | 10, _ => exact ht.cell gTab 10 (by decide)
    | 11, _ => exact ht.cell gTab 11 (by decide)
    | 12, _ => exact ht.cell gTab 12 (by decide)
    | 13, _ => exact ht.cell gTab 13 (by decide)
    | 14, _ => exact ht.cell gTab 14 (by decide)
    | 15, _ => exact ht.cell gTab 15 (by decide)
    | d + 16, h => omega
  exact ⟨World.block_lt_of_cell? _ _ (hc 0 (by omega)), hc⟩

/-- The block of the table, as its initialiser lays it. -/
def tabCells : Array Value := #[.int .u32 0, .int .u32 498536548, .int .u32 997073096, .int .u32 651767980, .int .u32 1994146192, .int .u32 1802195444, .int .u32 1303535960, .int .u32 1342533948, .int .u32 3988292384, .int .u32 4027552580, .int .u32 3604390888, .int .u32 3412177804, .int .u32 2607071920, .int .u32 2262029012, .int .u32 2685067896, .int .u32 3183342108]
theorem one_of {l : List Value} (h : l.length = 1) : ∃ v, l = [v] := by
  match l, h with
  | [v], _ => exact ⟨v, rfl⟩
section
variable {H : Type} {enc : TypeId × Value → H} {W : World} {a : Option Addr} {len cap : Nat} {d : DataW H} {ps : List MemPlace}
theorem openBlists (h : DataW.Trod enc Tryd.prog W 0 (fun _ => true) true 23 (.slice a len cap) d ps) :
    ∃ l : List Bs, len = l.length ∧ BsE.See W a l ∧ (∀ y ∈ l, y.ok W) ∧ l.length ≤ cap ∧ cap ≤ maxLen ∧ (a = none → cap = 0) ∧ (Fit 23 d → cap * 24 ≤ 140737488351232 ∧ ∀ y ∈ l, Few y) ∧ (l.map fun y => y.bs.length + 1).sum ≤ Rows.uptoBulk d ∧ cap + 1 ≤ Rows.uptoBulk d :=
  openEls BsE Tryd.underlying23 cellsS 24 bytesS (fun y => y.ok W) Few (fun y => y.bs.length + 1) (fun fuel cs x hx hcs => by
    obtain ⟨v, rfl⟩ := one_of hcs
    obtain ⟨y, h1, h2, h3, h4⟩ := openByt hx
    exact ⟨y, h1, by rw [h2]; rfl, h3, h4⟩) h
end
end Go.Proofs.YtfpmolajpmljmaaDoor
end

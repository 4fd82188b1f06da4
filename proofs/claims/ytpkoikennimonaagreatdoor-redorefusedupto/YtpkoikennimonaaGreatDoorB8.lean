/- How a disk lies in memory: its own block, the map of its files, the files' blocks and their rows of bytes. Rows of bytes of the calls' own: appends, cuts, copies; a disk's file changed in its place. The disk's small calls: New, Dead, Steps, Arm, step, Read. Is a text a file's name? The program's answer, the reference's. Read; Sync, Truncate, Flip, Append, Remove, Rename, Wipe: the disk's calls on files. A disk's files changed: one in its place, one more, one less, one renamed. Sync, Truncate, Rename, Remove. Rename, Remove. Wipe, Flip. -/
import Derived.Test.YtpkoikennimonaaGreatDoorRows
import Derived.Test.YtpkoikennimonaaGreatDoorB7
import Derived.Maps.OwnSet
import Derived.Maps.RangeWalk
import Derived.Handy
import Derived.StringKeys
import Derived.BigQuiet
import Derived.Deep.QuietTactic
import Derived.Laws.Cover3
import Derived.Carry
import Derived.RegionTactic
import Derived.BigRegion
import Derived.Laws.BitsAllLaws
section
namespace Go.Proofs.YtpkoikennimonaaGreatDoor
open Go.RowKit Go.Hay Go.Maps
set_option linter.unusedVariables false
set_option linter.unusedSimpArgs false

/-- A disk's own block. -/
structure Hd (w : World) (p : Nat) (room : Int) (mb : Nat) (steps left : Int) (dead : Bool) : Prop where
  c0 : w.cell? ⟨p, 0, none⟩ = some (.int .i64 room)
  c1 : w.cell? ⟨p, 1, none⟩ = some (.map (some mb))
  c2 : w.cell? ⟨p, 2, none⟩ = some (.int .i64 steps)
  c3 : w.cell? ⟨p, 3, none⟩ = some (.int .i64 left)
  c4 : w.cell? ⟨p, 4, none⟩ = some (.bool dead)
  free : ∀ j, w.frozen? ⟨p, j, none⟩ = false
section
variable {w w' : World} {p mb : Nat} {room steps left : Int} {dead : Bool}
theorem Hd.lt (h : Hd w p room mb steps left dead) : p < w.heap.size := World.block_lt_of_cell? _ _ h.c0
theorem Hd.kept {S : List Nat} (h : Hd w p room mb steps left dead) (hk : Kp S w w') (hp : p ∉ S) : Hd w' p room mb steps left dead :=
  ⟨(hk.cell (p := ⟨p, 0, none⟩) h.lt hp).trans h.c0, (hk.cell (p := ⟨p, 1, none⟩) h.lt hp).trans h.c1, (hk.cell (p := ⟨p, 2, none⟩) h.lt hp).trans h.c2, (hk.cell (p := ⟨p, 3, none⟩) h.lt hp).trans h.c3, (hk.cell (p := ⟨p, 4, none⟩) h.lt hp).trans h.c4, fun j => (hk.frozen (p := ⟨p, j, none⟩) h.lt hp).trans (h.free j)⟩
theorem off_ne {p i j : Nat} (h : i ≠ j) : (⟨p, i, none⟩ : Addr) ≠ ⟨p, j, none⟩ := fun e => h (by injection e)
theorem setCell_off {w : World} {p i j : Nat} (h : i ≠ j) (v : Value) : (w.setCell ⟨p, j, none⟩ v).cell? ⟨p, i, none⟩ = w.cell? ⟨p, i, none⟩ := World.cell?_setCell_other _ _ _ _ (off_ne (Ne.symm h))
theorem Hd.set2 (h : Hd w p room mb steps left dead) (s : Int) : Hd (w.setCell ⟨p, 2, none⟩ (.int .i64 s)) p room mb s left dead :=
  ⟨(setCell_off (by decide) _).trans h.c0, (setCell_off (by decide) _).trans h.c1, World.cell?_setCell_same _ _ _ h.c2, (setCell_off (by decide) _).trans h.c3, (setCell_off (by decide) _).trans h.c4, fun j => (World.frozen?_setCell _ _ _ _).trans (h.free j)⟩
theorem Hd.set3 (h : Hd w p room mb steps left dead) (s : Int) : Hd (w.setCell ⟨p, 3, none⟩ (.int .i64 s)) p room mb steps s dead :=
  ⟨(setCell_off (by decide) _).trans h.c0, (setCell_off (by decide) _).trans h.c1, (setCell_off (by decide) _).trans h.c2, World.cell?_setCell_same _ _ _ h.c3, (setCell_off (by decide) _).trans h.c4, fun j => (World.frozen?_setCell _ _ _ _).trans (h.free j)⟩
theorem Hd.set4 (h : Hd w p room mb steps left dead) (s : Bool) : Hd (w.setCell ⟨p, 4, none⟩ (.bool s)) p room mb steps left s :=
  ⟨(setCell_off (by decide) _).trans h.c0, (setCell_off (by decide) _).trans h.c1, (setCell_off (by decide) _).trans h.c2, (setCell_off (by decide) _).trans h.c3, World.cell?_setCell_same _ _ _ h.c4, fun j => (World.frozen?_setCell _ _ _ _).trans (h.free j)⟩
theorem Hd.set1 (h : Hd w p room mb steps left dead) (m : Nat) : Hd (w.setCell ⟨p, 1, none⟩ (.map (some m))) p room m steps left dead :=
  ⟨(setCell_off (by decide) _).trans h.c0, World.cell?_setCell_same _ _ _ h.c1, (setCell_off (by decide) _).trans h.c2, (setCell_off (by decide) _).trans h.c3, (setCell_off (by decide) _).trans h.c4, fun j => (World.frozen?_setCell _ _ _ _).trans (h.free j)⟩
theorem Hd.new (w : World) (t : TypeId) : Hd (w.alloc (.cells #[.int .i64 room, .map (some mb), .int .i64 steps, .int .i64 left, .bool dead] t)) w.heap.size room mb steps left dead :=
  ⟨World.cell?_alloc_new w _ _ 0, World.cell?_alloc_new w _ _ 1, World.cell?_alloc_new w _ _ 2, World.cell?_alloc_new w _ _ 3, World.cell?_alloc_new w _ _ 4, fun j => World.frozen?_alloc_new w _ _ j⟩
theorem Hd.at (q : Nat) (hq : w.heap.size = q) (t : TypeId) : Hd (w.alloc (.cells #[.int .i64 room, .map (some mb), .int .i64 steps, .int .i64 left, .bool dead] t)) q room mb steps left dead := by subst hq; exact Hd.new w t
end

/-- A file's own block. -/
structure Fx (w : World) (b : Nat) (v : Value) (last : Int) : Prop where
  c0 : w.cell? ⟨b, 0, none⟩ = some v
  c1 : w.cell? ⟨b, 1, none⟩ = some (.int .i64 last)
  free : ∀ j, w.frozen? ⟨b, j, none⟩ = false
section
variable {w w' : World} {b : Nat} {v : Value} {last : Int}
theorem Fx.lt (h : Fx w b v last) : b < w.heap.size := World.block_lt_of_cell? _ _ h.c0
theorem Fx.kept {S : List Nat} (h : Fx w b v last) (hk : Kp S w w') (hp : b ∉ S) : Fx w' b v last :=
  ⟨(hk.cell (p := ⟨b, 0, none⟩) h.lt hp).trans h.c0, (hk.cell (p := ⟨b, 1, none⟩) h.lt hp).trans h.c1, fun j => (hk.frozen (p := ⟨b, j, none⟩) h.lt hp).trans (h.free j)⟩
theorem Fx.set0 (h : Fx w b v last) (u : Value) : Fx (w.setCell ⟨b, 0, none⟩ u) b u last :=
  ⟨World.cell?_setCell_same _ _ _ h.c0, (setCell_off (by decide) _).trans h.c1, fun j => (World.frozen?_setCell _ _ _ _).trans (h.free j)⟩
theorem Fx.set1 (h : Fx w b v last) (l : Int) : Fx (w.setCell ⟨b, 1, none⟩ (.int .i64 l)) b v l :=
  ⟨(setCell_off (by decide) _).trans h.c0, World.cell?_setCell_same _ _ _ h.c1, fun j => (World.frozen?_setCell _ _ _ _).trans (h.free j)⟩
theorem Fx.at (q : Nat) (hq : w.heap.size = q) (t : TypeId) : Fx (w.alloc (.cells #[v, .int .i64 last] t)) q v last := by
  subst hq
  exact ⟨World.cell?_alloc_new w _ _ 0, World.cell?_alloc_new w _ _ 1, fun j => World.frozen?_alloc_new w _ _ j⟩
end

/-- A file, and where it lies. -/
structure Ent where
  name : List UInt8
  blk : Nat
  v : Value
  bytes : List UInt8
  last : Nat
def Ent.fl (x : Ent) : Fl := ⟨x.name, x.bytes, x.last⟩
def Ent.foot (x : Ent) : List Nat := x.blk :: own x.v
def Ent.dat (x : Ent) : Lit × DataW Unit := (.string x.name, .lit (.int .i64 x.blk))
/-- How a pointer to a file reads: as its block's number. -/
def ptrR : Value → Option (DataW Unit × List MemPlace)
  | .pointer none => some (.nil, [])
  | .pointer (some ⟨b, 0, none⟩) => some (.lit (.int .i64 b), [])
  | _ => none
theorem ptrR_inv {v : Value} {b : Nat} {ps : List MemPlace} (h : ptrR v = some (.lit (.int .i64 b), ps)) : v = .pointer (some ⟨b, 0, none⟩) := by
  unfold ptrR at h
  split at h
  · simp at h
  · simp at h; rw [Int.ofNat_inj.1 h.1]
  · cases h
theorem ptrR_nil {v : Value} {ps : List MemPlace} (h : ptrR v = some (.nil, ps)) : v = .pointer none := by
  unfold ptrR at h
  split at h
  · rfl
  · simp at h
  · cases h

structure FileAt (w : World) (x : Ent) : Prop where
  box : Fx w x.blk x.v x.last
  row : Row w x.v x.bytes
  ap : x.blk ∉ own x.v
theorem FileAt.kept {w w' : World} {x : Ent} {S : List Nat} (h : FileAt w x) (hk : Kp S w w') (hn : ∀ k ∈ x.foot, k ∉ S) : FileAt w' x :=
  ⟨h.box.kept hk (hn _ (by simp [Ent.foot])), h.row.kept hk (fun k hk' => hn k (by simp [Ent.foot, hk'])), h.ap⟩
theorem FileAt.lt {w : World} {x : Ent} (h : FileAt w x) : ∀ k ∈ x.foot, k < w.heap.size := fun k hk => by
  rcases List.mem_cons.1 hk with rfl | hk
  · exact h.box.lt
  · exact h.row.lt k hk

def foot (p mb : Nat) (xs : List Ent) : List Nat := p :: mb :: xs.flatMap Ent.foot
theorem mem_foot {p mb k : Nat} {xs : List Ent} : k ∈ foot p mb xs ↔ k = p ∨ k = mb ∨ ∃ x ∈ xs, k ∈ x.foot := by simp [foot]
def leftOf (d : Dk) : Int := match d.arm with | none => -1 | some n => n

abbrev OwnsM (w : World) (mb : Nat) (xs : List Ent) : Prop := w.ownsMap Tryz.prog 9 ptrR mb xs.length (.map (xs.map Ent.dat))
theorem OwnsM.kept {w w' : World} {mb : Nat} {xs : List Ent} {S : List Nat} (h : OwnsM w mb xs) (hk : Kp S w w') (hn : mb ∉ S) : OwnsM w' mb xs := by
  have hlt := h.lt
  obtain ⟨es, clock, hb, F, hs, hD⟩ := h
  exact ⟨es, clock, (hk.block mb hlt hn).trans hb, F, hs, hD⟩

/-- A disk lies at p. -/
structure Disk (w : World) (p mb : Nat) (xs : List Ent) (d : Dk) : Prop where
  hd : Hd w p d.room mb d.steps (leftOf d) d.dead
  map : OwnsM w mb xs
  files : ∀ x ∈ xs, FileAt w x
  rise : riseG Ent.name xs
  pm : p ≠ mb
  px : ∀ x ∈ xs, p ∉ x.foot ∧ mb ∉ x.foot
  xy : ∀ x ∈ xs, ∀ y ∈ xs, x.name ≠ y.name → ∀ k ∈ x.foot, k ∉ y.foot
  fl : d.files = xs.map Ent.fl
  ok : Okd d
theorem Disk.lt {w : World} {p mb : Nat} {xs : List Ent} {d : Dk} (h : Disk w p mb xs d) : ∀ k ∈ foot p mb xs, k < w.heap.size := fun k hk => by
  rcases mem_foot.1 hk with rfl | rfl | ⟨x, hx, hk⟩
  · exact h.hd.lt
  · exact h.map.lt
  · exact (h.files x hx).lt k hk
theorem Disk.kept {w w' : World} {p mb : Nat} {xs : List Ent} {d : Dk} {S : List Nat} (h : Disk w p mb xs d) (hk : Kp S w w') (hn : ∀ k ∈ foot p mb xs, k ∉ S) : Disk w' p mb xs d :=
  ⟨h.hd.kept hk (hn p (mem_foot.2 (.inl rfl))), h.map.kept hk (hn mb (mem_foot.2 (.inr (.inl rfl)))), fun x hx => (h.files x hx).kept hk (fun k hk' => hn k (mem_foot.2 (.inr (.inr ⟨x, hx, hk'⟩)))), h.rise, h.pm, h.px, h.xy, h.fl, h.ok⟩
theorem Disk.keptNew {w w' : World} {p mb : Nat} {xs : List Ent} {d : Dk} (h : Disk w p mb xs d) (hk : Kp [] w w') : Disk w' p mb xs d := h.kept hk (by simp)

/-- Behind stores into the disk's own block. -/
theorem Disk.reHd {w w' : World} {p mb : Nat} {xs : List Ent} {d d' : Dk} (h : Disk w p mb xs d) (hk : Kp [p] w w') (hh : Hd w' p d'.room mb d'.steps (leftOf d') d'.dead) (hf : d'.files = d.files) (ho : Okd d') : Disk w' p mb xs d' :=
  ⟨hh, h.map.kept hk (by simpa using Ne.symm h.pm), fun x hx => (h.files x hx).kept hk (fun k hk' e => (h.px x hx).1 (by rw [List.mem_singleton] at e; rw [← e]; exact hk')), h.rise, h.pm, h.px, h.xy, hf.trans h.fl, ho⟩
theorem mvHd {w w' : World} {p mb : Nat} {xs : List Ent} (hk : Kp [p] w w') : Kp (foot p mb xs) w w' := hk.mono (fun x hx => by rw [List.mem_singleton] at hx; subst hx; exact .inl (mem_foot.2 (.inl rfl)))
/-- What a call on a disk may turn: the disk's own blocks; those behind it are these, or new. -/
structure Mv (S : List Nat) (w : World) (S' : List Nat) (w' : World) : Prop where
  kp : Kp S w w'
  new : ∀ k ∈ S', k ∈ S ∨ w.heap.size ≤ k
theorem Mv.refl (S : List Nat) (w : World) : Mv S w S w := ⟨Kp.refl _ _, fun _ h => .inl h⟩
theorem Mv.trans {S S1 S2 : List Nat} {w w1 w2 : World} (h : Mv S w S1 w1) (k : Mv S1 w1 S2 w2) : Mv S w S2 w2 :=
  ⟨h.kp.trans k.kp h.new, fun x hx => by
    rcases k.new x hx with h1 | h1
    · exact h.new x h1
    · exact .inr (Nat.le_trans h.kp.size h1)⟩
theorem Mv.ofNew {S : List Nat} {w w' : World} (h : Kp [] w w') : Mv S w S w' := ⟨h.mono (by simp), fun _ h => .inl h⟩

theorem keyedS : Keyed Tryz.prog 9 := string_keyed Tryz.underlying9
theorem keyS (k : List UInt8) (h : k.length ≤ maxLen) : keyOf Tryz.prog 9 (.string ⟨k.toArray⟩) = some (.string k) := by
  have := Go.WideMaps.keyOf_string_mk (P := Tryz.prog) (k := 9) Tryz.underlying9 (s := ⟨k.toArray⟩) (by simpa [ByteArray.size] using h)
  simpa using this

/-- The map's datum, by names. -/
theorem dat_at (xs : List Ent) (k : List UInt8) (z : DataW Unit) : DataW.atKey (.map (xs.map Ent.dat)) (.string k) z = match lookG Ent.name k xs with | some x => .lit (.int .i64 x.blk) | none => z := by
  have e : (xs.map Ent.dat).find? (fun p => p.1.sameKey (.string k)) = (lookG Ent.name k xs).map Ent.dat := by
    unfold lookG
    rw [List.find?_map]
    rfl
  unfold DataW.atKey
  simp only [e]
  cases lookG Ent.name k xs <;> rfl
theorem dat_filter (k : List UInt8) (l : List Ent) : (l.map Ent.dat).filter (fun p => !p.1.sameKey (.string k)) = (dropG Ent.name k l).map Ent.dat := by
  unfold dropG
  rw [List.filter_map]
  rfl
theorem dat_insert (e : Ent) : ∀ (l : List Ent), DataW.insert e.dat (l.map Ent.dat) = (insG Ent.name e l).map Ent.dat
  | [] => rfl
  | y :: r => by
    simp only [List.map_cons, DataW.insert, insG]
    have hb : e.dat.1.before y.dat.1 = bytesBefore e.name y.name := rfl
    rw [hb, dat_insert e r]
    split <;> rfl
theorem dat_put {xs : List Ent} (h : riseG Ent.name xs) (e : Ent) : DataW.put (.map (xs.map Ent.dat)) (.string e.name) (.lit (.int .i64 e.blk)) = .map ((putG Ent.name e false xs).map Ent.dat) := by
  unfold DataW.put
  simp only [dat_filter]
  rw [putG_ins e xs h]
  exact congrArg _ (dat_insert e _)
theorem dat_del (xs : List Ent) (k : List UInt8) : DataW.del (.map (xs.map Ent.dat)) (.string k) = .map ((dropG Ent.name k xs).map Ent.dat) := by
  unfold DataW.del
  simp only [dat_filter]
theorem dat_size (xs : List Ent) : Maps.size (DataW.map (xs.map Ent.dat)) = xs.length := by simp [Maps.size]
theorem dat_keys (xs : List Ent) : strKeys (DataW.map (xs.map Ent.dat)) = xs.map Ent.name := by
  simp [strKeys, Function.comp_def, Ent.dat, strOf]
theorem OwnsM.norm {w : World} {mb n : Nat} {xs : List Ent} (h : w.ownsMap Tryz.prog 9 ptrR mb n (.map (xs.map Ent.dat))) : OwnsM w mb xs := by
  obtain ⟨es, clock, hb, F, hs, hD⟩ := h
  refine ⟨es, clock, hb, F, ?_, hD⟩
  have := congrArg Maps.size hD
  rw [dat_size] at this
  rw [this]
  simp [Maps.size, length_sorted]
def ptrOf : Option Ent → Value
  | none => .pointer none
  | some x => .pointer (some ⟨x.blk, 0, none⟩)
theorem lookF {w : World} {mb : Nat} {xs : List Ent} (h : OwnsM w mb xs) (k : List UInt8) (hk : k.length ≤ maxLen) : (Instr.lookup 52 (.map (some mb)) (.string ⟨k.toArray⟩) false).run Tryz.prog w = .ok (ptrOf (lookG Ent.name k xs)) w := by
  obtain ⟨v, ps, hrun, hv⟩ := h.lookup keyedS Tryz.underlying52 (Tryz.zeroValue74 w) (zd := .nil) (zp := []) rfl (keyS k hk)
  rw [hrun]
  rw [dat_at] at hv
  cases hl : lookG Ent.name k xs with
  | none => rw [hl] at hv; rw [ptrR_nil hv]; rfl
  | some x => rw [hl] at hv; rw [ptrR_inv hv]; rfl
theorem lookF2 {w : World} {mb : Nat} {xs : List Ent} (h : OwnsM w mb xs) (k : List UInt8) (hk : k.length ≤ maxLen) : (Instr.lookup 52 (.map (some mb)) (.string ⟨k.toArray⟩) true).run Tryz.prog w = .ok (.tuple #[ptrOf (lookG Ent.name k xs), .bool (lookG Ent.name k xs).isSome]) w := by
  obtain ⟨v, ps, hrun, hv⟩ := h.look_ok keyedS Tryz.underlying52 (Tryz.zeroValue74 w) (zd := .nil) (zp := []) rfl (keyS k hk)
  rw [hrun]
  rw [dat_at] at hv
  have hh : Maps.has (DataW.map (xs.map Ent.dat)) (.string k) = (lookG Ent.name k xs).isSome := by
    cases hl : lookG Ent.name k xs with
    | none => exact Maps.has_false_of_atKey (fun z => by rw [dat_at, hl])
    | some x => exact Maps.has_true_of_atKey (y := .lit (.int .i64 x.blk)) (fun z => by rw [dat_at, hl])
  rw [hh]
  cases hl : lookG Ent.name k xs with
  | none => rw [hl] at hv; rw [ptrR_nil hv]; rfl
  | some x => rw [hl] at hv; rw [ptrR_inv hv]; rfl
theorem turned_kp {w w' : World} {b : Nat} (h : w.mapTurned w' b) : Kp [b] w w' :=
  (Kp.refl [b] w).grown h.grown (fun k e => by cases e; simp)
/-- 'm[k] = f'. -/
theorem storeF {w : World} {mb : Nat} {xs : List Ent} (h : OwnsM w mb xs) (hr : riseG Ent.name xs) (hn : xs.length < maxLen) (e : Ent) (he : e.name.length ≤ maxLen) :
    ∃ w', (Instr.mapUpdate 52 (.map (some mb)) (.string ⟨e.name.toArray⟩) (.pointer (some ⟨e.blk, 0, none⟩))).run Tryz.prog w = .ok () w' ∧ OwnsM w' mb (putG Ent.name e false xs) ∧ Kp [mb] w w' := by
  obtain ⟨w', hrun, hown, ht⟩ := h.store keyedS Tryz.underlying52 hn (keyS e.name he) (val := .pointer (some ⟨e.blk, 0, none⟩)) (d := .lit (.int .i64 e.blk)) (ps := []) rfl
  rw [dat_put hr] at hown
  exact ⟨w', hrun, OwnsM.norm hown, turned_kp ht⟩
/-- 'delete(m, k)'. -/
theorem dropF {w : World} {mb : Nat} {xs : List Ent} (h : OwnsM w mb xs) (k : List UInt8) (hk : k.length ≤ maxLen) (ty : TypeId) :
    ∃ w', (Builtin.delete_ #[52, 9] ty #[.map (some mb), .string ⟨k.toArray⟩]).run Tryz.prog w = .ok (.tuple #[]) w' ∧ OwnsM w' mb (dropG Ent.name k xs) ∧ Kp [mb] w w' := by
  obtain ⟨w', hrun, hown, ht⟩ := h.drop keyedS Tryz.underlying52 (keyS k hk) ty
  rw [dat_del] at hown
  exact ⟨w', hrun, OwnsM.norm hown, turned_kp ht⟩
end Go.Proofs.YtpkoikennimonaaGreatDoor
end

section
namespace Go.Proofs.YtpkoikennimonaaGreatDoor
open Go.RowKit Go.Hay
set_option linter.unusedVariables false
set_option linter.unusedSimpArgs false

/-- What a call that appends onto v may turn: v's own block; the row behind it is that one, or new. -/
structure Grew (v : Value) (w : World) (v' : Value) (w' : World) : Prop where
  kp : Kp (own v) w w'
  new : ∀ k ∈ own v', k ∈ own v ∨ w.heap.size ≤ k
theorem info3 {P : Program} {t : TypeId} {z : Value} {a b : Nat} (h : (P.info? t).map (fun i => (i.zero, i.size, i.bytes)) = some (some z, a, b)) : ∃ i, P.info? t = some i ∧ i.zero = some z ∧ i.size = a ∧ i.bytes = b := by
  cases hp : P.info? t with
  | none => rw [hp] at h; cases h
  | some i =>
    rw [hp] at h
    simp at h
    exact ⟨i, rfl, h.1, h.2.1, h.2.2⟩
theorem infoU : ∃ i : TypeInfo, Tryz.prog.info? 5 = some i ∧ i.zero = some (.int .u8 0) ∧ i.size = 1 ∧ i.bytes = 1 := info3 (by kernel_rfl)
/-- An append of what a slice sees. -/
theorem wpAppR {w : World} {ops : Array Oper} {rest : List Oper} {o : Oper} {a : Act} {Q : Exit → Act → World → Prop} (hgd : o.guard = none) (s x : Operand)
    (ho : o.op = .call { callee := .builtin .append, args := #[s, x], argTypes := #[45, 45] })
    (v : Value) (xs : List UInt8) (hv : a.eval s = v) (hown : Row w v xs) (sa : Option Addr) (m c : Nat) (bs : List UInt8) (hx : a.eval x = .slice sa m c) (hm : m = bs.length) (hs : Sees w sa bs) (hb : xs.length + bs.length ≤ 200000000000000)
    (hK : ∀ ys a' c' w', Hid (ys = xs ++ bs) → ys.length ≤ xs.length + bs.length → Row w' (.slice a' ys.length c') ys → Grew v w (.slice a' ys.length c') w' → wpList Tryz.prog ops Q rest (a.put o.dst (.slice a' ys.length c')) w') : wpList Tryz.prog ops Q (o :: rest) a w := by
  obtain ⟨i0, hi, hz0, hz1, hz2⟩ := infoU
  subst hm
  exact wpList_append_src _ hgd s x 45 45 ho i0 Tryz.underlying45 hi hz0 hz1 hz2 v xs hv hown _ bs hx (hs.src Tryz.underlying45 c) hb (fun v' w' h1 h2 h3 => by obtain ⟨a', c', rfl, _⟩ := h1.shape; exact hK _ a' c' w' rfl (by simp) h1 ⟨h2, h3⟩)
/-- A row of no bytes, in a block of its own. -/
theorem rowNone (w : World) {q : Nat} (hq : w.heap.size = q) (C : Array Value) (t : TypeId) : Row (w.alloc (.cells C t)) (.slice (some ⟨q, 0, none⟩) 0 0) [] := by
  subst hq
  exact .inr ⟨_, 0, 0, rfl, Nat.le_refl _, Nat.zero_le _, by simp, by intro j u hu; simp at hu, by intro j hj; omega⟩

/-- A copy: a row all new. -/
def CloneP (bs : List UInt8) (w : World) (e : Ending) (w' : World) : Prop := ∃ a c, e = .returned (.slice a bs.length c) ∧ Row w' (.slice a bs.length c) bs ∧ Kp [] w w' ∧ ∀ k ∈ blk a, w.heap.size ≤ k
theorem eqNilS (a : Option Addr) (n c : Nat) (w : World) : (binOp .eql 45 (.slice a n c) (.slice none 0 0)).run Tryz.prog w = .ok (.bool a.isNone) w := by
  simp only [binOp]
  simp [run_equal_slice_nil w 45 5 a n c Tryz.underlying45]
theorem own_slice (a : Option Addr) (n c : Nat) : own (.slice a n c) = blk a := by cases a <;> rfl
set_option maxRecDepth 100000 in
theorem cCloneB (a : Option Addr) (c : Nat) (bs : List UInt8) (w : World) (hs : Sees w a bs) (hc : a = none → bs = [] ∧ c = 0) (hb : bs.length ≤ 140737488355328) :
    Calls Tryz.prog 30 #[.slice a bs.length c] w (CloneP bs w) := by
  cases a with
  | none =>
    obtain ⟨rfl, rfl⟩ := hc rfl
    have e1 := eqNilS none 0 0
    go_enter Tryz.func30, Tryz.ntmps30
    go_wp2_with fail
    go_ret
    exact ⟨none, 0, rfl, Row.nil _, Kp.refl _ _, by simp [blk]⟩
  | some ad =>
    have e0 := eqNilS (some ad) bs.length c
    go_enter Tryz.func30, Tryz.ntmps30
    clear hc
    have k1 : Kp [] w (w.alloc (.cells #[] 5)) := (Kp.refl _ _).alloc _
    have hr := rowNone w rfl #[] 5
    have hs1 := hs.kept k1 (by simp)
    go_wp2_with (first | (refine wpAppR rfl _ _ rfl _ [] rfl hr _ _ _ bs rfl rfl hs1 (by simp; omega) ?_; intro ys a' c' w' hy hyl hrow hg) | fail)
    go_ret
    have e : ys = bs := by rw [hy.out]; rfl
    subst e
    refine ⟨a', c', rfl, hrow, k1.trans hg.kp (fun k hk => .inr ?_), fun k hk => ?_⟩
    · simp [own, Value.ownBlock, Act.eval] at hk; omega
    · rcases hg.new k (by rw [own_slice]; exact hk) with h1 | h1
      · simp [own, Value.ownBlock, Act.eval] at h1; omega
      · exact Nat.le_trans k1.size h1
end Go.Proofs.YtpkoikennimonaaGreatDoor
end

section
namespace Go.Proofs.YtpkoikennimonaaGreatDoor
open Go.RowKit Go.Hay Go.Maps
set_option linter.unusedVariables false
set_option linter.unusedSimpArgs false

theorem okNew (room : Int) (h : room < 9223372036854775808) : Okd (newD room) :=
  ⟨List.Pairwise.nil, by simp [newD], by simp [newD], by simp [newD, sumF], by simp only [newD]; omega, by simp [newD]⟩
theorem newDisk (w : World) (room : Int) (h : room < 9223372036854775808) (r : Int) (hr : r = ((newD room).room : Int)) (t : TypeId) :
    Disk ((w.alloc (.map #[] 0)).alloc (.cells #[.int .i64 r, .map (some w.heap.size), .int .i64 0, .int .i64 (-1), .bool false] t)) (w.heap.size + 1) w.heap.size [] (newD room) := by
  subst hr
  have k : Kp [] (w.alloc (.map #[] 0)) ((w.alloc (.map #[] 0)).alloc (.cells #[.int .i64 ((newD room).room : Int), .map (some w.heap.size), .int .i64 0, .int .i64 (-1), .bool false] t)) := (Kp.refl _ _).alloc _
  have m : OwnsM (w.alloc (.map #[] 0)) w.heap.size [] := World.ownsMap_made w _ _ _
  exact ⟨Hd.at _ (by simp) _, m.kept k (by simp), by simp, List.Pairwise.nil, by omega, by simp, by simp, rfl, okNew room h⟩
def NewP (room : Int) (w : World) (e : Ending) (w' : World) : Prop := ∃ p mb, e = .returned (.pointer (some ⟨p, 0, none⟩)) ∧ Disk w' p mb [] (newD room) ∧ Kp [] w w' ∧ w.heap.size ≤ p ∧ w.heap.size ≤ mb
theorem cNew (room : Int) (w : World) (hroom : room < 9223372036854775808) : Calls Tryz.prog 5 #[.int .i64 room] w (NewP room w) := by
  go_enter Tryz.func5, Tryz.ntmps5
  have hmm := @run_makeMap Tryz.prog
  go_wp2_with fail
  all_goals
    go_returns
    exact ⟨_, _, rfl, newDisk w room (by assumption) _ (by simp only [newD]; omega) _, ((Kp.refl _ w).alloc _).alloc _, by omega, by omega⟩
theorem cDead {w : World} {p mb : Nat} {xs : List Ent} {d : Dk} (h : Disk w p mb xs d) : Calls Tryz.prog 28 #[.pointer (some ⟨p, 0, none⟩)] w fun e w' => e = .returned (.bool d.dead) ∧ w' = w := by
  have c4 := h.hd.c4
  go_enter Tryz.func28, Tryz.ntmps28
  go_wp2_with fail
  go_returns
  exact ⟨rfl, rfl⟩
theorem cSteps {w : World} {p mb : Nat} {xs : List Ent} {d : Dk} (h : Disk w p mb xs d) : Calls Tryz.prog 27 #[.pointer (some ⟨p, 0, none⟩)] w fun e w' => e = .returned (.int .i64 d.steps) ∧ w' = w := by
  have c4 := h.hd.c2
  go_enter Tryz.func27, Tryz.ntmps27
  go_wp2_with fail
  go_returns
  exact ⟨rfl, rfl⟩
theorem okArm {d : Dk} (h : Okd d) (n : Int) (hn : n < 9223372036854775808) : Okd (armD d n) := by
  unfold armD
  split
  · exact h
  · refine ⟨h.rise, h.last, h.name, h.sum, h.room, fun m hm => ?_⟩
    simp only at hm
    split at hm
    · cases hm; omega
    · cases hm
theorem cArm {w : World} {p mb : Nat} {xs : List Ent} {d : Dk} (hD : Disk w p mb xs d) (n : Int) (hn : n < 9223372036854775808) :
    Calls Tryz.prog 21 #[.pointer (some ⟨p, 0, none⟩), .int .i64 n] w fun e w' => e = .returned (.tuple #[]) ∧ Disk w' p mb xs (armD d n) ∧ Kp [p] w w' := by
  have c3 := hD.hd.c3
  have c4 := hD.hd.c4
  have f3 := hD.hd.free 3
  go_enter Tryz.func21, Tryz.ntmps21
  cases hd : d.dead
  · rw [hd] at c4
    have e1 : (armD d n) = { d with arm := if n ≥ 0 then some n.toNat else none } := by simp [armD, hd]
    have hl : leftOf (armD d n) = if n < 0 then -1 else n := by
      rw [e1]
      unfold leftOf
      by_cases h0 : n ≥ 0
      · rw [if_pos h0, if_neg (by omega)]; simp only; omega
      · simp only [if_neg h0]; rw [if_pos (by omega)]
    have r : (armD d n).room = d.room ∧ (armD d n).steps = d.steps ∧ (armD d n).dead = d.dead ∧ (armD d n).files = d.files := by rw [e1]; exact ⟨rfl, rfl, rfl, rfl⟩
    have hx := hD.hd.set3 (leftOf (armD d n))
    have hk : ∀ u, Kp [p] w (w.setCell ⟨p, 3, none⟩ u) := fun u => (Kp.refl [p] w).setCell (p := ⟨p, 3, none⟩) (by simp) u
    have hfin := hD.reHd (d' := armD d n) (hk _) (by rw [r.1, r.2.1, r.2.2.1]; exact hx) r.2.2.2 (okArm hD.ok n hn)
    have hq : ∀ l, l = leftOf (armD d n) → Disk (w.setCell ⟨p, 3, none⟩ (.int .i64 l)) p mb xs (armD d n) := fun l e => by rw [e]; exact hfin
    clear hfin hx e1 r
    go_wp2_with fail
    all_goals
      go_returns
      refine ⟨rfl, hq _ (by rw [hl]; split <;> omega), hk _⟩
  · rw [hd] at c4
    go_wp2_with fail
    go_returns
    exact ⟨rfl, by rw [show armD d n = d by simp [armD, hd]]; exact hD, Kp.refl _ _⟩
theorem okStep {d : Dk} (h : Okd d) : Okd (stepD d).1 := by
  unfold stepD
  split
  · exact ⟨h.rise, h.last, h.name, h.sum, h.room, h.arm⟩
  · refine ⟨h.rise, h.last, h.name, h.sum, h.room, fun m hm => ?_⟩
    simp only [Option.map_eq_some_iff] at hm
    obtain ⟨a, ha, rfl⟩ := hm
    have := h.arm a ha
    omega
theorem stepD_files (d : Dk) : (stepD d).1.files = d.files ∧ (stepD d).1.room = d.room ∧ (stepD d).1.steps = d.steps + 1 := by
  unfold stepD
  split <;> exact ⟨rfl, rfl, rfl⟩
theorem cStep {w : World} {p mb : Nat} {xs : List Ent} {d : Dk} (hD : Disk w p mb xs d) (hs : d.steps < 9000000000000000000) (hdd : d.dead = false) :
    Calls Tryz.prog 54 #[.pointer (some ⟨p, 0, none⟩)] w fun e w' => e = .returned (.bool (!(stepD d).2)) ∧ Disk w' p mb xs (stepD d).1 ∧ Kp [p] w w' := by
  have c2 := hD.hd.c2
  have c3 := hD.hd.c3
  have c4 := hD.hd.c4
  have f2 := hD.hd.free 2
  have f3 := hD.hd.free 3
  have f4 := hD.hd.free 4
  go_enter Tryz.func54, Tryz.ntmps54
  obtain ⟨ef, er, es⟩ := stepD_files d
  have hk2 : Kp [p] w (w.setCell ⟨p, 2, none⟩ (.int .i64 (d.steps + 1))) := (Kp.refl [p] w).setCell (p := ⟨p, 2, none⟩) (by simp) _
  have hk4 : ∀ b, Kp [p] w ((w.setCell ⟨p, 2, none⟩ (.int .i64 (d.steps + 1))).setCell ⟨p, 4, none⟩ b) := fun b => hk2.setCell (p := ⟨p, 4, none⟩) (by simp) b
  have hk3 : ∀ b u, Kp [p] w (((w.setCell ⟨p, 2, none⟩ (.int .i64 (d.steps + 1))).setCell ⟨p, 4, none⟩ b).setCell ⟨p, 3, none⟩ u) := fun b u => (hk4 b).setCell (p := ⟨p, 3, none⟩) (by simp) u
  cases har : d.arm with
  | none =>
    have e0 : leftOf d = -1 := by simp [leftOf, har]
    have e1 : stepD d = ({ d with steps := d.steps + 1, arm := none }, false) := by simp [stepD, har]
    have hfin := hD.reHd (d' := (stepD d).1) (hk4 _) (by rw [e1]; have := (hD.hd.set2 (d.steps + 1)).set4 false; rw [e0] at this; simpa [leftOf, hdd] using this) ef (okStep hD.ok)
    have hok : (stepD d).2 = false := by rw [e1]
    have kk := hk4 (.bool false)
    rw [e0] at c3
    rw [hok]
    generalize (stepD d).1 = d2 at *
    clear e1 e0 hk2 hk4 hk3
    go_wp2_with fail
    go_returns
    exact ⟨rfl, hfin, kk⟩
  | some n =>
    have e0 : leftOf d = n := by simp [leftOf, har]
    rcases Nat.eq_zero_or_pos n with rfl | hn
    · have e1 : stepD d = ({ d with steps := d.steps + 1, dead := true }, true) := by simp [stepD, har]
      have hfin := hD.reHd (d' := (stepD d).1) (hk4 _) (by rw [e1]; have := (hD.hd.set2 (d.steps + 1)).set4 true; simpa [leftOf, har] using this) ef (okStep hD.ok)
      have hok : (stepD d).2 = true := by rw [e1]
      have kk := hk4 (.bool true)
      rw [e0] at c3
      rw [hok]
      generalize (stepD d).1 = d2 at *
      clear e1 e0 hk2 hk4 hk3
      go_wp2_with fail
      go_returns
      exact ⟨rfl, hfin, kk⟩
    · have e1 : stepD d = ({ d with steps := d.steps + 1, arm := some (n - 1) }, false) := by simp [stepD, har]; omega
      have hfin := hD.reHd (d' := (stepD d).1) (hk3 _ _) (by rw [e1]; have := ((hD.hd.set2 (d.steps + 1)).set4 false).set3 ((n : Int) - 1); have e3 : ((n : Int) - 1) = ((n - 1 : Nat) : Int) := by omega
                                                             rw [e3] at this; simpa [leftOf, hdd] using this) ef (okStep hD.ok)
      have hok : (stepD d).2 = false := by rw [e1]
      have kk := hk3 (.bool false) (.int .i64 ((n : Int) - 1))
      rw [e0] at c3
      rw [hok]
      have g1 : ((n : Int) == 0) = false := by simp; omega
      have g2 : decide (0 < (n : Int)) = true := by simp; omega
      have g3 := hD.ok.arm n har
      rw [show ((n - 1 : Nat) : Int) = (n : Int) - 1 by omega] at hfin
      generalize (stepD d).1 = d2 at *
      clear e1 e0 hk2 hk4 hk3
      go_wp2_with fail
      go_returns
      exact ⟨rfl, hfin, kk⟩
end Go.Proofs.YtpkoikennimonaaGreatDoor
end

section
namespace Go.Proofs.YtpkoikennimonaaGreatDoor
open Go.RowKit Go.Hay
set_option linter.unusedVariables false
set_option linter.unusedSimpArgs false

def okc (c : UInt8) : Bool := decide (33 ≤ c.toNat) && decide (c.toNat ≤ 126)
theorem nameOk_of {B : ByteArray} (h : ∀ i (hi : i < B.size), okc (B.data[i]'hi) = true) : nameOk B.data.toList = (decide (1 ≤ B.size) && decide (B.size ≤ 32)) := by
  have e : B.data.toList.all (fun c => decide (33 ≤ c.toNat) && decide (c.toNat ≤ 126)) = true := by
    rw [List.all_eq_true]
    intro x hx
    obtain ⟨i, hi, rfl⟩ := List.mem_iff_getElem.1 hx
    exact h i (by simpa using hi)
  unfold nameOk
  rw [e]
  rfl
theorem nameOk_not {B : ByteArray} {i : Nat} (hi : i < B.size) (h : okc (B.data[i]'hi) = false) : nameOk B.data.toList = false := by
  have e : B.data.toList.all (fun c => decide (33 ≤ c.toNat) && decide (c.toNat ≤ 126)) = false := by
    rw [List.all_eq_false]
    exact ⟨B.data[i]'hi, by simp, by rw [show (decide (33 ≤ (B.data[i]'hi).toNat) && decide ((B.data[i]'hi).toNat ≤ 126)) = okc (B.data[i]'hi) from rfl, h]; simp⟩
  unfold nameOk
  rw [e]
  rfl
theorem ixS (B : ByteArray) (j : Nat) (h : j < B.size) (w' : World) : (Instr.index 9 (.string B) (.int .i64 (j : Int))).run Tryz.prog w' = .ok (.int .u8 ((B.data[j]'h).toNat : Int)) w' := by
  rw [run_index_string w' _ B .i64 _ Tryz.underlying9, dif_pos ⟨by omega, by omega⟩]
  rfl
set_option maxHeartbeats 2000000 in
theorem cIsName (B : ByteArray) (w : World) (hB : B.size ≤ maxLen) : Calls Tryz.prog 81 #[.string B] w fun e w' => e = .returned (.bool (nameOk B.data.toList)) ∧ w' = w := by
  by_cases h1 : B.size < 1
  · have hn : Hid (nameOk B.data.toList = false) := by
      show _ = _
      rw [nameOk_of (fun i hi => by omega)]
      simp; omega
    go_enter Tryz.func81, Tryz.ntmps81
    go_wp2_with fail
    go_ret
    exact ⟨by rw [hn.out]; rfl, rfl⟩
  · by_cases h2 : 32 < B.size
    · have hn : Hid (nameOk B.data.toList = false) := by
        show _ = _
        unfold nameOk
        have : decide (B.data.toList.length ≤ 32) = false := by simp; omega
        rw [this]; simp
      go_enter Tryz.func81, Tryz.ntmps81
      go_wp2_with fail
      go_ret
      exact ⟨by rw [hn.out]; rfl, rfl⟩
    · go_enter Tryz.func81, Tryz.ntmps81
      go_wp2_with fail
      go_loopw [14] (fun i wn => ∃ j : Nat, j ≤ B.size ∧ i = .int .i64 j ∧ Hid (∀ k (hk : k < B.size), k < j → okc (B.data[k]'hk) = true) ∧ wn = w) (fun i _ => B.size - (intOf i).toNat)
      case atStart => exact ⟨0, Nat.zero_le _, rfl, (fun k hk h => by omega), rfl⟩
      case round =>
        obtain ⟨j, hj, rfl, hr, rfl⟩ := hrel
        by_cases hjm : j < B.size
        · have ix := ixS B j hjm
          obtain ⟨c, Hc⟩ : ∃ c : Nat, Hid ((B.data[j]'hjm).toNat = c) := ⟨_, rfl⟩
          rw [Hc.out] at ix
          have hc : c < 256 := by rw [← Hc.out]; exact UInt8.toNat_lt _
          by_cases hlo : 33 ≤ c
          · by_cases hhi : c ≤ 126
            · have hn : Hid (∀ k (hk : k < B.size), k < j + 1 → okc (B.data[k]'hk) = true) := fun k hk h => by
                by_cases e : k = j
                · subst e; simp [okc, Hc.out, hlo, hhi]
                · exact hr.out k hk (by omega)
              clear hr
              go_wp2_with fail
              exact ⟨⟨j + 1, by omega, by go_num, hn, trivial⟩, by simp [intOf]; omega⟩
            · have hn : Hid (nameOk B.data.toList = false) := nameOk_not hjm (by simp [okc, Hc.out]; omega)
              clear hr
              go_wp2_with fail
              go_ret
              exact ⟨by rw [hn.out]; rfl, rfl⟩
          · have hn : Hid (nameOk B.data.toList = false) := nameOk_not hjm (by simp [okc, Hc.out]; omega)
            clear hr
            go_wp2_with fail
            go_ret
            exact ⟨by rw [hn.out]; rfl, rfl⟩
        · have hn : Hid (nameOk B.data.toList = true) := by
            show _ = _
            rw [nameOk_of (fun i hi => hr.out i hi (by omega))]
            simp; omega
          clear hr
          go_wp2_with fail
          go_ret
          exact ⟨by rw [hn.out]; rfl, rfl⟩
set_option maxHeartbeats 2000000 in
theorem cRefName (B : ByteArray) (w : World) (hB : B.size ≤ maxLen) : Calls Tryz.prog 66 #[.string B] w fun e w' => e = .returned (.bool (nameOk B.data.toList)) ∧ w' = w := by
  go_enter Tryz.func66, Tryz.ntmps66
  unfold maxLen at hB
  go_wp2_with fail
  go_loopw [3] (fun i wn => ∃ j : Nat, j ≤ B.size ∧ i = .int .i64 j ∧ Hid (∀ k (hk : k < B.size), k < j → okc (B.data[k]'hk) = true) ∧ wn = w) (fun i _ => B.size - (intOf i).toNat)
  case atStart => exact ⟨0, Nat.zero_le _, rfl, (fun k hk h => by omega), rfl⟩
  case round =>
    obtain ⟨j, hj, rfl, hr, rfl⟩ := hrel
    by_cases hjm : j < B.size
    · have ix := ixS B j hjm
      obtain ⟨c, Hc⟩ : ∃ c : Nat, Hid ((B.data[j]'hjm).toNat = c) := ⟨_, rfl⟩
      rw [Hc.out] at ix
      have hc : c < 256 := by rw [← Hc.out]; exact UInt8.toNat_lt _
      by_cases hlo : 33 ≤ c
      · by_cases hhi : c ≤ 126
        · have hn : Hid (∀ k (hk : k < B.size), k < j + 1 → okc (B.data[k]'hk) = true) := fun k hk h => by
            by_cases e : k = j
            · subst e; simp [okc, Hc.out, hlo, hhi]
            · exact hr.out k hk (by omega)
          clear hr
          go_wp2_with fail
          exact ⟨⟨j + 1, by omega, by go_num, hn, trivial⟩, by simp [intOf]; omega⟩
        · have hn : Hid (nameOk B.data.toList = false) := nameOk_not hjm (by simp [okc, Hc.out]; omega)
          clear hr
          go_wp2_with fail
          go_ret
          exact ⟨by rw [hn.out]; rfl, rfl⟩
      · have hn : Hid (nameOk B.data.toList = false) := nameOk_not hjm (by simp [okc, Hc.out]; omega)
        clear hr
        go_wp2_with fail
        go_ret
        exact ⟨by rw [hn.out]; rfl, rfl⟩
    · have hn : Hid (nameOk B.data.toList = (decide (1 ≤ B.size) && decide (B.size ≤ 32))) := nameOk_of (fun i hi => hr.out i hi (by omega))
      clear hr
      by_cases h1 : 1 ≤ B.size
      · by_cases h2 : B.size ≤ 32
        · go_wp2_with fail
          go_ret
          exact ⟨by rw [hn.out]; simp [h1, h2]; omega, rfl⟩
        · go_wp2_with fail
          go_ret
          exact ⟨by rw [hn.out]; simp [h1, h2]; omega, rfl⟩
      · go_wp2_with fail
        go_ret
        exact ⟨by rw [hn.out]; simp [h1], rfl⟩
end Go.Proofs.YtpkoikennimonaaGreatDoor
end

section
namespace Go.Proofs.YtpkoikennimonaaGreatDoor
open Go.RowKit Go.Hay Go.Maps
set_option linter.unusedVariables false
set_option linter.unusedSimpArgs false

theorem Row.parts {w : World} {v : Value} {bs : List UInt8} (h : Row w v bs) : ∃ a c, v = .slice a bs.length c ∧ Sees w a bs ∧ (a = none → bs = [] ∧ c = 0) ∧ bs.length ≤ c := by
  rcases h with ⟨rfl, rfl⟩ | ⟨g, o, cap, rfl, hl, hm, hg, hc, ht⟩
  · exact ⟨none, 0, rfl, .inl rfl, fun _ => ⟨rfl, rfl⟩, Nat.le_refl _⟩
  · exact ⟨_, _, rfl, .inr ⟨g, o, rfl, hc⟩, fun h => (by cases h), hl⟩
/-- No file is greater than memory. -/
def Small (d : Dk) : Prop := ∀ f ∈ d.files, f.bytes.length ≤ 140737488355328

theorem Disk.look {w : World} {p mb : Nat} {xs : List Ent} {d : Dk} (h : Disk w p mb xs d) (k : List UInt8) : lookG Fl.name k d.files = (lookG Ent.name k xs).map Ent.fl := by
  rw [h.fl]
  exact lookG_map Ent.fl (fun _ => rfl) k xs

def ReadP (o : Option (List UInt8)) (w : World) (e : Ending) (w' : World) : Prop :=
  match o with
  | none => e = .returned (.tuple #[.slice none 0 0, .bool false]) ∧ w' = w
  | some bs => ∃ a c, e = .returned (.tuple #[.slice a bs.length c, .bool true]) ∧ Row w' (.slice a bs.length c) bs ∧ Kp [] w w' ∧ ∀ k ∈ blk a, w.heap.size ≤ k
theorem cRead {w : World} {p mb : Nat} {xs : List Ent} {d : Dk} (hD : Disk w p mb xs d) (hB : Small d) (k : List UInt8) (hk : k.length ≤ maxLen) :
    Calls Tryz.prog 12 #[.pointer (some ⟨p, 0, none⟩), .string ⟨k.toArray⟩] w (ReadP ((lookG Fl.name k d.files).map Fl.bytes) w) := by
  have c1 := hD.hd.c1
  have hl := lookF2 hD.map k hk
  rw [hD.look k]
  go_enter Tryz.func12, Tryz.ntmps12
  cases hx : lookG Ent.name k xs with
  | none =>
    rw [hx] at hl
    simp only [ptrOf, Option.isSome] at hl
    go_wp2_with fail
    go_returns
    exact ⟨rfl, rfl⟩
  | some x =>
    rw [hx] at hl
    simp only [ptrOf, Option.isSome] at hl
    have hf := hD.files x (lookG_some hx).1
    have hb := hB x.fl (by rw [hD.fl]; exact List.mem_map_of_mem (lookG_some hx).1)
    obtain ⟨nm, bk, v, bs, ls⟩ := x
    simp only [Ent.fl] at hb
    obtain ⟨a, c, ev, hs, hn, _⟩ := Row.parts hf.row
    have c0 := hf.box.c0
    simp only at c0 ev hs hn
    subst ev
    have hc := cCloneB a c bs w hs hn hb
    clear hn hs
    go_wp2_with fail
    refine hc.mono ?_
    rintro e w' ⟨a', c', rfl, hr, hk', hnew⟩
    go_wp2_with fail
    go_returns
    exact ⟨a', c', rfl, hr, hk', hnew⟩
end Go.Proofs.YtpkoikennimonaaGreatDoor
end

section
namespace Go.Proofs.YtpkoikennimonaaGreatDoor
open Go.RowKit Go.Hay Go.Maps
set_option linter.unusedVariables false
set_option linter.unusedSimpArgs false

theorem dat_same {xs : List Ent} (hr : riseG Ent.name xs) {x x' : Ent} (hx : x ∈ xs) (hn : x'.name = x.name) (hb : x'.blk = x.blk) : (putG Ent.name x' false xs).map Ent.dat = xs.map Ent.dat := by
  rw [putG_set x' xs hr ⟨x, hx, hn.symm⟩, List.map_map]
  refine List.map_congr_left fun g hg => ?_
  simp only [Function.comp_apply]
  split
  · rename_i e
    rw [beq_iff_eq] at e
    obtain rfl := rise_inj hr hg hx (e.trans hn)
    simp [Ent.dat, hn, hb]
  · rfl
theorem put_fl (x : Ent) (xs : List Ent) : (putG Ent.name x false xs).map Ent.fl = putG Fl.name x.fl false (xs.map Ent.fl) := putG_map (nm := Ent.name) (nm' := Fl.name) Ent.fl (fun _ => rfl) x false xs
theorem drop_fl (k : List UInt8) (xs : List Ent) : (dropG Ent.name k xs).map Ent.fl = dropG Fl.name k (xs.map Ent.fl) := dropG_map (nm := Ent.name) (nm' := Fl.name) Ent.fl (fun _ => rfl) k xs

section
variable {w w' : World} {p mb : Nat} {xs : List Ent} {d : Dk}
/-- One file changed in its place. -/
theorem Disk.inPlace (h : Disk w p mb xs d) {x : Ent} (x' : Ent) (hx : x ∈ xs) (hn : x'.name = x.name) (hb : x'.blk = x.blk) (hk : Kp x.foot w w') (hf : FileAt w' x') (hnew : ∀ k ∈ x'.foot, k ∈ x.foot ∨ w.heap.size ≤ k)
    (ok : Okd { d with files := putG Fl.name x'.fl false d.files }) : Disk w' p mb (putG Ent.name x' false xs) { d with files := putG Fl.name x'.fl false d.files } ∧ Mv (foot p mb xs) w (foot p mb (putG Ent.name x' false xs)) w' := by
  have hxf := (h.files x hx).lt
  have hother : ∀ y ∈ xs, y.name ≠ x'.name → ∀ k ∈ y.foot, k ∉ x'.foot := fun y hy hne k hky hk' => by
    rcases hnew k hk' with h1 | h1
    · exact h.xy y hy x hx (fun e => hne (e.trans hn.symm)) k hky h1
    · have := (h.files y hy).lt k hky; omega
  refine ⟨⟨h.hd.kept hk (h.px x hx).1, OwnsM.norm (n := xs.length) ?_, fun y hy => ?_, riseG_put x' h.rise, h.pm, fun y hy => ?_, fun y hy z hz hne k hky => ?_, ?_, ok⟩, ⟨?_, fun k hk' => ?_⟩⟩
  · rw [dat_same h.rise hx hn hb]; exact h.map.kept hk (h.px x hx).2
  · rcases (mem_putG h.rise).1 hy with rfl | ⟨hy, hne⟩
    · exact hf
    · exact (h.files y hy).kept hk (fun k hky hkx => h.xy y hy x hx (fun e => hne (e.trans hn.symm)) k hky hkx)
  · rcases (mem_putG h.rise).1 hy with rfl | ⟨hy, hne⟩
    · constructor
      · intro hp; rcases hnew _ hp with h1 | h1
        · exact (h.px x hx).1 h1
        · have := h.hd.lt; omega
      · intro hp; rcases hnew _ hp with h1 | h1
        · exact (h.px x hx).2 h1
        · have := h.map.lt; omega
    · exact h.px y hy
  · rcases (mem_putG h.rise).1 hy with ey | ⟨hy', hyn⟩ <;> rcases (mem_putG h.rise).1 hz with ez | ⟨hz', hzn⟩
    · exact absurd (by rw [ey, ez]) hne
    · exact fun hkz => hother z hz' hzn k hkz (by rw [← ey]; exact hky)
    · rw [ez]; exact hother y hy' hyn k hky
    · exact h.xy y hy' z hz' hne k hky
  · show putG Fl.name x'.fl false d.files = _; rw [put_fl, h.fl]
  · exact hk.mono (fun k hk' => .inl (mem_foot.2 (.inr (.inr ⟨x, hx, hk'⟩))))
  · rcases mem_foot.1 hk' with rfl | rfl | ⟨y, hy, hky⟩
    · exact .inl (mem_foot.2 (.inl rfl))
    · exact .inl (mem_foot.2 (.inr (.inl rfl)))
    · rcases (mem_putG h.rise).1 hy with rfl | ⟨hy, _⟩
      · exact (hnew k hky).imp (fun h1 => mem_foot.2 (.inr (.inr ⟨x, hx, h1⟩))) id
      · exact .inl (mem_foot.2 (.inr (.inr ⟨y, hy, hky⟩)))
/-- The map turned: its entries are old ones under other names, or new. -/
theorem Disk.reMap (h : Disk w p mb xs d) {ys : List Ent} {d' : Dk} {w1 : World} (k0 : Kp [] w w1) (hk : Kp [mb] w1 w') (hm : OwnsM w' mb ys) (hr : riseG Ent.name ys)
    (hf : ∀ y ∈ ys, FileAt w1 y) (hold : ∀ y ∈ ys, (∃ x ∈ xs, y.foot = x.foot) ∨ ∀ k ∈ y.foot, w.heap.size ≤ k) (hxy : ∀ x ∈ ys, ∀ y ∈ ys, x.name ≠ y.name → ∀ k ∈ x.foot, k ∉ y.foot)
    (e0 : d'.room = d.room) (e1 : d'.steps = d.steps) (e2 : d'.arm = d.arm) (e3 : d'.dead = d.dead) (e4 : d'.files = ys.map Ent.fl) (ok : Okd d') : Disk w' p mb ys d' ∧ Mv (foot p mb xs) w (foot p mb ys) w' := by
  have hpx : ∀ y ∈ ys, p ∉ y.foot ∧ mb ∉ y.foot := fun y hy => by
    rcases hold y hy with ⟨x, hx, e⟩ | hn
    · rw [e]; exact h.px x hx
    · exact ⟨fun hp => by have := hn _ hp; have := h.hd.lt; omega, fun hp => by have := hn _ hp; have := h.map.lt; omega⟩
  have hl : leftOf d' = leftOf d := by simp [leftOf, e2]
  have hkk : Kp [mb] w w' := (k0.mono (T := [mb]) (by simp)).trans hk (fun _ hx => .inl hx)
  refine ⟨⟨?_, hm, fun y hy => (hf y hy).kept hk (fun k hky e => (hpx y hy).2 (by rw [List.mem_singleton] at e; rw [← e]; exact hky)), hr, h.pm, hpx, hxy, e4, ok⟩, ⟨?_, fun k hk' => ?_⟩⟩
  · rw [e0, e1, e3, hl]; exact h.hd.kept hkk (by simpa using h.pm)
  · exact hkk.mono (fun k hk' => .inl (by rw [List.mem_singleton] at hk'; subst hk'; exact mem_foot.2 (.inr (.inl rfl))))
  · rcases mem_foot.1 hk' with rfl | rfl | ⟨y, hy, hky⟩
    · exact .inl (mem_foot.2 (.inl rfl))
    · exact .inl (mem_foot.2 (.inr (.inl rfl)))
    · rcases hold y hy with ⟨x, hx, e⟩ | hn
      · exact .inl (mem_foot.2 (.inr (.inr ⟨x, hx, by rw [← e]; exact hky⟩)))
      · exact .inr (hn k hky)
theorem Disk.removed (h : Disk w p mb xs d) (k : List UInt8) (hk : Kp [mb] w w') (hm : OwnsM w' mb (dropG Ent.name k xs)) : Disk w' p mb (dropG Ent.name k xs) { d with files := dropG Fl.name k d.files } ∧ Mv (foot p mb xs) w (foot p mb (dropG Ent.name k xs)) w' :=
  h.reMap (Kp.refl _ _) hk hm (riseG_drop k h.rise) (fun y hy => h.files y (mem_dropG.1 hy).1) (fun y hy => .inl ⟨y, (mem_dropG.1 hy).1, rfl⟩) (fun y hy z hz => h.xy y (mem_dropG.1 hy).1 z (mem_dropG.1 hz).1) rfl rfl rfl rfl (by rw [drop_fl, ← h.fl]) (okDrop h.ok k)
theorem Disk.renamed (h : Disk w p mb xs d) {x : Ent} {name : List UInt8} (hx : lookG Ent.name name xs = some x) (to : List UInt8) (ht : nameOk to = true) (hk : Kp [mb] w w') (hm : OwnsM w' mb (putG Ent.name { x with name := to } false (dropG Ent.name name xs))) :
    Disk w' p mb (putG Ent.name { x with name := to } false (dropG Ent.name name xs)) { d with files := putG Fl.name { x.fl with name := to } false (dropG Fl.name name d.files) } ∧ Mv (foot p mb xs) w (foot p mb (putG Ent.name { x with name := to } false (dropG Ent.name name xs))) w' := by
  obtain ⟨hxm, hxn⟩ := lookG_some hx
  have hl : lookG Fl.name name d.files = some x.fl := by rw [h.look, hx]; rfl
  have hm1 : ∀ y ∈ putG Ent.name { x with name := to } false (dropG Ent.name name xs), y = { x with name := to } ∨ (y ∈ xs ∧ y.name ≠ name ∧ y.name ≠ to) := fun y hy => by
    rcases (mem_putG (riseG_drop name h.rise)).1 hy with h1 | ⟨h1, h2⟩
    · exact .inl h1
    · exact .inr ⟨(mem_dropG.1 h1).1, (mem_dropG.1 h1).2, h2⟩
  have hfx := h.files x hxm
  refine h.reMap (Kp.refl _ _) hk hm (riseG_put _ (riseG_drop name h.rise)) (fun y hy => ?_) (fun y hy => .inl ?_) (fun y hy z hz hne k hky => ?_) rfl rfl rfl rfl (by rw [put_fl, drop_fl, ← h.fl]; rfl) (okRename h.ok hl ht)
  · rcases hm1 y hy with rfl | ⟨hy, _⟩
    · exact ⟨hfx.box, hfx.row, hfx.ap⟩
    · exact h.files y hy
  · rcases hm1 y hy with rfl | ⟨hy, _⟩
    · exact ⟨x, hxm, rfl⟩
    · exact ⟨y, hy, rfl⟩
  · rcases hm1 y hy with rfl | ⟨hy, hy1, _⟩ <;> rcases hm1 z hz with rfl | ⟨hz, hz1, _⟩
    · exact absurd rfl hne
    · exact h.xy x hxm z hz (by rw [hxn]; exact Ne.symm hz1) k hky
    · exact h.xy y hy x hxm (by rw [hxn]; exact hy1) k hky
    · exact h.xy y hy z hz hne k hky
theorem Disk.added (h : Disk w p mb xs d) (e : Ent) {w1 : World} (k0 : Kp [] w w1) (hfe : FileAt w1 e) (hnew : ∀ k ∈ e.foot, w.heap.size ≤ k) (hk : Kp [mb] w1 w') (hm : OwnsM w' mb (putG Ent.name e false xs)) (ok : Okd { d with files := putG Fl.name e.fl false d.files }) :
    Disk w' p mb (putG Ent.name e false xs) { d with files := putG Fl.name e.fl false d.files } ∧ Mv (foot p mb xs) w (foot p mb (putG Ent.name e false xs)) w' := by
  refine h.reMap k0 hk hm (riseG_put _ h.rise) (fun y hy => ?_) (fun y hy => ?_) (fun y hy z hz hne k hky hkz => ?_) rfl rfl rfl rfl (by rw [put_fl, ← h.fl]) ok
  · rcases (mem_putG h.rise).1 hy with rfl | ⟨hy, _⟩
    · exact hfe
    · exact (h.files y hy).kept k0 (by simp)
  · rcases (mem_putG h.rise).1 hy with rfl | ⟨hy, _⟩
    · exact .inr hnew
    · exact .inl ⟨y, hy, rfl⟩
  · rcases (mem_putG h.rise).1 hy with ey | ⟨hy', _⟩ <;> rcases (mem_putG h.rise).1 hz with ez | ⟨hz', _⟩
    · exact hne (by rw [ey, ez])
    · have := (h.files z hz').lt k hkz; have := hnew k (by rw [← ey]; exact hky); omega
    · have := (h.files y hy').lt k hky; have := hnew k (by rw [← ez]; exact hkz); omega
    · exact h.xy y hy' z hz' hne k hky hkz
end
/-- What a call that changes a disk has made of it. -/
def ChgP (p mb : Nat) (xs : List Ent) (r : Dk × Int) (w : World) (e : Ending) (w' : World) : Prop := e = .returned (.int .i64 r.2) ∧ ∃ xs', Disk w' p mb xs' r.1 ∧ Mv (foot p mb xs) w (foot p mb xs') w'
theorem ChgP.same {w : World} {p mb : Nat} {xs : List Ent} {d : Dk} (h : Disk w p mb xs d) {r : Dk × Int} {n : Int} (e1 : r = (d, n)) : ChgP p mb xs r w (.returned (.int .i64 n)) w := by
  subst e1; exact ⟨rfl, xs, h, Mv.refl _ _⟩
end Go.Proofs.YtpkoikennimonaaGreatDoor
end

section
namespace Go.Proofs.YtpkoikennimonaaGreatDoor
open Go.RowKit Go.Hay Go.Maps
set_option linter.unusedVariables false
set_option linter.unusedSimpArgs false

theorem ref_dead {d : Dk} (h : d.dead = true) (call : Int) (name to : List UInt8) (n : Int) : doD d call name to n = (d, 44) := by simp [doD, refusedD, h]
theorem ref_none {d : Dk} (h : d.dead = false) {name : List UInt8} (hl : lookG Fl.name name d.files = none) (call : Int) (to : List UInt8) (n : Int) : doD d call name to n = (d, 42) := by simp [doD, refusedD, h, hl]
theorem do_dies {d : Dk} {call : Int} {name to : List UInt8} {n : Int} (h : refusedD d call name to n = 0) (hs : (stepD d).2 = true) : doD d call name to n = ((stepD d).1, 44) := by simp [doD, h, hs]
theorem do_done {d : Dk} {call : Int} {name to : List UInt8} {n : Int} (h : refusedD d call name to n = 0) (hs : (stepD d).2 = false) : doD d call name to n = ({ (stepD d).1 with files := changedF d.files call name to n }, 0) := by simp [doD, h, hs]
theorem mvStep {w w1 : World} {p mb : Nat} {xs : List Ent} (k : Kp [p] w w1) : Mv (foot p mb xs) w (foot p mb xs) w1 := ⟨mvHd k, fun _ h => .inl h⟩

theorem Row.cut {w : World} {a : Option Addr} {n c : Nat} {bs : List UInt8} (h : Row w (.slice a n c) bs) (m : Nat) (hm : m ≤ bs.length) : Row w (.slice a m c) (bs.take m) := by
  rcases h with ⟨e, rfl⟩ | ⟨g, o, cap, e, hl, hx, hg, hc, ht⟩
  · cases e
    obtain rfl : m = 0 := by simpa using hm
    exact .inl ⟨rfl, rfl⟩
  · cases e
    refine .inr ⟨g, o, c, by rw [List.length_take, Nat.min_eq_left hm], by rw [List.length_take]; omega, hx, hg, fun j u hu => ?_, ht⟩
    rw [List.getElem?_take] at hu
    split at hu
    · exact hc j u hu
    · cases hu
set_option maxHeartbeats 1000000 in
set_option maxRecDepth 100000 in
theorem cSync {w : World} {p mb : Nat} {xs : List Ent} {d : Dk} (hD : Disk w p mb xs d) (hs : d.steps < 9000000000000000000) (name : List UInt8) (hk : name.length ≤ maxLen) (to : List UInt8) (n : Int) :
    Calls Tryz.prog 37 #[.pointer (some ⟨p, 0, none⟩), .string ⟨name.toArray⟩] w (ChgP p mb xs (doD d 1 name to n) w) := by
  have c1 := hD.hd.c1
  have c4 := hD.hd.c4
  have hl := lookF hD.map name hk
  have hlk := hD.look name
  go_enter Tryz.func37, Tryz.ntmps37
  cases hd : d.dead with
  | true =>
    have hfin := ChgP.same hD (ref_dead hd 1 name to n)
    rw [hd] at c4
    cases hx : lookG Ent.name name xs with
    | none =>
      rw [hx] at hl
      simp only [ptrOf] at hl
      go_wp2_with fail
      go_ret
      exact hfin
    | some x =>
      rw [hx] at hl
      simp only [ptrOf] at hl
      go_wp2_with fail
      go_ret
      exact hfin
  | false =>
    rw [hd] at c4
    cases hx : lookG Ent.name name xs with
    | none =>
      rw [hx] at hl
      have hfin := ChgP.same hD (ref_none hd (by rw [hlk, hx]; rfl) 1 to n)
      simp only [ptrOf] at hl
      go_wp2_with fail
      go_ret
      exact hfin
    | some x =>
      rw [hx] at hl hlk
      simp only [ptrOf] at hl
      have hx1 := (lookG_some hx).1
      have hr0 : refusedD d 1 name to n = 0 := by simp [refusedD, hd, hlk]
      have hst := cStep hD hs hd
      have hdies := @do_dies d 1 name to n hr0
      have hdone := @do_done d 1 name to n hr0
      obtain ⟨ef, _, _⟩ := stepD_files d
      generalize stepD d = sd at *
      obtain ⟨d1, b⟩ := sd
      simp only at hst hdies hdone ef
      clear hr0
      go_wp2_with fail
      refine hst.mono ?_
      rintro e w1 ⟨rfl, hD1, k1⟩
      cases b with
      | true =>
        go_wp2_with fail
        go_ret
        rw [hdies (by trivial)]
        exact ⟨rfl, xs, hD1, mvStep k1⟩
      | false =>
        have hf := hD1.files x hx1
        obtain ⟨a, c, ev, hsee, hn, _⟩ := Row.parts hf.row
        have c0 := hf.box.c0
        have f1 := hf.box.free 1
        have cc1 := hf.box.c1
        have hset := hf.box.set1 (x.bytes.length : Int)
        rw [ev] at c0
        clear hsee hn
        have hkx : Kp x.foot w1 (w1.setCell ⟨x.blk, 1, none⟩ (.int .i64 (x.bytes.length : Int))) := (Kp.refl _ w1).setCell (p := ⟨x.blk, 1, none⟩) (by simp [Ent.foot]) _
        have hkb : Kp [x.blk] w1 (w1.setCell ⟨x.blk, 1, none⟩ (.int .i64 (x.bytes.length : Int))) := (Kp.refl _ w1).setCell (p := ⟨x.blk, 1, none⟩) (by simp) _
        have hok : Okd { d1 with files := putG Fl.name ({ x with last := x.bytes.length } : Ent).fl false d1.files } := okSync (f := x.fl) hD1.ok (by rw [ef]; exact hlk)
        have hin := hD1.inPlace { x with last := x.bytes.length } hx1 rfl rfl hkx ⟨hset, hf.row.kept hkb (fun k hk' e => hf.ap (by rw [List.mem_singleton] at e; subst e; exact hk')), hf.ap⟩ (fun k hk' => .inl hk') hok
        have hfin : ChgP p mb xs (doD d 1 name to n) w (.returned (.int .i64 0)) (w1.setCell ⟨x.blk, 1, none⟩ (.int .i64 (x.bytes.length : Int))) := by
          rw [hdone (by trivial)]
          refine ⟨rfl, _, ?_, (mvStep k1).trans hin.2⟩
          have e : changedF d.files 1 name to n = putG Fl.name ({ x with last := x.bytes.length } : Ent).fl false d1.files := by
            simp only [changedF, if_pos, fileOf_some hlk, ef]; rfl
          show Disk _ p mb _ { d1 with files := changedF d.files 1 name to n }
          rw [e]
          exact hin.1
        clear hin hok hkb hkx hset
        go_wp2_with fail
        go_ret
        exact hfin
set_option maxHeartbeats 1000000 in
set_option maxRecDepth 100000 in
theorem cTruncate {w : World} {p mb : Nat} {xs : List Ent} {d : Dk} (hD : Disk w p mb xs d) (hs : d.steps < 9000000000000000000) (name : List UInt8) (hk : name.length ≤ maxLen) (to : List UInt8) (n : Int) (hn0 : -9223372036854775808 ≤ n) (hn1 : n < 9223372036854775808) (hB : Small d) :
    Calls Tryz.prog 36 #[.pointer (some ⟨p, 0, none⟩), .string ⟨name.toArray⟩, .int .i64 n] w (ChgP p mb xs (doD d 2 name to n) w) := by
  have c1 := hD.hd.c1
  have c4 := hD.hd.c4
  have hl := lookF hD.map name hk
  have hlk := hD.look name
  go_enter Tryz.func36, Tryz.ntmps36
  cases hd : d.dead with
  | true =>
    have hfin := ChgP.same hD (ref_dead hd 2 name to n)
    rw [hd] at c4
    cases hx : lookG Ent.name name xs with
    | none =>
      rw [hx] at hl
      simp only [ptrOf] at hl
      go_wp2_with fail
      go_ret
      exact hfin
    | some x =>
      rw [hx] at hl
      simp only [ptrOf] at hl
      go_wp2_with fail
      go_ret
      exact hfin
  | false =>
    rw [hd] at c4
    cases hx : lookG Ent.name name xs with
    | none =>
      rw [hx] at hl
      have hfin := ChgP.same hD (ref_none hd (by rw [hlk, hx]; rfl) 2 to n)
      simp only [ptrOf] at hl
      go_wp2_with fail
      go_ret
      exact hfin
    | some x =>
      rw [hx] at hl hlk
      simp only [ptrOf] at hl
      have hx1 := (lookG_some hx).1
      have hf0 := hD.files x hx1
      have hbl := hB x.fl (by rw [hD.fl]; exact List.mem_map_of_mem hx1)
      simp only [Ent.fl] at hbl
      obtain ⟨a, c, ev, hsee, hnil, hcap⟩ := Row.parts hf0.row
      have c00 := hf0.box.c0
      rw [ev] at c00
      by_cases hn : n < 0
      · have hfin : ChgP p mb xs (doD d 2 name to n) w (.returned (.int .i64 43)) w := ChgP.same hD (by simp [doD, refusedD, hd, hlk, hn])
        clear hnil hsee
        go_wp2_with fail
        go_ret
        exact hfin
      by_cases hm : (x.bytes.length : Int) < n
      · have hfin : ChgP p mb xs (doD d 2 name to n) w (.returned (.int .i64 43)) w := ChgP.same hD (by simp [doD, refusedD, hd, hlk, Ent.fl, hm])
        clear hnil hsee
        go_wp2_with fail
        go_ret
        exact hfin
      obtain ⟨m, rfl⟩ : ∃ m : Nat, n = m := ⟨n.toNat, by omega⟩
      have hr0 : refusedD d 2 name to m = 0 := by simp [refusedD, hd, hlk, Ent.fl]; omega
      have hst := cStep hD hs hd
      have hdies := @do_dies d 2 name to m hr0
      have hdone := @do_done d 2 name to m hr0
      obtain ⟨ef, _, _⟩ := stepD_files d
      generalize stepD d = sd at *
      obtain ⟨d1, b⟩ := sd
      simp only at hst hdies hdone ef
      clear hr0 hsee hnil
      go_wp2_with fail
      refine hst.mono ?_
      rintro e w1 ⟨rfl, hD1, k1⟩
      cases b with
      | true =>
        go_wp2_with fail
        go_ret
        rw [hdies (by trivial)]
        exact ⟨rfl, xs, hD1, mvStep k1⟩
      | false =>
        have hf := hD1.files x hx1
        have c0 := hf.box.c0
        have f0 := hf.box.free 0
        have f1 := hf.box.free 1
        have cc1 := hf.box.c1
        rw [ev] at c0
        have hml : m ≤ x.bytes.length := by omega
        have hfin : ∀ l : Int, l = ((min x.last m : Nat) : Int) → ChgP p mb xs (doD d 2 name to m) w (.returned (.int .i64 0)) ((w1.setCell ⟨x.blk, 0, none⟩ (.slice a m c)).setCell ⟨x.blk, 1, none⟩ (.int .i64 l)) := fun l hl => by
          subst hl
          have hk1 : ∀ S, x.blk ∈ S → Kp S w1 ((w1.setCell ⟨x.blk, 0, none⟩ (.slice a m c)).setCell ⟨x.blk, 1, none⟩ (.int .i64 ((min x.last m : Nat) : Int))) := fun S hS => ((Kp.refl _ w1).setCell (p := ⟨x.blk, 0, none⟩) (.inl hS) _).setCell (p := ⟨x.blk, 1, none⟩) (.inl hS) _
          have hrow := hf.row
          have hap := hf.ap
          rw [ev] at hrow hap
          have hok : Okd { d1 with files := putG Fl.name (⟨x.name, x.blk, .slice a m c, x.bytes.take m, min x.last m⟩ : Ent).fl false d1.files } := okTrunc (f := x.fl) hD1.ok (by rw [ef]; exact hlk) m hml
          have hin := hD1.inPlace ⟨x.name, x.blk, .slice a m c, x.bytes.take m, min x.last m⟩ hx1 rfl rfl (hk1 x.foot (by simp [Ent.foot]))
            ⟨(hf.box.set0 _).set1 _, (Row.cut hrow m hml).kept (hk1 [x.blk] (by simp)) (fun k hk' e => hap (by rw [List.mem_singleton] at e; subst e; rw [own_slice] at hk' ⊢; exact hk')), by simp only [own_slice] at hap ⊢; exact hap⟩
            (fun k hk' => .inl (by simp only [Ent.foot, ev, own_slice] at hk' ⊢; exact hk')) hok
          rw [hdone (by trivial)]
          refine ⟨rfl, _, ?_, (mvStep k1).trans hin.2⟩
          have e : changedF d.files 2 name to m = putG Fl.name (⟨x.name, x.blk, .slice a m c, x.bytes.take m, min x.last m⟩ : Ent).fl false d1.files := by
            simp only [changedF, if_pos, fileOf_some hlk, ef]; rfl
          show Disk _ p mb _ { d1 with files := changedF d.files 2 name to m }
          rw [e]
          exact hin.1
        generalize x.bytes.length = L at c0 hml hcap hbl
        clear c00 hm hn c1 c4 hdone hdies hlk ev hd ef hx hst hf hn0 hn1
        go_wp2_with fail
        all_goals
          go_ret
          exact hfin _ (by omega)
end Go.Proofs.YtpkoikennimonaaGreatDoor
end

section
namespace Go.Proofs.YtpkoikennimonaaGreatDoor
open Go.RowKit Go.Hay Go.Maps
set_option linter.unusedVariables false
set_option linter.unusedSimpArgs false

set_option maxHeartbeats 1000000 in
set_option maxRecDepth 100000 in
theorem cRemove {w : World} {p mb : Nat} {xs : List Ent} {d : Dk} (hD : Disk w p mb xs d) (hs : d.steps < 9000000000000000000) (name : List UInt8) (hk : name.length ≤ maxLen) (to : List UInt8) (n : Int) :
    Calls Tryz.prog 34 #[.pointer (some ⟨p, 0, none⟩), .string ⟨name.toArray⟩] w (ChgP p mb xs (doD d 4 name to n) w) := by
  have c1 := hD.hd.c1
  have c4 := hD.hd.c4
  have hl := lookF hD.map name hk
  have hlk := hD.look name
  go_enter Tryz.func34, Tryz.ntmps34
  cases hd : d.dead with
  | true =>
    have hfin := ChgP.same hD (ref_dead hd 4 name to n)
    rw [hd] at c4
    go_wp2_with fail
    go_ret
    exact hfin
  | false =>
    rw [hd] at c4
    cases hx : lookG Ent.name name xs with
    | none =>
      rw [hx] at hl
      have hfin := ChgP.same hD (ref_none hd (by rw [hlk, hx]; rfl) 4 to n)
      simp only [ptrOf] at hl
      go_wp2_with fail
      go_ret
      exact hfin
    | some x =>
      rw [hx] at hl hlk
      simp only [ptrOf] at hl
      have hr0 : refusedD d 4 name to n = 0 := by simp [refusedD, hd, hlk]
      have hst := cStep hD hs hd
      have hdies := @do_dies d 4 name to n hr0
      have hdone := @do_done d 4 name to n hr0
      obtain ⟨ef, _, _⟩ := stepD_files d
      generalize stepD d = sd at *
      obtain ⟨d1, b⟩ := sd
      simp only at hst hdies hdone ef
      clear hr0
      go_wp2_with fail
      refine hst.mono ?_
      rintro e w1 ⟨rfl, hD1, k1⟩
      cases b with
      | true =>
        go_wp2_with fail
        go_ret
        rw [hdies (by trivial)]
        exact ⟨rfl, xs, hD1, mvStep k1⟩
      | false =>
        obtain ⟨w2, hrun, hown, kp⟩ := dropF hD1.map name hk 0
        have hre := hD1.removed name kp hown
        have hfin : ChgP p mb xs (doD d 4 name to n) w (.returned (.int .i64 0)) w2 := by
          rw [hdone (by trivial)]
          refine ⟨rfl, _, ?_, (mvStep k1).trans hre.2⟩
          show Disk _ p mb _ { d1 with files := changedF d.files 4 name to n }
          have e : changedF d.files 4 name to n = dropG Fl.name name d1.files := by simp [changedF, ef]
          rw [e]
          exact hre.1
        have c1' := hD1.hd.c1
        clear hre hown hdone hdies hlk ef hx hst c1
        go_wp2_with fail
        go_ret
        exact hfin

end Go.Proofs.YtpkoikennimonaaGreatDoor
end

section
namespace Go.Proofs.YtpkoikennimonaaGreatDoor
open Go.RowKit Go.Hay Go.Maps
set_option linter.unusedVariables false
set_option linter.unusedSimpArgs false

theorem clearF {w : World} {mb : Nat} {xs : List Ent} (h : OwnsM w mb xs) (ty : TypeId) :
    ∃ w', (Builtin.clear_ #[52] ty #[.map (some mb)]).run Tryz.prog w = .ok (.tuple #[]) w' ∧ OwnsM w' mb [] ∧ Kp [mb] w w' := by
  obtain ⟨es, clock, hb, F, hs, hD⟩ := h
  refine ⟨Go.ChangeMaps.setBlock w mb (.map #[] clock), ?_, ⟨#[], clock, Go.ChangeMaps.heap_setBlock_same hb _, ⟨by simp, MapKept.stamped_empty clock, by simp⟩, Nat.le_refl _, rfl⟩, turned_kp ⟨es, clock, #[], clock, hb, rfl⟩⟩
  simp [Builtin.clear_, run_underlying Tryz.underlying52, MapKept.run_getObj_map hb, MapKept.run_setObj_map _ hb, Result.andThen]
  rfl
theorem flipBit (y : UInt8) (q : Nat) : bits BinOp.xor IntKind.u8 (y.toNat : Int) (2 ^ q % 256) = ((y ^^^ UInt8.ofNat (2 ^ q)).toNat : Int) := by
  have e : ((2 : Int) ^ q % 256) = ((2 ^ q % 256 : Nat) : Int) := by simp
  rw [e, u8_xor_nat _ _ (UInt8.toNat_lt y) (by omega)]
  simp
theorem Row.put {w : World} {g o n cap : Nat} {bs : List UInt8} (h : Row w (.slice (some ⟨g, o, none⟩) n cap) bs) (i : Nat) (hi : i < bs.length) (y : UInt8) : Row (w.setCell ⟨g, o + i, none⟩ (.int .u8 y.toNat)) (.slice (some ⟨g, o, none⟩) n cap) (bs.set i y) := by
  rcases h with ⟨e, rfl⟩ | ⟨g, o, c, e, hl, hx, hg, hc, ht⟩
  · cases e
  · cases e
    refine .inr ⟨_, _, _, by rw [List.length_set], by rw [List.length_set]; exact hl, hx, by simpa [World.setCell] using hg, fun j u hu => ?_, fun j hj => ⟨?_, (World.frozen?_setCell _ _ _ _).trans (ht j hj).2⟩⟩
    · by_cases e : j = i
      · subst e
        rw [List.getElem?_set_self hi] at hu
        cases hu
        exact World.cell?_setCell_same _ _ _ (hc j bs[j] (by simp [hi]))
      · rw [List.getElem?_set_ne (Ne.symm e)] at hu
        rw [World.cell?_setCell_other _ _ _ _ (by intro h; simp only [Addr.mk.injEq] at h; omega)]
        exact hc j u hu
    · by_cases e : j = i
      · subst e
        rw [World.cell?_setCell_same _ _ _ (hc j bs[j] (by simp [hi]))]
        rfl
      · rw [World.cell?_setCell_other _ _ _ _ (by intro h; simp only [Addr.mk.injEq] at h; omega)]
        exact (ht j hj).1
def FlipP (p mb : Nat) (xs : List Ent) (d : Dk) (b : Bool) (w : World) (e : Ending) (w' : World) : Prop := e = .returned (.bool b) ∧ ∃ xs', Disk w' p mb xs' d ∧ Mv (foot p mb xs) w (foot p mb xs') w'
theorem flip_not {d : Dk} {name : List UInt8} {i b : Int} (h : flipOk d name i b = false) : flipD d name i b = d := by simp [flipD, h]
end Go.Proofs.YtpkoikennimonaaGreatDoor
end

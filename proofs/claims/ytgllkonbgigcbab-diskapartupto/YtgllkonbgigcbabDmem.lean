/- How a disk lies in memory: its own block, the map of its files, the files' blocks and their rows of bytes. -/
import Derived.Test.YtgllkonbgigcbabRows
import Derived.Test.YtgllkonbgigcbabDdef
import Derived.Maps.OwnSet
import Derived.Maps.RangeWalk
import Derived.Handy
import Derived.StringKeys
namespace Go.Proofs.Ytgllkonbgigcbab
open Go.RowKit Go.Hay Go.Maps
set_option linter.unusedVariables false
set_option linter.unusedSimpArgs false

/-- A disk's own block. -/
structure Hd (w : World) (p : Nat) (room : Int) (mb : Nat) (steps left : Int) (dead : Bool) : Prop where
  c0 : w.cell? ⟨p, 0, none⟩ = some (.int .i64 room)
  c1 : w.cell? ⟨p, 1, none⟩ = some (.map (some mb))
  c2 : w.cell? ⟨p, 2, none⟩ = some (.int .i64 steps)
  c3 : w.cell? ⟨p, 3, none⟩ = some (.int .i64 left)
  c4 : w.cell? ⟨p, 4, none⟩ = some (.bool dead)
  free : ∀ j, w.frozen? ⟨p, j, none⟩ = false
section
variable {w w' : World} {p mb : Nat} {room steps left : Int} {dead : Bool}
theorem Hd.lt (h : Hd w p room mb steps left dead) : p < w.heap.size := World.block_lt_of_cell? _ _ h.c0
theorem Hd.kept {S : List Nat} (h : Hd w p room mb steps left dead) (hk : Kp S w w') (hp : p ∉ S) : Hd w' p room mb steps left dead :=
  ⟨(hk.cell (p := ⟨p, 0, none⟩) h.lt hp).trans h.c0, (hk.cell (p := ⟨p, 1, none⟩) h.lt hp).trans h.c1, (hk.cell (p := ⟨p, 2, none⟩) h.lt hp).trans h.c2, (hk.cell (p := ⟨p, 3, none⟩) h.lt hp).trans h.c3, (hk.cell (p := ⟨p, 4, none⟩) h.lt hp).trans h.c4, fun j => (hk.frozen (p := ⟨p, j, none⟩) h.lt hp).trans (h.free j)⟩
theorem off_ne {p i j : Nat} (h : i ≠ j) : (⟨p, i, none⟩ : Addr) ≠ ⟨p, j, none⟩ := fun e => h (by injection e)
theorem setCell_off {w : World} {p i j : Nat} (h : i ≠ j) (v : Value) : (w.setCell ⟨p, j, none⟩ v).cell? ⟨p, i, none⟩ = w.cell? ⟨p, i, none⟩ := World.cell?_setCell_other _ _ _ _ (off_ne (Ne.symm h))
theorem Hd.set2 (h : Hd w p room mb steps left dead) (s : Int) : Hd (w.setCell ⟨p, 2, none⟩ (.int .i64 s)) p room mb s left dead :=
  ⟨(setCell_off (by decide) _).trans h.c0, (setCell_off (by decide) _).trans h.c1, World.cell?_setCell_same _ _ _ h.c2, (setCell_off (by decide) _).trans h.c3, (setCell_off (by decide) _).trans h.c4, fun j => (World.frozen?_setCell _ _ _ _).trans (h.free j)⟩
theorem Hd.set3 (h : Hd w p room mb steps left dead) (s : Int) : Hd (w.setCell ⟨p, 3, none⟩ (.int .i64 s)) p room mb steps s dead :=
  ⟨(setCell_off (by decide) _).trans h.c0, (setCell_off (by decide) _).trans h.c1, (setCell_off (by decide) _).trans h.c2, World.cell?_setCell_same _ _ _ h.c3, (setCell_off (by decide) _).trans h.c4, fun j => (World.frozen?_setCell _ _ _ _).trans (h.free j)⟩
theorem Hd.set4 (h : Hd w p room mb steps left dead) (s : Bool) : Hd (w.setCell ⟨p, 4, none⟩ (.bool s)) p room mb steps left s :=
  ⟨(setCell_off (by decide) _).trans h.c0, (setCell_off (by decide) _).trans h.c1, (setCell_off (by decide) _).trans h.c2, (setCell_off (by decide) _).trans h.c3, World.cell?_setCell_same _ _ _ h.c4, fun j => (World.frozen?_setCell _ _ _ _).trans (h.free j)⟩
theorem Hd.set1 (h : Hd w p room mb steps left dead) (m : Nat) : Hd (w.setCell ⟨p, 1, none⟩ (.map (some m))) p room m steps left dead :=
  ⟨(setCell_off (by decide) _).trans h.c0, World.cell?_setCell_same _ _ _ h.c1, (setCell_off (by decide) _).trans h.c2, (setCell_off (by decide) _).trans h.c3, (setCell_off (by decide) _).trans h.c4, fun j => (World.frozen?_setCell _ _ _ _).trans (h.free j)⟩
theorem Hd.new (w : World) (t : TypeId) : Hd (w.alloc (.cells #[.int .i64 room, .map (some mb), .int .i64 steps, .int .i64 left, .bool dead] t)) w.heap.size room mb steps left dead :=
  ⟨World.cell?_alloc_new w _ _ 0, World.cell?_alloc_new w _ _ 1, World.cell?_alloc_new w _ _ 2, World.cell?_alloc_new w _ _ 3, World.cell?_alloc_new w _ _ 4, fun j => World.frozen?_alloc_new w _ _ j⟩
theorem Hd.at (q : Nat) (hq : w.heap.size = q) (t : TypeId) : Hd (w.alloc (.cells #[.int .i64 room, .map (some mb), .int .i64 steps, .int .i64 left, .bool dead] t)) q room mb steps left dead := by subst hq; exact Hd.new w t
end

/-- A file's own block. -/
structure Fx (w : World) (b : Nat) (v : Value) (last : Int) : Prop where
  c0 : w.cell? ⟨b, 0, none⟩ = some v
  c1 : w.cell? ⟨b, 1, none⟩ = some (.int .i64 last)
  free : ∀ j, w.frozen? ⟨b, j, none⟩ = false
section
variable {w w' : World} {b : Nat} {v : Value} {last : Int}
theorem Fx.lt (h : Fx w b v last) : b < w.heap.size := World.block_lt_of_cell? _ _ h.c0
theorem Fx.kept {S : List Nat} (h : Fx w b v last) (hk : Kp S w w') (hp : b ∉ S) : Fx w' b v last :=
  ⟨(hk.cell (p := ⟨b, 0, none⟩) h.lt hp).trans h.c0, (hk.cell (p := ⟨b, 1, none⟩) h.lt hp).trans h.c1, fun j => (hk.frozen (p := ⟨b, j, none⟩) h.lt hp).trans (h.free j)⟩
theorem Fx.set0 (h : Fx w b v last) (u : Value) : Fx (w.setCell ⟨b, 0, none⟩ u) b u last :=
  ⟨World.cell?_setCell_same _ _ _ h.c0, (setCell_off (by decide) _).trans h.c1, fun j => (World.frozen?_setCell _ _ _ _).trans (h.free j)⟩
theorem Fx.set1 (h : Fx w b v last) (l : Int) : Fx (w.setCell ⟨b, 1, none⟩ (.int .i64 l)) b v l :=
  ⟨(setCell_off (by decide) _).trans h.c0, World.cell?_setCell_same _ _ _ h.c1, fun j => (World.frozen?_setCell _ _ _ _).trans (h.free j)⟩
theorem Fx.at (q : Nat) (hq : w.heap.size = q) (t : TypeId) : Fx (w.alloc (.cells #[v, .int .i64 last] t)) q v last := by
  subst hq
  exact ⟨World.cell?_alloc_new w _ _ 0, World.cell?_alloc_new w _ _ 1, fun j => World.frozen?_alloc_new w _ _ j⟩
end

/-- A file, and where it lies. -/
structure Ent where
  name : List UInt8
  blk : Nat
  v : Value
  bytes : List UInt8
  last : Nat
def Ent.fl (x : Ent) : Fl := ⟨x.name, x.bytes, x.last⟩
def Ent.foot (x : Ent) : List Nat := x.blk :: own x.v
def Ent.dat (x : Ent) : Lit × DataW Unit := (.string x.name, .lit (.int .i64 x.blk))
/-- How a pointer to a file reads: as its block's number. -/
def ptrR : Value → Option (DataW Unit × List MemPlace)
  | .pointer none => some (.nil, [])
  | .pointer (some ⟨b, 0, none⟩) => some (.lit (.int .i64 b), [])
  | _ => none
theorem ptrR_inv {v : Value} {b : Nat} {ps : List MemPlace} (h : ptrR v = some (.lit (.int .i64 b), ps)) : v = .pointer (some ⟨b, 0, none⟩) := by
  unfold ptrR at h
  split at h
  · simp at h
  · simp at h; rw [Int.ofNat_inj.1 h.1]
  · cases h
theorem ptrR_nil {v : Value} {ps : List MemPlace} (h : ptrR v = some (.nil, ps)) : v = .pointer none := by
  unfold ptrR at h
  split at h
  · rfl
  · simp at h
  · cases h

structure FileAt (w : World) (x : Ent) : Prop where
  box : Fx w x.blk x.v x.last
  row : Row w x.v x.bytes
  ap : x.blk ∉ own x.v
theorem FileAt.kept {w w' : World} {x : Ent} {S : List Nat} (h : FileAt w x) (hk : Kp S w w') (hn : ∀ k ∈ x.foot, k ∉ S) : FileAt w' x :=
  ⟨h.box.kept hk (hn _ (by simp [Ent.foot])), h.row.kept hk (fun k hk' => hn k (by simp [Ent.foot, hk'])), h.ap⟩
theorem FileAt.lt {w : World} {x : Ent} (h : FileAt w x) : ∀ k ∈ x.foot, k < w.heap.size := fun k hk => by
  rcases List.mem_cons.1 hk with rfl | hk
  · exact h.box.lt
  · exact h.row.lt k hk

def foot (p mb : Nat) (xs : List Ent) : List Nat := p :: mb :: xs.flatMap Ent.foot
theorem mem_foot {p mb k : Nat} {xs : List Ent} : k ∈ foot p mb xs ↔ k = p ∨ k = mb ∨ ∃ x ∈ xs, k ∈ x.foot := by simp [foot]
def leftOf (d : Dk) : Int := match d.arm with | none => -1 | some n => n

abbrev OwnsM (w : World) (mb : Nat) (xs : List Ent) : Prop := w.ownsMap Try.prog 9 ptrR mb xs.length (.map (xs.map Ent.dat))
theorem OwnsM.kept {w w' : World} {mb : Nat} {xs : List Ent} {S : List Nat} (h : OwnsM w mb xs) (hk : Kp S w w') (hn : mb ∉ S) : OwnsM w' mb xs := by
  have hlt := h.lt
  obtain ⟨es, clock, hb, F, hs, hD⟩ := h
  exact ⟨es, clock, (hk.block mb hlt hn).trans hb, F, hs, hD⟩

/-- A disk lies at p. -/
structure Disk (w : World) (p mb : Nat) (xs : List Ent) (d : Dk) : Prop where
  hd : Hd w p d.room mb d.steps (leftOf d) d.dead
  map : OwnsM w mb xs
  files : ∀ x ∈ xs, FileAt w x
  rise : riseG Ent.name xs
  pm : p ≠ mb
  px : ∀ x ∈ xs, p ∉ x.foot ∧ mb ∉ x.foot
  xy : ∀ x ∈ xs, ∀ y ∈ xs, x.name ≠ y.name → ∀ k ∈ x.foot, k ∉ y.foot
  fl : d.files = xs.map Ent.fl
  ok : Okd d
theorem Disk.lt {w : World} {p mb : Nat} {xs : List Ent} {d : Dk} (h : Disk w p mb xs d) : ∀ k ∈ foot p mb xs, k < w.heap.size := fun k hk => by
  rcases mem_foot.1 hk with rfl | rfl | ⟨x, hx, hk⟩
  · exact h.hd.lt
  · exact h.map.lt
  · exact (h.files x hx).lt k hk
theorem Disk.kept {w w' : World} {p mb : Nat} {xs : List Ent} {d : Dk} {S : List Nat} (h : Disk w p mb xs d) (hk : Kp S w w') (hn : ∀ k ∈ foot p mb xs, k ∉ S) : Disk w' p mb xs d :=
  ⟨h.hd.kept hk (hn p (mem_foot.2 (.inl rfl))), h.map.kept hk (hn mb (mem_foot.2 (.inr (.inl rfl)))), fun x hx => (h.files x hx).kept hk (fun k hk' => hn k (mem_foot.2 (.inr (.inr ⟨x, hx, hk'⟩)))), h.rise, h.pm, h.px, h.xy, h.fl, h.ok⟩
theorem Disk.keptNew {w w' : World} {p mb : Nat} {xs : List Ent} {d : Dk} (h : Disk w p mb xs d) (hk : Kp [] w w') : Disk w' p mb xs d := h.kept hk (by simp)

/-- Behind stores into the disk's own block. -/
theorem Disk.reHd {w w' : World} {p mb : Nat} {xs : List Ent} {d d' : Dk} (h : Disk w p mb xs d) (hk : Kp [p] w w') (hh : Hd w' p d'.room mb d'.steps (leftOf d') d'.dead) (hf : d'.files = d.files) (ho : Okd d') : Disk w' p mb xs d' :=
  ⟨hh, h.map.kept hk (by simpa using Ne.symm h.pm), fun x hx => (h.files x hx).kept hk (fun k hk' e => (h.px x hx).1 (by rw [List.mem_singleton] at e; rw [← e]; exact hk')), h.rise, h.pm, h.px, h.xy, hf.trans h.fl, ho⟩
theorem mvHd {w w' : World} {p mb : Nat} {xs : List Ent} (hk : Kp [p] w w') : Kp (foot p mb xs) w w' := hk.mono (fun x hx => by rw [List.mem_singleton] at hx; subst hx; exact .inl (mem_foot.2 (.inl rfl)))
/-- What a call on a disk may turn: the disk's own blocks; those behind it are these, or new. -/
structure Mv (S : List Nat) (w : World) (S' : List Nat) (w' : World) : Prop where
  kp : Kp S w w'
  new : ∀ k ∈ S', k ∈ S ∨ w.heap.size ≤ k
theorem Mv.refl (S : List Nat) (w : World) : Mv S w S w := ⟨Kp.refl _ _, fun _ h => .inl h⟩
theorem Mv.trans {S S1 S2 : List Nat} {w w1 w2 : World} (h : Mv S w S1 w1) (k : Mv S1 w1 S2 w2) : Mv S w S2 w2 :=
  ⟨h.kp.trans k.kp h.new, fun x hx => by
    rcases k.new x hx with h1 | h1
    · exact h.new x h1
    · exact .inr (Nat.le_trans h.kp.size h1)⟩
theorem Mv.ofNew {S : List Nat} {w w' : World} (h : Kp [] w w') : Mv S w S w' := ⟨h.mono (by simp), fun _ h => .inl h⟩

theorem keyedS : Keyed Try.prog 9 := string_keyed Try.underlying9
theorem keyS (k : List UInt8) (h : k.length ≤ maxLen) : keyOf Try.prog 9 (.string ⟨k.toArray⟩) = some (.string k) := by
  have := Go.WideMaps.keyOf_string_mk (P := Try.prog) (k := 9) Try.underlying9 (s := ⟨k.toArray⟩) (by simpa [ByteArray.size] using h)
  simpa using this

/-- The map's datum, by names. -/
theorem dat_at (xs : List Ent) (k : List UInt8) (z : DataW Unit) : DataW.atKey (.map (xs.map Ent.dat)) (.string k) z = match lookG Ent.name k xs with | some x => .lit (.int .i64 x.blk) | none => z := by
  have e : (xs.map Ent.dat).find? (fun p => p.1.sameKey (.string k)) = (lookG Ent.name k xs).map Ent.dat := by
    unfold lookG
    rw [List.find?_map]
    rfl
  unfold DataW.atKey
  simp only [e]
  cases lookG Ent.name k xs <;> rfl
theorem dat_filter (k : List UInt8) (l : List Ent) : (l.map Ent.dat).filter (fun p => !p.1.sameKey (.string k)) = (dropG Ent.name k l).map Ent.dat := by
  unfold dropG
  rw [List.filter_map]
  rfl
theorem dat_insert (e : Ent) : ∀ (l : List Ent), DataW.insert e.dat (l.map Ent.dat) = (insG Ent.name e l).map Ent.dat
  | [] => rfl
  | y :: r => by
    simp only [List.map_cons, DataW.insert, insG]
    have hb : e.dat.1.before y.dat.1 = bytesBefore e.name y.name := rfl
    rw [hb, dat_insert e r]
    split <;> rfl
theorem dat_put {xs : List Ent} (h : riseG Ent.name xs) (e : Ent) : DataW.put (.map (xs.map Ent.dat)) (.string e.name) (.lit (.int .i64 e.blk)) = .map ((putG Ent.name e false xs).map Ent.dat) := by
  unfold DataW.put
  simp only [dat_filter]
  rw [putG_ins e xs h]
  exact congrArg _ (dat_insert e _)
theorem dat_del (xs : List Ent) (k : List UInt8) : DataW.del (.map (xs.map Ent.dat)) (.string k) = .map ((dropG Ent.name k xs).map Ent.dat) := by
  unfold DataW.del
  simp only [dat_filter]
theorem dat_size (xs : List Ent) : Maps.size (DataW.map (xs.map Ent.dat)) = xs.length := by simp [Maps.size]
theorem dat_keys (xs : List Ent) : strKeys (DataW.map (xs.map Ent.dat)) = xs.map Ent.name := by
  simp [strKeys, Function.comp_def, Ent.dat, strOf]
theorem OwnsM.norm {w : World} {mb n : Nat} {xs : List Ent} (h : w.ownsMap Try.prog 9 ptrR mb n (.map (xs.map Ent.dat))) : OwnsM w mb xs := by
  obtain ⟨es, clock, hb, F, hs, hD⟩ := h
  refine ⟨es, clock, hb, F, ?_, hD⟩
  have := congrArg Maps.size hD
  rw [dat_size] at this
  rw [this]
  simp [Maps.size, length_sorted]
def ptrOf : Option Ent → Value
  | none => .pointer none
  | some x => .pointer (some ⟨x.blk, 0, none⟩)
theorem lookF {w : World} {mb : Nat} {xs : List Ent} (h : OwnsM w mb xs) (k : List UInt8) (hk : k.length ≤ maxLen) : (Instr.lookup 60 (.map (some mb)) (.string ⟨k.toArray⟩) false).run Try.prog w = .ok (ptrOf (lookG Ent.name k xs)) w := by
  obtain ⟨v, ps, hrun, hv⟩ := h.lookup keyedS Try.underlying60 (Try.zeroValue58 w) (zd := .nil) (zp := []) rfl (keyS k hk)
  rw [hrun]
  rw [dat_at] at hv
  cases hl : lookG Ent.name k xs with
  | none => rw [hl] at hv; rw [ptrR_nil hv]; rfl
  | some x => rw [hl] at hv; rw [ptrR_inv hv]; rfl
theorem lookF2 {w : World} {mb : Nat} {xs : List Ent} (h : OwnsM w mb xs) (k : List UInt8) (hk : k.length ≤ maxLen) : (Instr.lookup 60 (.map (some mb)) (.string ⟨k.toArray⟩) true).run Try.prog w = .ok (.tuple #[ptrOf (lookG Ent.name k xs), .bool (lookG Ent.name k xs).isSome]) w := by
  obtain ⟨v, ps, hrun, hv⟩ := h.look_ok keyedS Try.underlying60 (Try.zeroValue58 w) (zd := .nil) (zp := []) rfl (keyS k hk)
  rw [hrun]
  rw [dat_at] at hv
  have hh : Maps.has (DataW.map (xs.map Ent.dat)) (.string k) = (lookG Ent.name k xs).isSome := by
    cases hl : lookG Ent.name k xs with
    | none => exact Maps.has_false_of_atKey (fun z => by rw [dat_at, hl])
    | some x => exact Maps.has_true_of_atKey (y := .lit (.int .i64 x.blk)) (fun z => by rw [dat_at, hl])
  rw [hh]
  cases hl : lookG Ent.name k xs with
  | none => rw [hl] at hv; rw [ptrR_nil hv]; rfl
  | some x => rw [hl] at hv; rw [ptrR_inv hv]; rfl
theorem turned_kp {w w' : World} {b : Nat} (h : w.mapTurned w' b) : Kp [b] w w' :=
  (Kp.refl [b] w).grown h.grown (fun k e => by cases e; simp)
/-- 'm[k] = f'. -/
theorem storeF {w : World} {mb : Nat} {xs : List Ent} (h : OwnsM w mb xs) (hr : riseG Ent.name xs) (hn : xs.length < maxLen) (e : Ent) (he : e.name.length ≤ maxLen) :
    ∃ w', (Instr.mapUpdate 60 (.map (some mb)) (.string ⟨e.name.toArray⟩) (.pointer (some ⟨e.blk, 0, none⟩))).run Try.prog w = .ok () w' ∧ OwnsM w' mb (putG Ent.name e false xs) ∧ Kp [mb] w w' := by
  obtain ⟨w', hrun, hown, ht⟩ := h.store keyedS Try.underlying60 hn (keyS e.name he) (val := .pointer (some ⟨e.blk, 0, none⟩)) (d := .lit (.int .i64 e.blk)) (ps := []) rfl
  rw [dat_put hr] at hown
  exact ⟨w', hrun, OwnsM.norm hown, turned_kp ht⟩
/-- 'delete(m, k)'. -/
theorem dropF {w : World} {mb : Nat} {xs : List Ent} (h : OwnsM w mb xs) (k : List UInt8) (hk : k.length ≤ maxLen) (ty : TypeId) :
    ∃ w', (Builtin.delete_ #[60, 9] ty #[.map (some mb), .string ⟨k.toArray⟩]).run Try.prog w = .ok (.tuple #[]) w' ∧ OwnsM w' mb (dropG Ent.name k xs) ∧ Kp [mb] w w' := by
  obtain ⟨w', hrun, hown, ht⟩ := h.drop keyedS Try.underlying60 (keyS k hk) ty
  rw [dat_del] at hown
  exact ⟨w', hrun, OwnsM.norm hown, turned_kp ht⟩
end Go.Proofs.Ytgllkonbgigcbab

/- Wipe, Flip. -/
import Derived.Test.YtgllkonbgigcbabDop2
import Derived.RegionTactic
import Derived.BigRegion
import Derived.Laws.BitsAllLaws
namespace Go.Proofs.Ytgllkonbgigcbab
open Go.RowKit Go.Hay Go.Maps
set_option linter.unusedVariables false
set_option linter.unusedSimpArgs false

theorem clearF {w : World} {mb : Nat} {xs : List Ent} (h : OwnsM w mb xs) (ty : TypeId) :
    ∃ w', (Builtin.clear_ #[60] ty #[.map (some mb)]).run Try.prog w = .ok (.tuple #[]) w' ∧ OwnsM w' mb [] ∧ Kp [mb] w w' := by
  obtain ⟨es, clock, hb, F, hs, hD⟩ := h
  refine ⟨Go.ChangeMaps.setBlock w mb (.map #[] clock), ?_, ⟨#[], clock, Go.ChangeMaps.heap_setBlock_same hb _, ⟨by simp, MapKept.stamped_empty clock, by simp⟩, Nat.le_refl _, rfl⟩, turned_kp ⟨es, clock, #[], clock, hb, rfl⟩⟩
  simp [Builtin.clear_, run_underlying Try.underlying60, MapKept.run_getObj_map hb, MapKept.run_setObj_map _ hb, Result.andThen]
  rfl
theorem cWipe {w : World} {p mb : Nat} {xs : List Ent} {d : Dk} (hD : Disk w p mb xs d) :
    Calls Try.prog 11 #[.pointer (some ⟨p, 0, none⟩)] w fun e w' => e = .returned (.tuple #[]) ∧ Disk w' p mb [] (wipeD d) ∧ Mv (foot p mb xs) w (foot p mb []) w' := by
  have c1 := hD.hd.c1
  obtain ⟨w2, hrun, hown, kp⟩ := clearF hD.map 0
  have hre : Disk w2 p mb [] (wipeD d) ∧ Mv (foot p mb xs) w (foot p mb []) w2 := hD.reMap (Kp.refl _ _) kp hown List.Pairwise.nil (by simp) (by simp) (by simp) rfl rfl rfl rfl rfl (okWipe hD.ok)
  go_enter Try.func11, Try.ntmps11
  clear hown
  go_wp2_with fail
  go_returns
  exact ⟨rfl, hre⟩

theorem flipBit (y : UInt8) (q : Nat) : bits BinOp.xor IntKind.u8 (y.toNat : Int) (2 ^ q % 256) = ((y ^^^ UInt8.ofNat (2 ^ q)).toNat : Int) := by
  have e : ((2 : Int) ^ q % 256) = ((2 ^ q % 256 : Nat) : Int) := by simp
  rw [e, u8_xor_nat _ _ (UInt8.toNat_lt y) (by omega)]
  simp
theorem Row.put {w : World} {g o n cap : Nat} {bs : List UInt8} (h : Row w (.slice (some ⟨g, o, none⟩) n cap) bs) (i : Nat) (hi : i < bs.length) (y : UInt8) : Row (w.setCell ⟨g, o + i, none⟩ (.int .u8 y.toNat)) (.slice (some ⟨g, o, none⟩) n cap) (bs.set i y) := by
  rcases h with ⟨e, rfl⟩ | ⟨g, o, c, e, hl, hx, hg, hc, ht⟩
  · cases e
  · cases e
    refine .inr ⟨_, _, _, by rw [List.length_set], by rw [List.length_set]; exact hl, hx, by simpa [World.setCell] using hg, fun j u hu => ?_, fun j hj => ⟨?_, (World.frozen?_setCell _ _ _ _).trans (ht j hj).2⟩⟩
    · by_cases e : j = i
      · subst e
        rw [List.getElem?_set_self hi] at hu
        cases hu
        exact World.cell?_setCell_same _ _ _ (hc j bs[j] (by simp [hi]))
      · rw [List.getElem?_set_ne (Ne.symm e)] at hu
        rw [World.cell?_setCell_other _ _ _ _ (by intro h; simp only [Addr.mk.injEq] at h; omega)]
        exact hc j u hu
    · by_cases e : j = i
      · subst e
        rw [World.cell?_setCell_same _ _ _ (hc j bs[j] (by simp [hi]))]
        rfl
      · rw [World.cell?_setCell_other _ _ _ _ (by intro h; simp only [Addr.mk.injEq] at h; omega)]
        exact (ht j hj).1
def FlipP (p mb : Nat) (xs : List Ent) (d : Dk) (b : Bool) (w : World) (e : Ending) (w' : World) : Prop := e = .returned (.bool b) ∧ ∃ xs', Disk w' p mb xs' d ∧ Mv (foot p mb xs) w (foot p mb xs') w'
theorem flip_not {d : Dk} {name : List UInt8} {i b : Int} (h : flipOk d name i b = false) : flipD d name i b = d := by simp [flipD, h]
set_option maxHeartbeats 1000000 in
set_option maxRecDepth 100000 in
theorem cFlip {w : World} {p mb : Nat} {xs : List Ent} {d : Dk} (hD : Disk w p mb xs d) (hB : Small d) (name : List UInt8) (hk : name.length ≤ maxLen) (i b : Int) (hi0 : -9223372036854775808 ≤ i) (hi1 : i < 9223372036854775808) (hb0 : -9223372036854775808 ≤ b) (hb1 : b < 9223372036854775808) :
    Calls Try.prog 26 #[.pointer (some ⟨p, 0, none⟩), .string ⟨name.toArray⟩, .int .i64 i, .int .i64 b] w (FlipP p mb xs (flipD d name i b) (flipOk d name i b) w) := by
  have c1 := hD.hd.c1
  have hl := lookF hD.map name hk
  have hlk := hD.look name
  go_enter Try.func26, Try.ntmps26
  have hno : flipOk d name i b = false → FlipP p mb xs (flipD d name i b) (flipOk d name i b) w (.returned (.bool false)) w := fun h => ⟨by rw [h], xs, by rw [flip_not h]; exact hD, Mv.refl _ _⟩
  cases hx : lookG Ent.name name xs with
  | none =>
    rw [hx] at hl hlk
    have hfin := hno (by simp [flipOk, hlk])
    simp only [ptrOf] at hl
    clear hno hlk hx
    go_wp2_with fail
    go_ret
    exact hfin
  | some x =>
    rw [hx] at hl hlk
    simp only [ptrOf] at hl
    have hx1 := (lookG_some hx).1
    have hf := hD.files x hx1
    have hbl := hB x.fl (by rw [hD.fl]; exact List.mem_map_of_mem hx1)
    simp only [Ent.fl] at hbl
    have hrow := hf.row
    have hap := hf.ap
    have c0 := hf.box.c0
    have hok' : flipOk d name i b = (decide (0 ≤ i) && decide (i < x.bytes.length) && decide (0 ≤ b) && decide (b ≤ 7)) := by simp only [flipOk, hlk]; rfl
    obtain ⟨a, c, ev, hsee, hnil, hcap⟩ := Row.parts hrow
    by_cases h1 : i < 0
    · have hfin := hno (by rw [hok', show decide (0 ≤ i) = false by simp; omega]; rfl)
      rw [ev] at c0
      clear hno hok' hlk hx hsee hnil ev hf
      go_wp2_with fail
      go_ret
      exact hfin
    by_cases h2 : (x.bytes.length : Int) ≤ i
    · have hfin := hno (by rw [hok', show decide (i < (x.bytes.length : Int)) = false by simp; omega]; simp)
      rw [ev] at c0
      clear hno hok' hlk hx hsee hnil ev hf
      go_wp2_with fail
      go_ret
      exact hfin
    by_cases h3 : b < 0
    · have hfin := hno (by rw [hok', show decide (0 ≤ b) = false by simp; omega]; simp)
      rw [ev] at c0
      clear hno hok' hlk hx hsee hnil ev hf
      go_wp2_with fail
      go_ret
      exact hfin
    by_cases h4 : 7 < b
    · have hfin := hno (by rw [hok', show decide (b ≤ 7) = false by simp; omega]; simp)
      rw [ev] at c0
      clear hno hok' hlk hx hsee hnil ev hf
      go_wp2_with fail
      go_ret
      exact hfin
    obtain ⟨m, rfl⟩ : ∃ m : Nat, i = m := ⟨i.toNat, by omega⟩
    obtain ⟨q, rfl⟩ : ∃ q : Nat, b = q := ⟨b.toNat, by omega⟩
    rcases hrow with ⟨hv, hbs⟩ | ⟨g, o, cap, hv, hle, hmx, hg, hcs, hfr⟩
    · rw [hbs] at h2; simp at h2
    have hm : m < x.bytes.length := by omega
    obtain ⟨y, hy⟩ : ∃ y : UInt8, x.bytes[m]? = some y := ⟨x.bytes[m], by simp [hm]⟩
    have cy := hcs m y hy
    have fy := (hfr m (by omega)).2
    have hfin : FlipP p mb xs (flipD d name m q) (flipOk d name m q) w (.returned (.bool true)) (w.setCell ⟨g, o + m, none⟩ (.int .u8 (bits BinOp.xor IntKind.u8 (y.toNat : Int) (2 ^ q % 256)))).drew := by
      have hro := hf.row
      rw [hv] at hro hap
      rw [flipBit]
      have hk1 : ∀ S, g ∈ S → Kp S w (w.setCell ⟨g, o + m, none⟩ (.int .u8 ((y ^^^ UInt8.ofNat (2 ^ q)).toNat : Int))) := fun S hS => (Kp.refl _ w).setCell (p := ⟨g, o + m, none⟩) (.inl hS) _
      have e1 : flipB x.bytes m q = x.bytes.set m (y ^^^ UInt8.ofNat (2 ^ q)) := by simp [flipB, hy]
      have hgx : g ∈ x.foot := by simp [Ent.foot, hv, own_slice, blk]
      have hgb : x.blk ≠ g := by simpa [own_slice, blk] using hap
      have hin := hD.inPlace { x with bytes := flipB x.bytes m q } hx1 rfl rfl (hk1 x.foot hgx)
        ⟨hf.box.kept (hk1 [g] (by simp)) (by simpa using hgb), by simp only [e1, hv]; exact Row.put hro m (by omega) _, hf.ap⟩ (fun k hk' => .inl hk') (okFlip (f := x.fl) hD.ok hlk m q)
      have hok : flipOk d name m q = true := by rw [hok']; simp; omega
      have e2 : flipD d name m q = { d with files := putG Fl.name ({ x with bytes := flipB x.bytes m q } : Ent).fl false d.files } := by
        rw [flipD, if_pos hok, fileOf_some hlk]; rfl
      refine ⟨by rw [hok], _, ?_, hin.2.kp.drew, hin.2.new⟩
      rw [e2]
      exact hin.1.keptNew (Kp.refl _ _).drew
    rw [hv] at c0
    generalize hL : x.bytes.length = L at c0 hm hle hbl
    clear hno hlk hx hsee hnil ev hf hok' h1 h2 h3 hcs hfr hi0 hi1 hb0 hb1
    have h4' : q ≤ 7 := by omega
    go_wp2_with fail
    go_region
    go_wp2_with fail
    go_ret
    exact hfin
end Go.Proofs.Ytgllkonbgigcbab

/- Sync, Truncate, Rename, Remove. -/
import Derived.Test.YtgllkonbgigcbabDchg
namespace Go.Proofs.Ytgllkonbgigcbab
open Go.RowKit Go.Hay Go.Maps
set_option linter.unusedVariables false
set_option linter.unusedSimpArgs false

theorem ref_dead {d : Dk} (h : d.dead = true) (call : Int) (name to : List UInt8) (n : Int) : doD d call name to n = (d, 44) := by simp [doD, refusedD, h]
theorem ref_none {d : Dk} (h : d.dead = false) {name : List UInt8} (hl : lookG Fl.name name d.files = none) (call : Int) (to : List UInt8) (n : Int) : doD d call name to n = (d, 42) := by simp [doD, refusedD, h, hl]
theorem do_dies {d : Dk} {call : Int} {name to : List UInt8} {n : Int} (h : refusedD d call name to n = 0) (hs : (stepD d).2 = true) : doD d call name to n = ((stepD d).1, 44) := by simp [doD, h, hs]
theorem do_done {d : Dk} {call : Int} {name to : List UInt8} {n : Int} (h : refusedD d call name to n = 0) (hs : (stepD d).2 = false) : doD d call name to n = ({ (stepD d).1 with files := changedF d.files call name to n }, 0) := by simp [doD, h, hs]
theorem mvStep {w w1 : World} {p mb : Nat} {xs : List Ent} (k : Kp [p] w w1) : Mv (foot p mb xs) w (foot p mb xs) w1 := ⟨mvHd k, fun _ h => .inl h⟩

theorem Row.cut {w : World} {a : Option Addr} {n c : Nat} {bs : List UInt8} (h : Row w (.slice a n c) bs) (m : Nat) (hm : m ≤ bs.length) : Row w (.slice a m c) (bs.take m) := by
  rcases h with ⟨e, rfl⟩ | ⟨g, o, cap, e, hl, hx, hg, hc, ht⟩
  · cases e
    obtain rfl : m = 0 := by simpa using hm
    exact .inl ⟨rfl, rfl⟩
  · cases e
    refine .inr ⟨g, o, c, by rw [List.length_take, Nat.min_eq_left hm], by rw [List.length_take]; omega, hx, hg, fun j u hu => ?_, ht⟩
    rw [List.getElem?_take] at hu
    split at hu
    · exact hc j u hu
    · cases hu
set_option maxHeartbeats 1000000 in
set_option maxRecDepth 100000 in
theorem cSync {w : World} {p mb : Nat} {xs : List Ent} {d : Dk} (hD : Disk w p mb xs d) (hs : d.steps < 9000000000000000000) (name : List UInt8) (hk : name.length ≤ maxLen) (to : List UInt8) (n : Int) :
    Calls Try.prog 15 #[.pointer (some ⟨p, 0, none⟩), .string ⟨name.toArray⟩] w (ChgP p mb xs (doD d 1 name to n) w) := by
  have c1 := hD.hd.c1
  have c4 := hD.hd.c4
  have hl := lookF hD.map name hk
  have hlk := hD.look name
  go_enter Try.func15, Try.ntmps15
  cases hd : d.dead with
  | true =>
    have hfin := ChgP.same hD (ref_dead hd 1 name to n)
    rw [hd] at c4
    cases hx : lookG Ent.name name xs with
    | none =>
      rw [hx] at hl
      simp only [ptrOf] at hl
      go_wp2_with fail
      go_ret
      exact hfin
    | some x =>
      rw [hx] at hl
      simp only [ptrOf] at hl
      go_wp2_with fail
      go_ret
      exact hfin
  | false =>
    rw [hd] at c4
    cases hx : lookG Ent.name name xs with
    | none =>
      rw [hx] at hl
      have hfin := ChgP.same hD (ref_none hd (by rw [hlk, hx]; rfl) 1 to n)
      simp only [ptrOf] at hl
      go_wp2_with fail
      go_ret
      exact hfin
    | some x =>
      rw [hx] at hl hlk
      simp only [ptrOf] at hl
      have hx1 := (lookG_some hx).1
      have hr0 : refusedD d 1 name to n = 0 := by simp [refusedD, hd, hlk]
      have hst := cStep hD hs hd
      have hdies := @do_dies d 1 name to n hr0
      have hdone := @do_done d 1 name to n hr0
      obtain ⟨ef, _, _⟩ := stepD_files d
      generalize stepD d = sd at *
      obtain ⟨d1, b⟩ := sd
      simp only at hst hdies hdone ef
      clear hr0
      go_wp2_with fail
      refine hst.mono ?_
      rintro e w1 ⟨rfl, hD1, k1⟩
      cases b with
      | true =>
        go_wp2_with fail
        go_ret
        rw [hdies (by trivial)]
        exact ⟨rfl, xs, hD1, mvStep k1⟩
      | false =>
        have hf := hD1.files x hx1
        obtain ⟨a, c, ev, hsee, hn, _⟩ := Row.parts hf.row
        have c0 := hf.box.c0
        have f1 := hf.box.free 1
        have cc1 := hf.box.c1
        have hset := hf.box.set1 (x.bytes.length : Int)
        rw [ev] at c0
        clear hsee hn
        have hkx : Kp x.foot w1 (w1.setCell ⟨x.blk, 1, none⟩ (.int .i64 (x.bytes.length : Int))) := (Kp.refl _ w1).setCell (p := ⟨x.blk, 1, none⟩) (by simp [Ent.foot]) _
        have hkb : Kp [x.blk] w1 (w1.setCell ⟨x.blk, 1, none⟩ (.int .i64 (x.bytes.length : Int))) := (Kp.refl _ w1).setCell (p := ⟨x.blk, 1, none⟩) (by simp) _
        have hok : Okd { d1 with files := putG Fl.name ({ x with last := x.bytes.length } : Ent).fl false d1.files } := okSync (f := x.fl) hD1.ok (by rw [ef]; exact hlk)
        have hin := hD1.inPlace { x with last := x.bytes.length } hx1 rfl rfl hkx ⟨hset, hf.row.kept hkb (fun k hk' e => hf.ap (by rw [List.mem_singleton] at e; subst e; exact hk')), hf.ap⟩ (fun k hk' => .inl hk') hok
        have hfin : ChgP p mb xs (doD d 1 name to n) w (.returned (.int .i64 0)) (w1.setCell ⟨x.blk, 1, none⟩ (.int .i64 (x.bytes.length : Int))) := by
          rw [hdone (by trivial)]
          refine ⟨rfl, _, ?_, (mvStep k1).trans hin.2⟩
          have e : changedF d.files 1 name to n = putG Fl.name ({ x with last := x.bytes.length } : Ent).fl false d1.files := by
            simp only [changedF, if_pos, fileOf_some hlk, ef]; rfl
          show Disk _ p mb _ { d1 with files := changedF d.files 1 name to n }
          rw [e]
          exact hin.1
        clear hin hok hkb hkx hset
        go_wp2_with fail
        go_ret
        exact hfin
set_option maxHeartbeats 1000000 in
set_option maxRecDepth 100000 in
theorem cTruncate {w : World} {p mb : Nat} {xs : List Ent} {d : Dk} (hD : Disk w p mb xs d) (hs : d.steps < 9000000000000000000) (name : List UInt8) (hk : name.length ≤ maxLen) (to : List UInt8) (n : Int) (hn0 : -9223372036854775808 ≤ n) (hn1 : n < 9223372036854775808) (hB : Small d) :
    Calls Try.prog 20 #[.pointer (some ⟨p, 0, none⟩), .string ⟨name.toArray⟩, .int .i64 n] w (ChgP p mb xs (doD d 2 name to n) w) := by
  have c1 := hD.hd.c1
  have c4 := hD.hd.c4
  have hl := lookF hD.map name hk
  have hlk := hD.look name
  go_enter Try.func20, Try.ntmps20
  cases hd : d.dead with
  | true =>
    have hfin := ChgP.same hD (ref_dead hd 2 name to n)
    rw [hd] at c4
    cases hx : lookG Ent.name name xs with
    | none =>
      rw [hx] at hl
      simp only [ptrOf] at hl
      go_wp2_with fail
      go_ret
      exact hfin
    | some x =>
      rw [hx] at hl
      simp only [ptrOf] at hl
      go_wp2_with fail
      go_ret
      exact hfin
  | false =>
    rw [hd] at c4
    cases hx : lookG Ent.name name xs with
    | none =>
      rw [hx] at hl
      have hfin := ChgP.same hD (ref_none hd (by rw [hlk, hx]; rfl) 2 to n)
      simp only [ptrOf] at hl
      go_wp2_with fail
      go_ret
      exact hfin
    | some x =>
      rw [hx] at hl hlk
      simp only [ptrOf] at hl
      have hx1 := (lookG_some hx).1
      have hf0 := hD.files x hx1
      have hbl := hB x.fl (by rw [hD.fl]; exact List.mem_map_of_mem hx1)
      simp only [Ent.fl] at hbl
      obtain ⟨a, c, ev, hsee, hnil, hcap⟩ := Row.parts hf0.row
      have c00 := hf0.box.c0
      rw [ev] at c00
      by_cases hn : n < 0
      · have hfin : ChgP p mb xs (doD d 2 name to n) w (.returned (.int .i64 43)) w := ChgP.same hD (by simp [doD, refusedD, hd, hlk, hn])
        clear hnil hsee
        go_wp2_with fail
        go_ret
        exact hfin
      by_cases hm : (x.bytes.length : Int) < n
      · have hfin : ChgP p mb xs (doD d 2 name to n) w (.returned (.int .i64 43)) w := ChgP.same hD (by simp [doD, refusedD, hd, hlk, Ent.fl, hm])
        clear hnil hsee
        go_wp2_with fail
        go_ret
        exact hfin
      obtain ⟨m, rfl⟩ : ∃ m : Nat, n = m := ⟨n.toNat, by omega⟩
      have hr0 : refusedD d 2 name to m = 0 := by simp [refusedD, hd, hlk, Ent.fl]; omega
      have hst := cStep hD hs hd
      have hdies := @do_dies d 2 name to m hr0
      have hdone := @do_done d 2 name to m hr0
      obtain ⟨ef, _, _⟩ := stepD_files d
      generalize stepD d = sd at *
      obtain ⟨d1, b⟩ := sd
      simp only at hst hdies hdone ef
      clear hr0 hsee hnil
      go_wp2_with fail
      refine hst.mono ?_
      rintro e w1 ⟨rfl, hD1, k1⟩
      cases b with
      | true =>
        go_wp2_with fail
        go_ret
        rw [hdies (by trivial)]
        exact ⟨rfl, xs, hD1, mvStep k1⟩
      | false =>
        have hf := hD1.files x hx1
        have c0 := hf.box.c0
        have f0 := hf.box.free 0
        have f1 := hf.box.free 1
        have cc1 := hf.box.c1
        rw [ev] at c0
        have hml : m ≤ x.bytes.length := by omega
        have hfin : ∀ l : Int, l = ((min x.last m : Nat) : Int) → ChgP p mb xs (doD d 2 name to m) w (.returned (.int .i64 0)) ((w1.setCell ⟨x.blk, 0, none⟩ (.slice a m c)).setCell ⟨x.blk, 1, none⟩ (.int .i64 l)) := fun l hl => by
          subst hl
          have hk1 : ∀ S, x.blk ∈ S → Kp S w1 ((w1.setCell ⟨x.blk, 0, none⟩ (.slice a m c)).setCell ⟨x.blk, 1, none⟩ (.int .i64 ((min x.last m : Nat) : Int))) := fun S hS => ((Kp.refl _ w1).setCell (p := ⟨x.blk, 0, none⟩) (.inl hS) _).setCell (p := ⟨x.blk, 1, none⟩) (.inl hS) _
          have hrow := hf.row
          have hap := hf.ap
          rw [ev] at hrow hap
          have hok : Okd { d1 with files := putG Fl.name (⟨x.name, x.blk, .slice a m c, x.bytes.take m, min x.last m⟩ : Ent).fl false d1.files } := okTrunc (f := x.fl) hD1.ok (by rw [ef]; exact hlk) m hml
          have hin := hD1.inPlace ⟨x.name, x.blk, .slice a m c, x.bytes.take m, min x.last m⟩ hx1 rfl rfl (hk1 x.foot (by simp [Ent.foot]))
            ⟨(hf.box.set0 _).set1 _, (Row.cut hrow m hml).kept (hk1 [x.blk] (by simp)) (fun k hk' e => hap (by rw [List.mem_singleton] at e; subst e; rw [own_slice] at hk' ⊢; exact hk')), by simp only [own_slice] at hap ⊢; exact hap⟩
            (fun k hk' => .inl (by simp only [Ent.foot, ev, own_slice] at hk' ⊢; exact hk')) hok
          rw [hdone (by trivial)]
          refine ⟨rfl, _, ?_, (mvStep k1).trans hin.2⟩
          have e : changedF d.files 2 name to m = putG Fl.name (⟨x.name, x.blk, .slice a m c, x.bytes.take m, min x.last m⟩ : Ent).fl false d1.files := by
            simp only [changedF, if_pos, fileOf_some hlk, ef]; rfl
          show Disk _ p mb _ { d1 with files := changedF d.files 2 name to m }
          rw [e]
          exact hin.1
        generalize x.bytes.length = L at c0 hml hcap hbl
        clear c00 hm hn c1 c4 hdone hdies hlk ev hd ef hx hst hf hn0 hn1
        go_wp2_with fail
        all_goals
          go_ret
          exact hfin _ (by omega)
end Go.Proofs.Ytgllkonbgigcbab

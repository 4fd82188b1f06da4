/- The reference's reader: Raw, Get, GetVar, GetText, End. -/
import Derived.Test.YtcmfhejjndlnnaaRefv
import Derived.Deep.RegionWith
import Derived.Deep.QuietTactic
import Derived.BigQuiet
namespace Go.Proofs.Ytcmfhejjndlnnaa
open Go.RowKit Go.Hay
set_option linter.unusedVariables false

/-- What a reference's reader has left. -/
theorem rawS_at (full : List UInt8) (at' : Nat) (n : Int) (e : Int) (ha : at' ≤ full.length) :
    rawS n (full.drop at') e = if e ≠ 0 then ([], full.drop at', e) else if n < 0 then ([], full.drop at', 12) else if (full.length : Int) - at' < n then ([], full.drop at', 10) else ((full.drop at').take n.toNat, full.drop (at' + n.toNat), 0) := by
  unfold rawS takeS
  by_cases he : e ≠ 0
  · by_cases hn : n < 0
    · rw [if_pos hn, if_pos he, if_neg he]
    · rw [if_neg hn, if_pos he, if_pos he]
  · have he' : e = 0 := Decidable.not_not.1 he
    by_cases hn : n < 0
    · rw [if_pos hn, if_neg he, if_pos hn, if_pos he']
    · rw [if_neg hn, if_neg he, if_neg he, if_neg hn, List.length_drop, List.drop_drop]
      by_cases hs : full.length - at' < n.toNat
      · rw [if_pos hs, if_pos (by omega)]
      · rw [if_neg hs, if_neg (by omega)]

/-- A box of three cells. -/
structure Box3 (w : World) (q : Nat) (a b c : Value) : Prop where
  c0 : w.cell? ⟨q, 0, none⟩ = some a
  c1 : w.cell? ⟨q, 1, none⟩ = some b
  c2 : w.cell? ⟨q, 2, none⟩ = some c
  free : ∀ j, w.frozen? ⟨q, j, none⟩ = false
theorem Box3.new (w : World) (a b c : Value) (t : TypeId) : Box3 (w.alloc (.cells #[a, b, c] t)) w.heap.size a b c :=
  ⟨World.cell?_alloc_new w _ _ 0, World.cell?_alloc_new w _ _ 1, World.cell?_alloc_new w _ _ 2, fun j => World.frozen?_alloc_new w _ _ j⟩
theorem Box3.lt {w : World} {q : Nat} {a b c : Value} (h : Box3 w q a b c) : q < w.heap.size := World.block_lt_of_cell? _ _ h.c0
theorem Box3.kept {w w' : World} {q : Nat} {a b c : Value} {S : List Nat} (h : Box3 w q a b c) (hk : Kp S w w') (hq : q ∉ S) : Box3 w' q a b c :=
  ⟨(hk.cell (p := ⟨q, 0, none⟩) h.lt hq).trans h.c0, (hk.cell (p := ⟨q, 1, none⟩) h.lt hq).trans h.c1, (hk.cell (p := ⟨q, 2, none⟩) h.lt hq).trans h.c2, fun j => (hk.frozen (p := ⟨q, j, none⟩) h.lt hq).trans (h.free j)⟩

theorem Box3.setAll {w : World} {q : Nat} {a b c : Value} (h : Box3 w q a b c) (x y z : Value) : Box3 (((w.setCell ⟨q, 0, none⟩ x).setCell ⟨q, 1, none⟩ y).setCell ⟨q, 2, none⟩ z) q x y z ∧ Kp [q] w (((w.setCell ⟨q, 0, none⟩ x).setCell ⟨q, 1, none⟩ y).setCell ⟨q, 2, none⟩ z) := by
  have e1 : (w.setCell ⟨q, 0, none⟩ x).cell? ⟨q, 1, none⟩ = some b := by rw [World.cell?_setCell_other _ _ _ _ (by simp)]; exact h.c1
  have e2 : ((w.setCell ⟨q, 0, none⟩ x).setCell ⟨q, 1, none⟩ y).cell? ⟨q, 2, none⟩ = some c := by rw [World.cell?_setCell_other _ _ _ _ (by simp), World.cell?_setCell_other _ _ _ _ (by simp)]; exact h.c2
  refine ⟨⟨?_, ?_, World.cell?_setCell_same _ _ _ e2, fun j => by rw [World.frozen?_setCell, World.frozen?_setCell, World.frozen?_setCell]; exact h.free j⟩, (((Kp.refl [q] w).setCell (by simp) _).setCell (by simp) _).setCell (by simp) _⟩
  · rw [World.cell?_setCell_other _ _ _ _ (by simp), World.cell?_setCell_other _ _ _ _ (by simp)]; exact World.cell?_setCell_same _ _ _ h.c0
  · rw [World.cell?_setCell_other _ _ _ _ (by simp)]; exact World.cell?_setCell_same _ _ _ e1

/-- What Raw leaves. -/
def RawPost (b : Option Addr) (cb : Nat) (full : List UInt8) (at' : Nat) (e0 n : Int) (w : World) (e : Ending) (w' : World) : Prop :=
  ∃ (out : List UInt8) (at2 : Nat) (e2 : Int) (v : Value), rawS n (full.drop at') e0 = (out, full.drop at2, e2) ∧ at2 ≤ full.length ∧ e = .returned (.tuple #[.agg #[.slice b full.length cb, .int .i64 at2, .int .i64 e2], v]) ∧ Row w' v out ∧ Kp [] w w' ∧ ∀ k ∈ own v, w.heap.size ≤ k

set_option maxHeartbeats 2000000 in
set_option maxRecDepth 100000 in
theorem cRefRaw (b : Option Addr) (cb : Nat) (full : List UInt8) (at' : Nat) (e0 n : Int) (w : World) (hs : Sees w b full) (hl : full.length ≤ cb) (hm : cb ≤ maxLen) (ha : at' ≤ full.length) (hb : full.length ≤ 200000000000000) (hn0 : -9223372036854775808 ≤ n) (hn1 : n ≤ 9223372036854775807) :
    Calls Try.prog 39 #[.agg #[.slice b full.length cb, .int .i64 at', .int .i64 e0], .int .i64 n] w (RawPost b cb full at' e0 n w) := by
  have HR := hid (rawS_at full at' n e0 ha)
  unfold maxLen at hm
  by_cases he : e0 = 0
  · subst he
    by_cases hneg : n < 0
    · go_enter Try.func39, Try.ntmps39
      go_wp2_with fail
      refine bodyPost_ret (v := .tuple #[.agg #[.slice b full.length cb, .int .i64 at', .int .i64 12], .slice none 0 0]) (by simp [results, Try.results39, go_sem]) rfl ⟨[], at', 12, _, by rw [HR.out, if_neg (fun h => h rfl), if_pos hneg], ha, rfl, Row.nil _, ((Kp.refl _ _).alloc _).alloc _, by simp [own, Value.ownBlock]⟩
    obtain ⟨n, rfl⟩ := Int.eq_ofNat_of_zero_le (Int.not_lt.1 hneg)
    by_cases hsh : (full.length : Int) - at' < n
    · go_enter Try.func39, Try.ntmps39
      go_wp2_with fail
      refine bodyPost_ret (v := .tuple #[.agg #[.slice b full.length cb, .int .i64 at', .int .i64 10], .slice none 0 0]) (by simp [results, Try.results39, go_sem]) rfl ⟨[], at', 10, _, by rw [HR.out, if_neg (fun h => h rfl), if_neg (by omega), if_pos hsh], ha, rfl, Row.nil _, ((Kp.refl _ _).alloc _).alloc _, by simp [own, Value.ownBlock]⟩
    have HR2 := hid (show rawS (n : Int) (full.drop at') 0 = ((full.drop at').take n, full.drop (at' + n), 0) by rw [HR.out, if_neg (fun h => h rfl), if_neg (by omega), if_neg hsh, Int.toNat_natCast])
    clear HR hneg
    obtain ⟨i0, hi, hz0, hz1, hz2⟩ := info_parts Try.infoB
    have hat : at' + n ≤ full.length := by omega
    have HLen := hid (show ((full.drop at').take n).length = n by simp; omega)
    have j1 : (at' : Int) ≤ (at' : Int) + (n : Int) := by omega
    have j2 : (at' : Int) + (n : Int) ≤ (cb : Int) := by omega
    have kx : Kp [] w ((w.alloc (.cells #[.slice b full.length cb, .int .i64 at', .int .i64 0] 31)).alloc (.cells #[.slice none 0 0, .int .i64 0, .int .i64 0] 31)) := ((Kp.refl _ _).alloc _).alloc _
    have key : ∀ (sa : Option Addr) (sc : Nat), Sees w sa ((full.drop at').take n) → (if cb = at' then b else b.map (fun x => x.add at')) = sa → sc = cb - at' →
        Src Try.prog 1 22 (.slice sa (at' + n - at') sc) ((full.drop at').take n).length (bcells ((full.drop at').take n)) ((w.alloc (.cells #[.slice b full.length cb, .int .i64 at', .int .i64 0] 31)).alloc (.cells #[.slice none 0 0, .int .i64 0, .int .i64 0] 31)) := by
      intro sa sc hsa _ _
      have := (hsa.kept kx (by simp)).src (P := Try.prog) Try.underlying22 sc
      rw [HLen.out] at this ⊢
      rw [show at' + n - at' = n by omega]
      exact this
    by_cases hcb : cb = at'
    · have hn0' : n = 0 := by omega
      subst hn0'
      subst hcb
      clear key
      have hsrc : Src Try.prog 1 22 (.slice b 0 0) ([] : List UInt8).length (bcells []) ((w.alloc (.cells #[.slice b full.length cb, .int .i64 cb, .int .i64 0] 31)).alloc (.cells #[.slice none 0 0, .int .i64 0, .int .i64 0] 31)) := (Sees.nil _ b).src Try.underlying22 0
      go_enter Try.func39, Try.ntmps39
      go_wp2_with (at_builtin; refine wpList_append_src _ rfl (.tmp 28) (.tmp 37) 22 22 rfl i0 Try.underlying22 hi hz0 hz1 hz2 _ [] rfl (Row.nil _) _ [] rfl hsrc (by simp) ?_)
      intro v1 w1 r1 k1 o1
      have r1 : Row w1 v1 [] := by simpa using r1
      have k1' : Kp [] ((w.alloc (.cells #[.slice b full.length cb, .int .i64 cb, .int .i64 0] 31)).alloc (.cells #[.slice none 0 0, .int .i64 0, .int .i64 0] 31)) w1 := k1.mono (by simp [own, Value.ownBlock])
      have o1' : ∀ x ∈ own v1, w.heap.size + 2 ≤ x := fun x hx => by
        rcases o1 x hx with h | h
        · simp [own, Value.ownBlock] at h
        · simpa using h
      obtain ⟨a1, c1, rfl, s1, _⟩ := r1.sees
      have bA := (Box3.new w (.slice b full.length cb) (.int .i64 cb) (.int .i64 0) 31).kept (S := []) ((Kp.refl _ _).alloc (.cells #[.slice none 0 0, .int .i64 0, .int .i64 0] 31)) (by simp)
      have bB := Box3.new (w.alloc (.cells #[.slice b full.length cb, .int .i64 cb, .int .i64 0] 31)) (.slice none 0 0) (.int .i64 0) (.int .i64 0) 31
      have bA1 := bA.kept k1' (by simp)
      have bB1 := bB.kept k1' (by simp)
      rw [show (w.alloc (.cells #[.slice b full.length cb, .int .i64 cb, .int .i64 0] 31)).heap.size = w.heap.size + 1 by simp] at bB1
      have kw := kx.trans k1' (by simp)
      have qa0 := bA1.c0
      have qa1 := bA1.c1
      have qa2 := bA1.c2
      have qaf := bA1.free
      have qb0 := bB1.c0
      have qb1 := bB1.c1
      have qb2 := bB1.c2
      have qbf := bB1.free
      clear bA bB bA1 bB1 hsrc kx k1 k1' o1 hi hz0 hz1 hz2 i0 s1
      go_wp2_with fail
      have ks : Kp [w.heap.size, w.heap.size + 1] w1 ((((w1.setCell ⟨w.heap.size, 1, none⟩ (.int .i64 cb)).setCell ⟨w.heap.size + 1, 0, none⟩ (.slice b full.length cb)).setCell ⟨w.heap.size + 1, 1, none⟩ (.int .i64 cb)).setCell ⟨w.heap.size + 1, 2, none⟩ (.int .i64 0)) :=
        ((((Kp.refl _ w1).setCell (by simp) _).setCell (by simp) _).setCell (by simp) _).setCell (by simp) _
      refine bodyPost_ret (v := .tuple #[.agg #[.slice b full.length cb, .int .i64 ((cb : Nat) : Int), .int .i64 0], .slice a1 0 c1]) (by simp [results, Try.results39, go_sem, qb0, qb1, qb2]) rfl ⟨[], cb, 0, _, by simpa using HR2.out, by omega, rfl, r1.kept ks (fun x hx hm => ?_), kw.trans ks (fun x hx => .inr ?_), fun x hx => ?_⟩
      · have := o1' x hx; simp at hm; omega
      · simp at hx; omega
      · have := o1' x hx; omega
    · have hsrc := key (b.map (fun x => x.add at')) (cb - at') ((hs.tail at').front n) (if_neg hcb) rfl
      clear key
      generalize (full.drop at').take n = out at *
      have hob : ([] : List UInt8).length + out.length ≤ 200000000000000 := by rw [HLen.out, List.length_nil]; omega
      go_enter Try.func39, Try.ntmps39
      go_wp2_with (at_builtin; refine wpList_append_src _ rfl (.tmp 28) (.tmp 37) 22 22 rfl i0 Try.underlying22 hi hz0 hz1 hz2 _ [] rfl (Row.nil _) _ out rfl hsrc hob ?_)
      intro v1 w1 r1 k1 o1
      have r1 : Row w1 v1 out := by simpa using r1
      have k1' : Kp [] ((w.alloc (.cells #[.slice b full.length cb, .int .i64 at', .int .i64 0] 31)).alloc (.cells #[.slice none 0 0, .int .i64 0, .int .i64 0] 31)) w1 := k1.mono (by simp [own, Value.ownBlock])
      have o1' : ∀ x ∈ own v1, w.heap.size + 2 ≤ x := fun x hx => by
        rcases o1 x hx with h | h
        · simp [own, Value.ownBlock] at h
        · simpa using h
      obtain ⟨a1, c1, rfl, s1, _⟩ := r1.sees
      have bA := (Box3.new w (.slice b full.length cb) (.int .i64 at') (.int .i64 0) 31).kept (S := []) ((Kp.refl _ _).alloc (.cells #[.slice none 0 0, .int .i64 0, .int .i64 0] 31)) (by simp)
      have bB := Box3.new (w.alloc (.cells #[.slice b full.length cb, .int .i64 at', .int .i64 0] 31)) (.slice none 0 0) (.int .i64 0) (.int .i64 0) 31
      have bA1 := bA.kept k1' (by simp)
      have bB1 := bB.kept k1' (by simp)
      rw [show (w.alloc (.cells #[.slice b full.length cb, .int .i64 at', .int .i64 0] 31)).heap.size = w.heap.size + 1 by simp] at bB1
      have kw := kx.trans k1' (by simp)
      have qa0 := bA1.c0
      have qa1 := bA1.c1
      have qa2 := bA1.c2
      have qaf := bA1.free
      have qb0 := bB1.c0
      have qb1 := bB1.c1
      have qb2 := bB1.c2
      have qbf := bB1.free
      clear bA bB bA1 bB1 hsrc kx k1 k1' o1 hi hz0 hz1 hz2 i0 s1
      go_wp2_with fail
      have ks : Kp [w.heap.size, w.heap.size + 1] w1 ((((w1.setCell ⟨w.heap.size, 1, none⟩ (.int .i64 (at' + n))).setCell ⟨w.heap.size + 1, 0, none⟩ (.slice b full.length cb)).setCell ⟨w.heap.size + 1, 1, none⟩ (.int .i64 (at' + n))).setCell ⟨w.heap.size + 1, 2, none⟩ (.int .i64 0)) :=
        ((((Kp.refl _ w1).setCell (by simp) _).setCell (by simp) _).setCell (by simp) _).setCell (by simp) _
      refine bodyPost_ret (v := .tuple #[.agg #[.slice b full.length cb, .int .i64 ((at' + n : Nat) : Int), .int .i64 0], .slice a1 out.length c1]) (by simp [results, Try.results39, go_sem, qb0, qb1, qb2]) rfl ⟨out, at' + n, 0, _, HR2.out, hat, rfl, r1.kept ks (fun x hx hm => ?_), kw.trans ks (fun x hx => .inr ?_), fun x hx => ?_⟩
      · have := o1' x hx; simp at hm; omega
      · simp at hx; omega
      · have := o1' x hx; omega
  · have he' : (e0 != 0) = true := by simpa using he
    go_enter Try.func39, Try.ntmps39
    go_wp2_with fail
    refine bodyPost_ret (v := .tuple #[.agg #[.slice b full.length cb, .int .i64 at', .int .i64 e0], .slice none 0 0]) (by simp [results, Try.results39, go_sem]) rfl ⟨[], at', e0, _, by rw [HR.out, if_pos he], ha, rfl, Row.nil _, ((Kp.refl _ _).alloc _).alloc _, by simp [own, Value.ownBlock]⟩
end Go.Proofs.Ytcmfhejjndlnnaa

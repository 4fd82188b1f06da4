/- A number's eight bytes: the program's longOf and number, the reference's Number and Said. -/
import Derived.Test.YtlehalhficlenaaVdef
import Derived.Test.YtlehalhficlenaaRapp
namespace Go.Proofs.Ytlehalhficlenaa
open Go.RowKit Go.Hay
set_option linter.unusedVariables false
set_option linter.unusedSimpArgs false

/-- A block of eight cells: bytes. -/
structure Box8 (w : World) (q : Nat) (l : List UInt8) : Prop where
  len : l.length = 8
  cell : ∀ j u, l[j]? = some u → w.cell? ⟨q, j, none⟩ = some (.int .u8 u.toNat)
  free : ∀ j, w.frozen? ⟨q, j, none⟩ = false
theorem Box8.at {w : World} {q : Nat} {l : List UInt8} (h : Box8 w q l) (j : Nat) (hj : j < 8) : w.cell? ⟨q, j, none⟩ = some (.int .u8 (l.getD j 0).toNat) := by
  have hl := h.len
  have : l[j]? = some (l.getD j 0) := by rw [List.getElem?_eq_getElem (by omega)]; simp [List.getD_eq_getElem?_getD, List.getElem?_eq_getElem (by omega : j < l.length)]
  exact h.cell j _ this
theorem Box8.set {w : World} {q : Nat} {l : List UInt8} (h : Box8 w q l) (i : Nat) (x : UInt8) (hi : i < 8) : Box8 (w.setCell ⟨q, i, none⟩ (.int .u8 x.toNat)) q (l.set i x) := by
  have hl := h.len
  refine ⟨by simpa using hl, fun j u hu => ?_, fun j => by rw [World.frozen?_setCell]; exact h.free j⟩
  by_cases hj : j = i
  · subst hj
    rw [List.getElem?_set_self (by omega)] at hu
    cases hu
    exact World.cell?_setCell_same _ _ _ (h.at j hi)
  · rw [List.getElem?_set_ne (fun e => hj e.symm)] at hu
    rw [World.cell?_setCell_other _ _ _ _ (by intro e; simp only [Addr.mk.injEq] at e; omega)]
    exact h.cell j u hu
theorem Box8.lt {w : World} {q : Nat} {l : List UInt8} (h : Box8 w q l) : q < w.heap.size := World.block_lt_of_cell? _ _ (h.at 0 (by omega))
theorem Box8.kept {w w' : World} {q : Nat} {l : List UInt8} {S : List Nat} (h : Box8 w q l) (hk : Kp S w w') (hq : q ∉ S) : Box8 w' q l :=
  ⟨h.len, fun j u hu => (hk.cell (p := ⟨q, j, none⟩) h.lt hq).trans (h.cell j u hu), fun j => (hk.frozen (p := ⟨q, j, none⟩) h.lt hq).trans (h.free j)⟩

/-- Eight bytes, as a value. -/
def long8 (l : List UInt8) : Value := .agg #[.int .u8 (l.getD 0 0).toNat, .int .u8 (l.getD 1 0).toNat, .int .u8 (l.getD 2 0).toNat, .int .u8 (l.getD 3 0).toNat, .int .u8 (l.getD 4 0).toNat, .int .u8 (l.getD 5 0).toNat, .int .u8 (l.getD 6 0).toNat, .int .u8 (l.getD 7 0).toNat]

theorem Box8.zero {w : World} (q : Nat) (hq : w.heap.size = q) (t : TypeId) : Box8 (w.alloc (.cells #[.int .u8 0, .int .u8 0, .int .u8 0, .int .u8 0, .int .u8 0, .int .u8 0, .int .u8 0, .int .u8 0] t)) q (low8 0 0) := by
  subst hq
  refine ⟨rfl, fun j u hu => ?_, fun j => World.frozen?_alloc_new w _ _ j⟩
  have e := World.cell?_alloc_new w #[.int .u8 0, .int .u8 0, .int .u8 0, .int .u8 0, .int .u8 0, .int .u8 0, .int .u8 0, .int .u8 0] t j
  rw [e]
  match j, hu with
  | 0, hu | 1, hu | 2, hu | 3, hu | 4, hu | 5, hu | 6, hu | 7, hu => cases hu; rfl
  | j + 8, hu => simp [low8, be] at hu
/-- Eight bytes, laid one by one. -/
def put8 (w : World) (q : Nat) (x0 x1 x2 x3 x4 x5 x6 x7 : UInt8) : World :=
  (((((((w.setCell ⟨q, 0, none⟩ (.int .u8 x0.toNat)).setCell ⟨q, 1, none⟩ (.int .u8 x1.toNat)).setCell ⟨q, 2, none⟩ (.int .u8 x2.toNat)).setCell ⟨q, 3, none⟩ (.int .u8 x3.toNat)).setCell ⟨q, 4, none⟩ (.int .u8 x4.toNat)).setCell ⟨q, 5, none⟩ (.int .u8 x5.toNat)).setCell ⟨q, 6, none⟩ (.int .u8 x6.toNat)).setCell ⟨q, 7, none⟩ (.int .u8 x7.toNat)
theorem Box8.put {w : World} {q : Nat} {l : List UInt8} (h : Box8 w q l) (x0 x1 x2 x3 x4 x5 x6 x7 : UInt8) : Box8 (put8 w q x0 x1 x2 x3 x4 x5 x6 x7) q [x0, x1, x2, x3, x4, x5, x6, x7] := by
  have hh := (((((((h.set 0 x0 (by omega)).set 1 x1 (by omega)).set 2 x2 (by omega)).set 3 x3 (by omega)).set 4 x4 (by omega)).set 5 x5 (by omega)).set 6 x6 (by omega)).set 7 x7 (by omega)
  have hl := h.len
  match l, hl with
  | [_, _, _, _, _, _, _, _], _ => exact hh
theorem gen8 {w0 w : World} {q : Nat} {l : List UInt8} {R : World → Prop} (h : Box8 w q l) (hk : Kp [] w0 w) (hq : w0.heap.size ≤ q) (x0 x1 x2 x3 x4 x5 x6 x7 : UInt8)
    (H : ∀ W, Box8 W q [x0, x1, x2, x3, x4, x5, x6, x7] → Kp [] w0 W → R W) :
    R ((((((((w.setCell ⟨q, 0, none⟩ (.int .u8 x0.toNat)).setCell ⟨q, 1, none⟩ (.int .u8 x1.toNat)).setCell ⟨q, 2, none⟩ (.int .u8 x2.toNat)).setCell ⟨q, 3, none⟩ (.int .u8 x3.toNat)).setCell ⟨q, 4, none⟩ (.int .u8 x4.toNat)).setCell ⟨q, 5, none⟩ (.int .u8 x5.toNat)).setCell ⟨q, 6, none⟩ (.int .u8 x6.toNat)).setCell ⟨q, 7, none⟩ (.int .u8 x7.toNat)) :=
  H _ (h.put x0 x1 x2 x3 x4 x5 x6 x7) ((((((((hk.setCell (.inr hq) _).setCell (.inr hq) _).setCell (.inr hq) _).setCell (.inr hq) _).setCell (.inr hq) _).setCell (.inr hq) _).setCell (.inr hq) _).setCell (.inr hq) _)
theorem Box8.box (w : World) (l : List UInt8) (hl : l.length = 8) (t : TypeId) : Box8 (w.alloc (.cells #[.int .u8 (l.getD 0 0).toNat, .int .u8 (l.getD 1 0).toNat, .int .u8 (l.getD 2 0).toNat, .int .u8 (l.getD 3 0).toNat, .int .u8 (l.getD 4 0).toNat, .int .u8 (l.getD 5 0).toNat, .int .u8 (l.getD 6 0).toNat, .int .u8 (l.getD 7 0).toNat] t)) w.heap.size l := by
  match l, hl with
  | [x0, x1, x2, x3, x4, x5, x6, x7], _ =>
  refine ⟨rfl, fun j u hu => ?_, fun j => World.frozen?_alloc_new w _ _ j⟩
  rw [World.cell?_alloc_new w _ _ j]
  match j, hu with
  | 0, hu | 1, hu | 2, hu | 3, hu | 4, hu | 5, hu | 6, hu | 7, hu => cases hu; rfl
  | j + 8, hu => simp at hu
theorem low8_zero (n : Nat) : low8 n 0 = low8 0 0 := rfl
theorem kpOther {w : World} {q i : Nat} {v : Value} {S : List Nat} (hq : q ∈ S) : Kp S w (w.setCell ⟨q, i, none⟩ v) := (Kp.refl S w).setCell (p := ⟨q, i, none⟩) (.inl hq) v

set_option maxHeartbeats 2000000 in
set_option maxRecDepth 100000 in
theorem cLongOf (n : Int) (w : World) (h0 : 0 ≤ n) (h1 : n < 18446744073709551616) :
    Calls Try.prog 37 #[.int .u64 n] w fun e w' => e = .returned (long8 (be n.toNat 8)) ∧ Kp [] w w' := by
  go_enter Try.func37, Try.ntmps37
  go_wp2_with fail
  go_loopw [5] (fun i wn => ∃ j : Nat, j ≤ 8 ∧ i = .int .i64 j ∧ Box8 wn w.heap.size (low8 0 0) ∧ Box8 wn (w.heap.size + 1) (low8 n.toNat j) ∧ wn.heap.size = w.heap.size + 2 ∧ Kp [] w wn) (fun i _ => 8 - (intOf i).toNat)
  case atStart =>
    refine ⟨0, Nat.zero_le _, rfl, (Box8.zero (w := w) _ rfl _).kept (S := []) ((Kp.refl _ _).alloc _) (by simp), Box8.zero _ (by simp) _, by simp, ((Kp.refl _ _).alloc _).alloc _⟩
  case round =>
    obtain ⟨j, hj, rfl, hb0, hbx, hsz, hk⟩ := hrel
    by_cases hlt : j < 8
    · have hc := hbx.at (7 - j) (by omega)
      have hf := hbx.free (7 - j)
      go_wp2_with fail
      have hbd := shift_bd n j
      rw [← octet_toNat _ hbd.1 hbd.2, octet_shift n j h0]
      refine ⟨⟨j + 1, by omega, by go_num, ?_, ?_, ?_, ?_⟩, by simp [intOf]; omega⟩
      · exact hb0.kept (S := [w.heap.size + 1]) (kpOther (by simp)) (by simp)
      · rw [low8_succ _ _ hlt]; exact hbx.set (7 - j) _ (by omega)
      · simpa [World.setCell] using hsz
      · exact hk.setCell (p := ⟨w.heap.size + 1, 7 - j, none⟩) (.inr (by simp)) _
    · obtain rfl : j = 8 := by omega
      rw [low8_all] at hbx
      obtain ⟨x0, x1, x2, x3, x4, x5, x6, x7, hbe⟩ : ∃ x0 x1 x2 x3 x4 x5 x6 x7 : UInt8, Hid (be n.toNat 8 = [x0, x1, x2, x3, x4, x5, x6, x7]) := ⟨_, _, _, _, _, _, _, _, rfl⟩
      rw [hbe.out] at hbx
      have c0 := hbx.cell 0 _ rfl; have c1 := hbx.cell 1 _ rfl; have c2 := hbx.cell 2 _ rfl; have c3 := hbx.cell 3 _ rfl
      have c4 := hbx.cell 4 _ rfl; have c5 := hbx.cell 5 _ rfl; have c6 := hbx.cell 6 _ rfl; have c7 := hbx.cell 7 _ rfl
      have z0 := hb0.cell 0 0 rfl; have z1 := hb0.cell 1 0 rfl; have z2 := hb0.cell 2 0 rfl; have z3 := hb0.cell 3 0 rfl
      have z4 := hb0.cell 4 0 rfl; have z5 := hb0.cell 5 0 rfl; have z6 := hb0.cell 6 0 rfl; have z7 := hb0.cell 7 0 rfl
      have f0 := hb0.free 0; have f1 := hb0.free 1; have f2 := hb0.free 2; have f3 := hb0.free 3
      have f4 := hb0.free 4; have f5 := hb0.free 5; have f6 := hb0.free 6; have f7 := hb0.free 7
      clear hbx
      go_wp2_with fail
      refine gen8 (R := fun W => bodyPost _ _ _ _ _ W) hb0 hk (Nat.le_refl _) x0 x1 x2 x3 x4 x5 x6 x7 ?_
      intro W hb8 hk8
      clear c0 c1 c2 c3 c4 c5 c6 c7
      have c0 := hb8.cell 0 _ rfl; have c1 := hb8.cell 1 _ rfl; have c2 := hb8.cell 2 _ rfl; have c3 := hb8.cell 3 _ rfl
      have c4 := hb8.cell 4 _ rfl; have c5 := hb8.cell 5 _ rfl; have c6 := hb8.cell 6 _ rfl; have c7 := hb8.cell 7 _ rfl
      refine bodyPost_ret (v := long8 [x0, x1, x2, x3, x4, x5, x6, x7]) (by simp [results, Try.results37, go_sem, c0, c1, c2, c3, c4, c5, c6, c7]; rfl) rfl ⟨by rw [hbe.out], hk8⟩

set_option maxHeartbeats 2000000 in
set_option maxRecDepth 100000 in
theorem cLongNum (l : List UInt8) (hl : l.length = 8) (w : World) :
    Calls Try.prog 38 #[long8 l] w fun e w' => e = .returned (.int .u64 (num l)) ∧ Kp [] w w' := by
  have hL := hid hl
  have hx := Box8.box w l hl 54
  unfold long8
  generalize (l.getD 0 0).toNat = y0 at *; generalize (l.getD 1 0).toNat = y1 at *; generalize (l.getD 2 0).toNat = y2 at *; generalize (l.getD 3 0).toNat = y3 at *
  generalize (l.getD 4 0).toNat = y4 at *; generalize (l.getD 5 0).toNat = y5 at *; generalize (l.getD 6 0).toNat = y6 at *; generalize (l.getD 7 0).toNat = y7 at *
  have hkw : Kp [] w (w.alloc (.cells #[.int .u8 y0, .int .u8 y1, .int .u8 y2, .int .u8 y3, .int .u8 y4, .int .u8 y5, .int .u8 y6, .int .u8 y7] 54)) := (Kp.refl _ _).alloc _
  clear hl
  go_enter Try.func38, Try.ntmps38
  go_wp2_with fail
  generalize w.alloc (.cells #[.int .u8 y0, .int .u8 y1, .int .u8 y2, .int .u8 y3, .int .u8 y4, .int .u8 y5, .int .u8 y6, .int .u8 y7] 54) = W at *
  go_loopw [3, 5] (fun s i wn => ∃ k : Nat, k ≤ 8 ∧ i = .int .i64 k ∧ s = .int .u64 (num (l.take k)) ∧ wn = W) (fun _ i _ => 8 - (intOf i).toNat)
  case atStart => exact ⟨0, Nat.zero_le _, rfl, rfl, rfl⟩
  case round =>
    obtain ⟨k, hk, rfl, rfl, rfl⟩ := hrel
    by_cases hlt : k < 8
    · have hkl : k < l.length := by rw [hL.out]; exact hlt
      have hck := hx.cell k l[k] (by simp)
      have H := hid (num_take_succ l k hkl)
      have H2 := hid (num_take_lt l k (by omega))
      have hx8 : l[k].toNat < 256 := l[k].toNat_lt
      go_wp2_with fail
      refine ⟨⟨k + 1, by omega, by go_num, ?_, trivial⟩, by simp [intOf]; omega⟩
      rw [or_byte _ _ H2.out hx8, ← H.out]
    · go_wp2_with fail
      go_ret
      exact ⟨ret_int (by rw [List.take_of_length_le (by rw [hL.out]; omega)]), hkw⟩

set_option maxHeartbeats 2000000 in
set_option maxRecDepth 100000 in
theorem cRefNumber (n : Int) (w : World) (h0 : 0 ≤ n) (h1 : n < 18446744073709551616) :
    Calls Try.prog 19 #[.int .u64 n] w fun e w' => ∃ v, e = .returned v ∧ Row w' v (be n.toNat 8) ∧ (∀ k ∈ own v, w.heap.size ≤ k) ∧ Kp [] w w' := by
  go_enter Try.func19, Try.ntmps19
  go_wp2_with fail
  go_loopw [3, 4] (fun b s wn => ∃ (j : Nat) (cur : List UInt8) (a : Option Addr) (c : Nat), s = .int .i64 (8 * ((j : Int) - 1)) ∧ j ≤ 8 ∧ b = .slice a cur.length c ∧ Row wn (.slice a cur.length c) cur ∧ Hid (cur ++ be n.toNat j = be n.toNat 8) ∧ (∀ k ∈ own (.slice a cur.length c), w.heap.size ≤ k) ∧ Kp [] w wn) (fun _ s _ => (intOf s + 8).toNat)
  case atStart => exact ⟨8, [], none, 0, rfl, Nat.le_refl _, rfl, Row.nil _, rfl, by simp [own, Value.ownBlock], Kp.refl _ _⟩
  case round =>
    obtain ⟨j, cur, a, c, rfl, hj, rfl, hrow, hcur, hown, hk⟩ := hrel
    have hlen : cur.length + j = 8 := by have := congrArg List.length hcur.out; simpa [be_length] using this
    cases j with
    | zero =>
      go_wp2_with fail
      go_ret
      have e : cur = be n.toNat 8 := by have := hcur.out; simpa [be] using this
      subst e
      exact ⟨_, rfl, hrow, hown, hk⟩
    | succ j =>
      have H : Hid (cur ++ [octet (n / 2 ^ (8 * j) % 256)] ++ be n.toNat j = be n.toNat 8) := by
        have := hcur.out
        show _ = _
        rw [octet_shift n j h0]
        simpa [be] using this
      have hbd := shift_bd n j
      have k0 : Kp [] wr (wr.alloc (.cells #[.int .u8 (n / 2 ^ (8 * j) % 256)] 5)) := (Kp.refl _ _).alloc _
      go_wp2_with (at_builtin; refine wpAppR rfl _ _ rfl _ cur rfl (hrow.kept k0 (by simp)) _ _ _ [octet (n / 2 ^ (8 * j) % 256)] rfl rfl (seesOne wr rfl _ hbd.1 hbd.2 _) (by simp; omega) ?_)
      intro ys a' c' w1 hys _ hr hg
      obtain ⟨hkn, hon⟩ := (hg.pre k0).fresh hk hown
      have H' : Hid (ys ++ be n.toNat j = be n.toNat 8) := by show _ = _; rw [hys.out]; exact H.out
      go_wp2_with fail
      go_roundw
      case rel => exact ⟨j, _, a', c', by go_num, by omega, rfl, hr, H', hon, hkn⟩
      case measure => simp [intOf]; omega
set_option maxHeartbeats 2000000 in
set_option maxRecDepth 100000 in
theorem cRefSaid (a : Option Addr) (n c : Nat) (xs : List UInt8) (w : World) (hs : Sees w a xs) (hn : n = xs.length) (hb : xs.length ≤ 8) :
    Calls Try.prog 30 #[.slice a n c] w fun e w' => e = .returned (.int .u64 (num xs)) ∧ w' = w := by
  subst hn
  go_enter Try.func30, Try.ntmps30
  go_wp2_with fail
  go_loop [3, 4] (fun s i => ∃ k : Nat, k ≤ xs.length ∧ i = .int .i64 k ∧ s = .int .u64 (num (xs.take k))) (fun _ i => xs.length - (intOf i).toNat)
  case atStart => exact ⟨0, Nat.zero_le _, rfl, rfl⟩
  case round =>
    obtain ⟨k, hk, rfl, rfl⟩ := hrel
    by_cases hlt : k < xs.length
    · rcases hs with rfl | ⟨g, o, rfl, hc⟩
      · simp at hlt
      have hck := hc k xs[k] (by simp)
      have H := hid (num_take_succ xs k hlt)
      have H2 := num_take_lt xs k (by omega)
      have hx : xs[k].toNat < 256 := xs[k].toNat_lt
      clear hc
      go_wp2_with fail
      refine ⟨⟨k + 1, by omega, by go_num, ?_⟩, by simp [intOf]; omega⟩
      rw [H.out]
      congr 1
    · go_wp2_with fail
      go_ret
      exact ⟨ret_int (by rw [List.take_of_length_le (by omega)]), rfl⟩
end Go.Proofs.Ytlehalhficlenaa

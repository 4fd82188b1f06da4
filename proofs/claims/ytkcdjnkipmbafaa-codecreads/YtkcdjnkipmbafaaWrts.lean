/- For every list of things that hold together at most 1048576 values: whatever is written, one thing behind the other, stands in the bytes as the reference says; what was handed in, and what was told, may be written over. -/
import Derived.Test.YtkcdjnkipmbafaaThg
namespace Go.Proofs.Ytkcdjnkipmbafaa
open Go.ChangeShapes Go.WideShapes Go.ChangeAt Go.RowKit Go.Hay
set_option linter.unusedVariables false

/-- The bytes of things, one behind the other. -/
def thingsB (l : List Thing) : List UInt8 := l.flatMap thingB
theorem thingsB_snoc (l : List Thing) (k : Nat) (h : k < l.length) : thingsB (l.take (k + 1)) = thingsB (l.take k) ++ thingB l[k] := by
  unfold thingsB
  rw [List.take_succ_eq_append_getElem h, List.flatMap_append]
  simp only [List.flatMap_cons, List.flatMap_nil, List.append_nil]
theorem thingsB_length (l : List Thing) : (thingsB l).length ≤ 10 * sumT l := by
  induction l with
  | nil => simp [thingsB]
  | cons t l ih =>
    have h1 := thingB_length t
    have e : thingsB (t :: l) = thingB t ++ thingsB l := by simp [thingsB]
    have e2 : sumT (t :: l) = t.bs.length + 1 + sumT l := by simp [sumT]
    rw [e, e2, List.length_append]
    omega
theorem sumT_take (l : List Thing) (k : Nat) : sumT (l.take k) ≤ sumT l := by
  induction l generalizing k with
  | nil => simp
  | cons x l ih =>
    cases k with
    | zero => simp [sumT]
    | succ k =>
      have := ih k
      simp only [sumT, List.take_succ_cons, List.map_cons, List.sum_cons] at this ⊢
      omega
theorem sumT_get (l : List Thing) (k : Nat) (h : k < l.length) : l[k].bs.length + 1 ≤ sumT l := by
  induction l generalizing k with
  | nil => simp at h
  | cons x l ih =>
    cases k with
    | zero => simp [sumT]
    | succ k =>
      have := ih k (by simpa using h)
      simp only [sumT, List.map_cons, List.sum_cons, List.getElem_cons_succ] at this ⊢
      omega
theorem sumT_len (l : List Thing) : l.length ≤ sumT l := by
  induction l with
  | nil => simp
  | cons x l ih => simp only [sumT, List.map_cons, List.sum_cons, List.length_cons] at ih ⊢; omega
/-- A thing of the list, cell by cell, in a later world. -/
theorem Ths.at {w wr : World} {a : Option Addr} {l : List Thing} (h : Ths w a l) (hk : Kp [] w wr) (k : Nat) (hlt : k < l.length) : ∃ g o b c, a = some ⟨g, o, none⟩ ∧ l[k].b = .slice b l[k].bs.length c ∧ Sees wr b l[k].bs ∧ Sees w b l[k].bs ∧ (l[k].bs ≠ [] → ∀ x ∈ blk b, x < w.heap.size) ∧
    (0 ≤ l[k].n ∧ l[k].n < 18446744073709551616) ∧ (0 ≤ l[k].m ∧ l[k].m < 18446744073709551616) ∧
    wr.cell? ⟨g, o + k * 4, none⟩ = some (.int .i64 l[k].kind) ∧ wr.cell? ⟨g, o + k * 4 + 1, none⟩ = some (.int .u64 l[k].n) ∧ wr.cell? ⟨g, o + k * 4 + 2, none⟩ = some (.int .u64 l[k].m) ∧ wr.cell? ⟨g, o + k * 4 + 3, none⟩ = some (.slice b l[k].bs.length c) ∧
    l[k].bs.length ≤ c ∧ c ≤ maxLen ∧ (-9223372036854775808 ≤ l[k].kind ∧ l[k].kind ≤ 9223372036854775807) := by
  have h2 := h.kept hk
  rcases h with rfl | ⟨g, o, rfl, hc⟩
  · simp at hlt
  obtain ⟨h1, _⟩ := hc k l[k] (by simp)
  rcases h2 with rfl | ⟨g', o', e, hc2⟩
  · simp at hlt
  cases e
  obtain ⟨g1, c0, c1, c2, c3⟩ := hc2 k l[k] (by simp)
  obtain ⟨⟨b, c, hb, hs, hl, hm⟩, hkd, hn, hm2⟩ := g1
  obtain ⟨⟨b', c', hb', hs', _⟩, _⟩ := h1
  have hbb : l[k].b = .slice b l[k].bs.length c := hb
  have hbb' : l[k].b = .slice b' l[k].bs.length c' := hb'
  rw [hbb] at hbb'
  cases hbb'
  exact ⟨g, o, b, c, rfl, hbb, hs, hs', fun hne x hx => hs'.lt hne x hx, hn, hm2, c0, c1, c2, by rw [c3, hbb], hl, hm, hkd⟩

theorem Row.set {w : World} {g o cap n : Nat} {bs : List UInt8} (h : Row w (.slice (some ⟨g, o, none⟩) n cap) bs) (i : Nat) (y : UInt8) (hi : i < bs.length) : Row (w.setCell ⟨g, o + i, none⟩ (.int .u8 y.toNat)) (.slice (some ⟨g, o, none⟩) n cap) (bs.set i y) := by
  rcases h with ⟨h, _⟩ | ⟨g', o', cap', hv, hl, hm, hg, hc, ht⟩
  · cases h
  · cases hv
    refine .inr ⟨g, o, cap, by rw [List.length_set], by rw [List.length_set]; exact hl, hm, by simpa [World.setCell] using hg, ?_, fun j hj => ?_⟩
    · rcases Sees.set hc i y hi with h | ⟨g', o', e, h2⟩
      · have := congrArg List.length h; rw [List.length_set, List.length_nil] at this; omega
      · cases e; exact h2
    · by_cases hji : j = i
      · subst hji
        have h1 := hc j bs[j] (by simp [hi])
        rw [World.cell?_setCell_same _ _ _ h1, World.frozen?_setCell]
        exact ⟨rfl, (ht j hj).2⟩
      · rw [World.cell?_setCell_other _ _ _ _ (by intro h; simp only [Addr.mk.injEq] at h; omega), World.frozen?_setCell]
        exact ht j hj
theorem inc8 (x : UInt8) : IntKind.u8.wrap ((x.toNat : Int) + 1) = ((x + 1 : UInt8).toNat : Int) := by
  have := x.toNat_lt
  rw [IntKind.wrap_u8', UInt8.toNat_add]
  simp

/-- A box of four cells. -/
structure Box4 (w : World) (q : Nat) (a b c d : Value) : Prop where
  c0 : w.cell? ⟨q, 0, none⟩ = some a
  c1 : w.cell? ⟨q, 1, none⟩ = some b
  c2 : w.cell? ⟨q, 2, none⟩ = some c
  c3 : w.cell? ⟨q, 3, none⟩ = some d
  free : ∀ j, w.frozen? ⟨q, j, none⟩ = false
theorem Box4.new (w : World) (a b c d : Value) (t : TypeId) : Box4 (w.alloc (.cells #[a, b, c, d] t)) w.heap.size a b c d :=
  ⟨World.cell?_alloc_new w _ _ 0, World.cell?_alloc_new w _ _ 1, World.cell?_alloc_new w _ _ 2, World.cell?_alloc_new w _ _ 3, fun j => World.frozen?_alloc_new w _ _ j⟩
theorem Box4.lt {w : World} {q : Nat} {a b c d : Value} (h : Box4 w q a b c d) : q < w.heap.size := World.block_lt_of_cell? _ _ h.c0
theorem Box4.kept {w w' : World} {q : Nat} {a b c d : Value} {S : List Nat} (h : Box4 w q a b c d) (hk : Kp S w w') (hq : q ∉ S) : Box4 w' q a b c d :=
  ⟨(hk.cell (p := ⟨q, 0, none⟩) h.lt hq).trans h.c0, (hk.cell (p := ⟨q, 1, none⟩) h.lt hq).trans h.c1, (hk.cell (p := ⟨q, 2, none⟩) h.lt hq).trans h.c2, (hk.cell (p := ⟨q, 3, none⟩) h.lt hq).trans h.c3, fun j => (hk.frozen (p := ⟨q, j, none⟩) h.lt hq).trans (h.free j)⟩
theorem Box4.set3 {w : World} {q : Nat} {a b c d : Value} (h : Box4 w q a b c d) (u : Value) : Box4 (w.setCell ⟨q, 3, none⟩ u) q a b c u ∧ Kp [q] w (w.setCell ⟨q, 3, none⟩ u) := by
  refine ⟨⟨?_, ?_, ?_, World.cell?_setCell_same _ _ _ h.c3, fun j => by rw [World.frozen?_setCell]; exact h.free j⟩, (Kp.refl [q] w).setCell (by simp) _⟩
  · rw [World.cell?_setCell_other _ _ _ _ (by simp)]; exact h.c0
  · rw [World.cell?_setCell_other _ _ _ _ (by simp)]; exact h.c1
  · rw [World.cell?_setCell_other _ _ _ _ (by simp)]; exact h.c2

set_option maxHeartbeats 2000000 in
set_option maxRecDepth 100000 in
theorem writesWalk (a : Option Addr) (n c : Nat) (l : List Thing) (w : World) (hl : Ths w a l) (hn : n = l.length) (hb : sumT l ≤ 1048576) :
    Calls Try.prog 3 #[.slice a n c] w fun e w' => e = .returned (.bool true) ∧ Below w.heap.size w w' := by
  subst hn
  obtain ⟨i0, hi, hz0, hz1, hz2⟩ := info_parts Try.infoB
  have hlen := sumT_len l
  go_enter Try.func3, Try.ntmps3
  go_wp2_with fail
  refine (wNew _).mono ?_
  rintro e w1 ⟨p, rfl, hp, hw1, k1⟩
  have hpge : w.heap.size ≤ p := by omega
  clear hp
  go_wp2_with fail
  refine (cAlive _).mono ?_
  rintro e w2 ⟨rfl, k2⟩
  have hw2 := hw1.keptNew k2
  have k3 := k1.trans k2 (by simp)
  clear hw1 k1 k2
  go_wp2_with fail
  go_loopw [4, 6, 7, 8, 21] (fun b _ _ _ i wr => ∃ (k : Nat) (v : Value), k ≤ l.length ∧ i = .int .i64 k ∧ Wr wr p v (thingsB (l.take k)) ∧ Row wr b (thingsB (l.take k)) ∧ Kp [] w wr ∧ (∀ x ∈ own v, w.heap.size ≤ x) ∧ (∀ x ∈ own b, w.heap.size ≤ x) ∧ ∀ x ∈ own b, x ∉ p :: own v) (fun _ _ _ _ i _ => l.length - (intOf i).toNat)
  case atStart => exact ⟨0, _, Nat.zero_le _, rfl, by simpa [thingsB] using hw2, Row.nil _, k3, by simp [own, Value.ownBlock], by simp [own, Value.ownBlock], by simp [own, Value.ownBlock]⟩
  case round =>
    obtain ⟨k, v, hk, rfl, hw, hrow, hkp, hov, hob, hsep⟩ := hrel
    by_cases hlt : k < l.length
    · have hsum := sumT_take l k
      have htl := thingsB_length (l.take k)
      have hget := sumT_get l k hlt
      have H := hid (thingsB_snoc l k hlt)
      obtain ⟨g, o, b, cb, rfl, hbb, hsee, hsee0, hsep0, ⟨hn0, hn1⟩, ⟨hm0, hm1⟩, c0, c1, c2, c3, hbl, hbm, hkd⟩ := Ths.at hl hkp k hlt
      have HT : Hid (thingB l[k] = thingB ⟨l[k].kind, l[k].n, l[k].m, .slice b l[k].bs.length cb, l[k].bs⟩) := by show _ = _; rw [← hbb]
      have hTl := thingB_length ⟨l[k].kind, l[k].n, l[k].m, .slice b l[k].bs.length cb, l[k].bs⟩
      clear hbb
      generalize l[k].kind = kd at *
      generalize l[k].n = tn at *
      generalize l[k].m = tm at *
      generalize l[k].bs = xs at *
      have kx : Kp [] wr ((wr.alloc (.cells #[.int .i64 kd, .int .u64 tn, .int .u64 tm, .slice b xs.length cb] 29)).alloc (.cells #[.int .i64 kd, .int .u64 tn, .int .u64 tm, .slice b xs.length cb] 29)) := ((Kp.refl _ _).alloc _).alloc _
      have bt : Box4 ((wr.alloc (.cells #[.int .i64 kd, .int .u64 tn, .int .u64 tm, .slice b xs.length cb] 29)).alloc (.cells #[.int .i64 kd, .int .u64 tn, .int .u64 tm, .slice b xs.length cb] 29)) wr.heap.size (.int .i64 kd) (.int .u64 tn) (.int .u64 tm) (.slice b xs.length cb) :=
        (Box4.new wr _ _ _ _ _).kept (S := []) ((Kp.refl _ _).alloc _) (by simp)
      have bo : Box4 ((wr.alloc (.cells #[.int .i64 kd, .int .u64 tn, .int .u64 tm, .slice b xs.length cb] 29)).alloc (.cells #[.int .i64 kd, .int .u64 tn, .int .u64 tm, .slice b xs.length cb] 29)) (wr.heap.size + 1) (.int .i64 kd) (.int .u64 tn) (.int .u64 tm) (.slice b xs.length cb) := by
        have := Box4.new (wr.alloc (.cells #[.int .i64 kd, .int .u64 tn, .int .u64 tm, .slice b xs.length cb] 29)) (.int .i64 kd) (.int .u64 tn) (.int .u64 tm) (.slice b xs.length cb) 29
        simpa using this
      have hwx := hw.keptNew kx
      have hrowx := hrow.kept kx (by simp)
      have hsrc := (hsee.kept kx (by simp)).src (P := Try.prog) Try.underlying26 cb
      have kwx := hkp.trans kx (by simp)
      have hwlt := hw.lt
      have hvlt := hw.row.lt
      have hblt := hrow.lt
      go_wp2_with (at_builtin; refine wpList_append_src _ rfl (.const (.slice none 0 0)) (.tmp 27) 26 26 rfl i0 Try.underlying26 hi hz0 hz1 hz2 _ [] rfl (Row.nil _) _ xs rfl hsrc (by simp; omega) ?_)
      intro v1 w3 r1 k1 o1
      have r1 : Row w3 v1 xs := by simpa using r1
      have k1' : Kp [] ((wr.alloc (.cells #[.int .i64 kd, .int .u64 tn, .int .u64 tm, .slice b xs.length cb] 29)).alloc (.cells #[.int .i64 kd, .int .u64 tn, .int .u64 tm, .slice b xs.length cb] 29)) w3 := k1.mono (by simp [own, Value.ownBlock])
      have o1' : ∀ x ∈ own v1, wr.heap.size + 2 ≤ x := fun x hx => by
        rcases o1 x hx with h | h
        · simp [own, Value.ownBlock] at h
        · simpa using h
      have bt3 := bt.kept k1' (by simp)
      have bo3 := bo.kept k1' (by simp)
      have hw3 := hwx.keptNew k1'
      have hrow3 := hrowx.kept k1' (by simp)
      have kw3 := kwx.trans k1' (by simp)
      obtain ⟨a1, ca1, rfl, s1, ho1⟩ := r1.sees
      obtain ⟨bo4, kq⟩ := bo3.set3 (.slice a1 xs.length ca1)
      have bt4 := bt3.kept kq (by simp)
      have hw4 := hw3.kept kq (fun x hx hm => by rw [List.mem_singleton] at hm; rcases List.mem_cons.1 hx with h | h; omega; have := hvlt x h; omega)
      have hrow4 := hrow3.kept kq (fun x hx hm => by rw [List.mem_singleton] at hm; have := hblt x hx; omega)
      have r4 := r1.kept kq (fun x hx hm => by rw [List.mem_singleton] at hm; have := o1' x hx; omega)
      have kw4 := kw3.trans kq (fun x hx => .inr (by rw [List.mem_singleton] at hx; have := hkp.size; omega))
      have q3 := bo3.c3
      have qf := bo3.free 3
      have q40 := bo4.c0
      have q41 := bo4.c1
      have q42 := bo4.c2
      have q43 := bo4.c3
      clear kx bt bo hwx hrowx hsrc kwx k1 k1' o1 bt3 hw3 hrow3 kw3 r1 s1 c0 c1 c2 c3 kq
      go_wp2_with fail
      have hQ : w.heap.size ≤ wr.heap.size := hkp.size
      generalize wr.heap.size = Q at *
      generalize hW4 : w3.setCell ⟨Q + 1, 3, none⟩ (.slice a1 xs.length ca1) = W4 at *
      clear hW4 q3 qf q40 q41 q42 q43 bo3
      obtain ⟨a1', ca1', e1, s4, hob4⟩ := r4.sees
      cases e1
      refine (cWrite p v _ kd tn tm a1 ca1 xs _ hw4 s4 hn0 hn1 (by omega) ?_).mono ?_
      · intro _ x hx hm
        rw [← hob4] at hx
        have := o1' x hx
        rcases List.mem_cons.1 hm with h | h
        · omega
        · have := hvlt x h; omega
      rintro e w5 ⟨rfl, v5, hw5, hr5⟩
      have hS : ∀ x, Q ≤ x → x ∉ p :: own v := fun x hx hm => by
        rcases List.mem_cons.1 hm with h | h
        · omega
        · have := hvlt x h; omega
      have bt5 := bt4.kept hr5.kp (hS _ (Nat.le_refl _))
      have bo5 := bo4.kept hr5.kp (hS _ (by omega))
      have hrow5 := hrow4.kept hr5.kp hsep
      have r5 := r4.kept hr5.kp (fun x hx => hS x (by have := o1' x hx; omega))
      obtain ⟨kw5, ov5⟩ := stepW kw4 hpge hov hr5
      have hsep5 : ∀ x ∈ own u4, x ∉ p :: own v5 := fun x hx hm => by
        have h1 := hblt x hx
        rcases List.mem_cons.1 hm with h | h
        · exact hsep x hx (by simp [h])
        · rcases hr5.new x h with h2 | h2
          · exact hsep x hx (by simp [h2])
          · have := bt4.lt; omega
      have hv5 : ∀ x ∈ own v5, x ∉ own (.slice a1 xs.length ca1) := fun x hx hm => by
        have h1 := o1' x hm
        rcases hr5.new x hx with h2 | h2
        · have := hvlt x h2; omega
        · have := r4.lt x hm; omega
      have hlt5 := r5.lt
      clear bt4 bo4 hw4 hrow4 r4 s4 hob4 kw4 hr5 hw hrow
      have q53 := bo5.c3
      go_wp2_with fail
      go_loopw [8, 36] (fun _ i wn => ∃ (j : Nat) (ys : List UInt8), j ≤ xs.length ∧ i = .int .i64 j ∧ Hid (ys.length = xs.length) ∧ Row wn (.slice a1 xs.length ca1) ys ∧ Kp (own (.slice a1 xs.length ca1)) w5 wn) (fun _ i _ => xs.length - (intOf i).toNat)
      case atStart => exact ⟨0, xs, Nat.zero_le _, rfl, rfl, r5, Kp.refl _ _⟩
      case round =>
        obtain ⟨j, ys, hj, rfl, hys, hry, hky⟩ := hrel
        have hoB : Q + 1 ∉ own (.slice a1 xs.length ca1) := fun h => by have := o1' _ h; omega
        have hoT : Q ∉ own (.slice a1 xs.length ca1) := fun h => by have := o1' _ h; omega
        have box := (bo5.kept hky hoB).c3
        by_cases hjl : j < xs.length
        · have hjy : j < ys.length := by rw [hys.out]; exact hjl
          have hry' := hry
          rcases hry with ⟨h, _⟩ | ⟨g1, o1, cap1, hv1, hlc1, hcm1, hgl1, hc1, hfr1⟩
          · simp only [Value.slice.injEq] at h; omega
          simp only [Value.slice.injEq] at hv1
          obtain ⟨rfl, _, rfl⟩ := hv1
          have hcj := hc1 j ys[j] (by simp)
          have hfj := (hfr1 j (by omega)).2
          have hinc := inc8 ys[j]
          have rset := Row.set hry' j (ys[j] + 1) hjy
          have kset : Kp (own (.slice (some ⟨g1, o1, none⟩) xs.length ca1)) w5 (wr.setCell ⟨g1, o1 + j, none⟩ (.int .u8 (ys[j] + 1 : UInt8).toNat)) := hky.setCell (p := ⟨g1, o1 + j, none⟩) (by simp [own, Value.ownBlock]) _
          have HY : Hid ((ys.set j (ys[j] + 1)).length = xs.length) := by show _ = _; rw [List.length_set]; exact hys.out
          generalize (ys[j] + 1 : UInt8) = y1 at *
          clear hc1 hfr1 hry'
          go_wp2_with fail
          exact ⟨⟨j + 1, _, by omega, by go_num, HY, rset, kset⟩, by simp [intOf]; omega⟩
        · have kw6 := kw5.trans hky (fun x hx => .inr (by have := o1' x hx; omega))
          have hw6 := hw5.kept hky (fun x hx hm => by
            rcases List.mem_cons.1 hx with h | h
            · have := o1' x hm; omega
            · exact hv5 x h hm)
          have hrow6 := hrow5.kept hky (fun x hx hm => by have := o1' x hm; have := hblt x hx; omega)
          have bt6 := bt5.kept hky hoT
          have t0 := bt6.c0
          have t1 := bt6.c1
          have t2 := bt6.c2
          have t3 := bt6.c3
          have hsee6 := hsee0.kept kw6 (by simp)
          clear bt5 bo5 hrow5 r5 kw5 hky hry box q53 hw5
          go_wp2_with fail
          refine (cBytes kd tn tm b cb xs _ hsee6 hn0 hn1 (by omega)).mono ?_
          rintro e w7 ⟨a7, c7, rfl, s7, k7⟩
          rw [← HT.out] at s7 ⊢
          rw [← HT.out] at hTl
          have hw7 := hw6.keptNew k7
          have hrow7 := hrow6.kept k7 (by simp)
          have kw7 := kw6.trans k7 (by simp)
          have hsrc7 := s7.src (P := Try.prog) Try.underlying26 c7
          have hw7 : Wr w7 p v5 (thingsB (l.take (k + 1))) := by rw [H.out]; rw [show thingB ⟨kd, tn, tm, .slice a1 xs.length ca1, xs⟩ = thingB ⟨kd, tn, tm, .slice b xs.length cb, xs⟩ from rfl, ← HT.out] at hw7; exact hw7
          clear hw6 hrow6 bt6 kw6 k7 hsee6 s7
          go_wp2_with (at_builtin; refine wpList_append_src _ rfl (.tmp 47) (.tmp 49) 26 26 rfl i0 Try.underlying26 hi hz0 hz1 hz2 _ _ rfl hrow7 _ _ rfl hsrc7 (by omega) ?_)
          intro v8 w8 r8 k8 o8
          obtain ⟨kw8, ob8⟩ := stepA kw7 hob k8 o8
          have r8 : Row w8 v8 (thingsB (l.take (k + 1))) := by rw [H.out]; exact r8
          have hw8 := hw7.kept k8 (fun x hx hm => hsep5 x hm hx)
          have hsep8 : ∀ x ∈ own v8, x ∉ p :: own v5 := fun x hx hm => by
            rcases o8 x hx with h | h
            · exact hsep5 x h hm
            · rcases List.mem_cons.1 hm with h2 | h2
              · have := hw7.lt; omega
              · have := hw7.row.lt x h2; omega
          obtain ⟨a8, c8, hv8, _⟩ := r8.shape
          clear hw7 hrow7 hsrc7 k8 o8 kw7
          generalize hTB : thingsB (l.take (k + 1)) = TB at *
          have HTB := hid hTB
          clear hTB
          subst hv8
          go_wp2_with fail
          refine (wLen p v5 _ _ hw8).mono ?_
          rintro e w9 ⟨rfl, rfl⟩
          go_wp2_with fail
          exact ⟨⟨k + 1, v5, by omega, by go_num, by rw [HTB.out]; exact hw8, by rw [HTB.out]; exact r8, kw8, ov5, ob8, hsep8⟩, by simp [intOf]; omega⟩
    · have HT : Hid (l.take k = l) := List.take_of_length_le (by omega)
      rw [HT.out] at hw hrow
      have htl := thingsB_length l
      generalize thingsB l = TB at *
      go_wp2_with fail
      refine (wBytes p v _ _ hw (by omega)).mono ?_
      rintro e w3 ⟨v3, rfl, r3, k3, o3⟩
      have hw3 := hw.keptNew k3
      have hrow3 := hrow.kept k3 (by simp)
      have kw3 := hkp.trans k3 (by simp)
      have o3' : ∀ x ∈ own v3, wr.heap.size ≤ x := o3
      have hwlt := hw.lt
      have hvlt := hw.row.lt
      have hblt := hrow.lt
      obtain ⟨a3, c3, rfl, s3, _⟩ := r3.sees
      obtain ⟨a4, c4, hu4, s4, _⟩ := hrow3.sees
      subst hu4
      have hQ : w.heap.size ≤ wr.heap.size := hkp.size
      clear hrow hw hkp k3
      go_wp2_with fail
      refine (cSame a3 a4 _ _ c3 c4 TB TB _ s3 s4 rfl rfl).mono ?_
      rintro e w4 ⟨rfl, rfl⟩
      rw [beq_self_eq_true]
      clear s3 s4
      go_wp2_with fail
      generalize wr.heap.size = Q at *
      go_loopw [11, 64] (fun _ i wn => ∃ (j : Nat) (ys : List UInt8), j ≤ TB.length ∧ i = .int .i64 j ∧ Hid (ys.length = TB.length) ∧ Row wn (.slice a3 TB.length c3) ys ∧ Kp (own (.slice a3 TB.length c3)) w4 wn) (fun _ i _ => TB.length - (intOf i).toNat)
      case atStart => exact ⟨0, TB, Nat.zero_le _, rfl, rfl, r3, Kp.refl _ _⟩
      case round =>
        obtain ⟨j, ys, hj, rfl, hys, hry, hky⟩ := hrel
        by_cases hjl : j < TB.length
        · have hjy : j < ys.length := by rw [hys.out]; exact hjl
          have hry' := hry
          rcases hry with ⟨h, _⟩ | ⟨g1, o1, cap1, hv1, hlc1, hcm1, hgl1, hc1, hfr1⟩
          · simp only [Value.slice.injEq] at h; omega
          simp only [Value.slice.injEq] at hv1
          obtain ⟨rfl, _, rfl⟩ := hv1
          have hcj := hc1 j ys[j] (by simp)
          have hfj := (hfr1 j (by omega)).2
          have hinc := inc8 ys[j]
          have rset := Row.set hry' j (ys[j] + 1) hjy
          have kset : Kp (own (.slice (some ⟨g1, o1, none⟩) TB.length c3)) w4 (wr.setCell ⟨g1, o1 + j, none⟩ (.int .u8 (ys[j] + 1 : UInt8).toNat)) := hky.setCell (p := ⟨g1, o1 + j, none⟩) (by simp [own, Value.ownBlock]) _
          have HY : Hid ((ys.set j (ys[j] + 1)).length = TB.length) := by show _ = _; rw [List.length_set]; exact hys.out
          generalize (ys[j] + 1 : UInt8) = y1 at *
          clear hc1 hfr1 hry'
          go_wp2_with fail
          exact ⟨⟨j + 1, _, by omega, by go_num, HY, rset, kset⟩, by simp [intOf]; omega⟩
        · have hw5 := hw3.kept hky (fun x hx hm => by
            have := o3' x hm
            rcases List.mem_cons.1 hx with h | h
            · omega
            · have := hvlt x h; omega)
          have hrow5 := hrow3.kept hky (fun x hx hm => by have := o3' x hm; have := hblt x hx; omega)
          have kw5 := kw3.trans hky (fun x hx => .inr (by have := o3' x hx; omega))
          clear hw3 hrow3 hry hky
          go_wp2_with fail
          refine (wBytes p v _ _ hw5 (by omega)).mono ?_
          rintro e w6 ⟨v6, rfl, r6, k6, o6⟩
          obtain ⟨a6, c6, rfl, s6, _⟩ := r6.sees
          obtain ⟨a7, c7, e7, s7, _⟩ := (hrow5.kept k6 (by simp)).sees
          cases e7
          go_wp2_with fail
          refine (cSame a6 a4 _ _ c6 c4 TB TB _ s6 s7 rfl rfl).mono ?_
          rintro e w7 ⟨rfl, rfl⟩
          rw [beq_self_eq_true]
          go_wp2_with fail
          go_ret
          exact ⟨rfl, (kw5.trans k6 (by simp)).below⟩
end Go.Proofs.Ytkcdjnkipmbafaa

/- The law's own change: a call on a disk, and on the reference. -/
import Derived.Test.YtgllkonbgigcbaaB6
import Derived.Test.YtgllkonbgigcbaaB7
import Derived.Deep.RegionHeld3
section
namespace Go.Proofs.Ytgllkonbgigcbaa
open Go.RowKit Go.Hay
set_option linter.unusedVariables false
set_option linter.unusedSimpArgs false

/-- A call. -/
structure DOp where
  kind : Int
  name : List UInt8
  to : List UInt8
  b : Bs
  n : Int
  bit : Int
  ka : Option Addr
  kc : Nat
  ks : List Int
instance : Inhabited DOp := ⟨⟨0, [], [], default, 0, 0, none, 0, []⟩⟩
def DOp.v (o : DOp) : Value := .agg #[.int .i64 o.kind, .string ⟨o.name.toArray⟩, .string ⟨o.to.toArray⟩, .slice o.b.a o.b.bs.length o.b.c, .int .i64 o.n, .int .i64 o.bit, .slice o.ka o.ks.length o.kc]
/-- The boxes of change: the reference's disk, the call, the answer. -/
structure Bxs (w : World) (q : Nat) (r : RD) (o : DOp) : Prop where
  rd : B6 w q (.int .i64 r.room) (.int .i64 r.steps) (.slice r.fa r.l.length r.fc) (.bool r.armed) (.bool r.dead) (.int .i64 r.left)
  o0 : w.cell? ⟨q + 1, 0, none⟩ = some (.int .i64 o.kind)
  o1 : w.cell? ⟨q + 1, 1, none⟩ = some (.string ⟨o.name.toArray⟩)
  o2 : w.cell? ⟨q + 1, 2, none⟩ = some (.string ⟨o.to.toArray⟩)
  o3 : w.cell? ⟨q + 1, 3, none⟩ = some (.slice o.b.a o.b.bs.length o.b.c)
  o4 : w.cell? ⟨q + 1, 4, none⟩ = some (.int .i64 o.n)
  o5 : w.cell? ⟨q + 1, 5, none⟩ = some (.int .i64 o.bit)
  an : B6 w (q + 2) (.int .i64 0) (.int .i64 0) (.slice none 0 0) (.bool false) (.bool false) (.int .i64 0)
theorem Bxs.kept {w w' : World} {q : Nat} {r : RD} {o : DOp} (h : Bxs w q r o) (hk : Kp [] w w') : Bxs w' q r o :=
  ⟨h.rd.kept hk, cell_kp hk h.o0, cell_kp hk h.o1, cell_kp hk h.o2, cell_kp hk h.o3, cell_kp hk h.o4, cell_kp hk h.o5, h.an.kept hk⟩
theorem boxC (r : RD) (o : DOp) (w : World) : ∃ w1, ((w.alloc (.cells #[.int .i64 r.room, .int .i64 r.steps, .slice r.fa r.l.length r.fc, .bool r.armed, .bool r.dead, .int .i64 r.left] 28)).alloc (.cells #[.int .i64 o.kind, .string ⟨o.name.toArray⟩, .string ⟨o.to.toArray⟩, .slice o.b.a o.b.bs.length o.b.c, .int .i64 o.n, .int .i64 o.bit, .slice o.ka o.ks.length o.kc] 36)).alloc (.cells #[.int .i64 0, .int .i64 0, .slice none 0 0, .bool false, .bool false, .int .i64 0] 28) = w1 ∧ Kp [] w w1 ∧ Bxs w1 w.heap.size r o ∧ w.heap.size + 3 ≤ w1.heap.size := by
  refine ⟨_, rfl, (((Kp.refl _ _).alloc _).alloc _).alloc _, ?_, by simp⟩
  have q1 : ∀ (a : World) (C : Array Value) (t : TypeId) (j : Nat), (a.alloc (.cells C t)).cell? ⟨a.heap.size, j, none⟩ = C[j]? := fun a C t j => World.cell?_alloc_new a C t j
  have kk : Kp [] ((w.alloc (.cells #[.int .i64 r.room, .int .i64 r.steps, .slice r.fa r.l.length r.fc, .bool r.armed, .bool r.dead, .int .i64 r.left] 28)).alloc (.cells #[.int .i64 o.kind, .string ⟨o.name.toArray⟩, .string ⟨o.to.toArray⟩, .slice o.b.a o.b.bs.length o.b.c, .int .i64 o.n, .int .i64 o.bit, .slice o.ka o.ks.length o.kc] 36)) (((w.alloc (.cells #[.int .i64 r.room, .int .i64 r.steps, .slice r.fa r.l.length r.fc, .bool r.armed, .bool r.dead, .int .i64 r.left] 28)).alloc (.cells #[.int .i64 o.kind, .string ⟨o.name.toArray⟩, .string ⟨o.to.toArray⟩, .slice o.b.a o.b.bs.length o.b.c, .int .i64 o.n, .int .i64 o.bit, .slice o.ka o.ks.length o.kc] 36)).alloc (.cells #[.int .i64 0, .int .i64 0, .slice none 0 0, .bool false, .bool false, .int .i64 0] 28)) := (Kp.refl _ _).alloc _
  have op : ∀ j u, (#[.int .i64 o.kind, .string ⟨o.name.toArray⟩, .string ⟨o.to.toArray⟩, .slice o.b.a o.b.bs.length o.b.c, .int .i64 o.n, .int .i64 o.bit, .slice o.ka o.ks.length o.kc] : Array Value)[j]? = some u → (((w.alloc (.cells #[.int .i64 r.room, .int .i64 r.steps, .slice r.fa r.l.length r.fc, .bool r.armed, .bool r.dead, .int .i64 r.left] 28)).alloc (.cells #[.int .i64 o.kind, .string ⟨o.name.toArray⟩, .string ⟨o.to.toArray⟩, .slice o.b.a o.b.bs.length o.b.c, .int .i64 o.n, .int .i64 o.bit, .slice o.ka o.ks.length o.kc] 36)).alloc (.cells #[.int .i64 0, .int .i64 0, .slice none 0 0, .bool false, .bool false, .int .i64 0] 28)).cell? ⟨w.heap.size + 1, j, none⟩ = some u := fun j u hu => by
    refine cell_kp kk ?_
    have := q1 (w.alloc (.cells #[.int .i64 r.room, .int .i64 r.steps, .slice r.fa r.l.length r.fc, .bool r.armed, .bool r.dead, .int .i64 r.left] 28)) #[.int .i64 o.kind, .string ⟨o.name.toArray⟩, .string ⟨o.to.toArray⟩, .slice o.b.a o.b.bs.length o.b.c, .int .i64 o.n, .int .i64 o.bit, .slice o.ka o.ks.length o.kc] 36 j
    rw [World.size_alloc] at this
    exact this.trans hu
  exact ⟨((B6.at _ rfl _ _ _ _ _ _ _).kept ((Kp.refl _ _).alloc _)).kept kk, op 0 _ rfl, op 1 _ rfl, op 2 _ rfl, op 3 _ rfl, op 4 _ rfl, op 5 _ rfl, B6.at _ (by simp) _ _ _ _ _ _ _⟩
/-- What change leaves: the disk behind the call, the reference behind it, and whether they told the same. -/
def ChP (p mb : Nat) (xs : List Ent) (d' : Dk) (rT : List Nat) (rd' : Dk) (b : Bool) (w : World) (e : Ending) (w' : World) : Prop :=
  ∃ (v : Value) (xs' : List Ent) (W1 W2 : World) (qa : Nat), e = .returned (.tuple #[v, .bool b]) ∧ Disk w' p mb xs' d' ∧ Mv (foot p mb xs) w (foot p mb xs') w' ∧ Kp [] w W1 ∧ w.heap.size ≤ qa ∧ qa < W1.heap.size ∧ RefP rT rd' W1 v W2 ∧ Kp (qa :: foot p mb xs) W2 w' ∧ ∀ k ∈ foot p mb xs', k ∈ foot p mb xs ∨ W2.heap.size ≤ k
/-- Behind the call: the boxes stand, and the answer's box may be written. -/
theorem chFin {p mb : Nat} {xs xs' : List Ent} {d' : Dk} {rT : List Nat} {rd' : Dk} {b : Bool} {w w1 w2 w3 w4 w5 : World} {r' : RD} {D : Dk} {q : Nat} (hD : Disk w p mb xs D) (k1 : Kp [] w w1) (hq : w.heap.size ≤ q) (hq1 : q < w1.heap.size) (hR : RefP rT rd' w1 r'.v w2) (k3 : Kp [] w2 w3)
    (hD4 : Disk w4 p mb xs' d') (mv : Mv (foot p mb xs) w3 (foot p mb xs') w4) (k5 : Kp [q] w4 w5) : ChP p mb xs d' rT rd' b w (.returned (.tuple #[r'.v, .bool b])) w5 := by
  have k2 : Kp [] w1 w2 := by obtain ⟨_, _, _, _, h, _⟩ := hR; exact h
  have k13 : Kp [] w w3 := (k1.trans k2 (by simp)).trans k3 (by simp)
  have hlt := hD.lt
  have hqf : q ∉ foot p mb xs' := fun h => by
    rcases mv.new q h with h1 | h1
    · have := hlt q h1; omega
    · have := k2.size; have := k3.size; omega
  refine ⟨_, xs', w1, w2, q, rfl, hD4.kept k5 (fun k hk h => ?_), ⟨(k13.mono (T := foot p mb xs) (by simp)).trans (S := foot p mb xs) (T := q :: foot p mb xs) (mv.kp.mono (T := q :: foot p mb xs) (fun x hx => .inl (by simp [hx])) |>.trans k5 (fun x hx => .inl (by rw [List.mem_singleton] at hx; simp [hx]))) (fun x hx => ?_), fun k hk => ?_⟩, k1, hq, hq1, hR, ?_, fun k hk => ?_⟩
  · rw [List.mem_singleton] at h; subst h; exact hqf hk
  · rcases List.mem_cons.1 hx with rfl | h
    · exact .inr hq
    · exact .inl h
  · rcases mv.new k hk with h | h
    · exact .inl h
    · exact .inr (by have := k13.size; omega)
  · exact (k3.mono (T := q :: foot p mb xs) (by simp)).trans (mv.kp.mono (T := q :: foot p mb xs) (fun x hx => .inl (by simp [hx])) |>.trans k5 (fun x hx => .inl (by rw [List.mem_singleton] at hx; simp [hx]))) (fun x hx => .inl hx)
  · rcases mv.new k hk with h | h
    · exact .inl h
    · exact .inr (by have := k3.size; omega)
theorem cellMv {S S' : List Nat} {a b : World} {q j : Nat} {v : Value} (h : Mv S a S' b) (hc : a.cell? ⟨q, j, none⟩ = some v) (hq : q ∉ S) : b.cell? ⟨q, j, none⟩ = some v := (h.kp.cell (p := ⟨q, j, none⟩) (World.block_lt_of_cell? _ _ hc) hq).trans hc
theorem B6.mv {S S' : List Nat} {w w' : World} {q : Nat} {a b c d e f : Value} (h : B6 w q a b c d e f) (hm : Mv S w S' w') (hq : q ∉ S) : B6 w' q a b c d e f :=
  ⟨cellMv hm h.c0 hq, cellMv hm h.c1 hq, cellMv hm h.c2 hq, cellMv hm h.c3 hq, cellMv hm h.c4 hq, cellMv hm h.c5 hq, fun j => (hm.kp.frozen (p := ⟨q, j, none⟩) h.lt hq).trans (h.free j)⟩
/-- What the loads of a call's last region read. -/
def Lds (q3 qo : Nat) (r : RD) (o : DOp) (w' : World) : Prop :=
  w'.cell? ⟨q3, 0, none⟩ = some (.int .i64 r.room) ∧ w'.cell? ⟨q3, 1, none⟩ = some (.int .i64 r.steps) ∧ w'.cell? ⟨q3, 2, none⟩ = some (.slice r.fa r.l.length r.fc) ∧ w'.cell? ⟨q3, 3, none⟩ = some (.bool r.armed) ∧ w'.cell? ⟨q3, 4, none⟩ = some (.bool r.dead) ∧ w'.cell? ⟨q3, 5, none⟩ = some (.int .i64 r.left) ∧
  w'.cell? ⟨qo, 1, none⟩ = some (.string ⟨o.name.toArray⟩) ∧ w'.cell? ⟨qo, 2, none⟩ = some (.string ⟨o.to.toArray⟩) ∧ w'.cell? ⟨qo, 3, none⟩ = some (.slice o.b.a o.b.bs.length o.b.c) ∧ w'.cell? ⟨qo, 4, none⟩ = some (.int .i64 o.n) ∧ w'.cell? ⟨qo, 5, none⟩ = some (.int .i64 o.bit)
theorem Lds.mv {q3 qo : Nat} {r : RD} {o : DOp} {S S' : List Nat} {a b : World} (h : Lds q3 qo r o a) (mv : Mv S a S' b) (h1 : q3 ∉ S) (h2 : qo ∉ S) : Lds q3 qo r o b := by
  obtain ⟨a0, a1, a2, a3, a4, a5, b1, b2, b3, b4, b5⟩ := h
  exact ⟨cellMv mv a0 h1, cellMv mv a1 h1, cellMv mv a2 h1, cellMv mv a3 h1, cellMv mv a4 h1, cellMv mv a5 h1, cellMv mv b1 h2, cellMv mv b2 h2, cellMv mv b3 h2, cellMv mv b4 h2, cellMv mv b5 h2⟩
theorem set6_other {W : World} {q q' j : Nat} (h : q' ≠ q) (a b c d e f : Value) : ((((((W.setCell ⟨q, 0, none⟩ a).setCell ⟨q, 1, none⟩ b).setCell ⟨q, 2, none⟩ c).setCell ⟨q, 3, none⟩ d).setCell ⟨q, 4, none⟩ e).setCell ⟨q, 5, none⟩ f).cell? ⟨q', j, none⟩ = W.cell? ⟨q', j, none⟩ := by
  have ne : ∀ i, (⟨q, i, none⟩ : Addr) ≠ ⟨q', j, none⟩ := fun i e => h (by injection e with h1; exact h1.symm)
  rw [World.cell?_setCell_other _ _ _ _ (ne 5), World.cell?_setCell_other _ _ _ _ (ne 4), World.cell?_setCell_other _ _ _ _ (ne 3), World.cell?_setCell_other _ _ _ _ (ne 2), World.cell?_setCell_other _ _ _ _ (ne 1), World.cell?_setCell_other _ _ _ _ (ne 0)]
theorem Lds.set6 {q3 qo q : Nat} {r : RD} {o : DOp} {w4 : World} (h : Lds q3 qo r o w4) (h1 : q3 ≠ q) (h2 : qo ≠ q) (a b c d e f : Value) : Lds q3 qo r o ((((((w4.setCell ⟨q, 0, none⟩ a).setCell ⟨q, 1, none⟩ b).setCell ⟨q, 2, none⟩ c).setCell ⟨q, 3, none⟩ d).setCell ⟨q, 4, none⟩ e).setCell ⟨q, 5, none⟩ f) := by
  obtain ⟨a0, a1, a2, a3, a4, a5, b1, b2, b3, b4, b5⟩ := h
  exact ⟨(set6_other h1 ..).trans a0, (set6_other h1 ..).trans a1, (set6_other h1 ..).trans a2, (set6_other h1 ..).trans a3, (set6_other h1 ..).trans a4, (set6_other h1 ..).trans a5, (set6_other h2 ..).trans b1, (set6_other h2 ..).trans b2, (set6_other h2 ..).trans b3, (set6_other h2 ..).trans b4, (set6_other h2 ..).trans b5⟩
set_option maxHeartbeats 8000000 in
set_option maxRecDepth 100000 in
theorem cChgSync {w : World} {p mb : Nat} {xs : List Ent} {d : Dk} (hD : Disk w p mb xs d) (hs : d.steps < 9000000000000000000) (r : RD) (x : Dk × Int) (o : DOp) (hk : o.kind = 1) (hname : o.name.length ≤ maxLen) 
    (hRef : ∀ W, Kp [] w W → Calls Try.prog 32 #[r.v, .int .i64 1, .string ⟨o.name.toArray⟩, .string ⟨#[]⟩, .int .i64 0] W (RefE r.foot x W)) :
    Calls Try.prog 20 #[.pointer (some ⟨p, 0, none⟩), r.v, o.v] w (ChP p mb xs (doD d 1 o.name [] 0).1 r.foot x.1 ((doD d 1 o.name [] 0).2 == x.2) w) := by
  obtain ⟨w1, hw1, k1, bx, hsz⟩ := boxC r o w
  have hRef1 := hRef w1 k1
  have hlt := hD.lt
  obtain ⟨room, steps, fa, fc, l, armed, dead, left⟩ := r
  simp only [RD.v, DOp.v] at *
  have b0 := bx.rd.c0; have b1 := bx.rd.c1; have b2 := bx.rd.c2; have b3 := bx.rd.c3; have b4 := bx.rd.c4; have b5 := bx.rd.c5
  have o0 := bx.o0; have o1 := bx.o1; have o2 := bx.o2; have o3 := bx.o3; have o4 := bx.o4; have o5 := bx.o5
  rw [hk] at o0 hw1 ⊢
  clear hRef
  go_enter Try.func20, Try.ntmps20
  go_wp2_with fail
  refine hRef1.mono ?_
  rintro e w2 ⟨v, rfl, hR⟩
  have hR0 := hR
  obtain ⟨r', rfl, _, _, k2, _⟩ := hR0
  obtain ⟨w3, hw3, k3, bx3, hsz3⟩ := boxR r' w2
  have bxs3 := (bx.kept k2).kept k3
  have kd : Kp [] w w3.drew := ((k1.trans k2 (by simp)).trans k3 (by simp)).drew
  have hD3 := hD.keptNew kd
  obtain ⟨room', steps', fa', fc', l', armed', dead', left'⟩ := r'
  simp only [RD.v] at *
  have a1 := cSync hD3 hs o.name hname [] 0
  have hw3' := hid hw3
  clear hw3 b0 b1 b2 b3 b4 b5 o0 o1 o2 o3 o4 o5 hRef1
  go_wp2_with fail
  rw [hw3'.out]
  obtain ⟨q3, hq3⟩ : ∃ q3, q3 = w2.heap.size := ⟨_, rfl⟩
  rw [← hq3] at bx3 ⊢
  have hqn : q3 ∉ foot p mb xs := fun h => by have := hlt _ h; have := k1.size; have := k2.size; omega
  have hqo : w.heap.size + 1 ∉ foot p mb xs := fun h => by have := hlt _ h; omega
  have hqa : w.heap.size + 2 ∉ foot p mb xs := fun h => by have := hlt _ h; omega
  have hne1 : q3 ≠ w.heap.size + 2 := by have := k2.size; omega
  have hne2 : w.heap.size + 1 ≠ w.heap.size + 2 := by omega
  have hS0 : Lds q3 (w.heap.size + 1) ⟨room', steps', fa', fc', l', armed', dead', left'⟩ o w3.drew := ⟨bx3.c0, bx3.c1, bx3.c2, bx3.c3, bx3.c4, bx3.c5, bxs3.o1, bxs3.o2, bxs3.o3, bxs3.o4, bxs3.o5⟩
  have hSk : Hid (∀ w4 xs', Mv (foot p mb xs) w3.drew (foot p mb xs') w4 → Lds q3 (w.heap.size + 1) ⟨room', steps', fa', fc', l', armed', dead', left'⟩ o w4) := fun w4 xs' mv => hS0.mv mv hqn hqo
  have hAn : Hid (∀ w4 xs', Mv (foot p mb xs) w3.drew (foot p mb xs') w4 → B6 w4 (w.heap.size + 2) (.int .i64 0) (.int .i64 0) (.slice none 0 0) (.bool false) (.bool false) (.int .i64 0)) := fun w4 xs' mv => (bxs3.an.kept (w' := w3.drew) (Kp.refl _ _).drew).mv mv hqa
  have hRh := hid hR
  clear hR hq3
  refine wp_region_held_drew (S := (fun w' => w'.cell? ⟨q3, 0, none⟩ = some (.int .i64 room') ∧ w'.cell? ⟨q3, 1, none⟩ = some (.int .i64 steps') ∧ w'.cell? ⟨q3, 2, none⟩ = some (.slice fa' l'.length fc') ∧ w'.cell? ⟨q3, 3, none⟩ = some (.bool armed') ∧ w'.cell? ⟨q3, 4, none⟩ = some (.bool dead') ∧ w'.cell? ⟨q3, 5, none⟩ = some (.int .i64 left') ∧ w'.cell? ⟨w.heap.size + 1, 1, none⟩ = some (.string ⟨o.name.toArray⟩) ∧ w'.cell? ⟨w.heap.size + 1, 2, none⟩ = some (.string ⟨o.to.toArray⟩) ∧ w'.cell? ⟨w.heap.size + 1, 3, none⟩ = some (.slice o.b.a o.b.bs.length o.b.c) ∧ w'.cell? ⟨w.heap.size + 1, 4, none⟩ = some (.int .i64 o.n) ∧ w'.cell? ⟨w.heap.size + 1, 5, none⟩ = some (.int .i64 o.bit))) (by kernel_rfl) ?_ (fun hHeld => ?_)
  · exact hS0
  refine wpAnyH_take (i := 0) (v := ?_) rfl (by kernel_rfl) (by kernel_rfl) (by kernel_rfl) (fun _ _ _ h => h) (Or.inl ⟨by rfl, ?_⟩) (by assumption) ?_
  rotate_left
  · intro w hSw; (try dsimp only at hSw); go_simp <;> with_reducible rfl
  try simp only [Act.put, List.getElem_toArray, List.getElem_cons_zero, List.getElem_cons_succ, List.setIfInBounds_toArray, List.set_cons_zero, List.set_cons_succ]
  refine wpAnyH_take (i := 1) (v := ?_) rfl (by kernel_rfl) (by kernel_rfl) (by kernel_rfl) (fun _ _ _ h => h) (Or.inl ⟨by rfl, ?_⟩) (by assumption) ?_
  rotate_left
  · intro w hSw; (try dsimp only at hSw); go_simp <;> with_reducible rfl
  try simp only [Act.put, List.getElem_toArray, List.getElem_cons_zero, List.getElem_cons_succ, List.setIfInBounds_toArray, List.set_cons_zero, List.set_cons_succ]
  refine wpAnyH_take (i := 2) (v := ?_) rfl (by kernel_rfl) (by kernel_rfl) (by kernel_rfl) (fun _ _ _ h => h) (Or.inl ⟨by rfl, ?_⟩) (by assumption) ?_
  rotate_left
  · intro w hSw; (try dsimp only at hSw); go_simp <;> with_reducible rfl
  try simp only [Act.put, List.getElem_toArray, List.getElem_cons_zero, List.getElem_cons_succ, List.setIfInBounds_toArray, List.set_cons_zero, List.set_cons_succ]
  refine wpAnyH_take (i := 3) (v := ?_) rfl (by kernel_rfl) (by kernel_rfl) (by kernel_rfl) (fun _ _ _ h => h) (Or.inl ⟨by rfl, ?_⟩) (by assumption) ?_
  rotate_left
  · intro w hSw; (try dsimp only at hSw); go_simp <;> with_reducible rfl
  try simp only [Act.put, List.getElem_toArray, List.getElem_cons_zero, List.getElem_cons_succ, List.setIfInBounds_toArray, List.set_cons_zero, List.set_cons_succ]
  refine wpAnyH_take (i := 5) (v := ?_) rfl (by kernel_rfl) (by kernel_rfl) (by kernel_rfl) (fun _ _ _ h => h) (Or.inl ⟨by rfl, ?_⟩) (by assumption) ?_
  rotate_left
  · intro w hSw; (try dsimp only at hSw); go_simp <;> with_reducible rfl
  try simp only [Act.put, List.getElem_toArray, List.getElem_cons_zero, List.getElem_cons_succ, List.setIfInBounds_toArray, List.set_cons_zero, List.set_cons_succ]
  refine wpAnyH_ready (rs := [4]) (by kernel_rfl) (by simp) ?_
  refine AllReadyH.cons rfl (fun K hK => ?_) AllReadyH.nil
  go_simp
  refine a1.mono ?_
  rintro e w4 ⟨rfl, xs4, hD4, mv4⟩
  have hb4 := hAn.out _ _ mv4
  have hb4' := hb4
  obtain ⟨r0, r1, r2, r3, r4, r5, rf⟩ := hb4'
  have g0 := rf 0
  have g1 := rf 1
  have g2 := rf 2
  have g3 := rf 3
  have g4 := rf 4
  have g5 := rf 5
  (try go_wp2_with fail)
  refine hK.out _ _ ?_ (fun hHeld => ?_)
  · exact hSk.out _ _ mv4
  clear hK K
  try simp only [Act.put, List.getElem_toArray, List.getElem_cons_zero, List.getElem_cons_succ, List.setIfInBounds_toArray, List.set_cons_zero, List.set_cons_succ]
  refine wpAnyH_take (i := 6) (v := ?_) rfl (by kernel_rfl) (by kernel_rfl) (by kernel_rfl) (fun _ _ _ h => h) (Or.inl ⟨by rfl, ?_⟩) (by assumption) ?_
  rotate_left
  · intro w hSw; (try dsimp only at hSw); go_simp <;> with_reducible rfl
  try simp only [Act.put, List.getElem_toArray, List.getElem_cons_zero, List.getElem_cons_succ, List.setIfInBounds_toArray, List.set_cons_zero, List.set_cons_succ]
  refine wpAnyH_ready (rs := [7]) (by kernel_rfl) (by simp) ?_
  refine AllReadyH.cons rfl (fun K hK => ?_) AllReadyH.nil
  go_simp
  (try go_wp2_with fail)
  refine hK.out _ _ ?_ (fun hHeld => ?_)
  · exact Lds.set6 (hSk.out _ _ mv4) hne1 hne2 _ _ _ _ _ _
  clear hK K
  try simp only [Act.put, List.getElem_toArray, List.getElem_cons_zero, List.getElem_cons_succ, List.setIfInBounds_toArray, List.set_cons_zero, List.set_cons_succ]
  refine wpAnyH_take (i := 8) (v := ?_) rfl (by kernel_rfl) (by kernel_rfl) (by kernel_rfl) (fun _ _ _ h => h) (Or.inl ⟨by rfl, ?_⟩) (by assumption) ?_
  rotate_left
  · intro w hSw; (try dsimp only at hSw); go_simp <;> with_reducible rfl
  try simp only [Act.put, List.getElem_toArray, List.getElem_cons_zero, List.getElem_cons_succ, List.setIfInBounds_toArray, List.set_cons_zero, List.set_cons_succ]
  refine wpAnyH_done (by kernel_rfl) ?_ _
  go_wp2_with fail
  obtain ⟨W', hW', hb6, kW'⟩ := set6_ex (show B6 w4 (w.heap.size + 1 + 1) _ _ _ _ _ _ from hb4) (.int .i64 room') (.int .i64 steps') (.slice fa' l'.length fc') (.bool armed') (.bool dead') (.int .i64 left')
  rw [hW']
  obtain ⟨z0, z1, z2, z3, z4, z5, _⟩ := hb6
  refine bodyPost_ret (v := .tuple #[.agg #[.int .i64 room', .int .i64 steps', .slice fa' l'.length fc', .bool armed', .bool dead', .int .i64 left'], .bool ((doD d 1 o.name [] 0).2 == x.2)]) (by simp [results, Try.results20, go_sem, z0, z1, z2, z3, z4, z5]) rfl ?_
  exact chFin (r' := ⟨room', steps', fa', fc', l', armed', dead', left'⟩) hD k1 (q := w.heap.size + 1 + 1) (by omega) (by omega) hRh.out (k3.drew) hD4 mv4 kW'
set_option maxHeartbeats 8000000 in
set_option maxRecDepth 100000 in
theorem cChgTrunc {w : World} {p mb : Nat} {xs : List Ent} {d : Dk} (hD : Disk w p mb xs d) (hs : d.steps < 9000000000000000000) (hB : Small d) (r : RD) (x : Dk × Int) (o : DOp) (hk : o.kind = 2) (hname : o.name.length ≤ maxLen) (hn0 : -9223372036854775808 ≤ o.n) (hn1 : o.n < 9223372036854775808)
    (hRef : ∀ W, Kp [] w W → Calls Try.prog 32 #[r.v, .int .i64 2, .string ⟨o.name.toArray⟩, .string ⟨#[]⟩, .int .i64 o.n] W (RefE r.foot x W)) :
    Calls Try.prog 20 #[.pointer (some ⟨p, 0, none⟩), r.v, o.v] w (ChP p mb xs (doD d 2 o.name [] o.n).1 r.foot x.1 ((doD d 2 o.name [] o.n).2 == x.2) w) := by
  obtain ⟨w1, hw1, k1, bx, hsz⟩ := boxC r o w
  have hRef1 := hRef w1 k1
  have hlt := hD.lt
  obtain ⟨room, steps, fa, fc, l, armed, dead, left⟩ := r
  simp only [RD.v, DOp.v] at *
  have b0 := bx.rd.c0; have b1 := bx.rd.c1; have b2 := bx.rd.c2; have b3 := bx.rd.c3; have b4 := bx.rd.c4; have b5 := bx.rd.c5
  have o0 := bx.o0; have o1 := bx.o1; have o2 := bx.o2; have o3 := bx.o3; have o4 := bx.o4; have o5 := bx.o5
  rw [hk] at o0 hw1 ⊢
  clear hRef
  go_enter Try.func20, Try.ntmps20
  go_wp2_with fail
  refine hRef1.mono ?_
  rintro e w2 ⟨v, rfl, hR⟩
  have hR0 := hR
  obtain ⟨r', rfl, _, _, k2, _⟩ := hR0
  obtain ⟨w3, hw3, k3, bx3, hsz3⟩ := boxR r' w2
  have bxs3 := (bx.kept k2).kept k3
  have kd : Kp [] w w3.drew := ((k1.trans k2 (by simp)).trans k3 (by simp)).drew
  have hD3 := hD.keptNew kd
  obtain ⟨room', steps', fa', fc', l', armed', dead', left'⟩ := r'
  simp only [RD.v] at *
  have a1 := cTruncate hD3 hs o.name hname [] o.n hn0 hn1 hB
  have hw3' := hid hw3
  clear hw3 b0 b1 b2 b3 b4 b5 o0 o1 o2 o3 o4 o5 hRef1
  go_wp2_with fail
  rw [hw3'.out]
  obtain ⟨q3, hq3⟩ : ∃ q3, q3 = w2.heap.size := ⟨_, rfl⟩
  rw [← hq3] at bx3 ⊢
  have hqn : q3 ∉ foot p mb xs := fun h => by have := hlt _ h; have := k1.size; have := k2.size; omega
  have hqo : w.heap.size + 1 ∉ foot p mb xs := fun h => by have := hlt _ h; omega
  have hqa : w.heap.size + 2 ∉ foot p mb xs := fun h => by have := hlt _ h; omega
  have hne1 : q3 ≠ w.heap.size + 2 := by have := k2.size; omega
  have hne2 : w.heap.size + 1 ≠ w.heap.size + 2 := by omega
  have hS0 : Lds q3 (w.heap.size + 1) ⟨room', steps', fa', fc', l', armed', dead', left'⟩ o w3.drew := ⟨bx3.c0, bx3.c1, bx3.c2, bx3.c3, bx3.c4, bx3.c5, bxs3.o1, bxs3.o2, bxs3.o3, bxs3.o4, bxs3.o5⟩
  have hSk : Hid (∀ w4 xs', Mv (foot p mb xs) w3.drew (foot p mb xs') w4 → Lds q3 (w.heap.size + 1) ⟨room', steps', fa', fc', l', armed', dead', left'⟩ o w4) := fun w4 xs' mv => hS0.mv mv hqn hqo
  have hAn : Hid (∀ w4 xs', Mv (foot p mb xs) w3.drew (foot p mb xs') w4 → B6 w4 (w.heap.size + 2) (.int .i64 0) (.int .i64 0) (.slice none 0 0) (.bool false) (.bool false) (.int .i64 0)) := fun w4 xs' mv => (bxs3.an.kept (w' := w3.drew) (Kp.refl _ _).drew).mv mv hqa
  have hRh := hid hR
  clear hR hq3
  refine wp_region_held_drew (S := (fun w' => w'.cell? ⟨q3, 0, none⟩ = some (.int .i64 room') ∧ w'.cell? ⟨q3, 1, none⟩ = some (.int .i64 steps') ∧ w'.cell? ⟨q3, 2, none⟩ = some (.slice fa' l'.length fc') ∧ w'.cell? ⟨q3, 3, none⟩ = some (.bool armed') ∧ w'.cell? ⟨q3, 4, none⟩ = some (.bool dead') ∧ w'.cell? ⟨q3, 5, none⟩ = some (.int .i64 left') ∧ w'.cell? ⟨w.heap.size + 1, 1, none⟩ = some (.string ⟨o.name.toArray⟩) ∧ w'.cell? ⟨w.heap.size + 1, 2, none⟩ = some (.string ⟨o.to.toArray⟩) ∧ w'.cell? ⟨w.heap.size + 1, 3, none⟩ = some (.slice o.b.a o.b.bs.length o.b.c) ∧ w'.cell? ⟨w.heap.size + 1, 4, none⟩ = some (.int .i64 o.n) ∧ w'.cell? ⟨w.heap.size + 1, 5, none⟩ = some (.int .i64 o.bit))) (by kernel_rfl) ?_ (fun hHeld => ?_)
  · exact hS0
  refine wpAnyH_take (i := 0) (v := ?_) rfl (by kernel_rfl) (by kernel_rfl) (by kernel_rfl) (fun _ _ _ h => h) (Or.inl ⟨by rfl, ?_⟩) (by assumption) ?_
  rotate_left
  · intro w hSw; (try dsimp only at hSw); go_simp <;> with_reducible rfl
  try simp only [Act.put, List.getElem_toArray, List.getElem_cons_zero, List.getElem_cons_succ, List.setIfInBounds_toArray, List.set_cons_zero, List.set_cons_succ]
  refine wpAnyH_take (i := 1) (v := ?_) rfl (by kernel_rfl) (by kernel_rfl) (by kernel_rfl) (fun _ _ _ h => h) (Or.inl ⟨by rfl, ?_⟩) (by assumption) ?_
  rotate_left
  · intro w hSw; (try dsimp only at hSw); go_simp <;> with_reducible rfl
  try simp only [Act.put, List.getElem_toArray, List.getElem_cons_zero, List.getElem_cons_succ, List.setIfInBounds_toArray, List.set_cons_zero, List.set_cons_succ]
  refine wpAnyH_take (i := 2) (v := ?_) rfl (by kernel_rfl) (by kernel_rfl) (by kernel_rfl) (fun _ _ _ h => h) (Or.inl ⟨by rfl, ?_⟩) (by assumption) ?_
  rotate_left
  · intro w hSw; (try dsimp only at hSw); go_simp <;> with_reducible rfl
  try simp only [Act.put, List.getElem_toArray, List.getElem_cons_zero, List.getElem_cons_succ, List.setIfInBounds_toArray, List.set_cons_zero, List.set_cons_succ]
  refine wpAnyH_take (i := 3) (v := ?_) rfl (by kernel_rfl) (by kernel_rfl) (by kernel_rfl) (fun _ _ _ h => h) (Or.inl ⟨by rfl, ?_⟩) (by assumption) ?_
  rotate_left
  · intro w hSw; (try dsimp only at hSw); go_simp <;> with_reducible rfl
  try simp only [Act.put, List.getElem_toArray, List.getElem_cons_zero, List.getElem_cons_succ, List.setIfInBounds_toArray, List.set_cons_zero, List.set_cons_succ]
  refine wpAnyH_take (i := 4) (v := ?_) rfl (by kernel_rfl) (by kernel_rfl) (by kernel_rfl) (fun _ _ _ h => h) (Or.inl ⟨by rfl, ?_⟩) (by assumption) ?_
  rotate_left
  · intro w hSw; (try dsimp only at hSw); go_simp <;> with_reducible rfl
  try simp only [Act.put, List.getElem_toArray, List.getElem_cons_zero, List.getElem_cons_succ, List.setIfInBounds_toArray, List.set_cons_zero, List.set_cons_succ]
  refine wpAnyH_take (i := 5) (v := ?_) rfl (by kernel_rfl) (by kernel_rfl) (by kernel_rfl) (fun _ _ _ h => h) (Or.inl ⟨by rfl, ?_⟩) (by assumption) ?_
  rotate_left
  · intro w hSw; (try dsimp only at hSw); go_simp <;> with_reducible rfl
  try simp only [Act.put, List.getElem_toArray, List.getElem_cons_zero, List.getElem_cons_succ, List.setIfInBounds_toArray, List.set_cons_zero, List.set_cons_succ]
  refine wpAnyH_take (i := 7) (v := ?_) rfl (by kernel_rfl) (by kernel_rfl) (by kernel_rfl) (fun _ _ _ h => h) (Or.inl ⟨by rfl, ?_⟩) (by assumption) ?_
  rotate_left
  · intro w hSw; (try dsimp only at hSw); go_simp <;> with_reducible rfl
  try simp only [Act.put, List.getElem_toArray, List.getElem_cons_zero, List.getElem_cons_succ, List.setIfInBounds_toArray, List.set_cons_zero, List.set_cons_succ]
  refine wpAnyH_ready (rs := [6]) (by kernel_rfl) (by simp) ?_
  refine AllReadyH.cons rfl (fun K hK => ?_) AllReadyH.nil
  go_simp
  refine a1.mono ?_
  rintro e w4 ⟨rfl, xs4, hD4, mv4⟩
  have hb4 := hAn.out _ _ mv4
  have hb4' := hb4
  obtain ⟨r0, r1, r2, r3, r4, r5, rf⟩ := hb4'
  have g0 := rf 0
  have g1 := rf 1
  have g2 := rf 2
  have g3 := rf 3
  have g4 := rf 4
  have g5 := rf 5
  (try go_wp2_with fail)
  refine hK.out _ _ ?_ (fun hHeld => ?_)
  · exact hSk.out _ _ mv4
  clear hK K
  try simp only [Act.put, List.getElem_toArray, List.getElem_cons_zero, List.getElem_cons_succ, List.setIfInBounds_toArray, List.set_cons_zero, List.set_cons_succ]
  refine wpAnyH_take (i := 8) (v := ?_) rfl (by kernel_rfl) (by kernel_rfl) (by kernel_rfl) (fun _ _ _ h => h) (Or.inl ⟨by rfl, ?_⟩) (by assumption) ?_
  rotate_left
  · intro w hSw; (try dsimp only at hSw); go_simp <;> with_reducible rfl
  try simp only [Act.put, List.getElem_toArray, List.getElem_cons_zero, List.getElem_cons_succ, List.setIfInBounds_toArray, List.set_cons_zero, List.set_cons_succ]
  refine wpAnyH_ready (rs := [9]) (by kernel_rfl) (by simp) ?_
  refine AllReadyH.cons rfl (fun K hK => ?_) AllReadyH.nil
  go_simp
  (try go_wp2_with fail)
  refine hK.out _ _ ?_ (fun hHeld => ?_)
  · exact Lds.set6 (hSk.out _ _ mv4) hne1 hne2 _ _ _ _ _ _
  clear hK K
  try simp only [Act.put, List.getElem_toArray, List.getElem_cons_zero, List.getElem_cons_succ, List.setIfInBounds_toArray, List.set_cons_zero, List.set_cons_succ]
  refine wpAnyH_take (i := 10) (v := ?_) rfl (by kernel_rfl) (by kernel_rfl) (by kernel_rfl) (fun _ _ _ h => h) (Or.inl ⟨by rfl, ?_⟩) (by assumption) ?_
  rotate_left
  · intro w hSw; (try dsimp only at hSw); go_simp <;> with_reducible rfl
  try simp only [Act.put, List.getElem_toArray, List.getElem_cons_zero, List.getElem_cons_succ, List.setIfInBounds_toArray, List.set_cons_zero, List.set_cons_succ]
  refine wpAnyH_done (by kernel_rfl) ?_ _
  go_wp2_with fail
  obtain ⟨W', hW', hb6, kW'⟩ := set6_ex (show B6 w4 (w.heap.size + 1 + 1) _ _ _ _ _ _ from hb4) (.int .i64 room') (.int .i64 steps') (.slice fa' l'.length fc') (.bool armed') (.bool dead') (.int .i64 left')
  rw [hW']
  obtain ⟨z0, z1, z2, z3, z4, z5, _⟩ := hb6
  refine bodyPost_ret (v := .tuple #[.agg #[.int .i64 room', .int .i64 steps', .slice fa' l'.length fc', .bool armed', .bool dead', .int .i64 left'], .bool ((doD d 2 o.name [] o.n).2 == x.2)]) (by simp [results, Try.results20, go_sem, z0, z1, z2, z3, z4, z5]) rfl ?_
  exact chFin (r' := ⟨room', steps', fa', fc', l', armed', dead', left'⟩) hD k1 (q := w.heap.size + 1 + 1) (by omega) (by omega) hRh.out (k3.drew) hD4 mv4 kW'
set_option maxHeartbeats 8000000 in
set_option maxRecDepth 100000 in
theorem cChgRename {w : World} {p mb : Nat} {xs : List Ent} {d : Dk} (hD : Disk w p mb xs d) (hs : d.steps < 9000000000000000000) (hN : xs.length < 9000000000000000000) (r : RD) (x : Dk × Int) (o : DOp) (hk : o.kind = 3) (hname : o.name.length ≤ maxLen) (hto : o.to.length ≤ maxLen)
    (hRef : ∀ W, Kp [] w W → Calls Try.prog 32 #[r.v, .int .i64 3, .string ⟨o.name.toArray⟩, .string ⟨o.to.toArray⟩, .int .i64 0] W (RefE r.foot x W)) :
    Calls Try.prog 20 #[.pointer (some ⟨p, 0, none⟩), r.v, o.v] w (ChP p mb xs (doD d 3 o.name o.to 0).1 r.foot x.1 ((doD d 3 o.name o.to 0).2 == x.2) w) := by
  obtain ⟨w1, hw1, k1, bx, hsz⟩ := boxC r o w
  have hRef1 := hRef w1 k1
  have hlt := hD.lt
  obtain ⟨room, steps, fa, fc, l, armed, dead, left⟩ := r
  simp only [RD.v, DOp.v] at *
  have b0 := bx.rd.c0; have b1 := bx.rd.c1; have b2 := bx.rd.c2; have b3 := bx.rd.c3; have b4 := bx.rd.c4; have b5 := bx.rd.c5
  have o0 := bx.o0; have o1 := bx.o1; have o2 := bx.o2; have o3 := bx.o3; have o4 := bx.o4; have o5 := bx.o5
  rw [hk] at o0 hw1 ⊢
  clear hRef
  go_enter Try.func20, Try.ntmps20
  go_wp2_with fail
  refine hRef1.mono ?_
  rintro e w2 ⟨v, rfl, hR⟩
  have hR0 := hR
  obtain ⟨r', rfl, _, _, k2, _⟩ := hR0
  obtain ⟨w3, hw3, k3, bx3, hsz3⟩ := boxR r' w2
  have bxs3 := (bx.kept k2).kept k3
  have kd : Kp [] w w3.drew := ((k1.trans k2 (by simp)).trans k3 (by simp)).drew
  have hD3 := hD.keptNew kd
  obtain ⟨room', steps', fa', fc', l', armed', dead', left'⟩ := r'
  simp only [RD.v] at *
  have a1 := cRename hD3 hs hN o.name o.to hname hto 0
  have hw3' := hid hw3
  clear hw3 b0 b1 b2 b3 b4 b5 o0 o1 o2 o3 o4 o5 hRef1
  go_wp2_with fail
  rw [hw3'.out]
  obtain ⟨q3, hq3⟩ : ∃ q3, q3 = w2.heap.size := ⟨_, rfl⟩
  rw [← hq3] at bx3 ⊢
  have hqn : q3 ∉ foot p mb xs := fun h => by have := hlt _ h; have := k1.size; have := k2.size; omega
  have hqo : w.heap.size + 1 ∉ foot p mb xs := fun h => by have := hlt _ h; omega
  have hqa : w.heap.size + 2 ∉ foot p mb xs := fun h => by have := hlt _ h; omega
  have hne1 : q3 ≠ w.heap.size + 2 := by have := k2.size; omega
  have hne2 : w.heap.size + 1 ≠ w.heap.size + 2 := by omega
  have hS0 : Lds q3 (w.heap.size + 1) ⟨room', steps', fa', fc', l', armed', dead', left'⟩ o w3.drew := ⟨bx3.c0, bx3.c1, bx3.c2, bx3.c3, bx3.c4, bx3.c5, bxs3.o1, bxs3.o2, bxs3.o3, bxs3.o4, bxs3.o5⟩
  have hSk : Hid (∀ w4 xs', Mv (foot p mb xs) w3.drew (foot p mb xs') w4 → Lds q3 (w.heap.size + 1) ⟨room', steps', fa', fc', l', armed', dead', left'⟩ o w4) := fun w4 xs' mv => hS0.mv mv hqn hqo
  have hAn : Hid (∀ w4 xs', Mv (foot p mb xs) w3.drew (foot p mb xs') w4 → B6 w4 (w.heap.size + 2) (.int .i64 0) (.int .i64 0) (.slice none 0 0) (.bool false) (.bool false) (.int .i64 0)) := fun w4 xs' mv => (bxs3.an.kept (w' := w3.drew) (Kp.refl _ _).drew).mv mv hqa
  have hRh := hid hR
  clear hR hq3
  refine wp_region_held_drew (S := (fun w' => w'.cell? ⟨q3, 0, none⟩ = some (.int .i64 room') ∧ w'.cell? ⟨q3, 1, none⟩ = some (.int .i64 steps') ∧ w'.cell? ⟨q3, 2, none⟩ = some (.slice fa' l'.length fc') ∧ w'.cell? ⟨q3, 3, none⟩ = some (.bool armed') ∧ w'.cell? ⟨q3, 4, none⟩ = some (.bool dead') ∧ w'.cell? ⟨q3, 5, none⟩ = some (.int .i64 left') ∧ w'.cell? ⟨w.heap.size + 1, 1, none⟩ = some (.string ⟨o.name.toArray⟩) ∧ w'.cell? ⟨w.heap.size + 1, 2, none⟩ = some (.string ⟨o.to.toArray⟩) ∧ w'.cell? ⟨w.heap.size + 1, 3, none⟩ = some (.slice o.b.a o.b.bs.length o.b.c) ∧ w'.cell? ⟨w.heap.size + 1, 4, none⟩ = some (.int .i64 o.n) ∧ w'.cell? ⟨w.heap.size + 1, 5, none⟩ = some (.int .i64 o.bit))) (by kernel_rfl) ?_ (fun hHeld => ?_)
  · exact hS0
  refine wpAnyH_take (i := 0) (v := ?_) rfl (by kernel_rfl) (by kernel_rfl) (by kernel_rfl) (fun _ _ _ h => h) (Or.inl ⟨by rfl, ?_⟩) (by assumption) ?_
  rotate_left
  · intro w hSw; (try dsimp only at hSw); go_simp <;> with_reducible rfl
  try simp only [Act.put, List.getElem_toArray, List.getElem_cons_zero, List.getElem_cons_succ, List.setIfInBounds_toArray, List.set_cons_zero, List.set_cons_succ]
  refine wpAnyH_take (i := 1) (v := ?_) rfl (by kernel_rfl) (by kernel_rfl) (by kernel_rfl) (fun _ _ _ h => h) (Or.inl ⟨by rfl, ?_⟩) (by assumption) ?_
  rotate_left
  · intro w hSw; (try dsimp only at hSw); go_simp <;> with_reducible rfl
  try simp only [Act.put, List.getElem_toArray, List.getElem_cons_zero, List.getElem_cons_succ, List.setIfInBounds_toArray, List.set_cons_zero, List.set_cons_succ]
  refine wpAnyH_take (i := 2) (v := ?_) rfl (by kernel_rfl) (by kernel_rfl) (by kernel_rfl) (fun _ _ _ h => h) (Or.inl ⟨by rfl, ?_⟩) (by assumption) ?_
  rotate_left
  · intro w hSw; (try dsimp only at hSw); go_simp <;> with_reducible rfl
  try simp only [Act.put, List.getElem_toArray, List.getElem_cons_zero, List.getElem_cons_succ, List.setIfInBounds_toArray, List.set_cons_zero, List.set_cons_succ]
  refine wpAnyH_take (i := 3) (v := ?_) rfl (by kernel_rfl) (by kernel_rfl) (by kernel_rfl) (fun _ _ _ h => h) (Or.inl ⟨by rfl, ?_⟩) (by assumption) ?_
  rotate_left
  · intro w hSw; (try dsimp only at hSw); go_simp <;> with_reducible rfl
  try simp only [Act.put, List.getElem_toArray, List.getElem_cons_zero, List.getElem_cons_succ, List.setIfInBounds_toArray, List.set_cons_zero, List.set_cons_succ]
  refine wpAnyH_take (i := 4) (v := ?_) rfl (by kernel_rfl) (by kernel_rfl) (by kernel_rfl) (fun _ _ _ h => h) (Or.inl ⟨by rfl, ?_⟩) (by assumption) ?_
  rotate_left
  · intro w hSw; (try dsimp only at hSw); go_simp <;> with_reducible rfl
  try simp only [Act.put, List.getElem_toArray, List.getElem_cons_zero, List.getElem_cons_succ, List.setIfInBounds_toArray, List.set_cons_zero, List.set_cons_succ]
  refine wpAnyH_take (i := 5) (v := ?_) rfl (by kernel_rfl) (by kernel_rfl) (by kernel_rfl) (fun _ _ _ h => h) (Or.inl ⟨by rfl, ?_⟩) (by assumption) ?_
  rotate_left
  · intro w hSw; (try dsimp only at hSw); go_simp <;> with_reducible rfl
  try simp only [Act.put, List.getElem_toArray, List.getElem_cons_zero, List.getElem_cons_succ, List.setIfInBounds_toArray, List.set_cons_zero, List.set_cons_succ]
  refine wpAnyH_take (i := 7) (v := ?_) rfl (by kernel_rfl) (by kernel_rfl) (by kernel_rfl) (fun _ _ _ h => h) (Or.inl ⟨by rfl, ?_⟩) (by assumption) ?_
  rotate_left
  · intro w hSw; (try dsimp only at hSw); go_simp <;> with_reducible rfl
  try simp only [Act.put, List.getElem_toArray, List.getElem_cons_zero, List.getElem_cons_succ, List.setIfInBounds_toArray, List.set_cons_zero, List.set_cons_succ]
  refine wpAnyH_ready (rs := [6]) (by kernel_rfl) (by simp) ?_
  refine AllReadyH.cons rfl (fun K hK => ?_) AllReadyH.nil
  go_simp
  refine a1.mono ?_
  rintro e w4 ⟨rfl, xs4, hD4, mv4⟩
  have hb4 := hAn.out _ _ mv4
  have hb4' := hb4
  obtain ⟨r0, r1, r2, r3, r4, r5, rf⟩ := hb4'
  have g0 := rf 0
  have g1 := rf 1
  have g2 := rf 2
  have g3 := rf 3
  have g4 := rf 4
  have g5 := rf 5
  (try go_wp2_with fail)
  refine hK.out _ _ ?_ (fun hHeld => ?_)
  · exact hSk.out _ _ mv4
  clear hK K
  try simp only [Act.put, List.getElem_toArray, List.getElem_cons_zero, List.getElem_cons_succ, List.setIfInBounds_toArray, List.set_cons_zero, List.set_cons_succ]
  refine wpAnyH_take (i := 8) (v := ?_) rfl (by kernel_rfl) (by kernel_rfl) (by kernel_rfl) (fun _ _ _ h => h) (Or.inl ⟨by rfl, ?_⟩) (by assumption) ?_
  rotate_left
  · intro w hSw; (try dsimp only at hSw); go_simp <;> with_reducible rfl
  try simp only [Act.put, List.getElem_toArray, List.getElem_cons_zero, List.getElem_cons_succ, List.setIfInBounds_toArray, List.set_cons_zero, List.set_cons_succ]
  refine wpAnyH_ready (rs := [9]) (by kernel_rfl) (by simp) ?_
  refine AllReadyH.cons rfl (fun K hK => ?_) AllReadyH.nil
  go_simp
  (try go_wp2_with fail)
  refine hK.out _ _ ?_ (fun hHeld => ?_)
  · exact Lds.set6 (hSk.out _ _ mv4) hne1 hne2 _ _ _ _ _ _
  clear hK K
  try simp only [Act.put, List.getElem_toArray, List.getElem_cons_zero, List.getElem_cons_succ, List.setIfInBounds_toArray, List.set_cons_zero, List.set_cons_succ]
  refine wpAnyH_take (i := 10) (v := ?_) rfl (by kernel_rfl) (by kernel_rfl) (by kernel_rfl) (fun _ _ _ h => h) (Or.inl ⟨by rfl, ?_⟩) (by assumption) ?_
  rotate_left
  · intro w hSw; (try dsimp only at hSw); go_simp <;> with_reducible rfl
  try simp only [Act.put, List.getElem_toArray, List.getElem_cons_zero, List.getElem_cons_succ, List.setIfInBounds_toArray, List.set_cons_zero, List.set_cons_succ]
  refine wpAnyH_done (by kernel_rfl) ?_ _
  go_wp2_with fail
  obtain ⟨W', hW', hb6, kW'⟩ := set6_ex (show B6 w4 (w.heap.size + 1 + 1) _ _ _ _ _ _ from hb4) (.int .i64 room') (.int .i64 steps') (.slice fa' l'.length fc') (.bool armed') (.bool dead') (.int .i64 left')
  rw [hW']
  obtain ⟨z0, z1, z2, z3, z4, z5, _⟩ := hb6
  refine bodyPost_ret (v := .tuple #[.agg #[.int .i64 room', .int .i64 steps', .slice fa' l'.length fc', .bool armed', .bool dead', .int .i64 left'], .bool ((doD d 3 o.name o.to 0).2 == x.2)]) (by simp [results, Try.results20, go_sem, z0, z1, z2, z3, z4, z5]) rfl ?_
  exact chFin (r' := ⟨room', steps', fa', fc', l', armed', dead', left'⟩) hD k1 (q := w.heap.size + 1 + 1) (by omega) (by omega) hRh.out (k3.drew) hD4 mv4 kW'
set_option maxHeartbeats 8000000 in
set_option maxRecDepth 100000 in
theorem cChgRemove {w : World} {p mb : Nat} {xs : List Ent} {d : Dk} (hD : Disk w p mb xs d) (hs : d.steps < 9000000000000000000) (r : RD) (x : Dk × Int) (o : DOp) (hk : o.kind = 4) (hname : o.name.length ≤ maxLen) 
    (hRef : ∀ W, Kp [] w W → Calls Try.prog 32 #[r.v, .int .i64 4, .string ⟨o.name.toArray⟩, .string ⟨#[]⟩, .int .i64 0] W (RefE r.foot x W)) :
    Calls Try.prog 20 #[.pointer (some ⟨p, 0, none⟩), r.v, o.v] w (ChP p mb xs (doD d 4 o.name [] 0).1 r.foot x.1 ((doD d 4 o.name [] 0).2 == x.2) w) := by
  obtain ⟨w1, hw1, k1, bx, hsz⟩ := boxC r o w
  have hRef1 := hRef w1 k1
  have hlt := hD.lt
  obtain ⟨room, steps, fa, fc, l, armed, dead, left⟩ := r
  simp only [RD.v, DOp.v] at *
  have b0 := bx.rd.c0; have b1 := bx.rd.c1; have b2 := bx.rd.c2; have b3 := bx.rd.c3; have b4 := bx.rd.c4; have b5 := bx.rd.c5
  have o0 := bx.o0; have o1 := bx.o1; have o2 := bx.o2; have o3 := bx.o3; have o4 := bx.o4; have o5 := bx.o5
  rw [hk] at o0 hw1 ⊢
  clear hRef
  go_enter Try.func20, Try.ntmps20
  go_wp2_with fail
  refine hRef1.mono ?_
  rintro e w2 ⟨v, rfl, hR⟩
  have hR0 := hR
  obtain ⟨r', rfl, _, _, k2, _⟩ := hR0
  obtain ⟨w3, hw3, k3, bx3, hsz3⟩ := boxR r' w2
  have bxs3 := (bx.kept k2).kept k3
  have kd : Kp [] w w3.drew := ((k1.trans k2 (by simp)).trans k3 (by simp)).drew
  have hD3 := hD.keptNew kd
  obtain ⟨room', steps', fa', fc', l', armed', dead', left'⟩ := r'
  simp only [RD.v] at *
  have a1 := cRemove hD3 hs o.name hname [] 0
  have hw3' := hid hw3
  clear hw3 b0 b1 b2 b3 b4 b5 o0 o1 o2 o3 o4 o5 hRef1
  go_wp2_with fail
  rw [hw3'.out]
  obtain ⟨q3, hq3⟩ : ∃ q3, q3 = w2.heap.size := ⟨_, rfl⟩
  rw [← hq3] at bx3 ⊢
  have hqn : q3 ∉ foot p mb xs := fun h => by have := hlt _ h; have := k1.size; have := k2.size; omega
  have hqo : w.heap.size + 1 ∉ foot p mb xs := fun h => by have := hlt _ h; omega
  have hqa : w.heap.size + 2 ∉ foot p mb xs := fun h => by have := hlt _ h; omega
  have hne1 : q3 ≠ w.heap.size + 2 := by have := k2.size; omega
  have hne2 : w.heap.size + 1 ≠ w.heap.size + 2 := by omega
  have hS0 : Lds q3 (w.heap.size + 1) ⟨room', steps', fa', fc', l', armed', dead', left'⟩ o w3.drew := ⟨bx3.c0, bx3.c1, bx3.c2, bx3.c3, bx3.c4, bx3.c5, bxs3.o1, bxs3.o2, bxs3.o3, bxs3.o4, bxs3.o5⟩
  have hSk : Hid (∀ w4 xs', Mv (foot p mb xs) w3.drew (foot p mb xs') w4 → Lds q3 (w.heap.size + 1) ⟨room', steps', fa', fc', l', armed', dead', left'⟩ o w4) := fun w4 xs' mv => hS0.mv mv hqn hqo
  have hAn : Hid (∀ w4 xs', Mv (foot p mb xs) w3.drew (foot p mb xs') w4 → B6 w4 (w.heap.size + 2) (.int .i64 0) (.int .i64 0) (.slice none 0 0) (.bool false) (.bool false) (.int .i64 0)) := fun w4 xs' mv => (bxs3.an.kept (w' := w3.drew) (Kp.refl _ _).drew).mv mv hqa
  have hRh := hid hR
  clear hR hq3
  refine wp_region_held_drew (S := (fun w' => w'.cell? ⟨q3, 0, none⟩ = some (.int .i64 room') ∧ w'.cell? ⟨q3, 1, none⟩ = some (.int .i64 steps') ∧ w'.cell? ⟨q3, 2, none⟩ = some (.slice fa' l'.length fc') ∧ w'.cell? ⟨q3, 3, none⟩ = some (.bool armed') ∧ w'.cell? ⟨q3, 4, none⟩ = some (.bool dead') ∧ w'.cell? ⟨q3, 5, none⟩ = some (.int .i64 left') ∧ w'.cell? ⟨w.heap.size + 1, 1, none⟩ = some (.string ⟨o.name.toArray⟩) ∧ w'.cell? ⟨w.heap.size + 1, 2, none⟩ = some (.string ⟨o.to.toArray⟩) ∧ w'.cell? ⟨w.heap.size + 1, 3, none⟩ = some (.slice o.b.a o.b.bs.length o.b.c) ∧ w'.cell? ⟨w.heap.size + 1, 4, none⟩ = some (.int .i64 o.n) ∧ w'.cell? ⟨w.heap.size + 1, 5, none⟩ = some (.int .i64 o.bit))) (by kernel_rfl) ?_ (fun hHeld => ?_)
  · exact hS0
  refine wpAnyH_take (i := 0) (v := ?_) rfl (by kernel_rfl) (by kernel_rfl) (by kernel_rfl) (fun _ _ _ h => h) (Or.inl ⟨by rfl, ?_⟩) (by assumption) ?_
  rotate_left
  · intro w hSw; (try dsimp only at hSw); go_simp <;> with_reducible rfl
  try simp only [Act.put, List.getElem_toArray, List.getElem_cons_zero, List.getElem_cons_succ, List.setIfInBounds_toArray, List.set_cons_zero, List.set_cons_succ]
  refine wpAnyH_take (i := 1) (v := ?_) rfl (by kernel_rfl) (by kernel_rfl) (by kernel_rfl) (fun _ _ _ h => h) (Or.inl ⟨by rfl, ?_⟩) (by assumption) ?_
  rotate_left
  · intro w hSw; (try dsimp only at hSw); go_simp <;> with_reducible rfl
  try simp only [Act.put, List.getElem_toArray, List.getElem_cons_zero, List.getElem_cons_succ, List.setIfInBounds_toArray, List.set_cons_zero, List.set_cons_succ]
  refine wpAnyH_take (i := 2) (v := ?_) rfl (by kernel_rfl) (by kernel_rfl) (by kernel_rfl) (fun _ _ _ h => h) (Or.inl ⟨by rfl, ?_⟩) (by assumption) ?_
  rotate_left
  · intro w hSw; (try dsimp only at hSw); go_simp <;> with_reducible rfl
  try simp only [Act.put, List.getElem_toArray, List.getElem_cons_zero, List.getElem_cons_succ, List.setIfInBounds_toArray, List.set_cons_zero, List.set_cons_succ]
  refine wpAnyH_take (i := 3) (v := ?_) rfl (by kernel_rfl) (by kernel_rfl) (by kernel_rfl) (fun _ _ _ h => h) (Or.inl ⟨by rfl, ?_⟩) (by assumption) ?_
  rotate_left
  · intro w hSw; (try dsimp only at hSw); go_simp <;> with_reducible rfl
  try simp only [Act.put, List.getElem_toArray, List.getElem_cons_zero, List.getElem_cons_succ, List.setIfInBounds_toArray, List.set_cons_zero, List.set_cons_succ]
  refine wpAnyH_take (i := 5) (v := ?_) rfl (by kernel_rfl) (by kernel_rfl) (by kernel_rfl) (fun _ _ _ h => h) (Or.inl ⟨by rfl, ?_⟩) (by assumption) ?_
  rotate_left
  · intro w hSw; (try dsimp only at hSw); go_simp <;> with_reducible rfl
  try simp only [Act.put, List.getElem_toArray, List.getElem_cons_zero, List.getElem_cons_succ, List.setIfInBounds_toArray, List.set_cons_zero, List.set_cons_succ]
  refine wpAnyH_ready (rs := [4]) (by kernel_rfl) (by simp) ?_
  refine AllReadyH.cons rfl (fun K hK => ?_) AllReadyH.nil
  go_simp
  refine a1.mono ?_
  rintro e w4 ⟨rfl, xs4, hD4, mv4⟩
  have hb4 := hAn.out _ _ mv4
  have hb4' := hb4
  obtain ⟨r0, r1, r2, r3, r4, r5, rf⟩ := hb4'
  have g0 := rf 0
  have g1 := rf 1
  have g2 := rf 2
  have g3 := rf 3
  have g4 := rf 4
  have g5 := rf 5
  (try go_wp2_with fail)
  refine hK.out _ _ ?_ (fun hHeld => ?_)
  · exact hSk.out _ _ mv4
  clear hK K
  try simp only [Act.put, List.getElem_toArray, List.getElem_cons_zero, List.getElem_cons_succ, List.setIfInBounds_toArray, List.set_cons_zero, List.set_cons_succ]
  refine wpAnyH_take (i := 6) (v := ?_) rfl (by kernel_rfl) (by kernel_rfl) (by kernel_rfl) (fun _ _ _ h => h) (Or.inl ⟨by rfl, ?_⟩) (by assumption) ?_
  rotate_left
  · intro w hSw; (try dsimp only at hSw); go_simp <;> with_reducible rfl
  try simp only [Act.put, List.getElem_toArray, List.getElem_cons_zero, List.getElem_cons_succ, List.setIfInBounds_toArray, List.set_cons_zero, List.set_cons_succ]
  refine wpAnyH_ready (rs := [7]) (by kernel_rfl) (by simp) ?_
  refine AllReadyH.cons rfl (fun K hK => ?_) AllReadyH.nil
  go_simp
  (try go_wp2_with fail)
  refine hK.out _ _ ?_ (fun hHeld => ?_)
  · exact Lds.set6 (hSk.out _ _ mv4) hne1 hne2 _ _ _ _ _ _
  clear hK K
  try simp only [Act.put, List.getElem_toArray, List.getElem_cons_zero, List.getElem_cons_succ, List.setIfInBounds_toArray, List.set_cons_zero, List.set_cons_succ]
  refine wpAnyH_take (i := 8) (v := ?_) rfl (by kernel_rfl) (by kernel_rfl) (by kernel_rfl) (fun _ _ _ h => h) (Or.inl ⟨by rfl, ?_⟩) (by assumption) ?_
  rotate_left
  · intro w hSw; (try dsimp only at hSw); go_simp <;> with_reducible rfl
  try simp only [Act.put, List.getElem_toArray, List.getElem_cons_zero, List.getElem_cons_succ, List.setIfInBounds_toArray, List.set_cons_zero, List.set_cons_succ]
  refine wpAnyH_done (by kernel_rfl) ?_ _
  go_wp2_with fail
  obtain ⟨W', hW', hb6, kW'⟩ := set6_ex (show B6 w4 (w.heap.size + 1 + 1) _ _ _ _ _ _ from hb4) (.int .i64 room') (.int .i64 steps') (.slice fa' l'.length fc') (.bool armed') (.bool dead') (.int .i64 left')
  rw [hW']
  obtain ⟨z0, z1, z2, z3, z4, z5, _⟩ := hb6
  refine bodyPost_ret (v := .tuple #[.agg #[.int .i64 room', .int .i64 steps', .slice fa' l'.length fc', .bool armed', .bool dead', .int .i64 left'], .bool ((doD d 4 o.name [] 0).2 == x.2)]) (by simp [results, Try.results20, go_sem, z0, z1, z2, z3, z4, z5]) rfl ?_
  exact chFin (r' := ⟨room', steps', fa', fc', l', armed', dead', left'⟩) hD k1 (q := w.heap.size + 1 + 1) (by omega) (by omega) hRh.out (k3.drew) hD4 mv4 kW'
set_option maxHeartbeats 8000000 in
set_option maxRecDepth 100000 in
theorem cChgAppend {w : World} {p mb : Nat} {xs : List Ent} {d : Dk} (hD : Disk w p mb xs d) (hs : d.steps < 9000000000000000000) (hN : xs.length < 9000000000000000000) (hB : Small d) (r : RD) (x : Dk × Int) (o : DOp) (hk : o.kind = 0) (hname : o.name.length ≤ maxLen) (hsee : Sees w o.b.a o.b.bs) (hoff : o.b.bs ≠ [] → ∀ k ∈ blk o.b.a, k ∉ foot p mb xs) (hlen : (fileOf d.files o.name).bytes.length + o.b.bs.length ≤ 140737488355328)
    (hRef : ∀ W, Kp [] w W → Calls Try.prog 31 #[r.v, .string ⟨o.name.toArray⟩, .slice o.b.a o.b.bs.length o.b.c] W (RefE r.foot x W)) :
    Calls Try.prog 20 #[.pointer (some ⟨p, 0, none⟩), r.v, o.v] w (ChP p mb xs (appendD d o.name o.b.bs).1 r.foot x.1 ((appendD d o.name o.b.bs).2 == x.2) w) := by
  obtain ⟨w1, hw1, k1, bx, hsz⟩ := boxC r o w
  have hRef1 := hRef w1 k1
  have hlt := hD.lt
  obtain ⟨room, steps, fa, fc, l, armed, dead, left⟩ := r
  simp only [RD.v, DOp.v] at *
  have b0 := bx.rd.c0; have b1 := bx.rd.c1; have b2 := bx.rd.c2; have b3 := bx.rd.c3; have b4 := bx.rd.c4; have b5 := bx.rd.c5
  have o0 := bx.o0; have o1 := bx.o1; have o2 := bx.o2; have o3 := bx.o3; have o4 := bx.o4; have o5 := bx.o5
  rw [hk] at o0 hw1 ⊢
  clear hRef
  go_enter Try.func20, Try.ntmps20
  go_wp2_with fail
  refine hRef1.mono ?_
  rintro e w2 ⟨v, rfl, hR⟩
  have hR0 := hR
  obtain ⟨r', rfl, _, _, k2, _⟩ := hR0
  obtain ⟨w3, hw3, k3, bx3, hsz3⟩ := boxR r' w2
  have bxs3 := (bx.kept k2).kept k3
  have kd : Kp [] w w3.drew := ((k1.trans k2 (by simp)).trans k3 (by simp)).drew
  have hD3 := hD.keptNew kd
  obtain ⟨room', steps', fa', fc', l', armed', dead', left'⟩ := r'
  simp only [RD.v] at *
  have a1 := cAppend hD3 hs hN hB o.name hname o.b.a o.b.c o.b.bs (hsee.kept kd (by simp)) hoff hlen
  have hw3' := hid hw3
  clear hw3 b0 b1 b2 b3 b4 b5 o0 o1 o2 o3 o4 o5 hRef1
  go_wp2_with fail
  rw [hw3'.out]
  obtain ⟨q3, hq3⟩ : ∃ q3, q3 = w2.heap.size := ⟨_, rfl⟩
  rw [← hq3] at bx3 ⊢
  have hqn : q3 ∉ foot p mb xs := fun h => by have := hlt _ h; have := k1.size; have := k2.size; omega
  have hqo : w.heap.size + 1 ∉ foot p mb xs := fun h => by have := hlt _ h; omega
  have hqa : w.heap.size + 2 ∉ foot p mb xs := fun h => by have := hlt _ h; omega
  have hne1 : q3 ≠ w.heap.size + 2 := by have := k2.size; omega
  have hne2 : w.heap.size + 1 ≠ w.heap.size + 2 := by omega
  have hS0 : Lds q3 (w.heap.size + 1) ⟨room', steps', fa', fc', l', armed', dead', left'⟩ o w3.drew := ⟨bx3.c0, bx3.c1, bx3.c2, bx3.c3, bx3.c4, bx3.c5, bxs3.o1, bxs3.o2, bxs3.o3, bxs3.o4, bxs3.o5⟩
  have hSk : Hid (∀ w4 xs', Mv (foot p mb xs) w3.drew (foot p mb xs') w4 → Lds q3 (w.heap.size + 1) ⟨room', steps', fa', fc', l', armed', dead', left'⟩ o w4) := fun w4 xs' mv => hS0.mv mv hqn hqo
  have hAn : Hid (∀ w4 xs', Mv (foot p mb xs) w3.drew (foot p mb xs') w4 → B6 w4 (w.heap.size + 2) (.int .i64 0) (.int .i64 0) (.slice none 0 0) (.bool false) (.bool false) (.int .i64 0)) := fun w4 xs' mv => (bxs3.an.kept (w' := w3.drew) (Kp.refl _ _).drew).mv mv hqa
  have hRh := hid hR
  clear hR hq3
  refine wp_region_held_drew (S := (fun w' => w'.cell? ⟨q3, 0, none⟩ = some (.int .i64 room') ∧ w'.cell? ⟨q3, 1, none⟩ = some (.int .i64 steps') ∧ w'.cell? ⟨q3, 2, none⟩ = some (.slice fa' l'.length fc') ∧ w'.cell? ⟨q3, 3, none⟩ = some (.bool armed') ∧ w'.cell? ⟨q3, 4, none⟩ = some (.bool dead') ∧ w'.cell? ⟨q3, 5, none⟩ = some (.int .i64 left') ∧ w'.cell? ⟨w.heap.size + 1, 1, none⟩ = some (.string ⟨o.name.toArray⟩) ∧ w'.cell? ⟨w.heap.size + 1, 2, none⟩ = some (.string ⟨o.to.toArray⟩) ∧ w'.cell? ⟨w.heap.size + 1, 3, none⟩ = some (.slice o.b.a o.b.bs.length o.b.c) ∧ w'.cell? ⟨w.heap.size + 1, 4, none⟩ = some (.int .i64 o.n) ∧ w'.cell? ⟨w.heap.size + 1, 5, none⟩ = some (.int .i64 o.bit))) (by kernel_rfl) ?_ (fun hHeld => ?_)
  · exact hS0
  refine wpAnyH_take (i := 0) (v := ?_) rfl (by kernel_rfl) (by kernel_rfl) (by kernel_rfl) (fun _ _ _ h => h) (Or.inl ⟨by rfl, ?_⟩) (by assumption) ?_
  rotate_left
  · intro w hSw; (try dsimp only at hSw); go_simp <;> with_reducible rfl
  try simp only [Act.put, List.getElem_toArray, List.getElem_cons_zero, List.getElem_cons_succ, List.setIfInBounds_toArray, List.set_cons_zero, List.set_cons_succ]
  refine wpAnyH_take (i := 1) (v := ?_) rfl (by kernel_rfl) (by kernel_rfl) (by kernel_rfl) (fun _ _ _ h => h) (Or.inl ⟨by rfl, ?_⟩) (by assumption) ?_
  rotate_left
  · intro w hSw; (try dsimp only at hSw); go_simp <;> with_reducible rfl
  try simp only [Act.put, List.getElem_toArray, List.getElem_cons_zero, List.getElem_cons_succ, List.setIfInBounds_toArray, List.set_cons_zero, List.set_cons_succ]
  refine wpAnyH_take (i := 2) (v := ?_) rfl (by kernel_rfl) (by kernel_rfl) (by kernel_rfl) (fun _ _ _ h => h) (Or.inl ⟨by rfl, ?_⟩) (by assumption) ?_
  rotate_left
  · intro w hSw; (try dsimp only at hSw); go_simp <;> with_reducible rfl
  try simp only [Act.put, List.getElem_toArray, List.getElem_cons_zero, List.getElem_cons_succ, List.setIfInBounds_toArray, List.set_cons_zero, List.set_cons_succ]
  refine wpAnyH_take (i := 3) (v := ?_) rfl (by kernel_rfl) (by kernel_rfl) (by kernel_rfl) (fun _ _ _ h => h) (Or.inl ⟨by rfl, ?_⟩) (by assumption) ?_
  rotate_left
  · intro w hSw; (try dsimp only at hSw); go_simp <;> with_reducible rfl
  try simp only [Act.put, List.getElem_toArray, List.getElem_cons_zero, List.getElem_cons_succ, List.setIfInBounds_toArray, List.set_cons_zero, List.set_cons_succ]
  refine wpAnyH_take (i := 4) (v := ?_) rfl (by kernel_rfl) (by kernel_rfl) (by kernel_rfl) (fun _ _ _ h => h) (Or.inl ⟨by rfl, ?_⟩) (by assumption) ?_
  rotate_left
  · intro w hSw; (try dsimp only at hSw); go_simp <;> with_reducible rfl
  try simp only [Act.put, List.getElem_toArray, List.getElem_cons_zero, List.getElem_cons_succ, List.setIfInBounds_toArray, List.set_cons_zero, List.set_cons_succ]
  refine wpAnyH_take (i := 5) (v := ?_) rfl (by kernel_rfl) (by kernel_rfl) (by kernel_rfl) (fun _ _ _ h => h) (Or.inl ⟨by rfl, ?_⟩) (by assumption) ?_
  rotate_left
  · intro w hSw; (try dsimp only at hSw); go_simp <;> with_reducible rfl
  try simp only [Act.put, List.getElem_toArray, List.getElem_cons_zero, List.getElem_cons_succ, List.setIfInBounds_toArray, List.set_cons_zero, List.set_cons_succ]
  refine wpAnyH_take (i := 7) (v := ?_) rfl (by kernel_rfl) (by kernel_rfl) (by kernel_rfl) (fun _ _ _ h => h) (Or.inl ⟨by rfl, ?_⟩) (by assumption) ?_
  rotate_left
  · intro w hSw; (try dsimp only at hSw); go_simp <;> with_reducible rfl
  try simp only [Act.put, List.getElem_toArray, List.getElem_cons_zero, List.getElem_cons_succ, List.setIfInBounds_toArray, List.set_cons_zero, List.set_cons_succ]
  refine wpAnyH_ready (rs := [6]) (by kernel_rfl) (by simp) ?_
  refine AllReadyH.cons rfl (fun K hK => ?_) AllReadyH.nil
  go_simp
  refine a1.mono ?_
  rintro e w4 ⟨rfl, xs4, hD4, mv4⟩
  have hb4 := hAn.out _ _ mv4
  have hb4' := hb4
  obtain ⟨r0, r1, r2, r3, r4, r5, rf⟩ := hb4'
  have g0 := rf 0
  have g1 := rf 1
  have g2 := rf 2
  have g3 := rf 3
  have g4 := rf 4
  have g5 := rf 5
  (try go_wp2_with fail)
  refine hK.out _ _ ?_ (fun hHeld => ?_)
  · exact hSk.out _ _ mv4
  clear hK K
  try simp only [Act.put, List.getElem_toArray, List.getElem_cons_zero, List.getElem_cons_succ, List.setIfInBounds_toArray, List.set_cons_zero, List.set_cons_succ]
  refine wpAnyH_take (i := 8) (v := ?_) rfl (by kernel_rfl) (by kernel_rfl) (by kernel_rfl) (fun _ _ _ h => h) (Or.inl ⟨by rfl, ?_⟩) (by assumption) ?_
  rotate_left
  · intro w hSw; (try dsimp only at hSw); go_simp <;> with_reducible rfl
  try simp only [Act.put, List.getElem_toArray, List.getElem_cons_zero, List.getElem_cons_succ, List.setIfInBounds_toArray, List.set_cons_zero, List.set_cons_succ]
  refine wpAnyH_ready (rs := [9]) (by kernel_rfl) (by simp) ?_
  refine AllReadyH.cons rfl (fun K hK => ?_) AllReadyH.nil
  go_simp
  (try go_wp2_with fail)
  refine hK.out _ _ ?_ (fun hHeld => ?_)
  · exact Lds.set6 (hSk.out _ _ mv4) hne1 hne2 _ _ _ _ _ _
  clear hK K
  try simp only [Act.put, List.getElem_toArray, List.getElem_cons_zero, List.getElem_cons_succ, List.setIfInBounds_toArray, List.set_cons_zero, List.set_cons_succ]
  refine wpAnyH_take (i := 10) (v := ?_) rfl (by kernel_rfl) (by kernel_rfl) (by kernel_rfl) (fun _ _ _ h => h) (Or.inl ⟨by rfl, ?_⟩) (by assumption) ?_
  rotate_left
  · intro w hSw; (try dsimp only at hSw); go_simp <;> with_reducible rfl
  try simp only [Act.put, List.getElem_toArray, List.getElem_cons_zero, List.getElem_cons_succ, List.setIfInBounds_toArray, List.set_cons_zero, List.set_cons_succ]
  refine wpAnyH_done (by kernel_rfl) ?_ _
  go_wp2_with fail
  obtain ⟨W', hW', hb6, kW'⟩ := set6_ex (show B6 w4 (w.heap.size + 1 + 1) _ _ _ _ _ _ from hb4) (.int .i64 room') (.int .i64 steps') (.slice fa' l'.length fc') (.bool armed') (.bool dead') (.int .i64 left')
  rw [hW']
  obtain ⟨z0, z1, z2, z3, z4, z5, _⟩ := hb6
  refine bodyPost_ret (v := .tuple #[.agg #[.int .i64 room', .int .i64 steps', .slice fa' l'.length fc', .bool armed', .bool dead', .int .i64 left'], .bool ((appendD d o.name o.b.bs).2 == x.2)]) (by simp [results, Try.results20, go_sem, z0, z1, z2, z3, z4, z5]) rfl ?_
  exact chFin (r' := ⟨room', steps', fa', fc', l', armed', dead', left'⟩) hD k1 (q := w.heap.size + 1 + 1) (by omega) (by omega) hRh.out (k3.drew) hD4 mv4 kW'
set_option maxHeartbeats 8000000 in
set_option maxRecDepth 100000 in
theorem cChgFlip {w : World} {p mb : Nat} {xs : List Ent} {d : Dk} (hD : Disk w p mb xs d) (hB : Small d) (r : RD) (x : Dk × Bool) (o : DOp) (hk0 : o.kind ≠ 0) (hk1 : o.kind ≠ 1) (hk2 : o.kind ≠ 2) (hk3 : o.kind ≠ 3) (hk4 : o.kind ≠ 4) (hk7 : o.kind ≠ 7) (hk11 : o.kind ≠ 11) (hname : o.name.length ≤ maxLen) (hn0 : -9223372036854775808 ≤ o.n) (hn1 : o.n < 9223372036854775808) (hb0 : -9223372036854775808 ≤ o.bit) (hb1 : o.bit < 9223372036854775808)
    (hRef : ∀ W, Kp [] w W → Calls Try.prog 39 #[r.v, .string ⟨o.name.toArray⟩, .int .i64 o.n, .int .i64 o.bit] W (RefB r.foot x.1 x.2 W)) :
    Calls Try.prog 20 #[.pointer (some ⟨p, 0, none⟩), r.v, o.v] w (ChP p mb xs (flipD d o.name o.n o.bit) r.foot x.1 (flipOk d o.name o.n o.bit == x.2) w) := by
  obtain ⟨w1, hw1, k1, bx, hsz⟩ := boxC r o w
  have hRef1 := hRef w1 k1
  have hlt := hD.lt
  obtain ⟨room, steps, fa, fc, l, armed, dead, left⟩ := r
  simp only [RD.v, DOp.v] at *
  have b0 := bx.rd.c0; have b1 := bx.rd.c1; have b2 := bx.rd.c2; have b3 := bx.rd.c3; have b4 := bx.rd.c4; have b5 := bx.rd.c5
  have o0 := bx.o0; have o1 := bx.o1; have o2 := bx.o2; have o3 := bx.o3; have o4 := bx.o4; have o5 := bx.o5
  clear hRef
  go_enter Try.func20, Try.ntmps20
  go_wp2_with fail
  refine hRef1.mono ?_
  rintro e w2 ⟨v, rfl, hR⟩
  have hR0 := hR
  obtain ⟨r', rfl, _, _, k2, _⟩ := hR0
  obtain ⟨w3, hw3, k3, bx3, hsz3⟩ := boxR r' w2
  have bxs3 := (bx.kept k2).kept k3
  have kd : Kp [] w w3.drew := ((k1.trans k2 (by simp)).trans k3 (by simp)).drew
  have hD3 := hD.keptNew kd
  obtain ⟨room', steps', fa', fc', l', armed', dead', left'⟩ := r'
  simp only [RD.v] at *
  have a1 := cFlip hD3 hB o.name hname o.n o.bit hn0 hn1 hb0 hb1
  have hw3' := hid hw3
  clear hw3 b0 b1 b2 b3 b4 b5 o0 o1 o2 o3 o4 o5 hRef1
  go_wp2_with fail
  rw [hw3'.out]
  obtain ⟨q3, hq3⟩ : ∃ q3, q3 = w2.heap.size := ⟨_, rfl⟩
  rw [← hq3] at bx3 ⊢
  have hqn : q3 ∉ foot p mb xs := fun h => by have := hlt _ h; have := k1.size; have := k2.size; omega
  have hqo : w.heap.size + 1 ∉ foot p mb xs := fun h => by have := hlt _ h; omega
  have hqa : w.heap.size + 2 ∉ foot p mb xs := fun h => by have := hlt _ h; omega
  have hne1 : q3 ≠ w.heap.size + 2 := by have := k2.size; omega
  have hne2 : w.heap.size + 1 ≠ w.heap.size + 2 := by omega
  have hS0 : Lds q3 (w.heap.size + 1) ⟨room', steps', fa', fc', l', armed', dead', left'⟩ o w3.drew := ⟨bx3.c0, bx3.c1, bx3.c2, bx3.c3, bx3.c4, bx3.c5, bxs3.o1, bxs3.o2, bxs3.o3, bxs3.o4, bxs3.o5⟩
  have hSk : Hid (∀ w4 xs', Mv (foot p mb xs) w3.drew (foot p mb xs') w4 → Lds q3 (w.heap.size + 1) ⟨room', steps', fa', fc', l', armed', dead', left'⟩ o w4) := fun w4 xs' mv => hS0.mv mv hqn hqo
  have hAn : Hid (∀ w4 xs', Mv (foot p mb xs) w3.drew (foot p mb xs') w4 → B6 w4 (w.heap.size + 2) (.int .i64 0) (.int .i64 0) (.slice none 0 0) (.bool false) (.bool false) (.int .i64 0)) := fun w4 xs' mv => (bxs3.an.kept (w' := w3.drew) (Kp.refl _ _).drew).mv mv hqa
  have hRh := hid hR
  clear hR hq3
  refine wp_region_held_drew (S := (fun w' => w'.cell? ⟨q3, 0, none⟩ = some (.int .i64 room') ∧ w'.cell? ⟨q3, 1, none⟩ = some (.int .i64 steps') ∧ w'.cell? ⟨q3, 2, none⟩ = some (.slice fa' l'.length fc') ∧ w'.cell? ⟨q3, 3, none⟩ = some (.bool armed') ∧ w'.cell? ⟨q3, 4, none⟩ = some (.bool dead') ∧ w'.cell? ⟨q3, 5, none⟩ = some (.int .i64 left') ∧ w'.cell? ⟨w.heap.size + 1, 1, none⟩ = some (.string ⟨o.name.toArray⟩) ∧ w'.cell? ⟨w.heap.size + 1, 2, none⟩ = some (.string ⟨o.to.toArray⟩) ∧ w'.cell? ⟨w.heap.size + 1, 3, none⟩ = some (.slice o.b.a o.b.bs.length o.b.c) ∧ w'.cell? ⟨w.heap.size + 1, 4, none⟩ = some (.int .i64 o.n) ∧ w'.cell? ⟨w.heap.size + 1, 5, none⟩ = some (.int .i64 o.bit))) (by kernel_rfl) ?_ (fun hHeld => ?_)
  · exact hS0
  refine wpAnyH_take (i := 0) (v := ?_) rfl (by kernel_rfl) (by kernel_rfl) (by kernel_rfl) (fun _ _ _ h => h) (Or.inl ⟨by rfl, ?_⟩) (by assumption) ?_
  rotate_left
  · intro w hSw; (try dsimp only at hSw); go_simp <;> with_reducible rfl
  try simp only [Act.put, List.getElem_toArray, List.getElem_cons_zero, List.getElem_cons_succ, List.setIfInBounds_toArray, List.set_cons_zero, List.set_cons_succ]
  refine wpAnyH_take (i := 1) (v := ?_) rfl (by kernel_rfl) (by kernel_rfl) (by kernel_rfl) (fun _ _ _ h => h) (Or.inl ⟨by rfl, ?_⟩) (by assumption) ?_
  rotate_left
  · intro w hSw; (try dsimp only at hSw); go_simp <;> with_reducible rfl
  try simp only [Act.put, List.getElem_toArray, List.getElem_cons_zero, List.getElem_cons_succ, List.setIfInBounds_toArray, List.set_cons_zero, List.set_cons_succ]
  refine wpAnyH_take (i := 2) (v := ?_) rfl (by kernel_rfl) (by kernel_rfl) (by kernel_rfl) (fun _ _ _ h => h) (Or.inl ⟨by rfl, ?_⟩) (by assumption) ?_
  rotate_left
  · intro w hSw; (try dsimp only at hSw); go_simp <;> with_reducible rfl
  try simp only [Act.put, List.getElem_toArray, List.getElem_cons_zero, List.getElem_cons_succ, List.setIfInBounds_toArray, List.set_cons_zero, List.set_cons_succ]
  refine wpAnyH_take (i := 3) (v := ?_) rfl (by kernel_rfl) (by kernel_rfl) (by kernel_rfl) (fun _ _ _ h => h) (Or.inl ⟨by rfl, ?_⟩) (by assumption) ?_
  rotate_left
  · intro w hSw; (try dsimp only at hSw); go_simp <;> with_reducible rfl
  try simp only [Act.put, List.getElem_toArray, List.getElem_cons_zero, List.getElem_cons_succ, List.setIfInBounds_toArray, List.set_cons_zero, List.set_cons_succ]
  refine wpAnyH_take (i := 4) (v := ?_) rfl (by kernel_rfl) (by kernel_rfl) (by kernel_rfl) (fun _ _ _ h => h) (Or.inl ⟨by rfl, ?_⟩) (by assumption) ?_
  rotate_left
  · intro w hSw; (try dsimp only at hSw); go_simp <;> with_reducible rfl
  try simp only [Act.put, List.getElem_toArray, List.getElem_cons_zero, List.getElem_cons_succ, List.setIfInBounds_toArray, List.set_cons_zero, List.set_cons_succ]
  refine wpAnyH_take (i := 5) (v := ?_) rfl (by kernel_rfl) (by kernel_rfl) (by kernel_rfl) (fun _ _ _ h => h) (Or.inl ⟨by rfl, ?_⟩) (by assumption) ?_
  rotate_left
  · intro w hSw; (try dsimp only at hSw); go_simp <;> with_reducible rfl
  try simp only [Act.put, List.getElem_toArray, List.getElem_cons_zero, List.getElem_cons_succ, List.setIfInBounds_toArray, List.set_cons_zero, List.set_cons_succ]
  refine wpAnyH_take (i := 6) (v := ?_) rfl (by kernel_rfl) (by kernel_rfl) (by kernel_rfl) (fun _ _ _ h => h) (Or.inl ⟨by rfl, ?_⟩) (by assumption) ?_
  rotate_left
  · intro w hSw; (try dsimp only at hSw); go_simp <;> with_reducible rfl
  try simp only [Act.put, List.getElem_toArray, List.getElem_cons_zero, List.getElem_cons_succ, List.setIfInBounds_toArray, List.set_cons_zero, List.set_cons_succ]
  refine wpAnyH_take (i := 7) (v := ?_) rfl (by kernel_rfl) (by kernel_rfl) (by kernel_rfl) (fun _ _ _ h => h) (Or.inl ⟨by rfl, ?_⟩) (by assumption) ?_
  rotate_left
  · intro w hSw; (try dsimp only at hSw); go_simp <;> with_reducible rfl
  try simp only [Act.put, List.getElem_toArray, List.getElem_cons_zero, List.getElem_cons_succ, List.setIfInBounds_toArray, List.set_cons_zero, List.set_cons_succ]
  refine wpAnyH_take (i := 9) (v := ?_) rfl (by kernel_rfl) (by kernel_rfl) (by kernel_rfl) (fun _ _ _ h => h) (Or.inl ⟨by rfl, ?_⟩) (by assumption) ?_
  rotate_left
  · intro w hSw; (try dsimp only at hSw); go_simp <;> with_reducible rfl
  try simp only [Act.put, List.getElem_toArray, List.getElem_cons_zero, List.getElem_cons_succ, List.setIfInBounds_toArray, List.set_cons_zero, List.set_cons_succ]
  refine wpAnyH_ready (rs := [8]) (by kernel_rfl) (by simp) ?_
  refine AllReadyH.cons rfl (fun K hK => ?_) AllReadyH.nil
  go_simp
  refine a1.mono ?_
  rintro e w4 ⟨rfl, xs4, hD4, mv4⟩
  have hb4 := hAn.out _ _ mv4
  have hb4' := hb4
  obtain ⟨r0, r1, r2, r3, r4, r5, rf⟩ := hb4'
  have g0 := rf 0
  have g1 := rf 1
  have g2 := rf 2
  have g3 := rf 3
  have g4 := rf 4
  have g5 := rf 5
  (try go_wp2_with fail)
  refine hK.out _ _ ?_ (fun hHeld => ?_)
  · exact hSk.out _ _ mv4
  clear hK K
  try simp only [Act.put, List.getElem_toArray, List.getElem_cons_zero, List.getElem_cons_succ, List.setIfInBounds_toArray, List.set_cons_zero, List.set_cons_succ]
  refine wpAnyH_take (i := 10) (v := ?_) rfl (by kernel_rfl) (by kernel_rfl) (by kernel_rfl) (fun _ _ _ h => h) (Or.inl ⟨by rfl, ?_⟩) (by assumption) ?_
  rotate_left
  · intro w hSw; (try dsimp only at hSw); go_simp <;> with_reducible rfl
  try simp only [Act.put, List.getElem_toArray, List.getElem_cons_zero, List.getElem_cons_succ, List.setIfInBounds_toArray, List.set_cons_zero, List.set_cons_succ]
  refine wpAnyH_ready (rs := [11]) (by kernel_rfl) (by simp) ?_
  refine AllReadyH.cons rfl (fun K hK => ?_) AllReadyH.nil
  go_simp
  (try go_wp2_with fail)
  refine hK.out _ _ ?_ (fun hHeld => ?_)
  · exact Lds.set6 (hSk.out _ _ mv4) hne1 hne2 _ _ _ _ _ _
  clear hK K
  try simp only [Act.put, List.getElem_toArray, List.getElem_cons_zero, List.getElem_cons_succ, List.setIfInBounds_toArray, List.set_cons_zero, List.set_cons_succ]
  refine wpAnyH_take (i := 12) (v := ?_) rfl (by kernel_rfl) (by kernel_rfl) (by kernel_rfl) (fun _ _ _ h => h) (Or.inl ⟨by rfl, ?_⟩) (by assumption) ?_
  rotate_left
  · intro w hSw; (try dsimp only at hSw); go_simp <;> with_reducible rfl
  try simp only [Act.put, List.getElem_toArray, List.getElem_cons_zero, List.getElem_cons_succ, List.setIfInBounds_toArray, List.set_cons_zero, List.set_cons_succ]
  refine wpAnyH_done (by kernel_rfl) ?_ _
  go_wp2_with fail
  obtain ⟨W', hW', hb6, kW'⟩ := set6_ex (show B6 w4 (w.heap.size + 1 + 1) _ _ _ _ _ _ from hb4) (.int .i64 room') (.int .i64 steps') (.slice fa' l'.length fc') (.bool armed') (.bool dead') (.int .i64 left')
  rw [hW']
  obtain ⟨z0, z1, z2, z3, z4, z5, _⟩ := hb6
  refine bodyPost_ret (v := .tuple #[.agg #[.int .i64 room', .int .i64 steps', .slice fa' l'.length fc', .bool armed', .bool dead', .int .i64 left'], .bool (flipOk d o.name o.n o.bit == x.2)]) (by simp [results, Try.results20, go_sem, z0, z1, z2, z3, z4, z5]) rfl ?_
  exact chFin (r' := ⟨room', steps', fa', fc', l', armed', dead', left'⟩) hD k1 (q := w.heap.size + 1 + 1) (by omega) (by omega) hRh.out (k3.drew) hD4 mv4 kW'
end Go.Proofs.Ytgllkonbgigcbaa
end

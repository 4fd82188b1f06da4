/- The reference's Create. The reference's Create: the walk. The reference's Open: the walk. -/
import Derived.Test.YtpkoikennimonaaGreatDoorB15
section
namespace Go.Proofs.YtpkoikennimonaaGreatDoor
open Go.RowKit Go.Hay
set_option linter.unusedVariables false
set_option linter.unusedSimpArgs false

/-- The reference's log. -/
structure RL where
  nm : List UInt8
  a : Option Addr
  c : Nat
  l : List Bs
  sz : Int
def RL.v (r : RL) : Value := .agg #[.string ⟨r.nm.toArray⟩, .slice r.a r.l.length r.c, .int .i64 r.sz]
def RL.none : RL := ⟨[], Option.none, 0, [], 0⟩
/-- The blocks of it that are seen. -/
def RL.foot (r : RL) : List Nat := (if r.l = [] then [] else blk r.a) ++ r.l.flatMap fun y => if y.bs = [] then [] else blk y.a
structure RlOk (w : World) (r : RL) : Prop where
  see : BsE.See w r.a r.l
  ok : ∀ y ∈ r.l, y.ok w
theorem RlOk.kept {w w' : World} {r : RL} {S : List Nat} (h : RlOk w r) (hk : Kp S w w') (hn : ∀ k ∈ r.foot, k ∉ S) : RlOk w' r := by
  refine ⟨h.see.kept hk (fun hne k hk' => hn k (by simp [RL.foot, hne, hk'])), fun y hy => (h.ok y hy).kept hk (fun hne k hk' => hn k ?_)⟩
  simp only [RL.foot, List.mem_append, List.mem_flatMap]
  exact .inr ⟨y, hy, by simp [hne, hk']⟩
theorem RlOk.none (w : World) : RlOk w RL.none := ⟨.inl rfl, by simp [RL.none]⟩
/-- What the reference's Create and Open hand back. -/
def RefL (T : List Nat) (x : Dk × Int) (nm : List UInt8) (L : List (List UInt8)) (sz : Int) (w : World) (e : Ending) (w' : World) : Prop :=
  ∃ (v : Value) (g : RL), e = .returned (.tuple #[v, g.v, .int .i64 x.2]) ∧ RefP T x.1 w v w' ∧ RlOk w' g ∧ (∀ k ∈ g.foot, k ∈ T ∨ w.heap.size ≤ k) ∧ (x.2 = 0 → g.nm = nm ∧ bsl g.l = L ∧ g.sz = sz) ∧ (x.2 ≠ 0 → g = RL.none)
/-- The boxes at the begin: the disk, the results'. -/
theorem boxRL (r : RD) (w : World) : ∃ w1, ((w.alloc (.cells #[.int .i64 r.room, .int .i64 r.steps, .slice r.fa r.l.length r.fc, .bool r.armed, .bool r.dead, .int .i64 r.left] 27)).alloc (.cells #[.int .i64 0, .int .i64 0, .slice none 0 0, .bool false, .bool false, .int .i64 0] 27)).alloc (.cells #[.string ⟨#[]⟩, .slice none 0 0, .int .i64 0] 32) = w1 ∧ Kp [] w w1 ∧
    B6 w1 w.heap.size (.int .i64 r.room) (.int .i64 r.steps) (.slice r.fa r.l.length r.fc) (.bool r.armed) (.bool r.dead) (.int .i64 r.left) ∧ B6 w1 (w.heap.size + 1) (.int .i64 0) (.int .i64 0) (.slice none 0 0) (.bool false) (.bool false) (.int .i64 0) ∧ B3 w1 (w.heap.size + 1 + 1) (.string ⟨#[]⟩) (.slice none 0 0) (.int .i64 0) ∧ w.heap.size + 3 ≤ w1.heap.size := by
  obtain ⟨w0, e0, k0, b0, b1, z0⟩ := boxRR r w
  refine ⟨_, rfl, ?_, ?_, ?_, ?_, ?_⟩
  all_goals rw [e0]
  · exact k0.alloc _
  · exact b0.kept ((Kp.refl _ _).alloc _)
  · exact b1.kept ((Kp.refl _ _).alloc _)
  · exact B3.at _ (by rw [← e0]; simp) _ _ _ _
  · simp; omega
/-- How a reference's disk in its box stands. -/
structure RBx (w W : World) (d : Dk) (T : List Nat) (r : RD) : Prop where
  bx : B6 W w.heap.size (.int .i64 r.room) (.int .i64 r.steps) (.slice r.fa r.l.length r.fc) (.bool r.armed) (.bool r.dead) (.int .i64 r.left)
  br : B6 W (w.heap.size + 1) (.int .i64 0) (.int .i64 0) (.slice none 0 0) (.bool false) (.bool false) (.int .i64 0)
  bl : B3 W (w.heap.size + 1 + 1) (.string ⟨#[]⟩) (.slice none 0 0) (.int .i64 0)
  ok : RdOk W r
  like : Like r d
  kp : Kp [] w W
  ft : ∀ k ∈ r.foot, (k ∈ T ∨ w.heap.size ≤ k) ∧ k ≠ w.heap.size ∧ k ≠ w.heap.size + 1 ∧ k ≠ w.heap.size + 1 + 1
  sz : w.heap.size + 3 ≤ W.heap.size
theorem B3.keptS {w w' : World} {q : Nat} {a b c : Value} {S : List Nat} (h : B3 w q a b c) (hk : Kp S w w') (hq : q ∉ S) : B3 w' q a b c :=
  ⟨(hk.cell (p := ⟨q, 0, none⟩) h.lt hq).trans h.c0, (hk.cell (p := ⟨q, 1, none⟩) h.lt hq).trans h.c1, (hk.cell (p := ⟨q, 2, none⟩) h.lt hq).trans h.c2, fun j => (hk.frozen (p := ⟨q, j, none⟩) h.lt hq).trans (h.free j)⟩
/-- A call's answer is laid into the box. -/
theorem RBx.next {w W W2 : World} {d : Dk} {T : List Nat} {r : RD} (h : RBx w W d T r) {d' : Dk} {v : Value} (hP : RefP r.foot d' W v W2) :
    ∃ r' : RD, v = r'.v ∧ ∃ W3, (((((W2.setCell ⟨w.heap.size, 0, none⟩ (.int .i64 r'.room)).setCell ⟨w.heap.size, 1, none⟩ (.int .i64 r'.steps)).setCell ⟨w.heap.size, 2, none⟩ (.slice r'.fa r'.l.length r'.fc)).setCell ⟨w.heap.size, 3, none⟩ (.bool r'.armed)).setCell ⟨w.heap.size, 4, none⟩ (.bool r'.dead)).setCell ⟨w.heap.size, 5, none⟩ (.int .i64 r'.left) = W3 ∧ RBx w W3 d' T r' ∧ B6 W2 w.heap.size (.int .i64 r.room) (.int .i64 r.steps) (.slice r.fa r.l.length r.fc) (.bool r.armed) (.bool r.dead) (.int .i64 r.left) ∧ Kp [w.heap.size] W W3 := by
  obtain ⟨r', rfl, hr', hL', k2, hf'⟩ := hP
  have b2 := h.bx.kept k2
  obtain ⟨W3, e3, b3, k3⟩ := set6_ex b2 (.int .i64 r'.room) (.int .i64 r'.steps) (.slice r'.fa r'.l.length r'.fc) (.bool r'.armed) (.bool r'.dead) (.int .i64 r'.left)
  have hz := k2.size
  have hsz := h.sz
  have hft : ∀ k ∈ r'.foot, (k ∈ T ∨ w.heap.size ≤ k) ∧ k ≠ w.heap.size ∧ k ≠ w.heap.size + 1 ∧ k ≠ w.heap.size + 1 + 1 := fun k hk => by
    rcases hf' k hk with e | e
    · exact h.ft k e
    · exact ⟨.inr (by omega), by omega, by omega, by omega⟩
  refine ⟨r', rfl, W3, e3, ⟨b3, (h.br.kept k2).keptS k3 (by simp), (h.bl.keptS k2 (by simp)).keptS k3 (by simp; omega), hr'.kept k3 (fun k hk hm => by simp at hm; exact (hft k hk).2.1 hm), hL', (h.kp.trans k2 (by simp)).trans k3 (fun x hx => .inr (by simp at hx; omega)), hft, by have := k3.size; omega⟩, b2, (k2.mono (by simp)).trans k3 (fun x hx => .inl hx)⟩
/-- The results are laid. -/
theorem RBx.ret {w W : World} {d : Dk} {T : List Nat} {r : RD} (h : RBx w W d T r) (g : RL) (hg : RlOk W g) (hgf : ∀ k ∈ g.foot, (k ∈ T ∨ w.heap.size ≤ k) ∧ k ≠ w.heap.size + 1 ∧ k ≠ w.heap.size + 1 + 1) :
    ∃ W1 W2, (((((W.setCell ⟨w.heap.size + 1, 0, none⟩ (.int .i64 r.room)).setCell ⟨w.heap.size + 1, 1, none⟩ (.int .i64 r.steps)).setCell ⟨w.heap.size + 1, 2, none⟩ (.slice r.fa r.l.length r.fc)).setCell ⟨w.heap.size + 1, 3, none⟩ (.bool r.armed)).setCell ⟨w.heap.size + 1, 4, none⟩ (.bool r.dead)).setCell ⟨w.heap.size + 1, 5, none⟩ (.int .i64 r.left) = W1 ∧
      ((W1.setCell ⟨w.heap.size + 1 + 1, 0, none⟩ (.string ⟨g.nm.toArray⟩)).setCell ⟨w.heap.size + 1 + 1, 1, none⟩ (.slice g.a g.l.length g.c)).setCell ⟨w.heap.size + 1 + 1, 2, none⟩ (.int .i64 g.sz) = W2 ∧
      B3 W1 (w.heap.size + 1 + 1) (.string ⟨#[]⟩) (.slice none 0 0) (.int .i64 0) ∧
      B6 W2 (w.heap.size + 1) (.int .i64 r.room) (.int .i64 r.steps) (.slice r.fa r.l.length r.fc) (.bool r.armed) (.bool r.dead) (.int .i64 r.left) ∧ B3 W2 (w.heap.size + 1 + 1) (.string ⟨g.nm.toArray⟩) (.slice g.a g.l.length g.c) (.int .i64 g.sz) ∧
      RefP T d w r.v W2 ∧ RlOk W2 g ∧ ∀ k ∈ g.foot, k ∈ T ∨ w.heap.size ≤ k := by
  obtain ⟨W1, e1, b1, k1⟩ := set6_ex h.br (.int .i64 r.room) (.int .i64 r.steps) (.slice r.fa r.l.length r.fc) (.bool r.armed) (.bool r.dead) (.int .i64 r.left)
  have bl1 := h.bl.keptS k1 (by simp)
  obtain ⟨W2, e2, b2, k2⟩ := set3_ex bl1 (.string ⟨g.nm.toArray⟩) (.slice g.a g.l.length g.c) (.int .i64 g.sz)
  refine ⟨W1, W2, e1, e2, bl1, b1.keptS k2 (by simp), b2, ⟨r, rfl, (h.ok.kept k1 (fun k hk hm => by simp at hm; exact (h.ft k hk).2.2.1 hm)).kept k2 (fun k hk hm => by simp at hm; exact (h.ft k hk).2.2.2 hm), h.like, (h.kp.trans k1 (fun x hx => .inr (by simp at hx; omega))).trans k2 (fun x hx => .inr (by simp at hx; omega)), fun k hk => (h.ft k hk).1⟩, (hg.kept k1 (fun k hk hm => by simp at hm; exact (hgf k hk).2.1 hm)).kept k2 (fun k hk hm => by simp at hm; exact (hgf k hk).2.2 hm), fun k hk => (hgf k hk).1⟩
end Go.Proofs.YtpkoikennimonaaGreatDoor
end

section
namespace Go.Proofs.YtpkoikennimonaaGreatDoor
open Go.RowKit Go.Hay
set_option linter.unusedVariables false
set_option linter.unusedSimpArgs false

theorem One.rd {K s : Nat} {d : Dk} {r : RD} (h : One K s d) (hL : Like r d) (hK : K ≤ 140737400000000) : r.l.length ≤ 1 ∧ ∀ f ∈ r.l, f.bytes.length ≤ 140737488355328 := by
  have e : r.l.length = d.files.length := by rw [← hL.files, List.length_map]
  refine ⟨by rw [e]; exact h.len, fun f hf => ?_⟩
  exact h.small hK f.fl (by rw [← hL.files]; exact List.mem_map.2 ⟨f, hf, rfl⟩)
theorem create_no {d : Dk} (h : lookG Fl.name nmZ d.files = none) : createD d nmZ = writeD d nmZ [] := by
  unfold createD
  have e : doD d 4 nmZ [] 0 = (d, if d.dead then 44 else 42) := by
    unfold doD refusedD
    rw [h]
    cases d.dead <;> simp
  rw [e]
  cases hd : d.dead with
  | true =>
    rw [if_pos (by simp)]
    unfold writeD appendD
    simp [hd]
  | false => rw [if_neg (by simp)]
theorem create_yes {d : Dk} {f : Fl} (h : lookG Fl.name nmZ d.files = some f) : createD d nmZ = if (doD d 4 nmZ [] 0).2 = 0 then writeD (doD d 4 nmZ [] 0).1 nmZ [] else doD d 4 nmZ [] 0 := by
  have e : (doD d 4 nmZ [] 0).2 = 0 ∨ (doD d 4 nmZ [] 0).2 = 44 := by
    unfold doD refusedD
    rw [h]
    cases d.dead
    · simp
      split <;> simp
    · simp
  unfold createD
  rcases e with e | e <;> simp [e]
theorem RBx.start (r : RD) (d : Dk) (w : World) (hr : RdOk w r) (hL : Like r d) {w1 : World} (k1 : Kp [] w w1)
    (bx : B6 w1 w.heap.size (.int .i64 r.room) (.int .i64 r.steps) (.slice r.fa r.l.length r.fc) (.bool r.armed) (.bool r.dead) (.int .i64 r.left)) (br : B6 w1 (w.heap.size + 1) (.int .i64 0) (.int .i64 0) (.slice none 0 0) (.bool false) (.bool false) (.int .i64 0)) (bl : B3 w1 (w.heap.size + 1 + 1) (.string ⟨#[]⟩) (.slice none 0 0) (.int .i64 0)) (hz : w.heap.size + 3 ≤ w1.heap.size) : RBx w w1 d r.foot r :=
  ⟨bx, br, bl, hr.keptNew k1, hL, k1, fun k hk => ⟨.inl hk, by have := hr.lt k hk; omega, by have := hr.lt k hk; omega, by have := hr.lt k hk; omega⟩, hz⟩
theorem RBx.keep {w W W' : World} {d : Dk} {T : List Nat} {r : RD} (h : RBx w W d T r) (k : Kp [] W W') : RBx w W' d T r :=
  ⟨h.bx.kept k, h.br.kept k, h.bl.keptS k (by simp), h.ok.keptNew k, h.like, h.kp.trans k (by simp), h.ft, by have := h.sz; have := k.size; omega⟩
set_option maxHeartbeats 16000000 in
set_option maxRecDepth 100000 in
theorem rCreate (r : RD) (d : Dk) (w : World) (hr : RdOk w r) (hL : Like r d) {K s : Nat} (hO : One K s d) (hK : K ≤ 140737000000000) (hs : s ≤ 7000000000000000000) :
    Calls Tryz.prog 20 #[r.v, .string ⟨nmZ.toArray⟩] w (RefL r.foot (createD d nmZ) nmZ [] 0 w) := by
  obtain ⟨w1, hw1, k1, bx, br, bl, hz1⟩ := boxRL r w
  have hR := RBx.start r d w hr hL k1 bx br bl hz1
  obtain ⟨hl, hB⟩ := hO.rd hL (by omega)
  have aT := hid (cAt r nmZ w1 hR.ok (by omega))
  have HR := hid hR
  have hO' := hid hO
  have hLk := hid (hL.look nmZ)
  obtain ⟨T, hT⟩ : ∃ T, Hid (r.foot = T) := ⟨_, hid rfl⟩
  rw [hT.out]
  rw [hT.out] at HR
  clear hr hL hO bx br bl k1 hR hT
  have b0 := HR.out.bx.c0; have b1 := HR.out.bx.c1; have b2 := HR.out.bx.c2; have b3 := HR.out.bx.c3; have b4 := HR.out.bx.c4; have b5 := HR.out.bx.c5
  have bf0 := HR.out.bx.free 0; have bf1 := HR.out.bx.free 1; have bf2 := HR.out.bx.free 2; have bf3 := HR.out.bx.free 3; have bf4 := HR.out.bx.free 4; have bf5 := HR.out.bx.free 5
  have r0 := HR.out.br.c0; have r1 := HR.out.br.c1; have r2 := HR.out.br.c2; have r3 := HR.out.br.c3; have r4 := HR.out.br.c4; have r5 := HR.out.br.c5
  have g0 := HR.out.br.free 0; have g1 := HR.out.br.free 1; have g2 := HR.out.br.free 2; have g3 := HR.out.br.free 3; have g4 := HR.out.br.free 4; have g5 := HR.out.br.free 5
  have l0 := HR.out.bl.c0; have l1 := HR.out.bl.c1; have l2 := HR.out.bl.c2
  have lf0 := HR.out.bl.free 0; have lf1 := HR.out.bl.free 1; have lf2 := HR.out.bl.free 2
  have hst := hO'.out.st
  obtain ⟨room, steps, fa, fc, l, armed, dead, left⟩ := r
  simp only [RD.v] at *
  go_enter Tryz.func20, Tryz.ntmps20
  go_wp2_with fail
  refine aT.out.mono ?_
  rintro e w2 ⟨k2, (⟨jx, xx, rfl, hx1, hx2⟩ | ⟨rfl, hx2⟩)⟩
  · rw [hx2] at hLk
    have ec := hid (create_yes hLk.out)
    have HR2 := hid (HR.out.keep k2)
    clear b0 b1 b2 b3 b4 b5 bf0 bf1 bf2 bf3 bf4 bf5 r0 r1 r2 r3 r4 r5 g0 g1 g2 g3 g4 g5 l0 l1 l2 lf0 lf1 lf2
    have b0 := HR2.out.bx.c0; have b1 := HR2.out.bx.c1; have b2 := HR2.out.bx.c2; have b3 := HR2.out.bx.c3; have b4 := HR2.out.bx.c4; have b5 := HR2.out.bx.c5
    have bf0 := HR2.out.bx.free 0; have bf1 := HR2.out.bx.free 1; have bf2 := HR2.out.bx.free 2; have bf3 := HR2.out.bx.free 3; have bf4 := HR2.out.bx.free 4; have bf5 := HR2.out.bx.free 5
    have r0 := HR2.out.br.c0; have r1 := HR2.out.br.c1; have r2 := HR2.out.br.c2; have r3 := HR2.out.br.c3; have r4 := HR2.out.br.c4; have r5 := HR2.out.br.c5
    have g0 := HR2.out.br.free 0; have g1 := HR2.out.br.free 1; have g2 := HR2.out.br.free 2; have g3 := HR2.out.br.free 3; have g4 := HR2.out.br.free 4; have g5 := HR2.out.br.free 5
    have l0 := HR2.out.bl.c0; have l1 := HR2.out.bl.c1; have l2 := HR2.out.bl.c2
    have lf0 := HR2.out.bl.free 0; have lf1 := HR2.out.bl.free 1; have lf2 := HR2.out.bl.free 2
    have dj1 : decide ((0 : Int) ≤ (jx : Int)) = true := by simp
    have hA2 := hid (cRefDo _ d w2 HR2.out.ok HR2.out.like hO'.out.ok (by simp only at hl ⊢; omega) (by omega) 4 (.inr (.inr (.inr rfl))) nmZ [] nmZ_len (by simp) 0 hB)
    have hO2 := hid (hO'.out.do 4 (.inr (.inr rfl)) 0)
    obtain ⟨⟨d2, e2⟩, hd2⟩ : ∃ x, Hid (doD d 4 nmZ [] 0 = x) := ⟨_, hid rfl⟩
    rw [hd2.out] at hA2 hO2 ec
    simp only [RD.v] at hA2 hO2
    clear aT HR hx2 hLk k2 hx1 hd2
    go_wp2_with fail
    refine hA2.out.mono ?_
    rintro e w3 ⟨v3, rfl, hP3⟩
    clear b0 b1 b2 b3 b4 b5 bf0 bf1 bf2 bf3 bf4 bf5 r0 r1 r2 r3 r4 r5 g0 g1 g2 g3 g4 g5 l0 l1 l2 lf0 lf1 lf2
    obtain ⟨rr3, ev3, W3, hW3, hR3, hb3, kn30⟩ := HR2.out.next hP3
    have kn3 := hid kn30
    subst ev3
    have HR3 := hid hR3
    have c0 := hb3.c0; have c1 := hb3.c1; have c2 := hb3.c2; have c3 := hb3.c3; have c4 := hb3.c4; have c5 := hb3.c5
    have cf0 := hb3.free 0; have cf1 := hb3.free 1; have cf2 := hb3.free 2; have cf3 := hb3.free 3; have cf4 := hb3.free 4; have cf5 := hb3.free 5
    have b0 := HR3.out.bx.c0; have b1 := HR3.out.bx.c1; have b2 := HR3.out.bx.c2; have b3 := HR3.out.bx.c3; have b4 := HR3.out.bx.c4; have b5 := HR3.out.bx.c5
    have bf0 := HR3.out.bx.free 0; have bf1 := HR3.out.bx.free 1; have bf2 := HR3.out.bx.free 2; have bf3 := HR3.out.bx.free 3; have bf4 := HR3.out.bx.free 4; have bf5 := HR3.out.bx.free 5
    have r0 := HR3.out.br.c0; have r1 := HR3.out.br.c1; have r2 := HR3.out.br.c2; have r3 := HR3.out.br.c3; have r4 := HR3.out.br.c4; have r5 := HR3.out.br.c5
    have g0 := HR3.out.br.free 0; have g1 := HR3.out.br.free 1; have g2 := HR3.out.br.free 2; have g3 := HR3.out.br.free 3; have g4 := HR3.out.br.free 4; have g5 := HR3.out.br.free 5
    have l0 := HR3.out.bl.c0; have l1 := HR3.out.bl.c1; have l2 := HR3.out.bl.c2
    have lf0 := HR3.out.bl.free 0; have lf1 := HR3.out.bl.free 1; have lf2 := HR3.out.bl.free 2
    obtain ⟨room3, steps3, fa3, fc3, lx3, armed3, dead3, left3⟩ := rr3
    simp only [RD.v] at *
    clear hR3 hb3 hP3 kn30
    clear hA2
    by_cases he3 : e2 = 0
    · have hcr : Hid (createD d nmZ = writeD d2 nmZ []) := by show _ = _; rw [ec.out, if_pos he3]
      subst he3
      clear ec
      have ok4 := hO2.out.rd HR3.out.like (by omega)
      have hs4 := hO2.out.st
      have hA4 := hid (cRefAppend _ d2 W3 HR3.out.ok HR3.out.like hO2.out.ok (by have := ok4.1; simp only at this ⊢; omega) (by omega) nmZ nmZ_len none 0 [] (.inl rfl) (by have := hO2.out.file; simp; omega))
      have hO4 := hid (hO2.out.app [])
      obtain ⟨⟨d4, e4⟩, hd4⟩ : ∃ x, Hid (appendD d2 nmZ [] = x) := ⟨_, hid rfl⟩
      rw [hd4.out] at hA4 hO4
      simp only [RD.v, List.length_nil, Nat.add_zero] at hA4 hO4
      go_wp2_with fail
      refine hA4.out.mono ?_
      rintro e w4 ⟨v4, rfl, hP4⟩
      clear b0 b1 b2 b3 b4 b5 bf0 bf1 bf2 bf3 bf4 bf5 r0 r1 r2 r3 r4 r5 g0 g1 g2 g3 g4 g5 l0 l1 l2 lf0 lf1 lf2
      clear c0 c1 c2 c3 c4 c5 cf0 cf1 cf2 cf3 cf4 cf5
      clear hW3
      obtain ⟨rr4, ev4, W4, hW4, hR4, hb4, kn40⟩ := HR3.out.next hP4
      have kn4 := hid kn40
      subst ev4
      have HR4 := hid hR4
      have c0 := hb4.c0; have c1 := hb4.c1; have c2 := hb4.c2; have c3 := hb4.c3; have c4 := hb4.c4; have c5 := hb4.c5
      have cf0 := hb4.free 0; have cf1 := hb4.free 1; have cf2 := hb4.free 2; have cf3 := hb4.free 3; have cf4 := hb4.free 4; have cf5 := hb4.free 5
      have b0 := HR4.out.bx.c0; have b1 := HR4.out.bx.c1; have b2 := HR4.out.bx.c2; have b3 := HR4.out.bx.c3; have b4 := HR4.out.bx.c4; have b5 := HR4.out.bx.c5
      have bf0 := HR4.out.bx.free 0; have bf1 := HR4.out.bx.free 1; have bf2 := HR4.out.bx.free 2; have bf3 := HR4.out.bx.free 3; have bf4 := HR4.out.bx.free 4; have bf5 := HR4.out.bx.free 5
      have r0 := HR4.out.br.c0; have r1 := HR4.out.br.c1; have r2 := HR4.out.br.c2; have r3 := HR4.out.br.c3; have r4 := HR4.out.br.c4; have r5 := HR4.out.br.c5
      have g0 := HR4.out.br.free 0; have g1 := HR4.out.br.free 1; have g2 := HR4.out.br.free 2; have g3 := HR4.out.br.free 3; have g4 := HR4.out.br.free 4; have g5 := HR4.out.br.free 5
      have l0 := HR4.out.bl.c0; have l1 := HR4.out.bl.c1; have l2 := HR4.out.bl.c2
      have lf0 := HR4.out.bl.free 0; have lf1 := HR4.out.bl.free 1; have lf2 := HR4.out.bl.free 2
      obtain ⟨room4, steps4, fa4, fc4, lx4, armed4, dead4, left4⟩ := rr4
      simp only [RD.v] at *
      clear hR4 hb4 hP4 kn40
      clear hA4
      by_cases he4 : e4 = 0
      · have hw4 : Hid (createD d nmZ = doD d4 1 nmZ [] 0) := by
          show _ = _
          rw [hcr.out]
          unfold writeD
          rw [hd4.out, if_neg (by simp [he4])]
        subst he4
        have ok5 := hO4.out.rd HR4.out.like (by omega)
        have hs5 := hO4.out.st
        have hA5 := hid (cRefDo _ d4 W4 HR4.out.ok HR4.out.like hO4.out.ok (by have := ok5.1; simp only at this ⊢; omega) (by omega) 1 (.inl rfl) nmZ [] nmZ_len (by simp) 0 ok5.2)
        obtain ⟨⟨d5, e5⟩, hd5⟩ : ∃ x, Hid (doD d4 1 nmZ [] 0 = x) := ⟨_, hid rfl⟩
        rw [hd5.out] at hA5 hw4
        have hce : Hid (createD d nmZ = (d5, e5)) := hw4
        simp only [RD.v] at hA5
        clear hd4 hcr hw4
        go_wp2_with fail
        refine hA5.out.mono ?_
        rintro e w5 ⟨v5, rfl, hP5⟩
        clear b0 b1 b2 b3 b4 b5 bf0 bf1 bf2 bf3 bf4 bf5 r0 r1 r2 r3 r4 r5 g0 g1 g2 g3 g4 g5 l0 l1 l2 lf0 lf1 lf2
        clear c0 c1 c2 c3 c4 c5 cf0 cf1 cf2 cf3 cf4 cf5
        clear hW4
        obtain ⟨rr5, ev5, W5, hW5, hR5, hb5, kn50⟩ := HR4.out.next hP5
        have kn5 := hid kn50
        subst ev5
        have HR5 := hid hR5
        have c0 := hb5.c0; have c1 := hb5.c1; have c2 := hb5.c2; have c3 := hb5.c3; have c4 := hb5.c4; have c5 := hb5.c5
        have cf0 := hb5.free 0; have cf1 := hb5.free 1; have cf2 := hb5.free 2; have cf3 := hb5.free 3; have cf4 := hb5.free 4; have cf5 := hb5.free 5
        have b0 := HR5.out.bx.c0; have b1 := HR5.out.bx.c1; have b2 := HR5.out.bx.c2; have b3 := HR5.out.bx.c3; have b4 := HR5.out.bx.c4; have b5 := HR5.out.bx.c5
        have bf0 := HR5.out.bx.free 0; have bf1 := HR5.out.bx.free 1; have bf2 := HR5.out.bx.free 2; have bf3 := HR5.out.bx.free 3; have bf4 := HR5.out.bx.free 4; have bf5 := HR5.out.bx.free 5
        have r0 := HR5.out.br.c0; have r1 := HR5.out.br.c1; have r2 := HR5.out.br.c2; have r3 := HR5.out.br.c3; have r4 := HR5.out.br.c4; have r5 := HR5.out.br.c5
        have g0 := HR5.out.br.free 0; have g1 := HR5.out.br.free 1; have g2 := HR5.out.br.free 2; have g3 := HR5.out.br.free 3; have g4 := HR5.out.br.free 4; have g5 := HR5.out.br.free 5
        have l0 := HR5.out.bl.c0; have l1 := HR5.out.bl.c1; have l2 := HR5.out.bl.c2
        have lf0 := HR5.out.bl.free 0; have lf1 := HR5.out.bl.free 1; have lf2 := HR5.out.bl.free 2
        obtain ⟨room5, steps5, fa5, fc5, lx5, armed5, dead5, left5⟩ := rr5
        simp only [RD.v] at *
        clear hR5 hb5 hP5 kn50
        clear hA5 hd5
        by_cases he5 : e5 = 0
        · subst he5
          obtain ⟨X1, X2, hX1, hX2, bl9, br9, bg9, hP9, hg9, hf9⟩ := HR5.out.ret ⟨nmZ, none, 0, [], 0⟩ ⟨.inl rfl, by simp⟩ (by simp [RL.foot])
          have q0 := bl9.c0; have q1 := bl9.c1; have q2 := bl9.c2
          have qf0 := bl9.free 0; have qf1 := bl9.free 1; have qf2 := bl9.free 2
          have z0 := hid br9.c0; have z1 := hid br9.c1; have z2 := hid br9.c2; have z3 := hid br9.c3; have z4 := hid br9.c4; have z5 := hid br9.c5
          have y0 := hid bg9.c0; have y1 := hid bg9.c1; have y2 := hid bg9.c2
          have hP9' := hid hP9; have hg9' := hid hg9; have hf9' := hid hf9
          clear bl9 br9 bg9 hP9 hg9 hf9
          simp only [RD.v, RL.none, List.length_nil] at *
          go_wp2_with fail
          refine bodyPost_ret (v := .tuple #[.agg #[.int .i64 room5, .int .i64 steps5, .slice fa5 lx5.length fc5, .bool armed5, .bool dead5, .int .i64 left5], .agg #[.string ⟨nmZ.toArray⟩, .slice none 0 0, .int .i64 0], .int .i64 0]) (by simp [results, Tryz.results20, go_sem, z0.out, z1.out, z2.out, z3.out, z4.out, z5.out, y0.out, y1.out, y2.out]) rfl ?_
          rw [hce.out]
          exact ⟨_, ⟨nmZ, none, 0, [], 0⟩, rfl, hP9'.out, hg9'.out, hf9'.out, fun _ => ⟨rfl, by simp [bsl], rfl⟩, fun h => absurd rfl h⟩
        · have hx : True := trivial
          have t5a : (e5 == 0) = false := by simpa using he5
          have t5b : (e5 != 0) = true := by simpa using he5
          obtain ⟨X1, X2, hX1, hX2, bl9, br9, bg9, hP9, hg9, hf9⟩ := HR5.out.ret RL.none (RlOk.none _) (by simp [RL.none, RL.foot])
          have q0 := bl9.c0; have q1 := bl9.c1; have q2 := bl9.c2
          have qf0 := bl9.free 0; have qf1 := bl9.free 1; have qf2 := bl9.free 2
          have z0 := hid br9.c0; have z1 := hid br9.c1; have z2 := hid br9.c2; have z3 := hid br9.c3; have z4 := hid br9.c4; have z5 := hid br9.c5
          have y0 := hid bg9.c0; have y1 := hid bg9.c1; have y2 := hid bg9.c2
          have hP9' := hid hP9; have hg9' := hid hg9; have hf9' := hid hf9
          clear bl9 br9 bg9 hP9 hg9 hf9
          simp only [RD.v, RL.none, List.length_nil] at *
          go_wp2_with fail
          refine bodyPost_ret (v := .tuple #[.agg #[.int .i64 room5, .int .i64 steps5, .slice fa5 lx5.length fc5, .bool armed5, .bool dead5, .int .i64 left5], .agg #[.string ⟨#[]⟩, .slice none 0 0, .int .i64 0], .int .i64 e5]) (by simp [results, Tryz.results20, go_sem, z0.out, z1.out, z2.out, z3.out, z4.out, z5.out, y0.out, y1.out, y2.out]) rfl ?_
          rw [hce.out]
          exact ⟨_, RL.none, rfl, hP9'.out, hg9'.out, hf9'.out, fun h => absurd h he5, fun _ => rfl⟩
      · have hce : Hid (createD d nmZ = (d4, e4)) := by
          show _ = _
          rw [hcr.out]
          unfold writeD
          rw [hd4.out, if_pos (by simpa using he4)]
        clear hd4 hcr
        have t4a : (e4 == 0) = false := by simpa using he4
        have t4b : (e4 != 0) = true := by simpa using he4
        obtain ⟨X1, X2, hX1, hX2, bl9, br9, bg9, hP9, hg9, hf9⟩ := HR4.out.ret RL.none (RlOk.none _) (by simp [RL.none, RL.foot])
        have q0 := bl9.c0; have q1 := bl9.c1; have q2 := bl9.c2
        have qf0 := bl9.free 0; have qf1 := bl9.free 1; have qf2 := bl9.free 2
        have z0 := hid br9.c0; have z1 := hid br9.c1; have z2 := hid br9.c2; have z3 := hid br9.c3; have z4 := hid br9.c4; have z5 := hid br9.c5
        have y0 := hid bg9.c0; have y1 := hid bg9.c1; have y2 := hid bg9.c2
        have hP9' := hid hP9; have hg9' := hid hg9; have hf9' := hid hf9
        clear bl9 br9 bg9 hP9 hg9 hf9
        simp only [RD.v, RL.none, List.length_nil] at *
        go_wp2_with fail
        refine bodyPost_ret (v := .tuple #[.agg #[.int .i64 room4, .int .i64 steps4, .slice fa4 lx4.length fc4, .bool armed4, .bool dead4, .int .i64 left4], .agg #[.string ⟨#[]⟩, .slice none 0 0, .int .i64 0], .int .i64 e4]) (by simp [results, Tryz.results20, go_sem, z0.out, z1.out, z2.out, z3.out, z4.out, z5.out, y0.out, y1.out, y2.out]) rfl ?_
        rw [hce.out]
        exact ⟨_, RL.none, rfl, hP9'.out, hg9'.out, hf9'.out, fun h => absurd h he4, fun _ => rfl⟩
    · have hce : Hid (createD d nmZ = (d2, e2)) := by show _ = _; rw [ec.out, if_neg he3]
      clear ec
      have t3a : (e2 == 0) = false := by simpa using he3
      have t3b : (e2 != 0) = true := by simpa using he3
      obtain ⟨X1, X2, hX1, hX2, bl9, br9, bg9, hP9, hg9, hf9⟩ := HR3.out.ret RL.none (RlOk.none _) (by simp [RL.none, RL.foot])
      have q0 := bl9.c0; have q1 := bl9.c1; have q2 := bl9.c2
      have qf0 := bl9.free 0; have qf1 := bl9.free 1; have qf2 := bl9.free 2
      have z0 := hid br9.c0; have z1 := hid br9.c1; have z2 := hid br9.c2; have z3 := hid br9.c3; have z4 := hid br9.c4; have z5 := hid br9.c5
      have y0 := hid bg9.c0; have y1 := hid bg9.c1; have y2 := hid bg9.c2
      have hP9' := hid hP9; have hg9' := hid hg9; have hf9' := hid hf9
      clear bl9 br9 bg9 hP9 hg9 hf9
      simp only [RD.v, RL.none, List.length_nil] at *
      go_wp2_with fail
      refine bodyPost_ret (v := .tuple #[.agg #[.int .i64 room3, .int .i64 steps3, .slice fa3 lx3.length fc3, .bool armed3, .bool dead3, .int .i64 left3], .agg #[.string ⟨#[]⟩, .slice none 0 0, .int .i64 0], .int .i64 e2]) (by simp [results, Tryz.results20, go_sem, z0.out, z1.out, z2.out, z3.out, z4.out, z5.out, y0.out, y1.out, y2.out]) rfl ?_
      rw [hce.out]
      exact ⟨_, RL.none, rfl, hP9'.out, hg9'.out, hf9'.out, fun h => absurd h he3, fun _ => rfl⟩
  · rw [hx2] at hLk
    have hcr := hid (create_no hLk.out)
    have HR2 := hid (HR.out.keep k2)
    clear b0 b1 b2 b3 b4 b5 bf0 bf1 bf2 bf3 bf4 bf5 r0 r1 r2 r3 r4 r5 g0 g1 g2 g3 g4 g5 l0 l1 l2 lf0 lf1 lf2
    have b0 := HR2.out.bx.c0; have b1 := HR2.out.bx.c1; have b2 := HR2.out.bx.c2; have b3 := HR2.out.bx.c3; have b4 := HR2.out.bx.c4; have b5 := HR2.out.bx.c5
    have bf0 := HR2.out.bx.free 0; have bf1 := HR2.out.bx.free 1; have bf2 := HR2.out.bx.free 2; have bf3 := HR2.out.bx.free 3; have bf4 := HR2.out.bx.free 4; have bf5 := HR2.out.bx.free 5
    have r0 := HR2.out.br.c0; have r1 := HR2.out.br.c1; have r2 := HR2.out.br.c2; have r3 := HR2.out.br.c3; have r4 := HR2.out.br.c4; have r5 := HR2.out.br.c5
    have g0 := HR2.out.br.free 0; have g1 := HR2.out.br.free 1; have g2 := HR2.out.br.free 2; have g3 := HR2.out.br.free 3; have g4 := HR2.out.br.free 4; have g5 := HR2.out.br.free 5
    have l0 := HR2.out.bl.c0; have l1 := HR2.out.bl.c1; have l2 := HR2.out.bl.c2
    have lf0 := HR2.out.bl.free 0; have lf1 := HR2.out.bl.free 1; have lf2 := HR2.out.bl.free 2
    have hO2 := hO'
    clear aT HR hx2 hLk k2
    have ok3 := hO2.out.rd HR2.out.like (by omega)
    have hs3 := hO2.out.st
    have hA3 := hid (cRefAppend _ d w2 HR2.out.ok HR2.out.like hO2.out.ok (by have := ok3.1; simp only at this ⊢; omega) (by omega) nmZ nmZ_len none 0 [] (.inl rfl) (by have := hO2.out.file; simp; omega))
    have hO3 := hid (hO2.out.app [])
    obtain ⟨⟨d3, e3⟩, hd3⟩ : ∃ x, Hid (appendD d nmZ [] = x) := ⟨_, hid rfl⟩
    rw [hd3.out] at hA3 hO3
    simp only [RD.v, List.length_nil, Nat.add_zero] at hA3 hO3
    go_wp2_with fail
    refine hA3.out.mono ?_
    rintro e w3 ⟨v3, rfl, hP3⟩
    clear b0 b1 b2 b3 b4 b5 bf0 bf1 bf2 bf3 bf4 bf5 r0 r1 r2 r3 r4 r5 g0 g1 g2 g3 g4 g5 l0 l1 l2 lf0 lf1 lf2
    obtain ⟨rr3, ev3, W3, hW3, hR3, hb3, kn30⟩ := HR2.out.next hP3
    have kn3 := hid kn30
    subst ev3
    have HR3 := hid hR3
    have c0 := hb3.c0; have c1 := hb3.c1; have c2 := hb3.c2; have c3 := hb3.c3; have c4 := hb3.c4; have c5 := hb3.c5
    have cf0 := hb3.free 0; have cf1 := hb3.free 1; have cf2 := hb3.free 2; have cf3 := hb3.free 3; have cf4 := hb3.free 4; have cf5 := hb3.free 5
    have b0 := HR3.out.bx.c0; have b1 := HR3.out.bx.c1; have b2 := HR3.out.bx.c2; have b3 := HR3.out.bx.c3; have b4 := HR3.out.bx.c4; have b5 := HR3.out.bx.c5
    have bf0 := HR3.out.bx.free 0; have bf1 := HR3.out.bx.free 1; have bf2 := HR3.out.bx.free 2; have bf3 := HR3.out.bx.free 3; have bf4 := HR3.out.bx.free 4; have bf5 := HR3.out.bx.free 5
    have r0 := HR3.out.br.c0; have r1 := HR3.out.br.c1; have r2 := HR3.out.br.c2; have r3 := HR3.out.br.c3; have r4 := HR3.out.br.c4; have r5 := HR3.out.br.c5
    have g0 := HR3.out.br.free 0; have g1 := HR3.out.br.free 1; have g2 := HR3.out.br.free 2; have g3 := HR3.out.br.free 3; have g4 := HR3.out.br.free 4; have g5 := HR3.out.br.free 5
    have l0 := HR3.out.bl.c0; have l1 := HR3.out.bl.c1; have l2 := HR3.out.bl.c2
    have lf0 := HR3.out.bl.free 0; have lf1 := HR3.out.bl.free 1; have lf2 := HR3.out.bl.free 2
    obtain ⟨room3, steps3, fa3, fc3, lx3, armed3, dead3, left3⟩ := rr3
    simp only [RD.v] at *
    clear hR3 hb3 hP3 kn30
    clear hA3
    by_cases he3 : e3 = 0
    · have hw3 : Hid (createD d nmZ = doD d3 1 nmZ [] 0) := by
        show _ = _
        rw [hcr.out]
        unfold writeD
        rw [hd3.out, if_neg (by simp [he3])]
      subst he3
      have ok4 := hO3.out.rd HR3.out.like (by omega)
      have hs4 := hO3.out.st
      have hA4 := hid (cRefDo _ d3 W3 HR3.out.ok HR3.out.like hO3.out.ok (by have := ok4.1; simp only at this ⊢; omega) (by omega) 1 (.inl rfl) nmZ [] nmZ_len (by simp) 0 ok4.2)
      obtain ⟨⟨d4, e4⟩, hd4⟩ : ∃ x, Hid (doD d3 1 nmZ [] 0 = x) := ⟨_, hid rfl⟩
      rw [hd4.out] at hA4 hw3
      have hce : Hid (createD d nmZ = (d4, e4)) := hw3
      simp only [RD.v] at hA4
      clear hd3 hcr hw3
      go_wp2_with fail
      refine hA4.out.mono ?_
      rintro e w4 ⟨v4, rfl, hP4⟩
      clear b0 b1 b2 b3 b4 b5 bf0 bf1 bf2 bf3 bf4 bf5 r0 r1 r2 r3 r4 r5 g0 g1 g2 g3 g4 g5 l0 l1 l2 lf0 lf1 lf2
      clear c0 c1 c2 c3 c4 c5 cf0 cf1 cf2 cf3 cf4 cf5
      clear hW3
      obtain ⟨rr4, ev4, W4, hW4, hR4, hb4, kn40⟩ := HR3.out.next hP4
      have kn4 := hid kn40
      subst ev4
      have HR4 := hid hR4
      have c0 := hb4.c0; have c1 := hb4.c1; have c2 := hb4.c2; have c3 := hb4.c3; have c4 := hb4.c4; have c5 := hb4.c5
      have cf0 := hb4.free 0; have cf1 := hb4.free 1; have cf2 := hb4.free 2; have cf3 := hb4.free 3; have cf4 := hb4.free 4; have cf5 := hb4.free 5
      have b0 := HR4.out.bx.c0; have b1 := HR4.out.bx.c1; have b2 := HR4.out.bx.c2; have b3 := HR4.out.bx.c3; have b4 := HR4.out.bx.c4; have b5 := HR4.out.bx.c5
      have bf0 := HR4.out.bx.free 0; have bf1 := HR4.out.bx.free 1; have bf2 := HR4.out.bx.free 2; have bf3 := HR4.out.bx.free 3; have bf4 := HR4.out.bx.free 4; have bf5 := HR4.out.bx.free 5
      have r0 := HR4.out.br.c0; have r1 := HR4.out.br.c1; have r2 := HR4.out.br.c2; have r3 := HR4.out.br.c3; have r4 := HR4.out.br.c4; have r5 := HR4.out.br.c5
      have g0 := HR4.out.br.free 0; have g1 := HR4.out.br.free 1; have g2 := HR4.out.br.free 2; have g3 := HR4.out.br.free 3; have g4 := HR4.out.br.free 4; have g5 := HR4.out.br.free 5
      have l0 := HR4.out.bl.c0; have l1 := HR4.out.bl.c1; have l2 := HR4.out.bl.c2
      have lf0 := HR4.out.bl.free 0; have lf1 := HR4.out.bl.free 1; have lf2 := HR4.out.bl.free 2
      obtain ⟨room4, steps4, fa4, fc4, lx4, armed4, dead4, left4⟩ := rr4
      simp only [RD.v] at *
      clear hR4 hb4 hP4 kn40
      clear hA4 hd4
      by_cases he4 : e4 = 0
      · subst he4
        obtain ⟨X1, X2, hX1, hX2, bl9, br9, bg9, hP9, hg9, hf9⟩ := HR4.out.ret ⟨nmZ, none, 0, [], 0⟩ ⟨.inl rfl, by simp⟩ (by simp [RL.foot])
        have q0 := bl9.c0; have q1 := bl9.c1; have q2 := bl9.c2
        have qf0 := bl9.free 0; have qf1 := bl9.free 1; have qf2 := bl9.free 2
        have z0 := hid br9.c0; have z1 := hid br9.c1; have z2 := hid br9.c2; have z3 := hid br9.c3; have z4 := hid br9.c4; have z5 := hid br9.c5
        have y0 := hid bg9.c0; have y1 := hid bg9.c1; have y2 := hid bg9.c2
        have hP9' := hid hP9; have hg9' := hid hg9; have hf9' := hid hf9
        clear bl9 br9 bg9 hP9 hg9 hf9
        simp only [RD.v, RL.none, List.length_nil] at *
        go_wp2_with fail
        refine bodyPost_ret (v := .tuple #[.agg #[.int .i64 room4, .int .i64 steps4, .slice fa4 lx4.length fc4, .bool armed4, .bool dead4, .int .i64 left4], .agg #[.string ⟨nmZ.toArray⟩, .slice none 0 0, .int .i64 0], .int .i64 0]) (by simp [results, Tryz.results20, go_sem, z0.out, z1.out, z2.out, z3.out, z4.out, z5.out, y0.out, y1.out, y2.out]) rfl ?_
        rw [hce.out]
        exact ⟨_, ⟨nmZ, none, 0, [], 0⟩, rfl, hP9'.out, hg9'.out, hf9'.out, fun _ => ⟨rfl, by simp [bsl], rfl⟩, fun h => absurd rfl h⟩
      · have hx : True := trivial
        have t4a : (e4 == 0) = false := by simpa using he4
        have t4b : (e4 != 0) = true := by simpa using he4
        obtain ⟨X1, X2, hX1, hX2, bl9, br9, bg9, hP9, hg9, hf9⟩ := HR4.out.ret RL.none (RlOk.none _) (by simp [RL.none, RL.foot])
        have q0 := bl9.c0; have q1 := bl9.c1; have q2 := bl9.c2
        have qf0 := bl9.free 0; have qf1 := bl9.free 1; have qf2 := bl9.free 2
        have z0 := hid br9.c0; have z1 := hid br9.c1; have z2 := hid br9.c2; have z3 := hid br9.c3; have z4 := hid br9.c4; have z5 := hid br9.c5
        have y0 := hid bg9.c0; have y1 := hid bg9.c1; have y2 := hid bg9.c2
        have hP9' := hid hP9; have hg9' := hid hg9; have hf9' := hid hf9
        clear bl9 br9 bg9 hP9 hg9 hf9
        simp only [RD.v, RL.none, List.length_nil] at *
        go_wp2_with fail
        refine bodyPost_ret (v := .tuple #[.agg #[.int .i64 room4, .int .i64 steps4, .slice fa4 lx4.length fc4, .bool armed4, .bool dead4, .int .i64 left4], .agg #[.string ⟨#[]⟩, .slice none 0 0, .int .i64 0], .int .i64 e4]) (by simp [results, Tryz.results20, go_sem, z0.out, z1.out, z2.out, z3.out, z4.out, z5.out, y0.out, y1.out, y2.out]) rfl ?_
        rw [hce.out]
        exact ⟨_, RL.none, rfl, hP9'.out, hg9'.out, hf9'.out, fun h => absurd h he4, fun _ => rfl⟩
    · have hce : Hid (createD d nmZ = (d3, e3)) := by
        show _ = _
        rw [hcr.out]
        unfold writeD
        rw [hd3.out, if_pos (by simpa using he3)]
      clear hd3 hcr
      have t3a : (e3 == 0) = false := by simpa using he3
      have t3b : (e3 != 0) = true := by simpa using he3
      obtain ⟨X1, X2, hX1, hX2, bl9, br9, bg9, hP9, hg9, hf9⟩ := HR3.out.ret RL.none (RlOk.none _) (by simp [RL.none, RL.foot])
      have q0 := bl9.c0; have q1 := bl9.c1; have q2 := bl9.c2
      have qf0 := bl9.free 0; have qf1 := bl9.free 1; have qf2 := bl9.free 2
      have z0 := hid br9.c0; have z1 := hid br9.c1; have z2 := hid br9.c2; have z3 := hid br9.c3; have z4 := hid br9.c4; have z5 := hid br9.c5
      have y0 := hid bg9.c0; have y1 := hid bg9.c1; have y2 := hid bg9.c2
      have hP9' := hid hP9; have hg9' := hid hg9; have hf9' := hid hf9
      clear bl9 br9 bg9 hP9 hg9 hf9
      simp only [RD.v, RL.none, List.length_nil] at *
      go_wp2_with fail
      refine bodyPost_ret (v := .tuple #[.agg #[.int .i64 room3, .int .i64 steps3, .slice fa3 lx3.length fc3, .bool armed3, .bool dead3, .int .i64 left3], .agg #[.string ⟨#[]⟩, .slice none 0 0, .int .i64 0], .int .i64 e3]) (by simp [results, Tryz.results20, go_sem, z0.out, z1.out, z2.out, z3.out, z4.out, z5.out, y0.out, y1.out, y2.out]) rfl ?_
      rw [hce.out]
      exact ⟨_, RL.none, rfl, hP9'.out, hg9'.out, hf9'.out, fun h => absurd h he3, fun _ => rfl⟩
end Go.Proofs.YtpkoikennimonaaGreatDoor
end

section
namespace Go.Proofs.YtpkoikennimonaaGreatDoor
open Go.RowKit Go.Hay
set_option linter.unusedVariables false
set_option linter.unusedSimpArgs false


/-- What Open answers where there is a file whose records are read. -/
theorem open_yes {d : Dk} {f : Fl} (hd : d.dead = false) (h : lookG Fl.name nmZ d.files = some f) {L : List (List UInt8)} {N : Nat} (hq : rdQ f.bytes = (L, N, 0)) :
    openD rdQ d nmZ = if N < f.bytes.length then (if (doD d 2 nmZ [] N).2 ≠ 0 then doD d 2 nmZ [] N else doD (doD d 2 nmZ [] N).1 1 nmZ [] 0) else doD d 1 nmZ [] 0 := by
  unfold openD
  rw [hd, h, if_neg (by simp)]
  simp only [hq]
  simp
theorem open_bad {d : Dk} {f : Fl} (hd : d.dead = false) (h : lookG Fl.name nmZ d.files = some f) {L : List (List UInt8)} {N : Nat} {z : Int} (hq : rdQ f.bytes = (L, N, z)) (hz : z ≠ 0) : openD rdQ d nmZ = (d, z) := by
  unfold openD
  rw [hd, h, if_neg (by simp)]
  simp only [hq]
  rw [if_pos hz]
theorem open_none {d : Dk} (hd : d.dead = false) (h : lookG Fl.name nmZ d.files = none) : openD rdQ d nmZ = (d, 42) := by
  unfold openD
  rw [hd, h, if_neg (by simp)]
theorem open_dead {d : Dk} (hd : d.dead = true) : openD rdQ d nmZ = (d, 44) := by
  unfold openD
  rw [hd, if_pos rfl]
/-- The records that were read, as the log's, are apart from the boxes. -/
theorem rlRead {w w3 W : World} {T : List Nat} {v : Value} {L : List (List UInt8)} (h : RowP (fun k => w3.heap.size ≤ k) W v L) (hz : w.heap.size + 3 ≤ w3.heap.size) (sz : Int) : ∃ ga gc gl, v = .slice ga (gl : List Bs).length gc ∧ bsl gl = L ∧ RlOk W ⟨nmZ, ga, gc, gl, sz⟩ ∧ ∀ k ∈ (⟨nmZ, ga, gc, gl, sz⟩ : RL).foot, w3.heap.size ≤ k := by
  have hfr := h.from
  obtain ⟨ga, gc, gl, rfl, hs, ho, hb⟩ := h.bs
  refine ⟨ga, gc, gl, rfl, hb, ⟨hs, fun y hy => (ho y hy).1⟩, fun k hk => ?_⟩
  simp only [RL.foot, List.mem_append, List.mem_flatMap] at hk
  rcases hk with hk | ⟨y, hy, hk⟩
  · split at hk
    · cases hk
    · exact hfr k (by rw [ownQ]; exact hk)
  · split at hk
    · cases hk
    · exact (ho y hy).2 k hk
set_option maxHeartbeats 16000000 in
set_option maxRecDepth 100000 in
theorem rOpen (r : RD) (d : Dk) (w : World) (hr : RdOk w r) (hL : Like r d) {K s : Nat} (hO : One K s d) (hK : K ≤ 4000000000000) (hs : s ≤ 7000000000000000000) :
    Calls Tryz.prog 18 #[r.v, .string ⟨nmZ.toArray⟩] w (RefL r.foot (openD rdQ d nmZ) nmZ (rdQ (fileOf d.files nmZ).bytes).1 ((rdQ (fileOf d.files nmZ).bytes).2.1 : Int) w) := by
  obtain ⟨w1, hw1, k1, bx, br, bl, hz1⟩ := boxRL r w
  have hR := RBx.start r d w hr hL k1 bx br bl hz1
  obtain ⟨hl, hB⟩ := hO.rd hL (by omega)
  have aT := hid (cAt r nmZ w1 hR.ok (by omega))
  have HR := hid hR
  have hO' := hid hO
  have hLk := hid (hL.look nmZ)
  have hdd := hL.dead
  obtain ⟨T, hT⟩ : ∃ T, Hid (r.foot = T) := ⟨_, hid rfl⟩
  rw [hT.out]
  rw [hT.out] at HR
  clear hr hL hO bx br bl k1 hR hT
  have b0 := HR.out.bx.c0; have b1 := HR.out.bx.c1; have b2 := HR.out.bx.c2; have b3 := HR.out.bx.c3; have b4 := HR.out.bx.c4; have b5 := HR.out.bx.c5
  have bf0 := HR.out.bx.free 0; have bf1 := HR.out.bx.free 1; have bf2 := HR.out.bx.free 2; have bf3 := HR.out.bx.free 3; have bf4 := HR.out.bx.free 4; have bf5 := HR.out.bx.free 5
  have r0 := HR.out.br.c0; have r1 := HR.out.br.c1; have r2 := HR.out.br.c2; have r3 := HR.out.br.c3; have r4 := HR.out.br.c4; have r5 := HR.out.br.c5
  have g0 := HR.out.br.free 0; have g1 := HR.out.br.free 1; have g2 := HR.out.br.free 2; have g3 := HR.out.br.free 3; have g4 := HR.out.br.free 4; have g5 := HR.out.br.free 5
  have l0 := HR.out.bl.c0; have l1 := HR.out.bl.c1; have l2 := HR.out.bl.c2
  have lf0 := HR.out.bl.free 0; have lf1 := HR.out.bl.free 1; have lf2 := HR.out.bl.free 2
  have hst := hO'.out.st
  obtain ⟨room0, steps0, fa0, fc0, lx0, armed0, dead0, left0⟩ := r
  simp only [RD.v] at *
  cases dead0 with
  | true =>
    have hce := hid (open_dead hdd.symm)
    have HR0 := HR
    clear aT hdd HR
    go_enter Tryz.func18, Tryz.ntmps18
    obtain ⟨X1, X2, hX1, hX2, bl9, br9, bg9, hP9, hg9, hf9⟩ := HR0.out.ret RL.none (RlOk.none _) (by simp [RL.none, RL.foot])
    have q0 := bl9.c0; have q1 := bl9.c1; have q2 := bl9.c2
    have qf0 := bl9.free 0; have qf1 := bl9.free 1; have qf2 := bl9.free 2
    have z0 := hid br9.c0; have z1 := hid br9.c1; have z2 := hid br9.c2; have z3 := hid br9.c3; have z4 := hid br9.c4; have z5 := hid br9.c5
    have y0 := hid bg9.c0; have y1 := hid bg9.c1; have y2 := hid bg9.c2
    have hP9' := hid hP9; have hg9' := hid hg9; have hf9' := hid hf9
    clear bl9 br9 bg9 hP9 hg9 hf9
    simp only [RD.v, RL.none, List.length_nil] at *
    go_wp2_with fail
    refine bodyPost_ret (v := .tuple #[.agg #[.int .i64 room0, .int .i64 steps0, .slice fa0 lx0.length fc0, .bool armed0, .bool true, .int .i64 left0], .agg #[.string ⟨#[]⟩, .slice none 0 0, .int .i64 0], .int .i64 44]) (by simp [results, Tryz.results18, go_sem, z0.out, z1.out, z2.out, z3.out, z4.out, z5.out, y0.out, y1.out, y2.out]) rfl ?_
    rw [hce.out]
    exact ⟨_, RL.none, rfl, hP9'.out, hg9'.out, hf9'.out, fun h => absurd h (by simp), fun _ => rfl⟩
  | false =>
    have hdf : Hid (d.dead = false) := hdd.symm
    clear hdd
    go_enter Tryz.func18, Tryz.ntmps18
    go_wp2_with fail
    refine aT.out.mono ?_
    rintro e w2 ⟨k2, (⟨jx, xx, rfl, hx1, hx2⟩ | ⟨rfl, hx2⟩)⟩
    · rw [hx2] at hLk
      have HR2 := hid (HR.out.keep k2)
      obtain ⟨g, o, ea, _, cB, _⟩ := HR2.out.ok.fls.at hx1
      have hsee := HR2.out.ok.see xx (List.mem_of_getElem? hx1)
      have hjl : jx < lx0.length := (List.getElem?_eq_some_iff.1 hx1).1
      simp only at ea
      subst ea
      clear b0 b1 b2 b3 b4 b5 bf0 bf1 bf2 bf3 bf4 bf5 r0 r1 r2 r3 r4 r5 g0 g1 g2 g3 g4 g5 l0 l1 l2 lf0 lf1 lf2
      have b0 := HR2.out.bx.c0; have b1 := HR2.out.bx.c1; have b2 := HR2.out.bx.c2; have b3 := HR2.out.bx.c3; have b4 := HR2.out.bx.c4; have b5 := HR2.out.bx.c5
      have bf0 := HR2.out.bx.free 0; have bf1 := HR2.out.bx.free 1; have bf2 := HR2.out.bx.free 2; have bf3 := HR2.out.bx.free 3; have bf4 := HR2.out.bx.free 4; have bf5 := HR2.out.bx.free 5
      have r0 := HR2.out.br.c0; have r1 := HR2.out.br.c1; have r2 := HR2.out.br.c2; have r3 := HR2.out.br.c3; have r4 := HR2.out.br.c4; have r5 := HR2.out.br.c5
      have g0 := HR2.out.br.free 0; have g1 := HR2.out.br.free 1; have g2 := HR2.out.br.free 2; have g3 := HR2.out.br.free 3; have g4 := HR2.out.br.free 4; have g5 := HR2.out.br.free 5
      have l0 := HR2.out.bl.c0; have l1 := HR2.out.bl.c1; have l2 := HR2.out.bl.c2
      have lf0 := HR2.out.bl.free 0; have lf1 := HR2.out.bl.free 1; have lf2 := HR2.out.bl.free 2
      have dj1 : decide ((jx : Int) < 0) = false := by simp
      have dj2 : (jx : Int) < (lx0.length : Int) := by omega
      have dj3 : (0 : Int) ≤ (jx : Int) := by omega
      have hbcm : xx.bc ≤ maxLen := hsee.2.2.2
      have hLk' : lookG Fl.name nmZ d.files = some xx.fl := by rw [hLk.out]; rfl
      have hfo : fileOf d.files nmZ = xx.fl := by unfold fileOf; rw [hLk']; rfl
      have hfl := hO'.out.file
      rw [hfo] at hfl
      have hfl' : xx.bytes.length ≤ K := hfl
      have aR := hid (cRefReadQ xx.ba xx.bc xx.bytes w2 hsee.1 hsee.2.2.1 hbcm (by omega))
      have HLK := hid (And.intro hLk' hfo)
      obtain ⟨⟨LL, N, z⟩, hq⟩ : ∃ x, Hid (rdQ xx.bytes = x) := ⟨_, hid rfl⟩
      rw [hq.out] at aR
      have hNb : Hid (z = 0 → N ≤ xx.bytes.length) := fun h => by have := (rdQ_len xx.bytes).1; rw [hq.out] at this; exact this
      clear aT HR hx1 k2 hsee hLk hLk' hfo hfl hx2
      go_wp2_with fail
      refine aR.out.mono ?_
      rintro e w3 ⟨v3, rfl, hrow, k3⟩
      dsimp only at hrow ⊢
      have hsz2 := HR2.out.sz
      obtain ⟨ga, gc, gl, ev, hb4, hg4, hf4⟩ := rlRead (w := w) (T := T) hrow hsz2 (N : Int)
      subst ev
      have hlg := hid (And.intro hg4 hf4)
      have HR3 := hid (HR2.out.keep k3)
      have hLL : Hid (bsl gl = (rdQ (fileOf d.files nmZ).bytes).1 ∧ (N : Int) = ((rdQ (fileOf d.files nmZ).bytes).2.1 : Int)) := by
        rw [HLK.out.2]
        show bsl gl = (rdQ xx.bytes).1 ∧ (N : Int) = ((rdQ xx.bytes).2.1 : Int)
        rw [hq.out]
        exact ⟨hb4, rfl⟩
      clear b0 b1 b2 b3 b4 b5 bf0 bf1 bf2 bf3 bf4 bf5 r0 r1 r2 r3 r4 r5 g0 g1 g2 g3 g4 g5 l0 l1 l2 lf0 lf1 lf2
      have b0 := HR3.out.bx.c0; have b1 := HR3.out.bx.c1; have b2 := HR3.out.bx.c2; have b3 := HR3.out.bx.c3; have b4 := HR3.out.bx.c4; have b5 := HR3.out.bx.c5
      have bf0 := HR3.out.bx.free 0; have bf1 := HR3.out.bx.free 1; have bf2 := HR3.out.bx.free 2; have bf3 := HR3.out.bx.free 3; have bf4 := HR3.out.bx.free 4; have bf5 := HR3.out.bx.free 5
      have r0 := HR3.out.br.c0; have r1 := HR3.out.br.c1; have r2 := HR3.out.br.c2; have r3 := HR3.out.br.c3; have r4 := HR3.out.br.c4; have r5 := HR3.out.br.c5
      have g0 := HR3.out.br.free 0; have g1 := HR3.out.br.free 1; have g2 := HR3.out.br.free 2; have g3 := HR3.out.br.free 3; have g4 := HR3.out.br.free 4; have g5 := HR3.out.br.free 5
      have l0 := HR3.out.bl.c0; have l1 := HR3.out.bl.c1; have l2 := HR3.out.bl.c2
      have lf0 := HR3.out.bl.free 0; have lf1 := HR3.out.bl.free 1; have lf2 := HR3.out.bl.free 2
      have hO3 := hO'
      clear aR hrow k3 hb4 hg4 hf4 HR2 cB
      by_cases hz : z = 0
      · subst hz
        have hop := hid (open_yes hdf.out HLK.out.1 hq.out)
        have hNl := hNb.out rfl
        by_cases hN : N < xx.bytes.length
        · have dn : decide ((N : Int) < (xx.bytes.length : Int)) = true := by simp; omega
          have dn2 : decide (N < xx.bytes.length) = true := by simpa using hN
          have hop2 : Hid (openD rdQ d nmZ = if (doD d 2 nmZ [] N).2 ≠ 0 then doD d 2 nmZ [] N else doD (doD d 2 nmZ [] N).1 1 nmZ [] 0) := by show _ = _; rw [hop.out]; exact if_pos hN
          clear hop
          have ok4 := hO3.out.rd HR3.out.like (by omega)
          have hs4 := hO3.out.st
          have hA4 := hid (cRefDo _ d w3 HR3.out.ok HR3.out.like hO3.out.ok (by have := ok4.1; simp only at this ⊢; omega) (by omega) 2 (.inr (.inl rfl)) nmZ [] nmZ_len (by simp) (N : Int) ok4.2)
          have hO4 := hid (hO3.out.do 2 (.inr (.inl rfl)) (N : Int))
          obtain ⟨⟨d4, e4⟩, hd4⟩ : ∃ x, Hid (doD d 2 nmZ [] (N : Int) = x) := ⟨_, hid rfl⟩
          rw [hd4.out] at hA4 hO4
          simp only [RD.v] at hA4 hO4
          rw [hd4.out] at hop2
          clear hd4
          go_wp2_with fail
          refine hA4.out.mono ?_
          rintro e w4 ⟨v4, rfl, hP4⟩
          clear b0 b1 b2 b3 b4 b5 bf0 bf1 bf2 bf3 bf4 bf5 r0 r1 r2 r3 r4 r5 g0 g1 g2 g3 g4 g5 l0 l1 l2 lf0 lf1 lf2
          obtain ⟨rr4, ev4, W4, hW4, hR4, hb4, kn40⟩ := HR3.out.next hP4
          have kn4 := hid kn40
          subst ev4
          have HR4 := hid hR4
          have c0 := hb4.c0; have c1 := hb4.c1; have c2 := hb4.c2; have c3 := hb4.c3; have c4 := hb4.c4; have c5 := hb4.c5
          have cf0 := hb4.free 0; have cf1 := hb4.free 1; have cf2 := hb4.free 2; have cf3 := hb4.free 3; have cf4 := hb4.free 4; have cf5 := hb4.free 5
          have b0 := HR4.out.bx.c0; have b1 := HR4.out.bx.c1; have b2 := HR4.out.bx.c2; have b3 := HR4.out.bx.c3; have b4 := HR4.out.bx.c4; have b5 := HR4.out.bx.c5
          have bf0 := HR4.out.bx.free 0; have bf1 := HR4.out.bx.free 1; have bf2 := HR4.out.bx.free 2; have bf3 := HR4.out.bx.free 3; have bf4 := HR4.out.bx.free 4; have bf5 := HR4.out.bx.free 5
          have r0 := HR4.out.br.c0; have r1 := HR4.out.br.c1; have r2 := HR4.out.br.c2; have r3 := HR4.out.br.c3; have r4 := HR4.out.br.c4; have r5 := HR4.out.br.c5
          have g0 := HR4.out.br.free 0; have g1 := HR4.out.br.free 1; have g2 := HR4.out.br.free 2; have g3 := HR4.out.br.free 3; have g4 := HR4.out.br.free 4; have g5 := HR4.out.br.free 5
          have l0 := HR4.out.bl.c0; have l1 := HR4.out.bl.c1; have l2 := HR4.out.bl.c2
          have lf0 := HR4.out.bl.free 0; have lf1 := HR4.out.bl.free 1; have lf2 := HR4.out.bl.free 2
          obtain ⟨room4, steps4, fa4, fc4, lx4, armed4, dead4, left4⟩ := rr4
          simp only [RD.v] at *
          clear hR4 hb4 hP4 kn40
          clear hA4
          by_cases he4 : e4 = 0
          · have hop3 : Hid (openD rdQ d nmZ = doD d4 1 nmZ [] 0) := by show _ = _; rw [hop2.out, if_neg (by simp [he4])]
            subst he4
            clear hop2
            have ok5 := hO4.out.rd HR4.out.like (by omega)
            have hs5 := hO4.out.st
            have hA5 := hid (cRefDo _ d4 W4 HR4.out.ok HR4.out.like hO4.out.ok (by have := ok5.1; simp only at this ⊢; omega) (by omega) 1 (.inl rfl) nmZ [] nmZ_len (by simp) 0 ok5.2)
            have hO5 := hid (hO4.out.do 1 (.inl rfl) 0)
            obtain ⟨⟨d5, e5⟩, hd5⟩ : ∃ x, Hid (doD d4 1 nmZ [] 0 = x) := ⟨_, hid rfl⟩
            rw [hd5.out] at hA5 hO5
            simp only [RD.v] at hA5 hO5
            rw [hd5.out] at hop3
            have hce : Hid (openD rdQ d nmZ = (d5, e5)) := hop3
            clear hd5
            go_wp2_with fail
            refine hA5.out.mono ?_
            rintro e w5 ⟨v5, rfl, hP5⟩
            clear b0 b1 b2 b3 b4 b5 bf0 bf1 bf2 bf3 bf4 bf5 r0 r1 r2 r3 r4 r5 g0 g1 g2 g3 g4 g5 l0 l1 l2 lf0 lf1 lf2
            clear c0 c1 c2 c3 c4 c5 cf0 cf1 cf2 cf3 cf4 cf5
            clear hW4
            obtain ⟨rr5, ev5, W5, hW5, hR5, hb5, kn50⟩ := HR4.out.next hP5
            have kn5 := hid kn50
            subst ev5
            have HR5 := hid hR5
            have c0 := hb5.c0; have c1 := hb5.c1; have c2 := hb5.c2; have c3 := hb5.c3; have c4 := hb5.c4; have c5 := hb5.c5
            have cf0 := hb5.free 0; have cf1 := hb5.free 1; have cf2 := hb5.free 2; have cf3 := hb5.free 3; have cf4 := hb5.free 4; have cf5 := hb5.free 5
            have b0 := HR5.out.bx.c0; have b1 := HR5.out.bx.c1; have b2 := HR5.out.bx.c2; have b3 := HR5.out.bx.c3; have b4 := HR5.out.bx.c4; have b5 := HR5.out.bx.c5
            have bf0 := HR5.out.bx.free 0; have bf1 := HR5.out.bx.free 1; have bf2 := HR5.out.bx.free 2; have bf3 := HR5.out.bx.free 3; have bf4 := HR5.out.bx.free 4; have bf5 := HR5.out.bx.free 5
            have r0 := HR5.out.br.c0; have r1 := HR5.out.br.c1; have r2 := HR5.out.br.c2; have r3 := HR5.out.br.c3; have r4 := HR5.out.br.c4; have r5 := HR5.out.br.c5
            have g0 := HR5.out.br.free 0; have g1 := HR5.out.br.free 1; have g2 := HR5.out.br.free 2; have g3 := HR5.out.br.free 3; have g4 := HR5.out.br.free 4; have g5 := HR5.out.br.free 5
            have l0 := HR5.out.bl.c0; have l1 := HR5.out.bl.c1; have l2 := HR5.out.bl.c2
            have lf0 := HR5.out.bl.free 0; have lf1 := HR5.out.bl.free 1; have lf2 := HR5.out.bl.free 2
            obtain ⟨room5, steps5, fa5, fc5, lx5, armed5, dead5, left5⟩ := rr5
            simp only [RD.v] at *
            clear hR5 hb5 hP5 kn50
            clear hA5
            by_cases he5 : e5 = 0
            · subst he5
              obtain ⟨X1, X2, hX1, hX2, bl9, br9, bg9, hP9, hg9, hf9⟩ := HR5.out.ret ⟨nmZ, ga, gc, gl, (N : Int)⟩ ((hlg.out.1.kept kn4.out (fun k hk hm => by have := hlg.out.2 k hk; simp at hm; omega)).kept kn5.out (fun k hk hm => by have := hlg.out.2 k hk; simp at hm; omega)) (fun k hk => ⟨.inr (by have := hlg.out.2 k hk; omega), by have := hlg.out.2 k hk; omega, by have := hlg.out.2 k hk; omega⟩)
              have q0 := bl9.c0; have q1 := bl9.c1; have q2 := bl9.c2
              have qf0 := bl9.free 0; have qf1 := bl9.free 1; have qf2 := bl9.free 2
              have z0 := hid br9.c0; have z1 := hid br9.c1; have z2 := hid br9.c2; have z3 := hid br9.c3; have z4 := hid br9.c4; have z5 := hid br9.c5
              have y0 := hid bg9.c0; have y1 := hid bg9.c1; have y2 := hid bg9.c2
              have hP9' := hid hP9; have hg9' := hid hg9; have hf9' := hid hf9
              clear bl9 br9 bg9 hP9 hg9 hf9
              simp only [RD.v, RL.none, List.length_nil] at *
              go_wp2_with fail
              refine bodyPost_ret (v := .tuple #[.agg #[.int .i64 room5, .int .i64 steps5, .slice fa5 lx5.length fc5, .bool armed5, .bool dead5, .int .i64 left5], .agg #[.string ⟨nmZ.toArray⟩, .slice ga gl.length gc, .int .i64 (N : Int)], .int .i64 0]) (by simp [results, Tryz.results18, go_sem, z0.out, z1.out, z2.out, z3.out, z4.out, z5.out, y0.out, y1.out, y2.out]) rfl ?_
              rw [hce.out]
              exact ⟨_, ⟨nmZ, ga, gc, gl, (N : Int)⟩, rfl, hP9'.out, hg9'.out, hf9'.out, fun _ => ⟨rfl, hLL.out.1, hLL.out.2⟩, fun h => absurd rfl h⟩
            · have hx : True := trivial
              have t5a : (e5 == 0) = false := by simpa using he5
              have t5b : (e5 != 0) = true := by simpa using he5
              obtain ⟨X1, X2, hX1, hX2, bl9, br9, bg9, hP9, hg9, hf9⟩ := HR5.out.ret RL.none (RlOk.none _) (by simp [RL.none, RL.foot])
              have q0 := bl9.c0; have q1 := bl9.c1; have q2 := bl9.c2
              have qf0 := bl9.free 0; have qf1 := bl9.free 1; have qf2 := bl9.free 2
              have z0 := hid br9.c0; have z1 := hid br9.c1; have z2 := hid br9.c2; have z3 := hid br9.c3; have z4 := hid br9.c4; have z5 := hid br9.c5
              have y0 := hid bg9.c0; have y1 := hid bg9.c1; have y2 := hid bg9.c2
              have hP9' := hid hP9; have hg9' := hid hg9; have hf9' := hid hf9
              clear bl9 br9 bg9 hP9 hg9 hf9
              simp only [RD.v, RL.none, List.length_nil] at *
              go_wp2_with fail
              refine bodyPost_ret (v := .tuple #[.agg #[.int .i64 room5, .int .i64 steps5, .slice fa5 lx5.length fc5, .bool armed5, .bool dead5, .int .i64 left5], .agg #[.string ⟨#[]⟩, .slice none 0 0, .int .i64 0], .int .i64 e5]) (by simp [results, Tryz.results18, go_sem, z0.out, z1.out, z2.out, z3.out, z4.out, z5.out, y0.out, y1.out, y2.out]) rfl ?_
              rw [hce.out]
              exact ⟨_, RL.none, rfl, hP9'.out, hg9'.out, hf9'.out, fun h => absurd h he5, fun _ => rfl⟩
          · have hce : Hid (openD rdQ d nmZ = (d4, e4)) := by show _ = _; rw [hop2.out, if_pos (by simpa using he4)]
            clear hop2
            have t4a : (e4 == 0) = false := by simpa using he4
            have t4b : (e4 != 0) = true := by simpa using he4
            obtain ⟨X1, X2, hX1, hX2, bl9, br9, bg9, hP9, hg9, hf9⟩ := HR4.out.ret RL.none (RlOk.none _) (by simp [RL.none, RL.foot])
            have q0 := bl9.c0; have q1 := bl9.c1; have q2 := bl9.c2
            have qf0 := bl9.free 0; have qf1 := bl9.free 1; have qf2 := bl9.free 2
            have z0 := hid br9.c0; have z1 := hid br9.c1; have z2 := hid br9.c2; have z3 := hid br9.c3; have z4 := hid br9.c4; have z5 := hid br9.c5
            have y0 := hid bg9.c0; have y1 := hid bg9.c1; have y2 := hid bg9.c2
            have hP9' := hid hP9; have hg9' := hid hg9; have hf9' := hid hf9
            clear bl9 br9 bg9 hP9 hg9 hf9
            simp only [RD.v, RL.none, List.length_nil] at *
            go_wp2_with fail
            refine bodyPost_ret (v := .tuple #[.agg #[.int .i64 room4, .int .i64 steps4, .slice fa4 lx4.length fc4, .bool armed4, .bool dead4, .int .i64 left4], .agg #[.string ⟨#[]⟩, .slice none 0 0, .int .i64 0], .int .i64 e4]) (by simp [results, Tryz.results18, go_sem, z0.out, z1.out, z2.out, z3.out, z4.out, z5.out, y0.out, y1.out, y2.out]) rfl ?_
            rw [hce.out]
            exact ⟨_, RL.none, rfl, hP9'.out, hg9'.out, hf9'.out, fun h => absurd h he4, fun _ => rfl⟩
        · have dn : decide ((N : Int) < (xx.bytes.length : Int)) = false := by simp; omega
          have dn2 : decide (N < xx.bytes.length) = false := by simpa using hN
          have hop3 : Hid (openD rdQ d nmZ = doD d 1 nmZ [] 0) := by show _ = _; rw [hop.out]; exact if_neg hN
          clear hop
          have ok4 := hO3.out.rd HR3.out.like (by omega)
          have hs4 := hO3.out.st
          have hA4 := hid (cRefDo _ d w3 HR3.out.ok HR3.out.like hO3.out.ok (by have := ok4.1; simp only at this ⊢; omega) (by omega) 1 (.inl rfl) nmZ [] nmZ_len (by simp) 0 ok4.2)
          have hO4 := hid (hO3.out.do 1 (.inl rfl) 0)
          obtain ⟨⟨d4, e4⟩, hd4⟩ : ∃ x, Hid (doD d 1 nmZ [] 0 = x) := ⟨_, hid rfl⟩
          rw [hd4.out] at hA4 hO4
          simp only [RD.v] at hA4 hO4
          rw [hd4.out] at hop3
          have hce : Hid (openD rdQ d nmZ = (d4, e4)) := hop3
          clear hd4
          go_wp2_with fail
          refine hA4.out.mono ?_
          rintro e w4 ⟨v4, rfl, hP4⟩
          clear b0 b1 b2 b3 b4 b5 bf0 bf1 bf2 bf3 bf4 bf5 r0 r1 r2 r3 r4 r5 g0 g1 g2 g3 g4 g5 l0 l1 l2 lf0 lf1 lf2
          obtain ⟨rr4, ev4, W4, hW4, hR4, hb4, kn40⟩ := HR3.out.next hP4
          have kn4 := hid kn40
          subst ev4
          have HR4 := hid hR4
          have c0 := hb4.c0; have c1 := hb4.c1; have c2 := hb4.c2; have c3 := hb4.c3; have c4 := hb4.c4; have c5 := hb4.c5
          have cf0 := hb4.free 0; have cf1 := hb4.free 1; have cf2 := hb4.free 2; have cf3 := hb4.free 3; have cf4 := hb4.free 4; have cf5 := hb4.free 5
          have b0 := HR4.out.bx.c0; have b1 := HR4.out.bx.c1; have b2 := HR4.out.bx.c2; have b3 := HR4.out.bx.c3; have b4 := HR4.out.bx.c4; have b5 := HR4.out.bx.c5
          have bf0 := HR4.out.bx.free 0; have bf1 := HR4.out.bx.free 1; have bf2 := HR4.out.bx.free 2; have bf3 := HR4.out.bx.free 3; have bf4 := HR4.out.bx.free 4; have bf5 := HR4.out.bx.free 5
          have r0 := HR4.out.br.c0; have r1 := HR4.out.br.c1; have r2 := HR4.out.br.c2; have r3 := HR4.out.br.c3; have r4 := HR4.out.br.c4; have r5 := HR4.out.br.c5
          have g0 := HR4.out.br.free 0; have g1 := HR4.out.br.free 1; have g2 := HR4.out.br.free 2; have g3 := HR4.out.br.free 3; have g4 := HR4.out.br.free 4; have g5 := HR4.out.br.free 5
          have l0 := HR4.out.bl.c0; have l1 := HR4.out.bl.c1; have l2 := HR4.out.bl.c2
          have lf0 := HR4.out.bl.free 0; have lf1 := HR4.out.bl.free 1; have lf2 := HR4.out.bl.free 2
          obtain ⟨room4, steps4, fa4, fc4, lx4, armed4, dead4, left4⟩ := rr4
          simp only [RD.v] at *
          clear hR4 hb4 hP4 kn40
          clear hA4
          by_cases he4 : e4 = 0
          · subst he4
            obtain ⟨X1, X2, hX1, hX2, bl9, br9, bg9, hP9, hg9, hf9⟩ := HR4.out.ret ⟨nmZ, ga, gc, gl, (N : Int)⟩ (hlg.out.1.kept kn4.out (fun k hk hm => by have := hlg.out.2 k hk; simp at hm; omega)) (fun k hk => ⟨.inr (by have := hlg.out.2 k hk; omega), by have := hlg.out.2 k hk; omega, by have := hlg.out.2 k hk; omega⟩)
            have q0 := bl9.c0; have q1 := bl9.c1; have q2 := bl9.c2
            have qf0 := bl9.free 0; have qf1 := bl9.free 1; have qf2 := bl9.free 2
            have z0 := hid br9.c0; have z1 := hid br9.c1; have z2 := hid br9.c2; have z3 := hid br9.c3; have z4 := hid br9.c4; have z5 := hid br9.c5
            have y0 := hid bg9.c0; have y1 := hid bg9.c1; have y2 := hid bg9.c2
            have hP9' := hid hP9; have hg9' := hid hg9; have hf9' := hid hf9
            clear bl9 br9 bg9 hP9 hg9 hf9
            simp only [RD.v, RL.none, List.length_nil] at *
            go_wp2_with fail
            refine bodyPost_ret (v := .tuple #[.agg #[.int .i64 room4, .int .i64 steps4, .slice fa4 lx4.length fc4, .bool armed4, .bool dead4, .int .i64 left4], .agg #[.string ⟨nmZ.toArray⟩, .slice ga gl.length gc, .int .i64 (N : Int)], .int .i64 0]) (by simp [results, Tryz.results18, go_sem, z0.out, z1.out, z2.out, z3.out, z4.out, z5.out, y0.out, y1.out, y2.out]) rfl ?_
            rw [hce.out]
            exact ⟨_, ⟨nmZ, ga, gc, gl, (N : Int)⟩, rfl, hP9'.out, hg9'.out, hf9'.out, fun _ => ⟨rfl, hLL.out.1, hLL.out.2⟩, fun h => absurd rfl h⟩
          · have hx : True := trivial
            have t4a : (e4 == 0) = false := by simpa using he4
            have t4b : (e4 != 0) = true := by simpa using he4
            obtain ⟨X1, X2, hX1, hX2, bl9, br9, bg9, hP9, hg9, hf9⟩ := HR4.out.ret RL.none (RlOk.none _) (by simp [RL.none, RL.foot])
            have q0 := bl9.c0; have q1 := bl9.c1; have q2 := bl9.c2
            have qf0 := bl9.free 0; have qf1 := bl9.free 1; have qf2 := bl9.free 2
            have z0 := hid br9.c0; have z1 := hid br9.c1; have z2 := hid br9.c2; have z3 := hid br9.c3; have z4 := hid br9.c4; have z5 := hid br9.c5
            have y0 := hid bg9.c0; have y1 := hid bg9.c1; have y2 := hid bg9.c2
            have hP9' := hid hP9; have hg9' := hid hg9; have hf9' := hid hf9
            clear bl9 br9 bg9 hP9 hg9 hf9
            simp only [RD.v, RL.none, List.length_nil] at *
            go_wp2_with fail
            refine bodyPost_ret (v := .tuple #[.agg #[.int .i64 room4, .int .i64 steps4, .slice fa4 lx4.length fc4, .bool armed4, .bool dead4, .int .i64 left4], .agg #[.string ⟨#[]⟩, .slice none 0 0, .int .i64 0], .int .i64 e4]) (by simp [results, Tryz.results18, go_sem, z0.out, z1.out, z2.out, z3.out, z4.out, z5.out, y0.out, y1.out, y2.out]) rfl ?_
            rw [hce.out]
            exact ⟨_, RL.none, rfl, hP9'.out, hg9'.out, hf9'.out, fun h => absurd h he4, fun _ => rfl⟩
      · have hce := hid (open_bad hdf.out HLK.out.1 hq.out hz)
        have HR0 := HR3
        have tza : (z == 0) = false := by simpa using hz
        have tzb : (z != 0) = true := by simpa using hz
        clear hNb
        obtain ⟨X1, X2, hX1, hX2, bl9, br9, bg9, hP9, hg9, hf9⟩ := HR0.out.ret RL.none (RlOk.none _) (by simp [RL.none, RL.foot])
        have q0 := bl9.c0; have q1 := bl9.c1; have q2 := bl9.c2
        have qf0 := bl9.free 0; have qf1 := bl9.free 1; have qf2 := bl9.free 2
        have z0 := hid br9.c0; have z1 := hid br9.c1; have z2 := hid br9.c2; have z3 := hid br9.c3; have z4 := hid br9.c4; have z5 := hid br9.c5
        have y0 := hid bg9.c0; have y1 := hid bg9.c1; have y2 := hid bg9.c2
        have hP9' := hid hP9; have hg9' := hid hg9; have hf9' := hid hf9
        clear bl9 br9 bg9 hP9 hg9 hf9
        simp only [RD.v, RL.none, List.length_nil] at *
        go_wp2_with fail
        refine bodyPost_ret (v := .tuple #[.agg #[.int .i64 room0, .int .i64 steps0, .slice (some ⟨g, o, none⟩) lx0.length fc0, .bool armed0, .bool false, .int .i64 left0], .agg #[.string ⟨#[]⟩, .slice none 0 0, .int .i64 0], .int .i64 z]) (by simp [results, Tryz.results18, go_sem, z0.out, z1.out, z2.out, z3.out, z4.out, z5.out, y0.out, y1.out, y2.out]) rfl ?_
        rw [hce.out]
        exact ⟨_, RL.none, rfl, hP9'.out, hg9'.out, hf9'.out, fun h => absurd h hz, fun _ => rfl⟩

    · rw [hx2] at hLk
      have hce := hid (open_none hdf.out hLk.out)
      have HR0 := hid (HR.out.keep k2)
      clear b0 b1 b2 b3 b4 b5 bf0 bf1 bf2 bf3 bf4 bf5 r0 r1 r2 r3 r4 r5 g0 g1 g2 g3 g4 g5 l0 l1 l2 lf0 lf1 lf2
      have b0 := HR0.out.bx.c0; have b1 := HR0.out.bx.c1; have b2 := HR0.out.bx.c2; have b3 := HR0.out.bx.c3; have b4 := HR0.out.bx.c4; have b5 := HR0.out.bx.c5
      have bf0 := HR0.out.bx.free 0; have bf1 := HR0.out.bx.free 1; have bf2 := HR0.out.bx.free 2; have bf3 := HR0.out.bx.free 3; have bf4 := HR0.out.bx.free 4; have bf5 := HR0.out.bx.free 5
      have r0 := HR0.out.br.c0; have r1 := HR0.out.br.c1; have r2 := HR0.out.br.c2; have r3 := HR0.out.br.c3; have r4 := HR0.out.br.c4; have r5 := HR0.out.br.c5
      have g0 := HR0.out.br.free 0; have g1 := HR0.out.br.free 1; have g2 := HR0.out.br.free 2; have g3 := HR0.out.br.free 3; have g4 := HR0.out.br.free 4; have g5 := HR0.out.br.free 5
      have l0 := HR0.out.bl.c0; have l1 := HR0.out.bl.c1; have l2 := HR0.out.bl.c2
      have lf0 := HR0.out.bl.free 0; have lf1 := HR0.out.bl.free 1; have lf2 := HR0.out.bl.free 2
      clear aT HR hx2 hLk k2
      obtain ⟨X1, X2, hX1, hX2, bl9, br9, bg9, hP9, hg9, hf9⟩ := HR0.out.ret RL.none (RlOk.none _) (by simp [RL.none, RL.foot])
      have q0 := bl9.c0; have q1 := bl9.c1; have q2 := bl9.c2
      have qf0 := bl9.free 0; have qf1 := bl9.free 1; have qf2 := bl9.free 2
      have z0 := hid br9.c0; have z1 := hid br9.c1; have z2 := hid br9.c2; have z3 := hid br9.c3; have z4 := hid br9.c4; have z5 := hid br9.c5
      have y0 := hid bg9.c0; have y1 := hid bg9.c1; have y2 := hid bg9.c2
      have hP9' := hid hP9; have hg9' := hid hg9; have hf9' := hid hf9
      clear bl9 br9 bg9 hP9 hg9 hf9
      simp only [RD.v, RL.none, List.length_nil] at *
      go_wp2_with fail
      refine bodyPost_ret (v := .tuple #[.agg #[.int .i64 room0, .int .i64 steps0, .slice fa0 lx0.length fc0, .bool armed0, .bool false, .int .i64 left0], .agg #[.string ⟨#[]⟩, .slice none 0 0, .int .i64 0], .int .i64 42]) (by simp [results, Tryz.results18, go_sem, z0.out, z1.out, z2.out, z3.out, z4.out, z5.out, y0.out, y1.out, y2.out]) rfl ?_
      rw [hce.out]
      exact ⟨_, RL.none, rfl, hP9'.out, hg9'.out, hf9'.out, fun h => absurd h (by simp), fun _ => rfl⟩
end Go.Proofs.YtpkoikennimonaaGreatDoor
end

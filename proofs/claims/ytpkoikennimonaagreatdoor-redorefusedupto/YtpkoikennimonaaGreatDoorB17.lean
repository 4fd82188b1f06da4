/- The reference's Append: its boxes. The reference's Append. -/
import Derived.Test.YtpkoikennimonaaGreatDoorB16
import Derived.Deep.RegionHeld3
section
namespace Go.Proofs.YtpkoikennimonaaGreatDoor
open Go.RowKit Go.Hay
set_option linter.unusedVariables false
set_option linter.unusedSimpArgs false

/-- A disk and a log in their boxes; the results' boxes. -/
structure RBy (w W : World) (d : Dk) (T : List Nat) (r : RD) (g : RL) : Prop where
  bx : B6 W w.heap.size (.int .i64 r.room) (.int .i64 r.steps) (.slice r.fa r.l.length r.fc) (.bool r.armed) (.bool r.dead) (.int .i64 r.left)
  bg : B3 W (w.heap.size + 1) (.string ⟨g.nm.toArray⟩) (.slice g.a g.l.length g.c) (.int .i64 g.sz)
  br : B6 W (w.heap.size + 1 + 1) (.int .i64 0) (.int .i64 0) (.slice none 0 0) (.bool false) (.bool false) (.int .i64 0)
  bl : B3 W (w.heap.size + 1 + 1 + 1) (.string ⟨#[]⟩) (.slice none 0 0) (.int .i64 0)
  ok : RdOk W r
  like : Like r d
  kp : Kp [] w W
  gk : RlOk W g
  ft : ∀ k ∈ r.foot, (k ∈ T ∨ w.heap.size ≤ k) ∧ (k < w.heap.size ∨ w.heap.size + 4 ≤ k)
  gf : ∀ k ∈ g.foot, k < w.heap.size
  sz : w.heap.size + 4 ≤ W.heap.size
theorem RlOk.lt {w : World} {g : RL} (h : RlOk w g) : ∀ k ∈ g.foot, k < w.heap.size := fun k hk => by
  simp only [RL.foot, List.mem_append, List.mem_flatMap] at hk
  rcases hk with hk | ⟨y, hy, hk⟩
  · split at hk
    · cases hk
    · rename_i hne
      exact h.see.lt hne k hk
  · split at hk
    · cases hk
    · rename_i hne
      exact (h.ok y hy).see.lt hne k hk
theorem RBy.start (r : RD) (g : RL) (d : Dk) (w : World) (hr : RdOk w r) (hL : Like r d) (hg : RlOk w g) : ∃ w1, (((w.alloc (.cells #[.int .i64 r.room, .int .i64 r.steps, .slice r.fa r.l.length r.fc, .bool r.armed, .bool r.dead, .int .i64 r.left] 27)).alloc (.cells #[.string ⟨g.nm.toArray⟩, .slice g.a g.l.length g.c, .int .i64 g.sz] 32)).alloc (.cells #[.int .i64 0, .int .i64 0, .slice none 0 0, .bool false, .bool false, .int .i64 0] 27)).alloc (.cells #[.string ⟨#[]⟩, .slice none 0 0, .int .i64 0] 32) = w1 ∧ RBy w w1 d r.foot r g := by
  have b0 := B6.at (w := w) _ rfl (.int .i64 r.room) (.int .i64 r.steps) (.slice r.fa r.l.length r.fc) (.bool r.armed) (.bool r.dead) (.int .i64 r.left) 27
  obtain ⟨wa, ea⟩ : ∃ y, w.alloc (.cells #[.int .i64 r.room, .int .i64 r.steps, .slice r.fa r.l.length r.fc, .bool r.armed, .bool r.dead, .int .i64 r.left] 27) = y := ⟨_, rfl⟩
  rw [ea] at b0 ⊢
  have za : wa.heap.size = w.heap.size + 1 := by rw [← ea]; simp
  have ka : Kp [] w wa := by rw [← ea]; exact (Kp.refl _ _).alloc _
  have b1 := B3.at (w := wa) _ za (.string ⟨g.nm.toArray⟩) (.slice g.a g.l.length g.c) (.int .i64 g.sz) 32
  obtain ⟨wb, eb⟩ : ∃ y, wa.alloc (.cells #[.string ⟨g.nm.toArray⟩, .slice g.a g.l.length g.c, .int .i64 g.sz] 32) = y := ⟨_, rfl⟩
  rw [eb] at b1 ⊢
  have zb : wb.heap.size = w.heap.size + 1 + 1 := by rw [← eb]; simp [za]
  have kb : Kp [] wa wb := by rw [← eb]; exact (Kp.refl _ _).alloc _
  have b2 := B6.at (w := wb) _ zb (.int .i64 0) (.int .i64 0) (.slice none 0 0) (.bool false) (.bool false) (.int .i64 0) 27
  obtain ⟨wc, ec⟩ : ∃ y, wb.alloc (.cells #[.int .i64 0, .int .i64 0, .slice none 0 0, .bool false, .bool false, .int .i64 0] 27) = y := ⟨_, rfl⟩
  rw [ec] at b2 ⊢
  have zc : wc.heap.size = w.heap.size + 1 + 1 + 1 := by rw [← ec]; simp [zb]
  have kc : Kp [] wb wc := by rw [← ec]; exact (Kp.refl _ _).alloc _
  have b3 := B3.at (w := wc) _ zc (.string ⟨#[]⟩) (.slice none 0 0) (.int .i64 0) 32
  obtain ⟨wd, ed⟩ : ∃ y, wc.alloc (.cells #[.string ⟨#[]⟩, .slice none 0 0, .int .i64 0] 32) = y := ⟨_, rfl⟩
  rw [ed] at b3 ⊢
  have zd : wd.heap.size = w.heap.size + 1 + 1 + 1 + 1 := by rw [← ed]; simp [zc]
  have kd : Kp [] wc wd := by rw [← ed]; exact (Kp.refl _ _).alloc _
  have kcd := kc.trans kd (by simp)
  have kbd := kb.trans kcd (by simp)
  have kad := ka.trans kbd (by simp)
  exact ⟨wd, rfl, b0.kept kbd, b1.keptS kcd (by simp), b2.kept kd, b3, hr.keptNew kad, hL, kad, hg.kept kad (by simp), fun k hk => ⟨.inl hk, .inl (hr.lt k hk)⟩, hg.lt, by omega⟩
theorem RBy.keep {w W W' : World} {d : Dk} {T : List Nat} {r : RD} {g : RL} (h : RBy w W d T r g) (k : Kp [] W W') : RBy w W' d T r g :=
  ⟨h.bx.kept k, h.bg.keptS k (by simp), h.br.kept k, h.bl.keptS k (by simp), h.ok.keptNew k, h.like, h.kp.trans k (by simp), h.gk.kept k (by simp), h.ft, h.gf, by have := h.sz; have := k.size; omega⟩
theorem RBy.next {w W W2 : World} {d : Dk} {T : List Nat} {r : RD} {g : RL} (h : RBy w W d T r g) {d' : Dk} {v : Value} (hP : RefP r.foot d' W v W2) :
    ∃ r' : RD, v = r'.v ∧ ∃ W3, (((((W2.setCell ⟨w.heap.size, 0, none⟩ (.int .i64 r'.room)).setCell ⟨w.heap.size, 1, none⟩ (.int .i64 r'.steps)).setCell ⟨w.heap.size, 2, none⟩ (.slice r'.fa r'.l.length r'.fc)).setCell ⟨w.heap.size, 3, none⟩ (.bool r'.armed)).setCell ⟨w.heap.size, 4, none⟩ (.bool r'.dead)).setCell ⟨w.heap.size, 5, none⟩ (.int .i64 r'.left) = W3 ∧ RBy w W3 d' T r' g ∧ B6 W2 w.heap.size (.int .i64 r.room) (.int .i64 r.steps) (.slice r.fa r.l.length r.fc) (.bool r.armed) (.bool r.dead) (.int .i64 r.left) ∧ Kp [w.heap.size] W W3 := by
  obtain ⟨r', rfl, hr', hL', k2, hf'⟩ := hP
  have b2 := h.bx.kept k2
  obtain ⟨W3, e3, b3, k3⟩ := set6_ex b2 (.int .i64 r'.room) (.int .i64 r'.steps) (.slice r'.fa r'.l.length r'.fc) (.bool r'.armed) (.bool r'.dead) (.int .i64 r'.left)
  have hz := k2.size
  have hsz := h.sz
  have hft : ∀ k ∈ r'.foot, (k ∈ T ∨ w.heap.size ≤ k) ∧ (k < w.heap.size ∨ w.heap.size + 4 ≤ k) := fun k hk => by
    rcases hf' k hk with e | e
    · exact h.ft k e
    · exact ⟨.inr (by omega), .inr (by omega)⟩
  refine ⟨r', rfl, W3, e3, ⟨b3, (h.bg.keptS k2 (by simp)).keptS k3 (by simp), (h.br.kept k2).keptS k3 (by simp; omega), (h.bl.keptS k2 (by simp)).keptS k3 (by simp; omega), hr'.kept k3 (fun k hk hm => by have := (hft k hk).2; simp at hm; omega), hL', (h.kp.trans k2 (by simp)).trans k3 (fun x hx => .inr (by simp at hx; omega)), (h.gk.kept k2 (by simp)).kept k3 (fun k hk hm => by have := h.gf k hk; simp at hm; omega), hft, h.gf, by have := k3.size; omega⟩, b2, (k2.mono (by simp)).trans k3 (fun x hx => .inl hx)⟩
/-- Where the results lie. -/
structure RBz (w W : World) (d : Dk) (T : List Nat) (r : RD) (g' : RL) : Prop where
  br : B6 W (w.heap.size + 1 + 1) (.int .i64 r.room) (.int .i64 r.steps) (.slice r.fa r.l.length r.fc) (.bool r.armed) (.bool r.dead) (.int .i64 r.left)
  bl : B3 W (w.heap.size + 1 + 1 + 1) (.string ⟨g'.nm.toArray⟩) (.slice g'.a g'.l.length g'.c) (.int .i64 g'.sz)
  p : RefP T d w r.v W
  k : RlOk W g'
/-- The results are laid, in either order. -/
theorem RBy.ret {w W : World} {d : Dk} {T : List Nat} {r : RD} {g : RL} (h : RBy w W d T r g) (g' : RL) (hg : RlOk W g') (hgf : ∀ k ∈ g'.foot, k < w.heap.size ∨ w.heap.size + 4 ≤ k) :
    ∃ A B C, (((((W.setCell ⟨w.heap.size + 1 + 1, 0, none⟩ (.int .i64 r.room)).setCell ⟨w.heap.size + 1 + 1, 1, none⟩ (.int .i64 r.steps)).setCell ⟨w.heap.size + 1 + 1, 2, none⟩ (.slice r.fa r.l.length r.fc)).setCell ⟨w.heap.size + 1 + 1, 3, none⟩ (.bool r.armed)).setCell ⟨w.heap.size + 1 + 1, 4, none⟩ (.bool r.dead)).setCell ⟨w.heap.size + 1 + 1, 5, none⟩ (.int .i64 r.left) = A ∧
      ((A.setCell ⟨w.heap.size + 1 + 1 + 1, 0, none⟩ (.string ⟨g'.nm.toArray⟩)).setCell ⟨w.heap.size + 1 + 1 + 1, 1, none⟩ (.slice g'.a g'.l.length g'.c)).setCell ⟨w.heap.size + 1 + 1 + 1, 2, none⟩ (.int .i64 g'.sz) = B ∧
      ((W.setCell ⟨w.heap.size + 1 + 1 + 1, 0, none⟩ (.string ⟨g'.nm.toArray⟩)).setCell ⟨w.heap.size + 1 + 1 + 1, 1, none⟩ (.slice g'.a g'.l.length g'.c)).setCell ⟨w.heap.size + 1 + 1 + 1, 2, none⟩ (.int .i64 g'.sz) = C ∧
      B3 A (w.heap.size + 1 + 1 + 1) (.string ⟨#[]⟩) (.slice none 0 0) (.int .i64 0) ∧ B6 C (w.heap.size + 1 + 1) (.int .i64 0) (.int .i64 0) (.slice none 0 0) (.bool false) (.bool false) (.int .i64 0) ∧
      RBz w B d T r g' ∧ Kp [w.heap.size + 1 + 1] W A ∧ Kp [w.heap.size + 1 + 1 + 1] W C ∧
      ∃ E, (((((C.setCell ⟨w.heap.size + 1 + 1, 0, none⟩ (.int .i64 r.room)).setCell ⟨w.heap.size + 1 + 1, 1, none⟩ (.int .i64 r.steps)).setCell ⟨w.heap.size + 1 + 1, 2, none⟩ (.slice r.fa r.l.length r.fc)).setCell ⟨w.heap.size + 1 + 1, 3, none⟩ (.bool r.armed)).setCell ⟨w.heap.size + 1 + 1, 4, none⟩ (.bool r.dead)).setCell ⟨w.heap.size + 1 + 1, 5, none⟩ (.int .i64 r.left) = E ∧ RBz w E d T r g' := by
  obtain ⟨A, eA, bA, kA⟩ := set6_ex h.br (.int .i64 r.room) (.int .i64 r.steps) (.slice r.fa r.l.length r.fc) (.bool r.armed) (.bool r.dead) (.int .i64 r.left)
  have blA := h.bl.keptS kA (by simp)
  obtain ⟨B, eB, bB, kB⟩ := set3_ex blA (.string ⟨g'.nm.toArray⟩) (.slice g'.a g'.l.length g'.c) (.int .i64 g'.sz)
  obtain ⟨C, eC, bC, kC⟩ := set3_ex h.bl (.string ⟨g'.nm.toArray⟩) (.slice g'.a g'.l.length g'.c) (.int .i64 g'.sz)
  have brC := h.br.keptS kC (by simp)
  obtain ⟨E, eE, bE, kE⟩ := set6_ex brC (.int .i64 r.room) (.int .i64 r.steps) (.slice r.fa r.l.length r.fc) (.bool r.armed) (.bool r.dead) (.int .i64 r.left)
  have kWB : Kp [w.heap.size + 1 + 1, w.heap.size + 1 + 1 + 1] W B := (kA.mono (fun x hx => .inl (by simp at hx; simp [hx]))).trans kB (fun x hx => .inl (by simp at hx; simp [hx]))
  have kWE : Kp [w.heap.size + 1 + 1, w.heap.size + 1 + 1 + 1] W E := (kC.mono (fun x hx => .inl (by simp at hx; simp [hx]))).trans kE (fun x hx => .inl (by simp at hx; simp [hx]))
  have key : ∀ X, Kp [w.heap.size + 1 + 1, w.heap.size + 1 + 1 + 1] W X → RefP T d w r.v X ∧ RlOk X g' := fun X kX =>
    ⟨⟨r, rfl, h.ok.kept kX (fun k hk hm => by have := (h.ft k hk).2; simp at hm; omega), h.like, h.kp.trans kX (fun x hx => .inr (by simp at hx; omega)), fun k hk => (h.ft k hk).1⟩, hg.kept kX (fun k hk hm => by have := hgf k hk; simp at hm; omega)⟩
  exact ⟨A, B, C, eA, eB, eC, blA, brC, ⟨bA.keptS kB (by simp), bB, (key B kWB).1, (key B kWB).2⟩, kA, kC, E, eE, bE, bC.keptS kE (by simp), (key E kWE).1, (key E kWE).2⟩
end Go.Proofs.YtpkoikennimonaaGreatDoor
end

section
namespace Go.Proofs.YtpkoikennimonaaGreatDoor
open Go.RowKit Go.Hay
set_option linter.unusedVariables false
set_option linter.unusedSimpArgs false

theorem cellS {S : List Nat} {A B : World} (k : Kp S A B) {a : Addr} {u : Value} (h : A.cell? a = some u) (hn : a.block ∉ S) : B.cell? a = some u := (k.cell (World.block_lt_of_cell? _ _ h) hn).trans h
theorem appBs {W : World} {a : Option Addr} {c : Nat} {l : List Bs} (h : BsE.Row W (.slice a l.length c) l) (a2 : Option Addr) (c2 : Nat) (ys : List Bs) (hs : BsE.See W a2 ys) (hl : l.length + ys.length ≤ 1000000000) :
    ∃ a' c' W', (Builtin.append_ #[30, 30] 30 #[.slice a l.length c, .slice a2 ys.length c2]).run Tryz.prog W = .ok (.slice a' (l ++ ys).length c') W' ∧ BsE.Row W' (.slice a' (l ++ ys).length c') (l ++ ys) ∧ Kp (own (.slice a l.length c)) W W' ∧ ∀ k ∈ own (.slice a' (l ++ ys).length c'), k ∈ own (.slice a l.length c) ∨ W.heap.size ≤ k := by
  obtain ⟨i0, hi, hz0, hz1, hz2⟩ := infoSl
  have hsrc := hs.src (P := Tryz.prog) Tryz.underlying30 c2
  obtain ⟨v6, X4, hrun2, hrow6, kk6, hn6⟩ := run_appendG (E := BsE) (P := Tryz.prog) _ 30 30 30 45 i0 _ 24 Tryz.underlying30 hi hz0 hz1 hz2 rfl (.slice a l.length c) l h _ ys hsrc (by omega) (by omega)
  obtain ⟨a6, c6, rfl, _⟩ := hrow6.see
  exact ⟨a6, c6, X4, hrun2, hrow6, kk6, hn6⟩
/-- The blocks of records' bytes. -/
def rft (R : List Bs) : List Nat := R.flatMap fun y => if y.bs = [] then [] else blk y.a
/-- What the reference's Append hands back. -/
def RefA (T : List Nat) (x : Dk × Int) (g : RL) (R : List Bs) (w : World) (e : Ending) (w' : World) : Prop :=
  ∃ (v : Value) (g' : RL), e = .returned (.tuple #[v, g'.v, .int .i64 x.2]) ∧ RefP T x.1 w v w' ∧ RlOk w' g' ∧ g'.nm = g.nm ∧ bsl g'.l = (if x.2 = 0 then bsl g.l ++ bsl R else bsl g.l) ∧ g'.sz = (if x.2 = 0 then g.sz + appS (bsl R) else g.sz) ∧ ∀ k ∈ g'.foot, k ∈ g.foot ∨ k ∈ rft R ∨ w.heap.size ≤ k
set_option maxHeartbeats 16000000 in
set_option maxRecDepth 100000 in
theorem rAppend0 (r : RD) (g : RL) (d : Dk) (w : World) (hr : RdOk w r) (hL : Like r d) (hg : RlOk w g) (a : Option Addr) (c : Nat) :
    Calls Tryz.prog 25 #[r.v, g.v, .slice a 0 c] w (RefA r.foot (appQ d nmZ []) g [] w) := by
  obtain ⟨w1, hw1, hR⟩ := RBy.start r g d w hr hL hg
  have HR0 := hid hR
  have hgf := hid (hg.lt)
  have hap : Hid (appQ d nmZ [] = (d, 0)) := rfl
  rw [hap.out]
  obtain ⟨T, hT⟩ : ∃ T, Hid (r.foot = T) := ⟨_, hid rfl⟩
  rw [hT.out]
  rw [hT.out] at HR0
  clear hr hL hR hg hT
  have b0 := HR0.out.bx.c0; have b1 := HR0.out.bx.c1; have b2 := HR0.out.bx.c2; have b3 := HR0.out.bx.c3; have b4 := HR0.out.bx.c4; have b5 := HR0.out.bx.c5
  have m0 := HR0.out.bg.c0; have m1 := HR0.out.bg.c1; have m2 := HR0.out.bg.c2
  obtain ⟨room0, steps0, fa0, fc0, lx0, armed0, dead0, left0⟩ := r
  obtain ⟨gn, ga, gc, gl, gs⟩ := g
  simp only [RD.v, RL.v] at *
  go_enter Tryz.func25, Tryz.ntmps25
  have hRd := HR0.out.keep ((Kp.refl [] w1).drew)
  have hS0 : (w1.drew.cell? ⟨w.heap.size, 0, none⟩ = some (.int .i64 room0) ∧ w1.drew.cell? ⟨w.heap.size, 1, none⟩ = some (.int .i64 steps0) ∧ w1.drew.cell? ⟨w.heap.size, 2, none⟩ = some (.slice fa0 lx0.length fc0) ∧ w1.drew.cell? ⟨w.heap.size, 3, none⟩ = some (.bool armed0) ∧ w1.drew.cell? ⟨w.heap.size, 4, none⟩ = some (.bool dead0) ∧ w1.drew.cell? ⟨w.heap.size, 5, none⟩ = some (.int .i64 left0)) ∧ w1.drew.cell? ⟨w.heap.size + 1, 0, none⟩ = some (.string ⟨gn.toArray⟩) ∧ w1.drew.cell? ⟨w.heap.size + 1, 1, none⟩ = some (.slice ga gl.length gc) ∧ w1.drew.cell? ⟨w.heap.size + 1, 2, none⟩ = some (.int .i64 gs) := ⟨⟨hRd.bx.c0, hRd.bx.c1, hRd.bx.c2, hRd.bx.c3, hRd.bx.c4, hRd.bx.c5⟩, hRd.bg.c0, hRd.bg.c1, hRd.bg.c2⟩
  obtain ⟨A, B, C, hA, hB, hC, blA, brC, hZB, kA, kC, E, hE, hZE⟩ := hRd.ret ⟨gn, ga, gc, gl, gs⟩ hRd.gk (fun k hk => .inl (hgf.out k hk))
  have hSA : Hid ((A.cell? ⟨w.heap.size, 0, none⟩ = some (.int .i64 room0) ∧ A.cell? ⟨w.heap.size, 1, none⟩ = some (.int .i64 steps0) ∧ A.cell? ⟨w.heap.size, 2, none⟩ = some (.slice fa0 lx0.length fc0) ∧ A.cell? ⟨w.heap.size, 3, none⟩ = some (.bool armed0) ∧ A.cell? ⟨w.heap.size, 4, none⟩ = some (.bool dead0) ∧ A.cell? ⟨w.heap.size, 5, none⟩ = some (.int .i64 left0)) ∧ A.cell? ⟨w.heap.size + 1, 0, none⟩ = some (.string ⟨gn.toArray⟩) ∧ A.cell? ⟨w.heap.size + 1, 1, none⟩ = some (.slice ga gl.length gc) ∧ A.cell? ⟨w.heap.size + 1, 2, none⟩ = some (.int .i64 gs)) := ⟨⟨(hRd.bx.keptS kA (by simp <;> omega)).c0, (hRd.bx.keptS kA (by simp <;> omega)).c1, (hRd.bx.keptS kA (by simp <;> omega)).c2, (hRd.bx.keptS kA (by simp <;> omega)).c3, (hRd.bx.keptS kA (by simp <;> omega)).c4, (hRd.bx.keptS kA (by simp <;> omega)).c5⟩, (hRd.bg.keptS kA (by simp)).c0, (hRd.bg.keptS kA (by simp)).c1, (hRd.bg.keptS kA (by simp)).c2⟩
  have hSB : Hid ((B.cell? ⟨w.heap.size, 0, none⟩ = some (.int .i64 room0) ∧ B.cell? ⟨w.heap.size, 1, none⟩ = some (.int .i64 steps0) ∧ B.cell? ⟨w.heap.size, 2, none⟩ = some (.slice fa0 lx0.length fc0) ∧ B.cell? ⟨w.heap.size, 3, none⟩ = some (.bool armed0) ∧ B.cell? ⟨w.heap.size, 4, none⟩ = some (.bool dead0) ∧ B.cell? ⟨w.heap.size, 5, none⟩ = some (.int .i64 left0)) ∧ B.cell? ⟨w.heap.size + 1, 0, none⟩ = some (.string ⟨gn.toArray⟩) ∧ B.cell? ⟨w.heap.size + 1, 1, none⟩ = some (.slice ga gl.length gc) ∧ B.cell? ⟨w.heap.size + 1, 2, none⟩ = some (.int .i64 gs)) := by
    have hk : Kp [w.heap.size + 1 + 1 + 1] A B := by rw [← hB]; exact (((Kp.refl _ _).setCell (by simp) _).setCell (by simp) _).setCell (by simp) _
    obtain ⟨⟨h0, h1, h2, h3, h4, h5⟩, h6, h7, h8⟩ := hSA.out
    exact ⟨⟨cellS hk h0 (by simp <;> omega), cellS hk h1 (by simp <;> omega), cellS hk h2 (by simp <;> omega), cellS hk h3 (by simp <;> omega), cellS hk h4 (by simp <;> omega), cellS hk h5 (by simp <;> omega)⟩, cellS hk h6 (by simp <;> omega), cellS hk h7 (by simp <;> omega), cellS hk h8 (by simp <;> omega)⟩
  have r0 := hRd.br.c0; have r1 := hRd.br.c1; have r2 := hRd.br.c2; have r3 := hRd.br.c3; have r4 := hRd.br.c4; have r5 := hRd.br.c5
  have g0 := hRd.br.free 0; have g1 := hRd.br.free 1; have g2 := hRd.br.free 2; have g3 := hRd.br.free 3; have g4 := hRd.br.free 4; have g5 := hRd.br.free 5
  have l0 := hRd.bl.c0; have l1 := hRd.bl.c1; have l2 := hRd.bl.c2
  have lf0 := hRd.bl.free 0; have lf1 := hRd.bl.free 1; have lf2 := hRd.bl.free 2
  have p0 := blA.c0; have p1 := blA.c1; have p2 := blA.c2
  have pf0 := blA.free 0; have pf1 := blA.free 1; have pf2 := blA.free 2
  have hZB' := hid hZB
  clear hZB hZE kA kC blA brC hRd hC hE
  simp only [RD.v, List.length_nil] at *
  clear b0 b1 b2 b3 b4 b5 m0 m1 m2
  go_wp2_with fail
  refine wp_region_held_drew (S := fun X => (X.cell? ⟨w.heap.size, 0, none⟩ = some (.int .i64 room0) ∧ X.cell? ⟨w.heap.size, 1, none⟩ = some (.int .i64 steps0) ∧ X.cell? ⟨w.heap.size, 2, none⟩ = some (.slice fa0 lx0.length fc0) ∧ X.cell? ⟨w.heap.size, 3, none⟩ = some (.bool armed0) ∧ X.cell? ⟨w.heap.size, 4, none⟩ = some (.bool dead0) ∧ X.cell? ⟨w.heap.size, 5, none⟩ = some (.int .i64 left0)) ∧ X.cell? ⟨w.heap.size + 1, 0, none⟩ = some (.string ⟨gn.toArray⟩) ∧ X.cell? ⟨w.heap.size + 1, 1, none⟩ = some (.slice ga gl.length gc) ∧ X.cell? ⟨w.heap.size + 1, 2, none⟩ = some (.int .i64 gs)) (by kernel_rfl) ?_ (fun hHeld => ?_)
  · exact hS0
  generalize w1.drew = wd at *
  refine wpAnyH_take (i := 0) (v := ?_) rfl (by kernel_rfl) (by kernel_rfl) (by kernel_rfl) (fun _ _ _ h => h) (Or.inl ⟨by rfl, ?_⟩) (by assumption) ?_
  rotate_left
  · intro w hSw; (try dsimp only at hSw); go_simp <;> with_reducible rfl
  try simp only [Act.put, List.getElem_toArray, List.getElem_cons_zero, List.getElem_cons_succ, List.setIfInBounds_toArray, List.set_cons_zero, List.set_cons_succ]
  refine wpAnyH_take (i := 1) (v := ?_) rfl (by kernel_rfl) (by kernel_rfl) (by kernel_rfl) (fun _ _ _ h => h) (Or.inl ⟨by rfl, ?_⟩) (by assumption) ?_
  rotate_left
  · intro w hSw; (try dsimp only at hSw); go_simp <;> with_reducible rfl
  try simp only [Act.put, List.getElem_toArray, List.getElem_cons_zero, List.getElem_cons_succ, List.setIfInBounds_toArray, List.set_cons_zero, List.set_cons_succ]
  refine wpAnyH_ready (rs := [2]) (by kernel_rfl) (by simp) ?_
  refine AllReadyH.cons rfl (fun K hK => ?_) AllReadyH.nil
  go_simp
  (try go_wp2_with fail)
  refine hK.out _ _ ?_ (fun hHeld => ?_)
  · exact hSA.out
  clear hK K
  try simp only [Act.put, List.getElem_toArray, List.getElem_cons_zero, List.getElem_cons_succ, List.setIfInBounds_toArray, List.set_cons_zero, List.set_cons_succ]
  refine wpAnyH_ready (rs := [3]) (by kernel_rfl) (by simp) ?_
  refine AllReadyH.cons rfl (fun K hK => ?_) AllReadyH.nil
  go_simp
  (try go_wp2_with fail)
  refine hK.out _ _ ?_ (fun hHeld => ?_)
  · exact hSB.out
  clear hK K
  try simp only [Act.put, List.getElem_toArray, List.getElem_cons_zero, List.getElem_cons_succ, List.setIfInBounds_toArray, List.set_cons_zero, List.set_cons_succ]
  refine wpAnyH_take (i := 4) (v := ?_) rfl (by kernel_rfl) (by kernel_rfl) (by kernel_rfl) (fun _ _ _ h => h) (Or.inl ⟨by rfl, ?_⟩) (by assumption) ?_
  rotate_left
  · intro w hSw; (try dsimp only at hSw); go_simp <;> with_reducible rfl
  try simp only [Act.put, List.getElem_toArray, List.getElem_cons_zero, List.getElem_cons_succ, List.setIfInBounds_toArray, List.set_cons_zero, List.set_cons_succ]
  refine wpAnyH_done (by kernel_rfl) ?_ _
  go_wp2_with fail
  have z0 := hZB'.out.br.c0; have z1 := hZB'.out.br.c1; have z2 := hZB'.out.br.c2; have z3 := hZB'.out.br.c3; have z4 := hZB'.out.br.c4; have z5 := hZB'.out.br.c5
  have y0 := hZB'.out.bl.c0; have y1 := hZB'.out.bl.c1; have y2 := hZB'.out.bl.c2
  refine bodyPost_ret (v := .tuple #[.agg #[.int .i64 room0, .int .i64 steps0, .slice fa0 lx0.length fc0, .bool armed0, .bool dead0, .int .i64 left0], .agg #[.string ⟨gn.toArray⟩, .slice ga gl.length gc, .int .i64 gs], .int .i64 0]) (by simp [results, Tryz.results25, go_sem, z0, z1, z2, z3, z4, z5, y0, y1, y2]) rfl ?_
  exact ⟨_, ⟨gn, ga, gc, gl, gs⟩, rfl, hZB'.out.p, hZB'.out.k, rfl, by simp [bsl], by simp [appS, bsl], fun k hk => .inl hk⟩
set_option maxHeartbeats 16000000 in
set_option maxRecDepth 100000 in
theorem rAppendN (r : RD) (g : RL) (d : Dk) (w : World) (hr : RdOk w r) (hL : Like r d) (hg : RlOk w g) {K s : Nat} (hO : One K s d) (hK : K ≤ 140737000000000) (hs : s ≤ 7000000000000000000) (hnm : g.nm = nmZ) (hgl : g.l.length ≤ 500000000) (hgs : 0 ≤ g.sz ∧ g.sz ≤ 8000000000000000000)
    (a : Option Addr) (c : Nat) (R : List Bs) (hR0 : R ≠ []) (hRs : BsE.See w a R) (hRo : ∀ y ∈ R, y.ok w) (hRl : R.length ≤ 400000000) (hRw : ∀ y ∈ R, y.bs.length ≤ 140737488351232) :
    Calls Tryz.prog 25 #[r.v, g.v, .slice a R.length c] w (RefA r.foot (appQ d nmZ (bsl R)) g R w) := by
  obtain ⟨w1, hw1, hR⟩ := RBy.start r g d w hr hL hg
  have hgf := hid (hg.lt)
  have hO' := hid hO
  have hRR : Hid (∀ W, Kp [] w W → BsE.See W a R ∧ ∀ y ∈ R, y.ok W) := fun W k => ⟨hRs.keptNew k, fun y hy => (hRo y hy).keptNew k⟩
  have hFr := hid (cRefFrames a c R w1 (hRR.out w1 hR.kp).1 (hRR.out w1 hR.kp).2 (by omega) hRw)
  have HR1 := hid hR
  have hne : bsl R ≠ [] := fun h => hR0 (List.length_eq_zero_iff.1 (by rw [← bsl_len, h]; rfl))
  have dR0 : ((R.length : Int) == 0) = false := by rw [beq_eq_false_iff_ne]; have : R.length ≠ 0 := fun h => hR0 (List.length_eq_zero_iff.1 h); omega
  have hRlt : Hid (∀ k ∈ rft R, k < w.heap.size) := fun k hk => by
    obtain ⟨y, hy, hk⟩ := List.mem_flatMap.1 hk
    split at hk
    · cases hk
    · rename_i hyn
      exact (hRo y hy).see.lt hyn k hk
  have hq1 : Hid ((frmR (bsl R)).2 ≠ 0 → appQ d nmZ (bsl R) = (d, (frmR (bsl R)).2)) := fun h => by unfold appQ; rw [if_neg hne, if_pos h]
  have hq2 : Hid ((frmR (bsl R)).2 = 0 → appQ d nmZ (bsl R) = writeD d nmZ (frmR (bsl R)).1) := fun h => by unfold appQ; rw [if_neg hne, if_neg (by simpa using h)]
  have hqs : Hid (appS (bsl R) = ((frmR (bsl R)).1.length : Int)) := by show _ = _; unfold appS; rw [if_neg hne]
  have hfll : Hid ((frmR (bsl R)).1.length ≤ 16777300) := by
    show _ ≤ _
    unfold frmR
    split
    · rw [frameB_length]; omega
    · simp
  obtain ⟨⟨f1, f2⟩, hfe⟩ : ∃ f, Hid (frmR (bsl R) = f) := ⟨_, hid rfl⟩
  rw [hfe.out] at hFr hq1 hq2 hqs hfll
  dsimp only at hq1 hq2 hqs hfll
  obtain ⟨T, hT⟩ : ∃ T, Hid (r.foot = T) := ⟨_, hid rfl⟩
  rw [hT.out]
  rw [hT.out] at HR1
  clear hr hL hR hg hT hO hRs hRo hfe hne hR0
  have b0 := HR1.out.bx.c0; have b1 := HR1.out.bx.c1; have b2 := HR1.out.bx.c2; have b3 := HR1.out.bx.c3; have b4 := HR1.out.bx.c4; have b5 := HR1.out.bx.c5
  have m0 := HR1.out.bg.c0; have m1 := HR1.out.bg.c1; have m2 := HR1.out.bg.c2
  obtain ⟨room0, steps0, fa0, fc0, lx0, armed0, dead0, left0⟩ := r
  obtain ⟨gn, ga, gc, gl, gs⟩ := g
  simp only [RD.v, RL.v] at *
  subst hnm
  go_enter Tryz.func25, Tryz.ntmps25
  go_wp2_with fail
  refine hFr.out.mono ?_
  rintro e w2 ⟨fb, fcap, rfl, hrf, k2, hnf⟩
  dsimp only at hrf ⊢
  obtain ⟨fb', fcap', efb, hsf, -⟩ := hrf.sees
  cases efb
  have HR0 := hid (HR1.out.keep k2)
  clear b0 b1 b2 b3 b4 b5 m0 m1 m2
  have b0 := HR0.out.bx.c0; have b1 := HR0.out.bx.c1; have b2 := HR0.out.bx.c2; have b3 := HR0.out.bx.c3; have b4 := HR0.out.bx.c4; have b5 := HR0.out.bx.c5
  have m0 := HR0.out.bg.c0; have m1 := HR0.out.bg.c1; have m2 := HR0.out.bg.c2
  have HS2 := hid hsf
  have hfl := hfll.out
  clear hFr hrf hnf HR1 hsf
  by_cases hf2 : f2 = 0
  · have hq := hid (hq2.out hf2)
    subst hf2
    have ok3 := hO'.out.rd HR0.out.like (by omega)
    have hs3 := hO'.out.st
    have hA3 := hid (cRefAppend _ d w2 HR0.out.ok HR0.out.like hO'.out.ok (by have := ok3.1; simp only at this ⊢; omega) (by omega) nmZ nmZ_len fb fcap f1 HS2.out (by have := hO'.out.file; omega))
    have hO3 := hid (hO'.out.app f1)
    obtain ⟨⟨d3, e3⟩, hd3⟩ : ∃ x, Hid (appendD d nmZ f1 = x) := ⟨_, hid rfl⟩
    rw [hd3.out] at hA3 hO3
    simp only [RD.v] at hA3 hO3
    clear hq1 hq2 k2
    go_wp2_with fail
    refine hA3.out.mono ?_
    rintro e w3 ⟨v3, rfl, hP3⟩
    clear b0 b1 b2 b3 b4 b5 m0 m1 m2
    obtain ⟨rr3, ev3, W3, hW3, hR3, hb3, kn30⟩ := HR0.out.next hP3
    have kn3 := hid kn30
    subst ev3
    have HR3 := hid hR3
    have c0 := hb3.c0; have c1 := hb3.c1; have c2 := hb3.c2; have c3 := hb3.c3; have c4 := hb3.c4; have c5 := hb3.c5
    have cf0 := hb3.free 0; have cf1 := hb3.free 1; have cf2 := hb3.free 2; have cf3 := hb3.free 3; have cf4 := hb3.free 4; have cf5 := hb3.free 5
    have b0 := HR3.out.bx.c0; have b1 := HR3.out.bx.c1; have b2 := HR3.out.bx.c2; have b3 := HR3.out.bx.c3; have b4 := HR3.out.bx.c4; have b5 := HR3.out.bx.c5
    have m0 := HR3.out.bg.c0; have m1 := HR3.out.bg.c1; have m2 := HR3.out.bg.c2
    obtain ⟨room3, steps3, fa3, fc3, lx3, armed3, dead3, left3⟩ := rr3
    simp only [RD.v] at *
    clear hR3 hb3 hP3 kn30
    clear hA3
    by_cases he3 : e3 = 0
    · have hq4 : Hid (appQ d nmZ (bsl R) = doD d3 1 nmZ [] 0) := by
        show _ = _
        rw [hq.out]
        unfold writeD
        rw [hd3.out, if_neg (by simp [he3])]
      subst he3
      have ok4 := hO3.out.rd HR3.out.like (by omega)
      have hs4 := hO3.out.st
      have hA4 := hid (cRefDo _ d3 W3 HR3.out.ok HR3.out.like hO3.out.ok (by have := ok4.1; simp only at this ⊢; omega) (by omega) 1 (.inl rfl) nmZ [] nmZ_len (by simp) 0 ok4.2)
      obtain ⟨⟨d4, e4⟩, hd4⟩ : ∃ x, Hid (doD d3 1 nmZ [] 0 = x) := ⟨_, hid rfl⟩
      rw [hd4.out] at hA4 hq4
      simp only [RD.v] at hA4
      clear hd3 hq hd4
      go_wp2_with fail
      refine hA4.out.mono ?_
      rintro e w4 ⟨v4, rfl, hP4⟩
      clear b0 b1 b2 b3 b4 b5 m0 m1 m2
      clear c0 c1 c2 c3 c4 c5 cf0 cf1 cf2 cf3 cf4 cf5
      clear hW3
      obtain ⟨rr4, ev4, W4, hW4, hR4, hb4, kn40⟩ := HR3.out.next hP4
      have kn4 := hid kn40
      subst ev4
      have HR4 := hid hR4
      have c0 := hb4.c0; have c1 := hb4.c1; have c2 := hb4.c2; have c3 := hb4.c3; have c4 := hb4.c4; have c5 := hb4.c5
      have cf0 := hb4.free 0; have cf1 := hb4.free 1; have cf2 := hb4.free 2; have cf3 := hb4.free 3; have cf4 := hb4.free 4; have cf5 := hb4.free 5
      have b0 := HR4.out.bx.c0; have b1 := HR4.out.bx.c1; have b2 := HR4.out.bx.c2; have b3 := HR4.out.bx.c3; have b4 := HR4.out.bx.c4; have b5 := HR4.out.bx.c5
      have m0 := HR4.out.bg.c0; have m1 := HR4.out.bg.c1; have m2 := HR4.out.bg.c2
      obtain ⟨room4, steps4, fa4, fc4, lx4, armed4, dead4, left4⟩ := rr4
      simp only [RD.v] at *
      clear hR4 hb4 hP4 kn40
      clear hA4
      by_cases he4 : e4 = 0
      · subst he4
        obtain ⟨a5, c5', W5, r5', w5', k5, n5⟩ := appBs (W := W4) (a := none) (c := 0) (l := []) (.inl ⟨rfl, rfl⟩) ga gc gl HR4.out.gk.see (by simp <;> omega)
        rw [List.nil_append] at r5' w5' n5
        have k5' : Kp [] W4 W5 := by simpa [ownQ, blk] using k5
        have n5' : ∀ k ∈ blk a5, W4.heap.size ≤ k := fun k hk => by
          rcases n5 k (by rw [ownQ]; exact hk) with e | e
          · simp [ownQ, blk] at e
          · exact e
        obtain ⟨a6, c6, W6, r6, w6, k6, n6⟩ := appBs w5' a c R (hRR.out W5 (HR4.out.kp.trans k5' (by simp))).1 (by omega)
        rw [ownQ] at k6
        have k46 : Kp [] W4 W6 := k5'.trans k6 (fun k hk => .inr (n5' k hk))
        have n6' : ∀ k ∈ blk a6, W4.heap.size ≤ k := fun k hk => by
          rcases n6 k (by rw [ownQ]; exact hk) with e | e
          · rw [ownQ] at e; exact n5' k e
          · have := k5'.size; omega
        obtain ⟨_, _, e6, s6, _⟩ := w6.see
        cases e6
        obtain ⟨GL, hGL⟩ : ∃ GL, Hid (gl ++ R = GL) := ⟨_, hid rfl⟩
        have hGok : Hid (RlOk W6 ⟨nmZ, a6, c6, gl ++ R, gs + (f1.length : Int)⟩) := ⟨s6, fun y hy => by
          rcases List.mem_append.1 hy with h | h
          · exact (HR4.out.gk.ok y h).keptNew k46
          · exact (hRR.out W6 (HR4.out.kp.trans k46 (by simp))).2 y h⟩
        have hGft : Hid (∀ k ∈ (⟨nmZ, a6, c6, gl ++ R, gs + (f1.length : Int)⟩ : RL).foot, (k ∈ (⟨nmZ, ga, gc, gl, gs⟩ : RL).foot ∨ k ∈ rft R ∨ w.heap.size ≤ k) ∧ (k < w.heap.size ∨ w.heap.size + 4 ≤ k)) := fun k hk => by
          have hz4 := HR4.out.sz
          simp only [RL.foot, List.mem_append, List.flatMap_append] at hk
          rcases hk with hk | hk | hk
          · split at hk
            · cases hk
            · have := n6' k hk
              exact ⟨.inr (.inr (by omega)), .inr (by omega)⟩
          · have : k ∈ (⟨nmZ, ga, gc, gl, gs⟩ : RL).foot := by simp only [RL.foot, List.mem_append]; exact .inr hk
            exact ⟨.inl this, .inl (hgf.out k this)⟩
          · exact ⟨.inr (.inl hk), .inl (hRlt.out k hk)⟩
        rw [hGL.out] at r6 hGok hGft
        have HR6 := hid (HR4.out.keep k46)
        have HR4' := HR4
        clear HR4 w5' k5 n5 k5' n5' w6 k6 n6 k46 n6' s6 HR3 kn3
        have HR4 := HR6
        have dz1 : (-9223372036854775808 : Int) ≤ gs + (f1.length : Int) := by omega
        have dz2 : gs + (f1.length : Int) ≤ 9223372036854775807 := by omega
        have dw : IntKind.i64.wrap (gs + (f1.length : Int)) = gs + (f1.length : Int) := by rw [IntKind.wrap_i64]; omega
        have hbg : Hid (bsl GL = bsl gl ++ bsl R) := by show _ = _; rw [← hGL.out]; simp [bsl]
        have hq5 := hq4
        have hRd := HR4.out.keep ((Kp.refl [] W6).drew)
        have hS0 : (W6.drew.cell? ⟨w.heap.size, 0, none⟩ = some (.int .i64 room4) ∧ W6.drew.cell? ⟨w.heap.size, 1, none⟩ = some (.int .i64 steps4) ∧ W6.drew.cell? ⟨w.heap.size, 2, none⟩ = some (.slice fa4 lx4.length fc4) ∧ W6.drew.cell? ⟨w.heap.size, 3, none⟩ = some (.bool armed4) ∧ W6.drew.cell? ⟨w.heap.size, 4, none⟩ = some (.bool dead4) ∧ W6.drew.cell? ⟨w.heap.size, 5, none⟩ = some (.int .i64 left4)) ∧ W6.drew.cell? ⟨w.heap.size + 1, 0, none⟩ = some (.string ⟨nmZ.toArray⟩) ∧ W6.drew.cell? ⟨w.heap.size + 1, 1, none⟩ = some (.slice ga gl.length gc) ∧ W6.drew.cell? ⟨w.heap.size + 1, 2, none⟩ = some (.int .i64 gs) := ⟨⟨hRd.bx.c0, hRd.bx.c1, hRd.bx.c2, hRd.bx.c3, hRd.bx.c4, hRd.bx.c5⟩, hRd.bg.c0, hRd.bg.c1, hRd.bg.c2⟩
        obtain ⟨A, B, C, hA, hB, hC, blA, brC, hZB, kA, kC, E, hE, hZE⟩ := hRd.ret ⟨nmZ, a6, c6, GL, gs + (f1.length : Int)⟩ (hGok.out.kept ((Kp.refl [] W6).drew) (by simp)) (fun k hk => (hGft.out k hk).2)
        have hSA : Hid ((A.cell? ⟨w.heap.size, 0, none⟩ = some (.int .i64 room4) ∧ A.cell? ⟨w.heap.size, 1, none⟩ = some (.int .i64 steps4) ∧ A.cell? ⟨w.heap.size, 2, none⟩ = some (.slice fa4 lx4.length fc4) ∧ A.cell? ⟨w.heap.size, 3, none⟩ = some (.bool armed4) ∧ A.cell? ⟨w.heap.size, 4, none⟩ = some (.bool dead4) ∧ A.cell? ⟨w.heap.size, 5, none⟩ = some (.int .i64 left4)) ∧ A.cell? ⟨w.heap.size + 1, 0, none⟩ = some (.string ⟨nmZ.toArray⟩) ∧ A.cell? ⟨w.heap.size + 1, 1, none⟩ = some (.slice ga gl.length gc) ∧ A.cell? ⟨w.heap.size + 1, 2, none⟩ = some (.int .i64 gs)) := ⟨⟨(hRd.bx.keptS kA (by simp <;> omega)).c0, (hRd.bx.keptS kA (by simp <;> omega)).c1, (hRd.bx.keptS kA (by simp <;> omega)).c2, (hRd.bx.keptS kA (by simp <;> omega)).c3, (hRd.bx.keptS kA (by simp <;> omega)).c4, (hRd.bx.keptS kA (by simp <;> omega)).c5⟩, (hRd.bg.keptS kA (by simp)).c0, (hRd.bg.keptS kA (by simp)).c1, (hRd.bg.keptS kA (by simp)).c2⟩
        have hSB : Hid ((B.cell? ⟨w.heap.size, 0, none⟩ = some (.int .i64 room4) ∧ B.cell? ⟨w.heap.size, 1, none⟩ = some (.int .i64 steps4) ∧ B.cell? ⟨w.heap.size, 2, none⟩ = some (.slice fa4 lx4.length fc4) ∧ B.cell? ⟨w.heap.size, 3, none⟩ = some (.bool armed4) ∧ B.cell? ⟨w.heap.size, 4, none⟩ = some (.bool dead4) ∧ B.cell? ⟨w.heap.size, 5, none⟩ = some (.int .i64 left4)) ∧ B.cell? ⟨w.heap.size + 1, 0, none⟩ = some (.string ⟨nmZ.toArray⟩) ∧ B.cell? ⟨w.heap.size + 1, 1, none⟩ = some (.slice ga gl.length gc) ∧ B.cell? ⟨w.heap.size + 1, 2, none⟩ = some (.int .i64 gs)) := by
          have hk : Kp [w.heap.size + 1 + 1 + 1] A B := by rw [← hB]; exact (((Kp.refl _ _).setCell (by simp) _).setCell (by simp) _).setCell (by simp) _
          obtain ⟨⟨h0, h1, h2, h3, h4, h5⟩, h6, h7, h8⟩ := hSA.out
          exact ⟨⟨cellS hk h0 (by simp <;> omega), cellS hk h1 (by simp <;> omega), cellS hk h2 (by simp <;> omega), cellS hk h3 (by simp <;> omega), cellS hk h4 (by simp <;> omega), cellS hk h5 (by simp <;> omega)⟩, cellS hk h6 (by simp <;> omega), cellS hk h7 (by simp <;> omega), cellS hk h8 (by simp <;> omega)⟩
        have r0 := hRd.br.c0; have r1 := hRd.br.c1; have r2 := hRd.br.c2; have r3 := hRd.br.c3; have r4 := hRd.br.c4; have r5 := hRd.br.c5
        have g0 := hRd.br.free 0; have g1 := hRd.br.free 1; have g2 := hRd.br.free 2; have g3 := hRd.br.free 3; have g4 := hRd.br.free 4; have g5 := hRd.br.free 5
        have l0 := hRd.bl.c0; have l1 := hRd.bl.c1; have l2 := hRd.bl.c2
        have lf0 := hRd.bl.free 0; have lf1 := hRd.bl.free 1; have lf2 := hRd.bl.free 2
        have p0 := blA.c0; have p1 := blA.c1; have p2 := blA.c2
        have pf0 := blA.free 0; have pf1 := blA.free 1; have pf2 := blA.free 2
        have hZB' := hid hZB
        clear hZB hZE kA kC blA brC hRd hC hE
        simp only [RD.v, List.length_nil] at *
        clear b0 b1 b2 b3 b4 b5 m0 m1 m2
        have HX4 := HR4'.out
        have b0 := HX4.bx.c0; have b1 := HX4.bx.c1; have b2 := HX4.bx.c2; have b3 := HX4.bx.c3; have b4 := HX4.bx.c4; have b5 := HX4.bx.c5
        have m0 := HX4.bg.c0; have m1 := HX4.bg.c1; have m2 := HX4.bg.c2
        clear HX4
        simp only at *
        go_wp2_with (first | (refine wpAppRunQ rfl _ _ 30 30 rfl _ _ _ rfl rfl r5' ?_) | (refine wpAppRunQ rfl _ _ 30 30 rfl _ _ _ rfl rfl r6 ?_) | fail)
        refine wp_region_held_drew (S := fun X => (X.cell? ⟨w.heap.size, 0, none⟩ = some (.int .i64 room4) ∧ X.cell? ⟨w.heap.size, 1, none⟩ = some (.int .i64 steps4) ∧ X.cell? ⟨w.heap.size, 2, none⟩ = some (.slice fa4 lx4.length fc4) ∧ X.cell? ⟨w.heap.size, 3, none⟩ = some (.bool armed4) ∧ X.cell? ⟨w.heap.size, 4, none⟩ = some (.bool dead4) ∧ X.cell? ⟨w.heap.size, 5, none⟩ = some (.int .i64 left4)) ∧ X.cell? ⟨w.heap.size + 1, 0, none⟩ = some (.string ⟨nmZ.toArray⟩) ∧ X.cell? ⟨w.heap.size + 1, 1, none⟩ = some (.slice ga gl.length gc) ∧ X.cell? ⟨w.heap.size + 1, 2, none⟩ = some (.int .i64 gs)) (by kernel_rfl) ?_ (fun hHeld => ?_)
        · exact hS0
        generalize W6.drew = wd at *
        refine wpAnyH_take (i := 0) (v := ?_) rfl (by kernel_rfl) (by kernel_rfl) (by kernel_rfl) (fun _ _ _ h => h) (Or.inl ⟨by rfl, ?_⟩) (by assumption) ?_
        rotate_left
        · intro w hSw; (try dsimp only at hSw); go_simp <;> with_reducible rfl
        try simp only [Act.put, List.getElem_toArray, List.getElem_cons_zero, List.getElem_cons_succ, List.setIfInBounds_toArray, List.set_cons_zero, List.set_cons_succ]
        refine wpAnyH_take (i := 1) (v := ?_) rfl (by kernel_rfl) (by kernel_rfl) (by kernel_rfl) (fun _ _ _ h => h) (Or.inl ⟨by rfl, ?_⟩) (by assumption) ?_
        rotate_left
        · intro w hSw; (try dsimp only at hSw); go_simp <;> with_reducible rfl
        try simp only [Act.put, List.getElem_toArray, List.getElem_cons_zero, List.getElem_cons_succ, List.setIfInBounds_toArray, List.set_cons_zero, List.set_cons_succ]
        refine wpAnyH_take (i := 2) (v := ?_) rfl (by kernel_rfl) (by kernel_rfl) (by kernel_rfl) (fun _ _ _ h => h) (Or.inl ⟨by rfl, ?_⟩) (by assumption) ?_
        rotate_left
        · intro w hSw; (try dsimp only at hSw); go_simp <;> with_reducible rfl
        try simp only [Act.put, List.getElem_toArray, List.getElem_cons_zero, List.getElem_cons_succ, List.setIfInBounds_toArray, List.set_cons_zero, List.set_cons_succ]
        refine wpAnyH_take (i := 3) (v := ?_) rfl (by kernel_rfl) (by kernel_rfl) (by kernel_rfl) (fun _ _ _ h => h) (Or.inl ⟨by rfl, ?_⟩) (by assumption) ?_
        rotate_left
        · intro w hSw; (try dsimp only at hSw); go_simp <;> with_reducible rfl
        try simp only [Act.put, List.getElem_toArray, List.getElem_cons_zero, List.getElem_cons_succ, List.setIfInBounds_toArray, List.set_cons_zero, List.set_cons_succ]
        refine wpAnyH_take (i := 4) (v := ?_) rfl (by kernel_rfl) (by kernel_rfl) (by kernel_rfl) (fun _ _ _ h => h) (Or.inl ⟨by rfl, ?_⟩) (by assumption) ?_
        rotate_left
        · intro w hSw; (try dsimp only at hSw); go_simp <;> with_reducible rfl
        try simp only [Act.put, List.getElem_toArray, List.getElem_cons_zero, List.getElem_cons_succ, List.setIfInBounds_toArray, List.set_cons_zero, List.set_cons_succ]
        refine wpAnyH_take (i := 5) (v := ?_) rfl (by kernel_rfl) (by kernel_rfl) (by kernel_rfl) (fun _ _ _ h => h) (Or.inl ⟨by rfl, ?_⟩) (by assumption) ?_
        rotate_left
        · intro w hSw; (try dsimp only at hSw); go_simp <;> with_reducible rfl
        try simp only [Act.put, List.getElem_toArray, List.getElem_cons_zero, List.getElem_cons_succ, List.setIfInBounds_toArray, List.set_cons_zero, List.set_cons_succ]
        refine wpAnyH_take (i := 6) (v := ?_) rfl (by kernel_rfl) (by kernel_rfl) (by kernel_rfl) (fun _ _ _ h => h) (Or.inl ⟨by rfl, ?_⟩) (by assumption) ?_
        rotate_left
        · intro w hSw; (try dsimp only at hSw); go_simp <;> with_reducible rfl
        try simp only [Act.put, List.getElem_toArray, List.getElem_cons_zero, List.getElem_cons_succ, List.setIfInBounds_toArray, List.set_cons_zero, List.set_cons_succ]
        refine wpAnyH_take (i := 7) (v := ?_) rfl (by kernel_rfl) (by kernel_rfl) (by kernel_rfl) (fun _ _ _ h => h) (Or.inl ⟨by rfl, ?_⟩) (by assumption) ?_
        rotate_left
        · intro w hSw; (try dsimp only at hSw); go_simp <;> with_reducible rfl
        try simp only [Act.put, List.getElem_toArray, List.getElem_cons_zero, List.getElem_cons_succ, List.setIfInBounds_toArray, List.set_cons_zero, List.set_cons_succ]
        refine wpAnyH_take (i := 8) (v := ?_) rfl (by kernel_rfl) (by kernel_rfl) (by kernel_rfl) (fun _ _ _ h => h) (Or.inl ⟨by rfl, ?_⟩) (by assumption) ?_
        rotate_left
        · intro w hSw; (try dsimp only at hSw); go_simp <;> with_reducible rfl
        try simp only [Act.put, List.getElem_toArray, List.getElem_cons_zero, List.getElem_cons_succ, List.setIfInBounds_toArray, List.set_cons_zero, List.set_cons_succ]
        refine wpAnyH_take (i := 9) (v := ?_) rfl (by kernel_rfl) (by kernel_rfl) (by kernel_rfl) (fun _ _ _ h => h) (Or.inl ⟨by rfl, ?_⟩) (by assumption) ?_
        rotate_left
        · intro w hSw; (try dsimp only at hSw); go_simp <;> with_reducible rfl
        try simp only [Act.put, List.getElem_toArray, List.getElem_cons_zero, List.getElem_cons_succ, List.setIfInBounds_toArray, List.set_cons_zero, List.set_cons_succ]
        refine wpAnyH_ready (rs := [10]) (by kernel_rfl) (by simp) ?_
        refine AllReadyH.cons rfl (fun K hK => ?_) AllReadyH.nil
        go_simp
        (try go_wp2_with fail)
        refine hK.out _ _ ?_ (fun hHeld => ?_)
        · exact hSA.out
        clear hK K
        try simp only [Act.put, List.getElem_toArray, List.getElem_cons_zero, List.getElem_cons_succ, List.setIfInBounds_toArray, List.set_cons_zero, List.set_cons_succ]
        refine wpAnyH_ready (rs := [11]) (by kernel_rfl) (by simp) ?_
        refine AllReadyH.cons rfl (fun K hK => ?_) AllReadyH.nil
        go_simp
        (try go_wp2_with fail)
        refine hK.out _ _ ?_ (fun hHeld => ?_)
        · exact hSB.out
        clear hK K
        try simp only [Act.put, List.getElem_toArray, List.getElem_cons_zero, List.getElem_cons_succ, List.setIfInBounds_toArray, List.set_cons_zero, List.set_cons_succ]
        refine wpAnyH_take (i := 12) (v := ?_) rfl (by kernel_rfl) (by kernel_rfl) (by kernel_rfl) (fun _ _ _ h => h) (Or.inl ⟨by rfl, ?_⟩) (by assumption) ?_
        rotate_left
        · intro w hSw; (try dsimp only at hSw); go_simp <;> with_reducible rfl
        try simp only [Act.put, List.getElem_toArray, List.getElem_cons_zero, List.getElem_cons_succ, List.setIfInBounds_toArray, List.set_cons_zero, List.set_cons_succ]
        refine wpAnyH_done (by kernel_rfl) ?_ _
        go_wp2_with fail
        have z0 := hZB'.out.br.c0; have z1 := hZB'.out.br.c1; have z2 := hZB'.out.br.c2; have z3 := hZB'.out.br.c3; have z4 := hZB'.out.br.c4; have z5 := hZB'.out.br.c5
        have y0 := hZB'.out.bl.c0; have y1 := hZB'.out.bl.c1; have y2 := hZB'.out.bl.c2
        refine bodyPost_ret (v := .tuple #[.agg #[.int .i64 room4, .int .i64 steps4, .slice fa4 lx4.length fc4, .bool armed4, .bool dead4, .int .i64 left4], .agg #[.string ⟨nmZ.toArray⟩, .slice a6 GL.length c6, .int .i64 (gs + (f1.length : Int))], .int .i64 0]) (by simp [results, Tryz.results25, go_sem, z0, z1, z2, z3, z4, z5, y0, y1, y2]) rfl ?_
        rw [hq5.out]
        exact ⟨_, ⟨nmZ, a6, c6, GL, gs + (f1.length : Int)⟩, rfl, hZB'.out.p, hZB'.out.k, rfl, by rw [if_pos rfl]; exact hbg.out, by rw [if_pos rfl, hqs.out], fun k hk => (hGft.out k hk).1⟩
      · have hq5 : Hid (appQ d nmZ (bsl R) = (d4, e4)) := hq4
        have t4a : (e4 == 0) = false := by simpa using he4
        have t4b : (e4 != 0) = true := by simpa using he4
        have hRd := HR4.out.keep ((Kp.refl [] W4).drew)
        have hS0 : (W4.drew.cell? ⟨w.heap.size, 0, none⟩ = some (.int .i64 room4) ∧ W4.drew.cell? ⟨w.heap.size, 1, none⟩ = some (.int .i64 steps4) ∧ W4.drew.cell? ⟨w.heap.size, 2, none⟩ = some (.slice fa4 lx4.length fc4) ∧ W4.drew.cell? ⟨w.heap.size, 3, none⟩ = some (.bool armed4) ∧ W4.drew.cell? ⟨w.heap.size, 4, none⟩ = some (.bool dead4) ∧ W4.drew.cell? ⟨w.heap.size, 5, none⟩ = some (.int .i64 left4)) ∧ W4.drew.cell? ⟨w.heap.size + 1, 0, none⟩ = some (.string ⟨nmZ.toArray⟩) ∧ W4.drew.cell? ⟨w.heap.size + 1, 1, none⟩ = some (.slice ga gl.length gc) ∧ W4.drew.cell? ⟨w.heap.size + 1, 2, none⟩ = some (.int .i64 gs) := ⟨⟨hRd.bx.c0, hRd.bx.c1, hRd.bx.c2, hRd.bx.c3, hRd.bx.c4, hRd.bx.c5⟩, hRd.bg.c0, hRd.bg.c1, hRd.bg.c2⟩
        obtain ⟨A, B, C, hA, hB, hC, blA, brC, hZB, kA, kC, E, hE, hZE⟩ := hRd.ret ⟨nmZ, ga, gc, gl, gs⟩ hRd.gk (fun k hk => .inl (hgf.out k hk))
        have hSA : Hid ((A.cell? ⟨w.heap.size, 0, none⟩ = some (.int .i64 room4) ∧ A.cell? ⟨w.heap.size, 1, none⟩ = some (.int .i64 steps4) ∧ A.cell? ⟨w.heap.size, 2, none⟩ = some (.slice fa4 lx4.length fc4) ∧ A.cell? ⟨w.heap.size, 3, none⟩ = some (.bool armed4) ∧ A.cell? ⟨w.heap.size, 4, none⟩ = some (.bool dead4) ∧ A.cell? ⟨w.heap.size, 5, none⟩ = some (.int .i64 left4)) ∧ A.cell? ⟨w.heap.size + 1, 0, none⟩ = some (.string ⟨nmZ.toArray⟩) ∧ A.cell? ⟨w.heap.size + 1, 1, none⟩ = some (.slice ga gl.length gc) ∧ A.cell? ⟨w.heap.size + 1, 2, none⟩ = some (.int .i64 gs)) := ⟨⟨(hRd.bx.keptS kA (by simp <;> omega)).c0, (hRd.bx.keptS kA (by simp <;> omega)).c1, (hRd.bx.keptS kA (by simp <;> omega)).c2, (hRd.bx.keptS kA (by simp <;> omega)).c3, (hRd.bx.keptS kA (by simp <;> omega)).c4, (hRd.bx.keptS kA (by simp <;> omega)).c5⟩, (hRd.bg.keptS kA (by simp)).c0, (hRd.bg.keptS kA (by simp)).c1, (hRd.bg.keptS kA (by simp)).c2⟩
        have hSB : Hid ((B.cell? ⟨w.heap.size, 0, none⟩ = some (.int .i64 room4) ∧ B.cell? ⟨w.heap.size, 1, none⟩ = some (.int .i64 steps4) ∧ B.cell? ⟨w.heap.size, 2, none⟩ = some (.slice fa4 lx4.length fc4) ∧ B.cell? ⟨w.heap.size, 3, none⟩ = some (.bool armed4) ∧ B.cell? ⟨w.heap.size, 4, none⟩ = some (.bool dead4) ∧ B.cell? ⟨w.heap.size, 5, none⟩ = some (.int .i64 left4)) ∧ B.cell? ⟨w.heap.size + 1, 0, none⟩ = some (.string ⟨nmZ.toArray⟩) ∧ B.cell? ⟨w.heap.size + 1, 1, none⟩ = some (.slice ga gl.length gc) ∧ B.cell? ⟨w.heap.size + 1, 2, none⟩ = some (.int .i64 gs)) := by
          have hk : Kp [w.heap.size + 1 + 1 + 1] A B := by rw [← hB]; exact (((Kp.refl _ _).setCell (by simp) _).setCell (by simp) _).setCell (by simp) _
          obtain ⟨⟨h0, h1, h2, h3, h4, h5⟩, h6, h7, h8⟩ := hSA.out
          exact ⟨⟨cellS hk h0 (by simp <;> omega), cellS hk h1 (by simp <;> omega), cellS hk h2 (by simp <;> omega), cellS hk h3 (by simp <;> omega), cellS hk h4 (by simp <;> omega), cellS hk h5 (by simp <;> omega)⟩, cellS hk h6 (by simp <;> omega), cellS hk h7 (by simp <;> omega), cellS hk h8 (by simp <;> omega)⟩
        have r0 := hRd.br.c0; have r1 := hRd.br.c1; have r2 := hRd.br.c2; have r3 := hRd.br.c3; have r4 := hRd.br.c4; have r5 := hRd.br.c5
        have g0 := hRd.br.free 0; have g1 := hRd.br.free 1; have g2 := hRd.br.free 2; have g3 := hRd.br.free 3; have g4 := hRd.br.free 4; have g5 := hRd.br.free 5
        have l0 := hRd.bl.c0; have l1 := hRd.bl.c1; have l2 := hRd.bl.c2
        have lf0 := hRd.bl.free 0; have lf1 := hRd.bl.free 1; have lf2 := hRd.bl.free 2
        have p0 := blA.c0; have p1 := blA.c1; have p2 := blA.c2
        have pf0 := blA.free 0; have pf1 := blA.free 1; have pf2 := blA.free 2
        have hZB' := hid hZB
        clear hZB hZE kA kC blA brC hRd hC hE
        simp only [RD.v, List.length_nil] at *
        go_wp2_with fail
        refine wp_region_held_drew (S := fun X => (X.cell? ⟨w.heap.size, 0, none⟩ = some (.int .i64 room4) ∧ X.cell? ⟨w.heap.size, 1, none⟩ = some (.int .i64 steps4) ∧ X.cell? ⟨w.heap.size, 2, none⟩ = some (.slice fa4 lx4.length fc4) ∧ X.cell? ⟨w.heap.size, 3, none⟩ = some (.bool armed4) ∧ X.cell? ⟨w.heap.size, 4, none⟩ = some (.bool dead4) ∧ X.cell? ⟨w.heap.size, 5, none⟩ = some (.int .i64 left4)) ∧ X.cell? ⟨w.heap.size + 1, 0, none⟩ = some (.string ⟨nmZ.toArray⟩) ∧ X.cell? ⟨w.heap.size + 1, 1, none⟩ = some (.slice ga gl.length gc) ∧ X.cell? ⟨w.heap.size + 1, 2, none⟩ = some (.int .i64 gs)) (by kernel_rfl) ?_ (fun hHeld => ?_)
        · exact hS0
        generalize W4.drew = wd at *
        refine wpAnyH_take (i := 0) (v := ?_) rfl (by kernel_rfl) (by kernel_rfl) (by kernel_rfl) (fun _ _ _ h => h) (Or.inl ⟨by rfl, ?_⟩) (by assumption) ?_
        rotate_left
        · intro w hSw; (try dsimp only at hSw); go_simp <;> with_reducible rfl
        try simp only [Act.put, List.getElem_toArray, List.getElem_cons_zero, List.getElem_cons_succ, List.setIfInBounds_toArray, List.set_cons_zero, List.set_cons_succ]
        refine wpAnyH_take (i := 1) (v := ?_) rfl (by kernel_rfl) (by kernel_rfl) (by kernel_rfl) (fun _ _ _ h => h) (Or.inl ⟨by rfl, ?_⟩) (by assumption) ?_
        rotate_left
        · intro w hSw; (try dsimp only at hSw); go_simp <;> with_reducible rfl
        try simp only [Act.put, List.getElem_toArray, List.getElem_cons_zero, List.getElem_cons_succ, List.setIfInBounds_toArray, List.set_cons_zero, List.set_cons_succ]
        refine wpAnyH_take (i := 2) (v := ?_) rfl (by kernel_rfl) (by kernel_rfl) (by kernel_rfl) (fun _ _ _ h => h) (Or.inl ⟨by rfl, ?_⟩) (by assumption) ?_
        rotate_left
        · intro w hSw; (try dsimp only at hSw); go_simp <;> with_reducible rfl
        try simp only [Act.put, List.getElem_toArray, List.getElem_cons_zero, List.getElem_cons_succ, List.setIfInBounds_toArray, List.set_cons_zero, List.set_cons_succ]
        refine wpAnyH_ready (rs := [3]) (by kernel_rfl) (by simp) ?_
        refine AllReadyH.cons rfl (fun K hK => ?_) AllReadyH.nil
        go_simp
        (try go_wp2_with fail)
        refine hK.out _ _ ?_ (fun hHeld => ?_)
        · exact hSA.out
        clear hK K
        try simp only [Act.put, List.getElem_toArray, List.getElem_cons_zero, List.getElem_cons_succ, List.setIfInBounds_toArray, List.set_cons_zero, List.set_cons_succ]
        refine wpAnyH_ready (rs := [4]) (by kernel_rfl) (by simp) ?_
        refine AllReadyH.cons rfl (fun K hK => ?_) AllReadyH.nil
        go_simp
        (try go_wp2_with fail)
        refine hK.out _ _ ?_ (fun hHeld => ?_)
        · exact hSB.out
        clear hK K
        try simp only [Act.put, List.getElem_toArray, List.getElem_cons_zero, List.getElem_cons_succ, List.setIfInBounds_toArray, List.set_cons_zero, List.set_cons_succ]
        refine wpAnyH_take (i := 5) (v := ?_) rfl (by kernel_rfl) (by kernel_rfl) (by kernel_rfl) (fun _ _ _ h => h) (Or.inl ⟨by rfl, ?_⟩) (by assumption) ?_
        rotate_left
        · intro w hSw; (try dsimp only at hSw); go_simp <;> with_reducible rfl
        try simp only [Act.put, List.getElem_toArray, List.getElem_cons_zero, List.getElem_cons_succ, List.setIfInBounds_toArray, List.set_cons_zero, List.set_cons_succ]
        refine wpAnyH_done (by kernel_rfl) ?_ _
        go_wp2_with fail
        have z0 := hZB'.out.br.c0; have z1 := hZB'.out.br.c1; have z2 := hZB'.out.br.c2; have z3 := hZB'.out.br.c3; have z4 := hZB'.out.br.c4; have z5 := hZB'.out.br.c5
        have y0 := hZB'.out.bl.c0; have y1 := hZB'.out.bl.c1; have y2 := hZB'.out.bl.c2
        refine bodyPost_ret (v := .tuple #[.agg #[.int .i64 room4, .int .i64 steps4, .slice fa4 lx4.length fc4, .bool armed4, .bool dead4, .int .i64 left4], .agg #[.string ⟨nmZ.toArray⟩, .slice ga gl.length gc, .int .i64 gs], .int .i64 e4]) (by simp [results, Tryz.results25, go_sem, z0, z1, z2, z3, z4, z5, y0, y1, y2]) rfl ?_
        rw [hq5.out]
        exact ⟨_, ⟨nmZ, ga, gc, gl, gs⟩, rfl, hZB'.out.p, hZB'.out.k, rfl, by rw [if_neg he4], by rw [if_neg he4], fun k hk => .inl hk⟩
    · have hq5 : Hid (appQ d nmZ (bsl R) = (d3, e3)) := by
        show _ = _
        rw [hq.out]
        unfold writeD
        rw [hd3.out, if_pos (by simpa using he3)]
      have t3a : (e3 == 0) = false := by simpa using he3
      have t3b : (e3 != 0) = true := by simpa using he3
      clear hd3 hq
      have hRd := HR3.out.keep ((Kp.refl [] W3).drew)
      have hS0 : (W3.drew.cell? ⟨w.heap.size, 0, none⟩ = some (.int .i64 room3) ∧ W3.drew.cell? ⟨w.heap.size, 1, none⟩ = some (.int .i64 steps3) ∧ W3.drew.cell? ⟨w.heap.size, 2, none⟩ = some (.slice fa3 lx3.length fc3) ∧ W3.drew.cell? ⟨w.heap.size, 3, none⟩ = some (.bool armed3) ∧ W3.drew.cell? ⟨w.heap.size, 4, none⟩ = some (.bool dead3) ∧ W3.drew.cell? ⟨w.heap.size, 5, none⟩ = some (.int .i64 left3)) ∧ W3.drew.cell? ⟨w.heap.size + 1, 0, none⟩ = some (.string ⟨nmZ.toArray⟩) ∧ W3.drew.cell? ⟨w.heap.size + 1, 1, none⟩ = some (.slice ga gl.length gc) ∧ W3.drew.cell? ⟨w.heap.size + 1, 2, none⟩ = some (.int .i64 gs) := ⟨⟨hRd.bx.c0, hRd.bx.c1, hRd.bx.c2, hRd.bx.c3, hRd.bx.c4, hRd.bx.c5⟩, hRd.bg.c0, hRd.bg.c1, hRd.bg.c2⟩
      obtain ⟨A, B, C, hA, hB, hC, blA, brC, hZB, kA, kC, E, hE, hZE⟩ := hRd.ret ⟨nmZ, ga, gc, gl, gs⟩ hRd.gk (fun k hk => .inl (hgf.out k hk))
      have hSA : Hid ((A.cell? ⟨w.heap.size, 0, none⟩ = some (.int .i64 room3) ∧ A.cell? ⟨w.heap.size, 1, none⟩ = some (.int .i64 steps3) ∧ A.cell? ⟨w.heap.size, 2, none⟩ = some (.slice fa3 lx3.length fc3) ∧ A.cell? ⟨w.heap.size, 3, none⟩ = some (.bool armed3) ∧ A.cell? ⟨w.heap.size, 4, none⟩ = some (.bool dead3) ∧ A.cell? ⟨w.heap.size, 5, none⟩ = some (.int .i64 left3)) ∧ A.cell? ⟨w.heap.size + 1, 0, none⟩ = some (.string ⟨nmZ.toArray⟩) ∧ A.cell? ⟨w.heap.size + 1, 1, none⟩ = some (.slice ga gl.length gc) ∧ A.cell? ⟨w.heap.size + 1, 2, none⟩ = some (.int .i64 gs)) := ⟨⟨(hRd.bx.keptS kA (by simp <;> omega)).c0, (hRd.bx.keptS kA (by simp <;> omega)).c1, (hRd.bx.keptS kA (by simp <;> omega)).c2, (hRd.bx.keptS kA (by simp <;> omega)).c3, (hRd.bx.keptS kA (by simp <;> omega)).c4, (hRd.bx.keptS kA (by simp <;> omega)).c5⟩, (hRd.bg.keptS kA (by simp)).c0, (hRd.bg.keptS kA (by simp)).c1, (hRd.bg.keptS kA (by simp)).c2⟩
      have hSB : Hid ((B.cell? ⟨w.heap.size, 0, none⟩ = some (.int .i64 room3) ∧ B.cell? ⟨w.heap.size, 1, none⟩ = some (.int .i64 steps3) ∧ B.cell? ⟨w.heap.size, 2, none⟩ = some (.slice fa3 lx3.length fc3) ∧ B.cell? ⟨w.heap.size, 3, none⟩ = some (.bool armed3) ∧ B.cell? ⟨w.heap.size, 4, none⟩ = some (.bool dead3) ∧ B.cell? ⟨w.heap.size, 5, none⟩ = some (.int .i64 left3)) ∧ B.cell? ⟨w.heap.size + 1, 0, none⟩ = some (.string ⟨nmZ.toArray⟩) ∧ B.cell? ⟨w.heap.size + 1, 1, none⟩ = some (.slice ga gl.length gc) ∧ B.cell? ⟨w.heap.size + 1, 2, none⟩ = some (.int .i64 gs)) := by
        have hk : Kp [w.heap.size + 1 + 1 + 1] A B := by rw [← hB]; exact (((Kp.refl _ _).setCell (by simp) _).setCell (by simp) _).setCell (by simp) _
        obtain ⟨⟨h0, h1, h2, h3, h4, h5⟩, h6, h7, h8⟩ := hSA.out
        exact ⟨⟨cellS hk h0 (by simp <;> omega), cellS hk h1 (by simp <;> omega), cellS hk h2 (by simp <;> omega), cellS hk h3 (by simp <;> omega), cellS hk h4 (by simp <;> omega), cellS hk h5 (by simp <;> omega)⟩, cellS hk h6 (by simp <;> omega), cellS hk h7 (by simp <;> omega), cellS hk h8 (by simp <;> omega)⟩
      have r0 := hRd.br.c0; have r1 := hRd.br.c1; have r2 := hRd.br.c2; have r3 := hRd.br.c3; have r4 := hRd.br.c4; have r5 := hRd.br.c5
      have g0 := hRd.br.free 0; have g1 := hRd.br.free 1; have g2 := hRd.br.free 2; have g3 := hRd.br.free 3; have g4 := hRd.br.free 4; have g5 := hRd.br.free 5
      have l0 := hRd.bl.c0; have l1 := hRd.bl.c1; have l2 := hRd.bl.c2
      have lf0 := hRd.bl.free 0; have lf1 := hRd.bl.free 1; have lf2 := hRd.bl.free 2
      have p0 := blA.c0; have p1 := blA.c1; have p2 := blA.c2
      have pf0 := blA.free 0; have pf1 := blA.free 1; have pf2 := blA.free 2
      have hZB' := hid hZB
      clear hZB hZE kA kC blA brC hRd hC hE
      simp only [RD.v, List.length_nil] at *
      go_wp2_with fail
      refine wp_region_held_drew (S := fun X => (X.cell? ⟨w.heap.size, 0, none⟩ = some (.int .i64 room3) ∧ X.cell? ⟨w.heap.size, 1, none⟩ = some (.int .i64 steps3) ∧ X.cell? ⟨w.heap.size, 2, none⟩ = some (.slice fa3 lx3.length fc3) ∧ X.cell? ⟨w.heap.size, 3, none⟩ = some (.bool armed3) ∧ X.cell? ⟨w.heap.size, 4, none⟩ = some (.bool dead3) ∧ X.cell? ⟨w.heap.size, 5, none⟩ = some (.int .i64 left3)) ∧ X.cell? ⟨w.heap.size + 1, 0, none⟩ = some (.string ⟨nmZ.toArray⟩) ∧ X.cell? ⟨w.heap.size + 1, 1, none⟩ = some (.slice ga gl.length gc) ∧ X.cell? ⟨w.heap.size + 1, 2, none⟩ = some (.int .i64 gs)) (by kernel_rfl) ?_ (fun hHeld => ?_)
      · exact hS0
      generalize W3.drew = wd at *
      refine wpAnyH_take (i := 0) (v := ?_) rfl (by kernel_rfl) (by kernel_rfl) (by kernel_rfl) (fun _ _ _ h => h) (Or.inl ⟨by rfl, ?_⟩) (by assumption) ?_
      rotate_left
      · intro w hSw; (try dsimp only at hSw); go_simp <;> with_reducible rfl
      try simp only [Act.put, List.getElem_toArray, List.getElem_cons_zero, List.getElem_cons_succ, List.setIfInBounds_toArray, List.set_cons_zero, List.set_cons_succ]
      refine wpAnyH_take (i := 1) (v := ?_) rfl (by kernel_rfl) (by kernel_rfl) (by kernel_rfl) (fun _ _ _ h => h) (Or.inl ⟨by rfl, ?_⟩) (by assumption) ?_
      rotate_left
      · intro w hSw; (try dsimp only at hSw); go_simp <;> with_reducible rfl
      try simp only [Act.put, List.getElem_toArray, List.getElem_cons_zero, List.getElem_cons_succ, List.setIfInBounds_toArray, List.set_cons_zero, List.set_cons_succ]
      refine wpAnyH_take (i := 2) (v := ?_) rfl (by kernel_rfl) (by kernel_rfl) (by kernel_rfl) (fun _ _ _ h => h) (Or.inl ⟨by rfl, ?_⟩) (by assumption) ?_
      rotate_left
      · intro w hSw; (try dsimp only at hSw); go_simp <;> with_reducible rfl
      try simp only [Act.put, List.getElem_toArray, List.getElem_cons_zero, List.getElem_cons_succ, List.setIfInBounds_toArray, List.set_cons_zero, List.set_cons_succ]
      refine wpAnyH_ready (rs := [3]) (by kernel_rfl) (by simp) ?_
      refine AllReadyH.cons rfl (fun K hK => ?_) AllReadyH.nil
      go_simp
      (try go_wp2_with fail)
      refine hK.out _ _ ?_ (fun hHeld => ?_)
      · exact hSA.out
      clear hK K
      try simp only [Act.put, List.getElem_toArray, List.getElem_cons_zero, List.getElem_cons_succ, List.setIfInBounds_toArray, List.set_cons_zero, List.set_cons_succ]
      refine wpAnyH_ready (rs := [4]) (by kernel_rfl) (by simp) ?_
      refine AllReadyH.cons rfl (fun K hK => ?_) AllReadyH.nil
      go_simp
      (try go_wp2_with fail)
      refine hK.out _ _ ?_ (fun hHeld => ?_)
      · exact hSB.out
      clear hK K
      try simp only [Act.put, List.getElem_toArray, List.getElem_cons_zero, List.getElem_cons_succ, List.setIfInBounds_toArray, List.set_cons_zero, List.set_cons_succ]
      refine wpAnyH_take (i := 5) (v := ?_) rfl (by kernel_rfl) (by kernel_rfl) (by kernel_rfl) (fun _ _ _ h => h) (Or.inl ⟨by rfl, ?_⟩) (by assumption) ?_
      rotate_left
      · intro w hSw; (try dsimp only at hSw); go_simp <;> with_reducible rfl
      try simp only [Act.put, List.getElem_toArray, List.getElem_cons_zero, List.getElem_cons_succ, List.setIfInBounds_toArray, List.set_cons_zero, List.set_cons_succ]
      refine wpAnyH_done (by kernel_rfl) ?_ _
      go_wp2_with fail
      have z0 := hZB'.out.br.c0; have z1 := hZB'.out.br.c1; have z2 := hZB'.out.br.c2; have z3 := hZB'.out.br.c3; have z4 := hZB'.out.br.c4; have z5 := hZB'.out.br.c5
      have y0 := hZB'.out.bl.c0; have y1 := hZB'.out.bl.c1; have y2 := hZB'.out.bl.c2
      refine bodyPost_ret (v := .tuple #[.agg #[.int .i64 room3, .int .i64 steps3, .slice fa3 lx3.length fc3, .bool armed3, .bool dead3, .int .i64 left3], .agg #[.string ⟨nmZ.toArray⟩, .slice ga gl.length gc, .int .i64 gs], .int .i64 e3]) (by simp [results, Tryz.results25, go_sem, z0, z1, z2, z3, z4, z5, y0, y1, y2]) rfl ?_
      rw [hq5.out]
      exact ⟨_, ⟨nmZ, ga, gc, gl, gs⟩, rfl, hZB'.out.p, hZB'.out.k, rfl, by rw [if_neg he3], by rw [if_neg he3], fun k hk => .inl hk⟩
  · have hq5 := hid (hq1.out hf2)
    have t2a : (f2 == 0) = false := by simpa using hf2
    have t2b : (f2 != 0) = true := by simpa using hf2
    clear hq1 hq2
    have hRd := HR0.out.keep ((Kp.refl [] w2).drew)
    have hS0 : (w2.drew.cell? ⟨w.heap.size, 0, none⟩ = some (.int .i64 room0) ∧ w2.drew.cell? ⟨w.heap.size, 1, none⟩ = some (.int .i64 steps0) ∧ w2.drew.cell? ⟨w.heap.size, 2, none⟩ = some (.slice fa0 lx0.length fc0) ∧ w2.drew.cell? ⟨w.heap.size, 3, none⟩ = some (.bool armed0) ∧ w2.drew.cell? ⟨w.heap.size, 4, none⟩ = some (.bool dead0) ∧ w2.drew.cell? ⟨w.heap.size, 5, none⟩ = some (.int .i64 left0)) ∧ w2.drew.cell? ⟨w.heap.size + 1, 0, none⟩ = some (.string ⟨nmZ.toArray⟩) ∧ w2.drew.cell? ⟨w.heap.size + 1, 1, none⟩ = some (.slice ga gl.length gc) ∧ w2.drew.cell? ⟨w.heap.size + 1, 2, none⟩ = some (.int .i64 gs) := ⟨⟨hRd.bx.c0, hRd.bx.c1, hRd.bx.c2, hRd.bx.c3, hRd.bx.c4, hRd.bx.c5⟩, hRd.bg.c0, hRd.bg.c1, hRd.bg.c2⟩
    obtain ⟨A, B, C, hA, hB, hC, blA, brC, hZB, kA, kC, E, hE, hZE⟩ := hRd.ret ⟨nmZ, ga, gc, gl, gs⟩ hRd.gk (fun k hk => .inl (hgf.out k hk))
    have hSA : Hid ((A.cell? ⟨w.heap.size, 0, none⟩ = some (.int .i64 room0) ∧ A.cell? ⟨w.heap.size, 1, none⟩ = some (.int .i64 steps0) ∧ A.cell? ⟨w.heap.size, 2, none⟩ = some (.slice fa0 lx0.length fc0) ∧ A.cell? ⟨w.heap.size, 3, none⟩ = some (.bool armed0) ∧ A.cell? ⟨w.heap.size, 4, none⟩ = some (.bool dead0) ∧ A.cell? ⟨w.heap.size, 5, none⟩ = some (.int .i64 left0)) ∧ A.cell? ⟨w.heap.size + 1, 0, none⟩ = some (.string ⟨nmZ.toArray⟩) ∧ A.cell? ⟨w.heap.size + 1, 1, none⟩ = some (.slice ga gl.length gc) ∧ A.cell? ⟨w.heap.size + 1, 2, none⟩ = some (.int .i64 gs)) := ⟨⟨(hRd.bx.keptS kA (by simp <;> omega)).c0, (hRd.bx.keptS kA (by simp <;> omega)).c1, (hRd.bx.keptS kA (by simp <;> omega)).c2, (hRd.bx.keptS kA (by simp <;> omega)).c3, (hRd.bx.keptS kA (by simp <;> omega)).c4, (hRd.bx.keptS kA (by simp <;> omega)).c5⟩, (hRd.bg.keptS kA (by simp)).c0, (hRd.bg.keptS kA (by simp)).c1, (hRd.bg.keptS kA (by simp)).c2⟩
    have hSB : Hid ((B.cell? ⟨w.heap.size, 0, none⟩ = some (.int .i64 room0) ∧ B.cell? ⟨w.heap.size, 1, none⟩ = some (.int .i64 steps0) ∧ B.cell? ⟨w.heap.size, 2, none⟩ = some (.slice fa0 lx0.length fc0) ∧ B.cell? ⟨w.heap.size, 3, none⟩ = some (.bool armed0) ∧ B.cell? ⟨w.heap.size, 4, none⟩ = some (.bool dead0) ∧ B.cell? ⟨w.heap.size, 5, none⟩ = some (.int .i64 left0)) ∧ B.cell? ⟨w.heap.size + 1, 0, none⟩ = some (.string ⟨nmZ.toArray⟩) ∧ B.cell? ⟨w.heap.size + 1, 1, none⟩ = some (.slice ga gl.length gc) ∧ B.cell? ⟨w.heap.size + 1, 2, none⟩ = some (.int .i64 gs)) := by
      have hk : Kp [w.heap.size + 1 + 1 + 1] A B := by rw [← hB]; exact (((Kp.refl _ _).setCell (by simp) _).setCell (by simp) _).setCell (by simp) _
      obtain ⟨⟨h0, h1, h2, h3, h4, h5⟩, h6, h7, h8⟩ := hSA.out
      exact ⟨⟨cellS hk h0 (by simp <;> omega), cellS hk h1 (by simp <;> omega), cellS hk h2 (by simp <;> omega), cellS hk h3 (by simp <;> omega), cellS hk h4 (by simp <;> omega), cellS hk h5 (by simp <;> omega)⟩, cellS hk h6 (by simp <;> omega), cellS hk h7 (by simp <;> omega), cellS hk h8 (by simp <;> omega)⟩
    have r0 := hRd.br.c0; have r1 := hRd.br.c1; have r2 := hRd.br.c2; have r3 := hRd.br.c3; have r4 := hRd.br.c4; have r5 := hRd.br.c5
    have g0 := hRd.br.free 0; have g1 := hRd.br.free 1; have g2 := hRd.br.free 2; have g3 := hRd.br.free 3; have g4 := hRd.br.free 4; have g5 := hRd.br.free 5
    have l0 := hRd.bl.c0; have l1 := hRd.bl.c1; have l2 := hRd.bl.c2
    have lf0 := hRd.bl.free 0; have lf1 := hRd.bl.free 1; have lf2 := hRd.bl.free 2
    have p0 := blA.c0; have p1 := blA.c1; have p2 := blA.c2
    have pf0 := blA.free 0; have pf1 := blA.free 1; have pf2 := blA.free 2
    have hZB' := hid hZB
    clear hZB hZE kA kC blA brC hRd hC hE
    simp only [RD.v, List.length_nil] at *
    go_wp2_with fail
    refine wp_region_held_drew (S := fun X => (X.cell? ⟨w.heap.size, 0, none⟩ = some (.int .i64 room0) ∧ X.cell? ⟨w.heap.size, 1, none⟩ = some (.int .i64 steps0) ∧ X.cell? ⟨w.heap.size, 2, none⟩ = some (.slice fa0 lx0.length fc0) ∧ X.cell? ⟨w.heap.size, 3, none⟩ = some (.bool armed0) ∧ X.cell? ⟨w.heap.size, 4, none⟩ = some (.bool dead0) ∧ X.cell? ⟨w.heap.size, 5, none⟩ = some (.int .i64 left0)) ∧ X.cell? ⟨w.heap.size + 1, 0, none⟩ = some (.string ⟨nmZ.toArray⟩) ∧ X.cell? ⟨w.heap.size + 1, 1, none⟩ = some (.slice ga gl.length gc) ∧ X.cell? ⟨w.heap.size + 1, 2, none⟩ = some (.int .i64 gs)) (by kernel_rfl) ?_ (fun hHeld => ?_)
    · exact hS0
    generalize w2.drew = wd at *
    refine wpAnyH_take (i := 0) (v := ?_) rfl (by kernel_rfl) (by kernel_rfl) (by kernel_rfl) (fun _ _ _ h => h) (Or.inl ⟨by rfl, ?_⟩) (by assumption) ?_
    rotate_left
    · intro w hSw; (try dsimp only at hSw); go_simp <;> with_reducible rfl
    try simp only [Act.put, List.getElem_toArray, List.getElem_cons_zero, List.getElem_cons_succ, List.setIfInBounds_toArray, List.set_cons_zero, List.set_cons_succ]
    refine wpAnyH_take (i := 1) (v := ?_) rfl (by kernel_rfl) (by kernel_rfl) (by kernel_rfl) (fun _ _ _ h => h) (Or.inl ⟨by rfl, ?_⟩) (by assumption) ?_
    rotate_left
    · intro w hSw; (try dsimp only at hSw); go_simp <;> with_reducible rfl
    try simp only [Act.put, List.getElem_toArray, List.getElem_cons_zero, List.getElem_cons_succ, List.setIfInBounds_toArray, List.set_cons_zero, List.set_cons_succ]
    refine wpAnyH_take (i := 2) (v := ?_) rfl (by kernel_rfl) (by kernel_rfl) (by kernel_rfl) (fun _ _ _ h => h) (Or.inl ⟨by rfl, ?_⟩) (by assumption) ?_
    rotate_left
    · intro w hSw; (try dsimp only at hSw); go_simp <;> with_reducible rfl
    try simp only [Act.put, List.getElem_toArray, List.getElem_cons_zero, List.getElem_cons_succ, List.setIfInBounds_toArray, List.set_cons_zero, List.set_cons_succ]
    refine wpAnyH_ready (rs := [3]) (by kernel_rfl) (by simp) ?_
    refine AllReadyH.cons rfl (fun K hK => ?_) AllReadyH.nil
    go_simp
    (try go_wp2_with fail)
    refine hK.out _ _ ?_ (fun hHeld => ?_)
    · exact hSA.out
    clear hK K
    try simp only [Act.put, List.getElem_toArray, List.getElem_cons_zero, List.getElem_cons_succ, List.setIfInBounds_toArray, List.set_cons_zero, List.set_cons_succ]
    refine wpAnyH_ready (rs := [4]) (by kernel_rfl) (by simp) ?_
    refine AllReadyH.cons rfl (fun K hK => ?_) AllReadyH.nil
    go_simp
    (try go_wp2_with fail)
    refine hK.out _ _ ?_ (fun hHeld => ?_)
    · exact hSB.out
    clear hK K
    try simp only [Act.put, List.getElem_toArray, List.getElem_cons_zero, List.getElem_cons_succ, List.setIfInBounds_toArray, List.set_cons_zero, List.set_cons_succ]
    refine wpAnyH_take (i := 5) (v := ?_) rfl (by kernel_rfl) (by kernel_rfl) (by kernel_rfl) (fun _ _ _ h => h) (Or.inl ⟨by rfl, ?_⟩) (by assumption) ?_
    rotate_left
    · intro w hSw; (try dsimp only at hSw); go_simp <;> with_reducible rfl
    try simp only [Act.put, List.getElem_toArray, List.getElem_cons_zero, List.getElem_cons_succ, List.setIfInBounds_toArray, List.set_cons_zero, List.set_cons_succ]
    refine wpAnyH_done (by kernel_rfl) ?_ _
    go_wp2_with fail
    have z0 := hZB'.out.br.c0; have z1 := hZB'.out.br.c1; have z2 := hZB'.out.br.c2; have z3 := hZB'.out.br.c3; have z4 := hZB'.out.br.c4; have z5 := hZB'.out.br.c5
    have y0 := hZB'.out.bl.c0; have y1 := hZB'.out.bl.c1; have y2 := hZB'.out.bl.c2
    refine bodyPost_ret (v := .tuple #[.agg #[.int .i64 room0, .int .i64 steps0, .slice fa0 lx0.length fc0, .bool armed0, .bool dead0, .int .i64 left0], .agg #[.string ⟨nmZ.toArray⟩, .slice ga gl.length gc, .int .i64 gs], .int .i64 f2]) (by simp [results, Tryz.results25, go_sem, z0, z1, z2, z3, z4, z5, y0, y1, y2]) rfl ?_
    rw [hq5.out]
    exact ⟨_, ⟨nmZ, ga, gc, gl, gs⟩, rfl, hZB'.out.p, hZB'.out.k, rfl, by rw [if_neg hf2], by rw [if_neg hf2], fun k hk => .inl hk⟩
end Go.Proofs.YtpkoikennimonaaGreatDoor
end

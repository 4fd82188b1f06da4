/- change, beside a reference without files; two disks that stand beside each other. change, told at the world behind it: the disk, the reference, apart from each other; Arm and Wipe. The law's own stands: a disk tells what the reference has. The law's own step: what it leaves; the boxes. -/
import Derived.Test.YtgllkonbgigcbaaB9
import Derived.Test.YtgllkonbgigcbaaB11
import Derived.Test.YtgllkonbgigcbaaB8
section
namespace Go.Proofs.Ytgllkonbgigcbaa
open Go.RowKit Go.Hay
set_option linter.unusedVariables false
set_option linter.unusedSimpArgs false

def Chg0 (p mb : Nat) (xs : List Ent) (d' : Dk) (w : World) (e : Ending) (w' : World) : Prop :=
  ∃ (v : Value) (b : Bool) (xs' : List Ent), e = .returned (.tuple #[v, .bool b]) ∧ Disk w' p mb xs' d' ∧ Mv (foot p mb xs) w (foot p mb xs') w'
theorem chg0 {p mb : Nat} {xs : List Ent} {d' : Dk} {T : List Nat} {rd : Dk} {b : Bool} {w w' : World} {e : Ending} (h : ChP p mb xs d' T rd b w e w') : Chg0 p mb xs d' w e w' := by
  obtain ⟨v, xs', _, _, _, he, h1, h2, _⟩ := h
  exact ⟨v, b, xs', he, h1, h2⟩
theorem okNew0 : Okd (newD 0) := ⟨List.Pairwise.nil, by simp [newD], by simp [newD], by simp [newD, sumF], by simp [newD], by simp [newD]⟩
theorem cChange0 {w : World} {p mb : Nat} {xs : List Ent} {room s : Nat} {files : List Fl} (hD : Disk w p mb xs ⟨room, s, files, none, false⟩) {K J : Nat} (hlow : Low K J ⟨room, s, files, none, false⟩) (hs : s < 9000000000000000000) (r : RD) (hr : RdOk w r) (hL : Like r (newD 0)) (o : DOp) (hko : o.kind < 5) (hok : o.ok w)
    (hK : K + o.b.bs.length ≤ 100000000000000) (hJ : J ≤ 1000000000000) (hoff : o.b.bs ≠ [] → ∀ k ∈ blk o.b.a, k ∉ foot p mb xs) :
    Calls Try.prog 20 #[.pointer (some ⟨p, 0, none⟩), r.v, o.v] w (Chg0 p mb xs (chgD ⟨room, s, files, none, false⟩ o) w) := by
  have hN : xs.length < 9000000000000000000 := by have := len_of hD; have := hlow.len; simp only at *; omega
  have hsm : Small ⟨room, s, files, none, false⟩ := hlow.small (by omega)
  have hfl := hlow.file o.name
  have hl0 : r.l.length ≤ 1000000000 := by have := hL.files; simp only [newD, List.map_eq_nil_iff] at this; rw [this]; simp
  have hdo : ∀ (c : Int) (to : List UInt8) (n : Int), to.length ≤ maxLen → ∀ W, Kp [] w W → Calls Try.prog 32 #[r.v, .int .i64 c, .string ⟨o.name.toArray⟩, .string ⟨to.toArray⟩, .int .i64 n] W (RefE r.foot (doD (newD 0) c o.name to n) W) := fun c to n hto W kW => cRefDo0 r (newD 0) W (hr.keptNew kW) hL rfl c o.name to hto n
  unfold chgD
  by_cases h0 : o.kind = 0
  · rw [if_pos h0]
    exact (cChgAppend hD hs hN hsm r (appendD (newD 0) o.name o.b.bs) o h0 hok.name hok.b.see hoff (by omega)
      (fun W kW => cRefAppend r (newD 0) W (hr.keptNew kW) hL okNew0 hl0 (by simp [newD]) o.name hok.name o.b.a o.b.c o.b.bs (hok.b.see.kept kW (by simp)) (by simp [newD, fileOf, lookG]; omega))).mono fun e w' h => chg0 h
  rw [if_neg h0]
  by_cases h1 : o.kind = 1
  · rw [if_pos h1]
    exact (cChgSync hD hs r _ o h1 hok.name (hdo 1 [] 0 (by simp))).mono fun e w' h => chg0 h
  rw [if_neg h1]
  by_cases h2 : o.kind = 2
  · rw [if_pos h2]
    exact (cChgTrunc hD hs hsm r _ o h2 hok.name hok.n0 hok.n1 (hdo 2 [] o.n (by simp))).mono fun e w' h => chg0 h
  rw [if_neg h2]
  by_cases h3 : o.kind = 3
  · rw [if_pos h3]
    exact (cChgRename hD hs hN r _ o h3 hok.name hok.to (hdo 3 o.to 0 hok.to)).mono fun e w' h => chg0 h
  rw [if_neg h3]
  by_cases h4 : o.kind = 4
  · rw [if_pos h4]
    exact (cChgRemove hD hs r _ o h4 hok.name (hdo 4 [] 0 (by simp))).mono fun e w' h => chg0 h
  rw [if_neg h4]
  exact (cChgFlip hD hsm r (flipD (newD 0) o.name o.n o.bit, flipOk (newD 0) o.name o.n o.bit) o h0 h1 h2 h3 h4 (by omega) (by omega) hok.name hok.n0 hok.n1 hok.b0 hok.b1 (fun W kW => cRefFlip0 r (newD 0) W (hr.keptNew kW) hL rfl o.name o.n o.bit)).mono fun e w' h => chg0 h

/-- Two disks beside each other. -/
structure Two (W w : World) (p mb : Nat) (xs : List Ent) (d : Dk) (p2 mb2 : Nat) (ys : List Ent) (e : Dk) : Prop where
  D1 : Disk w p mb xs d
  D2 : Disk w p2 mb2 ys e
  kp : Kp [] W w
  n1 : ∀ k ∈ foot p mb xs, W.heap.size ≤ k
  n2 : ∀ k ∈ foot p2 mb2 ys, W.heap.size ≤ k
  dj : ∀ k ∈ foot p mb xs, k ∉ foot p2 mb2 ys
section
variable {W w w' : World} {p mb p2 mb2 : Nat} {xs ys xs' ys' : List Ent} {d e d' e' : Dk}
theorem Two.keep (h : Two W w p mb xs d p2 mb2 ys e) (hk : Kp [] w w') : Two W w' p mb xs d p2 mb2 ys e := ⟨h.D1.keptNew hk, h.D2.keptNew hk, h.kp.trans hk (by simp), h.n1, h.n2, h.dj⟩
theorem Two.chg1 (h : Two W w p mb xs d p2 mb2 ys e) (hD : Disk w' p mb xs' d') (mv : Mv (foot p mb xs) w (foot p mb xs') w') : Two W w' p mb xs' d' p2 mb2 ys e :=
  ⟨hD, h.D2.kept mv.kp (fun k hk hx => h.dj k hx hk), h.kp.trans mv.kp (fun k hk => .inr (h.n1 k hk)), fun k hk => by
    rcases mv.new k hk with h1 | h1
    · exact h.n1 k h1
    · have := h.kp.size; omega, h.n2, fun k hk hx => by
    rcases mv.new k hk with h1 | h1
    · exact h.dj k h1 hx
    · have := h.D2.lt k hx; omega⟩
theorem Two.chg2 (h : Two W w p mb xs d p2 mb2 ys e) (hD : Disk w' p2 mb2 ys' e') (mv : Mv (foot p2 mb2 ys) w (foot p2 mb2 ys') w') : Two W w' p mb xs d p2 mb2 ys' e' :=
  ⟨h.D1.kept mv.kp (fun k hk hx => h.dj k hk hx), hD, h.kp.trans mv.kp (fun k hk => .inr (h.n2 k hk)), h.n1, fun k hk => by
    rcases mv.new k hk with h1 | h1
    · exact h.n2 k h1
    · have := h.kp.size; omega, fun k hk hx => by
    rcases mv.new k hx with h1 | h1
    · exact h.dj k hk h1
    · have := h.D1.lt k hk; omega⟩
end
/-- A call's seven cells in a box. -/
def Op7 (q : Nat) (o : DOp) (w : World) : Prop :=
  w.cell? ⟨q, 0, none⟩ = some (.int .i64 o.kind) ∧ w.cell? ⟨q, 1, none⟩ = some (.string ⟨o.name.toArray⟩) ∧ w.cell? ⟨q, 2, none⟩ = some (.string ⟨o.to.toArray⟩) ∧ w.cell? ⟨q, 3, none⟩ = some (.slice o.b.a o.b.bs.length o.b.c) ∧ w.cell? ⟨q, 4, none⟩ = some (.int .i64 o.n) ∧ w.cell? ⟨q, 5, none⟩ = some (.int .i64 o.bit) ∧ w.cell? ⟨q, 6, none⟩ = some (.slice o.ka o.ks.length o.kc)
theorem Op7.kept {q : Nat} {o : DOp} {w w' : World} {S : List Nat} (h : Op7 q o w) (hk : Kp S w w') (hq : q ∉ S) : Op7 q o w' := by
  obtain ⟨a0, a1, a2, a3, a4, a5, a6⟩ := h
  have hl := World.block_lt_of_cell? _ _ a0
  exact ⟨(hk.cell (p := ⟨q, 0, none⟩) hl hq).trans a0, (hk.cell (p := ⟨q, 1, none⟩) hl hq).trans a1, (hk.cell (p := ⟨q, 2, none⟩) hl hq).trans a2, (hk.cell (p := ⟨q, 3, none⟩) hl hq).trans a3, (hk.cell (p := ⟨q, 4, none⟩) hl hq).trans a4, (hk.cell (p := ⟨q, 5, none⟩) hl hq).trans a5, (hk.cell (p := ⟨q, 6, none⟩) hl hq).trans a6⟩
theorem box7 (o : DOp) (w : World) : ∃ w1, w.alloc (.cells #[.int .i64 o.kind, .string ⟨o.name.toArray⟩, .string ⟨o.to.toArray⟩, .slice o.b.a o.b.bs.length o.b.c, .int .i64 o.n, .int .i64 o.bit, .slice o.ka o.ks.length o.kc] 36) = w1 ∧ Kp [] w w1 ∧ Op7 w.heap.size o w1 ∧ w.heap.size < w1.heap.size :=
  ⟨_, rfl, (Kp.refl _ _).alloc _, ⟨World.cell?_alloc_new w _ _ 0, World.cell?_alloc_new w _ _ 1, World.cell?_alloc_new w _ _ 2, World.cell?_alloc_new w _ _ 3, World.cell?_alloc_new w _ _ 4, World.cell?_alloc_new w _ _ 5, World.cell?_alloc_new w _ _ 6⟩, by simp⟩
/-- The bytes of calls. -/
def sumB (l : List DOp) : Nat := (l.map fun o => o.b.bs.length).sum
theorem sumB_take {l : List DOp} {j : Nat} {o : DOp} (h : l[j]? = some o) : sumB (l.take (j + 1)) = sumB (l.take j) + o.b.bs.length := by
  have hj := (List.getElem?_eq_some_iff.1 h).1
  have he := (List.getElem?_eq_some_iff.1 h).2
  unfold sumB
  rw [List.take_succ_eq_append_getElem hj, List.map_append, List.sum_append, he]
  simp
theorem sumB_le (l : List DOp) : ∀ j, sumB (l.take j) ≤ sumB l := by
  induction l with
  | nil => intro j; simp
  | cons o l ih =>
    intro j
    cases j with
    | zero => simp [sumB]
    | succ j => have := ih j; simp only [sumB, List.take_succ_cons, List.map_cons, List.sum_cons] at *; omega
theorem offArg {W w : World} {o : DOp} (ho : o.ok W) {F : List Nat} (h : ∀ k ∈ F, W.heap.size ≤ k) : o.b.bs ≠ [] → ∀ k ∈ blk o.b.a, k ∉ F := fun hb k hk hf => by
  have := h k hf
  have := ho.b.see.lt hb k hk
  omega
/-- The region 'change(d, ref.New(0), o)': from where it begins, to where it ends. -/
theorem newRef (w : World) : Calls Try.prog 11 #[.int .i64 0] w fun e w' => ∃ r : RD, e = .returned r.v ∧ RdOk w' r ∧ Like r (newD 0) ∧ Kp [] w w' :=
  (cRefNew 0 w (by omega)).mono fun e w' h => by
    obtain ⟨v, rfl, r, rfl, h1, h2, h3, _⟩ := h
    exact ⟨r, rfl, h1, h2, h3⟩
end Go.Proofs.Ytgllkonbgigcbaa
end

section
namespace Go.Proofs.Ytgllkonbgigcbaa
open Go.RowKit Go.Hay
set_option linter.unusedVariables false
set_option linter.unusedSimpArgs false

/-- What change leaves, told at the world behind it. -/
def ChQ (p mb : Nat) (xs : List Ent) (d' : Dk) (T : List Nat) (rd' : Dk) (b : Bool) (w : World) (e : Ending) (w' : World) : Prop :=
  ∃ (r' : RD) (xs' : List Ent), e = .returned (.tuple #[r'.v, .bool b]) ∧ Disk w' p mb xs' d' ∧ RdOk w' r' ∧ Like r' rd' ∧ Mv (foot p mb xs) w (foot p mb xs') w' ∧ (∀ k ∈ r'.foot, k ∈ T ∨ w.heap.size ≤ k) ∧ ∀ k ∈ r'.foot, k ∉ foot p mb xs'
theorem chQ {p mb : Nat} {xs : List Ent} {d' : Dk} {T : List Nat} {rd' : Dk} {b : Bool} {w w' : World} {e : Ending} {D : Dk} (hD : Disk w p mb xs D) (hT : ∀ k ∈ T, k < w.heap.size) (hTf : ∀ k ∈ T, k ∉ foot p mb xs) (h : ChP p mb xs d' T rd' b w e w') : ChQ p mb xs d' T rd' b w e w' := by
  obtain ⟨v, xs', W1, W2, qa, he, hD', mv, k1, hq, hq1, ⟨r', rfl, hr', hL', k12, hft⟩, k2, hnew⟩ := h
  have hne : ∀ k ∈ r'.foot, k ≠ qa ∧ k ∉ foot p mb xs := fun k hk => by
    rcases hft k hk with h1 | h1
    · exact ⟨by have := hT k h1; omega, hTf k h1⟩
    · exact ⟨by omega, fun h2 => by have := hD.lt k h2; have := k1.size; omega⟩
  refine ⟨r', xs', he, hD', hr'.kept k2 (fun k hk h => ?_), hL', mv, fun k hk => ?_, fun k hk h => ?_⟩
  · rcases List.mem_cons.1 h with h | h
    · exact (hne k hk).1 h
    · exact (hne k hk).2 h
  · rcases hft k hk with h1 | h1
    · exact .inl h1
    · exact .inr (by have := k1.size; omega)
  · rcases hnew k h with h1 | h1
    · exact (hne k hk).2 h1
    · have := hr'.lt k hk; omega
set_option maxHeartbeats 8000000 in
set_option maxRecDepth 100000 in
theorem cChgArm {w : World} {p mb : Nat} {xs : List Ent} {d : Dk} (hD : Disk w p mb xs d) (r : RD) (hr : RdOk w r) (rd : Dk) (hL : Like r rd) (hT : ∀ k ∈ r.foot, k ∉ foot p mb xs) (o : DOp) (hk : o.kind = 7) (hn0 : -9223372036854775808 ≤ o.n) (hn1 : o.n < 9223372036854775808) :
    Calls Try.prog 20 #[.pointer (some ⟨p, 0, none⟩), r.v, o.v] w (ChQ p mb xs (armD d o.n) r.foot (armD rd o.n) true w) := by
  obtain ⟨w1, hw1, k1, bx, hsz⟩ := boxC r o w
  have hlt := hD.lt
  have hrl := hr.lt
  have aD := cArm (hD.keptNew k1) o.n hn1
  have hRA : Hid (∀ A, Kp (foot p mb xs) w A → Calls Try.prog 36 #[r.v, .int .i64 o.n] A (fun e w' => ∃ v, e = .returned v ∧ RefP r.foot (armD rd o.n) A v w')) := fun A kA => cRefArm r A (hr.kept kA hT) rd hL o.n hn0 hn1
  have hft0 : Hid (∀ k ∈ r.foot, k < w.heap.size) := hrl
  have hft1 : Hid (∀ k ∈ r.foot, k ∉ foot p mb xs) := hT
  obtain ⟨Tf, hTf⟩ : ∃ Tf, Tf = r.foot := ⟨_, rfl⟩
  rw [← hTf] at hft0 hft1 hRA ⊢
  clear hT hrl hTf hL hr
  obtain ⟨room, steps, fa, fc, l, armed, dead, left⟩ := r
  simp only [RD.v, DOp.v] at *
  have b0 := bx.rd.c0; have b1 := bx.rd.c1; have b2 := bx.rd.c2; have b3 := bx.rd.c3; have b4 := bx.rd.c4; have b5 := bx.rd.c5
  have o0 := bx.o0; have o1 := bx.o1; have o2 := bx.o2; have o3 := bx.o3; have o4 := bx.o4; have o5 := bx.o5
  rw [hk] at o0 hw1 ⊢
  have hp0 : w.heap.size ∉ foot p mb xs := fun h => by have := hlt _ h; omega
  have hp1 : w.heap.size + 1 ∉ foot p mb xs := fun h => by have := hlt _ h; omega
  have hp2 : w.heap.size + 2 ∉ foot p mb xs := fun h => by have := hlt _ h; omega
  go_enter Try.func20, Try.ntmps20
  go_wp2_with fail
  refine aD.mono ?_
  rintro e w2 ⟨rfl, hD2, k2⟩
  have mv2 : Mv (foot p mb xs) w1 (foot p mb xs) w2 := ⟨mvHd k2, fun _ h => .inl h⟩
  have kA : Kp (foot p mb xs) w w2 := (k1.mono (T := foot p mb xs) (by simp)).trans mv2.kp (fun x hx => .inl hx)
  have bb := bx.rd.mv mv2 hp0
  have ba := bx.an.mv mv2 hp2
  have q4 := cellMv mv2 o4 hp1
  clear b0 b1 b2 b3 b4 b5 o0 o1 o2 o3 o4 o5
  have b0 := bb.c0; have b1 := bb.c1; have b2 := bb.c2; have b3 := bb.c3; have b4 := bb.c4; have b5 := bb.c5
  have aR := hRA.out w2 kA
  go_wp2_with fail
  refine aR.mono ?_
  rintro e w3 ⟨v, rfl, hR⟩
  have hR0 := hR
  obtain ⟨r', rfl, hr3, hL3, k3, hft3⟩ := hR0
  have ba3 := ba.kept k3
  have hfin : Hid (∀ W', Kp [w.heap.size + 1 + 1] w3 W' → ChQ p mb xs (armD d o.n) Tf (armD rd o.n) true w (.returned (.tuple #[r'.v, .bool true])) W') := fun W' kW => by
    refine ⟨r', xs, rfl, (hD2.keptNew k3).kept kW (fun k hk h => ?_), hr3.kept kW (fun k hk h => ?_), hL3, ⟨(kA.trans k3 (by simp)).trans kW (fun x hx => .inr (by simp at hx; omega)), fun k hk => ?_⟩, fun k hk => ?_, fun k hk h => ?_⟩
    · simp at h; subst h
      rcases mv2.new _ hk with h1 | h1
      · exact hp2 h1
      · omega
    · simp at h; subst h
      rcases hft3 _ hk with h1 | h1
      · have := hft0.out _ h1; omega
      · have := mv2.kp.size; omega
    · rcases mv2.new k hk with h1 | h1
      · exact .inl h1
      · exact .inr (by have := k1.size; omega)
    · rcases hft3 k hk with h1 | h1
      · exact .inl h1
      · exact .inr (by have := kA.size; omega)
    · rcases hft3 k hk with h1 | h1
      · rcases mv2.new k h with h2 | h2
        · exact hft1.out k h1 h2
        · have := hft0.out k h1; have := k1.size; omega
      · have := hD2.lt k h; omega
  obtain ⟨room', steps', fa', fc', l', armed', dead', left'⟩ := r'
  simp only [RD.v] at *
  obtain ⟨r0, r1, r2, r3, r4, r5, rf⟩ := ba3
  have hb4 : B6 w3 (w.heap.size + 1 + 1) (.int .i64 0) (.int .i64 0) (.slice none 0 0) (.bool false) (.bool false) (.int .i64 0) := ⟨r0, r1, r2, r3, r4, r5, rf⟩
  have g0 := rf 0; have g1 := rf 1; have g2 := rf 2; have g3 := rf 3; have g4 := rf 4; have g5 := rf 5
  clear hR hL3 hr3 hft3 aR hRA b0 b1 b2 b3 b4 b5
  go_wp2_with fail
  obtain ⟨W', hW', hb6, kW'⟩ := set6_ex hb4 (.int .i64 room') (.int .i64 steps') (.slice fa' l'.length fc') (.bool armed') (.bool dead') (.int .i64 left')
  rw [hW']
  obtain ⟨z0, z1, z2, z3, z4, z5, _⟩ := hb6
  refine bodyPost_ret (v := .tuple #[.agg #[.int .i64 room', .int .i64 steps', .slice fa' l'.length fc', .bool armed', .bool dead', .int .i64 left'], .bool true]) (by simp [results, Try.results20, go_sem, z0, z1, z2, z3, z4, z5]) rfl ?_
  exact hfin.out W' kW'
set_option maxHeartbeats 8000000 in
set_option maxRecDepth 100000 in
theorem cChgWipe {w : World} {p mb : Nat} {xs : List Ent} {d : Dk} (hD : Disk w p mb xs d) (r : RD) (hr : RdOk w r) (rd : Dk) (hL : Like r rd) (hT : ∀ k ∈ r.foot, k ∉ foot p mb xs) (o : DOp) (hk : o.kind = 11)  :
    Calls Try.prog 20 #[.pointer (some ⟨p, 0, none⟩), r.v, o.v] w (ChQ p mb xs (wipeD d) r.foot (wipeD rd) true w) := by
  obtain ⟨w1, hw1, k1, bx, hsz⟩ := boxC r o w
  have hlt := hD.lt
  have hrl := hr.lt
  have aD := cWipe (hD.keptNew k1)
  have hRA : Hid (∀ A, Kp (foot p mb xs) w A → Calls Try.prog 38 #[r.v] A (fun e w' => ∃ v, e = .returned v ∧ RefP r.foot (wipeD rd) A v w')) := fun A kA => cRefWipe r A rd hL
  have hft0 : Hid (∀ k ∈ r.foot, k < w.heap.size) := hrl
  have hft1 : Hid (∀ k ∈ r.foot, k ∉ foot p mb xs) := hT
  obtain ⟨Tf, hTf⟩ : ∃ Tf, Tf = r.foot := ⟨_, rfl⟩
  rw [← hTf] at hft0 hft1 hRA ⊢
  clear hT hrl hTf hL hr
  obtain ⟨room, steps, fa, fc, l, armed, dead, left⟩ := r
  simp only [RD.v, DOp.v] at *
  have b0 := bx.rd.c0; have b1 := bx.rd.c1; have b2 := bx.rd.c2; have b3 := bx.rd.c3; have b4 := bx.rd.c4; have b5 := bx.rd.c5
  have o0 := bx.o0; have o1 := bx.o1; have o2 := bx.o2; have o3 := bx.o3; have o4 := bx.o4; have o5 := bx.o5
  rw [hk] at o0 hw1 ⊢
  have hp0 : w.heap.size ∉ foot p mb xs := fun h => by have := hlt _ h; omega
  have hp1 : w.heap.size + 1 ∉ foot p mb xs := fun h => by have := hlt _ h; omega
  have hp2 : w.heap.size + 2 ∉ foot p mb xs := fun h => by have := hlt _ h; omega
  go_enter Try.func20, Try.ntmps20
  go_wp2_with fail
  refine aD.mono ?_
  rintro e w2 ⟨rfl, hD2, k2⟩
  have mv2 : Mv (foot p mb xs) w1 (foot p mb []) w2 := k2
  have kA : Kp (foot p mb xs) w w2 := (k1.mono (T := foot p mb xs) (by simp)).trans mv2.kp (fun x hx => .inl hx)
  have bb := bx.rd.mv mv2 hp0
  have ba := bx.an.mv mv2 hp2
  have q4 := cellMv mv2 o4 hp1
  clear b0 b1 b2 b3 b4 b5 o0 o1 o2 o3 o4 o5
  have b0 := bb.c0; have b1 := bb.c1; have b2 := bb.c2; have b3 := bb.c3; have b4 := bb.c4; have b5 := bb.c5
  have aR := hRA.out w2 kA
  go_wp2_with fail
  refine aR.mono ?_
  rintro e w3 ⟨v, rfl, hR⟩
  have hR0 := hR
  obtain ⟨r', rfl, hr3, hL3, k3, hft3⟩ := hR0
  have ba3 := ba.kept k3
  have hfin : Hid (∀ W', Kp [w.heap.size + 1 + 1] w3 W' → ChQ p mb xs (wipeD d) Tf (wipeD rd) true w (.returned (.tuple #[r'.v, .bool true])) W') := fun W' kW => by
    refine ⟨r', [], rfl, (hD2.keptNew k3).kept kW (fun k hk h => ?_), hr3.kept kW (fun k hk h => ?_), hL3, ⟨(kA.trans k3 (by simp)).trans kW (fun x hx => .inr (by simp at hx; omega)), fun k hk => ?_⟩, fun k hk => ?_, fun k hk h => ?_⟩
    · simp at h; subst h
      rcases mv2.new _ hk with h1 | h1
      · exact hp2 h1
      · omega
    · simp at h; subst h
      rcases hft3 _ hk with h1 | h1
      · have := hft0.out _ h1; omega
      · have := mv2.kp.size; omega
    · rcases mv2.new k hk with h1 | h1
      · exact .inl h1
      · exact .inr (by have := k1.size; omega)
    · rcases hft3 k hk with h1 | h1
      · exact .inl h1
      · exact .inr (by have := kA.size; omega)
    · rcases hft3 k hk with h1 | h1
      · rcases mv2.new k h with h2 | h2
        · exact hft1.out k h1 h2
        · have := hft0.out k h1; have := k1.size; omega
      · have := hD2.lt k h; omega
  obtain ⟨room', steps', fa', fc', l', armed', dead', left'⟩ := r'
  simp only [RD.v] at *
  obtain ⟨r0, r1, r2, r3, r4, r5, rf⟩ := ba3
  have hb4 : B6 w3 (w.heap.size + 1 + 1) (.int .i64 0) (.int .i64 0) (.slice none 0 0) (.bool false) (.bool false) (.int .i64 0) := ⟨r0, r1, r2, r3, r4, r5, rf⟩
  have g0 := rf 0; have g1 := rf 1; have g2 := rf 2; have g3 := rf 3; have g4 := rf 4; have g5 := rf 5
  clear hR hL3 hr3 hft3 aR hRA b0 b1 b2 b3 b4 b5
  go_wp2_with fail
  obtain ⟨W', hW', hb6, kW'⟩ := set6_ex hb4 (.int .i64 room') (.int .i64 steps') (.slice fa' l'.length fc') (.bool armed') (.bool dead') (.int .i64 left')
  rw [hW']
  obtain ⟨z0, z1, z2, z3, z4, z5, _⟩ := hb6
  refine bodyPost_ret (v := .tuple #[.agg #[.int .i64 room', .int .i64 steps', .slice fa' l'.length fc', .bool armed', .bool dead', .int .i64 left'], .bool true]) (by simp [results, Try.results20, go_sem, z0, z1, z2, z3, z4, z5]) rfl ?_
  exact hfin.out W' kW'

/-- change, of a disk and of the reference, each as it is; what both tell. -/
def ansD (d : Dk) (o : DOp) : Int :=
  if o.kind = 0 then (appendD d o.name o.b.bs).2 else if o.kind = 1 then (doD d 1 o.name [] 0).2 else if o.kind = 2 then (doD d 2 o.name [] o.n).2
  else if o.kind = 3 then (doD d 3 o.name o.to 0).2 else if o.kind = 4 then (doD d 4 o.name [] 0).2 else if o.kind = 7 then 0 else if o.kind = 11 then 0 else if flipOk d o.name o.n o.bit then 1 else 0
theorem cChange {w : World} {p mb : Nat} {xs : List Ent} {d : Dk} (hD : Disk w p mb xs d) {K J : Nat} (hlow : Lw K J d) (hs : d.steps < 9000000000000000000) (r : RD) (hr : RdOk w r) (rd : Dk) (hL : Like r rd) (hokr : Okd rd) (hlowr : Lw K J rd) (hsr : rd.steps < 9000000000000000000) (hT : ∀ k ∈ r.foot, k ∉ foot p mb xs) (o : DOp) (hok : o.ok w)
    (hK : K + o.b.bs.length ≤ 100000000000000) (hJ : J ≤ 100000000) (hoff : o.b.bs ≠ [] → ∀ k ∈ blk o.b.a, k ∉ foot p mb xs) :
    Calls Try.prog 20 #[.pointer (some ⟨p, 0, none⟩), r.v, o.v] w (ChQ p mb xs (chD d o) r.foot (chD rd o) (ansD d o == ansD rd o) w) := by
  have hN : xs.length < 9000000000000000000 := by have := len_of hD; have := hlow.len; omega
  have hsm : Small d := hlow.small (by omega)
  have hfl := hlow.file o.name
  have hflr := hlowr.file o.name
  have hl0 : r.l.length ≤ 1000000000 := by have := congrArg List.length hL.files; have := hlowr.len; simp at *; omega
  have hBr : ∀ f ∈ r.l, f.bytes.length ≤ 140737488355328 := fun f hf => by
    have := hlowr.small (by omega) f.fl (by rw [← hL.files]; exact List.mem_map_of_mem hf)
    exact this
  have fin : ∀ {d' rd' : Dk} {b : Bool} {e : Ending} {w' : World}, ChP p mb xs d' r.foot rd' b w e w' → ChQ p mb xs d' r.foot rd' b w e w' := fun h => chQ hD hr.lt hT h
  have hdo : ∀ (c : Int) (hc : c = 1 ∨ c = 2 ∨ c = 3 ∨ c = 4) (to : List UInt8) (n : Int), to.length ≤ maxLen → ∀ W, Kp [] w W → Calls Try.prog 32 #[r.v, .int .i64 c, .string ⟨o.name.toArray⟩, .string ⟨to.toArray⟩, .int .i64 n] W (RefE r.foot (doD rd c o.name to n) W) := fun c hc to n hto W kW => cRefDo r rd W (hr.keptNew kW) hL hokr hl0 hsr c hc o.name to hok.name hto n hBr
  unfold chD ansD chgD
  by_cases h0 : o.kind = 0
  · simp only [h0, if_true, if_false, Int.reduceEq, show ((0 : Int) = 7) = False by simp, show ((0 : Int) = 11) = False by simp]
    exact (cChgAppend hD hs hN hsm r (appendD rd o.name o.b.bs) o h0 hok.name hok.b.see hoff (by omega)
      (fun W kW => cRefAppend r rd W (hr.keptNew kW) hL hokr hl0 hsr o.name hok.name o.b.a o.b.c o.b.bs (hok.b.see.kept kW (by simp)) (by omega))).mono fun e w' h => fin h
  by_cases h1 : o.kind = 1
  · simp only [h1, if_true, if_false, Int.reduceEq]
    exact (cChgSync hD hs r _ o h1 hok.name (hdo 1 (by simp) [] 0 (by simp))).mono fun e w' h => fin h
  by_cases h2 : o.kind = 2
  · simp only [h2, if_true, if_false, Int.reduceEq]
    exact (cChgTrunc hD hs hsm r _ o h2 hok.name hok.n0 hok.n1 (hdo 2 (by simp) [] o.n (by simp))).mono fun e w' h => fin h
  by_cases h3 : o.kind = 3
  · simp only [h3, if_true, if_false, Int.reduceEq]
    exact (cChgRename hD hs hN r _ o h3 hok.name hok.to (hdo 3 (by simp) o.to 0 hok.to)).mono fun e w' h => fin h
  by_cases h4 : o.kind = 4
  · simp only [h4, if_true, if_false, Int.reduceEq]
    exact (cChgRemove hD hs r _ o h4 hok.name (hdo 4 (by simp) [] 0 (by simp))).mono fun e w' h => fin h
  by_cases h7 : o.kind = 7
  · simp only [h7, if_true, if_false, Int.reduceEq]
    exact cChgArm hD r hr rd hL hT o h7 hok.n0 hok.n1
  by_cases h11 : o.kind = 11
  · simp only [h11, if_true, if_false, Int.reduceEq]
    exact cChgWipe hD r hr rd hL hT o h11
  simp only [h0, h1, h2, h3, h4, h7, h11, if_false]
  refine (cChgFlip hD hsm r (flipD rd o.name o.n o.bit, flipOk rd o.name o.n o.bit) o h0 h1 h2 h3 h4 h7 h11 hok.name hok.n0 hok.n1 hok.b0 hok.b1 (fun W kW => cRefFlip r rd W (hr.keptNew kW) hL hokr hl0 hBr o.name o.n o.bit)).mono fun e w' h => ?_
  have e1 : ((if flipOk d o.name o.n o.bit = true then (1 : Int) else 0) == (if flipOk rd o.name o.n o.bit = true then (1 : Int) else 0)) = (flipOk d o.name o.n o.bit == flipOk rd o.name o.n o.bit) := by
    cases flipOk d o.name o.n o.bit <;> cases flipOk rd o.name o.n o.bit <;> rfl
  rw [e1]
  exact fin h
end Go.Proofs.Ytgllkonbgigcbaa
end

section
namespace Go.Proofs.Ytgllkonbgigcbaa
open Go.RowKit Go.Hay
set_option linter.unusedVariables false
set_option linter.unusedSimpArgs false

set_option maxHeartbeats 16000000 in
set_option maxRecDepth 100000 in
theorem cStands {w : World} {p mb : Nat} {xs : List Ent} {d : Dk} (hD : Disk w p mb xs d) (hB : Small d) (hN : xs.length ≤ 1000000000) (r : RD) (hr : RdOk w r) (h1 : r.room = d.room) (h2 : r.steps = d.steps) (h3 : r.l.map RF.fl = d.files) (h4 : r.dead = d.dead) :
    Calls Try.prog 21 #[.pointer (some ⟨p, 0, none⟩), r.v] w fun e w' => e = .returned (.bool true) ∧ Kp [] w w' := by
  obtain ⟨w1, hw1, k1, bx, hsz⟩ := boxR r w
  have hnames : xs.map Ent.name = d.files.map Fl.name := by rw [hD.fl, List.map_map]; rfl
  have hlen : xs.length = r.l.length := by have := congrArg List.length h3; rw [hD.fl] at this; simpa using this.symm
  have hfr : freeD d = r.room - lens r.l := by
    unfold freeD
    rw [h1, ← h3]
    simp [lens, sumF, Function.comp_def, RF.fl]
  have hF : Hid (∀ A, Kp [] w A → Calls Try.prog 22 #[.pointer (some ⟨p, 0, none⟩)] A fun e w' => e = .returned (.int .i64 (r.room - lens r.l)) ∧ Kp [] A w') := fun A kA => by
    rw [← hfr]
    exact cFree (hD.keptNew kA)
  have hRF : Hid (∀ A, Kp [] w A → Calls Try.prog 41 #[r.v] A fun e w' => e = .returned (.int .i64 (r.room - lens r.l)) ∧ Kp [] A w') := fun A kA => by
    refine cRefFree r A (hr.keptNew kA) (by omega) (by omega) (by have := hD.ok.room; omega) ?_
    have hs := hD.ok.sum
    have : lens r.l = sumF d.files := by rw [← h3]; simp [lens, sumF, Function.comp_def, RF.fl]
    omega
  have hSt : Hid (∀ A, Kp [] w A → Calls Try.prog 15 #[.pointer (some ⟨p, 0, none⟩)] A fun e w' => e = .returned (.int .i64 r.steps) ∧ w' = A) := fun A kA => by rw [h2]; exact cSteps (hD.keptNew kA)
  have hDd : Hid (∀ A, Kp [] w A → Calls Try.prog 14 #[.pointer (some ⟨p, 0, none⟩)] A fun e w' => e = .returned (.bool r.dead) ∧ w' = A) := fun A kA => by rw [h4]; exact cDead (hD.keptNew kA)
  have hrise : riseG Fl.name d.files := hD.ok.rise
  have hnm : ∀ f ∈ r.l, f.name.length ≤ maxLen := fun f hf => by
    have := hD.ok.name f.fl (by rw [← h3]; exact List.mem_map_of_mem hf)
    simp only [nameOk, Bool.and_eq_true, decide_eq_true_eq, RF.fl] at this
    have h3 : f.name.length ≤ 32 := of_decide_eq_true this.2.2
    unfold maxLen
    omega
  have hlk : ∀ f ∈ r.l, lookG Fl.name f.name d.files = some f.fl := fun f hf => lookG_mem hrise (by rw [← h3]; exact List.mem_map_of_mem hf) rfl
  have hnms : xs.map Ent.name = r.l.map RF.name := by rw [hnames, ← h3, List.map_map]; rfl
  have hLen := hid hlen
  have hNms := hid hnms
  have hRd : Hid (∀ A, Kp [] w A → ∀ f ∈ r.l, Calls Try.prog 17 #[.pointer (some ⟨p, 0, none⟩), .string ⟨f.name.toArray⟩] A (ReadP (some f.bytes) A)) := fun A kA f hf => by
    have := cRead (hD.keptNew kA) hB f.name (hnm f hf)
    rw [hlk f hf] at this
    exact this
  have aN := fun A (kA : Kp [] w A) => cNames (hD.keptNew kA) (by omega : xs.length ≤ 1000000000000)
  have aN1 := aN w1 k1
  have hl9 : r.l.length ≤ 1000000000 := by omega
  clear hlen hnms hnames hfr hrise hlk hnm h1 h2 h3 h4 hN aN hB
  obtain ⟨room, steps, fa, fc, l, armed, dead, left⟩ := r
  simp only [RD.v] at *
  have b0 := bx.c0; have b1 := bx.c1; have b2 := bx.c2; have b3 := bx.c3; have b4 := bx.c4; have b5 := bx.c5
  go_enter Try.func21, Try.ntmps21
  go_wp2_with fail
  refine aN1.mono ?_
  rintro e w2 ⟨na, nc, rfl, hrow, k2⟩
  obtain ⟨_, _, ev, hnm1, _⟩ := Nms.ofRow hrow
  simp only [List.length_map, Value.slice.injEq, true_and] at ev
  obtain ⟨rfl, rfl⟩ := ev
  rw [hNms.out] at hnm1
  rw [hLen.out]
  have bx2 := bx.kept k2
  have kw2 : Kp [] w w2.drew := (k1.trans k2 (by simp)).drew
  have hw1' := hid hw1
  have hr2 := hr.keptNew kw2
  obtain ⟨z, hz⟩ : ∃ z : Int, z = room - lens l := ⟨_, rfl⟩
  rw [← hz] at hF hRF
  have hS : Hid (∀ A, Kp [] w2.drew A → (Kp [] w2.drew A ∧ A.cell? ⟨w.heap.size, 0, none⟩ = some (.int .i64 room) ∧ A.cell? ⟨w.heap.size, 1, none⟩ = some (.int .i64 steps) ∧ A.cell? ⟨w.heap.size, 2, none⟩ = some (.slice fa l.length fc) ∧ A.cell? ⟨w.heap.size, 3, none⟩ = some (.bool armed) ∧ A.cell? ⟨w.heap.size, 4, none⟩ = some (.bool dead) ∧ A.cell? ⟨w.heap.size, 5, none⟩ = some (.int .i64 left))) := fun A kA => by
    have b := (bx2.kept (w' := w2.drew) (Kp.refl _ _).drew).kept kA
    exact ⟨kA, b.c0, b.c1, b.c2, b.c3, b.c4, b.c5⟩
  clear b0 b1 b2 b3 b4 b5 aN1 hrow hw1 hz hr
  go_wp2_with fail
  refine wp_region_held_drew (S := (fun A => Kp [] w2.drew A ∧ A.cell? ⟨w.heap.size, 0, none⟩ = some (.int .i64 room) ∧ A.cell? ⟨w.heap.size, 1, none⟩ = some (.int .i64 steps) ∧ A.cell? ⟨w.heap.size, 2, none⟩ = some (.slice fa l.length fc) ∧ A.cell? ⟨w.heap.size, 3, none⟩ = some (.bool armed) ∧ A.cell? ⟨w.heap.size, 4, none⟩ = some (.bool dead) ∧ A.cell? ⟨w.heap.size, 5, none⟩ = some (.int .i64 left))) (by kernel_rfl) ?_ (fun hHeld => ?_)
  · exact hS.out _ (Kp.refl _ _)
  refine wpAnyH_take (i := 0) (v := ?_) rfl (by kernel_rfl) (by kernel_rfl) (by kernel_rfl) (fun _ _ _ h => h) (Or.inl ⟨by rfl, ?_⟩) (by assumption) ?_
  rotate_left
  · intro w hSw; (try dsimp only at hSw); go_simp <;> with_reducible rfl
  try simp only [Act.put, List.getElem_toArray, List.getElem_cons_zero, List.getElem_cons_succ, List.setIfInBounds_toArray, List.set_cons_zero, List.set_cons_succ]
  refine wpAnyH_take (i := 1) (v := ?_) rfl (by kernel_rfl) (by kernel_rfl) (by kernel_rfl) (fun _ _ _ h => h) (Or.inl ⟨by rfl, ?_⟩) (by assumption) ?_
  rotate_left
  · intro w hSw; (try dsimp only at hSw); go_simp <;> with_reducible rfl
  try simp only [Act.put, List.getElem_toArray, List.getElem_cons_zero, List.getElem_cons_succ, List.setIfInBounds_toArray, List.set_cons_zero, List.set_cons_succ]
  refine wpAnyH_take (i := 2) (v := ?_) rfl (by kernel_rfl) (by kernel_rfl) (by kernel_rfl) (fun _ _ _ h => h) (Or.inl ⟨by rfl, ?_⟩) (by assumption) ?_
  rotate_left
  · intro w hSw; (try dsimp only at hSw); go_simp <;> with_reducible rfl
  try simp only [Act.put, List.getElem_toArray, List.getElem_cons_zero, List.getElem_cons_succ, List.setIfInBounds_toArray, List.set_cons_zero, List.set_cons_succ]
  refine wpAnyH_take (i := 3) (v := ?_) rfl (by kernel_rfl) (by kernel_rfl) (by kernel_rfl) (fun _ _ _ h => h) (Or.inl ⟨by rfl, ?_⟩) (by assumption) ?_
  rotate_left
  · intro w hSw; (try dsimp only at hSw); go_simp <;> with_reducible rfl
  try simp only [Act.put, List.getElem_toArray, List.getElem_cons_zero, List.getElem_cons_succ, List.setIfInBounds_toArray, List.set_cons_zero, List.set_cons_succ]
  refine wpAnyH_take (i := 4) (v := ?_) rfl (by kernel_rfl) (by kernel_rfl) (by kernel_rfl) (fun _ _ _ h => h) (Or.inl ⟨by rfl, ?_⟩) (by assumption) ?_
  rotate_left
  · intro w hSw; (try dsimp only at hSw); go_simp <;> with_reducible rfl
  try simp only [Act.put, List.getElem_toArray, List.getElem_cons_zero, List.getElem_cons_succ, List.setIfInBounds_toArray, List.set_cons_zero, List.set_cons_succ]
  refine wpAnyH_take (i := 5) (v := ?_) rfl (by kernel_rfl) (by kernel_rfl) (by kernel_rfl) (fun _ _ _ h => h) (Or.inl ⟨by rfl, ?_⟩) (by assumption) ?_
  rotate_left
  · intro w hSw; (try dsimp only at hSw); go_simp <;> with_reducible rfl
  try simp only [Act.put, List.getElem_toArray, List.getElem_cons_zero, List.getElem_cons_succ, List.setIfInBounds_toArray, List.set_cons_zero, List.set_cons_succ]
  refine wpAnyH_take (i := 6) (v := ?_) rfl (by kernel_rfl) (by kernel_rfl) (by kernel_rfl) (fun _ _ _ h => h) (Or.inl ⟨by rfl, ?_⟩) (by assumption) ?_
  rotate_left
  · intro w hSw; (try dsimp only at hSw); go_simp <;> with_reducible rfl
  try simp only [Act.put, List.getElem_toArray, List.getElem_cons_zero, List.getElem_cons_succ, List.setIfInBounds_toArray, List.set_cons_zero, List.set_cons_succ]
  refine wpAnyH_take (i := 7) (v := ?_) rfl (by kernel_rfl) (by kernel_rfl) (by kernel_rfl) (fun _ _ _ h => h) (Or.inl ⟨by rfl, ?_⟩) (by assumption) ?_
  rotate_left
  · intro w hSw; (try dsimp only at hSw); go_simp <;> with_reducible rfl
  try simp only [Act.put, List.getElem_toArray, List.getElem_cons_zero, List.getElem_cons_succ, List.setIfInBounds_toArray, List.set_cons_zero, List.set_cons_succ]
  refine wpAnyH_take (i := 9) (v := ?_) rfl (by kernel_rfl) (by kernel_rfl) (by kernel_rfl) (fun _ _ _ h => h) (Or.inl ⟨by rfl, ?_⟩) (by assumption) ?_
  rotate_left
  · intro w hSw; (try dsimp only at hSw); go_simp <;> with_reducible rfl
  try simp only [Act.put, List.getElem_toArray, List.getElem_cons_zero, List.getElem_cons_succ, List.setIfInBounds_toArray, List.set_cons_zero, List.set_cons_succ]
  refine wpAnyH_ready (rs := [8]) (by kernel_rfl) (by simp) ?_
  refine AllReadyH.cons rfl (fun K hK => ?_) AllReadyH.nil
  go_simp
  refine (hF.out _ kw2).mono ?_
  rintro e x1 ⟨rfl, kx1⟩
  (try go_wp2_with fail)
  refine hK.out _ _ ?_ (fun hHeld => ?_)
  · exact hS.out _ kx1
  clear hK K
  try simp only [Act.put, List.getElem_toArray, List.getElem_cons_zero, List.getElem_cons_succ, List.setIfInBounds_toArray, List.set_cons_zero, List.set_cons_succ]
  refine wpAnyH_ready (rs := [10]) (by kernel_rfl) (by simp) ?_
  refine AllReadyH.cons rfl (fun K hK => ?_) AllReadyH.nil
  go_simp
  refine (hRF.out _ (kw2.trans kx1 (by simp))).mono ?_
  rintro e x2 ⟨rfl, kx2⟩
  (try go_wp2_with fail)
  refine hK.out _ _ ?_ (fun hHeld => ?_)
  · exact hS.out _ (kx1.trans kx2 (by simp))
  clear hK K
  try simp only [Act.put, List.getElem_toArray, List.getElem_cons_zero, List.getElem_cons_succ, List.setIfInBounds_toArray, List.set_cons_zero, List.set_cons_succ]
  refine wpAnyH_take (i := 11) (v := ?_) rfl (by kernel_rfl) (by kernel_rfl) (by kernel_rfl) (fun _ _ _ h => h) (Or.inl ⟨by rfl, ?_⟩) (by assumption) ?_
  rotate_left
  · intro w hSw; (try dsimp only at hSw); go_simp <;> with_reducible rfl
  try simp only [Act.put, List.getElem_toArray, List.getElem_cons_zero, List.getElem_cons_succ, List.setIfInBounds_toArray, List.set_cons_zero, List.set_cons_succ]
  refine wpAnyH_take (i := 12) (v := ?_) rfl (by kernel_rfl) (by kernel_rfl) (by kernel_rfl) (fun _ _ _ h => h) (Or.inl ⟨by rfl, ?_⟩) (by assumption) ?_
  rotate_left
  · intro w hSw; (try dsimp only at hSw); go_simp <;> with_reducible rfl
  try simp only [Act.put, List.getElem_toArray, List.getElem_cons_zero, List.getElem_cons_succ, List.setIfInBounds_toArray, List.set_cons_zero, List.set_cons_succ]
  refine wpAnyH_take (i := 13) (v := ?_) rfl (by kernel_rfl) (by kernel_rfl) (by kernel_rfl) (fun _ _ _ h => h) (Or.inl ⟨by rfl, ?_⟩) (by assumption) ?_
  rotate_left
  · intro w hSw; (try dsimp only at hSw); go_simp <;> with_reducible rfl
  try simp only [Act.put, List.getElem_toArray, List.getElem_cons_zero, List.getElem_cons_succ, List.setIfInBounds_toArray, List.set_cons_zero, List.set_cons_succ]
  refine wpAnyH_take (i := 14) (v := ?_) rfl (by kernel_rfl) (by kernel_rfl) (by kernel_rfl) (fun _ _ _ h => h) (Or.inl ⟨by rfl, ?_⟩) (by assumption) ?_
  rotate_left
  · intro w hSw; (try dsimp only at hSw); go_simp <;> with_reducible rfl
  try simp only [Act.put, List.getElem_toArray, List.getElem_cons_zero, List.getElem_cons_succ, List.setIfInBounds_toArray, List.set_cons_zero, List.set_cons_succ]
  refine wpAnyH_take (i := 16) (v := ?_) rfl (by kernel_rfl) (by kernel_rfl) (by kernel_rfl) (fun _ _ _ h => h) (Or.inl ⟨by rfl, ?_⟩) (by assumption) ?_
  rotate_left
  · intro w hSw; (try dsimp only at hSw); go_simp <;> with_reducible rfl
  try simp only [Act.put, List.getElem_toArray, List.getElem_cons_zero, List.getElem_cons_succ, List.setIfInBounds_toArray, List.set_cons_zero, List.set_cons_succ]
  refine wpAnyH_take (i := 17) (v := ?_) rfl (by kernel_rfl) (by kernel_rfl) (by kernel_rfl) (fun _ _ _ h => h) (Or.inl ⟨by rfl, ?_⟩) (by assumption) ?_
  rotate_left
  · intro w hSw; (try dsimp only at hSw); go_simp <;> with_reducible rfl
  try simp only [Act.put, List.getElem_toArray, List.getElem_cons_zero, List.getElem_cons_succ, List.setIfInBounds_toArray, List.set_cons_zero, List.set_cons_succ]
  refine wpAnyH_ready (rs := [15]) (by kernel_rfl) (by simp) ?_
  refine AllReadyH.cons rfl (fun K hK => ?_) AllReadyH.nil
  go_simp
  refine (hSt.out _ (kw2.trans (kx1.trans kx2 (by simp)) (by simp))).mono ?_
  rintro e x3 ⟨rfl, hx3⟩
  rw [hx3]
  (try go_wp2_with fail)
  refine hK.out _ _ ?_ (fun hHeld => ?_)
  · exact hHeld
  clear hK K
  try simp only [Act.put, List.getElem_toArray, List.getElem_cons_zero, List.getElem_cons_succ, List.setIfInBounds_toArray, List.set_cons_zero, List.set_cons_succ]
  refine wpAnyH_take (i := 18) (v := ?_) rfl (by kernel_rfl) (by kernel_rfl) (by kernel_rfl) (fun _ _ _ h => h) (Or.inl ⟨by rfl, ?_⟩) (by assumption) ?_
  rotate_left
  · intro w hSw; (try dsimp only at hSw); go_simp <;> with_reducible rfl
  try simp only [Act.put, List.getElem_toArray, List.getElem_cons_zero, List.getElem_cons_succ, List.setIfInBounds_toArray, List.set_cons_zero, List.set_cons_succ]
  refine wpAnyH_take (i := 19) (v := ?_) rfl (by kernel_rfl) (by kernel_rfl) (by kernel_rfl) (fun _ _ _ h => h) (Or.inl ⟨by rfl, ?_⟩) (by assumption) ?_
  rotate_left
  · intro w hSw; (try dsimp only at hSw); go_simp <;> with_reducible rfl
  try simp only [Act.put, List.getElem_toArray, List.getElem_cons_zero, List.getElem_cons_succ, List.setIfInBounds_toArray, List.set_cons_zero, List.set_cons_succ]
  refine wpAnyH_take (i := 20) (v := ?_) rfl (by kernel_rfl) (by kernel_rfl) (by kernel_rfl) (fun _ _ _ h => h) (Or.inl ⟨by rfl, ?_⟩) (by assumption) ?_
  rotate_left
  · intro w hSw; (try dsimp only at hSw); go_simp <;> with_reducible rfl
  try simp only [Act.put, List.getElem_toArray, List.getElem_cons_zero, List.getElem_cons_succ, List.setIfInBounds_toArray, List.set_cons_zero, List.set_cons_succ]
  refine wpAnyH_take (i := 21) (v := ?_) rfl (by kernel_rfl) (by kernel_rfl) (by kernel_rfl) (fun _ _ _ h => h) (Or.inl ⟨by rfl, ?_⟩) (by assumption) ?_
  rotate_left
  · intro w hSw; (try dsimp only at hSw); go_simp <;> with_reducible rfl
  try simp only [Act.put, List.getElem_toArray, List.getElem_cons_zero, List.getElem_cons_succ, List.setIfInBounds_toArray, List.set_cons_zero, List.set_cons_succ]
  refine wpAnyH_take (i := 23) (v := ?_) rfl (by kernel_rfl) (by kernel_rfl) (by kernel_rfl) (fun _ _ _ h => h) (Or.inl ⟨by rfl, ?_⟩) (by assumption) ?_
  rotate_left
  · intro w hSw; (try dsimp only at hSw); go_simp <;> with_reducible rfl
  try simp only [Act.put, List.getElem_toArray, List.getElem_cons_zero, List.getElem_cons_succ, List.setIfInBounds_toArray, List.set_cons_zero, List.set_cons_succ]
  refine wpAnyH_take (i := 24) (v := ?_) rfl (by kernel_rfl) (by kernel_rfl) (by kernel_rfl) (fun _ _ _ h => h) (Or.inl ⟨by rfl, ?_⟩) (by assumption) ?_
  rotate_left
  · intro w hSw; (try dsimp only at hSw); go_simp <;> with_reducible rfl
  try simp only [Act.put, List.getElem_toArray, List.getElem_cons_zero, List.getElem_cons_succ, List.setIfInBounds_toArray, List.set_cons_zero, List.set_cons_succ]
  refine wpAnyH_ready (rs := [22]) (by kernel_rfl) (by simp) ?_
  refine AllReadyH.cons rfl (fun K hK => ?_) AllReadyH.nil
  go_simp
  refine (hDd.out _ (kw2.trans (kx1.trans kx2 (by simp)) (by simp))).mono ?_
  rintro e x4 ⟨rfl, hx4⟩
  rw [hx4]
  (try go_wp2_with fail)
  refine hK.out _ _ ?_ (fun hHeld => ?_)
  · exact hHeld
  clear hK K
  try simp only [Act.put, List.getElem_toArray, List.getElem_cons_zero, List.getElem_cons_succ, List.setIfInBounds_toArray, List.set_cons_zero, List.set_cons_succ]
  refine wpAnyH_take (i := 25) (v := ?_) rfl (by kernel_rfl) (by kernel_rfl) (by kernel_rfl) (fun _ _ _ h => h) (Or.inl ⟨by rfl, ?_⟩) (by assumption) ?_
  rotate_left
  · intro w hSw; (try dsimp only at hSw); go_simp <;> with_reducible rfl
  try simp only [Act.put, List.getElem_toArray, List.getElem_cons_zero, List.getElem_cons_succ, List.setIfInBounds_toArray, List.set_cons_zero, List.set_cons_succ]
  refine wpAnyH_take (i := 26) (v := ?_) rfl (by kernel_rfl) (by kernel_rfl) (by kernel_rfl) (fun _ _ _ h => h) (Or.inl ⟨by rfl, ?_⟩) (by assumption) ?_
  rotate_left
  · intro w hSw; (try dsimp only at hSw); go_simp <;> with_reducible rfl
  try simp only [Act.put, List.getElem_toArray, List.getElem_cons_zero, List.getElem_cons_succ, List.setIfInBounds_toArray, List.set_cons_zero, List.set_cons_succ]
  refine wpAnyH_done (by kernel_rfl) ?_ _
  go_wp2_with fail
  have kA2 : Kp [] w2 x2 := ((Kp.refl [] w2).drew).trans (kx1.trans kx2 (by simp)) (by simp)
  have bxA := bx2.kept kA2
  have e2 := bxA.c2
  clear hHeld
  go_wp2_with fail
  go_loopw [42] (fun i wn => ∃ j : Nat, j ≤ l.length ∧ i = .int .i64 j ∧ Kp [] w2.drew wn) (fun i _ => l.length - (intOf i).toNat)
  case atStart => exact ⟨0, Nat.zero_le _, rfl, (kx1.trans kx2 (by simp))⟩
  case round =>
    clear e2
    obtain ⟨j, hj, rfl, kn⟩ := hrel
    by_cases hjl : j < l.length
    · obtain ⟨f, hf⟩ : ∃ f, l[j]? = some f := ⟨l[j], by simp [hjl]⟩
      have hfm := List.mem_of_getElem? hf
      have hfn : (l.map RF.name)[j]? = some f.name := by simp [hf]
      rcases hnm1 with hnil | ⟨g1, rfl, hc1⟩
      · rw [hnil] at hfn; simp at hfn
      have hrn := hr2.keptNew kn
      obtain ⟨g, o, ea, c0, c1, c2⟩ := hrn.fls.at hf
      simp only at ea
      subst ea
      have hse := hrn.see f hfm
      obtain ⟨wb, hwb⟩ : ∃ wb, wr.alloc (.cells #[.string ⟨f.name.toArray⟩, .slice f.ba f.bytes.length f.bc, .int .i64 (f.last : Int)] 45) = wb := ⟨_, rfl⟩
      have kb : Kp [] wr wb := by rw [← hwb]; exact (Kp.refl _ _).alloc _
      have bf : B3 wb wr.heap.size (.string ⟨f.name.toArray⟩) (.slice f.ba f.bytes.length f.bc) (.int .i64 (f.last : Int)) := by rw [← hwb]; exact B3.at _ rfl _ _ _ _
      have knb : Kp [] w2.drew wb := kn.trans kb (by simp)
      have aR := hRd.out wb (kw2.trans knb (by simp)) f hfm
      have f0 := bf.c0
      have hwb' := hid hwb
      have hcn := hc1 j _ hfn
      clear hc1 hf hfn hwb
      go_wp2_with fail
      rw [hwb'.out]
      clear c0 c1 c2
      go_wp2_with fail
      refine aR.mono ?_
      rintro e w8 ⟨ra, rc, rfl, hr8, k8, _⟩
      obtain ⟨_, _, er8, hs8, _⟩ := hr8.sees
      cases er8
      have bf8 := bf.kept k8
      have hse8 : Sees w8 f.ba f.bytes := (hse.1.kept kb (by simp)).kept k8 (by simp)
      obtain ⟨str, hstr⟩ : ∃ str : ByteArray, str = ⟨f.bytes.toArray⟩ := ⟨_, rfl⟩
      obtain ⟨ln, hln⟩ : ∃ ln : Nat, ln = f.bytes.length := ⟨_, rfl⟩
      obtain ⟨nst, hnst⟩ : ∃ nst : ByteArray, nst = ⟨f.name.toArray⟩ := ⟨_, rfl⟩
      have k28 : Kp [] w2 w8 := (((Kp.refl [] w2).drew).trans knb (by simp)).trans k8 (by simp)
      have d1 : w8.drew.cell? ⟨g1, j, none⟩ = some (.string nst) := by rw [hnst]; exact cell_kp k28.drew hcn
      have d2 : w8.drew.cell? ⟨wr.heap.size, 0, none⟩ = some (.string nst) := by rw [hnst]; exact (bf8.kept (w' := w8.drew) (Kp.refl _ _).drew).c0
      have d3 : w8.drew.cell? ⟨wr.heap.size, 1, none⟩ = some (.slice f.ba ln f.bc) := by rw [hln]; exact (bf8.kept (w' := w8.drew) (Kp.refl _ _).drew).c1
      have cv1 : (convert 34 9 (.slice ra ln rc)).run Try.prog w8.drew = .ok (.string str) w8.drew := by rw [hln, hstr]; exact convSees hs8.drew rc
      have cv2 : (convert 34 9 (.slice f.ba ln f.bc)).run Try.prog w8.drew = .ok (.string str) w8.drew := by rw [hln, hstr]; exact convSees hse8.drew f.bc
      rw [← hln]
      have hfin : Kp [] w2.drew w8.drew := (knb.trans k8 (by simp)).drew
      have hSf : w8.drew.cell? ⟨g1, j, none⟩ = some (.string nst) ∧ w8.drew.cell? ⟨wr.heap.size, 0, none⟩ = some (.string nst) ∧ w8.drew.cell? ⟨wr.heap.size, 1, none⟩ = some (.slice f.ba ln f.bc) ∧ (convert 34 9 (.slice ra ln rc)).run Try.prog w8.drew = .ok (.string str) w8.drew ∧ (convert 34 9 (.slice f.ba ln f.bc)).run Try.prog w8.drew = .ok (.string str) w8.drew := ⟨d1, d2, d3, cv1, cv2⟩
      clear aR hcn hs8 hr8 bf bf8 hse hse8 f0 hln hstr hnst
      go_wp2_with fail
      go_region_held3 (fun w' => w'.cell? ⟨g1, j, none⟩ = some (.string nst) ∧ w'.cell? ⟨wr.heap.size, 0, none⟩ = some (.string nst) ∧ w'.cell? ⟨wr.heap.size, 1, none⟩ = some (.slice f.ba ln f.bc) ∧ (convert 34 9 (.slice ra ln rc)).run Try.prog w' = .ok (.string str) w' ∧ (convert 34 9 (.slice f.ba ln f.bc)).run Try.prog w' = .ok (.string str) w')
        (first | assumption) (fail)
      go_wp2_with fail
      exact ⟨⟨j + 1, by omega, by go_num, hfin⟩, by simp [intOf]; omega⟩
    · have kf : Kp [] w wr := kw2.trans kn (by simp)
      go_wp2_with fail
      go_ret
      exact ⟨rfl, kf⟩
end Go.Proofs.Ytgllkonbgigcbaa
end

section
namespace Go.Proofs.Ytgllkonbgigcbaa
open Go.RowKit Go.Hay
set_option linter.unusedVariables false
set_option linter.unusedSimpArgs false

/-- What step leaves: the disk to go on with, the reference behind it; they tell the same. -/
def StQ (p mb : Nat) (xs : List Ent) (r : RD) (o : DOp) (d' : Dk) (w : World) (e : Ending) (w' : World) : Prop :=
  ∃ (p' mb' : Nat) (xs' : List Ent) (r' : RD), e = .returned (.tuple #[.pointer (some ⟨p', 0, none⟩), r'.v, .bool true]) ∧ Disk w' p' mb' xs' d' ∧ RdOk w' r' ∧ Like r' d' ∧ Kp (foot p mb xs) w w' ∧ (∀ k ∈ foot p' mb' xs', k ∈ foot p mb xs ∨ w.heap.size ≤ k) ∧ (∀ k ∈ r'.foot, k ∈ r.foot ∨ w.heap.size ≤ k) ∧ (∀ k ∈ r'.foot, k ∉ foot p' mb' xs') ∧ (o.kind ≠ 9 → o.kind ≠ 10 → p' = p ∧ mb' = mb)
theorem stFin {p mb p' mb' : Nat} {xs xs' : List Ent} {r r' : RD} {o : DOp} {d' : Dk} {w W W' : World} {q : Nat} (k : Kp (foot p mb xs) w W) (hD' : Disk W p' mb' xs' d') (hr' : RdOk W r') (hL' : Like r' d') (n1 : ∀ k ∈ foot p' mb' xs', k ∈ foot p mb xs ∨ w.heap.size ≤ k) (n2 : ∀ k ∈ r'.foot, k ∈ r.foot ∨ w.heap.size ≤ k) (n3 : ∀ k ∈ r'.foot, k ∉ foot p' mb' xs')
    (hq : w.heap.size ≤ q) (qn1 : q ∉ foot p' mb' xs') (qn2 : q ∉ r'.foot) (k5 : Kp [q] W W') (hp : o.kind ≠ 9 → o.kind ≠ 10 → p' = p ∧ mb' = mb) : StQ p mb xs r o d' w (.returned (.tuple #[.pointer (some ⟨p', 0, none⟩), r'.v, .bool true])) W' :=
  ⟨p', mb', xs', r', rfl, hD'.kept k5 (fun k hk h => by simp at h; subst h; exact qn1 hk), hr'.kept k5 (fun k hk h => by simp at h; subst h; exact qn2 hk), hL', k.trans k5 (fun x hx => .inr (by simp at hx; omega)), n1, n2, n3, hp⟩
theorem kpSet6 (q : Nat) (W : World) (a b c d e f : Value) : Kp [q] W ((((((W.setCell ⟨q, 0, none⟩ a).setCell ⟨q, 1, none⟩ b).setCell ⟨q, 2, none⟩ c).setCell ⟨q, 3, none⟩ d).setCell ⟨q, 4, none⟩ e).setCell ⟨q, 5, none⟩ f) := by
  have k : ∀ (A : World) (j : Nat) (u : Value), Kp [q] W A → Kp [q] W (A.setCell ⟨q, j, none⟩ u) := fun A j u hA => hA.setCell (p := ⟨q, j, none⟩) (by simp) u
  exact k _ _ _ (k _ _ _ (k _ _ _ (k _ _ _ (k _ _ _ (k _ _ _ (Kp.refl _ _))))))
/-- The call's last field, in its box. -/
theorem boxC6 (r : RD) (o : DOp) (w : World) {w1 : World} (h : ((w.alloc (.cells #[.int .i64 r.room, .int .i64 r.steps, .slice r.fa r.l.length r.fc, .bool r.armed, .bool r.dead, .int .i64 r.left] 28)).alloc (.cells #[.int .i64 o.kind, .string ⟨o.name.toArray⟩, .string ⟨o.to.toArray⟩, .slice o.b.a o.b.bs.length o.b.c, .int .i64 o.n, .int .i64 o.bit, .slice o.ka o.ks.length o.kc] 36)).alloc (.cells #[.int .i64 0, .int .i64 0, .slice none 0 0, .bool false, .bool false, .int .i64 0] 28) = w1) : w1.cell? ⟨w.heap.size + 1, 6, none⟩ = some (.slice o.ka o.ks.length o.kc) := by
  rw [← h]
  refine cell_kp ((Kp.refl _ _).alloc _) ?_
  have := World.cell?_alloc_new (w.alloc (.cells #[.int .i64 r.room, .int .i64 r.steps, .slice r.fa r.l.length r.fc, .bool r.armed, .bool r.dead, .int .i64 r.left] 28)) #[.int .i64 o.kind, .string ⟨o.name.toArray⟩, .string ⟨o.to.toArray⟩, .slice o.b.a o.b.bs.length o.b.c, .int .i64 o.n, .int .i64 o.bit, .slice o.ka o.ks.length o.kc] 36 6
  rw [World.size_alloc] at this
  exact this
theorem B6.keptL {w w' : World} {q : Nat} {a b c d e f : Value} {S : List Nat} (h : B6 w q a b c d e f) (hk : Kp S w w') (hq : q ∉ S) : B6 w' q a b c d e f := h.keptS hk hq
end Go.Proofs.Ytgllkonbgigcbaa
end

/- change, beside a reference without files; two disks that stand beside each other. -/
import Derived.Test.YtgllkonbgigcbabWpln
namespace Go.Proofs.Ytgllkonbgigcbab
open Go.RowKit Go.Hay
set_option linter.unusedVariables false
set_option linter.unusedSimpArgs false

def Chg0 (p mb : Nat) (xs : List Ent) (d' : Dk) (w : World) (e : Ending) (w' : World) : Prop :=
  ∃ (v : Value) (b : Bool) (xs' : List Ent), e = .returned (.tuple #[v, .bool b]) ∧ Disk w' p mb xs' d' ∧ Mv (foot p mb xs) w (foot p mb xs') w'
theorem chg0 {p mb : Nat} {xs : List Ent} {d' : Dk} {T : List Nat} {rd : Dk} {b : Bool} {w w' : World} {e : Ending} (h : ChP p mb xs d' T rd b w e w') : Chg0 p mb xs d' w e w' := by
  obtain ⟨v, xs', _, _, _, he, h1, h2, _⟩ := h
  exact ⟨v, b, xs', he, h1, h2⟩
theorem okNew0 : Okd (newD 0) := ⟨List.Pairwise.nil, by simp [newD], by simp [newD], by simp [newD, sumF], by simp [newD], by simp [newD]⟩
theorem cChange0 {w : World} {p mb : Nat} {xs : List Ent} {room s : Nat} {files : List Fl} (hD : Disk w p mb xs ⟨room, s, files, none, false⟩) {K J : Nat} (hlow : Low K J ⟨room, s, files, none, false⟩) (hs : s < 9000000000000000000) (r : RD) (hr : RdOk w r) (hL : Like r (newD 0)) (o : DOp) (hko : o.kind < 5) (hok : o.ok w)
    (hK : K + o.b.bs.length ≤ 100000000000000) (hJ : J ≤ 1000000000000) (hoff : o.b.bs ≠ [] → ∀ k ∈ blk o.b.a, k ∉ foot p mb xs) :
    Calls Try.prog 6 #[.pointer (some ⟨p, 0, none⟩), r.v, o.v] w (Chg0 p mb xs (chgD ⟨room, s, files, none, false⟩ o) w) := by
  have hN : xs.length < 9000000000000000000 := by have := len_of hD; have := hlow.len; simp only at *; omega
  have hsm : Small ⟨room, s, files, none, false⟩ := hlow.small (by omega)
  have hfl := hlow.file o.name
  have hl0 : r.l.length ≤ 1000000000 := by have := hL.files; simp only [newD, List.map_eq_nil_iff] at this; rw [this]; simp
  have hdo : ∀ (c : Int) (to : List UInt8) (n : Int), to.length ≤ maxLen → ∀ W, Kp [] w W → Calls Try.prog 19 #[r.v, .int .i64 c, .string ⟨o.name.toArray⟩, .string ⟨to.toArray⟩, .int .i64 n] W (RefE r.foot (doD (newD 0) c o.name to n) W) := fun c to n hto W kW => cRefDo0 r (newD 0) W (hr.keptNew kW) hL rfl c o.name to hto n
  unfold chgD
  by_cases h0 : o.kind = 0
  · rw [if_pos h0]
    exact (cChgAppend hD hs hN hsm r (appendD (newD 0) o.name o.b.bs) o h0 hok.name hok.b.see hoff (by omega)
      (fun W kW => cRefAppend r (newD 0) W (hr.keptNew kW) hL okNew0 hl0 (by simp [newD]) o.name hok.name o.b.a o.b.c o.b.bs (hok.b.see.kept kW (by simp)) (by simp [newD, fileOf, lookG]; omega))).mono fun e w' h => chg0 h
  rw [if_neg h0]
  by_cases h1 : o.kind = 1
  · rw [if_pos h1]
    exact (cChgSync hD hs r _ o h1 hok.name (hdo 1 [] 0 (by simp))).mono fun e w' h => chg0 h
  rw [if_neg h1]
  by_cases h2 : o.kind = 2
  · rw [if_pos h2]
    exact (cChgTrunc hD hs hsm r _ o h2 hok.name hok.n0 hok.n1 (hdo 2 [] o.n (by simp))).mono fun e w' h => chg0 h
  rw [if_neg h2]
  by_cases h3 : o.kind = 3
  · rw [if_pos h3]
    exact (cChgRename hD hs hN r _ o h3 hok.name hok.to (hdo 3 o.to 0 hok.to)).mono fun e w' h => chg0 h
  rw [if_neg h3]
  by_cases h4 : o.kind = 4
  · rw [if_pos h4]
    exact (cChgRemove hD hs r _ o h4 hok.name (hdo 4 [] 0 (by simp))).mono fun e w' h => chg0 h
  rw [if_neg h4]
  exact (cChgFlip hD hsm r (flipD (newD 0) o.name o.n o.bit, flipOk (newD 0) o.name o.n o.bit) o h0 h1 h2 h3 h4 (by omega) (by omega) hok.name hok.n0 hok.n1 hok.b0 hok.b1 (fun W kW => cRefFlip0 r (newD 0) W (hr.keptNew kW) hL rfl o.name o.n o.bit)).mono fun e w' h => chg0 h

/-- Two disks beside each other. -/
structure Two (W w : World) (p mb : Nat) (xs : List Ent) (d : Dk) (p2 mb2 : Nat) (ys : List Ent) (e : Dk) : Prop where
  D1 : Disk w p mb xs d
  D2 : Disk w p2 mb2 ys e
  kp : Kp [] W w
  n1 : ∀ k ∈ foot p mb xs, W.heap.size ≤ k
  n2 : ∀ k ∈ foot p2 mb2 ys, W.heap.size ≤ k
  dj : ∀ k ∈ foot p mb xs, k ∉ foot p2 mb2 ys
section
variable {W w w' : World} {p mb p2 mb2 : Nat} {xs ys xs' ys' : List Ent} {d e d' e' : Dk}
theorem Two.keep (h : Two W w p mb xs d p2 mb2 ys e) (hk : Kp [] w w') : Two W w' p mb xs d p2 mb2 ys e := ⟨h.D1.keptNew hk, h.D2.keptNew hk, h.kp.trans hk (by simp), h.n1, h.n2, h.dj⟩
theorem Two.chg1 (h : Two W w p mb xs d p2 mb2 ys e) (hD : Disk w' p mb xs' d') (mv : Mv (foot p mb xs) w (foot p mb xs') w') : Two W w' p mb xs' d' p2 mb2 ys e :=
  ⟨hD, h.D2.kept mv.kp (fun k hk hx => h.dj k hx hk), h.kp.trans mv.kp (fun k hk => .inr (h.n1 k hk)), fun k hk => by
    rcases mv.new k hk with h1 | h1
    · exact h.n1 k h1
    · have := h.kp.size; omega, h.n2, fun k hk hx => by
    rcases mv.new k hk with h1 | h1
    · exact h.dj k h1 hx
    · have := h.D2.lt k hx; omega⟩
theorem Two.chg2 (h : Two W w p mb xs d p2 mb2 ys e) (hD : Disk w' p2 mb2 ys' e') (mv : Mv (foot p2 mb2 ys) w (foot p2 mb2 ys') w') : Two W w' p mb xs d p2 mb2 ys' e' :=
  ⟨h.D1.kept mv.kp (fun k hk hx => h.dj k hk hx), hD, h.kp.trans mv.kp (fun k hk => .inr (h.n2 k hk)), h.n1, fun k hk => by
    rcases mv.new k hk with h1 | h1
    · exact h.n2 k h1
    · have := h.kp.size; omega, fun k hk hx => by
    rcases mv.new k hx with h1 | h1
    · exact h.dj k hk h1
    · have := h.D1.lt k hk; omega⟩
end
/-- A call's seven cells in a box. -/
def Op7 (q : Nat) (o : DOp) (w : World) : Prop :=
  w.cell? ⟨q, 0, none⟩ = some (.int .i64 o.kind) ∧ w.cell? ⟨q, 1, none⟩ = some (.string ⟨o.name.toArray⟩) ∧ w.cell? ⟨q, 2, none⟩ = some (.string ⟨o.to.toArray⟩) ∧ w.cell? ⟨q, 3, none⟩ = some (.slice o.b.a o.b.bs.length o.b.c) ∧ w.cell? ⟨q, 4, none⟩ = some (.int .i64 o.n) ∧ w.cell? ⟨q, 5, none⟩ = some (.int .i64 o.bit) ∧ w.cell? ⟨q, 6, none⟩ = some (.slice o.ka o.ks.length o.kc)
theorem Op7.kept {q : Nat} {o : DOp} {w w' : World} {S : List Nat} (h : Op7 q o w) (hk : Kp S w w') (hq : q ∉ S) : Op7 q o w' := by
  obtain ⟨a0, a1, a2, a3, a4, a5, a6⟩ := h
  have hl := World.block_lt_of_cell? _ _ a0
  exact ⟨(hk.cell (p := ⟨q, 0, none⟩) hl hq).trans a0, (hk.cell (p := ⟨q, 1, none⟩) hl hq).trans a1, (hk.cell (p := ⟨q, 2, none⟩) hl hq).trans a2, (hk.cell (p := ⟨q, 3, none⟩) hl hq).trans a3, (hk.cell (p := ⟨q, 4, none⟩) hl hq).trans a4, (hk.cell (p := ⟨q, 5, none⟩) hl hq).trans a5, (hk.cell (p := ⟨q, 6, none⟩) hl hq).trans a6⟩
theorem box7 (o : DOp) (w : World) : ∃ w1, w.alloc (.cells #[.int .i64 o.kind, .string ⟨o.name.toArray⟩, .string ⟨o.to.toArray⟩, .slice o.b.a o.b.bs.length o.b.c, .int .i64 o.n, .int .i64 o.bit, .slice o.ka o.ks.length o.kc] 29) = w1 ∧ Kp [] w w1 ∧ Op7 w.heap.size o w1 ∧ w.heap.size < w1.heap.size :=
  ⟨_, rfl, (Kp.refl _ _).alloc _, ⟨World.cell?_alloc_new w _ _ 0, World.cell?_alloc_new w _ _ 1, World.cell?_alloc_new w _ _ 2, World.cell?_alloc_new w _ _ 3, World.cell?_alloc_new w _ _ 4, World.cell?_alloc_new w _ _ 5, World.cell?_alloc_new w _ _ 6⟩, by simp⟩
/-- The bytes of calls. -/
def sumB (l : List DOp) : Nat := (l.map fun o => o.b.bs.length).sum
theorem sumB_take {l : List DOp} {j : Nat} {o : DOp} (h : l[j]? = some o) : sumB (l.take (j + 1)) = sumB (l.take j) + o.b.bs.length := by
  have hj := (List.getElem?_eq_some_iff.1 h).1
  have he := (List.getElem?_eq_some_iff.1 h).2
  unfold sumB
  rw [List.take_succ_eq_append_getElem hj, List.map_append, List.sum_append, he]
  simp
theorem sumB_le (l : List DOp) : ∀ j, sumB (l.take j) ≤ sumB l := by
  induction l with
  | nil => intro j; simp
  | cons o l ih =>
    intro j
    cases j with
    | zero => simp [sumB]
    | succ j => have := ih j; simp only [sumB, List.take_succ_cons, List.map_cons, List.sum_cons] at *; omega
theorem offArg {W w : World} {o : DOp} (ho : o.ok W) {F : List Nat} (h : ∀ k ∈ F, W.heap.size ≤ k) : o.b.bs ≠ [] → ∀ k ∈ blk o.b.a, k ∉ F := fun hb k hk hf => by
  have := h k hf
  have := ho.b.see.lt hb k hk
  omega
/-- The region 'change(d, ref.New(0), o)': from where it begins, to where it ends. -/
theorem newRef (w : World) : Calls Try.prog 7 #[.int .i64 0] w fun e w' => ∃ r : RD, e = .returned r.v ∧ RdOk w' r ∧ Like r (newD 0) ∧ Kp [] w w' :=
  (cRefNew 0 w (by omega)).mono fun e w' h => by
    obtain ⟨v, rfl, r, rfl, h1, h2, h3, _⟩ := h
    exact ⟨r, rfl, h1, h2, h3⟩
end Go.Proofs.Ytgllkonbgigcbab

/- How two rows are ordered. Slices of slices of values. A range over an iterator that makes memory of its own, which the rounds leave alone: a law. No statement of the seat is proved here. A range over an iterator that ranges over another one: its own steps turn records of its own, and the rounds leave these alone: a law. No statement of the seat is proved here. Rows of values of the calls' own, that grow. Values as elements. Rows that are ranged over: what an iterator of rows promises, and who ranges over it keeps. slices.Values over rows. A block's cells. Rows that are gathered: a row of rows, each in blocks of its own. -/
import Derived.Test.YtohkjikhlakglaaB1
import Derived.Deep.RegionHeld3
import Derived.Deep.RegionWith
import Derived.RangeFuncNested
import Derived.RangeFuncBound
import Derived.RangeFuncCalls
import Derived.RangeFuncLeaves
import Derived.RangeFuncSeq
import Derived.Deep.DeepAppendWide
import Derived.Laws.AppendOwnNone
import Derived.Shelf.RegionOpen
import Derived.LoopIn
import Derived.LoopNIn
import Derived.OrdersIn
import Derived.TacticsInMore
import Derived.OwnWalkIn
import Derived.RegionIn
section
namespace Go.Proofs.Ytohkjikhlakglaa
open Go.RowKit Go.Hay
set_option linter.unusedVariables false
set_option linter.unusedSimpArgs false

/-- Values, one behind the other. -/
def Vals (w : World) (a : Option Addr) (l : List Val) : Prop :=
  l = [] ∨ ∃ g o, a = some ⟨g, o, none⟩ ∧ ∀ j x, l[j]? = some x → w.cell? ⟨g, o + j * 4, none⟩ = some (.int .i64 x.k) ∧ w.cell? ⟨g, o + j * 4 + 1, none⟩ = some (.bool x.b) ∧ w.cell? ⟨g, o + j * 4 + 2, none⟩ = some (.int .i64 x.n) ∧ w.cell? ⟨g, o + j * 4 + 3, none⟩ = some (.string x.t)
theorem Vals.kept {w w' : World} {a : Option Addr} {l : List Val} (h : Vals w a l) (hk : Kp [] w w') : Vals w' a l := by
  rcases h with h | ⟨g, o, rfl, hc⟩
  · exact .inl h
  · refine .inr ⟨g, o, rfl, fun j t ht => ?_⟩
    obtain ⟨c0, c1, c2, c3⟩ := hc j t ht
    exact ⟨(hk.cell (World.block_lt_of_cell? _ _ c0) (by simp)).trans c0, (hk.cell (World.block_lt_of_cell? _ _ c1) (by simp)).trans c1, (hk.cell (World.block_lt_of_cell? _ _ c2) (by simp)).trans c2, (hk.cell (World.block_lt_of_cell? _ _ c3) (by simp)).trans c3⟩
theorem Vals.at {w : World} {a : Option Addr} {l : List Val} (h : Vals w a l) (j : Nat) (hj : j < l.length) : ∃ g o, a = some ⟨g, o, none⟩ ∧ w.cell? ⟨g, o + j * 4, none⟩ = some (.int .i64 l[j].k) ∧ w.cell? ⟨g, o + j * 4 + 1, none⟩ = some (.bool l[j].b) ∧ w.cell? ⟨g, o + j * 4 + 2, none⟩ = some (.int .i64 l[j].n) ∧ w.cell? ⟨g, o + j * 4 + 3, none⟩ = some (.string l[j].t) := by
  rcases h with h | ⟨g, o, rfl, hc⟩
  · subst h; simp at hj
  · exact ⟨g, o, rfl, hc j l[j] (by simp)⟩
/-- Cells that are there stay where nothing older turns. -/
theorem kpAt {w w' : World} {p : Addr} {v : Value} (hk : Kp [] w w') (h : w.cell? p = some v) : w'.cell? p = some v := (hk.cell (World.block_lt_of_cell? _ _ h) (by simp)).trans h

/-- The order of rows. -/
def rowsV : List Val → List Val → Int
  | [], [] => 0
  | [], _ :: _ => -1
  | _ :: _, [] => 1
  | x :: a, y :: b => if cmpV x y = 0 then rowsV a b else cmpV x y
theorem rowsV_step (a b : List Val) (j : Nat) (ha : j < a.length) (hb : j < b.length) : rowsV (a.drop j) (b.drop j) = if cmpV a[j] b[j] = 0 then rowsV (a.drop (j + 1)) (b.drop (j + 1)) else cmpV a[j] b[j] := by
  rw [List.drop_eq_getElem_cons ha, List.drop_eq_getElem_cons hb, rowsV]
theorem rowsV_end (a b : List Val) (j : Nat) (h : j = min a.length b.length) : rowsV (a.drop j) (b.drop j) = ci a.length b.length := by
  unfold ci
  rcases Nat.lt_trichotomy a.length b.length with h1 | h1 | h1
  · rw [if_pos (by omega), List.drop_eq_nil_of_le (by omega), List.drop_eq_getElem_cons (by omega : j < b.length), rowsV]
  · rw [if_neg (by omega), if_neg (by omega), List.drop_eq_nil_of_le (by omega), List.drop_eq_nil_of_le (by omega), rowsV]
  · rw [if_neg (by omega), if_pos (by omega), List.drop_eq_getElem_cons (by omega : j < a.length), List.drop_eq_nil_of_le (by omega : b.length ≤ j), rowsV]

set_option maxHeartbeats 2000000 in
set_option maxRecDepth 100000 in
theorem cRows (a b : Option Addr) (ca cb : Nat) (la lb : List Val) (w : World) (ha : Vals w a la) (hb : Vals w b lb) (hla : la.length ≤ 9223372036854775807) (hlb : lb.length ≤ 9223372036854775807) :
    Calls Try.prog 50 #[.slice a la.length ca, .slice b lb.length cb] w fun e w' => e = .returned (.int .i64 (rowsV la lb)) ∧ Kp [] w w' := by
  by_cases hlt : lb.length < la.length
  · go_enter Try.func50, Try.ntmps50
    go_wp2_with fail
    go_loopw [12] (fun i wn => ∃ j : Nat, j ≤ lb.length ∧ i = .int .i64 j ∧ Hid (rowsV (la.drop j) (lb.drop j) = rowsV la lb) ∧ Kp [] w wn) (fun i _ => lb.length - (intOf i).toNat)
    case atStart => exact ⟨0, Nat.zero_le _, rfl, rfl, Kp.refl _ _⟩
    case round =>
      obtain ⟨j, hj, rfl, hr, hk⟩ := hrel
      by_cases hjm : j < lb.length
      · have hja : j < la.length := by omega
        have hjb : j < lb.length := by omega
        obtain ⟨g, o, rfl, a0, a1, a2, a3⟩ := (ha.kept hk).at j hja
        obtain ⟨g', o', rfl, b0, b1, b2, b3⟩ := (hb.kept hk).at j hjb
        have hst := hid (rowsV_step la lb j hja hjb)
        generalize hx : la[j] = x at *
        generalize hy : lb[j] = y at *
        have hc := cCompare x y
        obtain ⟨c, Hc⟩ : ∃ c : Int, Hid (cmpV x y = c) := ⟨_, rfl⟩
        rw [Hc.out] at hc
        obtain ⟨xk, xb, xn, xt⟩ := x
        obtain ⟨yk, yb, yn, yt⟩ := y
        unfold Val.v at hc
        dsimp only at a0 a1 a2 a3 b0 b1 b2 b3 hc
        clear hx hy
        go_wp2_with fail
        go_region_held3 (fun w' => w'.cell? ⟨g, o + j * 4, none⟩ = some (.int .i64 xk) ∧ w'.cell? ⟨g, o + j * 4 + 1, none⟩ = some (.bool xb) ∧ w'.cell? ⟨g, o + j * 4 + 2, none⟩ = some (.int .i64 xn) ∧ w'.cell? ⟨g, o + j * 4 + 3, none⟩ = some (.string xt) ∧ w'.cell? ⟨g', o' + j * 4, none⟩ = some (.int .i64 yk) ∧ w'.cell? ⟨g', o' + j * 4 + 1, none⟩ = some (.bool yb) ∧ w'.cell? ⟨g', o' + j * 4 + 2, none⟩ = some (.int .i64 yn) ∧ w'.cell? ⟨g', o' + j * 4 + 3, none⟩ = some (.string yt)) (first | go_keep)
          (first | (go_at_call 54; refine (hc _).mono ?_; rintro e w1 ⟨rfl, k1⟩; have y0 := kpAt (w := wr.drew) k1 a0; have y1 := kpAt (w := wr.drew) k1 a1; have y2 := kpAt (w := wr.drew) k1 a2; have y3 := kpAt (w := wr.drew) k1 a3; have z0 := kpAt (w := wr.drew) k1 b0; have z1 := kpAt (w := wr.drew) k1 b1; have z2 := kpAt (w := wr.drew) k1 b2; have z3 := kpAt (w := wr.drew) k1 b3))
        have hkk := hk.drew.trans k1 (by simp)
        by_cases hc0 : c = 0
        · subst hc0
          have hn : Hid (rowsV (la.drop (j + 1)) (lb.drop (j + 1)) = rowsV la lb) := by show _ = _; rw [← hr.out, hst.out, if_pos Hc.out]
          clear hst hr
          go_wp2_with fail
          exact ⟨⟨j + 1, by omega, by go_num, hn, hkk⟩, by simp [intOf]; omega⟩
        · have hn : Hid (rowsV la lb = c) := by show _ = _; rw [← hr.out, hst.out, if_neg (by rw [Hc.out]; exact hc0), Hc.out]
          have hcc : (c == 0) = false := by simpa using hc0
          clear hst hr
          go_wp2_with fail
          go_ret
          exact ⟨by rw [hn.out]; rfl, hkk⟩
      · have he := hid (rowsV_end la lb j (by omega))
        have hn : Hid (rowsV la lb = ci la.length lb.length) := by show _ = _; rw [← hr.out, he.out]
        clear he hr
        go_wp2_with fail
        refine (cCmpI _ _ _).mono ?_
        rintro e w1 ⟨rfl, rfl⟩
        go_wp2_with fail
        go_ret
        exact ⟨by rw [hn.out]; rfl, hk⟩
  · go_enter Try.func50, Try.ntmps50
    go_wp2_with fail
    go_loopw [12] (fun i wn => ∃ j : Nat, j ≤ la.length ∧ i = .int .i64 j ∧ Hid (rowsV (la.drop j) (lb.drop j) = rowsV la lb) ∧ Kp [] w wn) (fun i _ => la.length - (intOf i).toNat)
    case atStart => exact ⟨0, Nat.zero_le _, rfl, rfl, Kp.refl _ _⟩
    case round =>
      obtain ⟨j, hj, rfl, hr, hk⟩ := hrel
      by_cases hjm : j < la.length
      · have hja : j < la.length := by omega
        have hjb : j < lb.length := by omega
        obtain ⟨g, o, rfl, a0, a1, a2, a3⟩ := (ha.kept hk).at j hja
        obtain ⟨g', o', rfl, b0, b1, b2, b3⟩ := (hb.kept hk).at j hjb
        have hst := hid (rowsV_step la lb j hja hjb)
        generalize hx : la[j] = x at *
        generalize hy : lb[j] = y at *
        have hc := cCompare x y
        obtain ⟨c, Hc⟩ : ∃ c : Int, Hid (cmpV x y = c) := ⟨_, rfl⟩
        rw [Hc.out] at hc
        obtain ⟨xk, xb, xn, xt⟩ := x
        obtain ⟨yk, yb, yn, yt⟩ := y
        unfold Val.v at hc
        dsimp only at a0 a1 a2 a3 b0 b1 b2 b3 hc
        clear hx hy
        go_wp2_with fail
        go_region_held3 (fun w' => w'.cell? ⟨g, o + j * 4, none⟩ = some (.int .i64 xk) ∧ w'.cell? ⟨g, o + j * 4 + 1, none⟩ = some (.bool xb) ∧ w'.cell? ⟨g, o + j * 4 + 2, none⟩ = some (.int .i64 xn) ∧ w'.cell? ⟨g, o + j * 4 + 3, none⟩ = some (.string xt) ∧ w'.cell? ⟨g', o' + j * 4, none⟩ = some (.int .i64 yk) ∧ w'.cell? ⟨g', o' + j * 4 + 1, none⟩ = some (.bool yb) ∧ w'.cell? ⟨g', o' + j * 4 + 2, none⟩ = some (.int .i64 yn) ∧ w'.cell? ⟨g', o' + j * 4 + 3, none⟩ = some (.string yt)) (first | go_keep)
          (first | (go_at_call 54; refine (hc _).mono ?_; rintro e w1 ⟨rfl, k1⟩; have y0 := kpAt (w := wr.drew) k1 a0; have y1 := kpAt (w := wr.drew) k1 a1; have y2 := kpAt (w := wr.drew) k1 a2; have y3 := kpAt (w := wr.drew) k1 a3; have z0 := kpAt (w := wr.drew) k1 b0; have z1 := kpAt (w := wr.drew) k1 b1; have z2 := kpAt (w := wr.drew) k1 b2; have z3 := kpAt (w := wr.drew) k1 b3))
        have hkk := hk.drew.trans k1 (by simp)
        by_cases hc0 : c = 0
        · subst hc0
          have hn : Hid (rowsV (la.drop (j + 1)) (lb.drop (j + 1)) = rowsV la lb) := by show _ = _; rw [← hr.out, hst.out, if_pos Hc.out]
          clear hst hr
          go_wp2_with fail
          exact ⟨⟨j + 1, by omega, by go_num, hn, hkk⟩, by simp [intOf]; omega⟩
        · have hn : Hid (rowsV la lb = c) := by show _ = _; rw [← hr.out, hst.out, if_neg (by rw [Hc.out]; exact hc0), Hc.out]
          have hcc : (c == 0) = false := by simpa using hc0
          clear hst hr
          go_wp2_with fail
          go_ret
          exact ⟨by rw [hn.out]; rfl, hkk⟩
      · have he := hid (rowsV_end la lb j (by omega))
        have hn : Hid (rowsV la lb = ci la.length lb.length) := by show _ = _; rw [← hr.out, he.out]
        clear he hr
        go_wp2_with fail
        refine (cCmpI _ _ _).mono ?_
        rintro e w1 ⟨rfl, rfl⟩
        go_wp2_with fail
        go_ret
        exact ⟨by rw [hn.out]; rfl, hk⟩

set_option maxHeartbeats 2000000 in
set_option maxRecDepth 100000 in
theorem cRefRows (a b : Option Addr) (ca cb : Nat) (la lb : List Val) (w : World) (ha : Vals w a la) (hb : Vals w b lb) (hla : la.length ≤ 9223372036854775807) (hlb : lb.length ≤ 9223372036854775807) :
    Calls Try.prog 22 #[.slice a la.length ca, .slice b lb.length cb] w fun e w' => e = .returned (.int .i64 (rowsV la lb)) ∧ Kp [] w w' := by
  go_enter Try.func22, Try.ntmps22
  go_wp2_with fail
  go_loopw [5] (fun i wn => ∃ j : Nat, j ≤ la.length ∧ j ≤ lb.length ∧ i = .int .i64 j ∧ Hid (rowsV (la.drop j) (lb.drop j) = rowsV la lb) ∧ Kp [] w wn) (fun i _ => la.length - (intOf i).toNat)
  case atStart => exact ⟨0, Nat.zero_le _, Nat.zero_le _, rfl, rfl, Kp.refl _ _⟩
  case round =>
    obtain ⟨j, hj, hj', rfl, hr, hk⟩ := hrel
    by_cases hja : j < la.length
    · by_cases hjb : j < lb.length
      · obtain ⟨g, o, rfl, a0, a1, a2, a3⟩ := (ha.kept hk).at j hja
        obtain ⟨g', o', rfl, b0, b1, b2, b3⟩ := (hb.kept hk).at j hjb
        have hst := hid (rowsV_step la lb j hja hjb)
        generalize hx : la[j] = x at *
        generalize hy : lb[j] = y at *
        have hc := cRefCompare x y
        obtain ⟨c, Hc⟩ : ∃ c : Int, Hid (cmpV x y = c) := ⟨_, rfl⟩
        rw [Hc.out] at hc
        obtain ⟨xk, xb, xn, xt⟩ := x
        obtain ⟨yk, yb, yn, yt⟩ := y
        unfold Val.v at hc
        dsimp only at a0 a1 a2 a3 b0 b1 b2 b3 hc
        clear hx hy
        have hne : ((j : Int) == (lb.length : Int)) = false := by simp; omega
        go_wp2_with fail
        go_region_held3 (fun w' => w'.cell? ⟨g, o + j * 4, none⟩ = some (.int .i64 xk) ∧ w'.cell? ⟨g, o + j * 4 + 1, none⟩ = some (.bool xb) ∧ w'.cell? ⟨g, o + j * 4 + 2, none⟩ = some (.int .i64 xn) ∧ w'.cell? ⟨g, o + j * 4 + 3, none⟩ = some (.string xt) ∧ w'.cell? ⟨g', o' + j * 4, none⟩ = some (.int .i64 yk) ∧ w'.cell? ⟨g', o' + j * 4 + 1, none⟩ = some (.bool yb) ∧ w'.cell? ⟨g', o' + j * 4 + 2, none⟩ = some (.int .i64 yn) ∧ w'.cell? ⟨g', o' + j * 4 + 3, none⟩ = some (.string yt)) (first | go_keep)
          (first | (go_at_call 41; refine (hc _).mono ?_; rintro e w1 ⟨rfl, k1⟩; have y0 := kpAt (w := wr.drew) k1 a0; have y1 := kpAt (w := wr.drew) k1 a1; have y2 := kpAt (w := wr.drew) k1 a2; have y3 := kpAt (w := wr.drew) k1 a3; have z0 := kpAt (w := wr.drew) k1 b0; have z1 := kpAt (w := wr.drew) k1 b1; have z2 := kpAt (w := wr.drew) k1 b2; have z3 := kpAt (w := wr.drew) k1 b3))
        have hkk := hk.drew.trans k1 (by simp)
        by_cases hc0 : c = 0
        · subst hc0
          have hn : Hid (rowsV (la.drop (j + 1)) (lb.drop (j + 1)) = rowsV la lb) := by show _ = _; rw [← hr.out, hst.out, if_pos Hc.out]
          clear hst hr
          go_wp2_with fail
          exact ⟨⟨j + 1, by omega, by omega, by go_num, hn, hkk⟩, by simp [intOf]; omega⟩
        · have hn : Hid (rowsV la lb = c) := by show _ = _; rw [← hr.out, hst.out, if_neg (by rw [Hc.out]; exact hc0), Hc.out]
          have hcc : (c == 0) = false := by simpa using hc0
          clear hst hr
          go_wp2_with fail
          go_ret
          exact ⟨by rw [hn.out]; rfl, hkk⟩
      · have hjl : j = lb.length := by omega
        have hn : Hid (rowsV la lb = 1) := by show _ = _; rw [← hr.out, rowsV_end la lb j (by omega), ci, if_neg (by omega), if_pos (by omega)]
        subst hjl
        clear hr
        go_wp2_with fail
        go_ret
        exact ⟨by rw [hn.out]; rfl, hk⟩
    · have hjl : j = la.length := by omega
      have he := hid (rowsV_end la lb j (by omega))
      subst hjl
      by_cases hll : la.length < lb.length
      · have hn : Hid (rowsV la lb = -1) := by show _ = _; rw [← hr.out, he.out, ci, if_pos (by omega)]
        clear he hr
        go_wp2_with fail
        go_ret
        exact ⟨by rw [hn.out]; rfl, hk⟩
      · have hn : Hid (rowsV la lb = 0) := by show _ = _; rw [← hr.out, he.out, ci, if_neg (by omega), if_neg (by omega)]
        clear he hr
        go_wp2_with fail
        go_ret
        exact ⟨by rw [hn.out]; rfl, hk⟩
end Go.Proofs.Ytohkjikhlakglaa
end

section
namespace Go.Proofs.Ytohkjikhlakglaa
open Go.RowKit Go.Hay
set_option linter.unusedVariables false

/-- A slice of values, and what it sees. -/
structure Vs where
  a : Option Addr
  c : Nat
  l : List Val
instance : Inhabited Vs := ⟨⟨none, 0, []⟩⟩
def VsE : El Vs where
  n := 1
  c x := [.slice x.a x.l.length x.c]
  len _ := rfl
  one _ u hu := by simp at hu; subst hu; rfl
  pos := by decide
theorem cellsVs : Try.prog.cellsOf 24 = 1 := by kernel_rfl
theorem bytesVs : Try.prog.bytesOf 24 = 24 := by kernel_rfl
end Go.Proofs.Ytohkjikhlakglaa
end

section
namespace Go.Hay
open Go.RowKit
set_option linter.unusedVariables false

variable {F : Fence} {n : Nat} {P : Program} {σ α : Type}

/-- What an iterator that stands at some s of σ promises: it hands on things x (as encs x), each behind a step T of its own, which may turn memory; a round that goes on takes it from s to nx s x and keeps what K says; S: it is at its end; Sp: a round has said 'no more'. -/
def SeqS (F : Fence) (n : Nat) (P : Program) (g : Nat) (lb : Array Value) (encs : α → Array Value) (T : σ → σ → World → World → Prop) (K : σ → World → World → Prop) (ok : σ → α → Prop) (nx : σ → α → σ) (S Sp : σ → Prop) (s0 : σ) (w : World) : Prop :=
  ∀ (l : Nat) (J Jx : σ → World → Prop) (W : World), K s0 w W → (∀ s s' A B, J s A → T s s' A B → J s' B) →
    (∀ s x A, J s A → ok s x → YieldAt F (n - 1) P l (encs x) A fun e A' => (e = .returned (.bool true) ∧ J (nx s x) A' ∧ K s A A') ∨ (e = .returned (.bool false) ∧ Jx (nx s x) A')) →
    J s0 W → CallsIn F n P g (#[.func (.yield l) #[] #[]] ++ lb) W fun e A' => (∃ v, e = .returned v) ∧ ((∃ s, S s ∧ J s A') ∨ (∃ s, Sp s ∧ Jx s A'))

/-- How a round's body may be left: B: from which block on whatever is no cells must lie as it lay. -/
def leftS (B : Nat) (K : σ → World → World → Prop) (I : σ → World → Prop) (Ix : Code → σ → World → Prop) (s0 s : σ) (W : World) : Exit → Act → World → Prop
  | .normal, _, W' => KeepsFrom B W W' ∧ K s0 W W' ∧ I s W'
  | .ret, _, W' => KeepsFrom B W W' ∧ Ix .ret s W'
  | .exit id, _, W' => KeepsFrom B W W' ∧ Ix (.exit id) s W'
  | .goto t, _, W' => KeepsFrom B W W' ∧ Ix (.goto t) s W'
  | _, _, _ => False

/-- The law. -/
theorem wpRangeS {g : Operand} {ps : Array Tmp} {assign body : Code} {Q : Exit → Act → World → Prop} {a : Act} {w : World}
    (hro : F.round = none) (h1 : 1 ≤ n) {gf : Nat} {lb : Array Value} (hg : a.eval g = .func (.func gf) #[] lb) (hFg : F.fn gf) (eg : ∀ args w, (callFunc gf args).run P w = .ok (.enter gf args) w)
    {encs : α → Array Value} {T : σ → σ → World → World → Prop} {K : σ → World → World → Prop} {ok : σ → α → Prop} {nx : σ → α → σ} {S Sp : σ → Prop} {s0 : σ} {w0 : World}
    (hseq : SeqS F (n - 1) P gf lb encs T K ok nx S Sp s0 w0) (hps : ∀ x, (encs x).size = ps.size)
    (hKt : ∀ {s : σ} {A B C : World}, K s A B → K s B C → K s A C) (hKa : ∀ s W o, K s W (W.alloc o)) (hKb : ∀ (s : σ) (W : World) (l : Nat) (o o' : Obj), w.heap.size ≤ l → W.heap[l]? = some o → o.isCells = false → o.isWalk = false → K s W (W.putObj l o')) (hb0 : K s0 w0 w)
    (hTk : ∀ s s' A B, T s s' A B → ∀ (k : Nat) (o : Obj), w.heap.size ≤ k → A.heap[k]? = some o → o.isCells = false → o.isWalk = false → B.heap[k]? = some o)
    (I : σ → World → Prop) (Ix : Code → σ → World → Prop) (hI : OwnFrom w.heap.size I) (hIx : ∀ c, OwnFrom w.heap.size (Ix c)) (hIT : ∀ s s' A B, I s A → T s s' A B → I s' B) (h0 : I s0 w)
    (a₁ : α → Act) (hassign : ∀ (l : Nat) (x : α) (W : World) (C : Act → World → Prop), C (a₁ x) W →
      assign.wpIn (F.inRound l) (n - 1 - 1) P (Exit.then C (fun _ _ _ => False)) { tmps := (ps.zip (encs x)).foldl (fun t (p, v) => t.setIfInBounds p v) a.tmps, defers := [] } W)
    (hbody : ∀ (l : Nat) (s : σ) (x : α) (W : World), I s W → ok s x → body.wpIn (F.inRound l) (n - 1 - 1) P (leftS w.heap.size K I Ix s (nx s x) W) (a₁ x) W)
    (hdone : ∀ (D : Nat) (s : σ) (W : World), w.heap.size ≤ D → S s → I s W → W.heap[D]? = some (.deferred (some [])) → Q .normal { a with defers := { target := .collected D, args := #[] } :: a.defers } W)
    (hstop : ∀ (D : Nat) (c : Code) (s : σ) (W : World), w.heap.size ≤ D → Sp s → Ix c s W → W.heap[D]? = some (.deferred (some [])) → c.wpIn F n P Q { a with defers := { target := .collected D, args := #[] } :: a.defers } W) :
    (Code.rangeFunc g ps assign body).wpIn F n P Q a w := by
  refine wpIn_rangeFunc fun fn hfn => ?_
  rw [hro]
  -- the loop's record, as it may stand
  let R : LoopState → Option Code → Obj := fun st pe => .loop { state := st, pending := pe, fn, tmps := a.tmps, params := ps, assign, body, defers := w.heap.size }
  let Bk : LoopState → Option Code → World → Prop := fun st pe W => W.heap[w.heap.size + 1]? = some (R st pe) ∧ W.heap[w.heap.size]? = some (.deferred (some []))
  have bkK : ∀ {st pe A B}, KeepsFrom w.heap.size A B → Bk st pe A → Bk st pe B := fun hk hb => ⟨hk.same _ _ (by omega) hb.1 rfl, hk.same _ _ (Nat.le_refl _) hb.2 rfl⟩
  have bkP : ∀ {st pe st' pe' A}, Bk st pe A → Bk st' pe' (A.putObj (w.heap.size + 1) (R st' pe')) := fun hb =>
    ⟨World.putObj_heap_same (Array.getElem?_eq_some_iff.1 hb.1).1, (World.putObj_heap_other (by omega)).trans hb.2⟩
  have iP : ∀ {st pe s A} (o : Obj), Bk st pe A → I s A → I s (A.putObj (w.heap.size + 1) o) := fun o hb hi => hI.putObj o hi (by omega) hb.1 rfl
  have ixP : ∀ {st pe s c A} (o : Obj), Bk st pe A → Ix c s A → Ix c s (A.putObj (w.heap.size + 1) o) := fun o hb hi => (hIx _).putObj o hi (by omega) hb.1 rfl
  have kP : ∀ {s st pe A} (o : Obj), Bk st pe A → K s A (A.putObj (w.heap.size + 1) o) := fun o hb => hKb _ _ _ _ _ (by omega) hb.1 rfl rfl
  have bkT : ∀ {s s' st pe A B}, T s s' A B → Bk st pe A → Bk st pe B := fun ht hb => ⟨hTk _ _ _ _ ht _ _ (by omega) hb.1 rfl rfl, hTk _ _ _ _ ht _ _ (Nat.le_refl _) hb.2 rfl rfl⟩
  have b0 : Bk .ready none ((w.alloc (.deferred (some []))).alloc (R .ready none)) :=
    ⟨by have := World.alloc_heap_new (w.alloc (.deferred (some []))) (R .ready none); rwa [World.size_alloc] at this, (Below.heap_alloc _ _ _ (by simp)).trans (World.alloc_heap_new w _)⟩
  refine ⟨w.heap.size + 1, [{ target := .collected w.heap.size, args := #[] }], ((w.alloc (.deferred (some []))).alloc (R .ready none)), { target := .fn (.func gf) lb, args := #[.func (.yield (w.heap.size + 1)) #[] #[]] }, ((w.alloc (.deferred (some []))).alloc (R .ready none)), gf, #[.func (.yield (w.heap.size + 1)) #[] #[]] ++ lb, ((w.alloc (.deferred (some []))).alloc (R .ready none)),
    run_enterLoop_outer _ _ _ _ _, by simp only [resolve, hg]; simp [go_sem], fun f' hf' => by simp [Target.leads] at hf'; subst hf'; exact hFg, by simp [invoke, go_sem, eg], fun _ => h1, ?_⟩
  refine (hseq (w.heap.size + 1) (fun s A => I s A ∧ Bk .ready none A) (fun s A => ∃ c, Ix c s A ∧ Bk .done (some c) A) _ (hKt hb0 (hKt (hKa _ _ _) (hKa _ _ _)))
    (fun s s' A B hs ht => ⟨hIT s s' A B hs.1 ht, bkT ht hs.2⟩) ?_ ⟨hI.alloc _ (hI.alloc _ h0), b0⟩).mono ?_
  · -- one round
    rintro s x A ⟨hi, hb⟩ hok
    refine ⟨fn, _, assign, body, run_yield hb.1 (hps x), roundIn_of_wpIn hfn (hassign _ x A _ ⟨_, run_beginRound hb.1 rfl, ?_⟩)⟩
    have hb2 : Bk .busy none (A.putObj (w.heap.size + 1) (R .busy none)) := bkP hb
    refine wpIn_mono (hbody _ s x _ (iP _ hb hi) hok) ?_
    rintro e a3 W3 hp
    cases e with
    | normal =>
      have hb3 := bkK hp.1 hb2
      exact ⟨_, _, run_endRound none hb3.1, .inl ⟨rfl, ⟨iP _ hb3 hp.2.2, bkP hb3⟩, hKt (kP _ hb) (hKt hp.2.1 (kP _ hb3))⟩⟩
    | ret => have hb3 := bkK hp.1 hb2; exact ⟨_, _, run_endRound (some .ret) hb3.1, .inr ⟨rfl, .ret, ixP _ hb3 hp.2, bkP hb3⟩⟩
    | exit id => have hb3 := bkK hp.1 hb2; exact ⟨_, _, run_endRound (some (.exit id)) hb3.1, .inr ⟨rfl, .exit id, ixP _ hb3 hp.2, bkP hb3⟩⟩
    | goto t => have hb3 := bkK hp.1 hb2; exact ⟨_, _, run_endRound (some (.goto t)) hb3.1, .inr ⟨rfl, .goto t, ixP _ hb3 hp.2, bkP hb3⟩⟩
    | panic ch => exact hp.elim
    | outgrown => exact hp.elim
  · -- behind the iterator
    rintro e A ⟨⟨v, rfl⟩, (⟨s, hS, hi, hb⟩ | ⟨s, hSp, c, hi, hb⟩)⟩
    · exact ⟨none, _, run_endLoop hb.1 (by simp), hdone _ s _ (Nat.le_refl _) hS (iP _ hb hi) ((World.putObj_heap_other (by omega)).trans hb.2)⟩
    · exact ⟨some c, _, run_endLoop hb.1 (by simp), hstop _ c s _ (Nat.le_refl _) hSp (ixP _ hb hi) ((World.putObj_heap_other (by omega)).trans hb.2)⟩
end Go.Hay
end

section
namespace Go.Hay
open Go.RowKit
set_option linter.unusedVariables false

variable {F : Fence} {n : Nat} {P : Program} {σ α : Type}

/-- As SeqS; a round keeps what K says also where it has said 'no more', and behind that the iterator may turn what Tx says. -/
def SeqX (F : Fence) (n : Nat) (P : Program) (g : Nat) (lb : Array Value) (encs : α → Array Value) (T : σ → σ → World → World → Prop) (Tx : σ → World → World → Prop) (K : σ → World → World → Prop) (ok : σ → α → Prop) (nx : σ → α → σ) (S Sp : σ → Prop) (s0 : σ) (w : World) : Prop :=
  ∀ (l : Nat) (J Jx : σ → World → Prop) (W : World), K s0 w W → (∀ s s' A B, J s A → T s s' A B → J s' B) → (∀ s A B, Jx s A → Tx s A B → Jx s B) →
    (∀ s x A, J s A → ok s x → YieldAt F (n - 1) P l (encs x) A fun e A' => (e = .returned (.bool true) ∧ J (nx s x) A' ∧ K s A A') ∨ (e = .returned (.bool false) ∧ Jx (nx s x) A' ∧ K s A A')) →
    J s0 W → CallsIn F n P g (#[.func (.yield l) #[] #[]] ++ lb) W fun e A' => (∃ v, e = .returned v) ∧ ((∃ s, S s ∧ J s A') ∨ (∃ s, Sp s ∧ Jx s A'))

/-- How a round's body may be left. -/
def leftX (B : Nat) (K : σ → World → World → Prop) (I : σ → World → Prop) (Ix : Code → σ → World → Prop) (s0 s : σ) (W : World) : Exit → Act → World → Prop
  | .normal, _, W' => KeepsFrom B W W' ∧ K s0 W W' ∧ I s W'
  | .ret, _, W' => KeepsFrom B W W' ∧ K s0 W W' ∧ Ix .ret s W'
  | .exit id, _, W' => KeepsFrom B W W' ∧ K s0 W W' ∧ Ix (.exit id) s W'
  | .goto t, _, W' => KeepsFrom B W W' ∧ K s0 W W' ∧ Ix (.goto t) s W'
  | _, _, _ => False

/-- The law. -/
theorem wpRangeX {g : Operand} {ps : Array Tmp} {assign body : Code} {Q : Exit → Act → World → Prop} {a : Act} {w : World}
    (hro : F.round = none) (h1 : 1 ≤ n) {gf : Nat} {lb : Array Value} (hg : a.eval g = .func (.func gf) #[] lb) (hFg : F.fn gf) (eg : ∀ args w, (callFunc gf args).run P w = .ok (.enter gf args) w)
    {encs : α → Array Value} {T : σ → σ → World → World → Prop} {Tx : σ → World → World → Prop} {K : σ → World → World → Prop} {ok : σ → α → Prop} {nx : σ → α → σ} {S Sp : σ → Prop} {s0 : σ} {w0 : World}
    (hseq : SeqX F (n - 1) P gf lb encs T Tx K ok nx S Sp s0 w0) (hps : ∀ x, (encs x).size = ps.size)
    (hKt : ∀ {s : σ} {A B C : World}, K s A B → K s B C → K s A C) (hKa : ∀ s W o, K s W (W.alloc o)) (hb0 : K s0 w0 w)
    (I : σ → World → Prop) (Ix : Code → σ → World → Prop) (hI : OwnFrom w.heap.size I) (hIx : ∀ c, OwnFrom w.heap.size (Ix c)) (h0 : I s0 w)
    (hTk : ∀ s s' A B, I s A → T s s' A B → ∀ (k : Nat) (o : Obj), (k = w.heap.size ∨ k = w.heap.size + 1) → A.heap[k]? = some o → B.heap[k]? = some o)
    (hXk : ∀ c s A B, Ix c s A → Tx s A B → ∀ (k : Nat) (o : Obj), (k = w.heap.size ∨ k = w.heap.size + 1) → A.heap[k]? = some o → B.heap[k]? = some o)
    (hIT : ∀ s s' A B, w.heap.size + 2 ≤ A.heap.size → I s A → T s s' A B → I s' B) (hXT : ∀ c s A B, Ix c s A → Tx s A B → Ix c s B)
    (hKb : ∀ (s : σ) (W : World) (o' : Obj), I s W → K s W (W.putObj (w.heap.size + 1) o')) (hKc : ∀ (s : σ) (x : α) (W : World) (o' : Obj), I (nx s x) W → K s W (W.putObj (w.heap.size + 1) o'))
    (hKx : ∀ (c : Code) (s : σ) (x : α) (W : World) (o' : Obj), Ix c (nx s x) W → K s W (W.putObj (w.heap.size + 1) o'))
    (a₁ : α → Act) (hassign : ∀ (l : Nat) (x : α) (W : World) (C : Act → World → Prop), C (a₁ x) W →
      assign.wpIn (F.inRound l) (n - 1 - 1) P (Exit.then C (fun _ _ _ => False)) { tmps := (ps.zip (encs x)).foldl (fun t (p, v) => t.setIfInBounds p v) a.tmps, defers := [] } W)
    (hbody : ∀ (l : Nat) (s : σ) (x : α) (W : World), I s W → ok s x → body.wpIn (F.inRound l) (n - 1 - 1) P (leftX w.heap.size K I Ix s (nx s x) W) (a₁ x) W)
    (hdone : ∀ (D : Nat) (s : σ) (W : World), w.heap.size ≤ D → S s → I s W → W.heap[D]? = some (.deferred (some [])) → Q .normal { a with defers := { target := .collected D, args := #[] } :: a.defers } W)
    (hstop : ∀ (D : Nat) (c : Code) (s : σ) (W : World), w.heap.size ≤ D → Sp s → Ix c s W → W.heap[D]? = some (.deferred (some [])) → c.wpIn F n P Q { a with defers := { target := .collected D, args := #[] } :: a.defers } W) :
    (Code.rangeFunc g ps assign body).wpIn F n P Q a w := by
  refine wpIn_rangeFunc fun fn hfn => ?_
  rw [hro]
  -- the loop's record, as it may stand
  let R : LoopState → Option Code → Obj := fun st pe => .loop { state := st, pending := pe, fn, tmps := a.tmps, params := ps, assign, body, defers := w.heap.size }
  let Bk : LoopState → Option Code → World → Prop := fun st pe W => W.heap[w.heap.size + 1]? = some (R st pe) ∧ W.heap[w.heap.size]? = some (.deferred (some []))
  have bkK : ∀ {st pe A B}, KeepsFrom w.heap.size A B → Bk st pe A → Bk st pe B := fun hk hb => ⟨hk.same _ _ (by omega) hb.1 rfl, hk.same _ _ (Nat.le_refl _) hb.2 rfl⟩
  have bkP : ∀ {st pe st' pe' A}, Bk st pe A → Bk st' pe' (A.putObj (w.heap.size + 1) (R st' pe')) := fun hb =>
    ⟨World.putObj_heap_same (Array.getElem?_eq_some_iff.1 hb.1).1, (World.putObj_heap_other (by omega)).trans hb.2⟩
  have iP : ∀ {st pe s A} (o : Obj), Bk st pe A → I s A → I s (A.putObj (w.heap.size + 1) o) := fun o hb hi => hI.putObj o hi (by omega) hb.1 rfl
  have ixP : ∀ {st pe s c A} (o : Obj), Bk st pe A → Ix c s A → Ix c s (A.putObj (w.heap.size + 1) o) := fun o hb hi => (hIx _).putObj o hi (by omega) hb.1 rfl
  have bsz : ∀ {st pe A}, Bk st pe A → w.heap.size + 2 ≤ A.heap.size := fun hb => by have := (Array.getElem?_eq_some_iff.1 hb.1).1; omega
  have b0 : Bk .ready none ((w.alloc (.deferred (some []))).alloc (R .ready none)) :=
    ⟨by have := World.alloc_heap_new (w.alloc (.deferred (some []))) (R .ready none); rwa [World.size_alloc] at this, (Below.heap_alloc _ _ _ (by simp)).trans (World.alloc_heap_new w _)⟩
  refine ⟨w.heap.size + 1, [{ target := .collected w.heap.size, args := #[] }], ((w.alloc (.deferred (some []))).alloc (R .ready none)), { target := .fn (.func gf) lb, args := #[.func (.yield (w.heap.size + 1)) #[] #[]] }, ((w.alloc (.deferred (some []))).alloc (R .ready none)), gf, #[.func (.yield (w.heap.size + 1)) #[] #[]] ++ lb, ((w.alloc (.deferred (some []))).alloc (R .ready none)),
    run_enterLoop_outer _ _ _ _ _, by simp only [resolve, hg]; simp [go_sem], fun f' hf' => by simp [Target.leads] at hf'; subst hf'; exact hFg, by simp [invoke, go_sem, eg], fun _ => h1, ?_⟩
  refine (hseq (w.heap.size + 1) (fun s A => I s A ∧ Bk .ready none A) (fun s A => ∃ c, Ix c s A ∧ Bk .done (some c) A) _ (hKt hb0 (hKt (hKa _ _ _) (hKa _ _ _)))
    (fun s s' A B hs ht => ⟨hIT s s' A B (bsz hs.2) hs.1 ht, hTk s s' A B hs.1 ht _ _ (.inr rfl) hs.2.1, hTk s s' A B hs.1 ht _ _ (.inl rfl) hs.2.2⟩)
    (fun s A B ⟨c, hs, hb⟩ ht => ⟨c, hXT c s A B hs ht, hXk c s A B hs ht _ _ (.inr rfl) hb.1, hXk c s A B hs ht _ _ (.inl rfl) hb.2⟩) ?_ ⟨hI.alloc _ (hI.alloc _ h0), b0⟩).mono ?_
  · -- one round
    rintro s x A ⟨hi, hb⟩ hok
    refine ⟨fn, _, assign, body, run_yield hb.1 (hps x), roundIn_of_wpIn hfn (hassign _ x A _ ⟨_, run_beginRound hb.1 rfl, ?_⟩)⟩
    have hb2 : Bk .busy none (A.putObj (w.heap.size + 1) (R .busy none)) := bkP hb
    refine wpIn_mono (hbody _ s x _ (iP _ hb hi) hok) ?_
    rintro e a3 W3 hp
    cases e with
    | normal =>
      have hb3 := bkK hp.1 hb2
      exact ⟨_, _, run_endRound none hb3.1, .inl ⟨rfl, ⟨iP _ hb3 hp.2.2, bkP hb3⟩, hKt (hKb _ _ _ hi) (hKt hp.2.1 (hKc _ _ _ _ hp.2.2))⟩⟩
    | ret => have hb3 := bkK hp.1 hb2; exact ⟨_, _, run_endRound (some .ret) hb3.1, .inr ⟨rfl, ⟨.ret, ixP _ hb3 hp.2.2, bkP hb3⟩, hKt (hKb _ _ _ hi) (hKt hp.2.1 (hKx _ _ _ _ _ hp.2.2))⟩⟩
    | exit id => have hb3 := bkK hp.1 hb2; exact ⟨_, _, run_endRound (some (.exit id)) hb3.1, .inr ⟨rfl, ⟨.exit id, ixP _ hb3 hp.2.2, bkP hb3⟩, hKt (hKb _ _ _ hi) (hKt hp.2.1 (hKx _ _ _ _ _ hp.2.2))⟩⟩
    | goto t => have hb3 := bkK hp.1 hb2; exact ⟨_, _, run_endRound (some (.goto t)) hb3.1, .inr ⟨rfl, ⟨.goto t, ixP _ hb3 hp.2.2, bkP hb3⟩, hKt (hKb _ _ _ hi) (hKt hp.2.1 (hKx _ _ _ _ _ hp.2.2))⟩⟩
    | panic ch => exact hp.elim
    | outgrown => exact hp.elim
  · -- behind the iterator
    rintro e A ⟨⟨v, rfl⟩, (⟨s, hS, hi, hb⟩ | ⟨s, hSp, c, hi, hb⟩)⟩
    · exact ⟨none, _, run_endLoop hb.1 (by simp), hdone _ s _ (Nat.le_refl _) hS (iP _ hb hi) ((World.putObj_heap_other (by omega)).trans hb.2)⟩
    · exact ⟨some c, _, run_endLoop hb.1 (by simp), hstop _ c s _ (Nat.le_refl _) hSp (ixP _ hb hi) ((World.putObj_heap_other (by omega)).trans hb.2)⟩
end Go.Hay
end

section
namespace Go.Proofs.Ytohkjikhlakglaa
open Go.RowKit Go.Hay
set_option linter.unusedVariables false
set_option linter.unusedSimpArgs false

/-- Values' cells. -/
def vcells (l : List Val) : List Value := l.flatMap fun x => [.int .i64 x.k, .bool x.b, .int .i64 x.n, .string x.t]
theorem vcells_length (l : List Val) : (vcells l).length = l.length * 4 := by
  induction l with
  | nil => rfl
  | cons x l ih => simp only [vcells, List.flatMap_cons, List.length_append, List.length_cons, List.length_nil] at ih ⊢; omega
theorem vcells_append (a b : List Val) : vcells (a ++ b) = vcells a ++ vcells b := by simp [vcells]
theorem vcells_one (l : List Val) : ∀ u ∈ vcells l, u.oneCell' = true := by
  intro u hu
  obtain ⟨x, _, hx⟩ := List.mem_flatMap.1 hu
  simp at hx
  rcases hx with rfl | rfl | rfl | rfl <;> rfl
theorem vcells_cons (x : Val) (l : List Val) : vcells (x :: l) = [.int .i64 x.k, .bool x.b, .int .i64 x.n, .string x.t] ++ vcells l := rfl
theorem vcells_at (l : List Val) : ∀ (j : Nat) (x : Val), l[j]? = some x → (vcells l)[j * 4]? = some (.int .i64 x.k) ∧ (vcells l)[j * 4 + 1]? = some (.bool x.b) ∧ (vcells l)[j * 4 + 2]? = some (.int .i64 x.n) ∧ (vcells l)[j * 4 + 3]? = some (.string x.t) := by
  induction l with
  | nil => intro j x h; simp at h
  | cons y l ih =>
    intro j x h
    cases j with
    | zero => cases h; exact ⟨rfl, rfl, rfl, rfl⟩
    | succ j =>
      have := ih j x (by simpa using h)
      rw [vcells_cons, show (j + 1) * 4 = j * 4 + 4 by omega]
      simpa using this
theorem vcells_src (l : List Val) (w : World) (g o : Nat) (hc : ∀ j x, l[j]? = some x → w.cell? ⟨g, o + j * 4, none⟩ = some (.int .i64 x.k) ∧ w.cell? ⟨g, o + j * 4 + 1, none⟩ = some (.bool x.b) ∧ w.cell? ⟨g, o + j * 4 + 2, none⟩ = some (.int .i64 x.n) ∧ w.cell? ⟨g, o + j * 4 + 3, none⟩ = some (.string x.t)) (j : Nat) (u : Value) (h : (vcells l)[j]? = some u) : w.cell? ⟨g, o + j, none⟩ = some u := by
  have hj : j < (vcells l).length := (List.getElem?_eq_some_iff.1 h).1
  rw [vcells_length] at hj
  have hq : j / 4 < l.length := by omega
  obtain ⟨e0, e1, e2, e3⟩ := vcells_at l (j / 4) l[j / 4] (by simp)
  obtain ⟨c0, c1, c2, c3⟩ := hc (j / 4) l[j / 4] (by simp)
  rcases (by omega : j % 4 = 0 ∨ j % 4 = 1 ∨ j % 4 = 2 ∨ j % 4 = 3) with h4 | h4 | h4 | h4
  · rw [show j = j / 4 * 4 by omega] at h ⊢; rw [e0] at h; cases h; exact c0
  · rw [show j = j / 4 * 4 + 1 by omega] at h ⊢; rw [e1] at h; cases h; exact c1
  · rw [show j = j / 4 * 4 + 2 by omega] at h ⊢; rw [e2] at h; cases h; exact c2
  · rw [show j = j / 4 * 4 + 3 by omega] at h ⊢; rw [e3] at h; cases h; exact c3

/-- A row of values of the call's own. -/
def RowV (w0 w : World) (v : Value) (l : List Val) : Prop := w.ownsRow w0.heap.size 47 4 v l.length (vcells l)
theorem RowV.vals {w0 w : World} {v : Value} {l : List Val} (h : RowV w0 w v l) : ∃ a c, v = .slice a l.length c ∧ Vals w a l ∧ l.length ≤ c ∧ c ≤ maxLen := by
  obtain ⟨_, ⟨rfl, h0⟩ | ⟨g, cap, cur, rfl, _, hg, hl, hm, hsz, ht⟩⟩ := h
  · obtain rfl : l = [] := List.length_eq_zero_iff.1 h0
    exact ⟨none, 0, rfl, .inl rfl, Nat.le_refl _, Nat.zero_le _⟩
  · refine ⟨some ⟨g, 0, none⟩, cap, rfl, .inr ⟨g, 0, rfl, fun j x hx => ?_⟩, hl, hm⟩
    have cell : ∀ i u, (vcells l)[i]? = some u → w.cell? ⟨g, 0 + i, none⟩ = some u := fun i u hu => by
      rw [← ht, List.getElem?_take] at hu
      split at hu
      · rw [Nat.zero_add, World.cell?, hg]; simpa using hu
      · cases hu
    obtain ⟨e0, e1, e2, e3⟩ := vcells_at l j x hx
    exact ⟨cell _ _ e0, by rw [Nat.add_assoc]; exact cell _ _ e1, by rw [Nat.add_assoc]; exact cell _ _ e2, by rw [Nat.add_assoc]; exact cell _ _ e3⟩
theorem RowV.fresh {w0 w : World} (h : w0.heap.size ≤ w.heap.size) : RowV w0 (w.alloc (.cells #[] 47)) (.slice (some ⟨w.heap.size, 0, none⟩) 0 0) [] :=
  ⟨rfl, .inr ⟨w.heap.size, 0, #[], rfl, h, by show (w.heap.push _)[w.heap.size]? = _; exact Array.getElem?_push_size, Nat.le_refl _, Nat.zero_le _, rfl, rfl⟩⟩
theorem RowV.own {w0 w : World} {v : Value} {l : List Val} (h : RowV w0 w v l) : ∀ k, v.ownBlock = some k → w0.heap.size ≤ k := by
  obtain ⟨_, ⟨rfl, _⟩ | ⟨g, cap, cur, rfl, hb, _⟩⟩ := h
  · intro k hk; cases hk
  · intro k hk; cases hk; exact hb
theorem kpGrown {w0 w w' : World} {row : Option Nat} (h : Kp [] w0 w) (hg : w.grownBy w' row) (hr : ∀ k, row = some k → w0.heap.size ≤ k) : Kp [] w0 w' :=
  ⟨hg.os.trans h.os, hg.tape.trans h.tape, hg.output.trans h.output, Nat.le_trans h.size hg.size, fun k hk hS => (hg.block k (Nat.lt_of_lt_of_le hk h.size) (fun e => by have := hr k e.symm; omega)).trans (h.block k hk hS)⟩

theorem Vals.single (w : World) (x : Val) (t : TypeId) : Vals (w.alloc (.cells #[.int .i64 x.k, .bool x.b, .int .i64 x.n, .string x.t] t)) (some ⟨w.heap.size, 0, none⟩) [x] := by
  refine .inr ⟨_, _, rfl, fun j z hz => ?_⟩
  match j, hz with
  | 0, hz => cases hz; exact ⟨World.cell?_alloc_new w _ _ 0, World.cell?_alloc_new w _ _ 1, World.cell?_alloc_new w _ _ 2, World.cell?_alloc_new w _ _ 3⟩
  | j + 1, hz => simp at hz
theorem RowV.kept {w0 w w' : World} {v : Value} {l : List Val} (h : RowV w0 w v l) (hk : Kp [] w w') : RowV w0 w' v l := by
  obtain ⟨h1, h2 | ⟨g, cap, cur, h3, hb, hg, h4⟩⟩ := h
  · exact ⟨h1, .inl h2⟩
  · refine ⟨h1, .inr ⟨g, cap, cur, h3, hb, ?_, h4⟩⟩
    have hlt : g < w.heap.size := by
      rcases Nat.lt_or_ge g w.heap.size with h' | h'
      · exact h'
      · rw [Array.getElem?_eq_none h'] at hg; cases hg
    rw [hk.block g hlt (by simp)]
    exact hg
theorem info4 {P : Program} {t : TypeId} {z : Value} {a b : Nat} (h : (P.info? t).map (fun i => (i.zero, i.size, i.bytes)) = some (some z, a, b)) : ∃ i, P.info? t = some i ∧ i.zero = some z ∧ i.size = a ∧ i.bytes = b := by
  cases hp : P.info? t with
  | none => rw [hp] at h; cases h
  | some i =>
    rw [hp] at h
    simp at h
    exact ⟨i, rfl, h.1, h.2.1, h.2.2⟩
theorem infoV : ∃ i : TypeInfo, Try.prog.info? 47 = some i ∧ i.zero = some (.agg #[.int .i64 0, .bool false, .int .i64 0, .string ⟨#[]⟩]) ∧ i.size = 4 ∧ i.bytes = 40 := info4 (by kernel_rfl)

/-- An append of values onto a row of the call's own, for the walk. -/
theorem wpAppendV {w : World} {ops : Array Oper} {rest : List Oper} {o : Oper} {a : Act} {Q : Exit → Act → World → Prop} (hgd : o.guard = none) (s x : Operand)
    (ho : o.op = .call { callee := .builtin .append, args := #[s, x], argTypes := #[24, 24] })
    (w0 : World) (v : Value) (l : List Val) (hs : a.eval s = v) (hown : RowV w0 w v l) (src : Option Addr) (m c : Nat) (r : List Val) (hx : a.eval x = .slice src m c) (hmr : m = r.length) (hr : Vals w src r) (hc : src = none → c = 0)
    (hb : l.length + r.length ≤ 4000000000000) (hk : Kp [] w0 w)
    (h : ∀ v' w', RowV w0 w' v' (l ++ r) → Kp [] w0 w' → wpList Try.prog ops Q rest (a.put o.dst v') w') : wpList Try.prog ops Q (o :: rest) a w := by
  obtain ⟨i, hi, hz, hz1, hz2⟩ := infoV
  subst hmr
  cases src with
  | none =>
    obtain rfl : r = [] := by rcases hr with h | ⟨g, o, h, _⟩; exact h; cases h
    rw [hc rfl] at hx
    exact wpList_append_own_none hgd s x 24 ho w0.heap.size 47 i 4 Try.underlying24 hi v l.length (vcells l) hs hown hx (h v w (by simpa using hown) hk)
  | some ad =>
    refine wpList_append_own_wide w hgd s x 24 ho w0.heap.size 47 i _ 4 40 Try.underlying24 hi hz hz1 hz2 rfl (by omega) v l.length (vcells l) hs hown ad r.length c (vcells r) hx (vcells_length r) ?_ (vcells_one r) (by unfold maxLen; omega) (by omega) hk.size ?_
    · intro j u hu
      rcases hr with rfl | ⟨g, o', hg, hcell⟩
      · simp [vcells] at hu
      · cases hg
        rw [Addr.add_lit]
        exact vcells_src r w g o' hcell j u hu
    · intro v' w' h2 h3 _
      exact h v' w' (by unfold RowV; rw [List.length_append, vcells_append]; exact h2) (kpGrown hk h3 hown.own)
end Go.Proofs.Ytohkjikhlakglaa
end

section
namespace Go.Proofs.Ytohkjikhlakglaa
open Go.RowKit Go.Hay
set_option linter.unusedVariables false
set_option linter.unusedSimpArgs false

def nulV : Val := ⟨0, false, 0, ⟨#[]⟩⟩
def VE : El Val where
  n := 4
  c x := [.int .i64 x.k, .bool x.b, .int .i64 x.n, .string x.t]
  len _ := rfl
  one _ u hu := by simp at hu; rcases hu with rfl | rfl | rfl | rfl <;> rfl
  pos := by decide
theorem seeV {w : World} {a : Option Addr} {l : List Val} : VE.See w a l ↔ Vals w a l := by
  constructor
  · intro h
    by_cases hl : l = []
    · exact .inl hl
    · rcases h with h | ⟨g, o, rfl, hc⟩
      · exact absurd h hl
      · refine .inr ⟨g, o, rfl, fun j x hx => ?_⟩
        have e : ∀ k u, k < 4 → (VE.c x)[k]? = some u → w.cell? ⟨g, o + j * 4 + k, none⟩ = some u := fun k u hk hu => by
          have := hc (j * 4 + k) u ((El.cs_get VE hx hk).trans hu)
          rwa [← Nat.add_assoc] at this
        exact ⟨e 0 _ (by omega) rfl, e 1 _ (by omega) rfl, e 2 _ (by omega) rfl, e 3 _ (by omega) rfl⟩
  · rintro (h | ⟨g, o, rfl, hc⟩)
    · exact .inl h
    · refine .inr ⟨g, o, rfl, fun j u hu => ?_⟩
      have hj : j < l.length * 4 := by have := (List.getElem?_eq_some_iff.1 hu).1; rwa [El.cs_length] at this
      have hq : j / 4 < l.length := by omega
      have hx : l[j / 4]? = some l[j / 4] := by simp [hq]
      have hg := El.cs_get VE hx (k := j % 4) (Nat.mod_lt _ (by decide))
      have e4 : VE.n = 4 := rfl
      rw [e4, show j / 4 * 4 + j % 4 = j by omega, hu] at hg
      obtain ⟨c0, c1, c2, c3⟩ := hc (j / 4) _ hx
      have hm : j % 4 = 0 ∨ j % 4 = 1 ∨ j % 4 = 2 ∨ j % 4 = 3 := by omega
      have ho : o + j = o + j / 4 * 4 + j % 4 := by omega
      rw [ho]
      rcases hm with h | h | h | h <;> rw [h] at hg ⊢ <;> cases hg <;> assumption
/-- New bytes. -/
def NB (bs : List UInt8) (w : World) (e : Ending) (w' : World) : Prop := ∃ a c, e = .returned (.slice a bs.length c) ∧ Row w' (.slice a bs.length c) bs ∧ Kp [] w w' ∧ ∀ k ∈ blk a, w.heap.size ≤ k
end Go.Proofs.Ytohkjikhlakglaa
end

section
namespace Go.Proofs.Ytohkjikhlakglaa
open Go.RowKit Go.Hay
set_option linter.unusedVariables false
set_option linter.unusedSimpArgs false

/-- A row is handed on as a slice. -/
abbrev encR (x : Vs) : Array Value := #[.slice x.a x.l.length x.c]
/-- How it stands: whether its memory is made, from which block on its records lie, which cells of its own it may turn, which blocks the rounds leave alone, how many rows were given, and the one that is given now. -/
structure Sr where
  made : Bool
  B0 : Nat
  qs : List Nat
  js : List Nat
  i : Nat
  p : Option Vs
def Sr.nx (s : Sr) (x : Vs) : Sr := { s with i := s.i + 1, p := none }
/-- What the iterator's own step may turn: new memory, records that hold no cells, from B0 on, and the cells qs. -/
structure TurnR (B0 : Nat) (qs : List Nat) (A B : World) : Prop where
  os : B.os = A.os
  tape : B.tape = A.tape
  output : B.output = A.output
  size : A.heap.size ≤ B.heap.size
  block : ∀ k, k < A.heap.size → B.heap[k]? = A.heap[k]? ∨ k ∈ qs ∨ (B0 ≤ k ∧ ∃ o : Obj, A.heap[k]? = some o ∧ o.isCells = false)
theorem TurnR.ofKp {B0 : Nat} {qs : List Nat} {A B : World} (h : Kp qs A B) : TurnR B0 qs A B := ⟨h.os, h.tape, h.output, h.size, fun k hk => by
  by_cases e : k ∈ qs
  · exact .inr (.inl e)
  · exact .inl (h.block k hk e)⟩
theorem TurnR.ofKp0 {B0 : Nat} {qs : List Nat} {A B : World} (h : Kp [] A B) : TurnR B0 qs A B := TurnR.ofKp (h.mono (by simp))
theorem TurnR.refl (B0 : Nat) (qs : List Nat) (A : World) : TurnR B0 qs A A := TurnR.ofKp0 (Kp.refl _ _)
theorem TurnR.ofGrown {B0 : Nat} {qs : List Nat} {A B : World} {row : Option Nat} (h : A.grownBy B row) (hr : ∀ r, row = some r → B0 ≤ r ∧ ∃ o : Obj, A.heap[r]? = some o ∧ o.isCells = false) : TurnR B0 qs A B :=
  ⟨h.os, h.tape, h.output, h.size, fun k hk => by
    by_cases e : row = some k
    · exact .inr (.inr (hr k e))
    · exact .inl (h.block k hk (fun e' => e e'.symm))⟩
theorem TurnR.trans {B0 : Nat} {qs : List Nat} {A B C : World} (h : TurnR B0 qs A B) (k : TurnR B0 qs B C) : TurnR B0 qs A C :=
  ⟨k.os.trans h.os, k.tape.trans h.tape, k.output.trans h.output, Nat.le_trans h.size k.size, fun j hj => by
    rcases h.block j hj with e | e | e
    · rcases k.block j (Nat.lt_of_lt_of_le hj h.size) with e2 | e2 | ⟨e2, o, ho, hc⟩
      · exact .inl (e2.trans e)
      · exact .inr (.inl e2)
      · exact .inr (.inr ⟨e2, o, e ▸ ho, hc⟩)
    · exact .inr (.inl e)
    · exact .inr (.inr e)⟩
/-- What is given lies in memory so. -/
structure Vs.lies (w : World) (x : Vs) : Prop where
  see : Vals w x.a x.l
  cap : x.l.length ≤ x.c
  most : x.c ≤ maxLen
  nil : x.a = none → x.c = 0
/-- The iterator's own step; fr: what it gives is new, and nobody else's. -/
structure StepR (fr : Bool) (R : List (List Val)) (s s' : Sr) (A B : World) : Prop where
  turn : TurnR s'.B0 s'.qs A B
  stays : s.made = true → s'.made = true ∧ s'.B0 = s.B0 ∧ ∀ q ∈ s'.qs, q ∈ s.qs ∨ (A.heap.size ≤ q ∧ q < B.heap.size)
  makes : s.made = false → s'.made = true ∧ A.heap.size ≤ s'.B0 ∧ ∀ q ∈ s'.qs, A.heap.size ≤ q ∧ q < B.heap.size
  js : ∀ j ∈ s'.js, j ∈ s.js ∨ (A.heap.size ≤ j ∧ j < B.heap.size)
  on : s'.i = s.i
  given : s'.p = none ∨ ∃ x, s'.p = some x ∧ R[s.i]? = some x.l ∧ x.lies B ∧ (fr = true → VE.Row B (.slice x.a x.l.length x.c) x.l ∧ ∀ k ∈ blk x.a, A.heap.size ≤ k ∧ k ∉ s'.js ∧ k ∉ s'.qs)
theorem StepR.same {fr : Bool} {R : List (List Val)} {s : Sr} {A B : World} (hm : s.made = true) (hp : s.p = none) (ht : TurnR s.B0 s.qs A B) : StepR fr R s s A B :=
  ⟨ht, fun _ => ⟨hm, rfl, fun q hq => .inl hq⟩, fun h => (by rw [hm] at h; cases h), fun j hj => .inl hj, rfl, .inl hp⟩
/-- What the iterator may turn behind its end. -/
def StepRX (s : Sr) (A B : World) : Prop := s.made = true ∧ TurnR s.B0 s.qs A B
/-- What the rounds leave alone: the blocks js, and every record from B0 on. -/
structure KeepR (s : Sr) (A B : World) : Prop where
  js : KeepB s.js A B
  recs : s.made = true → ∀ (k : Nat) (o : Obj), s.B0 ≤ k → A.heap[k]? = some o → o.isCells = false → B.heap[k]? = some o
theorem KeepR.trans {s : Sr} {A B C : World} (h : KeepR s A B) (k : KeepR s B C) : KeepR s A C :=
  ⟨h.js.trans k.js, fun hm j o hj ho hc => k.recs hm j o hj (h.recs hm j o hj ho hc) hc⟩
theorem KeepR.refl (s : Sr) (A : World) : KeepR s A A := ⟨KeepB.refl _ _, fun _ _ _ _ h _ => h⟩
theorem KeepR.alloc (s : Sr) (W : World) (o : Obj) : KeepR s W (W.alloc o) :=
  ⟨KeepB.alloc _ _ _, fun _ k o' _ ho _ => (Below.heap_alloc W o k (Array.getElem?_eq_some_iff.1 ho).1).trans ho⟩
/-- An iterator of just these rows: js: the blocks from which it reads. -/
def RowSeq (fr : Bool) (n : Nat) (g : Nat) (lb : Array Value) (R : List (List Val)) (js : List Nat) (w : World) : Prop :=
  SeqX Fence.wide n Try.prog g lb encR (StepR fr R) StepRX KeepR (fun s x => s.p = some x) Sr.nx (fun s => s.made = true ∧ s.i = R.length ∧ s.p = none) (fun s => s.made = true) ⟨false, 0, [], js, 0, none⟩ w
/-- Who ranges: the blocks below w0, but for those of S, lie as they lay; the iterator's own blocks are new, or are left alone. -/
structure CoR (w0 : World) (S : List Nat) (s : Sr) (W : World) : Prop where
  os : W.os = w0.os
  tape : W.tape = w0.tape
  output : W.output = w0.output
  size : w0.heap.size ≤ W.heap.size
  low : ∀ k, k < w0.heap.size → k ∉ S → W.heap[k]? = w0.heap[k]?
  mde : s.made = true → w0.heap.size + 2 ≤ s.B0 ∧ ∀ q ∈ s.qs, w0.heap.size + 2 ≤ q
  js : ∀ j ∈ s.js, j ∉ S ∧ j ≠ w0.heap.size ∧ j ≠ w0.heap.size + 1
  jl : ∀ j ∈ s.js, j < W.heap.size
  ql : ∀ q ∈ s.qs, q < W.heap.size
theorem CoR.kp {w0 : World} {S : List Nat} {s : Sr} {W : World} (h : CoR w0 S s W) : Kp S w0 W := ⟨h.os, h.tape, h.output, h.size, fun k hk hn => h.low k hk hn⟩
theorem CoR.grown {w0 : World} {S : List Nat} {s : Sr} {X Y : World} {row : Option Nat} (h : CoR w0 S s X) (hg : X.grownBy Y row) (hr : ∀ r, row = some r → w0.heap.size ≤ r ∧ ∃ o : Obj, X.heap[r]? = some o ∧ o.isCells = false) : CoR w0 S s Y :=
  ⟨hg.os.trans h.os, hg.tape.trans h.tape, hg.output.trans h.output, Nat.le_trans h.size hg.size, fun k hk hn => (hg.block k (Nat.lt_of_lt_of_le hk h.size) (fun e => by have := (hr k e.symm).1; omega)).trans (h.low k hk hn), h.mde, h.js, fun j hj => Nat.lt_of_lt_of_le (h.jl j hj) hg.size, fun j hj => Nat.lt_of_lt_of_le (h.ql j hj) hg.size⟩
theorem turnLowR {B0 : Nat} {qs : List Nat} {A B : World} (h : TurnR B0 qs A B) {k : Nat} (hk : k < A.heap.size) (h1 : k < B0) (h2 : k ∉ qs) : B.heap[k]? = A.heap[k]? := by
  rcases h.block k hk with e | e | ⟨e, _⟩
  · exact e
  · exact absurd e h2
  · omega
theorem StepR.low {fr : Bool} {R : List (List Val)} {w0 : World} {s s' : Sr} {A B : World} (ht : StepR fr R s s' A B) (hm : s.made = true → w0.heap.size + 2 ≤ s.B0 ∧ ∀ q ∈ s.qs, w0.heap.size + 2 ≤ q) {k : Nat} (hk : k < A.heap.size) (hk2 : k < w0.heap.size + 2) : B.heap[k]? = A.heap[k]? := by
  cases hs : s.made with
  | true =>
    obtain ⟨_, e1, e2⟩ := ht.stays hs
    obtain ⟨h1, h2⟩ := hm hs
    exact turnLowR ht.turn hk (by omega) (fun hq => by rcases e2 k hq with e | e; have := h2 k e; omega; omega)
  | false =>
    obtain ⟨_, e1, e2⟩ := ht.makes hs
    exact turnLowR ht.turn hk (by omega) (fun hq => by have := (e2 k hq).1; omega)
theorem CoR.step {fr : Bool} {R : List (List Val)} {w0 : World} {S : List Nat} {s s' : Sr} {A B : World} (hS : ∀ k ∈ S, k < w0.heap.size) (hz : w0.heap.size + 2 ≤ A.heap.size) (h : CoR w0 S s A) (ht : StepR fr R s s' A B) : CoR w0 S s' B := by
  refine ⟨ht.turn.os.trans h.os, ht.turn.tape.trans h.tape, ht.turn.output.trans h.output, Nat.le_trans h.size ht.turn.size, fun k hk hn => (ht.low h.mde (by omega) (by omega)).trans (h.low k hk hn), fun _ => ?_, fun j hj => ?_, fun j hj => ?_, fun q hq => ?_⟩
  · cases hs : s.made with
    | true =>
      obtain ⟨_, e1, e2⟩ := ht.stays hs
      obtain ⟨h1, h2⟩ := h.mde hs
      exact ⟨by omega, fun q hq => by rcases e2 q hq with e | e; exact h2 q e; omega⟩
    | false =>
      obtain ⟨_, e1, e2⟩ := ht.makes hs
      exact ⟨by omega, fun q hq => by have := (e2 q hq).1; omega⟩
  · rcases ht.js j hj with e | e
    · exact h.js j e
    · exact ⟨fun hm => by have := hS j hm; omega, by omega, by omega⟩
  · rcases ht.js j hj with e | e
    · exact Nat.lt_of_lt_of_le (h.jl j e) ht.turn.size
    · exact e.2
  · cases hs : s.made with
    | true =>
      obtain ⟨_, e1, e2⟩ := ht.stays hs
      rcases e2 q hq with e | e
      · exact Nat.lt_of_lt_of_le (h.ql q e) ht.turn.size
      · exact e.2
    | false => exact ((ht.makes hs).2.2 q hq).2
theorem CoR.recs {w0 : World} {S : List Nat} {s : Sr} {W : World} (h : CoR w0 S s W) (o' : Obj) : KeepR s W (W.putObj (w0.heap.size + 1) o') :=
  ⟨⟨by simp, fun k hk o ho => (World.putObj_heap_other (by have := (h.js k hk).2.2; omega)).trans ho⟩, fun hm k o hk ho _ => (World.putObj_heap_other (by have := (h.mde hm).1; omega)).trans ho⟩
theorem CoR.keeps {fr : Bool} {R : List (List Val)} {w0 : World} {S : List Nat} {s s' : Sr} {A B : World} (h : CoR w0 S s A) (ht : StepR fr R s s' A B) (k : Nat) (o : Obj) (hk : k = w0.heap.size ∨ k = w0.heap.size + 1) (ho : A.heap[k]? = some o) : B.heap[k]? = some o :=
  (ht.low h.mde (Array.getElem?_eq_some_iff.1 ho).1 (by omega)).trans ho
theorem CoR.stepX {w0 : World} {S : List Nat} {s : Sr} {A B : World} (h : CoR w0 S s A) (ht : StepRX s A B) : CoR w0 S s B := by
  obtain ⟨h1, h2⟩ := h.mde ht.1
  exact ⟨ht.2.os.trans h.os, ht.2.tape.trans h.tape, ht.2.output.trans h.output, Nat.le_trans h.size ht.2.size, fun k hk hn => (turnLowR ht.2 (Nat.lt_of_lt_of_le hk h.size) (by omega) (fun hq => by have := h2 k hq; omega)).trans (h.low k hk hn), h.mde, h.js, fun j hj => Nat.lt_of_lt_of_le (h.jl j hj) ht.2.size, fun j hj => Nat.lt_of_lt_of_le (h.ql j hj) ht.2.size⟩
theorem CoR.keepsX {w0 : World} {S : List Nat} {s : Sr} {A B : World} (h : CoR w0 S s A) (ht : StepRX s A B) (k : Nat) (o : Obj) (hk : k = w0.heap.size ∨ k = w0.heap.size + 1) (ho : A.heap[k]? = some o) : B.heap[k]? = some o := by
  obtain ⟨h1, h2⟩ := h.mde ht.1
  exact (turnLowR ht.2 (Array.getElem?_eq_some_iff.1 ho).1 (by omega) (fun hq => by have := h2 k hq; omega)).trans ho
/-- A round that writes into the blocks T, all of them cells and none of them the iterator's. -/
theorem CoR.round {w0 : World} {S T : List Nat} {s : Sr} {A B : World} {x : Vs} (h : CoR w0 S s A) (hk : Kp T A B) (hT : ∀ k ∈ T, A.heap[k]?.map Obj.isCells = some true) (hS : ∀ k ∈ T, k ∈ S ∨ w0.heap.size ≤ k) (hj : ∀ k ∈ T, k ∉ s.js) : KeepsFrom w0.heap.size A B ∧ KeepR s A B ∧ CoR w0 S (s.nx x) B := by
  have hne : ∀ k (o : Obj), A.heap[k]? = some o → o.isCells = false → k ∉ T := fun k o ho hc e => by
    have := hT k e
    rw [ho] at this
    simp at this
    rw [this] at hc
    cases hc
  refine ⟨⟨hk.size, fun k o _ ho hc => (hk.block k (Array.getElem?_eq_some_iff.1 ho).1 (hne k o ho hc)).trans ho⟩, ⟨⟨hk.size, fun k hk' o ho => (hk.block k (Array.getElem?_eq_some_iff.1 ho).1 (fun hm => hj k hm hk')).trans ho⟩, fun _ k o _ ho hc => (hk.block k (Array.getElem?_eq_some_iff.1 ho).1 (hne k o ho hc)).trans ho⟩, ⟨hk.os.trans h.os, hk.tape.trans h.tape, hk.output.trans h.output, Nat.le_trans h.size hk.size, fun k hk' hn => (hk.block k (Nat.lt_of_lt_of_le hk' h.size) (fun hm => by rcases hS k hm with e | e; exact hn e; omega)).trans (h.low k hk' hn), h.mde, h.js, fun j hj => Nat.lt_of_lt_of_le (h.jl j hj) hk.size, fun j hj => Nat.lt_of_lt_of_le (h.ql j hj) hk.size⟩⟩
end Go.Proofs.Ytohkjikhlakglaa
end

section
namespace Go.Proofs.Ytohkjikhlakglaa
open Go.RowKit Go.Hay
attribute [local go_sem] Oper.semAt_some
set_option linter.unusedVariables false
set_option linter.unusedSimpArgs false

theorem vsAt {w : World} {a : Option Addr} {l : List Vs} (h : VsE.See w a l) {k : Nat} {x : Vs} (hx : l[k]? = some x) : ∃ g o, a = some ⟨g, o, none⟩ ∧ w.cell? ⟨g, o + k, none⟩ = some (.slice x.a x.l.length x.c) := by
  obtain ⟨g, o, e, hc⟩ := h.at hx
  refine ⟨g, o, e, ?_⟩
  have := hc 0 _ rfl
  simpa [VsE] using this
theorem valsKeepB {X Y : World} {a : Option Addr} {l : List Val} {js : List Nat} (h : Vals X a l) (hk : KeepB js X Y) (hj : ∀ k ∈ blk a, k ∈ js) : Vals Y a l := by
  rcases h with e | ⟨g, o, e, h⟩
  · exact .inl e
  · subst e
    have hg : g ∈ js := hj g (by simp [blk])
    refine .inr ⟨g, o, rfl, fun j y hy => ?_⟩
    obtain ⟨h0, h1, h2, h3⟩ := h j y hy
    exact ⟨hk.cell hg h0, hk.cell hg h1, hk.cell hg h2, hk.cell hg h3⟩
/-- A slice of rows in a box, and all that it sees in the blocks js. -/
structure AtV (q : Nat) (ra : Option Addr) (rc : Nat) (L : List Vs) (js : List Nat) (w : World) : Prop where
  box : w.cell? ⟨q, 0, none⟩ = some (.slice ra L.length rc)
  see : VsE.See w ra L
  lies : ∀ x ∈ L, x.lies w
  len : L.length ≤ 9223372036854775807
  q_ : q ∈ js
  ra_ : ∀ k ∈ blk ra, k ∈ js
  row_ : ∀ x ∈ L, ∀ k ∈ blk x.a, k ∈ js
set_option maxHeartbeats 8000000 in
set_option maxRecDepth 100000 in
theorem valuesSeq (n : Nat) (hn : 1 ≤ n) (q : Nat) (ra : Option Addr) (rc : Nat) (L : List Vs) (js : List Nat) (w : World) (hA : AtV q ra rc L js w) :
    RowSeq false n 27 #[.pointer (some ⟨q, 0, none⟩)] (L.map (·.l)) js w := by
  intro ly J Jx W hW hT hX hY h0
  have hb1W := hW.js.cell hA.q_ hA.box
  have hkW := hid hW.js
  have hJ1 : J ⟨true, W.heap.size, [], js, 0, none⟩ W := hT _ _ _ _ h0 ⟨TurnR.refl _ _ _, fun h => (by cases h), fun _ => ⟨rfl, Nat.le_refl _, by simp⟩, fun j hj => .inl hj, rfl, .inl rfl⟩
  have HA := hid hA
  have hlen := hA.len
  obtain ⟨B0, hB0⟩ : ∃ B, Hid (W.heap.size = B) := ⟨_, rfl⟩
  rw [hB0.out] at hJ1
  clear hA hW h0
  refine callsIn_of_wp Try.func27 rfl trivial ?_ rfl
  simp only [Try.ntmps27, List.size_toArray, List.length_cons, List.length_nil, Nat.reduceAdd, Nat.reduceSub, Array.replicate_succ, Array.replicate_zero, List.push_toArray, List.append_toArray, List.nil_append, List.cons_append]
  gi_wp2_with fail
  gi_loopw [7] (fun i wr => ∃ k : Nat, k ≤ L.length ∧ i = .int .i64 k ∧ J ⟨true, B0, [], js, k, none⟩ wr ∧ Hid (KeepB js w wr)) (fun i _ => L.length - (intOf i).toNat)
  case atStart => exact ⟨0, Nat.zero_le _, rfl, hJ1, hkW⟩
  case round =>
    obtain ⟨k, hk, rfl, hJk, hkr⟩ := hrel
    clear hJ1 hb1W hkW
    by_cases hkL : k < L.length
    · have hx : L[k]? = some L[k] := by simp [hkL]
      obtain ⟨g, o, ea, c0⟩ := vsAt HA.out.see hx
      have cg : wr.cell? ⟨g, o + k, none⟩ = some (.slice L[k].a L[k].l.length L[k].c) := hkr.out.cell (HA.out.ra_ g (by rw [ea]; simp [blk])) c0
      have hli := HA.out.lies L[k] (List.getElem_mem hkL)
      have hl2 : L[k].lies wr := ⟨valsKeepB hli.see hkr.out (HA.out.row_ L[k] (List.getElem_mem hkL)), hli.cap, hli.most, hli.nil⟩
      have hJ2 : J ⟨true, B0, [], js, k, some L[k]⟩ wr := hT _ _ _ _ hJk ⟨TurnR.refl _ _ _, fun _ => ⟨rfl, rfl, fun q hq => .inl hq⟩, fun h => (by cases h), fun j hj => .inl hj, rfl, .inr ⟨_, rfl, by simp [hkL], hl2, fun h => (by cases h)⟩⟩
      obtain ⟨fn, tmps, assign, body, hy, hR⟩ := hY _ _ _ hJ2 rfl
      dsimp only [encR] at hy
      generalize L[k] = x at *
      obtain ⟨xa, xc, xl⟩ := x
      dsimp only at cg hy
      have i1 : (0 : Int) ≤ (k : Int) := by omega
      have i2 : (k : Int) < (L.length : Int) := by omega
      have i3 : (k : Int) + 1 ≤ 9223372036854775807 := by omega
      have hR' := hid hR
      subst ea
      clear hR hJ2 hl2 hli hx c0 hJk
      gi_wp2_with fail
      refine hR'.out.mono ?_
      rintro e1 W3 (⟨rfl, hJ3, hk3⟩ | ⟨rfl, hJx, hk3⟩)
      · have hkk := hid (hkr.out.trans hk3.js)
        have hJ4 : J ⟨true, B0, [], js, k + 1, none⟩ W3 := hJ3
        clear hR' hy hkr hJ3
        gi_wp2_with fail
        go_roundw
        case rel => exact ⟨k + 1, by omega, by go_num, hJ4, hkk⟩
        case measure => simp [intOf]; omega
      · clear hR' hy
        gi_wp2_with fail
        refine bodyPost_ret (results_none rfl _ _ _) rfl ?_
        exact ⟨⟨_, rfl⟩, .inr ⟨_, rfl, hJx⟩⟩
    · have e : k = L.length := by omega
      subst e
      gi_wp2
      go_end0
      exact ⟨⟨_, rfl⟩, .inl ⟨_, ⟨rfl, by simp, rfl⟩, hJk⟩⟩
end Go.Proofs.Ytohkjikhlakglaa
end

section
namespace Go.Proofs.Ytohkjikhlakglaa
open Go.RowKit Go.Hay
set_option linter.unusedVariables false
set_option linter.unusedSimpArgs false

structure Bn (w : World) (q : Nat) (cs : List Value) : Prop where
  get : ∀ i u, cs[i]? = some u → w.cell? ⟨q, i, none⟩ = some u
  free : ∀ i, w.frozen? ⟨q, i, none⟩ = false
theorem Bn.new (w : World) (cs : List Value) (t : TypeId) : Bn (w.alloc (.cells cs.toArray t)) w.heap.size cs :=
  ⟨fun i u hu => by
    have e : (w.alloc (.cells cs.toArray t)).cell? ⟨w.heap.size, i, none⟩ = _ := World.cell?_alloc_new w _ _ i
    rw [e]; simpa using hu, fun i => World.frozen?_alloc_new w _ _ i⟩
theorem Bn.lt {w : World} {q : Nat} {cs : List Value} (h : Bn w q cs) (hn : 0 < cs.length) : q < w.heap.size := World.block_lt_of_cell? _ _ (h.get 0 cs[0] (by simp [hn]))
theorem Bn.keptS {w w' : World} {S : List Nat} {q : Nat} {cs : List Value} (h : Bn w q cs) (hk : Kp S w w') (hq : q ∉ S) (hl : q < w.heap.size) : Bn w' q cs :=
  ⟨fun i u hu => (hk.cell (p := ⟨q, i, none⟩) hl hq).trans (h.get i u hu), fun i => (hk.frozen (p := ⟨q, i, none⟩) hl hq).trans (h.free i)⟩
theorem Bn.kept {w w' : World} {q : Nat} {c : Value} {cs : List Value} (h : Bn w q (c :: cs)) (hk : Kp [] w w') : Bn w' q (c :: cs) := h.keptS hk (by simp) (h.lt (by simp))
theorem Bn.set {w : World} {q : Nat} {cs : List Value} (h : Bn w q cs) (i : Nat) (hi : i < cs.length) (v : Value) : Bn (w.setCell ⟨q, i, none⟩ v) q (cs.set i v) :=
  ⟨fun j u hu => by
    by_cases e : j = i
    · subst e
      rw [List.getElem?_set_self hi] at hu
      cases hu
      exact World.cell?_setCell_same _ _ _ (h.get j cs[j] (by simp [hi]))
    · rw [List.getElem?_set_ne (fun h => e h.symm)] at hu
      rw [World.cell?_setCell_other _ _ _ _ (by intro h; simp only [Addr.mk.injEq] at h; omega)]
      exact h.get j u hu, fun j => by rw [World.frozen?_setCell]; exact h.free j⟩
end Go.Proofs.Ytohkjikhlakglaa
end

section
namespace Go.Proofs.Ytohkjikhlakglaa
open Go.RowKit Go.Hay
set_option linter.unusedVariables false
set_option linter.unusedSimpArgs false

theorem ownV (a : Option Addr) (n c : Nat) : own (.slice a n c) = blk a := by cases a <;> rfl
/-- The cells of the blocks of P stand as they stood. -/
def CK (P : Nat → Prop) (X Y : World) : Prop := X.heap.size ≤ Y.heap.size ∧ ∀ p u, P p.block → X.cell? p = some u → Y.cell? p = some u ∧ Y.frozen? p = X.frozen? p
theorem CK.mono {P Q : Nat → Prop} {X Y : World} (h : CK P X Y) (hq : ∀ k, Q k → P k) : CK Q X Y := ⟨h.1, fun p u hp hc => h.2 p u (hq _ hp) hc⟩
theorem CK.trans {P : Nat → Prop} {X Y Z : World} (h : CK P X Y) (k : CK P Y Z) : CK P X Z := ⟨Nat.le_trans h.1 k.1, fun p u hp hc => by
  obtain ⟨h1, h2⟩ := h.2 p u hp hc
  obtain ⟨h3, h4⟩ := k.2 p u hp h1
  exact ⟨h3, h4.trans h2⟩⟩
theorem CK.ofBlock {P : Nat → Prop} {X Y : World} (hz : X.heap.size ≤ Y.heap.size) (h : ∀ k, P k → k < X.heap.size → Y.heap[k]? = X.heap[k]? ∨ ∃ o : Obj, X.heap[k]? = some o ∧ o.isCells = false) : CK P X Y := ⟨hz, fun p u hp hc => by
  have hl := World.block_lt_of_cell? _ _ hc
  rcases h p.block hp hl with e | ⟨o, ho, hf⟩
  · exact ⟨(World.cell?_of_block e).trans hc, World.frozen?_of_block e⟩
  · unfold World.cell? at hc
    rw [ho] at hc
    cases o <;> simp_all [Obj.isCells]⟩
theorem CK.ofKp {S : List Nat} {X Y : World} (h : Kp S X Y) : CK (fun k => k ∉ S) X Y := CK.ofBlock h.size fun k hk hl => .inl (h.block k hl hk)
theorem CK.ofTurn {B0 : Nat} {qs : List Nat} {X Y : World} (h : TurnR B0 qs X Y) : CK (fun k => k ∉ qs) X Y := CK.ofBlock h.size fun k hk hl => by
  rcases h.block k hl with e | e | ⟨_, e⟩
  · exact .inl e
  · exact absurd e hk
  · exact .inr e
theorem CK.ofGrown {X Y : World} {row : Option Nat} (h : X.grownBy Y row) (hr : ∀ r, row = some r → ∃ o : Obj, X.heap[r]? = some o ∧ o.isCells = false) : CK (fun _ => True) X Y := CK.ofBlock h.size fun k _ hl => by
  by_cases e : row = some k
  · exact .inr (hr k e)
  · exact .inl (h.block k hl (fun e' => e e'.symm))
theorem ckVals {P : Nat → Prop} {X Y : World} (h : CK P X Y) {a : Option Addr} {l : List Val} (hv : Vals X a l) (hP : ∀ k ∈ blk a, P k) : Vals Y a l := by
  rcases hv with e | ⟨g, o, e, hc⟩
  · exact .inl e
  · subst e
    have hg := hP g (by simp [blk])
    refine .inr ⟨g, o, rfl, fun j y hy => ?_⟩
    obtain ⟨h0, h1, h2, h3⟩ := hc j y hy
    exact ⟨(h.2 ⟨g, _, none⟩ _ hg h0).1, (h.2 ⟨g, _, none⟩ _ hg h1).1, (h.2 ⟨g, _, none⟩ _ hg h2).1, (h.2 ⟨g, _, none⟩ _ hg h3).1⟩
theorem ckRow {α : Type} {E : El α} {P : Nat → Prop} {X Y : World} (h : CK P X Y) {a : Option Addr} {n c : Nat} {l : List α} (hr : E.Row X (.slice a n c) l) (hP : ∀ k ∈ blk a, P k) : E.Row Y (.slice a n c) l := by
  rcases hr with e | ⟨g, o, cap, e, h1, h2, h3, h4, h5⟩
  · exact .inl e
  · injection e with e1 e2 e3
    subst e1 e2 e3
    have hg := hP g (by simp [blk])
    refine .inr ⟨g, o, c, rfl, h1, h2, Nat.lt_of_lt_of_le h3 h.1, fun j u hu => (h.2 ⟨g, _, none⟩ u hg (h4 j u hu)).1, fun j hj => ?_⟩
    obtain ⟨h6, h7⟩ := h5 j hj
    obtain ⟨u, hu⟩ := Option.isSome_iff_exists.1 h6
    obtain ⟨h8, h9⟩ := h.2 ⟨g, _, none⟩ u hg hu
    exact ⟨by rw [h8]; rfl, h9.trans h7⟩
theorem Vs.lies.ck {P : Nat → Prop} {X Y : World} {x : Vs} (hx : x.lies X) (h : CK P X Y) (hP : ∀ k ∈ blk x.a, P k) : x.lies Y := ⟨ckVals h hx.see hP, hx.cap, hx.most, hx.nil⟩
/-- Rows that were gathered: all blocks from N on, the rows apart from the row of rows. -/
structure Lot (N : Nat) (ra : Option Addr) (rc : Nat) (L : List Vs) (W : World) : Prop where
  row : VsE.Row W (.slice ra L.length rc) L
  lies : ∀ x ∈ L, x.lies W
  own : ∀ k ∈ blk ra, N ≤ k
  rows : ∀ x ∈ L, ∀ k ∈ blk x.a, N ≤ k ∧ k < W.heap.size ∧ k ∉ blk ra
theorem Lot.nil (N : Nat) (W : World) : Lot N none 0 [] W := ⟨.inl ⟨rfl, rfl⟩, by simp, by simp [blk], by simp⟩
theorem Lot.ck {N : Nat} {ra : Option Addr} {rc : Nat} {L : List Vs} {P : Nat → Prop} {X Y : World} (h : Lot N ra rc L X) (k : CK P X Y) (h1 : ∀ k ∈ blk ra, P k) (h2 : ∀ x ∈ L, ∀ k ∈ blk x.a, P k) : Lot N ra rc L Y :=
  ⟨ckRow k h.row h1, fun x hx => (h.lies x hx).ck k (h2 x hx), h.own, fun x hx j hj => ⟨(h.rows x hx j hj).1, Nat.lt_of_lt_of_le (h.rows x hx j hj).2.1 k.1, (h.rows x hx j hj).2.2⟩⟩
theorem Lot.lt {N : Nat} {ra : Option Addr} {rc : Nat} {L : List Vs} {X : World} (h : Lot N ra rc L X) : ∀ k ∈ blk ra, k < X.heap.size := fun k hk => h.row.lt k (by rw [ownV]; exact hk)
theorem Lot.mono {N M : Nat} {ra : Option Addr} {rc : Nat} {L : List Vs} {X : World} (h : Lot N ra rc L X) (hm : M ≤ N) : Lot M ra rc L X :=
  ⟨h.row, h.lies, fun k hk => Nat.le_trans hm (h.own k hk), fun x hx k hk => ⟨Nat.le_trans hm (h.rows x hx k hk).1, (h.rows x hx k hk).2⟩⟩
theorem infoVs : ∃ i : TypeInfo, Try.prog.info? 24 = some i ∧ i.zero = some (.slice none 0 0) ∧ i.size = 1 ∧ i.bytes = 24 := by
  have h : (Try.prog.info? 24).map (fun i => (i.zero, i.size, i.bytes)) = some (some (.slice none 0 0), 1, 24) := by kernel_rfl
  cases e : Try.prog.info? 24 with
  | none => rw [e] at h; cases h
  | some i =>
    rw [e] at h
    simp at h
    exact ⟨i, rfl, h.1, h.2.1, h.2.2⟩
/-- One more row, behind the others. -/
theorem Lot.app {N : Nat} {ra : Option Addr} {rc : Nat} {L : List Vs} {w : World} (h : Lot N ra rc L w) (x : Vs) (hx : x.lies w) (hN : N ≤ w.heap.size) (hb : ∀ k ∈ blk x.a, N ≤ k ∧ k < w.heap.size ∧ k ∉ blk ra) (hl : L.length ≤ 4000000000000) :
    ∃ a' c' W', (Builtin.append_ #[22, 22] 22 #[.slice ra L.length rc, .slice (some ⟨w.heap.size, 0, none⟩) 1 1]).run Try.prog (w.alloc (.cells #[.slice x.a x.l.length x.c] 24)) = .ok (.slice a' (L ++ [x]).length c') W' ∧ Lot N a' c' (L ++ [x]) W' ∧ Kp (blk ra) w W' ∧ ∀ k ∈ blk a', k ∈ blk ra ∨ w.heap.size ≤ k := by
  obtain ⟨A1, hA1⟩ : ∃ A1, w.alloc (.cells #[.slice x.a x.l.length x.c] 24) = A1 := ⟨_, rfl⟩
  have kA1 : Kp [] w A1 := by rw [← hA1]; exact (Kp.refl _ _).alloc _
  have bx1 : Bn A1 w.heap.size (VsE.c x) := by rw [← hA1]; exact Bn.new w (VsE.c x) _
  have hs1 : VsE.See A1 (some ⟨w.heap.size, 0, none⟩) [x] := .inr ⟨w.heap.size, 0, rfl, fun j u hu => by rw [Nat.zero_add]; exact bx1.get j u (by simpa [El.cs] using hu)⟩
  obtain ⟨i0, hi, hz0', hz1', hz2'⟩ := infoVs
  have hsr := hs1.src (P := Try.prog) Try.underlying22 1
  obtain ⟨v', A2, hrun, hrow2, k2, hn2⟩ := run_appendG (E := VsE) (P := Try.prog) A1 22 22 22 24 i0 _ 24 Try.underlying22 hi hz0' hz1' hz2' rfl (.slice ra L.length rc) L (h.row.keptNew kA1) _ [x] hsr (by simp only [List.length_cons, List.length_nil]; omega) (by simp only [List.length_cons, List.length_nil]; omega)
  obtain ⟨a', c', rfl, _⟩ := hrow2.see
  simp only [ownV] at k2 hn2
  rw [hA1]
  have z1 := kA1.size
  have kw : Kp (blk ra) w A2 := (kA1.mono (by simp)).trans k2 (fun j hj => .inl hj)
  have hnew : ∀ k ∈ blk a', k ∈ blk ra ∨ w.heap.size ≤ k := fun k hk => by
    rcases hn2 k hk with e | e
    · exact .inl e
    · exact .inr (by omega)
  have ck := CK.ofKp kw
  refine ⟨a', c', A2, hrun, ⟨hrow2, fun y hy => ?_, fun k hk => ?_, fun y hy k hk => ?_⟩, kw, hnew⟩
  · rcases List.mem_append.1 hy with hy | hy
    · exact (h.lies y hy).ck ck (fun k hk => (h.rows y hy k hk).2.2)
    · rw [List.mem_singleton.1 hy]; exact hx.ck ck (fun k hk => (hb k hk).2.2)
  · rcases hnew k hk with e | e
    · exact h.own k e
    · omega
  · have h0 : N ≤ k ∧ k < w.heap.size ∧ k ∉ blk ra := by
      rcases List.mem_append.1 hy with hy | hy
      · exact h.rows y hy k hk
      · rw [List.mem_singleton.1 hy] at hk; exact hb k hk
    refine ⟨h0.1, Nat.lt_of_lt_of_le h0.2.1 kw.size, fun hm => ?_⟩
    rcases hnew k hm with e | e
    · exact h0.2.2 e
    · omega
end Go.Proofs.Ytohkjikhlakglaa
end

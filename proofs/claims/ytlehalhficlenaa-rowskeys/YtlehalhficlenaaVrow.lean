/- How two rows are ordered. -/
import Derived.Test.YtlehalhficlenaaVcmp
import Derived.Deep.RegionHeld3
import Derived.Deep.RegionWith
namespace Go.Proofs.Ytlehalhficlenaa
open Go.RowKit Go.Hay
set_option linter.unusedVariables false
set_option linter.unusedSimpArgs false

/-- Values, one behind the other. -/
def Vals (w : World) (a : Option Addr) (l : List Val) : Prop :=
  l = [] ∨ ∃ g o, a = some ⟨g, o, none⟩ ∧ ∀ j x, l[j]? = some x → w.cell? ⟨g, o + j * 4, none⟩ = some (.int .i64 x.k) ∧ w.cell? ⟨g, o + j * 4 + 1, none⟩ = some (.bool x.b) ∧ w.cell? ⟨g, o + j * 4 + 2, none⟩ = some (.int .i64 x.n) ∧ w.cell? ⟨g, o + j * 4 + 3, none⟩ = some (.string x.t)
theorem Vals.kept {w w' : World} {a : Option Addr} {l : List Val} (h : Vals w a l) (hk : Kp [] w w') : Vals w' a l := by
  rcases h with h | ⟨g, o, rfl, hc⟩
  · exact .inl h
  · refine .inr ⟨g, o, rfl, fun j t ht => ?_⟩
    obtain ⟨c0, c1, c2, c3⟩ := hc j t ht
    exact ⟨(hk.cell (World.block_lt_of_cell? _ _ c0) (by simp)).trans c0, (hk.cell (World.block_lt_of_cell? _ _ c1) (by simp)).trans c1, (hk.cell (World.block_lt_of_cell? _ _ c2) (by simp)).trans c2, (hk.cell (World.block_lt_of_cell? _ _ c3) (by simp)).trans c3⟩
theorem Vals.at {w : World} {a : Option Addr} {l : List Val} (h : Vals w a l) (j : Nat) (hj : j < l.length) : ∃ g o, a = some ⟨g, o, none⟩ ∧ w.cell? ⟨g, o + j * 4, none⟩ = some (.int .i64 l[j].k) ∧ w.cell? ⟨g, o + j * 4 + 1, none⟩ = some (.bool l[j].b) ∧ w.cell? ⟨g, o + j * 4 + 2, none⟩ = some (.int .i64 l[j].n) ∧ w.cell? ⟨g, o + j * 4 + 3, none⟩ = some (.string l[j].t) := by
  rcases h with h | ⟨g, o, rfl, hc⟩
  · subst h; simp at hj
  · exact ⟨g, o, rfl, hc j l[j] (by simp)⟩
/-- Cells that are there stay where nothing older turns. -/
theorem kpAt {w w' : World} {p : Addr} {v : Value} (hk : Kp [] w w') (h : w.cell? p = some v) : w'.cell? p = some v := (hk.cell (World.block_lt_of_cell? _ _ h) (by simp)).trans h

/-- The order of rows. -/
def rowsV : List Val → List Val → Int
  | [], [] => 0
  | [], _ :: _ => -1
  | _ :: _, [] => 1
  | x :: a, y :: b => if cmpV x y = 0 then rowsV a b else cmpV x y
theorem rowsV_step (a b : List Val) (j : Nat) (ha : j < a.length) (hb : j < b.length) : rowsV (a.drop j) (b.drop j) = if cmpV a[j] b[j] = 0 then rowsV (a.drop (j + 1)) (b.drop (j + 1)) else cmpV a[j] b[j] := by
  rw [List.drop_eq_getElem_cons ha, List.drop_eq_getElem_cons hb, rowsV]
theorem rowsV_end (a b : List Val) (j : Nat) (h : j = min a.length b.length) : rowsV (a.drop j) (b.drop j) = ci a.length b.length := by
  unfold ci
  rcases Nat.lt_trichotomy a.length b.length with h1 | h1 | h1
  · rw [if_pos (by omega), List.drop_eq_nil_of_le (by omega), List.drop_eq_getElem_cons (by omega : j < b.length), rowsV]
  · rw [if_neg (by omega), if_neg (by omega), List.drop_eq_nil_of_le (by omega), List.drop_eq_nil_of_le (by omega), rowsV]
  · rw [if_neg (by omega), if_pos (by omega), List.drop_eq_getElem_cons (by omega : j < a.length), List.drop_eq_nil_of_le (by omega : b.length ≤ j), rowsV]


set_option maxHeartbeats 2000000 in
set_option maxRecDepth 100000 in
theorem cRefRows (a b : Option Addr) (ca cb : Nat) (la lb : List Val) (w : World) (ha : Vals w a la) (hb : Vals w b lb) (hla : la.length ≤ 9223372036854775807) (hlb : lb.length ≤ 9223372036854775807) :
    Calls Try.prog 14 #[.slice a la.length ca, .slice b lb.length cb] w fun e w' => e = .returned (.int .i64 (rowsV la lb)) ∧ Kp [] w w' := by
  go_enter Try.func14, Try.ntmps14
  go_wp2_with fail
  go_loopw [5] (fun i wn => ∃ j : Nat, j ≤ la.length ∧ j ≤ lb.length ∧ i = .int .i64 j ∧ Hid (rowsV (la.drop j) (lb.drop j) = rowsV la lb) ∧ Kp [] w wn) (fun i _ => la.length - (intOf i).toNat)
  case atStart => exact ⟨0, Nat.zero_le _, Nat.zero_le _, rfl, rfl, Kp.refl _ _⟩
  case round =>
    obtain ⟨j, hj, hj', rfl, hr, hk⟩ := hrel
    by_cases hja : j < la.length
    · by_cases hjb : j < lb.length
      · obtain ⟨g, o, rfl, a0, a1, a2, a3⟩ := (ha.kept hk).at j hja
        obtain ⟨g', o', rfl, b0, b1, b2, b3⟩ := (hb.kept hk).at j hjb
        have hst := hid (rowsV_step la lb j hja hjb)
        generalize hx : la[j] = x at *
        generalize hy : lb[j] = y at *
        have hc := cRefCompare x y
        obtain ⟨c, Hc⟩ : ∃ c : Int, Hid (cmpV x y = c) := ⟨_, rfl⟩
        rw [Hc.out] at hc
        obtain ⟨xk, xb, xn, xt⟩ := x
        obtain ⟨yk, yb, yn, yt⟩ := y
        unfold Val.v at hc
        dsimp only at a0 a1 a2 a3 b0 b1 b2 b3 hc
        clear hx hy
        have hne : ((j : Int) == (lb.length : Int)) = false := by simp; omega
        go_wp2_with fail
        go_region_held3 (fun w' => w'.cell? ⟨g, o + j * 4, none⟩ = some (.int .i64 xk) ∧ w'.cell? ⟨g, o + j * 4 + 1, none⟩ = some (.bool xb) ∧ w'.cell? ⟨g, o + j * 4 + 2, none⟩ = some (.int .i64 xn) ∧ w'.cell? ⟨g, o + j * 4 + 3, none⟩ = some (.string xt) ∧ w'.cell? ⟨g', o' + j * 4, none⟩ = some (.int .i64 yk) ∧ w'.cell? ⟨g', o' + j * 4 + 1, none⟩ = some (.bool yb) ∧ w'.cell? ⟨g', o' + j * 4 + 2, none⟩ = some (.int .i64 yn) ∧ w'.cell? ⟨g', o' + j * 4 + 3, none⟩ = some (.string yt)) (first | go_keep)
          (first | (go_at_call 24; refine (hc _).mono ?_; rintro e w1 ⟨rfl, k1⟩; have y0 := kpAt (w := wr.drew) k1 a0; have y1 := kpAt (w := wr.drew) k1 a1; have y2 := kpAt (w := wr.drew) k1 a2; have y3 := kpAt (w := wr.drew) k1 a3; have z0 := kpAt (w := wr.drew) k1 b0; have z1 := kpAt (w := wr.drew) k1 b1; have z2 := kpAt (w := wr.drew) k1 b2; have z3 := kpAt (w := wr.drew) k1 b3))
        have hkk := hk.drew.trans k1 (by simp)
        by_cases hc0 : c = 0
        · subst hc0
          have hn : Hid (rowsV (la.drop (j + 1)) (lb.drop (j + 1)) = rowsV la lb) := by show _ = _; rw [← hr.out, hst.out, if_pos Hc.out]
          clear hst hr
          go_wp2_with fail
          exact ⟨⟨j + 1, by omega, by omega, by go_num, hn, hkk⟩, by simp [intOf]; omega⟩
        · have hn : Hid (rowsV la lb = c) := by show _ = _; rw [← hr.out, hst.out, if_neg (by rw [Hc.out]; exact hc0), Hc.out]
          have hcc : (c == 0) = false := by simpa using hc0
          clear hst hr
          go_wp2_with fail
          go_ret
          exact ⟨by rw [hn.out]; rfl, hkk⟩
      · have hjl : j = lb.length := by omega
        have hn : Hid (rowsV la lb = 1) := by show _ = _; rw [← hr.out, rowsV_end la lb j (by omega), ci, if_neg (by omega), if_pos (by omega)]
        subst hjl
        clear hr
        go_wp2_with fail
        go_ret
        exact ⟨by rw [hn.out]; rfl, hk⟩
    · have hjl : j = la.length := by omega
      have he := hid (rowsV_end la lb j (by omega))
      subst hjl
      by_cases hll : la.length < lb.length
      · have hn : Hid (rowsV la lb = -1) := by show _ = _; rw [← hr.out, he.out, ci, if_pos (by omega)]
        clear he hr
        go_wp2_with fail
        go_ret
        exact ⟨by rw [hn.out]; rfl, hk⟩
      · have hn : Hid (rowsV la lb = 0) := by show _ = _; rw [← hr.out, he.out, ci, if_neg (by omega), if_neg (by omega)]
        clear he hr
        go_wp2_with fail
        go_ret
        exact ⟨by rw [hn.out]; rfl, hk⟩
end Go.Proofs.Ytlehalhficlenaa

/- What the proof stands on: contracts of functions that the statement calls, and plain lemmas. No statement of the seat is proved here. -/
import Derived.Test.YtcgkkofmnajedaaGreatDoorB4
import Derived.Test.YtcgkkofmnajedaaGreatDoorB12
import Derived.Test.YtcgkkofmnajedaaGreatDoorB1
import Derived.Test.YtcgkkofmnajedaaGreatDoorCards
import Derived.Test.YtcgkkofmnajedaaGreatDoorTie
import Derived.Test.YtcgkkofmnajedaaGreatDoorB7
import Derived.Laws.IdiomArrays
import Derived.Deep.DeepHandedRow
import Derived.Lib.LaidTab
import Derived.SizedLaws
import Derived.Test.YtcgkkofmnajedaaGreatDoorB10
import Derived.Test.YtcgkkofmnajedaaGreatDoorB3
import Derived.Test.YtcgkkofmnajedaaGreatDoorB6
set_option maxHeartbeats 64000000
set_option maxRecDepth 100000
set_option linter.unusedVariables false
set_option linter.unusedSimpArgs false
section
namespace Go.Proofs.YtcgkkofmnajedaaGreatDoor
open Go.RowKit Go.Hay
attribute [local go_sem] Oper.semAt_some
def vFourP : Val := ⟨2, false, 4, ⟨#[]⟩⟩
def qA (q : Nat) : Qy := ⟨0, false, 0, 0, 0, ⟨none, 0, []⟩, ⟨some ⟨q, 0, none⟩, 1, [0]⟩, false, ⟨none, 0, []⟩, ⟨none, 0, []⟩, ⟨none, 0, []⟩, 0⟩
theorem qA_ok {W : World} {q : Nat} (b : Bn W q [.int .i64 0]) : (qA q).ok W :=
 ⟨⟨.inl rfl, fun _ => rfl, by simp [qA]⟩, ⟨.inr ⟨q, 0, rfl, fun j u hu => by rw [Nat.zero_add]; exact b.get j u (by simpa [qA, El.cs, IntE] using hu)⟩, fun h => (by cases h), by simp [qA]⟩, ⟨.inl rfl, fun _ => rfl, by simp [qA]⟩, ⟨.inl rfl, fun _ => rfl, by simp [qA]⟩, ⟨.inl rfl, fun _ => rfl, by simp [qA]⟩, by simp [qA]⟩
theorem qA_ans (q : Nat) : ansV (qA q) [[vFourP]] [] = some [[vFourP]] := by kernel_rfl
theorem cAlive16 (w : World) (hA : Asks w) : Calls Tryz.prog 8 #[] w fun e w' => e = .returned (.bool true) ∧ Kp [] w w' := by
 have cS := hid (cSmall w)
 have HA := hid hA
 clear hA;go_enter Tryz.func8, Tryz.ntmps8
 go_wp2_with fail;refine cS.out.mono ?_;rintro e w1 ⟨qa, qb, qc, qd, qe, qf, rfl, hok, k1⟩;have hwy := cgS_ways qa qb qc qd qe qf
 have hpk := cgS_pick qa qb qc qd qe qf
 have hT8 : ∀ x ∈ (cgS qa qb qc qd qe qf).tl, x.l.length ≤ 9223372036854775806 := fun x hx => by simp [cgS] at hx; subst hx; simp
 have htl : (cgS qa qb qc qd qe qf).tl.length ≤ 9223372036854775807 := by simp [cgS]
 have hpl : (cgS qa qb qc qd qe qf).pl.length ≤ 4000000000000 := by simp [cgS]
 generalize cgS qa qb qc qd qe qf = c at *
 have hR8 : (waysV c 0).length ≤ 4000000000000 := by rw [hwy]; simp
 obtain ⟨v0, hv0, k0, b0⟩ : ∃ x, w1.alloc (.cells #[.int .i64 0, .int .i64 0, .int .i64 0, .slice none 0 0, .slice none 0 0] 25) = x ∧ Kp [] w1 x ∧ Bn x w1.heap.size [.int .i64 0, .int .i64 0, .int .i64 0, .slice none 0 0, .slice none 0 0] := ⟨_, rfl, (Kp.refl _ _).alloc _, Bn.new w1 _ _⟩
 obtain ⟨q1, hq1⟩ : ∃ q, Hid (w1.heap.size = q) := ⟨_, hid rfl⟩
 rw [hq1.out] at b0;obtain ⟨v1, hv1⟩ : ∃ x, ((((v0.setCell ⟨q1, 0, none⟩ (.int .i64 c.n)).setCell ⟨q1, 1, none⟩ (.int .i64 c.s)).setCell ⟨q1, 2, none⟩ (.int .i64 c.k)).setCell ⟨q1, 3, none⟩ (.slice c.ta c.tl.length c.tc)).setCell ⟨q1, 4, none⟩ (.slice c.pa c.pl.length c.pc) = x := ⟨_, rfl⟩
 have kS : Kp [q1] v0 v1 := by rw [← hv1]; exact ((((((Kp.refl _ _).setCell (by simp) _).setCell (by simp) _).setCell (by simp) _).setCell (by simp) _).setCell (by simp) _)
 have b1 : Bn v1 q1 [.int .i64 c.n, .int .i64 c.s, .int .i64 c.k, .slice c.ta c.tl.length c.tc, .slice c.pa c.pl.length c.pc] := by rw [← hv1]; exact (((((b0.set 0 (by simp) (.int .i64 c.n)).set 1 (by simp) (.int .i64 c.s)).set 2 (by simp) (.int .i64 c.k)).set 3 (by simp) (.slice c.ta c.tl.length c.tc)).set 4 (by simp) (.slice c.pa c.pl.length c.pc))
 have kk : Kp [] w1 v1 := k0.trans kS (fun x hx => .inr (by have := hq1.out; simp at hx; omega))
 have hok1 := hok.kept kk
 have cC := hid (callsIn_wide.1 (cChoose c 0 (-1) v1 hok1 hT8 htl hpl hR8))
 rw [hpk] at cC
 have HM : Hid (∀ W, Kp [] v1 W → Calls Tryz.prog 14 #[c.v, .int .i64 0] W fun e w' => e = .returned (.int .i64 2) ∧ Kp [] W w') := hid fun W k => by
  have h := callsIn_wide.1 (cMany c 0 W (hok1.kept k) hT8 htl hpl hR8)
  rw [hwy] at h;exact h
 have a0 := b0.get 0 _ rfl; have a1 := b0.get 1 _ rfl; have a2 := b0.get 2 _ rfl; have a3 := b0.get 3 _ rfl; have a4 := b0.get 4 _ rfl
 have f0 := b0.free 0; have f1 := b0.free 1; have f2 := b0.free 2; have f3 := b0.free 3; have f4 := b0.free 4
 have g0 := b1.get 0 _ rfl; have g1 := b1.get 1 _ rfl; have g2 := b1.get 2 _ rfl; have g3 := b1.get 3 _ rfl; have g4 := b1.get 4 _ rfl
 have HB1 := hid b1
 have HK1 := hid (k1.trans kk (by simp))
 have hq1' := hq1.out
 simp only [Cg.v, plV] at cC HM ⊢;clear cS k1 hok hok1 hwy hpk hT8 htl hpl hR8 k0 b0 kS b1 kk;go_wp2_with fail;refine cC.out.mono ?_;rintro e w2 ⟨rfl, k2⟩;obtain ⟨u0, hu0, j0, d0⟩ : ∃ x, w2.alloc (.cells #[.int .i64 0, .int .i64 0] 38) = x ∧ Kp [] w2 x ∧ Bn x w2.heap.size [.int .i64 0, .int .i64 0] := ⟨_, rfl, (Kp.refl _ _).alloc _, Bn.new w2 _ _⟩
 obtain ⟨q2, hq2⟩ : ∃ q, Hid (w2.heap.size = q) := ⟨_, hid rfl⟩
 rw [hq2.out] at d0;obtain ⟨u1, hu1⟩ : ∃ x, (u0.setCell ⟨q2, 0, none⟩ (.int .i64 1)).setCell ⟨q2, 1, none⟩ (.int .i64 2) = x := ⟨_, rfl⟩
 have jS : Kp [q2] u0 u1 := by rw [← hu1]; exact (((Kp.refl _ _).setCell (by simp) _).setCell (by simp) _)
 have d1 : Bn u1 q2 [.int .i64 1, .int .i64 2] := by rw [← hu1]; exact ((d0.set 0 (by simp) (.int .i64 1)).set 1 (by simp) (.int .i64 2))
 have j1 : Kp [] w2 u1 := j0.trans jS (fun x hx => .inr (by have := hq2.out; simp at hx; omega))
 obtain ⟨u2, hu2, j2, d2⟩ : ∃ x, u1.alloc (.cells #[.int .i64 0] 3) = x ∧ Kp [] u1 x ∧ Bn x u1.heap.size [.int .i64 0] := ⟨_, rfl, (Kp.refl _ _).alloc _, Bn.new u1 _ _⟩
 obtain ⟨u3, hu3, j3, d3⟩ : ∃ x, u2.alloc (.cells #[.int .i64 2, .bool false, .int .i64 4, .string ⟨#[]⟩] 88) = x ∧ Kp [] u2 x ∧ Bn x u2.heap.size [.int .i64 2, .bool false, .int .i64 4, .string ⟨#[]⟩] := ⟨_, rfl, (Kp.refl _ _).alloc _, Bn.new u2 _ _⟩
 obtain ⟨u4, hu4, j4, d4⟩ : ∃ x, u3.alloc (.cells #[.slice (some ⟨u2.heap.size, 0, none⟩) 1 1] 61) = x ∧ Kp [] u3 x ∧ Bn x u3.heap.size [.slice (some ⟨u2.heap.size, 0, none⟩) 1 1] := ⟨_, rfl, (Kp.refl _ _).alloc _, Bn.new u3 _ _⟩
 have j14 := (j2.trans j3 (by simp)).trans j4 (by simp)
 have kv4 : Kp [] v1 u4 := (k2.trans j1 (by simp)).trans j14 (by simp)
 have kw4 : Kp [] w u4 := HK1.out.trans kv4 (by simp)
 have s0 : VE.See u4 (some ⟨u2.heap.size, 0, none⟩) [vFourP] := .inr ⟨u2.heap.size, 0, rfl, fun j u hu => by rw [Nat.zero_add]; exact (d3.kept j4).get j u (by simpa [El.cs, VE, vFourP] using hu)⟩
 have x0 : (⟨some ⟨u2.heap.size, 0, none⟩, 1, [vFourP]⟩ : Vs).lies u4 := ⟨seeV.1 s0, by simp, by show (1 : Nat) ≤ maxLen; unfold maxLen; omega, fun h => (by cases h)⟩
 have s1 : VsE.See u4 (some ⟨u3.heap.size, 0, none⟩) [⟨some ⟨u2.heap.size, 0, none⟩, 1, [vFourP]⟩] := .inr ⟨u3.heap.size, 0, rfl, fun j u hu => by rw [Nat.zero_add]; exact d4.get j u (by simpa [El.cs, VsE] using hu)⟩
 have cAn := cAnswer (qA u1.heap.size) (some ⟨u3.heap.size, 0, none⟩) 1 [⟨some ⟨u2.heap.size, 0, none⟩, 1, [vFourP]⟩] none 0 [] u4 (qA_ok ((d2.kept j3).kept j4)) (HA.out.kept kw4 (by simp)) s1 (fun x hx => by rw [List.mem_singleton.1 hx]; exact x0) (.inl rfl) (by simp) (by simp) (by simp) (fun x hx => by rw [List.mem_singleton.1 hx]; simp) (by simp) (by intro h; simp [qA] at h)
 have eA := qA_ans u1.heap.size
 simp only [List.map_cons, List.map_nil] at cAn;rw [eA] at cAn;simp only [qA, Qy.cs, Sl.v, List.length_cons, List.length_nil, Nat.zero_add] at cAn;have cAn' := hid cAn
 have HV4 := hid (And.intro kv4 kw4)
 have HD := hid (d1.kept j14)
 have z0 := d0.get 0 _ rfl; have z1 := d0.get 1 _ rfl
 have y0 := d0.free 0; have y1 := d0.free 1
 have hq2' := hq2.out
 clear cC k2 j0 d0 jS d1 j1 j2 d2 j3 d3 j4 d4 j14 kv4 kw4 s0 x0 s1 cAn eA;go_wp2_with fail;refine cAn'.out.mono ?_;rintro e w5 ⟨ra, rc, L, rfl, hlot, hL, k5⟩
 obtain ⟨x, rfl, hxl⟩ : ∃ x, L = [x] ∧ x.l = [vFourP] := by
  cases L with
  | nil => simp at hL
  | cons x l =>
   simp at hL
   obtain ⟨h1, h2⟩ := hL;subst h2;exact ⟨x, rfl, h1⟩
 obtain ⟨a', c', e', hsee, _, _, _, _⟩ := hlot.row.see
 cases e'
 obtain ⟨ga, oa, ea, r0⟩ := vsAt hsee (k := 0) (x := x) rfl;have hxs := (hlot.lies x (by simp)).see
 obtain ⟨xa, xc, xl⟩ := x;dsimp only at hxl;subst hxl;dsimp only at hxs r0;have hxs2 := seeV.2 hxs
 obtain ⟨gb, ob, eb, hc⟩ := hxs2.at (j := 0) (x := vFourP) rfl;have r2 := hc 2 _ rfl
 subst eb;have hb5 := HB1.out.kept (HV4.out.1.trans k5 (by simp))
 have g0 := hb5.get 0 _ rfl; have g1 := hb5.get 1 _ rfl; have g2 := hb5.get 2 _ rfl; have g3 := hb5.get 3 _ rfl; have g4 := hb5.get 4 _ rfl
 have cMa := hid (HM.out w5 (HV4.out.1.trans k5 (by simp)))
 have K5 := hid k5
 have HD5 := hid (HD.out.kept k5)
 simp only [List.length_cons, List.length_nil, Nat.zero_add, Nat.add_zero, Nat.zero_mul, VE, vFourP] at *;have HR := hid (And.intro r0 r2)
 subst ea;clear hlot hL k5 hsee hxs hxs2 hc cAn' hb5 r0 r2;go_wp2_with fail;refine cMa.out.mono ?_;rintro e w6 ⟨rfl, k6⟩;have HK6 := hid (HV4.out.2.trans (K5.out.trans k6 (by simp)) (by simp))
 have r0 := kpAt k6 HR.out.1
 have r2 := kpAt k6 HR.out.2
 have hd6 := HD5.out.kept k6
 have p0 := hd6.get 0 _ rfl; have p1 := hd6.get 1 _ rfl
 clear cMa k6 hd6;go_wp2_with fail;go_returns;exact ⟨rfl, HK6.out⟩
end Go.Proofs.YtcgkkofmnajedaaGreatDoor
end

section
namespace Go.Proofs.YtcgkkofmnajedaaGreatDoor
open Go.ChangeShapes Go.WideShapes Go.ChangeAt Go.RowKit Go.Hay
theorem cellsX1 : Tryz.prog.cellsOf 3 = 1 := by kernel_rfl
theorem cellsX2 : Tryz.prog.cellsOf 4 = 1 := by kernel_rfl
theorem cellsX3 : Tryz.prog.cellsOf 2 = 1 := by kernel_rfl
theorem cellsX4 : Tryz.prog.cellsOf 9 = 1 := by kernel_rfl
theorem cellsX5 : Tryz.prog.cellsOf 88 = 4 := by kernel_rfl
instance : Inhabited Val := ⟨⟨0, false, 0, ⟨#[]⟩⟩⟩
section
variable {H : Type} {enc : TypeId × Value → H} {W : World} {a : Option Addr} {len cap : Nat} {d : DataW H} {ps : List MemPlace}
theorem openV4 {fuel : Nat} {c0 c1 c2 c3 : Value} {x : DataW H × List MemPlace} (h : DataW.trod enc Tryz.prog W 0 (fun _ => true) true fuel 88 [c0, c1, c2, c3] = some x) :
  ∃ t : Val, c0 = .int .i64 t.k ∧ c1 = .bool t.b ∧ c2 = .int .i64 t.n ∧ c3 = .string t.t := by
 obtain ⟨xs, n, _, rfl, _, hlen, hf⟩ := DataW.trod_struct Tryz.underlying88 h
 match xs, hlen with
 | [y0, y1, y2, y3], _ =>
  have h0 := hf 0 _ rfl
  have h1 := hf 1 _ rfl
  have h2 := hf 2 _ rfl
  have h3 := hf 3 _ rfl
  simp [cellsX1, cellsX2, cellsX3, cellsX4] at h0 h1 h2 h3
  obtain ⟨k, e0, _, w0⟩ := DataW.trod_int Tryz.underlying3 h0;obtain ⟨b, e1, _⟩ := DataW.trod_bool Tryz.underlying4 h1;obtain ⟨n2, e2, _, w2⟩ := DataW.trod_int Tryz.underlying2 h2;obtain ⟨s, e3, _, w3⟩ := DataW.trod_string Tryz.underlying9 h3;simp at e0 e1 e2 e3
  exact ⟨⟨k, b, n2, s⟩, e0, e1, e2, e3⟩
end
theorem cellsX6 : Tryz.prog.cellsOf 145 = 6 := by kernel_rfl
theorem bytesX6 : Tryz.prog.bytesOf 145 = 56 := by kernel_rfl
def ColE : El Col where
 n := 3
 c x := [.string x.nm, .int .i64 x.k, .bool x.z]
 len _ := rfl
 one _ u hu := by simp at hu; rcases hu with rfl | rfl | rfl <;> rfl
 pos := by decide
theorem colSee {w : World} {a : Option Addr} {l : List Col} (h : ColE.See w a l) : Cols w a l := by
 by_cases hl : l = []
 ·exact .inl hl
 ·obtain ⟨x, l', rfl⟩ := List.exists_cons_of_ne_nil hl
  obtain ⟨g, o, rfl, _⟩ := h.at (j := 0) (x := x) rfl;refine .inr ⟨g, o, rfl, fun j y hy => ?_⟩
  obtain ⟨g2, o2, e, hc⟩ := h.at hy
  cases e
  exact ⟨hc 0 _ rfl, hc 1 _ rfl, hc 2 _ rfl⟩
instance : Inhabited Col := ⟨⟨⟨#[]⟩, 0, false⟩⟩
section
variable {H : Type} {enc : TypeId × Value → H} {W : World} {a : Option Addr} {len cap : Nat} {d : DataW H} {ps : List MemPlace}
theorem openT6 {fuel : Nat} {c0 c1 c2 c3 c4 c5 : Value} {x : DataW H × List MemPlace} (h : DataW.trod enc Tryz.prog W 0 (fun _ => true) true fuel 145 [c0, c1, c2, c3, c4, c5] = some x) :
  ∃ t : Tm, c0 = .int .i64 t.co ∧ c1 = .int .i64 t.op ∧ c2 = .int .i64 t.x.k ∧ c3 = .bool t.x.b ∧ c4 = .int .i64 t.x.n ∧ c5 = .string t.x.t ∧ -9223372036854775808 ≤ t.co ∧ t.co ≤ 9223372036854775807 := by
 obtain ⟨xs, n, _, rfl, _, hlen, hf⟩ := DataW.trod_struct Tryz.underlying145 h
 match xs, hlen with
 | [y0, y1, y2], _ =>
  have h0 := hf 0 _ rfl
  have h1 := hf 1 _ rfl
  have h2 := hf 2 _ rfl
  simp [cellsX1, cellsX5] at h0 h1 h2
  obtain ⟨co, e0, _, w0⟩ := DataW.trod_int Tryz.underlying3 h0;obtain ⟨op, e1, _, w1⟩ := DataW.trod_int Tryz.underlying3 h1;obtain ⟨t, e2, e3, e4, e5⟩ := openV4 (c0 := c2) (c1 := c3) (c2 := c4) (c3 := c5) h2;simp at e0 e1
  have hb := bounds_i64 w0
  exact ⟨⟨co, op, t⟩, e0, e1, e2, e3, e4, e5, hb.1, hb.2⟩
theorem openTerms (h : DataW.Trod enc Tryz.prog W 0 (fun _ => true) true 26 (.slice a len cap) d ps) :
  ∃ l : List Tm, len = l.length ∧ TmE.See W a l ∧ (∀ y ∈ l, -9223372036854775808 ≤ y.co ∧ y.co ≤ 9223372036854775807) ∧ l.length ≤ cap ∧ cap ≤ maxLen ∧ (a = none → cap = 0) ∧ (Fit 26 d → cap * 56 ≤ 140737488351232 ∧ ∀ y ∈ l, True) ∧ (l.map fun _ => 0).sum ≤ Rows.uptoBulk d ∧ cap + 1 ≤ Rows.uptoBulk d :=
 openEls TmE Tryz.underlying26 cellsX6 56 bytesX6 (fun y => -9223372036854775808 ≤ y.co ∧ y.co ≤ 9223372036854775807) (fun _ => True) (fun _ => 0) (fun fuel cs x hx hcs => by
  match cs, hcs with
  | [c0, c1, c2, c3, c4, c5], _ =>
   obtain ⟨t, e0, e1, e2, e3, e4, e5, hb⟩ := openT6 hx;subst e0 e1 e2 e3 e4 e5;exact ⟨t, hb, rfl, fun _ => trivial, Nat.zero_le _⟩) h
end
theorem gAsk : Tryz.prog.globalNamed "hayloft/expr.asks" = some 0 := by kernel_rfl
theorem gAskType : (Tryz.prog.globals[0]?).map (·.type) = some 228 := by kernel_rfl
theorem cellsAsk : Tryz.prog.cellsOf 228 = 18 := by kernel_rfl
theorem cellsAs3 : Tryz.prog.cellsOf 227 = 3 := by kernel_rfl
theorem askRow {W : World} {fuel : Nat} {c0 c1 c2 : Value} {b0 b1 b2 : Bool} {x : DataW Unit × List MemPlace} (h : DataW.trod (fun _ => ()) Tryz.prog W 0 (fun _ => true) false fuel 227 [c0, c1, c2] = some x) (hd : x.1 = .agg [.lit (.bool b0), .lit (.bool b1), .lit (.bool b2)]) : c0 = .bool b0 ∧ c1 = .bool b1 ∧ c2 = .bool b2 := by
 obtain ⟨y0, y1, y2, n, rfl, h0, h1, h2⟩ := trod_array3 Tryz.underlying227 cellsX2 h;obtain ⟨z0, e0, f0⟩ := DataW.trod_bool Tryz.underlying4 h0;obtain ⟨z1, e1, f1⟩ := DataW.trod_bool Tryz.underlying4 h1;obtain ⟨z2, e2, f2⟩ := DataW.trod_bool Tryz.underlying4 h2;simp at e0 e1 e2
 subst e0 e1 e2 f0 f1 f2;simp at hd
 simp [hd]
theorem asksOf {W : World} (hv0 : ∃ t cs fuel p, (Tryz.prog.globals[0]?).map (·.type) = some t ∧ W.var? Tryz.prog "hayloft/expr.asks" = some cs ∧ DataW.trod (fun _ => ()) Tryz.prog W 0 (fun _ => true) false fuel t cs.toList = some (Rows.laid_hayloft_expr_asks, p)) : Asks W := by
 obtain ⟨t, cs, fuel, p, ht, hv, hd⟩ := hv0;obtain rfl := Option.some.inj (gAskType.symm.trans ht)
 obtain ⟨xs, m, _, ex, hlen, hl, hel⟩ := DataW.trod_array Tryz.underlying228 hd;rw [cellsAsk] at hlen;obtain ⟨l⟩ := cs
 match l, hlen with
 | [c0, c1, c2, c3, c4, c5, c6, c7, c8, c9, c10, c11, c12, c13, c14, c15, c16, c17], _ =>
  match xs, hl with
  | [x0, x1, x2, x3, x4, x5], _ =>
   have e6 := (DataW.agg.inj (Prod.mk.inj ex).1)
   simp only [List.map_cons, List.map_nil, List.cons.injEq, and_true] at e6;obtain ⟨f0, f1, f2, f3, f4, f5⟩ := e6;have k0 := hel 0 (by omega)
   have k1 := hel 1 (by omega)
   have k2 := hel 2 (by omega)
   have k3 := hel 3 (by omega)
   have k4 := hel 4 (by omega)
   have k5 := hel 5 (by omega)
   rw [cellsAs3] at k0 k1 k2 k3 k4 k5;obtain ⟨g0, g1, g2⟩ := askRow (c0 := c0) (c1 := c1) (c2 := c2) (b0 := false) (b1 := true) (b2 := false) k0 f0.symm;obtain ⟨g3, g4, g5⟩ := askRow (c0 := c3) (c1 := c4) (c2 := c5) (b0 := true) (b1 := false) (b2 := true) k1 f1.symm;obtain ⟨g6, g7, g8⟩ := askRow (c0 := c6) (c1 := c7) (c2 := c8) (b0 := true) (b1 := false) (b2 := false) k2 f2.symm;obtain ⟨g9, g10, g11⟩ := askRow (c0 := c9) (c1 := c10) (c2 := c11) (b0 := true) (b1 := true) (b2 := false) k3 f3.symm;obtain ⟨g12, g13, g14⟩ := askRow (c0 := c12) (c1 := c13) (c2 := c14) (b0 := false) (b1 := false) (b2 := true) k4 f4.symm;obtain ⟨g15, g16, g17⟩ := askRow (c0 := c15) (c1 := c16) (c2 := c17) (b0 := false) (b1 := true) (b2 := true) k5 f5.symm;subst g0 g1 g2 g3 g4 g5 g6 g7 g8 g9 g10 g11 g12 g13 g14 g15 g16 g17
   have hc : ∀ i, i < 18 → W.cell? ⟨0, i, none⟩ = some (.bool (askL.getD i false)) := by
    intro i hi
    rw [World.var?_cell gAsk hv i]
    match i, hi with
    | 0, _ => rfl
    | 1, _ => rfl
    | 2, _ => rfl
    | 3, _ => rfl
    | 4, _ => rfl
    | 5, _ => rfl
    | 6, _ => rfl
    | 7, _ => rfl
    | 8, _ => rfl
    | 9, _ => rfl
    | 10, _ => rfl
    | 11, _ => rfl
    | 12, _ => rfl
    | 13, _ => rfl
    | 14, _ => rfl
    | 15, _ => rfl
    | 16, _ => rfl
    | 17, _ => rfl
    | i + 18, h => omega
   exact ⟨World.block_lt_of_cell? _ _ (hc 0 (by omega)), hc⟩
def askCells : Array Value := #[.bool false, .bool true, .bool false, .bool true, .bool false, .bool true, .bool true, .bool false, .bool false, .bool true, .bool true, .bool false, .bool false, .bool false, .bool true, .bool false, .bool true, .bool true]
theorem table {W : World} (h : laidMetH Tryz.prog [("hayloft/expr.asks", Rows.laid_hayloft_expr_asks)] W) : Asks W := by
 obtain ⟨ps, ⟨g, t, cs, fuel, p, q, hg, ht, hv, hd, _, _⟩, _, _⟩ := (show laidMet Tryz.prog [("hayloft/expr.asks", Rows.laid_hayloft_expr_asks)] W from h);obtain rfl := Option.some.inj (gAsk.symm.trans hg)
 exact asksOf ⟨t, cs, fuel, p, ht, hv, hd⟩
def tabCells : Array Value := askCells
end Go.Proofs.YtcgkkofmnajedaaGreatDoor
end

section
namespace Go.Proofs.YtcgkkofmnajedaaGreatDoor
open Go.RowKit Go.Hay
end Go.Proofs.YtcgkkofmnajedaaGreatDoor
end

section
namespace Go.Proofs.YtcgkkofmnajedaaGreatDoor
open Go.RowKit Go.Hay
attribute [local go_sem] Oper.semAt_some
end Go.Proofs.YtcgkkofmnajedaaGreatDoor
end

section
namespace Go.Proofs.YtcgkkofmnajedaaGreatDoor
open Go.RowKit Go.Hay
end Go.Proofs.YtcgkkofmnajedaaGreatDoor
end

/- PlanChooses (second form): the way that is chosen, and what it needs, is what the document says, where what is given is of bulk at most 1048576. -/
import Derived.Test.YtlgfekjoknbfdaaGreatDoorKcs1
import Derived.Test.YtlgfekjoknbfdaaGreatDoorB8
import Derived.SizedLaws
import Derived.JoinedCond
import Derived.Deep.CondSized
set_option maxHeartbeats 64000000
set_option maxRecDepth 100000
set_option linter.unusedVariables false
set_option linter.unusedSimpArgs false
section
namespace Go.Proofs.YtlgfekjoknbfdaaGreatDoor
open Go.RowKit Go.Hay
attribute [local go_sem] Oper.semAt_some
def ndR (M P : Nat) (p : Int) : List (Nat × Nat) := if wi p P then (List.range M).map (fun s => (p.toNat, s)) else []
theorem appSg1 (w : World) (a : Option Addr) (cp : Nat) (l : List (Nat × Nat)) (x y : Nat) (hrow : SgE.Row w (.slice a l.length cp) l) (hl : l.length ≤ 1000000) :
  ∃ a' cp' W', (Builtin.append_ #[48, 48] 48 #[.slice a l.length cp, .slice (some ⟨w.heap.size, 0, none⟩) 1 1]).run Tryz.prog (w.alloc (.cells #[.int .i64 (x : Int), .int .i64 (y : Int)] 82)) = .ok (.slice a' (l ++ [(x, y)]).length cp') W' ∧ SgE.Row W' (.slice a' (l ++ [(x, y)]).length cp') (l ++ [(x, y)]) ∧ (∀ k ∈ blk a', k ∈ blk a ∨ w.heap.size ≤ k) ∧ Kp (blk a) w W' := by
 obtain ⟨A1, hA1⟩ : ∃ A1, w.alloc (.cells #[.int .i64 (x : Int), .int .i64 (y : Int)] 82) = A1 := ⟨_, rfl⟩
 have kA1 : Kp [] w A1 := by rw [← hA1]; exact (Kp.refl _ _).alloc _
 have bx1 : Bn A1 w.heap.size (SgE.c (x, y)) := by rw [← hA1]; exact Bn.new w (SgE.c (x, y)) _
 have hs1 : SgE.See A1 (some ⟨w.heap.size, 0, none⟩) [(x, y)] := .inr ⟨w.heap.size, 0, rfl, fun j u hu => by rw [Nat.zero_add]; exact bx1.get j u (by simpa [El.cs] using hu)⟩
 obtain ⟨i0, hi, hz0', hz1', hz2'⟩ := infoSg;have hsr := hs1.src (P := Tryz.prog) Tryz.underlying48 1
 obtain ⟨v', A2, hrun, hrow2, k2, hn2⟩ := run_appendG (E := SgE) (P := Tryz.prog) A1 48 48 48 82 i0 _ 16 Tryz.underlying48 hi hz0' hz1' hz2' rfl (.slice a l.length cp) l (hrow.keptNew kA1) _ [(x, y)] hsr (by simp only [List.length_cons, List.length_nil]; omega) (by simp only [List.length_cons, List.length_nil]; omega)
 obtain ⟨a', c', rfl, _⟩ := hrow2.see;simp only [ownSl] at k2 hn2;rw [hA1];have z1 := kA1.size
 exact ⟨a', c', A2, hrun, hrow2, fun k hk => by
  rcases hn2 k hk with e | e
  ·exact .inl e
  ·exact .inr (by omega), (kA1.mono (by simp)).trans k2 (fun j hj => .inl hj)⟩
theorem rNeeds (c : Cg) (p : Int × Int) (M : Nat) (w : World) (hM : c.s = (M : Int)) (hM8 : M ≤ 8) (hp8 : c.pl.length ≤ 1000000) : Calls Tryz.prog 18 #[c.v, plV p] w (PgP (ndR M c.pl.length p.1 ++ ndR M c.pl.length p.2) w) := by
 obtain ⟨pa, pb⟩ := p;obtain ⟨w1, hw1, k1, z1, b1⟩ := boxC c w;obtain ⟨q2, hq2⟩ : ∃ x, w.heap.size = x := ⟨_, rfl⟩
 rw [hq2] at b1 z1;rw [hM] at hw1 b1;obtain ⟨w2, hw2, k2, b2, z2⟩ : ∃ x, w1.alloc (.cells #[.int .i64 pa, .int .i64 pb] 41) = x ∧ Kp [] w1 x ∧ Bn x w1.heap.size [.int .i64 pa, .int .i64 pb] ∧ x.heap.size = w1.heap.size + 1 := ⟨_, rfl, (Kp.refl _ _).alloc _, Bn.new w1 _ _, by simp⟩
 obtain ⟨q3, hq3⟩ : ∃ x, w1.heap.size = x := ⟨_, rfl⟩
 rw [hq3] at b2;obtain ⟨w3, hw3, k3, b3⟩ : ∃ x, w2.alloc (.cells #[.int .i64 pa, .int .i64 pb] 3) = x ∧ Kp [] w2 x ∧ Bn x w2.heap.size [.int .i64 pa, .int .i64 pb] := ⟨_, rfl, (Kp.refl _ _).alloc _, Bn.new w2 _ _⟩
 obtain ⟨q4, hq4⟩ : ∃ x, w2.heap.size = x := ⟨_, rfl⟩
 rw [hq4] at b3;have hz3 : Hid (w.heap.size ≤ w3.heap.size) := hid (by have := k1.size; have := k2.size; have := k3.size; omega)
 have K3 := hid ((k1.trans k2 (by simp)).trans k3 (by simp))
 have B3 := hid (And.intro ((b1.kept k2).kept k3) b3)
 have dd0 := b2.get 0 _ rfl; have dd1 := b2.get 1 _ rfl
 have hne : Hid (SgE.Row w3 (.slice none 0 0) []) := hid (.inl ⟨rfl, rfl⟩)
 have K0 := hid (Kp.refl [] w3)
 simp only [plV, Cg.v, hM];clear z1 z2 b1 k1 k2 b2 k3 b3;go_enter Tryz.func18, Tryz.ntmps18
 go_wp2_with fail;clear dd0 dd1;go_loopw [5, 15] (fun v5 v15 wr => ∃ (i : Nat) (a : Option Addr) (cp : Nat) (l : List (Nat × Nat)), i ≤ 2 ∧ v15 = .int .i64 (i : Int) ∧ v5 = .slice a l.length cp ∧ Hid (l = ([pa, pb].take i).flatMap (ndR M c.pl.length) ∧ l.length ≤ i * 8) ∧ Hid (SgE.Row wr (.slice a l.length cp) l ∧ (∀ k ∈ blk a, w3.heap.size ≤ k) ∧ Kp [] w3 wr)) (fun _ v15 _ => 2 - (intOf v15).toNat)
 case atStart => exact ⟨0, none, 0, [], by omega, rfl, rfl, hid ⟨by simp, by simp⟩, hid ⟨hne.out, by simp [blk], K0.out⟩⟩
 case round =>
  obtain ⟨i, a, cp, l, hi, rfl, rfl, hl, hk⟩ := hrel;clear K0
  by_cases hlt : i < 2
  ·obtain ⟨v, hv, hc4⟩ : ∃ v, [pa, pb].take (i + 1) = [pa, pb].take i ++ [v] ∧ wr.cell? ⟨q4, i, none⟩ = some (.int .i64 v) := by
    have hb := B3.out.2.kept hk.out.2.2
    rcases (show i = 0 ∨ i = 1 by omega) with e | e
    ·subst e; exact ⟨pa, rfl, hb.get 0 _ rfl⟩
    ·subst e; exact ⟨pb, rfl, hb.get 1 _ rfl⟩
   have hnx : Hid (([pa, pb].take (i + 1)).flatMap (ndR M c.pl.length) = l ++ ndR M c.pl.length v) := hid (by rw [hv, List.flatMap_append, ← hl.out.1]; simp)
   have i1 : (0 : Int) ≤ (i : Int) := by omega
   have i2 : (i : Int) < 2 := by omega
   have i3 : (i : Int) + 1 ≤ 9223372036854775807 := by omega
   have hb1 := (B3.out.1.kept hk.out.2.2).get 1 _ rfl
   have hb4 := (B3.out.1.kept hk.out.2.2).get 4 _ rfl
   clear hv
   by_cases hw : wi v c.pl.length = true
   ·have hw2 : 0 ≤ v ∧ v < (c.pl.length : Int) := by unfold wi at hw; simpa using hw
    obtain ⟨vn, rfl⟩ := Int.eq_ofNat_of_zero_le hw2.1;have hnR : Hid (ndR M c.pl.length (vn : Int) = (List.range M).map (fun s => (vn, s))) := hid (by unfold ndR; rw [if_pos hw]; simp)
    rw [hnR.out] at hnx;have e1 : decide ((vn : Int) ≥ 0) = true := by simp
    have e2 : decide ((vn : Int) < (c.pl.length : Int)) = true := by simpa using hw2.2
    have e3 : vn < c.pl.length := by omega
    have e4 : decide (vn < c.pl.length) = true := by simpa using e3
    have e5 : (0 : Int) ≤ (vn : Int) := by omega
    obtain ⟨L0, hL0⟩ : ∃ z, Hid (l = z) := ⟨_, hid rfl⟩
    have hl0 : Hid (l = L0 ++ (List.range 0).map (fun s => (vn, s)) ∧ l.length ≤ i * 8 + 0) := hid ⟨by rw [← hL0.out]; simp, hl.out.2⟩
    rw [hL0.out] at hnx;clear hw hw2 hl;go_wp2_with fail;go_loopw [5, 8] (fun v5 v8 wn => ∃ (k : Nat) (a : Option Addr) (cp : Nat) (l : List (Nat × Nat)), k ≤ M ∧ v8 = .int .i64 (k : Int) ∧ v5 = .slice a l.length cp ∧ Hid (l = L0 ++ (List.range k).map (fun s => (vn, s)) ∧ l.length ≤ i * 8 + k) ∧ Hid (SgE.Row wn (.slice a l.length cp) l ∧ (∀ k ∈ blk a, w3.heap.size ≤ k) ∧ Kp [] w3 wn)) (fun _ v8 _ => M - (intOf v8).toNat)
    case atStart => exact ⟨0, a, cp, l, Nat.zero_le _, rfl, rfl, hl0, hk⟩
    case round =>
     obtain ⟨k, a, cp, l, hk1, rfl, rfl, hl4, hk3⟩ := hrel;clear hl0 hk hb1 hb4 hc4;have hb1 := (B3.out.1.kept hk3.out.2.2).get 1 _ rfl
     have hb4 := (B3.out.1.kept hk3.out.2.2).get 4 _ rfl
     by_cases hkl : k < M
     ·have i4 : (k : Int) < (M : Int) := by omega
      have i5 : (k : Int) + 1 ≤ 9223372036854775807 := by omega
      have hlen : l.length ≤ 1000000 := by have := hl4.out.2; omega
      have hsn : Hid (l ++ [(vn, k)] = L0 ++ (List.range (k + 1)).map (fun s => (vn, s)) ∧ (l ++ [(vn, k)]).length ≤ i * 8 + (k + 1)) := hid ⟨by rw [List.range_succ, List.map_append, ← List.append_assoc, ← hl4.out.1]; rfl, by rw [List.length_append]; have := hl4.out.2; simp; omega⟩
      obtain ⟨a', cp', W', hrun, hrw, hnb, kA⟩ := appSg1 wr a cp l vn k hk3.out.1 hlen;obtain ⟨l5, hl5⟩ : ∃ z, Hid (l ++ [(vn, k)] = z) := ⟨_, hid rfl⟩
      rw [hl5.out] at hrun hrw hsn
      have hfin : Hid (SgE.Row W' (.slice a' l5.length cp') l5 ∧ (∀ k ∈ blk a', w3.heap.size ≤ k) ∧ Kp [] w3 W') := hid ⟨hrw, fun k hk' => by
       rcases hnb k hk' with e | e
       ·exact hk3.out.2.1 k e
       ·have := hk3.out.2.2.size; omega, hk3.out.2.2.trans kA (fun x hx => .inr (hk3.out.2.1 x hx))⟩
      have hrun' := hid hrun
      clear hrun hrw hnb kA;go_wp2_with (first | (refine wpAppRunY rfl _ _ 48 48 rfl _ _ _ rfl rfl hrun'.out ?_) | fail)
      go_roundw
      case rel => exact ⟨k + 1, a', cp', l5, by omega, by go_num, rfl, hsn, hfin⟩
      case measure => simp [intOf]; omega
     ·have hke : k = M := by omega
      have dk1 : ¬ (k : Int) < (M : Int) := by omega
      have dk2 : decide ((k : Int) < (M : Int)) = false := by simp; omega
      have hsf : Hid (l = ([pa, pb].take (i + 1)).flatMap (ndR M c.pl.length) ∧ l.length ≤ (i + 1) * 8) := hid ⟨by rw [hnx.out, hl4.out.1, hke], by have := hl4.out.2; omega⟩
      have hfk := hid hk3.out
      clear hl4 hk3 hke;go_wp2_with fail;go_roundw
      case rel => exact ⟨i + 1, a, cp, l, by omega, by go_num, rfl, hsf, hfk⟩
      case measure => simp [intOf]; omega
   ·have hnR : Hid (ndR M c.pl.length v = []) := hid (by unfold ndR; rw [if_neg hw])
    rw [hnR.out, List.append_nil] at hnx
    have hw2 : v < 0 ∨ (c.pl.length : Int) ≤ v := by
     unfold wi at hw
     simp at hw
     omega
    have hsf : Hid (l = ([pa, pb].take (i + 1)).flatMap (ndR M c.pl.length) ∧ l.length ≤ (i + 1) * 8) := hid ⟨hnx.out.symm, by have := hl.out.2; omega⟩
    have hfk := hid hk.out
    clear hw;go_wp2_with fail;go_loopw [5, 8] (fun v5 v8 wn => ∃ (k : Nat) (a : Option Addr) (cp : Nat) (l : List (Nat × Nat)), Hid (k = 0) ∧ v8 = .int .i64 (k : Int) ∧ v5 = .slice a l.length cp ∧ Hid (l = ([pa, pb].take (i + 1)).flatMap (ndR M c.pl.length) ∧ l.length ≤ (i + 1) * 8) ∧ Hid (SgE.Row wn (.slice a l.length cp) l ∧ (∀ k ∈ blk a, w3.heap.size ≤ k) ∧ Kp [] w3 wn)) (fun _ v8 _ => 0)
    case atStart => exact ⟨0, a, cp, l, hid rfl, rfl, rfl, hsf, hfk⟩
    case round =>
     clear hsf hfk hk hl hb1 hb4 hc4 hnx;obtain ⟨k, a, cp, l, hk0, rfl, rfl, hsf, hfk⟩ := hrel;have hb1 := (B3.out.1.kept hfk.out.2.2).get 1 _ rfl
     have hb4 := (B3.out.1.kept hfk.out.2.2).get 4 _ rfl
     by_cases hM0 : k < M
     ·have t1 : decide ((k : Int) < (M : Int)) = true := by simpa using hM0
      have t6 : decide (k < M) = true := by simpa using hM0
      have t4 : (k : Int) < (M : Int) := by omega
      by_cases hv0 : v ≥ 0
      ·have t2 : decide (v ≥ 0) = true := by simpa using hv0
       have t5 : decide (0 ≤ v) = true := by simpa using hv0
       have t3 : decide (v < (c.pl.length : Int)) = false := by simp; omega
       clear hM0 hv0 hw2 t4;go_wp2_with fail;go_roundw
       case rel => exact ⟨i + 1, a, cp, l, by omega, by go_num, rfl, hsf, hfk⟩
       case measure => simp [intOf]; omega
      ·have t2 : decide (v ≥ 0) = false := by simp; omega
       have t5 : decide (0 ≤ v) = false := by simp; omega
       clear hM0 hv0 hw2 t4;go_wp2_with fail;go_roundw
       case rel => exact ⟨i + 1, a, cp, l, by omega, by go_num, rfl, hsf, hfk⟩
       case measure => simp [intOf]; omega
     ·have t1 : decide ((k : Int) < (M : Int)) = false := by simp; omega
      have t6 : decide (k < M) = false := by simp; omega
      clear hM0 hw2;go_wp2_with fail;go_roundw
      case rel => exact ⟨i + 1, a, cp, l, by omega, by go_num, rfl, hsf, hfk⟩
      case measure => simp [intOf]; omega
  ·have hie : i = 2 := by omega
   subst hie;have hRe : Hid (l = ndR M c.pl.length pa ++ ndR M c.pl.length pb) := hid (by rw [hl.out.1]; simp)
   have hk4 := hid hk.out
   clear hl hk;go_wp2_with fail;go_ret;rw [← hRe.out];exact ⟨a, cp, rfl, hk4.out.1, fun k hk => by have := hk4.out.2.1 k hk; have := hz3.out; omega, K3.out.trans hk4.out.2.2 (by simp)⟩
end Go.Proofs.YtlgfekjoknbfdaaGreatDoor
end

section
namespace Go.Proofs.YtlgfekjoknbfdaaGreatDoor
open Go.RowKit Go.Hay
theorem pgTo_step (M : Nat) (hM : 0 < M) (x : Int) (P : Nat) : pgTo M x ((P + 1) * M) = pgTo M x (P * M) ++ (if (P : Int) = x then (List.range M).map (fun s => (P, s)) else []) := by
 unfold pgTo
 rw [Nat.add_mul, Nat.one_mul, List.range_add, List.map_append, List.filter_append];congr 1
 rw [List.map_map]
 have e : (List.range M).map ((fun k => (k / M, k % M)) ∘ fun x => P * M + x) = (List.range M).map (fun s => (P, s)) := by
  apply List.map_congr_left
  intro k hk
  have hk2 : k < M := List.mem_range.1 hk
  simp only [Function.comp_apply];rw [Nat.add_comm, Nat.add_mul_div_right _ _ hM, Nat.div_eq_of_lt hk2, Nat.add_mul_mod_self_right, Nat.mod_eq_of_lt hk2, Nat.zero_add]
 rw [e]
 by_cases h : (P : Int) = x
 ·rw [if_pos h]
  apply List.filter_eq_self.2
  intro y hy
  obtain ⟨s, _, rfl⟩ := List.mem_map.1 hy;simpa using h
 ·rw [if_neg h]
  apply List.filter_eq_nil_iff.2
  intro y hy
  obtain ⟨s, _, rfl⟩ := List.mem_map.1 hy;simpa using h
theorem pgTo_ndR (M : Nat) (x : Int) : ∀ P : Nat, pgTo M x (P * M) = ndR M P x
 | 0 => by
  have h : wi x ((0 : Nat) : Int) = false := by unfold wi; simp
  unfold ndR
  rw [h];simp [pgTo]
 | P + 1 => by
  by_cases hM : 0 < M
  ·rw [pgTo_step M hM, pgTo_ndR M x P]
   unfold ndR
   by_cases h : (P : Int) = x
   ·subst h
    have h1 : wi (P : Int) P = false := by unfold wi; simp
    have h2 : wi (P : Int) ((P + 1 : Nat) : Int) = true := by unfold wi; simp; omega
    rw [h1, h2];simp
   ·rw [if_neg h, List.append_nil]
    have h1 : wi x ((P + 1 : Nat) : Int) = wi x (P : Int) := by
     rw [Bool.eq_iff_iff];unfold wi
     simp only [Bool.and_eq_true, decide_eq_true_eq];omega
    rw [h1]
  ·have e : M = 0 := by omega
   subst e;simp [pgTo, ndR]
theorem ndL_ndR (M P : Nat) (p : Int × Int) : ndL M P p = ndR M P p.1 ++ ndR M P p.2 := by
 unfold ndL
 rw [pgTo_ndR, pgTo_ndR];congr 1
 by_cases h : p.2 ≥ 0
 ·rw [if_pos h]
 ·rw [if_neg h]
  unfold ndR
  have h1 : wi p.2 P = false := by unfold wi; simp; omega
  rw [h1];rfl
end Go.Proofs.YtlgfekjoknbfdaaGreatDoor
end

section
namespace Go.Proofs.YtlgfekjoknbfdaaGreatDoor
open Go.RowKit Go.Hay
attribute [local go_sem] Oper.semAt_some
theorem prW_few (f : Nat → Nat → Bool) : ∀ l : List Nat, l.length ≤ 8 → (prW f l).length ≤ l.length * 8
 | [], _ => by simp [prW]
 | i :: r, h => by
  have ih := prW_few f r (by simp at h; omega)
  unfold prW
  rw [List.length_append];have h1 : (inW f i r).length ≤ r.length := by unfold inW; rw [List.length_map]; exact List.length_filter_le _ _
  simp only [List.length_cons] at h ⊢;omega
theorem waysV_few (c : Cg) (t : Int) (h : c.pl.length ≤ 8) : (waysV c t).length ≤ 4000000000000 := by
 unfold waysV
 split
 ·rw [List.length_append]
  have h1 : (sgW (tbM c t) t c.pl (List.range' 0 c.pl.length)).length ≤ c.pl.length := by
   unfold sgW
   rw [List.length_map];exact Nat.le_trans (List.length_filter_le _ _) (by simp)
  have h2 : (ptW (tbM c t) t c.pl (List.range' 0 c.pl.length)).length ≤ c.pl.length := by
   unfold ptW
   exact Nat.le_trans (List.length_filter_le _ _) (by simp)
  have h3 := prW_few (bothW (tbM c t) c.pl) _ (Nat.le_trans h2 h)
  omega
 ·simp
theorem boxTwo (T : TypeId) (w : World) (x y : Int) : ∃ q W1 W2, w.heap.size = q ∧ w.alloc (.cells #[.int .i64 0, .int .i64 0] T) = W1 ∧ Bn W1 q [.int .i64 0, .int .i64 0] ∧ (W1.setCell ⟨q, 0, none⟩ (.int .i64 x)).setCell ⟨q, 1, none⟩ (.int .i64 y) = W2 ∧ Bn W2 q [.int .i64 x, .int .i64 y] ∧ Kp [] w W2 := by
 have b0 := Bn.new w [.int .i64 0, .int .i64 0] T
 have k0 : Kp [] w (w.alloc (.cells #[.int .i64 0, .int .i64 0] T)) := (Kp.refl _ _).alloc _
 have h : w.heap.size ∈ ([] : List Nat) ∨ w.heap.size ≤ w.heap.size := .inr (Nat.le_refl _)
 exact ⟨_, _, _, rfl, rfl, b0, rfl, (b0.set 0 (by simp) _).set 1 (by simp) _, (k0.setCell h _).setCell h _⟩
theorem seeSg {w : World} {a : Option Addr} {cp : Nat} {l : List (Nat × Nat)} (h : SgE.Row w (.slice a l.length cp) l) : SgE.See w a l := by
 obtain ⟨_, _, e, hs, _⟩ := h.see
 cases e
 exact hs
theorem chV_two (R : List (Int × Int)) (pick : Int) : (chV R pick).2 = 0 ∨ (chV R pick).2 = 161 := by
 unfold chV
 split
 ·exact .inl rfl
 ·exact .inr rfl
theorem planChoosesWalk (c : Cg) (t pick : Int) (w : World) (hA : Asks w) (hc : c.ok w) : Calls Tryz.prog 4 #[c.v, .int .i64 t, .int .i64 pick] w fun e w' => e = .returned (.bool true) ∧ Below w.heap.size w w' := by
 obtain ⟨w1, hw1, k1, z1, b1⟩ := boxC c w;obtain ⟨qc, hqc⟩ : ∃ x, w.heap.size = x := ⟨_, rfl⟩
 rw [hqc] at b1 z1;have KW := hid k1
 have HB := hid b1
 have cc0 := b1.get 0 _ rfl; have cc1 := b1.get 1 _ rfl; have cc2 := b1.get 2 _ rfl; have cc3 := b1.get 3 _ rfl; have cc4 := b1.get 4 _ rfl
 have aR := hid (rCheck c w1 (hc.kept k1))
 have aA := hid (fun W (k : Kp [] w W) => cAlive16 W (hA.kept k (by simp)))
 have htl : c.tl.length ≤ 9223372036854775807 := by have := hc.tcap; have := hc.tmax; omega
 by_cases v0 : chkC c = 0
 ·obtain ⟨hn, _, _, hp8, _, _⟩ := chk_ok v0
  have hfew := tabsM_few v0
  obtain ⟨M, hM⟩ : ∃ M : Nat, c.s = (M : Int) := ⟨c.s.toNat, by have := (cntd_iff c).1 hn; omega⟩
  have hM8 : M ≤ 8 := by have := (cntd_iff c).1 hn; omega
  have hWl := waysV_few c t hp8
  have aC := hid (fun W (k : Kp [] w W) => callsIn_wide.1 (cChoose c t pick W (hc.kept k) (fun x hx => by have := hfew x hx; omega) htl (by omega) hWl))
  have aD := hid (fun W (k : Kp [] w W) => rChoose c t pick W (hc.kept k) hfew (by omega) hWl)
  have aM0 := hid (fun W (k : Kp [] w W) => callsIn_wide.1 (cMany c t W (hc.kept k) (fun x hx => by have := hfew x hx; omega) htl (by omega) hWl))
  have aW0 := hid (fun W (k : Kp [] w W) => rWays c t W (hc.kept k) hfew (by omega))
  obtain ⟨R, hR⟩ : ∃ R, Hid (waysV c t = R) := ⟨_, hid rfl⟩
  rw [hR.out] at aC aD aM0 aW0;have hZ2 := chV_two R pick
  obtain ⟨X, hX⟩ : ∃ X, Hid (chV R pick = X) := ⟨_, hid rfl⟩
  rw [hX.out] at aC aD hZ2;obtain ⟨⟨x1, x2⟩, Z⟩ := X;have aN := hid (fun W (k : Kp [] w W) => cNeeds c (x1, x2) M W hM (hc.kept k) hn hp8)
  have aO := hid (fun W (k : Kp [] w W) => rNeeds c (x1, x2) M W hM hM8 (by omega))
  have hLl : (ndL M c.pl.length (x1, x2)).length ≤ 1000000 := by
   unfold ndL
   have h1 := pgTo_len M x1 (c.pl.length * M)
   have h2 := pgTo_len M x2 (c.pl.length * M)
   have h3 : c.pl.length * M ≤ 8 * 8 := Nat.mul_le_mul hp8 hM8
   rw [List.length_append];dsimp only;split
   ·omega
   ·simp only [List.length_nil]; omega
  rw [← ndL_ndR M c.pl.length (x1, x2)] at aO;obtain ⟨L, hL⟩ : ∃ L, Hid (ndL M c.pl.length (x1, x2) = L) := ⟨_, hid rfl⟩
  rw [hL.out] at aN aO hLl;rw [v0] at aR;simp only [Cg.v, plV] at aR aC aD aM0 aW0 aN aO hZ2 ⊢;clear hA hc k1 b1 z1 hfew hWl hM hM8 hn hp8 htl v0;go_enter Tryz.func4, Tryz.ntmps4
  go_wp2_with fail;refine aR.out.mono ?_;rintro e w2 ⟨rfl, k2⟩;have KW2 := hid (KW.out.trans k2 (by simp))
  have HB2 := hid (HB.out.kept k2)
  clear cc0 cc1 cc2 cc3 cc4;have cc0 := HB2.out.get 0 _ rfl; have cc1 := HB2.out.get 1 _ rfl; have cc2 := HB2.out.get 2 _ rfl; have cc3 := HB2.out.get 3 _ rfl; have cc4 := HB2.out.get 4 _ rfl
  clear k2 aR;go_wp2_with fail;refine (aC.out w2 KW2.out).mono ?_;rintro e w3 ⟨rfl, k3⟩;obtain ⟨q7, W1, W2, hq7, hW1, bW1, hW2, bW2, kW2⟩ := boxTwo 38 w3 x1 x2;have KW3 := hid ((KW2.out.trans k3 (by simp)).trans kW2 (by simp))
  have HB3 := hid ((HB2.out.kept k3).kept kW2)
  have H7 := hid bW2
  have m0 := bW1.get 0 _ rfl; have m1 := bW1.get 1 _ rfl
  have u0 := bW1.free 0; have u1 := bW1.free 1
  clear cc0 cc1 cc2 cc3 cc4;have cc0 := HB3.out.get 0 _ rfl; have cc1 := HB3.out.get 1 _ rfl; have cc2 := HB3.out.get 2 _ rfl; have cc3 := HB3.out.get 3 _ rfl; have cc4 := HB3.out.get 4 _ rfl
  clear k3 kW2 bW1 bW2 aC;go_wp2_with fail;refine (aD.out W2 KW3.out).mono ?_;rintro e w4 ⟨rfl, k4⟩;obtain ⟨q9, W3, w5, hq9, hW3, bW3, hW4, bW4, kW4⟩ := boxTwo 41 w4 x1 x2;have KW5 := hid ((KW3.out.trans k4 (by simp)).trans kW4 (by simp))
  have HB5 := hid (And.intro ((HB3.out.kept k4).kept kW4) (And.intro ((H7.out.kept k4).kept kW4) bW4))
  have m2 := bW3.get 0 _ rfl; have m3 := bW3.get 1 _ rfl
  have u2 := bW3.free 0; have u3 := bW3.free 1
  clear cc0 cc1 cc2 cc3 cc4 m0 m1 u0 u1
  have hF : Hid (∀ W', Kp [] w5 W' → (fun W' => W'.cell? ⟨qc, 0, none⟩ = some (.int .i64 c.n) ∧ W'.cell? ⟨qc, 1, none⟩ = some (.int .i64 c.s) ∧ W'.cell? ⟨qc, 2, none⟩ = some (.int .i64 c.k) ∧ W'.cell? ⟨qc, 3, none⟩ = some (.slice c.ta c.tl.length c.tc) ∧ W'.cell? ⟨qc, 4, none⟩ = some (.slice c.pa c.pl.length c.pc) ∧ W'.cell? ⟨q7, 0, none⟩ = some (.int .i64 x1) ∧ W'.cell? ⟨q7, 1, none⟩ = some (.int .i64 x2) ∧ W'.cell? ⟨q9, 0, none⟩ = some (.int .i64 x1) ∧ W'.cell? ⟨q9, 1, none⟩ = some (.int .i64 x2)) W') := hid fun W' k => by
   have h1 := HB5.out.1.kept k
   have h2 := HB5.out.2.1.kept k
   have h3 := HB5.out.2.2.kept k
   exact ⟨h1.get 0 _ rfl, h1.get 1 _ rfl, h1.get 2 _ rfl, h1.get 3 _ rfl, h1.get 4 _ rfl, h2.get 0 _ rfl, h2.get 1 _ rfl, h3.get 0 _ rfl, h3.get 1 _ rfl⟩
  have aL := hid (fun W (k : Kp [] w5 W) => aA.out W (KW5.out.trans k (by simp)))
  have aM := hid (fun W (k : Kp [] w5 W) => aM0.out W (KW5.out.trans k (by simp)))
  have aW := hid (fun W (k : Kp [] w5 W) => aW0.out W (KW5.out.trans k (by simp)))
  have aN5 := hid (fun W (k : Kp [] w5 W) => aN.out W (KW5.out.trans k (by simp)))
  have aO5 := hid (fun W (k : Kp [] w5 W) => aO.out W (KW5.out.trans k (by simp)))
  have dZ : (Z == Z) = true := by simp
  clear k4 kW4 bW3 bW4 aD aM0 aW0 aN aO aA;go_wp2_with fail;refine wp_region_held_drew (S := fun W' => W'.cell? ⟨qc, 0, none⟩ = some (.int .i64 c.n) ∧ W'.cell? ⟨qc, 1, none⟩ = some (.int .i64 c.s) ∧ W'.cell? ⟨qc, 2, none⟩ = some (.int .i64 c.k) ∧ W'.cell? ⟨qc, 3, none⟩ = some (.slice c.ta c.tl.length c.tc) ∧ W'.cell? ⟨qc, 4, none⟩ = some (.slice c.pa c.pl.length c.pc) ∧ W'.cell? ⟨q7, 0, none⟩ = some (.int .i64 x1) ∧ W'.cell? ⟨q7, 1, none⟩ = some (.int .i64 x2) ∧ W'.cell? ⟨q9, 0, none⟩ = some (.int .i64 x1) ∧ W'.cell? ⟨q9, 1, none⟩ = some (.int .i64 x2)) (by kernel_rfl) ?_ (fun hHeld => ?_)
  ·exact hF.out _ (Kp.refl _ _).drew
  have KD : Hid (Kp [] w5 w5.drew) := hid (Kp.refl _ _).drew
  generalize w5.drew = wd at *
  refine rdH 0 (by kernel_rfl) rfl fun K hK => ?_
  go_simp;refine (aL.out _ KD.out).mono ?_;rintro e w6 ⟨rfl, kk⟩;have K6 := hid (KD.out.trans kk (by simp))
  clear kk;(try go_wp2_with fail);refine hK.out _ _ (hF.out w6 K6.out) (fun hHeld => ?_)
  clear hK K;(try simp only [Act.put, lz]);refine tkH ?_ 1 rfl (by kernel_rfl) (fun _ _ _ h => h) (by rfl) ?_ ‹_› ?_;rotate_left
  ·intro w h; (try dsimp only at h); go_simp <;> with_reducible rfl
  (try simp only [Act.put, lz]);refine tkH ?_ 2 rfl (by kernel_rfl) (fun _ _ _ h => h) (by rfl) ?_ ‹_› ?_;rotate_left
  ·intro w h; (try dsimp only at h); go_simp <;> with_reducible rfl
  (try simp only [Act.put, lz]);refine tkH ?_ 3 rfl (by kernel_rfl) (fun _ _ _ h => h) (by rfl) ?_ ‹_› ?_;rotate_left
  ·intro w h; (try dsimp only at h); go_simp <;> with_reducible rfl
  (try simp only [Act.put, lz]);refine tkH ?_ 4 rfl (by kernel_rfl) (fun _ _ _ h => h) (by rfl) ?_ ‹_› ?_;rotate_left
  ·intro w h; (try dsimp only at h); go_simp <;> with_reducible rfl
  (try simp only [Act.put, lz]);refine tkH ?_ 5 rfl (by kernel_rfl) (fun _ _ _ h => h) (by rfl) ?_ ‹_› ?_;rotate_left
  ·intro w h; (try dsimp only at h); go_simp <;> with_reducible rfl
  (try simp only [Act.put, lz]);refine tkH ?_ 6 rfl (by kernel_rfl) (fun _ _ _ h => h) (by rfl) ?_ ‹_› ?_;rotate_left
  ·intro w h; (try dsimp only at h); go_simp <;> with_reducible rfl
  (try simp only [Act.put, lz]);refine tkH ?_ 7 rfl (by kernel_rfl) (fun _ _ _ h => h) (by rfl) ?_ ‹_› ?_;rotate_left
  ·intro w h; (try dsimp only at h); go_simp <;> with_reducible rfl
  (try simp only [Act.put, lz]);refine tkH ?_ 8 rfl (by kernel_rfl) (fun _ _ _ h => h) (by rfl) ?_ ‹_› ?_;rotate_left
  ·intro w h; (try dsimp only at h); go_simp <;> with_reducible rfl
  (try simp only [Act.put, lz]);refine tkH ?_ 9 rfl (by kernel_rfl) (fun _ _ _ h => h) (by rfl) ?_ ‹_› ?_;rotate_left
  ·intro w h; (try dsimp only at h); go_simp <;> with_reducible rfl
  (try simp only [Act.put, lz]);refine tkH ?_ 10 rfl (by kernel_rfl) (fun _ _ _ h => h) (by rfl) ?_ ‹_› ?_;rotate_left
  ·intro w h; (try dsimp only at h); go_simp <;> with_reducible rfl
  (try simp only [Act.put, lz]);refine tkH ?_ 11 rfl (by kernel_rfl) (fun _ _ _ h => h) (by rfl) ?_ ‹_› ?_;rotate_left
  ·intro w h; (try dsimp only at h); go_simp <;> with_reducible rfl
  (try simp only [Act.put, lz]);refine tkH ?_ 12 rfl (by kernel_rfl) (fun _ _ _ h => h) (by rfl) ?_ ‹_› ?_;rotate_left
  ·intro w h; (try dsimp only at h); go_simp <;> with_reducible rfl
  (try simp only [Act.put, lz]);refine tkH ?_ 13 rfl (by kernel_rfl) (fun _ _ _ h => h) (by rfl) ?_ ‹_› ?_;rotate_left
  ·intro w h; (try dsimp only at h); go_simp <;> with_reducible rfl
  (try simp only [Act.put, lz]);refine tkH ?_ 14 rfl (by kernel_rfl) (fun _ _ _ h => h) (by rfl) ?_ ‹_› ?_;rotate_left
  ·intro w h; (try dsimp only at h); go_simp <;> with_reducible rfl
  (try simp only [Act.put, lz]);refine tkH ?_ 15 rfl (by kernel_rfl) (fun _ _ _ h => h) (by rfl) ?_ ‹_› ?_;rotate_left
  ·intro w h; (try dsimp only at h); go_simp <;> with_reducible rfl
  (try simp only [Act.put, lz]);refine tkH ?_ 16 rfl (by kernel_rfl) (fun _ _ _ h => h) (by rfl) ?_ ‹_› ?_;rotate_left
  ·intro w h; (try dsimp only at h); go_simp <;> with_reducible rfl
  (try simp only [Act.put, lz]);refine tkH ?_ 17 rfl (by kernel_rfl) (fun _ _ _ h => h) (by rfl) ?_ ‹_› ?_;rotate_left
  ·intro w h; (try dsimp only at h); go_simp <;> with_reducible rfl
  (try simp only [Act.put, lz]);refine tkH ?_ 18 rfl (by kernel_rfl) (fun _ _ _ h => h) (by rfl) ?_ ‹_› ?_;rotate_left
  ·intro w h; (try dsimp only at h); go_simp <;> with_reducible rfl
  (try simp only [Act.put, lz]);refine tkH ?_ 19 rfl (by kernel_rfl) (fun _ _ _ h => h) (by rfl) ?_ ‹_› ?_;rotate_left
  ·intro w h; (try dsimp only at h); go_simp <;> with_reducible rfl
  (try simp only [Act.put, lz]);refine tkH ?_ 20 rfl (by kernel_rfl) (fun _ _ _ h => h) (by rfl) ?_ ‹_› ?_;rotate_left
  ·intro w h; (try dsimp only at h); go_simp <;> with_reducible rfl
  (try simp only [Act.put, lz]);refine tkH ?_ 21 rfl (by kernel_rfl) (fun _ _ _ h => h) (by rfl) ?_ ‹_› ?_;rotate_left
  ·intro w h; (try dsimp only at h); go_simp <;> with_reducible rfl
  (try simp only [Act.put, lz]);refine tkH ?_ 22 rfl (by kernel_rfl) (fun _ _ _ h => h) (by rfl) ?_ ‹_› ?_;rotate_left
  ·intro w h; (try dsimp only at h); go_simp <;> with_reducible rfl
  (try simp only [Act.put, lz]);refine tkH ?_ 23 rfl (by kernel_rfl) (fun _ _ _ h => h) (by rfl) ?_ ‹_› ?_;rotate_left
  ·intro w h; (try dsimp only at h); go_simp <;> with_reducible rfl
  (try simp only [Act.put, lz]);refine tkH ?_ 25 rfl (by kernel_rfl) (fun _ _ _ h => h) (by rfl) ?_ ‹_› ?_;rotate_left
  ·intro w h; (try dsimp only at h); go_simp <;> with_reducible rfl
  (try simp only [Act.put, lz]);refine tkH ?_ 26 rfl (by kernel_rfl) (fun _ _ _ h => h) (by rfl) ?_ ‹_› ?_;rotate_left
  ·intro w h; (try dsimp only at h); go_simp <;> with_reducible rfl
  (try simp only [Act.put, lz]);refine rdH 24 (by kernel_rfl) rfl fun K hK => ?_
  go_simp;refine (aM.out _ K6.out).mono ?_;rintro e w7 ⟨rfl, kk⟩;have K7 := hid (K6.out.trans kk (by simp))
  clear kk;(try go_wp2_with fail);refine hK.out _ _ (hF.out w7 K7.out) (fun hHeld => ?_)
  clear hK K;(try simp only [Act.put, lz]);refine rdH 27 (by kernel_rfl) rfl fun K hK => ?_
  go_simp;refine (aW.out _ K7.out).mono ?_;rintro e w8 ⟨aw, cw, rfl, hrw, kk⟩;have K8 := hid (K7.out.trans kk (by simp))
  have HRw8 := hid hrw
  clear hrw;have KXw8 := hid kk
  clear kk;(try go_wp2_with fail);refine hK.out _ _ (hF.out w8 K8.out) (fun hHeld => ?_)
  clear hK K;(try simp only [Act.put, lz]);refine tkH ?_ 28 rfl (by kernel_rfl) (fun _ _ _ h => h) (by rfl) ?_ ‹_› ?_;rotate_left
  ·intro w h; (try dsimp only at h); go_simp <;> with_reducible rfl
  (try simp only [Act.put, lz]);refine tkH ?_ 29 rfl (by kernel_rfl) (fun _ _ _ h => h) (by rfl) ?_ ‹_› ?_;rotate_left
  ·intro w h; (try dsimp only at h); go_simp <;> with_reducible rfl
  (try simp only [Act.put, lz]);refine tkH ?_ 30 rfl (by kernel_rfl) (fun _ _ _ h => h) (by rfl) ?_ ‹_› ?_;rotate_left
  ·intro w h; (try dsimp only at h); go_simp <;> with_reducible rfl
  (try simp only [Act.put, lz]);refine wpAnyH_done (by kernel_rfl) ?_ _
  clear hHeld;have hF8 := hid (fun W' (k : Kp [] w8 W') => hF.out W' (K8.out.trans k (by simp)))
  go_wp2_with fail;have aN8 := hid (fun W (k : Kp [] w8 W) => aN5.out W (K8.out.trans k (by simp)))
  have aO8 := hid (fun W (k : Kp [] w8 W) => aO5.out W (K8.out.trans k (by simp)))
  clear aN5 aO5
  rcases hZ2 with e | e
  ·subst e
   refine wp_region_held_drew (S := fun W' => W'.cell? ⟨qc, 0, none⟩ = some (.int .i64 c.n) ∧ W'.cell? ⟨qc, 1, none⟩ = some (.int .i64 c.s) ∧ W'.cell? ⟨qc, 2, none⟩ = some (.int .i64 c.k) ∧ W'.cell? ⟨qc, 3, none⟩ = some (.slice c.ta c.tl.length c.tc) ∧ W'.cell? ⟨qc, 4, none⟩ = some (.slice c.pa c.pl.length c.pc) ∧ W'.cell? ⟨q7, 0, none⟩ = some (.int .i64 x1) ∧ W'.cell? ⟨q7, 1, none⟩ = some (.int .i64 x2) ∧ W'.cell? ⟨q9, 0, none⟩ = some (.int .i64 x1) ∧ W'.cell? ⟨q9, 1, none⟩ = some (.int .i64 x2)) (by kernel_rfl) ?_ (fun hHeld => ?_)
   ·exact hF8.out _ (Kp.refl _ _).drew
   have KE : Hid (Kp [] w8 w8.drew) := hid (Kp.refl _ _).drew
   generalize w8.drew = wd at *
   refine tkH ?_ 0 rfl (by kernel_rfl) (fun _ _ _ h => h) (by rfl) ?_ ‹_› ?_;rotate_left
   ·intro w h; (try dsimp only at h); go_simp <;> with_reducible rfl
   (try simp only [Act.put, lz]);refine tkH ?_ 1 rfl (by kernel_rfl) (fun _ _ _ h => h) (by rfl) ?_ ‹_› ?_;rotate_left
   ·intro w h; (try dsimp only at h); go_simp <;> with_reducible rfl
   (try simp only [Act.put, lz]);refine tkH ?_ 2 rfl (by kernel_rfl) (fun _ _ _ h => h) (by rfl) ?_ ‹_› ?_;rotate_left
   ·intro w h; (try dsimp only at h); go_simp <;> with_reducible rfl
   (try simp only [Act.put, lz]);refine tkH ?_ 3 rfl (by kernel_rfl) (fun _ _ _ h => h) (by rfl) ?_ ‹_› ?_;rotate_left
   ·intro w h; (try dsimp only at h); go_simp <;> with_reducible rfl
   (try simp only [Act.put, lz]);refine tkH ?_ 4 rfl (by kernel_rfl) (fun _ _ _ h => h) (by rfl) ?_ ‹_› ?_;rotate_left
   ·intro w h; (try dsimp only at h); go_simp <;> with_reducible rfl
   (try simp only [Act.put, lz]);refine tkH ?_ 6 rfl (by kernel_rfl) (fun _ _ _ h => h) (by rfl) ?_ ‹_› ?_;rotate_left
   ·intro w h; (try dsimp only at h); go_simp <;> with_reducible rfl
   (try simp only [Act.put, lz]);refine tkH ?_ 7 rfl (by kernel_rfl) (fun _ _ _ h => h) (by rfl) ?_ ‹_› ?_;rotate_left
   ·intro w h; (try dsimp only at h); go_simp <;> with_reducible rfl
   (try simp only [Act.put, lz]);refine rdH 5 (by kernel_rfl) rfl fun K hK => ?_
   go_simp;refine (aN8.out _ KE.out).mono ?_;rintro e w9 ⟨an, cn, rfl, hrw, _, kk⟩;have K9 := hid (KE.out.trans kk (by simp))
   have HRw9 := hid hrw
   clear hrw;have KXw9 := hid kk
   clear kk;(try go_wp2_with fail);refine hK.out _ _ (hF8.out w9 K9.out) (fun hHeld => ?_)
   clear hK K;(try simp only [Act.put, lz]);refine rdH 8 (by kernel_rfl) rfl fun K hK => ?_
   go_simp;refine (aO8.out _ K9.out).mono ?_;rintro e wa ⟨ao, co, rfl, hrw, _, kk⟩;have KA := hid (K9.out.trans kk (by simp))
   have HRwa := hid hrw
   clear hrw;have KXwa := hid kk
   clear kk;(try go_wp2_with fail);refine hK.out _ _ (hF8.out wa KA.out) (fun hHeld => ?_)
   clear hK K;(try simp only [Act.put, lz]);have aS2 := hid (rSameS an ao cn co L wa (seeSg (HRw9.out.keptNew KXwa.out)) (seeSg HRwa.out) (by omega))
   refine rdH 9 (by kernel_rfl) rfl fun K hK => ?_
   go_simp;refine aS2.out.mono ?_;rintro e wb ⟨rfl, kk⟩;have KB := hid (KA.out.trans kk (by simp))
   clear kk;(try go_wp2_with fail);refine hK.out _ _ (hF8.out wb KB.out) (fun hHeld => ?_)
   clear hK K;(try simp only [Act.put, lz]);refine tkH ?_ 10 rfl (by kernel_rfl) (fun _ _ _ h => h) (by rfl) ?_ ‹_› ?_;rotate_left
   ·intro w h; (try dsimp only at h); go_simp <;> with_reducible rfl
   (try simp only [Act.put, lz]);refine tkH ?_ 11 rfl (by kernel_rfl) (fun _ _ _ h => h) (by rfl) ?_ ‹_› ?_;rotate_left
   ·intro w h; (try dsimp only at h); go_simp <;> with_reducible rfl
   (try simp only [Act.put, lz]);refine wpAnyH_done (by kernel_rfl) ?_ _
   clear hHeld;go_wp2_with fail;go_ret;exact ⟨by simp, ((KW5.out.trans K8.out (by simp)).trans KB.out (by simp)).below⟩
  ·subst e
   refine wp_region_held_drew (S := fun W' => W'.cell? ⟨qc, 0, none⟩ = some (.int .i64 c.n) ∧ W'.cell? ⟨qc, 1, none⟩ = some (.int .i64 c.s) ∧ W'.cell? ⟨qc, 2, none⟩ = some (.int .i64 c.k) ∧ W'.cell? ⟨qc, 3, none⟩ = some (.slice c.ta c.tl.length c.tc) ∧ W'.cell? ⟨qc, 4, none⟩ = some (.slice c.pa c.pl.length c.pc) ∧ W'.cell? ⟨q7, 0, none⟩ = some (.int .i64 x1) ∧ W'.cell? ⟨q7, 1, none⟩ = some (.int .i64 x2) ∧ W'.cell? ⟨q9, 0, none⟩ = some (.int .i64 x1) ∧ W'.cell? ⟨q9, 1, none⟩ = some (.int .i64 x2)) (by kernel_rfl) ?_ (fun hHeld => ?_)
   ·exact hF8.out _ (Kp.refl _ _).drew
   have KE : Hid (Kp [] w8 w8.drew) := hid (Kp.refl _ _).drew
   generalize w8.drew = wd at *
   refine tkH ?_ 0 rfl (by kernel_rfl) (fun _ _ _ h => h) (by rfl) ?_ ‹_› ?_;rotate_left
   ·intro w h; (try dsimp only at h); go_simp <;> with_reducible rfl
   (try simp only [Act.put, lz]);refine tkH ?_ 1 rfl (by kernel_rfl) (fun _ _ _ h => h) (by rfl) ?_ ‹_› ?_;rotate_left
   ·intro w h; (try dsimp only at h); go_simp <;> with_reducible rfl
   (try simp only [Act.put, lz]);refine tkH ?_ 2 rfl (by kernel_rfl) (fun _ _ _ h => h) (by rfl) ?_ ‹_› ?_;rotate_left
   ·intro w h; (try dsimp only at h); go_simp <;> with_reducible rfl
   (try simp only [Act.put, lz]);refine tkU 3 rfl (by kernel_rfl) (fun _ _ _ h => h) (by rfl) ‹_› ?_
   (try simp only [Act.put, lz]);refine tkU 4 rfl (by kernel_rfl) (fun _ _ _ h => h) (by rfl) ‹_› ?_
   (try simp only [Act.put, lz]);refine tkU 5 rfl (by kernel_rfl) (fun _ _ _ h => h) (by rfl) ‹_› ?_
   (try simp only [Act.put, lz]);refine tkU 6 rfl (by kernel_rfl) (fun _ _ _ h => h) (by rfl) ‹_› ?_
   (try simp only [Act.put, lz]);refine tkU 7 rfl (by kernel_rfl) (fun _ _ _ h => h) (by rfl) ‹_› ?_
   (try simp only [Act.put, lz]);refine tkU 8 rfl (by kernel_rfl) (fun _ _ _ h => h) (by rfl) ‹_› ?_
   (try simp only [Act.put, lz]);refine tkU 9 rfl (by kernel_rfl) (fun _ _ _ h => h) (by rfl) ‹_› ?_
   (try simp only [Act.put, lz]);refine tkH ?_ 10 rfl (by kernel_rfl) (fun _ _ _ h => h) (by rfl) ?_ ‹_› ?_;rotate_left
   ·intro w h; (try dsimp only at h); go_simp <;> with_reducible rfl
   (try simp only [Act.put, lz]);refine tkH ?_ 11 rfl (by kernel_rfl) (fun _ _ _ h => h) (by rfl) ?_ ‹_› ?_;rotate_left
   ·intro w h; (try dsimp only at h); go_simp <;> with_reducible rfl
   (try simp only [Act.put, lz]);refine wpAnyH_done (by kernel_rfl) ?_ _
   clear hHeld;go_wp2_with fail;go_ret;exact ⟨by simp, ((KW5.out.trans K8.out (by simp)).trans KE.out (by simp)).below⟩
 ·obtain ⟨V, hV⟩ : ∃ V, chkC c = V := ⟨_, rfl⟩
  rw [hV] at aR v0;have e0 : (V != 0) = true := by simpa using v0
  simp only [Cg.v] at aR ⊢;clear hV v0 hc hA;go_enter Tryz.func4, Tryz.ntmps4
  go_wp2_with fail;refine aR.out.mono ?_;rintro e w2 ⟨rfl, k2⟩;have KW2 := hid (KW.out.trans k2 (by simp))
  clear k2 aR;go_wp2_with fail;refine (aA.out w2 KW2.out).mono ?_;rintro e w3 ⟨rfl, k3⟩;have KW3 := hid (KW2.out.trans k3 (by simp))
  clear k3;go_wp2_with fail;go_ret;exact ⟨by simp, KW3.out.below⟩
end Go.Proofs.YtlgfekjoknbfdaaGreatDoor
end

section
namespace Go.Proofs.YtlgfekjoknbfdaaGreatDoor
open Go.ChangeShapes Go.WideShapes Go.ChangeAt Go.RowKit Go.Hay
theorem planChoosesContract (H : Type) (enc : TypeId × Value → H) (W : World) (base : Nat) (args : Array Value) (ds gs : List (DataW H)) (before : List MemPlace)
  (hval : ∀ (j : Nat) t v, Tryz.f4.params[j]? = some t → args[j]? = some v → Value.okWide Tryz.prog W .any base t v)
  (hW : DataW.Whole enc Tryz.prog Tryz.f4.params.toList Rows.planChoosesSpec.vars false W args.toList ds gs before)
  (hsz : (DataW.weightsEach Tryz.prog (Tryz.f4.params.toList ++ (Rows.OpenSpec.upto Rows.planChoosesSpec).bare.plain.varTypes Tryz.prog) (ds ++ gs)).all (· ≤ reachBytes) = true)
  (hk : Rows.uptoSmall H (ds ++ gs) = true)
  (hL : laidMetH Tryz.prog Rows.planChoosesUptoRow.laid W) :
  Calls Tryz.prog 4 args W fun e W' => ∃ v, e = .returned v ∧ Rows.planChoosesSpec.post enc Tryz.prog Tryz.f4 false true false false W args v W' := by
 have hW' := hW
 obtain ⟨p, q, hA0, hV, rfl, hfz, hnd⟩ := hW;have hA : DataW.TrodAll enc Tryz.prog W 0 (fun _ => true) true Tryz.f4.params.toList args.toList ds p := hA0
 rw [Tryz.params4] at hA hval hsz;obtain ⟨v0, vs0, d0, ds0, p0, q0, hargs, rfl, rfl, h0, r0⟩ := trodAll_cons hA;obtain ⟨v1, vs1, d1, ds1, p1, q1, rfl, rfl, rfl, h1, r1⟩ := trodAll_cons r0;obtain ⟨v2, vs2, d2, ds2, p2, q2, rfl, rfl, rfl, h2, r2⟩ := trodAll_cons r1;obtain ⟨rfl, rfl, rfl⟩ := trodAll_nil r2;obtain rfl : args = #[v0, v1, v2] := by cases args; simp_all
 obtain ⟨rfl, rfl⟩ := trodVars_none hV;have k0 := h0
 have lt0 : ∀ x ∈ p0, x.block < W.heap.size := by obtain ⟨m, hm⟩ := k0; exact DataW.trod_lt m _ _ _ hm
 obtain ⟨c0, rfl, ok0, hpb0, hpp0⟩ := openCatB (hval 0 25 v0 rfl rfl) h0;obtain ⟨a1, rfl, rfl, rfl, w1⟩ := open_int Tryz.underlying3 (hval 1 3 v1 rfl rfl) h1;have hb1 := bounds_i64 w1
 obtain ⟨a2, rfl, rfl, rfl, w2⟩ := open_int Tryz.underlying3 (hval 2 3 v2 rfl rfl) h2;have hb2 := bounds_i64 w2
 have hbk := of_decide_eq_true hk
 simp only [List.append_nil, Rows.uptoBulkAll] at hbk;clear hA0;refine (planChoosesWalk c0 a1 a2 W (table hL) ok0).mono fun e W' ⟨he, bel⟩ => ?_
 subst he;exact ⟨_, rfl, _, _, _, [], _, [], hW', trodAll_mk1 (shut_bool Tryz.underlying4 _), (trodAll_cons_mk (Below.trod Tryz.laidOut (by kernel_rfl) (of_decide_eq_true (by kernel_rfl)) k0 bel lt0) (trodAll_cons_mk (shut_int Tryz.underlying3 w1) (trodAll_cons_mk (shut_int Tryz.underlying3 w2) trodAll_mk0))), rfl, bel.frame _, fun h => by cases h⟩
theorem planChoosesLifted (os : Os) (started : os.Started) (H : Type) (enc : TypeId × Value → H) (F : Stop.Interp) :
  ReturnsInHanded {} Tryz.checked os 4 .any ((Rows.OpenSpec.upto Rows.planChoosesSpec).preRow enc Tryz.prog Tryz.f4 Rows.planChoosesUptoRow.domain false Rows.planChoosesUptoRow.laid) (((Rows.OpenSpec.upto Rows.planChoosesSpec).at F).post enc Tryz.prog Tryz.f4 false true false false) := by
 refine returnsInHanded_of_row (C := Tryz.checked) (s := Rows.OpenSpec.upto Rows.planChoosesSpec) Tryz.own started (by kernel_rfl) Tryz.func4
  (witness_row_at (enc := enc) (C := Tryz.checked) false ({ World.holding Tryz.prog os ⟨#[], #[], []⟩ with heap := (World.holding Tryz.prog os ⟨#[], #[], []⟩).heap.modify 0 fun
   | .cells _ t frozen => .cells tabCells t frozen
   | o => o }) #[.agg #[.int .i64 0, .int .i64 0, .int .i64 0, .slice none 0 0, .slice none 0 0], .int .i64 0, .int .i64 0] rfl (by kernel_rfl) (by kernel_rfl) (by kernel_rfl)
   (OpenSpec.preRow_of_cond (x := ([.agg [.lit (.int .i64 0), .lit (.int .i64 0), .lit (.int .i64 0), .nil, .nil], .lit (.int .i64 0), .lit (.int .i64 0)], [], [])) 8 (by kernel_rfl) (by kernel_rfl) (fun k hk => by cases hk; kernel_rfl) (by kernel_rfl) (laidMet_of_run' 8 (by kernel_rfl) (by kernel_rfl)))) ?_
 intro W base args ds gs before hval hW _ hcond hsz hL _ _
 exact planChoosesContract H enc W base args ds gs before hval hW hsz (hcond _ rfl) hL
theorem planChoosesSaid : Rows.PlanChoosesUptoSaid :=
 OpenClaim.holds_of_cond 4 Tryz.f4 rfl rfl rfl rfl rfl rfl rfl ⟨rfl, rfl, rfl, rfl, rfl⟩ rfl rfl rfl rfl rfl (by kernel_rfl) Tryz.func4 (by kernel_rfl)
  (of_decide_eq_true (by kernel_rfl)) (by unfold Func.isWrapper; first | (rw [if_pos (by decide +kernel)]; kernel_rfl) | (rw [if_neg (by decide +kernel)]; exact ⟨rfl, rfl⟩))
  (fun os started H enc _ F => by rw [OpenClaim.pre_eq_preRow]; exact planChoosesLifted os started H enc F)
theorem planChoosesPlain (f : FuncId) (fn : Func) (hf : Tryz.pinned.checked.prog.funcNamed "hayloft/hayloftlaw16.PlanChooses" = some f) (hfn : Tryz.pinned.checked.prog.funcs[f]? = some fn) :
  false = Tryz.pinned.checked.prog.looks [] ∧ ∀ (j : Nat) t, fn.params[j]? = some t → Tryz.pinned.checked.prog.wantsStandIn t = false := by
 obtain rfl : f = 4 := Option.some.inj ((show Tryz.prog.funcNamed "hayloft/hayloftlaw16.PlanChooses" = some 4 by kernel_rfl).symm.trans hf) |>.symm
 obtain rfl : fn = Tryz.f4 := (Option.some.inj (Tryz.func4.symm.trans hfn)).symm
 refine ⟨by kernel_rfl, fun j t ht => ?_⟩
 rw [Tryz.params4] at ht;have hm := Array.mem_of_getElem? ht
 have h2 : t = 25 ∨ t = 3 := by first | (simpa using hm) | (rcases (show t = 25 ∨ t = 3 ∨ t = 3 from by simpa using hm) with h | h | h <;> simp [h])
 rcases h2 with rfl | rfl
 ·exact (show Tryz.prog.wantsStandIn 25 = false by kernel_rfl)
 ·exact (show Tryz.prog.wantsStandIn 3 = false by kernel_rfl)
theorem PlanChooses_holds : Rows.PlanChoosesUptoCardSaid :=
 Claim7.holds_tied_plain_at .later [] _ _ _ _ planChoosesSaid (fun _ h => by cases h) (by kernel_rfl) (fun _ h => by cases h) planChoosesUpto_row_tie rfl ⟨rfl, rfl⟩ (by kernel_rfl) rfl planChoosesPlain (by kernel_rfl)
#print axioms PlanChooses_holds
end Go.Proofs.YtlgfekjoknbfdaaGreatDoor
end

/- Recover: versions gathered, all new; copies, what there was, what changed. Recover: slices.Grow of nothing, slices.Concat. Plain mathematics of the bytes: numbers in so many bytes, the highest first; the form of a Var. No Go text. More plain mathematics: a number and its bytes, back and forth; what a Var read comes to. Arguments opened: a slice of elements of whatever type, told by what it sees; how great it may be. Recover: Merged. -/
import Derived.Test.YtebkkdoggagcdaaB9
import Derived.Lib.AppendZeros
import Derived.Below
import Derived.Test.YtebkkdoggagcdaaRows
import Derived.Test.YtebkkdoggagcdaaB1
import Derived.ProofKit
import Derived.OpenShut
import Derived.ShutString
import Derived.ChangeOld
import Derived.Deep.Slices
import Derived.Maps.OwnSet
section
namespace Go.Proofs.Ytebkkdoggagcdaa
open Go.RowKit Go.Hay
attribute [local go_sem] Oper.semAt_some
set_option linter.unusedVariables false
set_option linter.unusedSimpArgs false

/-- Versions that were gathered: all blocks from N on, their rows apart from the row of versions. -/
structure Lvn (N : Nat) (ra : Option Addr) (rc : Nat) (L : List Vn) (W : World) : Prop where
  row : VnE.Row W (.slice ra L.length rc) L
  rows : ∀ x ∈ L, VE.Row W (.slice x.a x.row.length x.c) x.row ∧ x.row.length * 40 ≤ 140737488355328 ∧ ∀ k ∈ blk x.a, N ≤ k ∧ k ∉ blk ra
  own : ∀ k ∈ blk ra, N ≤ k
theorem Lvn.nil (N : Nat) (W : World) : Lvn N none 0 [] W := ⟨.inl ⟨rfl, rfl⟩, by simp, by simp [blk]⟩
theorem Lvn.keptS {N : Nat} {ra : Option Addr} {rc : Nat} {L : List Vn} {S : List Nat} {X Y : World} (h : Lvn N ra rc L X) (k : Kp S X Y) (h1 : ∀ k ∈ blk ra, k ∉ S) (h2 : ∀ x ∈ L, ∀ k ∈ blk x.a, k ∉ S) : Lvn N ra rc L Y :=
  ⟨h.row.kept k (fun j hj => h1 j (by rw [own_slice] at hj; exact hj)), fun x hx => ⟨(h.rows x hx).1.kept k (fun j hj => h2 x hx j (by rw [own_slice] at hj; exact hj)), (h.rows x hx).2⟩, h.own⟩
theorem Lvn.kp {N : Nat} {ra : Option Addr} {rc : Nat} {L : List Vn} {X Y : World} (h : Lvn N ra rc L X) (k : Kp [] X Y) : Lvn N ra rc L Y := h.keptS k (by simp) (by simp)
theorem Lvn.low {N : Nat} {ra : Option Addr} {rc : Nat} {L : List Vn} {S : List Nat} {X Y : World} (h : Lvn N ra rc L X) (k : Kp S X Y) (hS : ∀ j ∈ S, j < N) : Lvn N ra rc L Y :=
  h.keptS k (fun j hj hm => by have := h.own j hj; have := hS j hm; omega) (fun x hx j hj hm => by have := ((h.rows x hx).2.2 j hj).1; have := hS j hm; omega)
theorem Lvn.mono {N M : Nat} {ra : Option Addr} {rc : Nat} {L : List Vn} {X : World} (h : Lvn N ra rc L X) (hm : M ≤ N) : Lvn M ra rc L X :=
  ⟨h.row, fun x hx => ⟨(h.rows x hx).1, (h.rows x hx).2.1, fun k hk => ⟨Nat.le_trans hm ((h.rows x hx).2.2 k hk).1, ((h.rows x hx).2.2 k hk).2⟩⟩, fun k hk => Nat.le_trans hm (h.own k hk)⟩
theorem Lvn.ok {N : Nat} {ra : Option Addr} {rc : Nat} {L : List Vn} {W : World} (h : Lvn N ra rc L W) : ∀ x ∈ L, VnOk W x := fun x hx => by
  obtain ⟨h1, h2, _⟩ := h.rows x hx
  obtain ⟨_, _, e, hs, hn, hl, _⟩ := h1.see
  cases e
  exact ⟨hs, hl, fun e => (hn e).2, h2⟩
theorem Lvn.see {N : Nat} {ra : Option Addr} {rc : Nat} {L : List Vn} {W : World} (h : Lvn N ra rc L W) : VnE.See W ra L := See.ofRow h.row
theorem Lvn.cap {N : Nat} {ra : Option Addr} {rc : Nat} {L : List Vn} {W : World} (h : Lvn N ra rc L W) : ra = none → rc = 0 := by
  obtain ⟨_, _, e, _, hn, _⟩ := h.row.see
  cases e
  exact fun e => (hn e).2
theorem Lvn.lt {N : Nat} {ra : Option Addr} {rc : Nat} {L : List Vn} {X : World} (h : Lvn N ra rc L X) : ∀ k ∈ blk ra, k < X.heap.size := fun k hk => h.row.lt k (by rw [own_slice]; exact hk)
/-- One more version, behind the others. -/
theorem Lvn.app {N : Nat} {ra : Option Addr} {rc : Nat} {L : List Vn} {w : World} (h : Lvn N ra rc L w) (x : Vn) (hx : VE.Row w (.slice x.a x.row.length x.c) x.row) (hf : x.row.length * 40 ≤ 140737488355328) (hb : ∀ k ∈ blk x.a, N ≤ k ∧ k ∉ blk ra) (hN : N ≤ w.heap.size) (hl : L.length ≤ 4000000000000) (q : Nat) (hq : w.heap.size = q) :
    ∃ a' c' W', (Builtin.append_ #[22, 22] 22 #[.slice ra L.length rc, .slice (some ⟨q, 0, none⟩) 1 1]).run Try.prog (w.alloc (.cells #[.int .u64 x.ep, .int .u32 x.num, .slice x.a x.row.length x.c, .int .u64 x.del] 34)) = .ok (.slice a' (L ++ [x]).length c') W' ∧ Lvn N a' c' (L ++ [x]) W' ∧ Kp (blk ra) w W' := by
  obtain ⟨a', c', W', hrun, hrow, hk, hn⟩ := appV w L ra rc x q hq h.row (by omega)
  have hnew : ∀ k ∈ blk x.a, k < w.heap.size := fun k hk => hx.lt k (by rw [own_slice]; exact hk)
  refine ⟨a', c', W', hrun, ⟨hrow, fun y hy => ?_, fun k hk => ?_⟩, hk⟩
  · have h0 : VE.Row w (.slice y.a y.row.length y.c) y.row ∧ y.row.length * 40 ≤ 140737488355328 ∧ ∀ k ∈ blk y.a, N ≤ k ∧ k ∉ blk ra := by
      rcases List.mem_append.1 hy with hy | hy
      · exact h.rows y hy
      · rw [List.mem_singleton.1 hy]; exact ⟨hx, hf, hb⟩
    refine ⟨h0.1.kept hk (fun j hj => by rw [own_slice] at hj; exact (h0.2.2 j hj).2), h0.2.1, fun k hk' => ⟨(h0.2.2 k hk').1, fun hm => ?_⟩⟩
    rcases hn k hm with e | e
    · exact (h0.2.2 k hk').2 e
    · have := h0.1.lt k (by rw [own_slice]; exact hk')
      omega
  · rcases hn k hk with e | e
    · exact h.own k e
    · omega
def LvP (R : List Vn) (w : World) (e : Ending) (w' : World) : Prop := ∃ ra rc M, e = .returned (.slice ra M.length rc) ∧ Lvn w.heap.size ra rc M w' ∧ Like M R ∧ Kp [] w w'
theorem boxVn (w : World) (e n : Int) (a : Option Addr) (l c : Nat) (d : Int) : ∃ q W1 W2, w.heap.size = q ∧ w.alloc (.cells #[.int .u64 0, .int .u32 0, .slice none 0 0, .int .u64 0] 34) = W1 ∧ Bn W1 q [.int .u64 0, .int .u32 0, .slice none 0 0, .int .u64 0] ∧ (((W1.setCell ⟨q, 0, none⟩ (.int .u64 e)).setCell ⟨q, 1, none⟩ (.int .u32 n)).setCell ⟨q, 2, none⟩ (.slice a l c)).setCell ⟨q, 3, none⟩ (.int .u64 d) = W2 ∧ Bn W2 q [.int .u64 e, .int .u32 n, .slice a l c, .int .u64 d] ∧ Kp [] w W2 := by
  have b0 := Bn.new w [.int .u64 0, .int .u32 0, .slice none 0 0, .int .u64 0] 34
  have k0 : Kp [] w (w.alloc (.cells #[.int .u64 0, .int .u32 0, .slice none 0 0, .int .u64 0] 34)) := (Kp.refl _ _).alloc _
  have h : w.heap.size ∈ ([] : List Nat) ∨ w.heap.size ≤ w.heap.size := .inr (Nat.le_refl _)
  exact ⟨_, _, _, rfl, rfl, b0, rfl, (((b0.set 0 (by simp) (.int .u64 e)).set 1 (by simp) (.int .u32 n)).set 2 (by simp) (.slice a l c)).set 3 (by simp) (.int .u64 d), (((k0.setCell h _).setCell h _).setCell h _).setCell h _⟩
theorem upto_snoc (e : Int) {O : List Vn} {j : Nat} (h : j < O.length) : ((O.take (j + 1)).filter (epL e)).map (asV e) = ((O.take j).filter (epL e)).map (asV e) ++ (if epL e O[j] = true then [asV e O[j]] else []) := by
  rw [List.take_succ_eq_append_getElem h, List.filter_append, List.map_append]
  congr 1
  by_cases c : epL e O[j] = true <;> simp [c]
set_option maxHeartbeats 16000000 in
set_option maxRecDepth 100000 in
theorem cUpto (a : Option Addr) (c : Nat) (l : List Vn) (ep : Int) (w : World) (hs : VnE.See w a l) (hn : a = none → c = 0) (hl : l.length ≤ 4000000000000) (hx : ∀ x ∈ l, VnOk w x) :
    Calls Try.prog 10 #[.slice a l.length c, .int .u64 ep] w (LvP (uptoV l ep) w) := by
  have cB := hid (cByNames a c l w hs hn hl)
  obtain ⟨O, hO⟩ : ∃ O, Hid (onceV l = O) := ⟨_, hid rfl⟩
  have hOl : O.length ≤ 4000000000000 := by have := once_len l; rw [hO.out] at this; omega
  have hOx := hid (fun x (hm : x ∈ O) => hx x (once_mem (by rw [hO.out]; exact hm)))
  have hU : Hid (uptoV l ep = (O.filter (epL ep)).map (asV ep)) := hid (by unfold uptoV; rw [hO.out])
  obtain ⟨U, hU2⟩ : ∃ U, Hid (uptoV l ep = U) := ⟨_, hid rfl⟩
  rw [hU2.out] at hU ⊢
  rw [hO.out] at cB
  clear hs hn hx hl
  go_enter Try.func10, Try.ntmps10
  go_wp2_with fail
  refine cB.out.mono ?_
  rintro e w2 ⟨a2, c2, rfl, hrow, k2, hnw⟩
  have hS2 := hid (See.ofRow hrow)
  have K2 := hid k2
  have H0 : Hid (Lvn w2.heap.size none 0 [] w2 ∧ Kp [] w w2) := hid ⟨Lvn.nil _ _, k2⟩
  clear cB hrow k2 hnw
  go_wp2_with fail
  go_loopw [5, 11] (fun v5 i wr => ∃ (j : Nat) (ra : Option Addr) (rc : Nat) (M : List Vn), j ≤ O.length ∧ i = .int .i64 (j : Int) ∧ v5 = .slice ra M.length rc ∧ Hid (Like M (((O.take j).filter (epL ep)).map (asV ep))) ∧ Hid (Lvn w2.heap.size ra rc M wr ∧ Kp [] w2 wr)) (fun _ i _ => O.length - (intOf i).toNat)
  case atStart => exact ⟨0, none, 0, [], Nat.zero_le _, rfl, rfl, hid (by simp [Like]), hid ⟨H0.out.1, Kp.refl _ _⟩⟩
  case round =>
    obtain ⟨j, ra, rc, M, hj, rfl, rfl, hlk, H⟩ := hrel
    clear H0
    have hMl : M.length ≤ j := by
      have h1 := hlk.out.len
      rw [List.length_map] at h1
      have h2 := List.length_filter_le (epL ep) (O.take j)
      rw [List.length_take] at h2
      omega
    by_cases hlt : j < O.length
    · have hsn := hid (upto_snoc ep hlt)
      obtain ⟨g, o, ea, x0, x1, x2, x3⟩ := idAt (hS2.out.keptNew H.out.2) (i := j) (x := O[j]) (by simp [hlt])
      have hxok := hid ((hOx.out O[j] (List.getElem_mem hlt)).kept (K2.out.trans H.out.2 (by simp)))
      obtain ⟨x, hx⟩ : ∃ x, Hid (O[j] = x) := ⟨O[j], hid rfl⟩
      rw [hx.out] at x0 x1 x2 x3 hxok hsn
      have cA := hid (fun W (k : Kp [] wr W) => cAs x ep W (hxok.out.kept k))
      have hp : Hid (∀ a9 c9, (⟨x.ep, x.num, a9, c9, x.row, (asV ep x).del⟩ : Vn).p = (asV ep x).p) := hid fun a9 c9 => by
        unfold asV
        split <;> rfl
      have hepx : Hid (epL ep x = decide (x.ep ≤ ep)) := hid rfl
      obtain ⟨D, hD⟩ : ∃ D, Hid ((asV ep x).del = D) := ⟨_, hid rfl⟩
      obtain ⟨Y, hY⟩ : ∃ Y, Hid (asV ep x = Y) := ⟨_, hid rfl⟩
      rw [hY.out] at hsn hp
      simp only [hD.out] at cA
      rw [show Y.del = D by rw [← hY.out, hD.out]] at hp
      obtain ⟨xe, xn, xa, xc, xr, xd⟩ := x
      dsimp only at x0 x1 x2 x3 cA hp hepx
      obtain ⟨q7, W1, W2, eq7, eW1, b1, eW2, b2, kW2⟩ := boxVn wr xe xn xa xr.length xc xd
      have m0 := b1.get 0 _ rfl; have m1 := b1.get 1 _ rfl; have m2 := b1.get 2 _ rfl; have m3 := b1.get 3 _ rfl
      have f0 := b1.free 0; have f1 := b1.free 1; have f2 := b1.free 2; have f3 := b1.free 3
      have v0 := b2.get 0 _ rfl; have v1 := b2.get 1 _ rfl; have v2 := b2.get 2 _ rfl; have v3 := b2.get 3 _ rfl
      have KW2 := hid (H.out.2.trans kW2 (by simp))
      have HL2 := hid (H.out.1.kp kW2)
      have cA2 := hid (cA.out W2 kW2)
      have g0 := kpAt (by rw [← eW1]; exact (Kp.refl [] wr).alloc _ : Kp [] wr W1) x0
      have g1 := kpAt (by rw [← eW1]; exact (Kp.refl [] wr).alloc _ : Kp [] wr W1) x1
      have g2 := kpAt (by rw [← eW1]; exact (Kp.refl [] wr).alloc _ : Kp [] wr W1) x2
      have g3 := kpAt (by rw [← eW1]; exact (Kp.refl [] wr).alloc _ : Kp [] wr W1) x3
      have hzz : Hid (w2.heap.size ≤ W2.heap.size) := hid KW2.out.size
      have hxf := hid hxok.out.few
      have i1 : (0 : Int) ≤ (j : Int) := by omega
      have i2 : (j : Int) < (O.length : Int) := by omega
      have i3 : (j : Int) + 1 ≤ 9223372036854775807 := by omega
      subst ea
      clear b1 b2 kW2 cA hxok hOx
      by_cases hep : xe ≤ ep
      · have d1 : decide (xe ≤ ep) = true := decide_eq_true hep
        have hsn2 : Hid (((O.take (j + 1)).filter (epL ep)).map (asV ep) = ((O.take j).filter (epL ep)).map (asV ep) ++ [Y]) := hid (by rw [hsn.out, if_pos (by rw [hepx.out]; exact d1)])
        clear hep hepx hsn
        go_wp2_with fail
        refine cA2.out.mono ?_
        rintro e w3 ⟨a9, c9, rfl, hr9, k9, hb9⟩
        have hL3 := HL2.out.kp k9
        have hzM : M.length ≤ 4000000000000 := by omega
        obtain ⟨q8, hq8⟩ : ∃ q, w3.heap.size = q := ⟨_, rfl⟩
        obtain ⟨a4, c4, W4, hrun, hl4, k4⟩ := hL3.app ⟨xe, xn, a9, c9, xr, D⟩ hr9 hxf.out (fun k hk => ⟨by have := hb9 k hk; have := hzz.out; omega, fun hm => by have h1 := HL2.out.lt k hm; have h2 := hb9 k hk; omega⟩) (by have := hzz.out; have := k9.size; omega) hzM q8 hq8
        have hlk4 : Hid (Like (M ++ [(⟨xe, xn, a9, c9, xr, D⟩ : Vn)]) (((O.take (j + 1)).filter (epL ep)).map (asV ep))) := hid (by rw [hsn2.out]; exact hlk.out.append (Like.mk (hp.out a9 c9) rfl))
        obtain ⟨M4, hM4⟩ : ∃ M4, Hid (M ++ [(⟨xe, xn, a9, c9, xr, D⟩ : Vn)] = M4) := ⟨_, hid rfl⟩
        rw [hM4.out] at hrun hl4 hlk4
        dsimp only at hrun
        have HF : Hid (Lvn w2.heap.size a4 c4 M4 W4 ∧ Kp [] w2 W4) := hid ⟨hl4, (KW2.out.trans k9 (by simp)).trans k4 (fun x hx => .inr (HL2.out.own x hx))⟩
        clear hL3 hr9 k9 hb9 hl4 k4 cA2 hzz hp
        go_wp2_with (first | (refine wpAppRun rfl _ _ 22 22 rfl _ _ _ rfl rfl hrun ?_) | fail)
        go_roundw
        case rel => exact ⟨j + 1, a4, c4, M4, by omega, by go_num, rfl, hlk4, HF⟩
        case measure => simp [intOf]; omega
      · have d1 : decide (xe ≤ ep) = false := decide_eq_false hep
        have hlk4 : Hid (Like M (((O.take (j + 1)).filter (epL ep)).map (asV ep))) := hid (by rw [hsn.out, if_neg (by rw [hepx.out, d1]; simp), List.append_nil]; exact hlk.out)
        have HF : Hid (Lvn w2.heap.size ra rc M W2 ∧ Kp [] w2 W2) := hid ⟨HL2.out, KW2.out⟩
        clear hep hepx hsn cA2 hp
        go_wp2_with fail
        go_roundw
        case rel => exact ⟨j + 1, ra, rc, M, by omega, by go_num, rfl, hlk4, HF⟩
        case measure => simp [intOf]; omega
    · obtain rfl : j = O.length := by omega
      have hfin : Hid (Like M U) := hid (by have := hlk.out; rw [List.take_length] at this; rw [hU.out]; exact this)
      clear hMl
      go_wp2_with fail
      go_ret
      exact ⟨ra, rc, M, rfl, H.out.1.mono K2.out.size, hfin.out, K2.out.trans H.out.2 (by simp)⟩
theorem beh_sub {m : Int} {l : List Vn} {x : Vn} (h : x ∈ chgF m l) : x ∈ l := (List.mem_filter.1 h).1
set_option maxHeartbeats 16000000 in
set_option maxRecDepth 100000 in
theorem cChanges (a : Option Addr) (c : Nat) (l : List Vn) (since ep : Int) (w : World) (hs : VnE.See w a l) (hn : a = none → c = 0) (hl : l.length ≤ 4000000000000) (hx : ∀ x ∈ l, VnOk w x) :
    Calls Try.prog 11 #[.slice a l.length c, .int .u64 since, .int .u64 ep] w (LvP (chgV l since ep) w) := by
  obtain ⟨w1, hw1, k1, b1⟩ : ∃ x, w.alloc (.cells #[.int .u64 since] 23) = x ∧ Kp [] w x ∧ Bn x w.heap.size [.int .u64 since] := ⟨_, rfl, (Kp.refl _ _).alloc _, Bn.new w _ _⟩
  have z1 : w1.heap.size = w.heap.size + 1 := by rw [← hw1]; simp
  have cU := hid (cUpto a c l ep w1 (hs.keptNew k1) hn hl (fun x hm => (hx x hm).kept k1))
  have hlen := upto_len l ep
  obtain ⟨q4, hq4⟩ : ∃ q, w.heap.size = q := ⟨_, rfl⟩
  rw [hq4] at b1
  have K1 := hid k1
  have HQ : Hid (q4 = w.heap.size ∧ w1.heap.size = w.heap.size + 1) := hid (by omega)
  have HB := hid b1
  clear hs hn hx k1 b1 z1
  go_enter Try.func11, Try.ntmps11
  go_wp2_with fail
  refine cU.out.mono ?_
  rintro e w2 ⟨ra, rc, M, rfl, hlv, hlk, k2⟩
  have hMl : M.length ≤ 4000000000000 := by have := hlk.len; omega
  have s4 : w2.cell? ⟨q4, 0, none⟩ = some (.int .u64 since) := (HB.out.kept k2).get 0 _ rfl
  have K2 := hid (K1.out.trans k2 (by simp))
  have HL := hid hlv
  have HK : Hid (Like (chgF since M) (chgV l since ep)) := hid (chgF_like hlk since)
  rcases hlv.row with ⟨e, e2⟩ | ⟨g, o, cap, e, _⟩
  · have e' := Value.slice.inj e
    obtain ⟨rfl, _, rfl⟩ := e'
    subst e2
    have cD := hid (cDelNil 0 q4 since w2 s4)
    clear cU hlv hlk k2 hMl hlen e
    simp only [List.length_nil]
    go_wp2_with fail
    refine cD.out.mono ?_
    rintro e w3 ⟨rfl, k3⟩
    have K3 := hid (K2.out.trans k3 (by simp))
    clear cD k3
    go_wp2_with fail
    go_ret
    exact ⟨none, 0, [], rfl, Lvn.nil _ _, by simpa [chgF] using HK.out, K3.out⟩
  · have e' := Value.slice.inj e
    obtain ⟨rfl, _, rfl⟩ := e'
    have hg : w1.heap.size ≤ g := HL.out.own g (by simp [blk])
    have hqg : q4 ≠ g := by have := HQ.out; omega
    have cD := hid (cDelF g o rc q4 since M w2 HL.out.row s4 hqg hMl)
    clear cU hlv hlk k2 hMl hlen e hqg
    go_wp2_with fail
    refine cD.out.mono ?_
    rintro e w3 ⟨rfl, hrow, k3⟩
    have hrows : ∀ x ∈ chgF since M, VE.Row w3 (.slice x.a x.row.length x.c) x.row ∧ x.row.length * 40 ≤ 140737488355328 ∧ ∀ k ∈ blk x.a, w.heap.size ≤ k ∧ k ∉ blk (some (⟨g, o, none⟩ : Addr)) := fun x hm => by
      obtain ⟨r1, r2, r3⟩ := HL.out.rows x (beh_sub hm)
      exact ⟨r1.kept k3 (fun k hk => by rw [own_slice] at hk; have := (r3 k hk).2; simpa [blk] using this), r2, fun k hk => ⟨by have := (r3 k hk).1; have := HQ.out; omega, (r3 k hk).2⟩⟩
    have H := hid (And.intro hrow hrows)
    have K3 := hid (K2.out.trans k3 (fun x hx => .inr (by simp at hx; have := HQ.out; omega)))
    clear cD k3 hrow hrows
    go_wp2_with fail
    go_ret
    exact ⟨_, rc, chgF since M, rfl, ⟨H.out.1, H.out.2, fun k hk => by simp [blk] at hk; have := HQ.out; omega⟩, HK.out, K3.out⟩
/-- Values that a slice sees, in a row of their own. -/
theorem appNilV {W : World} (a2 : Option Addr) (c2 : Nat) (ys : List Val) (hs : VE.See W a2 ys) (hf : ys.length * 40 ≤ 140737488355328) :
    ∃ a' c' W', (Builtin.append_ #[32, 32] 32 #[.slice none 0 0, .slice a2 ys.length c2]).run Try.prog W = .ok (.slice a' ys.length c') W' ∧ VE.Row W' (.slice a' ys.length c') ys ∧ Kp [] W W' ∧ ∀ k ∈ blk a', W.heap.size ≤ k := by
  obtain ⟨i0, hi, hz0, hz1, hz2⟩ := infoV
  have hsrc := hs.src (P := Try.prog) Try.underlying32 c2
  obtain ⟨v6, X4, hrun2, hrow6, kk6, hn6⟩ := run_appendG (E := VE) (P := Try.prog) W 32 32 32 36 i0 _ 40 Try.underlying32 hi hz0 hz1 hz2 rfl (.slice none 0 0) [] (.inl ⟨rfl, rfl⟩) _ ys hsrc (by simp only [List.length_nil]; omega) (by simp only [List.length_nil]; omega)
  obtain ⟨a6, c6, rfl, _⟩ := hrow6.see
  simp only [own_slice, List.nil_append] at kk6 hn6 hrun2 hrow6
  exact ⟨a6, c6, X4, hrun2, hrow6, kk6.mono (by simp [blk]), fun k hk => by rcases hn6 k hk with e | e; simp [blk] at e; exact e⟩
set_option maxHeartbeats 16000000 in
set_option maxRecDepth 100000 in
theorem cCopied (a : Option Addr) (c : Nat) (l : List Vn) (w : World) (hs : VnE.See w a l) (hl : l.length ≤ 4000000000000) (hx : ∀ x ∈ l, VnOk w x) :
    Calls Try.prog 9 #[.slice a l.length c] w (LvP l w) := by
  have HS := hid hs
  have HX := hid hx
  clear hs hx
  go_enter Try.func9, Try.ntmps9
  go_wp2_with fail
  go_loopw [3, 8] (fun v3 i wr => ∃ (j : Nat) (ra : Option Addr) (rc : Nat) (M : List Vn), j ≤ l.length ∧ i = .int .i64 (j : Int) ∧ v3 = .slice ra M.length rc ∧ Hid (Like M (l.take j)) ∧ Hid (Lvn w.heap.size ra rc M wr ∧ Kp [] w wr)) (fun _ i _ => l.length - (intOf i).toNat)
  case atStart => exact ⟨0, none, 0, [], Nat.zero_le _, rfl, rfl, hid (by simp [Like]), hid ⟨Lvn.nil _ _, Kp.refl _ _⟩⟩
  case round =>
    obtain ⟨j, ra, rc, M, hj, rfl, rfl, hlk, H⟩ := hrel
    have hMl : M.length ≤ j := by
      have h1 := hlk.out.len
      rw [List.length_take] at h1
      omega
    by_cases hlt : j < l.length
    · have hsn : Hid (l.take (j + 1) = l.take j ++ [l[j]]) := hid (List.take_succ_eq_append_getElem hlt)
      obtain ⟨g, o, ea, x0, x1, x2, x3⟩ := idAt (HS.out.keptNew H.out.2) (i := j) (x := l[j]) (by simp [hlt])
      have hxok := hid ((HX.out l[j] (List.getElem_mem hlt)).kept H.out.2)
      obtain ⟨x, hx⟩ : ∃ x, Hid (l[j] = x) := ⟨l[j], hid rfl⟩
      rw [hx.out] at x0 x1 x2 x3 hxok hsn
      obtain ⟨xe, xn, xa, xc, xr, xd⟩ := x
      dsimp only at x0 x1 x2 x3
      obtain ⟨q7, W1, W2, eq7, eW1, b1, eW2, b2, kW2⟩ := boxVn wr xe xn xa xr.length xc xd
      have m0 := b1.get 0 _ rfl; have m1 := b1.get 1 _ rfl; have m2 := b1.get 2 _ rfl; have m3 := b1.get 3 _ rfl
      have f0 := b1.free 0; have f1 := b1.free 1; have f2 := b1.free 2; have f3 := b1.free 3
      have v2 := b2.get 2 _ rfl
      have hz7 : W2.heap.size = wr.heap.size + 1 := by rw [← eW2, ← eW1]; simp
      have K2 := hid (H.out.2.trans kW2 (by simp))
      have HL2 := hid (H.out.1.kp kW2)
      have g0 := kpAt (by rw [← eW1]; exact (Kp.refl [] wr).alloc _ : Kp [] wr W1) x0
      have g1 := kpAt (by rw [← eW1]; exact (Kp.refl [] wr).alloc _ : Kp [] wr W1) x1
      have g2 := kpAt (by rw [← eW1]; exact (Kp.refl [] wr).alloc _ : Kp [] wr W1) x2
      have g3 := kpAt (by rw [← eW1]; exact (Kp.refl [] wr).alloc _ : Kp [] wr W1) x3
      obtain ⟨a9, c9, W3, hrun1, hr9, k9, hb9⟩ := appNilV (W := W2) xa xc xr ((hxok.out.kept kW2).see) hxok.out.few
      have b3 := b2.kept k9
      have f32 := b3.free 2; have m32 := b3.get 2 _ rfl
      have hlt7 : q7 < W3.heap.size := b3.lt (by simp)
      obtain ⟨W4, eW4⟩ : ∃ Y, W3.setCell ⟨q7, 2, none⟩ (.slice a9 xr.length c9) = Y := ⟨_, rfl⟩
      have k4 : Kp [q7] W3 W4 := by rw [← eW4]; exact (Kp.refl _ _).setCell (by simp) _
      have b4 : Bn W4 q7 [.int .u64 xe, .int .u32 xn, .slice a9 xr.length c9, .int .u64 xd] := by rw [← eW4]; exact b3.set 2 (by simp) _
      have p0 := b4.get 0 _ rfl; have p1 := b4.get 1 _ rfl; have p2 := b4.get 2 _ rfl; have p3 := b4.get 3 _ rfl
      have hwr := H.out.2.size
      have hlow : ∀ k ∈ blk ra, k < wr.heap.size := H.out.1.lt
      have HL4 : Lvn w.heap.size ra rc M W4 := (HL2.out.kp k9).keptS k4 (fun k hk => by have := hlow k hk; simp; omega) (fun y hy k hk => by
        have h1 := (H.out.1.rows y hy).1.lt k (by rw [own_slice]; exact hk)
        simp
        omega)
      have hr94 : VE.Row W4 (.slice a9 xr.length c9) xr := hr9.kept k4 (fun k hk => by rw [own_slice] at hk; have := hb9 k hk; simp; omega)
      obtain ⟨q8, hq8⟩ : ∃ q, W4.heap.size = q := ⟨_, rfl⟩
      have K4 := hid ((K2.out.trans k9 (by simp)).trans k4 (fun x hx => .inr (by simp at hx; omega)))
      obtain ⟨a5, c5, W5, hrun, hl5, k5⟩ := HL4.app ⟨xe, xn, a9, c9, xr, xd⟩ hr94 hxok.out.few (fun k hk => ⟨by have := hb9 k hk; omega, fun hm => by have h1 := hlow k hm; have h2 := hb9 k hk; omega⟩) K4.out.size (by omega) q8 hq8
      have hlk4 : Hid (Like (M ++ [(⟨xe, xn, a9, c9, xr, xd⟩ : Vn)]) (l.take (j + 1))) := hid (by rw [hsn.out]; exact hlk.out.append (Like.mk rfl rfl))
      obtain ⟨M4, hM4⟩ : ∃ M4, Hid (M ++ [(⟨xe, xn, a9, c9, xr, xd⟩ : Vn)] = M4) := ⟨_, hid rfl⟩
      rw [hM4.out] at hrun hl5 hlk4
      dsimp only at hrun
      have HF : Hid (Lvn w.heap.size a5 c5 M4 W5 ∧ Kp [] w W5) := hid ⟨hl5, K4.out.trans k5 (fun x hx => .inr (HL4.own x hx))⟩
      have i1 : (0 : Int) ≤ (j : Int) := by omega
      have i2 : (j : Int) < (l.length : Int) := by omega
      have i3 : (j : Int) + 1 ≤ 9223372036854775807 := by omega
      subst ea
      clear b1 b2 b3 b4 kW2 hxok hz7 hr9 k9 hb9 k4 hwr hlow HL4 hr94 hl5 k5 hlt7
      go_wp2_with (first | (refine wpAppRun rfl _ _ 32 32 rfl _ _ _ rfl rfl hrun1 ?_) | (refine wpAppRun rfl _ _ 22 22 rfl _ _ _ rfl rfl hrun ?_) | fail)
      go_roundw
      case rel => exact ⟨j + 1, a5, c5, M4, by omega, by go_num, rfl, hlk4, HF⟩
      case measure => simp [intOf]; omega
    · obtain rfl : j = l.length := by omega
      have hfin : Hid (Like M l) := hid (by have := hlk.out; rwa [List.take_length] at this)
      clear hMl
      go_wp2_with fail
      go_ret
      exact ⟨ra, rc, M, rfl, H.out.1, hfin.out, H.out.2⟩
end Go.Proofs.Ytebkkdoggagcdaa
end

section
namespace Go.Proofs.Ytebkkdoggagcdaa
open Go.RowKit Go.Hay
attribute [local go_sem] Oper.semAt_some
set_option linter.unusedVariables false
set_option linter.unusedSimpArgs false

/-- A slice of versions: its address, its room, what it sees. -/
structure Ws where
  a : Option Addr
  c : Nat
  l : List Vn
def WsE : El Ws where
  n := 1
  c x := [.slice x.a x.l.length x.c]
  len _ := rfl
  one _ u hu := by simp at hu; rw [hu]; rfl
  pos := by decide
theorem wsAt {w : World} {a : Option Addr} {l : List Ws} (h : WsE.See w a l) {j : Nat} {x : Ws} (hx : l[j]? = some x) : ∃ g o, a = some ⟨g, o, none⟩ ∧ w.cell? ⟨g, o + j, none⟩ = some (.slice x.a x.l.length x.c) := by
  obtain ⟨g, o, rfl, hc⟩ := h.at hx
  have := hc 0 _ rfl
  rw [Nat.add_zero, show j * WsE.n = j from Nat.mul_one j] at this
  exact ⟨g, o, rfl, this⟩
/-- Room in memory of its own, and nothing in it. -/
def NewEN (w : World) (e : Ending) (w' : World) : Prop := ∃ a c, e = .returned (.slice a 0 c) ∧ VnE.Row w' (.slice a 0 c) [] ∧ Kp [] w w' ∧ ∀ k ∈ blk a, w.heap.size ≤ k
set_option maxHeartbeats 4000000 in
set_option maxRecDepth 100000 in
theorem cGrowN (n : Nat) (w : World) (hn : n ≤ 4000000000000) : Calls Try.prog 37 #[.slice none 0 0, .int .i64 (n : Int)] w (NewEN w) := by
  rcases Nat.eq_zero_or_pos n with h0 | h0
  · subst h0
    go_enter Try.func37, Try.ntmps37
    go_wp2_with fail
    go_ret
    exact ⟨none, 0, rfl, .inl ⟨rfl, rfl⟩, Kp.refl _ _, by simp [blk]⟩
  · obtain ⟨i0, hi, hz0, hz1, hz2⟩ := infoN
    have hrun := Lib.run_append_nil_zeros (P := Try.prog) w 22 3 22 34 i0 _ .i64 .i64 Try.underlying22 Try.underlying3 hi hz0 n h0 (by omega) (by omega) (by rw [hz2]; omega)
    have hge := grownCap_ge w n 0 34
    have hcm := grownCap_le_maxLen w n 0 34 (by unfold maxLen; omega)
    obtain ⟨C, hC⟩ : ∃ C, grownCap w n 0 34 = C := ⟨_, rfl⟩
    rw [hC] at hrun hge hcm
    obtain ⟨W, hW⟩ : ∃ W, w.drew.alloc (.cells (Builtin.zeroCells (Value.agg #[.int .u64 0, .int .u32 0, .slice none 0 0, .int .u64 0]).cells n ++ Builtin.zeroCells (Value.agg #[.int .u64 0, .int .u32 0, .slice none 0 0, .int .u64 0]).cells (C - n)) 34) = W := ⟨_, rfl⟩
    rw [hW] at hrun
    have hrow : VnE.Row W (.slice (some ⟨w.heap.size, 0, none⟩) 0 C) [] := by
      refine .inr ⟨w.heap.size, 0, C, rfl, Nat.zero_le _, hcm, by rw [← hW]; simp, fun j u hu => by simp [El.cs] at hu, fun j hj => ?_⟩
      rw [← hW]
      refine ⟨?_, World.frozen?_alloc_new w.drew _ _ (0 + j)⟩
      have e1 := World.cell?_alloc_new w.drew (Builtin.zeroCells (Value.agg #[.int .u64 0, .int .u32 0, .slice none 0 0, .int .u64 0]).cells n ++ Builtin.zeroCells (Value.agg #[.int .u64 0, .int .u32 0, .slice none 0 0, .int .u64 0]).cells (C - n)) 34 (0 + j)
      refine (congrArg Option.isSome e1).trans ?_
      rw [Nat.zero_add, Array.getElem?_eq_getElem (by
        rw [Array.size_append, size_zeroCells, size_zeroCells]
        have e4 : (Value.agg #[.int .u64 0, .int .u32 0, .slice none 0 0, .int .u64 0]).cells.size = 4 := rfl
        have e5 : VnE.n = 4 := rfl
        rw [e4]
        rw [e5] at hj
        omega)]
      rfl
    have kW : Kp [] w W := by rw [← hW]; exact (Kp.refl _ w).drew.alloc _
    have hCb : C ≤ 9223372036854775807 := by unfold maxLen at hcm; omega
    have d1 : decide ((n : Int) < 0) = false := by simp
    have d2 : (0 : Int) < (n : Int) := by omega
    have d3 : decide ((0 : Int) < (n : Int)) = true := by simp; omega
    have HW := hid (And.intro hrow kW)
    obtain ⟨q, hq⟩ : ∃ q, w.heap.size = q := ⟨_, rfl⟩
    rw [hq] at hrun HW
    have hq' := hid hq
    clear hrow kW hW hcm hge hC hi hz0 hz1 hz2 h0 hq
    go_enter Try.func37, Try.ntmps37
    go_wp2_with (first | (refine wpAppRun rfl _ _ 22 3 rfl _ _ _ rfl rfl hrun ?_) | fail)
    go_ret
    exact ⟨_, _, rfl, HW.out.1, HW.out.2, fun k hk => by simp [blk] at hk; rw [hk, hq'.out]; exact Nat.le_refl _⟩
def sumL (L : List Ws) : Nat := (L.map fun x => x.l.length).sum
theorem sumL_take {L : List Ws} {j : Nat} (h : j < L.length) : sumL (L.take (j + 1)) = sumL (L.take j) + L[j].l.length := by
  unfold sumL
  rw [List.take_succ_eq_append_getElem h, List.map_append, List.sum_append_nat]
  simp
theorem sumL_le (L : List Ws) (j : Nat) : sumL (L.take j) ≤ sumL L := by
  have e : sumL L = sumL (L.take j) + sumL (L.drop j) := by
    unfold sumL
    conv => lhs; rw [← List.take_append_drop j L, List.map_append, List.sum_append_nat]
  omega
def catL (L : List Ws) : List Vn := L.flatMap (·.l)
theorem catL_take {L : List Ws} {j : Nat} (h : j < L.length) : catL (L.take (j + 1)) = catL (L.take j) ++ L[j].l := by
  unfold catL
  rw [List.take_succ_eq_append_getElem h, List.flatMap_append]
  simp
theorem catL_len (L : List Ws) : (catL L).length = sumL L := by unfold catL sumL; rw [List.length_flatMap]
/-- Values that a slice sees, behind a row. -/
theorem appVN {W : World} {a : Option Addr} {c : Nat} {l : List Vn} (h : VnE.Row W (.slice a l.length c) l) (a2 : Option Addr) (c2 : Nat) (ys : List Vn) (hs : VnE.See W a2 ys) (hl : l.length + ys.length ≤ 4000000000000) :
    ∃ a' c' W', (Builtin.append_ #[22, 22] 22 #[.slice a l.length c, .slice a2 ys.length c2]).run Try.prog W = .ok (.slice a' (l ++ ys).length c') W' ∧ VnE.Row W' (.slice a' (l ++ ys).length c') (l ++ ys) ∧ Kp (blk a) W W' ∧ ∀ k ∈ blk a', k ∈ blk a ∨ W.heap.size ≤ k := by
  obtain ⟨i0, hi, hz0, hz1, hz2⟩ := infoN
  have hsrc := hs.src (P := Try.prog) Try.underlying22 c2
  obtain ⟨v6, X4, hrun2, hrow6, kk6, hn6⟩ := run_appendG (E := VnE) (P := Try.prog) _ 22 22 22 34 i0 _ 48 Try.underlying22 hi hz0 hz1 hz2 rfl (.slice a l.length c) l h _ ys hsrc (by omega) (by omega)
  obtain ⟨a6, c6, rfl, _⟩ := hrow6.see
  rw [own_slice] at kk6
  simp only [own_slice] at hn6
  exact ⟨a6, c6, X4, hrun2, hrow6, kk6, hn6⟩
set_option maxHeartbeats 16000000 in
set_option maxRecDepth 100000 in
theorem cConcatN (sa : Option Addr) (sc : Nat) (L : List Ws) (w : World) (hs : WsE.See w sa L) (hx : ∀ x ∈ L, VnE.See w x.a x.l) (hl : L.length ≤ 4000000000000) (hsum : sumL L ≤ 4000000000000) :
    Calls Try.prog 30 #[.slice sa L.length sc] w (CloneP VnE (catL L) w) := by
  have HS := hid hs
  have HX := hid hx
  have hrow : Hid (∀ (j : Nat) (hj : j < L.length), ∃ g o, sa = some ⟨g, o, none⟩ ∧ w.cell? ⟨g, o + j, none⟩ = some (.slice L[j].a L[j].l.length L[j].c)) := fun j hj => wsAt HS.out (by simp [hj])
  have hsl := hid (fun j => sumL_le L j)
  clear hs hx
  go_enter Try.func30, Try.ntmps30
  go_wp2_with fail
  go_loopw [3, 11] (fun v3 i wr => ∃ (j N : Nat), j ≤ L.length ∧ i = .int .i64 (j : Int) ∧ v3 = .int .i64 (N : Int) ∧ Hid (N = sumL (L.take j)) ∧ w = wr) (fun _ i _ => L.length - (intOf i).toNat)
  case atStart => exact ⟨0, 0, Nat.zero_le _, rfl, rfl, rfl, rfl⟩
  case round =>
    obtain ⟨j, N, hj, rfl, rfl, hN, rfl⟩ := hrel
    by_cases hlt : j < L.length
    · obtain ⟨g, o, ea, c0⟩ := hrow.out j hlt
      have hst := hid (sumL_take hlt)
      have hs1 := hsl.out (j + 1)
      rw [hst.out, ← hN.out] at hs1
      obtain ⟨x, hx⟩ : ∃ x, Hid (L[j] = x) := ⟨L[j], rfl⟩
      rw [hx.out] at c0 hs1 hst
      obtain ⟨xa, xc, xl⟩ := x
      dsimp only at c0 hs1 hst
      subst ea
      obtain ⟨M, hM⟩ : ∃ M : Nat, N + xl.length = M := ⟨_, rfl⟩
      have eM : (N : Int) + (xl.length : Int) = (M : Int) := by omega
      have i1 : (0 : Int) ≤ (j : Int) := by omega
      have i2 : (j : Int) < (L.length : Int) := by omega
      have i3 : (j : Int) + 1 ≤ 9223372036854775807 := by omega
      have i4 : (-9223372036854775808 : Int) ≤ (N : Int) + (xl.length : Int) := by omega
      have i5 : (N : Int) + (xl.length : Int) ≤ 9223372036854775807 := by omega
      have i6 : decide ((M : Int) < 0) = false := by simp
      have hM' : Hid (M = sumL (L.take (j + 1))) := by show _ = _; rw [hst.out, ← hN.out, hM]
      clear hM hst
      go_wp2_with fail
      go_roundw
      case rel => exact ⟨j + 1, M, by omega, by go_num, by simp [eM, IntKind.wrap_i64], hM', by simp⟩
      case measure => simp [intOf]; omega
    · obtain rfl : j = L.length := by omega
      have dj1 : ¬ (L.length : Int) < (L.length : Int) := by omega
      have dj2 : decide ((L.length : Int) < (L.length : Int)) = false := by simp
      have hNs : N ≤ 4000000000000 := by rw [hN.out, List.take_length]; exact hsum
      have cG := hid (cGrowN N w hNs)
      go_wp2_with fail
      refine cG.out.mono ?_
      rintro e w2 ⟨ga, gc, rfl, hgr, k2, hgb⟩
      have HG := hid (And.intro hgr (And.intro k2 hgb))
      clear cG hgr k2 hgb
      go_wp2_with fail
      go_loopw [6, 27] (fun v6 i wn => ∃ (j : Nat) (a : Option Addr) (c : Nat) (l : List Vn), j ≤ L.length ∧ i = .int .i64 (j : Int) ∧ v6 = .slice a l.length c ∧ Hid (l = catL (L.take j)) ∧ Hid (VnE.Row wn (.slice a l.length c) l ∧ Kp [] w wn ∧ ∀ k ∈ blk a, w.heap.size ≤ k)) (fun _ i _ => L.length - (intOf i).toNat)
      case atStart => exact ⟨0, ga, gc, [], Nat.zero_le _, rfl, rfl, rfl, HG⟩
      case round =>
        obtain ⟨j, a, c, l, hj, rfl, rfl, hl', H⟩ := hrel
        clear HG
        by_cases hlt : j < L.length
        · obtain ⟨g, o, ea, c0⟩ := hrow.out j hlt
          have cg := kpAt H.out.2.1 c0
          have hlj := HX.out L[j] (List.getElem_mem hlt)
          have hct := hid (catL_take hlt)
          have hs1 := hsl.out (j + 1)
          rw [sumL_take hlt, ← catL_len, ← hl'.out] at hs1
          obtain ⟨a4, c4, W4, hrun, hr4, k4, hn4⟩ := appVN H.out.1 L[j].a L[j].c L[j].l (hlj.keptNew H.out.2.1) (by omega)
          obtain ⟨l4, hl4⟩ : ∃ l4, Hid (l ++ L[j].l = l4) := ⟨l ++ L[j].l, rfl⟩
          rw [hl4.out] at hrun hr4
          have hl5 : Hid (l4 = catL (L.take (j + 1))) := by show _ = _; rw [hct.out, ← hl'.out, hl4.out]
          obtain ⟨x, hx⟩ : ∃ x, Hid (L[j] = x) := ⟨L[j], rfl⟩
          rw [hx.out] at cg hrun
          obtain ⟨xa, xc, xl⟩ := x
          dsimp only at cg hrun
          have HF : Hid (VnE.Row W4 (.slice a4 l4.length c4) l4 ∧ Kp [] w W4 ∧ ∀ k ∈ blk a4, w.heap.size ≤ k) := ⟨hr4, H.out.2.1.trans k4 (fun x hx => .inr (H.out.2.2 x hx)), fun k hk => by
            rcases hn4 k hk with e | e
            · exact H.out.2.2 k e
            · have := H.out.2.1.size; omega⟩
          have i1 : (0 : Int) ≤ (j : Int) := by omega
          have i2 : (j : Int) < (L.length : Int) := by omega
          have i3 : (j : Int) + 1 ≤ 9223372036854775807 := by omega
          clear c0 hlj hs1 hr4 k4 hn4 hct
          subst ea
          go_wp2_with (first | (refine wpAppRun rfl _ _ 22 22 rfl _ _ _ rfl rfl hrun ?_) | fail)
          go_roundw
          case rel => exact ⟨j + 1, a4, c4, l4, by omega, by go_num, rfl, hl5, HF⟩
          case measure => simp [intOf]; omega
        · obtain rfl : j = L.length := by omega
          have hlc : l = catL L := by rw [hl'.out, List.take_length]
          subst hlc
          go_wp2_with fail
          go_ret
          exact ⟨a, c, rfl, H.out.1, H.out.2.1, H.out.2.2⟩
end Go.Proofs.Ytebkkdoggagcdaa
end

section
namespace Go.Hay

/-- n in k bytes, the highest first. -/
def be (n : Nat) : Nat → List UInt8
  | 0 => []
  | k + 1 => UInt8.ofNat (n / 256 ^ k % 256) :: be n k
theorem be_length (n k : Nat) : (be n k).length = k := by
  induction k with
  | zero => rfl
  | succ k ih => simp [be, ih]
/-- The first byte of n's Var. -/
def leadI (n : Int) : Int := if n < 253 then n else if n < 65536 then 253 else if n < 4294967296 then 254 else 255
/-- How many bytes a Var has behind its first one. -/
def behindI (f : Int) : Int := if f = 253 then 2 else if f = 254 then 4 else if f = 255 then 8 else 0
theorem leadI_bd (n : Int) (h : 0 ≤ n) : 0 ≤ leadI n ∧ leadI n ≤ 255 := by unfold leadI; repeat (first | split | omega)
theorem behindI_bd (n : Int) : 0 ≤ behindI n ∧ behindI n ≤ 8 := by unfold behindI; repeat (first | split | omega)
/-- The number that bytes say, the highest first. -/
def num (bs : List UInt8) : Nat := bs.foldl (fun n x => n * 256 + x.toNat) 0
theorem num_snoc (bs : List UInt8) (x : UInt8) : num (bs ++ [x]) = num bs * 256 + x.toNat := by simp [num]
theorem num_lt (bs : List UInt8) : num bs < 256 ^ bs.length := by
  suffices ∀ (l : List UInt8), num l.reverse < 256 ^ l.length by simpa using this bs.reverse
  intro l
  induction l with
  | nil => simp [num]
  | cons x l ih =>
    rw [List.reverse_cons, num_snoc, List.length_cons, Nat.pow_succ]
    have := x.toNat_lt
    omega
/-- A byte, of a number. -/
def octet (n : Int) : UInt8 := UInt8.ofNat n.toNat
theorem octet_toNat (n : Int) (h0 : 0 ≤ n) (h1 : n ≤ 255) : ((octet n).toNat : Int) = n := by
  unfold octet
  rw [UInt8.toNat_ofNat']
  omega
/-- A number's Var. -/
def varB (n : Int) : List UInt8 := octet (leadI n) :: be n.toNat (behindI (leadI n)).toNat
theorem varB_length (n : Int) : (varB n).length ≤ 9 ∧ 1 ≤ (varB n).length := by
  have := behindI_bd (leadI n)
  simp only [varB, List.length_cons, be_length]
  omega
/-- What bytes begin with, read as a Var: the number, in how many bytes, what is amiss. -/
def fv (bs : List UInt8) : Int × Int × Int :=
  match bs with
  | [] => (0, 0, 10)
  | f :: r =>
    if behindI f.toNat = 0 then (f.toNat, 1, 0)
    else if (r.length : Int) < behindI f.toNat then (0, 0, 10)
    else if leadI (num (r.take (behindI f.toNat).toNat)) ≠ f.toNat then (0, 0, 11)
    else (num (r.take (behindI f.toNat).toNat), 1 + behindI f.toNat, 0)
theorem fv_bd (bs : List UInt8) : 0 ≤ (fv bs).1 ∧ (fv bs).1 < 18446744073709551616 ∧ 0 ≤ (fv bs).2.1 ∧ (fv bs).2.1 ≤ 9 ∧ (fv bs).2.1 ≤ bs.length := by
  cases bs with
  | nil => simp [fv]
  | cons f r =>
    have hf := f.toNat_lt
    have hb := behindI_bd f.toNat
    simp only [fv]
    have h64 : ∀ k : Nat, k ≤ 8 → num (r.take k) < 18446744073709551616 := fun k hk => by
      have h1 := num_lt (r.take k)
      have h2 : (r.take k).length ≤ 8 := by simp; omega
      have h3 : 256 ^ (r.take k).length ≤ 256 ^ 8 := Nat.pow_le_pow_right (by omega) h2
      omega
    have h64' := h64 (behindI f.toNat).toNat (by omega)
    generalize num (r.take (behindI f.toNat).toNat) = m at *
    simp only [List.length_cons]
    split
    · simp; omega
    · split
      · simp; omega
      · split
        · simp; omega
        · simp; omega
/-- A reader that takes n bytes: what it gives, what is left, what was amiss. -/
def takeS (n : Nat) (bs : List UInt8) (e : Int) : List UInt8 × List UInt8 × Int :=
  if e ≠ 0 then ([], bs, e) else if bs.length < n then ([], bs, 10) else (bs.take n, bs.drop n, 0)
/-- A reader that reads a Var. -/
def varS (most : Int) (bs : List UInt8) (e : Int) : Int × List UInt8 × Int :=
  if e ≠ 0 then (0, bs, e) else if (fv bs).2.2 ≠ 0 then (0, bs, (fv bs).2.2) else if most < (fv bs).1 then (0, bs, 12) else ((fv bs).1, bs.drop (fv bs).2.1.toNat, 0)
/-- .. raw bytes. -/
def rawS (n : Int) (bs : List UInt8) (e : Int) : List UInt8 × List UInt8 × Int :=
  if n < 0 then ([], bs, if e = 0 then 12 else e) else takeS n.toNat bs e
/-- .. a count. -/
def countS (most : Int) (bs : List UInt8) (e : Int) : Int × List UInt8 × Int :=
  if 0 ≤ most then varS most bs e else (0, bs, if (varS 18446744073709551615 bs e).2.2 = 0 then 12 else (varS 18446744073709551615 bs e).2.2)
/-- .. a text. -/
def textS (most : Int) (bs : List UInt8) (e : Int) : List UInt8 × List UInt8 × Int :=
  if (rawS (countS most bs e).1 (countS most bs e).2.1 (countS most bs e).2.2).2.2 ≠ 0 then ((rawS (countS most bs e).1 (countS most bs e).2.1 (countS most bs e).2.2).1, bs, (rawS (countS most bs e).1 (countS most bs e).2.1 (countS most bs e).2.2).2.2)
  else rawS (countS most bs e).1 (countS most bs e).2.1 (countS most bs e).2.2
/-- A text. -/
def textB (b : List UInt8) : List UInt8 := varB b.length ++ b
end Go.Hay
end

section
namespace Go.Hay
set_option linter.unusedVariables false

theorem be_snoc (n k : Nat) : be n (k + 1) = be (n / 256) k ++ [UInt8.ofNat (n % 256)] := by
  induction k with
  | zero => simp [be]
  | succ k ih =>
    rw [be, ih, be, List.cons_append]
    congr 2
    rw [Nat.div_div_eq_div_mul, Nat.pow_succ, Nat.mul_comm]
theorem be_num_rev (l : List UInt8) : be (num l.reverse) l.length = l.reverse := by
  induction l with
  | nil => simp [be]
  | cons x l ih =>
    have hx := x.toNat_lt
    rw [List.reverse_cons, num_snoc, List.length_cons, be_snoc, show (num l.reverse * 256 + x.toNat) / 256 = num l.reverse by omega, ih, show (num l.reverse * 256 + x.toNat) % 256 = x.toNat by omega, UInt8.ofNat_toNat]
theorem be_num (xs : List UInt8) : be (num xs) xs.length = xs := by simpa using be_num_rev xs.reverse
theorem num_be (n k : Nat) : num (be n k) = n % 256 ^ k := by
  induction k generalizing n with
  | zero => simp [be, num, Nat.mod_one]
  | succ k ih =>
    rw [be_snoc, num_snoc, ih, UInt8.toNat_ofNat', show 256 ^ (k + 1) = 256 * 256 ^ k by rw [Nat.pow_succ, Nat.mul_comm], Nat.mod_mul]
    omega
theorem octet_nat (x : UInt8) : octet x.toNat = x := by simp [octet]

/-- What is read as a number is written as the same bytes. -/
theorem fv_back (bs : List UInt8) (h : (fv bs).2.2 = 0) : varB (fv bs).1 = bs.take (fv bs).2.1.toNat ∧ 1 ≤ (fv bs).2.1 := by
  cases bs with
  | nil => simp [fv] at h
  | cons f r =>
    have hf := f.toNat_lt
    have hb := behindI_bd f.toNat
    simp only [fv] at h ⊢
    split
    · rename_i h0
      have hl : leadI f.toNat = f.toNat := by
        unfold behindI at h0
        unfold leadI
        repeat (first | split at h0 | (split <;> omega) | omega)
      simp only [varB, hl, h0, octet_nat]
      simp [be]
    · rename_i h0
      rw [if_neg h0] at h
      by_cases h1 : (r.length : Int) < behindI f.toNat
      · rw [if_pos h1] at h; simp at h
      rw [if_neg h1] at h ⊢
      by_cases h2 : leadI (num (r.take (behindI f.toNat).toNat)) ≠ f.toNat
      · rw [if_pos h2] at h; simp at h
      rw [if_neg h2]
      have h3 : leadI (num (r.take (behindI f.toNat).toNat)) = f.toNat := Decidable.not_not.1 h2
      obtain ⟨k, hk⟩ : ∃ k : Nat, behindI f.toNat = k := ⟨(behindI f.toNat).toNat, by omega⟩
      rw [hk, Int.toNat_natCast] at h3
      have hlen : (r.take k).length = k := by simp; omega
      refine ⟨?_, by show 1 ≤ 1 + behindI f.toNat; omega⟩
      show varB (num (r.take (behindI f.toNat).toNat)) = List.take (1 + behindI f.toNat).toNat (f :: r)
      rw [hk, Int.toNat_natCast]
      simp only [varB]
      rw [h3, hk, Int.toNat_natCast, Int.toNat_natCast, octet_nat]
      have e := be_num (r.take k)
      rw [hlen] at e
      rw [e, show (1 + (k : Int)).toNat = k + 1 by omega, List.take_succ_cons]

/-- Of a Var that was read: in words that the law uses. -/
theorem varS_cases (most : Int) (bs : List UInt8) {n : Int} {bs' : List UInt8} {e' : Int} (h0 : 0 ≤ most) (h : varS most bs 0 = (n, bs', e')) :
    0 ≤ n ∧ n < 18446744073709551616 ∧ bs'.length ≤ bs.length ∧ (e' ≠ 0 → n = 0 ∧ bs' = bs) ∧ (e' = 0 → n ≤ most ∧ varB n = bs.take (bs.length - bs'.length)) := by
  have hbd := fv_bd bs
  have hbk := fv_back bs
  unfold varS at h
  rw [if_neg (by simp)] at h
  split at h
  · rename_i h1
    cases h
    exact ⟨by omega, by omega, Nat.le_refl _, fun _ => ⟨rfl, rfl⟩, fun h => absurd h h1⟩
  · rename_i h1
    have h1' : (fv bs).2.2 = 0 := Decidable.not_not.1 h1
    have hbk := hbk h1'
    split at h
    · cases h
      exact ⟨by omega, by omega, Nat.le_refl _, fun _ => ⟨rfl, rfl⟩, fun h => by simp at h⟩
    · cases h
      refine ⟨by omega, by omega, by simp, fun h => absurd rfl h, fun _ => ⟨by omega, ?_⟩⟩
      rw [hbk.1]
      congr 1
      rw [List.length_drop]
      omega
end Go.Hay
end

section
namespace Go.Proofs.Ytebkkdoggagcdaa
open Go.ChangeShapes Go.WideShapes Go.ChangeAt Go.RowKit Go.Hay
set_option linter.unusedVariables false

theorem Try.own : ownKnob Try.prog.godebug = none := by kernel_rfl
theorem Try.laidOut : laidOutB Try.prog = true := by kernel_rfl

/-- How many values a slice's datum holds, its spare places too. -/
def capD {H : Type} : DataW H → Nat
  | .slice e sp => e.length + sp.length
  | _ => 0
theorem bulk_pos {H : Type} (d : DataW H) : 1 ≤ Rows.uptoBulk d := by
  cases d with
  | lit l => cases l <;> simp [Rows.uptoBulk]
  | _ => simp [Rows.uptoBulk]
theorem bulkAll_ge {H : Type} (l : List (DataW H)) : l.length ≤ Rows.uptoBulkAll l := by
  induction l with
  | nil => simp
  | cons d l ih => have := bulk_pos d; simp only [Rows.uptoBulkAll, List.length_cons]; omega
theorem bulk_cap {H : Type} (d : DataW H) : capD d + 1 ≤ Rows.uptoBulk d := by
  cases d with
  | slice e sp => have := bulkAll_ge e; have := bulkAll_ge sp; simp only [capD, Rows.uptoBulk]; omega
  | lit l => cases l <;> simp [capD, Rows.uptoBulk]
  | _ => simp [capD, Rows.uptoBulk]
theorem bulkAll_map {H : Type} (n : Nat) (D : Nat → DataW H) (f : Nat → Nat) (h : ∀ i, i < n → f i ≤ Rows.uptoBulk (D i)) : ((List.range n).map f).sum ≤ Rows.uptoBulkAll ((List.range n).map D) := by
  have gen : ∀ l : List Nat, (∀ i ∈ l, f i ≤ Rows.uptoBulk (D i)) → (l.map f).sum ≤ Rows.uptoBulkAll (l.map D) := by
    intro l
    induction l with
    | nil => intro _; simp
    | cons i l ih =>
      intro hl
      have h1 := hl i (by simp)
      have h2 := ih (fun j hj => hl j (by simp [hj]))
      simp only [List.map_cons, List.sum_cons, Rows.uptoBulkAll]
      omega
  exact gen _ (fun i hi => h i (List.mem_range.1 hi))
theorem mem_weightsAll {H : Type} {P : Program} {e : TypeId} {l : List (DataW H)} {d : DataW H} (hd : d ∈ l) {x : Nat} (hx : x ∈ d.weights P e) : x ∈ DataW.weightsAll P e l := by
  induction l with
  | nil => cases hd
  | cons y l ih =>
    rw [DataW.weightsAll, List.mem_append]
    rcases List.mem_cons.1 hd with rfl | h
    · exact .inl hx
    · exact .inr (ih h)
/-- Within the form's reach. -/
def Fit {H : Type} (t : TypeId) (d : DataW H) : Prop := (DataW.weights Try.prog t d).all (· ≤ reachBytes) = true

theorem openEls {α : Type} [Inhabited α] (E : El α) {t e : TypeId} (ht : Try.prog.underlying t = some (.slice e)) (hcells : Try.prog.cellsOf e = E.n) (B : Nat) (hB : Try.prog.bytesOf e = B)
    {H : Type} {enc : TypeId × Value → H} {W : World} (ok : α → Prop) (Q : α → Prop) (bk : α → Nat)
    (op : ∀ fuel cs x, DataW.trod enc Try.prog W 0 (fun _ => true) true fuel e cs = some x → cs.length = E.n → ∃ y : α, ok y ∧ cs = E.c y ∧ (Fit e x.1 → Q y) ∧ bk y ≤ Rows.uptoBulk x.1)
    {a : Option Addr} {len cap : Nat} {d : DataW H} {ps : List MemPlace} (h : DataW.Trod enc Try.prog W 0 (fun _ => true) true t (.slice a len cap) d ps) :
    ∃ l : List α, len = l.length ∧ E.See W a l ∧ (∀ y ∈ l, ok y) ∧ l.length ≤ cap ∧ cap ≤ maxLen ∧ (a = none → cap = 0) ∧ (Fit t d → cap * B ≤ 140737488351232 ∧ ∀ y ∈ l, Q y) ∧ (l.map bk).sum ≤ Rows.uptoBulk d ∧ cap + 1 ≤ Rows.uptoBulk d := by
  obtain ⟨fuel, hf⟩ := h
  rcases Go.Deep.open_slice ht hf with ⟨hcs, hx⟩ | ⟨x, len', cap', m, n, D, Pl, hcs, _, hl, hmx, hm, hx, hcell⟩
  · simp [Value.cells] at hcs
    obtain ⟨rfl, rfl, rfl⟩ := hcs
    cases hx
    exact ⟨[], rfl, .inl rfl, by simp, Nat.le_refl _, Nat.zero_le _, fun _ => rfl, fun _ => ⟨by omega, by simp⟩, by simp, by simp [Rows.uptoBulk]⟩
  · simp [Value.cells] at hcs
    obtain ⟨rfl, rfl, rfl⟩ := hcs
    cases hx
    have hm' : m = cap := by simpa using hm
    subst hm'
    rw [hcells] at hcell
    obtain ⟨Y, hY⟩ := Go.Deep.choose_lt (α := α) (n := len) (p := fun i y => ok y ∧ (∀ k u, (E.c y)[k]? = some u → W.cell? ((x.add (i * E.n)).add k) = some u) ∧ (Fit e (D i) → Q y) ∧ bk y ≤ Rows.uptoBulk (D i)) (fun i hi => by
      obtain ⟨cs', h1, h2⟩ := hcell i (by omega)
      obtain ⟨_, hlen, hc⟩ := World.cells?_some h1
      obtain ⟨y, g1, rfl, g2, g3⟩ := op _ _ _ h2 hlen
      refine ⟨y, g1, fun k u hu => ?_, g2, g3⟩
      have hk : k < E.n := by have := (List.getElem?_eq_some_iff.1 hu).1; rwa [E.len] at this
      exact (hc k hk).trans hu)
    refine ⟨(List.range len).map Y, by simp, ?_, ?_, by simpa using hl, hmx, fun h => (by cases h), fun hfit => ?_, ?_, ?_⟩
    · cases hlen : len with
      | zero => exact .inl rfl
      | succ k =>
        obtain ⟨b, off, spot⟩ := x
        have h0 : 0 < (E.c (Y 0)).length := by rw [E.len]; exact E.pos
        have hc0 := (hY 0 (by omega)).2.1 0 _ (List.getElem?_eq_getElem h0)
        have hspot : spot = none := by
          have := World.cell?_spot hc0
          simpa [Addr.add] using this
        subst hspot
        refine .inr ⟨b, off, rfl, fun j u hu => ?_⟩
        rw [← hlen] at hu
        have hj : j < ((List.range len).map Y).length * E.n := by have := (List.getElem?_eq_some_iff.1 hu).1; rwa [El.cs_length] at this
        have hpos := E.pos
        have hq : j / E.n < len := by
          rw [List.length_map, List.length_range] at hj
          exact Nat.div_lt_of_lt_mul (by rw [Nat.mul_comm]; exact hj)
        have hr : j % E.n < E.n := Nat.mod_lt _ hpos
        have hje : j = j / E.n * E.n + j % E.n := by rw [Nat.mul_comm]; exact (Nat.div_add_mod j E.n).symm
        have hget : ((List.range len).map Y)[j / E.n]? = some (Y (j / E.n)) := by rw [List.getElem?_map, List.getElem?_range hq]; rfl
        rw [hje, El.cs_get E hget hr] at hu
        have hcc := (hY _ hq).2.1 _ _ hu
        rw [Addr.add_lit, Addr.add_lit, Nat.add_assoc, ← hje] at hcc
        exact hcc
    · intro y hy
      obtain ⟨i, hi, rfl⟩ := List.mem_map.1 hy
      exact (hY i (List.mem_range.1 hi)).1
    · unfold Fit at hfit
      simp only [DataW.weights, ht] at hfit
      rw [List.all_cons, Bool.and_eq_true] at hfit
      refine ⟨?_, fun y hy => ?_⟩
      · have := of_decide_eq_true hfit.1
        simp only [List.length_map, List.length_range, hB, reachBytes] at this
        rwa [show len + (m - len) = m by omega] at this
      · obtain ⟨i, hi, rfl⟩ := List.mem_map.1 hy
        refine (hY i (List.mem_range.1 hi)).2.2.1 (List.all_eq_true.2 fun x hx => List.all_eq_true.1 hfit.2 x ?_)
        rw [List.mem_append]
        exact .inl (mem_weightsAll (List.mem_map_of_mem hi) hx)
    · have := bulkAll_map len D (fun i => bk (Y i)) (fun i hi => (hY i hi).2.2.2)
      simp only [List.map_map, Rows.uptoBulk]
      have e : (List.range len).map (bk ∘ Y) = (List.range len).map (fun i => bk (Y i)) := rfl
      rw [e]
      omega
    · have := bulk_cap (.slice ((List.range len).map D) ((List.range (m - len)).map fun j => D (len + j)) : DataW H)
      simp only [capD, List.length_map, List.length_range] at this
      omega

/-- A byte. -/
def ByteE : El UInt8 where
  n := 1
  c x := [.int .u8 x.toNat]
  len _ := rfl
  one _ u hu := by simp at hu; subst hu; rfl
  pos := by decide
theorem byteCs (l : List UInt8) : ByteE.cs l = bcells l := by
  induction l with
  | nil => rfl
  | cons x l ih => rw [El.cs_cons, ih]; rfl
theorem byteSee {w : World} {a : Option Addr} {l : List UInt8} (h : ByteE.See w a l) : Sees w a l := by
  rcases h with h | ⟨g, o, rfl, hc⟩
  · exact .inl h
  · refine .inr ⟨g, o, rfl, fun j u hu => hc j _ ?_⟩
    rw [byteCs, bcells_get, hu]
    rfl
/-- A slice of bytes, and what it sees. -/
structure Bs where
  a : Option Addr
  c : Nat
  bs : List UInt8
def Bs.v (x : Bs) : Value := .slice x.a x.bs.length x.c
structure Bs.ok (w : World) (x : Bs) : Prop where
  see : Sees w x.a x.bs
  cap : x.bs.length ≤ x.c
  nil : x.a = none → x.c = 0
theorem Bs.ok.kept {w w' : World} {x : Bs} {S : List Nat} (h : x.ok w) (hk : Kp S w w') (hn : x.bs ≠ [] → ∀ k ∈ blk x.a, k ∉ S) : x.ok w' := ⟨h.see.kept' hk hn, h.cap, h.nil⟩
theorem Bs.ok.keptNew {w w' : World} {x : Bs} (h : x.ok w) (hk : Kp [] w w') : x.ok w' := h.kept hk (by simp)
instance : Inhabited Bs := ⟨⟨none, 0, []⟩⟩
theorem cellsB : Try.prog.cellsOf 5 = 1 := by kernel_rfl
theorem bytesB : Try.prog.bytesOf 5 = 1 := by kernel_rfl
theorem cellsI : Try.prog.cellsOf 3 = 1 := by kernel_rfl
def Few (x : Bs) : Prop := x.bs.length ≤ 140737488351232
section
variable {H : Type} {enc : TypeId × Value → H} {W : World}
/-- A number among the arguments' cells. -/
theorem openI {fuel : Nat} {v : Value} {x : DataW H × List MemPlace} (h : DataW.trod enc Try.prog W 0 (fun _ => true) true fuel 3 [v] = some x) : ∃ n : Int, v = .int .i64 n ∧ -9223372036854775808 ≤ n ∧ n ≤ 9223372036854775807 := by
  obtain ⟨n, e, _, hw⟩ := DataW.trod_int Try.underlying3 h
  have hb := bounds_i64 hw
  exact ⟨n, by simpa using e, hb.1, hb.2⟩
end
end Go.Proofs.Ytebkkdoggagcdaa
end

section
namespace Go.Proofs.Ytebkkdoggagcdaa
open Go.RowKit Go.Hay
attribute [local go_sem] Oper.semAt_some
set_option linter.unusedVariables false
set_option linter.unusedSimpArgs false

/-- The numbers of a version are of their kinds. -/
structure VnR (x : Vn) : Prop where
  e : 0 ≤ x.ep ∧ x.ep < 18446744073709551616
  n : 0 ≤ x.num ∧ x.num < 4294967296
  d : 0 ≤ x.del ∧ x.del < 18446744073709551616
theorem rowIdK : (31 : TypeId) < Try.prog.types.size := of_decide_eq_true (by kernel_rfl)
theorem wideIdK : (match Try.prog.underlying 31 with | some (.array _ _) | some (.struct _) => true | _ => false) = true := by rw [Try.underlying31]
set_option maxRecDepth 100000 in
theorem lawIdK : Maps.Keyed Try.prog 31 := Maps.Keyed.of_law (deep_law_laid Try.laidOut (m := 2) (by omega) rowIdK (by kernel_rfl) wideIdK)
theorem zeroU (w : World) : (zeroValue 23).run Try.prog w = .ok (.int .u64 0) w := by kernel_rfl
theorem keyIdK (e n : Int) (he : 0 ≤ e ∧ e < 18446744073709551616) (hn : 0 ≤ n ∧ n < 4294967296) : ∃ kl, keyOf Try.prog 31 (.agg #[.int .u64 e, .int .u32 n]) = some kl := by
  have h1 : (Lit.int .u64 e).wf = true := by simp [Lit.wf, IntKind.min, IntKind.max, IntKind.bits, IntKind.signed]; omega
  have h2 : (Lit.int .u32 n).wf = true := by simp [Lit.wf, IntKind.min, IntKind.max, IntKind.bits, IntKind.signed]; omega
  have hsz : ∀ s : Nat, 0 < s → ∃ m, s = m + 1 := fun s h => ⟨s - 1, by omega⟩
  obtain ⟨m, hm⟩ := hsz Try.prog.types.size (Nat.lt_of_le_of_lt (Nat.zero_le _) rowIdK)
  have hk : Try.prog.keyType 31 = true := by kernel_rfl
  have hc : Try.prog.cellsOf 31 = 2 := by kernel_rfl
  have hc1 : Try.prog.cellsOf 23 = 1 := by kernel_rfl
  have hc2 : Try.prog.cellsOf 29 = 1 := by kernel_rfl
  have hf : (Value.agg #[.int .u64 e, .int .u32 n]).formed Try.prog 31 = true := by simp [Value.formed, Try.underlying31, hc]
  unfold keyOf
  rw [Try.underlying31]
  simp only [hk, hf, Bool.and_self, if_true, hm]
  simp [Program.keyLits, Try.underlying31, Try.underlying23, Try.underlying29, hc, hc1, hc2, Value.cells, h1, h2]
abbrev OwnU (w : World) (q n : Nat) (D : DataW Unit) : Prop := w.ownsMap Try.prog 31 (plainElem Try.prog 23) q n D
theorem ownKeptU {X Y : World} {S : List Nat} {q n : Nat} {D : DataW Unit} (h : OwnU X q n D) (k : Kp S X Y) (hq : q ∉ S) : OwnU Y q n D := by
  obtain ⟨es, cl, hb, r⟩ := h
  exact ⟨es, cl, (k.block q (Array.getElem?_eq_some_iff.1 hb).1 hq).trans hb, r⟩
theorem kpGrownU {X Y : World} {b : Nat} (h : X.grownBy Y (some b)) : Kp [b] X Y := ⟨h.os, h.tape, h.output, h.size, fun k hk hn => h.block k hk (fun e => hn (by simpa using e))⟩
/-- The map tells of each name when it was deleted. -/
def MapD (D : DataW Unit) (L : List Vn) : Prop := ∀ (e n : Int) (kl : Lit), keyOf Try.prog 31 (.agg #[.int .u64 e, .int .u32 n]) = some kl → D.atKey kl (.lit (.int .u64 0)) = .lit (.int .u64 (delOf L (e, n)))
theorem MapD.nil : MapD (.map []) [] := fun e n kl _ => rfl
theorem MapD.put {D : DataW Unit} {L : List Vn} (h : MapD D L) (hD : Maps.IsMap D) {x : Vn} {kl : Lit} (hk : keyOf Try.prog 31 (.agg #[.int .u64 x.ep, .int .u32 x.num]) = some kl) (hn : lk L x.id = none) : MapD (D.put kl (.lit (.int .u64 x.del))) (L ++ [x]) := fun e n kl' hk' => by
  by_cases he : x.id = (e, n)
  · have e1 : x.ep = e := congrArg Prod.fst he
    have e2 : x.num = n := congrArg Prod.snd he
    have hd : delOf (L ++ [x]) (e, n) = x.del := by
      unfold delOf
      rw [lk_append, ← he, hn, lk_cons, if_pos rfl]
      rfl
    rw [hd]
    subst e1 e2
    rw [hk] at hk'
    cases hk'
    exact Maps.atKey_put_same hD (lawIdK.key hk) _ _
  · have hne : kl' ≠ kl := fun e' => he (by
      rw [e'] at hk'
      have := lawIdK.inj hk hk'
      simp at this
      show (x.ep, x.num) = (e, n)
      rw [this.1, this.2])
    have hd : delOf (L ++ [x]) (e, n) = delOf L (e, n) := by
      unfold delOf
      rw [lk_append, lk_cons, if_neg he, lk_nil, Option.or_none]
    rw [hd, Maps.atKey_put_other hne]
    exact h e n kl' hk'
/-- One cell of a version stored. -/
theorem row_cell {W : World} {g o c : Nat} {l : List Vn} {k : Nat} {x : Vn} (h : VnE.Row W (.slice (some ⟨g, o, none⟩) l.length c) l) (hx : l[k]? = some x) (x' : Vn) (r : Nat) (hr : r < 4) (v : Value) (hv : (VnE.c x')[r]? = some v) (hsame : ∀ s, s < 4 → s ≠ r → (VnE.c x')[s]? = (VnE.c x)[s]?) :
    VnE.Row (W.setCell ⟨g, o + k * 4 + r, none⟩ v) (.slice (some ⟨g, o, none⟩) l.length c) (l.set k x') := by
  have e4 : VnE.n = 4 := rfl
  have hk := (List.getElem?_eq_some_iff.1 hx).1
  rcases h with ⟨e, _⟩ | ⟨g', o', cap, e, hl, hm, hg, hc, ht⟩
  · cases e
  · simp only [Value.slice.injEq, Option.some.injEq, Addr.mk.injEq] at e
    obtain ⟨⟨rfl, rfl, _⟩, _, rfl⟩ := e
    refine .inr ⟨g, o, c, by rw [List.length_set], by rw [List.length_set]; exact hl, hm, by rw [World.size_setCell]; exact hg, fun j u hu => ?_, fun j hj => ⟨?_, by rw [World.frozen?_setCell]; exact (ht j hj).2⟩⟩
    · have hj : j < l.length * 4 := by
        have := (List.getElem?_eq_some_iff.1 hu).1
        rwa [El.cs_length, List.length_set, e4] at this
      have hq : j / 4 < l.length := by omega
      have hm4 : j % 4 < 4 := Nat.mod_lt _ (by decide)
      have hjj : j / 4 * 4 + j % 4 = j := by omega
      by_cases ek : j / 4 = k
      · have hx2 : (l.set k x')[j / 4]? = some x' := by rw [ek, List.getElem?_set_self hk]
        have hgt := El.cs_get VnE hx2 (k := j % 4) hm4
        rw [e4, hjj, hu] at hgt
        by_cases er : j % 4 = r
        · rw [er, hv] at hgt
          cases hgt
          have ea : o + j = o + k * 4 + r := by omega
          rw [ea]
          obtain ⟨u0, hu0⟩ := Option.isSome_iff_exists.1 (ht (k * 4 + r) (by rw [e4]; omega)).1
          rw [← Nat.add_assoc] at hu0
          exact World.cell?_setCell_same _ _ _ hu0
        · rw [hsame _ hm4 er] at hgt
          have hx3 : l[j / 4]? = some x := by rw [ek]; exact hx
          have hgt2 := El.cs_get VnE hx3 (k := j % 4) hm4
          rw [e4, hjj, ← hgt] at hgt2
          rw [World.cell?_setCell_other _ _ _ _ (by intro h; simp only [Addr.mk.injEq] at h; omega)]
          exact hc j u hgt2
      · have hx3 : l[j / 4]? = some l[j / 4] := by simp [hq]
        have hx2 : (l.set k x')[j / 4]? = some l[j / 4] := by rw [List.getElem?_set_ne (fun h => ek h.symm)]; exact hx3
        have hgt := El.cs_get VnE hx2 (k := j % 4) hm4
        have hgt2 := El.cs_get VnE hx3 (k := j % 4) hm4
        rw [e4, hjj] at hgt hgt2
        rw [World.cell?_setCell_other _ _ _ _ (by intro h; simp only [Addr.mk.injEq] at h; omega)]
        exact hc j u (hgt2.trans (hgt.symm.trans hu))
    · by_cases ea : o + j = o + k * 4 + r
      · rw [ea]
        obtain ⟨u0, hu0⟩ := Option.isSome_iff_exists.1 (ht (k * 4 + r) (by rw [e4]; omega)).1
        rw [← Nat.add_assoc] at hu0
        rw [World.cell?_setCell_same _ _ _ hu0]
        rfl
      · rw [World.cell?_setCell_other _ _ _ _ (by intro h; simp only [Addr.mk.injEq] at h; omega)]
        exact (ht j hj).1
theorem mrg_take (m : List Vn) {L : List Vn} {k : Nat} (h : k < L.length) : (L.take (k + 1)).map (mrgG m) = (L.take k).map (mrgG m) ++ [mrgG m L[k]] := by
  rw [List.take_succ_eq_append_getElem h, List.map_append]
  rfl
/-- How the second loop stands: the first k are done. -/
structure MgI (N : Nat) (g o c : Nat) (L m : List Vn) (k : Nat) (dn : List Vn) (W : World) : Prop where
  len : dn.length = k
  like : Like dn ((L.take k).map (mrgG m))
  row : VnE.Row W (.slice (some ⟨g, o, none⟩) (dn ++ L.drop k).length c) (dn ++ L.drop k)
  rows : ∀ x ∈ dn, VE.Row W (.slice x.a x.row.length x.c) x.row ∧ x.row.length * 40 ≤ 140737488355328 ∧ ∀ j ∈ blk x.a, N ≤ j ∧ j ≠ g
theorem MgI.tot {N g o c : Nat} {L m : List Vn} {k : Nat} {dn : List Vn} {W : World} (h : MgI N g o c L m k dn W) (hk : k ≤ L.length) : (dn ++ L.drop k).length = L.length := by rw [List.length_append, h.len, List.length_drop]; omega
theorem MgI.kp {N g o c : Nat} {L m : List Vn} {k : Nat} {dn : List Vn} {W W' : World} (h : MgI N g o c L m k dn W) (q : Kp [] W W') : MgI N g o c L m k dn W' :=
  ⟨h.len, h.like, h.row.keptNew q, fun x hx => ⟨(h.rows x hx).1.keptNew q, (h.rows x hx).2⟩⟩
theorem MgI.at {N g o c : Nat} {L m : List Vn} {k : Nat} {dn : List Vn} {W : World} (h : MgI N g o c L m k dn W) (hk : k < L.length) : (dn ++ L.drop k)[k]? = some L[k] := by
  rw [List.getElem?_append_right (by rw [h.len]; exact Nat.le_refl _), h.len, List.getElem?_drop, Nat.sub_self, Nat.add_zero]
  simp [hk]
theorem set_at {L dn : List Vn} {k : Nat} (hd : dn.length = k) (hk : k < L.length) (x' : Vn) : (dn ++ L.drop k).set k x' = (dn ++ [x']) ++ L.drop (k + 1) := by
  rw [List.set_append_right _ _ (by omega), hd, Nat.sub_self, List.drop_eq_getElem_cons hk, List.set_cons_zero, List.append_assoc]
  rfl
/-- A round: the row is told anew, then when it was deleted. -/
theorem MgI.step {N g o c : Nat} {L m : List Vn} {k : Nat} {dn : List Vn} {W : World} (h : MgI N g o c L m k dn W) (hk : k < L.length) (x : Vn) (hx : L[k] = x) (a9 : Option Addr) (c9 : Nat) (hr : VE.Row W (.slice a9 x.row.length c9) x.row) (hf : x.row.length * 40 ≤ 140737488355328) (hb : ∀ j ∈ blk a9, N ≤ j ∧ j ≠ g) :
    (x.del ≠ 0 → MgI N g o c L m (k + 1) (dn ++ [⟨x.ep, x.num, a9, c9, x.row, x.del⟩]) (W.setCell ⟨g, o + k * 4 + 2, none⟩ (.slice a9 x.row.length c9))) ∧
    (x.del = 0 → ∀ D : Int, delOf m x.id = D → MgI N g o c L m (k + 1) (dn ++ [⟨x.ep, x.num, a9, c9, x.row, D⟩]) ((W.setCell ⟨g, o + k * 4 + 2, none⟩ (.slice a9 x.row.length c9)).setCell ⟨g, o + k * 4 + 3, none⟩ (.int .u64 D))) := by
  have hat := h.at hk
  rw [hx] at hat
  have r1 := row_cell h.row hat ⟨x.ep, x.num, a9, c9, x.row, x.del⟩ 2 (by omega) (.slice a9 x.row.length c9) rfl (fun s hs hn => by
    match s, hs, hn with
    | 0, _, _ | 1, _, _ | 3, _, _ => rfl
    | 2, _, hn => exact absurd rfl hn)
  have ks : Kp [g] W (W.setCell ⟨g, o + k * 4 + 2, none⟩ (.slice a9 x.row.length c9)) := (Kp.refl _ _).setCell (by simp) _
  have hsn := mrg_take m hk
  rw [hx] at hsn
  have ht : ∀ d : Int, (dn ++ [(⟨x.ep, x.num, a9, c9, x.row, d⟩ : Vn)] ++ L.drop (k + 1)).length = (dn ++ L.drop k).length := fun d => by simp; omega
  refine ⟨fun hd => ⟨by simp [h.len], ?_, ?_, fun y hy => ?_⟩, fun hd D hD => ?_⟩
  · rw [hsn]
    exact h.like.append (Like.mk (by unfold mrgG; rw [if_neg hd]; rfl) rfl)
  · rw [set_at h.len hk] at r1
    rw [ht]; exact r1
  · rcases List.mem_append.1 hy with hy | hy
    · exact ⟨(h.rows y hy).1.kept ks (fun j hj => by rw [own_slice] at hj; have := ((h.rows y hy).2.2 j hj).2; simpa using this), (h.rows y hy).2⟩
    · rw [List.mem_singleton.1 hy]
      exact ⟨hr.kept ks (fun j hj => by rw [own_slice] at hj; have := (hb j hj).2; simpa using this), hf, hb⟩
  · have hat2 : ((dn ++ L.drop k).set k ⟨x.ep, x.num, a9, c9, x.row, x.del⟩)[k]? = some ⟨x.ep, x.num, a9, c9, x.row, x.del⟩ := List.getElem?_set_self (List.getElem?_eq_some_iff.1 hat).1
    have r1' : VnE.Row (W.setCell ⟨g, o + k * 4 + 2, none⟩ (.slice a9 x.row.length c9)) (.slice (some ⟨g, o, none⟩) ((dn ++ L.drop k).set k ⟨x.ep, x.num, a9, c9, x.row, x.del⟩).length c) ((dn ++ L.drop k).set k ⟨x.ep, x.num, a9, c9, x.row, x.del⟩) := by rw [List.length_set]; exact r1
    have r2 := row_cell r1' hat2 ⟨x.ep, x.num, a9, c9, x.row, D⟩ 3 (by omega) (.int .u64 D) rfl (fun s hs hn => by
      match s, hs, hn with
      | 0, _, _ | 1, _, _ | 2, _, _ => rfl
      | 3, _, hn => exact absurd rfl hn)
    have ks2 : Kp [g] W ((W.setCell ⟨g, o + k * 4 + 2, none⟩ (.slice a9 x.row.length c9)).setCell ⟨g, o + k * 4 + 3, none⟩ (.int .u64 D)) := ks.setCell (by simp) _
    refine ⟨by simp [h.len], ?_, ?_, fun y hy => ?_⟩
    · rw [hsn]
      exact h.like.append (Like.mk (by unfold mrgG; rw [if_pos hd, hD]; rfl) rfl)
    · rw [List.length_set, List.set_set, set_at h.len hk] at r2
      rw [ht]; exact r2
    · rcases List.mem_append.1 hy with hy | hy
      · exact ⟨(h.rows y hy).1.kept ks2 (fun j hj => by rw [own_slice] at hj; have := ((h.rows y hy).2.2 j hj).2; simpa using this), (h.rows y hy).2⟩
      · rw [List.mem_singleton.1 hy]
        exact ⟨hr.kept ks2 (fun j hj => by rw [own_slice] at hj; have := (hb j hj).2; simpa using this), hf, hb⟩
theorem take_lk {A : List Vn} (hs : Srt A) {j : Nat} (h : j < A.length) : lk (A.take j) A[j].id = none := lk_none.2 fun z hz e => by
  obtain ⟨i, hi, rfl⟩ := List.mem_take_iff_getElem.1 hz
  have := List.pairwise_iff_getElem.1 hs i j (by omega) h (by omega)
  rw [e, ltI_irrefl] at this
  cases this
end Go.Proofs.Ytebkkdoggagcdaa
end

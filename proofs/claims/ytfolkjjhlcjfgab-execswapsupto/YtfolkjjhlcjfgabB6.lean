/- exec.pick; value.Int. -/
import Derived.Test.YtfolkjjhlcjfgabB5
section
namespace Go.Proofs.Ytfolkjjhlcjfgab
open Go.RowKit Go.Hay
attribute [local go_sem] Oper.semAt_some
set_option linter.unusedVariables false
set_option linter.unusedSimpArgs false

set_option maxHeartbeats 4000000 in
set_option maxRecDepth 100000 in
theorem cIntE (n : Int) (w : World) : Calls Try.prog 49 #[.int .i64 n] w fun e w' => e = .returned (.agg #[.int .i64 2, .bool false, .int .i64 n, .string ⟨#[]⟩]) ∧ Kp [] w w' := by
  obtain ⟨q, W1, W2, eq, e1, b1, e2, b2, k2, z2⟩ := boxV4Y w ⟨2, false, n, ⟨#[]⟩⟩
  have m0 := b1.get 0 _ rfl; have m1 := b1.get 1 _ rfl; have m2 := b1.get 2 _ rfl; have m3 := b1.get 3 _ rfl
  have f0 := b1.free 0; have f1 := b1.free 1; have f2 := b1.free 2; have f3 := b1.free 3
  have v0 := b2.get 0 _ rfl; have v1 := b2.get 1 _ rfl; have v2 := b2.get 2 _ rfl; have v3 := b2.get 3 _ rfl
  dsimp only at e2 v0 v1 v2 v3
  clear b1 b2
  go_enter Try.func49, Try.ntmps49
  go_wp2_with fail
  exact bodyPost_ret (v := .agg #[.int .i64 2, .bool false, .int .i64 n, .string ⟨#[]⟩]) (by simp [results, Try.results49, go_sem, v0, v1, v2, v3]) rfl ⟨rfl, k2⟩
/-- A row's values at some places. -/
def pickV (l : List Val) (ps : List Int) : List Val := ps.map fun p => vAt l p
theorem pickV_take {l : List Val} {ps : List Int} {j : Nat} (h : j < ps.length) : pickV l (ps.take (j + 1)) = pickV l (ps.take j) ++ [vAt l ps[j]] := by
  unfold pickV
  rw [List.take_succ_eq_append_getElem h, List.map_append]
  rfl
/-- One more value, behind a row of the call's own. -/
theorem appV1 {W : World} {a : Option Addr} {c : Nat} {l : List Val} (h : VE.Row W (.slice a l.length c) l) (v : Val) (hl : l.length ≤ 3000000000000) :
    ∃ a' c' W', (Builtin.append_ #[30, 30] 30 #[.slice a l.length c, .slice (some ⟨W.heap.size, 0, none⟩) 1 1]).run Try.prog (W.alloc (.cells #[.int .i64 v.k, .bool v.b, .int .i64 v.n, .string v.t] 33)) = .ok (.slice a' (l ++ [v]).length c') W' ∧ VE.Row W' (.slice a' (l ++ [v]).length c') (l ++ [v]) ∧ Kp (blk a) W W' ∧ ∀ k ∈ blk a', k ∈ blk a ∨ W.heap.size ≤ k := by
  obtain ⟨A1, hA1⟩ : ∃ A1, W.alloc (.cells #[.int .i64 v.k, .bool v.b, .int .i64 v.n, .string v.t] 33) = A1 := ⟨_, rfl⟩
  have kA1 : Kp [] W A1 := by rw [← hA1]; exact (Kp.refl _ _).alloc _
  have bx1 : Bn A1 W.heap.size (VE.c v) := by rw [← hA1]; exact Bn.new W (VE.c v) _
  have hs1 : VE.See A1 (some ⟨W.heap.size, 0, none⟩) [v] := .inr ⟨W.heap.size, 0, rfl, fun j u hu => by rw [Nat.zero_add]; exact bx1.get j u (by simpa [El.cs] using hu)⟩
  obtain ⟨a', c', W', hrun, hrow, k, hn⟩ := appVY (h.keptNew kA1) (some ⟨W.heap.size, 0, none⟩) 1 [v] (seeV.1 hs1) (by simp; omega)
  rw [hA1]
  have z1 := kA1.size
  exact ⟨a', c', W', hrun, hrow, (kA1.mono (by simp)).trans k (fun j hj => .inl hj), fun k hk => by
    rcases hn k hk with e | e
    · exact .inl e
    · exact .inr (by omega)⟩
/-- Room for so many values, and none in it. -/
theorem makeV0 (w : World) (n : Nat) (hn : n ≤ 3000000000000) : ∃ W, (Instr.makeSlice 30 (.int .i64 0) (.int .i64 (n : Int))).run Try.prog w = .ok (.slice (some ⟨w.heap.size, 0, none⟩) 0 n) W ∧ VE.Row W (.slice (some ⟨w.heap.size, 0, none⟩) 0 n) [] ∧ Kp [] w W := by
  obtain ⟨i0, hi, hz0, hz1, hz2⟩ := infoVal
  have hr := run_make (P := Try.prog) w 30 33 i0 _ Try.underlying30 hi hz0 .i64 .i64 0 n (by omega) (by omega) (by rw [hz2]; omega) (by omega)
  rw [Int.toNat_natCast, hz1] at hr
  refine ⟨_, hr, .inr ⟨w.heap.size, 0, n, rfl, Nat.zero_le _, by unfold maxLen; omega, by simp, fun j u hu => by simp [El.cs] at hu, fun j hj => ⟨?_, World.frozen?_alloc_new w _ _ (0 + j)⟩⟩, (Kp.refl _ _).alloc _⟩
  have e1 := World.cell?_alloc_new w (madeCells (Value.agg #[.int .i64 0, .bool false, .int .i64 0, .string ⟨#[]⟩]).cells (n * 4)) 33 (0 + j)
  refine (congrArg Option.isSome e1).trans ?_
  have e5 : VE.n = 4 := rfl
  rw [e5] at hj
  unfold madeCells
  rw [Nat.zero_add, Array.getElem?_map, Array.getElem?_range, if_pos hj]
  rfl
set_option maxHeartbeats 8000000 in
set_option maxRecDepth 100000 in
theorem cPick (a : Option Addr) (c : Nat) (l : List Val) (pa : Option Addr) (pc : Nat) (ps : List Int) (w : World) (ha : Vals w a l) (hl : l.length ≤ 9223372036854775807) (hp : IntE.See w pa ps) (hpl : ps.length ≤ 3000000000000) :
    Calls Try.prog 38 #[.slice a l.length c, .slice pa ps.length pc] w (NewR (pickV l ps) w) := by
  have HA := hid ha
  have HP := hid hp
  obtain ⟨W, hmk, hr0, k0⟩ := makeV0 w ps.length hpl
  have H0 : Hid (VE.Row W (.slice (some ⟨w.heap.size, 0, none⟩) 0 ps.length) [] ∧ Kp [] w W ∧ ∀ k ∈ blk (some (⟨w.heap.size, 0, none⟩ : Addr)), w.heap.size ≤ k) := ⟨hr0, k0, fun k hk => by simp [blk] at hk; omega⟩
  clear ha hp hr0 k0
  go_enter Try.func38, Try.ntmps38
  go_wp2_with fail
  go_loopw [5, 13] (fun v5 i wr => ∃ (j : Nat) (ra : Option Addr) (rc : Nat) (m : List Val), j ≤ ps.length ∧ i = .int .i64 (j : Int) ∧ v5 = .slice ra m.length rc ∧ Hid (m = pickV l (ps.take j)) ∧ Hid (VE.Row wr (.slice ra m.length rc) m ∧ Kp [] w wr ∧ ∀ k ∈ blk ra, w.heap.size ≤ k)) (fun _ i _ => ps.length - (intOf i).toNat)
  case atStart => exact ⟨0, _, _, [], Nat.zero_le _, rfl, rfl, rfl, H0⟩
  case round =>
    obtain ⟨j, ra, rc, m, hj, rfl, rfl, hm, H⟩ := hrel
    clear H0
    by_cases hlt : j < ps.length
    · obtain ⟨g, o, ea, c0⟩ := intAt HP.out j hlt
      have cg := kpAt H.out.2.1 c0
      have hpt := hid (pickV_take (l := l) hlt)
      obtain ⟨p, hp⟩ : ∃ p, Hid (ps[j] = p) := ⟨ps[j], rfl⟩
      rw [hp.out] at cg hpt
      have cA := hid (cAtE a c l p wr (HA.out.kept H.out.2.1) hl)
      obtain ⟨⟨vk, vb, vn, vt⟩, hv⟩ : ∃ v, Hid (vAt l p = v) := ⟨vAt l p, rfl⟩
      rw [hv.out] at cA hpt
      dsimp only at cA
      have hml : m.length ≤ 3000000000000 := by rw [hm.out]; unfold pickV; simp; omega
      have i1 : (0 : Int) ≤ (j : Int) := by omega
      have i2 : (j : Int) < (ps.length : Int) := by omega
      have i3 : (j : Int) + 1 ≤ 9223372036854775807 := by omega
      subst ea
      clear c0
      go_wp2_with fail
      refine cA.out.mono ?_
      rintro e wd ⟨rfl, kd⟩
      obtain ⟨a4, c4, W4, hrun, hr4, k4, hn4⟩ := appV1 (H.out.1.keptNew kd) ⟨vk, vb, vn, vt⟩ hml
      obtain ⟨m4, hm4⟩ : ∃ m4, Hid (m ++ [(⟨vk, vb, vn, vt⟩ : Val)] = m4) := ⟨_, rfl⟩
      rw [hm4.out] at hrun hr4
      dsimp only at hrun
      have kwd := H.out.2.1.trans kd (by simp)
      have HF : Hid (VE.Row W4 (.slice a4 m4.length c4) m4 ∧ Kp [] w W4 ∧ ∀ k ∈ blk a4, w.heap.size ≤ k) := ⟨hr4, kwd.trans k4 (fun x hx => .inr (H.out.2.2 x hx)), fun k hk => by
        rcases hn4 k hk with e | e
        · exact H.out.2.2 k e
        · have := kwd.size; omega⟩
      have hm5 : Hid (m4 = pickV l (ps.take (j + 1))) := by show _ = _; rw [hpt.out, ← hm.out, hm4.out]
      clear cA kd hr4 k4 hn4 kwd
      go_wp2_with (first | (refine wpAppRunY rfl _ _ 30 30 rfl _ _ _ rfl rfl hrun ?_) | fail)
      go_roundw
      case rel => exact ⟨j + 1, a4, c4, m4, by omega, by go_num, rfl, hm5, HF⟩
      case measure => simp [intOf]; omega
    · have hmm : m = pickV l ps := by rw [hm.out, show j = ps.length by omega, List.take_length]
      have dj1 : ¬ (j : Int) < (ps.length : Int) := by omega
      have dj2 : decide ((j : Int) < (ps.length : Int)) = false := by simp; omega
      subst hmm
      go_wp2_with fail
      go_ret
      exact ⟨ra, rc, rfl, H.out.1, H.out.2.1, H.out.2.2⟩
end Go.Proofs.Ytfolkjjhlcjfgab
end

/- exec.Join, exec.Limit: their closures. Joining where at most one row can be joined. exec.tell: how many rows a group has. exec.told: a group's row. exec.together of one member. slices.Clone of numbers, of what is asked of a group. exec.Group's closure. Members of groups that are gathered. -/
import Derived.Test.YtohkjikhlakglaaB7
section
namespace Go.Proofs.Ytohkjikhlakglaa
open Go.RowKit Go.Hay
attribute [local go_sem] Oper.semAt_some
set_option linter.unusedVariables false
set_option linter.unusedSimpArgs false

set_option maxHeartbeats 4000000 in
set_option maxRecDepth 100000 in
theorem cJoinE (gl gr : Nat) (lbl lbr : Array Value) (lo ro : Int) (w : World) : Calls Try.prog 25 #[.func (.func gl) #[] lbl, .func (.func gr) #[] lbr, .int .i64 lo, .int .i64 ro] w fun e w' => e = .returned (.func (.func 42) #[] #[.pointer (some ⟨w.heap.size + 1, 0, none⟩), .pointer (some ⟨w.heap.size + 3, 0, none⟩), .pointer (some ⟨w.heap.size, 0, none⟩), .pointer (some ⟨w.heap.size + 2, 0, none⟩)]) ∧
    w' = (((w.alloc (.cells #[.func (.func gl) #[] lbl] 28)).alloc (.cells #[.func (.func gr) #[] lbr] 28)).alloc (.cells #[.int .i64 lo] 3)).alloc (.cells #[.int .i64 ro] 3) := by
  go_enter Try.func25, Try.ntmps25
  go_wp2_with fail
  go_returns
  exact ⟨rfl, rfl⟩
/-- The sort of at most one row. -/
theorem sort1 (on : Int) (R : List (List Val)) (h1 : (ordR on R).length ≤ 1) : ∀ (W : World) (N q : Nat) (ra : Option Addr) (rc : Nat) (L : List Vs), Lot N ra rc L W → L.map (·.l) = ordR on R → W.cell? ⟨q, 0, none⟩ = some (.int .i64 on) → q ∉ blk ra → Calls Try.prog 37 #[.slice ra L.length rc, .func (.func 56) #[] #[.pointer (some ⟨q, 0, none⟩)]] W (SortP N ra rc L.length (ordR on R) W) := fun W N q ra rc L hl hm _ _ => by
  have hn : L.length ≤ 1 := by have := congrArg List.length hm; simp at this; omega
  exact (cSortSt1R ra L.length rc _ W hn).mono fun e w' ⟨hv, e2⟩ => ⟨hv, L, rfl, by rw [e2]; exact hl, hm, by rw [e2]; exact Kp.refl _ _⟩
theorem mono1 {SL : List Vs} {ro : Int} {v : Val} (h : SL.length ≤ 1) : (∀ i j, i ≤ j → j < SL.length → cAt SL ro v j < 0 → cAt SL ro v i < 0) ∧ (∀ i j, i ≤ j → j < SL.length → cAt SL ro v j ≤ 0 → cAt SL ro v i ≤ 0) :=
  ⟨fun i j h1 h2 h3 => by rw [show i = j by omega]; exact h3, fun i j h1 h2 h3 => by rw [show i = j by omega]; exact h3⟩
end Go.Proofs.Ytohkjikhlakglaa
end

section
namespace Go.Proofs.Ytohkjikhlakglaa
open Go.RowKit Go.Hay
attribute [local go_sem] Oper.semAt_some
set_option linter.unusedVariables false
set_option linter.unusedSimpArgs false

set_option maxHeartbeats 4000000 in
set_option maxRecDepth 100000 in
theorem cTell0 (a : Option Addr) (n c : Nat) (col : Int) (w : World) : Calls Try.prog 51 #[.slice a n c, .agg #[.int .i64 0, .int .i64 col]] w fun e w' => e = .returned (.agg #[.int .i64 2, .bool false, .int .i64 (n : Int), .string ⟨#[]⟩]) ∧ Kp [] w w' := by
  obtain ⟨w1, hw1, k1, b1⟩ : ∃ w1, w.alloc (.cells #[.int .i64 0, .int .i64 col] 51) = w1 ∧ Kp [] w w1 ∧ Bn w1 w.heap.size [.int .i64 0, .int .i64 col] := ⟨_, rfl, (Kp.refl _ _).alloc _, Bn.new w _ _⟩
  obtain ⟨w2, hw2, k2, b2⟩ : ∃ w2, w1.alloc (.cells #[.int .i64 0, .bool false, .int .i64 0, .string ⟨#[]⟩] 47) = w2 ∧ Kp [] w1 w2 ∧ Bn w2 w1.heap.size [.int .i64 0, .bool false, .int .i64 0, .string ⟨#[]⟩] := ⟨_, rfl, (Kp.refl _ _).alloc _, Bn.new w1 _ _⟩
  obtain ⟨q3, hq3⟩ : ∃ q, w.heap.size = q := ⟨_, rfl⟩
  obtain ⟨q4, hq4⟩ : ∃ q, Hid (w1.heap.size = q) := ⟨_, rfl⟩
  rw [hq3] at b1
  rw [hq4.out] at b2
  have b12 := b1.kept k2
  have a0 := b12.get 0 _ rfl
  have a1 := b12.get 1 _ rfl
  have cI := hid (cIntE (n : Int) w2)
  have H2 := hid (And.intro b2 (And.intro (k1.trans k2 (by simp)) k1.size))
  have hq4' := hq4.out
  clear b1 b2 b12 k1 k2
  go_enter Try.func51, Try.ntmps51
  go_wp2_with fail
  refine cI.out.mono ?_
  rintro e w3 ⟨rfl, k3⟩
  have b3 := H2.out.1.kept k3
  have m0 := b3.get 0 _ rfl; have m1 := b3.get 1 _ rfl; have m2 := b3.get 2 _ rfl; have m3 := b3.get 3 _ rfl
  have f0 := b3.free 0; have f1 := b3.free 1; have f2 := b3.free 2; have f3 := b3.free 3
  have hh : q4 ∈ ([] : List Nat) ∨ w.heap.size ≤ q4 := .inr (by rw [← hq4.out]; exact H2.out.2.2)
  obtain ⟨w4, e4, b4, k4⟩ : ∃ W2, (((w3.setCell ⟨q4, 0, none⟩ (.int .i64 2)).setCell ⟨q4, 1, none⟩ (.bool false)).setCell ⟨q4, 2, none⟩ (.int .i64 (n : Int))).setCell ⟨q4, 3, none⟩ (.string ⟨#[]⟩) = W2 ∧ Bn W2 q4 [.int .i64 2, .bool false, .int .i64 (n : Int), .string ⟨#[]⟩] ∧ Kp [] w W2 :=
    ⟨_, rfl, (((b3.set 0 (by simp) (.int .i64 2)).set 1 (by simp) (.bool false)).set 2 (by simp) (.int .i64 (n : Int))).set 3 (by simp) (.string ⟨#[]⟩), (((((H2.out.2.1.trans k3 (by simp)).setCell hh _).setCell hh _).setCell hh _).setCell hh _)⟩
  have v0 := b4.get 0 _ rfl; have v1 := b4.get 1 _ rfl; have v2 := b4.get 2 _ rfl; have v3 := b4.get 3 _ rfl
  have K4 := hid k4
  clear b3 b4 k4 k3 cI H2 hh
  go_wp2_with fail
  exact bodyPost_ret (v := .agg #[.int .i64 2, .bool false, .int .i64 (n : Int), .string ⟨#[]⟩]) (by simp [results, Try.results51, go_sem, v0, v1, v2, v3]) rfl ⟨rfl, K4.out⟩
end Go.Proofs.Ytohkjikhlakglaa
end

section
namespace Go.Proofs.Ytohkjikhlakglaa
open Go.RowKit Go.Hay
attribute [local go_sem] Oper.semAt_some
set_option linter.unusedVariables false
set_option linter.unusedSimpArgs false

/-- What is asked of a group: an operation, a column. -/
def AgE : El (Int × Int) where
  n := 2
  c x := [.int .i64 x.1, .int .i64 x.2]
  len _ := rfl
  one _ u hu := by simp at hu; rcases hu with rfl | rfl <;> rfl
  pos := by decide
theorem agAt {w : World} {a : Option Addr} {l : List (Int × Int)} (h : AgE.See w a l) (j : Nat) (hj : j < l.length) : ∃ g o, a = some ⟨g, o, none⟩ ∧ w.cell? ⟨g, o + j * 2, none⟩ = some (.int .i64 l[j].1) ∧ w.cell? ⟨g, o + j * 2 + 1, none⟩ = some (.int .i64 l[j].2) := by
  obtain ⟨g, o, e, hc⟩ := h.at (j := j) (x := l[j]) (by simp [hj])
  exact ⟨g, o, e, hc 0 _ rfl, hc 1 _ rfl⟩
theorem boxAg (w : World) (x y : Int) : ∃ q W1 W2, w.heap.size = q ∧ w.alloc (.cells #[.int .i64 0, .int .i64 0] 51) = W1 ∧ Bn W1 q [.int .i64 0, .int .i64 0] ∧ (W1.setCell ⟨q, 0, none⟩ (.int .i64 x)).setCell ⟨q, 1, none⟩ (.int .i64 y) = W2 ∧ Bn W2 q [.int .i64 x, .int .i64 y] ∧ Kp [] w W2 := by
  have b0 := Bn.new w [.int .i64 0, .int .i64 0] 51
  have k0 : Kp [] w (w.alloc (.cells #[.int .i64 0, .int .i64 0] 51)) := (Kp.refl _ _).alloc _
  have h : w.heap.size ∈ ([] : List Nat) ∨ w.heap.size ≤ w.heap.size := .inr (Nat.le_refl _)
  exact ⟨_, _, _, rfl, rfl, b0, rfl, (b0.set 0 (by simp) (.int .i64 x)).set 1 (by simp) (.int .i64 y), (k0.setCell h _).setCell h _⟩
set_option maxHeartbeats 8000000 in
set_option maxRecDepth 100000 in
theorem cTold (ka : Option Addr) (kc : Nat) (key : List Val) (ma : Option Addr) (mn mc : Nat) (ga : Option Addr) (gc : Nat) (gs : List (Int × Int)) (tv : Int × Int → Val) (w : World) (hk : (⟨ka, kc, key⟩ : Vs).lies w) (hg : AgE.See w ga gs) (hkl : key.length + gs.length ≤ 3000000000000)
    (ht : ∀ g ∈ gs, ∀ W, Kp [] w W → Calls Try.prog 51 #[.slice ma mn mc, .agg #[.int .i64 g.1, .int .i64 g.2]] W fun e w' => e = .returned (.agg #[.int .i64 (tv g).k, .bool (tv g).b, .int .i64 (tv g).n, .string (tv g).t]) ∧ Kp [] W w') :
    Calls Try.prog 32 #[.slice ka key.length kc, .slice ma mn mc, .slice ga gs.length gc] w (NewR (key ++ gs.map tv) w) := by
  have cC := hid (cCloneR ka kc key w hk.see hk.nil (by omega))
  have HG := hid hg
  have HT := hid ht
  clear hg ht hk
  go_enter Try.func32, Try.ntmps32
  go_wp2_with fail
  refine cC.out.mono ?_
  rintro e w0 ⟨ya, yc, rfl, hyr, ky, hyb⟩
  have H0 := hid (And.intro hyr (And.intro ky hyb))
  clear cC hyr ky hyb
  go_wp2_with fail
  go_loopw [7, 14] (fun v7 i wr => ∃ (j : Nat) (ra : Option Addr) (rc : Nat) (m : List Val), j ≤ gs.length ∧ i = .int .i64 (j : Int) ∧ v7 = .slice ra m.length rc ∧ Hid (m = key ++ (gs.take j).map tv) ∧ Hid (VE.Row wr (.slice ra m.length rc) m ∧ Kp [] w wr ∧ ∀ k ∈ blk ra, w.heap.size ≤ k)) (fun _ i _ => gs.length - (intOf i).toNat)
  case atStart => exact ⟨0, ya, yc, key, Nat.zero_le _, rfl, rfl, by simp [hid], H0⟩
  case round =>
    obtain ⟨j, ra, rc, m, hj, rfl, rfl, hm, H⟩ := hrel
    clear H0
    by_cases hlt : j < gs.length
    · obtain ⟨g, o, ea, c0, c1⟩ := agAt HG.out j hlt
      have cg0 := kpAt H.out.2.1 c0
      have cg1 := kpAt H.out.2.1 c1
      have htk : Hid ((gs.take (j + 1)).map tv = (gs.take j).map tv ++ [tv gs[j]]) := by show _ = _; rw [List.take_succ_eq_append_getElem hlt, List.map_append]; rfl
      have hT := hid (HT.out gs[j] (List.getElem_mem hlt))
      obtain ⟨x, hx⟩ : ∃ x, Hid (gs[j] = x) := ⟨gs[j], rfl⟩
      rw [hx.out] at cg0 cg1 htk hT
      obtain ⟨x1, x2⟩ := x
      dsimp only at cg0 cg1 hT
      obtain ⟨q9, B1, B2, eq9, e1, b1, e2, b2, kb⟩ := boxAg wr x1 x2
      have m0 := b1.get 0 _ rfl; have m1 := b1.get 1 _ rfl
      have f0 := b1.free 0; have f1 := b1.free 1
      have v0 := b2.get 0 _ rfl; have v1 := b2.get 1 _ rfl
      have cT := hid (hT.out B2 (H.out.2.1.trans kb (by simp)))
      obtain ⟨⟨tk, tb, tn, tt⟩, htv⟩ : ∃ v, Hid (tv (x1, x2) = v) := ⟨tv (x1, x2), rfl⟩
      rw [htv.out] at cT htk
      dsimp only at cT
      have hml : m.length ≤ 3000000000000 := by rw [hm.out]; simp; omega
      have i1 : (0 : Int) ≤ (j : Int) := by omega
      have i2 : (j : Int) < (gs.length : Int) := by omega
      have i3 : (j : Int) + 1 ≤ 9223372036854775807 := by omega
      have KB := hid kb
      subst ea
      clear c0 c1 b1 b2 kb
      go_wp2_with fail
      refine cT.out.mono ?_
      rintro e wd ⟨rfl, kd⟩
      have kbd := KB.out.trans kd (by simp)
      obtain ⟨a4, c4, W4, hrun, hr4, k4, hn4⟩ := appV1 (H.out.1.keptNew kbd) ⟨tk, tb, tn, tt⟩ hml
      obtain ⟨m4, hm4⟩ : ∃ m4, Hid (m ++ [(⟨tk, tb, tn, tt⟩ : Val)] = m4) := ⟨_, rfl⟩
      rw [hm4.out] at hrun hr4
      dsimp only at hrun
      have kwd := H.out.2.1.trans kbd (by simp)
      have HF : Hid (VE.Row W4 (.slice a4 m4.length c4) m4 ∧ Kp [] w W4 ∧ ∀ k ∈ blk a4, w.heap.size ≤ k) := ⟨hr4, kwd.trans k4 (fun x hx => .inr (H.out.2.2 x hx)), fun k hk => by
        rcases hn4 k hk with e | e
        · exact H.out.2.2 k e
        · have := kwd.size; omega⟩
      have hm5 : Hid (m4 = key ++ (gs.take (j + 1)).map tv) := by show _ = _; rw [htk.out, ← List.append_assoc, ← hm.out, hm4.out]
      clear cT kd hr4 k4 hn4 kwd kbd m0 m1 f0 f1 v0 v1
      go_wp2_with (first | (refine wpAppRunY rfl _ _ 24 24 rfl _ _ _ rfl rfl hrun ?_) | fail)
      go_roundw
      case rel => exact ⟨j + 1, a4, c4, m4, by omega, by go_num, rfl, hm5, HF⟩
      case measure => simp [intOf]; omega
    · have hmm : m = key ++ gs.map tv := by rw [hm.out, show j = gs.length by omega, List.take_length]
      have dj1 : ¬ (j : Int) < (gs.length : Int) := by omega
      have dj2 : decide ((j : Int) < (gs.length : Int)) = false := by simp; omega
      have hmm' := hid hmm
      clear hmm
      go_wp2_with fail
      go_ret
      rw [← hmm'.out]
      exact ⟨ra, rc, rfl, H.out.1, H.out.2.1, H.out.2.2⟩
end Go.Proofs.Ytohkjikhlakglaa
end

section
namespace Go.Proofs.Ytohkjikhlakglaa
open Go.RowKit Go.Hay
attribute [local go_sem] Oper.semAt_some
set_option linter.unusedVariables false
set_option linter.unusedSimpArgs false

set_option maxHeartbeats 4000000 in
set_option maxRecDepth 100000 in
theorem cTogether1 (a : Option Addr) (c : Nat) (w : World) : Calls Try.prog 33 #[.slice a 1 c] w fun e w' => e = .returned (.int .i64 1) ∧ Kp [] w w' := by
  go_enter Try.func33, Try.ntmps33
  go_wp2_with fail
  go_loopw [3] (fun v3 wr => v3 = .int .i64 1 ∧ w = wr) (fun _ _ => 0)
  case atStart => exact ⟨rfl, rfl⟩
  case round =>
    obtain ⟨rfl, rfl⟩ := hrel
    go_wp2_with fail
    refine wp_noPanicY ?_
    refine wp_region_held_drew (S := fun A => True) (by kernel_rfl) trivial (fun hHeld => ?_)
    have KD : Hid (Kp [] w w.drew) := hid (Kp.refl _ _).drew
    generalize w.drew = wd at *
    refine wpAnyH_take (i := 0) (v := ?_) rfl (by kernel_rfl) (by kernel_rfl) (by kernel_rfl) (fun _ _ _ h => by cases h.1) (Or.inl ⟨by rfl, ?_⟩) (by assumption) ?_
    rotate_left
    · intro w hSw; (try dsimp only at hSw); go_simp <;> with_reducible rfl
    try simp only [Act.put, List.getElem_toArray, List.getElem_cons_zero, List.getElem_cons_succ, List.setIfInBounds_toArray, List.set_cons_zero, List.set_cons_succ]
    refine wpAnyH_take (i := 1) (v := ?_) rfl (by kernel_rfl) (by kernel_rfl) (by kernel_rfl) (fun _ _ _ h => by cases h.1) (Or.inl ⟨by rfl, ?_⟩) (by assumption) ?_
    rotate_left
    · intro w hSw; (try dsimp only at hSw); go_simp <;> with_reducible rfl
    try simp only [Act.put, List.getElem_toArray, List.getElem_cons_zero, List.getElem_cons_succ, List.setIfInBounds_toArray, List.set_cons_zero, List.set_cons_succ]
    refine wpAnyH_take (i := 2) (v := ?_) rfl (by kernel_rfl) (by kernel_rfl) (by kernel_rfl) (fun _ _ _ h => by cases h.1) (Or.inl ⟨by rfl, ?_⟩) (by assumption) ?_
    rotate_left
    · intro w hSw; (try dsimp only at hSw); go_simp <;> with_reducible rfl
    try simp only [Act.put, List.getElem_toArray, List.getElem_cons_zero, List.getElem_cons_succ, List.setIfInBounds_toArray, List.set_cons_zero, List.set_cons_succ]
    refine wpAnyH_take (i := 3) (v := ?_) rfl (by kernel_rfl) (by kernel_rfl) (by kernel_rfl) (fun _ _ _ h => by cases h.1) (Or.inl ⟨by rfl, ?_⟩) (by assumption) ?_
    rotate_left
    · intro w hSw; (try dsimp only at hSw); go_simp <;> with_reducible rfl
    try simp only [Act.put, List.getElem_toArray, List.getElem_cons_zero, List.getElem_cons_succ, List.setIfInBounds_toArray, List.set_cons_zero, List.set_cons_succ]
    refine wpAnyH_take (i := 4) (v := ?_) rfl (by kernel_rfl) (by kernel_rfl) (by kernel_rfl) (fun _ _ _ h => by cases h.1) (Or.inl ⟨by rfl, ?_⟩) (by assumption) ?_
    rotate_left
    · intro w hSw; (try dsimp only at hSw); go_simp <;> with_reducible rfl
    try simp only [Act.put, List.getElem_toArray, List.getElem_cons_zero, List.getElem_cons_succ, List.setIfInBounds_toArray, List.set_cons_zero, List.set_cons_succ]
    refine wpAnyH_take (i := 5) (v := undef) rfl (by kernel_rfl) (by kernel_rfl) (by kernel_rfl) (fun _ _ _ h => by cases h.1) (Or.inr ⟨by rfl, rfl⟩) (by assumption) ?_
    try simp only [Act.put, List.getElem_toArray, List.getElem_cons_zero, List.getElem_cons_succ, List.setIfInBounds_toArray, List.set_cons_zero, List.set_cons_succ]
    refine wpAnyH_take (i := 6) (v := undef) rfl (by kernel_rfl) (by kernel_rfl) (by kernel_rfl) (fun _ _ _ h => by cases h.1) (Or.inr ⟨by rfl, rfl⟩) (by assumption) ?_
    try simp only [Act.put, List.getElem_toArray, List.getElem_cons_zero, List.getElem_cons_succ, List.setIfInBounds_toArray, List.set_cons_zero, List.set_cons_succ]
    refine wpAnyH_take (i := 7) (v := undef) rfl (by kernel_rfl) (by kernel_rfl) (by kernel_rfl) (fun _ _ _ h => by cases h.1) (Or.inr ⟨by rfl, rfl⟩) (by assumption) ?_
    try simp only [Act.put, List.getElem_toArray, List.getElem_cons_zero, List.getElem_cons_succ, List.setIfInBounds_toArray, List.set_cons_zero, List.set_cons_succ]
    refine wpAnyH_take (i := 8) (v := undef) rfl (by kernel_rfl) (by kernel_rfl) (by kernel_rfl) (fun _ _ _ h => by cases h.1) (Or.inr ⟨by rfl, rfl⟩) (by assumption) ?_
    try simp only [Act.put, List.getElem_toArray, List.getElem_cons_zero, List.getElem_cons_succ, List.setIfInBounds_toArray, List.set_cons_zero, List.set_cons_succ]
    refine wpAnyH_take (i := 9) (v := undef) rfl (by kernel_rfl) (by kernel_rfl) (by kernel_rfl) (fun _ _ _ h => by cases h.1) (Or.inr ⟨by rfl, rfl⟩) (by assumption) ?_
    try simp only [Act.put, List.getElem_toArray, List.getElem_cons_zero, List.getElem_cons_succ, List.setIfInBounds_toArray, List.set_cons_zero, List.set_cons_succ]
    refine wpAnyH_take (i := 10) (v := undef) rfl (by kernel_rfl) (by kernel_rfl) (by kernel_rfl) (fun _ _ _ h => by cases h.1) (Or.inr ⟨by rfl, rfl⟩) (by assumption) ?_
    try simp only [Act.put, List.getElem_toArray, List.getElem_cons_zero, List.getElem_cons_succ, List.setIfInBounds_toArray, List.set_cons_zero, List.set_cons_succ]
    refine wpAnyH_take (i := 11) (v := undef) rfl (by kernel_rfl) (by kernel_rfl) (by kernel_rfl) (fun _ _ _ h => by cases h.1) (Or.inr ⟨by rfl, rfl⟩) (by assumption) ?_
    try simp only [Act.put, List.getElem_toArray, List.getElem_cons_zero, List.getElem_cons_succ, List.setIfInBounds_toArray, List.set_cons_zero, List.set_cons_succ]
    refine wpAnyH_take (i := 12) (v := undef) rfl (by kernel_rfl) (by kernel_rfl) (by kernel_rfl) (fun _ _ _ h => by cases h.1) (Or.inr ⟨by rfl, rfl⟩) (by assumption) ?_
    try simp only [Act.put, List.getElem_toArray, List.getElem_cons_zero, List.getElem_cons_succ, List.setIfInBounds_toArray, List.set_cons_zero, List.set_cons_succ]
    refine wpAnyH_take (i := 13) (v := undef) rfl (by kernel_rfl) (by kernel_rfl) (by kernel_rfl) (fun _ _ _ h => by cases h.1) (Or.inr ⟨by rfl, rfl⟩) (by assumption) ?_
    try simp only [Act.put, List.getElem_toArray, List.getElem_cons_zero, List.getElem_cons_succ, List.setIfInBounds_toArray, List.set_cons_zero, List.set_cons_succ]
    refine wpAnyH_take (i := 14) (v := undef) rfl (by kernel_rfl) (by kernel_rfl) (by kernel_rfl) (fun _ _ _ h => by cases h.1) (Or.inr ⟨by rfl, rfl⟩) (by assumption) ?_
    try simp only [Act.put, List.getElem_toArray, List.getElem_cons_zero, List.getElem_cons_succ, List.setIfInBounds_toArray, List.set_cons_zero, List.set_cons_succ]
    refine wpAnyH_take (i := 15) (v := undef) rfl (by kernel_rfl) (by kernel_rfl) (by kernel_rfl) (fun _ _ _ h => by cases h.1) (Or.inr ⟨by rfl, rfl⟩) (by assumption) ?_
    try simp only [Act.put, List.getElem_toArray, List.getElem_cons_zero, List.getElem_cons_succ, List.setIfInBounds_toArray, List.set_cons_zero, List.set_cons_succ]
    refine wpAnyH_take (i := 16) (v := ?_) rfl (by kernel_rfl) (by kernel_rfl) (by kernel_rfl) (fun _ _ _ h => by cases h.1) (Or.inl ⟨by rfl, ?_⟩) (by assumption) ?_
    rotate_left
    · intro w hSw; (try dsimp only at hSw); go_simp <;> with_reducible rfl
    try simp only [Act.put, List.getElem_toArray, List.getElem_cons_zero, List.getElem_cons_succ, List.setIfInBounds_toArray, List.set_cons_zero, List.set_cons_succ]
    refine wpAnyH_done (by kernel_rfl) ⟨rfl, ?_⟩ _
    clear hHeld
    go_wp2_with fail
    go_ret
    exact ⟨rfl, KD.out⟩
end Go.Proofs.Ytohkjikhlakglaa
end

section
namespace Go.Proofs.Ytohkjikhlakglaa
open Go.RowKit Go.Hay
attribute [local go_sem] Oper.semAt_some
set_option linter.unusedVariables false
set_option linter.unusedSimpArgs false

theorem infoIY : ∃ i : TypeInfo, Try.prog.info? 3 = some i ∧ i.zero = some (.int .i64 0) ∧ i.size = 1 ∧ i.bytes = 8 := by
  have h : (Try.prog.info? 3).map (fun i => (i.zero, i.size, i.bytes)) = some (some (.int .i64 0), 1, 8) := by kernel_rfl
  cases e : Try.prog.info? 3 with
  | none => rw [e] at h; cases h
  | some i =>
    rw [e] at h
    simp at h
    exact ⟨i, rfl, h.1, h.2.1, h.2.2⟩
theorem eqNilIY (a : Option Addr) (n c : Nat) (w : World) : (binOp .eql 38 (.slice a n c) (.slice none 0 0)).run Try.prog w = .ok (.bool a.isNone) w := by
  simp only [binOp]
  simp [run_equal_slice_nil w 38 3 a n c Try.underlying38]
/-- A row of its own. -/
def NewIY (l : List (Int)) (w : World) (e : Ending) (w' : World) : Prop := ∃ a c, e = .returned (.slice a l.length c) ∧ IntE.Row w' (.slice a l.length c) l ∧ Kp [] w w' ∧ ∀ k ∈ blk a, w.heap.size ≤ k
set_option maxHeartbeats 4000000 in
set_option maxRecDepth 100000 in
theorem cCloneIY (a : Option Addr) (c : Nat) (l : List (Int)) (w : World) (hs : IntE.See w a l) (hn : a = none → c = 0) (hb : l.length ≤ 3600000000000) :
    Calls Try.prog 28 #[.slice a l.length c] w (NewIY l w) := by
  cases a with
  | none =>
    have hl : l = [] := by rcases hs with h | ⟨g, o, h, _⟩; exact h; cases h
    subst hl
    rw [hn rfl]
    have e1 := eqNilIY none 0 0
    go_enter Try.func28, Try.ntmps28
    go_wp2_with fail
    go_ret
    exact ⟨none, 0, rfl, .inl ⟨rfl, rfl⟩, Kp.refl _ _, by simp [blk]⟩
  | some ad =>
    have e0 := eqNilIY (some ad) l.length c
    go_enter Try.func28, Try.ntmps28
    have k1 : Kp [] w (w.alloc (.cells #[] 3)) := (Kp.refl _ _).alloc _
    have hr := rowNoneY IntE w rfl #[] 3
    have hsr := (hs.keptNew k1).src (P := Try.prog) Try.underlying38 c
    obtain ⟨i0, hi, hz0, hz1, hz2⟩ := infoIY
    go_wp2_with (first | (refine wpAppG (E := IntE) rfl _ _ 38 38 3 rfl i0 _ 8 Try.underlying38 hi hz0 hz1 hz2 rfl _ [] rfl hr _ l rfl hsr (by simp; omega) (by simp; omega) ?_; intro ys a' c' w' hy hrow hg hn) | fail)
    go_ret
    have e : ys = l := by rw [hy.out]; rfl
    subst e
    refine ⟨a', c', rfl, hrow, k1.trans hg (fun k hk => .inr ?_), fun k hk => ?_⟩
    · simp [own, Value.ownBlock, Act.eval] at hk; omega
    · rcases hn k hk with h1 | h1
      · simp [own, Value.ownBlock, Act.eval] at h1; omega
      · exact Nat.le_trans k1.size h1
theorem infoAY : ∃ i : TypeInfo, Try.prog.info? 51 = some i ∧ i.zero = some (.agg #[.int .i64 0, .int .i64 0]) ∧ i.size = 2 ∧ i.bytes = 16 := by
  have h : (Try.prog.info? 51).map (fun i => (i.zero, i.size, i.bytes)) = some (some (.agg #[.int .i64 0, .int .i64 0]), 2, 16) := by kernel_rfl
  cases e : Try.prog.info? 51 with
  | none => rw [e] at h; cases h
  | some i =>
    rw [e] at h
    simp at h
    exact ⟨i, rfl, h.1, h.2.1, h.2.2⟩
theorem eqNilAY (a : Option Addr) (n c : Nat) (w : World) : (binOp .eql 39 (.slice a n c) (.slice none 0 0)).run Try.prog w = .ok (.bool a.isNone) w := by
  simp only [binOp]
  simp [run_equal_slice_nil w 39 51 a n c Try.underlying39]
/-- A row of its own. -/
def NewAY (l : List (Int × Int)) (w : World) (e : Ending) (w' : World) : Prop := ∃ a c, e = .returned (.slice a l.length c) ∧ AgE.Row w' (.slice a l.length c) l ∧ Kp [] w w' ∧ ∀ k ∈ blk a, w.heap.size ≤ k
set_option maxHeartbeats 4000000 in
set_option maxRecDepth 100000 in
theorem cCloneAY (a : Option Addr) (c : Nat) (l : List (Int × Int)) (w : World) (hs : AgE.See w a l) (hn : a = none → c = 0) (hb : l.length ≤ 3600000000000) :
    Calls Try.prog 29 #[.slice a l.length c] w (NewAY l w) := by
  cases a with
  | none =>
    have hl : l = [] := by rcases hs with h | ⟨g, o, h, _⟩; exact h; cases h
    subst hl
    rw [hn rfl]
    have e1 := eqNilAY none 0 0
    go_enter Try.func29, Try.ntmps29
    go_wp2_with fail
    go_ret
    exact ⟨none, 0, rfl, .inl ⟨rfl, rfl⟩, Kp.refl _ _, by simp [blk]⟩
  | some ad =>
    have e0 := eqNilAY (some ad) l.length c
    go_enter Try.func29, Try.ntmps29
    have k1 : Kp [] w (w.alloc (.cells #[] 51)) := (Kp.refl _ _).alloc _
    have hr := rowNoneY AgE w rfl #[] 51
    have hsr := (hs.keptNew k1).src (P := Try.prog) Try.underlying39 c
    obtain ⟨i0, hi, hz0, hz1, hz2⟩ := infoAY
    go_wp2_with (first | (refine wpAppG (E := AgE) rfl _ _ 39 39 51 rfl i0 _ 16 Try.underlying39 hi hz0 hz1 hz2 rfl _ [] rfl hr _ l rfl hsr (by simp; omega) (by simp; omega) ?_; intro ys a' c' w' hy hrow hg hn) | fail)
    go_ret
    have e : ys = l := by rw [hy.out]; rfl
    subst e
    refine ⟨a', c', rfl, hrow, k1.trans hg (fun k hk => .inr ?_), fun k hk => ?_⟩
    · simp [own, Value.ownBlock, Act.eval] at hk; omega
    · rcases hn k hk with h1 | h1
      · simp [own, Value.ownBlock, Act.eval] at h1; omega
      · exact Nat.le_trans k1.size h1
end Go.Proofs.Ytohkjikhlakglaa
end

section
namespace Go.Proofs.Ytohkjikhlakglaa
open Go.RowKit Go.Hay
attribute [local go_sem] Oper.semAt_some
set_option linter.unusedVariables false
set_option linter.unusedSimpArgs false
/-- What Group hands back: a closure, with what it was given in boxes, and rows of its own. -/
def GrpP (g : Nat) (lb : Array Value) (bs : List Int) (gs : List (Int × Int)) (w : World) (e : Ending) (w' : World) : Prop := ∃ (q3 q4 q5 : Nat) (a4 : Option Addr) (c4 : Nat) (a5 : Option Addr) (c5 : Nat), e = .returned (.func (.func 30) #[] #[.pointer (some ⟨q3, 0, none⟩), .pointer (some ⟨q4, 0, none⟩), .pointer (some ⟨q5, 0, none⟩)]) ∧ w'.cell? ⟨q3, 0, none⟩ = some (.func (.func g) #[] lb) ∧ w'.cell? ⟨q4, 0, none⟩ = some (.slice a4 bs.length c4) ∧ w'.cell? ⟨q5, 0, none⟩ = some (.slice a5 gs.length c5) ∧ IntE.Row w' (.slice a4 bs.length c4) bs ∧ AgE.Row w' (.slice a5 gs.length c5) gs ∧ w.heap.size ≤ q3 ∧ w.heap.size ≤ q4 ∧ w.heap.size ≤ q5 ∧ (∀ k ∈ blk a4, w.heap.size ≤ k) ∧ (∀ k ∈ blk a5, w.heap.size ≤ k) ∧ Kp [] w w'
set_option maxHeartbeats 8000000 in
set_option maxRecDepth 100000 in
theorem cGroupE (g : Nat) (lb : Array Value) (ba : Option Addr) (bc : Nat) (bs : List Int) (ga : Option Addr) (gc : Nat) (gs : List (Int × Int)) (w : World) (hb : IntE.See w ba bs) (hbn : ba = none → bc = 0) (hbl : bs.length ≤ 3600000000000) (hg : AgE.See w ga gs) (hgn : ga = none → gc = 0) (hgl : gs.length ≤ 3600000000000) :
    Calls Try.prog 17 #[.func (.func g) #[] lb, .slice ba bs.length bc, .slice ga gs.length gc] w (GrpP g lb bs gs w) := by
  obtain ⟨w1, hw1, k1, b1⟩ : ∃ w1, w.alloc (.cells #[.func (.func g) #[] lb] 28) = w1 ∧ Kp [] w w1 ∧ Bn w1 w.heap.size [.func (.func g) #[] lb] := ⟨_, rfl, (Kp.refl _ _).alloc _, Bn.new w _ _⟩
  obtain ⟨w2, hw2, k2, b2⟩ : ∃ w2, w1.alloc (.cells #[.slice ba bs.length bc] 38) = w2 ∧ Kp [] w1 w2 ∧ Bn w2 w1.heap.size [.slice ba bs.length bc] := ⟨_, rfl, (Kp.refl _ _).alloc _, Bn.new w1 _ _⟩
  obtain ⟨w3, hw3, k3, b3⟩ : ∃ w3, w2.alloc (.cells #[.slice ga gs.length gc] 39) = w3 ∧ Kp [] w2 w3 ∧ Bn w3 w2.heap.size [.slice ga gs.length gc] := ⟨_, rfl, (Kp.refl _ _).alloc _, Bn.new w2 _ _⟩
  obtain ⟨q3, hq3⟩ : ∃ q, Hid (w.heap.size = q) := ⟨_, rfl⟩
  obtain ⟨q4, hq4⟩ : ∃ q, Hid (w1.heap.size = q) := ⟨_, rfl⟩
  obtain ⟨q5, hq5⟩ : ∃ q, Hid (w2.heap.size = q) := ⟨_, rfl⟩
  rw [hq3.out] at b1
  rw [hq4.out] at b2
  rw [hq5.out] at b3
  have hq3' := hq3.out
  have hq4' := hq4.out
  have hq5' := hq5.out
  have b13 := (b1.kept k2).kept k3
  have b23 := b2.kept k3
  have kw := (k1.trans k2 (by simp)).trans k3 (by simp)
  have HZ : Hid (w.heap.size ≤ q3 ∧ q3 < q4 ∧ q4 < q5 ∧ q5 < w3.heap.size) := ⟨by rw [← hq3.out]; exact Nat.le_refl _, by rw [← hq4.out]; exact b1.lt (by simp), by rw [← hq5.out]; exact b2.lt (by simp), b3.lt (by simp)⟩
  have KW := hid kw
  have hc : Hid (∀ W, Kp [] w3 W → W.cell? ⟨q3, 0, none⟩ = some (.func (.func g) #[] lb) ∧ W.cell? ⟨q5, 0, none⟩ = some (.slice ga gs.length gc) ∧ W.cell? ⟨q4, 0, none⟩ = some (.slice ba bs.length bc) ∧ W.frozen? ⟨q4, 0, none⟩ = false ∧ W.frozen? ⟨q5, 0, none⟩ = false) := fun W k => ⟨(b13.kept k).get 0 _ rfl, (b3.kept k).get 0 _ rfl, (b23.kept k).get 0 _ rfl, (b23.kept k).free 0, (b3.kept k).free 0⟩
  have cI : Hid (∀ W, Kp [] w3 W → Calls Try.prog 28 #[.slice ba bs.length bc] W (NewIY bs W)) := fun W k => cCloneIY ba bc bs W (hb.keptNew (kw.trans k (by simp))) hbn hbl
  have cA : Hid (∀ W, Kp [] w3 W → Calls Try.prog 29 #[.slice ga gs.length gc] W (NewAY gs W)) := fun W k => cCloneAY ga gc gs W (hg.keptNew (kw.trans k (by simp))) hgn hgl
  clear k1 k2 k3 b1 b2 b3 b13 b23 kw hb hg
  go_enter Try.func17, Try.ntmps17
  go_wp2_with fail
  refine wp_noPanicY ?_
  refine wp_region_held_drew (S := fun A => True) (by kernel_rfl) trivial (fun _ => ?_)
  have KD : Hid (Kp [] w3 w3.drew) := hid (Kp.refl _ _).drew
  generalize w3.drew = wd at *
  have d5 := (hc.out wd KD.out).2.1
  have d4 := (hc.out wd KD.out).2.2.1
  refine wpAnyH_ready (rs := [0, 2]) (by kernel_rfl) (by simp) ?_
  refine AllReadyH.cons rfl (fun K hK => ?_) (AllReadyH.cons rfl (fun K hK => ?_) AllReadyH.nil)
  · go_simp
    (try go_wp2_with fail)
    refine hK.out _ _ trivial (fun _ => ?_)
    clear hK K
    try simp only [Act.put, List.getElem_toArray, List.getElem_cons_zero, List.getElem_cons_succ, List.setIfInBounds_toArray, List.set_cons_zero, List.set_cons_succ]
    refine wpAnyH_ready (rs := [1, 2]) (by kernel_rfl) (by simp) ?_
    refine AllReadyH.cons rfl (fun K hK => ?_) (AllReadyH.cons rfl (fun K hK => ?_) AllReadyH.nil)
    · go_simp
      refine (cI.out _ KD.out).mono ?_
      rintro e W5 ⟨a4, c4, rfl, hI5, k5, hn5⟩
      (try go_wp2_with fail)
      refine hK.out _ _ trivial (fun _ => ?_)
      clear hK K
      try simp only [Act.put, List.getElem_toArray, List.getElem_cons_zero, List.getElem_cons_succ, List.setIfInBounds_toArray, List.set_cons_zero, List.set_cons_succ]
      have K5 := hid (KD.out.trans k5 (by simp))
      have e5 := (hc.out W5 K5.out).2.1
      refine wpAnyH_ready (rs := [2]) (by kernel_rfl) (by simp) ?_
      refine AllReadyH.cons rfl (fun K hK => ?_) AllReadyH.nil
      go_simp
      (try go_wp2_with fail)
      refine hK.out _ _ trivial (fun _ => ?_)
      clear hK K
      try simp only [Act.put, List.getElem_toArray, List.getElem_cons_zero, List.getElem_cons_succ, List.setIfInBounds_toArray, List.set_cons_zero, List.set_cons_succ]
      refine wpAnyH_ready (rs := [3]) (by kernel_rfl) (by simp) ?_
      refine AllReadyH.cons rfl (fun K hK => ?_) AllReadyH.nil
      go_simp
      refine (cA.out _ K5.out).mono ?_
      rintro e W6 ⟨a5, c5, rfl, hA6, k6, hn6⟩
      (try go_wp2_with fail)
      refine hK.out _ _ trivial (fun _ => ?_)
      clear hK K
      try simp only [Act.put, List.getElem_toArray, List.getElem_cons_zero, List.getElem_cons_succ, List.setIfInBounds_toArray, List.set_cons_zero, List.set_cons_succ]
      have hz0 := HZ.out
      have K6 := hid (K5.out.trans k6 (by simp))
      obtain ⟨g3, g5, g4, gf4, gf5⟩ := hc.out W6 K6.out
      have k47 : Kp [q4] W6 (W6.setCell ⟨q4, 0, none⟩ (.slice a4 bs.length c4)) := (Kp.refl _ _).setCell (by simp) _
      have x4 : (W6.setCell ⟨q4, 0, none⟩ (.slice a4 bs.length c4)).cell? ⟨q4, 0, none⟩ = some (.slice a4 bs.length c4) := World.cell?_setCell_same _ _ _ g4
      have x5 : (W6.setCell ⟨q4, 0, none⟩ (.slice a4 bs.length c4)).cell? ⟨q5, 0, none⟩ = some (.slice ga gs.length gc) := (k47.cell (p := ⟨q5, 0, none⟩) (World.block_lt_of_cell? _ _ g5) (by simp; omega)).trans g5
      have x3 : (W6.setCell ⟨q4, 0, none⟩ (.slice a4 bs.length c4)).cell? ⟨q3, 0, none⟩ = some (.func (.func g) #[] lb) := (k47.cell (p := ⟨q3, 0, none⟩) (World.block_lt_of_cell? _ _ g3) (by simp; omega)).trans g3
      have xf : (W6.setCell ⟨q4, 0, none⟩ (.slice a4 bs.length c4)).frozen? ⟨q5, 0, none⟩ = false := by rw [World.frozen?_setCell]; exact gf5
      obtain ⟨W7, hW7⟩ : ∃ Y, W6.setCell ⟨q4, 0, none⟩ (.slice a4 bs.length c4) = Y := ⟨_, rfl⟩
      rw [hW7] at k47 x4 x5 x3 xf
      have k78 : Kp [q5] W7 (W7.setCell ⟨q5, 0, none⟩ (.slice a5 gs.length c5)) := (Kp.refl _ _).setCell (by simp) _
      have hF : Hid (GrpP g lb bs gs w (.returned (.func (.func 30) #[] #[.pointer (some ⟨q3, 0, none⟩), .pointer (some ⟨q4, 0, none⟩), .pointer (some ⟨q5, 0, none⟩)])) (W7.setCell ⟨q5, 0, none⟩ (.slice a5 gs.length c5))) := by
        have hz := HZ.out
        have zD := KD.out.size
        have z5 := K5.out.size
        have r4 : IntE.Row (W7.setCell ⟨q5, 0, none⟩ (.slice a5 gs.length c5)) (.slice a4 bs.length c4) bs := ((hI5.keptNew k6).kept k47 (fun j hj hm => by rw [ownV] at hj; simp at hm; have := hn5 j hj; omega)).kept k78 (fun j hj hm => by rw [ownV] at hj; simp at hm; have := hn5 j hj; omega)
        have r5 : AgE.Row (W7.setCell ⟨q5, 0, none⟩ (.slice a5 gs.length c5)) (.slice a5 gs.length c5) gs := (hA6.kept k47 (fun j hj hm => by rw [ownV] at hj; simp at hm; have := hn6 j hj; omega)).kept k78 (fun j hj hm => by rw [ownV] at hj; simp at hm; have := hn6 j hj; omega)
        exact ⟨q3, q4, q5, a4, c4, a5, c5, rfl, (k78.cell (p := ⟨q3, 0, none⟩) (World.block_lt_of_cell? _ _ x3) (by simp; omega)).trans x3, (k78.cell (p := ⟨q4, 0, none⟩) (World.block_lt_of_cell? _ _ x4) (by simp; omega)).trans x4, World.cell?_setCell_same _ _ _ x5, r4, r5, by omega, by omega, by omega, fun k hk => by have := hn5 k hk; omega, fun k hk => by have := hn6 k hk; omega, ((KW.out.trans K6.out (by simp)).trans k47 (fun x hx => .inr (by simp at hx; omega))).trans k78 (fun x hx => .inr (by simp at hx; omega))⟩
      clear hI5 hA6 k5 k6 hn5 hn6 k47 k78 g3 hz0
      refine wpAnyH_ready (rs := [4]) (by kernel_rfl) (by simp) ?_
      refine AllReadyH.cons rfl (fun K hK => ?_) AllReadyH.nil
      go_simp
      (try go_wp2_with fail)
      refine hK.out _ _ trivial (fun _ => ?_)
      clear hK K
      try simp only [Act.put, List.getElem_toArray, List.getElem_cons_zero, List.getElem_cons_succ, List.setIfInBounds_toArray, List.set_cons_zero, List.set_cons_succ]
      refine wpAnyH_ready (rs := [5]) (by kernel_rfl) (by simp) ?_
      refine AllReadyH.cons rfl (fun K hK => ?_) AllReadyH.nil
      go_simp
      (try go_wp2_with fail)
      refine hK.out _ _ trivial (fun _ => ?_)
      clear hK K
      try simp only [Act.put, List.getElem_toArray, List.getElem_cons_zero, List.getElem_cons_succ, List.setIfInBounds_toArray, List.set_cons_zero, List.set_cons_succ]
      refine wpAnyH_done (by kernel_rfl) ⟨rfl, ?_⟩ _
      go_wp2_with fail
      go_ret
      exact hF.out
    · go_simp
      (try go_wp2_with fail)
      refine hK.out _ _ trivial (fun _ => ?_)
      clear hK K
      try simp only [Act.put, List.getElem_toArray, List.getElem_cons_zero, List.getElem_cons_succ, List.setIfInBounds_toArray, List.set_cons_zero, List.set_cons_succ]
      refine wpAnyH_ready (rs := [1]) (by kernel_rfl) (by simp) ?_
      refine AllReadyH.cons rfl (fun K hK => ?_) AllReadyH.nil
      go_simp
      refine (cI.out _ KD.out).mono ?_
      rintro e W5 ⟨a4, c4, rfl, hI5, k5, hn5⟩
      (try go_wp2_with fail)
      refine hK.out _ _ trivial (fun _ => ?_)
      clear hK K
      try simp only [Act.put, List.getElem_toArray, List.getElem_cons_zero, List.getElem_cons_succ, List.setIfInBounds_toArray, List.set_cons_zero, List.set_cons_succ]
      have K5 := hid (KD.out.trans k5 (by simp))
      have e5 := (hc.out W5 K5.out).2.1
      refine wpAnyH_ready (rs := [3]) (by kernel_rfl) (by simp) ?_
      refine AllReadyH.cons rfl (fun K hK => ?_) AllReadyH.nil
      go_simp
      refine (cA.out _ K5.out).mono ?_
      rintro e W6 ⟨a5, c5, rfl, hA6, k6, hn6⟩
      (try go_wp2_with fail)
      refine hK.out _ _ trivial (fun _ => ?_)
      clear hK K
      try simp only [Act.put, List.getElem_toArray, List.getElem_cons_zero, List.getElem_cons_succ, List.setIfInBounds_toArray, List.set_cons_zero, List.set_cons_succ]
      have hz0 := HZ.out
      have K6 := hid (K5.out.trans k6 (by simp))
      obtain ⟨g3, g5, g4, gf4, gf5⟩ := hc.out W6 K6.out
      have k47 : Kp [q4] W6 (W6.setCell ⟨q4, 0, none⟩ (.slice a4 bs.length c4)) := (Kp.refl _ _).setCell (by simp) _
      have x4 : (W6.setCell ⟨q4, 0, none⟩ (.slice a4 bs.length c4)).cell? ⟨q4, 0, none⟩ = some (.slice a4 bs.length c4) := World.cell?_setCell_same _ _ _ g4
      have x5 : (W6.setCell ⟨q4, 0, none⟩ (.slice a4 bs.length c4)).cell? ⟨q5, 0, none⟩ = some (.slice ga gs.length gc) := (k47.cell (p := ⟨q5, 0, none⟩) (World.block_lt_of_cell? _ _ g5) (by simp; omega)).trans g5
      have x3 : (W6.setCell ⟨q4, 0, none⟩ (.slice a4 bs.length c4)).cell? ⟨q3, 0, none⟩ = some (.func (.func g) #[] lb) := (k47.cell (p := ⟨q3, 0, none⟩) (World.block_lt_of_cell? _ _ g3) (by simp; omega)).trans g3
      have xf : (W6.setCell ⟨q4, 0, none⟩ (.slice a4 bs.length c4)).frozen? ⟨q5, 0, none⟩ = false := by rw [World.frozen?_setCell]; exact gf5
      obtain ⟨W7, hW7⟩ : ∃ Y, W6.setCell ⟨q4, 0, none⟩ (.slice a4 bs.length c4) = Y := ⟨_, rfl⟩
      rw [hW7] at k47 x4 x5 x3 xf
      have k78 : Kp [q5] W7 (W7.setCell ⟨q5, 0, none⟩ (.slice a5 gs.length c5)) := (Kp.refl _ _).setCell (by simp) _
      have hF : Hid (GrpP g lb bs gs w (.returned (.func (.func 30) #[] #[.pointer (some ⟨q3, 0, none⟩), .pointer (some ⟨q4, 0, none⟩), .pointer (some ⟨q5, 0, none⟩)])) (W7.setCell ⟨q5, 0, none⟩ (.slice a5 gs.length c5))) := by
        have hz := HZ.out
        have zD := KD.out.size
        have z5 := K5.out.size
        have r4 : IntE.Row (W7.setCell ⟨q5, 0, none⟩ (.slice a5 gs.length c5)) (.slice a4 bs.length c4) bs := ((hI5.keptNew k6).kept k47 (fun j hj hm => by rw [ownV] at hj; simp at hm; have := hn5 j hj; omega)).kept k78 (fun j hj hm => by rw [ownV] at hj; simp at hm; have := hn5 j hj; omega)
        have r5 : AgE.Row (W7.setCell ⟨q5, 0, none⟩ (.slice a5 gs.length c5)) (.slice a5 gs.length c5) gs := (hA6.kept k47 (fun j hj hm => by rw [ownV] at hj; simp at hm; have := hn6 j hj; omega)).kept k78 (fun j hj hm => by rw [ownV] at hj; simp at hm; have := hn6 j hj; omega)
        exact ⟨q3, q4, q5, a4, c4, a5, c5, rfl, (k78.cell (p := ⟨q3, 0, none⟩) (World.block_lt_of_cell? _ _ x3) (by simp; omega)).trans x3, (k78.cell (p := ⟨q4, 0, none⟩) (World.block_lt_of_cell? _ _ x4) (by simp; omega)).trans x4, World.cell?_setCell_same _ _ _ x5, r4, r5, by omega, by omega, by omega, fun k hk => by have := hn5 k hk; omega, fun k hk => by have := hn6 k hk; omega, ((KW.out.trans K6.out (by simp)).trans k47 (fun x hx => .inr (by simp at hx; omega))).trans k78 (fun x hx => .inr (by simp at hx; omega))⟩
      clear hI5 hA6 k5 k6 hn5 hn6 k47 k78 g3 hz0
      refine wpAnyH_ready (rs := [4]) (by kernel_rfl) (by simp) ?_
      refine AllReadyH.cons rfl (fun K hK => ?_) AllReadyH.nil
      go_simp
      (try go_wp2_with fail)
      refine hK.out _ _ trivial (fun _ => ?_)
      clear hK K
      try simp only [Act.put, List.getElem_toArray, List.getElem_cons_zero, List.getElem_cons_succ, List.setIfInBounds_toArray, List.set_cons_zero, List.set_cons_succ]
      refine wpAnyH_ready (rs := [5]) (by kernel_rfl) (by simp) ?_
      refine AllReadyH.cons rfl (fun K hK => ?_) AllReadyH.nil
      go_simp
      (try go_wp2_with fail)
      refine hK.out _ _ trivial (fun _ => ?_)
      clear hK K
      try simp only [Act.put, List.getElem_toArray, List.getElem_cons_zero, List.getElem_cons_succ, List.setIfInBounds_toArray, List.set_cons_zero, List.set_cons_succ]
      refine wpAnyH_done (by kernel_rfl) ⟨rfl, ?_⟩ _
      go_wp2_with fail
      go_ret
      exact hF.out
  · go_simp
    (try go_wp2_with fail)
    refine hK.out _ _ trivial (fun _ => ?_)
    clear hK K
    try simp only [Act.put, List.getElem_toArray, List.getElem_cons_zero, List.getElem_cons_succ, List.setIfInBounds_toArray, List.set_cons_zero, List.set_cons_succ]
    refine wpAnyH_ready (rs := [0]) (by kernel_rfl) (by simp) ?_
    refine AllReadyH.cons rfl (fun K hK => ?_) AllReadyH.nil
    go_simp
    (try go_wp2_with fail)
    refine hK.out _ _ trivial (fun _ => ?_)
    clear hK K
    try simp only [Act.put, List.getElem_toArray, List.getElem_cons_zero, List.getElem_cons_succ, List.setIfInBounds_toArray, List.set_cons_zero, List.set_cons_succ]
    refine wpAnyH_ready (rs := [1]) (by kernel_rfl) (by simp) ?_
    refine AllReadyH.cons rfl (fun K hK => ?_) AllReadyH.nil
    go_simp
    refine (cI.out _ KD.out).mono ?_
    rintro e W5 ⟨a4, c4, rfl, hI5, k5, hn5⟩
    (try go_wp2_with fail)
    refine hK.out _ _ trivial (fun _ => ?_)
    clear hK K
    try simp only [Act.put, List.getElem_toArray, List.getElem_cons_zero, List.getElem_cons_succ, List.setIfInBounds_toArray, List.set_cons_zero, List.set_cons_succ]
    have K5 := hid (KD.out.trans k5 (by simp))
    have e5 := (hc.out W5 K5.out).2.1
    refine wpAnyH_ready (rs := [3]) (by kernel_rfl) (by simp) ?_
    refine AllReadyH.cons rfl (fun K hK => ?_) AllReadyH.nil
    go_simp
    refine (cA.out _ K5.out).mono ?_
    rintro e W6 ⟨a5, c5, rfl, hA6, k6, hn6⟩
    (try go_wp2_with fail)
    refine hK.out _ _ trivial (fun _ => ?_)
    clear hK K
    try simp only [Act.put, List.getElem_toArray, List.getElem_cons_zero, List.getElem_cons_succ, List.setIfInBounds_toArray, List.set_cons_zero, List.set_cons_succ]
    have hz0 := HZ.out
    have K6 := hid (K5.out.trans k6 (by simp))
    obtain ⟨g3, g5, g4, gf4, gf5⟩ := hc.out W6 K6.out
    have k47 : Kp [q4] W6 (W6.setCell ⟨q4, 0, none⟩ (.slice a4 bs.length c4)) := (Kp.refl _ _).setCell (by simp) _
    have x4 : (W6.setCell ⟨q4, 0, none⟩ (.slice a4 bs.length c4)).cell? ⟨q4, 0, none⟩ = some (.slice a4 bs.length c4) := World.cell?_setCell_same _ _ _ g4
    have x5 : (W6.setCell ⟨q4, 0, none⟩ (.slice a4 bs.length c4)).cell? ⟨q5, 0, none⟩ = some (.slice ga gs.length gc) := (k47.cell (p := ⟨q5, 0, none⟩) (World.block_lt_of_cell? _ _ g5) (by simp; omega)).trans g5
    have x3 : (W6.setCell ⟨q4, 0, none⟩ (.slice a4 bs.length c4)).cell? ⟨q3, 0, none⟩ = some (.func (.func g) #[] lb) := (k47.cell (p := ⟨q3, 0, none⟩) (World.block_lt_of_cell? _ _ g3) (by simp; omega)).trans g3
    have xf : (W6.setCell ⟨q4, 0, none⟩ (.slice a4 bs.length c4)).frozen? ⟨q5, 0, none⟩ = false := by rw [World.frozen?_setCell]; exact gf5
    obtain ⟨W7, hW7⟩ : ∃ Y, W6.setCell ⟨q4, 0, none⟩ (.slice a4 bs.length c4) = Y := ⟨_, rfl⟩
    rw [hW7] at k47 x4 x5 x3 xf
    have k78 : Kp [q5] W7 (W7.setCell ⟨q5, 0, none⟩ (.slice a5 gs.length c5)) := (Kp.refl _ _).setCell (by simp) _
    have hF : Hid (GrpP g lb bs gs w (.returned (.func (.func 30) #[] #[.pointer (some ⟨q3, 0, none⟩), .pointer (some ⟨q4, 0, none⟩), .pointer (some ⟨q5, 0, none⟩)])) (W7.setCell ⟨q5, 0, none⟩ (.slice a5 gs.length c5))) := by
      have hz := HZ.out
      have zD := KD.out.size
      have z5 := K5.out.size
      have r4 : IntE.Row (W7.setCell ⟨q5, 0, none⟩ (.slice a5 gs.length c5)) (.slice a4 bs.length c4) bs := ((hI5.keptNew k6).kept k47 (fun j hj hm => by rw [ownV] at hj; simp at hm; have := hn5 j hj; omega)).kept k78 (fun j hj hm => by rw [ownV] at hj; simp at hm; have := hn5 j hj; omega)
      have r5 : AgE.Row (W7.setCell ⟨q5, 0, none⟩ (.slice a5 gs.length c5)) (.slice a5 gs.length c5) gs := (hA6.kept k47 (fun j hj hm => by rw [ownV] at hj; simp at hm; have := hn6 j hj; omega)).kept k78 (fun j hj hm => by rw [ownV] at hj; simp at hm; have := hn6 j hj; omega)
      exact ⟨q3, q4, q5, a4, c4, a5, c5, rfl, (k78.cell (p := ⟨q3, 0, none⟩) (World.block_lt_of_cell? _ _ x3) (by simp; omega)).trans x3, (k78.cell (p := ⟨q4, 0, none⟩) (World.block_lt_of_cell? _ _ x4) (by simp; omega)).trans x4, World.cell?_setCell_same _ _ _ x5, r4, r5, by omega, by omega, by omega, fun k hk => by have := hn5 k hk; omega, fun k hk => by have := hn6 k hk; omega, ((KW.out.trans K6.out (by simp)).trans k47 (fun x hx => .inr (by simp at hx; omega))).trans k78 (fun x hx => .inr (by simp at hx; omega))⟩
    clear hI5 hA6 k5 k6 hn5 hn6 k47 k78 g3 hz0
    refine wpAnyH_ready (rs := [4]) (by kernel_rfl) (by simp) ?_
    refine AllReadyH.cons rfl (fun K hK => ?_) AllReadyH.nil
    go_simp
    (try go_wp2_with fail)
    refine hK.out _ _ trivial (fun _ => ?_)
    clear hK K
    try simp only [Act.put, List.getElem_toArray, List.getElem_cons_zero, List.getElem_cons_succ, List.setIfInBounds_toArray, List.set_cons_zero, List.set_cons_succ]
    refine wpAnyH_ready (rs := [5]) (by kernel_rfl) (by simp) ?_
    refine AllReadyH.cons rfl (fun K hK => ?_) AllReadyH.nil
    go_simp
    (try go_wp2_with fail)
    refine hK.out _ _ trivial (fun _ => ?_)
    clear hK K
    try simp only [Act.put, List.getElem_toArray, List.getElem_cons_zero, List.getElem_cons_succ, List.setIfInBounds_toArray, List.set_cons_zero, List.set_cons_succ]
    refine wpAnyH_done (by kernel_rfl) ⟨rfl, ?_⟩ _
    go_wp2_with fail
    go_ret
    exact hF.out
end Go.Proofs.Ytohkjikhlakglaa
end

section
namespace Go.Proofs.Ytohkjikhlakglaa
open Go.RowKit Go.Hay
attribute [local go_sem] Oper.semAt_some
set_option linter.unusedVariables false
set_option linter.unusedSimpArgs false

/-- A member of a group: its key, its row. -/
structure Mb where
  k : Vs
  r : Vs
instance : Inhabited Mb := ⟨⟨default, default⟩⟩
def MbE : El Mb where
  n := 2
  c x := [.slice x.k.a x.k.l.length x.k.c, .slice x.r.a x.r.l.length x.r.c]
  len _ := rfl
  one _ u hu := by simp at hu; rcases hu with rfl | rfl <;> rfl
  pos := by decide
def Mb.bs (x : Mb) : List Nat := blk x.k.a ++ blk x.r.a
def Mb.pr (x : Mb) : List Val × List Val := (x.k.l, x.r.l)
def mbR (bs : List Int) (R : List (List Val)) : List (List Val × List Val) := R.map fun l => (pickV l bs, l)
theorem mbR_snoc (bs : List Int) (R : List (List Val)) (i : Nat) (l : List Val) (h : R[i]? = some l) : mbR bs (R.take (i + 1)) = mbR bs (R.take i) ++ [(pickV l bs, l)] := by
  rw [List.take_add_one, h]
  simp [mbR]
structure Mb.lies (w : World) (x : Mb) : Prop where
  k : x.k.lies w
  r : x.r.lies w
theorem Mb.lies.ck {P : Nat → Prop} {X Y : World} {x : Mb} (hx : Mb.lies X x) (h : CK P X Y) (hP : ∀ k ∈ x.bs, P k) : Mb.lies Y x := ⟨hx.k.ck h (fun k hk => hP k (by simp [Mb.bs, hk])), hx.r.ck h (fun k hk => hP k (by simp [Mb.bs, hk]))⟩
theorem mbAt {w : World} {a : Option Addr} {l : List Mb} (h : MbE.See w a l) (j : Nat) (hj : j < l.length) : ∃ g o, a = some ⟨g, o, none⟩ ∧ w.cell? ⟨g, o + j * 2, none⟩ = some (.slice l[j].k.a l[j].k.l.length l[j].k.c) ∧ w.cell? ⟨g, o + j * 2 + 1, none⟩ = some (.slice l[j].r.a l[j].r.l.length l[j].r.c) := by
  obtain ⟨g, o, e, hc⟩ := h.at (j := j) (x := l[j]) (by simp [hj])
  exact ⟨g, o, e, hc 0 _ rfl, hc 1 _ rfl⟩
/-- Members that were gathered: all blocks from N on, theirs apart from the row of members. -/
structure Lom (N : Nat) (ra : Option Addr) (rc : Nat) (L : List Mb) (W : World) : Prop where
  row : MbE.Row W (.slice ra L.length rc) L
  lies : ∀ x ∈ L, Mb.lies W x
  own : ∀ k ∈ blk ra, N ≤ k
  rows : ∀ x ∈ L, ∀ k ∈ x.bs, N ≤ k ∧ k < W.heap.size ∧ k ∉ blk ra
theorem Lom.nil (N : Nat) (W : World) : Lom N none 0 [] W := ⟨.inl ⟨rfl, rfl⟩, by simp, by simp [blk], by simp⟩
theorem Lom.ck {N : Nat} {ra : Option Addr} {rc : Nat} {L : List Mb} {P : Nat → Prop} {X Y : World} (h : Lom N ra rc L X) (k : CK P X Y) (h1 : ∀ k ∈ blk ra, P k) (h2 : ∀ x ∈ L, ∀ k ∈ x.bs, P k) : Lom N ra rc L Y :=
  ⟨ckRow k h.row h1, fun x hx => (h.lies x hx).ck k (h2 x hx), h.own, fun x hx j hj => ⟨(h.rows x hx j hj).1, Nat.lt_of_lt_of_le (h.rows x hx j hj).2.1 k.1, (h.rows x hx j hj).2.2⟩⟩
theorem Lom.lt {N : Nat} {ra : Option Addr} {rc : Nat} {L : List Mb} {X : World} (h : Lom N ra rc L X) : ∀ k ∈ blk ra, k < X.heap.size := fun k hk => h.row.lt k (by rw [ownV]; exact hk)
theorem Lom.mono {N M : Nat} {ra : Option Addr} {rc : Nat} {L : List Mb} {X : World} (h : Lom N ra rc L X) (hm : M ≤ N) : Lom M ra rc L X :=
  ⟨h.row, h.lies, fun k hk => Nat.le_trans hm (h.own k hk), fun x hx k hk => ⟨Nat.le_trans hm (h.rows x hx k hk).1, (h.rows x hx k hk).2⟩⟩
theorem infoMb : ∃ i : TypeInfo, Try.prog.info? 63 = some i ∧ i.zero = some (.agg #[.slice none 0 0, .slice none 0 0]) ∧ i.size = 2 ∧ i.bytes = 48 := by
  have h : (Try.prog.info? 63).map (fun i => (i.zero, i.size, i.bytes)) = some (some (.agg #[.slice none 0 0, .slice none 0 0]), 2, 48) := by kernel_rfl
  cases e : Try.prog.info? 63 with
  | none => rw [e] at h; cases h
  | some i =>
    rw [e] at h
    simp at h
    exact ⟨i, rfl, h.1, h.2.1, h.2.2⟩
/-- One more row, behind the others. -/
theorem Lom.app {N : Nat} {ra : Option Addr} {rc : Nat} {L : List Mb} {w : World} (h : Lom N ra rc L w) (x : Mb) (hx : Mb.lies w x) (hN : N ≤ w.heap.size) (hb : ∀ k ∈ x.bs, N ≤ k ∧ k < w.heap.size ∧ k ∉ blk ra) (hl : L.length ≤ 4000000000000) :
    ∃ a' c' W', (Builtin.append_ #[58, 58] 58 #[.slice ra L.length rc, .slice (some ⟨w.heap.size, 0, none⟩) 1 1]).run Try.prog (w.alloc (.cells #[.slice x.k.a x.k.l.length x.k.c, .slice x.r.a x.r.l.length x.r.c] 63)) = .ok (.slice a' (L ++ [x]).length c') W' ∧ Lom N a' c' (L ++ [x]) W' ∧ Kp (blk ra) w W' ∧ ∀ k ∈ blk a', k ∈ blk ra ∨ w.heap.size ≤ k := by
  obtain ⟨A1, hA1⟩ : ∃ A1, w.alloc (.cells #[.slice x.k.a x.k.l.length x.k.c, .slice x.r.a x.r.l.length x.r.c] 63) = A1 := ⟨_, rfl⟩
  have kA1 : Kp [] w A1 := by rw [← hA1]; exact (Kp.refl _ _).alloc _
  have bx1 : Bn A1 w.heap.size (MbE.c x) := by rw [← hA1]; exact Bn.new w (MbE.c x) _
  have hs1 : MbE.See A1 (some ⟨w.heap.size, 0, none⟩) [x] := .inr ⟨w.heap.size, 0, rfl, fun j u hu => by rw [Nat.zero_add]; exact bx1.get j u (by simpa [El.cs] using hu)⟩
  obtain ⟨i0, hi, hz0', hz1', hz2'⟩ := infoMb
  have hsr := hs1.src (P := Try.prog) Try.underlying58 1
  obtain ⟨v', A2, hrun, hrow2, k2, hn2⟩ := run_appendG (E := MbE) (P := Try.prog) A1 58 58 58 63 i0 _ 48 Try.underlying58 hi hz0' hz1' hz2' rfl (.slice ra L.length rc) L (h.row.keptNew kA1) _ [x] hsr (by simp only [List.length_cons, List.length_nil]; omega) (by simp only [List.length_cons, List.length_nil]; omega)
  obtain ⟨a', c', rfl, _⟩ := hrow2.see
  simp only [ownV] at k2 hn2
  rw [hA1]
  have z1 := kA1.size
  have kw : Kp (blk ra) w A2 := (kA1.mono (by simp)).trans k2 (fun j hj => .inl hj)
  have hnew : ∀ k ∈ blk a', k ∈ blk ra ∨ w.heap.size ≤ k := fun k hk => by
    rcases hn2 k hk with e | e
    · exact .inl e
    · exact .inr (by omega)
  have ck := CK.ofKp kw
  refine ⟨a', c', A2, hrun, ⟨hrow2, fun y hy => ?_, fun k hk => ?_, fun y hy k hk => ?_⟩, kw, hnew⟩
  · rcases List.mem_append.1 hy with hy | hy
    · exact (h.lies y hy).ck ck (fun k hk => (h.rows y hy k hk).2.2)
    · rw [List.mem_singleton.1 hy]; exact hx.ck ck (fun k hk => (hb k hk).2.2)
  · rcases hnew k hk with e | e
    · exact h.own k e
    · omega
  · have h0 : N ≤ k ∧ k < w.heap.size ∧ k ∉ blk ra := by
      rcases List.mem_append.1 hy with hy | hy
      · exact h.rows y hy k hk
      · rw [List.mem_singleton.1 hy] at hk; exact hb k hk
    refine ⟨h0.1, Nat.lt_of_lt_of_le h0.2.1 kw.size, fun hm => ?_⟩
    rcases hnew k hm with e | e
    · exact h0.2.2 e
    · omega
/-- How a gathering stands that leaves what it is given as it is: members. -/
structure GamJ (w1 : World) (q3 : Nat) (R : List (List Val)) (bs : List Int) (s : Sr) (W : World) (ra : Option Addr) (rc : Nat) (L : List Mb) : Prop where
  co : CoR w1 [q3] s W
  box : W.cell? ⟨q3, 0, none⟩ = some (.slice ra L.length rc)
  free : W.frozen? ⟨q3, 0, none⟩ = false
  lot : Lom w1.heap.size ra rc L W
  took : L.map Mb.pr = mbR bs (R.take s.i)
  ne : ∀ k ∈ blk ra, k ∉ s.js ∧ k ∉ s.qs
  nes : ∀ x ∈ L, ∀ k ∈ x.bs, k ∉ s.qs
  nil : L = [] → ra = none
  pend : ∀ x, s.p = some x → R[s.i]? = some x.l ∧ x.lies W
def GamI (w1 : World) (q3 : Nat) (R : List (List Val)) (bs : List Int) (s : Sr) (W : World) : Prop := ∃ ra rc L, GamJ w1 q3 R bs s W ra rc L
theorem GamI.own {w1 : World} {q3 : Nat} {R : List (List Val)} {bs : List Int} : OwnFrom w1.heap.size (GamI w1 q3 R bs) := fun s X Y row ⟨ra, rc, L, h⟩ hg hr => by
  have ck := CK.ofGrown hg (fun r e => (hr r e).2)
  obtain ⟨h1, h2⟩ := ck.2 _ _ trivial h.box
  exact ⟨ra, rc, L, h.co.grown hg hr, h1, h2.trans h.free, h.lot.ck ck (fun _ _ => trivial) (fun _ _ _ _ => trivial), h.took, h.ne, h.nes, h.nil, fun x hx => by
    obtain ⟨p1, p2⟩ := h.pend x hx
    exact ⟨p1, p2.ck ck (fun _ _ => trivial)⟩⟩
theorem GamI.step {w1 : World} {q3 : Nat} {fr : Bool} {R : List (List Val)} {bs : List Int} (hq : q3 < w1.heap.size) {s s' : Sr} {A B : World} (hz : w1.heap.size + 2 ≤ A.heap.size) (h : GamI w1 q3 R bs s A) (ht : StepR fr R s s' A B) : GamI w1 q3 R bs s' B := by
  obtain ⟨ra, rc, L, h⟩ := h
  have co := h.co.step (by simpa using hq) hz ht
  have hqs : ∀ k, k < A.heap.size → k ∉ s.qs → k ∉ s'.qs := fun k hk hn hm => by
    cases hs : s.made with
    | true => rcases (ht.stays hs).2.2 k hm with e | e; exact hn e; omega
    | false => have := ((ht.makes hs).2.2 k hm).1; omega
  have hq3 : q3 ∉ s'.qs := fun hm => by
    have hm' : s'.made = true := by
      cases hs : s.made with
      | true => exact (ht.stays hs).1
      | false => exact (ht.makes hs).1
    have := (co.mde hm').2 q3 hm
    omega
  have ck := CK.ofTurn ht.turn
  obtain ⟨h1, h2⟩ := ck.2 _ _ hq3 h.box
  have hlt := h.lot.lt
  refine ⟨ra, rc, L, co, h1, h2.trans h.free, h.lot.ck ck (fun k hk => hqs k (hlt k hk) (h.ne k hk).2) (fun x hx k hk => hqs k (h.lot.rows x hx k hk).2.1 (h.nes x hx k hk)), by rw [ht.on]; exact h.took, fun k hk => ⟨fun hm => ?_, hqs k (hlt k hk) (h.ne k hk).2⟩, fun x hx k hk => hqs k (h.lot.rows x hx k hk).2.1 (h.nes x hx k hk), h.nil, fun x hx => ?_⟩
  · rcases ht.js k hm with e | e
    · exact (h.ne k hk).1 e
    · have := hlt k hk; omega
  · rcases ht.given with e | ⟨y, e, hy, hl, hf⟩
    · rw [e] at hx; cases hx
    · rw [e] at hx
      cases hx
      exact ⟨by rw [ht.on]; exact hy, hl⟩
end Go.Proofs.Ytohkjikhlakglaa
end

/- Recover, by the reference: once, Upto, Changes, Merged. Recover: what follows, as plain values. No statement of the seat is proved here. RecoverGives' walk. RecoverMerges' walk. -/
import Derived.Test.YtebkkdoggagcdaaB10
import Derived.Test.YtebkkdoggagcdaaB2
import Derived.Test.YtebkkdoggagcdaaB11
section
namespace Go.Proofs.Ytebkkdoggagcdaa
open Go.RowKit Go.Hay
attribute [local go_sem] Oper.semAt_some
set_option linter.unusedVariables false
set_option linter.unusedSimpArgs false

theorem put_same : ∀ {l : List Vn}, Srt l → ∀ {i : Int × Int} {x : Vn}, lk l i = some x → ∀ v : Vn, l.take (kOf l i) ++ v :: l.drop (kOf l i + 1) = l.map (fun z => if z.id = i then v else z)
  | [], _, i, x, h, v => by cases h
  | y :: l, hs, i, x, h, v => by
    have hs' := List.pairwise_cons.1 hs
    rw [kOf_cons]
    by_cases hy : ltI y.id i = true
    · rw [if_pos hy, List.map_cons, if_neg (ltI_ne hy)]
      rw [lk_cons, if_neg (ltI_ne hy)] at h
      rw [← put_same hs'.2 h v]
      rfl
    · have hy' : ltI y.id i = false := by simpa using hy
      rw [if_neg hy, kOf_zero hs hy']
      have hyi : y.id = i := by
        by_cases e : y.id = i
        · exact e
        · rw [lk_cons, if_neg e] at h
          have := hs'.1 x (lk_mem h)
          rw [lk_id h, hy'] at this
          cases this
      rw [List.map_cons, if_pos hyi]
      have : l.map (fun z => if z.id = i then v else z) = l := by
        conv => rhs; rw [← List.map_id l]
        apply List.map_congr_left
        intro z hz
        have h1 := hs'.1 z hz
        rw [hyi] at h1
        show (if z.id = i then v else z) = z
        rw [if_neg (fun e => (ltI_ne h1) e.symm)]
      rw [this]
      rfl
theorem stMg_put {o : List Vn} (hs : Srt o) {y x : Vn} (h : lk o y.id = some x) (hd : x.del = 0) : stMg o y = o.take (kOf o y.id) ++ erased x y.del :: o.drop (kOf o y.id + 1) := by
  rw [put_same hs h (erased x y.del)]
  unfold stMg
  rw [h]
  dsimp only
  rw [if_pos hd]
  apply List.map_congr_left
  intro z hz
  by_cases e : z.id = y.id
  · rw [if_pos e, if_pos e]
    have := srt_lk hs hz
    rw [e, h] at this
    cases this
    rfl
  · rw [if_neg e, if_neg e]
theorem lk_at {l : List Vn} (hs : Srt l) {i : Int × Int} {x : Vn} (h : lk l i = some x) : l[kOf l i]? = some x := by
  obtain ⟨y, hy, e⟩ := has_at hs i (by rw [has_lk, h]; rfl)
  have := srt_lk hs (List.mem_of_getElem? hy)
  rw [e, h] at this
  cases this
  exact hy
theorem once_snoc {l : List Vn} {j : Nat} (h : j < l.length) : onceV (l.take (j + 1)) = stO (onceV (l.take j)) l[j] := by
  rw [List.take_succ_eq_append_getElem h, onceV_snoc]
theorem has_bool (o : List Vn) (i : Int × Int) (r : Int) (hs : Srt o) (h : PlcP o i r) : decide (r < 0) = !hasV o i ∧ -1 ≤ r ∧ r ≤ o.length := by
  cases e : hasV o i with
  | false => rw [h.no e]; exact ⟨rfl, by omega, by omega⟩
  | true =>
    rw [h.yes hs e]
    have := kOf_le o i
    exact ⟨by simp, by omega, by omega⟩
set_option maxHeartbeats 16000000 in
set_option maxRecDepth 100000 in
theorem rOnce (a : Option Addr) (c : Nat) (l : List Vn) (w : World) (hs : VnE.See w a l) (hl : l.length ≤ 4000000000000) :
    Calls Try.prog 28 #[.slice a l.length c] w (CloneP VnE (onceV l) w) := by
  have HS := hid hs
  obtain ⟨F, hF⟩ : ∃ F, Hid (onceV l = F) := ⟨_, hid rfl⟩
  rw [hF.out]
  clear hs
  go_enter Try.func28, Try.ntmps28
  go_wp2_with fail
  go_loopw [3, 4] (fun v3 i wr => ∃ (j : Nat) (ra : Option Addr) (rc : Nat) (O : List Vn), j ≤ l.length ∧ i = .int .i64 (j : Int) ∧ v3 = .slice ra O.length rc ∧ Hid (onceV (l.take j) = O) ∧ Hid (VnE.Row wr (.slice ra O.length rc) O ∧ Kp [] w wr ∧ ∀ k ∈ blk ra, w.heap.size ≤ k)) (fun _ i _ => l.length - (intOf i).toNat)
  case atStart => exact ⟨0, none, 0, [], Nat.zero_le _, rfl, rfl, hid rfl, hid ⟨.inl ⟨rfl, rfl⟩, Kp.refl _ _, by simp [blk]⟩⟩
  case round =>
    obtain ⟨j, ra, rc, O, hj, rfl, rfl, hO, H⟩ := hrel
    have hOs : Hid (Srt O) := hid (by rw [← hO.out]; exact once_srt _)
    have hOl : O.length ≤ j := by
      have := once_len (l.take j)
      rw [hO.out, List.length_take] at this
      omega
    by_cases hlt : j < l.length
    · have hsn := hid (once_snoc hlt)
      rw [hO.out] at hsn
      obtain ⟨g, o, ea, x0, x1, x2, x3⟩ := idAt (HS.out.keptNew H.out.2.1) (i := j) (x := l[j]) (by simp [hlt])
      obtain ⟨x, hx⟩ : ∃ x, Hid (l[j] = x) := ⟨l[j], hid rfl⟩
      rw [hx.out] at x0 x1 x2 x3 hsn
      have cP := hid (rPlace ra rc O x.ep x.num wr (See.ofRow H.out.1) (by omega))
      have cU := hid (fun W (k : Kp [] wr W) => rPut ra rc O x W (See.ofRow (H.out.1.keptNew k)) hOs.out (by omega))
      have hsl := hid (fun e : hasV O x.id = true => (by rw [hsn.out]; unfold stO; rw [if_pos e] : onceV (l.take (j + 1)) = O))
      have hsr := hid (fun e : hasV O x.id = false => (by rw [hsn.out]; unfold stO; rw [e]; rfl : onceV (l.take (j + 1)) = insV O x))
      have hbb := hid (fun r (h : PlcP O x.id r) => has_bool O x.id r hOs.out h)
      have hput := hid (fun e : hasV O x.id = false => (by rw [e]; rfl : O.take (kOf O x.id) ++ x :: O.drop (kOf O x.id + (if hasV O x.id = true then 1 else 0)) = insV O x))
      obtain ⟨xe, xn, xa, xc, xr, xd⟩ := x
      dsimp only at x0 x1 x2 x3 cP
      have i1 : (0 : Int) ≤ (j : Int) := by omega
      have i2 : (j : Int) < (l.length : Int) := by omega
      have i3 : (j : Int) + 1 ≤ 9223372036854775807 := by omega
      subst ea
      clear hsn
      go_wp2_with fail
      refine cP.out.mono ?_
      rintro e w3 ⟨r, rfl, hP, k3⟩
      obtain ⟨hb1, hb2, hb3⟩ := hbb.out r hP
      have K3 := hid (H.out.2.1.trans k3 (by simp))
      have k3' := hid k3
      have y0 := kpAt k3 x0; have y1 := kpAt k3 x1; have y2 := kpAt k3 x2; have y3 := kpAt k3 x3
      cases hh : hasV O (xe, xn) with
      | true =>
        rw [show hasV O (⟨xe, xn, xa, xc, xr, xd⟩ : Vn).id = true from hh] at hb1
        have hn := hid (hsl.out hh)
        have HF : Hid (VnE.Row w3 (.slice ra O.length rc) O ∧ Kp [] w w3 ∧ ∀ k ∈ blk ra, w.heap.size ≤ k) := hid ⟨H.out.1.keptNew k3, K3.out, H.out.2.2⟩
        clear hh hP k3 x0 x1 x2 x3 cP cU hbb
        rw [Bool.not_true] at hb1
        go_wp2_with fail
        go_roundw
        case rel => exact ⟨j + 1, ra, rc, O, by omega, by go_num, rfl, hn, HF⟩
        case measure => simp [intOf]; omega
      | false =>
        rw [show hasV O (⟨xe, xn, xa, xc, xr, xd⟩ : Vn).id = false from hh] at hb1
        have hn := hid (hsr.out hh)
        have cU2 := hid (cU.out w3 k3)
        have hp := hput.out hh
        simp only [hp] at cU2
        obtain ⟨O4, hO4⟩ : ∃ O4, Hid (insV O (⟨xe, xn, xa, xc, xr, xd⟩ : Vn) = O4) := ⟨_, hid rfl⟩
        rw [hO4.out] at hn cU2
        clear hh hP k3 x0 x1 x2 x3 cP cU hbb hp
        rw [Bool.not_false] at hb1
        go_wp2_with fail
        refine cU2.out.mono ?_
        rintro e w4 ⟨a4, c4, rfl, hr4, k4, hn4⟩
        have HF : Hid (VnE.Row w4 (.slice a4 O4.length c4) O4 ∧ Kp [] w w4 ∧ ∀ k ∈ blk a4, w.heap.size ≤ k) := hid ⟨hr4, K3.out.trans k4 (by simp), fun k hk => Nat.le_trans K3.out.size (hn4 k hk)⟩
        clear hr4 k4 hn4 cU2
        go_wp2_with fail
        go_roundw
        case rel => exact ⟨j + 1, a4, c4, O4, by omega, by go_num, rfl, hn, HF⟩
        case measure => simp [intOf]; omega
    · obtain rfl : j = l.length := by omega
      have hfin : Hid (O = F) := hid (by rw [← hO.out, List.take_length, hF.out])
      clear hOl
      go_wp2_with fail
      go_ret
      rw [← hfin.out]
      exact ⟨ra, rc, rfl, H.out.1, H.out.2.1, H.out.2.2⟩
theorem uptoR_snoc (e : Int) {O : List Vn} {j : Nat} (h : j < O.length) : ((O.take (j + 1)).filter (epL e)).map (asV e) = ((O.take j).filter (epL e)).map (asV e) ++ (if epL e O[j] = true then [asV e O[j]] else []) := by
  rw [List.take_succ_eq_append_getElem h, List.filter_append, List.map_append]
  congr 1
  by_cases c : epL e O[j] = true <;> simp [c]
/-- How a gathering of versions stands, as they are. -/
def GR (w : World) (ra : Option Addr) (rc : Nat) (O : List Vn) (W : World) : Prop := VnE.Row W (.slice ra O.length rc) O ∧ Kp [] w W ∧ ∀ k ∈ blk ra, w.heap.size ≤ k
theorem GR.kp {w : World} {ra : Option Addr} {rc : Nat} {O : List Vn} {W W' : World} (h : GR w ra rc O W) (k : Kp [] W W') : GR w ra rc O W' := ⟨h.1.keptNew k, h.2.1.trans k (by simp), h.2.2⟩
theorem GR.app {w : World} {ra : Option Addr} {rc : Nat} {L : List Vn} {W : World} (h : GR w ra rc L W) (x : Vn) (q : Nat) (hq : W.heap.size = q) (hL : L.length ≤ 4000000000002) :
    ∃ a' c' w', (Builtin.append_ #[22, 22] 22 #[.slice ra L.length rc, .slice (some ⟨q, 0, none⟩) 1 1]).run Try.prog (W.alloc (.cells #[.int .u64 x.ep, .int .u32 x.num, .slice x.a x.row.length x.c, .int .u64 x.del] 34)) = .ok (.slice a' (L ++ [x]).length c') w' ∧ GR w a' c' (L ++ [x]) w' := by
  obtain ⟨a', c', w', hrun, hr, hk, hn⟩ := appV W L ra rc x q hq h.1 hL
  exact ⟨a', c', w', hrun, hr, h.2.1.trans hk (fun x hx => .inr (h.2.2 x hx)), fun k hk' => by
    rcases hn k hk' with e | e
    · exact h.2.2 k e
    · exact Nat.le_trans h.2.1.size e⟩
set_option maxHeartbeats 16000000 in
set_option maxRecDepth 100000 in
theorem rUpto (a : Option Addr) (c : Nat) (l : List Vn) (ep : Int) (w : World) (hs : VnE.See w a l) (hl : l.length ≤ 4000000000000) :
    Calls Try.prog 14 #[.slice a l.length c, .int .u64 ep] w (CloneP VnE (uptoV l ep) w) := by
  have cB := hid (rOnce a c l w hs hl)
  obtain ⟨O, hO⟩ : ∃ O, Hid (onceV l = O) := ⟨_, hid rfl⟩
  have hOl : O.length ≤ 4000000000000 := by have := once_len l; rw [hO.out] at this; omega
  have hU : Hid (uptoV l ep = (O.filter (epL ep)).map (asV ep)) := hid (by unfold uptoV; rw [hO.out])
  obtain ⟨U, hU2⟩ : ∃ U, Hid (uptoV l ep = U) := ⟨_, hid rfl⟩
  rw [hU2.out] at hU ⊢
  rw [hO.out] at cB
  clear hs hl
  go_enter Try.func14, Try.ntmps14
  go_wp2_with fail
  refine cB.out.mono ?_
  rintro e w2 ⟨a2, c2, rfl, hrow, k2, hnw⟩
  have hS2 := hid (See.ofRow hrow)
  have K2 := hid k2
  clear cB hrow k2 hnw
  go_wp2_with fail
  go_loopw [5, 7] (fun v5 i wr => ∃ (j : Nat) (ra : Option Addr) (rc : Nat) (M : List Vn), j ≤ O.length ∧ i = .int .i64 (j : Int) ∧ v5 = .slice ra M.length rc ∧ Hid (M = ((O.take j).filter (epL ep)).map (asV ep)) ∧ Hid (GR w2 ra rc M wr)) (fun _ i _ => O.length - (intOf i).toNat)
  case atStart => exact ⟨0, none, 0, [], Nat.zero_le _, rfl, rfl, hid rfl, hid ⟨.inl ⟨rfl, rfl⟩, Kp.refl _ _, by simp [blk]⟩⟩
  case round =>
    obtain ⟨j, ra, rc, M, hj, rfl, rfl, hlk, H⟩ := hrel
    have hMl : M.length ≤ j := by
      have h1 := congrArg List.length hlk.out
      rw [List.length_map] at h1
      have h2 := List.length_filter_le (epL ep) (O.take j)
      rw [List.length_take] at h2
      omega
    by_cases hlt : j < O.length
    · have hsn := hid (uptoR_snoc ep hlt)
      rw [← hlk.out] at hsn
      obtain ⟨g, o, ea, x0, x1, x2, x3⟩ := idAt (hS2.out.keptNew H.out.2.1) (i := j) (x := O[j]) (by simp [hlt])
      obtain ⟨x, hx⟩ : ∃ x, Hid (O[j] = x) := ⟨O[j], hid rfl⟩
      rw [hx.out] at x0 x1 x2 x3 hsn
      have cA := hid (rAs x ep wr)
      have hepx : Hid (epL ep x = decide (x.ep ≤ ep)) := hid rfl
      obtain ⟨Y, hY⟩ : ∃ Y, Hid (asV ep x = Y) := ⟨_, hid rfl⟩
      rw [hY.out] at hsn cA
      obtain ⟨xe, xn, xa, xc, xr, xd⟩ := x
      dsimp only at x0 x1 x2 x3 hepx
      simp only [Vn.v] at cA
      have i1 : (0 : Int) ≤ (j : Int) := by omega
      have i2 : (j : Int) < (O.length : Int) := by omega
      have i3 : (j : Int) + 1 ≤ 9223372036854775807 := by omega
      subst ea
      by_cases hep : xe ≤ ep
      · have d1 : decide (xe ≤ ep) = true := decide_eq_true hep
        have hsn2 : Hid (M ++ [Y] = ((O.take (j + 1)).filter (epL ep)).map (asV ep)) := hid (by rw [hsn.out, if_pos (by rw [hepx.out]; exact d1)])
        have hzM : M.length ≤ 4000000000002 := by omega
        clear hep hepx hsn
        go_wp2_with fail
        refine cA.out.mono ?_
        rintro e w3 ⟨rfl, k9⟩
        obtain ⟨q8, hq8⟩ : ∃ q, w3.heap.size = q := ⟨_, rfl⟩
        obtain ⟨a4, c4, W4, hrun, hg4⟩ := (H.out.kp k9).app Y q8 hq8 hzM
        obtain ⟨M4, hM4⟩ : ∃ M4, Hid (M ++ [Y] = M4) := ⟨_, hid rfl⟩
        rw [hM4.out] at hrun hg4 hsn2
        have HF := hid hg4
        clear k9 hg4 cA
        go_wp2_with (first | (refine wpAppRun rfl _ _ 22 22 rfl _ _ _ rfl rfl hrun ?_) | fail)
        go_roundw
        case rel => exact ⟨j + 1, a4, c4, M4, by omega, by go_num, rfl, hsn2, HF⟩
        case measure => simp [intOf]; omega
      · have d1 : decide (xe ≤ ep) = false := decide_eq_false hep
        have hsn2 : Hid (M = ((O.take (j + 1)).filter (epL ep)).map (asV ep)) := hid (by rw [hsn.out, if_neg (by rw [hepx.out, d1]; simp), List.append_nil])
        clear hep hepx hsn cA
        go_wp2_with fail
        go_roundw
        case rel => exact ⟨j + 1, ra, rc, M, by omega, by go_num, rfl, hsn2, H⟩
        case measure => simp [intOf]; omega
    · obtain rfl : j = O.length := by omega
      have hfin : Hid (M = U) := hid (by have := hlk.out; rw [List.take_length] at this; rw [hU.out]; exact this)
      clear hMl
      go_wp2_with fail
      go_ret
      rw [← hfin.out]
      exact ⟨ra, rc, rfl, H.out.1, K2.out.trans H.out.2.1 (by simp), fun k hk => Nat.le_trans K2.out.size (H.out.2.2 k hk)⟩
theorem chgF_snoc2 (s : Int) {O : List Vn} {j : Nat} (h : j < O.length) : chgF s (O.take (j + 1)) = chgF s (O.take j) ++ (if behS s O[j] = true then [O[j]] else []) := by
  rw [List.take_succ_eq_append_getElem h]
  unfold chgF
  rw [List.filter_append]
  by_cases c : behS s O[j] = true <;> simp [c]
set_option maxHeartbeats 16000000 in
set_option maxRecDepth 100000 in
theorem rChanges (a : Option Addr) (c : Nat) (l : List Vn) (since ep : Int) (w : World) (hs : VnE.See w a l) (hl : l.length ≤ 4000000000000) :
    Calls Try.prog 15 #[.slice a l.length c, .int .u64 since, .int .u64 ep] w (CloneP VnE (chgV l since ep) w) := by
  have cB := hid (rUpto a c l ep w hs hl)
  obtain ⟨O, hO⟩ : ∃ O, Hid (uptoV l ep = O) := ⟨_, hid rfl⟩
  have hOl : O.length ≤ 4000000000000 := by have := upto_len l ep; rw [hO.out] at this; omega
  have hU : Hid (chgV l since ep = chgF since O) := hid (by unfold chgV; rw [hO.out])
  obtain ⟨U, hU2⟩ : ∃ U, Hid (chgV l since ep = U) := ⟨_, hid rfl⟩
  rw [hU2.out] at hU ⊢
  rw [hO.out] at cB
  clear hs hl
  go_enter Try.func15, Try.ntmps15
  go_wp2_with fail
  refine cB.out.mono ?_
  rintro e w2 ⟨a2, c2, rfl, hrow, k2, hnw⟩
  have hS2 := hid (See.ofRow hrow)
  have K2 := hid k2
  clear cB hrow k2 hnw
  go_wp2_with fail
  go_loopw [7, 9] (fun v5 i wr => ∃ (j : Nat) (ra : Option Addr) (rc : Nat) (M : List Vn), j ≤ O.length ∧ i = .int .i64 (j : Int) ∧ v5 = .slice ra M.length rc ∧ Hid (M = chgF since (O.take j)) ∧ Hid (GR w2 ra rc M wr)) (fun _ i _ => O.length - (intOf i).toNat)
  case atStart => exact ⟨0, none, 0, [], Nat.zero_le _, rfl, rfl, hid rfl, hid ⟨.inl ⟨rfl, rfl⟩, Kp.refl _ _, by simp [blk]⟩⟩
  case round =>
    obtain ⟨j, ra, rc, M, hj, rfl, rfl, hlk, H⟩ := hrel
    have hMl : M.length ≤ j := by
      have h1 := congrArg List.length hlk.out
      have h2 := chgF_len (O.take j) since
      rw [List.length_take] at h2
      omega
    by_cases hlt : j < O.length
    · have hsn := hid (chgF_snoc2 since hlt)
      rw [← hlk.out] at hsn
      obtain ⟨g, o, ea, x0, x1, x2, x3⟩ := idAt (hS2.out.keptNew H.out.2.1) (i := j) (x := O[j]) (by simp [hlt])
      obtain ⟨x, hx⟩ : ∃ x, Hid (O[j] = x) := ⟨O[j], hid rfl⟩
      rw [hx.out] at x0 x1 x2 x3 hsn
      have hbx : Hid (behS since x = (decide (since < x.ep) || decide (since < x.del))) := hid rfl
      obtain ⟨q8, hq8⟩ : ∃ q, wr.heap.size = q := ⟨_, rfl⟩
      obtain ⟨a4, c4, W4, hrun, hg4⟩ := H.out.app x q8 hq8 (by omega)
      obtain ⟨M4, hM4⟩ : ∃ M4, Hid (M ++ [x] = M4) := ⟨_, hid rfl⟩
      rw [hM4.out] at hrun hg4
      have HF := hid hg4
      have hyes : Hid (behS since x = true → M4 = chgF since (O.take (j + 1))) := hid fun e => by rw [hsn.out, if_pos e, hM4.out]
      have hno : Hid (behS since x = false → M = chgF since (O.take (j + 1))) := hid fun e => by rw [hsn.out, if_neg (by rw [e]; simp), List.append_nil]
      obtain ⟨xe, xn, xa, xc, xr, xd⟩ := x
      dsimp only at x0 x1 x2 x3 hbx hrun
      have i1 : (0 : Int) ≤ (j : Int) := by omega
      have i2 : (j : Int) < (O.length : Int) := by omega
      have i3 : (j : Int) + 1 ≤ 9223372036854775807 := by omega
      subst ea
      clear hsn hg4 hMl
      by_cases h1 : since < xe
      · have d1 : decide (xe > since) = true := decide_eq_true h1
        have d2 : decide (since < xe) = true := decide_eq_true h1
        have hn := hid (hyes.out (by rw [hbx.out, d2]; rfl))
        clear h1 hyes hno hbx
        go_wp2_with (first | (refine wpAppRun rfl _ _ 22 22 rfl _ _ _ rfl rfl hrun ?_) | fail)
        go_roundw
        case rel => exact ⟨j + 1, a4, c4, M4, by omega, by go_num, rfl, hn, HF⟩
        case measure => simp [intOf]; omega
      · have d1 : decide (xe > since) = false := decide_eq_false h1
        have d2 : decide (since < xe) = false := decide_eq_false h1
        by_cases h2 : since < xd
        · have d3 : decide (xd > since) = true := decide_eq_true h2
          have d4 : decide (since < xd) = true := decide_eq_true h2
          have hn := hid (hyes.out (by rw [hbx.out, d4]; simp))
          clear h1 h2 hyes hno hbx
          go_wp2_with (first | (refine wpAppRun rfl _ _ 22 22 rfl _ _ _ rfl rfl hrun ?_) | fail)
          go_roundw
          case rel => exact ⟨j + 1, a4, c4, M4, by omega, by go_num, rfl, hn, HF⟩
          case measure => simp [intOf]; omega
        · have d3 : decide (xd > since) = false := decide_eq_false h2
          have d4 : decide (since < xd) = false := decide_eq_false h2
          have hn := hid (hno.out (by rw [hbx.out, d4, d2]; rfl))
          clear h1 h2 hyes hno hbx hrun
          go_wp2_with fail
          go_roundw
          case rel => exact ⟨j + 1, ra, rc, M, by omega, by go_num, rfl, hn, H⟩
          case measure => simp [intOf]; omega
    · obtain rfl : j = O.length := by omega
      have hfin : Hid (M = U) := hid (by have := hlk.out; rw [List.take_length] at this; rw [hU.out]; exact this)
      clear hMl
      go_wp2_with fail
      go_ret
      rw [← hfin.out]
      exact ⟨ra, rc, rfl, H.out.1, K2.out.trans H.out.2.1 (by simp), fun k hk => Nat.le_trans K2.out.size (H.out.2.2 k hk)⟩
theorem foldM_snoc (o : List Vn) {m : List Vn} {j : Nat} (h : j < m.length) : (m.take (j + 1)).foldl stMg o = stMg ((m.take j).foldl stMg o) m[j] := by
  rw [List.take_succ_eq_append_getElem h, List.foldl_append]
  rfl
set_option maxHeartbeats 16000000 in
set_option maxRecDepth 100000 in
theorem rMerged (a b : Option Addr) (ca cb : Nat) (l m : List Vn) (w : World) (hs : VnE.See w a l) (ht : VnE.See w b m) (hl : l.length + m.length ≤ 4000000000000) :
    Calls Try.prog 17 #[.slice a l.length ca, .slice b m.length cb] w (CloneP VnE (mrgV l m) w) := by
  have cA := hid (rOnce a ca l w hs (by omega))
  have cB := hid (fun W (k : Kp [] w W) => rOnce b cb m W (ht.keptNew k) (by omega))
  obtain ⟨O, hO⟩ : ∃ O, Hid (onceV l = O) := ⟨_, hid rfl⟩
  obtain ⟨A, hA⟩ : ∃ A, Hid (onceV m = A) := ⟨_, hid rfl⟩
  have hAs : Hid (Srt A) := hid (by rw [← hA.out]; exact once_srt m)
  have hOs : Hid (Srt O) := hid (by rw [← hO.out]; exact once_srt l)
  have hOl : O.length + A.length ≤ 4000000000000 := by have h1 := once_len l; have h2 := once_len m; rw [hO.out] at h1; rw [hA.out] at h2; omega
  have hU : Hid (mrgV l m = A.foldl stMg O) := hid (by rw [← mrg_ref, hO.out, hA.out])
  obtain ⟨U, hU2⟩ : ∃ U, Hid (mrgV l m = U) := ⟨_, hid rfl⟩
  rw [hU2.out] at hU ⊢
  rw [hO.out] at cA
  simp only [hA.out] at cB
  clear hs ht hl
  go_enter Try.func17, Try.ntmps17
  go_wp2_with fail
  refine cA.out.mono ?_
  rintro e w1 ⟨a1, c1, rfl, hrow1, k1, hnw1⟩
  have H1 := hid (And.intro hrow1 hnw1)
  have K1 := hid k1
  have cB1 := hid (cB.out w1 k1)
  clear cA cB hrow1 k1 hnw1
  go_wp2_with fail
  refine cB1.out.mono ?_
  rintro e w2 ⟨a2, c2, rfl, hrow, k2, hnw⟩
  have hS2 := hid (See.ofRow hrow)
  have K2 := hid (K1.out.trans k2 (by simp))
  have H0 : Hid (VnE.Row w2 (.slice a1 O.length c1) O ∧ Kp [] w w2 ∧ ∀ k ∈ blk a1, w.heap.size ≤ k) := hid ⟨H1.out.1.keptNew k2, K2.out, H1.out.2⟩
  clear cB1 hrow k2 hnw H1 K1
  go_wp2_with fail
  go_loopw [5, 7] (fun v5 i wr => ∃ (j : Nat) (ra : Option Addr) (rc : Nat) (M : List Vn), j ≤ A.length ∧ i = .int .i64 (j : Int) ∧ v5 = .slice ra M.length rc ∧ Hid (M = (A.take j).foldl stMg O) ∧ Hid (GR w ra rc M wr ∧ Kp [] w2 wr)) (fun _ i _ => A.length - (intOf i).toNat)
  case atStart => exact ⟨0, a1, c1, O, Nat.zero_le _, rfl, rfl, hid rfl, hid ⟨H0.out, Kp.refl _ _⟩⟩
  case round =>
    obtain ⟨j, ra, rc, M, hj, rfl, rfl, hlk, H⟩ := hrel
    clear H0
    obtain ⟨hMs0, _, hMl0⟩ := fold_m (A.take j) O hOs.out (List.Pairwise.sublist (List.take_sublist _ _) hAs.out)
    rw [← hlk.out, List.length_take] at hMl0
    rw [← hlk.out] at hMs0
    have hMs := hid hMs0
    clear hMs0
    have hMl : M.length ≤ O.length + j := by omega
    by_cases hlt : j < A.length
    · have hsn := hid (foldM_snoc O hlt)
      rw [← hlk.out] at hsn
      obtain ⟨g, o, ea, x0, x1, x2, x3⟩ := idAt (hS2.out.keptNew H.out.2) (i := j) (x := A[j]) (by simp [hlt])
      obtain ⟨y, hy⟩ : ∃ y, Hid (A[j] = y) := ⟨A[j], hid rfl⟩
      rw [hy.out] at x0 x1 x2 x3 hsn
      have cP := hid (rPlace ra rc M y.ep y.num wr (See.ofRow H.out.1.1) (by omega))
      have cU := hid (fun v W (k : Kp [] wr W) => rPut ra rc M v W (See.ofRow (H.out.1.1.keptNew k)) hMs.out (by omega))
      have hbb := hid (fun r (h : PlcP M y.id r) => has_bool M y.id r hMs.out h)
      have hyes := hid (fun r (h : PlcP M y.id r) (e : hasV M y.id = true) => h.yes hMs.out e)
      have hput := hid (fun e : hasV M y.id = false => (by rw [e]; rfl : M.take (kOf M y.id) ++ y :: M.drop (kOf M y.id + (if hasV M y.id = true then 1 else 0)) = insV M y))
      have hfalse : Hid (hasV M y.id = false → (A.take (j + 1)).foldl stMg O = insV M y) := hid fun e => by
        rw [hsn.out]; unfold stMg
        cases e2 : lk M y.id with
        | none => rfl
        | some z => rw [has_lk, e2] at e; cases e
      have htrue : Hid (∀ x : Vn, lk M y.id = some x → x.del ≠ 0 → (A.take (j + 1)).foldl stMg O = M) := hid fun x e hd => by
        rw [hsn.out]; unfold stMg
        rw [e]
        dsimp only
        rw [if_neg hd]
      have hera : Hid (∀ x : Vn, lk M y.id = some x → x.del = 0 → (A.take (j + 1)).foldl stMg O = M.take (kOf M (erased x y.del).id) ++ erased x y.del :: M.drop (kOf M (erased x y.del).id + (if hasV M (erased x y.del).id = true then 1 else 0))) := hid fun x e hd => by
        have hid2 : (erased x y.del).id = y.id := (lk_id e : x.id = y.id)
        rw [hsn.out, stMg_put hMs.out e hd, hid2, has_lk, e]
        rfl
      have hkl := kOf_le M y.id
      obtain ⟨ye, yn, ya, yc, yr, yd⟩ := y
      dsimp only at x0 x1 x2 x3 cP
      have i1 : (0 : Int) ≤ (j : Int) := by omega
      have i2 : (j : Int) < (A.length : Int) := by omega
      have i3 : (j : Int) + 1 ≤ 9223372036854775807 := by omega
      subst ea
      clear hsn
      go_wp2_with fail
      refine cP.out.mono ?_
      rintro e w3 ⟨r, rfl, hP, k3⟩
      obtain ⟨hb1, hb2, hb3⟩ := hbb.out r hP
      have K3 := hid (H.out.1.2.1.trans k3 (by simp))
      have K23 := hid (H.out.2.trans k3 (by simp))
      have k3' := hid k3
      have y0 := kpAt k3 x0; have y1 := kpAt k3 x1; have y2 := kpAt k3 x2; have y3 := kpAt k3 x3
      have HG3 := hid (H.out.1.kp k3)
      cases hh : lk M (ye, yn) with
      | none =>
        have hh' : hasV M (⟨ye, yn, ya, yc, yr, yd⟩ : Vn).id = false := by rw [has_lk]; show (lk M (ye, yn)).isSome = false; rw [hh]; rfl
        rw [hh', Bool.not_false] at hb1
        have hn := hid (hfalse.out hh')
        have cU2 := hid (cU.out ⟨ye, yn, ya, yc, yr, yd⟩ w3 k3)
        have hp := hput.out hh'
        simp only [hp] at cU2
        obtain ⟨O4, hO4⟩ : ∃ O4, Hid (insV M (⟨ye, yn, ya, yc, yr, yd⟩ : Vn) = O4) := ⟨_, hid rfl⟩
        rw [hO4.out] at hn cU2
        clear hh hh' hP k3 x0 x1 x2 x3 cP cU hbb hp hkl hMl0 hyes hput hfalse htrue hera
        go_wp2_with fail
        refine cU2.out.mono ?_
        rintro e w4 ⟨a4, c4, rfl, hr4, k4, hn4⟩
        have HF : Hid (GR w a4 c4 O4 w4 ∧ Kp [] w2 w4) := hid ⟨⟨hr4, K3.out.trans k4 (by simp), fun k hk => Nat.le_trans K3.out.size (hn4 k hk)⟩, K23.out.trans k4 (by simp)⟩
        clear hr4 k4 hn4 cU2
        go_wp2_with fail
        go_roundw
        case rel => exact ⟨j + 1, a4, c4, O4, by omega, by go_num, rfl, hid hn.out.symm, HF⟩
        case measure => simp [intOf]; omega
      | some x =>
        have hh' : hasV M (⟨ye, yn, ya, yc, yr, yd⟩ : Vn).id = true := by rw [has_lk]; show (lk M (ye, yn)).isSome = true; rw [hh]; rfl
        rw [hh', Bool.not_true] at hb1
        have hr := hyes.out r hP hh'
        obtain ⟨kk, hkk⟩ : ∃ kk, Hid (kOf M (⟨ye, yn, ya, yc, yr, yd⟩ : Vn).id = kk) := ⟨_, hid rfl⟩
        rw [hkk.out] at hr hkl
        have hat := lk_at hMs.out (i := (⟨ye, yn, ya, yc, yr, yd⟩ : Vn).id) (x := x) hh
        rw [hkk.out] at hat
        have hkM : kk < M.length := (List.getElem?_eq_some_iff.1 hat).1
        obtain ⟨g9, o9, ea9, z0, z1, z2, z3⟩ := idAt (See.ofRow HG3.out.1) hat
        subst hr
        have hfalse2 := hid (fun hd : x.del ≠ 0 => htrue.out x hh hd)
        have htrue2 := hid (fun hd : x.del = 0 => hera.out x hh hd)
        have cU3 := hid (fun W (k : Kp [] w3 W) => cU.out (erased x yd) W (k3'.out.trans k (by simp)))
        obtain ⟨xe, xn, xa, xc, xr, xd⟩ := x
        dsimp only at z0 z1 z2 z3 hfalse2 htrue2
        have i4 : (0 : Int) ≤ (kk : Int) := by omega
        have i5 : (kk : Int) < (M.length : Int) := by omega
        have n1 : decide ((kk : Int) < 0) = false := by simp
        clear hh hh' hP k3 x0 x1 x2 x3 cP cU hbb hkl hMl0 hyes hput hfalse htrue hera hat hb1 hb2 hb3 hkk
        subst ea9
        by_cases hd : xd = 0
        · have e1 : (xd == 0) = true := by simpa using hd
          have hn := hid (htrue2.out hd)
          obtain ⟨O4, hO4⟩ : ∃ O4, Hid (M.take (kOf M (erased (⟨xe, xn, xa, xc, xr, xd⟩ : Vn) yd).id) ++ erased (⟨xe, xn, xa, xc, xr, xd⟩ : Vn) yd :: M.drop (kOf M (erased (⟨xe, xn, xa, xc, xr, xd⟩ : Vn) yd).id + (if hasV M (erased (⟨xe, xn, xa, xc, xr, xd⟩ : Vn) yd).id = true then 1 else 0)) = O4) := ⟨_, hid rfl⟩
          simp only [hO4.out] at cU3
          rw [hO4.out] at hn
          obtain ⟨q9, W1, W2, eq9, eW1, b1, eW2, b2, kW2⟩ := boxVn w3 xe xn xa xr.length xc xd
          have m0 := b1.get 0 _ rfl; have m1 := b1.get 1 _ rfl; have m2 := b1.get 2 _ rfl; have m3 := b1.get 3 _ rfl
          have f0 := b1.free 0; have f1 := b1.free 1; have f2 := b1.free 2; have f3 := b1.free 3
          have kA1 : Kp [] w3 W1 := by rw [← eW1]; exact (Kp.refl [] w3).alloc _
          have g0 := kpAt kA1 z0; have g1 := kpAt kA1 z1; have g2 := kpAt kA1 z2; have g3 := kpAt kA1 z3
          have h3 := kpAt kW2 y3
          have v3 := b2.get 3 _ rfl; have vf3 := b2.free 3
          obtain ⟨W3, eW3⟩ : ∃ Y, W2.setCell ⟨q9, 3, none⟩ (.int .u64 yd) = Y := ⟨_, rfl⟩
          have k3 : Kp [q9] W2 W3 := by rw [← eW3]; exact (Kp.refl _ _).setCell (by simp) _
          have b3 : Bn W3 q9 [.int .u64 xe, .int .u32 xn, .slice xa xr.length xc, .int .u64 yd] := by rw [← eW3]; exact b2.set 3 (by simp) _
          have p0 := b3.get 0 _ rfl; have p1 := b3.get 1 _ rfl; have p2 := b3.get 2 _ rfl; have p3 := b3.get 3 _ rfl
          have kw33 : Kp [] w3 W3 := kW2.trans k3 (fun x hx => .inr (by simp at hx; omega))
          have cU4 := hid (cU3.out W3 kw33)
          simp only [erased] at cU4
          have K33 := hid (K3.out.trans kw33 (by simp))
          have K43 := hid (K23.out.trans kw33 (by simp))
          clear hd kA1 kW2 k3 b1 b2 b3 kw33 cU3 hfalse2 htrue2
          go_wp2_with fail
          refine cU4.out.mono ?_
          rintro e w4 ⟨a4, c4, rfl, hr4, k4, hn4⟩
          have HF : Hid (GR w a4 c4 O4 w4 ∧ Kp [] w2 w4) := hid ⟨⟨hr4, K33.out.trans k4 (by simp), fun k hk => Nat.le_trans K33.out.size (hn4 k hk)⟩, K43.out.trans k4 (by simp)⟩
          clear hr4 k4 hn4 cU4
          go_wp2_with fail
          go_roundw
          case rel => exact ⟨j + 1, a4, c4, O4, by omega, by go_num, rfl, hid hn.out.symm, HF⟩
          case measure => simp [intOf]; omega
        · have e1 : (xd == 0) = false := by simpa using hd
          have hn := hid (hfalse2.out hd)
          have HF : Hid (GR w (some ⟨g9, o9, none⟩) rc M w3 ∧ Kp [] w2 w3) := hid ⟨HG3.out, K23.out⟩
          clear hd cU3 hfalse2 htrue2
          go_wp2_with fail
          go_roundw
          case rel => exact ⟨j + 1, some ⟨g9, o9, none⟩, rc, M, by omega, by go_num, rfl, hid hn.out.symm, HF⟩
          case measure => simp [intOf]; omega
    · obtain rfl : j = A.length := by omega
      have hfin : Hid (M = U) := hid (by have := hlk.out; rw [List.take_length] at this; rw [hU.out]; exact this)
      clear hMl hMl0
      go_wp2_with fail
      go_ret
      rw [← hfin.out]
      exact ⟨ra, rc, rfl, H.out.1.1, H.out.1.2.1, H.out.1.2.2⟩
end Go.Proofs.Ytebkkdoggagcdaa
end

section
namespace Go.Hay
open Go.RowKit
set_option linter.unusedVariables false
set_option linter.unusedSimpArgs false

theorem as_del (e : Int) (x : Vn) : (asV e x).del = if e < x.del then 0 else x.del := by unfold asV; split <;> rfl
theorem as_ep (e : Int) (x : Vn) : (asV e x).ep = x.ep := by unfold asV; split <;> rfl
theorem era_id (x : Vn) (d : Int) : (erased x d).id = x.id := rfl
/-- One step. -/
theorem catch_one (l : List Vn) {s u : Int} (h : s ≤ u) : mrgV (uptoV l s) (chgV l s u) = uptoV l u := by
  refine srt_eq (mrg_srt _ _) (upto_srt _ _) fun i => ?_
  rw [mrg_lkM, upto_lk, upto_lk, chg_lk]
  cases lk l i with
  | none => rfl
  | some x =>
    simp only [Option.filter_some]
    by_cases h1 : x.ep ≤ s
    · have h2 : x.ep ≤ u := by omega
      rw [if_pos (show epL s x = true from decide_eq_true h1), if_pos (show epL u x = true from decide_eq_true h2)]
      simp only [Option.map_some, Option.filter_some]
      have hb : behS s (asV u x) = decide (s < (asV u x).del) := by
        unfold behS
        rw [as_ep]
        simp; omega
      rw [hb, as_del]
      by_cases h3 : x.del ≤ s
      · have e1 : asV s x = x := by unfold asV; rw [if_neg (by omega)]
        have e2 : asV u x = x := by unfold asV; rw [if_neg (by omega)]
        rw [e1, e2, if_neg (show ¬ u < x.del by omega), if_neg (by simpa using h3)]
      · have e1 : asV s x = erased x 0 := by unfold asV; rw [if_pos (by omega)]
        rw [e1]
        by_cases h4 : u < x.del
        · have e2 : asV u x = erased x 0 := by unfold asV; rw [if_pos h4]
          rw [e2, if_pos h4]
          by_cases h5 : s < 0
          · rw [if_pos (by simpa using h5)]; rfl
          · rw [if_neg (by simpa using h5)]
        · have e2 : asV u x = x := by unfold asV; rw [if_neg h4]
          rw [e2, if_neg h4, if_pos (by simp; omega)]
          rfl
    · rw [if_neg (show ¬ epL s x = true by unfold epL; simpa using h1)]
      by_cases h2 : x.ep ≤ u
      · rw [if_pos (show epL u x = true from decide_eq_true h2)]
        simp only [Option.map_some, Option.map_none, Option.filter_some]
        rw [if_pos (by unfold behS; rw [as_ep]; simp; omega)]
      · rw [if_neg (show ¬ epL u x = true by unfold epL; simpa using h2)]
        rfl
/-- Who has nothing gets it whole. -/
theorem catch_whole (l : List Vn) (u : Int) (h0 : ∀ x ∈ l, 0 ≤ x.ep) (h : ∀ x ∈ uptoV l u, x.ep ≠ 0) : mrgV [] (chgV l 0 u) = uptoV l u := by
  refine srt_eq (mrg_srt _ _) (upto_srt _ _) fun i => ?_
  rw [mrg_lkM, chg_lk, ← upto_lk, lk_nil]
  cases hx : lk (uptoV l u) i with
  | none => rfl
  | some y =>
    have h1 := h y (lk_mem hx)
    have h2 : 0 ≤ y.ep := by
      rw [upto_lk] at hx
      cases hz : lk l i with
      | none => rw [hz] at hx; simp at hx
      | some z =>
        rw [hz] at hx
        simp only [Option.filter_some] at hx
        split at hx
        · simp at hx
          rw [← hx, as_ep]
          exact h0 z (lk_mem hz)
        · simp at hx
    have hb : behS 0 y = true := by unfold behS; simp; omega
    simp [Option.filter, hb]
/-- No name comes twice. -/
def Uq (l : List Vn) : Prop := l.Pairwise fun x y => x.id ≠ y.id
theorem uq_filter {l : List Vn} (hs : Uq l) (f : Vn → Bool) (i : Int × Int) : lk (l.filter f) i = (lk l i).filter f := by
  induction l with
  | nil => rfl
  | cons x l ih =>
    have hs' := List.pairwise_cons.1 hs
    have ih := ih hs'.2
    rw [List.filter_cons, lk_cons]
    by_cases e : x.id = i
    · rw [if_pos e]
      by_cases hf : f x = true
      · rw [if_pos hf, lk_cons, if_pos e]; simp [Option.filter, hf]
      · rw [if_neg hf, ih]
        have h1 : lk l i = none := lk_none.2 fun z hz e2 => hs'.1 z hz (e.trans e2.symm)
        rw [h1]; simp [Option.filter, hf]
    · rw [if_neg e]
      by_cases hf : f x = true
      · rw [if_pos hf, lk_cons, if_neg e, ih]
      · rw [if_neg hf, ih]
theorem uq_rev {l : List Vn} (hs : Uq l) (i : Int × Int) : lk l.reverse i = lk l i := by
  induction l with
  | nil => rfl
  | cons x l ih =>
    have hs' := List.pairwise_cons.1 hs
    rw [List.reverse_cons, lk_append, ih hs'.2, lk_cons, lk_cons, lk_nil]
    by_cases e : x.id = i
    · have h1 : lk l i = none := lk_none.2 fun z hz e2 => hs'.1 z hz (e.trans e2.symm)
      rw [h1, if_pos e]; rfl
    · rw [if_neg e, if_neg e]; simp
/-- The first of each name, as they came. -/
def stF (o : List Vn) (x : Vn) : List Vn := if hasV o x.id = true then o else o ++ [x]
def firstV (l : List Vn) : List Vn := l.foldl stF []
theorem firstV_snoc (l : List Vn) (x : Vn) : firstV (l ++ [x]) = stF (firstV l) x := by unfold firstV; rw [List.foldl_append]; rfl
theorem foldF_ok : ∀ (l o : List Vn), Uq o → Uq (l.foldl stF o) ∧ (∀ i, lk (l.foldl stF o) i = (lk o i).or (lk l i)) ∧ (l.foldl stF o).length ≤ o.length + l.length ∧ ∀ x ∈ l.foldl stF o, x ∈ o ∨ x ∈ l
  | [], o, h => ⟨h, fun i => by simp [lk_nil], by simp, fun x hx => .inl hx⟩
  | x :: l, o, h => by
    rw [List.foldl_cons]
    have hs : Uq (stF o x) ∧ (∀ i, lk (stF o x) i = (lk o i).or (lk [x] i)) ∧ (stF o x).length ≤ o.length + 1 ∧ ∀ z ∈ stF o x, z ∈ o ∨ z = x := by
      unfold stF
      by_cases e : hasV o x.id = true
      · rw [if_pos e]
        refine ⟨h, fun i => ?_, by omega, fun z hz => .inl hz⟩
        rw [lk_cons]
        by_cases ei : x.id = i
        · subst ei
          rw [has_lk] at e
          obtain ⟨y, hy⟩ := Option.isSome_iff_exists.1 e
          rw [hy]; rfl
        · rw [if_neg ei, lk_nil]; simp
      · have e' : hasV o x.id = false := by simpa using e
        rw [if_neg e]
        refine ⟨?_, fun i => lk_append _ _ _, by simp, fun z hz => ?_⟩
        · unfold Uq
          rw [List.pairwise_append]
          refine ⟨h, by simp, fun a ha b hb => ?_⟩
          rw [List.mem_singleton.1 hb]
          exact hasNot_at _ e' a ha
        · rcases List.mem_append.1 hz with hz | hz
          · exact .inl hz
          · exact .inr (by simpa using hz)
    obtain ⟨h1, h2, h3, h4⟩ := foldF_ok l (stF o x) hs.1
    refine ⟨h1, fun i => ?_, by simp only [List.length_cons]; omega, fun z hz => ?_⟩
    · rw [h2 i, hs.2.1 i, show x :: l = [x] ++ l from rfl, lk_append]
      cases lk o i <;> rfl
    · rcases h4 z hz with hz | hz
      · rcases hs.2.2.2 z hz with hz | hz
        · exact .inl hz
        · exact .inr (by rw [hz]; exact List.mem_cons_self ..)
      · exact .inr (List.mem_cons_of_mem _ hz)
theorem first_uq (l : List Vn) : Uq (firstV l) := (foldF_ok l [] List.Pairwise.nil).1
theorem first_lk (l : List Vn) (i : Int × Int) : lk (firstV l) i = lk l i := by rw [show firstV l = l.foldl stF [] from rfl, (foldF_ok l [] List.Pairwise.nil).2.1 i]; rfl
theorem first_len (l : List Vn) : (firstV l).length ≤ l.length := by have := (foldF_ok l [] List.Pairwise.nil).2.2.1; simpa [firstV] using this
theorem first_mem {l : List Vn} {x : Vn} (h : x ∈ firstV l) : x ∈ l := by
  rcases (foldF_ok l [] List.Pairwise.nil).2.2.2 x h with h | h
  · cases h
  · exact h
/-- Deleted behind the epoch at which it came, or not at all. -/
def rgt (x : Vn) : Bool := decide (x.del = 0) || decide (x.ep < x.del)
def rightV (l : List Vn) : Bool := l.all rgt
theorem purge_chg {f : List Vn} (hu : Uq f) (hr : rightV f = true) {mark s : Int} (u : Int) (h : mark ≤ s) (h0 : 0 ≤ s) : chgV (purV mark f) s u = chgV f s u := by
  refine srt_eq (chg_srt _ _ _) (chg_srt _ _ _) fun i => ?_
  rw [chg_lk, chg_lk]
  unfold purV
  rw [uq_filter hu]
  cases hx : lk f i with
  | none => rfl
  | some x =>
    simp only [Option.filter_some]
    by_cases hst : stays mark x = true
    · rw [if_pos hst]
      simp only [Option.filter_some]
    · rw [if_neg hst]
      have hrx := List.all_eq_true.1 hr x (lk_mem hx)
      unfold stays at hst
      unfold rgt at hrx
      simp at hst hrx
      have h1 : ¬ u < x.del ∨ u < x.del := by omega
      by_cases he : x.ep ≤ u
      · rw [if_pos (show epL u x = true from decide_eq_true he)]
        have hb : behS s (asV u x) = false := by
          unfold behS
          rw [as_ep, as_del]
          simp
          refine ⟨by omega, ?_⟩
          split <;> omega
        simp [Option.filter, hb]
      · rw [if_neg (show ¬ epL u x = true by unfold epL; simpa using he)]
        rfl
theorem mrg_again (h m : List Vn) : mrgV (mrgV h m) m = mrgV h m := by
  refine srt_eq (mrg_srt _ _) (mrg_srt _ _) fun i => ?_
  rw [mrg_lkM, mrg_lkM]
  cases lk h i with
  | none =>
    cases lk m i with
    | none => rfl
    | some y =>
      dsimp only
      by_cases hd : y.del = 0
      · rw [if_pos hd, hd, era0 y hd]
      · rw [if_neg hd]
  | some x =>
    cases lk m i with
    | none => rfl
    | some y =>
      dsimp only
      by_cases hd : x.del = 0
      · rw [if_pos hd]
        have e : (erased x y.del).del = y.del := rfl
        by_cases hy : y.del = 0
        · rw [if_pos (by rw [e]; exact hy), hy]; rfl
        · rw [if_neg (by rw [e]; exact hy)]
      · rw [if_neg hd, if_neg hd]
/-- Changes in two orders, where they say alike of each name. -/
theorem mrg_comm (h m o : List Vn) (hmo : ∀ i x y, lk m i = some x → lk o i = some y → x.p = y.p) : Like (mrgV (mrgV h m) o) (mrgV (mrgV h o) m) := by
  refine srt_like (mrg_srt _ _) (mrg_srt _ _) fun i => ?_
  rw [mrg_lkM, mrg_lkM, mrg_lkM, mrg_lkM]
  have H := hmo i
  cases lk h i with
  | none =>
    cases e1 : lk m i with
    | none => cases e2 : lk o i <;> rfl
    | some x =>
      cases e2 : lk o i with
      | none => rfl
      | some y =>
        have hp := H x y e1 e2
        have hd := p_del hp
        dsimp only
        by_cases h0 : x.del = 0
        · rw [if_pos h0, if_pos (by omega), ← hd, h0, era0 x h0, era0 y (by omega)]
          simp [hp]
        · rw [if_neg h0, if_neg (by omega)]
          simp [hp]
  | some z =>
    cases e1 : lk m i with
    | none => cases e2 : lk o i <;> rfl
    | some x =>
      cases e2 : lk o i with
      | none => rfl
      | some y =>
        have hd := p_del (H x y e1 e2)
        dsimp only
        by_cases h0 : z.del = 0
        · rw [if_pos h0, if_pos h0]
          have ea : (erased z x.del).del = x.del := rfl
          have eb : (erased z y.del).del = y.del := rfl
          by_cases hx : x.del = 0
          · rw [if_pos (by rw [ea]; exact hx), if_pos (by rw [eb]; omega)]
            simp [erased, hd]
          · rw [if_neg (by rw [ea]; exact hx), if_neg (by rw [eb]; omega), hd]
        · rw [if_neg h0, if_neg h0, if_neg h0]
theorem upto_of_lk {l m : List Vn} (h : ∀ i, lk l i = lk m i) (e : Int) : uptoV l e = uptoV m e := srt_eq (upto_srt _ _) (upto_srt _ _) fun i => by rw [upto_lk, upto_lk, h]
theorem chg_of_lk {l m : List Vn} (h : ∀ i, lk l i = lk m i) (s e : Int) : chgV l s e = chgV m s e := srt_eq (chg_srt _ _ _) (chg_srt _ _ _) fun i => by rw [chg_lk, chg_lk, h]
theorem mrg_of_lk {a b c d : List Vn} (h : ∀ i, lk a i = lk b i) (k : ∀ i, lk c i = lk d i) : mrgV a c = mrgV b d := srt_eq (mrg_srt _ _) (mrg_srt _ _) fun i => by rw [mrg_lkM, mrg_lkM, h, k]
end Go.Hay
end

section
namespace Go.Proofs.Ytebkkdoggagcdaa
open Go.RowKit Go.Hay
attribute [local go_sem] Oper.semAt_some
set_option linter.unusedVariables false
set_option linter.unusedSimpArgs false

theorem VnOk.asV {w : World} {x : Vn} (h : VnOk w x) (e : Int) : VnOk w (asV e x) := by
  unfold Go.Hay.asV
  split
  · exact h.era 0
  · exact h
theorem upto_ok {w : World} {l : List Vn} (h : ∀ x ∈ l, VnOk w x) (e : Int) : ∀ x ∈ uptoV l e, VnOk w x := fun x hx => by
  unfold uptoV at hx
  obtain ⟨y, hy, rfl⟩ := List.mem_map.1 hx
  exact (h y (once_mem (List.mem_filter.1 hy).1)).asV e
theorem chg_ok {w : World} {l : List Vn} (h : ∀ x ∈ l, VnOk w x) (s e : Int) : ∀ x ∈ chgV l s e, VnOk w x := fun x hx => upto_ok h e x (beh_sub hx)
theorem mrg_ok {w : World} {l m : List Vn} (h : ∀ x ∈ l ++ m, VnOk w x) : ∀ x ∈ mrgV l m, VnOk w x := fun x hx => by
  unfold mrgV at hx
  obtain ⟨y, hy, rfl⟩ := List.mem_map.1 hx
  have := h y (once_mem hy)
  unfold mrgG
  split
  · exact this.era _
  · exact this
/-- The blocks of rows. -/
def rowsB (L : List Vn) : List Nat := L.flatMap fun x => blk x.a
theorem mem_rowsB {L : List Vn} {k : Nat} : k ∈ rowsB L ↔ ∃ x ∈ L, k ∈ blk x.a := by unfold rowsB; rw [List.mem_flatMap]
/-- The rows may be written over. -/
def WrOk (L : List Vn) (W : World) : Prop := ∀ x ∈ L, ∀ g o, x.a = some ⟨g, o, none⟩ → ∀ j, j < x.row.length * 4 → (W.cell? ⟨g, o + j, none⟩).isSome = true ∧ W.frozen? ⟨g, o + j, none⟩ = false
theorem WrOk.of {N : Nat} {ra : Option Addr} {rc : Nat} {L : List Vn} {W : World} (h : Lvn N ra rc L W) : WrOk L W := fun x hx g o e j hj => by
  obtain ⟨h1, _, _⟩ := h.rows x hx
  rcases h1 with ⟨e1, _⟩ | ⟨g', o', cap, e1, hl, hm, hg, hc, ht⟩
  · rw [e] at e1; cases e1
  · rw [e] at e1
    simp only [Value.slice.injEq, Option.some.injEq, Addr.mk.injEq] at e1
    obtain ⟨⟨rfl, rfl, _⟩, _, rfl⟩ := e1
    have e4 : VE.n = 4 := rfl
    exact ht j (by rw [e4]; omega)
theorem WrOk.kp {L : List Vn} {W W' : World} (h : WrOk L W) (k : Kp [] W W') : WrOk L W' := fun x hx g o e j hj => by
  obtain ⟨h1, h2⟩ := h x hx g o e j hj
  obtain ⟨u, hu⟩ := Option.isSome_iff_exists.1 h1
  have hl : g < W.heap.size := World.block_lt_of_cell? _ _ hu
  exact ⟨by rw [kpAt k hu]; rfl, (k.frozen (p := ⟨g, o + j, none⟩) hl (by simp)).trans h2⟩
theorem WrOk.set {L : List Vn} {W : World} (h : WrOk L W) (p : Addr) (v : Value) : WrOk L (W.setCell p v) := fun x hx g o e j hj => by
  obtain ⟨h1, h2⟩ := h x hx g o e j hj
  refine ⟨?_, by rw [World.frozen?_setCell]; exact h2⟩
  by_cases ep : p = ⟨g, o + j, none⟩
  · subst ep
    obtain ⟨u, hu⟩ := Option.isSome_iff_exists.1 h1
    rw [World.cell?_setCell_same _ _ _ hu]; rfl
  · rw [World.cell?_setCell_other _ _ _ _ (fun e2 => ep (by first | exact e2 | exact e2.symm))]
    exact h1
theorem Lvn.lo {N : Nat} {ra : Option Addr} {rc : Nat} {L : List Vn} {W : World} (h : Lvn N ra rc L W) : (∀ k ∈ blk ra, N ≤ k ∧ k < W.heap.size) ∧ ∀ x ∈ L, ∀ k ∈ blk x.a, N ≤ k ∧ k < W.heap.size :=
  ⟨fun k hk => ⟨h.own k hk, h.lt k hk⟩, fun x hx k hk => ⟨((h.rows x hx).2.2 k hk).1, (h.rows x hx).1.lt k (by rw [own_slice]; exact hk)⟩⟩
set_option maxHeartbeats 32000000 in
set_option maxRecDepth 100000 in
theorem givesWalk (a : Option Addr) (c : Nat) (l : List Vn) (since ep : Int) (w : World) (hs : VnE.See w a l) (hl : l.length ≤ 4000000000000) (hx : ∀ x ∈ l, VnOk w x) :
    Calls Try.prog 3 #[.slice a l.length c, .int .u64 since, .int .u64 ep] w fun e w' => e = .returned (.bool true) ∧ Below w.heap.size w w' := by
  have HS := hid hs
  have HX := hid (fun W (k : Kp [] w W) x (hm : x ∈ l) => (hx x hm).kept k)
  have cC := hid (cCopied a c l w hs hl hx)
  have rU := hid (fun W (k : Kp [] w W) => rUpto a c l ep W (hs.keptNew k) hl)
  have rC := hid (fun W (k : Kp [] w W) => rChanges a c l since ep W (hs.keptNew k) hl)
  have hlA := upto_len l ep
  have hlB : (chgV l since ep).length ≤ l.length := Nat.le_trans (chgF_len _ _) hlA
  have HAok := hid (fun W (k : Kp [] w W) => upto_ok (HX.out W k) ep)
  have HBok := hid (fun W (k : Kp [] w W) => chg_ok (HX.out W k) since ep)
  obtain ⟨A, hA⟩ : ∃ A, Hid (uptoV l ep = A) := ⟨_, hid rfl⟩
  obtain ⟨B, hB⟩ : ∃ B, Hid (chgV l since ep = B) := ⟨_, hid rfl⟩
  simp only [hA.out] at rU hlA HAok
  simp only [hB.out] at rC hlB HBok
  have HL := hid hl
  clear hs hx
  go_enter Try.func3, Try.ntmps3
  go_wp2_with fail
  refine cC.out.mono ?_
  rintro e w1 ⟨ra, rc, M, rfl, hlv, hlk, k1⟩
  have hMl : Hid (M.length = l.length) := hid hlk.len
  have H1 := hid hlv
  have HLK := hid hlk
  have K1 := hid k1
  have cU := hid (cUpto ra rc M ep w1 hlv.see hlv.cap (by have := hMl.out; omega) hlv.ok)
  clear cC hlv hlk k1
  go_wp2_with fail
  refine cU.out.mono ?_
  rintro e w2 ⟨rb, rd, P, rfl, hlv2, hlk2, k2⟩
  have H2 := hid hlv2
  have HLK2 : Hid (Like P A) := hid (hlk2.trans (by rw [← hA.out]; exact upto_like HLK.out ep))
  have H12 := hid (H1.out.kp k2)
  have K2 := hid (K1.out.trans k2 (by simp))
  have Z2 := hid k2.size
  have cD := hid (cChanges ra rc M since ep w2 H12.out.see H12.out.cap (by have := hMl.out; omega) H12.out.ok)
  clear cU hlv2 hlk2 k2
  go_wp2_with fail
  refine cD.out.mono ?_
  rintro e w3 ⟨re, rf, Q, rfl, hlv3, hlk3, k3⟩
  have H3 := hid hlv3
  have HLK3 : Hid (Like Q B) := hid (hlk3.trans (by rw [← hB.out]; exact chg_like HLK.out since ep))
  have H13 := hid (H12.out.kp k3)
  have H23 := hid (H2.out.kp k3)
  have K3 := hid (K2.out.trans k3 (by simp))
  have Z3 := hid k3.size
  have cA := hid (cAliveR w3)
  clear cD hlv3 hlk3 k3
  go_wp2_with fail
  refine cA.out.mono ?_
  rintro e w4 ⟨rfl, k4⟩
  have K4 := hid (K3.out.trans k4 (by simp))
  have rU4 := hid (rU.out w4 K4.out)
  have k4' := hid k4
  clear cA k4 rU
  go_wp2_with fail
  refine rU4.out.mono ?_
  rintro e w5 ⟨ru, rv, rfl, hr5, k5, _⟩
  have K5 := hid (K4.out.trans k5 (by simp))
  have K35 := hid (k4'.out.trans k5 (by simp))
  have cS := hid (rSameAll rb ru rd rv P A w5 (H23.out.kp K35.out).see (See.ofRow hr5) (H23.out.kp K35.out).ok (HAok.out w5 K5.out) HLK2.out (by have := HLK2.out.len; have := HL.out; omega))
  clear rU4 hr5 k5 k4'
  go_wp2_with fail
  refine cS.out.mono ?_
  rintro e w6 ⟨rfl, k6⟩
  have K6 := hid (K5.out.trans k6 (by simp))
  have K36 := hid (K35.out.trans k6 (by simp))
  have rC6 := hid (rC.out w6 K6.out)
  clear cS k6
  go_wp2_with fail
  refine rC6.out.mono ?_
  rintro e w7 ⟨ru7, rv7, rfl, hr7, k7, _⟩
  have K7 := hid (K6.out.trans k7 (by simp))
  have K37 := hid (K36.out.trans k7 (by simp))
  have cS7 := hid (rSameAll re ru7 rf rv7 Q B w7 (H3.out.kp K37.out).see (See.ofRow hr7) (H3.out.kp K37.out).ok (HBok.out w7 K7.out) HLK3.out (by have := HLK3.out.len; have := HL.out; omega))
  clear rC6 hr7 k7
  go_wp2_with fail
  refine cS7.out.mono ?_
  rintro e w8 ⟨rfl, k8⟩
  have K8 := hid (K7.out.trans k8 (by simp))
  have K38 := hid (K37.out.trans k8 (by simp))
  have H28 := hid (H23.out.kp K38.out)
  have HW8 : Hid (WrOk P w8 ∧ Kp (rowsB P) w8 w8) := hid ⟨WrOk.of H28.out, Kp.refl _ _⟩
  have hPl : P.length ≤ 4000000000000 := by have := HLK2.out.len; have := HL.out; omega
  clear cS7 k8
  go_wp2_with fail
  go_loopw [40] (fun i wr => ∃ j : Nat, j ≤ P.length ∧ i = .int .i64 (j : Int) ∧ Hid (WrOk P wr ∧ Kp (rowsB P) w8 wr)) (fun i _ => P.length - (intOf i).toNat)
  case atStart => exact ⟨0, Nat.zero_le _, rfl, HW8⟩
  case round =>
    obtain ⟨j, hj, rfl, H⟩ := hrel
    clear HW8
    by_cases hlt : j < P.length
    · have hsee : ∀ W', Kp (rowsB P) w8 W' → VnE.See W' rb P := fun W' k => H28.out.see.kept k (fun _ q hq hm => by
        obtain ⟨y, hy, hy2⟩ := mem_rowsB.1 hm
        exact ((H28.out.rows y hy).2.2 q hy2).2 hq)
      have hxm : P[j] ∈ P := List.getElem_mem hlt
      have hxat : P[j]? = some P[j] := by simp [hlt]
      obtain ⟨g, o, ea, _, _, x2, _⟩ := idAt (hsee wr H.out.2) hxat
      have hX2 : Hid (∀ W', Kp (rowsB P) w8 W' → W'.cell? ⟨g, o + j * 4 + 2, none⟩ = some (.slice P[j].a P[j].row.length P[j].c)) := hid fun W' k => by
        obtain ⟨g', o', ea', _, _, x2', _⟩ := idAt (hsee W' k) hxat
        rw [ea] at ea'
        simp only [Option.some.injEq, Addr.mk.injEq] at ea'
        obtain ⟨rfl, rfl, _⟩ := ea'
        exact x2'
      have hrow := (H28.out.rows P[j] hxm).1
      have hfew := (H28.out.rows P[j] hxm).2.1
      have HXM := hid hxm
      obtain ⟨x, hx⟩ : ∃ x, Hid (P[j] = x) := ⟨P[j], hid rfl⟩
      rw [hx.out] at x2 hX2 hrow hfew HXM
      obtain ⟨xe, xn, xa, xc, xr, xd⟩ := x
      dsimp only at x2 hX2 hrow hfew
      obtain ⟨wo, hwo⟩ : ∃ x, x = wr := ⟨_, rfl⟩
      subst hwo
      have i1 : (0 : Int) ≤ (j : Int) := by omega
      have i2 : (j : Int) < (P.length : Int) := by omega
      have i3 : (j : Int) + 1 ≤ 9223372036854775807 := by omega
      have HROW := hid hrow
      subst ea
      clear hsee hxat hxm hrow
      go_wp2_with fail
      go_loopw [49] (fun i wr => ∃ k : Nat, k ≤ xr.length ∧ i = .int .i64 (k : Int) ∧ Hid (WrOk P wr ∧ Kp (rowsB P) w8 wr)) (fun i _ => xr.length - (intOf i).toNat)
      case atStart => exact ⟨0, Nat.zero_le _, rfl, H⟩
      case round =>
        clear H x2
        obtain ⟨k, hk, rfl, H⟩ := hrel
        by_cases hlt2 : k < xr.length
        · obtain ⟨gx, ox, rfl⟩ : ∃ gx ox, xa = some ⟨gx, ox, none⟩ := by
            rcases HROW.out with ⟨e1, e2⟩ | ⟨g', o', cap, e1, _⟩
            · rw [e2] at hlt2; simp at hlt2
            · simp only [Value.slice.injEq] at e1
              exact ⟨g', o', e1.1⟩
          have x2 := hX2.out wr H.out.2
          have hw := H.out.1 _ HXM.out gx ox rfl
          dsimp only at hw
          obtain ⟨u0, v0⟩ := Option.isSome_iff_exists.1 (hw (k * 4) (by omega)).1
          obtain ⟨u1, v1⟩ := Option.isSome_iff_exists.1 (hw (k * 4 + 1) (by omega)).1
          obtain ⟨u2, v2⟩ := Option.isSome_iff_exists.1 (hw (k * 4 + 2) (by omega)).1
          obtain ⟨u3, v3⟩ := Option.isSome_iff_exists.1 (hw (k * 4 + 3) (by omega)).1
          have f0 := (hw (k * 4) (by omega)).2; have f1 := (hw (k * 4 + 1) (by omega)).2; have f2 := (hw (k * 4 + 2) (by omega)).2; have f3 := (hw (k * 4 + 3) (by omega)).2
          rw [← Nat.add_assoc] at v1 v2 v3 f1 f2 f3
          have hgm : gx ∈ rowsB P := mem_rowsB.2 ⟨_, HXM.out, by simp [blk]⟩
          obtain ⟨W5, eW5⟩ : ∃ Y, (((wr.setCell ⟨gx, ox + k * 4, none⟩ (.int .i64 9)).setCell ⟨gx, ox + k * 4 + 1, none⟩ (.bool false)).setCell ⟨gx, ox + k * 4 + 2, none⟩ (.int .i64 0)).setCell ⟨gx, ox + k * 4 + 3, none⟩ (.string ⟨#[]⟩) = Y := ⟨_, rfl⟩
          have HF : Hid (WrOk P W5 ∧ Kp (rowsB P) w8 W5) := hid (by
            rw [← eW5]
            exact ⟨(((H.out.1.set _ _).set _ _).set _ _).set _ _, ((((H.out.2).setCell (.inl hgm) _).setCell (.inl hgm) _).setCell (.inl hgm) _).setCell (.inl hgm) _⟩)
          have j1 : (0 : Int) ≤ (k : Int) := by omega
          have j2 : (k : Int) < (xr.length : Int) := by omega
          have j3 : (k : Int) + 1 ≤ 9223372036854775807 := by omega
          clear hw hgm H
          go_wp2_with fail
          exact ⟨⟨k + 1, by omega, by go_num, HF⟩, by simp [intOf]; omega⟩
        · obtain rfl : k = xr.length := by omega
          go_wp2_with fail
          exact ⟨⟨j + 1, by omega, by go_num, H⟩, by simp [intOf]; omega⟩
    · obtain ⟨w9, hw9⟩ : ∃ x, x = wr := ⟨_, rfl⟩
      subst hw9
      obtain rfl : j = P.length := by omega
      have hT : Hid (∀ k ∈ rowsB P, w1.heap.size ≤ k ∧ k < w2.heap.size) := hid fun k hk => by
        obtain ⟨y, hy, hy2⟩ := mem_rowsB.1 hk
        exact (H2.out.lo).2 y hy k hy2
      have K9 : Hid (Kp [] w w9) := hid (K8.out.trans H.out.2 (fun k hk => .inr (by have := hT.out k hk; have := K1.out.size; omega)))
      have HG9 : Hid (Lvn w.heap.size ra rc M w9) := hid ((H13.out.kp K38.out).keptS H.out.2 (fun k hk hm => by
          have h1 := (H1.out.lo).1 k hk
          have h2 := hT.out k hm
          omega) (fun x hx k hk hm => by
          have h1 := (H1.out.lo).2 x hx k hk
          have h2 := hT.out k hm
          omega))
      have HB9 : Hid (Lvn w2.heap.size re rf Q w9) := hid ((H3.out.kp K38.out).keptS H.out.2 (fun k hk hm => by
          have h1 := H3.out.own k hk
          have h2 := hT.out k hm
          omega) (fun x hx k hk hm => by
          have h1 := ((H3.out.rows x hx).2.2 k hk).1
          have h2 := hT.out k hm
          omega))
      have cS9 := hid (rSameAll ra a rc c M l w9 HG9.out.see (HS.out.keptNew K9.out) HG9.out.ok (HX.out w9 K9.out) HLK.out (by have := hMl.out; omega))
      clear H
      go_wp2_with fail
      refine cS9.out.mono ?_
      rintro e w10 ⟨rfl, k10⟩
      have K10 := hid (K9.out.trans k10 (by simp))
      have HB10 := hid (HB9.out.kp k10)
      have rC10 := hid (rC.out w10 K10.out)
      clear cS9 k10
      go_wp2_with fail
      refine rC10.out.mono ?_
      rintro e w11 ⟨r11, v11, rfl, hr11, k11, _⟩
      have K11 := hid (K10.out.trans k11 (by simp))
      have cS11 := hid (rSameAll re r11 rf v11 Q B w11 (HB10.out.kp k11).see (See.ofRow hr11) (HB10.out.kp k11).ok (HBok.out w11 K11.out) HLK3.out (by have := HLK3.out.len; have := HL.out; omega))
      clear rC10 hr11 k11
      go_wp2_with fail
      refine cS11.out.mono ?_
      rintro e w12 ⟨rfl, k12⟩
      have K12 := hid (K11.out.trans k12 (by simp))
      clear cS11 k12
      go_wp2_with fail
      go_ret
      exact ⟨rfl, K12.out.below⟩
end Go.Proofs.Ytebkkdoggagcdaa
end

section
namespace Go.Proofs.Ytebkkdoggagcdaa
open Go.RowKit Go.Hay
attribute [local go_sem] Oper.semAt_some
set_option linter.unusedVariables false
set_option linter.unusedSimpArgs false

theorem like_vnr {l m : List Vn} (h : Like l m) (hr : ∀ x ∈ m, VnR x) : ∀ x ∈ l, VnR x := fun x hx => by
  obtain ⟨i, hi⟩ := List.mem_iff_getElem?.1 hx
  obtain ⟨y, hy, e⟩ := h.at hi
  have := hr y (List.mem_of_getElem? hy)
  exact ⟨by rw [p_ep e]; exact this.e, by rw [p_num e]; exact this.n, by rw [p_del e]; exact this.d⟩
set_option maxHeartbeats 32000000 in
set_option maxRecDepth 100000 in
theorem mergesWalk (a b : Option Addr) (ca cb : Nat) (l m : List Vn) (w : World) (hs : VnE.See w a l) (ht : VnE.See w b m) (hl : l.length + m.length ≤ 4000000000000) (hx : ∀ x ∈ l, VnOk w x) (hy : ∀ x ∈ m, VnOk w x) (hr : ∀ x ∈ l ++ m, VnR x) :
    Calls Try.prog 4 #[.slice a l.length ca, .slice b m.length cb] w fun e w' => e = .returned (.bool true) ∧ Below w.heap.size w w' := by
  have HS := hid (And.intro hs ht)
  have HX := hid (fun W (k : Kp [] w W) x (hm : x ∈ l) => (hx x hm).kept k)
  have HY := hid (fun W (k : Kp [] w W) x (hm : x ∈ m) => (hy x hm).kept k)
  have cC := hid (cCopied a ca l w hs (by omega) hx)
  have cC2 := hid (fun W (k : Kp [] w W) => cCopied b cb m W (ht.keptNew k) (by omega) (fun x h => (hy x h).kept k))
  have rM := hid (fun W (k : Kp [] w W) => rMerged a b ca cb l m W (hs.keptNew k) (ht.keptNew k) hl)
  have hlA := mrg_len l m
  have HAok := hid (fun W (k : Kp [] w W) => mrg_ok (l := l) (m := m) (w := W) (fun x h => by
    rcases List.mem_append.1 h with h | h
    · exact HX.out W k x h
    · exact HY.out W k x h))
  have HR := hid hr
  obtain ⟨A, hA⟩ : ∃ A, Hid (mrgV l m = A) := ⟨_, hid rfl⟩
  simp only [hA.out] at rM hlA HAok
  have HL := hid (And.intro hl hlA)
  clear hs ht hx hy hr hlA
  go_enter Try.func4, Try.ntmps4
  go_wp2_with fail
  refine cC.out.mono ?_
  rintro e w1 ⟨ra, rc, M, rfl, hlv, hlk, k1⟩
  have hMl : Hid (M.length = l.length) := hid hlk.len
  have H1 := hid hlv
  have HLK := hid hlk
  have K1 := hid k1
  have cC3 := hid (cC2.out w1 k1)
  clear cC cC2 hlv hlk k1
  go_wp2_with fail
  refine cC3.out.mono ?_
  rintro e w2 ⟨rb, rd, N, rfl, hlv2, hlk2, k2⟩
  have hNl : Hid (N.length = m.length) := hid hlk2.len
  have H2 := hid hlv2
  have HLK2 := hid hlk2
  have H12 := hid (H1.out.kp k2)
  have K2 := hid (K1.out.trans k2 (by simp))
  have Z1 := hid K1.out.size
  have cM := hid (cMerged ra rb rc rd M N w2 H12.out.see H12.out.cap hlv2.see hlv2.cap (by have h1 := hMl.out; have h2 := hNl.out; omega) (fun x hx => by
    rcases List.mem_append.1 hx with hx | hx
    · exact H12.out.ok x hx
    · exact hlv2.ok x hx) (like_vnr (HLK.out.append hlk2) HR.out))
  clear cC3 hlv2 hlk2 k2
  go_wp2_with fail
  refine cM.out.mono ?_
  rintro e w3 ⟨re, rf, P, rfl, hlv3, hlk3, k3⟩
  have H3 := hid hlv3
  have HLK3 : Hid (Like P A) := hid (hlk3.trans (by rw [← hA.out]; exact mrg_like HLK.out HLK2.out))
  have H13 := hid (H12.out.kp k3)
  have H23 := hid (H2.out.kp k3)
  have K3 := hid (K2.out.trans k3 (by simp))
  have Z3 := hid k3.size
  have cA := hid (cAliveR w3)
  clear cM hlv3 hlk3 k3
  go_wp2_with fail
  refine cA.out.mono ?_
  rintro e w4 ⟨rfl, k4⟩
  have K4 := hid (K3.out.trans k4 (by simp))
  have rM4 := hid (rM.out w4 K4.out)
  have k4' := hid k4
  clear cA k4 rM
  go_wp2_with fail
  refine rM4.out.mono ?_
  rintro e w5 ⟨ru, rv, rfl, hr5, k5, _⟩
  have K5 := hid (K4.out.trans k5 (by simp))
  have K35 := hid (k4'.out.trans k5 (by simp))
  have hPl : Hid (P.length ≤ 4000000000000) := hid (by have := HLK3.out.len; have := HL.out; omega)
  have cS := hid (rSameAll re ru rf rv P A w5 (H3.out.kp K35.out).see (See.ofRow hr5) (H3.out.kp K35.out).ok (HAok.out w5 K5.out) HLK3.out (by have := hPl.out; omega))
  clear rM4 hr5 k5 k4'
  go_wp2_with fail
  refine cS.out.mono ?_
  rintro e w8 ⟨rfl, k6⟩
  have K8 := hid (K5.out.trans k6 (by simp))
  have K38 := hid (K35.out.trans k6 (by simp))
  have H28 := hid (H3.out.kp K38.out)
  have HW8 : Hid (WrOk P w8 ∧ Kp (rowsB P) w8 w8) := hid ⟨WrOk.of H28.out, Kp.refl _ _⟩
  have hPb := hPl.out
  clear cS k6
  go_wp2_with fail
  go_loopw [28] (fun i wr => ∃ j : Nat, j ≤ P.length ∧ i = .int .i64 (j : Int) ∧ Hid (WrOk P wr ∧ Kp (rowsB P) w8 wr)) (fun i _ => P.length - (intOf i).toNat)
  case atStart => exact ⟨0, Nat.zero_le _, rfl, HW8⟩
  case round =>
    obtain ⟨j, hj, rfl, H⟩ := hrel
    clear HW8
    by_cases hlt : j < P.length
    · have hsee : ∀ W', Kp (rowsB P) w8 W' → VnE.See W' re P := fun W' k => H28.out.see.kept k (fun _ q hq hm => by
        obtain ⟨y, hy, hy2⟩ := mem_rowsB.1 hm
        exact ((H28.out.rows y hy).2.2 q hy2).2 hq)
      have hxm : P[j] ∈ P := List.getElem_mem hlt
      have hxat : P[j]? = some P[j] := by simp [hlt]
      obtain ⟨g, o, ea, _, _, x2, _⟩ := idAt (hsee wr H.out.2) hxat
      have hX2 : Hid (∀ W', Kp (rowsB P) w8 W' → W'.cell? ⟨g, o + j * 4 + 2, none⟩ = some (.slice P[j].a P[j].row.length P[j].c)) := hid fun W' k => by
        obtain ⟨g', o', ea', _, _, x2', _⟩ := idAt (hsee W' k) hxat
        rw [ea] at ea'
        simp only [Option.some.injEq, Addr.mk.injEq] at ea'
        obtain ⟨rfl, rfl, _⟩ := ea'
        exact x2'
      have hrow := (H28.out.rows P[j] hxm).1
      have hfew := (H28.out.rows P[j] hxm).2.1
      have HXM := hid hxm
      obtain ⟨x, hx⟩ : ∃ x, Hid (P[j] = x) := ⟨P[j], hid rfl⟩
      rw [hx.out] at x2 hX2 hrow hfew HXM
      obtain ⟨xe, xn, xa, xc, xr, xd⟩ := x
      dsimp only at x2 hX2 hrow hfew
      obtain ⟨wo, hwo⟩ : ∃ x, x = wr := ⟨_, rfl⟩
      subst hwo
      have i1 : (0 : Int) ≤ (j : Int) := by omega
      have i2 : (j : Int) < (P.length : Int) := by omega
      have i3 : (j : Int) + 1 ≤ 9223372036854775807 := by omega
      have HROW := hid hrow
      subst ea
      clear hsee hxat hxm hrow
      go_wp2_with fail
      go_loopw [37] (fun i wr => ∃ k : Nat, k ≤ xr.length ∧ i = .int .i64 (k : Int) ∧ Hid (WrOk P wr ∧ Kp (rowsB P) w8 wr)) (fun i _ => xr.length - (intOf i).toNat)
      case atStart => exact ⟨0, Nat.zero_le _, rfl, H⟩
      case round =>
        clear H x2
        obtain ⟨k, hk, rfl, H⟩ := hrel
        by_cases hlt2 : k < xr.length
        · obtain ⟨gx, ox, rfl⟩ : ∃ gx ox, xa = some ⟨gx, ox, none⟩ := by
            rcases HROW.out with ⟨e1, e2⟩ | ⟨g', o', cap, e1, _⟩
            · rw [e2] at hlt2; simp at hlt2
            · simp only [Value.slice.injEq] at e1
              exact ⟨g', o', e1.1⟩
          have x2 := hX2.out wr H.out.2
          have hw := H.out.1 _ HXM.out gx ox rfl
          dsimp only at hw
          obtain ⟨u0, v0⟩ := Option.isSome_iff_exists.1 (hw (k * 4) (by omega)).1
          obtain ⟨u1, v1⟩ := Option.isSome_iff_exists.1 (hw (k * 4 + 1) (by omega)).1
          obtain ⟨u2, v2⟩ := Option.isSome_iff_exists.1 (hw (k * 4 + 2) (by omega)).1
          obtain ⟨u3, v3⟩ := Option.isSome_iff_exists.1 (hw (k * 4 + 3) (by omega)).1
          have f0 := (hw (k * 4) (by omega)).2; have f1 := (hw (k * 4 + 1) (by omega)).2; have f2 := (hw (k * 4 + 2) (by omega)).2; have f3 := (hw (k * 4 + 3) (by omega)).2
          rw [← Nat.add_assoc] at v1 v2 v3 f1 f2 f3
          have hgm : gx ∈ rowsB P := mem_rowsB.2 ⟨_, HXM.out, by simp [blk]⟩
          obtain ⟨W5, eW5⟩ : ∃ Y, (((wr.setCell ⟨gx, ox + k * 4, none⟩ (.int .i64 9)).setCell ⟨gx, ox + k * 4 + 1, none⟩ (.bool false)).setCell ⟨gx, ox + k * 4 + 2, none⟩ (.int .i64 0)).setCell ⟨gx, ox + k * 4 + 3, none⟩ (.string ⟨#[]⟩) = Y := ⟨_, rfl⟩
          have HF : Hid (WrOk P W5 ∧ Kp (rowsB P) w8 W5) := hid (by
            rw [← eW5]
            exact ⟨(((H.out.1.set _ _).set _ _).set _ _).set _ _, ((((H.out.2).setCell (.inl hgm) _).setCell (.inl hgm) _).setCell (.inl hgm) _).setCell (.inl hgm) _⟩)
          have j1 : (0 : Int) ≤ (k : Int) := by omega
          have j2 : (k : Int) < (xr.length : Int) := by omega
          have j3 : (k : Int) + 1 ≤ 9223372036854775807 := by omega
          clear hw hgm H
          go_wp2_with fail
          exact ⟨⟨k + 1, by omega, by go_num, HF⟩, by simp [intOf]; omega⟩
        · obtain rfl : k = xr.length := by omega
          go_wp2_with fail
          exact ⟨⟨j + 1, by omega, by go_num, H⟩, by simp [intOf]; omega⟩
    · obtain ⟨w9, hw9⟩ : ∃ x, x = wr := ⟨_, rfl⟩
      subst hw9
      obtain rfl : j = P.length := by omega
      have hT : Hid (∀ k ∈ rowsB P, w2.heap.size ≤ k) := hid fun k hk => by
        obtain ⟨y, hy, hy2⟩ := mem_rowsB.1 hk
        exact ((H3.out.rows y hy).2.2 k hy2).1
      have K9 : Hid (Kp [] w w9) := hid (K8.out.trans H.out.2 (fun k hk => .inr (by have := hT.out k hk; have := K2.out.size; omega)))
      have HG9 : Hid (Lvn w.heap.size ra rc M w9) := hid ((H13.out.kp K38.out).keptS H.out.2 (fun k hk hm => by
          have h1 := (H12.out.lo).1 k hk
          have h2 := hT.out k hm
          omega) (fun x hx k hk hm => by
          have h1 := (H12.out.lo).2 x hx k hk
          have h2 := hT.out k hm
          omega))
      have HB9 : Hid (Lvn w1.heap.size rb rd N w9) := hid ((H23.out.kp K38.out).keptS H.out.2 (fun k hk hm => by
          have h1 := (H2.out.lo).1 k hk
          have h2 := hT.out k hm
          omega) (fun x hx k hk hm => by
          have h1 := (H2.out.lo).2 x hx k hk
          have h2 := hT.out k hm
          omega))
      have cS9 := hid (rSameAll ra a rc ca M l w9 HG9.out.see (HS.out.1.keptNew K9.out) HG9.out.ok (HX.out w9 K9.out) HLK.out (by have h1 := hMl.out; have h2 := HL.out; omega))
      clear H
      go_wp2_with fail
      refine cS9.out.mono ?_
      rintro e w10 ⟨rfl, k10⟩
      have K10 := hid (K9.out.trans k10 (by simp))
      have HB10 := hid (HB9.out.kp k10)
      have cS11 := hid (rSameAll rb b rd cb N m w10 HB10.out.see (HS.out.2.keptNew K10.out) HB10.out.ok (HY.out w10 K10.out) HLK2.out (by have h1 := hNl.out; have h2 := HL.out; omega))
      clear cS9 k10
      go_wp2_with fail
      refine cS11.out.mono ?_
      rintro e w12 ⟨rfl, k12⟩
      have K12 := hid (K10.out.trans k12 (by simp))
      clear cS11 k12
      go_wp2_with fail
      go_ret
      exact ⟨rfl, K12.out.below⟩
end Go.Proofs.Ytebkkdoggagcdaa
end

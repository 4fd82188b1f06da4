/- The reference's Same, SameAll, Place. A block's cells. Recover: names compared, a version's name, and the two closures of inOrder. Versions as elements: a name, a slice of values, when it was deleted. Rows of any element: made, written at a place, copied into. No statement of the seat is proved here. Stable sorting: how a row that is sorted lies. -/
import Derived.Test.YtebkkdoggagcdaaB2
import Derived.Test.YtebkkdoggagcdaaB1
import Derived.Deep.RegionHeld3
import Derived.Laws.MakeOwn
section
namespace Go.Proofs.Ytebkkdoggagcdaa
open Go.RowKit Go.Hay
set_option linter.unusedVariables false
set_option linter.unusedSimpArgs false

theorem Bx.see1 {w : World} {q : Nat} {x : Vn} (h : Bx w q (VnE.c x)) : VnE.See w (some ⟨q, 0, none⟩) [x] := by
  refine .inr ⟨q, 0, rfl, fun j u hu => ?_⟩
  rw [Nat.zero_add]
  exact h.get j u (by simpa [El.cs] using hu)
theorem neVV (v : Val) (w : World) : (binOp .neq 36 (.agg #[.int .i64 v.k, .bool v.b, .int .i64 v.n, .string v.t]) (.agg #[.int .i64 v.k, .bool v.b, .int .i64 v.n, .string v.t])).run Try.prog w = .ok (.bool false) w := by
  rw [run_neq_struct, run_equalIn_agg (ht := by kernel_rfl) (hp := by kernel_rfl)]
  simp [go_sem]
theorem valAt {w : World} {a : Option Addr} {l : List Val} (h : VE.See w a l) {i : Nat} {x : Val} (hx : l[i]? = some x) : ∃ g o, a = some ⟨g, o, none⟩ ∧ w.cell? ⟨g, o + i * 4, none⟩ = some (.int .i64 x.k) ∧ w.cell? ⟨g, o + i * 4 + 1, none⟩ = some (.bool x.b) ∧ w.cell? ⟨g, o + i * 4 + 2, none⟩ = some (.int .i64 x.n) ∧ w.cell? ⟨g, o + i * 4 + 3, none⟩ = some (.string x.t) := by
  obtain ⟨g, o, e, hc⟩ := h.at hx
  exact ⟨g, o, e, hc 0 _ rfl, hc 1 _ rfl, hc 2 _ rfl, hc 3 _ rfl⟩
set_option maxHeartbeats 8000000 in
set_option maxRecDepth 100000 in
theorem rSame (x y : Vn) (w : World) (hx : VnOk w x) (hy : VnOk w y) (h : x.p = y.p) : Calls Try.prog 21 #[.agg #[.int .u64 x.ep, .int .u32 x.num, .slice x.a x.row.length x.c, .int .u64 x.del], .agg #[.int .u64 y.ep, .int .u32 y.num, .slice y.a y.row.length y.c, .int .u64 y.del]] w fun e w' => e = .returned (.bool true) ∧ Kp [] w w' := by
  have e1 := p_ep h; have e2 := p_num h; have e3 := p_row h; have e4 := p_del h
  obtain ⟨xe, xn, xa, xc, xr, xd⟩ := x
  obtain ⟨ye, yn, ya, yc, yr, yd⟩ := y
  dsimp only at e1 e2 e3 e4 ⊢
  subst e1 e2 e3 e4
  have hfew := hx.few
  dsimp only at hfew
  obtain ⟨w1, hw1, k1, b0, b1, hz1⟩ := box45 w (.int .u64 xe) (.int .u32 xn) (.slice xa xr.length xc) (.int .u64 xd) (.int .u64 xe) (.int .u32 xn) (.slice ya xr.length yc) (.int .u64 xd) 34
  have hs1 := hid (hx.see.keptNew k1)
  have hs2 := hid (hy.see.keptNew k1)
  dsimp only at hs1 hs2
  have p0 := b0.get 0 _ rfl; have p1 := b0.get 1 _ rfl; have p2 := b0.get 2 _ rfl; have p3 := b0.get 3 _ rfl
  have q0 := b1.get 0 _ rfl; have q1 := b1.get 1 _ rfl; have q2 := b1.get 2 _ rfl; have q3 := b1.get 3 _ rfl
  have n1 := neI xe xn xe xn
  simp only [decide_true, Bool.not_true] at n1
  have n2 : (xd != xd) = false := by simp
  obtain ⟨m, hm⟩ : ∃ m, Hid (xr.length = m) := ⟨_, rfl⟩
  rw [hm.out] at p2 q2 hw1 hfew ⊢
  have n3 : ((m : Int) != (m : Int)) = false := by simp
  have hB0 := hid b0
  have hB1 := hid b1
  rw [hm.out] at hB0 hB1
  clear hx hy h b0 b1
  go_enter Try.func21, Try.ntmps21
  go_wp2_with fail
  go_loopw [5] (fun i wr => ∃ j : Nat, j ≤ m ∧ i = .int .i64 j ∧ Kp [] w1 wr) (fun i _ => m - (intOf i).toNat)
  case atStart => exact ⟨0, Nat.zero_le _, rfl, Kp.refl _ _⟩
  case round =>
    clear p0 p1 p2 p3 q0 q1 q2 q3
    obtain ⟨j, hj, rfl, kr⟩ := hrel
    have P2 := (hB0.out.kept kr (by omega)).get 2 _ rfl
    have Q2 := (hB1.out.kept kr (by omega)).get 2 _ rfl
    by_cases hjm : j < m
    · have hx : xr[j]? = some (xr[j]'(by rw [hm.out]; exact hjm)) := by simp [hm.out, hjm]
      obtain ⟨g, o, rfl, a0, a1, a2, a3⟩ := valAt (hs1.out.keptNew kr) hx
      obtain ⟨g2, o2, rfl, d0, d1, d2, d3⟩ := valAt (hs2.out.keptNew kr) hx
      have hv := neVV (xr[j]'(by rw [hm.out]; exact hjm))
      clear hx
      generalize xr[j]'(by rw [hm.out]; exact hjm) = z at *
      obtain ⟨zk, zb, zn, zt⟩ := z
      dsimp only at a0 a1 a2 a3 d0 d1 d2 d3 hv
      have i1 : (0 : Int) ≤ (j : Int) := by omega
      have i2 : (j : Int) < (m : Int) := by omega
      go_wp2_with fail
      go_quiet (fail)
      go_wp2_with fail
      exact ⟨⟨j + 1, by omega, by go_num, kr.drewN _⟩, by simp [intOf]; omega⟩
    · have e : j = m := by omega
      subst e
      go_wp2_with fail
      go_ret
      exact ⟨rfl, k1.trans kr (by simp)⟩
set_option maxHeartbeats 8000000 in
set_option maxRecDepth 100000 in
theorem rSameAll (a b : Option Addr) (ca cb : Nat) (L M : List Vn) (w : World) (ha : VnE.See w a L) (hb : VnE.See w b M) (oa : ∀ x ∈ L, VnOk w x) (ob : ∀ x ∈ M, VnOk w x) (h : Like L M) (hf : L.length ≤ 4000000000001) :
    Calls Try.prog 13 #[.slice a L.length ca, .slice b M.length cb] w fun e w' => e = .returned (.bool true) ∧ Kp [] w w' := by
  have hlen := h.len
  have H := hid (And.intro ha (And.intro hb (And.intro oa (And.intro ob h))))
  rw [← hlen]
  have hlen' := hid hlen
  clear ha hb oa ob h hlen
  have n3 : ((L.length : Int) != (L.length : Int)) = false := by simp
  go_enter Try.func13, Try.ntmps13
  go_wp2_with fail
  go_loopw [5] (fun i wr => ∃ j : Nat, j ≤ L.length ∧ i = .int .i64 j ∧ Kp [] w wr) (fun i _ => L.length - (intOf i).toNat)
  case atStart => exact ⟨0, Nat.zero_le _, rfl, Kp.refl _ _⟩
  case round =>
    obtain ⟨j, hj, rfl, kr⟩ := hrel
    by_cases hjl : j < L.length
    · have hx : L[j]? = some L[j] := by simp [hjl]
      obtain ⟨y, hy, hp⟩ := H.out.2.2.2.2.at hx
      obtain ⟨g, o, rfl, c0, c1, c2, c3⟩ := idAt (H.out.1.keptNew kr) hx
      obtain ⟨g2, o2, rfl, d0, d1, d2, d3⟩ := idAt (H.out.2.1.keptNew kr) hy
      have cS : ∀ W, Kp [] wr W → Calls Try.prog 21 #[.agg #[.int .u64 L[j].ep, .int .u32 L[j].num, .slice L[j].a L[j].row.length L[j].c, .int .u64 L[j].del], .agg #[.int .u64 y.ep, .int .u32 y.num, .slice y.a y.row.length y.c, .int .u64 y.del]] W fun e w' => e = .returned (.bool true) ∧ Kp [] W w' := fun W kW => rSame L[j] y W ((H.out.2.2.1 _ (List.mem_of_getElem? hx)).kept (kr.trans kW (by simp))) ((H.out.2.2.2.1 _ (List.mem_of_getElem? hy)).kept (kr.trans kW (by simp))) hp
      have Kwd : Kp [] wr wr.drew := (Kp.refl _ _).drew
      have hkr := hid kr
      clear hx hy hp
      generalize L[j] = x at *
      obtain ⟨xe, xn, xa, xc, xr, xd⟩ := x
      obtain ⟨ye, yn, ya, yc, yr, yd⟩ := y
      dsimp only at c0 c1 c2 c3 d0 d1 d2 d3 cS
      have hS0 : (fun A : World => (A.cell? ⟨g, o + j * 4, none⟩ = some (.int .u64 xe) ∧ A.cell? ⟨g, o + j * 4 + 1, none⟩ = some (.int .u32 xn) ∧ A.cell? ⟨g, o + j * 4 + 2, none⟩ = some (.slice xa xr.length xc) ∧ A.cell? ⟨g, o + j * 4 + 3, none⟩ = some (.int .u64 xd)) ∧ A.cell? ⟨g2, o2 + j * 4, none⟩ = some (.int .u64 ye) ∧ A.cell? ⟨g2, o2 + j * 4 + 1, none⟩ = some (.int .u32 yn) ∧ A.cell? ⟨g2, o2 + j * 4 + 2, none⟩ = some (.slice ya yr.length yc) ∧ A.cell? ⟨g2, o2 + j * 4 + 3, none⟩ = some (.int .u64 yd)) wr.drew := ⟨⟨c0, c1, c2, c3⟩, d0, d1, d2, d3⟩
      have i1 : (0 : Int) ≤ (j : Int) := by omega
      have i2 : (j : Int) < (L.length : Int) := by omega
      clear c0 c1 c2 c3 d0 d1 d2 d3
      go_wp2_with fail
      refine wp_region_held_drew (S := (fun A => (A.cell? ⟨g, o + j * 4, none⟩ = some (.int .u64 xe) ∧ A.cell? ⟨g, o + j * 4 + 1, none⟩ = some (.int .u32 xn) ∧ A.cell? ⟨g, o + j * 4 + 2, none⟩ = some (.slice xa xr.length xc) ∧ A.cell? ⟨g, o + j * 4 + 3, none⟩ = some (.int .u64 xd)) ∧ A.cell? ⟨g2, o2 + j * 4, none⟩ = some (.int .u64 ye) ∧ A.cell? ⟨g2, o2 + j * 4 + 1, none⟩ = some (.int .u32 yn) ∧ A.cell? ⟨g2, o2 + j * 4 + 2, none⟩ = some (.slice ya yr.length yc) ∧ A.cell? ⟨g2, o2 + j * 4 + 3, none⟩ = some (.int .u64 yd))) (by kernel_rfl) ?_ (fun hHeld => ?_)
      · exact hS0
      generalize wr.drew = wd at *
      refine wpAnyH_take (i := 0) (v := ?_) rfl (by kernel_rfl) (by kernel_rfl) (by kernel_rfl) (fun _ _ _ h => h) (Or.inl ⟨by rfl, ?_⟩) (by assumption) ?_
      rotate_left
      · intro w hSw; (try dsimp only at hSw); go_simp <;> with_reducible rfl
      try simp only [Act.put, List.getElem_toArray, List.getElem_cons_zero, List.getElem_cons_succ, List.setIfInBounds_toArray, List.set_cons_zero, List.set_cons_succ]
      refine wpAnyH_take (i := 1) (v := ?_) rfl (by kernel_rfl) (by kernel_rfl) (by kernel_rfl) (fun _ _ _ h => h) (Or.inl ⟨by rfl, ?_⟩) (by assumption) ?_
      rotate_left
      · intro w hSw; (try dsimp only at hSw); go_simp <;> with_reducible rfl
      try simp only [Act.put, List.getElem_toArray, List.getElem_cons_zero, List.getElem_cons_succ, List.setIfInBounds_toArray, List.set_cons_zero, List.set_cons_succ]
      refine wpAnyH_take (i := 2) (v := ?_) rfl (by kernel_rfl) (by kernel_rfl) (by kernel_rfl) (fun _ _ _ h => h) (Or.inl ⟨by rfl, ?_⟩) (by assumption) ?_
      rotate_left
      · intro w hSw; (try dsimp only at hSw); go_simp <;> with_reducible rfl
      try simp only [Act.put, List.getElem_toArray, List.getElem_cons_zero, List.getElem_cons_succ, List.setIfInBounds_toArray, List.set_cons_zero, List.set_cons_succ]
      refine wpAnyH_take (i := 3) (v := ?_) rfl (by kernel_rfl) (by kernel_rfl) (by kernel_rfl) (fun _ _ _ h => h) (Or.inl ⟨by rfl, ?_⟩) (by assumption) ?_
      rotate_left
      · intro w hSw; (try dsimp only at hSw); go_simp <;> with_reducible rfl
      try simp only [Act.put, List.getElem_toArray, List.getElem_cons_zero, List.getElem_cons_succ, List.setIfInBounds_toArray, List.set_cons_zero, List.set_cons_succ]
      refine wpAnyH_take (i := 4) (v := ?_) rfl (by kernel_rfl) (by kernel_rfl) (by kernel_rfl) (fun _ _ _ h => h) (Or.inl ⟨by rfl, ?_⟩) (by assumption) ?_
      rotate_left
      · intro w hSw; (try dsimp only at hSw); go_simp <;> with_reducible rfl
      try simp only [Act.put, List.getElem_toArray, List.getElem_cons_zero, List.getElem_cons_succ, List.setIfInBounds_toArray, List.set_cons_zero, List.set_cons_succ]
      refine wpAnyH_take (i := 5) (v := ?_) rfl (by kernel_rfl) (by kernel_rfl) (by kernel_rfl) (fun _ _ _ h => h) (Or.inl ⟨by rfl, ?_⟩) (by assumption) ?_
      rotate_left
      · intro w hSw; (try dsimp only at hSw); go_simp <;> with_reducible rfl
      try simp only [Act.put, List.getElem_toArray, List.getElem_cons_zero, List.getElem_cons_succ, List.setIfInBounds_toArray, List.set_cons_zero, List.set_cons_succ]
      refine wpAnyH_take (i := 6) (v := ?_) rfl (by kernel_rfl) (by kernel_rfl) (by kernel_rfl) (fun _ _ _ h => h) (Or.inl ⟨by rfl, ?_⟩) (by assumption) ?_
      rotate_left
      · intro w hSw; (try dsimp only at hSw); go_simp <;> with_reducible rfl
      try simp only [Act.put, List.getElem_toArray, List.getElem_cons_zero, List.getElem_cons_succ, List.setIfInBounds_toArray, List.set_cons_zero, List.set_cons_succ]
      refine wpAnyH_take (i := 7) (v := ?_) rfl (by kernel_rfl) (by kernel_rfl) (by kernel_rfl) (fun _ _ _ h => h) (Or.inl ⟨by rfl, ?_⟩) (by assumption) ?_
      rotate_left
      · intro w hSw; (try dsimp only at hSw); go_simp <;> with_reducible rfl
      try simp only [Act.put, List.getElem_toArray, List.getElem_cons_zero, List.getElem_cons_succ, List.setIfInBounds_toArray, List.set_cons_zero, List.set_cons_succ]
      refine wpAnyH_ready (rs := [8]) (by kernel_rfl) (by simp) ?_
      refine AllReadyH.cons rfl (fun K hK => ?_) AllReadyH.nil
      go_simp
      refine (cS wd Kwd).mono ?_
      rintro e1 x1 ⟨rfl, kx1⟩
      (try go_wp2_with fail)
      refine hK.out _ _ ?_ (fun hHeld => ?_)
      · exact ⟨⟨kpAt kx1 hHeld.1.1, kpAt kx1 hHeld.1.2.1, kpAt kx1 hHeld.1.2.2.1, kpAt kx1 hHeld.1.2.2.2⟩, kpAt kx1 hHeld.2.1, kpAt kx1 hHeld.2.2.1, kpAt kx1 hHeld.2.2.2.1, kpAt kx1 hHeld.2.2.2.2⟩
      clear hK K
      try simp only [Act.put, List.getElem_toArray, List.getElem_cons_zero, List.getElem_cons_succ, List.setIfInBounds_toArray, List.set_cons_zero, List.set_cons_succ]
      refine wpAnyH_take (i := 9) (v := ?_) rfl (by kernel_rfl) (by kernel_rfl) (by kernel_rfl) (fun _ _ _ h => h) (Or.inl ⟨by rfl, ?_⟩) (by assumption) ?_
      rotate_left
      · intro w hSw; (try dsimp only at hSw); go_simp <;> with_reducible rfl
      try simp only [Act.put, List.getElem_toArray, List.getElem_cons_zero, List.getElem_cons_succ, List.setIfInBounds_toArray, List.set_cons_zero, List.set_cons_succ]
      refine wpAnyH_done (by kernel_rfl) ?_ _
      have kk : Kp [] w x1 := (hkr.out.trans Kwd (by simp)).trans kx1 (by simp)
      clear hHeld cS
      go_wp2_with fail
      exact ⟨⟨j + 1, by omega, by go_num, kk⟩, by simp [intOf]; omega⟩
    · have e : j = L.length := by omega
      subst e
      go_wp2_with fail
      go_ret
      exact ⟨rfl, kr⟩
/-- What Place tells: the first of a name. -/
def PlcP (l : List Vn) (i : Int × Int) (r : Int) : Prop := (r = -1 ∧ ∀ x ∈ l, x.id ≠ i) ∨ ∃ (j : Nat) (x : Vn), r = j ∧ l[j]? = some x ∧ x.id = i ∧ ∀ y ∈ l.take j, y.id ≠ i
theorem PlcP.no {l : List Vn} {i : Int × Int} {r : Int} (h : PlcP l i r) (hn : hasV l i = false) : r = -1 := by
  rcases h with ⟨e, _⟩ | ⟨j, x, _, hx, e, _⟩
  · exact e
  · exact absurd e (hasNot_at i hn x (List.mem_of_getElem? hx))
theorem PlcP.yes {l : List Vn} {i : Int × Int} {r : Int} (h : PlcP l i r) (hs : Srt l) (hy : hasV l i = true) : r = (kOf l i : Int) := by
  obtain ⟨x, hx, ei⟩ := has_at hs i hy
  rcases h with ⟨_, hn⟩ | ⟨j, y, rfl, hj, e, hn⟩
  · exact absurd ei (hn x (List.mem_of_getElem? hx))
  · have h1 := kOf_at hs i j y hj
    rw [e, ltI_irrefl] at h1
    rcases Nat.lt_trichotomy j (kOf l i) with h2 | h2 | h2
    · have := h1.2 h2; cases this
    · rw [h2]
    · refine absurd ei (hn x (List.mem_of_getElem? (i := kOf l i) ?_))
      rw [List.getElem?_take, if_pos h2]; exact hx
set_option maxHeartbeats 8000000 in
set_option maxRecDepth 100000 in
theorem rPlace (a : Option Addr) (c : Nat) (l : List Vn) (ep num : Int) (w : World) (hs : VnE.See w a l) (hf : l.length ≤ 4000000000001) :
    Calls Try.prog 19 #[.slice a l.length c, .agg #[.int .u64 ep, .int .u32 num]] w fun e w' => ∃ r, e = .returned (.int .i64 r) ∧ PlcP l (ep, num) r ∧ Kp [] w w' := by
  obtain ⟨w1, hw1⟩ : ∃ w1, w.alloc (.cells #[.int .u64 ep, .int .u32 num] 31) = w1 := ⟨_, rfl⟩
  have k1 : Kp [] w w1 := by rw [← hw1]; exact (Kp.refl _ _).alloc _
  have bx : Bx w1 w.heap.size [.int .u64 ep, .int .u32 num] := by rw [← hw1]; exact Bx.new w [.int .u64 ep, .int .u32 num] _
  have hlt1 : w.heap.size < w1.heap.size := by rw [← hw1]; simp
  have hs1 := hid (hs.keptNew k1)
  have hB := hid bx
  clear hs bx
  go_enter Try.func19, Try.ntmps19
  go_wp2_with fail
  go_loopw [5] (fun i wr => ∃ j : Nat, j ≤ l.length ∧ i = .int .i64 j ∧ Kp [] w1 wr ∧ Hid (∀ y ∈ l.take j, y.id ≠ (ep, num))) (fun i _ => l.length - (intOf i).toNat)
  case atStart => exact ⟨0, Nat.zero_le _, rfl, Kp.refl _ _, by intro y hy; simp at hy⟩
  case round =>
    clear hw1
    obtain ⟨j, hj, rfl, kr, hst⟩ := hrel
    by_cases hjl : j < l.length
    · have hx : l[j]? = some l[j] := by simp [hjl]
      obtain ⟨g, o, rfl, c0, c1, _⟩ := idAt (hs1.out.keptNew kr) hx
      have b2 := hB.out.kept kr hlt1
      have d0 := b2.get 0 _ rfl; have d1 := b2.get 1 _ rfl
      have htk : Hid (l.take (j + 1) = l.take j ++ [l[j]]) := by show _ = _; rw [List.take_succ_eq_append_getElem hjl]
      have hx' := hid hx
      clear hx b2
      generalize l[j] = x at *
      have q := eqI x.ep x.num ep num
      obtain ⟨B, hBB⟩ : ∃ B, Hid (decide ((x.ep, x.num) = (ep, num)) = B) := ⟨_, rfl⟩
      simp only [hBB.out] at q
      have i1 : (0 : Int) ≤ (j : Int) := by omega
      have i2 : (j : Int) < (l.length : Int) := by omega
      obtain ⟨xe, xn, xa, xc, xr, xd⟩ := x
      dsimp only at c0 c1 q hBB
      cases B with
      | true =>
        have hid1 : Hid ((xe, xn) = (ep, num)) := by have := hBB.out; show _ = _; simpa using this
        clear hBB
        go_wp2_with fail
        go_quiet (fail)
        go_wp2_with fail
        go_ret
        exact ⟨_, rfl, .inr ⟨j, _, rfl, hx'.out, hid1.out, hst.out⟩, (k1.trans kr (by simp)).drewN _⟩
      | false =>
        have hid1 : Hid ((xe, xn) ≠ (ep, num)) := by have := hBB.out; show _ ≠ _; simpa using this
        clear hBB
        go_wp2_with fail
        go_quiet (fail)
        go_wp2_with fail
        refine ⟨⟨j + 1, by omega, by go_num, kr.drewN _, fun y hy => ?_⟩, by simp [intOf]; omega⟩
        rw [htk.out] at hy
        rcases List.mem_append.1 hy with h | h
        · exact hst.out y h
        · rw [List.mem_singleton] at h; subst h; exact hid1.out
    · have e : j = l.length := by omega
      subst e
      go_wp2_with fail
      go_ret
      exact ⟨_, rfl, .inl ⟨rfl, fun x hx => hst.out x (by rw [List.take_length]; exact hx)⟩, k1.trans kr (by simp)⟩
end Go.Proofs.Ytebkkdoggagcdaa
end

section
namespace Go.Proofs.Ytebkkdoggagcdaa
open Go.RowKit Go.Hay
set_option linter.unusedVariables false
set_option linter.unusedSimpArgs false

structure Bn (w : World) (q : Nat) (cs : List Value) : Prop where
  get : ∀ i u, cs[i]? = some u → w.cell? ⟨q, i, none⟩ = some u
  free : ∀ i, w.frozen? ⟨q, i, none⟩ = false
theorem Bn.new (w : World) (cs : List Value) (t : TypeId) : Bn (w.alloc (.cells cs.toArray t)) w.heap.size cs :=
  ⟨fun i u hu => by
    have e : (w.alloc (.cells cs.toArray t)).cell? ⟨w.heap.size, i, none⟩ = _ := World.cell?_alloc_new w _ _ i
    rw [e]; simpa using hu, fun i => World.frozen?_alloc_new w _ _ i⟩
theorem Bn.lt {w : World} {q : Nat} {cs : List Value} (h : Bn w q cs) (hn : 0 < cs.length) : q < w.heap.size := World.block_lt_of_cell? _ _ (h.get 0 cs[0] (by simp [hn]))
theorem Bn.keptS {w w' : World} {S : List Nat} {q : Nat} {cs : List Value} (h : Bn w q cs) (hk : Kp S w w') (hq : q ∉ S) (hl : q < w.heap.size) : Bn w' q cs :=
  ⟨fun i u hu => (hk.cell (p := ⟨q, i, none⟩) hl hq).trans (h.get i u hu), fun i => (hk.frozen (p := ⟨q, i, none⟩) hl hq).trans (h.free i)⟩
theorem Bn.kept {w w' : World} {q : Nat} {c : Value} {cs : List Value} (h : Bn w q (c :: cs)) (hk : Kp [] w w') : Bn w' q (c :: cs) := h.keptS hk (by simp) (h.lt (by simp))
theorem Bn.set {w : World} {q : Nat} {cs : List Value} (h : Bn w q cs) (i : Nat) (hi : i < cs.length) (v : Value) : Bn (w.setCell ⟨q, i, none⟩ v) q (cs.set i v) :=
  ⟨fun j u hu => by
    by_cases e : j = i
    · subst e
      rw [List.getElem?_set_self hi] at hu
      cases hu
      exact World.cell?_setCell_same _ _ _ (h.get j cs[j] (by simp [hi]))
    · rw [List.getElem?_set_ne (fun h => e h.symm)] at hu
      rw [World.cell?_setCell_other _ _ _ _ (by intro h; simp only [Addr.mk.injEq] at h; omega)]
      exact h.get j u hu, fun j => by rw [World.frozen?_setCell]; exact h.free j⟩
end Go.Proofs.Ytebkkdoggagcdaa
end

section
namespace Go.Proofs.Ytebkkdoggagcdaa
open Go.RowKit Go.Hay
attribute [local go_sem] Oper.semAt_some
set_option linter.unusedVariables false
set_option linter.unusedSimpArgs false

theorem Bn.ofBx {w : World} {q : Nat} {cs : List Value} (h : Bx w q cs) : Bn w q cs := ⟨h.get, h.free⟩
theorem cNanU (x : Int) (w : World) : Calls Try.prog 48 #[.int .u64 x] w fun e w' => e = .returned (.bool false) ∧ w' = w := by
  go_enter Try.func48, Try.ntmps48
  go_wp2_with fail
  go_ret
  exact ⟨rfl, rfl⟩
theorem cNanW (x : Int) (w : World) : Calls Try.prog 49 #[.int .u32 x] w fun e w' => e = .returned (.bool false) ∧ w' = w := by
  go_enter Try.func49, Try.ntmps49
  go_wp2_with fail
  go_ret
  exact ⟨rfl, rfl⟩
theorem cCmpU (x y : Int) (w : World) : Calls Try.prog 45 #[.int .u64 x, .int .u64 y] w fun e w' => e = .returned (.int .i64 (ci x y)) ∧ w' = w := by
  go_enter Try.func45, Try.ntmps45
  go_wp2_with (first | (go_at_call 48; refine (cNanU _ _).mono ?_; rintro e w' ⟨rfl, rfl⟩))
  all_goals (go_ret; refine ⟨?_, rfl⟩; show Ending.returned _ = _)
  all_goals (unfold ci; first | (rw [if_pos (by omega)]; rfl) | (rw [if_neg (by omega), if_pos (by omega)]; rfl) | (rw [if_neg (by omega), if_neg (by omega)]; rfl))
theorem cCmpW (x y : Int) (w : World) : Calls Try.prog 46 #[.int .u32 x, .int .u32 y] w fun e w' => e = .returned (.int .i64 (ci x y)) ∧ w' = w := by
  go_enter Try.func46, Try.ntmps46
  go_wp2_with (first | (go_at_call 49; refine (cNanW _ _).mono ?_; rintro e w' ⟨rfl, rfl⟩))
  all_goals (go_ret; refine ⟨?_, rfl⟩; show Ending.returned _ = _)
  all_goals (unfold ci; first | (rw [if_pos (by omega)]; rfl) | (rw [if_neg (by omega), if_pos (by omega)]; rfl) | (rw [if_neg (by omega), if_neg (by omega)]; rfl))
set_option maxHeartbeats 4000000 in
set_option maxRecDepth 100000 in
theorem cOr2 (g : Nat) (x y : Int) (w : World) (h : Bn w g [.int .i64 x, .int .i64 y]) : Calls Try.prog 44 #[.slice (some ⟨g, 0, none⟩) 2 2] w fun e w' => e = .returned (.int .i64 (if x = 0 then y else x)) ∧ Kp [] w w' := by
  have HB := hid h
  have zg : g < w.heap.size := h.lt (by simp)
  obtain ⟨R, hR⟩ : ∃ R, Hid ((if x = 0 then y else x) = R) := ⟨_, hid rfl⟩
  rw [hR.out]
  clear h
  go_enter Try.func44, Try.ntmps44
  go_wp2_with fail
  go_loopw [8] (fun iv wr => ∃ j : Nat, j ≤ 2 ∧ iv = .int .i64 (j : Int) ∧ Hid ((1 ≤ j → x = 0) ∧ (2 ≤ j → y = 0)) ∧ Hid (Kp [] w wr)) (fun iv _ => 2 - (intOf iv).toNat)
  case atStart => exact ⟨0, by omega, rfl, hid ⟨by omega, by omega⟩, hid (Kp.refl _ _)⟩
  case round =>
    obtain ⟨j, hj, rfl, hx, kr⟩ := hrel
    have HB2 := hid (HB.out.kept kr.out)
    have zr : g < wr.heap.size := HB2.out.lt (by simp)
    obtain rfl | rfl | rfl : j = 0 ∨ j = 1 ∨ j = 2 := by omega
    · have c0 := HB2.out.get 0 _ rfl
      by_cases h0 : x = 0
      · have d0 : (x != 0) = false := by simpa using h0
        have hn : Hid ((1 ≤ 1 → x = 0) ∧ (2 ≤ 1 → y = 0)) := hid ⟨fun _ => h0, by omega⟩
        clear h0 hx
        go_wp2_with fail
        exact ⟨⟨1, by omega, by go_num, hn, kr⟩, by simp [intOf]⟩
      · have d0 : (x != 0) = true := by simpa using h0
        have hR2 : Hid (R = x) := hid (by rw [← hR.out, if_neg h0])
        clear h0 hx
        go_wp2_with fail
        go_ret
        exact ⟨by rw [hR2.out]; rfl, kr.out⟩
    · have c1 := HB2.out.get 1 _ rfl
      have hx0 := hid (hx.out.1 (by omega))
      have hR2 : Hid (R = y) := hid (by rw [← hR.out, if_pos hx0.out])
      by_cases h0 : y = 0
      · have d0 : (y != 0) = false := by simpa using h0
        have hn : Hid ((1 ≤ 2 → x = 0) ∧ (2 ≤ 2 → y = 0)) := hid ⟨fun _ => hx0.out, fun _ => h0⟩
        clear h0 hx
        go_wp2_with fail
        exact ⟨⟨2, by omega, by go_num, hn, kr⟩, by simp [intOf]⟩
      · have d0 : (y != 0) = true := by simpa using h0
        clear h0 hx
        go_wp2_with fail
        go_ret
        exact ⟨by rw [hR2.out]; rfl, kr.out⟩
    · have hR2 : Hid (R = 0) := hid (by rw [← hR.out, if_pos (hx.out.1 (by omega)), hx.out.2 (by omega)])
      clear hx
      go_wp2_with fail
      go_ret
      exact ⟨by rw [hR2.out]; rfl, kr.out⟩
set_option maxHeartbeats 4000000 in
set_option maxRecDepth 100000 in
theorem cCmpN (x y : Vn) (w : World) : Calls Try.prog 35 #[.agg #[.int .u64 x.ep, .int .u32 x.num], .agg #[.int .u64 y.ep, .int .u32 y.num]] w fun e w' => e = .returned (.int .i64 (nmI x.id y.id)) ∧ Kp [] w w' := by
  obtain ⟨WA, eWA⟩ : ∃ Y, w.alloc (.cells #[.int .u64 x.ep, .int .u32 x.num] 31) = Y := ⟨_, rfl⟩
  have kWA : Kp [] w WA := by rw [← eWA]; exact (Kp.refl _ _).alloc _
  have zWA : WA.heap.size = w.heap.size + 1 := by rw [← eWA]; simp
  have bWA : Bn WA w.heap.size [.int .u64 x.ep, .int .u32 x.num] := by rw [← eWA]; exact Bn.new w [.int .u64 x.ep, .int .u32 x.num] 31
  obtain ⟨WB, eWB⟩ : ∃ Y, WA.alloc (.cells #[.int .u64 y.ep, .int .u32 y.num] 31) = Y := ⟨_, rfl⟩
  have kWB : Kp [] WA WB := by rw [← eWB]; exact (Kp.refl _ _).alloc _
  have zWB : WB.heap.size = WA.heap.size + 1 := by rw [← eWB]; simp
  have bWB : Bn WB WA.heap.size [.int .u64 y.ep, .int .u32 y.num] := by rw [← eWB]; exact Bn.new WA [.int .u64 y.ep, .int .u32 y.num] 31
  have b1 := bWA.kept kWB
  have KW := hid (kWA.trans kWB (by simp))
  have HB := hid (And.intro b1 bWB)
  have hF : Hid (∀ W', Kp [] WB W' → (W'.cell? ⟨w.heap.size, 0, none⟩ = some (.int .u64 x.ep) ∧ W'.cell? ⟨w.heap.size, 1, none⟩ = some (.int .u32 x.num) ∧ W'.cell? ⟨WA.heap.size, 0, none⟩ = some (.int .u64 y.ep) ∧ W'.cell? ⟨WA.heap.size, 1, none⟩ = some (.int .u32 y.num))) := fun W' k => by
    have h1 := HB.out.1.kept k
    have h2 := HB.out.2.kept k
    exact ⟨h1.get 0 _ rfl, h1.get 1 _ rfl, h2.get 0 _ rfl, h2.get 1 _ rfl⟩
  have a1 := hid (cCmpU x.ep y.ep)
  have a2 := hid (cCmpW x.num y.num)
  obtain ⟨c1, h1⟩ : ∃ c, Hid (ci x.ep y.ep = c) := ⟨_, hid rfl⟩
  obtain ⟨c2, h2⟩ : ∃ c, Hid (ci x.num y.num = c) := ⟨_, hid rfl⟩
  have hR : Hid (nmI x.id y.id = if c1 = 0 then c2 else c1) := hid (by unfold nmI; dsimp only; rw [h1.out, h2.out])
  rw [hR.out]
  obtain ⟨R, hR2⟩ : ∃ R, Hid ((if c1 = 0 then c2 else c1) = R) := ⟨_, hid rfl⟩
  rw [hR2.out]
  rw [h1.out] at a1
  rw [h2.out] at a2
  clear h1 h2 b1 bWA bWB kWA kWB zWA zWB hR
  go_enter Try.func35, Try.ntmps35
  go_wp2_with fail
  refine wp_region_held_drew (S := fun W' => W'.cell? ⟨w.heap.size, 0, none⟩ = some (.int .u64 x.ep) ∧ W'.cell? ⟨w.heap.size, 1, none⟩ = some (.int .u32 x.num) ∧ W'.cell? ⟨WA.heap.size, 0, none⟩ = some (.int .u64 y.ep) ∧ W'.cell? ⟨WA.heap.size, 1, none⟩ = some (.int .u32 y.num)) (by kernel_rfl) ?_ (fun hHeld => ?_)
  · exact hF.out _ (Kp.refl [] WB).drew
  have KD : Hid (Kp [] WB WB.drew) := hid (Kp.refl [] WB).drew
  generalize WB.drew = Wd at *
  refine wpAnyH_take (i := 0) (v := ?_) rfl (by kernel_rfl) (by kernel_rfl) (by kernel_rfl) (fun _ _ _ h => h) (Or.inl ⟨by rfl, ?_⟩) (by assumption) ?_
  rotate_left
  · intro w hSw; (try dsimp only at hSw); go_simp <;> with_reducible rfl
  try simp only [Act.put, List.getElem_toArray, List.getElem_cons_zero, List.getElem_cons_succ, List.setIfInBounds_toArray, List.set_cons_zero, List.set_cons_succ]
  refine wpAnyH_take (i := 1) (v := ?_) rfl (by kernel_rfl) (by kernel_rfl) (by kernel_rfl) (fun _ _ _ h => h) (Or.inl ⟨by rfl, ?_⟩) (by assumption) ?_
  rotate_left
  · intro w hSw; (try dsimp only at hSw); go_simp <;> with_reducible rfl
  try simp only [Act.put, List.getElem_toArray, List.getElem_cons_zero, List.getElem_cons_succ, List.setIfInBounds_toArray, List.set_cons_zero, List.set_cons_succ]
  refine wpAnyH_take (i := 2) (v := ?_) rfl (by kernel_rfl) (by kernel_rfl) (by kernel_rfl) (fun _ _ _ h => h) (Or.inl ⟨by rfl, ?_⟩) (by assumption) ?_
  rotate_left
  · intro w hSw; (try dsimp only at hSw); go_simp <;> with_reducible rfl
  try simp only [Act.put, List.getElem_toArray, List.getElem_cons_zero, List.getElem_cons_succ, List.setIfInBounds_toArray, List.set_cons_zero, List.set_cons_succ]
  refine wpAnyH_take (i := 3) (v := ?_) rfl (by kernel_rfl) (by kernel_rfl) (by kernel_rfl) (fun _ _ _ h => h) (Or.inl ⟨by rfl, ?_⟩) (by assumption) ?_
  rotate_left
  · intro w hSw; (try dsimp only at hSw); go_simp <;> with_reducible rfl
  try simp only [Act.put, List.getElem_toArray, List.getElem_cons_zero, List.getElem_cons_succ, List.setIfInBounds_toArray, List.set_cons_zero, List.set_cons_succ]
  refine wpAnyH_take (i := 5) (v := ?_) rfl (by kernel_rfl) (by kernel_rfl) (by kernel_rfl) (fun _ _ _ h => h) (Or.inl ⟨by rfl, ?_⟩) (by assumption) ?_
  rotate_left
  · intro w hSw; (try dsimp only at hSw); go_simp <;> with_reducible rfl
  try simp only [Act.put, List.getElem_toArray, List.getElem_cons_zero, List.getElem_cons_succ, List.setIfInBounds_toArray, List.set_cons_zero, List.set_cons_succ]
  refine wpAnyH_take (i := 6) (v := ?_) rfl (by kernel_rfl) (by kernel_rfl) (by kernel_rfl) (fun _ _ _ h => h) (Or.inl ⟨by rfl, ?_⟩) (by assumption) ?_
  rotate_left
  · intro w hSw; (try dsimp only at hSw); go_simp <;> with_reducible rfl
  try simp only [Act.put, List.getElem_toArray, List.getElem_cons_zero, List.getElem_cons_succ, List.setIfInBounds_toArray, List.set_cons_zero, List.set_cons_succ]
  refine wpAnyH_take (i := 7) (v := ?_) rfl (by kernel_rfl) (by kernel_rfl) (by kernel_rfl) (fun _ _ _ h => h) (Or.inl ⟨by rfl, ?_⟩) (by assumption) ?_
  rotate_left
  · intro w hSw; (try dsimp only at hSw); go_simp <;> with_reducible rfl
  try simp only [Act.put, List.getElem_toArray, List.getElem_cons_zero, List.getElem_cons_succ, List.setIfInBounds_toArray, List.set_cons_zero, List.set_cons_succ]
  refine wpAnyH_take (i := 8) (v := ?_) rfl (by kernel_rfl) (by kernel_rfl) (by kernel_rfl) (fun _ _ _ h => h) (Or.inl ⟨by rfl, ?_⟩) (by assumption) ?_
  rotate_left
  · intro w hSw; (try dsimp only at hSw); go_simp <;> with_reducible rfl
  try simp only [Act.put, List.getElem_toArray, List.getElem_cons_zero, List.getElem_cons_succ, List.setIfInBounds_toArray, List.set_cons_zero, List.set_cons_succ]
  refine wpAnyH_ready (rs := [4]) (by kernel_rfl) (by simp) ?_
  refine AllReadyH.cons rfl (fun K hK => ?_) AllReadyH.nil
  go_simp
  refine (a1.out _).mono ?_
  rintro e u1 ⟨rfl, ex⟩
  rw [ex]
  clear ex u1
  (try go_wp2_with fail)
  refine hK.out _ _ ?_ (fun hHeld => ?_)
  · exact hF.out _ KD.out
  clear hK K
  try simp only [Act.put, List.getElem_toArray, List.getElem_cons_zero, List.getElem_cons_succ, List.setIfInBounds_toArray, List.set_cons_zero, List.set_cons_succ]
  refine wpAnyH_ready (rs := [9]) (by kernel_rfl) (by simp) ?_
  refine AllReadyH.cons rfl (fun K hK => ?_) AllReadyH.nil
  go_simp
  refine (a2.out _).mono ?_
  rintro e u2 ⟨rfl, ex⟩
  rw [ex]
  clear ex u2
  (try go_wp2_with fail)
  refine hK.out _ _ ?_ (fun hHeld => ?_)
  · exact hF.out _ KD.out
  clear hK K
  try simp only [Act.put, List.getElem_toArray, List.getElem_cons_zero, List.getElem_cons_succ, List.setIfInBounds_toArray, List.set_cons_zero, List.set_cons_succ]
  obtain ⟨WC, eWC⟩ : ∃ Y, Wd.alloc (.cells #[.int .i64 c1, .int .i64 c2] 3) = Y := ⟨_, rfl⟩
  have kWC : Kp [] Wd WC := by rw [← eWC]; exact (Kp.refl _ _).alloc _
  have bWC : Bn WC Wd.heap.size [.int .i64 c1, .int .i64 c2] := by rw [← eWC]; exact Bn.new Wd [.int .i64 c1, .int .i64 c2] 3
  have a3 := hid (cOr2 Wd.heap.size c1 c2 WC bWC)
  rw [hR2.out] at a3
  have KC := hid (KD.out.trans kWC (by simp))
  clear kWC bWC
  refine wpAnyH_ready (rs := [10]) (by kernel_rfl) (by simp) ?_
  refine AllReadyH.cons rfl (fun K hK => ?_) AllReadyH.nil
  go_simp
  (try go_wp2_with fail)
  refine hK.out _ _ ?_ (fun hHeld => ?_)
  · exact hF.out _ KC.out
  clear hK K
  try simp only [Act.put, List.getElem_toArray, List.getElem_cons_zero, List.getElem_cons_succ, List.setIfInBounds_toArray, List.set_cons_zero, List.set_cons_succ]
  refine wpAnyH_ready (rs := [11]) (by kernel_rfl) (by simp) ?_
  refine AllReadyH.cons rfl (fun K hK => ?_) AllReadyH.nil
  go_simp
  refine a3.out.mono ?_
  rintro e u3 ⟨rfl, l3⟩
  (try go_wp2_with fail)
  refine hK.out _ _ ?_ (fun hHeld => ?_)
  · exact hF.out _ (KC.out.trans l3 (by simp))
  clear hK K
  try simp only [Act.put, List.getElem_toArray, List.getElem_cons_zero, List.getElem_cons_succ, List.setIfInBounds_toArray, List.set_cons_zero, List.set_cons_succ]
  have K3 := hid (KW.out.trans (KC.out.trans l3 (by simp)) (by simp))
  clear l3
  refine wpAnyH_take (i := 12) (v := ?_) rfl (by kernel_rfl) (by kernel_rfl) (by kernel_rfl) (fun _ _ _ h => h) (Or.inl ⟨by rfl, ?_⟩) (by assumption) ?_
  rotate_left
  · intro w hSw; (try dsimp only at hSw); go_simp <;> with_reducible rfl
  try simp only [Act.put, List.getElem_toArray, List.getElem_cons_zero, List.getElem_cons_succ, List.setIfInBounds_toArray, List.set_cons_zero, List.set_cons_succ]
  refine wpAnyH_done (by kernel_rfl) ?_ _
  clear hHeld hF
  go_wp2_with fail
  go_ret
  exact ⟨rfl, K3.out⟩
set_option maxHeartbeats 4000000 in
set_option maxRecDepth 100000 in
theorem cNameOf (x : Vn) (w : World) : Calls Try.prog 34 #[.agg #[.int .u64 x.ep, .int .u32 x.num, .slice x.a x.row.length x.c, .int .u64 x.del]] w fun e w' => e = .returned (.agg #[.int .u64 x.ep, .int .u32 x.num]) ∧ Kp [] w w' := by
  obtain ⟨xe, xn, xa, xc, xr, xd⟩ := x
  dsimp only
  obtain ⟨WA, eWA⟩ : ∃ Y, w.alloc (.cells #[.int .u64 xe, .int .u32 xn, .slice xa xr.length xc, .int .u64 xd] 34) = Y := ⟨_, rfl⟩
  have kWA : Kp [] w WA := by rw [← eWA]; exact (Kp.refl _ _).alloc _
  have zWA : WA.heap.size = w.heap.size + 1 := by rw [← eWA]; simp
  have xWA : Bn WA w.heap.size [.int .u64 xe, .int .u32 xn, .slice xa xr.length xc, .int .u64 xd] := by rw [← eWA]; exact Bn.new w [.int .u64 xe, .int .u32 xn, .slice xa xr.length xc, .int .u64 xd] 34
  obtain ⟨WB, eWB⟩ : ∃ Y, WA.alloc (.cells #[.int .u64 0, .int .u32 0] 31) = Y := ⟨_, rfl⟩
  have kWB : Kp [] WA WB := by rw [← eWB]; exact (Kp.refl _ _).alloc _
  have xWB : Bn WB WA.heap.size [.int .u64 0, .int .u32 0] := by rw [← eWB]; exact Bn.new WA [.int .u64 0, .int .u32 0] 31
  obtain ⟨q2, hq2⟩ : ∃ q, WA.heap.size = q := ⟨_, rfl⟩
  obtain ⟨q1, hq1⟩ : ∃ q, w.heap.size = q := ⟨_, rfl⟩
  rw [hq2] at xWB
  rw [hq1] at xWA
  have xA2 := xWA.kept kWB
  obtain ⟨WC, eWC⟩ : ∃ Y, (WB.setCell ⟨q2, 0, none⟩ (.int .u64 xe)).setCell ⟨q2, 1, none⟩ (.int .u32 xn) = Y := ⟨_, rfl⟩
  have kWC : Kp [q2] WB WC := by rw [← eWC]; exact ((Kp.refl _ _).setCell (by simp) _).setCell (by simp) _
  have xWC : Bn WC q2 [.int .u64 xe, .int .u32 xn] := by rw [← eWC]; exact (xWB.set 0 (by simp) (.int .u64 xe)).set 1 (by simp) (.int .u32 xn)
  have a0 := xA2.get 0 _ rfl; have a1 := xA2.get 1 _ rfl
  have m0 := xWB.get 0 _ rfl; have m1 := xWB.get 1 _ rfl; have f0 := xWB.free 0; have f1 := xWB.free 1
  have c0 := xWC.get 0 _ rfl; have c1 := xWC.get 1 _ rfl
  have KC := hid ((kWA.trans kWB (by simp)).trans kWC (fun x hx => .inr (by simp at hx; omega)))
  clear kWA kWB kWC xWA xWB xWC xA2 zWA
  go_enter Try.func34, Try.ntmps34
  go_wp2_with fail
  exact bodyPost_ret (v := .agg #[.int .u64 xe, .int .u32 xn]) (by simp [results, Try.results34, go_sem, c0, c1]) rfl ⟨rfl, KC.out⟩
/-- The two boxes that inOrder keeps its functions in. -/
structure BxK (q4 q5 : Nat) (W : World) : Prop where
  key : W.cell? ⟨q4, 0, none⟩ = some (.func (.func 34) #[] #[])
  cmp : W.cell? ⟨q5, 0, none⟩ = some (.func (.func 35) #[] #[])
theorem BxK.kept {S : List Nat} {q4 q5 : Nat} {W W' : World} (h : BxK q4 q5 W) (k : Kp S W W') (h4 : q4 ∉ S) (h5 : q5 ∉ S) : BxK q4 q5 W' := ⟨(k.cell (p := ⟨q4, 0, none⟩) (World.block_lt_of_cell? _ _ h.key) h4).trans h.key, (k.cell (p := ⟨q5, 0, none⟩) (World.block_lt_of_cell? _ _ h.cmp) h5).trans h.cmp⟩
set_option maxHeartbeats 8000000 in
set_option maxRecDepth 100000 in
theorem cByKey (q4 q5 : Nat) (x y : Vn) (w : World) (h : BxK q4 q5 w) : Calls Try.prog 39 #[.agg #[.int .u64 x.ep, .int .u32 x.num, .slice x.a x.row.length x.c, .int .u64 x.del], .agg #[.int .u64 y.ep, .int .u32 y.num, .slice y.a y.row.length y.c, .int .u64 y.del], .pointer (some ⟨q5, 0, none⟩), .pointer (some ⟨q4, 0, none⟩)] w fun e w' => e = .returned (.int .i64 (nmI x.id y.id)) ∧ Kp [] w w' := by
  have cn := hid (cNameOf x); have cm := hid (cNameOf y); have cc := hid (cCmpN x y)
  obtain ⟨R, hR⟩ : ∃ R, Hid (nmI x.id y.id = R) := ⟨_, hid rfl⟩
  rw [hR.out] at cc ⊢
  clear hR
  obtain ⟨xe, xn, xa, xc, xr, xd⟩ := x
  obtain ⟨ye, yn, ya, yc, yr, yd⟩ := y
  dsimp only at cn cm cc ⊢
  obtain ⟨WA, eWA⟩ : ∃ Y, w.alloc (.cells #[.int .u64 xe, .int .u32 xn, .slice xa xr.length xc, .int .u64 xd] 34) = Y := ⟨_, rfl⟩
  have kWA : Kp [] w WA := by rw [← eWA]; exact (Kp.refl _ _).alloc _
  have xWA : Bn WA w.heap.size [.int .u64 xe, .int .u32 xn, .slice xa xr.length xc, .int .u64 xd] := by rw [← eWA]; exact Bn.new w [.int .u64 xe, .int .u32 xn, .slice xa xr.length xc, .int .u64 xd] 34
  obtain ⟨WB, eWB⟩ : ∃ Y, WA.alloc (.cells #[.int .u64 ye, .int .u32 yn, .slice ya yr.length yc, .int .u64 yd] 34) = Y := ⟨_, rfl⟩
  have kWB : Kp [] WA WB := by rw [← eWB]; exact (Kp.refl _ _).alloc _
  have xWB : Bn WB WA.heap.size [.int .u64 ye, .int .u32 yn, .slice ya yr.length yc, .int .u64 yd] := by rw [← eWB]; exact Bn.new WA [.int .u64 ye, .int .u32 yn, .slice ya yr.length yc, .int .u64 yd] 34
  obtain ⟨p1, hp1⟩ : ∃ q, w.heap.size = q := ⟨_, rfl⟩
  obtain ⟨p2, hp2⟩ : ∃ q, WA.heap.size = q := ⟨_, rfl⟩
  rw [hp1] at xWA
  rw [hp2] at xWB
  have KW := hid (kWA.trans kWB (by simp))
  have hB := h.kept KW.out (by simp) (by simp)
  have xA2 := xWA.kept kWB
  have hF : Hid (∀ W', Kp [] WB W' → W'.cell? ⟨q4, 0, none⟩ = some (.func (.func 34) #[] #[]) ∧ W'.cell? ⟨q5, 0, none⟩ = some (.func (.func 35) #[] #[]) ∧ W'.cell? ⟨p1, 0, none⟩ = some (.int .u64 xe) ∧ W'.cell? ⟨p1, 1, none⟩ = some (.int .u32 xn) ∧ W'.cell? ⟨p1, 2, none⟩ = some (.slice xa xr.length xc) ∧ W'.cell? ⟨p1, 3, none⟩ = some (.int .u64 xd) ∧ W'.cell? ⟨p2, 0, none⟩ = some (.int .u64 ye) ∧ W'.cell? ⟨p2, 1, none⟩ = some (.int .u32 yn) ∧ W'.cell? ⟨p2, 2, none⟩ = some (.slice ya yr.length yc) ∧ W'.cell? ⟨p2, 3, none⟩ = some (.int .u64 yd)) := hid fun W' k => by
    have h1 := xA2.kept k
    have h2 := xWB.kept k
    have h3 := hB.kept k (by simp) (by simp)
    exact ⟨h3.key, h3.cmp, h1.get 0 _ rfl, h1.get 1 _ rfl, h1.get 2 _ rfl, h1.get 3 _ rfl, h2.get 0 _ rfl, h2.get 1 _ rfl, h2.get 2 _ rfl, h2.get 3 _ rfl⟩
  clear kWA kWB xWA xWB xA2 hB h
  go_enter Try.func39, Try.ntmps39
  go_wp2_with fail
  refine wp_region_held_drew (S := fun W' => W'.cell? ⟨q4, 0, none⟩ = some (.func (.func 34) #[] #[]) ∧ W'.cell? ⟨q5, 0, none⟩ = some (.func (.func 35) #[] #[]) ∧ W'.cell? ⟨p1, 0, none⟩ = some (.int .u64 xe) ∧ W'.cell? ⟨p1, 1, none⟩ = some (.int .u32 xn) ∧ W'.cell? ⟨p1, 2, none⟩ = some (.slice xa xr.length xc) ∧ W'.cell? ⟨p1, 3, none⟩ = some (.int .u64 xd) ∧ W'.cell? ⟨p2, 0, none⟩ = some (.int .u64 ye) ∧ W'.cell? ⟨p2, 1, none⟩ = some (.int .u32 yn) ∧ W'.cell? ⟨p2, 2, none⟩ = some (.slice ya yr.length yc) ∧ W'.cell? ⟨p2, 3, none⟩ = some (.int .u64 yd)) (by kernel_rfl) ?_ (fun hHeld => ?_)
  · exact hF.out _ (Kp.refl [] WB).drew
  have KD : Hid (Kp [] WB WB.drew) := hid (Kp.refl [] WB).drew
  generalize WB.drew = Wd at *
  refine wpAnyH_take (i := 0) (v := ?_) rfl (by kernel_rfl) (by kernel_rfl) (by kernel_rfl) (fun _ _ _ h => h) (Or.inl ⟨by rfl, ?_⟩) (by assumption) ?_
  rotate_left
  · intro w hSw; (try dsimp only at hSw); go_simp <;> with_reducible rfl
  try simp only [Act.put, List.getElem_toArray, List.getElem_cons_zero, List.getElem_cons_succ, List.setIfInBounds_toArray, List.set_cons_zero, List.set_cons_succ]
  refine wpAnyH_take (i := 1) (v := ?_) rfl (by kernel_rfl) (by kernel_rfl) (by kernel_rfl) (fun _ _ _ h => h) (Or.inl ⟨by rfl, ?_⟩) (by assumption) ?_
  rotate_left
  · intro w hSw; (try dsimp only at hSw); go_simp <;> with_reducible rfl
  try simp only [Act.put, List.getElem_toArray, List.getElem_cons_zero, List.getElem_cons_succ, List.setIfInBounds_toArray, List.set_cons_zero, List.set_cons_succ]
  refine wpAnyH_take (i := 2) (v := ?_) rfl (by kernel_rfl) (by kernel_rfl) (by kernel_rfl) (fun _ _ _ h => h) (Or.inl ⟨by rfl, ?_⟩) (by assumption) ?_
  rotate_left
  · intro w hSw; (try dsimp only at hSw); go_simp <;> with_reducible rfl
  try simp only [Act.put, List.getElem_toArray, List.getElem_cons_zero, List.getElem_cons_succ, List.setIfInBounds_toArray, List.set_cons_zero, List.set_cons_succ]
  refine wpAnyH_take (i := 4) (v := ?_) rfl (by kernel_rfl) (by kernel_rfl) (by kernel_rfl) (fun _ _ _ h => h) (Or.inl ⟨by rfl, ?_⟩) (by assumption) ?_
  rotate_left
  · intro w hSw; (try dsimp only at hSw); go_simp <;> with_reducible rfl
  try simp only [Act.put, List.getElem_toArray, List.getElem_cons_zero, List.getElem_cons_succ, List.setIfInBounds_toArray, List.set_cons_zero, List.set_cons_succ]
  refine wpAnyH_take (i := 5) (v := ?_) rfl (by kernel_rfl) (by kernel_rfl) (by kernel_rfl) (fun _ _ _ h => h) (Or.inl ⟨by rfl, ?_⟩) (by assumption) ?_
  rotate_left
  · intro w hSw; (try dsimp only at hSw); go_simp <;> with_reducible rfl
  try simp only [Act.put, List.getElem_toArray, List.getElem_cons_zero, List.getElem_cons_succ, List.setIfInBounds_toArray, List.set_cons_zero, List.set_cons_succ]
  refine wpAnyH_ready (rs := [3]) (by kernel_rfl) (by simp) ?_
  refine AllReadyH.cons rfl (fun K hK => ?_) AllReadyH.nil
  go_simp
  refine (cn.out _).mono ?_
  rintro e w3 ⟨rfl, k3⟩
  have K3 := hid (KD.out.trans k3 (by simp))
  clear k3
  (try go_wp2_with fail)
  refine hK.out _ _ ?_ (fun hHeld => ?_)
  · exact hF.out _ K3.out
  clear hK K
  try simp only [Act.put, List.getElem_toArray, List.getElem_cons_zero, List.getElem_cons_succ, List.setIfInBounds_toArray, List.set_cons_zero, List.set_cons_succ]
  refine wpAnyH_ready (rs := [6]) (by kernel_rfl) (by simp) ?_
  refine AllReadyH.cons rfl (fun K hK => ?_) AllReadyH.nil
  go_simp
  refine (cm.out _).mono ?_
  rintro e w4 ⟨rfl, k4⟩
  have K4 := hid (K3.out.trans k4 (by simp))
  clear k4
  (try go_wp2_with fail)
  refine hK.out _ _ ?_ (fun hHeld => ?_)
  · exact hF.out _ K4.out
  clear hK K
  try simp only [Act.put, List.getElem_toArray, List.getElem_cons_zero, List.getElem_cons_succ, List.setIfInBounds_toArray, List.set_cons_zero, List.set_cons_succ]
  refine wpAnyH_ready (rs := [7]) (by kernel_rfl) (by simp) ?_
  refine AllReadyH.cons rfl (fun K hK => ?_) AllReadyH.nil
  go_simp
  refine (cc.out _).mono ?_
  rintro e w5 ⟨rfl, k5⟩
  have K5 := hid (K4.out.trans k5 (by simp))
  clear k5
  (try go_wp2_with fail)
  refine hK.out _ _ ?_ (fun hHeld => ?_)
  · exact hF.out _ K5.out
  clear hK K
  try simp only [Act.put, List.getElem_toArray, List.getElem_cons_zero, List.getElem_cons_succ, List.setIfInBounds_toArray, List.set_cons_zero, List.set_cons_succ]
  refine wpAnyH_take (i := 8) (v := ?_) rfl (by kernel_rfl) (by kernel_rfl) (by kernel_rfl) (fun _ _ _ h => h) (Or.inl ⟨by rfl, ?_⟩) (by assumption) ?_
  rotate_left
  · intro w hSw; (try dsimp only at hSw); go_simp <;> with_reducible rfl
  try simp only [Act.put, List.getElem_toArray, List.getElem_cons_zero, List.getElem_cons_succ, List.setIfInBounds_toArray, List.set_cons_zero, List.set_cons_succ]
  refine wpAnyH_done (by kernel_rfl) ?_ _
  have K := hid (KW.out.trans K5.out (by simp))
  clear hHeld hF
  go_wp2_with fail
  go_ret
  exact ⟨rfl, K.out⟩
set_option maxHeartbeats 8000000 in
set_option maxRecDepth 100000 in
theorem cEqK (q4 q5 q7 : Nat) (x y : Vn) (w : World) (h : BxK q4 q5 w) (h7 : w.cell? ⟨q7, 0, none⟩ = some (.func (.func 39) #[] #[.pointer (some ⟨q5, 0, none⟩), .pointer (some ⟨q4, 0, none⟩)])) : Calls Try.prog 43 #[.agg #[.int .u64 x.ep, .int .u32 x.num, .slice x.a x.row.length x.c, .int .u64 x.del], .agg #[.int .u64 y.ep, .int .u32 y.num, .slice y.a y.row.length y.c, .int .u64 y.del], .pointer (some ⟨q7, 0, none⟩)] w fun e w' => e = .returned (.bool (decide (x.id = y.id))) ∧ Kp [] w w' := by
  have hlt7 : q7 < w.heap.size := World.block_lt_of_cell? _ _ h7
  have cc := hid (fun W (k : Kp [] w W) => cByKey q4 q5 x y W (h.kept k (by simp) (by simp)))
  have hR : Hid ((nmI x.id y.id == 0) = decide (x.id = y.id)) := hid (by
    by_cases e : x.id = y.id
    · have := (nmI_zero x.id y.id).2 e
      rw [this, decide_eq_true e]; rfl
    · have : nmI x.id y.id ≠ 0 := fun e2 => e ((nmI_zero x.id y.id).1 e2)
      rw [decide_eq_false e]; simpa using this)
  obtain ⟨R, hR1⟩ : ∃ R, Hid (nmI x.id y.id = R) := ⟨_, hid rfl⟩
  rw [hR1.out] at cc hR
  rw [← hR.out]
  clear hR hR1 h
  obtain ⟨xe, xn, xa, xc, xr, xd⟩ := x
  obtain ⟨ye, yn, ya, yc, yr, yd⟩ := y
  dsimp only at cc ⊢
  obtain ⟨WA, eWA⟩ : ∃ Y, w.alloc (.cells #[.int .u64 xe, .int .u32 xn, .slice xa xr.length xc, .int .u64 xd] 34) = Y := ⟨_, rfl⟩
  have kWA : Kp [] w WA := by rw [← eWA]; exact (Kp.refl _ _).alloc _
  have xWA : Bn WA w.heap.size [.int .u64 xe, .int .u32 xn, .slice xa xr.length xc, .int .u64 xd] := by rw [← eWA]; exact Bn.new w [.int .u64 xe, .int .u32 xn, .slice xa xr.length xc, .int .u64 xd] 34
  obtain ⟨WB, eWB⟩ : ∃ Y, WA.alloc (.cells #[.int .u64 ye, .int .u32 yn, .slice ya yr.length yc, .int .u64 yd] 34) = Y := ⟨_, rfl⟩
  have kWB : Kp [] WA WB := by rw [← eWB]; exact (Kp.refl _ _).alloc _
  have xWB : Bn WB WA.heap.size [.int .u64 ye, .int .u32 yn, .slice ya yr.length yc, .int .u64 yd] := by rw [← eWB]; exact Bn.new WA [.int .u64 ye, .int .u32 yn, .slice ya yr.length yc, .int .u64 yd] 34
  obtain ⟨p1, hp1⟩ : ∃ q, w.heap.size = q := ⟨_, rfl⟩
  obtain ⟨p2, hp2⟩ : ∃ q, WA.heap.size = q := ⟨_, rfl⟩
  rw [hp1] at xWA
  rw [hp2] at xWB
  have KW := hid (kWA.trans kWB (by simp))
  have s7 := kpAt KW.out h7
  have xA2 := xWA.kept kWB
  have a0 := xA2.get 0 _ rfl; have a1 := xA2.get 1 _ rfl; have a2 := xA2.get 2 _ rfl; have a3 := xA2.get 3 _ rfl
  have b0 := xWB.get 0 _ rfl; have b1 := xWB.get 1 _ rfl; have b2 := xWB.get 2 _ rfl; have b3 := xWB.get 3 _ rfl
  have cB := hid (cc.out WB KW.out)
  clear kWA kWB xWA xWB xA2 h7 cc
  go_enter Try.func43, Try.ntmps43
  go_wp2_with fail
  refine cB.out.mono ?_
  rintro e w3 ⟨rfl, k3⟩
  have K3 := hid (KW.out.trans k3 (by simp))
  clear k3 cB
  go_wp2_with fail
  go_ret
  exact ⟨rfl, K3.out⟩
end Go.Proofs.Ytebkkdoggagcdaa
end

section
namespace Go.Proofs.Ytebkkdoggagcdaa
open Go.RowKit Go.Hay
set_option linter.unusedVariables false
set_option linter.unusedSimpArgs false

/-- A version. -/
structure Vr where
  e : Int
  n : Int
  a : Option Addr
  c : Nat
  l : List Val
  d : Int
instance : Inhabited Vr := ⟨⟨0, 0, none, 0, [], 0⟩⟩
def Vr.v (x : Vr) : Value := .agg #[.int .u64 x.e, .int .u32 x.n, .slice x.a x.l.length x.c, .int .u64 x.d]
def VrE : El Vr where
  n := 4
  c x := [.int .u64 x.e, .int .u32 x.n, .slice x.a x.l.length x.c, .int .u64 x.d]
  len _ := rfl
  one _ u hu := by simp at hu; rcases hu with rfl | rfl | rfl | rfl <;> rfl
  pos := by decide
theorem vrAt {w : World} {a : Option Addr} {l : List Vr} (h : VrE.See w a l) {j : Nat} {x : Vr} (hx : l[j]? = some x) : ∃ g o, a = some ⟨g, o, none⟩ ∧ w.cell? ⟨g, o + j * 4, none⟩ = some (.int .u64 x.e) ∧ w.cell? ⟨g, o + j * 4 + 1, none⟩ = some (.int .u32 x.n) ∧ w.cell? ⟨g, o + j * 4 + 2, none⟩ = some (.slice x.a x.l.length x.c) ∧ w.cell? ⟨g, o + j * 4 + 3, none⟩ = some (.int .u64 x.d) := by
  obtain ⟨g, o, rfl, hc⟩ := h.at hx
  exact ⟨g, o, rfl, hc 0 _ rfl, hc 1 _ rfl, hc 2 _ rfl, hc 3 _ rfl⟩
end Go.Proofs.Ytebkkdoggagcdaa
end

section
namespace Go.Hay
open Go.RowKit
set_option linter.unusedVariables false

section
variable {α : Type} {E : El α}
theorem El.cs_replicate (z : α) (n : Nat) (j : Nat) (u : Value) (h : (E.cs (List.replicate n z))[j]? = some u) : (E.c z)[j % E.n]? = some u ∧ j < n * E.n := by
  have hj : j < n * E.n := by have := (List.getElem?_eq_some_iff.1 h).1; rwa [El.cs_length, List.length_replicate] at this
  refine ⟨?_, hj⟩
  have hq : j / E.n < n := (Nat.div_lt_iff_lt_mul E.pos).2 hj
  have hm : j % E.n < E.n := Nat.mod_lt _ E.pos
  have hx : (List.replicate n z)[j / E.n]? = some z := by rw [List.getElem?_replicate, if_pos hq]
  have e := El.cs_get E hx hm
  rw [Nat.mul_comm, Nat.div_add_mod] at e
  rw [← e]; exact h
/-- So many elements, all nought, made. -/
theorem run_makeG {P : Program} (w : World) (t e : TypeId) (i : TypeInfo) (zv : Value) (z : α) (bytes : Nat) (ht : P.underlying t = some (.slice e)) (hi : P.info? e = some i) (hz : i.zero = some zv) (hsize : i.size = E.n) (hby : i.bytes = bytes) (hzc : zv.cells = (E.c z).toArray)
    (kl kc : IntKind) (n : Nat) (hn : n * bytes ≤ 281474976710656) (h63 : n ≤ maxLen) :
    ∃ W, (Instr.makeSlice t (.int kl (n : Int)) (.int kc (n : Int))).run P w = .ok (.slice (some ⟨w.heap.size, 0, none⟩) n n) W ∧ E.Row W (.slice (some ⟨w.heap.size, 0, none⟩) n n) (List.replicate n z) ∧ Kp [] w W ∧ W.heap.size = w.heap.size + 1 := by
  have hr := run_make (P := P) w t e i zv ht hi hz kl kc n n (by omega) (by omega) (by rw [hby]; have h : ((n * bytes : Nat) : Int) ≤ ((281474976710656 : Nat) : Int) := Int.ofNat_le.2 hn; rw [Int.natCast_mul, Int.mul_comm] at h; exact h) (by unfold maxLen at h63; omega)
  rw [Int.toNat_natCast, hsize] at hr
  have hzs : zv.cells.size = E.n := by rw [hzc]; simp [E.len]
  have hget : ∀ j, j < n * E.n → (w.alloc (.cells (madeCells zv.cells (n * E.n)) e)).cell? ⟨w.heap.size, 0 + j, none⟩ = some zv.cells[j % E.n]! := fun j hj => by
    have e1 : (w.alloc (.cells (madeCells zv.cells (n * E.n)) e)).cell? ⟨w.heap.size, 0 + j, none⟩ = _ := World.cell?_alloc_new w _ _ (0 + j)
    rw [e1, Nat.zero_add]
    unfold madeCells
    rw [Array.getElem?_map, Array.getElem?_range, if_pos hj, hzs]
    rfl
  refine ⟨_, hr, .inr ⟨w.heap.size, 0, n, by rw [List.length_replicate], by rw [List.length_replicate]; exact Nat.le_refl _, h63, by simp, fun j u hu => ?_, fun j hj => ⟨?_, World.frozen?_alloc_new w _ _ (0 + j)⟩⟩, (Kp.refl _ _).alloc _, by simp⟩
  · obtain ⟨h1, h2⟩ := El.cs_replicate z n j u hu
    rw [hget j h2, hzc]
    have hm : j % E.n < (E.c z).length := by rw [E.len]; exact Nat.mod_lt _ E.pos
    rw [getElem!_pos _ _ (by simpa using hm)]
    have := (List.getElem?_eq_some_iff.1 h1).2
    simp [this]
  · rw [hget j hj]; rfl
/-- .. written at a place. -/
theorem El.Row.setAt {w : World} {g o n cap : Nat} {l : List α} (h : E.Row w (.slice (some ⟨g, o, none⟩) n cap) l) (i : Nat) (hi : i < l.length) (x : α) : E.Row (w.setCells g (o + i * E.n) (E.c x)) (.slice (some ⟨g, o, none⟩) n cap) (l.set i x) := by
  rcases h with ⟨e, _⟩ | ⟨g, o, c, e, hl, hx, hg, hc, ht⟩
  · cases e
  · cases e
    have hin : i * E.n + E.n ≤ l.length * E.n := by rw [← Nat.succ_mul]; exact Nat.mul_le_mul_right _ hi
    have hcap : l.length * E.n ≤ cap * E.n := Nat.mul_le_mul_right _ hl
    have hsome : ∀ j, j < (E.c x).length → (w.cell? ⟨g, o + i * E.n + j, none⟩).isSome = true := fun j hj => by rw [E.len] at hj; rw [Nat.add_assoc]; exact (ht _ (by omega)).1
    refine .inr ⟨g, o, cap, by rw [List.length_set], by rw [List.length_set]; exact hl, hx, by rw [size_setCells]; exact hg, fun j u hu => ?_, fun j hj => ⟨?_, (World.frozen?_setCells g _ _ _ _).trans (ht j hj).2⟩⟩
    · have hjl : j < l.length * E.n := by have := (List.getElem?_eq_some_iff.1 hu).1; rwa [El.cs_length, List.length_set] at this
      have hq : j / E.n < l.length := (Nat.div_lt_iff_lt_mul E.pos).2 hjl
      have hm : j % E.n < E.n := Nat.mod_lt _ E.pos
      have hjd : j = j / E.n * E.n + j % E.n := by rw [Nat.mul_comm]; exact (Nat.div_add_mod j E.n).symm
      by_cases hji : j / E.n = i
      · have hx' : (l.set i x)[j / E.n]? = some x := by rw [hji]; exact List.getElem?_set_self hi
        have e := El.cs_get E hx' hm
        rw [← hjd, hu] at e
        have hk : j % E.n < (E.c x).length := by rw [E.len]; exact hm
        have := World.cell?_setCells_in g (E.c x) (o + i * E.n) w hsome (j % E.n) hk
        rw [← List.getElem?_eq_getElem hk, ← e] at this
        rw [show o + i * E.n + j % E.n = o + j by rw [hji] at hjd; omega] at this
        exact this
      · have hy : (l.set i x)[j / E.n]? = some l[j / E.n] := by rw [List.getElem?_set_ne (fun e => hji e.symm)]; simp [hq]
        have e := El.cs_get E hy hm
        have e2 := El.cs_get E (show l[j / E.n]? = some l[j / E.n] by simp [hq]) hm
        rw [← hjd, hu] at e
        rw [← hjd, ← e] at e2
        rw [World.cell?_setCells_out g _ _ _ _ (fun _ _ => ?_)]
        · exact hc j u e2
        · rw [E.len]
          show o + j < o + i * E.n ∨ o + i * E.n + E.n ≤ o + j
          rcases Nat.lt_or_gt_of_ne hji with h1 | h1
          · have : (j / E.n + 1) * E.n ≤ i * E.n := Nat.mul_le_mul_right _ h1
            rw [Nat.succ_mul] at this
            left; omega
          · have : (i + 1) * E.n ≤ j / E.n * E.n := Nat.mul_le_mul_right _ h1
            rw [Nat.succ_mul] at this
            right; omega
    · by_cases hin2 : i * E.n ≤ j ∧ j < i * E.n + E.n
      · have := World.cell?_setCells_in g (E.c x) (o + i * E.n) w hsome (j - i * E.n) (by rw [E.len]; omega)
        rw [show o + i * E.n + (j - i * E.n) = o + j by omega] at this
        rw [this]; rfl
      · rw [World.cell?_setCells_out g _ _ _ _ (fun _ _ => by rw [E.len]; show o + j < o + i * E.n ∨ o + i * E.n + E.n ≤ o + j; omega)]
        exact (ht j hj).1
end
def BytE : El UInt8 where
  n := 1
  c x := [.int .u8 x.toNat]
  len _ := rfl
  one _ u hu := by simp at hu; subst hu; rfl
  pos := by decide
theorem bytE_cs (bs : List UInt8) : BytE.cs bs = bs.map fun x => .int .u8 x.toNat := by
  unfold El.cs BytE
  induction bs with
  | nil => rfl
  | cons x l ih => simp [List.flatMap_cons, ih]
theorem rowByt {w : World} {v : Value} {bs : List UInt8} : BytE.Row w v bs ↔ Row w v bs := by
  have hn : BytE.n = 1 := rfl
  constructor
  · rintro (h | ⟨g, o, cap, rfl, hl, hm, hg, hc, ht⟩)
    · exact .inl h
    · exact .inr ⟨g, o, cap, rfl, hl, hm, hg, fun j u hu => hc j _ (by rw [bytE_cs, List.getElem?_map, hu]; rfl), fun j hj => ht j (by rw [hn]; omega)⟩
  · rintro (h | ⟨g, o, cap, rfl, hl, hm, hg, hc, ht⟩)
    · exact .inl h
    · refine .inr ⟨g, o, cap, rfl, hl, hm, hg, fun j u hu => ?_, fun j hj => ht j (by rw [hn] at hj; omega)⟩
      rw [bytE_cs, List.getElem?_map] at hu
      cases hb : bs[j]? with
      | none => rw [hb] at hu; cases hu
      | some b => rw [hb] at hu; cases hu; exact hc j b hb
theorem seeByt {w : World} {a : Option Addr} {bs : List UInt8} : BytE.See w a bs ↔ Sees w a bs := by
  constructor
  · rintro (h | ⟨g, o, rfl, hc⟩)
    · exact .inl h
    · exact .inr ⟨g, o, rfl, fun j u hu => hc j _ (by rw [bytE_cs, List.getElem?_map, hu]; rfl)⟩
  · rintro (h | ⟨g, o, rfl, hc⟩)
    · exact .inl h
    · refine .inr ⟨g, o, rfl, fun j u hu => ?_⟩
      rw [bytE_cs, List.getElem?_map] at hu
      cases hb : bs[j]? with
      | none => rw [hb] at hu; cases hu
      | some b => rw [hb] at hu; cases hu; exact hc j b hb
end Go.Hay
end

section
namespace Go.Proofs.Ytebkkdoggagcdaa
open Go.RowKit Go.Hay
set_option linter.unusedVariables false
set_option linter.unusedSimpArgs false

/-- Things as they stand, told by where each came from. -/
def arr (A : Nat → Vr) (p : Nat → Nat) (n : Nat) : List Vr := (List.range n).map fun k => A (p k)
theorem arr_len (A : Nat → Vr) (p : Nat → Nat) (n : Nat) : (arr A p n).length = n := by simp [arr]
theorem arr_at (A : Nat → Vr) (p : Nat → Nat) (n i : Nat) (h : i < n) : (arr A p n)[i]? = some (A (p i)) := by simp [arr, h]
theorem arr_swap (A : Nat → Vr) (p : Nat → Nat) (n i j : Nat) (hi : i < n) (hj : j < n) : ((arr A p n).set i (A (p j))).set j (A (p i)) = arr A (fun k => p (swp i j k)) n := by
  apply List.ext_getElem?
  intro k
  by_cases hk : k < n
  · rw [arr_at A _ n k hk, List.getElem?_set, List.getElem?_set]
    simp only [List.length_set, arr_len, hj, hi, if_true]
    by_cases c1 : j = k
    · subst c1
      rw [if_pos rfl]
      unfold swp
      split
      · rename_i h; rw [h]
      · rw [if_pos rfl]
    · rw [if_neg c1]
      by_cases c2 : i = k
      · subst c2
        rw [if_pos rfl]
        unfold swp
        rw [if_pos rfl]
      · rw [if_neg c2, arr_at A _ n k hk]
        unfold swp
        rw [if_neg (fun h => c2 h.symm), if_neg (fun h => c1 h.symm)]
  · rw [List.getElem?_eq_none (by simp [arr_len]; omega), List.getElem?_eq_none (by simp [arr_len]; omega)]
/-- The row that is sorted stands so. -/
def Hd (W : World) (g o n cap : Nat) (A : Nat → Vr) (p : Nat → Nat) : Prop := VrE.Row W (.slice (some ⟨g, o, none⟩) n cap) (arr A p n)
theorem Hd.cells {W : World} {g o n cap : Nat} {A : Nat → Vr} {p : Nat → Nat} (h : Hd W g o n cap A p) (i : Nat) (hi : i < n) : (W.cell? ⟨g, o + i * 4, none⟩ = some (.int .u64 (A (p i)).e) ∧ W.cell? ⟨g, o + i * 4 + 1, none⟩ = some (.int .u32 (A (p i)).n) ∧ W.cell? ⟨g, o + i * 4 + 2, none⟩ = some (.slice (A (p i)).a (A (p i)).l.length (A (p i)).c) ∧ W.cell? ⟨g, o + i * 4 + 3, none⟩ = some (.int .u64 (A (p i)).d)) ∧ W.frozen? ⟨g, o + i * 4, none⟩ = false ∧ W.frozen? ⟨g, o + i * 4 + 1, none⟩ = false ∧ W.frozen? ⟨g, o + i * 4 + 2, none⟩ = false ∧ W.frozen? ⟨g, o + i * 4 + 3, none⟩ = false := by
  obtain ⟨a', c', e, hs, _⟩ := El.Row.see h
  have e1 := Value.slice.inj e
  obtain ⟨g', o', e2, x0, x1, x2, x3⟩ := vrAt hs (arr_at A p n i hi)
  rw [← e1.1] at e2
  cases e2
  refine ⟨⟨x0, x1, x2, x3⟩, ?_⟩
  rcases h with ⟨e3, _⟩ | ⟨g2, o2, cc, e3, hl, hx, hg, hc, ht⟩
  · cases e3
  · have e4 := Value.slice.inj e3
    obtain ⟨e5, e6, e7⟩ := e4
    cases e5
    subst e7
    have en : VrE.n = 4 := rfl
    rw [en] at ht
    rw [arr_len] at hl
    have f : ∀ c, c < 4 → W.frozen? ⟨g, o + (i * 4 + c), none⟩ = false := fun c hc => (ht (i * 4 + c) (by omega)).2
    exact ⟨f 0 (by omega), by rw [Nat.add_assoc]; exact f 1 (by omega), by rw [Nat.add_assoc]; exact f 2 (by omega), by rw [Nat.add_assoc]; exact f 3 (by omega)⟩
def put4 (W : World) (g x : Nat) (v : Vr) : World := (((W.setCell ⟨g, x, none⟩ (.int .u64 v.e)).setCell ⟨g, x + 1, none⟩ (.int .u32 v.n)).setCell ⟨g, x + 2, none⟩ (.slice v.a v.l.length v.c)).setCell ⟨g, x + 3, none⟩ (.int .u64 v.d)
theorem put4_kp (W : World) (g x : Nat) (v : Vr) : Kp [g] W (put4 W g x v) :=
  ((((Kp.refl _ _).setCell (by simp) _).setCell (by simp) _).setCell (by simp) _).setCell (by simp) _
theorem row_put4 {W : World} {g o n cap : Nat} {l : List Vr} (h : VrE.Row W (.slice (some ⟨g, o, none⟩) n cap) l) (i : Nat) (hi : i < l.length) (x : Vr) : VrE.Row (put4 W g (o + i * 4) x) (.slice (some ⟨g, o, none⟩) n cap) (l.set i x) := by
  have := h.setAt i hi x
  have e : VrE.n = 4 := rfl
  rw [e] at this
  exact this
theorem Hd.swap {W : World} {g o n cap : Nat} {A : Nat → Vr} {p : Nat → Nat} (h : Hd W g o n cap A p) (i j : Nat) (hi : i < n) (hj : j < n) : Hd (put4 (put4 W g (o + i * 4) (A (p j))) g (o + j * 4) (A (p i))) g o n cap A (fun k => p (swp i j k)) := by
  unfold Hd
  rw [← arr_swap A p n i j hi hj]
  exact row_put4 (row_put4 h i (by rw [arr_len]; exact hi) _) j (by rw [List.length_set, arr_len]; exact hj) _
/-- Behind the first store the cells of the other place stand. -/
theorem put4_cells {W : World} {g o n cap : Nat} {A : Nat → Vr} {p : Nat → Nat} (h : Hd W g o n cap A p) (i j : Nat) (hi : i < n) (hj : j < n) (x : Vr) : ∀ c, c < 4 → (∃ u, (put4 W g (o + i * 4) x).cell? ⟨g, o + j * 4 + c, none⟩ = some u) ∧ (put4 W g (o + i * 4) x).frozen? ⟨g, o + j * 4 + c, none⟩ = false := by
  intro c hc
  have h1 := row_put4 h i (by rw [arr_len]; exact hi) x
  rcases h1 with ⟨e3, _⟩ | ⟨g2, o2, cc, e3, hl, hx, hg, hcc, ht⟩
  · cases e3
  · obtain ⟨e5, e6, e7⟩ := Value.slice.inj e3
    cases e5
    subst e7
    have en : VrE.n = 4 := rfl
    rw [en] at ht
    rw [List.length_set, arr_len] at hl
    have := ht (j * 4 + c) (by omega)
    rw [← Nat.add_assoc] at this
    exact ⟨Option.isSome_iff_exists.1 this.1, this.2⟩
theorem Hd.kept {W W' : World} {g o n cap : Nat} {A : Nat → Vr} {p : Nat → Nat} (h : Hd W g o n cap A p) (k : Kp [] W W') : Hd W' g o n cap A p := El.Row.keptNew h k
theorem Hd.lt {W : World} {g o n cap : Nat} {A : Nat → Vr} {p : Nat → Nat} (h : Hd W g o n cap A p) : g < W.heap.size := El.Row.lt h g (by simp [own, Value.ownBlock])
end Go.Proofs.Ytebkkdoggagcdaa
end

/- slices.Insert of one version. -/
import Derived.Test.YtdjlefacdfdhmaaB2
import Derived.Laws.Externs
section
namespace Go.Proofs.Ytdjlefacdfdhmaa
open Go.RowKit Go.Hay
set_option linter.unusedVariables false
set_option linter.unusedSimpArgs false

def InsP (l : List Vn) (a : Option Addr) (x : Vn) (i : Nat) (w : World) (e : Ending) (w' : World) : Prop :=
  ∃ a' c', e = .returned (.slice a' (l.length + 1) c') ∧ VnE.Row w' (.slice a' (l.length + 1) c') (l.take i ++ x :: l.drop i) ∧ Kp (blk a) w w' ∧ ∀ k ∈ blk a', k ∈ blk a ∨ w.heap.size ≤ k
theorem shapeOf {w : World} {g o : Nat} {u : Value} (h : w.cell? ⟨g, o, none⟩ = some u) : ∃ t k, w.shape? g = some (t, k) ∧ k ≠ 0 := by
  unfold World.cell? at h
  cases e : w.heap[g]? with
  | none => simp [e] at h
  | some ob =>
    cases ob with
    | cells C t fr =>
      simp [e] at h
      refine ⟨t, C.size, by unfold World.shape?; rw [e], ?_⟩
      have := (Array.getElem?_eq_some_iff.1 h).1
      omega
    | _ => simp [e] at h
theorem Bx.see1 {w : World} {q : Nat} {x : Vn} (h : Bx w q (VnE.c x)) : VnE.See w (some ⟨q, 0, none⟩) [x] := by
  refine .inr ⟨q, 0, rfl, fun j u hu => ?_⟩
  rw [Nat.zero_add]
  exact h.get j u (by simpa [El.cs] using hu)
theorem len_ins (l : List Vn) (x : Vn) (i : Nat) (hi : i ≤ l.length) : (l.take i ++ x :: l.drop i).length = l.length + 1 := by simp; omega
set_option maxHeartbeats 8000000 in
set_option maxRecDepth 100000 in
theorem cInsEnd (a : Option Addr) (c : Nat) (l : List Vn) (x : Vn) (vb : Nat) (w : World) (hr : VnE.Row w (.slice a l.length c) l) (hx : Bx w vb (VnE.c x)) (hb : l.length ≤ 4000000000000) :
    Calls Try.prog 36 #[.slice a l.length c, .int .i64 (l.length : Int), .slice (some ⟨vb, 0, none⟩) 1 1] w (InsP l a x l.length w) := by
  obtain ⟨i0, hi, hz0, hz1, hz2⟩ := infoN
  have hsr := hx.see1.src (P := Try.prog) Try.underlying26 1
  obtain ⟨v', w', hrun, h1, h2, h3⟩ := run_appendG (E := VnE) (P := Try.prog) w 26 26 26 45 i0 _ 48 Try.underlying26 hi hz0 hz1 hz2 rfl _ l hr _ [x] hsr (by simp only [List.length_cons, List.length_nil]; omega) (by simp only [List.length_cons, List.length_nil]; omega)
  obtain ⟨a', c', rfl, _⟩ := h1.see
  have e : l.take l.length ++ x :: l.drop l.length = l ++ [x] := by simp
  have hl1 : (l ++ [x]).length = l.length + 1 := by simp
  rw [hl1] at hrun h1
  simp only [own_slice] at h2 h3
  have hfin : InsP l a x l.length w (.returned (.slice a' (l.length + 1) c')) w' := ⟨a', c', rfl, by rw [e]; exact h1, h2, h3⟩
  obtain ⟨_, _, e0, _, hnil, hlc, hcm, _⟩ := hr.see
  cases e0
  unfold maxLen at hcm
  obtain ⟨N, hN⟩ : ∃ N, Hid (l.length = N) := ⟨_, rfl⟩
  rw [hN.out] at hrun hfin hb hlc ⊢
  have hH := hid hfin
  have t1 : ((N : Int) == (N : Int)) = true := by simp
  clear h1 h2 h3 e hl1 hr hsr hfin hx hnil hN
  have hn : a = none → c = 0 ∨ True := fun _ => .inr trivial
  clear hn
  go_enter Try.func36, Try.ntmps36
  cases a with
  | none =>
    go_wp2_with (first | (refine wpAppRun rfl _ _ 26 26 rfl _ _ _ rfl rfl hrun ?_) | fail)
    go_ret
    exact hH.out
  | some ad =>
    go_wp2_with (first | (refine wpAppRun rfl _ _ 26 26 rfl _ _ _ rfl rfl hrun ?_) | fail)
    all_goals (go_ret; exact hH.out)
set_option maxHeartbeats 8000000 in
set_option maxRecDepth 100000 in
theorem cInsRoom (g o c : Nat) (l : List Vn) (x : Vn) (i vb : Nat) (w : World) (hr : VnE.Row w (.slice (some ⟨g, o, none⟩) l.length c) l) (hi : i < l.length) (hx : Bx w vb (VnE.c x)) (hvb : vb ≠ g) (hroom : l.length + 1 ≤ c) (hb : l.length ≤ 4000000000000) :
    Calls Try.prog 36 #[.slice (some ⟨g, o, none⟩) l.length c, .int .i64 (i : Int), .slice (some ⟨vb, 0, none⟩) 1 1] w (InsP l (some ⟨g, o, none⟩) x i w) := by
  obtain ⟨i0, hi0, hz0, hz1, hz2⟩ := infoN
  obtain ⟨_, _, e0, hsee, hnil, hlc, hcm, _⟩ := hr.see
  cases e0
  unfold maxLen at hcm
  obtain ⟨g', o', ea, x0, _⟩ := idAt hsee (i := i) (x := l[i]) (by simp [hi])
  cases ea
  obtain ⟨tB, kB, hsb, hkB⟩ := shapeOf x0
  obtain ⟨tA, kA, hsa, _⟩ := shapeOf (hx.get 0 _ rfl)
  have hsz : ∀ w : World, (Go.sizeOf 45).run Try.prog w = .ok 4 w := fun w => by simp [sizeOf, typeInfo, hi0, hz1]
  have hov : ∀ a lb cb, a.block = g → (callFunc 50 #[.slice (some ⟨vb, 0, none⟩) 1 1, .slice (some a) lb cb]).run Try.prog w = .ok (.value (.bool false)) w := fun a lb cb ha => by
    rw [run_callFunc_extern Try.func50 (by kernel_rfl) (by kernel_rfl) (by kernel_rfl) (e := Extern.SlicesOverlaps.overlaps #[26, 26] #[4]) (by kernel_rfl),
      Lib.run_overlaps_apart w 26 4 45 Try.underlying26 4 hsz ⟨vb, 0, none⟩ a 1 1 lb cb (by rw [ha]; exact hvb) tA tB kA kB hsa (by rw [ha]; exact hsb) hkB (hx.free 0) (hx.free kA)]
    rfl
  -- the first copy
  have hdl : (l.drop i).length = l.length - i := List.length_drop
  have kd : Kp [] w w.drew := (Kp.refl _ _).drew
  have hrd := hr.keptNew kd
  have hseed := hsee.keptNew kd
  obtain ⟨hrow1, k1, hs1, hf1⟩ := hrd.put (i + 1) (by omega) (l.drop i) (by rw [hdl]; omega)
  have hsd : ∀ j u, (VnE.cs (l.drop i))[j]? = some u → w.drew.cell? ⟨g, o + i * 4 + j, none⟩ = some u := fun j u hu => by
    rcases hseed with h | ⟨g', o', e, hc⟩
    · rw [h] at hi; simp at hi
    · cases e
      rw [El.cs_drop, List.getElem?_drop] at hu
      rw [Nat.add_assoc]
      exact hc _ u hu
  have l1 : l.take (i + 1) ++ l.drop i ++ l.drop (i + 1 + (l.drop i).length) = l.take (i + 1) ++ l.drop i := by
    rw [hdl, List.drop_of_length_le (i := i + 1 + (l.length - i)) (l := l) (by omega), List.append_nil]
  rw [l1] at hrow1
  have ll1 : (l.take (i + 1) ++ l.drop i).length = l.length + 1 := by simp; omega
  obtain ⟨W1, hW1⟩ : ∃ W1, w.drew.setCells g (o + (i + 1) * 4) (VnE.cs (l.drop i)) = W1 := ⟨_, rfl⟩
  have hcp1 : ∀ ty dl dc sl sc, Nat.min sl dl = l.length - i → (Builtin.copy_ #[26, 26] ty #[.slice (some ⟨g, o + (i + 1) * 4, none⟩) dl dc, .slice (some ⟨g, o + i * 4, none⟩) sl sc]).run Try.prog w.drew = .ok (goInt ((l.length - i : Nat) : Int)) W1 := fun ty dl dc sl sc hmin => by
    have := run_copyM (P := Try.prog) w.drew 26 26 ty 45 i0 Try.underlying26 hi0 g (o + (i + 1) * 4) dl dc ⟨g, o + i * 4, none⟩ sl sc (l.length - i) hmin (VnE.cs (l.drop i)) (by rw [El.cs_length, hdl, hz1]; rfl)
      (fun j v hv => by rw [Addr.add_lit]; exact hsd j v hv) hs1 hf1 (El.cs_one VnE _)
    rw [this, hW1]
  -- the second copy
  have hrow1' : VnE.Row W1 (.slice (some ⟨g, o, none⟩) (l.take (i + 1) ++ l.drop i).length c) (l.take (i + 1) ++ l.drop i) := by rw [← hW1]; exact hrow1
  have k1' : Kp [g] w W1 := by rw [← hW1]; exact (kd.mono (by simp)).trans k1 (fun _ h => .inl h)
  obtain ⟨hrow2, k2, hs2, hf2⟩ := hrow1'.put i (by rw [ll1]; omega) [x] (by simp; omega)
  have l2 : (l.take (i + 1) ++ l.drop i).take i ++ [x] ++ (l.take (i + 1) ++ l.drop i).drop (i + [x].length) = l.take i ++ x :: l.drop i := by
    have ht : (l.take (i + 1)).length = i + 1 := by simp; omega
    have e1 : (l.take (i + 1) ++ l.drop i).take i = l.take i := by
      rw [List.take_append_of_le_length (by omega), List.take_take, Nat.min_eq_left (by omega)]
    have e2 : (l.take (i + 1) ++ l.drop i).drop (i + [x].length) = l.drop i := by
      rw [show i + [x].length = (l.take (i + 1)).length by rw [ht]; rfl, List.drop_left]
    rw [e1, e2, List.append_assoc]; rfl
  rw [l2, len_ins l x i (by omega)] at hrow2
  have hx1 := hx.see1.kept k1' (fun _ k hk => by simp [blk] at hk; simp; omega)
  obtain ⟨W2, hW2⟩ : ∃ W2, W1.setCells g (o + i * 4) (VnE.cs [x]) = W2 := ⟨_, rfl⟩
  have hcp2 : ∀ ty dl dc, Nat.min 1 dl = 1 → (Builtin.copy_ #[26, 26] ty #[.slice (some ⟨g, o + i * 4, none⟩) dl dc, .slice (some ⟨vb, 0, none⟩) 1 1]).run Try.prog W1 = .ok (goInt ((1 : Nat) : Int)) W2 := fun ty dl dc hmin => by
    have := run_copyM (P := Try.prog) W1 26 26 ty 45 i0 Try.underlying26 hi0 g (o + i * 4) dl dc ⟨vb, 0, none⟩ 1 1 1 hmin (VnE.cs [x]) (by rw [El.cs_length, hz1]; rfl)
      (fun j v hv => by
        rw [Addr.add_lit]
        rcases hx1 with h | ⟨g', o', e, hc⟩
        · cases h
        · cases e; exact hc j v hv) hs2 hf2 (El.cs_one VnE _)
    rw [this, hW2]
  have hfin : InsP l (some ⟨g, o, none⟩) x i w (.returned (.slice (some ⟨g, o, none⟩) (l.length + 1) c)) W2 := ⟨_, _, rfl, by rw [← hW2]; exact hrow2, by rw [← hW2]; exact k1'.trans k2 (fun k hk => .inl (by simpa [blk] using hk)), fun k hk => .inl hk⟩
  obtain ⟨N, hN⟩ : ∃ N, Hid (l.length = N) := ⟨_, rfl⟩
  rw [hN.out] at hfin hb hlc hi hroom ⊢
  simp only [hN.out] at hcp1
  have hH := hid hfin
  have t1 : ((i : Int) == (N : Int)) = false := by simp; omega
  have t2 : ¬ ((c : Int) < (N : Int) + 1) := by omega
  have t3 : decide ((c : Int) < (N : Int) + 1) = false := by simp; omega
  have hw1 : IntKind.i64.wrap ((i : Int) + 1) = (i : Int) + 1 := by rw [IntKind.wrap_i64]; omega
  have hb1 : (0 : Int) ≤ (i : Int) + 1 := by omega
  have htn : ((i : Int) + 1).toNat = i + 1 := by omega
  have hb2 : ¬ (c = i + 1) := by omega
  have hb3 : (i : Int) ≤ (N : Int) + 1 := by omega
  have hb5 : (i : Int) + 1 ≤ (N : Int) + 1 := by omega
  have hb6 : i + 1 ≤ N + 1 := by omega
  have hb7 : i ≤ N + 1 := by omega
  have hb4 : ¬ (c = i) := by omega
  have hW1' := hid hW1
  have hW2' := hid hW2
  clear hrow1 hrow1' hrow2 k1 k1' k2 hs1 hs2 hf1 hf2 hsd l1 ll1 l2 hx1 hr hx hsee hsa hsb hsz hnil hN hfin hW1 hW2 x0 hdl hrd hseed kd
  go_enter Try.func36, Try.ntmps36
  go_wp2_with fail
  refine wp_region_held_drew (S := fun _ => True) (by kernel_rfl) trivial (fun hHeld => ?_)
  refine wpAnyH_take (i := 0) (v := ?_) rfl (by kernel_rfl) (by kernel_rfl) (by kernel_rfl) (fun _ _ _ h => h) (Or.inl ⟨by rfl, ?_⟩) (by assumption) ?_
  rotate_left
  · intro w hSw; (try dsimp only at hSw); go_simp <;> with_reducible rfl
  try simp only [Act.put, List.getElem_toArray, List.getElem_cons_zero, List.getElem_cons_succ, List.setIfInBounds_toArray, List.set_cons_zero, List.set_cons_succ]
  refine wpAnyH_take (i := 1) (v := ?_) rfl (by kernel_rfl) (by kernel_rfl) (by kernel_rfl) (fun _ _ _ h => h) (Or.inl ⟨by rfl, ?_⟩) (by assumption) ?_
  rotate_left
  · intro w hSw; (try dsimp only at hSw); go_simp <;> with_reducible rfl
  try simp only [Act.put, List.getElem_toArray, List.getElem_cons_zero, List.getElem_cons_succ, List.setIfInBounds_toArray, List.set_cons_zero, List.set_cons_succ]
  refine wpAnyH_take (i := 2) (v := ?_) rfl (by kernel_rfl) (by kernel_rfl) (by kernel_rfl) (fun _ _ _ h => h) (Or.inl ⟨by rfl, ?_⟩) (by assumption) ?_
  rotate_left
  · intro w hSw; (try dsimp only at hSw); go_simp <;> with_reducible rfl
  try simp only [Act.put, List.getElem_toArray, List.getElem_cons_zero, List.getElem_cons_succ, List.setIfInBounds_toArray, List.set_cons_zero, List.set_cons_succ]
  refine wpAnyH_take (i := 3) (v := ?_) rfl (by kernel_rfl) (by kernel_rfl) (by kernel_rfl) (fun _ _ _ h => h) (Or.inl ⟨by rfl, ?_⟩) (by assumption) ?_
  rotate_left
  · intro w hSw; (try dsimp only at hSw); go_simp <;> with_reducible rfl
  try simp only [Act.put, List.getElem_toArray, List.getElem_cons_zero, List.getElem_cons_succ, List.setIfInBounds_toArray, List.set_cons_zero, List.set_cons_succ]
  refine wpAnyH_take (i := 4) (v := ?_) rfl (by kernel_rfl) (by kernel_rfl) (by kernel_rfl) (fun _ _ _ h => h) (Or.inl ⟨by rfl, ?_⟩) (by assumption) ?_
  rotate_left
  · intro w hSw; (try dsimp only at hSw); go_simp <;> with_reducible rfl
  try simp only [Act.put, List.getElem_toArray, List.getElem_cons_zero, List.getElem_cons_succ, List.setIfInBounds_toArray, List.set_cons_zero, List.set_cons_succ]
  refine wpAnyH_take (i := 5) (v := ?_) rfl (by kernel_rfl) (by kernel_rfl) (by kernel_rfl) (fun _ _ _ h => h) (Or.inl ⟨by rfl, ?_⟩) (by assumption) ?_
  rotate_left
  · intro w hSw; (try dsimp only at hSw); go_simp <;> with_reducible rfl
  try simp only [Act.put, List.getElem_toArray, List.getElem_cons_zero, List.getElem_cons_succ, List.setIfInBounds_toArray, List.set_cons_zero, List.set_cons_succ]
  refine wpAnyH_take (i := 6) (v := ?_) rfl (by kernel_rfl) (by kernel_rfl) (by kernel_rfl) (fun _ _ _ h => h) (Or.inl ⟨by rfl, ?_⟩) (by assumption) ?_
  rotate_left
  · intro w hSw; (try dsimp only at hSw); go_simp <;> with_reducible rfl
  try simp only [Act.put, List.getElem_toArray, List.getElem_cons_zero, List.getElem_cons_succ, List.setIfInBounds_toArray, List.set_cons_zero, List.set_cons_succ]
  refine wpAnyH_take (i := 7) (v := ?_) rfl (by kernel_rfl) (by kernel_rfl) (by kernel_rfl) (fun _ _ _ h => h) (Or.inl ⟨by rfl, ?_⟩) (by assumption) ?_
  rotate_left
  · intro w hSw; (try dsimp only at hSw); go_simp <;> with_reducible rfl
  try simp only [Act.put, List.getElem_toArray, List.getElem_cons_zero, List.getElem_cons_succ, List.setIfInBounds_toArray, List.set_cons_zero, List.set_cons_succ]
  refine wpAnyH_ready (rs := [8]) (by kernel_rfl) (by simp) ?_
  refine AllReadyH.cons rfl (fun K hK => ?_) AllReadyH.nil
  refine stepCpyRun rfl _ _ 26 26 rfl _ _ _ rfl rfl (hcp1 _ _ _ _ _ (by simp only [Nat.min_def]; split <;> omega)) ?_
  refine hK.out _ _ trivial (fun hHeld => ?_)
  clear hK K
  try simp only [Act.put, List.getElem_toArray, List.getElem_cons_zero, List.getElem_cons_succ, List.setIfInBounds_toArray, List.set_cons_zero, List.set_cons_succ]
  refine wpAnyH_done (by kernel_rfl) ?_ _
  clear hcp1
  go_wp2_with (first | (refine wpCpyRun rfl _ _ 26 26 rfl _ _ _ rfl rfl (hcp2 _ _ _ (by simp only [Nat.min_def]; split <;> omega)) ?_) | fail)
  go_ret
  exact hH.out
set_option maxHeartbeats 8000000 in
set_option maxRecDepth 100000 in
theorem cInsGrow (g o c : Nat) (l : List Vn) (x : Vn) (i vb : Nat) (w : World) (hr : VnE.Row w (.slice (some ⟨g, o, none⟩) l.length c) l) (hi : i < l.length) (hx : Bx w vb (VnE.c x)) (hroom : c < l.length + 1) (hb : l.length ≤ 4000000000000) :
    Calls Try.prog 36 #[.slice (some ⟨g, o, none⟩) l.length c, .int .i64 (i : Int), .slice (some ⟨vb, 0, none⟩) 1 1] w (InsP l (some ⟨g, o, none⟩) x i w) := by
  obtain ⟨i0, hi0, hz0, hz1, hz2⟩ := infoN
  obtain ⟨_, _, e0, hsee, hnil, hlc, hcm, _⟩ := hr.see
  cases e0
  unfold maxLen at hcm
  have hcN : c = l.length := by omega
  have hik : i + (l.length + 1 - i) = l.length + 1 := by omega
  have hold : (Builtin.firstCells i0.size i (.slice (some ⟨g, o, none⟩) i c)).run Try.prog w.drew = .ok (VnE.cs (l.take i)).toArray w.drew := by
    refine run_firstCells_some w.drew i0.size i ⟨g, o, none⟩ i c (VnE.cs (l.take i)) (by rw [El.cs_length, hz1, List.length_take, Nat.min_eq_left (by omega)]; rfl) (fun j u hu => ?_)
    rw [Addr.add_lit]
    rcases hsee.front i with h | ⟨g', o', e, hc⟩
    · rw [h] at hu; simp [El.cs] at hu
    · cases e; exact hc j u hu
  obtain ⟨q, hq⟩ : ∃ q, Hid (w.heap.size = q) := ⟨_, rfl⟩
  obtain ⟨W1, G, hrz, hrow0, k0, hG1, hGm⟩ : ∃ W1 G, (∀ ty, (Builtin.append_ #[26, 3] ty #[.slice (some ⟨g, o, none⟩) i c, .int .i64 ((l.length : Int) + 1 - (i : Int))]).run Try.prog w = .ok (.slice (some ⟨q, 0, none⟩) (l.length + 1) G) W1) ∧ VnE.Row W1 (.slice (some ⟨q, 0, none⟩) (l.take i ++ List.replicate (l.length + 1 - i) default).length G) (l.take i ++ List.replicate (l.length + 1 - i) default) ∧ Kp [] w W1 ∧ l.length + 1 ≤ G ∧ G ≤ maxLen := by
    have h := fun ty => Lib.run_append_grow_zeros (P := Try.prog) w 26 3 ty 45 i0 _ .i64 .i64 Try.underlying26 Try.underlying3 hi0 hz0 (some ⟨g, o, none⟩) i c (VnE.cs (l.take i)) hold (l.length + 1 - i) (by omega) (by rw [hz1]; omega) (by omega) (by omega) (by rw [hz2]; omega) (by rw [hz2, hik]; exact growslice_fits_wide hroom (by omega))
    rw [hik] at h
    have hge := grownCap_ge w (l.length + 1) c 45
    have hcm2 := grownCap_le_maxLen w (l.length + 1) c 45 (by unfold maxLen; omega)
    have hlen : (l.take i ++ List.replicate (l.length + 1 - i) (default : Vn)).length = l.length + 1 := by simp; omega
    have hzc : ∀ k, (Builtin.zeroCells (Value.agg #[.int .u64 0, .int .u32 0, .slice none 0 0, .int .u64 0]).cells k).toList = VnE.cs (List.replicate k (default : Vn)) := fun k => zeroCells_cs VnE default _ rfl k
    obtain ⟨G, hG⟩ : ∃ G, grownCap w (l.length + 1) c 45 = G := ⟨_, rfl⟩
    rw [hG] at hge hcm2
    simp only [hG] at h
    refine ⟨w.drew.alloc (.cells ((VnE.cs (l.take i)).toArray ++ Builtin.zeroCells (Value.agg #[.int .u64 0, .int .u32 0, .slice none 0 0, .int .u64 0]).cells (l.length + 1 - i) ++ Builtin.zeroCells (Value.agg #[.int .u64 0, .int .u32 0, .slice none 0 0, .int .u64 0]).cells (G - (l.length + 1))) 45), G, fun ty => ?_, .inr ⟨q, 0, G, rfl, by rw [hlen]; exact hge, hcm2, ?_, ?_, ?_⟩, (Kp.refl _ w).drew.alloc _, hge, hcm2⟩
    · have := h ty
      rw [hq.out] at this
      rw [show (l.length : Int) + 1 - (i : Int) = ((l.length + 1 - i : Nat) : Int) by omega]
      exact this
    · rw [World.size_alloc]; have := hq.out; simp; omega
    · intro j u hu
      have e1 := World.cell?_alloc_new w.drew ((VnE.cs (l.take i)).toArray ++ Builtin.zeroCells (Value.agg #[.int .u64 0, .int .u32 0, .slice none 0 0, .int .u64 0]).cells (l.length + 1 - i) ++ Builtin.zeroCells (Value.agg #[.int .u64 0, .int .u32 0, .slice none 0 0, .int .u64 0]).cells (G - (l.length + 1))) 45 (0 + j)
      rw [← hq.out]
      refine e1.trans ?_
      rw [Nat.zero_add, ← Array.getElem?_toList, Array.toList_append, Array.toList_append, hzc, hzc]
      rw [El.cs_append] at hu
      rw [List.getElem?_append_left (by have := (List.getElem?_eq_some_iff.1 hu).1; simpa using this)]
      simpa using hu
    · intro j hj
      have e1 := World.cell?_alloc_new w.drew ((VnE.cs (l.take i)).toArray ++ Builtin.zeroCells (Value.agg #[.int .u64 0, .int .u32 0, .slice none 0 0, .int .u64 0]).cells (l.length + 1 - i) ++ Builtin.zeroCells (Value.agg #[.int .u64 0, .int .u32 0, .slice none 0 0, .int .u64 0]).cells (G - (l.length + 1))) 45 (0 + j)
      rw [← hq.out]
      refine ⟨(congrArg Option.isSome e1).trans ?_, World.frozen?_alloc_new w.drew _ _ (0 + j)⟩
      rw [Nat.zero_add, ← Array.getElem?_toList, Array.toList_append, Array.toList_append, hzc, hzc, List.getElem?_eq_getElem (by
        simp only [List.length_append, El.cs_length, List.length_replicate, List.length_take]
        have e4 : VnE.n = 4 := rfl
        have e5 : min i l.length = i := by omega
        have hj4 : j < G * 4 := hj
        rw [e4, e5]
        omega)]
      rfl
  have hlen : (l.take i ++ List.replicate (l.length + 1 - i) (default : Vn)).length = l.length + 1 := by simp; omega
  have hql : q ∉ [] := by simp
  -- the first copy, of the new one
  obtain ⟨hrow1, k1, hs1, hf1⟩ := hrow0.put i (by rw [hlen]; omega) [x] (by simp; omega)
  have hx1 := hx.see1.keptNew k0
  obtain ⟨W2, hW2⟩ : ∃ W2, W1.setCells q (0 + i * 4) (VnE.cs [x]) = W2 := ⟨_, rfl⟩
  have hcp1 : ∀ ty dl dc, Nat.min 1 dl = 1 → (Builtin.copy_ #[26, 26] ty #[.slice (some ⟨q, i * 4, none⟩) dl dc, .slice (some ⟨vb, 0, none⟩) 1 1]).run Try.prog W1 = .ok (goInt ((1 : Nat) : Int)) W2 := fun ty dl dc hmin => by
    have := run_copyM (P := Try.prog) W1 26 26 ty 45 i0 Try.underlying26 hi0 q (0 + i * 4) dl dc ⟨vb, 0, none⟩ 1 1 1 hmin (VnE.cs [x]) (by rw [El.cs_length, hz1]; rfl)
      (fun j v hv => by
        rw [Addr.add_lit]
        rcases hx1 with h | ⟨g', o', e, hc⟩
        · cases h
        · cases e; exact hc j v hv) hs1 hf1 (El.cs_one VnE _)
    rw [Nat.zero_add] at this hW2
    rw [this, hW2]
  have l1 : (l.take i ++ List.replicate (l.length + 1 - i) (default : Vn)).take i ++ [x] ++ (l.take i ++ List.replicate (l.length + 1 - i) (default : Vn)).drop (i + [x].length) = l.take i ++ x :: List.replicate (l.length - i) default := by
    have ht : (l.take i).length = i := by simp; omega
    have e1 : (l.take i ++ List.replicate (l.length + 1 - i) (default : Vn)).take i = l.take i := by rw [List.take_append_of_le_length (by omega), List.take_take, Nat.min_self]
    have e2 : (l.take i ++ List.replicate (l.length + 1 - i) (default : Vn)).drop (i + [x].length) = List.replicate (l.length - i) default := by
      rw [List.drop_append, List.drop_of_length_le (by rw [ht]; simp), List.nil_append, ht, List.drop_replicate]
      congr 1
      simp; omega
    rw [e1, e2, List.append_assoc]; rfl
  rw [l1] at hrow1
  have ll1 : (l.take i ++ x :: List.replicate (l.length - i) (default : Vn)).length = l.length + 1 := by simp; omega
  have hrow1' : VnE.Row W2 (.slice (some ⟨q, 0, none⟩) (l.take i ++ x :: List.replicate (l.length - i) (default : Vn)).length G) (l.take i ++ x :: List.replicate (l.length - i) (default : Vn)) := by rw [← hW2]; exact hrow1
  have k1' : Kp [q] W1 W2 := by rw [← hW2]; exact k1
  have kd : Kp [] W2 W2.drew := (Kp.refl _ _).drew
  -- the second copy, of those behind
  have hdl : (l.drop i).length = l.length - i := List.length_drop
  obtain ⟨hrow2, k2, hs2, hf2⟩ := (hrow1'.keptNew kd).put (i + 1) (by rw [ll1]; omega) (l.drop i) (by rw [hdl]; omega)
  have l2 : (l.take i ++ x :: List.replicate (l.length - i) (default : Vn)).take (i + 1) ++ l.drop i ++ (l.take i ++ x :: List.replicate (l.length - i) (default : Vn)).drop (i + 1 + (l.drop i).length) = l.take i ++ x :: l.drop i := by
    have ht : (l.take i).length = i := by simp; omega
    have e1 : (l.take i ++ x :: List.replicate (l.length - i) (default : Vn)).take (i + 1) = l.take i ++ [x] := by
      rw [List.take_append, List.take_of_length_le (by rw [ht]; omega), ht, Nat.add_sub_cancel_left]; rfl
    have e2 : (l.take i ++ x :: List.replicate (l.length - i) (default : Vn)).drop (i + 1 + (l.drop i).length) = [] := List.drop_of_length_le (by rw [ll1, hdl]; omega)
    rw [e1, e2, List.append_nil, List.append_assoc]; rfl
  rw [l2, len_ins l x i (by omega)] at hrow2
  have hqw : g ≠ q := by
    have := hr.lt g (by simp [own, Value.ownBlock])
    have := hq.out
    omega
  have hsee2 : VnE.See W2.drew (some ⟨g, o, none⟩) l := (((hsee.keptNew k0).kept k1' (fun _ k hk => by simp [blk] at hk; simp; omega)).keptNew kd)
  obtain ⟨W3, hW3⟩ : ∃ W3, W2.drew.setCells q (0 + (i + 1) * 4) (VnE.cs (l.drop i)) = W3 := ⟨_, rfl⟩
  have hcp2 : ∀ ty dl dc sl sc, Nat.min sl dl = l.length - i → (Builtin.copy_ #[26, 26] ty #[.slice (some ⟨q, (i + 1) * 4, none⟩) dl dc, .slice (some ⟨g, o + i * 4, none⟩) sl sc]).run Try.prog W2.drew = .ok (goInt ((l.length - i : Nat) : Int)) W3 := fun ty dl dc sl sc hmin => by
    have := run_copyM (P := Try.prog) W2.drew 26 26 ty 45 i0 Try.underlying26 hi0 q (0 + (i + 1) * 4) dl dc ⟨g, o + i * 4, none⟩ sl sc (l.length - i) hmin (VnE.cs (l.drop i)) (by rw [El.cs_length, hdl, hz1]; rfl)
      (fun j v hv => by
        rw [Addr.add_lit]
        rcases hsee2 with h | ⟨g', o', e, hc⟩
        · rw [h] at hi; simp at hi
        · cases e
          rw [El.cs_drop, List.getElem?_drop] at hv
          rw [Nat.add_assoc]
          exact hc _ v hv) hs2 hf2 (El.cs_one VnE _)
    rw [Nat.zero_add] at this hW3
    rw [this, hW3]
  have hfin : InsP l (some ⟨g, o, none⟩) x i w (.returned (.slice (some ⟨q, 0, none⟩) (l.length + 1) G)) W3 := by
    refine ⟨_, _, rfl, by rw [← hW3]; exact hrow2, ?_, fun k hk => .inr (by simp [blk] at hk; rw [hk, hq.out]; exact Nat.le_refl _)⟩
    rw [← hW3]
    have hqs : w.heap.size ≤ q := by rw [hq.out]; exact Nat.le_refl _
    exact ((((k0.trans k1' (fun k hk => .inr (by simp at hk; omega))).trans kd (by simp)).trans k2 (fun k hk => .inr (by simp at hk; omega))).mono (by simp))
  obtain ⟨N, hN⟩ : ∃ N, Hid (l.length = N) := ⟨_, rfl⟩
  rw [hN.out] at hfin hb hlc hi hroom hG1 hcN ⊢
  simp only [hN.out] at hcp2 hrz
  have hH := hid hfin
  unfold maxLen at hGm
  have t1 : ((i : Int) == (N : Int)) = false := by simp; omega
  have t2 : ((c : Int) < (N : Int) + 1) := by omega
  have t3 : decide ((c : Int) < (N : Int) + 1) = true := by simp; omega
  have hw1 : IntKind.i64.wrap ((i : Int) + 1) = (i : Int) + 1 := by rw [IntKind.wrap_i64]; omega
  have hb1 : (0 : Int) ≤ (i : Int) + 1 := by omega
  have htn : ((i : Int) + 1).toNat = i + 1 := by omega
  have hb3 : (i : Int) ≤ (N : Int) + 1 := by omega
  have hb5 : (i : Int) + 1 ≤ (N : Int) + 1 := by omega
  have hb6 : i + 1 ≤ N + 1 := by omega
  have hb7 : i ≤ N + 1 := by omega
  have hb9 : i ≤ N := by omega
  have hb10 : (i : Int) ≤ (N : Int) := by omega
  have hb4 : ¬ (c = i) := by omega
  have hGi : ¬ (G = i) := by omega
  have hGi1 : ¬ (G = i + 1) := by omega
  have hW2' := hid hW2
  have hW3' := hid hW3
  clear hrow0 hrow1 hrow1' hrow2 k0 k1 k1' k2 hs1 hs2 hf1 hf2 l1 ll1 l2 hx1 hr hx hsee hnil hN hfin hW2 hW3 hdl kd hold hik hlen hql hsee2 hq hcN
  go_enter Try.func36, Try.ntmps36
  go_wp2_with (first | (refine wpAppRun rfl _ _ 26 3 rfl _ _ _ rfl rfl (hrz _) ?_) | (refine wpCpyRun rfl _ _ 26 26 rfl _ _ _ rfl rfl (hcp1 _ _ _ (by simp only [Nat.min_def]; split <;> omega)) ?_) | fail)
  clear hcp1 hrz
  refine wp_region_held_drew (S := fun _ => True) (by kernel_rfl) trivial (fun hHeld => ?_)
  refine wpAnyH_take (i := 0) (v := ?_) rfl (by kernel_rfl) (by kernel_rfl) (by kernel_rfl) (fun _ _ _ h => h) (Or.inl ⟨by rfl, ?_⟩) (by assumption) ?_
  rotate_left
  · intro w hSw; (try dsimp only at hSw); go_simp <;> with_reducible rfl
  try simp only [Act.put, List.getElem_toArray, List.getElem_cons_zero, List.getElem_cons_succ, List.setIfInBounds_toArray, List.set_cons_zero, List.set_cons_succ]
  refine wpAnyH_take (i := 1) (v := ?_) rfl (by kernel_rfl) (by kernel_rfl) (by kernel_rfl) (fun _ _ _ h => h) (Or.inl ⟨by rfl, ?_⟩) (by assumption) ?_
  rotate_left
  · intro w hSw; (try dsimp only at hSw); go_simp <;> with_reducible rfl
  try simp only [Act.put, List.getElem_toArray, List.getElem_cons_zero, List.getElem_cons_succ, List.setIfInBounds_toArray, List.set_cons_zero, List.set_cons_succ]
  refine wpAnyH_take (i := 2) (v := ?_) rfl (by kernel_rfl) (by kernel_rfl) (by kernel_rfl) (fun _ _ _ h => h) (Or.inl ⟨by rfl, ?_⟩) (by assumption) ?_
  rotate_left
  · intro w hSw; (try dsimp only at hSw); go_simp <;> with_reducible rfl
  try simp only [Act.put, List.getElem_toArray, List.getElem_cons_zero, List.getElem_cons_succ, List.setIfInBounds_toArray, List.set_cons_zero, List.set_cons_succ]
  refine wpAnyH_take (i := 3) (v := ?_) rfl (by kernel_rfl) (by kernel_rfl) (by kernel_rfl) (fun _ _ _ h => h) (Or.inl ⟨by rfl, ?_⟩) (by assumption) ?_
  rotate_left
  · intro w hSw; (try dsimp only at hSw); go_simp <;> with_reducible rfl
  try simp only [Act.put, List.getElem_toArray, List.getElem_cons_zero, List.getElem_cons_succ, List.setIfInBounds_toArray, List.set_cons_zero, List.set_cons_succ]
  refine wpAnyH_take (i := 4) (v := ?_) rfl (by kernel_rfl) (by kernel_rfl) (by kernel_rfl) (fun _ _ _ h => h) (Or.inl ⟨by rfl, ?_⟩) (by assumption) ?_
  rotate_left
  · intro w hSw; (try dsimp only at hSw); go_simp <;> with_reducible rfl
  try simp only [Act.put, List.getElem_toArray, List.getElem_cons_zero, List.getElem_cons_succ, List.setIfInBounds_toArray, List.set_cons_zero, List.set_cons_succ]
  refine wpAnyH_take (i := 5) (v := ?_) rfl (by kernel_rfl) (by kernel_rfl) (by kernel_rfl) (fun _ _ _ h => h) (Or.inl ⟨by rfl, ?_⟩) (by assumption) ?_
  rotate_left
  · intro w hSw; (try dsimp only at hSw); go_simp <;> with_reducible rfl
  try simp only [Act.put, List.getElem_toArray, List.getElem_cons_zero, List.getElem_cons_succ, List.setIfInBounds_toArray, List.set_cons_zero, List.set_cons_succ]
  refine wpAnyH_take (i := 6) (v := ?_) rfl (by kernel_rfl) (by kernel_rfl) (by kernel_rfl) (fun _ _ _ h => h) (Or.inl ⟨by rfl, ?_⟩) (by assumption) ?_
  rotate_left
  · intro w hSw; (try dsimp only at hSw); go_simp <;> with_reducible rfl
  try simp only [Act.put, List.getElem_toArray, List.getElem_cons_zero, List.getElem_cons_succ, List.setIfInBounds_toArray, List.set_cons_zero, List.set_cons_succ]
  refine wpAnyH_take (i := 7) (v := ?_) rfl (by kernel_rfl) (by kernel_rfl) (by kernel_rfl) (fun _ _ _ h => h) (Or.inl ⟨by rfl, ?_⟩) (by assumption) ?_
  rotate_left
  · intro w hSw; (try dsimp only at hSw); go_simp <;> with_reducible rfl
  try simp only [Act.put, List.getElem_toArray, List.getElem_cons_zero, List.getElem_cons_succ, List.setIfInBounds_toArray, List.set_cons_zero, List.set_cons_succ]
  refine wpAnyH_ready (rs := [8]) (by kernel_rfl) (by simp) ?_
  refine AllReadyH.cons rfl (fun K hK => ?_) AllReadyH.nil
  refine stepCpyRun rfl _ _ 26 26 rfl _ _ _ rfl rfl (hcp2 _ _ _ _ _ (by simp only [Nat.min_def]; split <;> omega)) ?_
  refine hK.out _ _ trivial (fun hHeld => ?_)
  clear hK K
  try simp only [Act.put, List.getElem_toArray, List.getElem_cons_zero, List.getElem_cons_succ, List.setIfInBounds_toArray, List.set_cons_zero, List.set_cons_succ]
  refine wpAnyH_done (by kernel_rfl) ?_ _
  clear hcp2
  go_wp2_with fail
  go_ret
  exact hH.out
theorem cInsert (a : Option Addr) (c : Nat) (l : List Vn) (x : Vn) (i vb : Nat) (w : World) (hr : VnE.Row w (.slice a l.length c) l) (hi : i ≤ l.length) (hx : Bx w vb (VnE.c x)) (hvb : vb ∉ blk a) (hb : l.length ≤ 4000000000000) :
    Calls Try.prog 36 #[.slice a l.length c, .int .i64 (i : Int), .slice (some ⟨vb, 0, none⟩) 1 1] w (InsP l a x i w) := by
  by_cases he : i = l.length
  · subst he
    exact cInsEnd a c l x vb w hr hx hb
  · rcases hr with ⟨e, h0⟩ | ⟨g, o, cap, e, hl, hm, hg, hc, ht⟩
    · subst h0; simp at hi he; omega
    · simp only [Value.slice.injEq] at e
      obtain ⟨rfl, _, rfl⟩ := e
      have hr' : VnE.Row w (.slice (some ⟨g, o, none⟩) l.length c) l := .inr ⟨g, o, c, rfl, hl, hm, hg, hc, ht⟩
      by_cases hroom : l.length + 1 ≤ c
      · exact cInsRoom g o c l x i vb w hr' (by omega) hx (by simpa [blk] using hvb) hroom hb
      · exact cInsGrow g o c l x i vb w hr' (by omega) hx (by omega) hb
end Go.Proofs.Ytdjlefacdfdhmaa
end

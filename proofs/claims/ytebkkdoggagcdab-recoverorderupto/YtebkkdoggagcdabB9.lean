/- Recover: sorting versions by names, making compact. Recover: versions by rising names; a version as it is told. Recover: versions gathered, all new; copies, what there was, what changed. -/
import Derived.Test.YtebkkdoggagcdabB3
import Derived.Test.YtebkkdoggagcdabB8
section
namespace Go.Proofs.Ytebkkdoggagcdab
open Go.RowKit Go.Hay
attribute [local go_sem] Oper.semAt_some
set_option linter.unusedVariables false
set_option linter.unusedSimpArgs false

theorem i64wR (x : Int) (h0 : -9223372036854775808 ≤ x) (h1 : x ≤ 9223372036854775807) : IntKind.i64.wrap x = x := by
  rw [IntKind.wrap_i64]
  omega
def Vr.of (x : Vn) : Vr := ⟨x.ep, x.num, x.a, x.c, x.row, x.del⟩
theorem cs_of : ∀ (l : List Vn), VrE.cs (l.map Vr.of) = VnE.cs l
  | [] => rfl
  | x :: l => by
    have := cs_of l
    simp only [El.cs, List.map_cons, List.flatMap_cons] at this ⊢
    rw [this]
    rfl
theorem rowVr {w : World} {v : Value} {l : List Vn} : VrE.Row w v (l.map Vr.of) ↔ VnE.Row w v l := by
  unfold El.Row
  rw [cs_of, List.length_map, List.map_eq_nil_iff]
  exact Iff.rfl
theorem arr_of (l : List Vn) (s : Nat → Nat) : arr (fun k => Vr.of (l.getD k default)) s l.length = (arrN l s).map Vr.of := by
  unfold arr arrN
  rw [List.map_map]
  rfl
theorem cSortN (g o cap : Nat) (l : List Vn) (q4 q5 : Nat) (w : World) (hr : VnE.Row w (.slice (some ⟨g, o, none⟩) l.length cap) l) (hb : BxK q4 q5 w) (h4 : q4 ≠ g) (h5 : q5 ≠ g) (hn : l.length ≤ 4000000000000) :
    Calls Try.prog 25 #[.slice (some ⟨g, o, none⟩) l.length cap, .func (.func 23) #[] #[.pointer (some ⟨q5, 0, none⟩), .pointer (some ⟨q4, 0, none⟩)]] w fun e w' => (∃ v, e = .returned v) ∧ ∃ s, PermIn 0 l.length s ∧ Stb (ltN l) s 0 l.length ∧ VnE.Row w' (.slice (some ⟨g, o, none⟩) l.length cap) (arrN l s) ∧ Kp [g] w w' := by
  have hC : CmpOk g l.length (fun k => Vr.of (l.getD k default)) (.pointer (some ⟨q5, 0, none⟩)) (.pointer (some ⟨q4, 0, none⟩)) (fun x y => nmI (l.getD x default).id (l.getD y default).id) (BxK q4 q5) := ⟨fun W x y hI _ _ => cByKey q4 q5 _ _ W hI, fun W W' hI k => hI.kept k (by simpa using h4) (by simpa using h5), ltN_swo l⟩
  have hd : Hd w g o l.length cap (fun k => Vr.of (l.getD k default)) (fun k => k) := by
    unfold Hd
    rw [arr_of, arrN_id, rowVr]
    exact hr
  refine (cSortStable g o l.length cap _ _ _ _ _ hC hn (rowCells hr).1 w hd hb).mono ?_
  rintro e w' ⟨hv, s, hp, hs, hd', k⟩
  refine ⟨hv, s, hp, hs, ?_, k⟩
  unfold Hd at hd'
  rw [arr_of] at hd'
  exact rowVr.1 hd'
set_option maxHeartbeats 8000000 in
set_option maxRecDepth 100000 in
theorem cInsert1R (a : Option Addr) (n c : Nat) (f : Value) (w : World) (hn : n ≤ 1) : Calls Try.prog 34 #[.slice a n c, .int .i64 0, .int .i64 (n : Int), f] w fun e w' => (∃ v, e = .returned v) ∧ w' = w := by
  have d1 : decide ((1 : Int) < (n : Int)) = false := by simp; omega
  have d3 : decide (1 < n) = false := by simp; omega
  have d2 : ¬ (1 : Int) < (n : Int) := by omega
  go_enter Try.func34, Try.ntmps34
  go_wp2_with fail
  go_loopw [8] (fun i wr => i = .int .i64 1 ∧ wr = w) (fun _ _ => 0)
  case atStart => exact ⟨rfl, rfl⟩
  case round =>
    obtain ⟨rfl, rfl⟩ := hrel
    go_wp2_with fail
    go_end0
    exact ⟨⟨_, rfl⟩, rfl⟩
set_option maxHeartbeats 8000000 in
set_option maxRecDepth 100000 in
theorem cStable1R (a : Option Addr) (n c : Nat) (f : Value) (w : World) (hn : n ≤ 1) : Calls Try.prog 31 #[.slice a n c, .int .i64 (n : Int), f] w fun e w' => (∃ v, e = .returned v) ∧ w' = w := by
  have d1 : decide ((20 : Int) ≤ (n : Int)) = false := by simp; omega
  have d2 : decide ((20 : Int) < (n : Int)) = false := by simp; omega
  have d3 : ¬ (20 : Int) ≤ (n : Int) := by omega
  have d4 : ¬ (20 : Int) < (n : Int) := by omega
  have d5 : decide (20 ≤ n) = false := by simp; omega
  have d6 : decide (20 < n) = false := by simp; omega
  have cI := hid (cInsert1R a n c f w hn)
  go_enter Try.func31, Try.ntmps31
  go_wp2_with fail
  go_loopw [7, 8] (fun v7 v8 wr => v7 = .int .i64 0 ∧ v8 = .int .i64 20 ∧ wr = w) (fun _ _ _ => 0)
  case atStart => exact ⟨rfl, rfl, rfl⟩
  case round =>
    obtain ⟨rfl, rfl, rfl⟩ := hrel
    go_wp2_with fail
    refine cI.out.mono ?_
    rintro e w2 ⟨⟨v, rfl⟩, rfl⟩
    clear cI
    go_wp2_with fail
    go_loopw [6] (fun v6 wr2 => v6 = .int .i64 20 ∧ wr2 = w2) (fun _ _ => 0)
    case atStart => exact ⟨rfl, rfl⟩
    case round =>
      obtain ⟨rfl, rfl⟩ := hrel
      go_wp2_with fail
      go_end0
      exact ⟨⟨_, rfl⟩, rfl⟩
set_option maxHeartbeats 8000000 in
set_option maxRecDepth 100000 in
theorem cSortSt1R (a : Option Addr) (n c : Nat) (f : Value) (w : World) (hn : n ≤ 1) : Calls Try.prog 25 #[.slice a n c, f] w fun e w' => (∃ v, e = .returned v) ∧ w' = w := by
  have cI := hid (cStable1R a n c f w hn)
  go_enter Try.func25, Try.ntmps25
  go_wp2_with fail
  refine cI.out.mono ?_
  rintro e w2 ⟨⟨v, rfl⟩, rfl⟩
  clear cI
  go_wp2_with fail
  go_end0
  exact ⟨⟨_, rfl⟩, rfl⟩
/-- The functions that inOrder hands on, as they lie. -/
structure BxC (q4 q5 q7 g : Nat) (W : World) : Prop where
  b : BxK q4 q5 W
  eq : W.cell? ⟨q7, 0, none⟩ = some (.func (.func 23) #[] #[.pointer (some ⟨q5, 0, none⟩), .pointer (some ⟨q4, 0, none⟩)])
theorem BxC.kept {S : List Nat} {q4 q5 q7 g : Nat} {W W' : World} (h : BxC q4 q5 q7 g W) (k : Kp S W W') (h4 : q4 ∉ S) (h5 : q5 ∉ S) (h7 : q7 ∉ S) : BxC q4 q5 q7 g W' := ⟨h.b.kept k h4 h5, (k.cell (p := ⟨q7, 0, none⟩) (World.block_lt_of_cell? _ _ h.eq) h7).trans h.eq⟩
theorem rowLen {w : World} {g o n c : Nat} {l : List Vn} (h : VnE.Row w (.slice (some ⟨g, o, none⟩) n c) l) (hn : l.length = n) : VnE.See w (some ⟨g, o, none⟩) l := by
  subst hn
  obtain ⟨_, _, e, hs, _⟩ := h.see
  cases e
  exact hs
theorem idAt2 {w : World} {g o : Nat} {l : List Vn} (h : VnE.See w (some ⟨g, o, none⟩) l) {i : Nat} (hi : i < l.length) {x : Vn} (hx : l.getD i default = x) : w.cell? ⟨g, o + i * 4, none⟩ = some (.int .u64 x.ep) ∧ w.cell? ⟨g, o + i * 4 + 1, none⟩ = some (.int .u32 x.num) ∧ w.cell? ⟨g, o + i * 4 + 2, none⟩ = some (.slice x.a x.row.length x.c) ∧ w.cell? ⟨g, o + i * 4 + 3, none⟩ = some (.int .u64 x.del) := by
  have hx' : l[i]? = some x := by rw [← hx]; simp [hi]
  obtain ⟨g', o', e, c⟩ := idAt h hx'
  simp only [Option.some.injEq, Addr.mk.injEq] at e
  obtain ⟨rfl, rfl, _⟩ := e
  exact c
set_option maxHeartbeats 32000000 in
set_option maxRecDepth 100000 in
theorem cCompactN (g o c : Nat) (l : List Vn) (q4 q5 q7 : Nat) (w : World) (hs : VnE.Row w (.slice (some ⟨g, o, none⟩) l.length c) l) (hb : BxC q4 q5 q7 g w) (n4 : q4 ≠ g) (n5 : q5 ≠ g) (n7 : q7 ≠ g) (hl : l.length ≤ 4000000000000) :
    Calls Try.prog 26 #[.slice (some ⟨g, o, none⟩) l.length c, .func (.func 27) #[] #[.pointer (some ⟨q7, 0, none⟩)]] w fun e w' => e = .returned (.slice (some ⟨g, o, none⟩) (cpt l).length c) ∧ VnE.Row w' (.slice (some ⟨g, o, none⟩) (cpt l).length c) (cpt l) ∧ Kp [g] w w' := by
  obtain ⟨hc, hm, _, _⟩ := rowCells hs
  unfold maxLen at hm
  have hF : Hid (cpt l = cptTo l l.length) := hid rfl
  by_cases h2 : l.length < 2
  · have e : Hid (cpt l = l) := hid (by
      match l, h2 with
      | [], _ => rfl
      | [x], _ => rfl)
    rw [e.out]
    have hs' := hid hs
    clear hF hs hb
    go_enter Try.func26, Try.ntmps26
    go_wp2_with fail
    go_ret
    exact ⟨rfl, hs'.out, Kp.refl _ _⟩
  · have h1e : Hid (cptTo l 1 = l.take 1) := hid (by
      rw [cptTo_new l 0 (.inl rfl)]
      have := take_getD l 0 (by omega)
      simpa [cptTo] using this)
    obtain ⟨F, hFF⟩ : ∃ F, Hid (cpt l = F) := ⟨_, hid rfl⟩
    rw [hFF.out] at hF ⊢
    have hs' := hid hs
    have HB := hid hb
    have NN := hid (And.intro n4 (And.intro n5 n7))
    clear hs hb n4 n5 n7
    go_enter Try.func26, Try.ntmps26
    go_wp2_with fail
    go_loopw [5] (fun i wn => ∃ k : Nat, 1 ≤ k ∧ k ≤ l.length ∧ i = .int .i64 k ∧ Hid (cptTo l k = l.take k) ∧ Hid (Kp [] w wn)) (fun i _ => l.length - (intOf i).toNat)
    case atStart => exact ⟨1, Nat.le_refl _, by omega, rfl, h1e, hid (Kp.refl _ _)⟩
    case round =>
      clear h1e
      obtain ⟨k, hk1, hkl, rfl, htk, kn⟩ := hrel
      by_cases hlt : k < l.length
      · obtain ⟨j, hj⟩ : ∃ j, k = j + 1 := ⟨k - 1, by omega⟩
        have hrow := hid (hs'.out.keptNew kn.out)
        have hjk : k - 1 = j := by omega
        have hsame := hid (cptTo_same l k (by omega))
        have hnew := hid (cptTo_new l k)
        rw [hjk] at hsame hnew
        have htg := hid (take_getD l k hlt)
        obtain ⟨x, hx⟩ : ∃ x, Hid (l.getD k default = x) := ⟨_, hid rfl⟩
        obtain ⟨y, hy⟩ : ∃ y, Hid (l.getD j default = y) := ⟨_, hid rfl⟩
        have hSee : Hid (∀ W', Kp [] wr W' → VnE.See W' (some ⟨g, o, none⟩) l) := hid fun W' k' => rowLen (hrow.out.keptNew k') rfl
        have hFx : Hid (∀ W', Kp [] wr W' → _ ∧ _) := hid fun W' k' => And.intro (idAt2 (hSee.out W' k') hlt hx.out) (idAt2 (hSee.out W' k') (show j < l.length by omega) hy.out)
        rw [hx.out, hy.out] at hsame hnew
        rw [hx.out] at htg
        have cE := hid (fun W (k' : Kp [] wr W) => cEqK q4 q5 q7 x y W (HB.out.kept (kn.out.trans k' (by simp)) (by simp) (by simp) (by simp)).b (HB.out.kept (g := g) (kn.out.trans k' (by simp)) (by simp) (by simp) (by simp)).eq)
        obtain ⟨X, HX⟩ : ∃ X, Hid (decide (x.id = y.id) = X) := ⟨_, hid rfl⟩
        simp only [HX.out] at cE
        obtain ⟨xe, xn, xa, xc, xr, xd⟩ := x
        obtain ⟨ye, yn, ya, yc, yr, yd⟩ := y
        dsimp only at cE hFx
        have hG : Hid (∀ W', Kp [] wr W' → W'.cell? ⟨g, o + k * 4, none⟩ = some (.int .u64 xe) ∧ W'.cell? ⟨g, o + k * 4 + 1, none⟩ = some (.int .u32 xn) ∧ W'.cell? ⟨g, o + k * 4 + 2, none⟩ = some (.slice xa xr.length xc) ∧ W'.cell? ⟨g, o + k * 4 + 3, none⟩ = some (.int .u64 xd) ∧ W'.cell? ⟨g, o + j * 4, none⟩ = some (.int .u64 ye) ∧ W'.cell? ⟨g, o + j * 4 + 1, none⟩ = some (.int .u32 yn) ∧ W'.cell? ⟨g, o + j * 4 + 2, none⟩ = some (.slice ya yr.length yc) ∧ W'.cell? ⟨g, o + j * 4 + 3, none⟩ = some (.int .u64 yd)) := hid fun W' k' => by
          obtain ⟨⟨h0, h1, h2, h3⟩, h4, h5, h6, h7⟩ := hFx.out W' k'
          exact ⟨h0, h1, h2, h3, h4, h5, h6, h7⟩
        have i1 : (k : Int) < (l.length : Int) := by omega
        have i2 : (j : Int) < (l.length : Int) := by omega
        have i3 : (0 : Int) ≤ (j : Int) := by omega
        have i4 : (0 : Int) ≤ (k : Int) := by omega
        have ek : (k : Int) - 1 = (j : Int) := by omega
        have wk : IntKind.i64.wrap ((k : Int) - 1) = (j : Int) := by rw [ek]; exact i64wR _ (by omega) (by omega)
        have hkj := hid hj
        clear hj hjk hFx ek
        go_wp2_with fail
        refine wp_region_held_drew (S := fun W' => W'.cell? ⟨g, o + k * 4, none⟩ = some (.int .u64 xe) ∧ W'.cell? ⟨g, o + k * 4 + 1, none⟩ = some (.int .u32 xn) ∧ W'.cell? ⟨g, o + k * 4 + 2, none⟩ = some (.slice xa xr.length xc) ∧ W'.cell? ⟨g, o + k * 4 + 3, none⟩ = some (.int .u64 xd) ∧ W'.cell? ⟨g, o + j * 4, none⟩ = some (.int .u64 ye) ∧ W'.cell? ⟨g, o + j * 4 + 1, none⟩ = some (.int .u32 yn) ∧ W'.cell? ⟨g, o + j * 4 + 2, none⟩ = some (.slice ya yr.length yc) ∧ W'.cell? ⟨g, o + j * 4 + 3, none⟩ = some (.int .u64 yd)) (by kernel_rfl) ?_ (fun hHeld => ?_)
        · exact hG.out _ (Kp.refl [] wr).drew
        have KD : Hid (Kp [] wr wr.drew) := hid (Kp.refl [] wr).drew
        generalize wr.drew = Wd at *
        refine wpAnyH_take (i := 0) (v := ?_) rfl (by kernel_rfl) (by kernel_rfl) (by kernel_rfl) (fun _ _ _ h => h) (Or.inl ⟨by rfl, ?_⟩) (by assumption) ?_
        rotate_left
        · intro w hSw; (try dsimp only at hSw); go_simp <;> with_reducible rfl
        try simp only [Act.put, List.getElem_toArray, List.getElem_cons_zero, List.getElem_cons_succ, List.setIfInBounds_toArray, List.set_cons_zero, List.set_cons_succ]
        refine wpAnyH_take (i := 1) (v := ?_) rfl (by kernel_rfl) (by kernel_rfl) (by kernel_rfl) (fun _ _ _ h => h) (Or.inl ⟨by rfl, ?_⟩) (by assumption) ?_
        rotate_left
        · intro w hSw; (try dsimp only at hSw); go_simp <;> with_reducible rfl
        try simp only [Act.put, List.getElem_toArray, List.getElem_cons_zero, List.getElem_cons_succ, List.setIfInBounds_toArray, List.set_cons_zero, List.set_cons_succ]
        refine wpAnyH_take (i := 2) (v := ?_) rfl (by kernel_rfl) (by kernel_rfl) (by kernel_rfl) (fun _ _ _ h => h) (Or.inl ⟨by rfl, ?_⟩) (by assumption) ?_
        rotate_left
        · intro w hSw; (try dsimp only at hSw); go_simp <;> with_reducible rfl
        try simp only [Act.put, List.getElem_toArray, List.getElem_cons_zero, List.getElem_cons_succ, List.setIfInBounds_toArray, List.set_cons_zero, List.set_cons_succ]
        refine wpAnyH_take (i := 3) (v := ?_) rfl (by kernel_rfl) (by kernel_rfl) (by kernel_rfl) (fun _ _ _ h => h) (Or.inl ⟨by rfl, ?_⟩) (by assumption) ?_
        rotate_left
        · intro w hSw; (try dsimp only at hSw); go_simp <;> with_reducible rfl
        try simp only [Act.put, List.getElem_toArray, List.getElem_cons_zero, List.getElem_cons_succ, List.setIfInBounds_toArray, List.set_cons_zero, List.set_cons_succ]
        refine wpAnyH_take (i := 4) (v := ?_) rfl (by kernel_rfl) (by kernel_rfl) (by kernel_rfl) (fun _ _ _ h => h) (Or.inl ⟨by rfl, ?_⟩) (by assumption) ?_
        rotate_left
        · intro w hSw; (try dsimp only at hSw); go_simp <;> with_reducible rfl
        try simp only [Act.put, List.getElem_toArray, List.getElem_cons_zero, List.getElem_cons_succ, List.setIfInBounds_toArray, List.set_cons_zero, List.set_cons_succ]
        refine wpAnyH_take (i := 5) (v := ?_) rfl (by kernel_rfl) (by kernel_rfl) (by kernel_rfl) (fun _ _ _ h => h) (Or.inl ⟨by rfl, ?_⟩) (by assumption) ?_
        rotate_left
        · intro w hSw; (try dsimp only at hSw); go_simp <;> with_reducible rfl
        try simp only [Act.put, List.getElem_toArray, List.getElem_cons_zero, List.getElem_cons_succ, List.setIfInBounds_toArray, List.set_cons_zero, List.set_cons_succ]
        refine wpAnyH_take (i := 6) (v := ?_) rfl (by kernel_rfl) (by kernel_rfl) (by kernel_rfl) (fun _ _ _ h => h) (Or.inl ⟨by rfl, ?_⟩) (by assumption) ?_
        rotate_left
        · intro w hSw; (try dsimp only at hSw); go_simp <;> with_reducible rfl
        try simp only [Act.put, List.getElem_toArray, List.getElem_cons_zero, List.getElem_cons_succ, List.setIfInBounds_toArray, List.set_cons_zero, List.set_cons_succ]
        refine wpAnyH_take (i := 7) (v := ?_) rfl (by kernel_rfl) (by kernel_rfl) (by kernel_rfl) (fun _ _ _ h => h) (Or.inl ⟨by rfl, ?_⟩) (by assumption) ?_
        rotate_left
        · intro w hSw; (try dsimp only at hSw); go_simp <;> (try simp only [wk]) <;> with_reducible rfl
        try simp only [Act.put, List.getElem_toArray, List.getElem_cons_zero, List.getElem_cons_succ, List.setIfInBounds_toArray, List.set_cons_zero, List.set_cons_succ]
        try simp only [wk]
        refine wpAnyH_take (i := 8) (v := ?_) rfl (by kernel_rfl) (by kernel_rfl) (by kernel_rfl) (fun _ _ _ h => h) (Or.inl ⟨by rfl, ?_⟩) (by assumption) ?_
        rotate_left
        · intro w hSw; (try dsimp only at hSw); go_simp <;> with_reducible rfl
        try simp only [Act.put, List.getElem_toArray, List.getElem_cons_zero, List.getElem_cons_succ, List.setIfInBounds_toArray, List.set_cons_zero, List.set_cons_succ]
        refine wpAnyH_take (i := 9) (v := ?_) rfl (by kernel_rfl) (by kernel_rfl) (by kernel_rfl) (fun _ _ _ h => h) (Or.inl ⟨by rfl, ?_⟩) (by assumption) ?_
        rotate_left
        · intro w hSw; (try dsimp only at hSw); go_simp <;> with_reducible rfl
        try simp only [Act.put, List.getElem_toArray, List.getElem_cons_zero, List.getElem_cons_succ, List.setIfInBounds_toArray, List.set_cons_zero, List.set_cons_succ]
        refine wpAnyH_ready (rs := [10]) (by kernel_rfl) (by simp) ?_
        refine AllReadyH.cons rfl (fun K hK => ?_) AllReadyH.nil
        go_simp
        refine (cE.out _ (KD.out)).mono ?_
        rintro e w9 ⟨rfl, k9⟩
        have K9 := hid (KD.out.trans k9 (by simp))
        clear k9
        (try go_wp2_with fail)
        refine hK.out _ _ ?_ (fun hHeld => ?_)
        · exact hG.out _ K9.out
        clear hK K
        try simp only [Act.put, List.getElem_toArray, List.getElem_cons_zero, List.getElem_cons_succ, List.setIfInBounds_toArray, List.set_cons_zero, List.set_cons_succ]
        refine wpAnyH_done (by kernel_rfl) ?_ _
        have kq : Kp [] w w9 := kn.out.trans K9.out (by simp)
        have hrq := hid (hrow.out.keptNew K9.out)
        have KQ := hid kq
        clear hHeld hG hSee cE wk i3 i4 kq hrow
        cases X
        · have hst : Hid (cptTo l (k + 1) = l.take (k + 1)) := hid (by
            rw [hnew.out (.inr (by simpa using HX.out)), htk.out, htg.out])
          clear hsame hnew htg htk
          go_wp2_with fail
          exact ⟨⟨k + 1, by omega, by omega, by go_num, hst, KQ⟩, by simp [intOf]; omega⟩
        · have hst : Hid (cptTo l (k + 1) = l.take k) := hid (by
            rw [hsame.out (by simpa using HX.out), htk.out])
          clear hsame hnew htg htk HX
          go_wp2_with fail
          go_loopw [5, 7] (fun s5 s7 wn => ∃ (kk k2 : Nat), s5 = .int .i64 kk ∧ s7 = .int .i64 k2 ∧ 1 ≤ k2 ∧ k + k2 ≤ l.length ∧ kk < k + k2 ∧ Hid ((cptTo l (k + k2)).length = kk) ∧ Hid (VnE.Row wn (.slice (some ⟨g, o, none⟩) l.length c) (cptTo l (k + k2) ++ l.drop kk)) ∧ Hid (Kp [g] w wn)) (fun _ s7 _ => l.length - k - (intOf s7).toNat)
          case atStart => exact ⟨k, 1, rfl, rfl, Nat.le_refl _, by omega, by omega, hid (by rw [hst.out]; simp; omega), hid (by rw [hst.out, List.take_append_drop]; exact hrq.out), hid (KQ.out.mono (by simp))⟩
          case round =>
            clear hrq hst
            obtain ⟨kk, k2, rfl, rfl, h21, h2l, hkk, hpl, hrow, kn2⟩ := hrel
            have hLl : Hid ((cptTo l (k + k2) ++ l.drop kk).length = l.length) := hid (by rw [List.length_append, hpl.out]; simp; omega)
            have hbb := hid (HB.out.kept kn2.out (by simpa using NN.out.1) (by simpa using NN.out.2.1) (by simpa using NN.out.2.2))
            by_cases hlt2 : k + k2 < l.length
            · have hgd : Hid (∀ i, kk ≤ i → (cptTo l (k + k2) ++ l.drop kk).getD i default = l.getD i default) := hid fun i hi => by
                simp only [List.getD_eq_getElem?_getD]
                rw [List.getElem?_append_right (by rw [hpl.out]; exact hi), hpl.out, List.getElem?_drop]
                congr 2
                omega
              obtain ⟨j, hj⟩ : ∃ j, k2 = j + 1 := ⟨k2 - 1, by omega⟩
              have hjk : k + k2 - 1 = k + j := by omega
              have hsame := hid (cptTo_same l (k + k2) (by omega))
              have hnew := hid (cptTo_new l (k + k2))
              rw [hjk] at hsame hnew
              obtain ⟨x, hx⟩ : ∃ x, Hid (l.getD (k + k2) default = x) := ⟨_, hid rfl⟩
              obtain ⟨y, hy⟩ : ∃ y, Hid (l.getD (k + j) default = y) := ⟨_, hid rfl⟩
              have hFx : Hid (∀ W', Kp [] wr W' → _ ∧ _) := hid fun W' k' => And.intro (idAt2 (rowLen (hrow.out.keptNew k') hLl.out) (show k + k2 < _ by rw [hLl.out]; exact hlt2) ((hgd.out _ (by omega)).trans hx.out)) (idAt2 (rowLen (hrow.out.keptNew k') hLl.out) (show k + j < _ by rw [hLl.out]; omega) ((hgd.out _ (by omega)).trans hy.out))
              rw [hx.out, hy.out] at hsame hnew
              have cE := hid (fun W (k' : Kp [] wr W) => cEqK q4 q5 q7 x y W (hbb.out.kept k' (by simp) (by simp) (by simp)).b (hbb.out.kept (g := g) k' (by simp) (by simp) (by simp)).eq)
              obtain ⟨X, HX⟩ : ∃ X, Hid (decide (x.id = y.id) = X) := ⟨_, hid rfl⟩
              simp only [HX.out] at cE
              obtain ⟨xe, xn, xa, xc, xr, xd⟩ := x
              obtain ⟨ye, yn, ya, yc, yr, yd⟩ := y
              have e1 : o + (k + k2) * 4 = o + k * 4 + k2 * 4 := by omega
              have e2 : o + (k + j) * 4 = o + k * 4 + j * 4 := by omega
              rw [e1, e2] at hFx
              dsimp only at cE hFx
              have hG : Hid (∀ W', Kp [] wr W' → W'.cell? ⟨g, o + k * 4 + k2 * 4, none⟩ = some (.int .u64 xe) ∧ W'.cell? ⟨g, o + k * 4 + k2 * 4 + 1, none⟩ = some (.int .u32 xn) ∧ W'.cell? ⟨g, o + k * 4 + k2 * 4 + 2, none⟩ = some (.slice xa xr.length xc) ∧ W'.cell? ⟨g, o + k * 4 + k2 * 4 + 3, none⟩ = some (.int .u64 xd) ∧ W'.cell? ⟨g, o + k * 4 + j * 4, none⟩ = some (.int .u64 ye) ∧ W'.cell? ⟨g, o + k * 4 + j * 4 + 1, none⟩ = some (.int .u32 yn) ∧ W'.cell? ⟨g, o + k * 4 + j * 4 + 2, none⟩ = some (.slice ya yr.length yc) ∧ W'.cell? ⟨g, o + k * 4 + j * 4 + 3, none⟩ = some (.int .u64 yd)) := hid fun W' k' => by
                obtain ⟨⟨h0, h1, h2, h3⟩, h4, h5, h6, h7⟩ := hFx.out W' k'
                exact ⟨h0, h1, h2, h3, h4, h5, h6, h7⟩
              have i1 : (k2 : Int) < ((l.length - k : Nat) : Int) := by omega
              have i2 : (j : Int) < ((l.length - k : Nat) : Int) := by omega
              have i3 : (0 : Int) ≤ (j : Int) := by omega
              have i4 : (0 : Int) ≤ (k2 : Int) := by omega
              have j1 : k2 < l.length - k := by omega
              have ek : (k2 : Int) - 1 = (j : Int) := by omega
              have wk : IntKind.i64.wrap ((k2 : Int) - 1) = (j : Int) := by rw [ek]; exact i64wR _ (by omega) (by omega)
              clear hj hjk hFx ek e1 e2
              go_wp2_with fail
              refine wp_region_held_drew (S := fun W' => W'.cell? ⟨g, o + k * 4 + k2 * 4, none⟩ = some (.int .u64 xe) ∧ W'.cell? ⟨g, o + k * 4 + k2 * 4 + 1, none⟩ = some (.int .u32 xn) ∧ W'.cell? ⟨g, o + k * 4 + k2 * 4 + 2, none⟩ = some (.slice xa xr.length xc) ∧ W'.cell? ⟨g, o + k * 4 + k2 * 4 + 3, none⟩ = some (.int .u64 xd) ∧ W'.cell? ⟨g, o + k * 4 + j * 4, none⟩ = some (.int .u64 ye) ∧ W'.cell? ⟨g, o + k * 4 + j * 4 + 1, none⟩ = some (.int .u32 yn) ∧ W'.cell? ⟨g, o + k * 4 + j * 4 + 2, none⟩ = some (.slice ya yr.length yc) ∧ W'.cell? ⟨g, o + k * 4 + j * 4 + 3, none⟩ = some (.int .u64 yd)) (by kernel_rfl) ?_ (fun hHeld => ?_)
              · exact hG.out _ (Kp.refl [] wr).drew
              have KD : Hid (Kp [] wr wr.drew) := hid (Kp.refl [] wr).drew
              generalize wr.drew = Wd at *
              refine wpAnyH_take (i := 0) (v := ?_) rfl (by kernel_rfl) (by kernel_rfl) (by kernel_rfl) (fun _ _ _ h => h) (Or.inl ⟨by rfl, ?_⟩) (by assumption) ?_
              rotate_left
              · intro w hSw; (try dsimp only at hSw); go_simp <;> with_reducible rfl
              try simp only [Act.put, List.getElem_toArray, List.getElem_cons_zero, List.getElem_cons_succ, List.setIfInBounds_toArray, List.set_cons_zero, List.set_cons_succ]
              refine wpAnyH_take (i := 1) (v := ?_) rfl (by kernel_rfl) (by kernel_rfl) (by kernel_rfl) (fun _ _ _ h => h) (Or.inl ⟨by rfl, ?_⟩) (by assumption) ?_
              rotate_left
              · intro w hSw; (try dsimp only at hSw); go_simp <;> with_reducible rfl
              try simp only [Act.put, List.getElem_toArray, List.getElem_cons_zero, List.getElem_cons_succ, List.setIfInBounds_toArray, List.set_cons_zero, List.set_cons_succ]
              refine wpAnyH_take (i := 2) (v := ?_) rfl (by kernel_rfl) (by kernel_rfl) (by kernel_rfl) (fun _ _ _ h => h) (Or.inl ⟨by rfl, ?_⟩) (by assumption) ?_
              rotate_left
              · intro w hSw; (try dsimp only at hSw); go_simp <;> with_reducible rfl
              try simp only [Act.put, List.getElem_toArray, List.getElem_cons_zero, List.getElem_cons_succ, List.setIfInBounds_toArray, List.set_cons_zero, List.set_cons_succ]
              refine wpAnyH_take (i := 3) (v := ?_) rfl (by kernel_rfl) (by kernel_rfl) (by kernel_rfl) (fun _ _ _ h => h) (Or.inl ⟨by rfl, ?_⟩) (by assumption) ?_
              rotate_left
              · intro w hSw; (try dsimp only at hSw); go_simp <;> with_reducible rfl
              try simp only [Act.put, List.getElem_toArray, List.getElem_cons_zero, List.getElem_cons_succ, List.setIfInBounds_toArray, List.set_cons_zero, List.set_cons_succ]
              refine wpAnyH_take (i := 4) (v := ?_) rfl (by kernel_rfl) (by kernel_rfl) (by kernel_rfl) (fun _ _ _ h => h) (Or.inl ⟨by rfl, ?_⟩) (by assumption) ?_
              rotate_left
              · intro w hSw; (try dsimp only at hSw); go_simp <;> with_reducible rfl
              try simp only [Act.put, List.getElem_toArray, List.getElem_cons_zero, List.getElem_cons_succ, List.setIfInBounds_toArray, List.set_cons_zero, List.set_cons_succ]
              refine wpAnyH_take (i := 5) (v := ?_) rfl (by kernel_rfl) (by kernel_rfl) (by kernel_rfl) (fun _ _ _ h => h) (Or.inl ⟨by rfl, ?_⟩) (by assumption) ?_
              rotate_left
              · intro w hSw; (try dsimp only at hSw); go_simp <;> with_reducible rfl
              try simp only [Act.put, List.getElem_toArray, List.getElem_cons_zero, List.getElem_cons_succ, List.setIfInBounds_toArray, List.set_cons_zero, List.set_cons_succ]
              refine wpAnyH_take (i := 6) (v := ?_) rfl (by kernel_rfl) (by kernel_rfl) (by kernel_rfl) (fun _ _ _ h => h) (Or.inl ⟨by rfl, ?_⟩) (by assumption) ?_
              rotate_left
              · intro w hSw; (try dsimp only at hSw); go_simp <;> with_reducible rfl
              try simp only [Act.put, List.getElem_toArray, List.getElem_cons_zero, List.getElem_cons_succ, List.setIfInBounds_toArray, List.set_cons_zero, List.set_cons_succ]
              refine wpAnyH_take (i := 7) (v := ?_) rfl (by kernel_rfl) (by kernel_rfl) (by kernel_rfl) (fun _ _ _ h => h) (Or.inl ⟨by rfl, ?_⟩) (by assumption) ?_
              rotate_left
              · intro w hSw; (try dsimp only at hSw); go_simp <;> (try simp only [wk]) <;> with_reducible rfl
              try simp only [Act.put, List.getElem_toArray, List.getElem_cons_zero, List.getElem_cons_succ, List.setIfInBounds_toArray, List.set_cons_zero, List.set_cons_succ]
              try simp only [wk]
              refine wpAnyH_take (i := 8) (v := ?_) rfl (by kernel_rfl) (by kernel_rfl) (by kernel_rfl) (fun _ _ _ h => h) (Or.inl ⟨by rfl, ?_⟩) (by assumption) ?_
              rotate_left
              · intro w hSw; (try dsimp only at hSw); go_simp <;> with_reducible rfl
              try simp only [Act.put, List.getElem_toArray, List.getElem_cons_zero, List.getElem_cons_succ, List.setIfInBounds_toArray, List.set_cons_zero, List.set_cons_succ]
              refine wpAnyH_take (i := 9) (v := ?_) rfl (by kernel_rfl) (by kernel_rfl) (by kernel_rfl) (fun _ _ _ h => h) (Or.inl ⟨by rfl, ?_⟩) (by assumption) ?_
              rotate_left
              · intro w hSw; (try dsimp only at hSw); go_simp <;> with_reducible rfl
              try simp only [Act.put, List.getElem_toArray, List.getElem_cons_zero, List.getElem_cons_succ, List.setIfInBounds_toArray, List.set_cons_zero, List.set_cons_succ]
              refine wpAnyH_ready (rs := [10]) (by kernel_rfl) (by simp) ?_
              refine AllReadyH.cons rfl (fun K hK => ?_) AllReadyH.nil
              go_simp
              refine (cE.out _ (KD.out)).mono ?_
              rintro e w9 ⟨rfl, k9⟩
              have K9 := hid (KD.out.trans k9 (by simp))
              clear k9
              (try go_wp2_with fail)
              refine hK.out _ _ ?_ (fun hHeld => ?_)
              · exact hG.out _ K9.out
              clear hK K
              try simp only [Act.put, List.getElem_toArray, List.getElem_cons_zero, List.getElem_cons_succ, List.setIfInBounds_toArray, List.set_cons_zero, List.set_cons_succ]
              refine wpAnyH_take (i := 11) (v := ?_) rfl (by kernel_rfl) (by kernel_rfl) (by kernel_rfl) (fun _ _ _ h => h) (Or.inl ⟨by rfl, ?_⟩) (by assumption) ?_
              rotate_left
              · intro w hSw; (try dsimp only at hSw); go_simp <;> with_reducible rfl
              try simp only [Act.put, List.getElem_toArray, List.getElem_cons_zero, List.getElem_cons_succ, List.setIfInBounds_toArray, List.set_cons_zero, List.set_cons_succ]
              refine wpAnyH_done (by kernel_rfl) ?_ _
              have kq2 : Kp [g] w w9 := kn2.out.trans K9.out (by simp)
              have hrq2 : VnE.Row w9 (.slice (some ⟨g, o, none⟩) (cptTo l (k + k2) ++ l.drop kk).length c) (cptTo l (k + k2) ++ l.drop kk) := by rw [hLl.out]; exact hrow.out.keptNew K9.out
              obtain ⟨C0, C1, C2, C3, _, _, _, _⟩ := hG.out w9 K9.out
              clear hHeld hG cE wk i3 i4 hrow
              cases X
              · have hst : Hid (cptTo l (k + k2 + 1) = cptTo l (k + k2) ++ [⟨xe, xn, xa, xc, xr, xd⟩]) := hid (by
                  rw [hnew.out (.inr (by simpa using HX.out))])
                obtain ⟨hput, kput, hsm, hfz⟩ := hrq2.put kk (by rw [hLl.out]; omega) [⟨xe, xn, xa, xc, xr, xd⟩] (by simp; omega)
                have hl2 : (cptTo l (k + k2) ++ l.drop kk).take kk ++ [⟨xe, xn, xa, xc, xr, xd⟩] ++ (cptTo l (k + k2) ++ l.drop kk).drop (kk + [(⟨xe, xn, xa, xc, xr, xd⟩ : Vn)].length) = cptTo l (k + k2 + 1) ++ l.drop (kk + 1) := by
                  have e1 : (cptTo l (k + k2) ++ l.drop kk).take kk = cptTo l (k + k2) := by
                    have := List.take_left (l₁ := cptTo l (k + k2)) (l₂ := l.drop kk)
                    rwa [hpl.out] at this
                  have e2 : (cptTo l (k + k2) ++ l.drop kk).drop (kk + 1) = l.drop (kk + 1) := by
                    rw [List.drop_append, List.drop_of_length_le (by rw [hpl.out]; omega), List.nil_append, hpl.out, List.drop_drop]
                    congr 1
                    omega
                  rw [e1, show kk + [(⟨xe, xn, xa, xc, xr, xd⟩ : Vn)].length = kk + 1 from rfl, e2, hst.out]
                have hlen2 : (cptTo l (k + k2 + 1) ++ l.drop (kk + 1)).length = l.length := by
                  rw [hst.out, List.length_append, List.length_append, hpl.out]; simp; omega
                rw [hl2, hlen2] at hput
                have f0 := hfz 0 (by simp [El.cs, VnE]); have f1 := hfz 1 (by simp [El.cs, VnE]); have f2 := hfz 2 (by simp [El.cs, VnE]); have f3 := hfz 3 (by simp [El.cs, VnE])
                obtain ⟨u0, v0⟩ := Option.isSome_iff_exists.1 (hsm 0 (by simp [El.cs, VnE]))
                obtain ⟨u1, v1⟩ := Option.isSome_iff_exists.1 (hsm 1 (by simp [El.cs, VnE]))
                obtain ⟨u2, v2⟩ := Option.isSome_iff_exists.1 (hsm 2 (by simp [El.cs, VnE]))
                obtain ⟨u3, v3⟩ := Option.isSome_iff_exists.1 (hsm 3 (by simp [El.cs, VnE]))
                have e4 : VnE.n = 4 := rfl
                rw [e4] at f0 f1 f2 f3 v0 v1 v2 v3
                rw [Nat.add_zero] at f0 v0
                obtain ⟨w5, hw5⟩ : ∃ w5, (((w9.setCell ⟨g, o + kk * 4, none⟩ (.int .u64 xe)).setCell ⟨g, o + kk * 4 + 1, none⟩ (.int .u32 xn)).setCell ⟨g, o + kk * 4 + 2, none⟩ (.slice xa xr.length xc)).setCell ⟨g, o + kk * 4 + 3, none⟩ (.int .u64 xd) = w5 := ⟨_, rfl⟩
                have hput5 : Hid (VnE.Row w5 (.slice (some ⟨g, o, none⟩) l.length c) (cptTo l (k + k2 + 1) ++ l.drop (kk + 1))) := hid (by rw [← hw5]; exact hput)
                have k5 : Hid (Kp [g] w w5) := hid (by rw [← hw5]; exact kq2.trans kput (fun _ h => .inl h))
                have hpl2 : Hid ((cptTo l (k + k2 + 1)).length = kk + 1) := hid (by rw [hst.out]; simp [hpl.out])
                have hkkl : (kk : Int) < (l.length : Int) := by omega
                have hkk0 : (0 : Int) ≤ (kk : Int) := by omega
                clear hput kput hsm hfz hl2 hlen2 hrq2 hsame hnew hst hpl hgd HX kq2
                go_wp2_with fail
                exact ⟨⟨kk + 1, k2 + 1, by go_num, by go_num, by omega, by omega, by omega, hpl2, hput5, k5⟩, by simp [intOf]; omega⟩
              · have hst : Hid (cptTo l (k + k2 + 1) = cptTo l (k + k2)) := hid (by
                  rw [hsame.out (by simpa using HX.out)])
                have hpl2 : Hid ((cptTo l (k + k2 + 1)).length = kk) := hid (by rw [hst.out, hpl.out])
                rw [hLl.out, ← hst.out] at hrq2
                have hrq2' := hid hrq2
                have KQ2 := hid kq2
                clear hrq2 hsame hnew hst hpl hgd HX kq2 C0 C1 C2 C3
                go_wp2_with fail
                exact ⟨⟨kk, k2 + 1, rfl, by go_num, by omega, by omega, by omega, hpl2, hrq2', KQ2⟩, by simp [intOf]; omega⟩
            · obtain hend : k + k2 = l.length := by omega
              have hrow2 : VnE.Row wr (.slice (some ⟨g, o, none⟩) (F ++ l.drop kk).length c) (F ++ l.drop kk) := by
                have h1 := hrow.out
                have h2 := hLl.out
                rw [hend, ← hF.out] at h1 h2
                rw [h2]; exact h1
              have hplF : Hid (F.length = kk) := hid (by have := hpl.out; rwa [hend, ← hF.out] at this)
              have hLF : Hid ((F ++ l.drop kk).length = l.length) := hid (by have := hLl.out; rwa [hend, ← hF.out] at this)
              obtain ⟨hl9, hm9, hg9, ht9⟩ := rowCells hrow2
              rw [hLF.out] at hl9
              have hcc : ∀ z, z < (l.length - kk) * 4 → (wr.cell? ⟨g, o + kk * 4 + z, none⟩).isSome = true ∧ wr.frozen? ⟨g, o + kk * 4 + z, none⟩ = false := fun z hz => by
                rw [Nat.add_assoc]
                refine ht9 _ ?_
                show _ < c * 4
                omega
              have hcl := run_clearN wr g (o + kk * 4) (l.length - kk) (c - kk) (by omega) hcc
              obtain ⟨hput, kput, _, _⟩ := hrow2.put kk (by rw [hLF.out]; omega) (List.replicate (l.length - kk) default) (by simp; omega)
              have hlz : ((F ++ l.drop kk).take kk ++ List.replicate (l.length - kk) default ++ (F ++ l.drop kk).drop (kk + (List.replicate (l.length - kk) (default : Vn)).length)).take kk = F := by
                have e1 : (F ++ l.drop kk).take kk = F := by
                  have := List.take_left (l₁ := F) (l₂ := l.drop kk)
                  rwa [hplF.out] at this
                rw [e1, List.append_assoc, List.take_append_of_le_length (by rw [hplF.out]; omega), ← hplF.out, List.take_length]
              have hfr := rowFront hput kk (by simp only [List.length_append, List.length_replicate, List.length_take, List.length_drop]; rw [hplF.out]; omega)
              rw [hlz] at hfr
              have HFR := hid hfr
              have KS := hid (kn2.out.trans kput (fun _ h => .inl h))
              have n1 : ¬ (k2 : Int) < ((l.length - k : Nat) : Int) := by omega
              have n2 : (kk : Int) ≤ (l.length : Int) := by omega
              have n3 : (kk : Int) ≤ (c : Int) := by omega
              have n4 : kk < l.length := by omega
              have n5 : kk < c := by omega
              clear hput kput hfr hlz hrow2 hrow hpl hLl hcc hF hFF hl9 hm9 hg9 ht9 hLF
              go_wp2_with fail
              go_ret
              rw [hplF.out]
              exact ⟨rfl, HFR.out, KS.out⟩
      · obtain rfl : k = l.length := by omega
        have hfin : Hid (F = l) := hid (by rw [hF.out, htk.out, List.take_length])
        clear htk hF
        go_wp2_with fail
        go_ret
        rw [hfin.out]
        exact ⟨rfl, hs'.out.keptNew kn.out, kn.out.mono (by simp)⟩
end Go.Proofs.Ytebkkdoggagcdab
end

section
namespace Go.Proofs.Ytebkkdoggagcdab
open Go.RowKit Go.Hay
attribute [local go_sem] Oper.semAt_some
set_option linter.unusedVariables false
set_option linter.unusedSimpArgs false

theorem run_store_func (P : Program) (w : World) (a : Addr) (m) (f : Fn) (x y : Array Value) : (store a (.func f x y) m).run P w = stored P w a (.func f x y) m := run_store P w a _ m rfl
attribute [local go_sem] run_store_func
theorem once_short {l : List Vn} (h : l.length < 2) : onceV l = l := by
  match l, h with
  | [], _ => rfl
  | [x], _ => simp [onceV, stO, hasV, insV, kOf]
set_option maxHeartbeats 8000000 in
set_option maxRecDepth 100000 in
theorem cCompact1 (a : Option Addr) (n c : Nat) (f : Value) (w : World) (hn : n < 2) : Calls Try.prog 26 #[.slice a n c, f] w fun e w' => e = .returned (.slice a n c) ∧ w' = w := by
  go_enter Try.func26, Try.ntmps26
  go_wp2_with fail
  go_ret
  exact ⟨rfl, rfl⟩
set_option maxHeartbeats 16000000 in
set_option maxRecDepth 100000 in
theorem cInOrder (a : Option Addr) (c : Nat) (l : List Vn) (w : World) (hs : VnE.See w a l) (hn : a = none → c = 0) (hl : l.length ≤ 4000000000000) :
    Calls Try.prog 18 #[.slice a l.length c, .func (.func 19) #[] #[], .func (.func 20) #[] #[]] w (CloneP VnE (onceV l) w) := by
  obtain ⟨w1, hw1, k1, b1⟩ : ∃ x, w.alloc (.cells #[.func (.func 19) #[] #[]] 58) = x ∧ Kp [] w x ∧ Bn x w.heap.size [.func (.func 19) #[] #[]] := ⟨_, rfl, (Kp.refl _ _).alloc _, Bn.new w _ _⟩
  obtain ⟨w2, hw2, k2, b2⟩ : ∃ x, w1.alloc (.cells #[.func (.func 20) #[] #[]] 59) = x ∧ Kp [] w1 x ∧ Bn x w1.heap.size [.func (.func 20) #[] #[]] := ⟨_, rfl, (Kp.refl _ _).alloc _, Bn.new w1 _ _⟩
  obtain ⟨w3, hw3, k3, b3⟩ : ∃ x, w2.alloc (.cells #[.nilFunc] 63) = x ∧ Kp [] w2 x ∧ Bn x w2.heap.size [.nilFunc] := ⟨_, rfl, (Kp.refl _ _).alloc _, Bn.new w2 _ _⟩
  have z1 : w1.heap.size = w.heap.size + 1 := by rw [← hw1]; simp
  have z2 : w2.heap.size = w1.heap.size + 1 := by rw [← hw2]; simp
  obtain ⟨q4, hq4⟩ : ∃ q, w.heap.size = q := ⟨_, rfl⟩
  obtain ⟨q5, hq5⟩ : ∃ q, w1.heap.size = q := ⟨_, rfl⟩
  obtain ⟨q7, hq7⟩ : ∃ q, w2.heap.size = q := ⟨_, rfl⟩
  rw [hq4] at b1
  rw [hq5] at b2
  rw [hq7] at b3
  have HZ : Hid (q4 = w.heap.size ∧ q5 = w.heap.size + 1 ∧ q7 = w.heap.size + 2) := hid (by omega)
  obtain ⟨w4, hw4⟩ : ∃ x, w3.setCell ⟨q7, 0, none⟩ (.func (.func 23) #[] #[.pointer (some ⟨q5, 0, none⟩), .pointer (some ⟨q4, 0, none⟩)]) = x := ⟨_, rfl⟩
  have k4 : Kp [q7] w3 w4 := by rw [← hw4]; exact (Kp.refl _ _).setCell (by simp) _
  have b4 : Bn w4 q7 [.func (.func 23) #[] #[.pointer (some ⟨q5, 0, none⟩), .pointer (some ⟨q4, 0, none⟩)]] := by rw [← hw4]; exact b3.set 0 (by simp) _
  have m0 := b3.get 0 _ rfl; have f0 := b3.free 0
  have kw3 := (k1.trans k2 (by simp)).trans k3 (by simp)
  have hne : q4 ≠ q7 ∧ q5 ≠ q7 := by omega
  have hb4 : BxC q4 q5 q7 0 w4 := ⟨⟨(k4.cell (p := ⟨q4, 0, none⟩) (World.block_lt_of_cell? _ _ (kpAt (k2.trans k3 (by simp)) (b1.get 0 _ rfl))) (by simpa using hne.1)).trans (kpAt (k2.trans k3 (by simp)) (b1.get 0 _ rfl)), (k4.cell (p := ⟨q5, 0, none⟩) (World.block_lt_of_cell? _ _ (kpAt k3 (b2.get 0 _ rfl))) (by simpa using hne.2)).trans (kpAt k3 (b2.get 0 _ rfl))⟩, b4.get 0 _ rfl⟩
  have K4 := hid (kw3.trans k4 (fun x hx => .inr (by simp at hx; omega)))
  have HB := hid hb4
  have cC := hid (cCloneN a c l w4 (hs.keptNew K4.out) hn hl)
  have HL := hid hl
  obtain ⟨O, hO⟩ : ∃ O, Hid (onceV l = O) := ⟨_, hid rfl⟩
  rw [hO.out]
  clear z1 z2 b1 b2 b3 b4 k1 k2 k3 k4 kw3 hb4 hs hn hl hne
  go_enter Try.func18, Try.ntmps18
  go_wp2_with fail
  refine cC.out.mono ?_
  rintro e w5 ⟨a', c', rfl, hrow, k5, hnw⟩
  have K5 := hid (K4.out.trans k5 (by simp))
  have HB5 := hid (HB.out.kept k5 (by simp) (by simp) (by simp))
  have HN : Hid (∀ k ∈ blk a', w.heap.size + 3 ≤ k) := hid fun k hk => by have h1 := hnw k hk; have h2 : q7 < w4.heap.size := World.block_lt_of_cell? _ _ HB.out.eq; have h3 := HZ.out.2.2; omega
  have s7 := HB5.out.eq
  have HR := hid hrow
  clear cC hrow k5 hnw m0 f0
  by_cases hlen : l.length < 2
  · have cS := hid (cSortSt1R a' l.length c' (.func (.func 23) #[] #[.pointer (some ⟨q5, 0, none⟩), .pointer (some ⟨q4, 0, none⟩)]) w5 (by omega))
    have cK := hid (cCompact1 a' l.length c' (.func (.func 27) #[] #[.pointer (some ⟨q7, 0, none⟩)]) w5 hlen)
    have ho : Hid (O = l) := hid (by rw [← hO.out]; exact once_short hlen)
    go_wp2_with fail
    refine cS.out.mono ?_
    rintro e w6 ⟨⟨v, rfl⟩, rfl⟩
    clear cS
    go_wp2_with fail
    refine cK.out.mono ?_
    rintro e w7 ⟨rfl, rfl⟩
    clear cK
    go_wp2_with fail
    go_ret
    rw [ho.out]
    exact ⟨a', c', rfl, HR.out, K5.out, fun k hk => by have := HN.out k hk; omega⟩
  · obtain ⟨g, o, rfl⟩ : ∃ g o, a' = some ⟨g, o, none⟩ := by
      rcases HR.out with ⟨e, e2⟩ | ⟨g, o, cap, e, _⟩
      · rw [e2] at hlen; simp at hlen
      · have := Value.slice.inj e
        exact ⟨g, o, this.1⟩
    have hg : w.heap.size + 3 ≤ g := HN.out g (by simp [blk])
    have hne : q4 ≠ g ∧ q5 ≠ g ∧ q7 ≠ g := by have := HZ.out; omega
    have NE := hid hne
    have cS := hid (cSortN g o c' l q4 q5 w5 HR.out HB5.out.b hne.1 hne.2.1 HL.out)
    clear hne hlen
    go_wp2_with fail
    refine cS.out.mono ?_
    rintro e w6 ⟨⟨v, rfl⟩, s, hp, hst, hrow6, k6⟩
    have HB6 := hid (HB5.out.kept k6 (by simpa using NE.out.1) (by simpa using NE.out.2.1) (by simpa using NE.out.2.2))
    have eO : cpt (arrN l s) = O := by rw [← hO.out]; exact sorted_once hp hst
    have eL := arrN_len l s
    have hrow6' : VnE.Row w6 (.slice (some ⟨g, o, none⟩) (arrN l s).length c') (arrN l s) := by rw [eL]; exact hrow6
    have cK := hid (cCompactN g o c' (arrN l s) q4 q5 q7 w6 hrow6' ⟨HB6.out.b, HB6.out.eq⟩ NE.out.1 NE.out.2.1 NE.out.2.2 (by rw [eL]; exact HL.out))
    rw [eO, eL] at cK
    have K6 := hid (K5.out.trans k6 (fun x hx => .inr (by simp at hx; omega)))
    clear cS hp hst hrow6 k6 eO eL hrow6'
    go_wp2_with fail
    refine cK.out.mono ?_
    rintro e w7 ⟨rfl, hrow7, k7⟩
    have HR7 := hid hrow7
    have K7 := hid (K6.out.trans k7 (fun x hx => .inr (by simp at hx; omega)))
    clear cK hrow7 k7
    go_wp2_with fail
    go_ret
    exact ⟨some ⟨g, o, none⟩, c', rfl, HR7.out, K7.out, fun k hk => by simp [blk] at hk; omega⟩
theorem cByNames (a : Option Addr) (c : Nat) (l : List Vn) (w : World) (hs : VnE.See w a l) (hn : a = none → c = 0) (hl : l.length ≤ 4000000000000) :
    Calls Try.prog 12 #[.slice a l.length c] w (CloneP VnE (onceV l) w) := by
  have cI := hid (cInOrder a c l w hs hn hl)
  clear hs hn
  go_enter Try.func12, Try.ntmps12
  go_wp2_with fail
  refine cI.out.mono ?_
  rintro e w7 ⟨a', c', rfl, hrow, k, hnw⟩
  have H := hid (And.intro hrow (And.intro k hnw))
  clear cI hrow k hnw
  go_wp2_with fail
  go_ret
  exact ⟨a', c', rfl, H.out.1, H.out.2.1, H.out.2.2⟩
/-- A version as it is told, its row in memory of its own. -/
def AsP (x : Vn) (d : Int) (w : World) (e : Ending) (w' : World) : Prop := ∃ a c, e = .returned (.agg #[.int .u64 x.ep, .int .u32 x.num, .slice a x.row.length c, .int .u64 d]) ∧ VE.Row w' (.slice a x.row.length c) x.row ∧ Kp [] w w' ∧ ∀ k ∈ blk a, w.heap.size ≤ k
theorem asV_del (e : Int) (x : Vn) : (asV e x).del = if e < x.del then 0 else x.del := by unfold asV; split <;> rfl
set_option maxHeartbeats 16000000 in
set_option maxRecDepth 100000 in
theorem cAs (x : Vn) (ep : Int) (w : World) (hx : VnOk w x) : Calls Try.prog 13 #[.agg #[.int .u64 x.ep, .int .u32 x.num, .slice x.a x.row.length x.c, .int .u64 x.del], .int .u64 ep] w (AsP x (asV ep x).del w) := by
  rw [asV_del]
  obtain ⟨w1, hw1, k1, b1⟩ : ∃ y, w.alloc (.cells #[.int .u64 x.ep, .int .u32 x.num, .slice x.a x.row.length x.c, .int .u64 x.del] 29) = y ∧ Kp [] w y ∧ Bn y w.heap.size [.int .u64 x.ep, .int .u32 x.num, .slice x.a x.row.length x.c, .int .u64 x.del] := ⟨_, rfl, (Kp.refl _ _).alloc _, Bn.new w _ _⟩
  obtain ⟨w2, hw2, k2, b2⟩ : ∃ y, w1.alloc (.cells #[.int .u64 0, .int .u32 0, .slice none 0 0, .int .u64 0] 29) = y ∧ Kp [] w1 y ∧ Bn y w1.heap.size [.int .u64 0, .int .u32 0, .slice none 0 0, .int .u64 0] := ⟨_, rfl, (Kp.refl _ _).alloc _, Bn.new w1 _ _⟩
  have z1 : w1.heap.size = w.heap.size + 1 := by rw [← hw1]; simp
  obtain ⟨q2, hq2⟩ : ∃ q, w.heap.size = q := ⟨_, rfl⟩
  obtain ⟨q4, hq4⟩ : ∃ q, w1.heap.size = q := ⟨_, rfl⟩
  rw [hq2] at b1
  rw [hq4] at b2
  have KA := hid (k1.trans k2 (by simp))
  have cC := hid (cCloneV x.a x.c x.row w2 (hx.see.keptNew KA.out) hx.nil hx.few)
  have HZ : Hid (q2 = w.heap.size ∧ q4 = w.heap.size + 1) := hid (by omega)
  have b12 := b1.kept k2
  have HB := hid (And.intro b12 b2)
  have s2 := b12.get 2 _ rfl
  obtain ⟨xe, xn, xa, xc, xr, xd⟩ := x
  dsimp only at *
  obtain ⟨d, hd⟩ : ∃ d : Int, Hid ((if ep < xd then (0 : Int) else xd) = d) := ⟨_, hid rfl⟩
  rw [hd.out]
  clear b1 b2 b12 k1 k2 hx z1
  go_enter Try.func13, Try.ntmps13
  go_wp2_with fail
  refine cC.out.mono ?_
  rintro e w3 ⟨a', c', rfl, hrow, k3, hnw⟩
  have b3 := HB.out.1.kept k3
  have b3' := HB.out.2.kept k3
  have hlt2 : q2 < w3.heap.size := b3.lt (by simp)
  have hlt4 : q4 < w3.heap.size := b3'.lt (by simp)
  have hq2w : w2.heap.size = w.heap.size + 2 := by rw [← hw2, World.size_alloc, hq4]; have := HZ.out; omega
  have m0 := b3.get 2 _ rfl; have f0 := b3.free 2
  obtain ⟨W4, hW4⟩ : ∃ Y, w3.setCell ⟨q2, 2, none⟩ (.slice a' xr.length c') = Y := ⟨_, rfl⟩
  have k4 : Kp [q2] w3 W4 := by rw [← hW4]; exact (Kp.refl _ _).setCell (by simp) _
  have b4 : Bn W4 q2 [.int .u64 xe, .int .u32 xn, .slice a' xr.length c', .int .u64 xd] := by rw [← hW4]; exact b3.set 2 (by simp) _
  have b4' : Bn W4 q4 [.int .u64 0, .int .u32 0, .slice none 0 0, .int .u64 0] := b3'.keptS k4 (by have := HZ.out; simp; omega) hlt4
  have hr4 : VE.Row W4 (.slice a' xr.length c') xr := hrow.kept k4 (fun k hk => by rw [own_slice] at hk; have := hnw k hk; have := HZ.out; simp; omega)
  have K4 := hid ((KA.out.trans k3 (by simp)).trans k4 (fun x hx => .inr (by simp at hx; have := HZ.out; omega)))
  have HNW : Hid (∀ k ∈ blk a', w.heap.size + 2 ≤ k) := hid fun k hk => by have := hnw k hk; omega
  obtain ⟨WB, hWB⟩ : ∃ Y, W4.setCell ⟨q2, 3, none⟩ (.int .u64 0) = Y := ⟨_, rfl⟩
  have FIN : Hid (∀ W, Bn W q4 [.int .u64 0, .int .u32 0, .slice none 0 0, .int .u64 0] → VE.Row W (.slice a' xr.length c') xr → Kp [] w W → ∀ d : Int, ∃ W2, (((W.setCell ⟨q4, 0, none⟩ (.int .u64 xe)).setCell ⟨q4, 1, none⟩ (.int .u32 xn)).setCell ⟨q4, 2, none⟩ (.slice a' xr.length c')).setCell ⟨q4, 3, none⟩ (.int .u64 d) = W2 ∧ Bn W2 q4 [.int .u64 xe, .int .u32 xn, .slice a' xr.length c', .int .u64 d] ∧ VE.Row W2 (.slice a' xr.length c') xr ∧ Kp [] w W2) := hid fun W hb hr hk d => by
    have ks : Kp [q4] W ((((W.setCell ⟨q4, 0, none⟩ (.int .u64 xe)).setCell ⟨q4, 1, none⟩ (.int .u32 xn)).setCell ⟨q4, 2, none⟩ (.slice a' xr.length c')).setCell ⟨q4, 3, none⟩ (.int .u64 d)) := ((((Kp.refl _ _).setCell (by simp) _).setCell (by simp) _).setCell (by simp) _).setCell (by simp) _
    refine ⟨_, rfl, (((hb.set 0 (by simp) _).set 1 (by simp) _).set 2 (by simp) _).set 3 (by simp) _, hr.kept ks (fun k hk => ?_), hk.trans ks (fun x hx => .inr (by simp at hx; have := HZ.out; omega))⟩
    rw [own_slice] at hk
    have := HNW.out k hk
    have := HZ.out
    simp
    omega
  have n2 := b4.get 0 _ rfl; have n3 := b4.get 1 _ rfl; have n4 := b4.get 2 _ rfl; have n5 := b4.get 3 _ rfl; have n6 := b4.free 3
  have HR4 := hid hr4
  have HB4 := hid (And.intro b4 b4')
  clear cC hrow k3 hnw b3 b3' s2 b4 b4' hr4 k4 hlt2 hlt4 hq2w
  by_cases hlt : ep < xd
  · have d1 : decide (xd > ep) = true := decide_eq_true hlt
    have d2 : decide (ep < xd) = true := decide_eq_true hlt
    have hd0 : Hid (d = 0) := hid (by rw [← hd.out, if_pos hlt])
    have kB : Kp [q2] W4 WB := by rw [← hWB]; exact (Kp.refl _ _).setCell (by simp) _
    have bB : Bn WB q2 [.int .u64 xe, .int .u32 xn, .slice a' xr.length c', .int .u64 0] := by rw [← hWB]; exact HB4.out.1.set 3 (by simp) _
    have hlt4 : q4 < W4.heap.size := HB4.out.2.lt (by simp)
    have bB' : Bn WB q4 [.int .u64 0, .int .u32 0, .slice none 0 0, .int .u64 0] := HB4.out.2.keptS kB (by have := HZ.out; simp; omega) hlt4
    obtain ⟨W2, hW2, b2, hr2, kk2⟩ := FIN.out WB bB' (HR4.out.kept kB (fun k hk => by rw [own_slice] at hk; have := HNW.out k hk; have := HZ.out; simp; omega)) (K4.out.trans kB (fun x hx => .inr (by simp at hx; have := HZ.out; omega))) 0
    have c0 := b2.get 0 _ rfl; have c1 := b2.get 1 _ rfl; have c2 := b2.get 2 _ rfl; have c3 := b2.get 3 _ rfl
    have o0 := bB.get 0 _ rfl; have o1 := bB.get 1 _ rfl; have o2 := bB.get 2 _ rfl; have o3 := bB.get 3 _ rfl
    have p0 := bB'.get 0 _ rfl; have p1 := bB'.get 1 _ rfl; have p2 := bB'.get 2 _ rfl; have p3 := bB'.get 3 _ rfl
    have g0 := bB'.free 0; have g1 := bB'.free 1; have g2 := bB'.free 2; have g3 := bB'.free 3
    have H := hid (And.intro hr2 kk2)
    clear hlt kB bB bB' b2 hr2 kk2 hlt4 FIN
    go_wp2_with fail
    exact bodyPost_ret (v := .agg #[.int .u64 xe, .int .u32 xn, .slice a' xr.length c', .int .u64 0]) (by simp [results, Try.results13, go_sem, c0, c1, c2, c3]) rfl ⟨a', c', by rw [hd0.out], H.out.1, H.out.2, fun k hk => by have := HNW.out k hk; omega⟩
  · have d1 : decide (xd > ep) = false := decide_eq_false hlt
    have d2 : decide (ep < xd) = false := decide_eq_false hlt
    have hd0 : Hid (d = xd) := hid (by rw [← hd.out, if_neg hlt])
    obtain ⟨W2, hW2, b2, hr2, kk2⟩ := FIN.out W4 HB4.out.2 HR4.out K4.out xd
    have c0 := b2.get 0 _ rfl; have c1 := b2.get 1 _ rfl; have c2 := b2.get 2 _ rfl; have c3 := b2.get 3 _ rfl
    have bB' := HB4.out.2
    have p0 := bB'.get 0 _ rfl; have p1 := bB'.get 1 _ rfl; have p2 := bB'.get 2 _ rfl; have p3 := bB'.get 3 _ rfl
    have g0 := bB'.free 0; have g1 := bB'.free 1; have g2 := bB'.free 2; have g3 := bB'.free 3
    have H := hid (And.intro hr2 kk2)
    clear hlt bB' b2 hr2 kk2 FIN
    go_wp2_with fail
    exact bodyPost_ret (v := .agg #[.int .u64 xe, .int .u32 xn, .slice a' xr.length c', .int .u64 xd]) (by simp [results, Try.results13, go_sem, c0, c1, c2, c3]) rfl ⟨a', c', by rw [hd0.out], H.out.1, H.out.2, fun k hk => by have := HNW.out k hk; omega⟩
end Go.Proofs.Ytebkkdoggagcdab
end

section
namespace Go.Proofs.Ytebkkdoggagcdab
open Go.RowKit Go.Hay
attribute [local go_sem] Oper.semAt_some
set_option linter.unusedVariables false
set_option linter.unusedSimpArgs false

/-- Versions that were gathered: all blocks from N on, their rows apart from the row of versions. -/
structure Lvn (N : Nat) (ra : Option Addr) (rc : Nat) (L : List Vn) (W : World) : Prop where
  row : VnE.Row W (.slice ra L.length rc) L
  rows : ∀ x ∈ L, VE.Row W (.slice x.a x.row.length x.c) x.row ∧ x.row.length * 40 ≤ 140737488355328 ∧ ∀ k ∈ blk x.a, N ≤ k ∧ k ∉ blk ra
  own : ∀ k ∈ blk ra, N ≤ k
theorem Lvn.nil (N : Nat) (W : World) : Lvn N none 0 [] W := ⟨.inl ⟨rfl, rfl⟩, by simp, by simp [blk]⟩
theorem Lvn.keptS {N : Nat} {ra : Option Addr} {rc : Nat} {L : List Vn} {S : List Nat} {X Y : World} (h : Lvn N ra rc L X) (k : Kp S X Y) (h1 : ∀ k ∈ blk ra, k ∉ S) (h2 : ∀ x ∈ L, ∀ k ∈ blk x.a, k ∉ S) : Lvn N ra rc L Y :=
  ⟨h.row.kept k (fun j hj => h1 j (by rw [own_slice] at hj; exact hj)), fun x hx => ⟨(h.rows x hx).1.kept k (fun j hj => h2 x hx j (by rw [own_slice] at hj; exact hj)), (h.rows x hx).2⟩, h.own⟩
theorem Lvn.kp {N : Nat} {ra : Option Addr} {rc : Nat} {L : List Vn} {X Y : World} (h : Lvn N ra rc L X) (k : Kp [] X Y) : Lvn N ra rc L Y := h.keptS k (by simp) (by simp)
theorem Lvn.low {N : Nat} {ra : Option Addr} {rc : Nat} {L : List Vn} {S : List Nat} {X Y : World} (h : Lvn N ra rc L X) (k : Kp S X Y) (hS : ∀ j ∈ S, j < N) : Lvn N ra rc L Y :=
  h.keptS k (fun j hj hm => by have := h.own j hj; have := hS j hm; omega) (fun x hx j hj hm => by have := ((h.rows x hx).2.2 j hj).1; have := hS j hm; omega)
theorem Lvn.mono {N M : Nat} {ra : Option Addr} {rc : Nat} {L : List Vn} {X : World} (h : Lvn N ra rc L X) (hm : M ≤ N) : Lvn M ra rc L X :=
  ⟨h.row, fun x hx => ⟨(h.rows x hx).1, (h.rows x hx).2.1, fun k hk => ⟨Nat.le_trans hm ((h.rows x hx).2.2 k hk).1, ((h.rows x hx).2.2 k hk).2⟩⟩, fun k hk => Nat.le_trans hm (h.own k hk)⟩
theorem Lvn.ok {N : Nat} {ra : Option Addr} {rc : Nat} {L : List Vn} {W : World} (h : Lvn N ra rc L W) : ∀ x ∈ L, VnOk W x := fun x hx => by
  obtain ⟨h1, h2, _⟩ := h.rows x hx
  obtain ⟨_, _, e, hs, hn, hl, _⟩ := h1.see
  cases e
  exact ⟨hs, hl, fun e => (hn e).2, h2⟩
theorem Lvn.see {N : Nat} {ra : Option Addr} {rc : Nat} {L : List Vn} {W : World} (h : Lvn N ra rc L W) : VnE.See W ra L := See.ofRow h.row
theorem Lvn.cap {N : Nat} {ra : Option Addr} {rc : Nat} {L : List Vn} {W : World} (h : Lvn N ra rc L W) : ra = none → rc = 0 := by
  obtain ⟨_, _, e, _, hn, _⟩ := h.row.see
  cases e
  exact fun e => (hn e).2
theorem Lvn.lt {N : Nat} {ra : Option Addr} {rc : Nat} {L : List Vn} {X : World} (h : Lvn N ra rc L X) : ∀ k ∈ blk ra, k < X.heap.size := fun k hk => h.row.lt k (by rw [own_slice]; exact hk)
/-- One more version, behind the others. -/
theorem Lvn.app {N : Nat} {ra : Option Addr} {rc : Nat} {L : List Vn} {w : World} (h : Lvn N ra rc L w) (x : Vn) (hx : VE.Row w (.slice x.a x.row.length x.c) x.row) (hf : x.row.length * 40 ≤ 140737488355328) (hb : ∀ k ∈ blk x.a, N ≤ k ∧ k ∉ blk ra) (hN : N ≤ w.heap.size) (hl : L.length ≤ 4000000000000) (q : Nat) (hq : w.heap.size = q) :
    ∃ a' c' W', (Builtin.append_ #[22, 22] 22 #[.slice ra L.length rc, .slice (some ⟨q, 0, none⟩) 1 1]).run Try.prog (w.alloc (.cells #[.int .u64 x.ep, .int .u32 x.num, .slice x.a x.row.length x.c, .int .u64 x.del] 29)) = .ok (.slice a' (L ++ [x]).length c') W' ∧ Lvn N a' c' (L ++ [x]) W' ∧ Kp (blk ra) w W' := by
  obtain ⟨a', c', W', hrun, hrow, hk, hn⟩ := appV w L ra rc x q hq h.row (by omega)
  have hnew : ∀ k ∈ blk x.a, k < w.heap.size := fun k hk => hx.lt k (by rw [own_slice]; exact hk)
  refine ⟨a', c', W', hrun, ⟨hrow, fun y hy => ?_, fun k hk => ?_⟩, hk⟩
  · have h0 : VE.Row w (.slice y.a y.row.length y.c) y.row ∧ y.row.length * 40 ≤ 140737488355328 ∧ ∀ k ∈ blk y.a, N ≤ k ∧ k ∉ blk ra := by
      rcases List.mem_append.1 hy with hy | hy
      · exact h.rows y hy
      · rw [List.mem_singleton.1 hy]; exact ⟨hx, hf, hb⟩
    refine ⟨h0.1.kept hk (fun j hj => by rw [own_slice] at hj; exact (h0.2.2 j hj).2), h0.2.1, fun k hk' => ⟨(h0.2.2 k hk').1, fun hm => ?_⟩⟩
    rcases hn k hm with e | e
    · exact (h0.2.2 k hk').2 e
    · have := h0.1.lt k (by rw [own_slice]; exact hk')
      omega
  · rcases hn k hk with e | e
    · exact h.own k e
    · omega
def LvP (R : List Vn) (w : World) (e : Ending) (w' : World) : Prop := ∃ ra rc M, e = .returned (.slice ra M.length rc) ∧ Lvn w.heap.size ra rc M w' ∧ Like M R ∧ Kp [] w w'
theorem boxVn (w : World) (e n : Int) (a : Option Addr) (l c : Nat) (d : Int) : ∃ q W1 W2, w.heap.size = q ∧ w.alloc (.cells #[.int .u64 0, .int .u32 0, .slice none 0 0, .int .u64 0] 29) = W1 ∧ Bn W1 q [.int .u64 0, .int .u32 0, .slice none 0 0, .int .u64 0] ∧ (((W1.setCell ⟨q, 0, none⟩ (.int .u64 e)).setCell ⟨q, 1, none⟩ (.int .u32 n)).setCell ⟨q, 2, none⟩ (.slice a l c)).setCell ⟨q, 3, none⟩ (.int .u64 d) = W2 ∧ Bn W2 q [.int .u64 e, .int .u32 n, .slice a l c, .int .u64 d] ∧ Kp [] w W2 := by
  have b0 := Bn.new w [.int .u64 0, .int .u32 0, .slice none 0 0, .int .u64 0] 29
  have k0 : Kp [] w (w.alloc (.cells #[.int .u64 0, .int .u32 0, .slice none 0 0, .int .u64 0] 29)) := (Kp.refl _ _).alloc _
  have h : w.heap.size ∈ ([] : List Nat) ∨ w.heap.size ≤ w.heap.size := .inr (Nat.le_refl _)
  exact ⟨_, _, _, rfl, rfl, b0, rfl, (((b0.set 0 (by simp) (.int .u64 e)).set 1 (by simp) (.int .u32 n)).set 2 (by simp) (.slice a l c)).set 3 (by simp) (.int .u64 d), (((k0.setCell h _).setCell h _).setCell h _).setCell h _⟩
theorem upto_snoc (e : Int) {O : List Vn} {j : Nat} (h : j < O.length) : ((O.take (j + 1)).filter (epL e)).map (asV e) = ((O.take j).filter (epL e)).map (asV e) ++ (if epL e O[j] = true then [asV e O[j]] else []) := by
  rw [List.take_succ_eq_append_getElem h, List.filter_append, List.map_append]
  congr 1
  by_cases c : epL e O[j] = true <;> simp [c]
set_option maxHeartbeats 16000000 in
set_option maxRecDepth 100000 in
theorem cUpto (a : Option Addr) (c : Nat) (l : List Vn) (ep : Int) (w : World) (hs : VnE.See w a l) (hn : a = none → c = 0) (hl : l.length ≤ 4000000000000) (hx : ∀ x ∈ l, VnOk w x) :
    Calls Try.prog 7 #[.slice a l.length c, .int .u64 ep] w (LvP (uptoV l ep) w) := by
  have cB := hid (cByNames a c l w hs hn hl)
  obtain ⟨O, hO⟩ : ∃ O, Hid (onceV l = O) := ⟨_, hid rfl⟩
  have hOl : O.length ≤ 4000000000000 := by have := once_len l; rw [hO.out] at this; omega
  have hOx := hid (fun x (hm : x ∈ O) => hx x (once_mem (by rw [hO.out]; exact hm)))
  have hU : Hid (uptoV l ep = (O.filter (epL ep)).map (asV ep)) := hid (by unfold uptoV; rw [hO.out])
  obtain ⟨U, hU2⟩ : ∃ U, Hid (uptoV l ep = U) := ⟨_, hid rfl⟩
  rw [hU2.out] at hU ⊢
  rw [hO.out] at cB
  clear hs hn hx hl
  go_enter Try.func7, Try.ntmps7
  go_wp2_with fail
  refine cB.out.mono ?_
  rintro e w2 ⟨a2, c2, rfl, hrow, k2, hnw⟩
  have hS2 := hid (See.ofRow hrow)
  have K2 := hid k2
  have H0 : Hid (Lvn w2.heap.size none 0 [] w2 ∧ Kp [] w w2) := hid ⟨Lvn.nil _ _, k2⟩
  clear cB hrow k2 hnw
  go_wp2_with fail
  go_loopw [5, 11] (fun v5 i wr => ∃ (j : Nat) (ra : Option Addr) (rc : Nat) (M : List Vn), j ≤ O.length ∧ i = .int .i64 (j : Int) ∧ v5 = .slice ra M.length rc ∧ Hid (Like M (((O.take j).filter (epL ep)).map (asV ep))) ∧ Hid (Lvn w2.heap.size ra rc M wr ∧ Kp [] w2 wr)) (fun _ i _ => O.length - (intOf i).toNat)
  case atStart => exact ⟨0, none, 0, [], Nat.zero_le _, rfl, rfl, hid (by simp [Like]), hid ⟨H0.out.1, Kp.refl _ _⟩⟩
  case round =>
    obtain ⟨j, ra, rc, M, hj, rfl, rfl, hlk, H⟩ := hrel
    clear H0
    have hMl : M.length ≤ j := by
      have h1 := hlk.out.len
      rw [List.length_map] at h1
      have h2 := List.length_filter_le (epL ep) (O.take j)
      rw [List.length_take] at h2
      omega
    by_cases hlt : j < O.length
    · have hsn := hid (upto_snoc ep hlt)
      obtain ⟨g, o, ea, x0, x1, x2, x3⟩ := idAt (hS2.out.keptNew H.out.2) (i := j) (x := O[j]) (by simp [hlt])
      have hxok := hid ((hOx.out O[j] (List.getElem_mem hlt)).kept (K2.out.trans H.out.2 (by simp)))
      obtain ⟨x, hx⟩ : ∃ x, Hid (O[j] = x) := ⟨O[j], hid rfl⟩
      rw [hx.out] at x0 x1 x2 x3 hxok hsn
      have cA := hid (fun W (k : Kp [] wr W) => cAs x ep W (hxok.out.kept k))
      have hp : Hid (∀ a9 c9, (⟨x.ep, x.num, a9, c9, x.row, (asV ep x).del⟩ : Vn).p = (asV ep x).p) := hid fun a9 c9 => by
        unfold asV
        split <;> rfl
      have hepx : Hid (epL ep x = decide (x.ep ≤ ep)) := hid rfl
      obtain ⟨D, hD⟩ : ∃ D, Hid ((asV ep x).del = D) := ⟨_, hid rfl⟩
      obtain ⟨Y, hY⟩ : ∃ Y, Hid (asV ep x = Y) := ⟨_, hid rfl⟩
      rw [hY.out] at hsn hp
      simp only [hD.out] at cA
      rw [show Y.del = D by rw [← hY.out, hD.out]] at hp
      obtain ⟨xe, xn, xa, xc, xr, xd⟩ := x
      dsimp only at x0 x1 x2 x3 cA hp hepx
      obtain ⟨q7, W1, W2, eq7, eW1, b1, eW2, b2, kW2⟩ := boxVn wr xe xn xa xr.length xc xd
      have m0 := b1.get 0 _ rfl; have m1 := b1.get 1 _ rfl; have m2 := b1.get 2 _ rfl; have m3 := b1.get 3 _ rfl
      have f0 := b1.free 0; have f1 := b1.free 1; have f2 := b1.free 2; have f3 := b1.free 3
      have v0 := b2.get 0 _ rfl; have v1 := b2.get 1 _ rfl; have v2 := b2.get 2 _ rfl; have v3 := b2.get 3 _ rfl
      have KW2 := hid (H.out.2.trans kW2 (by simp))
      have HL2 := hid (H.out.1.kp kW2)
      have cA2 := hid (cA.out W2 kW2)
      have g0 := kpAt (by rw [← eW1]; exact (Kp.refl [] wr).alloc _ : Kp [] wr W1) x0
      have g1 := kpAt (by rw [← eW1]; exact (Kp.refl [] wr).alloc _ : Kp [] wr W1) x1
      have g2 := kpAt (by rw [← eW1]; exact (Kp.refl [] wr).alloc _ : Kp [] wr W1) x2
      have g3 := kpAt (by rw [← eW1]; exact (Kp.refl [] wr).alloc _ : Kp [] wr W1) x3
      have hzz : Hid (w2.heap.size ≤ W2.heap.size) := hid KW2.out.size
      have hxf := hid hxok.out.few
      have i1 : (0 : Int) ≤ (j : Int) := by omega
      have i2 : (j : Int) < (O.length : Int) := by omega
      have i3 : (j : Int) + 1 ≤ 9223372036854775807 := by omega
      subst ea
      clear b1 b2 kW2 cA hxok hOx
      by_cases hep : xe ≤ ep
      · have d1 : decide (xe ≤ ep) = true := decide_eq_true hep
        have hsn2 : Hid (((O.take (j + 1)).filter (epL ep)).map (asV ep) = ((O.take j).filter (epL ep)).map (asV ep) ++ [Y]) := hid (by rw [hsn.out, if_pos (by rw [hepx.out]; exact d1)])
        clear hep hepx hsn
        go_wp2_with fail
        refine cA2.out.mono ?_
        rintro e w3 ⟨a9, c9, rfl, hr9, k9, hb9⟩
        have hL3 := HL2.out.kp k9
        have hzM : M.length ≤ 4000000000000 := by omega
        obtain ⟨q8, hq8⟩ : ∃ q, w3.heap.size = q := ⟨_, rfl⟩
        obtain ⟨a4, c4, W4, hrun, hl4, k4⟩ := hL3.app ⟨xe, xn, a9, c9, xr, D⟩ hr9 hxf.out (fun k hk => ⟨by have := hb9 k hk; have := hzz.out; omega, fun hm => by have h1 := HL2.out.lt k hm; have h2 := hb9 k hk; omega⟩) (by have := hzz.out; have := k9.size; omega) hzM q8 hq8
        have hlk4 : Hid (Like (M ++ [(⟨xe, xn, a9, c9, xr, D⟩ : Vn)]) (((O.take (j + 1)).filter (epL ep)).map (asV ep))) := hid (by rw [hsn2.out]; exact hlk.out.append (Like.mk (hp.out a9 c9) rfl))
        obtain ⟨M4, hM4⟩ : ∃ M4, Hid (M ++ [(⟨xe, xn, a9, c9, xr, D⟩ : Vn)] = M4) := ⟨_, hid rfl⟩
        rw [hM4.out] at hrun hl4 hlk4
        dsimp only at hrun
        have HF : Hid (Lvn w2.heap.size a4 c4 M4 W4 ∧ Kp [] w2 W4) := hid ⟨hl4, (KW2.out.trans k9 (by simp)).trans k4 (fun x hx => .inr (HL2.out.own x hx))⟩
        clear hL3 hr9 k9 hb9 hl4 k4 cA2 hzz hp
        go_wp2_with (first | (refine wpAppRun rfl _ _ 22 22 rfl _ _ _ rfl rfl hrun ?_) | fail)
        go_roundw
        case rel => exact ⟨j + 1, a4, c4, M4, by omega, by go_num, rfl, hlk4, HF⟩
        case measure => simp [intOf]; omega
      · have d1 : decide (xe ≤ ep) = false := decide_eq_false hep
        have hlk4 : Hid (Like M (((O.take (j + 1)).filter (epL ep)).map (asV ep))) := hid (by rw [hsn.out, if_neg (by rw [hepx.out, d1]; simp), List.append_nil]; exact hlk.out)
        have HF : Hid (Lvn w2.heap.size ra rc M W2 ∧ Kp [] w2 W2) := hid ⟨HL2.out, KW2.out⟩
        clear hep hepx hsn cA2 hp
        go_wp2_with fail
        go_roundw
        case rel => exact ⟨j + 1, ra, rc, M, by omega, by go_num, rfl, hlk4, HF⟩
        case measure => simp [intOf]; omega
    · obtain rfl : j = O.length := by omega
      have hfin : Hid (Like M U) := hid (by have := hlk.out; rw [List.take_length] at this; rw [hU.out]; exact this)
      clear hMl
      go_wp2_with fail
      go_ret
      exact ⟨ra, rc, M, rfl, H.out.1.mono K2.out.size, hfin.out, K2.out.trans H.out.2 (by simp)⟩
theorem beh_sub {m : Int} {l : List Vn} {x : Vn} (h : x ∈ chgF m l) : x ∈ l := (List.mem_filter.1 h).1
set_option maxHeartbeats 16000000 in
set_option maxRecDepth 100000 in
theorem cChanges (a : Option Addr) (c : Nat) (l : List Vn) (since ep : Int) (w : World) (hs : VnE.See w a l) (hn : a = none → c = 0) (hl : l.length ≤ 4000000000000) (hx : ∀ x ∈ l, VnOk w x) :
    Calls Try.prog 8 #[.slice a l.length c, .int .u64 since, .int .u64 ep] w (LvP (chgV l since ep) w) := by
  obtain ⟨w1, hw1, k1, b1⟩ : ∃ x, w.alloc (.cells #[.int .u64 since] 23) = x ∧ Kp [] w x ∧ Bn x w.heap.size [.int .u64 since] := ⟨_, rfl, (Kp.refl _ _).alloc _, Bn.new w _ _⟩
  have z1 : w1.heap.size = w.heap.size + 1 := by rw [← hw1]; simp
  have cU := hid (cUpto a c l ep w1 (hs.keptNew k1) hn hl (fun x hm => (hx x hm).kept k1))
  have hlen := upto_len l ep
  obtain ⟨q4, hq4⟩ : ∃ q, w.heap.size = q := ⟨_, rfl⟩
  rw [hq4] at b1
  have K1 := hid k1
  have HQ : Hid (q4 = w.heap.size ∧ w1.heap.size = w.heap.size + 1) := hid (by omega)
  have HB := hid b1
  clear hs hn hx k1 b1 z1
  go_enter Try.func8, Try.ntmps8
  go_wp2_with fail
  refine cU.out.mono ?_
  rintro e w2 ⟨ra, rc, M, rfl, hlv, hlk, k2⟩
  have hMl : M.length ≤ 4000000000000 := by have := hlk.len; omega
  have s4 : w2.cell? ⟨q4, 0, none⟩ = some (.int .u64 since) := (HB.out.kept k2).get 0 _ rfl
  have K2 := hid (K1.out.trans k2 (by simp))
  have HL := hid hlv
  have HK : Hid (Like (chgF since M) (chgV l since ep)) := hid (chgF_like hlk since)
  rcases hlv.row with ⟨e, e2⟩ | ⟨g, o, cap, e, _⟩
  · have e' := Value.slice.inj e
    obtain ⟨rfl, _, rfl⟩ := e'
    subst e2
    have cD := hid (cDelNil 0 q4 since w2 s4)
    clear cU hlv hlk k2 hMl hlen e
    simp only [List.length_nil]
    go_wp2_with fail
    refine cD.out.mono ?_
    rintro e w3 ⟨rfl, k3⟩
    have K3 := hid (K2.out.trans k3 (by simp))
    clear cD k3
    go_wp2_with fail
    go_ret
    exact ⟨none, 0, [], rfl, Lvn.nil _ _, by simpa [chgF] using HK.out, K3.out⟩
  · have e' := Value.slice.inj e
    obtain ⟨rfl, _, rfl⟩ := e'
    have hg : w1.heap.size ≤ g := HL.out.own g (by simp [blk])
    have hqg : q4 ≠ g := by have := HQ.out; omega
    have cD := hid (cDelF g o rc q4 since M w2 HL.out.row s4 hqg hMl)
    clear cU hlv hlk k2 hMl hlen e hqg
    go_wp2_with fail
    refine cD.out.mono ?_
    rintro e w3 ⟨rfl, hrow, k3⟩
    have hrows : ∀ x ∈ chgF since M, VE.Row w3 (.slice x.a x.row.length x.c) x.row ∧ x.row.length * 40 ≤ 140737488355328 ∧ ∀ k ∈ blk x.a, w.heap.size ≤ k ∧ k ∉ blk (some (⟨g, o, none⟩ : Addr)) := fun x hm => by
      obtain ⟨r1, r2, r3⟩ := HL.out.rows x (beh_sub hm)
      exact ⟨r1.kept k3 (fun k hk => by rw [own_slice] at hk; have := (r3 k hk).2; simpa [blk] using this), r2, fun k hk => ⟨by have := (r3 k hk).1; have := HQ.out; omega, (r3 k hk).2⟩⟩
    have H := hid (And.intro hrow hrows)
    have K3 := hid (K2.out.trans k3 (fun x hx => .inr (by simp at hx; have := HQ.out; omega)))
    clear cD k3 hrow hrows
    go_wp2_with fail
    go_ret
    exact ⟨_, rc, chgF since M, rfl, ⟨H.out.1, H.out.2, fun k hk => by simp [blk] at hk; have := HQ.out; omega⟩, HK.out, K3.out⟩
/-- Values that a slice sees, in a row of their own. -/
theorem appNilV {W : World} (a2 : Option Addr) (c2 : Nat) (ys : List Val) (hs : VE.See W a2 ys) (hf : ys.length * 40 ≤ 140737488355328) :
    ∃ a' c' W', (Builtin.append_ #[27, 27] 27 #[.slice none 0 0, .slice a2 ys.length c2]).run Try.prog W = .ok (.slice a' ys.length c') W' ∧ VE.Row W' (.slice a' ys.length c') ys ∧ Kp [] W W' ∧ ∀ k ∈ blk a', W.heap.size ≤ k := by
  obtain ⟨i0, hi, hz0, hz1, hz2⟩ := infoV
  have hsrc := hs.src (P := Try.prog) Try.underlying27 c2
  obtain ⟨v6, X4, hrun2, hrow6, kk6, hn6⟩ := run_appendG (E := VE) (P := Try.prog) W 27 27 27 50 i0 _ 40 Try.underlying27 hi hz0 hz1 hz2 rfl (.slice none 0 0) [] (.inl ⟨rfl, rfl⟩) _ ys hsrc (by simp only [List.length_nil]; omega) (by simp only [List.length_nil]; omega)
  obtain ⟨a6, c6, rfl, _⟩ := hrow6.see
  simp only [own_slice, List.nil_append] at kk6 hn6 hrun2 hrow6
  exact ⟨a6, c6, X4, hrun2, hrow6, kk6.mono (by simp [blk]), fun k hk => by rcases hn6 k hk with e | e; simp [blk] at e; exact e⟩
end Go.Proofs.Ytebkkdoggagcdab
end

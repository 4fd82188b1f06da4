/- Versions given to a range: those at an epoch. -/
import Derived.Test.YtdjlefacdfdhmaaB6
import Derived.Scope
section
namespace Go.Proofs.Ytdjlefacdfdhmaa
open Go.RowKit Go.Hay
attribute [local go_sem] Oper.semAt_some
set_option linter.unusedVariables false
set_option linter.unusedSimpArgs false

set_option maxHeartbeats 16000000 in
set_option maxRecDepth 100000 in
theorem atSeq (d : Nat) (hd : 5 ≤ d) (q qe p : Nat) (e : Int) (a : Option Addr) (c : Nat) (l : List Vn) (w : World) (hA : AtT q p a c l w) (hE : w.cell? ⟨qe, 0, none⟩ = some (.int .u64 e)) :
    SeqX Fence.wide d Try.prog 28 #[.pointer (some ⟨q, 0, none⟩), .pointer (some ⟨qe, 0, none⟩)] encV (StepT (rowsB l ++ [qe]) l (fun x => if seenV e x = true then some (asV e x) else none)) StepX KeepT okT Sb.nx (fun s => s.made = true ∧ s.i = l.length ∧ s.v = none) (fun _ => True) (sT q p a l [qe]) w := by
  intro ly J Jx W hW hT hX hY h0
  have hAW := hA.kept (hW.js.sub (fun k hk => List.mem_append_right _ hk))
  have hEW := hW.js.cell (g := qe) (by simp) hE
  obtain ⟨W1, hW1⟩ : ∃ W1, W.alloc (.cells #[.func (.yield ly) #[] #[]] 68) = W1 := ⟨_, rfl⟩
  have k1 : Kp [] W W1 := by rw [← hW1]; exact (Kp.refl _ _).alloc _
  have by1 : W1.cell? ⟨W.heap.size, 0, none⟩ = some (.func (.yield ly) #[] #[]) := by rw [← hW1]; exact World.cell?_alloc_new W _ _ 0
  have hz1 : W.heap.size < W1.heap.size := by rw [← hW1]; simp
  have hq1 := kpAt k1 hAW.b1
  obtain ⟨W2, hW2⟩ : ∃ W2, W1.alloc (.cells #[.pointer (some ⟨p, 0, none⟩)] 23) = W2 := ⟨_, rfl⟩
  have k2 : Kp [] W1 W2 := by rw [← hW2]; exact (Kp.refl _ _).alloc _
  have bq2 : W2.cell? ⟨W1.heap.size, 0, none⟩ = some (.pointer (some ⟨p, 0, none⟩)) := by rw [← hW2]; exact World.cell?_alloc_new W1 _ _ 0
  have hz2 : W1.heap.size < W2.heap.size := by rw [← hW2]; simp
  have kW2 : Kp [] W W2 := k1.trans k2 (by simp)
  have by2 := kpAt k2 by1
  have hseq := nowSeq (d - 1) (by omega) W1.heap.size p a c l W2 bq2 (kpAt kW2 hAW.c0) (hAW.see.keptNew kW2) hAW.nil hAW.few
  have hok2 : Hid (∀ x ∈ l, VnOk W2 x) := fun x hx => (hAW.ok x hx).kept kW2
  have hplt : p < W.heap.size := World.block_lt_of_cell? _ _ hAW.c0
  have halt : ∀ k ∈ blk a, k < W.heap.size := hAW.lt
  have hcN := cNow p W1
  rw [hW2] at hcN
  refine callsIn_of_wp_marks Try.func28 rfl trivial ?_ rfl
  simp only [Try.ntmps28, List.size_toArray, List.length_cons, List.length_nil, Nat.reduceAdd, Nat.reduceSub, Array.replicate_succ, Array.replicate_zero, List.push_toArray, List.append_toArray, List.nil_append, List.cons_append]
  refine wpIn_wide.2 ?_
  have hE2 := hid (kpAt kW2 hEW)
  go_wp2_with fail
  refine wp_scope_straight (wp_seq (wp_label ?_))
  go_wp2_with fail
  refine hcN.mono ?_
  rintro e0 w2 ⟨rfl, hw2⟩
  rw [hw2]
  clear hw2 w2
  obtain ⟨B0, hB0⟩ : ∃ B0, Hid (B0 = W2.heap.size) := ⟨_, rfl⟩
  obtain ⟨js, hjs⟩ : ∃ js, Hid (js = W.heap.size :: W1.heap.size :: (rowsB l ++ [qe])) := ⟨_, rfl⟩
  have hJ2 : J ⟨true, B0, js, 0, none⟩ W2 := hT _ _ _ _ h0 ⟨TurnT.ofKp kW2, fun h => (by cases h), fun _ => ⟨rfl, by rw [hB0.out]; exact kW2.size, rfl⟩, fun j hj => by
    rw [hjs.out] at hj
    simp only [List.mem_cons] at hj
    rcases hj with rfl | rfl | hj
    · exact .inr ⟨Nat.le_refl _, by omega⟩
    · exact .inr ⟨by omega, by omega⟩
    · rcases List.mem_append.1 hj with hj | hj
      · exact .inl ⟨by simp [hj], .inr (List.mem_append_left _ hj)⟩
      · exact .inl ⟨by simp at hj; simp [hj], .inr (List.mem_append_right _ hj)⟩, Nat.le_refl _, fun k x h1 h2 => absurd h2 (Nat.not_lt_zero _), rfl, .inl rfl, .inl rfl⟩
  clear hcN hW1 hW2 hq1 by1
  go_wp2_with fail
  refine (wpIn_wide (n := d)).1 ?_
  refine wpRangeY rfl (by omega) (gf := 45) (lb := #[.pointer (some ⟨W1.heap.size, 0, none⟩)]) rfl trivial (enters_of Try.func45 (by kernel_rfl) rfl)
    (SeqS.toX (Tx := fun _ _ _ => False) hseq) (fun _ => rfl) KeepN.trans (fun s => KeepN.alloc _) (KeepN.refl _ _)
    (fun s W' => J ⟨true, B0, js ++ (if s.made = true then s.js else []), s.i, none⟩ W' ∧ W'.cell? ⟨W.heap.size, 0, none⟩ = some (.func (.yield ly) #[] #[]) ∧ W2.heap.size ≤ W'.heap.size ∧ (∀ x ∈ l, VnOk W' x) ∧ (s.made = false → s.js = W1.heap.size :: p :: blk a) ∧ (s.made = true → ∀ j ∈ s.js, W2.heap.size + 2 ≤ j) ∧ W'.cell? ⟨qe, 0, none⟩ = some (.int .u64 e))
    (fun c s W' => c = .ret ∧ (∀ j ∈ s.js, j ≠ W2.heap.size + 1) ∧ ∃ sb : Sb, sb.made = true ∧ sb.B0 = B0 ∧ Jx sb W')
    ?hI ?hIx ⟨by simpa using hJ2, by2, Nat.le_refl _, hok2.out, fun _ => rfl, fun h => (by cases h), hE2.out⟩
    (fun s s' A B h ht k o hk ho => (ht.kp.block k (Array.getElem?_eq_some_iff.1 ho).1 (by simp)).trans ho) (fun _ _ _ _ _ h => h.elim) ?hIT (fun _ _ _ _ _ h => h.elim)
    ?hKb ?hKc ?hKx
    (fun x => .cells #[.int .u64 x.ep, .int .u32 x.num, .slice x.a x.row.length x.c, .int .u64 x.del] 45)
    (fun x q3 => { tmps := #[.func (.yield ly) #[] #[], .pointer (some ⟨q, 0, none⟩), .pointer (some ⟨qe, 0, none⟩), .pointer (some ⟨W.heap.size, 0, none⟩), .pointer (some ⟨q3, 0, none⟩), .pointer (some ⟨p, 0, none⟩), .func (.func 45) #[] #[.pointer (some ⟨W1.heap.size, 0, none⟩)], .agg #[.int .u64 x.ep, .int .u32 x.num, .slice x.a x.row.length x.c, .int .u64 x.del], undef, undef, undef, undef, undef, undef, undef, undef, undef, undef], defers := [] }) ?assign ?body ?done ?stop
  case hI =>
    rintro s X Z row ⟨hJ, hc, hz, hk, hm1, hm2, hqe⟩ hg hr
    have ht : TurnT W2.heap.size X Z := TurnT.ofGrown hg hr
    exact ⟨hT _ _ _ _ hJ (StepT.same rfl rfl (by show TurnT B0 X Z; rw [hB0.out]; exact ht)), ht.ck.cell hc, Nat.le_trans hz ht.size, fun x hx => ht.ck.ok (hk x hx), hm1, hm2, ht.ck.cell hqe⟩
  case hIx =>
    rintro c s X Z row ⟨hc, hj, sb, hm, hs0, hJ⟩ hg hr
    exact ⟨hc, hj, sb, hm, hs0, hX _ _ _ hJ ⟨hm, by rw [hs0, hB0.out]; exact TurnT.ofGrown hg hr⟩⟩
  case hIT =>
    rintro s s' A B hz2' ⟨hJ, hc, hz, hk, hm1, hm2, hqe⟩ ht
    have hck := Ck.ofKp ht.kp
    cases hs : s.made with
    | true =>
      have e := ht.stays hs
      subst e
      exact ⟨hT _ _ _ _ hJ (StepT.same rfl rfl (TurnT.ofKp ht.kp)), hck.cell hc, Nat.le_trans hz ht.kp.size, fun x hx => hck.ok (hk x hx), hm1, hm2, hck.cell hqe⟩
    | false =>
      obtain ⟨m1, m2⟩ := ht.makes hs
      refine ⟨hT _ _ _ _ hJ ⟨TurnT.ofKp ht.kp, fun _ => ⟨rfl, rfl⟩, fun h => (by cases h), fun j hj => ?_, by simp only [ht.on]; exact Nat.le_refl _, fun k x h1 h2 => by simp only [ht.on] at h1 h2; omega, rfl, .inl rfl, .inl rfl⟩, hck.cell hc, Nat.le_trans hz ht.kp.size, fun x hx => hck.ok (hk x hx), fun h => (by rw [m1] at h; cases h), fun _ j hj => by have := m2 j hj; omega, hck.cell hqe⟩
      simp only [m1, if_true] at hj
      rcases List.mem_append.1 hj with h | h
      · exact .inl ⟨by simp [h], .inl rfl⟩
      · exact .inr (m2 j h)
  case hKb =>
    rintro s X o' ⟨hJ, hc, hz, hk, hm1, hm2, hqe⟩
    refine ⟨by simp, fun k hk' o'' h'' => (World.putObj_heap_other ?_).trans h''⟩
    cases hs : s.made with
    | true => have := hm2 hs k hk'; omega
    | false =>
      rw [hm1 hs] at hk'
      simp only [List.mem_cons] at hk'
      rcases hk' with rfl | rfl | hk'
      · omega
      · omega
      · have := halt k hk'; omega
  case hKc =>
    rintro s x X o' ⟨hJ, hc, hz, hk, hm1, hm2, hqe⟩
    refine ⟨by simp, fun k hk' o'' h'' => (World.putObj_heap_other ?_).trans h''⟩
    cases hs : s.made with
    | true => have := hm2 hs k hk'; omega
    | false =>
      have e : s.js = W1.heap.size :: p :: blk a := hm1 hs
      rw [e] at hk'
      simp only [List.mem_cons] at hk'
      rcases hk' with rfl | rfl | hk'
      · omega
      · omega
      · have := halt k hk'; omega
  case hKx =>
    rintro c s x X o' ⟨_, hj, _⟩
    exact ⟨by simp, fun k hk' o'' h'' => (World.putObj_heap_other (hj k hk')).trans h''⟩
  case assign =>
    intro l x W C hC
    gi_wp2_with fail
    exact hC
  case body =>
    rintro lr s x A q3 ⟨hJ, hy, hz, hk, hm1, hm2, hqe⟩ ⟨hmd, hx⟩ hob hq3
    have hxl : x ∈ l := List.mem_of_getElem? hx
    have hbx : ∀ z : Nat, A.cell? ⟨q3, z, none⟩ = (#[.int .u64 x.ep, .int .u32 x.num, .slice x.a x.row.length x.c, .int .u64 x.del] : Array Value)[z]? := fun z => by
      unfold World.cell?
      simp [hob]
    have kd : Kp [] A A.drew := (Kp.refl _ _).drew
    have hokx := hk x hxl
    have hskip : Hid (seenV e x = false → J ⟨true, B0, js ++ (if (s.nx x).made = true then (s.nx x).js else []), (s.nx x).i, none⟩ A) := fun hns => hT _ _ A A hJ ⟨TurnT.ofKp (Kp.refl _ _), fun _ => ⟨rfl, rfl⟩, fun h => (by cases h), fun j hj => .inl ⟨hj, .inl rfl⟩, Nat.le_succ _, fun k y h1 h2 hy' => by
      have ek : k = s.i := by simp only [Sn.nx] at h1 h2; omega
      rw [ek, hx] at hy'
      cases hy'
      exact if_neg (by rw [hns]; simp), rfl, .inl rfl, .inl rfl⟩
    have cS := cSeen x e A
    unfold Vn.v at cS
    have v0 := hbx 0; have v1 := hbx 1; have v2 := hbx 2; have v3 := hbx 3
    by_cases hseen : seenV e x = true
    · have hgiv : Hid (∀ x1 a2 c2, VE.Row x1 (.slice a2 (asV e x).row.length c2) (asV e x).row → (∀ k ∈ blk a2, A.heap.size ≤ k) → Giv A x1 { (asV e x) with a := a2, c := c2 } (asV e x)) := fun x1 a2 c2 h1 h2 => ⟨rfl, h1, h2, (show (asV e x).row.length * 40 ≤ 140737488355328 by rw [show (asV e x).row = x.row by unfold asV; split <;> rfl]; exact hokx.few)⟩
      obtain ⟨jk, hjk⟩ : ∃ jk, Hid (js ++ (if s.made = true then s.js else []) = jk) := ⟨_, rfl⟩
      rw [hjk.out] at hJ
      have hjs2 : ∀ j ∈ s.js, j ∈ jk := fun j hj => by rw [← hjk.out, if_pos hmd]; exact List.mem_append_right _ hj
      have hjs1 : ∀ j ∈ js, j ∈ jk := fun j hj => by rw [← hjk.out]; exact List.mem_append_left _ hj
      have hjne : Hid (∀ j ∈ (s.nx x).js, j ≠ W2.heap.size + 1) := fun j hj => by have := hm2 hmd j hj; omega
      have hjkx : Hid (jk = js ++ (if (s.nx x).made = true then (s.nx x).js else [])) := by show _ = _; rw [← hjk.out]; rfl
      have hgive : Hid (∀ x1 a2 c2, Kp [] A x1 → VE.Row x1 (.slice a2 (asV e x).row.length c2) (asV e x).row → (∀ k ∈ blk a2, A.heap.size ≤ k) → YieldAt Fence.wide (d - 1) Try.prog ly #[.agg #[.int .u64 (asV e x).ep, .int .u32 (asV e x).num, .slice a2 (asV e x).row.length c2, .int .u64 (asV e x).del]] x1 fun r A' => (r = .returned (.bool true) ∧ J ⟨true, B0, jk, (s.nx x).i, none⟩ A' ∧ KeepT ⟨true, B0, jk, s.i, some { (asV e x) with a := a2, c := c2 }⟩ x1 A') ∨ (r = .returned (.bool false) ∧ Jx ⟨true, B0, jk, (s.nx x).i, none⟩ A' ∧ KeepT ⟨true, B0, jk, s.i, some { (asV e x) with a := a2, c := c2 }⟩ x1 A')) := fun x1 a2 c2 kx hr hn => by
        have hJy : J ⟨true, B0, jk, s.i, some { (asV e x) with a := a2, c := c2 }⟩ x1 := hT _ _ A x1 hJ ⟨TurnT.ofKp kx, fun _ => ⟨rfl, rfl⟩, fun h => (by cases h), fun j hj => .inl ⟨hj, .inl rfl⟩, Nat.le_refl _, fun k x h1 h2 => by simp only at h1 h2; omega, rfl, .inr ⟨_, _, _, rfl, hx, (if_pos hseen), hgiv.out x1 a2 c2 hr hn⟩, .inr rfl⟩
        exact hY _ { (asV e x) with a := a2, c := c2 } x1 hJy rfl
      have kf : Hid (∀ x1 A2 y, Kp [] A x1 → KeepT ⟨true, B0, jk, s.i, some y⟩ x1 A2 → KeepsFrom W2.heap.size A A2 ∧ KeepN s.js A A2 ∧ A2.cell? ⟨W.heap.size, 0, none⟩ = some (.func (.yield ly) #[] #[]) ∧ W2.heap.size ≤ A2.heap.size ∧ (∀ x ∈ l, VnOk A2 x) ∧ A2.cell? ⟨qe, 0, none⟩ = some (.int .u64 e)) := fun x1 A2 y kx hk3 => by
        have h1 := KeepN.ofKp (Js := jk) kx (by simp)
        have h2 : KeepN jk A A2 := h1.trans hk3.js
        refine ⟨⟨h2.1, fun k o hk' ho hc => ?_⟩, h2.sub hjs2, h2.cell (hjs1 _ (by rw [hjs.out]; simp)) hy, Nat.le_trans hz h2.1, fun x hx => h2.ok (hk x hx) (fun k hk' => hjs1 _ (by rw [hjs.out]; simp only [List.mem_cons]; exact .inr (.inr (List.mem_append_left _ (mem_rowsB.2 ⟨x, hx, hk'⟩))))), h2.cell (hjs1 _ (by rw [hjs.out]; simp)) hqe⟩
        have e1 : x1.heap[k]? = some o := (kx.block k (Array.getElem?_eq_some_iff.1 ho).1 (by simp)).trans ho
        exact hk3.recs rfl k o (by simp only; rw [hB0.out]; exact hk') e1 hc
      have cC : ∀ X, Kp [] A X → Calls Try.prog 30 #[.agg #[.int .u64 x.ep, .int .u32 x.num, .slice x.a x.row.length x.c, .int .u64 x.del], .int .u64 e] X (CopP (asV e x) X) := fun X kX => cAs x X (hokx.kept kX) e
      unfold CopP at cC
      rw [hseen] at cS
      have hzA := hid (fun X (kX : Kp [] A X) => kX.size)
      generalize asV e x = z at *
      obtain ⟨ze, zn, za, zc, zr, zd⟩ := z
      obtain ⟨ep, num, xa, xc, row, del⟩ := x
      dsimp only at cC cS hgive v0 v1 v2 v3 hjkx hjne ⊢
      have hlt3 : q3 < A.heap.size := World.block_lt_of_cell? _ _ v0
      clear hJ hob hbx hx hokx kd hgiv hjs2 hjs1 hskip
      gi_wp2_with fail
      refine ⟨trivial, fun _ => by omega, (CallsIn.inRound lr (callsIn_wide.2 cS)).mono ?_⟩
      rintro e1 AS ⟨rfl, kS⟩
      have hyS := kpAt kS hy
      have heS := kpAt kS hqe
      have w0 := kpAt kS v0; have w1 := kpAt kS v1; have w2 := kpAt kS v2; have w3 := kpAt kS v3
      have Ywd : AS.drew.cell? ⟨W.heap.size, 0, none⟩ = some (.func (.yield ly) #[] #[]) := hyS
      have Ewd : AS.drew.cell? ⟨qe, 0, none⟩ = some (.int .u64 e) := heS
      have V0 : AS.drew.cell? ⟨q3, 0, none⟩ = some (.int .u64 ep) := w0
      have V1 : AS.drew.cell? ⟨q3, 1, none⟩ = some (.int .u32 num) := w1
      have V2 : AS.drew.cell? ⟨q3, 2, none⟩ = some (.slice xa row.length xc) := w2
      have V3 : AS.drew.cell? ⟨q3, 3, none⟩ = some (.int .u64 del) := w3
      have Kwd : Kp [] A AS.drew := kS.drew
      clear cS hyS heS w0 w1 w2 w3 v0 v1 v2 v3
      gi_wp2_with fail
      refine wpIn_region_any (by kernel_rfl) ?_
      (try change wpAnyIn _ _ _ _ _ _ _ _ _ (World.drew _))
      generalize AS.drew = wd at *
      refine wpAnyIn_ready (rs := [0, 1, 2]) (by kernel_rfl) (by simp) ?_
      refine AllReadyIn.cons rfl (fun K hK => ?_) (AllReadyIn.cons rfl (fun K hK => ?_) (AllReadyIn.cons rfl (fun K hK => ?_) AllReadyIn.nil))
      · go_simp
        refine hK _ _ ?_
        clear hK K
        try simp only [Act.put, List.getElem_toArray, List.getElem_cons_zero, List.getElem_cons_succ, List.setIfInBounds_toArray, List.set_cons_zero, List.set_cons_succ]
        refine wpAnyIn_ready (rs := [1, 2]) (by kernel_rfl) (by simp) ?_
        refine AllReadyIn.cons rfl (fun K hK => ?_) (AllReadyIn.cons rfl (fun K hK => ?_) AllReadyIn.nil)
        · go_simp
          refine hK _ _ ?_
          clear hK K
          try simp only [Act.put, List.getElem_toArray, List.getElem_cons_zero, List.getElem_cons_succ, List.setIfInBounds_toArray, List.set_cons_zero, List.set_cons_succ]
          refine wpAnyIn_ready (rs := [2]) (by kernel_rfl) (by simp) ?_
          refine AllReadyIn.cons rfl (fun K hK => ?_) AllReadyIn.nil
          go_simp
          refine hK _ _ ?_
          clear hK K
          try simp only [Act.put, List.getElem_toArray, List.getElem_cons_zero, List.getElem_cons_succ, List.setIfInBounds_toArray, List.set_cons_zero, List.set_cons_succ]
          refine wpAnyIn_ready (rs := [3]) (by kernel_rfl) (by simp) ?_
          refine AllReadyIn.cons rfl (fun K hK => ?_) AllReadyIn.nil
          go_simp
          refine ⟨trivial, fun _ => by omega, (CallsIn.inRound lr (callsIn_wide.2 (cC _ Kwd))).mono ?_⟩
          rintro e1 x1 ⟨a2, c2, rfl, hr1, kx1, hn1⟩
          refine hK _ _ ?_
          clear hK K
          try simp only [Act.put, List.getElem_toArray, List.getElem_cons_zero, List.getElem_cons_succ, List.setIfInBounds_toArray, List.set_cons_zero, List.set_cons_succ]
          have Yx1 := kpAt kx1 Ywd
          have Kx1 := Kwd.trans kx1 (by simp)
          have hn2 : ∀ k ∈ blk a2, A.heap.size ≤ k := fun k hk => Nat.le_trans (hzA.out _ Kwd) (hn1 k hk)
          refine wpAnyIn_ready (rs := [4]) (by kernel_rfl) (by simp) ?_
          refine AllReadyIn.cons rfl (fun K hK => ?_) AllReadyIn.nil
          obtain ⟨fn, tmps, assign, body, hyl, hR⟩ := hgive.out x1 a2 c2 Kx1 hr1 hn2
          have hR' : RoundIn (Fence.wide.inRound lr) (d - 1 - 1 - 1) Try.prog ly fn tmps assign body x1 _ := RoundIn.anyDepth (F := Fence.wide.inRound lr) rfl hR
          go_simp
          refine ⟨fun _ => by omega, hR'.mono ?_⟩
          clear hR hyl
          rintro e2 A2 (⟨rfl, hJ3, hk3⟩ | ⟨rfl, hJ3, hk3⟩)
          · refine hK _ _ ?_
            clear hK K
            try simp only [Act.put, List.getElem_toArray, List.getElem_cons_zero, List.getElem_cons_succ, List.setIfInBounds_toArray, List.set_cons_zero, List.set_cons_succ]
            obtain ⟨f1, f2, f3, f4, f5, f6⟩ := kf.out x1 A2 _ Kx1 hk3
            refine wpAnyIn_ready (rs := [5]) (by kernel_rfl) (by simp) ?_
            refine AllReadyIn.cons rfl (fun K hK => ?_) AllReadyIn.nil
            go_simp
            refine hK _ _ ?_
            clear hK K
            try simp only [Act.put, List.getElem_toArray, List.getElem_cons_zero, List.getElem_cons_succ, List.setIfInBounds_toArray, List.set_cons_zero, List.set_cons_succ]
            refine wpAnyIn_done (by kernel_rfl) ?_ _
            gi_wp2_with fail
            exact ⟨f1, f2, hjkx.out ▸ hJ3, f3, f4, f5, hm1, hm2, f6⟩
          · refine hK _ _ ?_
            clear hK K
            try simp only [Act.put, List.getElem_toArray, List.getElem_cons_zero, List.getElem_cons_succ, List.setIfInBounds_toArray, List.set_cons_zero, List.set_cons_succ]
            obtain ⟨f1, f2, f3, f4, f5, f6⟩ := kf.out x1 A2 _ Kx1 hk3
            refine wpAnyIn_ready (rs := [5]) (by kernel_rfl) (by simp) ?_
            refine AllReadyIn.cons rfl (fun K hK => ?_) AllReadyIn.nil
            go_simp
            refine hK _ _ ?_
            clear hK K
            try simp only [Act.put, List.getElem_toArray, List.getElem_cons_zero, List.getElem_cons_succ, List.setIfInBounds_toArray, List.set_cons_zero, List.set_cons_succ]
            refine wpAnyIn_done (by kernel_rfl) ?_ _
            gi_wp2_with fail
            exact ⟨f1, f2, rfl, hjne.out, _, rfl, rfl, hJ3⟩
        · go_simp
          refine hK _ _ ?_
          clear hK K
          try simp only [Act.put, List.getElem_toArray, List.getElem_cons_zero, List.getElem_cons_succ, List.setIfInBounds_toArray, List.set_cons_zero, List.set_cons_succ]
          refine wpAnyIn_ready (rs := [1]) (by kernel_rfl) (by simp) ?_
          refine AllReadyIn.cons rfl (fun K hK => ?_) AllReadyIn.nil
          go_simp
          refine hK _ _ ?_
          clear hK K
          try simp only [Act.put, List.getElem_toArray, List.getElem_cons_zero, List.getElem_cons_succ, List.setIfInBounds_toArray, List.set_cons_zero, List.set_cons_succ]
          refine wpAnyIn_ready (rs := [3]) (by kernel_rfl) (by simp) ?_
          refine AllReadyIn.cons rfl (fun K hK => ?_) AllReadyIn.nil
          go_simp
          refine ⟨trivial, fun _ => by omega, (CallsIn.inRound lr (callsIn_wide.2 (cC _ Kwd))).mono ?_⟩
          rintro e1 x1 ⟨a2, c2, rfl, hr1, kx1, hn1⟩
          refine hK _ _ ?_
          clear hK K
          try simp only [Act.put, List.getElem_toArray, List.getElem_cons_zero, List.getElem_cons_succ, List.setIfInBounds_toArray, List.set_cons_zero, List.set_cons_succ]
          have Yx1 := kpAt kx1 Ywd
          have Kx1 := Kwd.trans kx1 (by simp)
          have hn2 : ∀ k ∈ blk a2, A.heap.size ≤ k := fun k hk => Nat.le_trans (hzA.out _ Kwd) (hn1 k hk)
          refine wpAnyIn_ready (rs := [4]) (by kernel_rfl) (by simp) ?_
          refine AllReadyIn.cons rfl (fun K hK => ?_) AllReadyIn.nil
          obtain ⟨fn, tmps, assign, body, hyl, hR⟩ := hgive.out x1 a2 c2 Kx1 hr1 hn2
          have hR' : RoundIn (Fence.wide.inRound lr) (d - 1 - 1 - 1) Try.prog ly fn tmps assign body x1 _ := RoundIn.anyDepth (F := Fence.wide.inRound lr) rfl hR
          go_simp
          refine ⟨fun _ => by omega, hR'.mono ?_⟩
          clear hR hyl
          rintro e2 A2 (⟨rfl, hJ3, hk3⟩ | ⟨rfl, hJ3, hk3⟩)
          · refine hK _ _ ?_
            clear hK K
            try simp only [Act.put, List.getElem_toArray, List.getElem_cons_zero, List.getElem_cons_succ, List.setIfInBounds_toArray, List.set_cons_zero, List.set_cons_succ]
            obtain ⟨f1, f2, f3, f4, f5, f6⟩ := kf.out x1 A2 _ Kx1 hk3
            refine wpAnyIn_ready (rs := [5]) (by kernel_rfl) (by simp) ?_
            refine AllReadyIn.cons rfl (fun K hK => ?_) AllReadyIn.nil
            go_simp
            refine hK _ _ ?_
            clear hK K
            try simp only [Act.put, List.getElem_toArray, List.getElem_cons_zero, List.getElem_cons_succ, List.setIfInBounds_toArray, List.set_cons_zero, List.set_cons_succ]
            refine wpAnyIn_done (by kernel_rfl) ?_ _
            gi_wp2_with fail
            exact ⟨f1, f2, hjkx.out ▸ hJ3, f3, f4, f5, hm1, hm2, f6⟩
          · refine hK _ _ ?_
            clear hK K
            try simp only [Act.put, List.getElem_toArray, List.getElem_cons_zero, List.getElem_cons_succ, List.setIfInBounds_toArray, List.set_cons_zero, List.set_cons_succ]
            obtain ⟨f1, f2, f3, f4, f5, f6⟩ := kf.out x1 A2 _ Kx1 hk3
            refine wpAnyIn_ready (rs := [5]) (by kernel_rfl) (by simp) ?_
            refine AllReadyIn.cons rfl (fun K hK => ?_) AllReadyIn.nil
            go_simp
            refine hK _ _ ?_
            clear hK K
            try simp only [Act.put, List.getElem_toArray, List.getElem_cons_zero, List.getElem_cons_succ, List.setIfInBounds_toArray, List.set_cons_zero, List.set_cons_succ]
            refine wpAnyIn_done (by kernel_rfl) ?_ _
            gi_wp2_with fail
            exact ⟨f1, f2, rfl, hjne.out, _, rfl, rfl, hJ3⟩
      · go_simp
        refine hK _ _ ?_
        clear hK K
        try simp only [Act.put, List.getElem_toArray, List.getElem_cons_zero, List.getElem_cons_succ, List.setIfInBounds_toArray, List.set_cons_zero, List.set_cons_succ]
        refine wpAnyIn_ready (rs := [0, 2]) (by kernel_rfl) (by simp) ?_
        refine AllReadyIn.cons rfl (fun K hK => ?_) (AllReadyIn.cons rfl (fun K hK => ?_) AllReadyIn.nil)
        · go_simp
          refine hK _ _ ?_
          clear hK K
          try simp only [Act.put, List.getElem_toArray, List.getElem_cons_zero, List.getElem_cons_succ, List.setIfInBounds_toArray, List.set_cons_zero, List.set_cons_succ]
          refine wpAnyIn_ready (rs := [2]) (by kernel_rfl) (by simp) ?_
          refine AllReadyIn.cons rfl (fun K hK => ?_) AllReadyIn.nil
          go_simp
          refine hK _ _ ?_
          clear hK K
          try simp only [Act.put, List.getElem_toArray, List.getElem_cons_zero, List.getElem_cons_succ, List.setIfInBounds_toArray, List.set_cons_zero, List.set_cons_succ]
          refine wpAnyIn_ready (rs := [3]) (by kernel_rfl) (by simp) ?_
          refine AllReadyIn.cons rfl (fun K hK => ?_) AllReadyIn.nil
          go_simp
          refine ⟨trivial, fun _ => by omega, (CallsIn.inRound lr (callsIn_wide.2 (cC _ Kwd))).mono ?_⟩
          rintro e1 x1 ⟨a2, c2, rfl, hr1, kx1, hn1⟩
          refine hK _ _ ?_
          clear hK K
          try simp only [Act.put, List.getElem_toArray, List.getElem_cons_zero, List.getElem_cons_succ, List.setIfInBounds_toArray, List.set_cons_zero, List.set_cons_succ]
          have Yx1 := kpAt kx1 Ywd
          have Kx1 := Kwd.trans kx1 (by simp)
          have hn2 : ∀ k ∈ blk a2, A.heap.size ≤ k := fun k hk => Nat.le_trans (hzA.out _ Kwd) (hn1 k hk)
          refine wpAnyIn_ready (rs := [4]) (by kernel_rfl) (by simp) ?_
          refine AllReadyIn.cons rfl (fun K hK => ?_) AllReadyIn.nil
          obtain ⟨fn, tmps, assign, body, hyl, hR⟩ := hgive.out x1 a2 c2 Kx1 hr1 hn2
          have hR' : RoundIn (Fence.wide.inRound lr) (d - 1 - 1 - 1) Try.prog ly fn tmps assign body x1 _ := RoundIn.anyDepth (F := Fence.wide.inRound lr) rfl hR
          go_simp
          refine ⟨fun _ => by omega, hR'.mono ?_⟩
          clear hR hyl
          rintro e2 A2 (⟨rfl, hJ3, hk3⟩ | ⟨rfl, hJ3, hk3⟩)
          · refine hK _ _ ?_
            clear hK K
            try simp only [Act.put, List.getElem_toArray, List.getElem_cons_zero, List.getElem_cons_succ, List.setIfInBounds_toArray, List.set_cons_zero, List.set_cons_succ]
            obtain ⟨f1, f2, f3, f4, f5, f6⟩ := kf.out x1 A2 _ Kx1 hk3
            refine wpAnyIn_ready (rs := [5]) (by kernel_rfl) (by simp) ?_
            refine AllReadyIn.cons rfl (fun K hK => ?_) AllReadyIn.nil
            go_simp
            refine hK _ _ ?_
            clear hK K
            try simp only [Act.put, List.getElem_toArray, List.getElem_cons_zero, List.getElem_cons_succ, List.setIfInBounds_toArray, List.set_cons_zero, List.set_cons_succ]
            refine wpAnyIn_done (by kernel_rfl) ?_ _
            gi_wp2_with fail
            exact ⟨f1, f2, hjkx.out ▸ hJ3, f3, f4, f5, hm1, hm2, f6⟩
          · refine hK _ _ ?_
            clear hK K
            try simp only [Act.put, List.getElem_toArray, List.getElem_cons_zero, List.getElem_cons_succ, List.setIfInBounds_toArray, List.set_cons_zero, List.set_cons_succ]
            obtain ⟨f1, f2, f3, f4, f5, f6⟩ := kf.out x1 A2 _ Kx1 hk3
            refine wpAnyIn_ready (rs := [5]) (by kernel_rfl) (by simp) ?_
            refine AllReadyIn.cons rfl (fun K hK => ?_) AllReadyIn.nil
            go_simp
            refine hK _ _ ?_
            clear hK K
            try simp only [Act.put, List.getElem_toArray, List.getElem_cons_zero, List.getElem_cons_succ, List.setIfInBounds_toArray, List.set_cons_zero, List.set_cons_succ]
            refine wpAnyIn_done (by kernel_rfl) ?_ _
            gi_wp2_with fail
            exact ⟨f1, f2, rfl, hjne.out, _, rfl, rfl, hJ3⟩
        · go_simp
          refine hK _ _ ?_
          clear hK K
          try simp only [Act.put, List.getElem_toArray, List.getElem_cons_zero, List.getElem_cons_succ, List.setIfInBounds_toArray, List.set_cons_zero, List.set_cons_succ]
          refine wpAnyIn_ready (rs := [0, 3]) (by kernel_rfl) (by simp) ?_
          refine AllReadyIn.cons rfl (fun K hK => ?_) (AllReadyIn.cons rfl (fun K hK => ?_) AllReadyIn.nil)
          · go_simp
            refine hK _ _ ?_
            clear hK K
            try simp only [Act.put, List.getElem_toArray, List.getElem_cons_zero, List.getElem_cons_succ, List.setIfInBounds_toArray, List.set_cons_zero, List.set_cons_succ]
            refine wpAnyIn_ready (rs := [3]) (by kernel_rfl) (by simp) ?_
            refine AllReadyIn.cons rfl (fun K hK => ?_) AllReadyIn.nil
            go_simp
            refine ⟨trivial, fun _ => by omega, (CallsIn.inRound lr (callsIn_wide.2 (cC _ Kwd))).mono ?_⟩
            rintro e1 x1 ⟨a2, c2, rfl, hr1, kx1, hn1⟩
            refine hK _ _ ?_
            clear hK K
            try simp only [Act.put, List.getElem_toArray, List.getElem_cons_zero, List.getElem_cons_succ, List.setIfInBounds_toArray, List.set_cons_zero, List.set_cons_succ]
            have Yx1 := kpAt kx1 Ywd
            have Kx1 := Kwd.trans kx1 (by simp)
            have hn2 : ∀ k ∈ blk a2, A.heap.size ≤ k := fun k hk => Nat.le_trans (hzA.out _ Kwd) (hn1 k hk)
            refine wpAnyIn_ready (rs := [4]) (by kernel_rfl) (by simp) ?_
            refine AllReadyIn.cons rfl (fun K hK => ?_) AllReadyIn.nil
            obtain ⟨fn, tmps, assign, body, hyl, hR⟩ := hgive.out x1 a2 c2 Kx1 hr1 hn2
            have hR' : RoundIn (Fence.wide.inRound lr) (d - 1 - 1 - 1) Try.prog ly fn tmps assign body x1 _ := RoundIn.anyDepth (F := Fence.wide.inRound lr) rfl hR
            go_simp
            refine ⟨fun _ => by omega, hR'.mono ?_⟩
            clear hR hyl
            rintro e2 A2 (⟨rfl, hJ3, hk3⟩ | ⟨rfl, hJ3, hk3⟩)
            · refine hK _ _ ?_
              clear hK K
              try simp only [Act.put, List.getElem_toArray, List.getElem_cons_zero, List.getElem_cons_succ, List.setIfInBounds_toArray, List.set_cons_zero, List.set_cons_succ]
              obtain ⟨f1, f2, f3, f4, f5, f6⟩ := kf.out x1 A2 _ Kx1 hk3
              refine wpAnyIn_ready (rs := [5]) (by kernel_rfl) (by simp) ?_
              refine AllReadyIn.cons rfl (fun K hK => ?_) AllReadyIn.nil
              go_simp
              refine hK _ _ ?_
              clear hK K
              try simp only [Act.put, List.getElem_toArray, List.getElem_cons_zero, List.getElem_cons_succ, List.setIfInBounds_toArray, List.set_cons_zero, List.set_cons_succ]
              refine wpAnyIn_done (by kernel_rfl) ?_ _
              gi_wp2_with fail
              exact ⟨f1, f2, hjkx.out ▸ hJ3, f3, f4, f5, hm1, hm2, f6⟩
            · refine hK _ _ ?_
              clear hK K
              try simp only [Act.put, List.getElem_toArray, List.getElem_cons_zero, List.getElem_cons_succ, List.setIfInBounds_toArray, List.set_cons_zero, List.set_cons_succ]
              obtain ⟨f1, f2, f3, f4, f5, f6⟩ := kf.out x1 A2 _ Kx1 hk3
              refine wpAnyIn_ready (rs := [5]) (by kernel_rfl) (by simp) ?_
              refine AllReadyIn.cons rfl (fun K hK => ?_) AllReadyIn.nil
              go_simp
              refine hK _ _ ?_
              clear hK K
              try simp only [Act.put, List.getElem_toArray, List.getElem_cons_zero, List.getElem_cons_succ, List.setIfInBounds_toArray, List.set_cons_zero, List.set_cons_succ]
              refine wpAnyIn_done (by kernel_rfl) ?_ _
              gi_wp2_with fail
              exact ⟨f1, f2, rfl, hjne.out, _, rfl, rfl, hJ3⟩
          · go_simp
            refine ⟨trivial, fun _ => by omega, (CallsIn.inRound lr (callsIn_wide.2 (cC _ Kwd))).mono ?_⟩
            rintro e1 x1 ⟨a2, c2, rfl, hr1, kx1, hn1⟩
            refine hK _ _ ?_
            clear hK K
            try simp only [Act.put, List.getElem_toArray, List.getElem_cons_zero, List.getElem_cons_succ, List.setIfInBounds_toArray, List.set_cons_zero, List.set_cons_succ]
            have Yx1 := kpAt kx1 Ywd
            have Kx1 := Kwd.trans kx1 (by simp)
            have hn2 : ∀ k ∈ blk a2, A.heap.size ≤ k := fun k hk => Nat.le_trans (hzA.out _ Kwd) (hn1 k hk)
            refine wpAnyIn_ready (rs := [0]) (by kernel_rfl) (by simp) ?_
            refine AllReadyIn.cons rfl (fun K hK => ?_) AllReadyIn.nil
            go_simp
            refine hK _ _ ?_
            clear hK K
            try simp only [Act.put, List.getElem_toArray, List.getElem_cons_zero, List.getElem_cons_succ, List.setIfInBounds_toArray, List.set_cons_zero, List.set_cons_succ]
            refine wpAnyIn_ready (rs := [4]) (by kernel_rfl) (by simp) ?_
            refine AllReadyIn.cons rfl (fun K hK => ?_) AllReadyIn.nil
            obtain ⟨fn, tmps, assign, body, hyl, hR⟩ := hgive.out x1 a2 c2 Kx1 hr1 hn2
            have hR' : RoundIn (Fence.wide.inRound lr) (d - 1 - 1 - 1) Try.prog ly fn tmps assign body x1 _ := RoundIn.anyDepth (F := Fence.wide.inRound lr) rfl hR
            go_simp
            refine ⟨fun _ => by omega, hR'.mono ?_⟩
            clear hR hyl
            rintro e2 A2 (⟨rfl, hJ3, hk3⟩ | ⟨rfl, hJ3, hk3⟩)
            · refine hK _ _ ?_
              clear hK K
              try simp only [Act.put, List.getElem_toArray, List.getElem_cons_zero, List.getElem_cons_succ, List.setIfInBounds_toArray, List.set_cons_zero, List.set_cons_succ]
              obtain ⟨f1, f2, f3, f4, f5, f6⟩ := kf.out x1 A2 _ Kx1 hk3
              refine wpAnyIn_ready (rs := [5]) (by kernel_rfl) (by simp) ?_
              refine AllReadyIn.cons rfl (fun K hK => ?_) AllReadyIn.nil
              go_simp
              refine hK _ _ ?_
              clear hK K
              try simp only [Act.put, List.getElem_toArray, List.getElem_cons_zero, List.getElem_cons_succ, List.setIfInBounds_toArray, List.set_cons_zero, List.set_cons_succ]
              refine wpAnyIn_done (by kernel_rfl) ?_ _
              gi_wp2_with fail
              exact ⟨f1, f2, hjkx.out ▸ hJ3, f3, f4, f5, hm1, hm2, f6⟩
            · refine hK _ _ ?_
              clear hK K
              try simp only [Act.put, List.getElem_toArray, List.getElem_cons_zero, List.getElem_cons_succ, List.setIfInBounds_toArray, List.set_cons_zero, List.set_cons_succ]
              obtain ⟨f1, f2, f3, f4, f5, f6⟩ := kf.out x1 A2 _ Kx1 hk3
              refine wpAnyIn_ready (rs := [5]) (by kernel_rfl) (by simp) ?_
              refine AllReadyIn.cons rfl (fun K hK => ?_) AllReadyIn.nil
              go_simp
              refine hK _ _ ?_
              clear hK K
              try simp only [Act.put, List.getElem_toArray, List.getElem_cons_zero, List.getElem_cons_succ, List.setIfInBounds_toArray, List.set_cons_zero, List.set_cons_succ]
              refine wpAnyIn_done (by kernel_rfl) ?_ _
              gi_wp2_with fail
              exact ⟨f1, f2, rfl, hjne.out, _, rfl, rfl, hJ3⟩
      · go_simp
        refine hK _ _ ?_
        clear hK K
        try simp only [Act.put, List.getElem_toArray, List.getElem_cons_zero, List.getElem_cons_succ, List.setIfInBounds_toArray, List.set_cons_zero, List.set_cons_succ]
        refine wpAnyIn_ready (rs := [0, 1]) (by kernel_rfl) (by simp) ?_
        refine AllReadyIn.cons rfl (fun K hK => ?_) (AllReadyIn.cons rfl (fun K hK => ?_) AllReadyIn.nil)
        · go_simp
          refine hK _ _ ?_
          clear hK K
          try simp only [Act.put, List.getElem_toArray, List.getElem_cons_zero, List.getElem_cons_succ, List.setIfInBounds_toArray, List.set_cons_zero, List.set_cons_succ]
          refine wpAnyIn_ready (rs := [1]) (by kernel_rfl) (by simp) ?_
          refine AllReadyIn.cons rfl (fun K hK => ?_) AllReadyIn.nil
          go_simp
          refine hK _ _ ?_
          clear hK K
          try simp only [Act.put, List.getElem_toArray, List.getElem_cons_zero, List.getElem_cons_succ, List.setIfInBounds_toArray, List.set_cons_zero, List.set_cons_succ]
          refine wpAnyIn_ready (rs := [3]) (by kernel_rfl) (by simp) ?_
          refine AllReadyIn.cons rfl (fun K hK => ?_) AllReadyIn.nil
          go_simp
          refine ⟨trivial, fun _ => by omega, (CallsIn.inRound lr (callsIn_wide.2 (cC _ Kwd))).mono ?_⟩
          rintro e1 x1 ⟨a2, c2, rfl, hr1, kx1, hn1⟩
          refine hK _ _ ?_
          clear hK K
          try simp only [Act.put, List.getElem_toArray, List.getElem_cons_zero, List.getElem_cons_succ, List.setIfInBounds_toArray, List.set_cons_zero, List.set_cons_succ]
          have Yx1 := kpAt kx1 Ywd
          have Kx1 := Kwd.trans kx1 (by simp)
          have hn2 : ∀ k ∈ blk a2, A.heap.size ≤ k := fun k hk => Nat.le_trans (hzA.out _ Kwd) (hn1 k hk)
          refine wpAnyIn_ready (rs := [4]) (by kernel_rfl) (by simp) ?_
          refine AllReadyIn.cons rfl (fun K hK => ?_) AllReadyIn.nil
          obtain ⟨fn, tmps, assign, body, hyl, hR⟩ := hgive.out x1 a2 c2 Kx1 hr1 hn2
          have hR' : RoundIn (Fence.wide.inRound lr) (d - 1 - 1 - 1) Try.prog ly fn tmps assign body x1 _ := RoundIn.anyDepth (F := Fence.wide.inRound lr) rfl hR
          go_simp
          refine ⟨fun _ => by omega, hR'.mono ?_⟩
          clear hR hyl
          rintro e2 A2 (⟨rfl, hJ3, hk3⟩ | ⟨rfl, hJ3, hk3⟩)
          · refine hK _ _ ?_
            clear hK K
            try simp only [Act.put, List.getElem_toArray, List.getElem_cons_zero, List.getElem_cons_succ, List.setIfInBounds_toArray, List.set_cons_zero, List.set_cons_succ]
            obtain ⟨f1, f2, f3, f4, f5, f6⟩ := kf.out x1 A2 _ Kx1 hk3
            refine wpAnyIn_ready (rs := [5]) (by kernel_rfl) (by simp) ?_
            refine AllReadyIn.cons rfl (fun K hK => ?_) AllReadyIn.nil
            go_simp
            refine hK _ _ ?_
            clear hK K
            try simp only [Act.put, List.getElem_toArray, List.getElem_cons_zero, List.getElem_cons_succ, List.setIfInBounds_toArray, List.set_cons_zero, List.set_cons_succ]
            refine wpAnyIn_done (by kernel_rfl) ?_ _
            gi_wp2_with fail
            exact ⟨f1, f2, hjkx.out ▸ hJ3, f3, f4, f5, hm1, hm2, f6⟩
          · refine hK _ _ ?_
            clear hK K
            try simp only [Act.put, List.getElem_toArray, List.getElem_cons_zero, List.getElem_cons_succ, List.setIfInBounds_toArray, List.set_cons_zero, List.set_cons_succ]
            obtain ⟨f1, f2, f3, f4, f5, f6⟩ := kf.out x1 A2 _ Kx1 hk3
            refine wpAnyIn_ready (rs := [5]) (by kernel_rfl) (by simp) ?_
            refine AllReadyIn.cons rfl (fun K hK => ?_) AllReadyIn.nil
            go_simp
            refine hK _ _ ?_
            clear hK K
            try simp only [Act.put, List.getElem_toArray, List.getElem_cons_zero, List.getElem_cons_succ, List.setIfInBounds_toArray, List.set_cons_zero, List.set_cons_succ]
            refine wpAnyIn_done (by kernel_rfl) ?_ _
            gi_wp2_with fail
            exact ⟨f1, f2, rfl, hjne.out, _, rfl, rfl, hJ3⟩
        · go_simp
          refine hK _ _ ?_
          clear hK K
          try simp only [Act.put, List.getElem_toArray, List.getElem_cons_zero, List.getElem_cons_succ, List.setIfInBounds_toArray, List.set_cons_zero, List.set_cons_succ]
          refine wpAnyIn_ready (rs := [0, 3]) (by kernel_rfl) (by simp) ?_
          refine AllReadyIn.cons rfl (fun K hK => ?_) (AllReadyIn.cons rfl (fun K hK => ?_) AllReadyIn.nil)
          · go_simp
            refine hK _ _ ?_
            clear hK K
            try simp only [Act.put, List.getElem_toArray, List.getElem_cons_zero, List.getElem_cons_succ, List.setIfInBounds_toArray, List.set_cons_zero, List.set_cons_succ]
            refine wpAnyIn_ready (rs := [3]) (by kernel_rfl) (by simp) ?_
            refine AllReadyIn.cons rfl (fun K hK => ?_) AllReadyIn.nil
            go_simp
            refine ⟨trivial, fun _ => by omega, (CallsIn.inRound lr (callsIn_wide.2 (cC _ Kwd))).mono ?_⟩
            rintro e1 x1 ⟨a2, c2, rfl, hr1, kx1, hn1⟩
            refine hK _ _ ?_
            clear hK K
            try simp only [Act.put, List.getElem_toArray, List.getElem_cons_zero, List.getElem_cons_succ, List.setIfInBounds_toArray, List.set_cons_zero, List.set_cons_succ]
            have Yx1 := kpAt kx1 Ywd
            have Kx1 := Kwd.trans kx1 (by simp)
            have hn2 : ∀ k ∈ blk a2, A.heap.size ≤ k := fun k hk => Nat.le_trans (hzA.out _ Kwd) (hn1 k hk)
            refine wpAnyIn_ready (rs := [4]) (by kernel_rfl) (by simp) ?_
            refine AllReadyIn.cons rfl (fun K hK => ?_) AllReadyIn.nil
            obtain ⟨fn, tmps, assign, body, hyl, hR⟩ := hgive.out x1 a2 c2 Kx1 hr1 hn2
            have hR' : RoundIn (Fence.wide.inRound lr) (d - 1 - 1 - 1) Try.prog ly fn tmps assign body x1 _ := RoundIn.anyDepth (F := Fence.wide.inRound lr) rfl hR
            go_simp
            refine ⟨fun _ => by omega, hR'.mono ?_⟩
            clear hR hyl
            rintro e2 A2 (⟨rfl, hJ3, hk3⟩ | ⟨rfl, hJ3, hk3⟩)
            · refine hK _ _ ?_
              clear hK K
              try simp only [Act.put, List.getElem_toArray, List.getElem_cons_zero, List.getElem_cons_succ, List.setIfInBounds_toArray, List.set_cons_zero, List.set_cons_succ]
              obtain ⟨f1, f2, f3, f4, f5, f6⟩ := kf.out x1 A2 _ Kx1 hk3
              refine wpAnyIn_ready (rs := [5]) (by kernel_rfl) (by simp) ?_
              refine AllReadyIn.cons rfl (fun K hK => ?_) AllReadyIn.nil
              go_simp
              refine hK _ _ ?_
              clear hK K
              try simp only [Act.put, List.getElem_toArray, List.getElem_cons_zero, List.getElem_cons_succ, List.setIfInBounds_toArray, List.set_cons_zero, List.set_cons_succ]
              refine wpAnyIn_done (by kernel_rfl) ?_ _
              gi_wp2_with fail
              exact ⟨f1, f2, hjkx.out ▸ hJ3, f3, f4, f5, hm1, hm2, f6⟩
            · refine hK _ _ ?_
              clear hK K
              try simp only [Act.put, List.getElem_toArray, List.getElem_cons_zero, List.getElem_cons_succ, List.setIfInBounds_toArray, List.set_cons_zero, List.set_cons_succ]
              obtain ⟨f1, f2, f3, f4, f5, f6⟩ := kf.out x1 A2 _ Kx1 hk3
              refine wpAnyIn_ready (rs := [5]) (by kernel_rfl) (by simp) ?_
              refine AllReadyIn.cons rfl (fun K hK => ?_) AllReadyIn.nil
              go_simp
              refine hK _ _ ?_
              clear hK K
              try simp only [Act.put, List.getElem_toArray, List.getElem_cons_zero, List.getElem_cons_succ, List.setIfInBounds_toArray, List.set_cons_zero, List.set_cons_succ]
              refine wpAnyIn_done (by kernel_rfl) ?_ _
              gi_wp2_with fail
              exact ⟨f1, f2, rfl, hjne.out, _, rfl, rfl, hJ3⟩
          · go_simp
            refine ⟨trivial, fun _ => by omega, (CallsIn.inRound lr (callsIn_wide.2 (cC _ Kwd))).mono ?_⟩
            rintro e1 x1 ⟨a2, c2, rfl, hr1, kx1, hn1⟩
            refine hK _ _ ?_
            clear hK K
            try simp only [Act.put, List.getElem_toArray, List.getElem_cons_zero, List.getElem_cons_succ, List.setIfInBounds_toArray, List.set_cons_zero, List.set_cons_succ]
            have Yx1 := kpAt kx1 Ywd
            have Kx1 := Kwd.trans kx1 (by simp)
            have hn2 : ∀ k ∈ blk a2, A.heap.size ≤ k := fun k hk => Nat.le_trans (hzA.out _ Kwd) (hn1 k hk)
            refine wpAnyIn_ready (rs := [0]) (by kernel_rfl) (by simp) ?_
            refine AllReadyIn.cons rfl (fun K hK => ?_) AllReadyIn.nil
            go_simp
            refine hK _ _ ?_
            clear hK K
            try simp only [Act.put, List.getElem_toArray, List.getElem_cons_zero, List.getElem_cons_succ, List.setIfInBounds_toArray, List.set_cons_zero, List.set_cons_succ]
            refine wpAnyIn_ready (rs := [4]) (by kernel_rfl) (by simp) ?_
            refine AllReadyIn.cons rfl (fun K hK => ?_) AllReadyIn.nil
            obtain ⟨fn, tmps, assign, body, hyl, hR⟩ := hgive.out x1 a2 c2 Kx1 hr1 hn2
            have hR' : RoundIn (Fence.wide.inRound lr) (d - 1 - 1 - 1) Try.prog ly fn tmps assign body x1 _ := RoundIn.anyDepth (F := Fence.wide.inRound lr) rfl hR
            go_simp
            refine ⟨fun _ => by omega, hR'.mono ?_⟩
            clear hR hyl
            rintro e2 A2 (⟨rfl, hJ3, hk3⟩ | ⟨rfl, hJ3, hk3⟩)
            · refine hK _ _ ?_
              clear hK K
              try simp only [Act.put, List.getElem_toArray, List.getElem_cons_zero, List.getElem_cons_succ, List.setIfInBounds_toArray, List.set_cons_zero, List.set_cons_succ]
              obtain ⟨f1, f2, f3, f4, f5, f6⟩ := kf.out x1 A2 _ Kx1 hk3
              refine wpAnyIn_ready (rs := [5]) (by kernel_rfl) (by simp) ?_
              refine AllReadyIn.cons rfl (fun K hK => ?_) AllReadyIn.nil
              go_simp
              refine hK _ _ ?_
              clear hK K
              try simp only [Act.put, List.getElem_toArray, List.getElem_cons_zero, List.getElem_cons_succ, List.setIfInBounds_toArray, List.set_cons_zero, List.set_cons_succ]
              refine wpAnyIn_done (by kernel_rfl) ?_ _
              gi_wp2_with fail
              exact ⟨f1, f2, hjkx.out ▸ hJ3, f3, f4, f5, hm1, hm2, f6⟩
            · refine hK _ _ ?_
              clear hK K
              try simp only [Act.put, List.getElem_toArray, List.getElem_cons_zero, List.getElem_cons_succ, List.setIfInBounds_toArray, List.set_cons_zero, List.set_cons_succ]
              obtain ⟨f1, f2, f3, f4, f5, f6⟩ := kf.out x1 A2 _ Kx1 hk3
              refine wpAnyIn_ready (rs := [5]) (by kernel_rfl) (by simp) ?_
              refine AllReadyIn.cons rfl (fun K hK => ?_) AllReadyIn.nil
              go_simp
              refine hK _ _ ?_
              clear hK K
              try simp only [Act.put, List.getElem_toArray, List.getElem_cons_zero, List.getElem_cons_succ, List.setIfInBounds_toArray, List.set_cons_zero, List.set_cons_succ]
              refine wpAnyIn_done (by kernel_rfl) ?_ _
              gi_wp2_with fail
              exact ⟨f1, f2, rfl, hjne.out, _, rfl, rfl, hJ3⟩
    · have hns : seenV e x = false := by simpa using hseen
      have hJn := hskip.out hns
      rw [hns] at cS
      have kf : Hid (∀ A2, Kp [] A A2 → KeepsFrom W2.heap.size A A2 ∧ KeepN s.js A A2 ∧ J ⟨true, B0, js ++ (if (s.nx x).made = true then (s.nx x).js else []), (s.nx x).i, none⟩ A2 ∧ A2.cell? ⟨W.heap.size, 0, none⟩ = some (.func (.yield ly) #[] #[]) ∧ W2.heap.size ≤ A2.heap.size ∧ (∀ x ∈ l, VnOk A2 x) ∧ A2.cell? ⟨qe, 0, none⟩ = some (.int .u64 e)) := fun A2 kx =>
        ⟨⟨kx.size, fun k o hk' ho hc => (kx.block k (Array.getElem?_eq_some_iff.1 ho).1 (by simp)).trans ho⟩, KeepN.ofKp kx (by simp), hT _ _ _ _ hJn (StepT.same rfl rfl (TurnT.ofKp kx)), kpAt kx hy, Nat.le_trans hz kx.size, fun x hx => (hk x hx).kept kx, kpAt kx hqe⟩
      have hmm := hid (And.intro hm1 hm2)
      obtain ⟨ep, num, xa, xc, row, del⟩ := x
      dsimp only at cS v0 v1 v2 v3 ⊢
      clear hJ hob hbx hx hokx kd hskip hJn hseen hns hm1 hm2
      gi_wp2_with fail
      refine ⟨trivial, fun _ => by omega, (CallsIn.inRound lr (callsIn_wide.2 cS)).mono ?_⟩
      rintro e1 AS ⟨rfl, kS⟩
      obtain ⟨f1, f2, f3, f4, f5, f6, f7⟩ := kf.out AS kS
      clear cS kf
      gi_wp2_with fail
      exact ⟨f1, f2, f3, f4, f5, f6, hmm.out.1, hmm.out.2, f7⟩
  case done =>
    rintro D s X hD ⟨hmd, hsi⟩ ⟨hJ, _⟩ hK
    have hJD := hT _ _ _ _ hJ (StepT.same rfl rfl (TurnT.ofGrown (B0 := B0) (grownBy_putObj' X D (.deferred none)) (fun r e => by cases e; exact ⟨by rw [hB0.out]; exact hD, _, hK, rfl⟩)))
    gi_wp2_with fail
    refine ⟨by simp, .inl ⟨_, _, rfl, run_takeDeferred hK, ?_⟩⟩
    exact ⟨_, results_none rfl _ _ _, ⟨_, rfl⟩, .inl ⟨_, ⟨rfl, hsi, rfl⟩, hJD⟩⟩
  case stop =>
    rintro D c s X hD _ ⟨rfl, _, sb, hm, hs0, hJ⟩ hK
    have hJD := hX _ _ _ hJ ⟨hm, TurnT.ofGrown (grownBy_putObj' X D (.deferred none)) (fun r e => by cases e; exact ⟨by rw [hs0, hB0.out]; exact hD, _, hK, rfl⟩)⟩
    gi_wp2_with fail
    refine ⟨by simp, .inl ⟨_, _, rfl, run_takeDeferred hK, ?_⟩⟩
    exact ⟨_, results_none rfl _ _ _, ⟨_, rfl⟩, .inr ⟨sb, trivial, hJD⟩⟩
end Go.Proofs.Ytdjlefacdfdhmaa
end

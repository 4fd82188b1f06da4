/- exec.ordered, over any iterator of rows. exec.alike. slices.BinarySearchFunc with exec.alike's order. -/
import Derived.Test.YtohkjikhlakglaaB4
section
namespace Go.Proofs.Ytohkjikhlakglaa
open Go.RowKit Go.Hay
attribute [local go_sem] Oper.semAt_some
set_option linter.unusedVariables false
set_option linter.unusedSimpArgs false

/-- How a gathering stands that leaves what it is given as it is; F: which rows are gathered. -/
structure GatJ (w1 : World) (q3 : Nat) (R : List (List Val)) (F : List (List Val) → List (List Val)) (s : Sr) (W : World) (ra : Option Addr) (rc : Nat) (L : List Vs) : Prop where
  co : CoR w1 [q3] s W
  box : W.cell? ⟨q3, 0, none⟩ = some (.slice ra L.length rc)
  free : W.frozen? ⟨q3, 0, none⟩ = false
  lot : Lot w1.heap.size ra rc L W
  took : L.map (·.l) = F (R.take s.i)
  ne : ∀ k ∈ blk ra, k ∉ s.js ∧ k ∉ s.qs
  nes : ∀ x ∈ L, ∀ k ∈ blk x.a, k ∉ s.qs
  nil : L = [] → ra = none
  pend : ∀ x, s.p = some x → R[s.i]? = some x.l ∧ x.lies W
def GatI (w1 : World) (q3 : Nat) (R : List (List Val)) (F : List (List Val) → List (List Val)) (s : Sr) (W : World) : Prop := ∃ ra rc L, GatJ w1 q3 R F s W ra rc L
theorem GatI.own {w1 : World} {q3 : Nat} {R : List (List Val)} {F : List (List Val) → List (List Val)} : OwnFrom w1.heap.size (GatI w1 q3 R F) := fun s X Y row ⟨ra, rc, L, h⟩ hg hr => by
  have ck := CK.ofGrown hg (fun r e => (hr r e).2)
  obtain ⟨h1, h2⟩ := ck.2 _ _ trivial h.box
  exact ⟨ra, rc, L, h.co.grown hg hr, h1, h2.trans h.free, h.lot.ck ck (fun _ _ => trivial) (fun _ _ _ _ => trivial), h.took, h.ne, h.nes, h.nil, fun x hx => by
    obtain ⟨p1, p2⟩ := h.pend x hx
    exact ⟨p1, p2.ck ck (fun _ _ => trivial)⟩⟩
theorem GatI.step {w1 : World} {q3 : Nat} {fr : Bool} {R : List (List Val)} {F : List (List Val) → List (List Val)} (hq : q3 < w1.heap.size) {s s' : Sr} {A B : World} (hz : w1.heap.size + 2 ≤ A.heap.size) (h : GatI w1 q3 R F s A) (ht : StepR fr R s s' A B) : GatI w1 q3 R F s' B := by
  obtain ⟨ra, rc, L, h⟩ := h
  have co := h.co.step (by simpa using hq) hz ht
  have hqs : ∀ k, k < A.heap.size → k ∉ s.qs → k ∉ s'.qs := fun k hk hn hm => by
    cases hs : s.made with
    | true => rcases (ht.stays hs).2.2 k hm with e | e; exact hn e; omega
    | false => have := ((ht.makes hs).2.2 k hm).1; omega
  have hq3 : q3 ∉ s'.qs := fun hm => by
    have hm' : s'.made = true := by
      cases hs : s.made with
      | true => exact (ht.stays hs).1
      | false => exact (ht.makes hs).1
    have := (co.mde hm').2 q3 hm
    omega
  have ck := CK.ofTurn ht.turn
  obtain ⟨h1, h2⟩ := ck.2 _ _ hq3 h.box
  have hlt := h.lot.lt
  refine ⟨ra, rc, L, co, h1, h2.trans h.free, h.lot.ck ck (fun k hk => hqs k (hlt k hk) (h.ne k hk).2) (fun x hx k hk => hqs k (h.lot.rows x hx k hk).2.1 (h.nes x hx k hk)), by rw [ht.on]; exact h.took, fun k hk => ⟨fun hm => ?_, hqs k (hlt k hk) (h.ne k hk).2⟩, fun x hx k hk => hqs k (h.lot.rows x hx k hk).2.1 (h.nes x hx k hk), h.nil, fun x hx => ?_⟩
  · rcases ht.js k hm with e | e
    · exact (h.ne k hk).1 e
    · have := hlt k hk; omega
  · rcases ht.given with e | ⟨y, e, hy, hl, hf⟩
    · rw [e] at hx; cases hx
    · rw [e] at hx
      cases hx
      exact ⟨by rw [ht.on]; exact hy, hl⟩
/-- The rows that can be joined. -/
def ordR (on : Int) (R : List (List Val)) : List (List Val) := R.filter fun l => !((vAt l on).k == 0)
theorem ordR_snoc (on : Int) (R : List (List Val)) (i : Nat) (l : List Val) (h : R[i]? = some l) : ordR on (R.take (i + 1)) = ordR on (R.take i) ++ (if (vAt l on).k = 0 then [] else [l]) := by
  rw [List.take_add_one, h]
  unfold ordR
  rw [List.filter_append]
  by_cases hk : (vAt l on).k = 0 <;> simp [hk]
/-- What a sort leaves of rows that were gathered: the same rows of rows, in another order. -/
def SortP (N : Nat) (ra : Option Addr) (rc : Nat) (n : Nat) (S : List (List Val)) (W : World) (e : Ending) (w' : World) : Prop := (∃ v, e = .returned v) ∧ ∃ L', L'.length = n ∧ Lot N ra rc L' w' ∧ L'.map (·.l) = S ∧ Kp (blk ra) W w'
set_option maxHeartbeats 32000000 in
set_option maxRecDepth 100000 in
theorem cOrderedG (d : Nat) (hd : 3 ≤ d) (fr : Bool) (g : Nat) (lb : Array Value) (R : List (List Val)) (js : List Nat) (on : Int) (S : List (List Val)) (w : World) (heg : ∀ args w, (callFunc g args).run Try.prog w = .ok (.enter g args) w) (hseq : RowSeq fr (d - 1) g lb R js w) (hjs : ∀ j ∈ js, j < w.heap.size) (hR : R.length ≤ 4000000000000) (hRl : ∀ l ∈ R, l.length ≤ 3600000000000)
    (hsort : ∀ (W : World) (N q : Nat) (ra : Option Addr) (rc : Nat) (L : List Vs), Lot N ra rc L W → L.map (·.l) = ordR on R → W.cell? ⟨q, 0, none⟩ = some (.int .i64 on) → q ∉ blk ra → Calls Try.prog 37 #[.slice ra L.length rc, .func (.func 56) #[] #[.pointer (some ⟨q, 0, none⟩)]] W (SortP N ra rc L.length S W)) :
    CallsIn Fence.wide d Try.prog 43 #[.func (.func g) #[] lb, .int .i64 on] w (LotP S w) := by
  obtain ⟨w0, hw0, k0, b0⟩ : ∃ w0, w.alloc (.cells #[.int .i64 on] 3) = w0 ∧ Kp [] w w0 ∧ Bn w0 w.heap.size [.int .i64 on] := ⟨_, rfl, (Kp.refl _ _).alloc _, Bn.new w _ _⟩
  obtain ⟨w1, hw1, k1, b1⟩ : ∃ w1, w0.alloc (.cells #[.slice none 0 0] 22) = w1 ∧ Kp [] w0 w1 ∧ Bn w1 w0.heap.size [.slice none 0 0] := ⟨_, rfl, (Kp.refl _ _).alloc _, Bn.new w0 _ _⟩
  obtain ⟨q3, hq3⟩ : ∃ q, Hid (w.heap.size = q) := ⟨_, rfl⟩
  obtain ⟨q5, hq5⟩ : ∃ q, Hid (w0.heap.size = q) := ⟨_, rfl⟩
  rw [hq3.out] at b0
  rw [hq5.out] at b1
  have hq51 : q5 < w1.heap.size := b1.lt (by simp)
  have hq35 : q3 < q5 := by rw [← hq5.out]; exact b0.lt (by simp)
  have hz1 : w1.heap.size = w.heap.size + 2 := by rw [← hw1, ← hw0]; simp
  have hzq : q3 = w.heap.size ∧ q5 = w.heap.size + 1 := ⟨hq3.out.symm, by rw [← hq5.out, ← hw0]; simp⟩
  have HZQ := hid hzq
  have b01 := b0.kept k1
  have hI0 : GatI w1 q5 R (ordR on) ⟨false, 0, [], js, 0, none⟩ w1 := ⟨none, 0, [], ⟨rfl, rfl, rfl, Nat.le_refl _, fun _ _ _ => rfl, fun h => (by cases h), fun j hj => ⟨by have := hjs j hj; simp; omega, by have := hjs j hj; omega, by have := hjs j hj; omega⟩, fun j hj => by have := hjs j hj; omega, by simp⟩, b1.get 0 _ rfl, b1.free 0, Lot.nil _ _, rfl, by simp [blk], by simp, fun _ => rfl, fun x hx => (by cases hx)⟩
  have HI0 := hid hI0
  have kw1 := k0.trans k1 (by simp)
  have HK1 := hid kw1
  have HSQ := hid hseq
  have HST := hid hsort
  have hz1' := hid hz1
  have HB := hid b01
  have hKR : Hid (KeepR ⟨false, 0, [], js, 0, none⟩ w w1) := ⟨KeepB.ofKp kw1 (by simp), fun h => (by cases h)⟩
  clear hI0 k0 k1 b0 b1 hseq hjs hz1 b01 kw1 hsort hzq
  refine callsIn_of_wp_marks Try.func43 rfl trivial ?_ rfl
  simp only [Try.ntmps43, List.size_toArray, List.length_cons, List.length_nil, Nat.reduceAdd, Nat.reduceSub, Array.replicate_succ, Array.replicate_zero, List.push_toArray, List.append_toArray, List.nil_append, List.cons_append]
  refine wpIn_wide.2 ?_
  have hq3' := hq3.out
  have hq5' := hq5.out
  go_wp2_with fail
  refine (wpIn_wide (n := d)).1 ?_
  refine wpRangeX rfl (by omega) (gf := g) (lb := lb) rfl trivial heg
    HSQ.out (fun _ => rfl) KeepR.trans (fun s W o => KeepR.alloc s W o) hKR.out
    (GatI w1 q5 R (ordR on)) (fun _ _ _ => False) GatI.own (fun _ _ _ _ _ h _ _ => h) HI0.out
    (fun s s' A B ⟨_, _, _, h⟩ ht k o hk ho => h.co.keeps ht k o hk ho) (fun _ _ _ _ h => h.elim) (fun s s' A B hz h ht => h.step hq51 hz ht) (fun _ _ _ _ h => h.elim)
    (fun s W o' ⟨_, _, _, h⟩ => h.co.recs o') (fun s x W o' ⟨_, _, _, h⟩ => CoR.recs (S := [q5]) (s := s) ⟨h.co.os, h.co.tape, h.co.output, h.co.size, h.co.low, h.co.mde, h.co.js, h.co.jl, h.co.ql⟩ o') (fun _ _ _ _ _ h => h.elim)
    (fun x => { tmps := #[.func (.func g) #[] lb, .int .i64 on, undef, .pointer (some ⟨q3, 0, none⟩), .slice none 0 0, .pointer (some ⟨q5, 0, none⟩), .slice x.a x.l.length x.c, .func (.func g) #[] lb, .slice x.a x.l.length x.c, undef, undef, undef, undef, undef, undef, undef, undef, undef, undef, undef, undef, undef, undef], defers := [] }) ?assign ?body ?done ?stop
  case assign =>
    intro l x W C hC
    gi_wp2_with fail
    exact hC
  case body =>
    rintro l0 s ⟨xa, xc, xl⟩ W ⟨ra, rc, L, h⟩ hp
    obtain ⟨hRi, hxl⟩ := h.pend _ hp
    dsimp only at hRi ⊢
    have hxn : xl.length ≤ 3600000000000 := hRl _ (List.mem_of_getElem? hRi)
    have hiR : s.i < R.length := (List.getElem?_eq_some_iff.1 hRi).1
    have hLl : L.length ≤ 4000000000000 := by
      have h1 := congrArg List.length h.took
      have h2 := List.length_filter_le (fun l => !((vAt l on).k == 0)) (R.take s.i)
      unfold ordR at h1
      simp at h1 h2
      omega
    have hsn := ordR_snoc on R s.i xl hRi
    have k1W := h.co.kp
    have b3 := HB.out.keptS k1W (by simp; omega) (HB.out.lt (by simp))
    have c3 := b3.get 0 _ rfl
    have cA := hid (cAtE xa xc xl on W hxl.see (by omega))
    have h' := hid h
    have hxl' := hid hxl
    have hsn' := hid hsn
    clear h hRi hxl hsn k1W b3
    obtain ⟨⟨vk, vb, vn, vt⟩, hv⟩ : ∃ v, Hid (vAt xl on = v) := ⟨_, rfl⟩
    rw [hv.out] at cA hsn'
    dsimp only at cA hsn'
    have hfd : ∀ w : World, (Instr.field 47 (.agg #[.int .i64 vk, .bool vb, .int .i64 vn, .string vt]) 0).run Try.prog w = .ok (.int .i64 vk) w := fun _ => by kernel_rfl
    gi_wp2_with fail
    refine ⟨trivial, fun h => (by cases h), (CallsIn.inRound l0 (callsIn_wide.2 cA.out)).mono ?_⟩
    rintro e WA ⟨rfl, kA⟩
    have KA := hid kA
    clear cA kA c3
    by_cases hvk : vk = 0
    · have d1 : (vk != 0) = false := by simpa using hvk
      have hvk' := hid hvk
      clear hvk
      gi_wp2_with fail
      have h := h'.out
      obtain ⟨r1, r2, r3⟩ := h.co.round (x := ⟨xa, xc, xl⟩) (T := []) KA.out (by simp) (by simp) (by simp)
      have ck := CK.ofKp KA.out
      obtain ⟨c5, f5⟩ := ck.2 ⟨q5, 0, none⟩ _ (by simp) h.box
      refine ⟨r1, r2, ra, rc, L, r3, c5, f5.trans h.free, h.lot.ck ck (by simp) (by simp), ?_, h.ne, h.nes, h.nil, fun x hx => (by cases hx)⟩
      show _ = ordR on (R.take (s.i + 1))
      rw [hsn'.out, if_pos hvk'.out, List.append_nil]
      exact h.took
    · have d1 : (vk != 0) = true := by simpa using hvk
      gi_wp2_with fail
      refine region_round (fun _ => True) (by kernel_rfl) (by kernel_rfl) (by rintro ⟨_, _, hlo⟩; exact hlo) trivial (fun _ => ?_)
      have KD : Hid (Kp [] W WA.drew) := hid (KA.out.trans (Kp.refl [] WA).drew (by simp))
      have cCp : Hid (∀ W', Kp [] W W' → Calls Try.prog 24 #[.slice xa xl.length xc] W' (NewR xl W')) := fun W' k => cCloneR xa xc xl W' (hxl'.out.see.kept k) hxl'.out.nil hxn
      have hbx : Hid (∀ W', Kp [] W W' → W'.cell? ⟨q5, 0, none⟩ = some (.slice ra L.length rc)) := fun W' k => kpAt k h'.out.box
      generalize WA.drew = wd at *
      refine wpAnyH_take (i := 1) (v := ?_) rfl (by kernel_rfl) (by kernel_rfl) (by kernel_rfl) (fun _ _ _ h => h) (Or.inl ⟨by rfl, ?_⟩) (by assumption) ?_
      rotate_left
      · intro w hSw; (try dsimp only at hSw); go_simp <;> with_reducible rfl
      try simp only [Act.put, List.getElem_toArray, List.getElem_cons_zero, List.getElem_cons_succ, List.setIfInBounds_toArray, List.set_cons_zero, List.set_cons_succ]
      have c3d := hbx.out wd KD.out
      refine wpAnyH_ready (rs := [0, 2]) (by kernel_rfl) (by simp) ?_
      refine AllReadyH.cons rfl (fun K hK => ?_) (AllReadyH.cons rfl (fun K hK => ?_) AllReadyH.nil)
      · go_simp
        (try go_wp2_with fail)
        refine hK.out _ _ trivial (fun _ => ?_)
        clear hK K
        try simp only [Act.put, List.getElem_toArray, List.getElem_cons_zero, List.getElem_cons_succ, List.setIfInBounds_toArray, List.set_cons_zero, List.set_cons_succ]
        refine wpAnyH_ready (rs := [2]) (by kernel_rfl) (by simp) ?_
        refine AllReadyH.cons rfl (fun K hK => ?_) AllReadyH.nil
        go_simp
        refine (cCp.out _ KD.out).mono ?_
        rintro e WD ⟨ya, yc, rfl, hyrow, kD, hyb⟩
        (try go_wp2_with fail)
        refine hK.out _ _ trivial (fun _ => ?_)
        clear hK K
        try simp only [Act.put, List.getElem_toArray, List.getElem_cons_zero, List.getElem_cons_succ, List.setIfInBounds_toArray, List.set_cons_zero, List.set_cons_succ]
        have kWD := hid (KD.out.trans kD (by simp))
        have hyl := rowLies hyrow
        have hlD : Lot w1.heap.size ra rc L WD := h'.out.lot.ck (CK.ofKp kWD.out) (by simp) (by simp)
        have hzD := kWD.out.size
        have hwz := h'.out.co.size
        have hywd : ∀ k ∈ blk ya, k < WD.heap.size := fun k hk => hyrow.lt k (by rw [ownV]; exact hk)
        have hyW : ∀ k ∈ blk ya, W.heap.size ≤ k := fun k hk => by have := hyb k hk; have := KD.out.size; omega
        obtain ⟨ra4, rc4, W4, hrun, hl4, k4, hra4⟩ := hlD.app ⟨ya, yc, xl⟩ hyl (by omega) (fun k hk => ⟨by have := hyW k hk; omega, hywd k hk, fun hm => by have := hyW k hk; have := h'.out.lot.lt k hm; omega⟩) hLl
        obtain ⟨L4, hL4⟩ : ∃ L4, Hid (L4 = L ++ [(⟨ya, yc, xl⟩ : Vs)]) := ⟨_, rfl⟩
        rw [← hL4.out] at hrun hl4
        have hq5ra : q5 ∉ blk ra := fun hm => by have := h'.out.lot.own q5 hm; omega
        have c3D := hbx.out WD kWD.out
        have c3A : (WD.alloc (.cells #[.slice ya xl.length yc] 24)).cell? ⟨q5, 0, none⟩ = some (.slice ra L.length rc) := kpAt ((Kp.refl _ _).alloc _) c3D
        have ck4 := CK.ofKp k4
        obtain ⟨c3W, f3W⟩ := ck4.2 ⟨q5, 0, none⟩ _ hq5ra c3D
        have f3 : W4.frozen? ⟨q5, 0, none⟩ = false := f3W.trans ((kWD.out.frozen (p := ⟨q5, 0, none⟩) (World.block_lt_of_cell? _ _ h'.out.box) (by simp)).trans h'.out.free)
        have HE : Hid (∀ A, leftX w1.heap.size KeepR (GatI w1 q5 R (ordR on)) (fun _ _ _ => False) s (s.nx ⟨xa, xc, xl⟩) W .normal A (W4.setCell ⟨q5, 0, none⟩ (.slice ra4 L4.length rc4))) := fun A => by
          have h := h'.out
          have kS : Kp [q5] W4 (W4.setCell ⟨q5, 0, none⟩ (.slice ra4 L4.length rc4)) := (Kp.refl _ _).setCell (by simp) _
          have ckS := CK.ofKp kS
          have kT : Kp (q5 :: blk ra) W (W4.setCell ⟨q5, 0, none⟩ (.slice ra4 L4.length rc4)) := ((kWD.out.mono (T := q5 :: blk ra) (by simp)).trans k4 (fun j hj => .inl (by simp [hj]))).trans kS (fun j hj => .inl (by simp at hj; simp [hj]))
          obtain ⟨r1, r2, r3⟩ := h.co.round (x := ⟨xa, xc, xl⟩) kT (fun k hk => by
            rcases List.mem_cons.1 hk with rfl | hk
            · exact cellCel h.box
            · refine rowCel h.lot.row (fun e => ?_) k hk
              rw [h.nil e] at hk
              simp [blk] at hk) (fun k hk => by
            rcases List.mem_cons.1 hk with rfl | hk
            · exact .inl (by simp)
            · exact .inr (h.lot.own k hk)) (fun k hk => by
            rcases List.mem_cons.1 hk with rfl | hk
            · exact fun hm => (h.co.js k hm).1 (by simp)
            · exact (h.ne k hk).1)
          refine ⟨r1, r2, ra4, rc4, L4, r3, World.cell?_setCell_same _ _ _ c3W, by rw [World.frozen?_setCell]; exact f3, hl4.ck ckS (fun k hk hm => ?_) (fun x hx k hk hm => ?_), ?_, fun k hk => ?_, fun x hx k hk => ?_, fun e => (by rw [hL4.out] at e; simp at e), fun x hx => (by cases hx)⟩
          · simp at hm
            have := hl4.own k hk
            omega
          · simp at hm
            have := (hl4.rows x hx k hk).1
            omega
          · show _ = ordR on (R.take (s.i + 1))
            rw [hsn'.out, if_neg hvk, hL4.out, List.map_append, h.took]
            rfl
          · rcases hra4 k hk with e | e
            · exact h.ne k e
            · exact ⟨fun hm => by have := h.co.jl k hm; omega, fun hm => by have := h.co.ql k hm; omega⟩
          · rw [hL4.out] at hx
            rcases List.mem_append.1 hx with hx | hx
            · exact h.nes x hx k hk
            · rw [List.mem_singleton.1 hx] at hk
              exact fun hm => by have := hyW k hk; have := h.co.ql k hm; omega
        clear hyl hlD hra4 k4 ck4 f3W hyb hyW hywd hl4 kD
        refine wpAnyH_ready (rs := [3]) (by kernel_rfl) (by simp) ?_
        refine AllReadyH.cons rfl (fun K hK => ?_) AllReadyH.nil
        go_simp
        (try go_wp2_with fail)
        refine hK.out _ _ trivial (fun _ => ?_)
        clear hK K
        try simp only [Act.put, List.getElem_toArray, List.getElem_cons_zero, List.getElem_cons_succ, List.setIfInBounds_toArray, List.set_cons_zero, List.set_cons_succ]
        refine wpAnyH_ready (rs := [4]) (by kernel_rfl) (by simp) ?_
        refine AllReadyH.cons rfl (fun K hK => ?_) AllReadyH.nil
        refine stepAppRun rfl _ _ 22 22 rfl _ _ _ rfl rfl hrun ?_
        refine hK.out _ _ trivial (fun _ => ?_)
        clear hK K
        try simp only [Act.put, List.getElem_toArray, List.getElem_cons_zero, List.getElem_cons_succ, List.setIfInBounds_toArray, List.set_cons_zero, List.set_cons_succ]
        refine wpAnyH_ready (rs := [5]) (by kernel_rfl) (by simp) ?_
        refine AllReadyH.cons rfl (fun K hK => ?_) AllReadyH.nil
        go_simp
        (try go_wp2_with fail)
        refine hK.out _ _ trivial (fun _ => ?_)
        clear hK K
        try simp only [Act.put, List.getElem_toArray, List.getElem_cons_zero, List.getElem_cons_succ, List.setIfInBounds_toArray, List.set_cons_zero, List.set_cons_succ]
        refine wpAnyH_done (by kernel_rfl) ?_ _
        exact HE.out ⟨#[], []⟩
      · go_simp
        refine (cCp.out _ KD.out).mono ?_
        rintro e WD ⟨ya, yc, rfl, hyrow, kD, hyb⟩
        (try go_wp2_with fail)
        refine hK.out _ _ trivial (fun _ => ?_)
        clear hK K
        try simp only [Act.put, List.getElem_toArray, List.getElem_cons_zero, List.getElem_cons_succ, List.setIfInBounds_toArray, List.set_cons_zero, List.set_cons_succ]
        have kWD := hid (KD.out.trans kD (by simp))
        have hyl := rowLies hyrow
        have hlD : Lot w1.heap.size ra rc L WD := h'.out.lot.ck (CK.ofKp kWD.out) (by simp) (by simp)
        have hzD := kWD.out.size
        have hwz := h'.out.co.size
        have hywd : ∀ k ∈ blk ya, k < WD.heap.size := fun k hk => hyrow.lt k (by rw [ownV]; exact hk)
        have hyW : ∀ k ∈ blk ya, W.heap.size ≤ k := fun k hk => by have := hyb k hk; have := KD.out.size; omega
        obtain ⟨ra4, rc4, W4, hrun, hl4, k4, hra4⟩ := hlD.app ⟨ya, yc, xl⟩ hyl (by omega) (fun k hk => ⟨by have := hyW k hk; omega, hywd k hk, fun hm => by have := hyW k hk; have := h'.out.lot.lt k hm; omega⟩) hLl
        obtain ⟨L4, hL4⟩ : ∃ L4, Hid (L4 = L ++ [(⟨ya, yc, xl⟩ : Vs)]) := ⟨_, rfl⟩
        rw [← hL4.out] at hrun hl4
        have hq5ra : q5 ∉ blk ra := fun hm => by have := h'.out.lot.own q5 hm; omega
        have c3D := hbx.out WD kWD.out
        have c3A : (WD.alloc (.cells #[.slice ya xl.length yc] 24)).cell? ⟨q5, 0, none⟩ = some (.slice ra L.length rc) := kpAt ((Kp.refl _ _).alloc _) c3D
        have ck4 := CK.ofKp k4
        obtain ⟨c3W, f3W⟩ := ck4.2 ⟨q5, 0, none⟩ _ hq5ra c3D
        have f3 : W4.frozen? ⟨q5, 0, none⟩ = false := f3W.trans ((kWD.out.frozen (p := ⟨q5, 0, none⟩) (World.block_lt_of_cell? _ _ h'.out.box) (by simp)).trans h'.out.free)
        have HE : Hid (∀ A, leftX w1.heap.size KeepR (GatI w1 q5 R (ordR on)) (fun _ _ _ => False) s (s.nx ⟨xa, xc, xl⟩) W .normal A (W4.setCell ⟨q5, 0, none⟩ (.slice ra4 L4.length rc4))) := fun A => by
          have h := h'.out
          have kS : Kp [q5] W4 (W4.setCell ⟨q5, 0, none⟩ (.slice ra4 L4.length rc4)) := (Kp.refl _ _).setCell (by simp) _
          have ckS := CK.ofKp kS
          have kT : Kp (q5 :: blk ra) W (W4.setCell ⟨q5, 0, none⟩ (.slice ra4 L4.length rc4)) := ((kWD.out.mono (T := q5 :: blk ra) (by simp)).trans k4 (fun j hj => .inl (by simp [hj]))).trans kS (fun j hj => .inl (by simp at hj; simp [hj]))
          obtain ⟨r1, r2, r3⟩ := h.co.round (x := ⟨xa, xc, xl⟩) kT (fun k hk => by
            rcases List.mem_cons.1 hk with rfl | hk
            · exact cellCel h.box
            · refine rowCel h.lot.row (fun e => ?_) k hk
              rw [h.nil e] at hk
              simp [blk] at hk) (fun k hk => by
            rcases List.mem_cons.1 hk with rfl | hk
            · exact .inl (by simp)
            · exact .inr (h.lot.own k hk)) (fun k hk => by
            rcases List.mem_cons.1 hk with rfl | hk
            · exact fun hm => (h.co.js k hm).1 (by simp)
            · exact (h.ne k hk).1)
          refine ⟨r1, r2, ra4, rc4, L4, r3, World.cell?_setCell_same _ _ _ c3W, by rw [World.frozen?_setCell]; exact f3, hl4.ck ckS (fun k hk hm => ?_) (fun x hx k hk hm => ?_), ?_, fun k hk => ?_, fun x hx k hk => ?_, fun e => (by rw [hL4.out] at e; simp at e), fun x hx => (by cases hx)⟩
          · simp at hm
            have := hl4.own k hk
            omega
          · simp at hm
            have := (hl4.rows x hx k hk).1
            omega
          · show _ = ordR on (R.take (s.i + 1))
            rw [hsn'.out, if_neg hvk, hL4.out, List.map_append, h.took]
            rfl
          · rcases hra4 k hk with e | e
            · exact h.ne k e
            · exact ⟨fun hm => by have := h.co.jl k hm; omega, fun hm => by have := h.co.ql k hm; omega⟩
          · rw [hL4.out] at hx
            rcases List.mem_append.1 hx with hx | hx
            · exact h.nes x hx k hk
            · rw [List.mem_singleton.1 hx] at hk
              exact fun hm => by have := hyW k hk; have := h.co.ql k hm; omega
        clear hyl hlD hra4 k4 ck4 f3W hyb hyW hywd hl4 kD
        refine wpAnyH_ready (rs := [0, 3]) (by kernel_rfl) (by simp) ?_
        refine AllReadyH.cons rfl (fun K hK => ?_) (AllReadyH.cons rfl (fun K hK => ?_) AllReadyH.nil)
        · go_simp
          (try go_wp2_with fail)
          refine hK.out _ _ trivial (fun _ => ?_)
          clear hK K
          try simp only [Act.put, List.getElem_toArray, List.getElem_cons_zero, List.getElem_cons_succ, List.setIfInBounds_toArray, List.set_cons_zero, List.set_cons_succ]
          refine wpAnyH_ready (rs := [3]) (by kernel_rfl) (by simp) ?_
          refine AllReadyH.cons rfl (fun K hK => ?_) AllReadyH.nil
          go_simp
          (try go_wp2_with fail)
          refine hK.out _ _ trivial (fun _ => ?_)
          clear hK K
          try simp only [Act.put, List.getElem_toArray, List.getElem_cons_zero, List.getElem_cons_succ, List.setIfInBounds_toArray, List.set_cons_zero, List.set_cons_succ]
          refine wpAnyH_ready (rs := [4]) (by kernel_rfl) (by simp) ?_
          refine AllReadyH.cons rfl (fun K hK => ?_) AllReadyH.nil
          refine stepAppRun rfl _ _ 22 22 rfl _ _ _ rfl rfl hrun ?_
          refine hK.out _ _ trivial (fun _ => ?_)
          clear hK K
          try simp only [Act.put, List.getElem_toArray, List.getElem_cons_zero, List.getElem_cons_succ, List.setIfInBounds_toArray, List.set_cons_zero, List.set_cons_succ]
          refine wpAnyH_ready (rs := [5]) (by kernel_rfl) (by simp) ?_
          refine AllReadyH.cons rfl (fun K hK => ?_) AllReadyH.nil
          go_simp
          (try go_wp2_with fail)
          refine hK.out _ _ trivial (fun _ => ?_)
          clear hK K
          try simp only [Act.put, List.getElem_toArray, List.getElem_cons_zero, List.getElem_cons_succ, List.setIfInBounds_toArray, List.set_cons_zero, List.set_cons_succ]
          refine wpAnyH_done (by kernel_rfl) ?_ _
          exact HE.out ⟨#[], []⟩
        · go_simp
          (try go_wp2_with fail)
          refine hK.out _ _ trivial (fun _ => ?_)
          clear hK K
          try simp only [Act.put, List.getElem_toArray, List.getElem_cons_zero, List.getElem_cons_succ, List.setIfInBounds_toArray, List.set_cons_zero, List.set_cons_succ]
          refine wpAnyH_ready (rs := [0]) (by kernel_rfl) (by simp) ?_
          refine AllReadyH.cons rfl (fun K hK => ?_) AllReadyH.nil
          go_simp
          (try go_wp2_with fail)
          refine hK.out _ _ trivial (fun _ => ?_)
          clear hK K
          try simp only [Act.put, List.getElem_toArray, List.getElem_cons_zero, List.getElem_cons_succ, List.setIfInBounds_toArray, List.set_cons_zero, List.set_cons_succ]
          refine wpAnyH_ready (rs := [4]) (by kernel_rfl) (by simp) ?_
          refine AllReadyH.cons rfl (fun K hK => ?_) AllReadyH.nil
          refine stepAppRun rfl _ _ 22 22 rfl _ _ _ rfl rfl hrun ?_
          refine hK.out _ _ trivial (fun _ => ?_)
          clear hK K
          try simp only [Act.put, List.getElem_toArray, List.getElem_cons_zero, List.getElem_cons_succ, List.setIfInBounds_toArray, List.set_cons_zero, List.set_cons_succ]
          refine wpAnyH_ready (rs := [5]) (by kernel_rfl) (by simp) ?_
          refine AllReadyH.cons rfl (fun K hK => ?_) AllReadyH.nil
          go_simp
          (try go_wp2_with fail)
          refine hK.out _ _ trivial (fun _ => ?_)
          clear hK K
          try simp only [Act.put, List.getElem_toArray, List.getElem_cons_zero, List.getElem_cons_succ, List.setIfInBounds_toArray, List.set_cons_zero, List.set_cons_succ]
          refine wpAnyH_done (by kernel_rfl) ?_ _
          exact HE.out ⟨#[], []⟩
  case done =>
    rintro D s X hD ⟨hmd, hsi, hsp⟩ ⟨ra, rc, L, h⟩ hrec
    have hbx := h.box
    have h' := hid h
    have hrec' := hid hrec
    have hLr : L.map (·.l) = ordR on R := by rw [h.took, hsi, List.take_length]
    have b3 := HB.out.keptS h.co.kp (by simp; omega) (HB.out.lt (by simp))
    have hq3ra : q3 ∉ blk ra := fun hm => by have := h.lot.own q3 hm; omega
    have cS := hid (HST.out X w1.heap.size q3 ra rc L h.lot hLr (b3.get 0 _ rfl) hq3ra)
    clear h hrec hLr b3
    go_wp2_with fail
    refine cS.out.mono ?_
    rintro e X2 ⟨⟨v, rfl⟩, L2, hn2, hl2, hm2, k2⟩
    have hq5ra : q5 ∉ blk ra := fun hm => by have := h'.out.lot.own q5 hm; omega
    have c5 := (k2.cell (p := ⟨q5, 0, none⟩) (World.block_lt_of_cell? _ _ hbx) hq5ra).trans hbx
    rw [← hn2] at c5
    have HF := hid (And.intro hl2 (And.intro hm2 k2))
    clear cS hl2 hm2 k2 hn2
    go_wp2_with fail
    have h := h'.out
    obtain ⟨hl2, hm2, k2⟩ := HF.out
    have hDra : D ∉ blk ra := fun hm => by
      have hne : L ≠ [] := fun e => by rw [h.nil e] at hm; simp [blk] at hm
      have := rowCel h.lot.row hne D hm
      rw [hrec'.out] at this
      simp [Obj.isCells] at this
    have hrec2 : X2.heap[D]? = some (.deferred (some [])) := (k2.block D (Array.getElem?_eq_some_iff.1 hrec'.out).1 hDra).trans hrec'.out
    have hmk : Mks [D] X2 := (Mks.nil X2).cons hrec2 (by simp)
    have hzw := hz1'.out
    have hzq := HZQ.out
    have kwX : Kp [] w X2 := (HK1.out.trans h.co.kp (fun x hx => .inr (by simp at hx; omega))).trans k2 (fun x hx => .inr (by have := h.lot.own x hx; omega))
    show LeavesInM _ _ _ _ _ _ (marks [D]) .returning _
    refine leaves_marks [D] X2 hmk fun w' hk => ⟨_, results_tmp rfl _ _ _, ra, rc, L2, rfl, ?_, hm2, kwX.trans hk (fun x hx => .inr (by simp at hx; omega))⟩
    have ck : CK (fun _ => True) X2 w' := CK.ofBlock hk.size fun k _ hl => by
      by_cases e : k = D
      · exact .inr ⟨_, by rw [e]; exact hrec2, rfl⟩
      · exact .inl (hk.block k hl (by simpa using e))
    exact (hl2.ck ck (fun _ _ => trivial) (fun _ _ _ _ => trivial)).mono (by omega)
  case stop =>
    rintro D c s X hD _ h
    exact h.elim
end Go.Proofs.Ytohkjikhlakglaa
end

section
namespace Go.Proofs.Ytohkjikhlakglaa
open Go.RowKit Go.Hay
attribute [local go_sem] Oper.semAt_some
set_option linter.unusedVariables false
set_option linter.unusedSimpArgs false

set_option maxHeartbeats 8000000 in
set_option maxRecDepth 100000 in
theorem cAlikeC (a : Option Addr) (c : Nat) (l : List Val) (v : Val) (qo : Nat) (on : Int) (w : World) (ha : Vals w a l) (hl : l.length ≤ 9223372036854775807) (ho : w.cell? ⟨qo, 0, none⟩ = some (.int .i64 on)) :
    Calls Try.prog 58 #[.slice a l.length c, .agg #[.int .i64 v.k, .bool v.b, .int .i64 v.n, .string v.t], .pointer (some ⟨qo, 0, none⟩)] w fun e w' => e = .returned (.int .i64 (cmpV (vAt l on) v)) ∧ Kp [] w w' := by
  obtain ⟨vk, vb, vn, vt⟩ := v
  dsimp only
  obtain ⟨w1, hw1, k1, b1⟩ : ∃ w1, w.alloc (.cells #[.int .i64 vk, .bool vb, .int .i64 vn, .string vt] 47) = w1 ∧ Kp [] w w1 ∧ Bn w1 w.heap.size [.int .i64 vk, .bool vb, .int .i64 vn, .string vt] := ⟨_, rfl, (Kp.refl _ _).alloc _, Bn.new w _ _⟩
  obtain ⟨q4, hq4⟩ : ∃ q, w.heap.size = q := ⟨_, rfl⟩
  rw [hq4] at b1
  have hS : Hid (∀ A, Kp [] w1 A → ((A.cell? ⟨qo, 0, none⟩ = some (.int .i64 on)) ∧ A.cell? ⟨q4, 0, none⟩ = some (.int .i64 vk) ∧ A.cell? ⟨q4, 1, none⟩ = some (.bool vb) ∧ A.cell? ⟨q4, 2, none⟩ = some (.int .i64 vn) ∧ A.cell? ⟨q4, 3, none⟩ = some (.string vt))) := fun A k => ⟨kpAt (k1.trans k (by simp)) ho, (b1.kept k).get 0 _ rfl, (b1.kept k).get 1 _ rfl, (b1.kept k).get 2 _ rfl, (b1.kept k).get 3 _ rfl⟩
  have cA : Hid (∀ A, Kp [] w1 A → Calls Try.prog 45 #[.slice a l.length c, .int .i64 on] A fun e w' => e = .returned (.agg #[.int .i64 (vAt l on).k, .bool (vAt l on).b, .int .i64 (vAt l on).n, .string (vAt l on).t]) ∧ Kp [] A w') := fun A k => cAtE a c l on A (ha.kept (k1.trans k (by simp))) hl
  obtain ⟨⟨yk, yb, yn, yt⟩, hy⟩ : ∃ y, Hid (vAt l on = y) := ⟨_, rfl⟩
  simp only [hy.out] at cA
  rw [hy.out]
  have cC := hid (fun A => cCompare ⟨yk, yb, yn, yt⟩ ⟨vk, vb, vn, vt⟩ A)
  simp only [Val.v] at cC
  have K1 := hid k1
  clear ha ho k1 b1
  go_enter Try.func58, Try.ntmps58
  go_wp2_with fail
  refine wp_noPanicY ?_
  refine wp_region_held_drew (S := fun A => (A.cell? ⟨qo, 0, none⟩ = some (.int .i64 on)) ∧ A.cell? ⟨q4, 0, none⟩ = some (.int .i64 vk) ∧ A.cell? ⟨q4, 1, none⟩ = some (.bool vb) ∧ A.cell? ⟨q4, 2, none⟩ = some (.int .i64 vn) ∧ A.cell? ⟨q4, 3, none⟩ = some (.string vt)) (by kernel_rfl) ?_ (fun hHeld => ?_)
  · exact hS.out _ (Kp.refl _ _).drew
  have KD : Hid (Kp [] w1 w1.drew) := hid (Kp.refl _ _).drew
  generalize w1.drew = wd at *
  refine wpAnyH_take (i := 0) (v := ?_) rfl (by kernel_rfl) (by kernel_rfl) (by kernel_rfl) (fun _ _ _ h => by cases h.1) (Or.inl ⟨by rfl, ?_⟩) (by assumption) ?_
  rotate_left
  · intro w hSw; (try dsimp only at hSw); go_simp <;> with_reducible rfl
  try simp only [Act.put, List.getElem_toArray, List.getElem_cons_zero, List.getElem_cons_succ, List.setIfInBounds_toArray, List.set_cons_zero, List.set_cons_succ]
  refine wpAnyH_take (i := 1) (v := ?_) rfl (by kernel_rfl) (by kernel_rfl) (by kernel_rfl) (fun _ _ _ h => by cases h.1) (Or.inl ⟨by rfl, ?_⟩) (by assumption) ?_
  rotate_left
  · intro w hSw; (try dsimp only at hSw); go_simp <;> with_reducible rfl
  try simp only [Act.put, List.getElem_toArray, List.getElem_cons_zero, List.getElem_cons_succ, List.setIfInBounds_toArray, List.set_cons_zero, List.set_cons_succ]
  refine wpAnyH_take (i := 3) (v := ?_) rfl (by kernel_rfl) (by kernel_rfl) (by kernel_rfl) (fun _ _ _ h => by cases h.1) (Or.inl ⟨by rfl, ?_⟩) (by assumption) ?_
  rotate_left
  · intro w hSw; (try dsimp only at hSw); go_simp <;> with_reducible rfl
  try simp only [Act.put, List.getElem_toArray, List.getElem_cons_zero, List.getElem_cons_succ, List.setIfInBounds_toArray, List.set_cons_zero, List.set_cons_succ]
  refine wpAnyH_ready (rs := [2]) (by kernel_rfl) (by simp) ?_
  refine AllReadyH.cons rfl (fun K hK => ?_) AllReadyH.nil
  go_simp
  refine (cA.out wd KD.out).mono ?_
  rintro e we ⟨rfl, ke⟩
  (try go_wp2_with fail)
  refine hK.out _ _ ?_ (fun hHeld => ?_)
  · exact hS.out we (KD.out.trans ke (by simp))
  clear hK K
  try simp only [Act.put, List.getElem_toArray, List.getElem_cons_zero, List.getElem_cons_succ, List.setIfInBounds_toArray, List.set_cons_zero, List.set_cons_succ]
  refine wpAnyH_ready (rs := [4]) (by kernel_rfl) (by simp) ?_
  refine AllReadyH.cons rfl (fun K hK => ?_) AllReadyH.nil
  go_simp
  refine (cC.out we).mono ?_
  rintro e wf ⟨rfl, kf⟩
  (try go_wp2_with fail)
  refine hK.out _ _ ?_ (fun hHeld => ?_)
  · exact hS.out wf ((KD.out.trans ke (by simp)).trans kf (by simp))
  clear hK K
  try simp only [Act.put, List.getElem_toArray, List.getElem_cons_zero, List.getElem_cons_succ, List.setIfInBounds_toArray, List.set_cons_zero, List.set_cons_succ]
  refine wpAnyH_take (i := 5) (v := ?_) rfl (by kernel_rfl) (by kernel_rfl) (by kernel_rfl) (fun _ _ _ h => by cases h.1) (Or.inl ⟨by rfl, ?_⟩) (by assumption) ?_
  rotate_left
  · intro w hSw; (try dsimp only at hSw); go_simp <;> with_reducible rfl
  try simp only [Act.put, List.getElem_toArray, List.getElem_cons_zero, List.getElem_cons_succ, List.setIfInBounds_toArray, List.set_cons_zero, List.set_cons_succ]
  refine wpAnyH_done (by kernel_rfl) ⟨rfl, ?_⟩ _
  have KE := hid (K1.out.trans ((KD.out.trans ke (by simp)).trans kf (by simp)) (by simp))
  clear hHeld ke kf
  go_wp2_with fail
  go_returns
  exact ⟨rfl, KE.out⟩
end Go.Proofs.Ytohkjikhlakglaa
end

section
namespace Go.Proofs.Ytohkjikhlakglaa
open Go.RowKit Go.Hay
attribute [local go_sem] Oper.semAt_some
set_option linter.unusedVariables false
set_option linter.unusedSimpArgs false

/-- How a row's value at a place stands to a value. -/
def cAt (L : List Vs) (on : Int) (v : Val) (i : Nat) : Int := cmpV (vAt (L.getD i default).l on) v
theorem cAt_in {L : List Vs} {on : Int} {v : Val} {i : Nat} (h : i < L.length) : cAt L on v i = cmpV (vAt L[i].l on) v := by unfold cAt; simp [h]
/-- Where the search ends: all ahead are below, all from there on are not. -/
def BinP (L : List Vs) (on : Int) (v : Val) (w : World) (e : Ending) (w' : World) : Prop := ∃ (i : Nat) (f : Bool), e = .returned (.tuple #[.int .i64 (i : Int), .bool f]) ∧ i ≤ L.length ∧ (∀ k, k < i → cAt L on v k < 0) ∧ (∀ k, i ≤ k → k < L.length → 0 ≤ cAt L on v k) ∧ Kp [] w w'
set_option maxHeartbeats 16000000 in
set_option maxRecDepth 100000 in
theorem cBinS (ra : Option Addr) (rc : Nat) (L : List Vs) (v : Val) (qo : Nat) (on : Int) (w : World) (hs : VsE.See w ra L) (hx : ∀ x ∈ L, x.lies w) (ho : w.cell? ⟨qo, 0, none⟩ = some (.int .i64 on)) (hl : L.length ≤ 4000000000000) (hm : ∀ i j, i ≤ j → j < L.length → cAt L on v j < 0 → cAt L on v i < 0) :
    Calls Try.prog 57 #[.slice ra L.length rc, .agg #[.int .i64 v.k, .bool v.b, .int .i64 v.n, .string v.t], .func (.func 58) #[] #[.pointer (some ⟨qo, 0, none⟩)]] w (BinP L on v w) := by
  obtain ⟨vk, vb, vn, vt⟩ := v
  dsimp only
  obtain ⟨w1, hw1, k1, b1⟩ : ∃ w1, w.alloc (.cells #[.int .i64 vk, .bool vb, .int .i64 vn, .string vt] 47) = w1 ∧ Kp [] w w1 ∧ Bn w1 w.heap.size [.int .i64 vk, .bool vb, .int .i64 vn, .string vt] := ⟨_, rfl, (Kp.refl _ _).alloc _, Bn.new w _ _⟩
  obtain ⟨q4, hq4⟩ : ∃ q, w.heap.size = q := ⟨_, rfl⟩
  rw [hq4] at b1
  have hB : Hid (∀ A, Kp [] w1 A → (A.cell? ⟨q4, 0, none⟩ = some (.int .i64 vk) ∧ A.cell? ⟨q4, 1, none⟩ = some (.bool vb) ∧ A.cell? ⟨q4, 2, none⟩ = some (.int .i64 vn) ∧ A.cell? ⟨q4, 3, none⟩ = some (.string vt))) := fun A k => ⟨(b1.kept k).get 0 _ rfl, (b1.kept k).get 1 _ rfl, (b1.kept k).get 2 _ rfl, (b1.kept k).get 3 _ rfl⟩
  have HS := hid hs
  have HX := hid hx
  have HO := hid ho
  have HM := hid hm
  have K1 := hid k1
  clear hs hx ho hm k1 b1
  go_enter Try.func57, Try.ntmps57
  go_wp2_with fail
  go_loopw [9, 10] (fun vi vj wr => ∃ (i j : Nat), vi = .int .i64 (i : Int) ∧ vj = .int .i64 (j : Int) ∧ i ≤ j ∧ j ≤ L.length ∧ Hid (∀ k, k < i → cAt L on ⟨vk, vb, vn, vt⟩ k < 0) ∧ Hid (∀ k, j ≤ k → k < L.length → 0 ≤ cAt L on ⟨vk, vb, vn, vt⟩ k) ∧ Hid (Kp [] w1 wr)) (fun vi vj _ => (intOf vj).toNat - (intOf vi).toNat)
  case atStart => exact ⟨0, L.length, rfl, rfl, Nat.zero_le _, Nat.le_refl _, fun k hk => by omega, fun k h1 h2 => by omega, hid (Kp.refl _ _)⟩
  case round =>
    obtain ⟨i, j, rfl, rfl, hij, hjn, hlo, hhi, hk⟩ := hrel
    by_cases hlt : i < j
    · obtain ⟨t, ht⟩ : ∃ t : Nat, t = i + j := ⟨_, rfl⟩
      obtain ⟨h, hh0⟩ : ∃ h : Nat, h = t / 2 := ⟨_, rfl⟩
      have et : (i : Int) + (j : Int) = (t : Int) := by omega
      have et1 : (-9223372036854775808 : Int) ≤ (i : Int) + (j : Int) := by omega
      have et2 : (i : Int) + (j : Int) ≤ 9223372036854775807 := by omega
      have et3 : (0 : Int) ≤ (t : Int) := by omega
      have et4 : (t : Int) ≤ 9223372036854775807 := by omega
      have et5 : (t : Int) < 18446744073709551616 := by omega
      have eh : (t : Int) / 2 = (h : Int) := by omega
      have eh2 : (h : Int) ≤ 9223372036854775807 := by omega
      have eu : IntKind.u64.wrap (t : Int) = (t : Int) := by rw [IntKind.wrap_u64]; omega
      have ew : IntKind.i64.wrap (h : Int) = (h : Int) := by rw [IntKind.wrap_i64]; omega
      have ewt : IntKind.i64.wrap (t : Int) = (t : Int) := by rw [IntKind.wrap_i64]; omega
      have hh : h < L.length := by omega
      have hhi2 : i ≤ h ∧ h < j := by omega
      have d1 : (i : Int) < (j : Int) := by omega
      have eh3 : (0 : Int) ≤ (h : Int) := by omega
      have eh4 : (h : Int) < (L.length : Int) := by omega
      have eh5 : (h : Int) + 1 ≤ 9223372036854775807 := by omega
      have eh6 : (-9223372036854775808 : Int) ≤ (h : Int) + 1 := by omega
      have hce : Hid (cAt L on ⟨vk, vb, vn, vt⟩ h = cmpV (vAt L[h].l on) ⟨vk, vb, vn, vt⟩) := cAt_in hh
      have hxj : L[h]? = some L[h] := by simp [hh]
      obtain ⟨g, o, ea, c0⟩ := vsAt HS.out hxj
      have hlj := HX.out L[h] (List.getElem_mem hh)
      have hcc := hlj.cap
      have hcm := hlj.most
      unfold maxLen at hcm
      have cC : Hid (∀ A, Kp [] w1 A → Calls Try.prog 58 #[.slice L[h].a L[h].l.length L[h].c, .agg #[.int .i64 vk, .bool vb, .int .i64 vn, .string vt], .pointer (some ⟨qo, 0, none⟩)] A fun e w' => e = .returned (.int .i64 (cmpV (vAt L[h].l on) ⟨vk, vb, vn, vt⟩)) ∧ Kp [] A w') := fun A k => cAlikeC _ _ _ ⟨vk, vb, vn, vt⟩ qo on A (hlj.see.kept (K1.out.trans k (by simp))) (by omega) (kpAt (K1.out.trans k (by simp)) HO.out)
      obtain ⟨cc, hcc2⟩ : ∃ z, Hid (cmpV (vAt L[h].l on) ⟨vk, vb, vn, vt⟩ = z) := ⟨cmpV (vAt L[h].l on) ⟨vk, vb, vn, vt⟩, rfl⟩
      simp only [hcc2.out] at cC
      obtain ⟨x, hx⟩ : ∃ x, Hid (L[h] = x) := ⟨L[h], rfl⟩
      rw [hx.out] at c0
      simp only [hx.out] at cC
      have hcl : Hid (∀ A, Kp [] w1 A → A.cell? ⟨g, o + h, none⟩ = some (.slice x.a x.l.length x.c)) := fun A k => kpAt (K1.out.trans k (by simp)) c0
      obtain ⟨xa, xc, xl⟩ := x
      dsimp only at hcl cC
      subst ea
      clear c0 hxj hlj hcc hcm
      have hce2 : Hid (cAt L on ⟨vk, vb, vn, vt⟩ h = cc) := by show _ = _; rw [hce.out, hcc2.out]
      clear hh0 ht
      go_wp2_with fail
      refine wp_noPanicY ?_
      refine wp_region_held_drew (S := fun A => (A.cell? ⟨g, o + h, none⟩ = some (.slice xa xl.length xc)) ∧ A.cell? ⟨q4, 0, none⟩ = some (.int .i64 vk) ∧ A.cell? ⟨q4, 1, none⟩ = some (.bool vb) ∧ A.cell? ⟨q4, 2, none⟩ = some (.int .i64 vn) ∧ A.cell? ⟨q4, 3, none⟩ = some (.string vt)) (by kernel_rfl) ?_ (fun hHeld => ?_)
      · exact ⟨hcl.out _ (hk.out.drew), hB.out _ (hk.out.drew)⟩
      have KD : Hid (Kp [] w1 wr.drew) := hid hk.out.drew
      generalize wr.drew = wd at *
      refine wpAnyH_take (i := 0) (v := ?_) rfl (by kernel_rfl) (by kernel_rfl) (by kernel_rfl) (fun _ _ _ h => by cases h.1) (Or.inl ⟨by rfl, ?_⟩) (by assumption) ?_
      rotate_left
      · intro w hSw; (try dsimp only at hSw); go_simp <;> with_reducible rfl
      try simp only [Act.put, List.getElem_toArray, List.getElem_cons_zero, List.getElem_cons_succ, List.setIfInBounds_toArray, List.set_cons_zero, List.set_cons_succ]
      refine wpAnyH_take (i := 1) (v := ?_) rfl (by kernel_rfl) (by kernel_rfl) (by kernel_rfl) (fun _ _ _ h => by cases h.1) (Or.inl ⟨by rfl, ?_⟩) (by assumption) ?_
      rotate_left
      · intro w hSw; (try dsimp only at hSw); go_simp <;> with_reducible rfl
      try simp only [Act.put, List.getElem_toArray, List.getElem_cons_zero, List.getElem_cons_succ, List.setIfInBounds_toArray, List.set_cons_zero, List.set_cons_succ]
      refine wpAnyH_take (i := 2) (v := ?_) rfl (by kernel_rfl) (by kernel_rfl) (by kernel_rfl) (fun _ _ _ h => by cases h.1) (Or.inl ⟨by rfl, ?_⟩) (by assumption) ?_
      rotate_left
      · intro w hSw; (try dsimp only at hSw); go_simp <;> with_reducible rfl
      try simp only [Act.put, List.getElem_toArray, List.getElem_cons_zero, List.getElem_cons_succ, List.setIfInBounds_toArray, List.set_cons_zero, List.set_cons_succ]
      refine wpAnyH_take (i := 3) (v := ?_) rfl (by kernel_rfl) (by kernel_rfl) (by kernel_rfl) (fun _ _ _ h => by cases h.1) (Or.inl ⟨by rfl, ?_⟩) (by assumption) ?_
      rotate_left
      · intro w hSw; (try dsimp only at hSw); go_simp <;> with_reducible rfl
      try simp only [Act.put, List.getElem_toArray, List.getElem_cons_zero, List.getElem_cons_succ, List.setIfInBounds_toArray, List.set_cons_zero, List.set_cons_succ]
      refine wpAnyH_take (i := 4) (v := ?_) rfl (by kernel_rfl) (by kernel_rfl) (by kernel_rfl) (fun _ _ _ h => by cases h.1) (Or.inl ⟨by rfl, ?_⟩) (by assumption) ?_
      rotate_left
      · intro w hSw; (try dsimp only at hSw); go_simp <;> with_reducible rfl
      try simp only [Act.put, List.getElem_toArray, List.getElem_cons_zero, List.getElem_cons_succ, List.setIfInBounds_toArray, List.set_cons_zero, List.set_cons_succ]
      refine wpAnyH_take (i := 5) (v := ?_) rfl (by kernel_rfl) (by kernel_rfl) (by kernel_rfl) (fun _ _ _ h => by cases h.1) (Or.inl ⟨by rfl, ?_⟩) (by assumption) ?_
      rotate_left
      · intro w hSw; (try dsimp only at hSw); go_simp <;> with_reducible rfl
      try simp only [Act.put, List.getElem_toArray, List.getElem_cons_zero, List.getElem_cons_succ, List.setIfInBounds_toArray, List.set_cons_zero, List.set_cons_succ]
      refine wpAnyH_ready (rs := [6]) (by kernel_rfl) (by simp) ?_
      refine AllReadyH.cons rfl (fun K hK => ?_) AllReadyH.nil
      go_simp
      refine (cC.out wd KD.out).mono ?_
      rintro e we ⟨rfl, ke⟩
      (try go_wp2_with fail)
      refine hK.out _ _ ?_ (fun hHeld => ?_)
      · exact ⟨hcl.out we (KD.out.trans ke (by simp)), hB.out we (KD.out.trans ke (by simp))⟩
      clear hK K
      try simp only [Act.put, List.getElem_toArray, List.getElem_cons_zero, List.getElem_cons_succ, List.setIfInBounds_toArray, List.set_cons_zero, List.set_cons_succ]
      have KE := hid (KD.out.trans ke (by simp))
      by_cases hneg : cc < 0
      · have dn : decide (cc < 0) = true := by simpa using hneg
        try simp only [dn]
        refine wpAnyH_take (i := 7) (v := ?_) rfl (by kernel_rfl) (by kernel_rfl) (by kernel_rfl) (fun _ _ _ h => by cases h.1) (Or.inl ⟨by rfl, ?_⟩) (by assumption) ?_
        rotate_left
        · intro w hSw; (try dsimp only at hSw); go_simp <;> with_reducible rfl
        try simp only [Act.put, List.getElem_toArray, List.getElem_cons_zero, List.getElem_cons_succ, List.setIfInBounds_toArray, List.set_cons_zero, List.set_cons_succ]
        try simp only [dn]
        refine wpAnyH_done (by kernel_rfl) ⟨rfl, ?_⟩ _
        clear hHeld ke cC hcl
        go_wp2_with fail
        go_roundw
        case rel => exact ⟨h + 1, j, by simp, rfl, by omega, hjn, fun k hk' => HM.out k h (by omega) hh (by rw [hce2.out]; exact hneg), hhi, KE⟩
        case measure => simp [intOf]; omega
      · have dn : decide (cc < 0) = false := by simpa using hneg
        try simp only [dn]
        refine wpAnyH_take (i := 7) (v := ?_) rfl (by kernel_rfl) (by kernel_rfl) (by kernel_rfl) (fun _ _ _ h => by cases h.1) (Or.inl ⟨by rfl, ?_⟩) (by assumption) ?_
        rotate_left
        · intro w hSw; (try dsimp only at hSw); go_simp <;> with_reducible rfl
        try simp only [Act.put, List.getElem_toArray, List.getElem_cons_zero, List.getElem_cons_succ, List.setIfInBounds_toArray, List.set_cons_zero, List.set_cons_succ]
        try simp only [dn]
        refine wpAnyH_done (by kernel_rfl) ⟨rfl, ?_⟩ _
        clear hHeld ke cC hcl
        go_wp2_with fail
        go_roundw
        case rel => exact ⟨i, h, rfl, rfl, by omega, by omega, hlo, fun k h1 h2 => Int.not_lt.1 (fun hlt' => hneg (by have := HM.out h k h1 h2 hlt'; rw [hce2.out] at this; exact this)), KE⟩
        case measure => simp [intOf]; omega
    · obtain rfl : i = j := by omega
      have d1 : ¬ (i : Int) < (i : Int) := by omega
      have d2 : decide ((i : Int) < (i : Int)) = false := by simp
      by_cases hh : i < L.length
      · have e1 : (i : Int) < (L.length : Int) := by omega
        have e2 : decide ((i : Int) < (L.length : Int)) = true := by simpa using e1
        have e2n : decide (i < L.length) = true := by simpa using hh
        have e3 : (0 : Int) ≤ (i : Int) := by omega
        have hxj : L[i]? = some L[i] := by simp [hh]
        obtain ⟨g, o, ea, c0⟩ := vsAt HS.out hxj
        have hlj := HX.out L[i] (List.getElem_mem hh)
        have hcc := hlj.cap
        have hcm := hlj.most
        unfold maxLen at hcm
        have cC : Hid (∀ A, Kp [] w1 A → Calls Try.prog 58 #[.slice L[i].a L[i].l.length L[i].c, .agg #[.int .i64 vk, .bool vb, .int .i64 vn, .string vt], .pointer (some ⟨qo, 0, none⟩)] A fun e w' => e = .returned (.int .i64 (cmpV (vAt L[i].l on) ⟨vk, vb, vn, vt⟩)) ∧ Kp [] A w') := fun A k => cAlikeC _ _ _ ⟨vk, vb, vn, vt⟩ qo on A (hlj.see.kept (K1.out.trans k (by simp))) (by omega) (kpAt (K1.out.trans k (by simp)) HO.out)
        obtain ⟨cc, hcc2⟩ : ∃ z, Hid (cmpV (vAt L[i].l on) ⟨vk, vb, vn, vt⟩ = z) := ⟨cmpV (vAt L[i].l on) ⟨vk, vb, vn, vt⟩, rfl⟩
        simp only [hcc2.out] at cC
        obtain ⟨x, hx⟩ : ∃ x, Hid (L[i] = x) := ⟨L[i], rfl⟩
        rw [hx.out] at c0
        simp only [hx.out] at cC
        have hcl : Hid (∀ A, Kp [] w1 A → A.cell? ⟨g, o + i, none⟩ = some (.slice x.a x.l.length x.c)) := fun A k => kpAt (K1.out.trans k (by simp)) c0
        obtain ⟨xa, xc, xl⟩ := x
        dsimp only at hcl cC
        subst ea
        clear c0 hxj hlj hcc hcm
        go_wp2_with fail
        refine wp_noPanicY ?_
        refine wp_region_held_drew (S := fun A => (A.cell? ⟨g, o + i, none⟩ = some (.slice xa xl.length xc)) ∧ A.cell? ⟨q4, 0, none⟩ = some (.int .i64 vk) ∧ A.cell? ⟨q4, 1, none⟩ = some (.bool vb) ∧ A.cell? ⟨q4, 2, none⟩ = some (.int .i64 vn) ∧ A.cell? ⟨q4, 3, none⟩ = some (.string vt)) (by kernel_rfl) ?_ (fun hHeld => ?_)
        · exact ⟨hcl.out _ (hk.out.drew), hB.out _ (hk.out.drew)⟩
        have KD : Hid (Kp [] w1 wr.drew) := hid hk.out.drew
        generalize wr.drew = wd at *
        refine wpAnyH_take (i := 0) (v := ?_) rfl (by kernel_rfl) (by kernel_rfl) (by kernel_rfl) (fun _ _ _ h => by cases h.1) (Or.inl ⟨by rfl, ?_⟩) (by assumption) ?_
        rotate_left
        · intro w hSw; (try dsimp only at hSw); go_simp <;> with_reducible rfl
        try simp only [Act.put, List.getElem_toArray, List.getElem_cons_zero, List.getElem_cons_succ, List.setIfInBounds_toArray, List.set_cons_zero, List.set_cons_succ]
        refine wpAnyH_take (i := 1) (v := ?_) rfl (by kernel_rfl) (by kernel_rfl) (by kernel_rfl) (fun _ _ _ h => by cases h.1) (Or.inl ⟨by rfl, ?_⟩) (by assumption) ?_
        rotate_left
        · intro w hSw; (try dsimp only at hSw); go_simp <;> with_reducible rfl
        try simp only [Act.put, List.getElem_toArray, List.getElem_cons_zero, List.getElem_cons_succ, List.setIfInBounds_toArray, List.set_cons_zero, List.set_cons_succ]
        refine wpAnyH_take (i := 2) (v := ?_) rfl (by kernel_rfl) (by kernel_rfl) (by kernel_rfl) (fun _ _ _ h => by cases h.1) (Or.inl ⟨by rfl, ?_⟩) (by assumption) ?_
        rotate_left
        · intro w hSw; (try dsimp only at hSw); go_simp <;> with_reducible rfl
        try simp only [Act.put, List.getElem_toArray, List.getElem_cons_zero, List.getElem_cons_succ, List.setIfInBounds_toArray, List.set_cons_zero, List.set_cons_succ]
        refine wpAnyH_take (i := 3) (v := ?_) rfl (by kernel_rfl) (by kernel_rfl) (by kernel_rfl) (fun _ _ _ h => by cases h.1) (Or.inl ⟨by rfl, ?_⟩) (by assumption) ?_
        rotate_left
        · intro w hSw; (try dsimp only at hSw); go_simp <;> with_reducible rfl
        try simp only [Act.put, List.getElem_toArray, List.getElem_cons_zero, List.getElem_cons_succ, List.setIfInBounds_toArray, List.set_cons_zero, List.set_cons_succ]
        try simp only [e2, e2n]
        refine wpAnyH_take (i := 4) (v := ?_) rfl (by kernel_rfl) (by kernel_rfl) (by kernel_rfl) (fun _ _ _ h => by cases h.1) (Or.inl ⟨by rfl, ?_⟩) (by assumption) ?_
        rotate_left
        · intro w hSw; (try dsimp only at hSw); go_simp <;> with_reducible rfl
        try simp only [Act.put, List.getElem_toArray, List.getElem_cons_zero, List.getElem_cons_succ, List.setIfInBounds_toArray, List.set_cons_zero, List.set_cons_succ]
        try simp only [e2, e2n]
        refine wpAnyH_take (i := 5) (v := ?_) rfl (by kernel_rfl) (by kernel_rfl) (by kernel_rfl) (fun _ _ _ h => by cases h.1) (Or.inl ⟨by rfl, ?_⟩) (by assumption) ?_
        rotate_left
        · intro w hSw; (try dsimp only at hSw); go_simp <;> with_reducible rfl
        try simp only [Act.put, List.getElem_toArray, List.getElem_cons_zero, List.getElem_cons_succ, List.setIfInBounds_toArray, List.set_cons_zero, List.set_cons_succ]
        refine wpAnyH_take (i := 6) (v := ?_) rfl (by kernel_rfl) (by kernel_rfl) (by kernel_rfl) (fun _ _ _ h => by cases h.1) (Or.inl ⟨by rfl, ?_⟩) (by assumption) ?_
        rotate_left
        · intro w hSw; (try dsimp only at hSw); go_simp <;> with_reducible rfl
        try simp only [Act.put, List.getElem_toArray, List.getElem_cons_zero, List.getElem_cons_succ, List.setIfInBounds_toArray, List.set_cons_zero, List.set_cons_succ]
        refine wpAnyH_take (i := 7) (v := ?_) rfl (by kernel_rfl) (by kernel_rfl) (by kernel_rfl) (fun _ _ _ h => by cases h.1) (Or.inl ⟨by rfl, ?_⟩) (by assumption) ?_
        rotate_left
        · intro w hSw; (try dsimp only at hSw); go_simp <;> with_reducible rfl
        try simp only [Act.put, List.getElem_toArray, List.getElem_cons_zero, List.getElem_cons_succ, List.setIfInBounds_toArray, List.set_cons_zero, List.set_cons_succ]
        refine wpAnyH_take (i := 8) (v := ?_) rfl (by kernel_rfl) (by kernel_rfl) (by kernel_rfl) (fun _ _ _ h => by cases h.1) (Or.inl ⟨by rfl, ?_⟩) (by assumption) ?_
        rotate_left
        · intro w hSw; (try dsimp only at hSw); go_simp <;> with_reducible rfl
        try simp only [Act.put, List.getElem_toArray, List.getElem_cons_zero, List.getElem_cons_succ, List.setIfInBounds_toArray, List.set_cons_zero, List.set_cons_succ]
        refine wpAnyH_take (i := 9) (v := ?_) rfl (by kernel_rfl) (by kernel_rfl) (by kernel_rfl) (fun _ _ _ h => by cases h.1) (Or.inl ⟨by rfl, ?_⟩) (by assumption) ?_
        rotate_left
        · intro w hSw; (try dsimp only at hSw); go_simp <;> with_reducible rfl
        try simp only [Act.put, List.getElem_toArray, List.getElem_cons_zero, List.getElem_cons_succ, List.setIfInBounds_toArray, List.set_cons_zero, List.set_cons_succ]
        refine wpAnyH_take (i := 10) (v := ?_) rfl (by kernel_rfl) (by kernel_rfl) (by kernel_rfl) (fun _ _ _ h => by cases h.1) (Or.inl ⟨by rfl, ?_⟩) (by assumption) ?_
        rotate_left
        · intro w hSw; (try dsimp only at hSw); go_simp <;> with_reducible rfl
        try simp only [Act.put, List.getElem_toArray, List.getElem_cons_zero, List.getElem_cons_succ, List.setIfInBounds_toArray, List.set_cons_zero, List.set_cons_succ]
        refine wpAnyH_ready (rs := [11]) (by kernel_rfl) (by simp) ?_
        refine AllReadyH.cons rfl (fun K hK => ?_) AllReadyH.nil
        go_simp
        refine (cC.out wd KD.out).mono ?_
        rintro e we ⟨rfl, ke⟩
        (try go_wp2_with fail)
        refine hK.out _ _ ?_ (fun hHeld => ?_)
        · exact ⟨hcl.out we (KD.out.trans ke (by simp)), hB.out we (KD.out.trans ke (by simp))⟩
        clear hK K
        try simp only [Act.put, List.getElem_toArray, List.getElem_cons_zero, List.getElem_cons_succ, List.setIfInBounds_toArray, List.set_cons_zero, List.set_cons_succ]
        refine wpAnyH_take (i := 12) (v := ?_) rfl (by kernel_rfl) (by kernel_rfl) (by kernel_rfl) (fun _ _ _ h => by cases h.1) (Or.inl ⟨by rfl, ?_⟩) (by assumption) ?_
        rotate_left
        · intro w hSw; (try dsimp only at hSw); go_simp <;> with_reducible rfl
        try simp only [Act.put, List.getElem_toArray, List.getElem_cons_zero, List.getElem_cons_succ, List.setIfInBounds_toArray, List.set_cons_zero, List.set_cons_succ]
        refine wpAnyH_take (i := 13) (v := ?_) rfl (by kernel_rfl) (by kernel_rfl) (by kernel_rfl) (fun _ _ _ h => by cases h.1) (Or.inl ⟨by rfl, ?_⟩) (by assumption) ?_
        rotate_left
        · intro w hSw; (try dsimp only at hSw); go_simp <;> with_reducible rfl
        try simp only [Act.put, List.getElem_toArray, List.getElem_cons_zero, List.getElem_cons_succ, List.setIfInBounds_toArray, List.set_cons_zero, List.set_cons_succ]
        refine wpAnyH_take (i := 14) (v := ?_) rfl (by kernel_rfl) (by kernel_rfl) (by kernel_rfl) (fun _ _ _ h => by cases h.1) (Or.inl ⟨by rfl, ?_⟩) (by assumption) ?_
        rotate_left
        · intro w hSw; (try dsimp only at hSw); go_simp <;> with_reducible rfl
        try simp only [Act.put, List.getElem_toArray, List.getElem_cons_zero, List.getElem_cons_succ, List.setIfInBounds_toArray, List.set_cons_zero, List.set_cons_succ]
        refine wpAnyH_take (i := 15) (v := ?_) rfl (by kernel_rfl) (by kernel_rfl) (by kernel_rfl) (fun _ _ _ h => by cases h.1) (Or.inl ⟨by rfl, ?_⟩) (by assumption) ?_
        rotate_left
        · intro w hSw; (try dsimp only at hSw); go_simp <;> with_reducible rfl
        try simp only [Act.put, List.getElem_toArray, List.getElem_cons_zero, List.getElem_cons_succ, List.setIfInBounds_toArray, List.set_cons_zero, List.set_cons_succ]
        refine wpAnyH_done (by kernel_rfl) ⟨rfl, ?_⟩ _
        have KE := hid (KD.out.trans ke (by simp))
        clear hHeld ke cC hcl
        go_wp2_with fail
        refine bodyPost_ret (results_tmp2 rfl _ _ _) rfl ?_
        exact ⟨i, _, rfl, hjn, hlo.out, hhi.out, K1.out.trans KE.out (by simp)⟩
      · have e1 : ¬ (i : Int) < (L.length : Int) := by omega
        have e2 : decide ((i : Int) < (L.length : Int)) = false := by simp; omega
        have e2n : decide (i < L.length) = false := by simp; omega
        go_wp2_with fail
        refine wp_noPanicY ?_
        refine wp_region_held_drew (S := fun A => True) (by kernel_rfl) trivial (fun hHeld => ?_)
        have KD : Hid (Kp [] w1 wr.drew) := hid hk.out.drew
        generalize wr.drew = wd at *
        refine wpAnyH_take (i := 0) (v := ?_) rfl (by kernel_rfl) (by kernel_rfl) (by kernel_rfl) (fun _ _ _ h => by cases h.1) (Or.inl ⟨by rfl, ?_⟩) (by assumption) ?_
        rotate_left
        · intro w hSw; (try dsimp only at hSw); go_simp <;> with_reducible rfl
        try simp only [Act.put, List.getElem_toArray, List.getElem_cons_zero, List.getElem_cons_succ, List.setIfInBounds_toArray, List.set_cons_zero, List.set_cons_succ]
        refine wpAnyH_take (i := 1) (v := ?_) rfl (by kernel_rfl) (by kernel_rfl) (by kernel_rfl) (fun _ _ _ h => by cases h.1) (Or.inl ⟨by rfl, ?_⟩) (by assumption) ?_
        rotate_left
        · intro w hSw; (try dsimp only at hSw); go_simp <;> with_reducible rfl
        try simp only [Act.put, List.getElem_toArray, List.getElem_cons_zero, List.getElem_cons_succ, List.setIfInBounds_toArray, List.set_cons_zero, List.set_cons_succ]
        refine wpAnyH_take (i := 2) (v := ?_) rfl (by kernel_rfl) (by kernel_rfl) (by kernel_rfl) (fun _ _ _ h => by cases h.1) (Or.inl ⟨by rfl, ?_⟩) (by assumption) ?_
        rotate_left
        · intro w hSw; (try dsimp only at hSw); go_simp <;> with_reducible rfl
        try simp only [Act.put, List.getElem_toArray, List.getElem_cons_zero, List.getElem_cons_succ, List.setIfInBounds_toArray, List.set_cons_zero, List.set_cons_succ]
        refine wpAnyH_take (i := 3) (v := ?_) rfl (by kernel_rfl) (by kernel_rfl) (by kernel_rfl) (fun _ _ _ h => by cases h.1) (Or.inl ⟨by rfl, ?_⟩) (by assumption) ?_
        rotate_left
        · intro w hSw; (try dsimp only at hSw); go_simp <;> with_reducible rfl
        try simp only [Act.put, List.getElem_toArray, List.getElem_cons_zero, List.getElem_cons_succ, List.setIfInBounds_toArray, List.set_cons_zero, List.set_cons_succ]
        try simp only [e2, e2n]
        refine wpAnyH_take (i := 4) (v := ?_) rfl (by kernel_rfl) (by kernel_rfl) (by kernel_rfl) (fun _ _ _ h => by cases h.1) (Or.inl ⟨by rfl, ?_⟩) (by assumption) ?_
        rotate_left
        · intro w hSw; (try dsimp only at hSw); go_simp <;> with_reducible rfl
        try simp only [Act.put, List.getElem_toArray, List.getElem_cons_zero, List.getElem_cons_succ, List.setIfInBounds_toArray, List.set_cons_zero, List.set_cons_succ]
        try simp only [e2, e2n]
        refine wpAnyH_take (i := 5) (v := undef) rfl (by kernel_rfl) (by kernel_rfl) (by kernel_rfl) (fun _ _ _ h => by cases h.1) (Or.inr ⟨by rfl, rfl⟩) (by assumption) ?_
        try simp only [Act.put, List.getElem_toArray, List.getElem_cons_zero, List.getElem_cons_succ, List.setIfInBounds_toArray, List.set_cons_zero, List.set_cons_succ]
        refine wpAnyH_take (i := 6) (v := undef) rfl (by kernel_rfl) (by kernel_rfl) (by kernel_rfl) (fun _ _ _ h => by cases h.1) (Or.inr ⟨by rfl, rfl⟩) (by assumption) ?_
        try simp only [Act.put, List.getElem_toArray, List.getElem_cons_zero, List.getElem_cons_succ, List.setIfInBounds_toArray, List.set_cons_zero, List.set_cons_succ]
        refine wpAnyH_take (i := 7) (v := undef) rfl (by kernel_rfl) (by kernel_rfl) (by kernel_rfl) (fun _ _ _ h => by cases h.1) (Or.inr ⟨by rfl, rfl⟩) (by assumption) ?_
        try simp only [Act.put, List.getElem_toArray, List.getElem_cons_zero, List.getElem_cons_succ, List.setIfInBounds_toArray, List.set_cons_zero, List.set_cons_succ]
        refine wpAnyH_take (i := 8) (v := undef) rfl (by kernel_rfl) (by kernel_rfl) (by kernel_rfl) (fun _ _ _ h => by cases h.1) (Or.inr ⟨by rfl, rfl⟩) (by assumption) ?_
        try simp only [Act.put, List.getElem_toArray, List.getElem_cons_zero, List.getElem_cons_succ, List.setIfInBounds_toArray, List.set_cons_zero, List.set_cons_succ]
        refine wpAnyH_take (i := 9) (v := undef) rfl (by kernel_rfl) (by kernel_rfl) (by kernel_rfl) (fun _ _ _ h => by cases h.1) (Or.inr ⟨by rfl, rfl⟩) (by assumption) ?_
        try simp only [Act.put, List.getElem_toArray, List.getElem_cons_zero, List.getElem_cons_succ, List.setIfInBounds_toArray, List.set_cons_zero, List.set_cons_succ]
        refine wpAnyH_take (i := 10) (v := undef) rfl (by kernel_rfl) (by kernel_rfl) (by kernel_rfl) (fun _ _ _ h => by cases h.1) (Or.inr ⟨by rfl, rfl⟩) (by assumption) ?_
        try simp only [Act.put, List.getElem_toArray, List.getElem_cons_zero, List.getElem_cons_succ, List.setIfInBounds_toArray, List.set_cons_zero, List.set_cons_succ]
        refine wpAnyH_take (i := 11) (v := undef) rfl (by kernel_rfl) (by kernel_rfl) (by kernel_rfl) (fun _ _ _ h => by cases h.1) (Or.inr ⟨by rfl, rfl⟩) (by assumption) ?_
        try simp only [Act.put, List.getElem_toArray, List.getElem_cons_zero, List.getElem_cons_succ, List.setIfInBounds_toArray, List.set_cons_zero, List.set_cons_succ]
        refine wpAnyH_take (i := 12) (v := undef) rfl (by kernel_rfl) (by kernel_rfl) (by kernel_rfl) (fun _ _ _ h => by cases h.1) (Or.inr ⟨by rfl, rfl⟩) (by assumption) ?_
        try simp only [Act.put, List.getElem_toArray, List.getElem_cons_zero, List.getElem_cons_succ, List.setIfInBounds_toArray, List.set_cons_zero, List.set_cons_succ]
        refine wpAnyH_take (i := 13) (v := ?_) rfl (by kernel_rfl) (by kernel_rfl) (by kernel_rfl) (fun _ _ _ h => by cases h.1) (Or.inl ⟨by rfl, ?_⟩) (by assumption) ?_
        rotate_left
        · intro w hSw; (try dsimp only at hSw); go_simp <;> with_reducible rfl
        try simp only [Act.put, List.getElem_toArray, List.getElem_cons_zero, List.getElem_cons_succ, List.setIfInBounds_toArray, List.set_cons_zero, List.set_cons_succ]
        refine wpAnyH_take (i := 14) (v := ?_) rfl (by kernel_rfl) (by kernel_rfl) (by kernel_rfl) (fun _ _ _ h => by cases h.1) (Or.inl ⟨by rfl, ?_⟩) (by assumption) ?_
        rotate_left
        · intro w hSw; (try dsimp only at hSw); go_simp <;> with_reducible rfl
        try simp only [Act.put, List.getElem_toArray, List.getElem_cons_zero, List.getElem_cons_succ, List.setIfInBounds_toArray, List.set_cons_zero, List.set_cons_succ]
        refine wpAnyH_take (i := 15) (v := ?_) rfl (by kernel_rfl) (by kernel_rfl) (by kernel_rfl) (fun _ _ _ h => by cases h.1) (Or.inl ⟨by rfl, ?_⟩) (by assumption) ?_
        rotate_left
        · intro w hSw; (try dsimp only at hSw); go_simp <;> with_reducible rfl
        try simp only [Act.put, List.getElem_toArray, List.getElem_cons_zero, List.getElem_cons_succ, List.setIfInBounds_toArray, List.set_cons_zero, List.set_cons_succ]
        refine wpAnyH_done (by kernel_rfl) ⟨rfl, ?_⟩ _
        clear hHeld
        go_wp2_with fail
        refine bodyPost_ret (results_tmp2 rfl _ _ _) rfl ?_
        exact ⟨i, _, rfl, hjn, hlo.out, hhi.out, K1.out.trans KD.out (by simp)⟩
end Go.Proofs.Ytohkjikhlakglaa
end

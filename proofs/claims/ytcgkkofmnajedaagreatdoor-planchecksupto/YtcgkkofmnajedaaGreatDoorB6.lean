/- What the proof stands on: contracts of functions that the statement calls, and plain lemmas. No statement of the seat is proved here. -/
import Derived.Test.YtcgkkofmnajedaaGreatDoorB5
set_option maxHeartbeats 64000000
set_option maxRecDepth 100000
set_option linter.unusedVariables false
set_option linter.unusedSimpArgs false
section
namespace Go.Proofs.YtcgkkofmnajedaaGreatDoor
open Go.RowKit Go.Hay
attribute [local go_sem] Oper.semAt_some
def SortPM (N : Nat) (ra : Option Addr) (rc : Nat) (n : Nat) (S : List (List Val × List Val)) (W : World) (e : Ending) (w' : World) : Prop := (∃ v, e = .returned v) ∧ ∃ L', L'.length = n ∧ Lom N ra rc L' w' ∧ L'.map Mb.pr = S ∧ Kp (blk ra) W w'
def LomP (S : List (List Val × List Val)) (w : World) (e : Ending) (w' : World) : Prop := ∃ ra rc L, e = .returned (.slice ra L.length rc) ∧ Lom w.heap.size ra rc L w' ∧ L.map Mb.pr = S ∧ Kp [] w w'
theorem cMembersG (d : Nat) (hd : 3 ≤ d) (fr : Bool) (g : Nat) (lb : Array Value) (R : List (List Val)) (js : List Nat) (ba : Option Addr) (bc : Nat) (bs : List Int) (S : List (List Val × List Val)) (w : World) (heg : ∀ args w, (callFunc g args).run Tryz.prog w = .ok (.enter g args) w) (hseq : RowSeq fr (d - 1) g lb R js w) (hjs : ∀ j ∈ js, j < w.heap.size) (hR : R.length ≤ 4000000000000) (hRl : ∀ l ∈ R, l.length ≤ 3600000000000)
  (hb : IntE.Row w (.slice ba bs.length bc) bs) (hbl : bs.length ≤ 3000000000000)
  (hsort : ∀ (W : World) (N : Nat) (ra : Option Addr) (rc : Nat) (L : List Mb), Lom N ra rc L W → L.map Mb.pr = mbR bs R → Calls Tryz.prog 165 #[.slice ra L.length rc, .func (.func 166) #[] #[]] W (SortPM N ra rc L.length S W)) :
  CallsIn Fence.wide d Tryz.prog 142 #[.func (.func g) #[] lb, .slice ba bs.length bc] w (LomP S w) := by
 obtain ⟨w0, hw0, k0, b0⟩ : ∃ w0, w.alloc (.cells #[.slice ba bs.length bc] 27) = w0 ∧ Kp [] w w0 ∧ Bn w0 w.heap.size [.slice ba bs.length bc] := ⟨_, rfl, (Kp.refl _ _).alloc _, Bn.new w _ _⟩
 obtain ⟨w1, hw1, k1, b1⟩ : ∃ w1, w0.alloc (.cells #[.slice none 0 0] 201) = w1 ∧ Kp [] w0 w1 ∧ Bn w1 w0.heap.size [.slice none 0 0] := ⟨_, rfl, (Kp.refl _ _).alloc _, Bn.new w0 _ _⟩
 obtain ⟨q3, hq3⟩ : ∃ q, Hid (w.heap.size = q) := ⟨_, rfl⟩
 obtain ⟨q5, hq5⟩ : ∃ q, Hid (w0.heap.size = q) := ⟨_, rfl⟩
 rw [hq3.out] at b0;rw [hq5.out] at b1;have hq51 : q5 < w1.heap.size := b1.lt (by simp)
 have hq35 : q3 < q5 := by rw [← hq5.out]; exact b0.lt (by simp)
 have hz1 : w1.heap.size = w.heap.size + 2 := by rw [← hw1, ← hw0]; simp
 have hzq : q3 = w.heap.size ∧ q5 = w.heap.size + 1 := ⟨hq3.out.symm, by rw [← hq5.out, ← hw0]; simp⟩
 have HZQ := hid hzq
 have b01 := b0.kept k1
 have hI0 : GamI w1 q5 R bs ⟨false, 0, [], js, 0, none⟩ w1 := ⟨none, 0, [], ⟨rfl, rfl, rfl, Nat.le_refl _, fun _ _ _ => rfl, fun h => (by cases h), fun j hj => ⟨by have := hjs j hj; simp; omega, by have := hjs j hj; omega, by have := hjs j hj; omega⟩, fun j hj => by have := hjs j hj; omega, by simp⟩, b1.get 0 _ rfl, b1.free 0, Lom.nil _ _, rfl, by simp [blk], by simp, fun _ => rfl, fun x hx => (by cases hx)⟩
 have HI0 := hid hI0
 have kw1 := k0.trans k1 (by simp)
 have HK1 := hid kw1
 have HSQ := hid hseq
 have HST := hid hsort
 have HBS := hid hb
 have hz1' := hid hz1
 have HB := hid b01
 have hKR : Hid (KeepR ⟨false, 0, [], js, 0, none⟩ w w1) := ⟨KeepB.ofKp kw1 (by simp), fun h => (by cases h)⟩
 clear hI0 k0 k1 b0 b1 hseq hjs hz1 b01 kw1 hsort hzq hb;refine callsIn_of_wp_marks Tryz.func142 rfl trivial ?_ rfl;simp only [Tryz.ntmps142, List.size_toArray, List.length_cons, List.length_nil, Nat.reduceAdd, Nat.reduceSub, Array.replicate_succ, Array.replicate_zero, List.push_toArray, List.append_toArray, List.nil_append, List.cons_append];refine wpIn_wide.2 ?_;have hq3' := hq3.out
 have hq5' := hq5.out
 go_wp2_with fail;refine (wpIn_wide (n := d)).1 ?_
 refine wpRangeX rfl (by omega) (gf := g) (lb := lb) rfl trivial heg
  HSQ.out (fun _ => rfl) KeepR.trans (fun s W o => KeepR.alloc s W o) hKR.out
  (GamI w1 q5 R bs) (fun _ _ _ => False) GamI.own (fun _ _ _ _ _ h _ _ => h) HI0.out
  (fun s s' A B ⟨_, _, _, h⟩ ht k o hk ho => h.co.keeps ht k o hk ho) (fun _ _ _ _ h => h.elim) (fun s s' A B hz h ht => h.step hq51 hz ht) (fun _ _ _ _ h => h.elim)
  (fun s W o' ⟨_, _, _, h⟩ => h.co.recs o') (fun s x W o' ⟨_, _, _, h⟩ => CoR.recs (S := [q5]) (s := s) ⟨h.co.os, h.co.tape, h.co.output, h.co.size, h.co.low, h.co.mde, h.co.js, h.co.jl, h.co.ql⟩ o') (fun _ _ _ _ _ h => h.elim)
  (fun x => { tmps := #[.func (.func g) #[] lb, .slice ba bs.length bc, undef, .pointer (some ⟨q3, 0, none⟩), .slice none 0 0, .pointer (some ⟨q5, 0, none⟩), .slice x.a x.l.length x.c, .func (.func g) #[] lb, .slice x.a x.l.length x.c, undef, undef, undef, undef, undef, undef, undef, undef, undef, undef, undef, undef], defers := [] }) ?assign ?body ?done ?stop
 case assign =>
  intro l x W C hC
  gi_wp2_with fail;exact hC
 case body =>
  rintro l0 s ⟨xa, xc, xl⟩ W ⟨ra, rc, L, h⟩ hp;obtain ⟨hRi, hxl⟩ := h.pend _ hp;dsimp only at hRi ⊢;have hxn : xl.length ≤ 3600000000000 := hRl _ (List.mem_of_getElem? hRi)
  have hiR : s.i < R.length := (List.getElem?_eq_some_iff.1 hRi).1
  have hLl : L.length ≤ 4000000000000 := by
   have h1 := congrArg List.length h.took
   unfold mbR at h1
   simp at h1
   omega
  have hsn := mbR_snoc bs R s.i xl hRi
  have k1W := h.co.kp
  have b3 := HB.out.keptS k1W (by simp; omega) (HB.out.lt (by simp))
  have c3 := b3.get 0 _ rfl
  have hbw1 := HBS.out.keptNew HK1.out
  have hbW : IntE.Row W (.slice ba bs.length bc) bs := ckRow (CK.ofKp k1W) hbw1 (fun k hk hm => by
   simp at hm
   subst hm;have := HBS.out.lt k (by rw [ownV]; exact hk)
   have := HZQ.out
   omega)
  have h' := hid h
  have hxl' := hid hxl
  have hsn' := hid hsn
  have hbW' := hid hbW
  have hbx : Hid (∀ W', Kp [] W W' → W'.cell? ⟨q5, 0, none⟩ = some (.slice ra L.length rc)) := fun W' k => kpAt k h'.out.box
  have hS : Hid (∀ T W', Kp T W W' → q3 ∉ T → W'.cell? ⟨q3, 0, none⟩ = some (.slice ba bs.length bc)) := fun T W' k hn => (k.cell (p := ⟨q3, 0, none⟩) (World.block_lt_of_cell? _ _ c3) hn).trans c3
  clear h hRi hxl hsn k1W b3 hbW hbw1 c3;obtain ⟨kl, hkl⟩ : ∃ kl, Hid (pickV xl bs = kl) := ⟨_, rfl⟩
  have cPk : Hid (∀ W', Kp [] W W' → Calls Tryz.prog 146 #[.slice xa xl.length xc, .slice ba bs.length bc] W' (NewR kl W')) := fun W' k => by
   rw [← hkl.out];obtain ⟨a', c', e, hs, _⟩ := (hbW'.out.keptNew k).see
   cases e
   exact cPick xa xc xl ba bc bs W' (hxl'.out.see.kept k) (by omega) hs hbl
  have cCp : Hid (∀ W', Kp [] W W' → Calls Tryz.prog 95 #[.slice xa xl.length xc] W' (NewR xl W')) := fun W' k => cCloneR xa xc xl W' (hxl'.out.see.kept k) hxl'.out.nil hxn
  rw [hkl.out] at hsn';gi_wp2_with fail;refine region_round (fun B => B.cell? ⟨q3, 0, none⟩ = some (.slice ba bs.length bc)) (by kernel_rfl) (by kernel_rfl) (by rintro ⟨_, _, hlo⟩; exact hlo) (hS.out [] _ (Kp.refl [] W).drew (by simp)) (fun hHeld => ?_)
  have KD : Hid (Kp [] W W.drew) := hid (Kp.refl [] W).drew
  generalize W.drew = wd at *
  refine tkH ?_ 1 rfl (by kernel_rfl) (fun _ _ _ h => h) (by rfl) ?_ ‹_› ?_;rotate_left
  ·intro w h; (try dsimp only at h); go_simp <;> with_reducible rfl
  (try simp only [Act.put, lz]);refine tkH ?_ 4 rfl (by kernel_rfl) (fun _ _ _ h => h) (by rfl) ?_ ‹_› ?_;rotate_left
  ·intro w h; (try dsimp only at h); go_simp <;> with_reducible rfl
  (try simp only [Act.put, lz]);refine tkH ?_ 2 rfl (by kernel_rfl) (fun _ _ _ h => h) (by rfl) ?_ ‹_› ?_;rotate_left
  ·intro w h; (try dsimp only at h); go_simp <;> with_reducible rfl
  (try simp only [Act.put, lz]);have c3d := hbx.out wd KD.out
  refine wpAnyH_ready (rs := [0, 3]) (by kernel_rfl) (by simp) ?_
  refine AllReadyH.cons rfl (fun K hK => ?_) (AllReadyH.cons rfl (fun K hK => ?_) AllReadyH.nil)
  ·go_simp
   (try go_wp2_with fail);refine hK.out _ _ hHeld (fun hHeld => ?_)
   clear hK K;(try simp only [Act.put, lz]);refine rdH 3 (by kernel_rfl) rfl fun K hK => ?_
   go_simp;refine (cPk.out _ KD.out).mono ?_;rintro e W3 ⟨ka, kc, rfl, hkrow, kk, hkb⟩;have K3 := hid (KD.out.trans kk (by simp))
   have c3K := hbx.out W3 K3.out
   (try go_wp2_with fail);refine hK.out _ _ (hS.out [] _ K3.out (by simp)) (fun hHeld => ?_)
   clear hK K;(try simp only [Act.put, lz]);refine rdH 5 (by kernel_rfl) rfl fun K hK => ?_
   go_simp;refine (cCp.out _ K3.out).mono ?_;rintro e W5 ⟨ya, yc, rfl, hyrow, ky, hyb⟩;(try go_wp2_with fail);refine hK.out _ _ (hS.out [] _ (K3.out.trans ky (by simp)) (by simp)) (fun hHeld => ?_)
   clear hK K;(try simp only [Act.put, lz]);have kWD := hid (K3.out.trans ky (by simp))
   have hyl := rowLies hyrow
   have hkrow5 := hkrow.keptNew ky
   have hkl5 := rowLies hkrow5
   have hlD : Lom w1.heap.size ra rc L W5 := h'.out.lot.ck (CK.ofKp kWD.out) (by simp) (by simp)
   have hzD := kWD.out.size
   have hwz := h'.out.co.size
   have hywd : ∀ k ∈ blk ya, k < W5.heap.size := fun k hk => hyrow.lt k (by rw [ownV]; exact hk)
   have hkwd : ∀ k ∈ blk ka, k < W5.heap.size := fun k hk => hkrow5.lt k (by rw [ownV]; exact hk)
   have hyW : ∀ k ∈ blk ya, W.heap.size ≤ k := fun k hk => by have := hyb k hk; have := K3.out.size; omega
   have hkW : ∀ k ∈ blk ka, W.heap.size ≤ k := fun k hk => by have := hkb k hk; have := KD.out.size; omega
   have hbW : ∀ k ∈ (⟨⟨ka, kc, kl⟩, ⟨ya, yc, xl⟩⟩ : Mb).bs, W.heap.size ≤ k ∧ k < W5.heap.size := fun k hk => by
    rcases List.mem_append.1 hk with e | e
    ·exact ⟨hkW k e, hkwd k e⟩
    ·exact ⟨hyW k e, hywd k e⟩
   obtain ⟨ra4, rc4, W4, hrun, hl4, k4, hra4⟩ := hlD.app ⟨⟨ka, kc, kl⟩, ⟨ya, yc, xl⟩⟩ ⟨hkl5, hyl⟩ (by omega) (fun k hk => ⟨by have := (hbW k hk).1; omega, (hbW k hk).2, fun hm => by have := (hbW k hk).1; have := h'.out.lot.lt k hm; omega⟩) hLl
   obtain ⟨L4, hL4⟩ : ∃ L4, Hid (L4 = L ++ [(⟨⟨ka, kc, kl⟩, ⟨ya, yc, xl⟩⟩ : Mb)]) := ⟨_, rfl⟩
   rw [← hL4.out] at hrun hl4;dsimp only at hrun;have hq5ra : q5 ∉ blk ra := fun hm => by have := h'.out.lot.own q5 hm; omega
   have hq3ra : q3 ∉ blk ra := fun hm => by have := h'.out.lot.own q3 hm; omega
   have c3D := hbx.out W5 kWD.out
   have c3A : (W5.alloc (.cells #[.slice ka kl.length kc, .slice ya xl.length yc] 206)).cell? ⟨q5, 0, none⟩ = some (.slice ra L.length rc) := kpAt ((Kp.refl _ _).alloc _) c3D
   have sA := hS.out [] _ (kWD.out.alloc (.cells #[.slice ka kl.length kc, .slice ya xl.length yc] 206)) (by simp)
   have kW4 : Kp (blk ra) W W4 := (kWD.out.mono (T := blk ra) (by simp)).trans k4 (fun j hj => .inl hj)
   have s4 := hS.out _ _ kW4 hq3ra
   have kS : Kp [q5] W4 (W4.setCell ⟨q5, 0, none⟩ (.slice ra4 L4.length rc4)) := (Kp.refl _ _).setCell (by simp) _
   have kT : Kp (q5 :: blk ra) W (W4.setCell ⟨q5, 0, none⟩ (.slice ra4 L4.length rc4)) := (kW4.mono (T := q5 :: blk ra) (fun j hj => by simp [hj])).trans kS (fun j hj => .inl (by simp at hj; simp [hj]))
   have sT := hS.out _ _ kT (by simp [hq3ra]; omega)
   have ck4 := CK.ofKp k4
   obtain ⟨c3W, f3W⟩ := ck4.2 ⟨q5, 0, none⟩ _ hq5ra c3D;have f3 : W4.frozen? ⟨q5, 0, none⟩ = false := f3W.trans ((kWD.out.frozen (p := ⟨q5, 0, none⟩) (World.block_lt_of_cell? _ _ h'.out.box) (by simp)).trans h'.out.free)
   have HE : Hid (∀ A, leftX w1.heap.size KeepR (GamI w1 q5 R bs) (fun _ _ _ => False) s (s.nx ⟨xa, xc, xl⟩) W .normal A (W4.setCell ⟨q5, 0, none⟩ (.slice ra4 L4.length rc4))) := fun A => by
    have h := h'.out
    have ckS := CK.ofKp kS
    obtain ⟨r1, r2, r3⟩ := h.co.round (x := ⟨xa, xc, xl⟩) kT (fun k hk => by
     rcases List.mem_cons.1 hk with rfl | hk
     ·exact cellCel h.box
     ·refine rowCel h.lot.row (fun e => ?_) k hk
      rw [h.nil e] at hk;simp [blk] at hk) (fun k hk => by
     rcases List.mem_cons.1 hk with rfl | hk
     ·exact .inl (by simp)
     ·exact .inr (h.lot.own k hk)) (fun k hk => by
     rcases List.mem_cons.1 hk with rfl | hk
     ·exact fun hm => (h.co.js k hm).1 (by simp)
     ·exact (h.ne k hk).1)
    refine ⟨r1, r2, ra4, rc4, L4, r3, World.cell?_setCell_same _ _ _ c3W, by rw [World.frozen?_setCell]; exact f3, hl4.ck ckS (fun k hk hm => ?_) (fun x hx k hk hm => ?_), ?_, fun k hk => ?_, fun x hx k hk => ?_, fun e => (by rw [hL4.out] at e; simp at e), fun x hx => (by cases hx)⟩
    ·simp at hm
     have := hl4.own k hk
     omega
    ·simp at hm
     have := (hl4.rows x hx k hk).1
     omega
    ·show _ = mbR bs (R.take (s.i + 1))
     rw [hsn'.out, hL4.out, List.map_append, h.took];rfl
    ·rcases hra4 k hk with e | e
     ·exact h.ne k e
     ·exact ⟨fun hm => by have := h.co.jl k hm; omega, fun hm => by have := h.co.ql k hm; omega⟩
    ·rw [hL4.out] at hx
     rcases List.mem_append.1 hx with hx | hx
     ·exact h.nes x hx k hk
     ·rw [List.mem_singleton.1 hx] at hk
      exact fun hm => by have := (hbW k hk).1; have := h.co.ql k hm; omega
   clear hyl hlD hra4 ck4 f3W hyb hyW hywd hl4 ky hkrow5 hkl5 hkwd hkW hbW;refine tkH ?_ 6 rfl (by kernel_rfl) (fun _ _ _ h => h) (by rfl) ?_ ‹_› ?_;rotate_left
   ·intro w h; (try dsimp only at h); go_simp <;> with_reducible rfl
   (try simp only [Act.put, lz]);refine rdH 7 (by kernel_rfl) rfl fun K hK => ?_
   go_simp;(try go_wp2_with fail);refine hK.out _ _ sA (fun hHeld => ?_)
   clear hK K;(try simp only [Act.put, lz]);refine rdH 8 (by kernel_rfl) rfl fun K hK => ?_
   refine stepAppRun rfl _ _ 201 201 rfl _ _ _ rfl rfl hrun ?_;refine hK.out _ _ s4 (fun hHeld => ?_)
   clear hK K;(try simp only [Act.put, lz]);refine rdH 9 (by kernel_rfl) rfl fun K hK => ?_
   go_simp;(try go_wp2_with fail);refine hK.out _ _ sT (fun hHeld => ?_)
   clear hK K;(try simp only [Act.put, lz]);refine wpAnyH_done (by kernel_rfl) ?_ _
   exact HE.out ⟨#[], []⟩
  ·go_simp
   refine (cPk.out _ KD.out).mono ?_;rintro e W3 ⟨ka, kc, rfl, hkrow, kk, hkb⟩;have K3 := hid (KD.out.trans kk (by simp))
   have c3K := hbx.out W3 K3.out
   (try go_wp2_with fail);refine hK.out _ _ (hS.out [] _ K3.out (by simp)) (fun hHeld => ?_)
   clear hK K;(try simp only [Act.put, lz]);refine wpAnyH_ready (rs := [0, 5]) (by kernel_rfl) (by simp) ?_
   refine AllReadyH.cons rfl (fun K hK => ?_) (AllReadyH.cons rfl (fun K hK => ?_) AllReadyH.nil)
   ·go_simp
    (try go_wp2_with fail);refine hK.out _ _ hHeld (fun hHeld => ?_)
    clear hK K;(try simp only [Act.put, lz]);refine rdH 5 (by kernel_rfl) rfl fun K hK => ?_
    go_simp;refine (cCp.out _ K3.out).mono ?_;rintro e W5 ⟨ya, yc, rfl, hyrow, ky, hyb⟩;(try go_wp2_with fail);refine hK.out _ _ (hS.out [] _ (K3.out.trans ky (by simp)) (by simp)) (fun hHeld => ?_)
    clear hK K;(try simp only [Act.put, lz]);have kWD := hid (K3.out.trans ky (by simp))
    have hyl := rowLies hyrow
    have hkrow5 := hkrow.keptNew ky
    have hkl5 := rowLies hkrow5
    have hlD : Lom w1.heap.size ra rc L W5 := h'.out.lot.ck (CK.ofKp kWD.out) (by simp) (by simp)
    have hzD := kWD.out.size
    have hwz := h'.out.co.size
    have hywd : ∀ k ∈ blk ya, k < W5.heap.size := fun k hk => hyrow.lt k (by rw [ownV]; exact hk)
    have hkwd : ∀ k ∈ blk ka, k < W5.heap.size := fun k hk => hkrow5.lt k (by rw [ownV]; exact hk)
    have hyW : ∀ k ∈ blk ya, W.heap.size ≤ k := fun k hk => by have := hyb k hk; have := K3.out.size; omega
    have hkW : ∀ k ∈ blk ka, W.heap.size ≤ k := fun k hk => by have := hkb k hk; have := KD.out.size; omega
    have hbW : ∀ k ∈ (⟨⟨ka, kc, kl⟩, ⟨ya, yc, xl⟩⟩ : Mb).bs, W.heap.size ≤ k ∧ k < W5.heap.size := fun k hk => by
     rcases List.mem_append.1 hk with e | e
     ·exact ⟨hkW k e, hkwd k e⟩
     ·exact ⟨hyW k e, hywd k e⟩
    obtain ⟨ra4, rc4, W4, hrun, hl4, k4, hra4⟩ := hlD.app ⟨⟨ka, kc, kl⟩, ⟨ya, yc, xl⟩⟩ ⟨hkl5, hyl⟩ (by omega) (fun k hk => ⟨by have := (hbW k hk).1; omega, (hbW k hk).2, fun hm => by have := (hbW k hk).1; have := h'.out.lot.lt k hm; omega⟩) hLl
    obtain ⟨L4, hL4⟩ : ∃ L4, Hid (L4 = L ++ [(⟨⟨ka, kc, kl⟩, ⟨ya, yc, xl⟩⟩ : Mb)]) := ⟨_, rfl⟩
    rw [← hL4.out] at hrun hl4;dsimp only at hrun;have hq5ra : q5 ∉ blk ra := fun hm => by have := h'.out.lot.own q5 hm; omega
    have hq3ra : q3 ∉ blk ra := fun hm => by have := h'.out.lot.own q3 hm; omega
    have c3D := hbx.out W5 kWD.out
    have c3A : (W5.alloc (.cells #[.slice ka kl.length kc, .slice ya xl.length yc] 206)).cell? ⟨q5, 0, none⟩ = some (.slice ra L.length rc) := kpAt ((Kp.refl _ _).alloc _) c3D
    have sA := hS.out [] _ (kWD.out.alloc (.cells #[.slice ka kl.length kc, .slice ya xl.length yc] 206)) (by simp)
    have kW4 : Kp (blk ra) W W4 := (kWD.out.mono (T := blk ra) (by simp)).trans k4 (fun j hj => .inl hj)
    have s4 := hS.out _ _ kW4 hq3ra
    have kS : Kp [q5] W4 (W4.setCell ⟨q5, 0, none⟩ (.slice ra4 L4.length rc4)) := (Kp.refl _ _).setCell (by simp) _
    have kT : Kp (q5 :: blk ra) W (W4.setCell ⟨q5, 0, none⟩ (.slice ra4 L4.length rc4)) := (kW4.mono (T := q5 :: blk ra) (fun j hj => by simp [hj])).trans kS (fun j hj => .inl (by simp at hj; simp [hj]))
    have sT := hS.out _ _ kT (by simp [hq3ra]; omega)
    have ck4 := CK.ofKp k4
    obtain ⟨c3W, f3W⟩ := ck4.2 ⟨q5, 0, none⟩ _ hq5ra c3D;have f3 : W4.frozen? ⟨q5, 0, none⟩ = false := f3W.trans ((kWD.out.frozen (p := ⟨q5, 0, none⟩) (World.block_lt_of_cell? _ _ h'.out.box) (by simp)).trans h'.out.free)
    have HE : Hid (∀ A, leftX w1.heap.size KeepR (GamI w1 q5 R bs) (fun _ _ _ => False) s (s.nx ⟨xa, xc, xl⟩) W .normal A (W4.setCell ⟨q5, 0, none⟩ (.slice ra4 L4.length rc4))) := fun A => by
     have h := h'.out
     have ckS := CK.ofKp kS
     obtain ⟨r1, r2, r3⟩ := h.co.round (x := ⟨xa, xc, xl⟩) kT (fun k hk => by
      rcases List.mem_cons.1 hk with rfl | hk
      ·exact cellCel h.box
      ·refine rowCel h.lot.row (fun e => ?_) k hk
       rw [h.nil e] at hk;simp [blk] at hk) (fun k hk => by
      rcases List.mem_cons.1 hk with rfl | hk
      ·exact .inl (by simp)
      ·exact .inr (h.lot.own k hk)) (fun k hk => by
      rcases List.mem_cons.1 hk with rfl | hk
      ·exact fun hm => (h.co.js k hm).1 (by simp)
      ·exact (h.ne k hk).1)
     refine ⟨r1, r2, ra4, rc4, L4, r3, World.cell?_setCell_same _ _ _ c3W, by rw [World.frozen?_setCell]; exact f3, hl4.ck ckS (fun k hk hm => ?_) (fun x hx k hk hm => ?_), ?_, fun k hk => ?_, fun x hx k hk => ?_, fun e => (by rw [hL4.out] at e; simp at e), fun x hx => (by cases hx)⟩
     ·simp at hm
      have := hl4.own k hk
      omega
     ·simp at hm
      have := (hl4.rows x hx k hk).1
      omega
     ·show _ = mbR bs (R.take (s.i + 1))
      rw [hsn'.out, hL4.out, List.map_append, h.took];rfl
     ·rcases hra4 k hk with e | e
      ·exact h.ne k e
      ·exact ⟨fun hm => by have := h.co.jl k hm; omega, fun hm => by have := h.co.ql k hm; omega⟩
     ·rw [hL4.out] at hx
      rcases List.mem_append.1 hx with hx | hx
      ·exact h.nes x hx k hk
      ·rw [List.mem_singleton.1 hx] at hk
       exact fun hm => by have := (hbW k hk).1; have := h.co.ql k hm; omega
    clear hyl hlD hra4 ck4 f3W hyb hyW hywd hl4 ky hkrow5 hkl5 hkwd hkW hbW;refine tkH ?_ 6 rfl (by kernel_rfl) (fun _ _ _ h => h) (by rfl) ?_ ‹_› ?_;rotate_left
    ·intro w h; (try dsimp only at h); go_simp <;> with_reducible rfl
    (try simp only [Act.put, lz]);refine rdH 7 (by kernel_rfl) rfl fun K hK => ?_
    go_simp;(try go_wp2_with fail);refine hK.out _ _ sA (fun hHeld => ?_)
    clear hK K;(try simp only [Act.put, lz]);refine rdH 8 (by kernel_rfl) rfl fun K hK => ?_
    refine stepAppRun rfl _ _ 201 201 rfl _ _ _ rfl rfl hrun ?_;refine hK.out _ _ s4 (fun hHeld => ?_)
    clear hK K;(try simp only [Act.put, lz]);refine rdH 9 (by kernel_rfl) rfl fun K hK => ?_
    go_simp;(try go_wp2_with fail);refine hK.out _ _ sT (fun hHeld => ?_)
    clear hK K;(try simp only [Act.put, lz]);refine wpAnyH_done (by kernel_rfl) ?_ _
    exact HE.out ⟨#[], []⟩
   ·go_simp
    refine (cCp.out _ K3.out).mono ?_;rintro e W5 ⟨ya, yc, rfl, hyrow, ky, hyb⟩;(try go_wp2_with fail);refine hK.out _ _ (hS.out [] _ (K3.out.trans ky (by simp)) (by simp)) (fun hHeld => ?_)
    clear hK K;(try simp only [Act.put, lz]);have kWD := hid (K3.out.trans ky (by simp))
    have hyl := rowLies hyrow
    have hkrow5 := hkrow.keptNew ky
    have hkl5 := rowLies hkrow5
    have hlD : Lom w1.heap.size ra rc L W5 := h'.out.lot.ck (CK.ofKp kWD.out) (by simp) (by simp)
    have hzD := kWD.out.size
    have hwz := h'.out.co.size
    have hywd : ∀ k ∈ blk ya, k < W5.heap.size := fun k hk => hyrow.lt k (by rw [ownV]; exact hk)
    have hkwd : ∀ k ∈ blk ka, k < W5.heap.size := fun k hk => hkrow5.lt k (by rw [ownV]; exact hk)
    have hyW : ∀ k ∈ blk ya, W.heap.size ≤ k := fun k hk => by have := hyb k hk; have := K3.out.size; omega
    have hkW : ∀ k ∈ blk ka, W.heap.size ≤ k := fun k hk => by have := hkb k hk; have := KD.out.size; omega
    have hbW : ∀ k ∈ (⟨⟨ka, kc, kl⟩, ⟨ya, yc, xl⟩⟩ : Mb).bs, W.heap.size ≤ k ∧ k < W5.heap.size := fun k hk => by
     rcases List.mem_append.1 hk with e | e
     ·exact ⟨hkW k e, hkwd k e⟩
     ·exact ⟨hyW k e, hywd k e⟩
    obtain ⟨ra4, rc4, W4, hrun, hl4, k4, hra4⟩ := hlD.app ⟨⟨ka, kc, kl⟩, ⟨ya, yc, xl⟩⟩ ⟨hkl5, hyl⟩ (by omega) (fun k hk => ⟨by have := (hbW k hk).1; omega, (hbW k hk).2, fun hm => by have := (hbW k hk).1; have := h'.out.lot.lt k hm; omega⟩) hLl
    obtain ⟨L4, hL4⟩ : ∃ L4, Hid (L4 = L ++ [(⟨⟨ka, kc, kl⟩, ⟨ya, yc, xl⟩⟩ : Mb)]) := ⟨_, rfl⟩
    rw [← hL4.out] at hrun hl4;dsimp only at hrun;have hq5ra : q5 ∉ blk ra := fun hm => by have := h'.out.lot.own q5 hm; omega
    have hq3ra : q3 ∉ blk ra := fun hm => by have := h'.out.lot.own q3 hm; omega
    have c3D := hbx.out W5 kWD.out
    have c3A : (W5.alloc (.cells #[.slice ka kl.length kc, .slice ya xl.length yc] 206)).cell? ⟨q5, 0, none⟩ = some (.slice ra L.length rc) := kpAt ((Kp.refl _ _).alloc _) c3D
    have sA := hS.out [] _ (kWD.out.alloc (.cells #[.slice ka kl.length kc, .slice ya xl.length yc] 206)) (by simp)
    have kW4 : Kp (blk ra) W W4 := (kWD.out.mono (T := blk ra) (by simp)).trans k4 (fun j hj => .inl hj)
    have s4 := hS.out _ _ kW4 hq3ra
    have kS : Kp [q5] W4 (W4.setCell ⟨q5, 0, none⟩ (.slice ra4 L4.length rc4)) := (Kp.refl _ _).setCell (by simp) _
    have kT : Kp (q5 :: blk ra) W (W4.setCell ⟨q5, 0, none⟩ (.slice ra4 L4.length rc4)) := (kW4.mono (T := q5 :: blk ra) (fun j hj => by simp [hj])).trans kS (fun j hj => .inl (by simp at hj; simp [hj]))
    have sT := hS.out _ _ kT (by simp [hq3ra]; omega)
    have ck4 := CK.ofKp k4
    obtain ⟨c3W, f3W⟩ := ck4.2 ⟨q5, 0, none⟩ _ hq5ra c3D;have f3 : W4.frozen? ⟨q5, 0, none⟩ = false := f3W.trans ((kWD.out.frozen (p := ⟨q5, 0, none⟩) (World.block_lt_of_cell? _ _ h'.out.box) (by simp)).trans h'.out.free)
    have HE : Hid (∀ A, leftX w1.heap.size KeepR (GamI w1 q5 R bs) (fun _ _ _ => False) s (s.nx ⟨xa, xc, xl⟩) W .normal A (W4.setCell ⟨q5, 0, none⟩ (.slice ra4 L4.length rc4))) := fun A => by
     have h := h'.out
     have ckS := CK.ofKp kS
     obtain ⟨r1, r2, r3⟩ := h.co.round (x := ⟨xa, xc, xl⟩) kT (fun k hk => by
      rcases List.mem_cons.1 hk with rfl | hk
      ·exact cellCel h.box
      ·refine rowCel h.lot.row (fun e => ?_) k hk
       rw [h.nil e] at hk;simp [blk] at hk) (fun k hk => by
      rcases List.mem_cons.1 hk with rfl | hk
      ·exact .inl (by simp)
      ·exact .inr (h.lot.own k hk)) (fun k hk => by
      rcases List.mem_cons.1 hk with rfl | hk
      ·exact fun hm => (h.co.js k hm).1 (by simp)
      ·exact (h.ne k hk).1)
     refine ⟨r1, r2, ra4, rc4, L4, r3, World.cell?_setCell_same _ _ _ c3W, by rw [World.frozen?_setCell]; exact f3, hl4.ck ckS (fun k hk hm => ?_) (fun x hx k hk hm => ?_), ?_, fun k hk => ?_, fun x hx k hk => ?_, fun e => (by rw [hL4.out] at e; simp at e), fun x hx => (by cases hx)⟩
     ·simp at hm
      have := hl4.own k hk
      omega
     ·simp at hm
      have := (hl4.rows x hx k hk).1
      omega
     ·show _ = mbR bs (R.take (s.i + 1))
      rw [hsn'.out, hL4.out, List.map_append, h.took];rfl
     ·rcases hra4 k hk with e | e
      ·exact h.ne k e
      ·exact ⟨fun hm => by have := h.co.jl k hm; omega, fun hm => by have := h.co.ql k hm; omega⟩
     ·rw [hL4.out] at hx
      rcases List.mem_append.1 hx with hx | hx
      ·exact h.nes x hx k hk
      ·rw [List.mem_singleton.1 hx] at hk
       exact fun hm => by have := (hbW k hk).1; have := h.co.ql k hm; omega
    clear hyl hlD hra4 ck4 f3W hyb hyW hywd hl4 ky hkrow5 hkl5 hkwd hkW hbW;refine tkH ?_ 6 rfl (by kernel_rfl) (fun _ _ _ h => h) (by rfl) ?_ ‹_› ?_;rotate_left
    ·intro w h; (try dsimp only at h); go_simp <;> with_reducible rfl
    (try simp only [Act.put, lz]);refine wpAnyH_ready (rs := [0, 7]) (by kernel_rfl) (by simp) ?_
    refine AllReadyH.cons rfl (fun K hK => ?_) (AllReadyH.cons rfl (fun K hK => ?_) AllReadyH.nil)
    ·go_simp
     (try go_wp2_with fail);refine hK.out _ _ hHeld (fun hHeld => ?_)
     clear hK K;(try simp only [Act.put, lz]);refine rdH 7 (by kernel_rfl) rfl fun K hK => ?_
     go_simp;(try go_wp2_with fail);refine hK.out _ _ sA (fun hHeld => ?_)
     clear hK K;(try simp only [Act.put, lz]);refine rdH 8 (by kernel_rfl) rfl fun K hK => ?_
     refine stepAppRun rfl _ _ 201 201 rfl _ _ _ rfl rfl hrun ?_;refine hK.out _ _ s4 (fun hHeld => ?_)
     clear hK K;(try simp only [Act.put, lz]);refine rdH 9 (by kernel_rfl) rfl fun K hK => ?_
     go_simp;(try go_wp2_with fail);refine hK.out _ _ sT (fun hHeld => ?_)
     clear hK K;(try simp only [Act.put, lz]);refine wpAnyH_done (by kernel_rfl) ?_ _
     exact HE.out ⟨#[], []⟩
    ·go_simp
     (try go_wp2_with fail);refine hK.out _ _ sA (fun hHeld => ?_)
     clear hK K;(try simp only [Act.put, lz]);refine rdH 0 (by kernel_rfl) rfl fun K hK => ?_
     go_simp;(try go_wp2_with fail);refine hK.out _ _ hHeld (fun hHeld => ?_)
     clear hK K;(try simp only [Act.put, lz]);refine rdH 8 (by kernel_rfl) rfl fun K hK => ?_
     refine stepAppRun rfl _ _ 201 201 rfl _ _ _ rfl rfl hrun ?_;refine hK.out _ _ s4 (fun hHeld => ?_)
     clear hK K;(try simp only [Act.put, lz]);refine rdH 9 (by kernel_rfl) rfl fun K hK => ?_
     go_simp;(try go_wp2_with fail);refine hK.out _ _ sT (fun hHeld => ?_)
     clear hK K;(try simp only [Act.put, lz]);refine wpAnyH_done (by kernel_rfl) ?_ _
     exact HE.out ⟨#[], []⟩
 case done =>
  rintro D s X hD ⟨hmd, hsi, hsp⟩ ⟨ra, rc, L, h⟩ hrec;have hbx := h.box
  have h' := hid h
  have hrec' := hid hrec
  have hLr : L.map Mb.pr = mbR bs R := by rw [h.took, hsi, List.take_length]
  have cS := hid (HST.out X w1.heap.size ra rc L h.lot hLr)
  clear h hrec hLr;go_wp2_with fail;refine cS.out.mono ?_;rintro e X2 ⟨⟨v, rfl⟩, L2, hn2, hl2, hm2, k2⟩;have hq5ra : q5 ∉ blk ra := fun hm => by have := h'.out.lot.own q5 hm; omega
  have c5 := (k2.cell (p := ⟨q5, 0, none⟩) (World.block_lt_of_cell? _ _ hbx) hq5ra).trans hbx
  rw [← hn2] at c5;have HF := hid (And.intro hl2 (And.intro hm2 k2))
  clear cS hl2 hm2 k2 hn2;go_wp2_with fail;have h := h'.out
  obtain ⟨hl2, hm2, k2⟩ := HF.out
  have hDra : D ∉ blk ra := fun hm => by
   have hne : L ≠ [] := fun e => by rw [h.nil e] at hm; simp [blk] at hm
   have := rowCel h.lot.row hne D hm
   rw [hrec'.out] at this;simp [Obj.isCells] at this
  have hrec2 : X2.heap[D]? = some (.deferred (some [])) := (k2.block D (Array.getElem?_eq_some_iff.1 hrec'.out).1 hDra).trans hrec'.out
  have hmk : Mks [D] X2 := (Mks.nil X2).cons hrec2 (by simp)
  have hzw := hz1'.out
  have hzq := HZQ.out
  have kwX : Kp [] w X2 := (HK1.out.trans h.co.kp (fun x hx => .inr (by simp at hx; omega))).trans k2 (fun x hx => .inr (by have := h.lot.own x hx; omega))
  show LeavesInM _ _ _ _ _ _ (marks [D]) .returning _
  refine leaves_marks [D] X2 hmk fun w' hk => ⟨_, results_tmp rfl _ _ _, ra, rc, L2, rfl, ?_, hm2, kwX.trans hk (fun x hx => .inr (by simp at hx; omega))⟩
  have ck : CK (fun _ => True) X2 w' := CK.ofBlock hk.size fun k _ hl => by
   by_cases e : k = D
   ·exact .inr ⟨_, by rw [e]; exact hrec2, rfl⟩
   ·exact .inl (hk.block k hl (by simpa using e))
  exact (hl2.ck ck (fun _ _ => trivial) (fun _ _ _ _ => trivial)).mono (by omega)
 case stop =>
  rintro D c s X hD _ h;exact h.elim
theorem ckSee {α : Type} {E : El α} {P : Nat → Prop} {X Y : World} (h : CK P X Y) {a : Option Addr} {l : List α} (hs : E.See X a l) (hP : ∀ k ∈ blk a, P k) : E.See Y a l := by
 rcases hs with e | ⟨g, o, e, hc⟩
 ·exact .inl e
 ·subst e
  exact .inr ⟨g, o, rfl, fun j u hu => (h.2 ⟨g, _, none⟩ u (hP g (by simp [blk])) (hc j u hu)).1⟩
theorem csDropM : ∀ (M : List Mb) (n : Nat), MbE.cs (M.drop n) = (MbE.cs M).drop (n * 2)
 | [], n => by simp [El.cs]
 | x :: M, 0 => by simp
 | x :: M, n + 1 => by
  rw [List.drop_succ_cons, csDropM M n, show (n + 1) * 2 = n * 2 + 1 + 1 by omega]
  simp [El.cs, MbE]
theorem csTakeM : ∀ (M : List Mb) (n : Nat), MbE.cs (M.take n) = (MbE.cs M).take (n * 2)
 | [], n => by simp [El.cs]
 | x :: M, 0 => by simp [El.cs]
 | x :: M, n + 1 => by
  have := csTakeM M n
  rw [show (n + 1) * 2 = n * 2 + 1 + 1 by omega]
  simp [El.cs, MbE] at this ⊢
  exact this
theorem seeDropM {w : World} {a : Option Addr} {L : List Mb} (h : MbE.See w a L) (i : Nat) : MbE.See w (a.map fun x => x.add (i * 2)) (L.drop i) := by
 rcases h with e | ⟨g, o, e, hc⟩
 ·exact .inl (by rw [e]; simp)
 ·subst e
  refine .inr ⟨g, o + i * 2, by simp [Addr.add], fun j u hu => ?_⟩
  rw [csDropM, List.getElem?_drop] at hu;have := hc (i * 2 + j) u hu
  rw [← Nat.add_assoc] at this;exact this
theorem seeTakeM {w : World} {a : Option Addr} {L : List Mb} (h : MbE.See w a L) (m : Nat) : MbE.See w a (L.take m) := by
 rcases h with e | ⟨g, o, e, hc⟩
 ·exact .inl (by rw [e]; simp)
 ·refine .inr ⟨g, o, e, fun j u hu => hc j u ?_⟩
  rw [csTakeM, List.getElem?_take] at hu;split at hu
  ·exact hu
  ·cases hu
def lenS : Value → Nat
 | .slice _ n _ => n
 | _ => 0
def grpR (S : List (List Val × List Val)) (m : Nat) (cs : Nat → Nat) (gs : List (Int × Int)) (tv : Nat → Int × Int → Val) : List (List Val) := (List.range m).map fun i => (S.getD (cs i) ([], [])).1 ++ gs.map (tv i)
theorem groupSeq (n : Nat) (hn : 4 ≤ n) (q1 q2 q3 : Nat) (fr : Bool) (g : Nat) (lb : Array Value) (RR : List (List Val)) (jsr js : List Nat) (ba : Option Addr) (bc : Nat) (bs : List Int) (ga : Option Addr) (gc : Nat) (gs : List (Int × Int)) (S : List (List Val × List Val)) (m : Nat) (cs : Nat → Nat) (tv : Nat → Int × Int → Val) (w : World)
  (heg : ∀ args w, (callFunc g args).run Tryz.prog w = .ok (.enter g args) w)
  (c1 : w.cell? ⟨q1, 0, none⟩ = some (.func (.func g) #[] lb)) (c2 : w.cell? ⟨q2, 0, none⟩ = some (.slice ba bs.length bc)) (c3 : w.cell? ⟨q3, 0, none⟩ = some (.slice ga gs.length gc))
  (hq : ∀ q ∈ [q1, q2, q3], q ∈ js) (hjr : ∀ j ∈ jsr, j ∈ js) (hjb : ∀ j ∈ js, j < w.heap.size)
  (hb : IntE.Row w (.slice ba bs.length bc) bs) (hbj : ∀ k ∈ blk ba, k ∈ js) (hg : AgE.See w ga gs) (hgj : ∀ k ∈ blk ga, k ∈ js)
  (hR : ∀ n, 3 ≤ n → RowSeq fr n g lb RR jsr w) (hRR : RR.length ≤ 4000000000000) (hRRl : ∀ l ∈ RR, l.length ≤ 3600000000000) (hbl : bs.length ≤ 3000000000000)
  (hsort : ∀ (W : World) (N : Nat) (ra : Option Addr) (rc : Nat) (L : List Mb), Lom N ra rc L W → L.map Mb.pr = mbR bs RR → Calls Tryz.prog 165 #[.slice ra L.length rc, .func (.func 166) #[] #[]] W (SortPM N ra rc L.length S W))
  (hSn : S ≠ []) (hS4 : S.length ≤ 4000000000000) (hc0 : cs 0 = 0) (hcm : cs m = S.length) (hcs : ∀ i, i < m → cs i < cs (i + 1) ∧ cs (i + 1) ≤ S.length) (hkl : ∀ p ∈ S, p.1.length + gs.length ≤ 3000000000000)
  (htog : ∀ i, i < m → ∀ (W : World) (a : Option Addr) (c : Nat) (T : List Mb), MbE.See W a T → (∀ x ∈ T, Mb.lies W x) → T.map Mb.pr = S.drop (cs i) → Calls Tryz.prog 144 #[.slice a T.length c] W fun e w' => e = .returned (.int .i64 ((cs (i + 1) - cs i : Nat) : Int)) ∧ Kp [] W w')
  (htell : ∀ i, i < m → ∀ ag ∈ gs, ∀ (W : World) (a : Option Addr) (c : Nat) (T : List Mb), MbE.See W a T → (∀ x ∈ T, Mb.lies W x) → T.map Mb.pr = (S.drop (cs i)).take (cs (i + 1) - cs i) → Calls Tryz.prog 167 #[.slice a T.length c, .agg #[.int .i64 ag.1, .int .i64 ag.2]] W fun e w' => e = .returned (.agg #[.int .i64 (tv i ag).k, .bool (tv i ag).b, .int .i64 (tv i ag).n, .string (tv i ag).t]) ∧ Kp [] W w') :
  RowSeq true n 141 #[.pointer (some ⟨q1, 0, none⟩), .pointer (some ⟨q2, 0, none⟩), .pointer (some ⟨q3, 0, none⟩)] (grpR S m cs gs tv) js w := by
 intro ly J Jx W hW hT hX hY h0
 obtain ⟨RG, hRG⟩ : ∃ R, Hid (grpR S m cs gs tv = R) := ⟨_, rfl⟩
 rw [hRG.out] at hT ⊢;have hRGl : RG.length = m := by rw [← hRG.out]; simp [grpR]
 have hRGi : Hid (∀ i, i < m → RG[i]? = some ((S.getD (cs i) ([], [])).1 ++ gs.map (tv i))) := fun i hi => by rw [← hRG.out]; simp [grpR, hi]
 have kjs := hW.js
 have d1 := kjs.cell (hq q1 (by simp)) c1
 have d2 := kjs.cell (hq q2 (by simp)) c2
 have d3 := kjs.cell (hq q3 (by simp)) c3
 have hjW : ∀ j ∈ js, j < W.heap.size := fun j hj => Nat.lt_of_lt_of_le (hjb j hj) kjs.1
 have ckW := ckOfKeepB kjs
 have cM := hid (callsIn_wide.1 (cMembersG 4 (by omega) fr g lb RR jsr ba bc bs S W heg ((hR 3 (by omega)).move ⟨kjs.1, fun j hj o ho => kjs.2 j (hjr j hj) o ho⟩) (fun j hj => hjW j (hjr j hj)) hRR hRRl (ckRow ckW hb hbj) hbl hsort))
 have hgW : Hid (AgE.See W ga gs) := ckSee ckW hg hgj
 have HTO := hid htog
 have HTE := hid htell
 have h0' := hid h0
 have hgj' := hid hgj
 have hkl' := hid hkl
 have hcs' := hid hcs
 have hjW' := hid hjW
 have hq3j := hid (hq q3 (by simp))
 clear c1 c2 c3 hR hsort hW kjs hjb h0 hb hbj hg hgj ckW htog htell hkl hcs hq hjr hjW;refine callsIn_of_wp Tryz.func141 rfl trivial ?_ rfl;simp only [Tryz.ntmps141, List.size_toArray, List.length_cons, List.length_nil, Nat.reduceAdd, Nat.reduceSub, Array.replicate_succ, Array.replicate_zero, List.push_toArray, List.append_toArray, List.nil_append, List.cons_append];gi_wp2_with fail;refine ⟨trivial, fun h => (by cases h), (callsIn_wide.2 cM.out).mono ?_⟩
 rintro e W2 ⟨ra, rc, L, rfl, hlot, hL, k2⟩;have hLl : L.length = S.length := by have := congrArg List.length hL; simpa using this
 have hLp : 0 < L.length := by rw [hLl]; exact List.length_pos_iff.2 hSn
 obtain ⟨a', c', e', hsee, _, hLc, hrm, _⟩ := hlot.row.see
 cases e'
 obtain ⟨Mj, hMj⟩ : ∃ M, Hid (M = blk ra ++ L.flatMap Mb.bs) := ⟨_, rfl⟩
 have hMb : ∀ j ∈ Mj, W.heap.size ≤ j ∧ j < W2.heap.size := fun j hj => by
  rw [hMj.out] at hj
  rcases List.mem_append.1 hj with e | e
  ·exact ⟨hlot.own j e, hlot.lt j e⟩
  ·obtain ⟨x, hx, e⟩ := List.mem_flatMap.1 e
   exact ⟨(hlot.rows x hx j e).1, (hlot.rows x hx j e).2.1⟩
 obtain ⟨jsM, hjsM⟩ : ∃ M, Hid (M = js ++ Mj) := ⟨_, rfl⟩
 have hJ2 : J ⟨true, W2.heap.size, [], jsM, 0, none⟩ W2 := hT _ _ _ _ h0'.out ⟨TurnR.ofKp0 k2, fun h => (by cases h), fun _ => ⟨rfl, k2.size, by simp⟩, fun j hj => by
  rw [hjsM.out] at hj
  rcases List.mem_append.1 hj with e | e
  ·exact .inl e
  ·exact .inr (hMb j e), rfl, .inl rfl⟩
 have hjM : Hid (∀ j ∈ jsM, j < W2.heap.size) := fun j hj => by
  rw [hjsM.out] at hj
  rcases List.mem_append.1 hj with e | e
  ·exact Nat.lt_of_lt_of_le (hjW'.out j e) k2.size
  ·exact (hMb j e).2
 have hraM : Hid (∀ k ∈ blk ra, k ∈ jsM) := fun k hk => by rw [hjsM.out, hMj.out]; simp [hk]
 have hmbM : Hid (∀ x ∈ L, ∀ k ∈ x.bs, k ∈ jsM) := fun x hx k hk => by
  rw [hjsM.out, hMj.out];exact List.mem_append.2 (.inr (List.mem_append.2 (.inr (List.mem_flatMap.2 ⟨x, hx, hk⟩))))
 have hgM : Hid (∀ k ∈ blk ga, k ∈ jsM) := fun k hk => by rw [hjsM.out]; simp [hgj'.out k hk]
 have hq3M : q3 ∈ jsM := by rw [hjsM.out]; simp [hq3j.out]
 have hg2 : Hid (AgE.See W2 ga gs) := hgW.out.keptNew k2
 have c32 := kpAt k2 d3
 have hlot' := hid hlot
 have hL' := hid hL
 have hsee' := hid hsee
 have hMb' := hid hMb
 have hB0 : ∃ B, Hid (W2.heap.size = B) := ⟨_, rfl⟩
 obtain ⟨B0, hB0⟩ := hB0;rw [hB0.out] at hJ2;have dl : (((L.length : Nat) : Int) == 0) = false := beq_eq_false_iff_ne.2 (by omega)
 unfold maxLen at hrm
 have hLl' := hid hLl
 have hL4 : L.length ≤ 4000000000000 := by omega
 clear hLl;clear cM hlot hL hsee k2 hMb d1 d2 d3 hgW;gi_wp2_with fail;gi_loopw [5] (fun v5 wr => ∃ (i : Nat) (a : Option Addr) (n' c : Nat), i ≤ m ∧ v5 = .slice a n' c ∧ Hid (n' = S.length - cs i) ∧ n' ≤ c ∧ c ≤ 9223372036854775807 ∧ Hid (MbE.See W2 a (L.drop (cs i)) ∧ ∀ k ∈ blk a, k ∈ blk ra) ∧ J ⟨true, B0, [], jsM, i, none⟩ wr ∧ Hid (KeepB jsM W2 wr)) (fun v5 _ => lenS v5)
 case atStart => exact ⟨0, ra, L.length, rc, Nat.zero_le _, rfl, by show _ = _; rw [hLl'.out, hc0]; rfl, hLc, by omega, ⟨by rw [hc0]; exact hsee'.out, fun k hk => hk⟩, hJ2, KeepB.refl _ _⟩
 case round =>
  obtain ⟨i, a, n', c, him, rfl, hn', hnc, hcM, HS, hJi, hkB⟩ := hrel;clear hJ2
  by_cases hlt : i < m
  ·obtain ⟨hci, hcj⟩ := hcs'.out i hlt
   obtain ⟨k', hk'⟩ : ∃ k, Hid (cs (i + 1) - cs i = k) := ⟨_, rfl⟩
   have hk1 : 1 ≤ k' := by have := hk'.out; omega
   have hkn : k' ≤ n' := by have := hk'.out; have := hn'.out; omega
   obtain ⟨T, hT'⟩ : ∃ T, Hid (L.drop (cs i) = T) := ⟨_, rfl⟩
   have hTl : T.length = n' := by rw [← hT'.out, hn'.out, List.length_drop, hLl'.out]
   have hTS : Hid (T.map Mb.pr = S.drop (cs i)) := by show _ = _; rw [← hT'.out, List.map_drop, hL'.out]
   have hTm : Hid (∀ x ∈ T, x ∈ L) := fun x hx => by rw [← hT'.out] at hx; exact List.mem_of_mem_drop hx
   have HS2 := HS.out
   rw [hT'.out] at HS2;have ckr := ckOfKeepB hkB.out
   have hseer : MbE.See wr a T := ckSee ckr HS2.1 (fun k hk => hraM.out k (HS2.2 k hk))
   have hlir : ∀ x ∈ T, Mb.lies wr x := fun x hx => (hlot'.out.lies x (hTm.out x hx)).ck ckr (hmbM.out x (hTm.out x hx))
   have cTo := HTO.out i hlt wr a c T hseer hlir hTS.out
   rw [hk'.out, hTl] at cTo;have cTo' := hid cTo
   have HR := hid (And.intro hseer hlir)
   have hgr : Hid (AgE.See wr ga gs) := ckSee ckr hg2.out hgM.out
   have c3r : wr.cell? ⟨q3, 0, none⟩ = some (.slice ga gs.length gc) := (ckr.2 ⟨q3, 0, none⟩ _ hq3M c32).1
   have i1 : (0 : Int) < (n' : Int) := by omega
   have i2 : (1 : Int) ≤ (k' : Int) := by omega
   have i3 : (k' : Int) ≤ (n' : Int) := by omega
   have i4 : (k' : Int) ≤ (c : Int) := by omega
   have i5 : (0 : Int) ≤ (k' : Int) := by omega
   have hcij := hid (And.intro hci hcj)
   clear cTo hseer hlir ckr hci hcj HS2;gi_wp2_with fail;refine ⟨trivial, fun h => (by cases h), (callsIn_wide.2 cTo'.out).mono ?_⟩
   rintro e w3 ⟨rfl, k3⟩;have K3 := hid k3
   clear cTo' k3;gi_wp2_with fail;obtain ⟨gb, o, ea, c0, _⟩ := mbAt HR.out.1 0 (by omega)
   have hx0S : Hid (S.getD (cs i) ([], []) = T[0].pr) := by
    show _ = _
    have h1 : (T.map Mb.pr)[0]? = (S.drop (cs i))[0]? := by rw [hTS.out]
    rw [List.getElem?_drop, List.getElem?_map, List.getElem?_eq_getElem (by omega)] at h1
    simp at h1
    rw [List.getD_eq_getElem?_getD, ← h1];rfl
   have hx0m : Hid (T[0] ∈ T) := List.getElem_mem _
   obtain ⟨x0, hx0⟩ : ∃ x, Hid (T[0] = x) := ⟨T[0], rfl⟩
   rw [hx0.out] at c0 hx0S hx0m;obtain ⟨⟨ka, kc, kl⟩, xr⟩ := x0;simp only [Nat.zero_mul, Nat.add_zero] at c0;have hkS : Hid ((S.getD (cs i) ([], [])).1 = kl) := by show _ = _; rw [hx0S.out]; rfl
   have hRGk := hid (hRGi.out i hlt)
   rw [hkS.out] at hRGk
   have hklb : kl.length + gs.length ≤ 3000000000000 := by
    have hci := hcij.out
    have := hkl'.out S[cs i] (List.getElem_mem (by omega))
    have e2 : S.getD (cs i) ([], []) = S[cs i] := by rw [List.getD_eq_getElem?_getD, List.getElem?_eq_getElem (by omega)]; rfl
    rw [← e2, hkS.out] at this;exact this
   obtain ⟨zl, hzl⟩ : ∃ z, Hid (kl ++ gs.map (tv i) = z) := ⟨_, rfl⟩
   rw [hzl.out] at hRGk
   have cTd : Hid (∀ W', Kp [] wr W' → Calls Tryz.prog 143 #[.slice ka kl.length kc, .slice a k' c, .slice ga gs.length gc] W' (NewR zl W')) := fun W' k => by
    rw [← hzl.out];have ck := CK.ofKp k
    refine cTold ka kc kl a k' c ga gc gs (tv i) W' (((HR.out.2 _ hx0m.out).k).ck ck (by simp)) (ckSee ck hgr.out (by simp)) hklb (fun ag hag W'' k2 => ?_)
    have ck2 := CK.ofKp (k.trans k2 (by simp))
    have h1 := HTE.out i hlt ag hag W'' a c (T.take k') (seeTakeM (ckSee ck2 HR.out.1 (by simp)) k') (fun x hx => (HR.out.2 x (List.mem_of_mem_take hx)).ck ck2 (by simp)) (by rw [List.map_take, hTS.out, hk'.out])
    rw [List.length_take, hTl, Nat.min_eq_left hkn] at h1;exact h1
   have kD : Kp [] wr w3.drew := K3.out.drew
   refine wpIn_region_any (by kernel_rfl) ?_
   change wpAnyIn _ _ _ _ _ _ _ _ _ w3.drew
   generalize w3.drew = wd at *
   have KD := hid kD
   have c0d := kpAt kD c0
   have c3d := kpAt kD c3r
   subst ea;clear c0 c3r kD;refine tkI ?_ 0 rfl rfl (by kernel_rfl) (fun _ _ _ h => h) ⟨Or.inl ⟨by rfl, ?_⟩, fun _ => rfl⟩ ?_
   rotate_left
   ·intro w; go_simp <;> with_reducible rfl
   (try simp only [Act.put, lz]);refine tkI ?_ 1 rfl rfl (by kernel_rfl) (fun _ _ _ h => h) ⟨Or.inl ⟨by rfl, ?_⟩, fun _ => rfl⟩ ?_
   rotate_left
   ·intro w; go_simp <;> with_reducible rfl
   (try simp only [Act.put, lz]);refine tkI ?_ 2 rfl rfl (by kernel_rfl) (fun _ _ _ h => h) ⟨Or.inl ⟨by rfl, ?_⟩, fun _ => rfl⟩ ?_
   rotate_left
   ·intro w; go_simp <;> with_reducible rfl
   (try simp only [Act.put, lz]);refine tkI ?_ 3 rfl rfl (by kernel_rfl) (fun _ _ _ h => h) ⟨Or.inl ⟨by rfl, ?_⟩, fun _ => rfl⟩ ?_
   rotate_left
   ·intro w; go_simp <;> with_reducible rfl
   (try simp only [Act.put, lz]);refine tkI ?_ 5 rfl rfl (by kernel_rfl) (fun _ _ _ h => h) ⟨Or.inl ⟨by rfl, ?_⟩, fun _ => rfl⟩ ?_
   rotate_left
   ·intro w; go_simp <;> with_reducible rfl
   (try simp only [Act.put, lz]);refine tkI ?_ 6 rfl rfl (by kernel_rfl) (fun _ _ _ h => h) ⟨Or.inl ⟨by rfl, ?_⟩, fun _ => rfl⟩ ?_
   rotate_left
   ·intro w; go_simp <;> with_reducible rfl
   (try simp only [Act.put, lz]);refine tkI ?_ 7 rfl rfl (by kernel_rfl) (fun _ _ _ h => h) ⟨Or.inl ⟨by rfl, ?_⟩, fun _ => rfl⟩ ?_
   rotate_left
   ·intro w; go_simp <;> with_reducible rfl
   (try simp only [Act.put, lz]);refine rdJ 4 8 (by kernel_rfl) rfl rfl (fun K hK => ?_) fun K hK => ?_
   ·go_simp
    refine hK _ _ ?_;clear hK K;(try simp only [Act.put, lz]);refine rdI 8 (by kernel_rfl) rfl fun K hK => ?_
    go_simp;refine hK _ _ ?_;clear hK K;(try simp only [Act.put, lz]);refine rdI 9 (by kernel_rfl) rfl fun K hK => ?_
    go_simp;refine ⟨trivial, fun h => (by cases h), (callsIn_wide.2 (cTd.out _ KD.out)).mono ?_⟩
    rintro e Wz ⟨za, zc, rfl, hzrow, kz, hzb⟩;refine hK _ _ ?_;clear hK K;(try simp only [Act.put, lz]);have kWz := hid (KD.out.trans kz (by simp))
    have hzl2 := rowLies hzrow
    have hzb2 : ∀ j ∈ blk za, wr.heap.size ≤ j := fun j hj => by have := hzb j hj; have := KD.out.size; omega
    have hJz : J ⟨true, B0, [], jsM, i, some ⟨za, zc, zl⟩⟩ Wz := hT _ _ _ _ hJi ⟨TurnR.ofKp0 kWz.out, fun _ => ⟨rfl, rfl, fun q hq => .inl hq⟩, fun e => (by cases e), fun j hj => .inl hj, rfl, .inr ⟨_, rfl, hRGk.out, hzl2, fun _ => ⟨hzrow, fun j hj => ⟨hzb2 j hj, fun hm => by have := hjM.out j hm; have := hkB.out.1; have := hzb2 j hj; omega, by simp⟩⟩⟩⟩
    obtain ⟨fn, tmps, assign, body, hyl5, hR⟩ := hY _ ⟨za, zc, zl⟩ Wz hJz rfl;have hR' := hid hR
    have hgo : Hid (∀ A3, KeepR ⟨true, B0, [], jsM, i, some ⟨za, zc, zl⟩⟩ Wz A3 → KeepB jsM W2 A3) := fun A3 hk3 => hkB.out.trans ((KeepB.ofKp kWz.out (by simp)).trans hk3.js)
    dsimp only [encR] at hyl5;clear hR hJz hzl2 hzrow kz hzb hzb2 cTd;refine rdI 10 (by kernel_rfl) rfl fun K hK => ?_
    go_simp;refine ⟨fun h => (by cases h), hR'.out.mono ?_⟩
    rintro e A3 (⟨rfl, hJ3, hk3⟩ | ⟨rfl, hJ3, hk3⟩)
    ·have HG := hid (hgo.out A3 hk3)
     have hJ4 : J ⟨true, B0, [], jsM, i + 1, none⟩ A3 := hJ3
     clear hgo hR' hyl5 hJ3 hk3;refine hK _ _ ?_;clear hK K;(try simp only [Act.put, lz]);refine rdI 11 (by kernel_rfl) rfl fun K hK => ?_
     go_simp;refine hK _ _ ?_;clear hK K;(try simp only [Act.put, lz]);refine wpAnyIn_done (by kernel_rfl) ?_ _
     gi_wp2_with fail;refine ⟨⟨i + 1, _, _, _, by omega, rfl, ?_, by omega, by omega, ⟨?_, fun k hk => HS.out.2 k (by split at hk <;> simpa [blk] using hk)⟩, hJ4, HG⟩, by simp [lenS]; omega⟩
     ·have := hk'.out; have := hn'.out; show _ = _; omega
     ·split
      ·have := hk'.out; have := hn'.out; have := hcij.out; exact .inl (List.drop_eq_nil_of_le (by rw [hLl'.out]; omega))
      ·have h1 := seeDropM HS.out.1 k'
       rw [List.drop_drop, show cs i + k' = cs (i + 1) by have := hk'.out; have := hcij.out; omega] at h1
       simpa [Addr.add, show ¬ k' * 2 = 0 by omega, show ¬ k' = 0 by omega] using h1
    ·have hJ4 := hid hJ3
     clear hgo hR' hyl5 hJ3 hk3;refine hK _ _ ?_;clear hK K;(try simp only [Act.put, lz]);refine rdI 11 (by kernel_rfl) rfl fun K hK => ?_
     go_simp;refine hK _ _ ?_;clear hK K;(try simp only [Act.put, lz]);refine wpAnyIn_done (by kernel_rfl) ?_ _
     gi_wp2_with fail;refine bodyPost_ret (results_none rfl _ _ _) rfl ?_;exact ⟨⟨_, rfl⟩, .inr ⟨_, rfl, hJ4.out⟩⟩
   ·go_simp
    refine hK _ _ ?_;clear hK K;(try simp only [Act.put, lz]);refine rdI 4 (by kernel_rfl) rfl fun K hK => ?_
    go_simp;refine hK _ _ ?_;clear hK K;(try simp only [Act.put, lz]);refine rdI 9 (by kernel_rfl) rfl fun K hK => ?_
    go_simp;refine ⟨trivial, fun h => (by cases h), (callsIn_wide.2 (cTd.out _ KD.out)).mono ?_⟩
    rintro e Wz ⟨za, zc, rfl, hzrow, kz, hzb⟩;refine hK _ _ ?_;clear hK K;(try simp only [Act.put, lz]);have kWz := hid (KD.out.trans kz (by simp))
    have hzl2 := rowLies hzrow
    have hzb2 : ∀ j ∈ blk za, wr.heap.size ≤ j := fun j hj => by have := hzb j hj; have := KD.out.size; omega
    have hJz : J ⟨true, B0, [], jsM, i, some ⟨za, zc, zl⟩⟩ Wz := hT _ _ _ _ hJi ⟨TurnR.ofKp0 kWz.out, fun _ => ⟨rfl, rfl, fun q hq => .inl hq⟩, fun e => (by cases e), fun j hj => .inl hj, rfl, .inr ⟨_, rfl, hRGk.out, hzl2, fun _ => ⟨hzrow, fun j hj => ⟨hzb2 j hj, fun hm => by have := hjM.out j hm; have := hkB.out.1; have := hzb2 j hj; omega, by simp⟩⟩⟩⟩
    obtain ⟨fn, tmps, assign, body, hyl5, hR⟩ := hY _ ⟨za, zc, zl⟩ Wz hJz rfl;have hR' := hid hR
    have hgo : Hid (∀ A3, KeepR ⟨true, B0, [], jsM, i, some ⟨za, zc, zl⟩⟩ Wz A3 → KeepB jsM W2 A3) := fun A3 hk3 => hkB.out.trans ((KeepB.ofKp kWz.out (by simp)).trans hk3.js)
    dsimp only [encR] at hyl5;clear hR hJz hzl2 hzrow kz hzb hzb2 cTd;refine rdI 10 (by kernel_rfl) rfl fun K hK => ?_
    go_simp;refine ⟨fun h => (by cases h), hR'.out.mono ?_⟩
    rintro e A3 (⟨rfl, hJ3, hk3⟩ | ⟨rfl, hJ3, hk3⟩)
    ·have HG := hid (hgo.out A3 hk3)
     have hJ4 : J ⟨true, B0, [], jsM, i + 1, none⟩ A3 := hJ3
     clear hgo hR' hyl5 hJ3 hk3;refine hK _ _ ?_;clear hK K;(try simp only [Act.put, lz]);refine rdI 11 (by kernel_rfl) rfl fun K hK => ?_
     go_simp;refine hK _ _ ?_;clear hK K;(try simp only [Act.put, lz]);refine wpAnyIn_done (by kernel_rfl) ?_ _
     gi_wp2_with fail;refine ⟨⟨i + 1, _, _, _, by omega, rfl, ?_, by omega, by omega, ⟨?_, fun k hk => HS.out.2 k (by split at hk <;> simpa [blk] using hk)⟩, hJ4, HG⟩, by simp [lenS]; omega⟩
     ·have := hk'.out; have := hn'.out; show _ = _; omega
     ·split
      ·have := hk'.out; have := hn'.out; have := hcij.out; exact .inl (List.drop_eq_nil_of_le (by rw [hLl'.out]; omega))
      ·have h1 := seeDropM HS.out.1 k'
       rw [List.drop_drop, show cs i + k' = cs (i + 1) by have := hk'.out; have := hcij.out; omega] at h1
       simpa [Addr.add, show ¬ k' * 2 = 0 by omega, show ¬ k' = 0 by omega] using h1
    ·have hJ4 := hid hJ3
     clear hgo hR' hyl5 hJ3 hk3;refine hK _ _ ?_;clear hK K;(try simp only [Act.put, lz]);refine rdI 11 (by kernel_rfl) rfl fun K hK => ?_
     go_simp;refine hK _ _ ?_;clear hK K;(try simp only [Act.put, lz]);refine wpAnyIn_done (by kernel_rfl) ?_ _
     gi_wp2_with fail;refine bodyPost_ret (results_none rfl _ _ _) rfl ?_;exact ⟨⟨_, rfl⟩, .inr ⟨_, rfl, hJ4.out⟩⟩
  ·have hie : i = m := by omega
   have hn0 : n' = 0 := by have := hn'.out; rw [hie, hcm] at this; omega
   have dj1 : ¬ (0 : Int) < (n' : Int) := by omega
   have dj2 : decide ((0 : Int) < (n' : Int)) = false := by simp; omega
   have hie' := hid hie
   subst hn0;clear hie;gi_wp2_with fail;go_end0
   exact ⟨⟨_, rfl⟩, .inl ⟨_, ⟨rfl, hie'.out, rfl⟩, hJi⟩⟩
end Go.Proofs.YtcgkkofmnajedaaGreatDoor
end

section
namespace Go.Proofs.YtcgkkofmnajedaaGreatDoor
open Go.RowKit Go.Hay
structure MI (v2 : Value) (q2 q3 ly : Nat) (X : World → Prop) (W : World) : Prop where
 c2 : W.cell? ⟨q2, 0, none⟩ = some v2
 c3 : W.cell? ⟨q3, 0, none⟩ = some (.func (.yield ly) #[] #[])
 x : X W
theorem MI.ck {v2 : Value} {q2 q3 ly : Nat} {X : World → Prop} {Xj : List Nat} (hX : ∀ A B, X A → CK (fun k => k ∈ Xj) A B → X B) {A B : World} (h : MI v2 q2 q3 ly X A) (k : CK (fun k => k ∈ q2 :: q3 :: Xj) A B) : MI v2 q2 q3 ly X B :=
 ⟨(k.2 ⟨q2, 0, none⟩ _ (by simp) h.c2).1, (k.2 ⟨q3, 0, none⟩ _ (by simp) h.c3).1, hX A B h.x (k.mono fun j hj => by simp [hj])⟩
theorem relStep {RL RJ : List (List Val)} {f : List Val → List (List Val)} {i k : Nat} {x : List Val} (h : RJ.drop i = (RL.drop k).flatMap f) (hx : RL[k]? = some x) : RJ.drop i = f x ++ (RL.drop (k + 1)).flatMap f := by
 obtain ⟨hk, e⟩ := List.getElem?_eq_some_iff.1 hx;rw [h, List.drop_eq_getElem_cons hk, e, List.flatMap_cons]
theorem relOne {RJ : List (List Val)} {i : Nat} {z : List Val} {l : List (List Val)} (h : RJ.drop i = [z] ++ l) : RJ[i]? = some z ∧ RJ.drop (i + 1) = l ∧ i + 1 ≤ RJ.length := by
 have h0 : RJ[i]? = some z := by
  have := congrArg (fun z => z[0]?) h
  simpa [List.getElem?_drop] using this
 refine ⟨h0, ?_, (List.getElem?_eq_some_iff.1 h0).1⟩;have := congrArg (List.drop 1) h
 simpa [List.drop_drop] using this
def CB (P : Nat → Prop) (X Y : World) : Prop := X.heap.size ≤ Y.heap.size ∧ ∀ (k : Nat) (o : Obj), P k → X.heap[k]? = some o → o.isCells = true → Y.heap[k]? = some o
theorem CB.mono {P Q : Nat → Prop} {X Y : World} (h : CB P X Y) (hq : ∀ k, Q k → P k) : CB Q X Y := ⟨h.1, fun k o hk => h.2 k o (hq k hk)⟩
theorem CB.ck {P : Nat → Prop} {X Y : World} (h : CB P X Y) : CK P X Y := CK.ofBlock h.1 fun k hk hl => by
 have e : X.heap[k]? = some X.heap[k] := by simp [hl]
 cases hc : (X.heap[k]).isCells with
 | true => exact .inl ((h.2 k _ hk e hc).trans e.symm)
 | false => exact .inr ⟨_, e, hc⟩
theorem CB.ofKp {S : List Nat} {X Y : World} (h : Kp S X Y) : CB (fun k => k ∉ S) X Y := ⟨h.size, fun k o hk ho _ => (h.block k (Array.getElem?_eq_some_iff.1 ho).1 hk).trans ho⟩
theorem CB.ofTurn {B0 : Nat} {qs : List Nat} {X Y : World} (h : TurnR B0 qs X Y) : CB (fun k => k ∉ qs) X Y := ⟨h.size, fun k o hk ho hc => by
 rcases h.block k (Array.getElem?_eq_some_iff.1 ho).1 with e | e | ⟨_, o', e, f⟩
 ·exact e.trans ho
 ·exact absurd e hk
 ·rw [ho] at e
  cases e
  rw [hc] at f
  cases f⟩
theorem CB.ofGrown {X Y : World} {row : Option Nat} (h : X.grownBy Y row) (hr : ∀ r, row = some r → ∃ o : Obj, X.heap[r]? = some o ∧ o.isCells = false) : CB (fun _ => True) X Y := ⟨h.size, fun k o _ ho hc => by
 by_cases e : row = some k
 ·obtain ⟨o', e', f⟩ := hr k e
  rw [ho] at e'
  cases e'
  rw [hc] at f
  cases f
 ·exact (h.block k (Array.getElem?_eq_some_iff.1 ho).1 (fun e' => e e'.symm)).trans ho⟩
theorem CB.ofKeepB {js : List Nat} {X Y : World} (h : KeepB js X Y) : CB (fun k => k ∈ js) X Y := ⟨h.1, fun k o hk ho _ => h.2 k hk o ho⟩
structure LiJ (J : Sr → World → Prop) (RL : List (List Val)) (M : Nat → World → Prop) (Mj : List Nat) (w3 : World) (q4 : Nat) (sl : Sr) (W : World) (js qs : List Nat) (i : Nat) : Prop where
 j : J ⟨true, w3.heap.size, qs, js, i, none⟩ W
 sub : ∀ j ∈ sl.js, j ∈ js
 mj : ∀ j ∈ Mj, j ∈ js
 qsub : ∀ q ∈ sl.qs, q ∈ qs
 qq : q4 ∈ qs
 m : M sl.i W
 rel : i = sl.i
 size : w3.heap.size ≤ W.heap.size
 mde : sl.made = true → w3.heap.size + 2 ≤ sl.B0 ∧ ∀ q ∈ sl.qs, w3.heap.size + 2 ≤ q
 lj : ∀ j ∈ sl.js, j ≠ w3.heap.size ∧ j ≠ w3.heap.size + 1
 lq : ∀ j ∈ sl.js, j ≠ q4
 pend : ∀ x, sl.p = some x → RL[sl.i]? = some x.l ∧ x.lies W
 jl : ∀ j ∈ js, j < W.heap.size
 ql : ∀ q ∈ qs, q < W.heap.size
def LiG (J : Sr → World → Prop) (RL : List (List Val)) (M : Nat → World → Prop) (Mj : List Nat) (w3 : World) (q4 : Nat) (sl : Sr) (W : World) : Prop := ∃ js qs i, LiJ J RL M Mj w3 q4 sl W js qs i
section
variable {J : Sr → World → Prop} {fr : Bool} {RL R : List (List Val)} {M : Nat → World → Prop} {Mj : List Nat} {w3 : World} {q4 : Nat}
theorem LiG.own (hT : ∀ s s' A B, J s A → StepR true R s s' A B → J s' B) (hM : ∀ n X Y, M n X → CB (fun k => k ∈ Mj) X Y → M n Y) : OwnFrom w3.heap.size (LiG J RL M Mj w3 q4) := fun sl X Y row ⟨js, qs, i, h⟩ hg hr => by
 have ck := CK.ofGrown hg (fun r e => (hr r e).2)
 exact ⟨js, qs, i, hT _ _ _ _ h.j (StepR.same rfl rfl (TurnR.ofGrown hg (fun r e => hr r e))), h.sub, h.mj, h.qsub, h.qq, hM _ _ _ h.m ((CB.ofGrown hg (fun r e => (hr r e).2)).mono fun _ _ => trivial), h.rel, Nat.le_trans h.size hg.size, h.mde, h.lj, h.lq, fun x hx => ⟨(h.pend x hx).1, (h.pend x hx).2.ck ck (fun _ _ => trivial)⟩, fun j hj => Nat.lt_of_lt_of_le (h.jl j hj) hg.size, fun j hj => Nat.lt_of_lt_of_le (h.ql j hj) hg.size⟩
theorem LiG.step (hT : ∀ s s' A B, J s A → StepR true R s s' A B → J s' B) (hM : ∀ n X Y, M n X → CB (fun k => k ∈ Mj) X Y → M n Y) (hMj : ∀ j ∈ Mj, j < w3.heap.size) (hq4 : q4 < w3.heap.size) {sl sl' : Sr} {A B : World} (hz : w3.heap.size + 2 ≤ A.heap.size) (h : LiG J RL M Mj w3 q4 sl A) (ht : StepR fr RL sl sl' A B) : LiG J RL M Mj w3 q4 sl' B := by
 obtain ⟨js, qs, i, h⟩ := h
 have hmd : sl'.made = true ∧ w3.heap.size + 2 ≤ sl'.B0 ∧ ∀ q ∈ sl'.qs, w3.heap.size + 2 ≤ q := by
  cases hs : sl.made with
  | true =>
   obtain ⟨e0, e1, e2⟩ := ht.stays hs;obtain ⟨h1, h2⟩ := h.mde hs;exact ⟨e0, by omega, fun q hq => by rcases e2 q hq with e | e; exact h2 q e; omega⟩
  | false =>
   obtain ⟨e0, e1, e2⟩ := ht.makes hs;exact ⟨e0, by omega, fun q hq => by have := (e2 q hq).1; omega⟩
 have hqn : ∀ q ∈ sl'.qs, q ∈ qs ∨ (A.heap.size ≤ q ∧ q < B.heap.size) := fun q hq => by
  cases hs : sl.made with
  | true => rcases (ht.stays hs).2.2 q hq with e | e; exact .inl (h.qsub q e); exact .inr e
  | false => exact .inr ((ht.makes hs).2.2 q hq)
 have ck := CK.ofTurn ht.turn
 have hJ : J ⟨true, w3.heap.size, qs ++ sl'.qs, js ++ sl'.js, i, none⟩ B := hT _ _ _ _ h.j ⟨ht.turn.mono (by show w3.heap.size ≤ _; omega) (fun q hq => List.mem_append.2 (.inr hq)), fun _ => ⟨rfl, rfl, fun q hq => by
  rcases List.mem_append.1 hq with e | e
  ·exact .inl e
  ·exact hqn q e⟩, fun e => (by cases e), fun j hj => by
  rcases List.mem_append.1 hj with e | e
  ·exact .inl e
  ·rcases ht.js j e with e2 | e2
   ·exact .inl (h.sub j e2)
   ·exact .inr e2, rfl, .inl rfl⟩
 refine ⟨_, _, i, hJ, fun j hj => List.mem_append.2 (.inr hj), fun j hj => List.mem_append.2 (.inl (h.mj j hj)), fun q hq => List.mem_append.2 (.inr hq), List.mem_append.2 (.inl h.qq), (congrArg (fun n => M n B) ht.on).mpr (hM _ _ _ h.m ((CB.ofTurn ht.turn).mono fun k hk hm => ?_)), by rw [ht.on]; exact h.rel, Nat.le_trans h.size ht.turn.size, fun _ => hmd.2, fun j hj => ?_, fun j hj => ?_, fun x hx => ?_, fun j hj => ?_, fun q hq => ?_⟩
 ·have := hMj k hk
  have := hmd.2.2 k hm
  omega
 ·rcases ht.js j hj with e | e
  ·exact h.lj j e
  ·omega
 ·rcases ht.js j hj with e | e
  ·exact h.lq j e
  ·omega
 ·rcases ht.given with e | ⟨y, e, hy, hl, _⟩
  ·rw [e] at hx; cases hx
  ·rw [e] at hx
   cases hx
   exact ⟨by rw [ht.on]; exact hy, hl⟩
 ·rcases List.mem_append.1 hj with e | e
  ·exact Nat.lt_of_lt_of_le (h.jl j e) ht.turn.size
  ·rcases ht.js j e with e2 | e2
   ·exact Nat.lt_of_lt_of_le (h.jl j (h.sub j e2)) ht.turn.size
   ·exact e2.2
 ·rcases List.mem_append.1 hq with e | e
  ·exact Nat.lt_of_lt_of_le (h.ql q e) ht.turn.size
  ·rcases hqn q e with e2 | e2
   ·exact Nat.lt_of_lt_of_le (h.ql q e2) ht.turn.size
   ·exact e2.2
theorem LiG.keeps {sl sl' : Sr} {A B : World} (h : LiG J RL M Mj w3 q4 sl A) (ht : StepR fr RL sl sl' A B) (k : Nat) (o : Obj) (hk : k = w3.heap.size ∨ k = w3.heap.size + 1) (ho : A.heap[k]? = some o) : B.heap[k]? = some o := by
 obtain ⟨js, qs, i, h⟩ := h;exact (ht.low h.mde (Array.getElem?_eq_some_iff.1 ho).1 (by omega)).trans ho
theorem LiG.recs {sl : Sr} {W : World} (h : LiG J RL M Mj w3 q4 sl W) (o' : Obj) : KeepR sl W (W.putObj (w3.heap.size + 1) o') := by
 obtain ⟨js, qs, i, h⟩ := h;exact recsOf h.mde h.lj o'
theorem LiG.recs' {sl : Sr} {x : Vs} {W : World} (h : LiG J RL M Mj w3 q4 (sl.nx x) W) (o' : Obj) : KeepR sl W (W.putObj (w3.heap.size + 1) o') := by
 obtain ⟨js, qs, i, h⟩ := h;exact recsOf (sl := sl) h.mde h.lj o'
theorem LiJ.keepR {sl : Sr} {W W' : World} {js qs : List Nat} {i : Nat} (h : LiJ J RL M Mj w3 q4 sl W js qs i) {s : Sr} (hs : s.made = true) (hb : s.B0 = w3.heap.size) (hj : ∀ j ∈ js, j ∈ s.js) (k : KeepR s W W') : KeepR sl W W' ∧ KeepsFrom w3.heap.size W W' ∧ KeepB Mj W W' :=
 ⟨⟨⟨k.js.1, fun j hj' o ho => k.js.2 j (hj j (h.sub j hj')) o ho⟩, fun hm j o hj' ho hc => k.recs hs j o (by rw [hb]; have := (h.mde hm).1; omega) ho hc⟩, ⟨k.js.1, fun j o hj' ho hc => k.recs hs j o (by rw [hb]; exact hj') ho hc⟩, ⟨k.js.1, fun j hj' o ho => k.js.2 j (hj j (h.mj j hj')) o ho⟩⟩
end
def JxD (J Jx : Sr → World → Prop) (n : Nat) (s : Sr) (W : World) : Prop := Jx s W ∨ (s.i = n ∧ s.p = none ∧ J s W)
theorem JxD.step {J Jx : Sr → World → Prop} {R : List (List Val)} (hT : ∀ s s' A B, J s A → StepR true R s s' A B → J s' B) (hX : ∀ s A B, Jx s A → StepRX s A B → Jx s B) {n : Nat} : ∀ s A B, JxD J Jx n s A → StepRX s A B → JxD J Jx n s B := fun s A B h ht => by
 rcases h with h | ⟨h1, h2, h3⟩
 ·exact .inl (hX _ _ _ h ht)
 ·exact .inr ⟨h1, h2, hT _ _ _ _ h3 (StepR.same ht.1 h2 ht.2)⟩
structure ML (many : Int) (q1 q3 q4 ly : Nat) (n : Nat) (W : World) : Prop where
 c1 : W.cell? ⟨q1, 0, none⟩ = some (.int .i64 many)
 c3 : W.cell? ⟨q3, 0, none⟩ = some (.func (.yield ly) #[] #[])
 c4 : W.cell? ⟨q4, 0, none⟩ = some (.int .i64 (n : Int))
 f4 : W.frozen? ⟨q4, 0, none⟩ = false
 n4 : ∀ k, 1 ≤ k → W.cell? ⟨q4, k, none⟩ = none
 lt : (n : Int) < many
theorem cellFar (w : World) (q k : Nat) (v : Value) (h : 1 ≤ k) : (w.setCell ⟨q, 0, none⟩ v).cell? ⟨q, k, none⟩ = w.cell? ⟨q, k, none⟩ := by
 rw [World.cell?_setCell_other];intro e
 have := congrArg Addr.off e
 simp at this
 omega
theorem noneCB {P : Nat → Prop} {A B : World} {q : Nat} {v : Value} (k : CB P A B) (hq : P q) (hc : A.cell? ⟨q, 0, none⟩ = some v) (h : ∀ k, 1 ≤ k → A.cell? ⟨q, k, none⟩ = none) : ∀ k, 1 ≤ k → B.cell? ⟨q, k, none⟩ = none := fun j hj => by
 have hl := World.block_lt_of_cell? _ _ hc
 have e : A.heap[q]? = some A.heap[q] := by simp [show q < A.heap.size from hl]
 have hcel := cellCel hc
 rw [show A.heap[(⟨q, 0, none⟩ : Addr).block]? = A.heap[q]? from rfl, e] at hcel;have e2 := (k.2 q _ hq e (by simpa using hcel)).trans e.symm
 exact (World.cell?_of_block (a := ⟨q, j, none⟩) e2).trans (h j hj)
theorem ML.ck {many : Int} {q1 q3 q4 ly n : Nat} {A B : World} (h : ML many q1 q3 q4 ly n A) (k : CB (fun k => k ∈ [q1, q3, q4]) A B) : ML many q1 q3 q4 ly n B :=
 ⟨(k.ck.2 ⟨q1, 0, none⟩ _ (by simp) h.c1).1, (k.ck.2 ⟨q3, 0, none⟩ _ (by simp) h.c3).1, (k.ck.2 ⟨q4, 0, none⟩ _ (by simp) h.c4).1, ((k.ck.2 ⟨q4, 0, none⟩ _ (by simp) h.c4).2).trans h.f4, noneCB k (by simp) h.c4 h.n4, h.lt⟩
end Go.Proofs.YtcgkkofmnajedaaGreatDoor
end

section
namespace Go.Proofs.YtcgkkofmnajedaaGreatDoor
open Go.RowKit Go.Hay
attribute [local go_sem] Oper.semAt_some
theorem limSeq (n : Nat) (hn : 2 ≤ n) (q1 q2 : Nat) (fr : Bool) (gl : Nat) (lbl : Array Value) (RL : List (List Val)) (jsl js : List Nat) (many : Int) (w : World)
  (heL : ∀ args w, (callFunc gl args).run Tryz.prog w = .ok (.enter gl args) w)
  (c1 : w.cell? ⟨q1, 0, none⟩ = some (.int .i64 many)) (c2 : w.cell? ⟨q2, 0, none⟩ = some (.func (.func gl) #[] lbl))
  (hq : ∀ q ∈ [q1, q2], q ∈ js) (hjl : ∀ j ∈ jsl, j ∈ js) (hjb : ∀ j ∈ js, j < w.heap.size)
  (hL : RowSeq fr (n - 1) gl lbl RL jsl w) (hRLl : ∀ l ∈ RL, l.length ≤ 1800000000000) (hRLn : RL.length ≤ 4000000000000) (hmx : many ≤ 9223372036854775807) :
  RowSeq true n 109 #[.pointer (some ⟨q1, 0, none⟩), .pointer (some ⟨q2, 0, none⟩)] (RL.take many.toNat) js w := by
 intro ly J Jx W hW hT hX hY h0
 obtain ⟨RJ, hRJ⟩ : ∃ R, Hid (RL.take many.toNat = R) := ⟨_, rfl⟩
 rw [hRJ.out] at hT ⊢;have kjs := hW.js
 have d1 := kjs.cell (hq q1 (by simp)) c1
 have d2 := kjs.cell (hq q2 (by simp)) c2
 have hlW := hL.move (W := W) ⟨kjs.1, fun j hj o ho => kjs.2 j (hjl j hj) o ho⟩
 have hjW : ∀ j ∈ js, j < W.heap.size := fun j hj => Nat.lt_of_lt_of_le (hjb j hj) kjs.1
 obtain ⟨W1, hW1, k1, b1⟩ : ∃ W1, W.alloc (.cells #[.func (.yield ly) #[] #[]] 169) = W1 ∧ Kp [] W W1 ∧ Bn W1 W.heap.size [.func (.yield ly) #[] #[]] := ⟨_, rfl, (Kp.refl _ _).alloc _, Bn.new W _ _⟩
 obtain ⟨q3, hq3⟩ : ∃ q, Hid (W.heap.size = q) := ⟨_, rfl⟩
 rw [hq3.out] at b1;have e1 := kpAt k1 d1
 have e2 := kpAt k1 d2
 have hq3' := hq3.out
 by_cases hm1 : many < 1
 ·have g1 : decide (many < 1) = true := by simpa using hm1
  have hRe : RJ.length = 0 := by rw [← hRJ.out, show many.toNat = 0 by omega]; rfl
  have hJ1 : Hid (J ⟨true, W1.heap.size, [], js, 0, none⟩ W1) := hT _ _ _ _ h0 ⟨TurnR.ofKp0 k1, fun h => (by cases h), fun _ => ⟨rfl, k1.size, by simp⟩, fun j hj => .inl hj, rfl, .inl rfl⟩
  have hRe' := hid hRe
  clear c1 c2 hL hW kjs hjb hlW k1 b1 d1 d2 h0 hRe hm1;refine callsIn_of_wp_marks Tryz.func109 rfl trivial ?_ rfl;simp only [Tryz.ntmps109, List.size_toArray, List.length_cons, List.length_nil, Nat.reduceAdd, Nat.reduceSub, Array.replicate_succ, Array.replicate_zero, List.push_toArray, List.append_toArray, List.nil_append, List.cons_append];refine wpIn_wide.2 ?_;go_wp2_with fail;exact ⟨_, results_none rfl _ _ _, ⟨_, rfl⟩, .inl ⟨_, ⟨rfl, hRe'.out.symm, rfl⟩, hJ1.out⟩⟩
 ·have g1 : decide (many < 1) = false := by simpa using hm1
  obtain ⟨W2z, hW2z, k2z, b2z⟩ : ∃ W2, W1.alloc (.cells #[.int .i64 0] 3) = W2 ∧ Kp [] W1 W2 ∧ Bn W2 W1.heap.size [.int .i64 0] := ⟨_, rfl, (Kp.refl _ _).alloc _, Bn.new W1 _ _⟩
  obtain ⟨q4, hq4⟩ : ∃ q, Hid (W1.heap.size = q) := ⟨_, rfl⟩
  rw [hq4.out] at b2z;have hq4' := hq4.out
  have z0 := b2z.get 0 _ rfl
  have zf := b2z.free 0
  obtain ⟨W2, hW2, k2, b2⟩ : ∃ W2, W2z.setCell ⟨q4, 0, none⟩ (.int .i64 0) = W2 ∧ Kp [] W1 W2 ∧ Bn W2 q4 [.int .i64 0] := ⟨_, rfl, k2z.setCell (.inr (by rw [hq4.out]; exact Nat.le_refl _)) _, b2z.set 0 (by simp) _⟩
  have n42 : ∀ k, 1 ≤ k → W2.cell? ⟨q4, k, none⟩ = none := fun k hk => by
   rw [← hW2, cellFar _ _ _ _ hk, ← hW2z, ← hq4.out, World.cell?_alloc_new];simp; omega
  have k02 := k1.trans k2 (by simp)
  have f2 := kpAt k2 e2
  have z1 := k1.size
  have hq42 : q4 < W2.heap.size := b2.lt (by simp)
  have hq14 : q1 ≠ q4 := by have := hjW q1 (hq q1 (by simp)); omega
  have hq34 : q3 ≠ q4 := by have : q3 < W1.heap.size := b1.lt (by simp); omega
  obtain ⟨Mj, hMj⟩ : ∃ M, Hid (M = [q1, q3, q4]) := ⟨_, rfl⟩
  have hM2 : ML many q1 q3 q4 ly 0 W2 := ⟨kpAt k2 e1, (b1.kept k2).get 0 _ rfl, b2.get 0 _ rfl, b2.free 0, n42, by omega⟩
  have hMst : ∀ n A B, ML many q1 q3 q4 ly n A → CB (fun k => k ∈ Mj) A B → ML many q1 q3 q4 ly n B := fun n A B h k => h.ck (by rw [← hMj.out]; exact k)
  have hMn : ∀ j ∈ Mj, j ∈ js ∨ (W.heap.size ≤ j ∧ j < W2.heap.size) := fun j hj => by
   rw [hMj.out] at hj;simp only [List.mem_cons, List.not_mem_nil, or_false] at hj
   rcases hj with rfl | rfl | rfl
   ·exact .inl (hq _ (by simp))
   ·exact .inr ⟨by rw [hq3.out]; exact Nat.le_refl _, (b1.kept k2).lt (by simp)⟩
   ·exact .inr ⟨by omega, hq42⟩
  have hMb : ∀ j ∈ Mj, j < W2.heap.size := fun j hj => by
   rcases hMn j hj with e | e
   ·exact Nat.lt_of_lt_of_le (hjW j e) k02.size
   ·exact e.2
  have hJ2 : J ⟨true, W2.heap.size, [q4], js ++ Mj, 0, none⟩ W2 := hT _ _ _ _ h0 ⟨TurnR.ofKp (k02.mono (by simp)), fun h => (by cases h), fun _ => ⟨rfl, k02.size, fun q hq' => by rw [List.mem_singleton.1 hq']; exact ⟨by omega, hq42⟩⟩, fun j hj => by
   rcases List.mem_append.1 hj with e | e
   ·exact .inl e
   ·exact hMn j e, rfl, .inl rfl⟩
  have hI0 : LiG J RL (ML many q1 q3 q4 ly) Mj W2 q4 ⟨false, 0, [], jsl, 0, none⟩ W2 := ⟨js ++ Mj, [q4], 0, hJ2, fun j hj => List.mem_append.2 (.inl (hjl j hj)), fun j hj => List.mem_append.2 (.inr hj), by simp, by simp, hM2, rfl, Nat.le_refl _, fun h => (by cases h), fun j hj => by have := hjW j (hjl j hj); have := k02.size; omega, fun j hj => by have := hjW j (hjl j hj); omega, fun x hx => (by cases hx), fun j hj => by
   rcases List.mem_append.1 hj with e | e
   ·have := hjW j e; have := k02.size; omega
   ·exact hMb j e, fun q hq' => by rw [List.mem_singleton.1 hq']; exact hq42⟩
  have hsq := hid (hlW.move (KeepB.ofKp k02 (by simp)))
  have HI0 := hid hI0
  have HMS := hid hMst
  have HMB := hid hMb
  clear c1 c2 hL hW kjs hjb hlW k1 b1 d1 d2 hM2 hMn hJ2 hI0 hMst hMb h0 k2 k2z b2 b2z k02 z1;refine callsIn_of_wp_marks Tryz.func109 rfl trivial ?_ rfl;simp only [Tryz.ntmps109, List.size_toArray, List.length_cons, List.length_nil, Nat.reduceAdd, Nat.reduceSub, Array.replicate_succ, Array.replicate_zero, List.push_toArray, List.append_toArray, List.nil_append, List.cons_append];refine wpIn_wide.2 ?_;go_wp2_with fail;refine (wpIn_wide (n := n)).1 ?_
  refine wpRangeX rfl (by omega) (gf := gl) (lb := lbl) rfl trivial heL
   hsq.out (fun _ => rfl) KeepR.trans (fun s W o => KeepR.alloc s W o) (KeepR.refl _ _)
   (LiG J RL (ML many q1 q3 q4 ly) Mj W2 q4) (fun c s W' => c = .ret ∧ InX (JxD J Jx RJ.length) W2 s W') (LiG.own hT HMS.out) (fun c s X Y row h hg hr => ⟨h.1, InX.own (JxD.step hT hX) s X Y row h.2 hg hr⟩) HI0.out
   (fun s s' A B h ht k o hk ho => h.keeps ht k o hk ho) (fun c s A B h ht k o hk ho => h.2.keeps ht k o hk ho) (fun s s' A B hz h ht => h.step hT HMS.out HMB.out hq42 hz ht) (fun c s A B h ht => ⟨h.1, h.2.step (JxD.step hT hX) ht⟩)
   (fun s W o' h => h.recs o') (fun s x W o' h => h.recs' o') (fun c s x W o' h => h.2.recs' o')
   (fun x => { tmps := #[.func (.yield ly) #[] #[], .pointer (some ⟨q1, 0, none⟩), .pointer (some ⟨q2, 0, none⟩), .pointer (some ⟨q3, 0, none⟩), .pointer (some ⟨q4, 0, none⟩), .slice x.a x.l.length x.c, .int .i64 many, .bool false, .func (.func gl) #[] lbl, .slice x.a x.l.length x.c, undef, undef, undef, undef, undef, undef, undef, undef, undef, undef, undef, undef], defers := [] }) ?assign ?body ?done ?stop
  case assign =>
   intro l x W C hC
   gi_wp2_with fail;exact hC
  case body =>
   rintro l0 s ⟨xa, xc, xl⟩ A ⟨jsA, qsA, i, h⟩ hp;obtain ⟨hRi, hxl⟩ := h.pend _ hp;dsimp only at hRi ⊢;have hxn : xl.length ≤ 1800000000000 := hRLl _ (List.mem_of_getElem? hRi)
   have hiR : s.i < RL.length := (List.getElem?_eq_some_iff.1 hRi).1
   have hil := h.m.lt
   have hie := hid h.rel
   have hR1 : Hid (RJ[i]? = some xl) := by
    show _ = _
    rw [← hRJ.out, hie.out, List.getElem?_take, if_pos (by omega)]
    exact hRi
   have c4 := h.m.c4
   have f4 := h.m.f4
   have c1A := h.m.c1
   have c3A := h.m.c3
   have i1 : (s.i : Int) + 1 ≤ 9223372036854775807 := by omega
   obtain ⟨A1, eA1⟩ : ∃ x, A.setCell ⟨q4, 0, none⟩ (.int .i64 ((s.i : Int) + 1)) = x := ⟨_, rfl⟩
   have kA1 : Kp [q4] A A1 := by rw [← eA1]; exact (Kp.refl _ _).setCell (by simp) _
   have c4A1 : A1.cell? ⟨q4, 0, none⟩ = some (.int .i64 ((s.i : Int) + 1)) := by rw [← eA1]; exact World.cell?_setCell_same _ _ _ c4
   have f4A1 : A1.frozen? ⟨q4, 0, none⟩ = false := by rw [← eA1, World.frozen?_setCell]; exact f4
   have c1A1 := (kA1.cell (p := ⟨q1, 0, none⟩) (World.block_lt_of_cell? _ _ c1A) (by simpa using hq14)).trans c1A
   have c3A1 := (kA1.cell (p := ⟨q3, 0, none⟩) (World.block_lt_of_cell? _ _ c3A) (by simpa using hq34)).trans c3A
   have hn4 := h.m.n4
   have hxl1 : (⟨xa, xc, xl⟩ : Vs).lies A1 := by
    refine ⟨?_, hxl.cap, hxl.most, hxl.nil⟩
    by_cases hb : q4 ∈ blk xa
    ·rcases hxl.see with e | ⟨g, o, e, hv⟩
     ·exact .inl e
     ·dsimp only at e hv
      subst e;simp [blk] at hb
      subst hb
      by_cases hnil : xl = []
      ·exact .inl hnil
      ·obtain ⟨_, b1', _⟩ := hv 0 (xl[0]'(List.length_pos_iff.2 hnil)) (List.getElem?_eq_getElem (List.length_pos_iff.2 hnil))
       rw [hn4 _ (by omega)] at b1'
       cases b1'
    ·exact ckVals (CK.ofKp kA1) hxl.see (fun k hk hm => by rw [List.mem_singleton.1 hm] at hk; exact hb hk)
   have n4A1 : ∀ k, 1 ≤ k → A1.cell? ⟨q4, k, none⟩ = none := fun k hk => by
    rw [← eA1, cellFar _ _ _ _ hk];exact hn4 k hk
   have HN := hid n4A1
   have h' := hid h
   have KA1 := hid kA1
   have HC := hid (And.intro c1A1 (And.intro c3A1 (And.intro c4A1 f4A1)))
   have hcel := hid (cellCel c4)
   have hxl' := hid hxl1
   clear h hRi hxl HI0 hn4 n4A1 c1A c3A c1A1 c3A1 f4A1 kA1 hxl1 c4A1;gi_wp2_with fail;refine wpIn_region_any (by kernel_rfl) ?_
   change wpAnyIn _ _ _ _ _ _ _ _ _ A1.drew
   have kD : Kp [] A1 A1.drew := (Kp.refl _ _).drew
   generalize A1.drew = wd at *
   have KB := hid (KA1.out.trans kD (by simp))
   have KD := hid kD
   have c3b := kpAt kD HC.out.2.1
   have cCt := hid (cCloneR xa xc xl wd (hxl'.out.see.kept kD) hxl'.out.nil (by omega))
   clear kD c4 f4;refine rdJ 0 1 (by kernel_rfl) rfl rfl (fun K hK => ?_) fun K hK => ?_
   ·go_simp
    refine hK _ _ ?_;clear hK K;(try simp only [Act.put, lz]);refine rdI 1 (by kernel_rfl) rfl fun K hK => ?_
    go_simp;refine hK _ _ ?_;clear hK K;(try simp only [Act.put, lz]);refine rdI 2 (by kernel_rfl) rfl fun K hK => ?_
    go_simp;refine ⟨trivial, fun h => (by cases h), (CallsIn.inRound l0 (callsIn_wide.2 cCt.out)).mono ?_⟩
    rintro e Wz ⟨za, zc, rfl, hzrow, kz, hzb⟩;have c3z := kpAt kz c3b
    refine hK _ _ ?_;clear hK K;(try simp only [Act.put, lz]);have kWz := hid (KB.out.trans kz (by simp))
    have hzl := rowLies hzrow
    have hzb2 : ∀ j ∈ blk za, A.heap.size ≤ j := fun j hj => by have := hzb j hj; have := KB.out.size; omega
    have hJz : J ⟨true, W2.heap.size, qsA, jsA, i, some ⟨za, zc, xl⟩⟩ Wz := hT _ _ _ _ h'.out.j ⟨TurnR.ofKp (kWz.out.mono (fun q hq' => by rw [List.mem_singleton.1 hq']; exact .inl h'.out.qq)), fun _ => ⟨rfl, rfl, fun q hq => .inl hq⟩, fun e => (by cases e), fun j hj => .inl hj, rfl, .inr ⟨_, rfl, hR1.out, hzl, fun _ => ⟨hzrow, fun j hj => ⟨hzb2 j hj, fun hm => by have := h'.out.jl j hm; have := hzb2 j hj; omega, fun hm => by have := h'.out.ql j hm; have := hzb2 j hj; omega⟩⟩⟩⟩
    obtain ⟨fn, tmps, assign, body, hyl5, hR⟩ := hY _ ⟨za, zc, xl⟩ Wz hJz rfl;have hR' : RoundIn (Fence.wide.inRound l0) (n - 1 - 1 - 1) Tryz.prog ly fn tmps assign body Wz _ := RoundIn.anyDepthJ (F := Fence.wide.inRound l0) rfl hR
    have hgo : Hid (∀ A3, KeepR ⟨true, W2.heap.size, qsA, jsA, i, some ⟨za, zc, xl⟩⟩ Wz A3 → KeepR s A A3 ∧ KeepsFrom W2.heap.size A A3 ∧ A3.cell? ⟨q1, 0, none⟩ = some (.int .i64 many) ∧ A3.cell? ⟨q3, 0, none⟩ = some (.func (.yield ly) #[] #[]) ∧ A3.cell? ⟨q4, 0, none⟩ = some (.int .i64 ((s.i : Int) + 1)) ∧ A3.frozen? ⟨q4, 0, none⟩ = false ∧ ∀ k, 1 ≤ k → A3.cell? ⟨q4, k, none⟩ = none) := fun A3 hk3 => by
     have hnr : ∀ j (o : Obj), A.heap[j]? = some o → o.isCells = false → j ∉ [q4] := fun j o ho hc hm => by
      rw [List.mem_singleton.1 hm] at ho;have := hcel.out
      rw [ho] at this;simp [hc] at this
     have t1 : KeepR s A Wz := ⟨KeepB.ofKp kWz.out (fun j hj hm => h'.out.lq j hj (List.mem_singleton.1 hm)), fun _ j o _ ho hc => (kWz.out.block j (Array.getElem?_eq_some_iff.1 ho).1 (hnr j o ho hc)).trans ho⟩
     have t2 : KeepR s Wz A3 := ⟨⟨hk3.js.1, fun j hj o ho => hk3.js.2 j (h'.out.sub j hj) o ho⟩, fun hm j o hj ho hc => hk3.recs rfl j o (by have := (h'.out.mde hm).1; show W2.heap.size ≤ j; omega) ho hc⟩
     have ck3 := ckOfKeepB hk3.js
     have kz1 : Kp [] A1 Wz := KD.out.trans kz (by simp)
     have hin : ∀ q ∈ [q1, q3, q4], q ∈ jsA := fun q hq' => h'.out.mj q (by rw [hMj.out]; exact hq')
     have a4 := kpAt kz1 HC.out.2.2.1
     refine ⟨t1.trans t2, ⟨Nat.le_trans kWz.out.size hk3.js.1, fun j o hj ho hc => hk3.recs rfl j o hj ((kWz.out.block j (Array.getElem?_eq_some_iff.1 ho).1 (hnr j o ho hc)).trans ho) hc⟩, (ck3.2 ⟨q1, 0, none⟩ _ (hin q1 (by simp)) (kpAt kz1 HC.out.1)).1, (ck3.2 ⟨q3, 0, none⟩ _ (hin q3 (by simp)) (kpAt kz1 HC.out.2.1)).1, (ck3.2 ⟨q4, 0, none⟩ _ (hin q4 (by simp)) a4).1, ((ck3.2 ⟨q4, 0, none⟩ _ (hin q4 (by simp)) a4).2).trans ((kz1.frozen (p := ⟨q4, 0, none⟩) (World.block_lt_of_cell? _ _ HC.out.2.2.1) (by simp)).trans HC.out.2.2.2), noneCB (CB.ofKeepB hk3.js) (hin q4 (by simp)) a4 (noneCB (CB.ofKp kz1) (by simp) HC.out.2.2.1 HN.out)⟩
    have hyl6 := hyl5
    simp only [encR] at hyl6;clear hR hJz hzl hzrow kz hzb hzb2 hyl5 cCt;refine rdI 3 (by kernel_rfl) rfl fun K hK => ?_
    go_simp;refine ⟨fun h => (by cases h), hR'.mono ?_⟩
    rintro e A3 (⟨rfl, hJ3, hk3⟩ | ⟨rfl, hJ3, hk3⟩)
    ·have HG := hid (hgo.out A3 hk3)
     have hJ4 : Hid (J ⟨true, W2.heap.size, qsA, jsA, i + 1, none⟩ A3) := hJ3
     have y1 := HG.out.2.2.1
     have y4 := HG.out.2.2.2.2.1
     clear hgo hR' hyl6 hJ3 hk3;refine hK _ _ ?_;clear hK K;(try simp only [Act.put, lz]);refine rdI 4 (by kernel_rfl) rfl fun K hK => ?_
     go_simp;refine hK _ _ ?_;clear hK K;(try simp only [Act.put, lz]);refine rdI 5 (by kernel_rfl) rfl fun K hK => ?_
     go_simp;refine hK _ _ ?_;clear hK K;try simp only [Act.put, lz]
     by_cases hfin0 : (s.i : Int) + 1 = many
     ·have dE : ((s.i : Int) + 1 == many) = true := by simpa using hfin0
      have hfin := hid hfin0
      clear hfin0;refine rdJ 6 7 (by kernel_rfl) rfl rfl (fun K hK => ?_) fun K hK => ?_
      ·go_simp
       refine hK _ _ ?_;clear hK K;(try simp only [Act.put, lz]);refine rdI 7 (by kernel_rfl) rfl fun K hK => ?_
       go_simp;refine hK _ _ ?_;clear hK K;(try simp only [Act.put, lz]);refine rdI 8 (by kernel_rfl) rfl fun K hK => ?_
       go_simp;refine hK _ _ ?_;clear hK K;(try simp only [Act.put, lz]);refine rdI 9 (by kernel_rfl) rfl fun K hK => ?_
       go_simp;refine hK _ _ ?_;clear hK K;(try simp only [Act.put, lz]);refine wpAnyIn_done (by kernel_rfl) ?_ _
       gi_wp2_with fail;refine ⟨HG.out.2.1, HG.out.1, rfl, ⟨true, W2.heap.size, qsA, jsA, i + 1, none⟩, rfl, rfl, h'.out.qsub, h'.out.mde, h'.out.lj, .inr ⟨?_, rfl, hJ4.out⟩⟩;show i + 1 = RJ.length
       have h1 := hie.out
       have h2 := hfin.out
       rw [← hRJ.out, List.length_take];omega
      ·go_simp
       refine hK _ _ ?_;clear hK K;(try simp only [Act.put, lz]);refine rdI 6 (by kernel_rfl) rfl fun K hK => ?_
       go_simp;refine hK _ _ ?_;clear hK K;(try simp only [Act.put, lz]);refine rdI 8 (by kernel_rfl) rfl fun K hK => ?_
       go_simp;refine hK _ _ ?_;clear hK K;(try simp only [Act.put, lz]);refine rdI 9 (by kernel_rfl) rfl fun K hK => ?_
       go_simp;refine hK _ _ ?_;clear hK K;(try simp only [Act.put, lz]);refine wpAnyIn_done (by kernel_rfl) ?_ _
       gi_wp2_with fail;refine ⟨HG.out.2.1, HG.out.1, rfl, ⟨true, W2.heap.size, qsA, jsA, i + 1, none⟩, rfl, rfl, h'.out.qsub, h'.out.mde, h'.out.lj, .inr ⟨?_, rfl, hJ4.out⟩⟩;show i + 1 = RJ.length
       have h1 := hie.out
       have h2 := hfin.out
       rw [← hRJ.out, List.length_take];omega
     ·have dE : ((s.i : Int) + 1 == many) = false := beq_eq_false_iff_ne.2 hfin0
      have hfin := hid hfin0
      clear hfin0;refine rdJ 6 7 (by kernel_rfl) rfl rfl (fun K hK => ?_) fun K hK => ?_
      ·go_simp
       refine hK _ _ ?_;clear hK K;(try simp only [Act.put, lz]);refine rdI 7 (by kernel_rfl) rfl fun K hK => ?_
       go_simp;refine hK _ _ ?_;clear hK K;(try simp only [Act.put, lz]);refine rdI 8 (by kernel_rfl) rfl fun K hK => ?_
       go_simp;refine hK _ _ ?_;clear hK K;(try simp only [Act.put, lz]);refine rdI 9 (by kernel_rfl) rfl fun K hK => ?_
       go_simp;refine hK _ _ ?_;clear hK K;(try simp only [Act.put, lz]);refine wpAnyIn_done (by kernel_rfl) ?_ _
       gi_wp2_with fail;refine ⟨HG.out.2.1, HG.out.1, jsA, qsA, i + 1, hJ4.out, h'.out.sub, h'.out.mj, h'.out.qsub, h'.out.qq, ⟨HG.out.2.2.1, HG.out.2.2.2.1, by simpa [Sr.nx] using HG.out.2.2.2.2.1, HG.out.2.2.2.2.2.1, HG.out.2.2.2.2.2.2, by show ((s.i + 1 : Nat) : Int) < many; have := hfin.out; omega⟩, by show i + 1 = s.i + 1; rw [hie.out], Nat.le_trans h'.out.size HG.out.2.1.size, h'.out.mde, h'.out.lj, h'.out.lq, fun x hx => (by cases hx), fun j hj => Nat.lt_of_lt_of_le (h'.out.jl j hj) HG.out.2.1.size, fun q hq => Nat.lt_of_lt_of_le (h'.out.ql q hq) HG.out.2.1.size⟩
      ·go_simp
       refine hK _ _ ?_;clear hK K;(try simp only [Act.put, lz]);refine rdI 6 (by kernel_rfl) rfl fun K hK => ?_
       go_simp;refine hK _ _ ?_;clear hK K;(try simp only [Act.put, lz]);refine rdI 8 (by kernel_rfl) rfl fun K hK => ?_
       go_simp;refine hK _ _ ?_;clear hK K;(try simp only [Act.put, lz]);refine rdI 9 (by kernel_rfl) rfl fun K hK => ?_
       go_simp;refine hK _ _ ?_;clear hK K;(try simp only [Act.put, lz]);refine wpAnyIn_done (by kernel_rfl) ?_ _
       gi_wp2_with fail;refine ⟨HG.out.2.1, HG.out.1, jsA, qsA, i + 1, hJ4.out, h'.out.sub, h'.out.mj, h'.out.qsub, h'.out.qq, ⟨HG.out.2.2.1, HG.out.2.2.2.1, by simpa [Sr.nx] using HG.out.2.2.2.2.1, HG.out.2.2.2.2.2.1, HG.out.2.2.2.2.2.2, by show ((s.i + 1 : Nat) : Int) < many; have := hfin.out; omega⟩, by show i + 1 = s.i + 1; rw [hie.out], Nat.le_trans h'.out.size HG.out.2.1.size, h'.out.mde, h'.out.lj, h'.out.lq, fun x hx => (by cases hx), fun j hj => Nat.lt_of_lt_of_le (h'.out.jl j hj) HG.out.2.1.size, fun q hq => Nat.lt_of_lt_of_le (h'.out.ql q hq) HG.out.2.1.size⟩
    ·have HG := hid (hgo.out A3 hk3)
     have hJ4 := hid hJ3
     clear hgo hR' hyl6 hJ3 hk3;refine hK _ _ ?_;clear hK K;(try simp only [Act.put, lz]);refine rdI 4 (by kernel_rfl) rfl fun K hK => ?_
     go_simp;refine hK _ _ ?_;clear hK K;(try simp only [Act.put, lz]);refine rdI 5 (by kernel_rfl) rfl fun K hK => ?_
     go_simp;refine hK _ _ ?_;clear hK K;(try simp only [Act.put, lz]);refine rdJ 6 7 (by kernel_rfl) rfl rfl (fun K hK => ?_) fun K hK => ?_
     ·go_simp
      refine hK _ _ ?_;clear hK K;(try simp only [Act.put, lz]);refine rdI 7 (by kernel_rfl) rfl fun K hK => ?_
      go_simp;refine hK _ _ ?_;clear hK K;(try simp only [Act.put, lz]);refine rdI 8 (by kernel_rfl) rfl fun K hK => ?_
      go_simp;refine hK _ _ ?_;clear hK K;(try simp only [Act.put, lz]);refine rdI 9 (by kernel_rfl) rfl fun K hK => ?_
      go_simp;refine hK _ _ ?_;clear hK K;(try simp only [Act.put, lz]);refine wpAnyIn_done (by kernel_rfl) ?_ _
      gi_wp2_with fail;exact ⟨HG.out.2.1, HG.out.1, rfl, Sr.nx ⟨true, W2.heap.size, qsA, jsA, i, some ⟨za, zc, xl⟩⟩ ⟨za, zc, xl⟩, rfl, rfl, h'.out.qsub, h'.out.mde, h'.out.lj, .inl hJ4.out⟩
     ·go_simp
      refine hK _ _ ?_;clear hK K;(try simp only [Act.put, lz]);refine rdI 6 (by kernel_rfl) rfl fun K hK => ?_
      go_simp;refine hK _ _ ?_;clear hK K;(try simp only [Act.put, lz]);refine rdI 8 (by kernel_rfl) rfl fun K hK => ?_
      go_simp;refine hK _ _ ?_;clear hK K;(try simp only [Act.put, lz]);refine rdI 9 (by kernel_rfl) rfl fun K hK => ?_
      go_simp;refine hK _ _ ?_;clear hK K;(try simp only [Act.put, lz]);refine wpAnyIn_done (by kernel_rfl) ?_ _
      gi_wp2_with fail;exact ⟨HG.out.2.1, HG.out.1, rfl, Sr.nx ⟨true, W2.heap.size, qsA, jsA, i, some ⟨za, zc, xl⟩⟩ ⟨za, zc, xl⟩, rfl, rfl, h'.out.qsub, h'.out.mde, h'.out.lj, .inl hJ4.out⟩
   ·go_simp
    refine hK _ _ ?_;clear hK K;(try simp only [Act.put, lz]);refine rdJ 0 2 (by kernel_rfl) rfl rfl (fun K hK => ?_) fun K hK => ?_
    ·go_simp
     refine hK _ _ ?_;clear hK K;(try simp only [Act.put, lz]);refine rdI 2 (by kernel_rfl) rfl fun K hK => ?_
     go_simp;refine ⟨trivial, fun h => (by cases h), (CallsIn.inRound l0 (callsIn_wide.2 cCt.out)).mono ?_⟩
     rintro e Wz ⟨za, zc, rfl, hzrow, kz, hzb⟩;have c3z := kpAt kz c3b
     refine hK _ _ ?_;clear hK K;(try simp only [Act.put, lz]);have kWz := hid (KB.out.trans kz (by simp))
     have hzl := rowLies hzrow
     have hzb2 : ∀ j ∈ blk za, A.heap.size ≤ j := fun j hj => by have := hzb j hj; have := KB.out.size; omega
     have hJz : J ⟨true, W2.heap.size, qsA, jsA, i, some ⟨za, zc, xl⟩⟩ Wz := hT _ _ _ _ h'.out.j ⟨TurnR.ofKp (kWz.out.mono (fun q hq' => by rw [List.mem_singleton.1 hq']; exact .inl h'.out.qq)), fun _ => ⟨rfl, rfl, fun q hq => .inl hq⟩, fun e => (by cases e), fun j hj => .inl hj, rfl, .inr ⟨_, rfl, hR1.out, hzl, fun _ => ⟨hzrow, fun j hj => ⟨hzb2 j hj, fun hm => by have := h'.out.jl j hm; have := hzb2 j hj; omega, fun hm => by have := h'.out.ql j hm; have := hzb2 j hj; omega⟩⟩⟩⟩
     obtain ⟨fn, tmps, assign, body, hyl5, hR⟩ := hY _ ⟨za, zc, xl⟩ Wz hJz rfl;have hR' : RoundIn (Fence.wide.inRound l0) (n - 1 - 1 - 1) Tryz.prog ly fn tmps assign body Wz _ := RoundIn.anyDepthJ (F := Fence.wide.inRound l0) rfl hR
     have hgo : Hid (∀ A3, KeepR ⟨true, W2.heap.size, qsA, jsA, i, some ⟨za, zc, xl⟩⟩ Wz A3 → KeepR s A A3 ∧ KeepsFrom W2.heap.size A A3 ∧ A3.cell? ⟨q1, 0, none⟩ = some (.int .i64 many) ∧ A3.cell? ⟨q3, 0, none⟩ = some (.func (.yield ly) #[] #[]) ∧ A3.cell? ⟨q4, 0, none⟩ = some (.int .i64 ((s.i : Int) + 1)) ∧ A3.frozen? ⟨q4, 0, none⟩ = false ∧ ∀ k, 1 ≤ k → A3.cell? ⟨q4, k, none⟩ = none) := fun A3 hk3 => by
      have hnr : ∀ j (o : Obj), A.heap[j]? = some o → o.isCells = false → j ∉ [q4] := fun j o ho hc hm => by
       rw [List.mem_singleton.1 hm] at ho;have := hcel.out
       rw [ho] at this;simp [hc] at this
      have t1 : KeepR s A Wz := ⟨KeepB.ofKp kWz.out (fun j hj hm => h'.out.lq j hj (List.mem_singleton.1 hm)), fun _ j o _ ho hc => (kWz.out.block j (Array.getElem?_eq_some_iff.1 ho).1 (hnr j o ho hc)).trans ho⟩
      have t2 : KeepR s Wz A3 := ⟨⟨hk3.js.1, fun j hj o ho => hk3.js.2 j (h'.out.sub j hj) o ho⟩, fun hm j o hj ho hc => hk3.recs rfl j o (by have := (h'.out.mde hm).1; show W2.heap.size ≤ j; omega) ho hc⟩
      have ck3 := ckOfKeepB hk3.js
      have kz1 : Kp [] A1 Wz := KD.out.trans kz (by simp)
      have hin : ∀ q ∈ [q1, q3, q4], q ∈ jsA := fun q hq' => h'.out.mj q (by rw [hMj.out]; exact hq')
      have a4 := kpAt kz1 HC.out.2.2.1
      refine ⟨t1.trans t2, ⟨Nat.le_trans kWz.out.size hk3.js.1, fun j o hj ho hc => hk3.recs rfl j o hj ((kWz.out.block j (Array.getElem?_eq_some_iff.1 ho).1 (hnr j o ho hc)).trans ho) hc⟩, (ck3.2 ⟨q1, 0, none⟩ _ (hin q1 (by simp)) (kpAt kz1 HC.out.1)).1, (ck3.2 ⟨q3, 0, none⟩ _ (hin q3 (by simp)) (kpAt kz1 HC.out.2.1)).1, (ck3.2 ⟨q4, 0, none⟩ _ (hin q4 (by simp)) a4).1, ((ck3.2 ⟨q4, 0, none⟩ _ (hin q4 (by simp)) a4).2).trans ((kz1.frozen (p := ⟨q4, 0, none⟩) (World.block_lt_of_cell? _ _ HC.out.2.2.1) (by simp)).trans HC.out.2.2.2), noneCB (CB.ofKeepB hk3.js) (hin q4 (by simp)) a4 (noneCB (CB.ofKp kz1) (by simp) HC.out.2.2.1 HN.out)⟩
     have hyl6 := hyl5
     simp only [encR] at hyl6;clear hR hJz hzl hzrow kz hzb hzb2 hyl5 cCt;refine rdI 3 (by kernel_rfl) rfl fun K hK => ?_
     go_simp;refine ⟨fun h => (by cases h), hR'.mono ?_⟩
     rintro e A3 (⟨rfl, hJ3, hk3⟩ | ⟨rfl, hJ3, hk3⟩)
     ·have HG := hid (hgo.out A3 hk3)
      have hJ4 : Hid (J ⟨true, W2.heap.size, qsA, jsA, i + 1, none⟩ A3) := hJ3
      have y1 := HG.out.2.2.1
      have y4 := HG.out.2.2.2.2.1
      clear hgo hR' hyl6 hJ3 hk3;refine hK _ _ ?_;clear hK K;(try simp only [Act.put, lz]);refine rdI 4 (by kernel_rfl) rfl fun K hK => ?_
      go_simp;refine hK _ _ ?_;clear hK K;(try simp only [Act.put, lz]);refine rdI 5 (by kernel_rfl) rfl fun K hK => ?_
      go_simp;refine hK _ _ ?_;clear hK K;try simp only [Act.put, lz]
      by_cases hfin0 : (s.i : Int) + 1 = many
      ·have dE : ((s.i : Int) + 1 == many) = true := by simpa using hfin0
       have hfin := hid hfin0
       clear hfin0;refine rdJ 6 7 (by kernel_rfl) rfl rfl (fun K hK => ?_) fun K hK => ?_
       ·go_simp
        refine hK _ _ ?_;clear hK K;(try simp only [Act.put, lz]);refine rdI 7 (by kernel_rfl) rfl fun K hK => ?_
        go_simp;refine hK _ _ ?_;clear hK K;(try simp only [Act.put, lz]);refine rdI 8 (by kernel_rfl) rfl fun K hK => ?_
        go_simp;refine hK _ _ ?_;clear hK K;(try simp only [Act.put, lz]);refine rdI 9 (by kernel_rfl) rfl fun K hK => ?_
        go_simp;refine hK _ _ ?_;clear hK K;(try simp only [Act.put, lz]);refine wpAnyIn_done (by kernel_rfl) ?_ _
        gi_wp2_with fail;refine ⟨HG.out.2.1, HG.out.1, rfl, ⟨true, W2.heap.size, qsA, jsA, i + 1, none⟩, rfl, rfl, h'.out.qsub, h'.out.mde, h'.out.lj, .inr ⟨?_, rfl, hJ4.out⟩⟩;show i + 1 = RJ.length
        have h1 := hie.out
        have h2 := hfin.out
        rw [← hRJ.out, List.length_take];omega
       ·go_simp
        refine hK _ _ ?_;clear hK K;(try simp only [Act.put, lz]);refine rdI 6 (by kernel_rfl) rfl fun K hK => ?_
        go_simp;refine hK _ _ ?_;clear hK K;(try simp only [Act.put, lz]);refine rdI 8 (by kernel_rfl) rfl fun K hK => ?_
        go_simp;refine hK _ _ ?_;clear hK K;(try simp only [Act.put, lz]);refine rdI 9 (by kernel_rfl) rfl fun K hK => ?_
        go_simp;refine hK _ _ ?_;clear hK K;(try simp only [Act.put, lz]);refine wpAnyIn_done (by kernel_rfl) ?_ _
        gi_wp2_with fail;refine ⟨HG.out.2.1, HG.out.1, rfl, ⟨true, W2.heap.size, qsA, jsA, i + 1, none⟩, rfl, rfl, h'.out.qsub, h'.out.mde, h'.out.lj, .inr ⟨?_, rfl, hJ4.out⟩⟩;show i + 1 = RJ.length
        have h1 := hie.out
        have h2 := hfin.out
        rw [← hRJ.out, List.length_take];omega
      ·have dE : ((s.i : Int) + 1 == many) = false := beq_eq_false_iff_ne.2 hfin0
       have hfin := hid hfin0
       clear hfin0;refine rdJ 6 7 (by kernel_rfl) rfl rfl (fun K hK => ?_) fun K hK => ?_
       ·go_simp
        refine hK _ _ ?_;clear hK K;(try simp only [Act.put, lz]);refine rdI 7 (by kernel_rfl) rfl fun K hK => ?_
        go_simp;refine hK _ _ ?_;clear hK K;(try simp only [Act.put, lz]);refine rdI 8 (by kernel_rfl) rfl fun K hK => ?_
        go_simp;refine hK _ _ ?_;clear hK K;(try simp only [Act.put, lz]);refine rdI 9 (by kernel_rfl) rfl fun K hK => ?_
        go_simp;refine hK _ _ ?_;clear hK K;(try simp only [Act.put, lz]);refine wpAnyIn_done (by kernel_rfl) ?_ _
        gi_wp2_with fail;refine ⟨HG.out.2.1, HG.out.1, jsA, qsA, i + 1, hJ4.out, h'.out.sub, h'.out.mj, h'.out.qsub, h'.out.qq, ⟨HG.out.2.2.1, HG.out.2.2.2.1, by simpa [Sr.nx] using HG.out.2.2.2.2.1, HG.out.2.2.2.2.2.1, HG.out.2.2.2.2.2.2, by show ((s.i + 1 : Nat) : Int) < many; have := hfin.out; omega⟩, by show i + 1 = s.i + 1; rw [hie.out], Nat.le_trans h'.out.size HG.out.2.1.size, h'.out.mde, h'.out.lj, h'.out.lq, fun x hx => (by cases hx), fun j hj => Nat.lt_of_lt_of_le (h'.out.jl j hj) HG.out.2.1.size, fun q hq => Nat.lt_of_lt_of_le (h'.out.ql q hq) HG.out.2.1.size⟩
       ·go_simp
        refine hK _ _ ?_;clear hK K;(try simp only [Act.put, lz]);refine rdI 6 (by kernel_rfl) rfl fun K hK => ?_
        go_simp;refine hK _ _ ?_;clear hK K;(try simp only [Act.put, lz]);refine rdI 8 (by kernel_rfl) rfl fun K hK => ?_
        go_simp;refine hK _ _ ?_;clear hK K;(try simp only [Act.put, lz]);refine rdI 9 (by kernel_rfl) rfl fun K hK => ?_
        go_simp;refine hK _ _ ?_;clear hK K;(try simp only [Act.put, lz]);refine wpAnyIn_done (by kernel_rfl) ?_ _
        gi_wp2_with fail;refine ⟨HG.out.2.1, HG.out.1, jsA, qsA, i + 1, hJ4.out, h'.out.sub, h'.out.mj, h'.out.qsub, h'.out.qq, ⟨HG.out.2.2.1, HG.out.2.2.2.1, by simpa [Sr.nx] using HG.out.2.2.2.2.1, HG.out.2.2.2.2.2.1, HG.out.2.2.2.2.2.2, by show ((s.i + 1 : Nat) : Int) < many; have := hfin.out; omega⟩, by show i + 1 = s.i + 1; rw [hie.out], Nat.le_trans h'.out.size HG.out.2.1.size, h'.out.mde, h'.out.lj, h'.out.lq, fun x hx => (by cases hx), fun j hj => Nat.lt_of_lt_of_le (h'.out.jl j hj) HG.out.2.1.size, fun q hq => Nat.lt_of_lt_of_le (h'.out.ql q hq) HG.out.2.1.size⟩
     ·have HG := hid (hgo.out A3 hk3)
      have hJ4 := hid hJ3
      clear hgo hR' hyl6 hJ3 hk3;refine hK _ _ ?_;clear hK K;(try simp only [Act.put, lz]);refine rdI 4 (by kernel_rfl) rfl fun K hK => ?_
      go_simp;refine hK _ _ ?_;clear hK K;(try simp only [Act.put, lz]);refine rdI 5 (by kernel_rfl) rfl fun K hK => ?_
      go_simp;refine hK _ _ ?_;clear hK K;(try simp only [Act.put, lz]);refine rdJ 6 7 (by kernel_rfl) rfl rfl (fun K hK => ?_) fun K hK => ?_
      ·go_simp
       refine hK _ _ ?_;clear hK K;(try simp only [Act.put, lz]);refine rdI 7 (by kernel_rfl) rfl fun K hK => ?_
       go_simp;refine hK _ _ ?_;clear hK K;(try simp only [Act.put, lz]);refine rdI 8 (by kernel_rfl) rfl fun K hK => ?_
       go_simp;refine hK _ _ ?_;clear hK K;(try simp only [Act.put, lz]);refine rdI 9 (by kernel_rfl) rfl fun K hK => ?_
       go_simp;refine hK _ _ ?_;clear hK K;(try simp only [Act.put, lz]);refine wpAnyIn_done (by kernel_rfl) ?_ _
       gi_wp2_with fail;exact ⟨HG.out.2.1, HG.out.1, rfl, Sr.nx ⟨true, W2.heap.size, qsA, jsA, i, some ⟨za, zc, xl⟩⟩ ⟨za, zc, xl⟩, rfl, rfl, h'.out.qsub, h'.out.mde, h'.out.lj, .inl hJ4.out⟩
      ·go_simp
       refine hK _ _ ?_;clear hK K;(try simp only [Act.put, lz]);refine rdI 6 (by kernel_rfl) rfl fun K hK => ?_
       go_simp;refine hK _ _ ?_;clear hK K;(try simp only [Act.put, lz]);refine rdI 8 (by kernel_rfl) rfl fun K hK => ?_
       go_simp;refine hK _ _ ?_;clear hK K;(try simp only [Act.put, lz]);refine rdI 9 (by kernel_rfl) rfl fun K hK => ?_
       go_simp;refine hK _ _ ?_;clear hK K;(try simp only [Act.put, lz]);refine wpAnyIn_done (by kernel_rfl) ?_ _
       gi_wp2_with fail;exact ⟨HG.out.2.1, HG.out.1, rfl, Sr.nx ⟨true, W2.heap.size, qsA, jsA, i, some ⟨za, zc, xl⟩⟩ ⟨za, zc, xl⟩, rfl, rfl, h'.out.qsub, h'.out.mde, h'.out.lj, .inl hJ4.out⟩
    ·go_simp
     refine ⟨trivial, fun h => (by cases h), (CallsIn.inRound l0 (callsIn_wide.2 cCt.out)).mono ?_⟩
     rintro e Wz ⟨za, zc, rfl, hzrow, kz, hzb⟩;have c3z := kpAt kz c3b
     refine hK _ _ ?_;clear hK K;(try simp only [Act.put, lz]);refine rdI 0 (by kernel_rfl) rfl fun K hK => ?_
     go_simp;refine hK _ _ ?_;clear hK K;(try simp only [Act.put, lz]);have kWz := hid (KB.out.trans kz (by simp))
     have hzl := rowLies hzrow
     have hzb2 : ∀ j ∈ blk za, A.heap.size ≤ j := fun j hj => by have := hzb j hj; have := KB.out.size; omega
     have hJz : J ⟨true, W2.heap.size, qsA, jsA, i, some ⟨za, zc, xl⟩⟩ Wz := hT _ _ _ _ h'.out.j ⟨TurnR.ofKp (kWz.out.mono (fun q hq' => by rw [List.mem_singleton.1 hq']; exact .inl h'.out.qq)), fun _ => ⟨rfl, rfl, fun q hq => .inl hq⟩, fun e => (by cases e), fun j hj => .inl hj, rfl, .inr ⟨_, rfl, hR1.out, hzl, fun _ => ⟨hzrow, fun j hj => ⟨hzb2 j hj, fun hm => by have := h'.out.jl j hm; have := hzb2 j hj; omega, fun hm => by have := h'.out.ql j hm; have := hzb2 j hj; omega⟩⟩⟩⟩
     obtain ⟨fn, tmps, assign, body, hyl5, hR⟩ := hY _ ⟨za, zc, xl⟩ Wz hJz rfl;have hR' : RoundIn (Fence.wide.inRound l0) (n - 1 - 1 - 1) Tryz.prog ly fn tmps assign body Wz _ := RoundIn.anyDepthJ (F := Fence.wide.inRound l0) rfl hR
     have hgo : Hid (∀ A3, KeepR ⟨true, W2.heap.size, qsA, jsA, i, some ⟨za, zc, xl⟩⟩ Wz A3 → KeepR s A A3 ∧ KeepsFrom W2.heap.size A A3 ∧ A3.cell? ⟨q1, 0, none⟩ = some (.int .i64 many) ∧ A3.cell? ⟨q3, 0, none⟩ = some (.func (.yield ly) #[] #[]) ∧ A3.cell? ⟨q4, 0, none⟩ = some (.int .i64 ((s.i : Int) + 1)) ∧ A3.frozen? ⟨q4, 0, none⟩ = false ∧ ∀ k, 1 ≤ k → A3.cell? ⟨q4, k, none⟩ = none) := fun A3 hk3 => by
      have hnr : ∀ j (o : Obj), A.heap[j]? = some o → o.isCells = false → j ∉ [q4] := fun j o ho hc hm => by
       rw [List.mem_singleton.1 hm] at ho;have := hcel.out
       rw [ho] at this;simp [hc] at this
      have t1 : KeepR s A Wz := ⟨KeepB.ofKp kWz.out (fun j hj hm => h'.out.lq j hj (List.mem_singleton.1 hm)), fun _ j o _ ho hc => (kWz.out.block j (Array.getElem?_eq_some_iff.1 ho).1 (hnr j o ho hc)).trans ho⟩
      have t2 : KeepR s Wz A3 := ⟨⟨hk3.js.1, fun j hj o ho => hk3.js.2 j (h'.out.sub j hj) o ho⟩, fun hm j o hj ho hc => hk3.recs rfl j o (by have := (h'.out.mde hm).1; show W2.heap.size ≤ j; omega) ho hc⟩
      have ck3 := ckOfKeepB hk3.js
      have kz1 : Kp [] A1 Wz := KD.out.trans kz (by simp)
      have hin : ∀ q ∈ [q1, q3, q4], q ∈ jsA := fun q hq' => h'.out.mj q (by rw [hMj.out]; exact hq')
      have a4 := kpAt kz1 HC.out.2.2.1
      refine ⟨t1.trans t2, ⟨Nat.le_trans kWz.out.size hk3.js.1, fun j o hj ho hc => hk3.recs rfl j o hj ((kWz.out.block j (Array.getElem?_eq_some_iff.1 ho).1 (hnr j o ho hc)).trans ho) hc⟩, (ck3.2 ⟨q1, 0, none⟩ _ (hin q1 (by simp)) (kpAt kz1 HC.out.1)).1, (ck3.2 ⟨q3, 0, none⟩ _ (hin q3 (by simp)) (kpAt kz1 HC.out.2.1)).1, (ck3.2 ⟨q4, 0, none⟩ _ (hin q4 (by simp)) a4).1, ((ck3.2 ⟨q4, 0, none⟩ _ (hin q4 (by simp)) a4).2).trans ((kz1.frozen (p := ⟨q4, 0, none⟩) (World.block_lt_of_cell? _ _ HC.out.2.2.1) (by simp)).trans HC.out.2.2.2), noneCB (CB.ofKeepB hk3.js) (hin q4 (by simp)) a4 (noneCB (CB.ofKp kz1) (by simp) HC.out.2.2.1 HN.out)⟩
     have hyl6 := hyl5
     simp only [encR] at hyl6;clear hR hJz hzl hzrow kz hzb hzb2 hyl5 cCt;refine rdI 3 (by kernel_rfl) rfl fun K hK => ?_
     go_simp;refine ⟨fun h => (by cases h), hR'.mono ?_⟩
     rintro e A3 (⟨rfl, hJ3, hk3⟩ | ⟨rfl, hJ3, hk3⟩)
     ·have HG := hid (hgo.out A3 hk3)
      have hJ4 : Hid (J ⟨true, W2.heap.size, qsA, jsA, i + 1, none⟩ A3) := hJ3
      have y1 := HG.out.2.2.1
      have y4 := HG.out.2.2.2.2.1
      clear hgo hR' hyl6 hJ3 hk3;refine hK _ _ ?_;clear hK K;(try simp only [Act.put, lz]);refine rdI 4 (by kernel_rfl) rfl fun K hK => ?_
      go_simp;refine hK _ _ ?_;clear hK K;(try simp only [Act.put, lz]);refine rdI 5 (by kernel_rfl) rfl fun K hK => ?_
      go_simp;refine hK _ _ ?_;clear hK K;try simp only [Act.put, lz]
      by_cases hfin0 : (s.i : Int) + 1 = many
      ·have dE : ((s.i : Int) + 1 == many) = true := by simpa using hfin0
       have hfin := hid hfin0
       clear hfin0;refine rdJ 6 7 (by kernel_rfl) rfl rfl (fun K hK => ?_) fun K hK => ?_
       ·go_simp
        refine hK _ _ ?_;clear hK K;(try simp only [Act.put, lz]);refine rdI 7 (by kernel_rfl) rfl fun K hK => ?_
        go_simp;refine hK _ _ ?_;clear hK K;(try simp only [Act.put, lz]);refine rdI 8 (by kernel_rfl) rfl fun K hK => ?_
        go_simp;refine hK _ _ ?_;clear hK K;(try simp only [Act.put, lz]);refine rdI 9 (by kernel_rfl) rfl fun K hK => ?_
        go_simp;refine hK _ _ ?_;clear hK K;(try simp only [Act.put, lz]);refine wpAnyIn_done (by kernel_rfl) ?_ _
        gi_wp2_with fail;refine ⟨HG.out.2.1, HG.out.1, rfl, ⟨true, W2.heap.size, qsA, jsA, i + 1, none⟩, rfl, rfl, h'.out.qsub, h'.out.mde, h'.out.lj, .inr ⟨?_, rfl, hJ4.out⟩⟩;show i + 1 = RJ.length
        have h1 := hie.out
        have h2 := hfin.out
        rw [← hRJ.out, List.length_take];omega
       ·go_simp
        refine hK _ _ ?_;clear hK K;(try simp only [Act.put, lz]);refine rdI 6 (by kernel_rfl) rfl fun K hK => ?_
        go_simp;refine hK _ _ ?_;clear hK K;(try simp only [Act.put, lz]);refine rdI 8 (by kernel_rfl) rfl fun K hK => ?_
        go_simp;refine hK _ _ ?_;clear hK K;(try simp only [Act.put, lz]);refine rdI 9 (by kernel_rfl) rfl fun K hK => ?_
        go_simp;refine hK _ _ ?_;clear hK K;(try simp only [Act.put, lz]);refine wpAnyIn_done (by kernel_rfl) ?_ _
        gi_wp2_with fail;refine ⟨HG.out.2.1, HG.out.1, rfl, ⟨true, W2.heap.size, qsA, jsA, i + 1, none⟩, rfl, rfl, h'.out.qsub, h'.out.mde, h'.out.lj, .inr ⟨?_, rfl, hJ4.out⟩⟩;show i + 1 = RJ.length
        have h1 := hie.out
        have h2 := hfin.out
        rw [← hRJ.out, List.length_take];omega
      ·have dE : ((s.i : Int) + 1 == many) = false := beq_eq_false_iff_ne.2 hfin0
       have hfin := hid hfin0
       clear hfin0;refine rdJ 6 7 (by kernel_rfl) rfl rfl (fun K hK => ?_) fun K hK => ?_
       ·go_simp
        refine hK _ _ ?_;clear hK K;(try simp only [Act.put, lz]);refine rdI 7 (by kernel_rfl) rfl fun K hK => ?_
        go_simp;refine hK _ _ ?_;clear hK K;(try simp only [Act.put, lz]);refine rdI 8 (by kernel_rfl) rfl fun K hK => ?_
        go_simp;refine hK _ _ ?_;clear hK K;(try simp only [Act.put, lz]);refine rdI 9 (by kernel_rfl) rfl fun K hK => ?_
        go_simp;refine hK _ _ ?_;clear hK K;(try simp only [Act.put, lz]);refine wpAnyIn_done (by kernel_rfl) ?_ _
        gi_wp2_with fail;refine ⟨HG.out.2.1, HG.out.1, jsA, qsA, i + 1, hJ4.out, h'.out.sub, h'.out.mj, h'.out.qsub, h'.out.qq, ⟨HG.out.2.2.1, HG.out.2.2.2.1, by simpa [Sr.nx] using HG.out.2.2.2.2.1, HG.out.2.2.2.2.2.1, HG.out.2.2.2.2.2.2, by show ((s.i + 1 : Nat) : Int) < many; have := hfin.out; omega⟩, by show i + 1 = s.i + 1; rw [hie.out], Nat.le_trans h'.out.size HG.out.2.1.size, h'.out.mde, h'.out.lj, h'.out.lq, fun x hx => (by cases hx), fun j hj => Nat.lt_of_lt_of_le (h'.out.jl j hj) HG.out.2.1.size, fun q hq => Nat.lt_of_lt_of_le (h'.out.ql q hq) HG.out.2.1.size⟩
       ·go_simp
        refine hK _ _ ?_;clear hK K;(try simp only [Act.put, lz]);refine rdI 6 (by kernel_rfl) rfl fun K hK => ?_
        go_simp;refine hK _ _ ?_;clear hK K;(try simp only [Act.put, lz]);refine rdI 8 (by kernel_rfl) rfl fun K hK => ?_
        go_simp;refine hK _ _ ?_;clear hK K;(try simp only [Act.put, lz]);refine rdI 9 (by kernel_rfl) rfl fun K hK => ?_
        go_simp;refine hK _ _ ?_;clear hK K;(try simp only [Act.put, lz]);refine wpAnyIn_done (by kernel_rfl) ?_ _
        gi_wp2_with fail;refine ⟨HG.out.2.1, HG.out.1, jsA, qsA, i + 1, hJ4.out, h'.out.sub, h'.out.mj, h'.out.qsub, h'.out.qq, ⟨HG.out.2.2.1, HG.out.2.2.2.1, by simpa [Sr.nx] using HG.out.2.2.2.2.1, HG.out.2.2.2.2.2.1, HG.out.2.2.2.2.2.2, by show ((s.i + 1 : Nat) : Int) < many; have := hfin.out; omega⟩, by show i + 1 = s.i + 1; rw [hie.out], Nat.le_trans h'.out.size HG.out.2.1.size, h'.out.mde, h'.out.lj, h'.out.lq, fun x hx => (by cases hx), fun j hj => Nat.lt_of_lt_of_le (h'.out.jl j hj) HG.out.2.1.size, fun q hq => Nat.lt_of_lt_of_le (h'.out.ql q hq) HG.out.2.1.size⟩
     ·have HG := hid (hgo.out A3 hk3)
      have hJ4 := hid hJ3
      clear hgo hR' hyl6 hJ3 hk3;refine hK _ _ ?_;clear hK K;(try simp only [Act.put, lz]);refine rdI 4 (by kernel_rfl) rfl fun K hK => ?_
      go_simp;refine hK _ _ ?_;clear hK K;(try simp only [Act.put, lz]);refine rdI 5 (by kernel_rfl) rfl fun K hK => ?_
      go_simp;refine hK _ _ ?_;clear hK K;(try simp only [Act.put, lz]);refine rdJ 6 7 (by kernel_rfl) rfl rfl (fun K hK => ?_) fun K hK => ?_
      ·go_simp
       refine hK _ _ ?_;clear hK K;(try simp only [Act.put, lz]);refine rdI 7 (by kernel_rfl) rfl fun K hK => ?_
       go_simp;refine hK _ _ ?_;clear hK K;(try simp only [Act.put, lz]);refine rdI 8 (by kernel_rfl) rfl fun K hK => ?_
       go_simp;refine hK _ _ ?_;clear hK K;(try simp only [Act.put, lz]);refine rdI 9 (by kernel_rfl) rfl fun K hK => ?_
       go_simp;refine hK _ _ ?_;clear hK K;(try simp only [Act.put, lz]);refine wpAnyIn_done (by kernel_rfl) ?_ _
       gi_wp2_with fail;exact ⟨HG.out.2.1, HG.out.1, rfl, Sr.nx ⟨true, W2.heap.size, qsA, jsA, i, some ⟨za, zc, xl⟩⟩ ⟨za, zc, xl⟩, rfl, rfl, h'.out.qsub, h'.out.mde, h'.out.lj, .inl hJ4.out⟩
      ·go_simp
       refine hK _ _ ?_;clear hK K;(try simp only [Act.put, lz]);refine rdI 6 (by kernel_rfl) rfl fun K hK => ?_
       go_simp;refine hK _ _ ?_;clear hK K;(try simp only [Act.put, lz]);refine rdI 8 (by kernel_rfl) rfl fun K hK => ?_
       go_simp;refine hK _ _ ?_;clear hK K;(try simp only [Act.put, lz]);refine rdI 9 (by kernel_rfl) rfl fun K hK => ?_
       go_simp;refine hK _ _ ?_;clear hK K;(try simp only [Act.put, lz]);refine wpAnyIn_done (by kernel_rfl) ?_ _
       gi_wp2_with fail;exact ⟨HG.out.2.1, HG.out.1, rfl, Sr.nx ⟨true, W2.heap.size, qsA, jsA, i, some ⟨za, zc, xl⟩⟩ ⟨za, zc, xl⟩, rfl, rfl, h'.out.qsub, h'.out.mde, h'.out.lj, .inl hJ4.out⟩
  case done =>
   rintro D s X hD ⟨hmd, hsi, hsp⟩ ⟨jsA, qsA, i, h⟩ hrec
   have hie : i = RJ.length := by
    have h1 := h.rel
    have h2 := h.m.lt
    rw [← hRJ.out, List.length_take];omega
   have hJD := hT _ _ _ _ h.j (StepR.same rfl rfl (TurnR.ofGrown (grownBy_putObj' X D (.deferred none)) (fun r e => by cases e; exact ⟨hD, _, hrec, rfl⟩)))
   gi_wp2_with fail;refine ⟨by simp, .inl ⟨_, _, rfl, run_takeDeferred hrec, ?_⟩⟩
   exact ⟨_, results_none rfl _ _ _, ⟨_, rfl⟩, .inl ⟨_, ⟨rfl, hie, rfl⟩, hJD⟩⟩
  case stop =>
   rintro D c s X hD hsm ⟨rfl, h⟩ hrec;obtain ⟨s2, h1, h2, h3, h4, h5, h6⟩ := h;have hJD := JxD.step hT hX _ _ _ h6 ⟨h1, TurnR.ofGrown (grownBy_putObj' X D (.deferred none)) (fun r e => by cases e; exact ⟨by rw [h2]; exact hD, _, hrec, rfl⟩)⟩
   gi_wp2_with fail;refine ⟨by simp, .inl ⟨_, _, rfl, run_takeDeferred hrec, ?_⟩⟩
   refine ⟨_, results_none rfl _ _ _, ⟨_, rfl⟩, ?_⟩
   rcases hJD with e | ⟨e1, e2, e3⟩
   ·exact .inr ⟨s2, h1, e⟩
   ·exact .inl ⟨s2, ⟨h1, e1, e2⟩, e3⟩
theorem cLimitE (gl : Nat) (lbl : Array Value) (many : Int) (w : World) : Calls Tryz.prog 60 #[.func (.func gl) #[] lbl, .int .i64 many] w fun e w' => e = .returned (.func (.func 109) #[] #[.pointer (some ⟨w.heap.size + 1, 0, none⟩), .pointer (some ⟨w.heap.size, 0, none⟩)]) ∧
  w' = (w.alloc (.cells #[.func (.func gl) #[] lbl] 123)).alloc (.cells #[.int .i64 many] 3) := by
 go_enter Tryz.func60, Tryz.ntmps60
 go_wp2_with fail;go_returns;exact ⟨rfl, rfl⟩
theorem heLim : ∀ (args : Array Value) (w : World), (callFunc 109 args).run Tryz.prog w = .ok (.enter 109 args) w := fun _ _ => rfl
theorem limSrc {gl : Nat} {lbl : Array Value} {many : Int} {w w' : World} (hw : w' = (w.alloc (.cells #[.func (.func gl) #[] lbl] 123)).alloc (.cells #[.int .i64 many] 3)) (m : Nat) (hm : 2 ≤ m) (fr : Bool) (RL : List (List Val)) (jsl : List Nat) (heg : ∀ args w, (callFunc gl args).run Tryz.prog w = .ok (.enter gl args) w) (hL : ∀ n, m ≤ n → RowSeq fr (n - 1) gl lbl RL jsl w) (hjl : ∀ j ∈ jsl, j < w.heap.size) (hRLl : ∀ l ∈ RL, l.length ≤ 1800000000000) (hRLn : RL.length ≤ 4000000000000) (hmx : many ≤ 9223372036854775807) :
  ∃ js, (∀ j ∈ js, j < w'.heap.size) ∧ (∀ n, m ≤ n → RowSeq true n 109 #[.pointer (some ⟨w.heap.size + 1, 0, none⟩), .pointer (some ⟨w.heap.size, 0, none⟩)] (RL.take many.toNat) js w') ∧ Kp [] w w' := by
 obtain ⟨wa, ha⟩ : ∃ x, x = w.alloc (.cells #[.func (.func gl) #[] lbl] 123) := ⟨_, rfl⟩
 rw [← ha] at hw;have za : wa.heap.size = w.heap.size + 1 := by rw [ha]; simp
 have zb : w'.heap.size = w.heap.size + 2 := by rw [hw]; simp [za]
 have ka : Kp [] w wa := by rw [ha]; exact (Kp.refl _ _).alloc _
 have kb : Kp [] wa w' := by rw [hw]; exact (Kp.refl _ _).alloc _
 have ba : Bn wa w.heap.size [.func (.func gl) #[] lbl] := by rw [ha]; exact Bn.new w _ _
 have bb : Bn w' (w.heap.size + 1) [.int .i64 many] := by rw [hw, ← za]; exact Bn.new wa _ _
 have k := ka.trans kb (by simp)
 have hjs : ∀ j ∈ jsl ++ [w.heap.size + 1, w.heap.size], j < w'.heap.size := fun j hj => by
  rcases List.mem_append.1 hj with e | e
  ·have := hjl j e; omega
  ·simp at e; omega
 exact ⟨_, hjs, fun n hn => limSeq n (by omega) _ _ fr gl lbl RL jsl _ many w' heg (bb.get 0 _ rfl) ((ba.kept kb).get 0 _ rfl) (fun q hq => List.mem_append.2 (.inr hq)) (fun j hj => List.mem_append.2 (.inl hj)) hjs ((hL n hn).move (KeepB.ofKp k (by simp))) hRLl hRLn hmx, k⟩
end Go.Proofs.YtcgkkofmnajedaaGreatDoor
end

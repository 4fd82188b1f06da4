/- exec.Join's iterator. -/
import Derived.Test.YtohkjikhlakglaaB3
import Derived.Test.YtohkjikhlakglaaB6
section
namespace Go.Proofs.Ytohkjikhlakglaa
open Go.RowKit Go.Hay
attribute [local go_sem] Oper.semAt_some
set_option linter.unusedVariables false
set_option linter.unusedSimpArgs false

theorem roomJ_of_none {F : Fence} (hd : F.depth = none) (k : Nat) : F.room k := fun d h => by rw [hd] at h; cases h
theorem RoundIn.anyDepthJ {F : Fence} (hd : F.depth = none) {m m' : Nat} {P : Program} {l : Nat} {f : FuncId} {tmps : Array Value} {assign body : Code} {w : World} {R : Ending → World → Prop}
    (h : RoundIn F m P l f tmps assign body w R) : RoundIn F m' P l f tmps assign body w R := ⟨h.1, fun c cs _ => h.2 c cs (roomJ_of_none hd _)⟩
/-- Those of which it is true stand together. -/
theorem filter_range {α : Type} (p : α → Bool) (L : List α) (i m : Nat) (h : i + m ≤ L.length) (h1 : ∀ k (hk : k < L.length), i ≤ k → k < i + m → p L[k] = true) (h2 : ∀ k (hk : k < L.length), p L[k] = true → i ≤ k ∧ k < i + m) : L.filter p = (L.drop i).take m := by
  have e : L = L.take i ++ ((L.drop i).take m ++ (L.drop i).drop m) := by rw [List.take_append_drop, List.take_append_drop]
  conv => lhs; rw [e]
  rw [List.filter_append, List.filter_append]
  have a1 : (L.take i).filter p = [] := List.filter_eq_nil_iff.2 fun x hx => by
    obtain ⟨k, hk, rfl⟩ := List.getElem_of_mem hx
    rw [List.length_take] at hk
    rw [List.getElem_take]
    intro hp
    have := h2 k (by omega) hp
    omega
  have a2 : ((L.drop i).take m).filter p = (L.drop i).take m := List.filter_eq_self.2 fun x hx => by
    obtain ⟨k, hk, rfl⟩ := List.getElem_of_mem hx
    rw [List.length_take, List.length_drop] at hk
    rw [List.getElem_take, List.getElem_drop]
    exact h1 (i + k) (by omega) (by omega) (by omega)
  have a3 : ((L.drop i).drop m).filter p = [] := List.filter_eq_nil_iff.2 fun x hx => by
    obtain ⟨k, hk, rfl⟩ := List.getElem_of_mem hx
    rw [List.length_drop, List.length_drop] at hk
    rw [List.getElem_drop, List.getElem_drop]
    intro hp
    have := h2 (i + (m + k)) (by omega) hp
    omega
  rw [a1, a2, a3]
  simp
/-- Which rows one row of the left gives. -/
def fJ (S : List (List Val)) (lo ro : Int) (x : List Val) : List (List Val) := (S.filter fun r => cmpV (vAt r ro) (vAt x lo) == 0).map (x ++ ·)
theorem fJ_sub {SL : List Vs} {S : List (List Val)} (hS : SL.map (·.l) = S) {lo ro : Int} {x : List Val} {i m : Nat} (h : i + m ≤ SL.length) (h1 : ∀ k, i ≤ k → k < i + m → cAt SL ro (vAt x lo) k = 0) (h2 : ∀ k, k < SL.length → cAt SL ro (vAt x lo) k = 0 → i ≤ k ∧ k < i + m) : fJ S lo ro x = ((SL.drop i).take m).map fun o => x ++ o.l := by
  unfold fJ
  rw [← hS, List.filter_map, filter_range _ SL i m h (fun k hk a b => by have := h1 k a b; rw [cAt_in hk] at this; simpa using this) (fun k hk a => h2 k hk (by rw [cAt_in hk]; simpa using a)), List.map_map]
  rfl
def joinR (RL S : List (List Val)) (lo ro : Int) : List (List Val) := RL.flatMap (fJ S lo ro)
/-- The iterator's own memory. -/
structure MJ (lo ro : Int) (q2 q4 q5 q6 ly N : Nat) (sra : Option Addr) (src : Nat) (SL : List Vs) (W : World) : Prop where
  c2 : W.cell? ⟨q2, 0, none⟩ = some (.int .i64 ro)
  c4 : W.cell? ⟨q4, 0, none⟩ = some (.int .i64 lo)
  c5 : W.cell? ⟨q5, 0, none⟩ = some (.func (.yield ly) #[] #[])
  c6 : W.cell? ⟨q6, 0, none⟩ = some (.slice sra SL.length src)
  lot : Lot N sra src SL W
def mjs (q2 q4 q5 q6 : Nat) (sra : Option Addr) (SL : List Vs) : List Nat := [q2, q4, q5, q6] ++ blk sra ++ SL.flatMap fun x => blk x.a
theorem MJ.ck {lo ro : Int} {q2 q4 q5 q6 ly N : Nat} {sra : Option Addr} {src : Nat} {SL : List Vs} {X Y : World} (h : MJ lo ro q2 q4 q5 q6 ly N sra src SL X) (k : CK (fun k => k ∈ mjs q2 q4 q5 q6 sra SL) X Y) : MJ lo ro q2 q4 q5 q6 ly N sra src SL Y :=
  ⟨(k.2 ⟨q2, 0, none⟩ _ (by simp [mjs]) h.c2).1, (k.2 ⟨q4, 0, none⟩ _ (by simp [mjs]) h.c4).1, (k.2 ⟨q5, 0, none⟩ _ (by simp [mjs]) h.c5).1, (k.2 ⟨q6, 0, none⟩ _ (by simp [mjs]) h.c6).1, h.lot.ck k (fun j hj => by simp [mjs, hj]) (fun x hx j hj => by simp only [mjs, List.mem_append, List.mem_flatMap]; exact .inr ⟨x, hx, hj⟩)⟩
theorem ckOfKeepB {js : List Nat} {X Y : World} (h : KeepB js X Y) : CK (fun k => k ∈ js) X Y := ⟨h.1, fun p u hp hc => by
  have hl := World.block_lt_of_cell? _ _ hc
  have e : X.heap[p.block]? = some X.heap[p.block] := by simp [hl]
  have e2 := (h.2 _ hp _ e).trans e.symm
  exact ⟨(World.cell?_of_block e2).trans hc, World.frozen?_of_block e2⟩⟩
set_option maxHeartbeats 64000000 in
set_option maxRecDepth 100000 in
theorem joinSeq (n : Nat) (hn : 4 ≤ n) (q1 q2 q3 q4 : Nat) (frL frR : Bool) (gl gr : Nat) (lbl lbr : Array Value) (RL RR S : List (List Val)) (jsl jsr js : List Nat) (lo ro : Int) (w : World)
    (heL : ∀ args w, (callFunc gl args).run Try.prog w = .ok (.enter gl args) w) (heR : ∀ args w, (callFunc gr args).run Try.prog w = .ok (.enter gr args) w)
    (c1 : w.cell? ⟨q1, 0, none⟩ = some (.func (.func gr) #[] lbr)) (c2 : w.cell? ⟨q2, 0, none⟩ = some (.int .i64 ro)) (c3 : w.cell? ⟨q3, 0, none⟩ = some (.func (.func gl) #[] lbl)) (c4 : w.cell? ⟨q4, 0, none⟩ = some (.int .i64 lo))
    (hq : ∀ q ∈ [q1, q2, q3, q4], q ∈ js) (hjl : ∀ j ∈ jsl, j ∈ js) (hjr : ∀ j ∈ jsr, j ∈ js) (hjb : ∀ j ∈ js, j < w.heap.size)
    (hL : ∀ n, 1 ≤ n → RowSeq frL n gl lbl RL jsl w) (hR : ∀ n, 1 ≤ n → RowSeq frR n gr lbr RR jsr w)
    (hRR : RR.length ≤ 4000000000000) (hRRl : ∀ l ∈ RR, l.length ≤ 1800000000000) (hRLl : ∀ l ∈ RL, l.length ≤ 1800000000000) (hSl : S.length ≤ 4000000000000) (hSll : ∀ l ∈ S, l.length ≤ 1800000000000)
    (hsort : ∀ (W : World) (N q : Nat) (ra : Option Addr) (rc : Nat) (L : List Vs), Lot N ra rc L W → L.map (·.l) = ordR ro RR → W.cell? ⟨q, 0, none⟩ = some (.int .i64 ro) → q ∉ blk ra → Calls Try.prog 37 #[.slice ra L.length rc, .func (.func 56) #[] #[.pointer (some ⟨q, 0, none⟩)]] W (SortP N ra rc L.length S W))
    (hmono : ∀ (SL : List Vs) (v : Val), SL.map (·.l) = S → (∀ i j, i ≤ j → j < SL.length → cAt SL ro v j < 0 → cAt SL ro v i < 0) ∧ (∀ i j, i ≤ j → j < SL.length → cAt SL ro v j ≤ 0 → cAt SL ro v i ≤ 0)) :
    RowSeq true n 42 #[.pointer (some ⟨q1, 0, none⟩), .pointer (some ⟨q2, 0, none⟩), .pointer (some ⟨q3, 0, none⟩), .pointer (some ⟨q4, 0, none⟩)] (joinR RL S lo ro) js w := by
  intro ly J Jx W hW hT hX hY h0
  obtain ⟨RJ, hRJ⟩ : ∃ R, Hid (joinR RL S lo ro = R) := ⟨_, rfl⟩
  rw [hRJ.out] at hT ⊢
  have kjs := hW.js
  have d1 := kjs.cell (hq q1 (by simp)) c1
  have d2 := kjs.cell (hq q2 (by simp)) c2
  have d3 := kjs.cell (hq q3 (by simp)) c3
  have d4 := kjs.cell (hq q4 (by simp)) c4
  have hlW : ∀ n, 1 ≤ n → RowSeq frL n gl lbl RL jsl W := fun n h => (hL n h).move ⟨kjs.1, fun j hj o ho => kjs.2 j (hjl j hj) o ho⟩
  have hrW : ∀ n, 1 ≤ n → RowSeq frR n gr lbr RR jsr W := fun n h => (hR n h).move ⟨kjs.1, fun j hj o ho => kjs.2 j (hjr j hj) o ho⟩
  have hjW : ∀ j ∈ js, j < W.heap.size := fun j hj => Nat.lt_of_lt_of_le (hjb j hj) kjs.1
  obtain ⟨W1, hW1, k1, b1⟩ : ∃ W1, W.alloc (.cells #[.func (.yield ly) #[] #[]] 23) = W1 ∧ Kp [] W W1 ∧ Bn W1 W.heap.size [.func (.yield ly) #[] #[]] := ⟨_, rfl, (Kp.refl _ _).alloc _, Bn.new W _ _⟩
  obtain ⟨q5, hq5⟩ : ∃ q, Hid (W.heap.size = q) := ⟨_, rfl⟩
  rw [hq5.out] at b1
  have cO := hid (callsIn_wide.1 (cOrderedG 4 (by omega) frR gr lbr RR jsr ro S W1 heR ((hrW 3 (by omega)).move (KeepB.ofKp k1 (by simp))) (fun j hj => Nat.lt_of_lt_of_le (hjW j (hjr j hj)) k1.size) hRR (fun l h => by have := hRRl l h; omega) hsort))
  have e1 := kpAt k1 d1; have e2 := kpAt k1 d2; have e3 := kpAt k1 d3; have e4 := kpAt k1 d4
  have HA := hid (And.intro k1 (And.intro b1 (And.intro hlW (And.intro hjW (And.intro d2 (And.intro d3 d4))))))
  have h0' := hid h0
  clear c1 c2 c3 c4 hL hR hsort hW kjs hjb hrW hlW k1 b1 d1 d2 d3 d4 hRR hRRl h0
  refine callsIn_of_wp_marks Try.func42 rfl trivial ?_ rfl
  simp only [Try.ntmps42, List.size_toArray, List.length_cons, List.length_nil, Nat.reduceAdd, Nat.reduceSub, Array.replicate_succ, Array.replicate_zero, List.push_toArray, List.append_toArray, List.nil_append, List.cons_append]
  refine wpIn_wide.2 ?_
  have hq5' := hq5.out
  go_wp2_with fail
  go_step3
  go_wp2_with fail
  refine cO.out.mono ?_
  rintro e W2 ⟨sra, src, SL, rfl, hlot, hSL, k2⟩
  obtain ⟨q6, hq6⟩ : ∃ q, Hid (W2.heap.size = q) := ⟨_, rfl⟩
  obtain ⟨W3z, hW3z, k3z, b3z⟩ : ∃ W3, W2.alloc (.cells #[.slice none 0 0] 22) = W3 ∧ Kp [] W2 W3 ∧ Bn W3 q6 [.slice none 0 0] := ⟨_, rfl, (Kp.refl _ _).alloc _, by have := Bn.new W2 [.slice none 0 0] 22; rw [hq6.out] at this; exact this⟩
  have z0 := b3z.get 0 _ rfl
  have zf := b3z.free 0
  obtain ⟨W3, hW3, k3, b3⟩ : ∃ W3, W3z.setCell ⟨q6, 0, none⟩ (.slice sra SL.length src) = W3 ∧ Kp [] W2 W3 ∧ Bn W3 q6 [.slice sra SL.length src] := ⟨_, rfl, k3z.setCell (.inr (by rw [← hq6.out]; exact Nat.le_refl _)) _, b3z.set 0 (by simp) _⟩
  have k13 := k2.trans k3 (by simp)
  have k03 := HA.out.1.trans k13 (by simp)
  have f3 := kpAt k03 HA.out.2.2.2.2.2.1
  have hM3 : MJ lo ro q2 q4 q5 q6 ly W1.heap.size sra src SL W3 := ⟨kpAt k03 HA.out.2.2.2.2.1, kpAt k03 HA.out.2.2.2.2.2.2, (HA.out.2.1.kept k13).get 0 _ rfl, b3.get 0 _ rfl, hlot.ck (CK.ofKp k3) (by simp) (by simp)⟩
  obtain ⟨Mj, hMj⟩ : ∃ M, Hid (M = mjs q2 q4 q5 q6 sra SL) := ⟨_, rfl⟩
  have hMb : ∀ j ∈ Mj, j < W3.heap.size := fun j hj => by
    rw [hMj.out] at hj
    have hz := k03.size
    simp only [mjs, List.mem_append, List.mem_cons, List.mem_flatMap, List.not_mem_nil, or_false] at hj
    rcases hj with ((rfl | rfl | rfl | rfl) | hj) | ⟨x, hx, hj⟩
    · exact World.block_lt_of_cell? _ _ hM3.c2
    · exact World.block_lt_of_cell? _ _ hM3.c4
    · exact World.block_lt_of_cell? _ _ hM3.c5
    · exact World.block_lt_of_cell? _ _ hM3.c6
    · exact hM3.lot.lt j hj
    · exact (hM3.lot.rows x hx j hj).2.1
  have hMst : ∀ X Y, MJ lo ro q2 q4 q5 q6 ly W1.heap.size sra src SL X → CK (fun k => k ∈ Mj) X Y → MJ lo ro q2 q4 q5 q6 ly W1.heap.size sra src SL Y := fun X Y h k => h.ck (by rw [← hMj.out]; exact k)
  have hMn : ∀ j ∈ Mj, j ∈ js ∨ (W.heap.size ≤ j ∧ j < W3.heap.size) := fun j hj => by
    have hlt := hMb j hj
    rw [hMj.out] at hj
    have hz1 := HA.out.1.size
    have hz2 := k2.size
    simp only [mjs, List.mem_append, List.mem_cons, List.mem_flatMap, List.not_mem_nil, or_false] at hj
    rcases hj with ((rfl | rfl | rfl | rfl) | hj) | ⟨x, hx, hj⟩
    · exact .inl (hq _ (by simp))
    · exact .inl (hq _ (by simp))
    · exact .inr ⟨by rw [← hq5.out]; exact Nat.le_refl _, hlt⟩
    · exact .inr ⟨by rw [← hq6.out]; omega, hlt⟩
    · exact .inr ⟨by have := hlot.own j hj; omega, hlt⟩
    · exact .inr ⟨by have := (hlot.rows x hx j hj).1; omega, hlt⟩
  have hJ3 : J ⟨true, W3.heap.size, [], js ++ Mj, 0, none⟩ W3 := hT _ _ _ _ h0'.out ⟨TurnR.ofKp0 k03, fun h => (by cases h), fun _ => ⟨rfl, k03.size, by simp⟩, fun j hj => by
    rcases List.mem_append.1 hj with e | e
    · exact .inl e
    · exact hMn j e, rfl, .inl rfl⟩
  have hI0 : InG J RL RJ (fJ S lo ro) (MJ lo ro q2 q4 q5 q6 ly W1.heap.size sra src SL) Mj W3 ⟨false, 0, [], jsl, 0, none⟩ W3 := ⟨js ++ Mj, [], 0, hJ3, fun j hj => List.mem_append.2 (.inl (hjl j hj)), fun j hj => List.mem_append.2 (.inr hj), by simp, hM3, by rw [← hRJ.out]; rfl, Nat.zero_le _, Nat.le_refl _, fun h => (by cases h), fun j hj => by have := HA.out.2.2.2.1 j (hjl j hj); have := k03.size; omega, fun x hx => (by cases hx), fun j hj => by
    rcases List.mem_append.1 hj with e | e
    · have := HA.out.2.2.2.1 j e; have := k03.size; omega
    · exact hMb j e, by simp⟩
  have hsq := hid ((HA.out.2.2.1 (n - 1) (by omega)).move (KeepB.ofKp k03 (by simp)))
  have HI0 := hid hI0
  have HMS := hid hMst
  have HMB := hid hMb
  have HSL := hid hSL
  have hq6' := hq6.out
  clear cO hlot hSL k2 k3z b3z b3 k13 k03 hM3 hMn hJ3 hI0 hMst hMb k3 e1 e2 e3 e4
  go_wp2_with fail
  go_step3
  go_wp2_with fail
  refine (wpIn_wide (n := n)).1 ?_
  refine wpRangeX rfl (by omega) (gf := gl) (lb := lbl) rfl trivial heL
    hsq.out (fun _ => rfl) KeepR.trans (fun s W o => KeepR.alloc s W o) (KeepR.refl _ _)
    (InG J RL RJ (fJ S lo ro) (MJ lo ro q2 q4 q5 q6 ly W1.heap.size sra src SL) Mj W3) (fun c s W' => c = .exit 0 ∧ InX Jx W3 s W') (InG.own hT HMS.out) (fun c s X Y row h hg hr => ⟨h.1, InX.own hX s X Y row h.2 hg hr⟩) HI0.out
    (fun s s' A B h ht k o hk ho => h.keeps ht k o hk ho) (fun c s A B h ht k o hk ho => h.2.keeps ht k o hk ho) (fun s s' A B hz h ht => h.step hT HMS.out HMB.out hz ht) (fun c s A B h ht => ⟨h.1, h.2.step hX ht⟩)
    (fun s W o' h => h.recs o') (fun s x W o' h => h.recs' o') (fun c s x W o' h => h.2.recs' o')
    (fun x => { tmps := #[.func (.yield ly) #[] #[], .pointer (some ⟨q1, 0, none⟩), .pointer (some ⟨q2, 0, none⟩), .pointer (some ⟨q3, 0, none⟩), .pointer (some ⟨q4, 0, none⟩), .pointer (some ⟨q5, 0, none⟩), .pointer (some ⟨q6, 0, none⟩), .slice x.a x.l.length x.c, undef, undef, .func (.func gr) #[] lbr, .int .i64 ro, .slice sra SL.length src, .func (.func gl) #[] lbl, .slice x.a x.l.length x.c, undef, undef, undef, undef, undef, undef, undef, undef, undef, undef, undef, undef, undef, undef, undef, undef, undef, undef, undef, undef, undef], defers := [] }) ?assign ?body ?done ?stop
  case assign =>
    intro l x W C hC
    gi_wp2_with fail
    exact hC
  case body =>
    rintro l0 s ⟨xa, xc, xl⟩ A ⟨jsA, qsA, i, h⟩ hp
    obtain ⟨hRi, hxl⟩ := h.pend _ hp
    dsimp only at hRi ⊢
    have hxn : xl.length ≤ 1800000000000 := hRLl _ (List.mem_of_getElem? hRi)
    have cC := hid (cCloneR xa xc xl A hxl.see hxl.nil (by omega))
    have h' := hid h
    have hRi' := hid hRi
    clear h hRi hxl HI0
    gi_wp2_with fail
    refine ⟨trivial, fun h => (by cases h), (CallsIn.inRound l0 (callsIn_wide.2 cC.out)).mono ?_⟩
    rintro e A1 ⟨ya, yc, rfl, hyrow, kC, hyb⟩
    have KC := hid kC
    have HY1 := hid (And.intro hyrow hyb)
    clear cC kC hyrow hyb
    gi_wp2_with fail
    have hmK : Hid (∀ A', Kp [] A A' → MJ lo ro q2 q4 q5 q6 ly W1.heap.size sra src SL A') := fun A' k => h'.out.m.ck ((CK.ofKp k).mono (by simp))
    have hyl := hid (rowLies HY1.out.1)
    have cA : Hid (∀ A', Kp [] A1 A' → Calls Try.prog 45 #[.slice ya xl.length yc, .int .i64 lo] A' fun e w' => e = .returned (.agg #[.int .i64 (vAt xl lo).k, .bool (vAt xl lo).b, .int .i64 (vAt xl lo).n, .string (vAt xl lo).t]) ∧ Kp [] A' w') := fun A' k => cAtE ya yc xl lo A' (hyl.out.see.kept k) (by omega)
    have hSn : SL.length ≤ 4000000000000 := by have := congrArg List.length HSL.out; simp at this; omega
    have cL : Hid (∀ A', Kp [] A A' → Calls Try.prog 44 #[.slice sra SL.length src, .int .i64 ro, .agg #[.int .i64 (vAt xl lo).k, .bool (vAt xl lo).b, .int .i64 (vAt xl lo).n, .string (vAt xl lo).t]] A' (AlkP sra SL ro (vAt xl lo) A')) := fun A' k => by
      have hm := hmK.out A' k
      obtain ⟨a', c', e, hs, _, h1, h2, _⟩ := hm.lot.row.see
      cases e
      exact cAlike sra src SL ro (vAt xl lo) A' hs hm.lot.lies h1 h2 hSn (hmono SL _ HSL.out).1 (hmono SL _ HSL.out).2
    obtain ⟨v, hv⟩ : ∃ v, Hid (vAt xl lo = v) := ⟨vAt xl lo, rfl⟩
    simp only [hv.out] at cA cL
    obtain ⟨vk, vb, vn, vt⟩ := v
    dsimp only at cA cL
    refine region_round (fun B => B.cell? ⟨q6, 0, none⟩ = some (.slice sra SL.length src) ∧ B.cell? ⟨q2, 0, none⟩ = some (.int .i64 ro) ∧ B.cell? ⟨q4, 0, none⟩ = some (.int .i64 lo)) (by kernel_rfl) (by kernel_rfl) (by rintro ⟨_, _, hlo⟩; exact hlo) ?_ (fun hHeld => ?_)
    · have := hmK.out A1.drew KC.out.drew
      exact ⟨this.c6, this.c2, this.c4⟩
    have KD1 : Hid (Kp [] A1 A1.drew) := hid (Kp.refl _ _).drew
    have KD : Hid (Kp [] A A1.drew) := hid KC.out.drew
    generalize A1.drew = wd at *
    refine wpAnyH_take (i := 0) (v := ?_) rfl (by kernel_rfl) (by kernel_rfl) (by kernel_rfl) (fun _ _ _ h => h) (Or.inl ⟨by rfl, ?_⟩) (by assumption) ?_
    rotate_left
    · intro w hSw; (try dsimp only at hSw); go_simp <;> with_reducible rfl
    try simp only [Act.put, List.getElem_toArray, List.getElem_cons_zero, List.getElem_cons_succ, List.setIfInBounds_toArray, List.set_cons_zero, List.set_cons_succ]
    refine wpAnyH_take (i := 1) (v := ?_) rfl (by kernel_rfl) (by kernel_rfl) (by kernel_rfl) (fun _ _ _ h => h) (Or.inl ⟨by rfl, ?_⟩) (by assumption) ?_
    rotate_left
    · intro w hSw; (try dsimp only at hSw); go_simp <;> with_reducible rfl
    try simp only [Act.put, List.getElem_toArray, List.getElem_cons_zero, List.getElem_cons_succ, List.setIfInBounds_toArray, List.set_cons_zero, List.set_cons_succ]
    refine wpAnyH_take (i := 2) (v := ?_) rfl (by kernel_rfl) (by kernel_rfl) (by kernel_rfl) (fun _ _ _ h => h) (Or.inl ⟨by rfl, ?_⟩) (by assumption) ?_
    rotate_left
    · intro w hSw; (try dsimp only at hSw); go_simp <;> with_reducible rfl
    try simp only [Act.put, List.getElem_toArray, List.getElem_cons_zero, List.getElem_cons_succ, List.setIfInBounds_toArray, List.set_cons_zero, List.set_cons_succ]
    refine wpAnyH_take (i := 3) (v := ?_) rfl (by kernel_rfl) (by kernel_rfl) (by kernel_rfl) (fun _ _ _ h => h) (Or.inl ⟨by rfl, ?_⟩) (by assumption) ?_
    rotate_left
    · intro w hSw; (try dsimp only at hSw); go_simp <;> with_reducible rfl
    try simp only [Act.put, List.getElem_toArray, List.getElem_cons_zero, List.getElem_cons_succ, List.setIfInBounds_toArray, List.set_cons_zero, List.set_cons_succ]
    refine wpAnyH_take (i := 7) (v := ?_) rfl (by kernel_rfl) (by kernel_rfl) (by kernel_rfl) (fun _ _ _ h => h) (Or.inl ⟨by rfl, ?_⟩) (by assumption) ?_
    rotate_left
    · intro w hSw; (try dsimp only at hSw); go_simp <;> with_reducible rfl
    try simp only [Act.put, List.getElem_toArray, List.getElem_cons_zero, List.getElem_cons_succ, List.setIfInBounds_toArray, List.set_cons_zero, List.set_cons_succ]
    refine wpAnyH_ready (rs := [4]) (by kernel_rfl) (by simp) ?_
    refine AllReadyH.cons rfl (fun K hK => ?_) AllReadyH.nil
    go_simp
    refine (cA.out wd KD1.out).mono ?_
    rintro e we ⟨rfl, ke⟩
    (try go_wp2_with fail)
    refine hK.out _ _ ?_ (fun hHeld => ?_)
    · have := hmK.out we (KD.out.trans ke (by simp)); exact ⟨this.c6, this.c2, this.c4⟩
    clear hK K
    try simp only [Act.put, List.getElem_toArray, List.getElem_cons_zero, List.getElem_cons_succ, List.setIfInBounds_toArray, List.set_cons_zero, List.set_cons_succ]
    have KE := hid (KD.out.trans ke (by simp))
    have KD1E := hid (KD1.out.trans ke (by simp))
    refine wpAnyH_ready (rs := [5]) (by kernel_rfl) (by simp) ?_
    refine AllReadyH.cons rfl (fun K hK => ?_) AllReadyH.nil
    go_simp
    refine (cL.out we KE.out).mono ?_
    rintro e A2 ⟨i0, m, aL, cL2, rfl, him, hz0, hall, hsee, hbk, kl⟩
    (try go_wp2_with fail)
    refine hK.out _ _ ?_ (fun hHeld => ?_)
    · have := hmK.out A2 (KE.out.trans kl (by simp)); exact ⟨this.c6, this.c2, this.c4⟩
    clear hK K
    try simp only [Act.put, List.getElem_toArray, List.getElem_cons_zero, List.getElem_cons_succ, List.setIfInBounds_toArray, List.set_cons_zero, List.set_cons_succ]
    have KD2 := hid (KD1E.out.trans kl (by simp))
    refine wpAnyH_take (i := 6) (v := ?_) rfl (by kernel_rfl) (by kernel_rfl) (by kernel_rfl) (fun _ _ _ h => h) (Or.inl ⟨by rfl, ?_⟩) (by assumption) ?_
    rotate_left
    · intro w hSw; (try dsimp only at hSw); go_simp <;> with_reducible rfl
    try simp only [Act.put, List.getElem_toArray, List.getElem_cons_zero, List.getElem_cons_succ, List.setIfInBounds_toArray, List.set_cons_zero, List.set_cons_succ]
    have K2 := hid (KE.out.trans kl (by simp))
    clear hHeld kl
    refine wpAnyH_done (by kernel_rfl) ?_ _
    have hfx := hid (fJ_sub (lo := lo) (x := xl) HSL.out him (by rw [hv.out]; exact hz0) (by rw [hv.out]; exact hall))
    obtain ⟨sub, hsub⟩ : ∃ u, Hid ((SL.drop i0).take m = u) := ⟨_, rfl⟩
    rw [hsub.out] at hsee hfx
    have hsl : sub.length = m := by rw [← hsub.out, List.length_take, List.length_drop]; omega
    have hsm : Hid (∀ o ∈ sub, o ∈ SL) := fun o ho => by rw [← hsub.out] at ho; exact List.mem_of_mem_drop (List.mem_of_mem_take ho)
    have hdr : RJ.drop i = fJ S lo ro xl ++ (RL.drop (s.i + 1)).flatMap (fJ S lo ro) := by
      have hi := (List.getElem?_eq_some_iff.1 hRi'.out)
      rw [h'.out.rel, List.drop_eq_getElem_cons hi.1, hi.2, List.flatMap_cons]
    rw [hfx.out] at hdr
    have hRk : Hid (∀ k (hk : k < sub.length), RJ[i + k]? = some (xl ++ sub[k].l)) := fun k hk => by
      have := congrArg (fun z => z[k]?) hdr
      simp only [List.getElem?_drop] at this
      rw [this, List.getElem?_append_left (by simpa using hk)]
      simp [hk]
    have hRe : Hid (RJ.drop (i + m) = (RL.drop (s.i + 1)).flatMap (fJ S lo ro)) := by
      show _ = _
      rw [← List.drop_drop, hdr, List.drop_append]
      simp [hsl]
    have hiR : Hid (i + m ≤ RJ.length) := by
      show _ ≤ _
      have := congrArg List.length hdr
      rw [List.length_drop, List.length_append, List.length_map, hsl] at this
      have := h'.out.il
      omega
    obtain ⟨jsB, hjsB⟩ : ∃ u, Hid (jsA ++ blk ya = u) := ⟨_, rfl⟩
    have hyA2 : ∀ k ∈ blk ya, k < A2.heap.size := fun k hk => Nat.lt_of_lt_of_le (HY1.out.1.lt k (by rw [ownV]; exact hk)) (KD2.out.size)
    have hJ2 : J ⟨true, W3.heap.size, qsA, jsB, i, none⟩ A2 := by
      rw [← hjsB.out]
      exact hT _ _ _ _ h'.out.j ⟨TurnR.ofKp0 K2.out, fun _ => ⟨rfl, rfl, fun q hq => .inl hq⟩, fun e => (by cases e), fun j hj => by
        rcases List.mem_append.1 hj with e | e
        · exact .inl e
        · exact .inr ⟨HY1.out.2 j e, hyA2 j e⟩, rfl, .inl rfl⟩
    have hjB : Hid (∀ j ∈ jsB, j < A2.heap.size) := fun j hj => by
      rw [← hjsB.out] at hj
      rcases List.mem_append.1 hj with e | e
      · exact Nat.lt_of_lt_of_le (h'.out.jl j e) K2.out.size
      · exact hyA2 j e
    have hMB : Hid (∀ j ∈ Mj, j ∈ jsB) := fun j hj => by rw [← hjsB.out]; exact List.mem_append.2 (.inl (h'.out.mj j hj))
    have hJA : Hid (∀ j ∈ jsA, j ∈ jsB) := fun j hj => by rw [← hjsB.out]; exact List.mem_append.2 (.inl hj)
    have hYB : Hid (∀ j ∈ blk ya, j ∈ jsB) := fun j hj => by rw [← hjsB.out]; exact List.mem_append.2 (.inr hj)
    have hSB : Hid (∀ j ∈ blk aL, j ∈ jsB) := fun j hj => hMB.out j (by rw [hMj.out]; have := hbk j hj; simp [mjs, this])
    have hKA : Hid (KeepR s A A2 ∧ KeepsFrom W3.heap.size A A2) := ⟨⟨KeepB.ofKp K2.out (by simp), fun _ k o _ ho _ => (K2.out.block k (Array.getElem?_eq_some_iff.1 ho).1 (by simp)).trans ho⟩, ⟨K2.out.size, fun k o _ ho _ => (K2.out.block k (Array.getElem?_eq_some_iff.1 ho).1 (by simp)).trans ho⟩⟩
    have hmA2 := hid (hmK.out A2 K2.out)
    have hse2 := hid hsee
    have hyl2 : Hid ((⟨ya, yc, xl⟩ : Vs).lies A2) := hyl.out.ck (CK.ofKp KD2.out) (by simp)
    have hm4 : m ≤ 4000000000000 := by omega
    clear hsee hdr hfx hbk hz0 hall him cA cL
    gi_wp2_with fail
    gi_loopw [24] (fun vi wr => ∃ k : Nat, vi = .int .i64 (k : Int) ∧ k ≤ m ∧ Hid (J ⟨true, W3.heap.size, qsA, jsB, i + k, none⟩ wr) ∧ Hid (KeepB jsB A2 wr) ∧ Hid (KeepR s A wr ∧ KeepsFrom W3.heap.size A wr)) (fun vi _ => m - (intOf vi).toNat)
    case atStart => exact ⟨0, rfl, Nat.zero_le _, hid hJ2, hid (KeepB.refl _ _), hKA⟩
    case round =>
      obtain ⟨k, rfl, hkm, hJk, hkB, hkA⟩ := hrel
      clear hJ2 hKA
      have hmr := hid (hmA2.out.ck (by rw [← hMj.out]; exact (ckOfKeepB hkB.out).mono hMB.out))
      have hslm := hid hsl
      by_cases hlt : k < m
      · have hks : k < sub.length := by rw [hsl]; exact hlt
        have hxo : sub[k]? = some sub[k] := by simp [hks]
        obtain ⟨g, o, ea, c0⟩ := vsAt hse2.out hxo
        have cg : wr.cell? ⟨g, o + k, none⟩ = some (.slice sub[k].a sub[k].l.length sub[k].c) := hkB.out.cell (hSB.out g (by rw [ea]; simp [blk])) c0
        have hol := hmr.out.lot.lies sub[k] (hsm.out _ (List.getElem_mem hks))
        have hoS : sub[k].l.length ≤ 1800000000000 := hSll _ (by rw [← HSL.out]; exact List.mem_map.2 ⟨sub[k], hsm.out _ (List.getElem_mem hks), rfl⟩)
        have hRk2 := hid (hRk.out k hks)
        have hyr : (⟨ya, yc, xl⟩ : Vs).lies wr := hyl2.out.ck (ckOfKeepB hkB.out) hYB.out
        obtain ⟨x2, hx2⟩ : ∃ x, Hid (sub[k] = x) := ⟨sub[k], rfl⟩
        rw [hx2.out] at cg hol hoS hRk2
        obtain ⟨oa, oc, ol⟩ := x2
        dsimp only at cg hoS hRk2
        have HOL := hid (And.intro hol (And.intro hoS hyr))
        have i1 : (0 : Int) ≤ (k : Int) := by omega
        have i2 : (k : Int) < (m : Int) := by omega
        have i3 : (k : Int) + 1 ≤ 9223372036854775807 := by omega
        subst ea
        clear c0 hxo hol hoS hyr
        gi_wp2_with fail
        refine wpIn_region_any (by kernel_rfl) ?_
        change wpAnyIn _ _ _ _ _ _ _ _ _ wr.drew
        have kD : Kp [] wr wr.drew := (Kp.refl _ _).drew
        generalize wr.drew = wd at *
        obtain ⟨hol, hoS, hyr⟩ := HOL.out
        have c5 := kpAt kD hmr.out.c5
        obtain ⟨Wb, hWb⟩ : ∃ Y, wd.alloc (.cells #[.slice ya xl.length yc, .slice oa ol.length oc] 24) = Y := ⟨_, rfl⟩
        have kb : Kp [] wr Wb := by rw [← hWb]; exact kD.alloc _
        obtain ⟨qb, hqb⟩ : ∃ q, wd.heap.size = q := ⟨_, rfl⟩
        have bb : Bn Wb qb [.slice ya xl.length yc, .slice oa ol.length oc] := by rw [← hWb, ← hqb]; exact Bn.new wd _ _
        have sb : VsE.See Wb (some ⟨qb, 0, none⟩) [⟨ya, yc, xl⟩, ⟨oa, oc, ol⟩] := .inr ⟨qb, 0, rfl, fun j u hu => by rw [Nat.zero_add]; exact bb.get j u (by simpa [El.cs, VsE] using hu)⟩
        have cCt := hid (cConcat (some ⟨qb, 0, none⟩) 2 [⟨ya, yc, xl⟩, ⟨oa, oc, ol⟩] Wb sb (fun x hx => by
          have ckb := CK.ofKp kb
          rcases List.mem_cons.1 hx with rfl | hx
          · exact hyr.ck ckb (by simp)
          · rw [List.mem_singleton.1 hx]; exact hol.ck ckb (by simp)) (by simp) (by simp [sumL]; omega))
        have ecat : catL [(⟨ya, yc, xl⟩ : Vs), ⟨oa, oc, ol⟩] = xl ++ ol := by simp [catL]
        rw [ecat] at cCt
        have c5b := kpAt kb hmr.out.c5
        have KB := hid kb
        clear hol hoS hyr kb bb sb ecat kD
        refine wpAnyIn_ready (rs := [0, 1, 2]) (by kernel_rfl) (by simp) ?_
        refine AllReadyIn.cons rfl (fun K hK => ?_) (AllReadyIn.cons rfl (fun K hK => ?_) (AllReadyIn.cons rfl (fun K hK => ?_) AllReadyIn.nil))
        · go_simp
          refine hK _ _ ?_
          clear hK K
          try simp only [Act.put, List.getElem_toArray, List.getElem_cons_zero, List.getElem_cons_succ, List.setIfInBounds_toArray, List.set_cons_zero, List.set_cons_succ]
          refine wpAnyIn_ready (rs := [1, 2]) (by kernel_rfl) (by simp) ?_
          refine AllReadyIn.cons rfl (fun K hK => ?_) (AllReadyIn.cons rfl (fun K hK => ?_) AllReadyIn.nil)
          · go_simp
            refine hK _ _ ?_
            clear hK K
            try simp only [Act.put, List.getElem_toArray, List.getElem_cons_zero, List.getElem_cons_succ, List.setIfInBounds_toArray, List.set_cons_zero, List.set_cons_succ]
            refine wpAnyIn_ready (rs := [2]) (by kernel_rfl) (by simp) ?_
            refine AllReadyIn.cons rfl (fun K hK => ?_) AllReadyIn.nil
            go_simp
            refine hK _ _ ?_
            clear hK K
            try simp only [Act.put, List.getElem_toArray, List.getElem_cons_zero, List.getElem_cons_succ, List.setIfInBounds_toArray, List.set_cons_zero, List.set_cons_succ]
            refine wpAnyIn_ready (rs := [3]) (by kernel_rfl) (by simp) ?_
            refine AllReadyIn.cons rfl (fun K hK => ?_) AllReadyIn.nil
            go_simp
            refine hK _ _ ?_
            clear hK K
            try simp only [Act.put, List.getElem_toArray, List.getElem_cons_zero, List.getElem_cons_succ, List.setIfInBounds_toArray, List.set_cons_zero, List.set_cons_succ]
            refine wpAnyIn_ready (rs := [4]) (by kernel_rfl) (by simp) ?_
            refine AllReadyIn.cons rfl (fun K hK => ?_) AllReadyIn.nil
            go_simp
            refine ⟨trivial, fun h => (by cases h), (CallsIn.inRound l0 (callsIn_wide.2 cCt.out)).mono ?_⟩
            rintro e Wz ⟨za, zc, rfl, hzrow, kz, hzb⟩
            have c5z := kpAt kz c5b
            refine hK _ _ ?_
            clear hK K
            try simp only [Act.put, List.getElem_toArray, List.getElem_cons_zero, List.getElem_cons_succ, List.setIfInBounds_toArray, List.set_cons_zero, List.set_cons_succ]
            have kWz := hid (KB.out.trans kz (by simp))
            have hzl := rowLies hzrow
            have hzb2 : ∀ j ∈ blk za, wr.heap.size ≤ j := fun j hj => by have := hzb j hj; have := KB.out.size; omega
            have hJz : J ⟨true, W3.heap.size, qsA, jsB, i + k, some ⟨za, zc, xl ++ ol⟩⟩ Wz := hT _ _ _ _ hJk.out ⟨TurnR.ofKp0 kWz.out, fun _ => ⟨rfl, rfl, fun q hq => .inl hq⟩, fun e => (by cases e), fun j hj => .inl hj, rfl, .inr ⟨_, rfl, hRk2.out, hzl, fun _ => ⟨hzrow, fun j hj => ⟨hzb2 j hj, fun hm => by have := hjB.out j hm; have := hkB.out.1; have := hzb2 j hj; omega, fun hm => by have := h'.out.ql j hm; have := hkA.out.2.size; have := hzb2 j hj; omega⟩⟩⟩⟩
            obtain ⟨fn, tmps, assign, body, hyl5, hR⟩ := hY _ ⟨za, zc, xl ++ ol⟩ Wz hJz rfl
            have hR' : RoundIn (Fence.wide.inRound l0) (n - 1 - 1 - 1) Try.prog ly fn tmps assign body Wz _ := RoundIn.anyDepthJ (F := Fence.wide.inRound l0) rfl hR
            have hgo : Hid (∀ A3, KeepR ⟨true, W3.heap.size, qsA, jsB, i + k, some ⟨za, zc, xl ++ ol⟩⟩ Wz A3 → KeepB jsB A2 A3 ∧ KeepR s A A3 ∧ KeepsFrom W3.heap.size A A3) := fun A3 hk3 => by
              have t1 : KeepR s wr Wz := ⟨KeepB.ofKp kWz.out (by simp), fun _ j o _ ho _ => (kWz.out.block j (Array.getElem?_eq_some_iff.1 ho).1 (by simp)).trans ho⟩
              have t2 : KeepR s Wz A3 := ⟨⟨hk3.js.1, fun j hj o ho => hk3.js.2 j (hJA.out j (h'.out.sub j hj)) o ho⟩, fun hm j o hj ho hc => hk3.recs rfl j o (by have := (h'.out.mde hm).1; show W3.heap.size ≤ j; omega) ho hc⟩
              exact ⟨hkB.out.trans ((KeepB.ofKp kWz.out (by simp)).trans hk3.js), (hkA.out.1.trans t1).trans t2, ⟨Nat.le_trans hkA.out.2.size (Nat.le_trans kWz.out.size hk3.js.1), fun j o hj ho hc => by
                have g1 := hkA.out.2.same j o hj ho hc
                have g2 := (kWz.out.block j (Array.getElem?_eq_some_iff.1 g1).1 (by simp)).trans g1
                exact hk3.recs rfl j o hj g2 hc⟩⟩
            have hyl6 := hyl5
            simp only [encR, List.length_append] at hyl6
            clear hR hJz hzl hzrow kz hzb hzb2 hyl5 cCt
            refine wpAnyIn_ready (rs := [5]) (by kernel_rfl) (by simp) ?_
            refine AllReadyIn.cons rfl (fun K hK => ?_) AllReadyIn.nil
            go_simp
            refine ⟨fun h => (by cases h), hR'.mono ?_⟩
            rintro e A3 (⟨rfl, hJ3, hk3⟩ | ⟨rfl, hJ3, hk3⟩)
            · have HG := hid (hgo.out A3 hk3)
              have hJ4 : Hid (J ⟨true, W3.heap.size, qsA, jsB, i + (k + 1), none⟩ A3) := hJ3
              clear hgo hR' hyl6 hJ3 hk3
              refine hK _ _ ?_
              clear hK K
              try simp only [Act.put, List.getElem_toArray, List.getElem_cons_zero, List.getElem_cons_succ, List.setIfInBounds_toArray, List.set_cons_zero, List.set_cons_succ]
              refine wpAnyIn_ready (rs := [6]) (by kernel_rfl) (by simp) ?_
              refine AllReadyIn.cons rfl (fun K hK => ?_) AllReadyIn.nil
              go_simp
              refine hK _ _ ?_
              clear hK K
              try simp only [Act.put, List.getElem_toArray, List.getElem_cons_zero, List.getElem_cons_succ, List.setIfInBounds_toArray, List.set_cons_zero, List.set_cons_succ]
              refine wpAnyIn_done (by kernel_rfl) ?_ _
              gi_wp2_with fail
              go_roundw
              case rel => exact ⟨k + 1, by simp, by omega, hJ4, hid HG.out.1, hid HG.out.2⟩
              case measure => simp [intOf]; omega
            · have HG := hid (hgo.out A3 hk3)
              have hJ4 := hid hJ3
              clear hgo hR' hyl6 hJ3 hk3
              refine hK _ _ ?_
              clear hK K
              try simp only [Act.put, List.getElem_toArray, List.getElem_cons_zero, List.getElem_cons_succ, List.setIfInBounds_toArray, List.set_cons_zero, List.set_cons_succ]
              refine wpAnyIn_ready (rs := [6]) (by kernel_rfl) (by simp) ?_
              refine AllReadyIn.cons rfl (fun K hK => ?_) AllReadyIn.nil
              go_simp
              refine hK _ _ ?_
              clear hK K
              try simp only [Act.put, List.getElem_toArray, List.getElem_cons_zero, List.getElem_cons_succ, List.setIfInBounds_toArray, List.set_cons_zero, List.set_cons_succ]
              refine wpAnyIn_done (by kernel_rfl) ?_ _
              gi_wp2_with fail
              refine ⟨HG.out.2.2, HG.out.2.1, rfl, Sr.nx ⟨true, W3.heap.size, qsA, jsB, i + k, some ⟨za, zc, xl ++ ol⟩⟩ ⟨za, zc, xl ++ ol⟩, rfl, rfl, h'.out.qsub, h'.out.mde, h'.out.lj, hJ4.out⟩
          · go_simp
            refine hK _ _ ?_
            clear hK K
            try simp only [Act.put, List.getElem_toArray, List.getElem_cons_zero, List.getElem_cons_succ, List.setIfInBounds_toArray, List.set_cons_zero, List.set_cons_succ]
            refine wpAnyIn_ready (rs := [1]) (by kernel_rfl) (by simp) ?_
            refine AllReadyIn.cons rfl (fun K hK => ?_) AllReadyIn.nil
            go_simp
            refine hK _ _ ?_
            clear hK K
            try simp only [Act.put, List.getElem_toArray, List.getElem_cons_zero, List.getElem_cons_succ, List.setIfInBounds_toArray, List.set_cons_zero, List.set_cons_succ]
            refine wpAnyIn_ready (rs := [3]) (by kernel_rfl) (by simp) ?_
            refine AllReadyIn.cons rfl (fun K hK => ?_) AllReadyIn.nil
            go_simp
            refine hK _ _ ?_
            clear hK K
            try simp only [Act.put, List.getElem_toArray, List.getElem_cons_zero, List.getElem_cons_succ, List.setIfInBounds_toArray, List.set_cons_zero, List.set_cons_succ]
            refine wpAnyIn_ready (rs := [4]) (by kernel_rfl) (by simp) ?_
            refine AllReadyIn.cons rfl (fun K hK => ?_) AllReadyIn.nil
            go_simp
            refine ⟨trivial, fun h => (by cases h), (CallsIn.inRound l0 (callsIn_wide.2 cCt.out)).mono ?_⟩
            rintro e Wz ⟨za, zc, rfl, hzrow, kz, hzb⟩
            have c5z := kpAt kz c5b
            refine hK _ _ ?_
            clear hK K
            try simp only [Act.put, List.getElem_toArray, List.getElem_cons_zero, List.getElem_cons_succ, List.setIfInBounds_toArray, List.set_cons_zero, List.set_cons_succ]
            have kWz := hid (KB.out.trans kz (by simp))
            have hzl := rowLies hzrow
            have hzb2 : ∀ j ∈ blk za, wr.heap.size ≤ j := fun j hj => by have := hzb j hj; have := KB.out.size; omega
            have hJz : J ⟨true, W3.heap.size, qsA, jsB, i + k, some ⟨za, zc, xl ++ ol⟩⟩ Wz := hT _ _ _ _ hJk.out ⟨TurnR.ofKp0 kWz.out, fun _ => ⟨rfl, rfl, fun q hq => .inl hq⟩, fun e => (by cases e), fun j hj => .inl hj, rfl, .inr ⟨_, rfl, hRk2.out, hzl, fun _ => ⟨hzrow, fun j hj => ⟨hzb2 j hj, fun hm => by have := hjB.out j hm; have := hkB.out.1; have := hzb2 j hj; omega, fun hm => by have := h'.out.ql j hm; have := hkA.out.2.size; have := hzb2 j hj; omega⟩⟩⟩⟩
            obtain ⟨fn, tmps, assign, body, hyl5, hR⟩ := hY _ ⟨za, zc, xl ++ ol⟩ Wz hJz rfl
            have hR' : RoundIn (Fence.wide.inRound l0) (n - 1 - 1 - 1) Try.prog ly fn tmps assign body Wz _ := RoundIn.anyDepthJ (F := Fence.wide.inRound l0) rfl hR
            have hgo : Hid (∀ A3, KeepR ⟨true, W3.heap.size, qsA, jsB, i + k, some ⟨za, zc, xl ++ ol⟩⟩ Wz A3 → KeepB jsB A2 A3 ∧ KeepR s A A3 ∧ KeepsFrom W3.heap.size A A3) := fun A3 hk3 => by
              have t1 : KeepR s wr Wz := ⟨KeepB.ofKp kWz.out (by simp), fun _ j o _ ho _ => (kWz.out.block j (Array.getElem?_eq_some_iff.1 ho).1 (by simp)).trans ho⟩
              have t2 : KeepR s Wz A3 := ⟨⟨hk3.js.1, fun j hj o ho => hk3.js.2 j (hJA.out j (h'.out.sub j hj)) o ho⟩, fun hm j o hj ho hc => hk3.recs rfl j o (by have := (h'.out.mde hm).1; show W3.heap.size ≤ j; omega) ho hc⟩
              exact ⟨hkB.out.trans ((KeepB.ofKp kWz.out (by simp)).trans hk3.js), (hkA.out.1.trans t1).trans t2, ⟨Nat.le_trans hkA.out.2.size (Nat.le_trans kWz.out.size hk3.js.1), fun j o hj ho hc => by
                have g1 := hkA.out.2.same j o hj ho hc
                have g2 := (kWz.out.block j (Array.getElem?_eq_some_iff.1 g1).1 (by simp)).trans g1
                exact hk3.recs rfl j o hj g2 hc⟩⟩
            have hyl6 := hyl5
            simp only [encR, List.length_append] at hyl6
            clear hR hJz hzl hzrow kz hzb hzb2 hyl5 cCt
            refine wpAnyIn_ready (rs := [5]) (by kernel_rfl) (by simp) ?_
            refine AllReadyIn.cons rfl (fun K hK => ?_) AllReadyIn.nil
            go_simp
            refine ⟨fun h => (by cases h), hR'.mono ?_⟩
            rintro e A3 (⟨rfl, hJ3, hk3⟩ | ⟨rfl, hJ3, hk3⟩)
            · have HG := hid (hgo.out A3 hk3)
              have hJ4 : Hid (J ⟨true, W3.heap.size, qsA, jsB, i + (k + 1), none⟩ A3) := hJ3
              clear hgo hR' hyl6 hJ3 hk3
              refine hK _ _ ?_
              clear hK K
              try simp only [Act.put, List.getElem_toArray, List.getElem_cons_zero, List.getElem_cons_succ, List.setIfInBounds_toArray, List.set_cons_zero, List.set_cons_succ]
              refine wpAnyIn_ready (rs := [6]) (by kernel_rfl) (by simp) ?_
              refine AllReadyIn.cons rfl (fun K hK => ?_) AllReadyIn.nil
              go_simp
              refine hK _ _ ?_
              clear hK K
              try simp only [Act.put, List.getElem_toArray, List.getElem_cons_zero, List.getElem_cons_succ, List.setIfInBounds_toArray, List.set_cons_zero, List.set_cons_succ]
              refine wpAnyIn_done (by kernel_rfl) ?_ _
              gi_wp2_with fail
              go_roundw
              case rel => exact ⟨k + 1, by simp, by omega, hJ4, hid HG.out.1, hid HG.out.2⟩
              case measure => simp [intOf]; omega
            · have HG := hid (hgo.out A3 hk3)
              have hJ4 := hid hJ3
              clear hgo hR' hyl6 hJ3 hk3
              refine hK _ _ ?_
              clear hK K
              try simp only [Act.put, List.getElem_toArray, List.getElem_cons_zero, List.getElem_cons_succ, List.setIfInBounds_toArray, List.set_cons_zero, List.set_cons_succ]
              refine wpAnyIn_ready (rs := [6]) (by kernel_rfl) (by simp) ?_
              refine AllReadyIn.cons rfl (fun K hK => ?_) AllReadyIn.nil
              go_simp
              refine hK _ _ ?_
              clear hK K
              try simp only [Act.put, List.getElem_toArray, List.getElem_cons_zero, List.getElem_cons_succ, List.setIfInBounds_toArray, List.set_cons_zero, List.set_cons_succ]
              refine wpAnyIn_done (by kernel_rfl) ?_ _
              gi_wp2_with fail
              refine ⟨HG.out.2.2, HG.out.2.1, rfl, Sr.nx ⟨true, W3.heap.size, qsA, jsB, i + k, some ⟨za, zc, xl ++ ol⟩⟩ ⟨za, zc, xl ++ ol⟩, rfl, rfl, h'.out.qsub, h'.out.mde, h'.out.lj, hJ4.out⟩
        · go_simp
          refine hK _ _ ?_
          clear hK K
          try simp only [Act.put, List.getElem_toArray, List.getElem_cons_zero, List.getElem_cons_succ, List.setIfInBounds_toArray, List.set_cons_zero, List.set_cons_succ]
          refine wpAnyIn_ready (rs := [0, 2]) (by kernel_rfl) (by simp) ?_
          refine AllReadyIn.cons rfl (fun K hK => ?_) (AllReadyIn.cons rfl (fun K hK => ?_) AllReadyIn.nil)
          · go_simp
            refine hK _ _ ?_
            clear hK K
            try simp only [Act.put, List.getElem_toArray, List.getElem_cons_zero, List.getElem_cons_succ, List.setIfInBounds_toArray, List.set_cons_zero, List.set_cons_succ]
            refine wpAnyIn_ready (rs := [2]) (by kernel_rfl) (by simp) ?_
            refine AllReadyIn.cons rfl (fun K hK => ?_) AllReadyIn.nil
            go_simp
            refine hK _ _ ?_
            clear hK K
            try simp only [Act.put, List.getElem_toArray, List.getElem_cons_zero, List.getElem_cons_succ, List.setIfInBounds_toArray, List.set_cons_zero, List.set_cons_succ]
            refine wpAnyIn_ready (rs := [3]) (by kernel_rfl) (by simp) ?_
            refine AllReadyIn.cons rfl (fun K hK => ?_) AllReadyIn.nil
            go_simp
            refine hK _ _ ?_
            clear hK K
            try simp only [Act.put, List.getElem_toArray, List.getElem_cons_zero, List.getElem_cons_succ, List.setIfInBounds_toArray, List.set_cons_zero, List.set_cons_succ]
            refine wpAnyIn_ready (rs := [4]) (by kernel_rfl) (by simp) ?_
            refine AllReadyIn.cons rfl (fun K hK => ?_) AllReadyIn.nil
            go_simp
            refine ⟨trivial, fun h => (by cases h), (CallsIn.inRound l0 (callsIn_wide.2 cCt.out)).mono ?_⟩
            rintro e Wz ⟨za, zc, rfl, hzrow, kz, hzb⟩
            have c5z := kpAt kz c5b
            refine hK _ _ ?_
            clear hK K
            try simp only [Act.put, List.getElem_toArray, List.getElem_cons_zero, List.getElem_cons_succ, List.setIfInBounds_toArray, List.set_cons_zero, List.set_cons_succ]
            have kWz := hid (KB.out.trans kz (by simp))
            have hzl := rowLies hzrow
            have hzb2 : ∀ j ∈ blk za, wr.heap.size ≤ j := fun j hj => by have := hzb j hj; have := KB.out.size; omega
            have hJz : J ⟨true, W3.heap.size, qsA, jsB, i + k, some ⟨za, zc, xl ++ ol⟩⟩ Wz := hT _ _ _ _ hJk.out ⟨TurnR.ofKp0 kWz.out, fun _ => ⟨rfl, rfl, fun q hq => .inl hq⟩, fun e => (by cases e), fun j hj => .inl hj, rfl, .inr ⟨_, rfl, hRk2.out, hzl, fun _ => ⟨hzrow, fun j hj => ⟨hzb2 j hj, fun hm => by have := hjB.out j hm; have := hkB.out.1; have := hzb2 j hj; omega, fun hm => by have := h'.out.ql j hm; have := hkA.out.2.size; have := hzb2 j hj; omega⟩⟩⟩⟩
            obtain ⟨fn, tmps, assign, body, hyl5, hR⟩ := hY _ ⟨za, zc, xl ++ ol⟩ Wz hJz rfl
            have hR' : RoundIn (Fence.wide.inRound l0) (n - 1 - 1 - 1) Try.prog ly fn tmps assign body Wz _ := RoundIn.anyDepthJ (F := Fence.wide.inRound l0) rfl hR
            have hgo : Hid (∀ A3, KeepR ⟨true, W3.heap.size, qsA, jsB, i + k, some ⟨za, zc, xl ++ ol⟩⟩ Wz A3 → KeepB jsB A2 A3 ∧ KeepR s A A3 ∧ KeepsFrom W3.heap.size A A3) := fun A3 hk3 => by
              have t1 : KeepR s wr Wz := ⟨KeepB.ofKp kWz.out (by simp), fun _ j o _ ho _ => (kWz.out.block j (Array.getElem?_eq_some_iff.1 ho).1 (by simp)).trans ho⟩
              have t2 : KeepR s Wz A3 := ⟨⟨hk3.js.1, fun j hj o ho => hk3.js.2 j (hJA.out j (h'.out.sub j hj)) o ho⟩, fun hm j o hj ho hc => hk3.recs rfl j o (by have := (h'.out.mde hm).1; show W3.heap.size ≤ j; omega) ho hc⟩
              exact ⟨hkB.out.trans ((KeepB.ofKp kWz.out (by simp)).trans hk3.js), (hkA.out.1.trans t1).trans t2, ⟨Nat.le_trans hkA.out.2.size (Nat.le_trans kWz.out.size hk3.js.1), fun j o hj ho hc => by
                have g1 := hkA.out.2.same j o hj ho hc
                have g2 := (kWz.out.block j (Array.getElem?_eq_some_iff.1 g1).1 (by simp)).trans g1
                exact hk3.recs rfl j o hj g2 hc⟩⟩
            have hyl6 := hyl5
            simp only [encR, List.length_append] at hyl6
            clear hR hJz hzl hzrow kz hzb hzb2 hyl5 cCt
            refine wpAnyIn_ready (rs := [5]) (by kernel_rfl) (by simp) ?_
            refine AllReadyIn.cons rfl (fun K hK => ?_) AllReadyIn.nil
            go_simp
            refine ⟨fun h => (by cases h), hR'.mono ?_⟩
            rintro e A3 (⟨rfl, hJ3, hk3⟩ | ⟨rfl, hJ3, hk3⟩)
            · have HG := hid (hgo.out A3 hk3)
              have hJ4 : Hid (J ⟨true, W3.heap.size, qsA, jsB, i + (k + 1), none⟩ A3) := hJ3
              clear hgo hR' hyl6 hJ3 hk3
              refine hK _ _ ?_
              clear hK K
              try simp only [Act.put, List.getElem_toArray, List.getElem_cons_zero, List.getElem_cons_succ, List.setIfInBounds_toArray, List.set_cons_zero, List.set_cons_succ]
              refine wpAnyIn_ready (rs := [6]) (by kernel_rfl) (by simp) ?_
              refine AllReadyIn.cons rfl (fun K hK => ?_) AllReadyIn.nil
              go_simp
              refine hK _ _ ?_
              clear hK K
              try simp only [Act.put, List.getElem_toArray, List.getElem_cons_zero, List.getElem_cons_succ, List.setIfInBounds_toArray, List.set_cons_zero, List.set_cons_succ]
              refine wpAnyIn_done (by kernel_rfl) ?_ _
              gi_wp2_with fail
              go_roundw
              case rel => exact ⟨k + 1, by simp, by omega, hJ4, hid HG.out.1, hid HG.out.2⟩
              case measure => simp [intOf]; omega
            · have HG := hid (hgo.out A3 hk3)
              have hJ4 := hid hJ3
              clear hgo hR' hyl6 hJ3 hk3
              refine hK _ _ ?_
              clear hK K
              try simp only [Act.put, List.getElem_toArray, List.getElem_cons_zero, List.getElem_cons_succ, List.setIfInBounds_toArray, List.set_cons_zero, List.set_cons_succ]
              refine wpAnyIn_ready (rs := [6]) (by kernel_rfl) (by simp) ?_
              refine AllReadyIn.cons rfl (fun K hK => ?_) AllReadyIn.nil
              go_simp
              refine hK _ _ ?_
              clear hK K
              try simp only [Act.put, List.getElem_toArray, List.getElem_cons_zero, List.getElem_cons_succ, List.setIfInBounds_toArray, List.set_cons_zero, List.set_cons_succ]
              refine wpAnyIn_done (by kernel_rfl) ?_ _
              gi_wp2_with fail
              refine ⟨HG.out.2.2, HG.out.2.1, rfl, Sr.nx ⟨true, W3.heap.size, qsA, jsB, i + k, some ⟨za, zc, xl ++ ol⟩⟩ ⟨za, zc, xl ++ ol⟩, rfl, rfl, h'.out.qsub, h'.out.mde, h'.out.lj, hJ4.out⟩
          · go_simp
            refine hK _ _ ?_
            clear hK K
            try simp only [Act.put, List.getElem_toArray, List.getElem_cons_zero, List.getElem_cons_succ, List.setIfInBounds_toArray, List.set_cons_zero, List.set_cons_succ]
            refine wpAnyIn_ready (rs := [0, 3]) (by kernel_rfl) (by simp) ?_
            refine AllReadyIn.cons rfl (fun K hK => ?_) (AllReadyIn.cons rfl (fun K hK => ?_) AllReadyIn.nil)
            · go_simp
              refine hK _ _ ?_
              clear hK K
              try simp only [Act.put, List.getElem_toArray, List.getElem_cons_zero, List.getElem_cons_succ, List.setIfInBounds_toArray, List.set_cons_zero, List.set_cons_succ]
              refine wpAnyIn_ready (rs := [3]) (by kernel_rfl) (by simp) ?_
              refine AllReadyIn.cons rfl (fun K hK => ?_) AllReadyIn.nil
              go_simp
              refine hK _ _ ?_
              clear hK K
              try simp only [Act.put, List.getElem_toArray, List.getElem_cons_zero, List.getElem_cons_succ, List.setIfInBounds_toArray, List.set_cons_zero, List.set_cons_succ]
              refine wpAnyIn_ready (rs := [4]) (by kernel_rfl) (by simp) ?_
              refine AllReadyIn.cons rfl (fun K hK => ?_) AllReadyIn.nil
              go_simp
              refine ⟨trivial, fun h => (by cases h), (CallsIn.inRound l0 (callsIn_wide.2 cCt.out)).mono ?_⟩
              rintro e Wz ⟨za, zc, rfl, hzrow, kz, hzb⟩
              have c5z := kpAt kz c5b
              refine hK _ _ ?_
              clear hK K
              try simp only [Act.put, List.getElem_toArray, List.getElem_cons_zero, List.getElem_cons_succ, List.setIfInBounds_toArray, List.set_cons_zero, List.set_cons_succ]
              have kWz := hid (KB.out.trans kz (by simp))
              have hzl := rowLies hzrow
              have hzb2 : ∀ j ∈ blk za, wr.heap.size ≤ j := fun j hj => by have := hzb j hj; have := KB.out.size; omega
              have hJz : J ⟨true, W3.heap.size, qsA, jsB, i + k, some ⟨za, zc, xl ++ ol⟩⟩ Wz := hT _ _ _ _ hJk.out ⟨TurnR.ofKp0 kWz.out, fun _ => ⟨rfl, rfl, fun q hq => .inl hq⟩, fun e => (by cases e), fun j hj => .inl hj, rfl, .inr ⟨_, rfl, hRk2.out, hzl, fun _ => ⟨hzrow, fun j hj => ⟨hzb2 j hj, fun hm => by have := hjB.out j hm; have := hkB.out.1; have := hzb2 j hj; omega, fun hm => by have := h'.out.ql j hm; have := hkA.out.2.size; have := hzb2 j hj; omega⟩⟩⟩⟩
              obtain ⟨fn, tmps, assign, body, hyl5, hR⟩ := hY _ ⟨za, zc, xl ++ ol⟩ Wz hJz rfl
              have hR' : RoundIn (Fence.wide.inRound l0) (n - 1 - 1 - 1) Try.prog ly fn tmps assign body Wz _ := RoundIn.anyDepthJ (F := Fence.wide.inRound l0) rfl hR
              have hgo : Hid (∀ A3, KeepR ⟨true, W3.heap.size, qsA, jsB, i + k, some ⟨za, zc, xl ++ ol⟩⟩ Wz A3 → KeepB jsB A2 A3 ∧ KeepR s A A3 ∧ KeepsFrom W3.heap.size A A3) := fun A3 hk3 => by
                have t1 : KeepR s wr Wz := ⟨KeepB.ofKp kWz.out (by simp), fun _ j o _ ho _ => (kWz.out.block j (Array.getElem?_eq_some_iff.1 ho).1 (by simp)).trans ho⟩
                have t2 : KeepR s Wz A3 := ⟨⟨hk3.js.1, fun j hj o ho => hk3.js.2 j (hJA.out j (h'.out.sub j hj)) o ho⟩, fun hm j o hj ho hc => hk3.recs rfl j o (by have := (h'.out.mde hm).1; show W3.heap.size ≤ j; omega) ho hc⟩
                exact ⟨hkB.out.trans ((KeepB.ofKp kWz.out (by simp)).trans hk3.js), (hkA.out.1.trans t1).trans t2, ⟨Nat.le_trans hkA.out.2.size (Nat.le_trans kWz.out.size hk3.js.1), fun j o hj ho hc => by
                  have g1 := hkA.out.2.same j o hj ho hc
                  have g2 := (kWz.out.block j (Array.getElem?_eq_some_iff.1 g1).1 (by simp)).trans g1
                  exact hk3.recs rfl j o hj g2 hc⟩⟩
              have hyl6 := hyl5
              simp only [encR, List.length_append] at hyl6
              clear hR hJz hzl hzrow kz hzb hzb2 hyl5 cCt
              refine wpAnyIn_ready (rs := [5]) (by kernel_rfl) (by simp) ?_
              refine AllReadyIn.cons rfl (fun K hK => ?_) AllReadyIn.nil
              go_simp
              refine ⟨fun h => (by cases h), hR'.mono ?_⟩
              rintro e A3 (⟨rfl, hJ3, hk3⟩ | ⟨rfl, hJ3, hk3⟩)
              · have HG := hid (hgo.out A3 hk3)
                have hJ4 : Hid (J ⟨true, W3.heap.size, qsA, jsB, i + (k + 1), none⟩ A3) := hJ3
                clear hgo hR' hyl6 hJ3 hk3
                refine hK _ _ ?_
                clear hK K
                try simp only [Act.put, List.getElem_toArray, List.getElem_cons_zero, List.getElem_cons_succ, List.setIfInBounds_toArray, List.set_cons_zero, List.set_cons_succ]
                refine wpAnyIn_ready (rs := [6]) (by kernel_rfl) (by simp) ?_
                refine AllReadyIn.cons rfl (fun K hK => ?_) AllReadyIn.nil
                go_simp
                refine hK _ _ ?_
                clear hK K
                try simp only [Act.put, List.getElem_toArray, List.getElem_cons_zero, List.getElem_cons_succ, List.setIfInBounds_toArray, List.set_cons_zero, List.set_cons_succ]
                refine wpAnyIn_done (by kernel_rfl) ?_ _
                gi_wp2_with fail
                go_roundw
                case rel => exact ⟨k + 1, by simp, by omega, hJ4, hid HG.out.1, hid HG.out.2⟩
                case measure => simp [intOf]; omega
              · have HG := hid (hgo.out A3 hk3)
                have hJ4 := hid hJ3
                clear hgo hR' hyl6 hJ3 hk3
                refine hK _ _ ?_
                clear hK K
                try simp only [Act.put, List.getElem_toArray, List.getElem_cons_zero, List.getElem_cons_succ, List.setIfInBounds_toArray, List.set_cons_zero, List.set_cons_succ]
                refine wpAnyIn_ready (rs := [6]) (by kernel_rfl) (by simp) ?_
                refine AllReadyIn.cons rfl (fun K hK => ?_) AllReadyIn.nil
                go_simp
                refine hK _ _ ?_
                clear hK K
                try simp only [Act.put, List.getElem_toArray, List.getElem_cons_zero, List.getElem_cons_succ, List.setIfInBounds_toArray, List.set_cons_zero, List.set_cons_succ]
                refine wpAnyIn_done (by kernel_rfl) ?_ _
                gi_wp2_with fail
                refine ⟨HG.out.2.2, HG.out.2.1, rfl, Sr.nx ⟨true, W3.heap.size, qsA, jsB, i + k, some ⟨za, zc, xl ++ ol⟩⟩ ⟨za, zc, xl ++ ol⟩, rfl, rfl, h'.out.qsub, h'.out.mde, h'.out.lj, hJ4.out⟩
            · go_simp
              refine hK _ _ ?_
              clear hK K
              try simp only [Act.put, List.getElem_toArray, List.getElem_cons_zero, List.getElem_cons_succ, List.setIfInBounds_toArray, List.set_cons_zero, List.set_cons_succ]
              refine wpAnyIn_ready (rs := [0, 4]) (by kernel_rfl) (by simp) ?_
              refine AllReadyIn.cons rfl (fun K hK => ?_) (AllReadyIn.cons rfl (fun K hK => ?_) AllReadyIn.nil)
              · go_simp
                refine hK _ _ ?_
                clear hK K
                try simp only [Act.put, List.getElem_toArray, List.getElem_cons_zero, List.getElem_cons_succ, List.setIfInBounds_toArray, List.set_cons_zero, List.set_cons_succ]
                refine wpAnyIn_ready (rs := [4]) (by kernel_rfl) (by simp) ?_
                refine AllReadyIn.cons rfl (fun K hK => ?_) AllReadyIn.nil
                go_simp
                refine ⟨trivial, fun h => (by cases h), (CallsIn.inRound l0 (callsIn_wide.2 cCt.out)).mono ?_⟩
                rintro e Wz ⟨za, zc, rfl, hzrow, kz, hzb⟩
                have c5z := kpAt kz c5b
                refine hK _ _ ?_
                clear hK K
                try simp only [Act.put, List.getElem_toArray, List.getElem_cons_zero, List.getElem_cons_succ, List.setIfInBounds_toArray, List.set_cons_zero, List.set_cons_succ]
                have kWz := hid (KB.out.trans kz (by simp))
                have hzl := rowLies hzrow
                have hzb2 : ∀ j ∈ blk za, wr.heap.size ≤ j := fun j hj => by have := hzb j hj; have := KB.out.size; omega
                have hJz : J ⟨true, W3.heap.size, qsA, jsB, i + k, some ⟨za, zc, xl ++ ol⟩⟩ Wz := hT _ _ _ _ hJk.out ⟨TurnR.ofKp0 kWz.out, fun _ => ⟨rfl, rfl, fun q hq => .inl hq⟩, fun e => (by cases e), fun j hj => .inl hj, rfl, .inr ⟨_, rfl, hRk2.out, hzl, fun _ => ⟨hzrow, fun j hj => ⟨hzb2 j hj, fun hm => by have := hjB.out j hm; have := hkB.out.1; have := hzb2 j hj; omega, fun hm => by have := h'.out.ql j hm; have := hkA.out.2.size; have := hzb2 j hj; omega⟩⟩⟩⟩
                obtain ⟨fn, tmps, assign, body, hyl5, hR⟩ := hY _ ⟨za, zc, xl ++ ol⟩ Wz hJz rfl
                have hR' : RoundIn (Fence.wide.inRound l0) (n - 1 - 1 - 1) Try.prog ly fn tmps assign body Wz _ := RoundIn.anyDepthJ (F := Fence.wide.inRound l0) rfl hR
                have hgo : Hid (∀ A3, KeepR ⟨true, W3.heap.size, qsA, jsB, i + k, some ⟨za, zc, xl ++ ol⟩⟩ Wz A3 → KeepB jsB A2 A3 ∧ KeepR s A A3 ∧ KeepsFrom W3.heap.size A A3) := fun A3 hk3 => by
                  have t1 : KeepR s wr Wz := ⟨KeepB.ofKp kWz.out (by simp), fun _ j o _ ho _ => (kWz.out.block j (Array.getElem?_eq_some_iff.1 ho).1 (by simp)).trans ho⟩
                  have t2 : KeepR s Wz A3 := ⟨⟨hk3.js.1, fun j hj o ho => hk3.js.2 j (hJA.out j (h'.out.sub j hj)) o ho⟩, fun hm j o hj ho hc => hk3.recs rfl j o (by have := (h'.out.mde hm).1; show W3.heap.size ≤ j; omega) ho hc⟩
                  exact ⟨hkB.out.trans ((KeepB.ofKp kWz.out (by simp)).trans hk3.js), (hkA.out.1.trans t1).trans t2, ⟨Nat.le_trans hkA.out.2.size (Nat.le_trans kWz.out.size hk3.js.1), fun j o hj ho hc => by
                    have g1 := hkA.out.2.same j o hj ho hc
                    have g2 := (kWz.out.block j (Array.getElem?_eq_some_iff.1 g1).1 (by simp)).trans g1
                    exact hk3.recs rfl j o hj g2 hc⟩⟩
                have hyl6 := hyl5
                simp only [encR, List.length_append] at hyl6
                clear hR hJz hzl hzrow kz hzb hzb2 hyl5 cCt
                refine wpAnyIn_ready (rs := [5]) (by kernel_rfl) (by simp) ?_
                refine AllReadyIn.cons rfl (fun K hK => ?_) AllReadyIn.nil
                go_simp
                refine ⟨fun h => (by cases h), hR'.mono ?_⟩
                rintro e A3 (⟨rfl, hJ3, hk3⟩ | ⟨rfl, hJ3, hk3⟩)
                · have HG := hid (hgo.out A3 hk3)
                  have hJ4 : Hid (J ⟨true, W3.heap.size, qsA, jsB, i + (k + 1), none⟩ A3) := hJ3
                  clear hgo hR' hyl6 hJ3 hk3
                  refine hK _ _ ?_
                  clear hK K
                  try simp only [Act.put, List.getElem_toArray, List.getElem_cons_zero, List.getElem_cons_succ, List.setIfInBounds_toArray, List.set_cons_zero, List.set_cons_succ]
                  refine wpAnyIn_ready (rs := [6]) (by kernel_rfl) (by simp) ?_
                  refine AllReadyIn.cons rfl (fun K hK => ?_) AllReadyIn.nil
                  go_simp
                  refine hK _ _ ?_
                  clear hK K
                  try simp only [Act.put, List.getElem_toArray, List.getElem_cons_zero, List.getElem_cons_succ, List.setIfInBounds_toArray, List.set_cons_zero, List.set_cons_succ]
                  refine wpAnyIn_done (by kernel_rfl) ?_ _
                  gi_wp2_with fail
                  go_roundw
                  case rel => exact ⟨k + 1, by simp, by omega, hJ4, hid HG.out.1, hid HG.out.2⟩
                  case measure => simp [intOf]; omega
                · have HG := hid (hgo.out A3 hk3)
                  have hJ4 := hid hJ3
                  clear hgo hR' hyl6 hJ3 hk3
                  refine hK _ _ ?_
                  clear hK K
                  try simp only [Act.put, List.getElem_toArray, List.getElem_cons_zero, List.getElem_cons_succ, List.setIfInBounds_toArray, List.set_cons_zero, List.set_cons_succ]
                  refine wpAnyIn_ready (rs := [6]) (by kernel_rfl) (by simp) ?_
                  refine AllReadyIn.cons rfl (fun K hK => ?_) AllReadyIn.nil
                  go_simp
                  refine hK _ _ ?_
                  clear hK K
                  try simp only [Act.put, List.getElem_toArray, List.getElem_cons_zero, List.getElem_cons_succ, List.setIfInBounds_toArray, List.set_cons_zero, List.set_cons_succ]
                  refine wpAnyIn_done (by kernel_rfl) ?_ _
                  gi_wp2_with fail
                  refine ⟨HG.out.2.2, HG.out.2.1, rfl, Sr.nx ⟨true, W3.heap.size, qsA, jsB, i + k, some ⟨za, zc, xl ++ ol⟩⟩ ⟨za, zc, xl ++ ol⟩, rfl, rfl, h'.out.qsub, h'.out.mde, h'.out.lj, hJ4.out⟩
              · go_simp
                refine ⟨trivial, fun h => (by cases h), (CallsIn.inRound l0 (callsIn_wide.2 cCt.out)).mono ?_⟩
                rintro e Wz ⟨za, zc, rfl, hzrow, kz, hzb⟩
                have c5z := kpAt kz c5b
                refine hK _ _ ?_
                clear hK K
                try simp only [Act.put, List.getElem_toArray, List.getElem_cons_zero, List.getElem_cons_succ, List.setIfInBounds_toArray, List.set_cons_zero, List.set_cons_succ]
                refine wpAnyIn_ready (rs := [0]) (by kernel_rfl) (by simp) ?_
                refine AllReadyIn.cons rfl (fun K hK => ?_) AllReadyIn.nil
                go_simp
                refine hK _ _ ?_
                clear hK K
                try simp only [Act.put, List.getElem_toArray, List.getElem_cons_zero, List.getElem_cons_succ, List.setIfInBounds_toArray, List.set_cons_zero, List.set_cons_succ]
                have kWz := hid (KB.out.trans kz (by simp))
                have hzl := rowLies hzrow
                have hzb2 : ∀ j ∈ blk za, wr.heap.size ≤ j := fun j hj => by have := hzb j hj; have := KB.out.size; omega
                have hJz : J ⟨true, W3.heap.size, qsA, jsB, i + k, some ⟨za, zc, xl ++ ol⟩⟩ Wz := hT _ _ _ _ hJk.out ⟨TurnR.ofKp0 kWz.out, fun _ => ⟨rfl, rfl, fun q hq => .inl hq⟩, fun e => (by cases e), fun j hj => .inl hj, rfl, .inr ⟨_, rfl, hRk2.out, hzl, fun _ => ⟨hzrow, fun j hj => ⟨hzb2 j hj, fun hm => by have := hjB.out j hm; have := hkB.out.1; have := hzb2 j hj; omega, fun hm => by have := h'.out.ql j hm; have := hkA.out.2.size; have := hzb2 j hj; omega⟩⟩⟩⟩
                obtain ⟨fn, tmps, assign, body, hyl5, hR⟩ := hY _ ⟨za, zc, xl ++ ol⟩ Wz hJz rfl
                have hR' : RoundIn (Fence.wide.inRound l0) (n - 1 - 1 - 1) Try.prog ly fn tmps assign body Wz _ := RoundIn.anyDepthJ (F := Fence.wide.inRound l0) rfl hR
                have hgo : Hid (∀ A3, KeepR ⟨true, W3.heap.size, qsA, jsB, i + k, some ⟨za, zc, xl ++ ol⟩⟩ Wz A3 → KeepB jsB A2 A3 ∧ KeepR s A A3 ∧ KeepsFrom W3.heap.size A A3) := fun A3 hk3 => by
                  have t1 : KeepR s wr Wz := ⟨KeepB.ofKp kWz.out (by simp), fun _ j o _ ho _ => (kWz.out.block j (Array.getElem?_eq_some_iff.1 ho).1 (by simp)).trans ho⟩
                  have t2 : KeepR s Wz A3 := ⟨⟨hk3.js.1, fun j hj o ho => hk3.js.2 j (hJA.out j (h'.out.sub j hj)) o ho⟩, fun hm j o hj ho hc => hk3.recs rfl j o (by have := (h'.out.mde hm).1; show W3.heap.size ≤ j; omega) ho hc⟩
                  exact ⟨hkB.out.trans ((KeepB.ofKp kWz.out (by simp)).trans hk3.js), (hkA.out.1.trans t1).trans t2, ⟨Nat.le_trans hkA.out.2.size (Nat.le_trans kWz.out.size hk3.js.1), fun j o hj ho hc => by
                    have g1 := hkA.out.2.same j o hj ho hc
                    have g2 := (kWz.out.block j (Array.getElem?_eq_some_iff.1 g1).1 (by simp)).trans g1
                    exact hk3.recs rfl j o hj g2 hc⟩⟩
                have hyl6 := hyl5
                simp only [encR, List.length_append] at hyl6
                clear hR hJz hzl hzrow kz hzb hzb2 hyl5 cCt
                refine wpAnyIn_ready (rs := [5]) (by kernel_rfl) (by simp) ?_
                refine AllReadyIn.cons rfl (fun K hK => ?_) AllReadyIn.nil
                go_simp
                refine ⟨fun h => (by cases h), hR'.mono ?_⟩
                rintro e A3 (⟨rfl, hJ3, hk3⟩ | ⟨rfl, hJ3, hk3⟩)
                · have HG := hid (hgo.out A3 hk3)
                  have hJ4 : Hid (J ⟨true, W3.heap.size, qsA, jsB, i + (k + 1), none⟩ A3) := hJ3
                  clear hgo hR' hyl6 hJ3 hk3
                  refine hK _ _ ?_
                  clear hK K
                  try simp only [Act.put, List.getElem_toArray, List.getElem_cons_zero, List.getElem_cons_succ, List.setIfInBounds_toArray, List.set_cons_zero, List.set_cons_succ]
                  refine wpAnyIn_ready (rs := [6]) (by kernel_rfl) (by simp) ?_
                  refine AllReadyIn.cons rfl (fun K hK => ?_) AllReadyIn.nil
                  go_simp
                  refine hK _ _ ?_
                  clear hK K
                  try simp only [Act.put, List.getElem_toArray, List.getElem_cons_zero, List.getElem_cons_succ, List.setIfInBounds_toArray, List.set_cons_zero, List.set_cons_succ]
                  refine wpAnyIn_done (by kernel_rfl) ?_ _
                  gi_wp2_with fail
                  go_roundw
                  case rel => exact ⟨k + 1, by simp, by omega, hJ4, hid HG.out.1, hid HG.out.2⟩
                  case measure => simp [intOf]; omega
                · have HG := hid (hgo.out A3 hk3)
                  have hJ4 := hid hJ3
                  clear hgo hR' hyl6 hJ3 hk3
                  refine hK _ _ ?_
                  clear hK K
                  try simp only [Act.put, List.getElem_toArray, List.getElem_cons_zero, List.getElem_cons_succ, List.setIfInBounds_toArray, List.set_cons_zero, List.set_cons_succ]
                  refine wpAnyIn_ready (rs := [6]) (by kernel_rfl) (by simp) ?_
                  refine AllReadyIn.cons rfl (fun K hK => ?_) AllReadyIn.nil
                  go_simp
                  refine hK _ _ ?_
                  clear hK K
                  try simp only [Act.put, List.getElem_toArray, List.getElem_cons_zero, List.getElem_cons_succ, List.setIfInBounds_toArray, List.set_cons_zero, List.set_cons_succ]
                  refine wpAnyIn_done (by kernel_rfl) ?_ _
                  gi_wp2_with fail
                  refine ⟨HG.out.2.2, HG.out.2.1, rfl, Sr.nx ⟨true, W3.heap.size, qsA, jsB, i + k, some ⟨za, zc, xl ++ ol⟩⟩ ⟨za, zc, xl ++ ol⟩, rfl, rfl, h'.out.qsub, h'.out.mde, h'.out.lj, hJ4.out⟩
        · go_simp
          refine hK _ _ ?_
          clear hK K
          try simp only [Act.put, List.getElem_toArray, List.getElem_cons_zero, List.getElem_cons_succ, List.setIfInBounds_toArray, List.set_cons_zero, List.set_cons_succ]
          refine wpAnyIn_ready (rs := [0, 1]) (by kernel_rfl) (by simp) ?_
          refine AllReadyIn.cons rfl (fun K hK => ?_) (AllReadyIn.cons rfl (fun K hK => ?_) AllReadyIn.nil)
          · go_simp
            refine hK _ _ ?_
            clear hK K
            try simp only [Act.put, List.getElem_toArray, List.getElem_cons_zero, List.getElem_cons_succ, List.setIfInBounds_toArray, List.set_cons_zero, List.set_cons_succ]
            refine wpAnyIn_ready (rs := [1]) (by kernel_rfl) (by simp) ?_
            refine AllReadyIn.cons rfl (fun K hK => ?_) AllReadyIn.nil
            go_simp
            refine hK _ _ ?_
            clear hK K
            try simp only [Act.put, List.getElem_toArray, List.getElem_cons_zero, List.getElem_cons_succ, List.setIfInBounds_toArray, List.set_cons_zero, List.set_cons_succ]
            refine wpAnyIn_ready (rs := [3]) (by kernel_rfl) (by simp) ?_
            refine AllReadyIn.cons rfl (fun K hK => ?_) AllReadyIn.nil
            go_simp
            refine hK _ _ ?_
            clear hK K
            try simp only [Act.put, List.getElem_toArray, List.getElem_cons_zero, List.getElem_cons_succ, List.setIfInBounds_toArray, List.set_cons_zero, List.set_cons_succ]
            refine wpAnyIn_ready (rs := [4]) (by kernel_rfl) (by simp) ?_
            refine AllReadyIn.cons rfl (fun K hK => ?_) AllReadyIn.nil
            go_simp
            refine ⟨trivial, fun h => (by cases h), (CallsIn.inRound l0 (callsIn_wide.2 cCt.out)).mono ?_⟩
            rintro e Wz ⟨za, zc, rfl, hzrow, kz, hzb⟩
            have c5z := kpAt kz c5b
            refine hK _ _ ?_
            clear hK K
            try simp only [Act.put, List.getElem_toArray, List.getElem_cons_zero, List.getElem_cons_succ, List.setIfInBounds_toArray, List.set_cons_zero, List.set_cons_succ]
            have kWz := hid (KB.out.trans kz (by simp))
            have hzl := rowLies hzrow
            have hzb2 : ∀ j ∈ blk za, wr.heap.size ≤ j := fun j hj => by have := hzb j hj; have := KB.out.size; omega
            have hJz : J ⟨true, W3.heap.size, qsA, jsB, i + k, some ⟨za, zc, xl ++ ol⟩⟩ Wz := hT _ _ _ _ hJk.out ⟨TurnR.ofKp0 kWz.out, fun _ => ⟨rfl, rfl, fun q hq => .inl hq⟩, fun e => (by cases e), fun j hj => .inl hj, rfl, .inr ⟨_, rfl, hRk2.out, hzl, fun _ => ⟨hzrow, fun j hj => ⟨hzb2 j hj, fun hm => by have := hjB.out j hm; have := hkB.out.1; have := hzb2 j hj; omega, fun hm => by have := h'.out.ql j hm; have := hkA.out.2.size; have := hzb2 j hj; omega⟩⟩⟩⟩
            obtain ⟨fn, tmps, assign, body, hyl5, hR⟩ := hY _ ⟨za, zc, xl ++ ol⟩ Wz hJz rfl
            have hR' : RoundIn (Fence.wide.inRound l0) (n - 1 - 1 - 1) Try.prog ly fn tmps assign body Wz _ := RoundIn.anyDepthJ (F := Fence.wide.inRound l0) rfl hR
            have hgo : Hid (∀ A3, KeepR ⟨true, W3.heap.size, qsA, jsB, i + k, some ⟨za, zc, xl ++ ol⟩⟩ Wz A3 → KeepB jsB A2 A3 ∧ KeepR s A A3 ∧ KeepsFrom W3.heap.size A A3) := fun A3 hk3 => by
              have t1 : KeepR s wr Wz := ⟨KeepB.ofKp kWz.out (by simp), fun _ j o _ ho _ => (kWz.out.block j (Array.getElem?_eq_some_iff.1 ho).1 (by simp)).trans ho⟩
              have t2 : KeepR s Wz A3 := ⟨⟨hk3.js.1, fun j hj o ho => hk3.js.2 j (hJA.out j (h'.out.sub j hj)) o ho⟩, fun hm j o hj ho hc => hk3.recs rfl j o (by have := (h'.out.mde hm).1; show W3.heap.size ≤ j; omega) ho hc⟩
              exact ⟨hkB.out.trans ((KeepB.ofKp kWz.out (by simp)).trans hk3.js), (hkA.out.1.trans t1).trans t2, ⟨Nat.le_trans hkA.out.2.size (Nat.le_trans kWz.out.size hk3.js.1), fun j o hj ho hc => by
                have g1 := hkA.out.2.same j o hj ho hc
                have g2 := (kWz.out.block j (Array.getElem?_eq_some_iff.1 g1).1 (by simp)).trans g1
                exact hk3.recs rfl j o hj g2 hc⟩⟩
            have hyl6 := hyl5
            simp only [encR, List.length_append] at hyl6
            clear hR hJz hzl hzrow kz hzb hzb2 hyl5 cCt
            refine wpAnyIn_ready (rs := [5]) (by kernel_rfl) (by simp) ?_
            refine AllReadyIn.cons rfl (fun K hK => ?_) AllReadyIn.nil
            go_simp
            refine ⟨fun h => (by cases h), hR'.mono ?_⟩
            rintro e A3 (⟨rfl, hJ3, hk3⟩ | ⟨rfl, hJ3, hk3⟩)
            · have HG := hid (hgo.out A3 hk3)
              have hJ4 : Hid (J ⟨true, W3.heap.size, qsA, jsB, i + (k + 1), none⟩ A3) := hJ3
              clear hgo hR' hyl6 hJ3 hk3
              refine hK _ _ ?_
              clear hK K
              try simp only [Act.put, List.getElem_toArray, List.getElem_cons_zero, List.getElem_cons_succ, List.setIfInBounds_toArray, List.set_cons_zero, List.set_cons_succ]
              refine wpAnyIn_ready (rs := [6]) (by kernel_rfl) (by simp) ?_
              refine AllReadyIn.cons rfl (fun K hK => ?_) AllReadyIn.nil
              go_simp
              refine hK _ _ ?_
              clear hK K
              try simp only [Act.put, List.getElem_toArray, List.getElem_cons_zero, List.getElem_cons_succ, List.setIfInBounds_toArray, List.set_cons_zero, List.set_cons_succ]
              refine wpAnyIn_done (by kernel_rfl) ?_ _
              gi_wp2_with fail
              go_roundw
              case rel => exact ⟨k + 1, by simp, by omega, hJ4, hid HG.out.1, hid HG.out.2⟩
              case measure => simp [intOf]; omega
            · have HG := hid (hgo.out A3 hk3)
              have hJ4 := hid hJ3
              clear hgo hR' hyl6 hJ3 hk3
              refine hK _ _ ?_
              clear hK K
              try simp only [Act.put, List.getElem_toArray, List.getElem_cons_zero, List.getElem_cons_succ, List.setIfInBounds_toArray, List.set_cons_zero, List.set_cons_succ]
              refine wpAnyIn_ready (rs := [6]) (by kernel_rfl) (by simp) ?_
              refine AllReadyIn.cons rfl (fun K hK => ?_) AllReadyIn.nil
              go_simp
              refine hK _ _ ?_
              clear hK K
              try simp only [Act.put, List.getElem_toArray, List.getElem_cons_zero, List.getElem_cons_succ, List.setIfInBounds_toArray, List.set_cons_zero, List.set_cons_succ]
              refine wpAnyIn_done (by kernel_rfl) ?_ _
              gi_wp2_with fail
              refine ⟨HG.out.2.2, HG.out.2.1, rfl, Sr.nx ⟨true, W3.heap.size, qsA, jsB, i + k, some ⟨za, zc, xl ++ ol⟩⟩ ⟨za, zc, xl ++ ol⟩, rfl, rfl, h'.out.qsub, h'.out.mde, h'.out.lj, hJ4.out⟩
          · go_simp
            refine hK _ _ ?_
            clear hK K
            try simp only [Act.put, List.getElem_toArray, List.getElem_cons_zero, List.getElem_cons_succ, List.setIfInBounds_toArray, List.set_cons_zero, List.set_cons_succ]
            refine wpAnyIn_ready (rs := [0, 3]) (by kernel_rfl) (by simp) ?_
            refine AllReadyIn.cons rfl (fun K hK => ?_) (AllReadyIn.cons rfl (fun K hK => ?_) AllReadyIn.nil)
            · go_simp
              refine hK _ _ ?_
              clear hK K
              try simp only [Act.put, List.getElem_toArray, List.getElem_cons_zero, List.getElem_cons_succ, List.setIfInBounds_toArray, List.set_cons_zero, List.set_cons_succ]
              refine wpAnyIn_ready (rs := [3]) (by kernel_rfl) (by simp) ?_
              refine AllReadyIn.cons rfl (fun K hK => ?_) AllReadyIn.nil
              go_simp
              refine hK _ _ ?_
              clear hK K
              try simp only [Act.put, List.getElem_toArray, List.getElem_cons_zero, List.getElem_cons_succ, List.setIfInBounds_toArray, List.set_cons_zero, List.set_cons_succ]
              refine wpAnyIn_ready (rs := [4]) (by kernel_rfl) (by simp) ?_
              refine AllReadyIn.cons rfl (fun K hK => ?_) AllReadyIn.nil
              go_simp
              refine ⟨trivial, fun h => (by cases h), (CallsIn.inRound l0 (callsIn_wide.2 cCt.out)).mono ?_⟩
              rintro e Wz ⟨za, zc, rfl, hzrow, kz, hzb⟩
              have c5z := kpAt kz c5b
              refine hK _ _ ?_
              clear hK K
              try simp only [Act.put, List.getElem_toArray, List.getElem_cons_zero, List.getElem_cons_succ, List.setIfInBounds_toArray, List.set_cons_zero, List.set_cons_succ]
              have kWz := hid (KB.out.trans kz (by simp))
              have hzl := rowLies hzrow
              have hzb2 : ∀ j ∈ blk za, wr.heap.size ≤ j := fun j hj => by have := hzb j hj; have := KB.out.size; omega
              have hJz : J ⟨true, W3.heap.size, qsA, jsB, i + k, some ⟨za, zc, xl ++ ol⟩⟩ Wz := hT _ _ _ _ hJk.out ⟨TurnR.ofKp0 kWz.out, fun _ => ⟨rfl, rfl, fun q hq => .inl hq⟩, fun e => (by cases e), fun j hj => .inl hj, rfl, .inr ⟨_, rfl, hRk2.out, hzl, fun _ => ⟨hzrow, fun j hj => ⟨hzb2 j hj, fun hm => by have := hjB.out j hm; have := hkB.out.1; have := hzb2 j hj; omega, fun hm => by have := h'.out.ql j hm; have := hkA.out.2.size; have := hzb2 j hj; omega⟩⟩⟩⟩
              obtain ⟨fn, tmps, assign, body, hyl5, hR⟩ := hY _ ⟨za, zc, xl ++ ol⟩ Wz hJz rfl
              have hR' : RoundIn (Fence.wide.inRound l0) (n - 1 - 1 - 1) Try.prog ly fn tmps assign body Wz _ := RoundIn.anyDepthJ (F := Fence.wide.inRound l0) rfl hR
              have hgo : Hid (∀ A3, KeepR ⟨true, W3.heap.size, qsA, jsB, i + k, some ⟨za, zc, xl ++ ol⟩⟩ Wz A3 → KeepB jsB A2 A3 ∧ KeepR s A A3 ∧ KeepsFrom W3.heap.size A A3) := fun A3 hk3 => by
                have t1 : KeepR s wr Wz := ⟨KeepB.ofKp kWz.out (by simp), fun _ j o _ ho _ => (kWz.out.block j (Array.getElem?_eq_some_iff.1 ho).1 (by simp)).trans ho⟩
                have t2 : KeepR s Wz A3 := ⟨⟨hk3.js.1, fun j hj o ho => hk3.js.2 j (hJA.out j (h'.out.sub j hj)) o ho⟩, fun hm j o hj ho hc => hk3.recs rfl j o (by have := (h'.out.mde hm).1; show W3.heap.size ≤ j; omega) ho hc⟩
                exact ⟨hkB.out.trans ((KeepB.ofKp kWz.out (by simp)).trans hk3.js), (hkA.out.1.trans t1).trans t2, ⟨Nat.le_trans hkA.out.2.size (Nat.le_trans kWz.out.size hk3.js.1), fun j o hj ho hc => by
                  have g1 := hkA.out.2.same j o hj ho hc
                  have g2 := (kWz.out.block j (Array.getElem?_eq_some_iff.1 g1).1 (by simp)).trans g1
                  exact hk3.recs rfl j o hj g2 hc⟩⟩
              have hyl6 := hyl5
              simp only [encR, List.length_append] at hyl6
              clear hR hJz hzl hzrow kz hzb hzb2 hyl5 cCt
              refine wpAnyIn_ready (rs := [5]) (by kernel_rfl) (by simp) ?_
              refine AllReadyIn.cons rfl (fun K hK => ?_) AllReadyIn.nil
              go_simp
              refine ⟨fun h => (by cases h), hR'.mono ?_⟩
              rintro e A3 (⟨rfl, hJ3, hk3⟩ | ⟨rfl, hJ3, hk3⟩)
              · have HG := hid (hgo.out A3 hk3)
                have hJ4 : Hid (J ⟨true, W3.heap.size, qsA, jsB, i + (k + 1), none⟩ A3) := hJ3
                clear hgo hR' hyl6 hJ3 hk3
                refine hK _ _ ?_
                clear hK K
                try simp only [Act.put, List.getElem_toArray, List.getElem_cons_zero, List.getElem_cons_succ, List.setIfInBounds_toArray, List.set_cons_zero, List.set_cons_succ]
                refine wpAnyIn_ready (rs := [6]) (by kernel_rfl) (by simp) ?_
                refine AllReadyIn.cons rfl (fun K hK => ?_) AllReadyIn.nil
                go_simp
                refine hK _ _ ?_
                clear hK K
                try simp only [Act.put, List.getElem_toArray, List.getElem_cons_zero, List.getElem_cons_succ, List.setIfInBounds_toArray, List.set_cons_zero, List.set_cons_succ]
                refine wpAnyIn_done (by kernel_rfl) ?_ _
                gi_wp2_with fail
                go_roundw
                case rel => exact ⟨k + 1, by simp, by omega, hJ4, hid HG.out.1, hid HG.out.2⟩
                case measure => simp [intOf]; omega
              · have HG := hid (hgo.out A3 hk3)
                have hJ4 := hid hJ3
                clear hgo hR' hyl6 hJ3 hk3
                refine hK _ _ ?_
                clear hK K
                try simp only [Act.put, List.getElem_toArray, List.getElem_cons_zero, List.getElem_cons_succ, List.setIfInBounds_toArray, List.set_cons_zero, List.set_cons_succ]
                refine wpAnyIn_ready (rs := [6]) (by kernel_rfl) (by simp) ?_
                refine AllReadyIn.cons rfl (fun K hK => ?_) AllReadyIn.nil
                go_simp
                refine hK _ _ ?_
                clear hK K
                try simp only [Act.put, List.getElem_toArray, List.getElem_cons_zero, List.getElem_cons_succ, List.setIfInBounds_toArray, List.set_cons_zero, List.set_cons_succ]
                refine wpAnyIn_done (by kernel_rfl) ?_ _
                gi_wp2_with fail
                refine ⟨HG.out.2.2, HG.out.2.1, rfl, Sr.nx ⟨true, W3.heap.size, qsA, jsB, i + k, some ⟨za, zc, xl ++ ol⟩⟩ ⟨za, zc, xl ++ ol⟩, rfl, rfl, h'.out.qsub, h'.out.mde, h'.out.lj, hJ4.out⟩
            · go_simp
              refine hK _ _ ?_
              clear hK K
              try simp only [Act.put, List.getElem_toArray, List.getElem_cons_zero, List.getElem_cons_succ, List.setIfInBounds_toArray, List.set_cons_zero, List.set_cons_succ]
              refine wpAnyIn_ready (rs := [0, 4]) (by kernel_rfl) (by simp) ?_
              refine AllReadyIn.cons rfl (fun K hK => ?_) (AllReadyIn.cons rfl (fun K hK => ?_) AllReadyIn.nil)
              · go_simp
                refine hK _ _ ?_
                clear hK K
                try simp only [Act.put, List.getElem_toArray, List.getElem_cons_zero, List.getElem_cons_succ, List.setIfInBounds_toArray, List.set_cons_zero, List.set_cons_succ]
                refine wpAnyIn_ready (rs := [4]) (by kernel_rfl) (by simp) ?_
                refine AllReadyIn.cons rfl (fun K hK => ?_) AllReadyIn.nil
                go_simp
                refine ⟨trivial, fun h => (by cases h), (CallsIn.inRound l0 (callsIn_wide.2 cCt.out)).mono ?_⟩
                rintro e Wz ⟨za, zc, rfl, hzrow, kz, hzb⟩
                have c5z := kpAt kz c5b
                refine hK _ _ ?_
                clear hK K
                try simp only [Act.put, List.getElem_toArray, List.getElem_cons_zero, List.getElem_cons_succ, List.setIfInBounds_toArray, List.set_cons_zero, List.set_cons_succ]
                have kWz := hid (KB.out.trans kz (by simp))
                have hzl := rowLies hzrow
                have hzb2 : ∀ j ∈ blk za, wr.heap.size ≤ j := fun j hj => by have := hzb j hj; have := KB.out.size; omega
                have hJz : J ⟨true, W3.heap.size, qsA, jsB, i + k, some ⟨za, zc, xl ++ ol⟩⟩ Wz := hT _ _ _ _ hJk.out ⟨TurnR.ofKp0 kWz.out, fun _ => ⟨rfl, rfl, fun q hq => .inl hq⟩, fun e => (by cases e), fun j hj => .inl hj, rfl, .inr ⟨_, rfl, hRk2.out, hzl, fun _ => ⟨hzrow, fun j hj => ⟨hzb2 j hj, fun hm => by have := hjB.out j hm; have := hkB.out.1; have := hzb2 j hj; omega, fun hm => by have := h'.out.ql j hm; have := hkA.out.2.size; have := hzb2 j hj; omega⟩⟩⟩⟩
                obtain ⟨fn, tmps, assign, body, hyl5, hR⟩ := hY _ ⟨za, zc, xl ++ ol⟩ Wz hJz rfl
                have hR' : RoundIn (Fence.wide.inRound l0) (n - 1 - 1 - 1) Try.prog ly fn tmps assign body Wz _ := RoundIn.anyDepthJ (F := Fence.wide.inRound l0) rfl hR
                have hgo : Hid (∀ A3, KeepR ⟨true, W3.heap.size, qsA, jsB, i + k, some ⟨za, zc, xl ++ ol⟩⟩ Wz A3 → KeepB jsB A2 A3 ∧ KeepR s A A3 ∧ KeepsFrom W3.heap.size A A3) := fun A3 hk3 => by
                  have t1 : KeepR s wr Wz := ⟨KeepB.ofKp kWz.out (by simp), fun _ j o _ ho _ => (kWz.out.block j (Array.getElem?_eq_some_iff.1 ho).1 (by simp)).trans ho⟩
                  have t2 : KeepR s Wz A3 := ⟨⟨hk3.js.1, fun j hj o ho => hk3.js.2 j (hJA.out j (h'.out.sub j hj)) o ho⟩, fun hm j o hj ho hc => hk3.recs rfl j o (by have := (h'.out.mde hm).1; show W3.heap.size ≤ j; omega) ho hc⟩
                  exact ⟨hkB.out.trans ((KeepB.ofKp kWz.out (by simp)).trans hk3.js), (hkA.out.1.trans t1).trans t2, ⟨Nat.le_trans hkA.out.2.size (Nat.le_trans kWz.out.size hk3.js.1), fun j o hj ho hc => by
                    have g1 := hkA.out.2.same j o hj ho hc
                    have g2 := (kWz.out.block j (Array.getElem?_eq_some_iff.1 g1).1 (by simp)).trans g1
                    exact hk3.recs rfl j o hj g2 hc⟩⟩
                have hyl6 := hyl5
                simp only [encR, List.length_append] at hyl6
                clear hR hJz hzl hzrow kz hzb hzb2 hyl5 cCt
                refine wpAnyIn_ready (rs := [5]) (by kernel_rfl) (by simp) ?_
                refine AllReadyIn.cons rfl (fun K hK => ?_) AllReadyIn.nil
                go_simp
                refine ⟨fun h => (by cases h), hR'.mono ?_⟩
                rintro e A3 (⟨rfl, hJ3, hk3⟩ | ⟨rfl, hJ3, hk3⟩)
                · have HG := hid (hgo.out A3 hk3)
                  have hJ4 : Hid (J ⟨true, W3.heap.size, qsA, jsB, i + (k + 1), none⟩ A3) := hJ3
                  clear hgo hR' hyl6 hJ3 hk3
                  refine hK _ _ ?_
                  clear hK K
                  try simp only [Act.put, List.getElem_toArray, List.getElem_cons_zero, List.getElem_cons_succ, List.setIfInBounds_toArray, List.set_cons_zero, List.set_cons_succ]
                  refine wpAnyIn_ready (rs := [6]) (by kernel_rfl) (by simp) ?_
                  refine AllReadyIn.cons rfl (fun K hK => ?_) AllReadyIn.nil
                  go_simp
                  refine hK _ _ ?_
                  clear hK K
                  try simp only [Act.put, List.getElem_toArray, List.getElem_cons_zero, List.getElem_cons_succ, List.setIfInBounds_toArray, List.set_cons_zero, List.set_cons_succ]
                  refine wpAnyIn_done (by kernel_rfl) ?_ _
                  gi_wp2_with fail
                  go_roundw
                  case rel => exact ⟨k + 1, by simp, by omega, hJ4, hid HG.out.1, hid HG.out.2⟩
                  case measure => simp [intOf]; omega
                · have HG := hid (hgo.out A3 hk3)
                  have hJ4 := hid hJ3
                  clear hgo hR' hyl6 hJ3 hk3
                  refine hK _ _ ?_
                  clear hK K
                  try simp only [Act.put, List.getElem_toArray, List.getElem_cons_zero, List.getElem_cons_succ, List.setIfInBounds_toArray, List.set_cons_zero, List.set_cons_succ]
                  refine wpAnyIn_ready (rs := [6]) (by kernel_rfl) (by simp) ?_
                  refine AllReadyIn.cons rfl (fun K hK => ?_) AllReadyIn.nil
                  go_simp
                  refine hK _ _ ?_
                  clear hK K
                  try simp only [Act.put, List.getElem_toArray, List.getElem_cons_zero, List.getElem_cons_succ, List.setIfInBounds_toArray, List.set_cons_zero, List.set_cons_succ]
                  refine wpAnyIn_done (by kernel_rfl) ?_ _
                  gi_wp2_with fail
                  refine ⟨HG.out.2.2, HG.out.2.1, rfl, Sr.nx ⟨true, W3.heap.size, qsA, jsB, i + k, some ⟨za, zc, xl ++ ol⟩⟩ ⟨za, zc, xl ++ ol⟩, rfl, rfl, h'.out.qsub, h'.out.mde, h'.out.lj, hJ4.out⟩
              · go_simp
                refine ⟨trivial, fun h => (by cases h), (CallsIn.inRound l0 (callsIn_wide.2 cCt.out)).mono ?_⟩
                rintro e Wz ⟨za, zc, rfl, hzrow, kz, hzb⟩
                have c5z := kpAt kz c5b
                refine hK _ _ ?_
                clear hK K
                try simp only [Act.put, List.getElem_toArray, List.getElem_cons_zero, List.getElem_cons_succ, List.setIfInBounds_toArray, List.set_cons_zero, List.set_cons_succ]
                refine wpAnyIn_ready (rs := [0]) (by kernel_rfl) (by simp) ?_
                refine AllReadyIn.cons rfl (fun K hK => ?_) AllReadyIn.nil
                go_simp
                refine hK _ _ ?_
                clear hK K
                try simp only [Act.put, List.getElem_toArray, List.getElem_cons_zero, List.getElem_cons_succ, List.setIfInBounds_toArray, List.set_cons_zero, List.set_cons_succ]
                have kWz := hid (KB.out.trans kz (by simp))
                have hzl := rowLies hzrow
                have hzb2 : ∀ j ∈ blk za, wr.heap.size ≤ j := fun j hj => by have := hzb j hj; have := KB.out.size; omega
                have hJz : J ⟨true, W3.heap.size, qsA, jsB, i + k, some ⟨za, zc, xl ++ ol⟩⟩ Wz := hT _ _ _ _ hJk.out ⟨TurnR.ofKp0 kWz.out, fun _ => ⟨rfl, rfl, fun q hq => .inl hq⟩, fun e => (by cases e), fun j hj => .inl hj, rfl, .inr ⟨_, rfl, hRk2.out, hzl, fun _ => ⟨hzrow, fun j hj => ⟨hzb2 j hj, fun hm => by have := hjB.out j hm; have := hkB.out.1; have := hzb2 j hj; omega, fun hm => by have := h'.out.ql j hm; have := hkA.out.2.size; have := hzb2 j hj; omega⟩⟩⟩⟩
                obtain ⟨fn, tmps, assign, body, hyl5, hR⟩ := hY _ ⟨za, zc, xl ++ ol⟩ Wz hJz rfl
                have hR' : RoundIn (Fence.wide.inRound l0) (n - 1 - 1 - 1) Try.prog ly fn tmps assign body Wz _ := RoundIn.anyDepthJ (F := Fence.wide.inRound l0) rfl hR
                have hgo : Hid (∀ A3, KeepR ⟨true, W3.heap.size, qsA, jsB, i + k, some ⟨za, zc, xl ++ ol⟩⟩ Wz A3 → KeepB jsB A2 A3 ∧ KeepR s A A3 ∧ KeepsFrom W3.heap.size A A3) := fun A3 hk3 => by
                  have t1 : KeepR s wr Wz := ⟨KeepB.ofKp kWz.out (by simp), fun _ j o _ ho _ => (kWz.out.block j (Array.getElem?_eq_some_iff.1 ho).1 (by simp)).trans ho⟩
                  have t2 : KeepR s Wz A3 := ⟨⟨hk3.js.1, fun j hj o ho => hk3.js.2 j (hJA.out j (h'.out.sub j hj)) o ho⟩, fun hm j o hj ho hc => hk3.recs rfl j o (by have := (h'.out.mde hm).1; show W3.heap.size ≤ j; omega) ho hc⟩
                  exact ⟨hkB.out.trans ((KeepB.ofKp kWz.out (by simp)).trans hk3.js), (hkA.out.1.trans t1).trans t2, ⟨Nat.le_trans hkA.out.2.size (Nat.le_trans kWz.out.size hk3.js.1), fun j o hj ho hc => by
                    have g1 := hkA.out.2.same j o hj ho hc
                    have g2 := (kWz.out.block j (Array.getElem?_eq_some_iff.1 g1).1 (by simp)).trans g1
                    exact hk3.recs rfl j o hj g2 hc⟩⟩
                have hyl6 := hyl5
                simp only [encR, List.length_append] at hyl6
                clear hR hJz hzl hzrow kz hzb hzb2 hyl5 cCt
                refine wpAnyIn_ready (rs := [5]) (by kernel_rfl) (by simp) ?_
                refine AllReadyIn.cons rfl (fun K hK => ?_) AllReadyIn.nil
                go_simp
                refine ⟨fun h => (by cases h), hR'.mono ?_⟩
                rintro e A3 (⟨rfl, hJ3, hk3⟩ | ⟨rfl, hJ3, hk3⟩)
                · have HG := hid (hgo.out A3 hk3)
                  have hJ4 : Hid (J ⟨true, W3.heap.size, qsA, jsB, i + (k + 1), none⟩ A3) := hJ3
                  clear hgo hR' hyl6 hJ3 hk3
                  refine hK _ _ ?_
                  clear hK K
                  try simp only [Act.put, List.getElem_toArray, List.getElem_cons_zero, List.getElem_cons_succ, List.setIfInBounds_toArray, List.set_cons_zero, List.set_cons_succ]
                  refine wpAnyIn_ready (rs := [6]) (by kernel_rfl) (by simp) ?_
                  refine AllReadyIn.cons rfl (fun K hK => ?_) AllReadyIn.nil
                  go_simp
                  refine hK _ _ ?_
                  clear hK K
                  try simp only [Act.put, List.getElem_toArray, List.getElem_cons_zero, List.getElem_cons_succ, List.setIfInBounds_toArray, List.set_cons_zero, List.set_cons_succ]
                  refine wpAnyIn_done (by kernel_rfl) ?_ _
                  gi_wp2_with fail
                  go_roundw
                  case rel => exact ⟨k + 1, by simp, by omega, hJ4, hid HG.out.1, hid HG.out.2⟩
                  case measure => simp [intOf]; omega
                · have HG := hid (hgo.out A3 hk3)
                  have hJ4 := hid hJ3
                  clear hgo hR' hyl6 hJ3 hk3
                  refine hK _ _ ?_
                  clear hK K
                  try simp only [Act.put, List.getElem_toArray, List.getElem_cons_zero, List.getElem_cons_succ, List.setIfInBounds_toArray, List.set_cons_zero, List.set_cons_succ]
                  refine wpAnyIn_ready (rs := [6]) (by kernel_rfl) (by simp) ?_
                  refine AllReadyIn.cons rfl (fun K hK => ?_) AllReadyIn.nil
                  go_simp
                  refine hK _ _ ?_
                  clear hK K
                  try simp only [Act.put, List.getElem_toArray, List.getElem_cons_zero, List.getElem_cons_succ, List.setIfInBounds_toArray, List.set_cons_zero, List.set_cons_succ]
                  refine wpAnyIn_done (by kernel_rfl) ?_ _
                  gi_wp2_with fail
                  refine ⟨HG.out.2.2, HG.out.2.1, rfl, Sr.nx ⟨true, W3.heap.size, qsA, jsB, i + k, some ⟨za, zc, xl ++ ol⟩⟩ ⟨za, zc, xl ++ ol⟩, rfl, rfl, h'.out.qsub, h'.out.mde, h'.out.lj, hJ4.out⟩
      · obtain rfl : k = m := by omega
        have dj1 : ¬ (k : Int) < (k : Int) := by omega
        have dj2 : decide ((k : Int) < (k : Int)) = false := by simp
        gi_wp2_with fail
        refine ⟨hkA.out.2, hkA.out.1, jsB, qsA, i + k, hJk.out, fun j hj => hJA.out j (h'.out.sub j hj), hMB.out, h'.out.qsub, hmr.out, hRe.out, hiR.out, Nat.le_trans h'.out.size hkA.out.2.size, h'.out.mde, h'.out.lj, fun x hx => (by cases hx), fun j hj => Nat.lt_of_lt_of_le (hjB.out j hj) hkB.out.1, fun q hq => Nat.lt_of_lt_of_le (h'.out.ql q hq) hkA.out.2.size⟩
  case done =>
    rintro D s X hD ⟨hmd, hsi, hsp⟩ ⟨jsA, qsA, i, h⟩ hrec
    have hie : i = RJ.length := by
      have := h.rel
      rw [hsi, List.drop_length, List.flatMap_nil] at this
      have := congrArg List.length this
      rw [List.length_drop, List.length_nil] at this
      have := h.il
      omega
    have hJD := hT _ _ _ _ h.j (StepR.same rfl rfl (TurnR.ofGrown (grownBy_putObj' X D (.deferred none)) (fun r e => by cases e; exact ⟨hD, _, hrec, rfl⟩)))
    gi_wp2_with fail
    rw [Exit.noGoto_normal]
    refine ⟨by simp, .inl ⟨_, _, rfl, run_takeDeferred hrec, ?_⟩⟩
    exact ⟨_, results_none rfl _ _ _, ⟨_, rfl⟩, .inl ⟨_, ⟨rfl, hie, rfl⟩, hJD⟩⟩
  case stop =>
    rintro D c s X hD hsm ⟨rfl, h⟩ hrec
    obtain ⟨s2, h1, h2, h3, h4, h5, h6⟩ := h
    have hJD := hX _ _ _ h6 ⟨h1, TurnR.ofGrown (grownBy_putObj' X D (.deferred none)) (fun r e => by cases e; exact ⟨by rw [h2]; exact hD, _, hrec, rfl⟩)⟩
    gi_wp2_with fail
    rw [Exit.noGoto_normal]
    refine ⟨by simp, .inl ⟨_, _, rfl, run_takeDeferred hrec, ?_⟩⟩
    exact ⟨_, results_none rfl _ _ _, ⟨_, rfl⟩, .inr ⟨s2, h1, hJD⟩⟩
end Go.Proofs.Ytohkjikhlakglaa
end

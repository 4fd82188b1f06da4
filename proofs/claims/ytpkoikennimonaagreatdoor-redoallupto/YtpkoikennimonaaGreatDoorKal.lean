/- Every call on a log, on a disk that may be full, or die, and on what its crashes leave, is answered, and written byte for byte, as the document says; where what is given is of bulk at most 1048576. -/
import Derived.Test.YtpkoikennimonaaGreatDoorB22
import Derived.SizedLaws
import Derived.JoinedCond
import Derived.Deep.CondSized
section
namespace Go.Proofs.YtpkoikennimonaaGreatDoor
open Go.RowKit Go.Hay
set_option linter.unusedVariables false
set_option linter.unusedSimpArgs false
variable {Q : Prop}

theorem StZ.xlt {w W : World} {dp : Nat} {lp : Option Addr} {r : RD} {g : RL} {up : Bool} {K s : Nat} {X : List Nat} (h : StZ Q w W dp lp r g up K s X) : ∀ k ∈ X, k < W.heap.size ∧ w.heap.size ≤ k := by
  obtain ⟨mb, xs, d, h1, h2, h3, h4, h5, h6, h7, h8, h9⟩ := h
  exact fun k hk => ⟨(h9 k hk).1, (h9 k hk).2.2.2⟩
/-- The law's world lies in its box; both disks, both logs. -/
structure WZ (Q : Prop) (w W : World) (q dp : Nat) (lp : Option Addr) (r : RD) (g : RL) (up : Bool) (K s : Nat) : Prop where
  box : Bn W q [.pointer (some ⟨dp, 0, none⟩), .pointer lp, .int .i64 r.room, .int .i64 r.steps, .slice r.fa r.l.length r.fc, .bool r.armed, .bool r.dead, .int .i64 r.left, .string ⟨g.nm.toArray⟩, .slice g.a g.l.length g.c, .int .i64 g.sz, .bool up]
  st : StZ Q w W dp lp r g up K s [q]
theorem WZ.keep {w W W' : World} {q dp : Nat} {lp : Option Addr} {r : RD} {g : RL} {up : Bool} {K s : Nat} (h : WZ Q w W q dp lp r g up K s) (k : Kp [] W W') : WZ Q w W' q dp lp r g up K s :=
  ⟨h.box.kept k (h.st.xlt q (by simp)).1, h.st.keep k⟩
theorem WZ.mono {w W : World} {q dp : Nat} {lp : Option Addr} {r : RD} {g : RL} {up : Bool} {K s K' s' : Nat} (h : WZ Q w W q dp lp r g up K s) (hK : K ≤ K') (hs : s ≤ s') : WZ Q w W q dp lp r g up K' s' := ⟨h.box, h.st.mono hK hs⟩
set_option maxHeartbeats 16000000 in
set_option maxRecDepth 100000 in
theorem allWalkZ (room : Int) (a : Option Addr) (c : Nat) (L : List OpZ) (w : World) (ht : Tab w) (hr0 : -9223372036854775808 ≤ room) (hr1 : room ≤ 9223372036854775807) (hs : OpE.See w a L) (hok : ∀ o ∈ L, o.ok w) (hL : L.length ≤ 1048576) (hwt : (L.map OpZ.wt).sum ≤ 300000000) :
    Calls Tryz.prog 3 #[.int .i64 room, .slice a L.length c] w fun e w' => e = .returned (.bool true) ∧ Below w.heap.size w w' := by
  have ht' := hid ht
  have aN := hid (cNew room w (by omega))
  have hcl := hid (fun (j : Nat) (o : OpZ) (ho : L[j]? = some o) (W : World) (k : Kp [] w W) => opAt (hs.keptNew k) ho)
  have hok' := hid hok
  have hwt' := hid hwt
  clear ht hs hok hwt
  go_enter Tryz.func3, Tryz.ntmps3
  go_wp2_with fail
  refine aN.out.mono ?_
  rintro e w1 ⟨dp, mb, rfl, hD1, k1, hdp, hmb⟩
  have aR := hid (cRefNew room w1 (by omega))
  have H1 := hid (And.intro hD1 (And.intro k1 (And.intro hdp hmb)))
  clear aN hD1 k1 hdp hmb
  go_wp2_with fail
  refine aR.out.mono ?_
  rintro e w2 ⟨v2, rfl, r, rfl, hR, hLk, k2, hf⟩
  have hS2 : StZ False w w2 dp none r RL.none false 0 0 [] := StZ.new (by omega) H1.out.1 H1.out.2.1 H1.out.2.2.1 H1.out.2.2.2 hR hLk k2 (fun k hk => (hf k hk).resolve_left (by simp)) none RL.none
  obtain ⟨WA, eWA⟩ : ∃ Y, w2.alloc (.cells #[.pointer none, .pointer none, .int .i64 0, .int .i64 0, .slice none 0 0, .bool false, .bool false, .int .i64 0, .string ⟨#[]⟩, .slice none 0 0, .int .i64 0, .bool false] 34) = Y := ⟨_, rfl⟩
  have kWA : Kp [] w2 WA := by rw [← eWA]; exact (Kp.refl _ _).alloc _
  have zWA : WA.heap.size = w2.heap.size + 1 := by rw [← eWA]; simp
  have xWA : Bn WA (w2.heap.size) [.pointer none, .pointer none, .int .i64 0, .int .i64 0, .slice none 0 0, .bool false, .bool false, .int .i64 0, .string ⟨#[]⟩, .slice none 0 0, .int .i64 0, .bool false] := by rw [← eWA]; exact Bn.new w2 [.pointer none, .pointer none, .int .i64 0, .int .i64 0, .slice none 0 0, .bool false, .bool false, .int .i64 0, .string ⟨#[]⟩, .slice none 0 0, .int .i64 0, .bool false] 34
  obtain ⟨WB, eWB⟩ : ∃ Y, ((((((((((((WA.setCell ⟨w2.heap.size, 0, none⟩ (.pointer (some ⟨dp, 0, none⟩))).setCell ⟨w2.heap.size, 1, none⟩ (.pointer none)).setCell ⟨w2.heap.size, 2, none⟩ (.int .i64 r.room)).setCell ⟨w2.heap.size, 3, none⟩ (.int .i64 r.steps)).setCell ⟨w2.heap.size, 4, none⟩ (.slice r.fa r.l.length r.fc)).setCell ⟨w2.heap.size, 5, none⟩ (.bool r.armed)).setCell ⟨w2.heap.size, 6, none⟩ (.bool r.dead)).setCell ⟨w2.heap.size, 7, none⟩ (.int .i64 r.left)).setCell ⟨w2.heap.size, 8, none⟩ (.string ⟨#[]⟩)).setCell ⟨w2.heap.size, 9, none⟩ (.slice none 0 0)).setCell ⟨w2.heap.size, 10, none⟩ (.int .i64 0)).setCell ⟨w2.heap.size, 11, none⟩ (.bool false)) = Y := ⟨_, rfl⟩
  have kWB : Kp [w2.heap.size] WA WB := by rw [← eWB]; exact (((((((((((((Kp.refl _ _).setCell (by simp) _).setCell (by simp) _).setCell (by simp) _).setCell (by simp) _).setCell (by simp) _).setCell (by simp) _).setCell (by simp) _).setCell (by simp) _).setCell (by simp) _).setCell (by simp) _).setCell (by simp) _).setCell (by simp) _)
  have xWB : Bn WB (w2.heap.size) [.pointer (some ⟨dp, 0, none⟩), .pointer none, .int .i64 r.room, .int .i64 r.steps, .slice r.fa r.l.length r.fc, .bool r.armed, .bool r.dead, .int .i64 r.left, .string ⟨#[]⟩, .slice none 0 0, .int .i64 0, .bool false] := by rw [← eWB]; exact ((((((((((((xWA.set 0 (by simp) (.pointer (some ⟨dp, 0, none⟩))).set 1 (by simp) (.pointer none)).set 2 (by simp) (.int .i64 r.room)).set 3 (by simp) (.int .i64 r.steps)).set 4 (by simp) (.slice r.fa r.l.length r.fc)).set 5 (by simp) (.bool r.armed)).set 6 (by simp) (.bool r.dead)).set 7 (by simp) (.int .i64 r.left)).set 8 (by simp) (.string ⟨#[]⟩)).set 9 (by simp) (.slice none 0 0)).set 10 (by simp) (.int .i64 0)).set 11 (by simp) (.bool false))
  have zWB := kWB.size
  have ma0 := xWA.get 0 _ rfl; have ma1 := xWA.get 1 _ rfl; have ma2 := xWA.get 2 _ rfl; have ma3 := xWA.get 3 _ rfl; have ma4 := xWA.get 4 _ rfl; have ma5 := xWA.get 5 _ rfl; have ma6 := xWA.get 6 _ rfl; have ma7 := xWA.get 7 _ rfl; have ma8 := xWA.get 8 _ rfl; have ma9 := xWA.get 9 _ rfl; have ma10 := xWA.get 10 _ rfl; have ma11 := xWA.get 11 _ rfl
  have mf0 := xWA.free 0; have mf1 := xWA.free 1; have mf2 := xWA.free 2; have mf3 := xWA.free 3; have mf4 := xWA.free 4; have mf5 := xWA.free 5; have mf6 := xWA.free 6; have mf7 := xWA.free 7; have mf8 := xWA.free 8; have mf9 := xWA.free 9; have mf10 := xWA.free 10; have mf11 := xWA.free 11
  have pc0 := xWB.get 0 _ rfl; have pc1 := xWB.get 1 _ rfl; have pc2 := xWB.get 2 _ rfl; have pc3 := xWB.get 3 _ rfl; have pc4 := xWB.get 4 _ rfl; have pc5 := xWB.get 5 _ rfl; have pc6 := xWB.get 6 _ rfl; have pc7 := xWB.get 7 _ rfl; have pc8 := xWB.get 8 _ rfl; have pc9 := xWB.get 9 _ rfl; have pc10 := xWB.get 10 _ rfl; have pc11 := xWB.get 11 _ rfl
  have hSB : StZ False w WB dp none r RL.none false 0 0 [w2.heap.size] := (hS2.keepS (X' := [w2.heap.size]) kWA (by simp) (fun j hj => by simp at hj; subst hj; exact ⟨.inr (Nat.le_refl _), by omega⟩)).keepS (X' := [w2.heap.size]) kWB (by simp) (fun j hj => ⟨.inl hj, by simp at hj; subst hj; omega⟩)
  have aV := hid (cAliveQ WB (ht'.out.kept hSB.kp (by simp)))
  have HB := hid (And.intro hSB xWB)
  clear aR H1 hR hLk k2 hf hS2 kWA xWA kWB xWB hSB
  obtain ⟨room2, steps2, fa2, fc2, lx2, armed2, dead2, left2⟩ := r
  simp only [RD.v, RL.none, List.length_nil] at *
  go_wp2_with fail
  refine aV.out.mono ?_
  rintro e w3 ⟨rfl, k3⟩
  have z3 := k3.size
  have x3 := HB.out.2.kept k3 (by omega)
  have hS3 := HB.out.1.keep k3
  have aS := hid (cStep3 (ub := false) hS3 ⟨3, 0, none, 0, [], none, 0, []⟩ rfl (by omega) (by omega))
  obtain ⟨q, hq⟩ : ∃ q, w2.heap.size = q := ⟨_, rfl⟩
  clear ma0 ma1 ma2 ma3 ma4 ma5 ma6 ma7 ma8 ma9 ma10 ma11 mf0 mf1 mf2 mf3 mf4 mf5 mf6 mf7 mf8 mf9 mf10 mf11 pc0 pc1 pc2 pc3 pc4 pc5 pc6 pc7 pc8 pc9 pc10 pc11 eWA eWB zWA zWB aV
  rw [hq] at aS x3 hS3 HB
  rw [hq]
  clear hq HB
  have pc0 := x3.get 0 _ rfl; have pc1 := x3.get 1 _ rfl; have pc2 := x3.get 2 _ rfl; have pc3 := x3.get 3 _ rfl; have pc4 := x3.get 4 _ rfl; have pc5 := x3.get 5 _ rfl; have pc6 := x3.get 6 _ rfl; have pc7 := x3.get 7 _ rfl; have pc8 := x3.get 8 _ rfl; have pc9 := x3.get 9 _ rfl; have pc10 := x3.get 10 _ rfl; have pc11 := x3.get 11 _ rfl
  have hq3 := hS3.xlt q (by simp)
  have X3 := hid x3
  clear x3 hS3 k3 z3
  simp only [LWv, OpZ.v, RL.none, List.length_nil] at *
  go_wp2_with fail
  refine aS.out.mono ?_
  rintro e w4 ⟨d4, l4, r4, g4, u4, rfl, hS4, S4, k4, hS4x⟩
  have y4 := X3.out.keptS k4 (fun hm => (hS4x _ hm).1 (by simp)) hq3.1
  obtain ⟨w5, e5, x5, k5⟩ := y4.set12 rfl (.pointer (some ⟨d4, 0, none⟩)) (.pointer l4) (.int .i64 r4.room) (.int .i64 r4.steps) (.slice r4.fa r4.l.length r4.fc) (.bool r4.armed) (.bool r4.dead) (.int .i64 r4.left) (.string ⟨g4.nm.toArray⟩) (.slice g4.a g4.l.length g4.c) (.int .i64 g4.sz) (.bool u4)
  have z4 := k4.size
  have z5 := k5.size
  have HW : Hid (WZ False w w5 q d4 l4 r4 g4 u4 0 3) := ⟨x5, hS4.keepS (X' := [q]) k5 (by simp) (fun j hj => ⟨.inl hj, by simp at hj; subst hj; omega⟩)⟩
  have va0 := y4.get 0 _ rfl; have va1 := y4.get 1 _ rfl; have va2 := y4.get 2 _ rfl; have va3 := y4.get 3 _ rfl; have va4 := y4.get 4 _ rfl; have va5 := y4.get 5 _ rfl; have va6 := y4.get 6 _ rfl; have va7 := y4.get 7 _ rfl; have va8 := y4.get 8 _ rfl; have va9 := y4.get 9 _ rfl; have va10 := y4.get 10 _ rfl; have va11 := y4.get 11 _ rfl
  have vf0 := y4.free 0; have vf1 := y4.free 1; have vf2 := y4.free 2; have vf3 := y4.free 3; have vf4 := y4.free 4; have vf5 := y4.free 5; have vf6 := y4.free 6; have vf7 := y4.free 7; have vf8 := y4.free 8; have vf9 := y4.free 9; have vf10 := y4.free 10; have vf11 := y4.free 11
  have hqw := hid hq3.2
  clear x5 k5 y4 hS4 k4 hS4x aS X3 z4 z5 hq3 pc0 pc1 pc2 pc3 pc4 pc5 pc6 pc7 pc8 pc9 pc10 pc11
  have HW0 := HW
  clear HW
  have E5 := e5
  have HI : Hid (∃ (d : Nat) (l : Option Addr) (r : RD) (g : RL) (u : Bool), WZ False w w5 q d l r g u 0 3) := ⟨_, _, _, _, _, HW0.out⟩
  clear HW0 E5
  obtain ⟨room4, steps4, fa4, fc4, lx4, armed4, dead4, left4⟩ := r4
  obtain ⟨gn4, ga4, gc4, gl4, gs4⟩ := g4
  simp only [LWv] at *
  go_wp2_with fail
  clear va0 va1 va2 va3 va4 va5 va6 va7 va8 va9 va10 va11 vf0 vf1 vf2 vf3 vf4 vf5 vf6 vf7 vf8 vf9 vf10 vf11 e5
  go_loopw [6, 31] (fun _ i wn => ∃ j : Nat, j ≤ L.length ∧ i = .int .i64 j ∧ Hid (∃ (d : Nat) (l : Option Addr) (r : RD) (g : RL) (u : Bool), WZ False w wn q d l r g u ((L.take j).map OpZ.wt).sum (3 + 3 * j))) (fun _ i _ => L.length - (intOf i).toNat)
  case atStart => exact ⟨0, Nat.zero_le _, rfl, by simpa using HI⟩
  case round =>
    obtain ⟨j, hj, rfl, HJ⟩ := hrel
    obtain ⟨d, l, r, g, u, hW⟩ := HJ.out
    have hq := hW.st.xlt q (by simp)
    have hKj := wts_take L j
    have hK := hwt'.out
    clear HI HJ
    by_cases hlt : j < L.length
    · have dj1 : (j : Int) < (L.length : Int) := by omega
      have dj0 : (0 : Int) ≤ (j : Int) := by omega
      have dj7 : (-9223372036854775808 : Int) ≤ (j : Int) + 1 := by omega
      have dj8 : (j : Int) + 1 ≤ 9223372036854775807 := by omega
      have hKs := wts_succ L j hlt
      have hKs2 := wts_take L (j + 1)
      obtain ⟨o, hoe⟩ : ∃ o, L[j] = o := ⟨_, rfl⟩
      have hoj : L[j]? = some o := by rw [← hoe]; simp [hlt]
      rw [hoe] at hKs
      have hoo := hok'.out o (List.mem_of_getElem? hoj)
      obtain ⟨gq, fq, ea, x0, x1, x2, x3⟩ := hcl.out j o hoj _ hW.st.kp
      subst ea
      obtain ⟨KJ, hKJ⟩ : ∃ n, ((L.take j).map OpZ.wt).sum = n := ⟨_, rfl⟩
      obtain ⟨KN, hKN⟩ : ∃ n, ((L.take (j + 1)).map OpZ.wt).sum = n := ⟨_, rfl⟩
      rw [hKJ] at hKs hKj hW
      rw [hKN] at hKs hKs2
      obtain ⟨WA, eWA⟩ : ∃ Y, wr.alloc (.cells #[.int .i64 0, .int .i64 0, .slice none 0 0, .slice none 0 0] 40) = Y := ⟨_, rfl⟩
      have kWA : Kp [] wr WA := by rw [← eWA]; exact (Kp.refl _ _).alloc _
      have zWA : WA.heap.size = wr.heap.size + 1 := by rw [← eWA]; simp
      have xWA : Bn WA (wr.heap.size) [.int .i64 0, .int .i64 0, .slice none 0 0, .slice none 0 0] := by rw [← eWA]; exact Bn.new wr [.int .i64 0, .int .i64 0, .slice none 0 0, .slice none 0 0] 40
      obtain ⟨WB, eWB⟩ : ∃ Y, ((((WA.setCell ⟨wr.heap.size, 0, none⟩ (.int .i64 o.kind)).setCell ⟨wr.heap.size, 1, none⟩ (.int .i64 o.n)).setCell ⟨wr.heap.size, 2, none⟩ (.slice o.a o.l.length o.c)).setCell ⟨wr.heap.size, 3, none⟩ (.slice o.ka o.ks.length o.kc)) = Y := ⟨_, rfl⟩
      have kWB : Kp [wr.heap.size] WA WB := by rw [← eWB]; exact (((((Kp.refl _ _).setCell (by simp) _).setCell (by simp) _).setCell (by simp) _).setCell (by simp) _)
      have xWB : Bn WB (wr.heap.size) [.int .i64 o.kind, .int .i64 o.n, .slice o.a o.l.length o.c, .slice o.ka o.ks.length o.kc] := by rw [← eWB]; exact ((((xWA.set 0 (by simp) (.int .i64 o.kind)).set 1 (by simp) (.int .i64 o.n)).set 2 (by simp) (.slice o.a o.l.length o.c)).set 3 (by simp) (.slice o.ka o.ks.length o.kc))
      have zWB := kWB.size
      have ma0 := xWA.get 0 _ rfl; have ma1 := xWA.get 1 _ rfl; have ma2 := xWA.get 2 _ rfl; have ma3 := xWA.get 3 _ rfl
      have mf0 := xWA.free 0; have mf1 := xWA.free 1; have mf2 := xWA.free 2; have mf3 := xWA.free 3
      have oc0 := xWB.get 0 _ rfl; have oc1 := xWB.get 1 _ rfl; have oc2 := xWB.get 2 _ rfl; have oc3 := xWB.get 3 _ rfl
      have hSB := (hW.st.keepS (X' := [wr.heap.size, q]) kWA (by simp) (fun j hj => by
        simp at hj
        rcases hj with rfl | rfl
        · exact ⟨.inr (Nat.le_refl _), by omega⟩
        · exact ⟨.inl (by simp), by omega⟩)).keepS (X' := [q]) kWB (by simp) (fun j hj => by simp at hj; subst hj; exact ⟨.inl (by simp), by omega⟩)
      have xq := (hW.box.kept kWA hq.1).keptS kWB (by simp; omega) (by omega)
      have aS := hid (cStepZ hSB o hoo (by omega) (by omega) ht'.out (.inr rfl))
      have pc0 := xq.get 0 _ rfl; have pc1 := xq.get 1 _ rfl; have pc2 := xq.get 2 _ rfl; have pc3 := xq.get 3 _ rfl; have pc4 := xq.get 4 _ rfl; have pc5 := xq.get 5 _ rfl; have pc6 := xq.get 6 _ rfl; have pc7 := xq.get 7 _ rfl; have pc8 := xq.get 8 _ rfl; have pc9 := xq.get 9 _ rfl; have pc10 := xq.get 10 _ rfl; have pc11 := xq.get 11 _ rfl
      have XQ := hid xq
      have hqB : q < WB.heap.size := by omega
      have HF := hid (And.intro hKs (And.intro hKs2 (And.intro hKN hK)))
      clear hSB xq kWA kWB xWA xWB hW hoo hoj hoe hKs hKj hKs2 hK hKN hKJ
      obtain ⟨kind, on, oa, occ, ol, oka, okc, oks⟩ := o
      obtain ⟨room1, steps1, fa1, fc1, lx1, armed1, dead1, left1⟩ := r
      obtain ⟨gn1, ga1, gc1, gl1, gs1⟩ := g
      simp only [LWv, OpZ.v] at *
      go_wp2_with fail
      refine aS.out.mono ?_
      rintro e w4 ⟨d4, l4, r4, g4, u4, rfl, hS4, S4, k4, hS4x⟩
      have y4 := XQ.out.keptS k4 (fun hm => (hS4x _ hm).1 (by simp)) hqB
      obtain ⟨w5, e5, x5, k5⟩ := y4.set12 rfl (.pointer (some ⟨d4, 0, none⟩)) (.pointer l4) (.int .i64 r4.room) (.int .i64 r4.steps) (.slice r4.fa r4.l.length r4.fc) (.bool r4.armed) (.bool r4.dead) (.int .i64 r4.left) (.string ⟨g4.nm.toArray⟩) (.slice g4.a g4.l.length g4.c) (.int .i64 g4.sz) (.bool u4)
      have z4 := k4.size
      have z5 := k5.size
      have hW5 : WZ False w w5 q d4 l4 r4 g4 u4 KN (3 + 3 * (j + 1)) := ⟨x5, (hS4.keepS (X' := [q]) k5 (by simp) (fun j hj => ⟨.inl hj, by simp at hj; subst hj; omega⟩)).mono (by have := HF.out.1; omega) (by omega)⟩
      have aF := hid (hW5.st.files (Kp.refl _ _) (by have := HF.out.2.1; have := HF.out.2.2.2; omega))
      have va0 := y4.get 0 _ rfl; have va1 := y4.get 1 _ rfl; have va2 := y4.get 2 _ rfl; have va3 := y4.get 3 _ rfl; have va4 := y4.get 4 _ rfl; have va5 := y4.get 5 _ rfl; have va6 := y4.get 6 _ rfl; have va7 := y4.get 7 _ rfl; have va8 := y4.get 8 _ rfl; have va9 := y4.get 9 _ rfl; have va10 := y4.get 10 _ rfl; have va11 := y4.get 11 _ rfl
      have vf0 := y4.free 0; have vf1 := y4.free 1; have vf2 := y4.free 2; have vf3 := y4.free 3; have vf4 := y4.free 4; have vf5 := y4.free 5; have vf6 := y4.free 6; have vf7 := y4.free 7; have vf8 := y4.free 8; have vf9 := y4.free 9; have vf10 := y4.free 10; have vf11 := y4.free 11
      have pd0 := x5.get 0 _ rfl; have pd1 := x5.get 1 _ rfl; have pd2 := x5.get 2 _ rfl; have pd3 := x5.get 3 _ rfl; have pd4 := x5.get 4 _ rfl; have pd5 := x5.get 5 _ rfl; have pd6 := x5.get 6 _ rfl; have pd7 := x5.get 7 _ rfl; have pd8 := x5.get 8 _ rfl; have pd9 := x5.get 9 _ rfl; have pd10 := x5.get 10 _ rfl; have pd11 := x5.get 11 _ rfl
      have HW5 := hid hW5
      clear x5 k5 y4 hS4 k4 hS4x aS XQ z4 z5 hW5 pc0 pc1 pc2 pc3 pc4 pc5 pc6 pc7 pc8 pc9 pc10 pc11 ma0 ma1 ma2 ma3 mf0 mf1 mf2 mf3 oc0 oc1 oc2 oc3 eWA eWB zWA zWB x0 x1 x2 x3
      obtain ⟨room4, steps4, fa4, fc4, lx4, armed4, dead4, left4⟩ := r4
      obtain ⟨gn4, ga4, gc4, gl4, gs4⟩ := g4
      simp only [LWv] at *
      go_wp2_with fail
      refine aF.out.mono ?_
      rintro e w6 ⟨rfl, k6⟩
      have H6 : Hid (∃ (d : Nat) (l : Option Addr) (r : RD) (g : RL) (u : Bool), WZ False w w6 q d l r g u ((L.take (j + 1)).map OpZ.wt).sum (3 + 3 * (j + 1))) := by
        rw [HF.out.2.2.1]
        exact ⟨_, _, _, _, _, HW5.out.keep k6⟩
      clear HW5 k6 aF e5 HF va0 va1 va2 va3 va4 va5 va6 va7 va8 va9 va10 va11 vf0 vf1 vf2 vf3 vf4 vf5 vf6 vf7 vf8 vf9 vf10 vf11 pd0 pd1 pd2 pd3 pd4 pd5 pd6 pd7 pd8 pd9 pd10 pd11
      go_wp2_with fail
      exact ⟨⟨j + 1, by omega, by go_num, H6⟩, by simp [intOf]; omega⟩
    · obtain rfl : j = L.length := by omega
      have aS := hid (cStepZ hW.st ⟨1, 0, none, 0, [], none, 0, []⟩ ⟨by simp, by simp, .inl rfl, by simp, by simp, by simp, .inl rfl, by simp, by simp, by simp⟩ (by omega) (by omega) ht'.out (.inr rfl))
      have pc0 := hW.box.get 0 _ rfl; have pc1 := hW.box.get 1 _ rfl; have pc2 := hW.box.get 2 _ rfl; have pc3 := hW.box.get 3 _ rfl; have pc4 := hW.box.get 4 _ rfl; have pc5 := hW.box.get 5 _ rfl; have pc6 := hW.box.get 6 _ rfl; have pc7 := hW.box.get 7 _ rfl; have pc8 := hW.box.get 8 _ rfl; have pc9 := hW.box.get 9 _ rfl; have pc10 := hW.box.get 10 _ rfl; have pc11 := hW.box.get 11 _ rfl
      have K0 := hid hW.st.kp
      clear hW hKj hK hq
      obtain ⟨room1, steps1, fa1, fc1, lx1, armed1, dead1, left1⟩ := r
      obtain ⟨gn1, ga1, gc1, gl1, gs1⟩ := g
      simp only [LWv, OpZ.v, List.length_nil] at *
      go_wp2_with fail
      refine aS.out.mono ?_
      rintro e w4 ⟨d4, l4, r4, g4, u4, rfl, hS4, S4, k4, hS4x⟩
      have K4 := hid hS4.kp
      clear hS4 k4 hS4x aS pc0 pc1 pc2 pc3 pc4 pc5 pc6 pc7 pc8 pc9 pc10 pc11
      obtain ⟨room4, steps4, fa4, fc4, lx4, armed4, dead4, left4⟩ := r4
      obtain ⟨gn4, ga4, gc4, gl4, gs4⟩ := g4
      simp only [LWv] at *
      go_wp2_with fail
      go_ret
      exact ⟨rfl, K4.out.below⟩
end Go.Proofs.YtpkoikennimonaaGreatDoor
end

section
namespace Go.Proofs.YtpkoikennimonaaGreatDoor
open Go.ChangeShapes Go.WideShapes Go.ChangeAt Go.RowKit Go.Hay
set_option linter.unusedVariables false

set_option maxRecDepth 100000 in
theorem redoAllContract (H : Type) (enc : TypeId × Value → H) (W : World) (base : Nat) (args : Array Value) (ds gs : List (DataW H)) (before : List MemPlace)
    (hval : ∀ (j : Nat) t v, Tryz.f3.params[j]? = some t → args[j]? = some v → Value.okWide Tryz.prog W .any base t v)
    (hW : DataW.Whole enc Tryz.prog Tryz.f3.params.toList Rows.redoAllSpec.vars false W args.toList ds gs before)
    (hsz : (DataW.weightsEach Tryz.prog (Tryz.f3.params.toList ++ (Rows.OpenSpec.upto Rows.redoAllSpec).bare.plain.varTypes Tryz.prog) (ds ++ gs)).all (· ≤ reachBytes) = true)
    (hk : Rows.uptoSmall H (ds ++ gs) = true)
    (hL : laidMetH Tryz.prog Rows.redoAllUptoRow.laid W) :
    Calls Tryz.prog 3 args W fun e W' => ∃ v, e = .returned v ∧ Rows.redoAllSpec.post enc Tryz.prog Tryz.f3 false true false false W args v W' := by
  have hW' := hW
  obtain ⟨p, q, hA0, hV, rfl, hfz, hnd⟩ := hW
  have hA : DataW.TrodAll enc Tryz.prog W 0 (fun _ => true) true Tryz.f3.params.toList args.toList ds p := hA0
  rw [Tryz.params3] at hA hval hsz
  obtain ⟨v0, vs0, d0, ds0, p0, q0, hargs, rfl, rfl, h0, r0⟩ := trodAll_cons hA
  obtain ⟨v1, vs1, d1, ds1, p1, q1, rfl, rfl, rfl, h1, r1⟩ := trodAll_cons r0
  obtain ⟨rfl, rfl, rfl⟩ := trodAll_nil r1
  obtain rfl : args = #[v0, v1] := by cases args; simp_all
  obtain ⟨rfl, rfl⟩ := trodVars_none hV
  obtain ⟨a0, rfl, rfl, rfl, w0⟩ := open_int Tryz.underlying3 (hval 0 3 v0 rfl rfl) h0
  have hb0 := bounds_i64 w0
  obtain ⟨a1, len1, cap1, rfl⟩ := okWide_slice Tryz.underlying22 (hval 1 22 v1 rfl rfl)
  have k1 := h1
  have lt1 : ∀ x ∈ p1, x.block < W.heap.size := by obtain ⟨m, hm⟩ := k1; exact DataW.trod_lt m _ _ _ hm
  obtain ⟨l1, rfl, hs1, hok1, hl1, hm1, hn1, hfit1, hbk1, hcp1⟩ := openOps9 h1
  obtain ⟨hc1, hq1⟩ := hfit1 (List.all_eq_true.2 fun x hx => List.all_eq_true.1 hsz x (by simp [DataW.weightsEach]; first | exact .inl hx | exact .inr hx | exact .inr (.inl hx) | exact .inr (.inr hx) | exact hx))
  have hbk := of_decide_eq_true hk
  simp only [List.append_nil, Rows.uptoBulkAll] at hbk
  clear hA0
  refine (allWalkZ a0 a1 cap1 l1 W (table hL) (by omega) (by omega) hs1 (fun o ho => (hok1 o ho).ok (by have := bulkO_mem ho; omega)) (by omega) (by have := wts_le l1; omega)).mono fun e W' ⟨he, bel⟩ => ?_
  subst he
  exact ⟨_, rfl, _, _, _, [], _, [], hW', trodAll_mk1 (shut_bool Tryz.underlying4 _), (trodAll_cons_mk (shut_int Tryz.underlying3 w0) (trodAll_cons_mk (Below.trod Tryz.laidOut (by kernel_rfl) (of_decide_eq_true (by kernel_rfl)) k1 bel lt1) trodAll_mk0)), rfl, bel.frame _, fun h => by cases h⟩

set_option maxRecDepth 100000 in
theorem redoAllLifted (os : Os) (started : os.Started) (H : Type) (enc : TypeId × Value → H) (F : Stop.Interp) :
    ReturnsInHanded {} Tryz.checked os 3 .any ((Rows.OpenSpec.upto Rows.redoAllSpec).preRow enc Tryz.prog Tryz.f3 Rows.redoAllUptoRow.domain false Rows.redoAllUptoRow.laid) (((Rows.OpenSpec.upto Rows.redoAllSpec).at F).post enc Tryz.prog Tryz.f3 false true false false) := by
  refine returnsInHanded_of_row (C := Tryz.checked) (s := Rows.OpenSpec.upto Rows.redoAllSpec) Tryz.own started (by kernel_rfl) Tryz.func3
    (witness_row_at (enc := enc) (C := Tryz.checked) false ({ World.holding Tryz.prog os ⟨#[], #[], []⟩ with heap := (World.holding Tryz.prog os ⟨#[], #[], []⟩).heap.modify 0 fun
      | .cells _ t frozen => .cells tabCells t frozen
      | o => o }) #[.int .i64 0, .slice none 0 0] rfl (by kernel_rfl) (by kernel_rfl) (by kernel_rfl)
      (OpenSpec.preRow_of_cond (x := ([.lit (.int .i64 0), .nil], [], [])) 8 (by kernel_rfl) (by kernel_rfl) (fun k hk => by cases hk; kernel_rfl) (by kernel_rfl) (laidMet_of_run' 8 (by kernel_rfl) (by kernel_rfl)))) ?_
  intro W base args ds gs before hval hW _ hcond hsz hL _ _
  exact redoAllContract H enc W base args ds gs before hval hW hsz (hcond _ rfl) hL

theorem redoAllSaid : Rows.RedoAllUptoSaid :=
  OpenClaim.holds_of_cond 3 Tryz.f3 rfl rfl rfl rfl rfl rfl rfl ⟨rfl, rfl, rfl, rfl, rfl⟩ rfl rfl rfl rfl rfl (by kernel_rfl) Tryz.func3 (by kernel_rfl)
    (of_decide_eq_true (by kernel_rfl)) (by unfold Func.isWrapper; first | (rw [if_pos (by decide +kernel)]; kernel_rfl) | (rw [if_neg (by decide +kernel)]; exact ⟨rfl, rfl⟩))
    (fun os started H enc _ F => by rw [OpenClaim.pre_eq_preRow]; exact redoAllLifted os started H enc F)

theorem redoAllPlain (f : FuncId) (fn : Func) (hf : Tryz.pinned.checked.prog.funcNamed "hayloft/hayloftlaw09.RedoAll" = some f) (hfn : Tryz.pinned.checked.prog.funcs[f]? = some fn) :
    false = Tryz.pinned.checked.prog.looks [] ∧ ∀ (j : Nat) t, fn.params[j]? = some t → Tryz.pinned.checked.prog.wantsStandIn t = false := by
  obtain rfl : f = 3 := Option.some.inj ((show Tryz.prog.funcNamed "hayloft/hayloftlaw09.RedoAll" = some 3 by kernel_rfl).symm.trans hf) |>.symm
  obtain rfl : fn = Tryz.f3 := (Option.some.inj (Tryz.func3.symm.trans hfn)).symm
  refine ⟨by kernel_rfl, fun j t ht => ?_⟩
  rw [Tryz.params3] at ht
  have hm := Array.mem_of_getElem? ht
  have h2 : t = 3 ∨ t = 22 := by first | (simpa using hm) | (rcases (show t = 3 ∨ t = 22 from by simpa using hm) with h | h <;> simp [h])
  rcases h2 with rfl | rfl
  · exact (show Tryz.prog.wantsStandIn 3 = false by kernel_rfl)
  · exact (show Tryz.prog.wantsStandIn 22 = false by kernel_rfl)

theorem RedoAll_holds : Rows.RedoAllUptoCardSaid :=
  Claim7.holds_tied_plain_at .later [] _ _ _ _ redoAllSaid (fun _ h => by cases h) (by kernel_rfl) (fun _ h => by cases h) redoAllUpto_row_tie rfl ⟨rfl, rfl⟩ (by kernel_rfl) rfl redoAllPlain (by kernel_rfl)
#print axioms RedoAll_holds
end Go.Proofs.YtpkoikennimonaaGreatDoor
end

/- An Append that is refused changes nothing that the log tells, and nothing of its file, as long as the disk lives; where what is given is of bulk at most 1048576. -/
import Derived.Test.YtpkoikennimonaaGreatDoorB22
import Derived.SizedLaws
import Derived.JoinedCond
import Derived.Deep.CondSized
section
namespace Go.Proofs.YtpkoikennimonaaGreatDoor
open Go.RowKit Go.Hay
set_option linter.unusedVariables false
set_option linter.unusedSimpArgs false
variable {Q : Prop}

theorem StZ.xlt {w W : World} {dp : Nat} {lp : Option Addr} {r : RD} {g : RL} {up : Bool} {K s : Nat} {X : List Nat} (h : StZ Q w W dp lp r g up K s X) : ∀ k ∈ X, k < W.heap.size ∧ w.heap.size ≤ k := by
  obtain ⟨mb, xs, d, h1, h2, h3, h4, h5, h6, h7, h8, h9⟩ := h
  exact fun k hk => ⟨(h9 k hk).1, (h9 k hk).2.2.2⟩
/-- The law's world lies in its box; both disks, both logs. -/
structure WZ (Q : Prop) (w W : World) (q dp : Nat) (lp : Option Addr) (r : RD) (g : RL) (up : Bool) (K s : Nat) : Prop where
  box : Bn W q [.pointer (some ⟨dp, 0, none⟩), .pointer lp, .int .i64 r.room, .int .i64 r.steps, .slice r.fa r.l.length r.fc, .bool r.armed, .bool r.dead, .int .i64 r.left, .string ⟨g.nm.toArray⟩, .slice g.a g.l.length g.c, .int .i64 g.sz, .bool up]
  st : StZ Q w W dp lp r g up K s [q]
theorem WZ.keep {w W W' : World} {q dp : Nat} {lp : Option Addr} {r : RD} {g : RL} {up : Bool} {K s : Nat} (h : WZ Q w W q dp lp r g up K s) (k : Kp [] W W') : WZ Q w W' q dp lp r g up K s :=
  ⟨h.box.kept k (h.st.xlt q (by simp)).1, h.st.keep k⟩
theorem WZ.mono {w W : World} {q dp : Nat} {lp : Option Addr} {r : RD} {g : RL} {up : Bool} {K s K' s' : Nat} (h : WZ Q w W q dp lp r g up K s) (hK : K ≤ K') (hs : s ≤ s') : WZ Q w W q dp lp r g up K' s' := ⟨h.box, h.st.mono hK hs⟩
set_option maxHeartbeats 16000000 in
set_option maxRecDepth 100000 in
theorem allWalkZ (room : Int) (a : Option Addr) (c : Nat) (L : List OpZ) (w : World) (ht : Tab w) (hr0 : -9223372036854775808 ≤ room) (hr1 : room ≤ 9223372036854775807) (hs : OpE.See w a L) (hok : ∀ o ∈ L, o.ok w) (hL : L.length ≤ 1048576) (hwt : (L.map OpZ.wt).sum ≤ 300000000) :
    Calls Tryz.prog 3 #[.int .i64 room, .slice a L.length c] w fun e w' => e = .returned (.bool true) ∧ Below w.heap.size w w' := by
  have ht' := hid ht
  have aN := hid (cNew room w (by omega))
  have hcl := hid (fun (j : Nat) (o : OpZ) (ho : L[j]? = some o) (W : World) (k : Kp [] w W) => opAt (hs.keptNew k) ho)
  have hok' := hid hok
  have hwt' := hid hwt
  clear ht hs hok hwt
  go_enter Tryz.func3, Tryz.ntmps3
  go_wp2_with fail
  refine aN.out.mono ?_
  rintro e w1 ⟨dp, mb, rfl, hD1, k1, hdp, hmb⟩
  have aR := hid (cRefNew room w1 (by omega))
  have H1 := hid (And.intro hD1 (And.intro k1 (And.intro hdp hmb)))
  clear aN hD1 k1 hdp hmb
  go_wp2_with fail
  refine aR.out.mono ?_
  rintro e w2 ⟨v2, rfl, r, rfl, hR, hLk, k2, hf⟩
  have hS2 : StZ False w w2 dp none r RL.none false 0 0 [] := StZ.new (by omega) H1.out.1 H1.out.2.1 H1.out.2.2.1 H1.out.2.2.2 hR hLk k2 (fun k hk => (hf k hk).resolve_left (by simp)) none RL.none
  obtain ⟨WA, eWA⟩ : ∃ Y, w2.alloc (.cells #[.pointer none, .pointer none, .int .i64 0, .int .i64 0, .slice none 0 0, .bool false, .bool false, .int .i64 0, .string ⟨#[]⟩, .slice none 0 0, .int .i64 0, .bool false] 34) = Y := ⟨_, rfl⟩
  have kWA : Kp [] w2 WA := by rw [← eWA]; exact (Kp.refl _ _).alloc _
  have zWA : WA.heap.size = w2.heap.size + 1 := by rw [← eWA]; simp
  have xWA : Bn WA (w2.heap.size) [.pointer none, .pointer none, .int .i64 0, .int .i64 0, .slice none 0 0, .bool false, .bool false, .int .i64 0, .string ⟨#[]⟩, .slice none 0 0, .int .i64 0, .bool false] := by rw [← eWA]; exact Bn.new w2 [.pointer none, .pointer none, .int .i64 0, .int .i64 0, .slice none 0 0, .bool false, .bool false, .int .i64 0, .string ⟨#[]⟩, .slice none 0 0, .int .i64 0, .bool false] 34
  obtain ⟨WB, eWB⟩ : ∃ Y, ((((((((((((WA.setCell ⟨w2.heap.size, 0, none⟩ (.pointer (some ⟨dp, 0, none⟩))).setCell ⟨w2.heap.size, 1, none⟩ (.pointer none)).setCell ⟨w2.heap.size, 2, none⟩ (.int .i64 r.room)).setCell ⟨w2.heap.size, 3, none⟩ (.int .i64 r.steps)).setCell ⟨w2.heap.size, 4, none⟩ (.slice r.fa r.l.length r.fc)).setCell ⟨w2.heap.size, 5, none⟩ (.bool r.armed)).setCell ⟨w2.heap.size, 6, none⟩ (.bool r.dead)).setCell ⟨w2.heap.size, 7, none⟩ (.int .i64 r.left)).setCell ⟨w2.heap.size, 8, none⟩ (.string ⟨#[]⟩)).setCell ⟨w2.heap.size, 9, none⟩ (.slice none 0 0)).setCell ⟨w2.heap.size, 10, none⟩ (.int .i64 0)).setCell ⟨w2.heap.size, 11, none⟩ (.bool false)) = Y := ⟨_, rfl⟩
  have kWB : Kp [w2.heap.size] WA WB := by rw [← eWB]; exact (((((((((((((Kp.refl _ _).setCell (by simp) _).setCell (by simp) _).setCell (by simp) _).setCell (by simp) _).setCell (by simp) _).setCell (by simp) _).setCell (by simp) _).setCell (by simp) _).setCell (by simp) _).setCell (by simp) _).setCell (by simp) _).setCell (by simp) _)
  have xWB : Bn WB (w2.heap.size) [.pointer (some ⟨dp, 0, none⟩), .pointer none, .int .i64 r.room, .int .i64 r.steps, .slice r.fa r.l.length r.fc, .bool r.armed, .bool r.dead, .int .i64 r.left, .string ⟨#[]⟩, .slice none 0 0, .int .i64 0, .bool false] := by rw [← eWB]; exact ((((((((((((xWA.set 0 (by simp) (.pointer (some ⟨dp, 0, none⟩))).set 1 (by simp) (.pointer none)).set 2 (by simp) (.int .i64 r.room)).set 3 (by simp) (.int .i64 r.steps)).set 4 (by simp) (.slice r.fa r.l.length r.fc)).set 5 (by simp) (.bool r.armed)).set 6 (by simp) (.bool r.dead)).set 7 (by simp) (.int .i64 r.left)).set 8 (by simp) (.string ⟨#[]⟩)).set 9 (by simp) (.slice none 0 0)).set 10 (by simp) (.int .i64 0)).set 11 (by simp) (.bool false))
  have zWB := kWB.size
  have ma0 := xWA.get 0 _ rfl; have ma1 := xWA.get 1 _ rfl; have ma2 := xWA.get 2 _ rfl; have ma3 := xWA.get 3 _ rfl; have ma4 := xWA.get 4 _ rfl; have ma5 := xWA.get 5 _ rfl; have ma6 := xWA.get 6 _ rfl; have ma7 := xWA.get 7 _ rfl; have ma8 := xWA.get 8 _ rfl; have ma9 := xWA.get 9 _ rfl; have ma10 := xWA.get 10 _ rfl; have ma11 := xWA.get 11 _ rfl
  have mf0 := xWA.free 0; have mf1 := xWA.free 1; have mf2 := xWA.free 2; have mf3 := xWA.free 3; have mf4 := xWA.free 4; have mf5 := xWA.free 5; have mf6 := xWA.free 6; have mf7 := xWA.free 7; have mf8 := xWA.free 8; have mf9 := xWA.free 9; have mf10 := xWA.free 10; have mf11 := xWA.free 11
  have pc0 := xWB.get 0 _ rfl; have pc1 := xWB.get 1 _ rfl; have pc2 := xWB.get 2 _ rfl; have pc3 := xWB.get 3 _ rfl; have pc4 := xWB.get 4 _ rfl; have pc5 := xWB.get 5 _ rfl; have pc6 := xWB.get 6 _ rfl; have pc7 := xWB.get 7 _ rfl; have pc8 := xWB.get 8 _ rfl; have pc9 := xWB.get 9 _ rfl; have pc10 := xWB.get 10 _ rfl; have pc11 := xWB.get 11 _ rfl
  have hSB : StZ False w WB dp none r RL.none false 0 0 [w2.heap.size] := (hS2.keepS (X' := [w2.heap.size]) kWA (by simp) (fun j hj => by simp at hj; subst hj; exact ⟨.inr (Nat.le_refl _), by omega⟩)).keepS (X' := [w2.heap.size]) kWB (by simp) (fun j hj => ⟨.inl hj, by simp at hj; subst hj; omega⟩)
  have aV := hid (cAliveQ WB (ht'.out.kept hSB.kp (by simp)))
  have HB := hid (And.intro hSB xWB)
  clear aR H1 hR hLk k2 hf hS2 kWA xWA kWB xWB hSB
  obtain ⟨room2, steps2, fa2, fc2, lx2, armed2, dead2, left2⟩ := r
  simp only [RD.v, RL.none, List.length_nil] at *
  go_wp2_with fail
  refine aV.out.mono ?_
  rintro e w3 ⟨rfl, k3⟩
  have z3 := k3.size
  have x3 := HB.out.2.kept k3 (by omega)
  have hS3 := HB.out.1.keep k3
  have aS := hid (cStep3 (ub := false) hS3 ⟨3, 0, none, 0, [], none, 0, []⟩ rfl (by omega) (by omega))
  obtain ⟨q, hq⟩ : ∃ q, w2.heap.size = q := ⟨_, rfl⟩
  clear ma0 ma1 ma2 ma3 ma4 ma5 ma6 ma7 ma8 ma9 ma10 ma11 mf0 mf1 mf2 mf3 mf4 mf5 mf6 mf7 mf8 mf9 mf10 mf11 pc0 pc1 pc2 pc3 pc4 pc5 pc6 pc7 pc8 pc9 pc10 pc11 eWA eWB zWA zWB aV
  rw [hq] at aS x3 hS3 HB
  rw [hq]
  clear hq HB
  have pc0 := x3.get 0 _ rfl; have pc1 := x3.get 1 _ rfl; have pc2 := x3.get 2 _ rfl; have pc3 := x3.get 3 _ rfl; have pc4 := x3.get 4 _ rfl; have pc5 := x3.get 5 _ rfl; have pc6 := x3.get 6 _ rfl; have pc7 := x3.get 7 _ rfl; have pc8 := x3.get 8 _ rfl; have pc9 := x3.get 9 _ rfl; have pc10 := x3.get 10 _ rfl; have pc11 := x3.get 11 _ rfl
  have hq3 := hS3.xlt q (by simp)
  have X3 := hid x3
  clear x3 hS3 k3 z3
  simp only [LWv, OpZ.v, RL.none, List.length_nil] at *
  go_wp2_with fail
  refine aS.out.mono ?_
  rintro e w4 ⟨d4, l4, r4, g4, u4, rfl, hS4, S4, k4, hS4x⟩
  have y4 := X3.out.keptS k4 (fun hm => (hS4x _ hm).1 (by simp)) hq3.1
  obtain ⟨w5, e5, x5, k5⟩ := y4.set12 rfl (.pointer (some ⟨d4, 0, none⟩)) (.pointer l4) (.int .i64 r4.room) (.int .i64 r4.steps) (.slice r4.fa r4.l.length r4.fc) (.bool r4.armed) (.bool r4.dead) (.int .i64 r4.left) (.string ⟨g4.nm.toArray⟩) (.slice g4.a g4.l.length g4.c) (.int .i64 g4.sz) (.bool u4)
  have z4 := k4.size
  have z5 := k5.size
  have HW : Hid (WZ False w w5 q d4 l4 r4 g4 u4 0 3) := ⟨x5, hS4.keepS (X' := [q]) k5 (by simp) (fun j hj => ⟨.inl hj, by simp at hj; subst hj; omega⟩)⟩
  have va0 := y4.get 0 _ rfl; have va1 := y4.get 1 _ rfl; have va2 := y4.get 2 _ rfl; have va3 := y4.get 3 _ rfl; have va4 := y4.get 4 _ rfl; have va5 := y4.get 5 _ rfl; have va6 := y4.get 6 _ rfl; have va7 := y4.get 7 _ rfl; have va8 := y4.get 8 _ rfl; have va9 := y4.get 9 _ rfl; have va10 := y4.get 10 _ rfl; have va11 := y4.get 11 _ rfl
  have vf0 := y4.free 0; have vf1 := y4.free 1; have vf2 := y4.free 2; have vf3 := y4.free 3; have vf4 := y4.free 4; have vf5 := y4.free 5; have vf6 := y4.free 6; have vf7 := y4.free 7; have vf8 := y4.free 8; have vf9 := y4.free 9; have vf10 := y4.free 10; have vf11 := y4.free 11
  have hqw := hid hq3.2
  clear x5 k5 y4 hS4 k4 hS4x aS X3 z4 z5 hq3 pc0 pc1 pc2 pc3 pc4 pc5 pc6 pc7 pc8 pc9 pc10 pc11
  have HW0 := HW
  clear HW
  have E5 := e5
  have HI : Hid (∃ (d : Nat) (l : Option Addr) (r : RD) (g : RL) (u : Bool), WZ False w w5 q d l r g u 0 3) := ⟨_, _, _, _, _, HW0.out⟩
  clear HW0 E5
  obtain ⟨room4, steps4, fa4, fc4, lx4, armed4, dead4, left4⟩ := r4
  obtain ⟨gn4, ga4, gc4, gl4, gs4⟩ := g4
  simp only [LWv] at *
  go_wp2_with fail
  clear va0 va1 va2 va3 va4 va5 va6 va7 va8 va9 va10 va11 vf0 vf1 vf2 vf3 vf4 vf5 vf6 vf7 vf8 vf9 vf10 vf11 e5
  go_loopw [6, 31] (fun _ i wn => ∃ j : Nat, j ≤ L.length ∧ i = .int .i64 j ∧ Hid (∃ (d : Nat) (l : Option Addr) (r : RD) (g : RL) (u : Bool), WZ False w wn q d l r g u ((L.take j).map OpZ.wt).sum (3 + 3 * j))) (fun _ i _ => L.length - (intOf i).toNat)
  case atStart => exact ⟨0, Nat.zero_le _, rfl, by simpa using HI⟩
  case round =>
    obtain ⟨j, hj, rfl, HJ⟩ := hrel
    obtain ⟨d, l, r, g, u, hW⟩ := HJ.out
    have hq := hW.st.xlt q (by simp)
    have hKj := wts_take L j
    have hK := hwt'.out
    clear HI HJ
    by_cases hlt : j < L.length
    · have dj1 : (j : Int) < (L.length : Int) := by omega
      have dj0 : (0 : Int) ≤ (j : Int) := by omega
      have dj7 : (-9223372036854775808 : Int) ≤ (j : Int) + 1 := by omega
      have dj8 : (j : Int) + 1 ≤ 9223372036854775807 := by omega
      have hKs := wts_succ L j hlt
      have hKs2 := wts_take L (j + 1)
      obtain ⟨o, hoe⟩ : ∃ o, L[j] = o := ⟨_, rfl⟩
      have hoj : L[j]? = some o := by rw [← hoe]; simp [hlt]
      rw [hoe] at hKs
      have hoo := hok'.out o (List.mem_of_getElem? hoj)
      obtain ⟨gq, fq, ea, x0, x1, x2, x3⟩ := hcl.out j o hoj _ hW.st.kp
      subst ea
      obtain ⟨KJ, hKJ⟩ : ∃ n, ((L.take j).map OpZ.wt).sum = n := ⟨_, rfl⟩
      obtain ⟨KN, hKN⟩ : ∃ n, ((L.take (j + 1)).map OpZ.wt).sum = n := ⟨_, rfl⟩
      rw [hKJ] at hKs hKj hW
      rw [hKN] at hKs hKs2
      obtain ⟨WA, eWA⟩ : ∃ Y, wr.alloc (.cells #[.int .i64 0, .int .i64 0, .slice none 0 0, .slice none 0 0] 40) = Y := ⟨_, rfl⟩
      have kWA : Kp [] wr WA := by rw [← eWA]; exact (Kp.refl _ _).alloc _
      have zWA : WA.heap.size = wr.heap.size + 1 := by rw [← eWA]; simp
      have xWA : Bn WA (wr.heap.size) [.int .i64 0, .int .i64 0, .slice none 0 0, .slice none 0 0] := by rw [← eWA]; exact Bn.new wr [.int .i64 0, .int .i64 0, .slice none 0 0, .slice none 0 0] 40
      obtain ⟨WB, eWB⟩ : ∃ Y, ((((WA.setCell ⟨wr.heap.size, 0, none⟩ (.int .i64 o.kind)).setCell ⟨wr.heap.size, 1, none⟩ (.int .i64 o.n)).setCell ⟨wr.heap.size, 2, none⟩ (.slice o.a o.l.length o.c)).setCell ⟨wr.heap.size, 3, none⟩ (.slice o.ka o.ks.length o.kc)) = Y := ⟨_, rfl⟩
      have kWB : Kp [wr.heap.size] WA WB := by rw [← eWB]; exact (((((Kp.refl _ _).setCell (by simp) _).setCell (by simp) _).setCell (by simp) _).setCell (by simp) _)
      have xWB : Bn WB (wr.heap.size) [.int .i64 o.kind, .int .i64 o.n, .slice o.a o.l.length o.c, .slice o.ka o.ks.length o.kc] := by rw [← eWB]; exact ((((xWA.set 0 (by simp) (.int .i64 o.kind)).set 1 (by simp) (.int .i64 o.n)).set 2 (by simp) (.slice o.a o.l.length o.c)).set 3 (by simp) (.slice o.ka o.ks.length o.kc))
      have zWB := kWB.size
      have ma0 := xWA.get 0 _ rfl; have ma1 := xWA.get 1 _ rfl; have ma2 := xWA.get 2 _ rfl; have ma3 := xWA.get 3 _ rfl
      have mf0 := xWA.free 0; have mf1 := xWA.free 1; have mf2 := xWA.free 2; have mf3 := xWA.free 3
      have oc0 := xWB.get 0 _ rfl; have oc1 := xWB.get 1 _ rfl; have oc2 := xWB.get 2 _ rfl; have oc3 := xWB.get 3 _ rfl
      have hSB := (hW.st.keepS (X' := [wr.heap.size, q]) kWA (by simp) (fun j hj => by
        simp at hj
        rcases hj with rfl | rfl
        · exact ⟨.inr (Nat.le_refl _), by omega⟩
        · exact ⟨.inl (by simp), by omega⟩)).keepS (X' := [q]) kWB (by simp) (fun j hj => by simp at hj; subst hj; exact ⟨.inl (by simp), by omega⟩)
      have xq := (hW.box.kept kWA hq.1).keptS kWB (by simp; omega) (by omega)
      have aS := hid (cStepZ hSB o hoo (by omega) (by omega) ht'.out (.inr rfl))
      have pc0 := xq.get 0 _ rfl; have pc1 := xq.get 1 _ rfl; have pc2 := xq.get 2 _ rfl; have pc3 := xq.get 3 _ rfl; have pc4 := xq.get 4 _ rfl; have pc5 := xq.get 5 _ rfl; have pc6 := xq.get 6 _ rfl; have pc7 := xq.get 7 _ rfl; have pc8 := xq.get 8 _ rfl; have pc9 := xq.get 9 _ rfl; have pc10 := xq.get 10 _ rfl; have pc11 := xq.get 11 _ rfl
      have XQ := hid xq
      have hqB : q < WB.heap.size := by omega
      have HF := hid (And.intro hKs (And.intro hKs2 (And.intro hKN hK)))
      clear hSB xq kWA kWB xWA xWB hW hoo hoj hoe hKs hKj hKs2 hK hKN hKJ
      obtain ⟨kind, on, oa, occ, ol, oka, okc, oks⟩ := o
      obtain ⟨room1, steps1, fa1, fc1, lx1, armed1, dead1, left1⟩ := r
      obtain ⟨gn1, ga1, gc1, gl1, gs1⟩ := g
      simp only [LWv, OpZ.v] at *
      go_wp2_with fail
      refine aS.out.mono ?_
      rintro e w4 ⟨d4, l4, r4, g4, u4, rfl, hS4, S4, k4, hS4x⟩
      have y4 := XQ.out.keptS k4 (fun hm => (hS4x _ hm).1 (by simp)) hqB
      obtain ⟨w5, e5, x5, k5⟩ := y4.set12 rfl (.pointer (some ⟨d4, 0, none⟩)) (.pointer l4) (.int .i64 r4.room) (.int .i64 r4.steps) (.slice r4.fa r4.l.length r4.fc) (.bool r4.armed) (.bool r4.dead) (.int .i64 r4.left) (.string ⟨g4.nm.toArray⟩) (.slice g4.a g4.l.length g4.c) (.int .i64 g4.sz) (.bool u4)
      have z4 := k4.size
      have z5 := k5.size
      have hW5 : WZ False w w5 q d4 l4 r4 g4 u4 KN (3 + 3 * (j + 1)) := ⟨x5, (hS4.keepS (X' := [q]) k5 (by simp) (fun j hj => ⟨.inl hj, by simp at hj; subst hj; omega⟩)).mono (by have := HF.out.1; omega) (by omega)⟩
      have aF := hid (hW5.st.files (Kp.refl _ _) (by have := HF.out.2.1; have := HF.out.2.2.2; omega))
      have va0 := y4.get 0 _ rfl; have va1 := y4.get 1 _ rfl; have va2 := y4.get 2 _ rfl; have va3 := y4.get 3 _ rfl; have va4 := y4.get 4 _ rfl; have va5 := y4.get 5 _ rfl; have va6 := y4.get 6 _ rfl; have va7 := y4.get 7 _ rfl; have va8 := y4.get 8 _ rfl; have va9 := y4.get 9 _ rfl; have va10 := y4.get 10 _ rfl; have va11 := y4.get 11 _ rfl
      have vf0 := y4.free 0; have vf1 := y4.free 1; have vf2 := y4.free 2; have vf3 := y4.free 3; have vf4 := y4.free 4; have vf5 := y4.free 5; have vf6 := y4.free 6; have vf7 := y4.free 7; have vf8 := y4.free 8; have vf9 := y4.free 9; have vf10 := y4.free 10; have vf11 := y4.free 11
      have pd0 := x5.get 0 _ rfl; have pd1 := x5.get 1 _ rfl; have pd2 := x5.get 2 _ rfl; have pd3 := x5.get 3 _ rfl; have pd4 := x5.get 4 _ rfl; have pd5 := x5.get 5 _ rfl; have pd6 := x5.get 6 _ rfl; have pd7 := x5.get 7 _ rfl; have pd8 := x5.get 8 _ rfl; have pd9 := x5.get 9 _ rfl; have pd10 := x5.get 10 _ rfl; have pd11 := x5.get 11 _ rfl
      have HW5 := hid hW5
      clear x5 k5 y4 hS4 k4 hS4x aS XQ z4 z5 hW5 pc0 pc1 pc2 pc3 pc4 pc5 pc6 pc7 pc8 pc9 pc10 pc11 ma0 ma1 ma2 ma3 mf0 mf1 mf2 mf3 oc0 oc1 oc2 oc3 eWA eWB zWA zWB x0 x1 x2 x3
      obtain ⟨room4, steps4, fa4, fc4, lx4, armed4, dead4, left4⟩ := r4
      obtain ⟨gn4, ga4, gc4, gl4, gs4⟩ := g4
      simp only [LWv] at *
      go_wp2_with fail
      refine aF.out.mono ?_
      rintro e w6 ⟨rfl, k6⟩
      have H6 : Hid (∃ (d : Nat) (l : Option Addr) (r : RD) (g : RL) (u : Bool), WZ False w w6 q d l r g u ((L.take (j + 1)).map OpZ.wt).sum (3 + 3 * (j + 1))) := by
        rw [HF.out.2.2.1]
        exact ⟨_, _, _, _, _, HW5.out.keep k6⟩
      clear HW5 k6 aF e5 HF va0 va1 va2 va3 va4 va5 va6 va7 va8 va9 va10 va11 vf0 vf1 vf2 vf3 vf4 vf5 vf6 vf7 vf8 vf9 vf10 vf11 pd0 pd1 pd2 pd3 pd4 pd5 pd6 pd7 pd8 pd9 pd10 pd11
      go_wp2_with fail
      exact ⟨⟨j + 1, by omega, by go_num, H6⟩, by simp [intOf]; omega⟩
    · obtain rfl : j = L.length := by omega
      have aS := hid (cStepZ hW.st ⟨1, 0, none, 0, [], none, 0, []⟩ ⟨by simp, by simp, .inl rfl, by simp, by simp, by simp, .inl rfl, by simp, by simp, by simp⟩ (by omega) (by omega) ht'.out (.inr rfl))
      have pc0 := hW.box.get 0 _ rfl; have pc1 := hW.box.get 1 _ rfl; have pc2 := hW.box.get 2 _ rfl; have pc3 := hW.box.get 3 _ rfl; have pc4 := hW.box.get 4 _ rfl; have pc5 := hW.box.get 5 _ rfl; have pc6 := hW.box.get 6 _ rfl; have pc7 := hW.box.get 7 _ rfl; have pc8 := hW.box.get 8 _ rfl; have pc9 := hW.box.get 9 _ rfl; have pc10 := hW.box.get 10 _ rfl; have pc11 := hW.box.get 11 _ rfl
      have K0 := hid hW.st.kp
      clear hW hKj hK hq
      obtain ⟨room1, steps1, fa1, fc1, lx1, armed1, dead1, left1⟩ := r
      obtain ⟨gn1, ga1, gc1, gl1, gs1⟩ := g
      simp only [LWv, OpZ.v, List.length_nil] at *
      go_wp2_with fail
      refine aS.out.mono ?_
      rintro e w4 ⟨d4, l4, r4, g4, u4, rfl, hS4, S4, k4, hS4x⟩
      have K4 := hid hS4.kp
      clear hS4 k4 hS4x aS pc0 pc1 pc2 pc3 pc4 pc5 pc6 pc7 pc8 pc9 pc10 pc11
      obtain ⟨room4, steps4, fa4, fc4, lx4, armed4, dead4, left4⟩ := r4
      obtain ⟨gn4, ga4, gc4, gl4, gs4⟩ := g4
      simp only [LWv] at *
      go_wp2_with fail
      go_ret
      exact ⟨rfl, K4.out.below⟩
end Go.Proofs.YtpkoikennimonaaGreatDoor
end

section
namespace Go.Proofs.YtpkoikennimonaaGreatDoor
open Go.RowKit Go.Hay
set_option linter.unusedVariables false
set_option linter.unusedSimpArgs false
variable {Q : Prop}

/-- The log and the disk of the law's world. -/
theorem StZ.ld {w W : World} {dp : Nat} {lp : Option Addr} {r : RD} {g : RL} {K s : Nat} {X : List Nat} (h : StZ Q w W dp lp r g true K s X) :
    ∃ (p mb : Nat) (xs : List Ent) (d : Dk) (B : Nat → Prop) (v : Value) (M : List (List UInt8)) (sz : Int), lp = some ⟨p, 0, none⟩ ∧ LD w W p dp mb xs d nmZ B v M sz ∧ OneQ Q K s d ∧ (M.length ≤ K ∧ 0 ≤ sz ∧ sz ≤ K ∧ ∀ x ∈ M, x.length ≤ 140737488351232) ∧ ∀ k ∈ X, k < W.heap.size ∧ k ∉ p :: own v ++ foot dp mb xs := by
  obtain ⟨mb, xs, d, h1, h2, h3, h4, h5, h6, h7, h8, h9⟩ := h
  obtain ⟨p, B, v, M, sz, rfl, l2, l3, l4, l5, l6, l7, l8, l9, l10, l11⟩ := h8 rfl
  refine ⟨p, mb, xs, d, B, v, M, sz, rfl, ⟨l2, h1, l3, h6, l4, l5, h5⟩, h2, l10, fun k hk => ⟨(h9 k hk).1, fun hm => ?_⟩⟩
  simp only [List.cons_append, List.mem_cons, List.mem_append] at hm
  rcases hm with e | e | e
  · exact (l11 k hk).2.1 e
  · exact (l11 k hk).1 (l2.row.from k e)
  · exact (h9 k hk).2.1 e
/-- A list of records as it was told: new since N. -/
structure Told (N : Nat) (W : World) (a : Option Addr) (c : Nat) (l : List Bs) (M : List (List UInt8)) : Prop where
  see : BsE.See W a l
  ok : ∀ y ∈ l, y.ok W
  new : ∀ k ∈ blk a, N ≤ k
  nw : ∀ y ∈ l, ∀ k ∈ blk y.a, N ≤ k
  cap : l.length ≤ c
  bs : bsl l = M
  ad : (a = none ∧ l = [] ∧ c = 0) ∨ ∃ g o, a = some ⟨g, o, none⟩
theorem Told.kept {N : Nat} {W W' : World} {a : Option Addr} {c : Nat} {l : List Bs} {M : List (List UInt8)} (h : Told N W a c l M) {S : List Nat} (k : Kp S W W') (hS : ∀ j ∈ S, j < N) : Told N W' a c l M :=
  ⟨h.see.kept k (fun _ j hj hm => by have := h.new j hj; have := hS j hm; omega), fun y hy => (h.ok y hy).kept k (fun _ j hj hm => by have := h.nw y hy j hj; have := hS j hm; omega), h.new, h.nw, h.cap, h.bs, h.ad⟩
theorem LD.gone {w0 w : World} {p dp mb : Nat} {xs : List Ent} {d : Dk} {nm : List UInt8} {B : Nat → Prop} {v : Value} {L : List (List UInt8)} {sz : Int} (h : LD w0 w p dp mb xs d nm B v L sz) (hl : L.length ≤ 4000000000000) (hb : ∀ x ∈ L, x.length ≤ 140737488351232) :
    Calls Tryz.prog 10 #[.pointer (some ⟨p, 0, none⟩)] w fun e w' => ∃ (a : Option Addr) (c : Nat) (l : List Bs), e = .returned (.slice a l.length c) ∧ Told w.heap.size w' a c l L ∧ Kp [] w w' := by
  refine (cGoneQ h.log hl (fun x hx => by have := hb x hx; omega)).mono ?_
  rintro e w' ⟨v', rfl, hr, k⟩
  have hfr := hr.from
  have hcp : ∀ a n c, v' = .slice a n c → n ≤ c := fun a n c e => by
    obtain ⟨vs, _, hs, _⟩ := hr
    subst e
    rcases hs with ⟨e1, e2⟩ | ⟨g, o, cap, e1, e2⟩
    · cases e1; simp
    · cases e1; omega
  have had : ∀ a n c, v' = .slice a n c → (a = none ∧ n = 0 ∧ c = 0) ∨ ∃ g o, a = some ⟨g, o, none⟩ := fun a n c e => by
    obtain ⟨vs, _, hs, _⟩ := hr
    subst e
    rcases hs with ⟨e1, e2⟩ | ⟨g, o, cap, e1, e2⟩
    · cases e1; exact .inl ⟨rfl, rfl, rfl⟩
    · cases e1; exact .inr ⟨g, o, rfl⟩
  obtain ⟨a, c, l, rfl, h1, h2, h3⟩ := hr.bs
  exact ⟨a, c, l, rfl, ⟨h1, fun y hy => (h2 y hy).1, fun j hj => hfr j (by cases a with | none => simp [blk] at hj | some b => simpa [blk, Go.Hay.own, Value.ownBlock] using hj), fun y hy j hj => (h2 y hy).2 j hj, hcp _ _ _ rfl, h3, (had _ _ _ rfl).imp (fun ⟨e1, e2, e3⟩ => ⟨e1, List.length_eq_zero_iff.1 e2, e3⟩) id⟩, k⟩
/-- What was read of a file, new since N. -/
structure RdB (N : Nat) (W : World) (a : Option Addr) (bs : List UInt8) : Prop where
  see : Sees W a bs
  new : ∀ k ∈ blk a, N ≤ k
theorem RdB.kept {N : Nat} {W W' : World} {a : Option Addr} {bs : List UInt8} (h : RdB N W a bs) {S : List Nat} (k : Kp S W W') (hS : ∀ j ∈ S, j < N) : RdB N W' a bs :=
  ⟨h.see.kept' k (fun _ j hj hm => by have := h.new j hj; have := hS j hm; omega), h.new⟩
theorem LD.read {w0 w : World} {p dp mb : Nat} {xs : List Ent} {d : Dk} {nm : List UInt8} {B : Nat → Prop} {v : Value} {L : List (List UInt8)} {sz : Int} (h : LD w0 w p dp mb xs d nm B v L sz) (hB : Small d) (hk : nm.length ≤ maxLen) :
    Calls Tryz.prog 12 #[.pointer (some ⟨dp, 0, none⟩), .string ⟨nm.toArray⟩] w fun e w' => ∃ (a : Option Addr) (c : Nat) (b : Bool), e = .returned (.tuple #[.slice a (fileOf d.files nm).bytes.length c, .bool b]) ∧ RdB w.heap.size w' a (fileOf d.files nm).bytes ∧ Kp [] w w' := by
  refine (cRead h.disk hB nm hk).mono ?_
  intro e w' hP
  unfold fileOf
  cases hf : lookG Fl.name nm d.files with
  | none =>
    rw [hf] at hP
    obtain ⟨rfl, rfl⟩ := hP
    exact ⟨none, 0, false, rfl, ⟨.inl rfl, by simp [blk]⟩, Kp.refl _ _⟩
  | some f =>
    rw [hf] at hP
    obtain ⟨a, c, rfl, hr, k, hn⟩ := hP
    obtain ⟨a', c', e, hs, _⟩ := hr.sees
    cases e
    exact ⟨a, c, true, rfl, ⟨hs, hn⟩, k⟩
theorem LDturns {w0 w : World} {p dp mb : Nat} {xs : List Ent} {d : Dk} {nm : List UInt8} {B : Nat → Prop} {v : Value} {L : List (List UInt8)} {sz : Int} (h : LD w0 w p dp mb xs d nm B v L sz) : ∀ j ∈ p :: own v ++ foot dp mb xs, j < w.heap.size := fun j hj => by
  simp only [List.cons_append, List.mem_cons, List.mem_append] at hj
  rcases hj with rfl | hj | hj
  · exact h.log.box.lt
  · exact (h.lb j (h.log.row.from j hj)).2
  · exact h.disk.lt j hj
theorem frmR_le (R : List (List UInt8)) : (frmR R).1.length ≤ 16777300 := by
  unfold frmR
  split
  · rw [frameB_length]; omega
  · simp
/-- Same, of two lists that were told. -/
theorem Told.same {N N' : Nat} {W : World} {a a' : Option Addr} {c c' : Nat} {l l' : List Bs} {M M' : List (List UInt8)} (h : Told N W a c l M) (h' : Told N' W a' c' l' M') (hp : ∃ R, M = M' ++ R) (hl : M.length ≤ 6000000000000) :
    l'.length ≤ l.length ∧ Calls Tryz.prog 15 #[.slice a l'.length c, .slice a' l'.length c'] W fun e w' => e = .returned (.bool true) ∧ Kp [] W w' := by
  obtain ⟨R, rfl⟩ := hp
  have e1 : l.length = M'.length + R.length := by rw [← bsl_len, h.bs, List.length_append]
  have e2 : l'.length = M'.length := by rw [← bsl_len, h'.bs]
  rw [List.length_append] at hl
  have e3 : (l.take l'.length).length = l'.length := by rw [List.length_take]; omega
  have hS := cSameQ a a' c c' (l.take l'.length) l' W (h.see.front _) h'.see (fun y hy => h.ok y (List.mem_of_mem_take hy)) h'.ok (by omega) (by omega)
  have e4 : bsl (l.take l'.length) = bsl l' := by
    have : bsl (l.take l'.length) = (bsl l).take l'.length := by simp [bsl, List.map_take]
    rw [this, h.bs, h'.bs, e2]
    simp
  rw [e3, decide_eq_true e4] at hS
  exact ⟨by omega, hS⟩
end Go.Proofs.YtpkoikennimonaaGreatDoor
end

section
namespace Go.Proofs.YtpkoikennimonaaGreatDoor
open Go.RowKit Go.Hay
set_option linter.unusedVariables false
set_option linter.unusedSimpArgs false
variable {Q : Prop}

set_option maxHeartbeats 16000000 in
set_option maxRecDepth 100000 in
theorem refWalkZ (room : Int) (a : Option Addr) (c : Nat) (L : List OpZ) (ra : Option Addr) (rc : Nat) (R : List Bs) (w : World) (ht : Tab w) (hr0 : -9223372036854775808 ≤ room) (hr1 : room ≤ 9223372036854775807) (hs : OpE.See w a L) (hok : ∀ o ∈ L, o.ok w) (hL : L.length ≤ 1048576) (hRg : BsE.See w ra R ∧ (∀ y ∈ R, y.ok w) ∧ R.length ≤ 1048576 ∧ ∀ y ∈ R, y.bs.length ≤ 1048576) (hwt : (L.map OpZ.wt).sum ≤ 300000000) :
    Calls Tryz.prog 4 #[.int .i64 room, .slice a L.length c, .slice ra R.length rc] w fun e w' => e = .returned (.bool true) ∧ Below w.heap.size w w' := by
  have ht' := hid ht
  have aN := hid (cNew room w (by omega))
  have hcl := hid (fun (j : Nat) (o : OpZ) (ho : L[j]? = some o) (W : World) (k : Kp [] w W) => opAt (hs.keptNew k) ho)
  have hok' := hid hok
  have hwt' := hid hwt
  have hR' := hid hRg
  clear ht hs hok hwt hRg
  go_enter Tryz.func4, Tryz.ntmps4
  go_wp2_with fail
  refine aN.out.mono ?_
  rintro e w1 ⟨dp, mb, rfl, hD1, k1, hdp, hmb⟩
  have aR := hid (cRefNew room w1 (by omega))
  have H1 := hid (And.intro hD1 (And.intro k1 (And.intro hdp hmb)))
  clear aN hD1 k1 hdp hmb
  go_wp2_with fail
  refine aR.out.mono ?_
  rintro e w2 ⟨v2, rfl, r, rfl, hR, hLk, k2, hf⟩
  have hS2 : StZ True w w2 dp none r RL.none false 0 0 [] := StZ.new (by omega) H1.out.1 H1.out.2.1 H1.out.2.2.1 H1.out.2.2.2 hR hLk k2 (fun k hk => (hf k hk).resolve_left (by simp)) none RL.none
  obtain ⟨WA, eWA⟩ : ∃ Y, w2.alloc (.cells #[.pointer none, .pointer none, .int .i64 0, .int .i64 0, .slice none 0 0, .bool false, .bool false, .int .i64 0, .string ⟨#[]⟩, .slice none 0 0, .int .i64 0, .bool false] 34) = Y := ⟨_, rfl⟩
  have kWA : Kp [] w2 WA := by rw [← eWA]; exact (Kp.refl _ _).alloc _
  have zWA : WA.heap.size = w2.heap.size + 1 := by rw [← eWA]; simp
  have xWA : Bn WA (w2.heap.size) [.pointer none, .pointer none, .int .i64 0, .int .i64 0, .slice none 0 0, .bool false, .bool false, .int .i64 0, .string ⟨#[]⟩, .slice none 0 0, .int .i64 0, .bool false] := by rw [← eWA]; exact Bn.new w2 [.pointer none, .pointer none, .int .i64 0, .int .i64 0, .slice none 0 0, .bool false, .bool false, .int .i64 0, .string ⟨#[]⟩, .slice none 0 0, .int .i64 0, .bool false] 34
  obtain ⟨WB, eWB⟩ : ∃ Y, ((((((((((((WA.setCell ⟨w2.heap.size, 0, none⟩ (.pointer (some ⟨dp, 0, none⟩))).setCell ⟨w2.heap.size, 1, none⟩ (.pointer none)).setCell ⟨w2.heap.size, 2, none⟩ (.int .i64 r.room)).setCell ⟨w2.heap.size, 3, none⟩ (.int .i64 r.steps)).setCell ⟨w2.heap.size, 4, none⟩ (.slice r.fa r.l.length r.fc)).setCell ⟨w2.heap.size, 5, none⟩ (.bool r.armed)).setCell ⟨w2.heap.size, 6, none⟩ (.bool r.dead)).setCell ⟨w2.heap.size, 7, none⟩ (.int .i64 r.left)).setCell ⟨w2.heap.size, 8, none⟩ (.string ⟨#[]⟩)).setCell ⟨w2.heap.size, 9, none⟩ (.slice none 0 0)).setCell ⟨w2.heap.size, 10, none⟩ (.int .i64 0)).setCell ⟨w2.heap.size, 11, none⟩ (.bool false)) = Y := ⟨_, rfl⟩
  have kWB : Kp [w2.heap.size] WA WB := by rw [← eWB]; exact (((((((((((((Kp.refl _ _).setCell (by simp) _).setCell (by simp) _).setCell (by simp) _).setCell (by simp) _).setCell (by simp) _).setCell (by simp) _).setCell (by simp) _).setCell (by simp) _).setCell (by simp) _).setCell (by simp) _).setCell (by simp) _).setCell (by simp) _)
  have xWB : Bn WB (w2.heap.size) [.pointer (some ⟨dp, 0, none⟩), .pointer none, .int .i64 r.room, .int .i64 r.steps, .slice r.fa r.l.length r.fc, .bool r.armed, .bool r.dead, .int .i64 r.left, .string ⟨#[]⟩, .slice none 0 0, .int .i64 0, .bool false] := by rw [← eWB]; exact ((((((((((((xWA.set 0 (by simp) (.pointer (some ⟨dp, 0, none⟩))).set 1 (by simp) (.pointer none)).set 2 (by simp) (.int .i64 r.room)).set 3 (by simp) (.int .i64 r.steps)).set 4 (by simp) (.slice r.fa r.l.length r.fc)).set 5 (by simp) (.bool r.armed)).set 6 (by simp) (.bool r.dead)).set 7 (by simp) (.int .i64 r.left)).set 8 (by simp) (.string ⟨#[]⟩)).set 9 (by simp) (.slice none 0 0)).set 10 (by simp) (.int .i64 0)).set 11 (by simp) (.bool false))
  have zWB := kWB.size
  have ma0 := xWA.get 0 _ rfl; have ma1 := xWA.get 1 _ rfl; have ma2 := xWA.get 2 _ rfl; have ma3 := xWA.get 3 _ rfl; have ma4 := xWA.get 4 _ rfl; have ma5 := xWA.get 5 _ rfl; have ma6 := xWA.get 6 _ rfl; have ma7 := xWA.get 7 _ rfl; have ma8 := xWA.get 8 _ rfl; have ma9 := xWA.get 9 _ rfl; have ma10 := xWA.get 10 _ rfl; have ma11 := xWA.get 11 _ rfl
  have mf0 := xWA.free 0; have mf1 := xWA.free 1; have mf2 := xWA.free 2; have mf3 := xWA.free 3; have mf4 := xWA.free 4; have mf5 := xWA.free 5; have mf6 := xWA.free 6; have mf7 := xWA.free 7; have mf8 := xWA.free 8; have mf9 := xWA.free 9; have mf10 := xWA.free 10; have mf11 := xWA.free 11
  have pc0 := xWB.get 0 _ rfl; have pc1 := xWB.get 1 _ rfl; have pc2 := xWB.get 2 _ rfl; have pc3 := xWB.get 3 _ rfl; have pc4 := xWB.get 4 _ rfl; have pc5 := xWB.get 5 _ rfl; have pc6 := xWB.get 6 _ rfl; have pc7 := xWB.get 7 _ rfl; have pc8 := xWB.get 8 _ rfl; have pc9 := xWB.get 9 _ rfl; have pc10 := xWB.get 10 _ rfl; have pc11 := xWB.get 11 _ rfl
  have hSB : StZ True w WB dp none r RL.none false 0 0 [w2.heap.size] := (hS2.keepS (X' := [w2.heap.size]) kWA (by simp) (fun j hj => by simp at hj; subst hj; exact ⟨.inr (Nat.le_refl _), by omega⟩)).keepS (X' := [w2.heap.size]) kWB (by simp) (fun j hj => ⟨.inl hj, by simp at hj; subst hj; omega⟩)
  have aV := hid (cAliveQ WB (ht'.out.kept hSB.kp (by simp)))
  have HB := hid (And.intro hSB xWB)
  clear aR H1 hR hLk k2 hf hS2 kWA xWA kWB xWB hSB
  obtain ⟨room2, steps2, fa2, fc2, lx2, armed2, dead2, left2⟩ := r
  simp only [RD.v, RL.none, List.length_nil] at *
  go_wp2_with fail
  refine aV.out.mono ?_
  rintro e w3 ⟨rfl, k3⟩
  have z3 := k3.size
  have x3 := HB.out.2.kept k3 (by omega)
  have hS3 := HB.out.1.keep k3
  have aS := hid (cStep3 (ub := false) hS3 ⟨3, 0, none, 0, [], none, 0, []⟩ rfl (by omega) (by omega))
  obtain ⟨q, hq⟩ : ∃ q, w2.heap.size = q := ⟨_, rfl⟩
  clear ma0 ma1 ma2 ma3 ma4 ma5 ma6 ma7 ma8 ma9 ma10 ma11 mf0 mf1 mf2 mf3 mf4 mf5 mf6 mf7 mf8 mf9 mf10 mf11 pc0 pc1 pc2 pc3 pc4 pc5 pc6 pc7 pc8 pc9 pc10 pc11 eWA eWB zWA zWB aV
  rw [hq] at aS x3 hS3 HB
  rw [hq]
  clear hq HB
  have pc0 := x3.get 0 _ rfl; have pc1 := x3.get 1 _ rfl; have pc2 := x3.get 2 _ rfl; have pc3 := x3.get 3 _ rfl; have pc4 := x3.get 4 _ rfl; have pc5 := x3.get 5 _ rfl; have pc6 := x3.get 6 _ rfl; have pc7 := x3.get 7 _ rfl; have pc8 := x3.get 8 _ rfl; have pc9 := x3.get 9 _ rfl; have pc10 := x3.get 10 _ rfl; have pc11 := x3.get 11 _ rfl
  have hq3 := hS3.xlt q (by simp)
  have X3 := hid x3
  clear x3 hS3 k3 z3
  simp only [LWv, OpZ.v, RL.none, List.length_nil] at *
  go_wp2_with fail
  refine aS.out.mono ?_
  rintro e w4 ⟨d4, l4, r4, g4, u4, rfl, hS4, S4, k4, hS4x⟩
  have y4 := X3.out.keptS k4 (fun hm => (hS4x _ hm).1 (by simp)) hq3.1
  obtain ⟨w5, e5, x5, k5⟩ := y4.set12 rfl (.pointer (some ⟨d4, 0, none⟩)) (.pointer l4) (.int .i64 r4.room) (.int .i64 r4.steps) (.slice r4.fa r4.l.length r4.fc) (.bool r4.armed) (.bool r4.dead) (.int .i64 r4.left) (.string ⟨g4.nm.toArray⟩) (.slice g4.a g4.l.length g4.c) (.int .i64 g4.sz) (.bool u4)
  have z4 := k4.size
  have z5 := k5.size
  have HW : Hid (WZ True w w5 q d4 l4 r4 g4 u4 0 3) := ⟨x5, hS4.keepS (X' := [q]) k5 (by simp) (fun j hj => ⟨.inl hj, by simp at hj; subst hj; omega⟩)⟩
  have va0 := y4.get 0 _ rfl; have va1 := y4.get 1 _ rfl; have va2 := y4.get 2 _ rfl; have va3 := y4.get 3 _ rfl; have va4 := y4.get 4 _ rfl; have va5 := y4.get 5 _ rfl; have va6 := y4.get 6 _ rfl; have va7 := y4.get 7 _ rfl; have va8 := y4.get 8 _ rfl; have va9 := y4.get 9 _ rfl; have va10 := y4.get 10 _ rfl; have va11 := y4.get 11 _ rfl
  have vf0 := y4.free 0; have vf1 := y4.free 1; have vf2 := y4.free 2; have vf3 := y4.free 3; have vf4 := y4.free 4; have vf5 := y4.free 5; have vf6 := y4.free 6; have vf7 := y4.free 7; have vf8 := y4.free 8; have vf9 := y4.free 9; have vf10 := y4.free 10; have vf11 := y4.free 11
  have hqw := hid hq3.2
  clear x5 k5 y4 hS4 k4 hS4x aS X3 z4 z5 hq3 pc0 pc1 pc2 pc3 pc4 pc5 pc6 pc7 pc8 pc9 pc10 pc11
  have HW0 := HW
  clear HW
  have E5 := e5
  have HI : Hid (∃ (d : Nat) (l : Option Addr) (r : RD) (g : RL) (u : Bool), WZ True w w5 q d l r g u 0 3) := ⟨_, _, _, _, _, HW0.out⟩
  clear HW0 E5
  obtain ⟨room4, steps4, fa4, fc4, lx4, armed4, dead4, left4⟩ := r4
  obtain ⟨gn4, ga4, gc4, gl4, gs4⟩ := g4
  simp only [LWv] at *
  go_wp2_with fail
  clear va0 va1 va2 va3 va4 va5 va6 va7 va8 va9 va10 va11 vf0 vf1 vf2 vf3 vf4 vf5 vf6 vf7 vf8 vf9 vf10 vf11 e5
  go_loopw [8, 37] (fun v8 i wn => ∃ j : Nat, j ≤ L.length ∧ i = .int .i64 j ∧ v8 = .bool true ∧ Hid (∃ (d : Nat) (l : Option Addr) (r : RD) (g : RL) (u : Bool), WZ True w wn q d l r g u ((L.take j).map OpZ.wt).sum (3 + 3 * j))) (fun _ i _ => L.length - (intOf i).toNat)
  case atStart => exact ⟨0, Nat.zero_le _, rfl, rfl, by simpa using HI⟩
  case round =>
    obtain ⟨j, hj, rfl, rfl, HJ⟩ := hrel
    obtain ⟨d, l, r, g, u, hW⟩ := HJ.out
    have hq := hW.st.xlt q (by simp)
    have hKj := wts_take L j
    have hK := hwt'.out
    clear HI HJ
    by_cases hlt : j < L.length
    · have dj1 : (j : Int) < (L.length : Int) := by omega
      have dj0 : (0 : Int) ≤ (j : Int) := by omega
      have dj7 : (-9223372036854775808 : Int) ≤ (j : Int) + 1 := by omega
      have dj8 : (j : Int) + 1 ≤ 9223372036854775807 := by omega
      have hKs := wts_succ L j hlt
      have hKs2 := wts_take L (j + 1)
      obtain ⟨o, hoe⟩ : ∃ o, L[j] = o := ⟨_, rfl⟩
      have hoj : L[j]? = some o := by rw [← hoe]; simp [hlt]
      rw [hoe] at hKs
      have hoo := hok'.out o (List.mem_of_getElem? hoj)
      obtain ⟨gq, fq, ea, x0, x1, x2, x3⟩ := hcl.out j o hoj _ hW.st.kp
      subst ea
      obtain ⟨KJ, hKJ⟩ : ∃ n, ((L.take j).map OpZ.wt).sum = n := ⟨_, rfl⟩
      obtain ⟨KN, hKN⟩ : ∃ n, ((L.take (j + 1)).map OpZ.wt).sum = n := ⟨_, rfl⟩
      rw [hKJ] at hKs hKj hW
      rw [hKN] at hKs hKs2
      obtain ⟨WA, eWA⟩ : ∃ Y, wr.alloc (.cells #[.int .i64 0, .int .i64 0, .slice none 0 0, .slice none 0 0] 40) = Y := ⟨_, rfl⟩
      have kWA : Kp [] wr WA := by rw [← eWA]; exact (Kp.refl _ _).alloc _
      have zWA : WA.heap.size = wr.heap.size + 1 := by rw [← eWA]; simp
      have xWA : Bn WA (wr.heap.size) [.int .i64 0, .int .i64 0, .slice none 0 0, .slice none 0 0] := by rw [← eWA]; exact Bn.new wr [.int .i64 0, .int .i64 0, .slice none 0 0, .slice none 0 0] 40
      obtain ⟨WB, eWB⟩ : ∃ Y, ((((WA.setCell ⟨wr.heap.size, 0, none⟩ (.int .i64 o.kind)).setCell ⟨wr.heap.size, 1, none⟩ (.int .i64 o.n)).setCell ⟨wr.heap.size, 2, none⟩ (.slice o.a o.l.length o.c)).setCell ⟨wr.heap.size, 3, none⟩ (.slice o.ka o.ks.length o.kc)) = Y := ⟨_, rfl⟩
      have kWB : Kp [wr.heap.size] WA WB := by rw [← eWB]; exact (((((Kp.refl _ _).setCell (by simp) _).setCell (by simp) _).setCell (by simp) _).setCell (by simp) _)
      have xWB : Bn WB (wr.heap.size) [.int .i64 o.kind, .int .i64 o.n, .slice o.a o.l.length o.c, .slice o.ka o.ks.length o.kc] := by rw [← eWB]; exact ((((xWA.set 0 (by simp) (.int .i64 o.kind)).set 1 (by simp) (.int .i64 o.n)).set 2 (by simp) (.slice o.a o.l.length o.c)).set 3 (by simp) (.slice o.ka o.ks.length o.kc))
      have zWB := kWB.size
      have ma0 := xWA.get 0 _ rfl; have ma1 := xWA.get 1 _ rfl; have ma2 := xWA.get 2 _ rfl; have ma3 := xWA.get 3 _ rfl
      have mf0 := xWA.free 0; have mf1 := xWA.free 1; have mf2 := xWA.free 2; have mf3 := xWA.free 3
      have oc0 := xWB.get 0 _ rfl; have oc1 := xWB.get 1 _ rfl; have oc2 := xWB.get 2 _ rfl; have oc3 := xWB.get 3 _ rfl
      have hSB := (hW.st.keepS (X' := [wr.heap.size, q]) kWA (by simp) (fun j hj => by
        simp at hj
        rcases hj with rfl | rfl
        · exact ⟨.inr (Nat.le_refl _), by omega⟩
        · exact ⟨.inl (by simp), by omega⟩)).keepS (X' := [q]) kWB (by simp) (fun j hj => by simp at hj; subst hj; exact ⟨.inl (by simp), by omega⟩)
      have xq := (hW.box.kept kWA hq.1).keptS kWB (by simp; omega) (by omega)
      have HF := hid (And.intro hKs (And.intro hKs2 (And.intro hKN hK)))
      by_cases hk4 : o.kind = 4
      · have hW9 : WZ True w WB q d l r g u KN (3 + 3 * (j + 1)) := (WZ.mk xq hSB).mono (by have := HF.out.1; omega) (by omega)
        have H9 : Hid (∃ (d : Nat) (l : Option Addr) (r : RD) (g : RL) (u : Bool), WZ True w WB q d l r g u ((L.take (j + 1)).map OpZ.wt).sum (3 + 3 * (j + 1))) := by
          rw [HF.out.2.2.1]
          exact ⟨_, _, _, _, _, hW9⟩
        have dk4 : (o.kind != 4) = false := by simp [hk4]
        clear hSB xq kWA kWB xWA xWB hW hoo hoj hoe hKs hKj hKs2 hK hKN hKJ HF hW9 hk4
        obtain ⟨kind, on, oa, occ, ol, oka, okc, oks⟩ := o
        simp only at *
        go_wp2_with fail
        exact ⟨⟨j + 1, by omega, by go_num, rfl, H9⟩, by simp [intOf]; omega⟩
      have dk4 : (o.kind != 4) = true := by simpa using hk4
      have aS := hid (cStepZ hSB o hoo (by omega) (by omega) ht'.out (.inl hk4))
      have pc0 := xq.get 0 _ rfl; have pc1 := xq.get 1 _ rfl; have pc2 := xq.get 2 _ rfl; have pc3 := xq.get 3 _ rfl; have pc4 := xq.get 4 _ rfl; have pc5 := xq.get 5 _ rfl; have pc6 := xq.get 6 _ rfl; have pc7 := xq.get 7 _ rfl; have pc8 := xq.get 8 _ rfl; have pc9 := xq.get 9 _ rfl; have pc10 := xq.get 10 _ rfl; have pc11 := xq.get 11 _ rfl
      have XQ := hid xq
      have hqB : q < WB.heap.size := by omega
      clear hSB xq kWA kWB xWA xWB hW hoo hoj hoe hKs hKj hKs2 hK hKN hKJ hk4
      obtain ⟨kind, on, oa, occ, ol, oka, okc, oks⟩ := o
      obtain ⟨room1, steps1, fa1, fc1, lx1, armed1, dead1, left1⟩ := r
      obtain ⟨gn1, ga1, gc1, gl1, gs1⟩ := g
      simp only [LWv, OpZ.v] at *
      go_wp2_with fail
      refine aS.out.mono ?_
      rintro e w4 ⟨d4, l4, r4, g4, u4, rfl, hS4, S4, k4, hS4x⟩
      have y4 := XQ.out.keptS k4 (fun hm => (hS4x _ hm).1 (by simp)) hqB
      obtain ⟨w5, e5, x5, k5⟩ := y4.set12 rfl (.pointer (some ⟨d4, 0, none⟩)) (.pointer l4) (.int .i64 r4.room) (.int .i64 r4.steps) (.slice r4.fa r4.l.length r4.fc) (.bool r4.armed) (.bool r4.dead) (.int .i64 r4.left) (.string ⟨g4.nm.toArray⟩) (.slice g4.a g4.l.length g4.c) (.int .i64 g4.sz) (.bool u4)
      have z4 := k4.size
      have z5 := k5.size
      have hW5 : WZ True w w5 q d4 l4 r4 g4 u4 KN (3 + 3 * (j + 1)) := ⟨x5, (hS4.keepS (X' := [q]) k5 (by simp) (fun j hj => ⟨.inl hj, by simp at hj; subst hj; omega⟩)).mono (by have := HF.out.1; omega) (by omega)⟩
      have va0 := y4.get 0 _ rfl; have va1 := y4.get 1 _ rfl; have va2 := y4.get 2 _ rfl; have va3 := y4.get 3 _ rfl; have va4 := y4.get 4 _ rfl; have va5 := y4.get 5 _ rfl; have va6 := y4.get 6 _ rfl; have va7 := y4.get 7 _ rfl; have va8 := y4.get 8 _ rfl; have va9 := y4.get 9 _ rfl; have va10 := y4.get 10 _ rfl; have va11 := y4.get 11 _ rfl
      have vf0 := y4.free 0; have vf1 := y4.free 1; have vf2 := y4.free 2; have vf3 := y4.free 3; have vf4 := y4.free 4; have vf5 := y4.free 5; have vf6 := y4.free 6; have vf7 := y4.free 7; have vf8 := y4.free 8; have vf9 := y4.free 9; have vf10 := y4.free 10; have vf11 := y4.free 11
      have H6 : Hid (∃ (d : Nat) (l : Option Addr) (r : RD) (g : RL) (u : Bool), WZ True w w5 q d l r g u ((L.take (j + 1)).map OpZ.wt).sum (3 + 3 * (j + 1))) := by
        rw [HF.out.2.2.1]
        exact ⟨_, _, _, _, _, hW5⟩
      clear x5 k5 y4 hS4 k4 hS4x aS XQ z4 z5 hW5 HF pc0 pc1 pc2 pc3 pc4 pc5 pc6 pc7 pc8 pc9 pc10 pc11 ma0 ma1 ma2 ma3 mf0 mf1 mf2 mf3 oc0 oc1 oc2 oc3 eWA eWB zWA zWB x0 x1 x2 x3
      obtain ⟨room4, steps4, fa4, fc4, lx4, armed4, dead4, left4⟩ := r4
      obtain ⟨gn4, ga4, gc4, gl4, gs4⟩ := g4
      simp only [LWv] at *
      go_wp2_with fail
      exact ⟨⟨j + 1, by omega, by go_num, rfl, H6⟩, by simp [intOf]; omega⟩
    · obtain rfl : j = L.length := by omega
      have u11 := hW.box.get 11 _ rfl
      have K0 := hid hW.st.kp
      cases u with
      | false =>
        clear hW hKj hK hq
        go_wp2_with fail
        go_ret
        exact ⟨rfl, K0.out.below⟩
      | true =>
      obtain ⟨p, mb, xs, dd, B, v, M, sz, rfl, hLD, hO, hM, hX⟩ := hW.st.ld
      have hqX := (hX q (by simp)).2
      have hst := hO.st
      have hln := hO.len
      have hfi := hO.file
      have hqlt := hq.1
      have hBox : Hid (∀ A, Kp [] wr A → A.cell? ⟨q, 0, none⟩ = some (.pointer (some ⟨d, 0, none⟩)) ∧ A.cell? ⟨q, 1, none⟩ = some (.pointer (some ⟨p, 0, none⟩))) := fun A k => ⟨(hW.box.kept k hqlt).get 0 _ rfl, (hW.box.kept k hqlt).get 1 _ rfl⟩
      have hBox2 : Hid (∀ A A' S, Kp [] wr A → Kp S A A' → q ∉ S → A'.cell? ⟨q, 0, none⟩ = some (.pointer (some ⟨d, 0, none⟩)) ∧ A'.cell? ⟨q, 1, none⟩ = some (.pointer (some ⟨p, 0, none⟩))) := fun A A' S k k' hS => ⟨((hW.box.kept k hqlt).keptS k' hS (by have := k.size; omega)).get 0 _ rfl, ((hW.box.kept k hqlt).keptS k' hS (by have := k.size; omega)).get 1 _ rfl⟩
      have HL := hid (And.intro hLD (And.intro hO (And.intro hM hX)))
      have HN := hid (And.intro hst (And.intro hln (And.intro hfi (And.intro hK hKj))))
      clear hW hLD hO hM hX hKj hK hst hln hfi
      go_wp2_with fail
      refine wp_region_held_drew (S := fun A => A.cell? ⟨q, 0, none⟩ = some (.pointer (some ⟨d, 0, none⟩)) ∧ A.cell? ⟨q, 1, none⟩ = some (.pointer (some ⟨p, 0, none⟩))) (by kernel_rfl) ?_ (fun hHeld => ?_)
      · exact hBox.out _ ((Kp.refl _ _).drew)
      have kd : Kp [] wr wr.drew := (Kp.refl _ _).drew
      have KD := hid kd
      generalize wr.drew = wd at *
      have aG := hid ((HL.out.1.keep KD.out).gone (by have := HL.out.2.2.1.1; have := HN.out.2.2.2.1; have := HN.out.2.2.2.2; omega) HL.out.2.2.1.2.2.2)
      clear kd
      refine wpAnyH_take (i := 0) (v := ?_) rfl (by kernel_rfl) (by kernel_rfl) (by kernel_rfl) (fun _ _ _ h => h) (Or.inl ⟨by rfl, ?_⟩) (by assumption) ?_
      rotate_left
      · intro w hSw; (try dsimp only at hSw); go_simp <;> with_reducible rfl
      try simp only [Act.put, List.getElem_toArray, List.getElem_cons_zero, List.getElem_cons_succ, List.setIfInBounds_toArray, List.set_cons_zero, List.set_cons_succ]
      refine wpAnyH_take (i := 1) (v := ?_) rfl (by kernel_rfl) (by kernel_rfl) (by kernel_rfl) (fun _ _ _ h => h) (Or.inl ⟨by rfl, ?_⟩) (by assumption) ?_
      rotate_left
      · intro w hSw; (try dsimp only at hSw); go_simp <;> with_reducible rfl
      try simp only [Act.put, List.getElem_toArray, List.getElem_cons_zero, List.getElem_cons_succ, List.setIfInBounds_toArray, List.set_cons_zero, List.set_cons_succ]
      refine wpAnyH_take (i := 3) (v := ?_) rfl (by kernel_rfl) (by kernel_rfl) (by kernel_rfl) (fun _ _ _ h => h) (Or.inl ⟨by rfl, ?_⟩) (by assumption) ?_
      rotate_left
      · intro w hSw; (try dsimp only at hSw); go_simp <;> with_reducible rfl
      try simp only [Act.put, List.getElem_toArray, List.getElem_cons_zero, List.getElem_cons_succ, List.setIfInBounds_toArray, List.set_cons_zero, List.set_cons_succ]
      refine wpAnyH_take (i := 4) (v := ?_) rfl (by kernel_rfl) (by kernel_rfl) (by kernel_rfl) (fun _ _ _ h => h) (Or.inl ⟨by rfl, ?_⟩) (by assumption) ?_
      rotate_left
      · intro w hSw; (try dsimp only at hSw); go_simp <;> with_reducible rfl
      try simp only [Act.put, List.getElem_toArray, List.getElem_cons_zero, List.getElem_cons_succ, List.setIfInBounds_toArray, List.set_cons_zero, List.set_cons_succ]
      refine wpAnyH_ready (rs := [2]) (by kernel_rfl) (by simp) ?_
      refine AllReadyH.cons rfl (fun K hK => ?_) AllReadyH.nil
      go_simp
      refine aG.out.mono ?_
      rintro e wg ⟨ta, tc, tl, rfl, hT, kg⟩
      (try go_wp2_with fail)
      refine hK.out _ _ ?_ (fun hHeld => ?_)
      · exact hBox.out _ (KD.out.trans kg (by simp))
      clear hK K
      try simp only [Act.put, List.getElem_toArray, List.getElem_cons_zero, List.getElem_cons_succ, List.setIfInBounds_toArray, List.set_cons_zero, List.set_cons_succ]
      have KG := hid (KD.out.trans kg (by simp))
      have HT := hid hT
      have aZ := hid (cSizeQ (HL.out.1.keep KG.out).log)
      clear aG kg hT
      refine wpAnyH_ready (rs := [5]) (by kernel_rfl) (by simp) ?_
      refine AllReadyH.cons rfl (fun K hK => ?_) AllReadyH.nil
      go_simp
      refine aZ.out.mono ?_
      rintro e A1 ⟨rfl, hA1⟩
      rw [hA1]
      (try go_wp2_with fail)
      refine hK.out _ _ ?_ (fun hHeld => ?_)
      · exact hBox.out _ KG.out
      clear hK K
      try simp only [Act.put, List.getElem_toArray, List.getElem_cons_zero, List.getElem_cons_succ, List.setIfInBounds_toArray, List.set_cons_zero, List.set_cons_succ]
      refine wpAnyH_take (i := 6) (v := ?_) rfl (by kernel_rfl) (by kernel_rfl) (by kernel_rfl) (fun _ _ _ h => h) (Or.inl ⟨by rfl, ?_⟩) (by assumption) ?_
      rotate_left
      · intro w hSw; (try dsimp only at hSw); go_simp <;> with_reducible rfl
      try simp only [Act.put, List.getElem_toArray, List.getElem_cons_zero, List.getElem_cons_succ, List.setIfInBounds_toArray, List.set_cons_zero, List.set_cons_succ]
      refine wpAnyH_take (i := 7) (v := ?_) rfl (by kernel_rfl) (by kernel_rfl) (by kernel_rfl) (fun _ _ _ h => h) (Or.inl ⟨by rfl, ?_⟩) (by assumption) ?_
      rotate_left
      · intro w hSw; (try dsimp only at hSw); go_simp <;> with_reducible rfl
      try simp only [Act.put, List.getElem_toArray, List.getElem_cons_zero, List.getElem_cons_succ, List.setIfInBounds_toArray, List.set_cons_zero, List.set_cons_succ]
      refine wpAnyH_done (by kernel_rfl) ?_ _
      obtain ⟨bs, hbs⟩ : ∃ bs, (fileOf dd.files nmZ).bytes = bs := ⟨_, rfl⟩
      have HS := HL.out.2.1.toOne.small (by have := HN.out.2.2.2.1; have := HN.out.2.2.2.2; omega)
      have aR := (HL.out.1.keep KG.out).read HS nmZ_len
      rw [hbs] at aR
      have AR := hid aR
      have HB := hid hbs
      have hS' := hid HS
      clear hHeld aZ hA1 A1 aR hbs HS
      obtain ⟨c0, c1⟩ := hBox.out _ KG.out
      go_wp2_with fail
      refine AR.out.mono ?_
      rintro e wb ⟨ba, bc, bb, rfl, hRb, kb⟩
      have KB := hid (KG.out.trans kb (by simp))
      have HTb := hid (HT.out.kept kb (by simp))
      have HRb := hid hRb
      have hLb := HL.out.1.keep KB.out
      have hz := hLb.kp.size
      have hArg : ArgQ wb ra R (fun k => k ∈ foot d mb xs ∨ k = p ∨ B k) := by
        have hX : ∀ j, (j ∈ foot d mb xs ∨ j = p ∨ B j) → w.heap.size ≤ j := fun j hj => by
          rcases hj with e | e | e
          · exact hLb.lf j e
          · subst e; exact hLb.lp
          · exact (hLb.lb j e).1
        refine ⟨hR'.out.1.keptNew hLb.kp, fun y hy => (hR'.out.2.1 y hy).keptNew hLb.kp, fun hne j hj hx => ?_, fun y hy hyn j hj hx => ?_, by have := hR'.out.2.2.1; omega, fun y hy => by have := hR'.out.2.2.2 y hy; omega⟩
        · have := seeBs_lt hR'.out.1 hne j hj; have := hX j hx; omega
        · have := (hR'.out.2.1 y hy).see.lt hyn j hj; have := hX j hx; omega
      have aA := hLb.app (by have := HN.out.1; omega) (by have := HN.out.2.1; omega) hS'.out nmZ_len (by have := HN.out.2.2.1; have := HN.out.2.2.2.1; have := HN.out.2.2.2.2; omega) (by have := HL.out.2.2.1.1; have := HN.out.2.2.2.1; have := HN.out.2.2.2.2; omega) ⟨HL.out.2.2.1.2.1, by have := HL.out.2.2.1.2.2.1; have := HN.out.2.2.2.1; have := HN.out.2.2.2.2; omega⟩ ra rc R hArg ht'.out
      have HT2 := hid (LDturns HL.out.1)
      have hqX' := hid hqX
      have hzwr := hid KG.out.size
      have hzd := hid KD.out.size
      clear AR hRb c0 c1 hArg hLb hqX kb
      obtain ⟨c0, c1⟩ := hBox.out _ KB.out
      by_cases h0 : (appQ dd nmZ (bsl R)).2 = 0
      · have AA : Hid (Calls Tryz.prog 13 #[.pointer (some ⟨p, 0, none⟩), .slice ra R.length rc] wb fun e w' => e = .returned (.int .i64 0) ∧ Kp (p :: own v ++ foot d mb xs) wb w' ∧ ∃ v' B' xs' D, LD w w' p d mb xs' D nmZ B' v' (M ++ bsl R) (sz + appS (bsl R))) := by
          refine aA.mono ?_
          rintro e w' ⟨he, xs', k', _, h2⟩
          rw [h0] at he
          obtain ⟨v', B', h3⟩ := h2 h0
          exact ⟨he, k', v', B', xs', _, h3⟩
        clear aA h0
        go_wp2_with fail
        refine AA.out.mono ?_
        rintro e wc ⟨rfl, kc, v', B', xs', D, hLc⟩
        have HTc := hid (HTb.out.kept kc (fun j hj => by have := HT2.out j hj; have := hzd.out; omega))
        have elen : (M ++ bsl R).length = tl.length + R.length := by rw [List.length_append, bsl_len, ← HTc.out.bs, bsl_len]
        have hMl := hid (And.intro HL.out.2.2.1.1 (And.intro HN.out.2.2.2.1 HN.out.2.2.2.2))
        have aLn := cLenQ hLc.log
        rw [elen] at aLn
        have aLn' : Hid (Calls Tryz.prog 14 #[.pointer (some ⟨p, 0, none⟩)] wc fun e w' => e = .returned (.int .i64 ((tl.length : Int) + (R.length : Int))) ∧ w' = wc) := by
          refine aLn.mono ?_
          rintro e w' ⟨he, hw⟩
          exact ⟨by rw [he]; simp, hw⟩
        have ht1 : (((tl.length : Int) + (R.length : Int)) == ((tl.length : Int) + (R.length : Int))) = true := by simp
        have htl : Hid (tl.length = M.length) := by show _ = _; rw [← bsl_len, HTc.out.bs]
        have hr1 : (-9223372036854775808 : Int) ≤ (tl.length : Int) + (R.length : Int) := by omega
        have hr2 : (tl.length : Int) + (R.length : Int) ≤ 9223372036854775807 := by have := htl.out; have := hMl.out.1; have := hMl.out.2.1; have := hMl.out.2.2; have := hR'.out.2.2.1; omega
        have HC := hid (And.intro hLc kc)
        have aG2 := hid (hLc.gone (by have := htl.out; have := hMl.out.1; have := hMl.out.2.1; have := hMl.out.2.2; have := hR'.out.2.2.1; omega) (fun x hx => by
          rcases List.mem_append.1 hx with h | h
          · exact HL.out.2.2.1.2.2.2 x h
          · obtain ⟨y, hy, rfl⟩ := List.mem_map.1 h
            have := hR'.out.2.2.2 y hy
            omega))
        have hkB := KB.out
        obtain ⟨e0, e1⟩ := hBox2.out wb wc _ hkB kc hqX'.out
        have KW : Hid (Kp [] w wc) := hLc.kp
        clear AA aLn hLc kc elen c0 c1 hkB
        go_wp2_with fail
        refine aLn'.out.mono ?_
        rintro e wz ⟨rfl, hwz⟩
        subst hwz
        clear aLn'
        go_wp2_with fail
        refine aG2.out.mono ?_
        rintro e wh ⟨ga, gc, gl, rfl, hG, kh⟩
        obtain ⟨hle, hSm⟩ := hG.same (HTc.out.kept kh (by simp)) ⟨bsl R, rfl⟩ (by rw [List.length_append, bsl_len]; have := hMl.out.1; have := hMl.out.2.1; have := hMl.out.2.2; have := hR'.out.2.2.1; omega)
        have aSm := hid hSm
        have hgc := hG.cap
        have KH := hid (KW.out.trans kh (by simp))
        have q1 : (tl.length : Int) ≤ (gc : Int) := by omega
        have q0 : (0 : Int) ≤ (tl.length : Int) := by omega
        rcases hG.ad with ⟨rfl, hgl, rfl⟩ | ⟨gg, go, rfl⟩
        · have htz : tl.length = 0 := by rw [hgl] at hle; simpa using hle
          clear aG2 hSm kh hG
          rw [htz] at aSm ⊢
          go_wp2_with fail
          refine aSm.out.mono ?_
          rintro e wi ⟨rfl, ki⟩
          have KI := hid (KH.out.trans ki (by simp))
          clear aSm ki
          go_wp2_with fail
          go_ret
          exact ⟨rfl, KI.out.below⟩
        · clear aG2 hSm kh hG
          go_wp2_with fail
          refine aSm.out.mono ?_
          rintro e wi ⟨rfl, ki⟩
          have KI := hid (KH.out.trans ki (by simp))
          clear aSm ki
          go_wp2_with fail
          go_ret
          exact ⟨rfl, KI.out.below⟩
      · obtain ⟨z, hz0⟩ : ∃ z, (appQ dd nmZ (bsl R)).2 = z := ⟨_, rfl⟩
        have hzne : (z == 0) = false := by rw [← hz0]; simpa using h0
        have hfl := HL.out.2.1.toOne.refused (HL.out.2.1.qt trivial) (bsl R) h0
        have hOn := (HL.out.2.1.toOne.appq (bsl R)).small (by
          have hb := frmR_le (bsl R)
          have := HN.out.2.2.2.1; have := HN.out.2.2.2.2; omega)
        have AA : Hid (Calls Tryz.prog 13 #[.pointer (some ⟨p, 0, none⟩), .slice ra R.length rc] wb fun e w' => e = .returned (.int .i64 z) ∧ Kp (p :: own v ++ foot d mb xs) wb w' ∧ ∃ xs', LD w w' p d mb xs' (appQ dd nmZ (bsl R)).1 nmZ B v M sz) := by
          refine aA.mono ?_
          rintro e w' ⟨he, xs', k', h2, _⟩
          rw [hz0] at he
          exact ⟨he, k', xs', h2 h0⟩
        have HFl := hid (And.intro hfl hOn)
        clear aA h0 hz0 hfl hOn
        go_wp2_with fail
        refine AA.out.mono ?_
        rintro e wc ⟨rfl, kc, xs', hLc⟩
        have HTc := hid (HTb.out.kept kc (fun j hj => by have := HT2.out j hj; have := hzd.out; omega))
        have HRc := hid (HRb.out.kept kc (fun j hj => by have := HT2.out j hj; have := hzwr.out; omega))
        have aR2 := hLc.read HFl.out.2 nmZ_len
        rw [HFl.out.1, HB.out] at aR2
        have AR2 := hid aR2
        have hkB := KB.out
        obtain ⟨e0, e1⟩ := hBox2.out wb wc _ hkB kc hqX'.out
        have hBx3 : Hid (∀ A, Kp [] wc A → A.cell? ⟨q, 1, none⟩ = some (.pointer (some ⟨p, 0, none⟩))) := fun A k => (k.cell (p := ⟨q, 1, none⟩) (World.block_lt_of_cell? _ _ e1) (by simp)).trans e1
        have HC := hid hLc
        clear AA hLc kc c0 c1 hkB aR2
        go_wp2_with fail
        refine AR2.out.mono ?_
        rintro e we ⟨ca, cc, cb, rfl, hRc, ke⟩
        have HTe := hid (HTc.out.kept ke (by simp))
        have HRe := hid (HRc.out.kept ke (by simp))
        have HRc2 := hid hRc
        have hLe := HC.out.keep ke
        have aG2 := hid (hLe.gone (by have := HL.out.2.2.1.1; have := HN.out.2.2.2.1; have := HN.out.2.2.2.2; omega) HL.out.2.2.1.2.2.2)
        have HE := hid hLe
        have c1 := hBx3.out _ ke
        have KE := hid ke
        clear AR2 hRc ke hLe e0 e1
        go_wp2_with fail
        refine aG2.out.mono ?_
        rintro e wh ⟨ga, gc, gl, rfl, hG, kh⟩
        obtain ⟨hle, hSm⟩ := hG.same (HTe.out.kept kh (by simp)) ⟨[], by simp⟩ (by have := HL.out.2.2.1.1; have := HN.out.2.2.2.1; have := HN.out.2.2.2.2; omega)
        have hgl : gl.length = tl.length := by rw [← bsl_len, hG.bs, ← bsl_len, HTe.out.bs]
        rw [hgl]
        have aSm := hid hSm
        have HEh := hid (HE.out.keep kh)
        have HRh := hid (And.intro (HRe.out.kept kh (by simp)) (HRc2.out.kept kh (by simp)))
        have KH := hid (KE.out.trans kh (by simp))
        clear aG2 hSm kh hG hle hgl c1
        go_wp2_with fail
        refine aSm.out.mono ?_
        rintro e wi ⟨rfl, ki⟩
        have aZ2 := hid (cSizeQ (HEh.out.keep ki).log)
        have KI := hid (HEh.out.keep ki).kp
        have KI2 := KH.out.trans ki (by simp)
        have c1 := hBx3.out _ KI2
        obtain ⟨ln, hln⟩ : ∃ n, bs.length = n := ⟨_, rfl⟩
        obtain ⟨str, hstr⟩ : ∃ s : ByteArray, s = ⟨bs.toArray⟩ := ⟨_, rfl⟩
        have cv1 := convSees (HRh.out.1.kept ki (by simp)).see bc
        have cv2 := convSees (HRh.out.2.kept ki (by simp)).see cc
        rw [← hstr] at cv1 cv2
        rw [hln] at cv1 cv2 ⊢
        have ts : (sz == sz) = true := by simp
        clear aSm ki KI2 hln hstr
        go_wp2_with fail
        refine aZ2.out.mono ?_
        rintro e wj ⟨rfl, hwj⟩
        subst hwj
        clear aZ2 c1
        go_wp2_with fail
        go_ret
        exact ⟨by simp, KI.out.below⟩
end Go.Proofs.YtpkoikennimonaaGreatDoor
end

section
namespace Go.Proofs.YtpkoikennimonaaGreatDoor
open Go.ChangeShapes Go.WideShapes Go.ChangeAt Go.RowKit Go.Hay
set_option linter.unusedVariables false

set_option maxRecDepth 100000 in
theorem redoRefusedContract (H : Type) (enc : TypeId × Value → H) (W : World) (base : Nat) (args : Array Value) (ds gs : List (DataW H)) (before : List MemPlace)
    (hval : ∀ (j : Nat) t v, Tryz.f4.params[j]? = some t → args[j]? = some v → Value.okWide Tryz.prog W .any base t v)
    (hW : DataW.Whole enc Tryz.prog Tryz.f4.params.toList Rows.redoRefusedSpec.vars false W args.toList ds gs before)
    (hsz : (DataW.weightsEach Tryz.prog (Tryz.f4.params.toList ++ (Rows.OpenSpec.upto Rows.redoRefusedSpec).bare.plain.varTypes Tryz.prog) (ds ++ gs)).all (· ≤ reachBytes) = true)
    (hk : Rows.uptoSmall H (ds ++ gs) = true)
    (hL : laidMetH Tryz.prog Rows.redoRefusedUptoRow.laid W) :
    Calls Tryz.prog 4 args W fun e W' => ∃ v, e = .returned v ∧ Rows.redoRefusedSpec.post enc Tryz.prog Tryz.f4 false true false false W args v W' := by
  have hW' := hW
  obtain ⟨p, q, hA0, hV, rfl, hfz, hnd⟩ := hW
  have hA : DataW.TrodAll enc Tryz.prog W 0 (fun _ => true) true Tryz.f4.params.toList args.toList ds p := hA0
  rw [Tryz.params4] at hA hval hsz
  obtain ⟨v0, vs0, d0, ds0, p0, q0, hargs, rfl, rfl, h0, r0⟩ := trodAll_cons hA
  obtain ⟨v1, vs1, d1, ds1, p1, q1, rfl, rfl, rfl, h1, r1⟩ := trodAll_cons r0
  obtain ⟨v2, vs2, d2, ds2, p2, q2, rfl, rfl, rfl, h2, r2⟩ := trodAll_cons r1
  obtain ⟨rfl, rfl, rfl⟩ := trodAll_nil r2
  obtain rfl : args = #[v0, v1, v2] := by cases args; simp_all
  obtain ⟨rfl, rfl⟩ := trodVars_none hV
  obtain ⟨a0, rfl, rfl, rfl, w0⟩ := open_int Tryz.underlying3 (hval 0 3 v0 rfl rfl) h0
  have hb0 := bounds_i64 w0
  obtain ⟨a1, len1, cap1, rfl⟩ := okWide_slice Tryz.underlying22 (hval 1 22 v1 rfl rfl)
  have k1 := h1
  have lt1 : ∀ x ∈ p1, x.block < W.heap.size := by obtain ⟨m, hm⟩ := k1; exact DataW.trod_lt m _ _ _ hm
  obtain ⟨l1, rfl, hs1, hok1, hl1, hm1, hn1, hfit1, hbk1, hcp1⟩ := openOps9 h1
  obtain ⟨hc1, hq1⟩ := hfit1 (List.all_eq_true.2 fun x hx => List.all_eq_true.1 hsz x (by simp [DataW.weightsEach]; first | exact .inl hx | exact .inr hx | exact .inr (.inl hx) | exact .inr (.inr hx) | exact hx))
  obtain ⟨a2, len2, cap2, rfl⟩ := okWide_slice Tryz.underlying30 (hval 2 30 v2 rfl rfl)
  have k2 := h2
  have lt2 : ∀ x ∈ p2, x.block < W.heap.size := by obtain ⟨m, hm⟩ := k2; exact DataW.trod_lt m _ _ _ hm
  obtain ⟨l2, rfl, hs2, hok2, hl2, hm2, hn2, hfit2, hbk2, hcp2⟩ := openBlists h2
  obtain ⟨hc2, hq2⟩ := hfit2 (List.all_eq_true.2 fun x hx => List.all_eq_true.1 hsz x (by simp [DataW.weightsEach]; first | exact .inl hx | exact .inr hx | exact .inr (.inl hx) | exact .inr (.inr hx) | exact hx))
  have hbk := of_decide_eq_true hk
  simp only [List.append_nil, Rows.uptoBulkAll] at hbk
  clear hA0
  refine (refWalkZ a0 a1 cap1 l1 a2 cap2 l2 W (table hL) (by omega) (by omega) hs1 (fun o ho => (hok1 o ho).ok (by have := bulkO_mem ho; omega)) (by omega) ⟨hs2, hok2, by omega, fun y hy => by have := mem_le (List.mem_map.2 ⟨y, hy, rfl⟩ : y.bs.length + 1 ∈ l2.map fun y => y.bs.length + 1); omega⟩ (by have := wts_le l1; omega)).mono fun e W' ⟨he, bel⟩ => ?_
  subst he
  exact ⟨_, rfl, _, _, _, [], _, [], hW', trodAll_mk1 (shut_bool Tryz.underlying4 _), (trodAll_cons_mk (shut_int Tryz.underlying3 w0) (trodAll_cons_mk (Below.trod Tryz.laidOut (by kernel_rfl) (of_decide_eq_true (by kernel_rfl)) k1 bel lt1) (trodAll_cons_mk (Below.trod Tryz.laidOut (by kernel_rfl) (of_decide_eq_true (by kernel_rfl)) k2 bel lt2) trodAll_mk0))), rfl, bel.frame _, fun h => by cases h⟩

set_option maxRecDepth 100000 in
theorem redoRefusedLifted (os : Os) (started : os.Started) (H : Type) (enc : TypeId × Value → H) (F : Stop.Interp) :
    ReturnsInHanded {} Tryz.checked os 4 .any ((Rows.OpenSpec.upto Rows.redoRefusedSpec).preRow enc Tryz.prog Tryz.f4 Rows.redoRefusedUptoRow.domain false Rows.redoRefusedUptoRow.laid) (((Rows.OpenSpec.upto Rows.redoRefusedSpec).at F).post enc Tryz.prog Tryz.f4 false true false false) := by
  refine returnsInHanded_of_row (C := Tryz.checked) (s := Rows.OpenSpec.upto Rows.redoRefusedSpec) Tryz.own started (by kernel_rfl) Tryz.func4
    (witness_row_at (enc := enc) (C := Tryz.checked) false ({ World.holding Tryz.prog os ⟨#[], #[], []⟩ with heap := (World.holding Tryz.prog os ⟨#[], #[], []⟩).heap.modify 0 fun
      | .cells _ t frozen => .cells tabCells t frozen
      | o => o }) #[.int .i64 0, .slice none 0 0, .slice none 0 0] rfl (by kernel_rfl) (by kernel_rfl) (by kernel_rfl)
      (OpenSpec.preRow_of_cond (x := ([.lit (.int .i64 0), .nil, .nil], [], [])) 8 (by kernel_rfl) (by kernel_rfl) (fun k hk => by cases hk; kernel_rfl) (by kernel_rfl) (laidMet_of_run' 8 (by kernel_rfl) (by kernel_rfl)))) ?_
  intro W base args ds gs before hval hW _ hcond hsz hL _ _
  exact redoRefusedContract H enc W base args ds gs before hval hW hsz (hcond _ rfl) hL

theorem redoRefusedSaid : Rows.RedoRefusedUptoSaid :=
  OpenClaim.holds_of_cond 4 Tryz.f4 rfl rfl rfl rfl rfl rfl rfl ⟨rfl, rfl, rfl, rfl, rfl⟩ rfl rfl rfl rfl rfl (by kernel_rfl) Tryz.func4 (by kernel_rfl)
    (of_decide_eq_true (by kernel_rfl)) (by unfold Func.isWrapper; first | (rw [if_pos (by decide +kernel)]; kernel_rfl) | (rw [if_neg (by decide +kernel)]; exact ⟨rfl, rfl⟩))
    (fun os started H enc _ F => by rw [OpenClaim.pre_eq_preRow]; exact redoRefusedLifted os started H enc F)

theorem redoRefusedPlain (f : FuncId) (fn : Func) (hf : Tryz.pinned.checked.prog.funcNamed "hayloft/hayloftlaw09.RedoRefused" = some f) (hfn : Tryz.pinned.checked.prog.funcs[f]? = some fn) :
    false = Tryz.pinned.checked.prog.looks [] ∧ ∀ (j : Nat) t, fn.params[j]? = some t → Tryz.pinned.checked.prog.wantsStandIn t = false := by
  obtain rfl : f = 4 := Option.some.inj ((show Tryz.prog.funcNamed "hayloft/hayloftlaw09.RedoRefused" = some 4 by kernel_rfl).symm.trans hf) |>.symm
  obtain rfl : fn = Tryz.f4 := (Option.some.inj (Tryz.func4.symm.trans hfn)).symm
  refine ⟨by kernel_rfl, fun j t ht => ?_⟩
  rw [Tryz.params4] at ht
  have hm := Array.mem_of_getElem? ht
  have h2 : t = 3 ∨ t = 22 ∨ t = 30 := by first | (simpa using hm) | (rcases (show t = 3 ∨ t = 22 ∨ t = 30 from by simpa using hm) with h | h | h <;> simp [h])
  rcases h2 with rfl | rfl | rfl
  · exact (show Tryz.prog.wantsStandIn 3 = false by kernel_rfl)
  · exact (show Tryz.prog.wantsStandIn 22 = false by kernel_rfl)
  · exact (show Tryz.prog.wantsStandIn 30 = false by kernel_rfl)

theorem RedoRefused_holds : Rows.RedoRefusedUptoCardSaid :=
  Claim7.holds_tied_plain_at .later [] _ _ _ _ redoRefusedSaid (fun _ h => by cases h) (by kernel_rfl) (fun _ h => by cases h) redoRefusedUpto_row_tie rfl ⟨rfl, rfl⟩ (by kernel_rfl) rfl redoRefusedPlain (by kernel_rfl)
#print axioms RedoRefused_holds
end Go.Proofs.YtpkoikennimonaaGreatDoor
end

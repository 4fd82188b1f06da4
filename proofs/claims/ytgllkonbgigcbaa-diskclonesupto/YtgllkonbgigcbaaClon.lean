/- What is done to a clone, or to what a crash leaves, is not seen at the disk, nor the other way round: the law answers true, for every room, all that may be kept and all scripts that hold together at most 1048576 values. -/
import Derived.Test.YtgllkonbgigcbaaB15
import Derived.Test.YtgllkonbgigcbaaB9
import Derived.SizedLaws
import Derived.JoinedCond
import Derived.Deep.CondSized
section
namespace Go.Proofs.Ytgllkonbgigcbaa
open Go.RowKit Go.Hay
set_option linter.unusedVariables false
set_option linter.unusedSimpArgs false

/-- A disk, its reference, and the reference's box. -/
structure Sl where
  p : Nat
  mb : Nat
  xs : List Ent
  r : RD
  d : Dk
  q : Nat
def Sl.ft (s : Sl) : List Nat := foot s.p s.mb s.xs
structure Grp (W w : World) (L : List Sl) : Prop where
  pr : ∀ s ∈ L, Pr W w s.p s.mb s.xs s.r s.d
  rb : ∀ s ∈ L, RB w s.q s.r
  qW : ∀ s ∈ L, W.heap.size ≤ s.q
  ff : L.Pairwise (fun a b => ∀ k ∈ a.ft, k ∉ b.ft)
  rf : ∀ a ∈ L, ∀ b ∈ L, ∀ k ∈ a.r.foot, k ∉ b.ft
  qf : ∀ a ∈ L, ∀ b ∈ L, a.q ∉ b.ft ∧ a.q ∉ b.r.foot
  qq : L.Pairwise (fun a b => a.q ≠ b.q)
theorem Grp.keep {W w w' : World} {L : List Sl} (h : Grp W w L) (k : Kp [] w w') : Grp W w' L :=
  ⟨fun s hs => (h.pr s hs).keep k, fun s hs => B6.kept (h.rb s hs) k, h.qW, h.ff, h.rf, h.qf, h.qq⟩
theorem Grp.perm {W w : World} {L L' : List Sl} (h : Grp W w L) (hp : L.Perm L') : Grp W w L' :=
  ⟨fun s hs => h.pr s (hp.mem_iff.2 hs), fun s hs => h.rb s (hp.mem_iff.2 hs), fun s hs => h.qW s (hp.mem_iff.2 hs), hp.pairwise h.ff (fun h1 k hk hx => h1 k hx hk), fun a ha b hb => h.rf a (hp.mem_iff.2 ha) b (hp.mem_iff.2 hb), fun a ha b hb => h.qf a (hp.mem_iff.2 ha) b (hp.mem_iff.2 hb), hp.pairwise h.qq (fun h1 => Ne.symm h1)⟩
/-- Behind a call of step on the first, and the store of its reference. -/
theorem Grp.step {W w w4 w5 : World} {s : Sl} {T : List Sl} (h : Grp W w (s :: T)) {p' mb' : Nat} {xs' : List Ent} {r' : RD} {d' : Dk} (hD : Disk w4 p' mb' xs' d') (hR : RdOk w4 r') (hL : Like r' d') (kk : Kp s.ft w w4) (n1 : ∀ k ∈ foot p' mb' xs', k ∈ s.ft ∨ w.heap.size ≤ k) (n2 : ∀ k ∈ r'.foot, k ∈ s.r.foot ∨ w.heap.size ≤ k) (n3 : ∀ k ∈ r'.foot, k ∉ foot p' mb' xs') (k5 : Kp [s.q] w4 w5) (hB : RB w5 s.q r') :
    Grp W w5 (⟨p', mb', xs', r', d', s.q⟩ :: T) := by
  have hs : s ∈ s :: T := by simp
  have hT : ∀ t ∈ T, t ∈ s :: T := fun t ht => by simp [ht]
  have hPs := h.pr s hs
  have hqlt : ∀ a ∈ s :: T, a.q < w.heap.size := fun a ha => B6.lt (h.rb a ha)
  have hflt : ∀ a ∈ s :: T, ∀ k ∈ a.ft, k < w.heap.size := fun a ha k hk => (h.pr a ha).D.lt k hk
  have hrlt : ∀ a ∈ s :: T, ∀ k ∈ a.r.foot, k < w.heap.size := fun a ha k hk => (h.pr a ha).R.lt k hk
  obtain ⟨ffs, ffT⟩ := List.pairwise_cons.1 h.ff
  obtain ⟨qqs, qqT⟩ := List.pairwise_cons.1 h.qq
  have qn1 : ∀ a ∈ s :: T, a.q ∉ foot p' mb' xs' := fun a ha hx => by
    rcases n1 _ hx with h1 | h1
    · exact (h.qf a ha s hs).1 h1
    · have := hqlt a ha; omega
  have qn2 : ∀ a ∈ s :: T, a.q ∉ r'.foot := fun a ha hx => by
    rcases n2 _ hx with h1 | h1
    · exact (h.qf a ha s hs).2 h1
    · have := hqlt a ha; omega
  have in1 : ∀ {F : List Nat}, s.q ∉ F → ∀ x ∈ [s.q], x ∉ F := fun hn x hx => by simp at hx; rw [hx]; exact hn
  have hP : Pr W w5 p' mb' xs' r' d' := (hPs.step hD hR hL kk n1 n3).keepS k5 (in1 (qn1 s hs)) (in1 (qn2 s hs)) (by simpa using h.qW s hs)
  have hPt : ∀ t ∈ T, Pr W w5 t.p t.mb t.xs t.r t.d := fun t ht => by
    refine ((h.pr t (hT t ht)).keepS kk (fun x hx hy => ffs t ht x hx hy) (fun x hx hy => h.rf t (hT t ht) s hs x hy hx) (fun x hx => hPs.nw x hx)).keepS k5 (in1 (h.qf s hs t (hT t ht)).1) (in1 (h.qf s hs t (hT t ht)).2) (by simpa using h.qW s hs)
  refine ⟨fun a ha => ?_, fun a ha => ?_, fun a ha => ?_, List.pairwise_cons.2 ⟨fun t ht k hk hx => ?_, ffT⟩, fun a ha b hb k hk hx => ?_, fun a ha b hb => ?_, List.pairwise_cons.2 ⟨fun t ht => qqs t ht, qqT⟩⟩
  · rcases List.mem_cons.1 ha with rfl | ha
    · exact hP
    · exact hPt a ha
  · rcases List.mem_cons.1 ha with rfl | ha
    · exact hB
    · exact B6.keptS (B6.keptS (h.rb a (hT a ha)) kk (h.qf a (hT a ha) s hs).1) k5 (by simpa using Ne.symm (qqs a ha))
  · rcases List.mem_cons.1 ha with rfl | ha
    · exact h.qW s hs
    · exact h.qW a (hT a ha)
  · rcases n1 k hk with h1 | h1
    · exact ffs t ht k h1 hx
    · have := hflt t (hT t ht) k hx; omega
  · rcases List.mem_cons.1 ha with rfl | ha <;> rcases List.mem_cons.1 hb with rfl | hb
    · exact n3 k hk hx
    · rcases n2 k hk with h1 | h1
      · exact h.rf s hs b (hT b hb) k h1 hx
      · have := hflt b (hT b hb) k hx; omega
    · rcases n1 k hx with h1 | h1
      · exact h.rf a (hT a ha) s hs k hk h1
      · have := hrlt a (hT a ha) k hk; omega
    · exact h.rf a (hT a ha) b (hT b hb) k hk hx
  · rcases List.mem_cons.1 ha with rfl | ha <;> rcases List.mem_cons.1 hb with rfl | hb
    · exact ⟨qn1 s hs, qn2 s hs⟩
    · exact h.qf s hs b (hT b hb)
    · exact ⟨qn1 a (hT a ha), qn2 a (hT a ha)⟩
    · exact h.qf a (hT a ha) b (hT b hb)
/-- A disk, its clone, and what a crash left of it. -/
theorem Grp.three {W w w6 w7 w8 : World} {p1 mb1 p2 mb2 p3 mb3 q1 q2 q3 : Nat} {xs1 xs2 xs3 : List Ent} {r rt : RD} {d d3 : Dk} (P1 : Pr W w p1 mb1 xs1 r d) (B1 : RB w q1 r) (hW1 : W.heap.size ≤ q1) (hq1 : q1 ∉ foot p1 mb1 xs1) (hq1r : q1 ∉ r.foot)
    (k6 : Kp [] w w6) (D2 : Disk w6 p2 mb2 xs2 d) (n2 : ∀ k ∈ foot p2 mb2 xs2, w.heap.size ≤ k) (k7 : Kp [] w6 w7) (D3 : Disk w7 p3 mb3 xs3 d3) (n3 : ∀ k ∈ foot p3 mb3 xs3, w6.heap.size ≤ k) (k8 : Kp [] w7 w8)
    (hR : RdOk w8 rt) (hL : Like rt d3) (hrt : ∀ k ∈ rt.foot, w7.heap.size ≤ k) (h2 : w7.heap.size ≤ q2) (h3 : w7.heap.size ≤ q3) (h23 : q2 ≠ q3) (h2r : q2 ∉ rt.foot) (h3r : q3 ∉ rt.foot) (B2 : RB w8 q2 r) (B3 : RB w8 q3 rt) :
    Grp W w8 [⟨p1, mb1, xs1, r, d, q1⟩, ⟨p2, mb2, xs2, r, d, q2⟩, ⟨p3, mb3, xs3, rt, d3, q3⟩] := by
  have z0 := P1.kp.size
  have z1 := k6.size
  have z2 := k7.size
  have f1 := P1.D.lt
  have f2 := D2.lt
  have f3 := D3.lt
  have fr := P1.R.lt
  have lq := B6.lt B1
  have k68 : Kp [] w6 w8 := k7.trans k8 (by simp)
  have kw8 : Kp [] w w8 := k6.trans k68 (by simp)
  have kWW : Kp [] W w8 := P1.kp.trans kw8 (by simp)
  have P1' := P1.keep kw8
  have P2' : Pr W w8 p2 mb2 xs2 r d := ⟨D2.keptNew k68, P1'.R, P1'.L, kWW, fun k hk => by have := n2 k hk; omega, fun k hk hx => by have := fr k hk; have := n2 k hx; omega⟩
  have P3' : Pr W w8 p3 mb3 xs3 rt d3 := ⟨D3.keptNew k8, hR, hL, kWW, fun k hk => by have := n3 k hk; omega, fun k hk hx => by have := hrt k hk; have := f3 k hx; omega⟩
  refine ⟨?_, ?_, ?_, ?_, ?_, ?_, ?_⟩
  · simp only [List.forall_mem_cons]; exact ⟨P1', P2', P3', by simp⟩
  · simp only [List.forall_mem_cons]; exact ⟨B6.kept B1 kw8, B2, B3, by simp⟩
  · simp only [List.forall_mem_cons]; exact ⟨hW1, by omega, by omega, by simp⟩
  · simp only [List.pairwise_cons, List.forall_mem_cons, Sl.ft]
    exact ⟨⟨fun k hk hx => by have := f1 k hk; have := n2 k hx; omega, fun k hk hx => by have := f1 k hk; have := n3 k hx; omega, by simp⟩, ⟨fun k hk hx => by have := f2 k hk; have := n3 k hx; omega, by simp⟩, by simp, List.Pairwise.nil⟩
  · simp only [List.forall_mem_cons, Sl.ft]
    refine ⟨⟨P1'.ap, P2'.ap, fun k hk hx => by have := fr k hk; have := n3 k hx; omega, by simp⟩, ⟨P1'.ap, P2'.ap, fun k hk hx => by have := fr k hk; have := n3 k hx; omega, by simp⟩, ⟨fun k hk hx => by have := hrt k hk; have := f1 k hx; omega, fun k hk hx => by have := hrt k hk; have := f2 k hx; omega, P3'.ap, by simp⟩, by simp⟩
  · simp only [List.forall_mem_cons, Sl.ft]
    refine ⟨⟨⟨hq1, hq1r⟩, ⟨fun hx => by have := n2 _ hx; omega, hq1r⟩, ⟨fun hx => by have := n3 _ hx; omega, fun hx => by have := hrt _ hx; omega⟩, by simp⟩, ⟨⟨fun hx => by have := f1 _ hx; omega, fun hx => by have := fr _ hx; omega⟩, ⟨fun hx => by have := f2 _ hx; omega, fun hx => by have := fr _ hx; omega⟩, ⟨fun hx => by have := f3 _ hx; omega, h2r⟩, by simp⟩, ⟨⟨fun hx => by have := f1 _ hx; omega, fun hx => by have := fr _ hx; omega⟩, ⟨fun hx => by have := f2 _ hx; omega, fun hx => by have := fr _ hx; omega⟩, ⟨fun hx => by have := f3 _ hx; omega, h3r⟩, by simp⟩, by simp⟩
  · simp only [List.pairwise_cons, List.forall_mem_cons]
    exact ⟨⟨by omega, by omega, by simp⟩, ⟨h23, by simp⟩, by simp, List.Pairwise.nil⟩
theorem wp_named {P : Program} {c : Code} {Q : Exit → Act → World → Prop} {a : Act} {w : World} (h : ∀ a0, a0 = a → c.wp P Q a0 w) : c.wp P Q a w := h a rfl
end Go.Proofs.Ytgllkonbgigcbaa
end

section
namespace Go.Proofs.Ytgllkonbgigcbaa
open Go.RowKit Go.Hay
set_option linter.unusedVariables false
set_option linter.unusedSimpArgs false

/-- How it stands behind j calls. -/
def RunJ (W : World) (w0 : World) (F0 R0 : List Nat) (q K0 J0 s0 : Nat) (l : List DOp) (p' : Nat) (j : Nat) (wn : World) : Prop :=
  ∃ (mb' : Nat) (d : Dk) (xs : List Ent) (r : RD), Pr W wn p' mb' xs r d ∧ Lw (K0 + sumB (l.take j)) (J0 + j) d ∧ d.steps ≤ s0 + j ∧ RB wn q r ∧ q ∉ foot p' mb' xs ∧ q ∉ r.foot ∧ B6 wn (q + 1) (.int .i64 0) (.int .i64 0) (.slice none 0 0) (.bool false) (.bool false) (.int .i64 0) ∧ q + 1 ∉ foot p' mb' xs ∧ q + 1 ∉ r.foot ∧ Kp F0 w0 wn ∧ (∀ k ∈ foot p' mb' xs, k ∈ F0 ∨ w0.heap.size ≤ k) ∧ (∀ k ∈ r.foot, k ∈ R0 ∨ w0.heap.size ≤ k)
def RunR (W : World) (w0 : World) (F0 R0 : List Nat) (K J s : Nat) (e : Ending) (w' : World) : Prop :=
  ∃ (p' mb' : Nat) (d : Dk) (xs : List Ent) (r : RD), e = .returned (.tuple #[.pointer (some ⟨p', 0, none⟩), r.v, .bool true]) ∧ Pr W w' p' mb' xs r d ∧ Lw K J d ∧ d.steps ≤ s ∧ Kp F0 w0 w' ∧ (∀ k ∈ foot p' mb' xs, k ∈ F0 ∨ w0.heap.size ≤ k) ∧ (∀ k ∈ r.foot, k ∈ R0 ∨ w0.heap.size ≤ k)
set_option maxHeartbeats 16000000 in
set_option maxRecDepth 100000 in
theorem cRun2 {W w : World} {p mb : Nat} {xs : List Ent} {r : RD} {d : Dk} (P : Pr W w p mb xs r d) {K0 J0 s0 : Nat} (low : Lw K0 J0 d) (hst : d.steps ≤ s0) (a : Option Addr) (c : Nat) (l : List DOp) (hs1 : DOpE.See W a l) (hok1 : ∀ o ∈ l, o.ok W) (hK0 : K0 ≤ 10000000) (hJ0 : J0 ≤ 10000000) (hs0 : s0 ≤ 10000000) (hb1 : sumB l ≤ 1048576) (hn1 : l.length ≤ 1048576) :
    Calls Try.prog 10 #[.pointer (some ⟨p, 0, none⟩), r.v, .slice a l.length c] w (RunR W w (foot p mb xs) r.foot (K0 + sumB l) (J0 + l.length) (s0 + l.length)) := by
  obtain ⟨w1, hw1, k1, bx, br, hsz⟩ := boxRR r w
  have hWw := P.kp.size
  have hPl := P.D.lt
  have A0 : Hid (RunJ W w (foot p mb xs) r.foot w.heap.size K0 J0 s0 l p 0 w1) := ⟨mb, d, xs, r, P.keep k1, low.mono (by omega) (by omega), by omega, bx, fun h => by have := hPl _ h; omega, fun h => by have := P.R.lt _ h; omega, br, fun h => by have := hPl _ h; omega, fun h => by have := P.R.lt _ h; omega, k1.mono (by simp), fun k hk => .inl hk, fun k hk => .inl hk⟩
  obtain ⟨F0, hF0⟩ : ∃ F0, F0 = foot p mb xs := ⟨_, rfl⟩
  obtain ⟨R0, hR0⟩ : ∃ R0, R0 = r.foot := ⟨_, rfl⟩
  rw [← hF0, ← hR0] at A0
  rw [← hF0, ← hR0]
  clear hF0 hR0
  have hw1' := hid hw1
  obtain ⟨room0, steps0, fa0, fc0, l0, armed0, dead0, left0⟩ := r
  simp only [RD.v] at *
  clear P hw1 bx br low hst hPl
  obtain ⟨q, hq⟩ : ∃ q, Hid (w.heap.size = q) := ⟨_, rfl⟩
  rw [hq.out] at A0
  have hqW : W.heap.size ≤ q := by have := hq.out; omega
  have hqw : w.heap.size ≤ q := by have := hq.out; omega
  go_enter Try.func10, Try.ntmps10
  go_wp2_with fail
  rw [hw1'.out, hq.out]
  clear hw1' hWw
  go_loopw [0, 14] (fun v i wn => ∃ (p' j : Nat), j ≤ l.length ∧ i = .int .i64 j ∧ v = .pointer (some ⟨p', 0, none⟩) ∧ RunJ W w F0 R0 q K0 J0 s0 l p' j wn) (fun _ i _ => l.length - (intOf i).toNat)
  case atStart => exact ⟨p, 0, Nat.zero_le _, rfl, rfl, A0.out⟩
  case round =>
    clear A0
    obtain ⟨p', j, hj, rfl, rfl, hA⟩ := hrel
    by_cases hjl : j < l.length
    · obtain ⟨o, ho⟩ : ∃ o, l[j]? = some o := ⟨l[j], by simp [hjl]⟩
      have hom := List.mem_of_getElem? ho
      have hso := hid (sumB_take ho)
      have hsl := sumB_le l (j + 1)
      obtain ⟨mb', d, xs, r, P, low, hsj, rb, hqf, hqr, bz, hzf, hzr, kF, nF, nR⟩ := hA
      obtain ⟨g, f, rfl, x0, x1, x2, x3, x4, x5, x6⟩ := dopAt (hs1.keptNew P.kp) ho
      obtain ⟨wb, hwb, kb, hop, hqb⟩ := box7 o wr
      have Pb := P.keep kb
      have hqlt : q < wr.heap.size := B6.lt rb
      have hzlt : q + 1 < wr.heap.size := bz.lt
      have hop0 := hop
      obtain ⟨y0, y1, y2, y3, y4, y5, y6⟩ := hop0
      have hwb' := hid hwb
      have hoW := hok1 o hom
      have rbb : RB wb q r := B6.kept rb kb
      have a3 := cStepW Pb.D low (by omega) r Pb.R Pb.L Pb.ap o (hoW.kept Pb.kp) (by have := hso.out; omega) (by omega) (offPr Pb hoW)
      have hlow := hid (lw_stp o low P.D.ok (by have := hso.out; omega))
      have hstp := stp_steps d o
      obtain ⟨d', hd'⟩ : ∃ d', d' = stpD d o := ⟨_, rfl⟩
      rw [← hd'] at a3 hlow hstp
      have rbb' := rb
      obtain ⟨b0, b1, b2, b3, b4, b5, bf⟩ := rbb'
      have hqb' : q < wb.heap.size := rbb.lt
      have bzb := bz.kept kb
      obtain ⟨room', steps', fa', fc', l', armed', dead', left'⟩ := r
      simp only [RD.v, DOp.v] at *
      clear P hop rb hd' low hwb ho bz
      go_wp2_with fail
      rw [hwb'.out]
      clear x0 x1 x2 x3 x4 x5 x6
      refine a3.mono ?_
      rintro e w4 ⟨p2, mb2, xs', r', rfl, hD4, hR4, hL4, kk, n1, n2, n3, _⟩
      have bq4 := B6.keptS rbb kk hqf
      have bz4 := bzb.keptS kk hzf
      obtain ⟨W5, hW5, rb5, k5⟩ := set6_ex bq4 (.int .i64 r'.room) (.int .i64 r'.steps) (.slice r'.fa r'.l.length r'.fc) (.bool r'.armed) (.bool r'.dead) (.int .i64 r'.left)
      obtain ⟨P5, hqf5, hqr5⟩ := prStep Pb hqb' hqW hqf hqr hD4 hR4 hL4 kk n1 n2 n3 k5
      have hfin5 : Hid (RunJ W w F0 R0 q K0 J0 s0 l p2 (j + 1) W5) := ⟨mb2, d', xs', r', P5, hlow.out.mono (by have := hso.out; omega) (by omega), by omega, rb5, hqf5, hqr5, bz4.keptS k5 (by simp), fun h => by
        rcases n1 _ h with h | h
        · exact hzf h
        · omega, fun h => by
        rcases n2 _ h with h | h
        · exact hzr h
        · omega, ((kF.trans kb (by simp)).trans kk nF).trans k5 (fun x hx => .inr (by simp at hx; omega)), fun k hk => by
        rcases n1 k hk with h | h
        · exact nF k h
        · have := kF.size; have := kb.size; exact .inr (by omega), fun k hk => by
        rcases n2 k hk with h | h
        · exact nR k h
        · have := kF.size; have := kb.size; exact .inr (by omega)⟩
      obtain ⟨q0, q1, q2, q3, q4, q5, qf⟩ := bq4
      have g0 := qf 0; have g1 := qf 1; have g2 := qf 2; have g3 := qf 3; have g4 := qf 4; have g5 := qf 5
      obtain ⟨room', steps', fa', fc', l', armed', dead', left'⟩ := r'
      simp only [RD.v] at *
      have hW5' := hid hW5
      clear hW5 a3 y0 y1 y2 y3 y4 y5 y6 b0 b1 b2 b3 b4 b5 Pb P5 hD4 hR4 hL4 n1 n2 n3 rbb
      go_wp2_with fail
      rw [hW5'.out]
      exact ⟨⟨p2, j + 1, by omega, by go_num, rfl, hfin5.out⟩, by simp [intOf]; omega⟩
    · obtain rfl : j = l.length := by omega
      obtain ⟨mb', d, xs, r, P, low, hsj, rb, hqf, hqr, bz, hzf, hzr, kF, nF, nR⟩ := hA
      have Pd := P.keep (w' := wr.drew) (Kp.refl _ _).drew
      rw [List.take_length] at low
      have hSt := cStands Pd.D (low.small (by omega)) (by have := len_of P.D; have := low.len; omega) r Pd.R Pd.L.room Pd.L.steps Pd.L.files Pd.L.dead
      have hrz : q + 1 ∉ r.foot ∨ True := .inr trivial
      have hlr := P.R.lt
      have rbd : RB wr.drew q r := B6.kept rb (Kp.refl _ _).drew
      have bzd := bz.kept (w' := wr.drew) (Kp.refl _ _).drew
      have hfin : Hid (∀ w5, Kp [] wr.drew w5 → ∀ W', Kp [q + 1] w5 W' → q + 1 ∉ r.foot → RunR W w F0 R0 (K0 + sumB l) (J0 + l.length) (s0 + l.length) (.returned (.tuple #[.pointer (some ⟨p', 0, none⟩), r.v, .bool true])) W') := fun w5 k5 W' kW hn => by
        exact ⟨p', mb', d, xs, r, rfl, (Pd.keep k5).keepS kW (by simpa using hzf) (by simpa using hn) (by simp; omega), low, hsj, ((kF.drew).trans k5 (by simp)).trans kW (fun x hx => .inr (by simp at hx; omega)), nF, nR⟩
      have hnz : Hid (q + 1 ∉ r.foot) := hzr
      obtain ⟨room, steps, fa, fc, lf, armed, dead, left⟩ := r
      simp only [RD.v] at *
      unfold RB at rbd
      simp only at rbd
      have hS : Hid (∀ A, Kp [q + 1] wr.drew A → (Kp [q + 1] wr.drew A ∧ A.cell? ⟨q, 0, none⟩ = some (.int .i64 room) ∧ A.cell? ⟨q, 1, none⟩ = some (.int .i64 steps) ∧ A.cell? ⟨q, 2, none⟩ = some (.slice fa lf.length fc) ∧ A.cell? ⟨q, 3, none⟩ = some (.bool armed) ∧ A.cell? ⟨q, 4, none⟩ = some (.bool dead) ∧ A.cell? ⟨q, 5, none⟩ = some (.int .i64 left))) := fun A kA => by
        have b := rbd.keptS kA (by simp)
        exact ⟨kA, b.c0, b.c1, b.c2, b.c3, b.c4, b.c5⟩
      clear P Pd rb bz low
      go_wp2_with fail
      refine wp_region_held_drew (S := (fun A => Kp [q + 1] wr.drew A ∧ A.cell? ⟨q, 0, none⟩ = some (.int .i64 room) ∧ A.cell? ⟨q, 1, none⟩ = some (.int .i64 steps) ∧ A.cell? ⟨q, 2, none⟩ = some (.slice fa lf.length fc) ∧ A.cell? ⟨q, 3, none⟩ = some (.bool armed) ∧ A.cell? ⟨q, 4, none⟩ = some (.bool dead) ∧ A.cell? ⟨q, 5, none⟩ = some (.int .i64 left))) (by kernel_rfl) ?_ (fun hHeld => ?_)
      · exact hS.out _ (Kp.refl _ _)
      refine wpAnyH_take (i := 0) (v := ?_) rfl (by kernel_rfl) (by kernel_rfl) (by kernel_rfl) (fun _ _ _ h => h) (Or.inl ⟨by rfl, ?_⟩) (by assumption) ?_
      rotate_left
      · intro w hSw; (try dsimp only at hSw); go_simp <;> with_reducible rfl
      try simp only [Act.put, List.getElem_toArray, List.getElem_cons_zero, List.getElem_cons_succ, List.setIfInBounds_toArray, List.set_cons_zero, List.set_cons_succ]
      refine wpAnyH_take (i := 1) (v := ?_) rfl (by kernel_rfl) (by kernel_rfl) (by kernel_rfl) (fun _ _ _ h => h) (Or.inl ⟨by rfl, ?_⟩) (by assumption) ?_
      rotate_left
      · intro w hSw; (try dsimp only at hSw); go_simp <;> with_reducible rfl
      try simp only [Act.put, List.getElem_toArray, List.getElem_cons_zero, List.getElem_cons_succ, List.setIfInBounds_toArray, List.set_cons_zero, List.set_cons_succ]
      refine wpAnyH_take (i := 2) (v := ?_) rfl (by kernel_rfl) (by kernel_rfl) (by kernel_rfl) (fun _ _ _ h => h) (Or.inl ⟨by rfl, ?_⟩) (by assumption) ?_
      rotate_left
      · intro w hSw; (try dsimp only at hSw); go_simp <;> with_reducible rfl
      try simp only [Act.put, List.getElem_toArray, List.getElem_cons_zero, List.getElem_cons_succ, List.setIfInBounds_toArray, List.set_cons_zero, List.set_cons_succ]
      refine wpAnyH_take (i := 3) (v := ?_) rfl (by kernel_rfl) (by kernel_rfl) (by kernel_rfl) (fun _ _ _ h => h) (Or.inl ⟨by rfl, ?_⟩) (by assumption) ?_
      rotate_left
      · intro w hSw; (try dsimp only at hSw); go_simp <;> with_reducible rfl
      try simp only [Act.put, List.getElem_toArray, List.getElem_cons_zero, List.getElem_cons_succ, List.setIfInBounds_toArray, List.set_cons_zero, List.set_cons_succ]
      refine wpAnyH_ready (rs := [4]) (by kernel_rfl) (by simp) ?_
      refine AllReadyH.cons rfl (fun K hK => ?_) AllReadyH.nil
      go_simp
      refine hSt.mono ?_
      rintro e w5 ⟨rfl, k5⟩
      have an5 := bzd.kept k5
      have hb4 := an5
      obtain ⟨r0, r1, r2, r3, r4, r5, rf⟩ := an5
      have g0 := rf 0; have g1 := rf 1; have g2 := rf 2; have g3 := rf 3; have g4 := rf 4; have g5 := rf 5
      (try go_wp2_with fail)
      refine hK.out _ _ ?_ (fun hHeld => ?_)
      · exact hS.out _ (k5.mono (by simp))
      clear hK K
      try simp only [Act.put, List.getElem_toArray, List.getElem_cons_zero, List.getElem_cons_succ, List.setIfInBounds_toArray, List.set_cons_zero, List.set_cons_succ]
      refine wpAnyH_take (i := 5) (v := ?_) rfl (by kernel_rfl) (by kernel_rfl) (by kernel_rfl) (fun _ _ _ h => h) (Or.inl ⟨by rfl, ?_⟩) (by assumption) ?_
      rotate_left
      · intro w hSw; (try dsimp only at hSw); go_simp <;> with_reducible rfl
      try simp only [Act.put, List.getElem_toArray, List.getElem_cons_zero, List.getElem_cons_succ, List.setIfInBounds_toArray, List.set_cons_zero, List.set_cons_succ]
      refine wpAnyH_ready (rs := [6]) (by kernel_rfl) (by simp) ?_
      refine AllReadyH.cons rfl (fun K hK => ?_) AllReadyH.nil
      go_simp
      (try go_wp2_with fail)
      refine hK.out _ _ ?_ (fun hHeld => ?_)
      · exact hS.out _ ((k5.mono (T := [q + 1]) (by simp)).trans (kpSet6 _ _ _ _ _ _ _ _) (fun x hx => .inl hx))
      clear hK K
      try simp only [Act.put, List.getElem_toArray, List.getElem_cons_zero, List.getElem_cons_succ, List.setIfInBounds_toArray, List.set_cons_zero, List.set_cons_succ]
      refine wpAnyH_take (i := 7) (v := ?_) rfl (by kernel_rfl) (by kernel_rfl) (by kernel_rfl) (fun _ _ _ h => h) (Or.inl ⟨by rfl, ?_⟩) (by assumption) ?_
      rotate_left
      · intro w hSw; (try dsimp only at hSw); go_simp <;> with_reducible rfl
      try simp only [Act.put, List.getElem_toArray, List.getElem_cons_zero, List.getElem_cons_succ, List.setIfInBounds_toArray, List.set_cons_zero, List.set_cons_succ]
      refine wpAnyH_done (by kernel_rfl) ?_ _
      go_wp2_with fail
      obtain ⟨W', hW', hb6, kW'⟩ := set6_ex (show B6 w5 (q + 1) _ _ _ _ _ _ from hb4) (.int .i64 room) (.int .i64 steps) (.slice fa lf.length fc) (.bool armed) (.bool dead) (.int .i64 left)
      rw [hW']
      obtain ⟨z0, z1, z2, z3, z4, z5, _⟩ := hb6
      refine bodyPost_ret (v := .tuple #[.pointer (some ⟨p', 0, none⟩), .agg #[.int .i64 room, .int .i64 steps, .slice fa lf.length fc, .bool armed, .bool dead, .int .i64 left], .bool true]) (by simp [results, Try.results10, go_sem, z0, z1, z2, z3, z4, z5]) rfl ?_
      exact hfin.out w5 k5 W' kW' hnz.out
end Go.Proofs.Ytgllkonbgigcbaa
end

section
namespace Go.Proofs.Ytgllkonbgigcbaa
open Go.RowKit Go.Hay
set_option linter.unusedVariables false
set_option linter.unusedSimpArgs false

/-- How the three stand behind j rounds. -/
def ClI (W1 : World) (q9 q12 q13 K J : Nat) (l1 l2 : List DOp) (v7 v10 v11 : Value) (j : Nat) (wn : World) : Prop :=
  ∃ s1 s2 s3 : Sl, v7 = .pointer (some ⟨s1.p, 0, none⟩) ∧ v10 = .pointer (some ⟨s2.p, 0, none⟩) ∧ v11 = .pointer (some ⟨s3.p, 0, none⟩) ∧ Grp W1 wn [s1, s2, s3] ∧ s1.q = q9 ∧ s2.q = q12 ∧ s3.q = q13 ∧ Lw (K + sumB (l1.take j)) (J + j) s1.d ∧ s1.d.steps ≤ J + j ∧ Lw (K + sumB (l2.take j)) (J + j) s2.d ∧ s2.d.steps ≤ J + j ∧ Lw (K + sumB (l2.take j)) (J + j) s3.d ∧ s3.d.steps ≤ J + j
theorem sumB_le1 (l : List DOp) : ∀ j, sumB (l.take j) ≤ sumB (l.take (j + 1)) := by
  induction l with
  | nil => intro j; simp
  | cons o l ih =>
    intro j
    cases j with
    | zero => simp [sumB]
    | succ j => have := ih j; simp only [sumB, List.take_succ_cons, List.map_cons, List.sum_cons] at *; omega
set_option maxHeartbeats 32000000 in
set_option maxRecDepth 100000 in
theorem clonesWalk (room : Int) (hroom : room < 9223372036854775808) (a0 : Option Addr) (c0 : Nat) (l0 : List DOp) (a1 : Option Addr) (c1 : Nat) (l1 : List DOp) (a2 : Option Addr) (c2 : Nat) (l2 : List DOp) (ka : Option Addr) (kc : Nat) (ks : List Int) (W : World)
    (hs0 : DOpE.See W a0 l0) (hok0 : ∀ o ∈ l0, o.ok W) (hb0 : sumB l0 ≤ 1048576) (hn0 : l0.length ≤ 1048576) (hs1 : DOpE.See W a1 l1) (hok1 : ∀ o ∈ l1, o.ok W) (hb1 : sumB l1 ≤ 1048576) (hn1 : l1.length ≤ 1048576) (hs2 : DOpE.See W a2 l2) (hok2 : ∀ o ∈ l2, o.ok W) (hb2 : sumB l2 ≤ 1048576) (hn2 : l2.length ≤ 1048576)
    (hks : Ints W ka ks) (hkl : ks.length ≤ kc) (hkc : kc ≤ maxLen) (hk64 : ∀ k ∈ ks, -9223372036854775808 ≤ k ∧ k < 9223372036854775808) :
    Calls Try.prog 7 #[.int .i64 room, .agg #[.slice a0 l0.length c0, .slice a1 l1.length c1, .slice a2 l2.length c2], .slice ka ks.length kc] W (fun e W' => e = .returned (.bool true) ∧ Kp [] W W') := by
  have hkc' : kc ≤ 9223372036854775807 := by unfold maxLen at hkc; omega
  obtain ⟨W1, hW1, kW1, bw⟩ : ∃ W1, W.alloc (.cells #[.slice a0 l0.length c0, .slice a1 l1.length c1, .slice a2 l2.length c2] 54) = W1 ∧ Kp [] W W1 ∧ B3 W1 W.heap.size (.slice a0 l0.length c0) (.slice a1 l1.length c1) (.slice a2 l2.length c2) := ⟨_, rfl, (Kp.refl _ _).alloc _, B3.at _ rfl _ _ _ _⟩
  have hw := hid hW1
  clear hW1
  go_enter Try.func7, Try.ntmps7
  go_wp2_with fail
  rw [hw.out]
  refine (cBegun room W1 hroom).mono ?_
  rintro e w1 ⟨p, mb, rfl, hD1, k1, hp, hmb⟩
  have hlt1 := hD1.lt
  have hnf : ∀ k ∈ foot p mb [], W1.heap.size ≤ k := fun k hk => by simp [foot] at hk; omega
  have mkP : Hid (∀ X A (r0 : RD), Kp [] w1 X → Kp [] X A → RdOk A r0 → Like r0 (newD room) → (∀ k ∈ r0.foot, k ∈ ([] : List Nat) ∨ X.heap.size ≤ k) → Pr W1 A p mb [] r0 (newD room)) := fun X A r0 kX kA hR hL hft => ⟨(hD1.keptNew kX).keptNew kA, hR, hL, (k1.trans kX (by simp)).trans kA (by simp), hnf, fun k hk h => by
    have h1 := hlt1 k h
    have h2 := kX.size
    rcases hft k hk with h3 | h3
    · cases h3
    · omega⟩
  have cR : Hid (∀ A (r0 : RD), Pr W1 A p mb [] r0 (newD room) → Calls Try.prog 10 #[.pointer (some ⟨p, 0, none⟩), r0.v, .slice a0 l0.length c0] A (RunR W1 A (foot p mb []) r0.foot (0 + sumB l0) (0 + l0.length) (0 + l0.length))) := fun A r0 P => cRun2 P ⟨by simp [newD, sumF], by simp [newD]⟩ (by simp [newD]) a0 c0 l0 (hs0.keptNew kW1) (fun o ho => (hok0 o ho).kept kW1) (by omega) (by omega) (by omega) hb0 hn0
  have hz1 := k1.size
  go_wp2_with fail
  refine wp_named (fun A0 hA0 => ?_)
  obtain ⟨Qj, hQj⟩ : ∃ Qj : Exit → Act → World → Prop, Qj = fun e a' w' => e = Exit.normal ∧ ∃ (q p' mb' : Nat) (xs' : List Ent) (r r0 : RD) (d' : Dk), Pr W1 w' p' mb' xs' r d' ∧ Lw (0 + sumB l0) (0 + l0.length) d' ∧ d'.steps ≤ 0 + l0.length ∧ RB w' q r ∧ W1.heap.size ≤ q ∧ q ∉ foot p' mb' xs' ∧ q ∉ r.foot ∧ a' = ((((((((((((A0.put (some 23) (.pointer (some ⟨p, 0, none⟩))).put (some 24) (.int .i64 room)).put (some 25) r0.v).put (some 26) (.pointer (some ⟨W.heap.size, 0, none⟩))).put (some 27) (.slice a0 l0.length c0)).put (some 28) (.tuple #[.pointer (some ⟨p', 0, none⟩), r.v, .bool true])).put (some 22) (.tuple #[.pointer (some ⟨p', 0, none⟩), r.v, .bool true])).put (some 29) (.pointer (some ⟨p', 0, none⟩))).put (some 30) r.v).put (some 31) (.bool true)).put (some 9) (.pointer (some ⟨q, 0, none⟩))).put (some 7) (.pointer (some ⟨p', 0, none⟩))).put (some 8) (.bool true) := ⟨_, rfl⟩
  have hbw : Hid (∀ A, Kp [] W1 A → A.cell? ⟨W.heap.size, 0, none⟩ = some (.slice a0 l0.length c0)) := fun A kA => cell_kp kA bw.c0
  have hbw1 : Hid (∀ A, Kp [] W1 A → A.cell? ⟨W.heap.size, 1, none⟩ = some (.slice a1 l1.length c1)) := fun A kA => cell_kp kA bw.c1
  have hbw2 : Hid (∀ A, Kp [] W1 A → A.cell? ⟨W.heap.size, 2, none⟩ = some (.slice a2 l2.length c2)) := fun A kA => cell_kp kA bw.c2
  have fin : Hid (∀ (X Y : World) (q p' mb' : Nat) (xs' : List Ent) (r r0 : RD) (d' : Dk) (a' : Act), Pr W1 X p' mb' xs' r d' → Lw (0 + sumB l0) (0 + l0.length) d' → d'.steps ≤ 0 + l0.length → RB Y q r → W1.heap.size ≤ q → q ∉ foot p' mb' xs' → q ∉ r.foot → Kp [q] X Y → a' = ((((((((((((A0.put (some 23) (.pointer (some ⟨p, 0, none⟩))).put (some 24) (.int .i64 room)).put (some 25) r0.v).put (some 26) (.pointer (some ⟨W.heap.size, 0, none⟩))).put (some 27) (.slice a0 l0.length c0)).put (some 28) (.tuple #[.pointer (some ⟨p', 0, none⟩), r.v, .bool true])).put (some 22) (.tuple #[.pointer (some ⟨p', 0, none⟩), r.v, .bool true])).put (some 29) (.pointer (some ⟨p', 0, none⟩))).put (some 30) r.v).put (some 31) (.bool true)).put (some 9) (.pointer (some ⟨q, 0, none⟩))).put (some 7) (.pointer (some ⟨p', 0, none⟩))).put (some 8) (.bool true) → Qj .normal a' Y) := fun X Y q p' mb' xs' r r0 d' a' P low st rb hq h1 h2 kY ha => by
    rw [hQj]
    exact ⟨rfl, q, p', mb', xs', r, r0, d', P.keepS kY (by simpa using h1) (by simpa using h2) (by simpa using hq), low, st, rb, hq, h1, h2, ha⟩
  have hQp : Hid (∀ c (a b : Act) w, Qj (.panic c) a w → Qj (.panic c) b w) := fun c a b w h => by rw [hQj] at h; cases h.1
  have hQj' := hid hQj
  have hA0' := hid hA0
  clear hQj
  refine Code.wp_mono (Q := Qj) ?_ ?_
  rotate_left
  · rw [hA0]
    clear hA0
    have kd : Kp [] w1 w1.drew := (Kp.refl _ _).drew
    refine wp_region_held_drew (S := (fun A => A.cell? ⟨W.heap.size, 0, none⟩ = some (.slice a0 l0.length c0))) (by kernel_rfl) ?_ (fun hHeld => ?_)
    · exact hbw.out _ (k1.trans kd (by simp))
    generalize w1.drew = wd at *
    refine wpAnyH_take (i := 0) (v := ?_) rfl (by kernel_rfl) (by kernel_rfl) (by kernel_rfl) (fun _ _ _ h => hQp.out _ _ _ _ h) (Or.inl ⟨by rfl, ?_⟩) (by assumption) ?_
    rotate_left
    · intro w hSw; (try dsimp only at hSw); go_simp <;> with_reducible rfl
    try simp only [Act.put, List.getElem_toArray, List.getElem_cons_zero, List.getElem_cons_succ, List.setIfInBounds_toArray, List.set_cons_zero, List.set_cons_succ]
    refine wpAnyH_take (i := 1) (v := ?_) rfl (by kernel_rfl) (by kernel_rfl) (by kernel_rfl) (fun _ _ _ h => hQp.out _ _ _ _ h) (Or.inl ⟨by rfl, ?_⟩) (by assumption) ?_
    rotate_left
    · intro w hSw; (try dsimp only at hSw); go_simp <;> with_reducible rfl
    try simp only [Act.put, List.getElem_toArray, List.getElem_cons_zero, List.getElem_cons_succ, List.setIfInBounds_toArray, List.set_cons_zero, List.set_cons_succ]
    refine wpAnyH_take (i := 3) (v := ?_) rfl (by kernel_rfl) (by kernel_rfl) (by kernel_rfl) (fun _ _ _ h => hQp.out _ _ _ _ h) (Or.inl ⟨by rfl, ?_⟩) (by assumption) ?_
    rotate_left
    · intro w hSw; (try dsimp only at hSw); go_simp <;> with_reducible rfl
    try simp only [Act.put, List.getElem_toArray, List.getElem_cons_zero, List.getElem_cons_succ, List.setIfInBounds_toArray, List.set_cons_zero, List.set_cons_succ]
    refine wpAnyH_take (i := 4) (v := ?_) rfl (by kernel_rfl) (by kernel_rfl) (by kernel_rfl) (fun _ _ _ h => hQp.out _ _ _ _ h) (Or.inl ⟨by rfl, ?_⟩) (by assumption) ?_
    rotate_left
    · intro w hSw; (try dsimp only at hSw); go_simp <;> with_reducible rfl
    try simp only [Act.put, List.getElem_toArray, List.getElem_cons_zero, List.getElem_cons_succ, List.setIfInBounds_toArray, List.set_cons_zero, List.set_cons_succ]
    refine wpAnyH_ready (rs := [2, 10]) (by kernel_rfl) (by simp) ?_
    refine (AllReadyH.cons rfl (fun K hK => ?_) (AllReadyH.cons rfl (fun K hK => ?_) AllReadyH.nil))
    · go_simp
      refine (cRefNew room _ hroom).mono ?_
      rintro e x2 ⟨v, rfl, r0, rfl, hrx2, hLx2, kx2, hftx2⟩
      (try go_wp2_with fail)
      refine hK.out _ _ ?_ (fun hHeld => ?_)
      · exact cell_kp kx2 hHeld
      clear hK K
      try simp only [Act.put, List.getElem_toArray, List.getElem_cons_zero, List.getElem_cons_succ, List.setIfInBounds_toArray, List.set_cons_zero, List.set_cons_succ]
      refine wpAnyH_ready (rs := [5, 10]) (by kernel_rfl) (by simp) ?_
      refine (AllReadyH.cons rfl (fun K hK => ?_) (AllReadyH.cons rfl (fun K hK => ?_) AllReadyH.nil))
      · go_simp
        refine (cR.out _ r0 (mkP.out wd x2 r0 kd kx2 hrx2 hLx2 hftx2)).mono ?_
        rintro e x3 ⟨p', mb', d', xs', r', rfl, Px3, lowx3, stx3, kFx3, nFx3, nRx3⟩
        (try go_wp2_with fail)
        refine hK.out _ _ ?_ (fun hHeld => ?_)
        · exact hbw.out _ Px3.kp
        clear hK K
        try simp only [Act.put, List.getElem_toArray, List.getElem_cons_zero, List.getElem_cons_succ, List.setIfInBounds_toArray, List.set_cons_zero, List.set_cons_succ]
        refine wpAnyH_take (i := 6) (v := ?_) rfl (by kernel_rfl) (by kernel_rfl) (by kernel_rfl) (fun _ _ _ h => hQp.out _ _ _ _ h) (Or.inl ⟨by rfl, ?_⟩) (by assumption) ?_
        rotate_left
        · intro w hSw; (try dsimp only at hSw); go_simp <;> with_reducible rfl
        try simp only [Act.put, List.getElem_toArray, List.getElem_cons_zero, List.getElem_cons_succ, List.setIfInBounds_toArray, List.set_cons_zero, List.set_cons_succ]
        refine wpAnyH_take (i := 7) (v := ?_) rfl (by kernel_rfl) (by kernel_rfl) (by kernel_rfl) (fun _ _ _ h => hQp.out _ _ _ _ h) (Or.inl ⟨by rfl, ?_⟩) (by assumption) ?_
        rotate_left
        · intro w hSw; (try dsimp only at hSw); go_simp <;> with_reducible rfl
        try simp only [Act.put, List.getElem_toArray, List.getElem_cons_zero, List.getElem_cons_succ, List.setIfInBounds_toArray, List.set_cons_zero, List.set_cons_succ]
        refine wpAnyH_take (i := 8) (v := ?_) rfl (by kernel_rfl) (by kernel_rfl) (by kernel_rfl) (fun _ _ _ h => hQp.out _ _ _ _ h) (Or.inl ⟨by rfl, ?_⟩) (by assumption) ?_
        rotate_left
        · intro w hSw; (try dsimp only at hSw); go_simp <;> with_reducible rfl
        try simp only [Act.put, List.getElem_toArray, List.getElem_cons_zero, List.getElem_cons_succ, List.setIfInBounds_toArray, List.set_cons_zero, List.set_cons_succ]
        refine wpAnyH_take (i := 9) (v := ?_) rfl (by kernel_rfl) (by kernel_rfl) (by kernel_rfl) (fun _ _ _ h => hQp.out _ _ _ _ h) (Or.inl ⟨by rfl, ?_⟩) (by assumption) ?_
        rotate_left
        · intro w hSw; (try dsimp only at hSw); go_simp <;> with_reducible rfl
        try simp only [Act.put, List.getElem_toArray, List.getElem_cons_zero, List.getElem_cons_succ, List.setIfInBounds_toArray, List.set_cons_zero, List.set_cons_succ]
        refine wpAnyH_ready (rs := [10]) (by kernel_rfl) (by simp) ?_
        refine AllReadyH.cons rfl (fun K hK => ?_) AllReadyH.nil
        go_simp
        obtain ⟨x4, hwx4, kx4, bzx4, hsx4⟩ : ∃ wz, x3.alloc (.cells #[.int .i64 0, .int .i64 0, .slice none 0 0, .bool false, .bool false, .int .i64 0] 28) = wz ∧ Kp [] x3 wz ∧ B6 wz x3.heap.size (.int .i64 0) (.int .i64 0) (.slice none 0 0) (.bool false) (.bool false) (.int .i64 0) ∧ x3.heap.size < wz.heap.size := ⟨_, rfl, (Kp.refl _ _).alloc _, B6.at _ rfl _ _ _ _ _ _ _, by simp⟩
        rw [hwx4]
        (try go_wp2_with fail)
        refine hK.out _ _ ?_ (fun hHeld => ?_)
        · exact cell_kp kx4 hHeld
        clear hK K
        try simp only [Act.put, List.getElem_toArray, List.getElem_cons_zero, List.getElem_cons_succ, List.setIfInBounds_toArray, List.set_cons_zero, List.set_cons_succ]
        have hb4 := bzx4
        obtain ⟨r0a, r1a, r2a, r3a, r4a, r5a, rfa⟩ := hb4
        have hb4 := (bzx4)
        have g0 := rfa 0; have g1 := rfa 1; have g2 := rfa 2; have g3 := rfa 3; have g4 := rfa 4; have g5 := rfa 5
        obtain ⟨room', steps', fa', fc', l', armed', dead', left'⟩ := r'
        simp only [RD.v] at *
        refine wpAnyH_take (i := 11) (v := ?_) rfl (by kernel_rfl) (by kernel_rfl) (by kernel_rfl) (fun _ _ _ h => hQp.out _ _ _ _ h) (Or.inl ⟨by rfl, ?_⟩) (by assumption) ?_
        rotate_left
        · intro w hSw; (try dsimp only at hSw); go_simp <;> with_reducible rfl
        try simp only [Act.put, List.getElem_toArray, List.getElem_cons_zero, List.getElem_cons_succ, List.setIfInBounds_toArray, List.set_cons_zero, List.set_cons_succ]
        refine wpAnyH_ready (rs := [12]) (by kernel_rfl) (by simp) ?_
        refine AllReadyH.cons rfl (fun K hK => ?_) AllReadyH.nil
        go_simp
        (try go_wp2_with fail)
        refine hK.out _ _ ?_ (fun hHeld => ?_)
        · exact hbw.out _ (((Px3.kp).trans kx4 (by simp)).trans (kpSet6 _ _ _ _ _ _ _ _) (fun x hx => .inr (by have := Px3.kp.size; simp at hx; omega)))
        clear hK K
        try simp only [Act.put, List.getElem_toArray, List.getElem_cons_zero, List.getElem_cons_succ, List.setIfInBounds_toArray, List.set_cons_zero, List.set_cons_succ]
        refine wpAnyH_take (i := 13) (v := ?_) rfl (by kernel_rfl) (by kernel_rfl) (by kernel_rfl) (fun _ _ _ h => hQp.out _ _ _ _ h) (Or.inl ⟨by rfl, ?_⟩) (by assumption) ?_
        rotate_left
        · intro w hSw; (try dsimp only at hSw); go_simp <;> with_reducible rfl
        try simp only [Act.put, List.getElem_toArray, List.getElem_cons_zero, List.getElem_cons_succ, List.setIfInBounds_toArray, List.set_cons_zero, List.set_cons_succ]
        refine wpAnyH_done (by kernel_rfl) ?_ _
        obtain ⟨W', hW', hb6, kW'⟩ := set6_ex hb4 (.int .i64 room') (.int .i64 steps') (.slice fa' l'.length fc') (.bool armed') (.bool dead') (.int .i64 left')
        rw [hW']
        exact fin.out x4 W' x3.heap.size p' mb' xs' ⟨room', steps', fa', fc', l', armed', dead', left'⟩ r0 d' _ (Px3.keep kx4) lowx3 stx3 hb6 (by have := Px3.kp.size; omega) (fun h => by have := Px3.D.lt _ h; omega) (fun h => by have := Px3.R.lt _ h; omega) kW' (by rw [hA0'.out]; simp only [Act.put, List.setIfInBounds_toArray, List.set_cons_zero, List.set_cons_succ, RD.v])
      · go_simp
        obtain ⟨x3, hwx3, kx3, bzx3, hsx3⟩ : ∃ wz, x2.alloc (.cells #[.int .i64 0, .int .i64 0, .slice none 0 0, .bool false, .bool false, .int .i64 0] 28) = wz ∧ Kp [] x2 wz ∧ B6 wz x2.heap.size (.int .i64 0) (.int .i64 0) (.slice none 0 0) (.bool false) (.bool false) (.int .i64 0) ∧ x2.heap.size < wz.heap.size := ⟨_, rfl, (Kp.refl _ _).alloc _, B6.at _ rfl _ _ _ _ _ _ _, by simp⟩
        rw [hwx3]
        (try go_wp2_with fail)
        refine hK.out _ _ ?_ (fun hHeld => ?_)
        · exact cell_kp kx3 hHeld
        clear hK K
        try simp only [Act.put, List.getElem_toArray, List.getElem_cons_zero, List.getElem_cons_succ, List.setIfInBounds_toArray, List.set_cons_zero, List.set_cons_succ]
        refine wpAnyH_ready (rs := [5]) (by kernel_rfl) (by simp) ?_
        refine AllReadyH.cons rfl (fun K hK => ?_) AllReadyH.nil
        go_simp
        refine (cR.out _ r0 ((mkP.out wd x2 r0 kd kx2 hrx2 hLx2 hftx2).keep kx3)).mono ?_
        rintro e x4 ⟨p', mb', d', xs', r', rfl, Px4, lowx4, stx4, kFx4, nFx4, nRx4⟩
        (try go_wp2_with fail)
        refine hK.out _ _ ?_ (fun hHeld => ?_)
        · exact hbw.out _ Px4.kp
        clear hK K
        try simp only [Act.put, List.getElem_toArray, List.getElem_cons_zero, List.getElem_cons_succ, List.setIfInBounds_toArray, List.set_cons_zero, List.set_cons_succ]
        have hqF : x2.heap.size ∉ foot p mb [] := fun h => by have := hlt1 _ h; have := kd.size; have := kx2.size; omega
        have bzq := bzx3.keptS kFx4 hqF
        have hqW2 : W1.heap.size ≤ x2.heap.size := by have := kd.size; have := kx2.size; omega
        have hq1 : x2.heap.size ∉ foot p' mb' xs' := fun h => by
          rcases nFx4 _ h with h | h
          · exact hqF h
          · omega
        have hq2 : x2.heap.size ∉ r'.foot := fun h => by
          rcases nRx4 _ h with h | h
          · have := hrx2.lt _ h; omega
          · omega
        refine wpAnyH_take (i := 6) (v := ?_) rfl (by kernel_rfl) (by kernel_rfl) (by kernel_rfl) (fun _ _ _ h => hQp.out _ _ _ _ h) (Or.inl ⟨by rfl, ?_⟩) (by assumption) ?_
        rotate_left
        · intro w hSw; (try dsimp only at hSw); go_simp <;> with_reducible rfl
        try simp only [Act.put, List.getElem_toArray, List.getElem_cons_zero, List.getElem_cons_succ, List.setIfInBounds_toArray, List.set_cons_zero, List.set_cons_succ]
        refine wpAnyH_take (i := 7) (v := ?_) rfl (by kernel_rfl) (by kernel_rfl) (by kernel_rfl) (fun _ _ _ h => hQp.out _ _ _ _ h) (Or.inl ⟨by rfl, ?_⟩) (by assumption) ?_
        rotate_left
        · intro w hSw; (try dsimp only at hSw); go_simp <;> with_reducible rfl
        try simp only [Act.put, List.getElem_toArray, List.getElem_cons_zero, List.getElem_cons_succ, List.setIfInBounds_toArray, List.set_cons_zero, List.set_cons_succ]
        refine wpAnyH_take (i := 8) (v := ?_) rfl (by kernel_rfl) (by kernel_rfl) (by kernel_rfl) (fun _ _ _ h => hQp.out _ _ _ _ h) (Or.inl ⟨by rfl, ?_⟩) (by assumption) ?_
        rotate_left
        · intro w hSw; (try dsimp only at hSw); go_simp <;> with_reducible rfl
        try simp only [Act.put, List.getElem_toArray, List.getElem_cons_zero, List.getElem_cons_succ, List.setIfInBounds_toArray, List.set_cons_zero, List.set_cons_succ]
        refine wpAnyH_take (i := 9) (v := ?_) rfl (by kernel_rfl) (by kernel_rfl) (by kernel_rfl) (fun _ _ _ h => hQp.out _ _ _ _ h) (Or.inl ⟨by rfl, ?_⟩) (by assumption) ?_
        rotate_left
        · intro w hSw; (try dsimp only at hSw); go_simp <;> with_reducible rfl
        try simp only [Act.put, List.getElem_toArray, List.getElem_cons_zero, List.getElem_cons_succ, List.setIfInBounds_toArray, List.set_cons_zero, List.set_cons_succ]
        have hb4 := bzq
        obtain ⟨r0a, r1a, r2a, r3a, r4a, r5a, rfa⟩ := hb4
        have hb4 := (bzq)
        have g0 := rfa 0; have g1 := rfa 1; have g2 := rfa 2; have g3 := rfa 3; have g4 := rfa 4; have g5 := rfa 5
        obtain ⟨room', steps', fa', fc', l', armed', dead', left'⟩ := r'
        simp only [RD.v] at *
        refine wpAnyH_take (i := 11) (v := ?_) rfl (by kernel_rfl) (by kernel_rfl) (by kernel_rfl) (fun _ _ _ h => hQp.out _ _ _ _ h) (Or.inl ⟨by rfl, ?_⟩) (by assumption) ?_
        rotate_left
        · intro w hSw; (try dsimp only at hSw); go_simp <;> with_reducible rfl
        try simp only [Act.put, List.getElem_toArray, List.getElem_cons_zero, List.getElem_cons_succ, List.setIfInBounds_toArray, List.set_cons_zero, List.set_cons_succ]
        refine wpAnyH_ready (rs := [12]) (by kernel_rfl) (by simp) ?_
        refine AllReadyH.cons rfl (fun K hK => ?_) AllReadyH.nil
        go_simp
        (try go_wp2_with fail)
        refine hK.out _ _ ?_ (fun hHeld => ?_)
        · exact hbw.out _ ((Px4.kp).trans (kpSet6 _ _ _ _ _ _ _ _) (fun x hx => .inr (by simp at hx; omega)))
        clear hK K
        try simp only [Act.put, List.getElem_toArray, List.getElem_cons_zero, List.getElem_cons_succ, List.setIfInBounds_toArray, List.set_cons_zero, List.set_cons_succ]
        refine wpAnyH_take (i := 13) (v := ?_) rfl (by kernel_rfl) (by kernel_rfl) (by kernel_rfl) (fun _ _ _ h => hQp.out _ _ _ _ h) (Or.inl ⟨by rfl, ?_⟩) (by assumption) ?_
        rotate_left
        · intro w hSw; (try dsimp only at hSw); go_simp <;> with_reducible rfl
        try simp only [Act.put, List.getElem_toArray, List.getElem_cons_zero, List.getElem_cons_succ, List.setIfInBounds_toArray, List.set_cons_zero, List.set_cons_succ]
        refine wpAnyH_done (by kernel_rfl) ?_ _
        obtain ⟨W', hW', hb6, kW'⟩ := set6_ex hb4 (.int .i64 room') (.int .i64 steps') (.slice fa' l'.length fc') (.bool armed') (.bool dead') (.int .i64 left')
        rw [hW']
        exact fin.out x4 W' x2.heap.size p' mb' xs' ⟨room', steps', fa', fc', l', armed', dead', left'⟩ r0 d' _ Px4 lowx4 stx4 hb6 hqW2 hq1 hq2 kW' (by rw [hA0'.out]; simp only [Act.put, List.setIfInBounds_toArray, List.set_cons_zero, List.set_cons_succ, RD.v])
    · go_simp
      obtain ⟨x2, hwx2, kx2, bzx2, hsx2⟩ : ∃ wz, wd.alloc (.cells #[.int .i64 0, .int .i64 0, .slice none 0 0, .bool false, .bool false, .int .i64 0] 28) = wz ∧ Kp [] wd wz ∧ B6 wz wd.heap.size (.int .i64 0) (.int .i64 0) (.slice none 0 0) (.bool false) (.bool false) (.int .i64 0) ∧ wd.heap.size < wz.heap.size := ⟨_, rfl, (Kp.refl _ _).alloc _, B6.at _ rfl _ _ _ _ _ _ _, by simp⟩
      rw [hwx2]
      (try go_wp2_with fail)
      refine hK.out _ _ ?_ (fun hHeld => ?_)
      · exact cell_kp kx2 hHeld
      clear hK K
      try simp only [Act.put, List.getElem_toArray, List.getElem_cons_zero, List.getElem_cons_succ, List.setIfInBounds_toArray, List.set_cons_zero, List.set_cons_succ]
      refine wpAnyH_ready (rs := [2]) (by kernel_rfl) (by simp) ?_
      refine AllReadyH.cons rfl (fun K hK => ?_) AllReadyH.nil
      go_simp
      refine (cRefNew room _ hroom).mono ?_
      rintro e x3 ⟨v, rfl, r0, rfl, hrx3, hLx3, kx3, hftx3⟩
      (try go_wp2_with fail)
      refine hK.out _ _ ?_ (fun hHeld => ?_)
      · exact cell_kp kx3 hHeld
      clear hK K
      try simp only [Act.put, List.getElem_toArray, List.getElem_cons_zero, List.getElem_cons_succ, List.setIfInBounds_toArray, List.set_cons_zero, List.set_cons_succ]
      refine wpAnyH_ready (rs := [5]) (by kernel_rfl) (by simp) ?_
      refine AllReadyH.cons rfl (fun K hK => ?_) AllReadyH.nil
      go_simp
      refine (cR.out _ r0 (mkP.out x2 x3 r0 (kd.trans kx2 (by simp)) kx3 hrx3 hLx3 hftx3)).mono ?_
      rintro e x4 ⟨p', mb', d', xs', r', rfl, Px4, lowx4, stx4, kFx4, nFx4, nRx4⟩
      (try go_wp2_with fail)
      refine hK.out _ _ ?_ (fun hHeld => ?_)
      · exact hbw.out _ Px4.kp
      clear hK K
      try simp only [Act.put, List.getElem_toArray, List.getElem_cons_zero, List.getElem_cons_succ, List.setIfInBounds_toArray, List.set_cons_zero, List.set_cons_succ]
      have hqF : wd.heap.size ∉ foot p mb [] := fun h => by have := hlt1 _ h; have := kd.size; omega
      have bzq := (bzx2.kept kx3).keptS kFx4 hqF
      have hqW2 : W1.heap.size ≤ wd.heap.size := by have := kd.size; omega
      have hq1 : wd.heap.size ∉ foot p' mb' xs' := fun h => by
        rcases nFx4 _ h with h | h
        · exact hqF h
        · have := kx3.size; omega
      have hq2 : wd.heap.size ∉ r'.foot := fun h => by
        rcases nRx4 _ h with h | h
        · rcases hftx3 _ h with h | h
          · cases h
          · omega
        · have := kx3.size; omega
      refine wpAnyH_take (i := 6) (v := ?_) rfl (by kernel_rfl) (by kernel_rfl) (by kernel_rfl) (fun _ _ _ h => hQp.out _ _ _ _ h) (Or.inl ⟨by rfl, ?_⟩) (by assumption) ?_
      rotate_left
      · intro w hSw; (try dsimp only at hSw); go_simp <;> with_reducible rfl
      try simp only [Act.put, List.getElem_toArray, List.getElem_cons_zero, List.getElem_cons_succ, List.setIfInBounds_toArray, List.set_cons_zero, List.set_cons_succ]
      refine wpAnyH_take (i := 7) (v := ?_) rfl (by kernel_rfl) (by kernel_rfl) (by kernel_rfl) (fun _ _ _ h => hQp.out _ _ _ _ h) (Or.inl ⟨by rfl, ?_⟩) (by assumption) ?_
      rotate_left
      · intro w hSw; (try dsimp only at hSw); go_simp <;> with_reducible rfl
      try simp only [Act.put, List.getElem_toArray, List.getElem_cons_zero, List.getElem_cons_succ, List.setIfInBounds_toArray, List.set_cons_zero, List.set_cons_succ]
      refine wpAnyH_take (i := 8) (v := ?_) rfl (by kernel_rfl) (by kernel_rfl) (by kernel_rfl) (fun _ _ _ h => hQp.out _ _ _ _ h) (Or.inl ⟨by rfl, ?_⟩) (by assumption) ?_
      rotate_left
      · intro w hSw; (try dsimp only at hSw); go_simp <;> with_reducible rfl
      try simp only [Act.put, List.getElem_toArray, List.getElem_cons_zero, List.getElem_cons_succ, List.setIfInBounds_toArray, List.set_cons_zero, List.set_cons_succ]
      refine wpAnyH_take (i := 9) (v := ?_) rfl (by kernel_rfl) (by kernel_rfl) (by kernel_rfl) (fun _ _ _ h => hQp.out _ _ _ _ h) (Or.inl ⟨by rfl, ?_⟩) (by assumption) ?_
      rotate_left
      · intro w hSw; (try dsimp only at hSw); go_simp <;> with_reducible rfl
      try simp only [Act.put, List.getElem_toArray, List.getElem_cons_zero, List.getElem_cons_succ, List.setIfInBounds_toArray, List.set_cons_zero, List.set_cons_succ]
      have hb4 := bzq
      obtain ⟨r0a, r1a, r2a, r3a, r4a, r5a, rfa⟩ := hb4
      have hb4 := (bzq)
      have g0 := rfa 0; have g1 := rfa 1; have g2 := rfa 2; have g3 := rfa 3; have g4 := rfa 4; have g5 := rfa 5
      obtain ⟨room', steps', fa', fc', l', armed', dead', left'⟩ := r'
      simp only [RD.v] at *
      refine wpAnyH_take (i := 11) (v := ?_) rfl (by kernel_rfl) (by kernel_rfl) (by kernel_rfl) (fun _ _ _ h => hQp.out _ _ _ _ h) (Or.inl ⟨by rfl, ?_⟩) (by assumption) ?_
      rotate_left
      · intro w hSw; (try dsimp only at hSw); go_simp <;> with_reducible rfl
      try simp only [Act.put, List.getElem_toArray, List.getElem_cons_zero, List.getElem_cons_succ, List.setIfInBounds_toArray, List.set_cons_zero, List.set_cons_succ]
      refine wpAnyH_ready (rs := [12]) (by kernel_rfl) (by simp) ?_
      refine AllReadyH.cons rfl (fun K hK => ?_) AllReadyH.nil
      go_simp
      (try go_wp2_with fail)
      refine hK.out _ _ ?_ (fun hHeld => ?_)
      · exact hbw.out _ ((Px4.kp).trans (kpSet6 _ _ _ _ _ _ _ _) (fun x hx => .inr (by simp at hx; omega)))
      clear hK K
      try simp only [Act.put, List.getElem_toArray, List.getElem_cons_zero, List.getElem_cons_succ, List.setIfInBounds_toArray, List.set_cons_zero, List.set_cons_succ]
      refine wpAnyH_take (i := 13) (v := ?_) rfl (by kernel_rfl) (by kernel_rfl) (by kernel_rfl) (fun _ _ _ h => hQp.out _ _ _ _ h) (Or.inl ⟨by rfl, ?_⟩) (by assumption) ?_
      rotate_left
      · intro w hSw; (try dsimp only at hSw); go_simp <;> with_reducible rfl
      try simp only [Act.put, List.getElem_toArray, List.getElem_cons_zero, List.getElem_cons_succ, List.setIfInBounds_toArray, List.set_cons_zero, List.set_cons_succ]
      refine wpAnyH_done (by kernel_rfl) ?_ _
      obtain ⟨W', hW', hb6, kW'⟩ := set6_ex hb4 (.int .i64 room') (.int .i64 steps') (.slice fa' l'.length fc') (.bool armed') (.bool dead') (.int .i64 left')
      rw [hW']
      exact fin.out x4 W' wd.heap.size p' mb' xs' ⟨room', steps', fa', fc', l', armed', dead', left'⟩ r0 d' _ Px4 lowx4 stx4 hb6 hqW2 hq1 hq2 kW' (by rw [hA0'.out]; simp only [Act.put, List.setIfInBounds_toArray, List.set_cons_zero, List.set_cons_succ, RD.v])
  · clear fin mkP cR hA0
    intro e a' w' hq
    rw [hQj'.out] at hq
    obtain ⟨rfl, q9, p1, mb1, xs1, r, r00, d, P, low, hst, rb, hqW, hqf, hqr, rfl⟩ := hq
    rw [hA0'.out]
    clear hA0' hQj' hD1
    simp only [Act.put, List.getElem_toArray, List.getElem_cons_zero, List.getElem_cons_succ, List.setIfInBounds_toArray, List.set_cons_zero, List.set_cons_succ]
    go_wp2_with fail
    have hsm : Small d := low.small (by omega)
    have hN : xs1.length ≤ 1000000000000 := by have := len_of P.D; have := low.len; omega
    refine (cClone P.D hsm hN).mono ?_
    rintro e w6 ⟨p2, mb2, xs2, rfl, D2, k6, n2⟩
    have P6 := P.keep k6
    have aC := cCrash P6.D hsm hN ka kc ks ((hks.kept kW1).kept P6.kp) hkl hkc' hk64
    go_wp2_with fail
    refine aC.mono ?_
    rintro e w7 ⟨p3, mb3, xs3, rfl, D3, k7, n3⟩
    have P7 := P6.keep k7
    have kw7 : Kp [] w' w7 := k6.trans k7 (by simp)
    have cCr : Hid (∀ A, Kp [] w7 A → Calls Try.prog 24 #[r.v, .slice ka ks.length kc] A (fun e w' => ∃ v, e = .returned v ∧ RefP [] (crashD d ks) A v w')) := fun A kA => cRefCrash r d A (P7.R.keptNew kA) P.L P.D.ok (by have := congrArg List.length P.L.files; have := low.len; simp at *; omega) (fun f hf => by have := hsm f.fl (by rw [← P.L.files]; exact List.mem_map_of_mem hf); exact this) ka kc ks (((hks.kept kW1).kept P7.kp).kept kA) hkl hkc' hk64
    clear aC
    obtain ⟨room'', steps'', fa'', fc'', l'', armed'', dead'', left''⟩ := r00
    obtain ⟨roomx, stepsx, fax, fcx, lx, armedx, deadx, leftx⟩ := r
    simp only [RD.v] at *
    have rb7 := B6.kept rb kw7
    go_wp2_with fail
    refine wp_named (fun A1 hA1 => ?_)
    obtain ⟨Qk, hQk⟩ : ∃ Qk : Exit → Act → World → Prop, Qk = fun e a' w' => e = Exit.normal ∧ ∃ (q12 q13 : Nat) (rt : RD), Grp W1 w' [⟨p1, mb1, xs1, ⟨roomx, stepsx, fax, fcx, lx, armedx, deadx, leftx⟩, d, q9⟩, ⟨p2, mb2, xs2, ⟨roomx, stepsx, fax, fcx, lx, armedx, deadx, leftx⟩, d, q12⟩, ⟨p3, mb3, xs3, rt, crashD d ks, q13⟩] ∧ a' = (((((A1.put (some 45) (RD.v ⟨roomx, stepsx, fax, fcx, lx, armedx, deadx, leftx⟩)).put (some 46) (RD.v ⟨roomx, stepsx, fax, fcx, lx, armedx, deadx, leftx⟩)).put (some 47) (.slice ka ks.length kc)).put (some 48) rt.v).put (some 12) (.pointer (some ⟨q12, 0, none⟩))).put (some 13) (.pointer (some ⟨q13, 0, none⟩)) := ⟨_, rfl⟩
    have fin : Hid (∀ (Y : World) (q12 q13 : Nat) (rt : RD) (a' : Act), Kp [] w7 Y → RdOk Y rt → Like rt (crashD d ks) → (∀ k ∈ rt.foot, w7.heap.size ≤ k) → w7.heap.size ≤ q12 → w7.heap.size ≤ q13 → q12 ≠ q13 → q12 ∉ rt.foot → q13 ∉ rt.foot → RB Y q12 ⟨roomx, stepsx, fax, fcx, lx, armedx, deadx, leftx⟩ → RB Y q13 rt → a' = (((((A1.put (some 45) (RD.v ⟨roomx, stepsx, fax, fcx, lx, armedx, deadx, leftx⟩)).put (some 46) (RD.v ⟨roomx, stepsx, fax, fcx, lx, armedx, deadx, leftx⟩)).put (some 47) (.slice ka ks.length kc)).put (some 48) rt.v).put (some 12) (.pointer (some ⟨q12, 0, none⟩))).put (some 13) (.pointer (some ⟨q13, 0, none⟩)) → Qk .normal a' Y) := fun Y q12 q13 rt a' kY hR hL hrt h2 h3 h23 h2r h3r B2 B3 ha => by
      rw [hQk]
      exact ⟨rfl, q12, q13, rt, Grp.three P rb hqW hqf hqr k6 D2 n2 k7 D3 n3 kY hR hL hrt h2 h3 h23 h2r h3r B2 B3, ha⟩
    have hQp : Hid (∀ c (a b : Act) w, Qk (.panic c) a w → Qk (.panic c) b w) := fun c a b w h => by rw [hQk] at h; cases h.1
    have hQk' := hid hQk
    have hA1' := hid hA1
    clear hQk
    refine Code.wp_mono (Q := Qk) ?_ ?_
    rotate_left
    · rw [hA1]
      clear hA1
      have kd : Kp [] w7 w7.drew := (Kp.refl _ _).drew
      have hS : Hid (∀ A, Kp [] w7 A → (A.cell? ⟨q9, 0, none⟩ = some (.int .i64 roomx) ∧ A.cell? ⟨q9, 1, none⟩ = some (.int .i64 stepsx) ∧ A.cell? ⟨q9, 2, none⟩ = some (.slice fax lx.length fcx) ∧ A.cell? ⟨q9, 3, none⟩ = some (.bool armedx) ∧ A.cell? ⟨q9, 4, none⟩ = some (.bool deadx) ∧ A.cell? ⟨q9, 5, none⟩ = some (.int .i64 leftx))) := fun A kA => by
        have b := B6.kept rb7 kA
        exact ⟨b.c0, b.c1, b.c2, b.c3, b.c4, b.c5⟩
      refine wp_region_held_drew (S := (fun A => A.cell? ⟨q9, 0, none⟩ = some (.int .i64 roomx) ∧ A.cell? ⟨q9, 1, none⟩ = some (.int .i64 stepsx) ∧ A.cell? ⟨q9, 2, none⟩ = some (.slice fax lx.length fcx) ∧ A.cell? ⟨q9, 3, none⟩ = some (.bool armedx) ∧ A.cell? ⟨q9, 4, none⟩ = some (.bool deadx) ∧ A.cell? ⟨q9, 5, none⟩ = some (.int .i64 leftx))) (by kernel_rfl) ?_ (fun hHeld => ?_)
      · exact hS.out _ kd
      generalize w7.drew = wd at *
      refine wpAnyH_take (i := 0) (v := ?_) rfl (by kernel_rfl) (by kernel_rfl) (by kernel_rfl) (fun _ _ _ h => hQp.out _ _ _ _ h) (Or.inl ⟨by rfl, ?_⟩) (by assumption) ?_
      rotate_left
      · intro w hSw; (try dsimp only at hSw); go_simp <;> with_reducible rfl
      try simp only [Act.put, List.getElem_toArray, List.getElem_cons_zero, List.getElem_cons_succ, List.setIfInBounds_toArray, List.set_cons_zero, List.set_cons_succ]
      refine wpAnyH_take (i := 1) (v := ?_) rfl (by kernel_rfl) (by kernel_rfl) (by kernel_rfl) (fun _ _ _ h => hQp.out _ _ _ _ h) (Or.inl ⟨by rfl, ?_⟩) (by assumption) ?_
      rotate_left
      · intro w hSw; (try dsimp only at hSw); go_simp <;> with_reducible rfl
      try simp only [Act.put, List.getElem_toArray, List.getElem_cons_zero, List.getElem_cons_succ, List.setIfInBounds_toArray, List.set_cons_zero, List.set_cons_succ]
      refine wpAnyH_take (i := 2) (v := ?_) rfl (by kernel_rfl) (by kernel_rfl) (by kernel_rfl) (fun _ _ _ h => hQp.out _ _ _ _ h) (Or.inl ⟨by rfl, ?_⟩) (by assumption) ?_
      rotate_left
      · intro w hSw; (try dsimp only at hSw); go_simp <;> with_reducible rfl
      try simp only [Act.put, List.getElem_toArray, List.getElem_cons_zero, List.getElem_cons_succ, List.setIfInBounds_toArray, List.set_cons_zero, List.set_cons_succ]
      refine wpAnyH_ready (rs := [3, 4, 5]) (by kernel_rfl) (by simp) ?_
      refine (AllReadyH.cons rfl (fun K hK => ?_) (AllReadyH.cons rfl (fun K hK => ?_) (AllReadyH.cons rfl (fun K hK => ?_) AllReadyH.nil)))
      · go_simp
        refine (cCr.out _ (kd.trans (Kp.refl [] wd) (by simp))).mono ?_
        rintro e x1 ⟨v, rfl, rt, rfl, hRx1, hLx1, kx1, hftx1⟩
        (try go_wp2_with fail)
        refine hK.out _ _ ?_ (fun hHeld => ?_)
        · exact hS.out _ (kd.trans ((Kp.refl [] wd).trans kx1 (by simp)) (by simp))
        clear hK K
        try simp only [Act.put, List.getElem_toArray, List.getElem_cons_zero, List.getElem_cons_succ, List.setIfInBounds_toArray, List.set_cons_zero, List.set_cons_succ]
        refine wpAnyH_ready (rs := [4, 5]) (by kernel_rfl) (by simp) ?_
        refine (AllReadyH.cons rfl (fun K hK => ?_) (AllReadyH.cons rfl (fun K hK => ?_) AllReadyH.nil))
        · go_simp
          obtain ⟨x2, hwx2, kx2, bzx2, hsx2⟩ : ∃ wz, x1.alloc (.cells #[.int .i64 0, .int .i64 0, .slice none 0 0, .bool false, .bool false, .int .i64 0] 28) = wz ∧ Kp [] x1 wz ∧ B6 wz x1.heap.size (.int .i64 0) (.int .i64 0) (.slice none 0 0) (.bool false) (.bool false) (.int .i64 0) ∧ x1.heap.size < wz.heap.size := ⟨_, rfl, (Kp.refl _ _).alloc _, B6.at _ rfl _ _ _ _ _ _ _, by simp⟩
          rw [hwx2]
          (try go_wp2_with fail)
          refine hK.out _ _ ?_ (fun hHeld => ?_)
          · exact hS.out _ (kd.trans (((Kp.refl [] wd).trans kx1 (by simp)).trans kx2 (by simp)) (by simp))
          clear hK K
          try simp only [Act.put, List.getElem_toArray, List.getElem_cons_zero, List.getElem_cons_succ, List.setIfInBounds_toArray, List.set_cons_zero, List.set_cons_succ]
          refine wpAnyH_ready (rs := [5]) (by kernel_rfl) (by simp) ?_
          refine AllReadyH.cons rfl (fun K hK => ?_) AllReadyH.nil
          go_simp
          obtain ⟨x3, hwx3, kx3, bzx3, hsx3⟩ : ∃ wz, x2.alloc (.cells #[.int .i64 0, .int .i64 0, .slice none 0 0, .bool false, .bool false, .int .i64 0] 28) = wz ∧ Kp [] x2 wz ∧ B6 wz x2.heap.size (.int .i64 0) (.int .i64 0) (.slice none 0 0) (.bool false) (.bool false) (.int .i64 0) ∧ x2.heap.size < wz.heap.size := ⟨_, rfl, (Kp.refl _ _).alloc _, B6.at _ rfl _ _ _ _ _ _ _, by simp⟩
          rw [hwx3]
          (try go_wp2_with fail)
          refine hK.out _ _ ?_ (fun hHeld => ?_)
          · exact hS.out _ (kd.trans ((((Kp.refl [] wd).trans kx1 (by simp)).trans kx2 (by simp)).trans kx3 (by simp)) (by simp))
          clear hK K
          try simp only [Act.put, List.getElem_toArray, List.getElem_cons_zero, List.getElem_cons_succ, List.setIfInBounds_toArray, List.set_cons_zero, List.set_cons_succ]
          have bq12 := bzx2.kept ((Kp.refl [] x2).trans kx3 (by simp))
          have bq13 := bzx3.kept (Kp.refl [] x3)
          have kX := (kd.trans ((((Kp.refl [] wd).trans kx1 (by simp)).trans kx2 (by simp)).trans kx3 (by simp)) (by simp))
          have hRx := hRx1.keptNew (((Kp.refl [] x1).trans kx2 (by simp)).trans kx3 (by simp))
          have hlrt := hRx1.lt
          have hfrt := hftx1
          have z0 := kx1.size
          have z1 := kx2.size
          have z2 := kx3.size
          have zd := kd.size
          have hrt : ∀ k ∈ rt.foot, w7.heap.size ≤ k := fun k hk => by
            rcases hfrt k hk with h | h
            · cases h
            · omega
          have h4r : x1.heap.size ∉ rt.foot := fun hx => by have := hlrt _ hx; omega
          have h5r : x2.heap.size ∉ rt.foot := fun hx => by have := hlrt _ hx; omega
          obtain ⟨r0a, r1a, r2a, r3a, r4a, r5a, rfa⟩ := bq12
          have hb12 := bzx2.kept ((Kp.refl [] x2).trans kx3 (by simp))
          have g0 := rfa 0; have g1 := rfa 1; have g2 := rfa 2; have g3 := rfa 3; have g4 := rfa 4; have g5 := rfa 5
          obtain ⟨roomt, stepst, fat, fct, lt, armedt, deadt, leftt⟩ := rt
          simp only [RD.v] at *
          refine wpAnyH_ready (rs := [6]) (by kernel_rfl) (by simp) ?_
          refine AllReadyH.cons rfl (fun K hK => ?_) AllReadyH.nil
          go_simp
          (try go_wp2_with fail)
          refine hK.out _ _ ?_ (fun hHeld => ?_)
          · exact hS.out _ (kX.trans (kpSet6 _ _ _ _ _ _ _ _) (fun x hx => .inr (by simp at hx; omega)))
          clear hK K
          try simp only [Act.put, List.getElem_toArray, List.getElem_cons_zero, List.getElem_cons_succ, List.setIfInBounds_toArray, List.set_cons_zero, List.set_cons_succ]
          obtain ⟨y1, hy1, b12, ky1⟩ := set6_ex hb12 (.int .i64 roomx) (.int .i64 stepsx) (.slice fax lx.length fcx) (.bool armedx) (.bool deadx) (.int .i64 leftx)
          rw [hy1]
          have bq13y := bq13.keptS ky1 (by simp; omega)
          clear r0a r1a r2a r3a r4a r5a rfa g0 g1 g2 g3 g4 g5
          obtain ⟨r0a, r1a, r2a, r3a, r4a, r5a, rfa⟩ := bq13y
          have hb13 := bq13.keptS ky1 (by simp; omega)
          have g0 := rfa 0; have g1 := rfa 1; have g2 := rfa 2; have g3 := rfa 3; have g4 := rfa 4; have g5 := rfa 5
          have kY1 : Kp [] w7 y1 := kX.trans ky1 (fun x hx => .inr (by simp at hx; omega))
          refine wpAnyH_ready (rs := [7]) (by kernel_rfl) (by simp) ?_
          refine AllReadyH.cons rfl (fun K hK => ?_) AllReadyH.nil
          go_simp
          (try go_wp2_with fail)
          refine hK.out _ _ ?_ (fun hHeld => ?_)
          · exact hS.out _ (kY1.trans (kpSet6 _ _ _ _ _ _ _ _) (fun x hx => .inr (by simp at hx; omega)))
          clear hK K
          try simp only [Act.put, List.getElem_toArray, List.getElem_cons_zero, List.getElem_cons_succ, List.setIfInBounds_toArray, List.set_cons_zero, List.set_cons_succ]
          refine wpAnyH_done (by kernel_rfl) ?_ _
          obtain ⟨y2, hy2, b13, ky2⟩ := set6_ex hb13 (.int .i64 roomt) (.int .i64 stepst) (.slice fat lt.length fct) (.bool armedt) (.bool deadt) (.int .i64 leftt)
          rw [hy2]
          exact fin.out y2 x1.heap.size x2.heap.size ⟨roomt, stepst, fat, fct, lt, armedt, deadt, leftt⟩ _ (kY1.trans ky2 (fun x hx => .inr (by simp at hx; omega))) ((hRx.kept ky1 (fun k hk h => by simp at h; subst h; exact h4r hk)).kept ky2 (fun k hk h => by simp at h; subst h; exact h5r hk)) hLx1 hrt (by omega) (by omega) (by omega) h4r h5r (B6.keptS b12 ky2 (by simp; omega)) b13 (by rw [hA1'.out]; simp only [Act.put, List.setIfInBounds_toArray, List.set_cons_zero, List.set_cons_succ, RD.v])
        · go_simp
          obtain ⟨x2, hwx2, kx2, bzx2, hsx2⟩ : ∃ wz, x1.alloc (.cells #[.int .i64 0, .int .i64 0, .slice none 0 0, .bool false, .bool false, .int .i64 0] 28) = wz ∧ Kp [] x1 wz ∧ B6 wz x1.heap.size (.int .i64 0) (.int .i64 0) (.slice none 0 0) (.bool false) (.bool false) (.int .i64 0) ∧ x1.heap.size < wz.heap.size := ⟨_, rfl, (Kp.refl _ _).alloc _, B6.at _ rfl _ _ _ _ _ _ _, by simp⟩
          rw [hwx2]
          (try go_wp2_with fail)
          refine hK.out _ _ ?_ (fun hHeld => ?_)
          · exact hS.out _ (kd.trans (((Kp.refl [] wd).trans kx1 (by simp)).trans kx2 (by simp)) (by simp))
          clear hK K
          try simp only [Act.put, List.getElem_toArray, List.getElem_cons_zero, List.getElem_cons_succ, List.setIfInBounds_toArray, List.set_cons_zero, List.set_cons_succ]
          refine wpAnyH_ready (rs := [4]) (by kernel_rfl) (by simp) ?_
          refine AllReadyH.cons rfl (fun K hK => ?_) AllReadyH.nil
          go_simp
          obtain ⟨x3, hwx3, kx3, bzx3, hsx3⟩ : ∃ wz, x2.alloc (.cells #[.int .i64 0, .int .i64 0, .slice none 0 0, .bool false, .bool false, .int .i64 0] 28) = wz ∧ Kp [] x2 wz ∧ B6 wz x2.heap.size (.int .i64 0) (.int .i64 0) (.slice none 0 0) (.bool false) (.bool false) (.int .i64 0) ∧ x2.heap.size < wz.heap.size := ⟨_, rfl, (Kp.refl _ _).alloc _, B6.at _ rfl _ _ _ _ _ _ _, by simp⟩
          rw [hwx3]
          (try go_wp2_with fail)
          refine hK.out _ _ ?_ (fun hHeld => ?_)
          · exact hS.out _ (kd.trans ((((Kp.refl [] wd).trans kx1 (by simp)).trans kx2 (by simp)).trans kx3 (by simp)) (by simp))
          clear hK K
          try simp only [Act.put, List.getElem_toArray, List.getElem_cons_zero, List.getElem_cons_succ, List.setIfInBounds_toArray, List.set_cons_zero, List.set_cons_succ]
          have bq12 := bzx3.kept (Kp.refl [] x3)
          have bq13 := bzx2.kept ((Kp.refl [] x2).trans kx3 (by simp))
          have kX := (kd.trans ((((Kp.refl [] wd).trans kx1 (by simp)).trans kx2 (by simp)).trans kx3 (by simp)) (by simp))
          have hRx := hRx1.keptNew (((Kp.refl [] x1).trans kx2 (by simp)).trans kx3 (by simp))
          have hlrt := hRx1.lt
          have hfrt := hftx1
          have z0 := kx1.size
          have z1 := kx2.size
          have z2 := kx3.size
          have zd := kd.size
          have hrt : ∀ k ∈ rt.foot, w7.heap.size ≤ k := fun k hk => by
            rcases hfrt k hk with h | h
            · cases h
            · omega
          have h4r : x2.heap.size ∉ rt.foot := fun hx => by have := hlrt _ hx; omega
          have h5r : x1.heap.size ∉ rt.foot := fun hx => by have := hlrt _ hx; omega
          obtain ⟨r0a, r1a, r2a, r3a, r4a, r5a, rfa⟩ := bq12
          have hb12 := bzx3.kept (Kp.refl [] x3)
          have g0 := rfa 0; have g1 := rfa 1; have g2 := rfa 2; have g3 := rfa 3; have g4 := rfa 4; have g5 := rfa 5
          obtain ⟨roomt, stepst, fat, fct, lt, armedt, deadt, leftt⟩ := rt
          simp only [RD.v] at *
          refine wpAnyH_ready (rs := [6]) (by kernel_rfl) (by simp) ?_
          refine AllReadyH.cons rfl (fun K hK => ?_) AllReadyH.nil
          go_simp
          (try go_wp2_with fail)
          refine hK.out _ _ ?_ (fun hHeld => ?_)
          · exact hS.out _ (kX.trans (kpSet6 _ _ _ _ _ _ _ _) (fun x hx => .inr (by simp at hx; omega)))
          clear hK K
          try simp only [Act.put, List.getElem_toArray, List.getElem_cons_zero, List.getElem_cons_succ, List.setIfInBounds_toArray, List.set_cons_zero, List.set_cons_succ]
          obtain ⟨y1, hy1, b12, ky1⟩ := set6_ex hb12 (.int .i64 roomx) (.int .i64 stepsx) (.slice fax lx.length fcx) (.bool armedx) (.bool deadx) (.int .i64 leftx)
          rw [hy1]
          have bq13y := bq13.keptS ky1 (by simp; omega)
          clear r0a r1a r2a r3a r4a r5a rfa g0 g1 g2 g3 g4 g5
          obtain ⟨r0a, r1a, r2a, r3a, r4a, r5a, rfa⟩ := bq13y
          have hb13 := bq13.keptS ky1 (by simp; omega)
          have g0 := rfa 0; have g1 := rfa 1; have g2 := rfa 2; have g3 := rfa 3; have g4 := rfa 4; have g5 := rfa 5
          have kY1 : Kp [] w7 y1 := kX.trans ky1 (fun x hx => .inr (by simp at hx; omega))
          refine wpAnyH_ready (rs := [7]) (by kernel_rfl) (by simp) ?_
          refine AllReadyH.cons rfl (fun K hK => ?_) AllReadyH.nil
          go_simp
          (try go_wp2_with fail)
          refine hK.out _ _ ?_ (fun hHeld => ?_)
          · exact hS.out _ (kY1.trans (kpSet6 _ _ _ _ _ _ _ _) (fun x hx => .inr (by simp at hx; omega)))
          clear hK K
          try simp only [Act.put, List.getElem_toArray, List.getElem_cons_zero, List.getElem_cons_succ, List.setIfInBounds_toArray, List.set_cons_zero, List.set_cons_succ]
          refine wpAnyH_done (by kernel_rfl) ?_ _
          obtain ⟨y2, hy2, b13, ky2⟩ := set6_ex hb13 (.int .i64 roomt) (.int .i64 stepst) (.slice fat lt.length fct) (.bool armedt) (.bool deadt) (.int .i64 leftt)
          rw [hy2]
          exact fin.out y2 x2.heap.size x1.heap.size ⟨roomt, stepst, fat, fct, lt, armedt, deadt, leftt⟩ _ (kY1.trans ky2 (fun x hx => .inr (by simp at hx; omega))) ((hRx.kept ky1 (fun k hk h => by simp at h; subst h; exact h4r hk)).kept ky2 (fun k hk h => by simp at h; subst h; exact h5r hk)) hLx1 hrt (by omega) (by omega) (by omega) h4r h5r (B6.keptS b12 ky2 (by simp; omega)) b13 (by rw [hA1'.out]; simp only [Act.put, List.setIfInBounds_toArray, List.set_cons_zero, List.set_cons_succ, RD.v])
      · go_simp
        obtain ⟨x1, hwx1, kx1, bzx1, hsx1⟩ : ∃ wz, wd.alloc (.cells #[.int .i64 0, .int .i64 0, .slice none 0 0, .bool false, .bool false, .int .i64 0] 28) = wz ∧ Kp [] wd wz ∧ B6 wz wd.heap.size (.int .i64 0) (.int .i64 0) (.slice none 0 0) (.bool false) (.bool false) (.int .i64 0) ∧ wd.heap.size < wz.heap.size := ⟨_, rfl, (Kp.refl _ _).alloc _, B6.at _ rfl _ _ _ _ _ _ _, by simp⟩
        rw [hwx1]
        (try go_wp2_with fail)
        refine hK.out _ _ ?_ (fun hHeld => ?_)
        · exact hS.out _ (kd.trans ((Kp.refl [] wd).trans kx1 (by simp)) (by simp))
        clear hK K
        try simp only [Act.put, List.getElem_toArray, List.getElem_cons_zero, List.getElem_cons_succ, List.setIfInBounds_toArray, List.set_cons_zero, List.set_cons_succ]
        refine wpAnyH_ready (rs := [3, 5]) (by kernel_rfl) (by simp) ?_
        refine (AllReadyH.cons rfl (fun K hK => ?_) (AllReadyH.cons rfl (fun K hK => ?_) AllReadyH.nil))
        · go_simp
          refine (cCr.out _ (kd.trans ((Kp.refl [] wd).trans kx1 (by simp)) (by simp))).mono ?_
          rintro e x2 ⟨v, rfl, rt, rfl, hRx2, hLx2, kx2, hftx2⟩
          (try go_wp2_with fail)
          refine hK.out _ _ ?_ (fun hHeld => ?_)
          · exact hS.out _ (kd.trans (((Kp.refl [] wd).trans kx1 (by simp)).trans kx2 (by simp)) (by simp))
          clear hK K
          try simp only [Act.put, List.getElem_toArray, List.getElem_cons_zero, List.getElem_cons_succ, List.setIfInBounds_toArray, List.set_cons_zero, List.set_cons_succ]
          refine wpAnyH_ready (rs := [5]) (by kernel_rfl) (by simp) ?_
          refine AllReadyH.cons rfl (fun K hK => ?_) AllReadyH.nil
          go_simp
          obtain ⟨x3, hwx3, kx3, bzx3, hsx3⟩ : ∃ wz, x2.alloc (.cells #[.int .i64 0, .int .i64 0, .slice none 0 0, .bool false, .bool false, .int .i64 0] 28) = wz ∧ Kp [] x2 wz ∧ B6 wz x2.heap.size (.int .i64 0) (.int .i64 0) (.slice none 0 0) (.bool false) (.bool false) (.int .i64 0) ∧ x2.heap.size < wz.heap.size := ⟨_, rfl, (Kp.refl _ _).alloc _, B6.at _ rfl _ _ _ _ _ _ _, by simp⟩
          rw [hwx3]
          (try go_wp2_with fail)
          refine hK.out _ _ ?_ (fun hHeld => ?_)
          · exact hS.out _ (kd.trans ((((Kp.refl [] wd).trans kx1 (by simp)).trans kx2 (by simp)).trans kx3 (by simp)) (by simp))
          clear hK K
          try simp only [Act.put, List.getElem_toArray, List.getElem_cons_zero, List.getElem_cons_succ, List.setIfInBounds_toArray, List.set_cons_zero, List.set_cons_succ]
          have bq12 := bzx1.kept (((Kp.refl [] x1).trans kx2 (by simp)).trans kx3 (by simp))
          have bq13 := bzx3.kept (Kp.refl [] x3)
          have kX := (kd.trans ((((Kp.refl [] wd).trans kx1 (by simp)).trans kx2 (by simp)).trans kx3 (by simp)) (by simp))
          have hRx := hRx2.keptNew ((Kp.refl [] x2).trans kx3 (by simp))
          have hlrt := hRx2.lt
          have hfrt := hftx2
          have z0 := kx1.size
          have z1 := kx2.size
          have z2 := kx3.size
          have zd := kd.size
          have hrt : ∀ k ∈ rt.foot, w7.heap.size ≤ k := fun k hk => by
            rcases hfrt k hk with h | h
            · cases h
            · omega
          have h4r : wd.heap.size ∉ rt.foot := fun hx => by
            rcases hfrt _ hx with h | h
            · cases h
            · omega
          have h5r : x2.heap.size ∉ rt.foot := fun hx => by have := hlrt _ hx; omega
          obtain ⟨r0a, r1a, r2a, r3a, r4a, r5a, rfa⟩ := bq12
          have hb12 := bzx1.kept (((Kp.refl [] x1).trans kx2 (by simp)).trans kx3 (by simp))
          have g0 := rfa 0; have g1 := rfa 1; have g2 := rfa 2; have g3 := rfa 3; have g4 := rfa 4; have g5 := rfa 5
          obtain ⟨roomt, stepst, fat, fct, lt, armedt, deadt, leftt⟩ := rt
          simp only [RD.v] at *
          refine wpAnyH_ready (rs := [6]) (by kernel_rfl) (by simp) ?_
          refine AllReadyH.cons rfl (fun K hK => ?_) AllReadyH.nil
          go_simp
          (try go_wp2_with fail)
          refine hK.out _ _ ?_ (fun hHeld => ?_)
          · exact hS.out _ (kX.trans (kpSet6 _ _ _ _ _ _ _ _) (fun x hx => .inr (by simp at hx; omega)))
          clear hK K
          try simp only [Act.put, List.getElem_toArray, List.getElem_cons_zero, List.getElem_cons_succ, List.setIfInBounds_toArray, List.set_cons_zero, List.set_cons_succ]
          obtain ⟨y1, hy1, b12, ky1⟩ := set6_ex hb12 (.int .i64 roomx) (.int .i64 stepsx) (.slice fax lx.length fcx) (.bool armedx) (.bool deadx) (.int .i64 leftx)
          rw [hy1]
          have bq13y := bq13.keptS ky1 (by simp; omega)
          clear r0a r1a r2a r3a r4a r5a rfa g0 g1 g2 g3 g4 g5
          obtain ⟨r0a, r1a, r2a, r3a, r4a, r5a, rfa⟩ := bq13y
          have hb13 := bq13.keptS ky1 (by simp; omega)
          have g0 := rfa 0; have g1 := rfa 1; have g2 := rfa 2; have g3 := rfa 3; have g4 := rfa 4; have g5 := rfa 5
          have kY1 : Kp [] w7 y1 := kX.trans ky1 (fun x hx => .inr (by simp at hx; omega))
          refine wpAnyH_ready (rs := [7]) (by kernel_rfl) (by simp) ?_
          refine AllReadyH.cons rfl (fun K hK => ?_) AllReadyH.nil
          go_simp
          (try go_wp2_with fail)
          refine hK.out _ _ ?_ (fun hHeld => ?_)
          · exact hS.out _ (kY1.trans (kpSet6 _ _ _ _ _ _ _ _) (fun x hx => .inr (by simp at hx; omega)))
          clear hK K
          try simp only [Act.put, List.getElem_toArray, List.getElem_cons_zero, List.getElem_cons_succ, List.setIfInBounds_toArray, List.set_cons_zero, List.set_cons_succ]
          refine wpAnyH_done (by kernel_rfl) ?_ _
          obtain ⟨y2, hy2, b13, ky2⟩ := set6_ex hb13 (.int .i64 roomt) (.int .i64 stepst) (.slice fat lt.length fct) (.bool armedt) (.bool deadt) (.int .i64 leftt)
          rw [hy2]
          exact fin.out y2 wd.heap.size x2.heap.size ⟨roomt, stepst, fat, fct, lt, armedt, deadt, leftt⟩ _ (kY1.trans ky2 (fun x hx => .inr (by simp at hx; omega))) ((hRx.kept ky1 (fun k hk h => by simp at h; subst h; exact h4r hk)).kept ky2 (fun k hk h => by simp at h; subst h; exact h5r hk)) hLx2 hrt (by omega) (by omega) (by omega) h4r h5r (B6.keptS b12 ky2 (by simp; omega)) b13 (by rw [hA1'.out]; simp only [Act.put, List.setIfInBounds_toArray, List.set_cons_zero, List.set_cons_succ, RD.v])
        · go_simp
          obtain ⟨x2, hwx2, kx2, bzx2, hsx2⟩ : ∃ wz, x1.alloc (.cells #[.int .i64 0, .int .i64 0, .slice none 0 0, .bool false, .bool false, .int .i64 0] 28) = wz ∧ Kp [] x1 wz ∧ B6 wz x1.heap.size (.int .i64 0) (.int .i64 0) (.slice none 0 0) (.bool false) (.bool false) (.int .i64 0) ∧ x1.heap.size < wz.heap.size := ⟨_, rfl, (Kp.refl _ _).alloc _, B6.at _ rfl _ _ _ _ _ _ _, by simp⟩
          rw [hwx2]
          (try go_wp2_with fail)
          refine hK.out _ _ ?_ (fun hHeld => ?_)
          · exact hS.out _ (kd.trans (((Kp.refl [] wd).trans kx1 (by simp)).trans kx2 (by simp)) (by simp))
          clear hK K
          try simp only [Act.put, List.getElem_toArray, List.getElem_cons_zero, List.getElem_cons_succ, List.setIfInBounds_toArray, List.set_cons_zero, List.set_cons_succ]
          refine wpAnyH_ready (rs := [3]) (by kernel_rfl) (by simp) ?_
          refine AllReadyH.cons rfl (fun K hK => ?_) AllReadyH.nil
          go_simp
          refine (cCr.out _ (kd.trans (((Kp.refl [] wd).trans kx1 (by simp)).trans kx2 (by simp)) (by simp))).mono ?_
          rintro e x3 ⟨v, rfl, rt, rfl, hRx3, hLx3, kx3, hftx3⟩
          (try go_wp2_with fail)
          refine hK.out _ _ ?_ (fun hHeld => ?_)
          · exact hS.out _ (kd.trans ((((Kp.refl [] wd).trans kx1 (by simp)).trans kx2 (by simp)).trans kx3 (by simp)) (by simp))
          clear hK K
          try simp only [Act.put, List.getElem_toArray, List.getElem_cons_zero, List.getElem_cons_succ, List.setIfInBounds_toArray, List.set_cons_zero, List.set_cons_succ]
          have bq12 := bzx1.kept (((Kp.refl [] x1).trans kx2 (by simp)).trans kx3 (by simp))
          have bq13 := bzx2.kept ((Kp.refl [] x2).trans kx3 (by simp))
          have kX := (kd.trans ((((Kp.refl [] wd).trans kx1 (by simp)).trans kx2 (by simp)).trans kx3 (by simp)) (by simp))
          have hRx := hRx3.keptNew (Kp.refl [] x3)
          have hlrt := hRx3.lt
          have hfrt := hftx3
          have z0 := kx1.size
          have z1 := kx2.size
          have z2 := kx3.size
          have zd := kd.size
          have hrt : ∀ k ∈ rt.foot, w7.heap.size ≤ k := fun k hk => by
            rcases hfrt k hk with h | h
            · cases h
            · omega
          have h4r : wd.heap.size ∉ rt.foot := fun hx => by
            rcases hfrt _ hx with h | h
            · cases h
            · omega
          have h5r : x1.heap.size ∉ rt.foot := fun hx => by
            rcases hfrt _ hx with h | h
            · cases h
            · omega
          obtain ⟨r0a, r1a, r2a, r3a, r4a, r5a, rfa⟩ := bq12
          have hb12 := bzx1.kept (((Kp.refl [] x1).trans kx2 (by simp)).trans kx3 (by simp))
          have g0 := rfa 0; have g1 := rfa 1; have g2 := rfa 2; have g3 := rfa 3; have g4 := rfa 4; have g5 := rfa 5
          obtain ⟨roomt, stepst, fat, fct, lt, armedt, deadt, leftt⟩ := rt
          simp only [RD.v] at *
          refine wpAnyH_ready (rs := [6]) (by kernel_rfl) (by simp) ?_
          refine AllReadyH.cons rfl (fun K hK => ?_) AllReadyH.nil
          go_simp
          (try go_wp2_with fail)
          refine hK.out _ _ ?_ (fun hHeld => ?_)
          · exact hS.out _ (kX.trans (kpSet6 _ _ _ _ _ _ _ _) (fun x hx => .inr (by simp at hx; omega)))
          clear hK K
          try simp only [Act.put, List.getElem_toArray, List.getElem_cons_zero, List.getElem_cons_succ, List.setIfInBounds_toArray, List.set_cons_zero, List.set_cons_succ]
          obtain ⟨y1, hy1, b12, ky1⟩ := set6_ex hb12 (.int .i64 roomx) (.int .i64 stepsx) (.slice fax lx.length fcx) (.bool armedx) (.bool deadx) (.int .i64 leftx)
          rw [hy1]
          have bq13y := bq13.keptS ky1 (by simp; omega)
          clear r0a r1a r2a r3a r4a r5a rfa g0 g1 g2 g3 g4 g5
          obtain ⟨r0a, r1a, r2a, r3a, r4a, r5a, rfa⟩ := bq13y
          have hb13 := bq13.keptS ky1 (by simp; omega)
          have g0 := rfa 0; have g1 := rfa 1; have g2 := rfa 2; have g3 := rfa 3; have g4 := rfa 4; have g5 := rfa 5
          have kY1 : Kp [] w7 y1 := kX.trans ky1 (fun x hx => .inr (by simp at hx; omega))
          refine wpAnyH_ready (rs := [7]) (by kernel_rfl) (by simp) ?_
          refine AllReadyH.cons rfl (fun K hK => ?_) AllReadyH.nil
          go_simp
          (try go_wp2_with fail)
          refine hK.out _ _ ?_ (fun hHeld => ?_)
          · exact hS.out _ (kY1.trans (kpSet6 _ _ _ _ _ _ _ _) (fun x hx => .inr (by simp at hx; omega)))
          clear hK K
          try simp only [Act.put, List.getElem_toArray, List.getElem_cons_zero, List.getElem_cons_succ, List.setIfInBounds_toArray, List.set_cons_zero, List.set_cons_succ]
          refine wpAnyH_done (by kernel_rfl) ?_ _
          obtain ⟨y2, hy2, b13, ky2⟩ := set6_ex hb13 (.int .i64 roomt) (.int .i64 stepst) (.slice fat lt.length fct) (.bool armedt) (.bool deadt) (.int .i64 leftt)
          rw [hy2]
          exact fin.out y2 wd.heap.size x1.heap.size ⟨roomt, stepst, fat, fct, lt, armedt, deadt, leftt⟩ _ (kY1.trans ky2 (fun x hx => .inr (by simp at hx; omega))) ((hRx.kept ky1 (fun k hk h => by simp at h; subst h; exact h4r hk)).kept ky2 (fun k hk h => by simp at h; subst h; exact h5r hk)) hLx3 hrt (by omega) (by omega) (by omega) h4r h5r (B6.keptS b12 ky2 (by simp; omega)) b13 (by rw [hA1'.out]; simp only [Act.put, List.setIfInBounds_toArray, List.set_cons_zero, List.set_cons_succ, RD.v])
      · go_simp
        obtain ⟨x1, hwx1, kx1, bzx1, hsx1⟩ : ∃ wz, wd.alloc (.cells #[.int .i64 0, .int .i64 0, .slice none 0 0, .bool false, .bool false, .int .i64 0] 28) = wz ∧ Kp [] wd wz ∧ B6 wz wd.heap.size (.int .i64 0) (.int .i64 0) (.slice none 0 0) (.bool false) (.bool false) (.int .i64 0) ∧ wd.heap.size < wz.heap.size := ⟨_, rfl, (Kp.refl _ _).alloc _, B6.at _ rfl _ _ _ _ _ _ _, by simp⟩
        rw [hwx1]
        (try go_wp2_with fail)
        refine hK.out _ _ ?_ (fun hHeld => ?_)
        · exact hS.out _ (kd.trans ((Kp.refl [] wd).trans kx1 (by simp)) (by simp))
        clear hK K
        try simp only [Act.put, List.getElem_toArray, List.getElem_cons_zero, List.getElem_cons_succ, List.setIfInBounds_toArray, List.set_cons_zero, List.set_cons_succ]
        refine wpAnyH_ready (rs := [3, 4]) (by kernel_rfl) (by simp) ?_
        refine (AllReadyH.cons rfl (fun K hK => ?_) (AllReadyH.cons rfl (fun K hK => ?_) AllReadyH.nil))
        · go_simp
          refine (cCr.out _ (kd.trans ((Kp.refl [] wd).trans kx1 (by simp)) (by simp))).mono ?_
          rintro e x2 ⟨v, rfl, rt, rfl, hRx2, hLx2, kx2, hftx2⟩
          (try go_wp2_with fail)
          refine hK.out _ _ ?_ (fun hHeld => ?_)
          · exact hS.out _ (kd.trans (((Kp.refl [] wd).trans kx1 (by simp)).trans kx2 (by simp)) (by simp))
          clear hK K
          try simp only [Act.put, List.getElem_toArray, List.getElem_cons_zero, List.getElem_cons_succ, List.setIfInBounds_toArray, List.set_cons_zero, List.set_cons_succ]
          refine wpAnyH_ready (rs := [4]) (by kernel_rfl) (by simp) ?_
          refine AllReadyH.cons rfl (fun K hK => ?_) AllReadyH.nil
          go_simp
          obtain ⟨x3, hwx3, kx3, bzx3, hsx3⟩ : ∃ wz, x2.alloc (.cells #[.int .i64 0, .int .i64 0, .slice none 0 0, .bool false, .bool false, .int .i64 0] 28) = wz ∧ Kp [] x2 wz ∧ B6 wz x2.heap.size (.int .i64 0) (.int .i64 0) (.slice none 0 0) (.bool false) (.bool false) (.int .i64 0) ∧ x2.heap.size < wz.heap.size := ⟨_, rfl, (Kp.refl _ _).alloc _, B6.at _ rfl _ _ _ _ _ _ _, by simp⟩
          rw [hwx3]
          (try go_wp2_with fail)
          refine hK.out _ _ ?_ (fun hHeld => ?_)
          · exact hS.out _ (kd.trans ((((Kp.refl [] wd).trans kx1 (by simp)).trans kx2 (by simp)).trans kx3 (by simp)) (by simp))
          clear hK K
          try simp only [Act.put, List.getElem_toArray, List.getElem_cons_zero, List.getElem_cons_succ, List.setIfInBounds_toArray, List.set_cons_zero, List.set_cons_succ]
          have bq12 := bzx3.kept (Kp.refl [] x3)
          have bq13 := bzx1.kept (((Kp.refl [] x1).trans kx2 (by simp)).trans kx3 (by simp))
          have kX := (kd.trans ((((Kp.refl [] wd).trans kx1 (by simp)).trans kx2 (by simp)).trans kx3 (by simp)) (by simp))
          have hRx := hRx2.keptNew ((Kp.refl [] x2).trans kx3 (by simp))
          have hlrt := hRx2.lt
          have hfrt := hftx2
          have z0 := kx1.size
          have z1 := kx2.size
          have z2 := kx3.size
          have zd := kd.size
          have hrt : ∀ k ∈ rt.foot, w7.heap.size ≤ k := fun k hk => by
            rcases hfrt k hk with h | h
            · cases h
            · omega
          have h4r : x2.heap.size ∉ rt.foot := fun hx => by have := hlrt _ hx; omega
          have h5r : wd.heap.size ∉ rt.foot := fun hx => by
            rcases hfrt _ hx with h | h
            · cases h
            · omega
          obtain ⟨r0a, r1a, r2a, r3a, r4a, r5a, rfa⟩ := bq12
          have hb12 := bzx3.kept (Kp.refl [] x3)
          have g0 := rfa 0; have g1 := rfa 1; have g2 := rfa 2; have g3 := rfa 3; have g4 := rfa 4; have g5 := rfa 5
          obtain ⟨roomt, stepst, fat, fct, lt, armedt, deadt, leftt⟩ := rt
          simp only [RD.v] at *
          refine wpAnyH_ready (rs := [6]) (by kernel_rfl) (by simp) ?_
          refine AllReadyH.cons rfl (fun K hK => ?_) AllReadyH.nil
          go_simp
          (try go_wp2_with fail)
          refine hK.out _ _ ?_ (fun hHeld => ?_)
          · exact hS.out _ (kX.trans (kpSet6 _ _ _ _ _ _ _ _) (fun x hx => .inr (by simp at hx; omega)))
          clear hK K
          try simp only [Act.put, List.getElem_toArray, List.getElem_cons_zero, List.getElem_cons_succ, List.setIfInBounds_toArray, List.set_cons_zero, List.set_cons_succ]
          obtain ⟨y1, hy1, b12, ky1⟩ := set6_ex hb12 (.int .i64 roomx) (.int .i64 stepsx) (.slice fax lx.length fcx) (.bool armedx) (.bool deadx) (.int .i64 leftx)
          rw [hy1]
          have bq13y := bq13.keptS ky1 (by simp; omega)
          clear r0a r1a r2a r3a r4a r5a rfa g0 g1 g2 g3 g4 g5
          obtain ⟨r0a, r1a, r2a, r3a, r4a, r5a, rfa⟩ := bq13y
          have hb13 := bq13.keptS ky1 (by simp; omega)
          have g0 := rfa 0; have g1 := rfa 1; have g2 := rfa 2; have g3 := rfa 3; have g4 := rfa 4; have g5 := rfa 5
          have kY1 : Kp [] w7 y1 := kX.trans ky1 (fun x hx => .inr (by simp at hx; omega))
          refine wpAnyH_ready (rs := [7]) (by kernel_rfl) (by simp) ?_
          refine AllReadyH.cons rfl (fun K hK => ?_) AllReadyH.nil
          go_simp
          (try go_wp2_with fail)
          refine hK.out _ _ ?_ (fun hHeld => ?_)
          · exact hS.out _ (kY1.trans (kpSet6 _ _ _ _ _ _ _ _) (fun x hx => .inr (by simp at hx; omega)))
          clear hK K
          try simp only [Act.put, List.getElem_toArray, List.getElem_cons_zero, List.getElem_cons_succ, List.setIfInBounds_toArray, List.set_cons_zero, List.set_cons_succ]
          refine wpAnyH_done (by kernel_rfl) ?_ _
          obtain ⟨y2, hy2, b13, ky2⟩ := set6_ex hb13 (.int .i64 roomt) (.int .i64 stepst) (.slice fat lt.length fct) (.bool armedt) (.bool deadt) (.int .i64 leftt)
          rw [hy2]
          exact fin.out y2 x2.heap.size wd.heap.size ⟨roomt, stepst, fat, fct, lt, armedt, deadt, leftt⟩ _ (kY1.trans ky2 (fun x hx => .inr (by simp at hx; omega))) ((hRx.kept ky1 (fun k hk h => by simp at h; subst h; exact h4r hk)).kept ky2 (fun k hk h => by simp at h; subst h; exact h5r hk)) hLx2 hrt (by omega) (by omega) (by omega) h4r h5r (B6.keptS b12 ky2 (by simp; omega)) b13 (by rw [hA1'.out]; simp only [Act.put, List.setIfInBounds_toArray, List.set_cons_zero, List.set_cons_succ, RD.v])
        · go_simp
          obtain ⟨x2, hwx2, kx2, bzx2, hsx2⟩ : ∃ wz, x1.alloc (.cells #[.int .i64 0, .int .i64 0, .slice none 0 0, .bool false, .bool false, .int .i64 0] 28) = wz ∧ Kp [] x1 wz ∧ B6 wz x1.heap.size (.int .i64 0) (.int .i64 0) (.slice none 0 0) (.bool false) (.bool false) (.int .i64 0) ∧ x1.heap.size < wz.heap.size := ⟨_, rfl, (Kp.refl _ _).alloc _, B6.at _ rfl _ _ _ _ _ _ _, by simp⟩
          rw [hwx2]
          (try go_wp2_with fail)
          refine hK.out _ _ ?_ (fun hHeld => ?_)
          · exact hS.out _ (kd.trans (((Kp.refl [] wd).trans kx1 (by simp)).trans kx2 (by simp)) (by simp))
          clear hK K
          try simp only [Act.put, List.getElem_toArray, List.getElem_cons_zero, List.getElem_cons_succ, List.setIfInBounds_toArray, List.set_cons_zero, List.set_cons_succ]
          refine wpAnyH_ready (rs := [3]) (by kernel_rfl) (by simp) ?_
          refine AllReadyH.cons rfl (fun K hK => ?_) AllReadyH.nil
          go_simp
          refine (cCr.out _ (kd.trans (((Kp.refl [] wd).trans kx1 (by simp)).trans kx2 (by simp)) (by simp))).mono ?_
          rintro e x3 ⟨v, rfl, rt, rfl, hRx3, hLx3, kx3, hftx3⟩
          (try go_wp2_with fail)
          refine hK.out _ _ ?_ (fun hHeld => ?_)
          · exact hS.out _ (kd.trans ((((Kp.refl [] wd).trans kx1 (by simp)).trans kx2 (by simp)).trans kx3 (by simp)) (by simp))
          clear hK K
          try simp only [Act.put, List.getElem_toArray, List.getElem_cons_zero, List.getElem_cons_succ, List.setIfInBounds_toArray, List.set_cons_zero, List.set_cons_succ]
          have bq12 := bzx2.kept ((Kp.refl [] x2).trans kx3 (by simp))
          have bq13 := bzx1.kept (((Kp.refl [] x1).trans kx2 (by simp)).trans kx3 (by simp))
          have kX := (kd.trans ((((Kp.refl [] wd).trans kx1 (by simp)).trans kx2 (by simp)).trans kx3 (by simp)) (by simp))
          have hRx := hRx3.keptNew (Kp.refl [] x3)
          have hlrt := hRx3.lt
          have hfrt := hftx3
          have z0 := kx1.size
          have z1 := kx2.size
          have z2 := kx3.size
          have zd := kd.size
          have hrt : ∀ k ∈ rt.foot, w7.heap.size ≤ k := fun k hk => by
            rcases hfrt k hk with h | h
            · cases h
            · omega
          have h4r : x1.heap.size ∉ rt.foot := fun hx => by
            rcases hfrt _ hx with h | h
            · cases h
            · omega
          have h5r : wd.heap.size ∉ rt.foot := fun hx => by
            rcases hfrt _ hx with h | h
            · cases h
            · omega
          obtain ⟨r0a, r1a, r2a, r3a, r4a, r5a, rfa⟩ := bq12
          have hb12 := bzx2.kept ((Kp.refl [] x2).trans kx3 (by simp))
          have g0 := rfa 0; have g1 := rfa 1; have g2 := rfa 2; have g3 := rfa 3; have g4 := rfa 4; have g5 := rfa 5
          obtain ⟨roomt, stepst, fat, fct, lt, armedt, deadt, leftt⟩ := rt
          simp only [RD.v] at *
          refine wpAnyH_ready (rs := [6]) (by kernel_rfl) (by simp) ?_
          refine AllReadyH.cons rfl (fun K hK => ?_) AllReadyH.nil
          go_simp
          (try go_wp2_with fail)
          refine hK.out _ _ ?_ (fun hHeld => ?_)
          · exact hS.out _ (kX.trans (kpSet6 _ _ _ _ _ _ _ _) (fun x hx => .inr (by simp at hx; omega)))
          clear hK K
          try simp only [Act.put, List.getElem_toArray, List.getElem_cons_zero, List.getElem_cons_succ, List.setIfInBounds_toArray, List.set_cons_zero, List.set_cons_succ]
          obtain ⟨y1, hy1, b12, ky1⟩ := set6_ex hb12 (.int .i64 roomx) (.int .i64 stepsx) (.slice fax lx.length fcx) (.bool armedx) (.bool deadx) (.int .i64 leftx)
          rw [hy1]
          have bq13y := bq13.keptS ky1 (by simp; omega)
          clear r0a r1a r2a r3a r4a r5a rfa g0 g1 g2 g3 g4 g5
          obtain ⟨r0a, r1a, r2a, r3a, r4a, r5a, rfa⟩ := bq13y
          have hb13 := bq13.keptS ky1 (by simp; omega)
          have g0 := rfa 0; have g1 := rfa 1; have g2 := rfa 2; have g3 := rfa 3; have g4 := rfa 4; have g5 := rfa 5
          have kY1 : Kp [] w7 y1 := kX.trans ky1 (fun x hx => .inr (by simp at hx; omega))
          refine wpAnyH_ready (rs := [7]) (by kernel_rfl) (by simp) ?_
          refine AllReadyH.cons rfl (fun K hK => ?_) AllReadyH.nil
          go_simp
          (try go_wp2_with fail)
          refine hK.out _ _ ?_ (fun hHeld => ?_)
          · exact hS.out _ (kY1.trans (kpSet6 _ _ _ _ _ _ _ _) (fun x hx => .inr (by simp at hx; omega)))
          clear hK K
          try simp only [Act.put, List.getElem_toArray, List.getElem_cons_zero, List.getElem_cons_succ, List.setIfInBounds_toArray, List.set_cons_zero, List.set_cons_succ]
          refine wpAnyH_done (by kernel_rfl) ?_ _
          obtain ⟨y2, hy2, b13, ky2⟩ := set6_ex hb13 (.int .i64 roomt) (.int .i64 stepst) (.slice fat lt.length fct) (.bool armedt) (.bool deadt) (.int .i64 leftt)
          rw [hy2]
          exact fin.out y2 x1.heap.size wd.heap.size ⟨roomt, stepst, fat, fct, lt, armedt, deadt, leftt⟩ _ (kY1.trans ky2 (fun x hx => .inr (by simp at hx; omega))) ((hRx.kept ky1 (fun k hk h => by simp at h; subst h; exact h4r hk)).kept ky2 (fun k hk h => by simp at h; subst h; exact h5r hk)) hLx3 hrt (by omega) (by omega) (by omega) h4r h5r (B6.keptS b12 ky2 (by simp; omega)) b13 (by rw [hA1'.out]; simp only [Act.put, List.setIfInBounds_toArray, List.set_cons_zero, List.set_cons_succ, RD.v])
    · clear fin cCr hA1
      intro e a' w8 hq
      rw [hQk'.out] at hq
      obtain ⟨rfl, q12, q13, rt, G, rfl⟩ := hq
      rw [hA1'.out]
      clear hA1' hQk' hQp
      simp only [Act.put, List.getElem_toArray, List.getElem_cons_zero, List.getElem_cons_succ, List.setIfInBounds_toArray, List.set_cons_zero, List.set_cons_succ]
      simp only [RD.v]
      clear hQp P6 P7 rb7 k6 k7 kw7 P rb D2 D3 n2 n3 hqf hqr hsm hN
      have A0 : Hid (ClI W1 q9 q12 q13 (sumB l0) l0.length l1 l2 (.pointer (some ⟨p1, 0, none⟩)) (.pointer (some ⟨p2, 0, none⟩)) (.pointer (some ⟨p3, 0, none⟩)) 0 w8) := ⟨_, _, _, rfl, rfl, rfl, G, rfl, rfl, rfl, low.mono (by omega) (by omega), by simp only; omega, low.mono (by omega) (by omega), by simp only; omega, (lw_crash low ks).mono (by omega) (by omega), by simp [crashD]⟩
      clear G low hst
      go_wp2_with fail
      go_loopw [7, 10, 11, 14] (fun v7 v10 v11 i wn => ∃ j : Nat, j ≤ max l1.length l2.length ∧ i = .int .i64 j ∧ ClI W1 q9 q12 q13 (sumB l0) l0.length l1 l2 v7 v10 v11 j wn) (fun _ _ _ i _ => max l1.length l2.length - (intOf i).toNat)
      case atStart => exact ⟨0, Nat.zero_le _, rfl, A0.out⟩
      case round =>
        clear A0
        obtain ⟨j, hj, rfl, s1, s2, s3, rfl, rfl, rfl, G, e1, e2, e3, lowA, stA, lowB, stB, lowC, stC⟩ := hrel
        obtain ⟨pA, mbA, xsA, ⟨roomA, stepsA, faA, fcA, lA, armedA, deadA, leftA⟩, dA, qA⟩ := s1
        obtain ⟨pB, mbB, xsB, ⟨roomB, stepsB, faB, fcB, lB, armedB, deadB, leftB⟩, dB, qB⟩ := s2
        obtain ⟨pC, mbC, xsC, ⟨roomC, stepsC, faC, fcC, lC, armedC, deadC, leftC⟩, dC, qC⟩ := s3
        simp only at e1 e2 e3 lowA stA lowB stB lowC stC ⊢
        subst e1 e2 e3
        have kp0 := (G.pr _ (by simp : (⟨pA, mbA, xsA, ⟨roomA, stepsA, faA, fcA, lA, armedA, deadA, leftA⟩, dA, qA⟩ : Sl) ∈ _)).kp
        have c1w := hbw1.out wr kp0
        have c2w := hbw2.out wr kp0
        have hm1 := sumB_le1 l1 j
        have hm2 := sumB_le1 l2 j
        have hn01 := sumB_le l1 j
        have hn02 := sumB_le l2 j
        by_cases h1 : j < l1.length
        · have hL1 : True := trivial
          obtain ⟨o1, ho1⟩ : ∃ o, l1[j]? = some o := ⟨l1[j], by simp [h1]⟩
          have hoW1 := (hok1 o1 (List.mem_of_getElem? ho1)).kept kW1
          have hso1 := hid (sumB_take ho1)
          have hsl1 := sumB_le l1 (j + 1)
          obtain ⟨g1, f1, ea1, x0, x1, x2, x3, x4, x5, x6⟩ := dopAt (hs1.keptNew kW1) ho1
          subst ea1
          have hS1 : Hid (∀ A, Kp [] W1 A → (A.cell? ⟨W.heap.size, 1, none⟩ = some (.slice (some ⟨g1, f1, none⟩) l1.length c1) ∧ A.cell? ⟨g1, f1 + j * 7, none⟩ = some (.int .i64 o1.kind) ∧ A.cell? ⟨g1, f1 + j * 7 + 1, none⟩ = some (.string ⟨o1.name.toArray⟩) ∧ A.cell? ⟨g1, f1 + j * 7 + 2, none⟩ = some (.string ⟨o1.to.toArray⟩) ∧ A.cell? ⟨g1, f1 + j * 7 + 3, none⟩ = some (.slice o1.b.a o1.b.bs.length o1.b.c) ∧ A.cell? ⟨g1, f1 + j * 7 + 4, none⟩ = some (.int .i64 o1.n) ∧ A.cell? ⟨g1, f1 + j * 7 + 5, none⟩ = some (.int .i64 o1.bit) ∧ A.cell? ⟨g1, f1 + j * 7 + 6, none⟩ = some (.slice o1.ka o1.ks.length o1.kc))) := fun A kA => ⟨hbw1.out A kA, cell_kp kA x0, cell_kp kA x1, cell_kp kA x2, cell_kp kA x3, cell_kp kA x4, cell_kp kA x5, cell_kp kA x6⟩
          clear x0 x1 x2 x3 x4 x5 x6 ho1
          have PA1 := (G.keep (w' := wr.drew) (Kp.refl _ _).drew).pr _ (by simp : (⟨pA, mbA, xsA, ⟨roomA, stepsA, faA, fcA, lA, armedA, deadA, leftA⟩, dA, qA⟩ : Sl) ∈ _)
          have BA1 := (G.keep (w' := wr.drew) (Kp.refl _ _).drew).rb _ (by simp : (⟨pA, mbA, xsA, ⟨roomA, stepsA, faA, fcA, lA, armedA, deadA, leftA⟩, dA, qA⟩ : Sl) ∈ _)
          have QA1 := (G.qf _ (by simp : (⟨pA, mbA, xsA, ⟨roomA, stepsA, faA, fcA, lA, armedA, deadA, leftA⟩, dA, qA⟩ : Sl) ∈ _) _ (by simp : (⟨pA, mbA, xsA, ⟨roomA, stepsA, faA, fcA, lA, armedA, deadA, leftA⟩, dA, qA⟩ : Sl) ∈ _)).1
          have GA10 := G.keep (w' := wr.drew) (Kp.refl _ _).drew
          have qWA1 := G.qW _ (by simp : (⟨pA, mbA, xsA, ⟨roomA, stepsA, faA, fcA, lA, armedA, deadA, leftA⟩, dA, qA⟩ : Sl) ∈ _)
          simp only [Sl.ft] at QA1
          simp only at PA1 BA1 qWA1
          have aS := cStepW PA1.D lowA (by omega) ⟨roomA, stepsA, faA, fcA, lA, armedA, deadA, leftA⟩ PA1.R PA1.L PA1.ap o1 (hoW1.kept PA1.kp) (by have := hso1.out; omega) (by omega) (offPr PA1 hoW1)
          have hlowA1 := hid (lw_stp o1 lowA PA1.D.ok (by have := hso1.out; omega))
          have hstpA1 := stp_steps dA o1
          obtain ⟨dA1, hdA1⟩ : ∃ d', Hid (d' = stpD dA o1) := ⟨_, rfl⟩
          rw [← hdA1.out] at aS hlowA1 hstpA1
          simp only [RD.v, DOp.v] at aS
          unfold RB at BA1
          simp only at BA1
          go_wp2_with fail
          refine wp_region_held_drew (S := (fun A => A.cell? ⟨W.heap.size, 1, none⟩ = some (.slice (some ⟨g1, f1, none⟩) l1.length c1) ∧ A.cell? ⟨g1, f1 + j * 7, none⟩ = some (.int .i64 o1.kind) ∧ A.cell? ⟨g1, f1 + j * 7 + 1, none⟩ = some (.string ⟨o1.name.toArray⟩) ∧ A.cell? ⟨g1, f1 + j * 7 + 2, none⟩ = some (.string ⟨o1.to.toArray⟩) ∧ A.cell? ⟨g1, f1 + j * 7 + 3, none⟩ = some (.slice o1.b.a o1.b.bs.length o1.b.c) ∧ A.cell? ⟨g1, f1 + j * 7 + 4, none⟩ = some (.int .i64 o1.n) ∧ A.cell? ⟨g1, f1 + j * 7 + 5, none⟩ = some (.int .i64 o1.bit) ∧ A.cell? ⟨g1, f1 + j * 7 + 6, none⟩ = some (.slice o1.ka o1.ks.length o1.kc))) (by kernel_rfl) ?_ (fun hHeld => ?_)
          · exact hS1.out _ PA1.kp
          generalize wr.drew = wdA1 at *
          have b0 := BA1.c0; have b1 := BA1.c1; have b2 := BA1.c2; have b3 := BA1.c3; have b4 := BA1.c4; have b5 := BA1.c5
          refine wpAnyH_take (i := 0) (v := ?_) rfl (by kernel_rfl) (by kernel_rfl) (by kernel_rfl) (fun _ _ _ h => h) (Or.inl ⟨by rfl, ?_⟩) (by assumption) ?_
          rotate_left
          · intro w hSw; (try dsimp only at hSw); go_simp <;> with_reducible rfl
          try simp only [Act.put, List.getElem_toArray, List.getElem_cons_zero, List.getElem_cons_succ, List.setIfInBounds_toArray, List.set_cons_zero, List.set_cons_succ]
          refine wpAnyH_take (i := 2) (v := ?_) rfl (by kernel_rfl) (by kernel_rfl) (by kernel_rfl) (fun _ _ _ h => h) (Or.inl ⟨by rfl, ?_⟩) (by assumption) ?_
          rotate_left
          · intro w hSw; (try dsimp only at hSw); go_simp <;> with_reducible rfl
          try simp only [Act.put, List.getElem_toArray, List.getElem_cons_zero, List.getElem_cons_succ, List.setIfInBounds_toArray, List.set_cons_zero, List.set_cons_succ]
          refine wpAnyH_take (i := 3) (v := ?_) rfl (by kernel_rfl) (by kernel_rfl) (by kernel_rfl) (fun _ _ _ h => h) (Or.inl ⟨by rfl, ?_⟩) (by assumption) ?_
          rotate_left
          · intro w hSw; (try dsimp only at hSw); go_simp <;> with_reducible rfl
          try simp only [Act.put, List.getElem_toArray, List.getElem_cons_zero, List.getElem_cons_succ, List.setIfInBounds_toArray, List.set_cons_zero, List.set_cons_succ]
          refine wpAnyH_take (i := 4) (v := ?_) rfl (by kernel_rfl) (by kernel_rfl) (by kernel_rfl) (fun _ _ _ h => h) (Or.inl ⟨by rfl, ?_⟩) (by assumption) ?_
          rotate_left
          · intro w hSw; (try dsimp only at hSw); go_simp <;> with_reducible rfl
          try simp only [Act.put, List.getElem_toArray, List.getElem_cons_zero, List.getElem_cons_succ, List.setIfInBounds_toArray, List.set_cons_zero, List.set_cons_succ]
          refine wpAnyH_take (i := 5) (v := ?_) rfl (by kernel_rfl) (by kernel_rfl) (by kernel_rfl) (fun _ _ _ h => h) (Or.inl ⟨by rfl, ?_⟩) (by assumption) ?_
          rotate_left
          · intro w hSw; (try dsimp only at hSw); go_simp <;> with_reducible rfl
          try simp only [Act.put, List.getElem_toArray, List.getElem_cons_zero, List.getElem_cons_succ, List.setIfInBounds_toArray, List.set_cons_zero, List.set_cons_succ]
          refine wpAnyH_take (i := 6) (v := ?_) rfl (by kernel_rfl) (by kernel_rfl) (by kernel_rfl) (fun _ _ _ h => h) (Or.inl ⟨by rfl, ?_⟩) (by assumption) ?_
          rotate_left
          · intro w hSw; (try dsimp only at hSw); go_simp <;> with_reducible rfl
          try simp only [Act.put, List.getElem_toArray, List.getElem_cons_zero, List.getElem_cons_succ, List.setIfInBounds_toArray, List.set_cons_zero, List.set_cons_succ]
          refine wpAnyH_ready (rs := [1]) (by kernel_rfl) (by simp) ?_
          refine AllReadyH.cons rfl (fun K hK => ?_) AllReadyH.nil
          go_simp
          (try go_wp2_with fail)
          refine hK.out _ _ ?_ (fun hHeld => ?_)
          · exact hHeld
          clear hK K
          try simp only [Act.put, List.getElem_toArray, List.getElem_cons_zero, List.getElem_cons_succ, List.setIfInBounds_toArray, List.set_cons_zero, List.set_cons_succ]
          refine wpAnyH_ready (rs := [7]) (by kernel_rfl) (by simp) ?_
          refine AllReadyH.cons rfl (fun K hK => ?_) AllReadyH.nil
          go_simp
          refine aS.mono ?_
          rintro e xA1 ⟨pA1, mbA1, xsA1, r', rfl, hD4, hR4, hL4, kk, n1, n2, n3, _⟩
          (try go_wp2_with fail)
          refine hK.out _ _ ?_ (fun hHeld => ?_)
          · exact hS1.out _ (PA1.kp.trans kk (fun x hx => .inr (PA1.nw x hx)))
          clear hK K
          try simp only [Act.put, List.getElem_toArray, List.getElem_cons_zero, List.getElem_cons_succ, List.setIfInBounds_toArray, List.set_cons_zero, List.set_cons_succ]
          clear b0 b1 b2 b3 b4 b5 aS
          have bq4 := BA1.keptS kk QA1
          obtain ⟨r0a, r1a, r2a, r3a, r4a, r5a, rfa⟩ := bq4
          have bq4 := BA1.keptS kk QA1
          have g0 := rfa 0; have g1_ := rfa 1; have g2_ := rfa 2; have g3 := rfa 3; have g4 := rfa 4; have g5 := rfa 5
          obtain ⟨roomA1, stepsA1, faA1, fcA1, lA1, armedA1, deadA1, leftA1⟩ := r'
          simp only [RD.v] at *
          refine wpAnyH_take (i := 8) (v := ?_) rfl (by kernel_rfl) (by kernel_rfl) (by kernel_rfl) (fun _ _ _ h => h) (Or.inl ⟨by rfl, ?_⟩) (by assumption) ?_
          rotate_left
          · intro w hSw; (try dsimp only at hSw); go_simp <;> with_reducible rfl
          try simp only [Act.put, List.getElem_toArray, List.getElem_cons_zero, List.getElem_cons_succ, List.setIfInBounds_toArray, List.set_cons_zero, List.set_cons_succ]
          refine wpAnyH_take (i := 9) (v := ?_) rfl (by kernel_rfl) (by kernel_rfl) (by kernel_rfl) (fun _ _ _ h => h) (Or.inl ⟨by rfl, ?_⟩) (by assumption) ?_
          rotate_left
          · intro w hSw; (try dsimp only at hSw); go_simp <;> with_reducible rfl
          try simp only [Act.put, List.getElem_toArray, List.getElem_cons_zero, List.getElem_cons_succ, List.setIfInBounds_toArray, List.set_cons_zero, List.set_cons_succ]
          refine wpAnyH_take (i := 10) (v := ?_) rfl (by kernel_rfl) (by kernel_rfl) (by kernel_rfl) (fun _ _ _ h => h) (Or.inl ⟨by rfl, ?_⟩) (by assumption) ?_
          rotate_left
          · intro w hSw; (try dsimp only at hSw); go_simp <;> with_reducible rfl
          try simp only [Act.put, List.getElem_toArray, List.getElem_cons_zero, List.getElem_cons_succ, List.setIfInBounds_toArray, List.set_cons_zero, List.set_cons_succ]
          refine wpAnyH_take (i := 11) (v := ?_) rfl (by kernel_rfl) (by kernel_rfl) (by kernel_rfl) (fun _ _ _ h => h) (Or.inl ⟨by rfl, ?_⟩) (by assumption) ?_
          rotate_left
          · intro w hSw; (try dsimp only at hSw); go_simp <;> with_reducible rfl
          try simp only [Act.put, List.getElem_toArray, List.getElem_cons_zero, List.getElem_cons_succ, List.setIfInBounds_toArray, List.set_cons_zero, List.set_cons_succ]
          refine wpAnyH_take (i := 12) (v := ?_) rfl (by kernel_rfl) (by kernel_rfl) (by kernel_rfl) (fun _ _ _ h => h) (Or.inl ⟨by rfl, ?_⟩) (by assumption) ?_
          rotate_left
          · intro w hSw; (try dsimp only at hSw); go_simp <;> with_reducible rfl
          try simp only [Act.put, List.getElem_toArray, List.getElem_cons_zero, List.getElem_cons_succ, List.setIfInBounds_toArray, List.set_cons_zero, List.set_cons_succ]
          refine wpAnyH_ready (rs := [13]) (by kernel_rfl) (by simp) ?_
          refine AllReadyH.cons rfl (fun K hK => ?_) AllReadyH.nil
          go_simp
          (try go_wp2_with fail)
          refine hK.out _ _ ?_ (fun hHeld => ?_)
          · exact hS1.out _ ((PA1.kp.trans kk (fun x hx => .inr (PA1.nw x hx))).trans (kpSet6 _ _ _ _ _ _ _ _) (fun x hx => .inr (by simp at hx; omega)))
          clear hK K
          try simp only [Act.put, List.getElem_toArray, List.getElem_cons_zero, List.getElem_cons_succ, List.setIfInBounds_toArray, List.set_cons_zero, List.set_cons_succ]
          refine wpAnyH_take (i := 14) (v := ?_) rfl (by kernel_rfl) (by kernel_rfl) (by kernel_rfl) (fun _ _ _ h => h) (Or.inl ⟨by rfl, ?_⟩) (by assumption) ?_
          rotate_left
          · intro w hSw; (try dsimp only at hSw); go_simp <;> with_reducible rfl
          try simp only [Act.put, List.getElem_toArray, List.getElem_cons_zero, List.getElem_cons_succ, List.setIfInBounds_toArray, List.set_cons_zero, List.set_cons_succ]
          refine wpAnyH_done (by kernel_rfl) ?_ _
          obtain ⟨Y1, hY, rbY, kY⟩ := set6_ex bq4 (.int .i64 roomA1) (.int .i64 stepsA1) (.slice faA1 lA1.length fcA1) (.bool armedA1) (.bool deadA1) (.int .i64 leftA1)
          rw [hY]
          have GA1 := GA10.step hD4 hR4 hL4 kk n1 n2 n3 kY rbY
          clear hY rbY kY hD4 hR4 hL4 kk n1 n2 n3 bq4 r0a r1a r2a r3a r4a r5a rfa g0 g1_ g2_ g3 g4 g5 GA10 PA1 BA1 hHeld
          have c2w := hbw2.out Y1 (GA1.pr _ (by simp : (⟨pA1, mbA1, xsA1, ⟨roomA1, stepsA1, faA1, fcA1, lA1, armedA1, deadA1, leftA1⟩, dA1, qA⟩ : Sl) ∈ _)).kp
          by_cases h2 : j < l2.length
          · obtain ⟨o2, ho2⟩ : ∃ o, l2[j]? = some o := ⟨l2[j], by simp [h2]⟩
            have hoW2 := (hok2 o2 (List.mem_of_getElem? ho2)).kept kW1
            have hso2 := hid (sumB_take ho2)
            have hsl2 := sumB_le l2 (j + 1)
            obtain ⟨g2, f2, ea2, x0, x1, x2, x3, x4, x5, x6⟩ := dopAt (hs2.keptNew kW1) ho2
            subst ea2
            have hS2 : Hid (∀ A, Kp [] W1 A → (A.cell? ⟨W.heap.size, 2, none⟩ = some (.slice (some ⟨g2, f2, none⟩) l2.length c2) ∧ A.cell? ⟨g2, f2 + j * 7, none⟩ = some (.int .i64 o2.kind) ∧ A.cell? ⟨g2, f2 + j * 7 + 1, none⟩ = some (.string ⟨o2.name.toArray⟩) ∧ A.cell? ⟨g2, f2 + j * 7 + 2, none⟩ = some (.string ⟨o2.to.toArray⟩) ∧ A.cell? ⟨g2, f2 + j * 7 + 3, none⟩ = some (.slice o2.b.a o2.b.bs.length o2.b.c) ∧ A.cell? ⟨g2, f2 + j * 7 + 4, none⟩ = some (.int .i64 o2.n) ∧ A.cell? ⟨g2, f2 + j * 7 + 5, none⟩ = some (.int .i64 o2.bit) ∧ A.cell? ⟨g2, f2 + j * 7 + 6, none⟩ = some (.slice o2.ka o2.ks.length o2.kc))) := fun A kA => ⟨hbw2.out A kA, cell_kp kA x0, cell_kp kA x1, cell_kp kA x2, cell_kp kA x3, cell_kp kA x4, cell_kp kA x5, cell_kp kA x6⟩
            clear x0 x1 x2 x3 x4 x5 x6 ho2
            have Gb := GA1.perm (List.Perm.swap (⟨pB, mbB, xsB, ⟨roomB, stepsB, faB, fcB, lB, armedB, deadB, leftB⟩, dB, qB⟩ : Sl) (⟨pA1, mbA1, xsA1, ⟨roomA1, stepsA1, faA1, fcA1, lA1, armedA1, deadA1, leftA1⟩, dA1, qA⟩ : Sl) [(⟨pC, mbC, xsC, ⟨roomC, stepsC, faC, fcC, lC, armedC, deadC, leftC⟩, dC, qC⟩ : Sl)])
            have PB1 := (Gb.keep (w' := Y1.drew) (Kp.refl _ _).drew).pr _ (by simp : (⟨pB, mbB, xsB, ⟨roomB, stepsB, faB, fcB, lB, armedB, deadB, leftB⟩, dB, qB⟩ : Sl) ∈ _)
            have BB1 := (Gb.keep (w' := Y1.drew) (Kp.refl _ _).drew).rb _ (by simp : (⟨pB, mbB, xsB, ⟨roomB, stepsB, faB, fcB, lB, armedB, deadB, leftB⟩, dB, qB⟩ : Sl) ∈ _)
            have QB1 := (Gb.qf _ (by simp : (⟨pB, mbB, xsB, ⟨roomB, stepsB, faB, fcB, lB, armedB, deadB, leftB⟩, dB, qB⟩ : Sl) ∈ _) _ (by simp : (⟨pB, mbB, xsB, ⟨roomB, stepsB, faB, fcB, lB, armedB, deadB, leftB⟩, dB, qB⟩ : Sl) ∈ _)).1
            have GB10 := Gb.keep (w' := Y1.drew) (Kp.refl _ _).drew
            have qWB1 := Gb.qW _ (by simp : (⟨pB, mbB, xsB, ⟨roomB, stepsB, faB, fcB, lB, armedB, deadB, leftB⟩, dB, qB⟩ : Sl) ∈ _)
            simp only [Sl.ft] at QB1
            simp only at PB1 BB1 qWB1
            have aS := cStepW PB1.D lowB (by omega) ⟨roomB, stepsB, faB, fcB, lB, armedB, deadB, leftB⟩ PB1.R PB1.L PB1.ap o2 (hoW2.kept PB1.kp) (by have := hso2.out; omega) (by omega) (offPr PB1 hoW2)
            have hlowB1 := hid (lw_stp o2 lowB PB1.D.ok (by have := hso2.out; omega))
            have hstpB1 := stp_steps dB o2
            obtain ⟨dB1, hdB1⟩ : ∃ d', Hid (d' = stpD dB o2) := ⟨_, rfl⟩
            rw [← hdB1.out] at aS hlowB1 hstpB1
            simp only [RD.v, DOp.v] at aS
            unfold RB at BB1
            simp only at BB1
            go_wp2_with fail
            refine wp_region_held_drew (S := (fun A => A.cell? ⟨W.heap.size, 2, none⟩ = some (.slice (some ⟨g2, f2, none⟩) l2.length c2) ∧ A.cell? ⟨g2, f2 + j * 7, none⟩ = some (.int .i64 o2.kind) ∧ A.cell? ⟨g2, f2 + j * 7 + 1, none⟩ = some (.string ⟨o2.name.toArray⟩) ∧ A.cell? ⟨g2, f2 + j * 7 + 2, none⟩ = some (.string ⟨o2.to.toArray⟩) ∧ A.cell? ⟨g2, f2 + j * 7 + 3, none⟩ = some (.slice o2.b.a o2.b.bs.length o2.b.c) ∧ A.cell? ⟨g2, f2 + j * 7 + 4, none⟩ = some (.int .i64 o2.n) ∧ A.cell? ⟨g2, f2 + j * 7 + 5, none⟩ = some (.int .i64 o2.bit) ∧ A.cell? ⟨g2, f2 + j * 7 + 6, none⟩ = some (.slice o2.ka o2.ks.length o2.kc))) (by kernel_rfl) ?_ (fun hHeld => ?_)
            · exact hS2.out _ PB1.kp
            generalize Y1.drew = wdB1 at *
            have b0 := BB1.c0; have b1 := BB1.c1; have b2 := BB1.c2; have b3 := BB1.c3; have b4 := BB1.c4; have b5 := BB1.c5
            refine wpAnyH_take (i := 0) (v := ?_) rfl (by kernel_rfl) (by kernel_rfl) (by kernel_rfl) (fun _ _ _ h => h) (Or.inl ⟨by rfl, ?_⟩) (by assumption) ?_
            rotate_left
            · intro w hSw; (try dsimp only at hSw); go_simp <;> with_reducible rfl
            try simp only [Act.put, List.getElem_toArray, List.getElem_cons_zero, List.getElem_cons_succ, List.setIfInBounds_toArray, List.set_cons_zero, List.set_cons_succ]
            refine wpAnyH_take (i := 2) (v := ?_) rfl (by kernel_rfl) (by kernel_rfl) (by kernel_rfl) (fun _ _ _ h => h) (Or.inl ⟨by rfl, ?_⟩) (by assumption) ?_
            rotate_left
            · intro w hSw; (try dsimp only at hSw); go_simp <;> with_reducible rfl
            try simp only [Act.put, List.getElem_toArray, List.getElem_cons_zero, List.getElem_cons_succ, List.setIfInBounds_toArray, List.set_cons_zero, List.set_cons_succ]
            refine wpAnyH_take (i := 3) (v := ?_) rfl (by kernel_rfl) (by kernel_rfl) (by kernel_rfl) (fun _ _ _ h => h) (Or.inl ⟨by rfl, ?_⟩) (by assumption) ?_
            rotate_left
            · intro w hSw; (try dsimp only at hSw); go_simp <;> with_reducible rfl
            try simp only [Act.put, List.getElem_toArray, List.getElem_cons_zero, List.getElem_cons_succ, List.setIfInBounds_toArray, List.set_cons_zero, List.set_cons_succ]
            refine wpAnyH_take (i := 4) (v := ?_) rfl (by kernel_rfl) (by kernel_rfl) (by kernel_rfl) (fun _ _ _ h => h) (Or.inl ⟨by rfl, ?_⟩) (by assumption) ?_
            rotate_left
            · intro w hSw; (try dsimp only at hSw); go_simp <;> with_reducible rfl
            try simp only [Act.put, List.getElem_toArray, List.getElem_cons_zero, List.getElem_cons_succ, List.setIfInBounds_toArray, List.set_cons_zero, List.set_cons_succ]
            refine wpAnyH_take (i := 5) (v := ?_) rfl (by kernel_rfl) (by kernel_rfl) (by kernel_rfl) (fun _ _ _ h => h) (Or.inl ⟨by rfl, ?_⟩) (by assumption) ?_
            rotate_left
            · intro w hSw; (try dsimp only at hSw); go_simp <;> with_reducible rfl
            try simp only [Act.put, List.getElem_toArray, List.getElem_cons_zero, List.getElem_cons_succ, List.setIfInBounds_toArray, List.set_cons_zero, List.set_cons_succ]
            refine wpAnyH_take (i := 6) (v := ?_) rfl (by kernel_rfl) (by kernel_rfl) (by kernel_rfl) (fun _ _ _ h => h) (Or.inl ⟨by rfl, ?_⟩) (by assumption) ?_
            rotate_left
            · intro w hSw; (try dsimp only at hSw); go_simp <;> with_reducible rfl
            try simp only [Act.put, List.getElem_toArray, List.getElem_cons_zero, List.getElem_cons_succ, List.setIfInBounds_toArray, List.set_cons_zero, List.set_cons_succ]
            refine wpAnyH_ready (rs := [1]) (by kernel_rfl) (by simp) ?_
            refine AllReadyH.cons rfl (fun K hK => ?_) AllReadyH.nil
            go_simp
            (try go_wp2_with fail)
            refine hK.out _ _ ?_ (fun hHeld => ?_)
            · exact hHeld
            clear hK K
            try simp only [Act.put, List.getElem_toArray, List.getElem_cons_zero, List.getElem_cons_succ, List.setIfInBounds_toArray, List.set_cons_zero, List.set_cons_succ]
            refine wpAnyH_ready (rs := [7]) (by kernel_rfl) (by simp) ?_
            refine AllReadyH.cons rfl (fun K hK => ?_) AllReadyH.nil
            go_simp
            refine aS.mono ?_
            rintro e xB1 ⟨pB1, mbB1, xsB1, r', rfl, hD4, hR4, hL4, kk, n1, n2, n3, _⟩
            (try go_wp2_with fail)
            refine hK.out _ _ ?_ (fun hHeld => ?_)
            · exact hS2.out _ (PB1.kp.trans kk (fun x hx => .inr (PB1.nw x hx)))
            clear hK K
            try simp only [Act.put, List.getElem_toArray, List.getElem_cons_zero, List.getElem_cons_succ, List.setIfInBounds_toArray, List.set_cons_zero, List.set_cons_succ]
            clear b0 b1 b2 b3 b4 b5 aS
            have bq4 := BB1.keptS kk QB1
            obtain ⟨r0a, r1a, r2a, r3a, r4a, r5a, rfa⟩ := bq4
            have bq4 := BB1.keptS kk QB1
            have g0 := rfa 0; have g1_ := rfa 1; have g2_ := rfa 2; have g3 := rfa 3; have g4 := rfa 4; have g5 := rfa 5
            obtain ⟨roomB1, stepsB1, faB1, fcB1, lB1, armedB1, deadB1, leftB1⟩ := r'
            simp only [RD.v] at *
            refine wpAnyH_take (i := 8) (v := ?_) rfl (by kernel_rfl) (by kernel_rfl) (by kernel_rfl) (fun _ _ _ h => h) (Or.inl ⟨by rfl, ?_⟩) (by assumption) ?_
            rotate_left
            · intro w hSw; (try dsimp only at hSw); go_simp <;> with_reducible rfl
            try simp only [Act.put, List.getElem_toArray, List.getElem_cons_zero, List.getElem_cons_succ, List.setIfInBounds_toArray, List.set_cons_zero, List.set_cons_succ]
            refine wpAnyH_take (i := 9) (v := ?_) rfl (by kernel_rfl) (by kernel_rfl) (by kernel_rfl) (fun _ _ _ h => h) (Or.inl ⟨by rfl, ?_⟩) (by assumption) ?_
            rotate_left
            · intro w hSw; (try dsimp only at hSw); go_simp <;> with_reducible rfl
            try simp only [Act.put, List.getElem_toArray, List.getElem_cons_zero, List.getElem_cons_succ, List.setIfInBounds_toArray, List.set_cons_zero, List.set_cons_succ]
            refine wpAnyH_take (i := 10) (v := ?_) rfl (by kernel_rfl) (by kernel_rfl) (by kernel_rfl) (fun _ _ _ h => h) (Or.inl ⟨by rfl, ?_⟩) (by assumption) ?_
            rotate_left
            · intro w hSw; (try dsimp only at hSw); go_simp <;> with_reducible rfl
            try simp only [Act.put, List.getElem_toArray, List.getElem_cons_zero, List.getElem_cons_succ, List.setIfInBounds_toArray, List.set_cons_zero, List.set_cons_succ]
            refine wpAnyH_take (i := 11) (v := ?_) rfl (by kernel_rfl) (by kernel_rfl) (by kernel_rfl) (fun _ _ _ h => h) (Or.inl ⟨by rfl, ?_⟩) (by assumption) ?_
            rotate_left
            · intro w hSw; (try dsimp only at hSw); go_simp <;> with_reducible rfl
            try simp only [Act.put, List.getElem_toArray, List.getElem_cons_zero, List.getElem_cons_succ, List.setIfInBounds_toArray, List.set_cons_zero, List.set_cons_succ]
            refine wpAnyH_take (i := 12) (v := ?_) rfl (by kernel_rfl) (by kernel_rfl) (by kernel_rfl) (fun _ _ _ h => h) (Or.inl ⟨by rfl, ?_⟩) (by assumption) ?_
            rotate_left
            · intro w hSw; (try dsimp only at hSw); go_simp <;> with_reducible rfl
            try simp only [Act.put, List.getElem_toArray, List.getElem_cons_zero, List.getElem_cons_succ, List.setIfInBounds_toArray, List.set_cons_zero, List.set_cons_succ]
            refine wpAnyH_ready (rs := [13]) (by kernel_rfl) (by simp) ?_
            refine AllReadyH.cons rfl (fun K hK => ?_) AllReadyH.nil
            go_simp
            (try go_wp2_with fail)
            refine hK.out _ _ ?_ (fun hHeld => ?_)
            · exact hS2.out _ ((PB1.kp.trans kk (fun x hx => .inr (PB1.nw x hx))).trans (kpSet6 _ _ _ _ _ _ _ _) (fun x hx => .inr (by simp at hx; omega)))
            clear hK K
            try simp only [Act.put, List.getElem_toArray, List.getElem_cons_zero, List.getElem_cons_succ, List.setIfInBounds_toArray, List.set_cons_zero, List.set_cons_succ]
            refine wpAnyH_take (i := 14) (v := ?_) rfl (by kernel_rfl) (by kernel_rfl) (by kernel_rfl) (fun _ _ _ h => h) (Or.inl ⟨by rfl, ?_⟩) (by assumption) ?_
            rotate_left
            · intro w hSw; (try dsimp only at hSw); go_simp <;> with_reducible rfl
            try simp only [Act.put, List.getElem_toArray, List.getElem_cons_zero, List.getElem_cons_succ, List.setIfInBounds_toArray, List.set_cons_zero, List.set_cons_succ]
            refine wpAnyH_done (by kernel_rfl) ?_ _
            obtain ⟨Y2, hY, rbY, kY⟩ := set6_ex bq4 (.int .i64 roomB1) (.int .i64 stepsB1) (.slice faB1 lB1.length fcB1) (.bool armedB1) (.bool deadB1) (.int .i64 leftB1)
            rw [hY]
            have GB1 := GB10.step hD4 hR4 hL4 kk n1 n2 n3 kY rbY
            clear hY rbY kY hD4 hR4 hL4 kk n1 n2 n3 bq4 r0a r1a r2a r3a r4a r5a rfa g0 g1_ g2_ g3 g4 g5 GB10 PB1 BB1 hHeld
            have Gc := GB1.perm (List.perm_append_comm (l₁ := [(⟨pB1, mbB1, xsB1, ⟨roomB1, stepsB1, faB1, fcB1, lB1, armedB1, deadB1, leftB1⟩, dB1, qB⟩ : Sl), (⟨pA1, mbA1, xsA1, ⟨roomA1, stepsA1, faA1, fcA1, lA1, armedA1, deadA1, leftA1⟩, dA1, qA⟩ : Sl)]) (l₂ := [(⟨pC, mbC, xsC, ⟨roomC, stepsC, faC, fcC, lC, armedC, deadC, leftC⟩, dC, qC⟩ : Sl)]))
            have c2w := hbw2.out Y2 (Gc.pr _ (by simp : (⟨pC, mbC, xsC, ⟨roomC, stepsC, faC, fcC, lC, armedC, deadC, leftC⟩, dC, qC⟩ : Sl) ∈ _)).kp
            have PC1 := (Gc.keep (w' := Y2.drew) (Kp.refl _ _).drew).pr _ (by simp : (⟨pC, mbC, xsC, ⟨roomC, stepsC, faC, fcC, lC, armedC, deadC, leftC⟩, dC, qC⟩ : Sl) ∈ _)
            have BC1 := (Gc.keep (w' := Y2.drew) (Kp.refl _ _).drew).rb _ (by simp : (⟨pC, mbC, xsC, ⟨roomC, stepsC, faC, fcC, lC, armedC, deadC, leftC⟩, dC, qC⟩ : Sl) ∈ _)
            have QC1 := (Gc.qf _ (by simp : (⟨pC, mbC, xsC, ⟨roomC, stepsC, faC, fcC, lC, armedC, deadC, leftC⟩, dC, qC⟩ : Sl) ∈ _) _ (by simp : (⟨pC, mbC, xsC, ⟨roomC, stepsC, faC, fcC, lC, armedC, deadC, leftC⟩, dC, qC⟩ : Sl) ∈ _)).1
            have GC10 := Gc.keep (w' := Y2.drew) (Kp.refl _ _).drew
            have qWC1 := Gc.qW _ (by simp : (⟨pC, mbC, xsC, ⟨roomC, stepsC, faC, fcC, lC, armedC, deadC, leftC⟩, dC, qC⟩ : Sl) ∈ _)
            simp only [Sl.ft] at QC1
            simp only at PC1 BC1 qWC1
            have aS := cStepW PC1.D lowC (by omega) ⟨roomC, stepsC, faC, fcC, lC, armedC, deadC, leftC⟩ PC1.R PC1.L PC1.ap o2 (hoW2.kept PC1.kp) (by have := hso2.out; omega) (by omega) (offPr PC1 hoW2)
            have hlowC1 := hid (lw_stp o2 lowC PC1.D.ok (by have := hso2.out; omega))
            have hstpC1 := stp_steps dC o2
            obtain ⟨dC1, hdC1⟩ : ∃ d', Hid (d' = stpD dC o2) := ⟨_, rfl⟩
            rw [← hdC1.out] at aS hlowC1 hstpC1
            simp only [RD.v, DOp.v] at aS
            unfold RB at BC1
            simp only at BC1
            go_wp2_with fail
            refine wp_region_held_drew (S := (fun A => A.cell? ⟨W.heap.size, 2, none⟩ = some (.slice (some ⟨g2, f2, none⟩) l2.length c2) ∧ A.cell? ⟨g2, f2 + j * 7, none⟩ = some (.int .i64 o2.kind) ∧ A.cell? ⟨g2, f2 + j * 7 + 1, none⟩ = some (.string ⟨o2.name.toArray⟩) ∧ A.cell? ⟨g2, f2 + j * 7 + 2, none⟩ = some (.string ⟨o2.to.toArray⟩) ∧ A.cell? ⟨g2, f2 + j * 7 + 3, none⟩ = some (.slice o2.b.a o2.b.bs.length o2.b.c) ∧ A.cell? ⟨g2, f2 + j * 7 + 4, none⟩ = some (.int .i64 o2.n) ∧ A.cell? ⟨g2, f2 + j * 7 + 5, none⟩ = some (.int .i64 o2.bit) ∧ A.cell? ⟨g2, f2 + j * 7 + 6, none⟩ = some (.slice o2.ka o2.ks.length o2.kc))) (by kernel_rfl) ?_ (fun hHeld => ?_)
            · exact hS2.out _ PC1.kp
            generalize Y2.drew = wdC1 at *
            have b0 := BC1.c0; have b1 := BC1.c1; have b2 := BC1.c2; have b3 := BC1.c3; have b4 := BC1.c4; have b5 := BC1.c5
            refine wpAnyH_take (i := 0) (v := ?_) rfl (by kernel_rfl) (by kernel_rfl) (by kernel_rfl) (fun _ _ _ h => h) (Or.inl ⟨by rfl, ?_⟩) (by assumption) ?_
            rotate_left
            · intro w hSw; (try dsimp only at hSw); go_simp <;> with_reducible rfl
            try simp only [Act.put, List.getElem_toArray, List.getElem_cons_zero, List.getElem_cons_succ, List.setIfInBounds_toArray, List.set_cons_zero, List.set_cons_succ]
            refine wpAnyH_take (i := 2) (v := ?_) rfl (by kernel_rfl) (by kernel_rfl) (by kernel_rfl) (fun _ _ _ h => h) (Or.inl ⟨by rfl, ?_⟩) (by assumption) ?_
            rotate_left
            · intro w hSw; (try dsimp only at hSw); go_simp <;> with_reducible rfl
            try simp only [Act.put, List.getElem_toArray, List.getElem_cons_zero, List.getElem_cons_succ, List.setIfInBounds_toArray, List.set_cons_zero, List.set_cons_succ]
            refine wpAnyH_take (i := 3) (v := ?_) rfl (by kernel_rfl) (by kernel_rfl) (by kernel_rfl) (fun _ _ _ h => h) (Or.inl ⟨by rfl, ?_⟩) (by assumption) ?_
            rotate_left
            · intro w hSw; (try dsimp only at hSw); go_simp <;> with_reducible rfl
            try simp only [Act.put, List.getElem_toArray, List.getElem_cons_zero, List.getElem_cons_succ, List.setIfInBounds_toArray, List.set_cons_zero, List.set_cons_succ]
            refine wpAnyH_take (i := 4) (v := ?_) rfl (by kernel_rfl) (by kernel_rfl) (by kernel_rfl) (fun _ _ _ h => h) (Or.inl ⟨by rfl, ?_⟩) (by assumption) ?_
            rotate_left
            · intro w hSw; (try dsimp only at hSw); go_simp <;> with_reducible rfl
            try simp only [Act.put, List.getElem_toArray, List.getElem_cons_zero, List.getElem_cons_succ, List.setIfInBounds_toArray, List.set_cons_zero, List.set_cons_succ]
            refine wpAnyH_take (i := 5) (v := ?_) rfl (by kernel_rfl) (by kernel_rfl) (by kernel_rfl) (fun _ _ _ h => h) (Or.inl ⟨by rfl, ?_⟩) (by assumption) ?_
            rotate_left
            · intro w hSw; (try dsimp only at hSw); go_simp <;> with_reducible rfl
            try simp only [Act.put, List.getElem_toArray, List.getElem_cons_zero, List.getElem_cons_succ, List.setIfInBounds_toArray, List.set_cons_zero, List.set_cons_succ]
            refine wpAnyH_take (i := 6) (v := ?_) rfl (by kernel_rfl) (by kernel_rfl) (by kernel_rfl) (fun _ _ _ h => h) (Or.inl ⟨by rfl, ?_⟩) (by assumption) ?_
            rotate_left
            · intro w hSw; (try dsimp only at hSw); go_simp <;> with_reducible rfl
            try simp only [Act.put, List.getElem_toArray, List.getElem_cons_zero, List.getElem_cons_succ, List.setIfInBounds_toArray, List.set_cons_zero, List.set_cons_succ]
            refine wpAnyH_ready (rs := [1]) (by kernel_rfl) (by simp) ?_
            refine AllReadyH.cons rfl (fun K hK => ?_) AllReadyH.nil
            go_simp
            (try go_wp2_with fail)
            refine hK.out _ _ ?_ (fun hHeld => ?_)
            · exact hHeld
            clear hK K
            try simp only [Act.put, List.getElem_toArray, List.getElem_cons_zero, List.getElem_cons_succ, List.setIfInBounds_toArray, List.set_cons_zero, List.set_cons_succ]
            refine wpAnyH_ready (rs := [7]) (by kernel_rfl) (by simp) ?_
            refine AllReadyH.cons rfl (fun K hK => ?_) AllReadyH.nil
            go_simp
            refine aS.mono ?_
            rintro e xC1 ⟨pC1, mbC1, xsC1, r', rfl, hD4, hR4, hL4, kk, n1, n2, n3, _⟩
            (try go_wp2_with fail)
            refine hK.out _ _ ?_ (fun hHeld => ?_)
            · exact hS2.out _ (PC1.kp.trans kk (fun x hx => .inr (PC1.nw x hx)))
            clear hK K
            try simp only [Act.put, List.getElem_toArray, List.getElem_cons_zero, List.getElem_cons_succ, List.setIfInBounds_toArray, List.set_cons_zero, List.set_cons_succ]
            clear b0 b1 b2 b3 b4 b5 aS
            have bq4 := BC1.keptS kk QC1
            obtain ⟨r0a, r1a, r2a, r3a, r4a, r5a, rfa⟩ := bq4
            have bq4 := BC1.keptS kk QC1
            have g0 := rfa 0; have g1_ := rfa 1; have g2_ := rfa 2; have g3 := rfa 3; have g4 := rfa 4; have g5 := rfa 5
            obtain ⟨roomC1, stepsC1, faC1, fcC1, lC1, armedC1, deadC1, leftC1⟩ := r'
            simp only [RD.v] at *
            refine wpAnyH_take (i := 8) (v := ?_) rfl (by kernel_rfl) (by kernel_rfl) (by kernel_rfl) (fun _ _ _ h => h) (Or.inl ⟨by rfl, ?_⟩) (by assumption) ?_
            rotate_left
            · intro w hSw; (try dsimp only at hSw); go_simp <;> with_reducible rfl
            try simp only [Act.put, List.getElem_toArray, List.getElem_cons_zero, List.getElem_cons_succ, List.setIfInBounds_toArray, List.set_cons_zero, List.set_cons_succ]
            refine wpAnyH_take (i := 9) (v := ?_) rfl (by kernel_rfl) (by kernel_rfl) (by kernel_rfl) (fun _ _ _ h => h) (Or.inl ⟨by rfl, ?_⟩) (by assumption) ?_
            rotate_left
            · intro w hSw; (try dsimp only at hSw); go_simp <;> with_reducible rfl
            try simp only [Act.put, List.getElem_toArray, List.getElem_cons_zero, List.getElem_cons_succ, List.setIfInBounds_toArray, List.set_cons_zero, List.set_cons_succ]
            refine wpAnyH_take (i := 10) (v := ?_) rfl (by kernel_rfl) (by kernel_rfl) (by kernel_rfl) (fun _ _ _ h => h) (Or.inl ⟨by rfl, ?_⟩) (by assumption) ?_
            rotate_left
            · intro w hSw; (try dsimp only at hSw); go_simp <;> with_reducible rfl
            try simp only [Act.put, List.getElem_toArray, List.getElem_cons_zero, List.getElem_cons_succ, List.setIfInBounds_toArray, List.set_cons_zero, List.set_cons_succ]
            refine wpAnyH_take (i := 11) (v := ?_) rfl (by kernel_rfl) (by kernel_rfl) (by kernel_rfl) (fun _ _ _ h => h) (Or.inl ⟨by rfl, ?_⟩) (by assumption) ?_
            rotate_left
            · intro w hSw; (try dsimp only at hSw); go_simp <;> with_reducible rfl
            try simp only [Act.put, List.getElem_toArray, List.getElem_cons_zero, List.getElem_cons_succ, List.setIfInBounds_toArray, List.set_cons_zero, List.set_cons_succ]
            refine wpAnyH_take (i := 12) (v := ?_) rfl (by kernel_rfl) (by kernel_rfl) (by kernel_rfl) (fun _ _ _ h => h) (Or.inl ⟨by rfl, ?_⟩) (by assumption) ?_
            rotate_left
            · intro w hSw; (try dsimp only at hSw); go_simp <;> with_reducible rfl
            try simp only [Act.put, List.getElem_toArray, List.getElem_cons_zero, List.getElem_cons_succ, List.setIfInBounds_toArray, List.set_cons_zero, List.set_cons_succ]
            refine wpAnyH_ready (rs := [13]) (by kernel_rfl) (by simp) ?_
            refine AllReadyH.cons rfl (fun K hK => ?_) AllReadyH.nil
            go_simp
            (try go_wp2_with fail)
            refine hK.out _ _ ?_ (fun hHeld => ?_)
            · exact hS2.out _ ((PC1.kp.trans kk (fun x hx => .inr (PC1.nw x hx))).trans (kpSet6 _ _ _ _ _ _ _ _) (fun x hx => .inr (by simp at hx; omega)))
            clear hK K
            try simp only [Act.put, List.getElem_toArray, List.getElem_cons_zero, List.getElem_cons_succ, List.setIfInBounds_toArray, List.set_cons_zero, List.set_cons_succ]
            refine wpAnyH_take (i := 14) (v := ?_) rfl (by kernel_rfl) (by kernel_rfl) (by kernel_rfl) (fun _ _ _ h => h) (Or.inl ⟨by rfl, ?_⟩) (by assumption) ?_
            rotate_left
            · intro w hSw; (try dsimp only at hSw); go_simp <;> with_reducible rfl
            try simp only [Act.put, List.getElem_toArray, List.getElem_cons_zero, List.getElem_cons_succ, List.setIfInBounds_toArray, List.set_cons_zero, List.set_cons_succ]
            refine wpAnyH_done (by kernel_rfl) ?_ _
            obtain ⟨Y3, hY, rbY, kY⟩ := set6_ex bq4 (.int .i64 roomC1) (.int .i64 stepsC1) (.slice faC1 lC1.length fcC1) (.bool armedC1) (.bool deadC1) (.int .i64 leftC1)
            rw [hY]
            have GC1 := GC10.step hD4 hR4 hL4 kk n1 n2 n3 kY rbY
            clear hY rbY kY hD4 hR4 hL4 kk n1 n2 n3 bq4 r0a r1a r2a r3a r4a r5a rfa g0 g1_ g2_ g3 g4 g5 GC10 PC1 BC1 hHeld
            have Gd := GC1.perm ((List.Perm.swap (⟨pB1, mbB1, xsB1, ⟨roomB1, stepsB1, faB1, fcB1, lB1, armedB1, deadB1, leftB1⟩, dB1, qB⟩ : Sl) (⟨pC1, mbC1, xsC1, ⟨roomC1, stepsC1, faC1, fcC1, lC1, armedC1, deadC1, leftC1⟩, dC1, qC⟩ : Sl) [(⟨pA1, mbA1, xsA1, ⟨roomA1, stepsA1, faA1, fcA1, lA1, armedA1, deadA1, leftA1⟩, dA1, qA⟩ : Sl)]).trans ((List.perm_append_comm (l₁ := [(⟨pB1, mbB1, xsB1, ⟨roomB1, stepsB1, faB1, fcB1, lB1, armedB1, deadB1, leftB1⟩, dB1, qB⟩ : Sl), (⟨pC1, mbC1, xsC1, ⟨roomC1, stepsC1, faC1, fcC1, lC1, armedC1, deadC1, leftC1⟩, dC1, qC⟩ : Sl)]) (l₂ := [(⟨pA1, mbA1, xsA1, ⟨roomA1, stepsA1, faA1, fcA1, lA1, armedA1, deadA1, leftA1⟩, dA1, qA⟩ : Sl)]))))
            have hfin : ClI W1 qA qB qC (sumB l0) l0.length l1 l2 (.pointer (some ⟨(⟨pA1, mbA1, xsA1, ⟨roomA1, stepsA1, faA1, fcA1, lA1, armedA1, deadA1, leftA1⟩, dA1, qA⟩ : Sl).p, 0, none⟩)) (.pointer (some ⟨(⟨pB1, mbB1, xsB1, ⟨roomB1, stepsB1, faB1, fcB1, lB1, armedB1, deadB1, leftB1⟩, dB1, qB⟩ : Sl).p, 0, none⟩)) (.pointer (some ⟨(⟨pC1, mbC1, xsC1, ⟨roomC1, stepsC1, faC1, fcC1, lC1, armedC1, deadC1, leftC1⟩, dC1, qC⟩ : Sl).p, 0, none⟩)) (j + 1) Y3 := ⟨_, _, _, rfl, rfl, rfl, Gd, rfl, rfl, rfl, by rw [hso1.out]; exact hlowA1.out.mono (by omega) (by omega), by simp only; omega, by rw [hso2.out]; exact hlowB1.out.mono (by omega) (by omega), by simp only; omega, by rw [hso2.out]; exact hlowC1.out.mono (by omega) (by omega), by simp only; omega⟩
            go_wp2_with fail
            exact ⟨⟨j + 1, by omega, by go_num, hfin⟩, by simp [intOf]; omega⟩
          · have hfin : ClI W1 qA qB qC (sumB l0) l0.length l1 l2 (.pointer (some ⟨(⟨pA1, mbA1, xsA1, ⟨roomA1, stepsA1, faA1, fcA1, lA1, armedA1, deadA1, leftA1⟩, dA1, qA⟩ : Sl).p, 0, none⟩)) (.pointer (some ⟨(⟨pB, mbB, xsB, ⟨roomB, stepsB, faB, fcB, lB, armedB, deadB, leftB⟩, dB, qB⟩ : Sl).p, 0, none⟩)) (.pointer (some ⟨(⟨pC, mbC, xsC, ⟨roomC, stepsC, faC, fcC, lC, armedC, deadC, leftC⟩, dC, qC⟩ : Sl).p, 0, none⟩)) (j + 1) Y1 := ⟨_, _, _, rfl, rfl, rfl, GA1, rfl, rfl, rfl, by rw [hso1.out]; exact hlowA1.out.mono (by omega) (by omega), by simp only; omega, lowB.mono (by omega) (by omega), by simp only; omega, lowC.mono (by omega) (by omega), by simp only; omega⟩
            go_wp2_with fail
            exact ⟨⟨j + 1, by omega, by go_num, hfin⟩, by simp [intOf]; omega⟩
        · by_cases h2 : j < l2.length
          · obtain ⟨o2, ho2⟩ : ∃ o, l2[j]? = some o := ⟨l2[j], by simp [h2]⟩
            have hoW2 := (hok2 o2 (List.mem_of_getElem? ho2)).kept kW1
            have hso2 := hid (sumB_take ho2)
            have hsl2 := sumB_le l2 (j + 1)
            obtain ⟨g2, f2, ea2, x0, x1, x2, x3, x4, x5, x6⟩ := dopAt (hs2.keptNew kW1) ho2
            subst ea2
            have hS2 : Hid (∀ A, Kp [] W1 A → (A.cell? ⟨W.heap.size, 2, none⟩ = some (.slice (some ⟨g2, f2, none⟩) l2.length c2) ∧ A.cell? ⟨g2, f2 + j * 7, none⟩ = some (.int .i64 o2.kind) ∧ A.cell? ⟨g2, f2 + j * 7 + 1, none⟩ = some (.string ⟨o2.name.toArray⟩) ∧ A.cell? ⟨g2, f2 + j * 7 + 2, none⟩ = some (.string ⟨o2.to.toArray⟩) ∧ A.cell? ⟨g2, f2 + j * 7 + 3, none⟩ = some (.slice o2.b.a o2.b.bs.length o2.b.c) ∧ A.cell? ⟨g2, f2 + j * 7 + 4, none⟩ = some (.int .i64 o2.n) ∧ A.cell? ⟨g2, f2 + j * 7 + 5, none⟩ = some (.int .i64 o2.bit) ∧ A.cell? ⟨g2, f2 + j * 7 + 6, none⟩ = some (.slice o2.ka o2.ks.length o2.kc))) := fun A kA => ⟨hbw2.out A kA, cell_kp kA x0, cell_kp kA x1, cell_kp kA x2, cell_kp kA x3, cell_kp kA x4, cell_kp kA x5, cell_kp kA x6⟩
            clear x0 x1 x2 x3 x4 x5 x6 ho2
            have Gb := G.perm (List.Perm.swap (⟨pB, mbB, xsB, ⟨roomB, stepsB, faB, fcB, lB, armedB, deadB, leftB⟩, dB, qB⟩ : Sl) (⟨pA, mbA, xsA, ⟨roomA, stepsA, faA, fcA, lA, armedA, deadA, leftA⟩, dA, qA⟩ : Sl) [(⟨pC, mbC, xsC, ⟨roomC, stepsC, faC, fcC, lC, armedC, deadC, leftC⟩, dC, qC⟩ : Sl)])
            have PB1 := (Gb.keep (w' := wr.drew) (Kp.refl _ _).drew).pr _ (by simp : (⟨pB, mbB, xsB, ⟨roomB, stepsB, faB, fcB, lB, armedB, deadB, leftB⟩, dB, qB⟩ : Sl) ∈ _)
            have BB1 := (Gb.keep (w' := wr.drew) (Kp.refl _ _).drew).rb _ (by simp : (⟨pB, mbB, xsB, ⟨roomB, stepsB, faB, fcB, lB, armedB, deadB, leftB⟩, dB, qB⟩ : Sl) ∈ _)
            have QB1 := (Gb.qf _ (by simp : (⟨pB, mbB, xsB, ⟨roomB, stepsB, faB, fcB, lB, armedB, deadB, leftB⟩, dB, qB⟩ : Sl) ∈ _) _ (by simp : (⟨pB, mbB, xsB, ⟨roomB, stepsB, faB, fcB, lB, armedB, deadB, leftB⟩, dB, qB⟩ : Sl) ∈ _)).1
            have GB10 := Gb.keep (w' := wr.drew) (Kp.refl _ _).drew
            have qWB1 := Gb.qW _ (by simp : (⟨pB, mbB, xsB, ⟨roomB, stepsB, faB, fcB, lB, armedB, deadB, leftB⟩, dB, qB⟩ : Sl) ∈ _)
            simp only [Sl.ft] at QB1
            simp only at PB1 BB1 qWB1
            have aS := cStepW PB1.D lowB (by omega) ⟨roomB, stepsB, faB, fcB, lB, armedB, deadB, leftB⟩ PB1.R PB1.L PB1.ap o2 (hoW2.kept PB1.kp) (by have := hso2.out; omega) (by omega) (offPr PB1 hoW2)
            have hlowB1 := hid (lw_stp o2 lowB PB1.D.ok (by have := hso2.out; omega))
            have hstpB1 := stp_steps dB o2
            obtain ⟨dB1, hdB1⟩ : ∃ d', Hid (d' = stpD dB o2) := ⟨_, rfl⟩
            rw [← hdB1.out] at aS hlowB1 hstpB1
            simp only [RD.v, DOp.v] at aS
            unfold RB at BB1
            simp only at BB1
            go_wp2_with fail
            refine wp_region_held_drew (S := (fun A => A.cell? ⟨W.heap.size, 2, none⟩ = some (.slice (some ⟨g2, f2, none⟩) l2.length c2) ∧ A.cell? ⟨g2, f2 + j * 7, none⟩ = some (.int .i64 o2.kind) ∧ A.cell? ⟨g2, f2 + j * 7 + 1, none⟩ = some (.string ⟨o2.name.toArray⟩) ∧ A.cell? ⟨g2, f2 + j * 7 + 2, none⟩ = some (.string ⟨o2.to.toArray⟩) ∧ A.cell? ⟨g2, f2 + j * 7 + 3, none⟩ = some (.slice o2.b.a o2.b.bs.length o2.b.c) ∧ A.cell? ⟨g2, f2 + j * 7 + 4, none⟩ = some (.int .i64 o2.n) ∧ A.cell? ⟨g2, f2 + j * 7 + 5, none⟩ = some (.int .i64 o2.bit) ∧ A.cell? ⟨g2, f2 + j * 7 + 6, none⟩ = some (.slice o2.ka o2.ks.length o2.kc))) (by kernel_rfl) ?_ (fun hHeld => ?_)
            · exact hS2.out _ PB1.kp
            generalize wr.drew = wdB1 at *
            have b0 := BB1.c0; have b1 := BB1.c1; have b2 := BB1.c2; have b3 := BB1.c3; have b4 := BB1.c4; have b5 := BB1.c5
            refine wpAnyH_take (i := 0) (v := ?_) rfl (by kernel_rfl) (by kernel_rfl) (by kernel_rfl) (fun _ _ _ h => h) (Or.inl ⟨by rfl, ?_⟩) (by assumption) ?_
            rotate_left
            · intro w hSw; (try dsimp only at hSw); go_simp <;> with_reducible rfl
            try simp only [Act.put, List.getElem_toArray, List.getElem_cons_zero, List.getElem_cons_succ, List.setIfInBounds_toArray, List.set_cons_zero, List.set_cons_succ]
            refine wpAnyH_take (i := 2) (v := ?_) rfl (by kernel_rfl) (by kernel_rfl) (by kernel_rfl) (fun _ _ _ h => h) (Or.inl ⟨by rfl, ?_⟩) (by assumption) ?_
            rotate_left
            · intro w hSw; (try dsimp only at hSw); go_simp <;> with_reducible rfl
            try simp only [Act.put, List.getElem_toArray, List.getElem_cons_zero, List.getElem_cons_succ, List.setIfInBounds_toArray, List.set_cons_zero, List.set_cons_succ]
            refine wpAnyH_take (i := 3) (v := ?_) rfl (by kernel_rfl) (by kernel_rfl) (by kernel_rfl) (fun _ _ _ h => h) (Or.inl ⟨by rfl, ?_⟩) (by assumption) ?_
            rotate_left
            · intro w hSw; (try dsimp only at hSw); go_simp <;> with_reducible rfl
            try simp only [Act.put, List.getElem_toArray, List.getElem_cons_zero, List.getElem_cons_succ, List.setIfInBounds_toArray, List.set_cons_zero, List.set_cons_succ]
            refine wpAnyH_take (i := 4) (v := ?_) rfl (by kernel_rfl) (by kernel_rfl) (by kernel_rfl) (fun _ _ _ h => h) (Or.inl ⟨by rfl, ?_⟩) (by assumption) ?_
            rotate_left
            · intro w hSw; (try dsimp only at hSw); go_simp <;> with_reducible rfl
            try simp only [Act.put, List.getElem_toArray, List.getElem_cons_zero, List.getElem_cons_succ, List.setIfInBounds_toArray, List.set_cons_zero, List.set_cons_succ]
            refine wpAnyH_take (i := 5) (v := ?_) rfl (by kernel_rfl) (by kernel_rfl) (by kernel_rfl) (fun _ _ _ h => h) (Or.inl ⟨by rfl, ?_⟩) (by assumption) ?_
            rotate_left
            · intro w hSw; (try dsimp only at hSw); go_simp <;> with_reducible rfl
            try simp only [Act.put, List.getElem_toArray, List.getElem_cons_zero, List.getElem_cons_succ, List.setIfInBounds_toArray, List.set_cons_zero, List.set_cons_succ]
            refine wpAnyH_take (i := 6) (v := ?_) rfl (by kernel_rfl) (by kernel_rfl) (by kernel_rfl) (fun _ _ _ h => h) (Or.inl ⟨by rfl, ?_⟩) (by assumption) ?_
            rotate_left
            · intro w hSw; (try dsimp only at hSw); go_simp <;> with_reducible rfl
            try simp only [Act.put, List.getElem_toArray, List.getElem_cons_zero, List.getElem_cons_succ, List.setIfInBounds_toArray, List.set_cons_zero, List.set_cons_succ]
            refine wpAnyH_ready (rs := [1]) (by kernel_rfl) (by simp) ?_
            refine AllReadyH.cons rfl (fun K hK => ?_) AllReadyH.nil
            go_simp
            (try go_wp2_with fail)
            refine hK.out _ _ ?_ (fun hHeld => ?_)
            · exact hHeld
            clear hK K
            try simp only [Act.put, List.getElem_toArray, List.getElem_cons_zero, List.getElem_cons_succ, List.setIfInBounds_toArray, List.set_cons_zero, List.set_cons_succ]
            refine wpAnyH_ready (rs := [7]) (by kernel_rfl) (by simp) ?_
            refine AllReadyH.cons rfl (fun K hK => ?_) AllReadyH.nil
            go_simp
            refine aS.mono ?_
            rintro e xB1 ⟨pB1, mbB1, xsB1, r', rfl, hD4, hR4, hL4, kk, n1, n2, n3, _⟩
            (try go_wp2_with fail)
            refine hK.out _ _ ?_ (fun hHeld => ?_)
            · exact hS2.out _ (PB1.kp.trans kk (fun x hx => .inr (PB1.nw x hx)))
            clear hK K
            try simp only [Act.put, List.getElem_toArray, List.getElem_cons_zero, List.getElem_cons_succ, List.setIfInBounds_toArray, List.set_cons_zero, List.set_cons_succ]
            clear b0 b1 b2 b3 b4 b5 aS
            have bq4 := BB1.keptS kk QB1
            obtain ⟨r0a, r1a, r2a, r3a, r4a, r5a, rfa⟩ := bq4
            have bq4 := BB1.keptS kk QB1
            have g0 := rfa 0; have g1_ := rfa 1; have g2_ := rfa 2; have g3 := rfa 3; have g4 := rfa 4; have g5 := rfa 5
            obtain ⟨roomB1, stepsB1, faB1, fcB1, lB1, armedB1, deadB1, leftB1⟩ := r'
            simp only [RD.v] at *
            refine wpAnyH_take (i := 8) (v := ?_) rfl (by kernel_rfl) (by kernel_rfl) (by kernel_rfl) (fun _ _ _ h => h) (Or.inl ⟨by rfl, ?_⟩) (by assumption) ?_
            rotate_left
            · intro w hSw; (try dsimp only at hSw); go_simp <;> with_reducible rfl
            try simp only [Act.put, List.getElem_toArray, List.getElem_cons_zero, List.getElem_cons_succ, List.setIfInBounds_toArray, List.set_cons_zero, List.set_cons_succ]
            refine wpAnyH_take (i := 9) (v := ?_) rfl (by kernel_rfl) (by kernel_rfl) (by kernel_rfl) (fun _ _ _ h => h) (Or.inl ⟨by rfl, ?_⟩) (by assumption) ?_
            rotate_left
            · intro w hSw; (try dsimp only at hSw); go_simp <;> with_reducible rfl
            try simp only [Act.put, List.getElem_toArray, List.getElem_cons_zero, List.getElem_cons_succ, List.setIfInBounds_toArray, List.set_cons_zero, List.set_cons_succ]
            refine wpAnyH_take (i := 10) (v := ?_) rfl (by kernel_rfl) (by kernel_rfl) (by kernel_rfl) (fun _ _ _ h => h) (Or.inl ⟨by rfl, ?_⟩) (by assumption) ?_
            rotate_left
            · intro w hSw; (try dsimp only at hSw); go_simp <;> with_reducible rfl
            try simp only [Act.put, List.getElem_toArray, List.getElem_cons_zero, List.getElem_cons_succ, List.setIfInBounds_toArray, List.set_cons_zero, List.set_cons_succ]
            refine wpAnyH_take (i := 11) (v := ?_) rfl (by kernel_rfl) (by kernel_rfl) (by kernel_rfl) (fun _ _ _ h => h) (Or.inl ⟨by rfl, ?_⟩) (by assumption) ?_
            rotate_left
            · intro w hSw; (try dsimp only at hSw); go_simp <;> with_reducible rfl
            try simp only [Act.put, List.getElem_toArray, List.getElem_cons_zero, List.getElem_cons_succ, List.setIfInBounds_toArray, List.set_cons_zero, List.set_cons_succ]
            refine wpAnyH_take (i := 12) (v := ?_) rfl (by kernel_rfl) (by kernel_rfl) (by kernel_rfl) (fun _ _ _ h => h) (Or.inl ⟨by rfl, ?_⟩) (by assumption) ?_
            rotate_left
            · intro w hSw; (try dsimp only at hSw); go_simp <;> with_reducible rfl
            try simp only [Act.put, List.getElem_toArray, List.getElem_cons_zero, List.getElem_cons_succ, List.setIfInBounds_toArray, List.set_cons_zero, List.set_cons_succ]
            refine wpAnyH_ready (rs := [13]) (by kernel_rfl) (by simp) ?_
            refine AllReadyH.cons rfl (fun K hK => ?_) AllReadyH.nil
            go_simp
            (try go_wp2_with fail)
            refine hK.out _ _ ?_ (fun hHeld => ?_)
            · exact hS2.out _ ((PB1.kp.trans kk (fun x hx => .inr (PB1.nw x hx))).trans (kpSet6 _ _ _ _ _ _ _ _) (fun x hx => .inr (by simp at hx; omega)))
            clear hK K
            try simp only [Act.put, List.getElem_toArray, List.getElem_cons_zero, List.getElem_cons_succ, List.setIfInBounds_toArray, List.set_cons_zero, List.set_cons_succ]
            refine wpAnyH_take (i := 14) (v := ?_) rfl (by kernel_rfl) (by kernel_rfl) (by kernel_rfl) (fun _ _ _ h => h) (Or.inl ⟨by rfl, ?_⟩) (by assumption) ?_
            rotate_left
            · intro w hSw; (try dsimp only at hSw); go_simp <;> with_reducible rfl
            try simp only [Act.put, List.getElem_toArray, List.getElem_cons_zero, List.getElem_cons_succ, List.setIfInBounds_toArray, List.set_cons_zero, List.set_cons_succ]
            refine wpAnyH_done (by kernel_rfl) ?_ _
            obtain ⟨Y2, hY, rbY, kY⟩ := set6_ex bq4 (.int .i64 roomB1) (.int .i64 stepsB1) (.slice faB1 lB1.length fcB1) (.bool armedB1) (.bool deadB1) (.int .i64 leftB1)
            rw [hY]
            have GB1 := GB10.step hD4 hR4 hL4 kk n1 n2 n3 kY rbY
            clear hY rbY kY hD4 hR4 hL4 kk n1 n2 n3 bq4 r0a r1a r2a r3a r4a r5a rfa g0 g1_ g2_ g3 g4 g5 GB10 PB1 BB1 hHeld
            have Gc := GB1.perm (List.perm_append_comm (l₁ := [(⟨pB1, mbB1, xsB1, ⟨roomB1, stepsB1, faB1, fcB1, lB1, armedB1, deadB1, leftB1⟩, dB1, qB⟩ : Sl), (⟨pA, mbA, xsA, ⟨roomA, stepsA, faA, fcA, lA, armedA, deadA, leftA⟩, dA, qA⟩ : Sl)]) (l₂ := [(⟨pC, mbC, xsC, ⟨roomC, stepsC, faC, fcC, lC, armedC, deadC, leftC⟩, dC, qC⟩ : Sl)]))
            have c2w := hbw2.out Y2 (Gc.pr _ (by simp : (⟨pC, mbC, xsC, ⟨roomC, stepsC, faC, fcC, lC, armedC, deadC, leftC⟩, dC, qC⟩ : Sl) ∈ _)).kp
            have PC1 := (Gc.keep (w' := Y2.drew) (Kp.refl _ _).drew).pr _ (by simp : (⟨pC, mbC, xsC, ⟨roomC, stepsC, faC, fcC, lC, armedC, deadC, leftC⟩, dC, qC⟩ : Sl) ∈ _)
            have BC1 := (Gc.keep (w' := Y2.drew) (Kp.refl _ _).drew).rb _ (by simp : (⟨pC, mbC, xsC, ⟨roomC, stepsC, faC, fcC, lC, armedC, deadC, leftC⟩, dC, qC⟩ : Sl) ∈ _)
            have QC1 := (Gc.qf _ (by simp : (⟨pC, mbC, xsC, ⟨roomC, stepsC, faC, fcC, lC, armedC, deadC, leftC⟩, dC, qC⟩ : Sl) ∈ _) _ (by simp : (⟨pC, mbC, xsC, ⟨roomC, stepsC, faC, fcC, lC, armedC, deadC, leftC⟩, dC, qC⟩ : Sl) ∈ _)).1
            have GC10 := Gc.keep (w' := Y2.drew) (Kp.refl _ _).drew
            have qWC1 := Gc.qW _ (by simp : (⟨pC, mbC, xsC, ⟨roomC, stepsC, faC, fcC, lC, armedC, deadC, leftC⟩, dC, qC⟩ : Sl) ∈ _)
            simp only [Sl.ft] at QC1
            simp only at PC1 BC1 qWC1
            have aS := cStepW PC1.D lowC (by omega) ⟨roomC, stepsC, faC, fcC, lC, armedC, deadC, leftC⟩ PC1.R PC1.L PC1.ap o2 (hoW2.kept PC1.kp) (by have := hso2.out; omega) (by omega) (offPr PC1 hoW2)
            have hlowC1 := hid (lw_stp o2 lowC PC1.D.ok (by have := hso2.out; omega))
            have hstpC1 := stp_steps dC o2
            obtain ⟨dC1, hdC1⟩ : ∃ d', Hid (d' = stpD dC o2) := ⟨_, rfl⟩
            rw [← hdC1.out] at aS hlowC1 hstpC1
            simp only [RD.v, DOp.v] at aS
            unfold RB at BC1
            simp only at BC1
            go_wp2_with fail
            refine wp_region_held_drew (S := (fun A => A.cell? ⟨W.heap.size, 2, none⟩ = some (.slice (some ⟨g2, f2, none⟩) l2.length c2) ∧ A.cell? ⟨g2, f2 + j * 7, none⟩ = some (.int .i64 o2.kind) ∧ A.cell? ⟨g2, f2 + j * 7 + 1, none⟩ = some (.string ⟨o2.name.toArray⟩) ∧ A.cell? ⟨g2, f2 + j * 7 + 2, none⟩ = some (.string ⟨o2.to.toArray⟩) ∧ A.cell? ⟨g2, f2 + j * 7 + 3, none⟩ = some (.slice o2.b.a o2.b.bs.length o2.b.c) ∧ A.cell? ⟨g2, f2 + j * 7 + 4, none⟩ = some (.int .i64 o2.n) ∧ A.cell? ⟨g2, f2 + j * 7 + 5, none⟩ = some (.int .i64 o2.bit) ∧ A.cell? ⟨g2, f2 + j * 7 + 6, none⟩ = some (.slice o2.ka o2.ks.length o2.kc))) (by kernel_rfl) ?_ (fun hHeld => ?_)
            · exact hS2.out _ PC1.kp
            generalize Y2.drew = wdC1 at *
            have b0 := BC1.c0; have b1 := BC1.c1; have b2 := BC1.c2; have b3 := BC1.c3; have b4 := BC1.c4; have b5 := BC1.c5
            refine wpAnyH_take (i := 0) (v := ?_) rfl (by kernel_rfl) (by kernel_rfl) (by kernel_rfl) (fun _ _ _ h => h) (Or.inl ⟨by rfl, ?_⟩) (by assumption) ?_
            rotate_left
            · intro w hSw; (try dsimp only at hSw); go_simp <;> with_reducible rfl
            try simp only [Act.put, List.getElem_toArray, List.getElem_cons_zero, List.getElem_cons_succ, List.setIfInBounds_toArray, List.set_cons_zero, List.set_cons_succ]
            refine wpAnyH_take (i := 2) (v := ?_) rfl (by kernel_rfl) (by kernel_rfl) (by kernel_rfl) (fun _ _ _ h => h) (Or.inl ⟨by rfl, ?_⟩) (by assumption) ?_
            rotate_left
            · intro w hSw; (try dsimp only at hSw); go_simp <;> with_reducible rfl
            try simp only [Act.put, List.getElem_toArray, List.getElem_cons_zero, List.getElem_cons_succ, List.setIfInBounds_toArray, List.set_cons_zero, List.set_cons_succ]
            refine wpAnyH_take (i := 3) (v := ?_) rfl (by kernel_rfl) (by kernel_rfl) (by kernel_rfl) (fun _ _ _ h => h) (Or.inl ⟨by rfl, ?_⟩) (by assumption) ?_
            rotate_left
            · intro w hSw; (try dsimp only at hSw); go_simp <;> with_reducible rfl
            try simp only [Act.put, List.getElem_toArray, List.getElem_cons_zero, List.getElem_cons_succ, List.setIfInBounds_toArray, List.set_cons_zero, List.set_cons_succ]
            refine wpAnyH_take (i := 4) (v := ?_) rfl (by kernel_rfl) (by kernel_rfl) (by kernel_rfl) (fun _ _ _ h => h) (Or.inl ⟨by rfl, ?_⟩) (by assumption) ?_
            rotate_left
            · intro w hSw; (try dsimp only at hSw); go_simp <;> with_reducible rfl
            try simp only [Act.put, List.getElem_toArray, List.getElem_cons_zero, List.getElem_cons_succ, List.setIfInBounds_toArray, List.set_cons_zero, List.set_cons_succ]
            refine wpAnyH_take (i := 5) (v := ?_) rfl (by kernel_rfl) (by kernel_rfl) (by kernel_rfl) (fun _ _ _ h => h) (Or.inl ⟨by rfl, ?_⟩) (by assumption) ?_
            rotate_left
            · intro w hSw; (try dsimp only at hSw); go_simp <;> with_reducible rfl
            try simp only [Act.put, List.getElem_toArray, List.getElem_cons_zero, List.getElem_cons_succ, List.setIfInBounds_toArray, List.set_cons_zero, List.set_cons_succ]
            refine wpAnyH_take (i := 6) (v := ?_) rfl (by kernel_rfl) (by kernel_rfl) (by kernel_rfl) (fun _ _ _ h => h) (Or.inl ⟨by rfl, ?_⟩) (by assumption) ?_
            rotate_left
            · intro w hSw; (try dsimp only at hSw); go_simp <;> with_reducible rfl
            try simp only [Act.put, List.getElem_toArray, List.getElem_cons_zero, List.getElem_cons_succ, List.setIfInBounds_toArray, List.set_cons_zero, List.set_cons_succ]
            refine wpAnyH_ready (rs := [1]) (by kernel_rfl) (by simp) ?_
            refine AllReadyH.cons rfl (fun K hK => ?_) AllReadyH.nil
            go_simp
            (try go_wp2_with fail)
            refine hK.out _ _ ?_ (fun hHeld => ?_)
            · exact hHeld
            clear hK K
            try simp only [Act.put, List.getElem_toArray, List.getElem_cons_zero, List.getElem_cons_succ, List.setIfInBounds_toArray, List.set_cons_zero, List.set_cons_succ]
            refine wpAnyH_ready (rs := [7]) (by kernel_rfl) (by simp) ?_
            refine AllReadyH.cons rfl (fun K hK => ?_) AllReadyH.nil
            go_simp
            refine aS.mono ?_
            rintro e xC1 ⟨pC1, mbC1, xsC1, r', rfl, hD4, hR4, hL4, kk, n1, n2, n3, _⟩
            (try go_wp2_with fail)
            refine hK.out _ _ ?_ (fun hHeld => ?_)
            · exact hS2.out _ (PC1.kp.trans kk (fun x hx => .inr (PC1.nw x hx)))
            clear hK K
            try simp only [Act.put, List.getElem_toArray, List.getElem_cons_zero, List.getElem_cons_succ, List.setIfInBounds_toArray, List.set_cons_zero, List.set_cons_succ]
            clear b0 b1 b2 b3 b4 b5 aS
            have bq4 := BC1.keptS kk QC1
            obtain ⟨r0a, r1a, r2a, r3a, r4a, r5a, rfa⟩ := bq4
            have bq4 := BC1.keptS kk QC1
            have g0 := rfa 0; have g1_ := rfa 1; have g2_ := rfa 2; have g3 := rfa 3; have g4 := rfa 4; have g5 := rfa 5
            obtain ⟨roomC1, stepsC1, faC1, fcC1, lC1, armedC1, deadC1, leftC1⟩ := r'
            simp only [RD.v] at *
            refine wpAnyH_take (i := 8) (v := ?_) rfl (by kernel_rfl) (by kernel_rfl) (by kernel_rfl) (fun _ _ _ h => h) (Or.inl ⟨by rfl, ?_⟩) (by assumption) ?_
            rotate_left
            · intro w hSw; (try dsimp only at hSw); go_simp <;> with_reducible rfl
            try simp only [Act.put, List.getElem_toArray, List.getElem_cons_zero, List.getElem_cons_succ, List.setIfInBounds_toArray, List.set_cons_zero, List.set_cons_succ]
            refine wpAnyH_take (i := 9) (v := ?_) rfl (by kernel_rfl) (by kernel_rfl) (by kernel_rfl) (fun _ _ _ h => h) (Or.inl ⟨by rfl, ?_⟩) (by assumption) ?_
            rotate_left
            · intro w hSw; (try dsimp only at hSw); go_simp <;> with_reducible rfl
            try simp only [Act.put, List.getElem_toArray, List.getElem_cons_zero, List.getElem_cons_succ, List.setIfInBounds_toArray, List.set_cons_zero, List.set_cons_succ]
            refine wpAnyH_take (i := 10) (v := ?_) rfl (by kernel_rfl) (by kernel_rfl) (by kernel_rfl) (fun _ _ _ h => h) (Or.inl ⟨by rfl, ?_⟩) (by assumption) ?_
            rotate_left
            · intro w hSw; (try dsimp only at hSw); go_simp <;> with_reducible rfl
            try simp only [Act.put, List.getElem_toArray, List.getElem_cons_zero, List.getElem_cons_succ, List.setIfInBounds_toArray, List.set_cons_zero, List.set_cons_succ]
            refine wpAnyH_take (i := 11) (v := ?_) rfl (by kernel_rfl) (by kernel_rfl) (by kernel_rfl) (fun _ _ _ h => h) (Or.inl ⟨by rfl, ?_⟩) (by assumption) ?_
            rotate_left
            · intro w hSw; (try dsimp only at hSw); go_simp <;> with_reducible rfl
            try simp only [Act.put, List.getElem_toArray, List.getElem_cons_zero, List.getElem_cons_succ, List.setIfInBounds_toArray, List.set_cons_zero, List.set_cons_succ]
            refine wpAnyH_take (i := 12) (v := ?_) rfl (by kernel_rfl) (by kernel_rfl) (by kernel_rfl) (fun _ _ _ h => h) (Or.inl ⟨by rfl, ?_⟩) (by assumption) ?_
            rotate_left
            · intro w hSw; (try dsimp only at hSw); go_simp <;> with_reducible rfl
            try simp only [Act.put, List.getElem_toArray, List.getElem_cons_zero, List.getElem_cons_succ, List.setIfInBounds_toArray, List.set_cons_zero, List.set_cons_succ]
            refine wpAnyH_ready (rs := [13]) (by kernel_rfl) (by simp) ?_
            refine AllReadyH.cons rfl (fun K hK => ?_) AllReadyH.nil
            go_simp
            (try go_wp2_with fail)
            refine hK.out _ _ ?_ (fun hHeld => ?_)
            · exact hS2.out _ ((PC1.kp.trans kk (fun x hx => .inr (PC1.nw x hx))).trans (kpSet6 _ _ _ _ _ _ _ _) (fun x hx => .inr (by simp at hx; omega)))
            clear hK K
            try simp only [Act.put, List.getElem_toArray, List.getElem_cons_zero, List.getElem_cons_succ, List.setIfInBounds_toArray, List.set_cons_zero, List.set_cons_succ]
            refine wpAnyH_take (i := 14) (v := ?_) rfl (by kernel_rfl) (by kernel_rfl) (by kernel_rfl) (fun _ _ _ h => h) (Or.inl ⟨by rfl, ?_⟩) (by assumption) ?_
            rotate_left
            · intro w hSw; (try dsimp only at hSw); go_simp <;> with_reducible rfl
            try simp only [Act.put, List.getElem_toArray, List.getElem_cons_zero, List.getElem_cons_succ, List.setIfInBounds_toArray, List.set_cons_zero, List.set_cons_succ]
            refine wpAnyH_done (by kernel_rfl) ?_ _
            obtain ⟨Y3, hY, rbY, kY⟩ := set6_ex bq4 (.int .i64 roomC1) (.int .i64 stepsC1) (.slice faC1 lC1.length fcC1) (.bool armedC1) (.bool deadC1) (.int .i64 leftC1)
            rw [hY]
            have GC1 := GC10.step hD4 hR4 hL4 kk n1 n2 n3 kY rbY
            clear hY rbY kY hD4 hR4 hL4 kk n1 n2 n3 bq4 r0a r1a r2a r3a r4a r5a rfa g0 g1_ g2_ g3 g4 g5 GC10 PC1 BC1 hHeld
            have Gd := GC1.perm ((List.Perm.swap (⟨pB1, mbB1, xsB1, ⟨roomB1, stepsB1, faB1, fcB1, lB1, armedB1, deadB1, leftB1⟩, dB1, qB⟩ : Sl) (⟨pC1, mbC1, xsC1, ⟨roomC1, stepsC1, faC1, fcC1, lC1, armedC1, deadC1, leftC1⟩, dC1, qC⟩ : Sl) [(⟨pA, mbA, xsA, ⟨roomA, stepsA, faA, fcA, lA, armedA, deadA, leftA⟩, dA, qA⟩ : Sl)]).trans ((List.perm_append_comm (l₁ := [(⟨pB1, mbB1, xsB1, ⟨roomB1, stepsB1, faB1, fcB1, lB1, armedB1, deadB1, leftB1⟩, dB1, qB⟩ : Sl), (⟨pC1, mbC1, xsC1, ⟨roomC1, stepsC1, faC1, fcC1, lC1, armedC1, deadC1, leftC1⟩, dC1, qC⟩ : Sl)]) (l₂ := [(⟨pA, mbA, xsA, ⟨roomA, stepsA, faA, fcA, lA, armedA, deadA, leftA⟩, dA, qA⟩ : Sl)]))))
            have hfin : ClI W1 qA qB qC (sumB l0) l0.length l1 l2 (.pointer (some ⟨(⟨pA, mbA, xsA, ⟨roomA, stepsA, faA, fcA, lA, armedA, deadA, leftA⟩, dA, qA⟩ : Sl).p, 0, none⟩)) (.pointer (some ⟨(⟨pB1, mbB1, xsB1, ⟨roomB1, stepsB1, faB1, fcB1, lB1, armedB1, deadB1, leftB1⟩, dB1, qB⟩ : Sl).p, 0, none⟩)) (.pointer (some ⟨(⟨pC1, mbC1, xsC1, ⟨roomC1, stepsC1, faC1, fcC1, lC1, armedC1, deadC1, leftC1⟩, dC1, qC⟩ : Sl).p, 0, none⟩)) (j + 1) Y3 := ⟨_, _, _, rfl, rfl, rfl, Gd, rfl, rfl, rfl, lowA.mono (by omega) (by omega), by simp only; omega, by rw [hso2.out]; exact hlowB1.out.mono (by omega) (by omega), by simp only; omega, by rw [hso2.out]; exact hlowC1.out.mono (by omega) (by omega), by simp only; omega⟩
            go_wp2_with fail
            exact ⟨⟨j + 1, by omega, by go_num, hfin⟩, by simp [intOf]; omega⟩
          · have PA := G.pr _ (by simp : (⟨pA, mbA, xsA, ⟨roomA, stepsA, faA, fcA, lA, armedA, deadA, leftA⟩, dA, qA⟩ : Sl) ∈ _)
            have PB := G.pr _ (by simp : (⟨pB, mbB, xsB, ⟨roomB, stepsB, faB, fcB, lB, armedB, deadB, leftB⟩, dB, qB⟩ : Sl) ∈ _)
            have PC := G.pr _ (by simp : (⟨pC, mbC, xsC, ⟨roomC, stepsC, faC, fcC, lC, armedC, deadC, leftC⟩, dC, qC⟩ : Sl) ∈ _)
            have RA := G.rb _ (by simp : (⟨pA, mbA, xsA, ⟨roomA, stepsA, faA, fcA, lA, armedA, deadA, leftA⟩, dA, qA⟩ : Sl) ∈ _)
            have RB_ := G.rb _ (by simp : (⟨pB, mbB, xsB, ⟨roomB, stepsB, faB, fcB, lB, armedB, deadB, leftB⟩, dB, qB⟩ : Sl) ∈ _)
            have RC := G.rb _ (by simp : (⟨pC, mbC, xsC, ⟨roomC, stepsC, faC, fcC, lC, armedC, deadC, leftC⟩, dC, qC⟩ : Sl) ∈ _)
            simp only at PA PB PC RA RB_ RC
            have s1 := cStands PA.D (lowA.small (by omega)) (by have := len_of PA.D; have := lowA.len; omega) ⟨roomA, stepsA, faA, fcA, lA, armedA, deadA, leftA⟩ PA.R PA.L.room PA.L.steps PA.L.files PA.L.dead
            simp only [RD.v] at s1
            have a0_ := B6.c0 RA; have a1_ := B6.c1 RA; have a2_ := B6.c2 RA; have a3_ := B6.c3 RA; have a4_ := B6.c4 RA; have a5_ := B6.c5 RA
            simp only at a0_ a1_ a2_ a3_ a4_ a5_
            clear G
            go_wp2_with fail
            refine s1.mono ?_
            rintro e y1 ⟨rfl, ky1⟩
            clear a0_ a1_ a2_ a3_ a4_ a5_ s1
            have PB1 := PB.keep ky1
            have s2 := cStands PB1.D (lowB.small (by omega)) (by have := len_of PB1.D; have := lowB.len; omega) ⟨roomB, stepsB, faB, fcB, lB, armedB, deadB, leftB⟩ PB1.R PB1.L.room PB1.L.steps PB1.L.files PB1.L.dead
            simp only [RD.v] at s2
            have RB1 := B6.kept RB_ ky1
            have a0_ := B6.c0 RB1; have a1_ := B6.c1 RB1; have a2_ := B6.c2 RB1; have a3_ := B6.c3 RB1; have a4_ := B6.c4 RB1; have a5_ := B6.c5 RB1
            simp only at a0_ a1_ a2_ a3_ a4_ a5_
            go_wp2_with fail
            refine s2.mono ?_
            rintro e y2 ⟨rfl, ky2⟩
            clear a0_ a1_ a2_ a3_ a4_ a5_ s2
            have ky12 : Kp [] wr y2 := ky1.trans ky2 (by simp)
            have PC1 := PC.keep ky12
            have s3 := cStands PC1.D (lowC.small (by omega)) (by have := len_of PC1.D; have := lowC.len; omega) ⟨roomC, stepsC, faC, fcC, lC, armedC, deadC, leftC⟩ PC1.R PC1.L.room PC1.L.steps PC1.L.files PC1.L.dead
            simp only [RD.v] at s3
            have RC1 := B6.kept RC ky12
            have a0_ := B6.c0 RC1; have a1_ := B6.c1 RC1; have a2_ := B6.c2 RC1; have a3_ := B6.c3 RC1; have a4_ := B6.c4 RC1; have a5_ := B6.c5 RC1
            simp only at a0_ a1_ a2_ a3_ a4_ a5_
            go_wp2_with fail
            refine s3.mono ?_
            rintro e y3 ⟨rfl, ky3⟩
            have kf : Kp [] W y3 := ((kW1.trans PA.kp (by simp)).trans ky12 (by simp)).trans ky3 (by simp)
            go_wp2_with fail
            go_ret
            exact ⟨rfl, kf⟩
end Go.Proofs.Ytgllkonbgigcbaa
end

section
namespace Go.Proofs.Ytgllkonbgigcbaa
open Go.ChangeShapes Go.WideShapes Go.ChangeAt Go.RowKit Go.Hay
set_option linter.unusedVariables false
set_option linter.unusedSimpArgs false

theorem cellsWays : Try.prog.cellsOf 54 = 3 := by kernel_rfl
theorem cellsOps : Try.prog.cellsOf 22 = 1 := by kernel_rfl
theorem openSl {H : Type} {enc : TypeId × Value → H} {W : World} {fuel : Nat} {c : Value} {x : DataW H × List MemPlace} (h : DataW.trod enc Try.prog W 0 (fun _ => true) true fuel 22 [c] = some x) :
    ∃ (a : Option Addr) (cap : Nat) (l : List DOp), c = .slice a l.length cap ∧ DOpE.See W a l ∧ (∀ y ∈ l, y.ok W) ∧ (l.map fun y => y.b.bs.length + 1).sum ≤ Rows.uptoBulk x.1 ∧ l.length ≤ Rows.uptoBulk x.1 := by
  have hv : ∃ a len cap, c = .slice a len cap := by
    rcases Go.Deep.open_slice Try.underlying22 h with ⟨hcs, _⟩ | ⟨a, len, cap, _, _, _, _, hcs, _⟩
    · exact ⟨none, 0, 0, by simpa using hcs⟩
    · exact ⟨_, _, _, by simpa using hcs⟩
  obtain ⟨a, len, cap, rfl⟩ := hv
  obtain ⟨l, rfl, hs, hok, hl, _, _, _, hb, hc⟩ := openDops (d := x.1) (ps := x.2) ⟨_, h⟩
  exact ⟨a, cap, l, rfl, hs, hok, hb, by omega⟩
set_option maxRecDepth 100000 in
theorem openWays {H : Type} {enc : TypeId × Value → H} {W : World} {base : Nat} {v : Value} {d : DataW H} {ps : List MemPlace} (hv : Value.okWide Try.prog W .any base 54 v)
    (h : DataW.Trod enc Try.prog W 0 (fun _ => true) true 54 v d ps) : ∃ (a0 : Option Addr) (c0 : Nat) (l0 : List DOp) (a1 : Option Addr) (c1 : Nat) (l1 : List DOp) (a2 : Option Addr) (c2 : Nat) (l2 : List DOp), v = .agg #[.slice a0 l0.length c0, .slice a1 l1.length c1, .slice a2 l2.length c2] ∧
      (DOpE.See W a0 l0 ∧ (∀ y ∈ l0, y.ok W) ∧ (l0.map fun y => y.b.bs.length + 1).sum ≤ Rows.uptoBulk d ∧ l0.length ≤ Rows.uptoBulk d) ∧ (DOpE.See W a1 l1 ∧ (∀ y ∈ l1, y.ok W) ∧ (l1.map fun y => y.b.bs.length + 1).sum ≤ Rows.uptoBulk d ∧ l1.length ≤ Rows.uptoBulk d) ∧ (DOpE.See W a2 l2 ∧ (∀ y ∈ l2, y.ok W) ∧ (l2.map fun y => y.b.bs.length + 1).sum ≤ Rows.uptoBulk d ∧ l2.length ≤ Rows.uptoBulk d) := by
  obtain ⟨cs, rfl, hsz⟩ := okWide_struct Try.underlying54 hv
  rw [cellsWays] at hsz
  obtain ⟨fuel, hf⟩ := h
  obtain ⟨l⟩ := cs
  match l, hsz, hf with
  | [c0, c1, c2], _, hf =>
    have hf' : DataW.trod enc Try.prog W 0 (fun _ => true) true fuel 54 [c0, c1, c2] = some (d, ps) := hf
    obtain ⟨xs, n, _, he, _, hlen, hff⟩ := DataW.trod_struct Try.underlying54 hf'
    match xs, hlen with
    | [y0, y1, y2], _ =>
      have h0 := hff 0 _ rfl
      have h1 := hff 1 _ rfl
      have h2 := hff 2 _ rfl
      simp [cellsOps] at h0 h1 h2
      obtain ⟨a0, k0, l0, e0, s0, o0, b0, n0⟩ := openSl h0
      obtain ⟨a1, k1, l1, e1, s1, o1, b1, n1⟩ := openSl h1
      obtain ⟨a2, k2, l2, e2, s2, o2, b2, n2⟩ := openSl h2
      subst e0 e1 e2
      have hb : Rows.uptoBulk y0.1 ≤ Rows.uptoBulk d ∧ Rows.uptoBulk y1.1 ≤ Rows.uptoBulk d ∧ Rows.uptoBulk y2.1 ≤ Rows.uptoBulk d := by
        have hd : d = DataW.agg (List.map (fun x => x.fst) [y0, y1, y2]) := congrArg Prod.fst he
        rw [hd]
        simp only [List.map_cons, List.map_nil, Rows.uptoBulk, Rows.uptoBulkAll]
        omega
      exact ⟨a0, k0, l0, a1, k1, l1, a2, k2, l2, rfl, ⟨s0, o0, by omega, by omega⟩, ⟨s1, o1, by omega, by omega⟩, ⟨s2, o2, by omega, by omega⟩⟩
end Go.Proofs.Ytgllkonbgigcbaa
end

section
namespace Go.Proofs.Ytgllkonbgigcbaa
open Go.RowKit Go.Hay
set_option linter.unusedVariables false
theorem clonesWalk' (room : Int) (hroom : room < 9223372036854775808) (a0 : Option Addr) (c0 : Nat) (l0 : List DOp) (a1 : Option Addr) (c1 : Nat) (l1 : List DOp) (a2 : Option Addr) (c2 : Nat) (l2 : List DOp) (ka : Option Addr) (kc : Nat) (ks : List Int) (W : World)
    (hs0 : DOpE.See W a0 l0) (hok0 : ∀ o ∈ l0, o.ok W) (hb0 : (l0.map fun y => y.b.bs.length + 1).sum ≤ 1048576) (hn0 : l0.length ≤ 1048576) (hs1 : DOpE.See W a1 l1) (hok1 : ∀ o ∈ l1, o.ok W) (hb1 : (l1.map fun y => y.b.bs.length + 1).sum ≤ 1048576) (hn1 : l1.length ≤ 1048576) (hs2 : DOpE.See W a2 l2) (hok2 : ∀ o ∈ l2, o.ok W) (hb2 : (l2.map fun y => y.b.bs.length + 1).sum ≤ 1048576) (hn2 : l2.length ≤ 1048576)
    (hks : IntE.See W ka ks) (hkl : ks.length ≤ kc) (hkc : kc ≤ maxLen) (hk64 : ∀ k ∈ ks, -9223372036854775808 ≤ k ∧ k < 9223372036854775808) :
    Calls Try.prog 7 #[.int .i64 room, .agg #[.slice a0 l0.length c0, .slice a1 l1.length c1, .slice a2 l2.length c2], .slice ka ks.length kc] W (fun e W' => e = .returned (.bool true) ∧ Below W.heap.size W W') :=
  (clonesWalk room hroom a0 c0 l0 a1 c1 l1 a2 c2 l2 ka kc ks W hs0 hok0 (Nat.le_trans (sumB_blk l0) hb0) hn0 hs1 hok1 (Nat.le_trans (sumB_blk l1) hb1) hn1 hs2 hok2 (Nat.le_trans (sumB_blk l2) hb2) hn2 (intsSee hks) hkl hkc hk64).mono fun e W' h => ⟨h.1, h.2.below⟩
end Go.Proofs.Ytgllkonbgigcbaa
end

section
namespace Go.Proofs.Ytgllkonbgigcbaa
open Go.ChangeShapes Go.WideShapes Go.ChangeAt Go.RowKit Go.Hay
set_option linter.unusedVariables false

set_option maxRecDepth 100000 in
theorem diskClonesContract (H : Type) (enc : TypeId × Value → H) (W : World) (base : Nat) (args : Array Value) (ds gs : List (DataW H)) (before : List MemPlace)
    (hval : ∀ (j : Nat) t v, Try.f7.params[j]? = some t → args[j]? = some v → Value.okWide Try.prog W .any base t v)
    (hW : DataW.Whole enc Try.prog Try.f7.params.toList Rows.diskClonesSpec.vars false W args.toList ds gs before)
    (hsz : (DataW.weightsEach Try.prog (Try.f7.params.toList ++ (Rows.OpenSpec.upto Rows.diskClonesSpec).bare.plain.varTypes Try.prog) (ds ++ gs)).all (· ≤ reachBytes) = true)
    (hk : Rows.uptoSmall H (ds ++ gs) = true) :
    Calls Try.prog 7 args W fun e W' => ∃ v, e = .returned v ∧ Rows.diskClonesSpec.post enc Try.prog Try.f7 false true false false W args v W' := by
  have hW' := hW
  obtain ⟨p, q, hA0, hV, rfl, hfz, hnd⟩ := hW
  have hA : DataW.TrodAll enc Try.prog W 0 (fun _ => true) true Try.f7.params.toList args.toList ds p := hA0
  rw [Try.params7] at hA hval hsz
  obtain ⟨v0, vs0, d0, ds0, p0, q0, hargs, rfl, rfl, h0, r0⟩ := trodAll_cons hA
  obtain ⟨v1, vs1, d1, ds1, p1, q1, rfl, rfl, rfl, h1, r1⟩ := trodAll_cons r0
  obtain ⟨v2, vs2, d2, ds2, p2, q2, rfl, rfl, rfl, h2, r2⟩ := trodAll_cons r1
  obtain ⟨rfl, rfl, rfl⟩ := trodAll_nil r2
  obtain rfl : args = #[v0, v1, v2] := by cases args; simp_all
  obtain ⟨rfl, rfl⟩ := trodVars_none hV
  obtain ⟨a0, rfl, rfl, rfl, w0⟩ := open_int Try.underlying3 (hval 0 3 v0 rfl rfl) h0
  have hb0 := bounds_i64 w0
  have k1 := h1
  have lt1 : ∀ x ∈ p1, x.block < W.heap.size := by obtain ⟨m, hm⟩ := k1; exact DataW.trod_lt m _ _ _ hm
  obtain ⟨aa1, ca1, la1, ab1, cb1, lb1, ac1, cc1, lc1, rfl, ⟨sa1, oa1, ba1, na1⟩, ⟨sb1, ob1, bb1, nb1⟩, ⟨sc1, oc1, bc1, nc1⟩⟩ := openWays (hval 1 54 v1 rfl rfl) h1
  obtain ⟨a2, len2, cap2, rfl⟩ := okWide_slice Try.underlying33 (hval 2 33 v2 rfl rfl)
  have k2 := h2
  have lt2 : ∀ x ∈ p2, x.block < W.heap.size := by obtain ⟨m, hm⟩ := k2; exact DataW.trod_lt m _ _ _ hm
  obtain ⟨l2, rfl, hs2, hok2, hl2, hm2, hn2, hfit2, hbk2, hcp2⟩ := openInts h2
  obtain ⟨hc2, hq2⟩ := hfit2 (List.all_eq_true.2 fun x hx => List.all_eq_true.1 hsz x (by simp [DataW.weightsEach]; first | exact .inl hx | exact .inr hx | exact .inr (.inl hx) | exact .inr (.inr hx) | exact hx))
  have hbk := of_decide_eq_true hk
  simp only [List.append_nil, Rows.uptoBulkAll] at hbk
  clear hA0
  refine (clonesWalk' a0 (by omega) aa1 ca1 la1 ab1 cb1 lb1 ac1 cc1 lc1 a2 cap2 l2 W sa1 oa1 (by omega) (by omega) sb1 ob1 (by omega) (by omega) sc1 oc1 (by omega) (by omega) hs2 hl2 hm2 hok2).mono fun e W' ⟨he, bel⟩ => ?_
  subst he
  exact ⟨_, rfl, _, _, _, [], _, [], hW', trodAll_mk1 (shut_bool Try.underlying4 _), (trodAll_cons_mk (shut_int Try.underlying3 w0) (trodAll_cons_mk (Below.trod Try.laidOut (by kernel_rfl) (of_decide_eq_true (by kernel_rfl)) k1 bel lt1) (trodAll_cons_mk (Below.trod Try.laidOut (by kernel_rfl) (of_decide_eq_true (by kernel_rfl)) k2 bel lt2) trodAll_mk0))), rfl, bel.frame _, fun h => by cases h⟩

set_option maxRecDepth 100000 in
theorem diskClonesLifted (os : Os) (started : os.Started) (H : Type) (enc : TypeId × Value → H) (F : Stop.Interp) :
    ReturnsInHanded {} Try.checked os 7 .any ((Rows.OpenSpec.upto Rows.diskClonesSpec).pre6 enc Try.prog Try.f7 Rows.diskClonesUptoRow.domain false) (((Rows.OpenSpec.upto Rows.diskClonesSpec).at F).post enc Try.prog Try.f7 false true false false) := by
  refine returnsInHanded_of_cond_sized (C := Try.checked) (s := Rows.OpenSpec.upto Rows.diskClonesSpec) (k := Rows.uptoSmall) rfl Try.own started (by kernel_rfl) Try.func7
    (OpenSpec.witness (enc := enc) (C := Try.checked) (s := Rows.OpenSpec.upto Rows.diskClonesSpec) (k := Rows.uptoSmall) rfl false ⟨#[], #[.int .i64 0, .agg #[.slice none 0 0, .slice none 0 0, .slice none 0 0], .slice none 0 0], []⟩ 8 (by kernel_rfl) (by kernel_rfl) (by kernel_rfl)
      (x := ([.lit (.int .i64 0), .agg [.nil, .nil, .nil], .nil], [], [])) (by kernel_rfl) rfl (by kernel_rfl)) ?_
  intro W base args ds gs before hval hW _ hk hsz _
  exact diskClonesContract H enc W base args ds gs before hval hW hsz hk

theorem DiskClones_holds : Rows.DiskClonesUptoSaid :=
  OpenClaim.holds_of_cond 7 Try.f7 rfl rfl rfl rfl rfl rfl rfl ⟨rfl, rfl, rfl, rfl, rfl⟩ rfl rfl rfl rfl rfl (by kernel_rfl) Try.func7 (by kernel_rfl)
    (of_decide_eq_true (by kernel_rfl)) (by unfold Func.isWrapper; first | (rw [if_pos (by decide +kernel)]; kernel_rfl) | (rw [if_neg (by decide +kernel)]; exact ⟨rfl, rfl⟩))
    (fun os started H enc _ F => diskClonesLifted os started H enc F)

#print axioms DiskClones_holds
end Go.Proofs.Ytgllkonbgigcbaa
end

/- The law's world: Arm, Crash, Append at both. The law's step: Open and Create. The law's step: Arm; where there is no log. The law's step: Append. -/
import Derived.Test.YtpkoikennimonaaGreatDoorB19
section
namespace Go.Proofs.YtpkoikennimonaaGreatDoor
open Go.RowKit Go.Hay
set_option linter.unusedVariables false
set_option linter.unusedSimpArgs false
variable {Q : Prop}

theorem UpZ.turn {w W W1 : World} {dp mb : Nat} {xs xs' : List Ent} {r : RD} {g : RL} {lp : Option Addr} {K : Nat} {X : List Nat} (h : UpZ w W dp mb xs r g lp K X) {S : List Nat} (k : Kp S W W1) (hS : ∀ j ∈ S, j ∈ foot dp mb xs) (hn : ∀ j ∈ foot dp mb xs', j ∈ foot dp mb xs ∨ W.heap.size ≤ j) : UpZ w W1 dp mb xs' r g lp K X := by
  obtain ⟨p, B, v, M, sz, h1, h2, h3, h4, h5, h6, h7, h8, h9, h10, h11⟩ := h
  have hz := k.size
  have hp := h2.box.lt
  have hg := h6.lt
  refine ⟨p, B, v, M, sz, h1, h2.kept k (fun hm => (h3 p (hS p hm)).2 rfl) (fun j hj => (h3 j (hS j hj)).1), fun j hj => ?_, fun j hj => ⟨(h4 j hj).1, by have := (h4 j hj).2; omega⟩, h5, h6.kept k (fun j hj hm => (h8 j hj).1 (hS j hm)), h7, fun j hj => ⟨fun hm => ?_, (h8 j hj).2⟩, h9, h10, h11⟩
  · rcases hn j hj with e | e
    · exact h3 j e
    · exact ⟨fun hb => by have := (h4 j hb).2; omega, by omega⟩
  · rcases hn j hm with e | e
    · exact (h8 j hj).1 e
    · have := hg j hj; omega
theorem UpZ.ref {w W : World} {dp mb : Nat} {xs : List Ent} {r r' : RD} {g : RL} {lp : Option Addr} {K : Nat} {X : List Nat} (h : UpZ w W dp mb xs r g lp K X) (hf : ∀ k ∈ r'.foot, k ∈ r.foot ∨ W.heap.size ≤ k) : UpZ w W dp mb xs r' g lp K X := by
  obtain ⟨p, B, v, M, sz, h1, h2, h3, h4, h5, h6, h7, h8, h9, h10, h11⟩ := h
  have hp := h2.box.lt
  refine ⟨p, B, v, M, sz, h1, h2, h3, h4, h5, h6, h7, h8, fun k hk => ?_, h10, h11⟩
  rcases hf k hk with e | e
  · exact h9 k e
  · exact ⟨fun hb => by have := (h4 k hb).2; omega, by omega⟩
theorem UpZ.mono {w W : World} {dp mb : Nat} {xs : List Ent} {r : RD} {g : RL} {lp : Option Addr} {K K' : Nat} {X : List Nat} (h : UpZ w W dp mb xs r g lp K X) (hK : K ≤ K') : UpZ w W dp mb xs r g lp K' X := by
  obtain ⟨p, B, v, M, sz, h1, h2, h3, h4, h5, h6, h7, h8, h9, h10, h11⟩ := h
  exact ⟨p, B, v, M, sz, h1, h2, h3, h4, h5, h6, h7, h8, h9, ⟨by omega, h10.2.1, by omega, h10.2.2.2⟩, h11⟩
/-- Arm, at both. -/
theorem StZ.arm {w W0 W : World} {dp : Nat} {lp : Option Addr} {r : RD} {g : RL} {up : Bool} {K s : Nat} {X : List Nat} (h : StZ False w W0 dp lp r g up K s X) (k : Kp [] W0 W) (n : Int) (hn0 : -9223372036854775808 ≤ n) (hn1 : n < 9223372036854775808) :
    Calls Tryz.prog 21 #[.pointer (some ⟨dp, 0, none⟩), .int .i64 n] W fun e W1 => e = .returned (.tuple #[]) ∧ (∃ S, Kp S W W1 ∧ ∀ k ∈ S, k < W0.heap.size ∧ k ∉ X ∧ w.heap.size ≤ k) ∧
      ∀ W2, Kp [] W1 W2 → Calls Tryz.prog 22 #[r.v, .int .i64 n] W2 fun e W3 => ∃ r' : RD, e = .returned r'.v ∧ Kp [] W2 W3 ∧ StZ False w W3 dp lp r' g up K s X := by
  obtain ⟨mb, xs, d, h1, h2, h3, h4, h5, h6, h7, h8, hX9⟩ := h
  have hdp : dp ∈ foot dp mb xs := by simp [foot]
  refine (cArm (h1.keptNew k) n hn1).mono ?_
  rintro e W1 ⟨rfl, hD1, k1⟩
  refine ⟨rfl, ⟨_, k1, fun j hj => by simp at hj; subst hj; exact ⟨h1.lt _ hdp, fun hx => (hX9 _ hx).2.1 hdp, h6 _ hdp⟩⟩, fun W2 k2 => ?_⟩
  have hR1 := (h3.keptNew k).kept k1 (fun j hj hm => by simp at hm; subst hm; exact h7 _ hj hdp)
  refine (cRefArm r W2 (hR1.keptNew k2) d h4 n hn0 hn1).mono ?_
  rintro e W3 ⟨v, rfl, r', rfl, hR', hL', k3, hf'⟩
  have hz1 := k1.size
  have hz2 := k2.size
  refine ⟨r', rfl, k3, mb, xs, armD d n, (hD1.keptNew k2).keptNew k3, h2.armed n hn1, hR', hL', (((h5.trans k (by simp)).trans k1 (fun j hj => .inr (by simp at hj; subst hj; exact h6 _ hdp))).trans k2 (by simp)).trans k3 (by simp), h6, fun j hj hm => ?_, fun hu => ?_, fun j hj => ⟨by have := (hX9 j hj).1; have := k.size; have := k3.size; omega, (hX9 j hj).2.1, fun hm => by
    rcases hf' j hm with e | e
    · exact (hX9 j hj).2.2.1 e
    · have := (hX9 j hj).1; have := k.size; omega, (hX9 j hj).2.2.2⟩⟩
  · rcases hf' j hj with e | e
    · exact h7 j e hm
    · have := hD1.lt j hm; omega
  · exact (((((h8 hu).keep k).turn k1 (fun j hj => by simp at hj; subst hj; exact hdp) (fun j hj => .inl hj)).keep k2).ref (hf')).keep k3
/-- Crash, at both: no log is kept. -/
theorem StZ.crash {w W0 W : World} {dp : Nat} {lp : Option Addr} {r : RD} {g : RL} {up : Bool} {K s : Nat} {X : List Nat} (h : StZ Q w W0 dp lp r g up K s X) (k : Kp [] W0 W) (hK : K ≤ 140737000000000) (ka : Option Addr) (kc : Nat) (ks : List Int) (hks : ∀ X, Kp [] w X → Ints X ka ks) (hkl : ks.length ≤ kc) (hkc : kc ≤ 9223372036854775807) (hk64 : ∀ k ∈ ks, -9223372036854775808 ≤ k ∧ k < 9223372036854775808) :
    Calls Tryz.prog 23 #[.pointer (some ⟨dp, 0, none⟩), .slice ka ks.length kc] W fun e W1 => ∃ dp', e = .returned (.pointer (some ⟨dp', 0, none⟩)) ∧ Kp [] W W1 ∧
      ∀ W2, Kp [] W1 W2 → Calls Tryz.prog 24 #[r.v, .slice ka ks.length kc] W2 fun e W3 => ∃ r' : RD, e = .returned r'.v ∧ Kp [] W2 W3 ∧ StZ Q w W3 dp' lp r' g false K 0 X := by
  obtain ⟨mb, xs, d, h1, h2, h3, h4, h5, h6, h7, h8, hX9⟩ := h
  have hxl : xs.length ≤ 1 := by
    have := congrArg List.length h1.fl
    have h9 := h2.len
    simp at this
    omega
  have kw := h5.trans k (by simp)
  refine (cCrash (h1.keptNew k) (h2.small (by omega)) (by omega) ka kc ks (hks W kw) hkl hkc hk64).mono ?_
  rintro e W1 ⟨p', mb', xs', rfl, hD1, k1, hf1⟩
  refine ⟨p', rfl, k1, fun W2 k2 => ?_⟩
  have hz := kw.size
  have hz1 := k1.size
  have hz2 := k2.size
  obtain ⟨hl, hB⟩ := h2.rd h4 (by omega)
  have hR2 := ((h3.keptNew k).keptNew k1).keptNew k2
  refine (cRefCrash r d W2 hR2 h4 h2.ok (by omega) hB ka kc ks (hks W2 ((kw.trans k1 (by simp)).trans k2 (by simp))) hkl hkc hk64).mono ?_
  rintro e W3 ⟨v, rfl, r', rfl, hR', hL', k3, hf'⟩
  refine ⟨r', rfl, k3, mb', xs', crashD d ks, (hD1.keptNew k2).keptNew k3, h2.crash ks, hR', hL', ((kw.trans k1 (by simp)).trans k2 (by simp)).trans k3 (by simp), fun j hj => by have := hf1 j hj; omega, fun j hj hm => ?_, (fun hu => by cases hu), fun j hj => ⟨by have := (hX9 j hj).1; have := k.size; have := k3.size; omega, fun hm => by have := hf1 j hm; have := (hX9 j hj).1; have := k.size; omega, fun hm => by
    rcases hf' j hm with e | e
    · cases e
    · have := (hX9 j hj).1; have := k.size; omega, (hX9 j hj).2.2.2⟩⟩
  have h9 := hf1 j hm
  have h10 := hD1.lt j hm
  rcases hf' j hj with e | e
  · cases e
  · omega
theorem One.appq {K s : Nat} {d : Dk} (h : One K s d) (R : List (List UInt8)) : One (K + (frmR R).1.length) (s + 2) (appQ d nmZ R).1 := by
  unfold appQ
  split
  · exact h.mono (by omega) (by omega)
  · split
    · exact h.mono (by omega) (by omega)
    · exact h.write _
theorem OneQ.appq {K s : Nat} {d : Dk} (h : OneQ Q K s d) (R : List (List UInt8)) : OneQ Q (K + (frmR R).1.length) (s + 2) (appQ d nmZ R).1 := ⟨h.toOne.appq R, fun q => (h.qt q).app _ _⟩
theorem appS_le (R : List (List UInt8)) : 0 ≤ appS R ∧ appS R ≤ (frmR R).1.length := by
  unfold appS
  split <;> omega
/-- The reference's Append, whatever the records are. -/
theorem rAppend (r : RD) (g : RL) (d : Dk) (w : World) (hr : RdOk w r) (hL : Like r d) (hg : RlOk w g) {K s : Nat} (hO : One K s d) (hK : K ≤ 140737000000000) (hs : s ≤ 7000000000000000000) (hnm : g.nm = nmZ) (hgl : g.l.length ≤ 500000000) (hgs : 0 ≤ g.sz ∧ g.sz ≤ 8000000000000000000)
    (a : Option Addr) (c : Nat) (R : List Bs) (hRs : BsE.See w a R) (hRo : ∀ y ∈ R, y.ok w) (hRl : R.length ≤ 400000000) (hRw : ∀ y ∈ R, y.bs.length ≤ 140737488351232) :
    Calls Tryz.prog 25 #[r.v, g.v, .slice a R.length c] w (RefA r.foot (appQ d nmZ (bsl R)) g R w) := by
  by_cases h0 : R = []
  · subst h0
    exact rAppend0 r g d w hr hL hg a c
  · exact rAppendN r g d w hr hL hg hO hK hs hnm hgl hgs a c R h0 hRs hRo hRl hRw
/-- Append, at both. -/
theorem StZ.app {w W0 W : World} {dp : Nat} {lp : Option Addr} {r : RD} {g : RL} {K s : Nat} {X : List Nat} (h : StZ Q w W0 dp lp r g true K s X) (k : Kp [] W0 W) (hK : K ≤ 400000000) (hs : s ≤ 6000000000000000000) (hT : Tab w)
    (a : Option Addr) (c : Nat) (R : List Bs) (hR : ∀ X, Kp [] w X → BsE.See X a R ∧ ∀ y ∈ R, y.ok X) (hRa : R ≠ [] → ∀ k ∈ blk a, k < w.heap.size) (hRf : ∀ k ∈ rft R, k < w.heap.size) (hRl : R.length ≤ 400000000) (hRw : ∀ y ∈ R, y.bs.length ≤ 140737488351232) :
    ∃ p, lp = some ⟨p, 0, none⟩ ∧ Calls Tryz.prog 13 #[.pointer (some ⟨p, 0, none⟩), .slice a R.length c] W fun e W1 => ∃ z, e = .returned (.int .i64 z) ∧ (∃ S, Kp S W W1 ∧ ∀ k ∈ S, k < W0.heap.size ∧ k ∉ X ∧ w.heap.size ≤ k) ∧
      ∀ W2, Kp [] W1 W2 → Calls Tryz.prog 25 #[r.v, g.v, .slice a R.length c] W2 fun e W3 => ∃ (r' : RD) (g' : RL), e = .returned (.tuple #[r'.v, g'.v, .int .i64 z]) ∧ Kp [] W2 W3 ∧ StZ Q w W3 dp lp r' g' true (K + (frmR (bsl R)).1.length + R.length) (s + 2) X := by
  obtain ⟨mb, xs, d, h1, h2, h3, h4, h5, h6, h7, h8, hX9⟩ := h
  obtain ⟨p, B, v, M, sz, rfl, l2, l3, l4, l5, l6, l7, l8, l9, l10, l11⟩ := h8 rfl
  refine ⟨p, rfl, ?_⟩
  have kw := h5.trans k (by simp)
  have hzk := k.size
  have hzw := kw.size
  have hst := h2.st
  have hln := h2.len
  have hfi := h2.file
  have h00 := hT.1
  have hown : ∀ j ∈ own v, B j := l2.row.from
  have hX : ∀ j, (j ∈ foot dp mb xs ∨ j = p ∨ B j) → w.heap.size ≤ j := fun j hj => by
    rcases hj with e | e | e
    · exact h6 j e
    · subst e; exact l5
    · exact (l4 j e).1
  have hArg : ArgQ W a R (fun j => j ∈ foot dp mb xs ∨ j = p ∨ B j) := ⟨(hR W kw).1, (hR W kw).2, fun hne j hj hx => by have := hRa hne j hj; have := hX j hx; omega, fun y hy hyn j hj hx => by
    have h9 := hRf j (List.mem_flatMap.2 ⟨y, hy, by rw [if_neg hyn]; exact hj⟩)
    have := hX j hx
    omega, by omega, hRw⟩
  refine (cAppendL (l2.kept k (by simp) (by simp)) (h1.keptNew k) l3 (fun j hj => by have := (l4 j hj).2; omega) (by omega) (by omega) (h2.small (by omega)) nmZ_len (by omega) (by omega) (by omega) a c R hArg (hT.kept kw (by simp)) ⟨fun hm => by have := h6 0 hm; omega, by omega, fun hb => by have := (l4 0 hb).1; omega⟩).mono ?_
  rintro e W1 ⟨rfl, xs', hD1, k1, hf1, herr, hok⟩
  have hz1 := k1.size
  have hSlt : ∀ j ∈ p :: own v ++ foot dp mb xs, j < W0.heap.size ∧ w.heap.size ≤ j := fun j hj => by
    simp only [List.cons_append, List.mem_cons, List.mem_append] at hj
    rcases hj with rfl | hj | hj
    · exact ⟨l2.box.lt, l5⟩
    · exact ⟨(l4 j (hown j hj)).2, (l4 j (hown j hj)).1⟩
    · exact ⟨h1.lt j hj, h6 j hj⟩
  have hRS : ∀ j ∈ r.foot, j ∉ p :: own v ++ foot dp mb xs := fun j hj hm => by
    simp only [List.cons_append, List.mem_cons, List.mem_append] at hm
    rcases hm with e | hm | hm
    · exact (l9 j hj).2 e
    · exact (l9 j hj).1 (hown j hm)
    · exact h7 j hj hm
  have hGS : ∀ j ∈ g.foot, j ∉ p :: own v ++ foot dp mb xs := fun j hj hm => by
    simp only [List.cons_append, List.mem_cons, List.mem_append] at hm
    rcases hm with e | hm | hm
    · exact (l8 j hj).2.2 e
    · exact (l8 j hj).2.1 (hown j hm)
    · exact (l8 j hj).1 hm
  have hRlt := h3.lt
  have hGlt := l6.lt
  have hR1 := (h3.keptNew k).kept k1 hRS
  have hG1 := (l6.kept k (by simp)).kept k1 hGS
  have kw1 : Kp [] w W1 := kw.trans k1 (fun j hj => .inr (hSlt j hj).2)
  refine ⟨_, rfl, ⟨_, k1, fun j hj => ⟨(hSlt j hj).1, fun hx => ?_, (hSlt j hj).2⟩⟩, fun W2 k2 => ?_⟩
  · simp only [List.cons_append, List.mem_cons, List.mem_append] at hj
    rcases hj with e | e | e
    · exact (l11 j hx).2.1 e
    · exact (l11 j hx).1 (hown j e)
    · exact (hX9 j hx).2.1 e
  have hz2 := k2.size
  have kw2 := kw1.trans k2 (by simp)
  have hglen : g.l.length ≤ K := by rw [← bsl_len, l7.2.1]; exact l10.1
  refine (rAppend r g d W2 (hR1.keptNew k2) h4 (hG1.kept k2 (by simp)) h2.toOne (by omega) (by omega) l7.1 (by omega) (by rw [l7.2.2]; omega) a c R (hR W2 kw2).1 (hR W2 kw2).2 hRl hRw).mono ?_
  rintro e W3 ⟨v3, g', rfl, ⟨r', rfl, hR', hL', k3, hf'⟩, hg', hnm', hbl', hsz', hgf'⟩
  have hz3 := k3.size
  have hD1lt := hD1.lt
  have hp1 := l2.box.lt
  have hS9 := appS_le (bsl R)
  have hfr1 : ∀ j ∈ foot dp mb xs', w.heap.size ≤ j := fun j hj => by
    rcases hf1 j hj with e | e
    · exact h6 j e
    · omega
  have hrf : ∀ j ∈ r'.foot, j ∉ foot dp mb xs' := fun j hj hm => by
    rcases hf' j hj with e | e
    · rcases hf1 j hm with e2 | e2
      · exact h7 j e e2
      · have := hRlt j e; omega
    · have := hD1lt j hm; omega
  have hgn : ∀ j ∈ g'.foot, (j ∈ g.foot ∨ j < w.heap.size) ∨ W2.heap.size ≤ j := fun j hj => by
    rcases hgf' j hj with e | e | e
    · exact .inl (.inl e)
    · exact .inl (.inr (hRf j e))
    · exact .inr e
  have hgd : ∀ j ∈ g'.foot, j ∉ foot dp mb xs' := fun j hj hm => by
    rcases hgn j hj with (e | e) | e
    · rcases hf1 j hm with e2 | e2
      · exact (l8 j e).1 e2
      · have := hGlt j e; omega
    · have := hfr1 j hm; omega
    · have := hD1lt j hm; omega
  have fin : ∀ (v' : Value) (B' : Nat → Prop) (M' : List (List UInt8)) (s' : Int), Log W1 p dp nmZ B' v' M' s' → (∀ j, B' j → B j ∨ (W.heap.size ≤ j ∧ j < W1.heap.size)) → (∀ j ∈ foot dp mb xs', ¬ B' j ∧ j ≠ p) → bsl g'.l = M' → g'.sz = s' → M'.length ≤ K + R.length → 0 ≤ s' → s' ≤ K + (frmR (bsl R)).1.length → (∀ x ∈ M', x.length ≤ 140737488351232) →
      StZ Q w W3 dp (some ⟨p, 0, none⟩) r' g' true (K + (frmR (bsl R)).1.length + R.length) (s + 2) X := fun v' B' M' s' hlog hB' hsp hb hsz hM h0 h1' hxl => by
    have hBlt : ∀ j, B' j → w.heap.size ≤ j ∧ j < W1.heap.size := fun j hj => by
      rcases hB' j hj with e | e
      · have := l4 j e; omega
      · omega
    refine ⟨mb, xs', _, (hD1.keptNew k2).keptNew k3, (h2.appq (bsl R)).mono (by omega) (Nat.le_refl _), hR', hL', (kw2).trans k3 (by simp), hfr1, hrf, fun _ => ⟨p, B', v', M', s', rfl, (hlog.kept k2 (by simp) (by simp)).kept k3 (by simp) (by simp), hsp, fun j hj => by have := hBlt j hj; omega, l5, hg', ⟨hnm'.trans l7.1, hb, hsz⟩, fun j hj => ⟨hgd j hj, ?_⟩, fun j hj => ?_, ⟨by omega, h0, by omega, hxl⟩, fun j hj => ?_⟩, fun j hj => ⟨by have := (hX9 j hj).1; omega, fun hm => ?_, fun hm => ?_, (hX9 j hj).2.2.2⟩⟩
    · rcases hgn j hj with (e | e) | e
      · refine ⟨fun hb' => ?_, (l8 j e).2.2⟩
        rcases hB' j hb' with e2 | e2
        · exact (l8 j e).2.1 e2
        · have := hGlt j e; omega
      · exact ⟨fun hb' => by have := (hBlt j hb').1; omega, by omega⟩
      · exact ⟨fun hb' => by have := (hBlt j hb').2; omega, by omega⟩
    · rcases hf' j hj with e | e
      · refine ⟨fun hb' => ?_, (l9 j e).2⟩
        rcases hB' j hb' with e2 | e2
        · exact (l9 j e).1 e2
        · have := hRlt j e; omega
      · exact ⟨fun hb' => by have := (hBlt j hb').2; omega, by omega⟩
    · refine ⟨fun hb' => ?_, (l11 j hj).2.1, fun hm => ?_⟩
      · rcases hB' j hb' with e2 | e2
        · exact (l11 j hj).1 e2
        · have := (hX9 j hj).1; omega
      · rcases hgn j hm with (e | e) | e
        · exact (l11 j hj).2.2 e
        · have := (hX9 j hj).2.2.2; omega
        · have := (hX9 j hj).1; omega
    · rcases hf1 j hm with e2 | e2
      · exact (hX9 j hj).2.1 e2
      · have := (hX9 j hj).1; omega
    · rcases hf' j hm with e2 | e2
      · exact (hX9 j hj).2.2.1 e2
      · have := (hX9 j hj).1; omega
  refine ⟨r', g', rfl, k3, ?_⟩
  by_cases hz0 : (appQ d nmZ (bsl R)).2 = 0
  · obtain ⟨v', B', hlog, hB', hsp⟩ := hok hz0
    rw [if_pos hz0] at hbl' hsz'
    exact fin v' B' _ _ hlog hB' hsp (by rw [hbl', l7.2.1]) (by rw [hsz', l7.2.2]) (by rw [List.length_append, bsl_len]; omega) (by omega) (by omega) (fun x hx => by
      rcases List.mem_append.1 hx with h | h
      · exact l10.2.2.2 x h
      · obtain ⟨y, hy, rfl⟩ := List.mem_map.1 h
        exact hRw y hy)
  · obtain ⟨hlog, hsp⟩ := herr hz0
    rw [if_neg hz0] at hbl' hsz'
    exact fin v B _ _ hlog (fun j hj => .inl hj) hsp (by rw [hbl', l7.2.1]) (by rw [hsz', l7.2.2]) (by omega) (by omega) (by omega) l10.2.2.2
end Go.Proofs.YtpkoikennimonaaGreatDoor
end

section
namespace Go.Proofs.YtpkoikennimonaaGreatDoor
open Go.RowKit Go.Hay
set_option linter.unusedVariables false
set_option linter.unusedSimpArgs false
variable {Q : Prop}

/-- A call of the law. -/
structure OpZ where
  kind : Int
  n : Int
  a : Option Addr
  c : Nat
  l : List Bs
  ka : Option Addr
  kc : Nat
  ks : List Int
def OpZ.v (o : OpZ) : Value := .agg #[.int .i64 o.kind, .int .i64 o.n, .slice o.a o.l.length o.c, .slice o.ka o.ks.length o.kc]
/-- What a step leaves. -/
def StepP (Q : Prop) (w : World) (X : List Nat) (K s : Nat) (W : World) (e : Ending) (W' : World) : Prop :=
  ∃ (dp : Nat) (lp : Option Addr) (r : RD) (g : RL) (up : Bool), e = .returned (.tuple #[LWv dp lp r g up, .bool true]) ∧ StZ Q w W' dp lp r g up K s X ∧ ∃ S, Kp S W W' ∧ ∀ k ∈ S, k ∉ X ∧ w.heap.size ≤ k
theorem StZ.keepS {w W W' : World} {dp : Nat} {lp : Option Addr} {r : RD} {g : RL} {up : Bool} {K s : Nat} {X X' : List Nat} (h : StZ Q w W dp lp r g up K s X) {S : List Nat} (k : Kp S W W') (hS : ∀ j ∈ S, j ∈ X) (hX : ∀ j ∈ X', (j ∈ X ∨ W.heap.size ≤ j) ∧ j < W'.heap.size) : StZ Q w W' dp lp r g up K s X' := by
  obtain ⟨mb, xs, d, h1, h2, h3, h4, h5, h6, h7, h8, h9⟩ := h
  have hz := k.size
  refine ⟨mb, xs, d, h1.kept k (fun j hj hm => (h9 j (hS j hm)).2.1 hj), h2, h3.kept k (fun j hj hm => (h9 j (hS j hm)).2.2.1 hj), h4, h5.trans k (fun j hj => .inr (h9 j (hS j hj)).2.2.2), h6, h7, fun hu => ?_, fun j hj => ⟨(hX j hj).2, fun hm => ?_, fun hm => ?_, ?_⟩⟩
  · obtain ⟨p, B, v, M, sz, l1, l2, l3, l4, l5, l6, l7, l8, l9, l10, l11⟩ := h8 hu
    have hp := l2.box.lt
    refine ⟨p, B, v, M, sz, l1, l2.kept k (fun hm => (l11 p (hS p hm)).2.1 rfl) (fun j hj => (l11 j (hS j hj)).1), l3, fun j hj => ⟨(l4 j hj).1, by have := (l4 j hj).2; omega⟩, l5, l6.kept k (fun j hj hm => (l11 j (hS j hm)).2.2 hj), l7, l8, l9, l10, fun j hj => ?_⟩
    rcases (hX j hj).1 with e | e
    · exact l11 j e
    · exact ⟨fun hb => by have := (l4 j hb).2; omega, by omega, fun hm => by have := l6.lt j hm; omega⟩
  · rcases (hX j hj).1 with e | e
    · exact (h9 j e).2.1 hm
    · have := h1.lt j hm; omega
  · rcases (hX j hj).1 with e | e
    · exact (h9 j e).2.2.1 hm
    · have := h3.lt j hm; omega
  · rcases (hX j hj).1 with e | e
    · exact (h9 j e).2.2.2
    · have := h5.size; omega
theorem boxStep (dp : Nat) (lp : Option Addr) (r : RD) (g : RL) (up : Bool) (o : OpZ) (W : World) : ∃ W1, ((W.alloc (.cells #[.pointer (some ⟨dp, 0, none⟩), .pointer lp, .int .i64 r.room, .int .i64 r.steps, .slice r.fa r.l.length r.fc, .bool r.armed, .bool r.dead, .int .i64 r.left, .string ⟨g.nm.toArray⟩, .slice g.a g.l.length g.c, .int .i64 g.sz, .bool up] 34)).alloc (.cells #[.int .i64 o.kind, .int .i64 o.n, .slice o.a o.l.length o.c, .slice o.ka o.ks.length o.kc] 40)).alloc (.cells #[.pointer none, .pointer none, .int .i64 0, .int .i64 0, .slice none 0 0, .bool false, .bool false, .int .i64 0, .string ⟨#[]⟩, .slice none 0 0, .int .i64 0, .bool false] 34) = W1 ∧ Kp [] W W1 ∧ W1.heap.size = W.heap.size + 3 ∧ Bn W1 (W.heap.size) [.pointer (some ⟨dp, 0, none⟩), .pointer lp, .int .i64 r.room, .int .i64 r.steps, .slice r.fa r.l.length r.fc, .bool r.armed, .bool r.dead, .int .i64 r.left, .string ⟨g.nm.toArray⟩, .slice g.a g.l.length g.c, .int .i64 g.sz, .bool up] ∧ Bn W1 (W.heap.size + 1) [.int .i64 o.kind, .int .i64 o.n, .slice o.a o.l.length o.c, .slice o.ka o.ks.length o.kc] ∧ Bn W1 (W.heap.size + 1 + 1) [.pointer none, .pointer none, .int .i64 0, .int .i64 0, .slice none 0 0, .bool false, .bool false, .int .i64 0, .string ⟨#[]⟩, .slice none 0 0, .int .i64 0, .bool false] := by
  refine ⟨_, rfl, ((((Kp.refl _ _).alloc _).alloc _).alloc _), by simp, ?_, ?_, ?_⟩
  · exact ((Bn.new W [.pointer (some ⟨dp, 0, none⟩), .pointer lp, .int .i64 r.room, .int .i64 r.steps, .slice r.fa r.l.length r.fc, .bool r.armed, .bool r.dead, .int .i64 r.left, .string ⟨g.nm.toArray⟩, .slice g.a g.l.length g.c, .int .i64 g.sz, .bool up] 34).kept ((Kp.refl _ _).alloc _) (by simp)).kept ((Kp.refl _ _).alloc _) (by simp <;> omega)
  · have h := Bn.new (W.alloc (.cells #[.pointer (some ⟨dp, 0, none⟩), .pointer lp, .int .i64 r.room, .int .i64 r.steps, .slice r.fa r.l.length r.fc, .bool r.armed, .bool r.dead, .int .i64 r.left, .string ⟨g.nm.toArray⟩, .slice g.a g.l.length g.c, .int .i64 g.sz, .bool up] 34)) [.int .i64 o.kind, .int .i64 o.n, .slice o.a o.l.length o.c, .slice o.ka o.ks.length o.kc] 40
    rw [World.size_alloc] at h
    exact h.kept ((Kp.refl _ _).alloc _) (by simp)
  · have h := Bn.new ((W.alloc (.cells #[.pointer (some ⟨dp, 0, none⟩), .pointer lp, .int .i64 r.room, .int .i64 r.steps, .slice r.fa r.l.length r.fc, .bool r.armed, .bool r.dead, .int .i64 r.left, .string ⟨g.nm.toArray⟩, .slice g.a g.l.length g.c, .int .i64 g.sz, .bool up] 34)).alloc (.cells #[.int .i64 o.kind, .int .i64 o.n, .slice o.a o.l.length o.c, .slice o.ka o.ks.length o.kc] 40)) [.pointer none, .pointer none, .int .i64 0, .int .i64 0, .slice none 0 0, .bool false, .bool false, .int .i64 0, .string ⟨#[]⟩, .slice none 0 0, .int .i64 0, .bool false] 34
    rw [World.size_alloc, World.size_alloc] at h
    exact h
/-- The results' box is laid. -/
theorem Bn.set12 {W : World} {q : Nat} {cs : List Value} (h : Bn W q cs) (hl : cs.length = 12) (u0 u1 u2 u3 u4 u5 u6 u7 u8 u9 u10 u11 : Value) : ∃ W', ((((((((((((W.setCell ⟨q, 0, none⟩ (u0)).setCell ⟨q, 1, none⟩ (u1)).setCell ⟨q, 2, none⟩ (u2)).setCell ⟨q, 3, none⟩ (u3)).setCell ⟨q, 4, none⟩ (u4)).setCell ⟨q, 5, none⟩ (u5)).setCell ⟨q, 6, none⟩ (u6)).setCell ⟨q, 7, none⟩ (u7)).setCell ⟨q, 8, none⟩ (u8)).setCell ⟨q, 9, none⟩ (u9)).setCell ⟨q, 10, none⟩ (u10)).setCell ⟨q, 11, none⟩ (u11)) = W' ∧ Bn W' q [u0, u1, u2, u3, u4, u5, u6, u7, u8, u9, u10, u11] ∧ Kp [q] W W' := by
  refine ⟨_, rfl, ?_, (((((((((((((Kp.refl _ _).setCell (by simp) _).setCell (by simp) _).setCell (by simp) _).setCell (by simp) _).setCell (by simp) _).setCell (by simp) _).setCell (by simp) _).setCell (by simp) _).setCell (by simp) _).setCell (by simp) _).setCell (by simp) _).setCell (by simp) _)⟩
  match cs, hl with
  | [_, _, _, _, _, _, _, _, _, _, _, _], _ => exact ((((((((((((h.set 0 (by simp) (u0)).set 1 (by simp) (u1)).set 2 (by simp) (u2)).set 3 (by simp) (u3)).set 4 (by simp) (u4)).set 5 (by simp) (u5)).set 6 (by simp) (u6)).set 7 (by simp) (u7)).set 8 (by simp) (u8)).set 9 (by simp) (u9)).set 10 (by simp) (u10)).set 11 (by simp) (u11))
set_option maxHeartbeats 16000000 in
set_option maxRecDepth 100000 in
theorem cStep2 {w W : World} {dp : Nat} {lp : Option Addr} {r : RD} {g : RL} {up ub : Bool} {K s : Nat} {X : List Nat} (h : StZ Q w W dp lp r g up K s X) (o : OpZ) (hk : o.kind = 2) (hK : K ≤ 4000000000000) (hs : s ≤ 6000000000000000000) (hT : Tab w) :
    Calls Tryz.prog 8 #[LWv dp lp r g ub, o.v] W (StepP Q w X K (s + 2) W) := by
  obtain ⟨W1, e1, k1, z1, x0, x1, x2⟩ := boxStep dp lp r g ub o W
  have hXl : Hid (∀ k ∈ X, k < W.heap.size) := by
    obtain ⟨mb, xs, d, _, _, _, _, _, _, _, _, h9⟩ := h
    exact fun k hk => (h9 k hk).1
  have h' := h.keepS (X' := (W.heap.size) :: (W.heap.size + 1 + 1) :: X) k1 (by simp) (fun j hj => by
    simp only [List.mem_cons] at hj
    rcases hj with rfl | rfl | hj
    · exact ⟨.inr (Nat.le_refl _), by omega⟩
    · exact ⟨.inr (by omega), by omega⟩
    · exact ⟨.inl hj, by have := hXl.out j hj; omega⟩)
  have aO := hid (h'.opn (Kp.refl _ _) hK hs hT)
  have hkw := hid h.kp
  have HB := hid (And.intro x0 (And.intro x1 x2))
  have hk1 := hid k1
  have c0 := x0.get 0 _ rfl
  have o0 := x1.get 0 _ rfl
  rw [hk] at o0
  clear h h' x0 x1 x2 k1
  obtain ⟨kind, on, oa, oc, ol, oka, okc, oks⟩ := o
  simp only at hk
  subst hk
  simp only [LWv, OpZ.v] at *
  go_enter Tryz.func8, Tryz.ntmps8
  go_wp2_with fail
  refine aO.out.mono ?_
  rintro e W2 ⟨lq, z, rfl, hlz, ⟨S2, k2, hS2⟩, hF⟩
  have hz2 := k2.size
  have n0 : W.heap.size ∉ S2 := fun hm => (hS2 _ hm).2.1 (by simp)
  have n2 : W.heap.size + 1 + 1 ∉ S2 := fun hm => (hS2 _ hm).2.1 (by simp)
  have y0 := HB.out.1.keptS k2 n0 (by omega)
  have y2 := HB.out.2.2.keptS k2 n2 (by omega)
  have aF := hid (hF W2 (Kp.refl _ _))
  have HY := hid (And.intro y0 (And.intro y2 (And.intro k2 hS2)))
  have c2 := y0.get 2 _ rfl; have c3 := y0.get 3 _ rfl; have c4 := y0.get 4 _ rfl; have c5 := y0.get 5 _ rfl; have c6 := y0.get 6 _ rfl; have c7 := y0.get 7 _ rfl
  simp only [RD.v] at aF
  clear aO hF k2 y0 y2 c0
  go_wp2_with fail
  refine aF.out.mono ?_
  rintro e W3 ⟨r3, g3, rfl, k3, hSt⟩
  have hz3 := k3.size
  have HSt := hid hSt
  obtain ⟨WA, eA⟩ : ∃ Y, (W3.alloc (.cells #[.int .i64 0, .int .i64 0, .slice none 0 0, .bool false, .bool false, .int .i64 0] 27)).alloc (.cells #[.string ⟨#[]⟩, .slice none 0 0, .int .i64 0] 32) = Y := ⟨_, rfl⟩
  have kA : Kp [] W3 WA := by rw [← eA]; exact ((Kp.refl _ _).alloc _).alloc _
  have zA : WA.heap.size = W3.heap.size + 2 := by rw [← eA]; simp
  have xa : Bn WA (W3.heap.size) [.int .i64 0, .int .i64 0, .slice none 0 0, .bool false, .bool false, .int .i64 0] := by rw [← eA]; exact (Bn.new W3 [.int .i64 0, .int .i64 0, .slice none 0 0, .bool false, .bool false, .int .i64 0] 27).kept ((Kp.refl _ _).alloc _) (by simp)
  have xb : Bn WA (W3.heap.size + 1) [.string ⟨#[]⟩, .slice none 0 0, .int .i64 0] := by
    rw [← eA]
    have h := Bn.new (W3.alloc (.cells #[.int .i64 0, .int .i64 0, .slice none 0 0, .bool false, .bool false, .int .i64 0] 27)) [.string ⟨#[]⟩, .slice none 0 0, .int .i64 0] 32
    rw [World.size_alloc] at h
    exact h
  obtain ⟨WB, eB⟩ : ∃ Y, ((((((WA.setCell ⟨W3.heap.size, 0, none⟩ (.int .i64 r3.room)).setCell ⟨W3.heap.size, 1, none⟩ (.int .i64 r3.steps)).setCell ⟨W3.heap.size, 2, none⟩ (.slice r3.fa r3.l.length r3.fc)).setCell ⟨W3.heap.size, 3, none⟩ (.bool r3.armed)).setCell ⟨W3.heap.size, 4, none⟩ (.bool r3.dead)).setCell ⟨W3.heap.size, 5, none⟩ (.int .i64 r3.left)) = Y := ⟨_, rfl⟩
  have kB : Kp [W3.heap.size] WA WB := by rw [← eB]; exact (((((((Kp.refl _ _).setCell (by simp) _).setCell (by simp) _).setCell (by simp) _).setCell (by simp) _).setCell (by simp) _).setCell (by simp) _)
  have xaB : Bn WB (W3.heap.size) [.int .i64 r3.room, .int .i64 r3.steps, .slice r3.fa r3.l.length r3.fc, .bool r3.armed, .bool r3.dead, .int .i64 r3.left] := by rw [← eB]; exact ((((((xa.set 0 (by simp) (.int .i64 r3.room)).set 1 (by simp) (.int .i64 r3.steps)).set 2 (by simp) (.slice r3.fa r3.l.length r3.fc)).set 3 (by simp) (.bool r3.armed)).set 4 (by simp) (.bool r3.dead)).set 5 (by simp) (.int .i64 r3.left))
  have xbB := xb.keptS kB (by simp <;> omega) (by omega)
  obtain ⟨WC, eC⟩ : ∃ Y, (((WB.setCell ⟨W3.heap.size + 1, 0, none⟩ (.string ⟨g3.nm.toArray⟩)).setCell ⟨W3.heap.size + 1, 1, none⟩ (.slice g3.a g3.l.length g3.c)).setCell ⟨W3.heap.size + 1, 2, none⟩ (.int .i64 g3.sz)) = Y := ⟨_, rfl⟩
  have kC : Kp [W3.heap.size + 1] WB WC := by rw [← eC]; exact ((((Kp.refl _ _).setCell (by simp) _).setCell (by simp) _).setCell (by simp) _)
  have xbC : Bn WC (W3.heap.size + 1) [.string ⟨g3.nm.toArray⟩, .slice g3.a g3.l.length g3.c, .int .i64 g3.sz] := by rw [← eC]; exact (((xbB.set 0 (by simp) (.string ⟨g3.nm.toArray⟩)).set 1 (by simp) (.slice g3.a g3.l.length g3.c)).set 2 (by simp) (.int .i64 g3.sz))
  have zB := kB.size
  have zC := kC.size
  have xaC := xaB.keptS kC (by simp <;> omega) (by omega)
  have k3C : Kp [] W3 WC := (kA.trans kB (fun x hx => .inr (by simp at hx; omega))).trans kC (fun x hx => .inr (by simp at hx; omega))
  have k2C := k3.trans k3C (by simp)
  have y0C := HY.out.1.kept k2C (by omega)
  have y2C := HY.out.2.1.kept k2C (by omega)
  have aL := hid (cLaid dp lp lq r r3 g g3 ub z z WC)
  have HC := hid (And.intro y2C (And.intro k2C k3C))
  have ma0 := xa.get 0 _ rfl; have ma1 := xa.get 1 _ rfl; have ma2 := xa.get 2 _ rfl; have ma3 := xa.get 3 _ rfl; have ma4 := xa.get 4 _ rfl; have ma5 := xa.get 5 _ rfl
  have mf0 := xa.free 0; have mf1 := xa.free 1; have mf2 := xa.free 2; have mf3 := xa.free 3; have mf4 := xa.free 4; have mf5 := xa.free 5
  have na0 := xbB.get 0 _ rfl; have na1 := xbB.get 1 _ rfl; have na2 := xbB.get 2 _ rfl
  have nf0 := xbB.free 0; have nf1 := xbB.free 1; have nf2 := xbB.free 2
  have pa0 := xaC.get 0 _ rfl; have pa1 := xaC.get 1 _ rfl; have pa2 := xaC.get 2 _ rfl; have pa3 := xaC.get 3 _ rfl; have pa4 := xaC.get 4 _ rfl; have pa5 := xaC.get 5 _ rfl
  have pb0 := xbC.get 0 _ rfl; have pb1 := xbC.get 1 _ rfl; have pb2 := xbC.get 2 _ rfl
  have pc0 := y0C.get 0 _ rfl; have pc1 := y0C.get 1 _ rfl; have pc2 := y0C.get 2 _ rfl; have pc3 := y0C.get 3 _ rfl; have pc4 := y0C.get 4 _ rfl; have pc5 := y0C.get 5 _ rfl; have pc6 := y0C.get 6 _ rfl; have pc7 := y0C.get 7 _ rfl; have pc8 := y0C.get 8 _ rfl; have pc9 := y0C.get 9 _ rfl; have pc10 := y0C.get 10 _ rfl; have pc11 := y0C.get 11 _ rfl
  clear xa xb xaB xbB xbC xaC y0C y2C kA kB kC k3C k2C k3 hSt c2 c3 c4 c5 c6 c7 aF
  obtain ⟨room3, steps3, fa3, fc3, lx3, armed3, dead3, left3⟩ := r3
  obtain ⟨gn3, ga3, gc3, gl3, gs3⟩ := g3
  simp only [RD.v, RL.v, LWv] at *
  go_wp2_with fail
  refine aL.out.mono ?_
  rintro e W5 ⟨rfl, k5⟩
  have hb : ((z == z) && (lq.isSome == (z == 0))) = true := by rw [hlz]; simp
  rw [hb]
  have hz5 := k5.size
  have y2' := HC.out.1.kept k5 (by omega)
  obtain ⟨W6, e6, x6, k6⟩ := y2'.set12 rfl (.pointer (some ⟨dp, 0, none⟩)) (.pointer lq) (.int .i64 room3) (.int .i64 steps3) (.slice fa3 lx3.length fc3) (.bool armed3) (.bool dead3) (.int .i64 left3) (.string ⟨gn3.toArray⟩) (.slice ga3 gl3.length gc3) (.int .i64 gs3) (.bool (z == 0))
  have va0 := y2'.get 0 _ rfl; have va1 := y2'.get 1 _ rfl; have va2 := y2'.get 2 _ rfl; have va3 := y2'.get 3 _ rfl; have va4 := y2'.get 4 _ rfl; have va5 := y2'.get 5 _ rfl; have va6 := y2'.get 6 _ rfl; have va7 := y2'.get 7 _ rfl; have va8 := y2'.get 8 _ rfl; have va9 := y2'.get 9 _ rfl; have va10 := y2'.get 10 _ rfl; have va11 := y2'.get 11 _ rfl
  have vf0 := y2'.free 0; have vf1 := y2'.free 1; have vf2 := y2'.free 2; have vf3 := y2'.free 3; have vf4 := y2'.free 4; have vf5 := y2'.free 5; have vf6 := y2'.free 6; have vf7 := y2'.free 7; have vf8 := y2'.free 8; have vf9 := y2'.free 9; have vf10 := y2'.free 10; have vf11 := y2'.free 11
  have oo0 := hid (x6.get 0 _ rfl); have oo1 := hid (x6.get 1 _ rfl); have oo2 := hid (x6.get 2 _ rfl); have oo3 := hid (x6.get 3 _ rfl); have oo4 := hid (x6.get 4 _ rfl); have oo5 := hid (x6.get 5 _ rfl); have oo6 := hid (x6.get 6 _ rfl); have oo7 := hid (x6.get 7 _ rfl); have oo8 := hid (x6.get 8 _ rfl); have oo9 := hid (x6.get 9 _ rfl); have oo10 := hid (x6.get 10 _ rfl); have oo11 := hid (x6.get 11 _ rfl)
  have HF := hid (And.intro k5 k6)
  clear x6 k6 k5 y2' aL hb
  go_wp2_with fail
  refine bodyPost_ret (v := .tuple #[.agg #[.pointer (some ⟨dp, 0, none⟩), .pointer lq, .int .i64 room3, .int .i64 steps3, .slice fa3 lx3.length fc3, .bool armed3, .bool dead3, .int .i64 left3, .string ⟨gn3.toArray⟩, .slice ga3 gl3.length gc3, .int .i64 gs3, .bool (z == 0)], .bool true]) (by simp [results, Tryz.results8, go_sem, oo0.out, oo1.out, oo2.out, oo3.out, oo4.out, oo5.out, oo6.out, oo7.out, oo8.out, oo9.out, oo10.out, oo11.out]) rfl ?_
  have k36 : Kp [W.heap.size + 1 + 1] W3 W6 := ((HC.out.2.2.trans HF.out.1 (by simp)).mono (by simp)).trans HF.out.2 (fun x hx => .inl hx)
  have kW6 : Kp S2 W W6 := ((((hk1.out.mono (by simp)).trans HY.out.2.2.1 (fun x hx => .inl hx)).trans HC.out.2.1 (by simp)).trans HF.out.1 (by simp)).trans HF.out.2 (fun x hx => .inr (by simp at hx; omega))
  have z6 := k36.size
  exact ⟨dp, lq, ⟨room3, steps3, fa3, fc3, lx3, armed3, dead3, left3⟩, ⟨gn3, ga3, gc3, gl3, gs3⟩, (z == 0), rfl, HSt.out.keepS k36 (by simp) (fun j hj => ⟨.inl (by simp [hj]), by have := hXl.out j hj; omega⟩), S2, kW6, fun k hk => ⟨fun hx => (HY.out.2.2.2 k hk).2.1 (by simp [hx]), (HY.out.2.2.2 k hk).2.2⟩⟩
set_option maxHeartbeats 16000000 in
set_option maxRecDepth 100000 in
theorem cStep3 {w W : World} {dp : Nat} {lp : Option Addr} {r : RD} {g : RL} {up ub : Bool} {K s : Nat} {X : List Nat} (h : StZ Q w W dp lp r g up K s X) (o : OpZ) (hk : o.kind = 3) (hK : K ≤ 4000000000000) (hs : s ≤ 6000000000000000000) :
    Calls Tryz.prog 8 #[LWv dp lp r g ub, o.v] W (StepP Q w X K (s + 3) W) := by
  obtain ⟨W1, e1, k1, z1, x0, x1, x2⟩ := boxStep dp lp r g ub o W
  have hXl : Hid (∀ k ∈ X, k < W.heap.size) := by
    obtain ⟨mb, xs, d, _, _, _, _, _, _, _, _, h9⟩ := h
    exact fun k hk => (h9 k hk).1
  have h' := h.keepS (X' := (W.heap.size) :: (W.heap.size + 1 + 1) :: X) k1 (by simp) (fun j hj => by
    simp only [List.mem_cons] at hj
    rcases hj with rfl | rfl | hj
    · exact ⟨.inr (Nat.le_refl _), by omega⟩
    · exact ⟨.inr (by omega), by omega⟩
    · exact ⟨.inl hj, by have := hXl.out j hj; omega⟩)
  have aO := hid (h'.cre (Kp.refl _ _) hK hs)
  have hkw := hid h.kp
  have HB := hid (And.intro x0 (And.intro x1 x2))
  have hk1 := hid k1
  have c0 := x0.get 0 _ rfl
  have o0 := x1.get 0 _ rfl
  rw [hk] at o0
  clear h h' x0 x1 x2 k1
  obtain ⟨kind, on, oa, oc, ol, oka, okc, oks⟩ := o
  simp only at hk
  subst hk
  simp only [LWv, OpZ.v] at *
  go_enter Tryz.func8, Tryz.ntmps8
  go_wp2_with fail
  refine aO.out.mono ?_
  rintro e W2 ⟨lq, z, rfl, hlz, ⟨S2, k2, hS2⟩, hF⟩
  have hz2 := k2.size
  have n0 : W.heap.size ∉ S2 := fun hm => (hS2 _ hm).2.1 (by simp)
  have n2 : W.heap.size + 1 + 1 ∉ S2 := fun hm => (hS2 _ hm).2.1 (by simp)
  have y0 := HB.out.1.keptS k2 n0 (by omega)
  have y2 := HB.out.2.2.keptS k2 n2 (by omega)
  have aF := hid (hF W2 (Kp.refl _ _))
  have HY := hid (And.intro y0 (And.intro y2 (And.intro k2 hS2)))
  have c2 := y0.get 2 _ rfl; have c3 := y0.get 3 _ rfl; have c4 := y0.get 4 _ rfl; have c5 := y0.get 5 _ rfl; have c6 := y0.get 6 _ rfl; have c7 := y0.get 7 _ rfl
  simp only [RD.v] at aF
  clear aO hF k2 y0 y2 c0
  go_wp2_with fail
  refine aF.out.mono ?_
  rintro e W3 ⟨r3, g3, rfl, k3, hSt⟩
  have hz3 := k3.size
  have HSt := hid hSt
  obtain ⟨WA, eA⟩ : ∃ Y, (W3.alloc (.cells #[.int .i64 0, .int .i64 0, .slice none 0 0, .bool false, .bool false, .int .i64 0] 27)).alloc (.cells #[.string ⟨#[]⟩, .slice none 0 0, .int .i64 0] 32) = Y := ⟨_, rfl⟩
  have kA : Kp [] W3 WA := by rw [← eA]; exact ((Kp.refl _ _).alloc _).alloc _
  have zA : WA.heap.size = W3.heap.size + 2 := by rw [← eA]; simp
  have xa : Bn WA (W3.heap.size) [.int .i64 0, .int .i64 0, .slice none 0 0, .bool false, .bool false, .int .i64 0] := by rw [← eA]; exact (Bn.new W3 [.int .i64 0, .int .i64 0, .slice none 0 0, .bool false, .bool false, .int .i64 0] 27).kept ((Kp.refl _ _).alloc _) (by simp)
  have xb : Bn WA (W3.heap.size + 1) [.string ⟨#[]⟩, .slice none 0 0, .int .i64 0] := by
    rw [← eA]
    have h := Bn.new (W3.alloc (.cells #[.int .i64 0, .int .i64 0, .slice none 0 0, .bool false, .bool false, .int .i64 0] 27)) [.string ⟨#[]⟩, .slice none 0 0, .int .i64 0] 32
    rw [World.size_alloc] at h
    exact h
  obtain ⟨WB, eB⟩ : ∃ Y, ((((((WA.setCell ⟨W3.heap.size, 0, none⟩ (.int .i64 r3.room)).setCell ⟨W3.heap.size, 1, none⟩ (.int .i64 r3.steps)).setCell ⟨W3.heap.size, 2, none⟩ (.slice r3.fa r3.l.length r3.fc)).setCell ⟨W3.heap.size, 3, none⟩ (.bool r3.armed)).setCell ⟨W3.heap.size, 4, none⟩ (.bool r3.dead)).setCell ⟨W3.heap.size, 5, none⟩ (.int .i64 r3.left)) = Y := ⟨_, rfl⟩
  have kB : Kp [W3.heap.size] WA WB := by rw [← eB]; exact (((((((Kp.refl _ _).setCell (by simp) _).setCell (by simp) _).setCell (by simp) _).setCell (by simp) _).setCell (by simp) _).setCell (by simp) _)
  have xaB : Bn WB (W3.heap.size) [.int .i64 r3.room, .int .i64 r3.steps, .slice r3.fa r3.l.length r3.fc, .bool r3.armed, .bool r3.dead, .int .i64 r3.left] := by rw [← eB]; exact ((((((xa.set 0 (by simp) (.int .i64 r3.room)).set 1 (by simp) (.int .i64 r3.steps)).set 2 (by simp) (.slice r3.fa r3.l.length r3.fc)).set 3 (by simp) (.bool r3.armed)).set 4 (by simp) (.bool r3.dead)).set 5 (by simp) (.int .i64 r3.left))
  have xbB := xb.keptS kB (by simp <;> omega) (by omega)
  obtain ⟨WC, eC⟩ : ∃ Y, (((WB.setCell ⟨W3.heap.size + 1, 0, none⟩ (.string ⟨g3.nm.toArray⟩)).setCell ⟨W3.heap.size + 1, 1, none⟩ (.slice g3.a g3.l.length g3.c)).setCell ⟨W3.heap.size + 1, 2, none⟩ (.int .i64 g3.sz)) = Y := ⟨_, rfl⟩
  have kC : Kp [W3.heap.size + 1] WB WC := by rw [← eC]; exact ((((Kp.refl _ _).setCell (by simp) _).setCell (by simp) _).setCell (by simp) _)
  have xbC : Bn WC (W3.heap.size + 1) [.string ⟨g3.nm.toArray⟩, .slice g3.a g3.l.length g3.c, .int .i64 g3.sz] := by rw [← eC]; exact (((xbB.set 0 (by simp) (.string ⟨g3.nm.toArray⟩)).set 1 (by simp) (.slice g3.a g3.l.length g3.c)).set 2 (by simp) (.int .i64 g3.sz))
  have zB := kB.size
  have zC := kC.size
  have xaC := xaB.keptS kC (by simp <;> omega) (by omega)
  have k3C : Kp [] W3 WC := (kA.trans kB (fun x hx => .inr (by simp at hx; omega))).trans kC (fun x hx => .inr (by simp at hx; omega))
  have k2C := k3.trans k3C (by simp)
  have y0C := HY.out.1.kept k2C (by omega)
  have y2C := HY.out.2.1.kept k2C (by omega)
  have aL := hid (cLaid dp lp lq r r3 g g3 ub z z WC)
  have HC := hid (And.intro y2C (And.intro k2C k3C))
  have ma0 := xa.get 0 _ rfl; have ma1 := xa.get 1 _ rfl; have ma2 := xa.get 2 _ rfl; have ma3 := xa.get 3 _ rfl; have ma4 := xa.get 4 _ rfl; have ma5 := xa.get 5 _ rfl
  have mf0 := xa.free 0; have mf1 := xa.free 1; have mf2 := xa.free 2; have mf3 := xa.free 3; have mf4 := xa.free 4; have mf5 := xa.free 5
  have na0 := xbB.get 0 _ rfl; have na1 := xbB.get 1 _ rfl; have na2 := xbB.get 2 _ rfl
  have nf0 := xbB.free 0; have nf1 := xbB.free 1; have nf2 := xbB.free 2
  have pa0 := xaC.get 0 _ rfl; have pa1 := xaC.get 1 _ rfl; have pa2 := xaC.get 2 _ rfl; have pa3 := xaC.get 3 _ rfl; have pa4 := xaC.get 4 _ rfl; have pa5 := xaC.get 5 _ rfl
  have pb0 := xbC.get 0 _ rfl; have pb1 := xbC.get 1 _ rfl; have pb2 := xbC.get 2 _ rfl
  have pc0 := y0C.get 0 _ rfl; have pc1 := y0C.get 1 _ rfl; have pc2 := y0C.get 2 _ rfl; have pc3 := y0C.get 3 _ rfl; have pc4 := y0C.get 4 _ rfl; have pc5 := y0C.get 5 _ rfl; have pc6 := y0C.get 6 _ rfl; have pc7 := y0C.get 7 _ rfl; have pc8 := y0C.get 8 _ rfl; have pc9 := y0C.get 9 _ rfl; have pc10 := y0C.get 10 _ rfl; have pc11 := y0C.get 11 _ rfl
  clear xa xb xaB xbB xbC xaC y0C y2C kA kB kC k3C k2C k3 hSt c2 c3 c4 c5 c6 c7 aF
  obtain ⟨room3, steps3, fa3, fc3, lx3, armed3, dead3, left3⟩ := r3
  obtain ⟨gn3, ga3, gc3, gl3, gs3⟩ := g3
  simp only [RD.v, RL.v, LWv] at *
  go_wp2_with fail
  refine aL.out.mono ?_
  rintro e W5 ⟨rfl, k5⟩
  have hb : ((z == z) && (lq.isSome == (z == 0))) = true := by rw [hlz]; simp
  rw [hb]
  have hz5 := k5.size
  have y2' := HC.out.1.kept k5 (by omega)
  obtain ⟨W6, e6, x6, k6⟩ := y2'.set12 rfl (.pointer (some ⟨dp, 0, none⟩)) (.pointer lq) (.int .i64 room3) (.int .i64 steps3) (.slice fa3 lx3.length fc3) (.bool armed3) (.bool dead3) (.int .i64 left3) (.string ⟨gn3.toArray⟩) (.slice ga3 gl3.length gc3) (.int .i64 gs3) (.bool (z == 0))
  have va0 := y2'.get 0 _ rfl; have va1 := y2'.get 1 _ rfl; have va2 := y2'.get 2 _ rfl; have va3 := y2'.get 3 _ rfl; have va4 := y2'.get 4 _ rfl; have va5 := y2'.get 5 _ rfl; have va6 := y2'.get 6 _ rfl; have va7 := y2'.get 7 _ rfl; have va8 := y2'.get 8 _ rfl; have va9 := y2'.get 9 _ rfl; have va10 := y2'.get 10 _ rfl; have va11 := y2'.get 11 _ rfl
  have vf0 := y2'.free 0; have vf1 := y2'.free 1; have vf2 := y2'.free 2; have vf3 := y2'.free 3; have vf4 := y2'.free 4; have vf5 := y2'.free 5; have vf6 := y2'.free 6; have vf7 := y2'.free 7; have vf8 := y2'.free 8; have vf9 := y2'.free 9; have vf10 := y2'.free 10; have vf11 := y2'.free 11
  have oo0 := hid (x6.get 0 _ rfl); have oo1 := hid (x6.get 1 _ rfl); have oo2 := hid (x6.get 2 _ rfl); have oo3 := hid (x6.get 3 _ rfl); have oo4 := hid (x6.get 4 _ rfl); have oo5 := hid (x6.get 5 _ rfl); have oo6 := hid (x6.get 6 _ rfl); have oo7 := hid (x6.get 7 _ rfl); have oo8 := hid (x6.get 8 _ rfl); have oo9 := hid (x6.get 9 _ rfl); have oo10 := hid (x6.get 10 _ rfl); have oo11 := hid (x6.get 11 _ rfl)
  have HF := hid (And.intro k5 k6)
  clear x6 k6 k5 y2' aL hb
  go_wp2_with fail
  refine bodyPost_ret (v := .tuple #[.agg #[.pointer (some ⟨dp, 0, none⟩), .pointer lq, .int .i64 room3, .int .i64 steps3, .slice fa3 lx3.length fc3, .bool armed3, .bool dead3, .int .i64 left3, .string ⟨gn3.toArray⟩, .slice ga3 gl3.length gc3, .int .i64 gs3, .bool (z == 0)], .bool true]) (by simp [results, Tryz.results8, go_sem, oo0.out, oo1.out, oo2.out, oo3.out, oo4.out, oo5.out, oo6.out, oo7.out, oo8.out, oo9.out, oo10.out, oo11.out]) rfl ?_
  have k36 : Kp [W.heap.size + 1 + 1] W3 W6 := ((HC.out.2.2.trans HF.out.1 (by simp)).mono (by simp)).trans HF.out.2 (fun x hx => .inl hx)
  have kW6 : Kp S2 W W6 := ((((hk1.out.mono (by simp)).trans HY.out.2.2.1 (fun x hx => .inl hx)).trans HC.out.2.1 (by simp)).trans HF.out.1 (by simp)).trans HF.out.2 (fun x hx => .inr (by simp at hx; omega))
  have z6 := k36.size
  exact ⟨dp, lq, ⟨room3, steps3, fa3, fc3, lx3, armed3, dead3, left3⟩, ⟨gn3, ga3, gc3, gl3, gs3⟩, (z == 0), rfl, HSt.out.keepS k36 (by simp) (fun j hj => ⟨.inl (by simp [hj]), by have := hXl.out j hj; omega⟩), S2, kW6, fun k hk => ⟨fun hx => (HY.out.2.2.2 k hk).2.1 (by simp [hx]), (HY.out.2.2.2 k hk).2.2⟩⟩
end Go.Proofs.YtpkoikennimonaaGreatDoor
end

section
namespace Go.Proofs.YtpkoikennimonaaGreatDoor
open Go.RowKit Go.Hay
set_option linter.unusedVariables false
set_option linter.unusedSimpArgs false
variable {Q : Prop}

set_option maxHeartbeats 16000000 in
set_option maxRecDepth 100000 in
theorem cStepN {w W : World} {dp : Nat} {lp : Option Addr} {r : RD} {g : RL} {K s : Nat} {X : List Nat} (h : StZ Q w W dp lp r g false K s X) (o : OpZ) (h2 : o.kind ≠ 2) (h3 : o.kind ≠ 3) (h4 : o.kind ≠ 4) (h5 : o.kind ≠ 5) :
    Calls Tryz.prog 8 #[LWv dp lp r g false, o.v] W (StepP Q w X (K) (s + 0) W) := by
  obtain ⟨W1, e1, k1, z1, x0, x1, x2⟩ := boxStep dp lp r g false o W
  have hXl : Hid (∀ k ∈ X, k < W.heap.size) := by
    obtain ⟨mb, xs, d, _, _, _, _, _, _, _, _, h9⟩ := h
    exact fun k hk => (h9 k hk).1
  have hkw := h.kp
  have hwz := hkw.size
  have h' := h.keepS (X' := (W.heap.size) :: (W.heap.size + 1) :: (W.heap.size + 1 + 1) :: X) k1 (by simp) (fun j hj => by
    simp only [List.mem_cons] at hj
    rcases hj with rfl | rfl | rfl | hj
    · exact ⟨.inr (Nat.le_refl _), by omega⟩
    · exact ⟨.inr (by omega), by omega⟩
    · exact ⟨.inr (by omega), by omega⟩
    · exact ⟨.inl hj, by have := hXl.out j hj; omega⟩)
  have HB := hid (And.intro x0 (And.intro x1 x2))
  have hk1 := hid k1
  have HS := hid h'
  have d2 : (o.kind == 2) = false := by simpa using h2
  have d3 : (o.kind == 3) = false := by simpa using h3
  have d4 : (o.kind == 4) = false := by simpa using h4
  have d5 : (o.kind == 5) = false := by simpa using h5
  have o0 := x1.get 0 _ rfl
  have yr := x2
  have pc0 := x0.get 0 _ rfl; have pc1 := x0.get 1 _ rfl; have pc2 := x0.get 2 _ rfl; have pc3 := x0.get 3 _ rfl; have pc4 := x0.get 4 _ rfl; have pc5 := x0.get 5 _ rfl; have pc6 := x0.get 6 _ rfl; have pc7 := x0.get 7 _ rfl; have pc8 := x0.get 8 _ rfl; have pc9 := x0.get 9 _ rfl; have pc10 := x0.get 10 _ rfl; have pc11 := x0.get 11 _ rfl
  obtain ⟨W9, e9, x9, k9⟩ := yr.set12 rfl (.pointer (some ⟨dp, 0, none⟩)) (.pointer lp) (.int .i64 r.room) (.int .i64 r.steps) (.slice r.fa r.l.length r.fc) (.bool r.armed) (.bool r.dead) (.int .i64 r.left) (.string ⟨g.nm.toArray⟩) (.slice g.a g.l.length g.c) (.int .i64 g.sz) (.bool false)
  have va0 := yr.get 0 _ rfl; have va1 := yr.get 1 _ rfl; have va2 := yr.get 2 _ rfl; have va3 := yr.get 3 _ rfl; have va4 := yr.get 4 _ rfl; have va5 := yr.get 5 _ rfl; have va6 := yr.get 6 _ rfl; have va7 := yr.get 7 _ rfl; have va8 := yr.get 8 _ rfl; have va9 := yr.get 9 _ rfl; have va10 := yr.get 10 _ rfl; have va11 := yr.get 11 _ rfl
  have vf0 := yr.free 0; have vf1 := yr.free 1; have vf2 := yr.free 2; have vf3 := yr.free 3; have vf4 := yr.free 4; have vf5 := yr.free 5; have vf6 := yr.free 6; have vf7 := yr.free 7; have vf8 := yr.free 8; have vf9 := yr.free 9; have vf10 := yr.free 10; have vf11 := yr.free 11
  have oo0 := hid (x9.get 0 _ rfl); have oo1 := hid (x9.get 1 _ rfl); have oo2 := hid (x9.get 2 _ rfl); have oo3 := hid (x9.get 3 _ rfl); have oo4 := hid (x9.get 4 _ rfl); have oo5 := hid (x9.get 5 _ rfl); have oo6 := hid (x9.get 6 _ rfl); have oo7 := hid (x9.get 7 _ rfl); have oo8 := hid (x9.get 8 _ rfl); have oo9 := hid (x9.get 9 _ rfl); have oo10 := hid (x9.get 10 _ rfl); have oo11 := hid (x9.get 11 _ rfl)
  have K9 := hid k9
  clear x9 k9
  clear h h' x0 x1 x2 k1 yr h2 h3 h4 h5
  obtain ⟨kind, on, oa, oc, ol, oka, okc, oks⟩ := o
  obtain ⟨room3, steps3, fa3, fc3, lx3, armed3, dead3, left3⟩ := r
  obtain ⟨gn3, ga3, gc3, gl3, gs3⟩ := g
  simp only [LWv, OpZ.v] at *
  go_enter Tryz.func8, Tryz.ntmps8
  go_wp2_with fail
  refine bodyPost_ret (v := .tuple #[.agg #[.pointer (some ⟨dp, 0, none⟩), .pointer lp, .int .i64 room3, .int .i64 steps3, .slice fa3 lx3.length fc3, .bool armed3, .bool dead3, .int .i64 left3, .string ⟨gn3.toArray⟩, .slice ga3 gl3.length gc3, .int .i64 gs3, .bool false], .bool true]) (by simp [results, Tryz.results8, go_sem, oo0.out, oo1.out, oo2.out, oo3.out, oo4.out, oo5.out, oo6.out, oo7.out, oo8.out, oo9.out, oo10.out, oo11.out]) rfl ?_
  have kW9 : Kp [] W W9 := hk1.out.trans K9.out (fun x hx => .inr (by simp at hx; omega))
  have z9 := K9.out.size
  exact ⟨dp, lp, ⟨room3, steps3, fa3, fc3, lx3, armed3, dead3, left3⟩, ⟨gn3, ga3, gc3, gl3, gs3⟩, false, rfl, HS.out.keepS K9.out (by simp) (fun j hj => ⟨.inl (by simp [hj]), by have := hXl.out j hj; omega⟩), [], kW9, by simp⟩
set_option maxHeartbeats 16000000 in
set_option maxRecDepth 100000 in
theorem cStep4 {w W : World} {dp : Nat} {lp : Option Addr} {r : RD} {g : RL} {up : Bool} {K s : Nat} {X : List Nat} (h : StZ False w W dp lp r g up K s X) (o : OpZ) (hk : o.kind = 4) (hn0 : -9223372036854775808 ≤ o.n) (hn1 : o.n < 9223372036854775808) :
    Calls Tryz.prog 8 #[LWv dp lp r g up, o.v] W (StepP False w X (K) (s + 0) W) := by
  obtain ⟨W1, e1, k1, z1, x0, x1, x2⟩ := boxStep dp lp r g up o W
  have hXl : Hid (∀ k ∈ X, k < W.heap.size) := by
    obtain ⟨mb, xs, d, _, _, _, _, _, _, _, _, h9⟩ := h
    exact fun k hk => (h9 k hk).1
  have hkw := h.kp
  have hwz := hkw.size
  have h' := h.keepS (X' := (W.heap.size) :: (W.heap.size + 1) :: (W.heap.size + 1 + 1) :: X) k1 (by simp) (fun j hj => by
    simp only [List.mem_cons] at hj
    rcases hj with rfl | rfl | rfl | hj
    · exact ⟨.inr (Nat.le_refl _), by omega⟩
    · exact ⟨.inr (by omega), by omega⟩
    · exact ⟨.inr (by omega), by omega⟩
    · exact ⟨.inl hj, by have := hXl.out j hj; omega⟩)
  have HB := hid (And.intro x0 (And.intro x1 x2))
  have hk1 := hid k1
  have aA := hid (h'.arm (Kp.refl _ _) o.n hn0 hn1)
  have c0 := x0.get 0 _ rfl
  have o0 := x1.get 0 _ rfl
  have o1 := x1.get 1 _ rfl
  rw [hk] at o0
  clear h h' x0 x1 x2 k1
  obtain ⟨kind, on, oa, oc, ol, oka, okc, oks⟩ := o
  simp only at hk
  subst hk
  simp only [LWv, OpZ.v] at *
  go_enter Tryz.func8, Tryz.ntmps8
  go_wp2_with fail
  refine aA.out.mono ?_
  rintro e W2 ⟨rfl, ⟨S2, k2, hS2⟩, hF⟩
  have hz2 := k2.size
  have n0 : W.heap.size ∉ S2 := fun hm => (hS2 _ hm).2.1 (by simp)
  have n1 : W.heap.size + 1 ∉ S2 := fun hm => (hS2 _ hm).2.1 (by simp)
  have n2 : W.heap.size + 1 + 1 ∉ S2 := fun hm => (hS2 _ hm).2.1 (by simp)
  have y0 := HB.out.1.keptS k2 n0 (by omega)
  have y1 := HB.out.2.1.keptS k2 n1 (by omega)
  have y2 := HB.out.2.2.keptS k2 n2 (by omega)
  have aF := hid (hF W2 (Kp.refl _ _))
  have HY := hid (And.intro y0 (And.intro y2 (And.intro k2 hS2)))
  have c2 := y0.get 2 _ rfl; have c3 := y0.get 3 _ rfl; have c4 := y0.get 4 _ rfl; have c5 := y0.get 5 _ rfl; have c6 := y0.get 6 _ rfl; have c7 := y0.get 7 _ rfl
  have p1 := y1.get 1 _ rfl
  simp only [RD.v] at aF
  clear aA hF k2 y0 y1 y2 c0 o1
  go_wp2_with fail
  refine aF.out.mono ?_
  rintro e W3 ⟨r3, rfl, k3, hSt⟩
  have hz3 := k3.size
  have HSt := hid hSt
  have y0 := HY.out.1.kept k3 (by omega)
  have y2 := HY.out.2.1.kept k3 (by omega)
  obtain ⟨W4, e4⟩ : ∃ Y, ((((((W3.setCell ⟨W.heap.size, 2, none⟩ (.int .i64 r3.room)).setCell ⟨W.heap.size, 3, none⟩ (.int .i64 r3.steps)).setCell ⟨W.heap.size, 4, none⟩ (.slice r3.fa r3.l.length r3.fc)).setCell ⟨W.heap.size, 5, none⟩ (.bool r3.armed)).setCell ⟨W.heap.size, 6, none⟩ (.bool r3.dead)).setCell ⟨W.heap.size, 7, none⟩ (.int .i64 r3.left)) = Y := ⟨_, rfl⟩
  have k4 : Kp [W.heap.size] W3 W4 := by rw [← e4]; exact (((((((Kp.refl _ _).setCell (by simp) _).setCell (by simp) _).setCell (by simp) _).setCell (by simp) _).setCell (by simp) _).setCell (by simp) _)
  have x4 : Bn W4 (W.heap.size) [.pointer (some ⟨dp, 0, none⟩), .pointer lp, .int .i64 r3.room, .int .i64 r3.steps, .slice r3.fa r3.l.length r3.fc, .bool r3.armed, .bool r3.dead, .int .i64 r3.left, .string ⟨g.nm.toArray⟩, .slice g.a g.l.length g.c, .int .i64 g.sz, .bool up] := by rw [← e4]; exact ((((((y0.set 2 (by simp) (.int .i64 r3.room)).set 3 (by simp) (.int .i64 r3.steps)).set 4 (by simp) (.slice r3.fa r3.l.length r3.fc)).set 5 (by simp) (.bool r3.armed)).set 6 (by simp) (.bool r3.dead)).set 7 (by simp) (.int .i64 r3.left))
  have hz4 := k4.size
  have yr := y2.keptS k4 (by simp <;> omega) (by omega)
  have m2 := y0.get 2 _ rfl; have m3 := y0.get 3 _ rfl; have m4 := y0.get 4 _ rfl; have m5 := y0.get 5 _ rfl; have m6 := y0.get 6 _ rfl; have m7 := y0.get 7 _ rfl
  have mf2 := y0.free 2; have mf3 := y0.free 3; have mf4 := y0.free 4; have mf5 := y0.free 5; have mf6 := y0.free 6; have mf7 := y0.free 7
  have pc0 := x4.get 0 _ rfl; have pc1 := x4.get 1 _ rfl; have pc2 := x4.get 2 _ rfl; have pc3 := x4.get 3 _ rfl; have pc4 := x4.get 4 _ rfl; have pc5 := x4.get 5 _ rfl; have pc6 := x4.get 6 _ rfl; have pc7 := x4.get 7 _ rfl; have pc8 := x4.get 8 _ rfl; have pc9 := x4.get 9 _ rfl; have pc10 := x4.get 10 _ rfl; have pc11 := x4.get 11 _ rfl
  obtain ⟨W9, e9, x9, k9⟩ := yr.set12 rfl (.pointer (some ⟨dp, 0, none⟩)) (.pointer lp) (.int .i64 r3.room) (.int .i64 r3.steps) (.slice r3.fa r3.l.length r3.fc) (.bool r3.armed) (.bool r3.dead) (.int .i64 r3.left) (.string ⟨g.nm.toArray⟩) (.slice g.a g.l.length g.c) (.int .i64 g.sz) (.bool up)
  have va0 := yr.get 0 _ rfl; have va1 := yr.get 1 _ rfl; have va2 := yr.get 2 _ rfl; have va3 := yr.get 3 _ rfl; have va4 := yr.get 4 _ rfl; have va5 := yr.get 5 _ rfl; have va6 := yr.get 6 _ rfl; have va7 := yr.get 7 _ rfl; have va8 := yr.get 8 _ rfl; have va9 := yr.get 9 _ rfl; have va10 := yr.get 10 _ rfl; have va11 := yr.get 11 _ rfl
  have vf0 := yr.free 0; have vf1 := yr.free 1; have vf2 := yr.free 2; have vf3 := yr.free 3; have vf4 := yr.free 4; have vf5 := yr.free 5; have vf6 := yr.free 6; have vf7 := yr.free 7; have vf8 := yr.free 8; have vf9 := yr.free 9; have vf10 := yr.free 10; have vf11 := yr.free 11
  have oo0 := hid (x9.get 0 _ rfl); have oo1 := hid (x9.get 1 _ rfl); have oo2 := hid (x9.get 2 _ rfl); have oo3 := hid (x9.get 3 _ rfl); have oo4 := hid (x9.get 4 _ rfl); have oo5 := hid (x9.get 5 _ rfl); have oo6 := hid (x9.get 6 _ rfl); have oo7 := hid (x9.get 7 _ rfl); have oo8 := hid (x9.get 8 _ rfl); have oo9 := hid (x9.get 9 _ rfl); have oo10 := hid (x9.get 10 _ rfl); have oo11 := hid (x9.get 11 _ rfl)
  have K9 := hid k9
  clear x9 k9
  have K3 := hid (And.intro k3 k4)
  clear y0 y2 x4 yr k3 k4 hSt aF c2 c3 c4 c5 c6 c7 p1
  obtain ⟨room3, steps3, fa3, fc3, lx3, armed3, dead3, left3⟩ := r3
  obtain ⟨gn, ga, gc, gl, gs⟩ := g
  simp only [RD.v, LWv] at *
  go_wp2_with fail
  refine bodyPost_ret (v := .tuple #[.agg #[.pointer (some ⟨dp, 0, none⟩), .pointer lp, .int .i64 room3, .int .i64 steps3, .slice fa3 lx3.length fc3, .bool armed3, .bool dead3, .int .i64 left3, .string ⟨gn.toArray⟩, .slice ga gl.length gc, .int .i64 gs, .bool up], .bool true]) (by simp [results, Tryz.results8, go_sem, oo0.out, oo1.out, oo2.out, oo3.out, oo4.out, oo5.out, oo6.out, oo7.out, oo8.out, oo9.out, oo10.out, oo11.out]) rfl ?_
  have z9 := K9.out.size
  have k39 : Kp [W.heap.size, W.heap.size + 1 + 1] W3 W9 := (K3.out.2.mono (fun x hx => .inl (by simp at hx; simp [hx]))).trans K9.out (fun x hx => .inl (by simp at hx; simp [hx]))
  have kW9 : Kp S2 W W9 := (((hk1.out.mono (by simp)).trans HY.out.2.2.1 (fun x hx => .inl hx)).trans K3.out.1 (by simp)).trans k39 (fun x hx => .inr (by simp at hx; omega))
  exact ⟨dp, lp, ⟨room3, steps3, fa3, fc3, lx3, armed3, dead3, left3⟩, ⟨gn, ga, gc, gl, gs⟩, up, rfl, HSt.out.keepS k39 (fun j hj => by simp at hj; rcases hj with rfl | rfl <;> simp) (fun j hj => ⟨.inl (by simp [hj]), by have := hXl.out j hj; omega⟩), S2, kW9, fun k hk => ⟨fun hx => (HY.out.2.2.2 k hk).2.1 (by simp [hx]), (HY.out.2.2.2 k hk).2.2⟩⟩
end Go.Proofs.YtpkoikennimonaaGreatDoor
end

section
namespace Go.Proofs.YtpkoikennimonaaGreatDoor
open Go.RowKit Go.Hay
set_option linter.unusedVariables false
set_option linter.unusedSimpArgs false
variable {Q : Prop}

set_option maxHeartbeats 16000000 in
set_option maxRecDepth 100000 in
theorem cStep0 {w W : World} {dp : Nat} {lp : Option Addr} {r : RD} {g : RL} {K s : Nat} {X : List Nat} (h : StZ Q w W dp lp r g true K s X) (o : OpZ) (hk : o.kind = 0) (hK : K ≤ 400000000) (hs : s ≤ 6000000000000000000) (hT : Tab w) (hR : ∀ X, Kp [] w X → BsE.See X o.a o.l ∧ ∀ y ∈ o.l, y.ok X) (hRa : o.l ≠ [] → ∀ k ∈ blk o.a, k < w.heap.size) (hRf : ∀ k ∈ rft o.l, k < w.heap.size) (hRl : o.l.length ≤ 400000000) (hRw : ∀ y ∈ o.l, y.bs.length ≤ 140737488351232) :
    Calls Tryz.prog 8 #[LWv dp lp r g true, o.v] W (StepP Q w X (K + (frmR (bsl o.l)).1.length + o.l.length) (s + 2) W) := by
  obtain ⟨W1, e1, k1, z1, x0, x1, x2⟩ := boxStep dp lp r g true o W
  have hXl : Hid (∀ k ∈ X, k < W.heap.size) := by
    obtain ⟨mb, xs, d, _, _, _, _, _, _, _, _, h9⟩ := h
    exact fun k hk => (h9 k hk).1
  have hkw := h.kp
  have hwz := hkw.size
  have h' := h.keepS (X' := (W.heap.size) :: (W.heap.size + 1) :: (W.heap.size + 1 + 1) :: X) k1 (by simp) (fun j hj => by
    simp only [List.mem_cons] at hj
    rcases hj with rfl | rfl | rfl | hj
    · exact ⟨.inr (Nat.le_refl _), by omega⟩
    · exact ⟨.inr (by omega), by omega⟩
    · exact ⟨.inr (by omega), by omega⟩
    · exact ⟨.inl hj, by have := hXl.out j hj; omega⟩)
  have HB := hid (And.intro x0 (And.intro x1 x2))
  have hk1 := hid k1
  obtain ⟨p, rfl, aP⟩ := h'.app (Kp.refl _ _) hK hs hT o.a o.c o.l hR hRa hRf hRl hRw
  have aA := hid aP
  have c1 := x0.get 1 _ rfl
  have u11 := x0.get 11 _ rfl
  have o0 := x1.get 0 _ rfl
  have o2 := x1.get 2 _ rfl
  rw [hk] at o0
  clear h h' x0 x1 x2 k1 aP hR hRa hRf hRl hRw
  obtain ⟨kind, on, oa, oc, ol, oka, okc, oks⟩ := o
  simp only at hk
  subst hk
  simp only [LWv, OpZ.v] at *
  go_enter Tryz.func8, Tryz.ntmps8
  go_wp2_with fail
  refine aA.out.mono ?_
  rintro e W2 ⟨z, rfl, ⟨S2, k2, hS2⟩, hF⟩
  have hz2 := k2.size
  have n0 : W.heap.size ∉ S2 := fun hm => (hS2 _ hm).2.1 (by simp)
  have n1 : W.heap.size + 1 ∉ S2 := fun hm => (hS2 _ hm).2.1 (by simp)
  have n2 : W.heap.size + 1 + 1 ∉ S2 := fun hm => (hS2 _ hm).2.1 (by simp)
  have y0 := HB.out.1.keptS k2 n0 (by omega)
  have y1 := HB.out.2.1.keptS k2 n1 (by omega)
  have y2 := HB.out.2.2.keptS k2 n2 (by omega)
  have aF := hid (hF W2 (Kp.refl _ _))
  have HY := hid (And.intro y0 (And.intro y2 (And.intro k2 hS2)))
  have c2 := y0.get 2 _ rfl; have c3 := y0.get 3 _ rfl; have c4 := y0.get 4 _ rfl; have c5 := y0.get 5 _ rfl; have c6 := y0.get 6 _ rfl; have c7 := y0.get 7 _ rfl; have c8 := y0.get 8 _ rfl; have c9 := y0.get 9 _ rfl; have c10 := y0.get 10 _ rfl
  have p2 := y1.get 2 _ rfl
  simp only [RD.v, RL.v] at aF
  clear aA hF k2 y0 y1 y2 c1 o2 u11
  go_wp2_with fail
  refine aF.out.mono ?_
  rintro e W3 ⟨r3, g3, rfl, k3, hSt⟩
  have hz3 := k3.size
  have HSt := hid hSt
  have y0 := HY.out.1.kept k3 (by omega)
  have y2 := HY.out.2.1.kept k3 (by omega)
  obtain ⟨W4, e4⟩ : ∃ Y, ((((((W3.setCell ⟨W.heap.size, 2, none⟩ (.int .i64 r3.room)).setCell ⟨W.heap.size, 3, none⟩ (.int .i64 r3.steps)).setCell ⟨W.heap.size, 4, none⟩ (.slice r3.fa r3.l.length r3.fc)).setCell ⟨W.heap.size, 5, none⟩ (.bool r3.armed)).setCell ⟨W.heap.size, 6, none⟩ (.bool r3.dead)).setCell ⟨W.heap.size, 7, none⟩ (.int .i64 r3.left)) = Y := ⟨_, rfl⟩
  have k4 : Kp [W.heap.size] W3 W4 := by rw [← e4]; exact (((((((Kp.refl _ _).setCell (by simp) _).setCell (by simp) _).setCell (by simp) _).setCell (by simp) _).setCell (by simp) _).setCell (by simp) _)
  have x4 : Bn W4 (W.heap.size) [.pointer (some ⟨dp, 0, none⟩), .pointer (some ⟨p, 0, none⟩), .int .i64 r3.room, .int .i64 r3.steps, .slice r3.fa r3.l.length r3.fc, .bool r3.armed, .bool r3.dead, .int .i64 r3.left, .string ⟨g.nm.toArray⟩, .slice g.a g.l.length g.c, .int .i64 g.sz, .bool true] := by rw [← e4]; exact ((((((y0.set 2 (by simp) (.int .i64 r3.room)).set 3 (by simp) (.int .i64 r3.steps)).set 4 (by simp) (.slice r3.fa r3.l.length r3.fc)).set 5 (by simp) (.bool r3.armed)).set 6 (by simp) (.bool r3.dead)).set 7 (by simp) (.int .i64 r3.left))
  have hz4 := k4.size
  obtain ⟨W5, e5⟩ : ∃ Y, (((W4.setCell ⟨W.heap.size, 8, none⟩ (.string ⟨g3.nm.toArray⟩)).setCell ⟨W.heap.size, 9, none⟩ (.slice g3.a g3.l.length g3.c)).setCell ⟨W.heap.size, 10, none⟩ (.int .i64 g3.sz)) = Y := ⟨_, rfl⟩
  have k5 : Kp [W.heap.size] W4 W5 := by rw [← e5]; exact ((((Kp.refl _ _).setCell (by simp) _).setCell (by simp) _).setCell (by simp) _)
  have x5 : Bn W5 (W.heap.size) [.pointer (some ⟨dp, 0, none⟩), .pointer (some ⟨p, 0, none⟩), .int .i64 r3.room, .int .i64 r3.steps, .slice r3.fa r3.l.length r3.fc, .bool r3.armed, .bool r3.dead, .int .i64 r3.left, .string ⟨g3.nm.toArray⟩, .slice g3.a g3.l.length g3.c, .int .i64 g3.sz, .bool true] := by rw [← e5]; exact (((x4.set 8 (by simp) (.string ⟨g3.nm.toArray⟩)).set 9 (by simp) (.slice g3.a g3.l.length g3.c)).set 10 (by simp) (.int .i64 g3.sz))
  have hz5 := k5.size
  have yr := (y2.keptS k4 (by simp <;> omega) (by omega)).keptS k5 (by simp <;> omega) (by omega)
  have m2 := y0.get 2 _ rfl; have m3 := y0.get 3 _ rfl; have m4 := y0.get 4 _ rfl; have m5 := y0.get 5 _ rfl; have m6 := y0.get 6 _ rfl; have m7 := y0.get 7 _ rfl
  have mf2 := y0.free 2; have mf3 := y0.free 3; have mf4 := y0.free 4; have mf5 := y0.free 5; have mf6 := y0.free 6; have mf7 := y0.free 7
  have m8 := x4.get 8 _ rfl; have m9 := x4.get 9 _ rfl; have m10 := x4.get 10 _ rfl
  have mf8 := x4.free 8; have mf9 := x4.free 9; have mf10 := x4.free 10
  have pc0 := x5.get 0 _ rfl; have pc1 := x5.get 1 _ rfl; have pc2 := x5.get 2 _ rfl; have pc3 := x5.get 3 _ rfl; have pc4 := x5.get 4 _ rfl; have pc5 := x5.get 5 _ rfl; have pc6 := x5.get 6 _ rfl; have pc7 := x5.get 7 _ rfl; have pc8 := x5.get 8 _ rfl; have pc9 := x5.get 9 _ rfl; have pc10 := x5.get 10 _ rfl; have pc11 := x5.get 11 _ rfl
  obtain ⟨W9, e9, x9, k9⟩ := yr.set12 rfl (.pointer (some ⟨dp, 0, none⟩)) (.pointer (some ⟨p, 0, none⟩)) (.int .i64 r3.room) (.int .i64 r3.steps) (.slice r3.fa r3.l.length r3.fc) (.bool r3.armed) (.bool r3.dead) (.int .i64 r3.left) (.string ⟨g3.nm.toArray⟩) (.slice g3.a g3.l.length g3.c) (.int .i64 g3.sz) (.bool true)
  have va0 := yr.get 0 _ rfl; have va1 := yr.get 1 _ rfl; have va2 := yr.get 2 _ rfl; have va3 := yr.get 3 _ rfl; have va4 := yr.get 4 _ rfl; have va5 := yr.get 5 _ rfl; have va6 := yr.get 6 _ rfl; have va7 := yr.get 7 _ rfl; have va8 := yr.get 8 _ rfl; have va9 := yr.get 9 _ rfl; have va10 := yr.get 10 _ rfl; have va11 := yr.get 11 _ rfl
  have vf0 := yr.free 0; have vf1 := yr.free 1; have vf2 := yr.free 2; have vf3 := yr.free 3; have vf4 := yr.free 4; have vf5 := yr.free 5; have vf6 := yr.free 6; have vf7 := yr.free 7; have vf8 := yr.free 8; have vf9 := yr.free 9; have vf10 := yr.free 10; have vf11 := yr.free 11
  have oo0 := hid (x9.get 0 _ rfl); have oo1 := hid (x9.get 1 _ rfl); have oo2 := hid (x9.get 2 _ rfl); have oo3 := hid (x9.get 3 _ rfl); have oo4 := hid (x9.get 4 _ rfl); have oo5 := hid (x9.get 5 _ rfl); have oo6 := hid (x9.get 6 _ rfl); have oo7 := hid (x9.get 7 _ rfl); have oo8 := hid (x9.get 8 _ rfl); have oo9 := hid (x9.get 9 _ rfl); have oo10 := hid (x9.get 10 _ rfl); have oo11 := hid (x9.get 11 _ rfl)
  have K9 := hid k9
  clear x9 k9
  have K3 := hid (And.intro k3 (k4.trans k5 (fun x hx => .inl hx)))
  have tz : (z == z) = true := by simp
  clear y0 y2 x4 x5 yr k3 k4 k5 hSt aF c2 c3 c4 c5 c6 c7 c8 c9 c10 p2
  obtain ⟨room3, steps3, fa3, fc3, lx3, armed3, dead3, left3⟩ := r3
  obtain ⟨gn3, ga3, gc3, gl3, gs3⟩ := g3
  simp only [RD.v, RL.v, LWv] at *
  go_wp2_with fail
  refine bodyPost_ret (v := .tuple #[.agg #[.pointer (some ⟨dp, 0, none⟩), .pointer (some ⟨p, 0, none⟩), .int .i64 room3, .int .i64 steps3, .slice fa3 lx3.length fc3, .bool armed3, .bool dead3, .int .i64 left3, .string ⟨gn3.toArray⟩, .slice ga3 gl3.length gc3, .int .i64 gs3, .bool true], .bool true]) (by simp [results, Tryz.results8, go_sem, oo0.out, oo1.out, oo2.out, oo3.out, oo4.out, oo5.out, oo6.out, oo7.out, oo8.out, oo9.out, oo10.out, oo11.out]) rfl ?_
  have z9 := K9.out.size
  have k39 : Kp [W.heap.size, W.heap.size + 1 + 1] W3 W9 := (K3.out.2.mono (fun x hx => .inl (by simp at hx; simp [hx]))).trans K9.out (fun x hx => .inl (by simp at hx; simp [hx]))
  have kW9 : Kp S2 W W9 := (((hk1.out.mono (by simp)).trans HY.out.2.2.1 (fun x hx => .inl hx)).trans K3.out.1 (by simp)).trans k39 (fun x hx => .inr (by simp at hx; omega))
  exact ⟨dp, some ⟨p, 0, none⟩, ⟨room3, steps3, fa3, fc3, lx3, armed3, dead3, left3⟩, ⟨gn3, ga3, gc3, gl3, gs3⟩, true, rfl, HSt.out.keepS k39 (fun j hj => by simp at hj; rcases hj with rfl | rfl <;> simp) (fun j hj => ⟨.inl (by simp [hj]), by have := hXl.out j hj; omega⟩), S2, kW9, fun k hk => ⟨fun hx => (HY.out.2.2.2 k hk).2.1 (by simp [hx]), (HY.out.2.2.2 k hk).2.2⟩⟩
end Go.Proofs.YtpkoikennimonaaGreatDoor
end

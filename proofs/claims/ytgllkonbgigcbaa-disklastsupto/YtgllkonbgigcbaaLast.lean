/- Whatever happens, a crash at any moment leaves of each file a beginning of what could be read, and at least what was there when it was last synced: the law answers true, for every room, all that may be kept and all scripts that hold together at most 1048576 values. -/
import Derived.Test.YtgllkonbgigcbaaB13
import Derived.Test.YtgllkonbgigcbaaB9
import Derived.SizedLaws
import Derived.JoinedCond
import Derived.Deep.CondSized
section
namespace Go.Proofs.Ytgllkonbgigcbaa
open Go.RowKit Go.Hay
set_option linter.unusedVariables false
set_option linter.unusedSimpArgs false

/-- The reference, in a variable's box. -/
def RB (w : World) (q : Nat) (r : RD) : Prop := B6 w q (.int .i64 r.room) (.int .i64 r.steps) (.slice r.fa r.l.length r.fc) (.bool r.armed) (.bool r.dead) (.int .i64 r.left)
theorem append_full {d : Dk} {name b : List UInt8} (h : (b.length : Int) > freeD d) : (appendD d name b).1 = d := by
  unfold appendD
  split
  · rfl
  split
  · rfl
  · first | rfl | (simp only [if_pos h])
theorem stp_full {d : Dk} {o : DOp} (h0 : o.kind = 0) (h : (o.b.bs.length : Int) > freeD d) : stpD d o = d := by
  unfold stpD chD chgD
  simp only [h0, if_true, if_false, Int.reduceEq, or_self]
  exact append_full h
/-- How it stands behind j calls. -/
def FullI (W : World) (p mb q R : Nat) (l : List DOp) (j : Nat) (wn : World) : Prop :=
  ∃ (d : Dk) (xs : List Ent) (r : RD), Pr W wn p mb xs r d ∧ Lw (sumB (l.take j)) j d ∧ d.steps ≤ j ∧ d.room = R ∧ RB wn q r ∧ q ∉ foot p mb xs ∧ q ∉ r.foot
/-- Behind a call of stepped, and the store of the reference. -/
theorem prStored {W w3 w4 w5 : World} {p mb q : Nat} {xs xs' : List Ent} {r r' : RD} {d d' : Dk} (P : Pr W w3 p mb xs r d) (hq : q < w3.heap.size) (hW : W.heap.size ≤ q) (hqf : q ∉ foot p mb xs) (hqr : q ∉ r.foot)
    (hD : Disk w4 p mb xs' d') (hR : RdOk w4 r') (hL : Like r' d') (mv : Mv (foot p mb xs) w3 (foot p mb xs') w4) (n2 : ∀ k ∈ r'.foot, k ∈ r.foot ∨ w3.heap.size ≤ k) (n3 : ∀ k ∈ r'.foot, k ∉ foot p mb xs') (k5 : Kp [q] w4 w5) :
    Pr W w5 p mb xs' r' d' ∧ q ∉ foot p mb xs' ∧ q ∉ r'.foot := by
  have h1 : q ∉ foot p mb xs' := fun h => by
    rcases mv.new q h with h | h
    · exact hqf h
    · omega
  have h2 : q ∉ r'.foot := fun h => by
    rcases n2 q h with h | h
    · exact hqr h
    · omega
  exact ⟨(P.step hD hR hL mv.kp mv.new n3).keepS k5 (by simpa using h1) (by simpa using h2) (by simpa using hW), h1, h2⟩
set_option maxHeartbeats 16000000 in
set_option maxRecDepth 100000 in
theorem fullWalk (room : Int) (hroom : room < 9223372036854775808) (a : Option Addr) (c : Nat) (l : List DOp) (W : World) (hs1 : DOpE.See W a l) (hok1 : ∀ o ∈ l, o.ok W) (hb1 : sumB l ≤ 1048576) (hn1 : l.length ≤ 1048576) :
    Calls Try.prog 6 #[.int .i64 room, .slice a l.length c] W (fun e W' => e = .returned (.bool true) ∧ Kp [] W W') := by
  go_enter Try.func6, Try.ntmps6
  go_wp2_with fail
  refine (cBegun room W hroom).mono ?_
  rintro e w1 ⟨p, mb, rfl, hD1, k1, hp, hmb⟩
  have a2 := cRefNew room w1 hroom
  go_wp2_with fail
  refine a2.mono ?_
  rintro e w2 ⟨v, rfl, r, rfl, hr2, hL2, k2, hft2⟩
  obtain ⟨w3, hw3, k3, rb3, hsz3⟩ := boxR r w2
  have hlt1 := hD1.lt
  have P3 : Pr W w3 p mb [] r (newD room) := ⟨(hD1.keptNew k2).keptNew k3, hr2.keptNew k3, hL2, (k1.trans k2 (by simp)).trans k3 (by simp), fun k hk => by simp [foot] at hk; omega, fun k hk h => by
    have := hlt1 k h
    rcases hft2 k hk with h1 | h1
    · cases h1
    · omega⟩
  obtain ⟨q, hq⟩ : ∃ q, q = w2.heap.size := ⟨_, rfl⟩
  have hqW : W.heap.size ≤ q := by have := k1.size; have := k2.size; omega
  have A0 : FullI W p mb q room.toNat l 0 w3 := ⟨newD room, [], r, P3, ⟨by simp [newD, sumF], by simp [newD]⟩, by simp [newD], rfl, by rw [hq]; exact rb3, fun h => by have := hlt1 q h; have := k2.size; omega, fun h => by have := hr2.lt q h; omega⟩
  obtain ⟨R, hR⟩ : ∃ R, R = room.toNat := ⟨_, rfl⟩
  rw [← hR] at A0
  have hRm : (R : Int) ≤ max room 0 := by omega
  have hw3' := hid hw3
  have hq' := hid hq
  obtain ⟨room', steps', fa', fc', l', armed', dead', left'⟩ := r
  simp only [RD.v] at *
  clear P3 hD1 k1 k2 k3 rb3 hr2 hL2 hft2 hlt1 hR hw3 hq a2
  go_wp2_with fail
  rw [hw3'.out, ← hq'.out]
  clear hw3' hq'
  go_loopw [23] (fun i wn => ∃ j : Nat, j ≤ l.length ∧ i = .int .i64 j ∧ FullI W p mb q R l j wn) (fun i _ => l.length - (intOf i).toNat)
  case atStart => exact ⟨0, Nat.zero_le _, rfl, A0⟩
  case round =>
    clear A0
    obtain ⟨j, hj, rfl, hA⟩ := hrel
    by_cases hjl : j < l.length
    · obtain ⟨o, ho⟩ : ∃ o, l[j]? = some o := ⟨l[j], by simp [hjl]⟩
      have hom := List.mem_of_getElem? ho
      have hso := hid (sumB_take ho)
      have hsl := sumB_le l (j + 1)
      obtain ⟨d, xs, r, P, low, hsj, hrm, rb, hqf, hqr⟩ := hA
      have hrm := hid hrm
      obtain ⟨g, f, rfl, x0, x1, x2, x3, x4, x5, x6⟩ := dopAt (hs1.keptNew P.kp) ho
      obtain ⟨wb, hwb, kb, hop, hqb⟩ := box7 o wr
      have Pb := P.keep kb
      have hqlt : q < wr.heap.size := rb.lt
      have hwq : wr.heap.size ∉ foot p mb xs := fun h => by have := P.D.lt _ h; omega
      have hop0 := hop
      obtain ⟨y0, y1, y2, y3, y4, y5, y6⟩ := hop0
      have hwb' := hid hwb
      have hoW := hok1 o hom
      clear hwb ho
      by_cases hko : 8 < o.kind
      · have hfin1 : Hid (FullI W p mb q R l (j + 1) wb) := ⟨d, xs, r, Pb, low.mono (by have := hso.out; omega) (by omega), by omega, hrm.out, rb.kept kb, hqf, hqr⟩
        clear P Pb hop rb
        go_wp2_with fail
        rw [hwb'.out]
        exact ⟨⟨j + 1, by omega, by go_num, hfin1.out⟩, by simp [intOf]; omega⟩
      · have a1 := cFree Pb.D
        obtain ⟨z0, hz0⟩ : ∃ z, Hid (z = freeD d) := ⟨_, rfl⟩
        rw [← hz0.out] at a1
        go_wp2_with fail
        rw [hwb'.out]
        clear x0 x1 x2 x3 x4 x5 x6
        go_wp2_with fail
        refine a1.mono ?_
        rintro e w2 ⟨rfl, k2⟩
        have P2 := Pb.keep k2
        have hNx : xs.length ≤ 1000000000000 := by have := len_of P.D; have := low.len; omega
        have a2 := cNames P2.D hNx
        obtain ⟨n, hnx0⟩ : ∃ n, Hid (n = xs.length) := ⟨_, rfl⟩
        have hnxl : n ≤ 1000000000000 := by have := hnx0.out; omega
        go_wp2_with fail
        refine a2.mono ?_
        rintro e w3 ⟨na, nc, rfl, _, k3⟩
        have hnx := hnx0.out
        rw [← hnx]
        have P3 := P2.keep k3
        have op3 : Op7 wr.heap.size o w3 := (hop.kept k2 (by simp)).kept k3 (by simp)
        have rb3 : RB w3 q r := ((rb.kept kb).kept k2).kept k3
        obtain ⟨y0, y1, y2, y3, y4, y5, y6⟩ := op3
        have a3 := cStepped P3.D low (by omega) r P3.R P3.L P3.ap o (hoW.kept P3.kp) (by omega) (by omega) (by have := hso.out; omega) (by omega) (offPr P3 hoW)
        have hlow := lw_stp o low P.D.ok (by have := hso.out; omega)
        have hstp := stp_steps d o
        have hrm' := (stp_room d o).trans hrm.out
        have hfull : Hid (o.kind = 0 → (o.b.bs.length : Int) > z0 → stpD d o = d) := fun h0 h => stp_full h0 (by rw [← hz0.out]; exact h)
        obtain ⟨d', hd'⟩ : ∃ d', d' = stpD d o := ⟨_, rfl⟩
        rw [← hd'] at a3 hlow hstp hrm' hfull
        have hsame : Hid (d' = d → (freeD d' = z0 ∧ d'.files.length = n)) := fun h => by
          rw [h]
          exact ⟨hz0.out.symm, by rw [hnx, len_of P.D]⟩
        obtain ⟨b0, b1, b2, b3, b4, b5, bf⟩ := rb3
        have rb3' : RB w3 q r := ⟨b0, b1, b2, b3, b4, b5, bf⟩
        have hq3 : q < w3.heap.size := rb3'.lt
        obtain ⟨room', steps', fa', fc', l', armed', dead', left'⟩ := r
        simp only [RD.v, DOp.v] at *
        have hnx' := hid hnx
        have hlow' := hid hlow
        have hrm2 := hid hrm'
        have hPR := hid hrm
        clear a1 a2 P P2 Pb hop rb hnx hd' hlow hrm' hrm low
        go_wp2_with fail
        refine a3.mono ?_
        rintro e w4 ⟨r', xs', rfl, hD4, hR4, hL4, mv4, n2, n3⟩
        have bq4 := rb3'.keptS mv4.kp hqf
        obtain ⟨W5, hW5, rb5, k5⟩ := set6_ex bq4 (.int .i64 r'.room) (.int .i64 r'.steps) (.slice r'.fa r'.l.length r'.fc) (.bool r'.armed) (.bool r'.dead) (.int .i64 r'.left)
        obtain ⟨P5, hqf5, hqr5⟩ := prStored P3 hq3 hqW hqf hqr hD4 hR4 hL4 mv4 n2 n3 k5
        have op5 : Op7 wr.heap.size o W5 := ((show Op7 wr.heap.size o w3 from ⟨y0, y1, y2, y3, y4, y5, y6⟩).kept mv4.kp hwq).kept k5 (by simp; omega)
        have hz1 : 0 ≤ freeD d' := by have := hD4.ok.sum; unfold freeD; omega
        have hz2 : freeD d' ≤ max room 0 := by have := hrm2.out; unfold freeD; omega
        have a4 := cFree P5.D
        have hN5 : xs'.length ≤ 1000000000000 := by have := len_of hD4; have := hlow'.out.len; omega
        have hN5' := hid (len_of hD4)
        have hfin5 : Hid (∀ w', Kp [] W5 w' → FullI W p mb q R l (j + 1) w') := fun w' k' => ⟨d', xs', r', P5.keep k', by rw [hso.out]; exact hlow'.out, by omega, hrm2.out, B6.kept rb5 k', hqf5, hqr5⟩
        obtain ⟨z, hz⟩ : ∃ z, z = freeD d' := ⟨_, rfl⟩
        rw [← hz] at a4 hz1 hz2 hsame
        have hz' := hid hz
        obtain ⟨q0, q1, q2, q3, q4, q5, qf⟩ := bq4
        have g0 := qf 0; have g1 := qf 1; have g2 := qf 2; have g3 := qf 3; have g4 := qf 4; have g5 := qf 5
        obtain ⟨room', steps', fa', fc', l', armed', dead', left'⟩ := r'
        simp only [RD.v] at *
        have hW5' := hid hW5
        clear hW5 a3 y0 y1 y2 y3 y4 y5 y6 b0 b1 b2 b3 b4 b5 hz P3 hD4 hR4 hL4 n2 n3 rb3' rb5
        go_wp2_with fail
        rw [hW5'.out]
        clear q0 q1 q2 q3 q4 q5 g0 g1 g2 g3 g4 g5 hW5' qf
        go_wp2_with fail
        refine a4.mono ?_
        rintro e w6 ⟨rfl, k6⟩
        have P6 := P5.keep k6
        have a5 := cFree P6.D
        rw [← hz'.out] at a5
        go_wp2_with fail
        refine a5.mono ?_
        rintro e w7 ⟨rfl, k7⟩
        have P7 := P6.keep k7
        have k57 : Kp [] W5 w7 := k6.trans k7 (by simp)
        have op7 : Op7 wr.heap.size o w7 := op5.kept k57 (by simp)
        obtain ⟨y0, y1, y2, y3, y4, y5, y6⟩ := op7
        clear a4 a5
        by_cases h0 : o.kind = 0
        · by_cases hbig : (o.b.bs.length : Int) > z0
          · obtain ⟨e1, e2⟩ := hsame.out (hfull.out h0 hbig)
            have a6 := cFree P7.D
            rw [← hz'.out, e1] at a6
            rw [h0] at y0
            have e1' := hid e1
            clear e1 h0
            go_wp2_with fail
            refine a6.mono ?_
            rintro e w8 ⟨rfl, k8⟩
            have a7 := cNames (P7.keep k8).D hN5
            go_wp2_with fail
            refine a7.mono ?_
            rintro e w9 ⟨na', nc', rfl, _, k9⟩
            rw [hN5'.out, e2]
            clear e2
            go_wp2_with fail
            exact ⟨⟨j + 1, by omega, by go_num, hfin5.out _ ((k57.trans k8 (by simp)).trans k9 (by simp))⟩, by simp [intOf]; omega⟩
          · rw [h0] at y0
            clear h0
            go_wp2_with fail
            exact ⟨⟨j + 1, by omega, by go_num, hfin5.out _ k57⟩, by simp [intOf]; omega⟩
        · have e0 : (o.kind == 0) = false := by simpa using h0
          clear h0
          go_wp2_with fail
          exact ⟨⟨j + 1, by omega, by go_num, hfin5.out _ k57⟩, by simp [intOf]; omega⟩
    · obtain ⟨d, xs, r, P, _⟩ := hA
      have kf := P.kp
      clear P
      go_wp2_with fail
      go_ret
      exact ⟨rfl, kf⟩
theorem sumB_blk (l : List DOp) : sumB l ≤ (l.map fun y => y.b.bs.length + 1).sum := by
  induction l with
  | nil => simp [sumB]
  | cons o l ih => simp only [sumB, List.map_cons, List.sum_cons] at *; omega
theorem fullWalk' (room : Int) (hroom : room < 9223372036854775808) (a : Option Addr) (c : Nat) (l1 : List DOp) (W : World) (hs1 : DOpE.See W a l1) (hok1 : ∀ o ∈ l1, o.ok W)
    (hb1 : (l1.map fun y => y.b.bs.length + 1).sum ≤ 1048576) (hn1 : l1.length ≤ 1048576) :
    Calls Try.prog 6 #[.int .i64 room, .slice a l1.length c] W (fun e W' => e = .returned (.bool true) ∧ Below W.heap.size W W') :=
  (fullWalk room hroom a c l1 W hs1 hok1 (Nat.le_trans (sumB_blk l1) hb1) hn1).mono fun e W' h => ⟨h.1, h.2.below⟩
end Go.Proofs.Ytgllkonbgigcbaa
end

section
namespace Go.Proofs.Ytgllkonbgigcbaa
open Go.RowKit Go.Hay
set_option linter.unusedVariables false
set_option linter.unusedSimpArgs false

theorem FullI.keep {W : World} {p mb q R : Nat} {l : List DOp} {j : Nat} {w w' : World} (h : FullI W p mb q R l j w) (k : Kp [] w w') : FullI W p mb q R l j w' := by
  obtain ⟨d, xs, r, P, low, hs, hr, rb, h1, h2⟩ := h
  exact ⟨d, xs, r, P.keep k, low, hs, hr, B6.kept rb k, h1, h2⟩
theorem crashF_get : ∀ (l : List Fl) (ks : List Int) (i : Nat), (crashF l ks)[i]? = l[i]?.map fun f => keptF f (ks.getD i 0)
  | [], ks, i => by simp [crashF]
  | f :: r, [], 0 => by simp [crashF]
  | f :: r, [], i + 1 => by simpa [crashF] using crashF_get r [] i
  | f :: r, k :: ks, 0 => by simp [crashF]
  | f :: r, k :: ks, i + 1 => by simpa [crashF] using crashF_get r ks i
/-- What is read of a file behind the crash. -/
theorem crash_look {d : Dk} {ks : List Int} (ho : Okd (crashD d ks)) (hod : Okd d) {i : Nat} {f : Fl} (hf : d.files[i]? = some f) : ∃ m, f.last ≤ m ∧ m ≤ f.bytes.length ∧ (lookG Fl.name f.name (crashD d ks).files).map Fl.bytes = some (f.bytes.take m) := by
  have hg := crashF_get d.files ks i
  rw [hf] at hg
  have hm : keptF f (ks.getD i 0) ∈ (crashD d ks).files := List.mem_of_getElem? hg
  have hl := lookG_mem ho.rise hm (show (keptF f (ks.getD i 0)).name = f.name from rfl)
  have hle := hod.last f (List.mem_of_getElem? hf)
  refine ⟨f.last + min (ks.getD i 0).toNat (f.bytes.length - f.last), by omega, by omega, ?_⟩
  rw [hl]
  rfl
set_option maxHeartbeats 16000000 in
set_option maxRecDepth 100000 in
theorem lastsWalk (room : Int) (hroom : room < 9223372036854775808) (a : Option Addr) (c : Nat) (l : List DOp) (ka : Option Addr) (kc : Nat) (ks : List Int) (W : World) (hs1 : DOpE.See W a l) (hok1 : ∀ o ∈ l, o.ok W) (hb1 : sumB l ≤ 1048576) (hn1 : l.length ≤ 1048576) (hks : Ints W ka ks) (hkl : ks.length ≤ kc) (hkc : kc ≤ maxLen) (hk64 : ∀ k ∈ ks, -9223372036854775808 ≤ k ∧ k < 9223372036854775808) :
    Calls Try.prog 4 #[.int .i64 room, .slice a l.length c, .slice ka ks.length kc] W (fun e W' => e = .returned (.bool true) ∧ Kp [] W W') := by
  have hkc' : kc ≤ 9223372036854775807 := by unfold maxLen at hkc; omega
  go_enter Try.func4, Try.ntmps4
  go_wp2_with fail
  refine (cBegun room W hroom).mono ?_
  rintro e w1 ⟨p, mb, rfl, hD1, k1, hp, hmb⟩
  have a2 := cRefNew room w1 hroom
  go_wp2_with fail
  refine a2.mono ?_
  rintro e w2 ⟨v, rfl, r, rfl, hr2, hL2, k2, hft2⟩
  obtain ⟨w3, hw3, k3, rb3, hsz3⟩ := boxR r w2
  have hlt1 := hD1.lt
  have P3 : Pr W w3 p mb [] r (newD room) := ⟨(hD1.keptNew k2).keptNew k3, hr2.keptNew k3, hL2, (k1.trans k2 (by simp)).trans k3 (by simp), fun k hk => by simp [foot] at hk; omega, fun k hk h => by
    have := hlt1 k h
    rcases hft2 k hk with h1 | h1
    · cases h1
    · omega⟩
  obtain ⟨q, hq⟩ : ∃ q, q = w2.heap.size := ⟨_, rfl⟩
  have hqW : W.heap.size ≤ q := by have := k1.size; have := k2.size; omega
  have A0 : FullI W p mb q room.toNat l 0 w3 := ⟨newD room, [], r, P3, ⟨by simp [newD, sumF], by simp [newD]⟩, by simp [newD], rfl, by rw [hq]; exact rb3, fun h => by have := hlt1 q h; have := k2.size; omega, fun h => by have := hr2.lt q h; omega⟩
  obtain ⟨R, hR⟩ : ∃ R, R = room.toNat := ⟨_, rfl⟩
  rw [← hR] at A0
  have hRm : (R : Int) ≤ max room 0 := by omega
  have hw3' := hid hw3
  have hq' := hid hq
  obtain ⟨room', steps', fa', fc', l', armed', dead', left'⟩ := r
  simp only [RD.v] at *
  clear P3 hD1 k1 k2 k3 rb3 hr2 hL2 hft2 hlt1 hR hw3 hq a2
  go_wp2_with fail
  rw [hw3'.out, ← hq'.out]
  clear hw3' hq'
  go_loopw [28] (fun i wn => ∃ j : Nat, j ≤ l.length ∧ i = .int .i64 j ∧ FullI W p mb q R l j wn) (fun i _ => l.length - (intOf i).toNat)
  case atStart => exact ⟨0, Nat.zero_le _, rfl, A0⟩
  case round =>
    clear A0
    obtain ⟨j, hj, rfl, hA⟩ := hrel
    by_cases hjl : j < l.length
    · obtain ⟨o, ho⟩ : ∃ o, l[j]? = some o := ⟨l[j], by simp [hjl]⟩
      have hom := List.mem_of_getElem? ho
      have hso := hid (sumB_take ho)
      have hsl := sumB_le l (j + 1)
      obtain ⟨d, xs, r, P, low, hsj, hrm, rb, hqf, hqr⟩ := hA
      have hrm := hid hrm
      obtain ⟨g, f, rfl, x0, x1, x2, x3, x4, x5, x6⟩ := dopAt (hs1.keptNew P.kp) ho
      obtain ⟨wb, hwb, kb, hop, hqb⟩ := box7 o wr
      have Pb := P.keep kb
      have hqlt : q < wr.heap.size := rb.lt
      have hwq : wr.heap.size ∉ foot p mb xs := fun h => by have := P.D.lt _ h; omega
      have hop0 := hop
      obtain ⟨y0, y1, y2, y3, y4, y5, y6⟩ := hop0
      have hwb' := hid hwb
      have hoW := hok1 o hom
      clear hwb ho
      by_cases hko : 8 ≤ o.kind
      · have hfin1 : Hid (FullI W p mb q R l (j + 1) wb) := ⟨d, xs, r, Pb, low.mono (by have := hso.out; omega) (by omega), by omega, hrm.out, rb.kept kb, hqf, hqr⟩
        clear P Pb hop rb
        by_cases h8 : o.kind = 8
        · have e8 : (o.kind == 8) = true := by simpa using h8
          clear h8
          go_wp2_with fail
          rw [hwb'.out]
          exact ⟨⟨j + 1, by omega, by go_num, hfin1.out⟩, by simp [intOf]; omega⟩
        · have e8 : (o.kind == 8) = false := by simpa using h8
          have e9 : decide (8 < o.kind) = true := by simp; omega
          clear h8
          go_wp2_with fail
          rw [hwb'.out]
          exact ⟨⟨j + 1, by omega, by go_num, hfin1.out⟩, by simp [intOf]; omega⟩
      · have e8 : (o.kind == 8) = false := by simp; omega
        have e9 : decide (8 < o.kind) = false := by simp; omega
        have rbb : RB wb q r := B6.kept rb kb
        have a3 := cStepped Pb.D low (by omega) r Pb.R Pb.L Pb.ap o (hoW.kept Pb.kp) (by omega) (by omega) (by have := hso.out; omega) (by omega) (offPr Pb hoW)
        have hlow := lw_stp o low P.D.ok (by have := hso.out; omega)
        have hstp := stp_steps d o
        have hrm' := (stp_room d o).trans hrm.out
        obtain ⟨d', hd'⟩ : ∃ d', d' = stpD d o := ⟨_, rfl⟩
        rw [← hd'] at a3 hlow hstp hrm'
        have rbb' := rb
        obtain ⟨b0, b1, b2, b3, b4, b5, bf⟩ := rbb'
        have hqb' : q < wb.heap.size := rbb.lt
        obtain ⟨room', steps', fa', fc', l', armed', dead', left'⟩ := r
        simp only [RD.v, DOp.v] at *
        have hlow' := hid hlow
        have hrm2 := hid hrm'
        clear P hop rb hd' hlow hrm' hrm low
        go_wp2_with fail
        rw [hwb'.out]
        clear x0 x1 x2 x3 x4 x5 x6
        refine a3.mono ?_
        rintro e w4 ⟨r', xs', rfl, hD4, hR4, hL4, mv4, n2, n3⟩
        have bq4 := B6.keptS rbb mv4.kp hqf
        obtain ⟨W5, hW5, rb5, k5⟩ := set6_ex bq4 (.int .i64 r'.room) (.int .i64 r'.steps) (.slice r'.fa r'.l.length r'.fc) (.bool r'.armed) (.bool r'.dead) (.int .i64 r'.left)
        obtain ⟨P5, hqf5, hqr5⟩ := prStored Pb hqb' hqW hqf hqr hD4 hR4 hL4 mv4 n2 n3 k5
        have hN5 : xs'.length ≤ 1000000000000 := by have := len_of hD4; have := hlow'.out.len; omega
        have hsm5 : Small d' := hlow'.out.small (by have := hso.out; omega)
        have hsmc : Small (crashD d' ks) := (lw_crash hlow'.out ks).small (by have := hso.out; omega)
        have hfin5 : Hid (∀ w', Kp [] W5 w' → FullI W p mb q R l (j + 1) w') := fun w' k' => ⟨d', xs', r', P5.keep k', by rw [hso.out]; exact hlow'.out, by omega, hrm2.out, B6.kept rb5 k', hqf5, hqr5⟩
        have a4 := cCrash P5.D hsm5 hN5 ka kc ks (hks.kept P5.kp) hkl hkc' hk64
        have hlenf : Hid (d'.files.length = r'.l.length) := by show _ = _; rw [← hL4.files]; simp
        have hrl5 : r'.l.length ≤ 1000000000 := by have := hlenf.out; have := hlow'.out.len; omega
        have R5 := P5.R
        have hfl5 : Hid (r'.l.map RF.fl = d'.files) := hL4.files
        have hok5 : Okd d' := hD4.ok
        have kWW5 : Kp [] W W5 := P5.kp
        obtain ⟨q0, q1, q2, q3, q4, q5, qf⟩ := bq4
        have g0 := qf 0; have g1 := qf 1; have g2 := qf 2; have g3 := qf 3; have g4 := qf 4; have g5 := qf 5
        obtain ⟨room', steps', fa', fc', l', armed', dead', left'⟩ := r'
        simp only [RD.v] at *
        have hW5' := hid hW5
        clear hW5 a3 y0 y1 y2 y3 y4 y5 y6 b0 b1 b2 b3 b4 b5 Pb P5 hD4 hR4 hL4 n2 n3 rbb e8 e9
        go_wp2_with fail
        rw [hW5'.out]
        clear q0 q1 q2 q3 q4 q5 g0 g1 g2 g3 g4 g5 hW5' qf
        go_wp2_with fail
        refine a4.mono ?_
        rintro e w6 ⟨pc, mc, xc, rfl, hDc, k6, hnc⟩
        have rb6 := B6.kept rb5 k6
        have hlc : Hid (xc.length = l'.length) := by show _ = _; rw [len_of hDc]; simp only [crashD, crashF_len]; exact hlenf.out
        have hNc : xc.length ≤ 1000000000000 := by have := hlc.out; omega
        have hDd : Hid (∀ A, Kp [] w6.drew A → Calls Try.prog 14 #[.pointer (some ⟨pc, 0, none⟩)] A fun e w' => e = .returned (.bool false) ∧ w' = A) := fun A kA => cDead (hDc.keptNew (((Kp.refl _ _).drew).trans kA (by simp)))
        have hSt : Hid (∀ A, Kp [] w6.drew A → Calls Try.prog 15 #[.pointer (some ⟨pc, 0, none⟩)] A fun e w' => e = .returned (.int .i64 0) ∧ w' = A) := fun A kA => cSteps (hDc.keptNew (((Kp.refl _ _).drew).trans kA (by simp)))
        have hNm : Hid (∀ A, Kp [] w6.drew A → Calls Try.prog 16 #[.pointer (some ⟨pc, 0, none⟩)] A fun e w' => ∃ na nc, e = .returned (.slice na l'.length nc) ∧ Kp [] A w') := fun A kA => (cNames (hDc.keptNew (((Kp.refl _ _).drew).trans kA (by simp))) hNc).mono fun e w' ⟨na, nc, he, _, k'⟩ => ⟨na, nc, by rw [he, hlc.out], k'⟩
        have hS : Hid (∀ A, Kp [] w6.drew A → (Kp [] w6.drew A ∧ A.cell? ⟨q, 2, none⟩ = some (.slice fa' l'.length fc'))) := fun A kA => ⟨kA, ((rb6.kept (w' := w6.drew) (Kp.refl _ _).drew).kept kA).c2⟩
        clear a4
        go_wp2_with fail
        refine wp_region_held_drew (S := (fun A => Kp [] w6.drew A ∧ A.cell? ⟨q, 2, none⟩ = some (.slice fa' l'.length fc'))) (by kernel_rfl) ?_ (fun hHeld => ?_)
        · exact hS.out _ (Kp.refl _ _)
        refine wpAnyH_take (i := 0) (v := ?_) rfl (by kernel_rfl) (by kernel_rfl) (by kernel_rfl) (fun _ _ _ h => h) (Or.inl ⟨by rfl, ?_⟩) (by assumption) ?_
        rotate_left
        · intro w hSw; (try dsimp only at hSw); go_simp <;> with_reducible rfl
        try simp only [Act.put, List.getElem_toArray, List.getElem_cons_zero, List.getElem_cons_succ, List.setIfInBounds_toArray, List.set_cons_zero, List.set_cons_succ]
        refine wpAnyH_take (i := 1) (v := ?_) rfl (by kernel_rfl) (by kernel_rfl) (by kernel_rfl) (fun _ _ _ h => h) (Or.inl ⟨by rfl, ?_⟩) (by assumption) ?_
        rotate_left
        · intro w hSw; (try dsimp only at hSw); go_simp <;> with_reducible rfl
        try simp only [Act.put, List.getElem_toArray, List.getElem_cons_zero, List.getElem_cons_succ, List.setIfInBounds_toArray, List.set_cons_zero, List.set_cons_succ]
        refine wpAnyH_take (i := 2) (v := ?_) rfl (by kernel_rfl) (by kernel_rfl) (by kernel_rfl) (fun _ _ _ h => h) (Or.inl ⟨by rfl, ?_⟩) (by assumption) ?_
        rotate_left
        · intro w hSw; (try dsimp only at hSw); go_simp <;> with_reducible rfl
        try simp only [Act.put, List.getElem_toArray, List.getElem_cons_zero, List.getElem_cons_succ, List.setIfInBounds_toArray, List.set_cons_zero, List.set_cons_succ]
        refine wpAnyH_take (i := 3) (v := ?_) rfl (by kernel_rfl) (by kernel_rfl) (by kernel_rfl) (fun _ _ _ h => h) (Or.inl ⟨by rfl, ?_⟩) (by assumption) ?_
        rotate_left
        · intro w hSw; (try dsimp only at hSw); go_simp <;> with_reducible rfl
        try simp only [Act.put, List.getElem_toArray, List.getElem_cons_zero, List.getElem_cons_succ, List.setIfInBounds_toArray, List.set_cons_zero, List.set_cons_succ]
        refine wpAnyH_take (i := 4) (v := ?_) rfl (by kernel_rfl) (by kernel_rfl) (by kernel_rfl) (fun _ _ _ h => h) (Or.inl ⟨by rfl, ?_⟩) (by assumption) ?_
        rotate_left
        · intro w hSw; (try dsimp only at hSw); go_simp <;> with_reducible rfl
        try simp only [Act.put, List.getElem_toArray, List.getElem_cons_zero, List.getElem_cons_succ, List.setIfInBounds_toArray, List.set_cons_zero, List.set_cons_succ]
        refine wpAnyH_take (i := 5) (v := ?_) rfl (by kernel_rfl) (by kernel_rfl) (by kernel_rfl) (fun _ _ _ h => h) (Or.inl ⟨by rfl, ?_⟩) (by assumption) ?_
        rotate_left
        · intro w hSw; (try dsimp only at hSw); go_simp <;> with_reducible rfl
        try simp only [Act.put, List.getElem_toArray, List.getElem_cons_zero, List.getElem_cons_succ, List.setIfInBounds_toArray, List.set_cons_zero, List.set_cons_succ]
        refine wpAnyH_take (i := 6) (v := ?_) rfl (by kernel_rfl) (by kernel_rfl) (by kernel_rfl) (fun _ _ _ h => h) (Or.inl ⟨by rfl, ?_⟩) (by assumption) ?_
        rotate_left
        · intro w hSw; (try dsimp only at hSw); go_simp <;> with_reducible rfl
        try simp only [Act.put, List.getElem_toArray, List.getElem_cons_zero, List.getElem_cons_succ, List.setIfInBounds_toArray, List.set_cons_zero, List.set_cons_succ]
        refine wpAnyH_take (i := 7) (v := ?_) rfl (by kernel_rfl) (by kernel_rfl) (by kernel_rfl) (fun _ _ _ h => h) (Or.inl ⟨by rfl, ?_⟩) (by assumption) ?_
        rotate_left
        · intro w hSw; (try dsimp only at hSw); go_simp <;> with_reducible rfl
        try simp only [Act.put, List.getElem_toArray, List.getElem_cons_zero, List.getElem_cons_succ, List.setIfInBounds_toArray, List.set_cons_zero, List.set_cons_succ]
        refine wpAnyH_ready (rs := [8]) (by kernel_rfl) (by simp) ?_
        refine AllReadyH.cons rfl (fun K hK => ?_) AllReadyH.nil
        go_simp
        refine (hDd.out _ (Kp.refl _ _)).mono ?_
        rintro e x3 ⟨rfl, hx3⟩
        rw [hx3]
        (try go_wp2_with fail)
        refine hK.out _ _ ?_ (fun hHeld => ?_)
        · exact hHeld
        clear hK K
        try simp only [Act.put, List.getElem_toArray, List.getElem_cons_zero, List.getElem_cons_succ, List.setIfInBounds_toArray, List.set_cons_zero, List.set_cons_succ]
        refine wpAnyH_take (i := 9) (v := ?_) rfl (by kernel_rfl) (by kernel_rfl) (by kernel_rfl) (fun _ _ _ h => h) (Or.inl ⟨by rfl, ?_⟩) (by assumption) ?_
        rotate_left
        · intro w hSw; (try dsimp only at hSw); go_simp <;> with_reducible rfl
        try simp only [Act.put, List.getElem_toArray, List.getElem_cons_zero, List.getElem_cons_succ, List.setIfInBounds_toArray, List.set_cons_zero, List.set_cons_succ]
        refine wpAnyH_take (i := 10) (v := ?_) rfl (by kernel_rfl) (by kernel_rfl) (by kernel_rfl) (fun _ _ _ h => h) (Or.inl ⟨by rfl, ?_⟩) (by assumption) ?_
        rotate_left
        · intro w hSw; (try dsimp only at hSw); go_simp <;> with_reducible rfl
        try simp only [Act.put, List.getElem_toArray, List.getElem_cons_zero, List.getElem_cons_succ, List.setIfInBounds_toArray, List.set_cons_zero, List.set_cons_succ]
        refine wpAnyH_take (i := 11) (v := ?_) rfl (by kernel_rfl) (by kernel_rfl) (by kernel_rfl) (fun _ _ _ h => h) (Or.inl ⟨by rfl, ?_⟩) (by assumption) ?_
        rotate_left
        · intro w hSw; (try dsimp only at hSw); go_simp <;> with_reducible rfl
        try simp only [Act.put, List.getElem_toArray, List.getElem_cons_zero, List.getElem_cons_succ, List.setIfInBounds_toArray, List.set_cons_zero, List.set_cons_succ]
        refine wpAnyH_ready (rs := [12]) (by kernel_rfl) (by simp) ?_
        refine AllReadyH.cons rfl (fun K hK => ?_) AllReadyH.nil
        go_simp
        refine (hSt.out _ (Kp.refl _ _)).mono ?_
        rintro e x4 ⟨rfl, hx4⟩
        rw [hx4]
        (try go_wp2_with fail)
        refine hK.out _ _ ?_ (fun hHeld => ?_)
        · exact hHeld
        clear hK K
        try simp only [Act.put, List.getElem_toArray, List.getElem_cons_zero, List.getElem_cons_succ, List.setIfInBounds_toArray, List.set_cons_zero, List.set_cons_succ]
        refine wpAnyH_take (i := 13) (v := ?_) rfl (by kernel_rfl) (by kernel_rfl) (by kernel_rfl) (fun _ _ _ h => h) (Or.inl ⟨by rfl, ?_⟩) (by assumption) ?_
        rotate_left
        · intro w hSw; (try dsimp only at hSw); go_simp <;> with_reducible rfl
        try simp only [Act.put, List.getElem_toArray, List.getElem_cons_zero, List.getElem_cons_succ, List.setIfInBounds_toArray, List.set_cons_zero, List.set_cons_succ]
        refine wpAnyH_take (i := 14) (v := ?_) rfl (by kernel_rfl) (by kernel_rfl) (by kernel_rfl) (fun _ _ _ h => h) (Or.inl ⟨by rfl, ?_⟩) (by assumption) ?_
        rotate_left
        · intro w hSw; (try dsimp only at hSw); go_simp <;> with_reducible rfl
        try simp only [Act.put, List.getElem_toArray, List.getElem_cons_zero, List.getElem_cons_succ, List.setIfInBounds_toArray, List.set_cons_zero, List.set_cons_succ]
        refine wpAnyH_take (i := 15) (v := ?_) rfl (by kernel_rfl) (by kernel_rfl) (by kernel_rfl) (fun _ _ _ h => h) (Or.inl ⟨by rfl, ?_⟩) (by assumption) ?_
        rotate_left
        · intro w hSw; (try dsimp only at hSw); go_simp <;> with_reducible rfl
        try simp only [Act.put, List.getElem_toArray, List.getElem_cons_zero, List.getElem_cons_succ, List.setIfInBounds_toArray, List.set_cons_zero, List.set_cons_succ]
        refine wpAnyH_take (i := 16) (v := ?_) rfl (by kernel_rfl) (by kernel_rfl) (by kernel_rfl) (fun _ _ _ h => h) (Or.inl ⟨by rfl, ?_⟩) (by assumption) ?_
        rotate_left
        · intro w hSw; (try dsimp only at hSw); go_simp <;> with_reducible rfl
        try simp only [Act.put, List.getElem_toArray, List.getElem_cons_zero, List.getElem_cons_succ, List.setIfInBounds_toArray, List.set_cons_zero, List.set_cons_succ]
        refine wpAnyH_take (i := 19) (v := ?_) rfl (by kernel_rfl) (by kernel_rfl) (by kernel_rfl) (fun _ _ _ h => h) (Or.inl ⟨by rfl, ?_⟩) (by assumption) ?_
        rotate_left
        · intro w hSw; (try dsimp only at hSw); go_simp <;> with_reducible rfl
        try simp only [Act.put, List.getElem_toArray, List.getElem_cons_zero, List.getElem_cons_succ, List.setIfInBounds_toArray, List.set_cons_zero, List.set_cons_succ]
        refine wpAnyH_take (i := 20) (v := ?_) rfl (by kernel_rfl) (by kernel_rfl) (by kernel_rfl) (fun _ _ _ h => h) (Or.inl ⟨by rfl, ?_⟩) (by assumption) ?_
        rotate_left
        · intro w hSw; (try dsimp only at hSw); go_simp <;> with_reducible rfl
        try simp only [Act.put, List.getElem_toArray, List.getElem_cons_zero, List.getElem_cons_succ, List.setIfInBounds_toArray, List.set_cons_zero, List.set_cons_succ]
        refine wpAnyH_take (i := 21) (v := ?_) rfl (by kernel_rfl) (by kernel_rfl) (by kernel_rfl) (fun _ _ _ h => h) (Or.inl ⟨by rfl, ?_⟩) (by assumption) ?_
        rotate_left
        · intro w hSw; (try dsimp only at hSw); go_simp <;> with_reducible rfl
        try simp only [Act.put, List.getElem_toArray, List.getElem_cons_zero, List.getElem_cons_succ, List.setIfInBounds_toArray, List.set_cons_zero, List.set_cons_succ]
        refine wpAnyH_ready (rs := [17]) (by kernel_rfl) (by simp) ?_
        refine AllReadyH.cons rfl (fun K hK => ?_) AllReadyH.nil
        go_simp
        refine (hNm.out _ (Kp.refl _ _)).mono ?_
        rintro e x5 ⟨na, nc, rfl, kx5⟩
        (try go_wp2_with fail)
        refine hK.out _ _ ?_ (fun hHeld => ?_)
        · exact hS.out _ kx5
        clear hK K
        try simp only [Act.put, List.getElem_toArray, List.getElem_cons_zero, List.getElem_cons_succ, List.setIfInBounds_toArray, List.set_cons_zero, List.set_cons_succ]
        refine wpAnyH_take (i := 18) (v := ?_) rfl (by kernel_rfl) (by kernel_rfl) (by kernel_rfl) (fun _ _ _ h => h) (Or.inl ⟨by rfl, ?_⟩) (by assumption) ?_
        rotate_left
        · intro w hSw; (try dsimp only at hSw); go_simp <;> with_reducible rfl
        try simp only [Act.put, List.getElem_toArray, List.getElem_cons_zero, List.getElem_cons_succ, List.setIfInBounds_toArray, List.set_cons_zero, List.set_cons_succ]
        refine wpAnyH_take (i := 22) (v := ?_) rfl (by kernel_rfl) (by kernel_rfl) (by kernel_rfl) (fun _ _ _ h => h) (Or.inl ⟨by rfl, ?_⟩) (by assumption) ?_
        rotate_left
        · intro w hSw; (try dsimp only at hSw); go_simp <;> with_reducible rfl
        try simp only [Act.put, List.getElem_toArray, List.getElem_cons_zero, List.getElem_cons_succ, List.setIfInBounds_toArray, List.set_cons_zero, List.set_cons_succ]
        refine wpAnyH_take (i := 23) (v := ?_) rfl (by kernel_rfl) (by kernel_rfl) (by kernel_rfl) (fun _ _ _ h => h) (Or.inl ⟨by rfl, ?_⟩) (by assumption) ?_
        rotate_left
        · intro w hSw; (try dsimp only at hSw); go_simp <;> with_reducible rfl
        try simp only [Act.put, List.getElem_toArray, List.getElem_cons_zero, List.getElem_cons_succ, List.setIfInBounds_toArray, List.set_cons_zero, List.set_cons_succ]
        refine wpAnyH_done (by kernel_rfl) ?_ _
        go_wp2_with fail
        have kX : Kp [] W5 x5 := (k6.drew).trans kx5 (by simp)
        have rbX := B6.kept rb5 kX
        have e2 := rbX.c2
        clear hHeld
        go_wp2_with fail
        go_loopw [77] (fun i wn => ∃ m : Nat, m ≤ l'.length ∧ i = .int .i64 m ∧ Kp [] w6.drew wn) (fun i _ => l'.length - (intOf i).toNat)
        case atStart => exact ⟨0, Nat.zero_le _, rfl, kx5⟩
        case round =>
          clear e2
          obtain ⟨m, hm, rfl, kn⟩ := hrel
          by_cases hml : m < l'.length
          · obtain ⟨fx, hfx⟩ : ∃ f, l'[m]? = some f := ⟨l'[m], by simp [hml]⟩
            have hfm := List.mem_of_getElem? hfx
            have k56 : Kp [] W5 wr := (k6.drew).trans kn (by simp)
            have hrn := R5.keptNew k56
            have hfl : d'.files[m]? = some fx.fl := by rw [← hfl5.out]; simp [hfx]
            obtain ⟨mm, hm1, hm2, hlk⟩ := crash_look hDc.ok hok5 hfl
            simp only [RF.fl] at hm1 hm2 hlk
            have hnmx : fx.name.length ≤ maxLen := by
              have := hok5.name fx.fl (List.mem_of_getElem? hfl)
              simp only [nameOk, Bool.and_eq_true, decide_eq_true_eq, RF.fl] at this
              have h3 : fx.name.length ≤ 32 := of_decide_eq_true this.2.2
              unfold maxLen
              omega
            obtain ⟨g', f', ea, c0, c1, c2⟩ := hrn.fls.at hfx
            simp only at ea
            have hse := hrn.see fx hfm
            obtain ⟨wv, hwv⟩ : ∃ wv, wr.alloc (.cells #[.string ⟨fx.name.toArray⟩, .slice fx.ba fx.bytes.length fx.bc, .int .i64 (fx.last : Int)] 45) = wv := ⟨_, rfl⟩
            have kb' : Kp [] wr wv := by rw [← hwv]; exact (Kp.refl _ _).alloc _
            have bf : B3 wv wr.heap.size (.string ⟨fx.name.toArray⟩) (.slice fx.ba fx.bytes.length fx.bc) (.int .i64 (fx.last : Int)) := by rw [← hwv]; exact B3.at _ rfl _ _ _ _
            have knb : Kp [] w6.drew wv := kn.trans kb' (by simp)
            have aR := cRead (hDc.keptNew (((Kp.refl [] w6).drew).trans knb (by simp))) hsmc fx.name hnmx
            rw [hlk] at aR
            have f0 := bf.c0
            have hwv' := hid hwv
            have ea' := hid ea
            clear hwv hlk hfx hfl ea
            rw [ea'.out]
            go_wp2_with fail
            rw [hwv'.out]
            clear c0 c1 c2
            go_wp2_with fail
            refine aR.mono ?_
            rintro e w8 ⟨ra, rc, rfl, hr8, k8, _⟩
            obtain ⟨_, _, er8, hs8, _⟩ := hr8.sees
            cases er8
            have bf8 := bf.kept k8
            have hse8 : Sees w8 fx.ba fx.bytes := (hse.1.kept kb' (by simp)).kept k8 (by simp)
            have hbc : fx.bytes.length ≤ fx.bc := hse.2.2
            obtain ⟨str, hstr⟩ : ∃ str : ByteArray, str = ⟨(fx.bytes.take mm).toArray⟩ := ⟨_, rfl⟩
            obtain ⟨ln, hln⟩ : ∃ ln : Nat, ln = fx.bytes.length := ⟨_, rfl⟩
            have hmm : (fx.bytes.take mm).length = mm := by simp; omega
            have cv1 : (convert 34 9 (.slice ra mm rc)).run Try.prog w8.drew = .ok (.string str) w8.drew := by have := convSees (hs8.drew) rc; rw [hmm] at this; rw [hstr]; exact this
            have cv2 : (convert 34 9 (.slice fx.ba mm fx.bc)).run Try.prog w8.drew = .ok (.string str) w8.drew := by have := convSees (hse8.drew.front mm) fx.bc; rw [hmm] at this; rw [hstr]; exact this
            have d2 : w8.drew.cell? ⟨wr.heap.size, 1, none⟩ = some (.slice fx.ba ln fx.bc) := by rw [hln]; exact (bf8.kept (w' := w8.drew) (Kp.refl _ _).drew).c1
            have d3 : w8.drew.cell? ⟨wr.heap.size, 2, none⟩ = some (.int .i64 (fx.last : Int)) := (bf8.kept (w' := w8.drew) (Kp.refl _ _).drew).c2
            rw [hmm]
            rw [← hln] at hm2 hbc
            have hfin : Kp [] w6.drew w8.drew := (knb.trans k8 (by simp)).drew
            have hcmp1 : decide ((mm : Int) < (fx.last : Int)) = false := by simp; omega
            have hcmp2 : decide ((ln : Int) < (mm : Int)) = false := by simp; omega
            have hin1 : (0 : Int) ≤ (mm : Int) := by omega
            have hin2 : (mm : Int) ≤ (fx.bc : Int) := by omega
            have hin3 : mm ≤ fx.bc := by omega
            have hcmp3 : decide (mm < fx.last) = false := by simp; omega
            have hcmp4 : decide (ln < mm) = false := by simp; omega
            have hSf : w8.drew.cell? ⟨wr.heap.size, 1, none⟩ = some (.slice fx.ba ln fx.bc) ∧ w8.drew.cell? ⟨wr.heap.size, 2, none⟩ = some (.int .i64 (fx.last : Int)) ∧ (convert 34 9 (.slice ra mm rc)).run Try.prog w8.drew = .ok (.string str) w8.drew ∧ (convert 34 9 (.slice fx.ba mm fx.bc)).run Try.prog w8.drew = .ok (.string str) w8.drew := ⟨d2, d3, cv1, cv2⟩
            clear aR hs8 hr8 bf bf8 hse hse8 f0 hln hstr hmm hnmx d2 d3 cv1 cv2
            go_wp2_with fail
            go_region_held3 (fun A => A.cell? ⟨wr.heap.size, 1, none⟩ = some (.slice fx.ba ln fx.bc) ∧ A.cell? ⟨wr.heap.size, 2, none⟩ = some (.int .i64 (fx.last : Int)) ∧ (convert 34 9 (.slice ra mm rc)).run Try.prog A = .ok (.string str) A ∧ (convert 34 9 (.slice fx.ba mm fx.bc)).run Try.prog A = .ok (.string str) A)
              (first | assumption) (fail)
            go_wp2_with fail
            exact ⟨⟨m + 1, by omega, by go_num, hfin⟩, by simp [intOf]; omega⟩
          · have kf : Kp [] W5 wr := (k6.drew).trans kn (by simp)
            go_wp2_with fail
            exact ⟨⟨j + 1, by omega, by go_num, hfin5.out _ kf⟩, by simp [intOf]; omega⟩
    · obtain ⟨d, xs, r, P, _⟩ := hA
      have kf := P.kp
      clear P
      go_wp2_with fail
      go_ret
      exact ⟨rfl, kf⟩
theorem lastsWalk' (room : Int) (hroom : room < 9223372036854775808) (a : Option Addr) (c : Nat) (l1 : List DOp) (ka : Option Addr) (kc : Nat) (ks : List Int) (W : World) (hs1 : DOpE.See W a l1) (hok1 : ∀ o ∈ l1, o.ok W) (hks : IntE.See W ka ks) (hkl : ks.length ≤ kc) (hkc : kc ≤ maxLen) (hk64 : ∀ k ∈ ks, -9223372036854775808 ≤ k ∧ k < 9223372036854775808)
    (hb1 : (l1.map fun y => y.b.bs.length + 1).sum ≤ 1048576) (hn1 : l1.length ≤ 1048576) :
    Calls Try.prog 4 #[.int .i64 room, .slice a l1.length c, .slice ka ks.length kc] W (fun e W' => e = .returned (.bool true) ∧ Below W.heap.size W W') :=
  (lastsWalk room hroom a c l1 ka kc ks W hs1 hok1 (Nat.le_trans (sumB_blk l1) hb1) hn1 (intsSee hks) hkl hkc hk64).mono fun e W' h => ⟨h.1, h.2.below⟩
end Go.Proofs.Ytgllkonbgigcbaa
end

section
namespace Go.Proofs.Ytgllkonbgigcbaa
open Go.ChangeShapes Go.WideShapes Go.ChangeAt Go.RowKit Go.Hay
set_option linter.unusedVariables false

set_option maxRecDepth 100000 in
theorem diskLastsContract (H : Type) (enc : TypeId × Value → H) (W : World) (base : Nat) (args : Array Value) (ds gs : List (DataW H)) (before : List MemPlace)
    (hval : ∀ (j : Nat) t v, Try.f4.params[j]? = some t → args[j]? = some v → Value.okWide Try.prog W .any base t v)
    (hW : DataW.Whole enc Try.prog Try.f4.params.toList Rows.diskLastsSpec.vars false W args.toList ds gs before)
    (hsz : (DataW.weightsEach Try.prog (Try.f4.params.toList ++ (Rows.OpenSpec.upto Rows.diskLastsSpec).bare.plain.varTypes Try.prog) (ds ++ gs)).all (· ≤ reachBytes) = true)
    (hk : Rows.uptoSmall H (ds ++ gs) = true) :
    Calls Try.prog 4 args W fun e W' => ∃ v, e = .returned v ∧ Rows.diskLastsSpec.post enc Try.prog Try.f4 false true false false W args v W' := by
  have hW' := hW
  obtain ⟨p, q, hA0, hV, rfl, hfz, hnd⟩ := hW
  have hA : DataW.TrodAll enc Try.prog W 0 (fun _ => true) true Try.f4.params.toList args.toList ds p := hA0
  rw [Try.params4] at hA hval hsz
  obtain ⟨v0, vs0, d0, ds0, p0, q0, hargs, rfl, rfl, h0, r0⟩ := trodAll_cons hA
  obtain ⟨v1, vs1, d1, ds1, p1, q1, rfl, rfl, rfl, h1, r1⟩ := trodAll_cons r0
  obtain ⟨v2, vs2, d2, ds2, p2, q2, rfl, rfl, rfl, h2, r2⟩ := trodAll_cons r1
  obtain ⟨rfl, rfl, rfl⟩ := trodAll_nil r2
  obtain rfl : args = #[v0, v1, v2] := by cases args; simp_all
  obtain ⟨rfl, rfl⟩ := trodVars_none hV
  obtain ⟨a0, rfl, rfl, rfl, w0⟩ := open_int Try.underlying3 (hval 0 3 v0 rfl rfl) h0
  have hb0 := bounds_i64 w0
  obtain ⟨a1, len1, cap1, rfl⟩ := okWide_slice Try.underlying22 (hval 1 22 v1 rfl rfl)
  have k1 := h1
  have lt1 : ∀ x ∈ p1, x.block < W.heap.size := by obtain ⟨m, hm⟩ := k1; exact DataW.trod_lt m _ _ _ hm
  obtain ⟨l1, rfl, hs1, hok1, hl1, hm1, hn1, hfit1, hbk1, hcp1⟩ := openDops h1
  obtain ⟨hc1, hq1⟩ := hfit1 (List.all_eq_true.2 fun x hx => List.all_eq_true.1 hsz x (by simp [DataW.weightsEach]; first | exact .inl hx | exact .inr hx | exact .inr (.inl hx) | exact .inr (.inr hx) | exact hx))
  obtain ⟨a2, len2, cap2, rfl⟩ := okWide_slice Try.underlying33 (hval 2 33 v2 rfl rfl)
  have k2 := h2
  have lt2 : ∀ x ∈ p2, x.block < W.heap.size := by obtain ⟨m, hm⟩ := k2; exact DataW.trod_lt m _ _ _ hm
  obtain ⟨l2, rfl, hs2, hok2, hl2, hm2, hn2, hfit2, hbk2, hcp2⟩ := openInts h2
  obtain ⟨hc2, hq2⟩ := hfit2 (List.all_eq_true.2 fun x hx => List.all_eq_true.1 hsz x (by simp [DataW.weightsEach]; first | exact .inl hx | exact .inr hx | exact .inr (.inl hx) | exact .inr (.inr hx) | exact hx))
  have hbk := of_decide_eq_true hk
  simp only [List.append_nil, Rows.uptoBulkAll] at hbk
  clear hA0
  refine (lastsWalk' a0 (by omega) a1 cap1 l1 a2 cap2 l2 W hs1 hok1 hs2 hl2 hm2 hok2 (by omega) (by omega)).mono fun e W' ⟨he, bel⟩ => ?_
  subst he
  exact ⟨_, rfl, _, _, _, [], _, [], hW', trodAll_mk1 (shut_bool Try.underlying4 _), (trodAll_cons_mk (shut_int Try.underlying3 w0) (trodAll_cons_mk (Below.trod Try.laidOut (by kernel_rfl) (of_decide_eq_true (by kernel_rfl)) k1 bel lt1) (trodAll_cons_mk (Below.trod Try.laidOut (by kernel_rfl) (of_decide_eq_true (by kernel_rfl)) k2 bel lt2) trodAll_mk0))), rfl, bel.frame _, fun h => by cases h⟩

set_option maxRecDepth 100000 in
theorem diskLastsLifted (os : Os) (started : os.Started) (H : Type) (enc : TypeId × Value → H) (F : Stop.Interp) :
    ReturnsInHanded {} Try.checked os 4 .any ((Rows.OpenSpec.upto Rows.diskLastsSpec).pre6 enc Try.prog Try.f4 Rows.diskLastsUptoRow.domain false) (((Rows.OpenSpec.upto Rows.diskLastsSpec).at F).post enc Try.prog Try.f4 false true false false) := by
  refine returnsInHanded_of_cond_sized (C := Try.checked) (s := Rows.OpenSpec.upto Rows.diskLastsSpec) (k := Rows.uptoSmall) rfl Try.own started (by kernel_rfl) Try.func4
    (OpenSpec.witness (enc := enc) (C := Try.checked) (s := Rows.OpenSpec.upto Rows.diskLastsSpec) (k := Rows.uptoSmall) rfl false ⟨#[], #[.int .i64 0, .slice none 0 0, .slice none 0 0], []⟩ 8 (by kernel_rfl) (by kernel_rfl) (by kernel_rfl)
      (x := ([.lit (.int .i64 0), .nil, .nil], [], [])) (by kernel_rfl) rfl (by kernel_rfl)) ?_
  intro W base args ds gs before hval hW _ hk hsz _
  exact diskLastsContract H enc W base args ds gs before hval hW hsz hk

theorem DiskLasts_holds : Rows.DiskLastsUptoSaid :=
  OpenClaim.holds_of_cond 4 Try.f4 rfl rfl rfl rfl rfl rfl rfl ⟨rfl, rfl, rfl, rfl, rfl⟩ rfl rfl rfl rfl rfl (by kernel_rfl) Try.func4 (by kernel_rfl)
    (of_decide_eq_true (by kernel_rfl)) (by unfold Func.isWrapper; first | (rw [if_pos (by decide +kernel)]; kernel_rfl) | (rw [if_neg (by decide +kernel)]; exact ⟨rfl, rfl⟩))
    (fun os started H enc _ F => diskLastsLifted os started H enc F)

#print axioms DiskLasts_holds
end Go.Proofs.Ytgllkonbgigcbaa
end

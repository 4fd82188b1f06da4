/- A disk that is armed does, up to the step at which it dies, what one does that is not; behind it nothing is done any more: the law answers true, for every room, every step to die at and all scripts that hold together at most 1048576 values. -/
import Derived.Test.YtgllkonbgigcbaaB13
import Derived.Test.YtgllkonbgigcbaaB9
import Derived.SizedLaws
import Derived.JoinedCond
import Derived.Deep.CondSized
section
namespace Go.Proofs.Ytgllkonbgigcbaa
open Go.RowKit Go.Hay
set_option linter.unusedVariables false
set_option linter.unusedSimpArgs false

/-- The reference, in a variable's box. -/
def RB (w : World) (q : Nat) (r : RD) : Prop := B6 w q (.int .i64 r.room) (.int .i64 r.steps) (.slice r.fa r.l.length r.fc) (.bool r.armed) (.bool r.dead) (.int .i64 r.left)
theorem append_full {d : Dk} {name b : List UInt8} (h : (b.length : Int) > freeD d) : (appendD d name b).1 = d := by
  unfold appendD
  split
  · rfl
  split
  · rfl
  · first | rfl | (simp only [if_pos h])
theorem stp_full {d : Dk} {o : DOp} (h0 : o.kind = 0) (h : (o.b.bs.length : Int) > freeD d) : stpD d o = d := by
  unfold stpD chD chgD
  simp only [h0, if_true, if_false, Int.reduceEq, or_self]
  exact append_full h
/-- How it stands behind j calls. -/
def FullI (W : World) (p mb q R : Nat) (l : List DOp) (j : Nat) (wn : World) : Prop :=
  ∃ (d : Dk) (xs : List Ent) (r : RD), Pr W wn p mb xs r d ∧ Lw (sumB (l.take j)) j d ∧ d.steps ≤ j ∧ d.room = R ∧ RB wn q r ∧ q ∉ foot p mb xs ∧ q ∉ r.foot
/-- Behind a call of stepped, and the store of the reference. -/
theorem prStored {W w3 w4 w5 : World} {p mb q : Nat} {xs xs' : List Ent} {r r' : RD} {d d' : Dk} (P : Pr W w3 p mb xs r d) (hq : q < w3.heap.size) (hW : W.heap.size ≤ q) (hqf : q ∉ foot p mb xs) (hqr : q ∉ r.foot)
    (hD : Disk w4 p mb xs' d') (hR : RdOk w4 r') (hL : Like r' d') (mv : Mv (foot p mb xs) w3 (foot p mb xs') w4) (n2 : ∀ k ∈ r'.foot, k ∈ r.foot ∨ w3.heap.size ≤ k) (n3 : ∀ k ∈ r'.foot, k ∉ foot p mb xs') (k5 : Kp [q] w4 w5) :
    Pr W w5 p mb xs' r' d' ∧ q ∉ foot p mb xs' ∧ q ∉ r'.foot := by
  have h1 : q ∉ foot p mb xs' := fun h => by
    rcases mv.new q h with h | h
    · exact hqf h
    · omega
  have h2 : q ∉ r'.foot := fun h => by
    rcases n2 q h with h | h
    · exact hqr h
    · omega
  exact ⟨(P.step hD hR hL mv.kp mv.new n3).keepS k5 (by simpa using h1) (by simpa using h2) (by simpa using hW), h1, h2⟩
set_option maxHeartbeats 16000000 in
set_option maxRecDepth 100000 in
theorem fullWalk (room : Int) (hroom : room < 9223372036854775808) (a : Option Addr) (c : Nat) (l : List DOp) (W : World) (hs1 : DOpE.See W a l) (hok1 : ∀ o ∈ l, o.ok W) (hb1 : sumB l ≤ 1048576) (hn1 : l.length ≤ 1048576) :
    Calls Try.prog 6 #[.int .i64 room, .slice a l.length c] W (fun e W' => e = .returned (.bool true) ∧ Kp [] W W') := by
  go_enter Try.func6, Try.ntmps6
  go_wp2_with fail
  refine (cBegun room W hroom).mono ?_
  rintro e w1 ⟨p, mb, rfl, hD1, k1, hp, hmb⟩
  have a2 := cRefNew room w1 hroom
  go_wp2_with fail
  refine a2.mono ?_
  rintro e w2 ⟨v, rfl, r, rfl, hr2, hL2, k2, hft2⟩
  obtain ⟨w3, hw3, k3, rb3, hsz3⟩ := boxR r w2
  have hlt1 := hD1.lt
  have P3 : Pr W w3 p mb [] r (newD room) := ⟨(hD1.keptNew k2).keptNew k3, hr2.keptNew k3, hL2, (k1.trans k2 (by simp)).trans k3 (by simp), fun k hk => by simp [foot] at hk; omega, fun k hk h => by
    have := hlt1 k h
    rcases hft2 k hk with h1 | h1
    · cases h1
    · omega⟩
  obtain ⟨q, hq⟩ : ∃ q, q = w2.heap.size := ⟨_, rfl⟩
  have hqW : W.heap.size ≤ q := by have := k1.size; have := k2.size; omega
  have A0 : FullI W p mb q room.toNat l 0 w3 := ⟨newD room, [], r, P3, ⟨by simp [newD, sumF], by simp [newD]⟩, by simp [newD], rfl, by rw [hq]; exact rb3, fun h => by have := hlt1 q h; have := k2.size; omega, fun h => by have := hr2.lt q h; omega⟩
  obtain ⟨R, hR⟩ : ∃ R, R = room.toNat := ⟨_, rfl⟩
  rw [← hR] at A0
  have hRm : (R : Int) ≤ max room 0 := by omega
  have hw3' := hid hw3
  have hq' := hid hq
  obtain ⟨room', steps', fa', fc', l', armed', dead', left'⟩ := r
  simp only [RD.v] at *
  clear P3 hD1 k1 k2 k3 rb3 hr2 hL2 hft2 hlt1 hR hw3 hq a2
  go_wp2_with fail
  rw [hw3'.out, ← hq'.out]
  clear hw3' hq'
  go_loopw [23] (fun i wn => ∃ j : Nat, j ≤ l.length ∧ i = .int .i64 j ∧ FullI W p mb q R l j wn) (fun i _ => l.length - (intOf i).toNat)
  case atStart => exact ⟨0, Nat.zero_le _, rfl, A0⟩
  case round =>
    clear A0
    obtain ⟨j, hj, rfl, hA⟩ := hrel
    by_cases hjl : j < l.length
    · obtain ⟨o, ho⟩ : ∃ o, l[j]? = some o := ⟨l[j], by simp [hjl]⟩
      have hom := List.mem_of_getElem? ho
      have hso := hid (sumB_take ho)
      have hsl := sumB_le l (j + 1)
      obtain ⟨d, xs, r, P, low, hsj, hrm, rb, hqf, hqr⟩ := hA
      have hrm := hid hrm
      obtain ⟨g, f, rfl, x0, x1, x2, x3, x4, x5, x6⟩ := dopAt (hs1.keptNew P.kp) ho
      obtain ⟨wb, hwb, kb, hop, hqb⟩ := box7 o wr
      have Pb := P.keep kb
      have hqlt : q < wr.heap.size := rb.lt
      have hwq : wr.heap.size ∉ foot p mb xs := fun h => by have := P.D.lt _ h; omega
      have hop0 := hop
      obtain ⟨y0, y1, y2, y3, y4, y5, y6⟩ := hop0
      have hwb' := hid hwb
      have hoW := hok1 o hom
      clear hwb ho
      by_cases hko : 8 < o.kind
      · have hfin1 : Hid (FullI W p mb q R l (j + 1) wb) := ⟨d, xs, r, Pb, low.mono (by have := hso.out; omega) (by omega), by omega, hrm.out, rb.kept kb, hqf, hqr⟩
        clear P Pb hop rb
        go_wp2_with fail
        rw [hwb'.out]
        exact ⟨⟨j + 1, by omega, by go_num, hfin1.out⟩, by simp [intOf]; omega⟩
      · have a1 := cFree Pb.D
        obtain ⟨z0, hz0⟩ : ∃ z, Hid (z = freeD d) := ⟨_, rfl⟩
        rw [← hz0.out] at a1
        go_wp2_with fail
        rw [hwb'.out]
        clear x0 x1 x2 x3 x4 x5 x6
        go_wp2_with fail
        refine a1.mono ?_
        rintro e w2 ⟨rfl, k2⟩
        have P2 := Pb.keep k2
        have hNx : xs.length ≤ 1000000000000 := by have := len_of P.D; have := low.len; omega
        have a2 := cNames P2.D hNx
        obtain ⟨n, hnx0⟩ : ∃ n, Hid (n = xs.length) := ⟨_, rfl⟩
        have hnxl : n ≤ 1000000000000 := by have := hnx0.out; omega
        go_wp2_with fail
        refine a2.mono ?_
        rintro e w3 ⟨na, nc, rfl, _, k3⟩
        have hnx := hnx0.out
        rw [← hnx]
        have P3 := P2.keep k3
        have op3 : Op7 wr.heap.size o w3 := (hop.kept k2 (by simp)).kept k3 (by simp)
        have rb3 : RB w3 q r := ((rb.kept kb).kept k2).kept k3
        obtain ⟨y0, y1, y2, y3, y4, y5, y6⟩ := op3
        have a3 := cStepped P3.D low (by omega) r P3.R P3.L P3.ap o (hoW.kept P3.kp) (by omega) (by omega) (by have := hso.out; omega) (by omega) (offPr P3 hoW)
        have hlow := lw_stp o low P.D.ok (by have := hso.out; omega)
        have hstp := stp_steps d o
        have hrm' := (stp_room d o).trans hrm.out
        have hfull : Hid (o.kind = 0 → (o.b.bs.length : Int) > z0 → stpD d o = d) := fun h0 h => stp_full h0 (by rw [← hz0.out]; exact h)
        obtain ⟨d', hd'⟩ : ∃ d', d' = stpD d o := ⟨_, rfl⟩
        rw [← hd'] at a3 hlow hstp hrm' hfull
        have hsame : Hid (d' = d → (freeD d' = z0 ∧ d'.files.length = n)) := fun h => by
          rw [h]
          exact ⟨hz0.out.symm, by rw [hnx, len_of P.D]⟩
        obtain ⟨b0, b1, b2, b3, b4, b5, bf⟩ := rb3
        have rb3' : RB w3 q r := ⟨b0, b1, b2, b3, b4, b5, bf⟩
        have hq3 : q < w3.heap.size := rb3'.lt
        obtain ⟨room', steps', fa', fc', l', armed', dead', left'⟩ := r
        simp only [RD.v, DOp.v] at *
        have hnx' := hid hnx
        have hlow' := hid hlow
        have hrm2 := hid hrm'
        have hPR := hid hrm
        clear a1 a2 P P2 Pb hop rb hnx hd' hlow hrm' hrm low
        go_wp2_with fail
        refine a3.mono ?_
        rintro e w4 ⟨r', xs', rfl, hD4, hR4, hL4, mv4, n2, n3⟩
        have bq4 := rb3'.keptS mv4.kp hqf
        obtain ⟨W5, hW5, rb5, k5⟩ := set6_ex bq4 (.int .i64 r'.room) (.int .i64 r'.steps) (.slice r'.fa r'.l.length r'.fc) (.bool r'.armed) (.bool r'.dead) (.int .i64 r'.left)
        obtain ⟨P5, hqf5, hqr5⟩ := prStored P3 hq3 hqW hqf hqr hD4 hR4 hL4 mv4 n2 n3 k5
        have op5 : Op7 wr.heap.size o W5 := ((show Op7 wr.heap.size o w3 from ⟨y0, y1, y2, y3, y4, y5, y6⟩).kept mv4.kp hwq).kept k5 (by simp; omega)
        have hz1 : 0 ≤ freeD d' := by have := hD4.ok.sum; unfold freeD; omega
        have hz2 : freeD d' ≤ max room 0 := by have := hrm2.out; unfold freeD; omega
        have a4 := cFree P5.D
        have hN5 : xs'.length ≤ 1000000000000 := by have := len_of hD4; have := hlow'.out.len; omega
        have hN5' := hid (len_of hD4)
        have hfin5 : Hid (∀ w', Kp [] W5 w' → FullI W p mb q R l (j + 1) w') := fun w' k' => ⟨d', xs', r', P5.keep k', by rw [hso.out]; exact hlow'.out, by omega, hrm2.out, B6.kept rb5 k', hqf5, hqr5⟩
        obtain ⟨z, hz⟩ : ∃ z, z = freeD d' := ⟨_, rfl⟩
        rw [← hz] at a4 hz1 hz2 hsame
        have hz' := hid hz
        obtain ⟨q0, q1, q2, q3, q4, q5, qf⟩ := bq4
        have g0 := qf 0; have g1 := qf 1; have g2 := qf 2; have g3 := qf 3; have g4 := qf 4; have g5 := qf 5
        obtain ⟨room', steps', fa', fc', l', armed', dead', left'⟩ := r'
        simp only [RD.v] at *
        have hW5' := hid hW5
        clear hW5 a3 y0 y1 y2 y3 y4 y5 y6 b0 b1 b2 b3 b4 b5 hz P3 hD4 hR4 hL4 n2 n3 rb3' rb5
        go_wp2_with fail
        rw [hW5'.out]
        clear q0 q1 q2 q3 q4 q5 g0 g1 g2 g3 g4 g5 hW5' qf
        go_wp2_with fail
        refine a4.mono ?_
        rintro e w6 ⟨rfl, k6⟩
        have P6 := P5.keep k6
        have a5 := cFree P6.D
        rw [← hz'.out] at a5
        go_wp2_with fail
        refine a5.mono ?_
        rintro e w7 ⟨rfl, k7⟩
        have P7 := P6.keep k7
        have k57 : Kp [] W5 w7 := k6.trans k7 (by simp)
        have op7 : Op7 wr.heap.size o w7 := op5.kept k57 (by simp)
        obtain ⟨y0, y1, y2, y3, y4, y5, y6⟩ := op7
        clear a4 a5
        by_cases h0 : o.kind = 0
        · by_cases hbig : (o.b.bs.length : Int) > z0
          · obtain ⟨e1, e2⟩ := hsame.out (hfull.out h0 hbig)
            have a6 := cFree P7.D
            rw [← hz'.out, e1] at a6
            rw [h0] at y0
            have e1' := hid e1
            clear e1 h0
            go_wp2_with fail
            refine a6.mono ?_
            rintro e w8 ⟨rfl, k8⟩
            have a7 := cNames (P7.keep k8).D hN5
            go_wp2_with fail
            refine a7.mono ?_
            rintro e w9 ⟨na', nc', rfl, _, k9⟩
            rw [hN5'.out, e2]
            clear e2
            go_wp2_with fail
            exact ⟨⟨j + 1, by omega, by go_num, hfin5.out _ ((k57.trans k8 (by simp)).trans k9 (by simp))⟩, by simp [intOf]; omega⟩
          · rw [h0] at y0
            clear h0
            go_wp2_with fail
            exact ⟨⟨j + 1, by omega, by go_num, hfin5.out _ k57⟩, by simp [intOf]; omega⟩
        · have e0 : (o.kind == 0) = false := by simpa using h0
          clear h0
          go_wp2_with fail
          exact ⟨⟨j + 1, by omega, by go_num, hfin5.out _ k57⟩, by simp [intOf]; omega⟩
    · obtain ⟨d, xs, r, P, _⟩ := hA
      have kf := P.kp
      clear P
      go_wp2_with fail
      go_ret
      exact ⟨rfl, kf⟩
theorem sumB_blk (l : List DOp) : sumB l ≤ (l.map fun y => y.b.bs.length + 1).sum := by
  induction l with
  | nil => simp [sumB]
  | cons o l ih => simp only [sumB, List.map_cons, List.sum_cons] at *; omega
theorem fullWalk' (room : Int) (hroom : room < 9223372036854775808) (a : Option Addr) (c : Nat) (l1 : List DOp) (W : World) (hs1 : DOpE.See W a l1) (hok1 : ∀ o ∈ l1, o.ok W)
    (hb1 : (l1.map fun y => y.b.bs.length + 1).sum ≤ 1048576) (hn1 : l1.length ≤ 1048576) :
    Calls Try.prog 6 #[.int .i64 room, .slice a l1.length c] W (fun e W' => e = .returned (.bool true) ∧ Below W.heap.size W W') :=
  (fullWalk room hroom a c l1 W hs1 hok1 (Nat.le_trans (sumB_blk l1) hb1) hn1).mono fun e W' h => ⟨h.1, h.2.below⟩
end Go.Proofs.Ytgllkonbgigcbaa
end

section
namespace Go.Proofs.Ytgllkonbgigcbaa
open Go.RowKit Go.Hay
set_option linter.unusedVariables false
set_option linter.unusedSimpArgs false

/-- An armed disk beside one that is not: behind a call that is a step, or turns a bit. -/
def armed (d : Dk) (k : Nat) : Dk := ⟨d.room, d.steps, d.files, some k, false⟩
def plain (room steps : Nat) (files : List Fl) : Dk := ⟨room, steps, files, none, false⟩
/-- Behind a call: as it was, or another list of files with no step, or one step. -/
theorem arm_append (R s : Nat) (F : List Fl) (k : Nat) (name b : List UInt8) : ∃ F' j, j ≤ 1 ∧ (appendD (plain R s F) name b).1 = plain R (s + j) F' ∧ (if j = 1 ∧ k = 0 then ((appendD (armed (plain R s F) k) name b).1.dead = true ∧ (appendD (armed (plain R s F) k) name b).1.steps = s + 1) else (appendD (armed (plain R s F) k) name b).1 = armed (plain R (s + j) F') (k - j)) := by
  unfold appendD
  by_cases hn : nameOk name = true
  · by_cases hf : (b.length : Int) > (R : Int) - sumF F
    · refine ⟨F, 0, by omega, ?_, ?_⟩
      · simp [plain, hn, freeD, hf]
      · simp [plain, armed, hn, freeD, hf]
    · refine ⟨grownF F name b, 1, by omega, ?_, ?_⟩
      · simp [plain, hn, freeD, hf, stepD]
      · by_cases hk : k = 0
        · simp [plain, armed, hn, freeD, hf, stepD, hk]
        · simp [plain, armed, hn, freeD, hf, stepD, hk]
  · refine ⟨F, 0, by omega, ?_, ?_⟩
    · simp [plain, hn]
    · simp [plain, armed, hn]
theorem arm_do (R s : Nat) (F : List Fl) (k : Nat) (c : Int) (name to : List UInt8) (n : Int) : ∃ F' j, j ≤ 1 ∧ (doD (plain R s F) c name to n).1 = plain R (s + j) F' ∧ (if j = 1 ∧ k = 0 then ((doD (armed (plain R s F) k) c name to n).1.dead = true ∧ (doD (armed (plain R s F) k) c name to n).1.steps = s + 1) else (doD (armed (plain R s F) k) c name to n).1 = armed (plain R (s + j) F') (k - j)) := by
  have e : refusedD (armed (plain R s F) k) c name to n = refusedD (plain R s F) c name to n := rfl
  unfold doD
  rw [e]
  by_cases h : refusedD (plain R s F) c name to n = 0
  · refine ⟨changedF F c name to n, 1, by omega, ?_, ?_⟩
    · simp only [h, ne_eq, not_true_eq_false, if_false]; simp [plain, stepD]
    · simp only [h, ne_eq, not_true_eq_false, if_false]
      by_cases hk : k = 0
      · simp [plain, armed, stepD, hk]
      · simp [plain, armed, stepD, hk]
  · exact ⟨F, 0, by omega, by simp [h], by simp [h]⟩
theorem arm_flip (R s : Nat) (F : List Fl) (k : Nat) (name : List UInt8) (i b : Int) : ∃ F' j, j ≤ 1 ∧ (flipD (plain R s F) name i b) = plain R (s + j) F' ∧ (if j = 1 ∧ k = 0 then ((flipD (armed (plain R s F) k) name i b).dead = true ∧ (flipD (armed (plain R s F) k) name i b).steps = s + 1) else (flipD (armed (plain R s F) k) name i b) = armed (plain R (s + j) F') (k - j)) := by
  have e : flipOk (armed (plain R s F) k) name i b = flipOk (plain R s F) name i b := rfl
  unfold flipD
  rw [e]
  by_cases h : flipOk (plain R s F) name i b = true
  · exact ⟨putG Fl.name { fileOf F name with bytes := flipB (fileOf F name).bytes i.toNat b.toNat } false F, 0, by omega, by rw [if_pos h]; rfl, by rw [if_pos h, if_neg (by omega)]; rfl⟩
  · exact ⟨F, 0, by omega, by rw [if_neg h]; rfl, by rw [if_neg h, if_neg (by omega)]; rfl⟩
theorem arm_ch (R s : Nat) (F : List Fl) (k : Nat) (o : DOp) (ho : o.kind ≤ 4) : ∃ F' j, j ≤ 1 ∧ chD (plain R s F) o = plain R (s + j) F' ∧ (if j = 1 ∧ k = 0 then ((chD (armed (plain R s F) k) o).dead = true ∧ (chD (armed (plain R s F) k) o).steps = s + 1) else chD (armed (plain R s F) k) o = armed (plain R (s + j) F') (k - j)) := by
  have h7 : o.kind ≠ 7 := by omega
  have h11 : o.kind ≠ 11 := by omega
  unfold chD chgD
  simp only [h7, h11, if_false]
  by_cases h0 : o.kind = 0
  · simp only [h0, if_true]; exact arm_append ..
  by_cases h1 : o.kind = 1
  · simp only [h1, if_true, if_false, Int.reduceEq]; exact arm_do ..
  by_cases h2 : o.kind = 2
  · simp only [h2, if_true, if_false, Int.reduceEq]; exact arm_do ..
  by_cases h3 : o.kind = 3
  · simp only [h3, if_true, if_false, Int.reduceEq]; exact arm_do ..
  by_cases h4 : o.kind = 4
  · simp only [h4, if_true, if_false, Int.reduceEq]; exact arm_do ..
  simp only [h0, h1, h2, h3, h4, if_false]
  exact arm_flip ..
theorem len_putG_mem {f : Fl} {l : List Fl} (hr : riseG Fl.name l) (h : ∃ x ∈ l, x.name = f.name) : (putG Fl.name f false l).length = l.length := by
  rw [putG_set f l hr h]; simp
/-- A dead one: nothing is done but bits turned. -/
theorem dead_ch {d : Dk} (hd : d.dead = true) (hr : riseG Fl.name d.files) (o : DOp) (ho : o.kind ≤ 4) : (chD d o).dead = true ∧ (chD d o).steps = d.steps ∧ (chD d o).files.length = d.files.length := by
  have h7 : o.kind ≠ 7 := by omega
  have h11 : o.kind ≠ 11 := by omega
  have hA : ∀ name b, (appendD d name b).1 = d := fun name b => by simp [appendD, hd]
  have hDo : ∀ c name to n, (doD d c name to n).1 = d := fun c name to n => by rw [ref_dead hd]
  unfold chD chgD
  simp only [h7, h11, if_false, hA, hDo]
  split
  · exact ⟨hd, rfl, rfl⟩
  split
  · exact ⟨hd, rfl, rfl⟩
  split
  · exact ⟨hd, rfl, rfl⟩
  split
  · exact ⟨hd, rfl, rfl⟩
  split
  · exact ⟨hd, rfl, rfl⟩
  unfold flipD
  split
  · rename_i hf
    refine ⟨hd, rfl, ?_⟩
    cases hl : lookG Fl.name o.name d.files with
    | none => unfold flipOk at hf; simp [hl] at hf
    | some f =>
      have hm := lookG_some hl
      exact len_putG_mem hr ⟨f, hm.1, by simp [fileOf, hl]⟩
  · exact ⟨hd, rfl, rfl⟩

/-- Two disks, a reference beside each, in their boxes. -/
structure ArmS (W w : World) (p mb : Nat) (xs : List Ent) (da : Dk) (p2 mb2 : Nat) (ys : List Ent) (db : Dk) (ra : RD) (dr : Dk) (rb : RD) (q1 q2 : Nat) : Prop where
  T : Two W w p mb xs da p2 mb2 ys db
  R1 : RdOk w ra
  L1 : Like ra dr
  R2 : RdOk w rb
  L2 : Like rb db
  a1 : ∀ k ∈ ra.foot, k ∉ foot p mb xs
  a2 : ∀ k ∈ ra.foot, k ∉ foot p2 mb2 ys
  b1 : ∀ k ∈ rb.foot, k ∉ foot p mb xs
  b2 : ∀ k ∈ rb.foot, k ∉ foot p2 mb2 ys
  B1 : RB w q1 ra
  B2 : RB w q2 rb
  w1 : W.heap.size ≤ q1
  w2 : W.heap.size ≤ q2
  s1 : q1 ∉ foot p mb xs ∧ q1 ∉ foot p2 mb2 ys ∧ q1 ∉ ra.foot ∧ q1 ∉ rb.foot
  s2 : q2 ∉ foot p mb xs ∧ q2 ∉ foot p2 mb2 ys ∧ q2 ∉ ra.foot ∧ q2 ∉ rb.foot
  qn : q1 ≠ q2
section
variable {W w w4 w5 : World} {p mb p2 mb2 q1 q2 : Nat} {xs ys xs' ys' : List Ent} {da db dr da' db' dr' : Dk} {ra rb ra' rb' : RD}
theorem ArmS.keep (h : ArmS W w p mb xs da p2 mb2 ys db ra dr rb q1 q2) (k : Kp [] w w4) : ArmS W w4 p mb xs da p2 mb2 ys db ra dr rb q1 q2 :=
  ⟨h.T.keep k, h.R1.keptNew k, h.L1, h.R2.keptNew k, h.L2, h.a1, h.a2, h.b1, h.b2, B6.kept h.B1 k, B6.kept h.B2 k, h.w1, h.w2, h.s1, h.s2, h.qn⟩
/-- Behind a call on the first; its reference not kept. -/
theorem ArmS.chg0 (h : ArmS W w p mb xs da p2 mb2 ys db ra dr rb q1 q2) (hD : Disk w4 p mb xs' da') (mv : Mv (foot p mb xs) w (foot p mb xs') w4) : ArmS W w4 p mb xs' da' p2 mb2 ys db ra dr rb q1 q2 := by
  have hra := h.R1.lt
  have hrb := h.R2.lt
  have hq1 := B6.lt h.B1
  have hq2 := B6.lt h.B2
  have off : ∀ k, k < w.heap.size → k ∉ foot p mb xs → k ∉ foot p mb xs' := fun k hk hn hx => by
    rcases mv.new k hx with h1 | h1
    · exact hn h1
    · omega
  exact ⟨h.T.chg1 hD mv, h.R1.kept mv.kp (fun k hk => h.a1 k hk), h.L1, h.R2.kept mv.kp (fun k hk => h.b1 k hk), h.L2, fun k hk => off k (hra k hk) (h.a1 k hk), h.a2, fun k hk => off k (hrb k hk) (h.b1 k hk), h.b2,
    B6.keptS h.B1 mv.kp h.s1.1, B6.keptS h.B2 mv.kp h.s2.1, h.w1, h.w2, ⟨off q1 hq1 h.s1.1, h.s1.2⟩, ⟨off q2 hq2 h.s2.1, h.s2.2⟩, h.qn⟩
/-- Behind a call on the first, and the store of its reference. -/
theorem ArmS.chgA (h : ArmS W w p mb xs da p2 mb2 ys db ra dr rb q1 q2) (hD : Disk w4 p mb xs' da') (hR : RdOk w4 ra') (hL : Like ra' dr') (mv : Mv (foot p mb xs) w (foot p mb xs') w4) (n2 : ∀ k ∈ ra'.foot, k ∈ ra.foot ∨ w.heap.size ≤ k) (n3 : ∀ k ∈ ra'.foot, k ∉ foot p mb xs') (k5 : Kp [q1] w4 w5) (hB : RB w5 q1 ra') : ArmS W w5 p mb xs' da' p2 mb2 ys db ra' dr' rb q1 q2 := by
  have h0 := h.chg0 hD mv
  have hq1 := B6.lt h.B1
  have hq2 := B6.lt h.B2
  have hys := h.T.D2.lt
  have hrb := h.R2.lt
  have in1 : ∀ {F : List Nat}, q1 ∉ F → ∀ k ∈ F, k ∉ [q1] := fun hn k hk hx => by simp at hx; subst hx; exact hn hk
  have hr1 : q1 ∉ ra'.foot := fun hx => by
    rcases n2 q1 hx with h1 | h1
    · exact h.s1.2.2.1 h1
    · omega
  have hr2 : q2 ∉ ra'.foot := fun hx => by
    rcases n2 q2 hx with h1 | h1
    · exact h.s2.2.2.1 h1
    · omega
  refine ⟨⟨h0.T.D1.kept k5 (in1 h0.s1.1), h0.T.D2.kept k5 (in1 h0.s1.2.1), h0.T.kp.trans k5 (fun x hx => .inr (by simp at hx; subst hx; exact h.w1)), h0.T.n1, h0.T.n2, h0.T.dj⟩, hR.kept k5 (in1 hr1), hL, h0.R2.kept k5 (in1 h0.s1.2.2.2), h0.L2, n3, fun k hk hx => ?_, h0.b1, h0.b2, hB, B6.keptS h0.B2 k5 (by simpa using Ne.symm h.qn), h.w1, h.w2, ⟨h0.s1.1, h0.s1.2.1, hr1, h0.s1.2.2.2⟩, ⟨h0.s2.1, h0.s2.2.1, hr2, h0.s2.2.2.2⟩, h.qn⟩
  rcases n2 k hk with h1 | h1
  · exact h.a2 k h1 hx
  · have := hys k hx; omega
/-- Behind a call on the second, and the store of its reference. -/
theorem ArmS.chgB (h : ArmS W w p mb xs da p2 mb2 ys db ra dr rb q1 q2) (hD : Disk w4 p2 mb2 ys' db') (hR : RdOk w4 rb') (hL : Like rb' db') (mv : Mv (foot p2 mb2 ys) w (foot p2 mb2 ys') w4) (n2 : ∀ k ∈ rb'.foot, k ∈ rb.foot ∨ w.heap.size ≤ k) (n3 : ∀ k ∈ rb'.foot, k ∉ foot p2 mb2 ys') (k5 : Kp [q2] w4 w5) (hB : RB w5 q2 rb') : ArmS W w5 p mb xs da p2 mb2 ys' db' ra dr rb' q1 q2 := by
  have hra := h.R1.lt
  have hrb := h.R2.lt
  have hq1 := B6.lt h.B1
  have hq2 := B6.lt h.B2
  have hxs := h.T.D1.lt
  have off : ∀ k, k < w.heap.size → k ∉ foot p2 mb2 ys → k ∉ foot p2 mb2 ys' := fun k hk hn hx => by
    rcases mv.new k hx with h1 | h1
    · exact hn h1
    · omega
  have T4 := h.T.chg2 hD mv
  have in2 : ∀ {F : List Nat}, q2 ∉ F → ∀ k ∈ F, k ∉ [q2] := fun hn k hk hx => by simp at hx; subst hx; exact hn hk
  have hr1 : q1 ∉ rb'.foot := fun hx => by
    rcases n2 q1 hx with h1 | h1
    · exact h.s1.2.2.2 h1
    · omega
  have hr2 : q2 ∉ rb'.foot := fun hx => by
    rcases n2 q2 hx with h1 | h1
    · exact h.s2.2.2.2 h1
    · omega
  refine ⟨⟨T4.D1.kept k5 (in2 h.s2.1), T4.D2.kept k5 (in2 (off q2 hq2 h.s2.2.1)), T4.kp.trans k5 (fun x hx => .inr (by simp at hx; subst hx; exact h.w2)), T4.n1, T4.n2, T4.dj⟩, (h.R1.kept mv.kp (fun k hk => h.a2 k hk)).kept k5 (in2 h.s2.2.2.1), h.L1, hR.kept k5 (in2 hr2), hL, h.a1, fun k hk => off k (hra k hk) (h.a2 k hk), fun k hk hx => ?_, n3, B6.keptS (B6.keptS h.B1 mv.kp h.s1.2.1) k5 (by simpa using h.qn), hB, h.w1, h.w2, ⟨h.s1.1, off q1 hq1 h.s1.2.1, h.s1.2.2.1, hr1⟩, ⟨h.s2.1, off q2 hq2 h.s2.2.1, h.s2.2.2.1, hr2⟩, h.qn⟩
  rcases n2 k hk with h1 | h1
  · exact h.b1 k h1 hx
  · have := hxs k hx; omega
end
end Go.Proofs.Ytgllkonbgigcbaa
end

section
namespace Go.Proofs.Ytgllkonbgigcbaa
open Go.RowKit Go.Hay
set_option linter.unusedVariables false
set_option linter.unusedSimpArgs false

/-- How both stand behind j calls. -/
def ArmI (W : World) (p mb p2 mb2 q1 q2 : Nat) (at_ : Int) (l : List DOp) (j : Nat) (wn : World) : Prop :=
  ∃ (R s : Nat) (F : List Fl) (da : Dk) (xs ys : List Ent) (ra rb : RD), ArmS W wn p mb xs da p2 mb2 ys (plain R s F) ra (plain R s F) rb q1 q2 ∧ Lw (sumB (l.take j)) j (plain R s F) ∧ Lw (sumB (l.take j)) j da ∧ s ≤ j ∧ da.steps ≤ j + 1 ∧ ((∃ k : Nat, da = armed (plain R s F) k ∧ (k : Int) + s = at_) ∨ (da.dead = true ∧ (da.steps : Int) = at_ + 1))
theorem offTwo {W w : World} {p mb : Nat} {xs : List Ent} {o : DOp} (ho : o.ok W) (h : ∀ k ∈ foot p mb xs, W.heap.size ≤ k) : o.b.bs ≠ [] → ∀ k ∈ blk o.b.a, k ∉ foot p mb xs := offArg (w := w) ho h
set_option maxHeartbeats 16000000 in
set_option maxRecDepth 100000 in
theorem armedWalk (room : Int) (hroom : room < 9223372036854775808) (a : Option Addr) (c : Nat) (l : List DOp) (at_ : Int) (hat0 : -9223372036854775808 ≤ at_) (hat1 : at_ < 9223372036854775808) (W : World) (hs1 : DOpE.See W a l) (hok1 : ∀ o ∈ l, o.ok W) (hb1 : sumB l ≤ 1048576) (hn1 : l.length ≤ 1048576) :
    Calls Try.prog 5 #[.int .i64 room, .slice a l.length c, .int .i64 at_] W (fun e W' => e = .returned (.bool true) ∧ Kp [] W W') := by
  go_enter Try.func5, Try.ntmps5
  go_wp2_with fail
  refine (cBegun room W hroom).mono ?_
  rintro e w1 ⟨p, mb, rfl, hD1, k1, hp, hmb⟩
  have a2 := cNew room w1 hroom
  go_wp2_with fail
  refine a2.mono ?_
  rintro e w2 ⟨p2, mb2, rfl, hD2, k2, hp2, hmb2⟩
  clear a2
  by_cases hneg : at_ < 0
  · have kf : Kp [] W w2 := k1.trans k2 (by simp)
    go_wp2_with fail
    go_ret
    exact ⟨rfl, kf⟩
  have a3 := cArm (hD1.keptNew k2) at_ hat1
  have hlt1 := hD1.lt
  go_wp2_with fail
  refine a3.mono ?_
  rintro e w3 ⟨rfl, hD3, k3⟩
  have hpne : p ∉ foot p2 mb2 [] := fun h => by have := hlt1 p (by simp [foot]); simp [foot] at h; omega
  have hE3 := hD2.kept k3 (fun k hk h => by simp at h; subst h; exact hpne hk)
  have a4 := cRefNew room w3 hroom
  clear a3
  go_wp2_with fail
  refine a4.mono ?_
  rintro e w4 ⟨v, rfl, ra, rfl, hr4, hL4, k4, hft4⟩
  have a5 := cRefNew room w4 hroom
  clear a4
  go_wp2_with fail
  refine a5.mono ?_
  rintro e w5 ⟨v, rfl, rb, rfl, hr5, hL5, k5, hft5⟩
  obtain ⟨w6, hw6, k6, rb6, hsz6⟩ := boxR ra w5
  obtain ⟨w7, hw7, k7, rb7, hsz7⟩ := boxR rb w6
  clear a5
  obtain ⟨R, hR⟩ : ∃ R, R = room.toNat := ⟨_, rfl⟩
  have hnd : newD room = plain R 0 [] := by rw [hR]; rfl
  have hda : armD (newD room) at_ = armed (plain R 0 []) at_.toNat := by rw [hnd]; simp [armD, plain, armed]; omega
  rw [hda] at hD3
  rw [hnd] at hE3 hL4 hL5
  have z1 := k1.size; have z2 := k2.size; have z3 := k3.size; have z4 := k4.size; have z5 := k5.size; have z6 := k6.size; have z7 := k7.size
  have k37 : Kp [] w3 w7 := ((k4.trans k5 (by simp)).trans k6 (by simp)).trans k7 (by simp)
  have hW3 : Kp [] W w3 := (k1.trans k2 (by simp)).trans k3 (fun x hx => .inr (by simp at hx; omega))
  have ltp : ∀ k ∈ foot p mb [], k < w1.heap.size := hlt1
  have ltp2 : ∀ k ∈ foot p2 mb2 [], k < w2.heap.size := hD2.lt
  have gep2 : ∀ k ∈ foot p2 mb2 [], w1.heap.size ≤ k := fun k hk => by simp [foot] at hk; omega
  have fra : ∀ k ∈ ra.foot, w3.heap.size ≤ k := fun k hk => by
    rcases hft4 k hk with h | h
    · cases h
    · exact h
  have frb : ∀ k ∈ rb.foot, w4.heap.size ≤ k := fun k hk => by
    rcases hft5 k hk with h | h
    · cases h
    · exact h
  have lra := hr4.lt
  have lrb := hr5.lt
  have A0 : Hid (ArmI W p mb p2 mb2 w5.heap.size w6.heap.size at_ l 0 w7) := by
    refine ⟨R, 0, [], armed (plain R 0 []) at_.toNat, [], [], ra, rb, ⟨⟨hD3.keptNew k37, hE3.keptNew k37, hW3.trans k37 (by simp), fun k hk => by simp [foot] at hk; omega, fun k hk => by have := gep2 k hk; omega, fun k hk hx => by have := ltp k hk; have := gep2 k hx; omega⟩, ((hr4.keptNew k5).keptNew k6).keptNew k7, hL4, (hr5.keptNew k6).keptNew k7, hL5, ?_, ?_, ?_, ?_, B6.kept rb6 k7, rb7, by omega, by omega, ⟨?_, ?_, ?_, ?_⟩, ⟨?_, ?_, ?_, ?_⟩, by omega⟩, ⟨by simp [plain, sumF], by simp [plain]⟩, ⟨by simp [plain, armed, sumF], by simp [plain, armed]⟩, Nat.le_refl _, by simp [plain, armed], .inl ⟨at_.toNat, rfl, by omega⟩⟩
    · intro k hk hx; have := fra k hk; have := ltp k hx; omega
    · intro k hk hx; have := fra k hk; have := ltp2 k hx; omega
    · intro k hk hx; have := frb k hk; have := ltp k hx; omega
    · intro k hk hx; have := frb k hk; have := ltp2 k hx; omega
    · intro hx; have := ltp _ hx; omega
    · intro hx; have := ltp2 _ hx; omega
    · intro hx; have := lra _ hx; omega
    · intro hx; have := lrb _ hx; omega
    · intro hx; have := ltp _ hx; omega
    · intro hx; have := ltp2 _ hx; omega
    · intro hx; have := lra _ hx; omega
    · intro hx; have := lrb _ hx; omega
  obtain ⟨ra0, ra1, ra2, ra3, ra4, ra5, ra6, ra7⟩ := ra
  obtain ⟨rb0, rb1, rb2, rb3, rb4, rb5, rb6', rb7'⟩ := rb
  simp only [RD.v] at *
  have hq2 : w6.heap.size = w5.heap.size + 1 := by rw [← hw6]; simp
  rw [hq2] at A0
  have hw6' := hid hw6
  have hw7' := hid hw7
  clear hw6 hw7 rb6 rb7 hD1 hD2 hD3 hE3 hr4 hr5 hL4 hL5 hft4 hft5 k1 k2 k3 k4 k5 k6 k7 hlt1 k37 hW3 ltp ltp2 gep2 fra frb lra lrb hnd hda hR hpne
  clear hsz6 hsz7 hq2
  obtain ⟨aw, haw⟩ : ∃ aw : Int, Hid (IntKind.i64.wrap (at_ + 1) = aw) := ⟨_, rfl⟩
  have hwr := haw.out
  have hawE : Hid ((at_ + 1 < 9223372036854775808 ∧ aw = at_ + 1) ∨ (at_ + 1 = 9223372036854775808 ∧ aw = -9223372036854775808)) := by
    have h := haw.out
    rw [IntKind.wrap_i64] at h
    show _ ∨ _
    omega
  have hat0' := hid hat0
  have hat1' := hid hat1
  have hneg' := hid hneg
  go_wp2_with fail
  rw [hw6'.out, hw7'.out]
  obtain ⟨q1, hq1⟩ : ∃ q1, q1 = w5.heap.size := ⟨_, rfl⟩
  rw [← hq1] at A0 ⊢
  obtain ⟨q2, hq2⟩ : ∃ q2, q2 = q1 + 1 := ⟨_, rfl⟩
  rw [← hq2] at A0 ⊢
  clear hq1 hq2 hw6' hw7' hat0 hat1 hneg z1 z2 z3 z4 z5 z6 z7
  go_loopw [44] (fun i wn => ∃ j : Nat, j ≤ l.length ∧ i = .int .i64 j ∧ ArmI W p mb p2 mb2 q1 q2 at_ l j wn) (fun i _ => l.length - (intOf i).toNat)
  case atStart => exact ⟨0, Nat.zero_le _, rfl, A0.out⟩
  case round =>
    clear A0
    obtain ⟨j, hj, rfl, hA⟩ := hrel
    by_cases hjl : j < l.length
    · obtain ⟨o, ho⟩ : ∃ o, l[j]? = some o := ⟨l[j], by simp [hjl]⟩
      have hom := List.mem_of_getElem? ho
      have hso := hid (sumB_take ho)
      have hsl := sumB_le l (j + 1)
      obtain ⟨R, s, F, da, xs, ys, ra, rb, S, lowb, lowa, hsj, hdj, hst⟩ := hA
      have hst := hid hst
      obtain ⟨g, f, rfl, x0, x1, x2, x3, x4, x5, x6⟩ := dopAt (hs1.keptNew S.T.kp) ho
      obtain ⟨wb, hwb, kb, hop, hqb⟩ := box7 o wr
      have Sb := S.keep kb
      have hlq1 : q1 < wr.heap.size := B6.lt S.B1
      have hlq2 : q2 < wr.heap.size := B6.lt S.B2
      have hwq1 : wr.heap.size ∉ foot p mb xs := fun h => by have := S.T.D1.lt _ h; omega
      have hwq2 : wr.heap.size ∉ foot p2 mb2 ys := fun h => by have := S.T.D2.lt _ h; omega
      have hop0 := hop
      obtain ⟨y0, y1, y2, y3, y4, y5, y6⟩ := hop0
      have hwb' := hid hwb
      have hoW := hok1 o hom
      have hlowb := hid lowb
      have hlowa := hid lowa
      clear hwb ho lowb lowa
      by_cases hko : 4 < o.kind
      · have hfin1 : Hid (ArmI W p mb p2 mb2 q1 q2 at_ l (j + 1) wb) := ⟨R, s, F, da, xs, ys, ra, rb, Sb, hlowb.out.mono (by have := hso.out; omega) (by omega), hlowa.out.mono (by have := hso.out; omega) (by omega), by omega, by omega, hst.out⟩
        clear S Sb hop
        go_wp2_with fail
        rw [hwb'.out]
        exact ⟨⟨j + 1, by omega, by go_num, hfin1.out⟩, by simp [intOf]; omega⟩
      · have hok4 : o.kind ≤ 4 := by omega
        have a1 := cDead Sb.T.D1
        have hK : sumB (l.take j) + o.b.bs.length ≤ 100000000000000 := by have := hso.out; omega
        have lowa' := lw_ch o hlowa.out S.T.D1.ok (by omega)
        have lowb' := lw_ch o hlowb.out S.T.D2.ok (by omega)
        have hb64 : Hid (s < 9000000000000000000 ∧ da.steps < 9000000000000000000) := ⟨by omega, by omega⟩
        have cA : Hid (∀ A (xs : List Ent) (ra : RD), Kp [] W A → Disk A p mb xs da → RdOk A ra → Like ra (plain R s F) → (∀ k ∈ ra.foot, k ∉ foot p mb xs) → (∀ k ∈ foot p mb xs, W.heap.size ≤ k) → Okd (plain R s F) → Calls Try.prog 20 #[.pointer (some ⟨p, 0, none⟩), ra.v, o.v] A (ChQ p mb xs (chD da o) ra.foot (chD (plain R s F) o) (ansD da o == ansD (plain R s F) o) A)) := fun A xs ra kA hD hR hL hap hnw hok => cChange hD hlowa.out hb64.out.2 ra hR _ hL hok hlowb.out hb64.out.1 hap o (hoW.kept kA) hK (by omega) (offTwo (w := A) hoW hnw)
        cases hdd : da.dead with
        | true =>
          rw [hdd] at a1
          have hst2 : (da.steps : Int) = at_ + 1 := by
            rcases hst.out with ⟨k, e, _⟩ | ⟨_, h⟩
            · rw [e] at hdd; simp [armed] at hdd
            · exact h
          have haw2 : aw = (da.steps : Int) := by
            rcases hawE.out with ⟨_, h⟩ | ⟨h1, _⟩
            · omega
            · omega
          obtain ⟨hd1, hd2, hd3⟩ := dead_ch hdd S.T.D1.ok.rise o hok4
          have hNx : xs.length ≤ 1000000000000 := by have := len_of S.T.D1; have := hlowa.out.len; omega
          have hst3 := hid hst2
          have haw3 := hid haw2
          have hq2c := B6.c0 S.B2
          clear hst2 haw2 hq2c
          go_wp2_with fail
          rw [hwb'.out]
          refine a1.mono ?_
          rintro e _ ⟨rfl, rfl⟩
          clear x0 x1 x2 x3 x4 x5 x6 S a1
          have a2 := cNames Sb.T.D1 hNx
          go_wp2_with fail
          refine a2.mono ?_
          rintro e w2 ⟨na, nc, rfl, _, k2⟩
          clear a2
          have S2 := Sb.keep k2
          have op2 : Op7 wr.heap.size o w2 := hop.kept k2 (by simp)
          have aC := cA.out w2 xs ra S2.T.kp S2.T.D1 S2.R1 S2.L1 S2.a1 S2.T.n1 S2.T.D2.ok
          have b0 := B6.c0 S2.B1; have b1 := B6.c1 S2.B1; have b2 := B6.c2 S2.B1; have b3 := B6.c3 S2.B1; have b4 := B6.c4 S2.B1; have b5 := B6.c5 S2.B1
          obtain ⟨y0, y1, y2, y3, y4, y5, y6⟩ := op2
          obtain ⟨bb, hbb⟩ : ∃ bb, Hid (bb = (ansD da o == ansD (plain R s F) o)) := ⟨_, rfl⟩
          rw [← hbb.out] at aC
          have hxl : Hid ((chD da o).files.length = xs.length) := by show _ = _; rw [hd3, len_of S2.T.D1]
          have hfin : Hid (∀ xs' w', ArmS W w' p mb xs' (chD da o) p2 mb2 ys (plain R s F) ra (plain R s F) rb q1 q2 → ArmI W p mb p2 mb2 q1 q2 at_ l (j + 1) w') := fun xs' w' S' => ⟨R, s, F, chD da o, xs', ys, ra, rb, S', hlowb.out.mono (by have := hso.out; omega) (by omega), by rw [hso.out]; exact lowa', by omega, by omega, .inr ⟨hd1, by rw [hd2]; exact hst3.out⟩⟩
          obtain ⟨ra0, ra1, ra2, ra3, ra4, ra5, ra6, ra7⟩ := ra
          simp only [RD.v, DOp.v] at *
          clear hop Sb
          go_wp2_with fail
          refine aC.mono ?_
          rintro e w3 ⟨r', xs', rfl, hD3, hR3, hL3, mv3, n2, n3⟩
          have S3 := S2.chg0 hD3 mv3
          obtain ⟨w4, hw4, k4, rb4, hsz4⟩ := boxR r' w3
          have S4 := S3.keep k4
          have a4 := cDead S4.T.D1
          rw [hd1] at a4
          have hxl' : Hid (xs'.length = xs.length) := by show _ = _; rw [len_of hD3]; exact hxl.out
          have hNx' : xs'.length ≤ 1000000000000 := by have := hxl'.out; omega
          obtain ⟨r0, r1, r2, r3, r4, r5, r6, r7⟩ := r'
          simp only [RD.v] at *
          have hw4' := hid hw4
          clear hw4 aC b0 b1 b2 b3 b4 b5 y0 y1 y2 y3 y4 y5 y6 S2 S3 hD3 hR3 hL3 mv3 n2 n3 rb4 cA
          cases bb with
          | true =>
            go_wp2_with fail
            rw [hw4'.out]
            refine a4.mono ?_
            rintro e x4 ⟨rfl, hx4⟩
            rw [hx4]
            have a5 := cSteps S4.T.D1
            rw [hd2, ← haw3.out] at a5
            go_wp2_with fail
            refine a5.mono ?_
            rintro e x5 ⟨rfl, hx5⟩
            rw [hx5]
            go_wp2_with fail
            exact ⟨⟨j + 1, by omega, by go_num, hfin.out _ _ S4⟩, by simp [intOf]; omega⟩
          | false =>
            go_wp2_with fail
            rw [hw4'.out]
            refine a4.mono ?_
            rintro e x4 ⟨rfl, hx4⟩
            rw [hx4]
            have a5 := cNames S4.T.D1 hNx'
            go_wp2_with fail
            refine a5.mono ?_
            rintro e w5 ⟨na', nc', rfl, _, k5⟩
            rw [hxl'.out]
            have S5 := S4.keep k5
            have a6 := cSteps S5.T.D1
            rw [hd2, ← haw3.out] at a6
            go_wp2_with fail
            refine a6.mono ?_
            rintro e x5 ⟨rfl, hx5⟩
            rw [hx5]
            go_wp2_with fail
            exact ⟨⟨j + 1, by omega, by go_num, hfin.out _ _ S5⟩, by simp [intOf]; omega⟩
        | false =>
          rw [hdd] at a1
          obtain ⟨k, e, hk⟩ : ∃ k : Nat, da = armed (plain R s F) k ∧ (k : Int) + s = at_ := by
            rcases hst.out with h | ⟨h, _⟩
            · exact h
            · rw [hdd] at h; cases h
          subst e
          obtain ⟨F', i, hi, hdb, hcase⟩ := arm_ch R s F k o hok4
          obtain ⟨da', hda'⟩ : ∃ da', da' = chD (armed (plain R s F) k) o := ⟨_, rfl⟩
          rw [hdb] at lowb'
          rw [← hda'] at lowa' hcase
          have cA2 := cA
          rw [← hda'] at cA2
          rw [hdb] at cA2
          have cB : Hid (∀ A (ys : List Ent) (rb : RD), Kp [] W A → Disk A p2 mb2 ys (plain R s F) → RdOk A rb → Like rb (plain R s F) → (∀ k ∈ rb.foot, k ∉ foot p2 mb2 ys) → (∀ k ∈ foot p2 mb2 ys, W.heap.size ≤ k) → Calls Try.prog 20 #[.pointer (some ⟨p2, 0, none⟩), rb.v, o.v] A (ChQ p2 mb2 ys (plain R (s + i) F') rb.foot (plain R (s + i) F') true A)) := fun A ys rb kA hD hR hL hap hnw => by
            have := cChange hD hlowb.out hb64.out.1 rb hR _ hL hD.ok hlowb.out hb64.out.1 hap o (hoW.kept kA) hK (by omega) (offTwo (w := A) hoW hnw)
            rw [hdb, show (ansD (plain R s F) o == ansD (plain R s F) o) = true by simp] at this
            exact this
          have hstD : Hid (da'.steps = s + i ∧ ((da'.dead = true ∧ (s : Int) + i = at_ + 1) ∨ (da'.dead = false ∧ da' = armed (plain R (s + i) F') (k - i) ∧ (s : Int) + i < at_ + 1 ∧ ((k - i : Nat) : Int) + ((s + i : Nat) : Int) = at_))) := by
            show _ ∧ _
            by_cases hc : i = 1 ∧ k = 0
            · rw [if_pos hc] at hcase
              exact ⟨by rw [hcase.2]; omega, .inl ⟨hcase.1, by omega⟩⟩
            · rw [if_neg hc] at hcase
              refine ⟨by rw [hcase]; rfl, .inr ⟨by rw [hcase]; rfl, hcase, by omega, by omega⟩⟩
          have hq1c : RB wr q1 ra := S.B1
          clear hst hcase hdb hda' cA
          go_wp2_with fail
          rw [hwb'.out]
          refine a1.mono ?_
          rintro e x0 ⟨rfl, hx0⟩
          rw [hx0]
          clear x0 x1 x2 x3 x4 x5 x6 S a1 hx0
          have aC := cA2.out wb xs ra Sb.T.kp Sb.T.D1 Sb.R1 Sb.L1 Sb.a1 Sb.T.n1 Sb.T.D2.ok
          have b0 := B6.c0 Sb.B1; have b1 := B6.c1 Sb.B1; have b2 := B6.c2 Sb.B1; have b3 := B6.c3 Sb.B1; have b4 := B6.c4 Sb.B1; have b5 := B6.c5 Sb.B1
          have hSb := Sb
          obtain ⟨ra0, ra1, ra2, ra3, ra4, ra5, ra6, ra7⟩ := ra
          simp only [RD.v, DOp.v] at *
          clear Sb
          go_wp2_with fail
          refine aC.mono ?_
          rintro e w3 ⟨r', xs', rfl, hD3, hR3, hL3, mv3, n2, n3⟩
          have bq3 := B6.keptS hSb.B1 mv3.kp hSb.s1.1
          obtain ⟨W4, hW4, rb4, k4⟩ := set6_ex bq3 (.int .i64 r'.room) (.int .i64 r'.steps) (.slice r'.fa r'.l.length r'.fc) (.bool r'.armed) (.bool r'.dead) (.int .i64 r'.left)
          have S4 := hSb.chgA hD3 hR3 hL3 mv3 n2 n3 k4 rb4
          have op4 : Op7 wr.heap.size o W4 := (hop.kept mv3.kp hwq1).kept k4 (by simp; omega)
          obtain ⟨q0, q1', q2', q3, q4, q5, qf⟩ := bq3
          have g0 := qf 0; have g1 := qf 1; have g2 := qf 2; have g3 := qf 3; have g4 := qf 4; have g5 := qf 5
          have aB := cB.out W4 ys rb S4.T.kp S4.T.D2 S4.R2 S4.L2 S4.b2 S4.T.n2
          have hB2 := S4.B2
          obtain ⟨r0, r1, r2, r3, r4, r5, r6, r7⟩ := r'
          obtain ⟨rb0, rb1, rb2, rb3, rb4', rb5, rb6, rb7⟩ := rb
          simp only [RD.v] at *
          have hW4' := hid hW4
          clear hW4 aC y0 y1 y2 y3 y4 y5 y6 b0 b1 b2 b3 b4 b5 hD3 hR3 hL3 n2 n3 cA2 cB
          obtain ⟨y0, y1, y2, y3, y4, y5, y6⟩ := hop.kept mv3.kp hwq1
          have hB23 := B6.keptS hSb.B2 mv3.kp hSb.s2.1
          have b0 := B6.c0 hB23; have b1 := B6.c1 hB23; have b2 := B6.c2 hB23; have b3 := B6.c3 hB23; have b4 := B6.c4 hB23; have b5 := B6.c5 hB23
          have ne1 : q1 ≠ q2 := hSb.qn
          have ne2 : q2 ≠ q1 := Ne.symm hSb.qn
          have ne3 : q1 ≠ wr.heap.size := by omega
          have ne4 : wr.heap.size ≠ q1 := by omega
          go_wp2_with fail
          rw [hW4'.out]
          clear q0 q1' q2' q3 q4 q5 g0 g1 g2 g3 g4 g5 hW4' qf y0 y1 y2 y3 y4 y5 y6 b0 b1 b2 b3 b4 b5 hop
          refine aB.mono ?_
          rintro e w5 ⟨r', ys', rfl, hD5, hR5, hL5, mv5, n2, n3⟩
          have bq5 := B6.keptS hB2 mv5.kp S4.s2.2.1
          obtain ⟨W6, hW6, rb6', k6⟩ := set6_ex bq5 (.int .i64 r'.room) (.int .i64 r'.steps) (.slice r'.fa r'.l.length r'.fc) (.bool r'.armed) (.bool r'.dead) (.int .i64 r'.left)
          have S6 := S4.chgB hD5 hR5 hL5 mv5 n2 n3 k6 rb6'
          obtain ⟨q0, q1', q2', q3, q4, q5, qf⟩ := bq5
          have g0 := qf 0; have g1 := qf 1; have g2 := qf 2; have g3 := qf 3; have g4 := qf 4; have g5 := qf 5
          have hfin : Hid (∀ w', Kp [] W6 w' → ArmI W p mb p2 mb2 q1 q2 at_ l (j + 1) w') := fun w' k' => by
            obtain ⟨h1, h2⟩ := hstD.out
            refine ⟨R, s + i, F', da', xs', ys', _, _, S6.keep k', by rw [hso.out]; exact lowb', by rw [hso.out]; exact lowa', by omega, by omega, ?_⟩
            rcases h2 with ⟨h3, h4⟩ | ⟨_, h3, _, h4⟩
            · exact .inr ⟨h3, by rw [h1]; omega⟩
            · exact .inl ⟨k - i, h3, by omega⟩
          obtain ⟨st, hstl⟩ : ∃ st : Nat, st = s + i := ⟨_, rfl⟩
          have hsa : Hid (∀ A, Kp [] W6 A → Calls Try.prog 15 #[.pointer (some ⟨p, 0, none⟩)] A fun e w' => e = .returned (.int .i64 (st : Int)) ∧ w' = A) := fun A kA => by have := cSteps (S6.keep kA).T.D1; rw [hstD.out.1, ← hstl] at this; exact this
          have hsb : Hid (∀ A, Kp [] W6 A → Calls Try.prog 15 #[.pointer (some ⟨p2, 0, none⟩)] A fun e w' => e = .returned (.int .i64 (st : Int)) ∧ w' = A) := fun A kA => by have := cSteps (S6.keep kA).T.D2; simp only [plain] at this; rw [← hstl] at this; exact this
          have hdd' : Hid (∀ A, Kp [] W6 A → Calls Try.prog 14 #[.pointer (some ⟨p, 0, none⟩)] A fun e w' => e = .returned (.bool da'.dead) ∧ w' = A) := fun A kA => cDead (S6.keep kA).T.D1
          have hstn : Hid (da'.dead = false → Calls Try.prog 21 #[.pointer (some ⟨p, 0, none⟩), r'.v] W6 fun e w' => e = .returned (.bool true) ∧ Kp [] W6 w') := fun hdf => by
            rcases hstD.out.2 with ⟨h3, _⟩ | ⟨_, h3, _⟩
            · rw [hdf] at h3; cases h3
            · have hD6 := S6.T.D1
              have hLw := lowa'
              rw [h3] at hD6 hLw
              exact cStands hD6 (hLw.small (by omega)) (by have := len_of hD6; have := hLw.len; omega) r' S6.R2 (by rw [S6.L2.room]; rfl) (by rw [S6.L2.steps]; rfl) (by rw [S6.L2.files]; rfl) (by rw [S6.L2.dead]; rfl)
          have hB2' := S6.B2
          obtain ⟨r0, r1, r2, r3, r4, r5, r6, r7⟩ := r'
          simp only [RD.v] at *
          have hW6' := hid hW6
          have hstl' := hid hstl
          have b0 := B6.c0 hB2'; have b1 := B6.c1 hB2'; have b2 := B6.c2 hB2'; have b3 := B6.c3 hB2'; have b4 := B6.c4 hB2'; have b5 := B6.c5 hB2'
          have hstD2 := hstD
          rw [← hstl] at hstD2
          clear hW6 hstl aB hD5 hR5 hL5 n2 n3 S4 hSb S6 hdd
          cases hde : da'.dead with
          | true =>
            have haw2 : Hid (aw = (st : Int)) := by
              show _ = _
              have hs' := hstl'.out
              rcases hstD.out.2 with ⟨_, h⟩ | ⟨h, _⟩
              · rcases hawE.out with ⟨_, h1⟩ | ⟨h1, _⟩
                · rw [h1]; omega
                · omega
              · rw [hde] at h; cases h
            rw [hde] at hdd'
            rw [haw2.out] at hwr
            go_wp2_with fail
            rw [hW6'.out]
            clear q0 q1' q2' q3 q4 q5 g0 g1 g2 g3 g4 g5 hW6' qf
            go_wp2_with fail
            refine (hsa.out _ (Kp.refl _ _)).mono ?_
            rintro e x4 ⟨rfl, hx4⟩
            rw [hx4]
            go_wp2_with fail
            refine (hsb.out _ (Kp.refl _ _)).mono ?_
            rintro e x5 ⟨rfl, hx5⟩
            rw [hx5]
            go_wp2_with fail
            refine (hdd'.out _ (Kp.refl _ _)).mono ?_
            rintro e x6 ⟨rfl, hx6⟩
            rw [hx6]
            go_wp2_with fail
            refine (hdd'.out _ (Kp.refl _ _)).mono ?_
            rintro e x7 ⟨rfl, hx7⟩
            rw [hx7]
            go_wp2_with fail
            refine (hsb.out _ (Kp.refl _ _)).mono ?_
            rintro e x8 ⟨rfl, hx8⟩
            rw [hx8]
            go_wp2_with fail
            exact ⟨⟨j + 1, by omega, by go_num, hfin.out _ (Kp.refl _ _)⟩, by simp [intOf]; omega⟩
          | false =>
            have hne : ((st : Int) == aw) = false := by
              have hs' := hstl'.out
              have : (st : Int) ≠ aw := by
                rcases hstD.out.2 with ⟨h, _⟩ | ⟨_, _, h, _⟩
                · rw [hde] at h; cases h
                · rcases hawE.out with ⟨_, h1⟩ | ⟨h1, h2⟩
                  · omega
                  · omega
              simpa using this
            rw [hde] at hdd'
            have hst9 := hstn.out hde
            go_wp2_with fail
            rw [hW6'.out]
            clear q0 q1' q2' q3 q4 q5 g0 g1 g2 g3 g4 g5 hW6' qf
            go_wp2_with fail
            refine (hsa.out _ (Kp.refl _ _)).mono ?_
            rintro e x4 ⟨rfl, hx4⟩
            rw [hx4]
            go_wp2_with fail
            refine (hsb.out _ (Kp.refl _ _)).mono ?_
            rintro e x5 ⟨rfl, hx5⟩
            rw [hx5]
            go_wp2_with fail
            refine (hdd'.out _ (Kp.refl _ _)).mono ?_
            rintro e x6 ⟨rfl, hx6⟩
            rw [hx6]
            go_wp2_with fail
            refine hst9.mono ?_
            rintro e w8 ⟨rfl, k8⟩
            go_wp2_with fail
            refine (hdd'.out _ k8).mono ?_
            rintro e x7 ⟨rfl, hx7⟩
            rw [hx7]
            go_wp2_with fail
            refine (hsb.out _ k8).mono ?_
            rintro e x8 ⟨rfl, hx8⟩
            rw [hx8]
            go_wp2_with fail
            exact ⟨⟨j + 1, by omega, by go_num, hfin.out _ k8⟩, by simp [intOf]; omega⟩
    · obtain ⟨R, s, F, da, xs, ys, ra, rb, S, _⟩ := hA
      have kf := S.T.kp
      clear S
      go_wp2_with fail
      go_ret
      exact ⟨rfl, kf⟩
theorem armedWalk' (room : Int) (hroom : room < 9223372036854775808) (a : Option Addr) (c : Nat) (l1 : List DOp) (at_ : Int) (hat0 : -9223372036854775808 ≤ at_) (hat1 : at_ < 9223372036854775808) (W : World) (hs1 : DOpE.See W a l1) (hok1 : ∀ o ∈ l1, o.ok W)
    (hb1 : (l1.map fun y => y.b.bs.length + 1).sum ≤ 1048576) (hn1 : l1.length ≤ 1048576) :
    Calls Try.prog 5 #[.int .i64 room, .slice a l1.length c, .int .i64 at_] W (fun e W' => e = .returned (.bool true) ∧ Below W.heap.size W W') :=
  (armedWalk room hroom a c l1 at_ hat0 hat1 W hs1 hok1 (Nat.le_trans (sumB_blk l1) hb1) hn1).mono fun e W' h => ⟨h.1, h.2.below⟩
end Go.Proofs.Ytgllkonbgigcbaa
end

section
namespace Go.Proofs.Ytgllkonbgigcbaa
open Go.ChangeShapes Go.WideShapes Go.ChangeAt Go.RowKit Go.Hay
set_option linter.unusedVariables false

set_option maxRecDepth 100000 in
theorem diskArmedContract (H : Type) (enc : TypeId × Value → H) (W : World) (base : Nat) (args : Array Value) (ds gs : List (DataW H)) (before : List MemPlace)
    (hval : ∀ (j : Nat) t v, Try.f5.params[j]? = some t → args[j]? = some v → Value.okWide Try.prog W .any base t v)
    (hW : DataW.Whole enc Try.prog Try.f5.params.toList Rows.diskArmedSpec.vars false W args.toList ds gs before)
    (hsz : (DataW.weightsEach Try.prog (Try.f5.params.toList ++ (Rows.OpenSpec.upto Rows.diskArmedSpec).bare.plain.varTypes Try.prog) (ds ++ gs)).all (· ≤ reachBytes) = true)
    (hk : Rows.uptoSmall H (ds ++ gs) = true) :
    Calls Try.prog 5 args W fun e W' => ∃ v, e = .returned v ∧ Rows.diskArmedSpec.post enc Try.prog Try.f5 false true false false W args v W' := by
  have hW' := hW
  obtain ⟨p, q, hA0, hV, rfl, hfz, hnd⟩ := hW
  have hA : DataW.TrodAll enc Try.prog W 0 (fun _ => true) true Try.f5.params.toList args.toList ds p := hA0
  rw [Try.params5] at hA hval hsz
  obtain ⟨v0, vs0, d0, ds0, p0, q0, hargs, rfl, rfl, h0, r0⟩ := trodAll_cons hA
  obtain ⟨v1, vs1, d1, ds1, p1, q1, rfl, rfl, rfl, h1, r1⟩ := trodAll_cons r0
  obtain ⟨v2, vs2, d2, ds2, p2, q2, rfl, rfl, rfl, h2, r2⟩ := trodAll_cons r1
  obtain ⟨rfl, rfl, rfl⟩ := trodAll_nil r2
  obtain rfl : args = #[v0, v1, v2] := by cases args; simp_all
  obtain ⟨rfl, rfl⟩ := trodVars_none hV
  obtain ⟨a0, rfl, rfl, rfl, w0⟩ := open_int Try.underlying3 (hval 0 3 v0 rfl rfl) h0
  have hb0 := bounds_i64 w0
  obtain ⟨a1, len1, cap1, rfl⟩ := okWide_slice Try.underlying22 (hval 1 22 v1 rfl rfl)
  have k1 := h1
  have lt1 : ∀ x ∈ p1, x.block < W.heap.size := by obtain ⟨m, hm⟩ := k1; exact DataW.trod_lt m _ _ _ hm
  obtain ⟨l1, rfl, hs1, hok1, hl1, hm1, hn1, hfit1, hbk1, hcp1⟩ := openDops h1
  obtain ⟨hc1, hq1⟩ := hfit1 (List.all_eq_true.2 fun x hx => List.all_eq_true.1 hsz x (by simp [DataW.weightsEach]; first | exact .inl hx | exact .inr hx | exact .inr (.inl hx) | exact .inr (.inr hx) | exact hx))
  obtain ⟨a2, rfl, rfl, rfl, w2⟩ := open_int Try.underlying3 (hval 2 3 v2 rfl rfl) h2
  have hb2 := bounds_i64 w2
  have hbk := of_decide_eq_true hk
  simp only [List.append_nil, Rows.uptoBulkAll] at hbk
  clear hA0
  refine (armedWalk' a0 (by omega) a1 cap1 l1 a2 (by omega) (by omega) W hs1 hok1 (by omega) (by omega)).mono fun e W' ⟨he, bel⟩ => ?_
  subst he
  exact ⟨_, rfl, _, _, _, [], _, [], hW', trodAll_mk1 (shut_bool Try.underlying4 _), (trodAll_cons_mk (shut_int Try.underlying3 w0) (trodAll_cons_mk (Below.trod Try.laidOut (by kernel_rfl) (of_decide_eq_true (by kernel_rfl)) k1 bel lt1) (trodAll_cons_mk (shut_int Try.underlying3 w2) trodAll_mk0))), rfl, bel.frame _, fun h => by cases h⟩

set_option maxRecDepth 100000 in
theorem diskArmedLifted (os : Os) (started : os.Started) (H : Type) (enc : TypeId × Value → H) (F : Stop.Interp) :
    ReturnsInHanded {} Try.checked os 5 .any ((Rows.OpenSpec.upto Rows.diskArmedSpec).pre6 enc Try.prog Try.f5 Rows.diskArmedUptoRow.domain false) (((Rows.OpenSpec.upto Rows.diskArmedSpec).at F).post enc Try.prog Try.f5 false true false false) := by
  refine returnsInHanded_of_cond_sized (C := Try.checked) (s := Rows.OpenSpec.upto Rows.diskArmedSpec) (k := Rows.uptoSmall) rfl Try.own started (by kernel_rfl) Try.func5
    (OpenSpec.witness (enc := enc) (C := Try.checked) (s := Rows.OpenSpec.upto Rows.diskArmedSpec) (k := Rows.uptoSmall) rfl false ⟨#[], #[.int .i64 0, .slice none 0 0, .int .i64 0], []⟩ 8 (by kernel_rfl) (by kernel_rfl) (by kernel_rfl)
      (x := ([.lit (.int .i64 0), .nil, .lit (.int .i64 0)], [], [])) (by kernel_rfl) rfl (by kernel_rfl)) ?_
  intro W base args ds gs before hval hW _ hk hsz _
  exact diskArmedContract H enc W base args ds gs before hval hW hsz hk

theorem DiskArmed_holds : Rows.DiskArmedUptoSaid :=
  OpenClaim.holds_of_cond 5 Try.f5 rfl rfl rfl rfl rfl rfl rfl ⟨rfl, rfl, rfl, rfl, rfl⟩ rfl rfl rfl rfl rfl (by kernel_rfl) Try.func5 (by kernel_rfl)
    (of_decide_eq_true (by kernel_rfl)) (by unfold Func.isWrapper; first | (rw [if_pos (by decide +kernel)]; kernel_rfl) | (rw [if_neg (by decide +kernel)]; exact ⟨rfl, rfl⟩))
    (fun os started H enc _ F => diskArmedLifted os started H enc F)

#print axioms DiskArmed_holds
end Go.Proofs.Ytgllkonbgigcbaa
end

/- The best kind is never longer than the plain one; a run of one value takes one byte more than the value. -/
import Derived.Test.YtplefbcljggncabB7
import Derived.Test.YtplefbcljggncabB2
import Derived.Test.YtplefbcljggncabB1
import Derived.ProofKit
import Derived.OpenShut
import Derived.ShutString
import Derived.ChangeOld
import Derived.ChangeArms
import Derived.Below
import Derived.Deep.Slices
import Derived.Deep.DeepHandedRow
import Derived.SizedLaws
import Derived.JoinedCond
import Derived.Deep.CondSized
section
namespace Go.Proofs.Ytplefbcljggncab
open Go.RowKit Go.Hay
set_option linter.unusedVariables false
set_option linter.unusedSimpArgs false

theorem ref_bad {l : List Val} (h : refE 0 l ≠ 0) (k : Int) : refE k l ≠ 0 := by
  unfold refE at h ⊢
  have e0 : knownB 0 = true := rfl
  have e1 : ofI 0 = false := rfl
  rw [e0, e1] at h
  simp only [Bool.true_eq_false, if_false, Bool.false_and] at h
  split
  · decide
  · split
    · decide
    · rename_i h2
      rw [if_neg h2] at h
      split
      · decide
      · rename_i h3
        rw [if_neg h3] at h
        simp at h
theorem bT_ok {l : List Val} (h : refE 0 l = 0) : ∀ k, refE (bT l (k + 1)).1 l = 0 ∧ (bT l (k + 1)).2 = ((encR (bT l (k + 1)).1 l).length : Int) ∧ (bT l (k + 1)).2 ≤ ((encR 0 l).length : Int)
  | 0 => by
    have e : bT l 1 = (0, ((encR 0 l).length : Int)) := by rw [bT, if_pos ⟨h, .inl (show (-1 : Int) < 0 by decide)⟩]; rfl
    rw [e]
    exact ⟨h, rfl, Int.le_refl _⟩
  | k + 1 => by
    obtain ⟨h1, h2, h3⟩ := bT_ok h k
    rw [bT]
    split
    · rename_i hc
      refine ⟨hc.1, rfl, ?_⟩
      rcases hc.2 with h4 | h4
      · omega
      · show ((encR ((k + 1 : Nat) : Int) l).length : Int) ≤ _
        omega
    · exact ⟨h1, h2, h3⟩
theorem bT_bad {l : List Val} (h : refE 0 l ≠ 0) : ∀ k, bT l k = (0, -1)
  | 0 => rfl
  | k + 1 => by rw [bT, if_neg (fun hc => ref_bad h _ hc.1)]; exact bT_bad h k
theorem best_ok (l : List Val) : refE (bestV l) l = refE 0 l ∧ (encR (bestV l) l).length ≤ (encR 0 l).length := by
  by_cases h : refE 0 l = 0
  · obtain ⟨h1, h2, h3⟩ := bT_ok h 4
    refine ⟨by rw [h]; exact h1, ?_⟩
    have h2' : (bT l 5).2 = ((encR (bestV l) l).length : Int) := h2
    have h3' : (bT l 5).2 ≤ ((encR 0 l).length : Int) := h3
    omega
  · have e : bestV l = 0 := by unfold bestV; rw [bT_bad h 5]
    rw [e]
    exact ⟨rfl, Nat.le_refl _⟩
theorem enc_all (l : List Val) (h0 : 0 < l.length) (hall : ∀ k (hk : k < l.length), l[k] = l[0]) (h : refE 1 l = 0) : (encR 1 l).length = (encR 0 (l.take 1)).length + 1 := by
  obtain ⟨_, hl64, hr⟩ := refE_ok h
  obtain ⟨x, hx⟩ : ∃ x, l[0] = x := ⟨_, rfl⟩
  have hrep : l = List.replicate (l.length - 1 + 1) x := by
    refine List.eq_replicate_iff.2 ⟨by omega, fun y hy => ?_⟩
    obtain ⟨i, hi, rfl⟩ := List.getElem_of_mem hy
    rw [hall i hi, hx]
  have hxr : x.right = true := by rw [← hx]; exact List.all_eq_true.1 hr _ (List.getElem_mem h0)
  have e1 : encR 1 l = (runsV l).flatMap runB := by unfold encR; rw [if_pos ⟨h, h0⟩]; rfl
  have e2 : runsV l = [⟨l.length - 1 + 1, x⟩] := by
    have := runsV_rep x [] (by simp) (l.length - 1)
    rw [List.append_nil, ← hrep] at this
    rw [this]; rfl
  have ht : l.take 1 = [x] := by
    cases l with
    | nil => simp at h0
    | cons y r => simp at hx ⊢; exact hx
  have e3 : encR 0 (l.take 1) = rowB x := by
    rw [ht]
    unfold encR
    have hr1 : refE 0 [x] = 0 := by
      unfold refE
      have a1 : allR [x] = true := by simp [allR, hxr]
      have a2 : knownB 0 = true := rfl
      have a3 : ofI 0 = false := rfl
      rw [a1, a2, a3]
      simp
    rw [if_pos ⟨hr1, by simp⟩]
    simp [putB]
  rw [e1, e2, e3]
  simp [runB]
theorem enc_one (l : List Val) : (encR 0 (l.take 1)).length ≤ 66 := by
  unfold encR
  split
  · rename_i h
    obtain ⟨_, _, hr⟩ := refE_ok h.1
    cases l with
    | nil => simp [putB]
    | cons x r =>
      have hx : x.right = true := by simpa [allR] using hr
      have := rowB_length hx
      simpa [putB] using this
  · simp
set_option maxHeartbeats 8000000 in
set_option maxRecDepth 100000 in
theorem walkNever (a : Option Addr) (ca : Nat) (l : List Val) (w : World) (ha : Vals w a l) (hc : l.length ≤ ca) (hm : ca ≤ maxLen) :
    Calls Try.prog 3 #[.slice a l.length ca] w fun e w' => e = .returned (.bool true) ∧ Kp [] w w' := by
  have cB := cBest a ca l w ha hc hm
  have hE : Hid (∀ (k : Int) W, Kp [] w W → Calls Try.prog 4 #[.int .i64 k, .slice a l.length ca] W (EncP k l W)) := fun k W kW => cEncE k a ca l W (ha.kept kW) hc hm
  have hbo := best_ok l
  have ha' := hid ha
  have hm' := hid hm
  unfold maxLen at hm
  obtain ⟨bk, hbk⟩ : ∃ bk, Hid (bestV l = bk) := ⟨_, rfl⟩
  rw [hbk.out] at cB hbo
  have hEb := hid (hE.out bk)
  have hE0 := hid (hE.out 0)
  have hE1 := hid (hE.out 1)
  unfold EncP at hEb hE0 hE1
  have hen := hid (enc_all l)
  obtain ⟨E1, hE1'⟩ : ∃ E, Hid (refE bk l = E) := ⟨_, rfl⟩
  obtain ⟨E0, hE0'⟩ : ∃ E, Hid (refE 0 l = E) := ⟨_, rfl⟩
  obtain ⟨E2, hE2'⟩ : ∃ E, Hid (refE 1 l = E) := ⟨_, rfl⟩
  obtain ⟨R1, hR1⟩ : ∃ E, Hid (encR bk l = E) := ⟨_, rfl⟩
  obtain ⟨R0, hR0⟩ : ∃ E, Hid (encR 0 l = E) := ⟨_, rfl⟩
  obtain ⟨R2, hR2⟩ : ∃ E, Hid (encR 1 l = E) := ⟨_, rfl⟩
  simp only [hE1'.out, hR1.out] at hEb
  simp only [hE0'.out, hR0.out] at hE0
  simp only [hE2'.out, hR2.out] at hE1
  rw [hE1'.out, hE0'.out, hR1.out, hR0.out] at hbo
  rw [hE2'.out, hR2.out] at hen
  obtain ⟨hb1, hb2⟩ := hbo
  subst hb1
  have hb3 : ¬ (R0.length : Int) < (R1.length : Int) := by omega
  have hnn : (E1 != E1) = false := by simp
  clear ha hE
  go_enter Try.func3, Try.ntmps3
  go_wp2_with fail
  refine cB.mono ?_
  rintro e w1 ⟨rfl, k1⟩
  have c1 := hEb.out w1 k1
  clear hEb cB
  go_wp2_with fail
  refine c1.mono ?_
  rintro e w2 ⟨b2, c2, rfl, _, k2, _⟩
  have kw2 := k1.trans k2 (by simp)
  have c0 := hE0.out w2 kw2
  clear hE0 c1 k1 k2
  go_wp2_with fail
  refine c0.mono ?_
  rintro e w3 ⟨b3, c3, rfl, _, k3, _⟩
  have kw3 := kw2.trans k3 (by simp)
  clear c0 k3 kw2
  go_wp2_with fail
  refine (cAlive w3).mono ?_
  rintro e w4 ⟨rfl, k4⟩
  have kw4 := kw3.trans k4 (by simp)
  clear kw3 k4
  go_wp2_with fail
  go_loopw [40] (fun i wn => ∃ j : Nat, j ≤ l.length ∧ i = .int .i64 j ∧ Hid (∀ k (hk : k < l.length), k < j → l[k] = l[0]'(by omega)) ∧ Kp [] w wn) (fun i _ => l.length - (intOf i).toNat)
  case atStart => exact ⟨0, Nat.zero_le _, rfl, fun k hk h => absurd h (Nat.not_lt_zero _), kw4⟩
  case round =>
    clear kw4
    obtain ⟨j, hj, rfl, hall, kn⟩ := hrel
    by_cases hjl : j < l.length
    · obtain ⟨g, o, rfl, a0, a1, a2, a3⟩ := (ha'.out.kept kn).at j hjl
      obtain ⟨_, _, e, b0, b1, b2', b3'⟩ := (ha'.out.kept kn).at 0 (by omega)
      cases e
      rw [Nat.zero_mul, Nat.add_zero] at b0 b1 b2' b3'
      have h0l : 0 < l.length := by omega
      obtain ⟨⟨xk, xb, xn, xt⟩, hx⟩ : ∃ x, Hid (l[j]'hjl = x) := ⟨l[j]'hjl, rfl⟩
      obtain ⟨⟨yk, yb, yn, yt⟩, hy⟩ : ∃ y, Hid (l[0]'h0l = y) := ⟨l[0]'h0l, rfl⟩
      rw [hx.out] at a0 a1 a2 a3
      rw [hy.out] at b0 b1 b2' b3'
      obtain ⟨X, HX, hX⟩ := neV ⟨xk, xb, xn, xt⟩ ⟨yk, yb, yn, yt⟩
      dsimp only at a0 a1 a2 a3 b0 b1 b2' b3' hX
      have i1 : (j : Int) < (l.length : Int) := by omega
      have i2 : (0 : Int) < (l.length : Int) := by omega
      clear hen hE1
      go_wp2_with fail
      go_quiet ((fail))
      have kq : Kp [] w (wr.drewN nq) := kn.drewN nq
      generalize wr.drewN nq = wq at *
      clear a0 a1 a2 a3 b0 b1 b2' b3' hX
      cases X
      · go_wp2_with fail
        go_ret
        exact ⟨rfl, kq⟩
      · have hall' : Hid (∀ k (hk : k < l.length), k < j + 1 → l[k] = l[0]'(by omega)) := fun k hk hkj => by
          by_cases e : k = j
          · subst e
            rw [hx.out, hy.out]
            exact eqv_iff.1 HX.out.symm
          · exact hall.out k hk (by omega)
        clear hall
        go_wp2_with fail
        exact ⟨⟨j + 1, by omega, by go_num, hall', kq⟩, by simp [intOf]; omega⟩
    · obtain rfl : j = l.length := by omega
      have c1 := hE1.out wr kn
      clear hE1
      go_wp2_with fail
      refine c1.mono ?_
      rintro e w5 ⟨b5, c5, rfl, _, k5, _⟩
      have kw5 := kn.trans k5 (by simp)
      clear c1 k5
      by_cases hE : E2 = 0
      · subst hE
        by_cases hl0 : l.length = 0
        · rw [hl0]
          go_wp2_with fail
          go_ret
          exact ⟨rfl, kw5⟩
        · have h0l : 0 < l.length := by omega
          have hlen := hen.out h0l (fun k hk => hall.out k hk hk) rfl
          obtain ⟨g, o, rfl, _⟩ := ha'.out.at 0 h0l
          have hv1 : Vals w5 (some ⟨g, o, none⟩) (l.take 1) := seeV.1 ((seeV.2 (ha'.out.kept kw5)).front 1)
          have c9 := cEncE 0 (some ⟨g, o, none⟩) ca (l.take 1) w5 hv1 (by simp; omega) hm'.out
          have hl1 : (l.take 1).length = 1 := by simp; omega
          rw [hl1] at c9
          unfold EncP at c9
          obtain ⟨E9, hE9⟩ : ∃ E, Hid (refE 0 (l.take 1) = E) := ⟨_, rfl⟩
          obtain ⟨R9, hR9⟩ : ∃ E, Hid (encR 0 (l.take 1) = E) := ⟨_, rfl⟩
          rw [hE9.out, hR9.out] at c9
          have h66 := enc_one l
          rw [hR9.out] at hlen h66
          have hlen' : (R2.length : Int) = (R9.length : Int) + 1 := by omega
          have hd0 : ((l.length : Int) == 0) = false := by rw [beq_eq_false_iff_ne]; omega
          have hca : 1 ≤ ca := by omega
          have hca2 : (1 : Int) ≤ (ca : Int) := by omega
          clear hen hall hv1 hlen hl1 ha' hm'
          go_wp2_with fail
          refine c9.mono ?_
          rintro e w6 ⟨b6, c6, rfl, _, k6, _⟩
          go_wp2_with fail
          go_ret
          exact ⟨by simp, kw5.trans k6 (by simp)⟩
      · have d5 : (E2 != 0) = true := by simpa using hE
        have d6 : (E2 == 0) = false := by simpa using hE
        go_wp2_with fail
        go_ret
        exact ⟨rfl, kw5⟩
theorem neverWalk (a : Option Addr) (len ca : Nat) (l : List Val) (w : World) (hs : Vals w a l) (hlen : len = l.length) (hl : l.length ≤ ca) (hm : ca ≤ maxLen) :
    Calls Try.prog 3 #[.slice a len ca] w fun e w' => e = .returned (.bool true) ∧ Below w.heap.size w w' := by
  subst hlen
  exact (walkNever a ca l w hs hl hm).mono fun e w' ⟨h1, h2⟩ => ⟨h1, h2.below⟩
end Go.Proofs.Ytplefbcljggncab
end

section
namespace Go.Proofs.Ytplefbcljggncab
open Go.ChangeShapes Go.WideShapes Go.ChangeAt Go.RowKit Go.Hay
set_option linter.unusedVariables false

theorem Try.own : ownKnob Try.prog.godebug = none := by kernel_rfl
theorem Try.laidOut : laidOutB Try.prog = true := by kernel_rfl
theorem Try.bytesB : Try.prog.bytesOf 5 = 1 := by kernel_rfl
theorem Try.cellsB : Try.prog.cellsOf 5 = 1 := by kernel_rfl

/-- How many values a slice's datum holds, its spare places too. -/
def capD {H : Type} : DataW H → Nat
  | .slice e sp => e.length + sp.length
  | _ => 0

theorem openBytes {H : Type} {enc : TypeId × Value → H} {W : World} {a : Option Addr} {len cap : Nat} {d : DataW H} {ps : List MemPlace}
    (h : DataW.Trod enc Try.prog W 0 (fun _ => true) true 23 (.slice a len cap) d ps) : ∃ bs : List UInt8, len = bs.length ∧ Sees W a bs ∧ bs.length ≤ cap ∧ cap ≤ maxLen ∧ capD d = cap := by
  obtain ⟨fuel, hf⟩ := h
  rcases open_ints Try.underlying23 Try.underlying5 Try.cellsB hf with ⟨hcs, hx⟩ | ⟨x, l, c, zs, hcs, _, hl, hm, hz, hx, hcell, hwz⟩
  · simp [Value.cells] at hcs
    obtain ⟨rfl, rfl, rfl⟩ := hcs
    cases hx
    exact ⟨[], rfl, Sees.nil _ _, Nat.le_refl _, Nat.zero_le _, rfl⟩
  · simp [Value.cells] at hcs
    obtain ⟨rfl, rfl, rfl⟩ := hcs
    cases hx
    have hz' : zs.length = cap := by simpa using hz
    refine ⟨(zs.take len).map octet, by simp; omega, ?_, by simp; omega, hm, by simp [capD, lits]; omega⟩
    cases hlen : len with
    | zero => exact .inl (by simp)
    | succ n =>
      obtain ⟨b, off, spot⟩ := x
      have hc0 := hcell 0 (by omega)
      have hspot : spot = none := by simpa [Addr.add] using World.cell?_spot hc0
      subst hspot
      refine .inr ⟨b, off, rfl, fun j u hu => ?_⟩
      rw [List.getElem?_map, List.getElem?_take] at hu
      split at hu
      · rename_i hj
        have hjz : j < zs.length := by omega
        have hc := hcell j hjz
        rw [List.getElem?_eq_getElem hjz] at hu
        cases hu
        have hw := hwz zs[j] (List.getElem_mem hjz)
        have hbd := bounds_u8 hw
        rw [octet_toNat _ hbd.1 hbd.2, ← Addr.add_lit, hc]
        simp [List.getD, List.getElem?_eq_getElem hjz]
      · cases hu

/-- The form's own reach, of a slice of bytes among the arguments. -/
theorem reachBytesOf {H : Type} {d : DataW H} (h : (DataW.weights Try.prog 23 d).all (· ≤ reachBytes) = true) : capD d ≤ 140737488351232 := by
  cases d with
  | slice e sp =>
    have h2 : (e.length + sp.length) * Try.prog.bytesOf 5 ≤ reachBytes := of_decide_eq_true (List.all_eq_true.1 h ((e.length + sp.length) * Try.prog.bytesOf 5) (by simp [DataW.weights, Try.underlying23]))
    rw [Try.bytesB] at h2
    simp only [reachBytes] at h2
    simp only [capD]
    omega
  | _ => simp [capD]
theorem cellsV : Try.prog.cellsOf 30 = 4 := by kernel_rfl
theorem cellsI : Try.prog.cellsOf 3 = 1 := by kernel_rfl
theorem cellsB : Try.prog.cellsOf 4 = 1 := by kernel_rfl
theorem cellsL : Try.prog.cellsOf 2 = 1 := by kernel_rfl
theorem cellsS : Try.prog.cellsOf 9 = 1 := by kernel_rfl

/-- What an int64's bounds and a string's length are. -/
def Val.ok (x : Val) : Prop := (-9223372036854775808 ≤ x.k ∧ x.k ≤ 9223372036854775807) ∧ (-9223372036854775808 ≤ x.n ∧ x.n ≤ 9223372036854775807) ∧ x.t.size ≤ maxLen

theorem openVal4 {H : Type} {enc : TypeId × Value → H} {W : World} {fuel : Nat} {c0 c1 c2 c3 : Value} {x : DataW H × List MemPlace} (h : DataW.trod enc Try.prog W 0 (fun _ => true) true fuel 30 [c0, c1, c2, c3] = some x) :
    ∃ t : Val, t.ok ∧ c0 = .int .i64 t.k ∧ c1 = .bool t.b ∧ c2 = .int .i64 t.n ∧ c3 = .string t.t := by
  obtain ⟨xs, n, _, rfl, _, hlen, hf⟩ := DataW.trod_struct Try.underlying30 h
  match xs, hlen with
  | [y0, y1, y2, y3], _ =>
    have h0 := hf 0 _ rfl
    have h1 := hf 1 _ rfl
    have h2 := hf 2 _ rfl
    have h3 := hf 3 _ rfl
    simp [cellsI, cellsB, cellsL, cellsS] at h0 h1 h2 h3
    obtain ⟨k, e0, _, w0⟩ := DataW.trod_int Try.underlying3 h0
    obtain ⟨b, e1, _⟩ := DataW.trod_bool Try.underlying4 h1
    obtain ⟨n2, e2, _, w2⟩ := DataW.trod_int Try.underlying2 h2
    obtain ⟨s, e3, _, w3⟩ := DataW.trod_string Try.underlying9 h3
    simp at e0 e1 e2 e3
    exact ⟨⟨k, b, n2, s⟩, ⟨bounds_i64 w0, bounds_i64 w2, w3⟩, e0, e1, e2, e3⟩

set_option maxRecDepth 100000 in
theorem openVal {H : Type} {enc : TypeId × Value → H} {W : World} {base : Nat} {v : Value} {d : DataW H} {ps : List MemPlace} (hv : Value.okWide Try.prog W .any base 30 v)
    (h : DataW.Trod enc Try.prog W 0 (fun _ => true) true 30 v d ps) : ∃ x : Val, v = x.v ∧ x.ok := by
  obtain ⟨cs, rfl, hsz⟩ := okWide_struct Try.underlying30 hv
  rw [cellsV] at hsz
  obtain ⟨fuel, hf⟩ := h
  obtain ⟨l⟩ := cs
  match l, hsz, hf with
  | [c0, c1, c2, c3], _, hf =>
    obtain ⟨t, ok, e0, e1, e2, e3⟩ := openVal4 (c0 := c0) (c1 := c1) (c2 := c2) (c3 := c3) hf
    subst e0 e1 e2 e3
    exact ⟨t, rfl, ok⟩

theorem openVals {H : Type} {enc : TypeId × Value → H} {W : World} {a : Option Addr} {len cap : Nat} {d : DataW H} {ps : List MemPlace}
    (h : DataW.Trod enc Try.prog W 0 (fun _ => true) true 22 (.slice a len cap) d ps) : ∃ l : List Val, len = l.length ∧ Vals W a l ∧ l.length ≤ cap ∧ cap ≤ maxLen ∧ ∀ x ∈ l, x.ok := by
  obtain ⟨fuel, hf⟩ := h
  rcases Go.Deep.open_slice Try.underlying22 hf with ⟨hcs, hx⟩ | ⟨x, len', cap', m, n, D, Pl, hcs, _, hl, hmx, hm, hx, hcell⟩
  · simp [Value.cells] at hcs
    obtain ⟨rfl, rfl, rfl⟩ := hcs
    cases hx
    exact ⟨[], rfl, .inl rfl, Nat.le_refl _, Nat.zero_le _, by simp⟩
  · simp [Value.cells] at hcs
    obtain ⟨rfl, rfl, rfl⟩ := hcs
    cases hx
    have hm' : m = cap := by simpa using hm
    subst hm'
    rw [cellsV] at hcell
    have : Inhabited Val := ⟨⟨0, false, 0, ⟨#[]⟩⟩⟩
    obtain ⟨B, hB⟩ := Go.Deep.choose_lt (α := Val) (n := len) (p := fun i t => t.ok ∧ W.cell? (x.add (i * 4)) = some (.int .i64 t.k) ∧ W.cell? ((x.add (i * 4)).add 1) = some (.bool t.b) ∧ W.cell? ((x.add (i * 4)).add 2) = some (.int .i64 t.n) ∧ W.cell? ((x.add (i * 4)).add 3) = some (.string t.t)) (fun i hi => by
      obtain ⟨cs', h1, h2⟩ := hcell i (by omega)
      obtain ⟨_, hlen, hc⟩ := World.cells?_some h1
      match cs', hlen with
      | [c0, c1, c2, c3], _ =>
        obtain ⟨t, g1, e0, e1, e2, e3⟩ := openVal4 h2
        have q0 := hc 0 (by omega)
        have q1 := hc 1 (by omega)
        have q2 := hc 2 (by omega)
        have q3 := hc 3 (by omega)
        simp at q0 q1 q2 q3
        subst e0 e1 e2 e3
        exact ⟨t, g1, by simpa [Addr.add] using q0, q1, q2, q3⟩)
    refine ⟨(List.range len).map B, by simp, ?_, by simpa using hl, hmx, ?_⟩
    · cases hlen : len with
      | zero => exact .inl rfl
      | succ k =>
        obtain ⟨b, off, spot⟩ := x
        have hc0 := (hB 0 (by omega)).2.1
        have hspot : spot = none := by simpa [Addr.add] using World.cell?_spot hc0
        subst hspot
        refine .inr ⟨b, off, rfl, fun j y hy => ?_⟩
        rw [← hlen] at hy
        have hj : j < len := by have := (List.getElem?_eq_some_iff.1 hy).1; simpa using this
        rw [List.getElem?_map, List.getElem?_range hj] at hy
        cases hy
        obtain ⟨g1, q0, q1, q2, q3⟩ := hB j hj
        rw [Addr.add_lit] at q0
        rw [Addr.add_lit, Addr.add_lit] at q1 q2 q3
        exact ⟨q0, q1, q2, q3⟩
    · intro y hy
      obtain ⟨i, hi, rfl⟩ := List.mem_map.1 hy
      exact (hB i (List.mem_range.1 hi)).1
end Go.Proofs.Ytplefbcljggncab
end

section
namespace Go.Proofs.Ytplefbcljggncab
open Go.ChangeShapes Go.WideShapes Go.ChangeAt Go.RowKit Go.Hay
set_option linter.unusedVariables false

set_option maxRecDepth 100000 in
theorem encodeNeverContract (H : Type) (enc : TypeId × Value → H) (W : World) (base : Nat) (args : Array Value) (ds gs : List (DataW H)) (before : List MemPlace)
    (hval : ∀ (j : Nat) t v, Try.f3.params[j]? = some t → args[j]? = some v → Value.okWide Try.prog W .any base t v)
    (hW : DataW.Whole enc Try.prog Try.f3.params.toList Rows.encodeNeverSpec.vars false W args.toList ds gs before)
    (hsz : (DataW.weightsEach Try.prog (Try.f3.params.toList ++ (OpenSpec.ofChange Rows.encodeNeverSpec).bare.plain.varTypes Try.prog) (ds ++ gs)).all (· ≤ reachBytes) = true) :
    Calls Try.prog 3 args W fun e W' => ∃ v, e = .returned v ∧ Rows.encodeNeverSpec.post enc Try.prog Try.f3 false true false false W args v W' := by
  have hW' := hW
  obtain ⟨p, q, hA0, hV, rfl, hfz, hnd⟩ := hW
  have hA : DataW.TrodAll enc Try.prog W 0 (fun _ => true) true Try.f3.params.toList args.toList ds p := hA0
  rw [Try.params3] at hA hval hsz
  obtain ⟨v0, vs0, d0, ds0, p0, q0, hargs, rfl, rfl, h0, r0⟩ := trodAll_cons hA
  obtain ⟨rfl, rfl, rfl⟩ := trodAll_nil r0
  obtain rfl : args = #[v0] := by cases args; simp_all
  obtain ⟨rfl, rfl⟩ := trodVars_none hV
  obtain ⟨a0, len0, cap0, rfl⟩ := okWide_slice Try.underlying22 (hval 0 22 v0 rfl rfl)
  have k0 := h0
  have lt0 : ∀ x ∈ p0, x.block < W.heap.size := by obtain ⟨m, hm⟩ := k0; exact DataW.trod_lt m _ _ _ hm
  obtain ⟨l0, hlen0, hs0, hl0, hm0, hok0⟩ := openVals h0
  clear hA0
  refine (neverWalk a0 len0 cap0 l0 W hs0 hlen0 hl0 hm0).mono fun e W' ⟨he, bel⟩ => ?_
  subst he
  exact ⟨_, rfl, _, _, _, [], _, [], hW', trodAll_mk1 (shut_bool Try.underlying4 _), (trodAll_cons_mk (Below.trod Try.laidOut (by kernel_rfl) (of_decide_eq_true (by kernel_rfl)) k0 bel lt0) trodAll_mk0), rfl, bel.frame _, fun h => by cases h⟩

set_option maxRecDepth 100000 in
theorem encodeNeverLifted (os : Os) (started : os.Started) (H : Type) (enc : TypeId × Value → H) :
    ReturnsInHanded {} Try.checked os 3 .any (Rows.encodeNeverSpec.pre6 enc Try.prog Try.f3 Rows.encodeNeverRow.domain false) (Rows.encodeNeverSpec.post enc Try.prog Try.f3 false true false false) := by
  refine returnsInHanded_of_change_sized (C := Try.checked) Try.own started (by kernel_rfl) Try.func3
    (ChangeSpec.witness6 (enc := enc) (C := Try.checked) false ⟨#[], #[.slice none 0 0], []⟩ 8 (by kernel_rfl) (by kernel_rfl) (by kernel_rfl) (by kernel_rfl)) ?_
  intro W base args ds gs before hval hW _ hsz _
  exact encodeNeverContract H enc W base args ds gs before hval hW hsz

theorem EncodeNever_holds : Rows.EncodeNeverSaid :=
  OpenClaim.holds_of_wide 3 Try.f3 rfl rfl rfl rfl rfl rfl rfl ⟨rfl, rfl, rfl, rfl, rfl⟩ rfl rfl rfl rfl rfl (by kernel_rfl) Try.func3 (by kernel_rfl)
    (of_decide_eq_true (by kernel_rfl)) (by unfold Func.isWrapper; first | (rw [if_pos (by decide +kernel)]; kernel_rfl) | (rw [if_neg (by decide +kernel)]; exact ⟨rfl, rfl⟩))
    (fun os started H enc _ => encodeNeverLifted os started H enc)

#print axioms EncodeNever_holds
end Go.Proofs.Ytplefbcljggncab
end

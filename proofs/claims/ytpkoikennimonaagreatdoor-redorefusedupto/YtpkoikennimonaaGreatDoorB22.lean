/- alive: answers that the document fixes. What the rows list of the table of half bytes; arguments opened. Frames one behind the other, cut off anywhere; lists of lists of records among the arguments. A crash among the arguments: at which step a disk dies, and how much then survives. A slice of the law's calls among the arguments. -/
import Derived.Test.YtpkoikennimonaaGreatDoorB12
import Derived.Test.YtpkoikennimonaaGreatDoorCards
import Derived.Test.YtpkoikennimonaaGreatDoorTie
import Derived.Test.YtpkoikennimonaaGreatDoorB5
import Derived.Test.YtpkoikennimonaaGreatDoorB4
import Derived.ProofKit
import Derived.OpenShut
import Derived.ShutString
import Derived.ChangeOld
import Derived.ChangeArms
import Derived.Below
import Derived.Deep.Slices
import Derived.Deep.DeepHandedRow
import Derived.SizedLaws
import Derived.Lib.LaidTab
import Derived.Test.YtpkoikennimonaaGreatDoorB10
import Derived.Test.YtpkoikennimonaaGreatDoorB21
section
namespace Go.Proofs.YtpkoikennimonaaGreatDoor
open Go.RowKit Go.Hay
set_option linter.unusedVariables false
set_option linter.unusedSimpArgs false

theorem frm1 : frmR [[7]] = (frameB (recB [[7]]), 0) ∧ (frameB (recB [[7]])).length = 15 ∧ (recB [[7]]).length ≤ 16777216 := by
  have h : (recB [[7]]).length = 3 := by decide
  refine ⟨by unfold frmR; rw [if_pos (by omega)], by rw [frameB_length, h], by omega⟩
theorem frm2 : frmR [[8], []] = (frameB (recB [[8], []]), 0) ∧ (frameB (recB [[8], []])).length = 16 ∧ (recB [[8], []]).length ≤ 16777216 := by
  have h : (recB [[8], []]).length = 4 := by decide
  refine ⟨by unfold frmR; rw [if_pos (by omega)], by rw [frameB_length, h], by omega⟩
theorem rn : nameOk [114] = true := by decide
theorem av2 : appQ (oneD 1000 2 [114] [] 0) [114] [[7]] = (oneD 1000 4 [114] (frameB (recB [[7]])) 15, 0) := by
  unfold appQ
  rw [if_neg (by simp), frm1.1, if_neg (by simp), write_one _ _ _ _ _ _ rn (by rw [frm1.2.1]; simp), List.nil_append, frm1.2.1]
theorem av3 : appQ (oneD 1000 4 [114] (frameB (recB [[7]])) 15) [114] [[8], []] = (oneD 1000 6 [114] (frameB (recB [[7]]) ++ frameB (recB [[8], []])) 31, 0) := by
  unfold appQ
  rw [if_neg (by simp), frm2.1, if_neg (by simp), write_one _ _ _ _ _ _ rn (by rw [frm1.2.1, frm2.2.1]; omega), List.length_append, frm1.2.1, frm2.2.1]
theorem av4 : rdQ (frameB (recB [[7]]) ++ frameB (recB [[8], []])) = ([[7], [8], []], 31, 0) := by
  rw [rdQ_frame _ frm1.2.2]
  have h := rdQ_frame _ frm2.2.2 []
  rw [List.append_nil] at h
  rw [h, rdQ_nil, frm1.2.1, frm2.2.1]
  rfl
theorem av5 : openD rdQ (oneD 1000 6 [114] (frameB (recB [[7]]) ++ frameB (recB [[8], []])) 31) [114] = (oneD 1000 7 [114] (frameB (recB [[7]]) ++ frameB (recB [[8], []])) 31, 0) := by
  have hl : (frameB (recB [[7]]) ++ frameB (recB [[8], []])).length = 31 := by rw [List.length_append, frm1.2.1, frm2.2.1]
  rw [open_one rdQ _ _ _ _ _ (by rw [av4]) (by rw [av4, hl]), hl]
theorem asz1 : appS [[7]] = 15 := by unfold appS; rw [if_neg (by simp), frm1.1, frm1.2.1]; rfl
theorem asz2 : appS [[8], []] = 16 := by unfold appS; rw [if_neg (by simp), frm2.1, frm2.2.1]; rfl
set_option maxHeartbeats 16000000 in
set_option maxRecDepth 100000 in
theorem cAliveQ (w : World) (ht : Tab w) : Calls Tryz.prog 7 #[] w fun e w' => e = .returned (.bool true) ∧ Kp [] w w' := by
  have ht' := hid ht
  have aN := hid (cNew 1000 w (by omega))
  clear ht
  go_enter Tryz.func7, Tryz.ntmps7
  go_wp2_with fail
  refine aN.out.mono ?_
  rintro e w1 ⟨dp, mb, rfl, hD1, k1, hdp, hmb⟩
  have hf1 : ∀ k ∈ foot dp mb [], w.heap.size ≤ k := fun k hk => by simp [foot] at hk; rcases hk with rfl | rfl <;> assumption
  have aC := hid (cCreate hD1 (by simp [newD]) (by simp [newD]) (by intro f hf; simp [newD] at hf) [114] (by unfold maxLen; simp))
  have ec : createD (newD 1000) [114] = (oneD 1000 2 [114] [] 0, 0) := create_new 1000 [114] rn
  rw [ec] at aC
  have H1 := hid (And.intro k1 hf1)
  clear aN hD1 k1 hf1 ec
  go_wp2_with fail
  refine aC.out.mono ?_
  intro e w2 hO
  obtain ⟨p, v, B, xs, rfl, hLD, _, _⟩ := LD.ofOpn (w0 := w) hO rfl H1.out.1 H1.out.2
  dsimp only at hLD ⊢
  -- the first record
  obtain ⟨y1, hy1⟩ : ∃ y, w2.alloc (.cells #[.int .u8 7] 5) = y := ⟨_, rfl⟩
  obtain ⟨q1, hq1⟩ : ∃ q, w2.heap.size = q := ⟨_, rfl⟩
  obtain ⟨y2, hy2⟩ : ∃ y, y1.alloc (.cells #[.slice (some ⟨q1, 0, none⟩) 1 1] 45) = y := ⟨_, rfl⟩
  obtain ⟨q2, hq2⟩ : ∃ q, y1.heap.size = q := ⟨_, rfl⟩
  have ky1 : Kp [] w2 y1 := by rw [← hy1]; exact (Kp.refl _ _).alloc _
  have ky2 : Kp [] y1 y2 := by rw [← hy2]; exact (Kp.refl _ _).alloc _
  have s1 : Sees y1 (some ⟨q1, 0, none⟩) [7] := by rw [← hy1, ← hq1]; exact Sees.new w2 _ _ (0, 0) _ rfl
  have s2 : BsE.See y2 (some ⟨q2, 0, none⟩) [⟨some ⟨q1, 0, none⟩, 1, [7]⟩] := by rw [← hy2]; exact bsNew y1 hq2 _ _ _ rfl
  have hz12 : w2.heap.size + 1 = y1.heap.size := by rw [← hy1]; simp
  have hLy := (hLD.keep ky1).keep ky2
  have hA1 : ArgQ y2 (some ⟨q2, 0, none⟩) [⟨some ⟨q1, 0, none⟩, 1, [7]⟩] (fun k => k ∈ foot dp mb xs ∨ k = p ∨ B k) := by
    have hno : ∀ k, w2.heap.size ≤ k → ¬ (k ∈ foot dp mb xs ∨ k = p ∨ B k) := fun k hk h => by
      rcases h with h | h | h
      · have := hLD.disk.lt k h; omega
      · have := hLD.log.box.lt; omega
      · have := (hLD.lb k h).2; omega
    refine ⟨s2, fun y hy => ?_, fun _ k hk => ?_, fun y hy _ k hk => ?_, by simp, fun y hy => ?_⟩
    · simp at hy; subst hy; exact ⟨s1.kept ky2 (by simp), by simp, fun h => by cases h⟩
    · simp [blk] at hk; subst hk; exact hno _ (by omega)
    · simp at hy; subst hy; simp [blk] at hk; subst hk; exact hno _ (by omega)
    · simp at hy; subst hy; simp
  have aA : Hid (Calls Tryz.prog 13 #[.pointer (some ⟨p, 0, none⟩), .slice (some ⟨q2, 0, none⟩) 1 1] y2 (AppLD w p dp mb xs (oneD 1000 2 [114] [] 0) [114] B v [] 0 [[7]] y2)) := hLy.app (by simp [oneD]) (by simp [oneD]) (small_one (by simp)) (by unfold maxLen; simp) (by rw [file_one]; simp) (by simp) (by omega) (some ⟨q2, 0, none⟩) 1 _ hA1 ht'.out
  unfold AppLD at aA
  rw [av2, asz1] at aA
  dsimp only at aA
  clear aC hO hLD ky1 ky2 s1 s2 hA1 hLy H1
  go_wp2_with fail
  refine aA.out.mono ?_
  rintro e w3 ⟨rfl, xs3, _, _, h3⟩
  obtain ⟨v3, B3, hL3⟩ := h3 (by trivial)
  -- two more
  obtain ⟨y3, hy3⟩ : ∃ y, w3.alloc (.cells #[.int .u8 8] 5) = y := ⟨_, rfl⟩
  obtain ⟨q3, hq3⟩ : ∃ q, w3.heap.size = q := ⟨_, rfl⟩
  obtain ⟨y4, hy4⟩ : ∃ y, y3.alloc (.cells #[.slice (some ⟨q3, 0, none⟩) 1 1, .slice none 0 0] 45) = y := ⟨_, rfl⟩
  obtain ⟨q4, hq4⟩ : ∃ q, y3.heap.size = q := ⟨_, rfl⟩
  have ky3 : Kp [] w3 y3 := by rw [← hy3]; exact (Kp.refl _ _).alloc _
  have ky4 : Kp [] y3 y4 := by rw [← hy4]; exact (Kp.refl _ _).alloc _
  have s3 : Sees y3 (some ⟨q3, 0, none⟩) [8] := by rw [← hy3, ← hq3]; exact Sees.new w3 _ _ (0, 0) _ rfl
  have s4 : BsE.See y4 (some ⟨q4, 0, none⟩) [⟨some ⟨q3, 0, none⟩, 1, [8]⟩, ⟨none, 0, []⟩] := by rw [← hy4]; exact bsNew y3 hq4 _ _ _ rfl
  have hz34 : w3.heap.size + 1 = y3.heap.size := by rw [← hy3]; simp
  have hLy := (hL3.keep ky3).keep ky4
  have hA2 : ArgQ y4 (some ⟨q4, 0, none⟩) [⟨some ⟨q3, 0, none⟩, 1, [8]⟩, ⟨none, 0, []⟩] (fun k => k ∈ foot dp mb xs3 ∨ k = p ∨ B3 k) := by
    have hno : ∀ k, w3.heap.size ≤ k → ¬ (k ∈ foot dp mb xs3 ∨ k = p ∨ B3 k) := fun k hk h => by
      rcases h with h | h | h
      · have := hL3.disk.lt k h; omega
      · have := hL3.log.box.lt; omega
      · have := (hL3.lb k h).2; omega
    refine ⟨s4, fun y hy => ?_, fun _ k hk => ?_, fun y hy hb k hk => ?_, by simp, fun y hy => ?_⟩
    · simp at hy
      rcases hy with rfl | rfl
      · exact ⟨s3.kept ky4 (by simp), by simp, fun h => by cases h⟩
      · exact ⟨Sees.nil _ _, by simp, fun _ => rfl⟩
    · simp [blk] at hk; subst hk; exact hno _ (by omega)
    · simp at hy
      rcases hy with rfl | rfl
      · simp [blk] at hk; subst hk; exact hno _ (by omega)
      · exact absurd rfl hb
    · simp at hy
      rcases hy with rfl | rfl <;> simp
  have l15 := frm1.2.1
  have l31 : (frameB (recB [[7]]) ++ frameB (recB [[8], []])).length = 31 := by rw [List.length_append, frm1.2.1, frm2.2.1]
  have aB : Hid (Calls Tryz.prog 13 #[.pointer (some ⟨p, 0, none⟩), .slice (some ⟨q4, 0, none⟩) 2 2] y4 (AppLD w p dp mb xs3 (oneD 1000 4 [114] (frameB (recB [[7]])) 15) [114] B3 v3 ([] ++ [[7]]) (0 + 15) [[8], []] y4)) := hLy.app (by simp [oneD]) (by simp [oneD]) (small_one (by rw [l15]; omega)) (by unfold maxLen; simp) (by rw [file_one]; simp [l15]) (by simp) (by omega) (some ⟨q4, 0, none⟩) 2 _ hA2 ht'.out
  unfold AppLD at aB
  rw [av3, asz2] at aB
  dsimp only at aB
  clear aA h3 hL3 ky3 ky4 s3 s4 hA2 hLy hy1 hy2 hq1 hq2 hz12
  go_wp2_with fail
  refine aB.out.mono ?_
  rintro e w5 ⟨rfl, xs5, _, _, h5⟩
  obtain ⟨v5, B5, hL5⟩ := h5 (by trivial)
  have aO := hid (cOpen hL5.disk (by simp [oneD]) (small_one (by rw [l31]; omega)) [114] (by unfold maxLen; simp) (ht'.out.kept hL5.kp (by simp)) (by rw [file_one, l31]; omega))
  rw [file_one, av4, av5] at aO
  dsimp only at aO
  have HL5 := hid hL5
  clear aB h5 hL5 hy3 hy4 hq3 hq4 hz34 l15 l31
  go_wp2_with fail
  refine aO.out.mono ?_
  intro e w6 hO6
  obtain ⟨p6, v6, B6, xs6, rfl, hL6, m6, hp6⟩ := LD.ofOpn (w0 := w) hO6 rfl HL5.out.kp HL5.out.lf
  dsimp only at hL6 ⊢
  have hLl : Log w6 p dp [114] B5 v5 ([] ++ [[7]] ++ [[8], []]) (0 + 15 + 16) := HL5.out.log.kept m6.kp (fun hm => (HL5.out.sep p hm).2 rfl) (fun k hk => (HL5.out.sep k hk).1)
  have n1 := hid (cLenQ hL6.log)
  have n2 := hid (cSizeQ hL6.log)
  have n3 := hid (cLenQ hLl)
  have n4 := hid (cGoneQ hL6.log (by simp) (by intro x hx; simp at hx; rcases hx with rfl | rfl | rfl <;> simp))
  have HL6 := hid hL6.kp
  clear aO hO6 hL6 m6 hLl HL5
  go_wp2_with fail
  refine n1.out.mono ?_
  rintro e w6 ⟨rfl, rfl⟩
  clear n1
  go_wp2_with fail
  refine n2.out.mono ?_
  rintro e w6 ⟨rfl, rfl⟩
  clear n2
  go_wp2_with fail
  refine n3.out.mono ?_
  rintro e w6 ⟨rfl, rfl⟩
  clear n3
  go_wp2_with fail
  refine n4.out.mono ?_
  rintro e w7 ⟨v7, rfl, hr7, k7⟩
  obtain ⟨a7, c7, l7, rfl, hs7, ho7, hb7⟩ := hr7.bs
  obtain ⟨z1, hz1⟩ : ∃ y, w7.alloc (.cells #[.int .u8 7] 5) = y := ⟨_, rfl⟩
  obtain ⟨r1, hr1⟩ : ∃ q, w7.heap.size = q := ⟨_, rfl⟩
  obtain ⟨z2, hz2⟩ : ∃ y, z1.alloc (.cells #[.int .u8 8] 5) = y := ⟨_, rfl⟩
  obtain ⟨r2, hr2⟩ : ∃ q, z1.heap.size = q := ⟨_, rfl⟩
  obtain ⟨z3, hz3⟩ : ∃ y, z2.alloc (.cells #[.slice (some ⟨r1, 0, none⟩) 1 1, .slice (some ⟨r2, 0, none⟩) 1 1, .slice none 0 0] 45) = y := ⟨_, rfl⟩
  obtain ⟨r3, hr3⟩ : ∃ q, z2.heap.size = q := ⟨_, rfl⟩
  have kz1 : Kp [] w7 z1 := by rw [← hz1]; exact (Kp.refl _ _).alloc _
  have kz2 : Kp [] z1 z2 := by rw [← hz2]; exact (Kp.refl _ _).alloc _
  have kz3 : Kp [] z2 z3 := by rw [← hz3]; exact (Kp.refl _ _).alloc _
  have kz := (kz1.trans kz2 (by simp)).trans kz3 (by simp)
  have t1 : Sees z1 (some ⟨r1, 0, none⟩) [7] := by rw [← hz1, ← hr1]; exact Sees.new w7 _ _ (0, 0) _ rfl
  have t2 : Sees z2 (some ⟨r2, 0, none⟩) [8] := by rw [← hz2, ← hr2]; exact Sees.new z1 _ _ (0, 0) _ rfl
  have t3 : BsE.See z3 (some ⟨r3, 0, none⟩) [⟨some ⟨r1, 0, none⟩, 1, [7]⟩, ⟨some ⟨r2, 0, none⟩, 1, [8]⟩, ⟨none, 0, []⟩] := by rw [← hz3]; exact bsNew z2 hr3 _ _ _ rfl
  have hl7 : l7.length = 3 := by have := congrArg List.length hb7; rw [bsl_len] at this; simpa using this
  have aS := cSameQ a7 (some ⟨r3, 0, none⟩) c7 3 l7 [⟨some ⟨r1, 0, none⟩, 1, [7]⟩, ⟨some ⟨r2, 0, none⟩, 1, [8]⟩, ⟨none, 0, []⟩] z3 (hs7.keptNew kz) t3 (fun y hy => ((ho7 y hy).1.keptNew kz)) (fun y hy => by
    simp at hy
    rcases hy with rfl | rfl | rfl
    · exact ⟨(t1.kept kz2 (by simp)).kept kz3 (by simp), by simp, fun h => by cases h⟩
    · exact ⟨t2.kept kz3 (by simp), by simp, fun h => by cases h⟩
    · exact ⟨Sees.nil _ _, by simp, fun _ => rfl⟩) (by omega) (by simp)
  rw [hb7, show decide (([[7], [8], []] : List (List UInt8)) = bsl [⟨some ⟨r1, 0, none⟩, 1, [7]⟩, ⟨some ⟨r2, 0, none⟩, 1, [8]⟩, ⟨none, 0, []⟩]) = true from rfl] at aS
  simp only [List.length_cons, List.length_nil, Nat.reduceAdd] at aS
  rw [hl7] at aS
  have HS := hid aS
  have HK := hid ((HL6.out.trans k7 (by simp)).trans kz (by simp))
  clear n4 hr7 k7 hs7 ho7 hb7 kz1 kz2 kz3 kz t1 t2 t3 aS HL6
  go_wp2_with fail
  refine HS.out.mono ?_
  rintro e w9 ⟨rfl, k9⟩
  have HK9 := hid (HK.out.trans k9 (by simp))
  clear HS HK k9
  go_wp2_with fail
  go_ret
  exact ⟨rfl, HK9.out⟩
end Go.Proofs.YtpkoikennimonaaGreatDoor
end

section
namespace Go.Proofs.YtpkoikennimonaaGreatDoor
open Go.ChangeShapes Go.WideShapes Go.ChangeAt Go.RowKit Go.Hay
set_option linter.unusedVariables false
theorem Tryz.bytesB : Tryz.prog.bytesOf 5 = 1 := by kernel_rfl
theorem Tryz.cellsB : Tryz.prog.cellsOf 5 = 1 := by kernel_rfl
theorem openBytes {H : Type} {enc : TypeId × Value → H} {W : World} {a : Option Addr} {len cap : Nat} {d : DataW H} {ps : List MemPlace}
    (h : DataW.Trod enc Tryz.prog W 0 (fun _ => true) true 45 (.slice a len cap) d ps) : ∃ bs : List UInt8, len = bs.length ∧ Sees W a bs ∧ bs.length ≤ cap ∧ cap ≤ maxLen ∧ capD d = cap := by
  obtain ⟨fuel, hf⟩ := h
  rcases open_ints Tryz.underlying45 Tryz.underlying5 Tryz.cellsB hf with ⟨hcs, hx⟩ | ⟨x, l, c, zs, hcs, _, hl, hm, hz, hx, hcell, hwz⟩
  · simp [Value.cells] at hcs
    obtain ⟨rfl, rfl, rfl⟩ := hcs
    cases hx
    exact ⟨[], rfl, Sees.nil _ _, Nat.le_refl _, Nat.zero_le _, rfl⟩
  · simp [Value.cells] at hcs
    obtain ⟨rfl, rfl, rfl⟩ := hcs
    cases hx
    have hz' : zs.length = cap := by simpa using hz
    refine ⟨(zs.take len).map octet, by simp; omega, ?_, by simp; omega, hm, by simp [capD, lits]; omega⟩
    cases hlen : len with
    | zero => exact .inl (by simp)
    | succ n =>
      obtain ⟨b, off, spot⟩ := x
      have hc0 := hcell 0 (by omega)
      have hspot : spot = none := by simpa [Addr.add] using World.cell?_spot hc0
      subst hspot
      refine .inr ⟨b, off, rfl, fun j u hu => ?_⟩
      rw [List.getElem?_map, List.getElem?_take] at hu
      split at hu
      · rename_i hj
        have hjz : j < zs.length := by omega
        have hc := hcell j hjz
        rw [List.getElem?_eq_getElem hjz] at hu
        cases hu
        have hw := hwz zs[j] (List.getElem_mem hjz)
        have hbd := bounds_u8 hw
        rw [octet_toNat _ hbd.1 hbd.2, ← Addr.add_lit, hc]
        simp [List.getD, List.getElem?_eq_getElem hjz]
      · cases hu

/-- The form's own reach, of a slice of bytes among the arguments. -/
theorem reachBytesOf {H : Type} {d : DataW H} (h : (DataW.weights Tryz.prog 45 d).all (· ≤ reachBytes) = true) : capD d ≤ 140737488351232 := by
  cases d with
  | slice e sp =>
    have h2 : (e.length + sp.length) * Tryz.prog.bytesOf 5 ≤ reachBytes := of_decide_eq_true (List.all_eq_true.1 h ((e.length + sp.length) * Tryz.prog.bytesOf 5) (by simp [DataW.weights, Tryz.underlying45]))
    rw [Tryz.bytesB] at h2
    simp only [reachBytes] at h2
    simp only [capD]
    omega
  | _ => simp [capD]
theorem gTab : Tryz.prog.globalNamed "hayloft/codec.nibbleSums" = some 0 := by kernel_rfl
theorem gTabType : (Tryz.prog.globals[0]?).map (·.type) = some 150 := by kernel_rfl
theorem cellsTab : Tryz.prog.cellsOf 150 = 16 := by kernel_rfl
theorem cellsW : Tryz.prog.cellsOf 133 = 1 := by kernel_rfl

theorem table {W : World} (h : laidMetH Tryz.prog [("hayloft/codec.nibbleSums", Rows.laid_hayloft_codec_nibbleSums)] W) : Tab W := by
  have ht : Lib.TabIs Tryz.prog W "hayloft/codec.nibbleSums" .u32 [0, 498536548, 997073096, 651767980, 1994146192, 1802195444, 1303535960, 1342533948, 3988292384, 4027552580, 3604390888, 3412177804, 2607071920, 2262029012, 2685067896, 3183342108] :=
    Lib.tabIs_of_head (rest := []) gTab gTabType Tryz.underlying150 Tryz.underlying133 cellsW cellsTab h
  have hc : ∀ d, d < 16 → W.cell? ⟨0, d, none⟩ = some (.int .u32 (crcTab.getD d 0)) := by
    intro d hd
    match d, hd with
    | 0, _ => exact ht.cell gTab 0 (by decide)
    | 1, _ => exact ht.cell gTab 1 (by decide)
    | 2, _ => exact ht.cell gTab 2 (by decide)
    | 3, _ => exact ht.cell gTab 3 (by decide)
    | 4, _ => exact ht.cell gTab 4 (by decide)
    | 5, _ => exact ht.cell gTab 5 (by decide)
    | 6, _ => exact ht.cell gTab 6 (by decide)
    | 7, _ => exact ht.cell gTab 7 (by decide)
    | 8, _ => exact ht.cell gTab 8 (by decide)
    | 9, _ => exact ht.cell gTab 9 (by decide)
    | 10, _ => exact ht.cell gTab 10 (by decide)
    | 11, _ => exact ht.cell gTab 11 (by decide)
    | 12, _ => exact ht.cell gTab 12 (by decide)
    | 13, _ => exact ht.cell gTab 13 (by decide)
    | 14, _ => exact ht.cell gTab 14 (by decide)
    | 15, _ => exact ht.cell gTab 15 (by decide)
    | d + 16, h => omega
  exact ⟨World.block_lt_of_cell? _ _ (hc 0 (by omega)), hc⟩

/-- The block of the table, as its initialiser lays it. -/
def tabCells : Array Value := #[.int .u32 0, .int .u32 498536548, .int .u32 997073096, .int .u32 651767980, .int .u32 1994146192, .int .u32 1802195444, .int .u32 1303535960, .int .u32 1342533948, .int .u32 3988292384, .int .u32 4027552580, .int .u32 3604390888, .int .u32 3412177804, .int .u32 2607071920, .int .u32 2262029012, .int .u32 2685067896, .int .u32 3183342108]
theorem one_of {l : List Value} (h : l.length = 1) : ∃ v, l = [v] := by
  match l, h with
  | [v], _ => exact ⟨v, rfl⟩
section
variable {H : Type} {enc : TypeId × Value → H} {W : World} {a : Option Addr} {len cap : Nat} {d : DataW H} {ps : List MemPlace}
theorem openBlists (h : DataW.Trod enc Tryz.prog W 0 (fun _ => true) true 30 (.slice a len cap) d ps) :
    ∃ l : List Bs, len = l.length ∧ BsE.See W a l ∧ (∀ y ∈ l, y.ok W) ∧ l.length ≤ cap ∧ cap ≤ maxLen ∧ (a = none → cap = 0) ∧ (Fit 30 d → cap * 24 ≤ 140737488351232 ∧ ∀ y ∈ l, Few y) ∧ (l.map fun y => y.bs.length + 1).sum ≤ Rows.uptoBulk d ∧ cap + 1 ≤ Rows.uptoBulk d :=
  openEls BsE Tryz.underlying30 cellsS 24 bytesS (fun y => y.ok W) Few (fun y => y.bs.length + 1) (fun fuel cs x hx hcs => by
    obtain ⟨v, rfl⟩ := one_of hcs
    obtain ⟨y, h1, h2, h3, h4⟩ := openByt hx
    exact ⟨y, h1, by rw [h2]; rfl, h3, h4⟩) h
end
end Go.Proofs.YtpkoikennimonaaGreatDoor
end

section
namespace Go.Proofs.YtpkoikennimonaaGreatDoor
open Go.ChangeShapes Go.WideShapes Go.ChangeAt Go.RowKit Go.Hay
set_option linter.unusedVariables false
set_option linter.unusedSimpArgs false

/-- A frame of records. -/
def frB (R : List (List UInt8)) : List UInt8 := frameB (recB R)
theorem frB_pos (R : List (List UInt8)) : 12 ≤ (frB R).length := by unfold frB; rw [frameB_length]; omega
def allB (l : List (List (List UInt8))) : List UInt8 := l.flatMap frB
theorem allB_snoc (l : List (List (List UInt8))) (R : List (List UInt8)) : allB (l ++ [R]) = allB l ++ frB R := by simp [allB]
/-- The records of the frames that are whole in so many bytes; how many bytes these have. -/
def torn : List (List (List UInt8)) → Nat → List (List UInt8) × Nat
  | [], _ => ([], 0)
  | R :: l, c => if (frB R).length ≤ c then (R ++ (torn l (c - (frB R).length)).1, (frB R).length + (torn l (c - (frB R).length)).2) else ([], 0)
theorem torn_snoc : ∀ (l : List (List (List UInt8))) (R : List (List UInt8)) (c : Nat), torn (l ++ [R]) c = if (allB (l ++ [R])).length ≤ c then ((torn l c).1 ++ R, (allB (l ++ [R])).length) else torn l c
  | [], R, c => by
    simp only [List.nil_append, torn, allB, List.flatMap_cons, List.flatMap_nil, List.append_nil, List.nil_append, Nat.add_zero]
  | R0 :: l, R, c => by
    have ih := torn_snoc l R (c - (frB R0).length)
    have e : (allB (R0 :: (l ++ [R]))).length = (frB R0).length + (allB (l ++ [R])).length := by simp [allB]
    rw [List.cons_append, torn, torn, e]
    by_cases h : (frB R0).length ≤ c
    · rw [if_pos h, if_pos h, ih]
      by_cases h2 : (allB (l ++ [R])).length ≤ c - (frB R0).length
      · rw [if_pos h2, if_pos (by omega)]; simp [List.append_assoc]
      · rw [if_neg h2, if_neg (by omega)]
    · rw [if_neg h, if_neg h, if_neg (by omega)]
theorem rdQ_torn : ∀ (l : List (List (List UInt8))) (c : Nat), (∀ R ∈ l, (recB R).length ≤ 16777216) → rdQ ((allB l).take c) = ((torn l c).1, (torn l c).2, 0)
  | [], c, _ => by simp [allB, torn, rdQ_nil]
  | R :: l, c, h => by
    have hR := h R (by simp)
    have e : allB (R :: l) = frB R ++ allB l := by simp [allB]
    rw [torn, e]
    by_cases hc : (frB R).length ≤ c
    · rw [if_pos hc, List.take_append, List.take_of_length_le hc]
      unfold frB
      rw [rdQ_frame R hR, rdQ_torn l _ (fun x hx => h x (by simp [hx]))]
      simp [finQ, frB]
    · rw [if_neg hc, List.take_append, show c - (frB R).length = 0 by omega, List.take_zero, List.append_nil]
      have hu := unf_cut (recB R) hR c (by have := frameB_length (recB R); unfold frB at hc; omega)
      exact rdQ_short (by unfold frB; rw [hu])
/-- A slice of slices of bytes, and what it sees. -/
structure Ls where
  a : Option Addr
  c : Nat
  l : List Bs
instance : Inhabited Ls := ⟨⟨none, 0, []⟩⟩
structure Ls.ok (w : World) (x : Ls) : Prop where
  see : BsE.See w x.a x.l
  ok : ∀ y ∈ x.l, y.ok w
theorem Ls.ok.keptNew {w w' : World} {x : Ls} (h : x.ok w) (hk : Kp [] w w') : x.ok w' := ⟨h.see.keptNew hk, fun y hy => (h.ok y hy).keptNew hk⟩
def LsE : El Ls where
  n := 1
  c x := [.slice x.a x.l.length x.c]
  len _ := rfl
  one _ u hu := by simp at hu; subst hu; rfl
  pos := by decide
theorem lsAt {w : World} {a : Option Addr} {l : List Ls} (h : LsE.See w a l) {k : Nat} {x : Ls} (hx : l[k]? = some x) : ∃ g o, a = some ⟨g, o, none⟩ ∧ w.cell? ⟨g, o + k, none⟩ = some (.slice x.a x.l.length x.c) := by
  obtain ⟨g, o, e, hc⟩ := h.at hx
  refine ⟨g, o, e, ?_⟩
  have := hc 0 _ rfl
  simpa [LsE] using this
def bulkL (x : Ls) : Nat := (x.l.map fun y => y.bs.length + 1).sum
theorem cellsLs : Tryz.prog.cellsOf 30 = 1 := by kernel_rfl
theorem bytesLs : Tryz.prog.bytesOf 30 = 24 := by kernel_rfl
section
variable {H : Type} {enc : TypeId × Value → H} {W : World} {a : Option Addr} {len cap : Nat} {d : DataW H} {ps : List MemPlace}
end
theorem sumB_bulk : ∀ l : List Bs, sumB (bsl l) + l.length = (l.map fun y => y.bs.length + 1).sum
  | [] => rfl
  | x :: l => by
    have := sumB_bulk l
    simp only [bsl, sumB, List.map_cons, List.sum_cons, List.length_cons] at this ⊢
    omega
theorem frB_len (x : Ls) : (frB (bsl x.l)).length ≤ 21 * bulkL x + 21 := by
  have h1 := (recB_len (bsl x.l)).2
  have h2 := sumB_bulk x.l
  rw [bsl_len] at h1
  unfold frB bulkL
  rw [frameB_length, ← h2]
  omega
theorem allB_len : ∀ l : List Ls, (allB (l.map fun x => bsl x.l)).length ≤ 21 * (l.map bulkL).sum + 21 * l.length
  | [] => by simp [allB]
  | x :: l => by
    have h1 := frB_len x
    have h2 := allB_len l
    have e : allB ((x :: l).map fun x => bsl x.l) = frB (bsl x.l) ++ allB (l.map fun x => bsl x.l) := by simp [allB]
    rw [e, List.length_append]
    simp only [List.map_cons, List.sum_cons, List.length_cons] at h2 ⊢
    omega
end Go.Proofs.YtpkoikennimonaaGreatDoor
end

section
namespace Go.Proofs.YtpkoikennimonaaGreatDoor
open Go.ChangeShapes Go.WideShapes Go.ChangeAt Go.RowKit Go.Hay
set_option linter.unusedVariables false
set_option linter.unusedSimpArgs false

def IntE : El Int where
  n := 1
  c x := [.int .i64 x]
  len _ := rfl
  one _ u hu := by simp at hu; subst hu; rfl
  pos := by decide
theorem intsSee {w : World} {a : Option Addr} {l : List Int} (h : IntE.See w a l) : Ints w a l := by
  rcases h with h | ⟨g, o, rfl, hc⟩
  · exact .inl h
  · refine .inr ⟨g, o, rfl, fun j k hk => hc j _ ?_⟩
    have := El.cs_get IntE hk (k := 0) (by decide)
    simpa [IntE] using this
theorem cellsInts : Tryz.prog.cellsOf 38 = 1 := by kernel_rfl
theorem cellsInt9 : Tryz.prog.cellsOf 3 = 1 := by kernel_rfl
theorem bytesInt9 : Tryz.prog.bytesOf 3 = 8 := by kernel_rfl
section
variable {H : Type} {enc : TypeId × Value → H} {W : World} {a : Option Addr} {len cap : Nat} {d : DataW H} {ps : List MemPlace}
theorem openInt9 {fuel : Nat} {v : Value} {x : DataW H × List MemPlace} (h : DataW.trod enc Tryz.prog W 0 (fun _ => true) true fuel 3 [v] = some x) : ∃ n : Int, v = .int .i64 n ∧ -9223372036854775808 ≤ n ∧ n ≤ 9223372036854775807 := by
  obtain ⟨n, e, _, hw⟩ := DataW.trod_int Tryz.underlying3 h
  have hb := bounds_i64 hw
  simp at e
  exact ⟨n, e, hb.1, hb.2⟩
theorem openInts9 (h : DataW.Trod enc Tryz.prog W 0 (fun _ => true) true 38 (.slice a len cap) d ps) :
    ∃ l : List Int, len = l.length ∧ IntE.See W a l ∧ (∀ y ∈ l, -9223372036854775808 ≤ y ∧ y < 9223372036854775808) ∧ l.length ≤ cap ∧ cap ≤ maxLen ∧ (a = none → cap = 0) ∧ (Fit 38 d → cap * 8 ≤ 140737488351232 ∧ ∀ y ∈ l, True) ∧ (l.map fun _ => 0).sum ≤ Rows.uptoBulk d ∧ cap + 1 ≤ Rows.uptoBulk d :=
  openEls IntE Tryz.underlying38 cellsInt9 8 bytesInt9 (fun y => -9223372036854775808 ≤ y ∧ y < 9223372036854775808) (fun _ => True) (fun _ => 0) (fun fuel cs x hx hcs => by
    obtain ⟨v, rfl⟩ : ∃ v, cs = [v] := by
      match cs, hcs with
      | [v], _ => exact ⟨v, rfl⟩
    obtain ⟨n, rfl, n0, n1⟩ := openInt9 hx
    exact ⟨n, ⟨n0, by omega⟩, rfl, fun _ => trivial, Nat.zero_le _⟩) h
end
end Go.Proofs.YtpkoikennimonaaGreatDoor
end

section
namespace Go.Proofs.YtpkoikennimonaaGreatDoor
open Go.ChangeShapes Go.WideShapes Go.ChangeAt Go.RowKit Go.Hay
set_option linter.unusedVariables false
set_option linter.unusedSimpArgs false

instance : Inhabited OpZ := ⟨⟨0, 0, none, 0, [], none, 0, []⟩⟩
def OpE : El OpZ where
  n := 4
  c o := [.int .i64 o.kind, .int .i64 o.n, .slice o.a o.l.length o.c, .slice o.ka o.ks.length o.kc]
  len _ := rfl
  one _ u hu := by simp at hu; rcases hu with rfl | rfl | rfl | rfl <;> rfl
  pos := by decide
theorem opAt {w : World} {a : Option Addr} {l : List OpZ} (h : OpE.See w a l) {k : Nat} {o : OpZ} (hx : l[k]? = some o) : ∃ g f, a = some ⟨g, f, none⟩ ∧ w.cell? ⟨g, f + k * 4, none⟩ = some (.int .i64 o.kind) ∧ w.cell? ⟨g, f + k * 4 + 1, none⟩ = some (.int .i64 o.n) ∧ w.cell? ⟨g, f + k * 4 + 2, none⟩ = some (.slice o.a o.l.length o.c) ∧ w.cell? ⟨g, f + k * 4 + 3, none⟩ = some (.slice o.ka o.ks.length o.kc) := by
  obtain ⟨g, f, rfl, hc⟩ := h.at hx
  exact ⟨g, f, rfl, hc 0 _ rfl, hc 1 _ rfl, hc 2 _ rfl, hc 3 _ rfl⟩
/-- What a call's lists are in all. -/
def bulkO (o : OpZ) : Nat := (o.l.map fun y => y.bs.length + 1).sum
theorem wt_le (o : OpZ) : o.wt ≤ 22 * bulkO o + 22 := by
  have h := frB_len ⟨o.a, o.c, o.l⟩
  have h2 := sumB_bulk o.l
  have h3 : (frmR (bsl o.l)).1.length ≤ (frB (bsl o.l)).length := by
    unfold frmR frB
    split <;> simp
  unfold OpZ.wt
  simp only [bulkL] at h
  unfold bulkO
  omega
theorem wts_le : ∀ l : List OpZ, (l.map OpZ.wt).sum ≤ 22 * (l.map bulkO).sum + 22 * l.length
  | [] => by simp
  | o :: l => by
    have h1 := wts_le l
    have h2 := wt_le o
    simp only [List.map_cons, List.sum_cons, List.length_cons]
    omega
theorem wts_take (l : List OpZ) (j : Nat) : ((l.take j).map OpZ.wt).sum ≤ (l.map OpZ.wt).sum := by
  have h : l.map OpZ.wt = (l.take j).map OpZ.wt ++ (l.drop j).map OpZ.wt := by rw [← List.map_append, List.take_append_drop]
  rw [h, List.sum_append]
  omega
theorem wts_succ (l : List OpZ) (j : Nat) (h : j < l.length) : ((l.take (j + 1)).map OpZ.wt).sum = ((l.take j).map OpZ.wt).sum + l[j].wt := by
  rw [← List.take_append_getElem h, List.map_append, List.sum_append]
  simp
theorem mem_le : ∀ {l : List Nat} {x : Nat}, x ∈ l → x ≤ l.sum
  | y :: l, x, h => by
    rw [List.sum_cons]
    rcases List.mem_cons.1 h with e | h
    · omega
    · have := mem_le h; omega
/-- A call as it is opened. -/
structure OpZ.raw (w : World) (o : OpZ) : Prop where
  n0 : -9223372036854775808 ≤ o.n
  n1 : o.n < 9223372036854775808
  see : BsE.See w o.a o.l
  oks : ∀ y ∈ o.l, y.ok w
  ks : Ints w o.ka o.ks
  kl : o.ks.length ≤ o.kc
  kc : o.kc ≤ 9223372036854775807
  k64 : ∀ k ∈ o.ks, -9223372036854775808 ≤ k ∧ k < 9223372036854775808
theorem bulkO_len (l : List Bs) : l.length ≤ (l.map fun y => y.bs.length + 1).sum := by
  have := sumB_bulk l
  omega
theorem OpZ.raw.ok {w : World} {o : OpZ} (h : o.raw w) (hb : bulkO o ≤ 1048576) : o.ok w := by
  have h1 := bulkO_len o.l
  unfold bulkO at hb
  exact ⟨h.n0, h.n1, h.see, h.oks, by omega, fun y hy => by have := mem_le (List.mem_map.2 ⟨y, hy, rfl⟩ : y.bs.length + 1 ∈ o.l.map fun y => y.bs.length + 1); omega, h.ks, h.kl, h.kc, h.k64⟩
theorem bulkO_mem {l : List OpZ} {o : OpZ} (h : o ∈ l) : bulkO o ≤ (l.map bulkO).sum := mem_le (List.mem_map.2 ⟨o, h, rfl⟩)
theorem cellsOp9 : Tryz.prog.cellsOf 40 = 4 := by kernel_rfl
theorem bytesOp9 : Tryz.prog.bytesOf 40 = 64 := by kernel_rfl
section
variable {H : Type} {enc : TypeId × Value → H} {W : World} {a : Option Addr} {len cap : Nat} {d : DataW H} {ps : List MemPlace}
theorem openOp9 {fuel : Nat} {cs : List Value} {x : DataW H × List MemPlace} (h : DataW.trod enc Tryz.prog W 0 (fun _ => true) true fuel 40 cs = some x) (hcs : cs.length = 4) :
    ∃ y : OpZ, y.raw W ∧ cs = OpE.c y ∧ (Fit 40 x.1 → True) ∧ bulkO y ≤ Rows.uptoBulk x.1 := by
  obtain ⟨c0, c1, c2, c3, rfl⟩ : ∃ c0 c1 c2 c3, cs = [c0, c1, c2, c3] := by
    match cs, hcs with
    | [c0, c1, c2, c3], _ => exact ⟨c0, c1, c2, c3, rfl⟩
  obtain ⟨xs, n, _, rfl, _, hlen, hf⟩ := DataW.trod_struct Tryz.underlying40 h
  match xs, hlen with
  | [y0, y1, y2, y3], _ =>
    have h0 := hf 0 _ rfl
    have h1 := hf 1 _ rfl
    have h2 := hf 2 _ rfl
    have h3 := hf 3 _ rfl
    simp [cellsInts, cellsInt9, cellsLs] at h0 h1 h2 h3
    obtain ⟨k, rfl, k0, k1⟩ := openInt9 h0
    obtain ⟨m, rfl, m0, m1⟩ := openInt9 h1
    have hv : ∃ a len cap, c2 = .slice a len cap := by
      rcases Go.Deep.open_slice Tryz.underlying30 h2 with ⟨hcs, _⟩ | ⟨a, len, cap, _, _, _, _, hcs, _⟩
      · exact ⟨none, 0, 0, by simpa using hcs⟩
      · exact ⟨_, _, _, by simpa using hcs⟩
    obtain ⟨oa, ol, oc, rfl⟩ := hv
    obtain ⟨l, rfl, hs, hok, hl, hm, hn, _, hbk, _⟩ := openBlists (d := y2.1) (ps := y2.2) ⟨_, h2⟩
    have hv : ∃ a len cap, c3 = .slice a len cap := by
      rcases Go.Deep.open_slice Tryz.underlying38 h3 with ⟨hcs, _⟩ | ⟨a, len, cap, _, _, _, _, hcs, _⟩
      · exact ⟨none, 0, 0, by simpa using hcs⟩
      · exact ⟨_, _, _, by simpa using hcs⟩
    obtain ⟨ka, kl, kc, rfl⟩ := hv
    obtain ⟨ks, rfl, hks, hk64, hkl, hkc, _⟩ := openInts9 (d := y3.1) (ps := y3.2) ⟨_, h3⟩
    have hmx : maxLen ≤ 9223372036854775807 := by unfold maxLen; omega
    refine ⟨⟨k, m, oa, oc, l, ka, kc, ks⟩, ⟨m0, (show m < 9223372036854775808 by omega), hs, hok, intsSee hks, hkl, (show kc ≤ 9223372036854775807 by omega), hk64⟩, rfl, fun _ => trivial, ?_⟩
    simp only [List.map_cons, List.map_nil, Rows.uptoBulk, Rows.uptoBulkAll, bulkO]
    omega
theorem openOps9 (h : DataW.Trod enc Tryz.prog W 0 (fun _ => true) true 22 (.slice a len cap) d ps) :
    ∃ l : List OpZ, len = l.length ∧ OpE.See W a l ∧ (∀ y ∈ l, y.raw W) ∧ l.length ≤ cap ∧ cap ≤ maxLen ∧ (a = none → cap = 0) ∧ (Fit 22 d → cap * 64 ≤ 140737488351232 ∧ ∀ y ∈ l, True) ∧ (l.map bulkO).sum ≤ Rows.uptoBulk d ∧ cap + 1 ≤ Rows.uptoBulk d :=
  openEls OpE Tryz.underlying22 cellsOp9 64 bytesOp9 (fun y => y.raw W) (fun _ => True) bulkO (fun fuel cs x hx hcs => openOp9 hx hcs) h
end
end Go.Proofs.YtpkoikennimonaaGreatDoor
end

/- The law's own test that the program is alive. Arguments opened: bytes, values, rows of values. A slice of values among the arguments: its reach. What the rows list of the table of half bytes: its cells, and a world for the witness. The reference's Best; Copy; Can. -/
import Derived.Test.YtohbdbecioanaaaGreatDoorB12
import Derived.Test.YtohbdbecioanaaaGreatDoorB18
import Derived.Test.YtohbdbecioanaaaGreatDoorB2
import Derived.Test.YtohbdbecioanaaaGreatDoorB1
import Derived.ProofKit
import Derived.OpenShut
import Derived.ShutString
import Derived.ChangeOld
import Derived.ChangeArms
import Derived.Below
import Derived.Deep.Slices
import Derived.Deep.DeepHandedRow
import Derived.SizedLaws
import Derived.Test.YtohbdbecioanaaaGreatDoorCards
import Derived.Test.YtohbdbecioanaaaGreatDoorTie
import Derived.Test.YtohbdbecioanaaaGreatDoorB11
import Derived.Lib.LaidTab
import Derived.Test.YtohbdbecioanaaaGreatDoorB17
import Derived.Test.YtohbdbecioanaaaGreatDoorB7
section
namespace Go.Proofs.YtohbdbecioanaaaGreatDoor
open Go.RowKit Go.Hay
set_option linter.unusedVariables false
set_option linter.unusedSimpArgs false

theorem wrB_ok {k : Int} {l : List Val} (h : (wrB k l).2 = 0) : 0 < l.length ∧ refE (kindW k l) l = 0 ∧ (wrB k l).1 = blkB (kindW k l) l := by
  unfold wrB at h ⊢
  by_cases h0 : l.length = 0
  · rw [if_pos h0] at h; simp at h
  · rw [if_neg h0] at h ⊢
    by_cases hr : refE (kindW k l) l = 0
    · rw [if_pos hr]; exact ⟨by omega, hr, rfl⟩
    · rw [if_neg hr] at h; exact absurd h hr
theorem blkB_le (k : Int) (l : List Val) (hr : refE k l = 0) (h0 : 0 < l.length) : (blkB k l).length ≤ 10200 := by
  obtain ⟨_, _, ha⟩ := refE_ok hr
  have := rowB_length (minV_right h0 ha)
  have := rowB_length (maxV_right h0 ha)
  have := encR_len k l
  rw [blkB_len]
  omega
theorem wrB_le (k : Int) (l : List Val) : (wrB k l).1.length ≤ 10200 := by
  by_cases h : (wrB k l).2 = 0
  · obtain ⟨h0, hr, e⟩ := wrB_ok h
    rw [e]
    exact blkB_le _ l hr h0
  · unfold wrB at h ⊢
    split
    · simp
    · split
      · rename_i h1 h2; rw [if_neg h1, if_pos h2] at h; exact absurd rfl h
      · simp
def vT : Val := ⟨1, true, 0, ⟨#[]⟩⟩
def lT : List Val := [vT]
theorem refT : refE 0 lT = 0 := by decide +kernel
theorem inT : ∀ x ∈ lT, x.in64 := fun x hx => by
  simp [lT] at hx
  subst hx
  exact ⟨by show (-9223372036854775808 : Int) ≤ 0; omega, by show (0 : Int) ≤ 9223372036854775807; omega⟩
theorem wrT : wrB 0 lT = (blkB 0 lT, 0) := by
  have e : kindW 0 lT = 0 := by unfold kindW; rw [if_neg (by omega)]
  unfold wrB
  rw [if_neg (by simp [lT]), e, if_pos refT]
theorem lenT : (blkB 0 lT).length = 15 := by
  rw [blkB_len]
  have e1 : minV lT = vT := rfl
  have e2 : maxV lT = vT := rfl
  rw [e1, e2]
  decide +kernel
theorem hdT : hdP (blkB 0 lT) = (⟨0, 1, vT, vT, nullsV lT, 15⟩, 5 + (rowB (minV lT)).length + (rowB (maxV lT)).length, 0) := by
  have h := hdR_blk 0 lT (by simp [lT]) inT refT []
  rw [List.append_nil, lenT] at h
  unfold hdP
  rw [h]
  rfl
theorem rdT : rdR (blkB 0 lT) = (lT, 15, 0) := by
  have h := rdR_blk 0 lT (by simp [lT]) inT refT []
  rw [List.append_nil, lenT] at h
  exact h
theorem seeT (w : World) (t : TypeId) : Vals (w.alloc (.cells #[.int .i64 1, .bool true, .int .i64 0, .string ⟨#[]⟩] t)) (some ⟨w.heap.size, 0, none⟩) lT := by
  have b := Box4.new w (.int .i64 1) (.bool true) (.int .i64 0) (.string ⟨#[]⟩) t
  refine .inr ⟨_, 0, rfl, fun j y hy => ?_⟩
  obtain ⟨rfl, rfl⟩ : j = 0 ∧ y = vT := by
    cases j with
    | zero => exact ⟨rfl, by simpa [lT] using hy.symm⟩
    | succ j => simp [lT] at hy
  exact ⟨b.c0, b.c1, b.c2, b.c3⟩
set_option maxHeartbeats 16000000 in
set_option maxRecDepth 100000 in
theorem bAlive (w : World) (ht0 : Tab w) : Calls Tryz.prog 7 #[] w fun e w' => e = .returned (.bool true) ∧ Kp [] w w' := by
  have ht := hid ht0
  have hs := seeT w 30
  obtain ⟨Y, hY⟩ : ∃ Y, w.alloc (.cells #[.int .i64 1, .bool true, .int .i64 0, .string ⟨#[]⟩] 30) = Y := ⟨_, rfl⟩
  rw [hY] at hs
  have kY : Kp [] w Y := by rw [← hY]; exact (Kp.refl _ _).alloc _
  have cE : Calls Tryz.prog 8 #[.int .i64 0, .slice (some ⟨w.heap.size, 0, none⟩) 1 1] Y (BsP (wrB 0 lT) Y) := cWriteB 0 (some ⟨w.heap.size, 0, none⟩) 1 lT Y (ht0.kept kY (by simp)) hs (by decide) (by decide)
  rw [wrT] at cE
  unfold BsP at cE
  dsimp only at cE
  have hlT := lenT
  have hH : Hid (∀ W b c, Sees W b (blkB 0 lT) → (blkB 0 lT).length ≤ c → c ≤ maxLen → Calls Tryz.prog 13 #[.slice b (blkB 0 lT).length c] W fun e w' => e = .returned (.tuple #[Inf.v ⟨0, 1, vT, vT, nullsV lT, 15⟩, .int .i64 0]) ∧ Kp [] W w') := fun W b c h1 h2 h3 => by
    have := bHead b c (blkB 0 lT) W h1 h2 h3
    rwa [hdT] at this
  have hR : Hid (∀ W b c, Tab W → Sees W b (blkB 0 lT) → (blkB 0 lT).length ≤ c → c ≤ maxLen → Calls Tryz.prog 14 #[.slice b (blkB 0 lT).length c] W (RdP (lT, 15, 0) W)) := fun W b c h0 h1 h2 h3 => by
    have := bRead b c (blkB 0 lT) W h0 h1 h2 h3 (by omega)
    rwa [rdT] at this
  obtain ⟨NT, hNT⟩ : ∃ n, Hid (nullsV lT = n) := ⟨_, rfl⟩
  simp only [hNT.out] at hH
  rw [hlT] at cE
  simp only [hlT] at hH hR
  obtain ⟨BB, hBB⟩ : ∃ b, Hid (blkB 0 lT = b) := ⟨_, rfl⟩
  rw [hBB.out] at cE hlT
  simp only [hBB.out] at hH hR
  unfold Inf.v Inf.cs vT at hH
  dsimp only at hH
  unfold RdP at hR
  have hlT' := hid hlT
  rw [← hY] at cE
  have hY' := hid hY
  have hkY := hid kY
  clear hs hlT hNT hBB hY kY ht0
  go_enter Tryz.func7, Tryz.ntmps7
  go_wp2_with fail
  refine cE.mono ?_
  rintro e w1 ⟨b, c, rfl, hrow, k1, hn1⟩
  rw [hY'.out] at k1
  have kw1 := hkY.out.trans k1 (by simp)
  rw [← hlT'.out] at hrow
  obtain ⟨hsb, hcb, hmb⟩ := rowSee hrow
  rw [hlT'.out] at hcb
  have cH := hH.out w1 b c hsb hcb hmb
  have H1 := hid (And.intro hsb (And.intro hcb (And.intro hmb kw1)))
  clear cE hrow k1 hn1 hsb hcb hmb kw1 hH
  go_wp2_with fail
  refine cH.mono ?_
  rintro e w2 ⟨rfl, k2⟩
  have kw2 := H1.out.2.2.2.trans k2 (by simp)
  obtain ⟨w3, hw3, k3, bI⟩ : ∃ w3, w2.alloc (.cells #[.int .i64 0, .int .i64 0, .int .i64 0, .bool false, .int .i64 0, .string ⟨#[]⟩, .int .i64 0, .bool false, .int .i64 0, .string ⟨#[]⟩, .int .i64 0, .int .i64 0] 46) = w3 ∧ Kp [] w2 w3 ∧ Bx w3 w2.heap.size [.int .i64 0, .int .i64 0, .int .i64 0, .bool false, .int .i64 0, .string ⟨#[]⟩, .int .i64 0, .bool false, .int .i64 0, .string ⟨#[]⟩, .int .i64 0, .int .i64 0] := ⟨_, rfl, (Kp.refl _ _).alloc _, Bx.new w2 _ _⟩
  obtain ⟨qi, hqi⟩ : ∃ q, Hid (w2.heap.size = q) := ⟨_, rfl⟩
  have hqiw : w.heap.size ≤ qi := by rw [← hqi.out]; exact kw2.size
  rw [hqi.out] at bI
  have p0 := bI.get 0 _ rfl; have f0 := bI.free 0
  have p1 := bI.get 1 _ rfl; have f1 := bI.free 1
  have p2 := bI.get 2 _ rfl; have f2 := bI.free 2
  have p3 := bI.get 3 _ rfl; have f3 := bI.free 3
  have p4 := bI.get 4 _ rfl; have f4 := bI.free 4
  have p5 := bI.get 5 _ rfl; have f5 := bI.free 5
  have p6 := bI.get 6 _ rfl; have f6 := bI.free 6
  have p7 := bI.get 7 _ rfl; have f7 := bI.free 7
  have p8 := bI.get 8 _ rfl; have f8 := bI.free 8
  have p9 := bI.get 9 _ rfl; have f9 := bI.free 9
  have p10 := bI.get 10 _ rfl; have f10 := bI.free 10
  have p11 := bI.get 11 _ rfl; have f11 := bI.free 11
  obtain ⟨W, hW, bW, kW⟩ : ∃ Y9, ((((((((((((w3.setCell ⟨qi, 0, none⟩ (.int .i64 0)).setCell ⟨qi, 1, none⟩ (.int .i64 1)).setCell ⟨qi, 2, none⟩ (.int .i64 1)).setCell ⟨qi, 3, none⟩ (.bool true)).setCell ⟨qi, 4, none⟩ (.int .i64 0)).setCell ⟨qi, 5, none⟩ (.string ⟨#[]⟩)).setCell ⟨qi, 6, none⟩ (.int .i64 1)).setCell ⟨qi, 7, none⟩ (.bool true)).setCell ⟨qi, 8, none⟩ (.int .i64 0)).setCell ⟨qi, 9, none⟩ (.string ⟨#[]⟩)).setCell ⟨qi, 10, none⟩ (.int .i64 (NT : Int))).setCell ⟨qi, 11, none⟩ (.int .i64 15)) = Y9 ∧ Bx Y9 qi [.int .i64 0, .int .i64 1, .int .i64 1, .bool true, .int .i64 0, .string ⟨#[]⟩, .int .i64 1, .bool true, .int .i64 0, .string ⟨#[]⟩, .int .i64 (NT : Int), .int .i64 15] ∧ Kp [qi] w3 Y9 := ⟨_, rfl, gen12q (R := fun Y9 => Bx Y9 qi [.int .i64 0, .int .i64 1, .int .i64 1, .bool true, .int .i64 0, .string ⟨#[]⟩, .int .i64 1, .bool true, .int .i64 0, .string ⟨#[]⟩, .int .i64 (NT : Int), .int .i64 15]) bI rfl (.int .i64 0) (.int .i64 1) (.int .i64 1) (.bool true) (.int .i64 0) (.string ⟨#[]⟩) (.int .i64 1) (.bool true) (.int .i64 0) (.string ⟨#[]⟩) (.int .i64 (NT : Int)) (.int .i64 15) (fun Y9 b _ => b), gen12q (R := fun Y9 => Kp [qi] w3 Y9) bI rfl (.int .i64 0) (.int .i64 1) (.int .i64 1) (.bool true) (.int .i64 0) (.string ⟨#[]⟩) (.int .i64 1) (.bool true) (.int .i64 0) (.string ⟨#[]⟩) (.int .i64 (NT : Int)) (.int .i64 15) (fun Y9 _ k => k)⟩
  have k23 : Kp [] w2 W := k3.trans kW (fun x hx => .inr (by simp at hx; rw [hx, ← hqi.out]; exact Nat.le_refl _))
  have kkW := hid (kw2.trans k23 (by simp))
  have hsW := H1.out.1.kept (k2.trans k23 (by simp)) (by simp)
  have cR := hR.out W b c (ht.out.kept kkW.out (by simp)) hsW H1.out.2.1 H1.out.2.2.1
  have hbW := hid bW
  have hqi' := hqi.out
  clear cH k2 kw2 k3 bI kW bW k23 hsW hR H1
  go_wp2_with fail
  refine cR.mono ?_
  rintro e w4 ⟨a4, c4, rfl, hrow4, k4, hn4⟩
  have b4 := hbW.out.kept k4 (by simp) (hbW.out.lt (by simp))
  have u1 := b4.get 1 _ rfl
  obtain ⟨hv4, hl4, hm4⟩ := rowVals hrow4
  obtain ⟨g4, o4, e4, y0, y1, y2, y3⟩ := hv4.at 0 (by simp [lT])
  have y1' : w4.cell? ⟨g4, o4 + 1, none⟩ = some (.bool true) := by simpa [lT, vT] using y1
  rw [e4]
  have hl1 : lT.length = 1 := rfl
  rw [hl1]
  have kk4 := hid (kkW.out.trans k4 (by simp))
  clear cR hrow4 k4 hn4 b4 hv4 hl4 hm4 y0 y1 y2 y3 e4 hl1 p0 f0 p1 f1 p2 f2 p3 f3 p4 f4 p5 f5 p6 f6 p7 f7 p8 f8 p9 f9 p10 f10 p11 f11 hW hw3
  go_wp2_with fail
  go_ret
  exact ⟨rfl, kk4.out⟩
end Go.Proofs.YtohbdbecioanaaaGreatDoor
end

section
namespace Go.Proofs.YtohbdbecioanaaaGreatDoor
open Go.ChangeShapes Go.WideShapes Go.ChangeAt Go.RowKit Go.Hay
set_option linter.unusedVariables false

theorem Tryz.own : ownKnob Tryz.prog.godebug = none := by kernel_rfl
theorem Tryz.laidOut : laidOutB Tryz.prog = true := by kernel_rfl
theorem Tryz.bytesB : Tryz.prog.bytesOf 5 = 1 := by kernel_rfl
theorem Tryz.cellsB : Tryz.prog.cellsOf 5 = 1 := by kernel_rfl

/-- How many values a slice's datum holds, its spare places too. -/
def capD {H : Type} : DataW H → Nat
  | .slice e sp => e.length + sp.length
  | _ => 0

theorem openBytes {H : Type} {enc : TypeId × Value → H} {W : World} {a : Option Addr} {len cap : Nat} {d : DataW H} {ps : List MemPlace}
    (h : DataW.Trod enc Tryz.prog W 0 (fun _ => true) true 22 (.slice a len cap) d ps) : ∃ bs : List UInt8, len = bs.length ∧ Sees W a bs ∧ bs.length ≤ cap ∧ cap ≤ maxLen ∧ capD d = cap := by
  obtain ⟨fuel, hf⟩ := h
  rcases open_ints Tryz.underlying22 Tryz.underlying5 Tryz.cellsB hf with ⟨hcs, hx⟩ | ⟨x, l, c, zs, hcs, _, hl, hm, hz, hx, hcell, hwz⟩
  · simp [Value.cells] at hcs
    obtain ⟨rfl, rfl, rfl⟩ := hcs
    cases hx
    exact ⟨[], rfl, Sees.nil _ _, Nat.le_refl _, Nat.zero_le _, rfl⟩
  · simp [Value.cells] at hcs
    obtain ⟨rfl, rfl, rfl⟩ := hcs
    cases hx
    have hz' : zs.length = cap := by simpa using hz
    refine ⟨(zs.take len).map octet, by simp; omega, ?_, by simp; omega, hm, by simp [capD, lits]; omega⟩
    cases hlen : len with
    | zero => exact .inl (by simp)
    | succ n =>
      obtain ⟨b, off, spot⟩ := x
      have hc0 := hcell 0 (by omega)
      have hspot : spot = none := by simpa [Addr.add] using World.cell?_spot hc0
      subst hspot
      refine .inr ⟨b, off, rfl, fun j u hu => ?_⟩
      rw [List.getElem?_map, List.getElem?_take] at hu
      split at hu
      · rename_i hj
        have hjz : j < zs.length := by omega
        have hc := hcell j hjz
        rw [List.getElem?_eq_getElem hjz] at hu
        cases hu
        have hw := hwz zs[j] (List.getElem_mem hjz)
        have hbd := bounds_u8 hw
        rw [octet_toNat _ hbd.1 hbd.2, ← Addr.add_lit, hc]
        simp [List.getD, List.getElem?_eq_getElem hjz]
      · cases hu

/-- The form's own reach, of a slice of bytes among the arguments. -/
theorem reachBytesOf {H : Type} {d : DataW H} (h : (DataW.weights Tryz.prog 22 d).all (· ≤ reachBytes) = true) : capD d ≤ 140737488351232 := by
  cases d with
  | slice e sp =>
    have h2 : (e.length + sp.length) * Tryz.prog.bytesOf 5 ≤ reachBytes := of_decide_eq_true (List.all_eq_true.1 h ((e.length + sp.length) * Tryz.prog.bytesOf 5) (by simp [DataW.weights, Tryz.underlying22]))
    rw [Tryz.bytesB] at h2
    simp only [reachBytes] at h2
    simp only [capD]
    omega
  | _ => simp [capD]
theorem cellsV : Tryz.prog.cellsOf 30 = 4 := by kernel_rfl
theorem cellsI : Tryz.prog.cellsOf 3 = 1 := by kernel_rfl
theorem cellsB : Tryz.prog.cellsOf 4 = 1 := by kernel_rfl
theorem cellsL : Tryz.prog.cellsOf 2 = 1 := by kernel_rfl
theorem cellsS : Tryz.prog.cellsOf 9 = 1 := by kernel_rfl

/-- What an int64's bounds and a string's length are. -/
def Val.ok (x : Val) : Prop := (-9223372036854775808 ≤ x.k ∧ x.k ≤ 9223372036854775807) ∧ (-9223372036854775808 ≤ x.n ∧ x.n ≤ 9223372036854775807) ∧ x.t.size ≤ maxLen

theorem openVal4 {H : Type} {enc : TypeId × Value → H} {W : World} {fuel : Nat} {c0 c1 c2 c3 : Value} {x : DataW H × List MemPlace} (h : DataW.trod enc Tryz.prog W 0 (fun _ => true) true fuel 30 [c0, c1, c2, c3] = some x) :
    ∃ t : Val, t.ok ∧ c0 = .int .i64 t.k ∧ c1 = .bool t.b ∧ c2 = .int .i64 t.n ∧ c3 = .string t.t := by
  obtain ⟨xs, n, _, rfl, _, hlen, hf⟩ := DataW.trod_struct Tryz.underlying30 h
  match xs, hlen with
  | [y0, y1, y2, y3], _ =>
    have h0 := hf 0 _ rfl
    have h1 := hf 1 _ rfl
    have h2 := hf 2 _ rfl
    have h3 := hf 3 _ rfl
    simp [cellsI, cellsB, cellsL, cellsS] at h0 h1 h2 h3
    obtain ⟨k, e0, _, w0⟩ := DataW.trod_int Tryz.underlying3 h0
    obtain ⟨b, e1, _⟩ := DataW.trod_bool Tryz.underlying4 h1
    obtain ⟨n2, e2, _, w2⟩ := DataW.trod_int Tryz.underlying2 h2
    obtain ⟨s, e3, _, w3⟩ := DataW.trod_string Tryz.underlying9 h3
    simp at e0 e1 e2 e3
    exact ⟨⟨k, b, n2, s⟩, ⟨bounds_i64 w0, bounds_i64 w2, w3⟩, e0, e1, e2, e3⟩

set_option maxRecDepth 100000 in
theorem openVal {H : Type} {enc : TypeId × Value → H} {W : World} {base : Nat} {v : Value} {d : DataW H} {ps : List MemPlace} (hv : Value.okWide Tryz.prog W .any base 30 v)
    (h : DataW.Trod enc Tryz.prog W 0 (fun _ => true) true 30 v d ps) : ∃ x : Val, v = x.v ∧ x.ok := by
  obtain ⟨cs, rfl, hsz⟩ := okWide_struct Tryz.underlying30 hv
  rw [cellsV] at hsz
  obtain ⟨fuel, hf⟩ := h
  obtain ⟨l⟩ := cs
  match l, hsz, hf with
  | [c0, c1, c2, c3], _, hf =>
    obtain ⟨t, ok, e0, e1, e2, e3⟩ := openVal4 (c0 := c0) (c1 := c1) (c2 := c2) (c3 := c3) hf
    subst e0 e1 e2 e3
    exact ⟨t, rfl, ok⟩

theorem openVals {H : Type} {enc : TypeId × Value → H} {W : World} {a : Option Addr} {len cap : Nat} {d : DataW H} {ps : List MemPlace}
    (h : DataW.Trod enc Tryz.prog W 0 (fun _ => true) true 23 (.slice a len cap) d ps) : ∃ l : List Val, len = l.length ∧ Vals W a l ∧ l.length ≤ cap ∧ cap ≤ maxLen ∧ ∀ x ∈ l, x.ok := by
  obtain ⟨fuel, hf⟩ := h
  rcases Go.Deep.open_slice Tryz.underlying23 hf with ⟨hcs, hx⟩ | ⟨x, len', cap', m, n, D, Pl, hcs, _, hl, hmx, hm, hx, hcell⟩
  · simp [Value.cells] at hcs
    obtain ⟨rfl, rfl, rfl⟩ := hcs
    cases hx
    exact ⟨[], rfl, .inl rfl, Nat.le_refl _, Nat.zero_le _, by simp⟩
  · simp [Value.cells] at hcs
    obtain ⟨rfl, rfl, rfl⟩ := hcs
    cases hx
    have hm' : m = cap := by simpa using hm
    subst hm'
    rw [cellsV] at hcell
    have : Inhabited Val := ⟨⟨0, false, 0, ⟨#[]⟩⟩⟩
    obtain ⟨B, hB⟩ := Go.Deep.choose_lt (α := Val) (n := len) (p := fun i t => t.ok ∧ W.cell? (x.add (i * 4)) = some (.int .i64 t.k) ∧ W.cell? ((x.add (i * 4)).add 1) = some (.bool t.b) ∧ W.cell? ((x.add (i * 4)).add 2) = some (.int .i64 t.n) ∧ W.cell? ((x.add (i * 4)).add 3) = some (.string t.t)) (fun i hi => by
      obtain ⟨cs', h1, h2⟩ := hcell i (by omega)
      obtain ⟨_, hlen, hc⟩ := World.cells?_some h1
      match cs', hlen with
      | [c0, c1, c2, c3], _ =>
        obtain ⟨t, g1, e0, e1, e2, e3⟩ := openVal4 h2
        have q0 := hc 0 (by omega)
        have q1 := hc 1 (by omega)
        have q2 := hc 2 (by omega)
        have q3 := hc 3 (by omega)
        simp at q0 q1 q2 q3
        subst e0 e1 e2 e3
        exact ⟨t, g1, by simpa [Addr.add] using q0, q1, q2, q3⟩)
    refine ⟨(List.range len).map B, by simp, ?_, by simpa using hl, hmx, ?_⟩
    · cases hlen : len with
      | zero => exact .inl rfl
      | succ k =>
        obtain ⟨b, off, spot⟩ := x
        have hc0 := (hB 0 (by omega)).2.1
        have hspot : spot = none := by simpa [Addr.add] using World.cell?_spot hc0
        subst hspot
        refine .inr ⟨b, off, rfl, fun j y hy => ?_⟩
        rw [← hlen] at hy
        have hj : j < len := by have := (List.getElem?_eq_some_iff.1 hy).1; simpa using this
        rw [List.getElem?_map, List.getElem?_range hj] at hy
        cases hy
        obtain ⟨g1, q0, q1, q2, q3⟩ := hB j hj
        rw [Addr.add_lit] at q0
        rw [Addr.add_lit, Addr.add_lit] at q1 q2 q3
        exact ⟨q0, q1, q2, q3⟩
    · intro y hy
      obtain ⟨i, hi, rfl⟩ := List.mem_map.1 hy
      exact (hB i (List.mem_range.1 hi)).1
end Go.Proofs.YtohbdbecioanaaaGreatDoor
end

section
namespace Go.Proofs.YtohbdbecioanaaaGreatDoor
open Go.ChangeShapes Go.WideShapes Go.ChangeAt Go.RowKit Go.Hay
set_option linter.unusedVariables false

/-- A nil slice has no room. -/
theorem nilVals {H : Type} {enc : TypeId × Value → H} {W : World} {a : Option Addr} {len cap : Nat} {d : DataW H} {ps : List MemPlace}
    (h : DataW.Trod enc Tryz.prog W 0 (fun _ => true) true 23 (.slice a len cap) d ps) : a = none → cap = 0 := by
  obtain ⟨fuel, hf⟩ := h
  rcases Go.Deep.open_slice Tryz.underlying23 hf with ⟨hcs, hx⟩ | ⟨x, len', cap', m, n, D, Pl, hcs, _, hl, hmx, hm, hx, hcell⟩
  · simp [Value.cells] at hcs
    intro _
    exact hcs.2.2
  · simp [Value.cells] at hcs
    intro h
    rw [h] at hcs
    cases hcs.1
theorem bytesV : Tryz.prog.bytesOf 30 = 40 := by kernel_rfl
/-- The form's own reach, of a slice of values among the arguments. -/
theorem reachVals {H : Type} {enc : TypeId × Value → H} {W : World} {a : Option Addr} {len cap : Nat} {d : DataW H} {ps : List MemPlace}
    (h : DataW.Trod enc Tryz.prog W 0 (fun _ => true) true 23 (.slice a len cap) d ps) (hr : (DataW.weights Tryz.prog 23 d).all (· ≤ reachBytes) = true) : len * 40 ≤ 140737488351232 := by
  obtain ⟨fuel, hf⟩ := h
  rcases Go.Deep.open_slice Tryz.underlying23 hf with ⟨hcs, hx⟩ | ⟨x, len', cap', m, n, D, Pl, hcs, _, hl, hmx, hm, hx, hcell⟩
  · simp [Value.cells] at hcs
    obtain ⟨rfl, rfl, rfl⟩ := hcs
    omega
  · simp [Value.cells] at hcs
    obtain ⟨rfl, rfl, rfl⟩ := hcs
    cases hx
    have h2 := of_decide_eq_true (List.all_eq_true.1 hr ((((List.range len).map D).length + ((List.range' len (m - len)).map D).length) * Tryz.prog.bytesOf 30) (by simp [DataW.weights, Tryz.underlying23]))
    rw [bytesV] at h2
    simp [reachBytes] at h2
    omega

end Go.Proofs.YtohbdbecioanaaaGreatDoor
end

section
namespace Go.Proofs.YtohbdbecioanaaaGreatDoor
open Go.ChangeShapes Go.WideShapes Go.ChangeAt Go.RowKit Go.Hay
set_option linter.unusedVariables false

theorem gTab : Tryz.prog.globalNamed "hayloft/codec.nibbleSums" = some 0 := by kernel_rfl
theorem gTabType : (Tryz.prog.globals[0]?).map (·.type) = some 84 := by kernel_rfl
theorem cellsTab : Tryz.prog.cellsOf 84 = 16 := by kernel_rfl
theorem cellsW : Tryz.prog.cellsOf 56 = 1 := by kernel_rfl

theorem table {W : World} (h : laidMetH Tryz.prog [("hayloft/codec.nibbleSums", Rows.laid_hayloft_codec_nibbleSums)] W) : Tab W := by
  have ht : Lib.TabIs Tryz.prog W "hayloft/codec.nibbleSums" .u32 [0, 498536548, 997073096, 651767980, 1994146192, 1802195444, 1303535960, 1342533948, 3988292384, 4027552580, 3604390888, 3412177804, 2607071920, 2262029012, 2685067896, 3183342108] :=
    Lib.tabIs_of_head (rest := []) gTab gTabType Tryz.underlying84 Tryz.underlying56 cellsW cellsTab h
  have hc : ∀ d, d < 16 → W.cell? ⟨0, d, none⟩ = some (.int .u32 (crcTab.getD d 0)) := by
    intro d hd
    match d, hd with
    | 0, _ => exact ht.cell gTab 0 (by decide)
    | 1, _ => exact ht.cell gTab 1 (by decide)
    | 2, _ => exact ht.cell gTab 2 (by decide)
    | 3, _ => exact ht.cell gTab 3 (by decide)
    | 4, _ => exact ht.cell gTab 4 (by decide)
    | 5, _ => exact ht.cell gTab 5 (by decide)
    | 6, _ => exact ht.cell gTab 6 (by decide)
    | 7, _ => exact ht.cell gTab 7 (by decide)
    | 8, _ => exact ht.cell gTab 8 (by decide)
    | 9, _ => exact ht.cell gTab 9 (by decide)
    | 10, _ => exact ht.cell gTab 10 (by decide)
    | 11, _ => exact ht.cell gTab 11 (by decide)
    | 12, _ => exact ht.cell gTab 12 (by decide)
    | 13, _ => exact ht.cell gTab 13 (by decide)
    | 14, _ => exact ht.cell gTab 14 (by decide)
    | 15, _ => exact ht.cell gTab 15 (by decide)
    | d + 16, h => omega
  exact ⟨World.block_lt_of_cell? _ _ (hc 0 (by omega)), hc⟩

/-- The block of the table, as its initialiser lays it. -/
def tabCells : Array Value := #[.int .u32 0, .int .u32 498536548, .int .u32 997073096, .int .u32 651767980, .int .u32 1994146192, .int .u32 1802195444, .int .u32 1303535960, .int .u32 1342533948, .int .u32 3988292384, .int .u32 4027552580, .int .u32 3604390888, .int .u32 3412177804, .int .u32 2607071920, .int .u32 2262029012, .int .u32 2685067896, .int .u32 3183342108]
end Go.Proofs.YtohbdbecioanaaaGreatDoor
end

section
namespace Go.Proofs.YtohbdbecioanaaaGreatDoor
open Go.RowKit Go.Hay
set_option linter.unusedVariables false
set_option linter.unusedSimpArgs false

theorem ref_bad {l : List Val} (h : refE 0 l ≠ 0) (k : Int) : refE k l ≠ 0 := by
  unfold refE at h ⊢
  have e0 : knownB 0 = true := rfl
  have e1 : ofI 0 = false := rfl
  rw [e0, e1] at h
  simp only [Bool.true_eq_false, if_false, Bool.false_and] at h
  split
  · decide
  · split
    · decide
    · rename_i h2
      rw [if_neg h2] at h
      split
      · decide
      · rename_i h3
        rw [if_neg h3] at h
        simp at h
theorem bT_ok {l : List Val} (h : refE 0 l = 0) : ∀ k, refE (bT l (k + 1)).1 l = 0 ∧ (bT l (k + 1)).2 = ((encR (bT l (k + 1)).1 l).length : Int) ∧ (bT l (k + 1)).2 ≤ ((encR 0 l).length : Int)
  | 0 => by
    have e : bT l 1 = (0, ((encR 0 l).length : Int)) := by rw [bT, if_pos ⟨h, .inl (show (-1 : Int) < 0 by decide)⟩]; rfl
    rw [e]
    exact ⟨h, rfl, Int.le_refl _⟩
  | k + 1 => by
    obtain ⟨h1, h2, h3⟩ := bT_ok h k
    rw [bT]
    split
    · rename_i hc
      refine ⟨hc.1, rfl, ?_⟩
      rcases hc.2 with h4 | h4
      · omega
      · show ((encR ((k + 1 : Nat) : Int) l).length : Int) ≤ _
        omega
    · exact ⟨h1, h2, h3⟩
theorem bT_bad {l : List Val} (h : refE 0 l ≠ 0) : ∀ k, bT l k = (0, -1)
  | 0 => rfl
  | k + 1 => by rw [bT, if_neg (fun hc => ref_bad h _ hc.1)]; exact bT_bad h k
theorem best_ok (l : List Val) : refE (bestV l) l = refE 0 l ∧ (encR (bestV l) l).length ≤ (encR 0 l).length := by
  by_cases h : refE 0 l = 0
  · obtain ⟨h1, h2, h3⟩ := bT_ok h 4
    refine ⟨by rw [h]; exact h1, ?_⟩
    have h2' : (bT l 5).2 = ((encR (bestV l) l).length : Int) := h2
    have h3' : (bT l 5).2 ≤ ((encR 0 l).length : Int) := h3
    omega
  · have e : bestV l = 0 := by unfold bestV; rw [bT_bad h 5]
    rw [e]
    exact ⟨rfl, Nat.le_refl _⟩
theorem bT_min {l : List Val} : ∀ (n j : Nat), j < n → refE j l = 0 → 0 ≤ (bT l n).2 ∧ (bT l n).2 ≤ ((encR j l).length : Int)
  | 0, j, h, _ => by omega
  | n + 1, j, h, hr => by
    rw [bT]
    by_cases e : j = n
    · subst e
      split
      · exact ⟨Int.natCast_nonneg _, Int.le_refl _⟩
      · rename_i hc
        have : ¬ ((bT l j).2 < 0 ∨ ((encR j l).length : Int) < (bT l j).2) := fun h2 => hc ⟨hr, h2⟩
        omega
    · obtain ⟨h1, h2⟩ := bT_min n j (by omega) hr
      split
      · rename_i hc
        refine ⟨Int.natCast_nonneg _, ?_⟩
        rcases hc.2 with h3 | h3
        · omega
        · show ((encR (n : Int) l).length : Int) ≤ _
          omega
      · exact ⟨h1, h2⟩
theorem best_least (l : List Val) (j : Nat) (hj : j < 5) (hr : refE j l = 0) : refE (bestV l) l = 0 ∧ (encR (bestV l) l).length ≤ (encR j l).length := by
  have h0 : refE 0 l = 0 := by
    by_cases h : refE 0 l = 0
    · exact h
    · exact absurd hr (ref_bad h _)
  obtain ⟨h1, h2, _⟩ := bT_ok h0 4
  obtain ⟨h3, h4⟩ := bT_min 5 j hj hr
  refine ⟨h1, ?_⟩
  have h2' : (bT l 5).2 = ((encR (bestV l) l).length : Int) := h2
  omega
end Go.Proofs.YtohbdbecioanaaaGreatDoor
end

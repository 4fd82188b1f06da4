/- slices.SortFunc and slices.Index at values, by the library's contracts. slices.Index at values; what the unlike values are. The unlike values, and each one's place. put, Encode, Best. Best. Rows read: the program's Decode, the reference's. A value at the begin of bytes. -/
import Derived.Test.YtafcdckpicoppaaGreatDoorB6
import Derived.Test.YtafcdckpicoppaaGreatDoorB5
import Derived.Test.YtafcdckpicoppaaGreatDoorB2
import Derived.Laws.MakeOwn
section
namespace Go.Proofs.YtafcdckpicoppaaGreatDoor
open Go.RowKit Go.Hay Go.Sort
set_option linter.unusedVariables false
set_option linter.unusedSimpArgs false

instance : Inhabited Val := ⟨nv⟩
theorem ltV (x y : Val) : ltOf cmpV x y = x.lt y := by
  unfold ltOf cmpV
  cases h : x.lt y
  · cases h2 : y.lt x <;> simp [h, h2]
  · simp [h]
theorem ltV_trans (x y z : Val) (h : x.lt y = true) (k : y.lt z = true) : x.lt z = true := by
  cases hz : x.lt z with
  | true => rfl
  | false =>
    have h1 := Val.lt_asymm _ _ k
    have := Val.lt_ntrans y z x h1 hz
    rw [this] at h; cases h
theorem swoV : SWO (ltOf cmpV) where
  irrefl x := by rw [ltV]; exact Val.lt_irr x
  trans x y z h1 h2 := by rw [ltV] at *; exact ltV_trans x y z h1 h2
  ntrans x y z h1 h2 := by rw [ltV] at *; exact Val.lt_ntrans z y x h2 h1
theorem kp_sorted {enc : Val → List Value} {w : World} {g o n : Nat} {d : Array Val} {os : Array Obj} : Kp [g] w (sortWorldK enc 4 w g o n d os) := by
  refine ⟨rfl, rfl, rfl, size_sortWorldK_c enc 4 w g o n d os, fun k hk hne => ?_⟩
  unfold sortWorldK putRowK
  rw [heap_grow_old _ _ (by simpa using hk)]
  have : g ≠ k := fun e => hne (by simp [e])
  simp [putRow, mapBlock, Sort.ahead, Array.getElem?_modify, this]
theorem enterCmp : ∀ args w, (callFunc 20 args).run Tryz.prog w = .ok (.enter 20 args) w := enters_of Tryz.func20 (by kernel_rfl) rfl
theorem row_holds {w : World} {g o c : Nat} {l : List Val} (h : VE.Row w (.slice (some ⟨g, o, none⟩) l.length c) l) : HoldsK VE.c 4 w g o l.toArray := by
  rcases h with ⟨e, _⟩ | ⟨g9, o9, c9, e, q1, q2, q3, q4, q5⟩
  · cases e
  · cases e
    intro j hj
    rw [size_flatK] at hj
    have hj' : j < l.length * 4 := by simpa using hj
    refine ⟨?_, (q5 j (by have e4 : VE.n = 4 := rfl; rw [e4]; omega)).2⟩
    rw [get_flatK _ _ _ _ hj]
    have hq : j / 4 < l.length := by omega
    have hx : l[j / 4]? = some l[j / 4] := by simp [hq]
    have hm : j % 4 < VE.n := Nat.mod_lt _ (by decide)
    have e := El.cs_get VE hx hm
    have e4 : VE.n = 4 := rfl
    rw [e4, show j / 4 * 4 + j % 4 = j by omega] at e
    have hk : j % 4 < (VE.c l[j / 4]).length := by rw [VE.len]; exact hm
    rw [List.getElem?_eq_getElem hk] at e
    have := q4 j _ e
    rw [this]
    have e5 : l.toArray[j / 4]! = l[j / 4] := by simp [hq]
    rw [e5]
    simp [List.getElem!_eq_getElem?_getD, List.getElem?_eq_getElem hk]
theorem holds_row {w : World} {g o c n : Nat} {l s : List Val} {os : Array Obj} (h : VE.Row w (.slice (some ⟨g, o, none⟩) l.length c) l) (hs : s.length = l.length) : VE.Row (sortWorldK VE.c 4 w g o n s.toArray os) (.slice (some ⟨g, o, none⟩) s.length c) s := by
  have hH := row_holds h
  rcases h with ⟨e, _⟩ | ⟨g9, o9, c9, e, q1, q2, q3, q4, q5⟩
  · cases e
  · cases e
    have hH2 := holdsK_sortWorldK_c VE.c 4 w g o l.toArray s.toArray n os hH q3 (by simpa using hs)
    have e4 : VE.n = 4 := rfl
    have hsz := size_sortWorldK_c VE.c 4 w g o n s.toArray os
    refine .inr ⟨g, o, c, rfl, by omega, q2, by omega, fun j u hu => ?_, fun j hj => ?_⟩
    · have hj : j < s.length * 4 := by have := (List.getElem?_eq_some_iff.1 hu).1; rwa [El.cs_length, e4] at this
      have hq : j / 4 < s.length := by omega
      have := (hH2.cell (i := j / 4) (c := j % 4) (by simpa using hq) (by omega)).1
      rw [Nat.add_assoc, show j / 4 * 4 + j % 4 = j by omega] at this
      rw [this]
      have hx : s[j / 4]? = some s[j / 4] := by simp [hq]
      have hm : j % 4 < VE.n := Nat.mod_lt _ (by decide)
      have e := El.cs_get VE hx hm
      rw [e4, show j / 4 * 4 + j % 4 = j by omega, hu] at e
      have e5 : s.toArray[j / 4]! = s[j / 4] := by simp [hq]
      rw [e5]
      simp [List.getElem!_eq_getElem?_getD, ← e]
    · by_cases hjl : j < s.length * 4
      · have hq : j / 4 < s.length := by omega
        have := hH2.cell (i := j / 4) (c := j % 4) (by simpa using hq) (by omega)
        rw [Nat.add_assoc, show j / 4 * 4 + j % 4 = j by omega] at this
        rw [this.1]
        exact ⟨rfl, this.2⟩
      · have h5 := q5 j hj
        unfold sortWorldK putRowK
        rw [cell?_grow _ _ _ (by simpa using q3), frozen?_grow _ _ _ (by simpa using q3), cell?_putRow_other _ _ _ _ _ _ (.inr (.inr (by simp [size_flatK]; omega))), frozen?_putRow]
        exact h5
set_option maxHeartbeats 2000000 in
/-- The values, sorted: where they lay. -/
theorem cSortV (g o c : Nat) (l : List Val) (w : World) (hs : VE.Row w (.slice (some ⟨g, o, none⟩) l.length c) l) (hl : l.length ≤ 1000000) :
    Calls Tryz.prog 80 #[.slice (some ⟨g, o, none⟩) l.length c, .func (.func 20) #[] #[]] w fun e w' => e = .returned (.tuple #[]) ∧ Kp [g] w w' ∧ ∃ s : List Val, s.Perm l ∧ s.Pairwise (fun x y => y.lt x = false) ∧ VE.Row w' (.slice (some ⟨g, o, none⟩) s.length c) s := by
  have hg : g < w.heap.size := by
    have := hs.lt g (by simp [own, Value.ownBlock])
    exact this
  have hcmp : CmpLays Tryz.prog 20 #[] VE.c 4 cmpV g o l.toArray.size w := fun m os dk hdk x y => cCompareG x y _
  have h := AnyQ.slices_SortFunc Tryz.lsortf 4 Tryz.isAgg25 Tryz.sizeOf25 VE.c (fun _ => rfl) (fun x v hv => VE.one x v hv) cmpV swoV 20 #[] g o c l.toArray w enterCmp hcmp (row_holds hs) hg (by simp; omega)
  have h' : Calls Tryz.prog 80 #[.slice (some ⟨g, o, none⟩) l.length c, .func (.func 20) #[] #[]] w _ := h
  refine h'.mono ?_
  rintro e w' ⟨rfl, d', n, os, hp, hso, rfl⟩
  obtain ⟨s, rfl⟩ : ∃ s : List Val, d' = s.toArray := ⟨d'.toList, by simp⟩
  obtain ⟨p1, p2, p3⟩ := hp
  have hsl : s.length = l.length := by simpa using p1
  have p3' : s.Perm l := by
    have : (s.toArray.extract 0 l.toArray.size).toList = s := by rw [List.size_toArray, ← hsl]; simp
    rw [this] at p3
    have e2 : (l.toArray.extract 0 l.toArray.size).toList = l := by simp
    rw [e2] at p3
    exact p3
  refine ⟨rfl, kp_sorted, s, p3', ?_, holds_row hs hsl⟩
  rw [List.pairwise_iff_getElem]
  intro i j hi hj hij
  have := hso i j (Nat.zero_le _) hij (by simpa [← hsl] using hj)
  rw [ltV] at this
  simpa [hi, hj] using this
end Go.Proofs.YtafcdckpicoppaaGreatDoor
end

section
namespace Go.Proofs.YtafcdckpicoppaaGreatDoor
open Go.RowKit Go.Hay Go.Sort
set_option linter.unusedVariables false
set_option linter.unusedSimpArgs false

theorem eqAtV : EqlAt Tryz.prog 25 (fun x => .agg (VE.c x).toArray) Val.eqv := by
  refine ⟨fun x y w => ?_, GuardAt.agg _ (by kernel_rfl)⟩
  obtain ⟨X, hX, h⟩ := eqV x y
  have := h w
  rw [hX.out] at this
  exact this
theorem idxFrom_mem (x : Val) : ∀ (s : List Val) (i : Nat), x ∈ s → ∃ k, k < s.length ∧ s.getD k nv = x ∧ Lib.idxByFrom Val.eqv x s i = ((i + k : Nat) : Int)
  | [], _, h => by simp at h
  | y :: r, i, h => by
    by_cases e : x.eqv y = true
    · refine ⟨0, by simp, ?_, ?_⟩
      · rw [eqv_iff.1 e]; rfl
      · simp [Lib.idxByFrom, e]
    · have hr : x ∈ r := by
        rcases List.mem_cons.1 h with h1 | h1
        · subst h1; exact absurd (eqv_iff.2 rfl) e
        · exact h1
      obtain ⟨k, h1, h2, h3⟩ := idxFrom_mem x r (i + 1) hr
      refine ⟨k + 1, by simp; omega, by simpa using h2, ?_⟩
      rw [Lib.idxByFrom, if_neg e, h3]
      congr 1
      omega
/-- Where a value is. -/
def idxV (s : List Val) (x : Val) : Nat := (Lib.idxBy Val.eqv s x).toNat
theorem idxV_mem (s : List Val) (x : Val) (h : x ∈ s) : idxV s x < s.length ∧ s.getD (idxV s x) nv = x ∧ Lib.idxBy Val.eqv s x = (idxV s x : Int) := by
  obtain ⟨k, h1, h2, h3⟩ := idxFrom_mem x s 0 h
  have e : Lib.idxBy Val.eqv s x = (k : Int) := by unfold Lib.idxBy; rw [h3]; simp
  have e2 : idxV s x = k := by unfold idxV; rw [e]; simp
  rw [e2]
  exact ⟨h1, h2, e⟩
theorem cIndexV (g o c : Nat) (s : List Val) (x : Val) (w : World) (hs : VE.Row w (.slice (some ⟨g, o, none⟩) s.length c) s) (hx : x ∈ s) (hl : s.length ≤ 1000000) :
    Calls Tryz.prog 82 #[.slice (some ⟨g, o, none⟩) s.length c, x.v] w fun e w' => e = .returned (.int .i64 (idxV s x : Int)) ∧ Kp [] w w' := by
  have h := AnyQ.slices_Index Tryz.lindex 4 Tryz.isAgg25 Tryz.sizeOf25 VE.c (fun _ => rfl) Val.eqv eqAtV g o s.length c s x w (Nat.le_refl _) (by omega) (fun j hj i v hv => by
    have hi : i < 4 := by have := (List.getElem?_eq_some_iff.1 hv).1; rw [VE.len] at this; exact this
    have := (row_holds hs).cell (i := j) (c := i) (by simpa using hj) hi
    rw [this.1]
    have e5 : s.toArray[j]! = s[j]! := by simp [hj]
    rw [e5, List.getElem!_eq_getElem?_getD, hv]
    rfl)
  have h' : Calls Tryz.prog 82 #[.slice (some ⟨g, o, none⟩) s.length c, x.v] w _ := h
  refine h'.mono ?_
  rintro e w' ⟨rfl, q, rfl⟩
  rw [List.take_length, (idxV_mem s x hx).2.2]
  exact ⟨rfl, ((Kp.refl _ _).alloc _).drewN q⟩
/-- Everything is among the unlike ones, and nothing else. -/
theorem cptTo_in (s : List Val) : ∀ j, j ≤ s.length → (∀ i, i < j → s.getD i nv ∈ cptTo s j) ∧ ∀ x ∈ cptTo s j, x ∈ s
  | 0, _ => ⟨fun i hi => by omega, fun x hx => by simp [cptTo] at hx⟩
  | j + 1, hj => by
    obtain ⟨h1, h2⟩ := cptTo_in s j (by omega)
    have hm : s.getD j nv ∈ s := by
      have : j < s.length := by omega
      simp [this]
    by_cases hc : j ≠ 0 ∧ (s.getD j nv).eqv (s.getD (j - 1) nv) = true
    · rw [cptTo_same s j hc.1 hc.2]
      refine ⟨fun i hi => ?_, h2⟩
      by_cases e : i = j
      · subst e
        rw [eqv_iff.1 hc.2]
        exact h1 (i - 1) (by omega)
      · exact h1 i (by omega)
    · rw [cptTo, if_neg hc]
      refine ⟨fun i hi => ?_, fun x hx => ?_⟩
      · by_cases e : i = j
        · subst e; simp
        · exact List.mem_append_left _ (h1 i (by omega))
      · rcases List.mem_append.1 hx with h | h
        · exact h2 x h
        · rw [List.mem_singleton] at h; rw [h]; exact hm
theorem cpt_mem (s : List Val) (x : Val) : x ∈ cpt s ↔ x ∈ s := by
  obtain ⟨h1, h2⟩ := cptTo_in s s.length (Nat.le_refl _)
  refine ⟨h2 x, fun h => ?_⟩
  obtain ⟨i, hi, rfl⟩ := List.getElem_of_mem h
  have := h1 i hi
  show _ ∈ cptTo s s.length
  simpa [hi] using this
theorem lt_total (x y : Val) (hx : x.right = true) (hy : y.right = true) (h1 : x.lt y = false) (h2 : y.lt x = false) : x = y := by
  have := cmp_eqv x y hx hy
  rw [(cmp_zero x y).2 ⟨h1, h2⟩] at this
  exact eqv_iff.1 this.symm
/-- The values in their order. -/
def sortV (l : List Val) : List Val := l.mergeSort fun x y => !(y.lt x)
theorem sortV_of (l s : List Val) (hr : allR l = true) (hp : s.Perm l) (hs : s.Pairwise (fun x y => y.lt x = false)) : s = sortV l := by
  have hr' : ∀ x ∈ l, x.right = true := List.all_eq_true.1 hr
  have hm : (sortV l).Pairwise (fun x y => y.lt x = false) := by
    have := List.pairwise_mergeSort (le := fun x y : Val => !(y.lt x)) (fun a b c h1 h2 => by simp only [Bool.not_eq_true'] at *; exact Val.lt_ntrans a b c h1 h2) (fun a b => by
      cases h : b.lt a with
      | false => simp
      | true => simp [Val.lt_asymm b a h]) l
    exact this.imp (by simp)
  have hpm : s.Perm (sortV l) := hp.trans (List.mergeSort_perm l _).symm
  refine List.Perm.eq_of_pairwise ?_ hs hm hpm
  intro a b ha hb h1 h2
  exact lt_total a b (hr' a (hp.mem_iff.1 ha)) (hr' b ((List.mergeSort_perm l _).mem_iff.1 hb)) h2 h1
def uniq (l : List Val) : List Val := cpt (sortV l)
theorem uniq_mem (l : List Val) (x : Val) : x ∈ uniq l ↔ x ∈ l := by
  unfold uniq
  rw [cpt_mem]
  exact (List.mergeSort_perm l _).mem_iff
theorem uniq_len (l : List Val) : (uniq l).length ≤ l.length := by
  have := cptTo_le (sortV l) (sortV l).length
  have e : (sortV l).length = l.length := (List.mergeSort_perm l _).length_eq
  unfold uniq cpt
  omega
theorem uniq_right (l : List Val) (h : allR l = true) : allR (uniq l) = true := List.all_eq_true.2 fun x hx => List.all_eq_true.1 h x ((uniq_mem l x).1 hx)
end Go.Proofs.YtafcdckpicoppaaGreatDoor
end

section
namespace Go.Proofs.YtafcdckpicoppaaGreatDoor
open Go.RowKit Go.Hay
set_option linter.unusedVariables false
set_option linter.unusedSimpArgs false

def plcs (u l : List Val) (j : Nat) : List Nat := (List.range j).map fun k => idxV u (l.getD k nv)
theorem plcs_length (u l : List Val) (j : Nat) : (plcs u l j).length = j := by simp [plcs]
theorem plcs_succ (u l : List Val) (j : Nat) : plcs u l (j + 1) = plcs u l j ++ [idxV u (l.getD j nv)] := by simp [plcs, List.range_succ]
def dictB (l : List Val) : List UInt8 := [octet (uniq l).length] ++ (uniq l).flatMap rowB ++ packB (plcs (uniq l) l l.length) (Lib.bitLen ((uniq l).length - 1))
set_option maxHeartbeats 8000000 in
set_option maxRecDepth 100000 in
theorem cPutDict (a : Option Addr) (ca : Nat) (l : List Val) (w : World) (ha : Vals w a l) (hr : allR l = true) (h0 : 0 < l.length) (hl : l.length ≤ 64) :
    Calls Tryz.prog 51 #[.slice a l.length ca] w (NB (dictB l) w) := by
  obtain ⟨g, o, rfl, _⟩ := ha.at 0 h0
  have hat : Hid (∀ W, Kp [] w W → ∀ j, j < l.length → W.cell? ⟨g, o + j * 4, none⟩ = some (.int .i64 (l.getD j nv).k) ∧ W.cell? ⟨g, o + j * 4 + 1, none⟩ = some (.bool (l.getD j nv).b) ∧ W.cell? ⟨g, o + j * 4 + 2, none⟩ = some (.int .i64 (l.getD j nv).n) ∧ W.cell? ⟨g, o + j * 4 + 3, none⟩ = some (.string (l.getD j nv).t)) := fun W kW j hj => by
    obtain ⟨_, _, e, y0, y1, y2, y3⟩ := (ha.kept kW).at j hj
    cases e
    have e1 : l.getD j nv = l[j] := by simp [hj]
    rw [e1]
    exact ⟨y0, y1, y2, y3⟩
  have cC := cCloneV ⟨g, o, none⟩ ca l w (seeV.2 ha) (by omega)
  have hF : Hid (dictB l = [octet (uniq l).length] ++ (uniq l).flatMap rowB ++ packB (plcs (uniq l) l l.length) (Lib.bitLen ((uniq l).length - 1))) := rfl
  have hul := uniq_len l
  have hum := hid (fun x => (uniq_mem l x).2)
  have hur := hid (uniq_right l hr)
  have hu0 : 0 < (uniq l).length := List.length_pos_iff.2 (List.ne_nil_of_mem (hum.out _ (List.getElem_mem h0)))
  have hsv := hid (sortV_of l)
  have huq : Hid (uniq l = cpt (sortV l)) := rfl
  obtain ⟨F, hFF⟩ : ∃ F, Hid (dictB l = F) := ⟨_, rfl⟩
  rw [hFF.out] at hF ⊢
  obtain ⟨u, hu⟩ : ∃ u, Hid (uniq l = u) := ⟨_, rfl⟩
  rw [hu.out] at hF hul hum hur hu0 huq
  have hr' := hid hr
  clear ha hr hFF
  go_enter Tryz.func51, Tryz.ntmps51
  go_wp2_with fail
  refine cC.mono ?_
  rintro e w1 ⟨a1, c1, rfl, hrow1, k1, hn1⟩
  obtain ⟨g1, o1, rfl, hg1⟩ : ∃ g1 o1, a1 = some ⟨g1, o1, none⟩ ∧ w.heap.size ≤ g1 := by
    rcases hrow1 with ⟨e, e2⟩ | ⟨g9, o9, c9, e, _⟩
    · rw [e2] at h0; simp at h0
    · injection e with e1 e2 e3
      exact ⟨g9, o9, e1, hn1 g9 (by rw [e1]; simp [blk])⟩
  obtain ⟨_, _, ee, _, _, hlc, hcm, _⟩ := hrow1.see
  injection ee with e1 e2 e3
  subst e3
  have cS := cSortV g1 o1 c1 l w1 hrow1 (by omega)
  clear hn1 hrow1 e1 e2 cC
  go_wp2_with fail
  refine cS.mono ?_
  rintro e w2 ⟨rfl, k2, s, hp, hso, hrow2⟩
  have hse := hsv.out s hr'.out hp hso
  have hslen : s.length = l.length := hp.length_eq
  have cK := cCompactV g1 o1 c1 s w2 hrow2 (by omega) (by omega) hcm
  rw [hse, ← huq.out, ← hse, hslen] at cK
  have kw2 : Kp [] w w2 := k1.trans k2 (fun k hk => .inr (by simp at hk; omega))
  clear hrow2 cS hsv hp hso hse hslen
  go_wp2_with fail
  refine cK.mono ?_
  rintro e w3 ⟨rfl, hrow3, k3⟩
  have kw3 : Kp [] w w3 := kw2.trans k3 (fun k hk => .inr (by simp at hk; omega))
  obtain ⟨i0, hi, hz0, hz1, hz2⟩ := infoU64
  obtain ⟨W1, hmk, hrowm, km, hs1⟩ := run_makeG (E := U64E) (P := Tryz.prog) w3 123 74 i0 (.int .u64 0) 0 8 Tryz.underlying123 hi hz0 hz1 hz2 rfl .i64 .i64 l.length (by omega) (by unfold maxLen; omega)
  obtain ⟨q, hq⟩ : ∃ q, Hid (w3.heap.size = q) := ⟨_, rfl⟩
  have hg3 : g1 < w3.heap.size := hrow3.lt g1 (by simp [own, Value.ownBlock])
  rw [hq.out] at hmk hrowm hg3
  have hqw : w.heap.size ≤ q := by rw [← hq.out]; exact kw3.size
  have R1 : Hid (U64E.Row W1 (.slice (some ⟨q, 0, none⟩) l.length l.length) (plcs u l 0 ++ List.replicate (l.length - 0) 0) ∧ VE.Row W1 (.slice (some ⟨g1, o1, none⟩) u.length c1) u ∧ Kp [] w W1) := ⟨by simpa [plcs] using hrowm, hrow3.keptNew km, kw3.trans km (by simp)⟩
  clear hrowm km hs1 kw3 hrow3 k3 kw2 k2 k1 cK
  go_wp2_with fail
  go_loopw [18] (fun i wn => ∃ j : Nat, j ≤ l.length ∧ i = .int .i64 j ∧ U64E.Row wn (.slice (some ⟨q, 0, none⟩) l.length l.length) (plcs u l j ++ List.replicate (l.length - j) 0) ∧ VE.Row wn (.slice (some ⟨g1, o1, none⟩) u.length c1) u ∧ Kp [] w wn) (fun i _ => l.length - (intOf i).toNat)
  case atStart => exact ⟨0, Nat.zero_le _, rfl, R1.out.1, R1.out.2.1, R1.out.2.2⟩
  case round =>
    clear hmk R1
    obtain ⟨j, hj, rfl, hrow, hrowu, kn⟩ := hrel
    by_cases hlt : j < l.length
    · obtain ⟨y0, y1, y2, y3⟩ := hat.out wr kn j hlt
      have hmem : l.getD j nv ∈ u := hum.out _ (by simp [hlt])
      obtain ⟨v, hv⟩ : ∃ v, Hid (l.getD j nv = v) := ⟨_, rfl⟩
      have hps := hid (plcs_succ u l j)
      rw [hv.out] at y0 y1 y2 y3 hmem hps
      have hpl := plcs_length u l j
      have hixb := (idxV_mem u v hmem).1
      obtain ⟨wb, hwb⟩ : ∃ wb, wr.alloc (.cells #[.int .i64 v.k, .bool v.b, .int .i64 v.n, .string v.t] 25) = wb := ⟨_, rfl⟩
      have kb : Kp [] wr wb := by rw [← hwb]; exact (Kp.refl _ _).alloc _
      have bx : Box4 wb wr.heap.size (.int .i64 v.k) (.bool v.b) (.int .i64 v.n) (.string v.t) := by rw [← hwb]; exact Box4.new _ _ _ _ _ _
      have p0 := bx.c0; have p1 := bx.c1; have p2 := bx.c2; have p3 := bx.c3
      have cI := cIndexV g1 o1 c1 u v wb (hrowu.keptNew kb) hmem (by omega)
      obtain ⟨I, hI⟩ : ∃ I, Hid (idxV u v = I) := ⟨_, rfl⟩
      rw [hI.out] at cI hixb hps
      have hnext : Hid (∀ W, Kp [] wb W → (∃ x, W.cell? ⟨q, j, none⟩ = some x) ∧ W.frozen? ⟨q, j, none⟩ = false ∧ U64E.Row (W.setCell ⟨q, j, none⟩ (.int .u64 (I : Int))) (.slice (some ⟨q, 0, none⟩) l.length l.length) (plcs u l (j + 1) ++ List.replicate (l.length - (j + 1)) 0) ∧ VE.Row (W.setCell ⟨q, j, none⟩ (.int .u64 (I : Int))) (.slice (some ⟨g1, o1, none⟩) u.length c1) u ∧ Kp [] w (W.setCell ⟨q, j, none⟩ (.int .u64 (I : Int)))) := fun W kW => by
        have kA : Kp [] wr W := kb.trans kW (by simp)
        have hrW := hrow.keptNew kA
        have hal' : (plcs u l j ++ List.replicate (l.length - j) 0).length = l.length := by simp [hpl]; omega
        have hput := hrW.setAt j (by rw [hal']; exact hlt) I
        have e1 : (plcs u l j ++ List.replicate (l.length - j) 0).set j I = plcs u l (j + 1) ++ List.replicate (l.length - (j + 1)) 0 := by
          have := set_app (plcs u l j) 0 I (l.length - (j + 1))
          rw [hpl, show l.length - (j + 1) + 1 = l.length - j by omega] at this
          rw [this, hps.out]
        rw [e1] at hput
        have eW : W.setCells q (0 + j * U64E.n) (U64E.c I) = W.setCell ⟨q, j, none⟩ (.int .u64 (I : Int)) := by
          have : U64E.n = 1 := rfl
          rw [this]
          simp [U64E, World.setCells]
        rw [eW] at hput
        have kS : Kp [q] W (W.setCell ⟨q, j, none⟩ (.int .u64 (I : Int))) := (Kp.refl _ _).setCell (p := ⟨q, j, none⟩) (.inl (by simp)) _
        have hcf : (∃ x, W.cell? ⟨q, j, none⟩ = some x) ∧ W.frozen? ⟨q, j, none⟩ = false := by
          rcases hrW with ⟨e, _⟩ | ⟨g9, o9, c9, e, q1, q2, q3, q4, q5⟩
          · cases e
          · injection e with e1 e2 e3
            injection e1 with e1
            injection e1 with e4 e5
            subst e3 e4 e5
            have h5 := q5 j (by have : U64E.n = 1 := rfl; rw [this]; omega)
            rw [Nat.zero_add] at h5
            exact ⟨Option.isSome_iff_exists.1 h5.1, h5.2⟩
        refine ⟨hcf.1, hcf.2, hput, (hrowu.keptNew kA).kept kS (fun k hk => ?_), (kn.trans kA (by simp)).trans kS (fun k hk => .inr (by simp at hk; omega))⟩
        simp [own, Value.ownBlock] at hk
        simp; omega
      obtain ⟨vk, vb, vn, vt⟩ := v
      unfold Val.v at cI
      dsimp only at *
      clear hrow hrowu bx kb hps hmem
      go_wp2_with fail
      refine cI.mono ?_
      rintro e W ⟨rfl, kW⟩
      obtain ⟨⟨x, hx⟩, hfz, hN⟩ := hnext.out W kW
      have hN' := hid hN
      clear hN hnext
      go_wp2_with fail
      exact ⟨⟨j + 1, by omega, by go_num, hN'.out.1, hN'.out.2.1, hN'.out.2.2⟩, by simp [intOf]; omega⟩
    · obtain rfl : j = l.length := by omega
      rw [Nat.sub_self, List.replicate_zero, List.append_nil] at hrow
      have hplt : Hid (∀ x ∈ plcs u l l.length, x < 18446744073709551616) := fun x hx => by
        simp only [plcs, List.mem_map, List.mem_range] at hx
        obtain ⟨k, hk, rfl⟩ := hx
        have := (idxV_mem u (l.getD k nv) (hum.out _ (by simp [hk]))).1
        omega
      have hpl := plcs_length u l l.length
      have hwb := bitLen_le64 (u.length - 1)
      obtain ⟨wd, hwd⟩ : ∃ wd, Hid (Lib.bitLen (u.length - 1) = wd) := ⟨_, rfl⟩
      obtain ⟨ps, hps⟩ : ∃ ps, Hid (plcs u l l.length = ps) := ⟨_, rfl⟩
      rw [hwd.out] at hwb
      rw [hwd.out, hps.out] at hF
      rw [hps.out] at hrow hplt hpl
      have hpB := packB_length ps wd
      have hpB2 : ps.length * wd ≤ 64 * 64 := Nat.mul_le_mul (by omega) hwb
      have hfl : (u.flatMap rowB).length ≤ 100000 := by
        have := flat_length (f := rowB) (m := 66) (fun x hx => rowB_length hx) u hur.out
        omega
      have cW : Hid (∀ W, Calls Tryz.prog 84 #[.int .i64 u.length] W fun e w' => e = .returned (.int .i64 (wd : Int)) ∧ w' = W) := fun W => by
        have := cPlaceWidth u.length hu0 (by omega) W
        rw [hwd.out] at this
        exact this
      have hP : Hid (∀ Y, wr.alloc (.cells #[.int .u8 (u.length : Int)] 5) = Y → Kp [] wr Y ∧ Calls Tryz.prog 53 #[.slice (some ⟨g1, o1, none⟩) u.length c1] Y (NB (u.flatMap rowB) Y)) := fun Y hY => by
        have kY : Kp [] wr Y := by rw [← hY]; exact (Kp.refl _ _).alloc _
        obtain ⟨_, _, es, hs, _⟩ := (hrowu.keptNew kY).see
        injection es with e1 e2 e3
        have := cPutPlain (some ⟨g1, o1, none⟩) c1 u Y (seeV.1 (by rw [e1]; exact hs)) hur.out (by omega)
        exact ⟨kY, this⟩
      have hK : Hid (∀ Y, Kp [] wr Y → Calls Tryz.prog 83 #[.slice (some ⟨q, 0, none⟩) l.length l.length, .int .i64 wd] Y (NB (packB ps wd) Y)) := fun Y kY => by
        obtain ⟨_, _, es, hs, _⟩ := (hrow.keptNew kY).see
        injection es with e1 e2 e3
        have := cPack (some ⟨q, 0, none⟩) l.length ps wd Y (by rw [e1]; exact hs) (by omega) hplt.out hwb
        rw [hpl] at this
        exact this
      obtain ⟨UB, hUB⟩ : ∃ UB, Hid (u.flatMap rowB = UB) := ⟨_, rfl⟩
      obtain ⟨PB, hPB⟩ : ∃ PB, Hid (packB ps wd = PB) := ⟨_, rfl⟩
      rw [hUB.out] at hfl hF
      rw [hPB.out] at hpB hF
      simp only [hUB.out] at hP
      simp only [hPB.out] at hK
      have hend : Hid (∀ Y Z1 Z V b2 c2 b3 c3, wr.alloc (.cells #[.int .u8 (u.length : Int)] 5) = Y → Kp [] Y Z1 → Row Z1 (.slice b2 UB.length c2) UB → Kp [] Z1 Z → Row Z (.slice b3 PB.length c3) PB → Z.alloc (.cells #[.slice (some ⟨wr.heap.size, 0, none⟩) 1 1, .slice b2 UB.length c2, .slice b3 PB.length c3] 28) = V →
          Kp [] w V ∧ Calls Tryz.prog 75 #[.slice (some ⟨Z.heap.size, 0, none⟩) 3 3] V (NB F V)) := fun Y Z1 Z V b2 c2 b3 c3 hY kZ1 hr2 kZ hr3 hV => by
        have kY : Kp [] wr Y := by rw [← hY]; exact (Kp.refl _ _).alloc _
        have kV : Kp [] Z V := by rw [← hV]; exact (Kp.refl _ _).alloc _
        obtain ⟨_, _, e2, hs2, _⟩ := hr2.sees
        cases e2
        obtain ⟨_, _, e3, hs3, _⟩ := hr3.sees
        cases e3
        have hs1 : Sees Y (some ⟨wr.heap.size, 0, none⟩) [octet u.length] := by rw [← hY]; exact oneByte wr rfl u.length (by have := octet_toNat (u.length : Int) (by omega) (by omega); omega) _
        have h3 : BsE.See V (some ⟨Z.heap.size, 0, none⟩) [⟨some ⟨wr.heap.size, 0, none⟩, 1, [octet u.length]⟩, ⟨b2, c2, UB⟩, ⟨b3, c3, PB⟩] := by rw [← hV]; exact threeBs Z rfl ⟨some ⟨wr.heap.size, 0, none⟩, 1, [octet u.length]⟩ ⟨b2, c2, UB⟩ ⟨b3, c3, PB⟩ _
        have hj := cJoin (some ⟨Z.heap.size, 0, none⟩) 3 [⟨some ⟨wr.heap.size, 0, none⟩, 1, [octet u.length]⟩, ⟨b2, c2, UB⟩, ⟨b3, c3, PB⟩] V h3 (fun x hx => by
          simp only [List.mem_cons, List.not_mem_nil, or_false] at hx
          rcases hx with rfl | rfl | rfl
          · exact hs1.kept (kZ1.trans (kZ.trans kV (by simp)) (by simp)) (by simp)
          · exact hs2.kept (kZ.trans kV (by simp)) (by simp)
          · exact hs3.kept kV (by simp)) (by simp) (by simp [flatB, hpB]; omega)
        have eF : flatB [⟨some ⟨wr.heap.size, 0, none⟩, 1, [octet u.length]⟩, ⟨b2, c2, UB⟩, ⟨b3, c3, PB⟩] = F := by rw [hF.out]; simp [flatB]
        rw [eF] at hj
        exact ⟨kn.trans (kY.trans (kZ1.trans (kZ.trans kV (by simp)) (by simp)) (by simp)) (by simp), hj⟩
      clear hrow hrowu hF hfl hpB hpB2 hplt hpl hum hur hat
      obtain ⟨Y, hY⟩ : ∃ Y, wr.alloc (.cells #[.int .u8 (u.length : Int)] 5) = Y := ⟨_, rfl⟩
      obtain ⟨kY, cP⟩ := hP.out Y hY
      have he2 : Hid (∀ Z1 Z V b2 c2 b3 c3, Kp [] Y Z1 → Row Z1 (.slice b2 UB.length c2) UB → Kp [] Z1 Z → Row Z (.slice b3 PB.length c3) PB → Z.alloc (.cells #[.slice (some ⟨wr.heap.size, 0, none⟩) 1 1, .slice b2 UB.length c2, .slice b3 PB.length c3] 28) = V → Kp [] w V ∧ Calls Tryz.prog 75 #[.slice (some ⟨Z.heap.size, 0, none⟩) 3 3] V (NB F V)) := fun Z1 Z V b2 c2 b3 c3 => hend.out Y Z1 Z V b2 c2 b3 c3 hY
      clear hP hend
      go_wp2_with fail
      refine cP.mono ?_
      rintro e Z1 ⟨b2, c2, rfl, hr2, kZ1, hn2⟩
      have cK := hK.out Z1 (kY.trans kZ1 (by simp))
      have cW' := cW.out Z1
      have he3 : Hid (∀ Z V b3 c3, Kp [] Z1 Z → Row Z (.slice b3 PB.length c3) PB → Z.alloc (.cells #[.slice (some ⟨wr.heap.size, 0, none⟩) 1 1, .slice b2 UB.length c2, .slice b3 PB.length c3] 28) = V → Kp [] w V ∧ Calls Tryz.prog 75 #[.slice (some ⟨Z.heap.size, 0, none⟩) 3 3] V (NB F V)) := fun Z V b3 c3 => he2.out Z1 Z V b2 c2 b3 c3 kZ1 hr2
      clear hr2 he2 cP hK cW
      go_wp2_with fail
      refine cW'.mono ?_
      rintro e Z9 ⟨rfl, hZ9⟩
      rw [hZ9]
      clear hZ9 Z9 cW'
      go_wp2_with fail
      refine cK.mono ?_
      rintro e Z ⟨b3, c3, rfl, hr3, kZ, hn3⟩
      obtain ⟨V, hV⟩ : ∃ V, Z.alloc (.cells #[.slice (some ⟨wr.heap.size, 0, none⟩) 1 1, .slice b2 UB.length c2, .slice b3 PB.length c3] 28) = V := ⟨_, rfl⟩
      obtain ⟨kV, cJ⟩ := he3.out Z V b3 c3 kZ hr3 hV
      clear hr3 he3 cK
      go_wp2_with fail
      refine cJ.mono ?_
      rintro e U ⟨b4, c4, rfl, hr4, kU, hn4⟩
      go_wp2_with fail
      go_ret
      exact ⟨b4, c4, rfl, hr4, kV.trans kU (by simp), fun k hk => by have := hn4 k hk; have := kV.size; omega⟩
end Go.Proofs.YtafcdckpicoppaaGreatDoor
end

section
namespace Go.Proofs.YtafcdckpicoppaaGreatDoor
open Go.RowKit Go.Hay
set_option linter.unusedVariables false
set_option linter.unusedSimpArgs false

/-- The bytes in a kind. -/
def putB (k : Int) (l : List Val) : List UInt8 := if k = 1 then (runsV l).flatMap runB else if k = 2 then deltaB l else if k = 3 then dictB l else if k = 4 then bitsB l else l.flatMap rowB
set_option maxHeartbeats 2000000 in
theorem cPut (k : Int) (a : Option Addr) (ca : Nat) (l : List Val) (w : World) (ha : Vals w a l) (hc : l.length ≤ ca) (hm : ca ≤ maxLen) (hr : allR l = true) (h0 : 0 < l.length) (hl : l.length ≤ 64) :
    Calls Tryz.prog 27 #[.int .i64 k, .slice a l.length ca] w (NB (putB k l) w) := by
  have c1 := cPutRuns a ca l w ha hc hm hr hl
  have c2 := cPutDelta a ca l w ha hc hm h0 hl
  have c3 := cPutDict a ca l w ha hr h0 hl
  have c4 := cPutBits a ca l w ha hc hm h0 hl
  have c0 := cPutPlain a ca l w ha hr hl
  have hB : Hid (putB k l = if k = 1 then (runsV l).flatMap runB else if k = 2 then deltaB l else if k = 3 then dictB l else if k = 4 then bitsB l else l.flatMap rowB) := rfl
  obtain ⟨F, hF⟩ : ∃ F, Hid (putB k l = F) := ⟨_, rfl⟩
  rw [hF.out] at hB ⊢
  clear ha hm hc hr
  by_cases h1 : k = 1
  · have e : Hid ((runsV l).flatMap runB = F) := by show _ = _; rw [hB.out, if_pos h1]
    rw [e.out] at c1
    subst h1
    clear hB hF e c0 c2 c3 c4
    go_enter Tryz.func27, Tryz.ntmps27
    go_wp2_with fail
    refine c1.mono ?_
    rintro e w3 ⟨b3, c3, rfl, hrow3, k3, hn3⟩
    go_wp2_with fail
    go_ret
    exact ⟨b3, c3, rfl, hrow3, k3, hn3⟩
  by_cases h2 : k = 2
  · have e : Hid (deltaB l = F) := by show _ = _; rw [hB.out, if_neg h1, if_pos h2]
    rw [e.out] at c2
    subst h2
    clear hB hF e c0 c1 c3 c4 h1
    go_enter Tryz.func27, Tryz.ntmps27
    go_wp2_with fail
    refine c2.mono ?_
    rintro e w3 ⟨b3, c3, rfl, hrow3, k3, hn3⟩
    go_wp2_with fail
    go_ret
    exact ⟨b3, c3, rfl, hrow3, k3, hn3⟩
  by_cases h3 : k = 3
  · have e : Hid (dictB l = F) := by show _ = _; rw [hB.out, if_neg h1, if_neg h2, if_pos h3]
    rw [e.out] at c3
    subst h3
    clear hB hF e c0 c1 c2 c4 h1 h2
    go_enter Tryz.func27, Tryz.ntmps27
    go_wp2_with fail
    refine c3.mono ?_
    rintro e w3 ⟨b3, c3, rfl, hrow3, k3, hn3⟩
    go_wp2_with fail
    go_ret
    exact ⟨b3, c3, rfl, hrow3, k3, hn3⟩
  by_cases h4 : k = 4
  · have e : Hid (bitsB l = F) := by show _ = _; rw [hB.out, if_neg h1, if_neg h2, if_neg h3, if_pos h4]
    rw [e.out] at c4
    subst h4
    clear hB hF e c0 c1 c2 c3 h1 h2 h3
    go_enter Tryz.func27, Tryz.ntmps27
    go_wp2_with fail
    refine c4.mono ?_
    rintro e w3 ⟨b3, c3, rfl, hrow3, k3, hn3⟩
    go_wp2_with fail
    go_ret
    exact ⟨b3, c3, rfl, hrow3, k3, hn3⟩
  · have e : Hid (l.flatMap rowB = F) := by show _ = _; rw [hB.out, if_neg h1, if_neg h2, if_neg h3, if_neg h4]
    rw [e.out] at c0
    have d1 : (k == 1) = false := by simpa using h1
    have d2 : (k == 2) = false := by simpa using h2
    have d3 : (k == 3) = false := by simpa using h3
    have d4 : (k == 4) = false := by simpa using h4
    clear hB hF e c1 c2 c3 c4
    go_enter Tryz.func27, Tryz.ntmps27
    go_wp2_with fail
    refine c0.mono ?_
    rintro e w3 ⟨b3, c3, rfl, hrow3, k3, hn3⟩
    go_wp2_with fail
    go_ret
    exact ⟨b3, c3, rfl, hrow3, k3, hn3⟩
/-- What Encode writes. -/
def encR (k : Int) (l : List Val) : List UInt8 := if refE k l = 0 ∧ 0 < l.length then putB k l else []
def EncP (k : Int) (l : List Val) (w : World) (e : Ending) (w' : World) : Prop := ∃ b c, e = .returned (.tuple #[.slice b (encR k l).length c, .int .i64 (refE k l)]) ∧ Row w' (.slice b (encR k l).length c) (encR k l) ∧ Kp [] w w' ∧ ∀ k ∈ blk b, w.heap.size ≤ k
theorem refE_ok {k : Int} {l : List Val} (h : refE k l = 0) : knownB k = true ∧ l.length ≤ 64 ∧ allR l = true := by
  unfold refE at h
  split at h
  · cases h
  · rename_i h1
    split at h
    · cases h
    · rename_i h2
      split at h
      · cases h
      · rename_i h3
        exact ⟨by simpa using h1, by omega, by simpa using h3⟩
set_option maxHeartbeats 2000000 in
theorem cEncE (k : Int) (a : Option Addr) (ca : Nat) (l : List Val) (w : World) (ha : Vals w a l) (hc : l.length ≤ ca) (hm : ca ≤ maxLen) :
    Calls Tryz.prog 10 #[.int .i64 k, .slice a l.length ca] w (EncP k l w) := by
  have hlm : l.length ≤ 9223372036854775807 := by unfold maxLen at hm; omega
  have cR := cRefusedE k a ca l w ha hlm
  have hE : Hid (EncP k l w = fun e w' => ∃ b c, e = .returned (.tuple #[.slice b (encR k l).length c, .int .i64 (refE k l)]) ∧ Row w' (.slice b (encR k l).length c) (encR k l) ∧ Kp [] w w' ∧ ∀ k ∈ blk b, w.heap.size ≤ k) := rfl
  rw [hE.out]
  have hR : Hid (encR k l = if refE k l = 0 ∧ 0 < l.length then putB k l else []) := rfl
  have hok := hid (refE_ok (k := k) (l := l))
  obtain ⟨E, hEE⟩ : ∃ E, Hid (refE k l = E) := ⟨_, rfl⟩
  obtain ⟨R, hRR⟩ : ∃ R, Hid (encR k l = R) := ⟨_, rfl⟩
  rw [hEE.out] at cR hR hok
  rw [hRR.out] at hR
  rw [hEE.out, hRR.out]
  have ha' := hid ha
  have hm' := hid hm
  clear hE ha hm
  go_enter Tryz.func10, Tryz.ntmps10
  go_wp2_with fail
  refine cR.mono ?_
  rintro e w1 ⟨rfl, k1⟩
  by_cases h0 : E = 0
  · subst h0
    obtain ⟨_, hl64, hall⟩ := hok.out rfl
    by_cases hl0 : l.length = 0
    · have hRe : R = [] := by rw [hR.out, if_neg (by omega)]
      subst hRe
      rw [hl0] at *
      clear hR hRR cR
      go_wp2_with fail
      go_ret2
      exact ⟨none, 0, rfl, .inl ⟨rfl, rfl⟩, k1, by simp [blk]⟩
    · have hRe : Hid (putB k l = R) := by show _ = _; rw [hR.out, if_pos ⟨rfl, by omega⟩]
      have cP := cPut k a ca l w1 (ha'.out.kept k1) hc hm'.out hall (by omega) hl64
      rw [hRe.out] at cP
      have hd0 : ((l.length : Int) == 0) = false := by rw [beq_eq_false_iff_ne]; omega
      clear hR hRR hRe cR hall ha'
      go_wp2_with fail
      refine cP.mono ?_
      rintro e w3 ⟨b3, c3, rfl, hrow3, k3, hn3⟩
      go_wp2_with fail
      go_ret2
      exact ⟨b3, c3, rfl, hrow3, k1.trans k3 (by simp), fun k hk => by have := hn3 k hk; have := k1.size; omega⟩
  · have hRe : R = [] := by rw [hR.out, if_neg (fun h => h0 h.1)]
    subst hRe
    have d0 : (E != 0) = true := by simpa using h0
    have d1 : (E == 0) = false := by simpa using h0
    clear hR hRR cR hok
    go_wp2_with fail
    go_ret2
    exact ⟨none, 0, rfl, .inl ⟨rfl, rfl⟩, k1, by simp [blk]⟩
end Go.Proofs.YtafcdckpicoppaaGreatDoor
end

section
namespace Go.Proofs.YtafcdckpicoppaaGreatDoor
open Go.RowKit Go.Hay
set_option linter.unusedVariables false
set_option linter.unusedSimpArgs false

/-- The best of the first kinds, and how many bytes it takes (-1: none yet). -/
def bT (l : List Val) : Nat → Int × Int
  | 0 => (0, -1)
  | k + 1 => if refE k l = 0 ∧ ((bT l k).2 < 0 ∨ ((encR k l).length : Int) < (bT l k).2) then ((k : Int), ((encR k l).length : Int)) else bT l k
def bestV (l : List Val) : Int := (bT l 5).1
set_option maxHeartbeats 4000000 in
set_option maxRecDepth 100000 in
theorem cBest (a : Option Addr) (ca : Nat) (l : List Val) (w : World) (ha : Vals w a l) (hc : l.length ≤ ca) (hm : ca ≤ maxLen) :
    Calls Tryz.prog 9 #[.slice a l.length ca] w fun e w' => e = .returned (.int .i64 (bestV l)) ∧ Kp [] w w' := by
  have hE : Hid (∀ (k : Int) W, Kp [] w W → Calls Tryz.prog 10 #[.int .i64 k, .slice a l.length ca] W (EncP k l W)) := fun k W kW => cEncE k a ca l W (ha.kept kW) hc hm
  have hB : Hid (bestV l = (bT l 5).1) := rfl
  obtain ⟨F, hF⟩ : ∃ F, Hid (bestV l = F) := ⟨_, rfl⟩
  rw [hF.out] at hB ⊢
  clear ha hm hF hc
  go_enter Tryz.func9, Tryz.ntmps9
  go_wp2_with fail
  go_loopw [3, 4, 5] (fun s3 s4 s5 wn => ∃ k : Nat, k ≤ 5 ∧ s3 = .int .i64 (bT l k).1 ∧ s4 = .int .i64 (bT l k).2 ∧ s5 = .int .i64 k ∧ Kp [] w wn) (fun _ _ s5 _ => 5 - (intOf s5).toNat)
  case atStart => exact ⟨0, by omega, rfl, rfl, rfl, Kp.refl _ _⟩
  case round =>
    obtain ⟨k, hk, rfl, rfl, rfl, kn⟩ := hrel
    have hst : Hid (bT l (k + 1) = if refE k l = 0 ∧ ((bT l k).2 < 0 ∨ ((encR k l).length : Int) < (bT l k).2) then ((k : Int), ((encR k l).length : Int)) else bT l k) := rfl
    obtain ⟨⟨B1, B2⟩, hBT⟩ : ∃ p, Hid (bT l k = p) := ⟨_, rfl⟩
    by_cases hlt : k < 5
    · rw [hBT.out] at hst ⊢
      have cE := hE.out (k : Int) wr kn
      unfold EncP at cE
      obtain ⟨E, hEE⟩ : ∃ E, Hid (refE k l = E) := ⟨_, rfl⟩
      obtain ⟨R, hRR⟩ : ∃ R, Hid (encR k l = R) := ⟨_, rfl⟩
      rw [hEE.out, hRR.out] at hst
      rw [hEE.out, hRR.out] at cE
      dsimp only at hst ⊢
      have hk4 : (k : Int) ≤ 4 := by omega
      go_wp2_with fail
      refine cE.mono ?_
      rintro e w3 ⟨b3, c3, rfl, hrow3, k3, hn3⟩
      have k3' := kn.trans k3 (by simp)
      clear hrow3 hn3 cE k3
      by_cases h0 : E = 0
      · subst h0
        by_cases h1 : B2 < 0
        · have hst2 : Hid (bT l (k + 1) = ((k : Int), (R.length : Int))) := by show _ = _; rw [hst.out, if_pos ⟨rfl, .inl h1⟩]
          clear hst
          go_wp2_with fail
          exact ⟨⟨k + 1, by omega, by rw [hst2.out], by rw [hst2.out], by go_num, k3'⟩, by simp [intOf]; omega⟩
        · by_cases h2 : (R.length : Int) < B2
          · have hst2 : Hid (bT l (k + 1) = ((k : Int), (R.length : Int))) := by show _ = _; rw [hst.out, if_pos ⟨rfl, .inr h2⟩]
            clear hst
            go_wp2_with fail
            exact ⟨⟨k + 1, by omega, by rw [hst2.out], by rw [hst2.out], by go_num, k3'⟩, by simp [intOf]; omega⟩
          · have hst2 : Hid (bT l (k + 1) = (B1, B2)) := by
              show _ = _
              rw [hst.out, if_neg]
              rintro ⟨_, h | h⟩ <;> omega
            clear hst
            go_wp2_with fail
            exact ⟨⟨k + 1, by omega, by rw [hst2.out], by rw [hst2.out], by go_num, k3'⟩, by simp [intOf]; omega⟩
      · have hst2 : Hid (bT l (k + 1) = (B1, B2)) := by
          show _ = _
          rw [hst.out, if_neg (fun h => h0 h.1)]
        have d1 : (E == 0) = false := by simpa using h0
        clear hst
        go_wp2_with fail
        exact ⟨⟨k + 1, by omega, by rw [hst2.out], by rw [hst2.out], by go_num, k3'⟩, by simp [intOf]; omega⟩
    · obtain rfl : k = 5 := by omega
      rw [← hB.out]
      clear hst hBT
      go_wp2_with fail
      go_ret
      exact ⟨rfl, kn⟩
end Go.Proofs.YtafcdckpicoppaaGreatDoor
end

section
namespace Go.Proofs.YtafcdckpicoppaaGreatDoor
open Go.RowKit Go.Hay
set_option linter.unusedVariables false
set_option linter.unusedSimpArgs false

/-- So many values, and nothing behind them. -/
def decL : Nat → List UInt8 → Option (List Val)
  | 0, bs => if bs = [] then some [] else none
  | n + 1, bs => if (rowF bs).2 = 0 then none else (decL n (bs.drop (rowF bs).2)).map ((rowF bs).1 :: ·)
/-- A row, or that there is none. -/
def decO : Option (List Val) → List Val × Int
  | some l => (l, 0)
  | none => ([], 30)
/-- What bytes are read as, or that they are no row's. -/
def decS : List UInt8 → List Val × Int
  | [] => ([], 30)
  | n :: r => if 16 < n.toNat then ([], 30) else decO (decL n.toNat r)
theorem fixF_le (add : Int) (bs : List UInt8) : (fixF add bs).2 ≤ bs.length := by
  cases bs with
  | nil => simp [fixF]
  | cons f r =>
    simp only [fixF]
    split
    · simp
    · split
      · cases r with
        | nil => simp
        | cons y s => simp only; split <;> simp
      · split
        · split
          · simp; omega
          · simp
        · simp
theorem rowF_le (bs : List UInt8) : (rowF bs).2 ≤ bs.length := by
  cases bs with
  | nil => simp [rowF]
  | cons f r =>
    simp only [rowF]
    split
    · cases r with
      | nil => simp
      | cons y s =>
        simp only
        split
        · simp; omega
        · simp
    · exact fixF_le 0 (f :: r)
/-- A row of values in a block of its own. -/
structure RowZ (w : World) (B : Nat) (l : List Val) : Prop where
  vals : ∀ j x, l[j]? = some x → w.cell? ⟨B, j * 4, none⟩ = some (.int .i64 x.k) ∧ w.cell? ⟨B, j * 4 + 1, none⟩ = some (.bool x.b) ∧ w.cell? ⟨B, j * 4 + 2, none⟩ = some (.int .i64 x.n) ∧ w.cell? ⟨B, j * 4 + 3, none⟩ = some (.string x.t)
  free : ∀ j, w.frozen? ⟨B, j, none⟩ = false
theorem RowZ.set {w : World} {B : Nat} {l : List Val} (h : RowZ w B l) (i : Nat) (x : Val) (hi : i < l.length) :
    RowZ ((((w.setCell ⟨B, i * 4, none⟩ (.int .i64 x.k)).setCell ⟨B, i * 4 + 1, none⟩ (.bool x.b)).setCell ⟨B, i * 4 + 2, none⟩ (.int .i64 x.n)).setCell ⟨B, i * 4 + 3, none⟩ (.string x.t)) B (l.set i x) := by
  have n0 : ∀ (w : World) (i j : Nat) (v : Value), i ≠ j → (w.setCell ⟨B, j, none⟩ v).cell? ⟨B, i, none⟩ = w.cell? ⟨B, i, none⟩ := fun w i j v hij => World.cell?_setCell_other _ _ _ _ (by intro e; simp only [Addr.mk.injEq] at e; omega)
  obtain ⟨z0, z1, z2, z3⟩ := h.vals i l[i] (by simp)
  refine ⟨fun j y hy => ?_, fun j => by rw [World.frozen?_setCell, World.frozen?_setCell, World.frozen?_setCell, World.frozen?_setCell]; exact h.free j⟩
  by_cases hj : j = i
  · subst hj
    rw [List.getElem?_set_self (by omega)] at hy
    cases hy
    refine ⟨?_, ?_, ?_, ?_⟩
    · rw [n0 _ _ _ _ (by omega), n0 _ _ _ _ (by omega), n0 _ _ _ _ (by omega)]
      exact World.cell?_setCell_same _ _ _ z0
    · rw [n0 _ _ _ _ (by omega), n0 _ _ _ _ (by omega)]
      exact World.cell?_setCell_same _ _ _ ((n0 _ _ _ _ (by omega)).trans z1)
    · rw [n0 _ _ _ _ (by omega)]
      exact World.cell?_setCell_same _ _ _ ((n0 _ _ _ _ (by omega)).trans ((n0 _ _ _ _ (by omega)).trans z2))
    · exact World.cell?_setCell_same _ _ _ ((n0 _ _ _ _ (by omega)).trans ((n0 _ _ _ _ (by omega)).trans ((n0 _ _ _ _ (by omega)).trans z3)))
  · rw [List.getElem?_set_ne (fun e => hj e.symm)] at hy
    obtain ⟨y0, y1, y2, y3⟩ := h.vals j y hy
    refine ⟨?_, ?_, ?_, ?_⟩
    all_goals (rw [n0 _ _ _ _ (by omega), n0 _ _ _ _ (by omega), n0 _ _ _ _ (by omega), n0 _ _ _ _ (by omega)]; assumption)
theorem RowZ.kept {w w' : World} {B : Nat} {l : List Val} (h : RowZ w B l) (hB : B < w.heap.size) (hk : Kp [] w w') : RowZ w' B l :=
  ⟨fun j x hx => by
    obtain ⟨z0, z1, z2, z3⟩ := h.vals j x hx
    exact ⟨kpAt hk z0, kpAt hk z1, kpAt hk z2, kpAt hk z3⟩, fun j => (hk.frozen (p := ⟨B, j, none⟩) hB (by simp)).trans (h.free j)⟩

/-- So many values, all nought, made. -/
theorem makeRow (n : Nat) (hn : n ≤ 16) (w : World) : ∃ W : World, (Instr.makeSlice 32 (.int .u8 n) (.int .u8 n)).run Tryz.prog w = .ok (.slice (some ⟨w.heap.size, 0, none⟩) n n) W ∧ RowZ W w.heap.size (List.replicate n nilV) ∧ Kp [] w W ∧ w.heap.size < W.heap.size := by
  obtain ⟨i, hi, hz, hz1, hz2⟩ := infoV
  have hr := run_make (P := Tryz.prog) w 32 25 i _ Tryz.underlying32 hi hz .u8 .u8 n n (by omega) (by omega) (by rw [hz2]; omega) (by omega)
  rw [Int.toNat_natCast, hz1] at hr
  refine ⟨_, hr, ⟨fun j x hx => ?_, fun j => World.frozen?_alloc_new w _ _ j⟩, (Kp.refl _ _).alloc _, by simp⟩
  have hj : j < n := by have := (List.getElem?_eq_some_iff.1 hx).1; simpa using this
  rw [List.getElem?_replicate, if_pos hj] at hx
  cases hx
  have cell : ∀ k v, k < 4 → (#[.int .i64 0, .bool false, .int .i64 0, .string ⟨#[]⟩] : Array Value)[k]! = v → (w.alloc (.cells (madeCells (Value.agg #[.int .i64 0, .bool false, .int .i64 0, .string ⟨#[]⟩]).cells (n * 4)) 25)).cell? ⟨w.heap.size, j * 4 + k, none⟩ = some v := by
    intro k v hk hv
    rw [World.cell?_alloc_new w _ _ (j * 4 + k)]
    unfold madeCells
    rw [Array.getElem?_map, Array.getElem?_range, if_pos (by omega)]
    simp only [Option.map_some, Value.cells]
    rw [show (j * 4 + k) % (#[.int .i64 0, .bool false, .int .i64 0, .string ⟨#[]⟩] : Array Value).size = k by show (j * 4 + k) % 4 = k; omega, hv]
  exact ⟨cell 0 _ (by omega) rfl, cell 1 _ (by omega) rfl, cell 2 _ (by omega) rfl, cell 3 _ (by omega) rfl⟩
theorem RowZ.asVals {w : World} {B : Nat} {l : List Val} (h : RowZ w B l) : Vals w (some ⟨B, 0, none⟩) l := by
  refine .inr ⟨B, 0, rfl, fun j x hx => ?_⟩
  rw [Nat.zero_add]
  exact h.vals j x hx
theorem decL_step (n : Nat) (bs : List UInt8) (d : List Val) : (decL (n + 1) bs).map (d ++ ·) = if (rowF bs).2 = 0 then none else (decL n (bs.drop (rowF bs).2)).map (d ++ [(rowF bs).1] ++ ·) := by
  rw [decL]
  split
  · rfl
  · rw [Option.map_map]
    congr 1
    funext l
    simp

/-- What a Decode hands back: a row. -/
def Rdn (w : World) (r : List Val × Int) (e : Ending) (w' : World) : Prop :=
  ∃ a c l E, Hid (r = (l, E)) ∧ e = .returned (.tuple #[.slice a l.length c, .int .i64 E]) ∧ Vals w' a l ∧ l.length ≤ 16 ∧ l.length ≤ c ∧ c ≤ maxLen ∧ (a = none → c = 0) ∧ Kp [] w w'

set_option maxHeartbeats 4000000 in
set_option maxRecDepth 100000 in
theorem cDecode (a : Option Addr) (c : Nat) (bs : List UInt8) (w : World) (hs : Sees w a bs) (hl : bs.length ≤ c) (hm : c ≤ maxLen) :
    Calls Tryz.prog 126 #[.slice a bs.length c] w (Rdn w (decS bs)) := by
  cases bs with
  | nil =>
    have HF : Hid (decS [] = ([], 30)) := rfl
    generalize decS [] = R at *
    rw [List.length_nil] at hl ⊢
    go_enter Tryz.func126, Tryz.ntmps126
    go_wp2_with fail
    go_ret2
    exact ⟨none, 0, [], 30, HF, rfl, .inl rfl, by simp, by simp, by simp, fun _ => rfl, Kp.refl _ _⟩
  | cons f r =>
    obtain ⟨g, o, rfl, hc⟩ : ∃ g o, a = some ⟨g, o, none⟩ ∧ ∀ j u, (f :: r)[j]? = some u → w.cell? ⟨g, o + j, none⟩ = some (.int .u8 u.toNat) := by
      rcases hs with h | h
      · cases h
      · exact h
    have hc0 : w.cell? ⟨g, o, none⟩ = some (.int .u8 f.toNat) := hc 0 f rfl
    have hg : g < w.heap.size := World.block_lt_of_cell? _ _ hc0
    have hf := f.toNat_lt
    rw [List.length_cons] at hl ⊢
    unfold maxLen at hm
    by_cases h16 : 16 < f.toNat
    · have HF : Hid (decS (f :: r) = ([], 30)) := by show _ = _; simp [decS, h16]
      generalize decS (f :: r) = R at *
      clear hc hs
      go_enter Tryz.func126, Tryz.ntmps126
      go_wp2_with fail
      go_ret2
      exact ⟨none, 0, [], 30, HF, rfl, .inl rfl, by simp, by simp, by simp, fun _ => rfl, Kp.refl _ _⟩
    · clear hc
      have hn16 : f.toNat ≤ 16 := by omega
      have HF : Hid (decS (f :: r) = decO (decL f.toNat r)) := by show _ = _; simp only [decS, if_neg h16]
      have hne : (((r.length : Int) + 1) == 0) = false := by simp; omega
      have h16' : decide ((16 : Int) < (f.toNat : Int)) = false := by simp; omega
      have htl : Sees w (some ⟨g, o + 1, none⟩) r := by have := Sees.tail hs 1; simpa [Addr.add_lit] using this
      generalize decS (f :: r) = R at *
      clear hs h16
      generalize f.toNat = n at *
      obtain ⟨W, hmk, hz, kW, hWs⟩ := makeRow n hn16 w
      have hgW : g ≠ w.heap.size := by omega
      by_cases hc1 : c = 1
      · subst hc1
        have hA : Sees W (some ⟨g, o, none⟩) r := by
          have : r = [] := by cases r with | nil => rfl | cons _ _ => simp at hl
          subst this
          exact .inl rfl
        have hnb : ∀ k ∈ blk (some ⟨g, o, none⟩), k ≠ w.heap.size := fun k hk => by have : k = g := by { simpa [blk] using hk }; omega
        go_enter Tryz.func126, Tryz.ntmps126
        go_wp2_with fail
        go_loopw [0, 25] (fun v i wn => ∃ (j : Nat) (dn : List Val) (rest : List UInt8) (m : Nat) (a' : Option Addr) (c' : Nat), j ≤ n ∧ i = .int .i64 j ∧ v = .slice a' m c' ∧ m = rest.length ∧ rest.length ≤ c' ∧ c' ≤ 9223372036854775807 ∧ Sees wn a' rest ∧ dn.length = j ∧ Hid ((decL (n - j) rest).map (dn ++ ·) = decL n r) ∧ RowZ wn w.heap.size (dn ++ List.replicate (n - j) nilV) ∧ w.heap.size < wn.heap.size ∧ (∀ k ∈ blk a', k ≠ w.heap.size) ∧ Kp [] w wn) (fun _ i _ => n - (intOf i).toNat)
        case atStart => exact ⟨0, [], r, _, _, _, Nat.zero_le _, rfl, rfl, by first | rfl | omega, by omega, by omega, hA, rfl, by show _ = _; simp, by simpa using hz, hWs, hnb, kW⟩
        case round =>
          obtain ⟨j, dn, rest, m, a', c', hj, rfl, rfl, hmr, hlc, hcm, hse, hdl, hdec, hrz, hBl, hbk, hk⟩ := hrel
          subst hmr
          have hdl' := hid hdl
          clear hdl
          by_cases hjm : j < n
          · obtain ⟨q, hq⟩ : ∃ q, n - j = q + 1 := ⟨n - j - 1, by omega⟩
            have hq' := hid hq
            rw [hq, decL_step] at hdec
            have hlen : (dn ++ List.replicate (n - j) nilV).length = n := by rw [List.length_append, hdl'.out, List.length_replicate]; omega
            obtain ⟨z0, z1, z2, z3⟩ := hrz.vals j nilV (by rw [List.getElem?_append_right (by rw [hdl'.out]; omega), hdl'.out, List.getElem?_replicate, if_pos (by omega)])
            have f0 := hrz.free (j * 4); have f1 := hrz.free (j * 4 + 1); have f2 := hrz.free (j * 4 + 2); have f3 := hrz.free (j * 4 + 3)
            have hT := cTakeValue a' c' rest wr hse hlc (by unfold maxLen; omega)
            have hle := rowF_le rest
            generalize hR' : rowF rest = rr at *
            obtain ⟨x, sz⟩ := rr
            dsimp only at hle hdec
            unfold Tk at hT
            dsimp only at hT
            have hxv : Hid (x.v = .agg #[.int .i64 x.k, .bool x.b, .int .i64 x.n, .string x.t]) := rfl
            rw [hxv.out] at hT
            have hlt0 : w.heap.size < wr.heap.size := hBl
            have hzz : Hid (RowZ wr w.heap.size (dn ++ List.replicate (n - j) nilV)) := hrz
            clear hR' hrz hxv hq
            generalize hrz' : (dn ++ List.replicate (n - j) nilV) = rz at *
            have hrz := hid hrz'
            clear hrz'
            go_wp2_with fail
            refine hT.mono ?_
            rintro e w1 ⟨rfl, k1⟩
            have kN := k1.trans (kpNew w1 (.cells #[.int .i64 x.k, .bool x.b, .int .i64 x.n, .string x.t] 25)) (by simp)
            have z0' := kpAt k1 z0; have z1' := kpAt k1 z1; have z2' := kpAt k1 z2; have z3' := kpAt k1 z3
            have g0 := (k1.frozen (p := ⟨w.heap.size, j * 4, none⟩) hlt0 (by simp)).trans f0
            have g1 := (k1.frozen (p := ⟨w.heap.size, j * 4 + 1, none⟩) hlt0 (by simp)).trans f1
            have g2 := (k1.frozen (p := ⟨w.heap.size, j * 4 + 2, none⟩) hlt0 (by simp)).trans f2
            have g3 := (k1.frozen (p := ⟨w.heap.size, j * 4 + 3, none⟩) hlt0 (by simp)).trans f3
            have hlt1 : w.heap.size < w1.heap.size := Nat.lt_of_lt_of_le hlt0 k1.size
            clear z0 z1 z2 z3 f0 f1 f2 f3 hT
            by_cases hsz : sz = 0
            · subst hsz
              have HE : Hid (R = ([], 30)) := by show _ = _; rw [HF.out, ← hdec.out]; rfl
              clear hdec HF
              go_wp2_with fail
              go_ret2
              exact ⟨none, 0, [], 30, HE, rfl, .inl rfl, by simp, by simp, by simp, fun _ => rfl, hk.trans kN (by simp)⟩
            · have hsz' : ((sz : Int) == 0) = false := by simp; omega
              rw [if_neg hsz] at hdec
              have hsz1 : (sz : Int) ≤ rest.length := by omega
              have hZ1 := (hzz.out.kept hlt0 k1).set j x (by omega)
              have hkB : Kp [w.heap.size] w1 _ := ((((Kp.refl [w.heap.size] w1).setCell (p := ⟨w.heap.size, j * 4, none⟩) (.inl (by simp)) (.int .i64 x.k)).setCell (p := ⟨w.heap.size, j * 4 + 1, none⟩) (.inl (by simp)) (.bool x.b)).setCell (p := ⟨w.heap.size, j * 4 + 2, none⟩) (.inl (by simp)) (.int .i64 x.n)).setCell (p := ⟨w.heap.size, j * 4 + 3, none⟩) (.inl (by simp)) (.string x.t)
              have hBn1 : w.heap.size < _ := Nat.lt_of_lt_of_le hlt1 hkB.size
              have hS1 := seesKeep ((seesKeep hse k1).kept hkB (fun k hk' => by simpa using hbk k hk')) (kpNew _ (.cells #[.int .i64 x.k, .bool x.b, .int .i64 x.n, .string x.t] 25))
              have hkn := ((hk.trans k1 (by simp)).trans hkB (fun k hk' => .inr (by simp at hk'; omega))).alloc (.cells #[.int .i64 x.k, .bool x.b, .int .i64 x.n, .string x.t] 25)
              have hZ := hZ1.kept hBn1 (kpNew _ (.cells #[.int .i64 x.k, .bool x.b, .int .i64 x.n, .string x.t] 25))
              have hBn := Nat.lt_of_lt_of_le hBn1 (kpNew _ (.cells #[.int .i64 x.k, .bool x.b, .int .i64 x.n, .string x.t] 25)).size
              clear hZ1 hBn1
              have hset : rz.set j x = dn ++ [x] ++ List.replicate q nilV := by
                rw [← hrz.out, hq'.out, List.replicate_succ, List.set_append_right _ _ (by rw [hdl'.out]; omega), hdl'.out]
                simp
              rw [hset] at hZ
              obtain ⟨g', o', rfl⟩ : ∃ g' o', a' = some ⟨g', o', none⟩ := by
                rcases hse with h | ⟨g', o', h, _⟩
                · subst h; simp at hsz1; omega
                · exact ⟨g', o', h⟩
              have hbk' : g' ≠ w.heap.size := hbk g' (by simp [blk])
              have hdr : (rest.drop sz).length = rest.length - sz := by simp
              have hS2 := Sees.tail hS1 sz
              rw [show (some (⟨g', o', none⟩ : Addr)).map (fun x => x.add sz) = some ⟨g', o' + sz, none⟩ by simp [Addr.add_lit]] at hS2
              have hS3 : rest.length ≤ sz → Hid (rest.drop sz = []) := fun h => List.drop_eq_nil_of_le h
              have hD : Hid (Option.map (fun x_1 => dn ++ [x] ++ x_1) (decL (n - (j + 1)) (rest.drop sz)) = decL n r) := by show _ = _; rw [show n - (j + 1) = q by have := hq'.out; omega]; exact hdec.out
              rw [show q = n - (j + 1) by have := hq'.out; omega] at hZ
              have hZ' := hid hZ
              have hdl2 : Hid ((dn ++ [x]).length = j + 1) := by show _ = _; simp [hdl'.out]
              clear hZ hdec hset hS1 hkB hse hbk
              generalize rest.drop sz = rest' at *
              by_cases hcz : c' = sz
              · have hre := (hS3 (by omega)).out
                subst hcz
                subst hre
                have hr0 : rest.length - c' = 0 := by omega
                go_wp2_with fail
                exact ⟨⟨j + 1, dn ++ [x], [], _, _, _, by omega, by go_num, rfl, by simp, by simp, by omega, .inl rfl, hdl2.out, hD, hZ'.out, hBn, by intro k hk'; simp [blk] at hk'; omega, hkn⟩, by simp [intOf]; omega⟩
              · go_wp2_with fail
                exact ⟨⟨j + 1, dn ++ [x], rest', _, _, _, by omega, by go_num, rfl, by omega, by omega, by omega, hS2, hdl2.out, hD, hZ'.out, hBn, by intro k hk'; simp [blk] at hk'; omega, hkn⟩, by simp [intOf]; omega⟩
          · obtain rfl : j = n := by omega
            have hz2 := hrz
            rw [Nat.sub_self] at hdec hz2
            rw [show dn ++ List.replicate 0 nilV = dn by simp] at hz2
            cases rest with
            | nil =>
              have HE : Hid (R = (dn, 0)) := by show _ = _; rw [HF.out, ← hdec.out]; simp [decL, decO]
              have hvs := hz2.asVals
              clear hdec HF hrz
              rw [List.length_nil]
              go_wp2_with fail
              go_ret2
              exact ⟨_, _, dn, 0, HE, by rw [hdl'.out]; rfl, hvs, by rw [hdl'.out]; omega, by rw [hdl'.out]; omega, by unfold maxLen; omega, by simp, hk⟩
            | cons y s =>
              have HE : Hid (R = ([], 30)) := by show _ = _; rw [HF.out, ← hdec.out]; simp [decL, decO]
              clear hdec HF hrz
              rw [List.length_cons]
              go_wp2_with fail
              go_ret2
              exact ⟨none, 0, [], 30, HE, rfl, .inl rfl, by simp, by simp, by simp, fun _ => rfl, hk⟩
      · have hA : Sees W (some ⟨g, o + 1, none⟩) r := seesKeep htl kW
        have hnb : ∀ k ∈ blk (some ⟨g, o + 1, none⟩), k ≠ w.heap.size := fun k hk => by have : k = g := by { simpa [blk] using hk }; omega
        go_enter Tryz.func126, Tryz.ntmps126
        go_wp2_with fail
        go_loopw [0, 25] (fun v i wn => ∃ (j : Nat) (dn : List Val) (rest : List UInt8) (m : Nat) (a' : Option Addr) (c' : Nat), j ≤ n ∧ i = .int .i64 j ∧ v = .slice a' m c' ∧ m = rest.length ∧ rest.length ≤ c' ∧ c' ≤ 9223372036854775807 ∧ Sees wn a' rest ∧ dn.length = j ∧ Hid ((decL (n - j) rest).map (dn ++ ·) = decL n r) ∧ RowZ wn w.heap.size (dn ++ List.replicate (n - j) nilV) ∧ w.heap.size < wn.heap.size ∧ (∀ k ∈ blk a', k ≠ w.heap.size) ∧ Kp [] w wn) (fun _ i _ => n - (intOf i).toNat)
        case atStart => exact ⟨0, [], r, _, _, _, Nat.zero_le _, rfl, rfl, by first | rfl | omega, by omega, by omega, hA, rfl, by show _ = _; simp, by simpa using hz, hWs, hnb, kW⟩
        case round =>
          obtain ⟨j, dn, rest, m, a', c', hj, rfl, rfl, hmr, hlc, hcm, hse, hdl, hdec, hrz, hBl, hbk, hk⟩ := hrel
          subst hmr
          have hdl' := hid hdl
          clear hdl
          by_cases hjm : j < n
          · obtain ⟨q, hq⟩ : ∃ q, n - j = q + 1 := ⟨n - j - 1, by omega⟩
            have hq' := hid hq
            rw [hq, decL_step] at hdec
            have hlen : (dn ++ List.replicate (n - j) nilV).length = n := by rw [List.length_append, hdl'.out, List.length_replicate]; omega
            obtain ⟨z0, z1, z2, z3⟩ := hrz.vals j nilV (by rw [List.getElem?_append_right (by rw [hdl'.out]; omega), hdl'.out, List.getElem?_replicate, if_pos (by omega)])
            have f0 := hrz.free (j * 4); have f1 := hrz.free (j * 4 + 1); have f2 := hrz.free (j * 4 + 2); have f3 := hrz.free (j * 4 + 3)
            have hT := cTakeValue a' c' rest wr hse hlc (by unfold maxLen; omega)
            have hle := rowF_le rest
            generalize hR' : rowF rest = rr at *
            obtain ⟨x, sz⟩ := rr
            dsimp only at hle hdec
            unfold Tk at hT
            dsimp only at hT
            have hxv : Hid (x.v = .agg #[.int .i64 x.k, .bool x.b, .int .i64 x.n, .string x.t]) := rfl
            rw [hxv.out] at hT
            have hlt0 : w.heap.size < wr.heap.size := hBl
            have hzz : Hid (RowZ wr w.heap.size (dn ++ List.replicate (n - j) nilV)) := hrz
            clear hR' hrz hxv hq
            generalize hrz' : (dn ++ List.replicate (n - j) nilV) = rz at *
            have hrz := hid hrz'
            clear hrz'
            go_wp2_with fail
            refine hT.mono ?_
            rintro e w1 ⟨rfl, k1⟩
            have kN := k1.trans (kpNew w1 (.cells #[.int .i64 x.k, .bool x.b, .int .i64 x.n, .string x.t] 25)) (by simp)
            have z0' := kpAt k1 z0; have z1' := kpAt k1 z1; have z2' := kpAt k1 z2; have z3' := kpAt k1 z3
            have g0 := (k1.frozen (p := ⟨w.heap.size, j * 4, none⟩) hlt0 (by simp)).trans f0
            have g1 := (k1.frozen (p := ⟨w.heap.size, j * 4 + 1, none⟩) hlt0 (by simp)).trans f1
            have g2 := (k1.frozen (p := ⟨w.heap.size, j * 4 + 2, none⟩) hlt0 (by simp)).trans f2
            have g3 := (k1.frozen (p := ⟨w.heap.size, j * 4 + 3, none⟩) hlt0 (by simp)).trans f3
            have hlt1 : w.heap.size < w1.heap.size := Nat.lt_of_lt_of_le hlt0 k1.size
            clear z0 z1 z2 z3 f0 f1 f2 f3 hT
            by_cases hsz : sz = 0
            · subst hsz
              have HE : Hid (R = ([], 30)) := by show _ = _; rw [HF.out, ← hdec.out]; rfl
              clear hdec HF
              go_wp2_with fail
              go_ret2
              exact ⟨none, 0, [], 30, HE, rfl, .inl rfl, by simp, by simp, by simp, fun _ => rfl, hk.trans kN (by simp)⟩
            · have hsz' : ((sz : Int) == 0) = false := by simp; omega
              rw [if_neg hsz] at hdec
              have hsz1 : (sz : Int) ≤ rest.length := by omega
              have hZ1 := (hzz.out.kept hlt0 k1).set j x (by omega)
              have hkB : Kp [w.heap.size] w1 _ := ((((Kp.refl [w.heap.size] w1).setCell (p := ⟨w.heap.size, j * 4, none⟩) (.inl (by simp)) (.int .i64 x.k)).setCell (p := ⟨w.heap.size, j * 4 + 1, none⟩) (.inl (by simp)) (.bool x.b)).setCell (p := ⟨w.heap.size, j * 4 + 2, none⟩) (.inl (by simp)) (.int .i64 x.n)).setCell (p := ⟨w.heap.size, j * 4 + 3, none⟩) (.inl (by simp)) (.string x.t)
              have hBn1 : w.heap.size < _ := Nat.lt_of_lt_of_le hlt1 hkB.size
              have hS1 := seesKeep ((seesKeep hse k1).kept hkB (fun k hk' => by simpa using hbk k hk')) (kpNew _ (.cells #[.int .i64 x.k, .bool x.b, .int .i64 x.n, .string x.t] 25))
              have hkn := ((hk.trans k1 (by simp)).trans hkB (fun k hk' => .inr (by simp at hk'; omega))).alloc (.cells #[.int .i64 x.k, .bool x.b, .int .i64 x.n, .string x.t] 25)
              have hZ := hZ1.kept hBn1 (kpNew _ (.cells #[.int .i64 x.k, .bool x.b, .int .i64 x.n, .string x.t] 25))
              have hBn := Nat.lt_of_lt_of_le hBn1 (kpNew _ (.cells #[.int .i64 x.k, .bool x.b, .int .i64 x.n, .string x.t] 25)).size
              clear hZ1 hBn1
              have hset : rz.set j x = dn ++ [x] ++ List.replicate q nilV := by
                rw [← hrz.out, hq'.out, List.replicate_succ, List.set_append_right _ _ (by rw [hdl'.out]; omega), hdl'.out]
                simp
              rw [hset] at hZ
              obtain ⟨g', o', rfl⟩ : ∃ g' o', a' = some ⟨g', o', none⟩ := by
                rcases hse with h | ⟨g', o', h, _⟩
                · subst h; simp at hsz1; omega
                · exact ⟨g', o', h⟩
              have hbk' : g' ≠ w.heap.size := hbk g' (by simp [blk])
              have hdr : (rest.drop sz).length = rest.length - sz := by simp
              have hS2 := Sees.tail hS1 sz
              rw [show (some (⟨g', o', none⟩ : Addr)).map (fun x => x.add sz) = some ⟨g', o' + sz, none⟩ by simp [Addr.add_lit]] at hS2
              have hS3 : rest.length ≤ sz → Hid (rest.drop sz = []) := fun h => List.drop_eq_nil_of_le h
              have hD : Hid (Option.map (fun x_1 => dn ++ [x] ++ x_1) (decL (n - (j + 1)) (rest.drop sz)) = decL n r) := by show _ = _; rw [show n - (j + 1) = q by have := hq'.out; omega]; exact hdec.out
              rw [show q = n - (j + 1) by have := hq'.out; omega] at hZ
              have hZ' := hid hZ
              have hdl2 : Hid ((dn ++ [x]).length = j + 1) := by show _ = _; simp [hdl'.out]
              clear hZ hdec hset hS1 hkB hse hbk
              generalize rest.drop sz = rest' at *
              by_cases hcz : c' = sz
              · have hre := (hS3 (by omega)).out
                subst hcz
                subst hre
                have hr0 : rest.length - c' = 0 := by omega
                go_wp2_with fail
                exact ⟨⟨j + 1, dn ++ [x], [], _, _, _, by omega, by go_num, rfl, by simp, by simp, by omega, .inl rfl, hdl2.out, hD, hZ'.out, hBn, by intro k hk'; simp [blk] at hk'; omega, hkn⟩, by simp [intOf]; omega⟩
              · go_wp2_with fail
                exact ⟨⟨j + 1, dn ++ [x], rest', _, _, _, by omega, by go_num, rfl, by omega, by omega, by omega, hS2, hdl2.out, hD, hZ'.out, hBn, by intro k hk'; simp [blk] at hk'; omega, hkn⟩, by simp [intOf]; omega⟩
          · obtain rfl : j = n := by omega
            have hz2 := hrz
            rw [Nat.sub_self] at hdec hz2
            rw [show dn ++ List.replicate 0 nilV = dn by simp] at hz2
            cases rest with
            | nil =>
              have HE : Hid (R = (dn, 0)) := by show _ = _; rw [HF.out, ← hdec.out]; simp [decL, decO]
              have hvs := hz2.asVals
              clear hdec HF hrz
              rw [List.length_nil]
              go_wp2_with fail
              go_ret2
              exact ⟨_, _, dn, 0, HE, by rw [hdl'.out]; rfl, hvs, by rw [hdl'.out]; omega, by rw [hdl'.out]; omega, by unfold maxLen; omega, by simp, hk⟩
            | cons y s =>
              have HE : Hid (R = ([], 30)) := by show _ = _; rw [HF.out, ← hdec.out]; simp [decL, decO]
              clear hdec HF hrz
              rw [List.length_cons]
              go_wp2_with fail
              go_ret2
              exact ⟨none, 0, [], 30, HE, rfl, .inl rfl, by simp, by simp, by simp, fun _ => rfl, hk⟩
end Go.Proofs.YtafcdckpicoppaaGreatDoor
end

section
namespace Go.Proofs.YtafcdckpicoppaaGreatDoor
open Go.RowKit Go.Hay
set_option linter.unusedVariables false
set_option linter.unusedSimpArgs false

def vsz : List UInt8 → Nat
  | [] => 0
  | x :: r => if x.toNat = 0 then 1 else if x.toNat = 1 then 2 else if x.toNat = 2 then 9 else if x.toNat = 3 then (match r with | [] => 0 | y :: _ => 2 + y.toNat) else 0
theorem vsz_le (bs : List UInt8) : vsz bs ≤ 300 := by
  cases bs with
  | nil => simp [vsz]
  | cons x r =>
    cases r with
    | nil => simp [vsz]; split <;> (try split) <;> (try split) <;> omega
    | cons y r =>
      have := y.toNat_lt
      simp [vsz]
      split
      · omega
      · split
        · omega
        · split
          · omega
          · split <;> omega
set_option maxHeartbeats 2000000 in
theorem cValueSize (a : Option Addr) (c : Nat) (bs : List UInt8) (w : World) (hs : Sees w a bs) (hl : bs.length ≤ 900000000000000) : Calls Tryz.prog 125 #[.slice a bs.length c] w fun e w' => e = .returned (.int .i64 (vsz bs : Int)) ∧ w' = w := by
  cases bs with
  | nil =>
    have hv : Hid (vsz [] = 0) := rfl
    rw [hv.out, List.length_nil]
    clear hs hl hv
    go_enter Tryz.func125, Tryz.ntmps125
    go_wp2_with fail
    go_ret
    exact ⟨rfl, rfl⟩
  | cons x r =>
    obtain ⟨g, o, rfl, hc⟩ : ∃ g o, a = some ⟨g, o, none⟩ ∧ ∀ j u, (x :: r)[j]? = some u → w.cell? ⟨g, o + j, none⟩ = some (.int .u8 u.toNat) := by
      rcases hs with h | h
      · cases h
      · exact h
    have h0 := hc 0 x rfl
    rw [Nat.add_zero] at h0
    have hx := x.toNat_lt
    have hv : Hid (vsz (x :: r) = if x.toNat = 0 then 1 else if x.toNat = 1 then 2 else if x.toNat = 2 then 9 else if x.toNat = 3 then (match r with | [] => 0 | y :: _ => 2 + y.toNat) else 0) := rfl
    have h1 : Hid (∀ y r', r = y :: r' → w.cell? ⟨g, o + 1, none⟩ = some (.int .u8 y.toNat)) := fun y r' e => hc 1 y (by rw [e]; rfl)
    obtain ⟨V, hV⟩ : ∃ V, Hid (vsz (x :: r) = V) := ⟨_, rfl⟩
    rw [hV.out] at hv ⊢
    clear hs hc hV
    obtain ⟨n, hn⟩ : ∃ n, Hid (x.toNat = n) := ⟨_, rfl⟩
    rw [hn.out] at h0 hv hx
    rw [List.length_cons] at hl ⊢
    have hne : (((r.length + 1 : Nat) : Int) == 0) = false := by rw [beq_eq_false_iff_ne]; omega
    by_cases e0 : n = 0
    · subst e0
      have : V = 1 := by rw [hv.out]; rfl
      subst this
      clear hv h1 hn
      go_enter Tryz.func125, Tryz.ntmps125
      go_wp2_with fail
      go_ret
      exact ⟨rfl, rfl⟩
    by_cases e1 : n = 1
    · subst e1
      have : V = 2 := by rw [hv.out]; rfl
      subst this
      clear hv h1 hn e0
      go_enter Tryz.func125, Tryz.ntmps125
      go_wp2_with fail
      go_ret
      exact ⟨rfl, rfl⟩
    by_cases e2 : n = 2
    · subst e2
      have : V = 9 := by rw [hv.out]; rfl
      subst this
      clear hv h1 hn e0 e1
      go_enter Tryz.func125, Tryz.ntmps125
      go_wp2_with fail
      go_ret
      exact ⟨rfl, rfl⟩
    by_cases e3 : n = 3
    · subst e3
      cases r with
      | nil =>
        have : V = 0 := by rw [hv.out]; rfl
        subst this
        rw [List.length_nil]
        clear hv h1 hn e0 e1 e2 hne
        go_enter Tryz.func125, Tryz.ntmps125
        go_wp2_with fail
        go_ret
        exact ⟨rfl, rfl⟩
      | cons y r =>
        have : V = 2 + y.toNat := by rw [hv.out]; rfl
        subst this
        have hy := y.toNat_lt
        have h1' := h1.out y r rfl
        obtain ⟨m, hm⟩ : ∃ m, Hid (y.toNat = m) := ⟨_, rfl⟩
        rw [hm.out] at h1' hy ⊢
        rw [List.length_cons] at *
        have hgt : (1 : Int) < ((r.length + 1 + 1 : Nat) : Int) := by omega
        clear hv h1 hn e0 e1 e2 hm
        go_enter Tryz.func125, Tryz.ntmps125
        go_wp2_with fail
        go_ret
        exact ⟨by go_num, rfl⟩
    · have : V = 0 := by rw [hv.out, if_neg e0, if_neg e1, if_neg e2, if_neg e3]
      subst this
      have d0 : ((n : Int) == 0) = false := by rw [beq_eq_false_iff_ne]; omega
      have d1 : ((n : Int) == 1) = false := by rw [beq_eq_false_iff_ne]; omega
      have d2 : ((n : Int) == 2) = false := by rw [beq_eq_false_iff_ne]; omega
      have d3 : ((n : Int) == 3) = false := by rw [beq_eq_false_iff_ne]; omega
      clear hv h1 hn
      go_enter Tryz.func125, Tryz.ntmps125
      go_wp2_with fail
      go_ret
      exact ⟨rfl, rfl⟩
end Go.Proofs.YtafcdckpicoppaaGreatDoor
end

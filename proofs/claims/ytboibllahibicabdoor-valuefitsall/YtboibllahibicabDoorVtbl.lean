/- Which tables may be: the program's Table. -/
import Derived.Test.YtboibllahibicabDoorVtab
namespace Go.Proofs.YtboibllahibicabDoor
open Go.RowKit Go.Hay
set_option linter.unusedVariables false
set_option linter.unusedSimpArgs false

structure Box2 (w : World) (q : Nat) (a b : Value) : Prop where
  c0 : w.cell? ⟨q, 0, none⟩ = some a
  c1 : w.cell? ⟨q, 1, none⟩ = some b
theorem Box2.new (w : World) (a b : Value) (t : TypeId) : Box2 (w.alloc (.cells #[a, b] t)) w.heap.size a b := ⟨World.cell?_alloc_new w _ _ 0, World.cell?_alloc_new w _ _ 1⟩
theorem Box2.lt {w : World} {q : Nat} {a b : Value} (h : Box2 w q a b) : q < w.heap.size := World.block_lt_of_cell? _ _ h.c0
theorem Box2.kept {w w' : World} {q : Nat} {a b : Value} (h : Box2 w q a b) (hk : Kp [] w w') : Box2 w' q a b := ⟨kpAt hk h.c0, kpAt hk h.c1⟩

theorem colAt_eq (l : List Col) (j : Nat) (h : j < l.length) : colAt l j = (namedV l[j].nm && (keptK l[j].k && !hasN (l.take j) l[j].nm)) := by
  unfold colAt; rw [List.getElem?_eq_getElem h]
theorem colsV_false (l : List Col) (j : Nat) (h : j < l.length) (hf : colAt l j = false) : colsV l = false := by
  unfold colsV
  rw [List.all_eq_false]
  exact ⟨j, List.mem_range.2 h, by simpa using hf⟩
theorem colsV_true (l : List Col) (h : ∀ i, i < l.length → colAt l i = true) : colsV l = true := by
  unfold colsV
  rw [List.all_eq_true]
  exact fun i hi => h i (List.mem_range.1 hi)
/-- Columns that are right, up to the j-th. -/
def Upto (l : List Col) (j : Nat) : Prop := ∀ i, i < j → colAt l i = true
theorem Upto.step {l : List Col} {j : Nat} (h : Upto l j) (hj : colAt l j = true) : Upto l (j + 1) := fun i hi => by
  by_cases e : i = j
  · rw [e]; exact hj
  · exact h i (by omega)

set_option maxHeartbeats 4000000 in
set_option maxRecDepth 100000 in
theorem cTable (nm : ByteArray) (a : Option Addr) (ca : Nat) (l : List Col) (w : World) (ha : Cols w a l) (hl : l.length ≤ ca) (hm : ca ≤ 9223372036854775807) :
    Calls Tryd.prog 13 #[.agg #[.string nm, .slice a l.length ca]] w fun e w' => e = .returned (.int .i64 (tableV nm l)) ∧ Kp [] w w' := by
  have bT := Box2.new w (.string nm) (.slice a l.length ca) 37
  have kW : Kp [] w (w.alloc (.cells #[.string nm, .slice a l.length ca] 37)) := (Kp.refl _ _).alloc _
  have hN := cNamed nm
  obtain ⟨N, HN⟩ : ∃ N : Bool, Hid (namedV nm = N) := ⟨_, rfl⟩
  rw [HN.out] at hN
  cases N
  · have HV : Hid (tableV nm l = 20) := by show _ = _; unfold tableV; rw [HN.out]; rfl
    go_enter Tryd.func13, Tryd.ntmps13
    go_wp2_with fail
    refine (hN _).mono ?_
    rintro e w' ⟨rfl, rfl⟩
    go_wp2_with fail
    go_ret
    exact ⟨by rw [HV.out]; rfl, kW⟩
  by_cases h0 : l.length = 0
  · have HV : Hid (tableV nm l = 20) := by show _ = _; unfold tableV; rw [HN.out, h0]; rfl
    have e0 : ((l.length : Int) == 0) = true := by simp [h0]
    clear h0
    go_enter Tryd.func13, Tryd.ntmps13
    go_wp2_with fail
    refine (hN _).mono ?_
    rintro e w' ⟨rfl, rfl⟩
    go_wp2_with fail
    go_ret
    exact ⟨by rw [HV.out]; rfl, kW⟩
  have e0 : ((l.length : Int) == 0) = false := by simpa using h0
  by_cases h8 : 8 < l.length
  · have HV : Hid (tableV nm l = 20) := by show _ = _; unfold tableV; rw [HN.out, show decide (l.length ≤ 8) = false by simpa using h8]; simp
    go_enter Tryd.func13, Tryd.ntmps13
    go_wp2_with fail
    refine (hN _).mono ?_
    rintro e w' ⟨rfl, rfl⟩
    go_wp2_with fail
    go_ret
    exact ⟨by rw [HV.out]; rfl, kW⟩
  have HT : Hid (tableV nm l = if colsV l then 0 else 20) := by
    show _ = _
    unfold tableV
    rw [HN.out, show decide (l.length ≤ 8) = true by simpa using h8, show decide (l.length ≠ 0) = true by simpa using h0]
    rfl
  go_enter Tryd.func13, Tryd.ntmps13
  go_wp2_with fail
  refine (hN _).mono ?_
  rintro e w' ⟨rfl, rfl⟩
  go_wp2_with fail
  go_loopw [24] (fun i wn => ∃ j : Nat, j ≤ l.length ∧ i = .int .i64 j ∧ Upto l j ∧ Box2 wn w.heap.size (.string nm) (.slice a l.length ca) ∧ Kp [] w wn) (fun i _ => l.length - (intOf i).toNat)
  case atStart => exact ⟨0, Nat.zero_le _, rfl, fun i hi => by omega, bT, kW⟩
  case round =>
    obtain ⟨j, hj, rfl, hup, hbx, hk⟩ := hrel
    by_cases hjm : j < l.length
    · obtain ⟨g, o, rfl, a0, a1, a2⟩ := (ha.kept hk).at j hjm
      have hca := hid (colAt_eq l j hjm)
      have hcl := (ha.kept hk).take j
      have hlen : j = (l.take j).length := by simp; omega
      generalize l[j] = x at *
      obtain ⟨xn, xk, xz⟩ := x
      dsimp only at a0 a1 a2
      have q0 := hbx.c0; have q1 := hbx.c1; have ql := hbx.lt
      have h1 := cNamed xn
      have h2 := cKept xk
      obtain ⟨N, HN⟩ : ∃ N : Bool, Hid (namedV xn = N) := ⟨_, rfl⟩
      obtain ⟨K, HK⟩ : ∃ K : Bool, Hid (keptK xk = K) := ⟨_, rfl⟩
      obtain ⟨X, HX⟩ : ∃ X : Bool, Hid (hasN (l.take j) xn = X) := ⟨_, rfl⟩
      have h3 := fun w' (k : Kp [] wr w') => cHas (some ⟨g, o, none⟩) j ca (l.take j) xn w' (hcl.kept k) hlen (by omega)
      rw [HN.out] at h1
      rw [HK.out] at h2
      rw [HX.out] at h3
      have hC : Hid (colAt l j = (N && (K && !X))) := by show _ = _; rw [hca.out]; simp only [HN.out, HK.out, HX.out]
      clear hca HN HK HX hcl hlen
      have hjc : (j : Int) ≤ ca := by omega
      cases N
      · have HV : Hid (tableV nm l = 20) := by show _ = _; rw [HT.out, colsV_false l j hjm hC.out]; rfl
        go_wp2_with fail
        go_quiet ((go_at_call 26; exact Calls.quiet_of_same (h1 _)))
        go_wp2_with fail
        go_ret
        exact ⟨by rw [HV.out]; rfl, (hk.alloc _).drewN _⟩
      cases K
      · have HV : Hid (tableV nm l = 20) := by show _ = _; rw [HT.out, colsV_false l j hjm hC.out]; rfl
        go_wp2_with fail
        go_quiet ((first | (go_at_call 26; exact Calls.quiet_of_same (h1 _)) | (go_at_call 27; exact Calls.quiet_of_same (h2 _))))
        go_wp2_with fail
        go_ret
        exact ⟨by rw [HV.out]; rfl, (hk.alloc _).drewN _⟩
      have bC := Box3.new wr (.string xn) (.int .i64 xk) (.bool xz) 42
      have hkr : Kp [] wr (wr.alloc (.cells #[.string xn, .int .i64 xk, .bool xz] 42)) := (Kp.refl _ _).alloc _
      have bT2 := hbx.kept hkr
      have hk2 := hk.trans hkr (by simp)
      go_wp2_with fail
      clear q0 q1 ql a0 a1 a2
      generalize (wr.alloc (.cells #[.string xn, .int .i64 xk, .bool xz] 42)) = W2 at *
      have q1 := bT2.c1; have z0 := bC.c0; have z1 := bC.c1
      go_region_held3 (fun w' => w'.cell? ⟨w.heap.size, 1, none⟩ = some (.slice (some ⟨g, o, none⟩) l.length ca) ∧ w'.cell? ⟨wr.heap.size, 0, none⟩ = some (.string xn) ∧ w'.cell? ⟨wr.heap.size, 1, none⟩ = some (.int .i64 xk)) (first | go_keep)
        (first
          | (go_at_call 26; refine (h1 _).mono ?_; rintro e w' ⟨rfl, rfl⟩)
          | (go_at_call 27; refine (h2 _).mono ?_; rintro e w' ⟨rfl, rfl⟩)
          | (go_at_call 28; refine (h3 _ hkr.drew).mono ?_; rintro e w1 ⟨rfl, k1⟩; have y1 := (bT2.kept (w' := w1) ((Kp.refl [] W2).drew.trans k1 (by simp))).c1; have x0 := (bC.kept ((Kp.refl [] W2).drew.trans k1 (by simp)) (by simp)).c0; have x1 := (bC.kept ((Kp.refl [] W2).drew.trans k1 (by simp)) (by simp)).c1))
      have kk : Kp [] W2 w1 := (Kp.refl [] W2).drew.trans k1 (by simp)
      have bT3 := bT2.kept kk
      have hk3 := hk2.trans kk (by simp)
      clear k1 y1 x0 x1 q1 z0 z1
      cases X
      · have hup2 := hup.step hC.out
        go_wp2_with fail
        exact ⟨⟨j + 1, by omega, by go_num, hup2, bT3, hk3⟩, by simp [intOf]; omega⟩
      · have HV : Hid (tableV nm l = 20) := by show _ = _; rw [HT.out, colsV_false l j hjm hC.out]; rfl
        go_wp2_with fail
        go_ret
        exact ⟨by rw [HV.out]; rfl, hk3⟩
    · have hjl : j = l.length := by omega
      subst hjl
      have HV : Hid (tableV nm l = 0) := by show _ = _; rw [HT.out, colsV_true l hup]; rfl
      go_wp2_with fail
      go_ret
      exact ⟨by rw [HV.out]; rfl, hk⟩
end Go.Proofs.YtboibllahibicabDoor

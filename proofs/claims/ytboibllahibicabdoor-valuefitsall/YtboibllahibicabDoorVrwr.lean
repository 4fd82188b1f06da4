/- Which rows are a table's: the program's Row. -/
import Derived.Test.YtboibllahibicabDoorVtbl
namespace Go.Proofs.YtboibllahibicabDoor
open Go.RowKit Go.Hay
set_option linter.unusedVariables false
set_option linter.unusedSimpArgs false

def fitAt (l : List Col) (r : List Val) (j : Nat) : Bool := match l[j]?, r[j]? with
  | some c, some x => fitsV c.k c.z x
  | _, _ => true
def fitsAllV (l : List Col) (r : List Val) : Bool := (List.range l.length).all (fitAt l r)
/-- Which rows are a table's. -/
def rowV (nm : ByteArray) (l : List Col) (r : List Val) : Int := if tableV nm l = 0 then (if r.length = l.length then (if fitsAllV l r then 0 else 21) else 21) else tableV nm l
theorem fitAt_eq (l : List Col) (r : List Val) (j : Nat) (h : j < l.length) (k : j < r.length) : fitAt l r j = fitsV l[j].k l[j].z r[j] := by
  unfold fitAt; rw [List.getElem?_eq_getElem h, List.getElem?_eq_getElem k]
theorem fits_false (l : List Col) (r : List Val) (j : Nat) (h : j < l.length) (hf : fitAt l r j = false) : fitsAllV l r = false := by
  unfold fitsAllV
  rw [List.all_eq_false]
  exact ⟨j, List.mem_range.2 h, by simpa using hf⟩
theorem fits_true (l : List Col) (r : List Val) (h : ∀ i, i < l.length → fitAt l r i = true) : fitsAllV l r = true := by
  unfold fitsAllV
  rw [List.all_eq_true]
  exact fun i hi => h i (List.mem_range.1 hi)
def Fit (l : List Col) (r : List Val) (j : Nat) : Prop := ∀ i, i < j → fitAt l r i = true
theorem Fit.step {l : List Col} {r : List Val} {j : Nat} (h : Fit l r j) (hj : fitAt l r j = true) : Fit l r (j + 1) := fun i hi => by
  by_cases e : i = j
  · rw [e]; exact hj
  · exact h i (by omega)
theorem tableV_or (nm : ByteArray) (l : List Col) : tableV nm l = 0 ∨ tableV nm l = 20 := by
  unfold tableV
  split
  · exact .inl rfl
  · exact .inr rfl

set_option maxHeartbeats 4000000 in
set_option maxRecDepth 100000 in
theorem cRow (nm : ByteArray) (a : Option Addr) (ca : Nat) (l : List Col) (b : Option Addr) (cb : Nat) (r : List Val) (w : World) (ha : Cols w a l) (hl : l.length ≤ ca) (hm : ca ≤ 9223372036854775807) (hb : Vals w b r) (hr : r.length ≤ cb) (hmb : cb ≤ 9223372036854775807) :
    Calls Tryd.prog 14 #[.agg #[.string nm, .slice a l.length ca], .slice b r.length cb] w fun e w' => e = .returned (.int .i64 (rowV nm l r)) ∧ Kp [] w w' := by
  have bT := Box2.new w (.string nm) (.slice a l.length ca) 37
  have kW : Kp [] w (w.alloc (.cells #[.string nm, .slice a l.length ca] 37)) := (Kp.refl _ _).alloc _
  have hN := cTable nm a ca l _ (ha.kept kW) hl hm
  obtain ⟨t, Ht⟩ : ∃ t : Int, Hid (tableV nm l = t) := ⟨_, rfl⟩
  have hor := tableV_or nm l
  rw [Ht.out] at hN hor
  by_cases ht : t = 0
  · subst ht
    go_enter Tryd.func14, Tryd.ntmps14
    go_wp2_with fail
    refine hN.mono ?_
    rintro e w1 ⟨rfl, k1⟩
    have bT1 := bT.kept k1
    have kW1 := kW.trans k1 (by simp)
    have q0 := bT1.c0; have q1 := bT1.c1
    clear bT kW hN k1
    by_cases hlen : r.length = l.length
    · have HT : Hid (rowV nm l r = if fitsAllV l r then 0 else 21) := by show _ = _; unfold rowV; rw [Ht.out, if_pos rfl, if_pos hlen]
      have hle : ((r.length : Int) == (l.length : Int)) = true := by simp [hlen]
      have hlen' := hid hlen
      rw [hlen]
      clear hlen hle
      go_wp2_with fail
      go_loopw [22] (fun i wn => ∃ j : Nat, j ≤ l.length ∧ i = .int .i64 j ∧ Fit l r j ∧ Kp [] w wn) (fun i _ => l.length - (intOf i).toNat)
      case atStart => exact ⟨0, Nat.zero_le _, rfl, fun i hi => by omega, kW1⟩
      case round =>
        obtain ⟨j, hj, rfl, hup, hk⟩ := hrel
        by_cases hjm : j < l.length
        · have hjr : j < r.length := by rw [hlen'.out]; exact hjm
          obtain ⟨g, o, rfl, a0, a1, a2⟩ := (ha.kept hk).at j hjm
          obtain ⟨g', o', rfl, b0, b1, b2, b3⟩ := (hb.kept hk).at j hjr
          have hca := hid (fitAt_eq l r j hjm hjr)
          generalize l[j] = x at *
          generalize r[j] = y at *
          obtain ⟨xn, xk, xz⟩ := x
          dsimp only at a0 a1 a2
          have h1 := cFits xn xk xz y
          obtain ⟨F, HF⟩ : ∃ F : Bool, Hid (fitsV xk xz y = F) := ⟨_, rfl⟩
          rw [HF.out] at h1
          have hC : Hid (fitAt l r j = F) := by show _ = _; rw [hca.out]; exact HF.out
          clear hca HF
          obtain ⟨yk, yb, yn, yt⟩ := y
          unfold Val.v at h1
          dsimp only at b0 b1 b2 b3 h1
          have bC := Box3.new wr (.string xn) (.int .i64 xk) (.bool xz) 42
          have hkr : Kp [] wr (wr.alloc (.cells #[.string xn, .int .i64 xk, .bool xz] 42)) := (Kp.refl _ _).alloc _
          have hk2 := hk.trans hkr (by simp)
          have p0 := kpAt hkr b0; have p1 := kpAt hkr b1; have p2 := kpAt hkr b2; have p3 := kpAt hkr b3
          go_wp2_with fail
          clear a0 a1 a2 b0 b1 b2 b3
          generalize (wr.alloc (.cells #[.string xn, .int .i64 xk, .bool xz] 42)) = W2 at *
          have z0 := bC.c0; have z1 := bC.c1; have z2 := bC.c2
          go_region_held3 (fun w' => w'.cell? ⟨wr.heap.size, 0, none⟩ = some (.string xn) ∧ w'.cell? ⟨wr.heap.size, 1, none⟩ = some (.int .i64 xk) ∧ w'.cell? ⟨wr.heap.size, 2, none⟩ = some (.bool xz) ∧ w'.cell? ⟨g', o' + j * 4, none⟩ = some (.int .i64 yk) ∧ w'.cell? ⟨g', o' + j * 4 + 1, none⟩ = some (.bool yb) ∧ w'.cell? ⟨g', o' + j * 4 + 2, none⟩ = some (.int .i64 yn) ∧ w'.cell? ⟨g', o' + j * 4 + 3, none⟩ = some (.string yt)) (first | go_keep)
            (first | (go_at_call 15; refine (h1 _).mono ?_; rintro e w3 ⟨rfl, k3⟩; have y0 := kpAt (w := W2.drew) k3 z0; have y1 := kpAt (w := W2.drew) k3 z1; have y2 := kpAt (w := W2.drew) k3 z2; have y3 := kpAt (w := W2.drew) k3 p0; have y4 := kpAt (w := W2.drew) k3 p1; have y5 := kpAt (w := W2.drew) k3 p2; have y6 := kpAt (w := W2.drew) k3 p3))
          have hk3 := hk2.drew.trans k3 (by simp)
          clear k3 y0 y1 y2 y3 y4 y5 y6 p0 p1 p2 p3 z0 z1 z2
          cases F
          · have HV : Hid (rowV nm l r = 21) := by show _ = _; rw [HT.out, fits_false l r j hjm hC.out]; rfl
            go_wp2_with fail
            go_ret
            exact ⟨by rw [HV.out]; rfl, hk3⟩
          · have hup2 := hup.step hC.out
            go_wp2_with fail
            exact ⟨⟨j + 1, by omega, by go_num, hup2, hk3⟩, by simp [intOf]; omega⟩
        · have hjl : j = l.length := by omega
          subst hjl
          have HV : Hid (rowV nm l r = 0) := by show _ = _; rw [HT.out, fits_true l r hup]; rfl
          go_wp2_with fail
          go_ret
          exact ⟨by rw [HV.out]; rfl, hk⟩
    · have HV : Hid (rowV nm l r = 21) := by show _ = _; unfold rowV; rw [Ht.out, if_pos rfl, if_neg hlen]
      have hle : ((r.length : Int) == (l.length : Int)) = false := by simp; omega
      clear hlen
      go_wp2_with fail
      go_ret
      exact ⟨by rw [HV.out]; rfl, kW1⟩
  · have h20 : t = 20 := by omega
    subst h20
    have HV : Hid (rowV nm l r = 20) := by show _ = _; unfold rowV; rw [Ht.out]; rfl
    go_enter Tryd.func14, Tryd.ntmps14
    go_wp2_with fail
    refine hN.mono ?_
    rintro e w1 ⟨rfl, k1⟩
    go_wp2_with fail
    go_ret
    exact ⟨by rw [HV.out]; rfl, kW.trans k1 (by simp)⟩
end Go.Proofs.YtboibllahibicabDoor

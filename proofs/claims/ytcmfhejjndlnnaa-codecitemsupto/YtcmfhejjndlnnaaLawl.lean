/- The law: of whatever bytes a list is read as the document says: all of it, or nothing, and why. -/
import Derived.Test.YtcmfhejjndlnnaaLlst
import Derived.Test.YtcmfhejjndlnnaaAli
namespace Go.Proofs.Ytcmfhejjndlnnaa
open Go.RowKit Go.Hay
set_option linter.unusedVariables false
set_option linter.unusedSimpArgs false

theorem kpNewC (w : World) (o : Obj) : Kp [] w (w.alloc o) := (Kp.refl _ _).alloc _
theorem rowLat {n0 : Nat} {W : World} {v : Value} {L : List (List UInt8)} (h : RowL n0 W v L) (j : Nat) (hj : j < L.length) : ∃ g o c ax cx, v = .slice (some ⟨g, o, none⟩) L.length c ∧ W.cell? ⟨g, o + j, none⟩ = some (.slice ax L[j].length cx) ∧ Sees W ax L[j] := by
  obtain ⟨vs, hvl, hs, _, hel⟩ := h
  rcases hs with ⟨rfl, rfl⟩ | ⟨g, o, cap, rfl, _, _, _, hc, _⟩
  · simp at hvl; omega
  · have hv : vs[j]? = some (vs[j]'(by omega)) := List.getElem?_eq_getElem (by omega)
    have hr := (hel j _ L[j] hv (by simp)).1
    obtain ⟨ax, cx, hx, hse, _⟩ := hr.sees
    exact ⟨g, o, cap, ax, cx, by rw [hvl], by rw [hc j _ hv, hx], hse⟩
theorem rowLlen {n0 : Nat} {W : World} {v : Value} {L : List (List UInt8)} (h : RowL n0 W v L) : L.length ≤ 9223372036854775807 := by
  obtain ⟨vs, hvl, hs, _⟩ := h
  rcases hs with ⟨_, rfl⟩ | ⟨g, o, cap, _, hl, hm, _⟩
  · simp at hvl; omega
  · unfold maxLen at hm; omega
/-- What two slices see is the same. -/
def Same2 (W w' : World) (ax ax' : Option Addr) (x : List UInt8) : Prop := Kp [] W w' ∧ Sees w' ax x ∧ Sees w' ax' x
theorem sameOf {W wc : World} {p q : Addr} {a b : Value} {ax ax' : Option Addr} {x : List UInt8} (h : wc.cell? p = some a ∧ wc.cell? q = some b ∧ Same2 W wc ax ax' x) : Same2 W wc ax ax' x := h.2.2
theorem rdDrew {W : World} {p : Nat} {D : List Nat} {bs : List UInt8} {e : Int} (h : Rd W p D bs e) (k : Nat) : Rd (W.drewN k) p D bs e := h.kept (S := []) ((Kp.refl _ _).drewN k) (by simp) (by simp)

set_option maxHeartbeats 8000000 in
set_option maxRecDepth 100000 in
theorem listsWalkA (b : Option Addr) (nb cb : Nat) (full : List UInt8) (most : Int) (w : World) (hs : Sees w b full) (hnb : nb = full.length) (hl : full.length ≤ cb) (hm : cb ≤ maxLen) (hb : full.length ≤ 1048576) (hm0 : -9223372036854775808 ≤ most) (hm1 : most ≤ 9223372036854775807) (N : Int) (bs1 : List UInt8) (e1 : Int) (L : List (List UInt8)) (bs2 : List UInt8) (hc : countS most full 0 = (N, bs1, e1)) (hl1 : lstS N.toNat bs1 e1 = (L, bs2, 0)) :
    Calls Try.prog 3 #[.slice b nb cb, .int .i64 most] w fun e w' => e = .returned (.bool true) ∧ Below w.heap.size w w' := by
  subst hnb
  go_enter Try.func3, Try.ntmps3
  go_wp2_with fail
  refine (rRead b full.length cb full w hs rfl (by omega)).mono ?_
  rintro e w1 ⟨p, D, rfl, hrd, k1, hp, hD⟩
  go_wp2_with fail
  refine (cAlive _).mono ?_
  rintro e w2 ⟨rfl, j2⟩
  have k2 := k1.trans j2 (by simp)
  have rd2 := hrd.kept j2 (by simp) (by simp)
  go_wp2_with fail
  refine (cList p D full most w2 rd2 hm0 hm1 (by omega)).mono ?_
  rintro e w3 ⟨N', bs1', e1', L', bs2', e2', v, hc2, hl2, rfl, hv0, hvn, rd3, j3⟩
  rw [hc] at hc2
  simp only [Prod.mk.injEq] at hc2
  obtain ⟨rfl, rfl, rfl⟩ := hc2
  rw [hl1] at hl2
  simp only [Prod.mk.injEq] at hl2
  obtain ⟨rfl, rfl, rfl⟩ := hl2
  have k3 : Kp [] w w3 := k2.trans j3 (fun x hx => .inr (by simp at hx; omega))
  clear hrd rd2 k1 k2 j2
  have hLd := cListed b cb full most w3 (hs.kept k3 (by simp)) hl hm (by omega) hm0 hm1
  have hv := hv0 rfl
  obtain ⟨av, cv, rfl⟩ := rowLshape hv
  clear hv0 hvn
  go_wp2_with fail
  refine hLd.mono ?_
  rintro e w4 ⟨n, bs', e1', L', at2, e2', v', hc', hl2, hat, rfl, hrow, j4⟩
  rw [hc] at hc'
  simp only [Prod.mk.injEq] at hc'
  obtain ⟨rfl, rfl, rfl⟩ := hc'
  rw [hl1] at hl2
  simp only [Prod.mk.injEq] at hl2
  obtain ⟨rfl, rfl, rfl⟩ := hl2
  obtain ⟨av', cv', rfl⟩ := rowLshape hrow
  have hv4 := hv.kept j4 (by simp)
  have rd4 := rd3.kept j4 (by simp) (by simp)
  have k4 := k3.trans j4 (by simp)
  have kB := kpNewC w4 (.cells #[.slice b full.length cb, .int .i64 at2, .int .i64 0] 31)
  have bx := Box3.new w4 (.slice b full.length cb) (.int .i64 at2) (.int .i64 0) 31
  have hv5 := hv4.kept kB (by simp)
  have hw5 := hrow.kept kB (by simp)
  have rd5 := rd4.kept kB (by simp) (by simp)
  have k5 := k4.trans kB (by simp)
  clear hc hl1 rd3 rd4 hv hv4 hrow j3 j4 k3 k4 hLd
  go_wp2_with fail
  generalize w4.alloc (.cells #[.slice b full.length cb, .int .i64 at2, .int .i64 0] 31) = W at *
  have hdl : ((full.drop at2).length : Int) = (full.length : Int) - at2 := by simp; omega
  have HEr : Hid (∀ k, Calls Try.prog 10 #[.pointer (some ⟨p, 0, none⟩)] (W.drewN k) fun e w' => e = .returned (.int .i64 0) ∧ w' = W.drewN k) := fun k => rErr p D _ 0 _ (rdDrew rd5 k)
  have HLf : Hid (∀ k, Calls Try.prog 11 #[.pointer (some ⟨p, 0, none⟩)] (W.drewN k) fun e w' => e = .returned (.int .i64 ((full.length : Int) - at2)) ∧ w' = W.drewN k) := fun k => by have := rLeft p D _ 0 _ (rdDrew rd5 k); rw [hdl] at this; exact this
  have hwr : IntKind.i64.wrap ((full.length : Int) - at2) = (full.length : Int) - at2 := by rw [IntKind.wrap_i64]; omega
  have z0 := bx.c0; have z1 := bx.c1; have z2 := bx.c2
  clear hdl kB rd5 bx
  go_quiet (first | (go_at_call 10; refine Calls.quiet_of_same (HEr.out _)) | (go_at_call 11; refine Calls.quiet_of_same (HLf.out _)))
  clear HEr HLf z0 z1 z2 hwr
  go_wp2_with fail
  go_loopw [55] (fun i wn => ∃ (j : Nat), j ≤ L.length ∧ i = .int .i64 j ∧ Kp [] W wn) (fun i _ => L.length - (intOf i).toNat)
  case atStart => exact ⟨0, Nat.zero_le _, rfl, (Kp.refl _ _).drewN _⟩
  case round =>
    obtain ⟨j, hj, rfl, kq⟩ := hrel
    by_cases hjl : j < L.length
    · obtain ⟨g, o, c, ax, cx, hvv, hcc, hse⟩ := rowLat (hv5.kept kq (by simp)) j hjl
      obtain ⟨g', o', c', ax', cx', hvv', hcc', hse'⟩ := rowLat (hw5.kept kq (by simp)) j hjl
      simp only [Value.slice.injEq, true_and] at hvv hvv'
      obtain ⟨rfl, rfl⟩ := hvv
      obtain ⟨rfl, rfl⟩ := hvv'
      have hSm : ∀ w', Same2 W w' ax ax' L[j] → Calls Try.prog 12 #[.slice ax L[j].length cx, .slice ax' L[j].length cx'] w' fun e w'' => e = .returned (.bool true) ∧ w'' = w' := fun w' h => by
        have := cSame ax ax' _ _ cx cx' L[j] L[j] w' h.2.1 h.2.2 rfl rfl
        simpa using this
      have hS2 : Same2 W wr.drew ax ax' L[j] := ⟨kq.drew, hse.drew, hse'.drew⟩
      have hLl := rowLlen hv5
      clear hse hse' hv5 hw5
      generalize L[j].length = ln at *
      generalize L[j] = xj at *
      go_wp2_with fail
      go_region_held3 (fun w' => w'.cell? ⟨g, o + j, none⟩ = some (.slice ax ln cx) ∧ w'.cell? ⟨g', o' + j, none⟩ = some (.slice ax' ln cx') ∧ Same2 W w' ax ax' xj)
        (first | assumption | exact ⟨hcc, hcc', hS2⟩)
        (first | (go_at_call 12; refine (hSm _ (sameOf (by assumption))).mono ?_; rintro e w6 ⟨rfl, rfl⟩))
      have kz : Kp [] W _ := (sameOf (by assumption)).1
      go_wp2_with fail
      exact ⟨⟨j + 1, by omega, by go_num, kz⟩, by simp [intOf]; omega⟩
    · obtain rfl : j = L.length := by omega
      go_wp2_with fail
      go_ret
      exact ⟨rfl, (k5.trans kq (by simp)).below⟩

set_option maxHeartbeats 8000000 in
set_option maxRecDepth 100000 in
theorem listsWalkB (b : Option Addr) (nb cb : Nat) (full : List UInt8) (most : Int) (w : World) (hs : Sees w b full) (hnb : nb = full.length) (hl : full.length ≤ cb) (hm : cb ≤ maxLen) (hb : full.length ≤ 1048576) (hm0 : -9223372036854775808 ≤ most) (hm1 : most ≤ 9223372036854775807) (N : Int) (bs1 : List UInt8) (e1 : Int) (L : List (List UInt8)) (bs2 : List UInt8) (e2 : Int) (hc : countS most full 0 = (N, bs1, e1)) (hl1 : lstS N.toNat bs1 e1 = (L, bs2, e2)) (he : e2 ≠ 0) :
    Calls Try.prog 3 #[.slice b nb cb, .int .i64 most] w fun e w' => e = .returned (.bool true) ∧ Below w.heap.size w w' := by
  subst hnb
  go_enter Try.func3, Try.ntmps3
  go_wp2_with fail
  refine (rRead b full.length cb full w hs rfl (by omega)).mono ?_
  rintro e w1 ⟨p, D, rfl, hrd, k1, hp, hD⟩
  go_wp2_with fail
  refine (cAlive _).mono ?_
  rintro e w2 ⟨rfl, j2⟩
  have k2 := k1.trans j2 (by simp)
  have rd2 := hrd.kept j2 (by simp) (by simp)
  go_wp2_with fail
  refine (cList p D full most w2 rd2 hm0 hm1 (by omega)).mono ?_
  rintro e w3 ⟨N', bs1', e1', L', bs2', e2', v, hc2, hl2, rfl, hv0, hvn, rd3, j3⟩
  rw [hc] at hc2
  simp only [Prod.mk.injEq] at hc2
  obtain ⟨rfl, rfl, rfl⟩ := hc2
  rw [hl1] at hl2
  simp only [Prod.mk.injEq] at hl2
  obtain ⟨rfl, rfl, rfl⟩ := hl2
  have k3 : Kp [] w w3 := k2.trans j3 (fun x hx => .inr (by simp at hx; omega))
  clear hrd rd2 k1 k2 j2
  have hLd := cListed b cb full most w3 (hs.kept k3 (by simp)) hl hm (by omega) hm0 hm1
  have hvv := hvn he
  subst hvv
  clear hv0 hvn
  have HNE := hid he
  have he' : (e2 == 0) = false := by simpa using he
  have he3 : (e2 != 0) = true := by simpa using he
  clear he
  go_wp2_with fail
  refine hLd.mono ?_
  rintro e w4 ⟨n, bs', e1', L', at2, e2', v', hc', hl2, hat, rfl, hrow, j4⟩
  rw [hc] at hc'
  simp only [Prod.mk.injEq] at hc'
  obtain ⟨rfl, rfl, rfl⟩ := hc'
  rw [hl1] at hl2
  simp only [Prod.mk.injEq] at hl2
  obtain ⟨rfl, rfl, rfl⟩ := hl2
  obtain ⟨av', cv', rfl⟩ := rowLshape hrow
  have rd4 := rd3.kept j4 (by simp) (by simp)
  have k4 := k3.trans j4 (by simp)
  have kB := kpNewC w4 (.cells #[.slice b full.length cb, .int .i64 at2, .int .i64 e2] 31)
  have bx := Box3.new w4 (.slice b full.length cb) (.int .i64 at2) (.int .i64 e2) 31
  have rd5 := rd4.kept kB (by simp) (by simp)
  have k5 := k4.trans kB (by simp)
  clear hc hl1 rd3 rd4 hrow j3 j4 k3 k4 hLd
  go_wp2_with fail
  generalize w4.alloc (.cells #[.slice b full.length cb, .int .i64 at2, .int .i64 e2] 31) = W at *
  have hdl : ((full.drop at2).length : Int) = (full.length : Int) - at2 := by simp; omega
  have HEr : Hid (∀ k, Calls Try.prog 10 #[.pointer (some ⟨p, 0, none⟩)] (W.drewN k) fun e w' => e = .returned (.int .i64 e2) ∧ w' = W.drewN k) := fun k => rErr p D _ e2 _ (rdDrew rd5 k)
  have HLf : Hid (∀ k, Calls Try.prog 11 #[.pointer (some ⟨p, 0, none⟩)] (W.drewN k) fun e w' => e = .returned (.int .i64 ((full.length : Int) - at2)) ∧ w' = W.drewN k) := fun k => by have := rLeft p D _ e2 _ (rdDrew rd5 k); rw [hdl] at this; exact this
  have hwr : IntKind.i64.wrap ((full.length : Int) - at2) = (full.length : Int) - at2 := by rw [IntKind.wrap_i64]; omega
  have z0 := bx.c0; have z1 := bx.c1; have z2 := bx.c2
  clear hdl kB rd5 bx
  go_quiet (first | (go_at_call 10; refine Calls.quiet_of_same (HEr.out _)) | (go_at_call 11; refine Calls.quiet_of_same (HLf.out _)))
  clear HEr HLf z0 z1 z2 hwr
  go_wp2_with fail
  go_loopw [55] (fun i wn => i = .int .i64 0 ∧ Kp [] W wn) (fun _ _ => 0)
  case atStart => exact ⟨rfl, (Kp.refl _ _).drewN _⟩
  case round =>
    obtain ⟨rfl, kq⟩ := hrel
    go_wp2_with fail
    go_ret
    exact ⟨rfl, (k5.trans kq (by simp)).below⟩

theorem listsWalk (b : Option Addr) (nb cb : Nat) (full : List UInt8) (most : Int) (w : World) (hs : Sees w b full) (hnb : nb = full.length) (hl : full.length ≤ cb) (hm : cb ≤ maxLen) (hb : full.length ≤ 1048576) (hm0 : -9223372036854775808 ≤ most) (hm1 : most ≤ 9223372036854775807) :
    Calls Try.prog 3 #[.slice b nb cb, .int .i64 most] w fun e w' => e = .returned (.bool true) ∧ Below w.heap.size w w' := by
  obtain ⟨⟨N, bs1, e1⟩, hc⟩ : ∃ r, countS most full 0 = r := ⟨_, rfl⟩
  obtain ⟨⟨L, bs2, e2⟩, hl1⟩ : ∃ r, lstS N.toNat bs1 e1 = r := ⟨_, rfl⟩
  by_cases he : e2 = 0
  · subst he
    exact listsWalkA b nb cb full most w hs hnb hl hm hb hm0 hm1 N bs1 e1 L bs2 hc hl1
  · exact listsWalkB b nb cb full most w hs hnb hl hm hb hm0 hm1 N bs1 e1 L bs2 e2 hc hl1 he
end Go.Proofs.Ytcmfhejjndlnnaa

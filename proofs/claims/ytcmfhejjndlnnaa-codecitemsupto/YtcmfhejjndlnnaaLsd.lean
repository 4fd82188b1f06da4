/- What a list is, by the reference. -/
import Derived.Test.YtcmfhejjndlnnaaRwl
import Derived.Test.YtcmfhejjndlnnaaShr
import Derived.Test.YtcmfhejjndlnnaaReff
import Derived.Test.YtcmfhejjndlnnaaRefw
namespace Go.Proofs.Ytcmfhejjndlnnaa
open Go.RowKit Go.Hay
set_option linter.unusedVariables false
set_option linter.unusedSimpArgs false

/-- So many texts of nine bytes at most, up to the first that fails. -/
def lstS : Nat → List UInt8 → Int → List (List UInt8) × List UInt8 × Int
  | 0, bs, e => ([], bs, e)
  | n + 1, bs, e => if e ≠ 0 then ([], bs, e) else if (textS 9 bs e).2.2 = 0 then ((textS 9 bs e).1 :: (lstS n (textS 9 bs e).2.1 0).1, (lstS n (textS 9 bs e).2.1 0).2) else ([], (textS 9 bs e).2)
theorem lstS_err (n : Nat) (bs : List UInt8) (e : Int) (h : e ≠ 0) : lstS n bs e = ([], bs, e) := by
  cases n with
  | zero => rfl
  | succ n => rw [lstS, if_pos h]
theorem lstS_good (n : Nat) (bs bs' out : List UInt8) (h : textS 9 bs 0 = (out, bs', 0)) : lstS (n + 1) bs 0 = (out :: (lstS n bs' 0).1, (lstS n bs' 0).2) := by
  rw [lstS, if_neg (by simp), h, if_pos rfl]
theorem lstS_bad (n : Nat) (bs bs' out : List UInt8) (e : Int) (he : e ≠ 0) (h : textS 9 bs 0 = (out, bs', e)) : lstS (n + 1) bs 0 = ([], bs', e) := by
  rw [lstS, if_neg (by simp), h, if_neg he]

theorem varB_some (n : Int) : 0 < (varB n).length := by
  unfold varB
  repeat' split
  all_goals simp
theorem textS_shorter {bs bs' out : List UInt8} (h : textS 9 bs 0 = (out, bs', 0)) : bs'.length < bs.length := by
  obtain ⟨⟨n, r, e1⟩, hc⟩ : ∃ c, varS 9 bs 0 = c := ⟨_, rfl⟩
  have hcs := varS_cases 9 bs (by omega) hc
  have hcc : countS 9 bs 0 = (n, r, e1) := by unfold countS; rw [if_pos (by omega)]; exact hc
  unfold textS at h
  rw [hcc] at h
  dsimp only at h
  split at h
  · rename_i h1
    exact absurd (congrArg (fun x => x.2.2) h) h1
  · unfold rawS at h
    rw [if_neg (by omega)] at h
    obtain ⟨he, _, _, hb'⟩ := takeS_ok _ _ _ h
    have h2 := (hcs.2.2.2.2 he).2
    have h3 := varB_some n
    rw [h2, List.length_take] at h3
    have := congrArg List.length hb'
    rw [List.length_drop] at this
    omega

theorem textS_same {bs bs' out : List UInt8} {e e' : Int} (h : textS 9 bs e = (out, bs', e')) (he : e' ≠ 0) : bs' = bs := by
  unfold textS at h
  split at h
  · cases h; rfl
  · rename_i h1
    rw [h] at h1
    exact absurd he h1

theorem RowL.low {m n0 : Nat} {w : World} {v : Value} {L : List (List UInt8)} (h : RowL n0 w v L) (hm : m ≤ n0) : RowL m w v L := by
  obtain ⟨vs, hvl, hs, hfr, hel⟩ := h
  exact ⟨vs, hvl, hs, fun k hk => Nat.le_trans hm (hfr k hk), fun j y ob hy hob => ⟨(hel j y ob hy hob).1, fun k hk => ⟨Nat.le_trans hm ((hel j y ob hy hob).2 k hk).1, ((hel j y ob hy hob).2 k hk).2⟩⟩⟩
def ListedPost (b : Option Addr) (cb : Nat) (full : List UInt8) (most : Int) (w : World) (e : Ending) (w' : World) : Prop :=
  ∃ (n : Int) (bs : List UInt8) (e1 : Int) (L : List (List UInt8)) (at2 : Nat) (e2 : Int) (v : Value), countS most full 0 = (n, bs, e1) ∧ lstS n.toNat bs e1 = (L, full.drop at2, e2) ∧ at2 ≤ full.length ∧ e = .returned (.tuple #[v, .agg #[.slice b full.length cb, .int .i64 at2, .int .i64 e2]]) ∧ RowL w.heap.size w' v L ∧ Kp [] w w'

set_option maxHeartbeats 8000000 in
set_option maxRecDepth 100000 in
theorem cListed (b : Option Addr) (cb : Nat) (full : List UInt8) (most : Int) (w : World) (hs : Sees w b full) (hl : full.length ≤ cb) (hm : cb ≤ maxLen) (hb : full.length ≤ 4000000000000) (hm0 : -9223372036854775808 ≤ most) (hm1 : most ≤ 9223372036854775807) :
    Calls Try.prog 9 #[.slice b full.length cb, .int .i64 most] w (ListedPost b cb full most w) := by
  obtain ⟨M, HM⟩ : ∃ M : Int, Hid (IntKind.u64.wrap most = M) := ⟨_, rfl⟩
  have hM := HM.out
  have hM0 : 0 ≤ M := by rw [← hM, IntKind.wrap_u64]; omega
  have hM1 : M < 18446744073709551616 := by rw [← hM, IntKind.wrap_u64]; omega
  have HC := hid (gvS_count most M full 0 (fun h => by rw [← hM, IntKind.wrap_u64]; omega))
  have kx : Kp [] w (w.alloc (.cells #[.slice none 0 0, .int .i64 0, .int .i64 0] 31)) := (Kp.refl _ _).alloc _
  have bR := Box3.new w (.slice none 0 0) (.int .i64 0) (.int .i64 0) 31
  have hgv := cRefGetVar b cb full 0 0 M (decide (most < 0)) _ (hs.kept kx (by simp)) hl hm (by omega) (by omega) hM0 hM1
  go_enter Try.func9, Try.ntmps9
  go_wp2_with fail
  refine hgv.mono ?_
  rintro e w1 ⟨n, at1, e1, ht, hn0, hn1, ha1, rfl, k1⟩
  have HT : Hid (countS most full 0 = (n, full.drop at1, e1)) := HC.out.symm.trans ht
  have bR1 := bR.kept k1 (by simp)
  have kw1 := kx.trans k1 (by simp)
  have hq1 := bR1.lt
  clear ht HC bR k1 kx hgv
  have bS := Box3.new w1 (.slice b full.length cb) (.int .i64 at1) (.int .i64 e1) 31
  have q0 := bR1.c0
  go_wp2_with fail
  clear q0
  have kS : Kp [] w (w1.alloc (.cells #[.slice b full.length cb, .int .i64 at1, .int .i64 e1] 31)) := kw1.alloc _
  have bR2 := bR1.kept (S := []) ((Kp.refl _ _).alloc (.cells #[.slice b full.length cb, .int .i64 at1, .int .i64 e1] 31)) (by simp)
  go_loopw [8, 9] (fun vl i wn => ∃ (j : Nat) (L : List (List UInt8)) (at2 : Nat) (e2 : Int), (j : Int) ≤ n ∧ i = .int .u64 j ∧ at2 ≤ full.length ∧ L.length ≤ at2 ∧ Box3 wn w1.heap.size (.slice b full.length cb) (.int .i64 at2) (.int .i64 e2) ∧ Box3 wn w.heap.size (.slice none 0 0) (.int .i64 0) (.int .i64 0) ∧ RowL (w1.heap.size + 1) wn vl L ∧ Kp [] w wn ∧ w1.heap.size + 1 ≤ wn.heap.size ∧ Hid (lstS n.toNat (full.drop at1) e1 = (L ++ (lstS (n.toNat - j) (full.drop at2) e2).1, (lstS (n.toNat - j) (full.drop at2) e2).2))) (fun _ i _ => n.toNat - (intOf i).toNat)
  case atStart => exact ⟨0, [], at1, e1, hn0, rfl, ha1, by simp, bS, bR2, RowL.nil _ _, kS, by simp, rfl⟩
  case round =>
    obtain ⟨j, L, at2, e2, hj, rfl, ha2, hL, hS, hR, hrow, hk, hsz, hinv⟩ := hrel
    by_cases hjn : (j : Int) < n
    · by_cases he2 : e2 = 0
      · subst he2
        have hgt := cRefGetText b cb full at2 0 9 wr (hs.kept hk (by simp)) hl hm ha2 (by omega) (by omega) (by omega)
        have s0 := hS.c0; have s1 := hS.c1; have s2 := hS.c2; have sf := hS.free
        go_wp2_with fail
        refine hgt.mono ?_
        rintro e w3 ⟨out, at3, e3, vx, ht3, ha3, rfl, hrx, k3, hox⟩
        obtain ⟨ax, cx, rfl, -⟩ := hrx.shape
        by_cases he3 : e3 = 0
        · subst he3
          have hsh := textS_shorter ht3
          rw [List.length_drop, List.length_drop] at hsh
          have hin2 : Hid (lstS n.toNat (full.drop at1) e1 = ((L ++ [out]) ++ (lstS (n.toNat - (j + 1)) (full.drop at3) 0).1, (lstS (n.toNat - (j + 1)) (full.drop at3) 0).2)) := by
            show _ = _
            rw [hinv.out, show n.toNat - j = (n.toNat - (j + 1)) + 1 by omega, lstS_good _ _ _ _ ht3]
            simp
          clear ht3 hinv
          have hlt := hrow.lt
          have hfr := hrow.from
          have hq := hS.lt
          have hS3 := hS.kept k3 (by simp)
          have hR3 := hR.kept k3 (by simp)
          have hrow3 := hrow.kept k3 (by simp)
          have hk3 := hk.trans k3 (by simp)
          have kA : Kp [] w3 (w3.alloc (.cells #[.slice b full.length cb, .int .i64 at3, .int .i64 0] 31)) := (Kp.refl _ _).alloc _
          have bT := Box3.new w3 (.slice b full.length cb) (.int .i64 at3) (.int .i64 0) 31
          have hS4 := hS3.kept kA (by simp)
          have hR4 := hR3.kept kA (by simp)
          have hrow4 := hrow3.kept kA (by simp)
          have hk4 := hk3.trans kA (by simp)
          have hrx4 := hrx.kept kA (by simp)
          obtain ⟨hS5, ks⟩ := hS4.setAll (.slice b full.length cb) (.int .i64 at3) (.int .i64 0)
          have hR5 := hR4.kept ks (by simp; omega)
          have hrow5 := hrow4.kept ks (by simp)
          have hk5 := hk4.trans ks (fun x hx => .inr (by simp at hx; omega))
          have hrx5 := hrx4.kept ks (fun k hk' hm => by have := hox k hk'; simp at hm; omega)
          have hsz5 := k3.size
          have hsz6 := ks.size
          simp only [World.size_alloc] at hsz6
          clear s0 s1 s2 sf hS hR hrow hS3 hR3 hrow3 hk3 hrow4 hR4 hk4 hrx hrx4 kA k3 hgt
          have s0 := hS4.c0; have s1 := hS4.c1; have s2 := hS4.c2; have sf := hS4.free
          have t0 := bT.c0; have t1 := bT.c1; have t2 := bT.c2
          have z0 := hS5.c0; have z1 := hS5.c1; have z2 := hS5.c2
          go_wp2_with (at_builtin; refine wpAppendL rfl _ _ rfl _ L rfl hrow5 _ out hrx5 (fun k hk' => ⟨by have := hox k hk'; omega, fun hm => by have := hlt k hm; have := hox k hk'; omega⟩) (by omega) (q := w3.heap.size + 1) (by simp [World.setCell]) rfl (by omega) ?_)
          intro v2 w6 r6 k6 hnew
          have hS6 := hS5.kept k6 (fun hm => by have := hfr _ hm; omega)
          have hR6 := hR5.kept k6 (fun hm => by have := hfr _ hm; omega)
          have hk6 := hk5.trans k6 (fun x hx => .inr (by have := hfr x hx; omega))
          have hsz7 := k6.size
          go_wp2_with fail
          exact ⟨⟨j + 1, L ++ [out], at3, 0, by omega, by go_num, ha3, by simp; omega, hS6, hR6, r6, hk6, by omega, hin2⟩, by simp [intOf]; omega⟩
        · have hb3 : (e3 == 0) = false := by simpa using he3
          have hin2 : Hid (lstS n.toNat (full.drop at1) e1 = (L ++ (lstS (n.toNat - (j + 1)) (full.drop at3) e3).1, (lstS (n.toNat - (j + 1)) (full.drop at3) e3).2)) := by
            show _ = _
            rw [hinv.out, show n.toNat - j = (n.toNat - (j + 1)) + 1 by omega, lstS_bad _ _ _ _ _ he3 ht3, lstS_err _ _ _ he3]
          have hat : L.length ≤ at3 := by
            have h1 := congrArg List.length (textS_same ht3 he3)
            rw [List.length_drop, List.length_drop] at h1
            omega
          clear ht3 hinv he3
          have hlt := hrow.lt
          have hfr := hrow.from
          have hq := hS.lt
          have hS3 := hS.kept k3 (by simp)
          have hR3 := hR.kept k3 (by simp)
          have hrow3 := hrow.kept k3 (by simp)
          have hk3 := hk.trans k3 (by simp)
          have kA : Kp [] w3 (w3.alloc (.cells #[.slice b full.length cb, .int .i64 at3, .int .i64 e3] 31)) := (Kp.refl _ _).alloc _
          have bT := Box3.new w3 (.slice b full.length cb) (.int .i64 at3) (.int .i64 e3) 31
          have hS4 := hS3.kept kA (by simp)
          have hR4 := hR3.kept kA (by simp)
          have hrow4 := hrow3.kept kA (by simp)
          have hk4 := hk3.trans kA (by simp)
          have hrx4 := hrx.kept kA (by simp)
          obtain ⟨hS5, ks⟩ := hS4.setAll (.slice b full.length cb) (.int .i64 at3) (.int .i64 e3)
          have hR5 := hR4.kept ks (by simp; omega)
          have hrow5 := hrow4.kept ks (by simp)
          have hk5 := hk4.trans ks (fun x hx => .inr (by simp at hx; omega))
          have hrx5 := hrx4.kept ks (fun k hk' hm => by have := hox k hk'; simp at hm; omega)
          have hsz5 := k3.size
          have hsz6 := ks.size
          simp only [World.size_alloc] at hsz6
          clear s0 s1 s2 sf hS hR hrow hS3 hR3 hrow3 hk3 hrow4 hR4 hk4 hrx hrx4 kA k3 hgt
          have s0 := hS4.c0; have s1 := hS4.c1; have s2 := hS4.c2; have sf := hS4.free
          have t0 := bT.c0; have t1 := bT.c1; have t2 := bT.c2
          have z0 := hS5.c0; have z1 := hS5.c1; have z2 := hS5.c2
          go_wp2_with fail
          exact ⟨⟨j + 1, L, at3, e3, by omega, by go_num, ha3, hat, hS5, hR5, hrow5, hk5, by omega, hin2⟩, by simp [intOf]; omega⟩
      · have hb2 : (e2 == 0) = false := by simpa using he2
        have hfin : Hid (lstS n.toNat (full.drop at1) e1 = (L, full.drop at2, e2)) := by
          show _ = _
          rw [hinv.out, lstS_err _ _ _ he2]
          simp
        have s0 := hS.c0; have s1 := hS.c1; have s2 := hS.c2
        have r0 := hR.c0; have r1 := hR.c1; have r2 := hR.c2; have rf := hR.free
        obtain ⟨hR5, ks⟩ := hR.setAll (.slice b full.length cb) (.int .i64 at2) (.int .i64 e2)
        have hk5 := hk.trans ks (fun x hx => .inr (by simp at hx; omega))
        have z0 := hR5.c0; have z1 := hR5.c1; have z2 := hR5.c2
        have hrow5 := hrow.kept ks (by simp; omega)
        clear hinv
        go_wp2_with fail
        go_region
        go_wp2_with fail
        have hrow6 := (hrow5.kept (S := []) (Kp.refl [] _).drew (by simp)).low (m := w.heap.size) (by omega)
        refine bodyPost_ret (v := .tuple #[u8, .agg #[.slice b full.length cb, .int .i64 at2, .int .i64 e2]]) (by simp [results, Try.results9, go_sem, z0, z1, z2]) rfl ⟨n, full.drop at1, e1, L, at2, e2, u8, HT.out, hfin.out, ha2, rfl, hrow6, hk5.drew⟩
    · have hjn' : (j : Int) = n := by omega
      have hjn2 : n.toNat - j = 0 := by omega
      have hfin : Hid (lstS n.toNat (full.drop at1) e1 = (L, full.drop at2, e2)) := by
        show _ = _
        rw [hinv.out, hjn2, lstS]
        simp
      have s0 := hS.c0; have s1 := hS.c1; have s2 := hS.c2
      have r0 := hR.c0; have r1 := hR.c1; have r2 := hR.c2; have rf := hR.free
      obtain ⟨hR5, ks⟩ := hR.setAll (.slice b full.length cb) (.int .i64 at2) (.int .i64 e2)
      have hk5 := hk.trans ks (fun x hx => .inr (by simp at hx; omega))
      have z0 := hR5.c0; have z1 := hR5.c1; have z2 := hR5.c2
      have hrow5 := hrow.kept ks (by simp; omega)
      clear hinv
      go_wp2_with fail
      go_region
      go_wp2_with fail
      have hrow6 := (hrow5.kept (S := []) (Kp.refl [] _).drew (by simp)).low (m := w.heap.size) (by omega)
      refine bodyPost_ret (v := .tuple #[u8, .agg #[.slice b full.length cb, .int .i64 at2, .int .i64 e2]]) (by simp [results, Try.results9, go_sem, z0, z1, z2]) rfl ⟨n, full.drop at1, e1, L, at2, e2, u8, HT.out, hfin.out, ha2, rfl, hrow6, hk5.drew⟩
end Go.Proofs.Ytcmfhejjndlnnaa

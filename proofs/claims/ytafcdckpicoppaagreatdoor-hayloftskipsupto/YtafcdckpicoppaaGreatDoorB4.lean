/- Runs, as bytes. Differences, as bytes. The first int, and the differences, as bytes. Numbers in so many bits each: the bytes. pack. -/
import Derived.Test.YtafcdckpicoppaaGreatDoorB3
import Derived.Deep.RegionHeld3
section
namespace Go.Proofs.YtafcdckpicoppaaGreatDoor
open Go.RowKit Go.Hay
set_option linter.unusedVariables false
set_option linter.unusedSimpArgs false

/-- Pieces that are gathered, and what they see. -/
structure PcA (w0 w : World) (pa : Option Addr) (pc : Nat) (ps : List Bs) : Prop where
  row : BsE.Row w (.slice pa ps.length pc) ps
  see : ∀ x ∈ ps, Sees w x.a x.bs ∧ (x.bs ≠ [] → ∀ k ∈ blk x.a, k ∉ blk pa)
  kp : Kp [] w0 w
  new : ∀ k ∈ blk pa, w0.heap.size ≤ k
theorem PcA.keep {w0 w w' : World} {pa : Option Addr} {pc : Nat} {ps : List Bs} (h : PcA w0 w pa pc ps) (k : Kp [] w w') : PcA w0 w' pa pc ps :=
  ⟨h.row.keptNew k, fun x hx => ⟨(h.see x hx).1.kept k (by simp), (h.see x hx).2⟩, h.kp.trans k (by simp), h.new⟩
theorem PcA.app {w0 w wc w' : World} {pa a' : Option Addr} {pc c' : Nat} {ps ps' qs : List Bs} (h : PcA w0 w pa pc ps) (k : Kp [] w wc) (hqs : ∀ x ∈ qs, Sees wc x.a x.bs ∧ (x.bs ≠ [] → ∀ k ∈ blk x.a, k ∉ blk pa)) (hrow : BsE.Row w' (.slice a' ps'.length c') ps') (hy : ps' = ps ++ qs) (hg : Kp (own (.slice pa ps.length pc)) wc w') (hn : ∀ k ∈ blk a', k ∈ own (.slice pa ps.length pc) ∨ wc.heap.size ≤ k) : PcA w0 w' a' c' ps' := by
  rw [ownS] at hg hn
  have hall : ∀ x ∈ ps', Sees wc x.a x.bs ∧ (x.bs ≠ [] → ∀ k ∈ blk x.a, k ∉ blk pa) := fun x hx => by
    rw [hy] at hx
    rcases List.mem_append.1 hx with h1 | h1
    · exact (h.keep k).see x h1
    · exact hqs x h1
  have hz := h.kp.size
  have hz2 := k.size
  refine ⟨hrow, fun x hx => ⟨(hall x hx).1.kept' hg (fun hne m hm => (hall x hx).2 hne m hm), fun hne m hm hm' => ?_⟩, (h.kp.trans k (by simp)).trans hg (fun m hm => .inr (h.new m hm)), fun m hm => ?_⟩
  · rcases hn m hm' with h1 | h1
    · exact (hall x hx).2 hne m hm h1
    · have := (hall x hx).1.lt hne m hm; omega
  · rcases hn m hm with h1 | h1
    · exact h.new m h1
    · omega
/-- A run's bytes. -/
def runB (r : Rn) : List UInt8 := octet r.m :: rowB r.v
theorem runsV_in {l : List Val} : ∀ r ∈ runsV l, r.v ∈ l ∧ r.m ≤ l.length := by
  induction l with
  | nil => intro r hr; cases hr
  | cons x l ih =>
    intro r hr
    rw [runsV] at hr
    cases hl : runsV l with
    | nil => rw [hl] at hr; simp at hr; subst hr; simp
    | cons s rs =>
      rw [hl] at hr ih
      simp only at hr
      split at hr
      · rcases List.mem_cons.1 hr with rfl | hr
        · have := ih s (by simp); exact ⟨List.mem_cons_of_mem _ this.1, by simp; omega⟩
        · have := ih r (by simp [hr]); exact ⟨List.mem_cons_of_mem _ this.1, by simp; omega⟩
      · rcases List.mem_cons.1 hr with rfl | hr
        · simp
        · have := ih r hr; exact ⟨List.mem_cons_of_mem _ this.1, by simp; omega⟩
theorem runsV_len (l : List Val) : (runsV l).length ≤ l.length := by
  induction l with
  | nil => simp [runsV]
  | cons x l ih =>
    rw [runsV]
    cases hl : runsV l with
    | nil => simp
    | cons s rs =>
      rw [hl] at ih
      simp only
      split <;> simp at ih ⊢ <;> omega
theorem flatRun_take (R : List Rn) (j : Nat) (h : j < R.length) : (R.take (j + 1)).flatMap runB = (R.take j).flatMap runB ++ runB R[j] := by
  rw [List.take_succ_eq_append_getElem h, List.flatMap_append]; simp
theorem flatRun_len {R : List Rn} (h : ∀ r ∈ R, r.v.right = true) : (R.flatMap runB).length ≤ 67 * R.length := by
  induction R with
  | nil => simp
  | cons r R ih =>
    have h1 := rowB_length (h r (by simp))
    have h2 := ih (fun s hs => h s (by simp [hs]))
    simp [runB] at h2 ⊢
    omega
theorem octet_nat (m : Nat) (h : m < 256) : (octet m).toNat = m := by simp [octet]; omega
theorem twoBs (w : World) {q : Nat} (hq : w.heap.size = q) (x y : Bs) (t : TypeId) : BsE.See (w.alloc (.cells #[.slice x.a x.bs.length x.c, .slice y.a y.bs.length y.c] t)) (some ⟨q, 0, none⟩) [x, y] := by
  subst hq
  refine .inr ⟨_, 0, rfl, fun j u hu => ?_⟩
  have e : (w.alloc (.cells #[.slice x.a x.bs.length x.c, .slice y.a y.bs.length y.c] t)).cell? ⟨w.heap.size, 0 + j, none⟩ = _ := World.cell?_alloc_new w _ _ (0 + j)
  rw [e, Nat.zero_add]
  simpa [El.cs, BsE] using hu
theorem oneByte (w : World) {q : Nat} (hq : w.heap.size = q) (m : Nat) (hm : (octet m).toNat = m) (t : TypeId) : Sees (w.alloc (.cells #[.int .u8 (m : Int)] t)) (some ⟨q, 0, none⟩) [octet m] := by
  subst hq
  refine .inr ⟨_, 0, rfl, fun j u hu => ?_⟩
  have e : (w.alloc (.cells #[.int .u8 (m : Int)] t)).cell? ⟨w.heap.size, 0 + j, none⟩ = _ := World.cell?_alloc_new w _ _ (0 + j)
  rw [e, Nat.zero_add]
  cases j with
  | zero => simp at hu; subst hu; rw [hm]; rfl
  | succ j => simp at hu
set_option maxHeartbeats 16000000 in
set_option maxRecDepth 100000 in
theorem cPutRuns (a : Option Addr) (ca : Nat) (l : List Val) (w : World) (ha : Vals w a l) (hc : l.length ≤ ca) (hm : ca ≤ maxLen) (hr : allR l = true) (hl : l.length ≤ 64) :
    Calls Tryz.prog 49 #[.slice a l.length ca] w (NB ((runsV l).flatMap runB) w) := by
  have cR := cRuns a ca l w ha hc hm (by omega)
  have hin : Hid (∀ r ∈ runsV l, r.v.right = true ∧ r.m ≤ 64) := fun r hr' => by
    have := runsV_in r hr'
    exact ⟨List.all_eq_true.1 hr _ this.1, by omega⟩
  have hRl : (runsV l).length ≤ 64 := Nat.le_trans (runsV_len l) hl
  obtain ⟨R, hR⟩ : ∃ R, Hid (runsV l = R) := ⟨_, rfl⟩
  rw [hR.out] at cR hin hRl ⊢
  obtain ⟨F, hF⟩ : ∃ F, Hid (R.flatMap runB = F) := ⟨_, rfl⟩
  rw [hF.out]
  clear hR hr
  obtain ⟨i0, hi, hz0, hz1, hz2⟩ := infoS'
  go_enter Tryz.func49, Tryz.ntmps49
  go_wp2_with fail
  refine cR.mono ?_
  rintro e w1 ⟨ra, rc, rfl, hrow, k1, hn1⟩
  obtain ⟨_, _, ee, hsee, _⟩ := hrow.see
  cases ee
  have P0 : Hid (PcA w1 w1 none 0 []) := ⟨.inl ⟨rfl, rfl⟩, by simp, Kp.refl _ _, by simp [blk]⟩
  clear cR
  go_wp2_with fail
  go_loopw [3, 9] (fun v i wn => ∃ (j : Nat) (pa : Option Addr) (pc : Nat) (ps : List Bs), j ≤ R.length ∧ i = .int .i64 j ∧ v = .slice pa ps.length pc ∧ PcA w1 wn pa pc ps ∧ Hid (flatB ps = (R.take j).flatMap runB) ∧ Hid (ps.length = 2 * j)) (fun _ i _ => R.length - (intOf i).toNat)
  case atStart => exact ⟨0, none, 0, [], Nat.zero_le _, rfl, rfl, P0.out, rfl, rfl⟩
  case round =>
    clear P0
    obtain ⟨j, pa, pc, ps, hj, rfl, rfl, P, hfl, hpl⟩ := hrel
    have kn := P.kp
    by_cases hjl : j < R.length
    · obtain ⟨r, hr⟩ : ∃ r, R[j]? = some r := ⟨R[j], by simp [hjl]⟩
      obtain ⟨g, o, rfl, a0, a1, a2, a3, a4⟩ := runE_at (hsee.keptNew kn) hr
      obtain ⟨hxr, hm64⟩ := hin.out r (List.mem_of_getElem? hr)
      have hst := hid (flatRun_take R j hjl)
      have hrj : Hid (R[j] = r) := (List.getElem?_eq_some_iff.1 hr).2
      rw [hrj.out] at hst
      obtain ⟨wb, hwb⟩ : ∃ wb, wr.alloc (.cells #[.int .i64 (r.m : Int), .int .i64 r.v.k, .bool r.v.b, .int .i64 r.v.n, .string r.v.t] 115) = wb := ⟨_, rfl⟩
      have kb : Kp [] wr wb := by rw [← hwb]; exact (Kp.refl _ _).alloc _
      have q0 : ∀ i u, (#[.int .i64 (r.m : Int), .int .i64 r.v.k, .bool r.v.b, .int .i64 r.v.n, .string r.v.t] : Array Value)[i]? = some u → wb.cell? ⟨wr.heap.size, i, none⟩ = some u := fun i u hu => by rw [← hwb]; exact (World.cell?_alloc_new wr _ _ i).trans hu
      have kbd : Kp [] wr wb.drew := kb.drew
      have Pb := P.keep kbd
      have hSS : ∀ A, Kp [] wb.drew A → A.cell? ⟨wr.heap.size, 0, none⟩ = some (.int .i64 (r.m : Int)) ∧ A.cell? ⟨wr.heap.size, 1, none⟩ = some (.int .i64 r.v.k) ∧ A.cell? ⟨wr.heap.size, 2, none⟩ = some (.bool r.v.b) ∧ A.cell? ⟨wr.heap.size, 3, none⟩ = some (.int .i64 r.v.n) ∧ A.cell? ⟨wr.heap.size, 4, none⟩ = some (.string r.v.t) := fun A kA => ⟨kpAt kA (q0 0 _ rfl), kpAt kA (q0 1 _ rfl), kpAt kA (q0 2 _ rfl), kpAt kA (q0 3 _ rfl), kpAt kA (q0 4 _ rfl)⟩
      have hSS' := hid hSS
      have hlt : wr.heap.size < wb.drew.heap.size := by show _ < wb.heap.size; rw [← hwb]; simp
      have hvb := hid (fun W => cValueBytes r.v hxr W)
      have hwr8 : IntKind.u8.wrap (r.m : Int) = (r.m : Int) := by rw [IntKind.wrap_u8]; omega
      have hoc : Hid ((octet r.m).toNat = r.m) := octet_nat r.m (by omega)
      obtain ⟨V, hV⟩ : ∃ V, Hid (rowB r.v = V) := ⟨_, rfl⟩
      simp only [hV.out] at hvb
      have hrb : Hid (runB r = octet r.m :: V) := by show _ = _; unfold runB; rw [hV.out]
      have hpl' : ps.length ≤ 200 := by rw [hpl.out]; omega
      have hS3 : Hid (∀ A B, Kp [] wb.drew A → Kp (blk pa) A B → B.cell? ⟨wr.heap.size, 0, none⟩ = some (.int .i64 (r.m : Int)) ∧ B.cell? ⟨wr.heap.size, 1, none⟩ = some (.int .i64 r.v.k) ∧ B.cell? ⟨wr.heap.size, 2, none⟩ = some (.bool r.v.b) ∧ B.cell? ⟨wr.heap.size, 3, none⟩ = some (.int .i64 r.v.n) ∧ B.cell? ⟨wr.heap.size, 4, none⟩ = some (.string r.v.t)) := fun A B kA kB => by
        obtain ⟨z0, z1, z2, z3, z4⟩ := hSS A kA
        have hq : wr.heap.size ∉ blk pa := fun hm => by have := P.row.lt _ (by rw [ownS]; exact hm); omega
        have hlA : wr.heap.size < A.heap.size := Nat.lt_of_lt_of_le hlt kA.size
        have cc : ∀ i u, A.cell? ⟨wr.heap.size, i, none⟩ = some u → B.cell? ⟨wr.heap.size, i, none⟩ = some u := fun i u hu => (kB.cell (p := ⟨wr.heap.size, i, none⟩) hlA hq).trans hu
        exact ⟨cc _ _ z0, cc _ _ z1, cc _ _ z2, cc _ _ z3, cc _ _ z4⟩
      -- behind both pieces
      have hnext : Hid (∀ X ba va vc, Kp [] wb.drew X → Sees X (some ⟨ba, 0, none⟩) [octet r.m] → wb.drew.heap.size ≤ ba → Sees X va V → (∀ k ∈ blk va, wb.drew.heap.size ≤ k) →
          ∃ X2, X.alloc (.cells #[.slice (some ⟨ba, 0, none⟩) 1 1, .slice va V.length vc] 28) = X2 ∧ Kp [] wb.drew X2 ∧ ∃ v' X3, (Builtin.append_ #[111, 111] 111 #[.slice pa ps.length pc, .slice (some ⟨X.heap.size, 0, none⟩) 2 2]).run Tryz.prog X2 = .ok v' X3 ∧ Kp (blk pa) X2 X3 ∧ ∃ (j' : Nat) (pa' : Option Addr) (pc' : Nat) (ps' : List Bs), j' ≤ R.length ∧ (.int .i64 ((j : Int) + 1) : Value) = .int .i64 j' ∧ v' = .slice pa' ps'.length pc' ∧ PcA w1 X3 pa' pc' ps' ∧ Hid (flatB ps' = (R.take j').flatMap runB) ∧ Hid (ps'.length = 2 * j')) := fun X ba va vc kX hsb hba hsv hvn => by
        have kA : Kp [] X (X.alloc (.cells #[.slice (some ⟨ba, 0, none⟩) 1 1, .slice va V.length vc] 28)) := (Kp.refl _ _).alloc _
        have hs2 := (twoBs X rfl ⟨some ⟨ba, 0, none⟩, 1, [octet r.m]⟩ ⟨va, vc, V⟩ 28)
        have hPX := (Pb.keep kX)
        have hsr := hs2.src (P := Tryz.prog) Tryz.underlying111 2
        have hbn : ∀ k, wb.drew.heap.size ≤ k → k ∉ blk pa := fun k hk hm => by
          have := Pb.row.lt k (by rw [ownS]; exact hm)
          omega
        obtain ⟨v', X3, hrun, hrow3, kk3, hn3⟩ := run_appendG (E := BsE) (P := Tryz.prog) _ 111 111 111 28 i0 (.slice none 0 0) 24 Tryz.underlying111 hi hz0 hz1 hz2 rfl (.slice pa ps.length pc) ps (hPX.keep kA).row _ [⟨some ⟨ba, 0, none⟩, 1, [octet r.m]⟩, ⟨va, vc, V⟩] hsr (by simp; omega) (by simp; omega)
        obtain ⟨a', c', rfl, _⟩ := hrow3.see
        have hn3' : ∀ k ∈ blk a', k ∈ own (.slice pa ps.length pc) ∨ _ ≤ k := fun k hk => hn3 k (by rw [ownS]; exact hk)
        have PP := hPX.app kA (qs := [⟨some ⟨ba, 0, none⟩, 1, [octet r.m]⟩, ⟨va, vc, V⟩]) (fun x hx => by
          simp only [List.mem_cons, List.not_mem_nil, or_false] at hx
          rcases hx with rfl | rfl
          · exact ⟨hsb.kept kA (by simp), fun _ k hk => by simp [blk] at hk; subst hk; exact hbn _ hba⟩
          · exact ⟨hsv.kept kA (by simp), fun _ k hk => hbn k (hvn k hk)⟩) hrow3 rfl kk3 hn3'
        refine ⟨_, rfl, kX.trans kA (by simp), _, X3, hrun, by rw [ownS] at kk3; exact kk3, j + 1, a', c', _, by omega, by go_num, rfl, PP, ?_, ?_⟩
        · show _ = _
          rw [hst.out, ← hfl.out, hrb.out]
          simp [flatB]
        · show _ = _
          simp [hpl.out]; omega
      have hwb' := hid hwb
      obtain ⟨rm, ⟨rk, rb', rn, rt⟩⟩ := r
      dsimp only at *
      unfold Val.v at hvb
      dsimp only at hvb
      clear hwb q0 P Pb kbd hr hst hfl hrb hV hpl hrj hSS
      go_wp2_with fail
      rw [hwb'.out]
      clear a0 a1 a2 a3 a4
      refine wp_region_held_drew (S := (fun A => A.cell? ⟨wr.heap.size, 0, none⟩ = some (.int .i64 (rm : Int)) ∧ A.cell? ⟨wr.heap.size, 1, none⟩ = some (.int .i64 rk) ∧ A.cell? ⟨wr.heap.size, 2, none⟩ = some (.bool rb') ∧ A.cell? ⟨wr.heap.size, 3, none⟩ = some (.int .i64 rn) ∧ A.cell? ⟨wr.heap.size, 4, none⟩ = some (.string rt))) (by kernel_rfl) ?_ (fun hHeld => ?_)
      · exact hSS'.out _ (Kp.refl _ _)
      generalize wb.drew = wd at *
      refine wpAnyH_take (i := 0) (v := ?_) rfl (by kernel_rfl) (by kernel_rfl) (by kernel_rfl) (fun _ _ _ h => h) (Or.inl ⟨by rfl, ?_⟩) (by assumption) ?_
      rotate_left
      · intro w hSw; (try dsimp only at hSw); go_simp <;> with_reducible rfl
      try simp only [Act.put, List.getElem_toArray, List.getElem_cons_zero, List.getElem_cons_succ, List.setIfInBounds_toArray, List.set_cons_zero, List.set_cons_succ]
      refine wpAnyH_take (i := 1) (v := ?_) rfl (by kernel_rfl) (by kernel_rfl) (by kernel_rfl) (fun _ _ _ h => h) (Or.inl ⟨by rfl, ?_⟩) (by assumption) ?_
      rotate_left
      · intro w hSw; (try dsimp only at hSw); go_simp <;> with_reducible rfl
      try simp only [Act.put, List.getElem_toArray, List.getElem_cons_zero, List.getElem_cons_succ, List.setIfInBounds_toArray, List.set_cons_zero, List.set_cons_succ]
      refine wpAnyH_take (i := 2) (v := ?_) rfl (by kernel_rfl) (by kernel_rfl) (by kernel_rfl) (fun _ _ _ h => h) (Or.inl ⟨by rfl, ?_⟩) (by assumption) ?_
      rotate_left
      · intro w hSw; (try dsimp only at hSw); go_simp <;> with_reducible rfl
      try simp only [Act.put, List.getElem_toArray, List.getElem_cons_zero, List.getElem_cons_succ, List.setIfInBounds_toArray, List.set_cons_zero, List.set_cons_succ]
      refine wpAnyH_take (i := 3) (v := ?_) rfl (by kernel_rfl) (by kernel_rfl) (by kernel_rfl) (fun _ _ _ h => h) (Or.inl ⟨by rfl, ?_⟩) (by assumption) ?_
      rotate_left
      · intro w hSw; (try dsimp only at hSw); go_simp <;> with_reducible rfl
      try simp only [Act.put, List.getElem_toArray, List.getElem_cons_zero, List.getElem_cons_succ, List.setIfInBounds_toArray, List.set_cons_zero, List.set_cons_succ]
      refine wpAnyH_take (i := 5) (v := ?_) rfl (by kernel_rfl) (by kernel_rfl) (by kernel_rfl) (fun _ _ _ h => h) (Or.inl ⟨by rfl, ?_⟩) (by assumption) ?_
      rotate_left
      · intro w hSw; (try dsimp only at hSw); go_simp <;> with_reducible rfl
      try simp only [Act.put, List.getElem_toArray, List.getElem_cons_zero, List.getElem_cons_succ, List.setIfInBounds_toArray, List.set_cons_zero, List.set_cons_succ]
      refine wpAnyH_take (i := 6) (v := ?_) rfl (by kernel_rfl) (by kernel_rfl) (by kernel_rfl) (fun _ _ _ h => h) (Or.inl ⟨by rfl, ?_⟩) (by assumption) ?_
      rotate_left
      · intro w hSw; (try dsimp only at hSw); go_simp <;> with_reducible rfl
      try simp only [Act.put, List.getElem_toArray, List.getElem_cons_zero, List.getElem_cons_succ, List.setIfInBounds_toArray, List.set_cons_zero, List.set_cons_succ]
      refine wpAnyH_ready (rs := [4, 7]) (by kernel_rfl) (by simp) ?_
      refine (AllReadyH.cons rfl (fun K hK => ?_) (AllReadyH.cons rfl (fun K hK => ?_) AllReadyH.nil))
      · go_simp
        obtain ⟨y1, hy1, ky1, hsb⟩ : ∃ y, wd.alloc (.cells #[.int .u8 (rm : Int)] 5) = y ∧ Kp [] wd y ∧ Sees y (some ⟨wd.heap.size, 0, none⟩) [octet rm] := ⟨_, rfl, (Kp.refl _ _).alloc _, oneByte wd rfl rm hoc.out _⟩
        rw [hy1]
        (try go_wp2_with fail)
        refine hK.out _ _ ?_ (fun hHeld => ?_)
        · exact hSS'.out _ ky1
        clear hK K
        try simp only [Act.put, List.getElem_toArray, List.getElem_cons_zero, List.getElem_cons_succ, List.setIfInBounds_toArray, List.set_cons_zero, List.set_cons_succ]
        refine wpAnyH_ready (rs := [7]) (by kernel_rfl) (by simp) ?_
        refine AllReadyH.cons rfl (fun K hK => ?_) AllReadyH.nil
        go_simp
        refine (hvb.out y1).mono ?_
        rintro e y2 ⟨va, vc, rfl, hrv, ky2, hvn0⟩
        (try go_wp2_with fail)
        refine hK.out _ _ ?_ (fun hHeld => ?_)
        · exact hSS'.out _ (ky1.trans ky2 (by simp))
        clear hK K
        try simp only [Act.put, List.getElem_toArray, List.getElem_cons_zero, List.getElem_cons_succ, List.setIfInBounds_toArray, List.set_cons_zero, List.set_cons_succ]
        obtain ⟨_, _, ee, hsv, _⟩ := hrv.sees
        cases ee
        have kXX := ky1.trans ky2 (by simp)
        have hsb := hsb.kept ky2 (by simp)
        have hba : wd.heap.size ≤ wd.heap.size := Nat.le_refl _
        have hvn : ∀ k ∈ blk va, wd.heap.size ≤ k := fun k hk => by have := hvn0 k hk; have := ky1.size; omega
        obtain ⟨X2, hX2, kX2, v3, X3, hrun, kk3, hgo⟩ := hnext.out y2 wd.heap.size va vc kXX hsb hba hsv hvn
        have hX2' := hid hX2
        clear hX2 hnext
        refine wpAnyH_ready (rs := [8]) (by kernel_rfl) (by simp) ?_
        refine AllReadyH.cons rfl (fun K hK => ?_) AllReadyH.nil
        go_simp
        rw [hX2'.out]
        (try go_wp2_with fail)
        refine hK.out _ _ ?_ (fun hHeld => ?_)
        · exact hSS'.out _ kX2
        clear hK K
        try simp only [Act.put, List.getElem_toArray, List.getElem_cons_zero, List.getElem_cons_succ, List.setIfInBounds_toArray, List.set_cons_zero, List.set_cons_succ]
        refine wpAnyH_ready (rs := [9]) (by kernel_rfl) (by simp) ?_
        refine AllReadyH.cons rfl (fun K hK => ?_) AllReadyH.nil
        refine stepAppRun rfl _ _ 111 111 rfl _ _ _ rfl rfl hrun ?_
        refine hK.out _ _ ?_ (fun hHeld => ?_)
        · exact hS3.out X2 X3 kX2 kk3
        clear hK K
        try simp only [Act.put, List.getElem_toArray, List.getElem_cons_zero, List.getElem_cons_succ, List.setIfInBounds_toArray, List.set_cons_zero, List.set_cons_succ]
        refine wpAnyH_take (i := 10) (v := ?_) rfl (by kernel_rfl) (by kernel_rfl) (by kernel_rfl) (fun _ _ _ h => h) (Or.inl ⟨by rfl, ?_⟩) (by assumption) ?_
        rotate_left
        · intro w hSw; (try dsimp only at hSw); go_simp <;> with_reducible rfl
        try simp only [Act.put, List.getElem_toArray, List.getElem_cons_zero, List.getElem_cons_succ, List.setIfInBounds_toArray, List.set_cons_zero, List.set_cons_succ]
        refine wpAnyH_done (by kernel_rfl) ?_ _
        go_wp2_with fail
        obtain ⟨j', pa', pc', ps', e1, e2, e3, e4⟩ := hgo
        subst e3
        exact ⟨⟨j', pa', pc', ps', e1, e2, rfl, e4⟩, by simp [intOf]; omega⟩
      · go_simp
        refine (hvb.out wd).mono ?_
        rintro e y2 ⟨va, vc, rfl, hrv, ky2, hvn⟩
        (try go_wp2_with fail)
        refine hK.out _ _ ?_ (fun hHeld => ?_)
        · exact hSS'.out _ ky2
        clear hK K
        try simp only [Act.put, List.getElem_toArray, List.getElem_cons_zero, List.getElem_cons_succ, List.setIfInBounds_toArray, List.set_cons_zero, List.set_cons_succ]
        refine wpAnyH_ready (rs := [4]) (by kernel_rfl) (by simp) ?_
        refine AllReadyH.cons rfl (fun K hK => ?_) AllReadyH.nil
        go_simp
        obtain ⟨y1, hy1, ky1, hsb⟩ : ∃ y, y2.alloc (.cells #[.int .u8 (rm : Int)] 5) = y ∧ Kp [] y2 y ∧ Sees y (some ⟨y2.heap.size, 0, none⟩) [octet rm] := ⟨_, rfl, (Kp.refl _ _).alloc _, oneByte y2 rfl rm hoc.out _⟩
        rw [hy1]
        (try go_wp2_with fail)
        refine hK.out _ _ ?_ (fun hHeld => ?_)
        · exact hSS'.out _ (ky2.trans ky1 (by simp))
        clear hK K
        try simp only [Act.put, List.getElem_toArray, List.getElem_cons_zero, List.getElem_cons_succ, List.setIfInBounds_toArray, List.set_cons_zero, List.set_cons_succ]
        obtain ⟨_, _, ee, hsv0, _⟩ := hrv.sees
        cases ee
        have kXX := ky2.trans ky1 (by simp)
        have hsv := hsv0.kept ky1 (by simp)
        have hba : wd.heap.size ≤ y2.heap.size := ky2.size
        obtain ⟨X2, hX2, kX2, v3, X3, hrun, kk3, hgo⟩ := hnext.out y1 y2.heap.size va vc kXX hsb hba hsv hvn
        have hX2' := hid hX2
        clear hX2 hnext
        refine wpAnyH_ready (rs := [8]) (by kernel_rfl) (by simp) ?_
        refine AllReadyH.cons rfl (fun K hK => ?_) AllReadyH.nil
        go_simp
        rw [hX2'.out]
        (try go_wp2_with fail)
        refine hK.out _ _ ?_ (fun hHeld => ?_)
        · exact hSS'.out _ kX2
        clear hK K
        try simp only [Act.put, List.getElem_toArray, List.getElem_cons_zero, List.getElem_cons_succ, List.setIfInBounds_toArray, List.set_cons_zero, List.set_cons_succ]
        refine wpAnyH_ready (rs := [9]) (by kernel_rfl) (by simp) ?_
        refine AllReadyH.cons rfl (fun K hK => ?_) AllReadyH.nil
        refine stepAppRun rfl _ _ 111 111 rfl _ _ _ rfl rfl hrun ?_
        refine hK.out _ _ ?_ (fun hHeld => ?_)
        · exact hS3.out X2 X3 kX2 kk3
        clear hK K
        try simp only [Act.put, List.getElem_toArray, List.getElem_cons_zero, List.getElem_cons_succ, List.setIfInBounds_toArray, List.set_cons_zero, List.set_cons_succ]
        refine wpAnyH_take (i := 10) (v := ?_) rfl (by kernel_rfl) (by kernel_rfl) (by kernel_rfl) (fun _ _ _ h => h) (Or.inl ⟨by rfl, ?_⟩) (by assumption) ?_
        rotate_left
        · intro w hSw; (try dsimp only at hSw); go_simp <;> with_reducible rfl
        try simp only [Act.put, List.getElem_toArray, List.getElem_cons_zero, List.getElem_cons_succ, List.setIfInBounds_toArray, List.set_cons_zero, List.set_cons_succ]
        refine wpAnyH_done (by kernel_rfl) ?_ _
        go_wp2_with fail
        obtain ⟨j', pa', pc', ps', e1, e2, e3, e4⟩ := hgo
        subst e3
        exact ⟨⟨j', pa', pc', ps', e1, e2, rfl, e4⟩, by simp [intOf]; omega⟩
    · obtain rfl : j = R.length := by omega
      rw [List.take_length, hF.out] at hfl
      have hpl' : ps.length ≤ 1000000 := by rw [hpl.out]; omega
      have hb : (flatB ps).length ≤ 100000000000 := by
        rw [hfl.out, ← hF.out]
        have := flatRun_len (R := R) (fun r hr => (hin.out r hr).1)
        omega
      have hsee2 : BsE.See wr pa ps := by obtain ⟨_, _, e, hs, _⟩ := P.row.see; injection e with e1 e2 e3; rw [e1]; exact hs
      have hjn := cJoin pa pc ps wr hsee2 (fun x hx => (P.see x hx).1) hpl' hb
      rw [hfl.out] at hjn
      have kP := k1.trans P.kp (by simp)
      clear P hsee2 hb hfl
      go_wp2_with fail
      refine hjn.mono ?_
      rintro e w3 ⟨b3, c3, rfl, hrow3, k3, hn3⟩
      go_wp2_with fail
      go_ret
      exact ⟨b3, c3, rfl, hrow3, kP.trans k3 (by simp), fun k hk => by have := hn3 k hk; have := kP.size; omega⟩
end Go.Proofs.YtafcdckpicoppaaGreatDoor
end

section
namespace Go.Proofs.YtafcdckpicoppaaGreatDoor
open Go.RowKit Go.Hay
set_option linter.unusedVariables false
set_option linter.unusedSimpArgs false

theorem octet_shiftS (n : Int) (j : Nat) (hj : j < 8) : octet (n / 2 ^ (8 * j) % 256) = UInt8.ofNat (u64 n / 256 ^ j % 256) := by
  unfold octet u64
  have e : (n / 2 ^ (8 * j) % 256).toNat = (n % 18446744073709551616).toNat / 256 ^ j % 256 := by
    match j, hj with
    | 0, _ | 1, _ | 2, _ | 3, _ | 4, _ | 5, _ | 6, _ | 7, _ => simp; omega
  rw [e]
set_option maxHeartbeats 4000000 in
set_option maxRecDepth 100000 in
theorem cWordBytes (n : Int) (w : World) : Calls Tryz.prog 76 #[.int .i64 n] w (NB (be (u64 n) 8) w) := by
  obtain ⟨i0, hi, hz0, hz1, hz2⟩ := infoU'
  obtain ⟨W1, hmk, hrow1, k1, hs1⟩ := run_makeG (E := BytE) (P := Tryz.prog) w 28 5 i0 (.int .u8 0) 0 1 Tryz.underlying28 hi hz0 hz1 hz2 rfl .i64 .i64 8 (by omega) (by unfold maxLen; omega)
  have hr1 : Row W1 (.slice (some ⟨w.heap.size, 0, none⟩) 8 8) (low8 (u64 n) 0) := rowByt.1 hrow1
  have hmk' : (Instr.makeSlice 28 (.int .i64 8) (.int .i64 8)).run Tryz.prog w = .ok (.slice (some ⟨w.heap.size, 0, none⟩) 8 8) W1 := hmk
  have hlen : (be (u64 n) 8).length = 8 := be_length _ _
  obtain ⟨Bb, hBb⟩ : ∃ Bb, Hid (be (u64 n) 8 = Bb) := ⟨_, rfl⟩
  rw [hBb.out] at hlen ⊢
  have hlen' := hid hlen
  clear hmk hrow1 hlen
  go_enter Tryz.func76, Tryz.ntmps76
  go_wp2_with fail
  go_loopw [6] (fun i wn => ∃ j : Nat, j ≤ 8 ∧ i = .int .i64 j ∧ Row wn (.slice (some ⟨w.heap.size, 0, none⟩) 8 8) (low8 (u64 n) j) ∧ Kp [] w wn) (fun i _ => 8 - (intOf i).toNat)
  case atStart => exact ⟨0, Nat.zero_le _, rfl, hr1, k1⟩
  case round =>
    clear hmk' hr1
    obtain ⟨j, hj, rfl, hrow, kn⟩ := hrel
    by_cases hlt : j < 8
    · have hl8 := low8_length (u64 n) j (by omega)
      have hput := (rowByt.2 hrow).setAt (7 - j) (by rw [hl8]; omega) (UInt8.ofNat (u64 n / 256 ^ j % 256))
      rw [← low8_succ _ _ hlt] at hput
      have hput' := rowByt.1 hput
      have hcf : (∃ u, wr.cell? ⟨w.heap.size, 7 - j, none⟩ = some u) ∧ wr.frozen? ⟨w.heap.size, 7 - j, none⟩ = false := by
        rcases hrow with ⟨e, _⟩ | ⟨g, o, c, e, q1, q2, q3, q4, q5⟩
        · cases e
        · injection e with e1 e2 e3
          injection e1 with e1
          injection e1 with e4 e5
          subst e3 e4 e5
          have := q5 (7 - j) (by omega)
          rw [Nat.zero_add] at this
          exact ⟨Option.isSome_iff_exists.1 this.1, this.2⟩
      obtain ⟨⟨u, hu⟩, hf⟩ := hcf
      have hbd := shift_bd n j
      have hval : Hid ((.int .u8 (n / 2 ^ (8 * j) % 256) : Value) = .int .u8 ((UInt8.ofNat (u64 n / 256 ^ j % 256)).toNat : Int)) := by
        show _ = _
        rw [← octet_shiftS n j hlt, octet_toNat _ hbd.1 hbd.2]
      have eW : Hid (wr.setCells w.heap.size (0 + (7 - j) * BytE.n) (BytE.c (UInt8.ofNat (u64 n / 256 ^ j % 256))) = wr.setCell ⟨w.heap.size, 7 - j, none⟩ (.int .u8 (n / 2 ^ (8 * j) % 256))) := by
        show _ = _
        rw [hval.out]
        have : BytE.n = 1 := rfl
        rw [this]
        simp [BytE, World.setCells]
      rw [eW.out] at hput'
      have kf : Kp [] w (wr.setCell ⟨w.heap.size, 7 - j, none⟩ (.int .u8 (n / 2 ^ (8 * j) % 256))) := kn.setCell (p := ⟨w.heap.size, 7 - j, none⟩) (.inr (by simp)) _
      clear hput hval eW hrow hbd
      go_wp2_with fail
      exact ⟨⟨j + 1, by omega, by go_num, hput', kf⟩, by simp [intOf]; omega⟩
    · obtain rfl : j = 8 := by omega
      rw [low8_all, hBb.out] at hrow
      have hfin : NB Bb w (.returned (.slice (some ⟨w.heap.size, 0, none⟩) 8 8)) wr := ⟨_, 8, by rw [hlen'.out], by rw [hlen'.out]; exact hrow, kn, fun k hk => by simp [blk] at hk; omega⟩
      clear hrow
      go_wp2_with fail
      go_ret
      exact hfin
/-- A difference, folded. -/
def zig (d : Int) : Int := if 0 ≤ d then 2 * d else -2 * d - 1
theorem zig_bd {d : Int} (h1 : -9223372036854775808 ≤ d) (h2 : d < 9223372036854775808) : 0 ≤ zig d ∧ zig d < 18446744073709551616 := by unfold zig; split <;> omega
theorem u64_not (a : Nat) (ha : a < 18446744073709551616) : bits .xor .u64 IntKind.u64.max (a : Int) = 18446744073709551615 - (a : Int) := by
  show IntKind.u64.wrap ((BitVec.ofInt 64 IntKind.u64.max ^^^ BitVec.ofInt 64 (a : Int)).toNat : Int) = _
  have h1 : BitVec.ofInt 64 IntKind.u64.max = BitVec.allOnes 64 := by decide
  rw [h1, BitVec.allOnes_xor, BitVec.toNat_not, ofInt_u64 a (by omega)]
  simp [IntKind.wrap, IntKind.bits, IntKind.signed]
  omega
theorem cFold (d : Int) (w : World) (h1 : -9223372036854775808 ≤ d) (h2 : d < 9223372036854775808) : Calls Tryz.prog 78 #[.int .i64 d] w fun e w' => e = .returned (.int .u64 (zig d)) ∧ w' = w := by
  by_cases h : 0 ≤ d
  · have hz : zig d = 2 * d := by unfold zig; rw [if_pos h]
    rw [hz]
    clear hz
    have hn : ¬ d < 0 := by omega
    go_enter Tryz.func78, Tryz.ntmps78
    go_wp2_with fail
    go_ret
    exact ⟨rfl, rfl⟩
  · have hz : zig d = -2 * d - 1 := by unfold zig; rw [if_neg h]
    rw [hz]
    clear hz
    have hn : d < 0 := by omega
    have e1 : bits BinOp.xor IntKind.u64 IntKind.u64.max (IntKind.u64.wrap (2 * IntKind.u64.wrap d)) = -2 * d - 1 := by
      have e2 : IntKind.u64.wrap (2 * IntKind.u64.wrap d) = ((2 * d + 18446744073709551616).toNat : Int) := by rw [IntKind.wrap_u64, IntKind.wrap_u64]; omega
      rw [e2, u64_not _ (by omega)]
      omega
    have e1' := hid e1
    clear e1
    go_enter Tryz.func78, Tryz.ntmps78
    go_wp2_with fail
    go_ret
    rw [e1'.out]
    exact ⟨rfl, rfl⟩
/-- A number, seven bits a byte. -/
def gB (z : Nat) : List UInt8 := if h : z < 128 then [UInt8.ofNat z] else UInt8.ofNat (z % 128 + 128) :: gB (z / 128)
termination_by z
decreasing_by omega
theorem gB_lo {z : Nat} (h : z < 128) : gB z = [UInt8.ofNat z] := by rw [gB, dif_pos h]
theorem gB_hi {z : Nat} (h : ¬ z < 128) : gB z = UInt8.ofNat (z % 128 + 128) :: gB (z / 128) := by rw [gB, dif_neg h]
theorem gB_len : ∀ (k z : Nat), z < 128 ^ (k + 1) → (gB z).length ≤ k + 1
  | 0, z, h => by rw [gB_lo (by simpa using h)]; simp
  | k + 1, z, h => by
    by_cases h1 : z < 128
    · rw [gB_lo h1]; simp
    · rw [gB_hi h1]
      have := gB_len k (z / 128) (by rw [Nat.div_lt_iff_lt_mul (by omega)]; rw [Nat.pow_succ] at h; exact h)
      simp; omega
theorem gB_len64 (z : Nat) (h : z < 18446744073709551616) : (gB z).length ≤ 10 := gB_len 9 z (by omega)
set_option maxRecDepth 100000 in
theorem or128 (z : Nat) : bits .or .u8 ((z : Int) % 256) 128 = ((UInt8.ofNat (z % 128 + 128)).toNat : Int) := by
  have e : (z : Int) % 256 = ((z % 256 : Nat) : Int) := by omega
  have h := u8_or_nat (z % 256) 128 (by omega) (by omega)
  rw [e]
  show bits .or .u8 ((z % 256 : Nat) : Int) ((128 : Nat) : Int) = _
  rw [h]
  have d : ∀ x, x < 256 → x ||| 128 = x % 128 + 128 := by decide
  rw [d _ (by omega)]
  have : (UInt8.ofNat (z % 128 + 128)).toNat = z % 128 + 128 := by simp; omega
  rw [this]
  omega
theorem oneB (w : World) {q : Nat} (hq : w.heap.size = q) (x : UInt8) (v : Int) (hv : v = (x.toNat : Int)) (t : TypeId) : Sees (w.alloc (.cells #[.int .u8 v] t)) (some ⟨q, 0, none⟩) [x] := by
  subst hq hv
  refine .inr ⟨_, 0, rfl, fun j u hu => ?_⟩
  have e : (w.alloc (.cells #[.int .u8 (x.toNat : Int)] t)).cell? ⟨w.heap.size, 0 + j, none⟩ = _ := World.cell?_alloc_new w _ _ (0 + j)
  rw [e, Nat.zero_add]
  cases j with
  | zero => simp at hu; subst hu; rfl
  | succ j => simp at hu
set_option maxHeartbeats 4000000 in
set_option maxRecDepth 100000 in
theorem cGroups (z : Nat) (w : World) (hz : z < 18446744073709551616) : Calls Tryz.prog 77 #[.int .u64 (z : Int)] w (NB (gB z) w) := by
  obtain ⟨i0, hi, hz0, hz1, hz2⟩ := infoU'
  have hgl := gB_len64 z hz
  obtain ⟨F, hF⟩ : ∃ F, Hid (gB z = F) := ⟨_, rfl⟩
  rw [hF.out] at hgl ⊢
  have R0 : Hid (BytE.Row w (.slice none 0 0) []) := .inl ⟨rfl, rfl⟩
  go_enter Tryz.func77, Tryz.ntmps77
  go_wp2_with fail
  go_loopw [0, 3] (fun vz vb wn => ∃ (y : Nat) (a : Option Addr) (c : Nat) (bs : List UInt8), vz = .int .u64 (y : Int) ∧ vb = .slice a bs.length c ∧ y < 18446744073709551616 ∧ BytE.Row wn (.slice a bs.length c) bs ∧ Kp [] w wn ∧ (∀ k ∈ blk a, w.heap.size ≤ k) ∧ Hid (bs ++ gB y = F)) (fun vz _ _ => (intOf vz).toNat)
  case atStart => exact ⟨z, none, 0, [], rfl, rfl, hz, R0.out, Kp.refl _ _, by simp [blk], hF⟩
  case round =>
    clear R0
    obtain ⟨y, a, c, bs, rfl, rfl, hy, hrow, kn, hn, hbs⟩ := hrel
    have hbl : bs.length ≤ 10 := by have := congrArg List.length hbs.out; simp at this; omega
    have hnw : ∀ k ∈ own (.slice a bs.length c), w.heap.size ≤ k := fun k hk => hn k (by rw [ownS] at hk; exact hk)
    by_cases hlt : y < 128
    · have hb2 : Hid (bs ++ [UInt8.ofNat y] = F) := by show _ = _; rw [← gB_lo hlt]; exact hbs.out
      have hwv : IntKind.u8.wrap (y : Int) = (y : Int) := by rw [IntKind.wrap_u8]; omega
      have ho : (y : Int) = ((UInt8.ofNat y).toNat : Int) := by simp; omega
      have hsee := oneB wr rfl (UInt8.ofNat y) (y : Int) ho 5
      have kb : Kp [] wr (wr.alloc (.cells #[.int .u8 (y : Int)] 5)) := (Kp.refl _ _).alloc _
      have hsr := (seeByt.2 hsee).src (P := Tryz.prog) Tryz.underlying28 1
      have hrowb := hrow.keptNew kb
      have ho' := hid ho
      clear hbs hrow hsee ho
      go_wp2_with (first | (refine wpAppG (E := BytE) rfl _ _ 28 28 5 rfl i0 _ 1 Tryz.underlying28 hi hz0 hz1 hz2 rfl _ bs rfl hrowb _ [UInt8.ofNat y] rfl hsr (by simp; omega) (by simp; omega) ?_; intro ys a' c' w' hy' hrow' hg' hn') | fail)
      go_ret
      have e : ys = F := by rw [hy'.out]; exact hb2.out
      subst e
      refine ⟨a', c', rfl, rowByt.1 hrow', (kn.trans kb (by simp)).trans hg' (fun k hk => .inr (hnw k hk)), fun k hk => ?_⟩
      rcases hn' k hk with h1 | h1
      · exact hnw k h1
      · have := kn.size; have := kb.size; omega
    · have hb2 : Hid (bs ++ [UInt8.ofNat (y % 128 + 128)] ++ gB (y / 128) = F) := by show _ = _; rw [← hbs.out, gB_hi hlt]; simp
      have ho := or128 y
      have hsee := oneB wr rfl (UInt8.ofNat (y % 128 + 128)) _ ho 5
      have kb : Kp [] wr (wr.alloc (.cells #[.int .u8 (bits .or .u8 ((y : Int) % 256) 128)] 5)) := (Kp.refl _ _).alloc _
      have hsr := (seeByt.2 hsee).src (P := Tryz.prog) Tryz.underlying28 1
      have hrowb := hrow.keptNew kb
      obtain ⟨V, hV⟩ : ∃ V, Hid (bits .or .u8 ((y : Int) % 256) 128 = V) := ⟨_, rfl⟩
      have hVe : bits .or .u8 ((y : Int) % 256) 128 = V := hV.out
      rw [hV.out] at hsr hrowb kb
      clear hbs hrow hsee ho
      go_wp2_with (first | (refine wpAppG (E := BytE) rfl _ _ 28 28 5 rfl i0 _ 1 Tryz.underlying28 hi hz0 hz1 hz2 rfl _ bs rfl hrowb _ [UInt8.ofNat (y % 128 + 128)] rfl hsr (by simp; omega) (by simp; omega) ?_; intro ys a' c' w' hy' hrow' hg' hn') | fail)
      refine ⟨⟨y / 128, a', c', ys, by go_num, rfl, by omega, hrow', (kn.trans kb (by simp)).trans hg' (fun k hk => .inr (hnw k hk)), fun k hk => ?_, by show _ = _; rw [hy'.out]; exact hb2.out⟩, ?_⟩
      · rcases hn' k hk with h1 | h1
        · exact hnw k h1
        · have := kn.size; have := kb.size; omega
      · simp [intOf]; omega
end Go.Proofs.YtafcdckpicoppaaGreatDoor
end

section
namespace Go.Proofs.YtafcdckpicoppaaGreatDoor
open Go.RowKit Go.Hay
set_option linter.unusedVariables false
set_option linter.unusedSimpArgs false

def nv : Val := ⟨0, false, 0, ⟨#[]⟩⟩
/-- The difference of number k + 1 to the one ahead of it. -/
def dz (l : List Val) (k : Nat) : Int := IntKind.i64.wrap ((l.getD (k + 1) nv).n - (l.getD k nv).n)
def dlt (l : List Val) (j : Nat) : List UInt8 := (List.range j).flatMap fun k => gB (zig (dz l k)).toNat
def deltaB (l : List Val) : List UInt8 := be (u64 (l.getD 0 nv).n) 8 ++ dlt l (l.length - 1)
theorem wrap64_bd (n : Int) : -9223372036854775808 ≤ IntKind.i64.wrap n ∧ IntKind.i64.wrap n < 9223372036854775808 := by rw [IntKind.wrap_i64]; omega
theorem dz_bd (l : List Val) (k : Nat) : 0 ≤ zig (dz l k) ∧ zig (dz l k) < 18446744073709551616 := zig_bd (wrap64_bd _).1 (wrap64_bd _).2
theorem dlt_succ (l : List Val) (j : Nat) : dlt l (j + 1) = dlt l j ++ gB (zig (dz l j)).toNat := by unfold dlt; rw [List.range_succ, List.flatMap_append]; simp
theorem dlt_len (l : List Val) : ∀ j, (dlt l j).length ≤ 10 * j
  | 0 => by simp [dlt]
  | j + 1 => by
    rw [dlt_succ]
    have h1 := dlt_len l j
    have h2 := gB_len64 (zig (dz l j)).toNat (by have := dz_bd l j; omega)
    simp; omega
theorem oneBs (w : World) {q : Nat} (hq : w.heap.size = q) (x : Bs) (t : TypeId) : BsE.See (w.alloc (.cells #[.slice x.a x.bs.length x.c] t)) (some ⟨q, 0, none⟩) [x] := by
  subst hq
  refine .inr ⟨_, 0, rfl, fun j u hu => ?_⟩
  have e : (w.alloc (.cells #[.slice x.a x.bs.length x.c] t)).cell? ⟨w.heap.size, 0 + j, none⟩ = _ := World.cell?_alloc_new w _ _ (0 + j)
  rw [e, Nat.zero_add]
  simpa [El.cs, BsE] using hu
/-- One piece in a block of its own: a row that may grow. -/
theorem rowBs (w : World) {q : Nat} (hq : w.heap.size = q) (x : Bs) (t : TypeId) : BsE.Row (w.alloc (.cells #[.slice x.a x.bs.length x.c] t)) (.slice (some ⟨q, 0, none⟩) 1 1) [x] := by
  have hs := oneBs w hq x t
  subst hq
  refine .inr ⟨w.heap.size, 0, 1, rfl, by simp, by unfold maxLen; omega, by simp, ?_, fun j hj => ?_⟩
  · rcases hs with h | ⟨g, o, e, hc⟩
    · cases h
    · cases e; exact hc
  · have e1 : BsE.n = 1 := rfl
    rw [e1] at hj
    obtain rfl : j = 0 := by omega
    refine ⟨?_, World.frozen?_alloc_new w _ _ (0 + 0)⟩
    have e : (w.alloc (.cells #[.slice x.a x.bs.length x.c] t)).cell? ⟨w.heap.size, 0 + 0, none⟩ = _ := World.cell?_alloc_new w _ _ (0 + 0)
    rw [e]; rfl
set_option maxHeartbeats 16000000 in
set_option maxRecDepth 100000 in
theorem cPutDelta (a : Option Addr) (ca : Nat) (l : List Val) (w : World) (ha : Vals w a l) (hc : l.length ≤ ca) (hm : ca ≤ maxLen) (h0 : 0 < l.length) (hl : l.length ≤ 64) :
    Calls Tryz.prog 50 #[.slice a l.length ca] w (NB (deltaB l) w) := by
  obtain ⟨g, o, rfl, a0, a1, a2, a3⟩ := ha.at 0 h0
  have e0 : l.getD 0 nv = l[0] := by simp [h0]
  have cW := cWordBytes (l[0].n) w
  have hw8 : (be (u64 l[0].n) 8).length = 8 := be_length _ _
  obtain ⟨B8, hB8⟩ : ∃ B8, Hid (be (u64 (l[0]'h0).n) 8 = B8) := ⟨be (u64 (l[0]'h0).n) 8, rfl⟩
  rw [hB8.out] at cW hw8
  have hF : Hid (deltaB l = B8 ++ dlt l (l.length - 1)) := by show _ = _; unfold deltaB; rw [e0, hB8.out]
  obtain ⟨F, hFF⟩ : ∃ F, Hid (deltaB l = F) := ⟨_, rfl⟩
  rw [hFF.out] at hF ⊢
  have hat : Hid (∀ W, Kp [] w W → ∀ j, j < l.length → W.cell? ⟨g, o + j * 4, none⟩ = some (.int .i64 (l.getD j nv).k) ∧ W.cell? ⟨g, o + j * 4 + 1, none⟩ = some (.bool (l.getD j nv).b) ∧ W.cell? ⟨g, o + j * 4 + 2, none⟩ = some (.int .i64 (l.getD j nv).n) ∧ W.cell? ⟨g, o + j * 4 + 3, none⟩ = some (.string (l.getD j nv).t)) := fun W kW j hj => by
    obtain ⟨_, _, e, y0, y1, y2, y3⟩ := (ha.kept kW).at j hj
    cases e
    have e1 : l.getD j nv = l[j] := by simp [hj]
    rw [e1]
    exact ⟨y0, y1, y2, y3⟩
  obtain ⟨i0, hi, hz0, hz1, hz2⟩ := infoS'
  obtain ⟨n0, hn0⟩ : ∃ n0, Hid ((l[0]'h0).n = n0) := ⟨(l[0]'h0).n, rfl⟩
  rw [hn0.out] at cW a2
  unfold maxLen at hm
  rw [Nat.zero_mul, Nat.add_zero] at a2
  have hw8' := hid hw8
  clear a0 a1 a3 e0 hw8
  -- what is behind the first piece
  have hrest : Hid (∀ w1 b1 c1, Kp [] w w1 → Row w1 (.slice b1 B8.length c1) B8 → (∀ k ∈ blk b1, w.heap.size ≤ k) → PcA w (w1.alloc (.cells #[.slice b1 B8.length c1] 28)) (some ⟨w1.heap.size, 0, none⟩) 1 [⟨b1, c1, B8⟩]) := fun w1 b1 c1 k1 hr1 hn1 => by
    obtain ⟨_, _, ee, hs1, _⟩ := hr1.sees
    cases ee
    have kA : Kp [] w1 (w1.alloc (.cells #[.slice b1 B8.length c1] 28)) := (Kp.refl _ _).alloc _
    refine ⟨rowBs w1 rfl ⟨b1, c1, B8⟩ _, fun x hx => ?_, k1.trans kA (by simp), fun k hk => by simp [blk] at hk; have := k1.size; omega⟩
    rw [List.mem_singleton] at hx
    subst hx
    exact ⟨hs1.kept kA (by simp), fun hne k hk hm => by simp [blk] at hm; have := hs1.lt hne k hk; omega⟩
  go_enter Tryz.func50, Tryz.ntmps50
  go_wp2_with fail
  refine cW.mono ?_
  rintro e w1 ⟨b1, c1, rfl, hr1, k1, hn1⟩
  have P0 := hid (hrest.out w1 b1 c1 k1 hr1 hn1)
  clear hrest hr1 a2 cW
  by_cases hca : ca = 1
  · obtain hl1 : l.length = 1 := by omega
    have hF1 : Hid (F = flatB [⟨b1, c1, B8⟩]) := by show _ = _; rw [hF.out, hl1]; simp [dlt, flatB]
    have P := P0.out
    have hsee2 : BsE.See (w1.alloc (.cells #[.slice b1 B8.length c1] 28)) (some ⟨w1.heap.size, 0, none⟩) [⟨b1, c1, B8⟩] := oneBs w1 rfl ⟨b1, c1, B8⟩ _
    have hj : Calls Tryz.prog 75 #[.slice (some ⟨w1.heap.size, 0, none⟩) 1 1] (w1.alloc (.cells #[.slice b1 B8.length c1] 28)) (NB (flatB [⟨b1, c1, B8⟩]) (w1.alloc (.cells #[.slice b1 B8.length c1] 28))) := cJoin (some ⟨w1.heap.size, 0, none⟩) 1 [⟨b1, c1, B8⟩] _ hsee2 (fun x hx => (P.see x hx).1) (by simp) (by simp [flatB, hw8'.out])
    rw [← hF1.out] at hj
    have kP := P.kp
    obtain ⟨W2, hW2⟩ : ∃ W2, Hid (w1.alloc (.cells #[.slice b1 B8.length c1] 28) = W2) := ⟨_, rfl⟩
    rw [hW2.out] at hj kP
    have hl1' := hid hl1
    have hca' := hid hca
    rw [hl1, hca]
    clear P P0 hF1 hsee2 hl1 hca
    go_wp2_with fail
    rw [hW2.out]
    clear hc hm hl
    go_loopw [3, 15] (fun v i wn => v = .slice (some ⟨w1.heap.size, 0, none⟩) 1 1 ∧ i = .int .i64 0 ∧ wn = W2) (fun _ _ _ => 0)
    case atStart => exact ⟨rfl, rfl, rfl⟩
    case round =>
      obtain ⟨rfl, rfl, rfl⟩ := hrel
      go_wp2_with fail
      refine hj.mono ?_
      rintro e w3 ⟨b3, c3, rfl, hrow3, k3, hn3⟩
      go_wp2_with fail
      go_ret
      exact ⟨b3, c3, rfl, hrow3, kP.trans k3 (by simp), fun k hk => by have := hn3 k hk; have := kP.size; omega⟩
  · have hw1e : Hid (∀ j, j < l.length - 1 → j + 1 < l.length) := fun j hj => by omega
    go_wp2_with fail
    go_loopw [3, 15] (fun v i wn => ∃ (j : Nat) (pa : Option Addr) (pc : Nat) (ps : List Bs), j ≤ l.length - 1 ∧ i = .int .i64 j ∧ v = .slice pa ps.length pc ∧ PcA w wn pa pc ps ∧ Hid (flatB ps = B8 ++ dlt l j) ∧ Hid (ps.length = j + 1)) (fun _ i _ => l.length - 1 - (intOf i).toNat)
    case atStart => exact ⟨0, _, 1, _, Nat.zero_le _, rfl, rfl, P0.out, by show _ = _; simp [flatB, dlt], rfl⟩
    case round =>
      clear P0
      obtain ⟨j, pa, pc, ps, hj, rfl, rfl, P, hfl, hpl⟩ := hrel
      by_cases hjl : j < l.length - 1
      · have hjl2 : j < l.length := by omega
        obtain ⟨y0, y1, y2, y3⟩ := hat.out wr P.kp (j + 1) (by omega)
        have hdz : Hid (IntKind.i64.wrap ((l.getD (j + 1) nv).n - (l.getD j nv).n) = dz l j) := rfl
        have hst := hid (dlt_succ l j)
        have hzb := dz_bd l j
        obtain ⟨v, hv⟩ : ∃ v, Hid (l.getD (j + 1) nv = v) := ⟨_, rfl⟩
        have hat2 : Hid (∀ W, Kp [] w W → W.cell? ⟨g, o + j * 4 + 2, none⟩ = some (.int .i64 (l.getD j nv).n)) := fun W kW => (hat.out W kW j (by omega)).2.2.1
        obtain ⟨u, hu⟩ : ∃ u, Hid ((l.getD j nv).n = u) := ⟨_, rfl⟩
        rw [hv.out] at y0 y1 y2 y3 hdz
        rw [hu.out] at hat2 hdz
        obtain ⟨D, hD⟩ : ∃ D, Hid (dz l j = D) := ⟨_, rfl⟩
        rw [hD.out] at hdz hzb hst
        obtain ⟨wb, hwb⟩ : ∃ wb, wr.alloc (.cells #[.int .i64 v.k, .bool v.b, .int .i64 v.n, .string v.t] 25) = wb := ⟨_, rfl⟩
        have kb : Kp [] wr wb := by rw [← hwb]; exact (Kp.refl _ _).alloc _
        have bx : Box4 wb wr.heap.size (.int .i64 v.k) (.bool v.b) (.int .i64 v.n) (.string v.t) := by rw [← hwb]; exact Box4.new _ _ _ _ _ _
        have kbd : Kp [] wr wb.drew := kb.drew
        have Pb := P.keep kbd
        have hlt : wr.heap.size < wb.drew.heap.size := bx.lt
        have hDb := wrap64_bd (v.n - u)
        rw [hdz.out] at hDb
        have cF := fun W => cFold D W hDb.1 hDb.2
        have cG := fun W => cGroups (zig D).toNat W (by omega)
        have hzn : ((zig D).toNat : Int) = zig D := by omega
        rw [hzn] at cG
        obtain ⟨G, hG⟩ : ∃ G, Hid (gB (zig D).toNat = G) := ⟨_, rfl⟩
        simp only [hG.out] at cG hst
        have hpl' : ps.length ≤ 200 := by rw [hpl.out]; omega
        have hkw : Kp [] w wb.drew := P.kp.trans kbd (by simp)
        have hS : Hid (∀ A, Kp [] wb.drew A → A.cell? ⟨wr.heap.size, 2, none⟩ = some (.int .i64 v.n) ∧ A.cell? ⟨g, o + j * 4 + 2, none⟩ = some (.int .i64 u)) := fun A kA => ⟨kpAt kA bx.c2, hat2.out A (hkw.trans kA (by simp))⟩
        have hS3 : Hid (∀ A B, Kp [] wb.drew A → Kp (blk pa) A B → B.cell? ⟨wr.heap.size, 2, none⟩ = some (.int .i64 v.n) ∧ B.cell? ⟨g, o + j * 4 + 2, none⟩ = some (.int .i64 u)) := fun A B kA kB => by
          obtain ⟨z0, z1⟩ := hS.out A kA
          have hq : wr.heap.size ∉ blk pa := fun hm => by have := P.row.lt _ (by rw [ownS]; exact hm); omega
          have hgl := World.block_lt_of_cell? _ _ (hat2.out w (Kp.refl _ _))
          have hqg : g ∉ blk pa := fun hm => by have := P.new _ hm; simp at hgl; omega
          exact ⟨(kB.cell (p := ⟨wr.heap.size, 2, none⟩) (World.block_lt_of_cell? _ _ z0) hq).trans z0, (kB.cell (p := ⟨g, o + j * 4 + 2, none⟩) (World.block_lt_of_cell? _ _ z1) hqg).trans z1⟩
        have hnext : Hid (∀ X va vc, Kp [] wb.drew X → Sees X va G → (∀ k ∈ blk va, wb.drew.heap.size ≤ k) →
            ∃ X2, X.alloc (.cells #[.slice va G.length vc] 28) = X2 ∧ Kp [] wb.drew X2 ∧ ∃ v' X3, (Builtin.append_ #[111, 111] 111 #[.slice pa ps.length pc, .slice (some ⟨X.heap.size, 0, none⟩) 1 1]).run Tryz.prog X2 = .ok v' X3 ∧ Kp (blk pa) X2 X3 ∧ ∃ (j' : Nat) (pa' : Option Addr) (pc' : Nat) (ps' : List Bs), j' ≤ l.length - 1 ∧ (.int .i64 ((j : Int) + 1) : Value) = .int .i64 j' ∧ v' = .slice pa' ps'.length pc' ∧ PcA w X3 pa' pc' ps' ∧ Hid (flatB ps' = B8 ++ dlt l j') ∧ Hid (ps'.length = j' + 1)) := fun X va vc kX hsv hvn => by
          have kA : Kp [] X (X.alloc (.cells #[.slice va G.length vc] 28)) := (Kp.refl _ _).alloc _
          have hs2 := (oneBs X rfl ⟨va, vc, G⟩ 28)
          have hPX := (Pb.keep kX)
          have hsr := hs2.src (P := Tryz.prog) Tryz.underlying111 1
          have hbn : ∀ k, wb.drew.heap.size ≤ k → k ∉ blk pa := fun k hk hm => by
            have := Pb.row.lt k (by rw [ownS]; exact hm)
            omega
          obtain ⟨v', X3, hrun, hrow3, kk3, hn3⟩ := run_appendG (E := BsE) (P := Tryz.prog) _ 111 111 111 28 i0 (.slice none 0 0) 24 Tryz.underlying111 hi hz0 hz1 hz2 rfl (.slice pa ps.length pc) ps (hPX.keep kA).row _ [⟨va, vc, G⟩] hsr (by simp; omega) (by simp; omega)
          obtain ⟨a', c', rfl, _⟩ := hrow3.see
          have hn3' : ∀ k ∈ blk a', k ∈ own (.slice pa ps.length pc) ∨ _ ≤ k := fun k hk => hn3 k (by rw [ownS]; exact hk)
          have PP := hPX.app kA (qs := [⟨va, vc, G⟩]) (fun x hx => by
            rw [List.mem_singleton] at hx
            subst hx
            exact ⟨hsv.kept kA (by simp), fun _ k hk => hbn k (hvn k hk)⟩) hrow3 rfl kk3 hn3'
          refine ⟨_, rfl, kX.trans kA (by simp), _, X3, hrun, by rw [ownS] at kk3; exact kk3, j + 1, a', c', _, by omega, by go_num, rfl, PP, ?_, ?_⟩
          · show _ = _
            rw [hst.out, ← List.append_assoc, ← hfl.out]
            simp [flatB]
          · show _ = _
            simp [hpl.out]
        have hwb' := hid hwb
        have e4 : o + 4 + j * 4 = o + (j + 1) * 4 := by omega
        rw [← e4] at y0 y1 y2 y3
        obtain ⟨vk, vb, vn, vt⟩ := v
        dsimp only at *
        have hdzr : IntKind.i64.wrap (vn - u) = D := hdz.out
        clear hwb P Pb kbd bx hst hfl hG hpl hdz hD hu hv hat2 e4
        go_wp2_with fail
        rw [hwb'.out]
        clear y0 y1 y2 y3
        refine wp_region_held_drew (S := (fun A => A.cell? ⟨wr.heap.size, 2, none⟩ = some (.int .i64 vn) ∧ A.cell? ⟨g, o + j * 4 + 2, none⟩ = some (.int .i64 u))) (by kernel_rfl) ?_ (fun hHeld => ?_)
        · exact hS.out _ (Kp.refl _ _)
        generalize wb.drew = wd at *
        refine wpAnyH_take (i := 0) (v := ?_) rfl (by kernel_rfl) (by kernel_rfl) (by kernel_rfl) (fun _ _ _ h => h) (Or.inl ⟨by rfl, ?_⟩) (by assumption) ?_
        rotate_left
        · intro w hSw; (try dsimp only at hSw); go_simp <;> with_reducible rfl
        try simp only [Act.put, List.getElem_toArray, List.getElem_cons_zero, List.getElem_cons_succ, List.setIfInBounds_toArray, List.set_cons_zero, List.set_cons_succ]
        refine wpAnyH_take (i := 1) (v := ?_) rfl (by kernel_rfl) (by kernel_rfl) (by kernel_rfl) (fun _ _ _ h => h) (Or.inl ⟨by rfl, ?_⟩) (by assumption) ?_
        rotate_left
        · intro w hSw; (try dsimp only at hSw); go_simp <;> with_reducible rfl
        try simp only [Act.put, List.getElem_toArray, List.getElem_cons_zero, List.getElem_cons_succ, List.setIfInBounds_toArray, List.set_cons_zero, List.set_cons_succ]
        refine wpAnyH_take (i := 2) (v := ?_) rfl (by kernel_rfl) (by kernel_rfl) (by kernel_rfl) (fun _ _ _ h => h) (Or.inl ⟨by rfl, ?_⟩) (by assumption) ?_
        rotate_left
        · intro w hSw; (try dsimp only at hSw); go_simp <;> with_reducible rfl
        try simp only [Act.put, List.getElem_toArray, List.getElem_cons_zero, List.getElem_cons_succ, List.setIfInBounds_toArray, List.set_cons_zero, List.set_cons_succ]
        refine wpAnyH_take (i := 3) (v := ?_) rfl (by kernel_rfl) (by kernel_rfl) (by kernel_rfl) (fun _ _ _ h => h) (Or.inl ⟨by rfl, ?_⟩) (by assumption) ?_
        rotate_left
        · intro w hSw; (try dsimp only at hSw); go_simp <;> with_reducible rfl
        try simp only [Act.put, List.getElem_toArray, List.getElem_cons_zero, List.getElem_cons_succ, List.setIfInBounds_toArray, List.set_cons_zero, List.set_cons_succ]
        refine wpAnyH_take (i := 4) (v := ?_) rfl (by kernel_rfl) (by kernel_rfl) (by kernel_rfl) (fun _ _ _ h => h) (Or.inl ⟨by rfl, ?_⟩) (by assumption) ?_
        rotate_left
        · intro w hSw; (try dsimp only at hSw); go_simp <;> with_reducible rfl
        try simp only [Act.put, List.getElem_toArray, List.getElem_cons_zero, List.getElem_cons_succ, List.setIfInBounds_toArray, List.set_cons_zero, List.set_cons_succ]
        refine wpAnyH_take (i := 5) (v := ?_) rfl (by kernel_rfl) (by kernel_rfl) (by kernel_rfl) (fun _ _ _ h => h) (Or.inl ⟨by rfl, ?_⟩) (by assumption) ?_
        rotate_left
        · intro w hSw; (try dsimp only at hSw); go_simp <;> with_reducible rfl
        try simp only [Act.put, List.getElem_toArray, List.getElem_cons_zero, List.getElem_cons_succ, List.setIfInBounds_toArray, List.set_cons_zero, List.set_cons_succ]
        refine wpAnyH_take (i := 6) (v := ?_) rfl (by kernel_rfl) (by kernel_rfl) (by kernel_rfl) (fun _ _ _ h => h) (Or.inl ⟨by rfl, ?_⟩) (by assumption) ?_
        rotate_left
        · intro w hSw; (try dsimp only at hSw); go_simp <;> with_reducible rfl
        try simp only [Act.put, List.getElem_toArray, List.getElem_cons_zero, List.getElem_cons_succ, List.setIfInBounds_toArray, List.set_cons_zero, List.set_cons_succ]
        refine wpAnyH_take (i := 7) (v := ?_) rfl (by kernel_rfl) (by kernel_rfl) (by kernel_rfl) (fun _ _ _ h => h) (Or.inl ⟨by rfl, ?_⟩) (by assumption) ?_
        rotate_left
        · intro w hSw; (try dsimp only at hSw); go_simp <;> with_reducible rfl
        try simp only [Act.put, List.getElem_toArray, List.getElem_cons_zero, List.getElem_cons_succ, List.setIfInBounds_toArray, List.set_cons_zero, List.set_cons_succ]
        refine wpAnyH_take (i := 8) (v := ?_) rfl (by kernel_rfl) (by kernel_rfl) (by kernel_rfl) (fun _ _ _ h => h) (Or.inl ⟨by rfl, ?_⟩) (by assumption) ?_
        rotate_left
        · intro w hSw; (try dsimp only at hSw); go_simp <;> with_reducible rfl
        try simp only [Act.put, List.getElem_toArray, List.getElem_cons_zero, List.getElem_cons_succ, List.setIfInBounds_toArray, List.set_cons_zero, List.set_cons_succ]
        refine wpAnyH_ready (rs := [9]) (by kernel_rfl) (by simp) ?_
        refine AllReadyH.cons rfl (fun K hK => ?_) AllReadyH.nil
        go_simp
        refine (cF wd).mono ?_
        rintro e yf ⟨rfl, hyf⟩
        rw [hyf]
        (try go_wp2_with fail)
        refine hK.out _ _ ?_ (fun hHeld => ?_)
        · exact hHeld
        clear hK K
        try simp only [Act.put, List.getElem_toArray, List.getElem_cons_zero, List.getElem_cons_succ, List.setIfInBounds_toArray, List.set_cons_zero, List.set_cons_succ]
        refine wpAnyH_ready (rs := [10]) (by kernel_rfl) (by simp) ?_
        refine AllReadyH.cons rfl (fun K hK => ?_) AllReadyH.nil
        go_simp
        refine (cG wd).mono ?_
        rintro e y2 ⟨va, vc, rfl, hrv, ky2, hvn⟩
        (try go_wp2_with fail)
        refine hK.out _ _ ?_ (fun hHeld => ?_)
        · exact hS.out _ ky2
        clear hK K
        try simp only [Act.put, List.getElem_toArray, List.getElem_cons_zero, List.getElem_cons_succ, List.setIfInBounds_toArray, List.set_cons_zero, List.set_cons_succ]
        obtain ⟨_, _, ee, hsv, _⟩ := hrv.sees
        cases ee
        obtain ⟨X2, hX2, kX2, v3, X3, hrun, kk3, hgo⟩ := hnext.out y2 va vc ky2 hsv hvn
        have hX2' := hid hX2
        clear hX2 hnext
        refine wpAnyH_ready (rs := [11]) (by kernel_rfl) (by simp) ?_
        refine AllReadyH.cons rfl (fun K hK => ?_) AllReadyH.nil
        go_simp
        rw [hX2'.out]
        (try go_wp2_with fail)
        refine hK.out _ _ ?_ (fun hHeld => ?_)
        · exact hS.out _ kX2
        clear hK K
        try simp only [Act.put, List.getElem_toArray, List.getElem_cons_zero, List.getElem_cons_succ, List.setIfInBounds_toArray, List.set_cons_zero, List.set_cons_succ]
        refine wpAnyH_ready (rs := [12]) (by kernel_rfl) (by simp) ?_
        refine AllReadyH.cons rfl (fun K hK => ?_) AllReadyH.nil
        refine stepAppRun rfl _ _ 111 111 rfl _ _ _ rfl rfl hrun ?_
        refine hK.out _ _ ?_ (fun hHeld => ?_)
        · exact hS3.out X2 X3 kX2 kk3
        clear hK K
        try simp only [Act.put, List.getElem_toArray, List.getElem_cons_zero, List.getElem_cons_succ, List.setIfInBounds_toArray, List.set_cons_zero, List.set_cons_succ]
        refine wpAnyH_take (i := 13) (v := ?_) rfl (by kernel_rfl) (by kernel_rfl) (by kernel_rfl) (fun _ _ _ h => h) (Or.inl ⟨by rfl, ?_⟩) (by assumption) ?_
        rotate_left
        · intro w hSw; (try dsimp only at hSw); go_simp <;> with_reducible rfl
        try simp only [Act.put, List.getElem_toArray, List.getElem_cons_zero, List.getElem_cons_succ, List.setIfInBounds_toArray, List.set_cons_zero, List.set_cons_succ]
        refine wpAnyH_done (by kernel_rfl) ?_ _
        go_wp2_with fail
        obtain ⟨j', pa', pc', ps', e1, e2, e3, e4⟩ := hgo
        subst e3
        exact ⟨⟨j', pa', pc', ps', e1, e2, rfl, e4⟩, by simp [intOf]; omega⟩
      · obtain rfl : j = l.length - 1 := by omega
        rw [← hF.out] at hfl
        have hpl' : ps.length ≤ 1000000 := by rw [hpl.out]; omega
        have hb : (flatB ps).length ≤ 100000000000 := by
          rw [hfl.out, hF.out]
          have := dlt_len l (l.length - 1)
          have := hw8'.out
          simp; omega
        have hsee2 : BsE.See wr pa ps := by obtain ⟨_, _, e, hs, _⟩ := P.row.see; injection e with e1 e2 e3; rw [e1]; exact hs
        have hjn := cJoin pa pc ps wr hsee2 (fun x hx => (P.see x hx).1) hpl' hb
        rw [hfl.out] at hjn
        have kP := P.kp
        have hjn2 : ¬ (((l.length - 1 : Nat) : Int) < ((l.length - 1 : Nat) : Int)) := by omega
        clear P hsee2 hb hfl
        go_wp2_with fail
        refine hjn.mono ?_
        rintro e w3 ⟨b3, c3, rfl, hrow3, k3, hn3⟩
        go_wp2_with fail
        go_ret
        exact ⟨b3, c3, rfl, hrow3, kP.trans k3 (by simp), fun k hk => by have := hn3 k hk; have := kP.size; omega⟩
end Go.Proofs.YtafcdckpicoppaaGreatDoor
end

section
namespace Go.Hay
open Go.RowKit
set_option linter.unusedVariables false
set_option linter.unusedSimpArgs false

/-- The lowest bits of a byte, so many of them. -/
def acc (f : Nat → Nat) (q : Nat) : Nat → Nat
  | 0 => 0
  | r + 1 => acc f q r + f (8 * q + r) * 2 ^ r
theorem acc_lt (f : Nat → Nat) (hf : ∀ p, f p < 2) (q : Nat) : ∀ r, acc f q r < 2 ^ r
  | 0 => by simp [acc]
  | r + 1 => by
    have h1 := acc_lt f hf q r
    have h2 := hf (8 * q + r)
    have h3 : f (8 * q + r) * 2 ^ r ≤ 1 * 2 ^ r := Nat.mul_le_mul_right _ (by omega)
    rw [acc, Nat.pow_succ]
    omega
theorem acc_lt8 (f : Nat → Nat) (hf : ∀ p, f p < 2) (q r : Nat) (hr : r ≤ 8) : acc f q r < 256 := Nat.lt_of_lt_of_le (acc_lt f hf q r) (Nat.pow_le_pow_right (n := 2) (by omega) hr)
/-- So many bytes, with the first p bits. -/
def pk (f : Nat → Nat) (sz p : Nat) : List UInt8 := (List.range sz).map fun q => UInt8.ofNat (acc f q (min 8 (p - 8 * q)))
theorem pk_length (f : Nat → Nat) (sz p : Nat) : (pk f sz p).length = sz := by simp [pk]
theorem pk_zero (f : Nat → Nat) (sz : Nat) : pk f sz 0 = List.replicate sz 0 := by
  unfold pk
  rw [List.eq_replicate_iff]
  refine ⟨by simp, fun b hb => ?_⟩
  simp only [List.mem_map, Nat.zero_sub, Nat.min_zero, acc] at hb
  obtain ⟨q, _, rfl⟩ := hb
  rfl
theorem pk_get (f : Nat → Nat) (sz p q : Nat) (hq : q < sz) : (pk f sz p)[q]? = some (UInt8.ofNat (acc f q (min 8 (p - 8 * q)))) := by
  unfold pk
  rw [List.getElem?_map, List.getElem?_range hq]; rfl
theorem pk_succ (f : Nat → Nat) (sz p : Nat) (hp : p / 8 < sz) : pk f sz (p + 1) = (pk f sz p).set (p / 8) (UInt8.ofNat (acc f (p / 8) (p % 8) + f p * 2 ^ (p % 8))) := by
  apply List.ext_getElem?
  intro q
  by_cases hq : q < sz
  · rw [pk_get f sz _ q hq, List.getElem?_set]
    by_cases hqp : p / 8 = q
    · subst hqp
      rw [if_pos rfl, pk_length, if_pos hp]
      have e1 : min 8 (p + 1 - 8 * (p / 8)) = p % 8 + 1 := by omega
      have e2 : 8 * (p / 8) + p % 8 = p := by omega
      rw [e1, acc, e2]
    · rw [if_neg hqp, pk_get f sz _ q hq]
      have e1 : min 8 (p + 1 - 8 * q) = min 8 (p - 8 * q) := by omega
      rw [e1]
  · have h1 : (pk f sz (p + 1))[q]? = none := List.getElem?_eq_none (by rw [pk_length]; omega)
    rw [h1, List.getElem?_eq_none (by rw [List.length_set, pk_length]; omega)]
/-- What lies there ahead of bit p. -/
theorem pk_old (f : Nat → Nat) (sz p : Nat) (hp : p / 8 < sz) : (pk f sz p)[p / 8]? = some (UInt8.ofNat (acc f (p / 8) (p % 8))) := by
  rw [pk_get f sz p _ hp]
  have e1 : min 8 (p - 8 * (p / 8)) = p % 8 := by omega
  rw [e1]
/-- Bit p of numbers of so many bits. -/
def bitOf (l : List Nat) (wd p : Nat) : Nat := l.getD (p / wd) 0 / 2 ^ (p % wd) % 2
theorem bitOf_lt (l : List Nat) (wd : Nat) : ∀ p, bitOf l wd p < 2 := fun p => Nat.mod_lt _ (by omega)
theorem bitOf_at (l : List Nat) (wd i k : Nat) (hk : k < wd) (hi : i < l.length) : bitOf l wd (i * wd + k) = l[i] / 2 ^ k % 2 := by
  unfold bitOf
  have e1 : (i * wd + k) / wd = i := by
    rw [Nat.mul_comm, Nat.mul_add_div (by omega), Nat.div_eq_of_lt hk]; simp
  have e2 : (i * wd + k) % wd = k := by rw [Nat.mul_comm, Nat.mul_add_mod, Nat.mod_eq_of_lt hk]
  rw [e1, e2]
  simp [hi]
def packB (l : List Nat) (wd : Nat) : List UInt8 := pk (bitOf l wd) ((l.length * wd + 7) / 8) (l.length * wd)
theorem packB_length (l : List Nat) (wd : Nat) : (packB l wd).length = (l.length * wd + 7) / 8 := pk_length _ _ _
theorem at_lt {i k wd n : Nat} (hi : i < n) (hk : k < wd) : i * wd + k < n * wd := by
  have : (i + 1) * wd ≤ n * wd := Nat.mul_le_mul_right _ hi
  rw [Nat.succ_mul] at this
  omega
theorem or_sum (a b r : Nat) (h : a < 2 ^ r) : a ||| b * 2 ^ r = a + b * 2 ^ r := by
  have := Nat.two_pow_add_eq_or_of_lt h b
  rw [Nat.mul_comm b, Nat.or_comm, ← this, Nat.add_comm]
end Go.Hay
end

section
namespace Go.Proofs.YtafcdckpicoppaaGreatDoor
open Go.RowKit Go.Hay
set_option linter.unusedVariables false
set_option linter.unusedSimpArgs false

def U64E : El Nat where
  n := 1
  c x := [.int .u64 (x : Int)]
  len _ := rfl
  one _ u hu := by simp at hu; subst hu; rfl
  pos := by decide
theorem or_bit (A x k r : Nat) (hr : r < 8) (hA : A < 2 ^ r) (hx : x < 18446744073709551616) : bits .or .u8 (A : Int) (bits .and .u64 ((x : Int) / 2 ^ k) 1 % 256 * 2 ^ r % 256) = ((UInt8.ofNat (A + x / 2 ^ k % 2 * 2 ^ r)).toNat : Int) := by
  have hA8 : A < 256 := Nat.lt_of_lt_of_le hA (Nat.le_trans (Nat.pow_le_pow_right (n := 2) (by omega) (show r ≤ 8 by omega)) (by decide))
  have e1 : (x : Int) / 2 ^ k = ((x / 2 ^ k : Nat) : Int) := by simp
  have hy : x / 2 ^ k < 18446744073709551616 := Nat.lt_of_le_of_lt (Nat.div_le_self _ _) hx
  rw [e1]
  generalize x / 2 ^ k = y at hy
  have e2 : bits .and .u64 (y : Int) 1 = ((y % 2 : Nat) : Int) := by
    have := u64_and_nat y 1 hy (by omega)
    rw [Nat.and_one_is_mod] at this
    exact this
  rw [e2]
  have hb : y % 2 < 2 := Nat.mod_lt _ (by omega)
  generalize y % 2 = b at hb
  have h2 : 2 ^ r ≤ 128 := Nat.le_trans (Nat.pow_le_pow_right (n := 2) (by omega) (show r ≤ 7 by omega)) (by decide)
  have hm : b * 2 ^ r ≤ 2 ^ r := by
    have : b * 2 ^ r ≤ 1 * 2 ^ r := Nat.mul_le_mul_right _ (by omega)
    omega
  have e3 : (b : Int) % 256 * 2 ^ r % 256 = ((b * 2 ^ r : Nat) : Int) := by
    have : (b : Int) % 256 = b := by omega
    rw [this]
    have h4 : (b : Int) * 2 ^ r = ((b * 2 ^ r : Nat) : Int) := by simp
    rw [h4]
    omega
  rw [e3, u8_or_nat A (b * 2 ^ r) hA8 (by omega), or_sum A b r hA]
  have : (UInt8.ofNat (A + b * 2 ^ r)).toNat = A + b * 2 ^ r := by
    rw [UInt8.toNat_ofNat']
    omega
  rw [this]
theorem cPackedSize (m wd N : Nat) (hN : m * wd = N) (hb : N ≤ 1000000) (w : World) : Calls Tryz.prog 95 #[.int .i64 m, .int .i64 wd] w fun e w' => e = .returned (.int .i64 (((N + 7) / 8 : Nat) : Int)) ∧ w' = w := by
  have e1 : (m : Int) * (wd : Int) = (N : Int) := by rw [← hN]; simp
  clear hN
  go_enter Tryz.func95, Tryz.ntmps95
  go_wp2_with fail
  go_ret
  exact ⟨rfl, rfl⟩
set_option maxHeartbeats 4000000 in
set_option maxRecDepth 100000 in
theorem cPack (a : Option Addr) (ca : Nat) (l : List Nat) (wd : Nat) (w : World) (ha : U64E.See w a l) (hl : l.length ≤ 64) (hb : ∀ x ∈ l, x < 18446744073709551616) (hw : wd ≤ 64) :
    Calls Tryz.prog 83 #[.slice a l.length ca, .int .i64 wd] w (NB (packB l wd) w) := by
  obtain ⟨i0, hi, hz0, hz1, hz2⟩ := infoU'
  obtain ⟨N, hN⟩ : ∃ N, Hid (l.length * wd = N) := ⟨_, rfl⟩
  have hNb : N ≤ 4096 := by rw [← hN.out]; exact Nat.mul_le_mul hl hw
  have hsz := cPackedSize l.length wd N hN.out (by omega) w
  obtain ⟨sz, hsz'⟩ : ∃ sz, Hid ((N + 7) / 8 = sz) := ⟨_, rfl⟩
  rw [hsz'.out] at hsz
  have hszb : sz ≤ 513 := by rw [← hsz'.out]; omega
  have hF : Hid (packB l wd = pk (bitOf l wd) sz N) := by show _ = _; unfold packB; rw [hN.out, hsz'.out]
  obtain ⟨f, hf⟩ : ∃ f, Hid (bitOf l wd = f) := ⟨_, rfl⟩
  have hf2 : Hid (∀ p, f p < 2) := by rw [← hf.out]; exact bitOf_lt l wd
  rw [hf.out] at hF
  rw [hF.out]
  obtain ⟨W1, hmk, hrow1, k1, hs1⟩ := run_makeG (E := BytE) (P := Tryz.prog) w 28 5 i0 (.int .u8 0) 0 1 Tryz.underlying28 hi hz0 hz1 hz2 rfl .i64 .i64 sz (by omega) (by unfold maxLen; omega)
  rw [← pk_zero f sz] at hrow1
  have hb' := hid hb
  have hat : Hid (∀ W, Kp [] w W → ∀ i (hi : i < l.length), ∃ g o, a = some ⟨g, o, none⟩ ∧ W.cell? ⟨g, o + i, none⟩ = some (.int .u64 (l[i] : Int))) := fun W kW i hi => by
    obtain ⟨g, o, e, hc⟩ := (ha.keptNew kW).at (List.getElem?_eq_getElem hi)
    refine ⟨g, o, e, ?_⟩
    have := hc 0 (.int .u64 (l[i] : Int)) rfl
    simpa [U64E] using this
  clear ha hb
  go_enter Tryz.func83, Tryz.ntmps83
  go_wp2_with fail
  refine hsz.mono ?_
  rintro e w9 ⟨rfl, hw9⟩
  rw [hw9]
  clear hw9 w9
  go_wp2_with fail
  go_loopw [17] (fun i wn => ∃ j : Nat, j ≤ l.length ∧ i = .int .i64 j ∧ BytE.Row wn (.slice (some ⟨w.heap.size, 0, none⟩) sz sz) (pk f sz (j * wd)) ∧ Kp [] w wn) (fun i _ => l.length - (intOf i).toNat)
  case atStart => exact ⟨0, Nat.zero_le _, rfl, by rw [Nat.zero_mul]; exact hrow1, k1⟩
  case round =>
    clear hmk hrow1 k1 hs1
    obtain ⟨j, hj, rfl, hrow, kn⟩ := hrel
    by_cases hlt : j < l.length
    · obtain ⟨g, o, rfl, hcx⟩ := hat.out wr kn j hlt
      obtain ⟨x, hx⟩ : ∃ x, Hid (l[j]'hlt = x) := ⟨l[j]'hlt, rfl⟩
      have hxb : x < 18446744073709551616 := by rw [← hx.out]; exact hb'.out _ (List.getElem_mem hlt)
      rw [hx.out] at hcx
      obtain ⟨M, hM⟩ : ∃ M, Hid (j * wd = M) := ⟨_, rfl⟩
      have hMe : (j : Int) * (wd : Int) = (M : Int) := by rw [← hM.out]; simp
      rw [hM.out] at hrow
      have hMN : M + wd ≤ N := by
        have : (j + 1) * wd ≤ l.length * wd := Nat.mul_le_mul_right _ hlt
        rw [hN.out, Nat.succ_mul, hM.out] at this
        exact this
      go_wp2_with fail
      go_loopw [23] (fun i wn => ∃ k : Nat, k ≤ wd ∧ i = .int .i64 k ∧ BytE.Row wn (.slice (some ⟨w.heap.size, 0, none⟩) sz sz) (pk f sz (M + k)) ∧ Kp [] w wn) (fun i _ => wd - (intOf i).toNat)
      case atStart => exact ⟨0, Nat.zero_le _, rfl, hrow, kn⟩
      case round =>
        clear hrow kn
        obtain ⟨k, hk, rfl, hrow, kn⟩ := hrel
        by_cases hkl : k < wd
        · obtain ⟨q, hq⟩ : ∃ q, (M + k) / 8 = q := ⟨_, rfl⟩
          obtain ⟨r, hr⟩ : ∃ r, (M + k) % 8 = r := ⟨_, rfl⟩
          have eq1 : ((M : Int) + (k : Int)) / 8 = (q : Int) := by omega
          have eq2 : ((M : Int) + (k : Int)) % 8 = (r : Int) := by omega
          have hqs : q < sz := by rw [← hsz'.out]; omega
          have hr8 : r < 8 := by omega
          have hold := pk_old f sz (M + k) (by rw [hq]; exact hqs)
          rw [hq, hr] at hold
          have hlt2 := acc_lt f hf2.out q r
          have hlt3 := acc_lt8 f hf2.out q r (by omega)
          have hfp : Hid (f (M + k) = x / 2 ^ k % 2) := by
            show _ = _
            rw [← hf.out, ← hM.out, bitOf_at l wd j k hkl hlt, hx.out]
          have hput := hrow.setAt q (by rw [pk_length]; exact hqs) (UInt8.ofNat (acc f q r + f (M + k) * 2 ^ r))
          have hsu := pk_succ f sz (M + k) (by rw [hq]; exact hqs)
          rw [hq, hr] at hsu
          rw [← hsu] at hput
          obtain ⟨A, hA⟩ : ∃ A, Hid (acc f q r = A) := ⟨_, rfl⟩
          rw [hA.out] at hold hlt2 hlt3 hput
          have hcell : wr.cell? ⟨w.heap.size, q, none⟩ = some (.int .u8 (A : Int)) ∧ wr.frozen? ⟨w.heap.size, q, none⟩ = false := by
            rcases hrow with ⟨e, _⟩ | ⟨g9, o9, c9, e, q1, q2, q3, q4, q5⟩
            · cases e
            · injection e with e1 e2 e3
              injection e1 with e1
              injection e1 with e4 e5
              subst e3 e4 e5
              have h5 := q5 q (by have : BytE.n = 1 := rfl; rw [this]; omega)
              have h4 := q4 q (.int .u8 (A : Int)) (by
                have := El.cs_get BytE hold (k := 0) (by decide)
                have e1 : BytE.n = 1 := rfl
                rw [e1, Nat.mul_one, Nat.add_zero] at this
                rw [this]
                have e2 : (UInt8.ofNat A).toNat = A := by simp; omega
                simp [BytE, e2])
              rw [Nat.zero_add] at h4 h5
              exact ⟨h4, h5.2⟩
          obtain ⟨hc, hfz⟩ := hcell
          have hval := or_bit A x k r hr8 hlt2 hxb
          rw [← hfp.out] at hval
          have eW : Hid (wr.setCells w.heap.size (0 + q * BytE.n) (BytE.c (UInt8.ofNat (A + f (M + k) * 2 ^ r))) = wr.setCell ⟨w.heap.size, q, none⟩ (.int .u8 (bits .or .u8 (A : Int) (bits .and .u64 ((x : Int) / 2 ^ k) 1 % 256 * 2 ^ r % 256)))) := by
            show _ = _
            rw [hval]
            have : BytE.n = 1 := rfl
            rw [this]
            simp [BytE, World.setCells]
          rw [eW.out] at hput
          have kf : Kp [] w (wr.setCell ⟨w.heap.size, q, none⟩ (.int .u8 (bits .or .u8 (A : Int) (bits .and .u64 ((x : Int) / 2 ^ k) 1 % 256 * 2 ^ r % 256)))).drew := (kn.setCell (p := ⟨w.heap.size, q, none⟩) (.inr (by simp)) _).drew
          have hput2 : BytE.Row (wr.setCell ⟨w.heap.size, q, none⟩ (.int .u8 (bits .or .u8 (A : Int) (bits .and .u64 ((x : Int) / 2 ^ k) 1 % 256 * 2 ^ r % 256)))).drew (.slice (some ⟨w.heap.size, 0, none⟩) sz sz) (pk f sz (M + k + 1)) := hput.keptNew (Kp.refl _ _).drew
          clear hold hsu hsz hb' hput eW hval hrow
          go_wp2_with fail
          go_region
          go_wp2_with fail
          exact ⟨⟨k + 1, by omega, by go_num, hput2, kf⟩, by simp [intOf]; omega⟩
        · obtain rfl : k = wd := by omega
          have e3 : Hid (M + k = (j + 1) * k) := by show _ = _; rw [Nat.succ_mul, hM.out]
          rw [e3.out] at hrow
          go_wp2_with fail
          exact ⟨⟨j + 1, by omega, by go_num, hrow, kn⟩, by simp [intOf]; omega⟩
    · obtain rfl : j = l.length := by omega
      rw [hN.out] at hrow
      have hlen := pk_length f sz N
      have hfin : NB (pk f sz N) w (.returned (.slice (some ⟨w.heap.size, 0, none⟩) sz sz)) wr := ⟨_, sz, by rw [hlen], by rw [hlen]; exact rowByt.1 hrow, kn, fun k hk => by simp [blk] at hk; omega⟩
      clear hrow hlen
      go_wp2_with fail
      go_ret
      exact hfin
end Go.Proofs.YtafcdckpicoppaaGreatDoor
end

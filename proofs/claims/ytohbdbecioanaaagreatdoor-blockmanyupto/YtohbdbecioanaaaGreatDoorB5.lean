/- The first int, and the differences, as bytes. Numbers in so many bits each: the bytes. pack. Contracts of the library, laid at this program. The least int, and how much each is above it. What the dictionary asks of the library: Compare with its world, Clone, placeWidth. The writer's calls, each by a contract: what stands in the bytes behind it, and what memory it may have turned. The writer's calls, more: lead, behind, number, Var, Word, Long, Raw, Text, Len, Bytes; bytes.Clone. The writer's calls, the rest: Var, Word, Long, Raw, Text, Len, Bytes; bytes.Clone. -/
import Derived.Test.YtohbdbecioanaaaGreatDoorB4
import Derived.Shelf.Small.Bits
import Derived.Shelf.Strconv.Itoa0
import Derived.Test.YtohbdbecioanaaaGreatDoorProg
import Derived.Test.YtohbdbecioanaaaGreatDoorB3
import Derived.Sort.Grow
import Derived.Laws.Cover3
import Derived.Test.YtohbdbecioanaaaGreatDoorRows
import Derived.Test.YtohbdbecioanaaaGreatDoorB1
import Derived.Lib.SliceRun
section
namespace Go.Proofs.YtohbdbecioanaaaGreatDoor
open Go.RowKit Go.Hay
set_option linter.unusedVariables false
set_option linter.unusedSimpArgs false

def nv : Val := ⟨0, false, 0, ⟨#[]⟩⟩
/-- The difference of number k + 1 to the one ahead of it. -/
def dz (l : List Val) (k : Nat) : Int := IntKind.i64.wrap ((l.getD (k + 1) nv).n - (l.getD k nv).n)
def dlt (l : List Val) (j : Nat) : List UInt8 := (List.range j).flatMap fun k => gB (zig (dz l k)).toNat
def deltaB (l : List Val) : List UInt8 := be (u64 (l.getD 0 nv).n) 8 ++ dlt l (l.length - 1)
theorem wrap64_bd (n : Int) : -9223372036854775808 ≤ IntKind.i64.wrap n ∧ IntKind.i64.wrap n < 9223372036854775808 := by rw [IntKind.wrap_i64]; omega
theorem dz_bd (l : List Val) (k : Nat) : 0 ≤ zig (dz l k) ∧ zig (dz l k) < 18446744073709551616 := zig_bd (wrap64_bd _).1 (wrap64_bd _).2
theorem dlt_succ (l : List Val) (j : Nat) : dlt l (j + 1) = dlt l j ++ gB (zig (dz l j)).toNat := by unfold dlt; rw [List.range_succ, List.flatMap_append]; simp
theorem dlt_len (l : List Val) : ∀ j, (dlt l j).length ≤ 10 * j
  | 0 => by simp [dlt]
  | j + 1 => by
    rw [dlt_succ]
    have h1 := dlt_len l j
    have h2 := gB_len64 (zig (dz l j)).toNat (by have := dz_bd l j; omega)
    simp; omega
theorem oneBs (w : World) {q : Nat} (hq : w.heap.size = q) (x : Bs) (t : TypeId) : BsE.See (w.alloc (.cells #[.slice x.a x.bs.length x.c] t)) (some ⟨q, 0, none⟩) [x] := by
  subst hq
  refine .inr ⟨_, 0, rfl, fun j u hu => ?_⟩
  have e : (w.alloc (.cells #[.slice x.a x.bs.length x.c] t)).cell? ⟨w.heap.size, 0 + j, none⟩ = _ := World.cell?_alloc_new w _ _ (0 + j)
  rw [e, Nat.zero_add]
  simpa [El.cs, BsE] using hu
/-- One piece in a block of its own: a row that may grow. -/
theorem rowBs (w : World) {q : Nat} (hq : w.heap.size = q) (x : Bs) (t : TypeId) : BsE.Row (w.alloc (.cells #[.slice x.a x.bs.length x.c] t)) (.slice (some ⟨q, 0, none⟩) 1 1) [x] := by
  have hs := oneBs w hq x t
  subst hq
  refine .inr ⟨w.heap.size, 0, 1, rfl, by simp, by unfold maxLen; omega, by simp, ?_, fun j hj => ?_⟩
  · rcases hs with h | ⟨g, o, e, hc⟩
    · cases h
    · cases e; exact hc
  · have e1 : BsE.n = 1 := rfl
    rw [e1] at hj
    obtain rfl : j = 0 := by omega
    refine ⟨?_, World.frozen?_alloc_new w _ _ (0 + 0)⟩
    have e : (w.alloc (.cells #[.slice x.a x.bs.length x.c] t)).cell? ⟨w.heap.size, 0 + 0, none⟩ = _ := World.cell?_alloc_new w _ _ (0 + 0)
    rw [e]; rfl
set_option maxHeartbeats 16000000 in
set_option maxRecDepth 100000 in
theorem cPutDelta (a : Option Addr) (ca : Nat) (l : List Val) (w : World) (ha : Vals w a l) (hc : l.length ≤ ca) (hm : ca ≤ maxLen) (h0 : 0 < l.length) (hl : l.length ≤ 64) :
    Calls Tryz.prog 65 #[.slice a l.length ca] w (NB (deltaB l) w) := by
  obtain ⟨g, o, rfl, a0, a1, a2, a3⟩ := ha.at 0 h0
  have e0 : l.getD 0 nv = l[0] := by simp [h0]
  have cW := cWordBytes (l[0].n) w
  have hw8 : (be (u64 l[0].n) 8).length = 8 := be_length _ _
  obtain ⟨B8, hB8⟩ : ∃ B8, Hid (be (u64 (l[0]'h0).n) 8 = B8) := ⟨be (u64 (l[0]'h0).n) 8, rfl⟩
  rw [hB8.out] at cW hw8
  have hF : Hid (deltaB l = B8 ++ dlt l (l.length - 1)) := by show _ = _; unfold deltaB; rw [e0, hB8.out]
  obtain ⟨F, hFF⟩ : ∃ F, Hid (deltaB l = F) := ⟨_, rfl⟩
  rw [hFF.out] at hF ⊢
  have hat : Hid (∀ W, Kp [] w W → ∀ j, j < l.length → W.cell? ⟨g, o + j * 4, none⟩ = some (.int .i64 (l.getD j nv).k) ∧ W.cell? ⟨g, o + j * 4 + 1, none⟩ = some (.bool (l.getD j nv).b) ∧ W.cell? ⟨g, o + j * 4 + 2, none⟩ = some (.int .i64 (l.getD j nv).n) ∧ W.cell? ⟨g, o + j * 4 + 3, none⟩ = some (.string (l.getD j nv).t)) := fun W kW j hj => by
    obtain ⟨_, _, e, y0, y1, y2, y3⟩ := (ha.kept kW).at j hj
    cases e
    have e1 : l.getD j nv = l[j] := by simp [hj]
    rw [e1]
    exact ⟨y0, y1, y2, y3⟩
  obtain ⟨i0, hi, hz0, hz1, hz2⟩ := infoS'
  obtain ⟨n0, hn0⟩ : ∃ n0, Hid ((l[0]'h0).n = n0) := ⟨(l[0]'h0).n, rfl⟩
  rw [hn0.out] at cW a2
  unfold maxLen at hm
  rw [Nat.zero_mul, Nat.add_zero] at a2
  have hw8' := hid hw8
  clear a0 a1 a3 e0 hw8
  -- what is behind the first piece
  have hrest : Hid (∀ w1 b1 c1, Kp [] w w1 → Row w1 (.slice b1 B8.length c1) B8 → (∀ k ∈ blk b1, w.heap.size ≤ k) → PcA w (w1.alloc (.cells #[.slice b1 B8.length c1] 22)) (some ⟨w1.heap.size, 0, none⟩) 1 [⟨b1, c1, B8⟩]) := fun w1 b1 c1 k1 hr1 hn1 => by
    obtain ⟨_, _, ee, hs1, _⟩ := hr1.sees
    cases ee
    have kA : Kp [] w1 (w1.alloc (.cells #[.slice b1 B8.length c1] 22)) := (Kp.refl _ _).alloc _
    refine ⟨rowBs w1 rfl ⟨b1, c1, B8⟩ _, fun x hx => ?_, k1.trans kA (by simp), fun k hk => by simp [blk] at hk; have := k1.size; omega⟩
    rw [List.mem_singleton] at hx
    subst hx
    exact ⟨hs1.kept kA (by simp), fun hne k hk hm => by simp [blk] at hm; have := hs1.lt hne k hk; omega⟩
  go_enter Tryz.func65, Tryz.ntmps65
  go_wp2_with fail
  refine cW.mono ?_
  rintro e w1 ⟨b1, c1, rfl, hr1, k1, hn1⟩
  have P0 := hid (hrest.out w1 b1 c1 k1 hr1 hn1)
  clear hrest hr1 a2 cW
  by_cases hca : ca = 1
  · obtain hl1 : l.length = 1 := by omega
    have hF1 : Hid (F = flatB [⟨b1, c1, B8⟩]) := by show _ = _; rw [hF.out, hl1]; simp [dlt, flatB]
    have P := P0.out
    have hsee2 : BsE.See (w1.alloc (.cells #[.slice b1 B8.length c1] 22)) (some ⟨w1.heap.size, 0, none⟩) [⟨b1, c1, B8⟩] := oneBs w1 rfl ⟨b1, c1, B8⟩ _
    have hj : Calls Tryz.prog 100 #[.slice (some ⟨w1.heap.size, 0, none⟩) 1 1] (w1.alloc (.cells #[.slice b1 B8.length c1] 22)) (NB (flatB [⟨b1, c1, B8⟩]) (w1.alloc (.cells #[.slice b1 B8.length c1] 22))) := cJoin (some ⟨w1.heap.size, 0, none⟩) 1 [⟨b1, c1, B8⟩] _ hsee2 (fun x hx => (P.see x hx).1) (by simp) (by simp [flatB, hw8'.out])
    rw [← hF1.out] at hj
    have kP := P.kp
    obtain ⟨W2, hW2⟩ : ∃ W2, Hid (w1.alloc (.cells #[.slice b1 B8.length c1] 22) = W2) := ⟨_, rfl⟩
    rw [hW2.out] at hj kP
    have hl1' := hid hl1
    have hca' := hid hca
    rw [hl1, hca]
    clear P P0 hF1 hsee2 hl1 hca
    go_wp2_with fail
    rw [hW2.out]
    clear hc hm hl
    go_loopw [3, 15] (fun v i wn => v = .slice (some ⟨w1.heap.size, 0, none⟩) 1 1 ∧ i = .int .i64 0 ∧ wn = W2) (fun _ _ _ => 0)
    case atStart => exact ⟨rfl, rfl, rfl⟩
    case round =>
      obtain ⟨rfl, rfl, rfl⟩ := hrel
      go_wp2_with fail
      refine hj.mono ?_
      rintro e w3 ⟨b3, c3, rfl, hrow3, k3, hn3⟩
      go_wp2_with fail
      go_ret
      exact ⟨b3, c3, rfl, hrow3, kP.trans k3 (by simp), fun k hk => by have := hn3 k hk; have := kP.size; omega⟩
  · have hw1e : Hid (∀ j, j < l.length - 1 → j + 1 < l.length) := fun j hj => by omega
    go_wp2_with fail
    go_loopw [3, 15] (fun v i wn => ∃ (j : Nat) (pa : Option Addr) (pc : Nat) (ps : List Bs), j ≤ l.length - 1 ∧ i = .int .i64 j ∧ v = .slice pa ps.length pc ∧ PcA w wn pa pc ps ∧ Hid (flatB ps = B8 ++ dlt l j) ∧ Hid (ps.length = j + 1)) (fun _ i _ => l.length - 1 - (intOf i).toNat)
    case atStart => exact ⟨0, _, 1, _, Nat.zero_le _, rfl, rfl, P0.out, by show _ = _; simp [flatB, dlt], rfl⟩
    case round =>
      clear P0
      obtain ⟨j, pa, pc, ps, hj, rfl, rfl, P, hfl, hpl⟩ := hrel
      by_cases hjl : j < l.length - 1
      · have hjl2 : j < l.length := by omega
        obtain ⟨y0, y1, y2, y3⟩ := hat.out wr P.kp (j + 1) (by omega)
        have hdz : Hid (IntKind.i64.wrap ((l.getD (j + 1) nv).n - (l.getD j nv).n) = dz l j) := rfl
        have hst := hid (dlt_succ l j)
        have hzb := dz_bd l j
        obtain ⟨v, hv⟩ : ∃ v, Hid (l.getD (j + 1) nv = v) := ⟨_, rfl⟩
        have hat2 : Hid (∀ W, Kp [] w W → W.cell? ⟨g, o + j * 4 + 2, none⟩ = some (.int .i64 (l.getD j nv).n)) := fun W kW => (hat.out W kW j (by omega)).2.2.1
        obtain ⟨u, hu⟩ : ∃ u, Hid ((l.getD j nv).n = u) := ⟨_, rfl⟩
        rw [hv.out] at y0 y1 y2 y3 hdz
        rw [hu.out] at hat2 hdz
        obtain ⟨D, hD⟩ : ∃ D, Hid (dz l j = D) := ⟨_, rfl⟩
        rw [hD.out] at hdz hzb hst
        obtain ⟨wb, hwb⟩ : ∃ wb, wr.alloc (.cells #[.int .i64 v.k, .bool v.b, .int .i64 v.n, .string v.t] 30) = wb := ⟨_, rfl⟩
        have kb : Kp [] wr wb := by rw [← hwb]; exact (Kp.refl _ _).alloc _
        have bx : Box4 wb wr.heap.size (.int .i64 v.k) (.bool v.b) (.int .i64 v.n) (.string v.t) := by rw [← hwb]; exact Box4.new _ _ _ _ _ _
        have kbd : Kp [] wr wb.drew := kb.drew
        have Pb := P.keep kbd
        have hlt : wr.heap.size < wb.drew.heap.size := bx.lt
        have hDb := wrap64_bd (v.n - u)
        rw [hdz.out] at hDb
        have cF := fun W => cFold D W hDb.1 hDb.2
        have cG := fun W => cGroups (zig D).toNat W (by omega)
        have hzn : ((zig D).toNat : Int) = zig D := by omega
        rw [hzn] at cG
        obtain ⟨G, hG⟩ : ∃ G, Hid (gB (zig D).toNat = G) := ⟨_, rfl⟩
        simp only [hG.out] at cG hst
        have hpl' : ps.length ≤ 200 := by rw [hpl.out]; omega
        have hkw : Kp [] w wb.drew := P.kp.trans kbd (by simp)
        have hS : Hid (∀ A, Kp [] wb.drew A → A.cell? ⟨wr.heap.size, 2, none⟩ = some (.int .i64 v.n) ∧ A.cell? ⟨g, o + j * 4 + 2, none⟩ = some (.int .i64 u)) := fun A kA => ⟨kpAt kA bx.c2, hat2.out A (hkw.trans kA (by simp))⟩
        have hS3 : Hid (∀ A B, Kp [] wb.drew A → Kp (blk pa) A B → B.cell? ⟨wr.heap.size, 2, none⟩ = some (.int .i64 v.n) ∧ B.cell? ⟨g, o + j * 4 + 2, none⟩ = some (.int .i64 u)) := fun A B kA kB => by
          obtain ⟨z0, z1⟩ := hS.out A kA
          have hq : wr.heap.size ∉ blk pa := fun hm => by have := P.row.lt _ (by rw [ownS]; exact hm); omega
          have hgl := World.block_lt_of_cell? _ _ (hat2.out w (Kp.refl _ _))
          have hqg : g ∉ blk pa := fun hm => by have := P.new _ hm; simp at hgl; omega
          exact ⟨(kB.cell (p := ⟨wr.heap.size, 2, none⟩) (World.block_lt_of_cell? _ _ z0) hq).trans z0, (kB.cell (p := ⟨g, o + j * 4 + 2, none⟩) (World.block_lt_of_cell? _ _ z1) hqg).trans z1⟩
        have hnext : Hid (∀ X va vc, Kp [] wb.drew X → Sees X va G → (∀ k ∈ blk va, wb.drew.heap.size ≤ k) →
            ∃ X2, X.alloc (.cells #[.slice va G.length vc] 22) = X2 ∧ Kp [] wb.drew X2 ∧ ∃ v' X3, (Builtin.append_ #[126, 126] 126 #[.slice pa ps.length pc, .slice (some ⟨X.heap.size, 0, none⟩) 1 1]).run Tryz.prog X2 = .ok v' X3 ∧ Kp (blk pa) X2 X3 ∧ ∃ (j' : Nat) (pa' : Option Addr) (pc' : Nat) (ps' : List Bs), j' ≤ l.length - 1 ∧ (.int .i64 ((j : Int) + 1) : Value) = .int .i64 j' ∧ v' = .slice pa' ps'.length pc' ∧ PcA w X3 pa' pc' ps' ∧ Hid (flatB ps' = B8 ++ dlt l j') ∧ Hid (ps'.length = j' + 1)) := fun X va vc kX hsv hvn => by
          have kA : Kp [] X (X.alloc (.cells #[.slice va G.length vc] 22)) := (Kp.refl _ _).alloc _
          have hs2 := (oneBs X rfl ⟨va, vc, G⟩ 22)
          have hPX := (Pb.keep kX)
          have hsr := hs2.src (P := Tryz.prog) Tryz.underlying126 1
          have hbn : ∀ k, wb.drew.heap.size ≤ k → k ∉ blk pa := fun k hk hm => by
            have := Pb.row.lt k (by rw [ownS]; exact hm)
            omega
          obtain ⟨v', X3, hrun, hrow3, kk3, hn3⟩ := run_appendG (E := BsE) (P := Tryz.prog) _ 126 126 126 22 i0 (.slice none 0 0) 24 Tryz.underlying126 hi hz0 hz1 hz2 rfl (.slice pa ps.length pc) ps (hPX.keep kA).row _ [⟨va, vc, G⟩] hsr (by simp; omega) (by simp; omega)
          obtain ⟨a', c', rfl, _⟩ := hrow3.see
          have hn3' : ∀ k ∈ blk a', k ∈ own (.slice pa ps.length pc) ∨ _ ≤ k := fun k hk => hn3 k (by rw [ownS]; exact hk)
          have PP := hPX.app kA (qs := [⟨va, vc, G⟩]) (fun x hx => by
            rw [List.mem_singleton] at hx
            subst hx
            exact ⟨hsv.kept kA (by simp), fun _ k hk => hbn k (hvn k hk)⟩) hrow3 rfl kk3 hn3'
          refine ⟨_, rfl, kX.trans kA (by simp), _, X3, hrun, by rw [ownS] at kk3; exact kk3, j + 1, a', c', _, by omega, by go_num, rfl, PP, ?_, ?_⟩
          · show _ = _
            rw [hst.out, ← List.append_assoc, ← hfl.out]
            simp [flatB]
          · show _ = _
            simp [hpl.out]
        have hwb' := hid hwb
        have e4 : o + 4 + j * 4 = o + (j + 1) * 4 := by omega
        rw [← e4] at y0 y1 y2 y3
        obtain ⟨vk, vb, vn, vt⟩ := v
        dsimp only at *
        have hdzr : IntKind.i64.wrap (vn - u) = D := hdz.out
        clear hwb P Pb kbd bx hst hfl hG hpl hdz hD hu hv hat2 e4
        go_wp2_with fail
        rw [hwb'.out]
        clear y0 y1 y2 y3
        refine wp_region_held_drew (S := (fun A => A.cell? ⟨wr.heap.size, 2, none⟩ = some (.int .i64 vn) ∧ A.cell? ⟨g, o + j * 4 + 2, none⟩ = some (.int .i64 u))) (by kernel_rfl) ?_ (fun hHeld => ?_)
        · exact hS.out _ (Kp.refl _ _)
        generalize wb.drew = wd at *
        refine wpAnyH_take (i := 0) (v := ?_) rfl (by kernel_rfl) (by kernel_rfl) (by kernel_rfl) (fun _ _ _ h => h) (Or.inl ⟨by rfl, ?_⟩) (by assumption) ?_
        rotate_left
        · intro w hSw; (try dsimp only at hSw); go_simp <;> with_reducible rfl
        try simp only [Act.put, List.getElem_toArray, List.getElem_cons_zero, List.getElem_cons_succ, List.setIfInBounds_toArray, List.set_cons_zero, List.set_cons_succ]
        refine wpAnyH_take (i := 1) (v := ?_) rfl (by kernel_rfl) (by kernel_rfl) (by kernel_rfl) (fun _ _ _ h => h) (Or.inl ⟨by rfl, ?_⟩) (by assumption) ?_
        rotate_left
        · intro w hSw; (try dsimp only at hSw); go_simp <;> with_reducible rfl
        try simp only [Act.put, List.getElem_toArray, List.getElem_cons_zero, List.getElem_cons_succ, List.setIfInBounds_toArray, List.set_cons_zero, List.set_cons_succ]
        refine wpAnyH_take (i := 2) (v := ?_) rfl (by kernel_rfl) (by kernel_rfl) (by kernel_rfl) (fun _ _ _ h => h) (Or.inl ⟨by rfl, ?_⟩) (by assumption) ?_
        rotate_left
        · intro w hSw; (try dsimp only at hSw); go_simp <;> with_reducible rfl
        try simp only [Act.put, List.getElem_toArray, List.getElem_cons_zero, List.getElem_cons_succ, List.setIfInBounds_toArray, List.set_cons_zero, List.set_cons_succ]
        refine wpAnyH_take (i := 3) (v := ?_) rfl (by kernel_rfl) (by kernel_rfl) (by kernel_rfl) (fun _ _ _ h => h) (Or.inl ⟨by rfl, ?_⟩) (by assumption) ?_
        rotate_left
        · intro w hSw; (try dsimp only at hSw); go_simp <;> with_reducible rfl
        try simp only [Act.put, List.getElem_toArray, List.getElem_cons_zero, List.getElem_cons_succ, List.setIfInBounds_toArray, List.set_cons_zero, List.set_cons_succ]
        refine wpAnyH_take (i := 4) (v := ?_) rfl (by kernel_rfl) (by kernel_rfl) (by kernel_rfl) (fun _ _ _ h => h) (Or.inl ⟨by rfl, ?_⟩) (by assumption) ?_
        rotate_left
        · intro w hSw; (try dsimp only at hSw); go_simp <;> with_reducible rfl
        try simp only [Act.put, List.getElem_toArray, List.getElem_cons_zero, List.getElem_cons_succ, List.setIfInBounds_toArray, List.set_cons_zero, List.set_cons_succ]
        refine wpAnyH_take (i := 5) (v := ?_) rfl (by kernel_rfl) (by kernel_rfl) (by kernel_rfl) (fun _ _ _ h => h) (Or.inl ⟨by rfl, ?_⟩) (by assumption) ?_
        rotate_left
        · intro w hSw; (try dsimp only at hSw); go_simp <;> with_reducible rfl
        try simp only [Act.put, List.getElem_toArray, List.getElem_cons_zero, List.getElem_cons_succ, List.setIfInBounds_toArray, List.set_cons_zero, List.set_cons_succ]
        refine wpAnyH_take (i := 6) (v := ?_) rfl (by kernel_rfl) (by kernel_rfl) (by kernel_rfl) (fun _ _ _ h => h) (Or.inl ⟨by rfl, ?_⟩) (by assumption) ?_
        rotate_left
        · intro w hSw; (try dsimp only at hSw); go_simp <;> with_reducible rfl
        try simp only [Act.put, List.getElem_toArray, List.getElem_cons_zero, List.getElem_cons_succ, List.setIfInBounds_toArray, List.set_cons_zero, List.set_cons_succ]
        refine wpAnyH_take (i := 7) (v := ?_) rfl (by kernel_rfl) (by kernel_rfl) (by kernel_rfl) (fun _ _ _ h => h) (Or.inl ⟨by rfl, ?_⟩) (by assumption) ?_
        rotate_left
        · intro w hSw; (try dsimp only at hSw); go_simp <;> with_reducible rfl
        try simp only [Act.put, List.getElem_toArray, List.getElem_cons_zero, List.getElem_cons_succ, List.setIfInBounds_toArray, List.set_cons_zero, List.set_cons_succ]
        refine wpAnyH_take (i := 8) (v := ?_) rfl (by kernel_rfl) (by kernel_rfl) (by kernel_rfl) (fun _ _ _ h => h) (Or.inl ⟨by rfl, ?_⟩) (by assumption) ?_
        rotate_left
        · intro w hSw; (try dsimp only at hSw); go_simp <;> with_reducible rfl
        try simp only [Act.put, List.getElem_toArray, List.getElem_cons_zero, List.getElem_cons_succ, List.setIfInBounds_toArray, List.set_cons_zero, List.set_cons_succ]
        refine wpAnyH_ready (rs := [9]) (by kernel_rfl) (by simp) ?_
        refine AllReadyH.cons rfl (fun K hK => ?_) AllReadyH.nil
        go_simp
        refine (cF wd).mono ?_
        rintro e yf ⟨rfl, hyf⟩
        rw [hyf]
        (try go_wp2_with fail)
        refine hK.out _ _ ?_ (fun hHeld => ?_)
        · exact hHeld
        clear hK K
        try simp only [Act.put, List.getElem_toArray, List.getElem_cons_zero, List.getElem_cons_succ, List.setIfInBounds_toArray, List.set_cons_zero, List.set_cons_succ]
        refine wpAnyH_ready (rs := [10]) (by kernel_rfl) (by simp) ?_
        refine AllReadyH.cons rfl (fun K hK => ?_) AllReadyH.nil
        go_simp
        refine (cG wd).mono ?_
        rintro e y2 ⟨va, vc, rfl, hrv, ky2, hvn⟩
        (try go_wp2_with fail)
        refine hK.out _ _ ?_ (fun hHeld => ?_)
        · exact hS.out _ ky2
        clear hK K
        try simp only [Act.put, List.getElem_toArray, List.getElem_cons_zero, List.getElem_cons_succ, List.setIfInBounds_toArray, List.set_cons_zero, List.set_cons_succ]
        obtain ⟨_, _, ee, hsv, _⟩ := hrv.sees
        cases ee
        obtain ⟨X2, hX2, kX2, v3, X3, hrun, kk3, hgo⟩ := hnext.out y2 va vc ky2 hsv hvn
        have hX2' := hid hX2
        clear hX2 hnext
        refine wpAnyH_ready (rs := [11]) (by kernel_rfl) (by simp) ?_
        refine AllReadyH.cons rfl (fun K hK => ?_) AllReadyH.nil
        go_simp
        rw [hX2'.out]
        (try go_wp2_with fail)
        refine hK.out _ _ ?_ (fun hHeld => ?_)
        · exact hS.out _ kX2
        clear hK K
        try simp only [Act.put, List.getElem_toArray, List.getElem_cons_zero, List.getElem_cons_succ, List.setIfInBounds_toArray, List.set_cons_zero, List.set_cons_succ]
        refine wpAnyH_ready (rs := [12]) (by kernel_rfl) (by simp) ?_
        refine AllReadyH.cons rfl (fun K hK => ?_) AllReadyH.nil
        refine stepAppRun rfl _ _ 126 126 rfl _ _ _ rfl rfl hrun ?_
        refine hK.out _ _ ?_ (fun hHeld => ?_)
        · exact hS3.out X2 X3 kX2 kk3
        clear hK K
        try simp only [Act.put, List.getElem_toArray, List.getElem_cons_zero, List.getElem_cons_succ, List.setIfInBounds_toArray, List.set_cons_zero, List.set_cons_succ]
        refine wpAnyH_take (i := 13) (v := ?_) rfl (by kernel_rfl) (by kernel_rfl) (by kernel_rfl) (fun _ _ _ h => h) (Or.inl ⟨by rfl, ?_⟩) (by assumption) ?_
        rotate_left
        · intro w hSw; (try dsimp only at hSw); go_simp <;> with_reducible rfl
        try simp only [Act.put, List.getElem_toArray, List.getElem_cons_zero, List.getElem_cons_succ, List.setIfInBounds_toArray, List.set_cons_zero, List.set_cons_succ]
        refine wpAnyH_done (by kernel_rfl) ?_ _
        go_wp2_with fail
        obtain ⟨j', pa', pc', ps', e1, e2, e3, e4⟩ := hgo
        subst e3
        exact ⟨⟨j', pa', pc', ps', e1, e2, rfl, e4⟩, by simp [intOf]; omega⟩
      · obtain rfl : j = l.length - 1 := by omega
        rw [← hF.out] at hfl
        have hpl' : ps.length ≤ 1000000 := by rw [hpl.out]; omega
        have hb : (flatB ps).length ≤ 100000000000 := by
          rw [hfl.out, hF.out]
          have := dlt_len l (l.length - 1)
          have := hw8'.out
          simp; omega
        have hsee2 : BsE.See wr pa ps := by obtain ⟨_, _, e, hs, _⟩ := P.row.see; injection e with e1 e2 e3; rw [e1]; exact hs
        have hjn := cJoin pa pc ps wr hsee2 (fun x hx => (P.see x hx).1) hpl' hb
        rw [hfl.out] at hjn
        have kP := P.kp
        have hjn2 : ¬ (((l.length - 1 : Nat) : Int) < ((l.length - 1 : Nat) : Int)) := by omega
        clear P hsee2 hb hfl
        go_wp2_with fail
        refine hjn.mono ?_
        rintro e w3 ⟨b3, c3, rfl, hrow3, k3, hn3⟩
        go_wp2_with fail
        go_ret
        exact ⟨b3, c3, rfl, hrow3, kP.trans k3 (by simp), fun k hk => by have := hn3 k hk; have := kP.size; omega⟩
end Go.Proofs.YtohbdbecioanaaaGreatDoor
end

section
namespace Go.Hay
open Go.RowKit
set_option linter.unusedVariables false
set_option linter.unusedSimpArgs false

/-- The lowest bits of a byte, so many of them. -/
def acc (f : Nat → Nat) (q : Nat) : Nat → Nat
  | 0 => 0
  | r + 1 => acc f q r + f (8 * q + r) * 2 ^ r
theorem acc_lt (f : Nat → Nat) (hf : ∀ p, f p < 2) (q : Nat) : ∀ r, acc f q r < 2 ^ r
  | 0 => by simp [acc]
  | r + 1 => by
    have h1 := acc_lt f hf q r
    have h2 := hf (8 * q + r)
    have h3 : f (8 * q + r) * 2 ^ r ≤ 1 * 2 ^ r := Nat.mul_le_mul_right _ (by omega)
    rw [acc, Nat.pow_succ]
    omega
theorem acc_lt8 (f : Nat → Nat) (hf : ∀ p, f p < 2) (q r : Nat) (hr : r ≤ 8) : acc f q r < 256 := Nat.lt_of_lt_of_le (acc_lt f hf q r) (Nat.pow_le_pow_right (n := 2) (by omega) hr)
/-- So many bytes, with the first p bits. -/
def pk (f : Nat → Nat) (sz p : Nat) : List UInt8 := (List.range sz).map fun q => UInt8.ofNat (acc f q (min 8 (p - 8 * q)))
theorem pk_length (f : Nat → Nat) (sz p : Nat) : (pk f sz p).length = sz := by simp [pk]
theorem pk_zero (f : Nat → Nat) (sz : Nat) : pk f sz 0 = List.replicate sz 0 := by
  unfold pk
  rw [List.eq_replicate_iff]
  refine ⟨by simp, fun b hb => ?_⟩
  simp only [List.mem_map, Nat.zero_sub, Nat.min_zero, acc] at hb
  obtain ⟨q, _, rfl⟩ := hb
  rfl
theorem pk_get (f : Nat → Nat) (sz p q : Nat) (hq : q < sz) : (pk f sz p)[q]? = some (UInt8.ofNat (acc f q (min 8 (p - 8 * q)))) := by
  unfold pk
  rw [List.getElem?_map, List.getElem?_range hq]; rfl
theorem pk_succ (f : Nat → Nat) (sz p : Nat) (hp : p / 8 < sz) : pk f sz (p + 1) = (pk f sz p).set (p / 8) (UInt8.ofNat (acc f (p / 8) (p % 8) + f p * 2 ^ (p % 8))) := by
  apply List.ext_getElem?
  intro q
  by_cases hq : q < sz
  · rw [pk_get f sz _ q hq, List.getElem?_set]
    by_cases hqp : p / 8 = q
    · subst hqp
      rw [if_pos rfl, pk_length, if_pos hp]
      have e1 : min 8 (p + 1 - 8 * (p / 8)) = p % 8 + 1 := by omega
      have e2 : 8 * (p / 8) + p % 8 = p := by omega
      rw [e1, acc, e2]
    · rw [if_neg hqp, pk_get f sz _ q hq]
      have e1 : min 8 (p + 1 - 8 * q) = min 8 (p - 8 * q) := by omega
      rw [e1]
  · have h1 : (pk f sz (p + 1))[q]? = none := List.getElem?_eq_none (by rw [pk_length]; omega)
    rw [h1, List.getElem?_eq_none (by rw [List.length_set, pk_length]; omega)]
/-- What lies there ahead of bit p. -/
theorem pk_old (f : Nat → Nat) (sz p : Nat) (hp : p / 8 < sz) : (pk f sz p)[p / 8]? = some (UInt8.ofNat (acc f (p / 8) (p % 8))) := by
  rw [pk_get f sz p _ hp]
  have e1 : min 8 (p - 8 * (p / 8)) = p % 8 := by omega
  rw [e1]
/-- Bit p of numbers of so many bits. -/
def bitOf (l : List Nat) (wd p : Nat) : Nat := l.getD (p / wd) 0 / 2 ^ (p % wd) % 2
theorem bitOf_lt (l : List Nat) (wd : Nat) : ∀ p, bitOf l wd p < 2 := fun p => Nat.mod_lt _ (by omega)
theorem bitOf_at (l : List Nat) (wd i k : Nat) (hk : k < wd) (hi : i < l.length) : bitOf l wd (i * wd + k) = l[i] / 2 ^ k % 2 := by
  unfold bitOf
  have e1 : (i * wd + k) / wd = i := by
    rw [Nat.mul_comm, Nat.mul_add_div (by omega), Nat.div_eq_of_lt hk]; simp
  have e2 : (i * wd + k) % wd = k := by rw [Nat.mul_comm, Nat.mul_add_mod, Nat.mod_eq_of_lt hk]
  rw [e1, e2]
  simp [hi]
def packB (l : List Nat) (wd : Nat) : List UInt8 := pk (bitOf l wd) ((l.length * wd + 7) / 8) (l.length * wd)
theorem packB_length (l : List Nat) (wd : Nat) : (packB l wd).length = (l.length * wd + 7) / 8 := pk_length _ _ _
theorem at_lt {i k wd n : Nat} (hi : i < n) (hk : k < wd) : i * wd + k < n * wd := by
  have : (i + 1) * wd ≤ n * wd := Nat.mul_le_mul_right _ hi
  rw [Nat.succ_mul] at this
  omega
theorem or_sum (a b r : Nat) (h : a < 2 ^ r) : a ||| b * 2 ^ r = a + b * 2 ^ r := by
  have := Nat.two_pow_add_eq_or_of_lt h b
  rw [Nat.mul_comm b, Nat.or_comm, ← this, Nat.add_comm]
end Go.Hay
end

section
namespace Go.Proofs.YtohbdbecioanaaaGreatDoor
open Go.RowKit Go.Hay
set_option linter.unusedVariables false
set_option linter.unusedSimpArgs false

def U64E : El Nat where
  n := 1
  c x := [.int .u64 (x : Int)]
  len _ := rfl
  one _ u hu := by simp at hu; subst hu; rfl
  pos := by decide
theorem or_bit (A x k r : Nat) (hr : r < 8) (hA : A < 2 ^ r) (hx : x < 18446744073709551616) : bits .or .u8 (A : Int) (bits .and .u64 ((x : Int) / 2 ^ k) 1 % 256 * 2 ^ r % 256) = ((UInt8.ofNat (A + x / 2 ^ k % 2 * 2 ^ r)).toNat : Int) := by
  have hA8 : A < 256 := Nat.lt_of_lt_of_le hA (Nat.le_trans (Nat.pow_le_pow_right (n := 2) (by omega) (show r ≤ 8 by omega)) (by decide))
  have e1 : (x : Int) / 2 ^ k = ((x / 2 ^ k : Nat) : Int) := by simp
  have hy : x / 2 ^ k < 18446744073709551616 := Nat.lt_of_le_of_lt (Nat.div_le_self _ _) hx
  rw [e1]
  generalize x / 2 ^ k = y at hy
  have e2 : bits .and .u64 (y : Int) 1 = ((y % 2 : Nat) : Int) := by
    have := u64_and_nat y 1 hy (by omega)
    rw [Nat.and_one_is_mod] at this
    exact this
  rw [e2]
  have hb : y % 2 < 2 := Nat.mod_lt _ (by omega)
  generalize y % 2 = b at hb
  have h2 : 2 ^ r ≤ 128 := Nat.le_trans (Nat.pow_le_pow_right (n := 2) (by omega) (show r ≤ 7 by omega)) (by decide)
  have hm : b * 2 ^ r ≤ 2 ^ r := by
    have : b * 2 ^ r ≤ 1 * 2 ^ r := Nat.mul_le_mul_right _ (by omega)
    omega
  have e3 : (b : Int) % 256 * 2 ^ r % 256 = ((b * 2 ^ r : Nat) : Int) := by
    have : (b : Int) % 256 = b := by omega
    rw [this]
    have h4 : (b : Int) * 2 ^ r = ((b * 2 ^ r : Nat) : Int) := by simp
    rw [h4]
    omega
  rw [e3, u8_or_nat A (b * 2 ^ r) hA8 (by omega), or_sum A b r hA]
  have : (UInt8.ofNat (A + b * 2 ^ r)).toNat = A + b * 2 ^ r := by
    rw [UInt8.toNat_ofNat']
    omega
  rw [this]
theorem cPackedSize (m wd N : Nat) (hN : m * wd = N) (hb : N ≤ 1000000) (w : World) : Calls Tryz.prog 130 #[.int .i64 m, .int .i64 wd] w fun e w' => e = .returned (.int .i64 (((N + 7) / 8 : Nat) : Int)) ∧ w' = w := by
  have e1 : (m : Int) * (wd : Int) = (N : Int) := by rw [← hN]; simp
  clear hN
  go_enter Tryz.func130, Tryz.ntmps130
  go_wp2_with fail
  go_ret
  exact ⟨rfl, rfl⟩
set_option maxHeartbeats 4000000 in
set_option maxRecDepth 100000 in
theorem cPack (a : Option Addr) (ca : Nat) (l : List Nat) (wd : Nat) (w : World) (ha : U64E.See w a l) (hl : l.length ≤ 64) (hb : ∀ x ∈ l, x < 18446744073709551616) (hw : wd ≤ 64) :
    Calls Tryz.prog 108 #[.slice a l.length ca, .int .i64 wd] w (NB (packB l wd) w) := by
  obtain ⟨i0, hi, hz0, hz1, hz2⟩ := infoU'
  obtain ⟨N, hN⟩ : ∃ N, Hid (l.length * wd = N) := ⟨_, rfl⟩
  have hNb : N ≤ 4096 := by rw [← hN.out]; exact Nat.mul_le_mul hl hw
  have hsz := cPackedSize l.length wd N hN.out (by omega) w
  obtain ⟨sz, hsz'⟩ : ∃ sz, Hid ((N + 7) / 8 = sz) := ⟨_, rfl⟩
  rw [hsz'.out] at hsz
  have hszb : sz ≤ 513 := by rw [← hsz'.out]; omega
  have hF : Hid (packB l wd = pk (bitOf l wd) sz N) := by show _ = _; unfold packB; rw [hN.out, hsz'.out]
  obtain ⟨f, hf⟩ : ∃ f, Hid (bitOf l wd = f) := ⟨_, rfl⟩
  have hf2 : Hid (∀ p, f p < 2) := by rw [← hf.out]; exact bitOf_lt l wd
  rw [hf.out] at hF
  rw [hF.out]
  obtain ⟨W1, hmk, hrow1, k1, hs1⟩ := run_makeG (E := BytE) (P := Tryz.prog) w 22 5 i0 (.int .u8 0) 0 1 Tryz.underlying22 hi hz0 hz1 hz2 rfl .i64 .i64 sz (by omega) (by unfold maxLen; omega)
  rw [← pk_zero f sz] at hrow1
  have hb' := hid hb
  have hat : Hid (∀ W, Kp [] w W → ∀ i (hi : i < l.length), ∃ g o, a = some ⟨g, o, none⟩ ∧ W.cell? ⟨g, o + i, none⟩ = some (.int .u64 (l[i] : Int))) := fun W kW i hi => by
    obtain ⟨g, o, e, hc⟩ := (ha.keptNew kW).at (List.getElem?_eq_getElem hi)
    refine ⟨g, o, e, ?_⟩
    have := hc 0 (.int .u64 (l[i] : Int)) rfl
    simpa [U64E] using this
  clear ha hb
  go_enter Tryz.func108, Tryz.ntmps108
  go_wp2_with fail
  refine hsz.mono ?_
  rintro e w9 ⟨rfl, hw9⟩
  rw [hw9]
  clear hw9 w9
  go_wp2_with fail
  go_loopw [17] (fun i wn => ∃ j : Nat, j ≤ l.length ∧ i = .int .i64 j ∧ BytE.Row wn (.slice (some ⟨w.heap.size, 0, none⟩) sz sz) (pk f sz (j * wd)) ∧ Kp [] w wn) (fun i _ => l.length - (intOf i).toNat)
  case atStart => exact ⟨0, Nat.zero_le _, rfl, by rw [Nat.zero_mul]; exact hrow1, k1⟩
  case round =>
    clear hmk hrow1 k1 hs1
    obtain ⟨j, hj, rfl, hrow, kn⟩ := hrel
    by_cases hlt : j < l.length
    · obtain ⟨g, o, rfl, hcx⟩ := hat.out wr kn j hlt
      obtain ⟨x, hx⟩ : ∃ x, Hid (l[j]'hlt = x) := ⟨l[j]'hlt, rfl⟩
      have hxb : x < 18446744073709551616 := by rw [← hx.out]; exact hb'.out _ (List.getElem_mem hlt)
      rw [hx.out] at hcx
      obtain ⟨M, hM⟩ : ∃ M, Hid (j * wd = M) := ⟨_, rfl⟩
      have hMe : (j : Int) * (wd : Int) = (M : Int) := by rw [← hM.out]; simp
      rw [hM.out] at hrow
      have hMN : M + wd ≤ N := by
        have : (j + 1) * wd ≤ l.length * wd := Nat.mul_le_mul_right _ hlt
        rw [hN.out, Nat.succ_mul, hM.out] at this
        exact this
      go_wp2_with fail
      go_loopw [23] (fun i wn => ∃ k : Nat, k ≤ wd ∧ i = .int .i64 k ∧ BytE.Row wn (.slice (some ⟨w.heap.size, 0, none⟩) sz sz) (pk f sz (M + k)) ∧ Kp [] w wn) (fun i _ => wd - (intOf i).toNat)
      case atStart => exact ⟨0, Nat.zero_le _, rfl, hrow, kn⟩
      case round =>
        clear hrow kn
        obtain ⟨k, hk, rfl, hrow, kn⟩ := hrel
        by_cases hkl : k < wd
        · obtain ⟨q, hq⟩ : ∃ q, (M + k) / 8 = q := ⟨_, rfl⟩
          obtain ⟨r, hr⟩ : ∃ r, (M + k) % 8 = r := ⟨_, rfl⟩
          have eq1 : ((M : Int) + (k : Int)) / 8 = (q : Int) := by omega
          have eq2 : ((M : Int) + (k : Int)) % 8 = (r : Int) := by omega
          have hqs : q < sz := by rw [← hsz'.out]; omega
          have hr8 : r < 8 := by omega
          have hold := pk_old f sz (M + k) (by rw [hq]; exact hqs)
          rw [hq, hr] at hold
          have hlt2 := acc_lt f hf2.out q r
          have hlt3 := acc_lt8 f hf2.out q r (by omega)
          have hfp : Hid (f (M + k) = x / 2 ^ k % 2) := by
            show _ = _
            rw [← hf.out, ← hM.out, bitOf_at l wd j k hkl hlt, hx.out]
          have hput := hrow.setAt q (by rw [pk_length]; exact hqs) (UInt8.ofNat (acc f q r + f (M + k) * 2 ^ r))
          have hsu := pk_succ f sz (M + k) (by rw [hq]; exact hqs)
          rw [hq, hr] at hsu
          rw [← hsu] at hput
          obtain ⟨A, hA⟩ : ∃ A, Hid (acc f q r = A) := ⟨_, rfl⟩
          rw [hA.out] at hold hlt2 hlt3 hput
          have hcell : wr.cell? ⟨w.heap.size, q, none⟩ = some (.int .u8 (A : Int)) ∧ wr.frozen? ⟨w.heap.size, q, none⟩ = false := by
            rcases hrow with ⟨e, _⟩ | ⟨g9, o9, c9, e, q1, q2, q3, q4, q5⟩
            · cases e
            · injection e with e1 e2 e3
              injection e1 with e1
              injection e1 with e4 e5
              subst e3 e4 e5
              have h5 := q5 q (by have : BytE.n = 1 := rfl; rw [this]; omega)
              have h4 := q4 q (.int .u8 (A : Int)) (by
                have := El.cs_get BytE hold (k := 0) (by decide)
                have e1 : BytE.n = 1 := rfl
                rw [e1, Nat.mul_one, Nat.add_zero] at this
                rw [this]
                have e2 : (UInt8.ofNat A).toNat = A := by simp; omega
                simp [BytE, e2])
              rw [Nat.zero_add] at h4 h5
              exact ⟨h4, h5.2⟩
          obtain ⟨hc, hfz⟩ := hcell
          have hval := or_bit A x k r hr8 hlt2 hxb
          rw [← hfp.out] at hval
          have eW : Hid (wr.setCells w.heap.size (0 + q * BytE.n) (BytE.c (UInt8.ofNat (A + f (M + k) * 2 ^ r))) = wr.setCell ⟨w.heap.size, q, none⟩ (.int .u8 (bits .or .u8 (A : Int) (bits .and .u64 ((x : Int) / 2 ^ k) 1 % 256 * 2 ^ r % 256)))) := by
            show _ = _
            rw [hval]
            have : BytE.n = 1 := rfl
            rw [this]
            simp [BytE, World.setCells]
          rw [eW.out] at hput
          have kf : Kp [] w (wr.setCell ⟨w.heap.size, q, none⟩ (.int .u8 (bits .or .u8 (A : Int) (bits .and .u64 ((x : Int) / 2 ^ k) 1 % 256 * 2 ^ r % 256)))).drew := (kn.setCell (p := ⟨w.heap.size, q, none⟩) (.inr (by simp)) _).drew
          have hput2 : BytE.Row (wr.setCell ⟨w.heap.size, q, none⟩ (.int .u8 (bits .or .u8 (A : Int) (bits .and .u64 ((x : Int) / 2 ^ k) 1 % 256 * 2 ^ r % 256)))).drew (.slice (some ⟨w.heap.size, 0, none⟩) sz sz) (pk f sz (M + k + 1)) := hput.keptNew (Kp.refl _ _).drew
          clear hold hsu hsz hb' hput eW hval hrow
          go_wp2_with fail
          go_region
          go_wp2_with fail
          exact ⟨⟨k + 1, by omega, by go_num, hput2, kf⟩, by simp [intOf]; omega⟩
        · obtain rfl : k = wd := by omega
          have e3 : Hid (M + k = (j + 1) * k) := by show _ = _; rw [Nat.succ_mul, hM.out]
          rw [e3.out] at hrow
          go_wp2_with fail
          exact ⟨⟨j + 1, by omega, by go_num, hrow, kn⟩, by simp [intOf]; omega⟩
    · obtain rfl : j = l.length := by omega
      rw [hN.out] at hrow
      have hlen := pk_length f sz N
      have hfin : NB (pk f sz N) w (.returned (.slice (some ⟨w.heap.size, 0, none⟩) sz sz)) wr := ⟨_, sz, by rw [hlen], by rw [hlen]; exact rowByt.1 hrow, kn, fun k hk => by simp [blk] at hk; omega⟩
      clear hrow hlen
      go_wp2_with fail
      go_ret
      exact hfin
end Go.Proofs.YtohbdbecioanaaaGreatDoor
end

section
namespace Go.Proofs
open Go.Shelf
def Tryz.lays125_ren : Go.Shelf.Ren := ⟨fun | 125 => 129 | 128 => 144 | 129 => 110 | n => n, fun | 46 => 80 | 3 => 3 | 51 => 56 | 53 => 62 | 4 => 4 | 5 => 5 | 9 => 9 | n => n, fun | n => n⟩
theorem Tryz.lays125 : Go.Proofs.Lays.n125 Tryz.prog Tryz.lays125_ren := {
  mixed := by kernel_rfl
  f125 := Tryz.func129.trans (congrArg some (by kernel_rfl))
  f128 := Tryz.func144.trans (congrArg some (by kernel_rfl))
  f129 := Tryz.func110.trans (congrArg some (by kernel_rfl))
  t3 := Tryz.underlying3
  a3 := Tryz.isAgg3
  z3 := Tryz.sizeOf3
  v3 := Tryz.zeroValue3
  t4 := Tryz.underlying4
  a4 := Tryz.isAgg4
  z4 := Tryz.sizeOf4
  v4 := Tryz.zeroValue4
  t5 := Tryz.underlying5
  a5 := Tryz.isAgg5
  z5 := Tryz.sizeOf5
  v5 := Tryz.zeroValue5
  t9 := Tryz.underlying9
  a9 := Tryz.isAgg9
  z9 := Tryz.sizeOf9
  v9 := Tryz.zeroValue9
  t46 := Tryz.underlying80
  a46 := Tryz.isAgg80
  z46 := Tryz.sizeOf80
  v46 := Tryz.zeroValue80
  t51 := Tryz.underlying56
  a51 := Tryz.isAgg56
  z51 := Tryz.sizeOf56
  v51 := Tryz.zeroValue56
  t53 := Tryz.underlying62
  a53 := Tryz.isAgg62
  z53 := Tryz.sizeOf62
  v53 := Tryz.zeroValue62 }
theorem Tryz.bits_Len (x : Int) (w : World) (h0 : 0 ≤ x) (h1 : x ≤ 18446744073709551615) :
    Calls Tryz.prog 129 #[.int .u64 x] w fun e w' => e = .returned (.int .i64 (Lib.bitLen x.toNat)) ∧ w' = w := Any.bits_Len Tryz.lays125 x w h0 h1
def Tryz.lays129_ren : Go.Shelf.Ren := ⟨fun | 129 => 110 | n => n, fun | 53 => 62 | 3 => 3 | 4 => 4 | 46 => 80 | 5 => 5 | 9 => 9 | n => n, fun | n => n⟩
theorem Tryz.lays129 : Go.Proofs.Lays.n129 Tryz.prog Tryz.lays129_ren := {
  mixed := by kernel_rfl
  f129 := Tryz.func110.trans (congrArg some (by kernel_rfl))
  t3 := Tryz.underlying3
  a3 := Tryz.isAgg3
  z3 := Tryz.sizeOf3
  v3 := Tryz.zeroValue3
  t4 := Tryz.underlying4
  a4 := Tryz.isAgg4
  z4 := Tryz.sizeOf4
  v4 := Tryz.zeroValue4
  t5 := Tryz.underlying5
  a5 := Tryz.isAgg5
  z5 := Tryz.sizeOf5
  v5 := Tryz.zeroValue5
  t9 := Tryz.underlying9
  a9 := Tryz.isAgg9
  z9 := Tryz.sizeOf9
  v9 := Tryz.zeroValue9
  t46 := Tryz.underlying80
  a46 := Tryz.isAgg80
  z46 := Tryz.sizeOf80
  v46 := Tryz.zeroValue80
  t53 := Tryz.underlying62
  a53 := Tryz.isAgg62
  z53 := Tryz.sizeOf62
  v53 := Tryz.zeroValue62 }
theorem Tryz.bits_Len64 (x : Int) (w : World) (h0 : 0 ≤ x) (h1 : x ≤ 18446744073709551615) :
    Calls Tryz.prog 110 #[.int .u64 x] w fun e w' => e = .returned (.int .i64 (Lib.bitLen x.toNat)) ∧ w' = w := Any.bits_Len64 Tryz.lays129 x w h0 h1
end Go.Proofs
end

section
namespace Go.Proofs.YtohbdbecioanaaaGreatDoor
open Go.RowKit Go.Hay
set_option linter.unusedVariables false
set_option linter.unusedSimpArgs false

theorem infoU64 : ∃ i : TypeInfo, Tryz.prog.info? 62 = some i ∧ i.zero = some (.int .u64 0) ∧ i.size = 1 ∧ i.bytes = 8 := info3 (by kernel_rfl)
def leastTo (l : List Val) : Nat → Int
  | 0 => (l.getD 0 nv).n
  | j + 1 => min (leastTo l j) (l.getD j nv).n
def abv (l : List Val) (m : Int) (k : Nat) : Nat := (((l.getD k nv).n - m) % 18446744073709551616).toNat
def abvs (l : List Val) (m : Int) (j : Nat) : List Nat := (List.range j).map (abv l m)
def wdt (l : List Val) (m : Int) : Nat → Nat
  | 0 => 0
  | j + 1 => max (wdt l m j) (Lib.bitLen (abv l m j))
def bitsB (l : List Val) : List UInt8 := be (u64 (leastTo l l.length)) 8 ++ [octet (wdt l (leastTo l l.length) l.length)] ++ packB (abvs l (leastTo l l.length) l.length) (wdt l (leastTo l l.length) l.length)
theorem abv_lt (l : List Val) (m : Int) (k : Nat) : abv l m k < 18446744073709551616 := by unfold abv; omega
theorem abvs_length (l : List Val) (m : Int) (j : Nat) : (abvs l m j).length = j := by simp [abvs]
theorem abvs_succ (l : List Val) (m : Int) (j : Nat) : abvs l m (j + 1) = abvs l m j ++ [abv l m j] := by simp [abvs, List.range_succ]
theorem abvs_lt (l : List Val) (m : Int) (j : Nat) : ∀ x ∈ abvs l m j, x < 18446744073709551616 := fun x hx => by
  simp only [abvs, List.mem_map] at hx
  obtain ⟨k, _, rfl⟩ := hx
  exact abv_lt l m k
theorem bitLenAux_le : ∀ (f x : Nat), Lib.bitLenAux f x ≤ f
  | 0, x => by simp [Lib.bitLenAux]
  | f + 1, x => by
    have := bitLenAux_le f (x / 2)
    unfold Lib.bitLenAux
    split <;> omega
theorem bitLen_le64 (x : Nat) : Lib.bitLen x ≤ 64 := bitLenAux_le 64 x
theorem wdt_le (l : List Val) (m : Int) : ∀ j, wdt l m j ≤ 64
  | 0 => by simp [wdt]
  | j + 1 => by
    rw [wdt]
    have h1 := wdt_le l m j
    have h2 := bitLen_le64 (abv l m j)
    omega
theorem threeBs (w : World) {q : Nat} (hq : w.heap.size = q) (x y z : Bs) (t : TypeId) : BsE.See (w.alloc (.cells #[.slice x.a x.bs.length x.c, .slice y.a y.bs.length y.c, .slice z.a z.bs.length z.c] t)) (some ⟨q, 0, none⟩) [x, y, z] := by
  subst hq
  refine .inr ⟨_, 0, rfl, fun j u hu => ?_⟩
  have e : (w.alloc (.cells #[.slice x.a x.bs.length x.c, .slice y.a y.bs.length y.c, .slice z.a z.bs.length z.c] t)).cell? ⟨w.heap.size, 0 + j, none⟩ = _ := World.cell?_alloc_new w _ _ (0 + j)
  rw [e, Nat.zero_add]
  simpa [El.cs, BsE] using hu
set_option maxHeartbeats 4000000 in
set_option maxRecDepth 100000 in
theorem cPutBits (a : Option Addr) (ca : Nat) (l : List Val) (w : World) (ha : Vals w a l) (hc : l.length ≤ ca) (hm : ca ≤ maxLen) (h0 : 0 < l.length) (hl : l.length ≤ 64) :
    Calls Tryz.prog 67 #[.slice a l.length ca] w (NB (bitsB l) w) := by
  obtain ⟨g, o, rfl, a0, a1, a2, a3⟩ := ha.at 0 h0
  have e0 : l.getD 0 nv = l[0] := by simp [h0]
  rw [← e0, Nat.zero_mul, Nat.add_zero] at a2
  have hL0 : (l.getD 0 nv).n = leastTo l 0 := rfl
  rw [hL0] at a2
  clear hL0 e0 a0 a1 a3
  have hat : Hid (∀ W, Kp [] w W → ∀ j, j < l.length → W.cell? ⟨g, o + j * 4, none⟩ = some (.int .i64 (l.getD j nv).k) ∧ W.cell? ⟨g, o + j * 4 + 1, none⟩ = some (.bool (l.getD j nv).b) ∧ W.cell? ⟨g, o + j * 4 + 2, none⟩ = some (.int .i64 (l.getD j nv).n) ∧ W.cell? ⟨g, o + j * 4 + 3, none⟩ = some (.string (l.getD j nv).t)) := fun W kW j hj => by
    obtain ⟨_, _, e, y0, y1, y2, y3⟩ := (ha.kept kW).at j hj
    cases e
    have e1 : l.getD j nv = l[j] := by simp [hj]
    rw [e1]
    exact ⟨y0, y1, y2, y3⟩
  obtain ⟨F, hF⟩ : ∃ F, Hid (bitsB l = F) := ⟨_, rfl⟩
  rw [hF.out]
  obtain ⟨m0, hm0⟩ : ∃ m0, Hid (leastTo l 0 = m0) := ⟨_, rfl⟩
  rw [hm0.out] at a2
  clear ha
  go_enter Tryz.func67, Tryz.ntmps67
  go_wp2_with fail
  go_loopw [3, 16] (fun s i wn => ∃ j : Nat, j ≤ l.length ∧ i = .int .i64 j ∧ s = .int .i64 (leastTo l j) ∧ Kp [] w wn) (fun _ i _ => l.length - (intOf i).toNat)
  case atStart => exact ⟨0, Nat.zero_le _, rfl, by rw [hm0.out], Kp.refl _ _⟩
  case round =>
    clear a2
    obtain ⟨j, hj, rfl, rfl, kn⟩ := hrel
    by_cases hlt : j < l.length
    · obtain ⟨y0, y1, y2, y3⟩ := hat.out wr kn j hlt
      have hsu : Hid (leastTo l (j + 1) = min (leastTo l j) (l.getD j nv).n) := rfl
      obtain ⟨c, hc'⟩ : ∃ c, Hid (leastTo l j = c) := ⟨_, rfl⟩
      rw [hc'.out] at hsu ⊢
      obtain ⟨⟨vk, vb, vn, vt⟩, hv⟩ : ∃ v, Hid (l.getD j nv = v) := ⟨_, rfl⟩
      rw [hv.out] at y0 y1 y2 y3 hsu
      dsimp only at y0 y1 y2 y3 hsu
      have kA : Kp [] w (wr.alloc (.cells #[.int .i64 vk, .bool vb, .int .i64 vn, .string vt] 30)) := kn.alloc _
      go_wp2_with fail
      exact ⟨⟨j + 1, by omega, by go_num, by rw [hsu.out], kA⟩, by simp [intOf]; omega⟩
    · obtain rfl : j = l.length := by omega
      have hFe : Hid (F = be (u64 (leastTo l l.length)) 8 ++ [octet (wdt l (leastTo l l.length) l.length)] ++ packB (abvs l (leastTo l l.length) l.length) (wdt l (leastTo l l.length) l.length)) := by show _ = _; rw [← hF.out]; rfl
      obtain ⟨m, hmm⟩ : ∃ m, Hid (leastTo l l.length = m) := ⟨_, rfl⟩
      rw [hmm.out] at hFe ⊢
      clear hF hm0
      obtain ⟨i0, hi, hz0, hz1, hz2⟩ := infoU64
      obtain ⟨W1, hmk, hrow1, k1, hs1⟩ := run_makeG (E := U64E) (P := Tryz.prog) wr 136 62 i0 (.int .u64 0) 0 8 Tryz.underlying136 hi hz0 hz1 hz2 rfl .i64 .i64 l.length (by omega) (by unfold maxLen; omega)
      obtain ⟨q, hq⟩ : ∃ q, Hid (wr.heap.size = q) := ⟨_, rfl⟩
      rw [hq.out] at hmk hrow1
      have hqw : w.heap.size ≤ q := by rw [← hq.out]; exact kn.size
      have R1 : Hid (U64E.Row W1 (.slice (some ⟨q, 0, none⟩) l.length l.length) (abvs l m 0 ++ List.replicate (l.length - 0) 0) ∧ Kp [] w W1) := ⟨by simpa [abvs] using hrow1, kn.trans k1 (by simp)⟩
      clear hrow1 k1 hs1 kn
      go_wp2_with fail
      go_loopw [7, 30] (fun s i wn => ∃ j : Nat, j ≤ l.length ∧ i = .int .i64 j ∧ s = .int .i64 (wdt l m j) ∧ U64E.Row wn (.slice (some ⟨q, 0, none⟩) l.length l.length) (abvs l m j ++ List.replicate (l.length - j) 0) ∧ Kp [] w wn) (fun _ i _ => l.length - (intOf i).toNat)
      case atStart => exact ⟨0, Nat.zero_le _, rfl, rfl, R1.out.1, R1.out.2⟩
      case round =>
        clear hmk R1
        obtain ⟨j, hj, rfl, rfl, hrow, kn⟩ := hrel
        by_cases hlt : j < l.length
        · obtain ⟨y0, y1, y2, y3⟩ := hat.out wr kn j hlt
          have hw1 : Hid (wdt l m (j + 1) = max (wdt l m j) (Lib.bitLen (abv l m j))) := rfl
          have hA : Hid (abv l m j = (((l.getD j nv).n - m) % 18446744073709551616).toNat) := rfl
          have hAb := abv_lt l m j
          have hab := abvs_succ l m j
          have hal := abvs_length l m j
          obtain ⟨A, hAA⟩ : ∃ A, Hid (abv l m j = A) := ⟨_, rfl⟩
          rw [hAA.out] at hw1 hA hAb hab
          have hal' : (abvs l m j ++ List.replicate (l.length - j) 0).length = l.length := by simp [hal]; omega
          obtain ⟨⟨vk, vb, vn, vt⟩, hv⟩ : ∃ v, Hid (l.getD j nv = v) := ⟨_, rfl⟩
          rw [hv.out] at y0 y1 y2 y3 hA
          dsimp only at y0 y1 y2 y3 hA
          obtain ⟨wb, hwb⟩ : ∃ wb, wr.alloc (.cells #[.int .i64 vk, .bool vb, .int .i64 vn, .string vt] 30) = wb := ⟨_, rfl⟩
          have kb : Kp [] wr wb := by rw [← hwb]; exact (Kp.refl _ _).alloc _
          have bx : Box4 wb wr.heap.size (.int .i64 vk) (.bool vb) (.int .i64 vn) (.string vt) := by rw [← hwb]; exact Box4.new _ _ _ _ _ _
          have b2 := bx.c2
          have hrowb := hrow.keptNew kb
          have hput := hrowb.setAt j (by rw [hal']; exact hlt) A
          have e1 : (abvs l m j ++ List.replicate (l.length - j) 0).set j A = abvs l m (j + 1) ++ List.replicate (l.length - (j + 1)) 0 := by
            have := set_app (abvs l m j) 0 A (l.length - (j + 1))
            rw [hal, show l.length - (j + 1) + 1 = l.length - j by omega] at this
            rw [this, hab]
          rw [e1] at hput
          have hcf : (∃ u, wb.cell? ⟨q, j, none⟩ = some u) ∧ wb.frozen? ⟨q, j, none⟩ = false := by
            rcases hrowb with ⟨e, _⟩ | ⟨g9, o9, c9, e, q1, q2, q3, q4, q5⟩
            · cases e
            · injection e with e1 e2 e3
              injection e1 with e1
              injection e1 with e4 e5
              subst e3 e4 e5
              have h5 := q5 j (by have : U64E.n = 1 := rfl; rw [this]; omega)
              rw [Nat.zero_add] at h5
              exact ⟨Option.isSome_iff_exists.1 h5.1, h5.2⟩
          obtain ⟨⟨u, hu⟩, hfz⟩ := hcf
          have kf : Kp [] w (wb.setCell ⟨q, j, none⟩ (.int .u64 (A : Int))) := (kn.trans kb (by simp)).setCell (p := ⟨q, j, none⟩) (.inr (by simpa using hqw)) _
          have eW : Hid (wb.setCells q (0 + j * U64E.n) (U64E.c A) = wb.setCell ⟨q, j, none⟩ (.int .u64 (A : Int))) := by
            show _ = _
            have : U64E.n = 1 := rfl
            rw [this]
            simp [U64E, World.setCells]
          rw [eW.out] at hput
          have hl64 := fun W => Tryz.bits_Len64 (A : Int) W (by omega) (by omega)
          rw [Int.toNat_natCast] at hl64
          have hval : IntKind.u64.wrap (IntKind.u64.wrap vn - IntKind.u64.wrap m) = (A : Int) := by
            rw [IntKind.wrap_u64, IntKind.wrap_u64, IntKind.wrap_u64, hA.out]; omega
          obtain ⟨W0, hW0⟩ : ∃ W0, Hid (wdt l m j = W0) := ⟨_, rfl⟩
          obtain ⟨B0, hB0⟩ : ∃ B0, Hid (Lib.bitLen A = B0) := ⟨_, rfl⟩
          rw [hW0.out, hB0.out] at hw1
          simp only [hB0.out] at hl64
          rw [hW0.out]
          clear hrow hrowb bx kb eW e1 hal' hal hab hA
          go_wp2_with fail
          refine (hl64 _).mono ?_
          rintro e w9 ⟨rfl, hw9⟩
          rw [hw9]
          clear hw9 w9
          go_wp2_with fail
          exact ⟨⟨j + 1, by omega, by go_num, by rw [hw1.out]; go_num, hput, kf⟩, by simp [intOf]; omega⟩
        · obtain rfl : j = l.length := by omega
          have hwb := wdt_le l m l.length
          rw [Nat.sub_self, List.replicate_zero, List.append_nil] at hrow
          have hal := abvs_length l m l.length
          have halt := hid (abvs_lt l m l.length)
          obtain ⟨ab, hab⟩ : ∃ ab, Hid (abvs l m l.length = ab) := ⟨_, rfl⟩
          obtain ⟨wd, hwd⟩ : ∃ wd, Hid (wdt l m l.length = wd) := ⟨_, rfl⟩
          rw [hwd.out] at hwb hFe ⊢
          rw [hab.out] at hrow hal halt hFe
          have cW := cWordBytes m wr
          have hw8 : (be (u64 m) 8).length = 8 := be_length _ _
          obtain ⟨B8, hB8⟩ : ∃ B8, Hid (be (u64 m) 8 = B8) := ⟨_, rfl⟩
          rw [hB8.out] at cW hw8 hFe
          have hpl := packB_length ab wd
          have hpl2 : ab.length * wd ≤ 64 * 64 := Nat.mul_le_mul (by omega) hwb
          have hrest : Hid (∀ X Y, Kp [] wr X → X.alloc (.cells #[.int .u8 (wd : Int)] 5) = Y → Kp [] wr Y ∧ Calls Tryz.prog 108 #[.slice (some ⟨q, 0, none⟩) l.length l.length, .int .i64 wd] Y (NB (packB ab wd) Y)) := fun X Y kX hY => by
            have kY : Kp [] wr Y := by rw [← hY]; exact kX.alloc _
            obtain ⟨_, _, es, hs, _⟩ := (hrow.keptNew kY).see
            injection es with e1 e2 e3
            have := cPack (some ⟨q, 0, none⟩) l.length ab wd Y (by rw [e1]; exact hs) (by omega) halt.out hwb
            rw [hal] at this
            exact ⟨kY, this⟩
          have hend : Hid (∀ X Y Z V b1 c1 b3 c3, Kp [] wr X → Row X (.slice b1 B8.length c1) B8 → X.alloc (.cells #[.int .u8 (wd : Int)] 5) = Y → Kp [] Y Z → Row Z (.slice b3 (packB ab wd).length c3) (packB ab wd) → Z.alloc (.cells #[.slice b1 B8.length c1, .slice (some ⟨X.heap.size, 0, none⟩) 1 1, .slice b3 (packB ab wd).length c3] 22) = V →
              Kp [] w V ∧ Calls Tryz.prog 100 #[.slice (some ⟨Z.heap.size, 0, none⟩) 3 3] V (NB F V)) := fun X Y Z V b1 c1 b3 c3 kX hr1 hY kZ hr3 hV => by
            have kY : Kp [] X Y := by rw [← hY]; exact (Kp.refl _ _).alloc _
            have kV : Kp [] Z V := by rw [← hV]; exact (Kp.refl _ _).alloc _
            obtain ⟨_, _, e1, hs1, _⟩ := hr1.sees
            cases e1
            obtain ⟨_, _, e3, hs3, _⟩ := hr3.sees
            cases e3
            have hs2 : Sees Y (some ⟨X.heap.size, 0, none⟩) [octet wd] := by rw [← hY]; exact oneByte X rfl wd (by have := octet_toNat (wd : Int) (by omega) (by omega); omega) _
            have h3 : BsE.See V (some ⟨Z.heap.size, 0, none⟩) [⟨b1, c1, B8⟩, ⟨some ⟨X.heap.size, 0, none⟩, 1, [octet wd]⟩, ⟨b3, c3, packB ab wd⟩] := by rw [← hV]; exact threeBs Z rfl ⟨b1, c1, B8⟩ ⟨some ⟨X.heap.size, 0, none⟩, 1, [octet wd]⟩ ⟨b3, c3, packB ab wd⟩ _
            have hj := cJoin (some ⟨Z.heap.size, 0, none⟩) 3 [⟨b1, c1, B8⟩, ⟨some ⟨X.heap.size, 0, none⟩, 1, [octet wd]⟩, ⟨b3, c3, packB ab wd⟩] V h3 (fun x hx => by
              simp only [List.mem_cons, List.not_mem_nil, or_false] at hx
              rcases hx with rfl | rfl | rfl
              · exact hs1.kept (kY.trans (kZ.trans kV (by simp)) (by simp)) (by simp)
              · exact hs2.kept (kZ.trans kV (by simp)) (by simp)
              · exact hs3.kept kV (by simp)) (by simp) (by simp [flatB, hw8, hpl]; omega)
            have eF : flatB [⟨b1, c1, B8⟩, ⟨some ⟨X.heap.size, 0, none⟩, 1, [octet wd]⟩, ⟨b3, c3, packB ab wd⟩] = F := by rw [hFe.out]; simp [flatB]
            rw [eF] at hj
            exact ⟨kn.trans (kX.trans (kY.trans (kZ.trans kV (by simp)) (by simp)) (by simp)) (by simp), hj⟩
          obtain ⟨PB, hPB⟩ : ∃ PB, Hid (packB ab wd = PB) := ⟨_, rfl⟩
          simp only [hPB.out] at hrest hend
          clear hrow hFe hpl hpl2 hal hw8
          go_wp2_with fail
          refine cW.mono ?_
          rintro e X ⟨b1, c1, rfl, hr1, kX, hn1⟩
          obtain ⟨Y, hY⟩ : ∃ Y, X.alloc (.cells #[.int .u8 (wd : Int)] 5) = Y := ⟨_, rfl⟩
          obtain ⟨kY, cP⟩ := hrest.out X Y kX hY
          have he2 : Hid (∀ Z V b3 c3, Kp [] Y Z → Row Z (.slice b3 PB.length c3) PB → Z.alloc (.cells #[.slice b1 B8.length c1, .slice (some ⟨X.heap.size, 0, none⟩) 1 1, .slice b3 PB.length c3] 22) = V → Kp [] w V ∧ Calls Tryz.prog 100 #[.slice (some ⟨Z.heap.size, 0, none⟩) 3 3] V (NB F V)) := fun Z V b3 c3 kZ hr3 hV => hend.out X Y Z V b1 c1 b3 c3 kX hr1 hY kZ hr3 hV
          clear hr1 hrest hend cW
          go_wp2_with fail
          refine cP.mono ?_
          rintro e Z ⟨b3, c3, rfl, hr3, kZ, hn3⟩
          obtain ⟨V, hV⟩ : ∃ V, Z.alloc (.cells #[.slice b1 B8.length c1, .slice (some ⟨X.heap.size, 0, none⟩) 1 1, .slice b3 PB.length c3] 22) = V := ⟨_, rfl⟩
          obtain ⟨kV, cJ⟩ := he2.out Z V b3 c3 kZ hr3 hV
          clear hr3 he2 cP
          go_wp2_with fail
          refine cJ.mono ?_
          rintro e U ⟨b4, c4, rfl, hr4, kU, hn4⟩
          go_wp2_with fail
          go_ret
          exact ⟨b4, c4, rfl, hr4, kV.trans kU (by simp), fun k hk => by have := hn4 k hk; have := kV.size; omega⟩
end Go.Proofs.YtohbdbecioanaaaGreatDoor
end

section
namespace Go.Proofs.YtohbdbecioanaaaGreatDoor
open Go.RowKit Go.Hay
set_option linter.unusedVariables false
set_option linter.unusedSimpArgs false

theorem grow_two (w : World) (x y : Obj) : ∃ q os, (w.alloc x).alloc y = Go.Sort.grow (w.drewN q) os := ⟨0, #[x] ++ #[y], by rw [Go.Sort.alloc_eq_grow, Go.Sort.alloc_eq_grow, Go.Sort.grow_grow]; rfl⟩
set_option maxHeartbeats 2000000 in
set_option maxRecDepth 100000 in
/-- Compare: what it leaves is told to the last block. -/
theorem cCompareG (a b : Val) (w : World) : Calls Tryz.prog 40 #[a.v, b.v] w fun e w' => e = .returned (.int .i64 (cmpV a b)) ∧ ∃ q os, w' = Go.Sort.grow (w.drewN q) os := by
  obtain ⟨ak, ab, an, at'⟩ := a
  obtain ⟨bk, bb, bn, bt⟩ := b
  unfold Val.v
  have kw := hid (grow_two w (.cells #[.int .i64 ak, .bool ab, .int .i64 an, .string at'] 30) (.cells #[.int .i64 bk, .bool bb, .int .i64 bn, .string bt] 30))
  by_cases hk : ak = bk
  · subst hk
    by_cases h1 : ak = 1
    · subst h1
      go_enter Tryz.func40, Tryz.ntmps40
      go_wp2_with (first | (go_at_call 71; refine (cBools _ _ _).mono ?_; rintro e w' ⟨rfl, rfl⟩))
      go_ret
      exact ⟨by simp [cmpV, Val.lt, ci, cs, cb], kw.out⟩
    by_cases h2 : ak = 2
    · subst h2
      go_enter Tryz.func40, Tryz.ntmps40
      go_wp2_with (first | (go_at_call 72; refine (cCmpL _ _ _).mono ?_; rintro e w' ⟨rfl, rfl⟩))
      go_ret
      exact ⟨by simp [cmpV, Val.lt, ci, cs, cb], kw.out⟩
    by_cases h3 : ak = 3
    · subst h3
      go_enter Tryz.func40, Tryz.ntmps40
      go_wp2_with (first | (go_at_call 73; refine (cCmpS _ _ _).mono ?_; rintro e w' ⟨rfl, rfl⟩))
      go_ret
      exact ⟨by simp [cmpV, Val.lt, ci, cs, cb], kw.out⟩
    · have d1 : (ak == 1) = false := by simpa using h1
      have d2 : (ak == 2) = false := by simpa using h2
      have d3 : (ak == 3) = false := by simpa using h3
      go_enter Tryz.func40, Tryz.ntmps40
      go_wp2_with fail
      go_ret
      exact ⟨by simp [cmpV, Val.lt, ci, cs, cb, h1, h2, h3], kw.out⟩
  · have d1 : (ak == bk) = false := by simpa using hk
    have hk' : ¬ bk = ak := fun h => hk h.symm
    go_enter Tryz.func40, Tryz.ntmps40
    go_wp2_with (first | (go_at_call 70; refine (cCmpI _ _ _).mono ?_; rintro e w' ⟨rfl, rfl⟩))
    go_ret
    exact ⟨by simp [cmpV, Val.lt, ci, cs, cb, hk, hk'], kw.out⟩
theorem cPlaceWidth (n : Nat) (h : 0 < n) (hn : n ≤ 1000) (w : World) : Calls Tryz.prog 109 #[.int .i64 n] w fun e w' => e = .returned (.int .i64 (Lib.bitLen (n - 1))) ∧ w' = w := by
  have hl := fun W => Tryz.bits_Len (((n - 1 : Nat) : Int)) W (by omega) (by omega)
  rw [Int.toNat_natCast] at hl
  have e1 : (n : Int) - 1 = ((n - 1 : Nat) : Int) := by omega
  go_enter Tryz.func109, Tryz.ntmps109
  go_wp2_with fail
  refine (hl _).mono ?_
  rintro e w9 ⟨rfl, hw9⟩
  rw [hw9]
  clear hw9 w9
  go_wp2_with fail
  go_ret
  exact ⟨rfl, rfl⟩
theorem eqNilV (a : Option Addr) (n c : Nat) (w : World) : (binOp .eql 23 (.slice a n c) (.slice none 0 0)).run Tryz.prog w = .ok (.bool a.isNone) w := by
  simp only [binOp]
  simp [run_equal_slice_nil w 23 30 a n c Tryz.underlying23]
theorem rowNoneV (w : World) {q : Nat} (hq : w.heap.size = q) (C : Array Value) (t : TypeId) : VE.Row (w.alloc (.cells C t)) (.slice (some ⟨q, 0, none⟩) 0 0) [] := by
  subst hq
  exact .inr ⟨_, 0, 0, rfl, Nat.le_refl _, Nat.zero_le _, by simp, by intro j u hu; simp [El.cs] at hu, by intro j hj; omega⟩
/-- A copy of values, all new. -/
def CloneV (l : List Val) (w : World) (e : Ending) (w' : World) : Prop := ∃ a c, e = .returned (.slice a l.length c) ∧ VE.Row w' (.slice a l.length c) l ∧ Kp [] w w' ∧ ∀ k ∈ blk a, w.heap.size ≤ k
theorem infoV' : ∃ i : TypeInfo, Tryz.prog.info? 30 = some i ∧ i.zero = some (.agg #[.int .i64 0, .bool false, .int .i64 0, .string ⟨#[]⟩]) ∧ i.size = 4 ∧ i.bytes = 40 := info3 (by kernel_rfl)
set_option maxHeartbeats 4000000 in
set_option maxRecDepth 100000 in
theorem cCloneV (ad : Addr) (c : Nat) (l : List Val) (w : World) (hs : VE.See w (some ad) l) (hb : l.length ≤ 1000000) :
    Calls Tryz.prog 104 #[.slice (some ad) l.length c] w (CloneV l w) := by
  have e0 := eqNilV (some ad) l.length c
  go_enter Tryz.func104, Tryz.ntmps104
  have k1 : Kp [] w (w.alloc (.cells #[] 30)) := (Kp.refl _ _).alloc _
  have hr := rowNoneV w rfl #[] 30
  have hsr := (hs.keptNew k1).src (P := Tryz.prog) Tryz.underlying23 c
  obtain ⟨i0, hi, hz0, hz1, hz2⟩ := infoV'
  go_wp2_with (first | (refine wpAppG (E := VE) rfl _ _ 23 23 30 rfl i0 _ 40 Tryz.underlying23 hi hz0 hz1 hz2 rfl _ [] rfl hr _ l rfl hsr (by simp; omega) (by simp; omega) ?_; intro ys a' c' w' hy hrow hg hn) | fail)
  go_ret
  have e : ys = l := by rw [hy.out]; rfl
  subst e
  refine ⟨a', c', rfl, hrow, k1.trans hg (fun k hk => .inr ?_), fun k hk => ?_⟩
  · simp [own, Value.ownBlock, Act.eval] at hk; omega
  · rcases hn k hk with h1 | h1
    · simp [own, Value.ownBlock, Act.eval] at h1; omega
    · have := k1.size; omega
end Go.Proofs.YtohbdbecioanaaaGreatDoor
end

section
namespace Go.Proofs.YtohbdbecioanaaaGreatDoor
open Go.RowKit Go.Hay

theorem Tryz.infoB : (Tryz.prog.info? 5).map (fun i => (i.zero, i.size, i.bytes)) = some (some (.int .u8 0), 1, 1) := by kernel_rfl

set_option maxHeartbeats 400000 in
theorem wNew (w : World) : Calls Tryz.prog 17 #[] w fun e w' => ∃ p, e = .returned (.pointer (some ⟨p, 0, none⟩)) ∧ p = w.heap.size ∧ Wr w' p (.slice none 0 0) [] ∧ Kp [] w w' := by
  go_enter Tryz.func17, Tryz.ntmps17
  go_wp2
  go_ret
  refine ⟨_, rfl, rfl, ?_, ?_⟩
  · exact ⟨by simp, by simp, Row.nil _, by simp [own, Value.ownBlock]⟩
  · exact (Kp.refl _ _).alloc _

set_option maxHeartbeats 400000 in
theorem wByte (p : Nat) (v : Value) (bs : List UInt8) (n : Int) (w : World) (h : Wr w p v bs) (hb : bs.length + 1 ≤ 200000000000000) (h0 : 0 ≤ n) (h1 : n ≤ 255) :
    Calls Tryz.prog 37 #[.pointer (some ⟨p, 0, none⟩), .int .u8 n] w fun e w' => e = .returned (.tuple #[]) ∧ ∃ v', Wr w' p v' (bs ++ [octet n]) ∧ Wrote p v w v' w' := by
  obtain ⟨i0, hi, hz0, hz1, hz2⟩ := info_parts Tryz.infoB
  have hcell := h.cell
  have hfree := h.free
  have hlt := h.lt
  obtain ⟨a, c, rfl, _⟩ := h.row.shape
  have k0 : Kp [] w (w.alloc (.cells #[.int .u8 n] 5)) := (Kp.refl _ _).alloc _
  have hsrc : Src Tryz.prog 1 22 (.slice (some ⟨w.heap.size, 0, none⟩) 1 1) [octet n].length (bcells [octet n]) (w.alloc (.cells #[.int .u8 n] 5)) :=
    Src.ofSlice _ Tryz.underlying22 ⟨w.heap.size, 0, none⟩ 1 1 _ rfl (by intro j u hj; match j, hj with | 0, hj => simp [bcells] at hj; subst hj; rw [octet_toNat n h0 h1]; simp [Addr.add]) (bcells_one _)
  go_enter Tryz.func37, Tryz.ntmps37
  go_wp2_with (at_builtin; refine wpList_append_src _ rfl (.tmp 8) (.tmp 10) 22 22 rfl i0 Tryz.underlying22 hi hz0 hz1 hz2 _ bs rfl (h.row.kept k0 (by simp)) _ [octet n] rfl hsrc hb ?_)
  intro v' w1 hr hk hn
  obtain ⟨c1, f1, hw, hwr⟩ := h.stored k0 hr hk (by simpa using hn)
  obtain ⟨a', c', hv, _⟩ := hr.shape
  rw [List.length_append, List.length_singleton] at hv
  subst hv
  go_wp2
  go_end0
  exact ⟨rfl, _, hw, hwr⟩
end Go.Proofs.YtohbdbecioanaaaGreatDoor
end

section
namespace Go.Proofs.YtohbdbecioanaaaGreatDoor
open Go.RowKit Go.Hay
set_option linter.unusedVariables false

set_option maxHeartbeats 400000 in
theorem cLead (n : Int) (w : World) (h0 : 0 ≤ n) (h1 : n < 18446744073709551616) : Calls Tryz.prog 133 #[.int .u64 n] w fun e w' => e = .returned (.int .u8 (leadI n)) ∧ w' = w := by
  by_cases a : n < 253
  · have e : leadI n = n := by simp [leadI, a]
    rw [e]
    clear e
    go_enter Tryz.func133, Tryz.ntmps133
    go_wp2
    go_ret
    exact ⟨rfl, rfl⟩
  by_cases b : n < 65536
  · have e : leadI n = 253 := by simp [leadI, a, b]
    rw [e]
    clear e
    go_enter Tryz.func133, Tryz.ntmps133
    go_wp2
    go_ret
    exact ⟨rfl, rfl⟩
  by_cases c : n < 4294967296
  · have e : leadI n = 254 := by simp [leadI, a, b, c]
    rw [e]
    clear e
    go_enter Tryz.func133, Tryz.ntmps133
    go_wp2
    go_ret
    exact ⟨rfl, rfl⟩
  · have e : leadI n = 255 := by simp [leadI, a, b, c]
    rw [e]
    clear e
    go_enter Tryz.func133, Tryz.ntmps133
    go_wp2
    go_ret
    exact ⟨rfl, rfl⟩
set_option maxHeartbeats 400000 in
theorem cBehind (n : Int) (w : World) (h0 : 0 ≤ n) (h1 : n ≤ 255) : Calls Tryz.prog 132 #[.int .u8 n] w fun e w' => e = .returned (.int .i64 (behindI n)) ∧ w' = w := by
  by_cases a : n = 253
  · subst a
    go_enter Tryz.func132, Tryz.ntmps132
    go_wp2
    go_ret
    exact ⟨rfl, rfl⟩
  by_cases b : n = 254
  · subst b
    go_enter Tryz.func132, Tryz.ntmps132
    go_wp2
    go_ret
    exact ⟨rfl, rfl⟩
  by_cases c : n = 255
  · subst c
    go_enter Tryz.func132, Tryz.ntmps132
    go_wp2
    go_ret
    exact ⟨rfl, rfl⟩
  · have e : behindI n = 0 := by simp [behindI, a, b, c]
    have a' : (n == 253) = false := by simpa using a
    have b' : (n == 254) = false := by simpa using b
    have c' : (n == 255) = false := by simpa using c
    rw [e]
    clear e
    go_enter Tryz.func132, Tryz.ntmps132
    go_wp2
    go_ret
    exact ⟨rfl, rfl⟩
set_option maxHeartbeats 400000 in
theorem wNumber (p : Nat) (v : Value) (bs : List UInt8) (n : Int) (k : Nat) (w : World) (h : Wr w p v bs) (hb : bs.length + 8 ≤ 200000000000000) (h0 : 0 ≤ n) (h1 : n < 18446744073709551616) (hk : k ≤ 8) :
    Calls Tryz.prog 42 #[.pointer (some ⟨p, 0, none⟩), .int .u64 n, .int .i64 k] w fun e w' => e = .returned (.tuple #[]) ∧ ∃ v', Wr w' p v' (bs ++ be n.toNat k) ∧ Wrote p v w v' w' := by
  go_enter Tryz.func42, Tryz.ntmps42
  go_wp2_with fail
  go_loopw [6] (fun s wr => ∃ (j : Nat) (cur : List UInt8) (v' : Value), s = .int .i64 (8 * ((j : Int) - 1)) ∧ j ≤ k ∧ Wr wr p v' cur ∧ Hid (cur ++ be n.toNat j = bs ++ be n.toNat k) ∧ Wrote p v w v' wr) (fun s _ => (intOf s + 8).toNat)
  case atStart => exact ⟨k, bs, v, rfl, Nat.le_refl _, h, rfl, Wrote.refl _ _ _⟩
  case round =>
    obtain ⟨j, cur, v', rfl, hj, hw, hcur, hwr⟩ := hrel
    have hlen : cur.length + j = bs.length + k := by have := congrArg List.length hcur.out; simpa [be_length] using this
    cases j with
    | zero =>
      go_wp2_with fail
      go_end0
      have e : cur = bs ++ be n.toNat k := by have := hcur.out; simpa [be] using this
      exact ⟨rfl, v', e ▸ hw, hwr⟩
    | succ j =>
      have H : Hid (cur ++ [octet (n / 2 ^ (8 * j) % 256)] ++ be n.toNat j = bs ++ be n.toNat k) := by
        have := hcur.out
        show _ = _
        rw [octet_shift n j h0]
        simpa [be] using this
      go_wp2_with fail
      refine (wByte p v' cur _ _ hw (by omega) (shift_bd n j).1 (shift_bd n j).2).mono ?_
      rintro e w1 ⟨rfl, v1, hw1, hwr1⟩
      go_wp2_with fail
      go_roundw
      case rel => exact ⟨j, _, v1, by go_num, by omega, hw1, H, hwr.trans hwr1⟩
      case measure => simp [intOf]; omega
end Go.Proofs.YtohbdbecioanaaaGreatDoor
end

section
namespace Go.Proofs.YtohbdbecioanaaaGreatDoor
open Go.RowKit Go.Hay
set_option linter.unusedVariables false

set_option maxHeartbeats 400000 in
set_option maxHeartbeats 400000 in
theorem wRaw (p : Nat) (v : Value) (bs : List UInt8) (a : Option Addr) (n c : Nat) (xs : List UInt8) (w : World) (h : Wr w p v bs) (hs : Sees w a xs) (hn : n = xs.length) (hb : bs.length + xs.length ≤ 200000000000000) :
    Calls Tryz.prog 20 #[.pointer (some ⟨p, 0, none⟩), .slice a n c] w fun e w' => e = .returned (.tuple #[]) ∧ ∃ v', Wr w' p v' (bs ++ xs) ∧ Wrote p v w v' w' := by
  subst hn
  obtain ⟨i0, hi, hz0, hz1, hz2⟩ := info_parts Tryz.infoB
  have hcell := h.cell
  have hfree := h.free
  have hlt := h.lt
  have hsrc : Src Tryz.prog 1 22 (.slice a xs.length c) xs.length (bcells xs) w := hs.src Tryz.underlying22 c
  obtain ⟨a1, c1, rfl, _⟩ := h.row.shape
  go_enter Tryz.func20, Tryz.ntmps20
  go_wp2_with (at_builtin; refine wpList_append_src _ rfl (.tmp 8) (.tmp 9) 22 22 rfl i0 Tryz.underlying22 hi hz0 hz1 hz2 _ bs rfl h.row _ xs rfl hsrc hb ?_)
  intro v' w1 hr hk hn
  obtain ⟨c1, f1, hw, hwr⟩ := h.stored (Kp.refl _ _) hr hk hn
  obtain ⟨a', c', hv, _⟩ := hr.shape
  rw [List.length_append] at hv
  subst hv
  go_wp2
  go_end0
  exact ⟨rfl, _, hw, hwr⟩
set_option maxHeartbeats 400000 in
set_option maxHeartbeats 400000 in
set_option maxHeartbeats 400000 in
theorem cClone (a : Option Addr) (n c : Nat) (xs : List UInt8) (w : World) (hs : Sees w a xs) (hn : n = xs.length) (hb : xs.length ≤ 200000000000000) :
    Calls Tryz.prog 10 #[.slice a n c] w fun e w' => ∃ v', e = .returned v' ∧ Row w' v' xs ∧ Kp [] w w' ∧ ∀ k ∈ own v', w.heap.size ≤ k := by
  subst hn
  cases a with
  | none =>
    obtain rfl : xs = [] := by rcases hs with h | ⟨g, o, h, _⟩; exact h; cases h
    have hnil := fun (w : World) => Lib.run_eql_slice_nil (P := Tryz.prog) w 22 5 none 0 c 0 0 Tryz.underlying22
    rw [List.length_nil]
    go_enter Tryz.func10, Tryz.ntmps10
    go_wp2
    go_ret
    exact ⟨_, rfl, Row.nil _, Kp.refl _ _, by simp [own, Value.ownBlock]⟩
  | some ad =>
    have hnil := fun (w : World) => Lib.run_eql_slice_nil (P := Tryz.prog) w 22 5 (some ad) xs.length c 0 0 Tryz.underlying22
    obtain ⟨i0, hi, hz0, hz1, hz2⟩ := info_parts Tryz.infoB
    have k0 : Kp [] w (w.alloc (.cells #[] 5)) := (Kp.refl _ _).alloc _
    have hsrc : Src Tryz.prog 1 22 (.slice (some ad) xs.length c) xs.length (bcells xs) (w.alloc (.cells #[] 5)) := (hs.kept k0 (by simp)).src Tryz.underlying22 c
    have hrow : Row (w.alloc (.cells #[] 5)) (.slice (some ⟨w.heap.size, 0, none⟩) 0 0) [] := .inr ⟨w.heap.size, 0, 0, rfl, Nat.le_refl _, Nat.zero_le _, by simp, by simp, by simp⟩
    go_enter Tryz.func10, Tryz.ntmps10
    go_wp2_with (at_builtin; refine wpList_append_src _ rfl (.tmp 5) (.tmp 6) 22 22 rfl i0 Tryz.underlying22 hi hz0 hz1 hz2 _ [] rfl hrow _ xs rfl hsrc (by simpa using hb) ?_)
    intro v' w1 hr hk hn
    go_wp2
    go_ret
    refine ⟨_, rfl, by simpa using hr, k0.trans hk (by simp [own, Value.ownBlock]), fun k hk' => ?_⟩
    rcases hn k hk' with h1 | h1
    · simp [own, Value.ownBlock] at h1; omega
    · omega
set_option maxHeartbeats 400000 in
theorem wBytes (p : Nat) (v : Value) (bs : List UInt8) (w : World) (h : Wr w p v bs) (hb : bs.length ≤ 200000000000000) :
    Calls Tryz.prog 23 #[.pointer (some ⟨p, 0, none⟩)] w fun e w' => ∃ v', e = .returned v' ∧ Row w' v' bs ∧ Kp [] w w' ∧ ∀ k ∈ own v', w.heap.size ≤ k := by
  have hcell := h.cell
  obtain ⟨a1, c1, rfl, hs, _⟩ := h.row.sees
  go_enter Tryz.func23, Tryz.ntmps23
  go_wp2_with fail
  refine (cClone a1 bs.length c1 bs _ hs rfl hb).mono ?_
  rintro e w1 ⟨v', rfl, h1, h2, h3⟩
  go_wp2_with fail
  go_ret
  exact ⟨_, rfl, h1, h2, h3⟩
end Go.Proofs.YtohbdbecioanaaaGreatDoor
end

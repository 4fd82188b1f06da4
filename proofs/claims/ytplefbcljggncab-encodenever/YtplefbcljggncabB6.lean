/- The unlike values, and each one's place. put, Encode, Best. Best. What bytes begin with: a value's bytes read: the program's takeFixed and takeValue, the reference's Front. -/
import Derived.Test.YtplefbcljggncabB5
import Derived.Test.YtplefbcljggncabB1
import Derived.Test.YtplefbcljggncabB2
import Derived.Laws.BytesArg
import Derived.Laws.IdiomStrings
section
namespace Go.Proofs.Ytplefbcljggncab
open Go.RowKit Go.Hay
set_option linter.unusedVariables false
set_option linter.unusedSimpArgs false

def plcs (u l : List Val) (j : Nat) : List Nat := (List.range j).map fun k => idxV u (l.getD k nv)
theorem plcs_length (u l : List Val) (j : Nat) : (plcs u l j).length = j := by simp [plcs]
theorem plcs_succ (u l : List Val) (j : Nat) : plcs u l (j + 1) = plcs u l j ++ [idxV u (l.getD j nv)] := by simp [plcs, List.range_succ]
def dictB (l : List Val) : List UInt8 := [octet (uniq l).length] ++ (uniq l).flatMap rowB ++ packB (plcs (uniq l) l l.length) (Lib.bitLen ((uniq l).length - 1))
set_option maxHeartbeats 8000000 in
set_option maxRecDepth 100000 in
theorem cPutDict (a : Option Addr) (ca : Nat) (l : List Val) (w : World) (ha : Vals w a l) (hr : allR l = true) (h0 : 0 < l.length) (hl : l.length ≤ 64) :
    Calls Try.prog 16 #[.slice a l.length ca] w (NB (dictB l) w) := by
  obtain ⟨g, o, rfl, _⟩ := ha.at 0 h0
  have hat : Hid (∀ W, Kp [] w W → ∀ j, j < l.length → W.cell? ⟨g, o + j * 4, none⟩ = some (.int .i64 (l.getD j nv).k) ∧ W.cell? ⟨g, o + j * 4 + 1, none⟩ = some (.bool (l.getD j nv).b) ∧ W.cell? ⟨g, o + j * 4 + 2, none⟩ = some (.int .i64 (l.getD j nv).n) ∧ W.cell? ⟨g, o + j * 4 + 3, none⟩ = some (.string (l.getD j nv).t)) := fun W kW j hj => by
    obtain ⟨_, _, e, y0, y1, y2, y3⟩ := (ha.kept kW).at j hj
    cases e
    have e1 : l.getD j nv = l[j] := by simp [hj]
    rw [e1]
    exact ⟨y0, y1, y2, y3⟩
  have cC := cCloneV ⟨g, o, none⟩ ca l w (seeV.2 ha) (by omega)
  have hF : Hid (dictB l = [octet (uniq l).length] ++ (uniq l).flatMap rowB ++ packB (plcs (uniq l) l l.length) (Lib.bitLen ((uniq l).length - 1))) := rfl
  have hul := uniq_len l
  have hum := hid (fun x => (uniq_mem l x).2)
  have hur := hid (uniq_right l hr)
  have hu0 : 0 < (uniq l).length := List.length_pos_iff.2 (List.ne_nil_of_mem (hum.out _ (List.getElem_mem h0)))
  have hsv := hid (sortV_of l)
  have huq : Hid (uniq l = cpt (sortV l)) := rfl
  obtain ⟨F, hFF⟩ : ∃ F, Hid (dictB l = F) := ⟨_, rfl⟩
  rw [hFF.out] at hF ⊢
  obtain ⟨u, hu⟩ : ∃ u, Hid (uniq l = u) := ⟨_, rfl⟩
  rw [hu.out] at hF hul hum hur hu0 huq
  have hr' := hid hr
  clear ha hr hFF
  go_enter Try.func16, Try.ntmps16
  go_wp2_with fail
  refine cC.mono ?_
  rintro e w1 ⟨a1, c1, rfl, hrow1, k1, hn1⟩
  obtain ⟨g1, o1, rfl, hg1⟩ : ∃ g1 o1, a1 = some ⟨g1, o1, none⟩ ∧ w.heap.size ≤ g1 := by
    rcases hrow1 with ⟨e, e2⟩ | ⟨g9, o9, c9, e, _⟩
    · rw [e2] at h0; simp at h0
    · injection e with e1 e2 e3
      exact ⟨g9, o9, e1, hn1 g9 (by rw [e1]; simp [blk])⟩
  obtain ⟨_, _, ee, _, _, hlc, hcm, _⟩ := hrow1.see
  injection ee with e1 e2 e3
  subst e3
  have cS := cSortV g1 o1 c1 l w1 hrow1 (by omega)
  clear hn1 hrow1 e1 e2 cC
  go_wp2_with fail
  refine cS.mono ?_
  rintro e w2 ⟨rfl, k2, s, hp, hso, hrow2⟩
  have hse := hsv.out s hr'.out hp hso
  have hslen : s.length = l.length := hp.length_eq
  have cK := cCompactV g1 o1 c1 s w2 hrow2 (by omega) (by omega) hcm
  rw [hse, ← huq.out, ← hse, hslen] at cK
  have kw2 : Kp [] w w2 := k1.trans k2 (fun k hk => .inr (by simp at hk; omega))
  clear hrow2 cS hsv hp hso hse hslen
  go_wp2_with fail
  refine cK.mono ?_
  rintro e w3 ⟨rfl, hrow3, k3⟩
  have kw3 : Kp [] w w3 := kw2.trans k3 (fun k hk => .inr (by simp at hk; omega))
  obtain ⟨i0, hi, hz0, hz1, hz2⟩ := infoU64
  obtain ⟨W1, hmk, hrowm, km, hs1⟩ := run_makeG (E := U64E) (P := Try.prog) w3 56 51 i0 (.int .u64 0) 0 8 Try.underlying56 hi hz0 hz1 hz2 rfl .i64 .i64 l.length (by omega) (by unfold maxLen; omega)
  obtain ⟨q, hq⟩ : ∃ q, Hid (w3.heap.size = q) := ⟨_, rfl⟩
  have hg3 : g1 < w3.heap.size := hrow3.lt g1 (by simp [own, Value.ownBlock])
  rw [hq.out] at hmk hrowm hg3
  have hqw : w.heap.size ≤ q := by rw [← hq.out]; exact kw3.size
  have R1 : Hid (U64E.Row W1 (.slice (some ⟨q, 0, none⟩) l.length l.length) (plcs u l 0 ++ List.replicate (l.length - 0) 0) ∧ VE.Row W1 (.slice (some ⟨g1, o1, none⟩) u.length c1) u ∧ Kp [] w W1) := ⟨by simpa [plcs] using hrowm, hrow3.keptNew km, kw3.trans km (by simp)⟩
  clear hrowm km hs1 kw3 hrow3 k3 kw2 k2 k1 cK
  go_wp2_with fail
  go_loopw [18] (fun i wn => ∃ j : Nat, j ≤ l.length ∧ i = .int .i64 j ∧ U64E.Row wn (.slice (some ⟨q, 0, none⟩) l.length l.length) (plcs u l j ++ List.replicate (l.length - j) 0) ∧ VE.Row wn (.slice (some ⟨g1, o1, none⟩) u.length c1) u ∧ Kp [] w wn) (fun i _ => l.length - (intOf i).toNat)
  case atStart => exact ⟨0, Nat.zero_le _, rfl, R1.out.1, R1.out.2.1, R1.out.2.2⟩
  case round =>
    clear hmk R1
    obtain ⟨j, hj, rfl, hrow, hrowu, kn⟩ := hrel
    by_cases hlt : j < l.length
    · obtain ⟨y0, y1, y2, y3⟩ := hat.out wr kn j hlt
      have hmem : l.getD j nv ∈ u := hum.out _ (by simp [hlt])
      obtain ⟨v, hv⟩ : ∃ v, Hid (l.getD j nv = v) := ⟨_, rfl⟩
      have hps := hid (plcs_succ u l j)
      rw [hv.out] at y0 y1 y2 y3 hmem hps
      have hpl := plcs_length u l j
      have hixb := (idxV_mem u v hmem).1
      obtain ⟨wb, hwb⟩ : ∃ wb, wr.alloc (.cells #[.int .i64 v.k, .bool v.b, .int .i64 v.n, .string v.t] 30) = wb := ⟨_, rfl⟩
      have kb : Kp [] wr wb := by rw [← hwb]; exact (Kp.refl _ _).alloc _
      have bx : Box4 wb wr.heap.size (.int .i64 v.k) (.bool v.b) (.int .i64 v.n) (.string v.t) := by rw [← hwb]; exact Box4.new _ _ _ _ _ _
      have p0 := bx.c0; have p1 := bx.c1; have p2 := bx.c2; have p3 := bx.c3
      have cI := cIndexV g1 o1 c1 u v wb (hrowu.keptNew kb) hmem (by omega)
      obtain ⟨I, hI⟩ : ∃ I, Hid (idxV u v = I) := ⟨_, rfl⟩
      rw [hI.out] at cI hixb hps
      have hnext : Hid (∀ W, Kp [] wb W → (∃ x, W.cell? ⟨q, j, none⟩ = some x) ∧ W.frozen? ⟨q, j, none⟩ = false ∧ U64E.Row (W.setCell ⟨q, j, none⟩ (.int .u64 (I : Int))) (.slice (some ⟨q, 0, none⟩) l.length l.length) (plcs u l (j + 1) ++ List.replicate (l.length - (j + 1)) 0) ∧ VE.Row (W.setCell ⟨q, j, none⟩ (.int .u64 (I : Int))) (.slice (some ⟨g1, o1, none⟩) u.length c1) u ∧ Kp [] w (W.setCell ⟨q, j, none⟩ (.int .u64 (I : Int)))) := fun W kW => by
        have kA : Kp [] wr W := kb.trans kW (by simp)
        have hrW := hrow.keptNew kA
        have hal' : (plcs u l j ++ List.replicate (l.length - j) 0).length = l.length := by simp [hpl]; omega
        have hput := hrW.setAt j (by rw [hal']; exact hlt) I
        have e1 : (plcs u l j ++ List.replicate (l.length - j) 0).set j I = plcs u l (j + 1) ++ List.replicate (l.length - (j + 1)) 0 := by
          have := set_app (plcs u l j) 0 I (l.length - (j + 1))
          rw [hpl, show l.length - (j + 1) + 1 = l.length - j by omega] at this
          rw [this, hps.out]
        rw [e1] at hput
        have eW : W.setCells q (0 + j * U64E.n) (U64E.c I) = W.setCell ⟨q, j, none⟩ (.int .u64 (I : Int)) := by
          have : U64E.n = 1 := rfl
          rw [this]
          simp [U64E, World.setCells]
        rw [eW] at hput
        have kS : Kp [q] W (W.setCell ⟨q, j, none⟩ (.int .u64 (I : Int))) := (Kp.refl _ _).setCell (p := ⟨q, j, none⟩) (.inl (by simp)) _
        have hcf : (∃ x, W.cell? ⟨q, j, none⟩ = some x) ∧ W.frozen? ⟨q, j, none⟩ = false := by
          rcases hrW with ⟨e, _⟩ | ⟨g9, o9, c9, e, q1, q2, q3, q4, q5⟩
          · cases e
          · injection e with e1 e2 e3
            injection e1 with e1
            injection e1 with e4 e5
            subst e3 e4 e5
            have h5 := q5 j (by have : U64E.n = 1 := rfl; rw [this]; omega)
            rw [Nat.zero_add] at h5
            exact ⟨Option.isSome_iff_exists.1 h5.1, h5.2⟩
        refine ⟨hcf.1, hcf.2, hput, (hrowu.keptNew kA).kept kS (fun k hk => ?_), (kn.trans kA (by simp)).trans kS (fun k hk => .inr (by simp at hk; omega))⟩
        simp [own, Value.ownBlock] at hk
        simp; omega
      obtain ⟨vk, vb, vn, vt⟩ := v
      unfold Val.v at cI
      dsimp only at *
      clear hrow hrowu bx kb hps hmem
      go_wp2_with fail
      refine cI.mono ?_
      rintro e W ⟨rfl, kW⟩
      obtain ⟨⟨x, hx⟩, hfz, hN⟩ := hnext.out W kW
      have hN' := hid hN
      clear hN hnext
      go_wp2_with fail
      exact ⟨⟨j + 1, by omega, by go_num, hN'.out.1, hN'.out.2.1, hN'.out.2.2⟩, by simp [intOf]; omega⟩
    · obtain rfl : j = l.length := by omega
      rw [Nat.sub_self, List.replicate_zero, List.append_nil] at hrow
      have hplt : Hid (∀ x ∈ plcs u l l.length, x < 18446744073709551616) := fun x hx => by
        simp only [plcs, List.mem_map, List.mem_range] at hx
        obtain ⟨k, hk, rfl⟩ := hx
        have := (idxV_mem u (l.getD k nv) (hum.out _ (by simp [hk]))).1
        omega
      have hpl := plcs_length u l l.length
      have hwb := bitLen_le64 (u.length - 1)
      obtain ⟨wd, hwd⟩ : ∃ wd, Hid (Lib.bitLen (u.length - 1) = wd) := ⟨_, rfl⟩
      obtain ⟨ps, hps⟩ : ∃ ps, Hid (plcs u l l.length = ps) := ⟨_, rfl⟩
      rw [hwd.out] at hwb
      rw [hwd.out, hps.out] at hF
      rw [hps.out] at hrow hplt hpl
      have hpB := packB_length ps wd
      have hpB2 : ps.length * wd ≤ 64 * 64 := Nat.mul_le_mul (by omega) hwb
      have hfl : (u.flatMap rowB).length ≤ 100000 := by
        have := flat_length (f := rowB) (m := 66) (fun x hx => rowB_length hx) u hur.out
        omega
      have cW : Hid (∀ W, Calls Try.prog 34 #[.int .i64 u.length] W fun e w' => e = .returned (.int .i64 (wd : Int)) ∧ w' = W) := fun W => by
        have := cPlaceWidth u.length hu0 (by omega) W
        rw [hwd.out] at this
        exact this
      have hP : Hid (∀ Y, wr.alloc (.cells #[.int .u8 (u.length : Int)] 5) = Y → Kp [] wr Y ∧ Calls Try.prog 18 #[.slice (some ⟨g1, o1, none⟩) u.length c1] Y (NB (u.flatMap rowB) Y)) := fun Y hY => by
        have kY : Kp [] wr Y := by rw [← hY]; exact (Kp.refl _ _).alloc _
        obtain ⟨_, _, es, hs, _⟩ := (hrowu.keptNew kY).see
        injection es with e1 e2 e3
        have := cPutPlain (some ⟨g1, o1, none⟩) c1 u Y (seeV.1 (by rw [e1]; exact hs)) hur.out (by omega)
        exact ⟨kY, this⟩
      have hK : Hid (∀ Y, Kp [] wr Y → Calls Try.prog 33 #[.slice (some ⟨q, 0, none⟩) l.length l.length, .int .i64 wd] Y (NB (packB ps wd) Y)) := fun Y kY => by
        obtain ⟨_, _, es, hs, _⟩ := (hrow.keptNew kY).see
        injection es with e1 e2 e3
        have := cPack (some ⟨q, 0, none⟩) l.length ps wd Y (by rw [e1]; exact hs) (by omega) hplt.out hwb
        rw [hpl] at this
        exact this
      obtain ⟨UB, hUB⟩ : ∃ UB, Hid (u.flatMap rowB = UB) := ⟨_, rfl⟩
      obtain ⟨PB, hPB⟩ : ∃ PB, Hid (packB ps wd = PB) := ⟨_, rfl⟩
      rw [hUB.out] at hfl hF
      rw [hPB.out] at hpB hF
      simp only [hUB.out] at hP
      simp only [hPB.out] at hK
      have hend : Hid (∀ Y Z1 Z V b2 c2 b3 c3, wr.alloc (.cells #[.int .u8 (u.length : Int)] 5) = Y → Kp [] Y Z1 → Row Z1 (.slice b2 UB.length c2) UB → Kp [] Z1 Z → Row Z (.slice b3 PB.length c3) PB → Z.alloc (.cells #[.slice (some ⟨wr.heap.size, 0, none⟩) 1 1, .slice b2 UB.length c2, .slice b3 PB.length c3] 23) = V →
          Kp [] w V ∧ Calls Try.prog 24 #[.slice (some ⟨Z.heap.size, 0, none⟩) 3 3] V (NB F V)) := fun Y Z1 Z V b2 c2 b3 c3 hY kZ1 hr2 kZ hr3 hV => by
        have kY : Kp [] wr Y := by rw [← hY]; exact (Kp.refl _ _).alloc _
        have kV : Kp [] Z V := by rw [← hV]; exact (Kp.refl _ _).alloc _
        obtain ⟨_, _, e2, hs2, _⟩ := hr2.sees
        cases e2
        obtain ⟨_, _, e3, hs3, _⟩ := hr3.sees
        cases e3
        have hs1 : Sees Y (some ⟨wr.heap.size, 0, none⟩) [octet u.length] := by rw [← hY]; exact oneByte wr rfl u.length (by have := octet_toNat (u.length : Int) (by omega) (by omega); omega) _
        have h3 : BsE.See V (some ⟨Z.heap.size, 0, none⟩) [⟨some ⟨wr.heap.size, 0, none⟩, 1, [octet u.length]⟩, ⟨b2, c2, UB⟩, ⟨b3, c3, PB⟩] := by rw [← hV]; exact threeBs Z rfl ⟨some ⟨wr.heap.size, 0, none⟩, 1, [octet u.length]⟩ ⟨b2, c2, UB⟩ ⟨b3, c3, PB⟩ _
        have hj := cJoin (some ⟨Z.heap.size, 0, none⟩) 3 [⟨some ⟨wr.heap.size, 0, none⟩, 1, [octet u.length]⟩, ⟨b2, c2, UB⟩, ⟨b3, c3, PB⟩] V h3 (fun x hx => by
          simp only [List.mem_cons, List.not_mem_nil, or_false] at hx
          rcases hx with rfl | rfl | rfl
          · exact hs1.kept (kZ1.trans (kZ.trans kV (by simp)) (by simp)) (by simp)
          · exact hs2.kept (kZ.trans kV (by simp)) (by simp)
          · exact hs3.kept kV (by simp)) (by simp) (by simp [flatB, hpB]; omega)
        have eF : flatB [⟨some ⟨wr.heap.size, 0, none⟩, 1, [octet u.length]⟩, ⟨b2, c2, UB⟩, ⟨b3, c3, PB⟩] = F := by rw [hF.out]; simp [flatB]
        rw [eF] at hj
        exact ⟨kn.trans (kY.trans (kZ1.trans (kZ.trans kV (by simp)) (by simp)) (by simp)) (by simp), hj⟩
      clear hrow hrowu hF hfl hpB hpB2 hplt hpl hum hur hat
      obtain ⟨Y, hY⟩ : ∃ Y, wr.alloc (.cells #[.int .u8 (u.length : Int)] 5) = Y := ⟨_, rfl⟩
      obtain ⟨kY, cP⟩ := hP.out Y hY
      have he2 : Hid (∀ Z1 Z V b2 c2 b3 c3, Kp [] Y Z1 → Row Z1 (.slice b2 UB.length c2) UB → Kp [] Z1 Z → Row Z (.slice b3 PB.length c3) PB → Z.alloc (.cells #[.slice (some ⟨wr.heap.size, 0, none⟩) 1 1, .slice b2 UB.length c2, .slice b3 PB.length c3] 23) = V → Kp [] w V ∧ Calls Try.prog 24 #[.slice (some ⟨Z.heap.size, 0, none⟩) 3 3] V (NB F V)) := fun Z1 Z V b2 c2 b3 c3 => hend.out Y Z1 Z V b2 c2 b3 c3 hY
      clear hP hend
      go_wp2_with fail
      refine cP.mono ?_
      rintro e Z1 ⟨b2, c2, rfl, hr2, kZ1, hn2⟩
      have cK := hK.out Z1 (kY.trans kZ1 (by simp))
      have cW' := cW.out Z1
      have he3 : Hid (∀ Z V b3 c3, Kp [] Z1 Z → Row Z (.slice b3 PB.length c3) PB → Z.alloc (.cells #[.slice (some ⟨wr.heap.size, 0, none⟩) 1 1, .slice b2 UB.length c2, .slice b3 PB.length c3] 23) = V → Kp [] w V ∧ Calls Try.prog 24 #[.slice (some ⟨Z.heap.size, 0, none⟩) 3 3] V (NB F V)) := fun Z V b3 c3 => he2.out Z1 Z V b2 c2 b3 c3 kZ1 hr2
      clear hr2 he2 cP hK cW
      go_wp2_with fail
      refine cW'.mono ?_
      rintro e Z9 ⟨rfl, hZ9⟩
      rw [hZ9]
      clear hZ9 Z9 cW'
      go_wp2_with fail
      refine cK.mono ?_
      rintro e Z ⟨b3, c3, rfl, hr3, kZ, hn3⟩
      obtain ⟨V, hV⟩ : ∃ V, Z.alloc (.cells #[.slice (some ⟨wr.heap.size, 0, none⟩) 1 1, .slice b2 UB.length c2, .slice b3 PB.length c3] 23) = V := ⟨_, rfl⟩
      obtain ⟨kV, cJ⟩ := he3.out Z V b3 c3 kZ hr3 hV
      clear hr3 he3 cK
      go_wp2_with fail
      refine cJ.mono ?_
      rintro e U ⟨b4, c4, rfl, hr4, kU, hn4⟩
      go_wp2_with fail
      go_ret
      exact ⟨b4, c4, rfl, hr4, kV.trans kU (by simp), fun k hk => by have := hn4 k hk; have := kV.size; omega⟩
end Go.Proofs.Ytplefbcljggncab
end

section
namespace Go.Proofs.Ytplefbcljggncab
open Go.RowKit Go.Hay
set_option linter.unusedVariables false
set_option linter.unusedSimpArgs false

/-- The bytes in a kind. -/
def putB (k : Int) (l : List Val) : List UInt8 := if k = 1 then (runsV l).flatMap runB else if k = 2 then deltaB l else if k = 3 then dictB l else if k = 4 then bitsB l else l.flatMap rowB
set_option maxHeartbeats 2000000 in
theorem cPut (k : Int) (a : Option Addr) (ca : Nat) (l : List Val) (w : World) (ha : Vals w a l) (hc : l.length ≤ ca) (hm : ca ≤ maxLen) (hr : allR l = true) (h0 : 0 < l.length) (hl : l.length ≤ 64) :
    Calls Try.prog 8 #[.int .i64 k, .slice a l.length ca] w (NB (putB k l) w) := by
  have c1 := cPutRuns a ca l w ha hc hm hr hl
  have c2 := cPutDelta a ca l w ha hc hm h0 hl
  have c3 := cPutDict a ca l w ha hr h0 hl
  have c4 := cPutBits a ca l w ha hc hm h0 hl
  have c0 := cPutPlain a ca l w ha hr hl
  have hB : Hid (putB k l = if k = 1 then (runsV l).flatMap runB else if k = 2 then deltaB l else if k = 3 then dictB l else if k = 4 then bitsB l else l.flatMap rowB) := rfl
  obtain ⟨F, hF⟩ : ∃ F, Hid (putB k l = F) := ⟨_, rfl⟩
  rw [hF.out] at hB ⊢
  clear ha hm hc hr
  by_cases h1 : k = 1
  · have e : Hid ((runsV l).flatMap runB = F) := by show _ = _; rw [hB.out, if_pos h1]
    rw [e.out] at c1
    subst h1
    clear hB hF e c0 c2 c3 c4
    go_enter Try.func8, Try.ntmps8
    go_wp2_with fail
    refine c1.mono ?_
    rintro e w3 ⟨b3, c3, rfl, hrow3, k3, hn3⟩
    go_wp2_with fail
    go_ret
    exact ⟨b3, c3, rfl, hrow3, k3, hn3⟩
  by_cases h2 : k = 2
  · have e : Hid (deltaB l = F) := by show _ = _; rw [hB.out, if_neg h1, if_pos h2]
    rw [e.out] at c2
    subst h2
    clear hB hF e c0 c1 c3 c4 h1
    go_enter Try.func8, Try.ntmps8
    go_wp2_with fail
    refine c2.mono ?_
    rintro e w3 ⟨b3, c3, rfl, hrow3, k3, hn3⟩
    go_wp2_with fail
    go_ret
    exact ⟨b3, c3, rfl, hrow3, k3, hn3⟩
  by_cases h3 : k = 3
  · have e : Hid (dictB l = F) := by show _ = _; rw [hB.out, if_neg h1, if_neg h2, if_pos h3]
    rw [e.out] at c3
    subst h3
    clear hB hF e c0 c1 c2 c4 h1 h2
    go_enter Try.func8, Try.ntmps8
    go_wp2_with fail
    refine c3.mono ?_
    rintro e w3 ⟨b3, c3, rfl, hrow3, k3, hn3⟩
    go_wp2_with fail
    go_ret
    exact ⟨b3, c3, rfl, hrow3, k3, hn3⟩
  by_cases h4 : k = 4
  · have e : Hid (bitsB l = F) := by show _ = _; rw [hB.out, if_neg h1, if_neg h2, if_neg h3, if_pos h4]
    rw [e.out] at c4
    subst h4
    clear hB hF e c0 c1 c2 c3 h1 h2 h3
    go_enter Try.func8, Try.ntmps8
    go_wp2_with fail
    refine c4.mono ?_
    rintro e w3 ⟨b3, c3, rfl, hrow3, k3, hn3⟩
    go_wp2_with fail
    go_ret
    exact ⟨b3, c3, rfl, hrow3, k3, hn3⟩
  · have e : Hid (l.flatMap rowB = F) := by show _ = _; rw [hB.out, if_neg h1, if_neg h2, if_neg h3, if_neg h4]
    rw [e.out] at c0
    have d1 : (k == 1) = false := by simpa using h1
    have d2 : (k == 2) = false := by simpa using h2
    have d3 : (k == 3) = false := by simpa using h3
    have d4 : (k == 4) = false := by simpa using h4
    clear hB hF e c1 c2 c3 c4
    go_enter Try.func8, Try.ntmps8
    go_wp2_with fail
    refine c0.mono ?_
    rintro e w3 ⟨b3, c3, rfl, hrow3, k3, hn3⟩
    go_wp2_with fail
    go_ret
    exact ⟨b3, c3, rfl, hrow3, k3, hn3⟩
/-- What Encode writes. -/
def encR (k : Int) (l : List Val) : List UInt8 := if refE k l = 0 ∧ 0 < l.length then putB k l else []
def EncP (k : Int) (l : List Val) (w : World) (e : Ending) (w' : World) : Prop := ∃ b c, e = .returned (.tuple #[.slice b (encR k l).length c, .int .i64 (refE k l)]) ∧ Row w' (.slice b (encR k l).length c) (encR k l) ∧ Kp [] w w' ∧ ∀ k ∈ blk b, w.heap.size ≤ k
theorem refE_ok {k : Int} {l : List Val} (h : refE k l = 0) : knownB k = true ∧ l.length ≤ 64 ∧ allR l = true := by
  unfold refE at h
  split at h
  · cases h
  · rename_i h1
    split at h
    · cases h
    · rename_i h2
      split at h
      · cases h
      · rename_i h3
        exact ⟨by simpa using h1, by omega, by simpa using h3⟩
set_option maxHeartbeats 2000000 in
theorem cEncE (k : Int) (a : Option Addr) (ca : Nat) (l : List Val) (w : World) (ha : Vals w a l) (hc : l.length ≤ ca) (hm : ca ≤ maxLen) :
    Calls Try.prog 4 #[.int .i64 k, .slice a l.length ca] w (EncP k l w) := by
  have hlm : l.length ≤ 9223372036854775807 := by unfold maxLen at hm; omega
  have cR := cRefusedE k a ca l w ha hlm
  have hE : Hid (EncP k l w = fun e w' => ∃ b c, e = .returned (.tuple #[.slice b (encR k l).length c, .int .i64 (refE k l)]) ∧ Row w' (.slice b (encR k l).length c) (encR k l) ∧ Kp [] w w' ∧ ∀ k ∈ blk b, w.heap.size ≤ k) := rfl
  rw [hE.out]
  have hR : Hid (encR k l = if refE k l = 0 ∧ 0 < l.length then putB k l else []) := rfl
  have hok := hid (refE_ok (k := k) (l := l))
  obtain ⟨E, hEE⟩ : ∃ E, Hid (refE k l = E) := ⟨_, rfl⟩
  obtain ⟨R, hRR⟩ : ∃ R, Hid (encR k l = R) := ⟨_, rfl⟩
  rw [hEE.out] at cR hR hok
  rw [hRR.out] at hR
  rw [hEE.out, hRR.out]
  have ha' := hid ha
  have hm' := hid hm
  clear hE ha hm
  go_enter Try.func4, Try.ntmps4
  go_wp2_with fail
  refine cR.mono ?_
  rintro e w1 ⟨rfl, k1⟩
  by_cases h0 : E = 0
  · subst h0
    obtain ⟨_, hl64, hall⟩ := hok.out rfl
    by_cases hl0 : l.length = 0
    · have hRe : R = [] := by rw [hR.out, if_neg (by omega)]
      subst hRe
      rw [hl0] at *
      clear hR hRR cR
      go_wp2_with fail
      go_ret2
      exact ⟨none, 0, rfl, .inl ⟨rfl, rfl⟩, k1, by simp [blk]⟩
    · have hRe : Hid (putB k l = R) := by show _ = _; rw [hR.out, if_pos ⟨rfl, by omega⟩]
      have cP := cPut k a ca l w1 (ha'.out.kept k1) hc hm'.out hall (by omega) hl64
      rw [hRe.out] at cP
      have hd0 : ((l.length : Int) == 0) = false := by rw [beq_eq_false_iff_ne]; omega
      clear hR hRR hRe cR hall ha'
      go_wp2_with fail
      refine cP.mono ?_
      rintro e w3 ⟨b3, c3, rfl, hrow3, k3, hn3⟩
      go_wp2_with fail
      go_ret2
      exact ⟨b3, c3, rfl, hrow3, k1.trans k3 (by simp), fun k hk => by have := hn3 k hk; have := k1.size; omega⟩
  · have hRe : R = [] := by rw [hR.out, if_neg (fun h => h0 h.1)]
    subst hRe
    have d0 : (E != 0) = true := by simpa using h0
    have d1 : (E == 0) = false := by simpa using h0
    clear hR hRR cR hok
    go_wp2_with fail
    go_ret2
    exact ⟨none, 0, rfl, .inl ⟨rfl, rfl⟩, k1, by simp [blk]⟩
end Go.Proofs.Ytplefbcljggncab
end

section
namespace Go.Proofs.Ytplefbcljggncab
open Go.RowKit Go.Hay
set_option linter.unusedVariables false
set_option linter.unusedSimpArgs false

/-- The best of the first kinds, and how many bytes it takes (-1: none yet). -/
def bT (l : List Val) : Nat → Int × Int
  | 0 => (0, -1)
  | k + 1 => if refE k l = 0 ∧ ((bT l k).2 < 0 ∨ ((encR k l).length : Int) < (bT l k).2) then ((k : Int), ((encR k l).length : Int)) else bT l k
def bestV (l : List Val) : Int := (bT l 5).1
set_option maxHeartbeats 4000000 in
set_option maxRecDepth 100000 in
theorem cBest (a : Option Addr) (ca : Nat) (l : List Val) (w : World) (ha : Vals w a l) (hc : l.length ≤ ca) (hm : ca ≤ maxLen) :
    Calls Try.prog 5 #[.slice a l.length ca] w fun e w' => e = .returned (.int .i64 (bestV l)) ∧ Kp [] w w' := by
  have hE : Hid (∀ (k : Int) W, Kp [] w W → Calls Try.prog 4 #[.int .i64 k, .slice a l.length ca] W (EncP k l W)) := fun k W kW => cEncE k a ca l W (ha.kept kW) hc hm
  have hB : Hid (bestV l = (bT l 5).1) := rfl
  obtain ⟨F, hF⟩ : ∃ F, Hid (bestV l = F) := ⟨_, rfl⟩
  rw [hF.out] at hB ⊢
  clear ha hm hF hc
  go_enter Try.func5, Try.ntmps5
  go_wp2_with fail
  go_loopw [3, 4, 5] (fun s3 s4 s5 wn => ∃ k : Nat, k ≤ 5 ∧ s3 = .int .i64 (bT l k).1 ∧ s4 = .int .i64 (bT l k).2 ∧ s5 = .int .i64 k ∧ Kp [] w wn) (fun _ _ s5 _ => 5 - (intOf s5).toNat)
  case atStart => exact ⟨0, by omega, rfl, rfl, rfl, Kp.refl _ _⟩
  case round =>
    obtain ⟨k, hk, rfl, rfl, rfl, kn⟩ := hrel
    have hst : Hid (bT l (k + 1) = if refE k l = 0 ∧ ((bT l k).2 < 0 ∨ ((encR k l).length : Int) < (bT l k).2) then ((k : Int), ((encR k l).length : Int)) else bT l k) := rfl
    obtain ⟨⟨B1, B2⟩, hBT⟩ : ∃ p, Hid (bT l k = p) := ⟨_, rfl⟩
    by_cases hlt : k < 5
    · rw [hBT.out] at hst ⊢
      have cE := hE.out (k : Int) wr kn
      unfold EncP at cE
      obtain ⟨E, hEE⟩ : ∃ E, Hid (refE k l = E) := ⟨_, rfl⟩
      obtain ⟨R, hRR⟩ : ∃ R, Hid (encR k l = R) := ⟨_, rfl⟩
      rw [hEE.out, hRR.out] at hst
      rw [hEE.out, hRR.out] at cE
      dsimp only at hst ⊢
      have hk4 : (k : Int) ≤ 4 := by omega
      go_wp2_with fail
      refine cE.mono ?_
      rintro e w3 ⟨b3, c3, rfl, hrow3, k3, hn3⟩
      have k3' := kn.trans k3 (by simp)
      clear hrow3 hn3 cE k3
      by_cases h0 : E = 0
      · subst h0
        by_cases h1 : B2 < 0
        · have hst2 : Hid (bT l (k + 1) = ((k : Int), (R.length : Int))) := by show _ = _; rw [hst.out, if_pos ⟨rfl, .inl h1⟩]
          clear hst
          go_wp2_with fail
          exact ⟨⟨k + 1, by omega, by rw [hst2.out], by rw [hst2.out], by go_num, k3'⟩, by simp [intOf]; omega⟩
        · by_cases h2 : (R.length : Int) < B2
          · have hst2 : Hid (bT l (k + 1) = ((k : Int), (R.length : Int))) := by show _ = _; rw [hst.out, if_pos ⟨rfl, .inr h2⟩]
            clear hst
            go_wp2_with fail
            exact ⟨⟨k + 1, by omega, by rw [hst2.out], by rw [hst2.out], by go_num, k3'⟩, by simp [intOf]; omega⟩
          · have hst2 : Hid (bT l (k + 1) = (B1, B2)) := by
              show _ = _
              rw [hst.out, if_neg]
              rintro ⟨_, h | h⟩ <;> omega
            clear hst
            go_wp2_with fail
            exact ⟨⟨k + 1, by omega, by rw [hst2.out], by rw [hst2.out], by go_num, k3'⟩, by simp [intOf]; omega⟩
      · have hst2 : Hid (bT l (k + 1) = (B1, B2)) := by
          show _ = _
          rw [hst.out, if_neg (fun h => h0 h.1)]
        have d1 : (E == 0) = false := by simpa using h0
        clear hst
        go_wp2_with fail
        exact ⟨⟨k + 1, by omega, by rw [hst2.out], by rw [hst2.out], by go_num, k3'⟩, by simp [intOf]; omega⟩
    · obtain rfl : k = 5 := by omega
      rw [← hB.out]
      clear hst hBT
      go_wp2_with fail
      go_ret
      exact ⟨rfl, kn⟩
end Go.Proofs.Ytplefbcljggncab
end

section
namespace Go.Proofs.Ytplefbcljggncab
open Go.RowKit Go.Hay
set_option linter.unusedVariables false
set_option linter.unusedSimpArgs false

/-- No value. -/
def nilV : Val := ⟨0, false, 0, ⟨#[]⟩⟩
/-- The null, the bool or the int that bytes begin with, and in how many bytes; 0: none. -/
def fixF (add : Int) : List UInt8 → Val × Nat
  | [] => (nilV, 0)
  | f :: r =>
    if f.toNat = 0 then (nilV, 1)
    else if f.toNat = 1 then (match r with | [] => (nilV, 0) | y :: _ => if y.toNat ≤ 1 then (⟨1, y.toNat == 1, 0, ⟨#[]⟩⟩, 2) else (nilV, 0))
    else if f.toNat = 2 then (if 8 ≤ r.length then (⟨2, false, wrap64 (num (r.take 8) - add), ⟨#[]⟩⟩, 9) else (nilV, 0))
    else (nilV, 0)
/-- The value that a row's bytes begin with. -/
def rowF : List UInt8 → Val × Nat
  | [] => (nilV, 0)
  | f :: r =>
    if f.toNat = 3 then (match r with | [] => (nilV, 0) | y :: s => if y.toNat ≤ 64 ∧ y.toNat ≤ s.length then (⟨3, false, 0, ⟨(s.take y.toNat).toArray⟩⟩, 2 + y.toNat) else (nilV, 0))
    else fixF 0 (f :: r)

/-- Eight bytes or more are an array of eight. -/
theorem arrAt (a : Option Addr) (c : Nat) (w : World) : (Instr.arrayAt 108 (.slice a 8 c)).run Try.prog w = .ok (.pointer a) w := by
  simp [Instr.arrayAt, go_sem]
/-- Bytes that a slice sees, as a string. -/
theorem convSees {w : World} {a : Option Addr} {l : List UInt8} (h : Sees w a l) (c : Nat) : (convert 23 9 (.slice a l.length c)).run Try.prog w = .ok (.string ⟨l.toArray⟩) w := by
  rcases h with rfl | ⟨g, o, rfl, hc⟩
  · cases a with
    | none => exact run_convert_bytes_nil w 23 5 Try.underlying23 Try.underlying5 0 c 9 Try.underlying9
    | some ad => exact run_convert_bytes_back (P := Try.prog) w 23 9 5 ad c [] Try.underlying23 Try.underlying5 Try.underlying9 (fun j hj => by simp at hj)
  · refine run_convert_bytes_back (P := Try.prog) w 23 9 5 ⟨g, o, none⟩ c l Try.underlying23 Try.underlying5 Try.underlying9 (fun j hj => ?_)
    rw [Addr.add_lit]
    exact hc j l[j] (by simp)
theorem Box4.put {w : World} {q : Nat} {a b c d : Value} (h : Box4 w q a b c d) (a' b' c' d' : Value) : Box4 ((((w.setCell ⟨q, 0, none⟩ a').setCell ⟨q, 1, none⟩ b').setCell ⟨q, 2, none⟩ c').setCell ⟨q, 3, none⟩ d') q a' b' c' d' := by
  have n0 : ∀ (w : World) (i j : Nat) (v : Value), i ≠ j → (w.setCell ⟨q, j, none⟩ v).cell? ⟨q, i, none⟩ = w.cell? ⟨q, i, none⟩ := fun w i j v hij => World.cell?_setCell_other _ _ _ _ (by intro e; simp only [Addr.mk.injEq] at e; omega)
  refine ⟨?_, ?_, ?_, ?_, fun j => ?_⟩
  · rw [n0 _ 0 3 _ (by omega), n0 _ 0 2 _ (by omega), n0 _ 0 1 _ (by omega)]
    exact World.cell?_setCell_same _ _ _ h.c0
  · rw [n0 _ 1 3 _ (by omega), n0 _ 1 2 _ (by omega)]
    exact World.cell?_setCell_same _ _ _ ((n0 _ 1 0 _ (by omega)).trans h.c1)
  · rw [n0 _ 2 3 _ (by omega)]
    exact World.cell?_setCell_same _ _ _ ((n0 _ 2 1 _ (by omega)).trans ((n0 _ 2 0 _ (by omega)).trans h.c2))
  · exact World.cell?_setCell_same _ _ _ ((n0 _ 3 2 _ (by omega)).trans ((n0 _ 3 1 _ (by omega)).trans ((n0 _ 3 0 _ (by omega)).trans h.c3)))
  · rw [World.frozen?_setCell, World.frozen?_setCell, World.frozen?_setCell, World.frozen?_setCell]; exact h.free j
theorem gen4 {w0 w : World} {q : Nat} {a b c d : Value} {R : World → Prop} (h : Box4 w q a b c d) (hk : Kp [] w0 w) (hq : w0.heap.size ≤ q) (a' b' c' d' : Value)
    (H : ∀ W, Box4 W q a' b' c' d' → Kp [] w0 W → R W) : R ((((w.setCell ⟨q, 0, none⟩ a').setCell ⟨q, 1, none⟩ b').setCell ⟨q, 2, none⟩ c').setCell ⟨q, 3, none⟩ d') :=
  H _ (h.put a' b' c' d') ((((hk.setCell (.inr hq) _).setCell (.inr hq) _).setCell (.inr hq) _).setCell (.inr hq) _)

/-- What a call that takes a value hands back. -/
def Tk (w : World) (r : Val × Nat) (e : Ending) (w' : World) : Prop := e = .returned (.tuple #[r.1.v, .int .i64 r.2]) ∧ Kp [] w w'

set_option maxHeartbeats 4000000 in
set_option maxRecDepth 100000 in
theorem cTakeFixed (a : Option Addr) (c : Nat) (bs : List UInt8) (add : Int) (w : World) (hs : Sees w a bs) (hl : bs.length ≤ c) (hm : c ≤ maxLen) :
    Calls Try.prog 84 #[.slice a bs.length c, .int .u64 add] w (Tk w (fixF add bs)) := by
  have kW : Kp [] w (w.alloc (.cells #[.int .i64 0, .bool false, .int .i64 0, .string ⟨#[]⟩] 30)) := (Kp.refl _ _).alloc _
  have bA := Box4.new w (.int .i64 0) (.bool false) (.int .i64 0) (.string ⟨#[]⟩) 30
  cases bs with
  | nil =>
    go_enter Try.func84, Try.ntmps84
    go_wp2_with fail
    all_goals refine bodyPost_ret (v := .tuple #[Val.v nilV, .int .i64 0]) (by simp [results, Try.results84, go_sem, Val.v, nilV]) rfl ⟨?_, kW⟩
    rfl
  | cons f r =>
    obtain ⟨g, o, rfl, hc⟩ : ∃ g o, a = some ⟨g, o, none⟩ ∧ ∀ j u, (f :: r)[j]? = some u → w.cell? ⟨g, o + j, none⟩ = some (.int .u8 u.toNat) := by
      rcases hs with h | h
      · cases h
      · exact h
    have hc0 : w.cell? ⟨g, o, none⟩ = some (.int .u8 f.toNat) := hc 0 f rfl
    have hg := World.block_lt_of_cell? _ _ hc0
    have hf := f.toNat_lt
    have htl := fun n : Nat => (show Sees w (some ⟨g, o + 1, none⟩) (r.take n) by have := (Sees.tail hs 1).front n; simpa [Addr.add_lit] using this)
    rw [List.length_cons] at hl ⊢
    unfold maxLen at hm
    by_cases h0 : f.toNat = 0
    · have HF : Hid (fixF add (f :: r) = (nilV, 1)) := by show _ = _; simp [fixF, h0]
      rw [h0] at hc0
      clear hc h0 hs htl hf
      generalize fixF add (f :: r) = R at *
      go_enter Try.func84, Try.ntmps84
      go_wp2_with fail
      refine (cNull _).mono ?_
      rintro e w1 ⟨rfl, k1⟩
      have bA1 := boxKeep bA k1
      have q0 := bA1.c0; have q1 := bA1.c1; have q2 := bA1.c2; have q3 := bA1.c3
      have f0 := bA1.free 0; have f1 := bA1.free 1; have f2 := bA1.free 2; have f3 := bA1.free 3
      have kk := kW.trans k1 (by simp)
      go_wp2_with fail
      refine gen4 (R := fun W => bodyPost _ _ _ _ _ W) bA1 kk (Nat.le_refl _) _ _ _ _ ?_
      intro W bW kW2
      have r0 := bW.c0; have r1 := bW.c1; have r2 := bW.c2; have r3 := bW.c3
      refine bodyPost_ret (v := .tuple #[Val.v nilV, .int .i64 1]) (by simp [results, Try.results84, go_sem, Val.v, nilV, r0, r1, r2, r3]) rfl ⟨?_, kW2⟩
      all_goals (rw [HF.out]; rfl)
    have e0 : ((f.toNat : Int) == 0) = false := by simp; omega
    by_cases h1 : f.toNat = 1
    · rw [h1] at hc0
      cases r with
      | nil =>
        have HF : Hid (fixF add (f :: []) = (nilV, 0)) := by show _ = _; simp [fixF, h1]
        clear hc h0 h1 hs htl hf e0
        generalize fixF add (f :: []) = R at *
        rw [List.length_nil] at hl ⊢
        go_enter Try.func84, Try.ntmps84
        go_wp2_with fail
        all_goals refine bodyPost_ret (v := .tuple #[Val.v nilV, .int .i64 0]) (by simp [results, Try.results84, go_sem, Val.v, nilV]) rfl ⟨?_, kW⟩
        all_goals (rw [HF.out]; rfl)
      | cons y s =>
        have hc1 : w.cell? ⟨g, o + 1, none⟩ = some (.int .u8 y.toNat) := hc 1 y rfl
        rw [List.length_cons] at hl ⊢
        have hy := y.toNat_lt
        by_cases hy1 : y.toNat ≤ 1
        · have HF : Hid (fixF add (f :: y :: s) = (⟨1, y.toNat == 1, 0, ⟨#[]⟩⟩, 2)) := by show _ = _; simp [fixF, h1, hy1]
          clear hc h0 h1 hs htl hf e0
          generalize fixF add (f :: y :: s) = R at *
          obtain ⟨b, Hb⟩ : ∃ b : Bool, Hid ((y.toNat == 1) = b) := ⟨_, rfl⟩
          rw [Hb.out] at HF
          have hbb : ((y.toNat : Int) == 1) = b := by rw [← Hb.out, Bool.eq_iff_iff]; simp; omega
          go_enter Try.func84, Try.ntmps84
          go_wp2_with fail
          refine (cBool b _).mono ?_
          rintro e w1 ⟨rfl, k1⟩
          have bA1 := boxKeep bA k1
          have q0 := bA1.c0; have q1 := bA1.c1; have q2 := bA1.c2; have q3 := bA1.c3
          have f0 := bA1.free 0; have f1 := bA1.free 1; have f2 := bA1.free 2; have f3 := bA1.free 3
          have kk := kW.trans k1 (by simp)
          go_wp2_with fail
          refine gen4 (R := fun W => bodyPost _ _ _ _ _ W) bA1 kk (Nat.le_refl _) _ _ _ _ ?_
          intro W bW kW2
          have r0 := bW.c0; have r1 := bW.c1; have r2 := bW.c2; have r3 := bW.c3
          refine bodyPost_ret (v := .tuple #[Val.v ⟨1, b, 0, ⟨#[]⟩⟩, .int .i64 2]) (by simp [results, Try.results84, go_sem, Val.v, nilV, r0, r1, r2, r3]) rfl ⟨?_, kW2⟩
          all_goals (rw [HF.out]; rfl)
        · have HF : Hid (fixF add (f :: y :: s) = (nilV, 0)) := by show _ = _; simp [fixF, h1, hy1]
          clear hc h0 h1 hs htl hf e0
          generalize fixF add (f :: y :: s) = R at *
          go_enter Try.func84, Try.ntmps84
          go_wp2_with fail
          all_goals refine bodyPost_ret (v := .tuple #[Val.v nilV, .int .i64 0]) (by simp [results, Try.results84, go_sem, Val.v, nilV]) rfl ⟨?_, kW⟩
          all_goals (rw [HF.out]; rfl)
    have e1 : ((f.toNat : Int) == 1) = false := by simp; omega
    by_cases h2 : f.toNat = 2
    · rw [h2] at hc0
      by_cases h8 : 8 ≤ r.length
      · have HF : Hid (fixF add (f :: r) = (⟨2, false, wrap64 (num (r.take 8) - add), ⟨#[]⟩⟩, 9)) := by show _ = _; simp [fixF, h2, h8]
        obtain ⟨x0, x1, x2, x3, x4, x5, x6, x7, hr8⟩ : ∃ x0 x1 x2 x3 x4 x5 x6 x7 : UInt8, Hid (r.take 8 = [x0, x1, x2, x3, x4, x5, x6, x7]) := by
          match r, h8 with
          | x0 :: x1 :: x2 :: x3 :: x4 :: x5 :: x6 :: x7 :: r', _ => exact ⟨x0, x1, x2, x3, x4, x5, x6, x7, rfl⟩
        have hs8 := htl 8
        rw [hr8.out] at HF hs8
        have hN := cLongNum [x0, x1, x2, x3, x4, x5, x6, x7] rfl
        have hnb := num_lt64 [x0, x1, x2, x3, x4, x5, x6, x7] (by simp)
        rw [show long8 [x0, x1, x2, x3, x4, x5, x6, x7] = .agg #[.int .u8 x0.toNat, .int .u8 x1.toNat, .int .u8 x2.toNat, .int .u8 x3.toNat, .int .u8 x4.toNat, .int .u8 x5.toNat, .int .u8 x6.toNat, .int .u8 x7.toNat] from rfl] at hN
        have p0 : w.cell? ⟨g, o + 1, none⟩ = some (.int .u8 x0.toNat) := (by rcases hs8 with h | ⟨_, _, h, hh⟩; cases h; cases h; exact hh 0 _ rfl)
        have p1 : w.cell? ⟨g, o + 1 + 1, none⟩ = some (.int .u8 x1.toNat) := (by rcases hs8 with h | ⟨_, _, h, hh⟩; cases h; cases h; exact hh 1 _ rfl)
        have p2 : w.cell? ⟨g, o + 1 + 2, none⟩ = some (.int .u8 x2.toNat) := (by rcases hs8 with h | ⟨_, _, h, hh⟩; cases h; cases h; exact hh 2 _ rfl)
        have p3 : w.cell? ⟨g, o + 1 + 3, none⟩ = some (.int .u8 x3.toNat) := (by rcases hs8 with h | ⟨_, _, h, hh⟩; cases h; cases h; exact hh 3 _ rfl)
        have p4 : w.cell? ⟨g, o + 1 + 4, none⟩ = some (.int .u8 x4.toNat) := (by rcases hs8 with h | ⟨_, _, h, hh⟩; cases h; cases h; exact hh 4 _ rfl)
        have p5 : w.cell? ⟨g, o + 1 + 5, none⟩ = some (.int .u8 x5.toNat) := (by rcases hs8 with h | ⟨_, _, h, hh⟩; cases h; cases h; exact hh 5 _ rfl)
        have p6 : w.cell? ⟨g, o + 1 + 6, none⟩ = some (.int .u8 x6.toNat) := (by rcases hs8 with h | ⟨_, _, h, hh⟩; cases h; cases h; exact hh 6 _ rfl)
        have p7 : w.cell? ⟨g, o + 1 + 7, none⟩ = some (.int .u8 x7.toNat) := (by rcases hs8 with h | ⟨_, _, h, hh⟩; cases h; cases h; exact hh 7 _ rfl)
        clear hc h0 h1 h2 hs htl hf hs8 hr8
        generalize fixF add (f :: r) = R at *
        generalize num [x0, x1, x2, x3, x4, x5, x6, x7] = m at *
        have hc9 : (9 : Nat) ≤ c := by omega
        have hAt := arrAt (some ⟨g, o + 1, none⟩) (c - 1)
        go_enter Try.func84, Try.ntmps84
        go_wp2_with fail
        refine (hN _).mono ?_
        rintro e w1 ⟨rfl, k1⟩
        have kX := kW.trans ((kpNew _ (.cells #[.int .u8 x0.toNat, .int .u8 x1.toNat, .int .u8 x2.toNat, .int .u8 x3.toNat, .int .u8 x4.toNat, .int .u8 x5.toNat, .int .u8 x6.toNat, .int .u8 x7.toNat] 108)).trans k1 (by simp)) (by simp)
        have bA0 := boxKeep (boxKeep bA (kpNew _ (.cells #[.int .u8 x0.toNat, .int .u8 x1.toNat, .int .u8 x2.toNat, .int .u8 x3.toNat, .int .u8 x4.toNat, .int .u8 x5.toNat, .int .u8 x6.toNat, .int .u8 x7.toNat] 108))) k1
        have hww : wrap64 (IntKind.u64.wrap ((m : Int) - add)) = wrap64 ((m : Int) - add) := by rw [IntKind.wrap_u64]; unfold wrap64; omega
        generalize hz : wrap64 ((m : Int) - add) = z at *
        clear hz kW bA k1
        go_wp2_with fail
        refine (cInt z _).mono ?_
        rintro e w2 ⟨rfl, k2⟩
        have kW := kX
        have bA := bA0
        have k1 := k2
        have bA1 := boxKeep bA k1
        have q0 := bA1.c0; have q1 := bA1.c1; have q2 := bA1.c2; have q3 := bA1.c3
        have f0 := bA1.free 0; have f1 := bA1.free 1; have f2 := bA1.free 2; have f3 := bA1.free 3
        have kk := kW.trans k1 (by simp)
        go_wp2_with fail
        refine gen4 (R := fun W => bodyPost _ _ _ _ _ W) bA1 kk (Nat.le_refl _) _ _ _ _ ?_
        intro W bW kW2
        have r0 := bW.c0; have r1 := bW.c1; have r2 := bW.c2; have r3 := bW.c3
        refine bodyPost_ret (v := .tuple #[Val.v ⟨2, false, z, ⟨#[]⟩⟩, .int .i64 9]) (by simp [results, Try.results84, go_sem, Val.v, nilV, r0, r1, r2, r3]) rfl ⟨?_, kW2⟩
        all_goals (rw [HF.out]; rfl)
      · have HF : Hid (fixF add (f :: r) = (nilV, 0)) := by show _ = _; simp [fixF, h2, h8]
        clear hc h0 h1 h2 hs htl hf
        generalize fixF add (f :: r) = R at *
        go_enter Try.func84, Try.ntmps84
        go_wp2_with fail
        all_goals refine bodyPost_ret (v := .tuple #[Val.v nilV, .int .i64 0]) (by simp [results, Try.results84, go_sem, Val.v, nilV]) rfl ⟨?_, kW⟩
        all_goals (rw [HF.out]; rfl)
    have e2 : ((f.toNat : Int) == 2) = false := by simp; omega
    have HF : Hid (fixF add (f :: r) = (nilV, 0)) := by show _ = _; simp [fixF, h0, h1, h2]
    clear hs htl
    by_cases hlen : 1 ≤ r.length
    · obtain ⟨y, s, rfl⟩ : ∃ y s, r = y :: s := by cases r with | nil => simp at hlen | cons y s => exact ⟨y, s, rfl⟩
      have hc1 : w.cell? ⟨g, o + 1, none⟩ = some (.int .u8 y.toNat) := hc 1 y rfl
      clear hc h0 h1 h2 hf
      generalize fixF add (f :: y :: s) = R at *
      by_cases h9 : 9 ≤ (y :: s).length + 1
      · go_enter Try.func84, Try.ntmps84
        go_wp2_with fail
        all_goals refine bodyPost_ret (v := .tuple #[Val.v nilV, .int .i64 0]) (by simp [results, Try.results84, go_sem, Val.v, nilV]) rfl ⟨?_, kW⟩
        all_goals (rw [HF.out]; rfl)
      · go_enter Try.func84, Try.ntmps84
        go_wp2_with fail
        all_goals refine bodyPost_ret (v := .tuple #[Val.v nilV, .int .i64 0]) (by simp [results, Try.results84, go_sem, Val.v, nilV]) rfl ⟨?_, kW⟩
        all_goals (rw [HF.out]; rfl)
    · clear hc h0 h1 h2 hf
      generalize fixF add (f :: r) = R at *
      go_enter Try.func84, Try.ntmps84
      go_wp2_with fail
      all_goals refine bodyPost_ret (v := .tuple #[Val.v nilV, .int .i64 0]) (by simp [results, Try.results84, go_sem, Val.v, nilV]) rfl ⟨?_, kW⟩
      all_goals (rw [HF.out]; rfl)

set_option maxHeartbeats 4000000 in
set_option maxRecDepth 100000 in
theorem cTakeValue (a : Option Addr) (c : Nat) (bs : List UInt8) (w : World) (hs : Sees w a bs) (hl : bs.length ≤ c) (hm : c ≤ maxLen) :
    Calls Try.prog 80 #[.slice a bs.length c] w (Tk w (rowF bs)) := by
  have kW : Kp [] w (w.alloc (.cells #[.int .i64 0, .bool false, .int .i64 0, .string ⟨#[]⟩] 30)) := (Kp.refl _ _).alloc _
  have bA := Box4.new w (.int .i64 0) (.bool false) (.int .i64 0) (.string ⟨#[]⟩) 30
  have hT := fun w' (k : Kp [] w w') => cTakeFixed a c bs 0 w' (seesKeep hs k) hl hm
  cases bs with
  | nil =>
    rw [show rowF [] = fixF 0 [] from rfl]
    rw [List.length_nil] at hT ⊢
    generalize fixF 0 _ = R at *
    obtain ⟨⟨xk, xb, xn, xt⟩, n⟩ := R
    unfold Tk Val.v at hT ⊢
    dsimp only at hT ⊢
    go_enter Try.func80, Try.ntmps80
    go_wp2_with fail
    refine (hT _ kW).mono ?_
    rintro e w1 ⟨rfl, k1⟩
    have bA1 := boxKeep bA k1
    have q0 := bA1.c0; have q1 := bA1.c1; have q2 := bA1.c2; have q3 := bA1.c3
    have f0 := bA1.free 0; have f1 := bA1.free 1; have f2 := bA1.free 2; have f3 := bA1.free 3
    have kk := kW.trans k1 (by simp)
    go_wp2_with fail
    refine gen4 (R := fun W => bodyPost _ _ _ _ _ W) bA1 kk (Nat.le_refl _) _ _ _ _ ?_
    intro W bW kW2
    have r0 := bW.c0; have r1 := bW.c1; have r2 := bW.c2; have r3 := bW.c3
    refine bodyPost_ret (v := .tuple #[Val.v ⟨xk, xb, xn, xt⟩, .int .i64 n]) (by simp [results, Try.results80, go_sem, Val.v, nilV, r0, r1, r2, r3]) rfl ⟨?_, kW2⟩
    rfl
  | cons f r =>
    obtain ⟨g, o, rfl, hc⟩ : ∃ g o, a = some ⟨g, o, none⟩ ∧ ∀ j u, (f :: r)[j]? = some u → w.cell? ⟨g, o + j, none⟩ = some (.int .u8 u.toNat) := by
      rcases hs with h | h
      · cases h
      · exact h
    have hc0 : w.cell? ⟨g, o, none⟩ = some (.int .u8 f.toNat) := hc 0 f rfl
    have hg := World.block_lt_of_cell? _ _ hc0
    have hf := f.toNat_lt
    have htl := fun n : Nat => (show Sees w (some ⟨g, o + 1, none⟩) (r.take n) by have := (Sees.tail hs 1).front n; simpa [Addr.add_lit] using this)
    rw [List.length_cons] at hl ⊢
    unfold maxLen at hm
    by_cases h3 : f.toNat = 3
    · rw [h3] at hc0
      clear hT
      cases r with
      | nil =>
        have HF : Hid (rowF (f :: []) = (nilV, 0)) := by show _ = _; simp [rowF, h3]
        clear hc h3 hs htl hf
        generalize rowF (f :: []) = R at *
        rw [List.length_nil] at hl ⊢
        go_enter Try.func80, Try.ntmps80
        go_wp2_with fail
        all_goals refine bodyPost_ret (v := .tuple #[Val.v nilV, .int .i64 0]) (by simp [results, Try.results80, go_sem, Val.v, nilV]) rfl ⟨?_, kW⟩
        all_goals (rw [HF.out]; rfl)
      | cons y s =>
        have hc1 : w.cell? ⟨g, o + 1, none⟩ = some (.int .u8 y.toNat) := hc 1 y rfl
        rw [List.length_cons] at hl ⊢
        have hy := y.toNat_lt
        by_cases hy6 : y.toNat ≤ 64
        · by_cases hys : y.toNat ≤ s.length
          · have HF : Hid (rowF (f :: y :: s) = (⟨3, false, 0, ⟨(s.take y.toNat).toArray⟩⟩, 2 + y.toNat)) := by show _ = _; simp [rowF, h3, hy6, hys]
            have hs2 : Sees (w.alloc (.cells #[.int .i64 0, .bool false, .int .i64 0, .string ⟨#[]⟩] 30)) (some ⟨g, o + 2, none⟩) (s.take y.toNat) := by
              have := seesKeep ((Sees.tail hs 2).front y.toNat) kW
              simpa [Addr.add_lit] using this
            have hcv := convSees hs2 (c - 2)
            rw [show (s.take y.toNat).length = y.toNat by simp; omega] at hcv
            have hT0 : y.toNat = 0 → (⟨(s.take y.toNat).toArray⟩ : ByteArray) = ⟨#[]⟩ := by intro h; rw [h]; rfl
            have hcv0 := fun a c => convSees (w := w.alloc (.cells #[.int .i64 0, .bool false, .int .i64 0, .string ⟨#[]⟩] 30)) (Sees.nil _ a) c
            rw [List.length_nil] at hcv0
            generalize (⟨(s.take y.toNat).toArray⟩ : ByteArray) = T at *
            clear hc h3 hs htl hf hs2
            generalize rowF (f :: y :: s) = R at *
            generalize y.toNat = n at *
            by_cases hc2 : c = 2
            · subst hc2
              obtain rfl : n = 0 := by omega
              have hT1 := hT0 rfl
              subst hT1
              clear hcv hT0
              go_enter Try.func80, Try.ntmps80
              go_wp2_with fail
              refine (cText ⟨#[]⟩ _).mono ?_
              rintro e w1 ⟨rfl, k1⟩
              have bA1 := boxKeep bA k1
              have q0 := bA1.c0; have q1 := bA1.c1; have q2 := bA1.c2; have q3 := bA1.c3
              have f0 := bA1.free 0; have f1 := bA1.free 1; have f2 := bA1.free 2; have f3 := bA1.free 3
              have kk := kW.trans k1 (by simp)
              go_wp2_with fail
              refine gen4 (R := fun W => bodyPost _ _ _ _ _ W) bA1 kk (Nat.le_refl _) _ _ _ _ ?_
              intro W bW kW2
              have r0 := bW.c0; have r1 := bW.c1; have r2 := bW.c2; have r3 := bW.c3
              refine bodyPost_ret (v := .tuple #[Val.v ⟨3, false, 0, ⟨#[]⟩⟩, .int .i64 2]) (by simp [results, Try.results80, go_sem, Val.v, nilV, r0, r1, r2, r3]) rfl ⟨?_, kW2⟩
              rw [HF.out]; rfl
            clear hcv0 hT0
            go_enter Try.func80, Try.ntmps80
            go_wp2_with fail
            refine (cText T _).mono ?_
            rintro e w1 ⟨rfl, k1⟩
            have bA1 := boxKeep bA k1
            have q0 := bA1.c0; have q1 := bA1.c1; have q2 := bA1.c2; have q3 := bA1.c3
            have f0 := bA1.free 0; have f1 := bA1.free 1; have f2 := bA1.free 2; have f3 := bA1.free 3
            have kk := kW.trans k1 (by simp)
            go_wp2_with fail
            refine gen4 (R := fun W => bodyPost _ _ _ _ _ W) bA1 kk (Nat.le_refl _) _ _ _ _ ?_
            intro W bW kW2
            have r0 := bW.c0; have r1 := bW.c1; have r2 := bW.c2; have r3 := bW.c3
            refine bodyPost_ret (v := .tuple #[Val.v ⟨3, false, 0, T⟩, .int .i64 (2 + (n : Int))]) (by simp [results, Try.results80, go_sem, Val.v, nilV, r0, r1, r2, r3]) rfl ⟨?_, kW2⟩
            rw [HF.out]; rfl
          · have HF : Hid (rowF (f :: y :: s) = (nilV, 0)) := by show _ = _; simp [rowF, h3, hys]
            clear hc h3 hs htl hf
            generalize rowF (f :: y :: s) = R at *
            go_enter Try.func80, Try.ntmps80
            go_wp2_with fail
            all_goals refine bodyPost_ret (v := .tuple #[Val.v nilV, .int .i64 0]) (by simp [results, Try.results80, go_sem, Val.v, nilV]) rfl ⟨?_, kW⟩
            all_goals (rw [HF.out]; rfl)
        · have HF : Hid (rowF (f :: y :: s) = (nilV, 0)) := by show _ = _; simp [rowF, h3, hy6]
          clear hc h3 hs htl hf
          generalize rowF (f :: y :: s) = R at *
          go_enter Try.func80, Try.ntmps80
          go_wp2_with fail
          all_goals refine bodyPost_ret (v := .tuple #[Val.v nilV, .int .i64 0]) (by simp [results, Try.results80, go_sem, Val.v, nilV]) rfl ⟨?_, kW⟩
          all_goals (rw [HF.out]; rfl)
    · have e3 : ((f.toNat : Int) == 3) = false := by simp; omega
      rw [show rowF (f :: r) = fixF 0 (f :: r) by simp only [rowF, if_neg h3]]
      rw [List.length_cons] at hT
      have e3' : ((f.toNat : Int) != 3) = true := by simp; omega
      clear hc hs htl hf
      generalize fixF 0 _ = R at *
      obtain ⟨⟨xk, xb, xn, xt⟩, n⟩ := R
      unfold Tk Val.v at hT ⊢
      dsimp only at hT ⊢
      go_enter Try.func80, Try.ntmps80
      go_wp2_with fail
      refine (hT _ kW).mono ?_
      rintro e w1 ⟨rfl, k1⟩
      have bA1 := boxKeep bA k1
      have q0 := bA1.c0; have q1 := bA1.c1; have q2 := bA1.c2; have q3 := bA1.c3
      have f0 := bA1.free 0; have f1 := bA1.free 1; have f2 := bA1.free 2; have f3 := bA1.free 3
      have kk := kW.trans k1 (by simp)
      go_wp2_with fail
      refine gen4 (R := fun W => bodyPost _ _ _ _ _ W) bA1 kk (Nat.le_refl _) _ _ _ _ ?_
      intro W bW kW2
      have r0 := bW.c0; have r1 := bW.c1; have r2 := bW.c2; have r3 := bW.c3
      refine bodyPost_ret (v := .tuple #[Val.v ⟨xk, xb, xn, xt⟩, .int .i64 n]) (by simp [results, Try.results80, go_sem, Val.v, nilV, r0, r1, r2, r3]) rfl ⟨?_, kW2⟩
      rfl
end Go.Proofs.Ytplefbcljggncab
end

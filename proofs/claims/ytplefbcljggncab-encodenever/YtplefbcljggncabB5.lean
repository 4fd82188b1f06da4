/- Contracts of the library, laid at this program. The least int, and how much each is above it. What the dictionary asks of the library: Compare with its world, Clone, placeWidth. slices.Compact at values. Contracts of the library, laid at this program. slices.SortFunc and slices.Index at values, by the library's contracts. slices.Index at values; what the unlike values are. -/
import Derived.Shelf.Small.Bits
import Derived.Shelf.Strconv.Itoa0
import Derived.Test.YtplefbcljggncabProg
import Derived.Test.YtplefbcljggncabB4
import Derived.Test.YtplefbcljggncabB3
import Derived.Sort.Grow
import Derived.Laws.Cover3
import Derived.Shelf.SlGeneric
import Derived.Shelf.SlSortCmp.WholeK
import Derived.Shelf.SlicesQ.Index
import Derived.Laws.StructEq
import Derived.Ground.SlsfProg
import Derived.Ground.SlgqProg
section
namespace Go.Proofs
open Go.Shelf
def Try.lays125_ren : Go.Shelf.Ren := ⟨fun | 125 => 47 | 128 => 68 | 129 => 35 | n => n, fun | 46 => 69 | 3 => 3 | 51 => 94 | 53 => 51 | 4 => 4 | 5 => 5 | 9 => 9 | n => n, fun | n => n⟩
theorem Try.lays125 : Go.Proofs.Lays.n125 Try.prog Try.lays125_ren := {
  mixed := by kernel_rfl
  f125 := Try.func47.trans (congrArg some (by kernel_rfl))
  f128 := Try.func68.trans (congrArg some (by kernel_rfl))
  f129 := Try.func35.trans (congrArg some (by kernel_rfl))
  t3 := Try.underlying3
  a3 := Try.isAgg3
  z3 := Try.sizeOf3
  v3 := Try.zeroValue3
  t4 := Try.underlying4
  a4 := Try.isAgg4
  z4 := Try.sizeOf4
  v4 := Try.zeroValue4
  t5 := Try.underlying5
  a5 := Try.isAgg5
  z5 := Try.sizeOf5
  v5 := Try.zeroValue5
  t9 := Try.underlying9
  a9 := Try.isAgg9
  z9 := Try.sizeOf9
  v9 := Try.zeroValue9
  t46 := Try.underlying69
  a46 := Try.isAgg69
  z46 := Try.sizeOf69
  v46 := Try.zeroValue69
  t51 := Try.underlying94
  a51 := Try.isAgg94
  z51 := Try.sizeOf94
  v51 := Try.zeroValue94
  t53 := Try.underlying51
  a53 := Try.isAgg51
  z53 := Try.sizeOf51
  v53 := Try.zeroValue51 }
theorem Try.bits_Len (x : Int) (w : World) (h0 : 0 ≤ x) (h1 : x ≤ 18446744073709551615) :
    Calls Try.prog 47 #[.int .u64 x] w fun e w' => e = .returned (.int .i64 (Lib.bitLen x.toNat)) ∧ w' = w := Any.bits_Len Try.lays125 x w h0 h1
def Try.lays129_ren : Go.Shelf.Ren := ⟨fun | 129 => 35 | n => n, fun | 53 => 51 | 3 => 3 | 4 => 4 | 46 => 69 | 5 => 5 | 9 => 9 | n => n, fun | n => n⟩
theorem Try.lays129 : Go.Proofs.Lays.n129 Try.prog Try.lays129_ren := {
  mixed := by kernel_rfl
  f129 := Try.func35.trans (congrArg some (by kernel_rfl))
  t3 := Try.underlying3
  a3 := Try.isAgg3
  z3 := Try.sizeOf3
  v3 := Try.zeroValue3
  t4 := Try.underlying4
  a4 := Try.isAgg4
  z4 := Try.sizeOf4
  v4 := Try.zeroValue4
  t5 := Try.underlying5
  a5 := Try.isAgg5
  z5 := Try.sizeOf5
  v5 := Try.zeroValue5
  t9 := Try.underlying9
  a9 := Try.isAgg9
  z9 := Try.sizeOf9
  v9 := Try.zeroValue9
  t46 := Try.underlying69
  a46 := Try.isAgg69
  z46 := Try.sizeOf69
  v46 := Try.zeroValue69
  t53 := Try.underlying51
  a53 := Try.isAgg51
  z53 := Try.sizeOf51
  v53 := Try.zeroValue51 }
theorem Try.bits_Len64 (x : Int) (w : World) (h0 : 0 ≤ x) (h1 : x ≤ 18446744073709551615) :
    Calls Try.prog 35 #[.int .u64 x] w fun e w' => e = .returned (.int .i64 (Lib.bitLen x.toNat)) ∧ w' = w := Any.bits_Len64 Try.lays129 x w h0 h1
end Go.Proofs
end

section
namespace Go.Proofs.Ytplefbcljggncab
open Go.RowKit Go.Hay
set_option linter.unusedVariables false
set_option linter.unusedSimpArgs false

theorem infoU64 : ∃ i : TypeInfo, Try.prog.info? 51 = some i ∧ i.zero = some (.int .u64 0) ∧ i.size = 1 ∧ i.bytes = 8 := info3 (by kernel_rfl)
def leastTo (l : List Val) : Nat → Int
  | 0 => (l.getD 0 nv).n
  | j + 1 => min (leastTo l j) (l.getD j nv).n
def abv (l : List Val) (m : Int) (k : Nat) : Nat := (((l.getD k nv).n - m) % 18446744073709551616).toNat
def abvs (l : List Val) (m : Int) (j : Nat) : List Nat := (List.range j).map (abv l m)
def wdt (l : List Val) (m : Int) : Nat → Nat
  | 0 => 0
  | j + 1 => max (wdt l m j) (Lib.bitLen (abv l m j))
def bitsB (l : List Val) : List UInt8 := be (u64 (leastTo l l.length)) 8 ++ [octet (wdt l (leastTo l l.length) l.length)] ++ packB (abvs l (leastTo l l.length) l.length) (wdt l (leastTo l l.length) l.length)
theorem abv_lt (l : List Val) (m : Int) (k : Nat) : abv l m k < 18446744073709551616 := by unfold abv; omega
theorem abvs_length (l : List Val) (m : Int) (j : Nat) : (abvs l m j).length = j := by simp [abvs]
theorem abvs_succ (l : List Val) (m : Int) (j : Nat) : abvs l m (j + 1) = abvs l m j ++ [abv l m j] := by simp [abvs, List.range_succ]
theorem abvs_lt (l : List Val) (m : Int) (j : Nat) : ∀ x ∈ abvs l m j, x < 18446744073709551616 := fun x hx => by
  simp only [abvs, List.mem_map] at hx
  obtain ⟨k, _, rfl⟩ := hx
  exact abv_lt l m k
theorem bitLenAux_le : ∀ (f x : Nat), Lib.bitLenAux f x ≤ f
  | 0, x => by simp [Lib.bitLenAux]
  | f + 1, x => by
    have := bitLenAux_le f (x / 2)
    unfold Lib.bitLenAux
    split <;> omega
theorem bitLen_le64 (x : Nat) : Lib.bitLen x ≤ 64 := bitLenAux_le 64 x
theorem wdt_le (l : List Val) (m : Int) : ∀ j, wdt l m j ≤ 64
  | 0 => by simp [wdt]
  | j + 1 => by
    rw [wdt]
    have h1 := wdt_le l m j
    have h2 := bitLen_le64 (abv l m j)
    omega
theorem threeBs (w : World) {q : Nat} (hq : w.heap.size = q) (x y z : Bs) (t : TypeId) : BsE.See (w.alloc (.cells #[.slice x.a x.bs.length x.c, .slice y.a y.bs.length y.c, .slice z.a z.bs.length z.c] t)) (some ⟨q, 0, none⟩) [x, y, z] := by
  subst hq
  refine .inr ⟨_, 0, rfl, fun j u hu => ?_⟩
  have e : (w.alloc (.cells #[.slice x.a x.bs.length x.c, .slice y.a y.bs.length y.c, .slice z.a z.bs.length z.c] t)).cell? ⟨w.heap.size, 0 + j, none⟩ = _ := World.cell?_alloc_new w _ _ (0 + j)
  rw [e, Nat.zero_add]
  simpa [El.cs, BsE] using hu
set_option maxHeartbeats 4000000 in
set_option maxRecDepth 100000 in
theorem cPutBits (a : Option Addr) (ca : Nat) (l : List Val) (w : World) (ha : Vals w a l) (hc : l.length ≤ ca) (hm : ca ≤ maxLen) (h0 : 0 < l.length) (hl : l.length ≤ 64) :
    Calls Try.prog 17 #[.slice a l.length ca] w (NB (bitsB l) w) := by
  obtain ⟨g, o, rfl, a0, a1, a2, a3⟩ := ha.at 0 h0
  have e0 : l.getD 0 nv = l[0] := by simp [h0]
  rw [← e0, Nat.zero_mul, Nat.add_zero] at a2
  have hL0 : (l.getD 0 nv).n = leastTo l 0 := rfl
  rw [hL0] at a2
  clear hL0 e0 a0 a1 a3
  have hat : Hid (∀ W, Kp [] w W → ∀ j, j < l.length → W.cell? ⟨g, o + j * 4, none⟩ = some (.int .i64 (l.getD j nv).k) ∧ W.cell? ⟨g, o + j * 4 + 1, none⟩ = some (.bool (l.getD j nv).b) ∧ W.cell? ⟨g, o + j * 4 + 2, none⟩ = some (.int .i64 (l.getD j nv).n) ∧ W.cell? ⟨g, o + j * 4 + 3, none⟩ = some (.string (l.getD j nv).t)) := fun W kW j hj => by
    obtain ⟨_, _, e, y0, y1, y2, y3⟩ := (ha.kept kW).at j hj
    cases e
    have e1 : l.getD j nv = l[j] := by simp [hj]
    rw [e1]
    exact ⟨y0, y1, y2, y3⟩
  obtain ⟨F, hF⟩ : ∃ F, Hid (bitsB l = F) := ⟨_, rfl⟩
  rw [hF.out]
  obtain ⟨m0, hm0⟩ : ∃ m0, Hid (leastTo l 0 = m0) := ⟨_, rfl⟩
  rw [hm0.out] at a2
  clear ha
  go_enter Try.func17, Try.ntmps17
  go_wp2_with fail
  go_loopw [3, 16] (fun s i wn => ∃ j : Nat, j ≤ l.length ∧ i = .int .i64 j ∧ s = .int .i64 (leastTo l j) ∧ Kp [] w wn) (fun _ i _ => l.length - (intOf i).toNat)
  case atStart => exact ⟨0, Nat.zero_le _, rfl, by rw [hm0.out], Kp.refl _ _⟩
  case round =>
    clear a2
    obtain ⟨j, hj, rfl, rfl, kn⟩ := hrel
    by_cases hlt : j < l.length
    · obtain ⟨y0, y1, y2, y3⟩ := hat.out wr kn j hlt
      have hsu : Hid (leastTo l (j + 1) = min (leastTo l j) (l.getD j nv).n) := rfl
      obtain ⟨c, hc'⟩ : ∃ c, Hid (leastTo l j = c) := ⟨_, rfl⟩
      rw [hc'.out] at hsu ⊢
      obtain ⟨⟨vk, vb, vn, vt⟩, hv⟩ : ∃ v, Hid (l.getD j nv = v) := ⟨_, rfl⟩
      rw [hv.out] at y0 y1 y2 y3 hsu
      dsimp only at y0 y1 y2 y3 hsu
      have kA : Kp [] w (wr.alloc (.cells #[.int .i64 vk, .bool vb, .int .i64 vn, .string vt] 30)) := kn.alloc _
      go_wp2_with fail
      exact ⟨⟨j + 1, by omega, by go_num, by rw [hsu.out], kA⟩, by simp [intOf]; omega⟩
    · obtain rfl : j = l.length := by omega
      have hFe : Hid (F = be (u64 (leastTo l l.length)) 8 ++ [octet (wdt l (leastTo l l.length) l.length)] ++ packB (abvs l (leastTo l l.length) l.length) (wdt l (leastTo l l.length) l.length)) := by show _ = _; rw [← hF.out]; rfl
      obtain ⟨m, hmm⟩ : ∃ m, Hid (leastTo l l.length = m) := ⟨_, rfl⟩
      rw [hmm.out] at hFe ⊢
      clear hF hm0
      obtain ⟨i0, hi, hz0, hz1, hz2⟩ := infoU64
      obtain ⟨W1, hmk, hrow1, k1, hs1⟩ := run_makeG (E := U64E) (P := Try.prog) wr 56 51 i0 (.int .u64 0) 0 8 Try.underlying56 hi hz0 hz1 hz2 rfl .i64 .i64 l.length (by omega) (by unfold maxLen; omega)
      obtain ⟨q, hq⟩ : ∃ q, Hid (wr.heap.size = q) := ⟨_, rfl⟩
      rw [hq.out] at hmk hrow1
      have hqw : w.heap.size ≤ q := by rw [← hq.out]; exact kn.size
      have R1 : Hid (U64E.Row W1 (.slice (some ⟨q, 0, none⟩) l.length l.length) (abvs l m 0 ++ List.replicate (l.length - 0) 0) ∧ Kp [] w W1) := ⟨by simpa [abvs] using hrow1, kn.trans k1 (by simp)⟩
      clear hrow1 k1 hs1 kn
      go_wp2_with fail
      go_loopw [7, 30] (fun s i wn => ∃ j : Nat, j ≤ l.length ∧ i = .int .i64 j ∧ s = .int .i64 (wdt l m j) ∧ U64E.Row wn (.slice (some ⟨q, 0, none⟩) l.length l.length) (abvs l m j ++ List.replicate (l.length - j) 0) ∧ Kp [] w wn) (fun _ i _ => l.length - (intOf i).toNat)
      case atStart => exact ⟨0, Nat.zero_le _, rfl, rfl, R1.out.1, R1.out.2⟩
      case round =>
        clear hmk R1
        obtain ⟨j, hj, rfl, rfl, hrow, kn⟩ := hrel
        by_cases hlt : j < l.length
        · obtain ⟨y0, y1, y2, y3⟩ := hat.out wr kn j hlt
          have hw1 : Hid (wdt l m (j + 1) = max (wdt l m j) (Lib.bitLen (abv l m j))) := rfl
          have hA : Hid (abv l m j = (((l.getD j nv).n - m) % 18446744073709551616).toNat) := rfl
          have hAb := abv_lt l m j
          have hab := abvs_succ l m j
          have hal := abvs_length l m j
          obtain ⟨A, hAA⟩ : ∃ A, Hid (abv l m j = A) := ⟨_, rfl⟩
          rw [hAA.out] at hw1 hA hAb hab
          have hal' : (abvs l m j ++ List.replicate (l.length - j) 0).length = l.length := by simp [hal]; omega
          obtain ⟨⟨vk, vb, vn, vt⟩, hv⟩ : ∃ v, Hid (l.getD j nv = v) := ⟨_, rfl⟩
          rw [hv.out] at y0 y1 y2 y3 hA
          dsimp only at y0 y1 y2 y3 hA
          obtain ⟨wb, hwb⟩ : ∃ wb, wr.alloc (.cells #[.int .i64 vk, .bool vb, .int .i64 vn, .string vt] 30) = wb := ⟨_, rfl⟩
          have kb : Kp [] wr wb := by rw [← hwb]; exact (Kp.refl _ _).alloc _
          have bx : Box4 wb wr.heap.size (.int .i64 vk) (.bool vb) (.int .i64 vn) (.string vt) := by rw [← hwb]; exact Box4.new _ _ _ _ _ _
          have b2 := bx.c2
          have hrowb := hrow.keptNew kb
          have hput := hrowb.setAt j (by rw [hal']; exact hlt) A
          have e1 : (abvs l m j ++ List.replicate (l.length - j) 0).set j A = abvs l m (j + 1) ++ List.replicate (l.length - (j + 1)) 0 := by
            have := set_app (abvs l m j) 0 A (l.length - (j + 1))
            rw [hal, show l.length - (j + 1) + 1 = l.length - j by omega] at this
            rw [this, hab]
          rw [e1] at hput
          have hcf : (∃ u, wb.cell? ⟨q, j, none⟩ = some u) ∧ wb.frozen? ⟨q, j, none⟩ = false := by
            rcases hrowb with ⟨e, _⟩ | ⟨g9, o9, c9, e, q1, q2, q3, q4, q5⟩
            · cases e
            · injection e with e1 e2 e3
              injection e1 with e1
              injection e1 with e4 e5
              subst e3 e4 e5
              have h5 := q5 j (by have : U64E.n = 1 := rfl; rw [this]; omega)
              rw [Nat.zero_add] at h5
              exact ⟨Option.isSome_iff_exists.1 h5.1, h5.2⟩
          obtain ⟨⟨u, hu⟩, hfz⟩ := hcf
          have kf : Kp [] w (wb.setCell ⟨q, j, none⟩ (.int .u64 (A : Int))) := (kn.trans kb (by simp)).setCell (p := ⟨q, j, none⟩) (.inr (by simpa using hqw)) _
          have eW : Hid (wb.setCells q (0 + j * U64E.n) (U64E.c A) = wb.setCell ⟨q, j, none⟩ (.int .u64 (A : Int))) := by
            show _ = _
            have : U64E.n = 1 := rfl
            rw [this]
            simp [U64E, World.setCells]
          rw [eW.out] at hput
          have hl64 := fun W => Try.bits_Len64 (A : Int) W (by omega) (by omega)
          rw [Int.toNat_natCast] at hl64
          have hval : IntKind.u64.wrap (IntKind.u64.wrap vn - IntKind.u64.wrap m) = (A : Int) := by
            rw [IntKind.wrap_u64, IntKind.wrap_u64, IntKind.wrap_u64, hA.out]; omega
          obtain ⟨W0, hW0⟩ : ∃ W0, Hid (wdt l m j = W0) := ⟨_, rfl⟩
          obtain ⟨B0, hB0⟩ : ∃ B0, Hid (Lib.bitLen A = B0) := ⟨_, rfl⟩
          rw [hW0.out, hB0.out] at hw1
          simp only [hB0.out] at hl64
          rw [hW0.out]
          clear hrow hrowb bx kb eW e1 hal' hal hab hA
          go_wp2_with fail
          refine (hl64 _).mono ?_
          rintro e w9 ⟨rfl, hw9⟩
          rw [hw9]
          clear hw9 w9
          go_wp2_with fail
          exact ⟨⟨j + 1, by omega, by go_num, by rw [hw1.out]; go_num, hput, kf⟩, by simp [intOf]; omega⟩
        · obtain rfl : j = l.length := by omega
          have hwb := wdt_le l m l.length
          rw [Nat.sub_self, List.replicate_zero, List.append_nil] at hrow
          have hal := abvs_length l m l.length
          have halt := hid (abvs_lt l m l.length)
          obtain ⟨ab, hab⟩ : ∃ ab, Hid (abvs l m l.length = ab) := ⟨_, rfl⟩
          obtain ⟨wd, hwd⟩ : ∃ wd, Hid (wdt l m l.length = wd) := ⟨_, rfl⟩
          rw [hwd.out] at hwb hFe ⊢
          rw [hab.out] at hrow hal halt hFe
          have cW := cWordBytes m wr
          have hw8 : (be (u64 m) 8).length = 8 := be_length _ _
          obtain ⟨B8, hB8⟩ : ∃ B8, Hid (be (u64 m) 8 = B8) := ⟨_, rfl⟩
          rw [hB8.out] at cW hw8 hFe
          have hpl := packB_length ab wd
          have hpl2 : ab.length * wd ≤ 64 * 64 := Nat.mul_le_mul (by omega) hwb
          have hrest : Hid (∀ X Y, Kp [] wr X → X.alloc (.cells #[.int .u8 (wd : Int)] 5) = Y → Kp [] wr Y ∧ Calls Try.prog 33 #[.slice (some ⟨q, 0, none⟩) l.length l.length, .int .i64 wd] Y (NB (packB ab wd) Y)) := fun X Y kX hY => by
            have kY : Kp [] wr Y := by rw [← hY]; exact kX.alloc _
            obtain ⟨_, _, es, hs, _⟩ := (hrow.keptNew kY).see
            injection es with e1 e2 e3
            have := cPack (some ⟨q, 0, none⟩) l.length ab wd Y (by rw [e1]; exact hs) (by omega) halt.out hwb
            rw [hal] at this
            exact ⟨kY, this⟩
          have hend : Hid (∀ X Y Z V b1 c1 b3 c3, Kp [] wr X → Row X (.slice b1 B8.length c1) B8 → X.alloc (.cells #[.int .u8 (wd : Int)] 5) = Y → Kp [] Y Z → Row Z (.slice b3 (packB ab wd).length c3) (packB ab wd) → Z.alloc (.cells #[.slice b1 B8.length c1, .slice (some ⟨X.heap.size, 0, none⟩) 1 1, .slice b3 (packB ab wd).length c3] 23) = V →
              Kp [] w V ∧ Calls Try.prog 24 #[.slice (some ⟨Z.heap.size, 0, none⟩) 3 3] V (NB F V)) := fun X Y Z V b1 c1 b3 c3 kX hr1 hY kZ hr3 hV => by
            have kY : Kp [] X Y := by rw [← hY]; exact (Kp.refl _ _).alloc _
            have kV : Kp [] Z V := by rw [← hV]; exact (Kp.refl _ _).alloc _
            obtain ⟨_, _, e1, hs1, _⟩ := hr1.sees
            cases e1
            obtain ⟨_, _, e3, hs3, _⟩ := hr3.sees
            cases e3
            have hs2 : Sees Y (some ⟨X.heap.size, 0, none⟩) [octet wd] := by rw [← hY]; exact oneByte X rfl wd (by have := octet_toNat (wd : Int) (by omega) (by omega); omega) _
            have h3 : BsE.See V (some ⟨Z.heap.size, 0, none⟩) [⟨b1, c1, B8⟩, ⟨some ⟨X.heap.size, 0, none⟩, 1, [octet wd]⟩, ⟨b3, c3, packB ab wd⟩] := by rw [← hV]; exact threeBs Z rfl ⟨b1, c1, B8⟩ ⟨some ⟨X.heap.size, 0, none⟩, 1, [octet wd]⟩ ⟨b3, c3, packB ab wd⟩ _
            have hj := cJoin (some ⟨Z.heap.size, 0, none⟩) 3 [⟨b1, c1, B8⟩, ⟨some ⟨X.heap.size, 0, none⟩, 1, [octet wd]⟩, ⟨b3, c3, packB ab wd⟩] V h3 (fun x hx => by
              simp only [List.mem_cons, List.not_mem_nil, or_false] at hx
              rcases hx with rfl | rfl | rfl
              · exact hs1.kept (kY.trans (kZ.trans kV (by simp)) (by simp)) (by simp)
              · exact hs2.kept (kZ.trans kV (by simp)) (by simp)
              · exact hs3.kept kV (by simp)) (by simp) (by simp [flatB, hw8, hpl]; omega)
            have eF : flatB [⟨b1, c1, B8⟩, ⟨some ⟨X.heap.size, 0, none⟩, 1, [octet wd]⟩, ⟨b3, c3, packB ab wd⟩] = F := by rw [hFe.out]; simp [flatB]
            rw [eF] at hj
            exact ⟨kn.trans (kX.trans (kY.trans (kZ.trans kV (by simp)) (by simp)) (by simp)) (by simp), hj⟩
          obtain ⟨PB, hPB⟩ : ∃ PB, Hid (packB ab wd = PB) := ⟨_, rfl⟩
          simp only [hPB.out] at hrest hend
          clear hrow hFe hpl hpl2 hal hw8
          go_wp2_with fail
          refine cW.mono ?_
          rintro e X ⟨b1, c1, rfl, hr1, kX, hn1⟩
          obtain ⟨Y, hY⟩ : ∃ Y, X.alloc (.cells #[.int .u8 (wd : Int)] 5) = Y := ⟨_, rfl⟩
          obtain ⟨kY, cP⟩ := hrest.out X Y kX hY
          have he2 : Hid (∀ Z V b3 c3, Kp [] Y Z → Row Z (.slice b3 PB.length c3) PB → Z.alloc (.cells #[.slice b1 B8.length c1, .slice (some ⟨X.heap.size, 0, none⟩) 1 1, .slice b3 PB.length c3] 23) = V → Kp [] w V ∧ Calls Try.prog 24 #[.slice (some ⟨Z.heap.size, 0, none⟩) 3 3] V (NB F V)) := fun Z V b3 c3 kZ hr3 hV => hend.out X Y Z V b1 c1 b3 c3 kX hr1 hY kZ hr3 hV
          clear hr1 hrest hend cW
          go_wp2_with fail
          refine cP.mono ?_
          rintro e Z ⟨b3, c3, rfl, hr3, kZ, hn3⟩
          obtain ⟨V, hV⟩ : ∃ V, Z.alloc (.cells #[.slice b1 B8.length c1, .slice (some ⟨X.heap.size, 0, none⟩) 1 1, .slice b3 PB.length c3] 23) = V := ⟨_, rfl⟩
          obtain ⟨kV, cJ⟩ := he2.out Z V b3 c3 kZ hr3 hV
          clear hr3 he2 cP
          go_wp2_with fail
          refine cJ.mono ?_
          rintro e U ⟨b4, c4, rfl, hr4, kU, hn4⟩
          go_wp2_with fail
          go_ret
          exact ⟨b4, c4, rfl, hr4, kV.trans kU (by simp), fun k hk => by have := hn4 k hk; have := kV.size; omega⟩
end Go.Proofs.Ytplefbcljggncab
end

section
namespace Go.Proofs.Ytplefbcljggncab
open Go.RowKit Go.Hay
set_option linter.unusedVariables false
set_option linter.unusedSimpArgs false

theorem grow_two (w : World) (x y : Obj) : ∃ q os, (w.alloc x).alloc y = Go.Sort.grow (w.drewN q) os := ⟨0, #[x] ++ #[y], by rw [Go.Sort.alloc_eq_grow, Go.Sort.alloc_eq_grow, Go.Sort.grow_grow]; rfl⟩
set_option maxHeartbeats 2000000 in
set_option maxRecDepth 100000 in
/-- Compare: what it leaves is told to the last block. -/
theorem cCompareG (a b : Val) (w : World) : Calls Try.prog 30 #[a.v, b.v] w fun e w' => e = .returned (.int .i64 (cmpV a b)) ∧ ∃ q os, w' = Go.Sort.grow (w.drewN q) os := by
  obtain ⟨ak, ab, an, at'⟩ := a
  obtain ⟨bk, bb, bn, bt⟩ := b
  unfold Val.v
  have kw := hid (grow_two w (.cells #[.int .i64 ak, .bool ab, .int .i64 an, .string at'] 30) (.cells #[.int .i64 bk, .bool bb, .int .i64 bn, .string bt] 30))
  by_cases hk : ak = bk
  · subst hk
    by_cases h1 : ak = 1
    · subst h1
      go_enter Try.func30, Try.ntmps30
      go_wp2_with (first | (go_at_call 49; refine (cBools _ _ _).mono ?_; rintro e w' ⟨rfl, rfl⟩))
      go_ret
      exact ⟨by simp [cmpV, Val.lt, ci, cs, cb], kw.out⟩
    by_cases h2 : ak = 2
    · subst h2
      go_enter Try.func30, Try.ntmps30
      go_wp2_with (first | (go_at_call 50; refine (cCmpL _ _ _).mono ?_; rintro e w' ⟨rfl, rfl⟩))
      go_ret
      exact ⟨by simp [cmpV, Val.lt, ci, cs, cb], kw.out⟩
    by_cases h3 : ak = 3
    · subst h3
      go_enter Try.func30, Try.ntmps30
      go_wp2_with (first | (go_at_call 51; refine (cCmpS _ _ _).mono ?_; rintro e w' ⟨rfl, rfl⟩))
      go_ret
      exact ⟨by simp [cmpV, Val.lt, ci, cs, cb], kw.out⟩
    · have d1 : (ak == 1) = false := by simpa using h1
      have d2 : (ak == 2) = false := by simpa using h2
      have d3 : (ak == 3) = false := by simpa using h3
      go_enter Try.func30, Try.ntmps30
      go_wp2_with fail
      go_ret
      exact ⟨by simp [cmpV, Val.lt, ci, cs, cb, h1, h2, h3], kw.out⟩
  · have d1 : (ak == bk) = false := by simpa using hk
    have hk' : ¬ bk = ak := fun h => hk h.symm
    go_enter Try.func30, Try.ntmps30
    go_wp2_with (first | (go_at_call 48; refine (cCmpI _ _ _).mono ?_; rintro e w' ⟨rfl, rfl⟩))
    go_ret
    exact ⟨by simp [cmpV, Val.lt, ci, cs, cb, hk, hk'], kw.out⟩
theorem cPlaceWidth (n : Nat) (h : 0 < n) (hn : n ≤ 1000) (w : World) : Calls Try.prog 34 #[.int .i64 n] w fun e w' => e = .returned (.int .i64 (Lib.bitLen (n - 1))) ∧ w' = w := by
  have hl := fun W => Try.bits_Len (((n - 1 : Nat) : Int)) W (by omega) (by omega)
  rw [Int.toNat_natCast] at hl
  have e1 : (n : Int) - 1 = ((n - 1 : Nat) : Int) := by omega
  go_enter Try.func34, Try.ntmps34
  go_wp2_with fail
  refine (hl _).mono ?_
  rintro e w9 ⟨rfl, hw9⟩
  rw [hw9]
  clear hw9 w9
  go_wp2_with fail
  go_ret
  exact ⟨rfl, rfl⟩
theorem eqNilV (a : Option Addr) (n c : Nat) (w : World) : (binOp .eql 22 (.slice a n c) (.slice none 0 0)).run Try.prog w = .ok (.bool a.isNone) w := by
  simp only [binOp]
  simp [run_equal_slice_nil w 22 30 a n c Try.underlying22]
theorem rowNoneV (w : World) {q : Nat} (hq : w.heap.size = q) (C : Array Value) (t : TypeId) : VE.Row (w.alloc (.cells C t)) (.slice (some ⟨q, 0, none⟩) 0 0) [] := by
  subst hq
  exact .inr ⟨_, 0, 0, rfl, Nat.le_refl _, Nat.zero_le _, by simp, by intro j u hu; simp [El.cs] at hu, by intro j hj; omega⟩
/-- A copy of values, all new. -/
def CloneV (l : List Val) (w : World) (e : Ending) (w' : World) : Prop := ∃ a c, e = .returned (.slice a l.length c) ∧ VE.Row w' (.slice a l.length c) l ∧ Kp [] w w' ∧ ∀ k ∈ blk a, w.heap.size ≤ k
theorem infoV' : ∃ i : TypeInfo, Try.prog.info? 30 = some i ∧ i.zero = some (.agg #[.int .i64 0, .bool false, .int .i64 0, .string ⟨#[]⟩]) ∧ i.size = 4 ∧ i.bytes = 40 := info3 (by kernel_rfl)
set_option maxHeartbeats 4000000 in
set_option maxRecDepth 100000 in
theorem cCloneV (ad : Addr) (c : Nat) (l : List Val) (w : World) (hs : VE.See w (some ad) l) (hb : l.length ≤ 1000000) :
    Calls Try.prog 28 #[.slice (some ad) l.length c] w (CloneV l w) := by
  have e0 := eqNilV (some ad) l.length c
  go_enter Try.func28, Try.ntmps28
  have k1 : Kp [] w (w.alloc (.cells #[] 30)) := (Kp.refl _ _).alloc _
  have hr := rowNoneV w rfl #[] 30
  have hsr := (hs.keptNew k1).src (P := Try.prog) Try.underlying22 c
  obtain ⟨i0, hi, hz0, hz1, hz2⟩ := infoV'
  go_wp2_with (first | (refine wpAppG (E := VE) rfl _ _ 22 22 30 rfl i0 _ 40 Try.underlying22 hi hz0 hz1 hz2 rfl _ [] rfl hr _ l rfl hsr (by simp; omega) (by simp; omega) ?_; intro ys a' c' w' hy hrow hg hn) | fail)
  go_ret
  have e : ys = l := by rw [hy.out]; rfl
  subst e
  refine ⟨a', c', rfl, hrow, k1.trans hg (fun k hk => .inr ?_), fun k hk => ?_⟩
  · simp [own, Value.ownBlock, Act.eval] at hk; omega
  · rcases hn k hk with h1 | h1
    · simp [own, Value.ownBlock, Act.eval] at h1; omega
    · have := k1.size; omega
end Go.Proofs.Ytplefbcljggncab
end

section
namespace Go.Proofs.Ytplefbcljggncab
open Go.RowKit Go.Hay
set_option linter.unusedVariables false
set_option linter.unusedSimpArgs false

/-- The first j values, each run of alike ones once. -/
def cptTo (l : List Val) : Nat → List Val
  | 0 => []
  | j + 1 => if j ≠ 0 ∧ (l.getD j nv).eqv (l.getD (j - 1) nv) = true then cptTo l j else cptTo l j ++ [l.getD j nv]
def cpt (l : List Val) : List Val := cptTo l l.length
theorem cptTo_same (l : List Val) (j : Nat) (h0 : j ≠ 0) (h : (l.getD j nv).eqv (l.getD (j - 1) nv) = true) : cptTo l (j + 1) = cptTo l j := by rw [cptTo, if_pos ⟨h0, h⟩]
theorem cptTo_new (l : List Val) (j : Nat) (h : j = 0 ∨ (l.getD j nv).eqv (l.getD (j - 1) nv) = false) : cptTo l (j + 1) = cptTo l j ++ [l.getD j nv] := by
  rw [cptTo, if_neg]
  rintro ⟨h1, h2⟩
  rcases h with h | h
  · exact h1 h
  · rw [h] at h2; cases h2
theorem cptTo_le (l : List Val) : ∀ j, (cptTo l j).length ≤ j
  | 0 => by simp [cptTo]
  | j + 1 => by
    have := cptTo_le l j
    rw [cptTo]
    split
    · omega
    · simp; omega
theorem take_getD (l : List Val) (j : Nat) (h : j < l.length) : l.take j ++ [l.getD j nv] = l.take (j + 1) := by
  rw [List.take_add_one]; simp [h]
theorem info3' {i : Option TypeInfo} : True := trivial
structure At4 (W : World) (g p : Nat) (v : Val) : Prop where
  c0 : W.cell? ⟨g, p, none⟩ = some (.int .i64 v.k)
  c1 : W.cell? ⟨g, p + 1, none⟩ = some (.bool v.b)
  c2 : W.cell? ⟨g, p + 2, none⟩ = some (.int .i64 v.n)
  c3 : W.cell? ⟨g, p + 3, none⟩ = some (.string v.t)
  f0 : W.frozen? ⟨g, p, none⟩ = false
  f1 : W.frozen? ⟨g, p + 1, none⟩ = false
  f2 : W.frozen? ⟨g, p + 2, none⟩ = false
  f3 : W.frozen? ⟨g, p + 3, none⟩ = false
theorem rowAt4 {W : World} {g o n c : Nat} {L : List Val} (h : VE.Row W (.slice (some ⟨g, o, none⟩) n c) L) (i : Nat) (hi : i < L.length) : At4 W g (o + i * 4) (L.getD i nv) := by
  rcases h with ⟨e, _⟩ | ⟨g9, o9, c9, e, q1, q2, q3, q4, q5⟩
  · cases e
  · cases e
    have hx : L[i]? = some (L.getD i nv) := by simp [hi]
    have hc : ∀ k u, k < 4 → (VE.c (L.getD i nv))[k]? = some u → W.cell? ⟨g, o + i * 4 + k, none⟩ = some u := fun k u hk hu => by
      have := El.cs_get VE hx (k := k) hk
      rw [hu] at this
      have h2 := q4 _ u this
      have e4 : VE.n = 4 := rfl
      rw [e4] at h2
      rw [Nat.add_assoc]; exact h2
    have hf : ∀ k, k < 4 → W.frozen? ⟨g, o + i * 4 + k, none⟩ = false := fun k hk => by
      have := (q5 (i * 4 + k) (by have e4 : VE.n = 4 := rfl; rw [e4]; omega)).2
      rw [Nat.add_assoc]; exact this
    exact ⟨hc 0 _ (by omega) rfl, hc 1 _ (by omega) rfl, hc 2 _ (by omega) rfl, hc 3 _ (by omega) rfl, hf 0 (by omega), hf 1 (by omega), hf 2 (by omega), hf 3 (by omega)⟩
theorem row_front {W : World} {g o n c : Nat} {L : List Val} (h : VE.Row W (.slice (some ⟨g, o, none⟩) n c) L) (m : Nat) (hm : m ≤ L.length) : VE.Row W (.slice (some ⟨g, o, none⟩) m c) (L.take m) := by
  rcases h with ⟨e, _⟩ | ⟨g9, o9, c9, e, q1, q2, q3, q4, q5⟩
  · cases e
  · cases e
    refine .inr ⟨g, o, c, by simp; omega, by simp; omega, q2, q3, fun j u hu => ?_, q5⟩
    rw [El.cs_take] at hu
    refine q4 j u ?_
    have hj := (List.getElem?_eq_some_iff.1 hu).1
    rw [List.getElem?_take] at hu
    split at hu
    · exact hu
    · cases hu
theorem row_tail {W : World} {g o m c : Nat} {L : List Val} (h : VE.Row W (.slice (some ⟨g, o, none⟩) m c) L) (cs : List Value) (hm : L.length = m) (hcs : cs.length ≤ (c - m) * 4) (hs : ∀ j, j < cs.length → (W.cell? ⟨g, o + m * 4 + j, none⟩).isSome = true) : VE.Row (W.setCells g (o + m * 4) cs) (.slice (some ⟨g, o, none⟩) m c) L := by
  rcases h with ⟨e, _⟩ | ⟨g9, o9, c9, e, q1, q2, q3, q4, q5⟩
  · cases e
  · cases e
    have e4 : VE.n = 4 := rfl
    refine .inr ⟨g, o, c, rfl, q1, q2, by rw [size_setCells]; exact q3, fun j u hu => ?_, fun j hj => ⟨?_, (World.frozen?_setCells g _ _ _ _).trans (q5 j hj).2⟩⟩
    · have hj : j < L.length * 4 := by have := (List.getElem?_eq_some_iff.1 hu).1; rwa [El.cs_length, e4] at this
      rw [World.cell?_setCells_out g _ _ _ _ (fun _ _ => ?_)]
      · exact q4 j u hu
      · left
        show o + j < o + L.length * 4
        omega
    · by_cases hin : L.length * 4 ≤ j ∧ j < L.length * 4 + cs.length
      · have := World.cell?_setCells_in g cs (o + L.length * 4) W hs (j - L.length * 4) (by omega)
        rw [show o + L.length * 4 + (j - L.length * 4) = o + j by omega] at this
        rw [this]; rfl
      · rw [World.cell?_setCells_out g _ _ _ _ (fun _ _ => by show o + j < o + L.length * 4 ∨ o + L.length * 4 + cs.length ≤ o + j; omega)]
        exact (q5 j hj).1
/-- The rest of a row of values, made nought. -/
theorem run_clearV (W : World) (g o n c : Nat) (hn : 0 < n) (hc : ∀ j, j < n * 4 → (W.cell? ⟨g, o + j, none⟩).isSome = true ∧ W.frozen? ⟨g, o + j, none⟩ = false) :
    ∃ cs : List Value, cs.length = n * 4 ∧ ∀ ty, (Builtin.clear_ #[22] ty #[.slice (some ⟨g, o, none⟩) n c]).run Try.prog W = .ok (.tuple #[]) (W.setCells g o cs) := by
  have hv : ∀ w : World, (zeroValue 30).run Try.prog w = .ok (.agg #[.int .i64 0, .bool false, .int .i64 0, .string ⟨#[]⟩]) w := Try.zeroValue30
  obtain ⟨zc, hzc⟩ : ∃ zc, (Builtin.zeroCells (Value.agg #[.int .i64 0, .bool false, .int .i64 0, .string ⟨#[]⟩]).cells n).toList = zc := ⟨_, rfl⟩
  have hlen : zc.length = n * 4 := by rw [← hzc]; simp [Builtin.zeroCells, Value.cells]
  have hone : ∀ v ∈ zc, v.oneCell' = true := by
    intro v hv'
    rw [← hzc] at hv'
    simp only [Builtin.zeroCells, Value.cells, Array.toList_map, List.mem_map] at hv'
    obtain ⟨i, _, rfl⟩ := hv'
    have : i % 4 < 4 := Nat.mod_lt _ (by omega)
    show (#[Value.int .i64 0, .bool false, .int .i64 0, .string ⟨#[]⟩][i % 4]!).oneCell' = true
    generalize i % 4 = m at this
    match m, this with
    | 0, _ | 1, _ | 2, _ | 3, _ => rfl
  have hst := run_storeCells_cells (P := Try.prog) g o zc 0 W (by rw [hlen]; simpa using fun j hj => (hc j hj).1) (by rw [hlen]; simpa using fun j hj => (hc j hj).2) hone
  simp only [Nat.add_zero] at hst
  refine ⟨zc, hlen, fun ty => ?_⟩
  obtain ⟨m, rfl⟩ : ∃ m, n = m + 1 := ⟨n - 1, by omega⟩
  simp [Builtin.clear_, run_underlying Try.underlying22, hv, hzc, hst]
set_option maxHeartbeats 8000000 in
set_option maxRecDepth 100000 in
theorem cCompactV (g o c : Nat) (l : List Val) (w : World) (hs : VE.Row w (.slice (some ⟨g, o, none⟩) l.length c) l) (hl : l.length ≤ 1000000) (hc : l.length ≤ c) (hm : c ≤ maxLen) :
    Calls Try.prog 31 #[.slice (some ⟨g, o, none⟩) l.length c] w fun e w' => e = .returned (.slice (some ⟨g, o, none⟩) (cpt l).length c) ∧ VE.Row w' (.slice (some ⟨g, o, none⟩) (cpt l).length c) (cpt l) ∧ Kp [g] w w' := by
  unfold maxLen at hm
  have hF : Hid (cpt l = cptTo l l.length) := rfl
  by_cases h2 : l.length < 2
  · have e : Hid (cpt l = l) := by
      show _ = _
      match l, h2 with
      | [], _ => rfl
      | [x], _ => rfl
    rw [e.out]
    have hs' := hid hs
    clear hF hs
    go_enter Try.func31, Try.ntmps31
    go_wp2_with fail
    go_ret
    exact ⟨rfl, hs'.out, Kp.refl _ _⟩
  · have h1e : Hid (cptTo l 1 = l.take 1) := by
      show _ = _
      rw [cptTo_new l 0 (.inl rfl)]
      have := take_getD l 0 (by omega)
      simpa [cptTo] using this
    obtain ⟨F, hFF⟩ : ∃ F, Hid (cpt l = F) := ⟨_, rfl⟩
    rw [hFF.out] at hF ⊢
    have hs' := hid hs
    clear hs
    go_enter Try.func31, Try.ntmps31
    go_wp2_with fail
    go_loopw [3] (fun i wn => ∃ k : Nat, 1 ≤ k ∧ k ≤ l.length ∧ i = .int .i64 k ∧ Hid (cptTo l k = l.take k) ∧ VE.Row wn (.slice (some ⟨g, o, none⟩) l.length c) l ∧ Kp [] w wn) (fun i _ => l.length - (intOf i).toNat)
    case atStart => exact ⟨1, Nat.le_refl _, by omega, rfl, h1e, hs'.out, Kp.refl _ _⟩
    case round =>
      clear hs' h1e
      obtain ⟨k, hk1, hkl, rfl, htk, hrow, kn⟩ := hrel
      by_cases hlt : k < l.length
      · obtain ⟨a0, a1, a2, a3, _, _, _, _⟩ := rowAt4 hrow k hlt
        obtain ⟨b0, b1, b2, b3, _, _, _, _⟩ := rowAt4 hrow (k - 1) (by omega)
        have hsame := hid (cptTo_same l k (by omega))
        have hnew := hid (cptTo_new l k)
        have htg := hid (take_getD l k hlt)
        obtain ⟨⟨xk, xb, xn, xt⟩, hx⟩ : ∃ x, Hid (l.getD k nv = x) := ⟨_, rfl⟩
        obtain ⟨⟨yk, yb, yn, yt⟩, hy⟩ : ∃ y, Hid (l.getD (k - 1) nv = y) := ⟨_, rfl⟩
        rw [hx.out] at a0 a1 a2 a3
        rw [hy.out] at b0 b1 b2 b3
        rw [hx.out, hy.out] at hsame hnew
        rw [hx.out] at htg
        obtain ⟨X, HX, hX⟩ := eqV ⟨xk, xb, xn, xt⟩ ⟨yk, yb, yn, yt⟩
        dsimp only at a0 a1 a2 a3 b0 b1 b2 b3 hX
        have hrow' := hid hrow
        have i1 : (k : Int) < (l.length : Int) := by omega
        have i2 : (k : Int) - 1 < (l.length : Int) := by omega
        have i3 : (0 : Int) ≤ (k : Int) - 1 := by omega
        clear hrow
        go_wp2_with fail
        go_quiet ((fail))
        have kq : Kp [] w (wr.drewN nq) := kn.drewN nq
        have hrq := hid (hrow'.out.keptNew ((Kp.refl [] wr).drewN nq))
        generalize wr.drewN nq = wq at *
        clear hrow' a0 a1 a2 a3 b0 b1 b2 b3 hX
        cases X
        · have hst : Hid (cptTo l (k + 1) = l.take (k + 1)) := by
            show _ = _
            rw [hnew.out (.inr HX.out.symm), htk.out, htg.out]
          clear hsame hnew htg htk
          go_wp2_with fail
          exact ⟨⟨k + 1, by omega, by omega, by go_num, hst, hrq.out, kq⟩, by simp [intOf]; omega⟩
        · have hst : Hid (cptTo l (k + 1) = l.take k) := by
            show _ = _
            rw [hsame.out HX.out.symm, htk.out]
          clear hsame hnew htg htk HX
          go_wp2_with fail
          go_loopw [3, 5] (fun s3 s5 wn => ∃ (kk k2 : Nat), s3 = .int .i64 kk ∧ s5 = .int .i64 k2 ∧ 1 ≤ k2 ∧ k + k2 ≤ l.length ∧ kk < k + k2 ∧ Hid ((cptTo l (k + k2)).length = kk) ∧ VE.Row wn (.slice (some ⟨g, o, none⟩) l.length c) (cptTo l (k + k2) ++ l.drop kk) ∧ Kp [g] w wn) (fun _ s5 _ => l.length - k - (intOf s5).toNat)
          case atStart => exact ⟨k, 1, rfl, rfl, Nat.le_refl _, by omega, by omega, by show _ = _; rw [hst.out]; simp; omega, by rw [hst.out, List.take_append_drop]; exact hrq.out, kq.mono (by simp)⟩
          case round =>
            clear hrq hst
            obtain ⟨kk, k2, rfl, rfl, h21, h2l, hkk, hpl, hrow, kn2⟩ := hrel
            have hLl : (cptTo l (k + k2) ++ l.drop kk).length = l.length := by rw [List.length_append, hpl.out]; simp; omega
            by_cases hlt2 : k + k2 < l.length
            · have hgd : Hid (∀ i, kk ≤ i → (cptTo l (k + k2) ++ l.drop kk).getD i nv = l.getD i nv) := fun i hi => by
                simp only [List.getD_eq_getElem?_getD]
                rw [List.getElem?_append_right (by rw [hpl.out]; exact hi), hpl.out, List.getElem?_drop]
                congr 2
                omega
              obtain ⟨a0, a1, a2, a3, _, _, _, _⟩ := rowAt4 hrow (k + k2) (by omega)
              obtain ⟨b0, b1, b2, b3, _, _, _, _⟩ := rowAt4 hrow (k + k2 - 1) (by omega)
              rw [hgd.out _ (by omega)] at a0 a1 a2 a3
              rw [hgd.out _ (by omega)] at b0 b1 b2 b3
              have hsame := hid (cptTo_same l (k + k2) (by omega))
              have hnew := hid (cptTo_new l (k + k2))
              obtain ⟨⟨uk, ub, un, ut⟩, hu⟩ : ∃ x, Hid (l.getD (k + k2) nv = x) := ⟨_, rfl⟩
              obtain ⟨⟨vk, vb, vn, vt⟩, hv⟩ : ∃ y, Hid (l.getD (k + k2 - 1) nv = y) := ⟨_, rfl⟩
              rw [hu.out] at a0 a1 a2 a3
              rw [hv.out] at b0 b1 b2 b3
              rw [hu.out, hv.out] at hsame hnew
              obtain ⟨X, HX, hX⟩ := neV ⟨uk, ub, un, ut⟩ ⟨vk, vb, vn, vt⟩
              dsimp only at a0 a1 a2 a3 b0 b1 b2 b3 hX
              have e1 : o + (k + k2) * 4 = o + k * 4 + k2 * 4 := by omega
              have e2 : o + (k + k2 - 1) * 4 = o + k * 4 + (k2 - 1) * 4 := by omega
              rw [e1] at a0 a1 a2 a3
              rw [e2] at b0 b1 b2 b3
              have hrow' := hid hrow
              have i1 : (k2 : Int) < ((l.length - k : Nat) : Int) := by omega
              have i2 : (k2 : Int) - 1 < ((l.length - k : Nat) : Int) := by omega
              have i3 : (0 : Int) ≤ (k2 : Int) - 1 := by omega
              have j1 : k2 < l.length - k := by omega
              clear hrow e1 e2
              go_wp2_with fail
              go_quiet ((fail))
              have kq2 : Kp [g] w (wr.drewN nq) := kn2.drewN nq
              have hrq2 := hrow'.out.keptNew ((Kp.refl [] wr).drewN nq)
              have C0 : (wr.drewN nq).cell? ⟨g, o + k * 4 + k2 * 4, none⟩ = some (.int .i64 uk) := a0
              have C1 : (wr.drewN nq).cell? ⟨g, o + k * 4 + k2 * 4 + 1, none⟩ = some (.bool ub) := a1
              have C2 : (wr.drewN nq).cell? ⟨g, o + k * 4 + k2 * 4 + 2, none⟩ = some (.int .i64 un) := a2
              have C3 : (wr.drewN nq).cell? ⟨g, o + k * 4 + k2 * 4 + 3, none⟩ = some (.string ut) := a3
              generalize wr.drewN nq = wq2 at *
              clear hrow' a0 a1 a2 a3 b0 b1 b2 b3 hX
              cases X
              · have hst : Hid (cptTo l (k + k2 + 1) = cptTo l (k + k2) ++ [⟨uk, ub, un, ut⟩]) := by
                  show _ = _
                  rw [hnew.out (.inr HX.out.symm)]
                obtain ⟨d0, d1, d2, d3, f0, f1, f2, f3⟩ := rowAt4 hrq2 kk (by omega)
                have hset := hrq2.setAt kk (by omega) ⟨uk, ub, un, ut⟩
                have eL : (cptTo l (k + k2) ++ l.drop kk).set kk ⟨uk, ub, un, ut⟩ = cptTo l (k + k2 + 1) ++ l.drop (kk + 1) := by
                  rw [hst.out]
                  have hd : l.drop kk = l.getD kk nv :: l.drop (kk + 1) := by
                    rw [List.drop_eq_getElem_cons (show kk < l.length by omega)]
                    simp [show kk < l.length by omega]
                  rw [hd, List.set_append_right _ _ (by rw [hpl.out]; exact Nat.le_refl _), hpl.out, Nat.sub_self]
                  simp
                rw [eL] at hset
                have hpl2 : Hid ((cptTo l (k + k2 + 1)).length = kk + 1) := by show _ = _; rw [hst.out]; simp [hpl.out]
                have eW : Hid (wq2.setCells g (o + kk * VE.n) (VE.c ⟨uk, ub, un, ut⟩) = (((wq2.setCell ⟨g, o + kk * 4, none⟩ (.int .i64 uk)).setCell ⟨g, o + kk * 4 + 1, none⟩ (.bool ub)).setCell ⟨g, o + kk * 4 + 2, none⟩ (.int .i64 un)).setCell ⟨g, o + kk * 4 + 3, none⟩ (.string ut)) := by
                  show _ = _
                  have e4 : VE.n = 4 := rfl
                  rw [e4]
                  rfl
                have kS : Kp [g] w (wq2.setCells g (o + kk * VE.n) (VE.c ⟨uk, ub, un, ut⟩)) := kq2.setCells (.inl (by simp)) _ _
                rw [eW.out] at hset kS
                have hset' := hid hset
                generalize (cptTo l (k + k2) ++ l.drop kk).getD kk nv = old at *
                have hkkl : (kk : Int) < (l.length : Int) := by omega
                clear hset hrq2 hsame hnew hst hpl eL eW hgd HX
                go_wp2_with fail
                exact ⟨⟨kk + 1, k2 + 1, by go_num, by go_num, by omega, by omega, by omega, hpl2, hset'.out, kS⟩, by simp [intOf]; omega⟩
              · have hst : Hid (cptTo l (k + k2 + 1) = cptTo l (k + k2)) := by
                  show _ = _
                  rw [hsame.out HX.out.symm]
                have hpl2 : Hid ((cptTo l (k + k2 + 1)).length = kk) := by show _ = _; rw [hst.out, hpl.out]
                rw [← hst.out] at hrq2
                have hrq2' := hid hrq2
                clear hrq2 hsame hnew hst hpl hgd HX
                go_wp2_with fail
                exact ⟨⟨kk, k2 + 1, rfl, by go_num, by omega, by omega, by omega, hpl2, hrq2'.out, kq2⟩, by simp [intOf]; omega⟩
            · obtain hend : k + k2 = l.length := by omega
              rw [hend, ← hF.out] at hrow hpl hLl
              have hn0 : 0 < l.length - kk := by omega
              have hcc : ∀ j, j < (l.length - kk) * 4 → (wr.cell? ⟨g, o + kk * 4 + j, none⟩).isSome = true ∧ wr.frozen? ⟨g, o + kk * 4 + j, none⟩ = false := fun j hj => by
                rcases hrow with ⟨e, _⟩ | ⟨g9, o9, c9, e, q1, q2, q3, q4, q5⟩
                · cases e
                · injection e with e1 e2 e3
                  injection e1 with e1
                  injection e1 with e4 e5
                  subst e3 e4 e5
                  have := q5 (kk * 4 + j) (by have e4 : VE.n = 4 := rfl; rw [e4]; omega)
                  rw [← Nat.add_assoc] at this
                  exact this
              obtain ⟨cs, hcs, hcl⟩ := run_clearV wr g (o + kk * 4) (l.length - kk) (c - kk) hn0 hcc
              have hfr := row_front hrow kk (by omega)
              have eF : (F ++ l.drop kk).take kk = F := by rw [← hpl.out]; simp
              rw [eF] at hfr
              have hpl' : Hid (kk = F.length) := hpl.out.symm
              have hrt := row_tail hfr cs hpl.out (by rw [hcs]; omega) (fun j hj => (hcc j (by omega)).1)
              have kS : Kp [g] w (wr.setCells g (o + kk * 4) cs) := kn2.setCells (.inl (by simp)) _ _
              have hrt' := hid hrt
              have n1 : ¬ (k2 : Int) < ((l.length - k : Nat) : Int) := by omega
              have n2 : (kk : Int) ≤ (l.length : Int) := by omega
              have n3 : (kk : Int) ≤ (c : Int) := by omega
              have n4 : kk < l.length := by omega
              have n5 : kk < c := by omega
              clear hfr hrow hpl hLl hcc hrt eF hcs hF hFF
              go_wp2_with fail
              go_ret
              rw [← hpl'.out]
              exact ⟨rfl, hrt'.out, kS⟩
      · obtain rfl : k = l.length := by omega
        rw [List.take_length] at htk
        have hfin : Hid (F = l) := by show _ = _; rw [hF.out, htk.out]
        have hrow' := hid hrow
        clear hrow htk hF
        go_wp2_with fail
        go_ret
        rw [hfin.out]
        exact ⟨rfl, hrow'.out, kn.mono (by simp)⟩
end Go.Proofs.Ytplefbcljggncab
end

section
namespace Go.Proofs
open Go.Shelf
def Try.lsortf_ren : Go.Shelf.Ren := ⟨fun | 6 => 29 | 15 => 47 | 14 => 46 | 28 => 68 | 29 => 35 | 20 => 60 | 21 => 61 | 22 => 62 | 23 => 63 | 24 => 64 | 25 => 65 | 26 => 66 | 27 => 67 | 46 => 75 | 47 => 76 | 48 => 77 | 49 => 78 | 50 => 79 | 57 => 83 | n => n, fun | 22 => 22 | 24 => 30 | 25 => 55 | 3 => 3 | 39 => 69 | 0 => 0 | 53 => 94 | 55 => 51 | 4 => 4 | 46 => 87 | 45 => 86 | 50 => 91 | 5 => 5 | 9 => 9 | 66 => 100 | 70 => 104 | 76 => 110 | 77 => 111 | n => n, fun | n => n⟩
theorem Try.lsortf : Go.Proofs.SlLaysF0.n6 Try.prog Try.lsortf_ren := {
  mixed := by kernel_rfl
  f6 := ⟨Try.f29.name, by decide, Try.func29.trans (congrArg some (by kernel_rfl))⟩
  f14 := ⟨Try.f46.name, by decide, Try.func46.trans (congrArg some (by kernel_rfl))⟩
  f15 := Try.func47.trans (congrArg some (by kernel_rfl))
  f20 := ⟨Try.f60.name, by decide, Try.func60.trans (congrArg some (by kernel_rfl))⟩
  f21 := ⟨Try.f61.name, by decide, Try.func61.trans (congrArg some (by kernel_rfl))⟩
  f22 := ⟨Try.f62.name, by decide, Try.func62.trans (congrArg some (by kernel_rfl))⟩
  f23 := ⟨Try.f63.name, by decide, Try.func63.trans (congrArg some (by kernel_rfl))⟩
  f24 := ⟨Try.f64.name, by decide, Try.func64.trans (congrArg some (by kernel_rfl))⟩
  f25 := ⟨Try.f65.name, by decide, Try.func65.trans (congrArg some (by kernel_rfl))⟩
  f26 := ⟨Try.f66.name, by decide, Try.func66.trans (congrArg some (by kernel_rfl))⟩
  f27 := ⟨Try.f67.name, by decide, Try.func67.trans (congrArg some (by kernel_rfl))⟩
  f28 := Try.func68.trans (congrArg some (by kernel_rfl))
  f29 := Try.func35.trans (congrArg some (by kernel_rfl))
  f46 := ⟨Try.f75.name, by decide, Try.func75.trans (congrArg some (by kernel_rfl))⟩
  f47 := Try.func76.trans (congrArg some (by kernel_rfl))
  f48 := Try.func77.trans (congrArg some (by kernel_rfl))
  f49 := ⟨Try.f78.name, by decide, Try.func78.trans (congrArg some (by kernel_rfl))⟩
  f50 := ⟨Try.f79.name, by decide, Try.func79.trans (congrArg some (by kernel_rfl))⟩
  f57 := ⟨Try.f83.name, by decide, Try.func83.trans (congrArg some (by kernel_rfl))⟩
  t0 := Try.underlying0
  a0 := Try.isAgg0
  z0 := Try.sizeOf0
  v0 := Try.zeroValue0
  t3 := Try.underlying3
  a3 := Try.isAgg3
  z3 := Try.sizeOf3
  v3 := Try.zeroValue3
  t4 := Try.underlying4
  a4 := Try.isAgg4
  z4 := Try.sizeOf4
  v4 := Try.zeroValue4
  t5 := Try.underlying5
  a5 := Try.isAgg5
  z5 := Try.sizeOf5
  v5 := Try.zeroValue5
  t9 := Try.underlying9
  a9 := Try.isAgg9
  z9 := Try.sizeOf9
  v9 := Try.zeroValue9
  t22 := Try.underlying22
  a22 := Try.isAgg22
  z22 := Try.sizeOf22
  v22 := Try.zeroValue22
  t25 := Try.underlying55
  a25 := Try.isAgg55
  z25 := Try.sizeOf55
  v25 := Try.zeroValue55
  t39 := Try.underlying69
  a39 := Try.isAgg69
  z39 := Try.sizeOf69
  v39 := Try.zeroValue69
  t45 := Try.underlying86
  a45 := Try.isAgg86
  z45 := Try.sizeOf86
  v45 := Try.zeroValue86
  t46 := Try.underlying87
  a46 := Try.isAgg87
  z46 := Try.sizeOf87
  v46 := Try.zeroValue87
  t50 := Try.underlying91
  a50 := Try.isAgg91
  z50 := Try.sizeOf91
  v50 := Try.zeroValue91
  t53 := Try.underlying94
  a53 := Try.isAgg94
  z53 := Try.sizeOf94
  v53 := Try.zeroValue94
  t55 := Try.underlying51
  a55 := Try.isAgg51
  z55 := Try.sizeOf51
  v55 := Try.zeroValue51
  t66 := Try.underlying100
  a66 := Try.isAgg100
  z66 := Try.sizeOf100
  v66 := Try.zeroValue100
  t70 := Try.underlying104
  a70 := Try.isAgg104
  z70 := Try.sizeOf104
  v70 := Try.zeroValue104
  t76 := Try.underlying110
  a76 := Try.isAgg110
  z76 := Try.sizeOf110
  v76 := Try.zeroValue110
  t77 := Try.underlying111
  a77 := Try.isAgg111
  z77 := Try.sizeOf111
  v77 := Try.zeroValue111 }
def Try.lindex_ren : Go.Shelf.Ren := ⟨fun | 6 => 32 | n => n, fun | 22 => 22 | 24 => 30 | 3 => 3 | 0 => 0 | 4 => 4 | n => n, fun | n => n⟩
theorem Try.lindex : Go.Proofs.SlLaysQ.n6 Try.prog Try.lindex_ren := {
  mixed := by kernel_rfl
  f6 := ⟨Try.f32.name, by decide, Try.func32.trans (congrArg some (by kernel_rfl))⟩
  t0 := Try.underlying0
  a0 := Try.isAgg0
  z0 := Try.sizeOf0
  v0 := Try.zeroValue0
  t3 := Try.underlying3
  a3 := Try.isAgg3
  z3 := Try.sizeOf3
  v3 := Try.zeroValue3
  t4 := Try.underlying4
  a4 := Try.isAgg4
  z4 := Try.sizeOf4
  v4 := Try.zeroValue4
  t22 := Try.underlying22
  a22 := Try.isAgg22
  z22 := Try.sizeOf22
  v22 := Try.zeroValue22 }
end Go.Proofs
end

section
namespace Go.Proofs.Ytplefbcljggncab
open Go.RowKit Go.Hay Go.Sort
set_option linter.unusedVariables false
set_option linter.unusedSimpArgs false

instance : Inhabited Val := ⟨nv⟩
theorem ltV (x y : Val) : ltOf cmpV x y = x.lt y := by
  unfold ltOf cmpV
  cases h : x.lt y
  · cases h2 : y.lt x <;> simp [h, h2]
  · simp [h]
theorem ltV_trans (x y z : Val) (h : x.lt y = true) (k : y.lt z = true) : x.lt z = true := by
  cases hz : x.lt z with
  | true => rfl
  | false =>
    have h1 := Val.lt_asymm _ _ k
    have := Val.lt_ntrans y z x h1 hz
    rw [this] at h; cases h
theorem swoV : SWO (ltOf cmpV) where
  irrefl x := by rw [ltV]; exact Val.lt_irr x
  trans x y z h1 h2 := by rw [ltV] at *; exact ltV_trans x y z h1 h2
  ntrans x y z h1 h2 := by rw [ltV] at *; exact Val.lt_ntrans z y x h2 h1
theorem kp_sorted {enc : Val → List Value} {w : World} {g o n : Nat} {d : Array Val} {os : Array Obj} : Kp [g] w (sortWorldK enc 4 w g o n d os) := by
  refine ⟨rfl, rfl, rfl, size_sortWorldK_c enc 4 w g o n d os, fun k hk hne => ?_⟩
  unfold sortWorldK putRowK
  rw [heap_grow_old _ _ (by simpa using hk)]
  have : g ≠ k := fun e => hne (by simp [e])
  simp [putRow, mapBlock, Sort.ahead, Array.getElem?_modify, this]
theorem enterCmp : ∀ args w, (callFunc 30 args).run Try.prog w = .ok (.enter 30 args) w := enters_of Try.func30 (by kernel_rfl) rfl
theorem row_holds {w : World} {g o c : Nat} {l : List Val} (h : VE.Row w (.slice (some ⟨g, o, none⟩) l.length c) l) : HoldsK VE.c 4 w g o l.toArray := by
  rcases h with ⟨e, _⟩ | ⟨g9, o9, c9, e, q1, q2, q3, q4, q5⟩
  · cases e
  · cases e
    intro j hj
    rw [size_flatK] at hj
    have hj' : j < l.length * 4 := by simpa using hj
    refine ⟨?_, (q5 j (by have e4 : VE.n = 4 := rfl; rw [e4]; omega)).2⟩
    rw [get_flatK _ _ _ _ hj]
    have hq : j / 4 < l.length := by omega
    have hx : l[j / 4]? = some l[j / 4] := by simp [hq]
    have hm : j % 4 < VE.n := Nat.mod_lt _ (by decide)
    have e := El.cs_get VE hx hm
    have e4 : VE.n = 4 := rfl
    rw [e4, show j / 4 * 4 + j % 4 = j by omega] at e
    have hk : j % 4 < (VE.c l[j / 4]).length := by rw [VE.len]; exact hm
    rw [List.getElem?_eq_getElem hk] at e
    have := q4 j _ e
    rw [this]
    have e5 : l.toArray[j / 4]! = l[j / 4] := by simp [hq]
    rw [e5]
    simp [List.getElem!_eq_getElem?_getD, List.getElem?_eq_getElem hk]
theorem holds_row {w : World} {g o c n : Nat} {l s : List Val} {os : Array Obj} (h : VE.Row w (.slice (some ⟨g, o, none⟩) l.length c) l) (hs : s.length = l.length) : VE.Row (sortWorldK VE.c 4 w g o n s.toArray os) (.slice (some ⟨g, o, none⟩) s.length c) s := by
  have hH := row_holds h
  rcases h with ⟨e, _⟩ | ⟨g9, o9, c9, e, q1, q2, q3, q4, q5⟩
  · cases e
  · cases e
    have hH2 := holdsK_sortWorldK_c VE.c 4 w g o l.toArray s.toArray n os hH q3 (by simpa using hs)
    have e4 : VE.n = 4 := rfl
    have hsz := size_sortWorldK_c VE.c 4 w g o n s.toArray os
    refine .inr ⟨g, o, c, rfl, by omega, q2, by omega, fun j u hu => ?_, fun j hj => ?_⟩
    · have hj : j < s.length * 4 := by have := (List.getElem?_eq_some_iff.1 hu).1; rwa [El.cs_length, e4] at this
      have hq : j / 4 < s.length := by omega
      have := (hH2.cell (i := j / 4) (c := j % 4) (by simpa using hq) (by omega)).1
      rw [Nat.add_assoc, show j / 4 * 4 + j % 4 = j by omega] at this
      rw [this]
      have hx : s[j / 4]? = some s[j / 4] := by simp [hq]
      have hm : j % 4 < VE.n := Nat.mod_lt _ (by decide)
      have e := El.cs_get VE hx hm
      rw [e4, show j / 4 * 4 + j % 4 = j by omega, hu] at e
      have e5 : s.toArray[j / 4]! = s[j / 4] := by simp [hq]
      rw [e5]
      simp [List.getElem!_eq_getElem?_getD, ← e]
    · by_cases hjl : j < s.length * 4
      · have hq : j / 4 < s.length := by omega
        have := hH2.cell (i := j / 4) (c := j % 4) (by simpa using hq) (by omega)
        rw [Nat.add_assoc, show j / 4 * 4 + j % 4 = j by omega] at this
        rw [this.1]
        exact ⟨rfl, this.2⟩
      · have h5 := q5 j hj
        unfold sortWorldK putRowK
        rw [cell?_grow _ _ _ (by simpa using q3), frozen?_grow _ _ _ (by simpa using q3), cell?_putRow_other _ _ _ _ _ _ (.inr (.inr (by simp [size_flatK]; omega))), frozen?_putRow]
        exact h5
set_option maxHeartbeats 2000000 in
/-- The values, sorted: where they lay. -/
theorem cSortV (g o c : Nat) (l : List Val) (w : World) (hs : VE.Row w (.slice (some ⟨g, o, none⟩) l.length c) l) (hl : l.length ≤ 1000000) :
    Calls Try.prog 29 #[.slice (some ⟨g, o, none⟩) l.length c, .func (.func 30) #[] #[]] w fun e w' => e = .returned (.tuple #[]) ∧ Kp [g] w w' ∧ ∃ s : List Val, s.Perm l ∧ s.Pairwise (fun x y => y.lt x = false) ∧ VE.Row w' (.slice (some ⟨g, o, none⟩) s.length c) s := by
  have hg : g < w.heap.size := by
    have := hs.lt g (by simp [own, Value.ownBlock])
    exact this
  have hcmp : CmpLays Try.prog 30 #[] VE.c 4 cmpV g o l.toArray.size w := fun m os dk hdk x y => cCompareG x y _
  have h := AnyQ.slices_SortFunc Try.lsortf 4 Try.isAgg30 Try.sizeOf30 VE.c (fun _ => rfl) (fun x v hv => VE.one x v hv) cmpV swoV 30 #[] g o c l.toArray w enterCmp hcmp (row_holds hs) hg (by simp; omega)
  have h' : Calls Try.prog 29 #[.slice (some ⟨g, o, none⟩) l.length c, .func (.func 30) #[] #[]] w _ := h
  refine h'.mono ?_
  rintro e w' ⟨rfl, d', n, os, hp, hso, rfl⟩
  obtain ⟨s, rfl⟩ : ∃ s : List Val, d' = s.toArray := ⟨d'.toList, by simp⟩
  obtain ⟨p1, p2, p3⟩ := hp
  have hsl : s.length = l.length := by simpa using p1
  have p3' : s.Perm l := by
    have : (s.toArray.extract 0 l.toArray.size).toList = s := by rw [List.size_toArray, ← hsl]; simp
    rw [this] at p3
    have e2 : (l.toArray.extract 0 l.toArray.size).toList = l := by simp
    rw [e2] at p3
    exact p3
  refine ⟨rfl, kp_sorted, s, p3', ?_, holds_row hs hsl⟩
  rw [List.pairwise_iff_getElem]
  intro i j hi hj hij
  have := hso i j (Nat.zero_le _) hij (by simpa [← hsl] using hj)
  rw [ltV] at this
  simpa [hi, hj] using this
end Go.Proofs.Ytplefbcljggncab
end

section
namespace Go.Proofs.Ytplefbcljggncab
open Go.RowKit Go.Hay Go.Sort
set_option linter.unusedVariables false
set_option linter.unusedSimpArgs false

theorem eqAtV : EqlAt Try.prog 30 (fun x => .agg (VE.c x).toArray) Val.eqv := by
  refine ⟨fun x y w => ?_, GuardAt.agg _ (by kernel_rfl)⟩
  obtain ⟨X, hX, h⟩ := eqV x y
  have := h w
  rw [hX.out] at this
  exact this
theorem idxFrom_mem (x : Val) : ∀ (s : List Val) (i : Nat), x ∈ s → ∃ k, k < s.length ∧ s.getD k nv = x ∧ Lib.idxByFrom Val.eqv x s i = ((i + k : Nat) : Int)
  | [], _, h => by simp at h
  | y :: r, i, h => by
    by_cases e : x.eqv y = true
    · refine ⟨0, by simp, ?_, ?_⟩
      · rw [eqv_iff.1 e]; rfl
      · simp [Lib.idxByFrom, e]
    · have hr : x ∈ r := by
        rcases List.mem_cons.1 h with h1 | h1
        · subst h1; exact absurd (eqv_iff.2 rfl) e
        · exact h1
      obtain ⟨k, h1, h2, h3⟩ := idxFrom_mem x r (i + 1) hr
      refine ⟨k + 1, by simp; omega, by simpa using h2, ?_⟩
      rw [Lib.idxByFrom, if_neg e, h3]
      congr 1
      omega
/-- Where a value is. -/
def idxV (s : List Val) (x : Val) : Nat := (Lib.idxBy Val.eqv s x).toNat
theorem idxV_mem (s : List Val) (x : Val) (h : x ∈ s) : idxV s x < s.length ∧ s.getD (idxV s x) nv = x ∧ Lib.idxBy Val.eqv s x = (idxV s x : Int) := by
  obtain ⟨k, h1, h2, h3⟩ := idxFrom_mem x s 0 h
  have e : Lib.idxBy Val.eqv s x = (k : Int) := by unfold Lib.idxBy; rw [h3]; simp
  have e2 : idxV s x = k := by unfold idxV; rw [e]; simp
  rw [e2]
  exact ⟨h1, h2, e⟩
theorem cIndexV (g o c : Nat) (s : List Val) (x : Val) (w : World) (hs : VE.Row w (.slice (some ⟨g, o, none⟩) s.length c) s) (hx : x ∈ s) (hl : s.length ≤ 1000000) :
    Calls Try.prog 32 #[.slice (some ⟨g, o, none⟩) s.length c, x.v] w fun e w' => e = .returned (.int .i64 (idxV s x : Int)) ∧ Kp [] w w' := by
  have h := AnyQ.slices_Index Try.lindex 4 Try.isAgg30 Try.sizeOf30 VE.c (fun _ => rfl) Val.eqv eqAtV g o s.length c s x w (Nat.le_refl _) (by omega) (fun j hj i v hv => by
    have hi : i < 4 := by have := (List.getElem?_eq_some_iff.1 hv).1; rw [VE.len] at this; exact this
    have := (row_holds hs).cell (i := j) (c := i) (by simpa using hj) hi
    rw [this.1]
    have e5 : s.toArray[j]! = s[j]! := by simp [hj]
    rw [e5, List.getElem!_eq_getElem?_getD, hv]
    rfl)
  have h' : Calls Try.prog 32 #[.slice (some ⟨g, o, none⟩) s.length c, x.v] w _ := h
  refine h'.mono ?_
  rintro e w' ⟨rfl, q, rfl⟩
  rw [List.take_length, (idxV_mem s x hx).2.2]
  exact ⟨rfl, ((Kp.refl _ _).alloc _).drewN q⟩
/-- Everything is among the unlike ones, and nothing else. -/
theorem cptTo_in (s : List Val) : ∀ j, j ≤ s.length → (∀ i, i < j → s.getD i nv ∈ cptTo s j) ∧ ∀ x ∈ cptTo s j, x ∈ s
  | 0, _ => ⟨fun i hi => by omega, fun x hx => by simp [cptTo] at hx⟩
  | j + 1, hj => by
    obtain ⟨h1, h2⟩ := cptTo_in s j (by omega)
    have hm : s.getD j nv ∈ s := by
      have : j < s.length := by omega
      simp [this]
    by_cases hc : j ≠ 0 ∧ (s.getD j nv).eqv (s.getD (j - 1) nv) = true
    · rw [cptTo_same s j hc.1 hc.2]
      refine ⟨fun i hi => ?_, h2⟩
      by_cases e : i = j
      · subst e
        rw [eqv_iff.1 hc.2]
        exact h1 (i - 1) (by omega)
      · exact h1 i (by omega)
    · rw [cptTo, if_neg hc]
      refine ⟨fun i hi => ?_, fun x hx => ?_⟩
      · by_cases e : i = j
        · subst e; simp
        · exact List.mem_append_left _ (h1 i (by omega))
      · rcases List.mem_append.1 hx with h | h
        · exact h2 x h
        · rw [List.mem_singleton] at h; rw [h]; exact hm
theorem cpt_mem (s : List Val) (x : Val) : x ∈ cpt s ↔ x ∈ s := by
  obtain ⟨h1, h2⟩ := cptTo_in s s.length (Nat.le_refl _)
  refine ⟨h2 x, fun h => ?_⟩
  obtain ⟨i, hi, rfl⟩ := List.getElem_of_mem h
  have := h1 i hi
  show _ ∈ cptTo s s.length
  simpa [hi] using this
theorem lt_total (x y : Val) (hx : x.right = true) (hy : y.right = true) (h1 : x.lt y = false) (h2 : y.lt x = false) : x = y := by
  have := cmp_eqv x y hx hy
  rw [(cmp_zero x y).2 ⟨h1, h2⟩] at this
  exact eqv_iff.1 this.symm
/-- The values in their order. -/
def sortV (l : List Val) : List Val := l.mergeSort fun x y => !(y.lt x)
theorem sortV_of (l s : List Val) (hr : allR l = true) (hp : s.Perm l) (hs : s.Pairwise (fun x y => y.lt x = false)) : s = sortV l := by
  have hr' : ∀ x ∈ l, x.right = true := List.all_eq_true.1 hr
  have hm : (sortV l).Pairwise (fun x y => y.lt x = false) := by
    have := List.pairwise_mergeSort (le := fun x y : Val => !(y.lt x)) (fun a b c h1 h2 => by simp only [Bool.not_eq_true'] at *; exact Val.lt_ntrans a b c h1 h2) (fun a b => by
      cases h : b.lt a with
      | false => simp
      | true => simp [Val.lt_asymm b a h]) l
    exact this.imp (by simp)
  have hpm : s.Perm (sortV l) := hp.trans (List.mergeSort_perm l _).symm
  refine List.Perm.eq_of_pairwise ?_ hs hm hpm
  intro a b ha hb h1 h2
  exact lt_total a b (hr' a (hp.mem_iff.1 ha)) (hr' b ((List.mergeSort_perm l _).mem_iff.1 hb)) h2 h1
def uniq (l : List Val) : List Val := cpt (sortV l)
theorem uniq_mem (l : List Val) (x : Val) : x ∈ uniq l ↔ x ∈ l := by
  unfold uniq
  rw [cpt_mem]
  exact (List.mergeSort_perm l _).mem_iff
theorem uniq_len (l : List Val) : (uniq l).length ≤ l.length := by
  have := cptTo_le (sortV l) (sortV l).length
  have e : (sortV l).length = l.length := (List.mergeSort_perm l _).length_eq
  unfold uniq cpt
  omega
theorem uniq_right (l : List Val) (h : allR l = true) : allR (uniq l) = true := List.all_eq_true.2 fun x hx => List.all_eq_true.1 h x ((uniq_mem l x).1 hx)
end Go.Proofs.Ytplefbcljggncab
end

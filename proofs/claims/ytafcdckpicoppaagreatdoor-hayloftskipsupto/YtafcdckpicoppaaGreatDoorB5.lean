/- Contracts of the library, laid at this program. The least int, and how much each is above it. What the dictionary asks of the library: Compare with its world, Clone, placeWidth. The writer's calls, each by a contract: what stands in the bytes behind it, and what memory it may have turned. The writer's calls, more: lead, behind, number, Var, Word, Long, Raw, Text, Len, Bytes; bytes.Clone. The writer's calls, the rest: Var, Word, Long, Raw, Text, Len, Bytes; bytes.Clone. putValue: a value's bytes behind what is written. What bytes begin with: a value's bytes read: the program's takeFixed and takeValue, the reference's Front. -/
import Derived.Shelf.Small.Bits
import Derived.Shelf.Strconv.Itoa0
import Derived.Test.YtafcdckpicoppaaGreatDoorProg
import Derived.Test.YtafcdckpicoppaaGreatDoorB4
import Derived.Test.YtafcdckpicoppaaGreatDoorB3
import Derived.Sort.Grow
import Derived.Laws.Cover3
import Derived.Test.YtafcdckpicoppaaGreatDoorRows
import Derived.Test.YtafcdckpicoppaaGreatDoorB1
import Derived.Lib.SliceRun
import Derived.Test.YtafcdckpicoppaaGreatDoorB2
import Derived.Laws.BytesArg
import Derived.Laws.IdiomStrings
section
namespace Go.Proofs
open Go.Shelf
def Tryz.lays125_ren : Go.Shelf.Ren := ⟨fun | 125 => 94 | 128 => 112 | 129 => 85 | n => n, fun | 46 => 71 | 3 => 3 | 51 => 50 | 53 => 74 | 4 => 4 | 5 => 5 | 9 => 9 | n => n, fun | n => n⟩
theorem Tryz.lays125 : Go.Proofs.Lays.n125 Tryz.prog Tryz.lays125_ren := {
  mixed := by kernel_rfl
  f125 := Tryz.func94.trans (congrArg some (by kernel_rfl))
  f128 := Tryz.func112.trans (congrArg some (by kernel_rfl))
  f129 := Tryz.func85.trans (congrArg some (by kernel_rfl))
  t3 := Tryz.underlying3
  a3 := Tryz.isAgg3
  z3 := Tryz.sizeOf3
  v3 := Tryz.zeroValue3
  t4 := Tryz.underlying4
  a4 := Tryz.isAgg4
  z4 := Tryz.sizeOf4
  v4 := Tryz.zeroValue4
  t5 := Tryz.underlying5
  a5 := Tryz.isAgg5
  z5 := Tryz.sizeOf5
  v5 := Tryz.zeroValue5
  t9 := Tryz.underlying9
  a9 := Tryz.isAgg9
  z9 := Tryz.sizeOf9
  v9 := Tryz.zeroValue9
  t46 := Tryz.underlying71
  a46 := Tryz.isAgg71
  z46 := Tryz.sizeOf71
  v46 := Tryz.zeroValue71
  t51 := Tryz.underlying50
  a51 := Tryz.isAgg50
  z51 := Tryz.sizeOf50
  v51 := Tryz.zeroValue50
  t53 := Tryz.underlying74
  a53 := Tryz.isAgg74
  z53 := Tryz.sizeOf74
  v53 := Tryz.zeroValue74 }
theorem Tryz.bits_Len (x : Int) (w : World) (h0 : 0 ≤ x) (h1 : x ≤ 18446744073709551615) :
    Calls Tryz.prog 94 #[.int .u64 x] w fun e w' => e = .returned (.int .i64 (Lib.bitLen x.toNat)) ∧ w' = w := Any.bits_Len Tryz.lays125 x w h0 h1
def Tryz.lays129_ren : Go.Shelf.Ren := ⟨fun | 129 => 85 | n => n, fun | 53 => 74 | 3 => 3 | 4 => 4 | 46 => 71 | 5 => 5 | 9 => 9 | n => n, fun | n => n⟩
theorem Tryz.lays129 : Go.Proofs.Lays.n129 Tryz.prog Tryz.lays129_ren := {
  mixed := by kernel_rfl
  f129 := Tryz.func85.trans (congrArg some (by kernel_rfl))
  t3 := Tryz.underlying3
  a3 := Tryz.isAgg3
  z3 := Tryz.sizeOf3
  v3 := Tryz.zeroValue3
  t4 := Tryz.underlying4
  a4 := Tryz.isAgg4
  z4 := Tryz.sizeOf4
  v4 := Tryz.zeroValue4
  t5 := Tryz.underlying5
  a5 := Tryz.isAgg5
  z5 := Tryz.sizeOf5
  v5 := Tryz.zeroValue5
  t9 := Tryz.underlying9
  a9 := Tryz.isAgg9
  z9 := Tryz.sizeOf9
  v9 := Tryz.zeroValue9
  t46 := Tryz.underlying71
  a46 := Tryz.isAgg71
  z46 := Tryz.sizeOf71
  v46 := Tryz.zeroValue71
  t53 := Tryz.underlying74
  a53 := Tryz.isAgg74
  z53 := Tryz.sizeOf74
  v53 := Tryz.zeroValue74 }
theorem Tryz.bits_Len64 (x : Int) (w : World) (h0 : 0 ≤ x) (h1 : x ≤ 18446744073709551615) :
    Calls Tryz.prog 85 #[.int .u64 x] w fun e w' => e = .returned (.int .i64 (Lib.bitLen x.toNat)) ∧ w' = w := Any.bits_Len64 Tryz.lays129 x w h0 h1
end Go.Proofs
end

section
namespace Go.Proofs.YtafcdckpicoppaaGreatDoor
open Go.RowKit Go.Hay
set_option linter.unusedVariables false
set_option linter.unusedSimpArgs false

theorem infoU64 : ∃ i : TypeInfo, Tryz.prog.info? 74 = some i ∧ i.zero = some (.int .u64 0) ∧ i.size = 1 ∧ i.bytes = 8 := info3 (by kernel_rfl)
def leastTo (l : List Val) : Nat → Int
  | 0 => (l.getD 0 nv).n
  | j + 1 => min (leastTo l j) (l.getD j nv).n
def abv (l : List Val) (m : Int) (k : Nat) : Nat := (((l.getD k nv).n - m) % 18446744073709551616).toNat
def abvs (l : List Val) (m : Int) (j : Nat) : List Nat := (List.range j).map (abv l m)
def wdt (l : List Val) (m : Int) : Nat → Nat
  | 0 => 0
  | j + 1 => max (wdt l m j) (Lib.bitLen (abv l m j))
def bitsB (l : List Val) : List UInt8 := be (u64 (leastTo l l.length)) 8 ++ [octet (wdt l (leastTo l l.length) l.length)] ++ packB (abvs l (leastTo l l.length) l.length) (wdt l (leastTo l l.length) l.length)
theorem abv_lt (l : List Val) (m : Int) (k : Nat) : abv l m k < 18446744073709551616 := by unfold abv; omega
theorem abvs_length (l : List Val) (m : Int) (j : Nat) : (abvs l m j).length = j := by simp [abvs]
theorem abvs_succ (l : List Val) (m : Int) (j : Nat) : abvs l m (j + 1) = abvs l m j ++ [abv l m j] := by simp [abvs, List.range_succ]
theorem abvs_lt (l : List Val) (m : Int) (j : Nat) : ∀ x ∈ abvs l m j, x < 18446744073709551616 := fun x hx => by
  simp only [abvs, List.mem_map] at hx
  obtain ⟨k, _, rfl⟩ := hx
  exact abv_lt l m k
theorem bitLenAux_le : ∀ (f x : Nat), Lib.bitLenAux f x ≤ f
  | 0, x => by simp [Lib.bitLenAux]
  | f + 1, x => by
    have := bitLenAux_le f (x / 2)
    unfold Lib.bitLenAux
    split <;> omega
theorem bitLen_le64 (x : Nat) : Lib.bitLen x ≤ 64 := bitLenAux_le 64 x
theorem wdt_le (l : List Val) (m : Int) : ∀ j, wdt l m j ≤ 64
  | 0 => by simp [wdt]
  | j + 1 => by
    rw [wdt]
    have h1 := wdt_le l m j
    have h2 := bitLen_le64 (abv l m j)
    omega
theorem threeBs (w : World) {q : Nat} (hq : w.heap.size = q) (x y z : Bs) (t : TypeId) : BsE.See (w.alloc (.cells #[.slice x.a x.bs.length x.c, .slice y.a y.bs.length y.c, .slice z.a z.bs.length z.c] t)) (some ⟨q, 0, none⟩) [x, y, z] := by
  subst hq
  refine .inr ⟨_, 0, rfl, fun j u hu => ?_⟩
  have e : (w.alloc (.cells #[.slice x.a x.bs.length x.c, .slice y.a y.bs.length y.c, .slice z.a z.bs.length z.c] t)).cell? ⟨w.heap.size, 0 + j, none⟩ = _ := World.cell?_alloc_new w _ _ (0 + j)
  rw [e, Nat.zero_add]
  simpa [El.cs, BsE] using hu
set_option maxHeartbeats 4000000 in
set_option maxRecDepth 100000 in
theorem cPutBits (a : Option Addr) (ca : Nat) (l : List Val) (w : World) (ha : Vals w a l) (hc : l.length ≤ ca) (hm : ca ≤ maxLen) (h0 : 0 < l.length) (hl : l.length ≤ 64) :
    Calls Tryz.prog 52 #[.slice a l.length ca] w (NB (bitsB l) w) := by
  obtain ⟨g, o, rfl, a0, a1, a2, a3⟩ := ha.at 0 h0
  have e0 : l.getD 0 nv = l[0] := by simp [h0]
  rw [← e0, Nat.zero_mul, Nat.add_zero] at a2
  have hL0 : (l.getD 0 nv).n = leastTo l 0 := rfl
  rw [hL0] at a2
  clear hL0 e0 a0 a1 a3
  have hat : Hid (∀ W, Kp [] w W → ∀ j, j < l.length → W.cell? ⟨g, o + j * 4, none⟩ = some (.int .i64 (l.getD j nv).k) ∧ W.cell? ⟨g, o + j * 4 + 1, none⟩ = some (.bool (l.getD j nv).b) ∧ W.cell? ⟨g, o + j * 4 + 2, none⟩ = some (.int .i64 (l.getD j nv).n) ∧ W.cell? ⟨g, o + j * 4 + 3, none⟩ = some (.string (l.getD j nv).t)) := fun W kW j hj => by
    obtain ⟨_, _, e, y0, y1, y2, y3⟩ := (ha.kept kW).at j hj
    cases e
    have e1 : l.getD j nv = l[j] := by simp [hj]
    rw [e1]
    exact ⟨y0, y1, y2, y3⟩
  obtain ⟨F, hF⟩ : ∃ F, Hid (bitsB l = F) := ⟨_, rfl⟩
  rw [hF.out]
  obtain ⟨m0, hm0⟩ : ∃ m0, Hid (leastTo l 0 = m0) := ⟨_, rfl⟩
  rw [hm0.out] at a2
  clear ha
  go_enter Tryz.func52, Tryz.ntmps52
  go_wp2_with fail
  go_loopw [3, 16] (fun s i wn => ∃ j : Nat, j ≤ l.length ∧ i = .int .i64 j ∧ s = .int .i64 (leastTo l j) ∧ Kp [] w wn) (fun _ i _ => l.length - (intOf i).toNat)
  case atStart => exact ⟨0, Nat.zero_le _, rfl, by rw [hm0.out], Kp.refl _ _⟩
  case round =>
    clear a2
    obtain ⟨j, hj, rfl, rfl, kn⟩ := hrel
    by_cases hlt : j < l.length
    · obtain ⟨y0, y1, y2, y3⟩ := hat.out wr kn j hlt
      have hsu : Hid (leastTo l (j + 1) = min (leastTo l j) (l.getD j nv).n) := rfl
      obtain ⟨c, hc'⟩ : ∃ c, Hid (leastTo l j = c) := ⟨_, rfl⟩
      rw [hc'.out] at hsu ⊢
      obtain ⟨⟨vk, vb, vn, vt⟩, hv⟩ : ∃ v, Hid (l.getD j nv = v) := ⟨_, rfl⟩
      rw [hv.out] at y0 y1 y2 y3 hsu
      dsimp only at y0 y1 y2 y3 hsu
      have kA : Kp [] w (wr.alloc (.cells #[.int .i64 vk, .bool vb, .int .i64 vn, .string vt] 25)) := kn.alloc _
      go_wp2_with fail
      exact ⟨⟨j + 1, by omega, by go_num, by rw [hsu.out], kA⟩, by simp [intOf]; omega⟩
    · obtain rfl : j = l.length := by omega
      have hFe : Hid (F = be (u64 (leastTo l l.length)) 8 ++ [octet (wdt l (leastTo l l.length) l.length)] ++ packB (abvs l (leastTo l l.length) l.length) (wdt l (leastTo l l.length) l.length)) := by show _ = _; rw [← hF.out]; rfl
      obtain ⟨m, hmm⟩ : ∃ m, Hid (leastTo l l.length = m) := ⟨_, rfl⟩
      rw [hmm.out] at hFe ⊢
      clear hF hm0
      obtain ⟨i0, hi, hz0, hz1, hz2⟩ := infoU64
      obtain ⟨W1, hmk, hrow1, k1, hs1⟩ := run_makeG (E := U64E) (P := Tryz.prog) wr 123 74 i0 (.int .u64 0) 0 8 Tryz.underlying123 hi hz0 hz1 hz2 rfl .i64 .i64 l.length (by omega) (by unfold maxLen; omega)
      obtain ⟨q, hq⟩ : ∃ q, Hid (wr.heap.size = q) := ⟨_, rfl⟩
      rw [hq.out] at hmk hrow1
      have hqw : w.heap.size ≤ q := by rw [← hq.out]; exact kn.size
      have R1 : Hid (U64E.Row W1 (.slice (some ⟨q, 0, none⟩) l.length l.length) (abvs l m 0 ++ List.replicate (l.length - 0) 0) ∧ Kp [] w W1) := ⟨by simpa [abvs] using hrow1, kn.trans k1 (by simp)⟩
      clear hrow1 k1 hs1 kn
      go_wp2_with fail
      go_loopw [7, 30] (fun s i wn => ∃ j : Nat, j ≤ l.length ∧ i = .int .i64 j ∧ s = .int .i64 (wdt l m j) ∧ U64E.Row wn (.slice (some ⟨q, 0, none⟩) l.length l.length) (abvs l m j ++ List.replicate (l.length - j) 0) ∧ Kp [] w wn) (fun _ i _ => l.length - (intOf i).toNat)
      case atStart => exact ⟨0, Nat.zero_le _, rfl, rfl, R1.out.1, R1.out.2⟩
      case round =>
        clear hmk R1
        obtain ⟨j, hj, rfl, rfl, hrow, kn⟩ := hrel
        by_cases hlt : j < l.length
        · obtain ⟨y0, y1, y2, y3⟩ := hat.out wr kn j hlt
          have hw1 : Hid (wdt l m (j + 1) = max (wdt l m j) (Lib.bitLen (abv l m j))) := rfl
          have hA : Hid (abv l m j = (((l.getD j nv).n - m) % 18446744073709551616).toNat) := rfl
          have hAb := abv_lt l m j
          have hab := abvs_succ l m j
          have hal := abvs_length l m j
          obtain ⟨A, hAA⟩ : ∃ A, Hid (abv l m j = A) := ⟨_, rfl⟩
          rw [hAA.out] at hw1 hA hAb hab
          have hal' : (abvs l m j ++ List.replicate (l.length - j) 0).length = l.length := by simp [hal]; omega
          obtain ⟨⟨vk, vb, vn, vt⟩, hv⟩ : ∃ v, Hid (l.getD j nv = v) := ⟨_, rfl⟩
          rw [hv.out] at y0 y1 y2 y3 hA
          dsimp only at y0 y1 y2 y3 hA
          obtain ⟨wb, hwb⟩ : ∃ wb, wr.alloc (.cells #[.int .i64 vk, .bool vb, .int .i64 vn, .string vt] 25) = wb := ⟨_, rfl⟩
          have kb : Kp [] wr wb := by rw [← hwb]; exact (Kp.refl _ _).alloc _
          have bx : Box4 wb wr.heap.size (.int .i64 vk) (.bool vb) (.int .i64 vn) (.string vt) := by rw [← hwb]; exact Box4.new _ _ _ _ _ _
          have b2 := bx.c2
          have hrowb := hrow.keptNew kb
          have hput := hrowb.setAt j (by rw [hal']; exact hlt) A
          have e1 : (abvs l m j ++ List.replicate (l.length - j) 0).set j A = abvs l m (j + 1) ++ List.replicate (l.length - (j + 1)) 0 := by
            have := set_app (abvs l m j) 0 A (l.length - (j + 1))
            rw [hal, show l.length - (j + 1) + 1 = l.length - j by omega] at this
            rw [this, hab]
          rw [e1] at hput
          have hcf : (∃ u, wb.cell? ⟨q, j, none⟩ = some u) ∧ wb.frozen? ⟨q, j, none⟩ = false := by
            rcases hrowb with ⟨e, _⟩ | ⟨g9, o9, c9, e, q1, q2, q3, q4, q5⟩
            · cases e
            · injection e with e1 e2 e3
              injection e1 with e1
              injection e1 with e4 e5
              subst e3 e4 e5
              have h5 := q5 j (by have : U64E.n = 1 := rfl; rw [this]; omega)
              rw [Nat.zero_add] at h5
              exact ⟨Option.isSome_iff_exists.1 h5.1, h5.2⟩
          obtain ⟨⟨u, hu⟩, hfz⟩ := hcf
          have kf : Kp [] w (wb.setCell ⟨q, j, none⟩ (.int .u64 (A : Int))) := (kn.trans kb (by simp)).setCell (p := ⟨q, j, none⟩) (.inr (by simpa using hqw)) _
          have eW : Hid (wb.setCells q (0 + j * U64E.n) (U64E.c A) = wb.setCell ⟨q, j, none⟩ (.int .u64 (A : Int))) := by
            show _ = _
            have : U64E.n = 1 := rfl
            rw [this]
            simp [U64E, World.setCells]
          rw [eW.out] at hput
          have hl64 := fun W => Tryz.bits_Len64 (A : Int) W (by omega) (by omega)
          rw [Int.toNat_natCast] at hl64
          have hval : IntKind.u64.wrap (IntKind.u64.wrap vn - IntKind.u64.wrap m) = (A : Int) := by
            rw [IntKind.wrap_u64, IntKind.wrap_u64, IntKind.wrap_u64, hA.out]; omega
          obtain ⟨W0, hW0⟩ : ∃ W0, Hid (wdt l m j = W0) := ⟨_, rfl⟩
          obtain ⟨B0, hB0⟩ : ∃ B0, Hid (Lib.bitLen A = B0) := ⟨_, rfl⟩
          rw [hW0.out, hB0.out] at hw1
          simp only [hB0.out] at hl64
          rw [hW0.out]
          clear hrow hrowb bx kb eW e1 hal' hal hab hA
          go_wp2_with fail
          refine (hl64 _).mono ?_
          rintro e w9 ⟨rfl, hw9⟩
          rw [hw9]
          clear hw9 w9
          go_wp2_with fail
          exact ⟨⟨j + 1, by omega, by go_num, by rw [hw1.out]; go_num, hput, kf⟩, by simp [intOf]; omega⟩
        · obtain rfl : j = l.length := by omega
          have hwb := wdt_le l m l.length
          rw [Nat.sub_self, List.replicate_zero, List.append_nil] at hrow
          have hal := abvs_length l m l.length
          have halt := hid (abvs_lt l m l.length)
          obtain ⟨ab, hab⟩ : ∃ ab, Hid (abvs l m l.length = ab) := ⟨_, rfl⟩
          obtain ⟨wd, hwd⟩ : ∃ wd, Hid (wdt l m l.length = wd) := ⟨_, rfl⟩
          rw [hwd.out] at hwb hFe ⊢
          rw [hab.out] at hrow hal halt hFe
          have cW := cWordBytes m wr
          have hw8 : (be (u64 m) 8).length = 8 := be_length _ _
          obtain ⟨B8, hB8⟩ : ∃ B8, Hid (be (u64 m) 8 = B8) := ⟨_, rfl⟩
          rw [hB8.out] at cW hw8 hFe
          have hpl := packB_length ab wd
          have hpl2 : ab.length * wd ≤ 64 * 64 := Nat.mul_le_mul (by omega) hwb
          have hrest : Hid (∀ X Y, Kp [] wr X → X.alloc (.cells #[.int .u8 (wd : Int)] 5) = Y → Kp [] wr Y ∧ Calls Tryz.prog 83 #[.slice (some ⟨q, 0, none⟩) l.length l.length, .int .i64 wd] Y (NB (packB ab wd) Y)) := fun X Y kX hY => by
            have kY : Kp [] wr Y := by rw [← hY]; exact kX.alloc _
            obtain ⟨_, _, es, hs, _⟩ := (hrow.keptNew kY).see
            injection es with e1 e2 e3
            have := cPack (some ⟨q, 0, none⟩) l.length ab wd Y (by rw [e1]; exact hs) (by omega) halt.out hwb
            rw [hal] at this
            exact ⟨kY, this⟩
          have hend : Hid (∀ X Y Z V b1 c1 b3 c3, Kp [] wr X → Row X (.slice b1 B8.length c1) B8 → X.alloc (.cells #[.int .u8 (wd : Int)] 5) = Y → Kp [] Y Z → Row Z (.slice b3 (packB ab wd).length c3) (packB ab wd) → Z.alloc (.cells #[.slice b1 B8.length c1, .slice (some ⟨X.heap.size, 0, none⟩) 1 1, .slice b3 (packB ab wd).length c3] 28) = V →
              Kp [] w V ∧ Calls Tryz.prog 75 #[.slice (some ⟨Z.heap.size, 0, none⟩) 3 3] V (NB F V)) := fun X Y Z V b1 c1 b3 c3 kX hr1 hY kZ hr3 hV => by
            have kY : Kp [] X Y := by rw [← hY]; exact (Kp.refl _ _).alloc _
            have kV : Kp [] Z V := by rw [← hV]; exact (Kp.refl _ _).alloc _
            obtain ⟨_, _, e1, hs1, _⟩ := hr1.sees
            cases e1
            obtain ⟨_, _, e3, hs3, _⟩ := hr3.sees
            cases e3
            have hs2 : Sees Y (some ⟨X.heap.size, 0, none⟩) [octet wd] := by rw [← hY]; exact oneByte X rfl wd (by have := octet_toNat (wd : Int) (by omega) (by omega); omega) _
            have h3 : BsE.See V (some ⟨Z.heap.size, 0, none⟩) [⟨b1, c1, B8⟩, ⟨some ⟨X.heap.size, 0, none⟩, 1, [octet wd]⟩, ⟨b3, c3, packB ab wd⟩] := by rw [← hV]; exact threeBs Z rfl ⟨b1, c1, B8⟩ ⟨some ⟨X.heap.size, 0, none⟩, 1, [octet wd]⟩ ⟨b3, c3, packB ab wd⟩ _
            have hj := cJoin (some ⟨Z.heap.size, 0, none⟩) 3 [⟨b1, c1, B8⟩, ⟨some ⟨X.heap.size, 0, none⟩, 1, [octet wd]⟩, ⟨b3, c3, packB ab wd⟩] V h3 (fun x hx => by
              simp only [List.mem_cons, List.not_mem_nil, or_false] at hx
              rcases hx with rfl | rfl | rfl
              · exact hs1.kept (kY.trans (kZ.trans kV (by simp)) (by simp)) (by simp)
              · exact hs2.kept (kZ.trans kV (by simp)) (by simp)
              · exact hs3.kept kV (by simp)) (by simp) (by simp [flatB, hw8, hpl]; omega)
            have eF : flatB [⟨b1, c1, B8⟩, ⟨some ⟨X.heap.size, 0, none⟩, 1, [octet wd]⟩, ⟨b3, c3, packB ab wd⟩] = F := by rw [hFe.out]; simp [flatB]
            rw [eF] at hj
            exact ⟨kn.trans (kX.trans (kY.trans (kZ.trans kV (by simp)) (by simp)) (by simp)) (by simp), hj⟩
          obtain ⟨PB, hPB⟩ : ∃ PB, Hid (packB ab wd = PB) := ⟨_, rfl⟩
          simp only [hPB.out] at hrest hend
          clear hrow hFe hpl hpl2 hal hw8
          go_wp2_with fail
          refine cW.mono ?_
          rintro e X ⟨b1, c1, rfl, hr1, kX, hn1⟩
          obtain ⟨Y, hY⟩ : ∃ Y, X.alloc (.cells #[.int .u8 (wd : Int)] 5) = Y := ⟨_, rfl⟩
          obtain ⟨kY, cP⟩ := hrest.out X Y kX hY
          have he2 : Hid (∀ Z V b3 c3, Kp [] Y Z → Row Z (.slice b3 PB.length c3) PB → Z.alloc (.cells #[.slice b1 B8.length c1, .slice (some ⟨X.heap.size, 0, none⟩) 1 1, .slice b3 PB.length c3] 28) = V → Kp [] w V ∧ Calls Tryz.prog 75 #[.slice (some ⟨Z.heap.size, 0, none⟩) 3 3] V (NB F V)) := fun Z V b3 c3 kZ hr3 hV => hend.out X Y Z V b1 c1 b3 c3 kX hr1 hY kZ hr3 hV
          clear hr1 hrest hend cW
          go_wp2_with fail
          refine cP.mono ?_
          rintro e Z ⟨b3, c3, rfl, hr3, kZ, hn3⟩
          obtain ⟨V, hV⟩ : ∃ V, Z.alloc (.cells #[.slice b1 B8.length c1, .slice (some ⟨X.heap.size, 0, none⟩) 1 1, .slice b3 PB.length c3] 28) = V := ⟨_, rfl⟩
          obtain ⟨kV, cJ⟩ := he2.out Z V b3 c3 kZ hr3 hV
          clear hr3 he2 cP
          go_wp2_with fail
          refine cJ.mono ?_
          rintro e U ⟨b4, c4, rfl, hr4, kU, hn4⟩
          go_wp2_with fail
          go_ret
          exact ⟨b4, c4, rfl, hr4, kV.trans kU (by simp), fun k hk => by have := hn4 k hk; have := kV.size; omega⟩
end Go.Proofs.YtafcdckpicoppaaGreatDoor
end

section
namespace Go.Proofs.YtafcdckpicoppaaGreatDoor
open Go.RowKit Go.Hay
set_option linter.unusedVariables false
set_option linter.unusedSimpArgs false

theorem grow_two (w : World) (x y : Obj) : ∃ q os, (w.alloc x).alloc y = Go.Sort.grow (w.drewN q) os := ⟨0, #[x] ++ #[y], by rw [Go.Sort.alloc_eq_grow, Go.Sort.alloc_eq_grow, Go.Sort.grow_grow]; rfl⟩
set_option maxHeartbeats 2000000 in
set_option maxRecDepth 100000 in
/-- Compare: what it leaves is told to the last block. -/
theorem cCompareG (a b : Val) (w : World) : Calls Tryz.prog 20 #[a.v, b.v] w fun e w' => e = .returned (.int .i64 (cmpV a b)) ∧ ∃ q os, w' = Go.Sort.grow (w.drewN q) os := by
  obtain ⟨ak, ab, an, at'⟩ := a
  obtain ⟨bk, bb, bn, bt⟩ := b
  unfold Val.v
  have kw := hid (grow_two w (.cells #[.int .i64 ak, .bool ab, .int .i64 an, .string at'] 25) (.cells #[.int .i64 bk, .bool bb, .int .i64 bn, .string bt] 25))
  by_cases hk : ak = bk
  · subst hk
    by_cases h1 : ak = 1
    · subst h1
      go_enter Tryz.func20, Tryz.ntmps20
      go_wp2_with (first | (go_at_call 34; refine (cBools _ _ _).mono ?_; rintro e w' ⟨rfl, rfl⟩))
      go_ret
      exact ⟨by simp [cmpV, Val.lt, ci, cs, cb], kw.out⟩
    by_cases h2 : ak = 2
    · subst h2
      go_enter Tryz.func20, Tryz.ntmps20
      go_wp2_with (first | (go_at_call 35; refine (cCmpL _ _ _).mono ?_; rintro e w' ⟨rfl, rfl⟩))
      go_ret
      exact ⟨by simp [cmpV, Val.lt, ci, cs, cb], kw.out⟩
    by_cases h3 : ak = 3
    · subst h3
      go_enter Tryz.func20, Tryz.ntmps20
      go_wp2_with (first | (go_at_call 36; refine (cCmpS _ _ _).mono ?_; rintro e w' ⟨rfl, rfl⟩))
      go_ret
      exact ⟨by simp [cmpV, Val.lt, ci, cs, cb], kw.out⟩
    · have d1 : (ak == 1) = false := by simpa using h1
      have d2 : (ak == 2) = false := by simpa using h2
      have d3 : (ak == 3) = false := by simpa using h3
      go_enter Tryz.func20, Tryz.ntmps20
      go_wp2_with fail
      go_ret
      exact ⟨by simp [cmpV, Val.lt, ci, cs, cb, h1, h2, h3], kw.out⟩
  · have d1 : (ak == bk) = false := by simpa using hk
    have hk' : ¬ bk = ak := fun h => hk h.symm
    go_enter Tryz.func20, Tryz.ntmps20
    go_wp2_with (first | (go_at_call 33; refine (cCmpI _ _ _).mono ?_; rintro e w' ⟨rfl, rfl⟩))
    go_ret
    exact ⟨by simp [cmpV, Val.lt, ci, cs, cb, hk, hk'], kw.out⟩
theorem cPlaceWidth (n : Nat) (h : 0 < n) (hn : n ≤ 1000) (w : World) : Calls Tryz.prog 84 #[.int .i64 n] w fun e w' => e = .returned (.int .i64 (Lib.bitLen (n - 1))) ∧ w' = w := by
  have hl := fun W => Tryz.bits_Len (((n - 1 : Nat) : Int)) W (by omega) (by omega)
  rw [Int.toNat_natCast] at hl
  have e1 : (n : Int) - 1 = ((n - 1 : Nat) : Int) := by omega
  go_enter Tryz.func84, Tryz.ntmps84
  go_wp2_with fail
  refine (hl _).mono ?_
  rintro e w9 ⟨rfl, hw9⟩
  rw [hw9]
  clear hw9 w9
  go_wp2_with fail
  go_ret
  exact ⟨rfl, rfl⟩
theorem eqNilV (a : Option Addr) (n c : Nat) (w : World) : (binOp .eql 32 (.slice a n c) (.slice none 0 0)).run Tryz.prog w = .ok (.bool a.isNone) w := by
  simp only [binOp]
  simp [run_equal_slice_nil w 32 25 a n c Tryz.underlying32]
theorem rowNoneV (w : World) {q : Nat} (hq : w.heap.size = q) (C : Array Value) (t : TypeId) : VE.Row (w.alloc (.cells C t)) (.slice (some ⟨q, 0, none⟩) 0 0) [] := by
  subst hq
  exact .inr ⟨_, 0, 0, rfl, Nat.le_refl _, Nat.zero_le _, by simp, by intro j u hu; simp [El.cs] at hu, by intro j hj; omega⟩
/-- A copy of values, all new. -/
def CloneV (l : List Val) (w : World) (e : Ending) (w' : World) : Prop := ∃ a c, e = .returned (.slice a l.length c) ∧ VE.Row w' (.slice a l.length c) l ∧ Kp [] w w' ∧ ∀ k ∈ blk a, w.heap.size ≤ k
theorem infoV' : ∃ i : TypeInfo, Tryz.prog.info? 25 = some i ∧ i.zero = some (.agg #[.int .i64 0, .bool false, .int .i64 0, .string ⟨#[]⟩]) ∧ i.size = 4 ∧ i.bytes = 40 := info3 (by kernel_rfl)
set_option maxHeartbeats 4000000 in
set_option maxRecDepth 100000 in
theorem cCloneV (ad : Addr) (c : Nat) (l : List Val) (w : World) (hs : VE.See w (some ad) l) (hb : l.length ≤ 1000000) :
    Calls Tryz.prog 79 #[.slice (some ad) l.length c] w (CloneV l w) := by
  have e0 := eqNilV (some ad) l.length c
  go_enter Tryz.func79, Tryz.ntmps79
  have k1 : Kp [] w (w.alloc (.cells #[] 25)) := (Kp.refl _ _).alloc _
  have hr := rowNoneV w rfl #[] 25
  have hsr := (hs.keptNew k1).src (P := Tryz.prog) Tryz.underlying32 c
  obtain ⟨i0, hi, hz0, hz1, hz2⟩ := infoV'
  go_wp2_with (first | (refine wpAppG (E := VE) rfl _ _ 32 32 25 rfl i0 _ 40 Tryz.underlying32 hi hz0 hz1 hz2 rfl _ [] rfl hr _ l rfl hsr (by simp; omega) (by simp; omega) ?_; intro ys a' c' w' hy hrow hg hn) | fail)
  go_ret
  have e : ys = l := by rw [hy.out]; rfl
  subst e
  refine ⟨a', c', rfl, hrow, k1.trans hg (fun k hk => .inr ?_), fun k hk => ?_⟩
  · simp [own, Value.ownBlock, Act.eval] at hk; omega
  · rcases hn k hk with h1 | h1
    · simp [own, Value.ownBlock, Act.eval] at h1; omega
    · have := k1.size; omega
end Go.Proofs.YtafcdckpicoppaaGreatDoor
end

section
namespace Go.Proofs.YtafcdckpicoppaaGreatDoor
open Go.RowKit Go.Hay

theorem Tryz.infoB : (Tryz.prog.info? 5).map (fun i => (i.zero, i.size, i.bytes)) = some (some (.int .u8 0), 1, 1) := by kernel_rfl

set_option maxHeartbeats 400000 in
theorem wNew (w : World) : Calls Tryz.prog 11 #[] w fun e w' => ∃ p, e = .returned (.pointer (some ⟨p, 0, none⟩)) ∧ p = w.heap.size ∧ Wr w' p (.slice none 0 0) [] ∧ Kp [] w w' := by
  go_enter Tryz.func11, Tryz.ntmps11
  go_wp2
  go_ret
  refine ⟨_, rfl, rfl, ?_, ?_⟩
  · exact ⟨by simp, by simp, Row.nil _, by simp [own, Value.ownBlock]⟩
  · exact (Kp.refl _ _).alloc _

set_option maxHeartbeats 400000 in
theorem wByte (p : Nat) (v : Value) (bs : List UInt8) (n : Int) (w : World) (h : Wr w p v bs) (hb : bs.length + 1 ≤ 200000000000000) (h0 : 0 ≤ n) (h1 : n ≤ 255) :
    Calls Tryz.prog 28 #[.pointer (some ⟨p, 0, none⟩), .int .u8 n] w fun e w' => e = .returned (.tuple #[]) ∧ ∃ v', Wr w' p v' (bs ++ [octet n]) ∧ Wrote p v w v' w' := by
  obtain ⟨i0, hi, hz0, hz1, hz2⟩ := info_parts Tryz.infoB
  have hcell := h.cell
  have hfree := h.free
  have hlt := h.lt
  obtain ⟨a, c, rfl, _⟩ := h.row.shape
  have k0 : Kp [] w (w.alloc (.cells #[.int .u8 n] 5)) := (Kp.refl _ _).alloc _
  have hsrc : Src Tryz.prog 1 28 (.slice (some ⟨w.heap.size, 0, none⟩) 1 1) [octet n].length (bcells [octet n]) (w.alloc (.cells #[.int .u8 n] 5)) :=
    Src.ofSlice _ Tryz.underlying28 ⟨w.heap.size, 0, none⟩ 1 1 _ rfl (by intro j u hj; match j, hj with | 0, hj => simp [bcells] at hj; subst hj; rw [octet_toNat n h0 h1]; simp [Addr.add]) (bcells_one _)
  go_enter Tryz.func28, Tryz.ntmps28
  go_wp2_with (at_builtin; refine wpList_append_src _ rfl (.tmp 8) (.tmp 10) 28 28 rfl i0 Tryz.underlying28 hi hz0 hz1 hz2 _ bs rfl (h.row.kept k0 (by simp)) _ [octet n] rfl hsrc hb ?_)
  intro v' w1 hr hk hn
  obtain ⟨c1, f1, hw, hwr⟩ := h.stored k0 hr hk (by simpa using hn)
  obtain ⟨a', c', hv, _⟩ := hr.shape
  rw [List.length_append, List.length_singleton] at hv
  subst hv
  go_wp2
  go_end0
  exact ⟨rfl, _, hw, hwr⟩
end Go.Proofs.YtafcdckpicoppaaGreatDoor
end

section
namespace Go.Proofs.YtafcdckpicoppaaGreatDoor
open Go.RowKit Go.Hay
set_option linter.unusedVariables false

set_option maxHeartbeats 400000 in
theorem cLead (n : Int) (w : World) (h0 : 0 ≤ n) (h1 : n < 18446744073709551616) : Calls Tryz.prog 98 #[.int .u64 n] w fun e w' => e = .returned (.int .u8 (leadI n)) ∧ w' = w := by
  by_cases a : n < 253
  · have e : leadI n = n := by simp [leadI, a]
    rw [e]
    clear e
    go_enter Tryz.func98, Tryz.ntmps98
    go_wp2
    go_ret
    exact ⟨rfl, rfl⟩
  by_cases b : n < 65536
  · have e : leadI n = 253 := by simp [leadI, a, b]
    rw [e]
    clear e
    go_enter Tryz.func98, Tryz.ntmps98
    go_wp2
    go_ret
    exact ⟨rfl, rfl⟩
  by_cases c : n < 4294967296
  · have e : leadI n = 254 := by simp [leadI, a, b, c]
    rw [e]
    clear e
    go_enter Tryz.func98, Tryz.ntmps98
    go_wp2
    go_ret
    exact ⟨rfl, rfl⟩
  · have e : leadI n = 255 := by simp [leadI, a, b, c]
    rw [e]
    clear e
    go_enter Tryz.func98, Tryz.ntmps98
    go_wp2
    go_ret
    exact ⟨rfl, rfl⟩
set_option maxHeartbeats 400000 in
theorem cBehind (n : Int) (w : World) (h0 : 0 ≤ n) (h1 : n ≤ 255) : Calls Tryz.prog 97 #[.int .u8 n] w fun e w' => e = .returned (.int .i64 (behindI n)) ∧ w' = w := by
  by_cases a : n = 253
  · subst a
    go_enter Tryz.func97, Tryz.ntmps97
    go_wp2
    go_ret
    exact ⟨rfl, rfl⟩
  by_cases b : n = 254
  · subst b
    go_enter Tryz.func97, Tryz.ntmps97
    go_wp2
    go_ret
    exact ⟨rfl, rfl⟩
  by_cases c : n = 255
  · subst c
    go_enter Tryz.func97, Tryz.ntmps97
    go_wp2
    go_ret
    exact ⟨rfl, rfl⟩
  · have e : behindI n = 0 := by simp [behindI, a, b, c]
    have a' : (n == 253) = false := by simpa using a
    have b' : (n == 254) = false := by simpa using b
    have c' : (n == 255) = false := by simpa using c
    rw [e]
    clear e
    go_enter Tryz.func97, Tryz.ntmps97
    go_wp2
    go_ret
    exact ⟨rfl, rfl⟩
set_option maxHeartbeats 400000 in
theorem wNumber (p : Nat) (v : Value) (bs : List UInt8) (n : Int) (k : Nat) (w : World) (h : Wr w p v bs) (hb : bs.length + 8 ≤ 200000000000000) (h0 : 0 ≤ n) (h1 : n < 18446744073709551616) (hk : k ≤ 8) :
    Calls Tryz.prog 32 #[.pointer (some ⟨p, 0, none⟩), .int .u64 n, .int .i64 k] w fun e w' => e = .returned (.tuple #[]) ∧ ∃ v', Wr w' p v' (bs ++ be n.toNat k) ∧ Wrote p v w v' w' := by
  go_enter Tryz.func32, Tryz.ntmps32
  go_wp2_with fail
  go_loopw [6] (fun s wr => ∃ (j : Nat) (cur : List UInt8) (v' : Value), s = .int .i64 (8 * ((j : Int) - 1)) ∧ j ≤ k ∧ Wr wr p v' cur ∧ Hid (cur ++ be n.toNat j = bs ++ be n.toNat k) ∧ Wrote p v w v' wr) (fun s _ => (intOf s + 8).toNat)
  case atStart => exact ⟨k, bs, v, rfl, Nat.le_refl _, h, rfl, Wrote.refl _ _ _⟩
  case round =>
    obtain ⟨j, cur, v', rfl, hj, hw, hcur, hwr⟩ := hrel
    have hlen : cur.length + j = bs.length + k := by have := congrArg List.length hcur.out; simpa [be_length] using this
    cases j with
    | zero =>
      go_wp2_with fail
      go_end0
      have e : cur = bs ++ be n.toNat k := by have := hcur.out; simpa [be] using this
      exact ⟨rfl, v', e ▸ hw, hwr⟩
    | succ j =>
      have H : Hid (cur ++ [octet (n / 2 ^ (8 * j) % 256)] ++ be n.toNat j = bs ++ be n.toNat k) := by
        have := hcur.out
        show _ = _
        rw [octet_shift n j h0]
        simpa [be] using this
      go_wp2_with fail
      refine (wByte p v' cur _ _ hw (by omega) (shift_bd n j).1 (shift_bd n j).2).mono ?_
      rintro e w1 ⟨rfl, v1, hw1, hwr1⟩
      go_wp2_with fail
      go_roundw
      case rel => exact ⟨j, _, v1, by go_num, by omega, hw1, H, hwr.trans hwr1⟩
      case measure => simp [intOf]; omega
end Go.Proofs.YtafcdckpicoppaaGreatDoor
end

section
namespace Go.Proofs.YtafcdckpicoppaaGreatDoor
open Go.RowKit Go.Hay
set_option linter.unusedVariables false

set_option maxHeartbeats 400000 in
theorem wRaw (p : Nat) (v : Value) (bs : List UInt8) (a : Option Addr) (n c : Nat) (xs : List UInt8) (w : World) (h : Wr w p v bs) (hs : Sees w a xs) (hn : n = xs.length) (hb : bs.length + xs.length ≤ 200000000000000) :
    Calls Tryz.prog 14 #[.pointer (some ⟨p, 0, none⟩), .slice a n c] w fun e w' => e = .returned (.tuple #[]) ∧ ∃ v', Wr w' p v' (bs ++ xs) ∧ Wrote p v w v' w' := by
  subst hn
  obtain ⟨i0, hi, hz0, hz1, hz2⟩ := info_parts Tryz.infoB
  have hcell := h.cell
  have hfree := h.free
  have hlt := h.lt
  have hsrc : Src Tryz.prog 1 28 (.slice a xs.length c) xs.length (bcells xs) w := hs.src Tryz.underlying28 c
  obtain ⟨a1, c1, rfl, _⟩ := h.row.shape
  go_enter Tryz.func14, Tryz.ntmps14
  go_wp2_with (at_builtin; refine wpList_append_src _ rfl (.tmp 8) (.tmp 9) 28 28 rfl i0 Tryz.underlying28 hi hz0 hz1 hz2 _ bs rfl h.row _ xs rfl hsrc hb ?_)
  intro v' w1 hr hk hn
  obtain ⟨c1, f1, hw, hwr⟩ := h.stored (Kp.refl _ _) hr hk hn
  obtain ⟨a', c', hv, _⟩ := hr.shape
  rw [List.length_append] at hv
  subst hv
  go_wp2
  go_end0
  exact ⟨rfl, _, hw, hwr⟩
set_option maxHeartbeats 400000 in
theorem cClone (a : Option Addr) (n c : Nat) (xs : List UInt8) (w : World) (hs : Sees w a xs) (hn : n = xs.length) (hb : xs.length ≤ 200000000000000) :
    Calls Tryz.prog 23 #[.slice a n c] w fun e w' => ∃ v', e = .returned v' ∧ Row w' v' xs ∧ Kp [] w w' ∧ ∀ k ∈ own v', w.heap.size ≤ k := by
  subst hn
  cases a with
  | none =>
    obtain rfl : xs = [] := by rcases hs with h | ⟨g, o, h, _⟩; exact h; cases h
    have hnil := fun (w : World) => Lib.run_eql_slice_nil (P := Tryz.prog) w 28 5 none 0 c 0 0 Tryz.underlying28
    rw [List.length_nil]
    go_enter Tryz.func23, Tryz.ntmps23
    go_wp2
    go_ret
    exact ⟨_, rfl, Row.nil _, Kp.refl _ _, by simp [own, Value.ownBlock]⟩
  | some ad =>
    have hnil := fun (w : World) => Lib.run_eql_slice_nil (P := Tryz.prog) w 28 5 (some ad) xs.length c 0 0 Tryz.underlying28
    obtain ⟨i0, hi, hz0, hz1, hz2⟩ := info_parts Tryz.infoB
    have k0 : Kp [] w (w.alloc (.cells #[] 5)) := (Kp.refl _ _).alloc _
    have hsrc : Src Tryz.prog 1 28 (.slice (some ad) xs.length c) xs.length (bcells xs) (w.alloc (.cells #[] 5)) := (hs.kept k0 (by simp)).src Tryz.underlying28 c
    have hrow : Row (w.alloc (.cells #[] 5)) (.slice (some ⟨w.heap.size, 0, none⟩) 0 0) [] := .inr ⟨w.heap.size, 0, 0, rfl, Nat.le_refl _, Nat.zero_le _, by simp, by simp, by simp⟩
    go_enter Tryz.func23, Tryz.ntmps23
    go_wp2_with (at_builtin; refine wpList_append_src _ rfl (.tmp 5) (.tmp 6) 28 28 rfl i0 Tryz.underlying28 hi hz0 hz1 hz2 _ [] rfl hrow _ xs rfl hsrc (by simpa using hb) ?_)
    intro v' w1 hr hk hn
    go_wp2
    go_ret
    refine ⟨_, rfl, by simpa using hr, k0.trans hk (by simp [own, Value.ownBlock]), fun k hk' => ?_⟩
    rcases hn k hk' with h1 | h1
    · simp [own, Value.ownBlock] at h1; omega
    · omega
set_option maxHeartbeats 400000 in
theorem wBytes (p : Nat) (v : Value) (bs : List UInt8) (w : World) (h : Wr w p v bs) (hb : bs.length ≤ 200000000000000) :
    Calls Tryz.prog 17 #[.pointer (some ⟨p, 0, none⟩)] w fun e w' => ∃ v', e = .returned v' ∧ Row w' v' bs ∧ Kp [] w w' ∧ ∀ k ∈ own v', w.heap.size ≤ k := by
  have hcell := h.cell
  obtain ⟨a1, c1, rfl, hs, _⟩ := h.row.sees
  go_enter Tryz.func17, Tryz.ntmps17
  go_wp2_with fail
  refine (cClone a1 bs.length c1 bs _ hs rfl hb).mono ?_
  rintro e w1 ⟨v', rfl, h1, h2, h3⟩
  go_wp2_with fail
  go_ret
  exact ⟨_, rfl, h1, h2, h3⟩
end Go.Proofs.YtafcdckpicoppaaGreatDoor
end

section
namespace Go.Proofs.YtafcdckpicoppaaGreatDoor
open Go.RowKit Go.Hay
set_option linter.unusedVariables false
set_option linter.unusedSimpArgs false

theorem Wrote.pre {p : Nat} {v v' : Value} {w w1 w2 : World} (k : Kp [] w w1) (h : Wrote p v w1 v' w2) : Wrote p v w v' w2 :=
  ⟨(k.mono (fun x hx => by simp at hx)).trans h.kp (fun x hx => .inl hx), fun x hx => by
    rcases h.new x hx with h1 | h1
    · exact .inl h1
    · exact .inr (Nat.le_trans k.size h1)⟩
set_option maxHeartbeats 4000000 in
set_option maxRecDepth 100000 in
theorem bPutValue (p : Nat) (v : Value) (bs : List UInt8) (x : Val) (hx : x.right = true) (w : World) (h : Wr w p v bs) (hb : bs.length ≤ 100000) :
    Calls Tryz.prog 29 #[.pointer (some ⟨p, 0, none⟩), x.v] w fun e w' => e = .returned (.tuple #[]) ∧ ∃ v', Wr w' p v' (bs ++ rowB x) ∧ Wrote p v w v' w' := by
  obtain ⟨w1, hw1, k1, bx⟩ : ∃ w1, w.alloc (.cells #[.int .i64 x.k, .bool x.b, .int .i64 x.n, .string x.t] 25) = w1 ∧ Kp [] w w1 ∧ Box4 w1 w.heap.size (.int .i64 x.k) (.bool x.b) (.int .i64 x.n) (.string x.t) := ⟨_, rfl, (Kp.refl _ _).alloc _, Box4.new _ _ _ _ _ _⟩
  obtain ⟨w2, hw2, k2, bx2⟩ : ∃ w2, w1.alloc (.cells #[.int .i64 x.k, .bool x.b, .int .i64 x.n, .string x.t] 25) = w2 ∧ Kp [] w1 w2 ∧ Box4 w2 w1.heap.size (.int .i64 x.k) (.bool x.b) (.int .i64 x.n) (.string x.t) := ⟨_, rfl, (Kp.refl _ _).alloc _, Box4.new _ _ _ _ _ _⟩
  have hz1 : w1.heap.size = w.heap.size + 1 := by rw [← hw1]; simp
  have hv : Vals w2 (some ⟨w.heap.size + 1, 0, none⟩) [x] := by
    refine .inr ⟨_, 0, rfl, fun j y hy => ?_⟩
    obtain ⟨rfl, rfl⟩ : j = 0 ∧ y = x := by
      cases j with
      | zero => exact ⟨rfl, by simpa using hy.symm⟩
      | succ j => simp at hy
    rw [← hz1]
    exact ⟨bx2.c0, bx2.c1, bx2.c2, bx2.c3⟩
  have hE := cEncode (some ⟨w.heap.size + 1, 0, none⟩) 1 [x] w2 hv (by simp)
  have hok : encS [x] = (octet 1 :: rowB x, 0) := by
    have : okR [x] = true := by simp [okR, allR, hx]
    unfold encS
    rw [if_pos this]
    simp [encB]
  rw [hok] at hE
  have hrl := rowB_length hx
  have k12 : Kp [] w w2 := k1.trans k2 (by simp)
  have hgo : Hid (∀ w3 g o c, Kp [] w2 w3 → Row w3 (.slice (some ⟨g, o + 1, none⟩) (rowB x).length (c - 1)) (rowB x) → Calls Tryz.prog 14 #[.pointer (some ⟨p, 0, none⟩), .slice (some ⟨g, o + 1, none⟩) (rowB x).length (c - 1)] w3 fun e w' => e = .returned (.tuple #[]) ∧ ∃ v', Wr w' p v' (bs ++ rowB x) ∧ Wrote p v w v' w') := fun w3 g o c k3 hrt => by
    have kw3 := k12.trans k3 (by simp)
    obtain ⟨_, _, e, hs, _⟩ := hrt.sees
    cases e
    exact (wRaw p v bs (some ⟨g, o + 1, none⟩) (rowB x).length (c - 1) (rowB x) w3 (h.kept kw3 (by simp)) hs rfl (by omega)).mono fun e w' ⟨h1, v', h2, h3⟩ => ⟨h1, v', h2, h3.pre kw3⟩
  obtain ⟨R, hR⟩ : ∃ R, Hid (rowB x = R) := ⟨_, rfl⟩
  rw [hR.out] at hE ⊢
  simp only [hR.out] at hgo
  have hw1' := hid hw1
  have hw2' := hid hw2
  rw [← hw2, ← hw1] at hE
  clear hw1 hw2 hok hz1 hv h
  obtain ⟨xk, xb, xn, xt⟩ := x
  unfold Val.v
  dsimp only at *
  go_enter Tryz.func29, Tryz.ntmps29
  go_wp2_with fail
  refine hE.mono ?_
  rintro e w3 ⟨a3, c3, bs3, E3, hr3, rfl, hrow, hnew, _⟩
  obtain ⟨rfl, rfl⟩ : octet 1 :: R = bs3 ∧ (0 : Int) = E3 := by have := hr3.out; exact ⟨congrArg Prod.fst this, congrArg Prod.snd this⟩
  have hkk : Kp [] w2 w3 := by rw [← hw2'.out, ← hw1'.out]; exact hnew.kp
  cases a3 with
  | none =>
    rcases hrow with ⟨_, e⟩ | ⟨_, _, _, e, _⟩
    · cases e
    · cases e
  | some ad =>
    obtain ⟨g, o, rest⟩ := ad
    obtain rfl : rest = none := by
      rcases hrow with ⟨e, _⟩ | ⟨_, _, _, e, _⟩
      · cases e
      · cases e; rfl
    obtain ⟨_, hlc, hcm, hrt⟩ := rowTail hrow
    have hf := hgo.out w3 g o c3 hkk hrt
    have hlen : (octet 1 :: R).length = R.length + 1 := by simp
    rw [hlen]
    unfold maxLen at hcm
    have hpos : 1 ≤ R.length := by rw [← hR.out]; exact rowB_one _
    have hc1 : c3 ≠ 1 := by omega
    clear hlen hgo hrow hnew hR hr3 hrt
    go_wp2_with fail
    refine hf.mono ?_
    rintro e w4 ⟨rfl, v', h2, h3⟩
    have h2' := hid h2
    clear hf h2
    go_wp2_with fail
    go_end0
    exact ⟨rfl, v', h2'.out, h3⟩
end Go.Proofs.YtafcdckpicoppaaGreatDoor
end

section
namespace Go.Proofs.YtafcdckpicoppaaGreatDoor
open Go.RowKit Go.Hay
set_option linter.unusedVariables false
set_option linter.unusedSimpArgs false

/-- No value. -/
def nilV : Val := ⟨0, false, 0, ⟨#[]⟩⟩
/-- The null, the bool or the int that bytes begin with, and in how many bytes; 0: none. -/
def fixF (add : Int) : List UInt8 → Val × Nat
  | [] => (nilV, 0)
  | f :: r =>
    if f.toNat = 0 then (nilV, 1)
    else if f.toNat = 1 then (match r with | [] => (nilV, 0) | y :: _ => if y.toNat ≤ 1 then (⟨1, y.toNat == 1, 0, ⟨#[]⟩⟩, 2) else (nilV, 0))
    else if f.toNat = 2 then (if 8 ≤ r.length then (⟨2, false, wrap64 (num (r.take 8) - add), ⟨#[]⟩⟩, 9) else (nilV, 0))
    else (nilV, 0)
/-- The value that a row's bytes begin with. -/
def rowF : List UInt8 → Val × Nat
  | [] => (nilV, 0)
  | f :: r =>
    if f.toNat = 3 then (match r with | [] => (nilV, 0) | y :: s => if y.toNat ≤ 64 ∧ y.toNat ≤ s.length then (⟨3, false, 0, ⟨(s.take y.toNat).toArray⟩⟩, 2 + y.toNat) else (nilV, 0))
    else fixF 0 (f :: r)

/-- Eight bytes or more are an array of eight. -/
theorem arrAt (a : Option Addr) (c : Nat) (w : World) : (Instr.arrayAt 153 (.slice a 8 c)).run Tryz.prog w = .ok (.pointer a) w := by
  simp [Instr.arrayAt, go_sem]
/-- Bytes that a slice sees, as a string. -/
theorem convSees {w : World} {a : Option Addr} {l : List UInt8} (h : Sees w a l) (c : Nat) : (convert 28 9 (.slice a l.length c)).run Tryz.prog w = .ok (.string ⟨l.toArray⟩) w := by
  rcases h with rfl | ⟨g, o, rfl, hc⟩
  · cases a with
    | none => exact run_convert_bytes_nil w 28 5 Tryz.underlying28 Tryz.underlying5 0 c 9 Tryz.underlying9
    | some ad => exact run_convert_bytes_back (P := Tryz.prog) w 28 9 5 ad c [] Tryz.underlying28 Tryz.underlying5 Tryz.underlying9 (fun j hj => by simp at hj)
  · refine run_convert_bytes_back (P := Tryz.prog) w 28 9 5 ⟨g, o, none⟩ c l Tryz.underlying28 Tryz.underlying5 Tryz.underlying9 (fun j hj => ?_)
    rw [Addr.add_lit]
    exact hc j l[j] (by simp)
theorem Box4.put {w : World} {q : Nat} {a b c d : Value} (h : Box4 w q a b c d) (a' b' c' d' : Value) : Box4 ((((w.setCell ⟨q, 0, none⟩ a').setCell ⟨q, 1, none⟩ b').setCell ⟨q, 2, none⟩ c').setCell ⟨q, 3, none⟩ d') q a' b' c' d' := by
  have n0 : ∀ (w : World) (i j : Nat) (v : Value), i ≠ j → (w.setCell ⟨q, j, none⟩ v).cell? ⟨q, i, none⟩ = w.cell? ⟨q, i, none⟩ := fun w i j v hij => World.cell?_setCell_other _ _ _ _ (by intro e; simp only [Addr.mk.injEq] at e; omega)
  refine ⟨?_, ?_, ?_, ?_, fun j => ?_⟩
  · rw [n0 _ 0 3 _ (by omega), n0 _ 0 2 _ (by omega), n0 _ 0 1 _ (by omega)]
    exact World.cell?_setCell_same _ _ _ h.c0
  · rw [n0 _ 1 3 _ (by omega), n0 _ 1 2 _ (by omega)]
    exact World.cell?_setCell_same _ _ _ ((n0 _ 1 0 _ (by omega)).trans h.c1)
  · rw [n0 _ 2 3 _ (by omega)]
    exact World.cell?_setCell_same _ _ _ ((n0 _ 2 1 _ (by omega)).trans ((n0 _ 2 0 _ (by omega)).trans h.c2))
  · exact World.cell?_setCell_same _ _ _ ((n0 _ 3 2 _ (by omega)).trans ((n0 _ 3 1 _ (by omega)).trans ((n0 _ 3 0 _ (by omega)).trans h.c3)))
  · rw [World.frozen?_setCell, World.frozen?_setCell, World.frozen?_setCell, World.frozen?_setCell]; exact h.free j
theorem gen4 {w0 w : World} {q : Nat} {a b c d : Value} {R : World → Prop} (h : Box4 w q a b c d) (hk : Kp [] w0 w) (hq : w0.heap.size ≤ q) (a' b' c' d' : Value)
    (H : ∀ W, Box4 W q a' b' c' d' → Kp [] w0 W → R W) : R ((((w.setCell ⟨q, 0, none⟩ a').setCell ⟨q, 1, none⟩ b').setCell ⟨q, 2, none⟩ c').setCell ⟨q, 3, none⟩ d') :=
  H _ (h.put a' b' c' d') ((((hk.setCell (.inr hq) _).setCell (.inr hq) _).setCell (.inr hq) _).setCell (.inr hq) _)

/-- What a call that takes a value hands back. -/
def Tk (w : World) (r : Val × Nat) (e : Ending) (w' : World) : Prop := e = .returned (.tuple #[r.1.v, .int .i64 r.2]) ∧ Kp [] w w'

set_option maxHeartbeats 4000000 in
set_option maxRecDepth 100000 in
theorem cTakeFixed (a : Option Addr) (c : Nat) (bs : List UInt8) (add : Int) (w : World) (hs : Sees w a bs) (hl : bs.length ≤ c) (hm : c ≤ maxLen) :
    Calls Tryz.prog 129 #[.slice a bs.length c, .int .u64 add] w (Tk w (fixF add bs)) := by
  have kW : Kp [] w (w.alloc (.cells #[.int .i64 0, .bool false, .int .i64 0, .string ⟨#[]⟩] 25)) := (Kp.refl _ _).alloc _
  have bA := Box4.new w (.int .i64 0) (.bool false) (.int .i64 0) (.string ⟨#[]⟩) 25
  cases bs with
  | nil =>
    go_enter Tryz.func129, Tryz.ntmps129
    go_wp2_with fail
    all_goals refine bodyPost_ret (v := .tuple #[Val.v nilV, .int .i64 0]) (by simp [results, Tryz.results129, go_sem, Val.v, nilV]) rfl ⟨?_, kW⟩
    rfl
  | cons f r =>
    obtain ⟨g, o, rfl, hc⟩ : ∃ g o, a = some ⟨g, o, none⟩ ∧ ∀ j u, (f :: r)[j]? = some u → w.cell? ⟨g, o + j, none⟩ = some (.int .u8 u.toNat) := by
      rcases hs with h | h
      · cases h
      · exact h
    have hc0 : w.cell? ⟨g, o, none⟩ = some (.int .u8 f.toNat) := hc 0 f rfl
    have hg := World.block_lt_of_cell? _ _ hc0
    have hf := f.toNat_lt
    have htl := fun n : Nat => (show Sees w (some ⟨g, o + 1, none⟩) (r.take n) by have := (Sees.tail hs 1).front n; simpa [Addr.add_lit] using this)
    rw [List.length_cons] at hl ⊢
    unfold maxLen at hm
    by_cases h0 : f.toNat = 0
    · have HF : Hid (fixF add (f :: r) = (nilV, 1)) := by show _ = _; simp [fixF, h0]
      rw [h0] at hc0
      clear hc h0 hs htl hf
      generalize fixF add (f :: r) = R at *
      go_enter Tryz.func129, Tryz.ntmps129
      go_wp2_with fail
      refine (cNull _).mono ?_
      rintro e w1 ⟨rfl, k1⟩
      have bA1 := boxKeep bA k1
      have q0 := bA1.c0; have q1 := bA1.c1; have q2 := bA1.c2; have q3 := bA1.c3
      have f0 := bA1.free 0; have f1 := bA1.free 1; have f2 := bA1.free 2; have f3 := bA1.free 3
      have kk := kW.trans k1 (by simp)
      go_wp2_with fail
      refine gen4 (R := fun W => bodyPost _ _ _ _ _ W) bA1 kk (Nat.le_refl _) _ _ _ _ ?_
      intro W bW kW2
      have r0 := bW.c0; have r1 := bW.c1; have r2 := bW.c2; have r3 := bW.c3
      refine bodyPost_ret (v := .tuple #[Val.v nilV, .int .i64 1]) (by simp [results, Tryz.results129, go_sem, Val.v, nilV, r0, r1, r2, r3]) rfl ⟨?_, kW2⟩
      all_goals (rw [HF.out]; rfl)
    have e0 : ((f.toNat : Int) == 0) = false := by simp; omega
    by_cases h1 : f.toNat = 1
    · rw [h1] at hc0
      cases r with
      | nil =>
        have HF : Hid (fixF add (f :: []) = (nilV, 0)) := by show _ = _; simp [fixF, h1]
        clear hc h0 h1 hs htl hf e0
        generalize fixF add (f :: []) = R at *
        rw [List.length_nil] at hl ⊢
        go_enter Tryz.func129, Tryz.ntmps129
        go_wp2_with fail
        all_goals refine bodyPost_ret (v := .tuple #[Val.v nilV, .int .i64 0]) (by simp [results, Tryz.results129, go_sem, Val.v, nilV]) rfl ⟨?_, kW⟩
        all_goals (rw [HF.out]; rfl)
      | cons y s =>
        have hc1 : w.cell? ⟨g, o + 1, none⟩ = some (.int .u8 y.toNat) := hc 1 y rfl
        rw [List.length_cons] at hl ⊢
        have hy := y.toNat_lt
        by_cases hy1 : y.toNat ≤ 1
        · have HF : Hid (fixF add (f :: y :: s) = (⟨1, y.toNat == 1, 0, ⟨#[]⟩⟩, 2)) := by show _ = _; simp [fixF, h1, hy1]
          clear hc h0 h1 hs htl hf e0
          generalize fixF add (f :: y :: s) = R at *
          obtain ⟨b, Hb⟩ : ∃ b : Bool, Hid ((y.toNat == 1) = b) := ⟨_, rfl⟩
          rw [Hb.out] at HF
          have hbb : ((y.toNat : Int) == 1) = b := by rw [← Hb.out, Bool.eq_iff_iff]; simp; omega
          go_enter Tryz.func129, Tryz.ntmps129
          go_wp2_with fail
          refine (cBool b _).mono ?_
          rintro e w1 ⟨rfl, k1⟩
          have bA1 := boxKeep bA k1
          have q0 := bA1.c0; have q1 := bA1.c1; have q2 := bA1.c2; have q3 := bA1.c3
          have f0 := bA1.free 0; have f1 := bA1.free 1; have f2 := bA1.free 2; have f3 := bA1.free 3
          have kk := kW.trans k1 (by simp)
          go_wp2_with fail
          refine gen4 (R := fun W => bodyPost _ _ _ _ _ W) bA1 kk (Nat.le_refl _) _ _ _ _ ?_
          intro W bW kW2
          have r0 := bW.c0; have r1 := bW.c1; have r2 := bW.c2; have r3 := bW.c3
          refine bodyPost_ret (v := .tuple #[Val.v ⟨1, b, 0, ⟨#[]⟩⟩, .int .i64 2]) (by simp [results, Tryz.results129, go_sem, Val.v, nilV, r0, r1, r2, r3]) rfl ⟨?_, kW2⟩
          all_goals (rw [HF.out]; rfl)
        · have HF : Hid (fixF add (f :: y :: s) = (nilV, 0)) := by show _ = _; simp [fixF, h1, hy1]
          clear hc h0 h1 hs htl hf e0
          generalize fixF add (f :: y :: s) = R at *
          go_enter Tryz.func129, Tryz.ntmps129
          go_wp2_with fail
          all_goals refine bodyPost_ret (v := .tuple #[Val.v nilV, .int .i64 0]) (by simp [results, Tryz.results129, go_sem, Val.v, nilV]) rfl ⟨?_, kW⟩
          all_goals (rw [HF.out]; rfl)
    have e1 : ((f.toNat : Int) == 1) = false := by simp; omega
    by_cases h2 : f.toNat = 2
    · rw [h2] at hc0
      by_cases h8 : 8 ≤ r.length
      · have HF : Hid (fixF add (f :: r) = (⟨2, false, wrap64 (num (r.take 8) - add), ⟨#[]⟩⟩, 9)) := by show _ = _; simp [fixF, h2, h8]
        obtain ⟨x0, x1, x2, x3, x4, x5, x6, x7, hr8⟩ : ∃ x0 x1 x2 x3 x4 x5 x6 x7 : UInt8, Hid (r.take 8 = [x0, x1, x2, x3, x4, x5, x6, x7]) := by
          match r, h8 with
          | x0 :: x1 :: x2 :: x3 :: x4 :: x5 :: x6 :: x7 :: r', _ => exact ⟨x0, x1, x2, x3, x4, x5, x6, x7, rfl⟩
        have hs8 := htl 8
        rw [hr8.out] at HF hs8
        have hN := cLongNum [x0, x1, x2, x3, x4, x5, x6, x7] rfl
        have hnb := num_lt64 [x0, x1, x2, x3, x4, x5, x6, x7] (by simp)
        rw [show long8 [x0, x1, x2, x3, x4, x5, x6, x7] = .agg #[.int .u8 x0.toNat, .int .u8 x1.toNat, .int .u8 x2.toNat, .int .u8 x3.toNat, .int .u8 x4.toNat, .int .u8 x5.toNat, .int .u8 x6.toNat, .int .u8 x7.toNat] from rfl] at hN
        have p0 : w.cell? ⟨g, o + 1, none⟩ = some (.int .u8 x0.toNat) := (by rcases hs8 with h | ⟨_, _, h, hh⟩; cases h; cases h; exact hh 0 _ rfl)
        have p1 : w.cell? ⟨g, o + 1 + 1, none⟩ = some (.int .u8 x1.toNat) := (by rcases hs8 with h | ⟨_, _, h, hh⟩; cases h; cases h; exact hh 1 _ rfl)
        have p2 : w.cell? ⟨g, o + 1 + 2, none⟩ = some (.int .u8 x2.toNat) := (by rcases hs8 with h | ⟨_, _, h, hh⟩; cases h; cases h; exact hh 2 _ rfl)
        have p3 : w.cell? ⟨g, o + 1 + 3, none⟩ = some (.int .u8 x3.toNat) := (by rcases hs8 with h | ⟨_, _, h, hh⟩; cases h; cases h; exact hh 3 _ rfl)
        have p4 : w.cell? ⟨g, o + 1 + 4, none⟩ = some (.int .u8 x4.toNat) := (by rcases hs8 with h | ⟨_, _, h, hh⟩; cases h; cases h; exact hh 4 _ rfl)
        have p5 : w.cell? ⟨g, o + 1 + 5, none⟩ = some (.int .u8 x5.toNat) := (by rcases hs8 with h | ⟨_, _, h, hh⟩; cases h; cases h; exact hh 5 _ rfl)
        have p6 : w.cell? ⟨g, o + 1 + 6, none⟩ = some (.int .u8 x6.toNat) := (by rcases hs8 with h | ⟨_, _, h, hh⟩; cases h; cases h; exact hh 6 _ rfl)
        have p7 : w.cell? ⟨g, o + 1 + 7, none⟩ = some (.int .u8 x7.toNat) := (by rcases hs8 with h | ⟨_, _, h, hh⟩; cases h; cases h; exact hh 7 _ rfl)
        clear hc h0 h1 h2 hs htl hf hs8 hr8
        generalize fixF add (f :: r) = R at *
        generalize num [x0, x1, x2, x3, x4, x5, x6, x7] = m at *
        have hc9 : (9 : Nat) ≤ c := by omega
        have hAt := arrAt (some ⟨g, o + 1, none⟩) (c - 1)
        go_enter Tryz.func129, Tryz.ntmps129
        go_wp2_with fail
        refine (hN _).mono ?_
        rintro e w1 ⟨rfl, k1⟩
        have kX := kW.trans ((kpNew _ (.cells #[.int .u8 x0.toNat, .int .u8 x1.toNat, .int .u8 x2.toNat, .int .u8 x3.toNat, .int .u8 x4.toNat, .int .u8 x5.toNat, .int .u8 x6.toNat, .int .u8 x7.toNat] 153)).trans k1 (by simp)) (by simp)
        have bA0 := boxKeep (boxKeep bA (kpNew _ (.cells #[.int .u8 x0.toNat, .int .u8 x1.toNat, .int .u8 x2.toNat, .int .u8 x3.toNat, .int .u8 x4.toNat, .int .u8 x5.toNat, .int .u8 x6.toNat, .int .u8 x7.toNat] 153))) k1
        have hww : wrap64 (IntKind.u64.wrap ((m : Int) - add)) = wrap64 ((m : Int) - add) := by rw [IntKind.wrap_u64]; unfold wrap64; omega
        generalize hz : wrap64 ((m : Int) - add) = z at *
        clear hz kW bA k1
        go_wp2_with fail
        refine (cInt z _).mono ?_
        rintro e w2 ⟨rfl, k2⟩
        have kW := kX
        have bA := bA0
        have k1 := k2
        have bA1 := boxKeep bA k1
        have q0 := bA1.c0; have q1 := bA1.c1; have q2 := bA1.c2; have q3 := bA1.c3
        have f0 := bA1.free 0; have f1 := bA1.free 1; have f2 := bA1.free 2; have f3 := bA1.free 3
        have kk := kW.trans k1 (by simp)
        go_wp2_with fail
        refine gen4 (R := fun W => bodyPost _ _ _ _ _ W) bA1 kk (Nat.le_refl _) _ _ _ _ ?_
        intro W bW kW2
        have r0 := bW.c0; have r1 := bW.c1; have r2 := bW.c2; have r3 := bW.c3
        refine bodyPost_ret (v := .tuple #[Val.v ⟨2, false, z, ⟨#[]⟩⟩, .int .i64 9]) (by simp [results, Tryz.results129, go_sem, Val.v, nilV, r0, r1, r2, r3]) rfl ⟨?_, kW2⟩
        all_goals (rw [HF.out]; rfl)
      · have HF : Hid (fixF add (f :: r) = (nilV, 0)) := by show _ = _; simp [fixF, h2, h8]
        clear hc h0 h1 h2 hs htl hf
        generalize fixF add (f :: r) = R at *
        go_enter Tryz.func129, Tryz.ntmps129
        go_wp2_with fail
        all_goals refine bodyPost_ret (v := .tuple #[Val.v nilV, .int .i64 0]) (by simp [results, Tryz.results129, go_sem, Val.v, nilV]) rfl ⟨?_, kW⟩
        all_goals (rw [HF.out]; rfl)
    have e2 : ((f.toNat : Int) == 2) = false := by simp; omega
    have HF : Hid (fixF add (f :: r) = (nilV, 0)) := by show _ = _; simp [fixF, h0, h1, h2]
    clear hs htl
    by_cases hlen : 1 ≤ r.length
    · obtain ⟨y, s, rfl⟩ : ∃ y s, r = y :: s := by cases r with | nil => simp at hlen | cons y s => exact ⟨y, s, rfl⟩
      have hc1 : w.cell? ⟨g, o + 1, none⟩ = some (.int .u8 y.toNat) := hc 1 y rfl
      clear hc h0 h1 h2 hf
      generalize fixF add (f :: y :: s) = R at *
      by_cases h9 : 9 ≤ (y :: s).length + 1
      · go_enter Tryz.func129, Tryz.ntmps129
        go_wp2_with fail
        all_goals refine bodyPost_ret (v := .tuple #[Val.v nilV, .int .i64 0]) (by simp [results, Tryz.results129, go_sem, Val.v, nilV]) rfl ⟨?_, kW⟩
        all_goals (rw [HF.out]; rfl)
      · go_enter Tryz.func129, Tryz.ntmps129
        go_wp2_with fail
        all_goals refine bodyPost_ret (v := .tuple #[Val.v nilV, .int .i64 0]) (by simp [results, Tryz.results129, go_sem, Val.v, nilV]) rfl ⟨?_, kW⟩
        all_goals (rw [HF.out]; rfl)
    · clear hc h0 h1 h2 hf
      generalize fixF add (f :: r) = R at *
      go_enter Tryz.func129, Tryz.ntmps129
      go_wp2_with fail
      all_goals refine bodyPost_ret (v := .tuple #[Val.v nilV, .int .i64 0]) (by simp [results, Tryz.results129, go_sem, Val.v, nilV]) rfl ⟨?_, kW⟩
      all_goals (rw [HF.out]; rfl)

set_option maxHeartbeats 4000000 in
set_option maxRecDepth 100000 in
theorem cTakeValue (a : Option Addr) (c : Nat) (bs : List UInt8) (w : World) (hs : Sees w a bs) (hl : bs.length ≤ c) (hm : c ≤ maxLen) :
    Calls Tryz.prog 128 #[.slice a bs.length c] w (Tk w (rowF bs)) := by
  have kW : Kp [] w (w.alloc (.cells #[.int .i64 0, .bool false, .int .i64 0, .string ⟨#[]⟩] 25)) := (Kp.refl _ _).alloc _
  have bA := Box4.new w (.int .i64 0) (.bool false) (.int .i64 0) (.string ⟨#[]⟩) 25
  have hT := fun w' (k : Kp [] w w') => cTakeFixed a c bs 0 w' (seesKeep hs k) hl hm
  cases bs with
  | nil =>
    rw [show rowF [] = fixF 0 [] from rfl]
    rw [List.length_nil] at hT ⊢
    generalize fixF 0 _ = R at *
    obtain ⟨⟨xk, xb, xn, xt⟩, n⟩ := R
    unfold Tk Val.v at hT ⊢
    dsimp only at hT ⊢
    go_enter Tryz.func128, Tryz.ntmps128
    go_wp2_with fail
    refine (hT _ kW).mono ?_
    rintro e w1 ⟨rfl, k1⟩
    have bA1 := boxKeep bA k1
    have q0 := bA1.c0; have q1 := bA1.c1; have q2 := bA1.c2; have q3 := bA1.c3
    have f0 := bA1.free 0; have f1 := bA1.free 1; have f2 := bA1.free 2; have f3 := bA1.free 3
    have kk := kW.trans k1 (by simp)
    go_wp2_with fail
    refine gen4 (R := fun W => bodyPost _ _ _ _ _ W) bA1 kk (Nat.le_refl _) _ _ _ _ ?_
    intro W bW kW2
    have r0 := bW.c0; have r1 := bW.c1; have r2 := bW.c2; have r3 := bW.c3
    refine bodyPost_ret (v := .tuple #[Val.v ⟨xk, xb, xn, xt⟩, .int .i64 n]) (by simp [results, Tryz.results128, go_sem, Val.v, nilV, r0, r1, r2, r3]) rfl ⟨?_, kW2⟩
    rfl
  | cons f r =>
    obtain ⟨g, o, rfl, hc⟩ : ∃ g o, a = some ⟨g, o, none⟩ ∧ ∀ j u, (f :: r)[j]? = some u → w.cell? ⟨g, o + j, none⟩ = some (.int .u8 u.toNat) := by
      rcases hs with h | h
      · cases h
      · exact h
    have hc0 : w.cell? ⟨g, o, none⟩ = some (.int .u8 f.toNat) := hc 0 f rfl
    have hg := World.block_lt_of_cell? _ _ hc0
    have hf := f.toNat_lt
    have htl := fun n : Nat => (show Sees w (some ⟨g, o + 1, none⟩) (r.take n) by have := (Sees.tail hs 1).front n; simpa [Addr.add_lit] using this)
    rw [List.length_cons] at hl ⊢
    unfold maxLen at hm
    by_cases h3 : f.toNat = 3
    · rw [h3] at hc0
      clear hT
      cases r with
      | nil =>
        have HF : Hid (rowF (f :: []) = (nilV, 0)) := by show _ = _; simp [rowF, h3]
        clear hc h3 hs htl hf
        generalize rowF (f :: []) = R at *
        rw [List.length_nil] at hl ⊢
        go_enter Tryz.func128, Tryz.ntmps128
        go_wp2_with fail
        all_goals refine bodyPost_ret (v := .tuple #[Val.v nilV, .int .i64 0]) (by simp [results, Tryz.results128, go_sem, Val.v, nilV]) rfl ⟨?_, kW⟩
        all_goals (rw [HF.out]; rfl)
      | cons y s =>
        have hc1 : w.cell? ⟨g, o + 1, none⟩ = some (.int .u8 y.toNat) := hc 1 y rfl
        rw [List.length_cons] at hl ⊢
        have hy := y.toNat_lt
        by_cases hy6 : y.toNat ≤ 64
        · by_cases hys : y.toNat ≤ s.length
          · have HF : Hid (rowF (f :: y :: s) = (⟨3, false, 0, ⟨(s.take y.toNat).toArray⟩⟩, 2 + y.toNat)) := by show _ = _; simp [rowF, h3, hy6, hys]
            have hs2 : Sees (w.alloc (.cells #[.int .i64 0, .bool false, .int .i64 0, .string ⟨#[]⟩] 25)) (some ⟨g, o + 2, none⟩) (s.take y.toNat) := by
              have := seesKeep ((Sees.tail hs 2).front y.toNat) kW
              simpa [Addr.add_lit] using this
            have hcv := convSees hs2 (c - 2)
            rw [show (s.take y.toNat).length = y.toNat by simp; omega] at hcv
            have hT0 : y.toNat = 0 → (⟨(s.take y.toNat).toArray⟩ : ByteArray) = ⟨#[]⟩ := by intro h; rw [h]; rfl
            have hcv0 := fun a c => convSees (w := w.alloc (.cells #[.int .i64 0, .bool false, .int .i64 0, .string ⟨#[]⟩] 25)) (Sees.nil _ a) c
            rw [List.length_nil] at hcv0
            generalize (⟨(s.take y.toNat).toArray⟩ : ByteArray) = T at *
            clear hc h3 hs htl hf hs2
            generalize rowF (f :: y :: s) = R at *
            generalize y.toNat = n at *
            by_cases hc2 : c = 2
            · subst hc2
              obtain rfl : n = 0 := by omega
              have hT1 := hT0 rfl
              subst hT1
              clear hcv hT0
              go_enter Tryz.func128, Tryz.ntmps128
              go_wp2_with fail
              refine (cText ⟨#[]⟩ _).mono ?_
              rintro e w1 ⟨rfl, k1⟩
              have bA1 := boxKeep bA k1
              have q0 := bA1.c0; have q1 := bA1.c1; have q2 := bA1.c2; have q3 := bA1.c3
              have f0 := bA1.free 0; have f1 := bA1.free 1; have f2 := bA1.free 2; have f3 := bA1.free 3
              have kk := kW.trans k1 (by simp)
              go_wp2_with fail
              refine gen4 (R := fun W => bodyPost _ _ _ _ _ W) bA1 kk (Nat.le_refl _) _ _ _ _ ?_
              intro W bW kW2
              have r0 := bW.c0; have r1 := bW.c1; have r2 := bW.c2; have r3 := bW.c3
              refine bodyPost_ret (v := .tuple #[Val.v ⟨3, false, 0, ⟨#[]⟩⟩, .int .i64 2]) (by simp [results, Tryz.results128, go_sem, Val.v, nilV, r0, r1, r2, r3]) rfl ⟨?_, kW2⟩
              rw [HF.out]; rfl
            clear hcv0 hT0
            go_enter Tryz.func128, Tryz.ntmps128
            go_wp2_with fail
            refine (cText T _).mono ?_
            rintro e w1 ⟨rfl, k1⟩
            have bA1 := boxKeep bA k1
            have q0 := bA1.c0; have q1 := bA1.c1; have q2 := bA1.c2; have q3 := bA1.c3
            have f0 := bA1.free 0; have f1 := bA1.free 1; have f2 := bA1.free 2; have f3 := bA1.free 3
            have kk := kW.trans k1 (by simp)
            go_wp2_with fail
            refine gen4 (R := fun W => bodyPost _ _ _ _ _ W) bA1 kk (Nat.le_refl _) _ _ _ _ ?_
            intro W bW kW2
            have r0 := bW.c0; have r1 := bW.c1; have r2 := bW.c2; have r3 := bW.c3
            refine bodyPost_ret (v := .tuple #[Val.v ⟨3, false, 0, T⟩, .int .i64 (2 + (n : Int))]) (by simp [results, Tryz.results128, go_sem, Val.v, nilV, r0, r1, r2, r3]) rfl ⟨?_, kW2⟩
            rw [HF.out]; rfl
          · have HF : Hid (rowF (f :: y :: s) = (nilV, 0)) := by show _ = _; simp [rowF, h3, hys]
            clear hc h3 hs htl hf
            generalize rowF (f :: y :: s) = R at *
            go_enter Tryz.func128, Tryz.ntmps128
            go_wp2_with fail
            all_goals refine bodyPost_ret (v := .tuple #[Val.v nilV, .int .i64 0]) (by simp [results, Tryz.results128, go_sem, Val.v, nilV]) rfl ⟨?_, kW⟩
            all_goals (rw [HF.out]; rfl)
        · have HF : Hid (rowF (f :: y :: s) = (nilV, 0)) := by show _ = _; simp [rowF, h3, hy6]
          clear hc h3 hs htl hf
          generalize rowF (f :: y :: s) = R at *
          go_enter Tryz.func128, Tryz.ntmps128
          go_wp2_with fail
          all_goals refine bodyPost_ret (v := .tuple #[Val.v nilV, .int .i64 0]) (by simp [results, Tryz.results128, go_sem, Val.v, nilV]) rfl ⟨?_, kW⟩
          all_goals (rw [HF.out]; rfl)
    · have e3 : ((f.toNat : Int) == 3) = false := by simp; omega
      rw [show rowF (f :: r) = fixF 0 (f :: r) by simp only [rowF, if_neg h3]]
      rw [List.length_cons] at hT
      have e3' : ((f.toNat : Int) != 3) = true := by simp; omega
      clear hc hs htl hf
      generalize fixF 0 _ = R at *
      obtain ⟨⟨xk, xb, xn, xt⟩, n⟩ := R
      unfold Tk Val.v at hT ⊢
      dsimp only at hT ⊢
      go_enter Tryz.func128, Tryz.ntmps128
      go_wp2_with fail
      refine (hT _ kW).mono ?_
      rintro e w1 ⟨rfl, k1⟩
      have bA1 := boxKeep bA k1
      have q0 := bA1.c0; have q1 := bA1.c1; have q2 := bA1.c2; have q3 := bA1.c3
      have f0 := bA1.free 0; have f1 := bA1.free 1; have f2 := bA1.free 2; have f3 := bA1.free 3
      have kk := kW.trans k1 (by simp)
      go_wp2_with fail
      refine gen4 (R := fun W => bodyPost _ _ _ _ _ W) bA1 kk (Nat.le_refl _) _ _ _ _ ?_
      intro W bW kW2
      have r0 := bW.c0; have r1 := bW.c1; have r2 := bW.c2; have r3 := bW.c3
      refine bodyPost_ret (v := .tuple #[Val.v ⟨xk, xb, xn, xt⟩, .int .i64 n]) (by simp [results, Tryz.results128, go_sem, Val.v, nilV, r0, r1, r2, r3]) rfl ⟨?_, kW2⟩
      rfl
end Go.Proofs.YtafcdckpicoppaaGreatDoor
end

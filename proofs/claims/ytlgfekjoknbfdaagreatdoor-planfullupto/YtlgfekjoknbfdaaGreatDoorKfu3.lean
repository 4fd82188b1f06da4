/- The reference's Full. (mkpfu.py) -/
import Derived.Test.YtlgfekjoknbfdaaGreatDoorKfu2
import Derived.Test.YtlgfekjoknbfdaaGreatDoorKfu1
import Derived.Test.YtlgfekjoknbfdaaGreatDoorB1
import Derived.Test.YtlgfekjoknbfdaaGreatDoorB7
import Derived.Test.YtlgfekjoknbfdaaGreatDoorB3
import Derived.Deep.CutBlock
import Derived.Deep.CutRange
set_option maxHeartbeats 64000000
set_option maxRecDepth 100000
set_option linter.unusedVariables false
set_option linter.unusedSimpArgs false
section
namespace Go.Proofs.YtlgfekjoknbfdaaGreatDoor
open Go.RowKit Go.Hay
attribute [local go_sem] Oper.semAt_some
theorem cTold1 (x y : Vr) (w : World) : Calls Tryz.prog 89 #[x.v, y.v] w fun e w' => e = .returned (.int .i64 (nmC x y)) ∧ Kp [] w w' := by
 obtain ⟨WA, eWA⟩ : ∃ Y, w.alloc (.cells #[.int .u64 x.e, .int .u32 x.n, .slice x.a x.l.length x.c, .int .u64 x.d] 80) = Y := ⟨_, rfl⟩
 have kWA : Kp [] w WA := by rw [← eWA]; exact (Kp.refl _ _).alloc _
 have zWA : WA.heap.size = w.heap.size + 1 := by rw [← eWA]; simp
 have bWA : Bn WA w.heap.size [.int .u64 x.e, .int .u32 x.n, .slice x.a x.l.length x.c, .int .u64 x.d] := by rw [← eWA]; exact Bn.new w [.int .u64 x.e, .int .u32 x.n, .slice x.a x.l.length x.c, .int .u64 x.d] 80
 obtain ⟨WB, eWB⟩ : ∃ Y, WA.alloc (.cells #[.int .u64 y.e, .int .u32 y.n, .slice y.a y.l.length y.c, .int .u64 y.d] 80) = Y := ⟨_, rfl⟩
 have kWB : Kp [] WA WB := by rw [← eWB]; exact (Kp.refl _ _).alloc _
 have zWB : WB.heap.size = WA.heap.size + 1 := by rw [← eWB]; simp
 have bWB : Bn WB WA.heap.size [.int .u64 y.e, .int .u32 y.n, .slice y.a y.l.length y.c, .int .u64 y.d] := by rw [← eWB]; exact Bn.new WA [.int .u64 y.e, .int .u32 y.n, .slice y.a y.l.length y.c, .int .u64 y.d] 80
 have b1 := bWA.kept kWB
 have KW := hid (kWA.trans kWB (by simp))
 have HB := hid (And.intro b1 bWB)
 have hF : Hid (∀ W', Kp [] WB W' → (W'.cell? ⟨w.heap.size, 0, none⟩ = some (.int .u64 x.e) ∧ W'.cell? ⟨w.heap.size, 1, none⟩ = some (.int .u32 x.n) ∧ W'.cell? ⟨WA.heap.size, 0, none⟩ = some (.int .u64 y.e) ∧ W'.cell? ⟨WA.heap.size, 1, none⟩ = some (.int .u32 y.n))) := fun W' k => by
  have h1 := HB.out.1.kept k
  have h2 := HB.out.2.kept k
  exact ⟨h1.get 0 _ rfl, h1.get 1 _ rfl, h2.get 0 _ rfl, h2.get 1 _ rfl⟩
 have a1 := hid (cCmpU x.e y.e)
 have a2 := hid (cCmpW x.n y.n)
 obtain ⟨c1, h1⟩ : ∃ c, Hid (ci x.e y.e = c) := ⟨_, hid rfl⟩
 obtain ⟨c2, h2⟩ : ∃ c, Hid (ci x.n y.n = c) := ⟨_, hid rfl⟩
 have hR : Hid (nmC x y = if c1 = 0 then c2 else c1) := hid (by unfold nmC; rw [h1.out, h2.out])
 rw [hR.out];obtain ⟨R, hR2⟩ : ∃ R, Hid ((if c1 = 0 then c2 else c1) = R) := ⟨_, hid rfl⟩
 rw [hR2.out];rw [h1.out] at a1;rw [h2.out] at a2;unfold Vr.v
 clear h1 h2 b1 bWA bWB kWA kWB zWA zWB hR HB;go_enter Tryz.func89, Tryz.ntmps89
 go_wp2_with fail;refine wp_noPanicY ?_;refine wp_region_held_drew (S := fun W' => W'.cell? ⟨w.heap.size, 0, none⟩ = some (.int .u64 x.e) ∧ W'.cell? ⟨w.heap.size, 1, none⟩ = some (.int .u32 x.n) ∧ W'.cell? ⟨WA.heap.size, 0, none⟩ = some (.int .u64 y.e) ∧ W'.cell? ⟨WA.heap.size, 1, none⟩ = some (.int .u32 y.n)) (by kernel_rfl) (hF.out _ (Kp.refl [] WB).drew) (fun hHeld => ?_)
 have KD : Hid (Kp [] WB WB.drew) := hid (Kp.refl [] WB).drew
 generalize WB.drew = Wd at *
 refine tkH ?_ 0 rfl (by kernel_rfl) (fun _ _ _ h => by cases h.1) (by rfl) ?_ ‹_› ?_;rotate_left
 ·intro w h; (try dsimp only at h); go_simp <;> with_reducible rfl
 (try simp only [Act.put, lz]);refine tkH ?_ 1 rfl (by kernel_rfl) (fun _ _ _ h => by cases h.1) (by rfl) ?_ ‹_› ?_;rotate_left
 ·intro w h; (try dsimp only at h); go_simp <;> with_reducible rfl
 (try simp only [Act.put, lz]);refine tkH ?_ 2 rfl (by kernel_rfl) (fun _ _ _ h => by cases h.1) (by rfl) ?_ ‹_› ?_;rotate_left
 ·intro w h; (try dsimp only at h); go_simp <;> with_reducible rfl
 (try simp only [Act.put, lz]);refine tkH ?_ 3 rfl (by kernel_rfl) (fun _ _ _ h => by cases h.1) (by rfl) ?_ ‹_› ?_;rotate_left
 ·intro w h; (try dsimp only at h); go_simp <;> with_reducible rfl
 (try simp only [Act.put, lz]);refine tkH ?_ 4 rfl (by kernel_rfl) (fun _ _ _ h => by cases h.1) (by rfl) ?_ ‹_› ?_;rotate_left
 ·intro w h; (try dsimp only at h); go_simp <;> with_reducible rfl
 (try simp only [Act.put, lz]);refine tkH ?_ 5 rfl (by kernel_rfl) (fun _ _ _ h => by cases h.1) (by rfl) ?_ ‹_› ?_;rotate_left
 ·intro w h; (try dsimp only at h); go_simp <;> with_reducible rfl
 (try simp only [Act.put, lz]);refine tkH ?_ 7 rfl (by kernel_rfl) (fun _ _ _ h => by cases h.1) (by rfl) ?_ ‹_› ?_;rotate_left
 ·intro w h; (try dsimp only at h); go_simp <;> with_reducible rfl
 (try simp only [Act.put, lz]);refine tkH ?_ 8 rfl (by kernel_rfl) (fun _ _ _ h => by cases h.1) (by rfl) ?_ ‹_› ?_;rotate_left
 ·intro w h; (try dsimp only at h); go_simp <;> with_reducible rfl
 (try simp only [Act.put, lz]);refine tkH ?_ 9 rfl (by kernel_rfl) (fun _ _ _ h => by cases h.1) (by rfl) ?_ ‹_› ?_;rotate_left
 ·intro w h; (try dsimp only at h); go_simp <;> with_reducible rfl
 (try simp only [Act.put, lz]);refine tkH ?_ 10 rfl (by kernel_rfl) (fun _ _ _ h => by cases h.1) (by rfl) ?_ ‹_› ?_;rotate_left
 ·intro w h; (try dsimp only at h); go_simp <;> with_reducible rfl
 (try simp only [Act.put, lz]);refine tkH ?_ 11 rfl (by kernel_rfl) (fun _ _ _ h => by cases h.1) (by rfl) ?_ ‹_› ?_;rotate_left
 ·intro w h; (try dsimp only at h); go_simp <;> with_reducible rfl
 (try simp only [Act.put, lz]);refine tkH ?_ 12 rfl (by kernel_rfl) (fun _ _ _ h => by cases h.1) (by rfl) ?_ ‹_› ?_;rotate_left
 ·intro w h; (try dsimp only at h); go_simp <;> with_reducible rfl
 (try simp only [Act.put, lz]);refine rdH 6 (by kernel_rfl) rfl fun K hK => ?_
 go_simp;refine (a1.out _).mono ?_;rintro e u1 ⟨rfl, ex⟩;rw [ex];clear ex u1;(try go_wp2_with fail);refine hK.out _ _ (hF.out _ KD.out) (fun hHeld => ?_)
 clear hK K;(try simp only [Act.put, lz]);refine rdH 13 (by kernel_rfl) rfl fun K hK => ?_
 go_simp;refine (a2.out _).mono ?_;rintro e u2 ⟨rfl, ex⟩;rw [ex];clear ex u2;(try go_wp2_with fail);refine hK.out _ _ (hF.out _ KD.out) (fun hHeld => ?_)
 clear hK K;(try simp only [Act.put, lz]);obtain ⟨WC, eWC⟩ : ∃ Y, Wd.alloc (.cells #[.int .i64 c1, .int .i64 c2] 3) = Y := ⟨_, rfl⟩
 have kWC : Kp [] Wd WC := by rw [← eWC]; exact (Kp.refl _ _).alloc _
 have bWC : Bn WC Wd.heap.size [.int .i64 c1, .int .i64 c2] := by rw [← eWC]; exact Bn.new Wd [.int .i64 c1, .int .i64 c2] 3
 have a3 := hid (cOr2 Wd.heap.size c1 c2 WC bWC)
 rw [hR2.out] at a3;have KC := hid (KD.out.trans kWC (by simp))
 clear kWC bWC;refine rdH 14 (by kernel_rfl) rfl fun K hK => ?_
 go_simp;(try go_wp2_with fail);refine hK.out _ _ (hF.out _ KC.out) (fun hHeld => ?_)
 clear hK K;(try simp only [Act.put, lz]);refine rdH 15 (by kernel_rfl) rfl fun K hK => ?_
 go_simp;refine a3.out.mono ?_;rintro e u3 ⟨rfl, l3⟩;(try go_wp2_with fail);refine hK.out _ _ (hF.out _ (KC.out.trans l3 (by simp))) (fun hHeld => ?_)
 clear hK K;(try simp only [Act.put, lz]);have K3 := hid (KW.out.trans (KC.out.trans l3 (by simp)) (by simp))
 clear l3;refine tkH ?_ 16 rfl (by kernel_rfl) (fun _ _ _ h => by cases h.1) (by rfl) ?_ ‹_› ?_;rotate_left
 ·intro w h; (try dsimp only at h); go_simp <;> with_reducible rfl
 (try simp only [Act.put, lz]);refine wpAnyH_done (by kernel_rfl) ⟨rfl, ?_⟩ _
 clear hHeld hF;go_wp2_with fail;go_ret;exact ⟨rfl, K3.out⟩
theorem nmC_N (x y : Vr) : nmC x y = nmN x.pr y.pr := rfl
theorem nmC_swo (A : Nat → Vr) : Swo fun x y => nmC (A x) (A y) < 0 := ⟨fun x y h => by
  have := nmC_neg (A x) (A y)
  omega, fun x y z h1 h2 => by
  have a := nmC_neg (A x) (A y); have b := nmC_neg (A y) (A z); have c := nmC_neg (A x) (A z)
  have := nmC_trans (A z) (A y) (A x)
  omega⟩
theorem cSortF (N : Nat) (g o cap : Nat) (L : List Vr) (w : World) (h : Lov N (some ⟨g, o, none⟩) cap L w) (hn : L.length ≤ 4000000000000) :
  Calls Tryz.prog 88 #[.slice (some ⟨g, o, none⟩) L.length cap, .func (.func 89) #[] #[]] w fun e w' => (∃ v, e = .returned v) ∧ ∃ L', L'.length = L.length ∧ Lov N (some ⟨g, o, none⟩) cap L' w' ∧ L'.map Vr.pr = ordN (L.map Vr.pr) ∧ Kp [g] w w' := by
 have hC : CmpOkFu g L.length (fun k => L.getD k default) (fun x y => nmC (L.getD x default) (L.getD y default)) (fun _ => True) := ⟨fun W x y _ _ _ => cTold1 _ _ W, fun _ _ _ _ => trivial, nmC_swo _⟩
 have earr : arrFu (fun k => L.getD k default) (fun k => k) L.length = L := by
  apply List.ext_getElem?
  intro i
  by_cases hi : i < L.length
  ·rw [arr_atFu _ _ _ _ hi, List.getD_eq_getElem?_getD, List.getElem?_eq_getElem hi]; rfl
  ·rw [List.getElem?_eq_none (by rw [arr_lenFu]; omega), List.getElem?_eq_none (by omega)]
 have hd : HdFu w g o L.length cap (fun k => L.getD k default) (fun k => k) := by
  unfold HdFu
  rw [earr];exact h.row
 have hcap : L.length ≤ cap := by
  obtain ⟨_, _, e, _, _, hl, _⟩ := h.row.see
  cases e
  exact hl
 refine (cSortStableFu g o L.length cap _ _ _ hC hn hcap w hd trivial).mono ?_;rintro e w' ⟨hv, s, hp, hs, hd', k⟩;have hlen : (arrFu (fun k => L.getD k default) s L.length).length = L.length := arr_lenFu _ _ _
 have hmem : ∀ x ∈ arrFu (fun k => L.getD k default) s L.length, x ∈ L := fun x hx => by
  obtain ⟨i, hi, rfl⟩ := List.mem_map.1 hx;have hi' := (hp.1 i (Nat.zero_le _) (List.mem_range.1 hi)).2
  show L.getD (s i) default ∈ L
  rw [List.getD_eq_getElem?_getD, List.getElem?_eq_getElem hi'];exact List.getElem_mem hi'
 have hg : g ∈ blk (some (⟨g, o, none⟩ : Addr)) := by simp [blk]
 refine ⟨hv, _, hlen, ⟨by rw [hlen]; exact hd', fun x hx => (h.lies x (hmem x hx)).ck (CK.ofKp k) (fun j hj => fun hm => (h.rows x (hmem x hx) j hj).2.2 (by rw [List.mem_singleton.1 hm]; exact hg)), h.own, fun x hx j hj => ⟨(h.rows x (hmem x hx) j hj).1, Nat.lt_of_lt_of_le (h.rows x (hmem x hx) j hj).2.1 k.size, (h.rows x (hmem x hx) j hj).2.2⟩⟩, ?_, k⟩
 have h1 : (List.range L.length).map s = srtI (fun x y => nmC (L.getD x default) (L.getD y default) < 0) L.length := sorted_eq (nmC_swo _) hp hs
 have h2 : arrFu (fun k => L.getD k default) s L.length = (srtI (fun x y => nmC (L.getD x default) (L.getD y default) < 0) L.length).map fun i => L.getD i default := by
  rw [← h1, List.map_map];rfl
 have hD : (default : Vr).pr = (default : Nv) := rfl
 have h3 : ∀ i, (L.getD i default).pr = (L.map Vr.pr).getD i default := fun i => by
  rw [List.getD_eq_getElem?_getD, List.getD_eq_getElem?_getD, List.getElem?_map]
  cases L[i]? <;> rfl
 rw [h2, List.map_map];have h4 := ordN_srt (L.map Vr.pr)
 rw [List.length_map] at h4;rw [← h4]
 have h5 : (fun x y => nmC (L.getD x default) (L.getD y default) < 0) = ltN (L.map Vr.pr) := by
  funext x y
  show (nmC _ _ < 0) = (nmN _ _ < 0)
  rw [nmC_N, h3, h3]
 have h6 : ∀ (lt lt' : Nat → Nat → Prop) [i1 : ∀ x y, Decidable (lt x y)] [i2 : ∀ x y, Decidable (lt' x y)] (n : Nat), lt = lt' → srtI lt n = srtI lt' n := by
  intro lt lt' i1 i2 n h
  subst h;have e : i1 = i2 := Subsingleton.elim _ _
  subst e;rfl
 rw [h6 _ _ _ h5];apply List.map_congr_left
 intro i _
 exact h3 i
theorem makeR0 (w : World) (n : Nat) (hn : n ≤ 2000000000000) : ∃ W, (Instr.makeSlice 55 (.int .i64 0) (.int .i64 (n : Int))).run Tryz.prog w = .ok (.slice (some ⟨w.heap.size, 0, none⟩) 0 n) W ∧ Lov w.heap.size (some ⟨w.heap.size, 0, none⟩) n [] W ∧ Kp [] w W := by
 obtain ⟨i0, hi, hz0, hz1, hz2⟩ := infoVr;have hr := run_make (P := Tryz.prog) w 55 80 i0 _ Tryz.underlying55 hi hz0 .i64 .i64 0 n (by omega) (by omega) (by rw [hz2]; omega) (by omega)
 rw [Int.toNat_natCast, hz1] at hr;refine ⟨_, hr, ⟨.inr ⟨w.heap.size, 0, n, rfl, Nat.zero_le _, by unfold maxLen; omega, by simp, fun j u hu => by simp [El.cs] at hu, fun j hj => ⟨?_, World.frozen?_alloc_new w _ _ (0 + j)⟩⟩, by simp, fun k hk => by simp [blk] at hk; omega, by simp⟩, (Kp.refl _ _).alloc _⟩
 have e1 := World.cell?_alloc_new w (madeCells (Value.agg #[.int .u64 0, .int .u32 0, .slice none 0 0, .int .u64 0]).cells (n * 4)) 80 (0 + j)
 refine (congrArg Option.isSome e1).trans ?_;have e5 : VrE.n = 4 := rfl
 rw [e5] at hj;unfold madeCells
 rw [Nat.zero_add, Array.getElem?_map, Array.getElem?_range, if_pos hj];rfl
def plcTo (cols : List Int) (m j : Nat) : List Int := (List.range m).map fun (k : Nat) => if k < j then ixI cols (k : Int) else 0
theorem plcTo_zero (cols : List Int) (m : Nat) : plcTo cols m 0 = List.replicate m 0 := by
 apply List.ext_getElem?
 intro i
 by_cases h : i < m
 ·simp [plcTo, h]
 ·rw [List.getElem?_eq_none (by simp [plcTo]; omega), List.getElem?_eq_none (by simp; omega)]
theorem plcTo_len (cols : List Int) (m j : Nat) : (plcTo cols m j).length = m := by simp [plcTo]
theorem plcTo_all (cols : List Int) (m : Nat) : plcTo cols m m = plcF cols m := by
 unfold plcTo plcF
 apply List.map_congr_left
 intro k hk
 rw [if_pos (List.mem_range.1 hk)]
theorem plcTo_set (cols : List Int) (m j : Nat) (h : j < m) : (plcTo cols m j).set j (ixI cols (j : Int)) = plcTo cols m (j + 1) := by
 apply List.ext_getElem?
 intro i
 by_cases hi : i < m
 ·rw [List.getElem?_set]
  by_cases e : j = i
  ·subst e
   rw [if_pos rfl, if_pos (by rw [plcTo_len]; exact h)]
   simp [plcTo, h]
  ·rw [if_neg e]
   simp only [plcTo, List.getElem?_map, List.getElem?_range hi, Option.map_some]
   by_cases c : i < j
   ·rw [if_pos c, if_pos (by omega)]
   ·rw [if_neg c, if_neg (by omega)]
 ·rw [List.getElem?_eq_none (by rw [List.length_set, plcTo_len]; omega), List.getElem?_eq_none (by rw [plcTo_len]; omega)]
theorem rowPutI {W : World} {g o n cap : Nat} {l : List Int} (h : IntE.Row W (.slice (some ⟨g, o, none⟩) n cap) l) (i : Nat) (hi : i < l.length) (x : Int) : IntE.Row (W.setCell ⟨g, o + i, none⟩ (.int .i64 x)) (.slice (some ⟨g, o, none⟩) n cap) (l.set i x) := by
 have := h.setAt i hi x
 have e : IntE.n = 1 := rfl
 rw [e, Nat.mul_one] at this;exact this
theorem rowCellI {W : World} {g o n cap : Nat} {l : List Int} (h : IntE.Row W (.slice (some ⟨g, o, none⟩) n cap) l) (i : Nat) (hi : i < l.length) : (∃ u, W.cell? ⟨g, o + i, none⟩ = some u) ∧ W.frozen? ⟨g, o + i, none⟩ = false := by
 rcases h with ⟨e3, _⟩ | ⟨g2, o2, cc, e3, hl, hx, hg, hcc, ht⟩
 ·cases e3
 ·obtain ⟨e5, e6, e7⟩ := Value.slice.inj e3
  cases e5
  subst e7;have en : IntE.n = 1 := rfl
  rw [en] at ht;have := ht i (by omega)
  exact ⟨Option.isSome_iff_exists.1 this.1, this.2⟩
theorem plcF_len (cols : List Int) (M : Nat) : (plcF cols M).length = M := by simp [plcF]
def tellN (cols : List Int) (M : Nat) (x : Nv) : Nv := (x.1, x.2.1, pickF x.2.2.1 (plcF cols M), 0)
theorem ixI_lt (l : List Int) (x : Int) : ixI l x < (l.length : Int) := by
 unfold ixI
 split
 ·rename_i h
  have := List.idxOf_lt_length_of_mem h
  omega
 ·omega
theorem plcF_in (cols : List Int) (M n : Nat) (h : cols.length ≤ n) : ∀ p ∈ plcF cols M, p < (n : Int) := fun p hp => by
 obtain ⟨k, _, rfl⟩ := List.mem_map.1 hp;have := ixI_lt cols (k : Int)
 omega
theorem cToldF (a : Option Addr) (ca : Nat) (A : List Vr) (pa : Option Addr) (pc : Nat) (cols : List Int) (M : Nat) (w : World) (hs : VrE.See w a A) (hl : ∀ x ∈ A, Vr.lies w x) (hp : IntE.See w pa cols) (hpl : cols.length ≤ 9223372036854775807) (hM : M ≤ 1000000000000) (hA : A.length ≤ 1048576) (hw : ∀ x ∈ A, cols.length ≤ x.l.length) :
  Calls Tryz.prog 50 #[.slice a A.length ca, .slice pa cols.length pc, .int .i64 (M : Int)] w (LovP (toldN cols M (A.map Vr.pr)) w) := by
 have HS := hid hs
 have HL := hid hl
 have HP := hid hp
 have HW := hid hw
 obtain ⟨i0, hi, hz0, hz1, hz2⟩ := infoI;obtain ⟨W0, hmk, hrow0, k0, hs0⟩ := run_makeG (E := IntE) (P := Tryz.prog) w 27 3 i0 _ 0 8 Tryz.underlying27 hi hz0 hz1 hz2 rfl .i64 .i64 M (by omega) (by unfold maxLen; omega)
 obtain ⟨q, hq⟩ : ∃ q, w.heap.size = q := ⟨_, rfl⟩
 rw [hq] at hmk hrow0 hs0;have hqw := hid hq
 rw [← plcTo_zero cols M] at hrow0;have H0 : Hid (IntE.Row W0 (.slice (some ⟨q, 0, none⟩) M M) (plcTo cols M 0) ∧ Kp [] w W0 ∧ q < W0.heap.size) := hid ⟨hrow0, k0, by omega⟩
 have i1 : (0 : Int) ≤ (M : Int) := by omega
 clear hi hz0 hz1 hz2 hrow0 k0 hs0 hs hl hp hw hq;go_enter Tryz.func50, Tryz.ntmps50
 go_wp2_with fail;go_loopw [16] (fun iv wr => ∃ j : Nat, j ≤ M ∧ iv = .int .i64 (j : Int) ∧ Hid (IntE.Row wr (.slice (some ⟨q, 0, none⟩) M M) (plcTo cols M j) ∧ Kp [] w wr ∧ q < wr.heap.size)) (fun iv _ => M - (intOf iv).toNat)
 case atStart => exact ⟨0, Nat.zero_le _, rfl, H0⟩
 case round =>
  obtain ⟨j, hj, rfl, H⟩ := hrel;clear H0 hmk
  by_cases hlt : j < M
  ·have cI := hid (cIndexI pa pc cols (j : Int) wr (HP.out.keptNew H.out.2.1) hpl)
   obtain ⟨v, hv⟩ : ∃ v, Hid (ixI cols (j : Int) = v) := ⟨_, hid rfl⟩
   rw [hv.out] at cI;have j1 : (0 : Int) ≤ (j : Int) := by omega
   have j2 : (j : Int) < (M : Int) := by omega
   have j3 : (j : Int) + 1 ≤ 9223372036854775807 := by omega
   go_wp2_with fail;refine cI.out.mono ?_;rintro e w2 ⟨rfl, k2⟩;have hr2 := H.out.1.keptNew k2
   have hlj : j < (plcTo cols M j).length := by rw [plcTo_len]; exact hlt
   obtain ⟨⟨u0, hu0⟩, hf0⟩ := rowCellI hr2 j hlj;rw [Nat.zero_add] at hu0 hf0;have hr3 := rowPutI hr2 j hlj v
   rw [Nat.zero_add, ← hv.out, plcTo_set cols M j hlt, hv.out] at hr3;obtain ⟨W3, hW3⟩ : ∃ Y, w2.setCell ⟨q, j, none⟩ (.int .i64 v) = Y := ⟨_, rfl⟩
   have k3 : Kp [q] w2 W3 := by rw [← hW3]; exact (Kp.refl _ _).setCell (by simp) _
   rw [hW3] at hr3;have HF : Hid (IntE.Row W3 (.slice (some ⟨q, 0, none⟩) M M) (plcTo cols M (j + 1)) ∧ Kp [] w W3 ∧ q < W3.heap.size) := hid ⟨hr3, (H.out.2.1.trans k2 (by simp)).trans k3 (fun x hx => .inr (by simp at hx; have := hqw.out; omega)), by have := k2.size; have := k3.size; have := H.out.2.2; omega⟩
   clear hr2 hr3 k2 k3 cI;go_wp2_with fail;go_roundw
   case rel => exact ⟨j + 1, by omega, by go_num, HF⟩
   case measure => simp [intOf]; omega
  ·have hje : j = M := by omega
   subst hje;have d1 : ¬ (j : Int) < (j : Int) := by omega
   have d2 : decide ((j : Int) < (j : Int)) = false := by simp
   have hpsee : Hid (IntE.See wr (some ⟨q, 0, none⟩) (plcF cols j)) := hid (by
    have h1 := H.out.1
    rw [plcTo_all] at h1;obtain ⟨_, _, e, hs, _⟩ := h1.see;rw [← (Value.slice.inj e).1] at hs;exact hs)
   obtain ⟨W1, hm1, hl1, k1⟩ := makeR0 wr A.length (by omega)
   have hq1 := H.out.2.2
   have hwr := H.out.2.1.size
   have H1 : Hid (Lov w.heap.size (some ⟨wr.heap.size, 0, none⟩) A.length [] W1 ∧ Kp [] w W1) := hid ⟨hl1.mono hwr, H.out.2.1.trans k1 (by simp)⟩
   have KW1 := hid k1
   obtain ⟨W0, hW0⟩ : ∃ W, W = wr := ⟨_, rfl⟩
   rw [← hW0] at hpsee hq1 KW1;have hap1 : Hid (∀ x ∈ blk (some (⟨wr.heap.size, 0, none⟩ : Addr)), W0.heap.size ≤ x) := hid (fun x hx => by simp [blk] at hx; rw [hW0]; omega)
   clear hl1 k1 H;go_wp2_with fail;go_loopw [9, 31] (fun v9 i w2 => ∃ (k : Nat) (ra : Option Addr) (rc : Nat) (m : List Vr), k ≤ A.length ∧ i = .int .i64 (k : Int) ∧ v9 = .slice ra m.length rc ∧ Hid (ra ≠ none) ∧ Hid (m.map Vr.pr = ((A.take k).map Vr.pr).map (tellN cols j)) ∧ Hid (Lov w.heap.size ra rc m w2 ∧ Kp [] w w2) ∧ Hid (Kp [] W0 w2) ∧ Hid (∀ x ∈ blk ra, W0.heap.size ≤ x)) (fun _ i _ => A.length - (intOf i).toNat)
   case atStart => exact ⟨0, _, _, [], Nat.zero_le _, rfl, rfl, hid (by simp), hid rfl, H1, KW1, hap1⟩
   case round =>
    clear H1 hap1 KW1 hm1;obtain ⟨k, ra, rc, m, hk, rfl, rfl, hrn, hme, H, K0, hap⟩ := hrel
    have hml : m.length ≤ 1048576 := by
     have h1 := congrArg List.length hme.out
     simp only [List.length_map, List.length_take] at h1;omega
    by_cases hkt : k < A.length
    ·have hsn : Hid (A.take (k + 1) = A.take k ++ [A[k]]) := hid (List.take_succ_eq_append_getElem hkt)
     obtain ⟨g3, o3, ea, x0, x1, x2, x3⟩ := vrAt HS.out (j := k) (x := A[k]) (by simp [hkt])
     have hxli := hid (HL.out A[k] (List.getElem_mem hkt))
     have hin := hid (plcF_in cols j _ (HW.out A[k] (List.getElem_mem hkt)))
     have hxm := Nat.le_trans hxli.out.r.cap hxli.out.r.most
     unfold maxLen at hxm
     obtain ⟨x, hx⟩ : ∃ x, Hid (A[k] = x) := ⟨_, hid rfl⟩
     rw [hx.out] at x0 x1 x2 x3 hxli hsn hin hxm;obtain ⟨xe, xn, xa, xc, xl, xd⟩ := x;dsimp only at x0 x1 x2 x3 ea hin hxm;obtain ⟨q11, W1, W2, eq11, eW1, b1, eW2, b2, kW2⟩ := boxVr wr xe xn xa xl.length xc xd;have g0 := kpAt H.out.2 x0; have g1 := kpAt H.out.2 x1; have g2 := kpAt H.out.2 x2; have g3 := kpAt H.out.2 x3
     have m0 := b1.get 0 _ rfl; have m1 := b1.get 1 _ rfl; have m2 := b1.get 2 _ rfl; have m3 := b1.get 3 _ rfl
     have f0 := b1.free 0; have f1 := b1.free 1; have f2 := b1.free 2; have f3 := b1.free 3
     have v0 := b2.get 0 _ rfl; have v1 := b2.get 1 _ rfl; have v2 := b2.get 2 _ rfl; have v3 := b2.get 3 _ rfl
     have KW2 := hid (H.out.2.trans kW2 (by simp))
     have K2 := hid (K0.out.trans kW2 (by simp))
     have HL2 := hid (H.out.1.ck (CK.ofKp kW2) (by simp) (by simp))
     have BB := hid b2
     have HC : Hid (∀ W', Kp [] W2 W' → W'.cell? ⟨q11, 0, none⟩ = some (.int .u64 xe) ∧ W'.cell? ⟨q11, 1, none⟩ = some (.int .u32 xn) ∧ W'.cell? ⟨q11, 2, none⟩ = some (.slice xa xl.length xc) ∧ W'.cell? ⟨q11, 3, none⟩ = some (.int .u64 xd)) := hid (fun W' q => ⟨(BB.out.kept q).get 0 _ rfl, (BB.out.kept q).get 1 _ rfl, (BB.out.kept q).get 2 _ rfl, (BB.out.kept q).get 3 _ rfl⟩)
     have zq : q11 < W2.heap.size := b2.lt (by simp)
     have z0 := K2.out.size
     have k1 : (0 : Int) ≤ (k : Int) := by omega
     have k2 : (k : Int) < (A.length : Int) := by omega
     have k3 : (k : Int) + 1 ≤ 9223372036854775807 := by omega
     subst ea;clear x0 x1 x2 x3 b1 b2 kW2;go_wp2_with fail;refine wp_noPanicY ?_;refine wp_region_held_drew (S := fun W' => W'.cell? ⟨q11, 0, none⟩ = some (.int .u64 xe) ∧ W'.cell? ⟨q11, 1, none⟩ = some (.int .u32 xn) ∧ W'.cell? ⟨q11, 2, none⟩ = some (.slice xa xl.length xc) ∧ W'.cell? ⟨q11, 3, none⟩ = some (.int .u64 xd)) (by kernel_rfl) (HC.out _ (Kp.refl [] W2).drew) (fun hHeld => ?_)
     have KD : Hid (Kp [] W2 W2.drew) := hid (Kp.refl _ _).drew
     generalize W2.drew = wd at *
     have cP := hid (cPickF xa xc xl (some ⟨q, 0, none⟩) j (plcF cols j) wd (hxli.out.r.see.kept (KW2.out.trans KD.out (by simp))) hxm (hpsee.out.keptNew (K2.out.trans KD.out (by simp))) (by simp [plcF]; omega) hin.out)
     rw [plcF_len] at cP;refine tkH ?_ 0 rfl (by kernel_rfl) (fun _ _ _ h => by cases h.1) (by rfl) ?_ ‹_› ?_;rotate_left
     ·intro w h; (try dsimp only at h); go_simp <;> with_reducible rfl
     (try simp only [Act.put, lz]);refine tkH ?_ 1 rfl (by kernel_rfl) (fun _ _ _ h => by cases h.1) (by rfl) ?_ ‹_› ?_;rotate_left
     ·intro w h; (try dsimp only at h); go_simp <;> with_reducible rfl
     (try simp only [Act.put, lz]);refine tkH ?_ 2 rfl (by kernel_rfl) (fun _ _ _ h => by cases h.1) (by rfl) ?_ ‹_› ?_;rotate_left
     ·intro w h; (try dsimp only at h); go_simp <;> with_reducible rfl
     (try simp only [Act.put, lz]);refine tkH ?_ 3 rfl (by kernel_rfl) (fun _ _ _ h => by cases h.1) (by rfl) ?_ ‹_› ?_;rotate_left
     ·intro w h; (try dsimp only at h); go_simp <;> with_reducible rfl
     (try simp only [Act.put, lz]);refine tkH ?_ 4 rfl (by kernel_rfl) (fun _ _ _ h => by cases h.1) (by rfl) ?_ ‹_› ?_;rotate_left
     ·intro w h; (try dsimp only at h); go_simp <;> with_reducible rfl
     (try simp only [Act.put, lz]);refine tkH ?_ 5 rfl (by kernel_rfl) (fun _ _ _ h => by cases h.1) (by rfl) ?_ ‹_› ?_;rotate_left
     ·intro w h; (try dsimp only at h); go_simp <;> with_reducible rfl
     (try simp only [Act.put, lz]);refine rdH 6 (by kernel_rfl) rfl fun K hK => ?_
     go_simp;refine cP.out.mono ?_;rintro e wz ⟨za, zc, rfl, hzr, kz, hzb⟩;(try go_wp2_with fail);refine hK.out _ _ (HC.out _ (KD.out.trans kz (by simp))) (fun hHeld => ?_)
     clear hK K;(try simp only [Act.put, lz]);obtain ⟨zl, hzl⟩ : ∃ z, Hid (pickF xl (plcF cols j) = z) := ⟨_, hid rfl⟩
     simp only [hzl.out] at hzr ⊢;refine tkH ?_ 7 rfl (by kernel_rfl) (fun _ _ _ h => by cases h.1) (by rfl) ?_ ‹_› ?_;rotate_left
     ·intro w h; (try dsimp only at h); go_simp <;> with_reducible rfl
     (try simp only [Act.put, lz]);have KZ := hid (KD.out.trans kz (by simp))
     have KNZ := hid (KW2.out.trans KZ.out (by simp))
     have hlz : Lov w.heap.size ra rc m wz := HL2.out.ck (CK.ofKp KZ.out) (by simp) (by simp)
     have hdz := KD.out.size
     have hk2 := KW2.out.size
     obtain ⟨a4, c4, W4, hrun, hl4, k4, hn4⟩ := hlz.app ⟨xe, xn, za, zc, zl, 0⟩ ⟨rowLies hzr, hxli.out.e, hxli.out.n⟩ KNZ.out.size (fun k hk => ⟨by have := hzb k hk; omega, hzr.lt k (by rw [ownV]; exact hk), fun hm' => by have h1 := hzb k hk; have h2 := HL2.out.lt k hm'; omega⟩) (by omega)
     have hne : Hid (a4 ≠ none) := hid (fun e => by
      subst e
      rcases hl4.row with ⟨_, h⟩ | ⟨_, _, _, h, _⟩
      ·simp at h
      ·cases h)
     have hm6 : Hid ((m ++ [(⟨xe, xn, za, zc, zl, 0⟩ : Vr)]).map Vr.pr = ((A.take (k + 1)).map Vr.pr).map (tellN cols j)) := by
      show _ = _
      rw [hsn.out, List.map_append, hme.out, List.map_append, List.map_append, ← hzl.out];rfl
     obtain ⟨m4, hm4⟩ : ∃ m4, Hid (m ++ [(⟨xe, xn, za, zc, zl, 0⟩ : Vr)] = m4) := ⟨_, hid rfl⟩
     rw [hm4.out] at hrun hl4 hm6;dsimp only at hrun;have hbra : ∀ x ∈ blk ra, W0.heap.size ≤ x ∧ w.heap.size ≤ x := fun x hx => ⟨hap.out x hx, hlz.own x hx⟩
     have hap4 : Hid (∀ x ∈ blk a4, W0.heap.size ≤ x) := hid (fun x hx => by
      rcases hn4 x hx with e | e
      ·exact (hbra x e).1
      ·have := KZ.out.size; omega)
     have HF : Hid (Lov w.heap.size a4 c4 m4 W4 ∧ Kp [] w W4) := hid ⟨hl4, KNZ.out.trans k4 (fun x hx => .inr (hbra x hx).2)⟩
     have KF : Hid (Kp [] W0 W4) := hid ((K2.out.trans KZ.out (by simp)).trans k4 (fun x hx => .inr (by have := (hbra x hx).1; omega)))
     have kS4 : Kp (blk ra) W2 W4 := (KZ.out.mono (T := blk ra) (by simp)).trans k4 (fun j hj => .inl hj)
     have hq11 : q11 ∉ blk ra := fun hm' => by have h1 := H.out.1.lt q11 hm'; omega
     have sA := HC.out _ (KZ.out.alloc (.cells #[.int .u64 xe, .int .u32 xn, .slice za zl.length zc, .int .u64 0] 80))
     have s0 := HC.out _ (Kp.refl [] W2)
     have s4 : W4.cell? ⟨q11, 0, none⟩ = some (.int .u64 xe) ∧ W4.cell? ⟨q11, 1, none⟩ = some (.int .u32 xn) ∧ W4.cell? ⟨q11, 2, none⟩ = some (.slice xa xl.length xc) ∧ W4.cell? ⟨q11, 3, none⟩ = some (.int .u64 xd) := ⟨(kS4.cell (p := ⟨q11, 0, none⟩) zq hq11).trans s0.1, (kS4.cell (p := ⟨q11, 1, none⟩) zq hq11).trans s0.2.1, (kS4.cell (p := ⟨q11, 2, none⟩) zq hq11).trans s0.2.2.1, (kS4.cell (p := ⟨q11, 3, none⟩) zq hq11).trans s0.2.2.2⟩
     clear hlz hl4 k4 hn4 kz hzr hzb hdz hk2 kS4;refine rdH 8 (by kernel_rfl) rfl fun K hK => ?_
     go_simp;(try go_wp2_with fail);refine hK.out _ _ (sA) (fun hHeld => ?_)
     clear hK K;(try simp only [Act.put, lz]);refine rdH 9 (by kernel_rfl) rfl fun K hK => ?_
     refine stepAppRun rfl _ _ 55 55 rfl _ _ _ rfl rfl hrun ?_;refine hK.out _ _ s4 (fun hHeld => ?_)
     clear hK K;(try simp only [Act.put, lz]);refine tkH ?_ 10 rfl (by kernel_rfl) (fun _ _ _ h => by cases h.1) (by rfl) ?_ ‹_› ?_;rotate_left
     ·intro w h; (try dsimp only at h); go_simp <;> with_reducible rfl
     (try simp only [Act.put, lz]);refine wpAnyH_done (by kernel_rfl) ⟨rfl, ?_⟩ _
     clear hHeld sA s4 hrun s0;go_wp2_with fail;go_roundw
     case rel => exact ⟨k + 1, a4, c4, m4, by omega, by go_num, rfl, hne, hm6, HF, KF, hap4⟩
     case measure => simp [intOf]; omega
    ·have hmm : Hid (m.map Vr.pr = (A.map Vr.pr).map (tellN cols j)) := hid (by rw [hme.out, show k = A.length by omega, List.take_length])
     have dk1 : ¬ (k : Int) < (A.length : Int) := by omega
     have dk2 : decide ((k : Int) < (A.length : Int)) = false := by simp; omega
     have hrow := H.out.1.row
     obtain ⟨g, o, rfl⟩ : ∃ g o, ra = some ⟨g, o, none⟩ := by
      rcases hrow with ⟨e, _⟩ | ⟨g, o, c, e, _⟩
      ·exact absurd (Value.slice.inj e).1 hrn.out
      ·exact ⟨g, o, (Value.slice.inj e).1⟩
     have cS := hid (cSortF w.heap.size g o rc m wr H.out.1 (by omega))
     clear hrow hme;go_wp2_with fail;refine cS.out.mono ?_;rintro e w5 ⟨⟨v, rfl⟩, L', hl', hlov, hord, k5⟩;have HR : Hid (LovP (toldN cols j (A.map Vr.pr)) w (.returned (.slice (some ⟨g, o, none⟩) m.length rc)) w5) := hid ⟨_, rc, L', by rw [hl'], hlov, by rw [hord, hmm.out]; rfl, H.out.2.trans k5 (fun x hx => .inr (hlov.own x (by simpa [blk] using hx)))⟩
     clear cS hlov hord k5;go_wp2_with fail;go_ret;exact HR.out
def pgTo (M : Nat) (node : Int) (s : Nat) : List (Nat × Nat) := ((List.range s).map fun k => (k / M, k % M)).filter fun x => decide ((x.1 : Int) = node)
theorem pgTo_succ (M : Nat) (node : Int) (s : Nat) (x : Nat × Nat) (h : x.1 * M + x.2 = s) (hx : x.2 < M) : pgTo M node (s + 1) = pgTo M node s ++ (if (x.1 : Int) = node then [x] else []) := by
 unfold pgTo
 rw [List.range_succ, List.map_append, List.filter_append];have e1 : s / M = x.1 := by rw [← h, Nat.add_comm, Nat.add_mul_div_right _ _ (by omega), Nat.div_eq_of_lt hx]; omega
 have e2 : s % M = x.2 := by rw [← h, Nat.add_comm, Nat.add_mul_mod_self_right, Nat.mod_eq_of_lt hx]
 have e3 : (s / M, s % M) = x := by rw [e1, e2]
 simp only [List.map_cons, List.map_nil, e3, List.filter_cons, List.filter_nil]
 by_cases hm : (x.1 : Int) = node
 ·simp [hm]
 ·simp [hm]
theorem pgTo_len (M : Nat) (node : Int) (s : Nat) : (pgTo M node s).length ≤ s := by
 unfold pgTo
 refine Nat.le_trans (List.length_filter_le _ _) ?_;simp
structure PgI (w : World) (B : Nat) (c : Cg) (M : Nat) (node : Int) (s : Nat) (W : World) (a : Option Addr) (cp : Nat) (l : List (Nat × Nat)) : Prop where
 kp : Kp [] w W
 bC : Bn W w.heap.size [.int .i64 c.n, .int .i64 c.s, .int .i64 c.k, .slice c.ta c.tl.length c.tc, .slice c.pa c.pl.length c.pc]
 bN : Bn W (w.heap.size + 1) [.int .i64 node]
 bL : Bn W (w.heap.size + 2) [.slice a l.length cp]
 row : SgE.Row W (.slice a l.length cp) l
 nw : ∀ k ∈ blk a, B + 2 ≤ k
 eq : l = pgTo M node s
 ne : l = [] → blk a = []
def PgJ (w : World) (B : Nat) (c : Cg) (M : Nat) (node : Int) (s : Nat) (W : World) : Prop := ∃ a cp l, PgI w B c M node s W a cp l
theorem PgI.keepS {w : World} {B : Nat} {c : Cg} {M : Nat} {node : Int} {s : Nat} {W W' : World} {a : Option Addr} {cp : Nat} {l : List (Nat × Nat)} (h : PgI w B c M node s W a cp l) {S : List Nat} (k : Kp S W W') (hS : ∀ j ∈ S, B ≤ j ∧ j < B + 2) (hB : w.heap.size + 3 ≤ B) : PgI w B c M node s W' a cp l := by
 have hz := h.kp.size
 refine ⟨h.kp.trans k (fun j hj => .inr (by have := hS j hj; omega)), h.bC.keptS k (fun hm => by have := hS _ hm; omega) (h.bC.lt (by simp)), h.bN.keptS k (fun hm => by have := hS _ hm; omega) (h.bN.lt (by simp)), h.bL.keptS k (fun hm => by have := hS _ hm; omega) (h.bL.lt (by simp)), h.row.kept k (fun j hj hm => ?_), h.nw, h.eq, h.ne⟩
 have h1 := hS j hm
 have h2 : j ∈ blk a := by
  obtain ⟨_, _, e, _, _, _, _, eo⟩ := h.row.see
  cases e
  rw [← eo]; exact hj
 have := h.nw j h2
 omega
def PgP (l : List (Nat × Nat)) (w : World) (e : Ending) (w' : World) : Prop := ∃ (a : Option Addr) (cp : Nat), e = .returned (.slice a l.length cp) ∧ SgE.Row w' (.slice a l.length cp) l ∧ (∀ k ∈ blk a, w.heap.size ≤ k) ∧ Kp [] w w'
theorem cPSeg (c : Cg) (node : Int) (M : Nat) (w : World) (hM : c.s = (M : Int)) (hc : c.ok w) (hn : cntd c = true) (hp8 : c.pl.length ≤ 8) : Calls Tryz.prog 43 #[c.v, .int .i64 node] w (PgP (pgTo M node (c.pl.length * M)) w) := by
 obtain ⟨W, eW, kW, zW, bC, bN, bL⟩ := boxOf c node w;have hMl : M ≤ 8 := by have := (cntd_iff c).1 hn; omega
 have aSg := hid (cSegments c W M hM hn)
 have HC := hid hc
 have HN := hid hn
 have BB := hid (And.intro bC (And.intro bN bL))
 have KW := hid kW
 have hP : c.pl.length ≤ 9223372036854775807 := by have := hc.pcap; have := hc.pmax; omega
 have c0 := bC.get 0 _ rfl; have c1 := bC.get 1 _ rfl; have c2 := bC.get 2 _ rfl; have c3 := bC.get 3 _ rfl; have c4 := bC.get 4 _ rfl
 have hz3 : Hid (W.heap.size = w.heap.size + 3) := hid zW
 have zW' : w.heap.size + 2 < W.heap.size := by omega
 clear kW bC bN bL hc hn hM zW;simp only [Cg.v] at *;refine (callsIn_wide (n := 6)).1 ?_;refine callsIn_of_wp_marks Tryz.func43 rfl trivial ?_ rfl;simp only [Tryz.ntmps43, List.size_toArray, List.length_cons, List.length_nil, Nat.reduceAdd, Nat.reduceSub, Array.replicate_succ, Array.replicate_zero, List.push_toArray, List.append_toArray, List.nil_append, List.cons_append];refine wpIn_wide.2 ?_;go_wp2_with fail;refine aSg.out.mono ?_;rintro e w1 ⟨q1, q2, rfl, hq1, hq2, l1, l2, k1⟩;have z1 := k1.size
 have hI0 : PgI w w1.heap.size c M node 0 w1 none 0 [] := ⟨KW.out.trans k1 (by simp), BB.out.1.kept k1, BB.out.2.1.kept k1, BB.out.2.2.kept k1, .inl ⟨rfl, rfl⟩, by simp [blk], rfl, fun _ => by simp [blk]⟩
 have hsq := segSeq (6 - 1) (by omega) q1 q2 c.pl.length M w1 hq1 hq2 hP (by omega)
 have hlt1 := World.block_lt_of_cell? _ _ hq1
 have hlt2 := World.block_lt_of_cell? _ _ hq2
 have HL := hid (And.intro hlt1 (And.intro hlt2 (And.intro l1 l2)))
 have hB3 : w.heap.size + 3 ≤ w1.heap.size := by have := hz3.out; omega
 have HI0 := hid hI0
 have HSQ := hid hsq
 clear aSg c0 c1 c2 c3 c4 eW hq1 hq2 l1 l2 hI0 hsq k1 hlt1 hlt2;go_wp2_with fail;refine (wpIn_wide (n := 6)).1 ?_
 refine wpRangeW rfl (by omega) (gf := 128) (lb := #[.pointer (some ⟨q1, 0, none⟩), .pointer (some ⟨q2, 0, none⟩)]) rfl trivial (enters_of Tryz.func128 (by kernel_rfl) rfl)
  HSQ.out (fun _ => rfl) KeepC.trans (fun s W o => KeepC.alloc _ W o) (fun s W k o o' _ ho hc _ => KeepC.putObj _ W k o o' ho hc) (KeepC.refl _ _) (fun s s' A B ht k o _ ho _ _ => by rw [← ht.2]; exact ho)
  (PgJ w w1.heap.size c M node) (fun _ _ _ => False) ?hI (fun _ _ _ _ h _ => h) (fun s s' A B h ht => by rw [← ht.1, ← ht.2]; exact h) ?h0 ?hIa
  (fun x => .cells #[.int .i64 (x.1 : Int), .int .i64 (x.2 : Int)] 82)
  (fun x q3 => { tmps := #[.agg #[.int .i64 c.n, .int .i64 c.s, .int .i64 c.k, .slice c.ta c.tl.length c.tc, .slice c.pa c.pl.length c.pc], .int .i64 node, .pointer (some ⟨w.heap.size, 0, none⟩), .pointer (some ⟨w.heap.size + 1, 0, none⟩), .slice none 0 0, .pointer (some ⟨w.heap.size + 2, 0, none⟩), .pointer (some ⟨q3, 0, none⟩), .agg #[.int .i64 c.n, .int .i64 c.s, .int .i64 c.k, .slice c.ta c.tl.length c.tc, .slice c.pa c.pl.length c.pc], .func (.func 128) #[] #[.pointer (some ⟨q1, 0, none⟩), .pointer (some ⟨q2, 0, none⟩)], .agg #[.int .i64 (x.1 : Int), .int .i64 (x.2 : Int)], undef, undef, undef, undef, undef, undef, undef, undef, undef], defers := [] }) ?assign ?body ?done ?stop
 case hI =>
  rintro s X o' ⟨a, cp, l, h⟩ hz;have kp : Kp [w1.heap.size + 1] X (X.putObj (w1.heap.size + 1) o') := ⟨rfl, rfl, rfl, by simp, fun k hk hn => World.putObj_heap_other (by simpa using hn)⟩
  exact ⟨a, cp, l, h.keepS kp (fun j hj => by simp at hj; omega) hB3⟩
 case h0 =>
  intro o1 o2
  exact ⟨none, 0, [], HI0.out.keepS (S := []) (((Kp.refl _ _).alloc _).alloc _) (by simp) hB3⟩
 case hIa =>
  rintro s X o ⟨a, cp, l, h⟩;exact ⟨a, cp, l, h.keepS (S := []) ((Kp.refl _ _).alloc _) (by simp) hB3⟩
 case assign =>
  intro l x W C hC
  gi_wp2_with fail;exact hC
 case body =>
  rintro lr s x A q3 ⟨a, cp, l, h⟩ ⟨hslt, hxs, hx2, hx1⟩ hob hq3
  have hbx : ∀ z : Nat, A.cell? ⟨q3, z, none⟩ = (#[.int .i64 (x.1 : Int), .int .i64 (x.2 : Int)] : Array Value)[z]? := fun z => by
   unfold World.cell?
   simp [hob]
  have hv0 := hbx 0; have hv1 := hbx 1
  have c1 := h.bN.get 0 _ rfl
  have hou := hid (pgTo_succ M node s x hxs hx2)
  have hq3' := hid (And.intro hq3 (Array.getElem?_eq_some_iff.1 hob).1)
  have hs64 : s < 64 := by have : c.pl.length * M ≤ 8 * 8 := Nat.mul_le_mul hp8 hMl; omega
  have KC := hid (Kp.refl [] A)
  have hRec : ∀ W', Kp [] A W' → Recs w1.heap.size A W' := fun W' k => ⟨k.block _ (by have := hq3'.out.1; have := hq3'.out.2; have := h.kp.size; omega) (by simp), k.block _ (by have := hq3'.out.1; have := hq3'.out.2; have := h.kp.size; omega) (by simp)⟩
  have zA := h.kp.size
  obtain ⟨wc, hwc⟩ : ∃ x, x = A := ⟨A, rfl⟩
  subst hwc;clear hbx hslt hx1 hob;obtain ⟨X, hX⟩ : ∃ X, Hid (decide ((x.1 : Int) = node) = X) := ⟨_, hid rfl⟩
  cases X with
  | false =>
   have hm : ¬ ((x.1 : Int) = node) := by have := hX.out; simpa using this
   have e9 := hou.out
   rw [if_neg hm, List.append_nil] at e9;have HF : Hid (PgJ w w1.heap.size c M node (s + 1) wc) := hid ⟨a, cp, l, { h with eq := by rw [e9]; exact h.eq }⟩
   have HR := hid (And.intro (hRec wc KC.out) (KeepC.ofKp (G := Gsg q1 q2) KC.out (by simp)))
   have t1 : ((x.1 : Int) == node) = false := by simpa using hm
   clear hRec h e9 hm hX hou;gi_wp2_with fail;exact ⟨HR.out.1, HR.out.2, HF.out⟩
  | true =>
   have hm : (x.1 : Int) = node := by have := hX.out; simpa using this
   have e9 := hou.out
   rw [if_pos hm, ← h.eq] at e9;have hll : l.length ≤ s := by rw [h.eq]; exact pgTo_len _ _ _
   obtain ⟨A1, hA1⟩ : ∃ A1, wc.alloc (.cells #[.int .i64 (x.1 : Int), .int .i64 (x.2 : Int)] 82) = A1 := ⟨_, rfl⟩
   have kA1 : Kp [] wc A1 := by rw [← hA1]; exact (Kp.refl _ _).alloc _
   have bx1 : Bn A1 wc.heap.size (SgE.c x) := by rw [← hA1]; exact Bn.new wc (SgE.c x) _
   have hs1 : SgE.See A1 (some ⟨wc.heap.size, 0, none⟩) [x] := .inr ⟨wc.heap.size, 0, rfl, fun j u hu => by rw [Nat.zero_add]; exact bx1.get j u (by simpa [El.cs] using hu)⟩
   obtain ⟨i0, hi, hz0', hz1', hz2'⟩ := infoSg;have hsr := hs1.src (P := Tryz.prog) Tryz.underlying48 1
   obtain ⟨v', A2, hrun, hrow2, k2, hn2⟩ := run_appendG (E := SgE) (P := Tryz.prog) A1 48 48 48 82 i0 _ 16 Tryz.underlying48 hi hz0' hz1' hz2' rfl (.slice a l.length cp) l (h.row.keptNew kA1) _ [x] hsr (by simp only [List.length_cons, List.length_nil]; omega) (by simp only [List.length_cons, List.length_nil]; omega)
   obtain ⟨a', c', rfl, _⟩ := hrow2.see;simp only [ownSl] at k2 hn2;have hnw := h.nw
   have zwc := KC.out.size
   have zA1 := kA1.size
   have z2 := k2.size
   have hq33 := hq3'.out
   have hnq : w.heap.size + 2 ∉ blk a := fun hm' => by have := hnw _ hm'; omega
   have bx2 := (h.bL.kept kA1).keptS k2 hnq (by have := h.bL.lt (by simp); omega)
   have b0 := bx2.get 0 _ rfl
   have f0 := bx2.free 0
   obtain ⟨A3, hA3⟩ : ∃ A3, A2.setCell ⟨w.heap.size + 2, 0, none⟩ (.slice a' (l ++ [x]).length c') = A3 := ⟨_, rfl⟩
   have bx3 : Bn A3 (w.heap.size + 2) [.slice a' (l ++ [x]).length c'] := by rw [← hA3]; exact bx2.set 0 (by simp) _
   have k3 : Kp [w.heap.size + 2] A2 A3 := by rw [← hA3]; exact (Kp.refl _ _).setCell (by simp) _
   have kW3 : Kp ((w.heap.size + 2) :: blk a) wc A3 := ((kA1.mono (T := (w.heap.size + 2) :: blk a) (by simp)).trans k2 (fun j hj => .inl (by simp [hj]))).trans k3 (fun j hj => .inl (by simp at hj; simp [hj]))
   have kA3 : Kp ((w.heap.size + 2) :: blk a) wc A3 := (KC.out.mono (T := (w.heap.size + 2) :: blk a) (by simp)).trans kW3 (fun j hj => .inl hj)
   have hmem : ∀ j ∈ (w.heap.size + 2) :: blk a, j = w.heap.size + 2 ∨ w1.heap.size + 2 ≤ j := fun j hj => by
    rcases List.mem_cons.1 hj with e | e
    ·exact .inl e
    ·exact .inr (hnw j e)
   have hlb := HL.out
   have hz30 := hz3.out
   have hR2 : Recs w1.heap.size wc A3 := ⟨kA3.block _ (by omega) (fun hm' => by rcases hmem _ hm' with e | e <;> omega), kA3.block _ (by omega) (fun hm' => by rcases hmem _ hm' with e | e <;> omega)⟩
   have hK2 : KeepC (Gsg q1 q2) wc A3 := KeepC.ofKp kA3 (fun y hy hm' => by
    rcases hmem _ hm' with e | e <;> rcases hy with e2 | e2 <;> omega)
   have hna' : ∀ k ∈ blk a', w1.heap.size + 2 ≤ k := fun k hk => by
    rcases hn2 k hk with e | e
    ·exact hnw k e
    ·omega
   have hJ : PgJ w w1.heap.size c M node (s + 1) A3 := by
    refine ⟨a', c', l ++ [x], ⟨h.kp.trans kW3 (fun j hj => .inr (by rcases hmem _ hj with e | e <;> omega)), h.bC.keptS kW3 (fun hm' => by rcases hmem _ hm' with e | e <;> omega) (h.bC.lt (by simp)), h.bN.keptS kW3 (fun hm' => by rcases hmem _ hm' with e | e <;> omega) (h.bN.lt (by simp)), bx3, hrow2.kept k3 (fun j hj hm' => ?_), hna', e9.symm, fun e => by simp at e⟩⟩
    simp only [ownSl] at hj;simp at hm'
    have := hna' j hj
    omega
   have HF := hid (And.intro hR2 (And.intro hK2 hJ))
   obtain ⟨NL, hNL⟩ : ∃ n, Hid ((l ++ [x]).length = n) := ⟨_, hid rfl⟩
   rw [hNL.out] at hA3 hrun;have bL0 := h.bL.get 0 _ rfl
   have t1 : ((x.1 : Int) == node) = true := by simpa using hm
   have hlc := h.bL.lt (by simp)
   clear hRec h e9 hm hX hou hR2 hK2 hJ hna' kA3 kW3 k3 bx3 bx2 hrow2 k2 hn2 hsr hs1 bx1 kA1 hmem hnw hnq;gi_wp2_with (first | (refine wpAppRunIn rfl _ _ 48 48 rfl _ _ _ rfl rfl hrun ?_) | fail)
   exact HF.out
 case done =>
  rintro D s X hD hs ⟨a, cp, l, h⟩ hK;have bq := h.bL.get 0 _ rfl
  have kp : Kp [D] X (X.putObj D (.deferred none)) := ⟨rfl, rfl, rfl, by simp, fun k hk hn => World.putObj_heap_other (by simpa using hn)⟩
  have hrow2 : SgE.Row (X.putObj D (.deferred none)) (.slice a l.length cp) l := h.row.kept kp (fun j hj hm => by
   rw [ownSl] at hj;have e : j = D := by simpa using hm
   subst e;obtain ⟨_, _, e, hsee, _⟩ := h.row.see
   cases e
   rcases hsee with e | ⟨g, o, e, hc⟩
   ·have e1 := h.ne e
    rw [e1] at hj;simp at hj
   ·subst e
    have e1 : j = g := by simpa [blk] using hj
    subst e1
    cases l with
    | nil => have e1 := h.ne rfl; rw [e1] at hj; simp at hj
    | cons y ys =>
     have h1 := hc 0 (.int .i64 (y.1 : Int)) (by simp [El.cs, SgE])
     unfold World.cell? at h1
     simp [hK] at h1)
  have hnw2 : ∀ k ∈ blk a, w.heap.size ≤ k := fun k hk => by have := h.nw k hk; omega
  have hfin : PgP (pgTo M node (c.pl.length * M)) w (.returned (.slice a l.length cp)) (X.putObj D (.deferred none)) := by
   have e1 : pgTo M node (c.pl.length * M) = l := by rw [h.eq, hs]
   rw [e1];exact ⟨a, cp, rfl, hrow2, hnw2, h.kp.trans kp (fun k hk => .inr (by have := List.mem_singleton.1 hk; omega))⟩
  have hH := hid hfin
  clear hfin kp hrow2 hnw2 h;go_wp2_with fail;refine ⟨by simp, .inl ⟨_, _, rfl, run_takeDeferred hK, ?_⟩⟩
  exact ⟨.slice a l.length cp, by simp [results, Tryz.results43, go_sem], hH.out⟩
 case stop =>
  rintro D c s X hD _ h;exact h.elim
end Go.Proofs.YtlgfekjoknbfdaaGreatDoor
end

section
namespace Go.Proofs.YtlgfekjoknbfdaaGreatDoor
open Go.RowKit Go.Hay
attribute [local go_sem] Oper.semAt_some
end Go.Proofs.YtlgfekjoknbfdaaGreatDoor
end

section
namespace Go.Proofs.YtlgfekjoknbfdaaGreatDoor
open Go.RowKit Go.Hay
attribute [local go_sem] Oper.semAt_some
def ndR (M P : Nat) (p : Int) : List (Nat × Nat) := if wi p P then (List.range M).map (fun s => (p.toNat, s)) else []
end Go.Proofs.YtlgfekjoknbfdaaGreatDoor
end

section
namespace Go.Proofs.YtlgfekjoknbfdaaGreatDoor
open Go.RowKit Go.Hay
theorem pgTo_step (M : Nat) (hM : 0 < M) (x : Int) (P : Nat) : pgTo M x ((P + 1) * M) = pgTo M x (P * M) ++ (if (P : Int) = x then (List.range M).map (fun s => (P, s)) else []) := by
 unfold pgTo
 rw [Nat.add_mul, Nat.one_mul, List.range_add, List.map_append, List.filter_append];congr 1
 rw [List.map_map]
 have e : (List.range M).map ((fun k => (k / M, k % M)) ∘ fun x => P * M + x) = (List.range M).map (fun s => (P, s)) := by
  apply List.map_congr_left
  intro k hk
  have hk2 : k < M := List.mem_range.1 hk
  simp only [Function.comp_apply];rw [Nat.add_comm, Nat.add_mul_div_right _ _ hM, Nat.div_eq_of_lt hk2, Nat.add_mul_mod_self_right, Nat.mod_eq_of_lt hk2, Nat.zero_add]
 rw [e]
 by_cases h : (P : Int) = x
 ·rw [if_pos h]
  apply List.filter_eq_self.2
  intro y hy
  obtain ⟨s, _, rfl⟩ := List.mem_map.1 hy;simpa using h
 ·rw [if_neg h]
  apply List.filter_eq_nil_iff.2
  intro y hy
  obtain ⟨s, _, rfl⟩ := List.mem_map.1 hy;simpa using h
theorem pgTo_ndR (M : Nat) (x : Int) : ∀ P : Nat, pgTo M x (P * M) = ndR M P x
 | 0 => by
  have h : wi x ((0 : Nat) : Int) = false := by unfold wi; simp
  unfold ndR
  rw [h];simp [pgTo]
 | P + 1 => by
  by_cases hM : 0 < M
  ·rw [pgTo_step M hM, pgTo_ndR M x P]
   unfold ndR
   by_cases h : (P : Int) = x
   ·subst h
    have h1 : wi (P : Int) P = false := by unfold wi; simp
    have h2 : wi (P : Int) ((P + 1 : Nat) : Int) = true := by unfold wi; simp; omega
    rw [h1, h2];simp
   ·rw [if_neg h, List.append_nil]
    have h1 : wi x ((P + 1 : Nat) : Int) = wi x (P : Int) := by
     rw [Bool.eq_iff_iff];unfold wi
     simp only [Bool.and_eq_true, decide_eq_true_eq];omega
    rw [h1]
  ·have e : M = 0 := by omega
   subst e;simp [pgTo, ndR]
end Go.Proofs.YtlgfekjoknbfdaaGreatDoor
end

section
namespace Go.Proofs.YtlgfekjoknbfdaaGreatDoor
open Go.RowKit Go.Hay
attribute [local go_sem] Oper.semAt_some
theorem infoVl : ∃ i : TypeInfo, Tryz.prog.info? 55 = some i ∧ i.zero = some (.slice none 0 0) ∧ i.size = 1 ∧ i.bytes = 24 := by
 have h : (Tryz.prog.info? 55).map (fun i => (i.zero, i.size, i.bytes)) = some (some (.slice none 0 0), 1, 24) := by kernel_rfl
 cases e : Tryz.prog.info? 55 with
 | none => rw [e] at h; cases h
 | some i =>
  rw [e] at h;simp at h
  exact ⟨i, rfl, h.1, h.2.1, h.2.2⟩
theorem sliceFromVl (a : Option Addr) (n c k : Nat) (w : World) (hk : k ≤ n) : (Instr.slice 52 (.slice a n c) (some (.int .i64 (k : Int))) none none).run Tryz.prog w = .ok (.slice (if c = k then a else a.map (·.add k)) (n - k) (c - k)) w := by
 obtain ⟨i0, hi, hz0, hz1, hz2⟩ := infoVl;have hsz := run_sizeOf (P := Tryz.prog) (w := w) hi
 have h1 : (0 : Int) ≤ (k : Int) := by omega
 have h2 : (k : Int) ≤ (n : Int) := by omega
 simp [Instr.slice, Instr.sliceBounds, Instr.sliceBound, run_underlying Tryz.underlying52, h1, h2, hk, asIntOf]
theorem addrMapF (a : Option Addr) : a.map (·.add 0) = a := by cases a <;> rfl
theorem sliceToVl (a : Option Addr) (n c k : Nat) (w : World) (hk : k ≤ c) : (Instr.slice 52 (.slice a n c) none (some (.int .i64 (k : Int))) none).run Tryz.prog w = .ok (.slice a k c) w := by
 obtain ⟨i0, hi, hz0, hz1, hz2⟩ := infoVl;have hsz := run_sizeOf (P := Tryz.prog) (w := w) hi
 have h1 : (0 : Int) ≤ (k : Int) := by omega
 have h2 : (k : Int) ≤ (c : Int) := by omega
 have e0 := addrMapF a
 simp [Instr.slice, Instr.sliceBounds, Instr.sliceBound, run_underlying Tryz.underlying52, h1, h2, hk, asIntOf, e0]
theorem seeFromVl {w : World} {a : Option Addr} {P : List Vl} (h : VlE.See w a P) (c k : Nat) (hc : P.length ≤ c) : VlE.See w (if c = k then a else a.map (·.add k)) (P.drop k) := by
 by_cases e : c = k
 ·exact .inl (by rw [List.drop_eq_nil_of_le (by omega)])
 ·rw [if_neg e]
  rcases h with h | ⟨g, o, rfl, hc⟩
  ·subst h; exact .inl (by simp)
  ·refine .inr ⟨g, o + k, by simp [Addr.add], fun j u hu => ?_⟩
   rw [El.cs_drop, List.getElem?_drop] at hu;have := hc _ u hu
   have en : VlE.n = 1 := rfl
   rw [en, Nat.mul_one] at this;rw [Nat.add_assoc];exact this
theorem sumVl_le_take (L : List Vl) (k : Nat) : sumVl (L.take k) ≤ sumVl L := by
 have h : sumVl L = sumVl (L.take k) + sumVl (L.drop k) := by
  conv => lhs; rw [← List.take_append_drop k L]
  simp only [sumVl, List.map_append, List.sum_append_nat]
 omega
theorem sumVl_le_drop (L : List Vl) (k : Nat) : sumVl (L.drop k) ≤ sumVl L := by
 have h : sumVl L = sumVl (L.take k) + sumVl (L.drop k) := by
  conv => lhs; rw [← List.take_append_drop k L]
  simp only [sumVl, List.map_append, List.sum_append_nat]
 omega
theorem rejN_len (A B : List Nv) : (rejN A B).length ≤ A.length := List.length_filterMap_le _ _
theorem visA_wide {ep : Int} {M : Nat} {L : List Vl} {y : Nv} (h : y ∈ visA ep M L) : y.2.2.1.length = M := by
 rw [visA_seen] at h;obtain ⟨x, _, rfl⟩ := List.mem_map.1 h;exact fitF_len _ _
theorem rejN_wide {A B : List Nv} {a b : Nat} (hA : ∀ y ∈ A, y.2.2.1.length = a) (hB : ∀ y ∈ B, y.2.2.1.length = b) : ∀ y ∈ rejN A B, y.2.2.1.length = a + b := fun y hy => by
 obtain ⟨x, hx, he⟩ := List.mem_filterMap.1 hy
 cases hf : B.find? (fun b => decide ((b.1, b.2.1) = (x.1, x.2.1))) with
 | none => rw [hf] at he; cases he
 | some z =>
  rw [hf] at he
  cases he
  have hz := List.mem_of_find?_eq_some hf
  show (x.2.2.1 ++ z.2.2.1).length = a + b
  rw [List.length_append, hA x hx, hB z hz]
theorem pgTo_lenM (M P : Nat) (x : Int) (h0 : 0 ≤ x) (h1 : x < (P : Int)) : (pgTo M x (P * M)).length = M := by
 rw [pgTo_ndR];unfold ndR
 have : wi x P = true := by unfold wi; simp; omega
 rw [if_pos this];simp
def CutP (a : Option Addr) (n ca k : Nat) (w : World) (e : Ending) (w' : World) : Prop := e = .returned (.tuple #[.slice a k ca, .slice (if ca = k then a else a.map (·.add k)) (n - k) (ca - k)]) ∧ Kp [] w w'
theorem cCut (c : Cg) (x : Int) (M : Nat) (a : Option Addr) (n ca : Nat) (w : World) (hM : c.s = (M : Int)) (hc : c.ok w) (hn : cntd c = true) (hp8 : c.pl.length ≤ 8) (h0 : 0 ≤ x) (h1 : x < (c.pl.length : Int)) (hca : n ≤ ca) : Calls Tryz.prog 46 #[c.v, .int .i64 x, .slice a n ca] w (CutP a n ca (min M n) w) := by
 obtain ⟨w1, hw1, k1, z1, b1⟩ := boxC c w;have K1 := hid k1
 have cc0 := b1.get 0 _ rfl; have cc1 := b1.get 1 _ rfl; have cc2 := b1.get 2 _ rfl; have cc3 := b1.get 3 _ rfl; have cc4 := b1.get 4 _ rfl
 have cS := hid (cPSeg c x M w1 hM (hc.kept k1) hn hp8)
 have hl := pgTo_lenM M c.pl.length x h0 h1
 obtain ⟨R, hR⟩ : ∃ R, pgTo M x (c.pl.length * M) = R := ⟨_, rfl⟩
 rw [hR] at cS hl;obtain ⟨k, hk⟩ : ∃ k, min M n = k := ⟨_, rfl⟩
 rw [hk];have HK : Hid ((k = n ∧ n ≤ M) ∨ (k = M ∧ M ≤ n)) := hid (by omega)
 have hk1 : k ≤ n := by omega
 clear hk;have s1 := fun W => sliceToVl a n ca k W (by omega)
 have s2 := fun W => sliceFromVl a n ca k W hk1
 have i1 : (0 : Int) ≤ (k : Int) := by omega
 unfold CutP
 obtain ⟨a2, ha2⟩ : ∃ a2, Hid ((if ca = k then a else a.map (·.add k)) = a2) := ⟨_, hid rfl⟩
 rw [ha2.out] at s2 ⊢;obtain ⟨n2, hn2⟩ : ∃ n2, Hid (n - k = n2) := ⟨_, hid rfl⟩
 obtain ⟨c2, hc2⟩ : ∃ n2, Hid (ca - k = n2) := ⟨_, hid rfl⟩
 rw [hn2.out, hc2.out] at s2 ⊢;simp only [Cg.v] at cS ⊢;clear hR hM hc b1 k1;go_enter Tryz.func46, Tryz.ntmps46
 go_wp2_with fail;refine cS.out.mono ?_;rintro e w3 ⟨ra, rc, rfl, hrow, hnw, k3⟩;have K3 := hid (K1.out.trans k3 (by simp))
 rw [hl];clear cS hrow hnw k3;go_wp2_with fail
 ·have hkn : k = n := by have := HK.out; omega
  subst hkn;go_quiet (fail)
  go_wp2_with fail;exact bodyPost_ret (v := .tuple #[.slice a k ca, .slice a2 n2 c2]) (by simp [results, Tryz.results46, go_sem]) rfl ⟨rfl, K3.out.drewN _⟩
 ·have hkn : k = M := by have := HK.out; omega
  subst hkn;go_quiet (fail)
  go_wp2_with fail;exact bodyPost_ret (v := .tuple #[.slice a k ca, .slice a2 n2 c2]) (by simp [results, Tryz.results46, go_sem]) rfl ⟨rfl, K3.out.drewN _⟩
theorem tkLen (L : List Vl) (M : Nat) : min M L.length = (L.take M).length := by rw [List.length_take]
theorem cFull1 (c : Cg) (i : Nat) (p2 : Int) (t : Nat) (M : Nat) (a : Option Addr) (ca : Nat) (L : List Vl) (ep : Int) (w : World) (hM : c.s = (M : Int)) (hc : c.ok w) (hn : cntd c = true) (hp8 : c.pl.length ≤ 8) (hi : i < c.pl.length) (h2 : p2 < 0) (ht : t < c.tl.length) (hpt : c.pl[i].tb = (t : Int)) (hw : ∀ p ∈ c.pl, p.cl.length ≤ 1000) (htw : ∀ t ∈ c.tl, t.l.length ≤ 1000)
  (hs : VlE.See w a L) (hl : ∀ x ∈ L, x.lies w) (hca : L.length ≤ ca) (hL : L.length ≤ 1048576) (hsum : sumVl L ≤ 1048576) :
  Calls Tryz.prog 20 #[c.v, plV ((i : Int), p2), .slice a L.length ca, .int .u64 ep] w (LovP (fullN M c.pl[i].cl [] false c.tl[t].l.length ep L) w) := by
 obtain ⟨w1, hw1, k1, z1, b1⟩ := boxC c w;obtain ⟨q4, hq4⟩ : ∃ x, w.heap.size = x := ⟨_, rfl⟩
 rw [hq4] at b1 z1;obtain ⟨w2, hw2, k2, b2⟩ : ∃ x, w1.alloc (.cells #[.int .i64 (i : Int), .int .i64 p2] 38) = x ∧ Kp [] w1 x ∧ Bn x w1.heap.size [.int .i64 (i : Int), .int .i64 p2] := ⟨_, rfl, (Kp.refl _ _).alloc _, Bn.new w1 _ _⟩
 obtain ⟨q5, hq5⟩ : ∃ x, w1.heap.size = x := ⟨_, rfl⟩
 rw [hq5] at b2;have b12 := b1.kept k2
 have K2 := hid (k1.trans k2 (by simp))
 obtain ⟨g, f, epa, x0, x1, x2, x3, x4, x5⟩ := pjAt hc.ps (j := i) (p := c.pl[i]) (by simp [hi])
 obtain ⟨gt, ft, eta, t0, t1⟩ := tbAt hc.ts (j := t) (t := c.tl[t]) (by simp [ht])
 obtain ⟨q9, W1, W2, eq9, eW1, c1, eW2, c2, k9⟩ := boxPj w2 c.pl[i];have KW := hid (K2.out.trans k9 (by simp))
 have HB := hid (And.intro (b12.kept k9) (And.intro (b2.kept k9) c2))
 have hcw := hid hc
 have HS := hid hs
 have HL := hid hl
 have hwi := hid (hw c.pl[i] (List.getElem_mem hi))
 have hpok := hid (hc.pok c.pl[i] (List.getElem_mem hi))
 have htw' := hid (htw c.tl[t] (List.getElem_mem ht))
 obtain ⟨P1, hP1⟩ : ∃ P1, Hid (c.pl[i] = P1) := ⟨_, hid rfl⟩
 obtain ⟨T1, hT1⟩ : ∃ T1, Hid (c.tl[t] = T1) := ⟨_, hid rfl⟩
 rw [hP1.out] at x0 x1 x2 x3 x4 x5 eW2 c2 HB hpt hwi hpok ⊢;rw [hT1.out] at htw' t1 ⊢;have i3 : decide ((c.pl.length : Int) ≤ p2) = false := by simp; omega
 have i4 : decide ((0 : Int) ≤ p2) = false := by simp; omega
 have g0 := kpAt K2.out x0; have g1 := kpAt K2.out x1; have g2 := kpAt K2.out x2; have g3 := kpAt K2.out x3; have g4 := kpAt K2.out x4; have g5 := kpAt K2.out x5
 have cc0 := b12.get 0 _ rfl; have cc1 := b12.get 1 _ rfl; have cc2 := b12.get 2 _ rfl; have cc3 := b12.get 3 _ rfl; have cc4 := b12.get 4 _ rfl
 have dd0 := b2.get 0 _ rfl; have dd1 := b2.get 1 _ rfl
 have m0 := c1.get 0 _ rfl; have m1 := c1.get 1 _ rfl; have m2 := c1.get 2 _ rfl; have m3 := c1.get 3 _ rfl; have m4 := c1.get 4 _ rfl; have m5 := c1.get 5 _ rfl
 have f0 := c1.free 0; have f1 := c1.free 1; have f2 := c1.free 2; have f3 := c1.free 3; have f4 := c1.free 4; have f5 := c1.free 5
 rw [hpt] at eW2 g1
 have hC : Hid (∀ W', Kp [] W2 W' → W'.cell? ⟨q4, 0, none⟩ = some (.int .i64 c.n) ∧ W'.cell? ⟨q4, 1, none⟩ = some (.int .i64 c.s) ∧ W'.cell? ⟨q4, 2, none⟩ = some (.int .i64 c.k) ∧ W'.cell? ⟨q4, 3, none⟩ = some (.slice c.ta c.tl.length c.tc) ∧ W'.cell? ⟨q4, 4, none⟩ = some (.slice c.pa c.pl.length c.pc) ∧ W'.cell? ⟨q5, 0, none⟩ = some (.int .i64 (i : Int)) ∧ W'.cell? ⟨q5, 1, none⟩ = some (.int .i64 p2) ∧ W'.cell? ⟨q9, 1, none⟩ = some (.int .i64 (t : Int)) ∧ W'.cell? ⟨q9, 2, none⟩ = some (.slice P1.ca P1.cl.length P1.cc) ∧ W'.cell? ⟨gt, ft + t * 2 + 1, none⟩ = some (.slice T1.a T1.l.length T1.c)) := hid (fun W' q => by
  have h1 := HB.out.1.kept q; have h2 := HB.out.2.1.kept q; have h3 := HB.out.2.2.kept q
  have h4 := h3.get 1 _ rfl
  rw [hpt] at h4;have kq := KW.out.trans q (by simp)
  exact ⟨h1.get 0 _ rfl, h1.get 1 _ rfl, h1.get 2 _ rfl, h1.get 3 _ rfl, h1.get 4 _ rfl, h2.get 0 _ rfl, h2.get 1 _ rfl, h4, h3.get 2 _ rfl, kpAt kq t1⟩)
 have hpt' := hid hpt
 clear hpt;have i1 : (0 : Int) ≤ (i : Int) := by omega
 have i2 : (i : Int) < (c.pl.length : Int) := by omega
 have j1 : (0 : Int) ≤ (t : Int) := by omega
 have j2 : (t : Int) < (c.tl.length : Int) := by omega
 have wi1 := hid (show wi (i : Int) (c.pl.length : Int) = true by unfold wi; simp; omega)
 have wi2 := hid (show wi (t : Int) (c.tl.length : Int) = true by unfold wi; simp; omega)
 have cW := hid cWithinP
 have cA := hid (cCut c (i : Int) M a L.length ca W2 hM (hcw.out.kept KW.out) hn hp8 (by omega) (by omega) hca)
 have el1 := tkLen L M
 obtain ⟨L1, hL1⟩ : ∃ L1, Hid (L.take M = L1) := ⟨_, hid rfl⟩
 rw [hL1.out] at el1;have sL1 : Hid (VlE.See w a L1) := hid (by rw [← hL1.out]; exact hs.front M)
 have lL1 : Hid (∀ x ∈ L1, x.lies w) := hid (fun x hx => hl x (by rw [← hL1.out] at hx; exact List.mem_of_mem_take hx))
 have nL1 : sumVl L1 ≤ 1048576 := by rw [← hL1.out]; exact Nat.le_trans (sumVl_le_take L M) hsum
 have mL1 : L1.length ≤ 1048576 := by omega
 have cL1 : L1.length ≤ L.length := by omega
 have cV := hid (fun W (k : Kp [] w W) => cVisible a ca L1 ep P1.cl.length W (sL1.out.keptNew k) (fun x hx => (lL1.out x hx).kept k) (by have := hwi.out; omega) nL1 mL1)
 obtain ⟨a2, ha2⟩ : ∃ a2, Hid ((if ca = L1.length then a else a.map (·.add L1.length)) = a2) := ⟨_, hid rfl⟩
 have hfin : Hid (fullN M P1.cl [] false T1.l.length ep L = toldN P1.cl T1.l.length (visA ep P1.cl.length L1)) := hid (by unfold fullN; rw [if_neg (by simp), hL1.out])
 rw [hfin.out];clear hfin;rw [el1] at cA;unfold CutP at cA
 simp only [Cg.v, plV] at cA ⊢;rw [ha2.out] at cA;clear x0 x1 x2 x3 x4 x5 t0 t1 b1 b2 b12 k1 k2 c1 c2 k9 hc hs hl hw htw hM hn z1 el1 hL1 ;obtain ⟨cn, cs, ck, ta, tc, tl, pa, pc, pl⟩ := c;dsimp only at *;subst epa eta;go_enter Tryz.func20, Tryz.ntmps20
 go_wp2_with fail;refine (cW.out _ _ _).mono ?_;rintro e w' ⟨rfl, ex⟩;rw [ex, wi1.out];clear ex w';have v1 := (hC.out _ (Kp.refl _ _)).2.2.2.2.2.2.2.1; have v2 := (hC.out _ (Kp.refl _ _)).2.2.2.2.2.2.2.2.1; have v3 := (hC.out _ (Kp.refl _ _)).2.2.2.1
 have v4 := (hC.out _ (Kp.refl _ _)).2.2.2.2.2.1; have v5 := (hC.out _ (Kp.refl _ _)).1; have v6 := (hC.out _ (Kp.refl _ _)).2.1; have v7 := (hC.out _ (Kp.refl _ _)).2.2.1; have v8 := (hC.out _ (Kp.refl _ _)).2.2.2.2.1
 go_wp2_with fail;refine (cW.out _ _ _).mono ?_;rintro e w' ⟨rfl, ex⟩;rw [ex, wi2.out];clear ex w';go_wp2_with fail;refine cA.out.mono ?_;rintro e w3 ⟨rfl, k3⟩;have K3 := hid k3
 have aV := hid (cV.out w3 (KW.out.trans k3 (by simp)))
 clear k3 cA v1 v2 v3 v4 v5 v6 v7 v8 g0 g1 g2 g3 g4 g5 m0 m1 m2 m3 m4 m5 f0 f1 f2 f3 f4 f5 cc0 cc1 cc2 cc3 cc4 dd0 dd1 eW1 eW2 hw1 hw2 eq9;go_wp2_with fail;refine aV.out.mono ?_;rintro e w4 ⟨ra, rc, A, rfl, hlA, hA, k4⟩;have K4 := hid (K3.out.trans k4 (by simp))
 have HA := hid (And.intro hlA hA)
 obtain ⟨o0, o1, o2, o3, o4, o5, o6, o7, o8, o9⟩ := hC.out _ K4.out
 have hAl : A.length ≤ 1048576 := by
  have h1 := congrArg List.length hA
  rw [List.length_map] at h1;have h2 := visA_len ep P1.cl.length L1
  omega
 have hAw : Hid (∀ x ∈ A, x.l.length = P1.cl.length) := hid (fun x hx => by
  have h1 : x.pr ∈ visA ep P1.cl.length L1 := by rw [← hA]; exact List.mem_map_of_mem hx
  exact visA_wide h1)
 have K4w := hid (KW.out.trans K4.out (by simp))
 have sA : Hid (VrE.See w4 ra A) := hid (by
  obtain ⟨_, _, e, hs, _⟩ := hlA.row.see;rw [← (Value.slice.inj e).1] at hs;exact hs)
 clear aV hlA hA k4 cV;have cT := hid (cToldF ra rc A P1.ca P1.cc P1.cl T1.l.length w4 sA.out HA.out.1.lies (hpok.out.cols.keptNew K4w.out) (by have := hwi.out; omega) (by have := htw'.out; omega) hAl (fun x hx => Nat.le_of_eq (hAw.out x hx).symm))
 rw [HA.out.2] at cT;go_wp2_with fail;refine cT.out.mono ?_;rintro e w5 ⟨rb, rd, B, rfl, hlB, hB, k5⟩;have z4 := K4w.out.size
 have HR : Hid (LovP (toldN P1.cl T1.l.length (visA ep P1.cl.length L1)) w (.returned (.slice rb B.length rd)) w5) := hid ⟨rb, rd, B, rfl, hlB.mono z4, hB, K4w.out.trans k5 (by simp)⟩
 clear cT hlB hB k5;go_wp2_with fail;go_ret;exact HR.out
theorem cFull2 (c : Cg) (i : Nat) (k : Nat) (t : Nat) (M : Nat) (a : Option Addr) (ca : Nat) (L : List Vl) (ep : Int) (w : World) (hM : c.s = (M : Int)) (hc : c.ok w) (hn : cntd c = true) (hp8 : c.pl.length ≤ 8) (hi : i < c.pl.length) (hk : k < c.pl.length) (ht : t < c.tl.length) (hpt : c.pl[i].tb = (t : Int)) (hw : ∀ p ∈ c.pl, p.cl.length ≤ 1000) (htw : ∀ t ∈ c.tl, t.l.length ≤ 1000)
  (hs : VlE.See w a L) (hl : ∀ x ∈ L, x.lies w) (hca : L.length ≤ ca) (hL : L.length ≤ 1048576) (hsum : sumVl L ≤ 1048576) :
  Calls Tryz.prog 20 #[c.v, plV ((i : Int), ((k : Nat) : Int)), .slice a L.length ca, .int .u64 ep] w (LovP (fullN M c.pl[i].cl c.pl[k].cl true c.tl[t].l.length ep L) w) := by
 obtain ⟨w1, hw1, k1, z1, b1⟩ := boxC c w;obtain ⟨q4, hq4⟩ : ∃ x, w.heap.size = x := ⟨_, rfl⟩
 rw [hq4] at b1 z1;obtain ⟨w2, hw2, k2, b2⟩ : ∃ x, w1.alloc (.cells #[.int .i64 (i : Int), .int .i64 ((k : Nat) : Int)] 38) = x ∧ Kp [] w1 x ∧ Bn x w1.heap.size [.int .i64 (i : Int), .int .i64 ((k : Nat) : Int)] := ⟨_, rfl, (Kp.refl _ _).alloc _, Bn.new w1 _ _⟩
 obtain ⟨q5, hq5⟩ : ∃ x, w1.heap.size = x := ⟨_, rfl⟩
 rw [hq5] at b2;have b12 := b1.kept k2
 have K2 := hid (k1.trans k2 (by simp))
 obtain ⟨g, f, epa, x0, x1, x2, x3, x4, x5⟩ := pjAt hc.ps (j := i) (p := c.pl[i]) (by simp [hi])
 obtain ⟨g', f', epa', _, _, y2, _, _, _⟩ := pjAt hc.ps (j := k) (p := c.pl[k]) (by simp [hk])
 rw [epa] at epa'
 cases epa'
 have hwk := hid (hw c.pl[k] (List.getElem_mem hk))
 have hpk := hid (hc.pok c.pl[k] (List.getElem_mem hk))
 obtain ⟨gt, ft, eta, t0, t1⟩ := tbAt hc.ts (j := t) (t := c.tl[t]) (by simp [ht])
 obtain ⟨q9, W1, W2, eq9, eW1, c1, eW2, c2, k9⟩ := boxPj w2 c.pl[i];have KW := hid (K2.out.trans k9 (by simp))
 have HB := hid (And.intro (b12.kept k9) (And.intro (b2.kept k9) c2))
 have hcw := hid hc
 have HS := hid hs
 have HL := hid hl
 have hwi := hid (hw c.pl[i] (List.getElem_mem hi))
 have hpok := hid (hc.pok c.pl[i] (List.getElem_mem hi))
 have htw' := hid (htw c.tl[t] (List.getElem_mem ht))
 obtain ⟨P1, hP1⟩ : ∃ P1, Hid (c.pl[i] = P1) := ⟨_, hid rfl⟩
 obtain ⟨T1, hT1⟩ : ∃ T1, Hid (c.tl[t] = T1) := ⟨_, hid rfl⟩
 rw [hP1.out] at x0 x1 x2 x3 x4 x5 eW2 c2 HB hpt hwi hpok ⊢;rw [hT1.out] at htw' t1 ⊢;obtain ⟨P2, hP2⟩ : ∃ P2, Hid (c.pl[k] = P2) := ⟨_, hid rfl⟩
 rw [hP2.out] at y2 hwk hpk ⊢;have k1' : (0 : Int) ≤ (k : Int) := by omega
 have k2' : (k : Int) < (c.pl.length : Int) := by omega
 have i3 : decide ((c.pl.length : Int) ≤ (k : Int)) = false := by simp; omega
 have i3n : decide (c.pl.length ≤ k) = false := by simp; omega
 have i4 : decide ((0 : Int) ≤ (k : Int)) = true := by simp
 have g0 := kpAt K2.out x0; have g1 := kpAt K2.out x1; have g2 := kpAt K2.out x2; have g3 := kpAt K2.out x3; have g4 := kpAt K2.out x4; have g5 := kpAt K2.out x5
 have cc0 := b12.get 0 _ rfl; have cc1 := b12.get 1 _ rfl; have cc2 := b12.get 2 _ rfl; have cc3 := b12.get 3 _ rfl; have cc4 := b12.get 4 _ rfl
 have dd0 := b2.get 0 _ rfl; have dd1 := b2.get 1 _ rfl
 have m0 := c1.get 0 _ rfl; have m1 := c1.get 1 _ rfl; have m2 := c1.get 2 _ rfl; have m3 := c1.get 3 _ rfl; have m4 := c1.get 4 _ rfl; have m5 := c1.get 5 _ rfl
 have f0 := c1.free 0; have f1 := c1.free 1; have f2 := c1.free 2; have f3 := c1.free 3; have f4 := c1.free 4; have f5 := c1.free 5
 rw [hpt] at eW2 g1
 have hC : Hid (∀ W', Kp [] W2 W' → W'.cell? ⟨q4, 0, none⟩ = some (.int .i64 c.n) ∧ W'.cell? ⟨q4, 1, none⟩ = some (.int .i64 c.s) ∧ W'.cell? ⟨q4, 2, none⟩ = some (.int .i64 c.k) ∧ W'.cell? ⟨q4, 3, none⟩ = some (.slice c.ta c.tl.length c.tc) ∧ W'.cell? ⟨q4, 4, none⟩ = some (.slice c.pa c.pl.length c.pc) ∧ W'.cell? ⟨q5, 0, none⟩ = some (.int .i64 (i : Int)) ∧ W'.cell? ⟨q5, 1, none⟩ = some (.int .i64 ((k : Nat) : Int)) ∧ W'.cell? ⟨q9, 1, none⟩ = some (.int .i64 (t : Int)) ∧ W'.cell? ⟨q9, 2, none⟩ = some (.slice P1.ca P1.cl.length P1.cc) ∧ W'.cell? ⟨gt, ft + t * 2 + 1, none⟩ = some (.slice T1.a T1.l.length T1.c) ∧ W'.cell? ⟨g, f + k * 6 + 2, none⟩ = some (.slice P2.ca P2.cl.length P2.cc)) := hid (fun W' q => by
  have h1 := HB.out.1.kept q; have h2 := HB.out.2.1.kept q; have h3 := HB.out.2.2.kept q
  have h4 := h3.get 1 _ rfl
  rw [hpt] at h4;have kq := KW.out.trans q (by simp)
  exact ⟨h1.get 0 _ rfl, h1.get 1 _ rfl, h1.get 2 _ rfl, h1.get 3 _ rfl, h1.get 4 _ rfl, h2.get 0 _ rfl, h2.get 1 _ rfl, h4, h3.get 2 _ rfl, kpAt kq t1, kpAt kq y2⟩)
 have hpt' := hid hpt
 clear hpt;have i1 : (0 : Int) ≤ (i : Int) := by omega
 have i2 : (i : Int) < (c.pl.length : Int) := by omega
 have j1 : (0 : Int) ≤ (t : Int) := by omega
 have j2 : (t : Int) < (c.tl.length : Int) := by omega
 have wi1 := hid (show wi (i : Int) (c.pl.length : Int) = true by unfold wi; simp; omega)
 have wi2 := hid (show wi (t : Int) (c.tl.length : Int) = true by unfold wi; simp; omega)
 have cW := hid cWithinP
 have cA := hid (cCut c (i : Int) M a L.length ca W2 hM (hcw.out.kept KW.out) hn hp8 (by omega) (by omega) hca)
 have el1 := tkLen L M
 obtain ⟨L1, hL1⟩ : ∃ L1, Hid (L.take M = L1) := ⟨_, hid rfl⟩
 rw [hL1.out] at el1;have sL1 : Hid (VlE.See w a L1) := hid (by rw [← hL1.out]; exact hs.front M)
 have lL1 : Hid (∀ x ∈ L1, x.lies w) := hid (fun x hx => hl x (by rw [← hL1.out] at hx; exact List.mem_of_mem_take hx))
 have nL1 : sumVl L1 ≤ 1048576 := by rw [← hL1.out]; exact Nat.le_trans (sumVl_le_take L M) hsum
 have mL1 : L1.length ≤ 1048576 := by omega
 have cL1 : L1.length ≤ L.length := by omega
 have cV := hid (fun W (k : Kp [] w W) => cVisible a ca L1 ep P1.cl.length W (sL1.out.keptNew k) (fun x hx => (lL1.out x hx).kept k) (by have := hwi.out; omega) nL1 mL1)
 have hdr : Hid (L.drop L1.length = L.drop M) := hid (by
  by_cases h : M ≤ L.length
  ·rw [← el1, Nat.min_eq_left h]
  ·rw [List.drop_of_length_le (by omega), List.drop_of_length_le (by omega)])
 obtain ⟨a2, ha2⟩ : ∃ a2, Hid ((if ca = L1.length then a else a.map (·.add L1.length)) = a2) := ⟨_, hid rfl⟩
 have sD : Hid (VlE.See w a2 (L.drop L1.length)) := hid (by rw [← ha2.out]; exact seeFromVl hs ca L1.length hca)
 obtain ⟨D, hD⟩ : ∃ D, Hid (L.drop L1.length = D) := ⟨_, hid rfl⟩
 have nD : L.length - L1.length = D.length := by rw [← hD.out, List.length_drop]
 have lD : Hid (∀ x ∈ D, x.lies w) := hid (fun x hx => hl x (by rw [← hD.out] at hx; exact List.mem_of_mem_drop hx))
 rw [hD.out] at sD;obtain ⟨c2', hc2'⟩ : ∃ n, ca - L1.length = n := ⟨_, rfl⟩
 have el2 := tkLen D M
 obtain ⟨L2, hL2⟩ : ∃ L2, Hid (D.take M = L2) := ⟨_, hid rfl⟩
 rw [hL2.out] at el2;have sL2 : Hid (VlE.See w a2 L2) := hid (by rw [← hL2.out]; exact sD.out.front M)
 have lL2 : Hid (∀ x ∈ L2, x.lies w) := hid (fun x hx => lD.out x (by rw [← hL2.out] at hx; exact List.mem_of_mem_take hx))
 have nL2 : sumVl L2 ≤ 1048576 := by rw [← hL2.out]; refine Nat.le_trans (sumVl_le_take D M) ?_; rw [← hD.out]; exact Nat.le_trans (sumVl_le_drop L _) hsum
 have mL2 : L2.length ≤ 1048576 := by omega
 have cB := hid (fun W (q : Kp [] w W) => cCut c (k : Int) M a2 D.length c2' W hM (hcw.out.kept q) hn hp8 (by omega) (by omega) (by omega))
 have cV2 := hid (fun W (k : Kp [] w W) => cVisible a2 c2' L2 ep P2.cl.length W (sL2.out.keptNew k) (fun x hx => (lL2.out x hx).kept k) (by have := hwk.out; omega) nL2 mL2)
 rw [el2] at cB;obtain ⟨a3, ha3⟩ : ∃ a3, Hid ((if c2' = L2.length then a2 else a2.map (·.add L2.length)) = a3) := ⟨_, hid rfl⟩
 have hfin : Hid (fullN M P1.cl P2.cl true T1.l.length ep L = toldN (P1.cl ++ P2.cl) T1.l.length (rejN (visA ep P1.cl.length L1) (visA ep P2.cl.length L2))) := hid (by unfold fullN; rw [if_pos rfl, hL1.out, ← hdr.out, hD.out, hL2.out])
 rw [hfin.out];clear hfin;rw [el1] at cA;unfold CutP at cA cB
 simp only [Cg.v, plV] at cA cB ⊢;rw [ha2.out, nD, hc2'] at cA;simp only [ha3.out] at cB;clear x0 x1 x2 x3 x4 x5 t0 t1 b1 b2 b12 k1 k2 c1 c2 k9 hc hs hl hw htw hM hn z1 el1 hL1 y2 el2 hL2 hD nD hc2' hdr ;obtain ⟨cn, cs, ck, ta, tc, tl, pa, pc, pl⟩ := c;dsimp only at *;subst epa eta;go_enter Tryz.func20, Tryz.ntmps20
 go_wp2_with fail;refine (cW.out _ _ _).mono ?_;rintro e w' ⟨rfl, ex⟩;rw [ex, wi1.out];clear ex w';have v1 := (hC.out _ (Kp.refl _ _)).2.2.2.2.2.2.2.1; have v2 := (hC.out _ (Kp.refl _ _)).2.2.2.2.2.2.2.2.1; have v3 := (hC.out _ (Kp.refl _ _)).2.2.2.1
 have v4 := (hC.out _ (Kp.refl _ _)).2.2.2.2.2.1; have v5 := (hC.out _ (Kp.refl _ _)).1; have v6 := (hC.out _ (Kp.refl _ _)).2.1; have v7 := (hC.out _ (Kp.refl _ _)).2.2.1; have v8 := (hC.out _ (Kp.refl _ _)).2.2.2.2.1
 go_wp2_with fail;refine (cW.out _ _ _).mono ?_;rintro e w' ⟨rfl, ex⟩;rw [ex, wi2.out];clear ex w';go_wp2_with fail;refine cA.out.mono ?_;rintro e w3 ⟨rfl, k3⟩;have K3 := hid k3
 have aV := hid (cV.out w3 (KW.out.trans k3 (by simp)))
 clear k3 cA v1 v2 v3 v4 v5 v6 v7 v8 g0 g1 g2 g3 g4 g5 m0 m1 m2 m3 m4 m5 f0 f1 f2 f3 f4 f5 cc0 cc1 cc2 cc3 cc4 dd0 dd1 eW1 eW2 hw1 hw2 eq9;go_wp2_with fail;refine aV.out.mono ?_;rintro e w4 ⟨ra, rc, A, rfl, hlA, hA, k4⟩;have K4 := hid (K3.out.trans k4 (by simp))
 have HA := hid (And.intro hlA hA)
 obtain ⟨o0, o1, o2, o3, o4, o5, o6, o7, o8, o9, o10⟩ := hC.out _ K4.out
 have hAl : A.length ≤ 1048576 := by
  have h1 := congrArg List.length hA
  rw [List.length_map] at h1;have h2 := visA_len ep P1.cl.length L1
  omega
 have hAw : Hid (∀ x ∈ A, x.l.length = P1.cl.length) := hid (fun x hx => by
  have h1 : x.pr ∈ visA ep P1.cl.length L1 := by rw [← hA]; exact List.mem_map_of_mem hx
  exact visA_wide h1)
 have K4w := hid (KW.out.trans K4.out (by simp))
 have sA : Hid (VrE.See w4 ra A) := hid (by
  obtain ⟨_, _, e, hs, _⟩ := hlA.row.see;rw [← (Value.slice.inj e).1] at hs;exact hs)
 clear aV hlA hA k4 cV;have aB := hid (cB.out w4 K4w.out)
 go_wp2_with fail;refine aB.out.mono ?_;rintro e w5 ⟨rfl, k5⟩;have K5 := hid (K4.out.trans k5 (by simp))
 have aV2 := hid (cV2.out w5 (KW.out.trans K5.out (by simp)))
 have K45 := hid k5
 clear aB cB k5 o0 o1 o2 o3 o4 o5 o6 o7 o8 o9 o10;go_wp2_with fail;refine aV2.out.mono ?_;rintro e w6 ⟨rb, rd, B, rfl, hlB, hB, k6⟩;have K46 := hid (K45.out.trans k6 (by simp))
 have K6 := hid (K5.out.trans k6 (by simp))
 have HB2 := hid (And.intro hlB hB)
 have hBl : B.length ≤ 1048576 := by
  have h1 := congrArg List.length hB
  rw [List.length_map] at h1;have h2 := visA_len ep P2.cl.length L2
  omega
 have hBw : Hid (∀ x ∈ B, x.l.length = P2.cl.length) := hid (fun x hx => by
  have h1 : x.pr ∈ visA ep P2.cl.length L2 := by rw [← hB]; exact List.mem_map_of_mem hx
  exact visA_wide h1)
 have sB : Hid (VrE.See w6 rb B) := hid (by
  obtain ⟨_, _, e, hs, _⟩ := hlB.row.see;rw [← (Value.slice.inj e).1] at hs;exact hs)
 have cR := hid (cRejoin ra rb rc rd A B w6 (sA.out.keptNew K46.out) sB.out (fun x hx => (HA.out.1.lies x hx).kept K46.out) hlB.lies hAl hBl (fun x hx => by have h1 := hAw.out x hx; have h2 := hwi.out; omega) (fun x hx => by have h1 := hBw.out x hx; have h2 := hwk.out; omega))
 rw [rejR_N, HA.out.2, hB] at cR;clear aV2 cV2 hlB hB k6;go_wp2_with fail;refine cR.out.mono ?_;rintro e w7 ⟨rj, rk, J, rfl, hlJ, hJ, k7⟩;have K7 := hid (K6.out.trans k7 (by simp))
 have HJ := hid (And.intro hlJ hJ)
 have hJl : J.length ≤ 1048576 := by
  have h1 := congrArg List.length hJ
  rw [List.length_map] at h1;have h2 := rejN_len (visA ep P1.cl.length L1) (visA ep P2.cl.length L2)
  have h3 := visA_len ep P1.cl.length L1
  omega
 have hJw : Hid (∀ x ∈ J, x.l.length = P1.cl.length + P2.cl.length) := hid (fun x hx => by
  have h1 : x.pr ∈ rejN (visA ep P1.cl.length L1) (visA ep P2.cl.length L2) := by rw [← hJ]; exact List.mem_map_of_mem hx
  exact rejN_wide (fun y hy => visA_wide hy) (fun y hy => visA_wide hy) _ h1)
 have sJ : Hid (VrE.See w7 rj J) := hid (by
  obtain ⟨_, _, e, hs, _⟩ := hlJ.row.see;rw [← (Value.slice.inj e).1] at hs;exact hs)
 -- both lists of columns, one behind the other
 obtain ⟨W8, hW8⟩ : ∃ Y, w7.alloc (.cells #[.slice P1.ca P1.cl.length P1.cc, .slice P2.ca P2.cl.length P2.cc] 27) = Y := ⟨_, rfl⟩
 have k8 : Kp [] w7 W8 := by rw [← hW8]; exact (Kp.refl _ _).alloc _
 have b8 : Bn W8 w7.heap.size [.slice P1.ca P1.cl.length P1.cc, .slice P2.ca P2.cl.length P2.cc] := by rw [← hW8]; exact Bn.new w7 _ _
 have s8 : CiE.See W8 (some ⟨w7.heap.size, 0, none⟩) [⟨P1.ca, P1.cc, P1.cl⟩, ⟨P2.ca, P2.cc, P2.cl⟩] := .inr ⟨_, 0, rfl, fun j u hu => by rw [Nat.zero_add]; exact b8.get j u (by simpa [El.cs, CiE] using hu)⟩
 have K8 := hid (K7.out.trans k8 (by simp))
 have K8w := hid (KW.out.trans K8.out (by simp))
 have cC := hid (cConcatI (some ⟨w7.heap.size, 0, none⟩) 2 [⟨P1.ca, P1.cc, P1.cl⟩, ⟨P2.ca, P2.cc, P2.cl⟩] W8 s8 (fun x hx => by
  rcases List.mem_cons.1 hx with rfl | hx
  ·exact hpok.out.cols.keptNew K8w.out
  ·rw [List.mem_singleton.1 hx]; exact hpk.out.cols.keptNew K8w.out) (by simp) (by have h1 := hwi.out; have h2 := hwk.out; simp [sumLI]; omega))
 have ecat : catLI [(⟨P1.ca, P1.cc, P1.cl⟩ : Ci), ⟨P2.ca, P2.cc, P2.cl⟩] = P1.cl ++ P2.cl := by simp [catLI]
 rw [ecat] at cC;have K78 := hid k8
 obtain ⟨o0, o1, o2, o3, o4, o5, o6, o7, o8, o9, o10⟩ := hC.out _ K7.out;clear cR hlJ hJ k7 k8 b8 s8 ecat;go_wp2_with fail;refine cC.out.mono ?_;rintro e w9 ⟨pa2, pc2, rfl, hr9, k9, hn9⟩;have K9 := hid (K8.out.trans k9 (by simp))
 have K79 := hid (K78.out.trans k9 (by simp))
 have K9w := hid (KW.out.trans K9.out (by simp))
 have s9 : IntE.See w9 pa2 (P1.cl ++ P2.cl) := by
  obtain ⟨_, _, e, hs, _⟩ := hr9.see;rw [← (Value.slice.inj e).1] at hs;exact hs
 have cT := hid (cToldF rj rk J pa2 pc2 (P1.cl ++ P2.cl) T1.l.length w9 (sJ.out.keptNew K79.out) (fun x hx => (HJ.out.1.lies x hx).kept K79.out) s9 (by have h1 := hwi.out; have h2 := hwk.out; rw [List.length_append]; omega) (by have := htw'.out; omega) hJl (fun x hx => by rw [List.length_append]; exact Nat.le_of_eq (hJw.out x hx).symm))
 rw [HJ.out.2] at cT;obtain ⟨C12, hC12⟩ : ∃ C12, Hid (P1.cl ++ P2.cl = C12) := ⟨_, hid rfl⟩
 rw [hC12.out] at cT ⊢;obtain ⟨u0, u1, u2, u3, u4, u5, u6, u7, u8, u9, u10⟩ := hC.out _ K9.out;clear cC hr9 k9 hn9 s9 o0 o1 o2 o3 o4 o5 o6 o7 o8 o9 o10;go_wp2_with fail;refine cT.out.mono ?_;rintro e wA ⟨rl, rm, R, rfl, hlR, hR, kA⟩;have z9 := K9w.out.size
 have HR : Hid (LovP (toldN C12 T1.l.length (rejN (visA ep P1.cl.length L1) (visA ep P2.cl.length L2))) w (.returned (.slice rl R.length rm)) wA) := hid ⟨rl, rm, R, rfl, hlR.mono z9, hR, K9w.out.trans kA (by simp)⟩
 clear cT hlR hR kA;go_wp2_with fail;go_ret;have hr := HR.out
 rw [← hC12.out] at hr;exact hr
end Go.Proofs.YtlgfekjoknbfdaaGreatDoor
end

section
namespace Go.Proofs.YtlgfekjoknbfdaaGreatDoor
open Go.RowKit Go.Hay
theorem prW_few (f : Nat → Nat → Bool) : ∀ l : List Nat, l.length ≤ 8 → (prW f l).length ≤ l.length * 8
 | [], _ => by simp [prW]
 | i :: r, h => by
  have ih := prW_few f r (by simp at h; omega)
  unfold prW
  rw [List.length_append];have h1 : (inW f i r).length ≤ r.length := by unfold inW; rw [List.length_map]; exact List.length_filter_le _ _
  simp only [List.length_cons] at h ⊢;omega
theorem waysV_few (c : Cg) (t : Int) (h : c.pl.length ≤ 8) : (waysV c t).length ≤ 4000000000000 := by
 unfold waysV
 split
 ·rw [List.length_append]
  have h1 : (sgW (tbM c t) t c.pl (List.range' 0 c.pl.length)).length ≤ c.pl.length := by
   unfold sgW
   rw [List.length_map];exact Nat.le_trans (List.length_filter_le _ _) (by simp)
  have h2 : (ptW (tbM c t) t c.pl (List.range' 0 c.pl.length)).length ≤ c.pl.length := by
   unfold ptW
   exact Nat.le_trans (List.length_filter_le _ _) (by simp)
  have h3 := prW_few (bothW (tbM c t) c.pl) _ (Nat.le_trans h2 h)
  omega
 ·simp
theorem boxTwo (T : TypeId) (w : World) (x y : Int) : ∃ q W1 W2, w.heap.size = q ∧ w.alloc (.cells #[.int .i64 0, .int .i64 0] T) = W1 ∧ Bn W1 q [.int .i64 0, .int .i64 0] ∧ (W1.setCell ⟨q, 0, none⟩ (.int .i64 x)).setCell ⟨q, 1, none⟩ (.int .i64 y) = W2 ∧ Bn W2 q [.int .i64 x, .int .i64 y] ∧ Kp [] w W2 := by
 have b0 := Bn.new w [.int .i64 0, .int .i64 0] T
 have k0 : Kp [] w (w.alloc (.cells #[.int .i64 0, .int .i64 0] T)) := (Kp.refl _ _).alloc _
 have h : w.heap.size ∈ ([] : List Nat) ∨ w.heap.size ≤ w.heap.size := .inr (Nat.le_refl _)
 exact ⟨_, _, _, rfl, rfl, b0, rfl, (b0.set 0 (by simp) _).set 1 (by simp) _, (k0.setCell h _).setCell h _⟩
theorem chV_two (R : List (Int × Int)) (pick : Int) : (chV R pick).2 = 0 ∨ (chV R pick).2 = 161 := by
 unfold chV
 split
 ·exact .inl rfl
 ·exact .inr rfl
theorem plM_few {l : List Int} {m : Nat} (h : plM l (m : Int) = true) : l.length ≤ m := by
 have h0 : ∀ i (hi : i < l.length), wi l[i] (m : Int) = true ∧ ¬ l[i] ∈ l.take i := fun i hi => by
  unfold plM plTo at h
  have h1 := List.all_eq_true.1 h i (by simpa using hi)
  rw [List.getD_eq_getElem?_getD, List.getElem?_eq_getElem hi, Option.getD_some, Bool.and_eq_true] at h1;exact ⟨h1.1, by simpa using h1.2⟩
 have hw : ∀ i (hi : i < l.length), 0 ≤ l[i] ∧ l[i] < (m : Int) := fun i hi => by
  have := (h0 i hi).1
  unfold wi at this
  simpa using this
 have hnd : (l.map Int.toNat).Nodup := by
  unfold List.Nodup
  rw [List.pairwise_iff_getElem];intro i j hi hj hij
  rw [List.length_map] at hi hj;rw [List.getElem_map, List.getElem_map];intro e
  have e2 : l[i] = l[j] := by have := hw i hi; have := hw j hj; omega
  apply (h0 j hj).2
  rw [← e2];exact List.mem_take_iff_getElem.2 ⟨i, by omega, rfl⟩
 by_cases c : m ≤ l.length
 ·have hp := perm_of_sub (l.map Int.toNat) (List.range m) hnd (fun x hx => by
   obtain ⟨y, hy, rfl⟩ := List.mem_map.1 hx;obtain ⟨i, hi, rfl⟩ := List.mem_iff_getElem.1 hy;have := hw i hi
   exact List.mem_range.2 (by omega)) (by rw [List.length_map, List.length_range]; exact c)
  have := hp.length_eq
  rw [List.length_map, List.length_range] at this;omega
 ·omega
theorem pjM_of {c : Cg} (h : chkC c = 0) {p : Pj} (hp : p ∈ c.pl) : pjM c p = true := by
 have h1 := (chk_ok h).2.2.1
 unfold pjsM pjsTo at h1
 rw [Bool.and_eq_true] at h1;obtain ⟨j, hj, e⟩ := List.mem_iff_getElem.1 hp;have h3 := List.all_eq_true.1 h1.2 j (by simpa using hj)
 unfold pjAtC at h3
 rw [List.getElem?_eq_getElem hj, e] at h3;dsimp only at h3;rw [Bool.and_eq_true] at h3;exact h3.1
theorem tabs8 {c : Cg} (h : chkC c = 0) : ∀ t ∈ c.tl, t.l.length ≤ 8 := fun t ht => by
 have h1 := (chk_ok h).2.1
 unfold tabsM at h1
 rw [Bool.and_eq_true, Bool.and_eq_true] at h1;have h2 := h1.2.2
 obtain ⟨j, hj, e⟩ := List.mem_iff_getElem.1 ht;unfold tabTo at h2
 have h3 := List.all_eq_true.1 h2 j (by simpa using hj)
 unfold tabAt at h3
 rw [List.getElem?_eq_getElem hj, e] at h3;dsimp only at h3;rw [Bool.and_eq_true] at h3;have h4 := h3.1
 unfold tableV at h4
 by_cases h5 : (namedV t.nm && (decide (t.l.length ≠ 0) && (decide (t.l.length ≤ 8) && colsV t.l))) = true
 ·rw [Bool.and_eq_true, Bool.and_eq_true, Bool.and_eq_true] at h5
  exact of_decide_eq_true h5.2.2.1
 ·rw [if_neg h5] at h4
  simp at h4
theorem pjs8 {c : Cg} (h : chkC c = 0) : ∀ p ∈ c.pl, p.cl.length ≤ 8 := fun p hp => by
 have h1 := pjM_of h hp
 unfold pjM at h1
 simp only [Bool.and_eq_true] at h1;have hwt := h1.2.1
 have h2 := h1.2.2.2.2.1
 unfold wi at hwt
 simp only [Bool.and_eq_true, decide_eq_true_eq] at hwt;have h3 := plM_few h2
 have h4 : (c.tl.getD p.tb.toNat default).l.length ≤ 8 := tabs8 h _ (by
  rw [List.getD_eq_getElem?_getD, List.getElem?_eq_getElem (by omega)]
  exact List.getElem_mem _)
 omega
theorem mem_prW {f : Nat → Nat → Bool} {x : Int × Int} : ∀ {l : List Nat}, x ∈ prW f l → ∃ i ∈ l, ∃ k ∈ l, x = ((i : Int), (k : Int))
 | [], h => by simp [prW] at h
 | a :: r, h => by
  unfold prW at h
  rcases List.mem_append.1 h with h | h
  ·unfold inW at h
   obtain ⟨k, hk, rfl⟩ := List.mem_map.1 h;exact ⟨a, List.mem_cons_self .., k, List.mem_cons_of_mem _ (List.mem_filter.1 hk).1, rfl⟩
  ·obtain ⟨i, hi, k, hk, e⟩ := mem_prW h
   exact ⟨i, List.mem_cons_of_mem _ hi, k, List.mem_cons_of_mem _ hk, e⟩
theorem mem_ways {c : Cg} {t x1 x2 : Int} (h : (x1, x2) ∈ waysV c t) : ∃ (tn i : Nat) (ht : tn < c.tl.length) (hi : i < c.pl.length), t = (tn : Int) ∧ x1 = (i : Int) ∧ c.pl[i].tb = (tn : Int) ∧ ((x2 = -1 ∧ ∀ n : Nat, n < c.tl[tn].l.length → (n : Int) ∈ c.pl[i].cl) ∨ ∃ k : Nat, k < c.pl.length ∧ x2 = (k : Int)) := by
 unfold waysV at h
 by_cases hw : wi t c.tl.length = true
 ·rw [if_pos hw] at h
  unfold wi at hw
  simp only [Bool.and_eq_true, decide_eq_true_eq] at hw;obtain ⟨tn, rfl⟩ := Int.eq_ofNat_of_zero_le hw.1;have ht : tn < c.tl.length := by omega
  have hin : ∀ i, i ∈ List.range' 0 c.pl.length → i < c.pl.length := fun i hi => by
   have := List.mem_range'.1 hi
   omega
  have hpj : ∀ i (hi : i < c.pl.length), pjOf c.pl i = c.pl[i] := fun i hi => by
   unfold pjOf
   rw [List.getD_eq_getElem?_getD, List.getElem?_eq_getElem hi];rfl
  rcases List.mem_append.1 h with h | h
  ·unfold sgW at h
   obtain ⟨i, hi, e⟩ := List.mem_map.1 h;obtain ⟨hi1, hi2⟩ := List.mem_filter.1 hi;have hil := hin i hi1
   rw [hpj i hil] at hi2;unfold isS at hi2
   simp only [Bool.and_eq_true, decide_eq_true_eq] at hi2
   cases e
   refine ⟨tn, i, ht, hil, rfl, rfl, hi2.1, .inl ⟨rfl, fun n hn => ?_⟩⟩
   have h3 := hi2.2
   unfold hvA at h3
   have h4 := List.all_eq_true.1 h3 n (by
    unfold tbM
    rw [Int.toNat_natCast, List.getD_eq_getElem?_getD, List.getElem?_eq_getElem ht];simpa using hn)
   unfold hasC at h4
   simpa [colsOf] using h4
  ·obtain ⟨i, hi, k, hk, e⟩ := mem_prW h
   cases e
   unfold ptW at hi hk
   obtain ⟨hi1, hi2⟩ := List.mem_filter.1 hi;obtain ⟨hk1, hk2⟩ := List.mem_filter.1 hk;have hil := hin i hi1
   rw [hpj i hil] at hi2;unfold isP at hi2
   simp only [Bool.and_eq_true, decide_eq_true_eq] at hi2;exact ⟨tn, i, ht, hil, rfl, rfl, hi2.1, .inr ⟨k, hin k hk1, rfl⟩⟩
 ·rw [if_neg hw] at h
  simp at h
theorem chV_mem {R : List (Int × Int)} {pick x1 x2 : Int} (h : chV R pick = ((x1, x2), 0)) : (x1, x2) ∈ R := by
 unfold chV at h
 cases e : R[(chI R.length pick).toNat]? with
 | none => rw [e] at h; simp at h
 | some y =>
  rw [e] at h;simp only [Prod.mk.injEq, and_true] at h;rw [← h];exact List.mem_of_getElem? e
end Go.Proofs.YtlgfekjoknbfdaaGreatDoor
end

section
namespace Go.Proofs.YtlgfekjoknbfdaaGreatDoor
open Go.RowKit Go.Hay
attribute [local go_sem] Oper.semAt_some
theorem Bn.set4F {w : World} {q : Nat} {cs : List Value} (h : Bn w q cs) (hl : cs.length = 4) (v0 v1 v2 v3 : Value) : ∃ W, (((w.setCell ⟨q, 0, none⟩ v0).setCell ⟨q, 1, none⟩ v1).setCell ⟨q, 2, none⟩ v2).setCell ⟨q, 3, none⟩ v3 = W ∧ Bn W q [v0, v1, v2, v3] ∧ Kp [q] w W := by
 refine ⟨_, rfl, ?_, ?_⟩
 ·have e : [v0, v1, v2, v3] = (((cs.set 0 v0).set 1 v1).set 2 v2).set 3 v3 := by
   match cs, hl with
   | [_, _, _, _], _ => rfl
  rw [e];exact (((h.set 0 (by simp [hl]) _).set 1 (by simp [hl]) _).set 2 (by simp [hl]) _).set 3 (by simp [hl]) _
 ·have hk : Kp [q] w w := Kp.refl _ _
  exact (((hk.setCell (.inl (by simp)) _).setCell (.inl (by simp)) _).setCell (.inl (by simp)) _).setCell (.inl (by simp)) _
theorem rSeen (x : Vr) (ep : Int) (w : World) : Calls Tryz.prog 26 #[x.v, .int .u64 ep] w fun e w' => e = .returned (.bool (seenF ep x)) ∧ Kp [] w w' := by
 obtain ⟨W1, hW1⟩ : ∃ Y, w.alloc (.cells #[.int .u64 x.e, .int .u32 x.n, .slice x.a x.l.length x.c, .int .u64 x.d] 80) = Y := ⟨_, rfl⟩
 have k1 : Kp [] w W1 := by rw [← hW1]; exact (Kp.refl _ _).alloc _
 have b1 : Bn W1 w.heap.size [.int .u64 x.e, .int .u32 x.n, .slice x.a x.l.length x.c, .int .u64 x.d] := by rw [← hW1]; exact Bn.new w _ _
 have c0 := b1.get 0 _ rfl; have c3 := b1.get 3 _ rfl
 have K1 := hid k1
 obtain ⟨R, hR⟩ : ∃ R, Hid (seenF ep x = R) := ⟨_, hid rfl⟩
 rw [hR.out];unfold Vr.v
 obtain ⟨xe, xn, xa, xc, xl, xd⟩ := x;have hR2 := hR.out
 unfold seenF at hR2
 dsimp only at *;clear b1 k1 hR
 by_cases h1 : xe ≤ ep
 ·have d1 : decide (xe ≤ ep) = true := by simpa using h1
  by_cases h2 : xd = 0
  ·have d2 : (xd == 0) = true := by simpa using h2
   have hr : Hid (R = true) := hid (by rw [← hR2]; simp [h1, h2])
   clear hR2 h1 h2;go_enter Tryz.func26, Tryz.ntmps26
   go_wp2_with fail;go_ret;exact ⟨by rw [hr.out]; rfl, K1.out⟩
  ·have d2 : (xd == 0) = false := by simpa using h2
   by_cases h3 : ep < xd
   ·have d3 : decide (ep < xd) = true := by simpa using h3
    have hr : Hid (R = true) := hid (by rw [← hR2]; simp [h1, h3])
    clear hR2 h1 h2 h3;go_enter Tryz.func26, Tryz.ntmps26
    go_wp2_with fail;go_ret;exact ⟨by rw [hr.out]; rfl, K1.out⟩
   ·have d3 : decide (ep < xd) = false := by simpa using h3
    have hr : Hid (R = false) := hid (by rw [← hR2]; simp [h2, h3])
    clear hR2 h1 h2 h3;go_enter Tryz.func26, Tryz.ntmps26
    go_wp2_with fail;go_ret;exact ⟨by rw [hr.out]; rfl, K1.out⟩
 ·have d1 : decide (xe ≤ ep) = false := by simpa using h1
  have hr : Hid (R = false) := hid (by rw [← hR2]; simp [h1])
  clear hR2 h1;go_enter Tryz.func26, Tryz.ntmps26
  go_wp2_with fail;go_ret;exact ⟨by rw [hr.out]; rfl, K1.out⟩
def valP (cl : List Int) (l : List Val) (n : Int) : Val := if n ∈ cl then vAt l (ixI cl n) else nulV
def VlP (v : Val) (b : Bool) (w : World) (e : Ending) (w' : World) : Prop := e = .returned (.tuple #[.agg #[.int .i64 v.k, .bool v.b, .int .i64 v.n, .string v.t], .bool b]) ∧ Kp [] w w'
theorem rValue (p : Pj) (a : Option Addr) (c : Nat) (l : List Val) (n : Int) (w : World) (hp : IntE.See w p.ca p.cl) (ha : Vals w a l) (hl : l.length ≤ 9223372036854775807) (hpl : p.cl.length ≤ 1000) : Calls Tryz.prog 51 #[p.v, .slice a l.length c, .int .i64 n] w (VlP (valP p.cl l n) (decide (n ∈ p.cl)) w) := by
 obtain ⟨W1, hW1⟩ : ∃ Y, w.alloc (.cells #[.string p.nm, .int .i64 p.tb, .slice p.ca p.cl.length p.cc, .slice p.sa p.sl.length p.sc, .int .i64 p.by_, .int .i64 p.sh] 92) = Y := ⟨_, rfl⟩
 have k1 : Kp [] w W1 := by rw [← hW1]; exact (Kp.refl _ _).alloc _
 have b1 : Bn W1 w.heap.size [.string p.nm, .int .i64 p.tb, .slice p.ca p.cl.length p.cc, .slice p.sa p.sl.length p.sc, .int .i64 p.by_, .int .i64 p.sh] := by rw [← hW1]; exact Bn.new w _ _
 obtain ⟨q3, hq3⟩ : ∃ q, w.heap.size = q := ⟨_, rfl⟩
 rw [hq3] at b1;obtain ⟨W2, hW2⟩ : ∃ Y, W1.alloc (.cells #[.int .i64 0, .bool false, .int .i64 0, .string ⟨#[]⟩] 88) = Y := ⟨_, rfl⟩
 have k2 : Kp [] W1 W2 := by rw [← hW2]; exact (Kp.refl _ _).alloc _
 have b2 : Bn W2 W1.heap.size [.int .i64 0, .bool false, .int .i64 0, .string ⟨#[]⟩] := by rw [← hW2]; exact Bn.new W1 _ _
 obtain ⟨q6, hq6⟩ : ∃ q, W1.heap.size = q := ⟨_, rfl⟩
 rw [hq6] at b2;have hz : Hid (w.heap.size ≤ q6) := hid (by have := k1.size; omega)
 have K2 := hid (k1.trans k2 (by simp))
 have B1 := hid (b1.kept k2)
 have B2 := hid b2
 have HP := hid hp
 have HA := hid ha
 unfold Pj.v
 clear k1 b1 k2 b2 hp ha;go_enter Tryz.func51, Tryz.ntmps51
 go_wp2_with fail;go_loopw [8] (fun iv wr => ∃ j : Nat, j ≤ p.cl.length ∧ iv = .int .i64 (j : Int) ∧ Hid (∀ y ∈ p.cl.take j, ¬ y = n) ∧ Hid (Kp [] W2 wr)) (fun iv _ => p.cl.length - (intOf iv).toNat)
 case atStart => exact ⟨0, Nat.zero_le _, rfl, hid (by simp), hid (Kp.refl _ _)⟩
 case round =>
  obtain ⟨j, hj, rfl, hno, kr⟩ := hrel;have c2 := (B1.out.kept kr.out).get 2 _ rfl
  by_cases hlt : j < p.cl.length
  ·obtain ⟨g, o, ea, c0⟩ := intAt (HP.out.keptNew (K2.out.trans kr.out (by simp))) j hlt
   have hta : Hid (p.cl.take (j + 1) = p.cl.take j ++ [p.cl[j]]) := hid (List.take_succ_eq_append_getElem hlt)
   have hcj : Hid (∀ x, p.cl[j] = x → j < p.cl.length ∧ x = p.cl[j]) := hid (fun x h => ⟨hlt, h.symm⟩)
   have hix : Hid (p.cl[j] = n → ixI p.cl n = (j : Int)) := hid (fun h => ixI_at hlt h.symm hno.out)
   have hmem : Hid (p.cl[j] = n → n ∈ p.cl) := hid (fun h => h ▸ List.getElem_mem hlt)
   obtain ⟨x, hx⟩ : ∃ x, Hid (p.cl[j] = x) := ⟨_, hid rfl⟩
   rw [hx.out] at c0 hta hix hmem;have i1 : (0 : Int) ≤ (j : Int) := by omega
   have i2 : (j : Int) < (p.cl.length : Int) := by omega
   have i3 : (j : Int) + 1 ≤ 9223372036854775807 := by omega
   rw [ea] at c2;have ea' := hid ea
   clear ea
   by_cases he : x = n
   ·have d1 : (x == n) = true := by simpa using he
    have cA := hid (rAtE a c l (j : Int) wr (HA.out.kept (K2.out.trans kr.out (by simp))) hl)
    have hv : Hid (valP p.cl l n = vAt l (j : Int)) := hid (by unfold valP; rw [if_pos (hmem.out he), hix.out he])
    have hd : Hid (decide (n ∈ p.cl) = true) := hid (by simpa using hmem.out he)
    obtain ⟨v, hv2⟩ : ∃ v, Hid (vAt l (j : Int) = v) := ⟨_, hid rfl⟩
    rw [hv2.out] at cA hv;obtain ⟨vk, vb, vn, vt⟩ := v;dsimp only at cA;clear he hno hta hix hmem;go_wp2_with fail;refine cA.out.mono ?_;rintro e wd ⟨rfl, kd⟩;obtain ⟨W4, hW4, b4, k4⟩ := (B2.out.kept (kr.out.trans kd (by simp))).set4F rfl (.int .i64 vk) (.bool vb) (.int .i64 vn) (.string vt)
    have b3 := B2.out.kept (kr.out.trans kd (by simp))
    have m0 := b3.get 0 _ rfl; have m1 := b3.get 1 _ rfl; have m2 := b3.get 2 _ rfl; have m3 := b3.get 3 _ rfl
    have f0 := b3.free 0; have f1 := b3.free 1; have f2 := b3.free 2; have f3 := b3.free 3
    have r0 := b4.get 0 _ rfl; have r1 := b4.get 1 _ rfl; have r2 := b4.get 2 _ rfl; have r3 := b4.get 3 _ rfl
    have hK : Hid (Kp [] w W4) := hid ((K2.out.trans (kr.out.trans kd (by simp)) (by simp)).trans k4 (fun y hy => .inr (by simp at hy; have := hz.out; omega)))
    clear cA kd k4 b3 b4;go_wp2_with fail;refine bodyPost_ret (v := .tuple #[.agg #[.int .i64 vk, .bool vb, .int .i64 vn, .string vt], .bool true]) (by simp [results, Tryz.results51, go_sem, r0, r1, r2, r3]) rfl ?_
    exact ⟨by rw [hv.out, hd.out], hK.out⟩
   ·have d1 : (x == n) = false := by simpa using he
    have hno2 : Hid (∀ y ∈ p.cl.take (j + 1), ¬ y = n) := hid (fun y hy => by
     rw [hta.out] at hy
     rcases List.mem_append.1 hy with hy | hy
     ·exact hno.out y hy
     ·rw [List.mem_singleton.1 hy]; exact he)
    clear he hno hta hix hmem;go_wp2_with fail;go_roundw
    case rel => exact ⟨j + 1, by omega, by go_num, hno2, kr⟩
    case measure => simp [intOf]; omega
  ·have dj1 : ¬ (j : Int) < (p.cl.length : Int) := by omega
   have dj2 : decide ((j : Int) < (p.cl.length : Int)) = false := by simp; omega
   have hnm : ¬ n ∈ p.cl := fun h => by
    have e : p.cl.take j = p.cl := List.take_of_length_le (by omega)
    have h1 := hno.out n (by rw [e]; exact h)
    exact h1 rfl
   have hv : Hid (valP p.cl l n = nulV) := hid (by unfold valP; rw [if_neg hnm])
   have hd : Hid (decide (n ∈ p.cl) = false) := hid (by simpa using hnm)
   obtain ⟨W4, hW4, b4, k4⟩ := (B2.out.kept kr.out).set4F rfl (.int .i64 0) (.bool false) (.int .i64 0) (.string ⟨#[]⟩);have b3 := B2.out.kept kr.out
   have m0 := b3.get 0 _ rfl; have m1 := b3.get 1 _ rfl; have m2 := b3.get 2 _ rfl; have m3 := b3.get 3 _ rfl
   have f0 := b3.free 0; have f1 := b3.free 1; have f2 := b3.free 2; have f3 := b3.free 3
   have r0 := b4.get 0 _ rfl; have r1 := b4.get 1 _ rfl; have r2 := b4.get 2 _ rfl; have r3 := b4.get 3 _ rfl
   have hK : Hid (Kp [] w W4) := hid ((K2.out.trans kr.out (by simp)).trans k4 (fun y hy => .inr (by simp at hy; have := hz.out; omega)))
   clear k4 b3 b4 hno hnm;go_wp2_with fail;refine bodyPost_ret (v := .tuple #[.agg #[.int .i64 0, .bool false, .int .i64 0, .string ⟨#[]⟩], .bool false]) (by simp [results, Tryz.results51, go_sem, r0, r1, r2, r3]) rfl ?_
   exact ⟨by rw [hv.out, hd.out]; rfl, hK.out⟩
theorem appRsF (w : World) (L : List Vr) (a : Option Addr) (c : Nat) (ys : List Vr) (a2 : Option Addr) (c2 : Nat) (hr : VrE.Row w (.slice a L.length c) L) (hs : VrE.See w a2 ys) (hL : L.length + ys.length ≤ 4000000) :
  ∃ a' c' w', (Builtin.append_ #[55, 55] 55 #[.slice a L.length c, .slice a2 ys.length c2]).run Tryz.prog w = .ok (.slice a' (L ++ ys).length c') w' ∧ VrE.Row w' (.slice a' (L ++ ys).length c') (L ++ ys) ∧ Kp (blk a) w w' ∧ ∀ k ∈ blk a', k ∈ blk a ∨ w.heap.size ≤ k := by
 obtain ⟨i0, hi, hz0, hz1, hz2⟩ := infoVr;have hsr := hs.src (P := Tryz.prog) Tryz.underlying55 c2
 obtain ⟨v', w', hrun, h1, h2, h3⟩ := run_appendG (E := VrE) (P := Tryz.prog) _ 55 55 55 80 i0 _ 48 Tryz.underlying55 hi hz0 hz1 hz2 rfl (.slice a L.length c) L hr _ ys hsr (by omega) (by omega)
 obtain ⟨a', c', rfl, _⟩ := h1.see;simp only [ownV] at h2 h3;exact ⟨a', c', w', hrun, h1, h2, h3⟩
theorem appR1F (w : World) (L : List Vr) (a : Option Addr) (c : Nat) (x : Vr) (hr : VrE.Row w (.slice a L.length c) L) (hL : L.length ≤ 3000000) :
  ∃ a' c' w', (Builtin.append_ #[55, 55] 55 #[.slice a L.length c, .slice (some ⟨w.heap.size, 0, none⟩) 1 1]).run Tryz.prog (w.alloc (.cells #[.int .u64 x.e, .int .u32 x.n, .slice x.a x.l.length x.c, .int .u64 x.d] 80)) = .ok (.slice a' (L ++ [x]).length c') w' ∧ VrE.Row w' (.slice a' (L ++ [x]).length c') (L ++ [x]) ∧ Kp (blk a) w w' ∧ ∀ k ∈ blk a', k ∈ blk a ∨ w.heap.size ≤ k := by
 obtain ⟨A1, hA1⟩ : ∃ A1, w.alloc (.cells #[.int .u64 x.e, .int .u32 x.n, .slice x.a x.l.length x.c, .int .u64 x.d] 80) = A1 := ⟨_, rfl⟩
 have k1 : Kp [] w A1 := by rw [← hA1]; exact (Kp.refl _ _).alloc _
 have bx : Bn A1 w.heap.size (VrE.c x) := by rw [← hA1]; exact Bn.new w (VrE.c x) _
 have hs1 : VrE.See A1 (some ⟨w.heap.size, 0, none⟩) [x] := .inr ⟨w.heap.size, 0, rfl, fun j u hu => by rw [Nat.zero_add]; exact bx.get j u (by simpa [El.cs] using hu)⟩
 obtain ⟨a', c', w', h1, h2, h3, h4⟩ := appRsF A1 L a c [x] _ 1 (hr.keptNew k1) hs1 (by simp only [List.length_cons, List.length_nil]; omega)
 rw [hA1];have z := k1.size
 exact ⟨a', c', w', h1, h2, (k1.mono (by simp)).trans h3 (fun _ h => .inl h), fun k hk => by
  rcases h4 k hk with e | e
  ·exact .inl e
  ·exact .inr (by omega)⟩
theorem app3F (u : World) (a cq : Option Addr) (ca cc j K : Nat) (O : List Vr) (hO : O.length = j) (hK : K ≤ j) (h1 : VrE.See u a (O.take K)) (h2 : VrE.See u cq (O.drop K)) (x : Vr) (hj : j ≤ 1048576) :
  ∃ a1 c1 W1 a2 c2 W2 a3 c3 W3, (Builtin.append_ #[55, 55] 55 #[.slice none 0 0, .slice a K ca]).run Tryz.prog u = .ok (.slice a1 K c1) W1
   ∧ (Builtin.append_ #[55, 55] 55 #[.slice a1 K c1, .slice (some ⟨W1.heap.size, 0, none⟩) 1 1]).run Tryz.prog (W1.alloc (.cells #[.int .u64 x.e, .int .u32 x.n, .slice x.a x.l.length x.c, .int .u64 x.d] 80)) = .ok (.slice a2 (K + 1) c2) W2
   ∧ (Builtin.append_ #[55, 55] 55 #[.slice a2 (K + 1) c2, .slice cq (j - K) cc]).run Tryz.prog W2 = .ok (.slice a3 (j + 1) c3) W3
   ∧ VrE.Row W3 (.slice a3 (O.take K ++ x :: O.drop K).length c3) (O.take K ++ x :: O.drop K) ∧ (∀ k ∈ blk a3, u.heap.size ≤ k) ∧ Kp [] u W1 ∧ Kp [] u W2 ∧ Kp [] u W3 := by
 have l1 : (O.take K).length = K := by rw [List.length_take]; omega
 have l2 : (O.drop K).length = j - K := by rw [List.length_drop]; omega
 obtain ⟨a1, c1, W1, r1, R1, k1, n1⟩ := appRsF u [] none 0 (O.take K) a ca (.inl ⟨rfl, rfl⟩) h1 (by simp; omega)
 simp only [List.nil_append, List.length_nil] at r1 R1;obtain ⟨a2, c2, W2, r2, R2, k2, n2⟩ := appR1F W1 (O.take K) a1 c1 x R1 (by omega)
 have k1' : Kp [] u W1 := by simpa [blk] using k1
 have n1' : ∀ k ∈ blk a1, u.heap.size ≤ k := fun k hk => by
  rcases n1 k hk with e | e
  ·simp [blk] at e
  ·exact e
 have k2' : Kp [] u W2 := k1'.trans k2 (fun y hy => .inr (n1' y hy))
 have n2' : ∀ k ∈ blk a2, u.heap.size ≤ k := fun k hk => by
  rcases n2 k hk with e | e
  ·exact n1' k e
  ·have := k1'.size; omega
 obtain ⟨a3, c3, W3, r3, R3, k3, n3⟩ := appRsF W2 (O.take K ++ [x]) a2 c2 (O.drop K) cq cc R2 (h2.keptNew k2') (by simp; omega)
 have e1 : (O.take K ++ [x]).length = K + 1 := by simp; omega
 have e2 : O.take K ++ [x] ++ O.drop K = O.take K ++ x :: O.drop K := by simp
 have e3 : (O.take K ++ x :: O.drop K).length = j + 1 := by simp; omega
 rw [l1] at r1 r2;rw [e1] at r2 r3;rw [e2] at r3 R3;rw [e3, l2] at r3
 exact ⟨a1, c1, W1, a2, c2, W2, a3, c3, W3, r1, r2, r3, R3, fun k hk => by
  rcases n3 k hk with e | e
  ·exact n2' k e
  ·have := k2'.size; omega, k1', k2', k2'.trans k3 (fun y hy => .inr (n2' y hy))⟩
theorem seeDropF {w : World} {a : Option Addr} {L : List Vr} (h : VrE.See w a L) (i : Nat) : VrE.See w (a.map fun x => x.add (i * 4)) (L.drop i) := by
 rcases h with h | ⟨g, o, rfl, hc⟩
 ·subst h; exact .inl (by simp)
 ·refine .inr ⟨g, o + i * 4, by simp [Addr.add], fun j u hu => ?_⟩
  rw [El.cs_drop, List.getElem?_drop] at hu;have := hc _ u hu
  have en : VrE.n = 4 := rfl
  rw [en] at this;rw [Nat.add_assoc];exact this
theorem sliceFromVr (a : Option Addr) (n c k : Nat) (w : World) (hk : k ≤ n) : (Instr.slice 55 (.slice a n c) (some (.int .i64 (k : Int))) none none).run Tryz.prog w = .ok (.slice (if c = k then a else a.map (·.add (k * 4))) (n - k) (c - k)) w := by
 obtain ⟨i0, hi, hz0, hz1, hz2⟩ := infoVr;have hsz := run_sizeOf (P := Tryz.prog) (w := w) hi
 have h1 : (0 : Int) ≤ (k : Int) := by omega
 have h2 : (k : Int) ≤ (n : Int) := by omega
 have hc4 : Tryz.prog.cellsOf 80 = 4 := by kernel_rfl
 simp [Instr.slice, Instr.sliceBounds, Instr.sliceBound, run_underlying Tryz.underlying55, h1, h2, hk, asIntOf, hsz, hz1, hc4]
theorem addrMapO (a : Option Addr) : a.map (·.add 0) = a := by cases a <;> rfl
theorem sliceToVr (a : Option Addr) (n c k : Nat) (w : World) (hk : k ≤ c) : (Instr.slice 55 (.slice a n c) none (some (.int .i64 (k : Int))) none).run Tryz.prog w = .ok (.slice a k c) w := by
 obtain ⟨i0, hi, hz0, hz1, hz2⟩ := infoVr;have hsz := run_sizeOf (P := Tryz.prog) (w := w) hi
 have h1 : (0 : Int) ≤ (k : Int) := by omega
 have h2 : (k : Int) ≤ (c : Int) := by omega
 have e0 := addrMapO a
 simp [Instr.slice, Instr.sliceBounds, Instr.sliceBound, run_underlying Tryz.underlying55, h1, h2, hk, asIntOf, e0]
def othF (B : List Vr) (e n : Int) (k : Nat) : Int := match (B.drop k).findIdx? (fun b => decide ((b.e, b.n) = (e, n))) with
 | some i => ((k + i : Nat) : Int)
 | none => -1
theorem othF_end (B : List Vr) (e n : Int) : othF B e n B.length = -1 := by unfold othF; rw [List.drop_length]; rfl
theorem othF_step (B : List Vr) (e n : Int) (k : Nat) (h : k < B.length) : othF B e n k = if (B[k].e, B[k].n) = (e, n) then (k : Int) else othF B e n (k + 1) := by
 have e1 : B.drop k = B[k] :: B.drop (k + 1) := (List.getElem_cons_drop h).symm
 unfold othF
 rw [e1, List.findIdx?_cons]
 by_cases c : (B[k].e, B[k].n) = (e, n)
 ·rw [if_pos (by simpa using c), if_pos c]
  rfl
 ·rw [if_neg (by simpa using c), if_neg c]
  cases (B.drop (k + 1)).findIdx? (fun b => decide ((b.e, b.n) = (e, n))) with
  | none => rfl
  | some i => show ((k + (i + 1) : Nat) : Int) = ((k + 1 + i : Nat) : Int); omega
theorem othF_some {B : List Vr} {e n : Int} {i : Nat} (h : othF B e n 0 = (i : Int)) : ∃ hi : i < B.length, (B.find? fun b => decide ((b.e, b.n) = (e, n))) = some B[i] := by
 unfold othF at h
 rw [List.drop_zero] at h
 cases hf : B.findIdx? (fun b => decide ((b.e, b.n) = (e, n))) with
 | none => rw [hf] at h; simp at h
 | some j =>
  rw [hf] at h;have hj : j = i := by simp at h; omega
  subst hj;exact fi_some hf
theorem othF_none {B : List Vr} {e n : Int} (h : othF B e n 0 = -1) : (B.find? fun b => decide ((b.e, b.n) = (e, n))) = none := by
 unfold othF at h
 rw [List.drop_zero] at h
 cases hf : B.findIdx? (fun b => decide ((b.e, b.n) = (e, n))) with
 | none => exact fi_none hf
 | some j => rw [hf] at h; simp at h
theorem othF_cases (B : List Vr) (e n : Int) (k : Nat) : othF B e n k = -1 ∨ ∃ i : Nat, i < B.length ∧ othF B e n k = (i : Int) := by
 unfold othF
 cases hf : (B.drop k).findIdx? (fun b => decide ((b.e, b.n) = (e, n))) with
 | none => exact .inl rfl
 | some j =>
  have h1 := (List.findIdx?_eq_some_iff_getElem.1 hf).1
  rw [List.length_drop] at h1;exact .inr ⟨k + j, by omega, rfl⟩
structure GaF (w2 : World) (b : Option Addr) (cb : Nat) (F : List Vr) (d : Option Addr) (cd : Nat) (G : List Vr) (W : World) : Prop where
 rf : VrE.Row W (.slice b F.length cb) F
 of_ : ∀ k ∈ blk b, w2.heap.size ≤ k
 rg : VrE.Row W (.slice d G.length cd) G
 og : ∀ k ∈ blk d, w2.heap.size ≤ k
 ap : ∀ k ∈ blk b, k ∉ blk d
 kp : Kp [] w2 W
theorem GaF.nil (w2 : World) : GaF w2 none 0 [] none 0 [] w2 := ⟨.inl ⟨rfl, rfl⟩, by simp [blk], .inl ⟨rfl, rfl⟩, by simp [blk], by simp [blk], Kp.refl _ _⟩
theorem GaF.swap {w2 : World} {b : Option Addr} {cb : Nat} {F : List Vr} {d : Option Addr} {cd : Nat} {G : List Vr} {W : World} (h : GaF w2 b cb F d cd G W) : GaF w2 d cd G b cb F W := ⟨h.rg, h.og, h.rf, h.of_, fun k hk hm => h.ap k hm hk, h.kp⟩
theorem GaF.kept {w2 : World} {b : Option Addr} {cb : Nat} {F : List Vr} {d : Option Addr} {cd : Nat} {G : List Vr} {W W' : World} (h : GaF w2 b cb F d cd G W) (k : Kp [] W W') : GaF w2 b cb F d cd G W' := ⟨h.rf.keptNew k, h.of_, h.rg.keptNew k, h.og, h.ap, h.kp.trans k (by simp)⟩
theorem GaF.add {w2 : World} {b : Option Addr} {cb : Nat} {F : List Vr} {d : Option Addr} {cd : Nat} {G : List Vr} {w : World} (h : GaF w2 b cb F d cd G w) (x : Vr) (hl : F.length ≤ 3000000) :
  ∃ a' c' w', (Builtin.append_ #[55, 55] 55 #[.slice b F.length cb, .slice (some ⟨w.heap.size, 0, none⟩) 1 1]).run Tryz.prog (w.alloc (.cells #[.int .u64 x.e, .int .u32 x.n, .slice x.a x.l.length x.c, .int .u64 x.d] 80)) = .ok (.slice a' (F ++ [x]).length c') w' ∧ GaF w2 a' c' (F ++ [x]) d cd G w' := by
 obtain ⟨a', c', w', h1, h2, h3, h4⟩ := appR1F w F b cb x h.rf hl;have hd : ∀ k ∈ blk d, k < w.heap.size := fun k hk => h.rg.lt k (by rw [ownV]; exact hk)
 have hz := h.kp.size
 refine ⟨a', c', w', h1, h2, fun k hk => ?_, h.rg.kept h3 (fun k hk => by rw [ownV] at hk; exact fun hm => h.ap k hm hk), h.og, fun k hk hm => ?_, h.kp.trans h3 (fun k hk => .inr (h.of_ k hk))⟩
 ·rcases h4 k hk with e | e
  ·exact h.of_ k e
  ·omega
 ·rcases h4 k hk with e | e
  ·exact h.ap k e hm
  ·have := hd k hm; omega
def gF (ep : Int) (M : Nat) (L : List Vl) (j : Nat) : List Vr := seenA ep (L.take (min j M))
def gG (ep : Int) (M : Nat) (L : List Vl) (j : Nat) : List Vr := seenA ep ((L.take j).drop M)
theorem seenA_snoc (ep : Int) (L : List Vl) (x : Vl) : seenA ep (L ++ [x]) = seenA ep L ++ x.l.filter (seenF ep) := by simp [seenA]
theorem gF_lo {ep : Int} {M : Nat} {L : List Vl} {j : Nat} (h : j < L.length) (hM : j < M) : gF ep M L (j + 1) = gF ep M L j ++ L[j].l.filter (seenF ep) := by
 unfold gF
 rw [Nat.min_eq_left (by omega), Nat.min_eq_left (by omega), List.take_succ_eq_append_getElem h, seenA_snoc]
theorem gF_hi {ep : Int} {M : Nat} {L : List Vl} {j : Nat} (hM : M ≤ j) : gF ep M L (j + 1) = gF ep M L j := by
 unfold gF
 rw [Nat.min_eq_right (by omega), Nat.min_eq_right (by omega)]
theorem gG_lo {ep : Int} {M : Nat} {L : List Vl} {j : Nat} (hM : j ≤ M) : gG ep M L j = [] := by
 unfold gG
 rw [List.drop_eq_nil_of_le (by rw [List.length_take]; omega)]
 rfl
theorem gG_hi {ep : Int} {M : Nat} {L : List Vl} {j : Nat} (h : j < L.length) (hM : M ≤ j) : gG ep M L (j + 1) = gG ep M L j ++ L[j].l.filter (seenF ep) := by
 unfold gG
 rw [List.take_succ_eq_append_getElem h, List.drop_append_of_le_length (by rw [List.length_take]; omega), seenA_snoc]
theorem gF_end {ep : Int} {M : Nat} {L : List Vl} {j : Nat} (h : j = L.length ∨ M ≤ j) : gF ep M L j = seenA ep (L.take M) := by
 unfold gF
 rcases h with rfl | h
 ·by_cases c : L.length ≤ M
  ·rw [Nat.min_eq_left c, List.take_length, List.take_of_length_le c]
  ·rw [Nat.min_eq_right (by omega)]
 ·rw [Nat.min_eq_right h]
theorem gG_end {ep : Int} {M : Nat} {L : List Vl} {j : Nat} (h : j = min L.length (2 * M)) : gG ep M L j = seenA ep ((L.drop M).take M) := by
 unfold gG
 congr 1
 rw [List.drop_take]
 by_cases c : L.length ≤ 2 * M
 ·rw [h, Nat.min_eq_left c, List.take_of_length_le (by rw [List.length_drop]; omega), List.take_of_length_le (by rw [List.length_drop]; omega)]
 ·rw [h, Nat.min_eq_right (by omega), show 2 * M - M = M by omega]
theorem filt_take {ep : Int} {l : List Vr} {k : Nat} (h : k < l.length) : (l.take (k + 1)).filter (seenF ep) = (l.take k).filter (seenF ep) ++ (if seenF ep l[k] then [l[k]] else []) := by
 rw [List.take_succ_eq_append_getElem h, List.filter_append];congr 1
 by_cases c : seenF ep l[k] = true
 ·simp [c]
 ·simp [c]
theorem seenA_len (ep : Int) (L : List Vl) : (seenA ep L).length ≤ sumVl L := by
 have := visA_len ep 0 L
 rw [visA_seen, List.length_map] at this;exact this
theorem gF_len (ep : Int) (M : Nat) (L : List Vl) (j : Nat) : (gF ep M L j).length ≤ sumVl L := by
 unfold gF
 refine Nat.le_trans (seenA_len ep _) ?_
 have h : sumVl L = sumVl (L.take (min j M)) + sumVl (L.drop (min j M)) := by
  conv => lhs; rw [← List.take_append_drop (min j M) L]
  simp only [sumVl, List.map_append, List.sum_append_nat]
 omega
theorem gG_len (ep : Int) (M : Nat) (L : List Vl) (j : Nat) : (gG ep M L j).length ≤ sumVl L := by
 unfold gG
 refine Nat.le_trans (seenA_len ep _) ?_
 have h : sumVl L = sumVl (L.take j) + sumVl (L.drop j) := by
  conv => lhs; rw [← List.take_append_drop j L]
  simp only [sumVl, List.map_append, List.sum_append_nat]
 have h2 : sumVl (L.take j) = sumVl ((L.take j).take M) + sumVl ((L.take j).drop M) := by
  conv => lhs; rw [← List.take_append_drop M (L.take j)]
  simp only [sumVl, List.map_append, List.sum_append_nat]
 omega
theorem seenA_in {ep : Int} {L : List Vl} {x : Vr} (h : x ∈ seenA ep L) : ∃ y ∈ L, x ∈ y.l := by
 obtain ⟨y, hy, hx⟩ := List.mem_flatMap.1 h;exact ⟨y, hy, (List.mem_filter.1 hx).1⟩
theorem boxTbF (w : World) (t : Tb) : ∃ q W1 W2, w.heap.size = q ∧ w.alloc (.cells #[.string ⟨#[]⟩, .slice none 0 0] 77) = W1 ∧ Bn W1 q [.string ⟨#[]⟩, .slice none 0 0] ∧ (W1.setCell ⟨q, 0, none⟩ (.string t.nm)).setCell ⟨q, 1, none⟩ (.slice t.a t.l.length t.c) = W2 ∧ Bn W2 q [.string t.nm, .slice t.a t.l.length t.c] ∧ Kp [] w W1 ∧ Kp [] w W2 := by
 have b0 := Bn.new w [.string ⟨#[]⟩, .slice none 0 0] 77
 have k0 : Kp [] w (w.alloc (.cells #[.string ⟨#[]⟩, .slice none 0 0] 77)) := (Kp.refl _ _).alloc _
 have h : w.heap.size ∈ ([] : List Nat) ∨ w.heap.size ≤ w.heap.size := .inr (Nat.le_refl _)
 exact ⟨_, _, _, rfl, rfl, b0, rfl, (b0.set 0 (by simp) _).set 1 (by simp) _, k0, (k0.setCell h _).setCell h _⟩
theorem boxVal0 (w : World) : ∃ q W1, w.heap.size = q ∧ w.alloc (.cells #[.int .i64 0, .bool false, .int .i64 0, .string ⟨#[]⟩] 88) = W1 ∧ Bn W1 q [.int .i64 0, .bool false, .int .i64 0, .string ⟨#[]⟩] ∧ Kp [] w W1 := ⟨_, _, rfl, rfl, Bn.new w _ _, (Kp.refl _ _).alloc _⟩
theorem boxValF (w : World) (v : Val) : ∃ q W1 W2, w.heap.size = q ∧ w.alloc (.cells #[.int .i64 0, .bool false, .int .i64 0, .string ⟨#[]⟩] 88) = W1 ∧ Bn W1 q [.int .i64 0, .bool false, .int .i64 0, .string ⟨#[]⟩] ∧ (((W1.setCell ⟨q, 0, none⟩ (.int .i64 v.k)).setCell ⟨q, 1, none⟩ (.bool v.b)).setCell ⟨q, 2, none⟩ (.int .i64 v.n)).setCell ⟨q, 3, none⟩ (.string v.t) = W2 ∧ Bn W2 q [.int .i64 v.k, .bool v.b, .int .i64 v.n, .string v.t] ∧ Kp [] w W1 ∧ Kp [] w W2 := by
 obtain ⟨q, W1, e, e1, b1, k1⟩ := boxVal0 w;obtain ⟨W2, e2, b2, k2⟩ := b1.set4F rfl (.int .i64 v.k) (.bool v.b) (.int .i64 v.n) (.string v.t);exact ⟨q, W1, W2, e, e1, b1, e2, b2, k1, k1.trans k2 (fun y hy => .inr (by simp at hy; omega))⟩
theorem rFull2 (c : Cg) (i : Nat) (k : Nat) (t : Nat) (M : Nat) (a : Option Addr) (ca : Nat) (L : List Vl) (ep : Int) (w : World) (hM : c.s = (M : Int)) (hM2 : M ≤ 1000) (hc : c.ok w) (hp8 : c.pl.length ≤ 1000) (hi : i < c.pl.length) (hk : k < c.pl.length) (ht : t < c.tl.length) (hpt : c.pl[i].tb = (t : Int)) (hw : ∀ p ∈ c.pl, p.cl.length ≤ 1000) (htw : ∀ t ∈ c.tl, t.l.length ≤ 1000)
  (hs : VlE.See w a L) (hl : ∀ x ∈ L, x.lies w) (hL : L.length ≤ 1048576) (hsum : sumVl L ≤ 1048576) :
  Calls Tryz.prog 21 #[c.v, plV ((i : Int), ((k : Nat) : Int)), .slice a L.length ca, .int .u64 ep] w fun e w' => ∃ (ra : Option Addr) (rc : Nat) (R : List Vr), e = .returned (.slice ra R.length rc) ∧ VrE.See w' ra R ∧ (∀ x ∈ R, Vr.lies w' x) ∧ R.map Vr.pr = fullR M c.pl[i].cl c.pl[k].cl true c.tl[t].l.length ep L ∧ Kp [] w w' := by
 obtain ⟨w1, hw1, k1, z1, b1⟩ := boxC c w;obtain ⟨q4, hq4⟩ : ∃ x, w.heap.size = x := ⟨_, rfl⟩
 rw [hq4] at b1 z1;obtain ⟨w2, hw2, k2, b2⟩ : ∃ x, w1.alloc (.cells #[.int .i64 (i : Int), .int .i64 ((k : Nat) : Int)] 41) = x ∧ Kp [] w1 x ∧ Bn x w1.heap.size [.int .i64 (i : Int), .int .i64 ((k : Nat) : Int)] := ⟨_, rfl, (Kp.refl _ _).alloc _, Bn.new w1 _ _⟩
 obtain ⟨q5, hq5⟩ : ∃ x, w1.heap.size = x := ⟨_, rfl⟩
 rw [hq5] at b2;have b12 := b1.kept k2
 have K2 := hid (k1.trans k2 (by simp))
 have HB := hid (And.intro b12 b2)
 obtain ⟨g, f, epa, x0, x1, x2, x3, x4, x5⟩ := pjAt hc.ps (j := i) (p := c.pl[i]) (by simp [hi])
 obtain ⟨g', f', epa', y0, y1, y2, y3, y4, y5⟩ := pjAt hc.ps (j := k) (p := c.pl[k]) (by simp [hk])
 rw [epa] at epa'
 cases epa'
 have hwk := hid (hw c.pl[k] (List.getElem_mem hk))
 have hpk := hid (hc.pok c.pl[k] (List.getElem_mem hk))
 obtain ⟨gt, ft, eta, t0, t1⟩ := tbAt hc.ts (j := t) (t := c.tl[t]) (by simp [ht])
 have HS := hid hs
 have HL := hid hl
 have hwi := hid (hw c.pl[i] (List.getElem_mem hi))
 have hpok := hid (hc.pok c.pl[i] (List.getElem_mem hi))
 have htw' := hid (htw c.tl[t] (List.getElem_mem ht))
 obtain ⟨P1, hP1⟩ : ∃ P1, Hid (c.pl[i] = P1) := ⟨_, hid rfl⟩
 obtain ⟨T1, hT1⟩ : ∃ T1, Hid (c.tl[t] = T1) := ⟨_, hid rfl⟩
 rw [hP1.out] at x0 x1 x2 x3 x4 x5 hpt hwi hpok ⊢;rw [hT1.out] at htw' t0 t1 ⊢;obtain ⟨P2, hP2⟩ : ∃ P2, Hid (c.pl[k] = P2) := ⟨_, hid rfl⟩
 rw [hP2.out] at y0 y1 y2 y3 y4 y5 hwk hpk ⊢;have k1' : (0 : Int) ≤ (k : Int) := by omega
 have k2' : (k : Int) < (c.pl.length : Int) := by omega
 have i4 : decide ((0 : Int) ≤ (k : Int)) = true := by simp
 have i1 : (0 : Int) ≤ (i : Int) := by omega
 have i2 : (i : Int) < (c.pl.length : Int) := by omega
 have j1 : (0 : Int) ≤ (t : Int) := by omega
 have j2 : (t : Int) < (c.tl.length : Int) := by omega
 rw [hpt] at x1;have hfull : Hid (fullR M P1.cl P2.cl true T1.l.length ep L = ordN (refN P1.cl P2.cl T1.l.length (seenA ep (L.take M)) (seenA ep ((L.drop M).take M)))) := hid (by unfold fullR; rw [if_pos rfl])
 rw [hfull.out];simp only [Cg.v, plV];obtain ⟨cn, cs, ck, ta, tc, tl, pa, pc, pl⟩ := c;dsimp only at *;subst epa eta hM
 have hC : Hid (∀ W', Kp [] w2 W' → W'.cell? ⟨q4, 0, none⟩ = some (.int .i64 cn) ∧ W'.cell? ⟨q4, 1, none⟩ = some (.int .i64 (M : Int)) ∧ W'.cell? ⟨q4, 2, none⟩ = some (.int .i64 ck) ∧ W'.cell? ⟨q4, 3, none⟩ = some (.slice (some ⟨gt, ft, none⟩) tl.length tc) ∧ W'.cell? ⟨q4, 4, none⟩ = some (.slice (some ⟨g, f, none⟩) pl.length pc) ∧ W'.cell? ⟨q5, 0, none⟩ = some (.int .i64 (i : Int)) ∧ W'.cell? ⟨q5, 1, none⟩ = some (.int .i64 ((k : Nat) : Int)) ∧ W'.cell? ⟨gt, ft + t * 2, none⟩ = some (.string T1.nm) ∧ W'.cell? ⟨gt, ft + t * 2 + 1, none⟩ = some (.slice T1.a T1.l.length T1.c) ∧ W'.cell? ⟨g, f + i * 6, none⟩ = some (.string P1.nm) ∧ W'.cell? ⟨g, f + i * 6 + 1, none⟩ = some (.int .i64 (t : Int)) ∧ W'.cell? ⟨g, f + i * 6 + 2, none⟩ = some (.slice P1.ca P1.cl.length P1.cc) ∧ W'.cell? ⟨g, f + i * 6 + 3, none⟩ = some (.slice P1.sa P1.sl.length P1.sc) ∧ W'.cell? ⟨g, f + i * 6 + 4, none⟩ = some (.int .i64 P1.by_) ∧ W'.cell? ⟨g, f + i * 6 + 5, none⟩ = some (.int .i64 P1.sh) ∧ W'.cell? ⟨g, f + k * 6, none⟩ = some (.string P2.nm) ∧ W'.cell? ⟨g, f + k * 6 + 1, none⟩ = some (.int .i64 P2.tb) ∧ W'.cell? ⟨g, f + k * 6 + 2, none⟩ = some (.slice P2.ca P2.cl.length P2.cc) ∧ W'.cell? ⟨g, f + k * 6 + 3, none⟩ = some (.slice P2.sa P2.sl.length P2.sc) ∧ W'.cell? ⟨g, f + k * 6 + 4, none⟩ = some (.int .i64 P2.by_) ∧ W'.cell? ⟨g, f + k * 6 + 5, none⟩ = some (.int .i64 P2.sh)) := hid (fun W' q => by
  have h1 := HB.out.1.kept q; have h2 := HB.out.2.kept q
  have kq := K2.out.trans q (by simp)
  exact ⟨h1.get 0 _ rfl, h1.get 1 _ rfl, h1.get 2 _ rfl, h1.get 3 _ rfl, h1.get 4 _ rfl, h2.get 0 _ rfl, h2.get 1 _ rfl, kpAt kq t0, kpAt kq t1, kpAt kq x0, kpAt kq x1, kpAt kq x2, kpAt kq x3, kpAt kq x4, kpAt kq x5, kpAt kq y0, kpAt kq y1, kpAt kq y2, kpAt kq y3, kpAt kq y4, kpAt kq y5⟩)
 have hpt' := hid hpt
 have H0 := hid (GaF.nil w2)
 obtain ⟨M2, hM2e⟩ : ∃ M2, Hid (M2 = 2 * M) := ⟨_, hid rfl⟩
 have w2M : IntKind.i64.wrap ((2 : Int) * (M : Int)) = (M2 : Int) := by rw [IntKind.wrap_i64]; have := hM2e.out; omega
 clear x0 x1 x2 x3 x4 x5 t0 t1 b1 b2 b12 k1 k2 hc hs hl hw htw z1 hpt y0 y1 y2 y3 y4 y5 hfull;go_enter Tryz.func21, Tryz.ntmps21
 go_upto_block 0 with fail
 go_cut [9, 10] from 26 to 89 (fun v9 v10 wc => ∃ (b : Option Addr) (cb : Nat) (F : List Vr) (d : Option Addr) (cd : Nat) (G : List Vr), v9 = .slice b F.length cb ∧ v10 = .slice d G.length cd ∧ Hid (F = seenA ep (L.take M) ∧ G = seenA ep ((L.drop M).take M)) ∧ Hid (GaF w2 b cb F d cd G wc))
 case first =>
  go_wp2_with fail;go_loopw [9, 10, 11] (fun v9 v10 iv wr => ∃ (j : Nat) (b : Option Addr) (cb : Nat) (F : List Vr) (d : Option Addr) (cd : Nat) (G : List Vr), (j ≤ L.length ∧ j ≤ 2 * M) ∧ iv = .int .i64 (j : Int) ∧ v9 = .slice b F.length cb ∧ v10 = .slice d G.length cd ∧ Hid (F = gF ep M L j ∧ G = gG ep M L j) ∧ Hid (GaF w2 b cb F d cd G wr)) (fun _ _ iv _ => L.length - (intOf iv).toNat)
  case atStart => exact ⟨0, none, 0, [], none, 0, [], ⟨Nat.zero_le _, Nat.zero_le _⟩, rfl, rfl, rfl, hid ⟨by simp [gF, seenA], by simp [gG, seenA]⟩, H0⟩
  case round =>
   obtain ⟨j, b, cb, F, d, cd, G, ⟨hj1, hj2⟩, rfl, rfl, rfl, hfg, H⟩ := hrel;clear H0;have kpr := H.out.kp
   obtain ⟨o0, o1, o2, o3, o4, o5, o6, _⟩ := hC.out wr kpr
   by_cases hjl : j < L.length
   ·have i5 : (j : Int) < (L.length : Int) := by omega
    have i6 : (0 : Int) ≤ (j : Int) := by omega
    have i7 : (j : Int) + 1 ≤ 9223372036854775807 := by omega
    by_cases hj2M : j < 2 * M
    ·have d8 : decide ((j : Int) < (M2 : Int)) = true := by have := hM2e.out; simp; omega
     have d8n : (j : Int) < (M2 : Int) := by have := hM2e.out; omega
     have hlc0 : Hid (∀ W', Kp [] w2 W' → ∃ g0 o0, a = some ⟨g0, o0, none⟩ ∧ W'.cell? ⟨g0, o0 + j, none⟩ = some (.slice L[j].a L[j].l.length L[j].c)) := hid (fun W' q => vlAt (HS.out.keptNew (K2.out.trans q (by simp))) (by simp [hjl]))
     obtain ⟨g0, f0, ea0, gl0⟩ := hlc0.out wr kpr
     have hlc : Hid (∀ W', Kp [] w2 W' → W'.cell? ⟨g0, f0 + j, none⟩ = some (.slice L[j].a L[j].l.length L[j].c)) := hid (fun W' q => by
      obtain ⟨g4, o4, e4, z0⟩ := hlc0.out W' q;rw [ea0] at e4
      cases e4
      exact z0)
     have hxl := hid (HL.out L[j] (List.getElem_mem hjl))
     have hst := sumVl_take hjl
     obtain ⟨x, hx⟩ : ∃ x, Hid (L[j] = x) := ⟨_, hid rfl⟩
     rw [hx.out] at hlc hxl hst gl0;obtain ⟨va, vc, vl⟩ := x;dsimp only at hlc hst gl0;have hvl : vl.length ≤ 1048576 := by omega
     clear hlc0 hst;subst ea0
     by_cases hjm : j < M
     ·have HE : Hid (∀ F G, (F = gF ep M L j ++ (vl.take vl.length).filter (seenF ep) ∧ G = gG ep M L j) → F = gF ep M L (j + 1) ∧ G = gG ep M L (j + 1)) := hid (fun F G h => by
       rw [List.take_length] at h;exact ⟨h.1.trans (by rw [gF_lo hjl hjm, hx.out]), h.2.trans (by rw [gG_lo (by omega), gG_lo (by omega)])⟩)
      have hI0 : Hid (F = gF ep M L j ++ (vl.take 0).filter (seenF ep) ∧ G = gG ep M L j) := hid (by simpa using hfg.out)
      have d9 : decide ((j : Int) < (M : Int)) = true := by simp; omega
      clear hfg hx;go_wp2_with fail;go_loopw [9, 10, 12] (fun v9 v10 iv wr => ∃ (k : Nat) (b : Option Addr) (cb : Nat) (F : List Vr) (d : Option Addr) (cd : Nat) (G : List Vr), k ≤ vl.length ∧ iv = .int .i64 (k : Int) ∧ v9 = .slice b F.length cb ∧ v10 = .slice d G.length cd ∧ Hid (F = gF ep M L j ++ (vl.take k).filter (seenF ep) ∧ G = gG ep M L j) ∧ Hid (GaF w2 b cb F d cd G wr)) (fun _ _ iv _ => vl.length - (intOf iv).toNat)
      case atStart => exact ⟨0, b, cb, F, d, cd, G, Nat.zero_le _, rfl, rfl, rfl, hI0, H⟩
      case round =>
       clear hI0 H gl0;obtain ⟨k, b, cb, F, d, cd, G, hk, rfl, rfl, rfl, hfg, H⟩ := hrel;have kpr := H.out.kp
       have gl0 := hlc.out wr kpr
       obtain ⟨o0, o1, o2, o3, o4, o5, o6, _⟩ := hC.out wr kpr
       by_cases hkt : k < vl.length
       ·have hft := hid (filt_take (ep := ep) hkt)
        have hFl : F.length ≤ 2097152 := by
         have h1 := gF_len ep M L j
         have h2 : ((vl.take k).filter (seenF ep)).length ≤ 1048576 := Nat.le_trans (List.length_filter_le _ _) (by rw [List.length_take]; omega)
         rw [hfg.out.1];try simp only [List.length_append]
         omega
        have hGl : G.length ≤ 2097152 := by
         have h1 := gG_len ep M L j
         have h2 : ((vl.take k).filter (seenF ep)).length ≤ 1048576 := Nat.le_trans (List.length_filter_le _ _) (by rw [List.length_take]; omega)
         rw [hfg.out.2];try simp only [List.length_append, List.length_nil]
         omega
        have hvc : Hid (∀ W', Kp [] w2 W' → ∃ gv ov, va = some ⟨gv, ov, none⟩ ∧ W'.cell? ⟨gv, ov + k * 4, none⟩ = some (.int .u64 vl[k].e) ∧ W'.cell? ⟨gv, ov + k * 4 + 1, none⟩ = some (.int .u32 vl[k].n) ∧ W'.cell? ⟨gv, ov + k * 4 + 2, none⟩ = some (.slice vl[k].a vl[k].l.length vl[k].c) ∧ W'.cell? ⟨gv, ov + k * 4 + 3, none⟩ = some (.int .u64 vl[k].d)) := hid (fun W' q => vrAt (hxl.out.see.keptNew (K2.out.trans q (by simp))) (by simp [hkt]))
        obtain ⟨gv, ov, ea3, x0, x1, x2, x3⟩ := hvc.out wr kpr
        have hvc2 : Hid (∀ W', Kp [] w2 W' → W'.cell? ⟨gv, ov + k * 4, none⟩ = some (.int .u64 vl[k].e) ∧ W'.cell? ⟨gv, ov + k * 4 + 1, none⟩ = some (.int .u32 vl[k].n) ∧ W'.cell? ⟨gv, ov + k * 4 + 2, none⟩ = some (.slice vl[k].a vl[k].l.length vl[k].c) ∧ W'.cell? ⟨gv, ov + k * 4 + 3, none⟩ = some (.int .u64 vl[k].d)) := hid (fun W' q => by
         obtain ⟨g4, o4, e4, z0, z1, z2, z3⟩ := hvc.out W' q;rw [ea3] at e4
         cases e4
         exact ⟨z0, z1, z2, z3⟩)
        obtain ⟨x, hx⟩ : ∃ x, Hid (vl[k] = x) := ⟨_, hid rfl⟩
        rw [hx.out] at x0 x1 x2 x3 hft hvc2;have cS := hid (rSeen x ep wr)
        obtain ⟨sb, hsb⟩ : ∃ sb, Hid (seenF ep x = sb) := ⟨_, hid rfl⟩
        rw [hsb.out] at cS hft;obtain ⟨xe, xn, xa, xc, xl, xd⟩ := x;simp only [Vr.v] at cS;dsimp only at x0 x1 x2 x3 hvc2;have k1 : (0 : Int) ≤ (k : Int) := by omega
        have k2 : (k : Int) < (vl.length : Int) := by omega
        have k3 : (k : Int) + 1 ≤ 9223372036854775807 := by omega
        rw [ea3] at gl0;clear hvc;go_wp2_with fail;refine cS.out.mono ?_;rintro e wd ⟨rfl, kd⟩;have kpd := kpr.trans kd (by simp)
        have gl0' := hlc.out wd kpd
        rw [ea3] at gl0';obtain ⟨x0', x1', x2', x3'⟩ := hvc2.out wd kpd;obtain ⟨o0', o1', o2', o3', o4', o5', o6', _⟩ := hC.out wd kpd;clear gl0 x0 x1 x2 x3 o0 o1 o2 o3 o4 o5 o6 cS
        cases sb with
        | true =>
         rw [if_pos rfl] at hft;obtain ⟨a4, c4, W4, hrun, hga⟩ := (H.out.kept kd).add ⟨xe, xn, xa, xc, xl, xd⟩ (by omega)
         dsimp only at hrun
         have hI1 : Hid (F ++ [(⟨xe, xn, xa, xc, xl, xd⟩ : Vr)] = gF ep M L j ++ (vl.take (k + 1)).filter (seenF ep) ∧ G = gG ep M L j) := hid (by
          rw [hft.out];exact ⟨by rw [hfg.out.1]; rw [List.append_assoc], by rw [hfg.out.2]⟩)
         obtain ⟨m4, hm4⟩ : ∃ m4, Hid (F ++ [(⟨xe, xn, xa, xc, xl, xd⟩ : Vr)] = m4) := ⟨_, hid rfl⟩
         rw [hm4.out] at hrun hga hI1;have HG : Hid (GaF w2 a4 c4 m4 d cd G W4) := hid hga
         clear hga hfg kd;go_wp2_with (first | (refine wpAppRunY rfl _ _ 55 55 rfl _ _ _ rfl rfl hrun ?_) | fail)
         go_roundw
         case rel => exact ⟨k + 1, a4, c4, m4, d, cd, G, by omega, by go_num, rfl, rfl, hI1, HG⟩
         case measure => simp [intOf]; omega
        | false =>
         rw [if_neg (by simp), List.append_nil] at hft
         have hI1 : Hid (F = gF ep M L j ++ (vl.take (k + 1)).filter (seenF ep) ∧ G = gG ep M L j) := hid (by rw [hft.out]; exact hfg.out)
         have HG := hid (H.out.kept kd)
         clear kd hfg;go_wp2_with fail;go_roundw
         case rel => exact ⟨k + 1, b, cb, F, d, cd, G, by omega, by go_num, rfl, rfl, hI1, HG⟩
         case measure => simp [intOf]; omega
       ·have hke : k = vl.length := by omega
        have hI1 := hid (HE.out F G (by rw [← hke]; exact hfg.out))
        have dk1 : ¬ (k : Int) < (vl.length : Int) := by omega
        have dk2 : decide ((k : Int) < (vl.length : Int)) = false := by simp; omega
        clear hfg hke;go_wp2_with fail;go_roundw
        case rel => exact ⟨j + 1, b, cb, F, d, cd, G, ⟨by omega, by omega⟩, by go_num, rfl, rfl, hI1, H⟩
        case measure => simp [intOf]; omega
     ·skip
      have HE : Hid (∀ F G, (F = gF ep M L j ∧ G = gG ep M L j ++ (vl.take vl.length).filter (seenF ep)) → F = gF ep M L (j + 1) ∧ G = gG ep M L (j + 1)) := hid (fun F G h => by
       rw [List.take_length] at h;exact ⟨h.1.trans (by rw [gF_hi (Nat.not_lt.1 hjm)]), h.2.trans (by rw [gG_hi hjl (Nat.not_lt.1 hjm), hx.out])⟩)
      have hI0 : Hid (F = gF ep M L j ∧ G = gG ep M L j ++ (vl.take 0).filter (seenF ep)) := hid (by simpa using hfg.out)
      have d9 : decide ((j : Int) < (M : Int)) = false := by simp; omega
      clear hfg hx;go_wp2_with fail;go_loopw [9, 10, 12] (fun v9 v10 iv wr => ∃ (k : Nat) (b : Option Addr) (cb : Nat) (F : List Vr) (d : Option Addr) (cd : Nat) (G : List Vr), k ≤ vl.length ∧ iv = .int .i64 (k : Int) ∧ v9 = .slice b F.length cb ∧ v10 = .slice d G.length cd ∧ Hid (F = gF ep M L j ∧ G = gG ep M L j ++ (vl.take k).filter (seenF ep)) ∧ Hid (GaF w2 b cb F d cd G wr)) (fun _ _ iv _ => vl.length - (intOf iv).toNat)
      case atStart => exact ⟨0, b, cb, F, d, cd, G, Nat.zero_le _, rfl, rfl, rfl, hI0, H⟩
      case round =>
       clear hI0 H gl0;obtain ⟨k, b, cb, F, d, cd, G, hk, rfl, rfl, rfl, hfg, H⟩ := hrel;have kpr := H.out.kp
       have gl0 := hlc.out wr kpr
       obtain ⟨o0, o1, o2, o3, o4, o5, o6, _⟩ := hC.out wr kpr
       by_cases hkt : k < vl.length
       ·have hft := hid (filt_take (ep := ep) hkt)
        have hFl : F.length ≤ 2097152 := by
         have h1 := gF_len ep M L j
         have h2 : ((vl.take k).filter (seenF ep)).length ≤ 1048576 := Nat.le_trans (List.length_filter_le _ _) (by rw [List.length_take]; omega)
         rw [hfg.out.1];try simp only [List.length_append]
         omega
        have hGl : G.length ≤ 2097152 := by
         have h1 := gG_len ep M L j
         have h2 : ((vl.take k).filter (seenF ep)).length ≤ 1048576 := Nat.le_trans (List.length_filter_le _ _) (by rw [List.length_take]; omega)
         rw [hfg.out.2];try simp only [List.length_append, List.length_nil]
         omega
        have hvc : Hid (∀ W', Kp [] w2 W' → ∃ gv ov, va = some ⟨gv, ov, none⟩ ∧ W'.cell? ⟨gv, ov + k * 4, none⟩ = some (.int .u64 vl[k].e) ∧ W'.cell? ⟨gv, ov + k * 4 + 1, none⟩ = some (.int .u32 vl[k].n) ∧ W'.cell? ⟨gv, ov + k * 4 + 2, none⟩ = some (.slice vl[k].a vl[k].l.length vl[k].c) ∧ W'.cell? ⟨gv, ov + k * 4 + 3, none⟩ = some (.int .u64 vl[k].d)) := hid (fun W' q => vrAt (hxl.out.see.keptNew (K2.out.trans q (by simp))) (by simp [hkt]))
        obtain ⟨gv, ov, ea3, x0, x1, x2, x3⟩ := hvc.out wr kpr
        have hvc2 : Hid (∀ W', Kp [] w2 W' → W'.cell? ⟨gv, ov + k * 4, none⟩ = some (.int .u64 vl[k].e) ∧ W'.cell? ⟨gv, ov + k * 4 + 1, none⟩ = some (.int .u32 vl[k].n) ∧ W'.cell? ⟨gv, ov + k * 4 + 2, none⟩ = some (.slice vl[k].a vl[k].l.length vl[k].c) ∧ W'.cell? ⟨gv, ov + k * 4 + 3, none⟩ = some (.int .u64 vl[k].d)) := hid (fun W' q => by
         obtain ⟨g4, o4, e4, z0, z1, z2, z3⟩ := hvc.out W' q;rw [ea3] at e4
         cases e4
         exact ⟨z0, z1, z2, z3⟩)
        obtain ⟨x, hx⟩ : ∃ x, Hid (vl[k] = x) := ⟨_, hid rfl⟩
        rw [hx.out] at x0 x1 x2 x3 hft hvc2;have cS := hid (rSeen x ep wr)
        obtain ⟨sb, hsb⟩ : ∃ sb, Hid (seenF ep x = sb) := ⟨_, hid rfl⟩
        rw [hsb.out] at cS hft;obtain ⟨xe, xn, xa, xc, xl, xd⟩ := x;simp only [Vr.v] at cS;dsimp only at x0 x1 x2 x3 hvc2;have k1 : (0 : Int) ≤ (k : Int) := by omega
        have k2 : (k : Int) < (vl.length : Int) := by omega
        have k3 : (k : Int) + 1 ≤ 9223372036854775807 := by omega
        rw [ea3] at gl0;clear hvc;go_wp2_with fail;refine cS.out.mono ?_;rintro e wd ⟨rfl, kd⟩;have kpd := kpr.trans kd (by simp)
        have gl0' := hlc.out wd kpd
        rw [ea3] at gl0';obtain ⟨x0', x1', x2', x3'⟩ := hvc2.out wd kpd;obtain ⟨o0', o1', o2', o3', o4', o5', o6', _⟩ := hC.out wd kpd;clear gl0 x0 x1 x2 x3 o0 o1 o2 o3 o4 o5 o6 cS
        cases sb with
        | true =>
         rw [if_pos rfl] at hft;obtain ⟨a4, c4, W4, hrun, hga⟩ := (H.out.kept kd).swap.add ⟨xe, xn, xa, xc, xl, xd⟩ (by omega)
         dsimp only at hrun
         have hI1 : Hid (F = gF ep M L j ∧ G ++ [(⟨xe, xn, xa, xc, xl, xd⟩ : Vr)] = gG ep M L j ++ (vl.take (k + 1)).filter (seenF ep)) := hid (by
          rw [hft.out];exact ⟨by rw [hfg.out.1], by rw [hfg.out.2]; rw [List.append_assoc]⟩)
         obtain ⟨m4, hm4⟩ : ∃ m4, Hid (G ++ [(⟨xe, xn, xa, xc, xl, xd⟩ : Vr)] = m4) := ⟨_, hid rfl⟩
         rw [hm4.out] at hrun hga hI1;have HG : Hid (GaF w2 b cb F a4 c4 m4 W4) := hid hga.swap
         clear hga hfg kd;go_wp2_with (first | (refine wpAppRunY rfl _ _ 55 55 rfl _ _ _ rfl rfl hrun ?_) | fail)
         go_roundw
         case rel => exact ⟨k + 1, b, cb, F, a4, c4, m4, by omega, by go_num, rfl, rfl, hI1, HG⟩
         case measure => simp [intOf]; omega
        | false =>
         rw [if_neg (by simp), List.append_nil] at hft
         have hI1 : Hid (F = gF ep M L j ∧ G = gG ep M L j ++ (vl.take (k + 1)).filter (seenF ep)) := hid (by rw [hft.out]; exact hfg.out)
         have HG := hid (H.out.kept kd)
         clear kd hfg;go_wp2_with fail;go_roundw
         case rel => exact ⟨k + 1, b, cb, F, d, cd, G, by omega, by go_num, rfl, rfl, hI1, HG⟩
         case measure => simp [intOf]; omega
       ·have hke : k = vl.length := by omega
        have hI1 := hid (HE.out F G (by rw [← hke]; exact hfg.out))
        have dk1 : ¬ (k : Int) < (vl.length : Int) := by omega
        have dk2 : decide ((k : Int) < (vl.length : Int)) = false := by simp; omega
        clear hfg hke;go_wp2_with fail;go_roundw
        case rel => exact ⟨j + 1, b, cb, F, d, cd, G, ⟨by omega, by omega⟩, by go_num, rfl, rfl, hI1, H⟩
        case measure => simp [intOf]; omega
    ·have d8 : decide ((j : Int) < (M2 : Int)) = false := by have := hM2e.out; simp; omega
     have d8n : ¬ (j : Int) < (M2 : Int) := by have := hM2e.out; omega
     have HX : Hid (F = seenA ep (L.take M) ∧ G = seenA ep ((L.drop M).take M)) := hid ⟨hfg.out.1.trans (gF_end (by omega)), hfg.out.2.trans (gG_end (by omega))⟩
     clear hfg;go_wp2_with fail;go_meet;exact ⟨b, cb, F, d, cd, G, rfl, rfl, HX, H⟩
   ·have i5 : ¬ (j : Int) < (L.length : Int) := by omega
    have i5d : decide ((j : Int) < (L.length : Int)) = false := by simp; omega
    have HX : Hid (F = seenA ep (L.take M) ∧ G = seenA ep ((L.drop M).take M)) := hid ⟨hfg.out.1.trans (gF_end (by omega)), hfg.out.2.trans (gG_end (by omega))⟩
    clear hfg;go_wp2_with fail;go_meet;exact ⟨b, cb, F, d, cd, G, rfl, rfl, HX, H⟩
 case rest =>
  obtain ⟨b, cb, F, d, cd, G, rfl, rfl, hfg, H⟩ := hcut;have kpc := hid H.out.kp
  have hS15 : Hid (∀ W', Kp [] wc W' → W'.cell? ⟨q4, 3, none⟩ = some (.slice (some ⟨gt, ft, none⟩) tl.length tc) ∧ W'.cell? ⟨q4, 4, none⟩ = some (.slice (some ⟨g, f, none⟩) pl.length pc) ∧ W'.cell? ⟨q5, 0, none⟩ = some (.int .i64 (i : Int)) ∧ W'.cell? ⟨gt, ft + t * 2, none⟩ = some (.string T1.nm) ∧ W'.cell? ⟨gt, ft + t * 2 + 1, none⟩ = some (.slice T1.a T1.l.length T1.c) ∧ W'.cell? ⟨g, f + i * 6 + 1, none⟩ = some (.int .i64 (t : Int))) := hid (fun W' q => by
   have h := hC.out W' (kpc.out.trans q (by simp))
   exact ⟨h.2.2.2.1, h.2.2.2.2.1, h.2.2.2.2.2.1, h.2.2.2.2.2.2.2.1, h.2.2.2.2.2.2.2.2.1, h.2.2.2.2.2.2.2.2.2.2.1⟩)
  go_wp2_with fail;refine wp_noPanicY ?_;refine wp_region_held_drew (S := fun W' => W'.cell? ⟨q4, 3, none⟩ = some (.slice (some ⟨gt, ft, none⟩) tl.length tc) ∧ W'.cell? ⟨q4, 4, none⟩ = some (.slice (some ⟨g, f, none⟩) pl.length pc) ∧ W'.cell? ⟨q5, 0, none⟩ = some (.int .i64 (i : Int)) ∧ W'.cell? ⟨gt, ft + t * 2, none⟩ = some (.string T1.nm) ∧ W'.cell? ⟨gt, ft + t * 2 + 1, none⟩ = some (.slice T1.a T1.l.length T1.c) ∧ W'.cell? ⟨g, f + i * 6 + 1, none⟩ = some (.int .i64 (t : Int))) (by kernel_rfl) (hS15.out _ (Kp.refl [] wc).drew) (fun hHeld => ?_)
  have KD : Hid (Kp [] wc wc.drew) := hid (Kp.refl _ _).drew
  generalize wc.drew = wd at *
  obtain ⟨q15, W1, W2, eq15, eW1, b1, eW2, b2, kW1, kW2⟩ := boxTbF wd T1;refine tkH ?_ 0 rfl (by kernel_rfl) (fun _ _ _ h => by cases h.1) (by rfl) ?_ ‹_› ?_;rotate_left
  ·intro w h; (try dsimp only at h); go_simp <;> with_reducible rfl
  (try simp only [Act.put, lz]);refine tkH ?_ 1 rfl (by kernel_rfl) (fun _ _ _ h => by cases h.1) (by rfl) ?_ ‹_› ?_;rotate_left
  ·intro w h; (try dsimp only at h); go_simp <;> with_reducible rfl
  (try simp only [Act.put, lz]);refine tkH ?_ 2 rfl (by kernel_rfl) (fun _ _ _ h => by cases h.1) (by rfl) ?_ ‹_› ?_;rotate_left
  ·intro w h; (try dsimp only at h); go_simp <;> with_reducible rfl
  (try simp only [Act.put, lz]);refine tkH ?_ 3 rfl (by kernel_rfl) (fun _ _ _ h => by cases h.1) (by rfl) ?_ ‹_› ?_;rotate_left
  ·intro w h; (try dsimp only at h); go_simp <;> with_reducible rfl
  (try simp only [Act.put, lz]);refine tkH ?_ 4 rfl (by kernel_rfl) (fun _ _ _ h => by cases h.1) (by rfl) ?_ ‹_› ?_;rotate_left
  ·intro w h; (try dsimp only at h); go_simp <;> with_reducible rfl
  (try simp only [Act.put, lz]);refine tkH ?_ 5 rfl (by kernel_rfl) (fun _ _ _ h => by cases h.1) (by rfl) ?_ ‹_› ?_;rotate_left
  ·intro w h; (try dsimp only at h); go_simp <;> with_reducible rfl
  (try simp only [Act.put, lz]);refine tkH ?_ 6 rfl (by kernel_rfl) (fun _ _ _ h => by cases h.1) (by rfl) ?_ ‹_› ?_;rotate_left
  ·intro w h; (try dsimp only at h); go_simp <;> with_reducible rfl
  (try simp only [Act.put, lz]);refine tkH ?_ 7 rfl (by kernel_rfl) (fun _ _ _ h => by cases h.1) (by rfl) ?_ ‹_› ?_;rotate_left
  ·intro w h; (try dsimp only at h); go_simp <;> with_reducible rfl
  (try simp only [Act.put, lz]);refine tkH ?_ 8 rfl (by kernel_rfl) (fun _ _ _ h => by cases h.1) (by rfl) ?_ ‹_› ?_;rotate_left
  ·intro w h; (try dsimp only at h); go_simp <;> with_reducible rfl
  (try simp only [Act.put, lz]);refine tkH ?_ 9 rfl (by kernel_rfl) (fun _ _ _ h => by cases h.1) (by rfl) ?_ ‹_› ?_;rotate_left
  ·intro w h; (try dsimp only at h); go_simp <;> with_reducible rfl
  (try simp only [Act.put, lz]);refine tkH ?_ 10 rfl (by kernel_rfl) (fun _ _ _ h => by cases h.1) (by rfl) ?_ ‹_› ?_;rotate_left
  ·intro w h; (try dsimp only at h); go_simp <;> with_reducible rfl
  (try simp only [Act.put, lz]);refine rdH 11 (by kernel_rfl) rfl fun K hK => ?_
  go_simp;(try go_wp2_with fail);refine hK.out _ _ (hS15.out _ (KD.out.trans kW1 (by simp))) (fun hHeld => ?_)
  clear hK K;(try simp only [Act.put, lz]);have m0 := b1.get 0 _ rfl; have m1 := b1.get 1 _ rfl
  have f0 := b1.free 0; have f1 := b1.free 1
  refine rdH 12 (by kernel_rfl) rfl fun K hK => ?_
  go_simp;(try go_wp2_with fail);refine hK.out _ _ (hS15.out _ (KD.out.trans kW2 (by simp))) (fun hHeld => ?_)
  clear hK K;(try simp only [Act.put, lz]);refine wpAnyH_done (by kernel_rfl) ⟨rfl, ?_⟩ _
  have KW := hid (KD.out.trans kW2 (by simp))
  have HG := hid (H.out.kept KW.out)
  have HB15 := hid b2
  clear hHeld m0 m1 f0 f1 b1 b2 kW1 kW2 eW1 eW2 H hS15;have kp2 := hid HG.out.kp
  have hD : Hid (∀ W', Kp [] W2 W' → W'.cell? ⟨q4, 0, none⟩ = some (.int .i64 cn) ∧ W'.cell? ⟨q4, 1, none⟩ = some (.int .i64 (M : Int)) ∧ W'.cell? ⟨q4, 2, none⟩ = some (.int .i64 ck) ∧ W'.cell? ⟨q4, 3, none⟩ = some (.slice (some ⟨gt, ft, none⟩) tl.length tc) ∧ W'.cell? ⟨q4, 4, none⟩ = some (.slice (some ⟨g, f, none⟩) pl.length pc) ∧ W'.cell? ⟨q5, 0, none⟩ = some (.int .i64 (i : Int)) ∧ W'.cell? ⟨q5, 1, none⟩ = some (.int .i64 ((k : Nat) : Int)) ∧ W'.cell? ⟨gt, ft + t * 2, none⟩ = some (.string T1.nm) ∧ W'.cell? ⟨gt, ft + t * 2 + 1, none⟩ = some (.slice T1.a T1.l.length T1.c) ∧ W'.cell? ⟨g, f + i * 6, none⟩ = some (.string P1.nm) ∧ W'.cell? ⟨g, f + i * 6 + 1, none⟩ = some (.int .i64 (t : Int)) ∧ W'.cell? ⟨g, f + i * 6 + 2, none⟩ = some (.slice P1.ca P1.cl.length P1.cc) ∧ W'.cell? ⟨g, f + i * 6 + 3, none⟩ = some (.slice P1.sa P1.sl.length P1.sc) ∧ W'.cell? ⟨g, f + i * 6 + 4, none⟩ = some (.int .i64 P1.by_) ∧ W'.cell? ⟨g, f + i * 6 + 5, none⟩ = some (.int .i64 P1.sh) ∧ W'.cell? ⟨g, f + k * 6, none⟩ = some (.string P2.nm) ∧ W'.cell? ⟨g, f + k * 6 + 1, none⟩ = some (.int .i64 P2.tb) ∧ W'.cell? ⟨g, f + k * 6 + 2, none⟩ = some (.slice P2.ca P2.cl.length P2.cc) ∧ W'.cell? ⟨g, f + k * 6 + 3, none⟩ = some (.slice P2.sa P2.sl.length P2.sc) ∧ W'.cell? ⟨g, f + k * 6 + 4, none⟩ = some (.int .i64 P2.by_) ∧ W'.cell? ⟨g, f + k * 6 + 5, none⟩ = some (.int .i64 P2.sh)) := hid (fun W' q => hC.out W' (kp2.out.trans q (by simp)))
  have hT : Hid (∀ W', Kp [] W2 W' → W'.cell? ⟨q15, 0, none⟩ = some (.string T1.nm) ∧ W'.cell? ⟨q15, 1, none⟩ = some (.slice T1.a T1.l.length T1.c)) := hid (fun W' q => ⟨(HB15.out.kept q).get 0 _ rfl, (HB15.out.kept q).get 1 _ rfl⟩)
  have sF : Hid (VrE.See W2 b F) := hid (by
   obtain ⟨_, _, e, hs, _⟩ := HG.out.rf.see;rw [← (Value.slice.inj e).1] at hs;exact hs)
  have sG : Hid (VrE.See W2 d G) := hid (by
   obtain ⟨_, _, e, hs, _⟩ := HG.out.rg.see;rw [← (Value.slice.inj e).1] at hs;exact hs)
  have lF : Hid (∀ x ∈ F, ∀ W', Kp [] W2 W' → Vr.lies W' x) := hid (fun x hx W' q => by
   rw [hfg.out.1] at hx;obtain ⟨y, hy, hxy⟩ := seenA_in hx;exact ((HL.out y (List.mem_of_mem_take hy)).each x hxy).kept ((K2.out.trans kp2.out (by simp)).trans q (by simp)))
  have lG : Hid (∀ x ∈ G, ∀ W', Kp [] W2 W' → Vr.lies W' x) := hid (fun x hx W' q => by
   rw [hfg.out.2] at hx;obtain ⟨y, hy, hxy⟩ := seenA_in hx;exact ((HL.out y (List.mem_of_mem_drop (List.mem_of_mem_take hy))).each x hxy).kept ((K2.out.trans kp2.out (by simp)).trans q (by simp)))
  have hFl : F.length ≤ 1048576 := by
   rw [hfg.out.1];exact Nat.le_trans (seenA_len ep _) (Nat.le_trans (sumVl_le_take L M) hsum)
  have hGl : G.length ≤ 1048576 := by
   rw [hfg.out.2];exact Nat.le_trans (seenA_len ep _) (Nat.le_trans (sumVl_le_take _ M) (Nat.le_trans (sumVl_le_drop L M) hsum))
  have H3 : Hid (([] : List Vr).map Vr.pr = ordN (refN P1.cl P2.cl T1.l.length (F.take (0)) G)) := hid (by simp [refN, ordN])
  have H3b : Hid (VrE.Row W2 (.slice none ([] : List Vr).length 0) [] ∧ (∀ x ∈ ([] : List Vr), Vr.lies W2 x) ∧ Kp [] W2 W2) := hid ⟨.inl ⟨rfl, rfl⟩, by simp, Kp.refl _ _⟩
  go_wp2_with fail;go_loopw [14, 16] (fun v14 iv wr => ∃ (j : Nat) (oa : Option Addr) (oc : Nat) (O : List Vr), j ≤ F.length ∧ iv = .int .i64 (j : Int) ∧ v14 = .slice oa O.length oc ∧ Hid (O.map Vr.pr = ordN (refN P1.cl P2.cl T1.l.length (F.take (j)) G)) ∧ Hid (VrE.Row wr (.slice oa O.length oc) O ∧ (∀ x ∈ O, Vr.lies wr x) ∧ Kp [] W2 wr)) (fun _ iv _ => F.length - (intOf iv).toNat)
  case atStart => exact ⟨0, none, 0, [], Nat.zero_le _, rfl, rfl, H3, H3b⟩
  case round =>
   clear H3 H3b;obtain ⟨j, oa, oc, O, hj, rfl, rfl, hO, HO⟩ := hrel
   by_cases hlt : j < F.length
   ·skip
    obtain ⟨wo, hwo⟩ : ∃ x, x = wr := ⟨wr, rfl⟩
    subst hwo;obtain ⟨gb, ob, eb, x0, x1, x2, x3⟩ := vrAt (sF.out.keptNew HO.out.2.2) (j := j) (x := F[j]) (by simp [hlt])
    have hx0 : Hid (∀ W', Kp [] W2 W' → W'.cell? ⟨gb, ob + j * 4, none⟩ = some (.int .u64 F[j].e) ∧ W'.cell? ⟨gb, ob + j * 4 + 1, none⟩ = some (.int .u32 F[j].n) ∧ W'.cell? ⟨gb, ob + j * 4 + 2, none⟩ = some (.slice F[j].a F[j].l.length F[j].c) ∧ W'.cell? ⟨gb, ob + j * 4 + 3, none⟩ = some (.int .u64 F[j].d)) := hid (fun W' q => by
     obtain ⟨g4, o4, e4, z0, z1, z2, z3⟩ := vrAt (sF.out.keptNew q) (j := j) (x := F[j]) (by simp [hlt])
     rw [eb] at e4
     cases e4
     exact ⟨z0, z1, z2, z3⟩)
    have hxl := hid (lF.out F[j] (List.getElem_mem hlt))
    have hsn : Hid (refN P1.cl P2.cl T1.l.length (F.take (j + 1)) G = refN P1.cl P2.cl T1.l.length (F.take (j)) G ++ ((G.find? fun b => decide ((b.e, b.n) = (F[j].e, F[j].n))).map fun b => (F[j].e, F[j].n, rowN P1.cl P2.cl T1.l.length F[j].l b.l, 0)).toList) := hid (by
     rw [List.take_succ_eq_append_getElem hlt];unfold refN; rw [List.filterMap_append]; congr 1)
    obtain ⟨x, hx⟩ : ∃ x, Hid (F[j] = x) := ⟨_, hid rfl⟩
    rw [hx.out] at hx0 hxl hsn;obtain ⟨xe, xn, xa, xc, xl, xd⟩ := x;dsimp only at hx0 hsn;have j1' : (0 : Int) ≤ (j : Int) := by omega
    have j2' : (j : Int) < (F.length : Int) := by omega
    have j3' : (j : Int) + 1 ≤ 9223372036854775807 := by omega
    obtain ⟨OT, hOT⟩ : ∃ OT, Hid (othF G xe xn 0 = OT) := ⟨_, hid rfl⟩
    have g0 : (-9223372036854775808 : Int) ≤ (G.length : Int) - 1 := by omega
    have g1 : (G.length : Int) - 1 ≤ 9223372036854775807 := by omega
    have gw : IntKind.i64.wrap ((G.length : Int) - 1) = (G.length : Int) - 1 := by rw [IntKind.wrap_i64]; omega
    subst eb;clear x0 x1 x2 x3 hx;go_upto_block 6 with fail
    go_cut [17] from 110 to 125 (fun v17 wx => v17 = .int .i64 OT ∧ Hid (Kp [] wo wx))
    case first =>
     have HOE : Hid (othF G xe xn G.length = -1) := hid (othF_end _ _ _)
     go_wp2_with fail;go_loopw [17, 18] (fun v17 v18 wn => ∃ (kk : Nat) (zz ot : Int), kk ≤ G.length ∧ v17 = .int .i64 ot ∧ v18 = .int .i64 zz ∧ Hid (zz = (kk : Int) - 1 ∧ ot = othF G xe xn kk) ∧ Hid (Kp [] wo wn)) (fun _ v18 _ => (intOf v18 + 1).toNat)
     case atStart => exact ⟨G.length, (G.length : Int) - 1, -1, Nat.le_refl _, rfl, rfl, hid ⟨rfl, HOE.out.symm⟩, hid (Kp.refl _ _)⟩
     case round =>
      clear HOE;obtain ⟨kk, zz, ot, hkk, rfl, rfl, hzz, kn⟩ := hrel
      cases kk with
      | zero =>
       have d1 : decide ((0 : Int) ≤ zz) = false := by have := hzz.out.1; simp; omega
       have d2 : ¬ (0 : Int) ≤ zz := by have := hzz.out.1; omega
       have hot : Hid (ot = OT) := hid (hzz.out.2.trans hOT.out)
       clear hzz;go_wp2_with fail;go_meet;exact ⟨by rw [hot.out], kn⟩
      | succ k =>
       have hzk : zz = (k : Int) := by have := hzz.out.1; omega
       subst hzk;have hkl : k < G.length := by omega
       obtain ⟨gd, od, ed, y0, y1, y2, y3⟩ := vrAt (sG.out.keptNew HO.out.2.2) (j := k) (x := G[k]) (by simp [hkl])
       have hy0 : Hid (∀ W', Kp [] W2 W' → W'.cell? ⟨gd, od + k * 4, none⟩ = some (.int .u64 G[k].e) ∧ W'.cell? ⟨gd, od + k * 4 + 1, none⟩ = some (.int .u32 G[k].n)) := hid (fun W' q => by
        obtain ⟨g4, o4, e4, z0, z1, z2, z3⟩ := vrAt (sG.out.keptNew q) (j := k) (x := G[k]) (by simp [hkl])
        rw [ed] at e4
        cases e4
        exact ⟨z0, z1⟩)
       have hst := hid (othF_step G xe xn k hkl)
       obtain ⟨y, hy⟩ : ∃ y, Hid (G[k] = y) := ⟨_, hid rfl⟩
       rw [hy.out] at hy0 hst;obtain ⟨ye, yn, ya, yc, yl, yd⟩ := y;dsimp only at hy0 hst
       have HC : Hid (∀ W', Kp [] wo W' → W'.cell? ⟨gd, od + k * 4, none⟩ = some (.int .u64 ye) ∧ W'.cell? ⟨gd, od + k * 4 + 1, none⟩ = some (.int .u32 yn) ∧ W'.cell? ⟨gb, ob + j * 4, none⟩ = some (.int .u64 xe) ∧ W'.cell? ⟨gb, ob + j * 4 + 1, none⟩ = some (.int .u32 xn)) := hid (fun W' q => by
        have h1 := hy0.out W' (HO.out.2.2.trans q (by simp))
        have h2 := hx0.out W' (HO.out.2.2.trans q (by simp))
        exact ⟨h1.1, h1.2, h2.1, h2.2.1⟩)
       have k1 : (0 : Int) ≤ (k : Int) := by omega
       have k2 : (k : Int) < (G.length : Int) := by omega
       have d1 : decide ((0 : Int) ≤ (k : Int)) = true := by simp
       have eqs := fun w => eqI ye yn xe xn w
       obtain ⟨D, hD⟩ : ∃ D, Hid (decide ((ye, yn) = (xe, xn)) = D) := ⟨_, hid rfl⟩
       simp only [hD.out] at eqs;have hzw : Hid (IntKind.i64.wrap ((k : Int) - 1) = (k : Int) - 1) := hid (by rw [IntKind.wrap_i64]; omega)
       subst ed;clear y0 y1 y2 y3 hy hy0;go_wp2_with fail;refine wp_noPanicY ?_;refine wp_region_held_drew (S := fun W' => W'.cell? ⟨gd, od + k * 4, none⟩ = some (.int .u64 ye) ∧ W'.cell? ⟨gd, od + k * 4 + 1, none⟩ = some (.int .u32 yn) ∧ W'.cell? ⟨gb, ob + j * 4, none⟩ = some (.int .u64 xe) ∧ W'.cell? ⟨gb, ob + j * 4 + 1, none⟩ = some (.int .u32 xn)) (by kernel_rfl) (HC.out _ kn.out.drew) (fun hHeld => ?_)
       have KD : Hid (Kp [] wo wr.drew) := hid kn.out.drew
       refine tkH ?_ 0 rfl (by kernel_rfl) (fun _ _ _ h => by cases h.1) (by rfl) ?_ ‹_› ?_;rotate_left
       ·intro w h; (try dsimp only at h); go_simp <;> with_reducible rfl
       (try simp only [Act.put, lz]);refine tkH ?_ 1 rfl (by kernel_rfl) (fun _ _ _ h => by cases h.1) (by rfl) ?_ ‹_› ?_;rotate_left
       ·intro w h; (try dsimp only at h); go_simp <;> with_reducible rfl
       (try simp only [Act.put, lz]);refine tkH ?_ 2 rfl (by kernel_rfl) (fun _ _ _ h => by cases h.1) (by rfl) ?_ ‹_› ?_;rotate_left
       ·intro w h; (try dsimp only at h); go_simp <;> with_reducible rfl
       (try simp only [Act.put, lz]);refine tkH ?_ 3 rfl (by kernel_rfl) (fun _ _ _ h => by cases h.1) (by rfl) ?_ ‹_› ?_;rotate_left
       ·intro w h; (try dsimp only at h); go_simp <;> with_reducible rfl
       (try simp only [Act.put, lz]);refine tkH ?_ 4 rfl (by kernel_rfl) (fun _ _ _ h => by cases h.1) (by rfl) ?_ ‹_› ?_;rotate_left
       ·intro w h; (try dsimp only at h); go_simp <;> with_reducible rfl
       (try simp only [Act.put, lz]);refine tkH ?_ 5 rfl (by kernel_rfl) (fun _ _ _ h => by cases h.1) (by rfl) ?_ ‹_› ?_;rotate_left
       ·intro w h; (try dsimp only at h); go_simp <;> with_reducible rfl
       (try simp only [Act.put, lz]);refine tkH ?_ 6 rfl (by kernel_rfl) (fun _ _ _ h => by cases h.1) (by rfl) ?_ ‹_› ?_;rotate_left
       ·intro w h; (try dsimp only at h); go_simp <;> with_reducible rfl
       (try simp only [Act.put, lz]);refine tkH ?_ 7 rfl (by kernel_rfl) (fun _ _ _ h => by cases h.1) (by rfl) ?_ ‹_› ?_;rotate_left
       ·intro w h; (try dsimp only at h); go_simp <;> with_reducible rfl
       (try simp only [Act.put, lz]);refine tkH ?_ 8 rfl (by kernel_rfl) (fun _ _ _ h => by cases h.1) (by rfl) ?_ ‹_› ?_;rotate_left
       ·intro w h; (try dsimp only at h); go_simp <;> with_reducible rfl
       (try simp only [Act.put, lz]);refine tkH ?_ 9 rfl (by kernel_rfl) (fun _ _ _ h => by cases h.1) (by rfl) ?_ ‹_› ?_;rotate_left
       ·intro w h; (try dsimp only at h); go_simp <;> with_reducible rfl
       (try simp only [Act.put, lz]);refine tkH ?_ 10 rfl (by kernel_rfl) (fun _ _ _ h => by cases h.1) (by rfl) ?_ ‹_› ?_;rotate_left
       ·intro w h; (try dsimp only at h); go_simp <;> with_reducible rfl
       (try simp only [Act.put, lz]);refine wpAnyH_done (by kernel_rfl) ⟨rfl, ?_⟩ _
       clear hHeld
       cases D with
       | true =>
        have hn : Hid ((k : Int) - 1 = (k : Int) - 1 ∧ (k : Int) = othF G xe xn k) := hid ⟨rfl, by rw [hst.out, if_pos (of_decide_eq_true hD.out)]⟩
        clear hzz hst;go_wp2_with fail;go_roundw
        case rel => exact ⟨k, _, _, by omega, rfl, by first | rfl | rw [hzw.out], hn, KD⟩
        case measure => (try simp [intOf, hzw.out]) <;> (try omega)
       | false =>
        have hn : Hid ((k : Int) - 1 = (k : Int) - 1 ∧ ot = othF G xe xn k) := hid ⟨rfl, by rw [hst.out, if_neg (of_decide_eq_false hD.out)]; exact hzz.out.2⟩
        clear hzz hst;go_wp2_with fail;go_roundw
        case rel => exact ⟨k, _, _, by omega, rfl, by first | rfl | rw [hzw.out], hn, KD⟩
        case measure => (try simp [intOf, hzw.out]) <;> (try omega)
    case rest =>
     obtain ⟨rfl, kx⟩ := hcut;obtain ⟨wx, hwx⟩ : ∃ x, x = wc := ⟨_, rfl⟩
     subst hwx;have kpx := hid (HO.out.2.2.trans kx.out (by simp))
     have HOx := hid (show VrE.Row wx (.slice oa O.length oc) O ∧ (∀ x ∈ O, Vr.lies wx x) ∧ Kp [] W2 wx from ⟨HO.out.1.keptNew kx.out, fun x hx => (HO.out.2.1 x hx).kept kx.out, kpx.out⟩)
     obtain ⟨x0, x1, x2, x3⟩ := hx0.out wx kpx.out;obtain ⟨u0, u1, u2, u3, u4, u5, u6, u7, u8, u9, u10, u11, u12, u13, u14, u15, u16, u17, u18, u19, u20⟩ := hD.out wx kpx.out;clear kx HO;have hoc := othF_cases G xe xn 0
     rw [hOT.out] at hoc
     rcases hoc with rfl | ⟨m, hm, rfl⟩
     ·have hX : Hid (O.map Vr.pr = ordN (refN P1.cl P2.cl T1.l.length (F.take (j + 1)) G)) := hid (by rw [hsn.out, othF_none hOT.out]; simpa using hO.out)
      have d0 : decide ((-1 : Int) < 0) = true := by decide
      clear hO hsn hOT;go_wp2_with fail;go_roundw
      case rel => exact ⟨j + 1, oa, oc, O, by omega, by go_num, rfl, hX, HOx⟩
      case measure => simp [intOf]; omega
     ·obtain ⟨_, hfd⟩ := othF_some hOT.out
      have d0 : decide ((m : Int) < 0) = false := by simp
      have m1' : (0 : Int) ≤ (m : Int) := by omega
      have m2' : (m : Int) < (G.length : Int) := by omega
      rw [hfd] at hsn;obtain ⟨gd, od, ed, y0, y1, y2, y3⟩ := vrAt (sG.out.keptNew kpx.out) (j := m) (x := G[m]) (by simp [hm])
      have hy0 : Hid (∀ W', Kp [] W2 W' → W'.cell? ⟨gd, od + m * 4 + 2, none⟩ = some (.slice G[m].a G[m].l.length G[m].c)) := hid (fun W' q => by
       obtain ⟨g4, o4, e4, z0, z1, z2, z3⟩ := vrAt (sG.out.keptNew q) (j := m) (x := G[m]) (by simp [hm])
       rw [ed] at e4
       cases e4
       exact z2)
      have hyl := hid (lG.out G[m] (List.getElem_mem hm))
      obtain ⟨y, hy⟩ : ∃ y, Hid (G[m] = y) := ⟨_, hid rfl⟩
      rw [hy.out] at hy0 hyl hsn;obtain ⟨ye, yn, ya, yc, yl, yd⟩ := y;simp only [Option.map_some, Option.toList] at hsn;dsimp only at hy0;subst ed;clear y0 y1 y2 y3 hy hOT hfd;obtain ⟨q19, V1, V2, eq19, eV1, b1, eV2, b2, kV2⟩ := boxVr wx xe xn none 0 0 0;have f0 := b1.free 0; have f1 := b1.free 1; have f2 := b1.free 2; have f3 := b1.free 3
      have n0 := b1.get 0 _ rfl; have n1 := b1.get 1 _ rfl; have n2 := b1.get 2 _ rfl; have n3 := b1.get 3 _ rfl
      have HV := hid (And.intro b2 kV2)
      have hq19 := hid eq19
      clear b1 b2 kV2;go_upto_block 8 with fail
      go_cut [] from 139 to 185 (fun wy => ∃ (ra : Option Addr) (rc : Nat), Hid (Bn wy q19 [.int .u64 xe, .int .u32 xn, .slice ra (rowN P1.cl P2.cl T1.l.length xl yl).length rc, .int .u64 0] ∧ VE.Row wy (.slice ra (rowN P1.cl P2.cl T1.l.length xl yl).length rc) (rowN P1.cl P2.cl T1.l.length xl yl) ∧ (∀ k ∈ blk ra, q19 < k) ∧ Kp [] wx wy))
      case first =>
       go_wp2_with fail;go_loopw [20] (fun iv wr => ∃ (n : Nat) (ra : Option Addr) (rc : Nat) (m : List Val), n ≤ T1.l.length ∧ iv = .int .i64 (n : Int) ∧ Hid (m = (List.range (n)).map (fun (k : Nat) => valF P1.cl P2.cl xl yl (k : Int))) ∧ Hid (Bn wr q19 [.int .u64 xe, .int .u32 xn, .slice ra m.length rc, .int .u64 0] ∧ VE.Row wr (.slice ra m.length rc) m ∧ (∀ k ∈ blk ra, q19 < k) ∧ Kp [] wx wr)) (fun iv _ => T1.l.length - (intOf iv).toNat)
       case atStart => exact ⟨0, none, 0, [], Nat.zero_le _, rfl, hid rfl, hid ⟨HV.out.1, .inl ⟨rfl, rfl⟩, by simp [blk], HV.out.2⟩⟩
       case round =>
        obtain ⟨n, ra, rc, m', hn, rfl, hm', HM⟩ := hrel;have kpr := hid (kpx.out.trans HM.out.2.2.2 (by simp))
        obtain ⟨t0, t1⟩ := hT.out wr kpr.out
        by_cases hnt : n < T1.l.length
        ·have n1' : (0 : Int) ≤ (n : Int) := by omega
         have n2' : (n : Int) < (T1.l.length : Int) := by omega
         have n3' : (n : Int) + 1 ≤ 9223372036854775807 := by have := htw'.out; omega
         have hS30 : Hid (∀ W', Kp [] wr W' → W'.cell? ⟨q4, 4, none⟩ = some (.slice (some ⟨g, f, none⟩) pl.length pc) ∧ W'.cell? ⟨q5, 0, none⟩ = some (.int .i64 (i : Int)) ∧ W'.cell? ⟨g, f + i * 6, none⟩ = some (.string P1.nm) ∧ W'.cell? ⟨g, f + i * 6 + 1, none⟩ = some (.int .i64 (t : Int)) ∧ W'.cell? ⟨g, f + i * 6 + 2, none⟩ = some (.slice P1.ca P1.cl.length P1.cc) ∧ W'.cell? ⟨g, f + i * 6 + 3, none⟩ = some (.slice P1.sa P1.sl.length P1.sc) ∧ W'.cell? ⟨g, f + i * 6 + 4, none⟩ = some (.int .i64 P1.by_) ∧ W'.cell? ⟨g, f + i * 6 + 5, none⟩ = some (.int .i64 P1.sh) ∧ W'.cell? ⟨gb, ob + j * 4 + 2, none⟩ = some (.slice xa xl.length xc)) := hid (fun W' q => by
          have h := hD.out W' (kpr.out.trans q (by simp))
          have h2 := hx0.out W' (kpr.out.trans q (by simp))
          exact ⟨h.2.2.2.2.1, h.2.2.2.2.2.1, h.2.2.2.2.2.2.2.2.2.1, h.2.2.2.2.2.2.2.2.2.2.1, h.2.2.2.2.2.2.2.2.2.2.2.1, h.2.2.2.2.2.2.2.2.2.2.2.2.1, h.2.2.2.2.2.2.2.2.2.2.2.2.2.1, h.2.2.2.2.2.2.2.2.2.2.2.2.2.2.1, h2.2.2.1⟩)
         have hV1 := hid (fun W (q : Kp [] wr W) => rValue P1 xa xc xl (n : Int) W (hpok.out.cols.keptNew ((K2.out.trans kp2.out (by simp)).trans (kpr.out.trans q (by simp)) (by simp))) (hxl.out W (kpr.out.trans q (by simp))).r.see (by have h1 := (hxl.out W (kpr.out.trans q (by simp))).r.cap; have h2 := (hxl.out W (kpr.out.trans q (by simp))).r.most; unfold maxLen at h2; dsimp only at h1 h2; omega) hwi.out)
         obtain ⟨val, hval⟩ : ∃ v, Hid (valP P1.cl xl (n : Int) = v) := ⟨_, hid rfl⟩
         obtain ⟨hb, hhb⟩ : ∃ v, Hid (decide ((n : Int) ∈ P1.cl) = v) := ⟨_, hid rfl⟩
         simp only [hval.out, hhb.out, VlP, Pj.v, hpt'.out] at hV1;obtain ⟨vk, vb, vn, vt⟩ := val;have hlr : Hid (wx.heap.size ≤ wr.heap.size) := hid HM.out.2.2.2.size
         go_wp2_with fail;go_cut [21, 22] from 146 to 161 (fun v21 v22 wy => ∃ q21 : Nat, v21 = .pointer (some ⟨q21, 0, none⟩) ∧ v22 = .bool hb ∧ Hid (Bn wy q21 [.int .i64 vk, .bool vb, .int .i64 vn, .string vt] ∧ wr.heap.size ≤ q21 ∧ Kp [] wr wy))
         case first =>
          refine wp_noPanicY ?_;refine wp_region_held_drew (S := fun W' => W'.cell? ⟨q4, 4, none⟩ = some (.slice (some ⟨g, f, none⟩) pl.length pc) ∧ W'.cell? ⟨q5, 0, none⟩ = some (.int .i64 (i : Int)) ∧ W'.cell? ⟨g, f + i * 6, none⟩ = some (.string P1.nm) ∧ W'.cell? ⟨g, f + i * 6 + 1, none⟩ = some (.int .i64 (t : Int)) ∧ W'.cell? ⟨g, f + i * 6 + 2, none⟩ = some (.slice P1.ca P1.cl.length P1.cc) ∧ W'.cell? ⟨g, f + i * 6 + 3, none⟩ = some (.slice P1.sa P1.sl.length P1.sc) ∧ W'.cell? ⟨g, f + i * 6 + 4, none⟩ = some (.int .i64 P1.by_) ∧ W'.cell? ⟨g, f + i * 6 + 5, none⟩ = some (.int .i64 P1.sh) ∧ W'.cell? ⟨gb, ob + j * 4 + 2, none⟩ = some (.slice xa xl.length xc)) (by kernel_rfl) (hS30.out _ (Kp.refl [] wr).drew) (fun hHeld => ?_)
          have KD : Hid (Kp [] wr wr.drew) := hid (Kp.refl _ _).drew
          generalize wr.drew = wd at *
          refine tkH ?_ 0 rfl (by kernel_rfl) (fun _ _ _ h => by cases h.1) (by rfl) ?_ ‹_› ?_;rotate_left
          ·intro w h; (try dsimp only at h); go_simp <;> with_reducible rfl
          (try simp only [Act.put, lz]);refine tkH ?_ 1 rfl (by kernel_rfl) (fun _ _ _ h => by cases h.1) (by rfl) ?_ ‹_› ?_;rotate_left
          ·intro w h; (try dsimp only at h); go_simp <;> with_reducible rfl
          (try simp only [Act.put, lz]);refine tkH ?_ 2 rfl (by kernel_rfl) (fun _ _ _ h => by cases h.1) (by rfl) ?_ ‹_› ?_;rotate_left
          ·intro w h; (try dsimp only at h); go_simp <;> with_reducible rfl
          (try simp only [Act.put, lz]);refine tkH ?_ 3 rfl (by kernel_rfl) (fun _ _ _ h => by cases h.1) (by rfl) ?_ ‹_› ?_;rotate_left
          ·intro w h; (try dsimp only at h); go_simp <;> with_reducible rfl
          (try simp only [Act.put, lz]);refine tkH ?_ 4 rfl (by kernel_rfl) (fun _ _ _ h => by cases h.1) (by rfl) ?_ ‹_› ?_;rotate_left
          ·intro w h; (try dsimp only at h); go_simp <;> with_reducible rfl
          (try simp only [Act.put, lz]);refine tkH ?_ 5 rfl (by kernel_rfl) (fun _ _ _ h => by cases h.1) (by rfl) ?_ ‹_› ?_;rotate_left
          ·intro w h; (try dsimp only at h); go_simp <;> with_reducible rfl
          (try simp only [Act.put, lz]);refine tkH ?_ 6 rfl (by kernel_rfl) (fun _ _ _ h => by cases h.1) (by rfl) ?_ ‹_› ?_;rotate_left
          ·intro w h; (try dsimp only at h); go_simp <;> with_reducible rfl
          (try simp only [Act.put, lz]);refine tkH ?_ 7 rfl (by kernel_rfl) (fun _ _ _ h => by cases h.1) (by rfl) ?_ ‹_› ?_;rotate_left
          ·intro w h; (try dsimp only at h); go_simp <;> with_reducible rfl
          (try simp only [Act.put, lz]);refine tkH ?_ 8 rfl (by kernel_rfl) (fun _ _ _ h => by cases h.1) (by rfl) ?_ ‹_› ?_;rotate_left
          ·intro w h; (try dsimp only at h); go_simp <;> with_reducible rfl
          (try simp only [Act.put, lz]);refine tkH ?_ 9 rfl (by kernel_rfl) (fun _ _ _ h => by cases h.1) (by rfl) ?_ ‹_› ?_;rotate_left
          ·intro w h; (try dsimp only at h); go_simp <;> with_reducible rfl
          (try simp only [Act.put, lz]);refine tkH ?_ 10 rfl (by kernel_rfl) (fun _ _ _ h => by cases h.1) (by rfl) ?_ ‹_› ?_;rotate_left
          ·intro w h; (try dsimp only at h); go_simp <;> with_reducible rfl
          (try simp only [Act.put, lz]);refine tkH ?_ 11 rfl (by kernel_rfl) (fun _ _ _ h => by cases h.1) (by rfl) ?_ ‹_› ?_;rotate_left
          ·intro w h; (try dsimp only at h); go_simp <;> with_reducible rfl
          (try simp only [Act.put, lz]);refine wpAnyH_ready (rs := [12, 16]) (by kernel_rfl) (by simp) ?_
          refine AllReadyH.cons rfl (fun K hK => ?_) (AllReadyH.cons rfl (fun K hK => ?_) AllReadyH.nil)
          ·skip
           go_simp;refine (hV1.out wd KD.out).mono ?_;rintro e wz ⟨rfl, kz⟩;(try go_wp2_with fail);refine hK.out _ _ (hS30.out _ (KD.out.trans kz (by simp))) (fun hHeld => ?_)
           clear hK K;(try simp only [Act.put, lz]);refine tkH ?_ 13 rfl (by kernel_rfl) (fun _ _ _ h => by cases h.1) (by rfl) ?_ ‹_› ?_;rotate_left
           ·intro w h; (try dsimp only at h); go_simp <;> with_reducible rfl
           (try simp only [Act.put, lz]);refine tkH ?_ 14 rfl (by kernel_rfl) (fun _ _ _ h => by cases h.1) (by rfl) ?_ ‹_› ?_;rotate_left
           ·intro w h; (try dsimp only at h); go_simp <;> with_reducible rfl
           (try simp only [Act.put, lz]);refine tkH ?_ 15 rfl (by kernel_rfl) (fun _ _ _ h => by cases h.1) (by rfl) ?_ ‹_› ?_;rotate_left
           ·intro w h; (try dsimp only at h); go_simp <;> with_reducible rfl
           (try simp only [Act.put, lz]);obtain ⟨q21, Y1, Y2, eq21, eY1, c1, eY2, c2, kY1, kY2⟩ := boxValF wz ⟨vk, vb, vn, vt⟩;dsimp only at eY2 c2;have kzd := KD.out.trans kz (by simp)
           refine rdH 16 (by kernel_rfl) rfl fun K hK => ?_
           go_simp;(try go_wp2_with fail);refine hK.out _ _ (hS30.out _ (kzd.trans kY1 (by simp))) (fun hHeld => ?_)
           clear hK K;(try simp only [Act.put, lz]);have m0 := c1.get 0 _ rfl; have m1 := c1.get 1 _ rfl; have m2 := c1.get 2 _ rfl; have m3 := c1.get 3 _ rfl
           have f0 := c1.free 0; have f1 := c1.free 1; have f2 := c1.free 2; have f3 := c1.free 3
           refine rdH 17 (by kernel_rfl) rfl fun K hK => ?_
           go_simp;(try go_wp2_with fail);refine hK.out _ _ (hS30.out _ (kzd.trans kY2 (by simp))) (fun hHeld => ?_)
           clear hK K;(try simp only [Act.put, lz]);refine tkH ?_ 18 rfl (by kernel_rfl) (fun _ _ _ h => by cases h.1) (by rfl) ?_ ‹_› ?_;rotate_left
           ·intro w h; (try dsimp only at h); go_simp <;> with_reducible rfl
           (try simp only [Act.put, lz]);refine wpAnyH_done (by kernel_rfl) ⟨rfl, ?_⟩ _
           have HF : Hid (Bn Y2 q21 [.int .i64 vk, .bool vb, .int .i64 vn, .string vt] ∧ wr.heap.size ≤ q21 ∧ Kp [] wr Y2) := hid ⟨c2, by have := kzd.size; omega, kzd.trans kY2 (by simp)⟩
           clear hHeld c1 c2 kY1 kY2 m0 m1 m2 m3 f0 f1 f2 f3;go_wp2_with fail;go_meet;exact ⟨q21, rfl, rfl, HF⟩
          ·skip
           obtain ⟨q21, Y1, eq21, eY1, c1, kY1⟩ := boxVal0 wd;go_simp;(try go_wp2_with fail);refine hK.out _ _ (hS30.out _ (KD.out.trans kY1 (by simp))) (fun hHeld => ?_)
           clear hK K;(try simp only [Act.put, lz]);have kd1 := KD.out.trans kY1 (by simp)
           refine rdH 12 (by kernel_rfl) rfl fun K hK => ?_
           go_simp;refine (hV1.out Y1 kd1).mono ?_;rintro e wz ⟨rfl, kz⟩;(try go_wp2_with fail);refine hK.out _ _ (hS30.out _ (kd1.trans kz (by simp))) (fun hHeld => ?_)
           clear hK K;(try simp only [Act.put, lz]);refine tkH ?_ 13 rfl (by kernel_rfl) (fun _ _ _ h => by cases h.1) (by rfl) ?_ ‹_› ?_;rotate_left
           ·intro w h; (try dsimp only at h); go_simp <;> with_reducible rfl
           (try simp only [Act.put, lz]);refine tkH ?_ 14 rfl (by kernel_rfl) (fun _ _ _ h => by cases h.1) (by rfl) ?_ ‹_› ?_;rotate_left
           ·intro w h; (try dsimp only at h); go_simp <;> with_reducible rfl
           (try simp only [Act.put, lz]);refine tkH ?_ 15 rfl (by kernel_rfl) (fun _ _ _ h => by cases h.1) (by rfl) ?_ ‹_› ?_;rotate_left
           ·intro w h; (try dsimp only at h); go_simp <;> with_reducible rfl
           (try simp only [Act.put, lz]);have c1z := c1.kept kz
           obtain ⟨Y2, eY2, c2, kY2⟩ := c1z.set4F rfl (.int .i64 vk) (.bool vb) (.int .i64 vn) (.string vt);have kz2 := (kd1.trans kz (by simp)).trans kY2 (fun y hy => .inr (by simp at hy; have := KD.out.size; omega))
           have m0 := c1z.get 0 _ rfl; have m1 := c1z.get 1 _ rfl; have m2 := c1z.get 2 _ rfl; have m3 := c1z.get 3 _ rfl
           have f0 := c1z.free 0; have f1 := c1z.free 1; have f2 := c1z.free 2; have f3 := c1z.free 3
           refine rdH 17 (by kernel_rfl) rfl fun K hK => ?_
           go_simp;(try go_wp2_with fail);refine hK.out _ _ (hS30.out _ kz2) (fun hHeld => ?_)
           clear hK K;(try simp only [Act.put, lz]);refine tkH ?_ 18 rfl (by kernel_rfl) (fun _ _ _ h => by cases h.1) (by rfl) ?_ ‹_› ?_;rotate_left
           ·intro w h; (try dsimp only at h); go_simp <;> with_reducible rfl
           (try simp only [Act.put, lz]);refine wpAnyH_done (by kernel_rfl) ⟨rfl, ?_⟩ _
           have HF : Hid (Bn Y2 q21 [.int .i64 vk, .bool vb, .int .i64 vn, .string vt] ∧ wr.heap.size ≤ q21 ∧ Kp [] wr Y2) := hid ⟨c2, by have := KD.out.size; omega, kz2⟩
           clear hHeld c1 c1z c2 kY1 kY2 m0 m1 m2 m3 f0 f1 f2 f3;go_wp2_with fail;go_meet;exact ⟨q21, rfl, rfl, HF⟩
         case rest =>
          obtain ⟨q21, rfl, rfl, h21⟩ := hcut;obtain ⟨wq, hwq⟩ : ∃ x, x = wc := ⟨_, rfl⟩
          subst hwq;obtain ⟨⟨zk, zb, zn, zt⟩, hzv⟩ : ∃ z, Hid (valF P1.cl P2.cl xl yl (n : Int) = z) := ⟨_, hid rfl⟩
          skip
          ·cases hb with
           | true =>
            have hin : (n : Int) ∈ P1.cl := of_decide_eq_true hhb.out
            have he : Hid ((⟨zk, zb, zn, zt⟩ : Val) = ⟨vk, vb, vn, vt⟩) := hid (by
             rw [← hzv.out, ← hval.out];unfold valF valP
             rw [if_pos hin, if_pos hin])
            have hF : Hid (Bn wq q21 [.int .i64 zk, .bool zb, .int .i64 zn, .string zt] ∧ Kp [] wr wq) := hid (by
             obtain ⟨rfl, rfl, rfl, rfl⟩ := Val.mk.inj he.out;exact ⟨h21.out.1, h21.out.2.2⟩)
            clear h21 he hin;have kry := hid hF.out.2
            have b19 := HM.out.1.kept kry.out
            have hm19 := b19.get 2 _ rfl
            have fr19 := b19.free 2
            have z0 := hF.out.1.get 0 _ rfl; have z1 := hF.out.1.get 1 _ rfl; have z2 := hF.out.1.get 2 _ rfl; have z3 := hF.out.1.get 3 _ rfl
            have hml : m'.length ≤ 3000000000000 := by have := htw'.out; rw [hm'.out, List.length_map, List.length_range]; omega
            obtain ⟨a4, c4, W4, hrun, hr4, k4, hn4⟩ := appV1 (HM.out.2.1.keptNew kry.out) ⟨zk, zb, zn, zt⟩ hml;have hzy : wx.heap.size ≤ wq.heap.size := Nat.le_trans hlr.out kry.out.size
            have hq19l : q19 < wq.heap.size := b19.lt (by simp)
            have hnm : q19 ∉ blk ra := fun hh => Nat.lt_irrefl _ (HM.out.2.2.1 q19 hh)
            have b194 := b19.keptS k4 hnm (by omega)
            have hm19' := b194.get 2 _ rfl
            have fr19' := b194.free 2
            have hm5 : Hid (m' ++ [(⟨zk, zb, zn, zt⟩ : Val)] = (List.range (n + 1)).map (fun (k : Nat) => valF P1.cl P2.cl xl yl (k : Int))) := hid (by
             rw [List.range_succ, List.map_append, ← hm'.out, ← hzv.out];rfl)
            obtain ⟨m4, hm4⟩ : ∃ m4, Hid (m' ++ [(⟨zk, zb, zn, zt⟩ : Val)] = m4) := ⟨_, hid rfl⟩
            rw [hm4.out] at hrun hr4 hm5;dsimp only at hrun;obtain ⟨W5, hW5⟩ : ∃ Y, W4.setCell ⟨q19, 2, none⟩ (.slice a4 m4.length c4) = Y := ⟨_, rfl⟩
            have k5 : Kp [q19] W4 W5 := by rw [← hW5]; exact (Kp.refl _ _).setCell (by simp) _
            have b5 : Bn W5 q19 [.int .u64 xe, .int .u32 xn, .slice a4 m4.length c4, .int .u64 0] := by rw [← hW5]; exact b194.set 2 (by simp) _
            have ha4 : ∀ k ∈ blk a4, q19 < k := fun k hk => by
             rcases hn4 k hk with e | e
             ·exact HM.out.2.2.1 k e
             ·omega
            have HF : Hid (Bn W5 q19 [.int .u64 xe, .int .u32 xn, .slice a4 m4.length c4, .int .u64 0] ∧ VE.Row W5 (.slice a4 m4.length c4) m4 ∧ (∀ k ∈ blk a4, q19 < k) ∧ Kp [] wx W5) := hid ⟨b5, hr4.kept k5 (fun k hk => by rw [ownV] at hk; have := ha4 k hk; simp; omega), ha4, ((HM.out.2.2.2.trans kry.out (by simp)).trans k4 (fun x hx => .inr (by have := HM.out.2.2.1 x hx; have := hq19.out; omega))).trans k5 (fun x hx => .inr (by simp at hx; have := hq19.out; omega))⟩
            clear b19 b194 hr4 k4 hn4 k5 b5 ha4 HM hF;go_wp2_with (first | (refine wpAppRunY rfl _ _ 61 61 rfl _ _ _ rfl rfl hrun ?_) | fail)
            go_roundw
            case rel => exact ⟨n + 1, a4, c4, m4, by omega, by go_num, hm5, HF⟩
            case measure => simp [intOf]; omega
           | false =>
            have hnin : ¬ (n : Int) ∈ P1.cl := of_decide_eq_false hhb.out
            have hS32 : Hid (∀ W', Kp [] wr W' → W'.cell? ⟨q4, 4, none⟩ = some (.slice (some ⟨g, f, none⟩) pl.length pc) ∧ W'.cell? ⟨q5, 1, none⟩ = some (.int .i64 ((k : Nat) : Int)) ∧ W'.cell? ⟨g, f + k * 6, none⟩ = some (.string P2.nm) ∧ W'.cell? ⟨g, f + k * 6 + 1, none⟩ = some (.int .i64 P2.tb) ∧ W'.cell? ⟨g, f + k * 6 + 2, none⟩ = some (.slice P2.ca P2.cl.length P2.cc) ∧ W'.cell? ⟨g, f + k * 6 + 3, none⟩ = some (.slice P2.sa P2.sl.length P2.sc) ∧ W'.cell? ⟨g, f + k * 6 + 4, none⟩ = some (.int .i64 P2.by_) ∧ W'.cell? ⟨g, f + k * 6 + 5, none⟩ = some (.int .i64 P2.sh) ∧ W'.cell? ⟨gd, od + m * 4 + 2, none⟩ = some (.slice ya yl.length yc)) := hid (fun W' q => by
             have h := hD.out W' (kpr.out.trans q (by simp))
             have h2 := hy0.out W' (kpr.out.trans q (by simp))
             exact ⟨h.2.2.2.2.1, h.2.2.2.2.2.2.1, h.2.2.2.2.2.2.2.2.2.2.2.2.2.2.2.1, h.2.2.2.2.2.2.2.2.2.2.2.2.2.2.2.2.1, h.2.2.2.2.2.2.2.2.2.2.2.2.2.2.2.2.2.1, h.2.2.2.2.2.2.2.2.2.2.2.2.2.2.2.2.2.2.1, h.2.2.2.2.2.2.2.2.2.2.2.2.2.2.2.2.2.2.2.1, h.2.2.2.2.2.2.2.2.2.2.2.2.2.2.2.2.2.2.2.2, h2⟩)
            have hV2 := hid (fun W (q : Kp [] wr W) => rValue P2 ya yc yl (n : Int) W (hpk.out.cols.keptNew ((K2.out.trans kp2.out (by simp)).trans (kpr.out.trans q (by simp)) (by simp))) (hyl.out W (kpr.out.trans q (by simp))).r.see (by have h1 := (hyl.out W (kpr.out.trans q (by simp))).r.cap; have h2 := (hyl.out W (kpr.out.trans q (by simp))).r.most; unfold maxLen at h2; dsimp only at h1 h2; omega) hwk.out)
            obtain ⟨hb2, hhb2⟩ : ∃ v, Hid (decide ((n : Int) ∈ P2.cl) = v) := ⟨_, hid rfl⟩
            have hz2 : Hid (valP P2.cl yl (n : Int) = ⟨zk, zb, zn, zt⟩) := hid (by
             rw [← hzv.out];unfold valF valP
             rw [if_neg hnin])
            simp only [hz2.out, hhb2.out, VlP, Pj.v] at hV2;have k0' : (0 : Int) ≤ (k : Int) := by omega
            have hk2 : (k : Int) < (pl.length : Int) := by omega
            clear hnin;go_wp2_with fail;refine wp_noPanicY ?_;refine wp_region_held_drew (S := fun W' => W'.cell? ⟨q4, 4, none⟩ = some (.slice (some ⟨g, f, none⟩) pl.length pc) ∧ W'.cell? ⟨q5, 1, none⟩ = some (.int .i64 ((k : Nat) : Int)) ∧ W'.cell? ⟨g, f + k * 6, none⟩ = some (.string P2.nm) ∧ W'.cell? ⟨g, f + k * 6 + 1, none⟩ = some (.int .i64 P2.tb) ∧ W'.cell? ⟨g, f + k * 6 + 2, none⟩ = some (.slice P2.ca P2.cl.length P2.cc) ∧ W'.cell? ⟨g, f + k * 6 + 3, none⟩ = some (.slice P2.sa P2.sl.length P2.sc) ∧ W'.cell? ⟨g, f + k * 6 + 4, none⟩ = some (.int .i64 P2.by_) ∧ W'.cell? ⟨g, f + k * 6 + 5, none⟩ = some (.int .i64 P2.sh) ∧ W'.cell? ⟨gd, od + m * 4 + 2, none⟩ = some (.slice ya yl.length yc)) (by kernel_rfl) (hS32.out _ h21.out.2.2.drew) (fun hHeld => ?_)
            have KD : Hid (Kp [] wr wq.drew) := hid h21.out.2.2.drew
            have BD := hid (h21.out.1.kept (Kp.refl [] wq).drew)
            have hqd : Hid (wr.heap.size ≤ q21) := hid h21.out.2.1
            generalize wq.drew = wd at *
            refine tkH ?_ 0 rfl (by kernel_rfl) (fun _ _ _ h => by cases h.1) (by rfl) ?_ ‹_› ?_;rotate_left
            ·intro w h; (try dsimp only at h); go_simp <;> with_reducible rfl
            (try simp only [Act.put, lz]);refine tkH ?_ 1 rfl (by kernel_rfl) (fun _ _ _ h => by cases h.1) (by rfl) ?_ ‹_› ?_;rotate_left
            ·intro w h; (try dsimp only at h); go_simp <;> with_reducible rfl
            (try simp only [Act.put, lz]);refine tkH ?_ 2 rfl (by kernel_rfl) (fun _ _ _ h => by cases h.1) (by rfl) ?_ ‹_› ?_;rotate_left
            ·intro w h; (try dsimp only at h); go_simp <;> with_reducible rfl
            (try simp only [Act.put, lz]);refine tkH ?_ 3 rfl (by kernel_rfl) (fun _ _ _ h => by cases h.1) (by rfl) ?_ ‹_› ?_;rotate_left
            ·intro w h; (try dsimp only at h); go_simp <;> with_reducible rfl
            (try simp only [Act.put, lz]);refine tkH ?_ 4 rfl (by kernel_rfl) (fun _ _ _ h => by cases h.1) (by rfl) ?_ ‹_› ?_;rotate_left
            ·intro w h; (try dsimp only at h); go_simp <;> with_reducible rfl
            (try simp only [Act.put, lz]);refine tkH ?_ 5 rfl (by kernel_rfl) (fun _ _ _ h => by cases h.1) (by rfl) ?_ ‹_› ?_;rotate_left
            ·intro w h; (try dsimp only at h); go_simp <;> with_reducible rfl
            (try simp only [Act.put, lz]);refine tkH ?_ 6 rfl (by kernel_rfl) (fun _ _ _ h => by cases h.1) (by rfl) ?_ ‹_› ?_;rotate_left
            ·intro w h; (try dsimp only at h); go_simp <;> with_reducible rfl
            (try simp only [Act.put, lz]);refine tkH ?_ 7 rfl (by kernel_rfl) (fun _ _ _ h => by cases h.1) (by rfl) ?_ ‹_› ?_;rotate_left
            ·intro w h; (try dsimp only at h); go_simp <;> with_reducible rfl
            (try simp only [Act.put, lz]);refine tkH ?_ 8 rfl (by kernel_rfl) (fun _ _ _ h => by cases h.1) (by rfl) ?_ ‹_› ?_;rotate_left
            ·intro w h; (try dsimp only at h); go_simp <;> with_reducible rfl
            (try simp only [Act.put, lz]);refine tkH ?_ 9 rfl (by kernel_rfl) (fun _ _ _ h => by cases h.1) (by rfl) ?_ ‹_› ?_;rotate_left
            ·intro w h; (try dsimp only at h); go_simp <;> with_reducible rfl
            (try simp only [Act.put, lz]);refine tkH ?_ 10 rfl (by kernel_rfl) (fun _ _ _ h => by cases h.1) (by rfl) ?_ ‹_› ?_;rotate_left
            ·intro w h; (try dsimp only at h); go_simp <;> with_reducible rfl
            (try simp only [Act.put, lz]);refine tkH ?_ 11 rfl (by kernel_rfl) (fun _ _ _ h => by cases h.1) (by rfl) ?_ ‹_› ?_;rotate_left
            ·intro w h; (try dsimp only at h); go_simp <;> with_reducible rfl
            (try simp only [Act.put, lz]);refine rdH 12 (by kernel_rfl) rfl fun K hK => ?_
            go_simp;refine (hV2.out wd KD.out).mono ?_;rintro e wz ⟨rfl, kz⟩;(try go_wp2_with fail);refine hK.out _ _ (hS32.out _ (KD.out.trans kz (by simp))) (fun hHeld => ?_)
            clear hK K;(try simp only [Act.put, lz]);refine tkH ?_ 13 rfl (by kernel_rfl) (fun _ _ _ h => by cases h.1) (by rfl) ?_ ‹_› ?_;rotate_left
            ·intro w h; (try dsimp only at h); go_simp <;> with_reducible rfl
            (try simp only [Act.put, lz]);refine tkH ?_ 14 rfl (by kernel_rfl) (fun _ _ _ h => by cases h.1) (by rfl) ?_ ‹_› ?_;rotate_left
            ·intro w h; (try dsimp only at h); go_simp <;> with_reducible rfl
            (try simp only [Act.put, lz]);refine tkH ?_ 15 rfl (by kernel_rfl) (fun _ _ _ h => by cases h.1) (by rfl) ?_ ‹_› ?_;rotate_left
            ·intro w h; (try dsimp only at h); go_simp <;> with_reducible rfl
            (try simp only [Act.put, lz]);have c1z := BD.out.kept kz
            obtain ⟨Y2, eY2, c2, kY2⟩ := c1z.set4F rfl (.int .i64 zk) (.bool zb) (.int .i64 zn) (.string zt);have kz2 := (KD.out.trans kz (by simp)).trans kY2 (fun y hy => .inr (by simp at hy; have := hqd.out; omega))
            have m0 := c1z.get 0 _ rfl; have m1 := c1z.get 1 _ rfl; have m2 := c1z.get 2 _ rfl; have m3 := c1z.get 3 _ rfl
            have f0 := c1z.free 0; have f1 := c1z.free 1; have f2 := c1z.free 2; have f3 := c1z.free 3
            refine rdH 16 (by kernel_rfl) rfl fun K hK => ?_
            go_simp;(try go_wp2_with fail);refine hK.out _ _ (hS32.out _ kz2) (fun hHeld => ?_)
            clear hK K;(try simp only [Act.put, lz]);refine wpAnyH_done (by kernel_rfl) ⟨rfl, ?_⟩ _
            have HF : Hid (Bn Y2 q21 [.int .i64 zk, .bool zb, .int .i64 zn, .string zt] ∧ Kp [] wr Y2) := hid ⟨c2, kz2⟩
            have hF := HF
            clear hHeld c1z c2 kY2 m0 m1 m2 m3 f0 f1 f2 f3 HF h21;have kry := hid hF.out.2
            have b19 := HM.out.1.kept kry.out
            have hm19 := b19.get 2 _ rfl
            have fr19 := b19.free 2
            have z0 := hF.out.1.get 0 _ rfl; have z1 := hF.out.1.get 1 _ rfl; have z2 := hF.out.1.get 2 _ rfl; have z3 := hF.out.1.get 3 _ rfl
            have hml : m'.length ≤ 3000000000000 := by have := htw'.out; rw [hm'.out, List.length_map, List.length_range]; omega
            obtain ⟨a4, c4, W4, hrun, hr4, k4, hn4⟩ := appV1 (HM.out.2.1.keptNew kry.out) ⟨zk, zb, zn, zt⟩ hml;have hzy : wx.heap.size ≤ Y2.heap.size := Nat.le_trans hlr.out kry.out.size
            have hq19l : q19 < Y2.heap.size := b19.lt (by simp)
            have hnm : q19 ∉ blk ra := fun hh => Nat.lt_irrefl _ (HM.out.2.2.1 q19 hh)
            have b194 := b19.keptS k4 hnm (by omega)
            have hm19' := b194.get 2 _ rfl
            have fr19' := b194.free 2
            have hm5 : Hid (m' ++ [(⟨zk, zb, zn, zt⟩ : Val)] = (List.range (n + 1)).map (fun (k : Nat) => valF P1.cl P2.cl xl yl (k : Int))) := hid (by
             rw [List.range_succ, List.map_append, ← hm'.out, ← hzv.out];rfl)
            obtain ⟨m4, hm4⟩ : ∃ m4, Hid (m' ++ [(⟨zk, zb, zn, zt⟩ : Val)] = m4) := ⟨_, hid rfl⟩
            rw [hm4.out] at hrun hr4 hm5;dsimp only at hrun;obtain ⟨W5, hW5⟩ : ∃ Y, W4.setCell ⟨q19, 2, none⟩ (.slice a4 m4.length c4) = Y := ⟨_, rfl⟩
            have k5 : Kp [q19] W4 W5 := by rw [← hW5]; exact (Kp.refl _ _).setCell (by simp) _
            have b5 : Bn W5 q19 [.int .u64 xe, .int .u32 xn, .slice a4 m4.length c4, .int .u64 0] := by rw [← hW5]; exact b194.set 2 (by simp) _
            have ha4 : ∀ k ∈ blk a4, q19 < k := fun k hk => by
             rcases hn4 k hk with e | e
             ·exact HM.out.2.2.1 k e
             ·omega
            have HF : Hid (Bn W5 q19 [.int .u64 xe, .int .u32 xn, .slice a4 m4.length c4, .int .u64 0] ∧ VE.Row W5 (.slice a4 m4.length c4) m4 ∧ (∀ k ∈ blk a4, q19 < k) ∧ Kp [] wx W5) := hid ⟨b5, hr4.kept k5 (fun k hk => by rw [ownV] at hk; have := ha4 k hk; simp; omega), ha4, ((HM.out.2.2.2.trans kry.out (by simp)).trans k4 (fun x hx => .inr (by have := HM.out.2.2.1 x hx; have := hq19.out; omega))).trans k5 (fun x hx => .inr (by simp at hx; have := hq19.out; omega))⟩
            clear b19 b194 hr4 k4 hn4 k5 b5 ha4 HM hF;go_wp2_with (first | (refine wpAppRunY rfl _ _ 61 61 rfl _ _ _ rfl rfl hrun ?_) | fail)
            go_roundw
            case rel => exact ⟨n + 1, a4, c4, m4, by omega, by go_num, hm5, HF⟩
            case measure => simp [intOf]; omega
        ·have hne : n = T1.l.length := by omega
         have hfin : Hid (Bn wr q19 [.int .u64 xe, .int .u32 xn, .slice ra (rowN P1.cl P2.cl T1.l.length xl yl).length rc, .int .u64 0] ∧ VE.Row wr (.slice ra (rowN P1.cl P2.cl T1.l.length xl yl).length rc) (rowN P1.cl P2.cl T1.l.length xl yl) ∧ (∀ k ∈ blk ra, q19 < k) ∧ Kp [] wx wr) := hid (by
          have e : m' = rowN P1.cl P2.cl T1.l.length xl yl := by rw [hm'.out, hne]; rfl
          rw [← e];exact HM.out)
         have dn1 : ¬ (n : Int) < (T1.l.length : Int) := by omega
         have dn2 : decide ((n : Int) < (T1.l.length : Int)) = false := by simp; omega
         clear hm' HM hne;go_wp2_with fail;go_meet;exact ⟨ra, rc, hfin⟩
      case rest =>
       obtain ⟨ra, rc, hv⟩ := hcut;obtain ⟨wy, hwy⟩ : ∃ x, x = wc := ⟨_, rfl⟩
       subst hwy;obtain ⟨RR, hRR⟩ : ∃ R, Hid (rowN P1.cl P2.cl T1.l.length xl yl = R) := ⟨_, hid rfl⟩
       rw [hRR.out] at hv hsn;obtain ⟨vv, hvv⟩ : ∃ v : Vr, Hid ((⟨xe, xn, ra, rc, RR, 0⟩ : Vr) = v) := ⟨_, hid rfl⟩
       obtain ⟨OP, hOP⟩ : ∃ P, Hid (O.map Vr.pr = P) := ⟨_, hid rfl⟩
       have kpy := hid (kpx.out.trans hv.out.2.2.2 (by simp))
       have HOy := hid (show VrE.Row wy (.slice oa O.length oc) O ∧ (∀ x ∈ O, Vr.lies wy x) from ⟨HOx.out.1.keptNew hv.out.2.2.2, fun x hx => (HOx.out.2.1 x hx).kept hv.out.2.2.2⟩)
       have hOl : O.length ≤ 1048576 := by
        have h1 := congrArg List.length hO.out
        rw [List.length_map, ordN_len] at h1
        have h2 : (refN P1.cl P2.cl T1.l.length (F.take (j)) G).length ≤ F.length := by
         unfold refN; refine Nat.le_trans (List.length_filterMap_le _ _) ?_; rw [List.length_take]; omega
        omega
       have sO : Hid (VrE.See wy oa O ∧ O.length ≤ oc) := hid (by
        obtain ⟨_, _, e, hs, _, hl, _⟩ := HOy.out.1.see;have e1 := Value.slice.inj e
        rw [← e1.1] at hs;rw [← e1.2.2] at hl;exact ⟨hs, hl⟩)
       go_upto_block 10 with fail
       go_cut [23] from 188 to 202 (fun v23 wz => ∃ K : Nat, K ≤ O.length ∧ v23 = .int .i64 (K : Int) ∧ Hid (posN OP vv.pr O.length = K) ∧ Hid (Kp [] wy wz))
       case first =>
        go_wp2_with fail;go_loopw [23, 24] (fun nv bv wn => ∃ kk : Nat, kk ≤ O.length ∧ nv = .int .i64 (kk : Int) ∧ Hid (posN OP vv.pr kk = posN OP vv.pr O.length) ∧ Hid (Kp [] wy wn)) (fun nv _ _ => (intOf nv).toNat)
        case atStart => exact ⟨O.length, Nat.le_refl _, rfl, hid rfl, hid (Kp.refl _ _)⟩
        case round =>
         obtain ⟨kk, hkk, rfl, hip, kn⟩ := hrel
         cases kk with
         | zero =>
          have hp : Hid (posN OP vv.pr O.length = 0) := hid (by rw [← hip.out]; rfl)
          have hXX := hid (show ∃ K : Nat, K ≤ O.length ∧ Value.int .i64 ((0 : Nat) : Int) = .int .i64 (K : Int) ∧ Hid (posN OP vv.pr O.length = K) ∧ Hid (Kp [] wy wr) from ⟨0, Nat.zero_le _, rfl, hp, kn⟩)
          have hz0 : Hid (((0 : Nat) : Int) = 0) := hid rfl
          generalize ((0 : Nat) : Int) = zz at *
          have d1 : decide ((0 : Int) < zz) = false := by have := hz0.out; simp; omega
          have d2 : ¬ (0 : Int) < zz := by have := hz0.out; omega
          clear hip hp hz0;go_wp2_with fail;go_meet;exact hXX.out
         | succ k =>
          have hkO : k < O.length := by omega
          obtain ⟨go_, oo, eo, z0, z1, z2, z3⟩ := vrAt (sO.out.1.keptNew kn.out) (j := k) (x := O[k]) (by simp [hkO])
          have hzc : Hid (∀ W', Kp [] wy W' → W'.cell? ⟨go_, oo + k * 4, none⟩ = some (.int .u64 O[k].e) ∧ W'.cell? ⟨go_, oo + k * 4 + 1, none⟩ = some (.int .u32 O[k].n)) := hid (fun W' q => by
           obtain ⟨g4, o4, e4, z0, z1, z2, z3⟩ := vrAt (sO.out.1.keptNew q) (j := k) (x := O[k]) (by simp [hkO])
           rw [eo] at e4
           cases e4
           exact ⟨z0, z1⟩)
          have cB := hid (rNames vv O[k])
          have hpm : Hid (posN OP vv.pr (k + 1) = if nmC vv O[k] < 0 then posN OP vv.pr k else k + 1) := hid (by
           have e : OP.getD k default = O[k].pr := by rw [← hOP.out, List.getD_eq_getElem?_getD, List.getElem?_map, List.getElem?_eq_getElem hkO]; rfl
           show (if nmN vv.pr (OP.getD k default) < 0 then _ else _) = _
           rw [e, ← nmC_N])
          obtain ⟨lt, hlt2⟩ : ∃ b, Hid (decide (nmC vv O[k] < 0) = b) := ⟨_, hid rfl⟩
          have hpm2 : Hid (posN OP vv.pr (k + 1) = if lt = true then posN OP vv.pr k else k + 1) := hid (by
           rw [hpm.out, ← hlt2.out]
           by_cases c : nmC vv O[k] < 0 <;> simp [c])
          rw [hlt2.out, ← hvv.out] at cB;obtain ⟨z, hz⟩ : ∃ z, Hid (O[k] = z) := ⟨_, hid rfl⟩
          rw [hz.out] at hzc cB;obtain ⟨ze, zn, za, zc, zl, zd⟩ := z;dsimp only at hzc;have HC : Hid (∀ W', Kp [] wy W' → W'.cell? ⟨q19, 0, none⟩ = some (.int .u64 xe) ∧ W'.cell? ⟨q19, 1, none⟩ = some (.int .u32 xn) ∧ W'.cell? ⟨go_, oo + k * 4, none⟩ = some (.int .u64 ze) ∧ W'.cell? ⟨go_, oo + k * 4 + 1, none⟩ = some (.int .u32 zn)) := hid (fun W' q => ⟨(hv.out.1.kept q).get 0 _ rfl, (hv.out.1.kept q).get 1 _ rfl, hzc.out W' q⟩)
          have w1 : IntKind.i64.wrap ((k : Int) + 1 - 1) = (k : Int) := by rw [IntKind.wrap_i64]; try omega
          have w3 : IntKind.i64.wrap (k : Int) = (k : Int) := by rw [IntKind.wrap_i64]; try omega
          have k1 : (0 : Int) ≤ (k : Int) := by omega
          have k2 : (k : Int) < (O.length : Int) := by omega
          have k3 : ((k : Int) + 1).toNat = k + 1 := by omega
          have d1 : decide ((0 : Int) < (k : Int) + 1) = true := by simp <;> omega
          have hkk' := hkk
          subst eo;clear z0 z1 z2 z3 hz hpm hlt2 hzc hkk;go_wp2_with fail;refine wp_noPanicY ?_;refine wp_region_held_drew (S := fun W' => W'.cell? ⟨q19, 0, none⟩ = some (.int .u64 xe) ∧ W'.cell? ⟨q19, 1, none⟩ = some (.int .u32 xn) ∧ W'.cell? ⟨go_, oo + k * 4, none⟩ = some (.int .u64 ze) ∧ W'.cell? ⟨go_, oo + k * 4 + 1, none⟩ = some (.int .u32 zn)) (by kernel_rfl) (HC.out _ kn.out.drew) (fun hHeld => ?_)
          have KD : Hid (Kp [] wy wr.drew) := hid kn.out.drew
          generalize wr.drew = wd at *
          refine tkH ?_ 0 rfl (by kernel_rfl) (fun _ _ _ h => by cases h.1) (by rfl) ?_ ‹_› ?_;rotate_left
          ·intro w h; (try dsimp only at h); go_simp <;> with_reducible rfl
          (try simp only [Act.put, lz]);refine tkH ?_ 1 rfl (by kernel_rfl) (fun _ _ _ h => by cases h.1) (by rfl) ?_ ‹_› ?_;rotate_left
          ·intro w h; (try dsimp only at h); go_simp <;> with_reducible rfl
          (try simp only [Act.put, lz]);refine tkH ?_ 2 rfl (by kernel_rfl) (fun _ _ _ h => by cases h.1) (by rfl) ?_ ‹_› ?_;rotate_left
          ·intro w h; (try dsimp only at h); go_simp <;> with_reducible rfl
          (try simp only [Act.put, lz]);refine tkH ?_ 3 rfl (by kernel_rfl) (fun _ _ _ h => by cases h.1) (by rfl) ?_ ‹_› ?_;rotate_left
          ·intro w h; (try dsimp only at h); go_simp <;> with_reducible rfl
          (try simp only [Act.put, lz]);refine tkH ?_ 4 rfl (by kernel_rfl) (fun _ _ _ h => by cases h.1) (by rfl) ?_ ‹_› ?_;rotate_left
          ·intro w h; (try dsimp only at h); go_simp <;> with_reducible rfl
          (try simp only [Act.put, lz]);refine tkH ?_ 5 rfl (by kernel_rfl) (fun _ _ _ h => by cases h.1) (by rfl) ?_ ‹_› ?_;rotate_left
          ·intro w h; (try dsimp only at h); go_simp <;> with_reducible rfl
          (try simp only [Act.put, lz]);refine tkH ?_ 6 rfl (by kernel_rfl) (fun _ _ _ h => by cases h.1) (by rfl) ?_ ‹_› ?_;rotate_left
          ·intro w h; (try dsimp only at h); go_simp <;> with_reducible rfl
          (try simp only [Act.put, lz]);refine tkH ?_ 7 rfl (by kernel_rfl) (fun _ _ _ h => by cases h.1) (by rfl) ?_ ‹_› ?_;rotate_left
          ·intro w h; (try dsimp only at h); go_simp <;> with_reducible rfl
          (try simp only [Act.put, lz]);refine rdH 8 (by kernel_rfl) rfl fun K hK => ?_
          go_simp;refine (cB.out wd).mono ?_;rintro e we ⟨rfl, ke⟩;(try go_wp2_with fail);refine hK.out _ _ (HC.out we (KD.out.trans ke (by simp))) (fun hHeld => ?_)
          clear hK K;(try simp only [Act.put, lz]);refine tkH ?_ 9 rfl (by kernel_rfl) (fun _ _ _ h => by cases h.1) (by rfl) ?_ ‹_› ?_;rotate_left
          ·intro w h; (try dsimp only at h); go_simp <;> with_reducible rfl
          (try simp only [Act.put, lz]);refine wpAnyH_done (by kernel_rfl) ⟨rfl, ?_⟩ _
          have KE := hid (KD.out.trans ke (by simp))
          clear hHeld ke
          cases lt with
          | true =>
           have hp2 : Hid (posN OP vv.pr k = posN OP vv.pr O.length) := hid (by rw [← hip.out, hpm2.out, if_pos rfl])
           clear hip hpm2;go_wp2_with fail;go_roundw
           case rel => exact ⟨k, by omega, by go_num, hp2, KE⟩
           case measure => simp [intOf] <;> omega
          | false =>
           have hp2 : Hid (posN OP vv.pr O.length = k + 1) := hid (by rw [← hip.out, hpm2.out, if_neg (by simp)])
           clear hip hpm2;go_wp2_with fail;go_meet;exact ⟨k + 1, hkk', by simp, hp2, KE⟩
       case rest =>
        obtain ⟨K, hK, rfl, hp, kn⟩ := hcut;obtain ⟨wq, hwq⟩ : ∃ x, x = wc := ⟨_, rfl⟩
        subst hwq;have hseeW := sO.out.1.keptNew kn.out
        have hoc := sO.out.2
        have hX : Hid ((O.take K ++ vv :: O.drop K).map Vr.pr = ordN (refN P1.cl P2.cl T1.l.length (F.take (j + 1)) G)) := hid (by
         have e1 : vv.pr = (xe, xn, RR, 0) := by rw [← hvv.out]; rfl
         rw [hsn.out, ordN_snoc, ← hO.out, hOP.out, ← e1];unfold insN
         have e2 : OP.length = O.length := by rw [← hOP.out, List.length_map]
         rw [e2, hp.out, List.map_append, List.map_cons, List.map_take, List.map_drop, hOP.out])
        have hsf := fun W : World => sliceFromVr oa O.length oc K W hK
        have hsee2 : VrE.See wq (if oc = K then oa else oa.map (·.add (K * 4))) (O.drop K) := by
         by_cases hc : oc = K
         ·exact .inl (List.drop_eq_nil_of_le (by omega))
         ·rw [if_neg hc]; exact seeDropF hseeW K
        obtain ⟨cq, hcq⟩ : ∃ q, Hid ((if oc = K then oa else oa.map (·.add (K * 4))) = q) := ⟨_, hid rfl⟩
        rw [hcq.out] at hsee2;simp only [hcq.out] at hsf;obtain ⟨cc, hcc⟩ : ∃ q, Hid (oc - K = q) := ⟨_, hid rfl⟩
        simp only [hcc.out] at hsf;obtain ⟨a1, c1, Y1, a2, c2, Y2, a3, c3, Y3, r1, r2, r3, R3, n3, k1, k2, k3⟩ := app3F wq oa cq oc cc O.length K O rfl hK (hseeW.front K) hsee2 vv (by omega)
        obtain ⟨nk, hnk⟩ : ∃ q, Hid (O.length - K = q) := ⟨_, hid rfl⟩
        simp only [hnk.out] at hsf;rw [hnk.out] at r3;rw [← hvv.out] at r2;dsimp only at r2;have HSF := hid hsf
        have HST := hid (fun W : World => sliceToVr oa O.length oc K W (by omega))
        have hr1 := hid r1
        have hr2 := hid r2
        have hr3 := hid r3
        have b1 := hv.out.1.kept (kn.out.trans k1 (by simp))
        have v0 := b1.get 0 _ rfl; have v1 := b1.get 1 _ rfl; have v2 := b1.get 2 _ rfl; have v3 := b1.get 3 _ rfl
        have ky3 := kn.out.trans k3 (by simp)
        have hlx := hxl.out wy kpy.out
        obtain ⟨O4, hO4⟩ : ∃ o, Hid (O.take K ++ vv :: O.drop K = o) := ⟨_, hid rfl⟩
        have hln : O4.length = O.length + 1 := by rw [← hO4.out]; simp; omega
        rw [hO4.out] at R3 hX
        have hfin : Hid (VrE.Row Y3 (.slice a3 O4.length c3) O4 ∧ (∀ x ∈ O4, Vr.lies Y3 x) ∧ Kp [] W2 Y3) := hid ⟨R3, fun x hx => by
         rw [← hO4.out] at hx
         rcases List.mem_append.1 hx with hx | hx
         ·exact (HOy.out.2 x (List.mem_of_mem_take hx)).kept ky3
         ·rcases List.mem_cons.1 hx with rfl | hx
          ·rw [← hvv.out]
           exact Vr.lies.kept ⟨rowLies hv.out.2.1, hlx.e, hlx.n⟩ ky3
          ·exact (HOy.out.2 x (List.mem_of_mem_drop hx)).kept ky3, kpy.out.trans ky3 (by simp)⟩
        rw [← hln] at hr3;have s1 : (0 : Int) ≤ (K : Int) := by omega
        clear R3 n3 k1 k2 k3 r1 r2 r3 hseeW hsee2 hsf b1 ky3 hlx hO hsn hp;have hsl := HST.out wq
        go_upto_region 41 with (first | (refine wpAppRunY rfl _ _ 55 55 rfl _ _ _ rfl rfl hr1.out ?_) | fail)
        clear hsl;go_upto_region 42 with (first | (refine wpAppRunY rfl _ _ 55 55 rfl _ _ _ rfl rfl hr2.out ?_) | fail)
        have hsl := HSF.out Y2
        clear v0 v1 v2 v3;go_upto_region 43 with (first | (refine wpAppRunY rfl _ _ 55 55 rfl _ _ _ rfl rfl hr3.out ?_) | fail)
        clear hsl;go_wp2_with fail;go_roundw
        case rel => exact ⟨j + 1, a3, c3, O4, by omega, by go_num, by rw [hln], hX, hfin⟩
        case measure => simp [intOf]; omega
   ·have hje : j = F.length := by omega
    have hO2 : Hid (O.map Vr.pr = ordN (refN P1.cl P2.cl T1.l.length F G)) := hid (by rw [hO.out, hje, List.take_length])
    have dj1 : ¬ (j : Int) < (F.length : Int) := by omega
    have dj2 : decide ((j : Int) < (F.length : Int)) = false := by simp; omega
    have hOs : Hid (VrE.See wr oa O) := hid (by
     obtain ⟨_, _, e, hs, _⟩ := HO.out.1.see;rw [← (Value.slice.inj e).1] at hs;exact hs)
    clear hO hje;go_wp2_with fail;go_ret;exact ⟨oa, oc, O, rfl, hOs.out, HO.out.2.1, hO2.out.trans (by rw [hfg.out.1, hfg.out.2]), K2.out.trans (kp2.out.trans HO.out.2.2 (by simp)) (by simp)⟩
end Go.Proofs.YtlgfekjoknbfdaaGreatDoor
end

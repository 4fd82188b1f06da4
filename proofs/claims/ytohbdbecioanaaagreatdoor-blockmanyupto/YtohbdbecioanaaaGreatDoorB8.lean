/- Rows read: the program's Decode, the reference's. A value at the begin of bytes. takeValue. takeRuns. Decode, over what take reads. Bits, groups and words read back. -/
import Derived.Test.YtohbdbecioanaaaGreatDoorB6
import Derived.Test.YtohbdbecioanaaaGreatDoorB2
import Derived.Test.YtohbdbecioanaaaGreatDoorB3
import Derived.Laws.MakeOwn
import Derived.Test.YtohbdbecioanaaaGreatDoorB7
import Derived.Test.YtohbdbecioanaaaGreatDoorB5
section
namespace Go.Proofs.YtohbdbecioanaaaGreatDoor
open Go.RowKit Go.Hay
set_option linter.unusedVariables false
set_option linter.unusedSimpArgs false

/-- So many values, and nothing behind them. -/
def decL : Nat → List UInt8 → Option (List Val)
  | 0, bs => if bs = [] then some [] else none
  | n + 1, bs => if (rowF bs).2 = 0 then none else (decL n (bs.drop (rowF bs).2)).map ((rowF bs).1 :: ·)
/-- A row, or that there is none. -/
def decO : Option (List Val) → List Val × Int
  | some l => (l, 0)
  | none => ([], 30)
/-- What bytes are read as, or that they are no row's. -/
def decS : List UInt8 → List Val × Int
  | [] => ([], 30)
  | n :: r => if 16 < n.toNat then ([], 30) else decO (decL n.toNat r)
theorem fixF_le (add : Int) (bs : List UInt8) : (fixF add bs).2 ≤ bs.length := by
  cases bs with
  | nil => simp [fixF]
  | cons f r =>
    simp only [fixF]
    split
    · simp
    · split
      · cases r with
        | nil => simp
        | cons y s => simp only; split <;> simp
      · split
        · split
          · simp; omega
          · simp
        · simp
theorem rowF_le (bs : List UInt8) : (rowF bs).2 ≤ bs.length := by
  cases bs with
  | nil => simp [rowF]
  | cons f r =>
    simp only [rowF]
    split
    · cases r with
      | nil => simp
      | cons y s =>
        simp only
        split
        · simp; omega
        · simp
    · exact fixF_le 0 (f :: r)
/-- A row of values in a block of its own. -/
structure RowZ (w : World) (B : Nat) (l : List Val) : Prop where
  vals : ∀ j x, l[j]? = some x → w.cell? ⟨B, j * 4, none⟩ = some (.int .i64 x.k) ∧ w.cell? ⟨B, j * 4 + 1, none⟩ = some (.bool x.b) ∧ w.cell? ⟨B, j * 4 + 2, none⟩ = some (.int .i64 x.n) ∧ w.cell? ⟨B, j * 4 + 3, none⟩ = some (.string x.t)
  free : ∀ j, w.frozen? ⟨B, j, none⟩ = false
theorem RowZ.set {w : World} {B : Nat} {l : List Val} (h : RowZ w B l) (i : Nat) (x : Val) (hi : i < l.length) :
    RowZ ((((w.setCell ⟨B, i * 4, none⟩ (.int .i64 x.k)).setCell ⟨B, i * 4 + 1, none⟩ (.bool x.b)).setCell ⟨B, i * 4 + 2, none⟩ (.int .i64 x.n)).setCell ⟨B, i * 4 + 3, none⟩ (.string x.t)) B (l.set i x) := by
  have n0 : ∀ (w : World) (i j : Nat) (v : Value), i ≠ j → (w.setCell ⟨B, j, none⟩ v).cell? ⟨B, i, none⟩ = w.cell? ⟨B, i, none⟩ := fun w i j v hij => World.cell?_setCell_other _ _ _ _ (by intro e; simp only [Addr.mk.injEq] at e; omega)
  obtain ⟨z0, z1, z2, z3⟩ := h.vals i l[i] (by simp)
  refine ⟨fun j y hy => ?_, fun j => by rw [World.frozen?_setCell, World.frozen?_setCell, World.frozen?_setCell, World.frozen?_setCell]; exact h.free j⟩
  by_cases hj : j = i
  · subst hj
    rw [List.getElem?_set_self (by omega)] at hy
    cases hy
    refine ⟨?_, ?_, ?_, ?_⟩
    · rw [n0 _ _ _ _ (by omega), n0 _ _ _ _ (by omega), n0 _ _ _ _ (by omega)]
      exact World.cell?_setCell_same _ _ _ z0
    · rw [n0 _ _ _ _ (by omega), n0 _ _ _ _ (by omega)]
      exact World.cell?_setCell_same _ _ _ ((n0 _ _ _ _ (by omega)).trans z1)
    · rw [n0 _ _ _ _ (by omega)]
      exact World.cell?_setCell_same _ _ _ ((n0 _ _ _ _ (by omega)).trans ((n0 _ _ _ _ (by omega)).trans z2))
    · exact World.cell?_setCell_same _ _ _ ((n0 _ _ _ _ (by omega)).trans ((n0 _ _ _ _ (by omega)).trans ((n0 _ _ _ _ (by omega)).trans z3)))
  · rw [List.getElem?_set_ne (fun e => hj e.symm)] at hy
    obtain ⟨y0, y1, y2, y3⟩ := h.vals j y hy
    refine ⟨?_, ?_, ?_, ?_⟩
    all_goals (rw [n0 _ _ _ _ (by omega), n0 _ _ _ _ (by omega), n0 _ _ _ _ (by omega), n0 _ _ _ _ (by omega)]; assumption)
theorem RowZ.kept {w w' : World} {B : Nat} {l : List Val} (h : RowZ w B l) (hB : B < w.heap.size) (hk : Kp [] w w') : RowZ w' B l :=
  ⟨fun j x hx => by
    obtain ⟨z0, z1, z2, z3⟩ := h.vals j x hx
    exact ⟨kpAt hk z0, kpAt hk z1, kpAt hk z2, kpAt hk z3⟩, fun j => (hk.frozen (p := ⟨B, j, none⟩) hB (by simp)).trans (h.free j)⟩

/-- So many values, all nought, made. -/
theorem makeRow (n : Nat) (hn : n ≤ 16) (w : World) : ∃ W : World, (Instr.makeSlice 23 (.int .u8 n) (.int .u8 n)).run Tryz.prog w = .ok (.slice (some ⟨w.heap.size, 0, none⟩) n n) W ∧ RowZ W w.heap.size (List.replicate n nilV) ∧ Kp [] w W ∧ w.heap.size < W.heap.size := by
  obtain ⟨i, hi, hz, hz1, hz2⟩ := infoV
  have hr := run_make (P := Tryz.prog) w 23 30 i _ Tryz.underlying23 hi hz .u8 .u8 n n (by omega) (by omega) (by rw [hz2]; omega) (by omega)
  rw [Int.toNat_natCast, hz1] at hr
  refine ⟨_, hr, ⟨fun j x hx => ?_, fun j => World.frozen?_alloc_new w _ _ j⟩, (Kp.refl _ _).alloc _, by simp⟩
  have hj : j < n := by have := (List.getElem?_eq_some_iff.1 hx).1; simpa using this
  rw [List.getElem?_replicate, if_pos hj] at hx
  cases hx
  have cell : ∀ k v, k < 4 → (#[.int .i64 0, .bool false, .int .i64 0, .string ⟨#[]⟩] : Array Value)[k]! = v → (w.alloc (.cells (madeCells (Value.agg #[.int .i64 0, .bool false, .int .i64 0, .string ⟨#[]⟩]).cells (n * 4)) 30)).cell? ⟨w.heap.size, j * 4 + k, none⟩ = some v := by
    intro k v hk hv
    rw [World.cell?_alloc_new w _ _ (j * 4 + k)]
    unfold madeCells
    rw [Array.getElem?_map, Array.getElem?_range, if_pos (by omega)]
    simp only [Option.map_some, Value.cells]
    rw [show (j * 4 + k) % (#[.int .i64 0, .bool false, .int .i64 0, .string ⟨#[]⟩] : Array Value).size = k by show (j * 4 + k) % 4 = k; omega, hv]
  exact ⟨cell 0 _ (by omega) rfl, cell 1 _ (by omega) rfl, cell 2 _ (by omega) rfl, cell 3 _ (by omega) rfl⟩
theorem RowZ.asVals {w : World} {B : Nat} {l : List Val} (h : RowZ w B l) : Vals w (some ⟨B, 0, none⟩) l := by
  refine .inr ⟨B, 0, rfl, fun j x hx => ?_⟩
  rw [Nat.zero_add]
  exact h.vals j x hx
theorem decL_step (n : Nat) (bs : List UInt8) (d : List Val) : (decL (n + 1) bs).map (d ++ ·) = if (rowF bs).2 = 0 then none else (decL n (bs.drop (rowF bs).2)).map (d ++ [(rowF bs).1] ++ ·) := by
  rw [decL]
  split
  · rfl
  · rw [Option.map_map]
    congr 1
    funext l
    simp

/-- What a Decode hands back: a row. -/
def Rdn (w : World) (r : List Val × Int) (e : Ending) (w' : World) : Prop :=
  ∃ a c l E, Hid (r = (l, E)) ∧ e = .returned (.tuple #[.slice a l.length c, .int .i64 E]) ∧ Vals w' a l ∧ l.length ≤ 16 ∧ l.length ≤ c ∧ c ≤ maxLen ∧ (a = none → c = 0) ∧ Kp [] w w'

set_option maxHeartbeats 4000000 in
set_option maxRecDepth 100000 in
theorem cDecode (a : Option Addr) (c : Nat) (bs : List UInt8) (w : World) (hs : Sees w a bs) (hl : bs.length ≤ c) (hm : c ≤ maxLen) :
    Calls Tryz.prog 135 #[.slice a bs.length c] w (Rdn w (decS bs)) := by
  cases bs with
  | nil =>
    have HF : Hid (decS [] = ([], 30)) := rfl
    generalize decS [] = R at *
    rw [List.length_nil] at hl ⊢
    go_enter Tryz.func135, Tryz.ntmps135
    go_wp2_with fail
    go_ret2
    exact ⟨none, 0, [], 30, HF, rfl, .inl rfl, by simp, by simp, by simp, fun _ => rfl, Kp.refl _ _⟩
  | cons f r =>
    obtain ⟨g, o, rfl, hc⟩ : ∃ g o, a = some ⟨g, o, none⟩ ∧ ∀ j u, (f :: r)[j]? = some u → w.cell? ⟨g, o + j, none⟩ = some (.int .u8 u.toNat) := by
      rcases hs with h | h
      · cases h
      · exact h
    have hc0 : w.cell? ⟨g, o, none⟩ = some (.int .u8 f.toNat) := hc 0 f rfl
    have hg : g < w.heap.size := World.block_lt_of_cell? _ _ hc0
    have hf := f.toNat_lt
    rw [List.length_cons] at hl ⊢
    unfold maxLen at hm
    by_cases h16 : 16 < f.toNat
    · have HF : Hid (decS (f :: r) = ([], 30)) := by show _ = _; simp [decS, h16]
      generalize decS (f :: r) = R at *
      clear hc hs
      go_enter Tryz.func135, Tryz.ntmps135
      go_wp2_with fail
      go_ret2
      exact ⟨none, 0, [], 30, HF, rfl, .inl rfl, by simp, by simp, by simp, fun _ => rfl, Kp.refl _ _⟩
    · clear hc
      have hn16 : f.toNat ≤ 16 := by omega
      have HF : Hid (decS (f :: r) = decO (decL f.toNat r)) := by show _ = _; simp only [decS, if_neg h16]
      have hne : (((r.length : Int) + 1) == 0) = false := by simp; omega
      have h16' : decide ((16 : Int) < (f.toNat : Int)) = false := by simp; omega
      have htl : Sees w (some ⟨g, o + 1, none⟩) r := by have := Sees.tail hs 1; simpa [Addr.add_lit] using this
      generalize decS (f :: r) = R at *
      clear hs h16
      generalize f.toNat = n at *
      obtain ⟨W, hmk, hz, kW, hWs⟩ := makeRow n hn16 w
      have hgW : g ≠ w.heap.size := by omega
      by_cases hc1 : c = 1
      · subst hc1
        have hA : Sees W (some ⟨g, o, none⟩) r := by
          have : r = [] := by cases r with | nil => rfl | cons _ _ => simp at hl
          subst this
          exact .inl rfl
        have hnb : ∀ k ∈ blk (some ⟨g, o, none⟩), k ≠ w.heap.size := fun k hk => by have : k = g := by { simpa [blk] using hk }; omega
        go_enter Tryz.func135, Tryz.ntmps135
        go_wp2_with fail
        go_loopw [0, 25] (fun v i wn => ∃ (j : Nat) (dn : List Val) (rest : List UInt8) (m : Nat) (a' : Option Addr) (c' : Nat), j ≤ n ∧ i = .int .i64 j ∧ v = .slice a' m c' ∧ m = rest.length ∧ rest.length ≤ c' ∧ c' ≤ 9223372036854775807 ∧ Sees wn a' rest ∧ dn.length = j ∧ Hid ((decL (n - j) rest).map (dn ++ ·) = decL n r) ∧ RowZ wn w.heap.size (dn ++ List.replicate (n - j) nilV) ∧ w.heap.size < wn.heap.size ∧ (∀ k ∈ blk a', k ≠ w.heap.size) ∧ Kp [] w wn) (fun _ i _ => n - (intOf i).toNat)
        case atStart => exact ⟨0, [], r, _, _, _, Nat.zero_le _, rfl, rfl, by first | rfl | omega, by omega, by omega, hA, rfl, by show _ = _; simp, by simpa using hz, hWs, hnb, kW⟩
        case round =>
          obtain ⟨j, dn, rest, m, a', c', hj, rfl, rfl, hmr, hlc, hcm, hse, hdl, hdec, hrz, hBl, hbk, hk⟩ := hrel
          subst hmr
          have hdl' := hid hdl
          clear hdl
          by_cases hjm : j < n
          · obtain ⟨q, hq⟩ : ∃ q, n - j = q + 1 := ⟨n - j - 1, by omega⟩
            have hq' := hid hq
            rw [hq, decL_step] at hdec
            have hlen : (dn ++ List.replicate (n - j) nilV).length = n := by rw [List.length_append, hdl'.out, List.length_replicate]; omega
            obtain ⟨z0, z1, z2, z3⟩ := hrz.vals j nilV (by rw [List.getElem?_append_right (by rw [hdl'.out]; omega), hdl'.out, List.getElem?_replicate, if_pos (by omega)])
            have f0 := hrz.free (j * 4); have f1 := hrz.free (j * 4 + 1); have f2 := hrz.free (j * 4 + 2); have f3 := hrz.free (j * 4 + 3)
            have hT := cTakeValue a' c' rest wr hse hlc (by unfold maxLen; omega)
            have hle := rowF_le rest
            generalize hR' : rowF rest = rr at *
            obtain ⟨x, sz⟩ := rr
            dsimp only at hle hdec
            unfold Tk at hT
            dsimp only at hT
            have hxv : Hid (x.v = .agg #[.int .i64 x.k, .bool x.b, .int .i64 x.n, .string x.t]) := rfl
            rw [hxv.out] at hT
            have hlt0 : w.heap.size < wr.heap.size := hBl
            have hzz : Hid (RowZ wr w.heap.size (dn ++ List.replicate (n - j) nilV)) := hrz
            clear hR' hrz hxv hq
            generalize hrz' : (dn ++ List.replicate (n - j) nilV) = rz at *
            have hrz := hid hrz'
            clear hrz'
            go_wp2_with fail
            refine hT.mono ?_
            rintro e w1 ⟨rfl, k1⟩
            have kN := k1.trans (kpNew w1 (.cells #[.int .i64 x.k, .bool x.b, .int .i64 x.n, .string x.t] 30)) (by simp)
            have z0' := kpAt k1 z0; have z1' := kpAt k1 z1; have z2' := kpAt k1 z2; have z3' := kpAt k1 z3
            have g0 := (k1.frozen (p := ⟨w.heap.size, j * 4, none⟩) hlt0 (by simp)).trans f0
            have g1 := (k1.frozen (p := ⟨w.heap.size, j * 4 + 1, none⟩) hlt0 (by simp)).trans f1
            have g2 := (k1.frozen (p := ⟨w.heap.size, j * 4 + 2, none⟩) hlt0 (by simp)).trans f2
            have g3 := (k1.frozen (p := ⟨w.heap.size, j * 4 + 3, none⟩) hlt0 (by simp)).trans f3
            have hlt1 : w.heap.size < w1.heap.size := Nat.lt_of_lt_of_le hlt0 k1.size
            clear z0 z1 z2 z3 f0 f1 f2 f3 hT
            by_cases hsz : sz = 0
            · subst hsz
              have HE : Hid (R = ([], 30)) := by show _ = _; rw [HF.out, ← hdec.out]; rfl
              clear hdec HF
              go_wp2_with fail
              go_ret2
              exact ⟨none, 0, [], 30, HE, rfl, .inl rfl, by simp, by simp, by simp, fun _ => rfl, hk.trans kN (by simp)⟩
            · have hsz' : ((sz : Int) == 0) = false := by simp; omega
              rw [if_neg hsz] at hdec
              have hsz1 : (sz : Int) ≤ rest.length := by omega
              have hZ1 := (hzz.out.kept hlt0 k1).set j x (by omega)
              have hkB : Kp [w.heap.size] w1 _ := ((((Kp.refl [w.heap.size] w1).setCell (p := ⟨w.heap.size, j * 4, none⟩) (.inl (by simp)) (.int .i64 x.k)).setCell (p := ⟨w.heap.size, j * 4 + 1, none⟩) (.inl (by simp)) (.bool x.b)).setCell (p := ⟨w.heap.size, j * 4 + 2, none⟩) (.inl (by simp)) (.int .i64 x.n)).setCell (p := ⟨w.heap.size, j * 4 + 3, none⟩) (.inl (by simp)) (.string x.t)
              have hBn1 : w.heap.size < _ := Nat.lt_of_lt_of_le hlt1 hkB.size
              have hS1 := seesKeep ((seesKeep hse k1).kept hkB (fun k hk' => by simpa using hbk k hk')) (kpNew _ (.cells #[.int .i64 x.k, .bool x.b, .int .i64 x.n, .string x.t] 30))
              have hkn := ((hk.trans k1 (by simp)).trans hkB (fun k hk' => .inr (by simp at hk'; omega))).alloc (.cells #[.int .i64 x.k, .bool x.b, .int .i64 x.n, .string x.t] 30)
              have hZ := hZ1.kept hBn1 (kpNew _ (.cells #[.int .i64 x.k, .bool x.b, .int .i64 x.n, .string x.t] 30))
              have hBn := Nat.lt_of_lt_of_le hBn1 (kpNew _ (.cells #[.int .i64 x.k, .bool x.b, .int .i64 x.n, .string x.t] 30)).size
              clear hZ1 hBn1
              have hset : rz.set j x = dn ++ [x] ++ List.replicate q nilV := by
                rw [← hrz.out, hq'.out, List.replicate_succ, List.set_append_right _ _ (by rw [hdl'.out]; omega), hdl'.out]
                simp
              rw [hset] at hZ
              obtain ⟨g', o', rfl⟩ : ∃ g' o', a' = some ⟨g', o', none⟩ := by
                rcases hse with h | ⟨g', o', h, _⟩
                · subst h; simp at hsz1; omega
                · exact ⟨g', o', h⟩
              have hbk' : g' ≠ w.heap.size := hbk g' (by simp [blk])
              have hdr : (rest.drop sz).length = rest.length - sz := by simp
              have hS2 := Sees.tail hS1 sz
              rw [show (some (⟨g', o', none⟩ : Addr)).map (fun x => x.add sz) = some ⟨g', o' + sz, none⟩ by simp [Addr.add_lit]] at hS2
              have hS3 : rest.length ≤ sz → Hid (rest.drop sz = []) := fun h => List.drop_eq_nil_of_le h
              have hD : Hid (Option.map (fun x_1 => dn ++ [x] ++ x_1) (decL (n - (j + 1)) (rest.drop sz)) = decL n r) := by show _ = _; rw [show n - (j + 1) = q by have := hq'.out; omega]; exact hdec.out
              rw [show q = n - (j + 1) by have := hq'.out; omega] at hZ
              have hZ' := hid hZ
              have hdl2 : Hid ((dn ++ [x]).length = j + 1) := by show _ = _; simp [hdl'.out]
              clear hZ hdec hset hS1 hkB hse hbk
              generalize rest.drop sz = rest' at *
              by_cases hcz : c' = sz
              · have hre := (hS3 (by omega)).out
                subst hcz
                subst hre
                have hr0 : rest.length - c' = 0 := by omega
                go_wp2_with fail
                exact ⟨⟨j + 1, dn ++ [x], [], _, _, _, by omega, by go_num, rfl, by simp, by simp, by omega, .inl rfl, hdl2.out, hD, hZ'.out, hBn, by intro k hk'; simp [blk] at hk'; omega, hkn⟩, by simp [intOf]; omega⟩
              · go_wp2_with fail
                exact ⟨⟨j + 1, dn ++ [x], rest', _, _, _, by omega, by go_num, rfl, by omega, by omega, by omega, hS2, hdl2.out, hD, hZ'.out, hBn, by intro k hk'; simp [blk] at hk'; omega, hkn⟩, by simp [intOf]; omega⟩
          · obtain rfl : j = n := by omega
            have hz2 := hrz
            rw [Nat.sub_self] at hdec hz2
            rw [show dn ++ List.replicate 0 nilV = dn by simp] at hz2
            cases rest with
            | nil =>
              have HE : Hid (R = (dn, 0)) := by show _ = _; rw [HF.out, ← hdec.out]; simp [decL, decO]
              have hvs := hz2.asVals
              clear hdec HF hrz
              rw [List.length_nil]
              go_wp2_with fail
              go_ret2
              exact ⟨_, _, dn, 0, HE, by rw [hdl'.out]; rfl, hvs, by rw [hdl'.out]; omega, by rw [hdl'.out]; omega, by unfold maxLen; omega, by simp, hk⟩
            | cons y s =>
              have HE : Hid (R = ([], 30)) := by show _ = _; rw [HF.out, ← hdec.out]; simp [decL, decO]
              clear hdec HF hrz
              rw [List.length_cons]
              go_wp2_with fail
              go_ret2
              exact ⟨none, 0, [], 30, HE, rfl, .inl rfl, by simp, by simp, by simp, fun _ => rfl, hk⟩
      · have hA : Sees W (some ⟨g, o + 1, none⟩) r := seesKeep htl kW
        have hnb : ∀ k ∈ blk (some ⟨g, o + 1, none⟩), k ≠ w.heap.size := fun k hk => by have : k = g := by { simpa [blk] using hk }; omega
        go_enter Tryz.func135, Tryz.ntmps135
        go_wp2_with fail
        go_loopw [0, 25] (fun v i wn => ∃ (j : Nat) (dn : List Val) (rest : List UInt8) (m : Nat) (a' : Option Addr) (c' : Nat), j ≤ n ∧ i = .int .i64 j ∧ v = .slice a' m c' ∧ m = rest.length ∧ rest.length ≤ c' ∧ c' ≤ 9223372036854775807 ∧ Sees wn a' rest ∧ dn.length = j ∧ Hid ((decL (n - j) rest).map (dn ++ ·) = decL n r) ∧ RowZ wn w.heap.size (dn ++ List.replicate (n - j) nilV) ∧ w.heap.size < wn.heap.size ∧ (∀ k ∈ blk a', k ≠ w.heap.size) ∧ Kp [] w wn) (fun _ i _ => n - (intOf i).toNat)
        case atStart => exact ⟨0, [], r, _, _, _, Nat.zero_le _, rfl, rfl, by first | rfl | omega, by omega, by omega, hA, rfl, by show _ = _; simp, by simpa using hz, hWs, hnb, kW⟩
        case round =>
          obtain ⟨j, dn, rest, m, a', c', hj, rfl, rfl, hmr, hlc, hcm, hse, hdl, hdec, hrz, hBl, hbk, hk⟩ := hrel
          subst hmr
          have hdl' := hid hdl
          clear hdl
          by_cases hjm : j < n
          · obtain ⟨q, hq⟩ : ∃ q, n - j = q + 1 := ⟨n - j - 1, by omega⟩
            have hq' := hid hq
            rw [hq, decL_step] at hdec
            have hlen : (dn ++ List.replicate (n - j) nilV).length = n := by rw [List.length_append, hdl'.out, List.length_replicate]; omega
            obtain ⟨z0, z1, z2, z3⟩ := hrz.vals j nilV (by rw [List.getElem?_append_right (by rw [hdl'.out]; omega), hdl'.out, List.getElem?_replicate, if_pos (by omega)])
            have f0 := hrz.free (j * 4); have f1 := hrz.free (j * 4 + 1); have f2 := hrz.free (j * 4 + 2); have f3 := hrz.free (j * 4 + 3)
            have hT := cTakeValue a' c' rest wr hse hlc (by unfold maxLen; omega)
            have hle := rowF_le rest
            generalize hR' : rowF rest = rr at *
            obtain ⟨x, sz⟩ := rr
            dsimp only at hle hdec
            unfold Tk at hT
            dsimp only at hT
            have hxv : Hid (x.v = .agg #[.int .i64 x.k, .bool x.b, .int .i64 x.n, .string x.t]) := rfl
            rw [hxv.out] at hT
            have hlt0 : w.heap.size < wr.heap.size := hBl
            have hzz : Hid (RowZ wr w.heap.size (dn ++ List.replicate (n - j) nilV)) := hrz
            clear hR' hrz hxv hq
            generalize hrz' : (dn ++ List.replicate (n - j) nilV) = rz at *
            have hrz := hid hrz'
            clear hrz'
            go_wp2_with fail
            refine hT.mono ?_
            rintro e w1 ⟨rfl, k1⟩
            have kN := k1.trans (kpNew w1 (.cells #[.int .i64 x.k, .bool x.b, .int .i64 x.n, .string x.t] 30)) (by simp)
            have z0' := kpAt k1 z0; have z1' := kpAt k1 z1; have z2' := kpAt k1 z2; have z3' := kpAt k1 z3
            have g0 := (k1.frozen (p := ⟨w.heap.size, j * 4, none⟩) hlt0 (by simp)).trans f0
            have g1 := (k1.frozen (p := ⟨w.heap.size, j * 4 + 1, none⟩) hlt0 (by simp)).trans f1
            have g2 := (k1.frozen (p := ⟨w.heap.size, j * 4 + 2, none⟩) hlt0 (by simp)).trans f2
            have g3 := (k1.frozen (p := ⟨w.heap.size, j * 4 + 3, none⟩) hlt0 (by simp)).trans f3
            have hlt1 : w.heap.size < w1.heap.size := Nat.lt_of_lt_of_le hlt0 k1.size
            clear z0 z1 z2 z3 f0 f1 f2 f3 hT
            by_cases hsz : sz = 0
            · subst hsz
              have HE : Hid (R = ([], 30)) := by show _ = _; rw [HF.out, ← hdec.out]; rfl
              clear hdec HF
              go_wp2_with fail
              go_ret2
              exact ⟨none, 0, [], 30, HE, rfl, .inl rfl, by simp, by simp, by simp, fun _ => rfl, hk.trans kN (by simp)⟩
            · have hsz' : ((sz : Int) == 0) = false := by simp; omega
              rw [if_neg hsz] at hdec
              have hsz1 : (sz : Int) ≤ rest.length := by omega
              have hZ1 := (hzz.out.kept hlt0 k1).set j x (by omega)
              have hkB : Kp [w.heap.size] w1 _ := ((((Kp.refl [w.heap.size] w1).setCell (p := ⟨w.heap.size, j * 4, none⟩) (.inl (by simp)) (.int .i64 x.k)).setCell (p := ⟨w.heap.size, j * 4 + 1, none⟩) (.inl (by simp)) (.bool x.b)).setCell (p := ⟨w.heap.size, j * 4 + 2, none⟩) (.inl (by simp)) (.int .i64 x.n)).setCell (p := ⟨w.heap.size, j * 4 + 3, none⟩) (.inl (by simp)) (.string x.t)
              have hBn1 : w.heap.size < _ := Nat.lt_of_lt_of_le hlt1 hkB.size
              have hS1 := seesKeep ((seesKeep hse k1).kept hkB (fun k hk' => by simpa using hbk k hk')) (kpNew _ (.cells #[.int .i64 x.k, .bool x.b, .int .i64 x.n, .string x.t] 30))
              have hkn := ((hk.trans k1 (by simp)).trans hkB (fun k hk' => .inr (by simp at hk'; omega))).alloc (.cells #[.int .i64 x.k, .bool x.b, .int .i64 x.n, .string x.t] 30)
              have hZ := hZ1.kept hBn1 (kpNew _ (.cells #[.int .i64 x.k, .bool x.b, .int .i64 x.n, .string x.t] 30))
              have hBn := Nat.lt_of_lt_of_le hBn1 (kpNew _ (.cells #[.int .i64 x.k, .bool x.b, .int .i64 x.n, .string x.t] 30)).size
              clear hZ1 hBn1
              have hset : rz.set j x = dn ++ [x] ++ List.replicate q nilV := by
                rw [← hrz.out, hq'.out, List.replicate_succ, List.set_append_right _ _ (by rw [hdl'.out]; omega), hdl'.out]
                simp
              rw [hset] at hZ
              obtain ⟨g', o', rfl⟩ : ∃ g' o', a' = some ⟨g', o', none⟩ := by
                rcases hse with h | ⟨g', o', h, _⟩
                · subst h; simp at hsz1; omega
                · exact ⟨g', o', h⟩
              have hbk' : g' ≠ w.heap.size := hbk g' (by simp [blk])
              have hdr : (rest.drop sz).length = rest.length - sz := by simp
              have hS2 := Sees.tail hS1 sz
              rw [show (some (⟨g', o', none⟩ : Addr)).map (fun x => x.add sz) = some ⟨g', o' + sz, none⟩ by simp [Addr.add_lit]] at hS2
              have hS3 : rest.length ≤ sz → Hid (rest.drop sz = []) := fun h => List.drop_eq_nil_of_le h
              have hD : Hid (Option.map (fun x_1 => dn ++ [x] ++ x_1) (decL (n - (j + 1)) (rest.drop sz)) = decL n r) := by show _ = _; rw [show n - (j + 1) = q by have := hq'.out; omega]; exact hdec.out
              rw [show q = n - (j + 1) by have := hq'.out; omega] at hZ
              have hZ' := hid hZ
              have hdl2 : Hid ((dn ++ [x]).length = j + 1) := by show _ = _; simp [hdl'.out]
              clear hZ hdec hset hS1 hkB hse hbk
              generalize rest.drop sz = rest' at *
              by_cases hcz : c' = sz
              · have hre := (hS3 (by omega)).out
                subst hcz
                subst hre
                have hr0 : rest.length - c' = 0 := by omega
                go_wp2_with fail
                exact ⟨⟨j + 1, dn ++ [x], [], _, _, _, by omega, by go_num, rfl, by simp, by simp, by omega, .inl rfl, hdl2.out, hD, hZ'.out, hBn, by intro k hk'; simp [blk] at hk'; omega, hkn⟩, by simp [intOf]; omega⟩
              · go_wp2_with fail
                exact ⟨⟨j + 1, dn ++ [x], rest', _, _, _, by omega, by go_num, rfl, by omega, by omega, by omega, hS2, hdl2.out, hD, hZ'.out, hBn, by intro k hk'; simp [blk] at hk'; omega, hkn⟩, by simp [intOf]; omega⟩
          · obtain rfl : j = n := by omega
            have hz2 := hrz
            rw [Nat.sub_self] at hdec hz2
            rw [show dn ++ List.replicate 0 nilV = dn by simp] at hz2
            cases rest with
            | nil =>
              have HE : Hid (R = (dn, 0)) := by show _ = _; rw [HF.out, ← hdec.out]; simp [decL, decO]
              have hvs := hz2.asVals
              clear hdec HF hrz
              rw [List.length_nil]
              go_wp2_with fail
              go_ret2
              exact ⟨_, _, dn, 0, HE, by rw [hdl'.out]; rfl, hvs, by rw [hdl'.out]; omega, by rw [hdl'.out]; omega, by unfold maxLen; omega, by simp, hk⟩
            | cons y s =>
              have HE : Hid (R = ([], 30)) := by show _ = _; rw [HF.out, ← hdec.out]; simp [decL, decO]
              clear hdec HF hrz
              rw [List.length_cons]
              go_wp2_with fail
              go_ret2
              exact ⟨none, 0, [], 30, HE, rfl, .inl rfl, by simp, by simp, by simp, fun _ => rfl, hk⟩
end Go.Proofs.YtohbdbecioanaaaGreatDoor
end

section
namespace Go.Proofs.YtohbdbecioanaaaGreatDoor
open Go.RowKit Go.Hay
set_option linter.unusedVariables false
set_option linter.unusedSimpArgs false

def vsz : List UInt8 → Nat
  | [] => 0
  | x :: r => if x.toNat = 0 then 1 else if x.toNat = 1 then 2 else if x.toNat = 2 then 9 else if x.toNat = 3 then (match r with | [] => 0 | y :: _ => 2 + y.toNat) else 0
theorem vsz_le (bs : List UInt8) : vsz bs ≤ 300 := by
  cases bs with
  | nil => simp [vsz]
  | cons x r =>
    cases r with
    | nil => simp [vsz]; split <;> (try split) <;> (try split) <;> omega
    | cons y r =>
      have := y.toNat_lt
      simp [vsz]
      split
      · omega
      · split
        · omega
        · split
          · omega
          · split <;> omega
set_option maxHeartbeats 2000000 in
theorem cValueSize (a : Option Addr) (c : Nat) (bs : List UInt8) (w : World) (hs : Sees w a bs) (hl : bs.length ≤ 900000000000000) : Calls Tryz.prog 134 #[.slice a bs.length c] w fun e w' => e = .returned (.int .i64 (vsz bs : Int)) ∧ w' = w := by
  cases bs with
  | nil =>
    have hv : Hid (vsz [] = 0) := rfl
    rw [hv.out, List.length_nil]
    clear hs hl hv
    go_enter Tryz.func134, Tryz.ntmps134
    go_wp2_with fail
    go_ret
    exact ⟨rfl, rfl⟩
  | cons x r =>
    obtain ⟨g, o, rfl, hc⟩ : ∃ g o, a = some ⟨g, o, none⟩ ∧ ∀ j u, (x :: r)[j]? = some u → w.cell? ⟨g, o + j, none⟩ = some (.int .u8 u.toNat) := by
      rcases hs with h | h
      · cases h
      · exact h
    have h0 := hc 0 x rfl
    rw [Nat.add_zero] at h0
    have hx := x.toNat_lt
    have hv : Hid (vsz (x :: r) = if x.toNat = 0 then 1 else if x.toNat = 1 then 2 else if x.toNat = 2 then 9 else if x.toNat = 3 then (match r with | [] => 0 | y :: _ => 2 + y.toNat) else 0) := rfl
    have h1 : Hid (∀ y r', r = y :: r' → w.cell? ⟨g, o + 1, none⟩ = some (.int .u8 y.toNat)) := fun y r' e => hc 1 y (by rw [e]; rfl)
    obtain ⟨V, hV⟩ : ∃ V, Hid (vsz (x :: r) = V) := ⟨_, rfl⟩
    rw [hV.out] at hv ⊢
    clear hs hc hV
    obtain ⟨n, hn⟩ : ∃ n, Hid (x.toNat = n) := ⟨_, rfl⟩
    rw [hn.out] at h0 hv hx
    rw [List.length_cons] at hl ⊢
    have hne : (((r.length + 1 : Nat) : Int) == 0) = false := by rw [beq_eq_false_iff_ne]; omega
    by_cases e0 : n = 0
    · subst e0
      have : V = 1 := by rw [hv.out]; rfl
      subst this
      clear hv h1 hn
      go_enter Tryz.func134, Tryz.ntmps134
      go_wp2_with fail
      go_ret
      exact ⟨rfl, rfl⟩
    by_cases e1 : n = 1
    · subst e1
      have : V = 2 := by rw [hv.out]; rfl
      subst this
      clear hv h1 hn e0
      go_enter Tryz.func134, Tryz.ntmps134
      go_wp2_with fail
      go_ret
      exact ⟨rfl, rfl⟩
    by_cases e2 : n = 2
    · subst e2
      have : V = 9 := by rw [hv.out]; rfl
      subst this
      clear hv h1 hn e0 e1
      go_enter Tryz.func134, Tryz.ntmps134
      go_wp2_with fail
      go_ret
      exact ⟨rfl, rfl⟩
    by_cases e3 : n = 3
    · subst e3
      cases r with
      | nil =>
        have : V = 0 := by rw [hv.out]; rfl
        subst this
        rw [List.length_nil]
        clear hv h1 hn e0 e1 e2 hne
        go_enter Tryz.func134, Tryz.ntmps134
        go_wp2_with fail
        go_ret
        exact ⟨rfl, rfl⟩
      | cons y r =>
        have : V = 2 + y.toNat := by rw [hv.out]; rfl
        subst this
        have hy := y.toNat_lt
        have h1' := h1.out y r rfl
        obtain ⟨m, hm⟩ : ∃ m, Hid (y.toNat = m) := ⟨_, rfl⟩
        rw [hm.out] at h1' hy ⊢
        rw [List.length_cons] at *
        have hgt : (1 : Int) < ((r.length + 1 + 1 : Nat) : Int) := by omega
        clear hv h1 hn e0 e1 e2 hm
        go_enter Tryz.func134, Tryz.ntmps134
        go_wp2_with fail
        go_ret
        exact ⟨by go_num, rfl⟩
    · have : V = 0 := by rw [hv.out, if_neg e0, if_neg e1, if_neg e2, if_neg e3]
      subst this
      have d0 : ((n : Int) == 0) = false := by rw [beq_eq_false_iff_ne]; omega
      have d1 : ((n : Int) == 1) = false := by rw [beq_eq_false_iff_ne]; omega
      have d2 : ((n : Int) == 2) = false := by rw [beq_eq_false_iff_ne]; omega
      have d3 : ((n : Int) == 3) = false := by rw [beq_eq_false_iff_ne]; omega
      clear hv h1 hn
      go_enter Tryz.func134, Tryz.ntmps134
      go_wp2_with fail
      go_ret
      exact ⟨rfl, rfl⟩
end Go.Proofs.YtohbdbecioanaaaGreatDoor
end

section
namespace Go.Proofs.YtohbdbecioanaaaGreatDoor
open Go.RowKit Go.Hay
set_option linter.unusedVariables false
set_option linter.unusedSimpArgs false

theorem decS_one (r l : List UInt8) (m : List Val) (h : decS (1 :: r) = (m, 0)) : ∃ x, m = [x] := by
  simp only [decS] at h
  rw [if_neg (by decide)] at h
  have e : (1 : UInt8).toNat = 1 := rfl
  rw [e] at h
  simp only [decL] at h
  split at h
  · simp [decO] at h
  · cases hd : (if r.drop (rowF r).2 = [] then some ([] : List Val) else none) with
    | none => rw [hd] at h; simp [decO] at h
    | some q =>
      rw [hd] at h
      split at hd
      · cases hd
        simp [decO] at h
        exact ⟨_, h.symm⟩
      · cases hd
/-- The value at the begin, and how many bytes it has (0: none). -/
def tkV (bs : List UInt8) : Val × Nat := if vsz bs = 0 ∨ bs.length < vsz bs then (nilV, 0) else if (decS (1 :: bs.take (vsz bs))).2 = 0 then ((decS (1 :: bs.take (vsz bs))).1.getD 0 nv, vsz bs) else (nilV, 0)
set_option maxHeartbeats 4000000 in
set_option maxRecDepth 100000 in
theorem cTakeV (a : Option Addr) (c : Nat) (bs : List UInt8) (w : World) (hs : Sees w a bs) (hl : bs.length ≤ c) (hm : c ≤ maxLen) (hb : bs.length ≤ 900000000000000) :
    Calls Tryz.prog 123 #[.slice a bs.length c] w (Tk w (tkV bs)) := by
  have kW : Kp [] w (w.alloc (.cells #[.int .i64 0, .bool false, .int .i64 0, .string ⟨#[]⟩] 30)) := (Kp.refl _ _).alloc _
  have bA := Box4.new w (.int .i64 0) (.bool false) (.int .i64 0) (.string ⟨#[]⟩) 30
  obtain ⟨w0, hw0⟩ : ∃ w0, w.alloc (.cells #[.int .i64 0, .bool false, .int .i64 0, .string ⟨#[]⟩] 30) = w0 := ⟨_, rfl⟩
  rw [hw0] at kW bA
  have cV := cValueSize a c bs w0 (hs.kept kW (by simp)) hb
  have hT : Hid (tkV bs = if vsz bs = 0 ∨ bs.length < vsz bs then (nilV, 0) else if (decS (1 :: bs.take (vsz bs))).2 = 0 then ((decS (1 :: bs.take (vsz bs))).1.getD 0 nv, vsz bs) else (nilV, 0)) := rfl
  have hvl := vsz_le bs
  obtain ⟨R, hR⟩ : ∃ R, Hid (tkV bs = R) := ⟨_, rfl⟩
  obtain ⟨n, hn⟩ : ∃ n, Hid (vsz bs = n) := ⟨_, rfl⟩
  rw [hR.out] at hT ⊢
  rw [hn.out] at cV hT hvl
  have hs' := hid hs
  unfold maxLen at hm
  have q0 := bA.c0; have q1 := bA.c1; have q2 := bA.c2; have q3 := bA.c3
  have f0 := bA.free 0; have f1 := bA.free 1; have f2 := bA.free 2; have f3 := bA.free 3
  by_cases hbad : n = 0 ∨ bs.length < n
  · have HF : Hid (R = (nilV, 0)) := by show _ = _; rw [hT.out, if_pos hbad]
    clear hT hs hs'
    go_enter Tryz.func123, Tryz.ntmps123
    go_wp2_with fail
    refine cV.mono ?_
    rintro e w9 ⟨rfl, hw9⟩
    rw [hw9]
    clear hw9 w9 cV
    rcases hbad with h0 | h0
    · subst h0
      go_wp2_with fail
      refine gen4 (R := fun W => bodyPost _ _ _ _ _ W) bA kW (Nat.le_refl _) _ _ _ _ ?_
      intro W bW kW2
      have r0 := bW.c0; have r1 := bW.c1; have r2 := bW.c2; have r3 := bW.c3
      refine bodyPost_ret (v := .tuple #[Val.v nilV, .int .i64 0]) (by simp [results, Tryz.results123, go_sem, Val.v, nilV, r0, r1, r2, r3]) rfl ⟨?_, kW2⟩
      rw [HF.out]; rfl
    · have d0 : ((n : Int) == 0) = false := by rw [beq_eq_false_iff_ne]; omega
      have d1 : (bs.length : Int) < (n : Int) := by omega
      go_wp2_with fail
      refine gen4 (R := fun W => bodyPost _ _ _ _ _ W) bA kW (Nat.le_refl _) _ _ _ _ ?_
      intro W bW kW2
      have r0 := bW.c0; have r1 := bW.c1; have r2 := bW.c2; have r3 := bW.c3
      refine bodyPost_ret (v := .tuple #[Val.v nilV, .int .i64 0]) (by simp [results, Tryz.results123, go_sem, Val.v, nilV, r0, r1, r2, r3]) rfl ⟨?_, kW2⟩
      rw [HF.out]; rfl
  · have hn0 : 0 < n := by omega
    have hnl : n ≤ bs.length := by omega
    rw [if_neg hbad] at hT
    clear hbad
    obtain ⟨g, o, rfl⟩ : ∃ g o, a = some ⟨g, o, none⟩ := by
      rcases hs with h | ⟨g, o, h, _⟩
      · rw [h] at hnl; simp at hnl; omega
      · exact ⟨g, o, h⟩
    have hsf : Hid (∀ W, Kp [] w W → Sees W (some ⟨g, o, none⟩) (bs.take n)) := fun W kW => (hs'.out.kept kW (by simp)).front n
    have htl : (bs.take n).length = n := by simp; omega
    obtain ⟨T, hTT⟩ : ∃ T, Hid (bs.take n = T) := ⟨_, rfl⟩
    rw [hTT.out] at hT htl
    simp only [hTT.out] at hsf
    have hd1 := hid (decS_one T T)
    have hjn : Hid (∀ Y X, w0.alloc (.cells #[.int .u8 1] 5) = Y → Y.alloc (.cells #[.slice (some ⟨w0.heap.size, 0, none⟩) 1 1, .slice (some ⟨g, o, none⟩) n c] 22) = X → Kp [] w0 X ∧ Calls Tryz.prog 100 #[.slice (some ⟨Y.heap.size, 0, none⟩) 2 2] X (NB (1 :: T) X)) := fun Y X hY hX => by
      have kY : Kp [] w0 Y := by rw [← hY]; exact (Kp.refl _ _).alloc _
      have kX : Kp [] Y X := by rw [← hX]; exact (Kp.refl _ _).alloc _
      have h1 : Sees Y (some ⟨w0.heap.size, 0, none⟩) [1] := by rw [← hY]; exact oneB w0 rfl 1 1 rfl _
      have h2 : BsE.See X (some ⟨Y.heap.size, 0, none⟩) [⟨some ⟨w0.heap.size, 0, none⟩, 1, [1]⟩, ⟨some ⟨g, o, none⟩, c, T⟩] := by
        rw [← hX]
        have := twoBs Y rfl ⟨some ⟨w0.heap.size, 0, none⟩, 1, [1]⟩ ⟨some ⟨g, o, none⟩, c, T⟩ 22
        simp only [List.length_singleton, htl] at this
        exact this
      have := cJoin (some ⟨Y.heap.size, 0, none⟩) 2 [⟨some ⟨w0.heap.size, 0, none⟩, 1, [1]⟩, ⟨some ⟨g, o, none⟩, c, T⟩] X h2 (fun x hx => by
        simp only [List.mem_cons, List.not_mem_nil, or_false] at hx
        rcases hx with rfl | rfl
        · exact h1.kept kX (by simp)
        · exact hsf.out X ((kW.trans kY (by simp)).trans kX (by simp))) (by simp) (by simp [flatB, htl]; omega)
      have e : flatB [⟨some ⟨w0.heap.size, 0, none⟩, 1, [1]⟩, ⟨some ⟨g, o, none⟩, c, T⟩] = 1 :: T := by simp [flatB]
      rw [e] at this
      exact ⟨kY.trans kX (by simp), this⟩
    have hDec : Hid (∀ Z b c', Row Z (.slice b (1 :: T).length c') (1 :: T) → Calls Tryz.prog 135 #[.slice b (1 :: T).length c'] Z (Rdn Z (decS (1 :: T)))) := fun Z b c' hr => by
      obtain ⟨_, _, e, h1, _⟩ := hr.sees
      injection e with e1 e2 e3
      subst e1
      rcases hr with ⟨_, h⟩ | ⟨g9, o9, cap, e, hl9, hm9, _⟩
      · cases h
      · injection e with e4 e5 e6
        exact cDecode b c' (1 :: T) Z h1 (by rw [e6]; exact hl9) (by rw [e6]; exact hm9)
    obtain ⟨⟨D1, D2⟩, hD⟩ : ∃ D, Hid (decS (1 :: T) = D) := ⟨_, rfl⟩
    rw [hD.out] at hT hd1
    simp only [hD.out] at hDec
    dsimp only at hT
    have hTl : Hid ((1 :: T).length = n + 1) := by show _ = _; simp [htl]
    obtain ⟨T1, hT1⟩ : ∃ T1, Hid ((1 : UInt8) :: T = T1) := ⟨_, rfl⟩
    simp only [hT1.out] at hjn hDec
    clear hs hs' hsf htl hTT hTl hT1 hD
    go_enter Tryz.func123, Tryz.ntmps123
    go_wp2_with fail
    refine cV.mono ?_
    rintro e w9 ⟨rfl, hw9⟩
    rw [hw9]
    clear hw9 w9 cV
    obtain ⟨Y, hY⟩ : ∃ Y, w0.alloc (.cells #[.int .u8 1] 5) = Y := ⟨_, rfl⟩
    obtain ⟨X, hX⟩ : ∃ X, Y.alloc (.cells #[.slice (some ⟨w0.heap.size, 0, none⟩) 1 1, .slice (some ⟨g, o, none⟩) n c] 22) = X := ⟨_, rfl⟩
    obtain ⟨kX, cJ⟩ := hjn.out Y X hY hX
    have d0 : ((n : Int) == 0) = false := by rw [beq_eq_false_iff_ne]; omega
    have d1 : ¬ (bs.length : Int) < (n : Int) := by omega
    clear hjn
    go_wp2_with fail
    refine cJ.mono ?_
    rintro e Z ⟨b2, c2, rfl, hr2, kZ, hn2⟩
    have cD := hDec.out Z b2 c2 hr2
    have kZ0 := kX.trans kZ (by simp)
    clear hr2 hDec cJ hn2 kX kZ
    go_wp2_with fail
    refine cD.mono ?_
    rintro e U ⟨a3, c3, l3, E3, h3, rfl, hv3, hl3, hl3c, hc3, _, kU⟩
    obtain ⟨e1, e2⟩ := Prod.mk.inj h3.out
    subst e1 e2
    have kU0 := kZ0.trans kU (by simp)
    have bU := boxKeep bA kU0
    have kWU := kW.trans kU0 (by simp)
    clear q0 q1 q2 q3 f0 f1 f2 f3 cD kZ0 kU h3
    have q0 := bU.c0; have q1 := bU.c1; have q2 := bU.c2; have q3 := bU.c3
    have f0 := bU.free 0; have f1 := bU.free 1; have f2 := bU.free 2; have f3 := bU.free 3
    by_cases hE : D2 = 0
    · subst hE
      obtain ⟨x, rfl⟩ := hd1.out D1 rfl
      obtain ⟨g3, o3, rfl, y0, y1, y2, y3⟩ := hv3.at 0 (by simp)
      rw [Nat.zero_mul, Nat.add_zero] at y0 y1 y2 y3
      have HF : Hid (R = (x, n)) := by show _ = _; rw [hT.out]; rfl
      simp only [List.getElem_cons_zero, List.length_singleton] at *
      obtain ⟨xk, xb, xn, xt⟩ := x
      dsimp only at y0 y1 y2 y3
      clear hT hv3 hd1
      go_wp2_with fail
      refine gen4 (R := fun W => bodyPost _ _ _ _ _ W) bU kWU (Nat.le_refl _) _ _ _ _ ?_
      intro W bW kW2
      have r0 := bW.c0; have r1 := bW.c1; have r2 := bW.c2; have r3 := bW.c3
      refine bodyPost_ret (v := .tuple #[Val.v ⟨xk, xb, xn, xt⟩, .int .i64 n]) (by simp [results, Tryz.results123, go_sem, Val.v, nilV, r0, r1, r2, r3]) rfl ⟨?_, kW2⟩
      rw [HF.out]
    · have HF : Hid (R = (nilV, 0)) := by show _ = _; rw [hT.out, if_neg hE]
      have d3 : (D2 != 0) = true := by simpa using hE
      have d4 : (D2 == 0) = false := by simpa using hE
      clear hT hv3 hd1
      go_wp2_with fail
      refine gen4 (R := fun W => bodyPost _ _ _ _ _ W) bU kWU (Nat.le_refl _) _ _ _ _ ?_
      intro W bW kW2
      have r0 := bW.c0; have r1 := bW.c1; have r2 := bW.c2; have r3 := bW.c3
      refine bodyPost_ret (v := .tuple #[Val.v nilV, .int .i64 0]) (by simp [results, Tryz.results123, go_sem, Val.v, nilV, r0, r1, r2, r3]) rfl ⟨?_, kW2⟩
      rw [HF.out]; rfl
end Go.Proofs.YtohbdbecioanaaaGreatDoor
end

section
namespace Go.Proofs.YtohbdbecioanaaaGreatDoor
open Go.RowKit Go.Hay
set_option linter.unusedVariables false
set_option linter.unusedSimpArgs false

theorem tkV_le (bs : List UInt8) : (tkV bs).2 ≤ bs.length := by
  unfold tkV
  split
  · exact Nat.zero_le _
  · rename_i h
    split
    · show vsz bs ≤ _; omega
    · exact Nat.zero_le _
/-- Runs, till there are so many values. -/
def tkR (many : Nat) (acc : List Val) (bs : List UInt8) : Option (List Val) :=
  if many ≤ acc.length then some acc else
    match bs with
    | [] => none
    | c :: r => if (tkV r).2 = 0 then none else tkR many (acc ++ List.replicate c.toNat (tkV r).1) (r.drop (tkV r).2)
termination_by bs.length
decreasing_by simp; omega
theorem tkR_done {many : Nat} {acc : List Val} {bs : List UInt8} (h : many ≤ acc.length) : tkR many acc bs = some acc := by rw [tkR.eq_def, if_pos h]
theorem tkR_nil {many : Nat} {acc : List Val} (h : ¬ many ≤ acc.length) : tkR many acc [] = none := by rw [tkR.eq_def, if_neg h]
theorem tkR_cons {many : Nat} {acc : List Val} {c : UInt8} {r : List UInt8} (h : ¬ many ≤ acc.length) : tkR many acc (c :: r) = if (tkV r).2 = 0 then none else tkR many (acc ++ List.replicate c.toNat (tkV r).1) (r.drop (tkV r).2) := by rw [tkR.eq_def, if_neg h]
def okV : Option (List Val) → List Val × Bool
  | none => ([], false)
  | some l => (l, true)
/-- What a call that takes values hands back. -/
def TkL (w : World) (r : List Val × Bool) (e : Ending) (w' : World) : Prop := ∃ a c, e = .returned (.tuple #[.slice a r.1.length c, .bool r.2]) ∧ VE.Row w' (.slice a r.1.length c) r.1 ∧ Kp [] w w' ∧ ∀ k ∈ blk a, w.heap.size ≤ k
theorem tkL_none (w w' : World) (k : Kp [] w w') : TkL w ([], false) (.returned (.tuple #[.slice none 0 0, .bool false])) w' := ⟨none, 0, rfl, .inl ⟨rfl, rfl⟩, k, by simp [blk]⟩
theorem oneV (w : World) {q : Nat} (hq : w.heap.size = q) (x : Val) (t : TypeId) : VE.See (w.alloc (.cells #[.int .i64 x.k, .bool x.b, .int .i64 x.n, .string x.t] t)) (some ⟨q, 0, none⟩) [x] := by
  subst hq
  refine .inr ⟨_, 0, rfl, fun j u hu => ?_⟩
  have e : (w.alloc (.cells #[.int .i64 x.k, .bool x.b, .int .i64 x.n, .string x.t] t)).cell? ⟨w.heap.size, 0 + j, none⟩ = _ := World.cell?_alloc_new w _ _ (0 + j)
  rw [e, Nat.zero_add]
  simpa [El.cs, VE] using hu
/-- An append whose run is known, for the walk. -/
theorem wpAppRun {P : Program} {w w' : World} {ops : Array Oper} {rest : List Oper} {o : Oper} {a : Act} {Q : Exit → Act → World → Prop} (hgd : o.guard = none) (s x : Operand) (t tx : TypeId)
    (ho : o.op = .call { callee := .builtin .append, args := #[s, x], argTypes := #[t, tx] }) (v xv v' : Value) (hv : a.eval s = v) (hx : a.eval x = xv)
    (hrun : (Builtin.append_ #[t, tx] o.type #[v, xv]).run P w = .ok v' w') (hK : wpList P ops Q rest (a.put o.dst v') w') : wpList P ops Q (o :: rest) a w := by
  refine wpList_plain hgd fun K hK' => ?_
  have hfin := hK' _ _ hK
  unfold Oper.wp
  simp [execOp, ho, resolve, invoke, builtin, hv, hx, hrun, Result.andThen]
  exact hfin
structure TrI (w W : World) (ba : Option Addr) (bc : Nat) (rest : List UInt8) (la : Option Addr) (lc : Nat) (acc : List Val) : Prop where
  see : Sees w ba rest
  len : rest.length ≤ bc
  cap : bc ≤ 9223372036854775807
  few : rest.length ≤ 900000000000000
  row : VE.Row W (.slice la acc.length lc) acc
  new : ∀ k ∈ blk la, w.heap.size ≤ k
  kp : Kp [] w W
set_option maxHeartbeats 8000000 in
set_option maxRecDepth 100000 in
theorem cTakeRuns (a : Option Addr) (c : Nat) (bs : List UInt8) (many : Nat) (w : World) (hs : Sees w a bs) (hl : bs.length ≤ c) (hm : c ≤ maxLen) (hb : bs.length ≤ 900000000000000) (hmn : many ≤ 64) :
    Calls Tryz.prog 92 #[.slice a bs.length c, .int .i64 many] w (TkL w (okV (tkR many [] bs))) := by
  obtain ⟨F, hF⟩ : ∃ F, Hid (tkR many [] bs = F) := ⟨_, rfl⟩
  rw [hF.out]
  unfold maxLen at hm
  have I0 : Hid (TrI w w a c bs none 0 []) := ⟨hs, hl, hm, hb, .inl ⟨rfl, rfl⟩, by simp [blk], Kp.refl _ _⟩
  clear hs
  obtain ⟨i0, hi, hz0, hz1, hz2⟩ := infoV'
  go_enter Tryz.func92, Tryz.ntmps92
  go_wp2_with fail
  go_loopw [0, 6] (fun v0 v6 wn => ∃ (ba : Option Addr) (bc : Nat) (rest : List UInt8) (la : Option Addr) (lc : Nat) (acc : List Val), v0 = .slice ba rest.length bc ∧ v6 = .slice la acc.length lc ∧ TrI w wn ba bc rest la lc acc ∧ acc.length ≤ 400 ∧ Hid (tkR many acc rest = F)) (fun v0 _ _ => lenV v0)
  case atStart => exact ⟨a, c, bs, none, 0, [], rfl, rfl, I0.out, by simp, hF⟩
  case round =>
    clear I0 hF
    obtain ⟨ba, bc, rest, la, lc, acc, rfl, rfl, I, hacc, hF⟩ := hrel
    by_cases hdn : many ≤ acc.length
    · rw [tkR_done hdn] at hF
      have hfin : TkL w (okV F) (.returned (.tuple #[.slice la acc.length lc, .bool true])) wr := by rw [← hF.out]; exact ⟨la, lc, rfl, I.row, I.kp, I.new⟩
      have hnlt : ¬ (acc.length : Int) < (many : Int) := by omega
      clear I hF
      go_wp2_with fail
      go_ret2
      exact hfin
    · have hlt : (acc.length : Int) < (many : Int) := by omega
      cases rest with
      | nil =>
        rw [tkR_nil hdn] at hF
        have hfin : TkL w (okV F) (.returned (.tuple #[.slice none 0 0, .bool false])) wr := by rw [← hF.out]; exact tkL_none w wr I.kp
        rw [List.length_nil]
        clear I hF
        go_wp2_with fail
        go_ret2
        exact hfin
      | cons x r =>
        rw [tkR_cons hdn] at hF
        obtain ⟨g, o, rfl, hc⟩ : ∃ g o, ba = some ⟨g, o, none⟩ ∧ ∀ j u, (x :: r)[j]? = some u → w.cell? ⟨g, o + j, none⟩ = some (.int .u8 u.toNat) := by
          rcases I.see with h | h
          · cases h
          · exact h
        have hc0 : Hid (∀ W, Kp [] w W → W.cell? ⟨g, o, none⟩ = some (.int .u8 x.toNat)) := fun W kW => kpAt kW (hc 0 x rfl)
        have hx := x.toNat_lt
        have hlen := I.len
        have hcap := I.cap
        have hfew := I.few
        have htl : Hid (∀ n, Sees w (some ⟨g, o + n, none⟩) ((x :: r).drop n)) := fun n => by have := Sees.tail I.see n; simpa [Addr.add_lit] using this
        rw [List.length_cons] at hlen hfew ⊢
        have hne : (((r.length + 1 : Nat) : Int) == 0) = false := by rw [beq_eq_false_iff_ne]; omega
        have hne2 : (((r.length : Int) + 1) == 0) = false := by rw [beq_eq_false_iff_ne]; omega
        by_cases hc1 : bc = 1
        · subst hc1
          obtain rfl : r = [] := by cases r with | nil => rfl | cons _ _ => simp at hlen
          have ht := cTakeV (some ⟨g, o, none⟩) 0 [] wr (.inl rfl) (by simp) (by simp [maxLen]) (by simp)
          have e0 : tkV [] = (nilV, 0) := rfl
          rw [e0] at ht hF
          unfold Tk at ht
          dsimp only [List.length_nil] at ht hF
          rw [if_pos rfl] at hF
          have hkp := I.kp
          have hfin : Hid (∀ W, Kp [] w W → TkL w (okV F) (.returned (.tuple #[.slice none 0 0, .bool false])) W) := fun W kW => by rw [← hF.out]; exact tkL_none w W kW
          have hnv : Hid (nilV.v = .agg #[.int .i64 0, .bool false, .int .i64 0, .string ⟨#[]⟩]) := rfl
          rw [hnv.out] at ht
          clear I hF
          rw [List.length_nil]
          go_wp2_with fail
          refine ht.mono ?_
          rintro e w1 ⟨rfl, k1⟩
          have hfin' := hfin.out _ ((hkp.trans k1 (by simp)).alloc (.cells #[.int .i64 0, .bool false, .int .i64 0, .string ⟨#[]⟩] 30))
          clear ht hfin
          go_wp2_with fail
          go_ret2
          exact hfin'
        · have htr := htl.out 1
          rw [List.drop_one, List.tail_cons] at htr
          have ht := cTakeV (some ⟨g, o + 1, none⟩) (bc - 1) r wr (htr.kept I.kp (by simp)) (by omega) (by unfold maxLen; omega) (by omega)
          have htle := tkV_le r
          obtain ⟨⟨v, sz⟩, htk⟩ : ∃ t, Hid (tkV r = t) := ⟨_, rfl⟩
          rw [htk.out] at ht hF htle
          unfold Tk at ht
          dsimp only at ht hF htle
          have hxv : Hid (v.v = .agg #[.int .i64 v.k, .bool v.b, .int .i64 v.n, .string v.t]) := rfl
          rw [hxv.out] at ht
          obtain ⟨n, hn⟩ : ∃ n, Hid (x.toNat = n) := ⟨_, rfl⟩
          rw [hn.out] at hF hx
          simp only [hn.out] at hc0
          have hI := hid I
          have hlaw : ∀ k ∈ blk la, k < wr.heap.size := fun k hk => I.row.lt k (by rw [ownS]; exact hk)
          have hlaw' := hid hlaw
          clear I htr hxv hlaw
          go_wp2_with fail
          refine ht.mono ?_
          rintro e w1 ⟨rfl, k1⟩
          obtain ⟨wb, hwb⟩ : ∃ wb, w1.alloc (.cells #[.int .i64 v.k, .bool v.b, .int .i64 v.n, .string v.t] 30) = wb := ⟨_, rfl⟩
          have kb : Kp [] w1 wb := by rw [← hwb]; exact (Kp.refl _ _).alloc _
          have bx : Box4 wb w1.heap.size (.int .i64 v.k) (.bool v.b) (.int .i64 v.n) (.string v.t) := by rw [← hwb]; exact Box4.new _ _ _ _ _ _
          have kwb : Kp [] w wb := (hI.out.kp.trans k1 (by simp)).trans kb (by simp)
          by_cases hsz : sz = 0
          · subst hsz
            rw [if_pos rfl] at hF
            have hfin : TkL w (okV F) (.returned (.tuple #[.slice none 0 0, .bool false])) wb := by rw [← hF.out]; exact tkL_none w wb kwb
            clear hF hI ht
            go_wp2_with fail
            go_ret2
            exact hfin
          · rw [if_neg hsz] at hF
            have hsz' : ((sz : Int) == 0) = false := by rw [beq_eq_false_iff_ne]; omega
            have hcx := hc0.out wb kwb
            have hq1 : w.heap.size ≤ w1.heap.size := (hI.out.kp.trans k1 (by simp)).size
            have R0 : Hid (VE.Row wb (.slice la (acc.length + 0) lc) (acc ++ List.replicate 0 v) ∧ w1.heap.size ∉ blk la) := ⟨by simpa using hI.out.row.keptNew (k1.trans kb (by simp)), fun hm => by have := hlaw'.out _ hm; have := k1.size; omega⟩
            have hnew := hid hI.out.new
            clear hI ht hlaw'
            go_wp2_with fail
            go_loopw [6, 28] (fun v6 i wn => ∃ (j : Nat) (la' : Option Addr) (lc' : Nat), j ≤ n ∧ i = .int .i64 j ∧ v6 = .slice la' (acc.length + j) lc' ∧ VE.Row wn (.slice la' (acc.length + j) lc') (acc ++ List.replicate j v) ∧ w1.heap.size ∉ blk la' ∧ (∀ k ∈ blk la', w.heap.size ≤ k) ∧ Kp [] w wn ∧ Box4 wn w1.heap.size (.int .i64 v.k) (.bool v.b) (.int .i64 v.n) (.string v.t)) (fun _ i _ => n - (intOf i).toNat)
            case atStart => exact ⟨0, la, lc, Nat.zero_le _, rfl, by rw [Nat.add_zero], R0.out.1, R0.out.2, hnew.out, kwb, bx⟩
            case round =>
              clear R0 hnew bx kb k1 hwb hcx
              obtain ⟨j, la', lc', hj, rfl, rfl, hrow, hqn, hnw, kn, bx⟩ := hrel
              by_cases hjn : j < n
              · have p0 := bx.c0; have p1 := bx.c1; have p2 := bx.c2; have p3 := bx.c3
                have hal : (acc ++ List.replicate j v).length = acc.length + j := by simp
                obtain ⟨wc, hwc⟩ : ∃ wc, wr.alloc (.cells #[.int .i64 v.k, .bool v.b, .int .i64 v.n, .string v.t] 30) = wc := ⟨_, rfl⟩
                have kc : Kp [] wr wc := by rw [← hwc]; exact (Kp.refl _ _).alloc _
                have hsr : VE.See wc (some ⟨wr.heap.size, 0, none⟩) [v] := by rw [← hwc]; exact oneV wr rfl v _
                have hsrc := hsr.src (P := Tryz.prog) Tryz.underlying23 1
                have hrowc := hrow.keptNew kc
                obtain ⟨v', X3, hrun, hrow3, kk3, hn3⟩ := run_appendG (E := VE) (P := Tryz.prog) wc 23 23 23 30 i0 _ 40 Tryz.underlying23 hi hz0 hz1 hz2 rfl (.slice la' (acc.length + j) lc') (acc ++ List.replicate j v) hrowc _ [v] hsrc (by simp; omega) (by simp; omega)
                obtain ⟨a3, c3, rfl, _⟩ := hrow3.see
                rw [ownS] at kk3
                have hfin : Hid (∃ (j' : Nat) (la'' : Option Addr) (lc'' : Nat), j' ≤ n ∧ (.int .i64 ((j : Int) + 1) : Value) = .int .i64 j' ∧ (.slice a3 (acc ++ List.replicate j v ++ [v]).length c3 : Value) = .slice la'' (acc.length + j') lc'' ∧ VE.Row X3 (.slice la'' (acc.length + j') lc'') (acc ++ List.replicate j' v) ∧ w1.heap.size ∉ blk la'' ∧ (∀ k ∈ blk la'', w.heap.size ≤ k) ∧ Kp [] w X3 ∧ Box4 X3 w1.heap.size (.int .i64 v.k) (.bool v.b) (.int .i64 v.n) (.string v.t)) := by
                  have e1 : acc ++ List.replicate j v ++ [v] = acc ++ List.replicate (j + 1) v := by rw [List.append_assoc, List.replicate_succ']
                  have e2 : (acc ++ List.replicate (j + 1) v).length = acc.length + (j + 1) := by simp
                  rw [e1, e2] at hrow3
                  have hlt1 : w1.heap.size < wc.heap.size := Nat.lt_of_lt_of_le bx.lt kc.size
                  refine ⟨j + 1, a3, c3, by omega, by go_num, by rw [e1, e2], hrow3, fun hm => ?_, fun k hk => ?_, ?_, (boxKeep bx kc).kept kk3 hqn⟩
                  · rcases hn3 _ (by rw [ownS]; exact hm) with h | h
                    · rw [ownS] at h; exact hqn h
                    · omega
                  · rcases hn3 k (by rw [ownS]; exact hk) with h | h
                    · rw [ownS] at h; exact hnw k h
                    · have := kn.size; have := kc.size; omega
                  · exact (kn.trans kc (by simp)).trans kk3 (fun k hk => .inr (hnw k hk))
                clear hrow hrowc hrow3 kk3 hn3 hsr hsrc kc bx hal
                go_wp2_with (first | (refine wpAppRun rfl _ _ 23 23 rfl _ _ _ rfl rfl hrun ?_) | fail)
                obtain ⟨j', la'', lc'', h1, h2, h3, h4⟩ := hfin.out
                exact ⟨⟨j', la'', lc'', h1, h2, by first | exact h3 | (rw [← h3]; simp; try omega), h4⟩, by simp [intOf]; omega⟩
              · obtain rfl : j = n := by omega
                have hal : (acc ++ List.replicate j v).length = acc.length + j := by simp
                have hdl : (r.drop sz).length = r.length - sz := by simp
                have hnxt : Hid (∀ ba', Sees w ba' (r.drop sz) → ∃ (ba2 : Option Addr) (bc2 : Nat) (rest2 : List UInt8) (la2 : Option Addr) (lc2 : Nat) (acc2 : List Val), (.slice ba' (r.length + 1 - (1 + sz)) (bc - (1 + sz)) : Value) = .slice ba2 rest2.length bc2 ∧ (.slice la' (acc.length + j) lc' : Value) = .slice la2 acc2.length lc2 ∧ TrI w wr ba2 bc2 rest2 la2 lc2 acc2 ∧ acc2.length ≤ 400 ∧ Hid (tkR many acc2 rest2 = F)) := fun ba' hsb =>
                  ⟨ba', bc - (1 + sz), r.drop sz, la', lc', acc ++ List.replicate j v, by rw [hdl, show r.length + 1 - (1 + sz) = r.length - sz by omega], by rw [hal], ⟨hsb, by rw [hdl]; omega, by omega, by rw [hdl]; omega, by rw [hal]; exact hrow, hnw, kn⟩, by rw [hal]; omega, hF⟩
                have htd := htl.out (1 + sz)
                rw [Nat.add_comm 1 sz, List.drop_succ_cons] at htd
                have htd' := hid htd
                clear hrow hF bx hal htl htd
                by_cases hce : 1 + sz = bc
                · have hemp : r.drop sz = [] := List.drop_eq_nil_of_le (by omega)
                  have hN := hid (hnxt.out (some ⟨g, o, none⟩) (by rw [hemp]; exact .inl rfl))
                  clear hnxt hemp htd'
                  go_wp2_with fail
                  exact ⟨hN.out, by simp only [lenV]; omega⟩
                · have hN := hid (hnxt.out (some ⟨g, o + (1 + sz), none⟩) (by rw [Nat.add_comm 1 sz]; exact htd'.out))
                  clear hnxt htd'
                  go_wp2_with fail
                  exact ⟨hN.out, by simp only [lenV]; omega⟩
end Go.Proofs.YtohbdbecioanaaaGreatDoor
end

section
namespace Go.Proofs.YtohbdbecioanaaaGreatDoor
open Go.RowKit Go.Hay
set_option linter.unusedVariables false
set_option linter.unusedSimpArgs false

theorem cBytesEq (a b : Option Addr) (c d : Nat) (x y : List UInt8) (w : World) (hx : Sees w a x) (hy : Sees w b y) :
    Calls Tryz.prog 60 #[.slice a x.length c, .slice b y.length d] w fun e w' => e = .returned (.bool (x == y)) ∧ w' = w := by
  have h1 := convSees hx c
  have h2 := convSees hy d
  go_enter Tryz.func60, Tryz.ntmps60
  go_wp2_with fail
  go_ret
  exact ⟨rfl, rfl⟩
/-- take, at runs. -/
theorem cTake1 (a : Option Addr) (c : Nat) (bs : List UInt8) (many : Nat) (w : World) (hs : Sees w a bs) (hl : bs.length ≤ c) (hm : c ≤ maxLen) (hb : bs.length ≤ 900000000000000) (hmn : many ≤ 64) (h0 : 0 < many) :
    Calls Tryz.prog 59 #[.int .i64 1, .slice a bs.length c, .int .i64 many] w (TkL w (okV (tkR many [] bs))) := by
  have hT := cTakeRuns a c bs many w hs hl hm hb hmn
  obtain ⟨⟨L, B⟩, hR⟩ : ∃ R, Hid (okV (tkR many [] bs) = R) := ⟨_, rfl⟩
  rw [hR.out] at hT ⊢
  have d0 : ((many : Int) == 0) = false := by rw [beq_eq_false_iff_ne]; omega
  clear hs hm hR
  go_enter Tryz.func59, Tryz.ntmps59
  go_wp2_with fail
  refine hT.mono ?_
  rintro e w1 ⟨a1, c1, rfl, hrow, k1, hn1⟩
  dsimp only at hrow
  have hrow' := hid hrow
  clear hrow hT
  go_wp2_with fail
  go_ret2
  exact ⟨a1, c1, rfl, hrow'.out, k1, hn1⟩
/-- What Decode makes of what take read. -/
def decE (k : Int) (bs : List UInt8) (many : Nat) (R : List Val × Bool) : List Val × Int :=
  if R.2 = true ∧ R.1.length = many ∧ refE k R.1 = 0 ∧ encR k R.1 = bs then (R.1, 0) else ([], 60)
def DecP (w : World) (r : List Val × Int) (e : Ending) (w' : World) : Prop := ∃ a c, e = .returned (.tuple #[.slice a r.1.length c, .int .i64 r.2]) ∧ VE.Row w' (.slice a r.1.length c) r.1 ∧ Kp [] w w' ∧ ∀ k ∈ blk a, w.heap.size ≤ k
theorem decP_no (w w' : World) (k : Kp [] w w') : DecP w ([], 60) (.returned (.tuple #[.slice none 0 0, .int .i64 60])) w' := ⟨none, 0, rfl, .inl ⟨rfl, rfl⟩, k, by simp [blk]⟩
set_option maxHeartbeats 4000000 in
set_option maxRecDepth 100000 in
theorem cDecE (k : Int) (a : Option Addr) (c : Nat) (bs : List UInt8) (many : Nat) (R : List Val × Bool) (w : World) (hk : knownB k = true) (hs : Sees w a bs) (hmn : many ≤ 64) (hT : Calls Tryz.prog 59 #[.int .i64 k, .slice a bs.length c, .int .i64 many] w (TkL w R)) :
    Calls Tryz.prog 33 #[.int .i64 k, .slice a bs.length c, .int .i64 many] w (DecP w (decE k bs many R)) := by
  have cK := cKnown k w
  rw [hk] at cK
  have hF : Hid (decE k bs many R = if R.2 = true ∧ R.1.length = many ∧ refE k R.1 = 0 ∧ encR k R.1 = bs then (R.1, 0) else ([], 60)) := rfl
  obtain ⟨F, hFF⟩ : ∃ F, Hid (decE k bs many R = F) := ⟨_, rfl⟩
  rw [hFF.out] at hF ⊢
  obtain ⟨L, B⟩ := R
  have hs' := hid hs
  have d0 : ¬ (many : Int) < 0 := by omega
  have d1 : ¬ (64 : Int) < (many : Int) := by omega
  clear hk hs hFF
  dsimp only at hF
  go_enter Tryz.func33, Tryz.ntmps33
  go_wp2_with fail
  refine cK.mono ?_
  rintro e w9 ⟨rfl, hw9⟩
  rw [hw9]
  clear hw9 w9 cK
  go_wp2_with fail
  refine hT.mono ?_
  rintro e w1 ⟨a1, c1, rfl, hrow, k1, hn1⟩
  dsimp only at hrow
  have hrow' := hid hrow
  clear hrow hT
  cases B with
  | false =>
    have hno : Hid (F = ([], 60)) := by show _ = _; rw [hF.out, if_neg (by simp)]
    have hfin := decP_no w w1 k1
    rw [← hno.out] at hfin
    clear hF hno
    go_wp2_with fail
    go_ret2
    exact hfin
  | true =>
    by_cases hlm : L.length = many
    · have hm1 : L.length ≤ c1 ∧ c1 ≤ maxLen := by
        obtain ⟨_, _, e, _, _, h1, h2, _⟩ := hrow'.out.see
        injection e with e1 e2 e3
        rw [e3]
        exact ⟨h1, h2⟩
      have hv1 : Vals w1 a1 L := by
        obtain ⟨_, _, e, h1, _⟩ := hrow'.out.see
        injection e with e1 e2 e3
        rw [e1]
        exact seeV.1 h1
      have cE := cEncE k a1 c1 L w1 hv1 hm1.1 hm1.2
      unfold EncP at cE
      obtain ⟨E, hEE⟩ : ∃ E, Hid (refE k L = E) := ⟨_, rfl⟩
      obtain ⟨Q, hQ⟩ : ∃ Q, Hid (encR k L = Q) := ⟨_, rfl⟩
      rw [hEE.out, hQ.out] at hF
      rw [hEE.out, hQ.out] at cE
      have d2 : ((L.length : Int) != (many : Int)) = false := by rw [hlm]; simp
      have d3 : ((L.length : Int) == (many : Int)) = true := by rw [hlm]; simp
      have hlm' := hid hlm
      clear hv1 hlm
      go_wp2_with fail
      refine cE.mono ?_
      rintro e w3 ⟨b3, c3, rfl, hrow3, k3, hn3⟩
      have k13 := k1.trans k3 (by simp)
      have hrow3' := hid hrow3
      clear hrow3 cE
      by_cases hE0 : E = 0
      · subst hE0
        have cQ := cBytesEq b3 a c3 c Q bs w3 (by obtain ⟨_, _, e, h1, _⟩ := hrow3'.out.sees; injection e with e1 e2 e3; rw [e1]; exact h1) (hs'.out.kept k13 (by simp))
        obtain ⟨Z, hZ⟩ : ∃ Z, Hid ((Q == bs) = Z) := ⟨_, rfl⟩
        rw [hZ.out] at cQ
        have hfin : Hid (DecP w F (.returned (.tuple #[.slice (if Z then a1 else none) (if Z then L.length else 0) (if Z then c1 else 0), .int .i64 (if Z then 0 else 60)])) w3) := by
          show DecP _ _ _ _
          cases Z with
          | true =>
            have : Q = bs := by simpa using hZ.out
            rw [hF.out, if_pos (by simp [hlm'.out, this])]
            exact ⟨a1, c1, rfl, hrow'.out.keptNew k3, k13, hn1⟩
          | false =>
            have : ¬ Q = bs := by simpa using hZ.out
            rw [hF.out, if_neg (fun h => this h.2.2.2)]
            exact decP_no w w3 k13
        clear hF hrow' hrow3' hs' hm1
        go_wp2_with fail
        refine cQ.mono ?_
        rintro e w9 ⟨rfl, hw9⟩
        rw [hw9]
        clear hw9 w9 cQ
        cases Z
        · go_wp2_with fail
          go_ret2
          exact hfin.out
        · go_wp2_with fail
          go_ret2
          exact hfin.out
      · have hno : Hid (F = ([], 60)) := by show _ = _; rw [hF.out, if_neg (fun h => hE0 h.2.2.1)]
        have hfin := decP_no w w3 k13
        rw [← hno.out] at hfin
        have d5 : (E != 0) = true := by simpa using hE0
        have d6 : (E == 0) = false := by simpa using hE0
        clear hF hno hrow' hrow3' hs' hm1
        go_wp2_with fail
        go_ret2
        exact hfin
    · have hno : Hid (F = ([], 60)) := by show _ = _; rw [hF.out, if_neg (fun h => hlm h.2.1)]
      have hfin := decP_no w w1 k1
      rw [← hno.out] at hfin
      have d2 : ((L.length : Int) != (many : Int)) = true := by simp only [bne_iff_ne]; omega
      have d3 : ((L.length : Int) == (many : Int)) = false := by rw [beq_eq_false_iff_ne]; omega
      clear hF hno
      go_wp2_with fail
      go_ret2
      exact hfin
end Go.Proofs.YtohbdbecioanaaaGreatDoor
end

section
namespace Go.Hay
open Go.RowKit
set_option linter.unusedVariables false
set_option linter.unusedSimpArgs false

/-- Bit p of bytes. -/
def bitAt (bs : List UInt8) (p : Nat) : Nat := (bs.getD (p / 8) 0).toNat / 2 ^ (p % 8) % 2
theorem bitAt_lt (bs : List UInt8) (p : Nat) : bitAt bs p < 2 := Nat.mod_lt _ (by omega)
/-- Number i of those in so many bits, of its lowest k. -/
def numTo (bs : List UInt8) (wd i : Nat) : Nat → Nat
  | 0 => 0
  | k + 1 => numTo bs wd i k + bitAt bs (i * wd + k) * 2 ^ k
theorem numTo_lt (bs : List UInt8) (wd i : Nat) : ∀ k, numTo bs wd i k < 2 ^ k
  | 0 => by simp [numTo]
  | k + 1 => by
    have h1 := numTo_lt bs wd i k
    have h2 := bitAt_lt bs (i * wd + k)
    have h3 : bitAt bs (i * wd + k) * 2 ^ k ≤ 1 * 2 ^ k := Nat.mul_le_mul_right _ (by omega)
    rw [numTo, Nat.pow_succ]
    omega
def upk (bs : List UInt8) (many wd : Nat) : List Nat := (List.range many).map fun i => numTo bs wd i wd
theorem upk_length (bs : List UInt8) (many wd : Nat) : (upk bs many wd).length = many := by simp [upk]
theorem upk_at (bs : List UInt8) (many wd i : Nat) (h : i < many) : (upk bs many wd)[i]? = some (numTo bs wd i wd) := by
  unfold upk
  rw [List.getElem?_map, List.getElem?_range h]; rfl
theorem acc_bit (f : Nat → Nat) (hf : ∀ p, f p < 2) (q : Nat) : ∀ m r, r < m → acc f q m / 2 ^ r % 2 = f (8 * q + r)
  | 0, r, h => by omega
  | m + 1, r, h => by
    rw [acc]
    by_cases e : r = m
    · subst e
      rw [Nat.add_mul_div_right _ _ (Nat.two_pow_pos r), Nat.div_eq_of_lt (acc_lt f hf q r), Nat.zero_add]
      exact Nat.mod_eq_of_lt (hf _)
    · have hr : r < m := by omega
      have e2 : f (8 * q + m) * 2 ^ m = f (8 * q + m) * 2 ^ (m - r - 1) * 2 * 2 ^ r := by
        have : m = (m - r - 1) + 1 + r := by omega
        conv => lhs; rw [this, Nat.pow_add, Nat.pow_succ]
        rw [show 8 * q + (m - r - 1 + 1 + r) = 8 * q + m by omega]
        simp [Nat.mul_assoc]
      rw [e2, Nat.add_mul_div_right _ _ (Nat.two_pow_pos r), Nat.add_mul_mod_self_right]
      exact acc_bit f hf q m r hr
theorem bitAt_pack (l : List Nat) (wd p : Nat) (hp : p < l.length * wd) : bitAt (packB l wd) p = bitOf l wd p := by
  unfold bitAt packB
  have hq : p / 8 < (l.length * wd + 7) / 8 := by omega
  have h1 := pk_get (bitOf l wd) ((l.length * wd + 7) / 8) (l.length * wd) (p / 8) hq
  rw [List.getD_eq_getElem?_getD, h1, Option.getD_some]
  have hm : min 8 (l.length * wd - 8 * (p / 8)) ≤ 8 := Nat.min_le_left _ _
  have h8 := acc_lt8 (bitOf l wd) (bitOf_lt l wd) (p / 8) _ hm
  rw [UInt8.toNat_ofNat', Nat.mod_eq_of_lt h8, acc_bit (bitOf l wd) (bitOf_lt l wd) (p / 8) _ (p % 8) (by omega)]
  congr 1
  omega
theorem numTo_back (bs : List UInt8) (wd i x : Nat) : ∀ m, (∀ k, k < m → bitAt bs (i * wd + k) = x / 2 ^ k % 2) → numTo bs wd i m = x % 2 ^ m
  | 0, _ => by simp [numTo, Nat.mod_one]
  | m + 1, h => by
    rw [numTo, numTo_back bs wd i x m (fun k hk => h k (by omega)), h m (by omega), Nat.mod_pow_succ, Nat.mul_comm]
theorem upk_back (l : List Nat) (wd : Nat) (h : ∀ x ∈ l, x < 2 ^ wd) : upk (packB l wd) l.length wd = l := by
  apply List.ext_getElem?
  intro i
  by_cases hi : i < l.length
  · rw [upk_at _ _ _ _ hi, List.getElem?_eq_getElem hi, numTo_back (packB l wd) wd i l[i] wd (fun k hk => ?_), Nat.mod_eq_of_lt (h _ (List.getElem_mem hi))]
    rw [bitAt_pack l wd _ (at_lt hi hk), bitOf_at l wd i k hk hi]
  · rw [List.getElem?_eq_none (by rw [upk_length]; omega), List.getElem?_eq_none (by omega)]
/-- A number out of groups of seven bits, and how many these are. -/
def tkG : Nat → Nat → List UInt8 → Nat × Nat
  | _, _, [] => (0, 0)
  | i, z, x :: r => if i < 10 then (if x.toNat < 128 then (z + x.toNat % 128 * 2 ^ (7 * i) % 18446744073709551616, i + 1) else tkG (i + 1) (z + x.toNat % 128 * 2 ^ (7 * i) % 18446744073709551616) r) else (0, 0)
theorem tkG_le : ∀ (bs : List UInt8) (i z : Nat), (tkG i z bs).2 ≤ i + bs.length
  | [], i, z => by simp [tkG]
  | x :: r, i, z => by
    rw [tkG]
    split
    · split
      · simp
      · have := tkG_le r (i + 1) (z + x.toNat % 128 * 2 ^ (7 * i) % 18446744073709551616)
        simp only [List.length_cons]; omega
    · simp
theorem low128 (z : Nat) : (UInt8.ofNat (z % 128 + 128)).toNat = z % 128 + 128 := by rw [UInt8.toNat_ofNat']; omega
end Go.Hay
namespace Go.Proofs.YtohbdbecioanaaaGreatDoor
open Go.RowKit Go.Hay
theorem tkG_back (s : List UInt8) : ∀ (n z i a : Nat), z ≤ n → z * 2 ^ (7 * i) + a < 18446744073709551616 → i < 10 → tkG i a (gB z ++ s) = (a + z * 2 ^ (7 * i), i + (gB z).length) := by
  intro n
  induction n with
  | zero =>
    intro z i a hn hz hi
    obtain rfl : z = 0 := by omega
    rw [gB_lo (by omega)]
    simp only [List.cons_append, List.nil_append]
    rw [tkG, if_pos hi]
    simp
  | succ n ih =>
    intro z i a hn hz hi
    by_cases h : z < 128
    · rw [gB_lo h]
      simp only [List.cons_append, List.nil_append]
      rw [tkG, if_pos hi]
      have e : (UInt8.ofNat z).toNat = z := by rw [UInt8.toNat_ofNat']; omega
      rw [e, if_pos h, Nat.mod_eq_of_lt h, Nat.mod_eq_of_lt (show z * 2 ^ (7 * i) < 18446744073709551616 by omega)]
      simp
    · rw [gB_hi h]
      simp only [List.cons_append]
      rw [tkG, if_pos hi, low128, if_neg (by omega), show (z % 128 + 128) % 128 = z % 128 by omega]
      have hle : z % 128 * 2 ^ (7 * i) + z / 128 * 2 ^ (7 * (i + 1)) = z * 2 ^ (7 * i) := by
        have e : 2 ^ (7 * (i + 1)) = 128 * 2 ^ (7 * i) := by rw [show 7 * (i + 1) = 7 + 7 * i by omega, Nat.pow_add]
        rw [e, ← Nat.mul_assoc, ← Nat.add_mul]
        congr 1
        omega
      have hlt : z % 128 * 2 ^ (7 * i) < 18446744073709551616 := by omega
      rw [Nat.mod_eq_of_lt hlt]
      have hi2 : i + 1 < 10 := by
        have h1 : 1 ≤ z / 128 := by omega
        have h2 : 1 * 2 ^ (7 * (i + 1)) ≤ z / 128 * 2 ^ (7 * (i + 1)) := Nat.mul_le_mul_right _ h1
        have h3 : 2 ^ (7 * (i + 1)) < 2 ^ 64 := by omega
        have := (Nat.pow_lt_pow_iff_right (by omega : 1 < 2)).1 h3
        omega
      rw [ih (z / 128) (i + 1) _ (by omega) (by omega) hi2]
      simp only [List.length_cons]
      refine Prod.ext ?_ ?_
      · show _ = _; simp only; omega
      · show _ = _; simp only; omega
/-- A difference, unfolded. -/
def zag (z : Nat) : Int := if z % 2 = 0 then (z / 2 : Nat) else -((z / 2 : Nat) : Int) - 1
theorem zag_zig {d : Int} (h1 : -9223372036854775808 ≤ d) (h2 : d < 9223372036854775808) : zag (zig d).toNat = d := by
  unfold zag zig
  split
  · rw [if_pos (by omega)]; omega
  · rw [if_neg (by omega)]; omega
/-- The int of eight bytes. -/
def wordV (bs : List UInt8) : Int := wrap64 (num (bs.take 8))
def intV (n : Int) : Val := ⟨2, false, n, ⟨#[]⟩⟩
end Go.Proofs.YtohbdbecioanaaaGreatDoor
end

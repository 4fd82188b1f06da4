/- Rows read: the program's Decode, the reference's. -/
import Derived.Test.YtlehalhficlenaaRfrt
import Derived.Test.YtlehalhficlenaaRenc
import Derived.Test.YtlehalhficlenaaVapp
import Derived.Laws.MakeOwn
namespace Go.Proofs.Ytlehalhficlenaa
open Go.RowKit Go.Hay
set_option linter.unusedVariables false
set_option linter.unusedSimpArgs false

/-- So many values, and nothing behind them. -/
def decL : Nat → List UInt8 → Option (List Val)
  | 0, bs => if bs = [] then some [] else none
  | n + 1, bs => if (rowF bs).2 = 0 then none else (decL n (bs.drop (rowF bs).2)).map ((rowF bs).1 :: ·)
/-- A row, or that there is none. -/
def decO : Option (List Val) → List Val × Int
  | some l => (l, 0)
  | none => ([], 30)
/-- What bytes are read as, or that they are no row's. -/
def decS : List UInt8 → List Val × Int
  | [] => ([], 30)
  | n :: r => if 16 < n.toNat then ([], 30) else decO (decL n.toNat r)
theorem fixF_le (add : Int) (bs : List UInt8) : (fixF add bs).2 ≤ bs.length := by
  cases bs with
  | nil => simp [fixF]
  | cons f r =>
    simp only [fixF]
    split
    · simp
    · split
      · cases r with
        | nil => simp
        | cons y s => simp only; split <;> simp
      · split
        · split
          · simp; omega
          · simp
        · simp
theorem rowF_le (bs : List UInt8) : (rowF bs).2 ≤ bs.length := by
  cases bs with
  | nil => simp [rowF]
  | cons f r =>
    simp only [rowF]
    split
    · cases r with
      | nil => simp
      | cons y s =>
        simp only
        split
        · simp; omega
        · simp
    · exact fixF_le 0 (f :: r)
/-- A row of values in a block of its own. -/
structure RowZ (w : World) (B : Nat) (l : List Val) : Prop where
  vals : ∀ j x, l[j]? = some x → w.cell? ⟨B, j * 4, none⟩ = some (.int .i64 x.k) ∧ w.cell? ⟨B, j * 4 + 1, none⟩ = some (.bool x.b) ∧ w.cell? ⟨B, j * 4 + 2, none⟩ = some (.int .i64 x.n) ∧ w.cell? ⟨B, j * 4 + 3, none⟩ = some (.string x.t)
  free : ∀ j, w.frozen? ⟨B, j, none⟩ = false
theorem RowZ.set {w : World} {B : Nat} {l : List Val} (h : RowZ w B l) (i : Nat) (x : Val) (hi : i < l.length) :
    RowZ ((((w.setCell ⟨B, i * 4, none⟩ (.int .i64 x.k)).setCell ⟨B, i * 4 + 1, none⟩ (.bool x.b)).setCell ⟨B, i * 4 + 2, none⟩ (.int .i64 x.n)).setCell ⟨B, i * 4 + 3, none⟩ (.string x.t)) B (l.set i x) := by
  have n0 : ∀ (w : World) (i j : Nat) (v : Value), i ≠ j → (w.setCell ⟨B, j, none⟩ v).cell? ⟨B, i, none⟩ = w.cell? ⟨B, i, none⟩ := fun w i j v hij => World.cell?_setCell_other _ _ _ _ (by intro e; simp only [Addr.mk.injEq] at e; omega)
  obtain ⟨z0, z1, z2, z3⟩ := h.vals i l[i] (by simp)
  refine ⟨fun j y hy => ?_, fun j => by rw [World.frozen?_setCell, World.frozen?_setCell, World.frozen?_setCell, World.frozen?_setCell]; exact h.free j⟩
  by_cases hj : j = i
  · subst hj
    rw [List.getElem?_set_self (by omega)] at hy
    cases hy
    refine ⟨?_, ?_, ?_, ?_⟩
    · rw [n0 _ _ _ _ (by omega), n0 _ _ _ _ (by omega), n0 _ _ _ _ (by omega)]
      exact World.cell?_setCell_same _ _ _ z0
    · rw [n0 _ _ _ _ (by omega), n0 _ _ _ _ (by omega)]
      exact World.cell?_setCell_same _ _ _ ((n0 _ _ _ _ (by omega)).trans z1)
    · rw [n0 _ _ _ _ (by omega)]
      exact World.cell?_setCell_same _ _ _ ((n0 _ _ _ _ (by omega)).trans ((n0 _ _ _ _ (by omega)).trans z2))
    · exact World.cell?_setCell_same _ _ _ ((n0 _ _ _ _ (by omega)).trans ((n0 _ _ _ _ (by omega)).trans ((n0 _ _ _ _ (by omega)).trans z3)))
  · rw [List.getElem?_set_ne (fun e => hj e.symm)] at hy
    obtain ⟨y0, y1, y2, y3⟩ := h.vals j y hy
    refine ⟨?_, ?_, ?_, ?_⟩
    all_goals (rw [n0 _ _ _ _ (by omega), n0 _ _ _ _ (by omega), n0 _ _ _ _ (by omega), n0 _ _ _ _ (by omega)]; assumption)
theorem RowZ.kept {w w' : World} {B : Nat} {l : List Val} (h : RowZ w B l) (hB : B < w.heap.size) (hk : Kp [] w w') : RowZ w' B l :=
  ⟨fun j x hx => by
    obtain ⟨z0, z1, z2, z3⟩ := h.vals j x hx
    exact ⟨kpAt hk z0, kpAt hk z1, kpAt hk z2, kpAt hk z3⟩, fun j => (hk.frozen (p := ⟨B, j, none⟩) hB (by simp)).trans (h.free j)⟩

/-- So many values, all nought, made. -/
theorem makeRow (n : Nat) (hn : n ≤ 16) (w : World) : ∃ W : World, (Instr.makeSlice 22 (.int .u8 n) (.int .u8 n)).run Try.prog w = .ok (.slice (some ⟨w.heap.size, 0, none⟩) n n) W ∧ RowZ W w.heap.size (List.replicate n nilV) ∧ Kp [] w W ∧ w.heap.size < W.heap.size := by
  obtain ⟨i, hi, hz, hz1, hz2⟩ := infoV
  have hr := run_make (P := Try.prog) w 22 35 i _ Try.underlying22 hi hz .u8 .u8 n n (by omega) (by omega) (by rw [hz2]; omega) (by omega)
  rw [Int.toNat_natCast, hz1] at hr
  refine ⟨_, hr, ⟨fun j x hx => ?_, fun j => World.frozen?_alloc_new w _ _ j⟩, (Kp.refl _ _).alloc _, by simp⟩
  have hj : j < n := by have := (List.getElem?_eq_some_iff.1 hx).1; simpa using this
  rw [List.getElem?_replicate, if_pos hj] at hx
  cases hx
  have cell : ∀ k v, k < 4 → (#[.int .i64 0, .bool false, .int .i64 0, .string ⟨#[]⟩] : Array Value)[k]! = v → (w.alloc (.cells (madeCells (Value.agg #[.int .i64 0, .bool false, .int .i64 0, .string ⟨#[]⟩]).cells (n * 4)) 35)).cell? ⟨w.heap.size, j * 4 + k, none⟩ = some v := by
    intro k v hk hv
    rw [World.cell?_alloc_new w _ _ (j * 4 + k)]
    unfold madeCells
    rw [Array.getElem?_map, Array.getElem?_range, if_pos (by omega)]
    simp only [Option.map_some, Value.cells]
    rw [show (j * 4 + k) % (#[.int .i64 0, .bool false, .int .i64 0, .string ⟨#[]⟩] : Array Value).size = k by show (j * 4 + k) % 4 = k; omega, hv]
  exact ⟨cell 0 _ (by omega) rfl, cell 1 _ (by omega) rfl, cell 2 _ (by omega) rfl, cell 3 _ (by omega) rfl⟩
theorem RowZ.asVals {w : World} {B : Nat} {l : List Val} (h : RowZ w B l) : Vals w (some ⟨B, 0, none⟩) l := by
  refine .inr ⟨B, 0, rfl, fun j x hx => ?_⟩
  rw [Nat.zero_add]
  exact h.vals j x hx
theorem decL_step (n : Nat) (bs : List UInt8) (d : List Val) : (decL (n + 1) bs).map (d ++ ·) = if (rowF bs).2 = 0 then none else (decL n (bs.drop (rowF bs).2)).map (d ++ [(rowF bs).1] ++ ·) := by
  rw [decL]
  split
  · rfl
  · rw [Option.map_map]
    congr 1
    funext l
    simp

/-- What a Decode hands back: a row. -/
def Rdn (w : World) (r : List Val × Int) (e : Ending) (w' : World) : Prop :=
  ∃ a c l E, Hid (r = (l, E)) ∧ e = .returned (.tuple #[.slice a l.length c, .int .i64 E]) ∧ Vals w' a l ∧ l.length ≤ 16 ∧ l.length ≤ c ∧ c ≤ maxLen ∧ (a = none → c = 0) ∧ Kp [] w w'

set_option maxHeartbeats 4000000 in
set_option maxRecDepth 100000 in
theorem cDecode (a : Option Addr) (c : Nat) (bs : List UInt8) (w : World) (hs : Sees w a bs) (hl : bs.length ≤ c) (hm : c ≤ maxLen) :
    Calls Try.prog 13 #[.slice a bs.length c] w (Rdn w (decS bs)) := by
  cases bs with
  | nil =>
    have HF : Hid (decS [] = ([], 30)) := rfl
    generalize decS [] = R at *
    rw [List.length_nil] at hl ⊢
    go_enter Try.func13, Try.ntmps13
    go_wp2_with fail
    go_ret2
    exact ⟨none, 0, [], 30, HF, rfl, .inl rfl, by simp, by simp, by simp, fun _ => rfl, Kp.refl _ _⟩
  | cons f r =>
    obtain ⟨g, o, rfl, hc⟩ : ∃ g o, a = some ⟨g, o, none⟩ ∧ ∀ j u, (f :: r)[j]? = some u → w.cell? ⟨g, o + j, none⟩ = some (.int .u8 u.toNat) := by
      rcases hs with h | h
      · cases h
      · exact h
    have hc0 : w.cell? ⟨g, o, none⟩ = some (.int .u8 f.toNat) := hc 0 f rfl
    have hg : g < w.heap.size := World.block_lt_of_cell? _ _ hc0
    have hf := f.toNat_lt
    rw [List.length_cons] at hl ⊢
    unfold maxLen at hm
    by_cases h16 : 16 < f.toNat
    · have HF : Hid (decS (f :: r) = ([], 30)) := by show _ = _; simp [decS, h16]
      generalize decS (f :: r) = R at *
      clear hc hs
      go_enter Try.func13, Try.ntmps13
      go_wp2_with fail
      go_ret2
      exact ⟨none, 0, [], 30, HF, rfl, .inl rfl, by simp, by simp, by simp, fun _ => rfl, Kp.refl _ _⟩
    · clear hc
      have hn16 : f.toNat ≤ 16 := by omega
      have HF : Hid (decS (f :: r) = decO (decL f.toNat r)) := by show _ = _; simp only [decS, if_neg h16]
      have hne : (((r.length : Int) + 1) == 0) = false := by simp; omega
      have h16' : decide ((16 : Int) < (f.toNat : Int)) = false := by simp; omega
      have htl : Sees w (some ⟨g, o + 1, none⟩) r := by have := Sees.tail hs 1; simpa [Addr.add_lit] using this
      generalize decS (f :: r) = R at *
      clear hs h16
      generalize f.toNat = n at *
      obtain ⟨W, hmk, hz, kW, hWs⟩ := makeRow n hn16 w
      have hgW : g ≠ w.heap.size := by omega
      by_cases hc1 : c = 1
      · subst hc1
        have hA : Sees W (some ⟨g, o, none⟩) r := by
          have : r = [] := by cases r with | nil => rfl | cons _ _ => simp at hl
          subst this
          exact .inl rfl
        have hnb : ∀ k ∈ blk (some ⟨g, o, none⟩), k ≠ w.heap.size := fun k hk => by have : k = g := by { simpa [blk] using hk }; omega
        go_enter Try.func13, Try.ntmps13
        go_wp2_with fail
        go_loopw [0, 25] (fun v i wn => ∃ (j : Nat) (dn : List Val) (rest : List UInt8) (m : Nat) (a' : Option Addr) (c' : Nat), j ≤ n ∧ i = .int .i64 j ∧ v = .slice a' m c' ∧ m = rest.length ∧ rest.length ≤ c' ∧ c' ≤ 9223372036854775807 ∧ Sees wn a' rest ∧ dn.length = j ∧ Hid ((decL (n - j) rest).map (dn ++ ·) = decL n r) ∧ RowZ wn w.heap.size (dn ++ List.replicate (n - j) nilV) ∧ w.heap.size < wn.heap.size ∧ (∀ k ∈ blk a', k ≠ w.heap.size) ∧ Kp [] w wn) (fun _ i _ => n - (intOf i).toNat)
        case atStart => exact ⟨0, [], r, _, _, _, Nat.zero_le _, rfl, rfl, by first | rfl | omega, by omega, by omega, hA, rfl, by show _ = _; simp, by simpa using hz, hWs, hnb, kW⟩
        case round =>
          obtain ⟨j, dn, rest, m, a', c', hj, rfl, rfl, hmr, hlc, hcm, hse, hdl, hdec, hrz, hBl, hbk, hk⟩ := hrel
          subst hmr
          have hdl' := hid hdl
          clear hdl
          by_cases hjm : j < n
          · obtain ⟨q, hq⟩ : ∃ q, n - j = q + 1 := ⟨n - j - 1, by omega⟩
            have hq' := hid hq
            rw [hq, decL_step] at hdec
            have hlen : (dn ++ List.replicate (n - j) nilV).length = n := by rw [List.length_append, hdl'.out, List.length_replicate]; omega
            obtain ⟨z0, z1, z2, z3⟩ := hrz.vals j nilV (by rw [List.getElem?_append_right (by rw [hdl'.out]; omega), hdl'.out, List.getElem?_replicate, if_pos (by omega)])
            have f0 := hrz.free (j * 4); have f1 := hrz.free (j * 4 + 1); have f2 := hrz.free (j * 4 + 2); have f3 := hrz.free (j * 4 + 3)
            have hT := cTakeValue a' c' rest wr hse hlc (by unfold maxLen; omega)
            have hle := rowF_le rest
            generalize hR' : rowF rest = rr at *
            obtain ⟨x, sz⟩ := rr
            dsimp only at hle hdec
            unfold Tk at hT
            dsimp only at hT
            have hxv : Hid (x.v = .agg #[.int .i64 x.k, .bool x.b, .int .i64 x.n, .string x.t]) := rfl
            rw [hxv.out] at hT
            have hlt0 : w.heap.size < wr.heap.size := hBl
            have hzz : Hid (RowZ wr w.heap.size (dn ++ List.replicate (n - j) nilV)) := hrz
            clear hR' hrz hxv hq
            generalize hrz' : (dn ++ List.replicate (n - j) nilV) = rz at *
            have hrz := hid hrz'
            clear hrz'
            go_wp2_with fail
            refine hT.mono ?_
            rintro e w1 ⟨rfl, k1⟩
            have kN := k1.trans (kpNew w1 (.cells #[.int .i64 x.k, .bool x.b, .int .i64 x.n, .string x.t] 35)) (by simp)
            have z0' := kpAt k1 z0; have z1' := kpAt k1 z1; have z2' := kpAt k1 z2; have z3' := kpAt k1 z3
            have g0 := (k1.frozen (p := ⟨w.heap.size, j * 4, none⟩) hlt0 (by simp)).trans f0
            have g1 := (k1.frozen (p := ⟨w.heap.size, j * 4 + 1, none⟩) hlt0 (by simp)).trans f1
            have g2 := (k1.frozen (p := ⟨w.heap.size, j * 4 + 2, none⟩) hlt0 (by simp)).trans f2
            have g3 := (k1.frozen (p := ⟨w.heap.size, j * 4 + 3, none⟩) hlt0 (by simp)).trans f3
            have hlt1 : w.heap.size < w1.heap.size := Nat.lt_of_lt_of_le hlt0 k1.size
            clear z0 z1 z2 z3 f0 f1 f2 f3 hT
            by_cases hsz : sz = 0
            · subst hsz
              have HE : Hid (R = ([], 30)) := by show _ = _; rw [HF.out, ← hdec.out]; rfl
              clear hdec HF
              go_wp2_with fail
              go_ret2
              exact ⟨none, 0, [], 30, HE, rfl, .inl rfl, by simp, by simp, by simp, fun _ => rfl, hk.trans kN (by simp)⟩
            · have hsz' : ((sz : Int) == 0) = false := by simp; omega
              rw [if_neg hsz] at hdec
              have hsz1 : (sz : Int) ≤ rest.length := by omega
              have hZ1 := (hzz.out.kept hlt0 k1).set j x (by omega)
              have hkB : Kp [w.heap.size] w1 _ := ((((Kp.refl [w.heap.size] w1).setCell (p := ⟨w.heap.size, j * 4, none⟩) (.inl (by simp)) (.int .i64 x.k)).setCell (p := ⟨w.heap.size, j * 4 + 1, none⟩) (.inl (by simp)) (.bool x.b)).setCell (p := ⟨w.heap.size, j * 4 + 2, none⟩) (.inl (by simp)) (.int .i64 x.n)).setCell (p := ⟨w.heap.size, j * 4 + 3, none⟩) (.inl (by simp)) (.string x.t)
              have hBn1 : w.heap.size < _ := Nat.lt_of_lt_of_le hlt1 hkB.size
              have hS1 := seesKeep ((seesKeep hse k1).kept hkB (fun k hk' => by simpa using hbk k hk')) (kpNew _ (.cells #[.int .i64 x.k, .bool x.b, .int .i64 x.n, .string x.t] 35))
              have hkn := ((hk.trans k1 (by simp)).trans hkB (fun k hk' => .inr (by simp at hk'; omega))).alloc (.cells #[.int .i64 x.k, .bool x.b, .int .i64 x.n, .string x.t] 35)
              have hZ := hZ1.kept hBn1 (kpNew _ (.cells #[.int .i64 x.k, .bool x.b, .int .i64 x.n, .string x.t] 35))
              have hBn := Nat.lt_of_lt_of_le hBn1 (kpNew _ (.cells #[.int .i64 x.k, .bool x.b, .int .i64 x.n, .string x.t] 35)).size
              clear hZ1 hBn1
              have hset : rz.set j x = dn ++ [x] ++ List.replicate q nilV := by
                rw [← hrz.out, hq'.out, List.replicate_succ, List.set_append_right _ _ (by rw [hdl'.out]; omega), hdl'.out]
                simp
              rw [hset] at hZ
              obtain ⟨g', o', rfl⟩ : ∃ g' o', a' = some ⟨g', o', none⟩ := by
                rcases hse with h | ⟨g', o', h, _⟩
                · subst h; simp at hsz1; omega
                · exact ⟨g', o', h⟩
              have hbk' : g' ≠ w.heap.size := hbk g' (by simp [blk])
              have hdr : (rest.drop sz).length = rest.length - sz := by simp
              have hS2 := Sees.tail hS1 sz
              rw [show (some (⟨g', o', none⟩ : Addr)).map (fun x => x.add sz) = some ⟨g', o' + sz, none⟩ by simp [Addr.add_lit]] at hS2
              have hS3 : rest.length ≤ sz → Hid (rest.drop sz = []) := fun h => List.drop_eq_nil_of_le h
              have hD : Hid (Option.map (fun x_1 => dn ++ [x] ++ x_1) (decL (n - (j + 1)) (rest.drop sz)) = decL n r) := by show _ = _; rw [show n - (j + 1) = q by have := hq'.out; omega]; exact hdec.out
              rw [show q = n - (j + 1) by have := hq'.out; omega] at hZ
              have hZ' := hid hZ
              have hdl2 : Hid ((dn ++ [x]).length = j + 1) := by show _ = _; simp [hdl'.out]
              clear hZ hdec hset hS1 hkB hse hbk
              generalize rest.drop sz = rest' at *
              by_cases hcz : c' = sz
              · have hre := (hS3 (by omega)).out
                subst hcz
                subst hre
                have hr0 : rest.length - c' = 0 := by omega
                go_wp2_with fail
                exact ⟨⟨j + 1, dn ++ [x], [], _, _, _, by omega, by go_num, rfl, by simp, by simp, by omega, .inl rfl, hdl2.out, hD, hZ'.out, hBn, by intro k hk'; simp [blk] at hk'; omega, hkn⟩, by simp [intOf]; omega⟩
              · go_wp2_with fail
                exact ⟨⟨j + 1, dn ++ [x], rest', _, _, _, by omega, by go_num, rfl, by omega, by omega, by omega, hS2, hdl2.out, hD, hZ'.out, hBn, by intro k hk'; simp [blk] at hk'; omega, hkn⟩, by simp [intOf]; omega⟩
          · obtain rfl : j = n := by omega
            have hz2 := hrz
            rw [Nat.sub_self] at hdec hz2
            rw [show dn ++ List.replicate 0 nilV = dn by simp] at hz2
            cases rest with
            | nil =>
              have HE : Hid (R = (dn, 0)) := by show _ = _; rw [HF.out, ← hdec.out]; simp [decL, decO]
              have hvs := hz2.asVals
              clear hdec HF hrz
              rw [List.length_nil]
              go_wp2_with fail
              go_ret2
              exact ⟨_, _, dn, 0, HE, by rw [hdl'.out]; rfl, hvs, by rw [hdl'.out]; omega, by rw [hdl'.out]; omega, by unfold maxLen; omega, by simp, hk⟩
            | cons y s =>
              have HE : Hid (R = ([], 30)) := by show _ = _; rw [HF.out, ← hdec.out]; simp [decL, decO]
              clear hdec HF hrz
              rw [List.length_cons]
              go_wp2_with fail
              go_ret2
              exact ⟨none, 0, [], 30, HE, rfl, .inl rfl, by simp, by simp, by simp, fun _ => rfl, hk⟩
      · have hA : Sees W (some ⟨g, o + 1, none⟩) r := seesKeep htl kW
        have hnb : ∀ k ∈ blk (some ⟨g, o + 1, none⟩), k ≠ w.heap.size := fun k hk => by have : k = g := by { simpa [blk] using hk }; omega
        go_enter Try.func13, Try.ntmps13
        go_wp2_with fail
        go_loopw [0, 25] (fun v i wn => ∃ (j : Nat) (dn : List Val) (rest : List UInt8) (m : Nat) (a' : Option Addr) (c' : Nat), j ≤ n ∧ i = .int .i64 j ∧ v = .slice a' m c' ∧ m = rest.length ∧ rest.length ≤ c' ∧ c' ≤ 9223372036854775807 ∧ Sees wn a' rest ∧ dn.length = j ∧ Hid ((decL (n - j) rest).map (dn ++ ·) = decL n r) ∧ RowZ wn w.heap.size (dn ++ List.replicate (n - j) nilV) ∧ w.heap.size < wn.heap.size ∧ (∀ k ∈ blk a', k ≠ w.heap.size) ∧ Kp [] w wn) (fun _ i _ => n - (intOf i).toNat)
        case atStart => exact ⟨0, [], r, _, _, _, Nat.zero_le _, rfl, rfl, by first | rfl | omega, by omega, by omega, hA, rfl, by show _ = _; simp, by simpa using hz, hWs, hnb, kW⟩
        case round =>
          obtain ⟨j, dn, rest, m, a', c', hj, rfl, rfl, hmr, hlc, hcm, hse, hdl, hdec, hrz, hBl, hbk, hk⟩ := hrel
          subst hmr
          have hdl' := hid hdl
          clear hdl
          by_cases hjm : j < n
          · obtain ⟨q, hq⟩ : ∃ q, n - j = q + 1 := ⟨n - j - 1, by omega⟩
            have hq' := hid hq
            rw [hq, decL_step] at hdec
            have hlen : (dn ++ List.replicate (n - j) nilV).length = n := by rw [List.length_append, hdl'.out, List.length_replicate]; omega
            obtain ⟨z0, z1, z2, z3⟩ := hrz.vals j nilV (by rw [List.getElem?_append_right (by rw [hdl'.out]; omega), hdl'.out, List.getElem?_replicate, if_pos (by omega)])
            have f0 := hrz.free (j * 4); have f1 := hrz.free (j * 4 + 1); have f2 := hrz.free (j * 4 + 2); have f3 := hrz.free (j * 4 + 3)
            have hT := cTakeValue a' c' rest wr hse hlc (by unfold maxLen; omega)
            have hle := rowF_le rest
            generalize hR' : rowF rest = rr at *
            obtain ⟨x, sz⟩ := rr
            dsimp only at hle hdec
            unfold Tk at hT
            dsimp only at hT
            have hxv : Hid (x.v = .agg #[.int .i64 x.k, .bool x.b, .int .i64 x.n, .string x.t]) := rfl
            rw [hxv.out] at hT
            have hlt0 : w.heap.size < wr.heap.size := hBl
            have hzz : Hid (RowZ wr w.heap.size (dn ++ List.replicate (n - j) nilV)) := hrz
            clear hR' hrz hxv hq
            generalize hrz' : (dn ++ List.replicate (n - j) nilV) = rz at *
            have hrz := hid hrz'
            clear hrz'
            go_wp2_with fail
            refine hT.mono ?_
            rintro e w1 ⟨rfl, k1⟩
            have kN := k1.trans (kpNew w1 (.cells #[.int .i64 x.k, .bool x.b, .int .i64 x.n, .string x.t] 35)) (by simp)
            have z0' := kpAt k1 z0; have z1' := kpAt k1 z1; have z2' := kpAt k1 z2; have z3' := kpAt k1 z3
            have g0 := (k1.frozen (p := ⟨w.heap.size, j * 4, none⟩) hlt0 (by simp)).trans f0
            have g1 := (k1.frozen (p := ⟨w.heap.size, j * 4 + 1, none⟩) hlt0 (by simp)).trans f1
            have g2 := (k1.frozen (p := ⟨w.heap.size, j * 4 + 2, none⟩) hlt0 (by simp)).trans f2
            have g3 := (k1.frozen (p := ⟨w.heap.size, j * 4 + 3, none⟩) hlt0 (by simp)).trans f3
            have hlt1 : w.heap.size < w1.heap.size := Nat.lt_of_lt_of_le hlt0 k1.size
            clear z0 z1 z2 z3 f0 f1 f2 f3 hT
            by_cases hsz : sz = 0
            · subst hsz
              have HE : Hid (R = ([], 30)) := by show _ = _; rw [HF.out, ← hdec.out]; rfl
              clear hdec HF
              go_wp2_with fail
              go_ret2
              exact ⟨none, 0, [], 30, HE, rfl, .inl rfl, by simp, by simp, by simp, fun _ => rfl, hk.trans kN (by simp)⟩
            · have hsz' : ((sz : Int) == 0) = false := by simp; omega
              rw [if_neg hsz] at hdec
              have hsz1 : (sz : Int) ≤ rest.length := by omega
              have hZ1 := (hzz.out.kept hlt0 k1).set j x (by omega)
              have hkB : Kp [w.heap.size] w1 _ := ((((Kp.refl [w.heap.size] w1).setCell (p := ⟨w.heap.size, j * 4, none⟩) (.inl (by simp)) (.int .i64 x.k)).setCell (p := ⟨w.heap.size, j * 4 + 1, none⟩) (.inl (by simp)) (.bool x.b)).setCell (p := ⟨w.heap.size, j * 4 + 2, none⟩) (.inl (by simp)) (.int .i64 x.n)).setCell (p := ⟨w.heap.size, j * 4 + 3, none⟩) (.inl (by simp)) (.string x.t)
              have hBn1 : w.heap.size < _ := Nat.lt_of_lt_of_le hlt1 hkB.size
              have hS1 := seesKeep ((seesKeep hse k1).kept hkB (fun k hk' => by simpa using hbk k hk')) (kpNew _ (.cells #[.int .i64 x.k, .bool x.b, .int .i64 x.n, .string x.t] 35))
              have hkn := ((hk.trans k1 (by simp)).trans hkB (fun k hk' => .inr (by simp at hk'; omega))).alloc (.cells #[.int .i64 x.k, .bool x.b, .int .i64 x.n, .string x.t] 35)
              have hZ := hZ1.kept hBn1 (kpNew _ (.cells #[.int .i64 x.k, .bool x.b, .int .i64 x.n, .string x.t] 35))
              have hBn := Nat.lt_of_lt_of_le hBn1 (kpNew _ (.cells #[.int .i64 x.k, .bool x.b, .int .i64 x.n, .string x.t] 35)).size
              clear hZ1 hBn1
              have hset : rz.set j x = dn ++ [x] ++ List.replicate q nilV := by
                rw [← hrz.out, hq'.out, List.replicate_succ, List.set_append_right _ _ (by rw [hdl'.out]; omega), hdl'.out]
                simp
              rw [hset] at hZ
              obtain ⟨g', o', rfl⟩ : ∃ g' o', a' = some ⟨g', o', none⟩ := by
                rcases hse with h | ⟨g', o', h, _⟩
                · subst h; simp at hsz1; omega
                · exact ⟨g', o', h⟩
              have hbk' : g' ≠ w.heap.size := hbk g' (by simp [blk])
              have hdr : (rest.drop sz).length = rest.length - sz := by simp
              have hS2 := Sees.tail hS1 sz
              rw [show (some (⟨g', o', none⟩ : Addr)).map (fun x => x.add sz) = some ⟨g', o' + sz, none⟩ by simp [Addr.add_lit]] at hS2
              have hS3 : rest.length ≤ sz → Hid (rest.drop sz = []) := fun h => List.drop_eq_nil_of_le h
              have hD : Hid (Option.map (fun x_1 => dn ++ [x] ++ x_1) (decL (n - (j + 1)) (rest.drop sz)) = decL n r) := by show _ = _; rw [show n - (j + 1) = q by have := hq'.out; omega]; exact hdec.out
              rw [show q = n - (j + 1) by have := hq'.out; omega] at hZ
              have hZ' := hid hZ
              have hdl2 : Hid ((dn ++ [x]).length = j + 1) := by show _ = _; simp [hdl'.out]
              clear hZ hdec hset hS1 hkB hse hbk
              generalize rest.drop sz = rest' at *
              by_cases hcz : c' = sz
              · have hre := (hS3 (by omega)).out
                subst hcz
                subst hre
                have hr0 : rest.length - c' = 0 := by omega
                go_wp2_with fail
                exact ⟨⟨j + 1, dn ++ [x], [], _, _, _, by omega, by go_num, rfl, by simp, by simp, by omega, .inl rfl, hdl2.out, hD, hZ'.out, hBn, by intro k hk'; simp [blk] at hk'; omega, hkn⟩, by simp [intOf]; omega⟩
              · go_wp2_with fail
                exact ⟨⟨j + 1, dn ++ [x], rest', _, _, _, by omega, by go_num, rfl, by omega, by omega, by omega, hS2, hdl2.out, hD, hZ'.out, hBn, by intro k hk'; simp [blk] at hk'; omega, hkn⟩, by simp [intOf]; omega⟩
          · obtain rfl : j = n := by omega
            have hz2 := hrz
            rw [Nat.sub_self] at hdec hz2
            rw [show dn ++ List.replicate 0 nilV = dn by simp] at hz2
            cases rest with
            | nil =>
              have HE : Hid (R = (dn, 0)) := by show _ = _; rw [HF.out, ← hdec.out]; simp [decL, decO]
              have hvs := hz2.asVals
              clear hdec HF hrz
              rw [List.length_nil]
              go_wp2_with fail
              go_ret2
              exact ⟨_, _, dn, 0, HE, by rw [hdl'.out]; rfl, hvs, by rw [hdl'.out]; omega, by rw [hdl'.out]; omega, by unfold maxLen; omega, by simp, hk⟩
            | cons y s =>
              have HE : Hid (R = ([], 30)) := by show _ = _; rw [HF.out, ← hdec.out]; simp [decL, decO]
              clear hdec HF hrz
              rw [List.length_cons]
              go_wp2_with fail
              go_ret2
              exact ⟨none, 0, [], 30, HE, rfl, .inl rfl, by simp, by simp, by simp, fun _ => rfl, hk⟩
end Go.Proofs.Ytlehalhficlenaa

/- takeDelta. takeBits. takeDict. take and Decode, in every kind. No encoding of so many values is another one's beginning. -/
import Derived.Test.YtohbdbecioanaaaGreatDoorB9
import Derived.Deep.RegionHeld3
section
namespace Go.Proofs.YtohbdbecioanaaaGreatDoor
open Go.RowKit Go.Hay
set_option linter.unusedVariables false
set_option linter.unusedSimpArgs false

theorem tkG_lt : ∀ (bs : List UInt8) (i z : Nat), z < 2 ^ (7 * i) → z < 18446744073709551616 → (tkG i z bs).1 < 18446744073709551616
  | [], i, z, _, _ => by simp [tkG]
  | x :: r, i, z, h1, h2 => by
    rw [tkG]
    split
    · rename_i hi
      obtain ⟨_, g1, g2⟩ := grp_step i z x.toNat hi h1 h2
      split
      · exact g2
      · exact tkG_lt r (i + 1) _ g1 g2
    · simp
theorem rowOneV (w : World) {q : Nat} (hq : w.heap.size = q) (x : Val) (t : TypeId) : VE.Row (w.alloc (.cells #[.int .i64 x.k, .bool x.b, .int .i64 x.n, .string x.t] t)) (.slice (some ⟨q, 0, none⟩) 1 1) [x] := by
  subst hq
  refine .inr ⟨w.heap.size, 0, 1, rfl, Nat.le_refl _, by decide, by simp, fun j u hu => ?_, fun j hj => ?_⟩
  · have e : (w.alloc (.cells #[.int .i64 x.k, .bool x.b, .int .i64 x.n, .string x.t] t)).cell? ⟨w.heap.size, 0 + j, none⟩ = _ := World.cell?_alloc_new w _ _ (0 + j)
    rw [e, Nat.zero_add]
    simpa [El.cs, VE] using hu
  · have e : (w.alloc (.cells #[.int .i64 x.k, .bool x.b, .int .i64 x.n, .string x.t] t)).cell? ⟨w.heap.size, 0 + j, none⟩ = _ := World.cell?_alloc_new w _ _ (0 + j)
    have hj4 : j < 4 := by have e4 : VE.n = 4 := rfl; rw [e4] at hj; omega
    refine ⟨?_, World.frozen?_alloc_new w _ _ (0 + j)⟩
    rw [e, Nat.zero_add]
    match j, hj4 with
    | 0, _ | 1, _ | 2, _ | 3, _ => rfl
structure TdI (w W : World) (many j : Nat) (n : Int) (ba : Option Addr) (bc : Nat) (rest : List UInt8) (la : Option Addr) (lc : Nat) (acc : List Val) (F : Option (List Val)) : Prop where
  see : Sees w ba rest
  len : rest.length ≤ bc
  cap : bc ≤ 9223372036854775807
  few : rest.length ≤ 900000000000000
  row : VE.Row W (.slice la acc.length lc) acc
  new : ∀ k ∈ blk la, w.heap.size ≤ k
  kp : Kp [] w W
  al : Hid (acc.length = j + 1)
  lo : -9223372036854775808 ≤ n ∧ n < 9223372036854775808
  fin : Hid (tkD (many - 1 - j) n acc rest = F)
theorem wordV_bd (bs : List UInt8) : -9223372036854775808 ≤ wordV bs ∧ wordV bs < 9223372036854775808 := by unfold wordV wrap64; omega
set_option maxHeartbeats 8000000 in
set_option maxRecDepth 100000 in
theorem cTakeDelta (a : Option Addr) (c : Nat) (bs : List UInt8) (many : Nat) (w : World) (hs : Sees w a bs) (hl : bs.length ≤ c) (hm : c ≤ maxLen) (hb : bs.length ≤ 900000000000000) (hmn : many ≤ 64) (h0 : 0 < many) :
    Calls Tryz.prog 93 #[.slice a bs.length c, .int .i64 many] w (TkL w (okV (tkDl many bs))) := by
  obtain ⟨i0, hi, hz0, hz1, hz2⟩ := infoV'
  unfold maxLen at hm
  by_cases h8 : bs.length < 8
  · have hF : Hid (tkDl many bs = none) := by show _ = _; unfold tkDl; rw [if_pos h8]
    rw [hF.out]
    have hfin := tkL_none w w (Kp.refl _ _)
    have d1 : (bs.length : Int) < 8 := by omega
    clear hs
    go_enter Tryz.func93, Tryz.ntmps93
    go_wp2_with fail
    go_ret2
    exact hfin
  · have hF : Hid (tkDl many bs = tkD (many - 1) (wordV bs) [intV (wordV bs)] (bs.drop 8)) := by show _ = _; unfold tkDl; rw [if_neg h8]
    rw [hF.out]
    have cW := cWord a c bs w hs (by omega) hb
    have hbd := wordV_bd bs
    obtain ⟨n, hn⟩ : ∃ n, Hid (wordV bs = n) := ⟨_, rfl⟩
    rw [hn.out] at cW hbd ⊢
    obtain ⟨F, hFF⟩ : ∃ F, Hid (tkD (many - 1) n [intV n] (bs.drop 8) = F) := ⟨_, rfl⟩
    rw [hFF.out]
    obtain ⟨g, o, rfl, _⟩ : ∃ g o, a = some ⟨g, o, none⟩ ∧ ∀ j u, bs[j]? = some u → w.cell? ⟨g, o + j, none⟩ = some (.int .u8 u.toNat) := by
      rcases hs with h | h
      · rw [h] at h8; simp at h8
      · exact h
    have htl : Hid (Sees w (some ⟨g, o + 8, none⟩) (bs.drop 8)) := by show Sees _ _ _; have := Sees.tail hs 8; simpa [Addr.add_lit] using this
    have cI := cInt n w
    have d1 : ¬ (bs.length : Int) < 8 := by omega
    have hdl : (bs.drop 8).length = bs.length - 8 := by simp
    have hst : Hid (∀ ba W, Sees w ba (bs.drop 8) → Kp [] w W → ∃ (j : Nat) (n' : Int) (ba' : Option Addr) (bc : Nat) (rest : List UInt8) (la : Option Addr) (lc : Nat) (acc : List Val), j ≤ many - 1 ∧ (.int .i64 0 : Value) = .int .i64 j ∧ (.slice ba (bs.length - 8) (c - 8) : Value) = .slice ba' rest.length bc ∧ (.int .i64 n : Value) = .int .i64 n' ∧ (.slice (some ⟨W.heap.size, 0, none⟩) 1 1 : Value) = .slice la acc.length lc ∧ TdI w (W.alloc (.cells #[.int .i64 2, .bool false, .int .i64 n, .string ⟨#[]⟩] 30)) many j n' ba' bc rest la lc acc F) := fun ba W hsb kW =>
      ⟨0, n, ba, c - 8, bs.drop 8, some ⟨W.heap.size, 0, none⟩, 1, [intV n], Nat.zero_le _, rfl, by rw [hdl], rfl, rfl, hsb, by rw [hdl]; omega, by omega, by rw [hdl]; omega, rowOneV W rfl (intV n) _, fun k hk => by simp [blk] at hk; have := kW.size; omega, kW.alloc _, rfl, hbd, by rw [Nat.sub_zero]; exact hFF⟩
    clear hs hF hFF hn
    go_enter Tryz.func93, Tryz.ntmps93
    go_wp2_with fail
    refine cW.mono ?_
    rintro e w9 ⟨rfl, hw9⟩
    rw [hw9]
    clear hw9 w9 cW
    go_wp2_with fail
    refine cI.mono ?_
    rintro e w1 ⟨rfl, k1⟩
    clear cI
    obtain ⟨ba, hba, hsb⟩ : ∃ ba, Hid ((if c = 8 then some ⟨g, o, none⟩ else some ⟨g, o + 8, none⟩ : Option Addr) = ba) ∧ Hid (Sees w ba (bs.drop 8)) := by
      refine ⟨_, rfl, ?_⟩
      show Sees _ _ _
      split
      · have : bs.drop 8 = [] := List.drop_eq_nil_of_le (by omega)
        rw [this]; exact .inl rfl
      · exact htl.out
    have hst1 := hid (hst.out ba w1 hsb.out k1)
    clear hst hsb htl
    have hbe : (if c - 8 = 0 then (some ⟨g, o, none⟩ : Option Addr) else some ⟨g, o + 8, none⟩) = ba := by
      rw [← hba.out]
      by_cases h : c = 8
      · rw [if_pos h, if_pos (by omega)]
      · rw [if_neg h, if_neg (by omega)]
    have hba' := hba.out
    go_wp2_with fail
    clear hbe hba' hba hbd
    go_loopw [0, 6, 7, 22] (fun v0 v6 v7 i wn => ∃ (j : Nat) (n' : Int) (ba' : Option Addr) (bc : Nat) (rest : List UInt8) (la : Option Addr) (lc : Nat) (acc : List Val), j ≤ many - 1 ∧ i = .int .i64 j ∧ v0 = .slice ba' rest.length bc ∧ v6 = .int .i64 n' ∧ v7 = .slice la acc.length lc ∧ TdI w wn many j n' ba' bc rest la lc acc F) (fun _ _ _ i _ => many - 1 - (intOf i).toNat)
    case atStart => exact hst1.out
    case round =>
      clear hst1 k1
      obtain ⟨j, n, ba, bc, rest, la, lc, acc, hj, rfl, rfl, rfl, rfl, I⟩ := hrel
      by_cases hlt : j < many - 1
      · have hkw := I.kp
        have hcap := I.cap
        have hlen := I.len
        have hfew := I.few
        have hlo := I.lo
        have hal := I.al
        have hal2 : acc.length ≤ 65 := by rw [hal.out]; omega
        have ht := cTakeGroups ba bc rest wr (I.see.kept I.kp (by simp)) I.few
        have htle := tkG_le rest 0 0
        have htlt := tkG_lt rest 0 0 (by decide) (by decide)
        have hfin := I.fin
        rw [show many - 1 - j = (many - 1 - (j + 1)) + 1 by omega, tkD] at hfin
        obtain ⟨⟨z, sz⟩, htk⟩ : ∃ t, Hid (tkG 0 0 rest = t) := ⟨_, rfl⟩
        rw [htk.out] at ht htle htlt hfin
        dsimp only at ht htle htlt hfin
        have hI := hid I
        have d2 : (j : Int) < (many : Int) - 1 := by omega
        clear I
        go_wp2_with fail
        refine ht.mono ?_
        rintro e w9 ⟨rfl, hw9⟩
        rw [hw9]
        clear hw9 w9 ht
        by_cases hsz : sz = 0
        · subst hsz
          rw [if_pos rfl] at hfin
          have hF' : Hid (F = none) := hfin.out.symm
          have hP : TkL w (okV F) (.returned (.tuple #[.slice none 0 0, .bool false])) wr := by rw [hF'.out]; exact tkL_none w wr hkw
          clear hfin hI hF'
          go_wp2_with fail
          go_ret2
          exact hP
        · rw [if_neg hsz] at hfin
          have hsz' : ((sz : Int) == 0) = false := by rw [beq_eq_false_iff_ne]; omega
          have cU := cUnfold z htlt wr
          obtain ⟨N, hN⟩ : ∃ N, Hid (IntKind.i64.wrap (n + zag z) = N) := ⟨_, rfl⟩
          have hNb := wrap64_bd (n + zag z)
          rw [hN.out] at hfin hNb
          have hNe : IntKind.i64.wrap (n + zag z) = N := hN.out
          have cI := cInt N wr
          go_wp2_with fail
          refine cU.mono ?_
          rintro e w9 ⟨rfl, hw9⟩
          rw [hw9]
          clear hw9 w9 cU
          go_wp2_with fail
          refine cI.mono ?_
          rintro e w1 ⟨rfl, k1⟩
          clear cI
          obtain ⟨wc, hwc⟩ : ∃ wc, w1.alloc (.cells #[.int .i64 2, .bool false, .int .i64 N, .string ⟨#[]⟩] 30) = wc := ⟨_, rfl⟩
          have kc : Kp [] wr wc := by rw [← hwc]; exact k1.alloc _
          have hsr : VE.See wc (some ⟨w1.heap.size, 0, none⟩) [intV N] := by rw [← hwc]; exact oneV w1 rfl (intV N) _
          have hsrc := hsr.src (P := Tryz.prog) Tryz.underlying23 1
          have hrowc := hI.out.row.keptNew kc
          obtain ⟨v', X3, hrun, hrow3, kk3, hn3⟩ := run_appendG (E := VE) (P := Tryz.prog) wc 23 23 23 30 i0 _ 40 Tryz.underlying23 hi hz0 hz1 hz2 rfl (.slice la acc.length lc) acc hrowc _ [intV N] hsrc (by simp; omega) (by simp; omega)
          obtain ⟨a3, c3, rfl, _⟩ := hrow3.see
          rw [ownS] at kk3
          obtain ⟨g, o, rfl⟩ : ∃ g o, ba = some ⟨g, o, none⟩ := by
            rcases hI.out.see with h | ⟨g, o, h, _⟩
            · rw [h] at htle; simp at htle; omega
            · exact ⟨g, o, h⟩
          obtain ⟨ba2, hba2, hsb2⟩ : ∃ ba2, Hid ((if bc = sz then some ⟨g, o, none⟩ else some ⟨g, o + sz, none⟩ : Option Addr) = ba2) ∧ Hid (Sees w ba2 (rest.drop sz)) := by
            refine ⟨_, rfl, ?_⟩
            show Sees _ _ _
            split
            · have : rest.drop sz = [] := List.drop_eq_nil_of_le (by omega)
              rw [this]; exact .inl rfl
            · have := Sees.tail hI.out.see sz; simpa [Addr.add_lit] using this
          have hdl2 : (rest.drop sz).length = rest.length - sz := by simp
          have hnxt : Hid (∃ (j' : Nat) (n' : Int) (ba' : Option Addr) (bc' : Nat) (rest' : List UInt8) (la' : Option Addr) (lc' : Nat) (acc' : List Val), j' ≤ many - 1 ∧ (.int .i64 ((j : Int) + 1) : Value) = .int .i64 j' ∧ (.slice ba2 (rest.length - sz) (bc - sz) : Value) = .slice ba' rest'.length bc' ∧ (.int .i64 N : Value) = .int .i64 n' ∧ (.slice a3 (acc.length + 1) c3 : Value) = .slice la' acc'.length lc' ∧ TdI w X3 many j' n' ba' bc' rest' la' lc' acc' F) := by
            refine ⟨j + 1, N, ba2, bc - sz, rest.drop sz, a3, c3, acc ++ [intV N], by omega, by go_num, by rw [hdl2], rfl, by rw [List.length_append]; rfl, hsb2.out, by rw [hdl2]; omega, by omega, by rw [hdl2]; omega, hrow3, fun k hk => ?_, ?_, by show _ = _; rw [List.length_append, hal.out]; rfl, hNb, hfin⟩
            · rcases hn3 k (by rw [ownS]; exact hk) with h | h
              · rw [ownS] at h; exact hI.out.new k h
              · have := hkw.size; have := kc.size; omega
            · exact (hkw.trans kc (by simp)).trans kk3 (fun k hk => .inr (hI.out.new k hk))
          have hba3 := hba2.out
          clear hrowc hrow3 kk3 hn3 hsr hsrc kc hfin hI hN hsb2 hba2 hal
          go_wp2_with (first | (refine wpAppRun rfl _ _ 23 23 rfl _ _ _ rfl rfl hrun ?_) | fail)
          exact ⟨hnxt.out, by simp [intOf]; omega⟩
      · obtain rfl : j = many - 1 := by omega
        have hfin : Hid (F = some acc) := by
          have := I.fin.out
          rw [Nat.sub_self, tkD] at this
          exact this.symm
        have hP : TkL w (okV F) (.returned (.tuple #[.slice la acc.length lc, .bool true])) wr := by
          rw [hfin.out]
          exact ⟨la, lc, rfl, I.row, I.kp, I.new⟩
        have d2 : ¬ ((many - 1 : Nat) : Int) < (many : Int) - 1 := by omega
        clear I hfin
        go_wp2_with fail
        go_ret2
        exact hP
end Go.Proofs.YtohbdbecioanaaaGreatDoor
end

section
namespace Go.Proofs.YtohbdbecioanaaaGreatDoor
open Go.RowKit Go.Hay
set_option linter.unusedVariables false
set_option linter.unusedSimpArgs false

theorem u64At {W : World} {a : Option Addr} {l : List Nat} (h : U64E.See W a l) (i : Nat) (hi : i < l.length) : ∃ g o, a = some ⟨g, o, none⟩ ∧ W.cell? ⟨g, o + i, none⟩ = some (.int .u64 (l[i] : Int)) := by
  obtain ⟨g, o, e, hc⟩ := h.at (List.getElem?_eq_getElem hi)
  refine ⟨g, o, e, ?_⟩
  have := hc 0 (.int .u64 (l[i] : Int)) rfl
  simpa [U64E] using this
theorem wrap_twice (m : Int) (n : Nat) : IntKind.i64.wrap (m + IntKind.i64.wrap (n : Int)) = IntKind.i64.wrap (m + (n : Int)) := by
  rw [IntKind.wrap_i64, IntKind.wrap_i64, IntKind.wrap_i64]; omega
/-- A row made of so many values of a list, the rest nought. -/
def mapTo (f : Nat → Val) (ns : List Nat) (many j : Nat) : List Val := (ns.take j).map f ++ List.replicate (many - j) nv
theorem mapTo_len (f : Nat → Val) (ns : List Nat) (j : Nat) (h : j ≤ ns.length) : (mapTo f ns ns.length j).length = ns.length := by unfold mapTo; simp; omega
theorem mapTo_set (f : Nat → Val) (ns : List Nat) (j : Nat) (h : j < ns.length) : (mapTo f ns ns.length j).set j (f ns[j]) = mapTo f ns ns.length (j + 1) := by
  unfold mapTo
  have := set_app ((ns.take j).map f) nv (f ns[j]) (ns.length - (j + 1))
  rw [List.length_map, List.length_take, Nat.min_eq_left (by omega), show ns.length - (j + 1) + 1 = ns.length - j by omega] at this
  rw [this, List.take_succ_eq_append_getElem h, List.map_append]
  rfl
theorem mapTo_all (f : Nat → Val) (ns : List Nat) : mapTo f ns ns.length ns.length = ns.map f := by unfold mapTo; simp
theorem upkO_len {bs : List UInt8} {many wd : Nat} {ns : List Nat} (h : upkO bs many wd = some ns) : ns.length = many ∧ ns = upk bs many wd := by
  unfold upkO at h
  split at h
  · injection h with h; subst h; exact ⟨upk_length _ _ _, rfl⟩
  · cases h
set_option maxHeartbeats 8000000 in
set_option maxRecDepth 100000 in
theorem cTakeBits (a : Option Addr) (c : Nat) (bs : List UInt8) (many : Nat) (w : World) (hs : Sees w a bs) (hl : bs.length ≤ c) (hm : c ≤ maxLen) (hb : bs.length ≤ 900000000000000) (hmn : many ≤ 64) :
    Calls Tryz.prog 95 #[.slice a bs.length c, .int .i64 many] w (TkL w (okV (tkBt many bs))) := by
  obtain ⟨i0, hi, hz0, hz1, hz2⟩ := infoV'
  unfold maxLen at hm
  obtain ⟨F, hFF⟩ : ∃ F, Hid (tkBt many bs = F) := ⟨_, rfl⟩
  rw [hFF.out]
  by_cases h8 : bs.length ≤ 8
  · have hF : Hid (F = none) := by show _ = _; rw [← hFF.out]; unfold tkBt; rw [if_pos (.inl h8)]
    have hfin : TkL w (okV F) (.returned (.tuple #[.slice none 0 0, .bool false])) w := by rw [hF.out]; exact tkL_none w w (Kp.refl _ _)
    have d1 : (bs.length : Int) ≤ 8 := by omega
    clear hs hFF hF
    go_enter Tryz.func95, Tryz.ntmps95
    go_wp2_with fail
    go_ret2
    exact hfin
  · obtain ⟨g, o, rfl, hc⟩ : ∃ g o, a = some ⟨g, o, none⟩ ∧ ∀ j u, bs[j]? = some u → w.cell? ⟨g, o + j, none⟩ = some (.int .u8 u.toNat) := by
      rcases hs with h | h
      · rw [h] at h8; simp at h8
      · exact h
    have h8' : 8 < bs.length := by omega
    have hcx := hc 8 bs[8] (by simp [h8'])
    have hg8 : Hid (bs.getD 8 0 = bs[8]) := by show _ = _; simp [h8']
    have hx := bs[8].toNat_lt
    obtain ⟨x, hxx⟩ : ∃ x, Hid (bs[8].toNat = x) := ⟨bs[8].toNat, by show _ = _; rfl⟩
    rw [hxx.out] at hcx hx
    have d1 : ¬ (bs.length : Int) ≤ 8 := by omega
    have d1' : ¬ bs.length ≤ 8 := h8
    by_cases hx64 : 64 < x
    · have hF : Hid (F = none) := by show _ = _; rw [← hFF.out]; unfold tkBt; rw [if_pos (.inr (by rw [hg8.out, hxx.out]; exact hx64))]
      have hfin : TkL w (okV F) (.returned (.tuple #[.slice none 0 0, .bool false])) w := by rw [hF.out]; exact tkL_none w w (Kp.refl _ _)
      have d2 : (64 : Int) < (x : Int) := by omega
      clear hs hFF hF hc
      go_enter Tryz.func95, Tryz.ntmps95
      go_wp2_with fail
      go_ret2
      exact hfin
    · have hF : Hid (F = (upkO (bs.drop 9) many x).map fun l => l.map fun (n : Nat) => intV (IntKind.i64.wrap (wordV bs + (n : Int)))) := by
        show _ = _
        rw [← hFF.out]; unfold tkBt; rw [hg8.out, hxx.out, if_neg (by omega)]
      have d2 : ¬ (64 : Int) < (x : Int) := by omega
      have hcW := hid (fun W (k : Kp [] w W) => cWord (some ⟨g, o, none⟩) c bs W (hs.kept k (by simp)) (by omega) hb)
      obtain ⟨ba, hba, hsb⟩ : ∃ ba, Hid ((if c = 9 then some ⟨g, o, none⟩ else some ⟨g, o + 9, none⟩ : Option Addr) = ba) ∧ Hid (Sees w ba (bs.drop 9)) := by
        refine ⟨_, rfl, ?_⟩
        show Sees _ _ _
        split
        · have : bs.drop 9 = [] := List.drop_eq_nil_of_le (by omega)
          rw [this]; exact .inl rfl
        · have := Sees.tail hs 9; simpa [Addr.add_lit] using this
      have hdl : (bs.drop 9).length = bs.length - 9 := by simp
      have hcU : Hid (∀ W, Kp [] w W → Calls Tryz.prog 127 #[.slice ba (bs.length - 9) (c - 9), .int .i64 many, .int .i64 x] W (UpP W (upkO (bs.drop 9) many x))) := fun W k => by
        have := cUnpack ba (c - 9) (bs.drop 9) many x W (hsb.out.kept k (by simp)) (by rw [hdl]; omega) hmn (by omega)
        rw [hdl] at this
        exact this
      have hlen := hid (fun ns (h : upkO (bs.drop 9) many x = some ns) => (upkO_len h).1)
      obtain ⟨U, hU⟩ : ∃ U, Hid (upkO (bs.drop 9) many x = U) := ⟨_, rfl⟩
      rw [hU.out] at hF hlen
      simp only [hU.out] at hcU
      obtain ⟨n, hn⟩ : ∃ n, Hid (wordV bs = n) := ⟨_, rfl⟩
      rw [hn.out] at hF
      simp only [hn.out] at hcW
      have hbe := hba.out
      have kd : Kp [] w w.drew := (Kp.refl _ _).drew
      have hS : Hid (∀ A, Kp [] w A → A.cell? ⟨g, o + 8, none⟩ = some (.int .u8 x)) := fun A kA => kpAt kA hcx
      have d9 : (9 : Int) ≤ (bs.length : Int) := by omega
      have hwx : IntKind.i64.wrap (x : Int) = (x : Int) := by rw [IntKind.wrap_i64]; omega
      clear hs hFF hc hg8 hxx hsb hU hn hba hdl
      go_enter Tryz.func95, Tryz.ntmps95
      go_wp2_with fail
      clear hcx
      refine wp_region_held_drew (S := (fun A => A.cell? ⟨g, o + 8, none⟩ = some (.int .u8 x))) (by kernel_rfl) ?_ (fun hHeld => ?_)
      · exact hS.out _ kd
      generalize w.drew = wd at *
      refine wpAnyH_take (i := 0) (v := ?_) rfl (by kernel_rfl) (by kernel_rfl) (by kernel_rfl) (fun _ _ _ h => h) (Or.inl ⟨by rfl, ?_⟩) (by assumption) ?_
      rotate_left
      · intro w hSw; (try dsimp only at hSw); go_simp <;> with_reducible rfl
      try simp only [Act.put, List.getElem_toArray, List.getElem_cons_zero, List.getElem_cons_succ, List.setIfInBounds_toArray, List.set_cons_zero, List.set_cons_succ]
      refine wpAnyH_take (i := 1) (v := ?_) rfl (by kernel_rfl) (by kernel_rfl) (by kernel_rfl) (fun _ _ _ h => h) (Or.inl ⟨by rfl, ?_⟩) (by assumption) ?_
      rotate_left
      · intro w hSw; (try dsimp only at hSw); go_simp <;> with_reducible rfl
      try simp only [Act.put, List.getElem_toArray, List.getElem_cons_zero, List.getElem_cons_succ, List.setIfInBounds_toArray, List.set_cons_zero, List.set_cons_succ]
      refine wpAnyH_take (i := 2) (v := ?_) rfl (by kernel_rfl) (by kernel_rfl) (by kernel_rfl) (fun _ _ _ h => h) (Or.inl ⟨by rfl, ?_⟩) (by assumption) ?_
      rotate_left
      · intro w hSw; (try dsimp only at hSw); go_simp <;> with_reducible rfl
      try simp only [Act.put, List.getElem_toArray, List.getElem_cons_zero, List.getElem_cons_succ, List.setIfInBounds_toArray, List.set_cons_zero, List.set_cons_succ]
      refine wpAnyH_take (i := 3) (v := ?_) rfl (by kernel_rfl) (by kernel_rfl) (by kernel_rfl) (fun _ _ _ h => h) (Or.inl ⟨by rfl, ?_⟩) (by assumption) ?_
      rotate_left
      · intro w hSw; (try dsimp only at hSw); go_simp <;> with_reducible rfl
      try simp only [Act.put, List.getElem_toArray, List.getElem_cons_zero, List.getElem_cons_succ, List.setIfInBounds_toArray, List.set_cons_zero, List.set_cons_succ]
      refine wpAnyH_take (i := 4) (v := ?_) rfl (by kernel_rfl) (by kernel_rfl) (by kernel_rfl) (fun _ _ _ h => h) (Or.inl ⟨by rfl, ?_⟩) (by assumption) ?_
      rotate_left
      · intro w hSw; (try dsimp only at hSw); go_simp <;> with_reducible rfl
      try simp only [Act.put, List.getElem_toArray, List.getElem_cons_zero, List.getElem_cons_succ, List.setIfInBounds_toArray, List.set_cons_zero, List.set_cons_succ]
      refine wpAnyH_take (i := 5) (v := ?_) rfl (by kernel_rfl) (by kernel_rfl) (by kernel_rfl) (fun _ _ _ h => h) (Or.inl ⟨by rfl, ?_⟩) (by assumption) ?_
      rotate_left
      · intro w hSw; (try dsimp only at hSw); go_simp <;> with_reducible rfl
      try simp only [Act.put, List.getElem_toArray, List.getElem_cons_zero, List.getElem_cons_succ, List.setIfInBounds_toArray, List.set_cons_zero, List.set_cons_succ]
      refine wpAnyH_take (i := 6) (v := ?_) rfl (by kernel_rfl) (by kernel_rfl) (by kernel_rfl) (fun _ _ _ h => h) (Or.inl ⟨by rfl, ?_⟩) (by assumption) ?_
      rotate_left
      · intro w hSw; (try dsimp only at hSw); go_simp <;> with_reducible rfl
      try simp only [Act.put, List.getElem_toArray, List.getElem_cons_zero, List.getElem_cons_succ, List.setIfInBounds_toArray, List.set_cons_zero, List.set_cons_succ]
      cases U with
      | none =>
        refine wpAnyH_ready (rs := [7]) (by kernel_rfl) (by simp) ?_
        refine AllReadyH.cons rfl (fun K hK => ?_) AllReadyH.nil
        go_simp
        refine (hcU.out wd kd).mono ?_
        rintro e w2 ⟨rfl, k2⟩
        (try go_wp2_with fail)
        refine hK.out _ _ ?_ (fun hHeld => ?_)
        · exact hS.out _ (kd.trans k2 (by simp))
        clear hK K
        try simp only [Act.put, List.getElem_toArray, List.getElem_cons_zero, List.getElem_cons_succ, List.setIfInBounds_toArray, List.set_cons_zero, List.set_cons_succ]
        refine wpAnyH_take (i := 8) (v := ?_) rfl (by kernel_rfl) (by kernel_rfl) (by kernel_rfl) (fun _ _ _ h => h) (Or.inl ⟨by rfl, ?_⟩) (by assumption) ?_
        rotate_left
        · intro w hSw; (try dsimp only at hSw); go_simp <;> with_reducible rfl
        try simp only [Act.put, List.getElem_toArray, List.getElem_cons_zero, List.getElem_cons_succ, List.setIfInBounds_toArray, List.set_cons_zero, List.set_cons_succ]
        refine wpAnyH_take (i := 9) (v := ?_) rfl (by kernel_rfl) (by kernel_rfl) (by kernel_rfl) (fun _ _ _ h => h) (Or.inl ⟨by rfl, ?_⟩) (by assumption) ?_
        rotate_left
        · intro w hSw; (try dsimp only at hSw); go_simp <;> with_reducible rfl
        try simp only [Act.put, List.getElem_toArray, List.getElem_cons_zero, List.getElem_cons_succ, List.setIfInBounds_toArray, List.set_cons_zero, List.set_cons_succ]
        refine wpAnyH_take (i := 10) (v := ?_) rfl (by kernel_rfl) (by kernel_rfl) (by kernel_rfl) (fun _ _ _ h => h) (Or.inl ⟨by rfl, ?_⟩) (by assumption) ?_
        rotate_left
        · intro w hSw; (try dsimp only at hSw); go_simp <;> with_reducible rfl
        try simp only [Act.put, List.getElem_toArray, List.getElem_cons_zero, List.getElem_cons_succ, List.setIfInBounds_toArray, List.set_cons_zero, List.set_cons_succ]
        refine wpAnyH_take (i := 11) (v := ?_) rfl (by kernel_rfl) (by kernel_rfl) (by kernel_rfl) (fun _ _ _ h => h) (Or.inl ⟨by rfl, ?_⟩) (by assumption) ?_
        rotate_left
        · intro w hSw; (try dsimp only at hSw); go_simp <;> with_reducible rfl
        try simp only [Act.put, List.getElem_toArray, List.getElem_cons_zero, List.getElem_cons_succ, List.setIfInBounds_toArray, List.set_cons_zero, List.set_cons_succ]
        refine wpAnyH_take (i := 12) (v := ?_) rfl (by kernel_rfl) (by kernel_rfl) (by kernel_rfl) (fun _ _ _ h => h) (Or.inl ⟨by rfl, ?_⟩) (by assumption) ?_
        rotate_left
        · intro w hSw; (try dsimp only at hSw); go_simp <;> with_reducible rfl
        try simp only [Act.put, List.getElem_toArray, List.getElem_cons_zero, List.getElem_cons_succ, List.setIfInBounds_toArray, List.set_cons_zero, List.set_cons_succ]
        refine wpAnyH_done (by kernel_rfl) ?_ _
        have hfin : TkL w (okV F) (.returned (.tuple #[.slice none 0 0, .bool false])) w2 := by rw [hF.out]; exact tkL_none w w2 (kd.trans k2 (by simp))
        clear hF hcU hcW hS
        go_wp2_with fail
        go_ret2
        exact hfin
      | some ns =>
        refine wpAnyH_ready (rs := [7]) (by kernel_rfl) (by simp) ?_
        refine AllReadyH.cons rfl (fun K hK => ?_) AllReadyH.nil
        go_simp
        refine (hcU.out wd kd).mono ?_
        rintro e w2 ⟨a2, c2, rfl, hrow2, k2, hn2⟩
        have hrow2' := hid hrow2
        clear hrow2
        (try go_wp2_with fail)
        refine hK.out _ _ ?_ (fun hHeld => ?_)
        · exact hS.out _ (kd.trans k2 (by simp))
        clear hK K
        try simp only [Act.put, List.getElem_toArray, List.getElem_cons_zero, List.getElem_cons_succ, List.setIfInBounds_toArray, List.set_cons_zero, List.set_cons_succ]
        refine wpAnyH_take (i := 8) (v := ?_) rfl (by kernel_rfl) (by kernel_rfl) (by kernel_rfl) (fun _ _ _ h => h) (Or.inl ⟨by rfl, ?_⟩) (by assumption) ?_
        rotate_left
        · intro w hSw; (try dsimp only at hSw); go_simp <;> with_reducible rfl
        try simp only [Act.put, List.getElem_toArray, List.getElem_cons_zero, List.getElem_cons_succ, List.setIfInBounds_toArray, List.set_cons_zero, List.set_cons_succ]
        refine wpAnyH_take (i := 9) (v := ?_) rfl (by kernel_rfl) (by kernel_rfl) (by kernel_rfl) (fun _ _ _ h => h) (Or.inl ⟨by rfl, ?_⟩) (by assumption) ?_
        rotate_left
        · intro w hSw; (try dsimp only at hSw); go_simp <;> with_reducible rfl
        try simp only [Act.put, List.getElem_toArray, List.getElem_cons_zero, List.getElem_cons_succ, List.setIfInBounds_toArray, List.set_cons_zero, List.set_cons_succ]
        refine wpAnyH_take (i := 10) (v := ?_) rfl (by kernel_rfl) (by kernel_rfl) (by kernel_rfl) (fun _ _ _ h => h) (Or.inl ⟨by rfl, ?_⟩) (by assumption) ?_
        rotate_left
        · intro w hSw; (try dsimp only at hSw); go_simp <;> with_reducible rfl
        try simp only [Act.put, List.getElem_toArray, List.getElem_cons_zero, List.getElem_cons_succ, List.setIfInBounds_toArray, List.set_cons_zero, List.set_cons_succ]
        refine wpAnyH_take (i := 11) (v := ?_) rfl (by kernel_rfl) (by kernel_rfl) (by kernel_rfl) (fun _ _ _ h => h) (Or.inl ⟨by rfl, ?_⟩) (by assumption) ?_
        rotate_left
        · intro w hSw; (try dsimp only at hSw); go_simp <;> with_reducible rfl
        try simp only [Act.put, List.getElem_toArray, List.getElem_cons_zero, List.getElem_cons_succ, List.setIfInBounds_toArray, List.set_cons_zero, List.set_cons_succ]
        refine wpAnyH_take (i := 12) (v := ?_) rfl (by kernel_rfl) (by kernel_rfl) (by kernel_rfl) (fun _ _ _ h => h) (Or.inl ⟨by rfl, ?_⟩) (by assumption) ?_
        rotate_left
        · intro w hSw; (try dsimp only at hSw); go_simp <;> with_reducible rfl
        try simp only [Act.put, List.getElem_toArray, List.getElem_cons_zero, List.getElem_cons_succ, List.setIfInBounds_toArray, List.set_cons_zero, List.set_cons_succ]
        refine wpAnyH_done (by kernel_rfl) ?_ _
        have hnl := hlen.out ns rfl
        subst hnl
        have kw2 := kd.trans k2 (by simp)
        have cW := hcW.out w2 kw2
        have hsn : Hid (∀ W, Kp [] w2 W → U64E.See W a2 ns) := fun W kW => by
          obtain ⟨_, _, e, h1, _⟩ := hrow2'.out.see
          injection e with e1 e2 e3
          rw [e1]
          exact h1.keptNew kW
        obtain ⟨W1, hmk, hrow1, k1, hs1⟩ := run_makeG (E := VE) (P := Tryz.prog) w2 23 30 i0 _ nv 40 Tryz.underlying23 hi hz0 hz1 hz2 rfl .i64 .i64 ns.length (by omega) (by unfold maxLen; omega)
        obtain ⟨f, hf⟩ : ∃ f : Nat → Val, Hid ((fun (m : Nat) => intV (IntKind.i64.wrap (n + (m : Int)))) = f) := ⟨_, rfl⟩
        have hfa : Hid (∀ m : Nat, f m = intV (IntKind.i64.wrap (n + IntKind.i64.wrap (m : Int)))) := fun m => by rw [← hf.out, wrap_twice]
        have hF2 : Hid (F = some (ns.map f)) := by show _ = _; rw [hF.out, ← hf.out]; rfl
        have R0 : Hid (VE.Row W1 (.slice (some ⟨w2.heap.size, 0, none⟩) ns.length ns.length) (mapTo f ns ns.length 0)) := by show VE.Row _ _ _; simpa [mapTo] using hrow1
        have hw2 := hid (kw2)
        clear hF hcU hS hrow2' hrow1 hf hlen hcW hHeld hn2 hbe
        go_wp2_with fail
        refine cW.mono ?_
        rintro e w9 ⟨rfl, hw9⟩
        rw [hw9]
        clear hw9 w9 cW
        go_wp2_with fail
        go_loopw [40] (fun i wn => ∃ j : Nat, j ≤ ns.length ∧ i = .int .i64 j ∧ VE.Row wn (.slice (some ⟨w2.heap.size, 0, none⟩) ns.length ns.length) (mapTo f ns ns.length j) ∧ Kp [] w2 wn) (fun i _ => ns.length - (intOf i).toNat)
        case atStart => exact ⟨0, Nat.zero_le _, rfl, R0.out, k1⟩
        case round =>
          clear hmk R0 k1 hs1
          obtain ⟨j, hj, rfl, hrow, kn⟩ := hrel
          by_cases hlt : j < ns.length
          · obtain ⟨g2, o2, rfl, hcn⟩ := u64At (hsn.out wr kn) j hlt
            have hset := hid (fun W (k : Kp [] wr W) => rowSetV (hrow.keptNew k) j (by rw [mapTo_len _ _ _ (by omega)]; exact hlt) (f ns[j]))
            have hcells := hid (fun W (k : Kp [] wr W) => rowCellsV (hrow.keptNew k) j (by rw [mapTo_len _ _ _ (by omega)]; exact hlt))
            rw [mapTo_set f ns j hlt] at hset
            have hfj := hfa.out ns[j]
            generalize ns[j] = m at *
            obtain ⟨V, hV⟩ : ∃ V, Hid (IntKind.i64.wrap (n + IntKind.i64.wrap (m : Int)) = V) := ⟨_, rfl⟩
            have hVe : wrap64 (n + wrap64 (m : Int)) = V := by rw [← hV.out, IntKind.wrap_i64, IntKind.wrap_i64]; unfold wrap64; omega
            rw [hV.out] at hfj
            rw [hfj] at hset
            have cI := cInt V wr
            have hrow' := hid hrow
            clear hV hfj hrow
            go_wp2_with fail
            refine cI.mono ?_
            rintro e w3 ⟨rfl, k3⟩
            have hset3 := hset.out w3 k3
            have hcl := hcells.out w3 k3
            obtain ⟨⟨u0, c0⟩, f0⟩ := hcl 0 (by omega)
            obtain ⟨⟨u1, c1⟩, f1⟩ := hcl 1 (by omega)
            obtain ⟨⟨u2, c2'⟩, f2⟩ := hcl 2 (by omega)
            obtain ⟨⟨u3, c3⟩, f3⟩ := hcl 3 (by omega)
            rw [Nat.add_zero] at c0 f0
            have kset := kpSet4 (i := j) (kn.trans k3 (by simp)) (Nat.le_refl _) (.int .i64 (intV V).k) (.bool (intV V).b) (.int .i64 (intV V).n) (.string (intV V).t)
            unfold intV at hset3 kset
            dsimp only at hset3 kset
            have hs3 := hid hset3
            have ks3 := hid kset
            clear hset hcells hset3 kset hcl cI
            go_wp2_with fail
            exact ⟨⟨j + 1, by omega, by go_num, hs3.out, ks3.out⟩, by simp [intOf]; omega⟩
          · obtain rfl : j = ns.length := by omega
            rw [mapTo_all] at hrow
            have hml : (ns.map f).length = ns.length := by simp
            have hP : TkL w (okV F) (.returned (.tuple #[.slice (some ⟨w2.heap.size, 0, none⟩) ns.length ns.length, .bool true])) wr := by
              rw [hF2.out]
              exact ⟨some ⟨w2.heap.size, 0, none⟩, ns.length, by simp [okV], by show VE.Row _ (.slice _ (ns.map f).length _) _; rw [hml]; exact hrow, kw2.trans kn (by simp), fun k hk => by simp [blk] at hk; have := kw2.size; omega⟩
            clear hrow hF2
            go_wp2_with fail
            go_ret2
            exact hP
end Go.Proofs.YtohbdbecioanaaaGreatDoor
end

section
namespace Go.Proofs.YtohbdbecioanaaaGreatDoor
open Go.RowKit Go.Hay
set_option linter.unusedVariables false
set_option linter.unusedSimpArgs false

theorem tkP_len : ∀ (n : Nat) (acc : List Val) (bs : List UInt8) (q : List Val × List UInt8), tkP n acc bs = some q → q.1.length = acc.length + n ∧ q.2.length ≤ bs.length
  | 0, acc, bs, q, h => by rw [tkP] at h; injection h with h; subst h; simp
  | n + 1, acc, bs, q, h => by
    rw [tkP] at h
    split at h
    · cases h
    · obtain ⟨h1, h2⟩ := tkP_len n _ _ q h
      simp at h1 h2
      omega
set_option maxHeartbeats 8000000 in
set_option maxRecDepth 100000 in
theorem cTakeDict (a : Option Addr) (c : Nat) (bs : List UInt8) (many : Nat) (w : World) (hs : Sees w a bs) (hl : bs.length ≤ c) (hm : c ≤ maxLen) (hb : bs.length ≤ 900000000000000) (hmn : many ≤ 64) :
    Calls Tryz.prog 94 #[.slice a bs.length c, .int .i64 many] w (TkL w (okV (tkDc many bs))) := by
  obtain ⟨i0, hi, hz0, hz1, hz2⟩ := infoV'
  unfold maxLen at hm
  obtain ⟨F, hFF⟩ : ∃ F, Hid (tkDc many bs = F) := ⟨_, rfl⟩
  rw [hFF.out]
  by_cases h8 : bs.length = 0
  · have hF : Hid (F = none) := by show _ = _; rw [← hFF.out]; unfold tkDc; rw [if_pos (.inl h8)]
    have hfin : TkL w (okV F) (.returned (.tuple #[.slice none 0 0, .bool false])) w := by rw [hF.out]; exact tkL_none w w (Kp.refl _ _)
    rw [h8]
    clear hs hFF hF h8 hl hb
    go_enter Tryz.func94, Tryz.ntmps94
    go_wp2_with fail
    go_ret2
    exact hfin
  · obtain ⟨g, o, rfl, hc⟩ : ∃ g o, a = some ⟨g, o, none⟩ ∧ ∀ j u, bs[j]? = some u → w.cell? ⟨g, o + j, none⟩ = some (.int .u8 u.toNat) := by
      rcases hs with h | h
      · rw [h] at h8; simp at h8
      · exact h
    have h8' : 0 < bs.length := by omega
    have hcx := hc 0 bs[0] (by simp [h8'])
    rw [Nat.add_zero] at hcx
    have hg8 : Hid (bs.getD 0 0 = bs[0]) := by show _ = _; simp [h8']
    have hx := bs[0].toNat_lt
    obtain ⟨x, hxx⟩ : ∃ x, Hid (bs[0].toNat = x) := ⟨bs[0].toNat, by show _ = _; rfl⟩
    rw [hxx.out] at hcx hx
    have d1 : ((bs.length : Int) == 0) = false := by rw [beq_eq_false_iff_ne]; omega
    by_cases hx0 : x = 0 ∨ many < x
    · have hF : Hid (F = none) := by show _ = _; rw [← hFF.out]; unfold tkDc; rw [if_pos (.inr (by rw [hg8.out, hxx.out]; exact hx0))]
      have hfin : TkL w (okV F) (.returned (.tuple #[.slice none 0 0, .bool false])) w := by rw [hF.out]; exact tkL_none w w (Kp.refl _ _)
      clear hs hFF hF hc
      rcases hx0 with h0 | h0
      · subst h0
        go_enter Tryz.func94, Tryz.ntmps94
        go_wp2_with fail
        go_ret2
        exact hfin
      · have d2 : ((x : Int) == 0) = false := by rw [beq_eq_false_iff_ne]; omega
        have d3 : (many : Int) < (x : Int) := by omega
        go_enter Tryz.func94, Tryz.ntmps94
        go_wp2_with fail
        go_ret2
        exact hfin
    · have hx1 : 0 < x := by omega
      have hx2 : x ≤ many := by omega
      have hF : Hid (F = match tkP x [] (bs.drop 1) with
          | none => none
          | some (u, r) => match upkO r many (Lib.bitLen (u.length - 1)) with
            | none => none
            | some ps => if ps.all (fun p => decide (p < u.length)) = true then some (ps.map fun p => u.getD p nv) else none) := by
        show _ = _
        rw [← hFF.out]; unfold tkDc; rw [hg8.out, hxx.out, if_neg (by omega)]
        all_goals
          rcases tkP x [] (bs.drop 1) with _ | ⟨u, r⟩
          · rfl
          · dsimp only
            cases upkO r many (Lib.bitLen (u.length - 1)) <;> rfl
      have d2 : ((x : Int) == 0) = false := by rw [beq_eq_false_iff_ne]; omega
      have d3 : ¬ (many : Int) < (x : Int) := by omega
      have d3' : ¬ many < x := by omega
      obtain ⟨ba, hba, hsb⟩ : ∃ ba, Hid ((if c = 1 then some ⟨g, o, none⟩ else some ⟨g, o + 1, none⟩ : Option Addr) = ba) ∧ Hid (Sees w ba (bs.drop 1)) := by
        refine ⟨_, rfl, ?_⟩
        show Sees _ _ _
        split
        · have : bs.drop 1 = [] := List.drop_eq_nil_of_le (by omega)
          rw [this]; exact .inl rfl
        · have := Sees.tail hs 1; simpa [Addr.add_lit] using this
      have hdl : (bs.drop 1).length = bs.length - 1 := by simp
      have hcU : Hid (∀ W, Kp [] w W → Calls Tryz.prog 96 #[.slice ba (bs.length - 1) (c - 1), .int .i64 x] W (TkP W (tkP x [] (bs.drop 1)))) := fun W k => by
        have := cTakePlain ba (c - 1) (bs.drop 1) x W (hsb.out.kept k (by simp)) (by rw [hdl]; omega) (by unfold maxLen; omega) (by rw [hdl]; omega) (by omega)
        rw [hdl] at this
        exact this
      have hlen : Hid (∀ q, tkP x [] (bs.drop 1) = some q → q.1.length = x ∧ q.2.length ≤ bs.length) := fun q h => by
        obtain ⟨h1, h2⟩ := tkP_len _ _ _ _ h
        rw [hdl] at h2
        simp at h1
        omega
      obtain ⟨U, hU⟩ : ∃ U, Hid (tkP x [] (bs.drop 1) = U) := ⟨_, rfl⟩
      rw [hU.out] at hF hlen
      simp only [hU.out] at hcU
      have hbe := hba.out
      have kd : Kp [] w w.drew := (Kp.refl _ _).drew
      have hS : Hid (∀ A, Kp [] w A → A.cell? ⟨g, o, none⟩ = some (.int .u8 x)) := fun A kA => kpAt kA hcx
      have d9 : (1 : Int) ≤ (bs.length : Int) := by omega
      have hwx : IntKind.i64.wrap (x : Int) = (x : Int) := by rw [IntKind.wrap_i64]; omega
      clear hs hFF hc hg8 hxx hsb hU hba hdl hx0
      go_enter Tryz.func94, Tryz.ntmps94
      go_wp2_with fail
      clear hcx
      refine wp_region_held_drew (S := (fun A => A.cell? ⟨g, o, none⟩ = some (.int .u8 x))) (by kernel_rfl) ?_ (fun hHeld => ?_)
      · exact hS.out _ kd
      generalize w.drew = wd at *
      refine wpAnyH_take (i := 0) (v := ?_) rfl (by kernel_rfl) (by kernel_rfl) (by kernel_rfl) (fun _ _ _ h => h) (Or.inl ⟨by rfl, ?_⟩) (by assumption) ?_
      rotate_left
      · intro w hSw; (try dsimp only at hSw); go_simp <;> with_reducible rfl
      try simp only [Act.put, List.getElem_toArray, List.getElem_cons_zero, List.getElem_cons_succ, List.setIfInBounds_toArray, List.set_cons_zero, List.set_cons_succ]
      refine wpAnyH_take (i := 1) (v := ?_) rfl (by kernel_rfl) (by kernel_rfl) (by kernel_rfl) (fun _ _ _ h => h) (Or.inl ⟨by rfl, ?_⟩) (by assumption) ?_
      rotate_left
      · intro w hSw; (try dsimp only at hSw); go_simp <;> with_reducible rfl
      try simp only [Act.put, List.getElem_toArray, List.getElem_cons_zero, List.getElem_cons_succ, List.setIfInBounds_toArray, List.set_cons_zero, List.set_cons_succ]
      refine wpAnyH_take (i := 2) (v := ?_) rfl (by kernel_rfl) (by kernel_rfl) (by kernel_rfl) (fun _ _ _ h => h) (Or.inl ⟨by rfl, ?_⟩) (by assumption) ?_
      rotate_left
      · intro w hSw; (try dsimp only at hSw); go_simp <;> with_reducible rfl
      try simp only [Act.put, List.getElem_toArray, List.getElem_cons_zero, List.getElem_cons_succ, List.setIfInBounds_toArray, List.set_cons_zero, List.set_cons_succ]
      refine wpAnyH_take (i := 3) (v := ?_) rfl (by kernel_rfl) (by kernel_rfl) (by kernel_rfl) (fun _ _ _ h => h) (Or.inl ⟨by rfl, ?_⟩) (by assumption) ?_
      rotate_left
      · intro w hSw; (try dsimp only at hSw); go_simp <;> with_reducible rfl
      try simp only [Act.put, List.getElem_toArray, List.getElem_cons_zero, List.getElem_cons_succ, List.setIfInBounds_toArray, List.set_cons_zero, List.set_cons_succ]
      refine wpAnyH_take (i := 4) (v := ?_) rfl (by kernel_rfl) (by kernel_rfl) (by kernel_rfl) (fun _ _ _ h => h) (Or.inl ⟨by rfl, ?_⟩) (by assumption) ?_
      rotate_left
      · intro w hSw; (try dsimp only at hSw); go_simp <;> with_reducible rfl
      try simp only [Act.put, List.getElem_toArray, List.getElem_cons_zero, List.getElem_cons_succ, List.setIfInBounds_toArray, List.set_cons_zero, List.set_cons_succ]
      refine wpAnyH_take (i := 5) (v := ?_) rfl (by kernel_rfl) (by kernel_rfl) (by kernel_rfl) (fun _ _ _ h => h) (Or.inl ⟨by rfl, ?_⟩) (by assumption) ?_
      rotate_left
      · intro w hSw; (try dsimp only at hSw); go_simp <;> with_reducible rfl
      try simp only [Act.put, List.getElem_toArray, List.getElem_cons_zero, List.getElem_cons_succ, List.setIfInBounds_toArray, List.set_cons_zero, List.set_cons_succ]
      cases U with
      | none =>
        refine wpAnyH_ready (rs := [6]) (by kernel_rfl) (by simp) ?_
        refine AllReadyH.cons rfl (fun K hK => ?_) AllReadyH.nil
        go_simp
        refine (hcU.out wd kd).mono ?_
        rintro e w2 ⟨rfl, k2⟩
        (try go_wp2_with fail)
        refine hK.out _ _ ?_ (fun hHeld => ?_)
        · exact hS.out _ (kd.trans k2 (by simp))
        clear hK K
        try simp only [Act.put, List.getElem_toArray, List.getElem_cons_zero, List.getElem_cons_succ, List.setIfInBounds_toArray, List.set_cons_zero, List.set_cons_succ]
        refine wpAnyH_take (i := 7) (v := ?_) rfl (by kernel_rfl) (by kernel_rfl) (by kernel_rfl) (fun _ _ _ h => h) (Or.inl ⟨by rfl, ?_⟩) (by assumption) ?_
        rotate_left
        · intro w hSw; (try dsimp only at hSw); go_simp <;> with_reducible rfl
        try simp only [Act.put, List.getElem_toArray, List.getElem_cons_zero, List.getElem_cons_succ, List.setIfInBounds_toArray, List.set_cons_zero, List.set_cons_succ]
        refine wpAnyH_take (i := 8) (v := ?_) rfl (by kernel_rfl) (by kernel_rfl) (by kernel_rfl) (fun _ _ _ h => h) (Or.inl ⟨by rfl, ?_⟩) (by assumption) ?_
        rotate_left
        · intro w hSw; (try dsimp only at hSw); go_simp <;> with_reducible rfl
        try simp only [Act.put, List.getElem_toArray, List.getElem_cons_zero, List.getElem_cons_succ, List.setIfInBounds_toArray, List.set_cons_zero, List.set_cons_succ]
        refine wpAnyH_take (i := 9) (v := ?_) rfl (by kernel_rfl) (by kernel_rfl) (by kernel_rfl) (fun _ _ _ h => h) (Or.inl ⟨by rfl, ?_⟩) (by assumption) ?_
        rotate_left
        · intro w hSw; (try dsimp only at hSw); go_simp <;> with_reducible rfl
        try simp only [Act.put, List.getElem_toArray, List.getElem_cons_zero, List.getElem_cons_succ, List.setIfInBounds_toArray, List.set_cons_zero, List.set_cons_succ]
        refine wpAnyH_take (i := 10) (v := ?_) rfl (by kernel_rfl) (by kernel_rfl) (by kernel_rfl) (fun _ _ _ h => h) (Or.inl ⟨by rfl, ?_⟩) (by assumption) ?_
        rotate_left
        · intro w hSw; (try dsimp only at hSw); go_simp <;> with_reducible rfl
        try simp only [Act.put, List.getElem_toArray, List.getElem_cons_zero, List.getElem_cons_succ, List.setIfInBounds_toArray, List.set_cons_zero, List.set_cons_succ]
        refine wpAnyH_take (i := 11) (v := ?_) rfl (by kernel_rfl) (by kernel_rfl) (by kernel_rfl) (fun _ _ _ h => h) (Or.inl ⟨by rfl, ?_⟩) (by assumption) ?_
        rotate_left
        · intro w hSw; (try dsimp only at hSw); go_simp <;> with_reducible rfl
        try simp only [Act.put, List.getElem_toArray, List.getElem_cons_zero, List.getElem_cons_succ, List.setIfInBounds_toArray, List.set_cons_zero, List.set_cons_succ]
        refine wpAnyH_take (i := 12) (v := ?_) rfl (by kernel_rfl) (by kernel_rfl) (by kernel_rfl) (fun _ _ _ h => h) (Or.inl ⟨by rfl, ?_⟩) (by assumption) ?_
        rotate_left
        · intro w hSw; (try dsimp only at hSw); go_simp <;> with_reducible rfl
        try simp only [Act.put, List.getElem_toArray, List.getElem_cons_zero, List.getElem_cons_succ, List.setIfInBounds_toArray, List.set_cons_zero, List.set_cons_succ]
        refine wpAnyH_take (i := 13) (v := ?_) rfl (by kernel_rfl) (by kernel_rfl) (by kernel_rfl) (fun _ _ _ h => h) (Or.inl ⟨by rfl, ?_⟩) (by assumption) ?_
        rotate_left
        · intro w hSw; (try dsimp only at hSw); go_simp <;> with_reducible rfl
        try simp only [Act.put, List.getElem_toArray, List.getElem_cons_zero, List.getElem_cons_succ, List.setIfInBounds_toArray, List.set_cons_zero, List.set_cons_succ]
        refine wpAnyH_done (by kernel_rfl) ?_ _
        have hfin : TkL w (okV F) (.returned (.tuple #[.slice none 0 0, .bool false])) w2 := by rw [hF.out]; exact tkL_none w w2 (kd.trans k2 (by simp))
        clear hF hcU hS
        go_wp2_with fail
        go_ret2
        exact hfin
      | some q =>
        obtain ⟨u, r⟩ := q
        refine wpAnyH_ready (rs := [6]) (by kernel_rfl) (by simp) ?_
        refine AllReadyH.cons rfl (fun K hK => ?_) AllReadyH.nil
        go_simp
        refine (hcU.out wd kd).mono ?_
        rintro e w2 ⟨a2, c2, b2, e2, rfl, hrow2, hsr2, hle2, hme2, k2, hn2⟩
        have hrow2' := hid hrow2
        have hsr2' := hid hsr2
        clear hrow2 hsr2
        (try go_wp2_with fail)
        refine hK.out _ _ ?_ (fun hHeld => ?_)
        · exact hS.out _ (kd.trans k2 (by simp))
        clear hK K
        try simp only [Act.put, List.getElem_toArray, List.getElem_cons_zero, List.getElem_cons_succ, List.setIfInBounds_toArray, List.set_cons_zero, List.set_cons_succ]
        refine wpAnyH_take (i := 7) (v := ?_) rfl (by kernel_rfl) (by kernel_rfl) (by kernel_rfl) (fun _ _ _ h => h) (Or.inl ⟨by rfl, ?_⟩) (by assumption) ?_
        rotate_left
        · intro w hSw; (try dsimp only at hSw); go_simp <;> with_reducible rfl
        try simp only [Act.put, List.getElem_toArray, List.getElem_cons_zero, List.getElem_cons_succ, List.setIfInBounds_toArray, List.set_cons_zero, List.set_cons_succ]
        refine wpAnyH_take (i := 8) (v := ?_) rfl (by kernel_rfl) (by kernel_rfl) (by kernel_rfl) (fun _ _ _ h => h) (Or.inl ⟨by rfl, ?_⟩) (by assumption) ?_
        rotate_left
        · intro w hSw; (try dsimp only at hSw); go_simp <;> with_reducible rfl
        try simp only [Act.put, List.getElem_toArray, List.getElem_cons_zero, List.getElem_cons_succ, List.setIfInBounds_toArray, List.set_cons_zero, List.set_cons_succ]
        refine wpAnyH_take (i := 9) (v := ?_) rfl (by kernel_rfl) (by kernel_rfl) (by kernel_rfl) (fun _ _ _ h => h) (Or.inl ⟨by rfl, ?_⟩) (by assumption) ?_
        rotate_left
        · intro w hSw; (try dsimp only at hSw); go_simp <;> with_reducible rfl
        try simp only [Act.put, List.getElem_toArray, List.getElem_cons_zero, List.getElem_cons_succ, List.setIfInBounds_toArray, List.set_cons_zero, List.set_cons_succ]
        refine wpAnyH_take (i := 10) (v := ?_) rfl (by kernel_rfl) (by kernel_rfl) (by kernel_rfl) (fun _ _ _ h => h) (Or.inl ⟨by rfl, ?_⟩) (by assumption) ?_
        rotate_left
        · intro w hSw; (try dsimp only at hSw); go_simp <;> with_reducible rfl
        try simp only [Act.put, List.getElem_toArray, List.getElem_cons_zero, List.getElem_cons_succ, List.setIfInBounds_toArray, List.set_cons_zero, List.set_cons_succ]
        refine wpAnyH_take (i := 11) (v := ?_) rfl (by kernel_rfl) (by kernel_rfl) (by kernel_rfl) (fun _ _ _ h => h) (Or.inl ⟨by rfl, ?_⟩) (by assumption) ?_
        rotate_left
        · intro w hSw; (try dsimp only at hSw); go_simp <;> with_reducible rfl
        try simp only [Act.put, List.getElem_toArray, List.getElem_cons_zero, List.getElem_cons_succ, List.setIfInBounds_toArray, List.set_cons_zero, List.set_cons_succ]
        refine wpAnyH_take (i := 12) (v := ?_) rfl (by kernel_rfl) (by kernel_rfl) (by kernel_rfl) (fun _ _ _ h => h) (Or.inl ⟨by rfl, ?_⟩) (by assumption) ?_
        rotate_left
        · intro w hSw; (try dsimp only at hSw); go_simp <;> with_reducible rfl
        try simp only [Act.put, List.getElem_toArray, List.getElem_cons_zero, List.getElem_cons_succ, List.setIfInBounds_toArray, List.set_cons_zero, List.set_cons_succ]
        refine wpAnyH_take (i := 13) (v := ?_) rfl (by kernel_rfl) (by kernel_rfl) (by kernel_rfl) (fun _ _ _ h => h) (Or.inl ⟨by rfl, ?_⟩) (by assumption) ?_
        rotate_left
        · intro w hSw; (try dsimp only at hSw); go_simp <;> with_reducible rfl
        try simp only [Act.put, List.getElem_toArray, List.getElem_cons_zero, List.getElem_cons_succ, List.setIfInBounds_toArray, List.set_cons_zero, List.set_cons_succ]
        refine wpAnyH_done (by kernel_rfl) ?_ _
        obtain ⟨hul, hrl⟩ := hlen.out (u, r) rfl
        dsimp only at hul hrl hle2
        have hul' := hid hul
        have kw2 := kd.trans k2 (by simp)
        have hu64 : u.length ≤ 64 := by omega
        have hu1 : 0 < u.length := by omega
        clear hul hlen hcU hS hHeld
        have cP := cPlaceWidth u.length hu1 (by omega) w2
        have hwb := bitLen_le64 (u.length - 1)
        try dsimp only at hF
        try dsimp only at hrow2'
        try dsimp only at hsr2'
        obtain ⟨wd9, hwd9⟩ : ∃ q, Hid (Lib.bitLen (u.length - 1) = q) := ⟨_, rfl⟩
        rw [hwd9.out] at hF cP hwb
        have cU := cUnpack b2 e2 r many wd9 w2 (hsr2'.out.kept k2 (by simp)) (by omega) hmn hwb
        have hlen2 := hid (fun ns (h : upkO r many wd9 = some ns) => (upkO_len h).1)
        obtain ⟨U2, hU2⟩ : ∃ U2, Hid (upkO r many wd9 = U2) := ⟨_, rfl⟩
        rw [hU2.out] at hF cU hlen2
        clear hsr2' hU2 hwd9
        go_wp2_with fail
        refine cP.mono ?_
        rintro e w9 ⟨rfl, hw9⟩
        rw [hw9]
        clear hw9 w9 cP
        go_wp2_with fail
        cases U2 with
        | none =>
          refine cU.mono ?_
          rintro e w3 ⟨rfl, k3⟩
          have hfin : TkL w (okV F) (.returned (.tuple #[.slice none 0 0, .bool false])) w3 := by rw [hF.out]; exact tkL_none w w3 (kw2.trans k3 (by simp))
          clear hF cU
          go_wp2_with fail
          go_ret2
          exact hfin
        | some ns =>
          refine cU.mono ?_
          rintro e w3 ⟨a3, c3, rfl, hrow3, k3, hn3⟩
          have hnl := hlen2.out ns rfl
          subst hnl
          have kw3 := kw2.trans k3 (by simp)
          have hsn : Hid (∀ W, Kp [] w3 W → U64E.See W a3 ns) := fun W kW => by
            obtain ⟨_, _, e, h1, _⟩ := hrow3.see
            injection e with e1 e2 e3
            rw [e1]
            exact h1.keptNew kW
          have hsu : Hid (∀ W, Kp [] w3 W → Vals W a2 u) := fun W kW => by
            obtain ⟨_, _, e, h1, _⟩ := hrow2'.out.see
            injection e with e1 e2 e3
            rw [e1]
            exact seeV.1 (h1.keptNew (k3.trans kW (by simp)))
          obtain ⟨W1, hmk, hrow1, k1, hs1⟩ := run_makeG (E := VE) (P := Tryz.prog) w3 23 30 i0 _ nv 40 Tryz.underlying23 hi hz0 hz1 hz2 rfl .i64 .i64 ns.length (by omega) (by unfold maxLen; omega)
          obtain ⟨f, hf⟩ : ∃ f : Nat → Val, Hid ((fun p => u.getD p nv) = f) := ⟨_, rfl⟩
          have hfa : Hid (∀ p (h : p < u.length), f p = u[p]) := fun p h => by rw [← hf.out]; simp [h]
          have hF2 : Hid (F = if ns.all (fun p => decide (p < u.length)) = true then some (ns.map f) else none) := by show _ = _; rw [hF.out, ← hf.out]
          have R0 : Hid (VE.Row W1 (.slice (some ⟨w3.heap.size, 0, none⟩) ns.length ns.length) (mapTo f ns ns.length 0)) := by show VE.Row _ _ _; simpa [mapTo] using hrow1
          clear hF hrow2' hrow1 hf hlen2 hn2 hbe cU hrow3 hn3
          go_wp2_with fail
          go_loopw [57] (fun i wn => ∃ j : Nat, j ≤ ns.length ∧ i = .int .i64 j ∧ Hid ((ns.take j).all (fun p => decide (p < u.length)) = true) ∧ VE.Row wn (.slice (some ⟨w3.heap.size, 0, none⟩) ns.length ns.length) (mapTo f ns ns.length j) ∧ Kp [] w3 wn) (fun i _ => ns.length - (intOf i).toNat)
          case atStart => exact ⟨0, Nat.zero_le _, rfl, by show _ = _; simp, R0.out, k1⟩
          case round =>
            clear hmk R0 k1 hs1
            obtain ⟨j, hj, rfl, hall, hrow, kn⟩ := hrel
            by_cases hlt : j < ns.length
            · obtain ⟨g2, o2, rfl, hcn⟩ := u64At (hsn.out wr kn) j hlt
              by_cases hpu : ns[j] < u.length
              · have hset := rowSetV hrow j (by rw [mapTo_len _ _ _ (by omega)]; exact hlt) (f ns[j])
                have hcl := rowCellsV hrow j (by rw [mapTo_len _ _ _ (by omega)]; exact hlt)
                rw [mapTo_set f ns j hlt] at hset
                have hall' : Hid ((ns.take (j + 1)).all (fun p => decide (p < u.length)) = true) := all_take hall.out hlt (by simpa using hpu)
                obtain ⟨g3, o3, rfl, y0, y1, y2, y3⟩ := (hsu.out wr kn).at ns[j] hpu
                have hfj := hfa.out ns[j] hpu
                rw [hfj] at hset
                generalize ns[j] = m at *
                generalize u[m] = v at *
                obtain ⟨⟨u0, c0⟩, f0⟩ := hcl 0 (by omega)
                obtain ⟨⟨u1, c1⟩, f1⟩ := hcl 1 (by omega)
                obtain ⟨⟨u2, c2'⟩, f2⟩ := hcl 2 (by omega)
                obtain ⟨⟨u3, c3⟩, f3⟩ := hcl 3 (by omega)
                rw [Nat.add_zero] at c0 f0
                have kset := kpSet4 (i := j) kn (Nat.le_refl _) (.int .i64 v.k) (.bool v.b) (.int .i64 v.n) (.string v.t)
                have hs3 := hid hset
                have ks3 := hid kset
                have e1 : ¬ (u.length : Int) ≤ (m : Int) := by omega
                have e2 : ¬ u.length ≤ m := by omega
                obtain ⟨vk, vb, vn, vt⟩ := v
                dsimp only at *
                clear hset kset hcl hfj hrow hall
                go_wp2_with fail
                exact ⟨⟨j + 1, by omega, by go_num, hall', hs3.out, ks3.out⟩, by simp [intOf]; omega⟩
              · have hfin : TkL w (okV F) (.returned (.tuple #[.slice none 0 0, .bool false])) wr := by
                  rw [hF2.out, all_false hlt (by simpa using hpu)]
                  exact tkL_none w wr (kw3.trans kn (by simp))
                generalize ns[j] = m at *
                have e1 : (u.length : Int) ≤ (m : Int) := by omega
                have e2 : u.length ≤ m := by omega
                clear hrow hF2 hall
                go_wp2_with fail
                go_ret2
                exact hfin
            · obtain rfl : j = ns.length := by omega
              rw [mapTo_all] at hrow
              rw [List.take_length] at hall
              have hml : (ns.map f).length = ns.length := by simp
              have hP : TkL w (okV F) (.returned (.tuple #[.slice (some ⟨w3.heap.size, 0, none⟩) ns.length ns.length, .bool true])) wr := by
                rw [hF2.out, if_pos hall.out]
                exact ⟨some ⟨w3.heap.size, 0, none⟩, ns.length, by simp [okV], by show VE.Row _ (.slice _ (ns.map f).length _) _; rw [hml]; exact hrow, kw3.trans kn (by simp), fun k hk => by simp [blk] at hk; have := kw3.size; omega⟩
              clear hrow hF2 hall
              go_wp2_with fail
              go_ret2
              exact hP
end Go.Proofs.YtohbdbecioanaaaGreatDoor
end

section
namespace Go.Proofs.YtohbdbecioanaaaGreatDoor
open Go.RowKit Go.Hay
set_option linter.unusedVariables false
set_option linter.unusedSimpArgs false

set_option maxHeartbeats 4000000 in
theorem cTakeA (k : Int) (a : Option Addr) (c : Nat) (bs : List UInt8) (many : Nat) (w : World) (hs : Sees w a bs) (hl : bs.length ≤ c) (hm : c ≤ maxLen) (hb : bs.length ≤ 900000000000000) (hmn : many ≤ 64) :
    Calls Tryz.prog 59 #[.int .i64 k, .slice a bs.length c, .int .i64 many] w (TkL w (okV (tkA k many bs))) := by
  by_cases h0 : many = 0
  · subst h0
    have hF : Hid (tkA k 0 bs = some []) := by show _ = _; unfold tkA; rw [if_pos rfl]
    rw [hF.out]
    have hfin : TkL w (okV (some [])) (.returned (.tuple #[.slice none 0 0, .bool true])) w := ⟨none, 0, rfl, .inl ⟨rfl, rfl⟩, Kp.refl _ _, by simp [blk]⟩
    clear hs hm
    go_enter Tryz.func59, Tryz.ntmps59
    go_wp2_with fail
    go_ret2
    exact hfin
  · have d0 : ((many : Int) == 0) = false := by rw [beq_eq_false_iff_ne]; omega
    have hF : Hid (tkA k many bs = if k = 1 then tkR many [] bs else if k = 2 then tkDl many bs else if k = 3 then tkDc many bs else if k = 4 then tkBt many bs else (tkP many [] bs).map Prod.fst) := by show _ = _; unfold tkA; rw [if_neg h0]
    by_cases h1 : k = 1
    · subst h1
      rw [if_pos rfl] at hF
      rw [hF.out]
      exact cTake1 a c bs many w hs hl hm hb hmn (by omega)
    · rw [if_neg h1] at hF
      have e1 : (k == 1) = false := by rw [beq_eq_false_iff_ne]; exact h1
      by_cases h2 : k = 2
      · subst h2
        rw [if_pos rfl] at hF
        rw [hF.out]
        have hT := cTakeDelta a c bs many w hs hl hm hb hmn (by omega)
        obtain ⟨⟨L, B⟩, hR⟩ : ∃ R, Hid (okV (tkDl many bs) = R) := ⟨_, rfl⟩
        rw [hR.out] at hT ⊢
        clear hs hm hR hF
        go_enter Tryz.func59, Tryz.ntmps59
        go_wp2_with fail
        refine hT.mono ?_
        rintro e w1 ⟨a1, c1, rfl, hrow, k1, hn1⟩
        dsimp only at hrow
        have hrow' := hid hrow
        clear hrow hT
        go_wp2_with fail
        go_ret2
        exact ⟨a1, c1, rfl, hrow'.out, k1, hn1⟩
      · rw [if_neg h2] at hF
        have e2 : (k == 2) = false := by rw [beq_eq_false_iff_ne]; exact h2
        by_cases h3 : k = 3
        · subst h3
          rw [if_pos rfl] at hF
          rw [hF.out]
          have hT := cTakeDict a c bs many w hs hl hm hb hmn
          obtain ⟨⟨L, B⟩, hR⟩ : ∃ R, Hid (okV (tkDc many bs) = R) := ⟨_, rfl⟩
          rw [hR.out] at hT ⊢
          clear hs hm hR hF
          go_enter Tryz.func59, Tryz.ntmps59
          go_wp2_with fail
          refine hT.mono ?_
          rintro e w1 ⟨a1, c1, rfl, hrow, k1, hn1⟩
          dsimp only at hrow
          have hrow' := hid hrow
          clear hrow hT
          go_wp2_with fail
          go_ret2
          exact ⟨a1, c1, rfl, hrow'.out, k1, hn1⟩
        · rw [if_neg h3] at hF
          have e3 : (k == 3) = false := by rw [beq_eq_false_iff_ne]; exact h3
          by_cases h4 : k = 4
          · subst h4
            rw [if_pos rfl] at hF
            rw [hF.out]
            have hT := cTakeBits a c bs many w hs hl hm hb hmn
            obtain ⟨⟨L, B⟩, hR⟩ : ∃ R, Hid (okV (tkBt many bs) = R) := ⟨_, rfl⟩
            rw [hR.out] at hT ⊢
            clear hs hm hR hF
            go_enter Tryz.func59, Tryz.ntmps59
            go_wp2_with fail
            refine hT.mono ?_
            rintro e w1 ⟨a1, c1, rfl, hrow, k1, hn1⟩
            dsimp only at hrow
            have hrow' := hid hrow
            clear hrow hT
            go_wp2_with fail
            go_ret2
            exact ⟨a1, c1, rfl, hrow'.out, k1, hn1⟩
          · rw [if_neg h4] at hF
            have e4 : (k == 4) = false := by rw [beq_eq_false_iff_ne]; exact h4
            rw [hF.out]
            have hT := cTakePlain a c bs many w hs hl hm hb (by omega)
            obtain ⟨R, hR⟩ : ∃ R, Hid (tkP many [] bs = R) := ⟨_, rfl⟩
            rw [hR.out] at hT ⊢
            clear hs hm hR hF
            cases R with
            | none =>
              have hfin := fun W (k : Kp [] w W) => tkL_none w W k
              go_enter Tryz.func59, Tryz.ntmps59
              go_wp2_with fail
              refine hT.mono ?_
              rintro e w1 ⟨rfl, k1⟩
              have hf := hfin w1 k1
              clear hfin hT
              go_wp2_with fail
              go_ret2
              exact hf
            | some q =>
              go_enter Tryz.func59, Tryz.ntmps59
              go_wp2_with fail
              refine hT.mono ?_
              rintro e w1 ⟨a1, c1, b1, d1, rfl, hrow, _, _, _, k1, hn1⟩
              have hfin : TkL w (okV (Option.map Prod.fst (some q))) (.returned (.tuple #[.slice a1 q.1.length c1, .bool true])) w1 := ⟨a1, c1, rfl, hrow, k1, hn1⟩
              clear hrow hT hn1
              go_wp2_with fail
              go_ret2
              exact hfin
/-- What Decode tells. -/
def decA (k : Int) (bs : List UInt8) (many : Nat) : List Val × Int := if knownB k = false then ([], 62) else if 64 < many then ([], 61) else decE k bs many (okV (tkA k many bs))
theorem decP_err (w : World) (n : Int) : DecP w ([], n) (.returned (.tuple #[.slice none 0 0, .int .i64 n])) w := ⟨none, 0, rfl, .inl ⟨rfl, rfl⟩, Kp.refl _ _, by simp [blk]⟩
set_option maxHeartbeats 2000000 in
theorem cDecA (k : Int) (a : Option Addr) (c : Nat) (bs : List UInt8) (many : Nat) (w : World) (hs : Sees w a bs) (hl : bs.length ≤ c) (hm : c ≤ maxLen) (hb : bs.length ≤ 900000000000000) (hmn : many ≤ 9223372036854775807) :
    Calls Tryz.prog 33 #[.int .i64 k, .slice a bs.length c, .int .i64 many] w (DecP w (decA k bs many)) := by
  have cK := cKnown k w
  unfold decA
  by_cases hk : knownB k = false
  · rw [hk] at cK
    rw [if_pos hk]
    have hfin := decP_err w 62
    clear hs hm hk
    go_enter Tryz.func33, Tryz.ntmps33
    go_wp2_with fail
    refine cK.mono ?_
    rintro e w9 ⟨rfl, hw9⟩
    rw [hw9]
    clear hw9 w9 cK
    go_wp2_with fail
    go_ret2
    exact hfin
  · have hk' : knownB k = true := by simpa using hk
    rw [if_neg hk]
    by_cases h64 : 64 < many
    · rw [if_pos h64]
      rw [hk'] at cK
      have hfin := decP_err w 61
      have d0 : ¬ (many : Int) < 0 := by omega
      have d1 : (64 : Int) < (many : Int) := by omega
      clear hs hm hk hk'
      go_enter Tryz.func33, Tryz.ntmps33
      go_wp2_with fail
      refine cK.mono ?_
      rintro e w9 ⟨rfl, hw9⟩
      rw [hw9]
      clear hw9 w9 cK
      go_wp2_with fail
      go_ret2
      exact hfin
    · rw [if_neg h64]
      exact cDecE k a c bs many _ w hk' hs (by omega) (cTakeA k a c bs many w hs hl hm hb (by omega))
end Go.Proofs.YtohbdbecioanaaaGreatDoor
end

section
namespace Go.Proofs.YtohbdbecioanaaaGreatDoor
open Go.RowKit Go.Hay
set_option linter.unusedVariables false
set_option linter.unusedSimpArgs false

/-- The bytes behind so many values. -/
def skP : Nat → List UInt8 → List UInt8
  | 0, bs => bs
  | n + 1, bs => skP n (bs.drop (vsz bs))
theorem skP_put : ∀ (l : List Val) (s : List UInt8), allR l = true → skP l.length (l.flatMap rowB ++ s) = s
  | [], s, _ => by simp [skP]
  | x :: l, s, h => by
    have hx : x.right = true := by simp [allR] at h; exact h.1
    have hl : allR l = true := by simp [allR] at h ⊢; exact h.2
    rw [List.flatMap_cons, List.append_assoc, List.length_cons, skP, vsz_rowB x hx, List.drop_left, skP_put l s hl]
def skR : Nat → Nat → List UInt8 → List UInt8
  | 0, _, bs => bs
  | f + 1, left, bs => if left = 0 then bs else match bs with
    | [] => []
    | c :: r => skR f (left - c.toNat) (r.drop (vsz r))
theorem skR_put : ∀ (R : List Rn) (s : List UInt8) (f : Nat), (∀ r ∈ R, r.v.right = true ∧ 0 < r.m ∧ r.m < 256) → R.length ≤ f → skR f (R.map Rn.m).sum (R.flatMap runB ++ s) = s
  | [], s, f, _, _ => by
    cases f with
    | zero => simp [skR]
    | succ f => simp [skR]
  | r :: R, s, 0, _, h => by simp at h
  | r :: R, s, f + 1, h, hf => by
    obtain ⟨h1, h2, h3⟩ := h r (by simp)
    have e : (r :: R).flatMap runB ++ s = octet r.m :: (rowB r.v ++ (R.flatMap runB ++ s)) := by simp [runB]
    rw [e, skR, if_neg (by simp; omega)]
    rw [vsz_rowB r.v h1, List.drop_left, octet_nat r.m h3]
    have e2 : ((r :: R).map Rn.m).sum - r.m = (R.map Rn.m).sum := by simp
    rw [e2, skR_put R s f (fun r' hr' => h r' (by simp [hr'])) (by simp at hf; omega)]
def skD : Nat → List UInt8 → List UInt8
  | 0, bs => bs
  | n + 1, bs => skD n (bs.drop (tkG 0 0 bs).2)
theorem skD_put : ∀ (r : List Val) (x : Val) (s : List UInt8), skD r.length (dltL x r ++ s) = s
  | [], x, s => by simp [skD, dltL]
  | y :: r, x, s => by
    have hw := wrap64_bd (y.n - x.n)
    rw [dltL, List.append_assoc, List.length_cons, skD, tkG_zig _ hw.1 hw.2]
    simp only
    rw [List.drop_left, skD_put r y s]
theorem octet_inj {a b : Nat} (ha : a < 256) (hb : b < 256) (h : octet a = octet b) : a = b := by
  rw [← octet_nat a ha, ← octet_nat b hb, h]
/-- No encoding is another one's beginning, of as many values. -/
theorem pre_free (k : Int) (l m : List Val) (s : List UInt8) (hl : refE k l = 0) (hm : refE k m = 0) (hn : l.length = m.length) (h0 : 0 < l.length) (h : putB k l = putB k m ++ s) : s = [] := by
  obtain ⟨_, hl64, hla⟩ := refE_ok hl
  obtain ⟨_, hm64, hma⟩ := refE_ok hm
  have hm0 : 0 < m.length := by omega
  unfold putB at h
  by_cases h1 : k = 1
  · rw [if_pos h1, if_pos h1] at h
    have hr : ∀ l : List Val, allR l = true → l.length ≤ 64 → ∀ s, skR 64 l.length ((runsV l).flatMap runB ++ s) = s := fun l ha h64 s => by
      obtain ⟨q1, q2, q3⟩ := runsV_flat l
      have := skR_put (runsV l) s 64 (fun r hr => by
        have h3 := runsV_in r hr
        exact ⟨List.all_eq_true.1 ha _ h3.1, q2 r hr, by omega⟩) (by have := runsV_len l; omega)
      rw [q3] at this
      exact this
    have e1 := hr l hla hl64 []
    have e2 := hr m hma hm64 s
    rw [List.append_nil, h, hn] at e1
    rw [← e2, e1]
  · rw [if_neg h1, if_neg h1] at h
    by_cases h2 : k = 2
    · rw [if_pos h2, if_pos h2] at h
      have hd : ∀ l : List Val, 0 < l.length → ∀ s, skD (l.length - 1) ((deltaB l ++ s).drop 8) = s := fun l h0 s => by
        cases l with
        | nil => simp at h0
        | cons x r =>
          have e : deltaB (x :: r) ++ s = be (u64 x.n) 8 ++ (dltL x r ++ s) := by
            unfold deltaB
            rw [List.length_cons, Nat.add_sub_cancel, dltL_eq]
            simp
          rw [e, List.drop_left' (be_length _ _), List.length_cons, Nat.add_sub_cancel, skD_put]
      have e1 := hd l h0 []
      have e2 := hd m hm0 s
      rw [List.append_nil, h, hn] at e1
      rw [← e2, e1]
    · rw [if_neg h2, if_neg h2] at h
      by_cases h3 : k = 3
      · rw [if_pos h3, if_pos h3] at h
        unfold dictB at h
        simp only [List.cons_append, List.nil_append, List.append_assoc, List.cons.injEq] at h
        obtain ⟨ho, ht⟩ := h
        have u1 := uniq_len l
        have u2 := uniq_len m
        have hu : (uniq l).length = (uniq m).length := octet_inj (by omega) (by omega) ho
        have e1 := skP_put (uniq l) (packB (plcs (uniq l) l l.length) (Lib.bitLen ((uniq l).length - 1))) (uniq_right l hla)
        have e2 := skP_put (uniq m) (packB (plcs (uniq m) m m.length) (Lib.bitLen ((uniq m).length - 1)) ++ s) (uniq_right m hma)
        rw [ht, hu, e2] at e1
        have e3 := congrArg List.length e1
        rw [List.length_append, packB_length, packB_length, plcs_length, plcs_length, hn] at e3
        exact List.eq_nil_of_length_eq_zero (by omega)
      · rw [if_neg h3, if_neg h3] at h
        by_cases h4 : k = 4
        · rw [if_pos h4, if_pos h4] at h
          unfold bitsB at h
          have w1 := wdt_le l (leastTo l l.length) l.length
          have w2 := wdt_le m (leastTo m m.length) m.length
          have h8 := congrArg (fun q => q.drop 8) h
          simp only [List.append_assoc] at h8
          rw [List.drop_left' (be_length _ _), List.drop_left' (be_length _ _)] at h8
          simp only [List.cons_append, List.nil_append, List.cons.injEq] at h8
          obtain ⟨ho, ht⟩ := h8
          have hw := octet_inj (by omega) (by omega) ho
          have e3 := congrArg List.length ht
          rw [List.length_append, packB_length, packB_length, abvs_length, abvs_length, hw, hn] at e3
          exact List.eq_nil_of_length_eq_zero (by omega)
        · rw [if_neg h4, if_neg h4] at h
          have e1 := skP_put l [] hla
          have e2 := skP_put m s hma
          rw [List.append_nil, h, hn, e2] at e1
          exact e1
end Go.Proofs.YtohbdbecioanaaaGreatDoor
end

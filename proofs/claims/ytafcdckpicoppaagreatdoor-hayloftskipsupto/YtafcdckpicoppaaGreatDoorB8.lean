/- takeValue. takeRuns. Decode, over what take reads. Bits, groups and words read back. Plain mathematics: rows and their bytes, back and forth. What is written is read back, and no encoding is another one's beginning. A value stored at a place of a row of values. -/
import Derived.Test.YtafcdckpicoppaaGreatDoorB7
import Derived.Test.YtafcdckpicoppaaGreatDoorB4
import Derived.Test.YtafcdckpicoppaaGreatDoorB2
import Derived.Lib.Strings
section
namespace Go.Proofs.YtafcdckpicoppaaGreatDoor
open Go.RowKit Go.Hay
set_option linter.unusedVariables false
set_option linter.unusedSimpArgs false

theorem decS_one (r l : List UInt8) (m : List Val) (h : decS (1 :: r) = (m, 0)) : ∃ x, m = [x] := by
  simp only [decS] at h
  rw [if_neg (by decide)] at h
  have e : (1 : UInt8).toNat = 1 := rfl
  rw [e] at h
  simp only [decL] at h
  split at h
  · simp [decO] at h
  · cases hd : (if r.drop (rowF r).2 = [] then some ([] : List Val) else none) with
    | none => rw [hd] at h; simp [decO] at h
    | some q =>
      rw [hd] at h
      split at hd
      · cases hd
        simp [decO] at h
        exact ⟨_, h.symm⟩
      · cases hd
/-- The value at the begin, and how many bytes it has (0: none). -/
def tkV (bs : List UInt8) : Val × Nat := if vsz bs = 0 ∨ bs.length < vsz bs then (nilV, 0) else if (decS (1 :: bs.take (vsz bs))).2 = 0 then ((decS (1 :: bs.take (vsz bs))).1.getD 0 nv, vsz bs) else (nilV, 0)
set_option maxHeartbeats 4000000 in
set_option maxRecDepth 100000 in
theorem cTakeV (a : Option Addr) (c : Nat) (bs : List UInt8) (w : World) (hs : Sees w a bs) (hl : bs.length ≤ c) (hm : c ≤ maxLen) (hb : bs.length ≤ 900000000000000) :
    Calls Tryz.prog 115 #[.slice a bs.length c] w (Tk w (tkV bs)) := by
  have kW : Kp [] w (w.alloc (.cells #[.int .i64 0, .bool false, .int .i64 0, .string ⟨#[]⟩] 25)) := (Kp.refl _ _).alloc _
  have bA := Box4.new w (.int .i64 0) (.bool false) (.int .i64 0) (.string ⟨#[]⟩) 25
  obtain ⟨w0, hw0⟩ : ∃ w0, w.alloc (.cells #[.int .i64 0, .bool false, .int .i64 0, .string ⟨#[]⟩] 25) = w0 := ⟨_, rfl⟩
  rw [hw0] at kW bA
  have cV := cValueSize a c bs w0 (hs.kept kW (by simp)) hb
  have hT : Hid (tkV bs = if vsz bs = 0 ∨ bs.length < vsz bs then (nilV, 0) else if (decS (1 :: bs.take (vsz bs))).2 = 0 then ((decS (1 :: bs.take (vsz bs))).1.getD 0 nv, vsz bs) else (nilV, 0)) := rfl
  have hvl := vsz_le bs
  obtain ⟨R, hR⟩ : ∃ R, Hid (tkV bs = R) := ⟨_, rfl⟩
  obtain ⟨n, hn⟩ : ∃ n, Hid (vsz bs = n) := ⟨_, rfl⟩
  rw [hR.out] at hT ⊢
  rw [hn.out] at cV hT hvl
  have hs' := hid hs
  unfold maxLen at hm
  have q0 := bA.c0; have q1 := bA.c1; have q2 := bA.c2; have q3 := bA.c3
  have f0 := bA.free 0; have f1 := bA.free 1; have f2 := bA.free 2; have f3 := bA.free 3
  by_cases hbad : n = 0 ∨ bs.length < n
  · have HF : Hid (R = (nilV, 0)) := by show _ = _; rw [hT.out, if_pos hbad]
    clear hT hs hs'
    go_enter Tryz.func115, Tryz.ntmps115
    go_wp2_with fail
    refine cV.mono ?_
    rintro e w9 ⟨rfl, hw9⟩
    rw [hw9]
    clear hw9 w9 cV
    rcases hbad with h0 | h0
    · subst h0
      go_wp2_with fail
      refine gen4 (R := fun W => bodyPost _ _ _ _ _ W) bA kW (Nat.le_refl _) _ _ _ _ ?_
      intro W bW kW2
      have r0 := bW.c0; have r1 := bW.c1; have r2 := bW.c2; have r3 := bW.c3
      refine bodyPost_ret (v := .tuple #[Val.v nilV, .int .i64 0]) (by simp [results, Tryz.results115, go_sem, Val.v, nilV, r0, r1, r2, r3]) rfl ⟨?_, kW2⟩
      rw [HF.out]; rfl
    · have d0 : ((n : Int) == 0) = false := by rw [beq_eq_false_iff_ne]; omega
      have d1 : (bs.length : Int) < (n : Int) := by omega
      go_wp2_with fail
      refine gen4 (R := fun W => bodyPost _ _ _ _ _ W) bA kW (Nat.le_refl _) _ _ _ _ ?_
      intro W bW kW2
      have r0 := bW.c0; have r1 := bW.c1; have r2 := bW.c2; have r3 := bW.c3
      refine bodyPost_ret (v := .tuple #[Val.v nilV, .int .i64 0]) (by simp [results, Tryz.results115, go_sem, Val.v, nilV, r0, r1, r2, r3]) rfl ⟨?_, kW2⟩
      rw [HF.out]; rfl
  · have hn0 : 0 < n := by omega
    have hnl : n ≤ bs.length := by omega
    rw [if_neg hbad] at hT
    clear hbad
    obtain ⟨g, o, rfl⟩ : ∃ g o, a = some ⟨g, o, none⟩ := by
      rcases hs with h | ⟨g, o, h, _⟩
      · rw [h] at hnl; simp at hnl; omega
      · exact ⟨g, o, h⟩
    have hsf : Hid (∀ W, Kp [] w W → Sees W (some ⟨g, o, none⟩) (bs.take n)) := fun W kW => (hs'.out.kept kW (by simp)).front n
    have htl : (bs.take n).length = n := by simp; omega
    obtain ⟨T, hTT⟩ : ∃ T, Hid (bs.take n = T) := ⟨_, rfl⟩
    rw [hTT.out] at hT htl
    simp only [hTT.out] at hsf
    have hd1 := hid (decS_one T T)
    have hjn : Hid (∀ Y X, w0.alloc (.cells #[.int .u8 1] 5) = Y → Y.alloc (.cells #[.slice (some ⟨w0.heap.size, 0, none⟩) 1 1, .slice (some ⟨g, o, none⟩) n c] 28) = X → Kp [] w0 X ∧ Calls Tryz.prog 75 #[.slice (some ⟨Y.heap.size, 0, none⟩) 2 2] X (NB (1 :: T) X)) := fun Y X hY hX => by
      have kY : Kp [] w0 Y := by rw [← hY]; exact (Kp.refl _ _).alloc _
      have kX : Kp [] Y X := by rw [← hX]; exact (Kp.refl _ _).alloc _
      have h1 : Sees Y (some ⟨w0.heap.size, 0, none⟩) [1] := by rw [← hY]; exact oneB w0 rfl 1 1 rfl _
      have h2 : BsE.See X (some ⟨Y.heap.size, 0, none⟩) [⟨some ⟨w0.heap.size, 0, none⟩, 1, [1]⟩, ⟨some ⟨g, o, none⟩, c, T⟩] := by
        rw [← hX]
        have := twoBs Y rfl ⟨some ⟨w0.heap.size, 0, none⟩, 1, [1]⟩ ⟨some ⟨g, o, none⟩, c, T⟩ 28
        simp only [List.length_singleton, htl] at this
        exact this
      have := cJoin (some ⟨Y.heap.size, 0, none⟩) 2 [⟨some ⟨w0.heap.size, 0, none⟩, 1, [1]⟩, ⟨some ⟨g, o, none⟩, c, T⟩] X h2 (fun x hx => by
        simp only [List.mem_cons, List.not_mem_nil, or_false] at hx
        rcases hx with rfl | rfl
        · exact h1.kept kX (by simp)
        · exact hsf.out X ((kW.trans kY (by simp)).trans kX (by simp))) (by simp) (by simp [flatB, htl]; omega)
      have e : flatB [⟨some ⟨w0.heap.size, 0, none⟩, 1, [1]⟩, ⟨some ⟨g, o, none⟩, c, T⟩] = 1 :: T := by simp [flatB]
      rw [e] at this
      exact ⟨kY.trans kX (by simp), this⟩
    have hDec : Hid (∀ Z b c', Row Z (.slice b (1 :: T).length c') (1 :: T) → Calls Tryz.prog 126 #[.slice b (1 :: T).length c'] Z (Rdn Z (decS (1 :: T)))) := fun Z b c' hr => by
      obtain ⟨_, _, e, h1, _⟩ := hr.sees
      injection e with e1 e2 e3
      subst e1
      rcases hr with ⟨_, h⟩ | ⟨g9, o9, cap, e, hl9, hm9, _⟩
      · cases h
      · injection e with e4 e5 e6
        exact cDecode b c' (1 :: T) Z h1 (by rw [e6]; exact hl9) (by rw [e6]; exact hm9)
    obtain ⟨⟨D1, D2⟩, hD⟩ : ∃ D, Hid (decS (1 :: T) = D) := ⟨_, rfl⟩
    rw [hD.out] at hT hd1
    simp only [hD.out] at hDec
    dsimp only at hT
    have hTl : Hid ((1 :: T).length = n + 1) := by show _ = _; simp [htl]
    obtain ⟨T1, hT1⟩ : ∃ T1, Hid ((1 : UInt8) :: T = T1) := ⟨_, rfl⟩
    simp only [hT1.out] at hjn hDec
    clear hs hs' hsf htl hTT hTl hT1 hD
    go_enter Tryz.func115, Tryz.ntmps115
    go_wp2_with fail
    refine cV.mono ?_
    rintro e w9 ⟨rfl, hw9⟩
    rw [hw9]
    clear hw9 w9 cV
    obtain ⟨Y, hY⟩ : ∃ Y, w0.alloc (.cells #[.int .u8 1] 5) = Y := ⟨_, rfl⟩
    obtain ⟨X, hX⟩ : ∃ X, Y.alloc (.cells #[.slice (some ⟨w0.heap.size, 0, none⟩) 1 1, .slice (some ⟨g, o, none⟩) n c] 28) = X := ⟨_, rfl⟩
    obtain ⟨kX, cJ⟩ := hjn.out Y X hY hX
    have d0 : ((n : Int) == 0) = false := by rw [beq_eq_false_iff_ne]; omega
    have d1 : ¬ (bs.length : Int) < (n : Int) := by omega
    clear hjn
    go_wp2_with fail
    refine cJ.mono ?_
    rintro e Z ⟨b2, c2, rfl, hr2, kZ, hn2⟩
    have cD := hDec.out Z b2 c2 hr2
    have kZ0 := kX.trans kZ (by simp)
    clear hr2 hDec cJ hn2 kX kZ
    go_wp2_with fail
    refine cD.mono ?_
    rintro e U ⟨a3, c3, l3, E3, h3, rfl, hv3, hl3, hl3c, hc3, _, kU⟩
    obtain ⟨e1, e2⟩ := Prod.mk.inj h3.out
    subst e1 e2
    have kU0 := kZ0.trans kU (by simp)
    have bU := boxKeep bA kU0
    have kWU := kW.trans kU0 (by simp)
    clear q0 q1 q2 q3 f0 f1 f2 f3 cD kZ0 kU h3
    have q0 := bU.c0; have q1 := bU.c1; have q2 := bU.c2; have q3 := bU.c3
    have f0 := bU.free 0; have f1 := bU.free 1; have f2 := bU.free 2; have f3 := bU.free 3
    by_cases hE : D2 = 0
    · subst hE
      obtain ⟨x, rfl⟩ := hd1.out D1 rfl
      obtain ⟨g3, o3, rfl, y0, y1, y2, y3⟩ := hv3.at 0 (by simp)
      rw [Nat.zero_mul, Nat.add_zero] at y0 y1 y2 y3
      have HF : Hid (R = (x, n)) := by show _ = _; rw [hT.out]; rfl
      simp only [List.getElem_cons_zero, List.length_singleton] at *
      obtain ⟨xk, xb, xn, xt⟩ := x
      dsimp only at y0 y1 y2 y3
      clear hT hv3 hd1
      go_wp2_with fail
      refine gen4 (R := fun W => bodyPost _ _ _ _ _ W) bU kWU (Nat.le_refl _) _ _ _ _ ?_
      intro W bW kW2
      have r0 := bW.c0; have r1 := bW.c1; have r2 := bW.c2; have r3 := bW.c3
      refine bodyPost_ret (v := .tuple #[Val.v ⟨xk, xb, xn, xt⟩, .int .i64 n]) (by simp [results, Tryz.results115, go_sem, Val.v, nilV, r0, r1, r2, r3]) rfl ⟨?_, kW2⟩
      rw [HF.out]
    · have HF : Hid (R = (nilV, 0)) := by show _ = _; rw [hT.out, if_neg hE]
      have d3 : (D2 != 0) = true := by simpa using hE
      have d4 : (D2 == 0) = false := by simpa using hE
      clear hT hv3 hd1
      go_wp2_with fail
      refine gen4 (R := fun W => bodyPost _ _ _ _ _ W) bU kWU (Nat.le_refl _) _ _ _ _ ?_
      intro W bW kW2
      have r0 := bW.c0; have r1 := bW.c1; have r2 := bW.c2; have r3 := bW.c3
      refine bodyPost_ret (v := .tuple #[Val.v nilV, .int .i64 0]) (by simp [results, Tryz.results115, go_sem, Val.v, nilV, r0, r1, r2, r3]) rfl ⟨?_, kW2⟩
      rw [HF.out]; rfl
end Go.Proofs.YtafcdckpicoppaaGreatDoor
end

section
namespace Go.Proofs.YtafcdckpicoppaaGreatDoor
open Go.RowKit Go.Hay
set_option linter.unusedVariables false
set_option linter.unusedSimpArgs false

theorem tkV_le (bs : List UInt8) : (tkV bs).2 ≤ bs.length := by
  unfold tkV
  split
  · exact Nat.zero_le _
  · rename_i h
    split
    · show vsz bs ≤ _; omega
    · exact Nat.zero_le _
/-- Runs, till there are so many values. -/
def tkR (many : Nat) (acc : List Val) (bs : List UInt8) : Option (List Val) :=
  if many ≤ acc.length then some acc else
    match bs with
    | [] => none
    | c :: r => if (tkV r).2 = 0 then none else tkR many (acc ++ List.replicate c.toNat (tkV r).1) (r.drop (tkV r).2)
termination_by bs.length
decreasing_by simp; omega
theorem tkR_done {many : Nat} {acc : List Val} {bs : List UInt8} (h : many ≤ acc.length) : tkR many acc bs = some acc := by rw [tkR.eq_def, if_pos h]
theorem tkR_nil {many : Nat} {acc : List Val} (h : ¬ many ≤ acc.length) : tkR many acc [] = none := by rw [tkR.eq_def, if_neg h]
theorem tkR_cons {many : Nat} {acc : List Val} {c : UInt8} {r : List UInt8} (h : ¬ many ≤ acc.length) : tkR many acc (c :: r) = if (tkV r).2 = 0 then none else tkR many (acc ++ List.replicate c.toNat (tkV r).1) (r.drop (tkV r).2) := by rw [tkR.eq_def, if_neg h]
def okV : Option (List Val) → List Val × Bool
  | none => ([], false)
  | some l => (l, true)
/-- What a call that takes values hands back. -/
def TkL (w : World) (r : List Val × Bool) (e : Ending) (w' : World) : Prop := ∃ a c, e = .returned (.tuple #[.slice a r.1.length c, .bool r.2]) ∧ VE.Row w' (.slice a r.1.length c) r.1 ∧ Kp [] w w' ∧ ∀ k ∈ blk a, w.heap.size ≤ k
theorem tkL_none (w w' : World) (k : Kp [] w w') : TkL w ([], false) (.returned (.tuple #[.slice none 0 0, .bool false])) w' := ⟨none, 0, rfl, .inl ⟨rfl, rfl⟩, k, by simp [blk]⟩
theorem oneV (w : World) {q : Nat} (hq : w.heap.size = q) (x : Val) (t : TypeId) : VE.See (w.alloc (.cells #[.int .i64 x.k, .bool x.b, .int .i64 x.n, .string x.t] t)) (some ⟨q, 0, none⟩) [x] := by
  subst hq
  refine .inr ⟨_, 0, rfl, fun j u hu => ?_⟩
  have e : (w.alloc (.cells #[.int .i64 x.k, .bool x.b, .int .i64 x.n, .string x.t] t)).cell? ⟨w.heap.size, 0 + j, none⟩ = _ := World.cell?_alloc_new w _ _ (0 + j)
  rw [e, Nat.zero_add]
  simpa [El.cs, VE] using hu
/-- An append whose run is known, for the walk. -/
theorem wpAppRun {P : Program} {w w' : World} {ops : Array Oper} {rest : List Oper} {o : Oper} {a : Act} {Q : Exit → Act → World → Prop} (hgd : o.guard = none) (s x : Operand) (t tx : TypeId)
    (ho : o.op = .call { callee := .builtin .append, args := #[s, x], argTypes := #[t, tx] }) (v xv v' : Value) (hv : a.eval s = v) (hx : a.eval x = xv)
    (hrun : (Builtin.append_ #[t, tx] o.type #[v, xv]).run P w = .ok v' w') (hK : wpList P ops Q rest (a.put o.dst v') w') : wpList P ops Q (o :: rest) a w := by
  refine wpList_plain hgd fun K hK' => ?_
  have hfin := hK' _ _ hK
  unfold Oper.wp
  simp [execOp, ho, resolve, invoke, builtin, hv, hx, hrun, Result.andThen]
  exact hfin
structure TrI (w W : World) (ba : Option Addr) (bc : Nat) (rest : List UInt8) (la : Option Addr) (lc : Nat) (acc : List Val) : Prop where
  see : Sees w ba rest
  len : rest.length ≤ bc
  cap : bc ≤ 9223372036854775807
  few : rest.length ≤ 900000000000000
  row : VE.Row W (.slice la acc.length lc) acc
  new : ∀ k ∈ blk la, w.heap.size ≤ k
  kp : Kp [] w W
set_option maxHeartbeats 8000000 in
set_option maxRecDepth 100000 in
theorem cTakeRuns (a : Option Addr) (c : Nat) (bs : List UInt8) (many : Nat) (w : World) (hs : Sees w a bs) (hl : bs.length ≤ c) (hm : c ≤ maxLen) (hb : bs.length ≤ 900000000000000) (hmn : many ≤ 64) :
    Calls Tryz.prog 99 #[.slice a bs.length c, .int .i64 many] w (TkL w (okV (tkR many [] bs))) := by
  obtain ⟨F, hF⟩ : ∃ F, Hid (tkR many [] bs = F) := ⟨_, rfl⟩
  rw [hF.out]
  unfold maxLen at hm
  have I0 : Hid (TrI w w a c bs none 0 []) := ⟨hs, hl, hm, hb, .inl ⟨rfl, rfl⟩, by simp [blk], Kp.refl _ _⟩
  clear hs
  obtain ⟨i0, hi, hz0, hz1, hz2⟩ := infoV'
  go_enter Tryz.func99, Tryz.ntmps99
  go_wp2_with fail
  go_loopw [0, 6] (fun v0 v6 wn => ∃ (ba : Option Addr) (bc : Nat) (rest : List UInt8) (la : Option Addr) (lc : Nat) (acc : List Val), v0 = .slice ba rest.length bc ∧ v6 = .slice la acc.length lc ∧ TrI w wn ba bc rest la lc acc ∧ acc.length ≤ 400 ∧ Hid (tkR many acc rest = F)) (fun v0 _ _ => lenV v0)
  case atStart => exact ⟨a, c, bs, none, 0, [], rfl, rfl, I0.out, by simp, hF⟩
  case round =>
    clear I0 hF
    obtain ⟨ba, bc, rest, la, lc, acc, rfl, rfl, I, hacc, hF⟩ := hrel
    by_cases hdn : many ≤ acc.length
    · rw [tkR_done hdn] at hF
      have hfin : TkL w (okV F) (.returned (.tuple #[.slice la acc.length lc, .bool true])) wr := by rw [← hF.out]; exact ⟨la, lc, rfl, I.row, I.kp, I.new⟩
      have hnlt : ¬ (acc.length : Int) < (many : Int) := by omega
      clear I hF
      go_wp2_with fail
      go_ret2
      exact hfin
    · have hlt : (acc.length : Int) < (many : Int) := by omega
      cases rest with
      | nil =>
        rw [tkR_nil hdn] at hF
        have hfin : TkL w (okV F) (.returned (.tuple #[.slice none 0 0, .bool false])) wr := by rw [← hF.out]; exact tkL_none w wr I.kp
        rw [List.length_nil]
        clear I hF
        go_wp2_with fail
        go_ret2
        exact hfin
      | cons x r =>
        rw [tkR_cons hdn] at hF
        obtain ⟨g, o, rfl, hc⟩ : ∃ g o, ba = some ⟨g, o, none⟩ ∧ ∀ j u, (x :: r)[j]? = some u → w.cell? ⟨g, o + j, none⟩ = some (.int .u8 u.toNat) := by
          rcases I.see with h | h
          · cases h
          · exact h
        have hc0 : Hid (∀ W, Kp [] w W → W.cell? ⟨g, o, none⟩ = some (.int .u8 x.toNat)) := fun W kW => kpAt kW (hc 0 x rfl)
        have hx := x.toNat_lt
        have hlen := I.len
        have hcap := I.cap
        have hfew := I.few
        have htl : Hid (∀ n, Sees w (some ⟨g, o + n, none⟩) ((x :: r).drop n)) := fun n => by have := Sees.tail I.see n; simpa [Addr.add_lit] using this
        rw [List.length_cons] at hlen hfew ⊢
        have hne : (((r.length + 1 : Nat) : Int) == 0) = false := by rw [beq_eq_false_iff_ne]; omega
        have hne2 : (((r.length : Int) + 1) == 0) = false := by rw [beq_eq_false_iff_ne]; omega
        by_cases hc1 : bc = 1
        · subst hc1
          obtain rfl : r = [] := by cases r with | nil => rfl | cons _ _ => simp at hlen
          have ht := cTakeV (some ⟨g, o, none⟩) 0 [] wr (.inl rfl) (by simp) (by simp [maxLen]) (by simp)
          have e0 : tkV [] = (nilV, 0) := rfl
          rw [e0] at ht hF
          unfold Tk at ht
          dsimp only [List.length_nil] at ht hF
          rw [if_pos rfl] at hF
          have hkp := I.kp
          have hfin : Hid (∀ W, Kp [] w W → TkL w (okV F) (.returned (.tuple #[.slice none 0 0, .bool false])) W) := fun W kW => by rw [← hF.out]; exact tkL_none w W kW
          have hnv : Hid (nilV.v = .agg #[.int .i64 0, .bool false, .int .i64 0, .string ⟨#[]⟩]) := rfl
          rw [hnv.out] at ht
          clear I hF
          rw [List.length_nil]
          go_wp2_with fail
          refine ht.mono ?_
          rintro e w1 ⟨rfl, k1⟩
          have hfin' := hfin.out _ ((hkp.trans k1 (by simp)).alloc (.cells #[.int .i64 0, .bool false, .int .i64 0, .string ⟨#[]⟩] 25))
          clear ht hfin
          go_wp2_with fail
          go_ret2
          exact hfin'
        · have htr := htl.out 1
          rw [List.drop_one, List.tail_cons] at htr
          have ht := cTakeV (some ⟨g, o + 1, none⟩) (bc - 1) r wr (htr.kept I.kp (by simp)) (by omega) (by unfold maxLen; omega) (by omega)
          have htle := tkV_le r
          obtain ⟨⟨v, sz⟩, htk⟩ : ∃ t, Hid (tkV r = t) := ⟨_, rfl⟩
          rw [htk.out] at ht hF htle
          unfold Tk at ht
          dsimp only at ht hF htle
          have hxv : Hid (v.v = .agg #[.int .i64 v.k, .bool v.b, .int .i64 v.n, .string v.t]) := rfl
          rw [hxv.out] at ht
          obtain ⟨n, hn⟩ : ∃ n, Hid (x.toNat = n) := ⟨_, rfl⟩
          rw [hn.out] at hF hx
          simp only [hn.out] at hc0
          have hI := hid I
          have hlaw : ∀ k ∈ blk la, k < wr.heap.size := fun k hk => I.row.lt k (by rw [ownS]; exact hk)
          have hlaw' := hid hlaw
          clear I htr hxv hlaw
          go_wp2_with fail
          refine ht.mono ?_
          rintro e w1 ⟨rfl, k1⟩
          obtain ⟨wb, hwb⟩ : ∃ wb, w1.alloc (.cells #[.int .i64 v.k, .bool v.b, .int .i64 v.n, .string v.t] 25) = wb := ⟨_, rfl⟩
          have kb : Kp [] w1 wb := by rw [← hwb]; exact (Kp.refl _ _).alloc _
          have bx : Box4 wb w1.heap.size (.int .i64 v.k) (.bool v.b) (.int .i64 v.n) (.string v.t) := by rw [← hwb]; exact Box4.new _ _ _ _ _ _
          have kwb : Kp [] w wb := (hI.out.kp.trans k1 (by simp)).trans kb (by simp)
          by_cases hsz : sz = 0
          · subst hsz
            rw [if_pos rfl] at hF
            have hfin : TkL w (okV F) (.returned (.tuple #[.slice none 0 0, .bool false])) wb := by rw [← hF.out]; exact tkL_none w wb kwb
            clear hF hI ht
            go_wp2_with fail
            go_ret2
            exact hfin
          · rw [if_neg hsz] at hF
            have hsz' : ((sz : Int) == 0) = false := by rw [beq_eq_false_iff_ne]; omega
            have hcx := hc0.out wb kwb
            have hq1 : w.heap.size ≤ w1.heap.size := (hI.out.kp.trans k1 (by simp)).size
            have R0 : Hid (VE.Row wb (.slice la (acc.length + 0) lc) (acc ++ List.replicate 0 v) ∧ w1.heap.size ∉ blk la) := ⟨by simpa using hI.out.row.keptNew (k1.trans kb (by simp)), fun hm => by have := hlaw'.out _ hm; have := k1.size; omega⟩
            have hnew := hid hI.out.new
            clear hI ht hlaw'
            go_wp2_with fail
            go_loopw [6, 28] (fun v6 i wn => ∃ (j : Nat) (la' : Option Addr) (lc' : Nat), j ≤ n ∧ i = .int .i64 j ∧ v6 = .slice la' (acc.length + j) lc' ∧ VE.Row wn (.slice la' (acc.length + j) lc') (acc ++ List.replicate j v) ∧ w1.heap.size ∉ blk la' ∧ (∀ k ∈ blk la', w.heap.size ≤ k) ∧ Kp [] w wn ∧ Box4 wn w1.heap.size (.int .i64 v.k) (.bool v.b) (.int .i64 v.n) (.string v.t)) (fun _ i _ => n - (intOf i).toNat)
            case atStart => exact ⟨0, la, lc, Nat.zero_le _, rfl, by rw [Nat.add_zero], R0.out.1, R0.out.2, hnew.out, kwb, bx⟩
            case round =>
              clear R0 hnew bx kb k1 hwb hcx
              obtain ⟨j, la', lc', hj, rfl, rfl, hrow, hqn, hnw, kn, bx⟩ := hrel
              by_cases hjn : j < n
              · have p0 := bx.c0; have p1 := bx.c1; have p2 := bx.c2; have p3 := bx.c3
                have hal : (acc ++ List.replicate j v).length = acc.length + j := by simp
                obtain ⟨wc, hwc⟩ : ∃ wc, wr.alloc (.cells #[.int .i64 v.k, .bool v.b, .int .i64 v.n, .string v.t] 25) = wc := ⟨_, rfl⟩
                have kc : Kp [] wr wc := by rw [← hwc]; exact (Kp.refl _ _).alloc _
                have hsr : VE.See wc (some ⟨wr.heap.size, 0, none⟩) [v] := by rw [← hwc]; exact oneV wr rfl v _
                have hsrc := hsr.src (P := Tryz.prog) Tryz.underlying32 1
                have hrowc := hrow.keptNew kc
                obtain ⟨v', X3, hrun, hrow3, kk3, hn3⟩ := run_appendG (E := VE) (P := Tryz.prog) wc 32 32 32 25 i0 _ 40 Tryz.underlying32 hi hz0 hz1 hz2 rfl (.slice la' (acc.length + j) lc') (acc ++ List.replicate j v) hrowc _ [v] hsrc (by simp; omega) (by simp; omega)
                obtain ⟨a3, c3, rfl, _⟩ := hrow3.see
                rw [ownS] at kk3
                have hfin : Hid (∃ (j' : Nat) (la'' : Option Addr) (lc'' : Nat), j' ≤ n ∧ (.int .i64 ((j : Int) + 1) : Value) = .int .i64 j' ∧ (.slice a3 (acc ++ List.replicate j v ++ [v]).length c3 : Value) = .slice la'' (acc.length + j') lc'' ∧ VE.Row X3 (.slice la'' (acc.length + j') lc'') (acc ++ List.replicate j' v) ∧ w1.heap.size ∉ blk la'' ∧ (∀ k ∈ blk la'', w.heap.size ≤ k) ∧ Kp [] w X3 ∧ Box4 X3 w1.heap.size (.int .i64 v.k) (.bool v.b) (.int .i64 v.n) (.string v.t)) := by
                  have e1 : acc ++ List.replicate j v ++ [v] = acc ++ List.replicate (j + 1) v := by rw [List.append_assoc, List.replicate_succ']
                  have e2 : (acc ++ List.replicate (j + 1) v).length = acc.length + (j + 1) := by simp
                  rw [e1, e2] at hrow3
                  have hlt1 : w1.heap.size < wc.heap.size := Nat.lt_of_lt_of_le bx.lt kc.size
                  refine ⟨j + 1, a3, c3, by omega, by go_num, by rw [e1, e2], hrow3, fun hm => ?_, fun k hk => ?_, ?_, (boxKeep bx kc).kept kk3 hqn⟩
                  · rcases hn3 _ (by rw [ownS]; exact hm) with h | h
                    · rw [ownS] at h; exact hqn h
                    · omega
                  · rcases hn3 k (by rw [ownS]; exact hk) with h | h
                    · rw [ownS] at h; exact hnw k h
                    · have := kn.size; have := kc.size; omega
                  · exact (kn.trans kc (by simp)).trans kk3 (fun k hk => .inr (hnw k hk))
                clear hrow hrowc hrow3 kk3 hn3 hsr hsrc kc bx hal
                go_wp2_with (first | (refine wpAppRun rfl _ _ 32 32 rfl _ _ _ rfl rfl hrun ?_) | fail)
                obtain ⟨j', la'', lc'', h1, h2, h3, h4⟩ := hfin.out
                exact ⟨⟨j', la'', lc'', h1, h2, by first | exact h3 | (rw [← h3]; simp; try omega), h4⟩, by simp [intOf]; omega⟩
              · obtain rfl : j = n := by omega
                have hal : (acc ++ List.replicate j v).length = acc.length + j := by simp
                have hdl : (r.drop sz).length = r.length - sz := by simp
                have hnxt : Hid (∀ ba', Sees w ba' (r.drop sz) → ∃ (ba2 : Option Addr) (bc2 : Nat) (rest2 : List UInt8) (la2 : Option Addr) (lc2 : Nat) (acc2 : List Val), (.slice ba' (r.length + 1 - (1 + sz)) (bc - (1 + sz)) : Value) = .slice ba2 rest2.length bc2 ∧ (.slice la' (acc.length + j) lc' : Value) = .slice la2 acc2.length lc2 ∧ TrI w wr ba2 bc2 rest2 la2 lc2 acc2 ∧ acc2.length ≤ 400 ∧ Hid (tkR many acc2 rest2 = F)) := fun ba' hsb =>
                  ⟨ba', bc - (1 + sz), r.drop sz, la', lc', acc ++ List.replicate j v, by rw [hdl, show r.length + 1 - (1 + sz) = r.length - sz by omega], by rw [hal], ⟨hsb, by rw [hdl]; omega, by omega, by rw [hdl]; omega, by rw [hal]; exact hrow, hnw, kn⟩, by rw [hal]; omega, hF⟩
                have htd := htl.out (1 + sz)
                rw [Nat.add_comm 1 sz, List.drop_succ_cons] at htd
                have htd' := hid htd
                clear hrow hF bx hal htl htd
                by_cases hce : 1 + sz = bc
                · have hemp : r.drop sz = [] := List.drop_eq_nil_of_le (by omega)
                  have hN := hid (hnxt.out (some ⟨g, o, none⟩) (by rw [hemp]; exact .inl rfl))
                  clear hnxt hemp htd'
                  go_wp2_with fail
                  exact ⟨hN.out, by simp only [lenV]; omega⟩
                · have hN := hid (hnxt.out (some ⟨g, o + (1 + sz), none⟩) (by rw [Nat.add_comm 1 sz]; exact htd'.out))
                  clear hnxt htd'
                  go_wp2_with fail
                  exact ⟨hN.out, by simp only [lenV]; omega⟩
end Go.Proofs.YtafcdckpicoppaaGreatDoor
end

section
namespace Go.Proofs.YtafcdckpicoppaaGreatDoor
open Go.RowKit Go.Hay
set_option linter.unusedVariables false
set_option linter.unusedSimpArgs false

theorem cBytesEq (a b : Option Addr) (c d : Nat) (x y : List UInt8) (w : World) (hx : Sees w a x) (hy : Sees w b y) :
    Calls Tryz.prog 92 #[.slice a x.length c, .slice b y.length d] w fun e w' => e = .returned (.bool (x == y)) ∧ w' = w := by
  have h1 := convSees hx c
  have h2 := convSees hy d
  go_enter Tryz.func92, Tryz.ntmps92
  go_wp2_with fail
  go_ret
  exact ⟨rfl, rfl⟩
/-- take, at runs. -/
theorem cTake1 (a : Option Addr) (c : Nat) (bs : List UInt8) (many : Nat) (w : World) (hs : Sees w a bs) (hl : bs.length ≤ c) (hm : c ≤ maxLen) (hb : bs.length ≤ 900000000000000) (hmn : many ≤ 64) (h0 : 0 < many) :
    Calls Tryz.prog 91 #[.int .i64 1, .slice a bs.length c, .int .i64 many] w (TkL w (okV (tkR many [] bs))) := by
  have hT := cTakeRuns a c bs many w hs hl hm hb hmn
  obtain ⟨⟨L, B⟩, hR⟩ : ∃ R, Hid (okV (tkR many [] bs) = R) := ⟨_, rfl⟩
  rw [hR.out] at hT ⊢
  have d0 : ((many : Int) == 0) = false := by rw [beq_eq_false_iff_ne]; omega
  clear hs hm hR
  go_enter Tryz.func91, Tryz.ntmps91
  go_wp2_with fail
  refine hT.mono ?_
  rintro e w1 ⟨a1, c1, rfl, hrow, k1, hn1⟩
  dsimp only at hrow
  have hrow' := hid hrow
  clear hrow hT
  go_wp2_with fail
  go_ret2
  exact ⟨a1, c1, rfl, hrow'.out, k1, hn1⟩
/-- What Decode makes of what take read. -/
def decE (k : Int) (bs : List UInt8) (many : Nat) (R : List Val × Bool) : List Val × Int :=
  if R.2 = true ∧ R.1.length = many ∧ refE k R.1 = 0 ∧ encR k R.1 = bs then (R.1, 0) else ([], 60)
def DecP (w : World) (r : List Val × Int) (e : Ending) (w' : World) : Prop := ∃ a c, e = .returned (.tuple #[.slice a r.1.length c, .int .i64 r.2]) ∧ VE.Row w' (.slice a r.1.length c) r.1 ∧ Kp [] w w' ∧ ∀ k ∈ blk a, w.heap.size ≤ k
theorem decP_no (w w' : World) (k : Kp [] w w') : DecP w ([], 60) (.returned (.tuple #[.slice none 0 0, .int .i64 60])) w' := ⟨none, 0, rfl, .inl ⟨rfl, rfl⟩, k, by simp [blk]⟩
set_option maxHeartbeats 4000000 in
set_option maxRecDepth 100000 in
theorem cDecE (k : Int) (a : Option Addr) (c : Nat) (bs : List UInt8) (many : Nat) (R : List Val × Bool) (w : World) (hk : knownB k = true) (hs : Sees w a bs) (hmn : many ≤ 64) (hT : Calls Tryz.prog 91 #[.int .i64 k, .slice a bs.length c, .int .i64 many] w (TkL w R)) :
    Calls Tryz.prog 70 #[.int .i64 k, .slice a bs.length c, .int .i64 many] w (DecP w (decE k bs many R)) := by
  have cK := cKnown k w
  rw [hk] at cK
  have hF : Hid (decE k bs many R = if R.2 = true ∧ R.1.length = many ∧ refE k R.1 = 0 ∧ encR k R.1 = bs then (R.1, 0) else ([], 60)) := rfl
  obtain ⟨F, hFF⟩ : ∃ F, Hid (decE k bs many R = F) := ⟨_, rfl⟩
  rw [hFF.out] at hF ⊢
  obtain ⟨L, B⟩ := R
  have hs' := hid hs
  have d0 : ¬ (many : Int) < 0 := by omega
  have d1 : ¬ (64 : Int) < (many : Int) := by omega
  clear hk hs hFF
  dsimp only at hF
  go_enter Tryz.func70, Tryz.ntmps70
  go_wp2_with fail
  refine cK.mono ?_
  rintro e w9 ⟨rfl, hw9⟩
  rw [hw9]
  clear hw9 w9 cK
  go_wp2_with fail
  refine hT.mono ?_
  rintro e w1 ⟨a1, c1, rfl, hrow, k1, hn1⟩
  dsimp only at hrow
  have hrow' := hid hrow
  clear hrow hT
  cases B with
  | false =>
    have hno : Hid (F = ([], 60)) := by show _ = _; rw [hF.out, if_neg (by simp)]
    have hfin := decP_no w w1 k1
    rw [← hno.out] at hfin
    clear hF hno
    go_wp2_with fail
    go_ret2
    exact hfin
  | true =>
    by_cases hlm : L.length = many
    · have hm1 : L.length ≤ c1 ∧ c1 ≤ maxLen := by
        obtain ⟨_, _, e, _, _, h1, h2, _⟩ := hrow'.out.see
        injection e with e1 e2 e3
        rw [e3]
        exact ⟨h1, h2⟩
      have hv1 : Vals w1 a1 L := by
        obtain ⟨_, _, e, h1, _⟩ := hrow'.out.see
        injection e with e1 e2 e3
        rw [e1]
        exact seeV.1 h1
      have cE := cEncE k a1 c1 L w1 hv1 hm1.1 hm1.2
      unfold EncP at cE
      obtain ⟨E, hEE⟩ : ∃ E, Hid (refE k L = E) := ⟨_, rfl⟩
      obtain ⟨Q, hQ⟩ : ∃ Q, Hid (encR k L = Q) := ⟨_, rfl⟩
      rw [hEE.out, hQ.out] at hF
      rw [hEE.out, hQ.out] at cE
      have d2 : ((L.length : Int) != (many : Int)) = false := by rw [hlm]; simp
      have d3 : ((L.length : Int) == (many : Int)) = true := by rw [hlm]; simp
      have hlm' := hid hlm
      clear hv1 hlm
      go_wp2_with fail
      refine cE.mono ?_
      rintro e w3 ⟨b3, c3, rfl, hrow3, k3, hn3⟩
      have k13 := k1.trans k3 (by simp)
      have hrow3' := hid hrow3
      clear hrow3 cE
      by_cases hE0 : E = 0
      · subst hE0
        have cQ := cBytesEq b3 a c3 c Q bs w3 (by obtain ⟨_, _, e, h1, _⟩ := hrow3'.out.sees; injection e with e1 e2 e3; rw [e1]; exact h1) (hs'.out.kept k13 (by simp))
        obtain ⟨Z, hZ⟩ : ∃ Z, Hid ((Q == bs) = Z) := ⟨_, rfl⟩
        rw [hZ.out] at cQ
        have hfin : Hid (DecP w F (.returned (.tuple #[.slice (if Z then a1 else none) (if Z then L.length else 0) (if Z then c1 else 0), .int .i64 (if Z then 0 else 60)])) w3) := by
          show DecP _ _ _ _
          cases Z with
          | true =>
            have : Q = bs := by simpa using hZ.out
            rw [hF.out, if_pos (by simp [hlm'.out, this])]
            exact ⟨a1, c1, rfl, hrow'.out.keptNew k3, k13, hn1⟩
          | false =>
            have : ¬ Q = bs := by simpa using hZ.out
            rw [hF.out, if_neg (fun h => this h.2.2.2)]
            exact decP_no w w3 k13
        clear hF hrow' hrow3' hs' hm1
        go_wp2_with fail
        refine cQ.mono ?_
        rintro e w9 ⟨rfl, hw9⟩
        rw [hw9]
        clear hw9 w9 cQ
        cases Z
        · go_wp2_with fail
          go_ret2
          exact hfin.out
        · go_wp2_with fail
          go_ret2
          exact hfin.out
      · have hno : Hid (F = ([], 60)) := by show _ = _; rw [hF.out, if_neg (fun h => hE0 h.2.2.1)]
        have hfin := decP_no w w3 k13
        rw [← hno.out] at hfin
        have d5 : (E != 0) = true := by simpa using hE0
        have d6 : (E == 0) = false := by simpa using hE0
        clear hF hno hrow' hrow3' hs' hm1
        go_wp2_with fail
        go_ret2
        exact hfin
    · have hno : Hid (F = ([], 60)) := by show _ = _; rw [hF.out, if_neg (fun h => hlm h.2.1)]
      have hfin := decP_no w w1 k1
      rw [← hno.out] at hfin
      have d2 : ((L.length : Int) != (many : Int)) = true := by simp only [bne_iff_ne]; omega
      have d3 : ((L.length : Int) == (many : Int)) = false := by rw [beq_eq_false_iff_ne]; omega
      clear hF hno
      go_wp2_with fail
      go_ret2
      exact hfin
end Go.Proofs.YtafcdckpicoppaaGreatDoor
end

section
namespace Go.Hay
open Go.RowKit
set_option linter.unusedVariables false
set_option linter.unusedSimpArgs false

/-- Bit p of bytes. -/
def bitAt (bs : List UInt8) (p : Nat) : Nat := (bs.getD (p / 8) 0).toNat / 2 ^ (p % 8) % 2
theorem bitAt_lt (bs : List UInt8) (p : Nat) : bitAt bs p < 2 := Nat.mod_lt _ (by omega)
/-- Number i of those in so many bits, of its lowest k. -/
def numTo (bs : List UInt8) (wd i : Nat) : Nat → Nat
  | 0 => 0
  | k + 1 => numTo bs wd i k + bitAt bs (i * wd + k) * 2 ^ k
theorem numTo_lt (bs : List UInt8) (wd i : Nat) : ∀ k, numTo bs wd i k < 2 ^ k
  | 0 => by simp [numTo]
  | k + 1 => by
    have h1 := numTo_lt bs wd i k
    have h2 := bitAt_lt bs (i * wd + k)
    have h3 : bitAt bs (i * wd + k) * 2 ^ k ≤ 1 * 2 ^ k := Nat.mul_le_mul_right _ (by omega)
    rw [numTo, Nat.pow_succ]
    omega
def upk (bs : List UInt8) (many wd : Nat) : List Nat := (List.range many).map fun i => numTo bs wd i wd
theorem upk_length (bs : List UInt8) (many wd : Nat) : (upk bs many wd).length = many := by simp [upk]
theorem upk_at (bs : List UInt8) (many wd i : Nat) (h : i < many) : (upk bs many wd)[i]? = some (numTo bs wd i wd) := by
  unfold upk
  rw [List.getElem?_map, List.getElem?_range h]; rfl
theorem acc_bit (f : Nat → Nat) (hf : ∀ p, f p < 2) (q : Nat) : ∀ m r, r < m → acc f q m / 2 ^ r % 2 = f (8 * q + r)
  | 0, r, h => by omega
  | m + 1, r, h => by
    rw [acc]
    by_cases e : r = m
    · subst e
      rw [Nat.add_mul_div_right _ _ (Nat.two_pow_pos r), Nat.div_eq_of_lt (acc_lt f hf q r), Nat.zero_add]
      exact Nat.mod_eq_of_lt (hf _)
    · have hr : r < m := by omega
      have e2 : f (8 * q + m) * 2 ^ m = f (8 * q + m) * 2 ^ (m - r - 1) * 2 * 2 ^ r := by
        have : m = (m - r - 1) + 1 + r := by omega
        conv => lhs; rw [this, Nat.pow_add, Nat.pow_succ]
        rw [show 8 * q + (m - r - 1 + 1 + r) = 8 * q + m by omega]
        simp [Nat.mul_assoc]
      rw [e2, Nat.add_mul_div_right _ _ (Nat.two_pow_pos r), Nat.add_mul_mod_self_right]
      exact acc_bit f hf q m r hr
theorem bitAt_pack (l : List Nat) (wd p : Nat) (hp : p < l.length * wd) : bitAt (packB l wd) p = bitOf l wd p := by
  unfold bitAt packB
  have hq : p / 8 < (l.length * wd + 7) / 8 := by omega
  have h1 := pk_get (bitOf l wd) ((l.length * wd + 7) / 8) (l.length * wd) (p / 8) hq
  rw [List.getD_eq_getElem?_getD, h1, Option.getD_some]
  have hm : min 8 (l.length * wd - 8 * (p / 8)) ≤ 8 := Nat.min_le_left _ _
  have h8 := acc_lt8 (bitOf l wd) (bitOf_lt l wd) (p / 8) _ hm
  rw [UInt8.toNat_ofNat', Nat.mod_eq_of_lt h8, acc_bit (bitOf l wd) (bitOf_lt l wd) (p / 8) _ (p % 8) (by omega)]
  congr 1
  omega
theorem numTo_back (bs : List UInt8) (wd i x : Nat) : ∀ m, (∀ k, k < m → bitAt bs (i * wd + k) = x / 2 ^ k % 2) → numTo bs wd i m = x % 2 ^ m
  | 0, _ => by simp [numTo, Nat.mod_one]
  | m + 1, h => by
    rw [numTo, numTo_back bs wd i x m (fun k hk => h k (by omega)), h m (by omega), Nat.mod_pow_succ, Nat.mul_comm]
theorem upk_back (l : List Nat) (wd : Nat) (h : ∀ x ∈ l, x < 2 ^ wd) : upk (packB l wd) l.length wd = l := by
  apply List.ext_getElem?
  intro i
  by_cases hi : i < l.length
  · rw [upk_at _ _ _ _ hi, List.getElem?_eq_getElem hi, numTo_back (packB l wd) wd i l[i] wd (fun k hk => ?_), Nat.mod_eq_of_lt (h _ (List.getElem_mem hi))]
    rw [bitAt_pack l wd _ (at_lt hi hk), bitOf_at l wd i k hk hi]
  · rw [List.getElem?_eq_none (by rw [upk_length]; omega), List.getElem?_eq_none (by omega)]
/-- A number out of groups of seven bits, and how many these are. -/
def tkG : Nat → Nat → List UInt8 → Nat × Nat
  | _, _, [] => (0, 0)
  | i, z, x :: r => if i < 10 then (if x.toNat < 128 then (z + x.toNat % 128 * 2 ^ (7 * i) % 18446744073709551616, i + 1) else tkG (i + 1) (z + x.toNat % 128 * 2 ^ (7 * i) % 18446744073709551616) r) else (0, 0)
theorem tkG_le : ∀ (bs : List UInt8) (i z : Nat), (tkG i z bs).2 ≤ i + bs.length
  | [], i, z => by simp [tkG]
  | x :: r, i, z => by
    rw [tkG]
    split
    · split
      · simp
      · have := tkG_le r (i + 1) (z + x.toNat % 128 * 2 ^ (7 * i) % 18446744073709551616)
        simp only [List.length_cons]; omega
    · simp
theorem low128 (z : Nat) : (UInt8.ofNat (z % 128 + 128)).toNat = z % 128 + 128 := by rw [UInt8.toNat_ofNat']; omega
end Go.Hay
namespace Go.Proofs.YtafcdckpicoppaaGreatDoor
open Go.RowKit Go.Hay
theorem tkG_back (s : List UInt8) : ∀ (n z i a : Nat), z ≤ n → z * 2 ^ (7 * i) + a < 18446744073709551616 → i < 10 → tkG i a (gB z ++ s) = (a + z * 2 ^ (7 * i), i + (gB z).length) := by
  intro n
  induction n with
  | zero =>
    intro z i a hn hz hi
    obtain rfl : z = 0 := by omega
    rw [gB_lo (by omega)]
    simp only [List.cons_append, List.nil_append]
    rw [tkG, if_pos hi]
    simp
  | succ n ih =>
    intro z i a hn hz hi
    by_cases h : z < 128
    · rw [gB_lo h]
      simp only [List.cons_append, List.nil_append]
      rw [tkG, if_pos hi]
      have e : (UInt8.ofNat z).toNat = z := by rw [UInt8.toNat_ofNat']; omega
      rw [e, if_pos h, Nat.mod_eq_of_lt h, Nat.mod_eq_of_lt (show z * 2 ^ (7 * i) < 18446744073709551616 by omega)]
      simp
    · rw [gB_hi h]
      simp only [List.cons_append]
      rw [tkG, if_pos hi, low128, if_neg (by omega), show (z % 128 + 128) % 128 = z % 128 by omega]
      have hle : z % 128 * 2 ^ (7 * i) + z / 128 * 2 ^ (7 * (i + 1)) = z * 2 ^ (7 * i) := by
        have e : 2 ^ (7 * (i + 1)) = 128 * 2 ^ (7 * i) := by rw [show 7 * (i + 1) = 7 + 7 * i by omega, Nat.pow_add]
        rw [e, ← Nat.mul_assoc, ← Nat.add_mul]
        congr 1
        omega
      have hlt : z % 128 * 2 ^ (7 * i) < 18446744073709551616 := by omega
      rw [Nat.mod_eq_of_lt hlt]
      have hi2 : i + 1 < 10 := by
        have h1 : 1 ≤ z / 128 := by omega
        have h2 : 1 * 2 ^ (7 * (i + 1)) ≤ z / 128 * 2 ^ (7 * (i + 1)) := Nat.mul_le_mul_right _ h1
        have h3 : 2 ^ (7 * (i + 1)) < 2 ^ 64 := by omega
        have := (Nat.pow_lt_pow_iff_right (by omega : 1 < 2)).1 h3
        omega
      rw [ih (z / 128) (i + 1) _ (by omega) (by omega) hi2]
      simp only [List.length_cons]
      refine Prod.ext ?_ ?_
      · show _ = _; simp only; omega
      · show _ = _; simp only; omega
/-- A difference, unfolded. -/
def zag (z : Nat) : Int := if z % 2 = 0 then (z / 2 : Nat) else -((z / 2 : Nat) : Int) - 1
theorem zag_zig {d : Int} (h1 : -9223372036854775808 ≤ d) (h2 : d < 9223372036854775808) : zag (zig d).toNat = d := by
  unfold zag zig
  split
  · rw [if_pos (by omega)]; omega
  · rw [if_neg (by omega)]; omega
/-- The int of eight bytes. -/
def wordV (bs : List UInt8) : Int := wrap64 (num (bs.take 8))
def intV (n : Int) : Val := ⟨2, false, n, ⟨#[]⟩⟩
end Go.Proofs.YtafcdckpicoppaaGreatDoor
end

section
namespace Go.Proofs.YtafcdckpicoppaaGreatDoor
open Go.RowKit Go.Hay
set_option linter.unusedVariables false
set_option linter.unusedSimpArgs false

/-- An int64. -/
def Val.in64 (x : Val) : Prop := -9223372036854775808 ≤ x.n ∧ x.n ≤ 9223372036854775807
theorem bytes_empty {t : ByteArray} (h : t.toList = []) : t = ⟨#[]⟩ := by
  rw [Go.Lib.toList_data] at h
  cases t with
  | mk d => simp at h; rw [h]
theorem right0 {x : Val} (h : x.right = true) (hk : x.k = 0) : x = ⟨0, false, 0, ⟨#[]⟩⟩ := by
  obtain ⟨k, b, n, t⟩ := x
  dsimp only at hk
  subst hk
  simp [Val.right] at h
  obtain ⟨rfl, rfl, ht⟩ := h
  rw [bytes_empty ht]
theorem right1 {x : Val} (h : x.right = true) (hk : x.k = 1) : x = ⟨1, x.b, 0, ⟨#[]⟩⟩ := by
  obtain ⟨k, b, n, t⟩ := x
  dsimp only at hk
  subst hk
  simp [Val.right] at h
  obtain ⟨rfl, ht⟩ := h
  rw [bytes_empty ht]
theorem right2 {x : Val} (h : x.right = true) (hk : x.k = 2) : x = ⟨2, false, x.n, ⟨#[]⟩⟩ := by
  obtain ⟨k, b, n, t⟩ := x
  dsimp only at hk
  subst hk
  simp [Val.right] at h
  obtain ⟨rfl, ht⟩ := h
  rw [bytes_empty ht]
theorem right3 {x : Val} (h : x.right = true) (hk : x.k = 3) : x = ⟨3, false, 0, x.t⟩ ∧ x.t.size ≤ 64 := by
  have h6 := right_text h hk
  obtain ⟨k, b, n, t⟩ := x
  dsimp only at hk
  subst hk
  simp [Val.right] at h
  obtain ⟨⟨rfl, rfl⟩, ht⟩ := h
  exact ⟨rfl, h6⟩
theorem s64_u64 (n add : Int) (h : -9223372036854775808 ≤ n ∧ n ≤ 9223372036854775807) : wrap64 ((num (be (u64 (n + add)) 8) : Int) - add) = n := by
  rw [num_be]
  unfold u64 wrap64
  omega
theorem u64_s64 (m : Nat) (add : Int) (h : m < 18446744073709551616) : u64 (wrap64 ((m : Int) - add) + add) = m := by
  unfold u64 wrap64
  omega
theorem take8 (n : Nat) (r : List UInt8) : (be n 8 ++ r).take 8 = be n 8 := by
  rw [List.take_append_of_le_length (by rw [be_length]; omega), List.take_of_length_le (by rw [be_length]; omega)]
theorem fixF_put (x : Val) (h : x.right = true) (hi : x.in64) (h3 : x.k ≠ 3) (add : Int) (r : List UInt8) : fixF add (fixB x add ++ r) = (x, (fixB x add).length) := by
  rcases right_kind h with hk | hk | hk | hk
  · rw [right0 h hk]
    simp [fixB, fixF, nilV]
  · rw [right1 h hk]
    cases x.b <;> simp [fixB, fixF]
  · have e := right2 h hk
    have hi2 := s64_u64 x.n add hi
    generalize x.n = n at *
    rw [e]
    have t8 := take8 (u64 (n + add)) r
    have bl := be_length (u64 (n + add)) 8
    simp only [fixB, fixF, List.cons_append, if_neg (by omega : ¬ (2 : Int) = 0), if_neg (by omega : ¬ (2 : Int) = 1)]
    rw [if_neg (by decide), if_neg (by decide), if_pos (by decide), if_pos (by rw [List.length_append, bl]; omega), t8, hi2]
    simp [bl]
  · exact absurd hk h3
theorem rowF_put (x : Val) (h : x.right = true) (hi : x.in64) (r : List UInt8) : rowF (rowB x ++ r) = (x, (rowB x).length) := by
  by_cases h3 : x.k = 3
  · obtain ⟨e, h6⟩ := right3 h h3
    generalize x.t = t at *
    rw [e]
    have ho : (octet (t.size : Int)).toNat = t.size := by have := octet_toNat (t.size : Int) (by omega) (by omega); omega
    have hl : t.data.toList.length = t.size := by simp
    simp only [rowB, rowF, List.cons_append, if_true]
    rw [if_pos (by decide), ho, if_pos ⟨h6, by rw [List.length_append, hl]; omega⟩, List.take_append_of_le_length (by omega), List.take_of_length_le (by omega)]
    simp
    omega
  · have e : rowB x = fixB x 0 := by unfold rowB; rw [if_neg h3]
    rw [e]
    have := fixF_put x h hi h3 0 r
    have hne : fixB x 0 = (fixB x 0).headD 0 :: (fixB x 0).tail ∧ ((fixB x 0).headD 0).toNat ≠ 3 := by
      unfold fixB
      split
      · exact ⟨rfl, by decide⟩
      · split
        · exact ⟨rfl, by show (1 : UInt8).toNat ≠ 3; decide⟩
        · exact ⟨rfl, by show (2 : UInt8).toNat ≠ 3; decide⟩
    generalize (fixB x 0).headD 0 = f at *
    generalize (fixB x 0).tail = s at *
    rw [hne.1] at this ⊢
    rw [List.cons_append] at this ⊢
    simp only [rowF, if_neg hne.2]
    exact this
theorem rowB_pos {x : Val} (h : x.right = true) : 0 < (rowB x).length := by
  unfold rowB fixB
  repeat (first | split | simp)

theorem decL_put : ∀ l : List Val, allR l = true → (∀ x ∈ l, x.in64) → decL l.length (l.flatMap rowB) = some l
  | [], _, _ => by simp [decL]
  | x :: l, h, hi => by
    unfold allR at h
    rw [List.all_cons, Bool.and_eq_true] at h
    have ih := decL_put l h.2 (fun y hy => hi y (by simp [hy]))
    have hp := rowB_pos h.1
    rw [List.length_cons, decL, List.flatMap_cons, rowF_put x h.1 (hi x (by simp))]
    simp only
    rw [if_neg (by omega), List.drop_left, ih]
    rfl
theorem decS_put (l : List Val) (h : okR l = true) (hi : ∀ x ∈ l, x.in64) : decS (encB l) = (l, 0) := by
  have h16 := okR_len h
  have ho : (octet (l.length : Int)).toNat = l.length := by have := octet_toNat (l.length : Int) (by omega) (by omega); omega
  unfold encB
  simp only [decS]
  rw [ho, if_neg (by omega), decL_put l (okR_all h) hi]
  rfl

/-- What is read is what the first bytes say. -/
theorem fixF_mono (add : Int) (p s : List UInt8) (h : (fixF add p).2 ≠ 0) : fixF add (p ++ s) = fixF add p := by
  cases p with
  | nil => simp [fixF] at h
  | cons f r =>
    rw [List.cons_append]
    simp only [fixF] at h ⊢
    split
    · rfl
    · rw [if_neg (by assumption)] at h
      split
      · rw [if_pos (by assumption)] at h
        cases r with
        | nil => simp at h
        | cons y t => rfl
      · rw [if_neg (by assumption)] at h
        split
        · rw [if_pos (by assumption)] at h
          by_cases h8 : 8 ≤ r.length
          · rw [if_pos (by rw [List.length_append]; omega), if_pos h8, List.take_append_of_le_length h8]
          · rw [if_neg h8] at h; simp at h
        · rfl
theorem rowF_mono (p s : List UInt8) (h : (rowF p).2 ≠ 0) : rowF (p ++ s) = rowF p := by
  cases p with
  | nil => simp [rowF] at h
  | cons f r =>
    rw [List.cons_append]
    simp only [rowF] at h ⊢
    split
    · rw [if_pos (by assumption)] at h
      cases r with
      | nil => simp at h
      | cons y t =>
        rw [List.cons_append]
        simp only at h ⊢
        by_cases hc : y.toNat ≤ 64 ∧ y.toNat ≤ t.length
        · rw [if_pos ⟨hc.1, by rw [List.length_append]; omega⟩, if_pos hc, List.take_append_of_le_length hc.2]
        · rw [if_neg hc] at h; simp at h
    · rw [if_neg (by assumption)] at h
      rw [← List.cons_append]
      exact fixF_mono 0 (f :: r) s h
theorem decL_more : ∀ (n : Nat) (p s : List UInt8) (l : List Val), decL n p = some l → s ≠ [] → decL n (p ++ s) = none
  | 0, p, s, l, h, hs => by
    rw [decL] at h ⊢
    split at h
    · subst p; simpa using hs
    · cases h
  | n + 1, p, s, l, h, hs => by
    rw [decL] at h ⊢
    by_cases h0 : (rowF p).2 = 0
    · rw [if_pos h0] at h; cases h
    · rw [if_neg h0] at h
      rw [rowF_mono p s h0, if_neg h0]
      obtain ⟨l', h', _⟩ := Option.map_eq_some_iff.1 h
      rw [List.drop_append_of_le_length (rowF_le p), decL_more n _ s l' h' hs]
      rfl
theorem decS_more (l : List Val) (h : okR l = true) (hi : ∀ x ∈ l, x.in64) (s : List UInt8) (hs : s ≠ []) : decS (encB l ++ s) = ([], 30) := by
  have h16 := okR_len h
  have ho : (octet (l.length : Int)).toNat = l.length := by have := octet_toNat (l.length : Int) (by omega) (by omega); omega
  unfold encB
  rw [List.cons_append]
  simp only [decS]
  rw [ho, if_neg (by omega), decL_more _ _ s l (decL_put l (okR_all h) hi) hs]
  rfl
theorem decS_cut (l : List Val) (h : okR l = true) (hi : ∀ x ∈ l, x.in64) (cut : Nat) (hc : cut < (encB l).length) : decS ((encB l).take cut) = ([], 30) := by
  have h16 := okR_len h
  have ho : (octet (l.length : Int)).toNat = l.length := by have := octet_toNat (l.length : Int) (by omega) (by omega); omega
  cases cut with
  | zero => rfl
  | succ n =>
    unfold encB at hc ⊢
    rw [List.length_cons] at hc
    rw [List.take_succ_cons]
    simp only [decS]
    rw [ho, if_neg (by omega)]
    cases hd : decL l.length ((l.flatMap rowB).take n) with
    | none => rfl
    | some l' =>
      have h1 := decL_more _ _ ((l.flatMap rowB).drop n) l' hd (by intro h; have := congrArg List.length h; simp only [List.length_drop, List.length_nil] at this; omega)
      rw [List.take_append_drop, decL_put l (okR_all h) hi] at h1
      cases h1
end Go.Proofs.YtafcdckpicoppaaGreatDoor
end

section
namespace Go.Proofs.YtafcdckpicoppaaGreatDoor
open Go.RowKit Go.Hay
set_option linter.unusedVariables false
set_option linter.unusedSimpArgs false

/-- So many values, and the bytes behind them. -/
def tkP : Nat → List Val → List UInt8 → Option (List Val × List UInt8)
  | 0, acc, bs => some (acc, bs)
  | n + 1, acc, bs => if (tkV bs).2 = 0 then none else tkP n (acc ++ [(tkV bs).1]) (bs.drop (tkV bs).2)
/-- Ints by their differences. -/
def tkD : Nat → Int → List Val → List UInt8 → Option (List Val)
  | 0, n, acc, bs => some acc
  | k + 1, n, acc, bs => if (tkG 0 0 bs).2 = 0 then none else tkD k (IntKind.i64.wrap (n + zag (tkG 0 0 bs).1)) (acc ++ [intV (IntKind.i64.wrap (n + zag (tkG 0 0 bs).1))]) (bs.drop (tkG 0 0 bs).2)
def tkDl (many : Nat) (bs : List UInt8) : Option (List Val) := if bs.length < 8 then none else tkD (many - 1) (wordV bs) [intV (wordV bs)] (bs.drop 8)
/-- Numbers in so many bits, if there are just their bytes. -/
def upkO (bs : List UInt8) (many wd : Nat) : Option (List Nat) := if bs.length = (many * wd + 7) / 8 then some (upk bs many wd) else none
def tkBt (many : Nat) (bs : List UInt8) : Option (List Val) :=
  if bs.length ≤ 8 ∨ 64 < (bs.getD 8 0).toNat then none else (upkO (bs.drop 9) many (bs.getD 8 0).toNat).map fun l => l.map fun (n : Nat) => intV (IntKind.i64.wrap (wordV bs + (n : Int)))
def tkDc (many : Nat) (bs : List UInt8) : Option (List Val) :=
  if bs.length = 0 ∨ (bs.getD 0 0).toNat = 0 ∨ many < (bs.getD 0 0).toNat then none
  else match tkP (bs.getD 0 0).toNat [] (bs.drop 1) with
    | none => none
    | some (u, r) => match upkO r many (Lib.bitLen (u.length - 1)) with
      | none => none
      | some ps => if ps.all (fun p => decide (p < u.length)) = true then some (ps.map fun p => u.getD p nv) else none
/-- What take reads. -/
def tkA (k : Int) (many : Nat) (bs : List UInt8) : Option (List Val) :=
  if many = 0 then some [] else if k = 1 then tkR many [] bs else if k = 2 then tkDl many bs else if k = 3 then tkDc many bs else if k = 4 then tkBt many bs else (tkP many [] bs).map Prod.fst

theorem vsz_rowB (x : Val) (h : x.right = true) (s : List UInt8) : vsz (rowB x ++ s) = (rowB x).length := by
  by_cases h3 : x.k = 3
  · obtain ⟨e, h6⟩ := right3 h h3
    have ho : (octet (x.t.size : Int)).toNat = x.t.size := by have := octet_toNat (x.t.size : Int) (by omega) (by omega); omega
    have hl : x.t.data.toList.length = x.t.size := by simp
    simp only [rowB, if_pos h3, List.cons_append, vsz]
    rw [if_neg (by decide), if_neg (by decide), if_neg (by decide), if_pos (by decide), ho]
    simp
    omega
  · have e : rowB x = fixB x 0 := by unfold rowB; rw [if_neg h3]
    rw [e]
    unfold fixB
    split
    · rfl
    · split
      · rfl
      · show vsz (2 :: (be (u64 (x.n + 0)) 8 ++ s)) = _
        simp only [vsz]
        rw [if_neg (by decide), if_neg (by decide), if_pos (by decide)]
        simp [be_length]
theorem tkV_put (x : Val) (h : x.right = true) (hi : x.in64) (s : List UInt8) : tkV (rowB x ++ s) = (x, (rowB x).length) := by
  have hp := rowB_pos h
  unfold tkV
  rw [vsz_rowB x h s, if_neg (by rw [List.length_append]; omega), List.take_left]
  have e : decS (1 :: rowB x) = ([x], 0) := by
    have := decS_put [x] (by simp [okR, allR, h]) (by simpa using hi)
    have e2 : encB [x] = 1 :: rowB x := by simp [encB]; rfl
    rw [e2] at this
    exact this
  rw [e]
  rfl
theorem tkP_put : ∀ (l acc : List Val) (s : List UInt8), allR l = true → (∀ x ∈ l, x.in64) → tkP l.length acc (l.flatMap rowB ++ s) = some (acc ++ l, s)
  | [], acc, s, _, _ => by simp [tkP]
  | x :: l, acc, s, h, hi => by
    have hx : x.right = true := by simp [allR] at h; exact h.1
    have hl : allR l = true := by simp [allR] at h ⊢; exact h.2
    have hp := rowB_pos hx
    rw [List.flatMap_cons, List.append_assoc, List.length_cons, tkP, tkV_put x hx (hi x (by simp))]
    simp only
    rw [if_neg (by omega), List.drop_left, tkP_put l _ s hl (fun y hy => hi y (by simp [hy]))]
    simp
theorem tkR_put : ∀ (R : List Rn) (acc : List Val) (s : List UInt8) (many : Nat), (∀ r ∈ R, r.v.right = true ∧ r.v.in64 ∧ 0 < r.m ∧ r.m < 256) → many = acc.length + (R.map Rn.m).sum → tkR many acc (R.flatMap runB ++ s) = some (acc ++ R.flatMap fun r => List.replicate r.m r.v)
  | [], acc, s, many, _, hm => by rw [tkR_done (by simp at hm; omega)]; simp
  | r :: R, acc, s, many, h, hm => by
    obtain ⟨h1, h2, h3, h4⟩ := h r (by simp)
    have hp := rowB_pos h1
    simp only [List.map_cons, List.sum_cons] at hm
    have e : (r :: R).flatMap runB ++ s = octet r.m :: (rowB r.v ++ (R.flatMap runB ++ s)) := by simp [runB]
    rw [e, tkR_cons (by omega), tkV_put r.v h1 h2]
    simp only
    rw [if_neg (by omega), List.drop_left, octet_nat r.m h4, tkR_put R _ s many (fun r' hr' => h r' (by simp [hr'])) (by simp; omega)]
    simp
theorem runsV_flat : ∀ l : List Val, (runsV l).flatMap (fun r => List.replicate r.m r.v) = l ∧ (∀ r ∈ runsV l, 0 < r.m) ∧ ((runsV l).map Rn.m).sum = l.length
  | [] => by simp [runsV]
  | x :: l => by
    obtain ⟨h1, h2, h3⟩ := runsV_flat l
    rw [runsV]
    cases hr : runsV l with
    | nil =>
      rw [hr] at h1 h3
      have : l = [] := by simpa using h1.symm
      subst this
      simp
    | cons r rs =>
      rw [hr] at h1 h2 h3
      simp only
      split
      · rename_i he
        have e := eqv_iff.1 he
        refine ⟨?_, ?_, ?_⟩
        · rw [← h1, e]; simp [List.replicate_succ]
        · intro q hq
          simp only [List.mem_cons] at hq
          rcases hq with rfl | hq
          · simp
          · exact h2 q (by simp [hq])
        · simp at h3 ⊢; omega
      · refine ⟨?_, ?_, ?_⟩
        · rw [← h1]; simp
        · intro q hq
          simp only [List.mem_cons] at hq
          rcases hq with rfl | hq
          · simp
          · exact h2 q (by simpa using hq)
        · simp at h3 ⊢; omega
theorem back_runs (l : List Val) (h : allR l = true) (hi : ∀ x ∈ l, x.in64) (hl : l.length ≤ 64) (s : List UInt8) : tkR l.length [] ((runsV l).flatMap runB ++ s) = some l := by
  obtain ⟨h1, h2, h3⟩ := runsV_flat l
  rw [tkR_put (runsV l) [] s l.length (fun r hr => ?_) (by simp [h3]), h1]
  · simp
  · have := runsV_in r hr
    exact ⟨List.all_eq_true.1 h _ this.1, hi _ this.1, h2 r hr, by omega⟩
/-- Differences, one behind the other. -/
def dltL : Val → List Val → List UInt8
  | _, [] => []
  | x, y :: r => gB (zig (IntKind.i64.wrap (y.n - x.n))).toNat ++ dltL y r
theorem dltL_eq : ∀ (r : List Val) (x : Val), dlt (x :: r) r.length = dltL x r
  | [], x => by simp [dlt, dltL]
  | y :: r, x => by
    rw [dltL, ← dltL_eq r y]
    unfold dlt
    rw [List.length_cons, List.range_succ_eq_map, List.flatMap_cons]
    congr 1
    rw [List.flatMap_map]
    rfl
theorem wrap_diff (n m : Int) (hn : -9223372036854775808 ≤ n ∧ n ≤ 9223372036854775807) (hm : -9223372036854775808 ≤ m ∧ m ≤ 9223372036854775807) : IntKind.i64.wrap (n + IntKind.i64.wrap (m - n)) = m := by
  rw [IntKind.wrap_i64, IntKind.wrap_i64]; omega
theorem gB_pos (z : Nat) : 0 < (gB z).length := by
  by_cases h : z < 128
  · rw [gB_lo h]; simp
  · rw [gB_hi h]; simp
theorem tkG_zig (d : Int) (h1 : -9223372036854775808 ≤ d) (h2 : d < 9223372036854775808) (s : List UInt8) : tkG 0 0 (gB (zig d).toNat ++ s) = ((zig d).toNat, (gB (zig d).toNat).length) := by
  have hb := zig_bd h1 h2
  rw [tkG_back s _ (zig d).toNat 0 0 (Nat.le_refl _) (by simp; omega) (by omega)]
  simp
theorem int_of {x : Val} (h : x.right = true) (hk : x.k = 2) : x = intV x.n := right2 h hk
theorem tkD_put : ∀ (r : List Val) (x : Val) (acc : List Val) (s : List UInt8), x.in64 → (∀ y ∈ r, y.in64 ∧ y = intV y.n) → tkD r.length x.n acc (dltL x r ++ s) = some (acc ++ r)
  | [], x, acc, s, _, _ => by simp [tkD]
  | y :: r, x, acc, s, hx, h => by
    obtain ⟨hy1, hy2⟩ := h y (by simp)
    have hw := wrap64_bd (y.n - x.n)
    have hp := gB_pos (zig (IntKind.i64.wrap (y.n - x.n))).toNat
    rw [dltL, List.append_assoc, List.length_cons, tkD, tkG_zig _ hw.1 hw.2]
    simp only
    rw [if_neg (by omega), List.drop_left, zag_zig hw.1 hw.2, wrap_diff x.n y.n hx hy1, ← hy2, tkD_put r y _ s hy1 (fun z hz => h z (by simp [hz]))]
    simp
theorem wordV_put (n : Int) (h : -9223372036854775808 ≤ n ∧ n ≤ 9223372036854775807) (s : List UInt8) : wordV (be (u64 n) 8 ++ s) = n := by
  unfold wordV
  rw [take8]
  have := s64_u64 n 0 h
  simpa using this
theorem back_delta (l : List Val) (h : allR l = true) (hi : ∀ x ∈ l, x.in64) (h2 : allI l = true) (h0 : 0 < l.length) (s : List UInt8) : tkDl l.length (deltaB l ++ s) = some l := by
  cases l with
  | nil => simp at h0
  | cons x r =>
    have hint : ∀ y ∈ x :: r, y = intV y.n := fun y hy => int_of (List.all_eq_true.1 h y hy) (by have := List.all_eq_true.1 h2 y hy; simpa using this)
    have e : deltaB (x :: r) ++ s = be (u64 x.n) 8 ++ (dltL x r ++ s) := by
      unfold deltaB
      rw [List.length_cons, Nat.add_sub_cancel, dltL_eq]
      simp
    unfold tkDl
    rw [e, if_neg (by rw [List.length_append, be_length]; omega), wordV_put x.n (hi x (by simp)), List.length_cons, Nat.add_sub_cancel]
    have e8 : (be (u64 x.n) 8 ++ (dltL x r ++ s)).drop 8 = dltL x r ++ s := by
      have : (be (u64 x.n) 8).length = 8 := be_length _ _
      exact List.drop_left' this
    rw [e8, tkD_put r x _ s (hi x (by simp)) (fun y hy => ⟨hi y (by simp [hy]), hint y (by simp [hy])⟩), ← hint x (by simp)]
    rfl
theorem bitLen_lt (x : Nat) (h : x < 18446744073709551616) : x < 2 ^ Lib.bitLen x := by
  have : ∀ (f x : Nat), x < 2 ^ f → x < 2 ^ Lib.bitLenAux f x := by
    intro f
    induction f with
    | zero => intro x hx; simpa [Lib.bitLenAux] using hx
    | succ f ih =>
      intro x hx
      unfold Lib.bitLenAux
      split
      · rename_i h0; simp_all
      · have h1 := ih (x / 2) (by rw [Nat.pow_succ] at hx; omega)
        rw [Nat.pow_add, Nat.pow_one]
        omega
  exact this 64 x h
theorem wdt_ge (l : List Val) (m : Int) : ∀ j k, k < j → Lib.bitLen (abv l m k) ≤ wdt l m j
  | 0, k, h => by omega
  | j + 1, k, h => by
    rw [wdt]
    by_cases e : k = j
    · subst e; omega
    · have := wdt_ge l m j k (by omega)
      omega
theorem upkO_back (l : List Nat) (wd : Nat) (h : ∀ x ∈ l, x < 2 ^ wd) : upkO (packB l wd) l.length wd = some l := by
  unfold upkO
  rw [if_pos (packB_length l wd), upk_back l wd h]
theorem abv_back (l : List Val) (m : Int) (k : Nat) (hm : -9223372036854775808 ≤ m ∧ m ≤ 9223372036854775807) (hk : -9223372036854775808 ≤ (l.getD k nv).n ∧ (l.getD k nv).n ≤ 9223372036854775807) : IntKind.i64.wrap (m + (abv l m k : Int)) = (l.getD k nv).n := by
  unfold abv
  rw [IntKind.wrap_i64]
  omega
theorem least_in (l : List Val) (hi : ∀ x ∈ l, x.in64) (h0 : 0 < l.length) : ∀ j, -9223372036854775808 ≤ leastTo l j ∧ leastTo l j ≤ 9223372036854775807 := by
  have hg : ∀ k, -9223372036854775808 ≤ (l.getD k nv).n ∧ (l.getD k nv).n ≤ 9223372036854775807 := fun k => by
    by_cases hk : k < l.length
    · have e : l.getD k nv = l[k] := by simp [hk]
      rw [e]; exact hi _ (List.getElem_mem hk)
    · have e : l.getD k nv = nv := by simp [List.getElem?_eq_none (by omega : l.length ≤ k)]
      rw [e]; exact ⟨by decide, by decide⟩
  intro j
  induction j with
  | zero => exact hg 0
  | succ j ih =>
    have := hg j
    unfold leastTo
    omega
theorem range_map_getD (l : List Val) : (List.range l.length).map (fun k => l.getD k nv) = l := by
  apply List.ext_getElem?
  intro i
  by_cases hi : i < l.length
  · rw [List.getElem?_map, List.getElem?_range hi]
    simp [hi]
  · rw [List.getElem?_eq_none (by simp; omega), List.getElem?_eq_none (by omega)]
theorem back_bits (l : List Val) (h : allR l = true) (hi : ∀ x ∈ l, x.in64) (h2 : allI l = true) (h0 : 0 < l.length) : tkBt l.length (bitsB l) = some l := by
  have hw := wdt_le l (leastTo l l.length) l.length
  have hin := least_in l hi h0 l.length
  have hge := wdt_ge l (leastTo l l.length) l.length
  obtain ⟨m, hm⟩ : ∃ m, leastTo l l.length = m := ⟨_, rfl⟩
  rw [hm] at hw hin hge
  obtain ⟨wd, hwd⟩ : ∃ wd, wdt l m l.length = wd := ⟨_, rfl⟩
  rw [hwd] at hw hge
  have e : bitsB l = be (u64 m) 8 ++ (octet wd :: packB (abvs l m l.length) wd) := by unfold bitsB; rw [hm, hwd]; simp
  have hl8 : (be (u64 m) 8).length = 8 := be_length _ _
  have ho : (octet wd).toNat = wd := octet_nat wd (by omega)
  have e8 : (be (u64 m) 8 ++ (octet wd :: packB (abvs l m l.length) wd)).getD 8 0 = octet wd := by
    rw [List.getD_eq_getElem?_getD, List.getElem?_append_right (by omega), hl8]; rfl
  have e9 : (be (u64 m) 8 ++ (octet wd :: packB (abvs l m l.length) wd)).drop 9 = packB (abvs l m l.length) wd := by
    rw [show 9 = (be (u64 m) 8).length + 1 by rw [hl8], List.drop_append]; simp
  unfold tkBt
  rw [e, e8, e9, ho, if_neg (by rw [List.length_append, List.length_cons, hl8]; omega), wordV_put m hin]
  have hub := upkO_back (abvs l m l.length) wd (fun x hx => by
    unfold abvs at hx
    obtain ⟨k, hk, rfl⟩ := List.mem_map.1 hx
    have h1 := bitLen_lt (abv l m k) (abv_lt l m k)
    exact Nat.lt_of_lt_of_le h1 (Nat.pow_le_pow_right (by omega) (hge k (by simpa using hk))))
  rw [abvs_length] at hub
  rw [hub, Option.map_some, Option.some.injEq]
  unfold abvs
  rw [List.map_map]
  conv => rhs; rw [← range_map_getD l]
  apply List.map_congr_left
  intro k hk
  have hk' : k < l.length := by simpa using hk
  have eg : l.getD k nv = l[k] := by simp [hk']
  show intV _ = _
  rw [abv_back l m k hin (by rw [eg]; exact hi _ (List.getElem_mem hk'))]
  have := int_of (List.all_eq_true.1 h _ (List.getElem_mem hk')) (by have := List.all_eq_true.1 h2 _ (List.getElem_mem hk'); simpa using this)
  rw [eg, ← this]
theorem back_dict (l : List Val) (h : allR l = true) (hi : ∀ x ∈ l, x.in64) (h0 : 0 < l.length) (hl : l.length ≤ 64) : tkDc l.length (dictB l) = some l := by
  have hul := uniq_len l
  have hur := uniq_right l h
  have hum := uniq_mem l
  obtain ⟨u, hu⟩ : ∃ u, uniq l = u := ⟨_, rfl⟩
  have e : dictB l = octet u.length :: (u.flatMap rowB ++ packB (plcs u l l.length) (Lib.bitLen (u.length - 1))) := by unfold dictB; rw [hu]; simp
  rw [hu] at hul hur
  simp only [hu] at hum
  have hu0 : 0 < u.length := by
    cases l with
    | nil => simp at h0
    | cons x r => exact List.length_pos_of_mem ((hum x).2 (by simp))
  have ho : (octet u.length).toNat = u.length := octet_nat _ (by omega)
  unfold tkDc
  rw [e]
  have e0 : (octet (u.length : Int) :: (u.flatMap rowB ++ packB (plcs u l l.length) (Lib.bitLen (u.length - 1)))).getD 0 0 = octet u.length := rfl
  rw [e0, ho, if_neg (by rw [List.length_cons]; omega), List.drop_one, List.tail_cons, tkP_put u [] _ hur (fun x hx => hi x ((hum x).1 hx))]
  simp only [List.nil_append]
  have hpl : ∀ p ∈ plcs u l l.length, p < u.length := fun p hp => by
    unfold plcs at hp
    obtain ⟨k, hk, rfl⟩ := List.mem_map.1 hp
    have hk' : k < l.length := by simpa using hk
    have eg : l.getD k nv = l[k] := by simp [hk']
    exact (idxV_mem u _ ((hum _).2 (by rw [eg]; exact List.getElem_mem hk'))).1
  have hub := upkO_back (plcs u l l.length) (Lib.bitLen (u.length - 1)) (fun x hx => by
    have h1 := hpl x hx
    have h2 := bitLen_lt (u.length - 1) (by omega)
    omega)
  rw [plcs_length] at hub
  rw [hub]
  simp only
  rw [if_pos (List.all_eq_true.2 fun p hp => by simpa using hpl p hp), Option.some.injEq]
  unfold plcs
  rw [List.map_map]
  conv => rhs; rw [← range_map_getD l]
  apply List.map_congr_left
  intro k hk
  have hk' : k < l.length := by simpa using hk
  have eg : l.getD k nv = l[k] := by simp [hk']
  exact (idxV_mem u _ ((hum _).2 (by rw [eg]; exact List.getElem_mem hk'))).2.1
/-- What is written is read back, in every kind. -/
theorem back_all (k : Int) (l : List Val) (hi : ∀ x ∈ l, x.in64) (hr : refE k l = 0) (h0 : 0 < l.length) : tkA k l.length (encR k l) = some l := by
  obtain ⟨hk, hl, ha⟩ := refE_ok hr
  have hint : ofI k = true → allI l = true := fun ho => by
    unfold refE at hr
    rw [hk, ha, ho] at hr
    simp at hr
    split at hr
    · simp at hr
    · by_cases h : allI l = true
      · exact h
      · simp [h] at hr
  have e : encR k l = putB k l := by unfold encR; rw [if_pos ⟨hr, h0⟩]
  rw [e]
  unfold tkA putB
  rw [if_neg (by omega)]
  by_cases h1 : k = 1
  · subst h1; simpa using back_runs l ha hi hl []
  · rw [if_neg h1, if_neg h1]
    by_cases h2 : k = 2
    · subst h2; simpa using back_delta l ha hi (hint rfl) h0 []
    · rw [if_neg h2, if_neg h2]
      by_cases h3 : k = 3
      · subst h3; simpa using back_dict l ha hi h0 hl
      · rw [if_neg h3, if_neg h3]
        by_cases h4 : k = 4
        · subst h4; simpa using back_bits l ha hi (hint rfl) h0
        · rw [if_neg h4, if_neg h4]
          have := tkP_put l [] [] ha hi
          rw [List.append_nil] at this
          rw [this]; rfl
end Go.Proofs.YtafcdckpicoppaaGreatDoor
end

section
namespace Go.Proofs.YtafcdckpicoppaaGreatDoor
open Go.RowKit Go.Hay
set_option linter.unusedVariables false
set_option linter.unusedSimpArgs false

theorem rowSetV {w : World} {B n c : Nat} {l : List Val} (h : VE.Row w (.slice (some ⟨B, 0, none⟩) n c) l) (i : Nat) (hi : i < l.length) (x : Val) : VE.Row ((((w.setCell ⟨B, i * 4, none⟩ (.int .i64 x.k)).setCell ⟨B, i * 4 + 1, none⟩ (.bool x.b)).setCell ⟨B, i * 4 + 2, none⟩ (.int .i64 x.n)).setCell ⟨B, i * 4 + 3, none⟩ (.string x.t)) (.slice (some ⟨B, 0, none⟩) n c) (l.set i x) := by
  have := h.setAt i hi x
  have e : VE.n = 4 := rfl
  rw [e, Nat.zero_add] at this
  exact this
theorem rowCellsV {w : World} {B n c : Nat} {l : List Val} (h : VE.Row w (.slice (some ⟨B, 0, none⟩) n c) l) (i : Nat) (hi : i < l.length) : ∀ j, j < 4 → (∃ u, w.cell? ⟨B, i * 4 + j, none⟩ = some u) ∧ w.frozen? ⟨B, i * 4 + j, none⟩ = false := by
  intro j hj
  rcases h with ⟨e, _⟩ | ⟨g, o, cc, e, hl, hx, hg, hc, ht⟩
  · cases e
  · cases e
    have e : VE.n = 4 := rfl
    have := ht (i * 4 + j) (by rw [e]; omega)
    rw [Nat.zero_add] at this
    exact ⟨Option.isSome_iff_exists.1 this.1, this.2⟩
theorem kpSet4 {w0 w : World} {B i : Nat} (k : Kp [] w0 w) (hB : w0.heap.size ≤ B) (a b c d : Value) : Kp [] w0 ((((w.setCell ⟨B, i * 4, none⟩ a).setCell ⟨B, i * 4 + 1, none⟩ b).setCell ⟨B, i * 4 + 2, none⟩ c).setCell ⟨B, i * 4 + 3, none⟩ d) :=
  (((k.setCell (p := ⟨B, i * 4, none⟩) (.inr hB) _).setCell (p := ⟨B, i * 4 + 1, none⟩) (.inr hB) _).setCell (p := ⟨B, i * 4 + 2, none⟩) (.inr hB) _).setCell (p := ⟨B, i * 4 + 3, none⟩) (.inr hB) _
end Go.Proofs.YtafcdckpicoppaaGreatDoor
end

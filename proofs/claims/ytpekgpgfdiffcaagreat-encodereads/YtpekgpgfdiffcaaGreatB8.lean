/- takeRuns. Decode, over what take reads. The law's own test that the program is alive: what is reckoned. alive. -/
import Derived.Test.YtpekgpgfdiffcaaGreatB7
section
namespace Go.Proofs.YtpekgpgfdiffcaaGreat
open Go.RowKit Go.Hay
set_option linter.unusedVariables false
set_option linter.unusedSimpArgs false

theorem tkV_le (bs : List UInt8) : (tkV bs).2 ≤ bs.length := by
  unfold tkV
  split
  · exact Nat.zero_le _
  · rename_i h
    split
    · show vsz bs ≤ _; omega
    · exact Nat.zero_le _
/-- Runs, till there are so many values. -/
def tkR (many : Nat) (acc : List Val) (bs : List UInt8) : Option (List Val) :=
  if many ≤ acc.length then some acc else
    match bs with
    | [] => none
    | c :: r => if (tkV r).2 = 0 then none else tkR many (acc ++ List.replicate c.toNat (tkV r).1) (r.drop (tkV r).2)
termination_by bs.length
decreasing_by simp; omega
theorem tkR_done {many : Nat} {acc : List Val} {bs : List UInt8} (h : many ≤ acc.length) : tkR many acc bs = some acc := by rw [tkR.eq_def, if_pos h]
theorem tkR_nil {many : Nat} {acc : List Val} (h : ¬ many ≤ acc.length) : tkR many acc [] = none := by rw [tkR.eq_def, if_neg h]
theorem tkR_cons {many : Nat} {acc : List Val} {c : UInt8} {r : List UInt8} (h : ¬ many ≤ acc.length) : tkR many acc (c :: r) = if (tkV r).2 = 0 then none else tkR many (acc ++ List.replicate c.toNat (tkV r).1) (r.drop (tkV r).2) := by rw [tkR.eq_def, if_neg h]
def okV : Option (List Val) → List Val × Bool
  | none => ([], false)
  | some l => (l, true)
/-- What a call that takes values hands back. -/
def TkL (w : World) (r : List Val × Bool) (e : Ending) (w' : World) : Prop := ∃ a c, e = .returned (.tuple #[.slice a r.1.length c, .bool r.2]) ∧ VE.Row w' (.slice a r.1.length c) r.1 ∧ Kp [] w w' ∧ ∀ k ∈ blk a, w.heap.size ≤ k
theorem tkL_none (w w' : World) (k : Kp [] w w') : TkL w ([], false) (.returned (.tuple #[.slice none 0 0, .bool false])) w' := ⟨none, 0, rfl, .inl ⟨rfl, rfl⟩, k, by simp [blk]⟩
theorem oneV (w : World) {q : Nat} (hq : w.heap.size = q) (x : Val) (t : TypeId) : VE.See (w.alloc (.cells #[.int .i64 x.k, .bool x.b, .int .i64 x.n, .string x.t] t)) (some ⟨q, 0, none⟩) [x] := by
  subst hq
  refine .inr ⟨_, 0, rfl, fun j u hu => ?_⟩
  have e : (w.alloc (.cells #[.int .i64 x.k, .bool x.b, .int .i64 x.n, .string x.t] t)).cell? ⟨w.heap.size, 0 + j, none⟩ = _ := World.cell?_alloc_new w _ _ (0 + j)
  rw [e, Nat.zero_add]
  simpa [El.cs, VE] using hu
/-- An append whose run is known, for the walk. -/
theorem wpAppRun {P : Program} {w w' : World} {ops : Array Oper} {rest : List Oper} {o : Oper} {a : Act} {Q : Exit → Act → World → Prop} (hgd : o.guard = none) (s x : Operand) (t tx : TypeId)
    (ho : o.op = .call { callee := .builtin .append, args := #[s, x], argTypes := #[t, tx] }) (v xv v' : Value) (hv : a.eval s = v) (hx : a.eval x = xv)
    (hrun : (Builtin.append_ #[t, tx] o.type #[v, xv]).run P w = .ok v' w') (hK : wpList P ops Q rest (a.put o.dst v') w') : wpList P ops Q (o :: rest) a w := by
  refine wpList_plain hgd fun K hK' => ?_
  have hfin := hK' _ _ hK
  unfold Oper.wp
  simp [execOp, ho, resolve, invoke, builtin, hv, hx, hrun, Result.andThen]
  exact hfin
structure TrI (w W : World) (ba : Option Addr) (bc : Nat) (rest : List UInt8) (la : Option Addr) (lc : Nat) (acc : List Val) : Prop where
  see : Sees w ba rest
  len : rest.length ≤ bc
  cap : bc ≤ 9223372036854775807
  few : rest.length ≤ 900000000000000
  row : VE.Row W (.slice la acc.length lc) acc
  new : ∀ k ∈ blk la, w.heap.size ≤ k
  kp : Kp [] w W
set_option maxHeartbeats 8000000 in
set_option maxRecDepth 100000 in
theorem cTakeRuns (a : Option Addr) (c : Nat) (bs : List UInt8) (many : Nat) (w : World) (hs : Sees w a bs) (hl : bs.length ≤ c) (hm : c ≤ maxLen) (hb : bs.length ≤ 900000000000000) (hmn : many ≤ 64) :
    Calls Tryz.prog 19 #[.slice a bs.length c, .int .i64 many] w (TkL w (okV (tkR many [] bs))) := by
  obtain ⟨F, hF⟩ : ∃ F, Hid (tkR many [] bs = F) := ⟨_, rfl⟩
  rw [hF.out]
  unfold maxLen at hm
  have I0 : Hid (TrI w w a c bs none 0 []) := ⟨hs, hl, hm, hb, .inl ⟨rfl, rfl⟩, by simp [blk], Kp.refl _ _⟩
  clear hs
  obtain ⟨i0, hi, hz0, hz1, hz2⟩ := infoV'
  go_enter Tryz.func19, Tryz.ntmps19
  go_wp2_with fail
  go_loopw [0, 6] (fun v0 v6 wn => ∃ (ba : Option Addr) (bc : Nat) (rest : List UInt8) (la : Option Addr) (lc : Nat) (acc : List Val), v0 = .slice ba rest.length bc ∧ v6 = .slice la acc.length lc ∧ TrI w wn ba bc rest la lc acc ∧ acc.length ≤ 400 ∧ Hid (tkR many acc rest = F)) (fun v0 _ _ => lenV v0)
  case atStart => exact ⟨a, c, bs, none, 0, [], rfl, rfl, I0.out, by simp, hF⟩
  case round =>
    clear I0 hF
    obtain ⟨ba, bc, rest, la, lc, acc, rfl, rfl, I, hacc, hF⟩ := hrel
    by_cases hdn : many ≤ acc.length
    · rw [tkR_done hdn] at hF
      have hfin : TkL w (okV F) (.returned (.tuple #[.slice la acc.length lc, .bool true])) wr := by rw [← hF.out]; exact ⟨la, lc, rfl, I.row, I.kp, I.new⟩
      have hnlt : ¬ (acc.length : Int) < (many : Int) := by omega
      clear I hF
      go_wp2_with fail
      go_ret2
      exact hfin
    · have hlt : (acc.length : Int) < (many : Int) := by omega
      cases rest with
      | nil =>
        rw [tkR_nil hdn] at hF
        have hfin : TkL w (okV F) (.returned (.tuple #[.slice none 0 0, .bool false])) wr := by rw [← hF.out]; exact tkL_none w wr I.kp
        rw [List.length_nil]
        clear I hF
        go_wp2_with fail
        go_ret2
        exact hfin
      | cons x r =>
        rw [tkR_cons hdn] at hF
        obtain ⟨g, o, rfl, hc⟩ : ∃ g o, ba = some ⟨g, o, none⟩ ∧ ∀ j u, (x :: r)[j]? = some u → w.cell? ⟨g, o + j, none⟩ = some (.int .u8 u.toNat) := by
          rcases I.see with h | h
          · cases h
          · exact h
        have hc0 : Hid (∀ W, Kp [] w W → W.cell? ⟨g, o, none⟩ = some (.int .u8 x.toNat)) := fun W kW => kpAt kW (hc 0 x rfl)
        have hx := x.toNat_lt
        have hlen := I.len
        have hcap := I.cap
        have hfew := I.few
        have htl : Hid (∀ n, Sees w (some ⟨g, o + n, none⟩) ((x :: r).drop n)) := fun n => by have := Sees.tail I.see n; simpa [Addr.add_lit] using this
        rw [List.length_cons] at hlen hfew ⊢
        have hne : (((r.length + 1 : Nat) : Int) == 0) = false := by rw [beq_eq_false_iff_ne]; omega
        have hne2 : (((r.length : Int) + 1) == 0) = false := by rw [beq_eq_false_iff_ne]; omega
        by_cases hc1 : bc = 1
        · subst hc1
          obtain rfl : r = [] := by cases r with | nil => rfl | cons _ _ => simp at hlen
          have ht := cTakeV (some ⟨g, o, none⟩) 0 [] wr (.inl rfl) (by simp) (by simp [maxLen]) (by simp)
          have e0 : tkV [] = (nilV, 0) := rfl
          rw [e0] at ht hF
          unfold Tk at ht
          dsimp only [List.length_nil] at ht hF
          rw [if_pos rfl] at hF
          have hkp := I.kp
          have hfin : Hid (∀ W, Kp [] w W → TkL w (okV F) (.returned (.tuple #[.slice none 0 0, .bool false])) W) := fun W kW => by rw [← hF.out]; exact tkL_none w W kW
          have hnv : Hid (nilV.v = .agg #[.int .i64 0, .bool false, .int .i64 0, .string ⟨#[]⟩]) := rfl
          rw [hnv.out] at ht
          clear I hF
          rw [List.length_nil]
          go_wp2_with fail
          refine ht.mono ?_
          rintro e w1 ⟨rfl, k1⟩
          have hfin' := hfin.out _ ((hkp.trans k1 (by simp)).alloc (.cells #[.int .i64 0, .bool false, .int .i64 0, .string ⟨#[]⟩] 38))
          clear ht hfin
          go_wp2_with fail
          go_ret2
          exact hfin'
        · have htr := htl.out 1
          rw [List.drop_one, List.tail_cons] at htr
          have ht := cTakeV (some ⟨g, o + 1, none⟩) (bc - 1) r wr (htr.kept I.kp (by simp)) (by omega) (by unfold maxLen; omega) (by omega)
          have htle := tkV_le r
          obtain ⟨⟨v, sz⟩, htk⟩ : ∃ t, Hid (tkV r = t) := ⟨_, rfl⟩
          rw [htk.out] at ht hF htle
          unfold Tk at ht
          dsimp only at ht hF htle
          have hxv : Hid (v.v = .agg #[.int .i64 v.k, .bool v.b, .int .i64 v.n, .string v.t]) := rfl
          rw [hxv.out] at ht
          obtain ⟨n, hn⟩ : ∃ n, Hid (x.toNat = n) := ⟨_, rfl⟩
          rw [hn.out] at hF hx
          simp only [hn.out] at hc0
          have hI := hid I
          have hlaw : ∀ k ∈ blk la, k < wr.heap.size := fun k hk => I.row.lt k (by rw [ownS]; exact hk)
          have hlaw' := hid hlaw
          clear I htr hxv hlaw
          go_wp2_with fail
          refine ht.mono ?_
          rintro e w1 ⟨rfl, k1⟩
          obtain ⟨wb, hwb⟩ : ∃ wb, w1.alloc (.cells #[.int .i64 v.k, .bool v.b, .int .i64 v.n, .string v.t] 38) = wb := ⟨_, rfl⟩
          have kb : Kp [] w1 wb := by rw [← hwb]; exact (Kp.refl _ _).alloc _
          have bx : Box4 wb w1.heap.size (.int .i64 v.k) (.bool v.b) (.int .i64 v.n) (.string v.t) := by rw [← hwb]; exact Box4.new _ _ _ _ _ _
          have kwb : Kp [] w wb := (hI.out.kp.trans k1 (by simp)).trans kb (by simp)
          by_cases hsz : sz = 0
          · subst hsz
            rw [if_pos rfl] at hF
            have hfin : TkL w (okV F) (.returned (.tuple #[.slice none 0 0, .bool false])) wb := by rw [← hF.out]; exact tkL_none w wb kwb
            clear hF hI ht
            go_wp2_with fail
            go_ret2
            exact hfin
          · rw [if_neg hsz] at hF
            have hsz' : ((sz : Int) == 0) = false := by rw [beq_eq_false_iff_ne]; omega
            have hcx := hc0.out wb kwb
            have hq1 : w.heap.size ≤ w1.heap.size := (hI.out.kp.trans k1 (by simp)).size
            have R0 : Hid (VE.Row wb (.slice la (acc.length + 0) lc) (acc ++ List.replicate 0 v) ∧ w1.heap.size ∉ blk la) := ⟨by simpa using hI.out.row.keptNew (k1.trans kb (by simp)), fun hm => by have := hlaw'.out _ hm; have := k1.size; omega⟩
            have hnew := hid hI.out.new
            clear hI ht hlaw'
            go_wp2_with fail
            go_loopw [6, 28] (fun v6 i wn => ∃ (j : Nat) (la' : Option Addr) (lc' : Nat), j ≤ n ∧ i = .int .i64 j ∧ v6 = .slice la' (acc.length + j) lc' ∧ VE.Row wn (.slice la' (acc.length + j) lc') (acc ++ List.replicate j v) ∧ w1.heap.size ∉ blk la' ∧ (∀ k ∈ blk la', w.heap.size ≤ k) ∧ Kp [] w wn ∧ Box4 wn w1.heap.size (.int .i64 v.k) (.bool v.b) (.int .i64 v.n) (.string v.t)) (fun _ i _ => n - (intOf i).toNat)
            case atStart => exact ⟨0, la, lc, Nat.zero_le _, rfl, by rw [Nat.add_zero], R0.out.1, R0.out.2, hnew.out, kwb, bx⟩
            case round =>
              clear R0 hnew bx kb k1 hwb hcx
              obtain ⟨j, la', lc', hj, rfl, rfl, hrow, hqn, hnw, kn, bx⟩ := hrel
              by_cases hjn : j < n
              · have p0 := bx.c0; have p1 := bx.c1; have p2 := bx.c2; have p3 := bx.c3
                have hal : (acc ++ List.replicate j v).length = acc.length + j := by simp
                obtain ⟨wc, hwc⟩ : ∃ wc, wr.alloc (.cells #[.int .i64 v.k, .bool v.b, .int .i64 v.n, .string v.t] 38) = wc := ⟨_, rfl⟩
                have kc : Kp [] wr wc := by rw [← hwc]; exact (Kp.refl _ _).alloc _
                have hsr : VE.See wc (some ⟨wr.heap.size, 0, none⟩) [v] := by rw [← hwc]; exact oneV wr rfl v _
                have hsrc := hsr.src (P := Tryz.prog) Tryz.underlying23 1
                have hrowc := hrow.keptNew kc
                obtain ⟨v', X3, hrun, hrow3, kk3, hn3⟩ := run_appendG (E := VE) (P := Tryz.prog) wc 23 23 23 38 i0 _ 40 Tryz.underlying23 hi hz0 hz1 hz2 rfl (.slice la' (acc.length + j) lc') (acc ++ List.replicate j v) hrowc _ [v] hsrc (by simp; omega) (by simp; omega)
                obtain ⟨a3, c3, rfl, _⟩ := hrow3.see
                rw [ownS] at kk3
                have hfin : Hid (∃ (j' : Nat) (la'' : Option Addr) (lc'' : Nat), j' ≤ n ∧ (.int .i64 ((j : Int) + 1) : Value) = .int .i64 j' ∧ (.slice a3 (acc ++ List.replicate j v ++ [v]).length c3 : Value) = .slice la'' (acc.length + j') lc'' ∧ VE.Row X3 (.slice la'' (acc.length + j') lc'') (acc ++ List.replicate j' v) ∧ w1.heap.size ∉ blk la'' ∧ (∀ k ∈ blk la'', w.heap.size ≤ k) ∧ Kp [] w X3 ∧ Box4 X3 w1.heap.size (.int .i64 v.k) (.bool v.b) (.int .i64 v.n) (.string v.t)) := by
                  have e1 : acc ++ List.replicate j v ++ [v] = acc ++ List.replicate (j + 1) v := by rw [List.append_assoc, List.replicate_succ']
                  have e2 : (acc ++ List.replicate (j + 1) v).length = acc.length + (j + 1) := by simp
                  rw [e1, e2] at hrow3
                  have hlt1 : w1.heap.size < wc.heap.size := Nat.lt_of_lt_of_le bx.lt kc.size
                  refine ⟨j + 1, a3, c3, by omega, by go_num, by rw [e1, e2], hrow3, fun hm => ?_, fun k hk => ?_, ?_, (boxKeep bx kc).kept kk3 hqn⟩
                  · rcases hn3 _ (by rw [ownS]; exact hm) with h | h
                    · rw [ownS] at h; exact hqn h
                    · omega
                  · rcases hn3 k (by rw [ownS]; exact hk) with h | h
                    · rw [ownS] at h; exact hnw k h
                    · have := kn.size; have := kc.size; omega
                  · exact (kn.trans kc (by simp)).trans kk3 (fun k hk => .inr (hnw k hk))
                clear hrow hrowc hrow3 kk3 hn3 hsr hsrc kc bx hal
                go_wp2_with (first | (refine wpAppRun rfl _ _ 23 23 rfl _ _ _ rfl rfl hrun ?_) | fail)
                obtain ⟨j', la'', lc'', h1, h2, h3, h4⟩ := hfin.out
                exact ⟨⟨j', la'', lc'', h1, h2, by first | exact h3 | (rw [← h3]; simp; try omega), h4⟩, by simp [intOf]; omega⟩
              · obtain rfl : j = n := by omega
                have hal : (acc ++ List.replicate j v).length = acc.length + j := by simp
                have hdl : (r.drop sz).length = r.length - sz := by simp
                have hnxt : Hid (∀ ba', Sees w ba' (r.drop sz) → ∃ (ba2 : Option Addr) (bc2 : Nat) (rest2 : List UInt8) (la2 : Option Addr) (lc2 : Nat) (acc2 : List Val), (.slice ba' (r.length + 1 - (1 + sz)) (bc - (1 + sz)) : Value) = .slice ba2 rest2.length bc2 ∧ (.slice la' (acc.length + j) lc' : Value) = .slice la2 acc2.length lc2 ∧ TrI w wr ba2 bc2 rest2 la2 lc2 acc2 ∧ acc2.length ≤ 400 ∧ Hid (tkR many acc2 rest2 = F)) := fun ba' hsb =>
                  ⟨ba', bc - (1 + sz), r.drop sz, la', lc', acc ++ List.replicate j v, by rw [hdl, show r.length + 1 - (1 + sz) = r.length - sz by omega], by rw [hal], ⟨hsb, by rw [hdl]; omega, by omega, by rw [hdl]; omega, by rw [hal]; exact hrow, hnw, kn⟩, by rw [hal]; omega, hF⟩
                have htd := htl.out (1 + sz)
                rw [Nat.add_comm 1 sz, List.drop_succ_cons] at htd
                have htd' := hid htd
                clear hrow hF bx hal htl htd
                by_cases hce : 1 + sz = bc
                · have hemp : r.drop sz = [] := List.drop_eq_nil_of_le (by omega)
                  have hN := hid (hnxt.out (some ⟨g, o, none⟩) (by rw [hemp]; exact .inl rfl))
                  clear hnxt hemp htd'
                  go_wp2_with fail
                  exact ⟨hN.out, by simp only [lenV]; omega⟩
                · have hN := hid (hnxt.out (some ⟨g, o + (1 + sz), none⟩) (by rw [Nat.add_comm 1 sz]; exact htd'.out))
                  clear hnxt htd'
                  go_wp2_with fail
                  exact ⟨hN.out, by simp only [lenV]; omega⟩
end Go.Proofs.YtpekgpgfdiffcaaGreat
end

section
namespace Go.Proofs.YtpekgpgfdiffcaaGreat
open Go.RowKit Go.Hay
set_option linter.unusedVariables false
set_option linter.unusedSimpArgs false

theorem cBytesEq (a b : Option Addr) (c d : Nat) (x y : List UInt8) (w : World) (hx : Sees w a x) (hy : Sees w b y) :
    Calls Tryz.prog 11 #[.slice a x.length c, .slice b y.length d] w fun e w' => e = .returned (.bool (x == y)) ∧ w' = w := by
  have h1 := convSees hx c
  have h2 := convSees hy d
  go_enter Tryz.func11, Tryz.ntmps11
  go_wp2_with fail
  go_ret
  exact ⟨rfl, rfl⟩
/-- take, at runs. -/
theorem cTake1 (a : Option Addr) (c : Nat) (bs : List UInt8) (many : Nat) (w : World) (hs : Sees w a bs) (hl : bs.length ≤ c) (hm : c ≤ maxLen) (hb : bs.length ≤ 900000000000000) (hmn : many ≤ 64) (h0 : 0 < many) :
    Calls Tryz.prog 9 #[.int .i64 1, .slice a bs.length c, .int .i64 many] w (TkL w (okV (tkR many [] bs))) := by
  have hT := cTakeRuns a c bs many w hs hl hm hb hmn
  obtain ⟨⟨L, B⟩, hR⟩ : ∃ R, Hid (okV (tkR many [] bs) = R) := ⟨_, rfl⟩
  rw [hR.out] at hT ⊢
  have d0 : ((many : Int) == 0) = false := by rw [beq_eq_false_iff_ne]; omega
  clear hs hm hR
  go_enter Tryz.func9, Tryz.ntmps9
  go_wp2_with fail
  refine hT.mono ?_
  rintro e w1 ⟨a1, c1, rfl, hrow, k1, hn1⟩
  dsimp only at hrow
  have hrow' := hid hrow
  clear hrow hT
  go_wp2_with fail
  go_ret2
  exact ⟨a1, c1, rfl, hrow'.out, k1, hn1⟩
/-- What Decode makes of what take read. -/
def decE (k : Int) (bs : List UInt8) (many : Nat) (R : List Val × Bool) : List Val × Int :=
  if R.2 = true ∧ R.1.length = many ∧ refE k R.1 = 0 ∧ encR k R.1 = bs then (R.1, 0) else ([], 60)
def DecP (w : World) (r : List Val × Int) (e : Ending) (w' : World) : Prop := ∃ a c, e = .returned (.tuple #[.slice a r.1.length c, .int .i64 r.2]) ∧ VE.Row w' (.slice a r.1.length c) r.1 ∧ Kp [] w w' ∧ ∀ k ∈ blk a, w.heap.size ≤ k
theorem decP_no (w w' : World) (k : Kp [] w w') : DecP w ([], 60) (.returned (.tuple #[.slice none 0 0, .int .i64 60])) w' := ⟨none, 0, rfl, .inl ⟨rfl, rfl⟩, k, by simp [blk]⟩
set_option maxHeartbeats 4000000 in
set_option maxRecDepth 100000 in
theorem cDecE (k : Int) (a : Option Addr) (c : Nat) (bs : List UInt8) (many : Nat) (R : List Val × Bool) (w : World) (hk : knownB k = true) (hs : Sees w a bs) (hmn : many ≤ 64) (hT : Calls Tryz.prog 9 #[.int .i64 k, .slice a bs.length c, .int .i64 many] w (TkL w R)) :
    Calls Tryz.prog 4 #[.int .i64 k, .slice a bs.length c, .int .i64 many] w (DecP w (decE k bs many R)) := by
  have cK := cKnown k w
  rw [hk] at cK
  have hF : Hid (decE k bs many R = if R.2 = true ∧ R.1.length = many ∧ refE k R.1 = 0 ∧ encR k R.1 = bs then (R.1, 0) else ([], 60)) := rfl
  obtain ⟨F, hFF⟩ : ∃ F, Hid (decE k bs many R = F) := ⟨_, rfl⟩
  rw [hFF.out] at hF ⊢
  obtain ⟨L, B⟩ := R
  have hs' := hid hs
  have d0 : ¬ (many : Int) < 0 := by omega
  have d1 : ¬ (64 : Int) < (many : Int) := by omega
  clear hk hs hFF
  dsimp only at hF
  go_enter Tryz.func4, Tryz.ntmps4
  go_wp2_with fail
  refine cK.mono ?_
  rintro e w9 ⟨rfl, hw9⟩
  rw [hw9]
  clear hw9 w9 cK
  go_wp2_with fail
  refine hT.mono ?_
  rintro e w1 ⟨a1, c1, rfl, hrow, k1, hn1⟩
  dsimp only at hrow
  have hrow' := hid hrow
  clear hrow hT
  cases B with
  | false =>
    have hno : Hid (F = ([], 60)) := by show _ = _; rw [hF.out, if_neg (by simp)]
    have hfin := decP_no w w1 k1
    rw [← hno.out] at hfin
    clear hF hno
    go_wp2_with fail
    go_ret2
    exact hfin
  | true =>
    by_cases hlm : L.length = many
    · have hm1 : L.length ≤ c1 ∧ c1 ≤ maxLen := by
        obtain ⟨_, _, e, _, _, h1, h2, _⟩ := hrow'.out.see
        injection e with e1 e2 e3
        rw [e3]
        exact ⟨h1, h2⟩
      have hv1 : Vals w1 a1 L := by
        obtain ⟨_, _, e, h1, _⟩ := hrow'.out.see
        injection e with e1 e2 e3
        rw [e1]
        exact seeV.1 h1
      have cE := cEncE k a1 c1 L w1 hv1 hm1.1 hm1.2
      unfold EncP at cE
      obtain ⟨E, hEE⟩ : ∃ E, Hid (refE k L = E) := ⟨_, rfl⟩
      obtain ⟨Q, hQ⟩ : ∃ Q, Hid (encR k L = Q) := ⟨_, rfl⟩
      rw [hEE.out, hQ.out] at hF
      rw [hEE.out, hQ.out] at cE
      have d2 : ((L.length : Int) != (many : Int)) = false := by rw [hlm]; simp
      have d3 : ((L.length : Int) == (many : Int)) = true := by rw [hlm]; simp
      have hlm' := hid hlm
      clear hv1 hlm
      go_wp2_with fail
      refine cE.mono ?_
      rintro e w3 ⟨b3, c3, rfl, hrow3, k3, hn3⟩
      have k13 := k1.trans k3 (by simp)
      have hrow3' := hid hrow3
      clear hrow3 cE
      by_cases hE0 : E = 0
      · subst hE0
        have cQ := cBytesEq b3 a c3 c Q bs w3 (by obtain ⟨_, _, e, h1, _⟩ := hrow3'.out.sees; injection e with e1 e2 e3; rw [e1]; exact h1) (hs'.out.kept k13 (by simp))
        obtain ⟨Z, hZ⟩ : ∃ Z, Hid ((Q == bs) = Z) := ⟨_, rfl⟩
        rw [hZ.out] at cQ
        have hfin : Hid (DecP w F (.returned (.tuple #[.slice (if Z then a1 else none) (if Z then L.length else 0) (if Z then c1 else 0), .int .i64 (if Z then 0 else 60)])) w3) := by
          show DecP _ _ _ _
          cases Z with
          | true =>
            have : Q = bs := by simpa using hZ.out
            rw [hF.out, if_pos (by simp [hlm'.out, this])]
            exact ⟨a1, c1, rfl, hrow'.out.keptNew k3, k13, hn1⟩
          | false =>
            have : ¬ Q = bs := by simpa using hZ.out
            rw [hF.out, if_neg (fun h => this h.2.2.2)]
            exact decP_no w w3 k13
        clear hF hrow' hrow3' hs' hm1
        go_wp2_with fail
        refine cQ.mono ?_
        rintro e w9 ⟨rfl, hw9⟩
        rw [hw9]
        clear hw9 w9 cQ
        cases Z
        · go_wp2_with fail
          go_ret2
          exact hfin.out
        · go_wp2_with fail
          go_ret2
          exact hfin.out
      · have hno : Hid (F = ([], 60)) := by show _ = _; rw [hF.out, if_neg (fun h => hE0 h.2.2.1)]
        have hfin := decP_no w w3 k13
        rw [← hno.out] at hfin
        have d5 : (E != 0) = true := by simpa using hE0
        have d6 : (E == 0) = false := by simpa using hE0
        clear hF hno hrow' hrow3' hs' hm1
        go_wp2_with fail
        go_ret2
        exact hfin
    · have hno : Hid (F = ([], 60)) := by show _ = _; rw [hF.out, if_neg (fun h => hlm h.2.1)]
      have hfin := decP_no w w1 k1
      rw [← hno.out] at hfin
      have d2 : ((L.length : Int) != (many : Int)) = true := by simp only [bne_iff_ne]; omega
      have d3 : ((L.length : Int) == (many : Int)) = false := by rw [beq_eq_false_iff_ne]; omega
      clear hF hno
      go_wp2_with fail
      go_ret2
      exact hfin
end Go.Proofs.YtpekgpgfdiffcaaGreat
end

section
namespace Go.Proofs.YtpekgpgfdiffcaaGreat
open Go.RowKit Go.Hay
set_option linter.unusedVariables false
set_option linter.unusedSimpArgs false

def v5 : Val := ⟨2, false, 5, ⟨#[]⟩⟩
def l5 : List Val := [v5, v5, v5]
theorem lt5 : v5.lt v5 = false := Val.lt_irr v5
theorem ref0 : refE 0 l5 = 0 := by decide +kernel
theorem ref1 : refE 1 l5 = 0 := by decide +kernel
theorem ref2 : refE 2 l5 = 0 := by decide +kernel
theorem ref3 : refE 3 l5 = 0 := by decide +kernel
theorem ref4 : refE 4 l5 = 0 := by decide +kernel
theorem runs5 : encR 1 l5 = [3, 2, 0, 0, 0, 0, 0, 0, 0, 5] := by decide +kernel
theorem tk5 : tkV [2, 0, 0, 0, 0, 0, 0, 0, 5] = (v5, 9) := by kernel_rfl
theorem len0 : (encR 0 l5).length = 27 := by decide +kernel
theorem len4 : (encR 4 l5).length = 9 := by decide +kernel
theorem gB0 : gB 0 = [0] := by rw [gB_lo (by omega)]; rfl
theorem len2 : (encR 2 l5).length = 10 := by
  have e : encR 2 l5 = deltaB l5 := by
    unfold encR
    rw [if_pos ⟨ref2, by decide⟩]
    rfl
  rw [e]
  unfold deltaB
  have e1 : dlt l5 (l5.length - 1) = [0, 0] := by
    show dlt l5 2 = _
    rw [dlt_succ, dlt_succ]
    have z0 : (zig (dz l5 0)).toNat = 0 := by decide +kernel
    have z1 : (zig (dz l5 1)).toNat = 0 := by decide +kernel
    rw [z0, z1, gB0]
    rfl
  rw [e1]
  simp [be_length]
theorem sort5 : sortV l5 = l5 := (sortV_of l5 l5 (by decide +kernel) (List.Perm.refl _) (by
  have h := lt5
  simp [l5, h])).symm
theorem uniq5 : uniq l5 = [v5] := by
  unfold uniq
  rw [sort5]
  have e : v5.eqv v5 = true := eqv_iff.2 rfl
  show cptTo l5 3 = _
  rw [cptTo_same l5 2 (by omega) e, cptTo_same l5 1 (by omega) e, cptTo_new l5 0 (.inl rfl)]
  rfl
theorem len3 : (encR 3 l5).length = 10 := by
  have e : encR 3 l5 = dictB l5 := by
    unfold encR
    rw [if_pos ⟨ref3, by decide⟩]
    rfl
  rw [e]
  unfold dictB
  rw [uniq5]
  simp only [List.length_append, packB_length, plcs_length]
  decide +kernel
theorem best5 : bestV l5 = 4 := by
  have l1 : (encR 1 l5).length = 10 := by rw [runs5]; rfl
  unfold bestV
  have b1 : bT l5 1 = (0, 27) := by
    rw [bT, if_pos ⟨ref0, .inl (by decide)⟩]
    show ((0 : Int), ((encR 0 l5).length : Int)) = _
    rw [len0]; rfl
  have b2 : bT l5 2 = (1, 10) := by
    rw [bT, b1, if_pos ⟨ref1, .inr (by show ((encR 1 l5).length : Int) < _; rw [l1]; decide)⟩]
    show ((1 : Int), ((encR 1 l5).length : Int)) = _
    rw [l1]; rfl
  have b3 : bT l5 3 = (1, 10) := by
    rw [bT, b2, if_neg]
    rintro ⟨_, h | h⟩
    · revert h; decide
    · have h' : ((encR 2 l5).length : Int) < 10 := h
      rw [len2] at h'; omega
  have b4 : bT l5 4 = (1, 10) := by
    rw [bT, b3, if_neg]
    rintro ⟨_, h | h⟩
    · revert h; decide
    · have h' : ((encR 3 l5).length : Int) < 10 := h
      rw [len3] at h'; omega
  have b5 : bT l5 5 = (4, 9) := by
    rw [bT, b4, if_pos ⟨ref4, .inr (by show ((encR 4 l5).length : Int) < _; rw [len4]; decide)⟩]
    show ((4 : Int), ((encR 4 l5).length : Int)) = _
    rw [len4]; rfl
  rw [b5]
theorem tkr5 : tkR 3 [] [3, 2, 0, 0, 0, 0, 0, 0, 0, 5] = some l5 := by
  rw [tkR_cons (by decide), tk5]
  rw [if_neg (by decide)]
  rw [tkR_done (by decide)]
  rfl
theorem dec5 : decE 1 [3, 2, 0, 0, 0, 0, 0, 0, 0, 5] 3 (okV (tkR 3 [] [3, 2, 0, 0, 0, 0, 0, 0, 0, 5])) = (l5, 0) := by
  rw [tkr5]
  show decE 1 _ 3 (l5, true) = _
  unfold decE
  rw [if_pos ⟨rfl, rfl, ref1, runs5⟩]
end Go.Proofs.YtpekgpgfdiffcaaGreat
end

section
namespace Go.Proofs.YtpekgpgfdiffcaaGreat
open Go.RowKit Go.Hay
set_option linter.unusedVariables false
set_option linter.unusedSimpArgs false

theorem see5 (w : World) (t : TypeId) : VE.See (w.alloc (.cells #[.int .i64 2, .bool false, .int .i64 5, .string ⟨#[]⟩, .int .i64 2, .bool false, .int .i64 5, .string ⟨#[]⟩, .int .i64 2, .bool false, .int .i64 5, .string ⟨#[]⟩] t)) (some ⟨w.heap.size, 0, none⟩) l5 := by
  refine .inr ⟨_, 0, rfl, fun j u hu => ?_⟩
  have e : (w.alloc (.cells #[.int .i64 2, .bool false, .int .i64 5, .string ⟨#[]⟩, .int .i64 2, .bool false, .int .i64 5, .string ⟨#[]⟩, .int .i64 2, .bool false, .int .i64 5, .string ⟨#[]⟩] t)).cell? ⟨w.heap.size, 0 + j, none⟩ = _ := World.cell?_alloc_new w _ _ (0 + j)
  rw [e, Nat.zero_add]
  simpa [El.cs, VE, l5, v5] using hu
set_option maxHeartbeats 4000000 in
set_option maxRecDepth 100000 in
theorem cAlive (w : World) : Calls Tryz.prog 6 #[] w fun e w' => e = .returned (.bool true) ∧ Kp [] w w' := by
  have hs := see5 w 38
  obtain ⟨Y, hY⟩ : ∃ Y, w.alloc (.cells #[.int .i64 2, .bool false, .int .i64 5, .string ⟨#[]⟩, .int .i64 2, .bool false, .int .i64 5, .string ⟨#[]⟩, .int .i64 2, .bool false, .int .i64 5, .string ⟨#[]⟩] 38) = Y := ⟨_, rfl⟩
  rw [hY] at hs
  have kY : Kp [] w Y := by rw [← hY]; exact (Kp.refl _ _).alloc _
  have cE : Calls Tryz.prog 10 #[.int .i64 1, .slice (some ⟨w.heap.size, 0, none⟩) 3 3] Y (EncP 1 l5 Y) := cEncE 1 (some ⟨w.heap.size, 0, none⟩) 3 l5 Y (seeV.1 hs) (by decide) (by decide)
  unfold EncP at cE
  rw [ref1, runs5] at cE
  have hs' := hid hs
  clear hs
  go_enter Tryz.func6, Tryz.ntmps6
  go_wp2_with fail
  refine cE.mono ?_
  rintro e w1 ⟨b, c, rfl, hrow, k1, hn1⟩
  have kw1 := kY.trans k1 (by simp)
  have hcc : 10 ≤ c ∧ c ≤ maxLen ∧ Sees w1 b [3, 2, 0, 0, 0, 0, 0, 0, 0, 5] := by
    obtain ⟨_, _, e, h1, _⟩ := hrow.sees
    injection e with e1 e2 e3
    rcases hrow with ⟨_, h⟩ | ⟨g9, o9, cap, e, hl9, hm9, _⟩
    · cases h
    · injection e with e4 e5 e6
      rw [e6, e1]
      exact ⟨hl9, hm9, h1⟩
  obtain ⟨hc1, hc2, hsb⟩ := hcc
  obtain ⟨g, o, rfl, hcb⟩ : ∃ g o, b = some ⟨g, o, none⟩ ∧ ∀ j u, ([3, 2, 0, 0, 0, 0, 0, 0, 0, 5] : List UInt8)[j]? = some u → w1.cell? ⟨g, o + j, none⟩ = some (.int .u8 u.toNat) := by
    rcases hsb with h | h
    · cases h
    · exact h
  have hb0 : w1.cell? ⟨g, o, none⟩ = some (.int .u8 3) := hcb 0 3 rfl
  have cD : Calls Tryz.prog 4 #[.int .i64 1, .slice (some ⟨g, o, none⟩) 10 c, .int .i64 3] w1 (DecP w1 (decE 1 [3, 2, 0, 0, 0, 0, 0, 0, 0, 5] 3 (okV (tkR 3 [] [3, 2, 0, 0, 0, 0, 0, 0, 0, 5])))) := cDecE 1 (some ⟨g, o, none⟩) c [3, 2, 0, 0, 0, 0, 0, 0, 0, 5] 3 _ w1 rfl hsb (by omega) (cTake1 (some ⟨g, o, none⟩) c [3, 2, 0, 0, 0, 0, 0, 0, 0, 5] 3 w1 hsb hc1 hc2 (by decide) (by omega) (by omega))
  rw [dec5] at cD
  clear hrow hsb hcb hn1 cE hc1 hc2
  simp only [List.length_cons, List.length_nil] at *
  go_wp2_with fail
  refine cD.mono ?_
  rintro e w2 ⟨a2, c2, rfl, _, k2, _⟩
  have hb2 := kpAt k2 hb0
  have cB : Calls Tryz.prog 18 #[.slice (some ⟨w.heap.size, 0, none⟩) 3 3] w2 fun e w' => e = .returned (.int .i64 (bestV l5)) ∧ Kp [] w2 w' := cBest (some ⟨w.heap.size, 0, none⟩) 3 l5 w2 (seeV.1 (hs'.out.keptNew (k1.trans k2 (by simp)))) (by decide) (by decide)
  rw [best5] at cB
  have kw2 := kw1.trans k2 (by simp)
  have hl5 : l5.length = 3 := rfl
  rw [hl5]
  clear hb0 cD hs'
  go_wp2_with fail
  refine cB.mono ?_
  rintro e w3 ⟨rfl, k3⟩
  go_wp2_with fail
  go_ret
  exact ⟨rfl, kw2.trans k3 (by simp)⟩
end Go.Proofs.YtpekgpgfdiffcaaGreat
end

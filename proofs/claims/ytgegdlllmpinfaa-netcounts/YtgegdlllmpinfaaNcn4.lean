/- NetCounts: a round of the first loop, by the call's kind. -/
import Derived.Test.YtgegdlllmpinfaaNcn3
namespace Go.Proofs.Ytgegdlllmpinfaa
open Go.RowKit Go.Hay
set_option linter.unusedVariables false
set_option linter.unusedSimpArgs false

def RestI (w5 : World) (vr : Value) (lr : List Bs) (w : World) : Prop := Kp [] w5 w ∧ BsE.Row w vr lr ∧ (∀ k ∈ own vr, w5.heap.size ≤ k) ∧ ∀ x ∈ lr, x.ok w ∧ Off (own vr) x
theorem RestI.add {w5 w w1 w' : World} {vr vr' : Value} {lr lr' : List Bs} {y : Bs} (h : RestI w5 vr lr w) (k1 : Kp [] w w1) (hy : y.ok w1) (hn : ∀ k ∈ blk y.a, w.heap.size ≤ k) (hl : lr' = lr ++ [y]) (hr : BsE.Row w' vr' lr') (hk : Kp (own vr) w1 w') (hv : ∀ k ∈ own vr', k ∈ own vr ∨ w1.heap.size ≤ k) : RestI w5 vr' lr' w' := by
  obtain ⟨h1, h2, h3, h4⟩ := h
  subst hl
  refine ⟨(h1.trans k1 (by simp)).trans hk (fun x hx => .inr (h3 x hx)), hr, fun k hk' => ?_, fun x hx => ?_⟩
  · rcases hv k hk' with h | h
    · exact h3 k h
    · have := h1.size; have := k1.size; omega
  · rcases List.mem_append.1 hx with h | h
    · exact ((h4 x h).1.keptNew k1).step (h4 x h).2 hk hv
    · rw [List.mem_singleton] at h
      subst h
      exact hy.step (offNew h2.lt hn) hk hv
theorem map_take_snoc {lr : List Bs} {n : Nt} {j : Nat} {y : Bs} {m : Msg} (h : lr.map Bs.bs = (n.l.take j).map Msg.body) (hm : n.l[j]? = some m) (hy : y.bs = m.body) : (lr ++ [y]).map Bs.bs = (n.l.take (j + 1)).map Msg.body := by
  have hj := (List.getElem?_eq_some_iff.1 hm).1
  have he := (List.getElem?_eq_some_iff.1 hm).2
  rw [List.take_succ_eq_append_getElem hj, List.map_append, List.map_append, h, he]
  simp [hy]
set_option maxHeartbeats 8000000 in
set_option maxRecDepth 100000 in
theorem countsWalk (room : Int) (a : Option Addr) (c : Nat) (s : List NOp) (W : World) (hs : NOpE.See W a s) (hok : ∀ x ∈ s, x.ok W) (hfew : ∀ x ∈ s, FewO x) (hl : s.length ≤ 3000000000000) :
    Calls Try.prog 3 #[.int .i64 room, .slice a s.length c] W (fun e W' => e = .returned (.bool true) ∧ Kp [] W W') := by
  go_enter Try.func3, Try.ntmps3
  go_wp2_with fail
  refine (cBegun room W).mono ?_
  rintro e w1 ⟨p, rfl, hN1, k1, hp⟩
  have I0 : CntR W p w1 (.slice none 0 0) (.slice none 0 0) (.slice none 0 0) [] [] ⟨room, []⟩ 0 :=
    ⟨⟨hN1, El.Row.nil _, El.Row.nil _, by simp, by simp, k1, by intro k hk; rcases mem_foot3.1 hk with h | h | h | h <;> first | omega | simp [own, Value.ownBlock] at h, by simp [own, Value.ownBlock], by simp [own, Value.ownBlock], by simp [own, Value.ownBlock]⟩, List.Perm.refl _, by intro m hm; simp at hm, by simp, by simp, by simp⟩
  clear hN1 k1
  go_wp2_with fail
  go_loopw [7, 8, 33] (fun vi vo i wn => ∃ (j : Nat) (v : Value) (li lo : List Bs) (n : Nt), j ≤ s.length ∧ i = .int .i64 j ∧ CntR W p wn v vi vo li lo n j) (fun _ _ i _ => s.length - (intOf i).toNat)
  case atStart => exact ⟨0, _, [], [], _, Nat.zero_le _, rfl, I0⟩
  case round =>
    clear I0
    obtain ⟨j, v, li, lo, n, hj, rfl, R⟩ := hrel
    have hla := R.a
    have hlb := R.b
    have hlc := R.c
    by_cases hjl : j < s.length
    · obtain ⟨x, hx⟩ : ∃ x, s[j]? = some x := ⟨s[j], by simp [hjl]⟩
      have hxm := List.mem_of_getElem? hx
      obtain ⟨g, o, rfl, x0, x1, x2, x3⟩ := opAt (hs.keptNew R.I.kp) hx
      obtain ⟨wb, hwb⟩ : ∃ wb, wr.alloc (.cells #[.int .i64 x.kind, .int .i64 x.to, .int .i64 x.n, .slice x.raw.a x.raw.bs.length x.raw.c] 29) = wb := ⟨_, rfl⟩
      have kb : Kp [] wr wb := by rw [← hwb]; exact (Kp.refl _ _).alloc _
      have y0 : wb.cell? ⟨wr.heap.size, 0, none⟩ = some (.int .i64 x.kind) := by rw [← hwb]; exact World.cell?_alloc_new wr _ _ 0
      have y1 : wb.cell? ⟨wr.heap.size, 1, none⟩ = some (.int .i64 x.to) := by rw [← hwb]; exact World.cell?_alloc_new wr _ _ 1
      have y2 : wb.cell? ⟨wr.heap.size, 2, none⟩ = some (.int .i64 x.n) := by rw [← hwb]; exact World.cell?_alloc_new wr _ _ 2
      have y3 : wb.cell? ⟨wr.heap.size, 3, none⟩ = some (.slice x.raw.a x.raw.bs.length x.raw.c) := by rw [← hwb]; exact World.cell?_alloc_new wr _ _ 3
      have hqb : wr.heap.size < wb.heap.size := by rw [← hwb]; simp
      have hltF := R.I.lt
      have Ib := (R.I.keep kb).1
      have a1 := cAt Ib.net R.sm (by omega) x.n
      have hwb' := hid hwb
      clear hwb hx
      go_wp2_with fail
      rw [hwb'.out]
      go_wp2_with fail
      refine a1.mono ?_
      intro e w2 he
      obtain ⟨t, y, is, rfl, k2, his, hy, hyn, hyb⟩ := atShape he
      have I2 := (Ib.keep k2).1
      have q0 : w2.cell? ⟨wr.heap.size, 0, none⟩ = some (.int .i64 x.kind) := (k2.cell (p := ⟨wr.heap.size, 0, none⟩) hqb (by simp)).trans y0
      have q1 : w2.cell? ⟨wr.heap.size, 1, none⟩ = some (.int .i64 x.to) := (k2.cell (p := ⟨wr.heap.size, 1, none⟩) hqb (by simp)).trans y1
      have q2 : w2.cell? ⟨wr.heap.size, 2, none⟩ = some (.int .i64 x.n) := (k2.cell (p := ⟨wr.heap.size, 2, none⟩) hqb (by simp)).trans y2
      have q3 : w2.cell? ⟨wr.heap.size, 3, none⟩ = some (.slice x.raw.a x.raw.bs.length x.raw.c) := (k2.cell (p := ⟨wr.heap.size, 3, none⟩) hqb (by simp)).trans y3
      have hq2 : wr.heap.size < w2.heap.size := by have := k2.size; omega
      have hoff : Off (foot3 p v u7 u8) y := offNew (w := wb) (fun k hk => Ib.lt k hk) hyn
      have hxo := (hok x hxm).raw.keptNew I2.kp
      have hxf : Off (foot3 p v u7 u8) x.raw := offOld I2.nw (hok x hxm).raw
      clear a1 he y0 y1 y2 y3 x0 x1 x2 x3
      by_cases hk0 : x.kind = 0
      · have a2 := cSend I2.net (by omega) x.to x.raw.a x.raw.c x.raw.bs hxo.see
        rw [hk0] at q0
        clear hk0
        go_wp2_with fail
        refine a2.mono ?_
        rintro e w3 ⟨v3, rfl, hN3, hW3⟩
        obtain ⟨I3, st3⟩ := I2.chg hN3 hW3
        have hq : wr.heap.size ∉ foot3 p v u7 u8 := fun h => by have := hltF _ h; omega
        have z3 : w3.cell? ⟨wr.heap.size, 3, none⟩ = some (.slice x.raw.a x.raw.bs.length x.raw.c) := (st3.kp.cell (p := ⟨wr.heap.size, 3, none⟩) hq2 hq).trans q3
        obtain ⟨hxo3, hxf3⟩ := hxo.step hxf st3.kp st3.new
        have hsm := smalls_put (m := ⟨x.to, x.raw.bs⟩) R.sm (by have := hfew x hxm; unfold FewO Few at this; simp only; omega)
        have hlp := len_put n ⟨x.to, x.raw.bs⟩
        by_cases hr : n.room ≤ (n.l.length : Int)
        · have e2 : putN n ⟨x.to, x.raw.bs⟩ = (n, 50) := by unfold putN; rw [if_pos hr]
          rw [e2] at I3 hsm hlp ⊢
          have hR : Hid (CntR W p w3 v3 u7 u8 li lo n (j + 1)) := ⟨I3, R.ev, hsm, by omega, by omega, by omega⟩
          clear I3 hN3 hW3 a2
          go_wp2_with fail
          exact ⟨⟨j + 1, v3, li, lo, n, by omega, by go_num, hR.out⟩, by simp [intOf]; omega⟩
        · have e2 : putN n ⟨x.to, x.raw.bs⟩ = ({ n with l := n.l ++ [⟨x.to, x.raw.bs⟩] }, 0) := by unfold putN; rw [if_neg (by omega)]
          rw [e2] at I3 hsm hlp ⊢
          have hrow := I3.ri
          have hI3 := hid I3
          clear I3 hN3 hW3 a2
          go_wp2_with (first | (refine wpAppB rfl _ _ rfl _ li rfl hrow x.raw _ rfl rfl (by omega) ?_; intro l5 a5 c5 w5 hl5 hr5 k5 n5) | fail)
          have hR : Hid (CntR W p w5 v3 (.slice a5 l5.length c5) u8 l5 lo { n with l := n.l ++ [⟨x.to, x.raw.bs⟩] } (j + 1)) :=
            ⟨hI3.out.addI hxo3 hxf3 hl5.out hr5 k5 n5, by rw [hl5.out]; exact even_put R.ev, hsm, by rw [hl5.out]; simp; omega, by omega, by simp; omega⟩
          clear hr5 k5 n5
          go_wp2_with fail
          exact ⟨⟨j + 1, v3, l5, lo, _, by omega, by go_num, hR.out⟩, by simp [intOf]; omega⟩
      by_cases hk2 : x.kind = 2
      · have a2 := cTake I2.net R.sm (by omega) x.n
        rw [hk2] at q0
        clear hk2 hk0
        go_wp2_with fail
        refine a2.mono ?_
        intro e w3 he
        obtain ⟨v3, t3, y3, is3, rfl, hN3, hW3, his3, hy3, hyn3, hyb3⟩ := takeShape he
        obtain ⟨I3, st3⟩ := I2.chg hN3 hW3
        have hsm := smalls_drop x.n R.sm
        have hld := len_drop n x.n
        have hoff3 : Off (foot3 p v3 u7 u8) y3 := fun hb k hk hf => by
          obtain ⟨h1, h2⟩ := hyn3 k hk
          rcases mem_foot3.1 hf with h | h | h | h
          · exact h2 (by simp [h])
          · exact h2 (by simp [h])
          · have := I2.ri.lt k h; omega
          · have := I2.ro.lt k h; omega
        cases hat : atN n x.n with
        | none =>
          rw [hat] at his3
          obtain rfl : is3 = false := his3.out
          have hdn : dropN n x.n = n := by
            unfold dropN
            split
            · have := atN_none hat; rw [List.eraseIdx_of_length_le (by omega)]
            · rfl
          rw [hdn] at I3 hsm
          have hR : Hid (CntR W p w3 v3 u7 u8 li lo n (j + 1)) := ⟨I3, R.ev, hsm, by omega, by omega, by omega⟩
          clear I3 hN3 hW3 a2 he his3 hat hdn
          go_wp2_with fail
          exact ⟨⟨j + 1, v3, li, lo, n, by omega, by go_num, hR.out⟩, by simp [intOf]; omega⟩
        | some m =>
          rw [hat] at his3
          obtain rfl : is3 = true := his3.out
          obtain ⟨k, hk, hm, hkl⟩ := atN_some hat
          have hev := even_drop (x := y3) R.ev hm (hyb3 m hat)
          rw [hk, dropN_nat] at I3 hsm hld
          have hrow := I3.ro
          have hI3 := hid I3
          clear I3 hN3 hW3 a2 he his3 hat hk hm
          go_wp2_with (first | (refine wpAppB rfl _ _ rfl _ lo rfl hrow y3 _ rfl rfl (by omega) ?_; intro l5 a5 c5 w5 hl5 hr5 k5 n5) | fail)
          have hR : Hid (CntR W p w5 v3 u7 (.slice a5 l5.length c5) li l5 { n with l := n.l.eraseIdx k } (j + 1)) :=
            ⟨hI3.out.addO hy3 hoff3 hl5.out hr5 k5 n5, by rw [hl5.out]; exact hev, hsm, by omega, by rw [hl5.out]; simp; omega, by simp only at hld ⊢; omega⟩
          clear hr5 k5 n5
          go_wp2_with fail
          exact ⟨⟨j + 1, v3, li, l5, _, by omega, by go_num, hR.out⟩, by simp [intOf]; omega⟩
      by_cases hk3 : x.kind = 3
      · have a2 := cDrop I2.net (by omega) x.n
        rw [← his.out] at a2
        rw [hk3] at q0
        clear hk3 hk2 hk0
        go_wp2_with fail
        refine a2.mono ?_
        rintro e w3 ⟨v3, rfl, hN3, hW3⟩
        obtain ⟨I3, st3⟩ := I2.chg hN3 hW3
        have hsm := smalls_drop x.n R.sm
        have hld := len_drop n x.n
        obtain ⟨hy3, hoff3⟩ := hy.step hoff st3.kp st3.new
        cases hat : atN n x.n with
        | none =>
          rw [hat] at his
          obtain rfl : is = false := his.out
          have hdn : dropN n x.n = n := by
            unfold dropN
            split
            · have := atN_none hat; rw [List.eraseIdx_of_length_le (by omega)]
            · rfl
          rw [hdn] at I3 hsm
          have hR : Hid (CntR W p w3 v3 u7 u8 li lo n (j + 1)) := ⟨I3, R.ev, hsm, by omega, by omega, by omega⟩
          clear I3 hN3 hW3 a2 his hat hdn
          go_wp2_with fail
          exact ⟨⟨j + 1, v3, li, lo, n, by omega, by go_num, hR.out⟩, by simp [intOf]; omega⟩
        | some m =>
          rw [hat] at his
          obtain rfl : is = true := his.out
          obtain ⟨k, hk, hm, hkl⟩ := atN_some hat
          have hev := even_drop (x := y) R.ev hm (hyb m hat)
          rw [hk, dropN_nat] at I3 hsm hld
          have hrow := I3.ro
          have hI3 := hid I3
          clear I3 hN3 hW3 a2 his hat hk hm
          go_wp2_with (first | (refine wpAppB rfl _ _ rfl _ lo rfl hrow y _ rfl rfl (by omega) ?_; intro l5 a5 c5 w5 hl5 hr5 k5 n5) | fail)
          have hR : Hid (CntR W p w5 v3 u7 (.slice a5 l5.length c5) li l5 { n with l := n.l.eraseIdx k } (j + 1)) :=
            ⟨hI3.out.addO hy3 hoff3 hl5.out hr5 k5 n5, by rw [hl5.out]; exact hev, hsm, by omega, by rw [hl5.out]; simp; omega, by simp only at hld ⊢; omega⟩
          clear hr5 k5 n5
          go_wp2_with fail
          exact ⟨⟨j + 1, v3, li, l5, _, by omega, by go_num, hR.out⟩, by simp [intOf]; omega⟩
      by_cases hk4 : x.kind = 4
      · have a2 := cDouble I2.net (by omega) x.n
        rw [hk4] at q0
        clear hk4 hk3 hk2 hk0
        go_wp2_with fail
        refine a2.mono ?_
        rintro e w3 ⟨v3, rfl, hN3, hW3⟩
        obtain ⟨I3, st3⟩ := I2.chg hN3 hW3
        obtain ⟨hy3, hoff3⟩ := hy.step hoff st3.kp st3.new
        have no : ∀ z : Int, z ≠ 0 → dblN n x.n = (n, z) → CntR W p w3 v3 u7 u8 li lo n (j + 1) := fun z _ h => by
          rw [h] at I3
          exact ⟨I3, R.ev, R.sm, by omega, by omega, by omega⟩
        cases hat : atN n x.n with
        | none =>
          have e2 : dblN n x.n = (n, 51) := by unfold dblN; rw [hat]
          have hR := hid (no 51 (by decide) e2)
          rw [e2]
          clear I3 hN3 hW3 a2 his hat no e2
          go_wp2_with fail
          exact ⟨⟨j + 1, v3, li, lo, n, by omega, by go_num, hR.out⟩, by simp [intOf]; omega⟩
        | some m =>
          by_cases hr : n.room ≤ (n.l.length : Int)
          · have e2 : dblN n x.n = (n, 50) := by unfold dblN; rw [hat]; unfold putN; simp only; rw [if_pos hr]
            have hR := hid (no 50 (by decide) e2)
            rw [e2]
            clear I3 hN3 hW3 a2 his hat no e2
            go_wp2_with fail
            exact ⟨⟨j + 1, v3, li, lo, n, by omega, by go_num, hR.out⟩, by simp [intOf]; omega⟩
          · have e2 : dblN n x.n = ({ n with l := n.l ++ [m] }, 0) := by unfold dblN; rw [hat]; unfold putN; simp only; rw [if_neg (by omega)]
            have hyb' := hid (hyb m hat)
            obtain ⟨k, hk, hm, hkl⟩ := atN_some hat
            have hsm : Smalls { n with l := n.l ++ [m] } := fun z hz => by
              rcases List.mem_append.1 hz with h1 | h1
              · exact R.sm z h1
              · rw [List.mem_singleton] at h1; subst h1; exact R.sm z (List.mem_of_getElem? hm)
            have hev : Even (li ++ [y]) lo { n with l := n.l ++ [m] } := by
              have := even_put (x := y) (to := m.to) R.ev
              rw [hyb'.out] at this
              exact this
            rw [e2] at I3 ⊢
            have hrow := I3.ri
            have hI3 := hid I3
            clear I3 hN3 hW3 a2 his hat no e2 hk hm
            go_wp2_with (first | (refine wpAppB rfl _ _ rfl _ li rfl hrow y _ rfl rfl (by omega) ?_; intro l5 a5 c5 w5 hl5 hr5 k5 n5) | fail)
            have hR : Hid (CntR W p w5 v3 (.slice a5 l5.length c5) u8 l5 lo { n with l := n.l ++ [m] } (j + 1)) :=
              ⟨hI3.out.addI hy3 hoff3 hl5.out hr5 k5 n5, by rw [hl5.out]; exact hev, hsm, by rw [hl5.out]; simp; omega, by omega, by simp; omega⟩
            clear hr5 k5 n5
            go_wp2_with fail
            exact ⟨⟨j + 1, v3, l5, lo, _, by omega, by go_num, hR.out⟩, by simp [intOf]; omega⟩
      have hR : Hid (CntR W p w2 v u7 u8 li lo n (j + 1)) := ⟨I2, R.ev, R.sm, by omega, by omega, by omega⟩
      clear I2 Ib
      go_wp2_with fail
      exact ⟨⟨j + 1, v, li, lo, n, by omega, by go_num, hR.out⟩, by simp [intOf]; omega⟩
    · obtain rfl : j = s.length := by omega
      have I := R.I
      have a3 := cLen I.net
      clear hs
      go_wp2_with fail
      refine a3.mono ?_
      rintro e w3 ⟨rfl, rfl⟩
      clear a3
      have hr0 : RestI w3 (.slice none 0 0) [] w3 := ⟨Kp.refl _ _, El.Row.nil _, by simp [own, Value.ownBlock], by simp⟩
      obtain ⟨ai, ci, rfl, hsi, _, hci, _, _⟩ := I.ri.see
      obtain ⟨ao, co, rfl, hso, _, hco, _, _⟩ := I.ro.see
      go_wp2_with fail
      go_loopw [17, 103] (fun vr i wn => ∃ (j : Nat) (lr : List Bs), j ≤ n.l.length ∧ i = .int .i64 j ∧ RestI w3 vr lr wn ∧ Hid (lr.map Bs.bs = (n.l.take j).map Msg.body)) (fun _ i _ => n.l.length - (intOf i).toNat)
      case atStart => exact ⟨0, [], Nat.zero_le _, rfl, hr0, rfl⟩
      case round =>
        clear hr0
        obtain ⟨j, lr, hj, rfl, hr, hm⟩ := hrel
        have hlr : lr.length = j := by have := congrArg List.length hm.out; simp at this; omega
        by_cases hjn : j < n.l.length
        · obtain ⟨m, hmj⟩ : ∃ m, n.l[j]? = some m := ⟨n.l[j], by simp [hjn]⟩
          have kr := hr.1
          have a4 := cAt (I.net.keptNew kr) R.sm (by omega) (j : Int)
          rw [atN_nat, hmj] at a4
          go_wp2_with fail
          refine a4.mono ?_
          intro e w5 he
          obtain ⟨t, y, is, rfl, k5, his, hy, hyn, hyb⟩ := atShape he
          have hyb' := hid (hyb m rfl)
          have hrow := hr.2.1.keptNew k5
          clear he a4 hyb
          go_wp2_with (first | (refine wpAppB rfl _ _ rfl _ lr rfl hrow y _ rfl rfl (by omega) ?_; intro l6 a6 c6 w6 hl6 hr6 k6 n6) | fail)
          have hR := hid (hr.add k5 hy hyn hl6.out hr6 k6 n6)
          have hM : Hid (l6.map Bs.bs = (n.l.take (j + 1)).map Msg.body) := by rw [hl6.out]; exact map_take_snoc hm.out hmj hyb'.out
          clear hr6 k6 n6 hrow hmj
          go_wp2_with fail
          exact ⟨⟨j + 1, l6, by omega, by go_num, hR.out, hM.out⟩, by simp [intOf]; omega⟩
        · obtain rfl : j = n.l.length := by omega
          have hm' := hm.out
          rw [List.take_length] at hm'
          obtain ⟨kr, hrr, hrn, hrx⟩ := hr
          obtain ⟨ar, cr, e17, hsr, _, hcr, _, _⟩ := hrr.see
          subst e17
          have hcnt := fun b => even_cnt R.ev hm' b
          have hlen := hid (even_len R.ev)
          have hlr' := hid hlr
          have hlr6 : lr.length ≤ 6000000000000 := by omega
          clear hlr
          have hmh := hid hm'
          clear hm' hm
          obtain ⟨w9, e9⟩ : ∃ w9, w9 = wr := ⟨_, rfl⟩
          subst e9
          have kw9 : Kp [] W w9 := I.kp.trans kr (by simp)
          have hcl := hid hcnt
          clear hcnt
          go_wp2_with fail
          go_loopw [120] (fun i wn => ∃ (j : Nat), j ≤ li.length ∧ i = .int .i64 j ∧ Kp [] w9 wn) (fun i _ => li.length - (intOf i).toNat)
          case atStart => exact ⟨0, Nat.zero_le _, rfl, Kp.refl _ _⟩
          case round =>
            obtain ⟨j, hj, rfl, kn⟩ := hrel
            by_cases hji : j < li.length
            · obtain ⟨x, hx⟩ : ∃ x, li[j]? = some x := ⟨li[j], by simp [hji]⟩
              have hxm := List.mem_of_getElem? hx
              have kk := kr.trans kn (by simp)
              obtain ⟨g, o, rfl, cx⟩ := bsAt (hsi.keptNew kk) hx
              have b1 := cCount (some ⟨g, o, none⟩) ci li x wr (hsi.keptNew kk) (fun y hy => (I.xi y hy).1.keptNew kk) ((I.xi x hxm).1.keptNew kk) (by omega)
              clear hx
              go_wp2_with fail
              refine b1.mono ?_
              rintro e w10 ⟨rfl, k10⟩
              have kk10 := kk.trans k10 (by simp)
              have b2 := cCount ao co lo x w10 (hso.keptNew kk10) (fun y hy => (I.xo y hy).1.keptNew kk10) ((I.xi x hxm).1.keptNew kk10) (by omega)
              go_wp2_with fail
              refine b2.mono ?_
              rintro e w11 ⟨rfl, k11⟩
              have kk11 := kk10.trans k11 (by simp)
              have kn11 := (kn.trans k10 (by simp)).trans k11 (by simp)
              have b3 := cCount ar cr lr x w11 (hsr.keptNew kn11) (fun y hy => (hrx y hy).1.keptNew kn11) ((I.xi x hxm).1.keptNew kk11) hlr6
              go_wp2_with fail
              refine b3.mono ?_
              rintro e w12 ⟨rfl, k12⟩
              have kn12 := kn11.trans k12 (by simp)
              have hc := hcl.out x.bs
              have h1 := cntL_le li x.bs
              obtain ⟨z1, hz1⟩ : ∃ z, z = cntL li x.bs := ⟨_, rfl⟩
              obtain ⟨z2, hz2⟩ : ∃ z, z = cntL lo x.bs := ⟨_, rfl⟩
              obtain ⟨z3, hz3⟩ : ∃ z, z = cntL lr x.bs := ⟨_, rfl⟩
              rw [← hz1, ← hz2, ← hz3] at hc
              rw [← hz1] at h1
              rw [← hz1, ← hz2, ← hz3]
              clear b1 b2 b3 hz1 hz2 hz3
              have hc' : ((z2 : Int) + (z3 : Int)) = (z1 : Int) := by omega
              have hw : IntKind.i64.wrap (z1 : Int) = (z1 : Int) := by rw [IntKind.wrap_i64]; omega
              clear hc
              go_wp2_with fail
              exact ⟨⟨j + 1, by omega, by go_num, kn12⟩, by simp [intOf]; omega⟩
            · have kf : Kp [] W wr := kw9.trans kn (by simp)
              have e1 : ((lo.length : Int) + (lr.length : Int)) = (li.length : Int) := by have := hlen.out; have := hlr'.out; omega
              have hw : IntKind.i64.wrap (li.length : Int) = (li.length : Int) := by rw [IntKind.wrap_i64]; omega
              go_wp2_with fail
              go_ret
              exact ⟨rfl, kf⟩
theorem countsWalk' (room : Int) (a : Option Addr) (c : Nat) (s : List NOp) (W : World) (hs : NOpE.See W a s) (hok : ∀ x ∈ s, x.ok W) (hfew : ∀ x ∈ s, FewO x) (hl : s.length ≤ 3000000000000) :
    Calls Try.prog 3 #[.int .i64 room, .slice a s.length c] W (fun e W' => e = .returned (.bool true) ∧ Below W.heap.size W W') :=
  (countsWalk room a c s W hs hok hfew hl).mono fun e W' h => ⟨h.1, h.2.below⟩
end Go.Proofs.Ytgegdlllmpinfaa

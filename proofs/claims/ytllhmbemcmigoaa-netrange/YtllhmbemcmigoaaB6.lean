/- The law's own told: a range over one's messages gives what the reference gives. The law's own step, of a net: a range over one's messages. The law's own step, of a net: all there is is told. The law's own step, of a net: to go on with a clone. The law's own step, of a net: At. -/
import Derived.Test.YtllhmbemcmigoaaB5
import Derived.Test.YtllhmbemcmigoaaB3
section
namespace Go.Proofs.Ytllhmbemcmigoaa
open Go.RowKit Go.Hay
attribute [local go_sem] Oper.semAt_some
set_option linter.unusedVariables false
set_option linter.unusedSimpArgs false

/-- What a call hands back whose one result lies in a box. -/
theorem results_cell_one {fn : Func} {t : Tmp} {tmps : Array Value} {w : World} {g : Nat} {v : Value} (h : fn.results = #[.cell t 4]) (hp : tmps.getD t undef = .pointer (some ⟨g, 0, none⟩)) (hc : w.cell? ⟨g, 0, none⟩ = some v) :
    (results fn tmps).run Try.prog w = .ok v w := by
  have hp' : tmps[t]?.getD undef = .pointer (some ⟨g, 0, none⟩) := by simpa using hp
  simp [results, h, hp', asAddr, loadVar, hc, go_sem]
set_option maxHeartbeats 16000000 in
set_option maxRecDepth 100000 in
theorem cToldL {w : World} {p : Nat} {v : Value} {n : Nt} (hN : Net w p v n) (hB : Smalls n) (hb : n.l.length ≤ 6000000000000) (r : RN) (hr : RnOk w r) (hL : LikeN r n) (to : Int) :
    Calls Try.prog 27 #[.pointer (some ⟨p, 0, none⟩), r.v, .int .i64 to] w fun e w' => e = .returned (.bool true) ∧ Kp [] w w' := by
  have hrl : r.l.length ≤ 6000000000000 := by have := hL.len; omega
  have hbx : ∃ w1, ((w.alloc (.cells #[.int .i64 r.room, .slice r.la r.l.length r.lc] 28)).alloc (.cells #[.bool false] 4)).alloc (.cells #[.slice none 0 0] 75) = w1 ∧ TI w r (.slice none 0 0) (ats n.l to 0) w1 := by
    refine ⟨_, rfl, ⟨(((Kp.refl _ _).alloc _).alloc _).alloc _, ((B2.at _ rfl _ _ _).kept ((Kp.refl _ _).alloc _)).kept ((Kp.refl _ _).alloc _), (B1.at _ (by simp) _ _).kept ((Kp.refl _ _).alloc _), B1.at _ (by simp) _ _, .inl ⟨rfl, rfl⟩, by simp [own, Value.ownBlock]⟩⟩
  obtain ⟨w1, hw1, T1⟩ := hbx
  have hLl : Hid (r.l.map RM.m = n.l) := hL.l
  have hRr : Hid (RnOk w r) := hr
  have hr1 := hr.keptNew T1.kp
  refine (callsIn_wide (n := 8)).1 ?_
  refine callsIn_of_wp_marks Try.func27 rfl trivial ?_ rfl
  simp only [Try.ntmps27, List.size_toArray, List.length_cons, List.length_nil, Nat.reduceAdd, Nat.reduceSub, Array.replicate_succ, Array.replicate_zero, List.push_toArray, List.append_toArray, List.nil_append, List.cons_append]
  obtain ⟨room, la, lc, l⟩ := r
  simp only [RN.v] at *
  have b0 := T1.rb.c0; have b1 := T1.rb.c1
  have hw1' := hid hw1
  clear hw1 hr hL
  refine wpIn_wide.2 ?_
  go_wp2_with fail
  rw [hw1'.out]
  go_wp2_with fail
  go_loopw [17] (fun i wn => ∃ (j : Nat) (va : Value), j ≤ l.length ∧ i = .int .i64 j ∧ TI w ⟨room, la, lc, l⟩ va (ats n.l to j) wn) (fun i _ => l.length - (intOf i).toNat)
  case atStart => exact ⟨0, _, Nat.zero_le _, rfl, T1⟩
  case round =>
    clear b0 b1
    obtain ⟨j, va, hj, rfl, T⟩ := hrel
    obtain ⟨vaa, vac, rfl, _⟩ := T.row.see
    by_cases hjl : j < l.length
    · obtain ⟨x, hx⟩ : ∃ x, l[j]? = some x := ⟨l[j], by simp [hjl]⟩
      have hm : n.l[j]? = some x.m := by rw [← hLl.out, List.getElem?_map, hx]; rfl
      obtain ⟨g, o, ea, c0, c1⟩ := rmAt (hRr.out.keptNew T.kp).see hx
      simp only at ea
      subst ea
      obtain ⟨wb, hwb⟩ : ∃ wb, wr.alloc (.cells #[.int .i64 x.to, .slice x.a x.bs.length x.c] 46) = wb := ⟨_, rfl⟩
      have kb : Kp [] wr wb := by rw [← hwb]; exact (Kp.refl _ _).alloc _
      have bf : B2 wb wr.heap.size (.int .i64 x.to) (.slice x.a x.bs.length x.c) := by rw [← hwb]; exact B2.at _ rfl _ _ _
      have hwb' := hid hwb
      have f0 := bf.c0
      have f1 := bf.c1
      have Tb := T.kept kb
      have bb := Tb.box.c0
      have hal := ats_len n.l to j
      by_cases hto : x.to = to
      · have ha : ats n.l to (j + 1) = ats n.l to j ++ [(j : Int)] := ats_yes (hit_yes hm hto)
        have ha' := hid ha
        have e1 : (x.to == to) = true := by simpa using hto
        obtain ⟨wc, hwc⟩ : ∃ wc, wb.alloc (.cells #[.int .i64 (j : Int)] 3) = wc := ⟨_, rfl⟩
        have kc : Kp [] wb wc := by rw [← hwc]; exact (Kp.refl _ _).alloc _
        have hsee : IntE.See wc (some ⟨wr.heap.size + 1, 0, none⟩) [(j : Int)] := by rw [← hwc]; exact intE_one _ (by rw [← hwb]; simp) _ _
        have hrow := (Tb.kept kc).row
        have hwc' := hid hwc
        have hsr := hsee.src (P := Try.prog) Try.underlying75 1
        obtain ⟨i0, hi, hz0, hz1, hz2⟩ := infoI
        rw [← hwb] at bb
        have hrow1 := hrow
        have hsr1 := hsr
        rw [← hwc, ← hwb] at hrow1 hsr1
        have hst : Hid (∀ ys a' c' w', Hid (ys = ats n.l to j ++ [(j : Int)]) → IntE.Row w' (.slice a' ys.length c') ys → Kp (own (.slice vaa (ats n.l to j).length vac)) wc w' → (∀ k ∈ blk a', k ∈ own (.slice vaa (ats n.l to j).length vac) ∨ wc.heap.size ≤ k) → B1 w' (w.heap.size + 1 + 1) (.slice vaa (ats n.l to j).length vac) ∧ TI w ⟨room, some ⟨g, o, none⟩, lc, l⟩ (.slice a' ys.length c') (ats n.l to (j + 1)) (w'.setCell ⟨w.heap.size + 1 + 1, 0, none⟩ (.slice a' ys.length c'))) := fun ys a' c' w' hy hr hg hn => by
          refine TI.stored T (kb.trans kc (by simp)) ?_ hg (fun k hk => hn k (by rw [own_slice] at hk; exact hk))
          rw [ha'.out, ← hy.out]
          exact hr
        rw [← hwc, ← hwb] at hst
        clear hx hwb hm hto ha hwc
        go_wp2_with (first | (refine wpAppG (E := IntE) rfl _ _ 75 75 3 rfl i0 _ 8 Try.underlying75 hi hz0 hz1 hz2 rfl _ (ats n.l to j) rfl hrow1 _ [(j : Int)] rfl hsr1 (by simp; omega) (by simp; omega) ?_; intro ys a' c' w' hy hrow' hg hn; obtain ⟨bx', TT⟩ := hst.out ys a' c' w' hy hrow' hg hn; have sc0 := bx'.c0; have sf0 := bx'.free) | fail)
        exact ⟨⟨j + 1, _, by omega, by go_num, TT⟩, by simp [intOf]; omega⟩
      · have ha : ats n.l to (j + 1) = ats n.l to j := ats_no (hit_no hm hto)
        have ha' := hid ha
        have e1 : (x.to == to) = false := by simpa using hto
        clear hx hwb hm hto ha
        go_wp2_with fail
        rw [hwb'.out]
        go_wp2_with fail
        exact ⟨⟨j + 1, _, by omega, by go_num, by rw [ha'.out]; exact Tb⟩, by simp [intOf]; omega⟩
    · have ej : j = l.length := by omega
      subst ej
      have hln : l.length = n.l.length := by rw [← hLl.out]; simp
      rw [hln] at T
      obtain ⟨wk, hwk⟩ : ∃ wk, wr.alloc (.cells #[.int .i64 0] 3) = wk := ⟨_, rfl⟩
      have kk : Kp [] wr wk := by rw [← hwk]; exact (Kp.refl _ _).alloc _
      have hzk : wk.heap.size = wr.heap.size + 1 := by rw [← hwk]; simp
      have bk : B1 wk wr.heap.size (.int .i64 0) := by rw [← hwk]; exact B1.at _ rfl _ _
      obtain ⟨wl, hwl⟩ : ∃ wl, (wk.alloc (.cells #[.pointer (some ⟨p, 0, none⟩)] 23)).alloc (.cells #[.int .i64 to] 3) = wl := ⟨_, rfl⟩
      have kl : Kp [] wk wl := by rw [← hwl]; exact ((Kp.refl _ _).alloc _).alloc _
      have hzl : Hid (wl.heap.size = wr.heap.size + 3) := by show _ = _; rw [← hwl]; simp; omega
      have c1 : wl.cell? ⟨wk.heap.size, 0, none⟩ = some (.pointer (some ⟨p, 0, none⟩)) := by rw [← hwl]; exact cell_kp ((Kp.refl _ _).alloc _) (World.cell?_alloc_new wk _ _ 0)
      have c2 : wl.cell? ⟨wk.heap.size + 1, 0, none⟩ = some (.int .i64 to) := by
        rw [← hwl]
        have := World.cell?_alloc_new (wk.alloc (.cells #[.pointer (some ⟨p, 0, none⟩)] 23)) #[.int .i64 to] 3 0
        rwa [World.size_alloc] at this
      have hAT : AtT wk.heap.size (wk.heap.size + 1) p v n to wl := ⟨c1, c2, hN.keptNew ((T.kp.trans kk (by simp)).trans kl (by simp))⟩
      have Tl := (T.kept kk).kept kl
      have hTz := T.size
      have bl := bk.kept kl
      have cto := cTo p to wk
      have hvlt := hN.ltAll
      have hwsz := T.kp.size
      have hT0 : TlI w ⟨room, la, lc, l⟩ n to (.slice vaa (ats n.l to n.l.length).length vac) wr.heap.size wl.heap.size (sT wk.heap.size (wk.heap.size + 1) p v) wl := by
        have hz := hzl.out
        refine ⟨Tl, bl, fun h => (by cases h), fun j hj => .inl ⟨?_, rfl⟩, fun j hj => ?_, fun _ => rfl, fun u hu => (by cases hu)⟩
        · simp only [List.mem_cons] at hj
          rcases hj with rfl | rfl | hj
          · omega
          · omega
          · have := hvlt j (by simpa using hj); omega
        · simp only [List.mem_cons] at hj
          rcases hj with rfl | rfl | hj
          · omega
          · omega
          · have := hvlt j (by simpa using hj); omega
      rw [hwl] at cto
      rw [hzk] at hAT hT0 cto
      have hzk' := hid hzk
      have hln' := hid hln
      have hwk' := hid hwk
      have hwl' := hid hwl
      have hseq := toSeq 7 (by omega) (wr.heap.size + 1) (wr.heap.size + 1 + 1) p v n to wl hAT hB (by omega)
      have hq3 : w.heap.size + 3 ≤ wl.heap.size := by rw [hzl.out]; omega
      have hql : wr.heap.size < wl.heap.size := by rw [hzl.out]; omega
      have hvaq : ∀ k ∈ own (.slice vaa (ats n.l to n.l.length).length vac), k < wr.heap.size := T.row.lt
      rw [← hln] at hvaq
      clear hwk hwl c1 c2 bl bk hzk hln
      go_wp2_with fail
      rw [hwk'.out]
      go_wp2_with fail
      refine cto.mono ?_
      rintro e w' ⟨rfl, rfl⟩
      go_wp2_with fail
      refine (wpIn_wide (n := 8)).1 ?_
      refine wpRangeX rfl (by omega) (gf := 28) (lb := #[.pointer (some ⟨wr.heap.size + 1, 0, none⟩), .pointer (some ⟨wr.heap.size + 1 + 1, 0, none⟩)]) rfl trivial (enters_of Try.func28 (by kernel_rfl) rfl)
        hseq (fun _ => rfl) KeepT.trans (fun s W o => KeepT.alloc s W o) (KeepT.refl _ _)
        (TlI w ⟨room, la, lc, l⟩ n to (.slice vaa (ats n.l to n.l.length).length vac) wr.heap.size w'.heap.size) (fun _ _ _ => False) (TlI.ownF hq3) (fun _ _ _ _ _ h _ _ => h) hT0
        (fun s s' A B h ht k o hk ho => TlI.keeps h.mb ht k o hk ho) (fun _ _ _ _ h => h.elim) (TlI.step hq3) (fun _ _ _ _ h => h.elim)
        (fun s W o' h => TlI.recs h.mb h.js o') (fun s x W o' h => TlI.recs (s := s) h.mb h.js o') (fun _ _ _ _ _ h => h.elim)
        (fun x => { tmps := #[.pointer (some ⟨p, 0, none⟩), .agg #[.int .i64 room, .slice la l.length lc], .int .i64 to, undef, .pointer (some ⟨w.heap.size, 0, none⟩), undef, .pointer (some ⟨w.heap.size + 1, 0, none⟩), .pointer (some ⟨w.heap.size + 1 + 1, 0, none⟩), u8, u9, .pointer (some ⟨wr.heap.size, 0, none⟩), .int .i64 (x.i : Int), x.v, undef, .pointer (some ⟨w.heap.size, 1, none⟩), .slice la l.length lc, .int .i64 (l.length : Int), .int .i64 (l.length : Int), .bool false, u19, u20, u21, u22, u23, u24, u25, u26, u27, u28, u29, u30, .pointer (some ⟨p, 0, none⟩), .int .i64 to, .func (.func 28) #[] #[.pointer (some ⟨wr.heap.size + 1, 0, none⟩), .pointer (some ⟨wr.heap.size + 1 + 1, 0, none⟩)], .int .i64 (x.i : Int), x.v, undef, undef, undef, undef, undef, undef, undef, undef, undef, undef, undef, undef, undef, undef, undef, undef, undef, undef, undef, undef, undef, undef, undef, undef, undef, undef, undef, undef, undef, undef, undef, undef, undef, undef, undef, undef, undef, undef, undef, undef, undef, undef], defers := [] }) ?assign ?body ?done ?stop
      case assign =>
        intro l x W C hC
        gi_wp2_with fail
        exact hC
      case body =>
        rintro ln s x W hI ⟨hxv, hxi, m, hm, hto⟩
        obtain ⟨m', hm', _, hrow, hnew⟩ := hI.gv x.v hxv
        rw [hm] at hm'
        cases hm'
        obtain ⟨i, u⟩ := x
        simp only at hxv hxi hrow hnew
        subst hxi
        obtain ⟨ya, yc, rfl, hsy, _⟩ := hrow.sees
        have hIt := hid hI
        have hti := hI.ti
        have hkb := hI.kb
        obtain ⟨xr, hxr, exr⟩ : ∃ xr, l[s.i]? = some xr ∧ xr.m = m := by
          have := hm
          rw [← hLl.out, List.getElem?_map] at this
          cases h : l[s.i]? with
          | none => rw [h] at this; cases this
          | some y => rw [h] at this; exact ⟨y, rfl, by simpa using this⟩
        have exb : Hid (m.body = xr.bs) := by show _ = _; rw [← exr]; rfl
        have hil : s.i < l.length := (List.getElem?_eq_some_iff.1 hxr).1
        have hR0 := hRr.out.keptNew hti.kp
        obtain ⟨g, o, ea, d0, d1⟩ := rmAt hR0.see hxr
        simp only at ea
        subst ea
        have hraw := hR0.raw xr (List.mem_of_getElem? hxr)
        obtain ⟨hat, hKM⟩ := ats_at hm hto
        obtain ⟨_, _, ev, hsee, _⟩ := hti.row.see
        cases ev
        obtain ⟨g7, o7, e7, hc7⟩ := intE_at hsee hat
        subst e7
        have cv1 := convSees (show Sees W.drew ya m.body from hsy) yc
        have cv2 := convSees (show Sees W.drew xr.a xr.bs from hraw) xr.c
        have hsm := hB m (List.mem_of_getElem? hm)
        rw [exb.out] at cv1 hrow hsm
        rw [exb.out]
        have hk0 := hkb.c0
        have hb7 := hti.box.c0
        have hrb1 := hti.rb.c1
        obtain ⟨K, hK⟩ : ∃ K, Hid (K = (ats n.l to s.i).length) := ⟨_, rfl⟩
        obtain ⟨M, hM⟩ : ∃ M, Hid (M = (ats n.l to n.l.length).length) := ⟨_, rfl⟩
        rw [← hK.out] at hk0 hc7 hKM
        rw [← hM.out] at hb7 hKM
        have hdk : decide (M ≤ K) = false := by simp; omega
        have hS0 : W.drew.cell? ⟨wr.heap.size, 0, none⟩ = some (.int .i64 (K : Int)) ∧ W.drew.cell? ⟨w.heap.size + 1 + 1, 0, none⟩ = some (.slice (some ⟨g7, o7, none⟩) M vac) ∧ W.drew.cell? ⟨g7, o7 + K, none⟩ = some (.int .i64 (s.i : Int)) ∧ W.drew.cell? ⟨w.heap.size, 1, none⟩ = some (.slice (some ⟨g, o, none⟩) l.length lc) ∧ W.drew.cell? ⟨g, o + s.i * 2 + 1, none⟩ = some (.slice xr.a xr.bs.length xr.c) ∧ (convert 37 9 (.slice ya xr.bs.length yc)).run Try.prog W.drew = .ok (.string ⟨xr.bs.toArray⟩) W.drew ∧ (convert 37 9 (.slice xr.a xr.bs.length xr.c)).run Try.prog W.drew = .ok (.string ⟨xr.bs.toArray⟩) W.drew := ⟨hk0, hb7, hc7, hrb1, d1, cv1, cv2⟩
        have kd : Kp [] W W.drew := (Kp.refl _ _).drew
        have hkod : Hid (KeepsOthers W W.drew) := KeepsOthers.drew W
        have hmh := hid hm
        have htoh := hid hto
        have hxvh := hid hxv
        clear cv1 cv2 hk0 hb7 hc7 hrb1 d1 d0 hsee hraw hsy hm hxr hat hto hxv hti hkb hI
        gi_wp2_with fail
        refine region_round (fun A => A.cell? ⟨wr.heap.size, 0, none⟩ = some (.int .i64 (K : Int)) ∧ A.cell? ⟨w.heap.size + 1 + 1, 0, none⟩ = some (.slice (some ⟨g7, o7, none⟩) M vac) ∧ A.cell? ⟨g7, o7 + K, none⟩ = some (.int .i64 (s.i : Int)) ∧ A.cell? ⟨w.heap.size, 1, none⟩ = some (.slice (some ⟨g, o, none⟩) l.length lc) ∧ A.cell? ⟨g, o + s.i * 2 + 1, none⟩ = some (.slice xr.a xr.bs.length xr.c) ∧ (convert 37 9 (.slice ya xr.bs.length yc)).run Try.prog A = .ok (.string ⟨xr.bs.toArray⟩) A ∧ (convert 37 9 (.slice xr.a xr.bs.length xr.c)).run Try.prog A = .ok (.string ⟨xr.bs.toArray⟩) A) (by kernel_rfl) (by kernel_rfl) (by rintro ⟨_, _, hlo⟩; exact hlo) ?_ (fun hHeld => ?_)
        · exact hS0
        generalize W.drew = wd at *
        refine wpAnyH_take (i := 0) (v := ?_) rfl (by kernel_rfl) (by kernel_rfl) (by kernel_rfl) (fun _ _ _ h => h) (Or.inl ⟨by rfl, ?_⟩) (by assumption) ?_
        rotate_left
        · intro w hSw; (try dsimp only at hSw); go_simp <;> with_reducible rfl
        try simp only [Act.put, List.getElem_toArray, List.getElem_cons_zero, List.getElem_cons_succ, List.setIfInBounds_toArray, List.set_cons_zero, List.set_cons_succ]
        refine wpAnyH_take (i := 1) (v := ?_) rfl (by kernel_rfl) (by kernel_rfl) (by kernel_rfl) (fun _ _ _ h => h) (Or.inl ⟨by rfl, ?_⟩) (by assumption) ?_
        rotate_left
        · intro w hSw; (try dsimp only at hSw); go_simp <;> with_reducible rfl
        try simp only [Act.put, List.getElem_toArray, List.getElem_cons_zero, List.getElem_cons_succ, List.setIfInBounds_toArray, List.set_cons_zero, List.set_cons_succ]
        refine wpAnyH_take (i := 2) (v := ?_) rfl (by kernel_rfl) (by kernel_rfl) (by kernel_rfl) (fun _ _ _ h => h) (Or.inl ⟨by rfl, ?_⟩) (by assumption) ?_
        rotate_left
        · intro w hSw; (try dsimp only at hSw); go_simp <;> with_reducible rfl
        try simp only [Act.put, List.getElem_toArray, List.getElem_cons_zero, List.getElem_cons_succ, List.setIfInBounds_toArray, List.set_cons_zero, List.set_cons_succ]
        refine wpAnyH_take (i := 3) (v := ?_) rfl (by kernel_rfl) (by kernel_rfl) (by kernel_rfl) (fun _ _ _ h => h) (Or.inl ⟨by rfl, ?_⟩) (by assumption) ?_
        rotate_left
        · intro w hSw; (try dsimp only at hSw); go_simp <;> with_reducible rfl
        try simp only [Act.put, List.getElem_toArray, List.getElem_cons_zero, List.getElem_cons_succ, List.setIfInBounds_toArray, List.set_cons_zero, List.set_cons_succ]
        refine wpAnyH_take (i := 4) (v := ?_) rfl (by kernel_rfl) (by kernel_rfl) (by kernel_rfl) (fun _ _ _ h => h) (Or.inl ⟨by rfl, ?_⟩) (by assumption) ?_
        rotate_left
        · intro w hSw; (try dsimp only at hSw); go_simp <;> with_reducible rfl
        try simp only [Act.put, List.getElem_toArray, List.getElem_cons_zero, List.getElem_cons_succ, List.setIfInBounds_toArray, List.set_cons_zero, List.set_cons_succ]
        refine wpAnyH_take (i := 5) (v := ?_) rfl (by kernel_rfl) (by kernel_rfl) (by kernel_rfl) (fun _ _ _ h => h) (Or.inl ⟨by rfl, ?_⟩) (by assumption) ?_
        rotate_left
        · intro w hSw; (try dsimp only at hSw); go_simp <;> with_reducible rfl
        try simp only [Act.put, List.getElem_toArray, List.getElem_cons_zero, List.getElem_cons_succ, List.setIfInBounds_toArray, List.set_cons_zero, List.set_cons_succ]
        refine wpAnyH_take (i := 6) (v := ?_) rfl (by kernel_rfl) (by kernel_rfl) (by kernel_rfl) (fun _ _ _ h => h) (Or.inl ⟨by rfl, ?_⟩) (by assumption) ?_
        rotate_left
        · intro w hSw; (try dsimp only at hSw); go_simp <;> with_reducible rfl
        try simp only [Act.put, List.getElem_toArray, List.getElem_cons_zero, List.getElem_cons_succ, List.setIfInBounds_toArray, List.set_cons_zero, List.set_cons_succ]
        refine wpAnyH_take (i := 7) (v := ?_) rfl (by kernel_rfl) (by kernel_rfl) (by kernel_rfl) (fun _ _ _ h => h) (Or.inl ⟨by rfl, ?_⟩) (by assumption) ?_
        rotate_left
        · intro w hSw; (try dsimp only at hSw); go_simp <;> with_reducible rfl
        try simp only [Act.put, List.getElem_toArray, List.getElem_cons_zero, List.getElem_cons_succ, List.setIfInBounds_toArray, List.set_cons_zero, List.set_cons_succ]
        refine wpAnyH_take (i := 8) (v := ?_) rfl (by kernel_rfl) (by kernel_rfl) (by kernel_rfl) (fun _ _ _ h => h) (Or.inl ⟨by rfl, ?_⟩) (by assumption) ?_
        rotate_left
        · intro w hSw; (try dsimp only at hSw); go_simp <;> with_reducible rfl
        try simp only [Act.put, List.getElem_toArray, List.getElem_cons_zero, List.getElem_cons_succ, List.setIfInBounds_toArray, List.set_cons_zero, List.set_cons_succ]
        refine wpAnyH_take (i := 9) (v := ?_) rfl (by kernel_rfl) (by kernel_rfl) (by kernel_rfl) (fun _ _ _ h => h) (Or.inl ⟨by rfl, ?_⟩) (by assumption) ?_
        rotate_left
        · intro w hSw; (try dsimp only at hSw); go_simp <;> with_reducible rfl
        try simp only [Act.put, List.getElem_toArray, List.getElem_cons_zero, List.getElem_cons_succ, List.setIfInBounds_toArray, List.set_cons_zero, List.set_cons_succ]
        refine wpAnyH_take (i := 10) (v := ?_) rfl (by kernel_rfl) (by kernel_rfl) (by kernel_rfl) (fun _ _ _ h => h) (Or.inl ⟨by rfl, ?_⟩) (by assumption) ?_
        rotate_left
        · intro w hSw; (try dsimp only at hSw); go_simp <;> with_reducible rfl
        try simp only [Act.put, List.getElem_toArray, List.getElem_cons_zero, List.getElem_cons_succ, List.setIfInBounds_toArray, List.set_cons_zero, List.set_cons_succ]
        refine wpAnyH_take (i := 11) (v := ?_) rfl (by kernel_rfl) (by kernel_rfl) (by kernel_rfl) (fun _ _ _ h => h) (Or.inl ⟨by rfl, ?_⟩) (by assumption) ?_
        rotate_left
        · intro w hSw; (try dsimp only at hSw); go_simp <;> with_reducible rfl
        try simp only [Act.put, List.getElem_toArray, List.getElem_cons_zero, List.getElem_cons_succ, List.setIfInBounds_toArray, List.set_cons_zero, List.set_cons_succ]
        refine wpAnyH_take (i := 12) (v := ?_) rfl (by kernel_rfl) (by kernel_rfl) (by kernel_rfl) (fun _ _ _ h => h) (Or.inl ⟨by rfl, ?_⟩) (by assumption) ?_
        rotate_left
        · intro w hSw; (try dsimp only at hSw); go_simp <;> with_reducible rfl
        try simp only [Act.put, List.getElem_toArray, List.getElem_cons_zero, List.getElem_cons_succ, List.setIfInBounds_toArray, List.set_cons_zero, List.set_cons_succ]
        refine wpAnyH_take (i := 13) (v := ?_) rfl (by kernel_rfl) (by kernel_rfl) (by kernel_rfl) (fun _ _ _ h => h) (Or.inl ⟨by rfl, ?_⟩) (by assumption) ?_
        rotate_left
        · intro w hSw; (try dsimp only at hSw); go_simp <;> with_reducible rfl
        try simp only [Act.put, List.getElem_toArray, List.getElem_cons_zero, List.getElem_cons_succ, List.setIfInBounds_toArray, List.set_cons_zero, List.set_cons_succ]
        refine wpAnyH_take (i := 14) (v := ?_) rfl (by kernel_rfl) (by kernel_rfl) (by kernel_rfl) (fun _ _ _ h => h) (Or.inl ⟨by rfl, ?_⟩) (by assumption) ?_
        rotate_left
        · intro w hSw; (try dsimp only at hSw); go_simp <;> with_reducible rfl
        try simp only [Act.put, List.getElem_toArray, List.getElem_cons_zero, List.getElem_cons_succ, List.setIfInBounds_toArray, List.set_cons_zero, List.set_cons_succ]
        refine wpAnyH_take (i := 15) (v := ?_) rfl (by kernel_rfl) (by kernel_rfl) (by kernel_rfl) (fun _ _ _ h => h) (Or.inl ⟨by rfl, ?_⟩) (by assumption) ?_
        rotate_left
        · intro w hSw; (try dsimp only at hSw); go_simp <;> with_reducible rfl
        try simp only [Act.put, List.getElem_toArray, List.getElem_cons_zero, List.getElem_cons_succ, List.setIfInBounds_toArray, List.set_cons_zero, List.set_cons_succ]
        refine wpAnyH_take (i := 16) (v := ?_) rfl (by kernel_rfl) (by kernel_rfl) (by kernel_rfl) (fun _ _ _ h => h) (Or.inl ⟨by rfl, ?_⟩) (by assumption) ?_
        rotate_left
        · intro w hSw; (try dsimp only at hSw); go_simp <;> with_reducible rfl
        try simp only [Act.put, List.getElem_toArray, List.getElem_cons_zero, List.getElem_cons_succ, List.setIfInBounds_toArray, List.set_cons_zero, List.set_cons_succ]
        refine wpAnyH_take (i := 17) (v := ?_) rfl (by kernel_rfl) (by kernel_rfl) (by kernel_rfl) (fun _ _ _ h => h) (Or.inl ⟨by rfl, ?_⟩) (by assumption) ?_
        rotate_left
        · intro w hSw; (try dsimp only at hSw); go_simp <;> with_reducible rfl
        try simp only [Act.put, List.getElem_toArray, List.getElem_cons_zero, List.getElem_cons_succ, List.setIfInBounds_toArray, List.set_cons_zero, List.set_cons_succ]
        refine wpAnyH_take (i := 18) (v := ?_) rfl (by kernel_rfl) (by kernel_rfl) (by kernel_rfl) (fun _ _ _ h => h) (Or.inl ⟨by rfl, ?_⟩) (by assumption) ?_
        rotate_left
        · intro w hSw; (try dsimp only at hSw); go_simp <;> with_reducible rfl
        try simp only [Act.put, List.getElem_toArray, List.getElem_cons_zero, List.getElem_cons_succ, List.setIfInBounds_toArray, List.set_cons_zero, List.set_cons_succ]
        refine wpAnyH_take (i := 19) (v := ?_) rfl (by kernel_rfl) (by kernel_rfl) (by kernel_rfl) (fun _ _ _ h => h) (Or.inl ⟨by rfl, ?_⟩) (by assumption) ?_
        rotate_left
        · intro w hSw; (try dsimp only at hSw); go_simp <;> with_reducible rfl
        try simp only [Act.put, List.getElem_toArray, List.getElem_cons_zero, List.getElem_cons_succ, List.setIfInBounds_toArray, List.set_cons_zero, List.set_cons_succ]
        refine wpAnyH_take (i := 20) (v := ?_) rfl (by kernel_rfl) (by kernel_rfl) (by kernel_rfl) (fun _ _ _ h => h) (Or.inl ⟨by rfl, ?_⟩) (by assumption) ?_
        rotate_left
        · intro w hSw; (try dsimp only at hSw); go_simp <;> with_reducible rfl
        try simp only [Act.put, List.getElem_toArray, List.getElem_cons_zero, List.getElem_cons_succ, List.setIfInBounds_toArray, List.set_cons_zero, List.set_cons_succ]
        refine wpAnyH_take (i := 21) (v := ?_) rfl (by kernel_rfl) (by kernel_rfl) (by kernel_rfl) (fun _ _ _ h => h) (Or.inl ⟨by rfl, ?_⟩) (by assumption) ?_
        rotate_left
        · intro w hSw; (try dsimp only at hSw); go_simp <;> with_reducible rfl
        try simp only [Act.put, List.getElem_toArray, List.getElem_cons_zero, List.getElem_cons_succ, List.setIfInBounds_toArray, List.set_cons_zero, List.set_cons_succ]
        refine wpAnyH_take (i := 22) (v := ?_) rfl (by kernel_rfl) (by kernel_rfl) (by kernel_rfl) (fun _ _ _ h => h) (Or.inl ⟨by rfl, ?_⟩) (by assumption) ?_
        rotate_left
        · intro w hSw; (try dsimp only at hSw); go_simp <;> with_reducible rfl
        try simp only [Act.put, List.getElem_toArray, List.getElem_cons_zero, List.getElem_cons_succ, List.setIfInBounds_toArray, List.set_cons_zero, List.set_cons_succ]
        refine wpAnyH_take (i := 23) (v := ?_) rfl (by kernel_rfl) (by kernel_rfl) (by kernel_rfl) (fun _ _ _ h => h) (Or.inl ⟨by rfl, ?_⟩) (by assumption) ?_
        rotate_left
        · intro w hSw; (try dsimp only at hSw); go_simp <;> with_reducible rfl
        try simp only [Act.put, List.getElem_toArray, List.getElem_cons_zero, List.getElem_cons_succ, List.setIfInBounds_toArray, List.set_cons_zero, List.set_cons_succ]
        refine wpAnyH_done (by kernel_rfl) ?_ _
        gi_wp2_with fail
        obtain ⟨L0, hLe⟩ : ∃ L0, Hid (xr.bs.length = L0) := ⟨_, rfl⟩
        have hrowd : Row wd (.slice ya L0 yc) xr.bs := by rw [← hLe.out]; exact hrow.kept kd (by simp)
        have hsmx : L0 ≤ 140737488355328 := by rw [← hLe.out]; exact hsm
        rw [hLe.out]
        have hIo := hIt.out
        have hmade : s.made = true := by
          cases e : s.made with
          | true => rfl
          | false => rw [hIo.un e] at hxvh; cases hxvh.out
        have hnew' : ∀ k ∈ blk ya, w'.heap.size ≤ k ∧ k ∉ s.js := fun k hk => hnew k (by rw [own_slice]; exact hk)
        have hqy : wr.heap.size ∉ blk ya := fun hm => by have := hnew' _ hm; omega
        have hkq : Hid (∀ A, Kp (blk ya) wd A → B1 A wr.heap.size (.int .i64 (K : Int))) := fun A kA => by
          have := (hIo.kb.kept kd).keptS kA hqy
          rw [← hK.out] at this
          exact this
        have hfin : Hid (∀ (A : World) (act : Act), Kp (blk ya) wd A → KeepsOthers wd A → leftX w'.heap.size KeepT (TlI w ⟨room, some ⟨g, o, none⟩, lc, l⟩ n to (.slice (some ⟨g7, o7, none⟩) (ats n.l to n.l.length).length vac) wr.heap.size w'.heap.size) (fun _ _ _ => False) s (s.nx ⟨s.i, .slice ya m.body.length yc⟩) W .normal act (A.setCell ⟨wr.heap.size, 0, none⟩ (.int .i64 ((K : Int) + 1)))) := fun A act kA ko => by
          have kz : Kp (wr.heap.size :: blk ya) W (A.setCell ⟨wr.heap.size, 0, none⟩ (.int .i64 ((K : Int) + 1))) :=
            (kd.mono (T := wr.heap.size :: blk ya) (by simp)).trans (((kA.mono (T := wr.heap.size :: blk ya) (fun x hx => .inl (by simp [hx])))).setCell (p := ⟨wr.heap.size, 0, none⟩) (by simp) _) (fun x hx => .inl hx)
          have koz : KeepsOthers W (A.setCell ⟨wr.heap.size, 0, none⟩ (.int .i64 ((K : Int) + 1))) := (hkod.out.trans ko).trans (KeepsOthers.setCell _ _ _)
          have hjsq : ∀ j ∈ s.js, j ∉ wr.heap.size :: blk ya := fun j hj hm => by
            rcases List.mem_cons.1 hm with rfl | hm
            · rcases hIo.js _ hj with h | h
              · rw [hmade] at h; cases h.2
              · omega
            · exact (hnew' j hm).2 hj
          have bq := ((hkq.out A kA).set (.int .i64 ((K : Int) + 1)))
          have eats : ats n.l to (s.i + 1) = ats n.l to s.i ++ [(s.i : Int)] := ats_yes (hit_yes hmh.out htoh.out)
          refine ⟨koz.from _, ⟨KeepN.ofKp kz hjsq, fun _ k ob _ ho hc => koz.same k ob ho hc⟩, ⟨hIo.ti.keptS kz (fun k hk => ?_) (fun k hk hm => ?_), ?_, hIo.mb, hIo.js, fun j hj => Nat.lt_of_lt_of_le (hIo.jl j hj) kz.size, fun _ => rfl, fun u hu => (by cases hu)⟩⟩
          · rcases List.mem_cons.1 hk with rfl | hk
            · exact hTz
            · have := (hnew' k hk).1; omega
          · have h1 := hvaq k hk
            rcases List.mem_cons.1 hm with rfl | hm
            · exact Nat.lt_irrefl _ h1
            · have := (hnew' k hm).1; omega
          · show B1 _ _ (.int .i64 ((ats n.l to (s.i + 1)).length : Int))
            rw [eats]
            simp only [List.length_append, List.length_cons, List.length_nil, ← hK.out]
            simpa using bq
        clear hS0 hHeld hIo
        gi_loopw [62] (fun i wn => ∃ (j : Nat) (zs : List UInt8), j ≤ L0 ∧ i = .int .i64 j ∧ Hid (zs.length = L0) ∧ Row wn (.slice ya L0 yc) zs ∧ Kp (blk ya) wd wn ∧ KeepsOthers wd wn) (fun i _ => L0 - (intOf i).toNat)
        case atStart => exact ⟨0, xr.bs, Nat.zero_le _, rfl, hLe.out, hrowd, Kp.refl _ _, KeepsOthers.refl _⟩
        case round =>
          obtain ⟨j, zs, hj, rfl, hzl, hrz, hkz, hko⟩ := hrel
          by_cases hjl : j < L0
          · obtain ⟨y, hy⟩ : ∃ y, zs[j]? = some y := ⟨zs[j]'(by rw [hzl.out]; exact hjl), by simp [hzl.out, hjl]⟩
            obtain ⟨g9, o9, ea, en, hcell, hfro⟩ := rowAt hrz hy
            have hrz2 := hrz
            rw [ea] at hrz2
            have hput := Row.put hrz2 j (by rw [hzl.out]; exact hjl) (UInt8.ofNat (y.toNat + 1))
            have hw8 := u8add y 1 (by omega)
            have hkz2 : Kp (blk ya) wd (wr.setCell ⟨g9, o9 + j, none⟩ (.int .u8 (IntKind.u8.wrap ((y.toNat : Int) + (1 : Nat))))) := hkz.setCell (p := ⟨g9, o9 + j, none⟩) (.inl (by rw [ea]; simp [blk])) _
            have hko2 : KeepsOthers wd (wr.setCell ⟨g9, o9 + j, none⟩ (.int .u8 (IntKind.u8.wrap ((y.toNat : Int) + (1 : Nat))))) := hko.trans (KeepsOthers.setCell _ _ _)
            rw [← hw8] at hput
            have hyl : Hid ((zs.set j (UInt8.ofNat (y.toNat + 1))).length = L0) := by show _ = _; rw [List.length_set]; exact hzl.out
            rw [← ea] at hput
            clear hy hzl hrz2 en hw8
            subst ea
            gi_wp2_with fail
            go_roundw
            case rel => exact ⟨j + 1, _, by omega, by go_num, hyl, hput, hkz2, hko2⟩
            case measure => simp [intOf]; omega
          · have hjn : ¬ ((j : Int) < (L0 : Int)) := by omega
            have bq := hkq.out wr hkz
            have bq0 := bq.c0
            have bqf := bq.free
            have hend := fun act => hfin.out wr act hkz hko
            have hK9 : K ≤ 6000000000000 := by have := ats_len n.l to s.i; rw [← hK.out] at this; omega
            clear hrz hzl hkz hko
            gi_wp2_with fail
            exact hend _
      case done =>
        rintro D s X hD ⟨hmade, hi, hv⟩ hI hKd
        have hkb := hI.kb
        rw [hi] at hkb
        have k0 := hkb.c0
        have b7 := hI.ti.box.c0
        have r0 := hI.ti.res.c0
        have rf := hI.ti.res.free
        obtain ⟨M, hM⟩ : ∃ M, Hid (M = (ats n.l to n.l.length).length) := ⟨_, rfl⟩
        rw [← hM.out] at k0 b7
        have bz := hI.ti.res.set (.bool true)
        obtain ⟨Z, hZ⟩ : ∃ Z, X.setCell ⟨w.heap.size + 1, 0, none⟩ (.bool true) = Z := ⟨_, rfl⟩
        have kZ : Kp [] w Z := by rw [← hZ]; exact hI.ti.kp.setCell (p := ⟨w.heap.size + 1, 0, none⟩) (.inr (by simp)) _
        have hK2 : Z.heap[D]? = some (.deferred (some [])) := by rw [← hZ]; exact (KeepsOthers.setCell X ⟨w.heap.size + 1, 0, none⟩ (.bool true)).same D _ hKd rfl
        rw [hZ] at bz
        have htz : TurnT D Z (Z.putObj D (.deferred none)) := TurnT.ofGrown (grownBy_putObj' Z D (.deferred none)) (fun r e => by cases e; exact ⟨Nat.le_refl _, _, hK2, rfl⟩)
        have hres := bz.ck htz.ck
        have kF : Kp [] w (Z.putObj D (.deferred none)) := Kp.turn kZ htz (by omega)
        have hZ' := hid hZ
        clear hZ bz htz kZ hI
        go_wp2_with fail
        rw [hZ'.out]
        refine ⟨by simp, .inl ⟨_, _, rfl, run_takeDeferred hK2, ?_⟩⟩
        exact ⟨_, results_cell_one rfl rfl hres.c0, rfl, kF⟩
      case stop =>
        rintro D c s X hD _ h
        exact h.elim
end Go.Proofs.Ytllhmbemcmigoaa
end

section
namespace Go.Proofs.Ytllhmbemcmigoaa
open Go.RowKit Go.Hay
set_option linter.unusedVariables false
set_option linter.unusedSimpArgs false

set_option maxHeartbeats 16000000 in
set_option maxRecDepth 100000 in
theorem cNStep5 {w : World} {p : Nat} {v : Value} {n : Nt} (hN : Net w p v n) (hB : Smalls n) (hb : n.l.length ≤ 6000000000000) (r : RN) (hr : RnOk w r) (hL : LikeN r n) (hT : ∀ k ∈ r.foot, k ∉ p :: own v) (o : NOp) (hok : o.ok w) (hk : o.kind = 5) :
    Calls Try.prog 11 #[.pointer (some ⟨p, 0, none⟩), r.v, o.v] w (StN p v r o (n) w) := by
  obtain ⟨w1, hw1, k1, bx, hsz⟩ := boxCN r o w
  have hlt := hN.ltAll
  have hrl := hr.lt
  have hlr : r.l.length ≤ 6000000000000 := by have := hL.len; omega
  have hp0 : w.heap.size ∉ p :: own v := fun h => by have := hlt _ h; omega
  have hp1 : w.heap.size + 1 ∉ p :: own v := fun h => by have := hlt _ h; omega
  have hp2 : w.heap.size + 1 + 1 ∉ p :: own v := fun h => by have := hlt _ h; omega
  have hr2 : w.heap.size + 1 + 1 ∉ r.foot := fun h => by have := hrl _ h; omega
  have hSt := cToldL (hN.keptNew k1.drew) hB hb r (hr.keptNew k1.drew) hL o.to
  have hfin : Hid (∀ w5, Kp [] w1.drew w5 → ∀ W', Kp [w.heap.size + 1 + 1] w5 W' → StN p v r o n w (.returned (.tuple #[.pointer (some ⟨p, 0, none⟩), r.v, .bool true])) W') := fun w5 k5 W' kW => by
    have k : Kp [] w w5 := (k1.drew).trans k5 (by simp)
    exact stFinN (k.mono (by simp)) (hN.keptNew k) (hr.keptNew k) hL (fun k hk => .inl hk) (fun k hk => .inl (by simp [hk])) hT (by omega) hp2 hr2 kW
  clear hL hr hT hrl
  obtain ⟨room, la, lc, l⟩ := r
  simp only [RN.v, NOp.v] at *
  have b0 := bx.rd.c0; have b1 := bx.rd.c1
  have o0 := bx.o0; have o1 := bx.o1; have o2 := bx.o2; have o3 := bx.o3
  rw [hk] at o0 hw1 ⊢
  go_enter Try.func11, Try.ntmps11
  go_wp2_with fail
  clear b0 b1 o0 o1 o2 o3
  have bxd := bx.kept (w' := w1.drew) (Kp.refl _ _).drew
  have hS : Hid (∀ A, Kp [w.heap.size + 1 + 1] w1.drew A → (A.cell? ⟨w.heap.size, 0, none⟩ = some (.int .i64 room) ∧ A.cell? ⟨w.heap.size, 1, none⟩ = some (.slice la l.length lc) ∧ A.cell? ⟨w.heap.size + 1, 1, none⟩ = some (.int .i64 o.to))) := fun A kA => by
    have b := bxd.rd.keptS kA (by simp <;> omega)
    exact ⟨b.c0, b.c1, (kA.cell (p := ⟨w.heap.size + 1, 1, none⟩) (World.block_lt_of_cell? _ _ bxd.o1) (by simp)).trans bxd.o1⟩
  refine wp_region_held_drew (S := (fun A => A.cell? ⟨w.heap.size, 0, none⟩ = some (.int .i64 room) ∧ A.cell? ⟨w.heap.size, 1, none⟩ = some (.slice la l.length lc) ∧ A.cell? ⟨w.heap.size + 1, 1, none⟩ = some (.int .i64 o.to))) (by kernel_rfl) ?_ (fun hHeld => ?_)
  · exact hS.out _ (Kp.refl _ _)
  generalize w1.drew = wd at *
  refine wpAnyH_take (i := 0) (v := ?_) rfl (by kernel_rfl) (by kernel_rfl) (by kernel_rfl) (fun _ _ _ h => h) (Or.inl ⟨by rfl, ?_⟩) (by assumption) ?_
  rotate_left
  · intro w hSw; (try dsimp only at hSw); go_simp <;> with_reducible rfl
  try simp only [Act.put, List.getElem_toArray, List.getElem_cons_zero, List.getElem_cons_succ, List.setIfInBounds_toArray, List.set_cons_zero, List.set_cons_succ]
  refine wpAnyH_take (i := 1) (v := ?_) rfl (by kernel_rfl) (by kernel_rfl) (by kernel_rfl) (fun _ _ _ h => h) (Or.inl ⟨by rfl, ?_⟩) (by assumption) ?_
  rotate_left
  · intro w hSw; (try dsimp only at hSw); go_simp <;> with_reducible rfl
  try simp only [Act.put, List.getElem_toArray, List.getElem_cons_zero, List.getElem_cons_succ, List.setIfInBounds_toArray, List.set_cons_zero, List.set_cons_succ]
  refine wpAnyH_take (i := 2) (v := ?_) rfl (by kernel_rfl) (by kernel_rfl) (by kernel_rfl) (fun _ _ _ h => h) (Or.inl ⟨by rfl, ?_⟩) (by assumption) ?_
  rotate_left
  · intro w hSw; (try dsimp only at hSw); go_simp <;> with_reducible rfl
  try simp only [Act.put, List.getElem_toArray, List.getElem_cons_zero, List.getElem_cons_succ, List.setIfInBounds_toArray, List.set_cons_zero, List.set_cons_succ]
  refine wpAnyH_take (i := 3) (v := ?_) rfl (by kernel_rfl) (by kernel_rfl) (by kernel_rfl) (fun _ _ _ h => h) (Or.inl ⟨by rfl, ?_⟩) (by assumption) ?_
  rotate_left
  · intro w hSw; (try dsimp only at hSw); go_simp <;> with_reducible rfl
  try simp only [Act.put, List.getElem_toArray, List.getElem_cons_zero, List.getElem_cons_succ, List.setIfInBounds_toArray, List.set_cons_zero, List.set_cons_succ]
  refine wpAnyH_take (i := 4) (v := ?_) rfl (by kernel_rfl) (by kernel_rfl) (by kernel_rfl) (fun _ _ _ h => h) (Or.inl ⟨by rfl, ?_⟩) (by assumption) ?_
  rotate_left
  · intro w hSw; (try dsimp only at hSw); go_simp <;> with_reducible rfl
  try simp only [Act.put, List.getElem_toArray, List.getElem_cons_zero, List.getElem_cons_succ, List.setIfInBounds_toArray, List.set_cons_zero, List.set_cons_succ]
  refine wpAnyH_take (i := 5) (v := ?_) rfl (by kernel_rfl) (by kernel_rfl) (by kernel_rfl) (fun _ _ _ h => h) (Or.inl ⟨by rfl, ?_⟩) (by assumption) ?_
  rotate_left
  · intro w hSw; (try dsimp only at hSw); go_simp <;> with_reducible rfl
  try simp only [Act.put, List.getElem_toArray, List.getElem_cons_zero, List.getElem_cons_succ, List.setIfInBounds_toArray, List.set_cons_zero, List.set_cons_succ]
  refine wpAnyH_ready (rs := [6]) (by kernel_rfl) (by simp) ?_
  refine AllReadyH.cons rfl (fun K hK => ?_) AllReadyH.nil
  go_simp
  refine hSt.mono ?_
  rintro e w5 ⟨rfl, k5⟩
  have an5 := bxd.an.kept k5
  obtain ⟨r0, r1, rf⟩ := an5
  have hb4 : B2 w5 (w.heap.size + 1 + 1) (.int .i64 0) (.slice none 0 0) := ⟨r0, r1, rf⟩
  have g0 := rf 0; have g1 := rf 1
  (try go_wp2_with fail)
  refine hK.out _ _ ?_ (fun hHeld => ?_)
  · exact hS.out _ (k5.mono (by simp))
  clear hK K
  try simp only [Act.put, List.getElem_toArray, List.getElem_cons_zero, List.getElem_cons_succ, List.setIfInBounds_toArray, List.set_cons_zero, List.set_cons_succ]
  refine wpAnyH_take (i := 7) (v := ?_) rfl (by kernel_rfl) (by kernel_rfl) (by kernel_rfl) (fun _ _ _ h => h) (Or.inl ⟨by rfl, ?_⟩) (by assumption) ?_
  rotate_left
  · intro w hSw; (try dsimp only at hSw); go_simp <;> with_reducible rfl
  try simp only [Act.put, List.getElem_toArray, List.getElem_cons_zero, List.getElem_cons_succ, List.setIfInBounds_toArray, List.set_cons_zero, List.set_cons_succ]
  refine wpAnyH_ready (rs := [8]) (by kernel_rfl) (by simp) ?_
  refine AllReadyH.cons rfl (fun K hK => ?_) AllReadyH.nil
  go_simp
  (try go_wp2_with fail)
  refine hK.out _ _ ?_ (fun hHeld => ?_)
  · exact hS.out _ ((k5.mono (T := [w.heap.size + 1 + 1]) (by simp)).trans (kpSet2 _ _ _ _) (fun x hx => .inl hx))
  clear hK K
  try simp only [Act.put, List.getElem_toArray, List.getElem_cons_zero, List.getElem_cons_succ, List.setIfInBounds_toArray, List.set_cons_zero, List.set_cons_succ]
  refine wpAnyH_take (i := 9) (v := ?_) rfl (by kernel_rfl) (by kernel_rfl) (by kernel_rfl) (fun _ _ _ h => h) (Or.inl ⟨by rfl, ?_⟩) (by assumption) ?_
  rotate_left
  · intro w hSw; (try dsimp only at hSw); go_simp <;> with_reducible rfl
  try simp only [Act.put, List.getElem_toArray, List.getElem_cons_zero, List.getElem_cons_succ, List.setIfInBounds_toArray, List.set_cons_zero, List.set_cons_succ]
  refine wpAnyH_done (by kernel_rfl) ?_ _
  go_wp2_with fail
  obtain ⟨W', hW', hb6, kW'⟩ := set2_ex hb4 (.int .i64 room) (.slice la l.length lc)
  rw [hW']
  obtain ⟨z0, z1, _⟩ := hb6
  refine bodyPost_ret (v := .tuple #[.pointer (some ⟨p, 0, none⟩), .agg #[.int .i64 room, .slice la l.length lc], .bool true]) (by simp [results, Try.results11, go_sem, z0, z1]) rfl ?_
  exact hfin.out w5 k5 W' kW'
end Go.Proofs.Ytllhmbemcmigoaa
end

section
namespace Go.Proofs.Ytllhmbemcmigoaa
open Go.RowKit Go.Hay
set_option linter.unusedVariables false
set_option linter.unusedSimpArgs false

set_option maxHeartbeats 16000000 in
set_option maxRecDepth 100000 in
theorem cNStep6 {w : World} {p : Nat} {v : Value} {n : Nt} (hN : Net w p v n) (hB : Smalls n) (hb : n.l.length ≤ 6000000000000) (r : RN) (hr : RnOk w r) (hL : LikeN r n) (hT : ∀ k ∈ r.foot, k ∉ p :: own v) (o : NOp) (hok : o.ok w) (h0 : o.kind ≠ 0) (h1 : o.kind ≠ 1) (h2 : o.kind ≠ 2) (h3 : o.kind ≠ 3) (h4 : o.kind ≠ 4) (h5 : o.kind ≠ 5) (h7 : o.kind ≠ 7) :
    Calls Try.prog 11 #[.pointer (some ⟨p, 0, none⟩), r.v, o.v] w (StN p v r o (n) w) := by
  obtain ⟨w1, hw1, k1, bx, hsz⟩ := boxCN r o w
  have hlt := hN.ltAll
  have hrl := hr.lt
  have hlr : r.l.length ≤ 6000000000000 := by have := hL.len; omega
  have hp0 : w.heap.size ∉ p :: own v := fun h => by have := hlt _ h; omega
  have hp1 : w.heap.size + 1 ∉ p :: own v := fun h => by have := hlt _ h; omega
  have hp2 : w.heap.size + 1 + 1 ∉ p :: own v := fun h => by have := hlt _ h; omega
  have hr2 : w.heap.size + 1 + 1 ∉ r.foot := fun h => by have := hrl _ h; omega
  have hSt := cStandsN (hN.keptNew k1.drew) hB (by omega) r (hr.keptNew k1.drew) hL.l
  have hfin : Hid (∀ w5, Kp [] w1.drew w5 → ∀ W', Kp [w.heap.size + 1 + 1] w5 W' → StN p v r o n w (.returned (.tuple #[.pointer (some ⟨p, 0, none⟩), r.v, .bool true])) W') := fun w5 k5 W' kW => by
    have k : Kp [] w w5 := (k1.drew).trans k5 (by simp)
    exact stFinN (k.mono (by simp)) (hN.keptNew k) (hr.keptNew k) hL (fun k hk => .inl hk) (fun k hk => .inl (by simp [hk])) hT (by omega) hp2 hr2 kW
  clear hL hr hT hrl
  obtain ⟨room, la, lc, l⟩ := r
  simp only [RN.v, NOp.v] at *
  have b0 := bx.rd.c0; have b1 := bx.rd.c1
  have o0 := bx.o0; have o1 := bx.o1; have o2 := bx.o2; have o3 := bx.o3
  have e0 : (o.kind == 0) = false := by simpa using h0
  have e1 : (o.kind == 1) = false := by simpa using h1
  have e2 : (o.kind == 2) = false := by simpa using h2
  have e3 : (o.kind == 3) = false := by simpa using h3
  have e4 : (o.kind == 4) = false := by simpa using h4
  have e5 : (o.kind == 5) = false := by simpa using h5
  have e7 : (o.kind == 7) = false := by simpa using h7
  go_enter Try.func11, Try.ntmps11
  go_wp2_with fail
  clear b0 b1 o0 o1 o2 o3 e0 e1 e2 e3 e4 e5 e7
  have bxd := bx.kept (w' := w1.drew) (Kp.refl _ _).drew
  have hS : Hid (∀ A, Kp [w.heap.size + 1 + 1] w1.drew A → (A.cell? ⟨w.heap.size, 0, none⟩ = some (.int .i64 room) ∧ A.cell? ⟨w.heap.size, 1, none⟩ = some (.slice la l.length lc))) := fun A kA => by
    have b := bxd.rd.keptS kA (by simp <;> omega)
    exact ⟨b.c0, b.c1⟩
  refine wp_region_held_drew (S := (fun A => A.cell? ⟨w.heap.size, 0, none⟩ = some (.int .i64 room) ∧ A.cell? ⟨w.heap.size, 1, none⟩ = some (.slice la l.length lc))) (by kernel_rfl) ?_ (fun hHeld => ?_)
  · exact hS.out _ (Kp.refl _ _)
  generalize w1.drew = wd at *
  refine wpAnyH_take (i := 0) (v := ?_) rfl (by kernel_rfl) (by kernel_rfl) (by kernel_rfl) (fun _ _ _ h => h) (Or.inl ⟨by rfl, ?_⟩) (by assumption) ?_
  rotate_left
  · intro w hSw; (try dsimp only at hSw); go_simp <;> with_reducible rfl
  try simp only [Act.put, List.getElem_toArray, List.getElem_cons_zero, List.getElem_cons_succ, List.setIfInBounds_toArray, List.set_cons_zero, List.set_cons_succ]
  refine wpAnyH_take (i := 1) (v := ?_) rfl (by kernel_rfl) (by kernel_rfl) (by kernel_rfl) (fun _ _ _ h => h) (Or.inl ⟨by rfl, ?_⟩) (by assumption) ?_
  rotate_left
  · intro w hSw; (try dsimp only at hSw); go_simp <;> with_reducible rfl
  try simp only [Act.put, List.getElem_toArray, List.getElem_cons_zero, List.getElem_cons_succ, List.setIfInBounds_toArray, List.set_cons_zero, List.set_cons_succ]
  refine wpAnyH_take (i := 2) (v := ?_) rfl (by kernel_rfl) (by kernel_rfl) (by kernel_rfl) (fun _ _ _ h => h) (Or.inl ⟨by rfl, ?_⟩) (by assumption) ?_
  rotate_left
  · intro w hSw; (try dsimp only at hSw); go_simp <;> with_reducible rfl
  try simp only [Act.put, List.getElem_toArray, List.getElem_cons_zero, List.getElem_cons_succ, List.setIfInBounds_toArray, List.set_cons_zero, List.set_cons_succ]
  refine wpAnyH_take (i := 3) (v := ?_) rfl (by kernel_rfl) (by kernel_rfl) (by kernel_rfl) (fun _ _ _ h => h) (Or.inl ⟨by rfl, ?_⟩) (by assumption) ?_
  rotate_left
  · intro w hSw; (try dsimp only at hSw); go_simp <;> with_reducible rfl
  try simp only [Act.put, List.getElem_toArray, List.getElem_cons_zero, List.getElem_cons_succ, List.setIfInBounds_toArray, List.set_cons_zero, List.set_cons_succ]
  refine wpAnyH_ready (rs := [4]) (by kernel_rfl) (by simp) ?_
  refine AllReadyH.cons rfl (fun K hK => ?_) AllReadyH.nil
  go_simp
  refine hSt.mono ?_
  rintro e w5 ⟨rfl, k5⟩
  have an5 := bxd.an.kept k5
  obtain ⟨r0, r1, rf⟩ := an5
  have hb4 : B2 w5 (w.heap.size + 1 + 1) (.int .i64 0) (.slice none 0 0) := ⟨r0, r1, rf⟩
  have g0 := rf 0; have g1 := rf 1
  (try go_wp2_with fail)
  refine hK.out _ _ ?_ (fun hHeld => ?_)
  · exact hS.out _ (k5.mono (by simp))
  clear hK K
  try simp only [Act.put, List.getElem_toArray, List.getElem_cons_zero, List.getElem_cons_succ, List.setIfInBounds_toArray, List.set_cons_zero, List.set_cons_succ]
  refine wpAnyH_take (i := 5) (v := ?_) rfl (by kernel_rfl) (by kernel_rfl) (by kernel_rfl) (fun _ _ _ h => h) (Or.inl ⟨by rfl, ?_⟩) (by assumption) ?_
  rotate_left
  · intro w hSw; (try dsimp only at hSw); go_simp <;> with_reducible rfl
  try simp only [Act.put, List.getElem_toArray, List.getElem_cons_zero, List.getElem_cons_succ, List.setIfInBounds_toArray, List.set_cons_zero, List.set_cons_succ]
  refine wpAnyH_ready (rs := [6]) (by kernel_rfl) (by simp) ?_
  refine AllReadyH.cons rfl (fun K hK => ?_) AllReadyH.nil
  go_simp
  (try go_wp2_with fail)
  refine hK.out _ _ ?_ (fun hHeld => ?_)
  · exact hS.out _ ((k5.mono (T := [w.heap.size + 1 + 1]) (by simp)).trans (kpSet2 _ _ _ _) (fun x hx => .inl hx))
  clear hK K
  try simp only [Act.put, List.getElem_toArray, List.getElem_cons_zero, List.getElem_cons_succ, List.setIfInBounds_toArray, List.set_cons_zero, List.set_cons_succ]
  refine wpAnyH_take (i := 7) (v := ?_) rfl (by kernel_rfl) (by kernel_rfl) (by kernel_rfl) (fun _ _ _ h => h) (Or.inl ⟨by rfl, ?_⟩) (by assumption) ?_
  rotate_left
  · intro w hSw; (try dsimp only at hSw); go_simp <;> with_reducible rfl
  try simp only [Act.put, List.getElem_toArray, List.getElem_cons_zero, List.getElem_cons_succ, List.setIfInBounds_toArray, List.set_cons_zero, List.set_cons_succ]
  refine wpAnyH_done (by kernel_rfl) ?_ _
  go_wp2_with fail
  obtain ⟨W', hW', hb6, kW'⟩ := set2_ex hb4 (.int .i64 room) (.slice la l.length lc)
  rw [hW']
  obtain ⟨z0, z1, _⟩ := hb6
  refine bodyPost_ret (v := .tuple #[.pointer (some ⟨p, 0, none⟩), .agg #[.int .i64 room, .slice la l.length lc], .bool true]) (by simp [results, Try.results11, go_sem, z0, z1]) rfl ?_
  exact hfin.out w5 k5 W' kW'
end Go.Proofs.Ytllhmbemcmigoaa
end

section
namespace Go.Proofs.Ytllhmbemcmigoaa
open Go.RowKit Go.Hay
set_option linter.unusedVariables false
set_option linter.unusedSimpArgs false

set_option maxHeartbeats 16000000 in
set_option maxRecDepth 100000 in
theorem cNStep7 {w : World} {p : Nat} {v : Value} {n : Nt} (hN : Net w p v n) (hB : Smalls n) (hb : n.l.length ≤ 6000000000000) (r : RN) (hr : RnOk w r) (hL : LikeN r n) (hT : ∀ k ∈ r.foot, k ∉ p :: own v) (o : NOp) (hok : o.ok w) (hk : o.kind = 7) :
    Calls Try.prog 11 #[.pointer (some ⟨p, 0, none⟩), r.v, o.v] w (StN p v r o (n) w) := by
  obtain ⟨w1, hw1, k1, bx, hsz⟩ := boxCN r o w
  have hlt := hN.ltAll
  have hrl := hr.lt
  have hlr : r.l.length ≤ 6000000000000 := by have := hL.len; omega
  have hp0 : w.heap.size ∉ p :: own v := fun h => by have := hlt _ h; omega
  have hp1 : w.heap.size + 1 ∉ p :: own v := fun h => by have := hlt _ h; omega
  have hp2 : w.heap.size + 1 + 1 ∉ p :: own v := fun h => by have := hlt _ h; omega
  have hr2 : w.heap.size + 1 + 1 ∉ r.foot := fun h => by have := hrl _ h; omega
  have hC := cNClone (hN.keptNew k1) (by omega)
  have hfin : Hid (∀ w2 p' v', Kp [] w1 w2 → Net w2 p' v' n → (∀ k ∈ p' :: own v', w1.heap.size ≤ k) → ∀ W', Kp [w.heap.size + 1 + 1] w2.drew W' → StN p v r o n w (.returned (.tuple #[.pointer (some ⟨p', 0, none⟩), r.v, .bool true])) W') := fun w2 p' v' k2 hN' hn W' kW => by
    have k : Kp [] w w2.drew := (k1.trans k2 (by simp)).drew
    have hs1 := k1.size
    exact stFinN (k.mono (by simp)) (hN'.keptNew (w' := w2.drew) (Kp.refl _ _).drew) (hr.keptNew k) hL (fun k hk => .inr (by have := hn k hk; omega)) (fun k hk => .inl (by simp [hk])) (fun k hk h => by have := hrl k hk; have := hn k h; omega) (by omega) (fun h => by have := hn _ h; omega) hr2 kW
  clear hL hr hT hrl
  obtain ⟨room, la, lc, l⟩ := r
  simp only [RN.v, NOp.v] at *
  have b0 := bx.rd.c0; have b1 := bx.rd.c1
  have o0 := bx.o0; have o1 := bx.o1; have o2 := bx.o2; have o3 := bx.o3
  rw [hk] at o0 hw1 ⊢
  go_enter Try.func11, Try.ntmps11
  go_wp2_with fail
  refine hC.mono ?_
  rintro e w2 ⟨p', v', rfl, hN2, k2, hn2⟩
  clear b0 b1 o0 o1 o2 o3
  have bxd := (bx.kept k2).kept (w' := w2.drew) (Kp.refl _ _).drew
  have an5 := bxd.an
  obtain ⟨r0, r1, rf⟩ := an5
  have hb4 : B2 w2.drew (w.heap.size + 1 + 1) (.int .i64 0) (.slice none 0 0) := ⟨r0, r1, rf⟩
  have g0 := rf 0; have g1 := rf 1
  have hfin2 : Hid (∀ W', Kp [w.heap.size + 1 + 1] w2.drew W' → StN p v _ o n w (.returned (.tuple #[.pointer (some ⟨p', 0, none⟩), _, .bool true])) W') := fun W' kW => hfin.out w2 p' v' k2 hN2 hn2 W' kW
  have hS : Hid (∀ A, Kp [w.heap.size + 1 + 1] w2.drew A → (A.cell? ⟨w.heap.size, 0, none⟩ = some (.int .i64 room) ∧ A.cell? ⟨w.heap.size, 1, none⟩ = some (.slice la l.length lc))) := fun A kA => by
    have b := bxd.rd.keptS kA (by simp <;> omega)
    exact ⟨b.c0, b.c1⟩
  clear hC hfin
  go_wp2_with fail
  refine wp_region_held_drew (S := (fun A => A.cell? ⟨w.heap.size, 0, none⟩ = some (.int .i64 room) ∧ A.cell? ⟨w.heap.size, 1, none⟩ = some (.slice la l.length lc))) (by kernel_rfl) ?_ (fun hHeld => ?_)
  · exact hS.out _ (Kp.refl _ _)
  generalize w2.drew = wd at *
  refine wpAnyH_take (i := 0) (v := ?_) rfl (by kernel_rfl) (by kernel_rfl) (by kernel_rfl) (fun _ _ _ h => h) (Or.inl ⟨by rfl, ?_⟩) (by assumption) ?_
  rotate_left
  · intro w hSw; (try dsimp only at hSw); go_simp <;> with_reducible rfl
  try simp only [Act.put, List.getElem_toArray, List.getElem_cons_zero, List.getElem_cons_succ, List.setIfInBounds_toArray, List.set_cons_zero, List.set_cons_succ]
  refine wpAnyH_take (i := 1) (v := ?_) rfl (by kernel_rfl) (by kernel_rfl) (by kernel_rfl) (fun _ _ _ h => h) (Or.inl ⟨by rfl, ?_⟩) (by assumption) ?_
  rotate_left
  · intro w hSw; (try dsimp only at hSw); go_simp <;> with_reducible rfl
  try simp only [Act.put, List.getElem_toArray, List.getElem_cons_zero, List.getElem_cons_succ, List.setIfInBounds_toArray, List.set_cons_zero, List.set_cons_succ]
  refine wpAnyH_take (i := 2) (v := ?_) rfl (by kernel_rfl) (by kernel_rfl) (by kernel_rfl) (fun _ _ _ h => h) (Or.inl ⟨by rfl, ?_⟩) (by assumption) ?_
  rotate_left
  · intro w hSw; (try dsimp only at hSw); go_simp <;> with_reducible rfl
  try simp only [Act.put, List.getElem_toArray, List.getElem_cons_zero, List.getElem_cons_succ, List.setIfInBounds_toArray, List.set_cons_zero, List.set_cons_succ]
  refine wpAnyH_take (i := 3) (v := ?_) rfl (by kernel_rfl) (by kernel_rfl) (by kernel_rfl) (fun _ _ _ h => h) (Or.inl ⟨by rfl, ?_⟩) (by assumption) ?_
  rotate_left
  · intro w hSw; (try dsimp only at hSw); go_simp <;> with_reducible rfl
  try simp only [Act.put, List.getElem_toArray, List.getElem_cons_zero, List.getElem_cons_succ, List.setIfInBounds_toArray, List.set_cons_zero, List.set_cons_succ]
  refine wpAnyH_take (i := 4) (v := ?_) rfl (by kernel_rfl) (by kernel_rfl) (by kernel_rfl) (fun _ _ _ h => h) (Or.inl ⟨by rfl, ?_⟩) (by assumption) ?_
  rotate_left
  · intro w hSw; (try dsimp only at hSw); go_simp <;> with_reducible rfl
  try simp only [Act.put, List.getElem_toArray, List.getElem_cons_zero, List.getElem_cons_succ, List.setIfInBounds_toArray, List.set_cons_zero, List.set_cons_succ]
  refine wpAnyH_ready (rs := [5]) (by kernel_rfl) (by simp) ?_
  refine AllReadyH.cons rfl (fun K hK => ?_) AllReadyH.nil
  go_simp
  (try go_wp2_with fail)
  refine hK.out _ _ ?_ (fun hHeld => ?_)
  · exact hS.out _ (kpSet2 _ _ _ _)
  clear hK K
  try simp only [Act.put, List.getElem_toArray, List.getElem_cons_zero, List.getElem_cons_succ, List.setIfInBounds_toArray, List.set_cons_zero, List.set_cons_succ]
  refine wpAnyH_take (i := 6) (v := ?_) rfl (by kernel_rfl) (by kernel_rfl) (by kernel_rfl) (fun _ _ _ h => h) (Or.inl ⟨by rfl, ?_⟩) (by assumption) ?_
  rotate_left
  · intro w hSw; (try dsimp only at hSw); go_simp <;> with_reducible rfl
  try simp only [Act.put, List.getElem_toArray, List.getElem_cons_zero, List.getElem_cons_succ, List.setIfInBounds_toArray, List.set_cons_zero, List.set_cons_succ]
  refine wpAnyH_done (by kernel_rfl) ?_ _
  go_wp2_with fail
  obtain ⟨W', hW', hb6, kW'⟩ := set2_ex hb4 (.int .i64 room) (.slice la l.length lc)
  rw [hW']
  obtain ⟨z0, z1, _⟩ := hb6
  refine bodyPost_ret (v := .tuple #[.pointer (some ⟨p', 0, none⟩), .agg #[.int .i64 room, .slice la l.length lc], .bool true]) (by simp [results, Try.results11, go_sem, z0, z1]) rfl ?_
  exact hfin2.out W' kW'
end Go.Proofs.Ytllhmbemcmigoaa
end

section
namespace Go.Proofs.Ytllhmbemcmigoaa
open Go.RowKit Go.Hay
set_option linter.unusedVariables false
set_option linter.unusedSimpArgs false

set_option maxHeartbeats 16000000 in
set_option maxRecDepth 100000 in
theorem cNStep1s {w : World} {p : Nat} {v : Value} {n : Nt} (hN : Net w p v n) (hB : Smalls n) (hb : n.l.length ≤ 6000000000000) (r : RN) (hr : RnOk w r) (hL : LikeN r n) (hT : ∀ k ∈ r.foot, k ∉ p :: own v) (o : NOp) (hok : o.ok w) (hk : o.kind = 1) {m : Msg} (ho : atN n o.n = some m) :
    Calls Try.prog 11 #[.pointer (some ⟨p, 0, none⟩), r.v, o.v] w (StN p v r o (n) w) := by
  obtain ⟨w1, hw1, k1, bx, hsz⟩ := boxCN r o w
  have hlt := hN.ltAll
  have hrl := hr.lt
  have hlr : r.l.length ≤ 6000000000000 := by have := hL.len; omega
  have hp0 : w.heap.size ∉ p :: own v := fun h => by have := hlt _ h; omega
  have hp1 : w.heap.size + 1 ∉ p :: own v := fun h => by have := hlt _ h; omega
  have hp2 : w.heap.size + 1 + 1 ∉ p :: own v := fun h => by have := hlt _ h; omega
  have hr2 : w.heap.size + 1 + 1 ∉ r.foot := fun h => by have := hrl _ h; omega
  have hC := cAt (hN.keptNew k1) hB (by omega) o.n
  rw [ho] at hC
  unfold AtP at hC
  simp only at hC
  obtain ⟨kN, ekN, hm, hkl⟩ := atN_some ho
  obtain ⟨xr, hxr, exr⟩ := hL.at hm
  have hxb : Hid (m.to = xr.to ∧ m.body = xr.bs) := by rw [← exr]; exact ⟨rfl, rfl⟩
  have hsmx : xr.bs.length ≤ 140737488355328 := by have := hB m (List.mem_of_getElem? hm); rw [hxb.out.2] at this; exact this
  have hAk : Hid (∀ A (a : Option Addr) (c : Nat), Kp [] w A → Sees A a xr.bs → Calls Try.prog 23 #[.int .i64 xr.to, .slice a xr.bs.length c, .bool true, r.v, .int .i64 o.n] A fun e w' => e = .returned (.bool true) ∧ Kp [] A w') := fun A a c kA hs => by rw [ekN]; exact cAskedS r A (hr.keptNew kA) hlr kN xr hxr a c hs
  have hfin : Hid (∀ w4, Kp [] w w4 → ∀ W', Kp [w.heap.size + 1 + 1] w4 W' → StN p v r o n w (.returned (.tuple #[.pointer (some ⟨p, 0, none⟩), r.v, .bool true])) W') := fun w4 k W' kW =>
    stFinN (k.mono (by simp)) (hN.keptNew k) (hr.keptNew k) hL (fun k hk => .inl hk) (fun k hk => .inl (by simp [hk])) hT (by omega) hp2 hr2 kW
  clear hL hr hT hrl ho hm exr hxr ekN
  obtain ⟨room, la, lc, l⟩ := r
  simp only [RN.v, NOp.v] at *
  have b0 := bx.rd.c0; have b1 := bx.rd.c1
  have o0 := bx.o0; have o1 := bx.o1; have o2 := bx.o2; have o3 := bx.o3
  rw [hk] at o0 hw1 ⊢
  go_enter Try.func11, Try.ntmps11
  go_wp2_with fail
  refine hC.mono ?_
  rintro e w2 ⟨ya, yc, rfl, hrow, k2, hyn⟩
  rw [hxb.out.1, hxb.out.2]
  rw [hxb.out.2] at hrow
  obtain ⟨_, _, er, hsy, _⟩ := hrow.sees
  cases er
  have bx2 := bx.kept k2
  clear b0 b1 o0 o1 o2 o3
  have b0 := bx2.rd.c0; have b1 := bx2.rd.c1; have o2 := bx2.o2
  go_wp2_with fail
  refine (hAk.out w2 ya yc (k1.trans k2 (by simp)) hsy).mono ?_
  rintro e w3 ⟨rfl, k3⟩
  have bx3 := bx2.kept k3
  clear b0 b1 o2 hC hAk
  have kw3 : Kp [] w w3 := (k1.trans k2 (by simp)).trans k3 (by simp)
  have hrow3 := hrow.kept k3 (by simp)
  have hz3 := k2.size
  obtain ⟨L, hLe⟩ : ∃ L, Hid (xr.bs.length = L) := ⟨_, rfl⟩
  rw [hLe.out] at hrow3 hsmx ⊢
  clear hsy hrow
  go_wp2_with fail
  go_loopw [86] (fun i wn => ∃ (j : Nat) (zs : List UInt8), j ≤ L ∧ i = .int .i64 j ∧ Hid (zs.length = L) ∧ Row wn (.slice ya L yc) zs ∧ Kp (blk ya) w3 wn) (fun i _ => L - (intOf i).toNat)
  case atStart => exact ⟨0, xr.bs, Nat.zero_le _, rfl, hLe.out, hrow3, Kp.refl _ _⟩
  case round =>
    obtain ⟨j, zs, hj, rfl, hzl, hrz, hkz⟩ := hrel
    by_cases hjl : j < L
    · obtain ⟨y, hy⟩ : ∃ y, zs[j]? = some y := ⟨zs[j]'(by rw [hzl.out]; exact hjl), by simp [hzl.out, hjl]⟩
      obtain ⟨g, o', ea, en, hcell, hfro⟩ := rowAt hrz hy
      have hrz2 := hrz
      rw [ea] at hrz2
      have hput := Row.put hrz2 j (by rw [hzl.out]; exact hjl) (UInt8.ofNat (y.toNat + 1))
      have hw8 := u8add y 1 (by omega)
      have hkz2 : Kp (blk ya) w3 (wr.setCell ⟨g, o' + j, none⟩ (.int .u8 (IntKind.u8.wrap ((y.toNat : Int) + (1 : Nat))))) := hkz.setCell (p := ⟨g, o' + j, none⟩) (.inl (by rw [ea]; simp [blk])) _
      rw [← hw8] at hput
      have hyl : Hid ((zs.set j (UInt8.ofNat (y.toNat + 1))).length = L) := by show _ = _; rw [List.length_set]; exact hzl.out
      rw [← ea] at hput
      clear hy hzl hrz2 en hw8
      subst ea
      go_wp2_with fail
      exact ⟨⟨j + 1, _, by omega, by go_num, hyl, hput, hkz2⟩, by simp [intOf]; omega⟩
    · have hjn : ¬ ((j : Int) < (L : Int)) := by omega
      have hnq : ∀ q, q < w1.heap.size → q ∉ blk ya := fun q hq h => by have := hyn q h; omega
      have kf : Kp [] w wr.drew := (kw3.trans hkz (fun k hk => .inr (by have := hyn k hk; omega))).drew
      have rdd := (bx3.rd.keptS hkz (hnq _ (by omega))).kept (w' := wr.drew) (Kp.refl _ _).drew
      have an4 := (bx3.an.keptS hkz (hnq _ (by omega))).kept (w' := wr.drew) (Kp.refl _ _).drew
      obtain ⟨r0, r1, rf⟩ := an4
      have hb4 : B2 wr.drew (w.heap.size + 1 + 1) (.int .i64 0) (.slice none 0 0) := ⟨r0, r1, rf⟩
      have g0 := rf 0; have g1 := rf 1
      have hS : Hid (∀ A, Kp [w.heap.size + 1 + 1] wr.drew A → (A.cell? ⟨w.heap.size, 0, none⟩ = some (.int .i64 room) ∧ A.cell? ⟨w.heap.size, 1, none⟩ = some (.slice la l.length lc))) := fun A kA => by
        have b := rdd.keptS kA (by simp <;> omega)
        exact ⟨b.c0, b.c1⟩
      clear hrz hkz hzl
      go_wp2_with fail
      refine wp_region_held_drew (S := (fun A => A.cell? ⟨w.heap.size, 0, none⟩ = some (.int .i64 room) ∧ A.cell? ⟨w.heap.size, 1, none⟩ = some (.slice la l.length lc))) (by kernel_rfl) ?_ (fun hHeld => ?_)
      · exact hS.out _ (Kp.refl _ _)
      generalize wr.drew = wd at *
      refine wpAnyH_take (i := 0) (v := ?_) rfl (by kernel_rfl) (by kernel_rfl) (by kernel_rfl) (fun _ _ _ h => h) (Or.inl ⟨by rfl, ?_⟩) (by assumption) ?_
      rotate_left
      · intro w hSw; (try dsimp only at hSw); go_simp <;> with_reducible rfl
      try simp only [Act.put, List.getElem_toArray, List.getElem_cons_zero, List.getElem_cons_succ, List.setIfInBounds_toArray, List.set_cons_zero, List.set_cons_succ]
      refine wpAnyH_take (i := 1) (v := ?_) rfl (by kernel_rfl) (by kernel_rfl) (by kernel_rfl) (fun _ _ _ h => h) (Or.inl ⟨by rfl, ?_⟩) (by assumption) ?_
      rotate_left
      · intro w hSw; (try dsimp only at hSw); go_simp <;> with_reducible rfl
      try simp only [Act.put, List.getElem_toArray, List.getElem_cons_zero, List.getElem_cons_succ, List.setIfInBounds_toArray, List.set_cons_zero, List.set_cons_succ]
      refine wpAnyH_take (i := 2) (v := ?_) rfl (by kernel_rfl) (by kernel_rfl) (by kernel_rfl) (fun _ _ _ h => h) (Or.inl ⟨by rfl, ?_⟩) (by assumption) ?_
      rotate_left
      · intro w hSw; (try dsimp only at hSw); go_simp <;> with_reducible rfl
      try simp only [Act.put, List.getElem_toArray, List.getElem_cons_zero, List.getElem_cons_succ, List.setIfInBounds_toArray, List.set_cons_zero, List.set_cons_succ]
      refine wpAnyH_take (i := 3) (v := ?_) rfl (by kernel_rfl) (by kernel_rfl) (by kernel_rfl) (fun _ _ _ h => h) (Or.inl ⟨by rfl, ?_⟩) (by assumption) ?_
      rotate_left
      · intro w hSw; (try dsimp only at hSw); go_simp <;> with_reducible rfl
      try simp only [Act.put, List.getElem_toArray, List.getElem_cons_zero, List.getElem_cons_succ, List.setIfInBounds_toArray, List.set_cons_zero, List.set_cons_succ]
      refine wpAnyH_ready (rs := [4]) (by kernel_rfl) (by simp) ?_
      refine AllReadyH.cons rfl (fun K hK => ?_) AllReadyH.nil
      go_simp
      (try go_wp2_with fail)
      refine hK.out _ _ ?_ (fun hHeld => ?_)
      · exact hS.out _ (kpSet2 _ _ _ _)
      clear hK K
      try simp only [Act.put, List.getElem_toArray, List.getElem_cons_zero, List.getElem_cons_succ, List.setIfInBounds_toArray, List.set_cons_zero, List.set_cons_succ]
      refine wpAnyH_take (i := 5) (v := ?_) rfl (by kernel_rfl) (by kernel_rfl) (by kernel_rfl) (fun _ _ _ h => h) (Or.inl ⟨by rfl, ?_⟩) (by assumption) ?_
      rotate_left
      · intro w hSw; (try dsimp only at hSw); go_simp <;> with_reducible rfl
      try simp only [Act.put, List.getElem_toArray, List.getElem_cons_zero, List.getElem_cons_succ, List.setIfInBounds_toArray, List.set_cons_zero, List.set_cons_succ]
      refine wpAnyH_done (by kernel_rfl) ?_ _
      go_wp2_with fail
      obtain ⟨W', hW', hb6, kW'⟩ := set2_ex hb4 (.int .i64 room) (.slice la l.length lc)
      rw [hW']
      obtain ⟨z0, z1, _⟩ := hb6
      refine bodyPost_ret (v := .tuple #[.pointer (some ⟨p, 0, none⟩), .agg #[.int .i64 room, .slice la l.length lc], .bool true]) (by simp [results, Try.results11, go_sem, z0, z1]) rfl ?_
      exact hfin.out _ kf W' kW'
set_option maxHeartbeats 16000000 in
set_option maxRecDepth 100000 in
theorem cNStep1n {w : World} {p : Nat} {v : Value} {n : Nt} (hN : Net w p v n) (hB : Smalls n) (hb : n.l.length ≤ 6000000000000) (r : RN) (hr : RnOk w r) (hL : LikeN r n) (hT : ∀ k ∈ r.foot, k ∉ p :: own v) (o : NOp) (hok : o.ok w) (hk : o.kind = 1) (ho : atN n o.n = none) :
    Calls Try.prog 11 #[.pointer (some ⟨p, 0, none⟩), r.v, o.v] w (StN p v r o (n) w) := by
  obtain ⟨w1, hw1, k1, bx, hsz⟩ := boxCN r o w
  have hlt := hN.ltAll
  have hrl := hr.lt
  have hlr : r.l.length ≤ 6000000000000 := by have := hL.len; omega
  have hp0 : w.heap.size ∉ p :: own v := fun h => by have := hlt _ h; omega
  have hp1 : w.heap.size + 1 ∉ p :: own v := fun h => by have := hlt _ h; omega
  have hp2 : w.heap.size + 1 + 1 ∉ p :: own v := fun h => by have := hlt _ h; omega
  have hr2 : w.heap.size + 1 + 1 ∉ r.foot := fun h => by have := hrl _ h; omega
  have hC := cAt (hN.keptNew k1) hB (by omega) o.n
  rw [ho] at hC
  unfold AtP at hC
  simp only at hC
  have hAk : Hid (∀ A, Calls Try.prog 23 #[.int .i64 0, .slice none 0 0, .bool false, r.v, .int .i64 o.n] A fun e w' => e = .returned (.bool true) ∧ Kp [] A w') := fun A => cAskedN r o.n A ((atN_none ho).imp id (fun h => by have := hL.len; omega))
  have hfin : Hid (∀ w4, Kp [] w w4 → ∀ W', Kp [w.heap.size + 1 + 1] w4 W' → StN p v r o n w (.returned (.tuple #[.pointer (some ⟨p, 0, none⟩), r.v, .bool true])) W') := fun w4 k W' kW =>
    stFinN (k.mono (by simp)) (hN.keptNew k) (hr.keptNew k) hL (fun k hk => .inl hk) (fun k hk => .inl (by simp [hk])) hT (by omega) hp2 hr2 kW
  clear hL hr hT hrl ho
  obtain ⟨room, la, lc, l⟩ := r
  simp only [RN.v, NOp.v] at *
  have b0 := bx.rd.c0; have b1 := bx.rd.c1
  have o0 := bx.o0; have o1 := bx.o1; have o2 := bx.o2; have o3 := bx.o3
  rw [hk] at o0 hw1 ⊢
  go_enter Try.func11, Try.ntmps11
  go_wp2_with fail
  refine hC.mono ?_
  rintro e w2 ⟨rfl, k2⟩
  have bx2 := bx.kept k2
  clear b0 b1 o0 o1 o2 o3
  have b0 := bx2.rd.c0; have b1 := bx2.rd.c1; have o2 := bx2.o2
  go_wp2_with fail
  refine (hAk.out w2).mono ?_
  rintro e w3 ⟨rfl, k3⟩
  have bx3 := bx2.kept k3
  clear b0 b1 o2 hC hAk
  have kw3 : Kp [] w w3 := (k1.trans k2 (by simp)).trans k3 (by simp)
  go_wp2_with fail
  go_loopw [86] (fun i wn => i = .int .i64 0 ∧ wn = w3) (fun _ _ => 0)
  case atStart => exact ⟨rfl, rfl⟩
  case round =>
    obtain ⟨rfl, rfl⟩ := hrel
    have kf : Kp [] w wr.drew := kw3.drew
    have rdd := bx3.rd.kept (w' := wr.drew) (Kp.refl _ _).drew
    have an4 := bx3.an.kept (w' := wr.drew) (Kp.refl _ _).drew
    obtain ⟨r0, r1, rf⟩ := an4
    have hb4 : B2 wr.drew (w.heap.size + 1 + 1) (.int .i64 0) (.slice none 0 0) := ⟨r0, r1, rf⟩
    have g0 := rf 0; have g1 := rf 1
    have hS : Hid (∀ A, Kp [w.heap.size + 1 + 1] wr.drew A → (A.cell? ⟨w.heap.size, 0, none⟩ = some (.int .i64 room) ∧ A.cell? ⟨w.heap.size, 1, none⟩ = some (.slice la l.length lc))) := fun A kA => by
      have b := rdd.keptS kA (by simp <;> omega)
      exact ⟨b.c0, b.c1⟩
    go_wp2_with fail
    refine wp_region_held_drew (S := (fun A => A.cell? ⟨w.heap.size, 0, none⟩ = some (.int .i64 room) ∧ A.cell? ⟨w.heap.size, 1, none⟩ = some (.slice la l.length lc))) (by kernel_rfl) ?_ (fun hHeld => ?_)
    · exact hS.out _ (Kp.refl _ _)
    generalize wr.drew = wd at *
    refine wpAnyH_take (i := 0) (v := ?_) rfl (by kernel_rfl) (by kernel_rfl) (by kernel_rfl) (fun _ _ _ h => h) (Or.inl ⟨by rfl, ?_⟩) (by assumption) ?_
    rotate_left
    · intro w hSw; (try dsimp only at hSw); go_simp <;> with_reducible rfl
    try simp only [Act.put, List.getElem_toArray, List.getElem_cons_zero, List.getElem_cons_succ, List.setIfInBounds_toArray, List.set_cons_zero, List.set_cons_succ]
    refine wpAnyH_take (i := 1) (v := ?_) rfl (by kernel_rfl) (by kernel_rfl) (by kernel_rfl) (fun _ _ _ h => h) (Or.inl ⟨by rfl, ?_⟩) (by assumption) ?_
    rotate_left
    · intro w hSw; (try dsimp only at hSw); go_simp <;> with_reducible rfl
    try simp only [Act.put, List.getElem_toArray, List.getElem_cons_zero, List.getElem_cons_succ, List.setIfInBounds_toArray, List.set_cons_zero, List.set_cons_succ]
    refine wpAnyH_take (i := 2) (v := ?_) rfl (by kernel_rfl) (by kernel_rfl) (by kernel_rfl) (fun _ _ _ h => h) (Or.inl ⟨by rfl, ?_⟩) (by assumption) ?_
    rotate_left
    · intro w hSw; (try dsimp only at hSw); go_simp <;> with_reducible rfl
    try simp only [Act.put, List.getElem_toArray, List.getElem_cons_zero, List.getElem_cons_succ, List.setIfInBounds_toArray, List.set_cons_zero, List.set_cons_succ]
    refine wpAnyH_take (i := 3) (v := ?_) rfl (by kernel_rfl) (by kernel_rfl) (by kernel_rfl) (fun _ _ _ h => h) (Or.inl ⟨by rfl, ?_⟩) (by assumption) ?_
    rotate_left
    · intro w hSw; (try dsimp only at hSw); go_simp <;> with_reducible rfl
    try simp only [Act.put, List.getElem_toArray, List.getElem_cons_zero, List.getElem_cons_succ, List.setIfInBounds_toArray, List.set_cons_zero, List.set_cons_succ]
    refine wpAnyH_ready (rs := [4]) (by kernel_rfl) (by simp) ?_
    refine AllReadyH.cons rfl (fun K hK => ?_) AllReadyH.nil
    go_simp
    (try go_wp2_with fail)
    refine hK.out _ _ ?_ (fun hHeld => ?_)
    · exact hS.out _ (kpSet2 _ _ _ _)
    clear hK K
    try simp only [Act.put, List.getElem_toArray, List.getElem_cons_zero, List.getElem_cons_succ, List.setIfInBounds_toArray, List.set_cons_zero, List.set_cons_succ]
    refine wpAnyH_take (i := 5) (v := ?_) rfl (by kernel_rfl) (by kernel_rfl) (by kernel_rfl) (fun _ _ _ h => h) (Or.inl ⟨by rfl, ?_⟩) (by assumption) ?_
    rotate_left
    · intro w hSw; (try dsimp only at hSw); go_simp <;> with_reducible rfl
    try simp only [Act.put, List.getElem_toArray, List.getElem_cons_zero, List.getElem_cons_succ, List.setIfInBounds_toArray, List.set_cons_zero, List.set_cons_succ]
    refine wpAnyH_done (by kernel_rfl) ?_ _
    go_wp2_with fail
    obtain ⟨W', hW', hb6, kW'⟩ := set2_ex hb4 (.int .i64 room) (.slice la l.length lc)
    rw [hW']
    obtain ⟨z0, z1, _⟩ := hb6
    refine bodyPost_ret (v := .tuple #[.pointer (some ⟨p, 0, none⟩), .agg #[.int .i64 room, .slice la l.length lc], .bool true]) (by simp [results, Try.results11, go_sem, z0, z1]) rfl ?_
    exact hfin.out _ kf W' kW'
end Go.Proofs.Ytllhmbemcmigoaa
end

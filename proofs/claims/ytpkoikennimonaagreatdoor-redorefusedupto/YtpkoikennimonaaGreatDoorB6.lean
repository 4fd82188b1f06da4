/- Read, the program's. The body of a frame, the reference's. Unframe, the reference's; its slice's room too. Read, the reference's. Frames, the reference's. -/
import Derived.Test.YtpkoikennimonaaGreatDoorB5
import Derived.WalkMore
import Derived.Test.YtpkoikennimonaaGreatDoorB3
import Derived.Test.YtpkoikennimonaaGreatDoorB4
import Derived.Test.YtpkoikennimonaaGreatDoorB2
section
namespace Go.Proofs.YtpkoikennimonaaGreatDoor
open Go.RowKit Go.Hay Go.Shelf
attribute [local go_sem] Oper.semAt_some
set_option linter.unusedVariables false
set_option linter.unusedSimpArgs false

/-- What Read hands back. -/
def RdP (r : List (List UInt8) × Nat × Int) (w : World) (e : Ending) (w' : World) : Prop := ∃ v, e = .returned (.tuple #[v, .int .i64 (r.2.1 : Int), .int .i64 r.2.2]) ∧ RowP (fun k => w.heap.size ≤ k) w' v r.1 ∧ Kp [] w w'
/-- The blocks that the records may lie in while one frame is read: what there was when it began, or what came when the range had begun. -/
def Bz (n0 z0 z1 : Nat) : Nat → Prop := fun k => n0 ≤ k ∧ (k < z0 ∨ z1 ≤ k)
/-- How Read's memory stands between two rounds of the range over a frame's records. -/
structure RdI (p : Nat) (D : List Nat) (full : List UInt8) (w : World) (qb z0 z1 : Nat) (acc : List (List UInt8)) (Ds : List Nat) (s : St) (W : World) (L : List (List UInt8)) (v : Value) : Prop where
  run : Run 16777216 full s L
  box : W.cell? ⟨qb, 0, none⟩ = some v
  free : W.frozen? ⟨qb, 0, none⟩ = false
  row : RowP (Bz (qb + 1) z0 z1) W v (acc ++ L)
  rd : Rd W p D s.bs s.e
  kp : Kp [] w W
  size : z1 ≤ W.heap.size
  nil : acc ++ L = [] → v = .slice none 0 0
  pend : ∀ x out, s.pend = some (x, out) → Row W x out ∧ ∀ k ∈ own x, Bz (qb + 1) z0 z1 k ∧ k ∉ own v
  mks : Mks Ds W
def RdJ (p : Nat) (D : List Nat) (full : List UInt8) (w : World) (qb z0 z1 : Nat) (acc : List (List UInt8)) (Ds : List Nat) (s : St) (W : World) : Prop := ∃ L v, RdI p D full w qb z0 z1 acc Ds s W L v
theorem rdOwn (p : Nat) (D : List Nat) (full : List UInt8) (w : World) (qb z0 z1 : Nat) (acc : List (List UInt8)) (Ds : List Nat) (hDs : ∀ k ∈ Ds, k < z1) (hz : w.heap.size ≤ z1) : OwnFrom z1 (RdJ p D full w qb z0 z1 acc Ds) := by
  rintro s W W' row ⟨L, v, h⟩ hg hr
  have hk := kpOfGrown hg
  have hn := nocOf hr
  refine ⟨L, v, h.run, cellN hk hn h.box, (frozenN hk hn (by rw [h.box]; rfl)).trans h.free, rowPN hk hn h.row, rdN hk hn h.rd, h.kp.trans hk (fun x hx => .inr (by have := (hr x (by simpa [Option.mem_toList] using hx)).1; omega)), Nat.le_trans h.size hk.size, h.nil, fun x out hp => ⟨rowN hk hn (h.pend x out hp).1, (h.pend x out hp).2⟩, h.mks.kept hk (fun k hk' hm => by have := (hr k (by simpa [Option.mem_toList] using hm)).1; have := hDs k hk'; omega)⟩
theorem rdTurn (p : Nat) (D : List Nat) (full : List UInt8) (w : World) (qb z0 z1 : Nat) (acc : List (List UInt8)) (Ds : List Nat) (hp0 : z0 ≤ p) (hp1 : p < z1) (hqb : qb < z0) (hw : w.heap.size ≤ qb) (s s' : St) (A B : World) (h : RdJ p D full w qb z0 z1 acc Ds s A) (ht : Turn p D 16777216 s s' A B) : RdJ p D full w qb z0 z1 acc Ds s' B := by
  obtain ⟨L, v, h⟩ := h
  have hk := ht.1
  have hpm : p ∉ Ds := h.mks.cell (a := ⟨p, 1, none⟩) (by rw [h.rd.err]; rfl)
  have hbn : ∀ k ∈ [p], ¬ Bz (qb + 1) z0 z1 k := fun k hk' hb => by
    rw [List.mem_singleton] at hk'
    subst hk'
    rcases hb.2 with h1 | h1 <;> omega
  refine ⟨L, v, run_turn h.run ht, (hk.cell (p := ⟨qb, 0, none⟩) (World.block_lt_of_cell? _ _ h.box) (by simp; omega)).trans h.box, (hk.frozen (p := ⟨qb, 0, none⟩) (World.block_lt_of_cell? _ _ h.box) (by simp; omega)).trans h.free, h.row.kept hk hbn, ht.2.1, h.kp.trans hk (fun x hx => .inr (by simp at hx; omega)), Nat.le_trans h.size hk.size, h.nil, ?_, h.mks.kept hk (fun k hk' => by simp; rintro rfl; exact hpm hk')⟩
  intro x out hpe
  obtain ⟨_, _, ⟨_, n, _, _, hs'⟩ | ⟨_, _, _, _, v', out', _, hs', hrow, hown⟩⟩ := ht
  · rw [hs'] at hpe; cases hpe
  · rw [hs'] at hpe
    cases hpe
    refine ⟨hrow, fun k hk' => ⟨⟨by have := hown k hk'; have := h.size; omega, .inr (by have := hown k hk'; have := h.size; omega)⟩, fun hm => ?_⟩⟩
    have := h.row.lt k hm
    have := hown k hk'
    omega
theorem keepsTurnQ {p : Nat} {D : List Nat} {most : Int} {s s' : St} {A B : World} (h : Turn p D most s s' A B) (n : Nat) (hp : p < n) : KeepsFrom n A B := keepsTurn h n hp

/-- How Read's memory stands between two frames. -/
structure RI (w : World) (qb : Nat) (W : World) (n : Nat) (acc : List (List UInt8)) (v : Value) (Ds : List Nat) : Prop where
  box : W.cell? ⟨qb, 0, none⟩ = some v
  free : W.frozen? ⟨qb, 0, none⟩ = false
  row : RowP (fun k => qb + 1 ≤ k) W v acc
  nil : acc = [] → v = .slice none 0 0
  kp : Kp [] w W
  mks : Mks Ds W
  low : ∀ D ∈ Ds, w.heap.size ≤ D
  len : acc.length ≤ n
theorem mksNoc {Ds : List Nat} {w : World} (h : Mks Ds w) : NoC Ds w := fun r hr => ⟨_, h.at_ r hr, rfl⟩
theorem RI.keep {w : World} {qb : Nat} {W W' : World} {n : Nat} {acc : List (List UInt8)} {v : Value} {Ds : List Nat} (h : RI w qb W n acc v Ds) (k : Kp [] W W') : RI w qb W' n acc v Ds :=
  ⟨(k.cell (p := ⟨qb, 0, none⟩) (World.block_lt_of_cell? _ _ h.box) (by simp)).trans h.box, (k.frozen (p := ⟨qb, 0, none⟩) (World.block_lt_of_cell? _ _ h.box) (by simp)).trans h.free, h.row.kept k (by simp), h.nil, h.kp.trans k (by simp), h.mks.kept k (by simp), h.low, h.len⟩
/-- It is left here: what is told. -/
theorem RI.leave {w : World} {qb : Nat} {W : World} {n : Nat} {acc : List (List UInt8)} {v : Value} {Ds : List Nat} (hq : w.heap.size ≤ qb) (h : RI w qb W n acc v Ds) {w' : World} (k : Kp Ds W w') : RowP (fun k => w.heap.size ≤ k) w' v acc ∧ Kp [] w w' :=
  ⟨(rowPN k (mksNoc h.mks) h.row).mono (fun j _ hj => by omega), h.kp.trans k (fun x hx => .inr (h.low x hx))⟩
set_option maxHeartbeats 16000000 in
set_option maxRecDepth 100000 in
theorem cReadQ (a : Option Addr) (c : Nat) (bs : List UInt8) (w : World) (ht : Tab w) (hs : Sees w a bs) (hl : bs.length ≤ c) (hm : c ≤ maxLen) (hb : bs.length ≤ 4000000000000) :
    Calls Tryz.prog 35 #[.slice a bs.length c] w (RdP (rdQ bs) w) := by
  refine (callsIn_wide (n := 6)).1 ?_
  obtain ⟨w1, hw1⟩ : ∃ w1, w.alloc (.cells #[.slice none 0 0] 30) = w1 := ⟨_, rfl⟩
  obtain ⟨qb, hqb⟩ : ∃ q, Hid (w.heap.size = q) := ⟨_, rfl⟩
  have k1 : Kp [] w w1 := by rw [← hw1]; exact (Kp.refl _ _).alloc _
  have hbx1 : w1.cell? ⟨qb, 0, none⟩ = some (.slice none 0 0) := by rw [← hw1]; exact newCell _ _ _ hqb.out
  have hbf1 : w1.frozen? ⟨qb, 0, none⟩ = false := by rw [← hw1, ← hqb.out]; exact World.frozen?_alloc_new w _ _ 0
  have hqbw : w.heap.size ≤ qb := by rw [hqb.out]; omega
  obtain ⟨F, hF⟩ : ∃ F, Hid (rdQ bs = F) := ⟨_, rfl⟩
  have HF0 : Hid (finQ [] 0 (rdQ (bs.drop 0)) = F) := by show _ = _; rw [List.drop_zero, finQ_start, hF.out]
  rw [hF.out]
  have hTb : Hid (∀ W, Kp [] w W → Tab W ∧ Sees W a bs) := fun W k => ⟨ht.kept k (by simp), hs.kept k (by simp)⟩
  have hm' := hm
  unfold maxLen at hm'
  have H1 : Hid (RI w qb w1 0 [] (.slice none 0 0) []) := ⟨hbx1, hbf1, RowP.nil _ _, fun _ => rfl, k1, Mks.nil _, by simp, Nat.zero_le _⟩
  clear k1 hbx1 hbf1 ht hs hF
  refine callsIn_of_wp_marks Tryz.func35 rfl trivial ?_ rfl
  simp only [Tryz.ntmps35, List.size_toArray, List.length_cons, List.length_nil, Nat.reduceAdd, Nat.reduceSub, Array.replicate_succ, Array.replicate_zero, List.push_toArray, List.append_toArray, List.nil_append, List.cons_append]
  have hqb' := hqb.out
  refine wpIn_wide.2 ?_
  go_wp2_with fail
  go_step3
  go_wp2_with fail
  go_step3
  go_wp2_with fail
  rename_i K hK
  have HK : Hid (∀ (n : Nat) (acc : List (List UInt8)) (v : Value) (Ds : List Nat) (u7 u8 u9 u10 u11 u12 u13 u14 u15 u16 u17 u18 u19 u20 u21 u22 u23 u24 u25 u26 u27 u28 u29 u30 u31 u32 u33 u34 u35 u36 u37 u38 u39 u40 u41 u42 u43 u44 u45 u46 u47 : Value) (W : World), RI w qb W n acc v Ds → F = (acc, n, 0) → K { tmps := #[.slice a bs.length c, undef, .slice none 0 0, .int .i64 0, .int .i64 0, .pointer (some ⟨qb, 0, none⟩), .int .i64 (n : Int), u7, u8, u9, u10, u11, u12, u13, u14, u15, u16, u17, u18, u19, u20, u21, u22, u23, u24, u25, u26, u27, u28, u29, u30, u31, u32, u33, u34, u35, u36, u37, u38, u39, u40, u41, u42, u43, u44, u45, u46, u47], defers := marks Ds } W) := by
    intro n acc v Ds u7 u8 u9 u10 u11 u12 u13 u14 u15 u16 u17 u18 u19 u20 u21 u22 u23 u24 u25 u26 u27 u28 u29 u30 u31 u32 u33 u34 u35 u36 u37 u38 u39 u40 u41 u42 u43 u44 u45 u46 u47 W hR hFe
    refine hK _ _ ?_
    subst hFe
    have hbx := hR.box
    have HR := hid hR
    clear hK hR hw1 HF0 H1 hqb'
    go_wp2_with fail
    rw [Exit.noGoto_ret]
    exact leaves_marks Ds W HR.out.mks fun w' hk => ⟨_, results_tmp3 rfl _ _ _, v, rfl, (HR.out.leave hqbw hk).1, (HR.out.leave hqbw hk).2⟩
  have HB : Hid (∀ (n : Nat) (acc : List (List UInt8)) (v : Value) (Ds : List Nat) (A : Act) (W : World), RI w qb W n acc v Ds → F = ([], 0, 91) → A.defers = marks Ds → A.tmps.getD 2 undef = .slice none 0 0 → A.tmps.getD 3 undef = .int .i64 0 → A.tmps.getD 4 undef = .int .i64 91 → bodyPostM Fence.wide 6 Tryz.prog Tryz.f35 (RdP F w) .ret A W) := by
    intro n acc v Ds A W hR hFe hd h2 h3 h4
    subst hFe
    show LeavesInM _ _ _ _ _ _ A.defers .returning W
    rw [hd]
    refine leaves_marks Ds W hR.mks fun w' hk => ⟨_, results_tmp3 rfl _ _ _, .slice none 0 0, ?_, RowP.nil _ _, (hR.leave hqbw hk).2⟩
    rw [h2, h3, h4]
    rfl
  clear hK hw1 hqb'
  refine wp_loop (fun A W => ∃ (n : Nat) (acc : List (List UInt8)) (v : Value) (Ds : List Nat) (u7 u8 u9 u10 u11 u12 u13 u14 u15 u16 u17 u18 u19 u20 u21 u22 u23 u24 u25 u26 u27 u28 u29 u30 u31 u32 u33 u34 u35 u36 u37 u38 u39 u40 u41 u42 u43 u44 u45 u46 u47 : Value), A = { tmps := #[.slice a bs.length c, undef, .slice none 0 0, .int .i64 0, .int .i64 0, .pointer (some ⟨qb, 0, none⟩), .int .i64 (n : Int), u7, u8, u9, u10, u11, u12, u13, u14, u15, u16, u17, u18, u19, u20, u21, u22, u23, u24, u25, u26, u27, u28, u29, u30, u31, u32, u33, u34, u35, u36, u37, u38, u39, u40, u41, u42, u43, u44, u45, u46, u47], defers := marks Ds } ∧ n ≤ bs.length ∧ Hid (finQ acc n (rdQ (bs.drop n)) = F) ∧ Hid (RI w qb W n acc v Ds)) (fun A _ => bs.length - (intOf (A.tmps.getD 6 undef)).toNat) ⟨0, [], .slice none 0 0, [], undef, undef, undef, undef, undef, undef, undef, undef, undef, undef, undef, undef, undef, undef, undef, undef, undef, undef, undef, undef, undef, undef, undef, undef, undef, undef, undef, undef, undef, undef, undef, undef, undef, undef, undef, undef, undef, undef, undef, undef, undef, rfl, Nat.zero_le _, HF0, H1⟩ ?_
  rintro A W ⟨n, acc, v, Ds, u7, u8, u9, u10, u11, u12, u13, u14, u15, u16, u17, u18, u19, u20, u21, u22, u23, u24, u25, u26, u27, u28, u29, u30, u31, u32, u33, u34, u35, u36, u37, u38, u39, u40, u41, u42, u43, u44, u45, u46, u47, rfl, hn, HF, HR⟩
  clear HF0 H1
  by_cases hlt : n < bs.length
  · have dj1 : (n : Int) < (bs.length : Int) := by omega
    have dj0 : (0 : Int) ≤ (n : Int) := by omega
    obtain ⟨hTW, hSW⟩ := hTb.out W HR.out.kp
    have hU := cUnframe (Option.map (fun x => x.add n) a) (bs.length - n) (c - n) (bs.drop n) W hTW (hSW.tail n) (by simp) (by simp; omega) (by unfold maxLen; omega) (by simp; omega)
    have hne : bs.drop n ≠ [] := fun h => by have := congrArg List.length h; simp at this; omega
    have huk := @unf_ok (bs.drop n)
    have hul := unf_len (bs.drop n)
    have hr10 := @rdQ_short (bs.drop n)
    have hrbad := @rdQ_bad (bs.drop n) hne
    have hrbody := @rdQ_body (bs.drop n) hne
    have hrstep := fun h h2 => finQ_step (bs := bs.drop n) acc n hne h h2
    obtain ⟨⟨bd, un, ue⟩, hu⟩ : ∃ U, unf (bs.drop n) = U := ⟨_, rfl⟩
    rw [hu] at hU huk hul hr10 hrbad hrbody hrstep
    dsimp only at hU huk hul hr10 hrbad hrbody hrstep
    rw [List.length_drop] at huk
    have Hst := hid (And.intro huk (And.intro hr10 (And.intro hrbad (And.intro hrbody hrstep))))
    have HU := hid hU
    clear hu hne huk hr10 hrbad hrbody hrstep hU hTW hSW
    go_wp2_with fail
    refine HU.out.mono ?_
    rintro e w2 ⟨v2, rfl, hr2, k2, hn2⟩
    have HR2 := hid (HR.out.keep k2)
    obtain ⟨b2, c2, rfl, hs2, ho2⟩ := hr2.sees
    have hs2' := hid hs2
    have hz2 := k2.size
    clear HU hr2 hn2 hs2 ho2
    by_cases h10 : ue = 10
    · have hFe : F = (acc, n, 0) := by
        rw [← HF.out, Hst.out.2.1 h10]
        simp [finQ]
      subst h10
      go_wp2_with fail
      exact HK.out n acc v Ds _ _ _ _ _ _ _ _ _ _ _ _ _ _ _ _ _ _ _ _ _ _ _ _ _ _ _ _ _ _ _ _ _ _ _ _ _ _ _ _ _ w2 HR2.out hFe
    by_cases h00 : ue = 0
    · subst h00
      have hR3 := rRead b2 bd.length c2 bd w2 hs2'.out rfl (by omega)
      have HRd := hid hR3
      clear hR3 h10
      go_wp2_with fail
      refine HRd.out.mono ?_
      rintro e w3 ⟨p, D, rfl, hrd3, k3, hp3, hD3⟩
      have hz3 := k3.size
      have hI := cItems p 16777216 w3
      have H3 := hid (And.intro hrd3 (And.intro k3 (And.intro hp3 hD3)))
      clear HRd hrd3 k3 hp3 hD3
      go_wp2_with fail
      refine hI.mono ?_
      rintro e w4 ⟨rfl, k4, hsz4, d1, d2, d3⟩
      clear hI
      have hrd3 := H3.out.1
      have hp3 := H3.out.2.2.1
      have hD3 := H3.out.2.2.2
      have hpl3 := hrd3.lt
      have hdl3 := hrd3.dlt
      have HR4 := (HR2.out.keep H3.out.2.1).keep k4
      have hrd4 := hrd3.kept k4 (by simp) (by simp)
      have hzW : W.heap.size ≤ w2.heap.size := hz2
      have hz4 := k4.size
      have hqbz : qb < w2.heap.size := World.block_lt_of_cell? _ _ HR2.out.box
      have hJs : ∀ j ∈ p :: w3.heap.size :: (w3.heap.size + 1) :: (w3.heap.size + 2) :: D, w2.heap.size ≤ j ∧ j < w4.heap.size := by
        intro j hj
        rcases List.mem_cons.1 hj with rfl | hj
        · omega
        rcases List.mem_cons.1 hj with rfl | hj
        · omega
        rcases List.mem_cons.1 hj with rfl | hj
        · omega
        rcases List.mem_cons.1 hj with rfl | hj
        · omega
        · have := hdl3 j hj; have := hD3 j hj; omega
      have hrow4 : RowP (Bz (qb + 1) w2.heap.size w4.heap.size) w4 v acc := by
        have h0 : RowP (Bz (qb + 1) w2.heap.size w4.heap.size) W v acc := HR.out.row.mono (fun k hk hq => ⟨hq, .inl (by omega)⟩)
        exact ((h0.kept k2 (by simp)).kept H3.out.2.1 (by simp)).kept k4 (by simp)
      have hJ0 : RdJ p D bd w qb w2.heap.size w4.heap.size acc Ds ⟨0, 0, bd, 0, false, none⟩ w4 := ⟨[], v, .inl ⟨rfl, rfl⟩, HR4.box, HR4.free, by rw [List.append_nil]; exact hrow4, hrd4, HR4.kp, Nat.le_refl _, fun h => HR4.nil (by simpa using h), fun x out h => (by cases h), HR4.mks⟩
      have hDs4 := HR4.mks.lt
      have hwz : w.heap.size ≤ w4.heap.size := HR4.kp.size
      have hseq := itemsSeq (6 - 1) (by omega) p w3.heap.size (w3.heap.size + 1) (w3.heap.size + 2) D 16777216 (by omega) (by omega) bd 0 w4 d1 d2 d3 hrd4 ⟨by omega, by omega, by omega⟩ (fun N bs1 e1 h => by have := countS_le h; omega)
      have hlow := hid HR4.low
      have hlen := HR4.len
      clear d1 d2 d3 hrd4 k4 HR4 hrow4 H3 HR HR2 k2 hs2' hsz4
      go_wp2_with fail
      refine (wpIn_wide (n := 6)).1 ?_
      refine wpRangeT rfl (by omega) (gf := 84) (lb := #[.pointer (some ⟨w3.heap.size, 0, none⟩), .pointer (some ⟨w3.heap.size + 1, 0, none⟩), .pointer (some ⟨w3.heap.size + 2, 0, none⟩)]) rfl trivial (enters_of Tryz.func84 (by kernel_rfl) rfl)
        hseq (fun _ => rfl) Away.trans (Away.alloc _) (fun W l o o' hl _ _ => Away.putObj (fun j hj => (hJs j hj).2) W l o' hl) ⟨[], Kp.refl _ _, by simp⟩ (fun s s' A B ht => keepsTurn ht _ (hJs p (by simp)).2)
        (RdJ p D bd w qb w2.heap.size w4.heap.size acc Ds) (fun _ _ _ => False) (rdOwn p D bd w qb _ _ acc Ds hDs4 hwz) (fun _ _ _ _ _ h _ _ => h) (rdTurn p D bd w qb _ _ acc Ds hp3 (hJs p (by simp)).2 hqbz hqbw) hJ0
        (fun x => { tmps := #[.slice a bs.length c, undef, .slice none 0 0, .int .i64 0, .int .i64 0, .pointer (some ⟨qb, 0, none⟩), .int .i64 (n : Int), .slice b2 bd.length c2, .int .i64 un, .int .i64 0, .pointer (some ⟨p, 0, none⟩), u11, x.2.1, .int .i64 (n : Int), .slice a bs.length c, .int .i64 (bs.length : Int), .bool true, .tuple #[.slice b2 bd.length c2, .int .i64 un, .int .i64 0], .slice a bs.length c, .int .i64 (n : Int), .slice (Option.map (fun x => x.add n) a) (bs.length - n) (c - n), .tuple #[.slice b2 bd.length c2, .int .i64 un, .int .i64 0], .slice b2 bd.length c2, .int .i64 un, .int .i64 0, .int .i64 0, .bool true, .bool true, u28, u29, .slice b2 bd.length c2, .pointer (some ⟨p, 0, none⟩), .pointer (some ⟨p, 0, none⟩), .func (.func 84) #[] #[.pointer (some ⟨w3.heap.size, 0, none⟩), .pointer (some ⟨w3.heap.size + 1, 0, none⟩), .pointer (some ⟨w3.heap.size + 2, 0, none⟩)], .int .i64 x.1, x.2.1, u36, u37, u38, u39, u40, u41, u42, u43, u44, u45, u46, u47], defers := [] }) ?assign ?body ?done ?stop
      case assign =>
        intro l x X C hC
        gi_wp2_with fail
        exact hC
      case body =>
        rintro l s ⟨i, xv, out⟩ X ⟨L, vv, h⟩ ⟨he, hpe, hxk⟩
        dsimp only at hpe hxk
        obtain ⟨hrx, hox⟩ := h.pend _ _ hpe
        obtain ⟨hrun, hlen2⟩ := run_next (x := (i, xv, out)) h.run he hpe
        have hcel := rowPcel h.row h.nil
        obtain ⟨ax, cx, rfl, _⟩ := hrx.shape
        obtain ⟨av, cv, rfl⟩ := rowPshape h.row
        have hfrom := h.row.from
        have h2 := h.box
        have h3 := h.free
        have h4 := h.row
        have h7 := h.size
        have hlt2 := World.block_lt_of_cell? _ _ h2
        have hal : (acc ++ L).length + 1 ≤ 5000000000000 := by rw [List.length_append]; have := hul; omega
        obtain ⟨M, hM⟩ : ∃ M, Hid (acc ++ L = M) := ⟨_, rfl⟩
        rw [hM.out] at h4 hcel hfrom hox hal h2
        gi_wp2_with (gi_at_builtin; refine wpAppendPIn rfl _ _ rfl _ M rfl h4 _ out hrx hox (fun k hk => ⟨by have := h7; omega, .inr (by omega)⟩) rfl rfl hal ?_)
        intro v5 w5 r2 k5 hnew
        obtain ⟨a5, c5, rfl⟩ := rowPshape r2
        have hbo : qb ∉ own (.slice av M.length cv) := fun hm => by have := (hfrom _ hm).1; omega
        have b5 : w5.cell? ⟨qb, 0, none⟩ = some (.slice av M.length cv) := (k5.cell (p := ⟨qb, 0, none⟩) hlt2 hbo).trans h2
        have f5 : w5.frozen? ⟨qb, 0, none⟩ = false := (k5.frozen (p := ⟨qb, 0, none⟩) hlt2 hbo).trans h3
        have hnB : ∀ j ∈ p :: w3.heap.size :: (w3.heap.size + 1) :: (w3.heap.size + 2) :: D, j ≠ qb ∧ ¬ Bz (qb + 1) w2.heap.size w4.heap.size j := fun j hj => by
          have := hJs j hj
          refine ⟨by omega, fun hb => ?_⟩
          rcases hb.2 with h1 | h1 <;> omega
        have r2d := h.rd.kept k5 (fun hm => (hnB p (by simp)).2 (hfrom _ hm)) (fun k hk hm => (hnB k (by simp [hk])).2 (hfrom _ hm))
        obtain ⟨L2, hL2⟩ : ∃ L2, Hid (M ++ [out] = L2) := ⟨_, rfl⟩
        rw [hL2.out] at r2 ⊢
        have kS : Kp [qb] w5 (w5.setCell ⟨qb, 0, none⟩ (.slice a5 L2.length c5)) := (Kp.refl _ _).setCell (by simp) _
        have kAll : Kp (qb :: own (.slice av M.length cv)) X (w5.setCell ⟨qb, 0, none⟩ (.slice a5 L2.length c5)) := (k5.mono (T := qb :: own (.slice av M.length cv)) (fun x hx => .inl (by simp [hx]))).trans kS (fun x hx => .inl (by simp at hx; simp [hx]))
        have hbx : ∃ o : Obj, X.heap[qb]? = some o ∧ o.isCells = true := cellsOf (a := ⟨qb, 0, none⟩) (by rw [h2]; rfl)
        have hSc : ∀ k ∈ qb :: own (.slice av M.length cv), ∃ o : Obj, X.heap[k]? = some o ∧ o.isCells = true := fun k hk => by rcases List.mem_cons.1 hk with rfl | hk; exact hbx; exact hcel k hk
        have hmk : Mks Ds (w5.setCell ⟨qb, 0, none⟩ (.slice a5 L2.length c5)) := h.mks.kept kAll (fun k hk hm => by
          obtain ⟨o, ho, hc⟩ := hSc k hm
          rw [h.mks.at_ k hk] at ho
          cases ho
          cases hc)
        have r3 := r2.kept kS (fun k hk hb => by simp at hk; subst hk; have := hb.1; omega)
        have kk : Kp [] w (w5.setCell ⟨qb, 0, none⟩ (.slice a5 L2.length c5)) := h.kp.trans kAll (fun x hx => .inr (by rcases List.mem_cons.1 hx with rfl | hx; omega; have := (hfrom x hx).1; omega))
        have r4 := r2d.kept kS (by have := (hnB p (by simp)).1; simp; omega) (fun k hk => by have := (hnB k (by simp [hk])).1; simp; omega)
        have Hfin := hid (And.intro hmk (And.intro r3 (And.intro kk r4)))
        have hSc' := hid hSc
        have hL3 : Hid (acc ++ (L ++ [out]) = L2) := by show _ = _; rw [← List.append_assoc, hM.out, hL2.out]
        clear hmk r3 kk r4 r2d r2 k5 hnew hSc hbx hcel h4 hrx hox
        gi_wp2_with fail
        refine ⟨keepsCel kAll hSc'.out _, ⟨_, kAll, fun j hj hm => ?_⟩, L ++ [out], .slice a5 L2.length c5, hrun, World.cell?_setCell_same _ _ _ b5, by rw [World.frozen?_setCell]; exact f5, by rw [hL3.out]; exact Hfin.out.2.1, Hfin.out.2.2.2, Hfin.out.2.2.1, Nat.le_trans h7 kAll.size, fun hh => (by simp at hh), fun x o hh => (by cases hh), Hfin.out.1⟩
        rcases List.mem_cons.1 hm with hh | hh
        · exact (hnB j hj).1 hh
        · exact (hnB j hj).2 (hfrom j hh)
      case done =>
        rintro D' s X hDz ⟨hgo, hS⟩ ⟨L, vv, h⟩ hK'
        obtain ⟨N, bs1, e1, hc, hl2⟩ := run_done h.run hgo hS
        have hbd : bdy bd = (L, endE s.bs s.e == 0) := by unfold bdy; rw [hc]; dsimp only; rw [hl2]
        have hEn := hid (rEnd p D s.bs s.e X h.rd)
        have hmk : Mks (D' :: Ds) X := h.mks.cons hK' (fun hm => by have := hDs4 D' hm; omega)
        have hlow2 : ∀ E ∈ D' :: Ds, w.heap.size ≤ E := fun E hE => by
          rcases List.mem_cons.1 hE with rfl | hE
          · omega
          · exact hlow.out E hE
        have hRL : s.e = 0 → L.length ≤ bd.length := fun he => by
          rcases h.run with ⟨hs0, rfl⟩ | ⟨_, _, N', b', e', _, hm2⟩
          · simp
          · rcases hS with ⟨_, hpn⟩ | hne
            · rw [hpn] at hm2
              have := hm2.1
              omega
            · exact absurd he hne
        have HX := hid (And.intro h (And.intro hmk (And.intro hlow2 (And.intro hbd hRL))))
        clear h hc hl2 hbd hmk hlow2 hRL hS hK'
        go_wp2_with fail
        refine hEn.out.mono ?_
        rintro e X ⟨rfl, rfl⟩
        clear hEn
        by_cases hE : endE s.bs s.e = 0
        · have hse : s.e = 0 := by
            unfold endE at hE
            split at hE
            · cases hE
            · exact hE
          have hb2 : (bdy bd).2 = true := by rw [HX.out.2.2.2.1, hE]; rfl
          have hb1 : (bdy bd).1 = L := by rw [HX.out.2.2.2.1]
          have hFn := Hst.out.2.2.2.2 (by trivial) hb2
          rw [hb1] at hFn
          have huk := Hst.out.1 (by trivial)
          have hll := HX.out.2.2.2.2 hse
          obtain ⟨m, rfl⟩ := Int.eq_ofNat_of_zero_le (show (0 : Int) ≤ un by omega)
          rw [List.drop_drop] at hFn
          simp only [Int.toNat_natCast] at hFn huk
          have HF2 : Hid (finQ (acc ++ L) (n + m) (rdQ (bs.drop (n + m))) = F) := by show _ = _; rw [← hFn, HF.out]
          have HR2 : Hid (RI w qb X (n + m) (acc ++ L) vv (D' :: Ds)) := ⟨HX.out.1.box, HX.out.1.free, HX.out.1.row.mono (fun k _ hk => hk.1), HX.out.1.nil, HX.out.1.kp, HX.out.2.1, HX.out.2.2.1, by rw [List.length_append]; omega⟩
          have dz1 : (-9223372036854775808 : Int) ≤ (n : Int) + (m : Int) := by omega
          have dz2 : (n : Int) + (m : Int) ≤ 9223372036854775807 := by omega
          have hnm : n + m ≤ bs.length := by omega
          rw [hE]
          clear HX hFn hb1 hb2 Hst HF hE
          go_wp2_with fail
          refine ⟨⟨n + m, acc ++ L, vv, D' :: Ds, _, _, _, _, _, _, _, _, _, _, _, _, _, _, _, _, _, _, _, _, _, _, _, _, _, _, _, _, _, _, _, _, _, _, _, _, _, _, _, _, _, rfl, hnm, HF2, HR2⟩, ?_⟩
          simp [intOf]
          omega
        · have hb2 : (bdy bd).2 = false := by rw [HX.out.2.2.2.1]; simpa using hE
          have hFe : F = ([], 0, 91) := by
            rw [← HF.out, Hst.out.2.2.2.1 (by trivial) hb2]
            simp [finQ]
          have e1 : (endE s.bs s.e == 0) = false := by simpa using hE
          have e2 : (endE s.bs s.e != 0) = true := by simpa using hE
          have HR2 : Hid (RI w qb X (n + bs.length + acc.length + L.length) (acc ++ L) vv (D' :: Ds)) := ⟨HX.out.1.box, HX.out.1.free, HX.out.1.row.mono (fun k _ hk => hk.1), HX.out.1.nil, HX.out.1.kp, HX.out.2.1, HX.out.2.2.1, by rw [List.length_append]; omega⟩
          clear HX Hst HF hE
          go_wp2_with fail
          rw [Exit.noGoto_ret]
          exact HB.out _ _ vv (D' :: Ds) _ X HR2.out hFe rfl rfl rfl rfl
      case stop =>
        rintro D' c s X _ _ h _
        exact h.elim
    · have hFe : F = ([], 0, 91) := by
        rw [← HF.out, Hst.out.2.2.1 h10 h00]
        simp [finQ]
      have e1 : (ue == 0) = false := by simpa using h00
      have e2 : (ue == 10) = false := by simpa using h10
      go_wp2_with fail
      rw [Exit.noGoto_ret]
      exact HB.out n acc v Ds _ w2 HR2.out hFe rfl rfl rfl rfl
  · have dj1 : decide ((n : Int) < (bs.length : Int)) = false := by simp; omega
    have hFe : F = (acc, n, 0) := by
      rw [← HF.out, List.drop_eq_nil_of_le (by omega), rdQ_nil]
      simp [finQ]
    go_wp2_with fail
    exact HK.out n acc v Ds _ _ _ _ _ _ _ _ _ _ _ _ _ _ _ _ _ _ _ _ _ _ _ _ _ _ _ _ _ _ _ _ _ _ _ _ _ _ _ _ _ W HR.out hFe
end Go.Proofs.YtpkoikennimonaaGreatDoor
end

section
namespace Go.Proofs.YtpkoikennimonaaGreatDoor
open Go.RowKit Go.Hay
set_option linter.unusedVariables false
set_option linter.unusedSimpArgs false

def BatP (r : List (List UInt8) × Bool) (w : World) (e : Ending) (w' : World) : Prop := ∃ v, e = .returned (.tuple #[v, .bool r.2]) ∧ (r.2 = true → RowP (fun k => w.heap.size ≤ k) w' v r.1) ∧ Kp [] w w'
set_option maxHeartbeats 8000000 in
set_option maxRecDepth 100000 in
theorem cBatch (b : Option Addr) (cb : Nat) (full : List UInt8) (w : World) (hs : Sees w b full) (hl : full.length ≤ cb) (hm : cb ≤ maxLen) (hb : full.length ≤ 4000000000000) :
    Calls Tryz.prog 61 #[.slice b full.length cb] w (BatP (bdy full) w) := by
  have HC := hid (gvS_count 16777216 16777216 full 0 (fun _ => rfl))
  have hgv := cRefGetVar b cb full 0 0 16777216 false w hs hl hm (by omega) (by omega) (by omega) (by omega)
  obtain ⟨R, hR⟩ : ∃ R, Hid (bdy full = R) := ⟨_, rfl⟩
  rw [hR.out]
  go_enter Tryz.func61, Tryz.ntmps61
  go_wp2_with fail
  refine hgv.mono ?_
  rintro e w1 ⟨n, at1, e1, ht, hn0, hn1, ha1, rfl, k1⟩
  have HT : Hid (countS 16777216 full 0 = (n, full.drop at1, e1)) := HC.out.symm.trans ht
  have hRd : Hid (∀ L at2 e2, lstS n.toNat (full.drop at1) e1 = (L, full.drop at2, e2) → R = (L, endE (full.drop at2) e2 == 0)) := fun L at2 e2 h => by
    rw [← hR.out]
    unfold bdy
    rw [HT.out]
    dsimp only
    rw [h]
  clear ht HC hgv HT hR
  have bS := Box3.new w1 (.slice b full.length cb) (.int .i64 at1) (.int .i64 e1) 141
  have kS : Kp [] w (w1.alloc (.cells #[.slice b full.length cb, .int .i64 at1, .int .i64 e1] 141)) := k1.alloc _
  have hz1 := k1.size
  clear k1
  go_wp2_with fail
  go_loopw [6, 7] (fun vl i wn => ∃ (j : Nat) (L : List (List UInt8)) (at2 : Nat) (e2 : Int), (j : Int) ≤ n ∧ i = .int .u64 j ∧ at2 ≤ full.length ∧ L.length ≤ full.length + 1 ∧ Box3 wn w1.heap.size (.slice b full.length cb) (.int .i64 at2) (.int .i64 e2) ∧ RowL (w1.heap.size + 1) wn vl L ∧ Kp [] w wn ∧ w1.heap.size + 1 ≤ wn.heap.size ∧
    ((e2 = 0 ∧ L.length ≤ at2 ∧ Hid (lstS n.toNat (full.drop at1) e1 = (L ++ (lstS (n.toNat - j) (full.drop at2) 0).1, (lstS (n.toNat - j) (full.drop at2) 0).2))) ∨ (e2 ≠ 0 ∧ ∃ L0, Hid (lstS n.toNat (full.drop at1) e1 = (L0, full.drop at2, e2))))) (fun _ i _ => (n - intOf i).toNat)
  case atStart =>
    refine ⟨0, [], at1, e1, hn0, rfl, ha1, by simp, bS, RowL.nil _ _, kS, by simp, ?_⟩
    by_cases he : e1 = 0
    · exact .inl ⟨he, by simp, by subst he; show _ = _; simp⟩
    · exact .inr ⟨he, [], lstS_err _ _ _ he⟩
  case round =>
    obtain ⟨j, L, at2, e2, hj, rfl, ha2, hL, hS, hrow, hk, hsz, hinv⟩ := hrel
    by_cases hjn : (j : Int) < n
    · rcases hinv with ⟨he2, hLa, hinv⟩ | ⟨he2, L0, hfin⟩
      · subst he2
        have hgt := cRefGetText b cb full at2 0 16777216 _ (hs.kept hk (by simp)) hl hm ha2 (by omega) (by omega) (by omega)
        have s0 := hS.c0; have s1 := hS.c1; have s2 := hS.c2; have sf := hS.free
        go_wp2_with fail
        refine hgt.mono ?_
        rintro e w3 ⟨out, at3, e3, vx, ht3, ha3, rfl, hrx, k3, hox⟩
        obtain ⟨ax, cx, rfl, -⟩ := hrx.shape
        by_cases he3 : e3 = 0
        · subst he3
          have hsh := textS_shorter ht3
          rw [List.length_drop, List.length_drop] at hsh
          have hin2 : Hid (lstS n.toNat (full.drop at1) e1 = ((L ++ [out]) ++ (lstS (n.toNat - (j + 1)) (full.drop at3) 0).1, (lstS (n.toNat - (j + 1)) (full.drop at3) 0).2)) := by
            show _ = _
            rw [hinv.out, show n.toNat - j = (n.toNat - (j + 1)) + 1 by omega, lstS_good _ _ _ _ ht3]
            simp
          clear ht3 hinv
          have hlt := hrow.lt
          have hfr := hrow.from
          have hq := hS.lt
          have hS3 := hS.kept k3 (by simp)
          have hrow3 := hrow.kept k3 (by simp)
          have hk3 := hk.trans k3 (by simp)
          have kA : Kp [] w3 (w3.alloc (.cells #[.slice b full.length cb, .int .i64 at3, .int .i64 0] 141)) := (Kp.refl _ _).alloc _
          have bT := Box3.new w3 (.slice b full.length cb) (.int .i64 at3) (.int .i64 0) 141
          have hS4 := hS3.kept kA (by simp)
          have hrow4 := hrow3.kept kA (by simp)
          have hk4 := hk3.trans kA (by simp)
          have hrx4 := hrx.kept kA (by simp)
          obtain ⟨hS5, ks⟩ := hS4.setAll (.slice b full.length cb) (.int .i64 at3) (.int .i64 0)
          have hrow5 := hrow4.kept ks (by simp)
          have hk5 := hk4.trans ks (fun x hx => .inr (by simp at hx; omega))
          have hrx5 := hrx4.kept ks (fun k hk' hm => by have := hox k hk'; simp at hm; omega)
          have hsz5 := k3.size
          have hsz6 := ks.size
          simp only [World.size_alloc] at hsz6
          clear s0 s1 s2 sf hS hrow hS3 hrow3 hk3 hrow4 hk4 hrx hrx4 kA k3 hgt
          have s0 := hS4.c0; have s1 := hS4.c1; have s2 := hS4.c2; have sf := hS4.free
          have t0 := bT.c0; have t1 := bT.c1; have t2 := bT.c2
          have z0 := hS5.c0; have z1 := hS5.c1; have z2 := hS5.c2
          go_wp2_with (at_builtin; refine wpAppendL rfl _ _ rfl _ L rfl hrow5 _ out hrx5 (fun k hk' => ⟨by have := hox k hk'; omega, fun hm => by have := hlt k hm; have := hox k hk'; omega⟩) (by omega) (q := w3.heap.size + 1) (by simp [World.setCell]) rfl (by omega) ?_)
          intro v2 w6 r6 k6 hnew
          have hS6 := hS5.kept k6 (fun hm => by have := hfr _ hm; omega)
          have hk6 := hk5.trans k6 (fun x hx => .inr (by have := hfr x hx; omega))
          have hsz7 := k6.size
          go_wp2_with fail
          exact ⟨⟨j + 1, L ++ [out], at3, 0, by omega, by go_num, ha3, by simp; omega, hS6, r6, hk6, by omega, .inl ⟨rfl, by simp; omega, hin2⟩⟩, by simp [intOf]; omega⟩
        · have hb3 : (e3 == 0) = false := by simpa using he3
          have hin2 : Hid (lstS n.toNat (full.drop at1) e1 = (L, full.drop at3, e3)) := by
            show _ = _
            rw [hinv.out, show n.toNat - j = (n.toNat - (j + 1)) + 1 by omega, lstS_bad _ _ _ _ _ he3 ht3]
            simp
          have he3o := hid he3
          clear ht3 hinv he3
          have hlt := hrow.lt
          have hfr := hrow.from
          have hq := hS.lt
          have hS3 := hS.kept k3 (by simp)
          have hrow3 := hrow.kept k3 (by simp)
          have hk3 := hk.trans k3 (by simp)
          have kA : Kp [] w3 (w3.alloc (.cells #[.slice b full.length cb, .int .i64 at3, .int .i64 e3] 141)) := (Kp.refl _ _).alloc _
          have bT := Box3.new w3 (.slice b full.length cb) (.int .i64 at3) (.int .i64 e3) 141
          have hS4 := hS3.kept kA (by simp)
          have hrow4 := hrow3.kept kA (by simp)
          have hk4 := hk3.trans kA (by simp)
          have hrx4 := hrx.kept kA (by simp)
          obtain ⟨hS5, ks⟩ := hS4.setAll (.slice b full.length cb) (.int .i64 at3) (.int .i64 e3)
          have hrow5 := hrow4.kept ks (by simp)
          have hk5 := hk4.trans ks (fun x hx => .inr (by simp at hx; omega))
          have hrx5 := hrx4.kept ks (fun k hk' hm => by have := hox k hk'; simp at hm; omega)
          have hsz5 := k3.size
          have hsz6 := ks.size
          simp only [World.size_alloc] at hsz6
          clear s0 s1 s2 sf hS hrow hS3 hrow3 hk3 hrow4 hk4 hrx hrx4 kA k3 hgt
          have s0 := hS4.c0; have s1 := hS4.c1; have s2 := hS4.c2; have sf := hS4.free
          have t0 := bT.c0; have t1 := bT.c1; have t2 := bT.c2
          have z0 := hS5.c0; have z1 := hS5.c1; have z2 := hS5.c2
          go_wp2_with (at_builtin; refine wpAppendL rfl _ _ rfl _ L rfl hrow5 _ out hrx5 (fun k hk' => ⟨by have := hox k hk'; omega, fun hm => by have := hlt k hm; have := hox k hk'; omega⟩) (by omega) (q := w3.heap.size + 1) (by simp [World.setCell]) rfl (by omega) ?_)
          intro v2 w6 r6 k6 hnew
          have hS6 := hS5.kept k6 (fun hm => by have := hfr _ hm; omega)
          have hk6 := hk5.trans k6 (fun x hx => .inr (by have := hfr x hx; omega))
          have hsz7 := k6.size
          go_wp2_with fail
          exact ⟨⟨j + 1, L ++ [out], at3, e3, by omega, by go_num, ha3, by simp; omega, hS6, r6, hk6, by omega, .inr ⟨he3o.out, L, hin2⟩⟩, by simp [intOf]; omega⟩
      · have hb2 : (e2 == 0) = false := by simpa using he2
        have s0 := hS.c0; have s1 := hS.c1; have s2 := hS.c2
        have hRe := hRd.out _ _ _ hfin.out
        have hEn := hid (cRefEnd b cb full at2 e2 wr)
        have hEe : Hid ((endE (full.drop at2) e2 == 0) = false) := by
          show _ = _
          rw [endE_bad _ _ _ he2]
          simpa using he2
        subst hRe
        clear hfin he2
        go_wp2_with fail
        refine hEn.out.mono ?_
        rintro e w9 ⟨rfl, k9⟩
        clear hEn
        go_wp2_with fail
        go_ret2
        exact ⟨_, rfl, fun h => absurd (show (endE (full.drop at2) e2 == 0) = true from h) (by rw [hEe.out]; simp), hk.trans k9 (by simp)⟩
    · have hjn' : (j : Int) = n := by omega
      have hjn2 : n.toNat - j = 0 := by omega
      have hdn : decide ((j : Int) < n) = false := by simpa using hjn
      have s0 := hS.c0; have s1 := hS.c1; have s2 := hS.c2
      have hEn := hid (cRefEnd b cb full at2 e2 wr)
      have hRe : ∃ L0, R = (L0, endE (full.drop at2) e2 == 0) ∧ ((endE (full.drop at2) e2 == 0) = true → L0 = L) := by
        rcases hinv with ⟨he2, hLa, hinv⟩ | ⟨he2, L0, hfin⟩
        · subst he2
          refine ⟨L, hRd.out _ _ _ ?_, fun _ => rfl⟩
          rw [hinv.out, hjn2, lstS]
          simp
        · refine ⟨L0, hRd.out _ _ _ hfin.out, fun h => ?_⟩
          rw [endE_bad _ _ _ he2] at h
          exact absurd (by simpa using h) he2
      obtain ⟨L0, hRe, hLe⟩ := hRe
      subst hRe
      clear hinv
      go_wp2_with fail
      refine hEn.out.mono ?_
      rintro e w9 ⟨rfl, k9⟩
      clear hEn
      go_wp2_with fail
      go_ret2
      refine ⟨_, rfl, fun h => ?_, hk.trans k9 (by simp)⟩
      rw [hLe h]
      exact (RowP.ofL (hrow.kept k9 (by simp))).mono (fun k _ hk' => by omega)
end Go.Proofs.YtpkoikennimonaaGreatDoor
end

section
namespace Go.Proofs.YtpkoikennimonaaGreatDoor
open Go.RowKit Go.Hay
set_option linter.unusedVariables false

set_option maxHeartbeats 2000000 in
set_option maxRecDepth 100000 in
theorem cRefUnframeC (a : Option Addr) (n c : Nat) (bs : List UInt8) (w : World) (hs : Sees w a bs) (hn : n = bs.length) (hl : bs.length ≤ c) (hm : c ≤ maxLen) (hb : bs.length ≤ 200000000000000) :
    Calls Tryz.prog 60 #[.slice a n c] w fun e w' => ∃ a' c', e = .returned (.tuple #[.slice a' (unf bs).1.length c', .int .i64 (unf bs).2.1, .int .i64 (unf bs).2.2]) ∧ Sees w' a' (unf bs).1 ∧ Kp [] w w' ∧ (unf bs).1.length ≤ c' ∧ c' ≤ maxLen := by
  subst hn
  unfold maxLen at hm
  by_cases h8 : bs.length < 8
  · rw [show unf bs = ([], 0, 10) by rw [unf, if_pos h8]]
    go_enter Tryz.func60, Tryz.ntmps60
    go_wp2_with fail
    go_ret3
    exact ⟨_, _, rfl, Sees.nil _ _, Kp.refl _ _, by simp <;> omega, by unfold maxLen; omega⟩
  have hc4 : ¬ c = 4 := by omega
  have H0 := hid (fun k => cSaid a 4 c (bs.take 4) (w.drewN k) (hs.front 4) (by simp; omega) (by simp; omega))
  have H4 := hid (fun k => cSaid (a.map (fun x => x.add 4)) 4 (c - 4) ((bs.drop 4).take 4) (w.drewN k) ((hs.tail 4).front 4) (by simp; omega) (by simp; omega))
  have HS4 := hid (fun k => cRefSum a 4 c (bs.take 4) (w.drewN k) (hs.front 4) (by simp; omega) (by simp; omega))
  have hs4 := num_lt_of ((bs.drop 4).take 4) 4 (by simp; omega)
  have hm4 := num_lt_of (bs.take 4) 4 (by simp; omega)
  have hunf : unf bs = if num ((bs.drop 4).take 4) ≠ crc (bs.take 4) then ([], 0, 14)
    else if 16777216 < num (bs.take 4) then ([], 0, 12)
    else if bs.length < num (bs.take 4) + 12 then ([], 0, 10)
    else if num ((bs.drop (8 + num (bs.take 4))).take 4) ≠ crc ((bs.drop 8).take (num (bs.take 4))) then ([], 0, 14)
    else ((bs.drop 8).take (num (bs.take 4)), ((num (bs.take 4) + 12 : Nat) : Int), 0) := by rw [unf, if_neg h8]
  rw [hunf]
  clear hunf
  have hcr := crc_lt (bs.take 4)
  have hw0 : w = w.drewN 0 := rfl
  generalize num ((bs.drop 4).take 4) = s at *
  generalize crc (bs.take 4) = q at *
  generalize num (bs.take 4) = m at *
  have H00 := hid (show Calls Tryz.prog 87 #[.slice a 4 c] w fun e w' => e = .returned (.int .u64 m) ∧ w' = w from H0.out 0)
  clear H0 hw0
  by_cases hsq : s = q
  · subst hsq
    rw [if_neg (fun h => h rfl)]
    by_cases hbig : 16777216 < m
    · rw [if_pos hbig]
      go_enter Tryz.func60, Tryz.ntmps60
      go_wp2_with fail
      refine H00.out.mono ?_
      rintro e w1 ⟨rfl, rfl⟩
      go_wp2_with fail
      go_quiet (first | (go_at_call 87; refine Calls.quiet_of_same (H4.out _)) | (go_at_call 88; refine Calls.quiet_of_same (HS4.out _)))
      go_wp2_with fail
      go_ret3
      exact ⟨_, _, rfl, Sees.nil _ _, (Kp.refl _ _).drewN _, by simp <;> omega, by unfold maxLen; omega⟩
    rw [if_neg hbig]
    by_cases hshort : bs.length < m + 12
    · rw [if_pos hshort]
      go_enter Tryz.func60, Tryz.ntmps60
      go_wp2_with fail
      refine H00.out.mono ?_
      rintro e w1 ⟨rfl, rfl⟩
      go_wp2_with fail
      go_quiet (first | (go_at_call 87; refine Calls.quiet_of_same (H4.out _)) | (go_at_call 88; refine Calls.quiet_of_same (HS4.out _)))
      go_wp2_with fail
      go_ret3
      exact ⟨_, _, rfl, Sees.nil _ _, (Kp.refl _ _).drewN _, by simp <;> omega, by unfold maxLen; omega⟩
    rw [if_neg hshort]
    have hc8 : ¬ c = 8 := by omega
    have hc8m : ¬ c = 8 + m := by omega
    have j1 : IntKind.i64.wrap (8 + (m : Int)) = 8 + (m : Int) := by rw [IntKind.wrap_i64]; omega
    have j2 : IntKind.i64.wrap (12 + (m : Int)) = 12 + (m : Int) := by rw [IntKind.wrap_i64]; omega
    have t8 : (8 + (m : Int)).toNat = 8 + m := by omega
    have t12 : (12 + (m : Int)).toNat = 12 + m := by omega
    have t4 : 12 + m - (8 + m) = 4 := by omega
    have t0 : 8 + m - 8 = m := by omega
    have i1 : (0 : Int) ≤ 8 + (m : Int) := by omega
    have i2 : 8 + (m : Int) ≤ 12 + (m : Int) := by omega
    have i3 : 12 + (m : Int) ≤ (c : Int) := by omega
    have i4 : (8 : Int) ≤ 8 + (m : Int) := by omega
    have i5 : 8 + (m : Int) ≤ (c : Int) := by omega
    have HW8 := hid (fun k => cSaid (a.map (fun x => x.add (8 + m))) 4 (c - (8 + m)) ((bs.drop (8 + m)).take 4) (w.drewN k) ((hs.tail (8 + m)).front 4) (by simp; omega) (by simp; omega))
    have HS8 := hid (fun k => cRefSum (a.map (fun x => x.add 8)) m (c - 8) ((bs.drop 8).take m) (w.drewN k) ((hs.tail 8).front m) (by simp; omega) (by simp; omega))
    have hcr2 := crc_lt ((bs.drop 8).take m)
    have hs2 := (hs.tail 8).front m
    have hlen2 : ((bs.drop 8).take m).length = m := by simp; omega
    have hlt2 := num_lt_of ((bs.drop (8 + m)).take 4) 4 (by simp; omega)
    generalize num ((bs.drop (8 + m)).take 4) = s2 at *
    generalize crc ((bs.drop 8).take m) = q2 at *
    generalize (bs.drop 8).take m = body at *
    have HL2 := hid hlen2
    clear hlen2
    by_cases hsq2 : s2 = q2
    · subst hsq2
      rw [if_neg (fun h => h rfl)]
      go_enter Tryz.func60, Tryz.ntmps60
      go_wp2_with fail
      refine H00.out.mono ?_
      rintro e w ⟨rfl, rfl⟩
      go_wp2_with fail
      go_quiet (first | (go_at_call 87; refine Calls.quiet_of_same (H4.out _)) | (go_at_call 88; refine Calls.quiet_of_same (HS4.out _)))
      go_wp2_with fail
      go_quiet (first | (go_at_call 87; refine (HW8.out _).mono fun e w1 h => ⟨h.1, _, h.2⟩) | (go_at_call 88; refine (HS8.out _).mono fun e w1 h => ⟨h.1, _, h.2⟩))
      go_wp2_with fail
      go_ret3
      exact ⟨_, c - 8, by rw [HL2.out]; rfl, hs2, (Kp.refl _ _).drewN _, by rw [HL2.out]; omega, by unfold maxLen; omega⟩
    · rw [if_pos hsq2]
      have hne : (((s2 : Nat) : Int) != ((q2 : Nat) : Int)) = true := by rw [bne_iff_ne]; omega
      go_enter Tryz.func60, Tryz.ntmps60
      go_wp2_with fail
      refine H00.out.mono ?_
      rintro e w ⟨rfl, rfl⟩
      go_wp2_with fail
      go_quiet (first | (go_at_call 87; refine Calls.quiet_of_same (H4.out _)) | (go_at_call 88; refine Calls.quiet_of_same (HS4.out _)))
      go_wp2_with fail
      go_quiet (first | (go_at_call 87; refine (HW8.out _).mono fun e w1 h => ⟨h.1, _, h.2⟩) | (go_at_call 88; refine (HS8.out _).mono fun e w1 h => ⟨h.1, _, h.2⟩))
      go_wp2_with fail
      go_ret3
      exact ⟨_, _, rfl, Sees.nil _ _, ((Kp.refl _ _).drewN _).drewN _, by simp <;> omega, by unfold maxLen; omega⟩
  · rw [if_pos hsq]
    have hne : (((s : Nat) : Int) != ((q : Nat) : Int)) = true := by rw [bne_iff_ne]; omega
    go_enter Tryz.func60, Tryz.ntmps60
    go_wp2_with fail
    refine H00.out.mono ?_
    rintro e w1 ⟨rfl, rfl⟩
    go_wp2_with fail
    go_quiet (first | (go_at_call 87; refine Calls.quiet_of_same (H4.out _)) | (go_at_call 88; refine Calls.quiet_of_same (HS4.out _)))
    go_wp2_with fail
    go_ret3
    exact ⟨_, _, rfl, Sees.nil _ _, (Kp.refl _ _).drewN _, by simp <;> omega, by unfold maxLen; omega⟩
end Go.Proofs.YtpkoikennimonaaGreatDoor
end

section
namespace Go.Proofs.YtpkoikennimonaaGreatDoor
open Go.RowKit Go.Hay
set_option linter.unusedVariables false
set_option linter.unusedSimpArgs false

theorem lstS_len : ∀ (n : Nat) (bs : List UInt8), (lstS n bs 0).2.2 = 0 → (lstS n bs 0).1.length + (lstS n bs 0).2.1.length ≤ bs.length
  | 0, bs, _ => by simp [lstS]
  | n + 1, bs, h => by
    obtain ⟨⟨out, r, e⟩, ht⟩ : ∃ T, textS 16777216 bs 0 = T := ⟨_, rfl⟩
    by_cases he : e = 0
    · subst he
      rw [lstS_good _ _ _ _ ht] at h ⊢
      have := lstS_len n r h
      have := textS_shorter ht
      simp only [List.length_cons]
      omega
    · rw [lstS_bad _ _ _ _ _ he ht] at h
      exact absurd h he
theorem bdy_len (bs : List UInt8) (h : (bdy bs).2 = true) : (bdy bs).1.length ≤ bs.length := by
  unfold bdy at h ⊢
  obtain ⟨⟨n, r, e⟩, hc⟩ : ∃ C, countS 16777216 bs 0 = C := ⟨_, rfl⟩
  rw [hc] at h ⊢
  dsimp only at h ⊢
  have hle := countS_le hc
  by_cases he : e = 0
  · subst he
    have h2 : (lstS n.toNat r 0).2.2 = 0 := by
      have h3 : endE (lstS n.toNat r 0).2.1 (lstS n.toNat r 0).2.2 = 0 := by simpa using h
      unfold endE at h3
      split at h3
      · cases h3
      · exact h3
    have := lstS_len n.toNat r h2
    omega
  · rw [lstS_err _ _ _ he]
    simp
/-- A row of rows as what is appended. -/
theorem RowP.src {B : Nat → Prop} {w : World} {x : Value} {M : List (List UInt8)} (h : RowP B w x M) : ∃ ws, ws.length = M.length ∧ Src Tryz.prog 1 30 x ws.length ws w ∧ ∀ (i : Nat) (y : Value) (o : List UInt8), ws[i]? = some y → M[i]? = some o → Row w y o ∧ ∀ k ∈ own y, B k := by
  obtain ⟨ws, hvl, hs, hfr, hel⟩ := h
  refine ⟨ws, hvl, ?_, fun i y o hy ho => ⟨(hel i y o hy ho).1, fun k hk => ((hel i y o hy ho).2 k hk).1⟩⟩
  rcases hs with ⟨rfl, rfl⟩ | ⟨g, o, cap, rfl, hl, hm, hg, hc, ht⟩
  · exact Src.ofNil w Tryz.underlying30 0
  · refine Src.ofSlice _ Tryz.underlying30 ⟨g, o, none⟩ ws.length cap ws (by simp) (fun j u hu => by rw [Addr.add_lit]; exact hc j u hu) (fun u hu => ?_)
    obtain ⟨i, hi, rfl⟩ := List.getElem_of_mem hu
    exact rowOne (hel i ws[i] (M[i]'(by omega)) (by simp [hi]) (by simp [show i < M.length by omega])).1
/-- An append of all that another one has, as it runs. -/
theorem runAppendPP {B : Nat → Prop} {w : World} {v : Value} {L : List (List UInt8)} (h : RowP B w v L) {xv : Value} {M : List (List UInt8)} (ws : List Value) (hwl : ws.length = M.length) (hsrc : Src Tryz.prog 1 30 xv ws.length ws w)
    (hw : ∀ (i : Nat) (y : Value) (o : List UInt8), ws[i]? = some y → M[i]? = some o → Row w y o ∧ ∀ k ∈ own y, B k ∧ k ∉ own v) (hB : ∀ k, w.heap.size ≤ k → B k) (hb : L.length + M.length ≤ 5000000000000) (ty : TypeId) :
    ∃ v' w', (Builtin.append_ #[30, 30] ty #[v, xv]).run Tryz.prog w = .ok v' w' ∧ RowP B w' v' (L ++ M) ∧ Kp (own v) w w' ∧ ∀ k ∈ own v', k ∈ own v ∨ w.heap.size ≤ k := by
  obtain ⟨i, hi, hz, hz1, hz2⟩ := infoSl
  obtain ⟨vs, hvl, hs, hfr, hel⟩ := h
  obtain ⟨v', w', hrun, h1, h2, h3⟩ := run_appendS (P := Tryz.prog) _ 30 30 ty i Tryz.underlying30 hi hz hz1 hz2 v vs hs _ ws hsrc (by omega)
  refine ⟨v', w', hrun, ⟨vs ++ ws, by simp [hvl, hwl], h1, fun k hk => (by rcases h3 k hk with h | h; exact hfr k h; exact hB k h), ?_⟩, h2, h3⟩
  intro j y ob hy hob
  have key : Row w y ob ∧ ∀ k ∈ own y, B k ∧ k ∉ own v := by
    by_cases hj : j < vs.length
    · rw [List.getElem?_append_left hj] at hy
      rw [List.getElem?_append_left (by omega)] at hob
      exact hel j y ob hy hob
    · rw [List.getElem?_append_right (by omega)] at hy
      rw [List.getElem?_append_right (by omega), ← hvl] at hob
      exact hw _ y ob hy hob
  refine ⟨key.1.kept h2 (fun k hk => (key.2 k hk).2), fun k hk => ⟨(key.2 k hk).1, fun hm => ?_⟩⟩
  rcases h3 k hm with h | h
  · exact (key.2 k hk).2 h
  · have := key.1.lt k hk; omega
theorem wpAppRunQ {P : Program} {w w' : World} {ops : Array Oper} {rest : List Oper} {o : Oper} {a : Act} {Q : Exit → Act → World → Prop} (hgd : o.guard = none) (s x : Operand) (t tx : TypeId)
    (ho : o.op = .call { callee := .builtin .append, args := #[s, x], argTypes := #[t, tx] }) (v xv v' : Value) (hv : a.eval s = v) (hx : a.eval x = xv)
    (hrun : (Builtin.append_ #[t, tx] o.type #[v, xv]).run P w = .ok v' w') (hK : wpList P ops Q rest (a.put o.dst v') w') : wpList P ops Q (o :: rest) a w := by
  refine wpList_plain hgd fun K hK' => ?_
  have hfin := hK' _ _ hK
  unfold Oper.wp
  simp [execOp, ho, resolve, invoke, builtin, hv, hx, hrun, Result.andThen]
  exact hfin
set_option maxHeartbeats 8000000 in
set_option maxRecDepth 100000 in
theorem cRefReadQ (a : Option Addr) (c : Nat) (bs : List UInt8) (w : World) (hs : Sees w a bs) (hl : bs.length ≤ c) (hm : c ≤ maxLen) (hb : bs.length ≤ 4000000000000) :
    Calls Tryz.prog 39 #[.slice a bs.length c] w (RdP (rdQ bs) w) := by
  obtain ⟨F, hF⟩ : ∃ F, Hid (rdQ bs = F) := ⟨_, rfl⟩
  have HF0 : Hid (finQ [] 0 (rdQ (bs.drop 0)) = F) := by show _ = _; rw [List.drop_zero, finQ_start, hF.out]
  rw [hF.out]
  have hTb : Hid (∀ W, Kp [] w W → Sees W a bs) := fun W k => hs.kept k (by simp)
  have hm' := hm
  unfold maxLen at hm'
  clear hs hF
  go_enter Tryz.func39, Tryz.ntmps39
  go_wp2_with fail
  go_loopw [5, 6] (fun v i wn => ∃ (n : Nat) (acc : List (List UInt8)), n ≤ bs.length ∧ i = .int .i64 n ∧ acc.length ≤ n ∧ Hid (RowP (fun k => w.heap.size ≤ k) wn v acc ∧ Kp [] w wn) ∧ Hid (finQ acc n (rdQ (bs.drop n)) = F)) (fun _ i _ => bs.length - (intOf i).toNat)
  case atStart => exact ⟨0, [], Nat.zero_le _, rfl, Nat.le_refl _, ⟨RowP.nil _ _, Kp.refl _ _⟩, HF0⟩
  case round =>
    obtain ⟨n, acc, hn, rfl, hal, HR, HF⟩ := hrel
    clear HF0
    obtain ⟨va, vc, rfl⟩ := rowPshape HR.out.1
    by_cases hlt : n < bs.length
    · have dj1 : (n : Int) < (bs.length : Int) := by omega
      have dj0 : (0 : Int) ≤ (n : Int) := by omega
      have hSW := hTb.out _ HR.out.2
      have hU := cRefUnframeC (Option.map (fun x => x.add n) a) (bs.length - n) (c - n) (bs.drop n) wr (hSW.tail n) (by simp) (by simp; omega) (by unfold maxLen; omega) (by simp; omega)
      have hne : bs.drop n ≠ [] := fun h => by have := congrArg List.length h; simp at this; omega
      have huk := @unf_ok (bs.drop n)
      have hul := unf_len (bs.drop n)
      have hr10 := @rdQ_short (bs.drop n)
      have hrbad := @rdQ_bad (bs.drop n) hne
      have hrbody := @rdQ_body (bs.drop n) hne
      have hrstep := fun h h2 => finQ_step (bs := bs.drop n) acc n hne h h2
      obtain ⟨⟨bd, un, ue⟩, hu⟩ : ∃ U, unf (bs.drop n) = U := ⟨_, rfl⟩
      rw [hu] at hU huk hul hr10 hrbad hrbody hrstep
      dsimp only at hU huk hul hr10 hrbad hrbody hrstep
      rw [List.length_drop] at huk
      have Hst := hid (And.intro huk (And.intro hr10 (And.intro hrbad (And.intro hrbody hrstep))))
      have HU := hid hU
      clear hu hne huk hr10 hrbad hrbody hrstep hU hSW
      go_wp2_with fail
      refine HU.out.mono ?_
      rintro e w2 ⟨b2, c2, rfl, hs2, k2, hc2, hm2⟩
      have HR2 := hid (And.intro (HR.out.1.kept k2 (by simp)) (HR.out.2.trans k2 (by simp)))
      have hs2' := hid hs2
      have hlt0 := HR.out.1.lt
      have hzW := k2.size
      clear HU hs2 HR k2
      by_cases h10 : ue = 10
      · have hFe : F = (acc, n, 0) := by
          rw [← HF.out, Hst.out.2.1 h10]
          simp [finQ]
        subst h10 hFe
        clear Hst HF
        go_wp2_with fail
        go_ret3
        exact ⟨_, rfl, HR2.out.1, HR2.out.2⟩
      · have e10 : (ue == 10) = false := by simpa using h10
        have hBt := cBatch b2 c2 bd w2 hs2'.out hc2 hm2 (by omega)
        have hbl := hid (bdy_len bd)
        obtain ⟨⟨R1, R2⟩, hR⟩ : ∃ R, Hid (bdy bd = R) := ⟨_, rfl⟩
        rw [hR.out] at hBt Hst hbl
        dsimp only at Hst hbl
        have HB := hid hBt
        clear hBt hR
        go_wp2_with fail
        refine HB.out.mono ?_
        rintro e w3 ⟨vx, rfl, hrx, k3⟩
        dsimp only at hrx
        have HX := hid (And.intro hrx k3)
        have hz3 := k3.size
        clear HB hrx k3
        by_cases h00 : ue = 0
        · subst h00
          cases R2 with
          | false =>
            have hFe : F = ([], 0, 91) := by
              rw [← HF.out, Hst.out.2.2.2.1 (by trivial) rfl]
              simp [finQ]
            subst hFe
            clear Hst HF h10
            go_wp2_with fail
            go_ret3
            exact ⟨_, rfl, RowP.nil _ _, HR2.out.2.trans HX.out.2 (by simp)⟩
          | true =>
            have hFn := Hst.out.2.2.2.2 (by trivial) rfl
            have huk := Hst.out.1 (by trivial)
            have hlen := hbl.out rfl
            obtain ⟨m, rfl⟩ := Int.eq_ofNat_of_zero_le (show (0 : Int) ≤ un by omega)
            rw [List.drop_drop] at hFn
            simp only [Int.toNat_natCast] at hFn huk
            have HF2 : Hid (finQ (acc ++ R1) (n + m) (rdQ (bs.drop (n + m))) = F) := by show _ = _; rw [← hFn, HF.out]
            have hrow := HR2.out.1.kept HX.out.2 (by simp)
            have hx := HX.out.1 rfl
            obtain ⟨ws, hwl, hsrc, hw⟩ := hx.src
            have hlt3 := HR2.out.1.lt
            obtain ⟨v5, w5, hrun5, hr5, k5, hn5⟩ := runAppendPP hrow ws hwl hsrc (fun i y o hy ho => ⟨(hw i y o hy ho).1, fun k hk => ⟨by have := (hw i y o hy ho).2 k hk; have := HR2.out.2.size; omega, fun hm => by have := hlt3 k hm; have := (hw i y o hy ho).2 k hk; omega⟩⟩) (fun k hk => by have := HR2.out.2.size; omega) (by omega) 30
            have HR5 : Hid (RowP (fun k => w.heap.size ≤ k) w5 v5 (acc ++ R1) ∧ Kp [] w w5) := ⟨hr5, (HR2.out.2.trans HX.out.2 (by simp)).trans k5 (fun x hx => .inr (hrow.from x hx))⟩
            have dz1 : (-9223372036854775808 : Int) ≤ (n : Int) + (m : Int) := by omega
            have dz2 : (n : Int) + (m : Int) ≤ 9223372036854775807 := by omega
            have hnm : n + m ≤ bs.length := by omega
            have hal5 : (acc ++ R1).length ≤ n + m := by rw [List.length_append]; omega
            obtain ⟨ax, cx, rfl⟩ := rowPshape hx
            clear Hst HF h10 hFn hrow hx ws hwl hsrc hw hlt3 hr5 k5 hn5 HX HR2 hbl hlt0
            go_wp2_with (first | (refine wpAppRunQ rfl _ _ 30 30 rfl _ _ _ rfl rfl hrun5 ?_) | fail)
            go_roundw
            case rel => exact ⟨n + m, acc ++ R1, hnm, by simp, hal5, HR5, HF2⟩
            case measure => simp [intOf]; omega
        · have hFe : F = ([], 0, 91) := by
            rw [← HF.out, Hst.out.2.2.1 h10 h00]
            simp [finQ]
          have e1 : (ue == 0) = false := by simpa using h00
          have e2 : (ue == 10) = false := by simpa using h10
          have e3 : (ue != 0) = true := by simpa using h00
          subst hFe
          clear Hst HF
          go_wp2_with fail
          go_ret3
          exact ⟨_, rfl, RowP.nil _ _, HR2.out.2.trans HX.out.2 (by simp)⟩
    · have dj1 : decide ((n : Int) < (bs.length : Int)) = false := by simp; omega
      have hFe : F = (acc, n, 0) := by
        rw [← HF.out, List.drop_eq_nil_of_le (by omega), rdQ_nil]
        simp [finQ]
      subst hFe
      clear HF
      go_wp2_with fail
      go_ret3
      exact ⟨_, rfl, HR.out.1, HR.out.2⟩
end Go.Proofs.YtpkoikennimonaaGreatDoor
end

section
namespace Go.Proofs.YtpkoikennimonaaGreatDoor
open Go.RowKit Go.Hay
set_option linter.unusedVariables false
set_option linter.unusedSimpArgs false

def sumB (l : List (List UInt8)) : Nat := (l.map List.length).sum
theorem sumB_snoc (l : List (List UInt8)) (k : Nat) (h : k < l.length) : sumB (l.take (k + 1)) = sumB (l.take k) + l[k].length := by
  unfold sumB
  rw [List.take_succ_eq_append_getElem h, List.map_append, List.sum_append]
  simp only [List.map_cons, List.map_nil, List.sum_cons, List.sum_nil, Nat.add_zero]
theorem sumB_le (l : List (List UInt8)) (k : Nat) : sumB (l.take k) ≤ sumB l := by
  induction l generalizing k with
  | nil => simp
  | cons x l ih =>
    cases k with
    | zero => simp [sumB]
    | succ k =>
      have := ih k
      simp only [sumB, List.take_succ_cons, List.map_cons, List.sum_cons] at this ⊢
      omega
theorem txB_len (l : List (List UInt8)) : sumB l ≤ (txB l).length ∧ (txB l).length ≤ sumB l + 9 * l.length := by
  induction l with
  | nil => simp [txB, sumB]
  | cons x l ih =>
    have := textB_len x
    have e : txB (x :: l) = textB x ++ txB l := by simp [txB]
    rw [e, List.length_append]
    simp only [sumB, List.map_cons, List.sum_cons, List.length_cons] at ih ⊢
    omega
theorem recB_len (l : List (List UInt8)) : sumB l ≤ (recB l).length ∧ (recB l).length ≤ sumB l + 9 * l.length + 9 := by
  have := txB_len l
  have := varB_length l.length
  have e : recB l = varB l.length ++ txB l := rfl
  rw [e, List.length_append]
  omega
set_option maxHeartbeats 8000000 in
set_option maxRecDepth 100000 in
theorem cRefFrames (a : Option Addr) (c : Nat) (L : List Bs) (w : World) (hs : BsE.See w a L) (hok : ∀ y ∈ L, y.ok w) (hl : L.length ≤ 6000000000000) (hfew : ∀ y ∈ L, y.bs.length ≤ 140737488351232) :
    Calls Tryz.prog 45 #[.slice a L.length c] w (FrP (frmR (bsl L)) w) := by
  obtain ⟨F, hF⟩ : ∃ F, Hid (frmR (bsl L) = F) := ⟨_, rfl⟩
  rw [hF.out]
  have hrl := recB_len (bsl L)
  rw [bsl_len] at hrl
  have hlong : Hid (16777216 < (recB (bsl L)).length → F = ([], 90)) := fun h => by rw [← hF.out, frmR, if_neg (by omega)]
  have hshort : Hid ((recB (bsl L)).length ≤ 16777216 → F = (frameB (recB (bsl L)), 0)) := fun h => by rw [← hF.out, frmR, if_pos h]
  have hcell : Hid (∀ (j : Nat) (h : j < L.length) (W : World), Kp [] w W → ∃ g o, a = some ⟨g, o, none⟩ ∧ W.cell? ⟨g, o + j, none⟩ = some (.slice L[j].a L[j].bs.length L[j].c) ∧ Sees W L[j].a L[j].bs ∧ L[j].bs.length ≤ 140737488351232) := fun j h W k => by
    obtain ⟨g, o, e, hc⟩ := bsAt hs (k := j) (x := L[j]) (by simp [h])
    exact ⟨g, o, e, (k.cell (p := ⟨g, o + j, none⟩) (World.block_lt_of_cell? _ _ hc) (by simp)).trans hc, (hok _ (List.getElem_mem h)).see.kept k (by simp), hfew _ (List.getElem_mem h)⟩
  have hcu : IntKind.u64.wrap (L.length : Int) = (L.length : Int) := by rw [IntKind.wrap_u64]; omega
  have hVr := hid (cRefVar (L.length : Int) w (by omega) (by omega))
  clear hF hs hok hfew
  go_enter Tryz.func45, Tryz.ntmps45
  go_wp2_with fail
  go_loopw [4, 5] (fun s i wn => ∃ (j n : Nat), wn = w ∧ j ≤ L.length ∧ i = .int .i64 j ∧ s = .int .i64 n ∧ Hid (sumB ((bsl L).take j) = n) ∧ n ≤ 16777216) (fun _ i _ => L.length - (intOf i).toNat)
  case atStart => exact ⟨0, 0, rfl, Nat.zero_le _, rfl, rfl, by show _ = _; simp [sumB], by omega⟩
  case round =>
    obtain ⟨j, n, rfl, hj, rfl, rfl, hsn, hn⟩ := hrel
    by_cases hlt : j < L.length
    · obtain ⟨g, o, ea, cL, hsee, hfw⟩ := hcell.out j hlt _ (Kp.refl _ _)
      have hsu := sumB_snoc (bsl L) j (by rw [bsl_len]; exact hlt)
      rw [bsl_get hlt, hsn.out] at hsu
      obtain ⟨Y, hY⟩ : ∃ Y, L[j] = Y := ⟨_, rfl⟩
      rw [hY] at cL hsee hsu hfw
      obtain ⟨ya, yc, ybs⟩ := Y
      dsimp only at cL hsee hsu hfw
      have HS := hid hsu
      have hle := hid (sumB_le (bsl L) (j + 1))
      clear hY hsee hsu
      subst ea
      have dj1 : (j : Int) < (L.length : Int) := by omega
      have dj0 : (0 : Int) ≤ (j : Int) := by omega
      have dn1 : (-9223372036854775808 : Int) ≤ (n : Int) + (ybs.length : Int) := by omega
      have dn2 : (n : Int) + (ybs.length : Int) ≤ 9223372036854775807 := by omega
      by_cases hgt : (16777216 : Int) < (n : Int) + (ybs.length : Int)
      · have hF0 := hlong.out (by have := hle.out; rw [HS.out] at this; omega)
        subst hF0
        clear hlong hshort hsn HS hle hVr hrl
        go_wp2_with fail
        go_ret2
        exact FrP.none (Kp.refl _ _) 90
      · have dg : decide ((16777216 : Int) < (n : Int) + (ybs.length : Int)) = false := by simpa using hgt
        clear hlong hshort hle hVr hrl
        go_wp2_with fail
        go_roundw
        case rel => exact ⟨j + 1, n + ybs.length, by trivial, by omega, by simp, by simp, HS, by omega⟩
        case measure => simp [intOf]; omega
    · obtain ⟨w0, rfl⟩ : ∃ w0, w0 = wr := ⟨_, rfl⟩
      have dj2 : decide ((j : Int) < (L.length : Int)) = false := by simp; omega
      have hsum : Hid (sumB (bsl L) = n) := by show _ = _; rw [← hsn.out, List.take_of_length_le (by rw [bsl_len]; omega)]
      clear hsn
      go_wp2_with fail
      refine hVr.out.mono ?_
      rintro e w2 ⟨v2, rfl, hr2, k2, ho2⟩
      obtain ⟨a2, c2, rfl, hs2, eo2⟩ := hr2.sees
      have hI0 : Hid (Row w2 (.slice a2 (varB L.length).length c2) (varB L.length ++ txB ((bsl L).take 0)) ∧ Kp [] w0 w2 ∧ ∀ k ∈ own (.slice a2 (varB L.length).length c2), w0.heap.size ≤ k) := ⟨by simpa [txB] using hr2, k2, ho2⟩
      have hvl := varB_length L.length
      obtain ⟨i0, hi, hz0, hz1, hz2⟩ := info_parts Tryz.infoB
      clear hVr hr2 k2 ho2 hs2 eo2
      go_wp2_with fail
      go_loopw [6, 7] (fun v i wn => ∃ (j : Nat), j ≤ L.length ∧ i = .int .i64 j ∧ Hid (Row wn v (varB L.length ++ txB ((bsl L).take j)) ∧ Kp [] w0 wn ∧ ∀ k ∈ own v, w0.heap.size ≤ k)) (fun _ i _ => L.length - (intOf i).toNat)
      case atStart => exact ⟨0, Nat.zero_le _, rfl, hI0⟩
      case round =>
        obtain ⟨j, hj, rfl, HI⟩ := hrel
        clear hI0
        have htl := txB_len ((bsl L).take j)
        have hsl := sumB_le (bsl L) j
        rw [hsum.out] at hsl
        rw [List.length_take, bsl_len] at htl
        have hTl : (varB L.length ++ txB ((bsl L).take j)).length ≤ 60000000000000 := by rw [List.length_append]; omega
        by_cases hlt : j < L.length
        · obtain ⟨T, hT⟩ : ∃ T, Hid (varB L.length ++ txB ((bsl L).take j) = T) := ⟨_, rfl⟩
          rw [hT.out] at HI hTl
          obtain ⟨g, o, ea, cL, hsee, hfw⟩ := hcell.out j hlt _ HI.out.2.1
          have hsn := txB_snoc (bsl L) j (by rw [bsl_len]; exact hlt)
          have hyl := sumB_snoc (bsl L) j (by rw [bsl_len]; exact hlt)
          have hyl2 := sumB_le (bsl L) (j + 1)
          rw [hyl, hsum.out] at hyl2
          rw [bsl_get hlt] at hsn hyl2
          obtain ⟨Y, hY⟩ : ∃ Y, L[j] = Y := ⟨_, rfl⟩
          rw [hY] at cL hsee hsn hfw hyl2
          obtain ⟨ya, yc, ybs⟩ := Y
          dsimp only at cL hsee hsn hfw hyl2
          have hT2 : Hid (varB L.length ++ txB ((bsl L).take (j + 1)) = T ++ textB ybs) := by
            show _ = _
            rw [hsn, ← List.append_assoc, hT.out]
          have hxl := textB_len ybs
          have hTx := hid (cRefText ya ybs.length yc ybs _ hsee rfl hfw)
          obtain ⟨va, vc, rfl, -, -⟩ := HI.out.1.sees
          clear hsn hY hsee hsl htl hyl
          subst ea
          have dj1 : (j : Int) < (L.length : Int) := by omega
          have dj0 : (0 : Int) ≤ (j : Int) := by omega
          go_wp2_with fail
          refine hTx.out.mono ?_
          rintro e w7 ⟨v7, rfl, r7, k7, o7⟩
          obtain ⟨a7, c7, rfl, s7, -⟩ := r7.sees
          have hsrc := s7.src (P := Tryz.prog) Tryz.underlying45 c7
          have hrow' := HI.out.1.kept k7 (by simp)
          have kk := HI.out.2.1.trans k7 (by simp)
          obtain ⟨X, hX⟩ : ∃ X, Hid (textB ybs = X) := ⟨_, rfl⟩
          rw [hX.out] at hsrc hxl hT2
          clear hTx r7 s7
          simp only [hX.out]
          go_wp2_with (at_builtin; refine wpList_append_src _ rfl (.tmp 35) (.tmp 40) 45 45 rfl i0 Tryz.underlying45 hi hz0 hz1 hz2 _ _ rfl hrow' _ _ rfl hsrc (by omega) ?_)
          intro v8 w8 r8 k8 o8
          have H8 := hid (And.intro r8 (stepA kk HI.out.2.2 k8 o8))
          clear HI hsrc hrow' kk r8 k8 o8 k7 o7
          go_wp2_with fail
          go_roundw
          case rel => exact ⟨j + 1, by omega, by simp, by rw [hT2.out]; exact H8⟩
          case measure => simp [intOf]; omega
        · have hjl : (bsl L).take j = bsl L := List.take_of_length_le (by rw [bsl_len]; omega)
          rw [hjl] at HI hTl
          have e0 : varB L.length ++ txB (bsl L) = recB (bsl L) := by unfold recB txB; rw [bsl_len]
          rw [e0] at HI hTl
          obtain ⟨T, hT⟩ : ∃ T, Hid (recB (bsl L) = T) := ⟨_, rfl⟩
          rw [hT.out] at HI hTl hlong hshort
          have dj2 : decide ((j : Int) < (L.length : Int)) = false := by simp; omega
          obtain ⟨a3, c3, rfl, hs3, _⟩ := HI.out.1.sees
          clear e0 hjl
          by_cases hlg : T.length ≤ 16777216
          · have hF0 := hshort.out hlg
            have hFm := hid (cRefFrame a3 T.length c3 T _ hs3 rfl hlg)
            clear hs3 hlong hshort
            go_wp2_with fail
            refine hFm.out.mono ?_
            rintro e w5 ⟨v5, rfl, hr5, k5, hn5⟩
            obtain ⟨a5, c5, rfl, hs5, ho5⟩ := hr5.sees
            have hfin := hid (And.intro hr5 (And.intro (HI.out.2.1.trans k5 (by simp)) (fun q (hq : q ∈ blk a5) => by have := hn5 q (by rw [ho5]; exact hq); have := HI.out.2.1.size; omega : ∀ q ∈ blk a5, w0.heap.size ≤ q)))
            subst hF0
            clear hFm hr5 k5 hn5 hs5 ho5
            go_wp2_with fail
            go_ret2
            exact ⟨a5, c5, rfl, hfin.out.1, hfin.out.2.1, hfin.out.2.2⟩
          · have hF0 := hlong.out (by omega)
            subst hF0
            have hFm := hid (cRefFrameLong a3 T.length c3 T wr rfl (by omega))
            clear hs3 hlong hshort
            go_wp2_with fail
            refine hFm.out.mono ?_
            rintro e w5 ⟨rfl, rfl⟩
            clear hFm
            go_wp2_with fail
            go_ret2
            exact FrP.none HI.out.2.1 90
end Go.Proofs.YtpkoikennimonaaGreatDoor
end

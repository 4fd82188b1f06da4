/- Rows in memory: Add. Rows in memory: Erase, Get, Clone. -/
import Derived.Test.YtdjlefacdfdhmaaB3
section
namespace Go.Proofs.Ytdjlefacdfdhmaa
open Go.RowKit Go.Hay
set_option linter.unusedVariables false
set_option linter.unusedSimpArgs false

/-- What a call that changes them leaves. -/
def ChgW (p : Nat) (v : Value) (l l' : List Vn) (r : Value) (w : World) (e : Ending) (w' : World) : Prop :=
  ∃ v', e = .returned r ∧ Wos w' p v' l' ∧ Wrote p v w v' w' ∧ ∀ y ∈ l', ∀ k ∈ bkV y, (∃ z ∈ l, k ∈ bkV z) ∨ w.heap.size ≤ k
theorem ChgW.same {w w' : World} {p : Nat} {v : Value} {l : List Vn} (h : Wos w p v l) (hk : Kp [] w w') (r : Value) : ChgW p v l l r w (.returned r) w' :=
  ⟨v, rfl, h.keptNew hk, (Wrote.refl p v w).post hk, fun y hy k hk' => .inl ⟨y, hy, hk'⟩⟩
theorem setCell_free {w : World} {p : Nat} (h : ∀ j, w.frozen? ⟨p, j, none⟩ = false) (u : Value) : ∀ j, (w.setCell ⟨p, 0, none⟩ u).frozen? ⟨p, j, none⟩ = false := fun j => (World.frozen?_setCell _ _ _ _).trans (h j)
theorem blk_bkV {x : Vn} {k : Nat} (h : k ∈ bkV x) : k ∈ blk x.a := by
  unfold bkV at h
  split at h
  · cases h
  · exact h
theorem wosAdd {w wd x1 x2 x3 : World} {p : Nat} {a : Option Addr} {c : Nat} {l : List Vn} (h : Wos wd p (.slice a l.length c) l) (kw : Kp [] w wd) (x : Vn) (k1 : Kp [] wd x1) (hr1 : VE.Row x1 (.slice x.a x.row.length x.c) x.row)
    (hn1 : ∀ k ∈ blk x.a, wd.heap.size ≤ k) (hf : x.row.length * 40 ≤ 140737488355328) (k2 : Kp [] x1 x2) {a' : Option Addr} {c' : Nat} (hrow : VnE.Row x3 (.slice a' (l.length + 1) c') (insV l x)) (k3 : Kp (blk a) x2 x3)
    (hn3 : ∀ k ∈ blk a', k ∈ blk a ∨ x2.heap.size ≤ k) (hnot : hasV l x.id = false) (hfew : l.length + 1 ≤ 4000000000000) :
    x3.cell? ⟨p, 0, none⟩ = some (.slice a l.length c) ∧ x3.frozen? ⟨p, 0, none⟩ = false ∧ ChgW p (.slice a l.length c) l (insV l x) (.int .i64 0) w (.returned (.int .i64 0)) (x3.setCell ⟨p, 0, none⟩ (.slice a' (l.length + 1) c')) := by
  have h2 := (h.keptNew k1).keptNew k2
  have z1 := k1.size; have z2 := k2.size; have zw := kw.size; have z3 := k3.size
  have hap := h.apart
  rw [own_slice] at hap
  have hplt := h2.lt
  have hoff : ∀ y ∈ l, ∀ k ∈ bkV y, k ∉ p :: blk a := fun y hy k hk => by have := h.off y hy k hk; rwa [own_slice] at this
  have c3 : x3.cell? ⟨p, 0, none⟩ = some (.slice a l.length c) := (k3.cell (p := ⟨p, 0, none⟩) hplt hap).trans h2.c0
  have f3 : ∀ j, x3.frozen? ⟨p, j, none⟩ = false := fun j => (k3.frozen (p := ⟨p, j, none⟩) hplt hap).trans (h2.free j)
  have hltA : ∀ k ∈ blk a, k < wd.heap.size := fun k hk => h.row.lt k (by rw [own_slice]; exact hk)
  have hap' : p ∉ blk a' := fun hm => by
    rcases hn3 p hm with e | e
    · exact hap e
    · omega
  have ks : Kp [p] x3 (x3.setCell ⟨p, 0, none⟩ (.slice a' (l.length + 1) c')) := (Kp.refl _ _).setCell (.inl (by simp)) _
  have hxlt : ∀ k ∈ blk x.a, k < x1.heap.size := fun k hk => hr1.lt k (by rw [own_slice]; exact hk)
  have hofx : ∀ k ∈ blk x.a, k ∉ p :: blk a ∧ k ∉ p :: blk a' := fun k hk => by
    have e1 := hn1 k hk
    have e2 := hxlt k hk
    have ea : k ∉ blk a := fun hm => by have := hltA k hm; omega
    have ep : k ≠ p := fun e => by have := h.lt; omega
    refine ⟨by simp; exact ⟨ep, ea⟩, by
      simp only [List.mem_cons, not_or]
      refine ⟨ep, fun hm => ?_⟩
      rcases hn3 k hm with e | e
      · exact ea e
      · omega⟩
  have hofl : ∀ y ∈ l, ∀ k ∈ bkV y, k ∉ p :: blk a' := fun y hy k hk => by
    have e0 := hoff y hy k hk
    simp only [List.mem_cons, not_or] at e0 ⊢
    refine ⟨e0.1, fun hm => ?_⟩
    rcases hn3 k hm with e | e
    · exact e0.2 e
    · have := (h.ok y hy).lt k hk; omega
  have hmem : ∀ y ∈ insV l x, y = x ∨ y ∈ l := fun y hy => by
    unfold insV at hy
    rcases List.mem_append.1 hy with e | e
    · exact .inr (List.mem_of_mem_take e)
    · rcases List.mem_cons.1 e with e | e
      · exact .inl e
      · exact .inr (List.mem_of_mem_drop e)
  have hlen : (insV l x).length = l.length + 1 := by unfold insV; exact len_ins l x _ (kOf_le _ _)
  refine ⟨c3, f3 0, _, rfl, ⟨World.cell?_setCell_same _ _ _ c3, setCell_free f3 _, hrow.kept ks (fun k hk hs => ?_), fun y hy => ?_, by rw [own_slice]; exact hap', fun y hy k hk => ?_, h.srt.ins hnot, by rw [hlen]; exact hfew⟩, ⟨?_, ?_⟩, fun y hy k hk => ?_⟩
  · rw [own_slice] at hk; simp at hs; subst hs; exact hap' hk
  · rcases hmem y hy with rfl | hy'
    · obtain ⟨_, _, e, hsee, hnil, hlc, hcm, _⟩ := hr1.see
      cases e
      have ok1 : VnOk x1 y := ⟨hsee, hlc, fun e => (hnil e).2, hf⟩
      exact ((ok1.kept k2).keptS k3 (fun k hk hm => (hofx k (blk_bkV hk)).1 (by simp [hm]))).keptS ks (fun k hk hm => (hofx k (blk_bkV hk)).1 (by simp at hm; simp [hm]))
    · exact ((h2.ok y hy').keptS k3 (fun k hk hm => hoff y hy' k hk (by simp [hm]))).keptS ks (fun k hk hm => hoff y hy' k hk (by simp at hm; simp [hm]))
  · rw [own_slice]
    rcases hmem y hy with rfl | hy'
    · exact (hofx k (blk_bkV hk)).2
    · exact hofl y hy' k hk
  · rw [own_slice]
    exact (((kw.trans k1 (by simp)).trans k2 (by simp)).mono (T := p :: blk a) (by simp)).trans k3 (fun k hk => .inl (by simp [hk])) |>.trans ks (fun k hk => .inl (by simp at hk; simp [hk]))
  · intro k hk
    rw [own_slice] at hk ⊢
    rcases hn3 k hk with e | e
    · exact .inl e
    · exact .inr (by omega)
  · rcases hmem y hy with rfl | hy'
    · exact .inr (by have := hn1 k (blk_bkV hk); omega)
    · exact .inl ⟨y, hy', hk⟩
/-- What Add leaves: the row that is kept is a copy. -/
def AddP (p : Nat) (v : Value) (l : List Vn) (x : Vn) (w : World) (e : Ending) (w' : World) : Prop := ∃ a c, ChgW p v l (addV l { x with a := a, c := c }).1 (.int .i64 (addV l { x with a := a, c := c }).2) w e w'
theorem addV_id (l : List Vn) (x : Vn) (a : Option Addr) (c : Nat) : hasV l ({ x with a := a, c := c } : Vn).id = hasV l x.id := rfl
set_option maxHeartbeats 16000000 in
set_option maxRecDepth 100000 in
theorem cAddW {w : World} {p : Nat} {v : Value} {l : List Vn} (h : Wos w p v l) (x : Vn) (hx : VnOk w x) (hfew : l.length + 1 ≤ 4000000000000) :
    Calls Try.prog 18 #[.pointer (some ⟨p, 0, none⟩), x.v] w (AddP p v l x w) := by
  obtain ⟨ep, num, xa, xc, row, del⟩ := x
  obtain ⟨w1, hw1⟩ : ∃ w1, w.alloc (.cells #[.int .u64 ep, .int .u32 num, .slice xa row.length xc, .int .u64 del] 45) = w1 := ⟨_, rfl⟩
  have k1 : Kp [] w w1 := by rw [← hw1]; exact (Kp.refl _ _).alloc _
  have bx : Bx w1 w.heap.size [.int .u64 ep, .int .u32 num, .slice xa row.length xc, .int .u64 del] := by rw [← hw1]; exact Bx.new w [.int .u64 ep, .int .u32 num, .slice xa row.length xc, .int .u64 del] _
  have hlt1 : w.heap.size < w1.heap.size := by rw [← hw1]; simp
  have cF := cFind (h.keptNew k1) ep num
  have hW := hid (fun X (k : Kp [] w X) => h.keptNew k)
  have hO := hid (fun X (k : Kp [] w X) => hx.kept k)
  obtain ⟨a, c, rfl, _⟩ := h.row.see
  have hkle := kOf_le l (ep, num)
  obtain ⟨K0, hK0⟩ : ∃ k, Hid (kOf l (ep, num) = k) := ⟨_, rfl⟩
  obtain ⟨B, hB⟩ : ∃ b, Hid (hasV l (ep, num) = b) := ⟨_, rfl⟩
  rw [hK0.out, hB.out] at cF
  have p0 := bx.get 0 _ rfl; have p1 := bx.get 1 _ rfl
  unfold Vn.v
  dsimp only
  clear h hx
  go_enter Try.func18, Try.ntmps18
  go_wp2_with fail
  refine cF.mono ?_
  rintro e w2 ⟨rfl, k2⟩
  have kw2 := k1.trans k2 (by simp)
  cases B with
  | true =>
    have hres : AddP p (.slice a l.length c) l ⟨ep, num, xa, xc, row, del⟩ w (.returned (.int .i64 100)) w2 := by
      refine ⟨xa, xc, ?_⟩
      unfold addV
      rw [if_pos (show hasV l (Vn.id _) = true from hB.out)]
      exact ChgW.same (hW.out w (Kp.refl _ _)) kw2 _
    have hH := hid hres
    clear hres cF
    go_wp2_with fail
    go_returns
    exact hH.out
  | false =>
    have b2 := bx.kept k2 hlt1
    have s0 := b2.get 0 _ rfl; have s1 := b2.get 1 _ rfl; have s2 := b2.get 2 _ rfl; have s3 := b2.get 3 _ rfl
    by_cases hd : del ≠ 0 ∧ del ≤ ep
    · have hres : AddP p (.slice a l.length c) l ⟨ep, num, xa, xc, row, del⟩ w (.returned (.int .i64 101)) w2 := by
        refine ⟨xa, xc, ?_⟩
        unfold addV
        rw [if_neg (show ¬ hasV l (Vn.id _) = true by rw [show hasV l (Vn.id _) = false from hB.out]; simp), if_pos hd]
        exact ChgW.same (hW.out w (Kp.refl _ _)) kw2 _
      have hH := hid hres
      have t1 : (del != 0) = true := by simpa using hd.1
      have t2 : decide (del ≤ ep) = true := by simpa using hd.2
      have t3 : del ≤ ep := hd.2
      clear hres cF hd
      go_wp2_with fail
      go_returns
      exact hH.out
    · have hcp : Hid (∀ X, Kp [] w X → Calls Try.prog 37 #[.agg #[.int .u64 ep, .int .u32 num, .slice xa row.length xc, .int .u64 del]] X (CopP ⟨ep, num, xa, xc, row, del⟩ X)) := fun X k => cCopyOf ⟨ep, num, xa, xc, row, del⟩ X (hO.out X k)
      unfold CopP at hcp
      dsimp only at hcp
      have hzw2 := kw2.size
      have hins : Hid (∀ x1 x2 a2 c2, Kp [] w2.drew x1 → Kp [] x1 x2 → Bx x2 x1.heap.size (VnE.c ⟨ep, num, a2, c2, row, del⟩) → Calls Try.prog 36 #[.slice a l.length c, .int .i64 (kOf l (ep, num) : Int), .slice (some ⟨x1.heap.size, 0, none⟩) 1 1] x2 (InsP l a ⟨ep, num, a2, c2, row, del⟩ (kOf l (ep, num)) x2)) := fun x1 x2 a2 c2 kx1 kx2 hb => by
        have hwx1 := hW.out x1 (((kw2.drew)).trans kx1 (by simp))
        have hwx := hwx1.keptNew kx2
        exact cInsert a c l _ _ _ x2 hwx.row (kOf_le _ _) hb (fun hm => by have := hwx1.row.lt _ (by rw [own_slice]; exact hm); omega) hwx.few
      have hadd : Hid (∀ x1 x2 x3 a2 c2 a' c', VE.Row x1 (.slice a2 row.length c2) row → Kp [] w2.drew x1 → (∀ k ∈ blk a2, w2.drew.heap.size ≤ k) → Kp [] x1 x2 → VnE.Row x3 (.slice a' (l.length + 1) c') (l.take K0 ++ ⟨ep, num, a2, c2, row, del⟩ :: l.drop K0) → Kp (blk a) x2 x3 → (∀ k ∈ blk a', k ∈ blk a ∨ x2.heap.size ≤ k) →
          x3.cell? ⟨p, 0, none⟩ = some (.slice a l.length c) ∧ x3.frozen? ⟨p, 0, none⟩ = false ∧ AddP p (.slice a l.length c) l ⟨ep, num, xa, xc, row, del⟩ w (.returned (.int .i64 0)) (x3.setCell ⟨p, 0, none⟩ (.slice a' (l.length + 1) c'))) := fun x1 x2 x3 a2 c2 a' c' g1 g2 g3 g4 g5 g6 g7 => by
        have hins0 : insV l ⟨ep, num, a2, c2, row, del⟩ = l.take K0 ++ ⟨ep, num, a2, c2, row, del⟩ :: l.drop K0 := by unfold insV; rw [show kOf l (Vn.id _) = K0 from hK0.out]
        obtain ⟨r1, r2, r3⟩ := wosAdd (hW.out w2.drew kw2.drew) kw2.drew ⟨ep, num, a2, c2, row, del⟩ g2 g1 g3 (hO.out w (Kp.refl _ _)).few g4 (by rw [hins0]; exact g5) g6 g7 hB.out hfew
        refine ⟨r1, r2, a2, c2, ?_⟩
        unfold addV
        rw [if_neg (show ¬ hasV l (Vn.id _) = true by rw [show hasV l (Vn.id _) = false from hB.out]; simp), if_neg hd]
        exact r3
      have PX := (hW.out w2.drew kw2.drew).c0
      have FX := (hW.out w2.drew kw2.drew).free 0
      have X0 : w2.drew.cell? ⟨w.heap.size, 0, none⟩ = _ := s0
      have X1 : w2.drew.cell? ⟨w.heap.size, 1, none⟩ = _ := s1
      have X2 : w2.drew.cell? ⟨w.heap.size, 2, none⟩ = _ := s2
      have X3 : w2.drew.cell? ⟨w.heap.size, 3, none⟩ = _ := s3
      have KX : Kp [] w w2.drew := kw2.drew
      have t0 : Hid (¬ (del ≠ 0 ∧ del ≤ ep)) := hd
      clear cF k2 kw2 bx b2 p0 p1 hW hO hw1 k1
      by_cases hd0 : del = 0
      · have t1 : (del != 0) = false := by simpa using hd0
        clear hd hd0
        go_wp2_with fail
        refine wp_region_held_drew (S := fun _ => True) (by kernel_rfl) trivial (fun hHeld => ?_)
        clear hHeld
        have hHeld : True := trivial
        generalize w2.drew = wd at *
        refine wpAnyH_take (i := 0) (v := ?_) rfl (by kernel_rfl) (by kernel_rfl) (by kernel_rfl) (fun _ _ _ h => h) (Or.inl ⟨by rfl, ?_⟩) (by assumption) ?_
        rotate_left
        · intro w hSw; (try dsimp only at hSw); go_simp <;> with_reducible rfl
        try simp only [Act.put, List.getElem_toArray, List.getElem_cons_zero, List.getElem_cons_succ, List.setIfInBounds_toArray, List.set_cons_zero, List.set_cons_succ]
        refine wpAnyH_take (i := 1) (v := ?_) rfl (by kernel_rfl) (by kernel_rfl) (by kernel_rfl) (fun _ _ _ h => h) (Or.inl ⟨by rfl, ?_⟩) (by assumption) ?_
        rotate_left
        · intro w hSw; (try dsimp only at hSw); go_simp <;> with_reducible rfl
        try simp only [Act.put, List.getElem_toArray, List.getElem_cons_zero, List.getElem_cons_succ, List.setIfInBounds_toArray, List.set_cons_zero, List.set_cons_succ]
        refine wpAnyH_take (i := 2) (v := ?_) rfl (by kernel_rfl) (by kernel_rfl) (by kernel_rfl) (fun _ _ _ h => h) (Or.inl ⟨by rfl, ?_⟩) (by assumption) ?_
        rotate_left
        · intro w hSw; (try dsimp only at hSw); go_simp <;> with_reducible rfl
        try simp only [Act.put, List.getElem_toArray, List.getElem_cons_zero, List.getElem_cons_succ, List.setIfInBounds_toArray, List.set_cons_zero, List.set_cons_succ]
        refine wpAnyH_take (i := 3) (v := ?_) rfl (by kernel_rfl) (by kernel_rfl) (by kernel_rfl) (fun _ _ _ h => h) (Or.inl ⟨by rfl, ?_⟩) (by assumption) ?_
        rotate_left
        · intro w hSw; (try dsimp only at hSw); go_simp <;> with_reducible rfl
        try simp only [Act.put, List.getElem_toArray, List.getElem_cons_zero, List.getElem_cons_succ, List.setIfInBounds_toArray, List.set_cons_zero, List.set_cons_succ]
        refine wpAnyH_take (i := 5) (v := ?_) rfl (by kernel_rfl) (by kernel_rfl) (by kernel_rfl) (fun _ _ _ h => h) (Or.inl ⟨by rfl, ?_⟩) (by assumption) ?_
        rotate_left
        · intro w hSw; (try dsimp only at hSw); go_simp <;> with_reducible rfl
        try simp only [Act.put, List.getElem_toArray, List.getElem_cons_zero, List.getElem_cons_succ, List.setIfInBounds_toArray, List.set_cons_zero, List.set_cons_succ]
        refine wpAnyH_ready (rs := [4, 6]) (by kernel_rfl) (by simp) ?_
        refine AllReadyH.cons rfl (fun K hK => ?_) (AllReadyH.cons rfl (fun K hK => ?_) AllReadyH.nil)
        · go_simp
          (try go_wp2_with fail)
          refine hK.out _ _ trivial (fun hHeld => ?_)
          clear hK K hHeld
          try simp only [Act.put, List.getElem_toArray, List.getElem_cons_zero, List.getElem_cons_succ, List.setIfInBounds_toArray, List.set_cons_zero, List.set_cons_succ]
          refine wpAnyH_ready (rs := [6]) (by kernel_rfl) (by simp) ?_
          refine AllReadyH.cons rfl (fun K hK => ?_) AllReadyH.nil
          go_simp
          (try go_wp2_with fail)
          refine hK.out _ _ trivial (fun hHeld => ?_)
          clear hK K hHeld
          try simp only [Act.put, List.getElem_toArray, List.getElem_cons_zero, List.getElem_cons_succ, List.setIfInBounds_toArray, List.set_cons_zero, List.set_cons_succ]
          refine wpAnyH_ready (rs := [7]) (by kernel_rfl) (by simp) ?_
          refine AllReadyH.cons rfl (fun K hK => ?_) AllReadyH.nil
          have PX0 := PX
          go_simp
          refine (hcp.out _ KX).mono ?_
          rintro e1 x1 ⟨a2, c2, rfl, hr1, k1, hn1⟩
          (try go_wp2_with fail)
          refine hK.out _ _ trivial (fun hHeld => ?_)
          clear hK K hHeld
          try simp only [Act.put, List.getElem_toArray, List.getElem_cons_zero, List.getElem_cons_succ, List.setIfInBounds_toArray, List.set_cons_zero, List.set_cons_succ]
          have PX := kpAt k1 PX
          have FX := (k1.frozen (p := ⟨p, 0, none⟩) (World.block_lt_of_cell? _ _ PX0) (by simp)).trans FX
          have X0 := kpAt k1 X0; have X1 := kpAt k1 X1; have X2 := kpAt k1 X2; have X3 := kpAt k1 X3
          have KX := KX.trans k1 (by simp)
          refine wpAnyH_ready (rs := [8]) (by kernel_rfl) (by simp) ?_
          refine AllReadyH.cons rfl (fun K hK => ?_) AllReadyH.nil
          go_simp
          obtain ⟨x2, hx2⟩ : ∃ x2, x1.alloc (.cells #[.int .u64 ep, .int .u32 num, .slice a2 row.length c2, .int .u64 del] 45) = x2 := ⟨_, rfl⟩
          rw [hx2]
          have k2 : Kp [] x1 x2 := by rw [← hx2]; exact (Kp.refl _ _).alloc _
          have bx2 : Bx x2 x1.heap.size (VnE.c ⟨ep, num, a2, c2, row, del⟩) := by rw [← hx2]; exact Bx.new x1 (VnE.c ⟨ep, num, a2, c2, row, del⟩) _
          have hx2h := hid hx2
          clear hx2
          have PX0 := PX
          have PX := kpAt k2 PX
          have FX := (k2.frozen (p := ⟨p, 0, none⟩) (World.block_lt_of_cell? _ _ PX0) (by simp)).trans FX
          have KX := KX.trans k2 (by simp)
          (try go_wp2_with fail)
          refine hK.out _ _ trivial (fun hHeld => ?_)
          clear hK K hHeld
          try simp only [Act.put, List.getElem_toArray, List.getElem_cons_zero, List.getElem_cons_succ, List.setIfInBounds_toArray, List.set_cons_zero, List.set_cons_succ]
          refine wpAnyH_ready (rs := [9]) (by kernel_rfl) (by simp) ?_
          refine AllReadyH.cons rfl (fun K hK => ?_) AllReadyH.nil
          go_simp
          have hI := hins.out x1 x2 a2 c2 k1 k2 bx2
          rw [hK0.out] at hI
          refine hI.mono ?_
          rintro e3 x3 ⟨a', c', rfl, hrow3, k3, hn3⟩
          have hA := hadd.out x1 x2 x3 a2 c2 a' c' hr1 k1 hn1 k2 hrow3 k3 hn3
          have q1 := hA.1
          have q2 := hA.2.1
          have hfin := hid hA.2.2
          clear hA hrow3
          (try go_wp2_with fail)
          refine hK.out _ _ trivial (fun hHeld => ?_)
          clear hK K hHeld
          try simp only [Act.put, List.getElem_toArray, List.getElem_cons_zero, List.getElem_cons_succ, List.setIfInBounds_toArray, List.set_cons_zero, List.set_cons_succ]
          have hHeld : True := trivial
          refine wpAnyH_take (i := 10) (v := ?_) rfl (by kernel_rfl) (by kernel_rfl) (by kernel_rfl) (fun _ _ _ h => h) (Or.inl ⟨by rfl, ?_⟩) (by assumption) ?_
          rotate_left
          · intro w hSw; (try dsimp only at hSw); go_simp <;> with_reducible rfl
          try simp only [Act.put, List.getElem_toArray, List.getElem_cons_zero, List.getElem_cons_succ, List.setIfInBounds_toArray, List.set_cons_zero, List.set_cons_succ]
          refine wpAnyH_take (i := 11) (v := ?_) rfl (by kernel_rfl) (by kernel_rfl) (by kernel_rfl) (fun _ _ _ h => h) (Or.inl ⟨by rfl, ?_⟩) (by assumption) ?_
          rotate_left
          · intro w hSw; (try dsimp only at hSw); go_simp <;> with_reducible rfl
          try simp only [Act.put, List.getElem_toArray, List.getElem_cons_zero, List.getElem_cons_succ, List.setIfInBounds_toArray, List.set_cons_zero, List.set_cons_succ]
          refine wpAnyH_ready (rs := [12]) (by kernel_rfl) (by simp) ?_
          refine AllReadyH.cons rfl (fun K hK => ?_) AllReadyH.nil
          go_simp
          (try go_wp2_with fail)
          refine hK.out _ _ trivial (fun hHeld => ?_)
          clear hK K hHeld
          try simp only [Act.put, List.getElem_toArray, List.getElem_cons_zero, List.getElem_cons_succ, List.setIfInBounds_toArray, List.set_cons_zero, List.set_cons_succ]
          refine wpAnyH_done (by kernel_rfl) ?_ _
          go_wp2_with fail
          go_returns
          exact hfin.out
        · go_simp
          (try go_wp2_with fail)
          refine hK.out _ _ trivial (fun hHeld => ?_)
          clear hK K hHeld
          try simp only [Act.put, List.getElem_toArray, List.getElem_cons_zero, List.getElem_cons_succ, List.setIfInBounds_toArray, List.set_cons_zero, List.set_cons_succ]
          refine wpAnyH_ready (rs := [4, 7]) (by kernel_rfl) (by simp) ?_
          refine AllReadyH.cons rfl (fun K hK => ?_) (AllReadyH.cons rfl (fun K hK => ?_) AllReadyH.nil)
          · go_simp
            (try go_wp2_with fail)
            refine hK.out _ _ trivial (fun hHeld => ?_)
            clear hK K hHeld
            try simp only [Act.put, List.getElem_toArray, List.getElem_cons_zero, List.getElem_cons_succ, List.setIfInBounds_toArray, List.set_cons_zero, List.set_cons_succ]
            refine wpAnyH_ready (rs := [7]) (by kernel_rfl) (by simp) ?_
            refine AllReadyH.cons rfl (fun K hK => ?_) AllReadyH.nil
            have PX0 := PX
            go_simp
            refine (hcp.out _ KX).mono ?_
            rintro e1 x1 ⟨a2, c2, rfl, hr1, k1, hn1⟩
            (try go_wp2_with fail)
            refine hK.out _ _ trivial (fun hHeld => ?_)
            clear hK K hHeld
            try simp only [Act.put, List.getElem_toArray, List.getElem_cons_zero, List.getElem_cons_succ, List.setIfInBounds_toArray, List.set_cons_zero, List.set_cons_succ]
            have PX := kpAt k1 PX
            have FX := (k1.frozen (p := ⟨p, 0, none⟩) (World.block_lt_of_cell? _ _ PX0) (by simp)).trans FX
            have X0 := kpAt k1 X0; have X1 := kpAt k1 X1; have X2 := kpAt k1 X2; have X3 := kpAt k1 X3
            have KX := KX.trans k1 (by simp)
            refine wpAnyH_ready (rs := [8]) (by kernel_rfl) (by simp) ?_
            refine AllReadyH.cons rfl (fun K hK => ?_) AllReadyH.nil
            go_simp
            obtain ⟨x2, hx2⟩ : ∃ x2, x1.alloc (.cells #[.int .u64 ep, .int .u32 num, .slice a2 row.length c2, .int .u64 del] 45) = x2 := ⟨_, rfl⟩
            rw [hx2]
            have k2 : Kp [] x1 x2 := by rw [← hx2]; exact (Kp.refl _ _).alloc _
            have bx2 : Bx x2 x1.heap.size (VnE.c ⟨ep, num, a2, c2, row, del⟩) := by rw [← hx2]; exact Bx.new x1 (VnE.c ⟨ep, num, a2, c2, row, del⟩) _
            have hx2h := hid hx2
            clear hx2
            have PX0 := PX
            have PX := kpAt k2 PX
            have FX := (k2.frozen (p := ⟨p, 0, none⟩) (World.block_lt_of_cell? _ _ PX0) (by simp)).trans FX
            have KX := KX.trans k2 (by simp)
            (try go_wp2_with fail)
            refine hK.out _ _ trivial (fun hHeld => ?_)
            clear hK K hHeld
            try simp only [Act.put, List.getElem_toArray, List.getElem_cons_zero, List.getElem_cons_succ, List.setIfInBounds_toArray, List.set_cons_zero, List.set_cons_succ]
            refine wpAnyH_ready (rs := [9]) (by kernel_rfl) (by simp) ?_
            refine AllReadyH.cons rfl (fun K hK => ?_) AllReadyH.nil
            go_simp
            have hI := hins.out x1 x2 a2 c2 k1 k2 bx2
            rw [hK0.out] at hI
            refine hI.mono ?_
            rintro e3 x3 ⟨a', c', rfl, hrow3, k3, hn3⟩
            have hA := hadd.out x1 x2 x3 a2 c2 a' c' hr1 k1 hn1 k2 hrow3 k3 hn3
            have q1 := hA.1
            have q2 := hA.2.1
            have hfin := hid hA.2.2
            clear hA hrow3
            (try go_wp2_with fail)
            refine hK.out _ _ trivial (fun hHeld => ?_)
            clear hK K hHeld
            try simp only [Act.put, List.getElem_toArray, List.getElem_cons_zero, List.getElem_cons_succ, List.setIfInBounds_toArray, List.set_cons_zero, List.set_cons_succ]
            have hHeld : True := trivial
            refine wpAnyH_take (i := 10) (v := ?_) rfl (by kernel_rfl) (by kernel_rfl) (by kernel_rfl) (fun _ _ _ h => h) (Or.inl ⟨by rfl, ?_⟩) (by assumption) ?_
            rotate_left
            · intro w hSw; (try dsimp only at hSw); go_simp <;> with_reducible rfl
            try simp only [Act.put, List.getElem_toArray, List.getElem_cons_zero, List.getElem_cons_succ, List.setIfInBounds_toArray, List.set_cons_zero, List.set_cons_succ]
            refine wpAnyH_take (i := 11) (v := ?_) rfl (by kernel_rfl) (by kernel_rfl) (by kernel_rfl) (fun _ _ _ h => h) (Or.inl ⟨by rfl, ?_⟩) (by assumption) ?_
            rotate_left
            · intro w hSw; (try dsimp only at hSw); go_simp <;> with_reducible rfl
            try simp only [Act.put, List.getElem_toArray, List.getElem_cons_zero, List.getElem_cons_succ, List.setIfInBounds_toArray, List.set_cons_zero, List.set_cons_succ]
            refine wpAnyH_ready (rs := [12]) (by kernel_rfl) (by simp) ?_
            refine AllReadyH.cons rfl (fun K hK => ?_) AllReadyH.nil
            go_simp
            (try go_wp2_with fail)
            refine hK.out _ _ trivial (fun hHeld => ?_)
            clear hK K hHeld
            try simp only [Act.put, List.getElem_toArray, List.getElem_cons_zero, List.getElem_cons_succ, List.setIfInBounds_toArray, List.set_cons_zero, List.set_cons_succ]
            refine wpAnyH_done (by kernel_rfl) ?_ _
            go_wp2_with fail
            go_returns
            exact hfin.out
          · have PX0 := PX
            go_simp
            refine (hcp.out _ KX).mono ?_
            rintro e1 x1 ⟨a2, c2, rfl, hr1, k1, hn1⟩
            (try go_wp2_with fail)
            refine hK.out _ _ trivial (fun hHeld => ?_)
            clear hK K hHeld
            try simp only [Act.put, List.getElem_toArray, List.getElem_cons_zero, List.getElem_cons_succ, List.setIfInBounds_toArray, List.set_cons_zero, List.set_cons_succ]
            have PX := kpAt k1 PX
            have FX := (k1.frozen (p := ⟨p, 0, none⟩) (World.block_lt_of_cell? _ _ PX0) (by simp)).trans FX
            have X0 := kpAt k1 X0; have X1 := kpAt k1 X1; have X2 := kpAt k1 X2; have X3 := kpAt k1 X3
            have KX := KX.trans k1 (by simp)
            refine wpAnyH_ready (rs := [4, 8]) (by kernel_rfl) (by simp) ?_
            refine AllReadyH.cons rfl (fun K hK => ?_) (AllReadyH.cons rfl (fun K hK => ?_) AllReadyH.nil)
            · go_simp
              (try go_wp2_with fail)
              refine hK.out _ _ trivial (fun hHeld => ?_)
              clear hK K hHeld
              try simp only [Act.put, List.getElem_toArray, List.getElem_cons_zero, List.getElem_cons_succ, List.setIfInBounds_toArray, List.set_cons_zero, List.set_cons_succ]
              refine wpAnyH_ready (rs := [8]) (by kernel_rfl) (by simp) ?_
              refine AllReadyH.cons rfl (fun K hK => ?_) AllReadyH.nil
              go_simp
              obtain ⟨x2, hx2⟩ : ∃ x2, x1.alloc (.cells #[.int .u64 ep, .int .u32 num, .slice a2 row.length c2, .int .u64 del] 45) = x2 := ⟨_, rfl⟩
              rw [hx2]
              have k2 : Kp [] x1 x2 := by rw [← hx2]; exact (Kp.refl _ _).alloc _
              have bx2 : Bx x2 x1.heap.size (VnE.c ⟨ep, num, a2, c2, row, del⟩) := by rw [← hx2]; exact Bx.new x1 (VnE.c ⟨ep, num, a2, c2, row, del⟩) _
              have hx2h := hid hx2
              clear hx2
              have PX0 := PX
              have PX := kpAt k2 PX
              have FX := (k2.frozen (p := ⟨p, 0, none⟩) (World.block_lt_of_cell? _ _ PX0) (by simp)).trans FX
              have KX := KX.trans k2 (by simp)
              (try go_wp2_with fail)
              refine hK.out _ _ trivial (fun hHeld => ?_)
              clear hK K hHeld
              try simp only [Act.put, List.getElem_toArray, List.getElem_cons_zero, List.getElem_cons_succ, List.setIfInBounds_toArray, List.set_cons_zero, List.set_cons_succ]
              refine wpAnyH_ready (rs := [9]) (by kernel_rfl) (by simp) ?_
              refine AllReadyH.cons rfl (fun K hK => ?_) AllReadyH.nil
              go_simp
              have hI := hins.out x1 x2 a2 c2 k1 k2 bx2
              rw [hK0.out] at hI
              refine hI.mono ?_
              rintro e3 x3 ⟨a', c', rfl, hrow3, k3, hn3⟩
              have hA := hadd.out x1 x2 x3 a2 c2 a' c' hr1 k1 hn1 k2 hrow3 k3 hn3
              have q1 := hA.1
              have q2 := hA.2.1
              have hfin := hid hA.2.2
              clear hA hrow3
              (try go_wp2_with fail)
              refine hK.out _ _ trivial (fun hHeld => ?_)
              clear hK K hHeld
              try simp only [Act.put, List.getElem_toArray, List.getElem_cons_zero, List.getElem_cons_succ, List.setIfInBounds_toArray, List.set_cons_zero, List.set_cons_succ]
              have hHeld : True := trivial
              refine wpAnyH_take (i := 10) (v := ?_) rfl (by kernel_rfl) (by kernel_rfl) (by kernel_rfl) (fun _ _ _ h => h) (Or.inl ⟨by rfl, ?_⟩) (by assumption) ?_
              rotate_left
              · intro w hSw; (try dsimp only at hSw); go_simp <;> with_reducible rfl
              try simp only [Act.put, List.getElem_toArray, List.getElem_cons_zero, List.getElem_cons_succ, List.setIfInBounds_toArray, List.set_cons_zero, List.set_cons_succ]
              refine wpAnyH_take (i := 11) (v := ?_) rfl (by kernel_rfl) (by kernel_rfl) (by kernel_rfl) (fun _ _ _ h => h) (Or.inl ⟨by rfl, ?_⟩) (by assumption) ?_
              rotate_left
              · intro w hSw; (try dsimp only at hSw); go_simp <;> with_reducible rfl
              try simp only [Act.put, List.getElem_toArray, List.getElem_cons_zero, List.getElem_cons_succ, List.setIfInBounds_toArray, List.set_cons_zero, List.set_cons_succ]
              refine wpAnyH_ready (rs := [12]) (by kernel_rfl) (by simp) ?_
              refine AllReadyH.cons rfl (fun K hK => ?_) AllReadyH.nil
              go_simp
              (try go_wp2_with fail)
              refine hK.out _ _ trivial (fun hHeld => ?_)
              clear hK K hHeld
              try simp only [Act.put, List.getElem_toArray, List.getElem_cons_zero, List.getElem_cons_succ, List.setIfInBounds_toArray, List.set_cons_zero, List.set_cons_succ]
              refine wpAnyH_done (by kernel_rfl) ?_ _
              go_wp2_with fail
              go_returns
              exact hfin.out
            · go_simp
              obtain ⟨x2, hx2⟩ : ∃ x2, x1.alloc (.cells #[.int .u64 ep, .int .u32 num, .slice a2 row.length c2, .int .u64 del] 45) = x2 := ⟨_, rfl⟩
              rw [hx2]
              have k2 : Kp [] x1 x2 := by rw [← hx2]; exact (Kp.refl _ _).alloc _
              have bx2 : Bx x2 x1.heap.size (VnE.c ⟨ep, num, a2, c2, row, del⟩) := by rw [← hx2]; exact Bx.new x1 (VnE.c ⟨ep, num, a2, c2, row, del⟩) _
              have hx2h := hid hx2
              clear hx2
              have PX0 := PX
              have PX := kpAt k2 PX
              have FX := (k2.frozen (p := ⟨p, 0, none⟩) (World.block_lt_of_cell? _ _ PX0) (by simp)).trans FX
              have KX := KX.trans k2 (by simp)
              (try go_wp2_with fail)
              refine hK.out _ _ trivial (fun hHeld => ?_)
              clear hK K hHeld
              try simp only [Act.put, List.getElem_toArray, List.getElem_cons_zero, List.getElem_cons_succ, List.setIfInBounds_toArray, List.set_cons_zero, List.set_cons_succ]
              refine wpAnyH_ready (rs := [4]) (by kernel_rfl) (by simp) ?_
              refine AllReadyH.cons rfl (fun K hK => ?_) AllReadyH.nil
              go_simp
              (try go_wp2_with fail)
              refine hK.out _ _ trivial (fun hHeld => ?_)
              clear hK K hHeld
              try simp only [Act.put, List.getElem_toArray, List.getElem_cons_zero, List.getElem_cons_succ, List.setIfInBounds_toArray, List.set_cons_zero, List.set_cons_succ]
              refine wpAnyH_ready (rs := [9]) (by kernel_rfl) (by simp) ?_
              refine AllReadyH.cons rfl (fun K hK => ?_) AllReadyH.nil
              go_simp
              have hI := hins.out x1 x2 a2 c2 k1 k2 bx2
              rw [hK0.out] at hI
              refine hI.mono ?_
              rintro e3 x3 ⟨a', c', rfl, hrow3, k3, hn3⟩
              have hA := hadd.out x1 x2 x3 a2 c2 a' c' hr1 k1 hn1 k2 hrow3 k3 hn3
              have q1 := hA.1
              have q2 := hA.2.1
              have hfin := hid hA.2.2
              clear hA hrow3
              (try go_wp2_with fail)
              refine hK.out _ _ trivial (fun hHeld => ?_)
              clear hK K hHeld
              try simp only [Act.put, List.getElem_toArray, List.getElem_cons_zero, List.getElem_cons_succ, List.setIfInBounds_toArray, List.set_cons_zero, List.set_cons_succ]
              have hHeld : True := trivial
              refine wpAnyH_take (i := 10) (v := ?_) rfl (by kernel_rfl) (by kernel_rfl) (by kernel_rfl) (fun _ _ _ h => h) (Or.inl ⟨by rfl, ?_⟩) (by assumption) ?_
              rotate_left
              · intro w hSw; (try dsimp only at hSw); go_simp <;> with_reducible rfl
              try simp only [Act.put, List.getElem_toArray, List.getElem_cons_zero, List.getElem_cons_succ, List.setIfInBounds_toArray, List.set_cons_zero, List.set_cons_succ]
              refine wpAnyH_take (i := 11) (v := ?_) rfl (by kernel_rfl) (by kernel_rfl) (by kernel_rfl) (fun _ _ _ h => h) (Or.inl ⟨by rfl, ?_⟩) (by assumption) ?_
              rotate_left
              · intro w hSw; (try dsimp only at hSw); go_simp <;> with_reducible rfl
              try simp only [Act.put, List.getElem_toArray, List.getElem_cons_zero, List.getElem_cons_succ, List.setIfInBounds_toArray, List.set_cons_zero, List.set_cons_succ]
              refine wpAnyH_ready (rs := [12]) (by kernel_rfl) (by simp) ?_
              refine AllReadyH.cons rfl (fun K hK => ?_) AllReadyH.nil
              go_simp
              (try go_wp2_with fail)
              refine hK.out _ _ trivial (fun hHeld => ?_)
              clear hK K hHeld
              try simp only [Act.put, List.getElem_toArray, List.getElem_cons_zero, List.getElem_cons_succ, List.setIfInBounds_toArray, List.set_cons_zero, List.set_cons_succ]
              refine wpAnyH_done (by kernel_rfl) ?_ _
              go_wp2_with fail
              go_returns
              exact hfin.out
      · have t1 : (del != 0) = true := by simpa using hd0
        have t2 : decide (del ≤ ep) = false := by simp; have := t0.out; omega
        have t3 : ¬ del ≤ ep := by simpa using t2
        clear hd hd0
        go_wp2_with fail
        refine wp_region_held_drew (S := fun _ => True) (by kernel_rfl) trivial (fun hHeld => ?_)
        clear hHeld
        have hHeld : True := trivial
        generalize w2.drew = wd at *
        refine wpAnyH_take (i := 0) (v := ?_) rfl (by kernel_rfl) (by kernel_rfl) (by kernel_rfl) (fun _ _ _ h => h) (Or.inl ⟨by rfl, ?_⟩) (by assumption) ?_
        rotate_left
        · intro w hSw; (try dsimp only at hSw); go_simp <;> with_reducible rfl
        try simp only [Act.put, List.getElem_toArray, List.getElem_cons_zero, List.getElem_cons_succ, List.setIfInBounds_toArray, List.set_cons_zero, List.set_cons_succ]
        refine wpAnyH_take (i := 1) (v := ?_) rfl (by kernel_rfl) (by kernel_rfl) (by kernel_rfl) (fun _ _ _ h => h) (Or.inl ⟨by rfl, ?_⟩) (by assumption) ?_
        rotate_left
        · intro w hSw; (try dsimp only at hSw); go_simp <;> with_reducible rfl
        try simp only [Act.put, List.getElem_toArray, List.getElem_cons_zero, List.getElem_cons_succ, List.setIfInBounds_toArray, List.set_cons_zero, List.set_cons_succ]
        refine wpAnyH_take (i := 2) (v := ?_) rfl (by kernel_rfl) (by kernel_rfl) (by kernel_rfl) (fun _ _ _ h => h) (Or.inl ⟨by rfl, ?_⟩) (by assumption) ?_
        rotate_left
        · intro w hSw; (try dsimp only at hSw); go_simp <;> with_reducible rfl
        try simp only [Act.put, List.getElem_toArray, List.getElem_cons_zero, List.getElem_cons_succ, List.setIfInBounds_toArray, List.set_cons_zero, List.set_cons_succ]
        refine wpAnyH_take (i := 3) (v := ?_) rfl (by kernel_rfl) (by kernel_rfl) (by kernel_rfl) (fun _ _ _ h => h) (Or.inl ⟨by rfl, ?_⟩) (by assumption) ?_
        rotate_left
        · intro w hSw; (try dsimp only at hSw); go_simp <;> with_reducible rfl
        try simp only [Act.put, List.getElem_toArray, List.getElem_cons_zero, List.getElem_cons_succ, List.setIfInBounds_toArray, List.set_cons_zero, List.set_cons_succ]
        refine wpAnyH_take (i := 5) (v := ?_) rfl (by kernel_rfl) (by kernel_rfl) (by kernel_rfl) (fun _ _ _ h => h) (Or.inl ⟨by rfl, ?_⟩) (by assumption) ?_
        rotate_left
        · intro w hSw; (try dsimp only at hSw); go_simp <;> with_reducible rfl
        try simp only [Act.put, List.getElem_toArray, List.getElem_cons_zero, List.getElem_cons_succ, List.setIfInBounds_toArray, List.set_cons_zero, List.set_cons_succ]
        refine wpAnyH_ready (rs := [4, 6]) (by kernel_rfl) (by simp) ?_
        refine AllReadyH.cons rfl (fun K hK => ?_) (AllReadyH.cons rfl (fun K hK => ?_) AllReadyH.nil)
        · go_simp
          (try go_wp2_with fail)
          refine hK.out _ _ trivial (fun hHeld => ?_)
          clear hK K hHeld
          try simp only [Act.put, List.getElem_toArray, List.getElem_cons_zero, List.getElem_cons_succ, List.setIfInBounds_toArray, List.set_cons_zero, List.set_cons_succ]
          refine wpAnyH_ready (rs := [6]) (by kernel_rfl) (by simp) ?_
          refine AllReadyH.cons rfl (fun K hK => ?_) AllReadyH.nil
          go_simp
          (try go_wp2_with fail)
          refine hK.out _ _ trivial (fun hHeld => ?_)
          clear hK K hHeld
          try simp only [Act.put, List.getElem_toArray, List.getElem_cons_zero, List.getElem_cons_succ, List.setIfInBounds_toArray, List.set_cons_zero, List.set_cons_succ]
          refine wpAnyH_ready (rs := [7]) (by kernel_rfl) (by simp) ?_
          refine AllReadyH.cons rfl (fun K hK => ?_) AllReadyH.nil
          have PX0 := PX
          go_simp
          refine (hcp.out _ KX).mono ?_
          rintro e1 x1 ⟨a2, c2, rfl, hr1, k1, hn1⟩
          (try go_wp2_with fail)
          refine hK.out _ _ trivial (fun hHeld => ?_)
          clear hK K hHeld
          try simp only [Act.put, List.getElem_toArray, List.getElem_cons_zero, List.getElem_cons_succ, List.setIfInBounds_toArray, List.set_cons_zero, List.set_cons_succ]
          have PX := kpAt k1 PX
          have FX := (k1.frozen (p := ⟨p, 0, none⟩) (World.block_lt_of_cell? _ _ PX0) (by simp)).trans FX
          have X0 := kpAt k1 X0; have X1 := kpAt k1 X1; have X2 := kpAt k1 X2; have X3 := kpAt k1 X3
          have KX := KX.trans k1 (by simp)
          refine wpAnyH_ready (rs := [8]) (by kernel_rfl) (by simp) ?_
          refine AllReadyH.cons rfl (fun K hK => ?_) AllReadyH.nil
          go_simp
          obtain ⟨x2, hx2⟩ : ∃ x2, x1.alloc (.cells #[.int .u64 ep, .int .u32 num, .slice a2 row.length c2, .int .u64 del] 45) = x2 := ⟨_, rfl⟩
          rw [hx2]
          have k2 : Kp [] x1 x2 := by rw [← hx2]; exact (Kp.refl _ _).alloc _
          have bx2 : Bx x2 x1.heap.size (VnE.c ⟨ep, num, a2, c2, row, del⟩) := by rw [← hx2]; exact Bx.new x1 (VnE.c ⟨ep, num, a2, c2, row, del⟩) _
          have hx2h := hid hx2
          clear hx2
          have PX0 := PX
          have PX := kpAt k2 PX
          have FX := (k2.frozen (p := ⟨p, 0, none⟩) (World.block_lt_of_cell? _ _ PX0) (by simp)).trans FX
          have KX := KX.trans k2 (by simp)
          (try go_wp2_with fail)
          refine hK.out _ _ trivial (fun hHeld => ?_)
          clear hK K hHeld
          try simp only [Act.put, List.getElem_toArray, List.getElem_cons_zero, List.getElem_cons_succ, List.setIfInBounds_toArray, List.set_cons_zero, List.set_cons_succ]
          refine wpAnyH_ready (rs := [9]) (by kernel_rfl) (by simp) ?_
          refine AllReadyH.cons rfl (fun K hK => ?_) AllReadyH.nil
          go_simp
          have hI := hins.out x1 x2 a2 c2 k1 k2 bx2
          rw [hK0.out] at hI
          refine hI.mono ?_
          rintro e3 x3 ⟨a', c', rfl, hrow3, k3, hn3⟩
          have hA := hadd.out x1 x2 x3 a2 c2 a' c' hr1 k1 hn1 k2 hrow3 k3 hn3
          have q1 := hA.1
          have q2 := hA.2.1
          have hfin := hid hA.2.2
          clear hA hrow3
          (try go_wp2_with fail)
          refine hK.out _ _ trivial (fun hHeld => ?_)
          clear hK K hHeld
          try simp only [Act.put, List.getElem_toArray, List.getElem_cons_zero, List.getElem_cons_succ, List.setIfInBounds_toArray, List.set_cons_zero, List.set_cons_succ]
          have hHeld : True := trivial
          refine wpAnyH_take (i := 10) (v := ?_) rfl (by kernel_rfl) (by kernel_rfl) (by kernel_rfl) (fun _ _ _ h => h) (Or.inl ⟨by rfl, ?_⟩) (by assumption) ?_
          rotate_left
          · intro w hSw; (try dsimp only at hSw); go_simp <;> with_reducible rfl
          try simp only [Act.put, List.getElem_toArray, List.getElem_cons_zero, List.getElem_cons_succ, List.setIfInBounds_toArray, List.set_cons_zero, List.set_cons_succ]
          refine wpAnyH_take (i := 11) (v := ?_) rfl (by kernel_rfl) (by kernel_rfl) (by kernel_rfl) (fun _ _ _ h => h) (Or.inl ⟨by rfl, ?_⟩) (by assumption) ?_
          rotate_left
          · intro w hSw; (try dsimp only at hSw); go_simp <;> with_reducible rfl
          try simp only [Act.put, List.getElem_toArray, List.getElem_cons_zero, List.getElem_cons_succ, List.setIfInBounds_toArray, List.set_cons_zero, List.set_cons_succ]
          refine wpAnyH_ready (rs := [12]) (by kernel_rfl) (by simp) ?_
          refine AllReadyH.cons rfl (fun K hK => ?_) AllReadyH.nil
          go_simp
          (try go_wp2_with fail)
          refine hK.out _ _ trivial (fun hHeld => ?_)
          clear hK K hHeld
          try simp only [Act.put, List.getElem_toArray, List.getElem_cons_zero, List.getElem_cons_succ, List.setIfInBounds_toArray, List.set_cons_zero, List.set_cons_succ]
          refine wpAnyH_done (by kernel_rfl) ?_ _
          go_wp2_with fail
          go_returns
          exact hfin.out
        · go_simp
          (try go_wp2_with fail)
          refine hK.out _ _ trivial (fun hHeld => ?_)
          clear hK K hHeld
          try simp only [Act.put, List.getElem_toArray, List.getElem_cons_zero, List.getElem_cons_succ, List.setIfInBounds_toArray, List.set_cons_zero, List.set_cons_succ]
          refine wpAnyH_ready (rs := [4, 7]) (by kernel_rfl) (by simp) ?_
          refine AllReadyH.cons rfl (fun K hK => ?_) (AllReadyH.cons rfl (fun K hK => ?_) AllReadyH.nil)
          · go_simp
            (try go_wp2_with fail)
            refine hK.out _ _ trivial (fun hHeld => ?_)
            clear hK K hHeld
            try simp only [Act.put, List.getElem_toArray, List.getElem_cons_zero, List.getElem_cons_succ, List.setIfInBounds_toArray, List.set_cons_zero, List.set_cons_succ]
            refine wpAnyH_ready (rs := [7]) (by kernel_rfl) (by simp) ?_
            refine AllReadyH.cons rfl (fun K hK => ?_) AllReadyH.nil
            have PX0 := PX
            go_simp
            refine (hcp.out _ KX).mono ?_
            rintro e1 x1 ⟨a2, c2, rfl, hr1, k1, hn1⟩
            (try go_wp2_with fail)
            refine hK.out _ _ trivial (fun hHeld => ?_)
            clear hK K hHeld
            try simp only [Act.put, List.getElem_toArray, List.getElem_cons_zero, List.getElem_cons_succ, List.setIfInBounds_toArray, List.set_cons_zero, List.set_cons_succ]
            have PX := kpAt k1 PX
            have FX := (k1.frozen (p := ⟨p, 0, none⟩) (World.block_lt_of_cell? _ _ PX0) (by simp)).trans FX
            have X0 := kpAt k1 X0; have X1 := kpAt k1 X1; have X2 := kpAt k1 X2; have X3 := kpAt k1 X3
            have KX := KX.trans k1 (by simp)
            refine wpAnyH_ready (rs := [8]) (by kernel_rfl) (by simp) ?_
            refine AllReadyH.cons rfl (fun K hK => ?_) AllReadyH.nil
            go_simp
            obtain ⟨x2, hx2⟩ : ∃ x2, x1.alloc (.cells #[.int .u64 ep, .int .u32 num, .slice a2 row.length c2, .int .u64 del] 45) = x2 := ⟨_, rfl⟩
            rw [hx2]
            have k2 : Kp [] x1 x2 := by rw [← hx2]; exact (Kp.refl _ _).alloc _
            have bx2 : Bx x2 x1.heap.size (VnE.c ⟨ep, num, a2, c2, row, del⟩) := by rw [← hx2]; exact Bx.new x1 (VnE.c ⟨ep, num, a2, c2, row, del⟩) _
            have hx2h := hid hx2
            clear hx2
            have PX0 := PX
            have PX := kpAt k2 PX
            have FX := (k2.frozen (p := ⟨p, 0, none⟩) (World.block_lt_of_cell? _ _ PX0) (by simp)).trans FX
            have KX := KX.trans k2 (by simp)
            (try go_wp2_with fail)
            refine hK.out _ _ trivial (fun hHeld => ?_)
            clear hK K hHeld
            try simp only [Act.put, List.getElem_toArray, List.getElem_cons_zero, List.getElem_cons_succ, List.setIfInBounds_toArray, List.set_cons_zero, List.set_cons_succ]
            refine wpAnyH_ready (rs := [9]) (by kernel_rfl) (by simp) ?_
            refine AllReadyH.cons rfl (fun K hK => ?_) AllReadyH.nil
            go_simp
            have hI := hins.out x1 x2 a2 c2 k1 k2 bx2
            rw [hK0.out] at hI
            refine hI.mono ?_
            rintro e3 x3 ⟨a', c', rfl, hrow3, k3, hn3⟩
            have hA := hadd.out x1 x2 x3 a2 c2 a' c' hr1 k1 hn1 k2 hrow3 k3 hn3
            have q1 := hA.1
            have q2 := hA.2.1
            have hfin := hid hA.2.2
            clear hA hrow3
            (try go_wp2_with fail)
            refine hK.out _ _ trivial (fun hHeld => ?_)
            clear hK K hHeld
            try simp only [Act.put, List.getElem_toArray, List.getElem_cons_zero, List.getElem_cons_succ, List.setIfInBounds_toArray, List.set_cons_zero, List.set_cons_succ]
            have hHeld : True := trivial
            refine wpAnyH_take (i := 10) (v := ?_) rfl (by kernel_rfl) (by kernel_rfl) (by kernel_rfl) (fun _ _ _ h => h) (Or.inl ⟨by rfl, ?_⟩) (by assumption) ?_
            rotate_left
            · intro w hSw; (try dsimp only at hSw); go_simp <;> with_reducible rfl
            try simp only [Act.put, List.getElem_toArray, List.getElem_cons_zero, List.getElem_cons_succ, List.setIfInBounds_toArray, List.set_cons_zero, List.set_cons_succ]
            refine wpAnyH_take (i := 11) (v := ?_) rfl (by kernel_rfl) (by kernel_rfl) (by kernel_rfl) (fun _ _ _ h => h) (Or.inl ⟨by rfl, ?_⟩) (by assumption) ?_
            rotate_left
            · intro w hSw; (try dsimp only at hSw); go_simp <;> with_reducible rfl
            try simp only [Act.put, List.getElem_toArray, List.getElem_cons_zero, List.getElem_cons_succ, List.setIfInBounds_toArray, List.set_cons_zero, List.set_cons_succ]
            refine wpAnyH_ready (rs := [12]) (by kernel_rfl) (by simp) ?_
            refine AllReadyH.cons rfl (fun K hK => ?_) AllReadyH.nil
            go_simp
            (try go_wp2_with fail)
            refine hK.out _ _ trivial (fun hHeld => ?_)
            clear hK K hHeld
            try simp only [Act.put, List.getElem_toArray, List.getElem_cons_zero, List.getElem_cons_succ, List.setIfInBounds_toArray, List.set_cons_zero, List.set_cons_succ]
            refine wpAnyH_done (by kernel_rfl) ?_ _
            go_wp2_with fail
            go_returns
            exact hfin.out
          · have PX0 := PX
            go_simp
            refine (hcp.out _ KX).mono ?_
            rintro e1 x1 ⟨a2, c2, rfl, hr1, k1, hn1⟩
            (try go_wp2_with fail)
            refine hK.out _ _ trivial (fun hHeld => ?_)
            clear hK K hHeld
            try simp only [Act.put, List.getElem_toArray, List.getElem_cons_zero, List.getElem_cons_succ, List.setIfInBounds_toArray, List.set_cons_zero, List.set_cons_succ]
            have PX := kpAt k1 PX
            have FX := (k1.frozen (p := ⟨p, 0, none⟩) (World.block_lt_of_cell? _ _ PX0) (by simp)).trans FX
            have X0 := kpAt k1 X0; have X1 := kpAt k1 X1; have X2 := kpAt k1 X2; have X3 := kpAt k1 X3
            have KX := KX.trans k1 (by simp)
            refine wpAnyH_ready (rs := [4, 8]) (by kernel_rfl) (by simp) ?_
            refine AllReadyH.cons rfl (fun K hK => ?_) (AllReadyH.cons rfl (fun K hK => ?_) AllReadyH.nil)
            · go_simp
              (try go_wp2_with fail)
              refine hK.out _ _ trivial (fun hHeld => ?_)
              clear hK K hHeld
              try simp only [Act.put, List.getElem_toArray, List.getElem_cons_zero, List.getElem_cons_succ, List.setIfInBounds_toArray, List.set_cons_zero, List.set_cons_succ]
              refine wpAnyH_ready (rs := [8]) (by kernel_rfl) (by simp) ?_
              refine AllReadyH.cons rfl (fun K hK => ?_) AllReadyH.nil
              go_simp
              obtain ⟨x2, hx2⟩ : ∃ x2, x1.alloc (.cells #[.int .u64 ep, .int .u32 num, .slice a2 row.length c2, .int .u64 del] 45) = x2 := ⟨_, rfl⟩
              rw [hx2]
              have k2 : Kp [] x1 x2 := by rw [← hx2]; exact (Kp.refl _ _).alloc _
              have bx2 : Bx x2 x1.heap.size (VnE.c ⟨ep, num, a2, c2, row, del⟩) := by rw [← hx2]; exact Bx.new x1 (VnE.c ⟨ep, num, a2, c2, row, del⟩) _
              have hx2h := hid hx2
              clear hx2
              have PX0 := PX
              have PX := kpAt k2 PX
              have FX := (k2.frozen (p := ⟨p, 0, none⟩) (World.block_lt_of_cell? _ _ PX0) (by simp)).trans FX
              have KX := KX.trans k2 (by simp)
              (try go_wp2_with fail)
              refine hK.out _ _ trivial (fun hHeld => ?_)
              clear hK K hHeld
              try simp only [Act.put, List.getElem_toArray, List.getElem_cons_zero, List.getElem_cons_succ, List.setIfInBounds_toArray, List.set_cons_zero, List.set_cons_succ]
              refine wpAnyH_ready (rs := [9]) (by kernel_rfl) (by simp) ?_
              refine AllReadyH.cons rfl (fun K hK => ?_) AllReadyH.nil
              go_simp
              have hI := hins.out x1 x2 a2 c2 k1 k2 bx2
              rw [hK0.out] at hI
              refine hI.mono ?_
              rintro e3 x3 ⟨a', c', rfl, hrow3, k3, hn3⟩
              have hA := hadd.out x1 x2 x3 a2 c2 a' c' hr1 k1 hn1 k2 hrow3 k3 hn3
              have q1 := hA.1
              have q2 := hA.2.1
              have hfin := hid hA.2.2
              clear hA hrow3
              (try go_wp2_with fail)
              refine hK.out _ _ trivial (fun hHeld => ?_)
              clear hK K hHeld
              try simp only [Act.put, List.getElem_toArray, List.getElem_cons_zero, List.getElem_cons_succ, List.setIfInBounds_toArray, List.set_cons_zero, List.set_cons_succ]
              have hHeld : True := trivial
              refine wpAnyH_take (i := 10) (v := ?_) rfl (by kernel_rfl) (by kernel_rfl) (by kernel_rfl) (fun _ _ _ h => h) (Or.inl ⟨by rfl, ?_⟩) (by assumption) ?_
              rotate_left
              · intro w hSw; (try dsimp only at hSw); go_simp <;> with_reducible rfl
              try simp only [Act.put, List.getElem_toArray, List.getElem_cons_zero, List.getElem_cons_succ, List.setIfInBounds_toArray, List.set_cons_zero, List.set_cons_succ]
              refine wpAnyH_take (i := 11) (v := ?_) rfl (by kernel_rfl) (by kernel_rfl) (by kernel_rfl) (fun _ _ _ h => h) (Or.inl ⟨by rfl, ?_⟩) (by assumption) ?_
              rotate_left
              · intro w hSw; (try dsimp only at hSw); go_simp <;> with_reducible rfl
              try simp only [Act.put, List.getElem_toArray, List.getElem_cons_zero, List.getElem_cons_succ, List.setIfInBounds_toArray, List.set_cons_zero, List.set_cons_succ]
              refine wpAnyH_ready (rs := [12]) (by kernel_rfl) (by simp) ?_
              refine AllReadyH.cons rfl (fun K hK => ?_) AllReadyH.nil
              go_simp
              (try go_wp2_with fail)
              refine hK.out _ _ trivial (fun hHeld => ?_)
              clear hK K hHeld
              try simp only [Act.put, List.getElem_toArray, List.getElem_cons_zero, List.getElem_cons_succ, List.setIfInBounds_toArray, List.set_cons_zero, List.set_cons_succ]
              refine wpAnyH_done (by kernel_rfl) ?_ _
              go_wp2_with fail
              go_returns
              exact hfin.out
            · go_simp
              obtain ⟨x2, hx2⟩ : ∃ x2, x1.alloc (.cells #[.int .u64 ep, .int .u32 num, .slice a2 row.length c2, .int .u64 del] 45) = x2 := ⟨_, rfl⟩
              rw [hx2]
              have k2 : Kp [] x1 x2 := by rw [← hx2]; exact (Kp.refl _ _).alloc _
              have bx2 : Bx x2 x1.heap.size (VnE.c ⟨ep, num, a2, c2, row, del⟩) := by rw [← hx2]; exact Bx.new x1 (VnE.c ⟨ep, num, a2, c2, row, del⟩) _
              have hx2h := hid hx2
              clear hx2
              have PX0 := PX
              have PX := kpAt k2 PX
              have FX := (k2.frozen (p := ⟨p, 0, none⟩) (World.block_lt_of_cell? _ _ PX0) (by simp)).trans FX
              have KX := KX.trans k2 (by simp)
              (try go_wp2_with fail)
              refine hK.out _ _ trivial (fun hHeld => ?_)
              clear hK K hHeld
              try simp only [Act.put, List.getElem_toArray, List.getElem_cons_zero, List.getElem_cons_succ, List.setIfInBounds_toArray, List.set_cons_zero, List.set_cons_succ]
              refine wpAnyH_ready (rs := [4]) (by kernel_rfl) (by simp) ?_
              refine AllReadyH.cons rfl (fun K hK => ?_) AllReadyH.nil
              go_simp
              (try go_wp2_with fail)
              refine hK.out _ _ trivial (fun hHeld => ?_)
              clear hK K hHeld
              try simp only [Act.put, List.getElem_toArray, List.getElem_cons_zero, List.getElem_cons_succ, List.setIfInBounds_toArray, List.set_cons_zero, List.set_cons_succ]
              refine wpAnyH_ready (rs := [9]) (by kernel_rfl) (by simp) ?_
              refine AllReadyH.cons rfl (fun K hK => ?_) AllReadyH.nil
              go_simp
              have hI := hins.out x1 x2 a2 c2 k1 k2 bx2
              rw [hK0.out] at hI
              refine hI.mono ?_
              rintro e3 x3 ⟨a', c', rfl, hrow3, k3, hn3⟩
              have hA := hadd.out x1 x2 x3 a2 c2 a' c' hr1 k1 hn1 k2 hrow3 k3 hn3
              have q1 := hA.1
              have q2 := hA.2.1
              have hfin := hid hA.2.2
              clear hA hrow3
              (try go_wp2_with fail)
              refine hK.out _ _ trivial (fun hHeld => ?_)
              clear hK K hHeld
              try simp only [Act.put, List.getElem_toArray, List.getElem_cons_zero, List.getElem_cons_succ, List.setIfInBounds_toArray, List.set_cons_zero, List.set_cons_succ]
              have hHeld : True := trivial
              refine wpAnyH_take (i := 10) (v := ?_) rfl (by kernel_rfl) (by kernel_rfl) (by kernel_rfl) (fun _ _ _ h => h) (Or.inl ⟨by rfl, ?_⟩) (by assumption) ?_
              rotate_left
              · intro w hSw; (try dsimp only at hSw); go_simp <;> with_reducible rfl
              try simp only [Act.put, List.getElem_toArray, List.getElem_cons_zero, List.getElem_cons_succ, List.setIfInBounds_toArray, List.set_cons_zero, List.set_cons_succ]
              refine wpAnyH_take (i := 11) (v := ?_) rfl (by kernel_rfl) (by kernel_rfl) (by kernel_rfl) (fun _ _ _ h => h) (Or.inl ⟨by rfl, ?_⟩) (by assumption) ?_
              rotate_left
              · intro w hSw; (try dsimp only at hSw); go_simp <;> with_reducible rfl
              try simp only [Act.put, List.getElem_toArray, List.getElem_cons_zero, List.getElem_cons_succ, List.setIfInBounds_toArray, List.set_cons_zero, List.set_cons_succ]
              refine wpAnyH_ready (rs := [12]) (by kernel_rfl) (by simp) ?_
              refine AllReadyH.cons rfl (fun K hK => ?_) AllReadyH.nil
              go_simp
              (try go_wp2_with fail)
              refine hK.out _ _ trivial (fun hHeld => ?_)
              clear hK K hHeld
              try simp only [Act.put, List.getElem_toArray, List.getElem_cons_zero, List.getElem_cons_succ, List.setIfInBounds_toArray, List.set_cons_zero, List.set_cons_succ]
              refine wpAnyH_done (by kernel_rfl) ?_ _
              go_wp2_with fail
              go_returns
              exact hfin.out
end Go.Proofs.Ytdjlefacdfdhmaa
end

section
namespace Go.Proofs.Ytdjlefacdfdhmaa
open Go.RowKit Go.Hay
set_option linter.unusedVariables false
set_option linter.unusedSimpArgs false

theorem mem_set {l : List Vn} {k : Nat} {y z : Vn} (h : z ∈ l.set k y) : z = y ∨ z ∈ l := by
  rcases List.mem_or_eq_of_mem_set h with h | h
  · exact .inr h
  · exact .inl h
/-- One cell of an element, written over. -/
theorem wosErase {w wd : World} {p : Nat} {g o c : Nat} {l : List Vn} (h : Wos wd p (.slice (some ⟨g, o, none⟩) l.length c) l) (kw : Kp [] w wd) (k : Nat) (x : Vn) (hx : l[k]? = some x) (e : Int) :
    wd.cell? ⟨g, o + k * 4 + 3, none⟩ = some (.int .u64 x.del) ∧ wd.frozen? ⟨g, o + k * 4 + 3, none⟩ = false ∧ ChgW p (.slice (some ⟨g, o, none⟩) l.length c) l (l.set k (erased x e)) (.int .i64 0) w (.returned (.int .i64 0)) (wd.setCell ⟨g, o + k * 4 + 3, none⟩ (.int .u64 e)) := by
  have hkl : k < l.length := (List.getElem?_eq_some_iff.1 hx).1
  obtain ⟨_, _, ev, hsee, _⟩ := h.row.see
  cases ev
  obtain ⟨g', o', ea, c0, c1, c2, c3⟩ := idAt hsee hx
  cases ea
  obtain ⟨r1, r2, hrow⟩ := h.row.cell1 k 3 x (erased x e) hx (by decide) (.int .u64 e) rfl
  have ks : Kp [g] wd (wd.setCell ⟨g, o + k * 4 + 3, none⟩ (.int .u64 e)) := (Kp.refl _ _).setCell (.inl (by simp)) _
  have hgp : p ∉ [g] := fun e => by simp at e; subst e; exact h.apart (by simp [own, Value.ownBlock])
  have hoff : ∀ y ∈ l, ∀ j ∈ bkV y, j ∉ [g] := fun y hy j hj e => h.off y hy j hj (by simp at e; subst e; simp [own, Value.ownBlock])
  have hmem : ∀ y ∈ l.set k (erased x e), ∃ z ∈ l, bkV y = bkV z ∧ ∀ W, VnOk W z → VnOk W y := fun y hy => by
    rcases mem_set hy with rfl | hy
    · exact ⟨x, List.mem_of_getElem? hx, rfl, fun W hW => hW.era e⟩
    · exact ⟨y, hy, rfl, fun W hW => hW⟩
  refine ⟨c3, r2, _, rfl, ⟨(ks.cell (p := ⟨p, 0, none⟩) h.lt hgp).trans h.c0, fun j => (ks.frozen (p := ⟨p, j, none⟩) h.lt hgp).trans (h.free j), hrow, fun y hy => ?_, h.apart, fun y hy j hj => ?_, h.srt.set k x _ hx rfl, by rw [List.length_set]; exact h.few⟩, ⟨?_, fun _ h => .inl h⟩, fun y hy j hj => ?_⟩
  · obtain ⟨z, hz, eb, hW⟩ := hmem y hy
    exact hW _ ((h.ok z hz).keptS ks (hoff z hz))
  · obtain ⟨z, hz, eb, hW⟩ := hmem y hy
    rw [eb] at hj
    exact h.off z hz j hj
  · exact (kw.mono (by simp)).trans ks (fun j hj => .inl (by simp at hj; subst hj; simp [own, Value.ownBlock]))
  · obtain ⟨z, hz, eb, hW⟩ := hmem y hy
    rw [eb] at hj
    exact .inl ⟨z, hz, hj⟩
theorem ChgW.pre {p : Nat} {v : Value} {l l' : List Vn} {r : Value} {w w0 : World} {e : Ending} {w' : World} (hk : Kp [] w w0) (h : ChgW p v l l' r w0 e w') : ChgW p v l l' r w e w' := by
  obtain ⟨v', h1, h2, h3, h4⟩ := h
  exact ⟨v', h1, h2, h3.pre hk, fun y hy k hk' => (h4 y hy k hk').imp id (Nat.le_trans hk.size)⟩
set_option maxHeartbeats 8000000 in
set_option maxRecDepth 100000 in
theorem cErase {w : World} {p : Nat} {v : Value} {l : List Vn} (h : Wos w p v l) (ep num e : Int) :
    Calls Try.prog 20 #[.pointer (some ⟨p, 0, none⟩), .agg #[.int .u64 ep, .int .u32 num], .int .u64 e] w (ChgW p v l (eraV l (ep, num) e).1 (.int .i64 (eraV l (ep, num) e).2) w) := by
  obtain ⟨w1, hw1⟩ : ∃ w1, w.alloc (.cells #[.int .u64 ep, .int .u32 num] 42) = w1 := ⟨_, rfl⟩
  have k1 : Kp [] w w1 := by rw [← hw1]; exact (Kp.refl _ _).alloc _
  have bx : Bx w1 w.heap.size [.int .u64 ep, .int .u32 num] := by rw [← hw1]; exact Bx.new w [.int .u64 ep, .int .u32 num] _
  have hlt1 : w.heap.size < w1.heap.size := by rw [← hw1]; simp
  have cF := cFind (h.keptNew k1) ep num
  have hW := hid (fun X (k : Kp [] w X) => h.keptNew k)
  have hyes := hid (has_at h.srt (ep, num))
  obtain ⟨a, c, rfl, _⟩ := h.row.see
  have hfew := h.few
  have hcc : l.length ≤ c := by
    rcases h.row with ⟨e, h0⟩ | ⟨g1, o1, cap, e, hl, _⟩
    · rw [h0]; simp
    · simp only [Value.slice.injEq] at e; obtain ⟨_, _, rfl⟩ := e; exact hl
  obtain ⟨K0, hK0⟩ : ∃ k, Hid (kOf l (ep, num) = k) := ⟨_, rfl⟩
  obtain ⟨B, hB⟩ : ∃ b, Hid (hasV l (ep, num) = b) := ⟨_, rfl⟩
  rw [hK0.out, hB.out] at cF
  rw [hK0.out, hB.out] at hyes
  have p0 := bx.get 0 _ rfl; have p1 := bx.get 1 _ rfl
  clear h
  go_enter Try.func20, Try.ntmps20
  go_wp2_with fail
  refine cF.mono ?_
  rintro r w2 ⟨rfl, k2⟩
  have kw2 := k1.trans k2 (by simp)
  have b2 := bx.kept k2 hlt1
  have s0 := b2.get 0 _ rfl; have s1 := b2.get 1 _ rfl
  cases B with
  | false =>
    have hH : Hid (ChgW p (.slice a l.length c) l (eraV l (ep, num) e).1 (.int .i64 (eraV l (ep, num) e).2) w (.returned (.int .i64 102)) w2) := by
      show ChgW _ _ _ _ _ _ _ _
      unfold eraV
      rw [if_pos hB.out]
      exact ChgW.same (hW.out w (Kp.refl _ _)) kw2 _
    clear cF hyes
    go_wp2_with fail
    go_returns
    exact hH.out
  | true =>
    obtain ⟨x, hx, hid0⟩ := hyes.out rfl
    have hatP : Hid (atP l (ep, num) = x) := by show _ = _; unfold atP; rw [hK0.out, hx]; rfl
    have hn0 : ¬ hasV l (ep, num) = false := by rw [hB.out]; simp
    by_cases he : e ≤ ep
    · have hH : Hid (ChgW p (.slice a l.length c) l (eraV l (ep, num) e).1 (.int .i64 (eraV l (ep, num) e).2) w (.returned (.int .i64 101)) w2) := by
        show ChgW _ _ _ _ _ _ _ _
        unfold eraV
        rw [if_neg hn0, if_pos he]
        exact ChgW.same (hW.out w (Kp.refl _ _)) kw2 _
      clear cF hyes hx hid0 hatP hn0
      go_wp2_with fail
      go_returns
      exact hH.out
    · have hWx := hW.out w2 kw2
      obtain ⟨_, _, ev, hsee, _⟩ := hWx.row.see
      cases ev
      obtain ⟨g, o, rfl, _, _, _, c3⟩ := idAt hsee hx
      have hkl : K0 < l.length := (List.getElem?_eq_some_iff.1 hx).1
      have pc := hWx.c0
      have z1 : (0 : Int) ≤ (K0 : Int) := by omega
      have z2 : (K0 : Int) < (l.length : Int) := by omega
      by_cases hdl : x.del = 0
      · obtain ⟨q1, q2, q3⟩ := wosErase hWx kw2 K0 x hx e
        have hH : Hid (ChgW p (.slice (some ⟨g, o, none⟩) l.length c) l (eraV l (ep, num) e).1 (.int .i64 (eraV l (ep, num) e).2) w (.returned (.int .i64 0)) (w2.setCell ⟨g, o + K0 * 4 + 3, none⟩ (.int .u64 e))) := by
          show ChgW _ _ _ _ _ _ _ _
          unfold eraV
          rw [if_neg hn0, if_neg he, hatP.out, if_neg (by simpa using hdl), hK0.out]
          exact q3
        have t1 : (x.del != 0) = false := by simpa using hdl
        generalize x.del = xd at *
        clear cF hyes hx hid0 hatP hn0 q3 hsee hWx
        go_wp2_with fail
        go_returns
        exact hH.out
      · have hH : Hid (ChgW p (.slice (some ⟨g, o, none⟩) l.length c) l (eraV l (ep, num) e).1 (.int .i64 (eraV l (ep, num) e).2) w (.returned (.int .i64 103)) w2) := by
          show ChgW _ _ _ _ _ _ _ _
          unfold eraV
          rw [if_neg hn0, if_neg he, hatP.out, if_pos hdl]
          exact ChgW.same (hW.out w (Kp.refl _ _)) kw2 _
        have t1 : (x.del != 0) = true := by simpa using hdl
        generalize x.del = xd at *
        clear cF hyes hx hid0 hatP hn0 hsee hWx
        go_wp2_with fail
        go_returns
        exact hH.out
/-- What Get hands back. -/
def GetP (l : List Vn) (i : Int × Int) (w : World) (e : Ending) (w' : World) : Prop :=
  if hasV l i = true then ∃ a c, e = .returned (.tuple #[.agg #[.int .u64 (atP l i).ep, .int .u32 (atP l i).num, .slice a (atP l i).row.length c, .int .u64 (atP l i).del], .bool true]) ∧ VE.Row w' (.slice a (atP l i).row.length c) (atP l i).row ∧ Kp [] w w' ∧ ∀ k ∈ blk a, w.heap.size ≤ k
  else e = .returned (.tuple #[.agg #[.int .u64 0, .int .u32 0, .slice none 0 0, .int .u64 0], .bool false]) ∧ Kp [] w w'
set_option maxHeartbeats 8000000 in
set_option maxRecDepth 100000 in
theorem cGet {w : World} {p : Nat} {v : Value} {l : List Vn} (h : Wos w p v l) (ep num : Int) :
    Calls Try.prog 26 #[.pointer (some ⟨p, 0, none⟩), .agg #[.int .u64 ep, .int .u32 num]] w (GetP l (ep, num) w) := by
  obtain ⟨w1, hw1, k1, bx, by0, hlt1⟩ : ∃ w1, (w.alloc (.cells #[.int .u64 ep, .int .u32 num] 42)).alloc (.cells #[.int .u64 0, .int .u32 0, .slice none 0 0, .int .u64 0] 45) = w1 ∧ Kp [] w w1 ∧ Bx w1 w.heap.size [.int .u64 ep, .int .u32 num] ∧ Bx w1 (w.heap.size + 1) [.int .u64 0, .int .u32 0, .slice none 0 0, .int .u64 0] ∧ w.heap.size + 2 ≤ w1.heap.size := by
    refine ⟨_, rfl, ((Kp.refl _ _).alloc _).alloc _, (Bx.new w [.int .u64 ep, .int .u32 num] _).kept ((Kp.refl _ _).alloc _) (by simp), ?_, by simp⟩
    have := Bx.new (w.alloc (.cells #[.int .u64 ep, .int .u32 num] 42)) [.int .u64 0, .int .u32 0, .slice none 0 0, .int .u64 0] 45
    rwa [World.size_alloc] at this
  have cF := cFind (h.keptNew k1) ep num
  have hW := hid (fun X (k : Kp [] w X) => h.keptNew k)
  have hyes := hid (has_at h.srt (ep, num))
  obtain ⟨a, c, rfl, _⟩ := h.row.see
  have hfew := h.few
  obtain ⟨K0, hK0⟩ : ∃ k, Hid (kOf l (ep, num) = k) := ⟨_, rfl⟩
  obtain ⟨B, hB⟩ : ∃ b, Hid (hasV l (ep, num) = b) := ⟨_, rfl⟩
  rw [hK0.out, hB.out] at cF
  rw [hK0.out, hB.out] at hyes
  have p0 := bx.get 0 _ rfl; have p1 := bx.get 1 _ rfl
  have hG := hid (show GetP l (ep, num) w = _ from rfl)
  clear h hG
  go_enter Try.func26, Try.ntmps26
  go_wp2_with fail
  refine cF.mono ?_
  rintro r w2 ⟨rfl, k2⟩
  have kw2 := k1.trans k2 (by simp)
  have hz2 := k2.size
  have b2 := by0.kept k2 (by omega)
  have s0 := b2.get 0 _ rfl; have s1 := b2.get 1 _ rfl; have s2 := b2.get 2 _ rfl; have s3 := b2.get 3 _ rfl
  have f0 := b2.free 0; have f1 := b2.free 1; have f2 := b2.free 2; have f3 := b2.free 3
  cases B with
  | false =>
    obtain ⟨w4, hw4, g1, k4⟩ := b2.set4 rfl (.int .u64 0) (.int .u32 0) (.slice none 0 0) (.int .u64 0)
    have r0 := g1.get 0 _ rfl; have r1 := g1.get 1 _ rfl; have r2 := g1.get 2 _ rfl; have r3 := g1.get 3 _ rfl
    have hH : Hid (GetP l (ep, num) w (.returned (.tuple #[.agg #[.int .u64 0, .int .u32 0, .slice none 0 0, .int .u64 0], .bool false])) w4) := by
      show GetP _ _ _ _ _
      unfold GetP
      rw [if_neg (by rw [hB.out]; simp)]
      exact ⟨rfl, kw2.trans k4 (fun k hk => .inr (by simp at hk; omega))⟩
    clear cF hyes g1 k4 b2 by0 bx
    go_wp2_with fail
    refine bodyPost_ret (v := .tuple #[.agg #[.int .u64 0, .int .u32 0, .slice none 0 0, .int .u64 0], .bool false]) (by simp [results, Try.results26, go_sem, r0, r1, r2, r3]) rfl ?_
    exact hH.out
  | true =>
    obtain ⟨x, hx, hid0⟩ := hyes.out rfl
    have hatP : Hid (atP l (ep, num) = x) := by show _ = _; unfold atP; rw [hK0.out, hx]; rfl
    have hWx := hW.out w2 kw2
    obtain ⟨_, _, ev, hsee, _⟩ := hWx.row.see
    cases ev
    obtain ⟨g, o, rfl, c0, c1, c2, c3⟩ := idAt hsee hx
    have hkl : K0 < l.length := (List.getElem?_eq_some_iff.1 hx).1
    have pc := hWx.c0
    have z1 : (0 : Int) ≤ (K0 : Int) := by omega
    have z2 : (K0 : Int) < (l.length : Int) := by omega
    have cC := cCopyOf x w2 (hWx.ok x (List.mem_of_getElem? hx))
    unfold CopP Vn.v at cC
    obtain ⟨xe, xn, xa, xc, xr, xd⟩ := x
    dsimp only at cC c0 c1 c2 c3
    clear cF hyes hx hid0 hsee hWx
    go_wp2_with fail
    refine cC.mono ?_
    rintro r w3 ⟨a3, c3', rfl, hr3, k3, hn3⟩
    have d1 := b2.kept k3 (by omega)
    have y0 := d1.get 0 _ rfl; have y1 := d1.get 1 _ rfl; have y2 := d1.get 2 _ rfl; have y3 := d1.get 3 _ rfl
    have v0 := d1.free 0; have v1 := d1.free 1; have v2 := d1.free 2; have v3 := d1.free 3
    obtain ⟨w4, hw4, g1, k4⟩ := d1.set4 rfl (.int .u64 xe) (.int .u32 xn) (.slice a3 xr.length c3') (.int .u64 xd)
    have r0 := g1.get 0 _ rfl; have r1 := g1.get 1 _ rfl; have r2 := g1.get 2 _ rfl; have r3 := g1.get 3 _ rfl
    have hnew : ∀ k ∈ blk a3, w.heap.size + 2 ≤ k := fun k hk => by have := hn3 k hk; omega
    have hr4 : VE.Row w4 (.slice a3 xr.length c3') xr := hr3.kept k4 (fun k hk => by rw [own_slice] at hk; have := hnew k hk; simp; omega)
    have hH : Hid (GetP l (ep, num) w (.returned (.tuple #[.agg #[.int .u64 xe, .int .u32 xn, .slice a3 xr.length c3', .int .u64 xd], .bool true])) w4) := by
      show GetP _ _ _ _ _
      unfold GetP
      rw [if_pos (by rw [hB.out]), hatP.out]
      exact ⟨a3, c3', rfl, hr4, (kw2.trans k3 (by simp)).trans k4 (fun k hk => .inr (by simp at hk; omega)), fun k hk => by have := hnew k hk; omega⟩
    clear cC hr3 k3 hn3 d1 g1 k4 hnew hr4 b2 by0 bx hatP
    go_wp2_with fail
    refine bodyPost_ret (v := .tuple #[.agg #[.int .u64 xe, .int .u32 xn, .slice a3 xr.length c3', .int .u64 xd], .bool true]) (by simp [results, Try.results26, go_sem, r0, r1, r2, r3]) rfl ?_
    exact hH.out
/-- A clone: rows all new but for what their versions' rows see. -/
def NewW (l : List Vn) (w : World) (e : Ending) (w' : World) : Prop := ∃ p v, e = .returned (.pointer (some ⟨p, 0, none⟩)) ∧ Wos w' p v l ∧ Kp [] w w' ∧ ∀ k ∈ p :: own v, w.heap.size ≤ k
set_option maxHeartbeats 4000000 in
theorem cClone {w : World} {p : Nat} {v : Value} {l : List Vn} (h : Wos w p v l) : Calls Try.prog 23 #[.pointer (some ⟨p, 0, none⟩)] w (NewW l w) := by
  obtain ⟨a, c, rfl, hsee, hnil, _⟩ := h.row.see
  have c0 := h.c0
  have cC := cCloneN a c l w hsee (fun e => (hnil e).2) h.few
  have hW := hid h
  clear h hsee
  go_enter Try.func23, Try.ntmps23
  go_wp2_with fail
  refine cC.mono ?_
  rintro r w2 ⟨a2, c2, rfl, hr2, k2, hn2⟩
  clear cC
  go_wp2_with fail
  go_returns
  have ka : Kp [] w2 (w2.alloc (.cells #[.slice a2 l.length c2] 71)) := (Kp.refl _ _).alloc _
  have hlt : ∀ k ∈ blk a2, k < w2.heap.size := fun k hk => hr2.lt k (by rw [own_slice]; exact hk)
  have z2 := k2.size
  refine ⟨w2.heap.size, .slice a2 l.length c2, rfl, ⟨World.cell?_alloc_new w2 _ _ 0, fun j => World.frozen?_alloc_new w2 _ _ j, hr2.keptNew ka, fun x hx => ((hW.out.ok x hx).kept k2).kept ka, fun hm => by rw [own_slice] at hm; have := hlt _ hm; omega, fun x hx k hk hm => ?_, hW.out.srt, hW.out.few⟩, k2.trans ka (by simp), fun k hk => ?_⟩
  · have h1 := (hW.out.ok x hx).lt k hk
    rw [own_slice] at hm
    rcases List.mem_cons.1 hm with e | e
    · omega
    · have := hn2 k e; omega
  · rw [own_slice] at hk
    rcases List.mem_cons.1 hk with e | e
    · omega
    · exact hn2 k e
end Go.Proofs.Ytdjlefacdfdhmaa
end

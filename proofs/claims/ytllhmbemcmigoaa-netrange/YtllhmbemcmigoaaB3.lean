/- The reference's net, and its calls New, There, Send. The reference's call Out. The reference's call Double. The law's own stands: a net has what the reference has. The law's own asked: what is told of a place is what the reference tells. The law's own step, of a net: what it leaves; the boxes. -/
import Derived.Test.YtllhmbemcmigoaaB2
section
namespace Go.Proofs.Ytllhmbemcmigoaa
open Go.RowKit Go.Hay
set_option linter.unusedVariables false
set_option linter.unusedSimpArgs false

/-- A message of the reference's: to whom, the slice of its bytes. -/
structure RM where
  to : Int
  a : Option Addr
  c : Nat
  bs : List UInt8
instance : Inhabited RM := ⟨⟨0, none, 0, []⟩⟩
def RM.m (x : RM) : Msg := ⟨x.to, x.bs⟩
def RME : El RM where
  n := 2
  c m := [.int .i64 m.to, .slice m.a m.bs.length m.c]
  len _ := rfl
  one _ u hu := by simp at hu; rcases hu with rfl | rfl <;> rfl
  pos := by decide
/-- The reference's net. -/
structure RN where
  room : Int
  la : Option Addr
  lc : Nat
  l : List RM
def RN.v (r : RN) : Value := .agg #[.int .i64 r.room, .slice r.la r.l.length r.lc]
/-- The blocks that are seen. -/
def RM.ft (x : RM) : List Nat := if x.bs = [] then [] else blk x.a
def RN.ff (r : RN) : List Nat := if r.l = [] then [] else blk r.la
def RN.foot (r : RN) : List Nat := r.ff ++ r.l.flatMap RM.ft
theorem mem_rft {x : RM} {k : Nat} (h : k ∈ x.ft) : k ∈ blk x.a := by
  unfold RM.ft at h
  split at h
  · cases h
  · exact h
theorem mem_rff {r : RN} {k : Nat} (h : k ∈ r.ff) : k ∈ blk r.la := by
  unfold RN.ff at h
  split at h
  · cases h
  · exact h
structure RnOk (w : World) (r : RN) : Prop where
  see : RME.See w r.la r.l
  raw : ∀ x ∈ r.l, Sees w x.a x.bs
theorem RnOk.kept {w w' : World} {r : RN} {S : List Nat} (h : RnOk w r) (hk : Kp S w w') (hn : ∀ k ∈ r.foot, k ∉ S) : RnOk w' r :=
  ⟨h.see.kept hk (fun hne k hk' => hn k (by simp only [RN.foot, List.mem_append]; exact .inl (by unfold RN.ff; rw [if_neg hne]; exact hk'))), fun x hx => (h.raw x hx).kept' hk (fun hne k hk' => hn k (by simp only [RN.foot, List.mem_append, List.mem_flatMap]; exact .inr ⟨x, hx, by unfold RM.ft; rw [if_neg hne]; exact hk'⟩))⟩
theorem RnOk.keptNew {w w' : World} {r : RN} (h : RnOk w r) (hk : Kp [] w w') : RnOk w' r := h.kept hk (by simp)
theorem RnOk.lt {w : World} {r : RN} (h : RnOk w r) : ∀ k ∈ r.foot, k < w.heap.size := fun k hk => by
  simp only [RN.foot, List.mem_append, List.mem_flatMap] at hk
  rcases hk with hk | ⟨x, hx, hk⟩
  · unfold RN.ff at hk
    split at hk
    · cases hk
    · rename_i hne; exact h.see.lt hne k hk
  · unfold RM.ft at hk
    split at hk
    · cases hk
    · rename_i hne; exact (h.raw x hx).lt hne k hk
/-- It is the net n. -/
structure LikeN (r : RN) (n : Nt) : Prop where
  room : r.room = max n.room 0
  l : r.l.map RM.m = n.l
theorem LikeN.len {r : RN} {n : Nt} (h : LikeN r n) : r.l.length = n.l.length := by rw [← h.l]; simp
def RefN (T : List Nat) (n : Nt) (w : World) (v : Value) (w' : World) : Prop := ∃ r : RN, v = r.v ∧ RnOk w' r ∧ LikeN r n ∧ Kp [] w w' ∧ ∀ k ∈ r.foot, k ∈ T ∨ w.heap.size ≤ k
/-- A box of two cells. -/
structure B2 (w : World) (q : Nat) (a b : Value) : Prop where
  c0 : w.cell? ⟨q, 0, none⟩ = some a
  c1 : w.cell? ⟨q, 1, none⟩ = some b
  free : ∀ j, w.frozen? ⟨q, j, none⟩ = false
theorem B2.at {w : World} (q : Nat) (hq : w.heap.size = q) (a b : Value) (t : TypeId) : B2 (w.alloc (.cells #[a, b] t)) q a b := by
  subst hq
  exact ⟨World.cell?_alloc_new w _ _ 0, World.cell?_alloc_new w _ _ 1, fun j => World.frozen?_alloc_new w _ _ j⟩
theorem B2.lt {w : World} {q : Nat} {a b : Value} (h : B2 w q a b) : q < w.heap.size := World.block_lt_of_cell? _ _ h.c0
theorem B2.keptS {w w' : World} {q : Nat} {a b : Value} {S : List Nat} (h : B2 w q a b) (hk : Kp S w w') (hq : q ∉ S) : B2 w' q a b :=
  ⟨(hk.cell (p := ⟨q, _, none⟩) h.lt hq).trans h.c0, (hk.cell (p := ⟨q, _, none⟩) h.lt hq).trans h.c1, fun j => (hk.frozen (p := ⟨q, j, none⟩) h.lt hq).trans (h.free j)⟩
theorem B2.kept {w w' : World} {q : Nat} {a b : Value} (h : B2 w q a b) (hk : Kp [] w w') : B2 w' q a b := h.keptS hk (by simp)
theorem kpSet (q j : Nat) (w : World) (u : Value) : Kp [q] w (w.setCell ⟨q, j, none⟩ u) := (Kp.refl _ _).setCell (p := ⟨q, j, none⟩) (by simp) u
theorem set2_ex {W : World} {q : Nat} {a0 b0 : Value} (h : B2 W q a0 b0) (a b : Value) : ∃ W', (W.setCell ⟨q, 0, none⟩ a).setCell ⟨q, 1, none⟩ b = W' ∧ B2 W' q a b ∧ Kp [q] W W' :=
  ⟨_, rfl, ⟨(setCell_off (by decide) _).trans (World.cell?_setCell_same _ _ _ h.c0), World.cell?_setCell_same _ _ _ ((setCell_off (by decide) _).trans h.c1), fun j => by simp only [World.frozen?_setCell]; exact h.free j⟩, (kpSet q 0 W a).trans (kpSet q 1 _ b) (fun x hx => .inl hx)⟩
theorem cRNew (room : Int) (w : World) : Calls Try.prog 9 #[.int .i64 room] w fun e w' => ∃ v, e = .returned v ∧ RefN [] ⟨room, []⟩ w v w' := by
  go_enter Try.func9, Try.ntmps9
  go_wp2_with fail
  · go_returns
    exact ⟨_, rfl, ⟨0, none, 0, []⟩, rfl, ⟨.inl rfl, by simp⟩, ⟨by simp only; omega, rfl⟩, (Kp.refl _ _).alloc _, by simp [RN.foot, RN.ff]⟩
  · go_returns
    exact ⟨_, rfl, ⟨room, none, 0, []⟩, rfl, ⟨.inl rfl, by simp⟩, ⟨by simp only; omega, rfl⟩, (Kp.refl _ _).alloc _, by simp [RN.foot, RN.ff]⟩
theorem cThere (r : RN) (i : Int) (w : World) : Calls Try.prog 24 #[r.v, .int .i64 i] w fun e w' => e = .returned (.bool (decide (0 ≤ i) && decide (i < r.l.length))) ∧ Kp [] w w' := by
  obtain ⟨room, la, lc, l⟩ := r
  simp only [RN.v]
  have bx := B2.at (w := w) w.heap.size rfl (.int .i64 room) (.slice la l.length lc) 28
  have kb : Kp [] w (w.alloc (.cells #[.int .i64 room, .slice la l.length lc] 28)) := (Kp.refl _ _).alloc _
  have b1 := bx.c1
  go_enter Try.func24, Try.ntmps24
  by_cases h0 : 0 ≤ i
  · have e0 : decide (0 ≤ i) = true := by simpa using h0
    rw [e0]
    go_wp2_with fail
    go_ret
    exact ⟨by simp, kb⟩
  · have e0 : decide (0 ≤ i) = false := by simpa using h0
    rw [e0]
    go_wp2_with fail
    go_ret
    exact ⟨by simp, kb⟩
theorem infoR : ∃ i : TypeInfo, Try.prog.info? 46 = some i ∧ i.zero = some (.agg #[.int .i64 0, .slice none 0 0]) ∧ i.size = 2 ∧ i.bytes = 32 := info3 (by kernel_rfl)
/-- One message more, for the walk. -/
theorem wpAppRM {w : World} {ops : Array Oper} {rest : List Oper} {o : Oper} {a : Act} {Q : Exit → Act → World → Prop} (hgd : o.guard = none) (s x : Operand)
    (ho : o.op = .call { callee := .builtin .append, args := #[s, x], argTypes := #[26, 26] })
    (v : Value) (l : List RM) (hs : a.eval s = v) (hown : RME.Row w v l) (y : RM) (q : Nat) (hq : w.heap.size = q) (hx : a.eval x = .slice (some ⟨q, 0, none⟩) 1 1) (hb : l.length ≤ 6000000000000)
    (hK : ∀ l' a' c' w', Hid (l' = l ++ [y]) → RME.Row w' (.slice a' l'.length c') l' → Kp (own v) w w' → (∀ k ∈ blk a', k ∈ own v ∨ w.heap.size ≤ k) → wpList Try.prog ops Q rest (a.put o.dst (.slice a' l'.length c')) w') :
    wpList Try.prog ops Q (o :: rest) a (w.alloc (.cells #[.int .i64 y.to, .slice y.a y.bs.length y.c] 46)) := by
  obtain ⟨i0, hi, hz0, hz1, hz2⟩ := infoR
  subst hq
  have kk : Kp [] w (w.alloc (.cells #[.int .i64 y.to, .slice y.a y.bs.length y.c] 46)) := (Kp.refl _ _).alloc _
  have hs1 : Src Try.prog 2 26 (.slice (some ⟨w.heap.size, 0, none⟩) 1 1) 1 (RME.cs [y]) (w.alloc (.cells #[.int .i64 y.to, .slice y.a y.bs.length y.c] 46)) := by
    refine Src.ofSlice _ Try.underlying26 ⟨w.heap.size, 0, none⟩ 1 1 _ rfl ?_ (El.cs_one RME [y])
    intro j u hu
    rw [Addr.add_lit, Nat.zero_add]
    match j, hu with
    | 0, hu => cases hu; exact World.cell?_alloc_new w _ _ 0
    | 1, hu => cases hu; exact World.cell?_alloc_new w _ _ 1
    | j + 2, hu => simp [El.cs, RME] at hu
  refine wpAppG (E := RME) hgd s x _ _ _ ho i0 _ 32 Try.underlying26 hi hz0 hz1 hz2 rfl v l hs (hown.keptNew kk) _ [y] hx hs1 (by simp only [List.length_cons, List.length_nil]; omega) (by simp only [List.length_cons, List.length_nil]; omega) ?_
  intro l' a' c' w' hl hr hk hn
  refine hK l' a' c' w' hl hr ((kk.mono (T := own v) (by simp)).trans hk (fun _ h => .inl h)) (fun k hk' => ?_)
  rcases hn k hk' with h1 | h1
  · exact .inl h1
  · exact .inr (by have := kk.size; omega)
/-- All messages of a slice, onto nothing, for the walk. -/
theorem wpAppRMs {w : World} {ops : Array Oper} {rest : List Oper} {o : Oper} {a : Act} {Q : Exit → Act → World → Prop} (hgd : o.guard = none) (s x : Operand)
    (ho : o.op = .call { callee := .builtin .append, args := #[s, x], argTypes := #[26, 26] })
    (hs : a.eval s = .slice none 0 0) (la : Option Addr) (lc : Nat) (l : List RM) (hx : a.eval x = .slice la l.length lc) (hsee : RME.See w la l) (hb : l.length ≤ 6000000000000)
    (hK : ∀ l' a' c' w', Hid (l' = l) → RME.Row w' (.slice a' l'.length c') l' → Kp [] w w' → (∀ k ∈ blk a', w.heap.size ≤ k) → l'.length ≤ 6000000000000 → wpList Try.prog ops Q rest (a.put o.dst (.slice a' l'.length c')) w') :
    wpList Try.prog ops Q (o :: rest) a w := by
  obtain ⟨i0, hi, hz0, hz1, hz2⟩ := infoR
  refine wpAppG (E := RME) hgd s x 26 26 46 ho i0 _ 32 Try.underlying26 hi hz0 hz1 hz2 rfl _ [] hs (.inl ⟨rfl, rfl⟩) _ l hx (hsee.src Try.underlying26 lc) (by simp only [List.length_nil]; omega) (by simp only [List.length_nil]; omega) ?_
  intro l' a' c' w' hl hr hk hn
  have e : l' = l := by rw [hl.out]; rfl
  refine hK l' a' c' w' e hr (hk.mono (by simp [own, Value.ownBlock])) (fun k hk' => ?_) (by rw [e]; omega)
  rcases hn k hk' with h1 | h1
  · simp [own, Value.ownBlock] at h1
  · exact h1
theorem sendFacts {w w1 x1 x2 : World} {A B C D : Value} {a1 : Option Addr} {n1 c1 : Nat} (bx : B2 w1 w.heap.size A B) (br : B2 w1 (w.heap.size + 1) C D) (kA1 : Kp [] w1 x1) (hnw1 : ∀ k ∈ blk a1, w1.heap.size ≤ k) (hsz : w.heap.size + 2 ≤ w1.heap.size) (kA2 : Kp (own (.slice a1 n1 c1)) x1 x2) : B2 x2 w.heap.size A B ∧ B2 x2 (w.heap.size + 1) C D := by
  rw [own_slice] at kA2
  exact ⟨(bx.kept kA1).keptS kA2 (fun h => by have := hnw1 _ h; omega), (br.kept kA1).keptS kA2 (fun h => by have := hnw1 _ h; omega)⟩
def RefNE (T : List Nat) (x : Nt × Int) (w : World) (e : Ending) (w' : World) : Prop := ∃ v, e = .returned (.tuple #[v, .int .i64 x.2]) ∧ RefN T x.1 w v w'
/-- The boxes of a call of the reference's: its net, its answer. -/
theorem boxNN (r : RN) (w : World) : ∃ w1, (w.alloc (.cells #[.int .i64 r.room, .slice r.la r.l.length r.lc] 28)).alloc (.cells #[.int .i64 0, .slice none 0 0] 28) = w1 ∧ Kp [] w w1 ∧ B2 w1 w.heap.size (.int .i64 r.room) (.slice r.la r.l.length r.lc) ∧ B2 w1 (w.heap.size + 1) (.int .i64 0) (.slice none 0 0) ∧ w.heap.size + 2 ≤ w1.heap.size :=
  ⟨_, rfl, ((Kp.refl _ _).alloc _).alloc _, (B2.at _ rfl _ _ _).kept ((Kp.refl _ _).alloc _), B2.at _ (by simp) _ _ _, by simp⟩
set_option maxHeartbeats 4000000 in
set_option maxRecDepth 100000 in
theorem cRSend (r : RN) (n : Nt) (w : World) (hr : RnOk w r) (hL : LikeN r n) (hlen : r.l.length ≤ 6000000000000) (to : Int) (a : Option Addr) (c : Nat) (bs : List UInt8) (hb : Sees w a bs) :
    Calls Try.prog 21 #[r.v, .int .i64 to, .slice a bs.length c] w (RefNE (r.foot ++ RM.ft ⟨to, a, c, bs⟩) (putN n ⟨to, bs⟩) w) := by
  obtain ⟨w1, hw1, k1, bx, br, hsz⟩ := boxNN r w
  have hfull : ((n.l.length : Int) ≥ n.room) ↔ ((r.l.length : Int) ≥ r.room) := by rw [hL.room, hL.len]; omega
  have hrl := hr.lt
  have hr1 := hr.keptNew k1
  have hrk := hid hr
  have hLk := hid hL
  clear hr hL
  obtain ⟨room, la, lc, l⟩ := r
  simp only [RN.v] at *
  have b0 := bx.c0; have b1 := bx.c1
  obtain ⟨r0, r1, rf⟩ := br
  have br : B2 w1 (w.heap.size + 1) (.int .i64 0) (.slice none 0 0) := ⟨r0, r1, rf⟩
  have g0 := rf 0; have g1 := rf 1
  by_cases hf : (l.length : Int) ≥ room
  · have ef : putN n ⟨to, bs⟩ = (n, 50) := by unfold putN; rw [if_pos (hfull.2 hf)]
    rw [ef]
    clear ef hfull
    go_enter Try.func21, Try.ntmps21
    go_wp2_with fail
    obtain ⟨W', hW', hb2, kW'⟩ := set2_ex br (.int .i64 room) (.slice la l.length lc)
    rw [hW']
    obtain ⟨z0, z1, _⟩ := hb2
    refine bodyPost_ret (v := .tuple #[.agg #[.int .i64 room, .slice la l.length lc], .int .i64 50]) (by simp [results, Try.results21, go_sem, z0, z1]) rfl ?_
    have kf : Kp [] w W' := k1.trans kW' (fun x hx => .inr (by simp at hx; omega))
    exact ⟨_, rfl, ⟨room, la, lc, l⟩, rfl, hrk.out.keptNew kf, hLk.out, kf, fun k hk => .inl (by simp [hk])⟩
  · have ef : putN n ⟨to, bs⟩ = ({ n with l := n.l ++ [⟨to, bs⟩] }, 0) := by unfold putN; rw [if_neg (fun h => hf (hfull.1 h))]
    rw [ef]
    have hll := hid hLk.out.len
    clear ef hfull
    have hse := hr1.see
    simp only at hse
    go_enter Try.func21, Try.ntmps21
    go_wp2_with (first
      | (refine wpAppRM rfl _ _ rfl (.slice a1 l1.length c1) l1 rfl hrow1 ⟨to, a, c, bs⟩ _ rfl rfl hl1 ?_; intro l2 a2 c2 x2 hl2 hrow2 kA2 hn2; obtain ⟨⟨q0, q1, qf⟩, ⟨s0, s1, sf⟩⟩ := sendFacts bx br kA1 hnw1 hsz kA2; have qf1 := qf 1; have sf0 := sf 0; have sf1 := sf 1)
      | (refine wpAppRMs rfl _ _ rfl rfl la lc l rfl hse hlen ?_; intro l1 a1 c1 x1 hl1e hrow1 kA1 hnw1 hl1)
      | fail)
    obtain ⟨y1, hy1⟩ : ∃ y1, x2.setCell ⟨w.heap.size, 1, none⟩ (.slice a2 l2.length c2) = y1 := ⟨_, rfl⟩
    have ky1 : Kp [w.heap.size] x2 y1 := by rw [← hy1]; exact kpSet _ _ _ _
    have bry : B2 y1 (w.heap.size + 1) (.int .i64 0) (.slice none 0 0) := B2.keptS ⟨s0, s1, sf⟩ ky1 (by simp)
    rw [hy1]
    obtain ⟨W', hW', hb2, kW'⟩ := set2_ex bry (.int .i64 room) (.slice a2 l2.length c2)
    rw [hW']
    obtain ⟨z0, z1, _⟩ := hb2
    refine bodyPost_ret (v := .tuple #[.agg #[.int .i64 room, .slice a2 l2.length c2], .int .i64 0]) (by simp [results, Try.results21, go_sem, z0, z1]) rfl ?_
    have hz1 := k1.size
    have hz2 := kA1.size
    have kx2 : Kp [] w x2 := (k1.trans kA1 (by simp)).trans kA2 (fun k hk => .inr (by rw [own_slice] at hk; have := hnw1 k hk; omega))
    have kxW : Kp [w.heap.size, w.heap.size + 1] x2 W' := (ky1.mono (T := [w.heap.size, w.heap.size + 1]) (fun x hx => .inl (by simp at hx; simp [hx]))).trans kW' (fun x hx => .inl (by simp at hx; simp [hx]))
    have kf : Kp [] w W' := kx2.trans kxW (fun x hx => .inr (by simp at hx; omega))
    have ha2 : ∀ k ∈ blk a2, w1.heap.size ≤ k := fun k hk => by
      rcases hn2 k hk with h | h
      · rw [own_slice] at h; exact hnw1 k h
      · omega
    have el : l2 = l ++ [⟨to, a, c, bs⟩] := by rw [hl2.out, hl1e.out]
    obtain ⟨_, _, ev, hse2, _⟩ := hrow2.see
    cases ev
    refine ⟨_, rfl, ⟨room, a2, c2, l2⟩, rfl, ⟨hse2.kept kxW (fun _ k hk h => by have := ha2 k hk; simp at h; omega), fun x hx => ?_⟩, ⟨hLk.out.room, ?_⟩, kf, fun k hk => ?_⟩
    · simp only at hx
      rw [el] at hx
      rcases List.mem_append.1 hx with h | h
      · exact (hrk.out.raw x h).kept kf (by simp)
      · simp at h; subst h; exact hb.kept kf (by simp)
    · simp only
      rw [el, List.map_append]
      have := hLk.out.l
      simp only at this
      rw [this]
      rfl
    · simp only [RN.foot, List.mem_append, List.mem_flatMap] at hk ⊢
      rcases hk with hk | ⟨x, hx, hk⟩
      · exact .inr (by have := ha2 k (mem_rff hk); omega)
      · rw [el] at hx
        rcases List.mem_append.1 hx with h | h
        · exact .inl (.inl (.inr ⟨x, h, hk⟩))
        · simp at h; subst h; exact .inl (.inr hk)
end Go.Proofs.Ytllhmbemcmigoaa
end

section
namespace Go.Proofs.Ytllhmbemcmigoaa
open Go.RowKit Go.Hay
set_option linter.unusedVariables false
set_option linter.unusedSimpArgs false

theorem out_ne {α : Type} {l : List α} {i j : Nat} {x : α} (hx : l[j]? = some x) (h : j ≠ i) : (l.take (j + 1)).eraseIdx i = (l.take j).eraseIdx i ++ [x] := by
  have hj := (List.getElem?_eq_some_iff.1 hx).1
  have he := (List.getElem?_eq_some_iff.1 hx).2
  rw [List.take_succ_eq_append_getElem hj, he]
  have hl : (l.take j).length = j := by simp; omega
  by_cases hji : i < j
  · rw [List.eraseIdx_append_of_lt_length (by omega)]
  · rw [List.eraseIdx_of_length_le (by simp; omega), List.eraseIdx_of_length_le (by omega)]
theorem out_eq {α : Type} {l : List α} {i : Nat} {x : α} (hx : l[i]? = some x) : (l.take (i + 1)).eraseIdx i = (l.take i).eraseIdx i := by
  have hj := (List.getElem?_eq_some_iff.1 hx).1
  have he := (List.getElem?_eq_some_iff.1 hx).2
  rw [List.take_succ_eq_append_getElem hj, he]
  have hl : (l.take i).length = i := by simp; omega
  have e2 : (l.take i).eraseIdx i = l.take i := List.eraseIdx_of_length_le (by omega)
  rw [List.eraseIdx_append_of_length_le (by omega), e2, hl]
  simp
theorem map_erase {α β : Type} (f : α → β) : ∀ (l : List α) (i : Nat), (l.eraseIdx i).map f = (l.map f).eraseIdx i
  | [], i => by simp
  | x :: l, 0 => by simp
  | x :: l, i + 1 => by simp [map_erase f l i]
theorem rmAt {w : World} {a : Option Addr} {l : List RM} (h : RME.See w a l) {k : Nat} {x : RM} (hx : l[k]? = some x) : ∃ g o, a = some ⟨g, o, none⟩ ∧ w.cell? ⟨g, o + k * 2, none⟩ = some (.int .i64 x.to) ∧ w.cell? ⟨g, o + k * 2 + 1, none⟩ = some (.slice x.a x.bs.length x.c) := by
  obtain ⟨g, o, rfl, hc⟩ := h.at hx
  exact ⟨g, o, rfl, hc 0 _ rfl, hc 1 _ rfl⟩
set_option maxHeartbeats 4000000 in
set_option maxRecDepth 100000 in
theorem cROut (r : RN) (n : Nt) (w : World) (hr : RnOk w r) (hL : LikeN r n) (hlen : r.l.length ≤ 6000000000000) (i : Nat) (hi : i < r.l.length) :
    Calls Try.prog 25 #[r.v, .int .i64 (i : Int)] w (fun e w' => ∃ v, e = .returned v ∧ RefN r.foot (dropN n (i : Int)) w v w') := by
  obtain ⟨w1, hw1, k1, bx, br, hsz⟩ := boxNN r w
  have hr1 := hr.keptNew k1
  have hrk := hid hr
  have hLk := hid hL
  clear hr hL
  obtain ⟨room, la, lc, l⟩ := r
  simp only [RN.v] at *
  go_enter Try.func25, Try.ntmps25
  go_wp2_with fail
  go_loopw [5, 6] (fun v k wn => ∃ (j : Nat) (l' : List RM) (a : Option Addr) (c : Nat), j ≤ l.length ∧ k = .int .i64 j ∧ v = .slice a l'.length c ∧ RME.Row wn (.slice a l'.length c) l' ∧ Hid (l' = (l.take j).eraseIdx i) ∧ Kp [] w1 wn ∧ (∀ k ∈ blk a, w1.heap.size ≤ k) ∧ l'.length ≤ j) (fun _ k _ => l.length - (intOf k).toNat)
  case atStart => exact ⟨0, [], none, 0, Nat.zero_le _, rfl, rfl, .inl ⟨rfl, rfl⟩, by show _ = _; simp, Kp.refl _ _, by simp [blk], Nat.le_refl _⟩
  case round =>
    obtain ⟨j, l', av, cv, hj, rfl, rfl, hrow, hl', hk, hnw, hlj⟩ := hrel
    have b1 := (bx.kept hk).c1
    by_cases hjl : j < l.length
    · obtain ⟨x, hx⟩ : ∃ x, l[j]? = some x := ⟨l[j], by simp [hjl]⟩
      obtain ⟨g, o, rfl, c0, c1⟩ := rmAt (hr1.see.keptNew hk) hx
      by_cases hji : j = i
      · have hn' : Hid (l' = (l.take (j + 1)).eraseIdx i) := by show _ = _; rw [hl'.out]; subst hji; exact (out_eq hx).symm
        have e1 : ((j : Int) == (i : Int)) = true := by simp; omega
        clear hl' hx hji
        go_wp2_with fail
        exact ⟨⟨j + 1, l', av, cv, by omega, by go_num, rfl, hrow, hn', hk, hnw, by omega⟩, by simp [intOf]; omega⟩
      · have hn' : Hid (l' ++ [x] = (l.take (j + 1)).eraseIdx i) := by show _ = _; rw [hl'.out, out_ne hx hji]
        have e1 : ((j : Int) == (i : Int)) = false := by simp; omega
        clear hl' hx hji
        go_wp2_with (first | (refine wpAppRM rfl _ _ rfl (.slice av l'.length cv) l' rfl hrow x _ rfl rfl (by omega) ?_; intro l2 a2 c2 x2 hl2 hrow2 kA2 hn2) | fail)
        have kx2 : Kp [] w1 x2 := hk.trans kA2 (fun k hk => .inr (by rw [own_slice] at hk; exact hnw k hk))
        have hz := hk.size
        refine ⟨⟨j + 1, l2, a2, c2, by omega, by go_num, rfl, hrow2, by show _ = _; rw [hl2.out]; exact hn'.out, kx2, fun k hk => ?_, by rw [hl2.out]; simp; omega⟩, by simp [intOf]; omega⟩
        rcases hn2 k hk with h | h
        · rw [own_slice] at h; exact hnw k h
        · omega
    · have e : j = l.length := by omega
      subst e
      have hn' : Hid (l' = l.eraseIdx i) := by show _ = _; rw [hl'.out, List.take_length]
      have bb := bx.kept hk
      have rr := br.kept hk
      have q0 := bb.c0
      have qf1 := bb.free 1
      obtain ⟨s0, s1, sf⟩ := rr
      have sf0 := sf 0
      have sf1 := sf 1
      clear hl' hlj
      go_wp2_with fail
      obtain ⟨y1, hy1⟩ : ∃ y1, wr.setCell ⟨w.heap.size, 1, none⟩ (.slice av l'.length cv) = y1 := ⟨_, rfl⟩
      have ky1 : Kp [w.heap.size] wr y1 := by rw [← hy1]; exact kpSet _ _ _ _
      have bry : B2 y1 (w.heap.size + 1) (.int .i64 0) (.slice none 0 0) := B2.keptS ⟨s0, s1, sf⟩ ky1 (by simp)
      rw [hy1]
      obtain ⟨W', hW', hb2, kW'⟩ := set2_ex bry (.int .i64 room) (.slice av l'.length cv)
      rw [hW']
      obtain ⟨z0, z1, _⟩ := hb2
      refine bodyPost_ret (v := .agg #[.int .i64 room, .slice av l'.length cv]) (by simp [results, Try.results25, go_sem, z0, z1]) rfl ?_
      have hz1 := k1.size
      have kxW : Kp [w.heap.size, w.heap.size + 1] wr W' := (ky1.mono (T := [w.heap.size, w.heap.size + 1]) (fun x hx => .inl (by simp at hx; simp [hx]))).trans kW' (fun x hx => .inl (by simp at hx; simp [hx]))
      have kf : Kp [] w W' := (k1.trans hk (by simp)).trans kxW (fun x hx => .inr (by simp at hx; omega))
      obtain ⟨_, _, ev, hse2, _⟩ := hrow.see
      cases ev
      have hmem : ∀ x ∈ l', x ∈ l := fun x hx => by rw [hn'.out] at hx; exact List.mem_of_mem_eraseIdx hx
      refine ⟨_, rfl, ⟨room, av, cv, l'⟩, rfl, ⟨hse2.kept kxW (fun _ k hk h => by have := hnw k hk; simp at h; omega), fun x hx => (hrk.out.raw x (hmem x hx)).kept kf (by simp)⟩, ⟨?_, ?_⟩, kf, fun k hk => ?_⟩
      · have := hLk.out.room
        simp only [dropN_nat] at this ⊢
        exact this
      · simp only [dropN_nat]
        have := hLk.out.l
        simp only at this
        rw [hn'.out, ← this, map_erase]
      · simp only [RN.foot, List.mem_append, List.mem_flatMap] at hk ⊢
        rcases hk with hk | ⟨x, hx, hk⟩
        · exact .inr (by have := hnw k (mem_rff hk); omega)
        · exact .inl (.inr ⟨x, hmem x hx, hk⟩)
end Go.Proofs.Ytllhmbemcmigoaa
end

section
namespace Go.Proofs.Ytllhmbemcmigoaa
open Go.RowKit Go.Hay
set_option linter.unusedVariables false
set_option linter.unusedSimpArgs false

theorem RefN.mono {T T' : List Nat} {n : Nt} {w w' : World} {v : Value} (h : RefN T n w v w') (hT : ∀ k ∈ T, k ∈ T') : RefN T' n w v w' := by
  obtain ⟨r, h1, h2, h3, h4, h5⟩ := h
  exact ⟨r, h1, h2, h3, h4, fun k hk => (h5 k hk).imp (hT k) id⟩
theorem LikeN.at {r : RN} {n : Nt} (h : LikeN r n) {k : Nat} {m : Msg} (hm : n.l[k]? = some m) : ∃ x, r.l[k]? = some x ∧ x.m = m := by
  rw [← h.l, List.getElem?_map] at hm
  cases hx : r.l[k]? with
  | none => rw [hx] at hm; cases hm
  | some x => rw [hx] at hm; cases hm; exact ⟨x, rfl, rfl⟩
theorem kpSet2 (q : Nat) (W : World) (a b : Value) : Kp [q] W ((W.setCell ⟨q, 0, none⟩ a).setCell ⟨q, 1, none⟩ b) := (kpSet q 0 W a).trans (kpSet q 1 _ b) (fun x hx => .inl hx)
set_option maxHeartbeats 8000000 in
set_option maxRecDepth 100000 in
theorem cRDouble (r : RN) (n : Nt) (w : World) (hr : RnOk w r) (hL : LikeN r n) (hlen : r.l.length ≤ 6000000000000) (i : Int) :
    Calls Try.prog 26 #[r.v, .int .i64 i] w (RefNE r.foot (dblN n i) w) := by
  obtain ⟨w1, hw1, k1, bx, br, hsz⟩ := boxNN r w
  have aT := cThere r i w1
  have hrl := hr.lt
  have hrk := hid hr
  have hLk := hid hL
  cases ho : atN n i with
  | none =>
    have e1 : dblN n i = (n, 51) := by unfold dblN; rw [ho]
    have e2 : (decide (0 ≤ i) && decide (i < r.l.length)) = false := by
      rcases atN_none ho with h | h
      · simp; omega
      · have := hL.len; simp; omega
    rw [e1]
    rw [e2] at aT
    clear hr hL ho e1 e2
    obtain ⟨room, la, lc, l⟩ := r
    simp only [RN.v] at *
    have b0 := bx.c0; have b1 := bx.c1
    go_enter Try.func26, Try.ntmps26
    go_wp2_with fail
    refine aT.mono ?_
    rintro e w2 ⟨rfl, k2⟩
    have bx2 := bx.kept k2
    have br2 := br.kept k2
    have hb4 := br2
    obtain ⟨s0, s1, sf⟩ := br2
    have sf0 := sf 0; have sf1 := sf 1
    have c0 := bx2.c0; have c1 := bx2.c1
    clear b0 b1
    go_wp2_with fail
    obtain ⟨W', hW', hb2, kW'⟩ := set2_ex hb4 (.int .i64 room) (.slice la l.length lc)
    rw [hW']
    obtain ⟨z0, z1, _⟩ := hb2
    refine bodyPost_ret (v := .tuple #[.agg #[.int .i64 room, .slice la l.length lc], .int .i64 51]) (by simp [results, Try.results26, go_sem, z0, z1]) rfl ?_
    have kf : Kp [] w W' := (k1.trans k2 (by simp)).trans kW' (fun x hx => .inr (by simp at hx; omega))
    exact ⟨_, rfl, ⟨room, la, lc, l⟩, rfl, hrk.out.keptNew kf, hLk.out, kf, fun k hk => .inl hk⟩
  | some m =>
    obtain ⟨k, rfl, hm, hkl⟩ := atN_some ho
    obtain ⟨x, hx, rfl⟩ := hL.at hm
    have e1 : dblN n (k : Int) = putN n x.m := by unfold dblN; rw [ho]
    have hkr : k < r.l.length := (List.getElem?_eq_some_iff.1 hx).1
    have e2 : (decide ((0 : Int) ≤ (k : Int)) && decide ((k : Int) < (r.l.length : Int))) = true := by simp; omega
    rw [e1]
    rw [e2] at aT
    have hxm := List.mem_of_getElem? hx
    have hft : ∀ j ∈ r.foot ++ RM.ft ⟨x.to, x.a, x.c, x.bs⟩, j ∈ r.foot := fun j hj => by
      rcases List.mem_append.1 hj with h | h
      · exact h
      · simp only [RN.foot, List.mem_append, List.mem_flatMap]; exact .inr ⟨x, hxm, h⟩
    have cS : Hid (∀ A, Kp [] w A → Calls Try.prog 21 #[r.v, .int .i64 x.to, .slice x.a x.bs.length x.c] A (fun e w' => ∃ v, e = .returned (.tuple #[v, .int .i64 (putN n x.m).2]) ∧ RefN r.foot (putN n x.m).1 A v w')) := fun A kA => (cRSend r n A (hr.keptNew kA) hL hlen x.to x.a x.c x.bs ((hr.raw x hxm).kept kA (by simp))).mono fun e w' ⟨v, he, h⟩ => ⟨v, he, h.mono hft⟩
    have hxh := hid hx
    obtain ⟨nn, hnn⟩ : ∃ nn, nn = putN n x.m := ⟨_, rfl⟩
    rw [← hnn] at cS ⊢
    obtain ⟨Tf, hTf⟩ : ∃ Tf, Tf = r.foot := ⟨_, rfl⟩
    rw [← hTf] at cS ⊢
    have hTf' := hid hTf
    clear hr hL ho e1 e2 hm hkl hft hx hnn hTf
    obtain ⟨room, la, lc, l⟩ := r
    simp only [RN.v] at *
    have b0 := bx.c0; have b1 := bx.c1
    go_enter Try.func26, Try.ntmps26
    go_wp2_with fail
    refine aT.mono ?_
    rintro e w2 ⟨rfl, k2⟩
    have kw2 : Kp [] w w2.drew := (k1.trans k2 (by simp)).drew
    obtain ⟨g, o, ea, c0, c1⟩ := rmAt (hrk.out.see.keptNew kw2) hxh.out
    simp only at ea
    subst ea
    have bx2 := (bx.kept k2).kept (w' := w2.drew) (Kp.refl _ _).drew
    have br2 := (br.kept k2).kept (w' := w2.drew) (Kp.refl _ _).drew
    have hgw : g < w.heap.size := by
      obtain ⟨g', o', ea', d0, _⟩ := rmAt hrk.out.see hxh.out
      simp only at ea'
      cases ea'
      exact World.block_lt_of_cell? _ _ d0
    have hwd2 := br2.lt
    have hS : Hid (∀ A, Kp [w.heap.size + 1] w2.drew A → (A.cell? ⟨w.heap.size, 0, none⟩ = some (.int .i64 room) ∧ A.cell? ⟨w.heap.size, 1, none⟩ = some (.slice (some ⟨g, o, none⟩) l.length lc) ∧ A.cell? ⟨g, o + k * 2, none⟩ = some (.int .i64 x.to) ∧ A.cell? ⟨g, o + k * 2 + 1, none⟩ = some (.slice x.a x.bs.length x.c))) := fun A kA => by
      have b := bx2.keptS kA (by simp)
      exact ⟨b.c0, b.c1, (kA.cell (p := ⟨g, _, none⟩) (World.block_lt_of_cell? _ _ c0) (by simp; omega)).trans c0, (kA.cell (p := ⟨g, _, none⟩) (World.block_lt_of_cell? _ _ c1) (by simp; omega)).trans c1⟩
    have aS := cS.out _ kw2
    have hk0 : (0 : Int) ≤ (k : Int) := by omega
    have hk1 : (k : Int) < (l.length : Int) := by omega
    clear b0 b1 c0 c1 aT
    go_wp2_with fail
    refine wp_region_held_drew (S := (fun A => A.cell? ⟨w.heap.size, 0, none⟩ = some (.int .i64 room) ∧ A.cell? ⟨w.heap.size, 1, none⟩ = some (.slice (some ⟨g, o, none⟩) l.length lc) ∧ A.cell? ⟨g, o + k * 2, none⟩ = some (.int .i64 x.to) ∧ A.cell? ⟨g, o + k * 2 + 1, none⟩ = some (.slice x.a x.bs.length x.c))) (by kernel_rfl) ?_ (fun hHeld => ?_)
    · exact hS.out _ (Kp.refl _ _)
    generalize w2.drew = wd at *
    refine wpAnyH_take (i := 0) (v := ?_) rfl (by kernel_rfl) (by kernel_rfl) (by kernel_rfl) (fun _ _ _ h => h) (Or.inl ⟨by rfl, ?_⟩) (by assumption) ?_
    rotate_left
    · intro w hSw; (try dsimp only at hSw); go_simp <;> with_reducible rfl
    try simp only [Act.put, List.getElem_toArray, List.getElem_cons_zero, List.getElem_cons_succ, List.setIfInBounds_toArray, List.set_cons_zero, List.set_cons_succ]
    refine wpAnyH_take (i := 1) (v := ?_) rfl (by kernel_rfl) (by kernel_rfl) (by kernel_rfl) (fun _ _ _ h => h) (Or.inl ⟨by rfl, ?_⟩) (by assumption) ?_
    rotate_left
    · intro w hSw; (try dsimp only at hSw); go_simp <;> with_reducible rfl
    try simp only [Act.put, List.getElem_toArray, List.getElem_cons_zero, List.getElem_cons_succ, List.setIfInBounds_toArray, List.set_cons_zero, List.set_cons_succ]
    refine wpAnyH_take (i := 2) (v := ?_) rfl (by kernel_rfl) (by kernel_rfl) (by kernel_rfl) (fun _ _ _ h => h) (Or.inl ⟨by rfl, ?_⟩) (by assumption) ?_
    rotate_left
    · intro w hSw; (try dsimp only at hSw); go_simp <;> with_reducible rfl
    try simp only [Act.put, List.getElem_toArray, List.getElem_cons_zero, List.getElem_cons_succ, List.setIfInBounds_toArray, List.set_cons_zero, List.set_cons_succ]
    refine wpAnyH_take (i := 3) (v := ?_) rfl (by kernel_rfl) (by kernel_rfl) (by kernel_rfl) (fun _ _ _ h => h) (Or.inl ⟨by rfl, ?_⟩) (by assumption) ?_
    rotate_left
    · intro w hSw; (try dsimp only at hSw); go_simp <;> with_reducible rfl
    try simp only [Act.put, List.getElem_toArray, List.getElem_cons_zero, List.getElem_cons_succ, List.setIfInBounds_toArray, List.set_cons_zero, List.set_cons_succ]
    refine wpAnyH_take (i := 4) (v := ?_) rfl (by kernel_rfl) (by kernel_rfl) (by kernel_rfl) (fun _ _ _ h => h) (Or.inl ⟨by rfl, ?_⟩) (by assumption) ?_
    rotate_left
    · intro w hSw; (try dsimp only at hSw); go_simp <;> with_reducible rfl
    try simp only [Act.put, List.getElem_toArray, List.getElem_cons_zero, List.getElem_cons_succ, List.setIfInBounds_toArray, List.set_cons_zero, List.set_cons_succ]
    refine wpAnyH_take (i := 5) (v := ?_) rfl (by kernel_rfl) (by kernel_rfl) (by kernel_rfl) (fun _ _ _ h => h) (Or.inl ⟨by rfl, ?_⟩) (by assumption) ?_
    rotate_left
    · intro w hSw; (try dsimp only at hSw); go_simp <;> with_reducible rfl
    try simp only [Act.put, List.getElem_toArray, List.getElem_cons_zero, List.getElem_cons_succ, List.setIfInBounds_toArray, List.set_cons_zero, List.set_cons_succ]
    refine wpAnyH_take (i := 6) (v := ?_) rfl (by kernel_rfl) (by kernel_rfl) (by kernel_rfl) (fun _ _ _ h => h) (Or.inl ⟨by rfl, ?_⟩) (by assumption) ?_
    rotate_left
    · intro w hSw; (try dsimp only at hSw); go_simp <;> with_reducible rfl
    try simp only [Act.put, List.getElem_toArray, List.getElem_cons_zero, List.getElem_cons_succ, List.setIfInBounds_toArray, List.set_cons_zero, List.set_cons_succ]
    refine wpAnyH_take (i := 7) (v := ?_) rfl (by kernel_rfl) (by kernel_rfl) (by kernel_rfl) (fun _ _ _ h => h) (Or.inl ⟨by rfl, ?_⟩) (by assumption) ?_
    rotate_left
    · intro w hSw; (try dsimp only at hSw); go_simp <;> with_reducible rfl
    try simp only [Act.put, List.getElem_toArray, List.getElem_cons_zero, List.getElem_cons_succ, List.setIfInBounds_toArray, List.set_cons_zero, List.set_cons_succ]
    refine wpAnyH_take (i := 8) (v := ?_) rfl (by kernel_rfl) (by kernel_rfl) (by kernel_rfl) (fun _ _ _ h => h) (Or.inl ⟨by rfl, ?_⟩) (by assumption) ?_
    rotate_left
    · intro w hSw; (try dsimp only at hSw); go_simp <;> with_reducible rfl
    try simp only [Act.put, List.getElem_toArray, List.getElem_cons_zero, List.getElem_cons_succ, List.setIfInBounds_toArray, List.set_cons_zero, List.set_cons_succ]
    refine wpAnyH_take (i := 9) (v := ?_) rfl (by kernel_rfl) (by kernel_rfl) (by kernel_rfl) (fun _ _ _ h => h) (Or.inl ⟨by rfl, ?_⟩) (by assumption) ?_
    rotate_left
    · intro w hSw; (try dsimp only at hSw); go_simp <;> with_reducible rfl
    try simp only [Act.put, List.getElem_toArray, List.getElem_cons_zero, List.getElem_cons_succ, List.setIfInBounds_toArray, List.set_cons_zero, List.set_cons_succ]
    refine wpAnyH_take (i := 10) (v := ?_) rfl (by kernel_rfl) (by kernel_rfl) (by kernel_rfl) (fun _ _ _ h => h) (Or.inl ⟨by rfl, ?_⟩) (by assumption) ?_
    rotate_left
    · intro w hSw; (try dsimp only at hSw); go_simp <;> with_reducible rfl
    try simp only [Act.put, List.getElem_toArray, List.getElem_cons_zero, List.getElem_cons_succ, List.setIfInBounds_toArray, List.set_cons_zero, List.set_cons_succ]
    refine wpAnyH_take (i := 11) (v := ?_) rfl (by kernel_rfl) (by kernel_rfl) (by kernel_rfl) (fun _ _ _ h => h) (Or.inl ⟨by rfl, ?_⟩) (by assumption) ?_
    rotate_left
    · intro w hSw; (try dsimp only at hSw); go_simp <;> with_reducible rfl
    try simp only [Act.put, List.getElem_toArray, List.getElem_cons_zero, List.getElem_cons_succ, List.setIfInBounds_toArray, List.set_cons_zero, List.set_cons_succ]
    refine wpAnyH_take (i := 12) (v := ?_) rfl (by kernel_rfl) (by kernel_rfl) (by kernel_rfl) (fun _ _ _ h => h) (Or.inl ⟨by rfl, ?_⟩) (by assumption) ?_
    rotate_left
    · intro w hSw; (try dsimp only at hSw); go_simp <;> with_reducible rfl
    try simp only [Act.put, List.getElem_toArray, List.getElem_cons_zero, List.getElem_cons_succ, List.setIfInBounds_toArray, List.set_cons_zero, List.set_cons_succ]
    refine wpAnyH_ready (rs := [13]) (by kernel_rfl) (by simp) ?_
    refine AllReadyH.cons rfl (fun K hK => ?_) AllReadyH.nil
    go_simp
    refine aS.mono ?_
    rintro e x3 ⟨v, rfl, r', rfl, hR3, hL3, kx3, hf3⟩
    have hfin : ∀ W', Kp [w.heap.size + 1] x3 W' → RefNE Tf nn w (.returned (.tuple #[r'.v, .int .i64 nn.2])) W' := fun W' kW => ⟨_, rfl, r', rfl, hR3.kept kW (fun k hk h => by
      simp at h
      rcases hf3 k hk with h1 | h1
      · rw [hTf'.out] at h1; have := hrl k h1; omega
      · have := kw2.size; omega), hL3, (kw2.trans kx3 (by simp)).trans kW (fun x hx => .inr (by simp at hx; omega)), fun k hk => (hf3 k hk).imp id (fun h => by have := kw2.size; omega)⟩
    have br3 := br2.kept kx3
    have hb4 := br3
    obtain ⟨s0, s1, sf⟩ := br3
    have sf0 := sf 0; have sf1 := sf 1
    obtain ⟨roomx, lax, lcx, lx⟩ := r'
    simp only [RN.v] at *
    (try go_wp2_with fail)
    refine hK.out _ _ ?_ (fun hHeld => ?_)
    · exact hS.out _ (kx3.mono (by simp))
    clear hK K
    try simp only [Act.put, List.getElem_toArray, List.getElem_cons_zero, List.getElem_cons_succ, List.setIfInBounds_toArray, List.set_cons_zero, List.set_cons_succ]
    refine wpAnyH_take (i := 14) (v := ?_) rfl (by kernel_rfl) (by kernel_rfl) (by kernel_rfl) (fun _ _ _ h => h) (Or.inl ⟨by rfl, ?_⟩) (by assumption) ?_
    rotate_left
    · intro w hSw; (try dsimp only at hSw); go_simp <;> with_reducible rfl
    try simp only [Act.put, List.getElem_toArray, List.getElem_cons_zero, List.getElem_cons_succ, List.setIfInBounds_toArray, List.set_cons_zero, List.set_cons_succ]
    refine wpAnyH_take (i := 15) (v := ?_) rfl (by kernel_rfl) (by kernel_rfl) (by kernel_rfl) (fun _ _ _ h => h) (Or.inl ⟨by rfl, ?_⟩) (by assumption) ?_
    rotate_left
    · intro w hSw; (try dsimp only at hSw); go_simp <;> with_reducible rfl
    try simp only [Act.put, List.getElem_toArray, List.getElem_cons_zero, List.getElem_cons_succ, List.setIfInBounds_toArray, List.set_cons_zero, List.set_cons_succ]
    refine wpAnyH_ready (rs := [16]) (by kernel_rfl) (by simp) ?_
    refine AllReadyH.cons rfl (fun K hK => ?_) AllReadyH.nil
    go_simp
    (try go_wp2_with fail)
    refine hK.out _ _ ?_ (fun hHeld => ?_)
    · exact hS.out _ ((kx3.mono (T := [w.heap.size + 1]) (by simp)).trans (kpSet2 _ _ _ _) (fun x hx => .inl hx))
    clear hK K
    try simp only [Act.put, List.getElem_toArray, List.getElem_cons_zero, List.getElem_cons_succ, List.setIfInBounds_toArray, List.set_cons_zero, List.set_cons_succ]
    refine wpAnyH_take (i := 17) (v := ?_) rfl (by kernel_rfl) (by kernel_rfl) (by kernel_rfl) (fun _ _ _ h => h) (Or.inl ⟨by rfl, ?_⟩) (by assumption) ?_
    rotate_left
    · intro w hSw; (try dsimp only at hSw); go_simp <;> with_reducible rfl
    try simp only [Act.put, List.getElem_toArray, List.getElem_cons_zero, List.getElem_cons_succ, List.setIfInBounds_toArray, List.set_cons_zero, List.set_cons_succ]
    refine wpAnyH_done (by kernel_rfl) ?_ _
    go_wp2_with fail
    obtain ⟨W', hW', hb2, kW'⟩ := set2_ex hb4 (.int .i64 roomx) (.slice lax lx.length lcx)
    rw [hW']
    obtain ⟨z0, z1, _⟩ := hb2
    refine bodyPost_ret (v := .tuple #[.agg #[.int .i64 roomx, .slice lax lx.length lcx], .int .i64 nn.2]) (by simp [results, Try.results26, go_sem, z0, z1]) rfl ?_
    exact hfin W' kW'
end Go.Proofs.Ytllhmbemcmigoaa
end

section
namespace Go.Proofs.Ytllhmbemcmigoaa
open Go.RowKit Go.Hay
set_option linter.unusedVariables false
set_option linter.unusedSimpArgs false

theorem boxN (r : RN) (w : World) : ∃ w1, w.alloc (.cells #[.int .i64 r.room, .slice r.la r.l.length r.lc] 28) = w1 ∧ Kp [] w w1 ∧ B2 w1 w.heap.size (.int .i64 r.room) (.slice r.la r.l.length r.lc) ∧ w.heap.size < w1.heap.size :=
  ⟨_, rfl, (Kp.refl _ _).alloc _, B2.at _ rfl _ _ _, by simp⟩
set_option maxHeartbeats 8000000 in
set_option maxRecDepth 100000 in
theorem cStandsN {w : World} {p : Nat} {v : Value} {n : Nt} (h : Net w p v n) (hB : Smalls n) (hb : n.l.length ≤ 6000000000000) (r : RN) (hr : RnOk w r) (hL : r.l.map RM.m = n.l) :
    Calls Try.prog 12 #[.pointer (some ⟨p, 0, none⟩), r.v] w fun e w' => e = .returned (.bool true) ∧ Kp [] w w' := by
  obtain ⟨w1, hw1, k1, bx, hsz⟩ := boxN r w
  have hlen : r.l.length = n.l.length := by rw [← hL]; simp
  have hAt : Hid (∀ A, Kp [] w A → ∀ (j : Nat) (x : RM), r.l[j]? = some x → Calls Try.prog 22 #[.pointer (some ⟨p, 0, none⟩), .int .i64 (j : Int)] A (AtP (some ⟨x.to, x.bs⟩) A)) := fun A kA j x hx => by
    have := cAt (h.keptNew kA) hB (by omega) (j : Int)
    rw [atN_nat, ← hL, List.getElem?_map, hx] at this
    exact this
  have hAl : Hid (∀ A, Kp [] w A → Calls Try.prog 22 #[.pointer (some ⟨p, 0, none⟩), .int .i64 (r.l.length : Int)] A (AtP none A)) := fun A kA => by
    have := cAt (h.keptNew kA) hB (by omega) (r.l.length : Int)
    rw [atN_nat, List.getElem?_eq_none (by omega)] at this
    exact this
  have hLn : Hid (∀ A, Kp [] w A → Calls Try.prog 18 #[.pointer (some ⟨p, 0, none⟩)] A (fun e w' => e = .returned (.int .i64 (r.l.length : Int)) ∧ w' = A)) := fun A kA => by
    have := cLen (h.keptNew kA)
    rw [← hlen] at this
    exact this
  have hl9 : r.l.length ≤ 6000000000000 := by omega
  have hw1' := hid hw1
  have hr1 := hr.keptNew k1
  clear hL hlen h hB hb hr hw1
  obtain ⟨room, la, lc, l⟩ := r
  simp only [RN.v] at *
  have b0 := bx.c0; have b1 := bx.c1
  go_enter Try.func12, Try.ntmps12
  go_wp2_with fail
  rw [hw1'.out]
  go_loopw [16] (fun i wn => ∃ j : Nat, j ≤ l.length ∧ i = .int .i64 j ∧ Kp [] w1 wn) (fun i _ => l.length - (intOf i).toNat)
  case atStart => exact ⟨0, Nat.zero_le _, rfl, Kp.refl _ _⟩
  case round =>
    clear b0 b1
    obtain ⟨j, hj, rfl, kn⟩ := hrel
    by_cases hjl : j < l.length
    · obtain ⟨x, hx⟩ : ∃ x, l[j]? = some x := ⟨l[j], by simp [hjl]⟩
      have hrn := hr1.keptNew kn
      obtain ⟨g, o, ea, c0, c1⟩ := rmAt hrn.see hx
      simp only at ea
      subst ea
      have hraw := hrn.raw x (List.mem_of_getElem? hx)
      obtain ⟨wb, hwb⟩ : ∃ wb, wr.alloc (.cells #[.int .i64 x.to, .slice x.a x.bs.length x.c] 46) = wb := ⟨_, rfl⟩
      have kb : Kp [] wr wb := by rw [← hwb]; exact (Kp.refl _ _).alloc _
      have bf : B2 wb wr.heap.size (.int .i64 x.to) (.slice x.a x.bs.length x.c) := by rw [← hwb]; exact B2.at _ rfl _ _ _
      have aA := hAt.out wb ((k1.trans kn (by simp)).trans kb (by simp)) j x hx
      have hwb' := hid hwb
      clear hx hwb
      go_wp2_with fail
      rw [hwb'.out]
      clear c0 c1
      refine aA.mono ?_
      rintro e w8 ⟨ra, rc, rfl, hr8, k8, _⟩
      obtain ⟨_, _, er8, hs8, _⟩ := hr8.sees
      cases er8
      have bf8 := bf.kept k8
      have cv1 := convSees hs8 rc
      have cv2 := convSees ((hraw.kept kb (by simp)).kept k8 (by simp)) x.c
      have f0 := bf8.c0
      have f1 := bf8.c1
      have kf : Kp [] w1 w8 := (kn.trans kb (by simp)).trans k8 (by simp)
      clear aA hs8 hr8 bf bf8 hraw
      go_wp2_with fail
      exact ⟨⟨j + 1, by omega, by go_num, kf⟩, by simp [intOf]; omega⟩
    · have kf : Kp [] w wr := k1.trans kn (by simp)
      have bxr := bx.kept kn
      have q1 := bxr.c1
      have aL := hAl.out wr kf
      go_wp2_with fail
      refine aL.mono ?_
      rintro e w8 ⟨rfl, k8⟩
      have kf8 : Kp [] w w8.drew := (kf.trans k8 (by simp)).drew
      have bx8 := (bxr.kept k8).kept (w' := w8.drew) (Kp.refl _ _).drew
      have aN := hLn.out _ kf8
      have hS0 := bx8.c1
      clear q1
      go_wp2_with fail
      refine wp_region_held_drew (S := (fun A => A.cell? ⟨w.heap.size, 1, none⟩ = some (.slice la l.length lc))) (by kernel_rfl) ?_ (fun hHeld => ?_)
      · exact hS0
      generalize w8.drew = wd at *
      refine wpAnyH_take (i := 0) (v := ?_) rfl (by kernel_rfl) (by kernel_rfl) (by kernel_rfl) (fun _ _ _ h => h) (Or.inl ⟨by rfl, ?_⟩) (by assumption) ?_
      rotate_left
      · intro w hSw; (try dsimp only at hSw); go_simp <;> with_reducible rfl
      try simp only [Act.put, List.getElem_toArray, List.getElem_cons_zero, List.getElem_cons_succ, List.setIfInBounds_toArray, List.set_cons_zero, List.set_cons_succ]
      refine wpAnyH_take (i := 2) (v := ?_) rfl (by kernel_rfl) (by kernel_rfl) (by kernel_rfl) (fun _ _ _ h => h) (Or.inl ⟨by rfl, ?_⟩) (by assumption) ?_
      rotate_left
      · intro w hSw; (try dsimp only at hSw); go_simp <;> with_reducible rfl
      try simp only [Act.put, List.getElem_toArray, List.getElem_cons_zero, List.getElem_cons_succ, List.setIfInBounds_toArray, List.set_cons_zero, List.set_cons_succ]
      refine wpAnyH_take (i := 3) (v := ?_) rfl (by kernel_rfl) (by kernel_rfl) (by kernel_rfl) (fun _ _ _ h => h) (Or.inl ⟨by rfl, ?_⟩) (by assumption) ?_
      rotate_left
      · intro w hSw; (try dsimp only at hSw); go_simp <;> with_reducible rfl
      try simp only [Act.put, List.getElem_toArray, List.getElem_cons_zero, List.getElem_cons_succ, List.setIfInBounds_toArray, List.set_cons_zero, List.set_cons_succ]
      refine wpAnyH_take (i := 4) (v := ?_) rfl (by kernel_rfl) (by kernel_rfl) (by kernel_rfl) (fun _ _ _ h => h) (Or.inl ⟨by rfl, ?_⟩) (by assumption) ?_
      rotate_left
      · intro w hSw; (try dsimp only at hSw); go_simp <;> with_reducible rfl
      try simp only [Act.put, List.getElem_toArray, List.getElem_cons_zero, List.getElem_cons_succ, List.setIfInBounds_toArray, List.set_cons_zero, List.set_cons_succ]
      refine wpAnyH_ready (rs := [1]) (by kernel_rfl) (by simp) ?_
      refine AllReadyH.cons rfl (fun K hK => ?_) AllReadyH.nil
      go_simp
      refine aN.mono ?_
      rintro e x3 ⟨rfl, hx3⟩
      rw [hx3]
      (try go_wp2_with fail)
      refine hK.out _ _ ?_ (fun hHeld => ?_)
      · exact hHeld
      clear hK K
      try simp only [Act.put, List.getElem_toArray, List.getElem_cons_zero, List.getElem_cons_succ, List.setIfInBounds_toArray, List.set_cons_zero, List.set_cons_succ]
      refine wpAnyH_take (i := 5) (v := ?_) rfl (by kernel_rfl) (by kernel_rfl) (by kernel_rfl) (fun _ _ _ h => h) (Or.inl ⟨by rfl, ?_⟩) (by assumption) ?_
      rotate_left
      · intro w hSw; (try dsimp only at hSw); go_simp <;> with_reducible rfl
      try simp only [Act.put, List.getElem_toArray, List.getElem_cons_zero, List.getElem_cons_succ, List.setIfInBounds_toArray, List.set_cons_zero, List.set_cons_succ]
      refine wpAnyH_take (i := 6) (v := ?_) rfl (by kernel_rfl) (by kernel_rfl) (by kernel_rfl) (fun _ _ _ h => h) (Or.inl ⟨by rfl, ?_⟩) (by assumption) ?_
      rotate_left
      · intro w hSw; (try dsimp only at hSw); go_simp <;> with_reducible rfl
      try simp only [Act.put, List.getElem_toArray, List.getElem_cons_zero, List.getElem_cons_succ, List.setIfInBounds_toArray, List.set_cons_zero, List.set_cons_succ]
      refine wpAnyH_take (i := 7) (v := ?_) rfl (by kernel_rfl) (by kernel_rfl) (by kernel_rfl) (fun _ _ _ h => h) (Or.inl ⟨by rfl, ?_⟩) (by assumption) ?_
      rotate_left
      · intro w hSw; (try dsimp only at hSw); go_simp <;> with_reducible rfl
      try simp only [Act.put, List.getElem_toArray, List.getElem_cons_zero, List.getElem_cons_succ, List.setIfInBounds_toArray, List.set_cons_zero, List.set_cons_succ]
      refine wpAnyH_take (i := 8) (v := ?_) rfl (by kernel_rfl) (by kernel_rfl) (by kernel_rfl) (fun _ _ _ h => h) (Or.inl ⟨by rfl, ?_⟩) (by assumption) ?_
      rotate_left
      · intro w hSw; (try dsimp only at hSw); go_simp <;> with_reducible rfl
      try simp only [Act.put, List.getElem_toArray, List.getElem_cons_zero, List.getElem_cons_succ, List.setIfInBounds_toArray, List.set_cons_zero, List.set_cons_succ]
      refine wpAnyH_take (i := 9) (v := ?_) rfl (by kernel_rfl) (by kernel_rfl) (by kernel_rfl) (fun _ _ _ h => h) (Or.inl ⟨by rfl, ?_⟩) (by assumption) ?_
      rotate_left
      · intro w hSw; (try dsimp only at hSw); go_simp <;> with_reducible rfl
      try simp only [Act.put, List.getElem_toArray, List.getElem_cons_zero, List.getElem_cons_succ, List.setIfInBounds_toArray, List.set_cons_zero, List.set_cons_succ]
      refine wpAnyH_take (i := 10) (v := ?_) rfl (by kernel_rfl) (by kernel_rfl) (by kernel_rfl) (fun _ _ _ h => h) (Or.inl ⟨by rfl, ?_⟩) (by assumption) ?_
      rotate_left
      · intro w hSw; (try dsimp only at hSw); go_simp <;> with_reducible rfl
      try simp only [Act.put, List.getElem_toArray, List.getElem_cons_zero, List.getElem_cons_succ, List.setIfInBounds_toArray, List.set_cons_zero, List.set_cons_succ]
      refine wpAnyH_done (by kernel_rfl) ?_ _
      go_wp2_with fail
      go_ret
      exact ⟨rfl, kf8⟩
end Go.Proofs.Ytllhmbemcmigoaa
end

section
namespace Go.Proofs.Ytllhmbemcmigoaa
open Go.RowKit Go.Hay
set_option linter.unusedVariables false
set_option linter.unusedSimpArgs false

set_option maxHeartbeats 8000000 in
set_option maxRecDepth 100000 in
theorem cAskedN (r : RN) (i : Int) (w : World) (hi : i < 0 ∨ (r.l.length : Int) ≤ i) :
    Calls Try.prog 23 #[.int .i64 0, .slice none 0 0, .bool false, r.v, .int .i64 i] w fun e w' => e = .returned (.bool true) ∧ Kp [] w w' := by
  obtain ⟨w1, hw1, k1, bx, hsz⟩ := boxN r w
  have aT := cThere r i w1
  have e2 : (decide (0 ≤ i) && decide (i < r.l.length)) = false := by
    rcases hi with h | h
    · simp; omega
    · simp; omega
  rw [e2] at aT
  clear hi e2
  obtain ⟨room, la, lc, l⟩ := r
  simp only [RN.v] at *
  have b0 := bx.c0; have b1 := bx.c1
  go_enter Try.func23, Try.ntmps23
  go_wp2_with fail
  refine aT.mono ?_
  rintro e w2 ⟨rfl, k2⟩
  have kf : Kp [] w w2 := k1.trans k2 (by simp)
  go_wp2_with fail
  go_ret
  exact ⟨rfl, kf⟩
set_option maxHeartbeats 8000000 in
set_option maxRecDepth 100000 in
theorem cAskedS (r : RN) (w : World) (hr : RnOk w r) (hlen : r.l.length ≤ 6000000000000) (k : Nat) (x : RM) (hx : r.l[k]? = some x) (a : Option Addr) (c : Nat) (hs : Sees w a x.bs) :
    Calls Try.prog 23 #[.int .i64 x.to, .slice a x.bs.length c, .bool true, r.v, .int .i64 (k : Int)] w fun e w' => e = .returned (.bool true) ∧ Kp [] w w' := by
  obtain ⟨w1, hw1, k1, bx, hsz⟩ := boxN r w
  have aT := cThere r (k : Int) w1
  have hkl : k < r.l.length := (List.getElem?_eq_some_iff.1 hx).1
  have e2 : (decide ((0 : Int) ≤ (k : Int)) && decide ((k : Int) < (r.l.length : Int))) = true := by simp; omega
  rw [e2] at aT
  have hraw := hr.raw x (List.mem_of_getElem? hx)
  have hsee := hr.see
  have hxh := hid hx
  clear e2 hx hr
  obtain ⟨room, la, lc, l⟩ := r
  simp only [RN.v] at *
  have b0 := bx.c0; have b1 := bx.c1
  obtain ⟨ln, hln⟩ : ∃ ln : Nat, ln = x.bs.length := ⟨_, rfl⟩
  obtain ⟨str, hstr⟩ : ∃ str : ByteArray, str = ⟨x.bs.toArray⟩ := ⟨_, rfl⟩
  rw [← hln]
  have hln' := hid hln
  have hstr' := hid hstr
  clear hln hstr
  go_enter Try.func23, Try.ntmps23
  go_wp2_with fail
  refine aT.mono ?_
  rintro e w2 ⟨rfl, k2⟩
  have kf : Kp [] w w2.drew := (k1.trans k2 (by simp)).drew
  obtain ⟨g, o, ea, c0, c1⟩ := rmAt (hsee.keptNew kf) hxh.out
  subst ea
  have bx2 := (bx.kept k2).kept (w' := w2.drew) (Kp.refl _ _).drew
  have cv1 : (convert 37 9 (.slice a ln c)).run Try.prog w2.drew = .ok (.string str) w2.drew := by rw [hln'.out, hstr'.out]; exact convSees (hs.kept kf (by simp)) c
  have cv2 : (convert 37 9 (.slice x.a ln x.c)).run Try.prog w2.drew = .ok (.string str) w2.drew := by rw [hln'.out, hstr'.out]; exact convSees (hraw.kept kf (by simp)) x.c
  rw [← hln'.out] at c1
  have hS0 := And.intro bx2.c1 (And.intro c0 (And.intro c1 (And.intro cv1 cv2)))
  have hk0 : (0 : Int) ≤ (k : Int) := by omega
  have hk1 : (k : Int) < (l.length : Int) := by omega
  clear b0 b1 c0 c1 cv1 cv2 aT
  go_wp2_with fail
  refine wp_region_held_drew (S := (fun A => A.cell? ⟨w.heap.size, 1, none⟩ = some (.slice (some ⟨g, o, none⟩) l.length lc) ∧ A.cell? ⟨g, o + k * 2, none⟩ = some (.int .i64 x.to) ∧ A.cell? ⟨g, o + k * 2 + 1, none⟩ = some (.slice x.a ln x.c) ∧ (convert 37 9 (.slice a ln c)).run Try.prog A = .ok (.string str) A ∧ (convert 37 9 (.slice x.a ln x.c)).run Try.prog A = .ok (.string str) A)) (by kernel_rfl) ?_ (fun hHeld => ?_)
  · exact hS0
  generalize w2.drew = wd at *
  refine wpAnyH_take (i := 0) (v := ?_) rfl (by kernel_rfl) (by kernel_rfl) (by kernel_rfl) (fun _ _ _ h => h) (Or.inl ⟨by rfl, ?_⟩) (by assumption) ?_
  rotate_left
  · intro w hSw; (try dsimp only at hSw); go_simp <;> with_reducible rfl
  try simp only [Act.put, List.getElem_toArray, List.getElem_cons_zero, List.getElem_cons_succ, List.setIfInBounds_toArray, List.set_cons_zero, List.set_cons_succ]
  refine wpAnyH_take (i := 1) (v := ?_) rfl (by kernel_rfl) (by kernel_rfl) (by kernel_rfl) (fun _ _ _ h => h) (Or.inl ⟨by rfl, ?_⟩) (by assumption) ?_
  rotate_left
  · intro w hSw; (try dsimp only at hSw); go_simp <;> with_reducible rfl
  try simp only [Act.put, List.getElem_toArray, List.getElem_cons_zero, List.getElem_cons_succ, List.setIfInBounds_toArray, List.set_cons_zero, List.set_cons_succ]
  refine wpAnyH_take (i := 2) (v := ?_) rfl (by kernel_rfl) (by kernel_rfl) (by kernel_rfl) (fun _ _ _ h => h) (Or.inl ⟨by rfl, ?_⟩) (by assumption) ?_
  rotate_left
  · intro w hSw; (try dsimp only at hSw); go_simp <;> with_reducible rfl
  try simp only [Act.put, List.getElem_toArray, List.getElem_cons_zero, List.getElem_cons_succ, List.setIfInBounds_toArray, List.set_cons_zero, List.set_cons_succ]
  refine wpAnyH_take (i := 3) (v := ?_) rfl (by kernel_rfl) (by kernel_rfl) (by kernel_rfl) (fun _ _ _ h => h) (Or.inl ⟨by rfl, ?_⟩) (by assumption) ?_
  rotate_left
  · intro w hSw; (try dsimp only at hSw); go_simp <;> with_reducible rfl
  try simp only [Act.put, List.getElem_toArray, List.getElem_cons_zero, List.getElem_cons_succ, List.setIfInBounds_toArray, List.set_cons_zero, List.set_cons_succ]
  refine wpAnyH_take (i := 4) (v := ?_) rfl (by kernel_rfl) (by kernel_rfl) (by kernel_rfl) (fun _ _ _ h => h) (Or.inl ⟨by rfl, ?_⟩) (by assumption) ?_
  rotate_left
  · intro w hSw; (try dsimp only at hSw); go_simp <;> with_reducible rfl
  try simp only [Act.put, List.getElem_toArray, List.getElem_cons_zero, List.getElem_cons_succ, List.setIfInBounds_toArray, List.set_cons_zero, List.set_cons_succ]
  refine wpAnyH_take (i := 5) (v := ?_) rfl (by kernel_rfl) (by kernel_rfl) (by kernel_rfl) (fun _ _ _ h => h) (Or.inl ⟨by rfl, ?_⟩) (by assumption) ?_
  rotate_left
  · intro w hSw; (try dsimp only at hSw); go_simp <;> with_reducible rfl
  try simp only [Act.put, List.getElem_toArray, List.getElem_cons_zero, List.getElem_cons_succ, List.setIfInBounds_toArray, List.set_cons_zero, List.set_cons_succ]
  refine wpAnyH_take (i := 6) (v := ?_) rfl (by kernel_rfl) (by kernel_rfl) (by kernel_rfl) (fun _ _ _ h => h) (Or.inl ⟨by rfl, ?_⟩) (by assumption) ?_
  rotate_left
  · intro w hSw; (try dsimp only at hSw); go_simp <;> with_reducible rfl
  try simp only [Act.put, List.getElem_toArray, List.getElem_cons_zero, List.getElem_cons_succ, List.setIfInBounds_toArray, List.set_cons_zero, List.set_cons_succ]
  refine wpAnyH_take (i := 7) (v := ?_) rfl (by kernel_rfl) (by kernel_rfl) (by kernel_rfl) (fun _ _ _ h => h) (Or.inl ⟨by rfl, ?_⟩) (by assumption) ?_
  rotate_left
  · intro w hSw; (try dsimp only at hSw); go_simp <;> with_reducible rfl
  try simp only [Act.put, List.getElem_toArray, List.getElem_cons_zero, List.getElem_cons_succ, List.setIfInBounds_toArray, List.set_cons_zero, List.set_cons_succ]
  refine wpAnyH_take (i := 8) (v := ?_) rfl (by kernel_rfl) (by kernel_rfl) (by kernel_rfl) (fun _ _ _ h => h) (Or.inl ⟨by rfl, ?_⟩) (by assumption) ?_
  rotate_left
  · intro w hSw; (try dsimp only at hSw); go_simp <;> with_reducible rfl
  try simp only [Act.put, List.getElem_toArray, List.getElem_cons_zero, List.getElem_cons_succ, List.setIfInBounds_toArray, List.set_cons_zero, List.set_cons_succ]
  refine wpAnyH_take (i := 9) (v := ?_) rfl (by kernel_rfl) (by kernel_rfl) (by kernel_rfl) (fun _ _ _ h => h) (Or.inl ⟨by rfl, ?_⟩) (by assumption) ?_
  rotate_left
  · intro w hSw; (try dsimp only at hSw); go_simp <;> with_reducible rfl
  try simp only [Act.put, List.getElem_toArray, List.getElem_cons_zero, List.getElem_cons_succ, List.setIfInBounds_toArray, List.set_cons_zero, List.set_cons_succ]
  refine wpAnyH_take (i := 10) (v := ?_) rfl (by kernel_rfl) (by kernel_rfl) (by kernel_rfl) (fun _ _ _ h => h) (Or.inl ⟨by rfl, ?_⟩) (by assumption) ?_
  rotate_left
  · intro w hSw; (try dsimp only at hSw); go_simp <;> with_reducible rfl
  try simp only [Act.put, List.getElem_toArray, List.getElem_cons_zero, List.getElem_cons_succ, List.setIfInBounds_toArray, List.set_cons_zero, List.set_cons_succ]
  refine wpAnyH_take (i := 11) (v := ?_) rfl (by kernel_rfl) (by kernel_rfl) (by kernel_rfl) (fun _ _ _ h => h) (Or.inl ⟨by rfl, ?_⟩) (by assumption) ?_
  rotate_left
  · intro w hSw; (try dsimp only at hSw); go_simp <;> with_reducible rfl
  try simp only [Act.put, List.getElem_toArray, List.getElem_cons_zero, List.getElem_cons_succ, List.setIfInBounds_toArray, List.set_cons_zero, List.set_cons_succ]
  refine wpAnyH_take (i := 12) (v := ?_) rfl (by kernel_rfl) (by kernel_rfl) (by kernel_rfl) (fun _ _ _ h => h) (Or.inl ⟨by rfl, ?_⟩) (by assumption) ?_
  rotate_left
  · intro w hSw; (try dsimp only at hSw); go_simp <;> with_reducible rfl
  try simp only [Act.put, List.getElem_toArray, List.getElem_cons_zero, List.getElem_cons_succ, List.setIfInBounds_toArray, List.set_cons_zero, List.set_cons_succ]
  refine wpAnyH_take (i := 13) (v := ?_) rfl (by kernel_rfl) (by kernel_rfl) (by kernel_rfl) (fun _ _ _ h => h) (Or.inl ⟨by rfl, ?_⟩) (by assumption) ?_
  rotate_left
  · intro w hSw; (try dsimp only at hSw); go_simp <;> with_reducible rfl
  try simp only [Act.put, List.getElem_toArray, List.getElem_cons_zero, List.getElem_cons_succ, List.setIfInBounds_toArray, List.set_cons_zero, List.set_cons_succ]
  refine wpAnyH_take (i := 14) (v := ?_) rfl (by kernel_rfl) (by kernel_rfl) (by kernel_rfl) (fun _ _ _ h => h) (Or.inl ⟨by rfl, ?_⟩) (by assumption) ?_
  rotate_left
  · intro w hSw; (try dsimp only at hSw); go_simp <;> with_reducible rfl
  try simp only [Act.put, List.getElem_toArray, List.getElem_cons_zero, List.getElem_cons_succ, List.setIfInBounds_toArray, List.set_cons_zero, List.set_cons_succ]
  refine wpAnyH_take (i := 15) (v := ?_) rfl (by kernel_rfl) (by kernel_rfl) (by kernel_rfl) (fun _ _ _ h => h) (Or.inl ⟨by rfl, ?_⟩) (by assumption) ?_
  rotate_left
  · intro w hSw; (try dsimp only at hSw); go_simp <;> with_reducible rfl
  try simp only [Act.put, List.getElem_toArray, List.getElem_cons_zero, List.getElem_cons_succ, List.setIfInBounds_toArray, List.set_cons_zero, List.set_cons_succ]
  refine wpAnyH_take (i := 16) (v := ?_) rfl (by kernel_rfl) (by kernel_rfl) (by kernel_rfl) (fun _ _ _ h => h) (Or.inl ⟨by rfl, ?_⟩) (by assumption) ?_
  rotate_left
  · intro w hSw; (try dsimp only at hSw); go_simp <;> with_reducible rfl
  try simp only [Act.put, List.getElem_toArray, List.getElem_cons_zero, List.getElem_cons_succ, List.setIfInBounds_toArray, List.set_cons_zero, List.set_cons_succ]
  refine wpAnyH_take (i := 17) (v := ?_) rfl (by kernel_rfl) (by kernel_rfl) (by kernel_rfl) (fun _ _ _ h => h) (Or.inl ⟨by rfl, ?_⟩) (by assumption) ?_
  rotate_left
  · intro w hSw; (try dsimp only at hSw); go_simp <;> with_reducible rfl
  try simp only [Act.put, List.getElem_toArray, List.getElem_cons_zero, List.getElem_cons_succ, List.setIfInBounds_toArray, List.set_cons_zero, List.set_cons_succ]
  refine wpAnyH_take (i := 18) (v := ?_) rfl (by kernel_rfl) (by kernel_rfl) (by kernel_rfl) (fun _ _ _ h => h) (Or.inl ⟨by rfl, ?_⟩) (by assumption) ?_
  rotate_left
  · intro w hSw; (try dsimp only at hSw); go_simp <;> with_reducible rfl
  try simp only [Act.put, List.getElem_toArray, List.getElem_cons_zero, List.getElem_cons_succ, List.setIfInBounds_toArray, List.set_cons_zero, List.set_cons_succ]
  refine wpAnyH_take (i := 19) (v := ?_) rfl (by kernel_rfl) (by kernel_rfl) (by kernel_rfl) (fun _ _ _ h => h) (Or.inl ⟨by rfl, ?_⟩) (by assumption) ?_
  rotate_left
  · intro w hSw; (try dsimp only at hSw); go_simp <;> with_reducible rfl
  try simp only [Act.put, List.getElem_toArray, List.getElem_cons_zero, List.getElem_cons_succ, List.setIfInBounds_toArray, List.set_cons_zero, List.set_cons_succ]
  refine wpAnyH_take (i := 20) (v := ?_) rfl (by kernel_rfl) (by kernel_rfl) (by kernel_rfl) (fun _ _ _ h => h) (Or.inl ⟨by rfl, ?_⟩) (by assumption) ?_
  rotate_left
  · intro w hSw; (try dsimp only at hSw); go_simp <;> with_reducible rfl
  try simp only [Act.put, List.getElem_toArray, List.getElem_cons_zero, List.getElem_cons_succ, List.setIfInBounds_toArray, List.set_cons_zero, List.set_cons_succ]
  refine wpAnyH_take (i := 21) (v := ?_) rfl (by kernel_rfl) (by kernel_rfl) (by kernel_rfl) (fun _ _ _ h => h) (Or.inl ⟨by rfl, ?_⟩) (by assumption) ?_
  rotate_left
  · intro w hSw; (try dsimp only at hSw); go_simp <;> with_reducible rfl
  try simp only [Act.put, List.getElem_toArray, List.getElem_cons_zero, List.getElem_cons_succ, List.setIfInBounds_toArray, List.set_cons_zero, List.set_cons_succ]
  refine wpAnyH_take (i := 22) (v := ?_) rfl (by kernel_rfl) (by kernel_rfl) (by kernel_rfl) (fun _ _ _ h => h) (Or.inl ⟨by rfl, ?_⟩) (by assumption) ?_
  rotate_left
  · intro w hSw; (try dsimp only at hSw); go_simp <;> with_reducible rfl
  try simp only [Act.put, List.getElem_toArray, List.getElem_cons_zero, List.getElem_cons_succ, List.setIfInBounds_toArray, List.set_cons_zero, List.set_cons_succ]
  refine wpAnyH_take (i := 23) (v := ?_) rfl (by kernel_rfl) (by kernel_rfl) (by kernel_rfl) (fun _ _ _ h => h) (Or.inl ⟨by rfl, ?_⟩) (by assumption) ?_
  rotate_left
  · intro w hSw; (try dsimp only at hSw); go_simp <;> with_reducible rfl
  try simp only [Act.put, List.getElem_toArray, List.getElem_cons_zero, List.getElem_cons_succ, List.setIfInBounds_toArray, List.set_cons_zero, List.set_cons_succ]
  refine wpAnyH_done (by kernel_rfl) ?_ _
  go_wp2_with fail
  go_ret
  exact ⟨rfl, kf⟩
end Go.Proofs.Ytllhmbemcmigoaa
end

section
namespace Go.Proofs.Ytllhmbemcmigoaa
open Go.RowKit Go.Hay
set_option linter.unusedVariables false
set_option linter.unusedSimpArgs false

def NOp.v (o : NOp) : Value := .agg #[.int .i64 o.kind, .int .i64 o.to, .int .i64 o.n, .slice o.raw.a o.raw.bs.length o.raw.c]
/-- The blocks of a call's bytes. -/
def NOp.ft (o : NOp) : List Nat := if o.raw.bs = [] then [] else blk o.raw.a
/-- What step leaves: the net to go on with, the reference behind it; they tell the same. -/
def StN (p : Nat) (v : Value) (r : RN) (o : NOp) (n' : Nt) (w : World) (e : Ending) (w' : World) : Prop :=
  ∃ (p' : Nat) (v' : Value) (r' : RN), e = .returned (.tuple #[.pointer (some ⟨p', 0, none⟩), r'.v, .bool true]) ∧ Net w' p' v' n' ∧ RnOk w' r' ∧ LikeN r' n' ∧ Kp (p :: own v) w w' ∧ (∀ k ∈ p' :: own v', k ∈ p :: own v ∨ w.heap.size ≤ k) ∧ (∀ k ∈ r'.foot, k ∈ r.foot ++ o.ft ∨ w.heap.size ≤ k) ∧ (∀ k ∈ r'.foot, k ∉ p' :: own v')
theorem stFinN {p p' : Nat} {v v' : Value} {r r' : RN} {o : NOp} {n' : Nt} {w W W' : World} {q : Nat} (k : Kp (p :: own v) w W) (hN : Net W p' v' n') (hr' : RnOk W r') (hL' : LikeN r' n') (n1 : ∀ k ∈ p' :: own v', k ∈ p :: own v ∨ w.heap.size ≤ k) (n2 : ∀ k ∈ r'.foot, k ∈ r.foot ++ o.ft ∨ w.heap.size ≤ k) (n3 : ∀ k ∈ r'.foot, k ∉ p' :: own v')
    (hq : w.heap.size ≤ q) (qn1 : q ∉ p' :: own v') (qn2 : q ∉ r'.foot) (k5 : Kp [q] W W') : StN p v r o n' w (.returned (.tuple #[.pointer (some ⟨p', 0, none⟩), r'.v, .bool true])) W' :=
  ⟨p', v', r', rfl, hN.kept k5 (fun k hk h => by simp only [List.mem_singleton] at h; subst h; exact qn1 hk), hr'.kept k5 (fun k hk h => by simp only [List.mem_singleton] at h; subst h; exact qn2 hk), hL', k.trans k5 (fun x hx => .inr (by simp only [List.mem_singleton] at hx; omega)), n1, n2, n3⟩
structure BxN (w : World) (q : Nat) (r : RN) (o : NOp) : Prop where
  rd : B2 w q (.int .i64 r.room) (.slice r.la r.l.length r.lc)
  o0 : w.cell? ⟨q + 1, 0, none⟩ = some (.int .i64 o.kind)
  o1 : w.cell? ⟨q + 1, 1, none⟩ = some (.int .i64 o.to)
  o2 : w.cell? ⟨q + 1, 2, none⟩ = some (.int .i64 o.n)
  o3 : w.cell? ⟨q + 1, 3, none⟩ = some (.slice o.raw.a o.raw.bs.length o.raw.c)
  an : B2 w (q + 2) (.int .i64 0) (.slice none 0 0)
theorem BxN.kept {w w' : World} {q : Nat} {r : RN} {o : NOp} (h : BxN w q r o) (hk : Kp [] w w') : BxN w' q r o :=
  ⟨h.rd.kept hk, cell_kp hk h.o0, cell_kp hk h.o1, cell_kp hk h.o2, cell_kp hk h.o3, h.an.kept hk⟩
theorem boxCN (r : RN) (o : NOp) (w : World) : ∃ w1, ((w.alloc (.cells #[.int .i64 r.room, .slice r.la r.l.length r.lc] 28)).alloc (.cells #[.int .i64 o.kind, .int .i64 o.to, .int .i64 o.n, .slice o.raw.a o.raw.bs.length o.raw.c] 39)).alloc (.cells #[.int .i64 0, .slice none 0 0] 28) = w1 ∧ Kp [] w w1 ∧ BxN w1 w.heap.size r o ∧ w.heap.size + 3 ≤ w1.heap.size := by
  refine ⟨_, rfl, (((Kp.refl _ _).alloc _).alloc _).alloc _, ?_, by simp⟩
  have op : ∀ j u, (#[.int .i64 o.kind, .int .i64 o.to, .int .i64 o.n, .slice o.raw.a o.raw.bs.length o.raw.c] : Array Value)[j]? = some u → (((w.alloc (.cells #[.int .i64 r.room, .slice r.la r.l.length r.lc] 28)).alloc (.cells #[.int .i64 o.kind, .int .i64 o.to, .int .i64 o.n, .slice o.raw.a o.raw.bs.length o.raw.c] 39)).alloc (.cells #[.int .i64 0, .slice none 0 0] 28)).cell? ⟨w.heap.size + 1, j, none⟩ = some u := fun j u hu => by
    refine cell_kp ((Kp.refl _ _).alloc _) ?_
    have := World.cell?_alloc_new (w.alloc (.cells #[.int .i64 r.room, .slice r.la r.l.length r.lc] 28)) #[.int .i64 o.kind, .int .i64 o.to, .int .i64 o.n, .slice o.raw.a o.raw.bs.length o.raw.c] 39 j
    rw [World.size_alloc] at this
    exact this.trans hu
  exact ⟨((B2.at _ rfl _ _ _).kept ((Kp.refl _ _).alloc _)).kept ((Kp.refl _ _).alloc _), op 0 _ rfl, op 1 _ rfl, op 2 _ rfl, op 3 _ rfl, B2.at _ (by simp) _ _ _⟩
theorem B2.mvS {w w' : World} {q : Nat} {a b : Value} {S : List Nat} (h : B2 w q a b) (hk : Kp S w w') (hq : q ∉ S) : B2 w' q a b := h.keptS hk hq
end Go.Proofs.Ytllhmbemcmigoaa
end

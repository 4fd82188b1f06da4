/- Terms are cut as the document says, and what they say of two rows, one behind the other, the two parts say of each, for arguments of at most 1048576 values and letters; the table of asks starts as the text lays it. -/
import Derived.Test.YtacoabmmhddbkaaDoorB2
import Derived.Test.YtacoabmmhddbkaaDoorB1
import Derived.Laws.StructEq
import Derived.Test.YtacoabmmhddbkaaDoorB3
import Derived.SizedLaws
import Derived.JoinedCond
import Derived.Deep.CondSized
section
namespace Go.Proofs.YtacoabmmhddbkaaDoor
open Go.RowKit Go.Hay
set_option linter.unusedVariables false
set_option linter.unusedSimpArgs false

/-- Those whose column is below; the others, as the second row counts. -/
def spL (m : Int) (l : List Tm) : List Tm := l.filter fun t => decide (t.co < m)
def spR (m : Int) (l : List Tm) : List Tm := (l.filter fun t => !decide (t.co < m)).map fun t => ⟨t.co - m, t.op, t.x⟩
theorem spL_len (m : Int) (l : List Tm) : (spL m l).length ≤ l.length := List.length_filter_le _ _
theorem spR_len (m : Int) (l : List Tm) : (spR m l).length ≤ l.length := by unfold spR; rw [List.length_map]; exact List.length_filter_le _ _
theorem sp_yes (m : Int) (l : List Tm) (j : Nat) (hj : j < l.length) (h : l[j].co < m) : spL m (l.take (j + 1)) = spL m (l.take j) ++ [l[j]] ∧ spR m (l.take (j + 1)) = spR m (l.take j) := by
  unfold spL spR
  rw [List.take_succ_eq_append_getElem hj, List.filter_append, List.filter_append]
  simp [h]
theorem sp_no (m : Int) (l : List Tm) (j : Nat) (hj : j < l.length) (h : ¬ l[j].co < m) : spL m (l.take (j + 1)) = spL m (l.take j) ∧ spR m (l.take (j + 1)) = spR m (l.take j) ++ [⟨l[j].co - m, l[j].op, l[j].x⟩] := by
  unfold spL spR
  rw [List.take_succ_eq_append_getElem hj, List.filter_append, List.filter_append]
  simp [h]
theorem infoT : ∃ i : TypeInfo, Tryd.prog.info? 32 = some i ∧ i.zero = some (.agg #[.int .i64 0, .int .i64 0, .int .i64 0, .bool false, .int .i64 0, .string ⟨#[]⟩]) ∧ i.size = 6 ∧ i.bytes = 56 := info4 (by kernel_rfl)
theorem ownX (a : Option Addr) (n c : Nat) : own (.slice a n c) = blk a := by cases a <;> rfl
theorem wpAppRunX {P : Program} {w w' : World} {ops : Array Oper} {rest : List Oper} {o : Oper} {a : Act} {Q : Exit → Act → World → Prop} (hgd : o.guard = none) (s x : Operand) (t tx : TypeId)
    (ho : o.op = .call { callee := .builtin .append, args := #[s, x], argTypes := #[t, tx] }) (v xv v' : Value) (hv : a.eval s = v) (hx : a.eval x = xv)
    (hrun : (Builtin.append_ #[t, tx] o.type #[v, xv]).run P w = .ok v' w') (h : wpList P ops Q rest (a.put o.dst v') w') : wpList P ops Q (o :: rest) a w := by
  refine wpList_plain hgd fun K hK' => ?_
  have hfin := hK' _ _ h
  unfold Oper.wp
  simp [execOp, ho, resolve, invoke, builtin, hv, hx, hrun, Result.andThen]
  exact hfin
/-- One more term, appended to a row of the call's own. -/
theorem appTm (w : World) (a : Option Addr) (cp : Nat) (l : List Tm) (t : Tm) (hrow : TmE.Row w (.slice a l.length cp) l) (hl : l.length ≤ 2600000000000) :
    ∃ a' cp' W', (Builtin.append_ #[23, 23] 23 #[.slice a l.length cp, .slice (some ⟨w.heap.size, 0, none⟩) 1 1]).run Tryd.prog (w.alloc (.cells #[.int .i64 t.co, .int .i64 t.op, .int .i64 t.x.k, .bool t.x.b, .int .i64 t.x.n, .string t.x.t] 32)) = .ok (.slice a' (l ++ [t]).length cp') W' ∧ TmE.Row W' (.slice a' (l ++ [t]).length cp') (l ++ [t]) ∧ (∀ k ∈ blk a', k ∈ blk a ∨ w.heap.size ≤ k) ∧ Kp (blk a) w W' := by
  obtain ⟨A1, hA1⟩ : ∃ A1, w.alloc (.cells #[.int .i64 t.co, .int .i64 t.op, .int .i64 t.x.k, .bool t.x.b, .int .i64 t.x.n, .string t.x.t] 32) = A1 := ⟨_, rfl⟩
  have kA1 : Kp [] w A1 := by rw [← hA1]; exact (Kp.refl _ _).alloc _
  have bx1 : Bn A1 w.heap.size (TmE.c t) := by rw [← hA1]; exact Bn.new w (TmE.c t) _
  have hs1 : TmE.See A1 (some ⟨w.heap.size, 0, none⟩) [t] := .inr ⟨w.heap.size, 0, rfl, fun j u hu => by rw [Nat.zero_add]; exact bx1.get j u (by simpa [El.cs] using hu)⟩
  obtain ⟨i0, hi, hz0', hz1', hz2'⟩ := infoT
  have hsr := hs1.src (P := Tryd.prog) Tryd.underlying23 1
  obtain ⟨v', A2, hrun, hrow2, k2, hn2⟩ := run_appendG (E := TmE) (P := Tryd.prog) A1 23 23 23 32 i0 _ 56 Tryd.underlying23 hi hz0' hz1' hz2' rfl (.slice a l.length cp) l (hrow.keptNew kA1) _ [t] hsr (by simp only [List.length_cons, List.length_nil]; omega) (by simp only [List.length_cons, List.length_nil]; omega)
  obtain ⟨a', c', rfl, _⟩ := hrow2.see
  simp only [ownX] at k2 hn2
  rw [hA1]
  have z1 := kA1.size
  exact ⟨a', c', A2, hrun, hrow2, fun k hk => by
    rcases hn2 k hk with e | e
    · exact .inl e
    · exact .inr (by omega), (kA1.mono (by simp)).trans k2 (fun j hj => .inl hj)⟩
/-- Two rows of terms beside each other. -/
structure SpI (w wr : World) (a1 : Option Addr) (c1 : Nat) (L : List Tm) (a2 : Option Addr) (c2 : Nat) (R : List Tm) : Prop where
  row1 : TmE.Row wr (.slice a1 L.length c1) L
  row2 : TmE.Row wr (.slice a2 R.length c2) R
  new1 : ∀ k ∈ blk a1, w.heap.size ≤ k
  new2 : ∀ k ∈ blk a2, w.heap.size ≤ k
  dis : ∀ k ∈ blk a1, k ∉ blk a2
  kp : Kp [] w wr
theorem SpI.keep {w wr W : World} {a1 : Option Addr} {c1 : Nat} {L : List Tm} {a2 : Option Addr} {c2 : Nat} {R : List Tm} (h : SpI w wr a1 c1 L a2 c2 R) (k : Kp [] wr W) : SpI w W a1 c1 L a2 c2 R :=
  ⟨h.row1.keptNew k, h.row2.keptNew k, h.new1, h.new2, h.dis, h.kp.trans k (by simp)⟩
theorem SpI.swap {w wr : World} {a1 : Option Addr} {c1 : Nat} {L : List Tm} {a2 : Option Addr} {c2 : Nat} {R : List Tm} (h : SpI w wr a1 c1 L a2 c2 R) : SpI w wr a2 c2 R a1 c1 L :=
  ⟨h.row2, h.row1, h.new2, h.new1, fun k h2 h1 => h.dis k h1 h2, h.kp⟩
theorem SpI.app1 {w wr : World} {a1 : Option Addr} {c1 : Nat} {L : List Tm} {a2 : Option Addr} {c2 : Nat} {R : List Tm} (h : SpI w wr a1 c1 L a2 c2 R) (t : Tm) (hl : L.length ≤ 2600000000000) :
    ∃ a' cp' W', (Builtin.append_ #[23, 23] 23 #[.slice a1 L.length c1, .slice (some ⟨wr.heap.size, 0, none⟩) 1 1]).run Tryd.prog (wr.alloc (.cells #[.int .i64 t.co, .int .i64 t.op, .int .i64 t.x.k, .bool t.x.b, .int .i64 t.x.n, .string t.x.t] 32)) = .ok (.slice a' (L ++ [t]).length cp') W' ∧ SpI w W' a' cp' (L ++ [t]) a2 c2 R := by
  obtain ⟨a', cp', W', hrun, hrow, hn, k⟩ := appTm wr a1 c1 L t h.row1 hl
  have z := h.kp.size
  have hlt2 := h.row2.lt
  simp only [ownX] at hlt2
  refine ⟨a', cp', W', hrun, hrow, h.row2.kept k (fun x hx => by rw [ownX] at hx; exact fun h1 => h.dis x h1 hx), fun x hx => ?_, h.new2, fun x hx h2 => ?_, h.kp.trans k (fun x hx => .inr (h.new1 x hx))⟩
  · rcases hn x hx with e | e
    · exact h.new1 x e
    · omega
  · rcases hn x hx with e | e
    · exact h.dis x e h2
    · have := hlt2 x h2
      omega
/-- What Split hands back. -/
def SpP (m : Int) (l : List Tm) (w : World) (e : Ending) (w' : World) : Prop := ∃ (a1 : Option Addr) (c1 : Nat) (a2 : Option Addr) (c2 : Nat), e = .returned (.tuple #[.slice a1 (spL m l).length c1, .slice a2 (spR m l).length c2]) ∧ TmE.See w' a1 (spL m l) ∧ TmE.See w' a2 (spR m l) ∧ Kp [] w w'
set_option maxHeartbeats 8000000 in
set_option maxRecDepth 100000 in
theorem xSplit (a : Option Addr) (ca : Nat) (l : List Tm) (m : Int) (w : World) (ht : TmE.See w a l) (hl : l.length ≤ 2600000000000) (hm0 : 0 ≤ m) (hm1 : m ≤ 9223372036854775807) (hb : ∀ y ∈ l, -9223372036854775808 ≤ y.co ∧ y.co ≤ 9223372036854775807) : Calls Tryd.prog 17 #[.slice a l.length ca, .int .i64 m] w (SpP m l w) := by
  have HTm := hid ht
  have HB := hid hb
  clear ht hb
  go_enter Tryd.func17, Tryd.ntmps17
  go_wp2_with fail
  go_loopw [4, 5, 10] (fun lv rv iv wr => ∃ (j : Nat) (a1 : Option Addr) (c1 : Nat) (L : List Tm) (a2 : Option Addr) (c2 : Nat) (R : List Tm), j ≤ l.length ∧ iv = .int .i64 j ∧ lv = .slice a1 L.length c1 ∧ rv = .slice a2 R.length c2 ∧ Hid (L = spL m (l.take j)) ∧ Hid (R = spR m (l.take j)) ∧ Hid (SpI w wr a1 c1 L a2 c2 R)) (fun _ _ iv _ => l.length - (intOf iv).toNat)
  case atStart => exact ⟨0, none, 0, [], none, 0, [], Nat.zero_le _, rfl, rfl, rfl, hid (by simp [spL]), hid (by simp [spR]), hid ⟨.inl ⟨rfl, rfl⟩, .inl ⟨rfl, rfl⟩, by simp [blk], by simp [blk], by simp [blk], Kp.refl _ _⟩⟩
  case round =>
    obtain ⟨j, a1, c1, L, a2, c2, R, hj, rfl, rfl, rfl, hL, hR, hw⟩ := hrel
    by_cases hjl : j < l.length
    · have hx : l[j]? = some l[j] := by simp [hjl]
      obtain ⟨g, o, rfl, x0, x1, x2, x3, x4, x5⟩ := tmAt (HTm.out.keptNew hw.out.kp) hx
      have i1 : (0 : Int) ≤ (j : Int) := by omega
      have i2 : (j : Int) < (l.length : Int) := by omega
      have i3 : (j : Int) + 1 ≤ 9223372036854775807 := by omega
      have hy := hid (sp_yes m l j hjl)
      have hn := hid (sp_no m l j hjl)
      have hlL : L.length ≤ 2600000000000 := by rw [hL.out]; have := spL_len m (l.take j); rw [List.length_take] at this; omega
      have hlR : R.length ≤ 2600000000000 := by rw [hR.out]; have := spR_len m (l.take j); rw [List.length_take] at this; omega
      have hbt := HB.out _ (List.getElem_mem hjl)
      clear hx
      generalize l[j] = t at *
      obtain ⟨WA, eWA⟩ : ∃ Y, wr.alloc (.cells #[.int .i64 0, .int .i64 0, .int .i64 0, .bool false, .int .i64 0, .string ⟨#[]⟩] 32) = Y := ⟨_, rfl⟩
      have kWA : Kp [] wr WA := by rw [← eWA]; exact (Kp.refl _ _).alloc _
      have zWA : WA.heap.size = wr.heap.size + 1 := by rw [← eWA]; simp
      have xWA : Bn WA (wr.heap.size) [.int .i64 0, .int .i64 0, .int .i64 0, .bool false, .int .i64 0, .string ⟨#[]⟩] := by rw [← eWA]; exact Bn.new wr [.int .i64 0, .int .i64 0, .int .i64 0, .bool false, .int .i64 0, .string ⟨#[]⟩] 32
      obtain ⟨WB, eWB⟩ : ∃ Y, ((((((WA.setCell ⟨wr.heap.size, 0, none⟩ (.int .i64 t.co)).setCell ⟨wr.heap.size, 1, none⟩ (.int .i64 t.op)).setCell ⟨wr.heap.size, 2, none⟩ (.int .i64 t.x.k)).setCell ⟨wr.heap.size, 3, none⟩ (.bool t.x.b)).setCell ⟨wr.heap.size, 4, none⟩ (.int .i64 t.x.n)).setCell ⟨wr.heap.size, 5, none⟩ (.string t.x.t)) = Y := ⟨_, rfl⟩
      have kWB : Kp [wr.heap.size] WA WB := by rw [← eWB]; exact (((((((Kp.refl _ _).setCell (by simp) _).setCell (by simp) _).setCell (by simp) _).setCell (by simp) _).setCell (by simp) _).setCell (by simp) _)
      have xWB : Bn WB (wr.heap.size) [.int .i64 t.co, .int .i64 t.op, .int .i64 t.x.k, .bool t.x.b, .int .i64 t.x.n, .string t.x.t] := by rw [← eWB]; exact ((((((xWA.set 0 (by simp) (.int .i64 t.co)).set 1 (by simp) (.int .i64 t.op)).set 2 (by simp) (.int .i64 t.x.k)).set 3 (by simp) (.bool t.x.b)).set 4 (by simp) (.int .i64 t.x.n)).set 5 (by simp) (.string t.x.t))
      have zWB := kWB.size
      have ma0 := xWA.get 0 _ rfl; have ma1 := xWA.get 1 _ rfl; have ma2 := xWA.get 2 _ rfl; have ma3 := xWA.get 3 _ rfl; have ma4 := xWA.get 4 _ rfl; have ma5 := xWA.get 5 _ rfl
      have mf0 := xWA.free 0; have mf1 := xWA.free 1; have mf2 := xWA.free 2; have mf3 := xWA.free 3; have mf4 := xWA.free 4; have mf5 := xWA.free 5
      have pc0 := xWB.get 0 _ rfl; have pc1 := xWB.get 1 _ rfl; have pc2 := xWB.get 2 _ rfl; have pc3 := xWB.get 3 _ rfl; have pc4 := xWB.get 4 _ rfl; have pc5 := xWB.get 5 _ rfl
      have kB : Kp [] wr WB := kWA.trans kWB (fun x hx => .inr (by simp at hx; omega))
      have zB : wr.heap.size < WB.heap.size := by omega
      by_cases ht : t.co < m
      · have dt : decide (t.co < m) = true := by simpa using ht
        obtain ⟨eL, eR⟩ := hy.out ht
        obtain ⟨a', cp', W', hrun, hw2⟩ := (hw.out.keep kB).app1 t hlL
        rw [← hL.out] at eL
        rw [← hR.out] at eR
        obtain ⟨L2, hL2⟩ : ∃ L2, Hid (L ++ [t] = L2) := ⟨_, hid rfl⟩
        rw [hL2.out] at hrun hw2 eL
        have EL := hid eL.symm
        have ER := hid eR.symm
        have HW2 := hid hw2
        clear kWA kWB xWA xWB kB ht hy hn hL hR hw hL2 eL eR hw2 hbt hlL hlR zWA zWB
        obtain ⟨co, op, ⟨xk, xb, xn, xt⟩⟩ := t
        dsimp only at *
        go_wp2_with (first | (refine wpAppRunX rfl _ _ 23 23 rfl _ _ _ rfl rfl hrun ?_) | fail)
        exact ⟨⟨j + 1, a', cp', L2, a2, c2, R, by omega, by go_num, rfl, rfl, EL, ER, HW2⟩, by simp [intOf]; omega⟩
      · have dt : decide (t.co < m) = false := by simpa using ht
        obtain ⟨eL, eR⟩ := hn.out ht
        have pf := xWB.free 0
        obtain ⟨D, hD⟩ : ∃ D, t.co - m = D := ⟨_, rfl⟩
        have wD0 : (-9223372036854775808 : Int) ≤ t.co - m := by omega
        have wD1 : t.co - m ≤ 9223372036854775807 := by omega
        obtain ⟨WD, eWD⟩ : ∃ Y, WB.setCell ⟨wr.heap.size, 0, none⟩ (.int .i64 (t.co - m)) = Y := ⟨_, rfl⟩
        have kWD : Kp [wr.heap.size] WB WD := by rw [← eWD]; exact (Kp.refl _ _).setCell (by simp) _
        have xWD : Bn WD wr.heap.size [.int .i64 (t.co - m), .int .i64 t.op, .int .i64 t.x.k, .bool t.x.b, .int .i64 t.x.n, .string t.x.t] := by rw [← eWD]; exact xWB.set 0 (by simp) _
        have kD : Kp [] wr WD := kB.trans kWD (fun x hx => .inr (by simp at hx; omega))
        have zD := kWD.size
        have zD2 : wr.heap.size < WD.heap.size := by omega
        have pd0 := xWD.get 0 _ rfl; have pd1 := xWD.get 1 _ rfl; have pd2 := xWD.get 2 _ rfl; have pd3 := xWD.get 3 _ rfl; have pd4 := xWD.get 4 _ rfl; have pd5 := xWD.get 5 _ rfl
        obtain ⟨a', cp', W', hrun, hw2⟩ := (hw.out.keep kD).swap.app1 ⟨t.co - m, t.op, t.x⟩ hlR
        rw [← hL.out] at eL
        rw [← hR.out] at eR
        obtain ⟨R2, hR2⟩ : ∃ R2, Hid (R ++ [⟨t.co - m, t.op, t.x⟩] = R2) := ⟨_, hid rfl⟩
        rw [hR2.out] at hrun hw2 eR
        have EL := hid eL.symm
        have ER := hid eR.symm
        have HW2 := hid hw2.swap
        have hDD := hid hD
        clear kWA kWB xWA xWB kB ht hy hn hL hR hw hR2 eL eR hw2 hbt hlL hlR zWA zWB kWD xWD kD zD hD
        obtain ⟨co, op, ⟨xk, xb, xn, xt⟩⟩ := t
        dsimp only at *
        go_wp2_with (first | (refine wpAppRunX rfl _ _ 23 23 rfl _ _ _ rfl rfl hrun ?_) | fail)
        exact ⟨⟨j + 1, a1, c1, L, a', cp', R2, by omega, by go_num, rfl, rfl, EL, ER, HW2⟩, by simp [intOf]; omega⟩
    · have e : j = l.length := by omega
      subst e
      rw [List.take_length] at hL hR
      go_wp2_with fail
      go_returns
      obtain ⟨_, _, e1, h1, _⟩ := hw.out.row1.see
      cases e1
      obtain ⟨_, _, e2, h2, _⟩ := hw.out.row2.see
      cases e2
      exact ⟨a1, c1, a2, c2, by rw [← hL.out, ← hR.out]; rfl, by rw [← hL.out]; exact h1, by rw [← hR.out]; exact h2, hw.out.kp⟩
set_option maxHeartbeats 8000000 in
set_option maxRecDepth 100000 in
theorem rSplit (a : Option Addr) (ca : Nat) (l : List Tm) (m : Int) (w : World) (ht : TmE.See w a l) (hl : l.length ≤ 2600000000000) (hm0 : 0 ≤ m) (hm1 : m ≤ 9223372036854775807) (hb : ∀ y ∈ l, -9223372036854775808 ≤ y.co ∧ y.co ≤ 9223372036854775807) : Calls Tryd.prog 18 #[.slice a l.length ca, .int .i64 m] w (SpP m l w) := by
  have HTm := hid ht
  have HB := hid hb
  clear ht hb
  go_enter Tryd.func18, Tryd.ntmps18
  go_wp2_with fail
  go_loopw [6, 7, 8] (fun lv rv iv wr => ∃ (j : Nat) (a1 : Option Addr) (c1 : Nat) (L : List Tm) (a2 : Option Addr) (c2 : Nat) (R : List Tm), j ≤ l.length ∧ iv = .int .i64 j ∧ lv = .slice a1 L.length c1 ∧ rv = .slice a2 R.length c2 ∧ Hid (L = spL m (l.take j)) ∧ Hid (R = spR m (l.take j)) ∧ Hid (SpI w wr a1 c1 L a2 c2 R)) (fun _ _ iv _ => l.length - (intOf iv).toNat)
  case atStart => exact ⟨0, none, 0, [], none, 0, [], Nat.zero_le _, rfl, rfl, rfl, hid (by simp [spL]), hid (by simp [spR]), hid ⟨.inl ⟨rfl, rfl⟩, .inl ⟨rfl, rfl⟩, by simp [blk], by simp [blk], by simp [blk], Kp.refl _ _⟩⟩
  case round =>
    obtain ⟨j, a1, c1, L, a2, c2, R, hj, rfl, rfl, rfl, hL, hR, hw⟩ := hrel
    by_cases hjl : j < l.length
    · have hx : l[j]? = some l[j] := by simp [hjl]
      obtain ⟨g, o, rfl, x0, x1, x2, x3, x4, x5⟩ := tmAt (HTm.out.keptNew hw.out.kp) hx
      have i1 : (0 : Int) ≤ (j : Int) := by omega
      have i2 : (j : Int) < (l.length : Int) := by omega
      have i3 : (j : Int) + 1 ≤ 9223372036854775807 := by omega
      have hy := hid (sp_yes m l j hjl)
      have hn := hid (sp_no m l j hjl)
      have hlL : L.length ≤ 2600000000000 := by rw [hL.out]; have := spL_len m (l.take j); rw [List.length_take] at this; omega
      have hlR : R.length ≤ 2600000000000 := by rw [hR.out]; have := spR_len m (l.take j); rw [List.length_take] at this; omega
      have hbt := HB.out _ (List.getElem_mem hjl)
      clear hx
      generalize l[j] = t at *
      obtain ⟨WA, eWA⟩ : ∃ Y, wr.alloc (.cells #[.int .i64 0, .int .i64 0, .int .i64 0, .bool false, .int .i64 0, .string ⟨#[]⟩] 32) = Y := ⟨_, rfl⟩
      have kWA : Kp [] wr WA := by rw [← eWA]; exact (Kp.refl _ _).alloc _
      have zWA : WA.heap.size = wr.heap.size + 1 := by rw [← eWA]; simp
      have xWA : Bn WA (wr.heap.size) [.int .i64 0, .int .i64 0, .int .i64 0, .bool false, .int .i64 0, .string ⟨#[]⟩] := by rw [← eWA]; exact Bn.new wr [.int .i64 0, .int .i64 0, .int .i64 0, .bool false, .int .i64 0, .string ⟨#[]⟩] 32
      obtain ⟨WB, eWB⟩ : ∃ Y, ((((((WA.setCell ⟨wr.heap.size, 0, none⟩ (.int .i64 t.co)).setCell ⟨wr.heap.size, 1, none⟩ (.int .i64 t.op)).setCell ⟨wr.heap.size, 2, none⟩ (.int .i64 t.x.k)).setCell ⟨wr.heap.size, 3, none⟩ (.bool t.x.b)).setCell ⟨wr.heap.size, 4, none⟩ (.int .i64 t.x.n)).setCell ⟨wr.heap.size, 5, none⟩ (.string t.x.t)) = Y := ⟨_, rfl⟩
      have kWB : Kp [wr.heap.size] WA WB := by rw [← eWB]; exact (((((((Kp.refl _ _).setCell (by simp) _).setCell (by simp) _).setCell (by simp) _).setCell (by simp) _).setCell (by simp) _).setCell (by simp) _)
      have xWB : Bn WB (wr.heap.size) [.int .i64 t.co, .int .i64 t.op, .int .i64 t.x.k, .bool t.x.b, .int .i64 t.x.n, .string t.x.t] := by rw [← eWB]; exact ((((((xWA.set 0 (by simp) (.int .i64 t.co)).set 1 (by simp) (.int .i64 t.op)).set 2 (by simp) (.int .i64 t.x.k)).set 3 (by simp) (.bool t.x.b)).set 4 (by simp) (.int .i64 t.x.n)).set 5 (by simp) (.string t.x.t))
      have zWB := kWB.size
      have ma0 := xWA.get 0 _ rfl; have ma1 := xWA.get 1 _ rfl; have ma2 := xWA.get 2 _ rfl; have ma3 := xWA.get 3 _ rfl; have ma4 := xWA.get 4 _ rfl; have ma5 := xWA.get 5 _ rfl
      have mf0 := xWA.free 0; have mf1 := xWA.free 1; have mf2 := xWA.free 2; have mf3 := xWA.free 3; have mf4 := xWA.free 4; have mf5 := xWA.free 5
      have pc0 := xWB.get 0 _ rfl; have pc1 := xWB.get 1 _ rfl; have pc2 := xWB.get 2 _ rfl; have pc3 := xWB.get 3 _ rfl; have pc4 := xWB.get 4 _ rfl; have pc5 := xWB.get 5 _ rfl
      have kB : Kp [] wr WB := kWA.trans kWB (fun x hx => .inr (by simp at hx; omega))
      have zB : wr.heap.size < WB.heap.size := by omega
      by_cases ht : t.co < m
      · have dt : decide (t.co < m) = true := by simpa using ht
        obtain ⟨eL, eR⟩ := hy.out ht
        obtain ⟨a', cp', W', hrun, hw2⟩ := (hw.out.keep kB).app1 t hlL
        rw [← hL.out] at eL
        rw [← hR.out] at eR
        obtain ⟨L2, hL2⟩ : ∃ L2, Hid (L ++ [t] = L2) := ⟨_, hid rfl⟩
        rw [hL2.out] at hrun hw2 eL
        have EL := hid eL.symm
        have ER := hid eR.symm
        have HW2 := hid hw2
        clear kWA kWB xWA xWB kB ht hy hn hL hR hw hL2 eL eR hw2 hbt hlL hlR zWA zWB
        obtain ⟨co, op, ⟨xk, xb, xn, xt⟩⟩ := t
        dsimp only at *
        go_wp2_with (first | (refine wpAppRunX rfl _ _ 23 23 rfl _ _ _ rfl rfl hrun ?_) | fail)
        exact ⟨⟨j + 1, a', cp', L2, a2, c2, R, by omega, by go_num, rfl, rfl, EL, ER, HW2⟩, by simp [intOf]; omega⟩
      · have dt : decide (t.co < m) = false := by simpa using ht
        obtain ⟨eL, eR⟩ := hn.out ht
        have pf := xWB.free 0
        obtain ⟨D, hD⟩ : ∃ D, t.co - m = D := ⟨_, rfl⟩
        have wD0 : (-9223372036854775808 : Int) ≤ t.co - m := by omega
        have wD1 : t.co - m ≤ 9223372036854775807 := by omega
        obtain ⟨WD, eWD⟩ : ∃ Y, WB.setCell ⟨wr.heap.size, 0, none⟩ (.int .i64 (t.co - m)) = Y := ⟨_, rfl⟩
        have kWD : Kp [wr.heap.size] WB WD := by rw [← eWD]; exact (Kp.refl _ _).setCell (by simp) _
        have xWD : Bn WD wr.heap.size [.int .i64 (t.co - m), .int .i64 t.op, .int .i64 t.x.k, .bool t.x.b, .int .i64 t.x.n, .string t.x.t] := by rw [← eWD]; exact xWB.set 0 (by simp) _
        have kD : Kp [] wr WD := kB.trans kWD (fun x hx => .inr (by simp at hx; omega))
        have zD := kWD.size
        have zD2 : wr.heap.size < WD.heap.size := by omega
        have pd0 := xWD.get 0 _ rfl; have pd1 := xWD.get 1 _ rfl; have pd2 := xWD.get 2 _ rfl; have pd3 := xWD.get 3 _ rfl; have pd4 := xWD.get 4 _ rfl; have pd5 := xWD.get 5 _ rfl
        obtain ⟨a', cp', W', hrun, hw2⟩ := (hw.out.keep kD).swap.app1 ⟨t.co - m, t.op, t.x⟩ hlR
        rw [← hL.out] at eL
        rw [← hR.out] at eR
        obtain ⟨R2, hR2⟩ : ∃ R2, Hid (R ++ [⟨t.co - m, t.op, t.x⟩] = R2) := ⟨_, hid rfl⟩
        rw [hR2.out] at hrun hw2 eR
        have EL := hid eL.symm
        have ER := hid eR.symm
        have HW2 := hid hw2.swap
        have hDD := hid hD
        clear kWA kWB xWA xWB kB ht hy hn hL hR hw hR2 eL eR hw2 hbt hlL hlR zWA zWB kWD xWD kD zD hD
        obtain ⟨co, op, ⟨xk, xb, xn, xt⟩⟩ := t
        dsimp only at *
        go_wp2_with (first | (refine wpAppRunX rfl _ _ 23 23 rfl _ _ _ rfl rfl hrun ?_) | fail)
        exact ⟨⟨j + 1, a1, c1, L, a', cp', R2, by omega, by go_num, rfl, rfl, EL, ER, HW2⟩, by simp [intOf]; omega⟩
    · have e : j = l.length := by omega
      subst e
      rw [List.take_length] at hL hR
      go_wp2_with fail
      go_returns
      obtain ⟨_, _, e1, h1, _⟩ := hw.out.row1.see
      cases e1
      obtain ⟨_, _, e2, h2, _⟩ := hw.out.row2.see
      cases e2
      exact ⟨a1, c1, a2, c2, by rw [← hL.out, ← hR.out]; rfl, by rw [← hL.out]; exact h1, by rw [← hR.out]; exact h2, hw.out.kp⟩
end Go.Proofs.YtacoabmmhddbkaaDoor
end

section
namespace Go.Proofs.YtacoabmmhddbkaaDoor
open Go.RowKit Go.Hay
set_option linter.unusedVariables false
set_option linter.unusedSimpArgs false

theorem termT_left (t : Tm) (x y : List Val) (h0 : 0 ≤ t.co) (h1 : t.co < x.length) : termT t (x ++ y) = termT t x := by
  obtain ⟨i, hi⟩ := Int.eq_ofNat_of_zero_le h0
  have hl : i < x.length := by omega
  rw [termT_at t (x ++ y) i (by rw [List.length_append]; omega) hi, termT_at t x i hl hi, List.getElem_append_left hl]
theorem termT_right (t : Tm) (x y : List Val) (h1 : ¬ t.co < x.length) : termT t (x ++ y) = termT ⟨t.co - x.length, t.op, t.x⟩ y := by
  obtain ⟨i, hi⟩ := Int.eq_ofNat_of_zero_le (show 0 ≤ t.co by omega)
  have hl : x.length ≤ i := by omega
  by_cases h : i < x.length + y.length
  · rw [termT_at t (x ++ y) i (by rw [List.length_append]; omega) hi, termT_at ⟨t.co - x.length, t.op, t.x⟩ y (i - x.length) (by omega) (by show t.co - x.length = _; omega), List.getElem_append_right hl]
  · rw [termT_out t (x ++ y) (.inr (by rw [List.length_append]; omega)), termT_out _ y (.inr (by show _ ≤ t.co - x.length; omega))]
theorem split_all (x y : List Val) : ∀ l : List Tm, (spL x.length l).any (fun t => decide (t.co < 0)) = false → allT l (x ++ y) = (allT (spL x.length l) x && allT (spR x.length l) y)
  | [], _ => rfl
  | t :: l, h => by
    have ih := split_all x y l
    unfold allT spL spR at *
    by_cases ht : t.co < x.length
    · have d : decide (t.co < (x.length : Int)) = true := by simpa using ht
      simp only [List.filter_cons, d, if_true, List.any_cons, Bool.or_eq_false_iff, decide_eq_false_iff_not, Bool.not_true, if_neg (show ¬ (false = true) by simp)] at h ⊢
      rw [List.all_cons, List.all_cons, ih h.2, termT_left t x y (by omega) ht, Bool.and_assoc]
    · have d : decide (t.co < (x.length : Int)) = false := by simpa using ht
      simp only [List.filter_cons, d, Bool.not_false, if_true, if_neg (show ¬ (false = true) by simp)] at h ⊢
      rw [List.all_cons, List.map_cons, List.all_cons, ih h, termT_right t x y ht]
      generalize List.all _ _ = A
      generalize List.all _ _ = B
      generalize termT _ _ = C
      cases A <;> cases B <;> cases C <;> rfl
theorem neT (t : Tm) (w : World) : (binOp .neq 32 (.agg #[.int .i64 t.co, .int .i64 t.op, .int .i64 t.x.k, .bool t.x.b, .int .i64 t.x.n, .string t.x.t]) (.agg #[.int .i64 t.co, .int .i64 t.op, .int .i64 t.x.k, .bool t.x.b, .int .i64 t.x.n, .string t.x.t])).run Tryd.prog w = .ok (.bool false) w := by
  obtain ⟨co, op, ⟨k, b, n, s⟩⟩ := t
  rw [run_neq_struct, run_equalIn_agg (ht := by kernel_rfl) (hp := by kernel_rfl)]
  simp [go_sem]
end Go.Proofs.YtacoabmmhddbkaaDoor
end

section
namespace Go.Proofs.YtacoabmmhddbkaaDoor
open Go.RowKit Go.Hay
set_option linter.unusedVariables false
set_option linter.unusedSimpArgs false

set_option maxHeartbeats 16000000 in
set_option maxRecDepth 100000 in
theorem splitsWalk (a b c : Option Addr) (ca cb cc : Nat) (l : List Tm) (x y : List Val) (w : World) (hT : Asks w) (ht : TmE.See w a l) (hs : VE.See w b x) (hy : VE.See w c y) (hl : l.length ≤ 1048576) (hx : x.length ≤ 1048576) (hyl : y.length ≤ 1048576) (hnb : b = none → cb = 0) (hnc : c = none → cc = 0) (hb : ∀ y ∈ l, -9223372036854775808 ≤ y.co ∧ y.co ≤ 9223372036854775807) :
    Calls Tryd.prog 6 #[.slice a l.length ca, .slice b x.length cb, .slice c y.length cc] w fun e w' => e = .returned (.bool true) ∧ Below w.heap.size w w' := by
  have HTm := hid ht
  have HS := hid hs
  have HY := hid hy
  have HA := hid hT
  have hsp := hid (split_all x y l)
  have a1 := hid (xSplit a ca l (x.length : Int) w ht (by omega) (by omega) (by omega) hb)
  have a2 := hid (fun W' (k : Kp [] w W') => rSplit a ca l (x.length : Int) W' (HTm.out.keptNew k) (by omega) (by omega) (by omega) hb)
  have hL1 := spL_len (x.length : Int) l
  have hL2 := spR_len (x.length : Int) l
  clear ht hs hy hT hb
  generalize hLL : spL (x.length : Int) l = L at *
  generalize hRR : spR (x.length : Int) l = R at *
  unfold SpP at a1 a2
  rw [hLL, hRR] at a1
  simp only [hLL, hRR] at a2
  clear hLL hRR
  go_enter Tryd.func6, Tryd.ntmps6
  go_wp2_with fail
  refine a1.out.mono ?_
  rintro e w1 ⟨pa, pc, qa, qc, rfl, p1, q1, k1⟩
  have P1 := hid p1
  have Q1 := hid q1
  have K1 := hid k1
  clear p1 q1 k1 a1
  go_wp2_with fail
  refine (a2.out _ K1.out).mono ?_
  rintro e w2 ⟨ra, rc, sa, sc, rfl, p2, q2, k2⟩
  have R1 := hid p2
  have S1 := hid q2
  have P2 := hid (P1.out.keptNew k2)
  have Q2 := hid (Q1.out.keptNew k2)
  have K2 := hid (K1.out.trans k2 (by simp))
  clear p2 q2 k2 a2 P1 Q1 K1
  have aV := hid (cAliveX w2 (HA.out.kept K2.out (by simp)))
  go_wp2_with fail
  refine aV.out.mono ?_
  rintro e w3 ⟨rfl, k3⟩
  have P3 := hid (P2.out.keptNew k3)
  have Q3 := hid (Q2.out.keptNew k3)
  have R3 := hid (R1.out.keptNew k3)
  have S3 := hid (S1.out.keptNew k3)
  have K3 := hid (K2.out.trans k3 (by simp))
  clear k3 aV P2 Q2 R1 S1 K2
  go_wp2_with fail
  go_loopw [11, 47] (fun sv iv wr => ∃ (j : Nat) (s : Bool), j ≤ L.length ∧ iv = .int .i64 j ∧ sv = .bool s ∧ Hid (s = (L.take j).any (fun t => decide (t.co < 0))) ∧ Kp [] w3 wr) (fun _ iv _ => L.length - (intOf iv).toNat)
  case atStart => exact ⟨0, false, Nat.zero_le _, rfl, rfl, hid rfl, Kp.refl _ _⟩
  case round =>
    obtain ⟨j, s, hj, rfl, rfl, hst, kr⟩ := hrel
    by_cases hjl : j < L.length
    · have hx : L[j]? = some L[j] := by simp [hjl]
      obtain ⟨g1, o1, e1, x0, x1, x2, x3, x4, x5⟩ := tmAt (P3.out.keptNew kr) hx
      obtain ⟨g2, o2, e2, y0, y1, y2, y3, y4, y5⟩ := tmAt (R3.out.keptNew kr) hx
      have i1 : (0 : Int) ≤ (j : Int) := by omega
      have i2 : (j : Int) < (L.length : Int) := by omega
      have i3 : (j : Int) + 1 ≤ 9223372036854775807 := by omega
      have hne := neT L[j]
      have hsu : Hid ((L.take (j + 1)).any (fun t => decide (t.co < 0)) = (s || decide (L[j].co < 0))) := by
        show _ = _
        rw [List.take_succ_eq_append_getElem hjl, List.any_append, ← hst.out]
        simp
      clear hx
      generalize L[j] = t at *
      subst e1 e2
      obtain ⟨co, op, ⟨xk, xb, xn, xt⟩⟩ := t
      dsimp only at *
      have hF : Hid (∀ W', Kp [] wr W' → (W'.cell? ⟨g1, o1 + j * 6, none⟩ = some (.int .i64 co) ∧ W'.cell? ⟨g1, o1 + j * 6 + 1, none⟩ = some (.int .i64 op) ∧ W'.cell? ⟨g1, o1 + j * 6 + 2, none⟩ = some (.int .i64 xk) ∧ W'.cell? ⟨g1, o1 + j * 6 + 3, none⟩ = some (.bool xb) ∧ W'.cell? ⟨g1, o1 + j * 6 + 4, none⟩ = some (.int .i64 xn) ∧ W'.cell? ⟨g1, o1 + j * 6 + 5, none⟩ = some (.string xt) ∧ W'.cell? ⟨g2, o2 + j * 6, none⟩ = some (.int .i64 co) ∧ W'.cell? ⟨g2, o2 + j * 6 + 1, none⟩ = some (.int .i64 op) ∧ W'.cell? ⟨g2, o2 + j * 6 + 2, none⟩ = some (.int .i64 xk) ∧ W'.cell? ⟨g2, o2 + j * 6 + 3, none⟩ = some (.bool xb) ∧ W'.cell? ⟨g2, o2 + j * 6 + 4, none⟩ = some (.int .i64 xn) ∧ W'.cell? ⟨g2, o2 + j * 6 + 5, none⟩ = some (.string xt))) := fun W' k => ⟨kpAt k x0, kpAt k x1, kpAt k x2, kpAt k x3, kpAt k x4, kpAt k x5, kpAt k y0, kpAt k y1, kpAt k y2, kpAt k y3, kpAt k y4, kpAt k y5⟩
      have KR := hid kr
      have X0 := hid x0
      clear kr x0 x1 x2 x3 x4 x5 y0 y1 y2 y3 y4 y5
      go_wp2_with fail
      refine wp_region_held_drew (S := fun W' => W'.cell? ⟨g1, o1 + j * 6, none⟩ = some (.int .i64 co) ∧ W'.cell? ⟨g1, o1 + j * 6 + 1, none⟩ = some (.int .i64 op) ∧ W'.cell? ⟨g1, o1 + j * 6 + 2, none⟩ = some (.int .i64 xk) ∧ W'.cell? ⟨g1, o1 + j * 6 + 3, none⟩ = some (.bool xb) ∧ W'.cell? ⟨g1, o1 + j * 6 + 4, none⟩ = some (.int .i64 xn) ∧ W'.cell? ⟨g1, o1 + j * 6 + 5, none⟩ = some (.string xt) ∧ W'.cell? ⟨g2, o2 + j * 6, none⟩ = some (.int .i64 co) ∧ W'.cell? ⟨g2, o2 + j * 6 + 1, none⟩ = some (.int .i64 op) ∧ W'.cell? ⟨g2, o2 + j * 6 + 2, none⟩ = some (.int .i64 xk) ∧ W'.cell? ⟨g2, o2 + j * 6 + 3, none⟩ = some (.bool xb) ∧ W'.cell? ⟨g2, o2 + j * 6 + 4, none⟩ = some (.int .i64 xn) ∧ W'.cell? ⟨g2, o2 + j * 6 + 5, none⟩ = some (.string xt)) (by kernel_rfl) ?_ (fun hHeld => ?_)
      · exact hF.out _ (Kp.refl _ _).drew
      have KD : Hid (Kp [] wr wr.drew) := hid (Kp.refl _ _).drew
      generalize wr.drew = Wd at *
      refine wpAnyH_take (i := 0) (v := ?_) rfl (by kernel_rfl) (by kernel_rfl) (by kernel_rfl) (fun _ _ _ h => h) (Or.inl ⟨by rfl, ?_⟩) (by assumption) ?_
      rotate_left
      · intro w hSw; (try dsimp only at hSw); go_simp <;> with_reducible rfl
      try simp only [Act.put, List.getElem_toArray, List.getElem_cons_zero, List.getElem_cons_succ, List.setIfInBounds_toArray, List.set_cons_zero, List.set_cons_succ]
      refine wpAnyH_take (i := 1) (v := ?_) rfl (by kernel_rfl) (by kernel_rfl) (by kernel_rfl) (fun _ _ _ h => h) (Or.inl ⟨by rfl, ?_⟩) (by assumption) ?_
      rotate_left
      · intro w hSw; (try dsimp only at hSw); go_simp <;> with_reducible rfl
      try simp only [Act.put, List.getElem_toArray, List.getElem_cons_zero, List.getElem_cons_succ, List.setIfInBounds_toArray, List.set_cons_zero, List.set_cons_succ]
      refine wpAnyH_take (i := 2) (v := ?_) rfl (by kernel_rfl) (by kernel_rfl) (by kernel_rfl) (fun _ _ _ h => h) (Or.inl ⟨by rfl, ?_⟩) (by assumption) ?_
      rotate_left
      · intro w hSw; (try dsimp only at hSw); go_simp <;> with_reducible rfl
      try simp only [Act.put, List.getElem_toArray, List.getElem_cons_zero, List.getElem_cons_succ, List.setIfInBounds_toArray, List.set_cons_zero, List.set_cons_succ]
      refine wpAnyH_take (i := 3) (v := ?_) rfl (by kernel_rfl) (by kernel_rfl) (by kernel_rfl) (fun _ _ _ h => h) (Or.inl ⟨by rfl, ?_⟩) (by assumption) ?_
      rotate_left
      · intro w hSw; (try dsimp only at hSw); go_simp <;> with_reducible rfl
      try simp only [Act.put, List.getElem_toArray, List.getElem_cons_zero, List.getElem_cons_succ, List.setIfInBounds_toArray, List.set_cons_zero, List.set_cons_succ]
      refine wpAnyH_take (i := 4) (v := ?_) rfl (by kernel_rfl) (by kernel_rfl) (by kernel_rfl) (fun _ _ _ h => h) (Or.inl ⟨by rfl, ?_⟩) (by assumption) ?_
      rotate_left
      · intro w hSw; (try dsimp only at hSw); go_simp <;> with_reducible rfl
      try simp only [Act.put, List.getElem_toArray, List.getElem_cons_zero, List.getElem_cons_succ, List.setIfInBounds_toArray, List.set_cons_zero, List.set_cons_succ]
      refine wpAnyH_take (i := 5) (v := ?_) rfl (by kernel_rfl) (by kernel_rfl) (by kernel_rfl) (fun _ _ _ h => h) (Or.inl ⟨by rfl, ?_⟩) (by assumption) ?_
      rotate_left
      · intro w hSw; (try dsimp only at hSw); go_simp <;> with_reducible rfl
      try simp only [Act.put, List.getElem_toArray, List.getElem_cons_zero, List.getElem_cons_succ, List.setIfInBounds_toArray, List.set_cons_zero, List.set_cons_succ]
      refine wpAnyH_take (i := 6) (v := ?_) rfl (by kernel_rfl) (by kernel_rfl) (by kernel_rfl) (fun _ _ _ h => h) (Or.inl ⟨by rfl, ?_⟩) (by assumption) ?_
      rotate_left
      · intro w hSw; (try dsimp only at hSw); go_simp <;> with_reducible rfl
      try simp only [Act.put, List.getElem_toArray, List.getElem_cons_zero, List.getElem_cons_succ, List.setIfInBounds_toArray, List.set_cons_zero, List.set_cons_succ]
      refine wpAnyH_take (i := 7) (v := ?_) rfl (by kernel_rfl) (by kernel_rfl) (by kernel_rfl) (fun _ _ _ h => h) (Or.inl ⟨by rfl, ?_⟩) (by assumption) ?_
      rotate_left
      · intro w hSw; (try dsimp only at hSw); go_simp <;> with_reducible rfl
      try simp only [Act.put, List.getElem_toArray, List.getElem_cons_zero, List.getElem_cons_succ, List.setIfInBounds_toArray, List.set_cons_zero, List.set_cons_succ]
      refine wpAnyH_take (i := 8) (v := ?_) rfl (by kernel_rfl) (by kernel_rfl) (by kernel_rfl) (fun _ _ _ h => h) (Or.inl ⟨by rfl, ?_⟩) (by assumption) ?_
      rotate_left
      · intro w hSw; (try dsimp only at hSw); go_simp <;> with_reducible rfl
      try simp only [Act.put, List.getElem_toArray, List.getElem_cons_zero, List.getElem_cons_succ, List.setIfInBounds_toArray, List.set_cons_zero, List.set_cons_succ]
      refine wpAnyH_done (by kernel_rfl) ?_ _
      clear hHeld
      have x0 := kpAt KD.out X0.out
      have KW := hid (KR.out.trans KD.out (by simp))
      clear KD KR X0 hF hne
      cases s with
      | true =>
        go_wp2_with fail
        exact ⟨⟨j + 1, true, by omega, by go_num, rfl, hid (by rw [hsu.out]; rfl), KW.out⟩, by simp [intOf]; omega⟩
      | false =>
        go_wp2_with fail
        exact ⟨⟨j + 1, decide (co < 0), by omega, by go_num, by simp, hid (by rw [hsu.out]; rfl), KW.out⟩, by simp [intOf]; omega⟩
    · have e : j = L.length := by omega
      subst e
      rw [List.take_length] at hst
      have Q4 := hid (Q3.out.keptNew kr)
      have S4 := hid (S3.out.keptNew kr)
      have P4 := hid (P3.out.keptNew kr)
      have K4 := hid (K3.out.trans kr (by simp))
      clear kr Q3 S3 R3 P3 K3
      go_wp2_with fail
      go_loopw [71] (fun iv wn => ∃ (j : Nat), j ≤ R.length ∧ iv = .int .i64 j ∧ Kp [] wr wn) (fun iv _ => R.length - (intOf iv).toNat)
      case atStart => exact ⟨0, Nat.zero_le _, rfl, Kp.refl _ _⟩
      case round =>
        obtain ⟨j, hj, rfl, kr⟩ := hrel
        by_cases hjl : j < R.length
        · have hx : R[j]? = some R[j] := by simp [hjl]
          obtain ⟨g1, o1, e1, x0, x1, x2, x3, x4, x5⟩ := tmAt (Q4.out.keptNew kr) hx
          obtain ⟨g2, o2, e2, y0, y1, y2, y3, y4, y5⟩ := tmAt (S4.out.keptNew kr) hx
          have i1 : (0 : Int) ≤ (j : Int) := by omega
          have i2 : (j : Int) < (R.length : Int) := by omega
          have i3 : (j : Int) + 1 ≤ 9223372036854775807 := by omega
          have hne := neT R[j]
          clear hx
          generalize R[j] = t at *
          subst e1 e2
          obtain ⟨co, op, ⟨xk, xb, xn, xt⟩⟩ := t
          dsimp only at *
          have KR := hid kr
          have hF : Hid (∀ W', Kp [] wr W' → (W'.cell? ⟨g1, o1 + j * 6, none⟩ = some (.int .i64 co) ∧ W'.cell? ⟨g1, o1 + j * 6 + 1, none⟩ = some (.int .i64 op) ∧ W'.cell? ⟨g1, o1 + j * 6 + 2, none⟩ = some (.int .i64 xk) ∧ W'.cell? ⟨g1, o1 + j * 6 + 3, none⟩ = some (.bool xb) ∧ W'.cell? ⟨g1, o1 + j * 6 + 4, none⟩ = some (.int .i64 xn) ∧ W'.cell? ⟨g1, o1 + j * 6 + 5, none⟩ = some (.string xt) ∧ W'.cell? ⟨g2, o2 + j * 6, none⟩ = some (.int .i64 co) ∧ W'.cell? ⟨g2, o2 + j * 6 + 1, none⟩ = some (.int .i64 op) ∧ W'.cell? ⟨g2, o2 + j * 6 + 2, none⟩ = some (.int .i64 xk) ∧ W'.cell? ⟨g2, o2 + j * 6 + 3, none⟩ = some (.bool xb) ∧ W'.cell? ⟨g2, o2 + j * 6 + 4, none⟩ = some (.int .i64 xn) ∧ W'.cell? ⟨g2, o2 + j * 6 + 5, none⟩ = some (.string xt))) := fun W' k => ⟨kpAt k x0, kpAt k x1, kpAt k x2, kpAt k x3, kpAt k x4, kpAt k x5, kpAt k y0, kpAt k y1, kpAt k y2, kpAt k y3, kpAt k y4, kpAt k y5⟩
          clear kr x0 x1 x2 x3 x4 x5 y0 y1 y2 y3 y4 y5
          go_wp2_with fail
          refine wp_region_held_drew (S := fun W' => W'.cell? ⟨g1, o1 + j * 6, none⟩ = some (.int .i64 co) ∧ W'.cell? ⟨g1, o1 + j * 6 + 1, none⟩ = some (.int .i64 op) ∧ W'.cell? ⟨g1, o1 + j * 6 + 2, none⟩ = some (.int .i64 xk) ∧ W'.cell? ⟨g1, o1 + j * 6 + 3, none⟩ = some (.bool xb) ∧ W'.cell? ⟨g1, o1 + j * 6 + 4, none⟩ = some (.int .i64 xn) ∧ W'.cell? ⟨g1, o1 + j * 6 + 5, none⟩ = some (.string xt) ∧ W'.cell? ⟨g2, o2 + j * 6, none⟩ = some (.int .i64 co) ∧ W'.cell? ⟨g2, o2 + j * 6 + 1, none⟩ = some (.int .i64 op) ∧ W'.cell? ⟨g2, o2 + j * 6 + 2, none⟩ = some (.int .i64 xk) ∧ W'.cell? ⟨g2, o2 + j * 6 + 3, none⟩ = some (.bool xb) ∧ W'.cell? ⟨g2, o2 + j * 6 + 4, none⟩ = some (.int .i64 xn) ∧ W'.cell? ⟨g2, o2 + j * 6 + 5, none⟩ = some (.string xt)) (by kernel_rfl) ?_ (fun hHeld => ?_)
          · exact hF.out _ (Kp.refl _ _).drew
          have KD : Hid (Kp [] wr wr.drew) := hid (Kp.refl _ _).drew
          generalize wr.drew = Wd at *
          refine wpAnyH_take (i := 0) (v := ?_) rfl (by kernel_rfl) (by kernel_rfl) (by kernel_rfl) (fun _ _ _ h => h) (Or.inl ⟨by rfl, ?_⟩) (by assumption) ?_
          rotate_left
          · intro w hSw; (try dsimp only at hSw); go_simp <;> with_reducible rfl
          try simp only [Act.put, List.getElem_toArray, List.getElem_cons_zero, List.getElem_cons_succ, List.setIfInBounds_toArray, List.set_cons_zero, List.set_cons_succ]
          refine wpAnyH_take (i := 1) (v := ?_) rfl (by kernel_rfl) (by kernel_rfl) (by kernel_rfl) (fun _ _ _ h => h) (Or.inl ⟨by rfl, ?_⟩) (by assumption) ?_
          rotate_left
          · intro w hSw; (try dsimp only at hSw); go_simp <;> with_reducible rfl
          try simp only [Act.put, List.getElem_toArray, List.getElem_cons_zero, List.getElem_cons_succ, List.setIfInBounds_toArray, List.set_cons_zero, List.set_cons_succ]
          refine wpAnyH_take (i := 2) (v := ?_) rfl (by kernel_rfl) (by kernel_rfl) (by kernel_rfl) (fun _ _ _ h => h) (Or.inl ⟨by rfl, ?_⟩) (by assumption) ?_
          rotate_left
          · intro w hSw; (try dsimp only at hSw); go_simp <;> with_reducible rfl
          try simp only [Act.put, List.getElem_toArray, List.getElem_cons_zero, List.getElem_cons_succ, List.setIfInBounds_toArray, List.set_cons_zero, List.set_cons_succ]
          refine wpAnyH_take (i := 3) (v := ?_) rfl (by kernel_rfl) (by kernel_rfl) (by kernel_rfl) (fun _ _ _ h => h) (Or.inl ⟨by rfl, ?_⟩) (by assumption) ?_
          rotate_left
          · intro w hSw; (try dsimp only at hSw); go_simp <;> with_reducible rfl
          try simp only [Act.put, List.getElem_toArray, List.getElem_cons_zero, List.getElem_cons_succ, List.setIfInBounds_toArray, List.set_cons_zero, List.set_cons_succ]
          refine wpAnyH_take (i := 4) (v := ?_) rfl (by kernel_rfl) (by kernel_rfl) (by kernel_rfl) (fun _ _ _ h => h) (Or.inl ⟨by rfl, ?_⟩) (by assumption) ?_
          rotate_left
          · intro w hSw; (try dsimp only at hSw); go_simp <;> with_reducible rfl
          try simp only [Act.put, List.getElem_toArray, List.getElem_cons_zero, List.getElem_cons_succ, List.setIfInBounds_toArray, List.set_cons_zero, List.set_cons_succ]
          refine wpAnyH_take (i := 5) (v := ?_) rfl (by kernel_rfl) (by kernel_rfl) (by kernel_rfl) (fun _ _ _ h => h) (Or.inl ⟨by rfl, ?_⟩) (by assumption) ?_
          rotate_left
          · intro w hSw; (try dsimp only at hSw); go_simp <;> with_reducible rfl
          try simp only [Act.put, List.getElem_toArray, List.getElem_cons_zero, List.getElem_cons_succ, List.setIfInBounds_toArray, List.set_cons_zero, List.set_cons_succ]
          refine wpAnyH_take (i := 6) (v := ?_) rfl (by kernel_rfl) (by kernel_rfl) (by kernel_rfl) (fun _ _ _ h => h) (Or.inl ⟨by rfl, ?_⟩) (by assumption) ?_
          rotate_left
          · intro w hSw; (try dsimp only at hSw); go_simp <;> with_reducible rfl
          try simp only [Act.put, List.getElem_toArray, List.getElem_cons_zero, List.getElem_cons_succ, List.setIfInBounds_toArray, List.set_cons_zero, List.set_cons_succ]
          refine wpAnyH_take (i := 7) (v := ?_) rfl (by kernel_rfl) (by kernel_rfl) (by kernel_rfl) (fun _ _ _ h => h) (Or.inl ⟨by rfl, ?_⟩) (by assumption) ?_
          rotate_left
          · intro w hSw; (try dsimp only at hSw); go_simp <;> with_reducible rfl
          try simp only [Act.put, List.getElem_toArray, List.getElem_cons_zero, List.getElem_cons_succ, List.setIfInBounds_toArray, List.set_cons_zero, List.set_cons_succ]
          refine wpAnyH_take (i := 8) (v := ?_) rfl (by kernel_rfl) (by kernel_rfl) (by kernel_rfl) (fun _ _ _ h => h) (Or.inl ⟨by rfl, ?_⟩) (by assumption) ?_
          rotate_left
          · intro w hSw; (try dsimp only at hSw); go_simp <;> with_reducible rfl
          try simp only [Act.put, List.getElem_toArray, List.getElem_cons_zero, List.getElem_cons_succ, List.setIfInBounds_toArray, List.set_cons_zero, List.set_cons_succ]
          refine wpAnyH_done (by kernel_rfl) ?_ _
          clear hHeld
          have KW := hid (KR.out.trans KD.out (by simp))
          clear KD KR hF hne
          go_wp2_with fail
          exact ⟨⟨j + 1, by omega, by go_num, KW.out⟩, by simp [intOf]; omega⟩
        · have e : j = R.length := by omega
          subst e
          have Q5 := hid (Q4.out.keptNew kr)
          have P5 := hid (P4.out.keptNew kr)
          have K5 := hid (K4.out.trans kr (by simp))
          clear kr Q4 S4 P4 K4
          have vb := hid (seeV.1 (HS.out.keptNew K5.out))
          have vc := hid (seeV.1 (HY.out.keptNew K5.out))
          go_wp2_with (at_builtin; refine wpAppendV rfl _ _ rfl wr (.slice (some ⟨wr.heap.size, 0, none⟩) 0 0) [] rfl (RowV.fresh (Nat.le_refl _)) b x.length cb x rfl rfl (vb.out.kept ((Kp.refl _ _).alloc _)) hnb (by simp; omega) ((Kp.refl _ _).alloc _) ?_)
          intro v1 u1 r1 kk1
          have r1 : RowV wr u1 v1 x := r1
          go_wp2_with (at_builtin; refine wpAppendV rfl _ _ rfl wr v1 x rfl r1 c y.length cc y rfl rfl (vc.out.kept kk1) hnc (by omega) kk1 ?_)
          intro v2 u2 r2 kk2
          obtain ⟨a3, c3, rfl, hv3, hc3, hm3⟩ := r2.vals
          obtain ⟨m, Hm⟩ : ∃ m : List Val, Hid (x ++ y = m) := ⟨_, show x ++ y = _ from rfl⟩
          have hml : m.length ≤ 2097152 := by rw [← Hm.out, List.length_append]; omega
          rw [Hm.out] at hsp hv3 hc3 ⊢
          have K6 := hid (K5.out.trans kk2 (by simp))
          have P6 := hid (P5.out.keptNew kk2)
          have Q6 := hid (Q5.out.keptNew kk2)
          have V6 := hid (seeV.2 hv3)
          clear r1 kk1 r2 kk2 Hm hm3 hv3 hc3 vb vc P5 Q5 K5
          have b1 := hid (xAll a a3 ca c3 l m u2 (HA.out.kept K6.out (by simp)) (HTm.out.keptNew K6.out) V6.out (by omega) (by omega))
          have b2 := hid (fun W' (k : Kp [] u2 W') => xAll pa b pc cb L x W' ((HA.out.kept K6.out (by simp)).kept k (by simp)) (P6.out.keptNew k) ((HS.out.keptNew K6.out).keptNew k) (by omega) (by omega))
          have b3 := hid (fun W' (k : Kp [] u2 W') => xAll qa c qc cc R y W' ((HA.out.kept K6.out (by simp)).kept k (by simp)) (Q6.out.keptNew k) ((HY.out.keptNew K6.out).keptNew k) (by omega) (by omega))
          cases s with
          | true =>
            go_wp2_with fail
            go_ret
            exact ⟨rfl, K6.out.below⟩
          | false =>
            have hsp2 := hid (hsp.out hst.out.symm)
            generalize allT l m = A1 at *
            generalize allT L x = A2 at *
            generalize allT R y = A3 at *
            clear hsp hst
            go_wp2_with fail
            refine b1.out.mono ?_
            rintro e n1 ⟨rfl, j1⟩
            have J1 := hid j1
            clear j1
            go_wp2_with fail
            refine (b2.out _ J1.out).mono ?_
            rintro e n2 ⟨rfl, j2⟩
            have J2 := hid (J1.out.trans j2 (by simp))
            clear j2
            cases A2 with
            | false =>
              have h1 : Hid (A1 = false) := hid (by rw [hsp2.out]; rfl)
              have h2 : (A1 == false) = true := by rw [h1.out]; rfl
              clear hsp2
              go_wp2_with fail
              go_ret
              exact ⟨by first | rfl | (rw [h1.out]; rfl), (K6.out.trans J2.out (by simp)).below⟩
            | true =>
              have h1 : Hid (A1 = A3) := hid (by rw [hsp2.out]; rfl)
              clear hsp2
              go_wp2_with fail
              refine (b3.out _ J2.out).mono ?_
              rintro e n3 ⟨rfl, j3⟩
              have J3 := hid (J2.out.trans j3 (by simp))
              clear j3
              go_wp2_with fail
              go_ret
              exact ⟨by rw [h1.out]; simp, (K6.out.trans J3.out (by simp)).below⟩
end Go.Proofs.YtacoabmmhddbkaaDoor
end

section
namespace Go.Proofs.YtacoabmmhddbkaaDoor
open Go.ChangeShapes Go.WideShapes Go.ChangeAt Go.RowKit Go.Hay
set_option linter.unusedVariables false

set_option maxRecDepth 100000 in
theorem exprSplitsContract (H : Type) (enc : TypeId × Value → H) (W : World) (base : Nat) (args : Array Value) (ds gs : List (DataW H)) (before : List MemPlace)
    (hval : ∀ (j : Nat) t v, Tryd.f6.params[j]? = some t → args[j]? = some v → Value.okWide Tryd.prog W .any base t v)
    (hW : DataW.Whole enc Tryd.prog Tryd.f6.params.toList Rows.exprSplitsSpec.vars false W args.toList ds gs before)
    (hsz : (DataW.weightsEach Tryd.prog (Tryd.f6.params.toList ++ (Rows.OpenSpec.upto Rows.exprSplitsSpec).bare.plain.varTypes Tryd.prog) (ds ++ gs)).all (· ≤ reachBytes) = true)
    (hk : Rows.uptoSmall H (ds ++ gs) = true)
    (hL : laidMetH Tryd.prog Rows.exprSplitsUptoRow.laid W) :
    Calls Tryd.prog 6 args W fun e W' => ∃ v, e = .returned v ∧ Rows.exprSplitsSpec.post enc Tryd.prog Tryd.f6 false true false false W args v W' := by
  have hW' := hW
  obtain ⟨p, q, hA0, hV, rfl, hfz, hnd⟩ := hW
  have hA : DataW.TrodAll enc Tryd.prog W 0 (fun _ => true) true Tryd.f6.params.toList args.toList ds p := hA0
  rw [Tryd.params6] at hA hval hsz
  obtain ⟨v0, vs0, d0, ds0, p0, q0, hargs, rfl, rfl, h0, r0⟩ := trodAll_cons hA
  obtain ⟨v1, vs1, d1, ds1, p1, q1, rfl, rfl, rfl, h1, r1⟩ := trodAll_cons r0
  obtain ⟨v2, vs2, d2, ds2, p2, q2, rfl, rfl, rfl, h2, r2⟩ := trodAll_cons r1
  obtain ⟨rfl, rfl, rfl⟩ := trodAll_nil r2
  obtain rfl : args = #[v0, v1, v2] := by cases args; simp_all
  obtain ⟨rfl, rfl⟩ := trodVars_none hV
  obtain ⟨a0, len0, cap0, rfl⟩ := okWide_slice Tryd.underlying23 (hval 0 23 v0 rfl rfl)
  have k0 := h0
  have lt0 : ∀ x ∈ p0, x.block < W.heap.size := by obtain ⟨m, hm⟩ := k0; exact DataW.trod_lt m _ _ _ hm
  obtain ⟨l0, rfl, hs0, hok0, hl0, hm0, hn0, hfit0, hbk0, hcp0⟩ := openTerms h0
  obtain ⟨hc0, hq0⟩ := hfit0 (List.all_eq_true.2 fun x hx => List.all_eq_true.1 hsz x (by simp [DataW.weightsEach]; first | exact .inl hx | exact .inr hx | exact .inr (.inl hx) | exact .inr (.inr hx) | exact hx))
  obtain ⟨a1, len1, cap1, rfl⟩ := okWide_slice Tryd.underlying28 (hval 1 28 v1 rfl rfl)
  have k1 := h1
  have lt1 : ∀ x ∈ p1, x.block < W.heap.size := by obtain ⟨m, hm⟩ := k1; exact DataW.trod_lt m _ _ _ hm
  obtain ⟨l1, rfl, hs1, hok1, hl1, hm1, hn1, hfit1, hbk1, hcp1⟩ := openXv h1
  obtain ⟨hc1, hq1⟩ := hfit1 (List.all_eq_true.2 fun x hx => List.all_eq_true.1 hsz x (by simp [DataW.weightsEach]; first | exact .inl hx | exact .inr hx | exact .inr (.inl hx) | exact .inr (.inr hx) | exact hx))
  obtain ⟨a2, len2, cap2, rfl⟩ := okWide_slice Tryd.underlying28 (hval 2 28 v2 rfl rfl)
  have k2 := h2
  have lt2 : ∀ x ∈ p2, x.block < W.heap.size := by obtain ⟨m, hm⟩ := k2; exact DataW.trod_lt m _ _ _ hm
  obtain ⟨l2, rfl, hs2, hok2, hl2, hm2, hn2, hfit2, hbk2, hcp2⟩ := openXv h2
  obtain ⟨hc2, hq2⟩ := hfit2 (List.all_eq_true.2 fun x hx => List.all_eq_true.1 hsz x (by simp [DataW.weightsEach]; first | exact .inl hx | exact .inr hx | exact .inr (.inl hx) | exact .inr (.inr hx) | exact hx))
  have hbk := of_decide_eq_true hk
  simp only [List.append_nil, Rows.uptoBulkAll] at hbk
  clear hA0
  refine (splitsWalk a0 a1 a2 cap0 cap1 cap2 l0 l1 l2 W (table hL) hs0 hs1 hs2 (by omega) (by omega) (by omega) hn1 hn2 hok0).mono fun e W' ⟨he, bel⟩ => ?_
  subst he
  exact ⟨_, rfl, _, _, _, [], _, [], hW', trodAll_mk1 (shut_bool Tryd.underlying4 _), (trodAll_cons_mk (Below.trod Tryd.laidOut (by kernel_rfl) (of_decide_eq_true (by kernel_rfl)) k0 bel lt0) (trodAll_cons_mk (Below.trod Tryd.laidOut (by kernel_rfl) (of_decide_eq_true (by kernel_rfl)) k1 bel lt1) (trodAll_cons_mk (Below.trod Tryd.laidOut (by kernel_rfl) (of_decide_eq_true (by kernel_rfl)) k2 bel lt2) trodAll_mk0))), rfl, bel.frame _, fun h => by cases h⟩

set_option maxRecDepth 100000 in
theorem exprSplitsLifted (os : Os) (started : os.Started) (H : Type) (enc : TypeId × Value → H) (F : Stop.Interp) :
    ReturnsInHanded {} Tryd.checked os 6 .any ((Rows.OpenSpec.upto Rows.exprSplitsSpec).preRow enc Tryd.prog Tryd.f6 Rows.exprSplitsUptoRow.domain false Rows.exprSplitsUptoRow.laid) (((Rows.OpenSpec.upto Rows.exprSplitsSpec).at F).post enc Tryd.prog Tryd.f6 false true false false) := by
  refine returnsInHanded_of_row (C := Tryd.checked) (s := Rows.OpenSpec.upto Rows.exprSplitsSpec) Tryd.own started (by kernel_rfl) Tryd.func6
    (witness_row_at (enc := enc) (C := Tryd.checked) false ({ World.holding Tryd.prog os ⟨#[], #[], []⟩ with heap := (World.holding Tryd.prog os ⟨#[], #[], []⟩).heap.modify 0 fun
      | .cells _ t frozen => .cells tabCells t frozen
      | o => o }) #[.slice none 0 0, .slice none 0 0, .slice none 0 0] rfl (by kernel_rfl) (by kernel_rfl) (by kernel_rfl)
      (OpenSpec.preRow_of_cond (x := ([.nil, .nil, .nil], [], [])) 8 (by kernel_rfl) (by kernel_rfl) (fun k hk => by cases hk; kernel_rfl) (by kernel_rfl) (laidMet_of_run' 8 (by kernel_rfl) (by kernel_rfl)))) ?_
  intro W base args ds gs before hval hW _ hcond hsz hL _ _
  exact exprSplitsContract H enc W base args ds gs before hval hW hsz (hcond _ rfl) hL

theorem exprSplitsSaid : Rows.ExprSplitsUptoSaid :=
  OpenClaim.holds_of_cond 6 Tryd.f6 rfl rfl rfl rfl rfl rfl rfl ⟨rfl, rfl, rfl, rfl, rfl⟩ rfl rfl rfl rfl rfl (by kernel_rfl) Tryd.func6 (by kernel_rfl)
    (of_decide_eq_true (by kernel_rfl)) (by unfold Func.isWrapper; first | (rw [if_pos (by decide +kernel)]; kernel_rfl) | (rw [if_neg (by decide +kernel)]; exact ⟨rfl, rfl⟩))
    (fun os started H enc _ F => by rw [OpenClaim.pre_eq_preRow]; exact exprSplitsLifted os started H enc F)

theorem exprSplitsPlain (f : FuncId) (fn : Func) (hf : Tryd.pinned.checked.prog.funcNamed "hayloft/hayloftlaw14.ExprSplits" = some f) (hfn : Tryd.pinned.checked.prog.funcs[f]? = some fn) :
    false = Tryd.pinned.checked.prog.looks [] ∧ ∀ (j : Nat) t, fn.params[j]? = some t → Tryd.pinned.checked.prog.wantsStandIn t = false := by
  obtain rfl : f = 6 := Option.some.inj ((show Tryd.prog.funcNamed "hayloft/hayloftlaw14.ExprSplits" = some 6 by kernel_rfl).symm.trans hf) |>.symm
  obtain rfl : fn = Tryd.f6 := (Option.some.inj (Tryd.func6.symm.trans hfn)).symm
  refine ⟨by kernel_rfl, fun j t ht => ?_⟩
  rw [Tryd.params6] at ht
  have hm := Array.mem_of_getElem? ht
  have h2 : t = 23 ∨ t = 28 := by first | (simpa using hm) | (rcases (show t = 23 ∨ t = 28 ∨ t = 28 from by simpa using hm) with h | h | h <;> simp [h])
  rcases h2 with rfl | rfl
  · exact (show Tryd.prog.wantsStandIn 23 = false by kernel_rfl)
  · exact (show Tryd.prog.wantsStandIn 28 = false by kernel_rfl)

theorem ExprSplits_holds : Rows.ExprSplitsUptoCardSaid :=
  Claim7.holds_tied_plain_at .later [] _ _ _ _ exprSplitsSaid (fun _ h => by cases h) (by kernel_rfl) (fun _ h => by cases h) exprSplitsUpto_row_tie rfl ⟨rfl, rfl⟩ (by kernel_rfl) rfl exprSplitsPlain (by kernel_rfl)
#print axioms ExprSplits_holds
end Go.Proofs.YtacoabmmhddbkaaDoor
end

/- In which order terms stand, and how often, is not seen, and the more terms, the fewer rows, for arguments of at most 1048576 values and letters; the table of asks starts as the text lays it. -/
import Derived.Test.YtacoabmmhddbkaaDoorB2
import Derived.Test.YtacoabmmhddbkaaDoorB1
import Derived.Test.YtacoabmmhddbkaaDoorB3
import Derived.Deep.RegionLaw
import Derived.SizedLaws
import Derived.JoinedCond
import Derived.Deep.CondSized
section
namespace Go.Proofs.YtacoabmmhddbkaaDoor
open Go.RowKit Go.Hay
set_option linter.unusedVariables false
set_option linter.unusedSimpArgs false

/-- Those whose column is below; the others, as the second row counts. -/
def spL (m : Int) (l : List Tm) : List Tm := l.filter fun t => decide (t.co < m)
def spR (m : Int) (l : List Tm) : List Tm := (l.filter fun t => !decide (t.co < m)).map fun t => ⟨t.co - m, t.op, t.x⟩
theorem spL_len (m : Int) (l : List Tm) : (spL m l).length ≤ l.length := List.length_filter_le _ _
theorem spR_len (m : Int) (l : List Tm) : (spR m l).length ≤ l.length := by unfold spR; rw [List.length_map]; exact List.length_filter_le _ _
theorem sp_yes (m : Int) (l : List Tm) (j : Nat) (hj : j < l.length) (h : l[j].co < m) : spL m (l.take (j + 1)) = spL m (l.take j) ++ [l[j]] ∧ spR m (l.take (j + 1)) = spR m (l.take j) := by
  unfold spL spR
  rw [List.take_succ_eq_append_getElem hj, List.filter_append, List.filter_append]
  simp [h]
theorem sp_no (m : Int) (l : List Tm) (j : Nat) (hj : j < l.length) (h : ¬ l[j].co < m) : spL m (l.take (j + 1)) = spL m (l.take j) ∧ spR m (l.take (j + 1)) = spR m (l.take j) ++ [⟨l[j].co - m, l[j].op, l[j].x⟩] := by
  unfold spL spR
  rw [List.take_succ_eq_append_getElem hj, List.filter_append, List.filter_append]
  simp [h]
theorem infoT : ∃ i : TypeInfo, Tryd.prog.info? 32 = some i ∧ i.zero = some (.agg #[.int .i64 0, .int .i64 0, .int .i64 0, .bool false, .int .i64 0, .string ⟨#[]⟩]) ∧ i.size = 6 ∧ i.bytes = 56 := info4 (by kernel_rfl)
theorem ownX (a : Option Addr) (n c : Nat) : own (.slice a n c) = blk a := by cases a <;> rfl
theorem wpAppRunX {P : Program} {w w' : World} {ops : Array Oper} {rest : List Oper} {o : Oper} {a : Act} {Q : Exit → Act → World → Prop} (hgd : o.guard = none) (s x : Operand) (t tx : TypeId)
    (ho : o.op = .call { callee := .builtin .append, args := #[s, x], argTypes := #[t, tx] }) (v xv v' : Value) (hv : a.eval s = v) (hx : a.eval x = xv)
    (hrun : (Builtin.append_ #[t, tx] o.type #[v, xv]).run P w = .ok v' w') (h : wpList P ops Q rest (a.put o.dst v') w') : wpList P ops Q (o :: rest) a w := by
  refine wpList_plain hgd fun K hK' => ?_
  have hfin := hK' _ _ h
  unfold Oper.wp
  simp [execOp, ho, resolve, invoke, builtin, hv, hx, hrun, Result.andThen]
  exact hfin
/-- One more term, appended to a row of the call's own. -/
theorem appTm (w : World) (a : Option Addr) (cp : Nat) (l : List Tm) (t : Tm) (hrow : TmE.Row w (.slice a l.length cp) l) (hl : l.length ≤ 2600000000000) :
    ∃ a' cp' W', (Builtin.append_ #[23, 23] 23 #[.slice a l.length cp, .slice (some ⟨w.heap.size, 0, none⟩) 1 1]).run Tryd.prog (w.alloc (.cells #[.int .i64 t.co, .int .i64 t.op, .int .i64 t.x.k, .bool t.x.b, .int .i64 t.x.n, .string t.x.t] 32)) = .ok (.slice a' (l ++ [t]).length cp') W' ∧ TmE.Row W' (.slice a' (l ++ [t]).length cp') (l ++ [t]) ∧ (∀ k ∈ blk a', k ∈ blk a ∨ w.heap.size ≤ k) ∧ Kp (blk a) w W' := by
  obtain ⟨A1, hA1⟩ : ∃ A1, w.alloc (.cells #[.int .i64 t.co, .int .i64 t.op, .int .i64 t.x.k, .bool t.x.b, .int .i64 t.x.n, .string t.x.t] 32) = A1 := ⟨_, rfl⟩
  have kA1 : Kp [] w A1 := by rw [← hA1]; exact (Kp.refl _ _).alloc _
  have bx1 : Bn A1 w.heap.size (TmE.c t) := by rw [← hA1]; exact Bn.new w (TmE.c t) _
  have hs1 : TmE.See A1 (some ⟨w.heap.size, 0, none⟩) [t] := .inr ⟨w.heap.size, 0, rfl, fun j u hu => by rw [Nat.zero_add]; exact bx1.get j u (by simpa [El.cs] using hu)⟩
  obtain ⟨i0, hi, hz0', hz1', hz2'⟩ := infoT
  have hsr := hs1.src (P := Tryd.prog) Tryd.underlying23 1
  obtain ⟨v', A2, hrun, hrow2, k2, hn2⟩ := run_appendG (E := TmE) (P := Tryd.prog) A1 23 23 23 32 i0 _ 56 Tryd.underlying23 hi hz0' hz1' hz2' rfl (.slice a l.length cp) l (hrow.keptNew kA1) _ [t] hsr (by simp only [List.length_cons, List.length_nil]; omega) (by simp only [List.length_cons, List.length_nil]; omega)
  obtain ⟨a', c', rfl, _⟩ := hrow2.see
  simp only [ownX] at k2 hn2
  rw [hA1]
  have z1 := kA1.size
  exact ⟨a', c', A2, hrun, hrow2, fun k hk => by
    rcases hn2 k hk with e | e
    · exact .inl e
    · exact .inr (by omega), (kA1.mono (by simp)).trans k2 (fun j hj => .inl hj)⟩
/-- Two rows of terms beside each other. -/
structure SpI (w wr : World) (a1 : Option Addr) (c1 : Nat) (L : List Tm) (a2 : Option Addr) (c2 : Nat) (R : List Tm) : Prop where
  row1 : TmE.Row wr (.slice a1 L.length c1) L
  row2 : TmE.Row wr (.slice a2 R.length c2) R
  new1 : ∀ k ∈ blk a1, w.heap.size ≤ k
  new2 : ∀ k ∈ blk a2, w.heap.size ≤ k
  dis : ∀ k ∈ blk a1, k ∉ blk a2
  kp : Kp [] w wr
theorem SpI.keep {w wr W : World} {a1 : Option Addr} {c1 : Nat} {L : List Tm} {a2 : Option Addr} {c2 : Nat} {R : List Tm} (h : SpI w wr a1 c1 L a2 c2 R) (k : Kp [] wr W) : SpI w W a1 c1 L a2 c2 R :=
  ⟨h.row1.keptNew k, h.row2.keptNew k, h.new1, h.new2, h.dis, h.kp.trans k (by simp)⟩
theorem SpI.swap {w wr : World} {a1 : Option Addr} {c1 : Nat} {L : List Tm} {a2 : Option Addr} {c2 : Nat} {R : List Tm} (h : SpI w wr a1 c1 L a2 c2 R) : SpI w wr a2 c2 R a1 c1 L :=
  ⟨h.row2, h.row1, h.new2, h.new1, fun k h2 h1 => h.dis k h1 h2, h.kp⟩
theorem SpI.app1 {w wr : World} {a1 : Option Addr} {c1 : Nat} {L : List Tm} {a2 : Option Addr} {c2 : Nat} {R : List Tm} (h : SpI w wr a1 c1 L a2 c2 R) (t : Tm) (hl : L.length ≤ 2600000000000) :
    ∃ a' cp' W', (Builtin.append_ #[23, 23] 23 #[.slice a1 L.length c1, .slice (some ⟨wr.heap.size, 0, none⟩) 1 1]).run Tryd.prog (wr.alloc (.cells #[.int .i64 t.co, .int .i64 t.op, .int .i64 t.x.k, .bool t.x.b, .int .i64 t.x.n, .string t.x.t] 32)) = .ok (.slice a' (L ++ [t]).length cp') W' ∧ SpI w W' a' cp' (L ++ [t]) a2 c2 R := by
  obtain ⟨a', cp', W', hrun, hrow, hn, k⟩ := appTm wr a1 c1 L t h.row1 hl
  have z := h.kp.size
  have hlt2 := h.row2.lt
  simp only [ownX] at hlt2
  refine ⟨a', cp', W', hrun, hrow, h.row2.kept k (fun x hx => by rw [ownX] at hx; exact fun h1 => h.dis x h1 hx), fun x hx => ?_, h.new2, fun x hx h2 => ?_, h.kp.trans k (fun x hx => .inr (h.new1 x hx))⟩
  · rcases hn x hx with e | e
    · exact h.new1 x e
    · omega
  · rcases hn x hx with e | e
    · exact h.dis x e h2
    · have := hlt2 x h2
      omega
/-- What Split hands back. -/
def SpP (m : Int) (l : List Tm) (w : World) (e : Ending) (w' : World) : Prop := ∃ (a1 : Option Addr) (c1 : Nat) (a2 : Option Addr) (c2 : Nat), e = .returned (.tuple #[.slice a1 (spL m l).length c1, .slice a2 (spR m l).length c2]) ∧ TmE.See w' a1 (spL m l) ∧ TmE.See w' a2 (spR m l) ∧ Kp [] w w'
set_option maxHeartbeats 8000000 in
set_option maxRecDepth 100000 in
theorem xSplit (a : Option Addr) (ca : Nat) (l : List Tm) (m : Int) (w : World) (ht : TmE.See w a l) (hl : l.length ≤ 2600000000000) (hm0 : 0 ≤ m) (hm1 : m ≤ 9223372036854775807) (hb : ∀ y ∈ l, -9223372036854775808 ≤ y.co ∧ y.co ≤ 9223372036854775807) : Calls Tryd.prog 17 #[.slice a l.length ca, .int .i64 m] w (SpP m l w) := by
  have HTm := hid ht
  have HB := hid hb
  clear ht hb
  go_enter Tryd.func17, Tryd.ntmps17
  go_wp2_with fail
  go_loopw [4, 5, 10] (fun lv rv iv wr => ∃ (j : Nat) (a1 : Option Addr) (c1 : Nat) (L : List Tm) (a2 : Option Addr) (c2 : Nat) (R : List Tm), j ≤ l.length ∧ iv = .int .i64 j ∧ lv = .slice a1 L.length c1 ∧ rv = .slice a2 R.length c2 ∧ Hid (L = spL m (l.take j)) ∧ Hid (R = spR m (l.take j)) ∧ Hid (SpI w wr a1 c1 L a2 c2 R)) (fun _ _ iv _ => l.length - (intOf iv).toNat)
  case atStart => exact ⟨0, none, 0, [], none, 0, [], Nat.zero_le _, rfl, rfl, rfl, hid (by simp [spL]), hid (by simp [spR]), hid ⟨.inl ⟨rfl, rfl⟩, .inl ⟨rfl, rfl⟩, by simp [blk], by simp [blk], by simp [blk], Kp.refl _ _⟩⟩
  case round =>
    obtain ⟨j, a1, c1, L, a2, c2, R, hj, rfl, rfl, rfl, hL, hR, hw⟩ := hrel
    by_cases hjl : j < l.length
    · have hx : l[j]? = some l[j] := by simp [hjl]
      obtain ⟨g, o, rfl, x0, x1, x2, x3, x4, x5⟩ := tmAt (HTm.out.keptNew hw.out.kp) hx
      have i1 : (0 : Int) ≤ (j : Int) := by omega
      have i2 : (j : Int) < (l.length : Int) := by omega
      have i3 : (j : Int) + 1 ≤ 9223372036854775807 := by omega
      have hy := hid (sp_yes m l j hjl)
      have hn := hid (sp_no m l j hjl)
      have hlL : L.length ≤ 2600000000000 := by rw [hL.out]; have := spL_len m (l.take j); rw [List.length_take] at this; omega
      have hlR : R.length ≤ 2600000000000 := by rw [hR.out]; have := spR_len m (l.take j); rw [List.length_take] at this; omega
      have hbt := HB.out _ (List.getElem_mem hjl)
      clear hx
      generalize l[j] = t at *
      obtain ⟨WA, eWA⟩ : ∃ Y, wr.alloc (.cells #[.int .i64 0, .int .i64 0, .int .i64 0, .bool false, .int .i64 0, .string ⟨#[]⟩] 32) = Y := ⟨_, rfl⟩
      have kWA : Kp [] wr WA := by rw [← eWA]; exact (Kp.refl _ _).alloc _
      have zWA : WA.heap.size = wr.heap.size + 1 := by rw [← eWA]; simp
      have xWA : Bn WA (wr.heap.size) [.int .i64 0, .int .i64 0, .int .i64 0, .bool false, .int .i64 0, .string ⟨#[]⟩] := by rw [← eWA]; exact Bn.new wr [.int .i64 0, .int .i64 0, .int .i64 0, .bool false, .int .i64 0, .string ⟨#[]⟩] 32
      obtain ⟨WB, eWB⟩ : ∃ Y, ((((((WA.setCell ⟨wr.heap.size, 0, none⟩ (.int .i64 t.co)).setCell ⟨wr.heap.size, 1, none⟩ (.int .i64 t.op)).setCell ⟨wr.heap.size, 2, none⟩ (.int .i64 t.x.k)).setCell ⟨wr.heap.size, 3, none⟩ (.bool t.x.b)).setCell ⟨wr.heap.size, 4, none⟩ (.int .i64 t.x.n)).setCell ⟨wr.heap.size, 5, none⟩ (.string t.x.t)) = Y := ⟨_, rfl⟩
      have kWB : Kp [wr.heap.size] WA WB := by rw [← eWB]; exact (((((((Kp.refl _ _).setCell (by simp) _).setCell (by simp) _).setCell (by simp) _).setCell (by simp) _).setCell (by simp) _).setCell (by simp) _)
      have xWB : Bn WB (wr.heap.size) [.int .i64 t.co, .int .i64 t.op, .int .i64 t.x.k, .bool t.x.b, .int .i64 t.x.n, .string t.x.t] := by rw [← eWB]; exact ((((((xWA.set 0 (by simp) (.int .i64 t.co)).set 1 (by simp) (.int .i64 t.op)).set 2 (by simp) (.int .i64 t.x.k)).set 3 (by simp) (.bool t.x.b)).set 4 (by simp) (.int .i64 t.x.n)).set 5 (by simp) (.string t.x.t))
      have zWB := kWB.size
      have ma0 := xWA.get 0 _ rfl; have ma1 := xWA.get 1 _ rfl; have ma2 := xWA.get 2 _ rfl; have ma3 := xWA.get 3 _ rfl; have ma4 := xWA.get 4 _ rfl; have ma5 := xWA.get 5 _ rfl
      have mf0 := xWA.free 0; have mf1 := xWA.free 1; have mf2 := xWA.free 2; have mf3 := xWA.free 3; have mf4 := xWA.free 4; have mf5 := xWA.free 5
      have pc0 := xWB.get 0 _ rfl; have pc1 := xWB.get 1 _ rfl; have pc2 := xWB.get 2 _ rfl; have pc3 := xWB.get 3 _ rfl; have pc4 := xWB.get 4 _ rfl; have pc5 := xWB.get 5 _ rfl
      have kB : Kp [] wr WB := kWA.trans kWB (fun x hx => .inr (by simp at hx; omega))
      have zB : wr.heap.size < WB.heap.size := by omega
      by_cases ht : t.co < m
      · have dt : decide (t.co < m) = true := by simpa using ht
        obtain ⟨eL, eR⟩ := hy.out ht
        obtain ⟨a', cp', W', hrun, hw2⟩ := (hw.out.keep kB).app1 t hlL
        rw [← hL.out] at eL
        rw [← hR.out] at eR
        obtain ⟨L2, hL2⟩ : ∃ L2, Hid (L ++ [t] = L2) := ⟨_, hid rfl⟩
        rw [hL2.out] at hrun hw2 eL
        have EL := hid eL.symm
        have ER := hid eR.symm
        have HW2 := hid hw2
        clear kWA kWB xWA xWB kB ht hy hn hL hR hw hL2 eL eR hw2 hbt hlL hlR zWA zWB
        obtain ⟨co, op, ⟨xk, xb, xn, xt⟩⟩ := t
        dsimp only at *
        go_wp2_with (first | (refine wpAppRunX rfl _ _ 23 23 rfl _ _ _ rfl rfl hrun ?_) | fail)
        exact ⟨⟨j + 1, a', cp', L2, a2, c2, R, by omega, by go_num, rfl, rfl, EL, ER, HW2⟩, by simp [intOf]; omega⟩
      · have dt : decide (t.co < m) = false := by simpa using ht
        obtain ⟨eL, eR⟩ := hn.out ht
        have pf := xWB.free 0
        obtain ⟨D, hD⟩ : ∃ D, t.co - m = D := ⟨_, rfl⟩
        have wD0 : (-9223372036854775808 : Int) ≤ t.co - m := by omega
        have wD1 : t.co - m ≤ 9223372036854775807 := by omega
        obtain ⟨WD, eWD⟩ : ∃ Y, WB.setCell ⟨wr.heap.size, 0, none⟩ (.int .i64 (t.co - m)) = Y := ⟨_, rfl⟩
        have kWD : Kp [wr.heap.size] WB WD := by rw [← eWD]; exact (Kp.refl _ _).setCell (by simp) _
        have xWD : Bn WD wr.heap.size [.int .i64 (t.co - m), .int .i64 t.op, .int .i64 t.x.k, .bool t.x.b, .int .i64 t.x.n, .string t.x.t] := by rw [← eWD]; exact xWB.set 0 (by simp) _
        have kD : Kp [] wr WD := kB.trans kWD (fun x hx => .inr (by simp at hx; omega))
        have zD := kWD.size
        have zD2 : wr.heap.size < WD.heap.size := by omega
        have pd0 := xWD.get 0 _ rfl; have pd1 := xWD.get 1 _ rfl; have pd2 := xWD.get 2 _ rfl; have pd3 := xWD.get 3 _ rfl; have pd4 := xWD.get 4 _ rfl; have pd5 := xWD.get 5 _ rfl
        obtain ⟨a', cp', W', hrun, hw2⟩ := (hw.out.keep kD).swap.app1 ⟨t.co - m, t.op, t.x⟩ hlR
        rw [← hL.out] at eL
        rw [← hR.out] at eR
        obtain ⟨R2, hR2⟩ : ∃ R2, Hid (R ++ [⟨t.co - m, t.op, t.x⟩] = R2) := ⟨_, hid rfl⟩
        rw [hR2.out] at hrun hw2 eR
        have EL := hid eL.symm
        have ER := hid eR.symm
        have HW2 := hid hw2.swap
        have hDD := hid hD
        clear kWA kWB xWA xWB kB ht hy hn hL hR hw hR2 eL eR hw2 hbt hlL hlR zWA zWB kWD xWD kD zD hD
        obtain ⟨co, op, ⟨xk, xb, xn, xt⟩⟩ := t
        dsimp only at *
        go_wp2_with (first | (refine wpAppRunX rfl _ _ 23 23 rfl _ _ _ rfl rfl hrun ?_) | fail)
        exact ⟨⟨j + 1, a1, c1, L, a', cp', R2, by omega, by go_num, rfl, rfl, EL, ER, HW2⟩, by simp [intOf]; omega⟩
    · have e : j = l.length := by omega
      subst e
      rw [List.take_length] at hL hR
      go_wp2_with fail
      go_returns
      obtain ⟨_, _, e1, h1, _⟩ := hw.out.row1.see
      cases e1
      obtain ⟨_, _, e2, h2, _⟩ := hw.out.row2.see
      cases e2
      exact ⟨a1, c1, a2, c2, by rw [← hL.out, ← hR.out]; rfl, by rw [← hL.out]; exact h1, by rw [← hR.out]; exact h2, hw.out.kp⟩
set_option maxHeartbeats 8000000 in
set_option maxRecDepth 100000 in
theorem rSplit (a : Option Addr) (ca : Nat) (l : List Tm) (m : Int) (w : World) (ht : TmE.See w a l) (hl : l.length ≤ 2600000000000) (hm0 : 0 ≤ m) (hm1 : m ≤ 9223372036854775807) (hb : ∀ y ∈ l, -9223372036854775808 ≤ y.co ∧ y.co ≤ 9223372036854775807) : Calls Tryd.prog 18 #[.slice a l.length ca, .int .i64 m] w (SpP m l w) := by
  have HTm := hid ht
  have HB := hid hb
  clear ht hb
  go_enter Tryd.func18, Tryd.ntmps18
  go_wp2_with fail
  go_loopw [6, 7, 8] (fun lv rv iv wr => ∃ (j : Nat) (a1 : Option Addr) (c1 : Nat) (L : List Tm) (a2 : Option Addr) (c2 : Nat) (R : List Tm), j ≤ l.length ∧ iv = .int .i64 j ∧ lv = .slice a1 L.length c1 ∧ rv = .slice a2 R.length c2 ∧ Hid (L = spL m (l.take j)) ∧ Hid (R = spR m (l.take j)) ∧ Hid (SpI w wr a1 c1 L a2 c2 R)) (fun _ _ iv _ => l.length - (intOf iv).toNat)
  case atStart => exact ⟨0, none, 0, [], none, 0, [], Nat.zero_le _, rfl, rfl, rfl, hid (by simp [spL]), hid (by simp [spR]), hid ⟨.inl ⟨rfl, rfl⟩, .inl ⟨rfl, rfl⟩, by simp [blk], by simp [blk], by simp [blk], Kp.refl _ _⟩⟩
  case round =>
    obtain ⟨j, a1, c1, L, a2, c2, R, hj, rfl, rfl, rfl, hL, hR, hw⟩ := hrel
    by_cases hjl : j < l.length
    · have hx : l[j]? = some l[j] := by simp [hjl]
      obtain ⟨g, o, rfl, x0, x1, x2, x3, x4, x5⟩ := tmAt (HTm.out.keptNew hw.out.kp) hx
      have i1 : (0 : Int) ≤ (j : Int) := by omega
      have i2 : (j : Int) < (l.length : Int) := by omega
      have i3 : (j : Int) + 1 ≤ 9223372036854775807 := by omega
      have hy := hid (sp_yes m l j hjl)
      have hn := hid (sp_no m l j hjl)
      have hlL : L.length ≤ 2600000000000 := by rw [hL.out]; have := spL_len m (l.take j); rw [List.length_take] at this; omega
      have hlR : R.length ≤ 2600000000000 := by rw [hR.out]; have := spR_len m (l.take j); rw [List.length_take] at this; omega
      have hbt := HB.out _ (List.getElem_mem hjl)
      clear hx
      generalize l[j] = t at *
      obtain ⟨WA, eWA⟩ : ∃ Y, wr.alloc (.cells #[.int .i64 0, .int .i64 0, .int .i64 0, .bool false, .int .i64 0, .string ⟨#[]⟩] 32) = Y := ⟨_, rfl⟩
      have kWA : Kp [] wr WA := by rw [← eWA]; exact (Kp.refl _ _).alloc _
      have zWA : WA.heap.size = wr.heap.size + 1 := by rw [← eWA]; simp
      have xWA : Bn WA (wr.heap.size) [.int .i64 0, .int .i64 0, .int .i64 0, .bool false, .int .i64 0, .string ⟨#[]⟩] := by rw [← eWA]; exact Bn.new wr [.int .i64 0, .int .i64 0, .int .i64 0, .bool false, .int .i64 0, .string ⟨#[]⟩] 32
      obtain ⟨WB, eWB⟩ : ∃ Y, ((((((WA.setCell ⟨wr.heap.size, 0, none⟩ (.int .i64 t.co)).setCell ⟨wr.heap.size, 1, none⟩ (.int .i64 t.op)).setCell ⟨wr.heap.size, 2, none⟩ (.int .i64 t.x.k)).setCell ⟨wr.heap.size, 3, none⟩ (.bool t.x.b)).setCell ⟨wr.heap.size, 4, none⟩ (.int .i64 t.x.n)).setCell ⟨wr.heap.size, 5, none⟩ (.string t.x.t)) = Y := ⟨_, rfl⟩
      have kWB : Kp [wr.heap.size] WA WB := by rw [← eWB]; exact (((((((Kp.refl _ _).setCell (by simp) _).setCell (by simp) _).setCell (by simp) _).setCell (by simp) _).setCell (by simp) _).setCell (by simp) _)
      have xWB : Bn WB (wr.heap.size) [.int .i64 t.co, .int .i64 t.op, .int .i64 t.x.k, .bool t.x.b, .int .i64 t.x.n, .string t.x.t] := by rw [← eWB]; exact ((((((xWA.set 0 (by simp) (.int .i64 t.co)).set 1 (by simp) (.int .i64 t.op)).set 2 (by simp) (.int .i64 t.x.k)).set 3 (by simp) (.bool t.x.b)).set 4 (by simp) (.int .i64 t.x.n)).set 5 (by simp) (.string t.x.t))
      have zWB := kWB.size
      have ma0 := xWA.get 0 _ rfl; have ma1 := xWA.get 1 _ rfl; have ma2 := xWA.get 2 _ rfl; have ma3 := xWA.get 3 _ rfl; have ma4 := xWA.get 4 _ rfl; have ma5 := xWA.get 5 _ rfl
      have mf0 := xWA.free 0; have mf1 := xWA.free 1; have mf2 := xWA.free 2; have mf3 := xWA.free 3; have mf4 := xWA.free 4; have mf5 := xWA.free 5
      have pc0 := xWB.get 0 _ rfl; have pc1 := xWB.get 1 _ rfl; have pc2 := xWB.get 2 _ rfl; have pc3 := xWB.get 3 _ rfl; have pc4 := xWB.get 4 _ rfl; have pc5 := xWB.get 5 _ rfl
      have kB : Kp [] wr WB := kWA.trans kWB (fun x hx => .inr (by simp at hx; omega))
      have zB : wr.heap.size < WB.heap.size := by omega
      by_cases ht : t.co < m
      · have dt : decide (t.co < m) = true := by simpa using ht
        obtain ⟨eL, eR⟩ := hy.out ht
        obtain ⟨a', cp', W', hrun, hw2⟩ := (hw.out.keep kB).app1 t hlL
        rw [← hL.out] at eL
        rw [← hR.out] at eR
        obtain ⟨L2, hL2⟩ : ∃ L2, Hid (L ++ [t] = L2) := ⟨_, hid rfl⟩
        rw [hL2.out] at hrun hw2 eL
        have EL := hid eL.symm
        have ER := hid eR.symm
        have HW2 := hid hw2
        clear kWA kWB xWA xWB kB ht hy hn hL hR hw hL2 eL eR hw2 hbt hlL hlR zWA zWB
        obtain ⟨co, op, ⟨xk, xb, xn, xt⟩⟩ := t
        dsimp only at *
        go_wp2_with (first | (refine wpAppRunX rfl _ _ 23 23 rfl _ _ _ rfl rfl hrun ?_) | fail)
        exact ⟨⟨j + 1, a', cp', L2, a2, c2, R, by omega, by go_num, rfl, rfl, EL, ER, HW2⟩, by simp [intOf]; omega⟩
      · have dt : decide (t.co < m) = false := by simpa using ht
        obtain ⟨eL, eR⟩ := hn.out ht
        have pf := xWB.free 0
        obtain ⟨D, hD⟩ : ∃ D, t.co - m = D := ⟨_, rfl⟩
        have wD0 : (-9223372036854775808 : Int) ≤ t.co - m := by omega
        have wD1 : t.co - m ≤ 9223372036854775807 := by omega
        obtain ⟨WD, eWD⟩ : ∃ Y, WB.setCell ⟨wr.heap.size, 0, none⟩ (.int .i64 (t.co - m)) = Y := ⟨_, rfl⟩
        have kWD : Kp [wr.heap.size] WB WD := by rw [← eWD]; exact (Kp.refl _ _).setCell (by simp) _
        have xWD : Bn WD wr.heap.size [.int .i64 (t.co - m), .int .i64 t.op, .int .i64 t.x.k, .bool t.x.b, .int .i64 t.x.n, .string t.x.t] := by rw [← eWD]; exact xWB.set 0 (by simp) _
        have kD : Kp [] wr WD := kB.trans kWD (fun x hx => .inr (by simp at hx; omega))
        have zD := kWD.size
        have zD2 : wr.heap.size < WD.heap.size := by omega
        have pd0 := xWD.get 0 _ rfl; have pd1 := xWD.get 1 _ rfl; have pd2 := xWD.get 2 _ rfl; have pd3 := xWD.get 3 _ rfl; have pd4 := xWD.get 4 _ rfl; have pd5 := xWD.get 5 _ rfl
        obtain ⟨a', cp', W', hrun, hw2⟩ := (hw.out.keep kD).swap.app1 ⟨t.co - m, t.op, t.x⟩ hlR
        rw [← hL.out] at eL
        rw [← hR.out] at eR
        obtain ⟨R2, hR2⟩ : ∃ R2, Hid (R ++ [⟨t.co - m, t.op, t.x⟩] = R2) := ⟨_, hid rfl⟩
        rw [hR2.out] at hrun hw2 eR
        have EL := hid eL.symm
        have ER := hid eR.symm
        have HW2 := hid hw2.swap
        have hDD := hid hD
        clear kWA kWB xWA xWB kB ht hy hn hL hR hw hR2 eL eR hw2 hbt hlL hlR zWA zWB kWD xWD kD zD hD
        obtain ⟨co, op, ⟨xk, xb, xn, xt⟩⟩ := t
        dsimp only at *
        go_wp2_with (first | (refine wpAppRunX rfl _ _ 23 23 rfl _ _ _ rfl rfl hrun ?_) | fail)
        exact ⟨⟨j + 1, a1, c1, L, a', cp', R2, by omega, by go_num, rfl, rfl, EL, ER, HW2⟩, by simp [intOf]; omega⟩
    · have e : j = l.length := by omega
      subst e
      rw [List.take_length] at hL hR
      go_wp2_with fail
      go_returns
      obtain ⟨_, _, e1, h1, _⟩ := hw.out.row1.see
      cases e1
      obtain ⟨_, _, e2, h2, _⟩ := hw.out.row2.see
      cases e2
      exact ⟨a1, c1, a2, c2, by rw [← hL.out, ← hR.out]; rfl, by rw [← hL.out]; exact h1, by rw [← hR.out]; exact h2, hw.out.kp⟩
end Go.Proofs.YtacoabmmhddbkaaDoor
end

section
namespace Go.Proofs.YtacoabmmhddbkaaDoor
open Go.RowKit Go.Hay
set_option linter.unusedVariables false
set_option linter.unusedSimpArgs false

theorem appL (w : World) (a : Option Addr) (cp : Nat) (xs : List Tm) (b : Option Addr) (cb : Nat) (bs : List Tm) (hrow : TmE.Row w (.slice a xs.length cp) xs) (hs : TmE.See w b bs) (hl : xs.length + bs.length ≤ 4000000) :
    ∃ a' cp' W', (Builtin.append_ #[23, 23] 23 #[.slice a xs.length cp, .slice b bs.length cb]).run Tryd.prog w = .ok (.slice a' (xs ++ bs).length cp') W' ∧ TmE.Row W' (.slice a' (xs ++ bs).length cp') (xs ++ bs) ∧ (∀ k ∈ blk a', k ∈ blk a ∨ w.heap.size ≤ k) ∧ Kp (blk a) w W' := by
  obtain ⟨i0, hi, hz0', hz1', hz2'⟩ := infoT
  have hsr := hs.src (P := Tryd.prog) Tryd.underlying23 cb
  obtain ⟨v', A2, hrun, hrow2, k2, hn2⟩ := run_appendG (E := TmE) (P := Tryd.prog) w 23 23 23 32 i0 _ 56 Tryd.underlying23 hi hz0' hz1' hz2' rfl (.slice a xs.length cp) xs hrow _ bs hsr (by omega) (by omega)
  obtain ⟨a', c', rfl, _⟩ := hrow2.see
  simp only [ownX] at k2 hn2
  exact ⟨a', c', A2, hrun, hrow2, hn2, k2⟩
theorem emptyT (w : World) : TmE.Row (w.alloc (.cells #[] 32)) (.slice (some ⟨w.heap.size, 0, none⟩) 0 0) [] :=
  .inr ⟨w.heap.size, 0, 0, rfl, Nat.le_refl _, Nat.zero_le _, by simp, fun j u hu => by simp [El.cs] at hu, fun j hj => by simp at hj⟩
theorem oneT (w : World) (t : Tm) : TmE.See (w.alloc (.cells #[.int .i64 t.co, .int .i64 t.op, .int .i64 t.x.k, .bool t.x.b, .int .i64 t.x.n, .string t.x.t] 32)) (some ⟨w.heap.size, 0, none⟩) [t] :=
  .inr ⟨w.heap.size, 0, rfl, fun j u hu => by rw [Nat.zero_add]; exact (Bn.new w (TmE.c t) _).get j u (by simpa [El.cs] using hu)⟩
/-- All terms of a list, and one more. -/
theorem more2 (W : World) (N p q : Nat) (a : Option Addr) (ca : Nat) (l : List Tm) (t : Tm) (hrow : TmE.Row W (.slice (some ⟨p, 0, none⟩) 0 0) []) (ht : TmE.See W (some ⟨q, 0, none⟩) [t]) (hpq : q ≠ p) (hp : N ≤ p) (hs : TmE.See W a l) (hap : l ≠ [] → ∀ k ∈ blk a, k ≠ p) (hl : l.length ≤ 1048576) :
    ∃ a1 c1 W1 a2 c2 W2, (Builtin.append_ #[23, 23] 23 #[.slice (some ⟨p, 0, none⟩) 0 0, .slice a l.length ca]).run Tryd.prog W = .ok (.slice a1 l.length c1) W1 ∧ (Builtin.append_ #[23, 23] 23 #[.slice a1 l.length c1, .slice (some ⟨q, 0, none⟩) 1 1]).run Tryd.prog W1 = .ok (.slice a2 (l ++ [t]).length c2) W2 ∧ TmE.See W2 a2 (l ++ [t]) ∧ Kp [p] W W1 ∧ Kp [p] W W2 := by
  obtain ⟨a1, c1, W1, r1, row1, n1, k1⟩ := appL W (some ⟨p, 0, none⟩) 0 [] a ca l hrow hs (by simp; omega)
  simp only [List.nil_append] at r1 row1
  have hb : blk (some ⟨p, 0, none⟩) = [p] := rfl
  rw [hb] at k1
  obtain ⟨a2, c2, W2, r2, row2, n2, k2⟩ := appL W1 a1 c1 l (some ⟨q, 0, none⟩) 1 [t] row1 (ht.kept k1 (fun _ k hk => by simp [blk] at hk; subst hk; simpa using hpq)) (by simp; omega)
  refine ⟨a1, c1, W1, a2, c2, W2, r1, r2, ?_, k1, k1.trans k2 (fun x hx => ?_)⟩
  · obtain ⟨_, _, e, h, _⟩ := row2.see
    cases e
    exact h
  · rcases n1 x hx with h | h
    · left; simpa [blk] using h
    · exact .inr h
theorem allT_rev (l : List Tm) (r : List Val) : allT l.reverse r = allT l r := by unfold allT; rw [List.all_reverse]
theorem allT_app (l m : List Tm) (r : List Val) : allT (l ++ m) r = (allT l r && allT m r) := by unfold allT; rw [List.all_append]
set_option maxHeartbeats 16000000 in
set_option maxRecDepth 100000 in
theorem ordersWalk (a b : Option Addr) (ca cb : Nat) (l : List Tm) (t : Tm) (r : List Val) (w : World) (hT : Asks w) (ht : TmE.See w a l) (hs : VE.See w b r) (hl : l.length ≤ 1048576) (hr : r.length ≤ 1048576) :
    Calls Tryd.prog 7 #[.slice a l.length ca, t.v, .slice b r.length cb] w fun e w' => e = .returned (.bool true) ∧ Below w.heap.size w w' := by
  obtain ⟨W, eW⟩ : ∃ Y, w.alloc (.cells #[.int .i64 t.co, .int .i64 t.op, .int .i64 t.x.k, .bool t.x.b, .int .i64 t.x.n, .string t.x.t] 32) = Y := ⟨_, rfl⟩
  have kW : Kp [] w W := by rw [← eW]; exact (Kp.refl _ _).alloc _
  have zW : W.heap.size = w.heap.size + 1 := by rw [← eW]; simp
  have bW : Bn W w.heap.size [.int .i64 t.co, .int .i64 t.op, .int .i64 t.x.k, .bool t.x.b, .int .i64 t.x.n, .string t.x.t] := by rw [← eW]; exact Bn.new w [.int .i64 t.co, .int .i64 t.op, .int .i64 t.x.k, .bool t.x.b, .int .i64 t.x.n, .string t.x.t] 32
  have BB := hid bW
  have KW := hid kW
  have HTm := hid (ht.keptNew kW)
  have HS := hid (hs.keptNew kW)
  have HA := hid (hT.kept kW (by simp))
  have hF : Hid (∀ W', Kp [] W W' → (W'.cell? ⟨w.heap.size, 0, none⟩ = some (.int .i64 t.co) ∧ W'.cell? ⟨w.heap.size, 1, none⟩ = some (.int .i64 t.op) ∧ W'.cell? ⟨w.heap.size, 2, none⟩ = some (.int .i64 t.x.k) ∧ W'.cell? ⟨w.heap.size, 3, none⟩ = some (.bool t.x.b) ∧ W'.cell? ⟨w.heap.size, 4, none⟩ = some (.int .i64 t.x.n) ∧ W'.cell? ⟨w.heap.size, 5, none⟩ = some (.string t.x.t))) := fun W' k => by
    have h1 := BB.out.kept k
    exact ⟨h1.get 0 _ rfl, h1.get 1 _ rfl, h1.get 2 _ rfl, h1.get 3 _ rfl, h1.get 4 _ rfl, h1.get 5 _ rfl⟩
  have zW' : w.heap.size < W.heap.size := by omega
  clear kW zW bW ht hs hT BB
  obtain ⟨co, op, ⟨xk, xb, xn, xt⟩⟩ := t
  simp only [Tm.v] at *
  go_enter Tryd.func7, Tryd.ntmps7
  go_wp2_with fail
  go_loopw [7, 14] (fun tv iv wr => ∃ (j : Nat) (a1 : Option Addr) (c1 : Nat) (T : List Tm), j ≤ l.length ∧ iv = .int .i64 j ∧ tv = .slice a1 T.length c1 ∧ Hid (T = l.reverse.take j) ∧ Hid (TmE.Row wr (.slice a1 T.length c1) T ∧ (∀ k ∈ blk a1, W.heap.size ≤ k) ∧ Kp [] W wr)) (fun _ iv _ => l.length - (intOf iv).toNat)
  case atStart => exact ⟨0, none, 0, [], Nat.zero_le _, rfl, rfl, hid (by simp), hid ⟨.inl ⟨rfl, rfl⟩, by simp [blk], Kp.refl _ _⟩⟩
  case round =>
    obtain ⟨j, a1, c1, T, hj, rfl, rfl, hTT, hw⟩ := hrel
    by_cases hjl : j < l.length
    · obtain ⟨q, hq⟩ : ∃ q, q = l.length - 1 - j := ⟨_, rfl⟩
      have hql : q < l.length := by omega
      have hx : l[q]? = some l[q] := by simp [hql]
      obtain ⟨g, o, rfl, x0, x1, x2, x3, x4, x5⟩ := tmAt (HTm.out.keptNew hw.out.2.2) hx
      have hTl : T.length ≤ 1048576 := by rw [hTT.out, List.length_take]; omega
      have htk : Hid (l.reverse.take (j + 1) = T ++ [l[q]]) := by
        show _ = _
        rw [List.take_succ_eq_append_getElem (by simpa using hjl), ← hTT.out, List.getElem_reverse]
        simp only [hq]
      obtain ⟨a', cp', W', hrun, hrow', hn', k'⟩ := appTm wr a1 c1 T l[q] hw.out.1 (by omega)
      have hw2 : Hid (TmE.Row W' (.slice a' (T ++ [l[q]]).length cp') (T ++ [l[q]]) ∧ (∀ k ∈ blk a', W.heap.size ≤ k) ∧ Kp [] W W') := hid ⟨hrow', fun k hk => by
        rcases hn' k hk with h | h
        · exact hw.out.2.1 k h
        · have := hw.out.2.2.size; omega, hw.out.2.2.trans k' (fun z hz => .inr (hw.out.2.1 z hz))⟩
      obtain ⟨T2, hT2⟩ : ∃ T2, Hid (T ++ [l[q]] = T2) := ⟨_, hid rfl⟩
      rw [hT2.out] at hrun hw2 htk
      have i0 : (l.length : Int) - 1 - (j : Int) = (q : Int) := by omega
      have i1 : (0 : Int) ≤ (q : Int) := by omega
      have i2 : (q : Int) < (l.length : Int) := by omega
      have i3 : (j : Int) + 1 ≤ 9223372036854775807 := by omega
      have i4 : (j : Int) < (l.length : Int) := by omega
      have HT3 := hid htk.out.symm
      clear hx hrow' hn' k' hw hTT hT2 hTl htk hq
      generalize l[q] = y at *
      obtain ⟨yc, yo, ⟨yk, yb, yn, yt⟩⟩ := y
      dsimp only at *
      go_wp2_with (first | (refine wpAppRunX rfl _ _ 23 23 rfl _ _ _ rfl rfl hrun ?_) | fail)
      exact ⟨⟨j + 1, a', cp', T2, by omega, by go_num, rfl, HT3, hw2⟩, by simp [intOf]; omega⟩
    · have e : j = l.length := by omega
      subst e
      have hTr : Hid (T = l.reverse) := hid (by rw [hTT.out, List.take_of_length_le (by simp)])
      have hTl : T.length ≤ 1048576 := by rw [hTr.out]; simp; omega
      obtain ⟨E0, eE0⟩ : ∃ Y, wr.alloc (.cells #[] 32) = Y := ⟨_, rfl⟩
      have kE0 : Kp [] wr E0 := by rw [← eE0]; exact (Kp.refl _ _).alloc _
      have hE0 : TmE.Row E0 (.slice (some ⟨wr.heap.size, 0, none⟩) 0 0) [] := by rw [← eE0]; exact emptyT wr
      obtain ⟨_, _, eT0, T0, _⟩ := hw.out.1.see
      cases eT0
      have zr := hw.out.2.2.size
      have hwr := hw.out.2.2
      obtain ⟨da1, dc1, W1, r1, row1, n1, k1⟩ := appL E0 (some ⟨wr.heap.size, 0, none⟩) 0 [] a ca l hE0 ((HTm.out.keptNew hwr).keptNew kE0) (by simp; omega)
      simp only [List.nil_append] at r1 row1
      have kW1 : Kp [] wr W1 := kE0.trans k1 (fun x hx => by simp [blk] at hx; exact .inr (by omega))
      obtain ⟨da, dc, W2, r2, row2, n2, k2⟩ := appL W1 da1 dc1 l a1 c1 T row1 (T0.keptNew kW1) (by omega)
      have kW2 : Kp [] wr W2 := kW1.trans k2 (fun x hx => by
        rcases n1 x hx with h | h
        · simp [blk] at h; exact .inr (by omega)
        · have := kE0.size; exact .inr (by omega))
      obtain ⟨_, _, eD0, D0, _⟩ := row2.see
      cases eD0
      obtain ⟨D, hD⟩ : ∃ D, Hid (l ++ T = D) := ⟨_, hid rfl⟩
      have hDl : D.length ≤ 2097152 := by rw [← hD.out, List.length_append]; omega
      have eT : Hid (allT T r = allT l r) := hid (by rw [hTr.out, allT_rev])
      have eD : Hid (allT D r = allT l r) := hid (by rw [← hD.out, allT_app, eT.out, Bool.and_self])
      rw [hD.out] at r2 D0
      have T4 := hid (T0.keptNew kW2)
      have D4 := hid D0
      have K4 := hid (hwr.trans kW2 (by simp))
      clear row1 row2 n1 n2 k1 k2 kW1 kW2 hE0 kE0 T0 D0 hw hTT hTr hD hwr
      go_wp2_with (first | (refine wpAppRunX rfl _ _ 23 23 rfl _ _ _ rfl rfl r1 ?_) | (refine wpAppRunX rfl _ _ 23 23 rfl _ _ _ rfl rfl r2 ?_) | fail)
      clear r1 r2 eE0
      refine wp_region_held_drew (S := fun W' => W'.cell? ⟨w.heap.size, 0, none⟩ = some (.int .i64 co) ∧ W'.cell? ⟨w.heap.size, 1, none⟩ = some (.int .i64 op) ∧ W'.cell? ⟨w.heap.size, 2, none⟩ = some (.int .i64 xk) ∧ W'.cell? ⟨w.heap.size, 3, none⟩ = some (.bool xb) ∧ W'.cell? ⟨w.heap.size, 4, none⟩ = some (.int .i64 xn) ∧ W'.cell? ⟨w.heap.size, 5, none⟩ = some (.string xt)) (by kernel_rfl) ?_ (fun hHeld => ?_)
      · exact hF.out _ K4.out.drew
      have KD : Hid (Kp [] W2 W2.drew) := hid (Kp.refl _ _).drew
      generalize W2.drew = Wd at *
      have KG := hid (K4.out.trans KD.out (by simp))
      have zG := KG.out.size
      have hTd := hid (HTm.out.keptNew KG.out)
      have hlow : Hid (l ≠ [] → ∀ k ∈ blk a, k < Wd.heap.size) := hid (fun h k hk => by have := HTm.out.lt h k hk; omega)
      -- way one
      obtain ⟨A1, hA1⟩ : ∃ Y, Wd.alloc (.cells #[] 32) = Y := ⟨_, rfl⟩
      have kA1 : Kp [] Wd A1 := by rw [← hA1]; exact (Kp.refl _ _).alloc _
      have zA1 : A1.heap.size = Wd.heap.size + 1 := by rw [← hA1]; simp
      have eA1 : TmE.Row A1 (.slice (some ⟨Wd.heap.size, 0, none⟩) 0 0) [] := by rw [← hA1]; exact emptyT Wd
      obtain ⟨pa, pc, P1, rp, rowp, np, kp⟩ := appL A1 (some ⟨Wd.heap.size, 0, none⟩) 0 [] a ca l eA1 (hTd.out.keptNew kA1) (by simp; omega)
      simp only [List.nil_append] at rp rowp
      have kP1 : Kp [] Wd P1 := kA1.trans kp (fun x hx => by simp [blk] at hx; exact .inr (by omega))
      obtain ⟨pa2, pc2, P2, rp2, rowp2, np2, kp2⟩ := appTm P1 pa pc l ⟨co, op, ⟨xk, xb, xn, xt⟩⟩ rowp (by omega)
      have kP2 : Kp [] Wd P2 := kP1.trans kp2 (fun x hx => by
        rcases np x hx with h | h
        · simp [blk] at h; exact .inr (by omega)
        · exact .inr (by omega))
      obtain ⟨_, _, eP0, M1, _⟩ := rowp2.see
      cases eP0
      -- way two
      obtain ⟨A2, hA2⟩ : ∃ Y, A1.alloc (.cells #[.int .i64 co, .int .i64 op, .int .i64 xk, .bool xb, .int .i64 xn, .string xt] 32) = Y := ⟨_, rfl⟩
      have kA2 : Kp [] A1 A2 := by rw [← hA2]; exact (Kp.refl _ _).alloc _
      have tA2 : TmE.See A2 (some ⟨Wd.heap.size + 1, 0, none⟩) [⟨co, op, ⟨xk, xb, xn, xt⟩⟩] := by rw [← hA2, ← zA1]; exact oneT A1 ⟨co, op, ⟨xk, xb, xn, xt⟩⟩
      obtain ⟨qa, qc, Q1, qa2, qc2, Q2, rq, rq2, M2, kq, kq2⟩ := more2 A2 0 Wd.heap.size (Wd.heap.size + 1) a ca l ⟨co, op, ⟨xk, xb, xn, xt⟩⟩ (eA1.keptNew kA2) tA2 (by omega) (by omega) ((hTd.out.keptNew kA1).keptNew kA2) (fun h k hk => by have := hlow.out h k hk; omega) hl
      have kQ1 : Kp [] Wd Q1 := (kA1.trans kA2 (by simp)).trans kq (fun x hx => by simp at hx; exact .inr (by omega))
      have kQ2 : Kp [] Wd Q2 := (kA1.trans kA2 (by simp)).trans kq2 (fun x hx => by simp at hx; exact .inr (by omega))
      -- way three
      obtain ⟨B1, hB1⟩ : ∃ Y, Wd.alloc (.cells #[.int .i64 co, .int .i64 op, .int .i64 xk, .bool xb, .int .i64 xn, .string xt] 32) = Y := ⟨_, rfl⟩
      have kB1 : Kp [] Wd B1 := by rw [← hB1]; exact (Kp.refl _ _).alloc _
      have zB1 : B1.heap.size = Wd.heap.size + 1 := by rw [← hB1]; simp
      have tB1 : TmE.See B1 (some ⟨Wd.heap.size, 0, none⟩) [⟨co, op, ⟨xk, xb, xn, xt⟩⟩] := by rw [← hB1]; exact oneT Wd ⟨co, op, ⟨xk, xb, xn, xt⟩⟩
      obtain ⟨B2, hB2⟩ : ∃ Y, B1.alloc (.cells #[] 32) = Y := ⟨_, rfl⟩
      have kB2 : Kp [] B1 B2 := by rw [← hB2]; exact (Kp.refl _ _).alloc _
      have eB2 : TmE.Row B2 (.slice (some ⟨Wd.heap.size + 1, 0, none⟩) 0 0) [] := by rw [← hB2, ← zB1]; exact emptyT B1
      obtain ⟨sa, sc, S1, sa2, sc2, S2, rs, rs2, M3, ks, ks2⟩ := more2 B2 0 (Wd.heap.size + 1) Wd.heap.size a ca l ⟨co, op, ⟨xk, xb, xn, xt⟩⟩ eB2 (tB1.keptNew kB2) (by omega) (by omega) ((hTd.out.keptNew kB1).keptNew kB2) (fun h k hk => by have := hlow.out h k hk; omega) hl
      have kS1 : Kp [] Wd S1 := (kB1.trans kB2 (by simp)).trans ks (fun x hx => by simp at hx; exact .inr (by omega))
      have kS2 : Kp [] Wd S2 := (kB1.trans kB2 (by simp)).trans ks2 (fun x hx => by simp at hx; exact .inr (by omega))
      have eM0 := hid (allT_app l [⟨co, op, ⟨xk, xb, xn, xt⟩⟩] r)
      obtain ⟨M, hM⟩ : ∃ M, Hid (l ++ [(⟨co, op, ⟨xk, xb, xn, xt⟩⟩ : Tm)] = M) := ⟨_, hid rfl⟩
      have hMl : M.length ≤ 1048577 := by rw [← hM.out, List.length_append]; simp; omega
      rw [hM.out] at rp2 rq2 rs2 M1 M2 M3 eM0
      have eM : Hid (allT M r = (allT l r && termT ⟨co, op, ⟨xk, xb, xn, xt⟩⟩ r)) := hid (by rw [eM0.out]; unfold allT; simp)
      have KA := hid (And.intro kA1 (And.intro kP1 kP2))
      have KB := hid (And.intro (kA1.trans kA2 (by simp)) (And.intro kQ1 kQ2))
      have KC := hid (And.intro kB1 (And.intro (kB1.trans kB2 (by simp)) (And.intro kS1 kS2)))
      have MM := hid (And.intro M1 (And.intro M2 M3))
      have hZ := hid (And.intro zA1 zB1)
      rw [← hA1] at rp
      rw [← hA2, ← hA1] at rq
      rw [← hB2, ← hB1] at rs
      dsimp only at rp2
      subst hA1
      subst hA2
      subst hB1
      subst hB2
      clear kA1 zA1 eA1 rowp np kp kP1 rowp2 np2 kp2 kP2 M1 kA2 tA2 M2 kq kq2 kQ1 kQ2 kB1 zB1 tB1 kB2 eB2 M3 ks ks2 kS1 kS2 eM0 hM hZ
      refine wpAnyH_take (i := 1) (v := ?_) rfl (by kernel_rfl) (by kernel_rfl) (by kernel_rfl) (fun _ _ _ h => h) (Or.inl ⟨by rfl, ?_⟩) (by assumption) ?_
      rotate_left
      · intro w hSw; (try dsimp only at hSw); go_simp <;> with_reducible rfl
      try simp only [Act.put, List.getElem_toArray, List.getElem_cons_zero, List.getElem_cons_succ, List.setIfInBounds_toArray, List.set_cons_zero, List.set_cons_succ]
      refine wpAnyH_take (i := 3) (v := ?_) rfl (by kernel_rfl) (by kernel_rfl) (by kernel_rfl) (fun _ _ _ h => h) (Or.inl ⟨by rfl, ?_⟩) (by assumption) ?_
      rotate_left
      · intro w hSw; (try dsimp only at hSw); go_simp <;> with_reducible rfl
      try simp only [Act.put, List.getElem_toArray, List.getElem_cons_zero, List.getElem_cons_succ, List.setIfInBounds_toArray, List.set_cons_zero, List.set_cons_succ]
      refine wpAnyH_ready (rs := [0, 4]) (by kernel_rfl) (by simp) ?_
      refine AllReadyH.cons rfl (fun K hK => ?_) (AllReadyH.cons rfl (fun K hK => ?_) AllReadyH.nil)
      · clear rs rs2 KC
        go_simp
        (try go_wp2_with fail)
        refine hK.out _ _ ?_ (fun hHeld => ?_)
        · exact hF.out _ (KG.out.trans KA.out.1 (by simp))
        clear hK K
        try simp only [Act.put, List.getElem_toArray, List.getElem_cons_zero, List.getElem_cons_succ, List.setIfInBounds_toArray, List.set_cons_zero, List.set_cons_succ]
        refine wpAnyH_ready (rs := [2, 4]) (by kernel_rfl) (by simp) ?_
        refine AllReadyH.cons rfl (fun K hK => ?_) (AllReadyH.cons rfl (fun K hK => ?_) AllReadyH.nil)
        · clear rq rq2 KB
          refine stepAppRun rfl _ _ 23 23 rfl _ _ _ rfl rfl rp ?_
          refine hK.out _ _ ?_ (fun hHeld => ?_)
          · exact hF.out _ (KG.out.trans KA.out.2.1 (by simp))
          clear hK K
          try simp only [Act.put, List.getElem_toArray, List.getElem_cons_zero, List.getElem_cons_succ, List.setIfInBounds_toArray, List.set_cons_zero, List.set_cons_succ]
          refine wpAnyH_ready (rs := [4]) (by kernel_rfl) (by simp) ?_
          refine AllReadyH.cons rfl (fun K hK => ?_) AllReadyH.nil
          go_simp
          (try go_wp2_with fail)
          refine hK.out _ _ ?_ (fun hHeld => ?_)
          · exact hF.out _ (KG.out.trans (KA.out.2.1.alloc _) (by simp))
          clear hK K
          try simp only [Act.put, List.getElem_toArray, List.getElem_cons_zero, List.getElem_cons_succ, List.setIfInBounds_toArray, List.set_cons_zero, List.set_cons_succ]
          refine wpAnyH_ready (rs := [5]) (by kernel_rfl) (by simp) ?_
          refine AllReadyH.cons rfl (fun K hK => ?_) AllReadyH.nil
          refine stepAppRun rfl _ _ 23 23 rfl _ _ _ rfl rfl rp2 ?_
          refine hK.out _ _ ?_ (fun hHeld => ?_)
          · exact hF.out _ (KG.out.trans KA.out.2.2 (by simp))
          clear hK K
          try simp only [Act.put, List.getElem_toArray, List.getElem_cons_zero, List.getElem_cons_succ, List.setIfInBounds_toArray, List.set_cons_zero, List.set_cons_succ]
          obtain ⟨W5, hW5⟩ : ∃ Y, Y = P2 := ⟨_, rfl⟩
          have M5 := hid MM.out.1
          have kW5 := KA.out.2.2
          clear MM KA rp rp2
          subst hW5
          refine wpAnyH_take (i := 6) (v := ?_) rfl (by kernel_rfl) (by kernel_rfl) (by kernel_rfl) (fun _ _ _ h => h) (Or.inl ⟨by rfl, ?_⟩) (by assumption) ?_
          rotate_left
          · intro w hSw; (try dsimp only at hSw); go_simp <;> with_reducible rfl
          try simp only [Act.put, List.getElem_toArray, List.getElem_cons_zero, List.getElem_cons_succ, List.setIfInBounds_toArray, List.set_cons_zero, List.set_cons_succ]
          refine wpAnyH_done (by kernel_rfl) ?_ _
          clear hHeld
          have K5 := hid (KG.out.trans kW5 (by simp))
          have T5 := hid (T4.out.keptNew (KD.out.trans kW5 (by simp)))
          have D5 := hid (D4.out.keptNew (KD.out.trans kW5 (by simp)))
          clear T4 D4 KD K4 kW5
          have b0 := hid (fun W' (k : Kp [] W W') => xAll a b ca cb l r W' (HA.out.kept k (by simp)) (HTm.out.keptNew k) (HS.out.keptNew k) (by omega) (by omega))
          have bV := hid (fun W' (k : Kp [] W W') => cAliveX W' (HA.out.kept k (by simp)))
          have b1 := hid (fun W' (k : Kp [] W W') (kk : Kp [] W5 W') => xAll a1 b c1 cb T r W' (HA.out.kept k (by simp)) (T5.out.keptNew kk) (HS.out.keptNew k) (by omega) (by omega))
          have b2 := hid (fun W' (k : Kp [] W W') (kk : Kp [] W5 W') => xAll da b dc cb D r W' (HA.out.kept k (by simp)) (D5.out.keptNew kk) (HS.out.keptNew k) (by omega) (by omega))
          have b3 := hid (fun W' (k : Kp [] W W') (kk : Kp [] W5 W') => xAll pa2 b pc2 cb M r W' (HA.out.kept k (by simp)) (M5.out.keptNew kk) (HS.out.keptNew k) (by omega) (by omega))
          have b4 := hid (fun W' (k : Kp [] W W') => xTerm ⟨co, op, ⟨xk, xb, xn, xt⟩⟩ b cb r W' (HA.out.kept k (by simp)) (HS.out.keptNew k) (by omega))
          simp only [Tm.v] at b4
          rw [eT.out] at b1
          rw [eD.out] at b2
          rw [eM.out] at b3
          generalize allT l r = A at *
          generalize termT ⟨co, op, ⟨xk, xb, xn, xt⟩⟩ r = Z at *
          have KK0 : Hid (Kp [] W5 W5) := hid (Kp.refl _ _)
          go_wp2_with fail
          refine (b0.out _ K5.out).mono ?_
          rintro e n1 ⟨rfl, j1⟩
          have J1 := hid (K5.out.trans j1 (by simp)); have I1 := hid (KK0.out.trans j1 (by simp))
          clear j1
          go_wp2_with fail
          refine (bV.out _ J1.out).mono ?_
          rintro e n2 ⟨rfl, j2⟩
          have J2 := hid (J1.out.trans j2 (by simp)); have I2 := hid (I1.out.trans j2 (by simp))
          clear j2
          go_wp2_with fail
          refine (b1.out _ J2.out I2.out).mono ?_
          rintro e n3 ⟨rfl, j3⟩
          have J3 := hid (J2.out.trans j3 (by simp)); have I3 := hid (I2.out.trans j3 (by simp))
          clear j3
          have hAA : (A == A) = true := by simp
          go_wp2_with fail
          refine (b2.out _ J3.out I3.out).mono ?_
          rintro e n4 ⟨rfl, j4⟩
          have J4 := hid (J3.out.trans j4 (by simp)); have I4 := hid (I3.out.trans j4 (by simp))
          clear j4
          go_wp2_with fail
          refine (b3.out _ J4.out I4.out).mono ?_
          rintro e n5 ⟨rfl, j5⟩
          have J5 := hid (J4.out.trans j5 (by simp))
          clear j5
          cases A with
          | false =>
            go_wp2_with fail
            go_ret
            exact ⟨by rfl, (KW.out.trans J5.out (by simp)).below⟩
          | true =>
            obtain ⟨t0, t1, t2, t3, t4, t5⟩ := hF.out _ J5.out
            have zz := J5.out.size
            have zz2 : w.heap.size < n5.heap.size := by omega
            go_wp2_with fail
            refine (b4.out _ J5.out).mono ?_
            rintro e n6 ⟨rfl, j6⟩
            have J6 := hid (J5.out.trans j6 (by simp))
            clear j6 t0 t1 t2 t3 t4 t5
            go_wp2_with fail
            go_ret
            exact ⟨by simp, (KW.out.trans J6.out (by simp)).below⟩
        · clear rp rp2 KA
          go_simp
          (try go_wp2_with fail)
          refine hK.out _ _ ?_ (fun hHeld => ?_)
          · exact hF.out _ (KG.out.trans KB.out.1 (by simp))
          clear hK K
          try simp only [Act.put, List.getElem_toArray, List.getElem_cons_zero, List.getElem_cons_succ, List.setIfInBounds_toArray, List.set_cons_zero, List.set_cons_succ]
          refine wpAnyH_ready (rs := [2]) (by kernel_rfl) (by simp) ?_
          refine AllReadyH.cons rfl (fun K hK => ?_) AllReadyH.nil
          refine stepAppRun rfl _ _ 23 23 rfl _ _ _ rfl rfl rq ?_
          refine hK.out _ _ ?_ (fun hHeld => ?_)
          · exact hF.out _ (KG.out.trans KB.out.2.1 (by simp))
          clear hK K
          try simp only [Act.put, List.getElem_toArray, List.getElem_cons_zero, List.getElem_cons_succ, List.setIfInBounds_toArray, List.set_cons_zero, List.set_cons_succ]
          refine wpAnyH_ready (rs := [5]) (by kernel_rfl) (by simp) ?_
          refine AllReadyH.cons rfl (fun K hK => ?_) AllReadyH.nil
          refine stepAppRun rfl _ _ 23 23 rfl _ _ _ rfl rfl rq2 ?_
          refine hK.out _ _ ?_ (fun hHeld => ?_)
          · exact hF.out _ (KG.out.trans KB.out.2.2 (by simp))
          clear hK K
          try simp only [Act.put, List.getElem_toArray, List.getElem_cons_zero, List.getElem_cons_succ, List.setIfInBounds_toArray, List.set_cons_zero, List.set_cons_succ]
          obtain ⟨W5, hW5⟩ : ∃ Y, Y = Q2 := ⟨_, rfl⟩
          have M5 := hid MM.out.2.1
          have kW5 := KB.out.2.2
          clear MM KB rq rq2
          subst hW5
          refine wpAnyH_take (i := 6) (v := ?_) rfl (by kernel_rfl) (by kernel_rfl) (by kernel_rfl) (fun _ _ _ h => h) (Or.inl ⟨by rfl, ?_⟩) (by assumption) ?_
          rotate_left
          · intro w hSw; (try dsimp only at hSw); go_simp <;> with_reducible rfl
          try simp only [Act.put, List.getElem_toArray, List.getElem_cons_zero, List.getElem_cons_succ, List.setIfInBounds_toArray, List.set_cons_zero, List.set_cons_succ]
          refine wpAnyH_done (by kernel_rfl) ?_ _
          clear hHeld
          have K5 := hid (KG.out.trans kW5 (by simp))
          have T5 := hid (T4.out.keptNew (KD.out.trans kW5 (by simp)))
          have D5 := hid (D4.out.keptNew (KD.out.trans kW5 (by simp)))
          clear T4 D4 KD K4 kW5
          have b0 := hid (fun W' (k : Kp [] W W') => xAll a b ca cb l r W' (HA.out.kept k (by simp)) (HTm.out.keptNew k) (HS.out.keptNew k) (by omega) (by omega))
          have bV := hid (fun W' (k : Kp [] W W') => cAliveX W' (HA.out.kept k (by simp)))
          have b1 := hid (fun W' (k : Kp [] W W') (kk : Kp [] W5 W') => xAll a1 b c1 cb T r W' (HA.out.kept k (by simp)) (T5.out.keptNew kk) (HS.out.keptNew k) (by omega) (by omega))
          have b2 := hid (fun W' (k : Kp [] W W') (kk : Kp [] W5 W') => xAll da b dc cb D r W' (HA.out.kept k (by simp)) (D5.out.keptNew kk) (HS.out.keptNew k) (by omega) (by omega))
          have b3 := hid (fun W' (k : Kp [] W W') (kk : Kp [] W5 W') => xAll qa2 b qc2 cb M r W' (HA.out.kept k (by simp)) (M5.out.keptNew kk) (HS.out.keptNew k) (by omega) (by omega))
          have b4 := hid (fun W' (k : Kp [] W W') => xTerm ⟨co, op, ⟨xk, xb, xn, xt⟩⟩ b cb r W' (HA.out.kept k (by simp)) (HS.out.keptNew k) (by omega))
          simp only [Tm.v] at b4
          rw [eT.out] at b1
          rw [eD.out] at b2
          rw [eM.out] at b3
          generalize allT l r = A at *
          generalize termT ⟨co, op, ⟨xk, xb, xn, xt⟩⟩ r = Z at *
          have KK0 : Hid (Kp [] W5 W5) := hid (Kp.refl _ _)
          go_wp2_with fail
          refine (b0.out _ K5.out).mono ?_
          rintro e n1 ⟨rfl, j1⟩
          have J1 := hid (K5.out.trans j1 (by simp)); have I1 := hid (KK0.out.trans j1 (by simp))
          clear j1
          go_wp2_with fail
          refine (bV.out _ J1.out).mono ?_
          rintro e n2 ⟨rfl, j2⟩
          have J2 := hid (J1.out.trans j2 (by simp)); have I2 := hid (I1.out.trans j2 (by simp))
          clear j2
          go_wp2_with fail
          refine (b1.out _ J2.out I2.out).mono ?_
          rintro e n3 ⟨rfl, j3⟩
          have J3 := hid (J2.out.trans j3 (by simp)); have I3 := hid (I2.out.trans j3 (by simp))
          clear j3
          have hAA : (A == A) = true := by simp
          go_wp2_with fail
          refine (b2.out _ J3.out I3.out).mono ?_
          rintro e n4 ⟨rfl, j4⟩
          have J4 := hid (J3.out.trans j4 (by simp)); have I4 := hid (I3.out.trans j4 (by simp))
          clear j4
          go_wp2_with fail
          refine (b3.out _ J4.out I4.out).mono ?_
          rintro e n5 ⟨rfl, j5⟩
          have J5 := hid (J4.out.trans j5 (by simp))
          clear j5
          cases A with
          | false =>
            go_wp2_with fail
            go_ret
            exact ⟨by rfl, (KW.out.trans J5.out (by simp)).below⟩
          | true =>
            obtain ⟨t0, t1, t2, t3, t4, t5⟩ := hF.out _ J5.out
            have zz := J5.out.size
            have zz2 : w.heap.size < n5.heap.size := by omega
            go_wp2_with fail
            refine (b4.out _ J5.out).mono ?_
            rintro e n6 ⟨rfl, j6⟩
            have J6 := hid (J5.out.trans j6 (by simp))
            clear j6 t0 t1 t2 t3 t4 t5
            go_wp2_with fail
            go_ret
            exact ⟨by simp, (KW.out.trans J6.out (by simp)).below⟩
      · clear rp rp2 KA rq rq2 KB
        go_simp
        (try go_wp2_with fail)
        refine hK.out _ _ ?_ (fun hHeld => ?_)
        · exact hF.out _ (KG.out.trans KC.out.1 (by simp))
        clear hK K
        try simp only [Act.put, List.getElem_toArray, List.getElem_cons_zero, List.getElem_cons_succ, List.setIfInBounds_toArray, List.set_cons_zero, List.set_cons_succ]
        refine wpAnyH_ready (rs := [0]) (by kernel_rfl) (by simp) ?_
        refine AllReadyH.cons rfl (fun K hK => ?_) AllReadyH.nil
        go_simp
        (try go_wp2_with fail)
        refine hK.out _ _ ?_ (fun hHeld => ?_)
        · exact hF.out _ (KG.out.trans KC.out.2.1 (by simp))
        clear hK K
        try simp only [Act.put, List.getElem_toArray, List.getElem_cons_zero, List.getElem_cons_succ, List.setIfInBounds_toArray, List.set_cons_zero, List.set_cons_succ]
        refine wpAnyH_ready (rs := [2]) (by kernel_rfl) (by simp) ?_
        refine AllReadyH.cons rfl (fun K hK => ?_) AllReadyH.nil
        refine stepAppRun rfl _ _ 23 23 rfl _ _ _ rfl rfl rs ?_
        refine hK.out _ _ ?_ (fun hHeld => ?_)
        · exact hF.out _ (KG.out.trans KC.out.2.2.1 (by simp))
        clear hK K
        try simp only [Act.put, List.getElem_toArray, List.getElem_cons_zero, List.getElem_cons_succ, List.setIfInBounds_toArray, List.set_cons_zero, List.set_cons_succ]
        refine wpAnyH_ready (rs := [5]) (by kernel_rfl) (by simp) ?_
        refine AllReadyH.cons rfl (fun K hK => ?_) AllReadyH.nil
        refine stepAppRun rfl _ _ 23 23 rfl _ _ _ rfl rfl rs2 ?_
        refine hK.out _ _ ?_ (fun hHeld => ?_)
        · exact hF.out _ (KG.out.trans KC.out.2.2.2 (by simp))
        clear hK K
        try simp only [Act.put, List.getElem_toArray, List.getElem_cons_zero, List.getElem_cons_succ, List.setIfInBounds_toArray, List.set_cons_zero, List.set_cons_succ]
        obtain ⟨W5, hW5⟩ : ∃ Y, Y = S2 := ⟨_, rfl⟩
        have M5 := hid MM.out.2.2
        have kW5 := KC.out.2.2.2
        clear MM KC rs rs2
        subst hW5
        refine wpAnyH_take (i := 6) (v := ?_) rfl (by kernel_rfl) (by kernel_rfl) (by kernel_rfl) (fun _ _ _ h => h) (Or.inl ⟨by rfl, ?_⟩) (by assumption) ?_
        rotate_left
        · intro w hSw; (try dsimp only at hSw); go_simp <;> with_reducible rfl
        try simp only [Act.put, List.getElem_toArray, List.getElem_cons_zero, List.getElem_cons_succ, List.setIfInBounds_toArray, List.set_cons_zero, List.set_cons_succ]
        refine wpAnyH_done (by kernel_rfl) ?_ _
        clear hHeld
        have K5 := hid (KG.out.trans kW5 (by simp))
        have T5 := hid (T4.out.keptNew (KD.out.trans kW5 (by simp)))
        have D5 := hid (D4.out.keptNew (KD.out.trans kW5 (by simp)))
        clear T4 D4 KD K4 kW5
        have b0 := hid (fun W' (k : Kp [] W W') => xAll a b ca cb l r W' (HA.out.kept k (by simp)) (HTm.out.keptNew k) (HS.out.keptNew k) (by omega) (by omega))
        have bV := hid (fun W' (k : Kp [] W W') => cAliveX W' (HA.out.kept k (by simp)))
        have b1 := hid (fun W' (k : Kp [] W W') (kk : Kp [] W5 W') => xAll a1 b c1 cb T r W' (HA.out.kept k (by simp)) (T5.out.keptNew kk) (HS.out.keptNew k) (by omega) (by omega))
        have b2 := hid (fun W' (k : Kp [] W W') (kk : Kp [] W5 W') => xAll da b dc cb D r W' (HA.out.kept k (by simp)) (D5.out.keptNew kk) (HS.out.keptNew k) (by omega) (by omega))
        have b3 := hid (fun W' (k : Kp [] W W') (kk : Kp [] W5 W') => xAll sa2 b sc2 cb M r W' (HA.out.kept k (by simp)) (M5.out.keptNew kk) (HS.out.keptNew k) (by omega) (by omega))
        have b4 := hid (fun W' (k : Kp [] W W') => xTerm ⟨co, op, ⟨xk, xb, xn, xt⟩⟩ b cb r W' (HA.out.kept k (by simp)) (HS.out.keptNew k) (by omega))
        simp only [Tm.v] at b4
        rw [eT.out] at b1
        rw [eD.out] at b2
        rw [eM.out] at b3
        generalize allT l r = A at *
        generalize termT ⟨co, op, ⟨xk, xb, xn, xt⟩⟩ r = Z at *
        have KK0 : Hid (Kp [] W5 W5) := hid (Kp.refl _ _)
        go_wp2_with fail
        refine (b0.out _ K5.out).mono ?_
        rintro e n1 ⟨rfl, j1⟩
        have J1 := hid (K5.out.trans j1 (by simp)); have I1 := hid (KK0.out.trans j1 (by simp))
        clear j1
        go_wp2_with fail
        refine (bV.out _ J1.out).mono ?_
        rintro e n2 ⟨rfl, j2⟩
        have J2 := hid (J1.out.trans j2 (by simp)); have I2 := hid (I1.out.trans j2 (by simp))
        clear j2
        go_wp2_with fail
        refine (b1.out _ J2.out I2.out).mono ?_
        rintro e n3 ⟨rfl, j3⟩
        have J3 := hid (J2.out.trans j3 (by simp)); have I3 := hid (I2.out.trans j3 (by simp))
        clear j3
        have hAA : (A == A) = true := by simp
        go_wp2_with fail
        refine (b2.out _ J3.out I3.out).mono ?_
        rintro e n4 ⟨rfl, j4⟩
        have J4 := hid (J3.out.trans j4 (by simp)); have I4 := hid (I3.out.trans j4 (by simp))
        clear j4
        go_wp2_with fail
        refine (b3.out _ J4.out I4.out).mono ?_
        rintro e n5 ⟨rfl, j5⟩
        have J5 := hid (J4.out.trans j5 (by simp))
        clear j5
        cases A with
        | false =>
          go_wp2_with fail
          go_ret
          exact ⟨by rfl, (KW.out.trans J5.out (by simp)).below⟩
        | true =>
          obtain ⟨t0, t1, t2, t3, t4, t5⟩ := hF.out _ J5.out
          have zz := J5.out.size
          have zz2 : w.heap.size < n5.heap.size := by omega
          go_wp2_with fail
          refine (b4.out _ J5.out).mono ?_
          rintro e n6 ⟨rfl, j6⟩
          have J6 := hid (J5.out.trans j6 (by simp))
          clear j6 t0 t1 t2 t3 t4 t5
          go_wp2_with fail
          go_ret
          exact ⟨by simp, (KW.out.trans J6.out (by simp)).below⟩
end Go.Proofs.YtacoabmmhddbkaaDoor
end

section
namespace Go.Proofs.YtacoabmmhddbkaaDoor
open Go.ChangeShapes Go.WideShapes Go.ChangeAt Go.RowKit Go.Hay
set_option linter.unusedVariables false

set_option maxRecDepth 100000 in
theorem exprOrdersContract (H : Type) (enc : TypeId × Value → H) (W : World) (base : Nat) (args : Array Value) (ds gs : List (DataW H)) (before : List MemPlace)
    (hval : ∀ (j : Nat) t v, Tryd.f7.params[j]? = some t → args[j]? = some v → Value.okWide Tryd.prog W .any base t v)
    (hW : DataW.Whole enc Tryd.prog Tryd.f7.params.toList Rows.exprOrdersSpec.vars false W args.toList ds gs before)
    (hsz : (DataW.weightsEach Tryd.prog (Tryd.f7.params.toList ++ (Rows.OpenSpec.upto Rows.exprOrdersSpec).bare.plain.varTypes Tryd.prog) (ds ++ gs)).all (· ≤ reachBytes) = true)
    (hk : Rows.uptoSmall H (ds ++ gs) = true)
    (hL : laidMetH Tryd.prog Rows.exprOrdersUptoRow.laid W) :
    Calls Tryd.prog 7 args W fun e W' => ∃ v, e = .returned v ∧ Rows.exprOrdersSpec.post enc Tryd.prog Tryd.f7 false true false false W args v W' := by
  have hW' := hW
  obtain ⟨p, q, hA0, hV, rfl, hfz, hnd⟩ := hW
  have hA : DataW.TrodAll enc Tryd.prog W 0 (fun _ => true) true Tryd.f7.params.toList args.toList ds p := hA0
  rw [Tryd.params7] at hA hval hsz
  obtain ⟨v0, vs0, d0, ds0, p0, q0, hargs, rfl, rfl, h0, r0⟩ := trodAll_cons hA
  obtain ⟨v1, vs1, d1, ds1, p1, q1, rfl, rfl, rfl, h1, r1⟩ := trodAll_cons r0
  obtain ⟨v2, vs2, d2, ds2, p2, q2, rfl, rfl, rfl, h2, r2⟩ := trodAll_cons r1
  obtain ⟨rfl, rfl, rfl⟩ := trodAll_nil r2
  obtain rfl : args = #[v0, v1, v2] := by cases args; simp_all
  obtain ⟨rfl, rfl⟩ := trodVars_none hV
  obtain ⟨a0, len0, cap0, rfl⟩ := okWide_slice Tryd.underlying23 (hval 0 23 v0 rfl rfl)
  have k0 := h0
  have lt0 : ∀ x ∈ p0, x.block < W.heap.size := by obtain ⟨m, hm⟩ := k0; exact DataW.trod_lt m _ _ _ hm
  obtain ⟨l0, rfl, hs0, hok0, hl0, hm0, hn0, hfit0, hbk0, hcp0⟩ := openTerms h0
  obtain ⟨hc0, hq0⟩ := hfit0 (List.all_eq_true.2 fun x hx => List.all_eq_true.1 hsz x (by simp [DataW.weightsEach]; first | exact .inl hx | exact .inr hx | exact .inr (.inl hx) | exact .inr (.inr hx) | exact hx))
  have k1 := h1
  have lt1 : ∀ x ∈ p1, x.block < W.heap.size := by obtain ⟨m, hm⟩ := k1; exact DataW.trod_lt m _ _ _ hm
  obtain ⟨x1, rfl⟩ := openTermX (hval 1 32 v1 rfl rfl) h1
  obtain ⟨a2, len2, cap2, rfl⟩ := okWide_slice Tryd.underlying28 (hval 2 28 v2 rfl rfl)
  have k2 := h2
  have lt2 : ∀ x ∈ p2, x.block < W.heap.size := by obtain ⟨m, hm⟩ := k2; exact DataW.trod_lt m _ _ _ hm
  obtain ⟨l2, rfl, hs2, hok2, hl2, hm2, hn2, hfit2, hbk2, hcp2⟩ := openXv h2
  obtain ⟨hc2, hq2⟩ := hfit2 (List.all_eq_true.2 fun x hx => List.all_eq_true.1 hsz x (by simp [DataW.weightsEach]; first | exact .inl hx | exact .inr hx | exact .inr (.inl hx) | exact .inr (.inr hx) | exact hx))
  have hbk := of_decide_eq_true hk
  simp only [List.append_nil, Rows.uptoBulkAll] at hbk
  clear hA0
  refine (ordersWalk a0 a2 cap0 cap2 l0 x1 l2 W (table hL) hs0 hs2 (by omega) (by omega)).mono fun e W' ⟨he, bel⟩ => ?_
  subst he
  exact ⟨_, rfl, _, _, _, [], _, [], hW', trodAll_mk1 (shut_bool Tryd.underlying4 _), (trodAll_cons_mk (Below.trod Tryd.laidOut (by kernel_rfl) (of_decide_eq_true (by kernel_rfl)) k0 bel lt0) (trodAll_cons_mk (Below.trod Tryd.laidOut (by kernel_rfl) (of_decide_eq_true (by kernel_rfl)) k1 bel lt1) (trodAll_cons_mk (Below.trod Tryd.laidOut (by kernel_rfl) (of_decide_eq_true (by kernel_rfl)) k2 bel lt2) trodAll_mk0))), rfl, bel.frame _, fun h => by cases h⟩

set_option maxRecDepth 100000 in
theorem exprOrdersLifted (os : Os) (started : os.Started) (H : Type) (enc : TypeId × Value → H) (F : Stop.Interp) :
    ReturnsInHanded {} Tryd.checked os 7 .any ((Rows.OpenSpec.upto Rows.exprOrdersSpec).preRow enc Tryd.prog Tryd.f7 Rows.exprOrdersUptoRow.domain false Rows.exprOrdersUptoRow.laid) (((Rows.OpenSpec.upto Rows.exprOrdersSpec).at F).post enc Tryd.prog Tryd.f7 false true false false) := by
  refine returnsInHanded_of_row (C := Tryd.checked) (s := Rows.OpenSpec.upto Rows.exprOrdersSpec) Tryd.own started (by kernel_rfl) Tryd.func7
    (witness_row_at (enc := enc) (C := Tryd.checked) false ({ World.holding Tryd.prog os ⟨#[], #[], []⟩ with heap := (World.holding Tryd.prog os ⟨#[], #[], []⟩).heap.modify 0 fun
      | .cells _ t frozen => .cells tabCells t frozen
      | o => o }) #[.slice none 0 0, .agg #[.int .i64 0, .int .i64 0, .int .i64 0, .bool false, .int .i64 0, .string ⟨#[]⟩], .slice none 0 0] rfl (by kernel_rfl) (by kernel_rfl) (by kernel_rfl)
      (OpenSpec.preRow_of_cond (x := ([.nil, .agg [.lit (.int .i64 0), .lit (.int .i64 0), .agg [.lit (.int .i64 0), .lit (.bool false), .lit (.int .i64 0), .lit (.string [])]], .nil], [], [])) 8 (by kernel_rfl) (by kernel_rfl) (fun k hk => by cases hk; kernel_rfl) (by kernel_rfl) (laidMet_of_run' 8 (by kernel_rfl) (by kernel_rfl)))) ?_
  intro W base args ds gs before hval hW _ hcond hsz hL _ _
  exact exprOrdersContract H enc W base args ds gs before hval hW hsz (hcond _ rfl) hL

theorem exprOrdersSaid : Rows.ExprOrdersUptoSaid :=
  OpenClaim.holds_of_cond 7 Tryd.f7 rfl rfl rfl rfl rfl rfl rfl ⟨rfl, rfl, rfl, rfl, rfl⟩ rfl rfl rfl rfl rfl (by kernel_rfl) Tryd.func7 (by kernel_rfl)
    (of_decide_eq_true (by kernel_rfl)) (by unfold Func.isWrapper; first | (rw [if_pos (by decide +kernel)]; kernel_rfl) | (rw [if_neg (by decide +kernel)]; exact ⟨rfl, rfl⟩))
    (fun os started H enc _ F => by rw [OpenClaim.pre_eq_preRow]; exact exprOrdersLifted os started H enc F)

theorem exprOrdersPlain (f : FuncId) (fn : Func) (hf : Tryd.pinned.checked.prog.funcNamed "hayloft/hayloftlaw14.ExprOrders" = some f) (hfn : Tryd.pinned.checked.prog.funcs[f]? = some fn) :
    false = Tryd.pinned.checked.prog.looks [] ∧ ∀ (j : Nat) t, fn.params[j]? = some t → Tryd.pinned.checked.prog.wantsStandIn t = false := by
  obtain rfl : f = 7 := Option.some.inj ((show Tryd.prog.funcNamed "hayloft/hayloftlaw14.ExprOrders" = some 7 by kernel_rfl).symm.trans hf) |>.symm
  obtain rfl : fn = Tryd.f7 := (Option.some.inj (Tryd.func7.symm.trans hfn)).symm
  refine ⟨by kernel_rfl, fun j t ht => ?_⟩
  rw [Tryd.params7] at ht
  have hm := Array.mem_of_getElem? ht
  have h2 : t = 23 ∨ t = 32 ∨ t = 28 := by first | (simpa using hm) | (rcases (show t = 23 ∨ t = 32 ∨ t = 28 from by simpa using hm) with h | h | h <;> simp [h])
  rcases h2 with rfl | rfl | rfl
  · exact (show Tryd.prog.wantsStandIn 23 = false by kernel_rfl)
  · exact (show Tryd.prog.wantsStandIn 32 = false by kernel_rfl)
  · exact (show Tryd.prog.wantsStandIn 28 = false by kernel_rfl)

theorem ExprOrders_holds : Rows.ExprOrdersUptoCardSaid :=
  Claim7.holds_tied_plain_at .later [] _ _ _ _ exprOrdersSaid (fun _ h => by cases h) (by kernel_rfl) (fun _ h => by cases h) exprOrdersUpto_row_tie rfl ⟨rfl, rfl⟩ (by kernel_rfl) rfl exprOrdersPlain (by kernel_rfl)
#print axioms ExprOrders_holds
end Go.Proofs.YtacoabmmhddbkaaDoor
end

/- PlanOrders (second form): the order in which rows of right values come is not seen in an answer, where what is given is of bulk at most 1048576. -/
import Derived.Test.YtcgkkofmnajedabDoorB12
import Derived.Test.YtcgkkofmnajedabDoorB15
import Derived.Test.YtcgkkofmnajedabDoorB2
import Derived.Test.YtcgkkofmnajedabDoorB1
import Derived.Test.YtcgkkofmnajedabDoorB6
import Derived.SizedLaws
import Derived.JoinedCond
import Derived.Deep.CondSized
section
namespace Go.Proofs.YtcgkkofmnajedabDoor
open Go.RowKit Go.Hay
set_option linter.unusedVariables false
set_option linter.unusedSimpArgs false

/-- Three boxes: what is asked, what is gathered, what is handed back. -/
structure Bx3 (w : World) (q3 q4 q5 : Nat) (op col : Int) (v : Val) (W : World) : Prop where
 bx : Bx2 w q4 q5 v W
 ask : Bn W q3 [.int .i64 op, .int .i64 col]
 n4 : q3 ≠ q4
 n5 : q3 ≠ q5
theorem Bx3.kept {w : World} {q3 q4 q5 : Nat} {op col : Int} {v : Val} {W W' : World} (h : Bx3 w q3 q4 q5 op col v W) (k : Kp [] W W') : Bx3 w q3 q4 q5 op col v W' := ⟨h.bx.kept k, h.ask.kept k, h.n4, h.n5⟩
theorem Bx3.put {w : World} {q3 q4 q5 : Nat} {op col : Int} {v : Val} {W : World} (h : Bx3 w q3 q4 q5 op col v W) (x : Val) : ∃ W2, (((W.setCell ⟨q5, 0, none⟩ (.int .i64 x.k)).setCell ⟨q5, 1, none⟩ (.bool x.b)).setCell ⟨q5, 2, none⟩ (.int .i64 x.n)).setCell ⟨q5, 3, none⟩ (.string x.t) = W2 ∧ Bx3 w q3 q4 q5 op col x W2 ∧ Kp [q5] W W2 := by
 obtain ⟨W2, e, b, k, k2⟩ := putV4 h.bx.out h.bx.l5 h.bx.kp x
 exact ⟨W2, e, ⟨⟨b, h.bx.res.keptS k2 (by simp [h.bx.ne]) (h.bx.res.lt (by simp)), k, h.bx.l4, h.bx.l5, h.bx.ne⟩, h.ask.keptS k2 (by simp [h.n5]) (h.ask.lt (by simp)), h.n4, h.n5⟩, k2⟩
end Go.Proofs.YtcgkkofmnajedabDoor
end

section
namespace Go.Proofs.YtcgkkofmnajedabDoor
open Go.RowKit Go.Hay
set_option linter.unusedVariables false
set_option linter.unusedSimpArgs false

/-- Rows of right values. -/
def RtR (R : List (List Val)) : Prop := ∀ l ∈ R, ∀ v ∈ l, v.right = true
theorem cmp_same0 {x y : Val} (hx : x.right = true) (hy : y.right = true) (h : cmpV x y = 0) : x = y := by
 have h1 : rowsV [x] [y] = 0 := by simp [rowsV, h]
 have h2 := rows_same [x] [y] (by simpa using hx) (by simpa using hy)
 rw [h1] at h2
 have h3 := sameV_eq [x] [y] h2.symm
 simpa using h3
theorem cmp_cases (x y : Val) : cmpV x y = -1 ∨ cmpV x y = 0 ∨ cmpV x y = 1 := by
 unfold cmpV
 split
 ·exact .inl rfl
 ·split
  ·exact .inr (.inr rfl)
  ·exact .inr (.inl rfl)
theorem right_nul : nulV.right = true := by kernel_rfl
theorem right_at {l : List Val} (h : ∀ v ∈ l, v.right = true) (n : Int) : (vAt l n).right = true := by
 unfold vAt
 split
 ·rename_i hn
  have h1 : n.toNat < l.length := by omega
  rw [List.getD_eq_getElem?_getD, List.getElem?_eq_getElem h1]
  exact h _ (List.getElem_mem h1)
 ·exact right_nul
theorem right_pick {l : List Val} (h : ∀ v ∈ l, v.right = true) (bs : List Int) : ∀ v ∈ pickV l bs, v.right = true := fun v hv => by
 unfold pickV at hv
 obtain ⟨n, _, rfl⟩ := List.mem_map.1 hv
 exact right_at h n
theorem sum_comm (col : Int) (z : Val) (x y : List Val) : sumS col (sumS col z x) y = sumS col (sumS col z y) x := by
 unfold sumS
 by_cases h1 : (vAt x col).k = 2
 ·by_cases h2 : (vAt y col).k = 2
  ·rw [if_pos h1, if_pos h2, if_pos h2, if_pos h1]
   simp only [IntKind.wrap_i64]
   congr 1
   omega
  ·simp only [h1, h2, if_true, if_false]
 ·by_cases h2 : (vAt y col).k = 2
  ·simp only [h1, h2, if_true, if_false]
  ·simp only [h1, h2, if_false]
theorem utm_comm (col side : Int) (hs : side = -1 ∨ side = 1) (z : Val) (x y : List Val) (hx : ∀ v ∈ x, v.right = true) (hy : ∀ v ∈ y, v.right = true) : utmS col side (utmS col side z x) y = utmS col side (utmS col side z y) x := by
 have rx := right_at hx col
 have ry := right_at hy col
 unfold utmS
 generalize vAt x col = a at *
 generalize vAt y col = b at *
 by_cases h1 : a.k = 0
 ·simp only [h1, if_true]
 ·by_cases h2 : b.k = 0
  ·simp only [h2, if_true]
  ·simp only [if_neg h1, if_neg h2]
   have n1 := cmp_neg a b
   have n2 := cmp_neg a z
   have n3 := cmp_neg b z
   have t1 := cmp_trans a b z
   have t2 := cmp_trans b a z
   have t3 := cmp_trans z a b
   have t4 := cmp_trans z b a
   have t5 := cmp_trans a z b
   have t6 := cmp_trans b z a
   have c1 := cmp_cases a b
   have c2 := cmp_cases a z
   have c3 := cmp_cases b z
   have e0 : cmpV a b = 0 → a = b := cmp_same0 rx ry
   by_cases hz : z.k = 0
   ·simp only [hz, true_or, if_true, h1, h2, false_or]
    by_cases q1 : cmpV b a = side
    ·rw [if_pos q1, if_neg (by omega)]
    ·rw [if_neg q1]
     by_cases q2 : cmpV a b = side
     ·rw [if_pos q2]
     ·rw [if_neg q2]
      exact e0 (by omega)
   ·simp only [hz, false_or]
    by_cases p1 : cmpV a z = side
    ·by_cases p2 : cmpV b z = side
     ·simp only [p1, p2, if_true, h1, h2, false_or]
      by_cases q1 : cmpV b a = side
      ·rw [if_pos q1, if_neg (by omega)]
      ·rw [if_neg q1]
       by_cases q2 : cmpV a b = side
       ·rw [if_pos q2]
       ·rw [if_neg q2]
        exact e0 (by omega)
     ·simp only [p1, p2, if_true, if_false, h1, hz, false_or]
      rw [if_neg (by omega)]
    ·by_cases p2 : cmpV b z = side
     ·simp only [p1, p2, if_true, if_false, h2, hz, false_or]
      rw [if_neg (by omega)]
     ·simp only [p1, p2, if_false, hz, false_or]
theorem tell_perm {R S : List (List Val)} (hp : R.Perm S) (hr : RtR R) (a : Int × Int) : tellV R a = tellV S a := by
 unfold tellV
 rw [hp.length_eq]
 split
 ·rfl
 ·split
  ·exact hp.foldl_eq' (fun x _ y _ z => sum_comm a.2 z x y) nulV
  ·split
   ·exact hp.foldl_eq' (fun x hx y hy z => utm_comm a.2 (-1) (.inl rfl) z x y (hr x hx) (hr y hy)) nulV
   ·split
    ·exact hp.foldl_eq' (fun x hx y hy z => utm_comm a.2 1 (.inr rfl) z x y (hr x hx) (hr y hy)) nulV
    ·rfl
theorem keys_mem {bs : List Int} {R : List (List Val)} (hr : RtR R) (k : List Val) : k ∈ keysV bs R ↔ ∃ l ∈ R, pickV l bs = k := by
 have ok := keysV_ok bs R
 have hf : ∀ k ∈ keysV bs R, ∃ l ∈ R, pickV l bs = k := fun k hk => by
  obtain ⟨l, hl, e⟩ := ok.first k hk
  have h1 : l ∈ R.filter fun l => rowsV (pickV l bs) k == 0 := List.mem_of_head? hl
  exact ⟨l, (List.mem_filter.1 h1).1, e⟩
 refine ⟨hf k, ?_⟩
 rintro ⟨l, hl, rfl⟩
 obtain ⟨k2, hk2, e⟩ := ok.each l hl
 obtain ⟨l2, hl2, rfl⟩ := hf k2 hk2
 have h2 := rows_same (pickV l bs) (pickV l2 bs) (right_pick (hr l hl) bs) (right_pick (hr l2 hl2) bs)
 rw [e] at h2
 rw [sameV_eq _ _ h2.symm]
 exact hk2
theorem up_nodup {ks : List (List Val)} (h : Up ks) : ks.Nodup := by
 refine List.Pairwise.imp (fun {a b} hab e => ?_) h
 subst e
 have := rows_refl0 a
 omega
theorem keys_perm {bs : List Int} {R S : List (List Val)} (hp : R.Perm S) (hr : RtR R) : keysV bs R = keysV bs S := by
 have hs : RtR S := fun l hl => hr l (hp.mem_iff.2 hl)
 have u1 := (keysV_ok bs R).up
 have u2 := (keysV_ok bs S).up
 have hpk : (keysV bs R).Perm (keysV bs S) := (List.perm_ext_iff_of_nodup (up_nodup u1) (up_nodup u2)).2 fun k => by
  rw [keys_mem hr, keys_mem hs]
  exact ⟨fun ⟨l, h, e⟩ => ⟨l, hp.mem_iff.1 h, e⟩, fun ⟨l, h, e⟩ => ⟨l, hp.mem_iff.2 h, e⟩⟩
 refine List.Perm.eq_of_pairwise (le := fun a b => rowsV a b < 0) (fun a b _ _ h1 h2 => ?_) u1 u2 hpk
 have := rows_neg a b
 omega
theorem refG_perm {bs : List Int} {gs : List (Int × Int)} {R S : List (List Val)} (hp : R.Perm S) (hr : RtR R) : refG bs gs R = refG bs gs S := by
 unfold refG
 rw [keys_perm hp hr]
 refine List.map_congr_left fun k _ => ?_
 congr 1
 refine List.map_congr_left fun a _ => ?_
 exact tell_perm (hp.filter _) (fun l hl => hr l (List.mem_filter.1 hl).1) a
theorem flatMap_permL {α β : Type} {f g : α → List β} (l : List α) (h : ∀ a ∈ l, (f a).Perm (g a)) : (l.flatMap f).Perm (l.flatMap g) := by
 induction l with
 | nil => exact List.Perm.refl _
 | cons a l ih =>
  rw [List.flatMap_cons, List.flatMap_cons]
  exact (h a (by simp)).append (ih fun b hb => h b (by simp [hb]))
theorem refJ_perm {L1 L2 R1 R2 : List (List Val)} (lo ro : Int) (h1 : L1.Perm L2) (h2 : R1.Perm R2) : (refJ L1 R1 lo ro).Perm (refJ L2 R2 lo ro) := by
 rw [refJ_eq, refJ_eq]
 exact (h1.flatMap_right _).trans (flatMap_permL L2 fun x _ => (h2.filter _).map _)
theorem refJ_right {L R : List (List Val)} (lo ro : Int) (h1 : RtR L) (h2 : RtR R) : RtR (refJ L R lo ro) := by
 rw [refJ_eq]
 intro l hl v hv
 obtain ⟨x, hx, hm⟩ := List.mem_flatMap.1 hl
 obtain ⟨r, hr, rfl⟩ := List.mem_map.1 hm
 rcases List.mem_append.1 hv with hv | hv
 ·exact h1 x hx v hv
 ·exact h2 r (List.mem_filter.1 hr).1 v hv
theorem filt_right {R : List (List Val)} (ts : List Tm) (h : RtR R) : RtR (R.flatMap (filtF ts)) := by
 intro l hl
 obtain ⟨x, hx, hm⟩ := List.mem_flatMap.1 hl
 unfold filtF at hm
 split at hm
 ·rw [List.mem_singleton.1 hm]; exact h x hx
 ·simp at hm
theorem proj_right {R : List (List Val)} (ps : List Int) (h : RtR R) : RtR (R.flatMap (projF ps)) := by
 intro l hl
 obtain ⟨x, hx, hm⟩ := List.mem_flatMap.1 hl
 unfold projF at hm
 rw [List.mem_singleton.1 hm]
 exact right_pick (h x hx) ps
theorem ansV_perm {q : Qy} {L1 L2 R1 R2 : List (List Val)} (h1 : L1.Perm L2) (h2 : R1.Perm R2) (r1 : RtR L1) (r2 : RtR R1) : ansV q L1 R1 = ansV q L2 R2 := by
 have hb : (baseV q L1 R1).Perm (baseV q L2 R2) ∧ RtR (baseV q L1 R1) := by
  unfold baseV
  split
  ·exact ⟨refJ_perm _ _ h1 h2, refJ_right _ _ r1 r2⟩
  ·exact ⟨h1, r1⟩
 unfold ansV
 rw [hb.1.length_eq]
 split
 ·rfl
 ·have hf := hb.1.flatMap_right (filtF q.wh.l)
  have rf := filt_right q.wh.l hb.2
  unfold ansS shapeV
  cases q.gr with
  | true =>
   simp only [if_true]
   rw [refG_perm hf rf]
  | false =>
   simp only [Bool.false_eq_true, if_false]
   have hpj := hf.flatMap_right (projF q.cl.l)
   rw [hpj.length_eq, srtO_same q.od.l _ _ hpj (proj_right q.cl.l rf)]
end Go.Proofs.YtcgkkofmnajedabDoor
end

section
namespace Go.Proofs.YtcgkkofmnajedabDoor
open Go.ChangeShapes Go.WideShapes Go.ChangeAt Go.RowKit Go.Hay
set_option linter.unusedVariables false
set_option linter.unusedSimpArgs false

theorem cellsYI : Tryd.prog.cellsOf 3 = 1 := by kernel_rfl
theorem bytesYI : Tryd.prog.bytesOf 3 = 8 := by kernel_rfl
section
variable {H : Type} {enc : TypeId × Value → H} {W : World} {a : Option Addr} {len cap : Nat} {d : DataW H} {ps : List MemPlace}
theorem openVlists (h : DataW.Trod enc Tryd.prog W 0 (fun _ => true) true 28 (.slice a len cap) d ps) :
  ∃ l : List Vs, len = l.length ∧ VsE.See W a l ∧ (∀ y ∈ l, y.lies W) ∧ l.length ≤ cap ∧ cap ≤ maxLen ∧ (a = none → cap = 0) ∧ (Fit 28 d → cap * 24 ≤ 140737488351232 ∧ ∀ y ∈ l, y.c * 40 ≤ 140737488351232) ∧ (l.map fun y => y.l.length).sum ≤ Rows.uptoBulk d ∧ cap + 1 ≤ Rows.uptoBulk d :=
 openEls VsE Tryd.underlying28 cellsVs 24 bytesVs (fun y => y.lies W) (fun y => y.c * 40 ≤ 140737488351232) (fun y => y.l.length) (fun fuel cs x hx hcs => by
  obtain ⟨v, rfl⟩ : ∃ v, cs = [v] := by
   match cs, hcs with
   | [v], _ => exact ⟨v, rfl⟩
  have hv : ∃ a len cap, v = .slice a len cap := by
   rcases Go.Deep.open_slice Tryd.underlying39 hx with ⟨hcs, _⟩ | ⟨a, len, cap, _, _, _, _, hcs, _⟩
   ·exact ⟨none, 0, 0, by simpa using hcs⟩
   ·exact ⟨_, _, _, by simpa using hcs⟩
  obtain ⟨a, len, cap, rfl⟩ := hv
  have ht : DataW.Trod enc Tryd.prog W 0 (fun _ => true) true 39 (.slice a len cap) x.1 x.2 := ⟨fuel, hx⟩
  obtain ⟨l, rfl, hs, _, hl, hm, hn, hf, _, hb⟩ := openXv ht
  exact ⟨⟨a, cap, l⟩, ⟨seeV.1 hs, hl, hm, hn⟩, rfl, fun h => (hf h).1, by simp only; omega⟩) h
theorem openInts (h : DataW.Trod enc Tryd.prog W 0 (fun _ => true) true 23 (.slice a len cap) d ps) :
  ∃ l : List Int, len = l.length ∧ IntE.See W a l ∧ (∀ y ∈ l, True) ∧ l.length ≤ cap ∧ cap ≤ maxLen ∧ (a = none → cap = 0) ∧ (Fit 23 d → cap * 8 ≤ 140737488351232 ∧ ∀ y ∈ l, True) ∧ (l.map fun _ => 0).sum ≤ Rows.uptoBulk d ∧ cap + 1 ≤ Rows.uptoBulk d :=
 openEls IntE Tryd.underlying23 cellsYI 8 bytesYI (fun _ => True) (fun _ => True) (fun _ => 0) (fun fuel cs x hx hcs => by
  obtain ⟨v, rfl⟩ : ∃ v, cs = [v] := by
   match cs, hcs with
   | [v], _ => exact ⟨v, rfl⟩
  obtain ⟨n, e, _, _⟩ := DataW.trod_int Tryd.underlying3 hx
  simp at e
  subst e
  exact ⟨n, trivial, rfl, fun _ => trivial, Nat.zero_le _⟩) h
theorem lenOfSum {L : List Vs} {n : Nat} (h : (L.map fun y => y.l.length).sum ≤ n) : ∀ x ∈ L, x.l.length ≤ n := by
 induction L with
 | nil => simp
 | cons y L ih =>
  simp at h
  intro x hx
  rcases List.mem_cons.1 hx with rfl | hx
  ·omega
  ·exact ih (by omega) x hx
end
end Go.Proofs.YtcgkkofmnajedabDoor
end

section
namespace Go.Proofs.YtcgkkofmnajedabDoor
open Go.ChangeShapes Go.WideShapes Go.ChangeAt Go.RowKit Go.Hay
set_option linter.unusedVariables false
set_option linter.unusedSimpArgs false

theorem cellsU1 : Tryd.prog.cellsOf 3 = 1 := by kernel_rfl
theorem cellsU2 : Tryd.prog.cellsOf 4 = 1 := by kernel_rfl
theorem cellsU3 : Tryd.prog.cellsOf 114 = 2 := by kernel_rfl
theorem bytesU3 : Tryd.prog.bytesOf 114 = 16 := by kernel_rfl
theorem cellsU4 : Tryd.prog.cellsOf 38 = 2 := by kernel_rfl
theorem bytesU4 : Tryd.prog.bytesOf 38 = 16 := by kernel_rfl
section
variable {H : Type} {enc : TypeId × Value → H} {W : World} {a : Option Addr} {len cap : Nat} {d : DataW H} {ps : List MemPlace}
theorem openOrders (h : DataW.Trod enc Tryd.prog W 0 (fun _ => true) true 25 (.slice a len cap) d ps) :
  ∃ l : List (Int × Bool), len = l.length ∧ OrE.See W a l ∧ (∀ y ∈ l, True) ∧ l.length ≤ cap ∧ cap ≤ maxLen ∧ (a = none → cap = 0) ∧ (Fit 25 d → cap * 16 ≤ 140737488351232 ∧ ∀ y ∈ l, True) ∧ (l.map fun _ => 0).sum ≤ Rows.uptoBulk d ∧ cap + 1 ≤ Rows.uptoBulk d :=
 openEls OrE Tryd.underlying25 cellsU3 16 bytesU3 (fun _ => True) (fun _ => True) (fun _ => 0) (fun fuel cs x hx hcs => by
  match cs, hcs with
  | [c0, c1], _ =>
   obtain ⟨xs, n, _, rfl, _, hlen, hf⟩ := DataW.trod_struct Tryd.underlying114 hx
   match xs, hlen with
   | [y0, y1], _ =>
    have h0 := hf 0 _ rfl
    have h1 := hf 1 _ rfl
    simp [cellsU1, cellsU2] at h0 h1
    obtain ⟨k, e0, _, w0⟩ := DataW.trod_int Tryd.underlying3 h0
    obtain ⟨b, e1, _⟩ := DataW.trod_bool Tryd.underlying4 h1
    simp at e0 e1
    subst e0 e1
    exact ⟨(k, b), trivial, rfl, fun _ => trivial, Nat.zero_le _⟩) h
theorem openAggs (h : DataW.Trod enc Tryd.prog W 0 (fun _ => true) true 24 (.slice a len cap) d ps) :
  ∃ l : List (Int × Int), len = l.length ∧ AgE.See W a l ∧ (∀ y ∈ l, True) ∧ l.length ≤ cap ∧ cap ≤ maxLen ∧ (a = none → cap = 0) ∧ (Fit 24 d → cap * 16 ≤ 140737488351232 ∧ ∀ y ∈ l, True) ∧ (l.map fun _ => 0).sum ≤ Rows.uptoBulk d ∧ cap + 1 ≤ Rows.uptoBulk d :=
 openEls AgE Tryd.underlying24 cellsU4 16 bytesU4 (fun _ => True) (fun _ => True) (fun _ => 0) (fun fuel cs x hx hcs => by
  match cs, hcs with
  | [c0, c1], _ =>
   obtain ⟨xs, n, _, rfl, _, hlen, hf⟩ := DataW.trod_struct Tryd.underlying38 hx
   match xs, hlen with
   | [y0, y1], _ =>
    have h0 := hf 0 _ rfl
    have h1 := hf 1 _ rfl
    simp [cellsU1, cellsU2] at h0 h1
    obtain ⟨k, e0, _, w0⟩ := DataW.trod_int Tryd.underlying3 h0
    obtain ⟨b, e1, _, w1⟩ := DataW.trod_int Tryd.underlying3 h1
    simp at e0 e1
    subst e0 e1
    exact ⟨(k, b), trivial, rfl, fun _ => trivial, Nat.zero_le _⟩) h
end
end Go.Proofs.YtcgkkofmnajedabDoor
end

section
namespace Go.Proofs.YtcgkkofmnajedabDoor
open Go.ChangeShapes Go.WideShapes Go.ChangeAt Go.RowKit Go.Hay
set_option linter.unusedVariables false
set_option linter.unusedSimpArgs false

theorem cellsQ0 : Tryd.prog.cellsOf 27 = 12 := by kernel_rfl
theorem cellsQ1 : Tryd.prog.cellsOf 22 = 1 := by kernel_rfl
theorem cellsQ2 : Tryd.prog.cellsOf 23 = 1 := by kernel_rfl
theorem cellsQ3 : Tryd.prog.cellsOf 24 = 1 := by kernel_rfl
theorem cellsQ4 : Tryd.prog.cellsOf 25 = 1 := by kernel_rfl
section
variable {H : Type} {enc : TypeId × Value → H} {W : World} {a : Option Addr} {len cap : Nat} {d : DataW H} {ps : List MemPlace}
theorem openIntQ {fuel : Nat} {v : Value} {x : DataW H × List MemPlace} (h : DataW.trod enc Tryd.prog W 0 (fun _ => true) true fuel 3 [v] = some x) : ∃ n : Int, v = .int .i64 n ∧ -9223372036854775808 ≤ n ∧ n ≤ 9223372036854775807 := by
 obtain ⟨n, e0, _, w0⟩ := DataW.trod_int Tryd.underlying3 h
 have hb := bounds_i64 w0
 exact ⟨n, by simpa using e0, hb.1, hb.2⟩
theorem openBoolQ {fuel : Nat} {v : Value} {x : DataW H × List MemPlace} (h : DataW.trod enc Tryd.prog W 0 (fun _ => true) true fuel 4 [v] = some x) : ∃ n : Bool, v = .bool n := by
 obtain ⟨n, e0, _⟩ := DataW.trod_bool Tryd.underlying4 h
 exact ⟨n, by simpa using e0⟩
theorem slQ {t : TypeId} {e : TypeId} (ht : Tryd.prog.underlying t = some (.slice e)) {fuel : Nat} {v : Value} {x : DataW H × List MemPlace} (h : DataW.trod enc Tryd.prog W 0 (fun _ => true) true fuel t [v] = some x) : ∃ a len cap, v = .slice a len cap := by
 rcases Go.Deep.open_slice ht h with ⟨hcs, _⟩ | ⟨a, len, cap, _, _, _, _, hcs, _⟩
 ·exact ⟨none, 0, 0, by simpa using hcs⟩
 ·exact ⟨_, _, _, by simpa using hcs⟩
/-- A query as it lies, and how much its slices hold. -/
structure Qy.lies (W : World) (q : Qy) (n : Nat) : Prop where
 wh : TmE.See W q.wh.a q.wh.l
 cl : IntE.See W q.cl.a q.cl.l
 by_ : IntE.See W q.by_.a q.by_.l
 ag : AgE.See W q.ag.a q.ag.l
 od : OrE.See W q.od.a q.od.l
 nil : (q.wh.a = none → q.wh.c = 0) ∧ (q.cl.a = none → q.cl.c = 0) ∧ (q.by_.a = none → q.by_.c = 0) ∧ (q.ag.a = none → q.ag.c = 0) ∧ (q.od.a = none → q.od.c = 0)
 few : q.wh.l.length ≤ n ∧ q.cl.l.length ≤ n ∧ q.by_.l.length ≤ n ∧ q.ag.l.length ≤ n ∧ q.od.l.length ≤ n
 lim : -9223372036854775808 ≤ q.lim ∧ q.lim ≤ 9223372036854775807
theorem Qy.lies.ok {q : Qy} {n : Nat} (h : q.lies W n) (hn : n ≤ 1048576) : q.ok W := by
 obtain ⟨f1, f2, f3, f4, f5⟩ := h.few
 obtain ⟨n1, n2, n3, n4, n5⟩ := h.nil
 exact ⟨⟨h.wh, n1, by omega⟩, ⟨h.cl, n2, by omega⟩, ⟨h.by_, n3, by omega⟩, ⟨h.ag, n4, by omega⟩, ⟨h.od, n5, by omega⟩, h.lim.2⟩
set_option maxRecDepth 100000 in
theorem openQuery {base : Nat} {v : Value} (hv : Value.okWide Tryd.prog W .any base 27 v) (h : DataW.Trod enc Tryd.prog W 0 (fun _ => true) true 27 v d ps) : ∃ q : Qy, v = .agg q.cs.toArray ∧ q.lies W (Rows.uptoBulk d) := by
 obtain ⟨cs, rfl, hsz⟩ := okWide_struct Tryd.underlying27 hv
 rw [cellsQ0] at hsz
 obtain ⟨fuel, hf⟩ := h
 obtain ⟨l⟩ := cs
 match l, hsz, hf with
 | [c0, c1, c2, c3, c4, c5, c6, c7, c8, c9, c10, c11], _, hf =>
  have hf' : DataW.trod enc Tryd.prog W 0 (fun _ => true) true fuel 27 [c0, c1, c2, c3, c4, c5, c6, c7, c8, c9, c10, c11] = some (d, ps) := hf
  obtain ⟨xs, n, _, ed, _, hlen, hff⟩ := DataW.trod_struct Tryd.underlying27 hf'
  match xs, hlen with
  | [y0, y1, y2, y3, y4, y5, y6, y7, y8, y9, y10, y11], _ =>
   have h0 := hff 0 _ rfl
   have h1 := hff 1 _ rfl
   have h2 := hff 2 _ rfl
   have h3 := hff 3 _ rfl
   have h4 := hff 4 _ rfl
   have h5 := hff 5 _ rfl
   have h6 := hff 6 _ rfl
   have h7 := hff 7 _ rfl
   have h8 := hff 8 _ rfl
   have h9 := hff 9 _ rfl
   have h10 := hff 10 _ rfl
   have h11 := hff 11 _ rfl
   simp [cellsU1, cellsU2, cellsQ1, cellsQ2, cellsQ3, cellsQ4] at h0 h1 h2 h3 h4 h5 h6 h7 h8 h9 h10 h11
   obtain ⟨tb, e0, _⟩ := openIntQ h0
   obtain ⟨jn, e1⟩ := openBoolQ h1
   obtain ⟨rt, e2, _⟩ := openIntQ h2
   obtain ⟨lo, e3, _⟩ := openIntQ h3
   obtain ⟨ro, e4, _⟩ := openIntQ h4
   obtain ⟨wa, wn, wc, rfl⟩ := slQ Tryd.underlying22 h5
   obtain ⟨ca, cn, cc, rfl⟩ := slQ Tryd.underlying23 h6
   obtain ⟨gr, e7⟩ := openBoolQ h7
   obtain ⟨ya, yn, yc, rfl⟩ := slQ Tryd.underlying23 h8
   obtain ⟨ga, gn, gc, rfl⟩ := slQ Tryd.underlying24 h9
   obtain ⟨oa, on, oc, rfl⟩ := slQ Tryd.underlying25 h10
   obtain ⟨lim, e11, hb⟩ := openIntQ h11
   obtain ⟨wl, rfl, ws, _, wl1, wl2, wl3, _, _, wl4⟩ := openTerms ⟨_, h5⟩
   obtain ⟨cl, rfl, cs', _, cl1, cl2, cl3, _, _, cl4⟩ := openInts ⟨_, h6⟩
   obtain ⟨yl, rfl, ys, _, yl1, yl2, yl3, _, _, yl4⟩ := openInts ⟨_, h8⟩
   obtain ⟨gl, rfl, gs, _, gl1, gl2, gl3, _, _, gl4⟩ := openAggs ⟨_, h9⟩
   obtain ⟨ol, rfl, os, _, ol1, ol2, ol3, _, _, ol4⟩ := openOrders ⟨_, h10⟩
   subst e0 e1 e2 e3 e4 e7 e11
   have hd : Rows.uptoBulk y5.1 ≤ Rows.uptoBulk d ∧ Rows.uptoBulk y6.1 ≤ Rows.uptoBulk d ∧ Rows.uptoBulk y8.1 ≤ Rows.uptoBulk d ∧ Rows.uptoBulk y9.1 ≤ Rows.uptoBulk d ∧ Rows.uptoBulk y10.1 ≤ Rows.uptoBulk d := by
    have e := (Prod.mk.inj ed).1
    rw [e]
    simp only [Rows.uptoBulk, List.map_cons, List.map_nil, Rows.uptoBulkAll]
    omega
   refine ⟨⟨tb, jn, rt, lo, ro, ⟨wa, wc, wl⟩, ⟨ca, cc, cl⟩, gr, ⟨ya, yc, yl⟩, ⟨ga, gc, gl⟩, ⟨oa, oc, ol⟩, lim⟩, rfl, ⟨ws, cs', ys, gs, os, ⟨wl3, cl3, yl3, gl3, ol3⟩, ?_, hb⟩⟩
   dsimp only
   omega
end
end Go.Proofs.YtcgkkofmnajedabDoor
end

section
namespace Go.Proofs.YtcgkkofmnajedabDoor
open Go.RowKit Go.Hay
attribute [local go_sem] Oper.semAt_some
set_option linter.unusedVariables false
set_option linter.unusedSimpArgs false

theorem allRP_rt {L : List Vs} (h : allRP L = true) : RtR (L.map (·.l)) := fun l hl v hv => by
 obtain ⟨x, hx, rfl⟩ := List.mem_map.1 hl
 exact List.all_eq_true.1 (List.all_eq_true.1 h x hx) v hv
set_option maxHeartbeats 16000000 in
set_option maxRecDepth 100000 in
theorem ordersWalk (q : Qy) (a : Option Addr) (ca : Nat) (L : List Vs) (b : Option Addr) (cb : Nat) (M : List Vs) (w : World) (hq : q.ok w) (hA : Asks w) (hs : VsE.See w a L) (hx : ∀ x ∈ L, x.lies w) (ht : VsE.See w b M) (hy : ∀ x ∈ M, x.lies w) (hl : L.length ≤ 1048576) (hm : M.length ≤ 1048576) (hr : ∀ x ∈ L, x.l.length ≤ 1048576) (hrm : ∀ x ∈ M, x.l.length ≤ 1048576) :
  Calls Tryd.prog 3 #[.agg q.cs.toArray, .slice a L.length ca, .slice b M.length cb] w fun e w' => e = .returned (.bool true) ∧ Below w.heap.size w w' := by
 obtain ⟨P, hP⟩ : ∃ P, Hid (L.length * M.length = P) := ⟨_, hid rfl⟩
 have hPm : ((L.length : Int) * (M.length : Int)) = (P : Int) := by rw [← hP.out]; simp
 have hPb : P ≤ 1048576 * 1048576 := by rw [← hP.out]; exact Nat.mul_le_mul hl hm
 have hPw : IntKind.i64.wrap (P : Int) = (P : Int) := by rw [IntKind.wrap_i64]; omega
 have cAl : Hid (∀ W, Kp [] w W → Calls Tryd.prog 5 #[] W fun e w' => e = .returned (.bool true) ∧ Kp [] W w') := hid fun W k => cAlive16 W (hA.kept k (by simp))
 obtain ⟨w1, hw1, k1, b1⟩ : ∃ x, w.alloc (.cells q.cs.toArray 27) = x ∧ Kp [] w x ∧ Bn x w.heap.size q.cs := ⟨_, rfl, (Kp.refl _ _).alloc _, Bn.new w _ _⟩
 obtain ⟨q2, hq2⟩ : ∃ x, Hid (w.heap.size = x) := ⟨_, hid rfl⟩
 rw [hq2.out] at b1
 by_cases hbig : P ≤ 1000000
 ·obtain ⟨S, hS⟩ : ∃ S, Hid (ansV q (L.map (·.l)) (M.map (·.l)) = S) := ⟨_, hid rfl⟩
  have HAn : Hid (∀ (a : Option Addr) (ca : Nat) (L' : List Vs) (b : Option Addr) (cb : Nat) (M' : List Vs) W, Kp [] w W → L'.length = L.length → M'.length = M.length → VsE.See W a L' → VsE.See W b M' → (∀ x ∈ L', x ∈ L) → (∀ x ∈ M', x ∈ M) → ansV q (L'.map (·.l)) (M'.map (·.l)) = S → Calls Tryd.prog 7 #[.agg q.cs.toArray, .slice a L.length ca, .slice b M.length cb] W (AnsP S W)) := hid fun a' ca' L' b' cb' M' W k e1 e2 s1 s2 m1 m2 eS => by
   have h := cAnswer q a' ca' L' b' cb' M' W (hq.kept k) (hA.kept k (by simp)) s1 (fun x h => (hx x (m1 x h)).ck (CK.ofKp k) (by simp)) s2 (fun x h => (hy x (m2 x h)).ck (CK.ofKp k) (by simp)) (by omega) (by omega) (fun x h => hr x (m1 x h)) (fun x h => hrm x (m2 x h)) (fun _ => by rw [e1, e2, hP.out]; omega)
   rw [eS, e1, e2] at h
   exact h
  have HSe : Hid (∀ W, Kp [] w W → VsE.See W a L ∧ VsE.See W b M) := hid fun W k => ⟨ckSee (CK.ofKp k) hs (by simp), ckSee (CK.ofKp k) ht (by simp)⟩
  have cT : Hid (∀ W, Kp [] w W → Calls Tryd.prog 6 #[.slice a L.length ca] W (TurP L W) ∧ Calls Tryd.prog 6 #[.slice b M.length cb] W (TurP M W)) := hid fun W k => ⟨rTurned a ca L W (ckSee (CK.ofKp k) hs (by simp)) (fun x h => (hx x h).ck (CK.ofKp k) (by simp)) hl hr, rTurned b cb M W (ckSee (CK.ofKp k) ht (by simp)) (fun x h => (hy x h).ck (CK.ofKp k) (by simp)) hm hrm⟩
  have HSb : Hid (∀ R, S = some R → R.length ≤ 4096) := hid fun R hR => by
   rw [← hS.out] at hR
   unfold ansV ansS at hR
   split at hR
   ·cases hR
   ·split at hR
    ·cases hR
    ·cases hR
     rename_i h
     have := (srtO_perm q.od.l (shapeV q ((baseV q (L.map (·.l)) (M.map (·.l))).flatMap (filtF q.wh.l)))).length_eq
     unfold limV
     split
     ·rw [List.length_take]; omega
     ·omega
  have K1 := hid k1
  have HB1 := hid b1
  clear hq hA hs hx ht hy hr hrm k1
  have hSp : Hid (allRP L = true → allRP M = true → ansV q (L.reverse.map (·.l)) (M.reverse.map (·.l)) = S) := hid fun r1 r2 => by
   rw [← hS.out]
   exact (ansV_perm ((List.reverse_perm L).symm.map _) ((List.reverse_perm M).symm.map _) (allRP_rt r1) (allRP_rt r2)).symm
  obtain ⟨tb, jn, rt, lo, ro, ⟨wa, wc, wl⟩, ⟨ca', cc, cl⟩, gr, ⟨ya, yc, yl⟩, ⟨ga, gc, gl⟩, ⟨oa, oc, ol⟩, lim⟩ := q
  simp only [Qy.cs, Sl.v] at hw1 HAn HB1 b1 ⊢
  have HB := hid (fun (W : World) (k : Kp [] w1 W) => HB1.out.kept k)
  have c1 := hid (cT.out w1 K1.out).1
  have t1 : ¬ (P : Int) > 1000000 := by omega
  have t2 : decide ((P : Int) > 1000000) = false := by simp; omega
  have hq2' := hq2.out
  clear b1
  go_enter Tryd.func3, Tryd.ntmps3
  go_wp2_with fail
  refine c1.out.mono ?_
  rintro e w2 ⟨k2, hT1⟩
  have K2 := hid (K1.out.trans k2 (by simp))
  have KK2 := hid k2
  have c2 := hid (cT.out w2 K2.out).2
  clear c1 k2
  obtain ⟨ta, tc, u, hu, he1⟩ : ∃ ta tc u, Hid (allRP L = u ∧ (u = true → VsE.Row w2 (.slice ta L.reverse.length tc) L.reverse)) ∧ ∃ n : Nat, e = .returned (.tuple #[.slice ta n tc, .bool u]) ∧ Hid (u = true → n = L.length) := by
   rcases hT1 with ⟨h1, rfl⟩ | ⟨h1, ta, tc, rfl, h2⟩
   ·exact ⟨none, 0, false, hid ⟨h1, fun h => by cases h⟩, 0, rfl, hid fun h => by cases h⟩
   ·exact ⟨ta, tc, true, hid ⟨h1, fun _ => h2⟩, L.length, rfl, hid fun _ => rfl⟩
  obtain ⟨n1, rfl, hn1⟩ := he1
  clear hT1
  go_wp2_with fail
  refine c2.out.mono ?_
  rintro e w3 ⟨k3, hT2⟩
  have K3 := hid (K2.out.trans k3 (by simp))
  have KK3 := hid k3
  obtain ⟨tb', td, v, hv, he2⟩ : ∃ ta tc u, Hid (allRP M = u ∧ (u = true → VsE.Row w3 (.slice ta M.reverse.length tc) M.reverse)) ∧ ∃ n : Nat, e = .returned (.tuple #[.slice ta n tc, .bool u]) ∧ Hid (u = true → n = M.length) := by
   rcases hT2 with ⟨h1, rfl⟩ | ⟨h1, ta, tc, rfl, h2⟩
   ·exact ⟨none, 0, false, hid ⟨h1, fun h => by cases h⟩, 0, rfl, hid fun h => by cases h⟩
   ·exact ⟨ta, tc, true, hid ⟨h1, fun _ => h2⟩, M.length, rfl, hid fun _ => rfl⟩
  obtain ⟨n2, rfl, hn2⟩ := he2
  clear hT2 c2 k3
  by_cases huv : u = true ∧ v = true
  ·obtain ⟨rfl, rfl⟩ := huv
   obtain rfl := hn1.out rfl
   obtain rfl := hn2.out rfl
   have b3 := HB.out w3 (KK2.out.trans KK3.out (by simp))
   have s0 := b3.get 0 _ rfl; have s1 := b3.get 1 _ rfl; have s2 := b3.get 2 _ rfl; have s3 := b3.get 3 _ rfl; have s4 := b3.get 4 _ rfl; have s5 := b3.get 5 _ rfl; have s6 := b3.get 6 _ rfl; have s7 := b3.get 7 _ rfl; have s8 := b3.get 8 _ rfl; have s9 := b3.get 9 _ rfl; have s10 := b3.get 10 _ rfl; have s11 := b3.get 11 _ rfl
   have cA := hid (HAn.out a ca L b cb M w3 K3.out rfl rfl (HSe.out w3 K3.out).1 (HSe.out w3 K3.out).2 (fun _ h => h) (fun _ h => h) hS.out)
   clear b3
   go_wp2_with fail
   refine cA.out.mono ?_
   intro e w4 hP4
   have k4 : Kp [] w3 w4 := by
    cases S with
    | none => exact hP4.2
    | some R => obtain ⟨_, _, _, _, _, _, k⟩ := hP4; exact k
   have K4 := hid (K3.out.trans k4 (by simp))
   have KK4 := hid k4
   have b4 := HB.out w4 ((KK2.out.trans KK3.out (by simp)).trans k4 (by simp))
   have r1 := hu.out.2 (by trivial)
   have r2 := ckRow (CK.ofKp KK3.out) r1 (by simp)
   have r3 := ckRow (CK.ofKp k4) r2 (by simp)
   have r4 := ckRow (CK.ofKp k4) (hv.out.2 (by trivial)) (by simp)
   obtain ⟨_, _, e3, see3, _⟩ := r3.see
   rw [← (Value.slice.inj e3).1] at see3
   obtain ⟨_, _, e4, see4, _⟩ := r4.see
   rw [← (Value.slice.inj e4).1] at see4
   have cB := hid (HAn.out ta tc L.reverse tb' td M.reverse w4 K4.out (by simp) (by simp) see3 see4 (fun x h => List.mem_reverse.1 h) (fun x h => List.mem_reverse.1 h) (hSp.out hu.out.1 hv.out.1))
   clear s0 s1 s2 s3 s4 s5 s6 s7 s8 s9 s10 s11 r1 r2 r3 r4 e3 e4 see3 see4 cA k4
   have v0 := b4.get 0 _ rfl; have v1 := b4.get 1 _ rfl; have v2 := b4.get 2 _ rfl; have v3 := b4.get 3 _ rfl; have v4 := b4.get 4 _ rfl; have v5 := b4.get 5 _ rfl; have v6 := b4.get 6 _ rfl; have v7 := b4.get 7 _ rfl; have v8 := b4.get 8 _ rfl; have v9 := b4.get 9 _ rfl; have v10 := b4.get 10 _ rfl; have v11 := b4.get 11 _ rfl
   clear b4
   cases S with
   | none =>
    obtain ⟨rfl, _⟩ := hP4
    go_wp2_with fail
    refine cB.out.mono ?_
    rintro e w5 ⟨rfl, k5⟩
    have K5 := hid (K4.out.trans k5 (by simp))
    have cL := hid (cAl.out w5 K5.out)
    clear cB k5 v0 v1 v2 v3 v4 v5 v6 v7 v8 v9 v10 v11
    go_wp2_with fail
    refine cL.out.mono ?_
    rintro e w6 ⟨rfl, k6⟩
    have K6 := hid (K5.out.trans k6 (by simp))
    have cS := hid (cSameAll none none 0 0 [] [] w6 (.inl rfl) (.inl rfl) (by simp) (by simp) rfl (by simp))
    clear cL k6
    go_wp2_with fail
    refine cS.out.mono ?_
    rintro e w7 ⟨rfl, k7⟩
    have K7 := hid (K6.out.trans k7 (by simp))
    clear cS k7
    go_wp2_with fail
    go_ret
    exact ⟨rfl, K7.out.below⟩
   | some R =>
    obtain ⟨ra, rc, L1, rfl, lo4, hL1, _⟩ := hP4
    have hRb := HSb.out R rfl
    have H4 := hid (And.intro lo4 hL1)
    clear lo4 hL1
    go_wp2_with fail
    refine cB.out.mono ?_
    rintro e w5 ⟨rb, rd, M1, rfl, lo5, hM1, k5⟩
    have K5 := hid (K4.out.trans k5 (by simp))
    have cL := hid (cAl.out w5 K5.out)
    have H5 := hid (And.intro (H4.out.1.ck (CK.ofKp k5) (by simp) (by simp)) (And.intro lo5 hM1))
    clear cB k5 v0 v1 v2 v3 v4 v5 v6 v7 v8 v9 v10 v11 lo5 hM1
    go_wp2_with fail
    refine cL.out.mono ?_
    rintro e w6 ⟨rfl, k6⟩
    have K6 := hid (K5.out.trans k6 (by simp))
    have l1 := H5.out.1.ck (CK.ofKp k6) (by simp) (by simp)
    have l2 := H5.out.2.1.ck (CK.ofKp k6) (by simp) (by simp)
    obtain ⟨_, _, e1, see1, _⟩ := l1.row.see
    cases e1
    obtain ⟨_, _, e2, see2, _⟩ := l2.row.see
    cases e2
    have cS := hid (cSameAll ra rb rc rd L1 M1 w6 see1 see2 l1.lies l2.lies (by rw [H4.out.2, H5.out.2.2]) (by have := congrArg List.length H4.out.2; rw [List.length_map] at this; omega))
    clear cL k6 l1 l2 see1 see2
    go_wp2_with fail
    refine cS.out.mono ?_
    rintro e w7 ⟨rfl, k7⟩
    have K7 := hid (K6.out.trans k7 (by simp))
    clear cS k7
    go_wp2_with fail
    go_ret
    exact ⟨rfl, K7.out.below⟩
  ·have cL := hid (cAl.out w3 K3.out)
   cases u with
   | false =>
    go_wp2_with fail
    refine cL.out.mono ?_
    rintro e w4 ⟨rfl, k4⟩
    have K4 := hid (K3.out.trans k4 (by simp))
    clear cL k4
    go_wp2_with fail
    go_ret
    exact ⟨rfl, K4.out.below⟩
   | true =>
    cases v with
    | true => exact absurd ⟨rfl, rfl⟩ huv
    | false =>
     go_wp2_with fail
     refine cL.out.mono ?_
     rintro e w4 ⟨rfl, k4⟩
     have K4 := hid (K3.out.trans k4 (by simp))
     clear cL k4
     go_wp2_with fail
     go_ret
     exact ⟨rfl, K4.out.below⟩
 ·have t1 : (P : Int) > 1000000 := by omega
  have t2 : decide ((P : Int) > 1000000) = true := by simp; omega
  have cL := hid (cAl.out w1 k1)
  have K1 := hid k1
  obtain ⟨tb, jn, rt, lo, ro, ⟨wa, wc, wl⟩, ⟨ca', cc, cl⟩, gr, ⟨ya, yc, yl⟩, ⟨ga, gc, gl⟩, ⟨oa, oc, ol⟩, lim⟩ := q
  simp only [Qy.cs, Sl.v] at hw1 ⊢
  clear hq hA hs hx ht hy hr hrm b1 k1
  go_enter Tryd.func3, Tryd.ntmps3
  go_wp2_with fail
  refine cL.out.mono ?_
  rintro e w2 ⟨rfl, k2⟩
  have K2 := hid (K1.out.trans k2 (by simp))
  clear cL k2
  go_wp2_with fail
  go_ret
  exact ⟨rfl, K2.out.below⟩
end Go.Proofs.YtcgkkofmnajedabDoor
end

section
namespace Go.Proofs.YtcgkkofmnajedabDoor
open Go.ChangeShapes Go.WideShapes Go.ChangeAt Go.RowKit Go.Hay
set_option linter.unusedVariables false

set_option maxRecDepth 100000 in
theorem planOrdersContract (H : Type) (enc : TypeId × Value → H) (W : World) (base : Nat) (args : Array Value) (ds gs : List (DataW H)) (before : List MemPlace)
  (hval : ∀ (j : Nat) t v, Tryd.f3.params[j]? = some t → args[j]? = some v → Value.okWide Tryd.prog W .any base t v)
  (hW : DataW.Whole enc Tryd.prog Tryd.f3.params.toList Rows.planOrdersSpec.vars false W args.toList ds gs before)
  (hsz : (DataW.weightsEach Tryd.prog (Tryd.f3.params.toList ++ (Rows.OpenSpec.upto Rows.planOrdersSpec).bare.plain.varTypes Tryd.prog) (ds ++ gs)).all (· ≤ reachBytes) = true)
  (hk : Rows.uptoSmall H (ds ++ gs) = true)
  (hL : laidMetH Tryd.prog Rows.planOrdersUptoRow.laid W) :
  Calls Tryd.prog 3 args W fun e W' => ∃ v, e = .returned v ∧ Rows.planOrdersSpec.post enc Tryd.prog Tryd.f3 false true false false W args v W' := by
 have hW' := hW
 obtain ⟨p, q, hA0, hV, rfl, hfz, hnd⟩ := hW
 have hA : DataW.TrodAll enc Tryd.prog W 0 (fun _ => true) true Tryd.f3.params.toList args.toList ds p := hA0
 rw [Tryd.params3] at hA hval hsz
 obtain ⟨v0, vs0, d0, ds0, p0, q0, hargs, rfl, rfl, h0, r0⟩ := trodAll_cons hA
 obtain ⟨v1, vs1, d1, ds1, p1, q1, rfl, rfl, rfl, h1, r1⟩ := trodAll_cons r0
 obtain ⟨v2, vs2, d2, ds2, p2, q2, rfl, rfl, rfl, h2, r2⟩ := trodAll_cons r1
 obtain ⟨rfl, rfl, rfl⟩ := trodAll_nil r2
 obtain rfl : args = #[v0, v1, v2] := by cases args; simp_all
 obtain ⟨rfl, rfl⟩ := trodVars_none hV
 have k0 := h0
 have lt0 : ∀ x ∈ p0, x.block < W.heap.size := by obtain ⟨m, hm⟩ := k0; exact DataW.trod_lt m _ _ _ hm
 obtain ⟨x0, rfl, ok0⟩ := openQuery (hval 0 27 v0 rfl rfl) h0
 obtain ⟨a1, len1, cap1, rfl⟩ := okWide_slice Tryd.underlying28 (hval 1 28 v1 rfl rfl)
 have k1 := h1
 have lt1 : ∀ x ∈ p1, x.block < W.heap.size := by obtain ⟨m, hm⟩ := k1; exact DataW.trod_lt m _ _ _ hm
 obtain ⟨l1, rfl, hs1, hok1, hl1, hm1, hn1, hfit1, hbk1, hcp1⟩ := openVlists h1
 obtain ⟨hc1, hq1⟩ := hfit1 (List.all_eq_true.2 fun x hx => List.all_eq_true.1 hsz x (by simp [DataW.weightsEach]; first | exact .inl hx | exact .inr hx | exact .inr (.inl hx) | exact .inr (.inr hx) | exact hx))
 obtain ⟨a2, len2, cap2, rfl⟩ := okWide_slice Tryd.underlying28 (hval 2 28 v2 rfl rfl)
 have k2 := h2
 have lt2 : ∀ x ∈ p2, x.block < W.heap.size := by obtain ⟨m, hm⟩ := k2; exact DataW.trod_lt m _ _ _ hm
 obtain ⟨l2, rfl, hs2, hok2, hl2, hm2, hn2, hfit2, hbk2, hcp2⟩ := openVlists h2
 obtain ⟨hc2, hq2⟩ := hfit2 (List.all_eq_true.2 fun x hx => List.all_eq_true.1 hsz x (by simp [DataW.weightsEach]; first | exact .inl hx | exact .inr hx | exact .inr (.inl hx) | exact .inr (.inr hx) | exact hx))
 have hbk := of_decide_eq_true hk
 simp only [List.append_nil, Rows.uptoBulkAll] at hbk
 clear hA0
 refine (ordersWalk x0 a1 cap1 l1 a2 cap2 l2 W (ok0.ok (by omega)) (table hL) hs1 hok1 hs2 hok2 (by omega) (by omega) (fun x h => by have := lenOfSum hbk1 x h; omega) (fun x h => by have := lenOfSum hbk2 x h; omega)).mono fun e W' ⟨he, bel⟩ => ?_
 subst he
 exact ⟨_, rfl, _, _, _, [], _, [], hW', trodAll_mk1 (shut_bool Tryd.underlying4 _), (trodAll_cons_mk (Below.trod Tryd.laidOut (by kernel_rfl) (of_decide_eq_true (by kernel_rfl)) k0 bel lt0) (trodAll_cons_mk (Below.trod Tryd.laidOut (by kernel_rfl) (of_decide_eq_true (by kernel_rfl)) k1 bel lt1) (trodAll_cons_mk (Below.trod Tryd.laidOut (by kernel_rfl) (of_decide_eq_true (by kernel_rfl)) k2 bel lt2) trodAll_mk0))), rfl, bel.frame _, fun h => by cases h⟩

set_option maxRecDepth 100000 in
theorem planOrdersLifted (os : Os) (started : os.Started) (H : Type) (enc : TypeId × Value → H) (F : Stop.Interp) :
  ReturnsInHanded {} Tryd.checked os 3 .any ((Rows.OpenSpec.upto Rows.planOrdersSpec).preRow enc Tryd.prog Tryd.f3 Rows.planOrdersUptoRow.domain false Rows.planOrdersUptoRow.laid) (((Rows.OpenSpec.upto Rows.planOrdersSpec).at F).post enc Tryd.prog Tryd.f3 false true false false) := by
 refine returnsInHanded_of_row (C := Tryd.checked) (s := Rows.OpenSpec.upto Rows.planOrdersSpec) Tryd.own started (by kernel_rfl) Tryd.func3
  (witness_row_at (enc := enc) (C := Tryd.checked) false ({ World.holding Tryd.prog os ⟨#[], #[], []⟩ with heap := (World.holding Tryd.prog os ⟨#[], #[], []⟩).heap.modify 0 fun
   | .cells _ t frozen => .cells tabCells t frozen
   | o => o }) #[.agg #[.int .i64 0, .bool false, .int .i64 0, .int .i64 0, .int .i64 0, .slice none 0 0, .slice none 0 0, .bool false, .slice none 0 0, .slice none 0 0, .slice none 0 0, .int .i64 0], .slice none 0 0, .slice none 0 0] rfl (by kernel_rfl) (by kernel_rfl) (by kernel_rfl)
   (OpenSpec.preRow_of_cond (x := ([.agg [.lit (.int .i64 0), .lit (.bool false), .lit (.int .i64 0), .lit (.int .i64 0), .lit (.int .i64 0), .nil, .nil, .lit (.bool false), .nil, .nil, .nil, .lit (.int .i64 0)], .nil, .nil], [], [])) 8 (by kernel_rfl) (by kernel_rfl) (fun k hk => by cases hk; kernel_rfl) (by kernel_rfl) (laidMet_of_run' 8 (by kernel_rfl) (by kernel_rfl)))) ?_
 intro W base args ds gs before hval hW _ hcond hsz hL _ _
 exact planOrdersContract H enc W base args ds gs before hval hW hsz (hcond _ rfl) hL

theorem planOrdersSaid : Rows.PlanOrdersUptoSaid :=
 OpenClaim.holds_of_cond 3 Tryd.f3 rfl rfl rfl rfl rfl rfl rfl ⟨rfl, rfl, rfl, rfl, rfl⟩ rfl rfl rfl rfl rfl (by kernel_rfl) Tryd.func3 (by kernel_rfl)
  (of_decide_eq_true (by kernel_rfl)) (by unfold Func.isWrapper; first | (rw [if_pos (by decide +kernel)]; kernel_rfl) | (rw [if_neg (by decide +kernel)]; exact ⟨rfl, rfl⟩))
  (fun os started H enc _ F => by rw [OpenClaim.pre_eq_preRow]; exact planOrdersLifted os started H enc F)

theorem planOrdersPlain (f : FuncId) (fn : Func) (hf : Tryd.pinned.checked.prog.funcNamed "hayloft/hayloftlaw16.PlanOrders" = some f) (hfn : Tryd.pinned.checked.prog.funcs[f]? = some fn) :
  false = Tryd.pinned.checked.prog.looks [] ∧ ∀ (j : Nat) t, fn.params[j]? = some t → Tryd.pinned.checked.prog.wantsStandIn t = false := by
 obtain rfl : f = 3 := Option.some.inj ((show Tryd.prog.funcNamed "hayloft/hayloftlaw16.PlanOrders" = some 3 by kernel_rfl).symm.trans hf) |>.symm
 obtain rfl : fn = Tryd.f3 := (Option.some.inj (Tryd.func3.symm.trans hfn)).symm
 refine ⟨by kernel_rfl, fun j t ht => ?_⟩
 rw [Tryd.params3] at ht
 have hm := Array.mem_of_getElem? ht
 have h2 : t = 27 ∨ t = 28 := by first | (simpa using hm) | (rcases (show t = 27 ∨ t = 28 ∨ t = 28 from by simpa using hm) with h | h | h <;> simp [h])
 rcases h2 with rfl | rfl
 ·exact (show Tryd.prog.wantsStandIn 27 = false by kernel_rfl)
 ·exact (show Tryd.prog.wantsStandIn 28 = false by kernel_rfl)

theorem PlanOrders_holds : Rows.PlanOrdersUptoCardSaid :=
 Claim7.holds_tied_plain_at .later [] _ _ _ _ planOrdersSaid (fun _ h => by cases h) (by kernel_rfl) (fun _ h => by cases h) planOrdersUpto_row_tie rfl ⟨rfl, rfl⟩ (by kernel_rfl) rfl planOrdersPlain (by kernel_rfl)
#print axioms PlanOrders_holds
end Go.Proofs.YtcgkkofmnajedabDoor
end

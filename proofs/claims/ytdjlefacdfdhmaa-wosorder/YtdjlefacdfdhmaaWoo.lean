/- WosOrder: the card. -/
import Derived.Test.YtdjlefacdfdhmaaB11
import Derived.SizedLaws
import Derived.JoinedCond
import Derived.Deep.CondSized
section
namespace Go.Hay
open Go.RowKit
set_option linter.unusedVariables false
set_option linter.unusedSimpArgs false
/-- Whether it is taken in at all. -/
def okv (x : Vn) : Prop := ¬ (x.del ≠ 0 ∧ x.del ≤ x.ep)
/-- They hold these, and no others. -/
def Hold (l T : List Vn) : Prop := ∀ z, z ∈ l.map Vn.p ↔ ∃ x ∈ T, okv x ∧ x.p = z
theorem Hold.nil : Hold [] [] := fun z => by simp
/-- No two of one name. -/
def Unl (U : List Vn) : Prop := U.Pairwise fun x y => x.id ≠ y.id
theorem Hold.hasNot {l T : List Vn} (h : Hold l T) {x : Vn} (hx : ∀ y ∈ T, y.id ≠ x.id) : hasV l x.id = false := by
  cases e : hasV l x.id with
  | false => rfl
  | true =>
    obtain ⟨y, hy, hi⟩ := List.any_eq_true.1 e
    obtain ⟨z, hz, _, hp⟩ := (h y.p).1 (List.mem_map_of_mem hy)
    exact absurd ((p_id hp).trans (by simpa using hi)) (hx z hz)
theorem Hold.add {l T : List Vn} (h : Hold l T) {x : Vn} (hx : ∀ y ∈ T, y.id ≠ x.id) (a : Option Addr) (c : Nat) : Hold (addV l { x with a := a, c := c }).1 (T ++ [x]) := fun z => by
  have hid : ({ x with a := a, c := c } : Vn).id = x.id := rfl
  have hpp : ({ x with a := a, c := c } : Vn).p = x.p := rfl
  have h1 := h.hasNot hx
  unfold addV
  rw [hid, h1, if_neg (by simp)]
  by_cases ho : okv x
  · rw [if_neg (show ¬ _ from ho)]
    have hm : ∀ z, z ∈ (insV l { x with a := a, c := c }).map Vn.p ↔ z ∈ l.map Vn.p ∨ z = x.p := fun z => by
      unfold insV
      rw [List.map_append, List.map_cons, List.mem_append, List.mem_cons, hpp]
      have hl : z ∈ l.map Vn.p ↔ z ∈ (l.take (kOf l ({ x with a := a, c := c } : Vn).id)).map Vn.p ∨ z ∈ (l.drop (kOf l ({ x with a := a, c := c } : Vn).id)).map Vn.p := by
        rw [← List.mem_append, ← List.map_append, List.take_append_drop]
      rw [hl]
      constructor
      · rintro (h | h | h)
        · exact .inl (.inl h)
        · exact .inr h
        · exact .inl (.inr h)
      · rintro ((h | h) | h)
        · exact .inl h
        · exact .inr (.inr h)
        · exact .inr (.inl h)
    rw [show (insV l { x with a := a, c := c }, (0 : Int)).1 = insV l { x with a := a, c := c } from rfl, hm, h z]
    constructor
    · rintro (⟨y, hy, h2, h3⟩ | rfl)
      · exact ⟨y, List.mem_append_left _ hy, h2, h3⟩
      · exact ⟨x, by simp, ho, rfl⟩
    · rintro ⟨y, hy, h2, h3⟩
      rcases List.mem_append.1 hy with hy | hy
      · exact .inl ⟨y, hy, h2, h3⟩
      · simp at hy; subst hy; exact .inr h3.symm
  · rw [if_pos (show _ from Classical.not_not.1 ho)]
    rw [show (l, (101 : Int)).1 = l from rfl, h z]
    constructor
    · rintro ⟨y, hy, h2, h3⟩
      exact ⟨y, List.mem_append_left _ hy, h2, h3⟩
    · rintro ⟨y, hy, h2, h3⟩
      rcases List.mem_append.1 hy with hy | hy
      · exact ⟨y, hy, h2, h3⟩
      · simp at hy; subst hy; exact absurd h2 ho
theorem eq_of_same {α : Type} (R : α → α → Prop) (hi : ∀ x, ¬ R x x) (ha : ∀ x y, R x y → ¬ R y x) : ∀ l r : List α, l.Pairwise R → r.Pairwise R → (∀ z, z ∈ l ↔ z ∈ r) → l = r
  | [], [], _, _, _ => rfl
  | [], y :: r, _, _, h => by have := (h y).2 (by simp); cases this
  | x :: l, [], _, _, h => by have := (h x).1 (by simp); cases this
  | x :: l, y :: r, hl, hr, h => by
    have hl' := List.pairwise_cons.1 hl
    have hr' := List.pairwise_cons.1 hr
    have exy : x = y := by
      rcases List.mem_cons.1 ((h x).1 (by simp)) with e | e
      · exact e
      · rcases List.mem_cons.1 ((h y).2 (by simp)) with e' | e'
        · exact e'.symm
        · exact absurd (hl'.1 y e') (ha _ _ (hr'.1 x e))
    subst exy
    rw [eq_of_same R hi ha l r hl'.2 hr'.2 (fun z => by
      constructor
      · intro hz
        rcases List.mem_cons.1 ((h z).1 (List.mem_cons_of_mem _ hz)) with e | e
        · subst e; exact absurd (hl'.1 z hz) (hi z)
        · exact e
      · intro hz
        rcases List.mem_cons.1 ((h z).2 (List.mem_cons_of_mem _ hz)) with e | e
        · subst e; exact absurd (hr'.1 z hz) (hi z)
        · exact e)]
/-- What is held does not depend on the order. -/
theorem Hold.like {l m T : List Vn} (hl : Hold l T) (hm : Hold m T) (sl : Srt l) (sm : Srt m) : Like l m := by
  have key : ∀ s : List Vn, Srt s → (s.map Vn.p).Pairwise (fun x y => ltI (x.ep, x.num) (y.ep, y.num) = true) := fun s h => by rw [List.pairwise_map]; exact h
  exact eq_of_same _ (fun x h => by rw [ltI_irrefl] at h; cases h) (fun x y h h' => by rw [ltI_asymm h] at h'; cases h') _ _ (key l sl) (key m sm) (fun z => (hl z).trans (hm z).symm)
theorem Hold.perm {l T T' : List Vn} (h : Hold l T) (he : ∀ x, x ∈ T ↔ x ∈ T') : Hold l T' := fun z => (h z).trans (by
  constructor
  · rintro ⟨x, h1, h2⟩; exact ⟨x, (he x).1 h1, h2⟩
  · rintro ⟨x, h1, h2⟩; exact ⟨x, (he x).2 h1, h2⟩)
theorem unl_take {U : List Vn} (h : Unl U) {j : Nat} {x : Vn} (hx : U[j]? = some x) : ∀ y ∈ U.take j, y.id ≠ x.id := fun y hy => by
  have hp := List.pairwise_append.1 (by rw [List.take_append_drop]; exact h : (U.take j ++ U.drop j).Pairwise fun x y => x.id ≠ y.id)
  exact hp.2.2 y hy x (List.mem_of_getElem? (i := 0) (by rw [List.getElem?_drop]; simpa using hx))
theorem unl_rev {U : List Vn} (h : Unl U) : Unl U.reverse := by
  unfold Unl
  rw [List.pairwise_reverse]
  exact h.imp fun h => h.symm
end Go.Hay
namespace Go.Proofs.Ytdjlefacdfdhmaa
open Go.RowKit Go.Hay
set_option linter.unusedVariables false
set_option linter.unusedSimpArgs false

structure Duo (X w : World) (p : Nat) (v : Value) (l : List Vn) (c : Nat) (vc : Value) (m : List Vn) : Prop where
  D1 : Wos w p v l
  D2 : Wos w c vc m
  kp : Kp [p, c] X w
  n1 : ∀ k ∈ own v, X.heap.size ≤ k
  n2 : ∀ k ∈ own vc, X.heap.size ≤ k
  pl : p < X.heap.size
  cl : c < X.heap.size
  ne : p ≠ c
  ap : ∀ k ∈ own v, k ∉ own vc
  r1 : ∀ x ∈ l, ∀ k ∈ bkV x, k ∉ c :: own vc
  r2 : ∀ x ∈ m, ∀ k ∈ bkV x, k ∉ p :: own v
section
variable {X w w' : World} {p c : Nat} {v vc : Value} {l m : List Vn}
theorem Duo.swap (T : Duo X w p v l c vc m) : Duo X w c vc m p v l := ⟨T.D2, T.D1, T.kp.mono (fun k hk => .inl (by simp at hk ⊢; exact hk.symm)), T.n2, T.n1, T.cl, T.pl, fun e => T.ne e.symm, fun k h1 h2 => T.ap k h2 h1, T.r2, T.r1⟩
theorem Duo.keep (T : Duo X w p v l c vc m) (hk : Kp [] w w') : Duo X w' p v l c vc m := ⟨T.D1.keptNew hk, T.D2.keptNew hk, T.kp.trans hk (by simp), T.n1, T.n2, T.pl, T.cl, T.ne, T.ap, T.r1, T.r2⟩
theorem Duo.after (T : Duo X w p v l c vc m) {l' : List Vn} {r : Value} {e : Ending} (h : ChgW p v l l' r w e w') : ∃ v', e = .returned r ∧ Duo X w' p v' l' c vc m := by
  obtain ⟨v', he, hD, hW, hb⟩ := h
  have z := T.kp.size
  have hc := T.D2.ltAll
  have offc : ∀ k ∈ c :: own vc, k ∉ p :: own v := fun k h1 h2 => by
    rcases List.mem_cons.1 h1 with e1 | e1 <;> rcases List.mem_cons.1 h2 with e2 | e2
    · exact T.ne (e2.symm.trans e1)
    · have := T.n1 k e2; have := T.cl; omega
    · have := T.n2 k e1; have := T.pl; omega
    · exact T.ap k e2 e1
  have hn1 : ∀ k ∈ own v', k ∈ own v ∨ w.heap.size ≤ k := hW.new
  refine ⟨v', he, ⟨hD, T.D2.kept hW.kp offc (fun x hx k hk => T.r2 x hx k hk), T.kp.trans hW.kp (fun k hk => ?_), fun k hk => ?_, T.n2, T.pl, T.cl, T.ne, fun k h1 h2 => ?_, fun x hx k h1 h2 => ?_, fun x hx k h1 h2 => ?_⟩⟩
  · rcases List.mem_cons.1 hk with e | e
    · exact .inl (by simp [e])
    · exact .inr (T.n1 k e)
  · rcases hn1 k hk with e | e
    · exact T.n1 k e
    · omega
  · rcases hn1 k h1 with e | e
    · exact T.ap k e h2
    · have := hc k (by simp [h2]); omega
  · rcases hb x hx k h1 with ⟨z, hz, e⟩ | e
    · exact T.r1 z hz k e h2
    · have := hc k h2; omega
  · rcases List.mem_cons.1 h2 with e | e
    · exact T.r2 x hx k h1 (by simp [e])
    · rcases hn1 k e with e | e
      · exact T.r2 x hx k h1 (by simp [e])
      · have := (T.D2.ok x hx).lt k h1; omega
end
end Go.Proofs.Ytdjlefacdfdhmaa
end

section
namespace Go.Proofs.Ytdjlefacdfdhmaa
open Go.RowKit Go.Hay
set_option linter.unusedVariables false
set_option linter.unusedSimpArgs false

/-- The unlike ones so far. -/
structure Unk (X w : World) (a : Option Addr) (c : Nat) (U L : List Vn) : Prop where
  I : GaI X w a c U
  sub : ∀ x ∈ U, x ∈ L
  unl : Unl U
theorem unl_snoc {U : List Vn} (h : Unl U) {x : Vn} (hx : ∀ y ∈ U, y.id ≠ x.id) : Unl (U ++ [x]) := by
  unfold Unl
  rw [List.pairwise_append]
  exact ⟨h, by simp, fun y hy z hz => by simp at hz; subst hz; exact hx y hy⟩
set_option maxHeartbeats 16000000 in
set_option maxRecDepth 100000 in
theorem walkOrder (a : Option Addr) (c : Nat) (L : List Vn) (E : Int) (w : World) (hs : VnE.See w a L) (ho : ∀ x ∈ L, VnOk w x) (hb : L.length ≤ 3000000000000) :
    Calls Try.prog 5 #[.slice a L.length c, .int .u64 E] w fun e w' => e = .returned (.bool true) ∧ Below w.heap.size w w' := by
  have cB := cBegun w
  have hs' := hid hs
  have ho' := hid ho
  clear hs ho
  go_enter Try.func5, Try.ntmps5
  go_wp2_with fail
  refine cB.mono ?_
  rintro e w1 ⟨p, rfl, hD1, k1, hp⟩
  have cB2 := cBegun w1
  have hD1' := hid hD1
  clear cB hD1
  go_wp2_with fail
  refine cB2.mono ?_
  rintro e1 w2 ⟨q, rfl, hD2, k2, hq⟩
  have k12 := hid (k1.trans k2 (by simp))
  have hDp := hid (hD1'.out.keptNew k2)
  have hDq := hid hD2
  have hpq : p ≠ q := by have := hD1'.out.lt; omega
  have zq : Hid (w.heap.size ≤ p ∧ p < q) := ⟨hp, by have := hD1'.out.lt; omega⟩
  clear cB2 hD2 k1 k2 hD1' hp hq
  go_wp2_with fail
  go_loopw [9, 11, 29] (fun s9 s11 s29 wr => ∃ (j : Nat) (a' : Option Addr) (c' : Nat) (U : List Vn), j ≤ L.length ∧ s29 = .int .i64 j ∧ s9 = .slice a' U.length c' ∧ Unk w2 wr a' c' U L ∧ U.length ≤ j) (fun _ _ s29 _ => L.length - (intOf s29).toNat)
  case atStart => exact ⟨0, none, 0, [], Nat.zero_le _, rfl, rfl, ⟨⟨.inl ⟨rfl, rfl⟩, Kp.refl _ _, by simp [blk]⟩, by simp, List.Pairwise.nil⟩, Nat.le_refl _⟩
  case round =>
    obtain ⟨j, a', c', U, hj, rfl, rfl, K, hU⟩ := hrel
    by_cases hjl : j < L.length
    · have hx : L[j]? = some L[j] := by simp [hjl]
      obtain ⟨g, o, ea, d0, d1, d2, d3⟩ := idAt (hs'.out.keptNew (k12.out.trans K.I.kp (by simp))) hx
      subst ea
      have hxm := hid (List.getElem_mem hjl)
      clear hx
      generalize L[j] = x at *
      have i0 : (0 : Int) ≤ (j : Int) := by omega
      have i1 : (j : Int) < (L.length : Int) := by omega
      obtain ⟨w4, hw4⟩ : ∃ w4, wr.alloc (.cells (VnE.c x).toArray 45) = w4 := ⟨_, rfl⟩
      have k4 : Kp [] wr w4 := by rw [← hw4]; exact (Kp.refl _ _).alloc _
      have b4 : Bx w4 wr.heap.size (VnE.c x) := by rw [← hw4]; exact Bx.new wr (VnE.c x) _
      have hz4 : wr.heap.size < w4.heap.size := by rw [← hw4]; simp
      have I4 := K.I.quiet k4
      have cP := rPlace a' c' U x.ep x.num w4 (See.ofRow I4.row) (by omega)
      have q0 := b4.get 0 _ rfl; have q1 := b4.get 1 _ rfl; have q2 := b4.get 2 _ rfl; have q3 := b4.get 3 _ rfl
      have hK := hid K
      have hI4 := hid I4
      have hB4 := hid b4
      obtain ⟨xe, xn, xa, xc, xr, xd⟩ := x
      simp only [VnE] at *
      clear K I4 b4
      go_wp2_with fail
      refine cP.mono ?_
      rintro e3 w5 ⟨r0, rfl, hr0, k5⟩
      have b5 := hB4.out.kept k5 hz4
      have s0 := b5.get 0 _ rfl; have s1 := b5.get 1 _ rfl; have s2 := b5.get 2 _ rfl; have s3 := b5.get 3 _ rfl
      have I5 := hid (hI4.out.quiet k5)
      clear cP q0 q1 q2 q3 b5
      rcases hr0 with ⟨rfl, hno⟩ | ⟨i, y, rfl, _⟩
      · have hno' := hid hno
        obtain ⟨a6, c6, w6, hrun, I6⟩ := I5.out.app ⟨xe, xn, xa, xc, xr, xd⟩ w5.heap.size rfl (by omega)
        dsimp only at hrun
        have hU6 := hid (Unk.mk I6 (fun z hz => by
          rcases List.mem_append.1 hz with h | h
          · exact hK.out.sub z h
          · simp at h; subst h; exact hxm.out) (unl_snoc hK.out.unl (x := ⟨xe, xn, xa, xc, xr, xd⟩) (fun y hy => hno'.out y hy)))
        have hlU : (U ++ [(⟨xe, xn, xa, xc, xr, xd⟩ : Vn)]).length = U.length + 1 := by simp
        obtain ⟨U', hU'⟩ : ∃ U', U ++ [(⟨xe, xn, xa, xc, xr, xd⟩ : Vn)] = U' := ⟨_, rfl⟩
        rw [hU'] at hU6 hrun hlU
        clear hno I6 hU'
        go_wp2_with (first | (refine wpAppRun rfl _ _ 26 26 rfl _ _ _ rfl rfl hrun ?_) | fail)
        exact ⟨⟨j + 1, a6, c6, U', by omega, by go_num, by rw [hlU], hU6.out, by omega⟩, by simp [intOf]; omega⟩
      · have hU6 := hid (Unk.mk I5.out hK.out.sub hK.out.unl)
        have i3 : ¬ (i : Int) < 0 := by omega
        go_wp2_with fail
        exact ⟨⟨j + 1, a', c', U, by omega, by go_num, rfl, hU6.out, by omega⟩, by simp [intOf]; omega⟩
    · have ej : j = L.length := by omega
      subst ej
      have i1 : ¬ (L.length : Int) < (L.length : Int) := by omega
      have hUL : Hid (U.length ≤ L.length) := hU
      have D0 : Hid (Duo wr wr p (.slice none 0 0) [] q (.slice none 0 0) []) := by
        have kk := K.I.kp
        have h1 := hDp.out.keptNew kk
        have h2 := hDq.out.keptNew kk
        exact ⟨h1, h2, Kp.refl _ _, by simp [own, Value.ownBlock], by simp [own, Value.ownBlock], h1.lt, h2.lt, hpq, by simp [own, Value.ownBlock], by simp, by simp⟩
      have hK := hid K
      have hpl : Hid (p < w2.heap.size ∧ q < w2.heap.size) := ⟨hDp.out.lt, hDq.out.lt⟩
      have hSee := hid (fun w' (k : Kp [p, q] wr w') => show VnE.See w' a' U from (See.ofRow hK.out.I.row).kept k (fun _ k hk => by have := hK.out.I.new k hk; have := hpl.out; simp; omega))
      have hOks := hid (fun w' (k : Kp [p, q] wr w') y (hy : y ∈ U) => show VnOk w' y from ((ho'.out y (hK.out.sub y hy)).kept (k12.out.trans hK.out.I.kp (by simp))).keptS k (fun j hj => by have := (ho'.out y (hK.out.sub y hy)).lt j hj; have := zq.out; have := k12.out.size; have := hDp.out.lt; simp; omega))
      clear K
      have hUn := hid (And.intro hK.out.unl hK.out.I.kp)
      obtain ⟨n, hn⟩ : ∃ n, U.length = n := ⟨_, rfl⟩
      rw [hn] at hUL
      rw [hn]
      clear hK
      generalize wr = X at *
      go_wp2_with fail
      go_loopw [12, 45] (fun s12 s45 wr => ∃ (i : Nat) (v : Value) (l : List Vn) (vc : Value) (m : List Vn), i ≤ n ∧ s45 = .int .i64 i ∧ Duo X wr p v l q vc m ∧ Hold l (U.take i) ∧ Hold m (U.reverse.take i) ∧ l.length ≤ i ∧ m.length ≤ i) (fun _ s45 _ => n - (intOf s45).toNat)
      case atStart => exact ⟨0, _, [], _, [], Nat.zero_le _, rfl, D0.out, Hold.nil, Hold.nil, Nat.le_refl _, Nat.le_refl _⟩
      case round =>
        clear D0
        obtain ⟨i, v, l, vc, m, hi, rfl, T, hl, hm, hll, hml⟩ := hrel
        have hULo := hUL.out
        by_cases hin : i < n
        · have hir : i < U.length := by omega
          have hx : U[i]? = some U[i] := by simp [hir]
          have hni : n - 1 - i < U.length := by omega
          have hy : U[n - 1 - i]? = some U[n - 1 - i] := by simp [hni]
          have hyr : U.reverse[i]? = some U[n - 1 - i] := by rw [List.getElem?_reverse hir, ← hy, hn]
          obtain ⟨g, o, ea, d0, d1, d2, d3⟩ := idAt (hSee.out wr T.kp) hx
          subst ea
          have hxU := hid (And.intro hx (List.getElem_mem hir))
          have hyU := hid (And.intro hy (And.intro hyr (List.getElem_mem hni)))
          clear hx hy hyr
          generalize U[i] = x at *
          generalize U[n - 1 - i] = y at *
          have cA := cAddW T.D1 x (hOks.out wr T.kp x hxU.out.2) (by omega)
          have hl' := hid (fun a c => hl.add (unl_take hUn.out.1 hxU.out.1) (x := x) a c)
          have hm' := hid (fun a c => hm.add (unl_take (unl_rev hUn.out.1) hyU.out.2.1) (x := y) a c)
          have htx : Hid (U.take i ++ [x] = U.take (i + 1)) := by show _ = _; rw [List.take_add_one, hxU.out.1]; rfl
          have hty : Hid (U.reverse.take i ++ [y] = U.reverse.take (i + 1)) := by show _ = _; rw [List.take_add_one, hyU.out.2.1]; rfl
          have hT := hid T
          have i0 : (0 : Int) ≤ (i : Int) := by omega
          have i1 : (i : Int) < (n : Int) := by omega
          obtain ⟨xe, xn, xa, xc, xr, xd⟩ := x
          simp only [Vn.v] at *
          clear T hl hm
          go_wp2_with fail
          refine cA.mono ?_
          rintro e3 w5 ⟨na, nc, hC⟩
          have hlA := len_add l ({ (⟨xe, xn, xa, xc, xr, xd⟩ : Vn) with a := na, c := nc })
          have hlH := hl'.out na nc
          generalize (addV l ({ (⟨xe, xn, xa, xc, xr, xd⟩ : Vn) with a := na, c := nc })) = L5 at *
          obtain ⟨v5, rfl, T5⟩ := hT.out.after hC
          obtain ⟨g', o', ea, f0, f1, f2, f3⟩ := idAt (hSee.out w5 T5.kp) hyU.out.1
          cases ea
          have cA2 := cAddW T5.D2 y (hOks.out w5 T5.kp y hyU.out.2.2) (by omega)
          have hT5 := hid T5
          have hlH' := hid hlH
          have ej : (n : Int) - 1 - (i : Int) = ((n - 1 - i : Nat) : Int) := by omega
          obtain ⟨J, hJ⟩ : ∃ J, n - 1 - i = J := ⟨_, rfl⟩
          rw [hJ] at ej f0 f1 f2 f3
          have i3 : (J : Int) < (n : Int) := by omega
          have i4 : (0 : Int) ≤ (J : Int) := by omega
          obtain ⟨ye, yn, ya, yc, yr, yd⟩ := y
          simp only [Vn.v] at *
          clear cA hC T5 hlH d0 d1 d2 d3 hl'
          go_wp2_with fail
          refine cA2.mono ?_
          rintro e4 w6 ⟨nb, nd, hC⟩
          have hmA := len_add m ({ (⟨ye, yn, ya, yc, yr, yd⟩ : Vn) with a := nb, c := nd })
          have hmH := hm'.out nb nd
          dsimp only at hC hmA hmH
          generalize (addV m (⟨ye, yn, nb, nd, yr, yd⟩ : Vn)) = M6 at *
          obtain ⟨v6, rfl, T6⟩ := hT5.out.swap.after hC
          have hT6 := hid T6.swap
          have h1 : Hid (Hold L5.1 (U.take (i + 1))) := by rw [← htx.out]; exact hlH'.out
          have h2 : Hid (Hold M6.1 (U.reverse.take (i + 1))) := by rw [← hty.out]; exact hmH
          clear cA2 hC T6 hmH f0 f1 f2 f3
          go_wp2_with fail
          exact ⟨⟨i + 1, v5, L5.1, v6, M6.1, by omega, by go_num, hT6.out, h1.out, h2.out, by omega, by omega⟩, by simp [intOf]; omega⟩
        · have ei : i = n := by omega
          subst ei
          have hLk : Hid (Like l m) := by
            have e1 : U.take i = U := by rw [← hn, List.take_length]
            have e2 : U.reverse.take i = U.reverse := by rw [← hn, ← List.length_reverse, List.take_length]
            rw [e1] at hl
            rw [e2] at hm
            exact hl.like (hm.perm (fun x => List.mem_reverse)) T.D1.srt T.D2.srt
          have hlen : l.length = m.length := hLk.out.len
          have i1 : ¬ (i : Int) < (i : Int) := by omega
          have hLm := hid hlen
          have hT := hid T
          obtain ⟨w4, k4, cA, cG⟩ := allPair T.D1
          have T4 := hid (T.keep k4)
          clear T hl hm hlen
          go_wp2_with fail
          refine cA.mono ?_
          rintro e3 w4' ⟨rfl, hw4'⟩
          rw [hw4']
          clear hw4' w4' cA
          go_wp2_with fail
          refine cG.mono ?_
          rintro e4 w5 ⟨L1, a1, c1, rfl, hL1, hrow1, k5, hn1, hown1⟩
          have T5 := hid (T4.out.keep k5)
          have G5 := hid (show Got w4.heap.size l w5 a1 c1 L1 from ⟨hL1, hrow1, hn1, hown1⟩)
          obtain ⟨w6, k6, cA2, cG2⟩ := allPair T5.out.D2
          have T6 := hid (T5.out.keep k6)
          clear cG hL1 hrow1 hn1 hown1
          go_wp2_with fail
          refine cA2.mono ?_
          rintro e5 w6' ⟨rfl, hw6'⟩
          rw [hw6']
          clear hw6' w6' cA2
          go_wp2_with fail
          refine cG2.mono ?_
          rintro e6 w7 ⟨L2, a2, c2, rfl, hL2, hrow2, k7, hn2, hown2⟩
          have T7 := hid (T6.out.keep k7)
          have G7 := (G5.out.kept k6 (by simp)).kept k7 (by simp)
          have hL1f : L1.length ≤ 4000000000000 := by have := G7.like.len; omega
          have cS := rSameAll a1 a2 c1 c2 L1 L2 w7 G7.see (See.ofRow hrow2) G7.ok (fun y hy => (hown2 y hy).1.ok) ((G7.like.trans hLk.out).trans hL2.symm) (by omega)
          clear cG2 hL2 hrow2 hn2 hown2 G7
          go_wp2_with fail
          refine cS.mono ?_
          rintro e7 w8 ⟨rfl, k8⟩
          have T8 := hid (T7.out.keep k8)
          obtain ⟨w9, k9, cA3, cG3⟩ := atPair T8.out.D1 E
          have T9 := hid (T8.out.keep k9)
          clear cS
          go_wp2_with fail
          refine cA3.mono ?_
          rintro e8 w9' ⟨rfl, hw9'⟩
          rw [hw9']
          clear hw9' w9' cA3
          go_wp2_with fail
          refine cG3.mono ?_
          rintro e9 w10 ⟨L3, a3, c3, rfl, hL3, hrow3, k10, hn3, hown3⟩
          have T10 := hid (T9.out.keep k10)
          have G10 := hid (show Got w9.heap.size (atV E l) w10 a3 c3 L3 from ⟨hL3, hrow3, hn3, hown3⟩)
          obtain ⟨w11, k11, cA4, cG4⟩ := atPair T10.out.D2 E
          have T11 := hid (T10.out.keep k11)
          clear cG3 hL3 hrow3 hn3 hown3
          go_wp2_with fail
          refine cA4.mono ?_
          rintro e10 w11' ⟨rfl, hw11'⟩
          rw [hw11']
          clear hw11' w11' cA4
          go_wp2_with fail
          refine cG4.mono ?_
          rintro e11 w12 ⟨L4, a4, c4, rfl, hL4, hrow4, k12', hn4, hown4⟩
          have T12 := hid (T11.out.keep k12')
          have G12 := (G10.out.kept k11 (by simp)).kept k12' (by simp)
          have hL3f : L3.length ≤ 4000000000000 := by have := G12.like.len; have := len_at E l; omega
          have cS2 := rSameAll a3 a4 c3 c4 L3 L4 w12 G12.see (See.ofRow hrow4) G12.ok (fun y hy => (hown4 y hy).1.ok) ((G12.like.trans (hLk.out.atV E)).trans hL4.symm) (by omega)
          clear cG4 hL4 hrow4 hn4 hown4 G12
          go_wp2_with fail
          refine cS2.mono ?_
          rintro e12 w13 ⟨rfl, k13⟩
          have T13 := hid (T12.out.keep k13)
          have cL := cLen T13.out.D1
          have cL2 := cLen T13.out.D2
          rw [← hLm.out] at cL2
          clear cS2
          go_wp2_with fail
          refine cL.mono ?_
          rintro e13 w14 ⟨rfl, rfl⟩
          clear cL
          go_wp2_with fail
          refine cL2.mono ?_
          rintro e14 w15 ⟨rfl, rfl⟩
          have hB : Hid (Below w.heap.size w w15) := ((k12.out.trans hUn.out.2 (by simp)).trans T13.out.kp (fun k hk => .inr (by have := zq.out; simp at hk; omega))).below
          have tt : ((l.length : Int) == (l.length : Int)) = true := by simp
          clear cL2
          go_wp2_with fail
          go_returns
          exact ⟨rfl, hB.out⟩
end Go.Proofs.Ytdjlefacdfdhmaa
end

section
namespace Go.Proofs.Ytdjlefacdfdhmaa
open Go.ChangeShapes Go.WideShapes Go.ChangeAt Go.RowKit Go.Hay
set_option linter.unusedVariables false

set_option maxRecDepth 100000 in
theorem wosOrderContract (H : Type) (enc : TypeId × Value → H) (W : World) (base : Nat) (args : Array Value) (ds gs : List (DataW H)) (before : List MemPlace)
    (hval : ∀ (j : Nat) t v, Try.f5.params[j]? = some t → args[j]? = some v → Value.okWide Try.prog W .any base t v)
    (hW : DataW.Whole enc Try.prog Try.f5.params.toList Rows.wosOrderSpec.vars false W args.toList ds gs before)
    (hsz : (DataW.weightsEach Try.prog (Try.f5.params.toList ++ (OpenSpec.ofChange Rows.wosOrderSpec).bare.plain.varTypes Try.prog) (ds ++ gs)).all (· ≤ reachBytes) = true) :
    Calls Try.prog 5 args W fun e W' => ∃ v, e = .returned v ∧ Rows.wosOrderSpec.post enc Try.prog Try.f5 false true false false W args v W' := by
  have hW' := hW
  obtain ⟨p, q, hA0, hV, rfl, hfz, hnd⟩ := hW
  have hA : DataW.TrodAll enc Try.prog W 0 (fun _ => true) true Try.f5.params.toList args.toList ds p := hA0
  rw [Try.params5] at hA hval hsz
  obtain ⟨v0, vs0, d0, ds0, p0, q0, hargs, rfl, rfl, h0, r0⟩ := trodAll_cons hA
  obtain ⟨v1, vs1, d1, ds1, p1, q1, rfl, rfl, rfl, h1, r1⟩ := trodAll_cons r0
  obtain ⟨rfl, rfl, rfl⟩ := trodAll_nil r1
  obtain rfl : args = #[v0, v1] := by cases args; simp_all
  obtain ⟨rfl, rfl⟩ := trodVars_none hV
  obtain ⟨a0, len0, cap0, rfl⟩ := okWide_slice Try.underlying26 (hval 0 26 v0 rfl rfl)
  have k0 := h0
  have lt0 : ∀ x ∈ p0, x.block < W.heap.size := by obtain ⟨m, hm⟩ := k0; exact DataW.trod_lt m _ _ _ hm
  obtain ⟨l0, rfl, hs0, hok0, hl0, hm0, hn0, hfit0, hbk0, hcp0⟩ := openVers h0
  obtain ⟨hc0, hq0⟩ := hfit0 (List.all_eq_true.2 fun x hx => List.all_eq_true.1 hsz x (by simp [DataW.weightsEach]; first | exact .inl hx | exact .inr hx | exact .inr (.inl hx) | exact .inr (.inr hx) | exact hx))
  obtain ⟨a1, rfl, rfl, rfl, w1⟩ := open_int Try.underlying30 (hval 1 30 v1 rfl rfl) h1
  have hb1 := bounds_u64 w1
  clear hA0
  refine (walkOrder a0 cap0 l0 a1 W hs0 (fun y hy => (hok0 y hy).ok (hq0 y hy)) (by omega)).mono fun e W' ⟨he, bel⟩ => ?_
  subst he
  exact ⟨_, rfl, _, _, _, [], _, [], hW', trodAll_mk1 (shut_bool Try.underlying4 _), (trodAll_cons_mk (Below.trod Try.laidOut (by kernel_rfl) (of_decide_eq_true (by kernel_rfl)) k0 bel lt0) (trodAll_cons_mk (shut_int Try.underlying30 w1) trodAll_mk0)), rfl, bel.frame _, fun h => by cases h⟩

set_option maxRecDepth 100000 in
theorem wosOrderLifted (os : Os) (started : os.Started) (H : Type) (enc : TypeId × Value → H) :
    ReturnsInHanded {} Try.checked os 5 .any (Rows.wosOrderSpec.pre6 enc Try.prog Try.f5 Rows.wosOrderRow.domain false) (Rows.wosOrderSpec.post enc Try.prog Try.f5 false true false false) := by
  refine returnsInHanded_of_change_sized (C := Try.checked) Try.own started (by kernel_rfl) Try.func5
    (ChangeSpec.witness6 (enc := enc) (C := Try.checked) false ⟨#[], #[.slice none 0 0, .int .u64 0], []⟩ 8 (by kernel_rfl) (by kernel_rfl) (by kernel_rfl) (by kernel_rfl)) ?_
  intro W base args ds gs before hval hW _ hsz _
  exact wosOrderContract H enc W base args ds gs before hval hW hsz

theorem WosOrder_holds : Rows.WosOrderSaid :=
  OpenClaim.holds_of_wide 5 Try.f5 rfl rfl rfl rfl rfl rfl rfl ⟨rfl, rfl, rfl, rfl, rfl⟩ rfl rfl rfl rfl rfl (by kernel_rfl) Try.func5 (by kernel_rfl)
    (of_decide_eq_true (by kernel_rfl)) (by unfold Func.isWrapper; first | (rw [if_pos (by decide +kernel)]; kernel_rfl) | (rw [if_neg (by decide +kernel)]; exact ⟨rfl, rfl⟩))
    (fun os started H enc _ => wosOrderLifted os started H enc)

#print axioms WosOrder_holds
end Go.Proofs.Ytdjlefacdfdhmaa
end

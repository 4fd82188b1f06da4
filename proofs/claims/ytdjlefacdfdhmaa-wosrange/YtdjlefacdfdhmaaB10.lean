/- The law's own begun. Rows in memory beside the reference's: what a step of the law keeps. A step of the law: the kinds. A step of the law: the other kinds. A step of the law: Add, and the step whole. The law's own run. -/
import Derived.Test.YtdjlefacdfdhmaaB9
section
namespace Go.Proofs.Ytdjlefacdfdhmaa
open Go.RowKit Go.Hay
set_option linter.unusedVariables false
set_option linter.unusedSimpArgs false

/-- Rows in memory all new, with nothing in them. -/
def BegP (w : World) (e : Ending) (w' : World) : Prop := ∃ p, e = .returned (.tuple #[.pointer (some ⟨p, 0, none⟩), .bool true]) ∧ Wos w' p (.slice none 0 0) [] ∧ Kp [] w w' ∧ w.heap.size ≤ p
abbrev v5 : Val := ⟨2, false, 5, ⟨#[]⟩⟩
theorem add_nil (x : Vn) (h : x.del = 0) : addV [] x = ([x], 0) := by
  unfold addV insV hasV kOf
  simp [h]
theorem has_one (x : Vn) : hasV [x] x.id = true := by simp [hasV]
theorem kOf_one (x : Vn) : kOf [x] x.id = 0 := by simp [kOf, ltI_irrefl]
theorem atP_one (x : Vn) : atP [x] x.id = x := by unfold atP; rw [kOf_one]; rfl
theorem era_one (x : Vn) (e : Int) (h : x.del = 0) (he : ¬ e ≤ x.ep) : eraV [x] x.id e = ([erased x e], 0) := by
  unfold eraV
  rw [has_one, if_neg (by simp), if_neg he, atP_one, if_neg (by simpa using h), kOf_one]
  rfl
set_option maxHeartbeats 16000000 in
set_option maxRecDepth 100000 in
theorem cBegun (w : World) : Calls Try.prog 9 #[] w (BegP w) := by
  have c1 := cNew w
  go_enter Try.func9, Try.ntmps9
  go_wp2_with fail
  refine c1.mono ?_
  rintro e w1 ⟨rfl, h1, k1⟩
  obtain ⟨p1, hp1⟩ : ∃ p, Hid (w.heap.size = p) := ⟨_, rfl⟩
  rw [hp1.out] at h1 ⊢
  have c2 := cNew w1
  clear c1
  go_wp2_with fail
  refine c2.mono ?_
  rintro e w2 ⟨rfl, h2, k2⟩
  obtain ⟨p2, hp2⟩ : ∃ p, Hid (w1.heap.size = p) := ⟨_, rfl⟩
  rw [hp2.out] at h2 ⊢
  have hV := hid h2
  have h12 := h1.keptNew k2
  have hpp : p1 < p2 := by rw [← hp2.out]; exact h1.lt
  obtain ⟨w3, hw3⟩ : ∃ w3, w2.alloc (.cells #[.int .u64 2, .int .u32 0] 42) = w3 := ⟨_, rfl⟩
  have k3 : Kp [] w2 w3 := by rw [← hw3]; exact (Kp.refl _ _).alloc _
  have b3 : Bx w3 w2.heap.size [.int .u64 2, .int .u32 0] := by rw [← hw3]; exact Bx.new w2 [.int .u64 2, .int .u32 0] _
  have hz3 : w2.heap.size < w3.heap.size := by rw [← hw3]; simp
  obtain ⟨w4, hw4⟩ : ∃ w4, w3.alloc (.cells #[.int .i64 2, .bool false, .int .i64 5, .string ⟨#[]⟩] 64) = w4 := ⟨_, rfl⟩
  have k4 : Kp [] w3 w4 := by rw [← hw4]; exact (Kp.refl _ _).alloc _
  have b4 : Bx w4 w3.heap.size (VE.c v5) := by rw [← hw4]; exact Bx.new w3 (VE.c v5) _
  have hsee : VE.See w4 (some ⟨w3.heap.size, 0, none⟩) [v5] := by
    refine .inr ⟨w3.heap.size, 0, rfl, fun j u hu => ?_⟩
    rw [Nat.zero_add]
    exact b4.get j u (by simpa [El.cs] using hu)
  have hW4 := (h12.keptNew k3).keptNew k4
  have cA := cAddW hW4 ⟨2, 0, some ⟨w3.heap.size, 0, none⟩, 1, [v5], 0⟩ ⟨hsee, by simp, by simp, by simp⟩ (by simp)
  unfold Vn.v at cA
  dsimp only at cA
  simp only [List.length_cons, List.length_nil, Nat.zero_add] at cA
  have g0 := b3.get 0 _ rfl; have g1 := b3.get 1 _ rfl
  have hb3 := hid b3
  have hk24 := hid (k3.trans k4 (by simp))
  have hw3' := hid hw3
  have hw4' := hid hw4
  clear c2 h1 h2 h12 hsee hW4 b4 k3 b3 hw3 hw4 g0 g1
  go_wp2_with fail
  rw [hw3'.out]
  have hz32 : w3.heap.size = w2.heap.size + 1 := by rw [← hw3'.out]; simp
  rw [← hz32, hw4'.out]
  refine cA.mono ?_
  rintro e w5 ⟨a5, c5, hA⟩
  rw [add_nil _ rfl] at hA
  obtain ⟨v5', rfl, hW5, hWr5, _⟩ := hA
  obtain ⟨x5, hx5⟩ : ∃ x : Vn, x = ⟨2, 0, a5, c5, [v5], 0⟩ := ⟨_, rfl⟩
  have hW5' : Wos w5 p1 v5' [x5] := by rw [hx5]; exact hW5
  have cE := cErase hW5' 2 0 4
  have eid : x5.id = (2, 0) := by rw [hx5]
  rw [← eid, era_one x5 4 (by rw [hx5]) (by rw [hx5]; show ¬ (4 : Int) ≤ 2; decide)] at cE
  dsimp only at cE
  have kk5 : Kp [p1] w4 w5 := by
    refine hWr5.kp.mono (fun k hk => ?_)
    rcases List.mem_cons.1 hk with e | e
    · exact .inl (by simp [e])
    · simp [own, Value.ownBlock] at e
  have hp1w3 : p1 < w2.heap.size := by have := hV.out.lt; omega
  have b5 := (hb3.out.kept (k4) hz3).keptS kk5 (by simp; omega) (by have := k4.size; omega)
  have e0 := b5.get 0 _ rfl; have e1 := b5.get 1 _ rfl
  have hV5 := hid ((hV.out.keptNew hk24.out).kept kk5 (by simp [own, Value.ownBlock]; omega) (by simp))
  have hk5 := hid ((hk24.out.mono (T := [p1]) (by simp)).trans kk5 (fun _ h => .inl h))
  have hz5 : w3.heap.size ≤ w5.heap.size := by have := k4.size; have := kk5.size; omega
  have hWr5n := hid hWr5.new
  have hb5 := hid b5
  clear cA hW5 hW5' hWr5 kk5 b5
  go_wp2_with fail
  refine cE.mono ?_
  rintro e w6 ⟨v6, rfl, hW6, hWr6, hrw6⟩
  have hap : p2 ∉ p1 :: own v5' := fun hm => by
    rcases List.mem_cons.1 hm with e | e
    · omega
    · rcases hWr5n.out p2 e with h | h
      · simp [own, Value.ownBlock] at h
      · have := hV.out.lt; have := hk24.out.size; omega
  have hqap : w2.heap.size ∉ p1 :: own v5' := fun hm => by
    rcases List.mem_cons.1 hm with e | e
    · omega
    · rcases hWr5n.out _ e with h | h
      · simp [own, Value.ownBlock] at h
      · have := k4.size; omega
  have b6 := hb5.out.keptS hWr6.kp hqap (by omega)
  have g0 := b6.get 0 _ rfl; have g1 := b6.get 1 _ rfl
  have hV6 := hid (hV5.out.kept hWr6.kp (by simpa [own, Value.ownBlock] using hap) (by simp))
  have hkp6 : Hid (Kp [] w w6) := by
    have q1 : Kp (p1 :: own v5') w2 w6 := (hk5.out.mono (T := p1 :: own v5') (by simp)).trans hWr6.kp (fun _ h => .inl h)
    exact (k1.trans k2 (by simp)).trans q1 (fun k hk => .inr (by
      rcases List.mem_cons.1 hk with e | e
      · have := hp1.out; omega
      · rcases hWr5n.out k e with h | h
        · simp [own, Value.ownBlock] at h
        · have := k1.size; have := k2.size; have := hk24.out.size; omega))
  have cG := cGet hW6 2 0
  have hW6' := hid hW6
  have eid2 : (erased x5 4).id = (2, 0) := eid
  unfold GetP at cG
  rw [← eid2] at cG
  simp only [has_one, if_true, atP_one] at cG
  rw [hx5] at cG
  unfold erased at cG
  dsimp only at cG
  simp only [List.length_cons, List.length_nil, Nat.zero_add] at cG
  clear cE hW6 hWr6 hrw6 b6 hV5 hb5
  go_wp2_with fail
  refine cG.mono ?_
  rintro e w7 ⟨a7, c7, rfl, hr7, k7, hn7⟩
  have hW7 := hW6'.out.keptNew k7
  have hV7 := hid (hV6.out.keptNew k7)
  obtain ⟨_, _, ev, hs7, _⟩ := hr7.see
  cases ev
  obtain ⟨g, o, rfl, y0, y1, y2, y3⟩ := valAt hs7 (i := 0) (x := v5) rfl
  dsimp only at y0 y1 y2 y3
  obtain ⟨w8, hw8⟩ : ∃ w8, w7.alloc (.cells #[.int .u64 2, .int .u32 0, .slice (some ⟨g, o, none⟩) 1 c7, .int .u64 4] 45) = w8 := ⟨_, rfl⟩
  have k8 : Kp [] w7 w8 := by rw [← hw8]; exact (Kp.refl _ _).alloc _
  have b8 : Bx w8 w7.heap.size [.int .u64 2, .int .u32 0, .slice (some ⟨g, o, none⟩) 1 c7, .int .u64 4] := by rw [← hw8]; exact Bx.new w7 [.int .u64 2, .int .u32 0, .slice (some ⟨g, o, none⟩) 1 c7, .int .u64 4] _
  have cL := cLen (hW7.keptNew k8)
  have hz8 : w7.heap.size < w8.heap.size := by rw [← hw8]; simp
  have z0 := b8.get 0 _ rfl; have z1 := b8.get 1 _ rfl; have z2 := b8.get 2 _ rfl; have z3 := b8.get 3 _ rfl
  have u2 : w8.cell? ⟨g, o + 2, none⟩ = some (.int .i64 5) := by have := kpAt k8 y2; simpa using this
  have hk8 := hid (hkp6.out.trans (k7.trans k8 (by simp)) (by simp))
  have hV8 := hid (hV7.out.keptNew k8)
  have hlen1 : (([erased x5 4] : List Vn).length : Int) = 1 := rfl
  rw [hlen1] at cL
  clear cG hr7 k7 hn7 hW7 hs7 y0 y1 y2 y3 b8 hW6' hx5
  go_wp2_with fail
  refine cL.mono ?_
  rintro e w9 ⟨rfl, rfl⟩
  have c3 := cSeen ⟨2, 0, some ⟨g, o, none⟩, c7, [v5], 4⟩ 3 w9
  rw [show seenV 3 ⟨2, 0, some ⟨g, o, none⟩, c7, [v5], 4⟩ = true from rfl] at c3
  unfold Vn.v at c3
  dsimp only at c3
  simp only [List.length_cons, List.length_nil, Nat.zero_add] at c3
  clear cL
  go_wp2_with fail
  refine c3.mono ?_
  rintro e w10 ⟨rfl, k10⟩
  have c4 := cSeen ⟨2, 0, some ⟨g, o, none⟩, c7, [v5], 4⟩ 4 w10
  rw [show seenV 4 ⟨2, 0, some ⟨g, o, none⟩, c7, [v5], 4⟩ = false from rfl] at c4
  unfold Vn.v at c4
  dsimp only at c4
  simp only [List.length_cons, List.length_nil, Nat.zero_add] at c4
  have z0' := kpAt k10 z0; have z1' := kpAt k10 z1; have z2' := kpAt k10 z2; have z3' := kpAt k10 z3
  clear c3 z0 z1 z2 z3 u2
  go_wp2_with fail
  refine c4.mono ?_
  rintro e w11 ⟨rfl, k11⟩
  have kE := k10.trans k11 (by simp)
  have hH : Hid (BegP w (.returned (.tuple #[.pointer (some ⟨p2, 0, none⟩), .bool true])) w11) := ⟨p2, rfl, hV8.out.keptNew kE, hk8.out.trans kE (by simp), by have := hp2.out; have := k1.size; omega⟩
  clear c4 k10 k11 z0' z1' z2' z3'
  go_wp2_with fail
  go_returns
  exact hH.out
end Go.Proofs.Ytdjlefacdfdhmaa
end

section
namespace Go.Proofs.Ytdjlefacdfdhmaa
open Go.RowKit Go.Hay
set_option linter.unusedVariables false
set_option linter.unusedSimpArgs false

/-- A call. -/
structure OpV where
  kind : Int
  v : Vn
  ie : Int
  num : Int
  e : Int
instance : Inhabited OpV := ⟨⟨0, default, 0, 0, 0⟩⟩
def OpE : El OpV where
  n := 8
  c o := [.int .i64 o.kind, .int .u64 o.v.ep, .int .u32 o.v.num, .slice o.v.a o.v.row.length o.v.c, .int .u64 o.v.del, .int .u64 o.ie, .int .u32 o.num, .int .u64 o.e]
  len _ := rfl
  one _ u hu := by simp at hu; rcases hu with rfl | rfl | rfl | rfl | rfl | rfl | rfl | rfl <;> rfl
  pos := by decide
/-- Each was deleted behind its epoch, or not at all. -/
def Gd (l : List Vn) : Prop := ∀ x ∈ l, x.del = 0 ∨ x.ep < x.del
theorem Gd.filter {l : List Vn} (h : Gd l) (f : Vn → Bool) : Gd (l.filter f) := fun x hx => h x (List.mem_filter.1 hx).1
theorem Gd.add {l : List Vn} (h : Gd l) (v : Vn) : Gd (addV l v).1 := by
  unfold addV
  split
  · exact h
  · split
    · exact h
    · rename_i _ h2
      intro x hx
      simp only [insV, List.mem_append, List.mem_cons] at hx
      rcases hx with hx | rfl | hx
      · exact h x (List.mem_of_mem_take hx)
      · by_cases e : x.del = 0
        · exact .inl e
        · by_cases e2 : x.del ≤ x.ep
          · exact absurd ⟨e, e2⟩ h2
          · exact .inr (by omega)
      · exact h x (List.mem_of_mem_drop hx)
theorem Gd.era {l : List Vn} (h : Gd l) (hs : Srt l) (i : Int × Int) (e : Int) : Gd (eraV l i e).1 := by
  unfold eraV
  split
  · exact h
  · split
    · exact h
    · split
      · exact h
      · rename_i h1 h2 _
        intro x hx
        obtain ⟨z, hz, hzi⟩ := has_at hs i (by simpa using h1)
        have hat : atP l i = z := by unfold atP; rw [hz]; rfl
        rcases mem_set hx with e' | e'
        · subst e'
          rw [hat]
          have h3 : z.ep = i.1 := by rw [← hzi]
          refine .inr ?_
          show z.ep < e
          omega
        · exact h x e'
/-- Rows in memory and the reference's, all of it behind W. -/
structure PW (W w : World) (p : Nat) (v : Value) (l : List Vn) (ra : Option Addr) (r : List Vn) : Prop where
  D : Wos w p v l
  S : VnE.See w ra r
  O : ∀ x ∈ r, VnOk w x
  L : Like l r
  kp : Kp [] W w
  nw : ∀ k ∈ p :: own v, W.heap.size ≤ k
  rb : ∀ x ∈ r, ∀ k ∈ bkV x, k < W.heap.size
  ap : r ≠ [] → ∀ k ∈ blk ra, k ∉ p :: own v
  gd : Gd l
section
variable {W w w' : World} {p p' : Nat} {v v' : Value} {l l' : List Vn} {ra ra' : Option Addr} {r r' : List Vn}
theorem PW.srt (P : PW W w p v l ra r) : Srt r := P.L.srt P.D.srt
theorem PW.len (P : PW W w p v l ra r) : r.length ≤ 4000000000000 := by have := P.L.len; have := P.D.few; omega
/-- The reference's is kept where the rows in memory, and what is new, turn. -/
theorem PW.ref {S : List Nat} (P : PW W w p v l ra r) (hk : Kp S w w') (hS : ∀ k ∈ S, k ∈ p :: own v ∨ w.heap.size ≤ k) : VnE.See w' ra r ∧ ∀ x ∈ r, VnOk w' x := by
  refine ⟨P.S.kept hk (fun hne k hk' hm => ?_), fun x hx => (P.O x hx).keptS hk (fun k hk' hm => ?_)⟩
  · rcases hS k hm with e | e
    · exact P.ap hne k hk' e
    · have := P.S.lt hne k hk'; omega
  · have h1 := P.rb x hx k hk'
    rcases hS k hm with e | e
    · have := P.nw k e; omega
    · have := P.kp.size; omega
theorem PW.keep (P : PW W w p v l ra r) (hk : Kp [] w w') : PW W w' p v l ra r :=
  ⟨P.D.keptNew hk, P.S.keptNew hk, fun x hx => (P.O x hx).kept hk, P.L, P.kp.trans hk (by simp), P.nw, P.rb, P.ap, P.gd⟩
/-- .. also where blocks turn that are new since w0. -/
theorem PW.keepS {w0 : World} {S : List Nat} (P : PW W w p v l ra r) (hk : Kp S w w') (h1 : ∀ k ∈ S, k ∉ p :: own v) (h2 : ∀ x ∈ l, ∀ k ∈ bkV x, k ∉ S) (h3 : r ≠ [] → ∀ k ∈ blk ra, k ∉ S) (h4 : ∀ k ∈ S, W.heap.size ≤ k) : PW W w' p v l ra r :=
  ⟨P.D.kept hk (fun k hk' hm => h1 k hm hk') h2, P.S.kept hk h3, fun x hx => (P.O x hx).keptS hk (fun k hk' hm => by have := P.rb x hx k hk'; have := h4 k hm; omega), P.L, P.kp.trans hk (fun k hk' => .inr (h4 k hk')), P.nw, P.rb, P.ap, P.gd⟩
end
/-- What a step leaves. -/
def StpP (W : World) (p : Nat) (v : Value) (l : List Vn) (ra : Option Addr) (r : List Vn) (w : World) (e : Ending) (w' : World) : Prop :=
  ∃ (p' : Nat) (v' : Value) (l' : List Vn) (ra' : Option Addr) (rc' : Nat) (r' : List Vn), e = .returned (.tuple #[.pointer (some ⟨p', 0, none⟩), .slice ra' r'.length rc', .bool true]) ∧ PW W w' p' v' l' ra' r' ∧ Kp (p :: own v) w w' ∧
    (∀ k ∈ p' :: own v', k ∈ p :: own v ∨ w.heap.size ≤ k) ∧ l'.length ≤ l.length + 1 ∧ (r' ≠ [] → ∀ k ∈ blk ra', (k ∈ blk ra ∧ r ≠ []) ∨ w.heap.size ≤ k) ∧ ∀ y ∈ l', ∀ k ∈ bkV y, (∃ z ∈ l, k ∈ bkV z) ∨ w.heap.size ≤ k
/-- Nothing that is seen has turned. -/
theorem StpP.same {W w w' : World} {p : Nat} {v : Value} {l : List Vn} {ra : Option Addr} {r : List Vn} (P : PW W w p v l ra r) (rc : Nat) {S : List Nat} (hk : Kp S w w') (hS : ∀ k ∈ S, w.heap.size ≤ k) : StpP W p v l ra r w (.returned (.tuple #[.pointer (some ⟨p, 0, none⟩), .slice ra r.length rc, .bool true])) w' := by
  have hk0 : Kp [] w w' := hk.mono (fun k hk' => .inr (hS k hk'))
  exact ⟨p, v, l, ra, rc, r, rfl, P.keep hk0, hk0.mono (by simp), fun k hk' => .inl hk', Nat.le_succ _, fun hne k hk' => .inl ⟨hk', hne⟩, fun y hy k hk' => .inl ⟨y, hy, hk'⟩⟩
/-- The box of a call. -/
theorem boxOp (w : World) (o : OpV) : ∃ w1, w.alloc (.cells #[.int .i64 o.kind, .int .u64 o.v.ep, .int .u32 o.v.num, .slice o.v.a o.v.row.length o.v.c, .int .u64 o.v.del, .int .u64 o.ie, .int .u32 o.num, .int .u64 o.e] 61) = w1 ∧ Kp [] w w1 ∧ Bx w1 w.heap.size (OpE.c o) ∧ w.heap.size < w1.heap.size :=
  ⟨_, rfl, (Kp.refl _ _).alloc _, Bx.new w (OpE.c o) _, by simp⟩
set_option maxHeartbeats 8000000 in
set_option maxRecDepth 100000 in
theorem cStp1 {W w : World} {p : Nat} {v : Value} {l : List Vn} {ra : Option Addr} {r : List Vn} (P : PW W w p v l ra r) (rc : Nat) (x : Vn) (ie num e : Int) :
    Calls Try.prog 24 #[.pointer (some ⟨p, 0, none⟩), .slice ra r.length rc, .agg #[.int .i64 1, .int .u64 x.ep, .int .u32 x.num, .slice x.a x.row.length x.c, .int .u64 x.del, .int .u64 ie, .int .u32 num, .int .u64 e]] w (StpP W p v l ra r w) := by
  obtain ⟨w1, hw1, k1, bx, hz1⟩ := boxOp w ⟨1, x, ie, num, e⟩
  have P1 := P.keep k1
  have cE := cErase P1.D ie num e
  have hlike := P.L.era (ie, num) e
  obtain ⟨l', hl'⟩ : ∃ l', Hid ((eraV l (ie, num) e).1 = l') := ⟨_, rfl⟩
  obtain ⟨R, hR⟩ : ∃ R, Hid ((eraV l (ie, num) e).2 = R) := ⟨_, rfl⟩
  obtain ⟨r', hr'⟩ : ∃ r', Hid ((eraV r (ie, num) e).1 = r') := ⟨_, rfl⟩
  have hlen : l'.length = l.length := by rw [← hl'.out]; exact len_era l (ie, num) e
  have hlen' := hid hlen
  have hrlen := hid (len_era r (ie, num) e)
  rw [hr'.out] at hrlen
  have hrE := hid (fun W' hs => rErase ra rc r ie num e W' hs P.srt P.len)
  rw [hl'.out, hR.out, hr'.out] at hlike
  rw [hl'.out, hR.out] at cE
  have hR2 : (eraV r (ie, num) e).2 = R := hlike.2.symm
  rw [hr'.out, hR2] at hrE
  have hmem : Hid (∀ y ∈ r', ∃ z ∈ r, bkV y = bkV z ∧ ∀ X, VnOk X z → VnOk X y) := fun y hy => by
    rw [← hr'.out] at hy
    unfold eraV at hy
    split at hy
    · exact ⟨y, hy, rfl, fun _ h => h⟩
    · split at hy
      · exact ⟨y, hy, rfl, fun _ h => h⟩
      · split at hy
        · exact ⟨y, hy, rfl, fun _ h => h⟩
        · rename_i h1 _ _
          obtain ⟨z, hz, _⟩ := has_at P.srt (ie, num) (by simpa using h1)
          have hat : atP r (ie, num) = z := by unfold atP; rw [hz]; rfl
          rcases mem_set hy with e | e
          · rw [e, hat]; exact ⟨z, List.mem_of_getElem? hz, rfl, fun _ h => h.era _⟩
          · exact ⟨y, e, rfl, fun _ h => h⟩
  have p0 := bx.get 0 _ rfl; have p5 := bx.get 5 _ rfl; have p6 := bx.get 6 _ rfl; have p7 := bx.get 7 _ rfl
  have hP := hid P
  have hlk := hid hlike.1
  have hB := hid bx
  have hgd : Hid (Gd l') := by rw [← hl'.out]; exact P.gd.era P.D.srt (ie, num) e
  clear P P1 bx hlike hlen hl' hr' hR hR2
  go_enter Try.func24, Try.ntmps24
  go_wp2_with fail
  refine cE.mono ?_
  rintro e0 w2 ⟨v', rfl, hD2, hWr, hrw⟩
  have hqf : w.heap.size ∉ p :: own v := fun hm => by have := hP.out.D.ltAll _ hm; omega
  have b2 := hB.out.keptS hWr.kp hqf hz1
  have q5 := b2.get 5 _ rfl; have q6 := b2.get 6 _ rfl; have q7 := b2.get 7 _ rfl
  have kw2 : Kp (p :: own v) w w2 := (k1.mono (by simp)).trans hWr.kp (fun _ h => .inl h)
  obtain ⟨hS2, hO2⟩ := hP.out.ref kw2 (fun k hk => .inl hk)
  have cR := hrE.out w2 hS2
  have hD2' := hid hD2
  have hWr' := hid hWr
  have hrw' := hid hrw
  have hO2' := hid hO2
  have kw2' := hid kw2
  clear cE hD2 hWr hrw b2 p0 p5 p6 p7 hS2 hO2 kw2 hrE
  go_wp2_with fail
  refine cR.mono ?_
  rintro e1 w3 ⟨a', c', rfl, hS3, k3, hn3a⟩
  have hn3 : ∀ k ∈ blk a', k ∈ blk ra ∨ w2.heap.size ≤ k := fun k hk => by
    rcases hn3a with ⟨_, e⟩ | h
    · rw [e] at hk; exact .inl hk
    · exact .inr (h k hk)
  have hH : Hid (StpP W p v l ra r w (.returned (.tuple #[.pointer (some ⟨p, 0, none⟩), .slice a' r'.length c', .bool true])) w3) := by
    have z1 := k1.size; have zk := kw2'.out.size; have z3 := k3.size; have zW := hP.out.kp.size
    have hfoot : ∀ k ∈ p :: own v', k ∈ p :: own v ∨ w.heap.size ≤ k := fun k hk => by
      rcases List.mem_cons.1 hk with e | e
      · exact .inl (by simp [e])
      · rcases hWr'.out.new k e with h | h
        · exact .inl (by simp [h])
        · exact .inr (by omega)
    refine ⟨p, v', l', a', c', r', rfl, ⟨hD2'.out.keptNew k3, hS3, fun y hy => ?_, hlk.out, (hP.out.kp.trans kw2'.out (fun k hk => .inr (hP.out.nw k hk))).trans k3 (by simp), fun k hk => ?_, fun y hy k hk => ?_, fun hne k hk hm => ?_, hgd.out⟩, kw2'.out.trans k3 (by simp), hfoot, by rw [hlen'.out]; omega, fun hne k hk => ?_, fun y hy k hk => ?_⟩
    · obtain ⟨z, hz, _, hX⟩ := hmem.out y hy
      exact (hX _ (hO2'.out z hz)).kept k3
    · rcases hfoot k hk with h | h
      · exact hP.out.nw k h
      · omega
    · obtain ⟨z, hz, eb, _⟩ := hmem.out y hy
      rw [eb] at hk
      exact hP.out.rb z hz k hk
    · rcases hn3 k hk with h | h
      · have hne' : r ≠ [] := fun e => by rw [e] at hrlen; exact hne (List.eq_nil_of_length_eq_zero hrlen.out)
        rcases hfoot k hm with h1 | h1
        · exact hP.out.ap hne' k h h1
        · have := hP.out.S.lt hne' k h; omega
      · have := hD2'.out.ltAll k hm; omega
    · have hne' : r ≠ [] := fun e => by rw [e] at hrlen; exact hne (List.eq_nil_of_length_eq_zero hrlen.out)
      rcases hn3 k hk with h | h
      · exact .inl ⟨h, hne'⟩
      · exact .inr (by omega)
    · rcases hrw'.out y hy k hk with h | h
      · exact .inl h
      · exact .inr (by omega)
  have t1 : (R == R) = true := by simp
  clear cR hS3 q5 q6 q7
  go_wp2_with fail
  go_returns
  exact hH.out
end Go.Proofs.Ytdjlefacdfdhmaa
end

section
namespace Go.Proofs.Ytdjlefacdfdhmaa
open Go.RowKit Go.Hay
set_option linter.unusedVariables false
set_option linter.unusedSimpArgs false

theorem rowsB_new {L : List Vn} {n : Nat} {w : World} {a : Option Addr} (h : ∀ y ∈ L, Ownd n w y ∧ ∀ k ∈ blk y.a, k ∉ blk a) : ∀ k ∈ rowsB L, n ≤ k := fun k hk => by
  obtain ⟨y, hy, h1⟩ := mem_rowsB.1 hk
  exact (h y hy).1.new k (blk_bkV h1)
set_option maxHeartbeats 8000000 in
set_option maxRecDepth 100000 in
theorem cStp4 {W w : World} {p : Nat} {v : Value} {l : List Vn} {ra : Option Addr} {r : List Vn} (P : PW W w p v l ra r) (rc : Nat) (x : Vn) (ie num e : Int) :
    Calls Try.prog 24 #[.pointer (some ⟨p, 0, none⟩), .slice ra r.length rc, .agg #[.int .i64 4, .int .u64 x.ep, .int .u32 x.num, .slice x.a x.row.length x.c, .int .u64 x.del, .int .u64 ie, .int .u32 num, .int .u64 e]] w (StpP W p v l ra r w) := by
  obtain ⟨w1, hw1, k1, bx, hz1⟩ := boxOp w ⟨4, x, ie, num, e⟩
  have P1 := P.keep k1
  have cP := cPurge P1.D e
  have hlk := P.L.purV e
  have hll := P.L.len
  have hlp := hlk.len
  have hrP := hid (fun W' hs => rPurge ra rc r e W' hs (by have := P.len; omega))
  have hple : (purV e l).length ≤ l.length := List.length_filter_le _ _
  have hrsub : Hid (∀ y ∈ purV e r, y ∈ r) := fun y hy => (List.mem_filter.1 hy).1
  obtain ⟨l', hl'⟩ : ∃ l', Hid (purV e l = l') := ⟨_, rfl⟩
  obtain ⟨r', hr'⟩ : ∃ r', Hid (purV e r = r') := ⟨_, rfl⟩
  rw [hl'.out] at cP hlk hple hlp
  rw [hr'.out] at hrP hlk hrsub hlp
  have hgd : Hid (Gd l') := by rw [← hl'.out]; exact P.gd.filter _
  have hfl := P.D.few
  obtain ⟨N, hN⟩ : ∃ N, Hid (r.length = N) := ⟨_, rfl⟩
  obtain ⟨M, hM⟩ : ∃ M, Hid (r'.length = M) := ⟨_, rfl⟩
  have hlN : l.length = N := by rw [hll, hN.out]
  have hlM : l'.length = M := by rw [hlp, hM.out]
  rw [hlN, hlM] at cP
  rw [hlN] at hfl
  rw [hlN, hlM] at hple
  have hlens := hid (And.intro hlN hlM)
  have p0 := bx.get 0 _ rfl; have p7 := bx.get 7 _ rfl
  have hP := hid P
  have hB := hid bx
  have hlk' := hid hlk
  simp only [hN.out] at hrP
  rw [hN.out]
  unfold GatP at hrP
  rw [hM.out] at hrP
  clear P P1 bx hlk hll hlp hl' hr' hlN hlM
  go_enter Try.func24, Try.ntmps24
  go_wp2_with fail
  refine cP.mono ?_
  rintro e0 w2 ⟨v', rfl, hD2, hWr, hrw⟩
  have hqf : w.heap.size ∉ p :: own v := fun hm => by have := hP.out.D.ltAll _ hm; omega
  have b2 := hB.out.keptS hWr.kp hqf hz1
  have q7 := b2.get 7 _ rfl
  have kw2 : Kp (p :: own v) w w2 := (k1.mono (by simp)).trans hWr.kp (fun _ h => .inl h)
  obtain ⟨hS2, hO2⟩ := hP.out.ref kw2 (fun k hk => .inl hk)
  have cR := hrP.out w2 hS2
  have H2 := hid (And.intro hD2 (And.intro hWr (And.intro hrw (And.intro hO2 kw2))))
  clear cP hD2 hWr hrw b2 p0 p7 hS2 hO2 kw2 hrP
  go_wp2_with fail
  refine cR.mono ?_
  rintro e1 w3 ⟨a', c', rfl, hr3, k3, hn3⟩
  have hH : Hid (StpP W p v l ra r w (.returned (.tuple #[.pointer (some ⟨p, 0, none⟩), .slice a' M c', .bool true])) w3) := by
    have z1 := k1.size; have zk := H2.out.2.2.2.2.size; have z3 := k3.size; have zW := hP.out.kp.size
    have hfoot : ∀ k ∈ p :: own v', k ∈ p :: own v ∨ w.heap.size ≤ k := fun k hk => by
      rcases List.mem_cons.1 hk with e | e
      · exact .inl (by simp [e])
      · rcases H2.out.2.1.new k e with h | h
        · exact .inl (by simp [h])
        · exact .inr (by omega)
    refine ⟨p, v', l', a', c', r', by rw [hM.out], ⟨H2.out.1.keptNew k3, See.ofRow hr3, fun y hy => (H2.out.2.2.2.1 y (hrsub.out y hy)).kept k3, hlk'.out, (hP.out.kp.trans H2.out.2.2.2.2 (fun k hk => .inr (hP.out.nw k hk))).trans k3 (by simp), fun k hk => ?_, fun y hy k hk => hP.out.rb y (hrsub.out y hy) k hk, fun hne k hk hm => ?_, hgd.out⟩, H2.out.2.2.2.2.trans k3 (by simp), hfoot, by rw [hlens.out.1, hlens.out.2]; omega, fun hne k hk => .inr (by have := hn3 k hk; omega), fun y hy k hk => ?_⟩
    · rcases hfoot k hk with h | h
      · exact hP.out.nw k h
      · omega
    · have := hn3 k hk; have := H2.out.1.ltAll k hm; omega
    · rcases H2.out.2.2.1 y hy k hk with h | h
      · exact .inl h
      · exact .inr (by omega)
  have t1 : ((N : Int) - (M : Int) == (N : Int) - (M : Int)) = true := by simp
  have hN2 : N ≤ 4000000000000 := by omega
  clear cR hr3 q7
  go_wp2_with fail
  go_returns
  exact hH.out
set_option maxHeartbeats 8000000 in
set_option maxRecDepth 100000 in
theorem cStp5 {W w : World} {p : Nat} {v : Value} {l : List Vn} {ra : Option Addr} {r : List Vn} (P : PW W w p v l ra r) (rc : Nat) (x : Vn) (ie num e : Int) :
    Calls Try.prog 24 #[.pointer (some ⟨p, 0, none⟩), .slice ra r.length rc, .agg #[.int .i64 5, .int .u64 x.ep, .int .u32 x.num, .slice x.a x.row.length x.c, .int .u64 x.del, .int .u64 ie, .int .u32 num, .int .u64 e]] w (StpP W p v l ra r w) := by
  obtain ⟨w1, hw1, k1, bx, hz1⟩ := boxOp w ⟨5, x, ie, num, e⟩
  have P1 := P.keep k1
  have cT := cTake P1.D
  have p0 := bx.get 0 _ rfl
  have hP := hid P
  have hlr := P.len
  clear P P1 bx
  go_enter Try.func24, Try.ntmps24
  go_wp2_with fail
  refine cT.mono ?_
  rintro e0 w2 ⟨L, a2, c2, rfl, hL, hrow, kk2, hn2, hown, hD2⟩
  have kw2 : Kp (p :: own v) w w2 := (k1.mono (by simp)).trans kk2 (fun k hk => .inl (by simp at hk; simp [hk]))
  obtain ⟨hS2, hO2⟩ := hP.out.ref kw2 (fun k hk => .inl hk)
  have hLf : L.length ≤ 4000000000001 := by have := hL.len; have := hP.out.D.few; omega
  have cS := rSameAll a2 ra c2 rc L r w2 (See.ofRow hrow) hS2 (fun y hy => (hown y hy).1.ok) hO2 (hL.trans hP.out.L) hLf
  have hcL := hid (fun X (k : Kp [] w2 X) => cLen (hD2.keptNew k))
  have H2 := hid (And.intro hD2 kw2)
  clear cT hrow hown hD2 hS2 hO2 kk2 hn2 p0
  go_wp2_with fail
  refine cS.mono ?_
  rintro e1 w3 ⟨rfl, k3⟩
  have cL := hcL.out w3 k3
  simp only [List.length_nil] at cL
  clear cS hcL
  go_wp2_with fail
  refine cL.mono ?_
  rintro e2 w4 ⟨rfl, rfl⟩
  have hH : Hid (StpP W p v l ra r w (.returned (.tuple #[.pointer (some ⟨p, 0, none⟩), .slice none 0 0, .bool true])) w4) := by
    have hp : p ∈ p :: own v := by simp
    refine ⟨p, .slice none 0 0, [], none, 0, [], rfl, ⟨H2.out.1.keptNew k3, .inl rfl, by simp, rfl, (hP.out.kp.trans H2.out.2 (fun k hk => .inr (hP.out.nw k hk))).trans k3 (by simp), fun k hk => ?_, by simp, by simp, fun _ h => by cases h⟩, H2.out.2.trans k3 (by simp), fun k hk => ?_, by simp, by simp, by simp⟩
    · simp [own, Value.ownBlock] at hk; subst hk; exact hP.out.nw k hp
    · simp [own, Value.ownBlock] at hk; subst hk; exact .inl hp
  clear cL
  go_wp2_with fail
  go_returns
  exact hH.out
set_option maxHeartbeats 8000000 in
set_option maxRecDepth 100000 in
theorem cStp7 {W w : World} {p : Nat} {v : Value} {l : List Vn} {ra : Option Addr} {r : List Vn} (P : PW W w p v l ra r) (rc : Nat) (x : Vn) (ie num e : Int) :
    Calls Try.prog 24 #[.pointer (some ⟨p, 0, none⟩), .slice ra r.length rc, .agg #[.int .i64 7, .int .u64 x.ep, .int .u32 x.num, .slice x.a x.row.length x.c, .int .u64 x.del, .int .u64 ie, .int .u32 num, .int .u64 e]] w (StpP W p v l ra r w) := by
  obtain ⟨w1, hw1, k1, bx, hz1⟩ := boxOp w ⟨7, x, ie, num, e⟩
  have P1 := P.keep k1
  have cC := cClone P1.D
  have p0 := bx.get 0 _ rfl
  have hP := hid P
  have hP1 := hid P1
  clear P P1 bx
  go_enter Try.func24, Try.ntmps24
  go_wp2_with fail
  refine cC.mono ?_
  rintro e0 w2 ⟨p', v', rfl, hD2, k2, hn2⟩
  have hH : Hid (StpP W p v l ra r w (.returned (.tuple #[.pointer (some ⟨p', 0, none⟩), .slice ra r.length rc, .bool true])) w2) := by
    have P2 := hP1.out.keep k2
    have zW := hP1.out.kp.size; have z1 := k1.size
    refine ⟨p', v', l, ra, rc, r, rfl, ⟨hD2, P2.S, P2.O, P2.L, P2.kp, fun k hk => by have := hn2 k hk; omega, P2.rb, fun hne k hk hm => ?_, P2.gd⟩, (k1.trans k2 (by simp)).mono (by simp), fun k hk => .inr (by have := hn2 k hk; omega), Nat.le_succ _, fun hne k hk => .inl ⟨hk, hne⟩, fun y hy k hk => .inl ⟨y, hy, hk⟩⟩
    have := hn2 k hm; have := hP1.out.S.lt hne k hk; omega
  clear cC hD2 hn2 k2 p0
  go_wp2_with fail
  go_returns
  exact hH.out
set_option maxHeartbeats 8000000 in
set_option maxRecDepth 100000 in
theorem cStp3 {W w : World} {p : Nat} {v : Value} {l : List Vn} {ra : Option Addr} {r : List Vn} (P : PW W w p v l ra r) (rc : Nat) (x : Vn) (ie num e : Int) :
    Calls Try.prog 24 #[.pointer (some ⟨p, 0, none⟩), .slice ra r.length rc, .agg #[.int .i64 3, .int .u64 x.ep, .int .u32 x.num, .slice x.a x.row.length x.c, .int .u64 x.del, .int .u64 ie, .int .u32 num, .int .u64 e]] w (StpP W p v l ra r w) := by
  obtain ⟨w1, hw1, k1, bx, hz1⟩ := boxOp w ⟨3, x, ie, num, e⟩
  have P1 := P.keep k1
  obtain ⟨w2, hw2⟩ : ∃ w2, (w1.alloc (.cells #[.pointer (some ⟨p, 0, none⟩)] 23)).alloc (.cells #[.int .u64 e] 30) = w2 := ⟨_, rfl⟩
  have k2 : Kp [] w1 w2 := by rw [← hw2]; exact ((Kp.refl _ _).alloc _).alloc _
  have hq : w2.cell? ⟨w1.heap.size, 0, none⟩ = some (.pointer (some ⟨p, 0, none⟩)) := by rw [← hw2]; exact kpAt ((Kp.refl _ _).alloc _) (World.cell?_alloc_new w1 #[.pointer (some ⟨p, 0, none⟩)] 23 0)
  have hqe : w2.cell? ⟨w1.heap.size + 1, 0, none⟩ = some (.int .u64 e) := by
    rw [← hw2]
    have := World.cell?_alloc_new (w1.alloc (.cells #[.pointer (some ⟨p, 0, none⟩)] 23)) #[.int .u64 e] 30 0
    rwa [World.size_alloc] at this
  have cA := cAt p e w1
  rw [hw2] at cA
  have P2 := P1.keep k2
  have cG := cGoneAt P2.D w1.heap.size (w1.heap.size + 1) e hq hqe
  have p0 := bx.get 0 _ rfl; have p7 := bx.get 7 _ rfl
  have hlk := P.L.atV e
  have hP := hid P
  have hP2 := hid P2
  have hB := hid bx
  have hlk' := hid hlk
  clear P P1 P2 bx hlk hw2 hq hqe
  go_enter Try.func24, Try.ntmps24
  go_wp2_with fail
  refine cA.mono ?_
  rintro e0 w2' ⟨rfl, hw2'⟩
  rw [hw2']
  clear hw2' w2' cA
  go_wp2_with fail
  refine cG.mono ?_
  rintro e1 w3 ⟨L, a3, c3, rfl, hL, hrow, k3, hn3, hown⟩
  have kk3 := (k1.trans k2 (by simp)).trans k3 (by simp)
  have P3 := hP2.out.keep k3
  have b3 := ((hB.out.kept k2 hz1).kept k3 (by have := k2.size; omega))
  have q7 := b3.get 7 _ rfl
  have cR := rAt ra rc r e w3 P3.S (by have := P3.len; omega)
  have hLf : L.length ≤ 4000000000000 := by
    have := hL.len
    have h2 : (atV e l).length ≤ l.length := by unfold atV; rw [List.length_map]; exact List.length_filter_le _ _
    have := P3.D.few
    omega
  have H3 := hid (And.intro hL (And.intro hrow (And.intro hown (And.intro hn3 P3))))
  clear cG hL hrow hown hn3 P3 b3 p0 p7
  go_wp2_with fail
  refine cR.mono ?_
  rintro e2 w4 ⟨a4, c4, rfl, hr4, k4, hn4⟩
  have hatm : ∀ y ∈ atV e r, VnOk w4 y := fun y hy => by
    unfold atV at hy
    obtain ⟨z, hz, rfl⟩ := List.mem_map.1 hy
    have hz' := (H3.out.2.2.2.2.O z (List.mem_filter.1 hz).1).kept k4
    unfold asV
    split
    · exact hz'.era 0
    · exact hz'
  have cS := rSameAll a3 a4 c3 c4 L (atV e r) w4 ((See.ofRow H3.out.2.1).keptNew k4) (See.ofRow hr4) (fun y hy => (H3.out.2.2.1 y hy).1.ok.kept k4) hatm (H3.out.1.trans hlk'.out) (by omega)
  clear cR hr4 hatm hn4 q7
  go_wp2_with fail
  refine cS.mono ?_
  rintro e3 w5 ⟨rfl, k5⟩
  have k35 := k4.trans k5 (by simp)
  clear cS
  have cP := cSpoilt a3 c3 L w5 ((See.ofRow H3.out.2.1).keptNew k35) hLf (fun y hy => ((H3.out.2.2.1 y hy).1.kept k35 (by simp)).wrt) (fun y hy => (H3.out.2.2.1 y hy).1.few) (fun y hy k hk => (H3.out.2.2.1 y hy).2 k (blk_bkV hk))
  have kk5 := hid (kk3.trans k35 (by simp))
  clear k35 kk3
  go_wp2_with fail
  refine cP.mono ?_
  rintro e4 w6 ⟨⟨vv, rfl⟩, k6⟩
  have hH : Hid (StpP W p v l ra r w (.returned (.tuple #[.pointer (some ⟨p, 0, none⟩), .slice ra r.length rc, .bool true])) w6) := by
    refine StpP.same hP.out rc (S := rowsB L) ((kk5.out.mono (by simp)).trans k6 (fun _ h => .inl h)) (fun k hk => ?_)
    have h1 := rowsB_new H3.out.2.2.1 k hk
    have := k1.size; have := k2.size
    omega
  
  clear cP
  go_wp2_with fail
  go_returns
  exact hH.out
set_option maxHeartbeats 8000000 in
set_option maxRecDepth 100000 in
theorem cStpE {W w : World} {p : Nat} {v : Value} {l : List Vn} {ra : Option Addr} {r : List Vn} (P : PW W w p v l ra r) (rc : Nat) (kd : Int) (x : Vn) (ie num e : Int) (h0 : kd ≠ 0) (h1 : kd ≠ 1) (h2 : kd ≠ 2) (h3 : kd ≠ 3) (h4 : kd ≠ 4) (h5 : kd ≠ 5) (h7 : kd ≠ 7) :
    Calls Try.prog 24 #[.pointer (some ⟨p, 0, none⟩), .slice ra r.length rc, .agg #[.int .i64 kd, .int .u64 x.ep, .int .u32 x.num, .slice x.a x.row.length x.c, .int .u64 x.del, .int .u64 ie, .int .u32 num, .int .u64 e]] w (StpP W p v l ra r w) := by
  obtain ⟨w1, hw1, k1, bx, hz1⟩ := boxOp w ⟨kd, x, ie, num, e⟩
  have P1 := P.keep k1
  obtain ⟨w2, hw2⟩ : ∃ w2, w1.alloc (.cells #[.pointer (some ⟨p, 0, none⟩)] 23) = w2 := ⟨_, rfl⟩
  have k2 : Kp [] w1 w2 := by rw [← hw2]; exact (Kp.refl _ _).alloc _
  have hq : w2.cell? ⟨w1.heap.size, 0, none⟩ = some (.pointer (some ⟨p, 0, none⟩)) := by rw [← hw2]; exact World.cell?_alloc_new w1 _ _ 0
  have cA := cAll p w1
  rw [hw2] at cA
  have P2 := P1.keep k2
  have cG := cGoneAll P2.D w1.heap.size hq
  have p0 := bx.get 0 _ rfl
  have t0 : (kd == 0) = false := by simpa using h0
  have t1 : (kd == 1) = false := by simpa using h1
  have t2 : (kd == 2) = false := by simpa using h2
  have t3 : (kd == 3) = false := by simpa using h3
  have t4 : (kd == 4) = false := by simpa using h4
  have t5 : (kd == 5) = false := by simpa using h5
  have t7 : (kd == 7) = false := by simpa using h7
  have hlk := P.L
  have hlen0 := P.L.len
  have hP := hid P
  have hP2 := hid P2
  have hB := hid bx
  have hlk' := hid hlk
  clear P P1 P2 bx hlk hw2 hq h0 h1 h2 h3 h4 h5 h7
  go_enter Try.func24, Try.ntmps24
  go_wp2_with fail
  refine cA.mono ?_
  rintro e0 w2' ⟨rfl, hw2'⟩
  rw [hw2']
  clear hw2' w2' cA
  go_wp2_with fail
  refine cG.mono ?_
  rintro e1 w3 ⟨L, a3, c3, rfl, hL, hrow, k3, hn3, hown⟩
  have kk3 := (k1.trans k2 (by simp)).trans k3 (by simp)
  have P3 := hP2.out.keep k3
  have b3 := ((hB.out.kept k2 hz1).kept k3 (by have := k2.size; omega))
  have cL := cLen P3.D
  have hLf : L.length ≤ 4000000000000 := by
    have := hL.len
    have := P3.D.few
    omega
  have H3 := hid (And.intro hL (And.intro hrow (And.intro hown (And.intro hn3 P3))))
  obtain ⟨N, hN⟩ : ∃ N, Hid (r.length = N) := ⟨_, rfl⟩
  rw [hlen0, hN.out] at cL
  rw [hN.out]
  have tt : ((N : Int) == (N : Int)) = true := by simp
  clear cG hL hrow hown hn3 P3 b3 p0 hlen0
  go_wp2_with fail
  refine cL.mono ?_
  rintro e2 w4 ⟨rfl, rfl⟩
  have cS := rSameAll a3 ra c3 rc L r w4 (See.ofRow H3.out.2.1) H3.out.2.2.2.2.S (fun y hy => (H3.out.2.2.1 y hy).1.ok) H3.out.2.2.2.2.O (H3.out.1.trans hlk'.out) (by omega)
  rw [hN.out] at cS
  clear cL
  go_wp2_with fail
  refine cS.mono ?_
  rintro e3 w5 ⟨rfl, k5⟩
  have k35 := k5
  clear cS
  have cP := cSpoilt a3 c3 L w5 ((See.ofRow H3.out.2.1).keptNew k35) hLf (fun y hy => ((H3.out.2.2.1 y hy).1.kept k35 (by simp)).wrt) (fun y hy => (H3.out.2.2.1 y hy).1.few) (fun y hy k hk => (H3.out.2.2.1 y hy).2 k (blk_bkV hk))
  have kk5 := hid (kk3.trans k35 (by simp))
  clear k35 kk3
  go_wp2_with fail
  refine cP.mono ?_
  rintro e4 w6 ⟨⟨vv, rfl⟩, k6⟩
  have hH : Hid (StpP W p v l ra r w (.returned (.tuple #[.pointer (some ⟨p, 0, none⟩), .slice ra r.length rc, .bool true])) w6) := by
    refine StpP.same hP.out rc (S := rowsB L) ((kk5.out.mono (by simp)).trans k6 (fun _ h => .inl h)) (fun k hk => ?_)
    have h1 := rowsB_new H3.out.2.2.1 k hk
    have := k1.size; have := k2.size
    omega
  rw [hN.out] at hH
  clear cP
  go_wp2_with fail
  go_returns
  exact hH.out
end Go.Proofs.Ytdjlefacdfdhmaa
end

section
namespace Go.Proofs.Ytdjlefacdfdhmaa
open Go.RowKit Go.Hay
set_option linter.unusedVariables false
set_option linter.unusedSimpArgs false

set_option maxHeartbeats 8000000 in
set_option maxRecDepth 100000 in
theorem cStp2 {W w : World} {p : Nat} {v : Value} {l : List Vn} {ra : Option Addr} {r : List Vn} (P : PW W w p v l ra r) (rc : Nat) (x : Vn) (ie num e : Int) :
    Calls Try.prog 24 #[.pointer (some ⟨p, 0, none⟩), .slice ra r.length rc, .agg #[.int .i64 2, .int .u64 x.ep, .int .u32 x.num, .slice x.a x.row.length x.c, .int .u64 x.del, .int .u64 ie, .int .u32 num, .int .u64 e]] w (StpP W p v l ra r w) := by
  obtain ⟨w1, hw1, k1, bx, hz1⟩ := boxOp w ⟨2, x, ie, num, e⟩
  have P1 := P.keep k1
  have cG := cGet P1.D ie num
  have hlr := P.len
  have hhas := P.L.has (ie, num)
  have hkof := P.L.kOf (ie, num)
  have hrP := hid (fun W' hs => rPlace ra rc r ie num W' hs (by omega))
  have hsr := hid P.srt
  have p0 := bx.get 0 _ rfl; have p5 := bx.get 5 _ rfl; have p6 := bx.get 6 _ rfl
  have hP := hid P
  have hP1 := hid P1
  have hB := hid bx
  by_cases hh : hasV l (ie, num) = true
  · obtain ⟨x0, hx0, hxi⟩ := has_at P.D.srt (ie, num) hh
    have hat0 : atP l (ie, num) = x0 := by unfold atP; rw [hx0]; rfl
    obtain ⟨y0, hy0, hpe⟩ := P.L.at hx0
    have hhr : Hid (hasV r (ie, num) = true) := by show _ = _; rw [← hhas]; exact hh
    unfold GetP at cG
    simp only [hh, if_true, hat0] at cG
    rw [hkof] at hy0
    obtain ⟨K0, hK0⟩ : ∃ k, Hid (kOf r (ie, num) = k) := ⟨_, rfl⟩
    rw [hK0.out] at hy0
    have hkl : K0 < r.length := (List.getElem?_eq_some_iff.1 hy0).1
    have hx0m := hid (List.mem_of_getElem? hx0)
    have hy0' := hid hy0
    have hpe' := hid hpe
    obtain ⟨xe, xn, xa, xc, xr, xd⟩ := x0
    obtain ⟨ye, yn, ya, yc, yr, yd⟩ := y0
    dsimp only at cG
    have hrw : Hid (xr.length * 40 ≤ 140737488355328) := (P.D.ok _ hx0m.out).few
    clear P P1 bx hhas hkof hh hx0 hxi hat0 hy0 hpe
    go_enter Try.func24, Try.ntmps24
    go_wp2_with fail
    refine cG.mono ?_
    rintro e0 w2 ⟨a2, c2, rfl, hr2, k2, hn2⟩
    obtain ⟨w3, hw3⟩ : ∃ w3, w2.alloc (.cells #[.int .u64 xe, .int .u32 xn, .slice a2 xr.length c2, .int .u64 xd] 45) = w3 := ⟨_, rfl⟩
    have k3 : Kp [] w2 w3 := by rw [← hw3]; exact (Kp.refl _ _).alloc _
    have b3 : Bx w3 w2.heap.size [.int .u64 xe, .int .u32 xn, .slice a2 xr.length c2, .int .u64 xd] := by rw [← hw3]; exact Bx.new w2 [.int .u64 xe, .int .u32 xn, .slice a2 xr.length c2, .int .u64 xd] _
    have hz3 : w2.heap.size < w3.heap.size := by rw [← hw3]; simp
    have k23 := k2.trans k3 (by simp)
    have bo := (hB.out.kept k23 hz1)
    have q5 := bo.get 5 _ rfl; have q6 := bo.get 6 _ rfl
    have P3 := hP1.out.keep k23
    have cR := hrP.out w3 P3.S
    have hr2' := hid (hr2.keptNew k3)
    have hB3 := hid b3
    have hP3 := hid P3
    have hn2' := hid hn2
    have kk3 := hid (k1.trans k23 (by simp))
    clear cG hr2 k2 hn2 p0 p5 p6 bo P3 hrP b3 k23
    go_wp2_with fail
    refine cR.mono ?_
    rintro e1 w4 ⟨r0, rfl, hr0, k4⟩
    have er := hr0.yes hsr.out hhr.out
    rw [hK0.out] at er
    subst er
    have P4 := hP3.out.keep k4
    obtain ⟨g, o, rfl, d0, d1, d2, d3⟩ := idAt P4.S hy0'.out
    dsimp only at d0 d1 d2 d3
    have b4 := hB3.out.kept k4 hz3
    have s0 := b4.get 0 _ rfl; have s1 := b4.get 1 _ rfl; have s2 := b4.get 2 _ rfl; have s3 := b4.get 3 _ rfl
    have hrow4 := hr2'.out.keptNew k4
    obtain ⟨_, _, ev, hsee4, hnil4, hlc4, _⟩ := hrow4.see
    cases ev
    have ok4 : VnOk w4 ⟨xe, xn, a2, c2, xr, xd⟩ := ⟨hsee4, hlc4, fun e => (hnil4 e).2, hrw.out⟩
    have cS : ∀ X, Kp [] w4 X → Calls Try.prog 21 #[.agg #[.int .u64 xe, .int .u32 xn, .slice a2 xr.length c2, .int .u64 xd], .agg #[.int .u64 ye, .int .u32 yn, .slice ya yr.length yc, .int .u64 yd]] X fun e w' => e = .returned (.bool true) ∧ Kp [] X w' := fun X k => rSame ⟨xe, xn, a2, c2, xr, xd⟩ ⟨ye, yn, ya, yc, yr, yd⟩ X (ok4.kept k) ((P4.O _ (List.mem_of_getElem? hy0'.out)).kept k) hpe'.out
    have Kwd : Kp [] w4 w4.drew := (Kp.refl _ _).drew
    have hS0 : (fun A : World => (A.cell? ⟨w2.heap.size, 0, none⟩ = some (.int .u64 xe) ∧ A.cell? ⟨w2.heap.size, 1, none⟩ = some (.int .u32 xn) ∧ A.cell? ⟨w2.heap.size, 2, none⟩ = some (.slice a2 xr.length c2) ∧ A.cell? ⟨w2.heap.size, 3, none⟩ = some (.int .u64 xd)) ∧ A.cell? ⟨g, o + K0 * 4, none⟩ = some (.int .u64 ye) ∧ A.cell? ⟨g, o + K0 * 4 + 1, none⟩ = some (.int .u32 yn) ∧ A.cell? ⟨g, o + K0 * 4 + 2, none⟩ = some (.slice ya yr.length yc) ∧ A.cell? ⟨g, o + K0 * 4 + 3, none⟩ = some (.int .u64 yd)) w4.drew := ⟨⟨s0, s1, s2, s3⟩, d0, d1, d2, d3⟩
    have i1 : (0 : Int) ≤ (K0 : Int) := by omega
    have i2 : (K0 : Int) < (r.length : Int) := by omega
    have i3 : ¬ (K0 : Int) < 0 := by omega
    have hrow4' := hid hrow4
    have hB4 := hid b4
    have kk4 := hid (kk3.out.trans k4 (by simp))
    have hz4 : w2.heap.size < w4.heap.size := by have := k4.size; omega
    clear cR hr0 P4 d0 d1 d2 d3 s0 s1 s2 s3 hrow4 hsee4 ok4 b4 q5 q6 hw3
    go_wp2_with fail
    refine wp_region_held_drew (S := (fun A => (A.cell? ⟨w2.heap.size, 0, none⟩ = some (.int .u64 xe) ∧ A.cell? ⟨w2.heap.size, 1, none⟩ = some (.int .u32 xn) ∧ A.cell? ⟨w2.heap.size, 2, none⟩ = some (.slice a2 xr.length c2) ∧ A.cell? ⟨w2.heap.size, 3, none⟩ = some (.int .u64 xd)) ∧ A.cell? ⟨g, o + K0 * 4, none⟩ = some (.int .u64 ye) ∧ A.cell? ⟨g, o + K0 * 4 + 1, none⟩ = some (.int .u32 yn) ∧ A.cell? ⟨g, o + K0 * 4 + 2, none⟩ = some (.slice ya yr.length yc) ∧ A.cell? ⟨g, o + K0 * 4 + 3, none⟩ = some (.int .u64 yd))) (by kernel_rfl) ?_ (fun hHeld => ?_)
    · exact hS0
    generalize w4.drew = wd at *
    refine wpAnyH_take (i := 0) (v := ?_) rfl (by kernel_rfl) (by kernel_rfl) (by kernel_rfl) (fun _ _ _ h => h) (Or.inl ⟨by rfl, ?_⟩) (by assumption) ?_
    rotate_left
    · intro w hSw; (try dsimp only at hSw); go_simp <;> with_reducible rfl
    try simp only [Act.put, List.getElem_toArray, List.getElem_cons_zero, List.getElem_cons_succ, List.setIfInBounds_toArray, List.set_cons_zero, List.set_cons_succ]
    refine wpAnyH_take (i := 1) (v := ?_) rfl (by kernel_rfl) (by kernel_rfl) (by kernel_rfl) (fun _ _ _ h => h) (Or.inl ⟨by rfl, ?_⟩) (by assumption) ?_
    rotate_left
    · intro w hSw; (try dsimp only at hSw); go_simp <;> with_reducible rfl
    try simp only [Act.put, List.getElem_toArray, List.getElem_cons_zero, List.getElem_cons_succ, List.setIfInBounds_toArray, List.set_cons_zero, List.set_cons_succ]
    refine wpAnyH_take (i := 2) (v := ?_) rfl (by kernel_rfl) (by kernel_rfl) (by kernel_rfl) (fun _ _ _ h => h) (Or.inl ⟨by rfl, ?_⟩) (by assumption) ?_
    rotate_left
    · intro w hSw; (try dsimp only at hSw); go_simp <;> with_reducible rfl
    try simp only [Act.put, List.getElem_toArray, List.getElem_cons_zero, List.getElem_cons_succ, List.setIfInBounds_toArray, List.set_cons_zero, List.set_cons_succ]
    refine wpAnyH_take (i := 3) (v := ?_) rfl (by kernel_rfl) (by kernel_rfl) (by kernel_rfl) (fun _ _ _ h => h) (Or.inl ⟨by rfl, ?_⟩) (by assumption) ?_
    rotate_left
    · intro w hSw; (try dsimp only at hSw); go_simp <;> with_reducible rfl
    try simp only [Act.put, List.getElem_toArray, List.getElem_cons_zero, List.getElem_cons_succ, List.setIfInBounds_toArray, List.set_cons_zero, List.set_cons_succ]
    refine wpAnyH_take (i := 4) (v := ?_) rfl (by kernel_rfl) (by kernel_rfl) (by kernel_rfl) (fun _ _ _ h => h) (Or.inl ⟨by rfl, ?_⟩) (by assumption) ?_
    rotate_left
    · intro w hSw; (try dsimp only at hSw); go_simp <;> with_reducible rfl
    try simp only [Act.put, List.getElem_toArray, List.getElem_cons_zero, List.getElem_cons_succ, List.setIfInBounds_toArray, List.set_cons_zero, List.set_cons_succ]
    refine wpAnyH_take (i := 5) (v := ?_) rfl (by kernel_rfl) (by kernel_rfl) (by kernel_rfl) (fun _ _ _ h => h) (Or.inl ⟨by rfl, ?_⟩) (by assumption) ?_
    rotate_left
    · intro w hSw; (try dsimp only at hSw); go_simp <;> with_reducible rfl
    try simp only [Act.put, List.getElem_toArray, List.getElem_cons_zero, List.getElem_cons_succ, List.setIfInBounds_toArray, List.set_cons_zero, List.set_cons_succ]
    refine wpAnyH_take (i := 6) (v := ?_) rfl (by kernel_rfl) (by kernel_rfl) (by kernel_rfl) (fun _ _ _ h => h) (Or.inl ⟨by rfl, ?_⟩) (by assumption) ?_
    rotate_left
    · intro w hSw; (try dsimp only at hSw); go_simp <;> with_reducible rfl
    try simp only [Act.put, List.getElem_toArray, List.getElem_cons_zero, List.getElem_cons_succ, List.setIfInBounds_toArray, List.set_cons_zero, List.set_cons_succ]
    refine wpAnyH_ready (rs := [7]) (by kernel_rfl) (by simp) ?_
    refine AllReadyH.cons rfl (fun K hK => ?_) AllReadyH.nil
    go_simp
    refine (cS wd Kwd).mono ?_
    rintro e1 x1 ⟨rfl, kx1⟩
    (try go_wp2_with fail)
    refine hK.out _ _ ?_ (fun hHeld => ?_)
    · exact ⟨⟨kpAt kx1 hHeld.1.1, kpAt kx1 hHeld.1.2.1, kpAt kx1 hHeld.1.2.2.1, kpAt kx1 hHeld.1.2.2.2⟩, kpAt kx1 hHeld.2.1, kpAt kx1 hHeld.2.2.1, kpAt kx1 hHeld.2.2.2.1, kpAt kx1 hHeld.2.2.2.2⟩
    clear hK K
    try simp only [Act.put, List.getElem_toArray, List.getElem_cons_zero, List.getElem_cons_succ, List.setIfInBounds_toArray, List.set_cons_zero, List.set_cons_succ]
    refine wpAnyH_take (i := 8) (v := ?_) rfl (by kernel_rfl) (by kernel_rfl) (by kernel_rfl) (fun _ _ _ h => h) (Or.inl ⟨by rfl, ?_⟩) (by assumption) ?_
    rotate_left
    · intro w hSw; (try dsimp only at hSw); go_simp <;> with_reducible rfl
    try simp only [Act.put, List.getElem_toArray, List.getElem_cons_zero, List.getElem_cons_succ, List.setIfInBounds_toArray, List.set_cons_zero, List.set_cons_succ]
    refine wpAnyH_take (i := 9) (v := ?_) rfl (by kernel_rfl) (by kernel_rfl) (by kernel_rfl) (fun _ _ _ h => h) (Or.inl ⟨by rfl, ?_⟩) (by assumption) ?_
    rotate_left
    · intro w hSw; (try dsimp only at hSw); go_simp <;> with_reducible rfl
    try simp only [Act.put, List.getElem_toArray, List.getElem_cons_zero, List.getElem_cons_succ, List.setIfInBounds_toArray, List.set_cons_zero, List.set_cons_succ]
    refine wpAnyH_done (by kernel_rfl) ?_ _
    have kx := Kwd.trans kx1 (by simp)
    have b5 := hB4.out.kept kx hz4
    have u0 := b5.get 0 _ rfl; have u1 := b5.get 1 _ rfl; have u2 := b5.get 2 _ rfl; have u3 := b5.get 3 _ rfl
    obtain ⟨w6, hw6⟩ : ∃ w6, x1.alloc (.cells #[.int .u64 xe, .int .u32 xn, .slice a2 xr.length c2, .int .u64 xd] 45) = w6 := ⟨_, rfl⟩
    have k6 : Kp [] x1 w6 := by rw [← hw6]; exact (Kp.refl _ _).alloc _
    have b6 : Bx w6 x1.heap.size (VnE.c ⟨xe, xn, a2, c2, xr, xd⟩) := by rw [← hw6]; exact Bx.new x1 (VnE.c ⟨xe, xn, a2, c2, xr, xd⟩) _
    have k46 := kx.trans k6 (by simp)
    have hrow6 := hrow4'.out.keptNew k46
    have own6 : Ownd w1.heap.size w6 ⟨xe, xn, a2, c2, xr, xd⟩ := ⟨hrow6, fun k hk => by have := hn2'.out k hk; omega, hrw.out⟩
    have hblt : ∀ k ∈ blk a2, k < w4.heap.size := fun k hk => hrow4'.out.lt k (by rw [own_slice]; exact hk)
    have hx4 : w4.heap.size ≤ x1.heap.size := kx.size
    have cP := cSpoilt (some ⟨x1.heap.size, 0, none⟩) 1 [⟨xe, xn, a2, c2, xr, xd⟩] w6 b6.see1 (by simp) (fun y hy => by simp at hy; subst hy; exact own6.wrt) (fun y hy => by simp at hy; subst hy; exact hrw.out) (fun y hy k hk hm => by
      simp at hy; subst hy
      have := hblt k (blk_bkV hk)
      simp [blk] at hm
      omega)
    have hsp : Hid (∀ k ∈ rowsB [(⟨xe, xn, a2, c2, xr, xd⟩ : Vn)], w.heap.size ≤ k) := fun k hk => by
      obtain ⟨y, hy, h1⟩ := mem_rowsB.1 hk
      simp at hy; subst hy
      have := hn2'.out k (blk_bkV h1)
      omega
    have kk6 := hid (kk4.out.trans k46 (by simp))
    clear hHeld hS0 cS kx1 Kwd kx b5 b6 hrow6 own6 hblt k46 k6
    simp only [List.length_cons, List.length_nil, Nat.zero_add] at cP
    go_wp2_with fail
    refine cP.mono ?_
    rintro e4 w7 ⟨⟨vv, rfl⟩, k7⟩
    have hH : Hid (StpP W p v l (some ⟨g, o, none⟩) r w (.returned (.tuple #[.pointer (some ⟨p, 0, none⟩), .slice (some ⟨g, o, none⟩) r.length rc, .bool true])) w7) := StpP.same hP.out rc (S := rowsB [⟨xe, xn, a2, c2, xr, xd⟩]) ((kk6.out.mono (by simp)).trans k7 (fun _ h => .inl h)) hsp.out
    clear cP
    go_wp2_with fail
    go_returns
    exact hH.out
  · have hh' : hasV l (ie, num) = false := by simpa using hh
    have hhr : Hid (hasV r (ie, num) = false) := by show _ = _; rw [← hhas]; exact hh'
    unfold GetP at cG
    simp only [hh, if_false] at cG
    clear P P1 bx hhas hkof hh hh'
    go_enter Try.func24, Try.ntmps24
    go_wp2_with fail
    refine cG.mono ?_
    rintro e0 w2 ⟨rfl, k2⟩
    obtain ⟨w3, hw3⟩ : ∃ w3, w2.alloc (.cells #[.int .u64 0, .int .u32 0, .slice none 0 0, .int .u64 0] 45) = w3 := ⟨_, rfl⟩
    have k3 : Kp [] w2 w3 := by rw [← hw3]; exact (Kp.refl _ _).alloc _
    have b3 : Bx w3 w2.heap.size [.int .u64 0, .int .u32 0, .slice none 0 0, .int .u64 0] := by rw [← hw3]; exact Bx.new w2 [.int .u64 0, .int .u32 0, .slice none 0 0, .int .u64 0] _
    have hz3 : w2.heap.size < w3.heap.size := by rw [← hw3]; simp
    have k23 := k2.trans k3 (by simp)
    have bo := (hB.out.kept k23 hz1)
    have q5 := bo.get 5 _ rfl; have q6 := bo.get 6 _ rfl
    have P3 := hP1.out.keep k23
    have cR := hrP.out w3 P3.S
    have hB3 := hid b3
    have kk3 := hid (k1.trans k23 (by simp))
    have f0 := b3.get 0 _ rfl; have f1 := b3.get 1 _ rfl; have f2 := b3.get 2 _ rfl; have f3 := b3.get 3 _ rfl
    have g0 := b3.free 0; have g1 := b3.free 1; have g2 := b3.free 2; have g3 := b3.free 3
    obtain ⟨w5, hw5, b5, k5⟩ := b3.set4 rfl (.int .u64 0) (.int .u32 0) (.slice none 0 0) (.int .u64 0)
    have k35 : Kp [] w2 w5 := k3.trans k5 (fun k hk => .inr (by simp at hk; omega))
    have bo5 := (hB.out.kept (k2.trans k35 (by simp)) hz1)
    have o5 := bo5.get 5 _ rfl; have o6 := bo5.get 6 _ rfl
    have P5 := hP1.out.keep (k2.trans k35 (by simp))
    have cR5 := hrP.out w5 P5.S
    have hB5 := hid b5
    have hz5 : w2.heap.size < w5.heap.size := by have := k5.size; omega
    have kk5 := hid (k1.trans (k2.trans k35 (by simp)) (by simp))
    clear cG k2 p0 p5 p6 bo P3 hrP b3 k23 cR bo5 P5 b5 k5 k35 q5 q6
    go_wp2_with fail
    refine cR5.mono ?_
    rintro e1 w4 ⟨r0, rfl, hr0, k4⟩
    have er := hr0.no hhr.out
    subst er
    have b4 := hB5.out.kept k4 hz5
    have s0 := b4.get 0 _ rfl; have s1 := b4.get 1 _ rfl; have s2 := b4.get 2 _ rfl; have s3 := b4.get 3 _ rfl
    have okz : VnOk w4 ⟨0, 0, none, 0, [], 0⟩ := ⟨.inl rfl, by simp, fun _ => rfl, by simp⟩
    have cS := rSame ⟨0, 0, none, 0, [], 0⟩ ⟨0, 0, none, 0, [], 0⟩ w4 okz okz rfl
    simp only [List.length_nil] at cS
    have kk4 := hid (kk5.out.trans k4 (by simp))
    clear cR5 hr0 b4 hw3 hw5 f0 f1 f2 f3 g0 g1 g2 g3 o5 o6
    go_wp2_with fail
    refine cS.mono ?_
    rintro e2 w6 ⟨rfl, k6⟩
    have hH : Hid (StpP W p v l ra r w (.returned (.tuple #[.pointer (some ⟨p, 0, none⟩), .slice ra r.length rc, .bool true])) w6) := StpP.same hP.out rc (S := []) (kk4.out.trans k6 (by simp)) (by simp)
    clear cS
    go_wp2_with fail
    go_returns
    exact hH.out
end Go.Proofs.Ytdjlefacdfdhmaa
end

section
namespace Go.Proofs.Ytdjlefacdfdhmaa
open Go.RowKit Go.Hay
set_option linter.unusedVariables false
set_option linter.unusedSimpArgs false

set_option maxHeartbeats 8000000 in
set_option maxRecDepth 100000 in
theorem cStp0 {W w : World} {p : Nat} {v : Value} {l : List Vn} {ra : Option Addr} {r : List Vn} (P : PW W w p v l ra r) (rc : Nat) (x : Vn) (ie num e : Int) (hx : VnOk W x) (hl1 : l.length + 1 ≤ 4000000000000) :
    Calls Try.prog 24 #[.pointer (some ⟨p, 0, none⟩), .slice ra r.length rc, .agg #[.int .i64 0, .int .u64 x.ep, .int .u32 x.num, .slice x.a x.row.length x.c, .int .u64 x.del, .int .u64 ie, .int .u32 num, .int .u64 e]] w (StpP W p v l ra r w) := by
  obtain ⟨w1, hw1, k1, bx, hz1⟩ := boxOp w ⟨0, x, ie, num, e⟩
  have P1 := P.keep k1
  have hxW := hx.kept P1.kp
  obtain ⟨w2, hw2⟩ : ∃ w2, w1.alloc (.cells #[.int .u64 x.ep, .int .u32 x.num, .slice x.a x.row.length x.c, .int .u64 x.del] 45) = w2 := ⟨_, rfl⟩
  have k2 : Kp [] w1 w2 := by rw [← hw2]; exact (Kp.refl _ _).alloc _
  have b2 : Bx w2 w1.heap.size (VnE.c x) := by rw [← hw2]; exact Bx.new w1 (VnE.c x) _
  have hz2 : w1.heap.size < w2.heap.size := by rw [← hw2]; simp
  have bo2 := bx.kept k2 hz1
  obtain ⟨i0, hi, hz0', hz1', hz2'⟩ := infoV
  have hsr := (hxW.see.keptNew k2).src (P := Try.prog) Try.underlying43 x.c
  obtain ⟨v', w3, hrun, hrow3, k3, hn3⟩ := run_appendG (E := VE) (P := Try.prog) w2 43 43 43 64 i0 _ 40 Try.underlying43 hi hz0' hz1' hz2' rfl (.slice none 0 0) [] (El.Row.nil _) _ x.row hsr (by have := hx.few; simp; omega) (by have := hx.few; simp; omega)
  rw [List.nil_append] at hrow3
  obtain ⟨a3, c3, rfl, _⟩ := hrow3.see
  have k3' : Kp [] w2 w3 := k3.mono (fun k hk => by simp [own, Value.ownBlock] at hk)
  have hn3' : ∀ k ∈ blk a3, w2.heap.size ≤ k := fun k hk => by
    rcases hn3 k (by rw [own_slice]; exact hk) with h | h
    · simp [own, Value.ownBlock] at h
    · exact h
  have b3 := b2.kept k3' hz2
  have f3 := b3.free 2
  have g3 := b3.get 2 _ rfl
  obtain ⟨w4, hw4⟩ : ∃ w4, w3.setCell ⟨w1.heap.size, 2, none⟩ (.slice a3 x.row.length c3) = w4 := ⟨_, rfl⟩
  have k4 : Kp [w1.heap.size] w3 w4 := by rw [← hw4]; exact (Kp.refl _ _).setCell (.inl (by simp)) _
  have b4 : Bx w4 w1.heap.size [.int .u64 x.ep, .int .u32 x.num, .slice a3 x.row.length c3, .int .u64 x.del] := by rw [← hw4]; exact b3.set 2 (by simp [VnE]) _
  have hrow4 : VE.Row w4 (.slice a3 x.row.length c3) x.row := hrow3.kept k4 (fun k hk hm => by rw [own_slice] at hk; simp at hm; have := hn3' k hk; omega)
  have k14 : Kp [] w1 w4 := (k2.trans k3' (by simp)).trans k4 (fun k hk => .inr (by simp at hk; omega))
  have kw4 := k1.trans k14 (by simp)
  have P4 := P.keep kw4
  obtain ⟨_, _, ev, hsee4, hnil4, hlc4, _⟩ := hrow4.see
  cases ev
  have ok4 : VnOk w4 ⟨x.ep, x.num, a3, c3, x.row, x.del⟩ := ⟨hsee4, hlc4, fun e => (hnil4 e).2, hx.few⟩
  have cA := cAddW P4.D ⟨x.ep, x.num, a3, c3, x.row, x.del⟩ ok4 hl1
  unfold Vn.v at cA
  dsimp only at cA
  have bo4 := bo2.kept k3' (by omega) |>.keptS k4 (by simp; omega) (by have := k3'.size; omega)
  have hblt : ∀ k ∈ blk a3, k < w4.heap.size := fun k hk => hrow4.lt k (by rw [own_slice]; exact hk)
  have p0 := bx.get 0 _ rfl; have p1 := bx.get 1 _ rfl; have p2 := bx.get 2 _ rfl; have p3 := bx.get 3 _ rfl; have p4 := bx.get 4 _ rfl
  have q3 := bo2.get 3 _ rfl
  have u0 := b4.get 0 _ rfl; have u1 := b4.get 1 _ rfl; have u2 := b4.get 2 _ rfl; have u3 := b4.get 3 _ rfl
  have hP := hid P
  have hP4 := hid P4
  have hBo := hid bo4
  have hB4 := hid b4
  have hrA := hid (fun W' hs => rAdd ra rc r x W' hs P.srt P.len)
  have hrow4' := hid hrow4
  have hx' := hid hx
  have hzw4 := kw4.size
  have z14 := k14.size
  have hz14 : w1.heap.size < w4.heap.size := by have := k3'.size; have := k4.size; omega
  have kw4' := hid kw4
  have hadd : Hid (∀ a c, Like (addV l { x with a := a, c := c }).1 (addV r x).1 ∧ (addV l { x with a := a, c := c }).2 = (addV r x).2) := fun a c => P.L.add (x := { x with a := a, c := c }) (y := x) rfl
  have hgdA : Hid (∀ a c, Gd (addV l { x with a := a, c := c }).1) := fun a c => P.gd.add _
  have hlenA : Hid (∀ a c, (addV l { x with a := a, c := c }).1.length ≤ l.length + 1) := fun a c => len_add l _
  have hmemr : Hid (∀ y ∈ (addV r x).1, y = x ∨ y ∈ r) := fun y hy => by
    unfold addV at hy
    split at hy
    · exact .inr hy
    · split at hy
      · exact .inr hy
      · unfold insV at hy
        rcases List.mem_append.1 hy with h | h
        · exact .inr (List.mem_of_mem_take h)
        · rcases List.mem_cons.1 h with h | h
          · exact .inl h
          · exact .inr (List.mem_of_mem_drop h)
  have hne0 : Hid ((addV r x).1 ≠ [] → (addV r x).2 ≠ 0 → r ≠ []) := fun h1 h2 => by
    unfold addV at h1 h2
    split at h1
    · exact h1
    · split at h1
      · exact h1
      · rename_i a b; rw [if_neg a, if_neg b] at h2; exact absurd rfl h2
  obtain ⟨r', hr'⟩ : ∃ r', Hid ((addV r x).1 = r') := ⟨_, rfl⟩
  obtain ⟨R, hR⟩ : ∃ R, Hid ((addV r x).2 = R) := ⟨_, rfl⟩
  rw [hr'.out] at hmemr
  rw [hr'.out, hR.out] at hne0
  simp only [hr'.out, hR.out] at hadd hrA
  obtain ⟨ep, xn, xa, xc, xr, xd⟩ := x
  dsimp only at *
  clear P P1 P4 bx hxW b2 bo2 hsr hrow3 k3 hn3 b3 k4 b4 hrow4 k14 kw4 hsee4 ok4 bo4 hx hr' hR k2 k3'
  go_enter Try.func24, Try.ntmps24
  go_wp2_with (first | (refine wpAppRun rfl _ _ 43 43 rfl _ _ _ rfl rfl hrun ?_) | fail)
  refine cA.mono ?_
  rintro e0 w5 ⟨a5, c5, v5, he5, hD5, hWr5, hrw5⟩
  subst he5
  have hR5 := (hadd.out a5 c5).2
  dsimp only at hR5 hD5 hrw5
  rw [hR5]
  have hqf : w.heap.size ∉ p :: own v := fun hm => by have := hP.out.D.ltAll _ hm; omega
  have hqf1 : w1.heap.size ∉ p :: own v := fun hm => by have := hP.out.D.ltAll _ hm; omega
  have z5 := hWr5.kp.size
  have b5 := hB4.out.keptS hWr5.kp hqf1 (by omega)
  have s0 := b5.get 0 _ rfl; have s1 := b5.get 1 _ rfl; have s2 := b5.get 2 _ rfl; have s3 := b5.get 3 _ rfl
  have bo5 := hBo.out.keptS hWr5.kp hqf (by omega)
  have hrow5 := hrow4'.out.kept hWr5.kp (fun k hk hm => by
    rw [own_slice] at hk
    have h1 := hn3' k hk
    have := hP.out.D.ltAll k hm
    omega)
  obtain ⟨w6, hw6⟩ : ∃ w6, w5.alloc (.cells #[.int .u64 ep, .int .u32 xn, .slice a3 xr.length c3, .int .u64 xd] 45) = w6 := ⟨_, rfl⟩
  have k6 : Kp [] w5 w6 := by rw [← hw6]; exact (Kp.refl _ _).alloc _
  have b6 : Bx w6 w5.heap.size (VnE.c ⟨ep, xn, a3, c3, xr, xd⟩) := by rw [← hw6]; exact Bx.new w5 (VnE.c ⟨ep, xn, a3, c3, xr, xd⟩) _
  have hrow6 := hrow5.keptNew k6
  have own6 : Ownd w2.heap.size w6 ⟨ep, xn, a3, c3, xr, xd⟩ := ⟨hrow6, hn3', hx'.out.few⟩
  have cP := cSpoilt (some ⟨w5.heap.size, 0, none⟩) 1 [⟨ep, xn, a3, c3, xr, xd⟩] w6 b6.see1 (by simp) (fun y hy => by simp at hy; subst hy; exact own6.wrt) (fun y hy => by simp at hy; subst hy; exact hx'.out.few) (fun y hy k hk hm => by
    simp at hy; subst hy
    have := hblt k (blk_bkV hk)
    simp [blk] at hm
    omega)
  simp only [List.length_cons, List.length_nil, Nat.zero_add] at cP
  have hsp : Hid (∀ k ∈ rowsB [(⟨ep, xn, a3, c3, xr, xd⟩ : Vn)], w2.heap.size ≤ k ∧ k < w4.heap.size) := fun k hk => by
    obtain ⟨y, hy, h1⟩ := mem_rowsB.1 hk
    simp at hy; subst hy
    exact ⟨hn3' k (blk_bkV h1), hblt k (blk_bkV h1)⟩
  have hD6 := hid (hD5.keptNew k6)
  have hBo5 := hid bo5
  have H5 := hid (And.intro hWr5 hrw5)
  clear cA hD5 hWr5 hrw5 b5 bo5 hrow5 b6 hrow6 own6 hrun u0 u1 u2 u3 q3 p1 p2 p3 p4 p0
  go_wp2_with fail
  refine cP.mono ?_
  rintro e1 w7 ⟨⟨vv, rfl⟩, k7⟩
  have kw7 : Kp (p :: own v) w w7 := by
    have q1 : Kp (p :: own v) w w6 := ((kw4'.out.mono (by simp)).trans H5.out.1.kp (fun _ h => .inl h)).trans k6 (by simp)
    exact q1.trans k7 (fun k hk => .inr (by have := (hsp.out k hk).1; omega))
  have hfoot5 : ∀ k ∈ p :: own v5, k ∈ p :: own v ∨ w4.heap.size ≤ k := fun k hk => by
    rcases List.mem_cons.1 hk with e | e
    · exact .inl (by simp [e])
    · rcases H5.out.1.new k e with h | h
      · exact .inl (by simp [h])
      · exact .inr h
  have hD7 := hD6.out.kept k7 (fun k hk hm => by
    have h1 := hsp.out k hm
    rcases hfoot5 k hk with h | h
    · have := hP.out.D.ltAll k h; omega
    · omega) (fun y hy k hk hm => by
    have h1 := hsp.out k hm
    rcases H5.out.2 y hy k hk with ⟨z, hz, h⟩ | h
    · have := (hP.out.D.ok z hz).lt k h; omega
    · omega)
  obtain ⟨hS7, hO7⟩ := hP.out.ref kw7 (fun k hk => .inl hk)
  have cR := hrA.out w7 hS7
  have z6 := k6.size; have z7 := k7.size
  have bo7 := (hBo5.out.kept k6 (by omega)).keptS k7 (fun hm => by have := (hsp.out _ hm).1; omega) (by omega)
  have o1 := bo7.get 1 _ rfl; have o2 := bo7.get 2 _ rfl; have o3 := bo7.get 3 _ rfl; have o4 := bo7.get 4 _ rfl
  have H7 := hid (And.intro hD7 (And.intro hO7 kw7))
  have hzz : w.heap.size ≤ w7.heap.size := by omega
  clear cP hD7 hS7 hO7 kw7 bo7 hrA s0 s1 s2 s3 hw6
  go_wp2_with fail
  refine cR.mono ?_
  rintro e2 w8 ⟨a', c', rfl, hS8, k8, hn8⟩
  have hH : Hid (StpP W p v l ra r w (.returned (.tuple #[.pointer (some ⟨p, 0, none⟩), .slice a' r'.length c', .bool true])) w8) := by
    have z8 := k8.size; have zW := hP.out.kp.size
    have hfoot : ∀ k ∈ p :: own v5, k ∈ p :: own v ∨ w.heap.size ≤ k := fun k hk => (hfoot5 k hk).imp id (fun h => by omega)
    refine ⟨p, v5, _, a', c', r', rfl, ⟨H7.out.1.keptNew k8, hS8, fun y hy => ?_, (hadd.out a5 c5).1, (hP.out.kp.trans H7.out.2.2 (fun k hk => .inr (hP.out.nw k hk))).trans k8 (by simp), fun k hk => ?_, fun y hy k hk => ?_, fun hne k hk hm => ?_, hgdA.out a5 c5⟩, H7.out.2.2.trans k8 (by simp), hfoot, hlenA.out a5 c5, fun hne k hk => ?_, fun y hy k hk => ?_⟩
    · rcases hmemr.out y hy with rfl | h
      · exact (hx'.out.kept (hP.out.kp.trans H7.out.2.2 (fun k hk => .inr (hP.out.nw k hk)))).kept k8
      · exact (H7.out.2.1 y h).kept k8
    · rcases hfoot k hk with h | h
      · exact hP.out.nw k h
      · omega
    · rcases hmemr.out y hy with rfl | h
      · exact hx'.out.lt k hk
      · exact hP.out.rb y h k hk
    · rcases hn8 with ⟨e1, e2⟩ | h
      · have hr0 : r ≠ [] := by rw [← e1]; exact hne
        rw [e2] at hk
        rcases hfoot5 k hm with h1 | h1
        · exact hP.out.ap hr0 k hk h1
        · have := hP.out.S.lt hr0 k hk; omega
      · have := h k hk; have := H7.out.1.ltAll k hm; omega
    · rcases hn8 with ⟨e1, e2⟩ | h
      · have hr0 : r ≠ [] := by rw [← e1]; exact hne
        rw [e2] at hk
        exact .inl ⟨hk, hr0⟩
      · have := h k hk; exact .inr (by omega)
    · rcases H5.out.2 y hy k hk with h | h
      · exact .inl h
      · exact .inr (by omega)
  have t1 : (R == R) = true := by simp
  clear cR hS8 o1 o2 o3 o4
  go_wp2_with fail
  go_returns
  exact hH.out

theorem cStepW {W w : World} {p : Nat} {v : Value} {l : List Vn} {ra : Option Addr} {r : List Vn} (P : PW W w p v l ra r) (rc : Nat) (o : OpV) (hx : VnOk W o.v) (hl1 : l.length + 1 ≤ 4000000000000) :
    Calls Try.prog 24 #[.pointer (some ⟨p, 0, none⟩), .slice ra r.length rc, .agg #[.int .i64 o.kind, .int .u64 o.v.ep, .int .u32 o.v.num, .slice o.v.a o.v.row.length o.v.c, .int .u64 o.v.del, .int .u64 o.ie, .int .u32 o.num, .int .u64 o.e]] w (StpP W p v l ra r w) := by
  obtain ⟨k, x, ie, num, e⟩ := o
  dsimp only at hx ⊢
  by_cases h0 : k = 0
  · subst h0; exact cStp0 P rc x ie num e hx hl1
  by_cases h1 : k = 1
  · subst h1; exact cStp1 P rc x ie num e
  by_cases h2 : k = 2
  · subst h2; exact cStp2 P rc x ie num e
  by_cases h3 : k = 3
  · subst h3; exact cStp3 P rc x ie num e
  by_cases h4 : k = 4
  · subst h4; exact cStp4 P rc x ie num e
  by_cases h5 : k = 5
  · subst h5; exact cStp5 P rc x ie num e
  by_cases h7 : k = 7
  · subst h7; exact cStp7 P rc x ie num e
  exact cStpE P rc k x ie num e h0 h1 h2 h3 h4 h5 h7
end Go.Proofs.Ytdjlefacdfdhmaa
end

section
namespace Go.Proofs.Ytdjlefacdfdhmaa
open Go.RowKit Go.Hay
set_option linter.unusedVariables false
set_option linter.unusedSimpArgs false

theorem opAt {w : World} {a : Option Addr} {l : List OpV} (h : OpE.See w a l) {i : Nat} {x : OpV} (hx : l[i]? = some x) : ∃ g o, a = some ⟨g, o, none⟩ ∧ w.cell? ⟨g, o + i * 8, none⟩ = some (.int .i64 x.kind) ∧ w.cell? ⟨g, o + i * 8 + 1, none⟩ = some (.int .u64 x.v.ep) ∧ w.cell? ⟨g, o + i * 8 + 2, none⟩ = some (.int .u32 x.v.num) ∧ w.cell? ⟨g, o + i * 8 + 3, none⟩ = some (.slice x.v.a x.v.row.length x.v.c) ∧ w.cell? ⟨g, o + i * 8 + 4, none⟩ = some (.int .u64 x.v.del) ∧ w.cell? ⟨g, o + i * 8 + 5, none⟩ = some (.int .u64 x.ie) ∧ w.cell? ⟨g, o + i * 8 + 6, none⟩ = some (.int .u32 x.num) ∧ w.cell? ⟨g, o + i * 8 + 7, none⟩ = some (.int .u64 x.e) := by
  obtain ⟨g, o, e, hc⟩ := h.at hx
  exact ⟨g, o, e, hc 0 _ rfl, hc 1 _ rfl, hc 2 _ rfl, hc 3 _ rfl, hc 4 _ rfl, hc 5 _ rfl, hc 6 _ rfl, hc 7 _ rfl⟩
/-- What a run leaves. -/
def RunP (W : World) (m : Nat) (e : Ending) (w' : World) : Prop :=
  ∃ (p' : Nat) (v' : Value) (l' : List Vn) (ra' : Option Addr) (rc' : Nat) (r' : List Vn), e = .returned (.tuple #[.pointer (some ⟨p', 0, none⟩), .slice ra' r'.length rc', .bool true]) ∧ PW W w' p' v' l' ra' r' ∧ l'.length ≤ m
set_option maxHeartbeats 8000000 in
set_option maxRecDepth 100000 in
theorem cRun {W w : World} {p : Nat} (P : PW W w p (.slice none 0 0) [] none []) (a : Option Addr) (c : Nat) (L : List OpV) (hs : OpE.See W a L) (ho : ∀ o ∈ L, VnOk W o.v) (hb : L.length ≤ 2000000000000) :
    Calls Try.prog 10 #[.pointer (some ⟨p, 0, none⟩), .slice none 0 0, .slice a L.length c] w (RunP W (L.length + 1)) := by
  have hs' := hid hs
  have ho' := hid ho
  have hP := hid P
  clear hs ho P
  go_enter Try.func10, Try.ntmps10
  go_wp2_with fail
  go_loopw [0, 1, 9, 11, 14] (fun s0 s1 s9 s11 i wr => ∃ (j p' : Nat) (v' : Value) (l' : List Vn) (ra' : Option Addr) (rc' : Nat) (r' : List Vn), j ≤ L.length ∧ i = .int .i64 j ∧ s0 = .pointer (some ⟨p', 0, none⟩) ∧ s1 = .slice ra' r'.length rc' ∧ PW W wr p' v' l' ra' r' ∧ l'.length ≤ j) (fun _ _ _ _ i _ => L.length - (intOf i).toNat)
  case atStart => exact ⟨0, p, _, [], none, 0, [], Nat.zero_le _, rfl, rfl, rfl, hP.out, Nat.le_refl _⟩
  case round =>
    clear hP
    obtain ⟨j, p', v', l', ra', rc', r', hj, rfl, rfl, rfl, P, hlj⟩ := hrel
    by_cases hjl : j < L.length
    · have hx : L[j]? = some L[j] := by simp [hjl]
      obtain ⟨g, o, rfl, c0, c1, c2, c3, c4, c5, c6, c7⟩ := opAt (hs'.out.keptNew P.kp) hx
      have hox := ho'.out L[j] (List.getElem_mem _)
      clear hx
      generalize L[j] = x at *
      obtain ⟨w1, hw1, k1, bx, hz1⟩ := boxOp wr x
      have cS := cStepW (P.keep k1) rc' x hox (by omega)
      have b0 := bx.get 0 _ rfl; have b1 := bx.get 1 _ rfl; have b2 := bx.get 2 _ rfl; have b3 := bx.get 3 _ rfl
      have b4 := bx.get 4 _ rfl; have b5 := bx.get 5 _ rfl; have b6 := bx.get 6 _ rfl; have b7 := bx.get 7 _ rfl
      have i1 : (0 : Int) ≤ (j : Int) := by omega
      have i2 : (j : Int) < (L.length : Int) := by omega
      obtain ⟨xk, ⟨xe, xn, xa, xc, xr, xd⟩, xi, xm, xp⟩ := x
      dsimp only at *
      clear P hox bx k1
      go_wp2_with fail
      refine cS.mono ?_
      rintro e0 w2 ⟨p2, v2, l2, ra2, rc2, r2, rfl, P2, _, _, hl2, _⟩
      clear cS c0 c1 c2 c3 c4 c5 c6 c7 b0 b1 b2 b3 b4 b5 b6 b7 hw1
      go_wp2_with fail
      exact ⟨⟨j + 1, p2, v2, l2, ra2, rc2, r2, by omega, by go_num, rfl, rfl, P2, by omega⟩, by simp [intOf]; omega⟩
    · have ej : j = L.length := by omega
      subst ej
      have cS := cStpE P rc' 6 default 0 0 0 (by decide) (by decide) (by decide) (by decide) (by decide) (by decide) (by decide)
      have ed : (default : Vn) = ⟨0, 0, none, 0, [], 0⟩ := rfl
      rw [ed] at cS
      dsimp only at cS
      simp only [List.length_nil] at cS
      clear P ed
      go_wp2_with fail
      refine cS.mono ?_
      rintro e0 w2 ⟨p2, v2, l2, ra2, rc2, r2, rfl, P2, _, _, hl2, _⟩
      clear cS
      go_wp2_with fail
      go_returns
      exact ⟨p2, v2, l2, ra2, rc2, r2, rfl, P2, by omega⟩
/-- At the begin nothing is there, nor with the reference. -/
theorem BegP.pw {w w' : World} {p : Nat} (h1 : Wos w' p (.slice none 0 0) []) (h2 : Kp [] w w') (h3 : w.heap.size ≤ p) : PW w w' p (.slice none 0 0) [] none [] :=
  ⟨h1, .inl rfl, by simp, rfl, h2, fun k hk => by simp [own, Value.ownBlock] at hk; omega, by simp, by simp, fun _ h => by cases h⟩
set_option maxHeartbeats 4000000 in
theorem walkAll (a : Option Addr) (c : Nat) (L : List OpV) (w : World) (hs : OpE.See w a L) (ho : ∀ o ∈ L, VnOk w o.v) (hb : L.length ≤ 2000000000000) :
    Calls Try.prog 3 #[.slice a L.length c] w fun e w' => e = .returned (.bool true) ∧ Below w.heap.size w w' := by
  have cB := cBegun w
  have hR := hid (fun w1 p (P : PW w w1 p (.slice none 0 0) [] none []) => cRun P a c L hs ho hb)
  clear hs ho
  go_enter Try.func3, Try.ntmps3
  go_wp2_with fail
  refine cB.mono ?_
  rintro e w1 ⟨p, rfl, hD, k1, hp⟩
  have cR := hR.out w1 p (BegP.pw hD k1 hp)
  clear cB hD hR
  go_wp2_with fail
  refine cR.mono ?_
  rintro e1 w2 ⟨p', v', l', ra', rc', r', rfl, P, _⟩
  clear cR
  go_wp2_with fail
  go_returns
  exact ⟨rfl, P.kp.below⟩
end Go.Proofs.Ytdjlefacdfdhmaa
end

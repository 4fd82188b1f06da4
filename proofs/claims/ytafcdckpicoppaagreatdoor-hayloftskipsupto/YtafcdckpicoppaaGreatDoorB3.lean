/- Columns of values as bytes: what is refused; a value's bytes. A value's bytes; pieces laid one behind the other. Each value's bytes, one behind the other. The order of values is total: plain mathematics. The order of rows is total: plain mathematics. Whether two rows are the same, by the reference. Runs of values. -/
import Derived.Test.YtafcdckpicoppaaGreatDoorB2
import Derived.Test.YtafcdckpicoppaaGreatDoorB1
import Derived.Deep.LoopGhost
section
namespace Go.Proofs.YtafcdckpicoppaaGreatDoor
open Go.RowKit Go.Hay
set_option linter.unusedVariables false
set_option linter.unusedSimpArgs false

theorem ownS (a : Option Addr) (n c : Nat) : own (.slice a n c) = blk a := by cases a <;> rfl
def knownB (k : Int) : Bool := decide (0 ≤ k) && decide (k ≤ 4)
theorem cKnown (k : Int) (w : World) : Calls Tryz.prog 45 #[.int .i64 k] w fun e w' => e = .returned (.bool (knownB k)) ∧ w' = w := by
  by_cases h0 : 0 ≤ k
  · have d0 : decide (0 ≤ k) = true := by simpa using h0
    have hb : knownB k = decide (k ≤ 4) := by unfold knownB; rw [d0]; rfl
    rw [hb]
    go_enter Tryz.func45, Tryz.ntmps45
    go_wp2_with fail
    go_ret
    exact ⟨rfl, rfl⟩
  · have d0 : decide (0 ≤ k) = false := by simpa using h0
    have hb : knownB k = false := by unfold knownB; rw [d0]; rfl
    rw [hb]
    go_enter Tryz.func45, Tryz.ntmps45
    go_wp2_with fail
    go_ret
    exact ⟨rfl, rfl⟩
def ofI (k : Int) : Bool := k == 2 || k == 4
theorem cOfInts (k : Int) (w : World) : Calls Tryz.prog 47 #[.int .i64 k] w fun e w' => e = .returned (.bool (ofI k)) ∧ w' = w := by
  by_cases h : k = 2
  · subst h
    go_enter Tryz.func47, Tryz.ntmps47
    go_wp2_with fail
    go_ret
    exact ⟨rfl, rfl⟩
  · have d0 : (k == 2) = false := by simpa using h
    have hb : ofI k = (k == 4) := by unfold ofI; rw [d0]; rfl
    rw [hb]
    go_enter Tryz.func47, Tryz.ntmps47
    go_wp2_with fail
    go_ret
    exact ⟨rfl, rfl⟩
theorem all_false {α : Type} {p : α → Bool} {l : List α} {j : Nat} (hj : j < l.length) (h : p l[j] = false) : l.all p = false := by
  rw [List.all_eq_false]; exact ⟨l[j], List.getElem_mem _, by rw [h]; simp⟩
theorem all_take {α : Type} {p : α → Bool} {l : List α} {j : Nat} (h1 : (l.take j).all p = true) (hj : j < l.length) (h : p l[j] = true) : (l.take (j + 1)).all p = true := by
  rw [List.take_succ_eq_append_getElem hj, List.all_append, h1]; simp [h]
set_option maxHeartbeats 4000000 in
set_option maxRecDepth 100000 in
theorem cERight (a : Option Addr) (ca : Nat) (l : List Val) (w : World) (ha : Vals w a l) (hl : l.length ≤ 9223372036854775807) :
    Calls Tryz.prog 46 #[.slice a l.length ca] w fun e w' => e = .returned (.bool (allR l)) ∧ Kp [] w w' := by
  go_enter Tryz.func46, Tryz.ntmps46
  go_wp2_with fail
  go_loopw [7] (fun i wn => ∃ j : Nat, j ≤ l.length ∧ i = .int .i64 j ∧ Kp [] w wn ∧ Hid ((l.take j).all Val.right = true)) (fun i _ => l.length - (intOf i).toNat)
  case atStart => exact ⟨0, Nat.zero_le _, rfl, Kp.refl _ _, rfl⟩
  case round =>
    obtain ⟨j, hj, rfl, kn, hall⟩ := hrel
    by_cases hjl : j < l.length
    · obtain ⟨g, o, rfl, a0, a1, a2, a3⟩ := (ha.kept kn).at j hjl
      have hT := hid (fun h => all_take (p := Val.right) hall.out hjl h)
      have hF := hid (fun h => all_false (p := Val.right) hjl h)
      generalize l[j] = x at *
      obtain ⟨R, hR⟩ : ∃ R, Hid (x.right = R) := ⟨_, rfl⟩
      rw [hR.out] at hT hF
      have hc := fun W => cRight x W
      rw [hR.out] at hc
      obtain ⟨xk, xb, xn, xt⟩ := x
      unfold Val.v at hc
      dsimp only at a0 a1 a2 a3 hc
      cases R
      · have hf : Hid (allR l = false) := hF.out rfl
        clear hF hT
        go_wp2_with fail
        refine (hc _).mono ?_
        rintro e w2 ⟨rfl, k2⟩
        go_wp2_with fail
        go_ret
        exact ⟨by rw [hf.out]; rfl, (kn.alloc _).trans k2 (by simp)⟩
      · have ht := hid (hT.out rfl)
        clear hF hT
        go_wp2_with fail
        refine (hc _).mono ?_
        rintro e w2 ⟨rfl, k2⟩
        go_wp2_with fail
        exact ⟨⟨j + 1, by omega, by go_num, (kn.alloc _).trans k2 (by simp), ht⟩, by simp [intOf]; omega⟩
    · obtain rfl : j = l.length := by omega
      have e : allR l = true := by have := hall.out; rw [List.take_length] at this; exact this
      have e' := hid e
      clear e
      go_wp2_with fail
      go_ret
      exact ⟨by rw [e'.out]; rfl, kn⟩
def allI (l : List Val) : Bool := l.all fun x => x.k == 2
set_option maxHeartbeats 4000000 in
set_option maxRecDepth 100000 in
theorem cAllInts (a : Option Addr) (ca : Nat) (l : List Val) (w : World) (ha : Vals w a l) (hl : l.length ≤ 9223372036854775807) :
    Calls Tryz.prog 48 #[.slice a l.length ca] w fun e w' => e = .returned (.bool (allI l)) ∧ Kp [] w w' := by
  go_enter Tryz.func48, Tryz.ntmps48
  go_wp2_with fail
  go_loopw [7] (fun i wn => ∃ j : Nat, j ≤ l.length ∧ i = .int .i64 j ∧ Kp [] w wn ∧ Hid ((l.take j).all (fun x => x.k == 2) = true)) (fun i _ => l.length - (intOf i).toNat)
  case atStart => exact ⟨0, Nat.zero_le _, rfl, Kp.refl _ _, rfl⟩
  case round =>
    obtain ⟨j, hj, rfl, kn, hall⟩ := hrel
    by_cases hjl : j < l.length
    · obtain ⟨g, o, rfl, a0, a1, a2, a3⟩ := (ha.kept kn).at j hjl
      have hT := hid (fun h => all_take (p := fun x : Val => x.k == 2) hall.out hjl h)
      have hF := hid (fun h => all_false (p := fun x : Val => x.k == 2) hjl h)
      generalize l[j] = x at *
      obtain ⟨xk, xb, xn, xt⟩ := x
      dsimp only at a0 a1 a2 a3 hT hF
      by_cases h2 : xk = 2
      · subst h2
        have ht := hid (hT.out rfl)
        clear hF hT
        go_wp2_with fail
        exact ⟨⟨j + 1, by omega, by go_num, kn.alloc _, ht⟩, by simp [intOf]; omega⟩
      · have d : (xk == 2) = false := by simpa using h2
        have d2 : (xk != 2) = true := by simpa using h2
        have hf : Hid (allI l = false) := hF.out d
        clear hF hT
        go_wp2_with fail
        go_ret
        exact ⟨by rw [hf.out]; rfl, kn.alloc _⟩
    · obtain rfl : j = l.length := by omega
      have e : allI l = true := by have := hall.out; rw [List.take_length] at this; exact this
      have e' := hid e
      clear e
      go_wp2_with fail
      go_ret
      exact ⟨by rw [e'.out]; rfl, kn⟩
/-- Why values can't be written in a kind. -/
def refE (k : Int) (l : List Val) : Int := if knownB k = false then 62 else if 64 < l.length then 61 else if allR l = false then 60 else if (ofI k && !allI l) = true then 62 else 0
set_option maxHeartbeats 4000000 in
set_option maxRecDepth 100000 in
theorem cRefusedE (k : Int) (a : Option Addr) (ca : Nat) (l : List Val) (w : World) (ha : Vals w a l) (hl : l.length ≤ 9223372036854775807) :
    Calls Tryz.prog 26 #[.int .i64 k, .slice a l.length ca] w fun e w' => e = .returned (.int .i64 (refE k l)) ∧ Kp [] w w' := by
  have c1 := cKnown k w
  have c2 := cERight a ca l w ha hl
  have c3 := cOfInts k
  have c4 := fun W (kW : Kp [] w W) => cAllInts a ca l W (ha.kept kW) hl
  obtain ⟨K, hK⟩ : ∃ K, Hid (knownB k = K) := ⟨_, rfl⟩
  obtain ⟨R, hR⟩ : ∃ R, Hid (allR l = R) := ⟨_, rfl⟩
  obtain ⟨O, hO⟩ : ∃ O, Hid (ofI k = O) := ⟨_, rfl⟩
  obtain ⟨I, hI⟩ : ∃ I, Hid (allI l = I) := ⟨_, rfl⟩
  have hE : Hid (refE k l = if K = false then 62 else if 64 < l.length then 61 else if R = false then 60 else if (O && !I) = true then 62 else 0) := by show _ = _; unfold refE; rw [hK.out, hR.out, hO.out, hI.out]
  rw [hK.out] at c1
  rw [hR.out] at c2
  simp only [hO.out] at c3
  simp only [hI.out] at c4
  obtain ⟨E, hEE⟩ : ∃ E, Hid (refE k l = E) := ⟨_, rfl⟩
  rw [hEE.out] at hE ⊢
  cases K
  · have e : E = 62 := hE.out
    subst e
    go_enter Tryz.func26, Tryz.ntmps26
    go_wp2_with fail
    refine c1.mono ?_
    rintro e w1 ⟨rfl, rfl⟩
    go_wp2_with fail
    go_ret
    exact ⟨rfl, Kp.refl _ _⟩
  by_cases h64 : 64 < l.length
  · have e : E = 61 := by rw [hE.out]; simp [h64]
    subst e
    go_enter Tryz.func26, Tryz.ntmps26
    go_wp2_with fail
    refine c1.mono ?_
    rintro e w1 ⟨rfl, rfl⟩
    go_wp2_with fail
    go_ret
    exact ⟨rfl, Kp.refl _ _⟩
  cases R
  · have e : E = 60 := by rw [hE.out]; simp [h64]
    subst e
    go_enter Tryz.func26, Tryz.ntmps26
    go_wp2_with fail
    refine c1.mono ?_
    rintro e w1 ⟨rfl, rfl⟩
    go_wp2_with fail
    refine c2.mono ?_
    rintro e w2 ⟨rfl, k2⟩
    go_wp2_with fail
    go_ret
    exact ⟨rfl, k2⟩
  cases O
  · have e : E = 0 := by rw [hE.out]; simp [h64]
    subst e
    go_enter Tryz.func26, Tryz.ntmps26
    go_wp2_with fail
    refine c1.mono ?_
    rintro e w1 ⟨rfl, rfl⟩
    go_wp2_with fail
    refine c2.mono ?_
    rintro e w2 ⟨rfl, k2⟩
    go_wp2_with fail
    refine (c3 _).mono ?_
    rintro e w3 ⟨rfl, rfl⟩
    go_wp2_with fail
    go_ret
    exact ⟨rfl, k2⟩
  cases I
  · have e : E = 62 := by rw [hE.out]; simp [h64]
    subst e
    go_enter Tryz.func26, Tryz.ntmps26
    go_wp2_with fail
    refine c1.mono ?_
    rintro e w1 ⟨rfl, rfl⟩
    go_wp2_with fail
    refine c2.mono ?_
    rintro e w2 ⟨rfl, k2⟩
    go_wp2_with fail
    refine (c3 _).mono ?_
    rintro e w3 ⟨rfl, rfl⟩
    go_wp2_with fail
    refine (c4 _ k2).mono ?_
    rintro e w4 ⟨rfl, k4⟩
    go_wp2_with fail
    go_ret
    exact ⟨rfl, k2.trans k4 (by simp)⟩
  · have e : E = 0 := by rw [hE.out]; simp [h64]
    subst e
    go_enter Tryz.func26, Tryz.ntmps26
    go_wp2_with fail
    refine c1.mono ?_
    rintro e w1 ⟨rfl, rfl⟩
    go_wp2_with fail
    refine c2.mono ?_
    rintro e w2 ⟨rfl, k2⟩
    go_wp2_with fail
    refine (c3 _).mono ?_
    rintro e w3 ⟨rfl, rfl⟩
    go_wp2_with fail
    refine (c4 _ k2).mono ?_
    rintro e w4 ⟨rfl, k4⟩
    go_wp2_with fail
    go_ret
    exact ⟨rfl, k2.trans k4 (by simp)⟩
end Go.Proofs.YtafcdckpicoppaaGreatDoor
end

section
namespace Go.Proofs.YtafcdckpicoppaaGreatDoor
open Go.RowKit Go.Hay
set_option linter.unusedVariables false
set_option linter.unusedSimpArgs false

/-- A slice of bytes. -/
structure Bs where
  a : Option Addr
  c : Nat
  bs : List UInt8
instance : Inhabited Bs := ⟨⟨none, 0, []⟩⟩
def BsE : El Bs where
  n := 1
  c x := [.slice x.a x.bs.length x.c]
  len _ := rfl
  one _ u hu := by simp at hu; subst hu; rfl
  pos := by decide
theorem bsAt {w : World} {a : Option Addr} {l : List Bs} (h : BsE.See w a l) {k : Nat} {x : Bs} (hx : l[k]? = some x) : ∃ g o, a = some ⟨g, o, none⟩ ∧ w.cell? ⟨g, o + k, none⟩ = some (.slice x.a x.bs.length x.c) := by
  obtain ⟨g, o, rfl, hc⟩ := h.at hx
  refine ⟨g, o, rfl, ?_⟩
  have := hc 0 _ rfl
  have e : BsE.n = 1 := rfl
  rw [e, Nat.mul_one, Nat.add_zero] at this
  exact this
theorem infoU' : ∃ i : TypeInfo, Tryz.prog.info? 5 = some i ∧ i.zero = some (.int .u8 0) ∧ i.size = 1 ∧ i.bytes = 1 := info3 (by kernel_rfl)
theorem infoS' : ∃ i : TypeInfo, Tryz.prog.info? 28 = some i ∧ i.zero = some (.slice none 0 0) ∧ i.size = 1 ∧ i.bytes = 24 := info3 (by kernel_rfl)
/-- A copy whose run is known, for the walk. -/
theorem wpCpyRun {P : Program} {w w' : World} {ops : Array Oper} {rest : List Oper} {o : Oper} {a : Act} {Q : Exit → Act → World → Prop} (hgd : o.guard = none) (s x : Operand) (t tx : TypeId)
    (ho : o.op = .call { callee := .builtin .copy, args := #[s, x], argTypes := #[t, tx] }) (v xv v' : Value) (hv : a.eval s = v) (hx : a.eval x = xv)
    (hrun : (Builtin.copy_ #[t, tx] o.type #[v, xv]).run P w = .ok v' w') (hK : wpList P ops Q rest (a.put o.dst v') w') : wpList P ops Q (o :: rest) a w := by
  refine wpList_plain hgd fun K hK' => ?_
  have hfin := hK' _ _ hK
  unfold Oper.wp
  simp [execOp, ho, resolve, invoke, builtin, hv, hx, hrun, Result.andThen]
  exact hfin
theorem rowTail {w : World} {g o n c : Nat} {b : UInt8} {bs : List UInt8} (h : Row w (.slice (some ⟨g, o, none⟩) n c) (b :: bs)) : n = bs.length + 1 ∧ bs.length + 1 ≤ c ∧ c ≤ maxLen ∧ Row w (.slice (some ⟨g, o + 1, none⟩) bs.length (c - 1)) bs := by
  rcases h with ⟨e, _⟩ | ⟨g, o, cap, e, hl, hm, hg, hc, ht⟩
  · cases e
  · cases e
    simp only [List.length_cons] at hl ⊢
    refine ⟨by simp, hl, hm, .inr ⟨g, o + 1, c - 1, rfl, by omega, by unfold maxLen at *; omega, hg, fun j u hu => ?_, fun j hj => ?_⟩⟩
    · rw [show o + 1 + j = o + (j + 1) by omega]; exact hc (j + 1) u (by simpa using hu)
    · rw [show o + 1 + j = o + (j + 1) by omega]; exact ht (j + 1) (by omega)
theorem rowB_one (x : Val) : 1 ≤ (rowB x).length := by
  unfold rowB fixB
  split
  · simp
  · split
    · simp
    · split <;> simp
set_option maxHeartbeats 4000000 in
set_option maxRecDepth 100000 in
theorem cValueBytes (x : Val) (hx : x.right = true) (w : World) : Calls Tryz.prog 74 #[x.v] w (NB (rowB x) w) := by
  obtain ⟨w1, hw1, k1, bx⟩ : ∃ w1, w.alloc (.cells #[.int .i64 x.k, .bool x.b, .int .i64 x.n, .string x.t] 25) = w1 ∧ Kp [] w w1 ∧ Box4 w1 w.heap.size (.int .i64 x.k) (.bool x.b) (.int .i64 x.n) (.string x.t) := ⟨_, rfl, (Kp.refl _ _).alloc _, Box4.new _ _ _ _ _ _⟩
  obtain ⟨w2, hw2, k2, bx2⟩ : ∃ w2, w1.alloc (.cells #[.int .i64 x.k, .bool x.b, .int .i64 x.n, .string x.t] 25) = w2 ∧ Kp [] w1 w2 ∧ Box4 w2 w1.heap.size (.int .i64 x.k) (.bool x.b) (.int .i64 x.n) (.string x.t) := ⟨_, rfl, (Kp.refl _ _).alloc _, Box4.new _ _ _ _ _ _⟩
  have hz1 : w1.heap.size = w.heap.size + 1 := by rw [← hw1]; simp
  have hv : Vals w2 (some ⟨w.heap.size + 1, 0, none⟩) [x] := by
    refine .inr ⟨_, 0, rfl, fun j y hy => ?_⟩
    obtain ⟨rfl, rfl⟩ : j = 0 ∧ y = x := by
      cases j with
      | zero => exact ⟨rfl, by simpa using hy.symm⟩
      | succ j => simp at hy
    rw [← hz1]
    exact ⟨bx2.c0, bx2.c1, bx2.c2, bx2.c3⟩
  have hE := cEncode (some ⟨w.heap.size + 1, 0, none⟩) 1 [x] w2 hv (by simp)
  have hok : encS [x] = (octet 1 :: rowB x, 0) := by
    have : okR [x] = true := by simp [okR, allR, hx]
    unfold encS
    rw [if_pos this]
    simp [encB]
  rw [hok] at hE
  have k12 : Kp [] w w2 := k1.trans k2 (by simp)
  have hfin : Hid (∀ w3 g o c, Kp [] w2 w3 → w2.heap.size ≤ g → Row w3 (.slice (some ⟨g, o + 1, none⟩) (rowB x).length (c - 1)) (rowB x) → NB (rowB x) w (.returned (.slice (some ⟨g, o + 1, none⟩) (rowB x).length (c - 1))) w3) := fun w3 g o c k3 hg hr => ⟨_, _, rfl, hr, k12.trans k3 (by simp), fun k hk => by simp [blk] at hk; have := k12.size; omega⟩
  obtain ⟨R, hR⟩ : ∃ R, Hid (rowB x = R) := ⟨_, rfl⟩
  rw [hR.out] at hE hfin ⊢
  have hw1' := hid hw1
  have hw2' := hid hw2
  rw [← hw2, ← hw1] at hE
  clear hw1 hw2 hok hz1 hv
  obtain ⟨xk, xb, xn, xt⟩ := x
  unfold Val.v
  dsimp only at *
  go_enter Tryz.func74, Tryz.ntmps74
  go_wp2_with fail
  refine hE.mono ?_
  rintro e w3 ⟨a3, c3, bs3, E3, hr3, rfl, hrow, hnew, _⟩
  obtain ⟨rfl, rfl⟩ : octet 1 :: R = bs3 ∧ (0 : Int) = E3 := by have := hr3.out; exact ⟨congrArg Prod.fst this, congrArg Prod.snd this⟩
  have hkk : Kp [] w2 w3 := by rw [← hw2'.out, ← hw1'.out]; exact hnew.kp
  have hown := hnew.own
  rw [hw1'.out, hw2'.out] at hown
  cases a3 with
  | none =>
    rcases hrow with ⟨_, e⟩ | ⟨_, _, _, e, _⟩
    · cases e
    · cases e
  | some ad =>
    obtain ⟨g, o, rest⟩ := ad
    obtain rfl : rest = none := by
      rcases hrow with ⟨e, _⟩ | ⟨_, _, _, e, _⟩
      · cases e
      · cases e; rfl
    obtain ⟨_, hlc, hcm, hrt⟩ := rowTail hrow
    have hf := hfin.out w3 g o c3 hkk (hown g (by simp [own, Value.ownBlock])) hrt
    have hlen : (octet 1 :: R).length = R.length + 1 := by simp
    rw [hlen]
    unfold maxLen at hcm
    have hpos : 1 ≤ R.length := by rw [← hR.out]; exact rowB_one _
    have hc1 : c3 ≠ 1 := by omega
    clear hlen hfin hrow hnew hR hr3
    go_wp2_with fail
    go_ret
    exact hf
/-- All the pieces' bytes. -/
def flatB (ps : List Bs) : List UInt8 := ps.flatMap Bs.bs
theorem flatB_take {ps : List Bs} {j : Nat} {x : Bs} (h : ps[j]? = some x) : flatB (ps.take (j + 1)) = flatB (ps.take j) ++ x.bs := by
  obtain ⟨hj, he⟩ := List.getElem?_eq_some_iff.1 h
  unfold flatB
  rw [List.take_succ_eq_append_getElem hj, List.flatMap_append, he]
  simp
theorem flatB_le (ps : List Bs) (j : Nat) : (flatB (ps.take j)).length ≤ (flatB ps).length := by
  have h : flatB ps = flatB (ps.take j) ++ flatB (ps.drop j) := by unfold flatB; rw [← List.flatMap_append, List.take_append_drop]
  rw [h]; simp
theorem copyNone {P : Program} (w : World) (dT sT ty elem : TypeId) (i : TypeInfo) (hu : P.underlying dT = some (.slice elem)) (hi : P.info? elem = some i) (d : Option Addr) (dLen dCap : Nat) (a : Option Addr) (c : Nat) :
    (Builtin.copy_ #[dT, sT] ty #[.slice d dLen dCap, .slice a 0 c]).run P w = .ok (.int .i64 0) w := by
  cases d <;> cases a <;> simp [Builtin.copy_, run_underlying hu, Builtin.lenOf, Builtin.firstCells, sizeOf, typeInfo, hi, loadCells, loadCellsFrom, storeCells, goInt]
/-- A row of bytes, with other bytes laid in from a place on. -/
theorem Row.lay {w : World} {g o n cap : Nat} {bs ys : List UInt8} (h : Row w (.slice (some ⟨g, o, none⟩) n cap) bs) (at' : Nat) (hat : at' + ys.length ≤ bs.length) :
    Row (w.setCells g (o + at') (BytE.cs ys)) (.slice (some ⟨g, o, none⟩) n cap) (bs.take at' ++ ys ++ bs.drop (at' + ys.length)) := by
  rcases h with ⟨e, _⟩ | ⟨g, o, c, e, hl, hx, hg, hc, ht⟩
  · cases e
  · cases e
    have hlen : (bs.take at' ++ ys ++ bs.drop (at' + ys.length)).length = bs.length := by simp; omega
    have hcl : (BytE.cs ys).length = ys.length := by rw [bytE_cs]; simp
    have hsome : ∀ j, j < (BytE.cs ys).length → (w.cell? ⟨g, o + at' + j, none⟩).isSome = true := fun j hj => by rw [hcl] at hj; rw [Nat.add_assoc]; exact (ht _ (by omega)).1
    refine .inr ⟨g, o, cap, by rw [hlen], by rw [hlen]; exact hl, hx, by rw [size_setCells]; exact hg, fun j u hu => ?_, fun j hj => ⟨?_, (World.frozen?_setCells g _ _ _ _).trans (ht j hj).2⟩⟩
    · by_cases h1 : j < at'
      · rw [List.append_assoc, List.getElem?_append_left (by simp; omega), List.getElem?_take, if_pos h1] at hu
        rw [World.cell?_setCells_out g _ _ _ _ (fun _ _ => by show o + j < o + at' ∨ _; omega)]
        exact hc j u hu
      · by_cases h2 : j < at' + ys.length
        · rw [List.append_assoc, List.getElem?_append_right (by simp; omega), List.getElem?_append_left (by simp; omega)] at hu
          simp only [List.length_take, Nat.min_eq_left (show at' ≤ bs.length by omega)] at hu
          have := World.cell?_setCells_in g (BytE.cs ys) (o + at') w hsome (j - at') (by rw [hcl]; omega)
          rw [← List.getElem?_eq_getElem, bytE_cs, List.getElem?_map, hu] at this
          rw [show o + at' + (j - at') = o + j by omega] at this
          rw [bytE_cs]
          exact this
        · rw [List.getElem?_append_right (by simp; omega), List.getElem?_drop] at hu
          simp only [List.length_append, List.length_take, Nat.min_eq_left (show at' ≤ bs.length by omega)] at hu
          rw [show at' + ys.length + (j - (at' + ys.length)) = j by omega] at hu
          rw [World.cell?_setCells_out g _ _ _ _ (fun _ _ => by show o + j < o + at' ∨ o + at' + (BytE.cs ys).length ≤ o + j; rw [hcl]; omega)]
          exact hc j u hu
    · by_cases h2 : at' ≤ j ∧ j < at' + ys.length
      · have := World.cell?_setCells_in g (BytE.cs ys) (o + at') w hsome (j - at') (by rw [hcl]; omega)
        rw [show o + at' + (j - at') = o + j by omega] at this
        rw [this]; rfl
      · rw [World.cell?_setCells_out g _ _ _ _ (fun _ _ => by show o + j < o + at' ∨ o + at' + (BytE.cs ys).length ≤ o + j; rw [hcl]; omega)]
        exact (ht j hj).1
set_option maxHeartbeats 8000000 in
set_option maxRecDepth 100000 in
theorem cJoin (a : Option Addr) (c : Nat) (ps : List Bs) (w : World) (hp : BsE.See w a ps) (hs : ∀ x ∈ ps, Sees w x.a x.bs) (hl : ps.length ≤ 1000000) (hb : (flatB ps).length ≤ 100000000000) :
    Calls Tryz.prog 75 #[.slice a ps.length c] w (NB (flatB ps) w) := by
  go_enter Tryz.func75, Tryz.ntmps75
  go_wp2_with fail
  go_loop [3, 12] (fun s i => ∃ j : Nat, j ≤ ps.length ∧ i = .int .i64 j ∧ s = .int .i64 ((flatB (ps.take j)).length : Int)) (fun _ i => ps.length - (intOf i).toNat)
  case atStart => exact ⟨0, Nat.zero_le _, rfl, rfl⟩
  case round =>
    obtain ⟨j, hj, rfl, rfl⟩ := hrel
    by_cases hjl : j < ps.length
    · obtain ⟨x, hx⟩ : ∃ x, ps[j]? = some x := ⟨ps[j], by simp [hjl]⟩
      obtain ⟨g, o, rfl, c0⟩ := bsAt hp hx
      have h1 := flatB_le ps j
      have h2 := flatB_le ps (j + 1)
      have h3 := congrArg List.length (flatB_take hx)
      rw [List.length_append] at h3
      have h3' := hid h3
      rw [h3] at h2
      obtain ⟨s, hs'⟩ : ∃ s, Hid ((flatB (ps.take j)).length = s) := ⟨_, rfl⟩
      rw [hs'.out] at h1 h2 h3' ⊢
      clear h3 hx
      go_wp2_with fail
      go_round
      case rel => exact ⟨j + 1, by omega, by go_num, by rw [h3'.out]; go_num⟩
      case measure => simp [intOf]; omega
    · obtain rfl : j = ps.length := by omega
      rw [List.take_length]
      obtain ⟨N, hN⟩ : ∃ N, Hid ((flatB ps).length = N) := ⟨_, rfl⟩
      rw [hN.out] at hb ⊢
      obtain ⟨i0, hi, hz0, hz1, hz2⟩ := infoU'
      obtain ⟨W1, hmk, hrow1, k1, hs1⟩ := run_makeG (E := BytE) (P := Tryz.prog) w 28 5 i0 (.int .u8 0) 0 1 Tryz.underlying28 hi hz0 hz1 hz2 rfl .i64 .i64 N (by omega) (by unfold maxLen; omega)
      have hr1 : Row W1 (.slice (some ⟨w.heap.size, 0, none⟩) N N) (List.replicate N 0) := rowByt.1 hrow1
      clear hrow1
      go_wp2_with fail
      go_loopw [7, 25] (fun s i wn => ∃ (j : Nat) (cur : List UInt8), j ≤ ps.length ∧ i = .int .i64 j ∧ s = .int .i64 ((flatB (ps.take j)).length : Int) ∧ Hid (cur = flatB (ps.take j) ++ List.replicate (N - (flatB (ps.take j)).length) 0) ∧ Row wn (.slice (some ⟨w.heap.size, 0, none⟩) N N) cur ∧ Kp [] w wn) (fun _ i _ => ps.length - (intOf i).toNat)
      case atStart => exact ⟨0, _, Nat.zero_le _, rfl, rfl, by show _ = _; simp [flatB], hr1, k1⟩
      case round =>
        clear hr1 hmk
        obtain ⟨j, cur, hj, rfl, rfl, hcur, hrow, kn⟩ := hrel
        by_cases hjl : j < ps.length
        · obtain ⟨x, hx⟩ : ∃ x, ps[j]? = some x := ⟨ps[j], by simp [hjl]⟩
          obtain ⟨g, o, rfl, c0⟩ := bsAt (hp.keptNew kn) hx
          have hsx := (hs x (List.mem_of_getElem? hx)).kept kn (by simp)
          have h1 := flatB_le ps j
          have h2 := flatB_le ps (j + 1)
          have hft := flatB_take hx
          have h3 := congrArg List.length hft
          rw [List.length_append] at h3
          have h3' := hid h3
          have hft' := hid hft
          rw [h3, hN.out] at h2
          rw [hN.out] at h1
          obtain ⟨pre, hpre⟩ : ∃ pre, Hid (flatB (ps.take j) = pre) := ⟨_, rfl⟩
          rw [hpre.out] at h1 h2 h3' hft' hcur ⊢
          obtain ⟨s, hs'⟩ : ∃ s, Hid (pre.length = s) := ⟨_, rfl⟩
          have hcl : cur.length = N := by rw [hcur.out]; simp; omega
          -- what the copy leaves
          have hcp : ∃ W2, (∀ d, (pre.length < N → d = .slice (some ⟨w.heap.size, 0 + pre.length, none⟩) (N - pre.length) (N - pre.length)) → (¬ pre.length < N → ∃ d0 dl dc, d = .slice d0 dl dc) → (Builtin.copy_ #[28, 28] 3 #[d, .slice x.a x.bs.length x.c]).run Tryz.prog wr = .ok (.int .i64 (x.bs.length : Int)) W2) ∧ Row W2 (.slice (some ⟨w.heap.size, 0, none⟩) N N) (pre ++ x.bs ++ List.replicate (N - (pre.length + x.bs.length)) 0) ∧ Kp [] w W2 := by
            by_cases hxe : x.bs = []
            · refine ⟨wr, fun d h1 h2 => ?_, ?_, kn⟩
              · rw [hxe]
                have : ∃ d0 dl dc, d = .slice d0 dl dc := by
                  by_cases hlt : pre.length < N
                  · exact ⟨_, _, _, h1 hlt⟩
                  · exact h2 hlt
                obtain ⟨d0, dl, dc, rfl⟩ := this
                exact copyNone wr _ _ _ 5 i0 Tryz.underlying28 hi d0 dl dc x.a x.c
              · rw [hxe]; simp only [List.append_nil, List.length_nil, Nat.add_zero]; rw [← hcur.out]; exact hrow
            · obtain ⟨gx, ox, ea, hcx⟩ : ∃ gx ox, x.a = some ⟨gx, ox, none⟩ ∧ ∀ j u, x.bs[j]? = some u → wr.cell? ⟨gx, ox + j, none⟩ = some (.int .u8 u.toNat) := by
                rcases hsx with h | h
                · exact absurd h hxe
                · exact h
              have hxl : 0 < x.bs.length := List.length_pos_iff.2 hxe
              have hlay := Row.lay (ys := x.bs) hrow pre.length (by rw [hcl]; omega)
              refine ⟨_, fun d h1 h2 => ?_, ?_, kn.trans ((Kp.refl [w.heap.size] wr).setCells (g := w.heap.size) (by simp) (BytE.cs x.bs) (0 + pre.length)) (fun k hk => .inr (by simp at hk; omega))⟩
              · rw [h1 (by omega), ea]
                have hrr := hrow
                rcases hrr with ⟨e, _⟩ | ⟨g9, o9, c9, e, q1, q2, q3, q4, q5⟩
                · cases e
                · cases e
                  refine run_copyG wr _ _ _ 5 i0 Tryz.underlying28 hi w.heap.size (0 + pre.length) _ _ ⟨gx, ox, none⟩ x.bs.length x.c (by omega) (BytE.cs x.bs) (by rw [bytE_cs, hz1]; simp) (fun j v hv => ?_) (fun j hj => ?_) (fun j hj => ?_) (El.cs_one _ _)
                  · rw [bytE_cs, List.getElem?_map] at hv
                    cases hb : x.bs[j]? with
                    | none => rw [hb] at hv; cases hv
                    | some b => rw [hb] at hv; cases hv; rw [Addr.add_lit]; exact hcx j b hb
                  · rw [bytE_cs] at hj; simp at hj; rw [Nat.add_assoc]; exact (q5 _ (by omega)).1
                  · rw [bytE_cs] at hj; simp at hj; rw [Nat.add_assoc]; exact (q5 _ (by omega)).2
              · have e1 : cur.take pre.length = pre := by rw [hcur.out]; simp
                have e2 : cur.drop (pre.length + x.bs.length) = List.replicate (N - (pre.length + x.bs.length)) 0 := by
                  rw [hcur.out, List.drop_append, List.drop_eq_nil_of_le (by omega), List.drop_replicate]
                  simp only [List.nil_append]
                  congr 1
                  omega
                rw [e1, e2] at hlay
                exact hlay
          obtain ⟨W2, hrun, hrow2, k2⟩ := hcp
          rw [hs'.out] at hrun h1 h2 h3' ⊢
          have hfin : Hid (∃ (j' : Nat) (cur' : List UInt8), j' ≤ ps.length ∧ (.int .i64 ((j : Int) + 1) : Value) = .int .i64 j' ∧ (.int .i64 ((s : Int) + (x.bs.length : Int)) : Value) = .int .i64 ((flatB (ps.take j')).length : Int) ∧ Hid (cur' = flatB (ps.take j') ++ List.replicate (N - (flatB (ps.take j')).length) 0) ∧ Row W2 (.slice (some ⟨w.heap.size, 0, none⟩) N N) cur' ∧ Kp [] w W2) :=
            ⟨j + 1, _, by omega, by go_num, by rw [h3'.out]; go_num, by show _ = _; rw [hft'.out, List.length_append], hrow2, k2⟩
          have hxl : x.bs.length ≤ N := by omega
          clear hx hrow hcur hrow2 k2 hsx hcl
          by_cases hlt : s < N
          · have hr := hrun _ (fun _ => rfl) (fun h => absurd hlt h)
            rw [Nat.zero_add] at hr
            have hcn : N ≠ s := by omega
            clear hrun
            go_wp2_with (first | (refine wpCpyRun rfl _ _ 28 28 rfl _ _ _ rfl rfl hr ?_) | fail)
            exact ⟨hfin.out, by simp [intOf]; omega⟩
          · have hr := fun d0 dl dc => hrun (.slice d0 dl dc) (fun h => absurd h hlt) (fun _ => ⟨d0, dl, dc, rfl⟩)
            obtain rfl : s = N := by omega
            clear hrun
            go_wp2_with (first | (refine wpCpyRun rfl _ _ 28 28 rfl _ _ _ rfl rfl (hr _ _ _) ?_) | fail)
            exact ⟨hfin.out, by simp [intOf]; omega⟩
        · obtain rfl : j = ps.length := by omega
          rw [List.take_length] at hcur ⊢
          have hc : Hid (cur = flatB ps) := by show _ = _; rw [hcur.out]; simp [hN.out]
          rw [hN.out]
          have hN' := hid hN.out
          have hfin : NB (flatB ps) w (.returned (.slice (some ⟨w.heap.size, 0, none⟩) N N)) wr := ⟨_, N, by rw [hN'.out], by rw [hN'.out, ← hc.out]; exact hrow, kn, fun k hk => by simp [blk] at hk; omega⟩
          clear hrow hcur hc
          go_wp2_with fail
          go_ret
          exact hfin
end Go.Proofs.YtafcdckpicoppaaGreatDoor
end

section
namespace Go.Proofs.YtafcdckpicoppaaGreatDoor
open Go.RowKit Go.Hay
set_option linter.unusedVariables false
set_option linter.unusedSimpArgs false

/-- A row of pieces of the call's own, and what they see. -/
structure Pcs (w0 w : World) (B n : Nat) (cur : List Bs) : Prop where
  row : BsE.Row w (.slice (some ⟨B, 0, none⟩) n n) cur
  see : ∀ x ∈ cur, Sees w x.a x.bs ∧ (x.bs ≠ [] → B ∉ blk x.a)
  kp : Kp [] w0 w
  new : w0.heap.size ≤ B
theorem Pcs.keep {w0 w w' : World} {B n : Nat} {cur : List Bs} (h : Pcs w0 w B n cur) (k : Kp [] w w') : Pcs w0 w' B n cur :=
  ⟨h.row.keptNew k, fun x hx => ⟨(h.see x hx).1.kept k (by simp), (h.see x hx).2⟩, h.kp.trans k (by simp), h.new⟩
theorem Pcs.set {w0 w : World} {B n : Nat} {cur : List Bs} (h : Pcs w0 w B n cur) (i : Nat) (hi : i < cur.length) (x : Bs) (hs : Sees w x.a x.bs) (hn : x.bs ≠ [] → B ∉ blk x.a) : Pcs w0 (w.setCell ⟨B, i, none⟩ (.slice x.a x.bs.length x.c)) B n (cur.set i x) := by
  have hr := h.row.setAt i hi x
  have e1 : w.setCells B (0 + i * BsE.n) (BsE.c x) = w.setCell ⟨B, i, none⟩ (.slice x.a x.bs.length x.c) := by
    have : BsE.n = 1 := rfl
    rw [this]
    simp [BsE, World.setCells]
  rw [e1] at hr
  have k : Kp [B] w (w.setCell ⟨B, i, none⟩ (.slice x.a x.bs.length x.c)) := (Kp.refl _ _).setCell (p := ⟨B, i, none⟩) (by simp) _
  refine ⟨hr, fun y hy => ?_, h.kp.trans k (fun k hk => .inr (by simp at hk; rw [hk]; exact h.new)), h.new⟩
  have hyy : Sees w y.a y.bs ∧ (y.bs ≠ [] → B ∉ blk y.a) := by
    rcases List.mem_or_eq_of_mem_set hy with hm | rfl
    · exact h.see y hm
    · exact ⟨hs, hn⟩
  exact ⟨hyy.1.kept' k (fun hne k hk hm => by simp at hm; subst hm; exact hyy.2 hne hk), hyy.2⟩
theorem Pcs.cells {w0 w : World} {B n : Nat} {cur : List Bs} (h : Pcs w0 w B n cur) {i : Nat} (hi : i < cur.length) : (∃ u, w.cell? ⟨B, i, none⟩ = some u) ∧ w.frozen? ⟨B, i, none⟩ = false ∧ n = cur.length := by
  rcases h.row with ⟨e, _⟩ | ⟨g, o, c, e, hl, hx, hg, hc, ht⟩
  · cases e
  · cases e
    have e1 : BsE.n = 1 := rfl
    have := ht i (by rw [e1]; omega)
    rw [Nat.zero_add] at this
    exact ⟨Option.isSome_iff_exists.1 this.1, this.2, rfl⟩
theorem set_app {α : Type} (d : List α) (z x : α) (m : Nat) : (d ++ List.replicate (m + 1) z).set d.length x = d ++ [x] ++ List.replicate m z := by
  rw [List.set_append_right _ _ (Nat.le_refl _), Nat.sub_self, List.replicate_succ, List.set_cons_zero]
  simp
set_option maxHeartbeats 8000000 in
set_option maxRecDepth 100000 in
theorem cPutPlain (a : Option Addr) (ca : Nat) (l : List Val) (w : World) (ha : Vals w a l) (hr : allR l = true) (hl : l.length ≤ 64) :
    Calls Tryz.prog 53 #[.slice a l.length ca] w (NB (l.flatMap rowB) w) := by
  obtain ⟨i0, hi, hz0, hz1, hz2⟩ := infoS'
  obtain ⟨W1, hmk, hrow1, k1, hs1⟩ := run_makeG (E := BsE) (P := Tryz.prog) w 111 28 i0 (.slice none 0 0) ⟨none, 0, []⟩ 24 Tryz.underlying111 hi hz0 hz1 hz2 rfl .i64 .i64 l.length (by omega) (by unfold maxLen; omega)
  have P1 : Hid (Pcs w W1 w.heap.size l.length (List.replicate l.length ⟨none, 0, []⟩)) := ⟨hrow1, fun x hx => by rw [List.eq_of_mem_replicate hx]; exact ⟨.inl rfl, fun h => absurd rfl h⟩, k1, Nat.le_refl _⟩
  have hr' := hid hr
  clear hrow1 hr
  obtain ⟨F, hF⟩ : ∃ F, Hid (l.flatMap rowB = F) := ⟨_, rfl⟩
  rw [hF.out]
  go_enter Tryz.func53, Tryz.ntmps53
  go_wp2_with fail
  go_loopw [11] (fun i wn => ∃ (j : Nat) (d : List Bs), j ≤ l.length ∧ i = .int .i64 j ∧ Hid (d.length = j) ∧ Hid (flatB d = (l.take j).flatMap rowB) ∧ Pcs w wn w.heap.size l.length (d ++ List.replicate (l.length - j) ⟨none, 0, []⟩)) (fun i _ => l.length - (intOf i).toNat)
  case atStart => exact ⟨0, [], Nat.zero_le _, rfl, rfl, rfl, by simpa using P1.out⟩
  case round =>
    clear P1 hmk
    obtain ⟨j, d, hj, rfl, hdl, hfl, P⟩ := hrel
    by_cases hjl : j < l.length
    · obtain ⟨g, o, rfl, a0, a1, a2, a3⟩ := (ha.kept P.kp).at j hjl
      have hxr := allR_at hr'.out j hjl
      have hst := hid (flat_take rowB l j hjl)
      generalize l[j] = x at *
      have hc := fun W => cValueBytes x hxr W
      clear hxr
      have Pb := P.keep ((Kp.refl [] wr).alloc (.cells #[.int .i64 x.k, .bool x.b, .int .i64 x.n, .string x.t] 25))
      have hlt := P.row.lt w.heap.size (by simp [own, Value.ownBlock])
      have hcl : (d ++ List.replicate (l.length - j) (⟨none, 0, []⟩ : Bs)).length = l.length := by simp [hdl.out]; omega
      obtain ⟨R, hR⟩ : ∃ R, Hid (rowB x = R) := ⟨_, rfl⟩
      simp only [hR.out] at hc hst
      have hfin : Hid (∀ w3 a3 c3, Kp [] (wr.alloc (.cells #[.int .i64 x.k, .bool x.b, .int .i64 x.n, .string x.t] 25)) w3 → (∀ k ∈ blk a3, wr.heap.size + 1 ≤ k) → Row w3 (.slice a3 R.length c3) R → (∃ u, w3.cell? ⟨w.heap.size, j, none⟩ = some u) ∧ w3.frozen? ⟨w.heap.size, j, none⟩ = false ∧ ∃ (j' : Nat) (d : List Bs), j' ≤ l.length ∧ (.int .i64 ((j : Int) + 1) : Value) = .int .i64 j' ∧ Hid (d.length = j') ∧ Hid (flatB d = (l.take j').flatMap rowB) ∧ Pcs w (w3.setCell ⟨w.heap.size, j, none⟩ (.slice a3 R.length c3)) w.heap.size l.length (d ++ List.replicate (l.length - j') ⟨none, 0, []⟩)) := fun w3 a3 c3 k3 hn3 hr3 => by
        have P3 := Pb.keep k3
        obtain ⟨h1, h2, _⟩ := P3.cells (i := j) (by rw [hcl]; exact hjl)
        obtain ⟨_, _, es, hs3, _⟩ := hr3.sees
        cases es
        have P4 := P3.set j (by rw [hcl]; exact hjl) ⟨a3, c3, R⟩ hs3 (fun _ hm => by have := hn3 _ hm; omega)
        have e1 : (d ++ List.replicate (l.length - j) (⟨none, 0, []⟩ : Bs)).set j ⟨a3, c3, R⟩ = d ++ [⟨a3, c3, R⟩] ++ List.replicate (l.length - (j + 1)) ⟨none, 0, []⟩ := by
          have := set_app d (⟨none, 0, []⟩ : Bs) ⟨a3, c3, R⟩ (l.length - (j + 1))
          rw [hdl.out, show l.length - (j + 1) + 1 = l.length - j by omega] at this
          exact this
        rw [e1] at P4
        refine ⟨h1, h2, j + 1, d ++ [⟨a3, c3, R⟩], by omega, by go_num, by show _ = _; simp [hdl.out], ?_, P4⟩
        show _ = _
        rw [hst.out, ← hfl.out]
        simp [flatB, hR.out]
      obtain ⟨xk, xb, xn, xt⟩ := x
      unfold Val.v at hc
      dsimp only at *
      clear P Pb hdl hfl hst hR hcl
      go_wp2_with fail
      refine (hc _).mono ?_
      rintro e w3 ⟨b3, c3, rfl, hrow3, k3, hn3⟩
      obtain ⟨⟨u, hu⟩, hfz, hnext⟩ := hfin.out w3 b3 c3 k3 (by simpa using hn3) hrow3
      clear hfin hrow3
      go_wp2_with fail
      exact ⟨hnext, by simp [intOf]; omega⟩
    · obtain rfl : j = l.length := by omega
      rw [Nat.sub_self, List.replicate_zero, List.append_nil] at P
      rw [List.take_length] at hfl
      have hpl : d.length ≤ 1000000 := by rw [hdl.out]; omega
      have hb : (flatB d).length ≤ 100000000000 := by
        rw [hfl.out]
        have := flat_length (f := rowB) (m := 66) (fun x hx => rowB_length hx) l hr'.out
        omega
      have hsee : BsE.See wr (some ⟨w.heap.size, 0, none⟩) d := by obtain ⟨_, _, e, hs, _⟩ := P.row.see; injection e with e1 e2 e3; rw [e1]; exact hs
      have hj := cJoin (some ⟨w.heap.size, 0, none⟩) l.length d wr hsee (fun x hx => (P.see x hx).1) hpl hb
      rw [hfl.out, hdl.out] at hj
      rw [hF.out] at hj
      have kP := P.kp
      clear P hsee hb hpl
      go_wp2_with fail
      refine hj.mono ?_
      rintro e w3 ⟨b3, c3, rfl, hrow3, k3, hn3⟩
      go_wp2_with fail
      go_ret
      exact ⟨b3, c3, rfl, hrow3, kP.trans k3 (by simp), fun k hk => by have := hn3 k hk; have := kP.size; omega⟩
end Go.Proofs.YtafcdckpicoppaaGreatDoor
end

section
namespace Go.Proofs.YtafcdckpicoppaaGreatDoor
open Go.Hay
set_option linter.unusedVariables false
set_option linter.unusedSimpArgs false

theorem less_ntrans : ∀ a b c : List UInt8, Op.bytesLess b a = false → Op.bytesLess c b = false → Op.bytesLess c a = false
  | [], _, c, _, _ => by cases c <;> rfl
  | x :: a, [], c, h, _ => by simp [Op.bytesLess] at h
  | x :: a, y :: b, [], _, h => by simp [Op.bytesLess] at h
  | x :: a, y :: b, z :: c, h1, h2 => by
    have ih := less_ntrans a b c
    simp only [Op.bytesLess, Bool.or_eq_false_iff, decide_eq_false_iff_not, Bool.and_eq_false_iff, beq_eq_false_iff_ne, ne_eq] at h1 h2 ⊢
    rw [UInt8.lt_iff_toNat_lt, ← UInt8.toNat_inj] at h1 h2 ⊢
    refine ⟨by omega, ?_⟩
    by_cases hz : z.toNat = x.toNat
    · have h3 : Op.bytesLess b a = false := h1.2.resolve_left (by omega)
      have h4 : Op.bytesLess c b = false := h2.2.resolve_left (by omega)
      exact .inr (ih h3 h4)
    · exact .inl hz
theorem bl_irr (s : ByteArray) : bl s s = false := less_irr _
theorem bl_ntrans {a b c : ByteArray} (h : bl b a = false) (k : bl c b = false) : bl c a = false := less_ntrans _ _ _ h k
theorem bl_asymm {a b : ByteArray} (h : bl a b = true) : bl b a = false := by
  unfold bl at *
  rw [← less_total a.toList b.toList, h]
  rfl
theorem bl_same {a b : ByteArray} (h : bl a b = false) (k : bl b a = false) : a.toList = b.toList := by
  unfold bl at *
  rw [← less_total a.toList b.toList, h] at k
  simpa using k

theorem Val.lt_irr (a : Val) : a.lt a = false := by
  unfold Val.lt
  rw [if_neg (by simp)]
  split
  · simp
  split
  · simp
  split
  · exact bl_irr _
  · rfl
theorem Val.lt_asymm (a b : Val) (h : a.lt b = true) : b.lt a = false := by
  unfold Val.lt at *
  by_cases hk : a.k = b.k
  · rw [if_neg (by simpa using hk)] at h
    rw [if_neg (by simpa using hk.symm), ← hk]
    by_cases h1 : a.k = 1
    · rw [if_pos h1] at h ⊢; cases ha : a.b <;> cases hb : b.b <;> simp_all
    rw [if_neg h1] at h ⊢
    by_cases h2 : a.k = 2
    · rw [if_pos h2] at h ⊢; simp at h ⊢; omega
    rw [if_neg h2] at h ⊢
    by_cases h3 : a.k = 3
    · rw [if_pos h3] at h ⊢; exact bl_asymm h
    rw [if_neg h3] at h ⊢
  · rw [if_pos hk] at h
    rw [if_pos (fun e => hk e.symm)]
    simp at h ⊢; omega
theorem Val.lt_ntrans (a b c : Val) (h : b.lt a = false) (k : c.lt b = false) : c.lt a = false := by
  unfold Val.lt at *
  by_cases hba : b.k = a.k
  · rw [if_neg (by simpa using hba)] at h
    by_cases hcb : c.k = b.k
    · rw [if_neg (by simpa using hcb)] at k
      rw [if_neg (by simpa using hcb.trans hba)]
      by_cases h1 : a.k = 1
      · rw [if_pos (by omega)] at h k ⊢; cases ha : a.b <;> cases hb : b.b <;> cases hc : c.b <;> simp_all
      rw [if_neg (by omega)] at h k ⊢
      by_cases h2 : a.k = 2
      · rw [if_pos (by omega)] at h k ⊢; simp at h k ⊢; omega
      rw [if_neg (by omega)] at h k ⊢
      by_cases h3 : a.k = 3
      · rw [if_pos (by omega)] at h k ⊢; exact bl_ntrans h k
      rw [if_neg (by omega)]
    · rw [if_pos (by simpa using hcb)] at k
      rw [if_pos (by rw [← hba]; simpa using hcb)]
      simp at k ⊢; omega
  · rw [if_pos (by simpa using hba)] at h
    by_cases hcb : c.k = b.k
    · rw [if_pos (by rw [hcb]; simpa using hba)]
      simp at h ⊢; omega
    · rw [if_pos (by simpa using hcb)] at k
      simp at h k
      rw [if_pos (by omega)]
      simp; omega
theorem cmp_neg (a b : Val) : cmpV b a = -cmpV a b := by
  unfold cmpV
  cases h1 : a.lt b
  · cases h2 : b.lt a <;> simp
  · rw [Val.lt_asymm a b h1]; simp
theorem cmp_self (a : Val) : cmpV a a = 0 := by unfold cmpV; rw [Val.lt_irr]; rfl
theorem cmp_le (a b : Val) : cmpV a b ≤ 0 ↔ b.lt a = false := by
  unfold cmpV
  cases h1 : a.lt b
  · cases h2 : b.lt a <;> simp
  · rw [Val.lt_asymm a b h1]; simp
theorem cmp_trans (a b c : Val) (h : cmpV a b ≤ 0) (k : cmpV b c ≤ 0) : cmpV a c ≤ 0 := (cmp_le a c).2 (Val.lt_ntrans a b c ((cmp_le a b).1 h) ((cmp_le b c).1 k))
theorem cmp_zero (a b : Val) : cmpV a b = 0 ↔ a.lt b = false ∧ b.lt a = false := by
  unfold cmpV
  cases h1 : a.lt b
  · cases h2 : b.lt a <;> simp
  · simp
theorem cmp_range (a b : Val) : cmpV a b = -1 ∨ cmpV a b = 0 ∨ cmpV a b = 1 := by
  unfold cmpV
  split
  · exact .inl rfl
  split
  · exact .inr (.inr rfl)
  · exact .inr (.inl rfl)
theorem eqv_self (a : Val) : a.eqv a = true := by simp [Val.eqv]
/-- What is alike, of right values, is the same. -/
theorem cmp_eqv (a b : Val) (ha : a.right = true) (hb : b.right = true) : (cmpV a b == 0) = a.eqv b := by
  by_cases he : a.eqv b = true
  · rw [he]
    simp [Val.eqv] at he
    obtain ⟨h1, h2, h3, h4⟩ := he
    have : cmpV a b = 0 := by
      rw [cmp_zero]
      unfold Val.lt
      simp only [h1, h2, h3]
      constructor
      · rw [if_neg (by simp)]
        split; · simp
        split; · simp
        split; · unfold bl; rw [h4]; exact less_irr _
        rfl
      · rw [if_neg (by simp)]
        split; · simp
        split; · simp
        split; · unfold bl; rw [h4]; exact less_irr _
        rfl
    rw [this]; rfl
  · have he' : a.eqv b = false := by simpa using he
    rw [he']
    rw [beq_eq_false_iff_ne]
    intro hz
    rw [cmp_zero] at hz
    obtain ⟨z1, z2⟩ := hz
    apply he
    unfold Val.lt at z1 z2
    by_cases hk : a.k = b.k
    · rw [if_neg (by simpa using hk)] at z1
      rw [if_neg (by simpa using hk.symm)] at z2
      unfold Val.right at ha hb
      rw [← hk] at hb z2
      by_cases h0 : a.k = 0
      · rw [if_pos h0] at ha hb
        simp at ha hb
        simp [Val.eqv, hk.symm, h0, ha, hb]
      rw [if_neg h0] at ha hb
      by_cases h1 : a.k = 1
      · rw [if_pos h1] at ha hb z1 z2
        simp at ha hb
        have : a.b = b.b := by cases hA : a.b <;> cases hB : b.b <;> simp_all
        simp [Val.eqv, hk, ha, hb, this]
      rw [if_neg h1] at ha hb z1 z2
      by_cases h2 : a.k = 2
      · rw [if_pos h2] at ha hb z1 z2
        simp at ha hb z1 z2
        have : a.n = b.n := by omega
        simp [Val.eqv, hk, ha, hb, this]
      rw [if_neg h2] at ha hb z1 z2
      by_cases h3 : a.k = 3
      · rw [if_pos h3] at ha hb z1 z2
        simp at ha hb
        have := bl_same z1 z2
        simp [Val.eqv, hk, ha, hb, this]
      · rw [if_neg h3] at ha; cases ha
    · rw [if_pos hk] at z1
      rw [if_pos (fun e => hk e.symm)] at z2
      simp at z1 z2
      omega

theorem rows_two (a b c : Val) : rowsV [a, b] [a, c] = cmpV b c := by
  simp only [rowsV, cmp_self, if_true]
  by_cases h : cmpV b c = 0
  · rw [if_pos h, h]
  · rw [if_neg h]
theorem rows_one (a c : Val) : rowsV [a] [a, c] = -1 := by
  simp only [rowsV, cmp_self, if_true]
end Go.Proofs.YtafcdckpicoppaaGreatDoor
end

section
namespace Go.Proofs.YtafcdckpicoppaaGreatDoor
open Go.Hay
set_option linter.unusedVariables false
set_option linter.unusedSimpArgs false

theorem cmp_strict (a b c : Val) (h : cmpV a b < 0) (k : cmpV b c ≤ 0) : cmpV a c < 0 := by
  have h1 := cmp_trans a b c (by omega) k
  by_cases h2 : cmpV a c = 0
  · have h3 := cmp_neg a c
    have h4 := cmp_trans b c a k (by omega)
    have h5 := cmp_neg a b
    omega
  · omega
theorem cmp_strict' (a b c : Val) (h : cmpV a b ≤ 0) (k : cmpV b c < 0) : cmpV a c < 0 := by
  have h1 := cmp_trans a b c h (by omega)
  by_cases h2 : cmpV a c = 0
  · have h3 := cmp_neg a c
    have h4 := cmp_trans c a b (by omega) h
    have h5 := cmp_neg b c
    omega
  · omega
theorem rows_neg : ∀ a b : List Val, rowsV b a = -rowsV a b
  | [], [] => rfl
  | [], _ :: _ => rfl
  | _ :: _, [] => rfl
  | x :: a, y :: b => by
    have h := cmp_neg x y
    simp only [rowsV]
    by_cases h0 : cmpV x y = 0
    · rw [if_pos h0, if_pos (by omega), rows_neg a b]
    · rw [if_neg h0, if_neg (by omega), h]
theorem rows_self : ∀ a : List Val, rowsV a a = 0
  | [] => rfl
  | x :: a => by simp only [rowsV, cmp_self, if_true, rows_self a]
theorem rows_range : ∀ a b : List Val, rowsV a b = -1 ∨ rowsV a b = 0 ∨ rowsV a b = 1
  | [], [] => .inr (.inl rfl)
  | [], _ :: _ => .inl rfl
  | _ :: _, [] => .inr (.inr rfl)
  | x :: a, y :: b => by
    simp only [rowsV]
    split
    · exact rows_range a b
    · exact cmp_range x y
theorem rows_trans : ∀ a b c : List Val, rowsV a b ≤ 0 → rowsV b c ≤ 0 → rowsV a c ≤ 0
  | [], _, [], _, _ => by simp [rowsV]
  | [], _, _ :: _, _, _ => by simp [rowsV]
  | _ :: _, [], _, h, _ => by simp [rowsV] at h
  | _ :: _, _ :: _, [], _, h => by simp [rowsV] at h
  | x :: a, y :: b, z :: c, h1, h2 => by
    simp only [rowsV] at h1 h2 ⊢
    have ih := rows_trans a b c
    by_cases e1 : cmpV x y = 0
    · rw [if_pos e1] at h1
      by_cases e2 : cmpV y z = 0
      · rw [if_pos e2] at h2
        have h3 := cmp_trans x y z (by omega) (by omega)
        have h4 := cmp_neg x y
        have h5 := cmp_neg y z
        have h6 := cmp_neg x z
        have h7 := cmp_trans z y x (by omega) (by omega)
        rw [if_pos (by omega)]
        exact ih h1 h2
      · rw [if_neg e2] at h2
        have := cmp_strict' x y z (by omega) (by omega)
        rw [if_neg (by omega)]
        omega
    · rw [if_neg e1] at h1
      have : cmpV y z ≤ 0 := by
        by_cases e2 : cmpV y z = 0
        · omega
        · rw [if_neg e2] at h2; omega
      have := cmp_strict x y z (by omega) this
      rw [if_neg (by omega)]
      omega
theorem rows_less : ∀ a : List Val, a ≠ [] → rowsV (a.take (a.length - 1)) a = -1
  | [], h => absurd rfl h
  | [x], _ => rfl
  | x :: y :: a, _ => by
    have ih := rows_less (y :: a) (by simp)
    simp only [List.length_cons, Nat.add_sub_cancel] at ih ⊢
    rw [List.take_succ_cons]
    simp only [rowsV, cmp_self, if_true]
    exact ih

/-- Are two rows the same? -/
def sameV : List Val → List Val → Bool
  | [], [] => true
  | x :: a, y :: b => x.eqv y && sameV a b
  | _, _ => false
theorem same_step (a b : List Val) (j : Nat) (ha : j < a.length) (hb : j < b.length) : sameV (a.drop j) (b.drop j) = (a[j].eqv b[j] && sameV (a.drop (j + 1)) (b.drop (j + 1))) := by
  rw [List.drop_eq_getElem_cons ha, List.drop_eq_getElem_cons hb, sameV]
theorem same_length : ∀ a b : List Val, a.length ≠ b.length → sameV a b = false
  | [], [], h => absurd rfl h
  | [], _ :: _, _ => rfl
  | _ :: _, [], _ => rfl
  | x :: a, y :: b, h => by
    rw [sameV, same_length a b (by simpa using h)]
    simp
theorem rows_same : ∀ a b : List Val, (∀ x ∈ a, x.right = true) → (∀ x ∈ b, x.right = true) → (rowsV a b == 0) = sameV a b
  | [], [], _, _ => rfl
  | [], _ :: _, _, _ => rfl
  | _ :: _, [], _, _ => rfl
  | x :: a, y :: b, ha, hb => by
    have h1 := cmp_eqv x y (ha x (by simp)) (hb y (by simp))
    have ih := rows_same a b (fun z hz => ha z (by simp [hz])) (fun z hz => hb z (by simp [hz]))
    simp only [rowsV, sameV]
    rw [← h1, ← ih]
    by_cases e : cmpV x y = 0
    · rw [if_pos e, e]; rfl
    · rw [if_neg e]
      have e2 : (cmpV x y == 0) = false := by simpa using e
      rw [e2]; rfl
end Go.Proofs.YtafcdckpicoppaaGreatDoor
end

section
namespace Go.Proofs.YtafcdckpicoppaaGreatDoor
open Go.RowKit Go.Hay
set_option linter.unusedVariables false
set_option linter.unusedSimpArgs false

theorem neV (x y : Val) : ∃ X : Bool, Hid (X = x.eqv y) ∧ ∀ w : World, (binOp .neq 25 (.agg #[.int .i64 x.k, .bool x.b, .int .i64 x.n, .string x.t]) (.agg #[.int .i64 y.k, .bool y.b, .int .i64 y.n, .string y.t])).run Tryz.prog w = .ok (.bool (!X)) w := by
  obtain ⟨X, HX, hX⟩ := eqV x y
  refine ⟨X, HX, fun w => ?_⟩
  have h := hX w
  rw [run_eql_struct] at h
  rw [run_neq_struct]
  cases hr : (Op.equalIn 10000 25 (.agg #[.int .i64 x.k, .bool x.b, .int .i64 x.n, .string x.t]) (.agg #[.int .i64 y.k, .bool y.b, .int .i64 y.n, .string y.t])).run Tryz.prog w with
  | ok b w' => rw [hr] at h; simp [Result.andThen] at h; obtain ⟨rfl, rfl⟩ := h; rfl
  | halt p w' => rw [hr] at h; cases h

end Go.Proofs.YtafcdckpicoppaaGreatDoor
end

section
namespace Go.Proofs.YtafcdckpicoppaaGreatDoor
open Go.RowKit Go.Hay
set_option linter.unusedVariables false
set_option linter.unusedSimpArgs false

theorem baLoop (b : ByteArray) : ∀ (m i : Nat) (r : List UInt8), b.size - i = m → ByteArray.toList.loop b i r = r.reverse ++ b.data.toList.drop i
  | 0, i, r, h => by
    rw [ByteArray.toList.loop]
    rw [if_neg (by omega), List.drop_eq_nil_of_le (by simp; have : b.data.size = b.size := rfl; omega), List.append_nil]
  | m + 1, i, r, h => by
    rw [ByteArray.toList.loop]
    have hi : i < b.size := by omega
    rw [if_pos hi, baLoop b m (i + 1) _ (by omega)]
    have hi' : i < b.data.toList.length := by simpa using hi
    rw [List.drop_eq_getElem_cons hi']
    simp
    show b.get! i = _
    simp [ByteArray.get!, hi]
theorem baList (b : ByteArray) : b.toList = b.data.toList := by
  unfold ByteArray.toList
  rw [baLoop b _ 0 [] rfl]
  simp
theorem baInj {a b : ByteArray} (h : a.toList = b.toList) : a = b := by
  rw [baList, baList] at h
  cases a; cases b
  simp only [ByteArray.mk.injEq]
  exact Array.toList_inj.1 h
theorem eqv_iff {x y : Val} : x.eqv y = true ↔ x = y := by
  constructor
  · intro h
    obtain ⟨xk, xb, xn, xt⟩ := x
    obtain ⟨yk, yb, yn, yt⟩ := y
    simp [Val.eqv] at h
    obtain ⟨rfl, rfl, rfl, h4⟩ := h
    rw [baInj h4]
  · rintro rfl; exact eqv_self x
/-- So many of a value. -/
structure Rn where
  m : Nat
  v : Val
instance : Inhabited Rn := ⟨⟨0, ⟨0, false, 0, ⟨#[]⟩⟩⟩⟩
/-- Values as runs. -/
def runsV : List Val → List Rn
  | [] => []
  | x :: l => match runsV l with
    | [] => [⟨1, x⟩]
    | r :: rs => if x.eqv r.v = true then ⟨r.m + 1, r.v⟩ :: rs else ⟨1, x⟩ :: r :: rs
theorem runsV_head (x : Val) (l : List Val) : ∃ k rs, runsV (x :: l) = ⟨k, x⟩ :: rs := by
  rw [runsV]
  cases runsV l with
  | nil => exact ⟨1, [], rfl⟩
  | cons r rs =>
    simp only
    split
    · rename_i h; rw [eqv_iff.1 h]; exact ⟨_, _, rfl⟩
    · exact ⟨1, _, rfl⟩
theorem runsV_rep (x : Val) (r : List Val) (hr : ∀ y r', r = y :: r' → x.eqv y = false) : ∀ n, runsV (List.replicate (n + 1) x ++ r) = ⟨n + 1, x⟩ :: runsV r
  | 0 => by
    show runsV (x :: r) = _
    rw [runsV]
    cases r with
    | nil => rfl
    | cons y r' =>
      obtain ⟨k, rs, h⟩ := runsV_head y r'
      rw [h]
      simp only [hr y r' rfl]
      simp
  | n + 1 => by
    show runsV (x :: (List.replicate (n + 1) x ++ r)) = _
    rw [runsV, runsV_rep x r hr n]
    simp [eqv_self]
theorem rep_of {x : Val} {l : List Val} {j : Nat} (hj : j ≤ l.length) (h : ∀ k (hk : k < l.length), k < j → l[k] = x) : l.take j = List.replicate j x := by
  apply List.ext_getElem
  · simp; omega
  · intro k h1 h2
    simp at h1 h2 ⊢
    exact h k (by omega) (by omega)
/-- A run's end found, or none. -/
theorem runsV_cut {x : Val} {l : List Val} {j : Nat} (h0 : 0 < j) (hj : j < l.length) (h : ∀ k (hk : k < l.length), k < j → l[k] = x) (hne : x.eqv l[j] = false) : runsV l = ⟨j, x⟩ :: runsV (l.drop j) := by
  have e : l = List.replicate j x ++ l.drop j := by rw [← rep_of (by omega) h, List.take_append_drop]
  obtain ⟨n, rfl⟩ : ∃ n, j = n + 1 := ⟨j - 1, by omega⟩
  have := runsV_rep x (l.drop (n + 1)) (fun y r' hy => by
    have : l[n + 1]? = some y := by
      have h9 : (l.drop (n + 1))[0]? = some y := by rw [hy]; rfl
      rw [List.getElem?_drop] at h9
      exact h9
    rw [(List.getElem?_eq_some_iff.1 this).2] at hne
    exact hne) n
  rw [← e] at this
  exact this
theorem runsV_all {x : Val} {l : List Val} (h0 : 0 < l.length) (h : ∀ k (hk : k < l.length), l[k] = x) : runsV l = [⟨l.length, x⟩] := by
  have e := rep_of (l := l) (x := x) (Nat.le_refl _) (fun k hk _ => h k hk)
  rw [List.take_length] at e
  obtain ⟨n, hn⟩ : ∃ n, l.length = n + 1 := ⟨l.length - 1, by omega⟩
  rw [hn] at e
  have := runsV_rep x [] (fun y r' hy => by cases hy) n
  rw [List.append_nil, ← e] at this
  rw [this, hn]
  rfl
def RunE : El Rn where
  n := 5
  c x := [.int .i64 x.m, .int .i64 x.v.k, .bool x.v.b, .int .i64 x.v.n, .string x.v.t]
  len _ := rfl
  one _ u hu := by simp at hu; rcases hu with rfl | rfl | rfl | rfl | rfl <;> rfl
  pos := by decide
theorem runE_at {w : World} {a : Option Addr} {l : List Rn} (h : RunE.See w a l) {j : Nat} {x : Rn} (hx : l[j]? = some x) : ∃ g o, a = some ⟨g, o, none⟩ ∧ w.cell? ⟨g, o + j * 5, none⟩ = some (.int .i64 x.m) ∧ w.cell? ⟨g, o + j * 5 + 1, none⟩ = some (.int .i64 x.v.k) ∧ w.cell? ⟨g, o + j * 5 + 2, none⟩ = some (.bool x.v.b) ∧ w.cell? ⟨g, o + j * 5 + 3, none⟩ = some (.int .i64 x.v.n) ∧ w.cell? ⟨g, o + j * 5 + 4, none⟩ = some (.string x.v.t) := by
  obtain ⟨g, o, rfl, hc⟩ := h.at hx
  exact ⟨g, o, rfl, hc 0 _ rfl, hc 1 _ rfl, hc 2 _ rfl, hc 3 _ rfl, hc 4 _ rfl⟩
theorem infoR : ∃ i : TypeInfo, Tryz.prog.info? 115 = some i ∧ i.zero = some (.agg #[.int .i64 0, .int .i64 0, .bool false, .int .i64 0, .string ⟨#[]⟩]) ∧ i.size = 5 ∧ i.bytes = 48 := info4 (by kernel_rfl)
theorem runOne (w : World) {q : Nat} (hq : w.heap.size = q) (x : Rn) (t : TypeId) : RunE.See (w.alloc (.cells #[.int .i64 x.m, .int .i64 x.v.k, .bool x.v.b, .int .i64 x.v.n, .string x.v.t] t)) (some ⟨q, 0, none⟩) [x] := by
  subst hq
  refine .inr ⟨_, 0, rfl, fun j u hu => ?_⟩
  have e : (w.alloc (.cells #[.int .i64 x.m, .int .i64 x.v.k, .bool x.v.b, .int .i64 x.v.n, .string x.v.t] t)).cell? ⟨w.heap.size, 0 + j, none⟩ = _ := World.cell?_alloc_new w _ _ (0 + j)
  rw [e, Nat.zero_add]
  simpa [El.cs, RunE] using hu
theorem Vals.drop {w : World} {g o : Nat} {l : List Val} (h : Vals w (some ⟨g, o, none⟩) l) (i : Nat) : Vals w (some ⟨g, o + i * 4, none⟩) (l.drop i) := by
  rcases h with rfl | ⟨g, o, e, hc⟩
  · exact .inl (by simp)
  · cases e
    refine .inr ⟨g, o + i * 4, rfl, fun j x hx => ?_⟩
    rw [List.getElem?_drop] at hx
    have := hc (i + j) x hx
    rw [show o + (i + j) * 4 = o + i * 4 + j * 4 by omega] at this
    exact this
def lenV : Value → Nat
  | .slice _ n _ => n
  | _ => 0
/-- Runs, all new. -/
def NR (R : List Rn) (w : World) (e : Ending) (w' : World) : Prop := ∃ a c, e = .returned (.slice a R.length c) ∧ RunE.Row w' (.slice a R.length c) R ∧ Kp [] w w' ∧ ∀ k ∈ blk a, w.heap.size ≤ k
structure RuI (l : List Val) (w wn : World) (a : Option Addr) (c : Nat) (rest : List Val) (ra : Option Addr) (rc : Nat) (R : List Rn) : Prop where
  vals : Vals wn a rest
  cap : rest.length ≤ c
  mx : c ≤ maxLen
  row : RunE.Row wn (.slice ra R.length rc) R
  new : ∀ k ∈ blk ra, w.heap.size ≤ k
  kp : Kp [] w wn
  runs : Hid (R ++ runsV rest = runsV l)
  len : R.length + rest.length ≤ l.length
  lo : rest ≠ [] → ∀ k ∈ blk a, k < w.heap.size
theorem RuI.keep {l : List Val} {w wn w' : World} {a : Option Addr} {c : Nat} {rest : List Val} {ra : Option Addr} {rc : Nat} {R : List Rn} (h : RuI l w wn a c rest ra rc R) (k : Kp [] wn w') : RuI l w w' a c rest ra rc R :=
  ⟨h.vals.kept k, h.cap, h.mx, h.row.keptNew k, h.new, h.kp.trans k (by simp), h.runs, h.len, h.lo⟩
theorem Vals.keptS {w w' : World} {a : Option Addr} {l : List Val} {S : List Nat} (h : Vals w a l) (hk : Kp S w w') (hn : l ≠ [] → ∀ k ∈ blk a, k ∉ S) : Vals w' a l := seeV.1 ((seeV.2 h).kept hk hn)
theorem RuI.cut {l : List Val} {w wq wc w' : World} {g o c : Nat} {rest : List Val} {ra a' : Option Addr} {rc c' j : Nat} {R R' : List Rn} {x : Val} (h : RuI l w wq (some ⟨g, o, none⟩) c rest ra rc R) (k : Kp [] wq wc) (hrow : RunE.Row w' (.slice a' R'.length c') R') (hR' : R' = R ++ [⟨j, x⟩]) (hg : Kp (own (.slice ra R.length rc)) wc w') (hn : ∀ k ∈ blk a', k ∈ own (.slice ra R.length rc) ∨ wc.heap.size ≤ k)
    (hr : runsV rest = ⟨j, x⟩ :: runsV (rest.drop j)) (hj0 : 0 < j) (hj : j ≤ rest.length) (hne : rest ≠ []) : RuI l w w' (some ⟨g, o + j * 4, none⟩) (c - j) (rest.drop j) a' c' R' := by
  have hlo := h.lo hne g (by simp [blk])
  have hno : ∀ k ∈ own (.slice ra R.length rc), w.heap.size ≤ k := fun k hk => h.new k (by rw [ownS] at hk; exact hk)
  have hz := h.kp.size
  have hz2 := k.size
  have hv : Vals w' (some ⟨g, o, none⟩) rest := (h.vals.kept k).keptS hg (fun _ m hm hs => by simp [blk] at hm; have := hno m hs; omega)
  refine ⟨hv.drop j, by simp; have := h.cap; omega, by have := h.mx; unfold maxLen at *; omega, hrow, fun m hm => ?_, (h.kp.trans k (by simp)).trans hg (fun m hm => .inr (hno m hm)), ?_, ?_, fun _ m hm => by simp [blk] at hm; omega⟩
  · rcases hn m hm with h1 | h1
    · exact hno m h1
    · omega
  · show _ = _
    rw [hR', ← h.runs.out, hr]; simp
  · rw [hR']; simp; have := h.len; omega
set_option maxHeartbeats 8000000 in
set_option maxRecDepth 100000 in
theorem cRuns (a : Option Addr) (ca : Nat) (l : List Val) (w : World) (ha : Vals w a l) (hc : l.length ≤ ca) (hm : ca ≤ maxLen) (hl : l.length ≤ 3600000000000) :
    Calls Tryz.prog 73 #[.slice a l.length ca] w (NR (runsV l) w) := by
  have I0 : RuI l w w a ca l none 0 [] := ⟨ha, hc, hm, .inl ⟨rfl, rfl⟩, by simp [blk], Kp.refl _ _, rfl, by simp, fun hne => (seeV.2 ha).lt hne⟩
  have I0' := hid I0
  clear I0
  obtain ⟨F, hF⟩ : ∃ F, Hid (runsV l = F) := ⟨_, rfl⟩
  rw [hF.out]
  go_enter Tryz.func73, Tryz.ntmps73
  go_wp2_with fail
  go_step3
  go_wp2_with fail
  go_step3
  go_wp2_with fail
  go_loopw [0, 3] (fun v0 v3 wn => ∃ (a : Option Addr) (c : Nat) (rest : List Val) (ra : Option Addr) (rc : Nat) (R : List Rn), v0 = .slice a rest.length c ∧ v3 = .slice ra R.length rc ∧ RuI l w wn a c rest ra rc R) (fun v0 _ _ => lenV v0)
  case atStart => exact ⟨a, ca, l, none, 0, [], rfl, rfl, I0'.out⟩
  case round =>
    clear I0'
    obtain ⟨a, c, rest, ra, rc, R, rfl, rfl, I⟩ := hrel
    have hIl := I.len
    have hIm := I.mx
    have hIc := I.cap
    unfold maxLen at hIm
    by_cases hr0 : rest.length = 0
    · obtain rfl : rest = [] := List.length_eq_zero_iff.1 hr0
      have hR : Hid (R = F) := by show _ = _; have := I.runs.out; rw [hF.out] at this; simpa [runsV] using this
      have hfin : NR F w (.returned (.slice ra R.length rc)) wr := ⟨ra, rc, by rw [hR.out], by rw [← hR.out]; exact I.row, I.kp, I.new⟩
      clear I hR
      go_wp2_with fail
      (try rw [Exit.noGoto_ret])
      go_ret
      exact hfin
    · obtain ⟨x, hx⟩ : ∃ x, Hid (rest[0]? = some x) := ⟨rest[0]'(by omega), by show _ = _; simp [show 0 < rest.length by omega]⟩
      have h0e : Hid (∀ h : 0 < rest.length, rest[0] = x) := fun h => (List.getElem?_eq_some_iff.1 hx.out).2
      have hpos : 0 < rest.length := by omega
      have hat0 : Hid (∀ W a, Vals W a rest → ∃ g o, a = some ⟨g, o, none⟩ ∧ W.cell? ⟨g, o, none⟩ = some (.int .i64 x.k) ∧ W.cell? ⟨g, o + 1, none⟩ = some (.bool x.b) ∧ W.cell? ⟨g, o + 2, none⟩ = some (.int .i64 x.n) ∧ W.cell? ⟨g, o + 3, none⟩ = some (.string x.t)) := fun W a hv => by
        obtain ⟨g, o, e, y0, y1, y2, y3⟩ := hv.at 0 hpos
        rw [h0e.out hpos] at y0 y1 y2 y3
        exact ⟨g, o, e, by simpa using y0, by simpa using y1, by simpa using y2, by simpa using y3⟩
      obtain ⟨g, o, rfl, _⟩ := hat0.out wr a I.vals
      obtain ⟨xk, xb, xn, xt⟩ := x
      obtain ⟨i0, hi, hz0, hz1, hz2⟩ := infoR
      have hIh := hid I
      clear I
      dsimp only at hat0
      go_wp2_with fail
      go_loopw [0, 3, 11] (fun v0 v3 i wn => ∃ j : Nat, v0 = .slice (some ⟨g, o, none⟩) rest.length c ∧ v3 = .slice ra R.length rc ∧ j ≤ rest.length ∧ i = .int .i64 j ∧ Hid (∀ k (hk : k < rest.length), k < j → rest[k] = ⟨xk, xb, xn, xt⟩) ∧ RuI l w wn (some ⟨g, o, none⟩) c rest ra rc R) (fun _ _ i _ => rest.length - (intOf i).toNat)
      case atStart => exact ⟨0, rfl, rfl, Nat.zero_le _, rfl, fun k hk h => absurd h (Nat.not_lt_zero _), hIh.out⟩
      case round =>
        clear hIh
        obtain ⟨j, rfl, rfl, hj, rfl, hall, I⟩ := hrel
        by_cases hjl : j < rest.length
        · obtain ⟨_, _, e, a0, a1, a2, a3⟩ := I.vals.at j hjl
          cases e
          obtain ⟨y, hy⟩ : ∃ y, Hid (rest[j]'hjl = y) := ⟨rest[j]'hjl, rfl⟩
          rw [hy.out] at a0 a1 a2 a3
          obtain ⟨X, HX, hX⟩ := neV y ⟨xk, xb, xn, xt⟩
          obtain ⟨wb, hwb⟩ : ∃ wb, wr.alloc (.cells #[.int .i64 y.k, .bool y.b, .int .i64 y.n, .string y.t] 25) = wb := ⟨_, rfl⟩
          have kb : Kp [] wr wb := by rw [← hwb]; exact (Kp.refl _ _).alloc _
          have bx : Box4 wb wr.heap.size (.int .i64 y.k) (.bool y.b) (.int .i64 y.n) (.string y.t) := by rw [← hwb]; exact Box4.new _ _ _ _ _ _
          have Ib := I.keep kb
          obtain ⟨_, _, e, f0, f1, f2, f3⟩ := hat0.out wb _ Ib.vals
          cases e
          have p0 := bx.c0; have p1 := bx.c1; have p2 := bx.c2; have p3 := bx.c3
          obtain ⟨yk, yb, yn, yt⟩ := y
          dsimp only at *
          have hwb' := hid hwb
          have hIb := hid Ib
          clear hwb I bx Ib
          go_wp2_with fail
          rw [hwb'.out]
          clear a0 a1 a2 a3
          go_quiet ((fail))
          have kq : Kp [] wb (wb.drewN nq) := (Kp.refl _ _).drewN nq
          have Iq := hIb.out.keep kq
          obtain ⟨_, _, e, f0', f1', f2', f3'⟩ := hat0.out _ _ Iq.vals
          cases e
          generalize wb.drewN nq = wq at *
          have hrne : rest ≠ [] := fun e => by rw [e] at hpos; simp at hpos
          cases X
          · have hne : Hid (Val.eqv ⟨xk, xb, xn, xt⟩ (rest[j]'hjl) = false) := by
              show _ = _
              rw [hy.out]
              have h1 := HX.out
              cases he : Val.eqv ⟨xk, xb, xn, xt⟩ ⟨yk, yb, yn, yt⟩ with
              | false => rfl
              | true => rw [eqv_iff.1 he, eqv_self] at h1; cases h1
            have hj0 : 0 < j := by
              rcases Nat.eq_zero_or_pos j with e | e
              · subst e
                have := hne.out
                rw [h0e.out hpos, eqv_self] at this
                cases this
              · exact e
            have hcut := hid (runsV_cut hj0 hjl hall.out hne.out)
            obtain ⟨wc, hwc⟩ : ∃ wc, wq.alloc (.cells #[.int .i64 (j : Int), .int .i64 xk, .bool xb, .int .i64 xn, .string xt] 115) = wc := ⟨_, rfl⟩
            have kc : Kp [] wq wc := by rw [← hwc]; exact (Kp.refl _ _).alloc _
            have hsee : RunE.See wc (some ⟨wq.heap.size, 0, none⟩) [⟨j, ⟨xk, xb, xn, xt⟩⟩] := by rw [← hwc]; exact runOne wq rfl ⟨j, ⟨xk, xb, xn, xt⟩⟩ _
            have hsr := hsee.src (P := Tryz.prog) Tryz.underlying112 1
            have hrowc := (Iq.keep kc).row
            have hIq := hid Iq
            rw [← hwc] at hsr hrowc
            have hnext : Hid (∀ ys a' c' w', Hid (ys = R ++ [⟨j, ⟨xk, xb, xn, xt⟩⟩]) → RunE.Row w' (.slice a' ys.length c') ys → Kp (own (.slice ra R.length rc)) wc w' → (∀ k ∈ blk a', k ∈ own (.slice ra R.length rc) ∨ wc.heap.size ≤ k) → ∃ (a : Option Addr) (c0 : Nat) (rest0 : List Val) (ra : Option Addr) (rc : Nat) (R : List Rn), (.slice (some ⟨g, o + j * 4, none⟩) (rest.length - j) (c - j) : Value) = .slice a rest0.length c0 ∧ (.slice a' ys.length c' : Value) = .slice ra R.length rc ∧ RuI l w w' a c0 rest0 ra rc R) := fun ys a' c' w' hy' hr' hg' hn' =>
              ⟨_, _, rest.drop j, a', c', ys, by simp, rfl, hIq.out.cut kc hr' hy'.out hg' hn' hcut.out hj0 (by omega) hrne⟩
            rw [← hwc] at hnext
            have hcj : c ≠ j := by omega
            clear hwc Iq hcut hne hall HX hX hsee hIb p0 p1 p2 p3 f0 f1 f2 f3 hwb' hIq
            go_wp2_with (first | (refine wpAppG (E := RunE) rfl _ _ 112 112 115 rfl i0 _ 48 Tryz.underlying112 hi hz0 hz1 hz2 rfl _ R rfl hrowc _ [⟨j, ⟨xk, xb, xn, xt⟩⟩] rfl hsr (by simp; omega) (by simp; omega) ?_; intro ys a' c' w' hy' hrow' hg' hn') | fail)
            exact ⟨hnext.out ys a' c' w' hy' hrow' hg' hn', by simp only [lenV]; omega⟩
          · have hall' : Hid (∀ k (hk : k < rest.length), k < j + 1 → rest[k] = ⟨xk, xb, xn, xt⟩) := fun k hk h1 => by
              by_cases e : k < j
              · exact hall.out k hk e
              · obtain rfl : k = j := by omega
                rw [hy.out]
                exact eqv_iff.1 HX.out.symm
            have hIq := hid Iq
            clear Iq hall HX hX hIb p0 p1 p2 p3 f0 f1 f2 f3 hwb'
            go_wp2_with fail
            exact ⟨⟨j + 1, rfl, rfl, by omega, by go_num, hall', hIq.out⟩, by simp [intOf]; omega⟩
        · obtain rfl : j = rest.length := by omega
          have hrne : rest ≠ [] := fun e => by rw [e] at hpos; simp at hpos
          have hone := hid (runsV_all hpos (fun k hk => hall.out k hk hk))
          obtain ⟨_, _, e, f0, f1, f2, f3⟩ := hat0.out _ _ I.vals
          cases e
          obtain ⟨wc, hwc⟩ : ∃ wc, wr.alloc (.cells #[.int .i64 (rest.length : Int), .int .i64 xk, .bool xb, .int .i64 xn, .string xt] 115) = wc := ⟨_, rfl⟩
          have kc : Kp [] wr wc := by rw [← hwc]; exact (Kp.refl _ _).alloc _
          have hsee : RunE.See wc (some ⟨wr.heap.size, 0, none⟩) [⟨rest.length, ⟨xk, xb, xn, xt⟩⟩] := by rw [← hwc]; exact runOne wr rfl ⟨rest.length, ⟨xk, xb, xn, xt⟩⟩ _
          have hsr := hsee.src (P := Tryz.prog) Tryz.underlying112 1
          have hrowc := (I.keep kc).row
          have hIq := hid I
          rw [← hwc] at hsr hrowc
          have hnext : Hid (∀ ys a' c' w', Hid (ys = R ++ [⟨rest.length, ⟨xk, xb, xn, xt⟩⟩]) → RunE.Row w' (.slice a' ys.length c') ys → Kp (own (.slice ra R.length rc)) wc w' → (∀ k ∈ blk a', k ∈ own (.slice ra R.length rc) ∨ wc.heap.size ≤ k) → NR F w (.returned (.slice a' ys.length c')) w') := fun ys a' c' w' hy' hr' hg' hn' => by
            have J := hIq.out.cut kc hr' hy'.out hg' hn' (by rw [hone.out]; simp [runsV]) hpos (Nat.le_refl _) hrne
            have hF' : ys = F := by
              have := J.runs.out
              rw [hF.out] at this
              simpa [runsV] using this
            exact ⟨a', c', by rw [hF'], by rw [← hF']; exact J.row, J.kp, J.new⟩
          rw [← hwc] at hnext
          clear hwc I hone hall hsee hIq
          go_wp2_with (first | (refine wpAppG (E := RunE) rfl _ _ 112 112 115 rfl i0 _ 48 Tryz.underlying112 hi hz0 hz1 hz2 rfl _ R rfl hrowc _ [⟨rest.length, ⟨xk, xb, xn, xt⟩⟩] rfl hsr (by simp; omega) (by simp; omega) ?_; intro ys a' c' w' hy' hrow' hg' hn') | fail)
          have hfin := hnext.out ys a' c' w' hy' hrow' hg' hn'
          clear hnext hrow' hg' hn' hy'
          (try rw [Exit.noGoto_ret])
          go_ret
          exact hfin
end Go.Proofs.YtafcdckpicoppaaGreatDoor
end

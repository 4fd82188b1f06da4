/- putHead. slices.Compact at values. Contracts of the library, laid at this program. slices.SortFunc and slices.Index at values, by the library's contracts. slices.Index at values; what the unlike values are. The unlike values, and each one's place. put, Encode, Best. Best. -/
import Derived.Test.YtohbdbecioanaaaGreatDoorB6
import Derived.Test.YtohbdbecioanaaaGreatDoorB5
import Derived.Shelf.SlGeneric
import Derived.Shelf.SlSortCmp.WholeK
import Derived.Shelf.SlicesQ.Index
import Derived.Laws.StructEq
import Derived.Ground.SlsfProg
import Derived.Ground.SlgqProg
import Derived.Test.YtohbdbecioanaaaGreatDoorProg
section
namespace Go.Proofs.YtohbdbecioanaaaGreatDoor
open Go.RowKit Go.Hay
set_option linter.unusedVariables false
set_option linter.unusedSimpArgs false

theorem bxWrote {p q : Nat} {v v' : Value} {w w' : World} {cs : List Value} (h : Bx w q cs) (hn : 0 < cs.length) (hq : q ∉ p :: own v) (hr : Wrote p v w v' w') : Bx w' q cs ∧ q ∉ p :: own v' := by
  have hl := h.lt hn
  refine ⟨h.kept hr.kp hq hl, fun hm => ?_⟩
  rcases List.mem_cons.1 hm with e | e
  · exact hq (by simp [e])
  · rcases hr.new q e with h1 | h1
    · exact hq (by simp [h1])
    · omega
theorem wrap8 {k : Int} (h0 : 0 ≤ k) (h1 : k ≤ 255) : IntKind.u8.wrap k = k := by rw [IntKind.wrap_u8]; omega
set_option maxHeartbeats 8000000 in
set_option maxRecDepth 100000 in
theorem bPutHead (p : Nat) (v : Value) (bs : List UInt8) (i : Inf) (n : Nat) (w : World) (h : Wr w p v bs) (hb : bs.length ≤ 1000) (r1 : i.mn.right = true) (r2 : i.mx.right = true)
    (k0 : 0 ≤ i.kind) (k1 : i.kind ≤ 255) (m0 : 0 ≤ i.many) (m1 : i.many ≤ 255) (n0 : 0 ≤ i.nulls) (n1 : i.nulls ≤ 255) (hn : n < 65536) :
    Calls Tryz.prog 18 #[.pointer (some ⟨p, 0, none⟩), i.v, .int .i64 n] w fun e w' => e = .returned (.tuple #[]) ∧ ∃ v', Wr w' p v' (bs ++ ([octet i.kind, octet i.many, octet i.nulls] ++ rowB i.mn ++ rowB i.mx ++ [octet ((n / 256 : Nat) : Int), octet ((n % 256 : Nat) : Int)])) ∧ Wrote p v w v' w' := by
  obtain ⟨w1, hw1, kw1, bx⟩ : ∃ w1, w.alloc (.cells i.cs.toArray 46) = w1 ∧ Kp [] w w1 ∧ Bx w1 w.heap.size i.cs := ⟨_, rfl, (Kp.refl _ _).alloc _, Bx.new w _ _⟩
  have hq : w.heap.size ∉ p :: own v := fun hm => by
    rcases List.mem_cons.1 hm with e | e
    · have := h.lt; omega
    · have := h.row.lt _ e; omega
  have h1 := h.keptNew kw1
  have l1 := rowB_length r1
  have l2 := rowB_length r2
  obtain ⟨k, m, ⟨ak, ab, an, at'⟩, ⟨bk, bb, bn, bt⟩, nn, yy⟩ := i
  have pA : Hid (∀ p v bs w, Wr w p v bs → bs.length ≤ 100000 → Calls Tryz.prog 38 #[.pointer (some ⟨p, 0, none⟩), .agg #[.int .i64 ak, .bool ab, .int .i64 an, .string at']] w fun e w' => e = .returned (.tuple #[]) ∧ ∃ v', Wr w' p v' (bs ++ rowB ⟨ak, ab, an, at'⟩) ∧ Wrote p v w v' w') := fun p v bs w h hb => bPutValue p v bs ⟨ak, ab, an, at'⟩ r1 w h hb
  have pB : Hid (∀ p v bs w, Wr w p v bs → bs.length ≤ 100000 → Calls Tryz.prog 38 #[.pointer (some ⟨p, 0, none⟩), .agg #[.int .i64 bk, .bool bb, .int .i64 bn, .string bt]] w fun e w' => e = .returned (.tuple #[]) ∧ ∃ v', Wr w' p v' (bs ++ rowB ⟨bk, bb, bn, bt⟩) ∧ Wrote p v w v' w') := fun p v bs w h hb => bPutValue p v bs ⟨bk, bb, bn, bt⟩ r2 w h hb
  obtain ⟨RA, hRA⟩ : ∃ R, Hid (rowB ⟨ak, ab, an, at'⟩ = R) := ⟨_, rfl⟩
  obtain ⟨RB, hRB⟩ : ∃ R, Hid (rowB ⟨bk, bb, bn, bt⟩ = R) := ⟨_, rfl⟩
  dsimp only at *
  rw [hRA.out] at l1 ⊢
  rw [hRB.out] at l2 ⊢
  simp only [hRA.out] at pA
  simp only [hRB.out] at pB
  unfold Inf.v Inf.cs
  unfold Inf.cs at bx hw1
  dsimp only at bx hw1 ⊢
  have e1 := wrap8 k0 k1
  have e2 := wrap8 m0 m1
  have e3 := wrap8 n0 n1
  have e4 : (n : Int) / 256 = ((n / 256 : Nat) : Int) := by omega
  have e5 : IntKind.u8.wrap ((n / 256 : Nat) : Int) = ((n / 256 : Nat) : Int) := wrap8 (by omega) (by omega)
  have e6 : IntKind.u8.wrap (n : Int) = ((n % 256 : Nat) : Int) := by rw [IntKind.wrap_u8]; omega
  obtain ⟨hi, hhi⟩ : ∃ x : Nat, Hid (n / 256 = x) := ⟨_, rfl⟩
  obtain ⟨lo, hlo⟩ : ∃ x : Nat, Hid (n % 256 = x) := ⟨_, rfl⟩
  have hhb : hi ≤ 255 := by rw [← hhi.out]; omega
  have hlb : lo ≤ 255 := by rw [← hlo.out]; omega
  rw [hhi.out] at e4 e5 ⊢
  rw [hlo.out] at e6 ⊢
  have hw1' := hid hw1
  have hbx := hid bx
  have hkw := hid kw1
  have hwr := hid h1
  have hqq := hid hq
  have q0 := bx.get 0 _ rfl
  clear hw1 hRA hRB r1 r2 h h1 hq kw1 bx hhi hlo
  rw [← hw1'.out] at q0
  go_enter Tryz.func18, Tryz.ntmps18
  go_wp2_with fail
  rw [hw1'.out]
  refine (wByte p v bs k _ hwr.out (by omega) k0 k1).mono ?_
  rintro e w2 ⟨rfl, v2, hw2, hr2⟩
  obtain ⟨bx2, hq2⟩ := bxWrote hbx.out (by simp) hqq.out hr2
  have c1 := bx2.get 1 _ rfl
  have H2 := hid (And.intro bx2 (And.intro hq2 (And.intro hw2 hr2)))
  clear bx2 hq2 hw2 hr2 q0
  go_wp2_with fail
  refine (wByte p v2 _ m _ H2.out.2.2.1 (by simp; omega) m0 m1).mono ?_
  rintro e w3 ⟨rfl, v3, hw3, hr3⟩
  obtain ⟨bx3, hq3⟩ := bxWrote H2.out.1 (by simp) H2.out.2.1 hr3
  have c10 := bx3.get 10 _ rfl
  have H3 := hid (And.intro bx3 (And.intro hq3 (And.intro hw3 (H2.out.2.2.2.trans hr3))))
  clear bx3 hq3 hw3 hr3 c1 H2
  go_wp2_with fail
  refine (wByte p v3 _ nn _ H3.out.2.2.1 (by simp; omega) n0 n1).mono ?_
  rintro e w4 ⟨rfl, v4, hw4, hr4⟩
  obtain ⟨bx4, hq4⟩ := bxWrote H3.out.1 (by simp) H3.out.2.1 hr4
  have d2 := bx4.get 2 _ rfl
  have d3 := bx4.get 3 _ rfl
  have d4 := bx4.get 4 _ rfl
  have d5 := bx4.get 5 _ rfl
  have H4 := hid (And.intro bx4 (And.intro hq4 (And.intro hw4 (H3.out.2.2.2.trans hr4))))
  clear bx4 hq4 hw4 hr4 c10 H3
  go_wp2_with fail
  refine (pA.out p v4 _ _ H4.out.2.2.1 (by simp; omega)).mono ?_
  rintro e w5 ⟨rfl, v5, hw5, hr5⟩
  obtain ⟨bx5, hq5⟩ := bxWrote H4.out.1 (by simp) H4.out.2.1 hr5
  have d6 := bx5.get 6 _ rfl
  have d7 := bx5.get 7 _ rfl
  have d8 := bx5.get 8 _ rfl
  have d9 := bx5.get 9 _ rfl
  have H5 := hid (And.intro bx5 (And.intro hq5 (And.intro hw5 (H4.out.2.2.2.trans hr5))))
  clear bx5 hq5 hw5 hr5 d2 d3 d4 d5 H4
  go_wp2_with fail
  refine (pB.out p v5 _ _ H5.out.2.2.1 (by simp; omega)).mono ?_
  rintro e w6 ⟨rfl, v6, hw6, hr6⟩
  have H6 := hid (And.intro hw6 (H5.out.2.2.2.trans hr6))
  clear hw6 hr6 d6 d7 d8 d9 H5
  go_wp2_with fail
  refine (wByte p v6 _ hi _ H6.out.1 (by simp; omega) (by omega) (by omega)).mono ?_
  rintro e w7 ⟨rfl, v7, hw7, hr7⟩
  have H7 := hid (And.intro hw7 (H6.out.2.trans hr7))
  clear hw7 hr7 H6
  go_wp2_with fail
  refine (wByte p v7 _ lo _ H7.out.1 (by simp; omega) (by omega) (by omega)).mono ?_
  rintro e w8 ⟨rfl, v8, hw8, hr8⟩
  have H8 := hid (And.intro hw8 (H7.out.2.trans hr8))
  clear hw8 hr8 H7
  go_wp2_with fail
  go_end0
  refine ⟨rfl, v8, ?_, Wrote.pre hkw.out H8.out.2⟩
  have := H8.out.1
  simpa using this
end Go.Proofs.YtohbdbecioanaaaGreatDoor
end

section
namespace Go.Proofs.YtohbdbecioanaaaGreatDoor
open Go.RowKit Go.Hay
set_option linter.unusedVariables false
set_option linter.unusedSimpArgs false

/-- The first j values, each run of alike ones once. -/
def cptTo (l : List Val) : Nat → List Val
  | 0 => []
  | j + 1 => if j ≠ 0 ∧ (l.getD j nv).eqv (l.getD (j - 1) nv) = true then cptTo l j else cptTo l j ++ [l.getD j nv]
def cpt (l : List Val) : List Val := cptTo l l.length
theorem cptTo_same (l : List Val) (j : Nat) (h0 : j ≠ 0) (h : (l.getD j nv).eqv (l.getD (j - 1) nv) = true) : cptTo l (j + 1) = cptTo l j := by rw [cptTo, if_pos ⟨h0, h⟩]
theorem cptTo_new (l : List Val) (j : Nat) (h : j = 0 ∨ (l.getD j nv).eqv (l.getD (j - 1) nv) = false) : cptTo l (j + 1) = cptTo l j ++ [l.getD j nv] := by
  rw [cptTo, if_neg]
  rintro ⟨h1, h2⟩
  rcases h with h | h
  · exact h1 h
  · rw [h] at h2; cases h2
theorem cptTo_le (l : List Val) : ∀ j, (cptTo l j).length ≤ j
  | 0 => by simp [cptTo]
  | j + 1 => by
    have := cptTo_le l j
    rw [cptTo]
    split
    · omega
    · simp; omega
theorem take_getD (l : List Val) (j : Nat) (h : j < l.length) : l.take j ++ [l.getD j nv] = l.take (j + 1) := by
  rw [List.take_add_one]; simp [h]
theorem info3' {i : Option TypeInfo} : True := trivial
structure At4 (W : World) (g p : Nat) (v : Val) : Prop where
  c0 : W.cell? ⟨g, p, none⟩ = some (.int .i64 v.k)
  c1 : W.cell? ⟨g, p + 1, none⟩ = some (.bool v.b)
  c2 : W.cell? ⟨g, p + 2, none⟩ = some (.int .i64 v.n)
  c3 : W.cell? ⟨g, p + 3, none⟩ = some (.string v.t)
  f0 : W.frozen? ⟨g, p, none⟩ = false
  f1 : W.frozen? ⟨g, p + 1, none⟩ = false
  f2 : W.frozen? ⟨g, p + 2, none⟩ = false
  f3 : W.frozen? ⟨g, p + 3, none⟩ = false
theorem rowAt4 {W : World} {g o n c : Nat} {L : List Val} (h : VE.Row W (.slice (some ⟨g, o, none⟩) n c) L) (i : Nat) (hi : i < L.length) : At4 W g (o + i * 4) (L.getD i nv) := by
  rcases h with ⟨e, _⟩ | ⟨g9, o9, c9, e, q1, q2, q3, q4, q5⟩
  · cases e
  · cases e
    have hx : L[i]? = some (L.getD i nv) := by simp [hi]
    have hc : ∀ k u, k < 4 → (VE.c (L.getD i nv))[k]? = some u → W.cell? ⟨g, o + i * 4 + k, none⟩ = some u := fun k u hk hu => by
      have := El.cs_get VE hx (k := k) hk
      rw [hu] at this
      have h2 := q4 _ u this
      have e4 : VE.n = 4 := rfl
      rw [e4] at h2
      rw [Nat.add_assoc]; exact h2
    have hf : ∀ k, k < 4 → W.frozen? ⟨g, o + i * 4 + k, none⟩ = false := fun k hk => by
      have := (q5 (i * 4 + k) (by have e4 : VE.n = 4 := rfl; rw [e4]; omega)).2
      rw [Nat.add_assoc]; exact this
    exact ⟨hc 0 _ (by omega) rfl, hc 1 _ (by omega) rfl, hc 2 _ (by omega) rfl, hc 3 _ (by omega) rfl, hf 0 (by omega), hf 1 (by omega), hf 2 (by omega), hf 3 (by omega)⟩
theorem row_front {W : World} {g o n c : Nat} {L : List Val} (h : VE.Row W (.slice (some ⟨g, o, none⟩) n c) L) (m : Nat) (hm : m ≤ L.length) : VE.Row W (.slice (some ⟨g, o, none⟩) m c) (L.take m) := by
  rcases h with ⟨e, _⟩ | ⟨g9, o9, c9, e, q1, q2, q3, q4, q5⟩
  · cases e
  · cases e
    refine .inr ⟨g, o, c, by simp; omega, by simp; omega, q2, q3, fun j u hu => ?_, q5⟩
    rw [El.cs_take] at hu
    refine q4 j u ?_
    have hj := (List.getElem?_eq_some_iff.1 hu).1
    rw [List.getElem?_take] at hu
    split at hu
    · exact hu
    · cases hu
theorem row_tail {W : World} {g o m c : Nat} {L : List Val} (h : VE.Row W (.slice (some ⟨g, o, none⟩) m c) L) (cs : List Value) (hm : L.length = m) (hcs : cs.length ≤ (c - m) * 4) (hs : ∀ j, j < cs.length → (W.cell? ⟨g, o + m * 4 + j, none⟩).isSome = true) : VE.Row (W.setCells g (o + m * 4) cs) (.slice (some ⟨g, o, none⟩) m c) L := by
  rcases h with ⟨e, _⟩ | ⟨g9, o9, c9, e, q1, q2, q3, q4, q5⟩
  · cases e
  · cases e
    have e4 : VE.n = 4 := rfl
    refine .inr ⟨g, o, c, rfl, q1, q2, by rw [size_setCells]; exact q3, fun j u hu => ?_, fun j hj => ⟨?_, (World.frozen?_setCells g _ _ _ _).trans (q5 j hj).2⟩⟩
    · have hj : j < L.length * 4 := by have := (List.getElem?_eq_some_iff.1 hu).1; rwa [El.cs_length, e4] at this
      rw [World.cell?_setCells_out g _ _ _ _ (fun _ _ => ?_)]
      · exact q4 j u hu
      · left
        show o + j < o + L.length * 4
        omega
    · by_cases hin : L.length * 4 ≤ j ∧ j < L.length * 4 + cs.length
      · have := World.cell?_setCells_in g cs (o + L.length * 4) W hs (j - L.length * 4) (by omega)
        rw [show o + L.length * 4 + (j - L.length * 4) = o + j by omega] at this
        rw [this]; rfl
      · rw [World.cell?_setCells_out g _ _ _ _ (fun _ _ => by show o + j < o + L.length * 4 ∨ o + L.length * 4 + cs.length ≤ o + j; omega)]
        exact (q5 j hj).1
/-- The rest of a row of values, made nought. -/
theorem run_clearV (W : World) (g o n c : Nat) (hn : 0 < n) (hc : ∀ j, j < n * 4 → (W.cell? ⟨g, o + j, none⟩).isSome = true ∧ W.frozen? ⟨g, o + j, none⟩ = false) :
    ∃ cs : List Value, cs.length = n * 4 ∧ ∀ ty, (Builtin.clear_ #[23] ty #[.slice (some ⟨g, o, none⟩) n c]).run Tryz.prog W = .ok (.tuple #[]) (W.setCells g o cs) := by
  have hv : ∀ w : World, (zeroValue 30).run Tryz.prog w = .ok (.agg #[.int .i64 0, .bool false, .int .i64 0, .string ⟨#[]⟩]) w := Tryz.zeroValue30
  obtain ⟨zc, hzc⟩ : ∃ zc, (Builtin.zeroCells (Value.agg #[.int .i64 0, .bool false, .int .i64 0, .string ⟨#[]⟩]).cells n).toList = zc := ⟨_, rfl⟩
  have hlen : zc.length = n * 4 := by rw [← hzc]; simp [Builtin.zeroCells, Value.cells]
  have hone : ∀ v ∈ zc, v.oneCell' = true := by
    intro v hv'
    rw [← hzc] at hv'
    simp only [Builtin.zeroCells, Value.cells, Array.toList_map, List.mem_map] at hv'
    obtain ⟨i, _, rfl⟩ := hv'
    have : i % 4 < 4 := Nat.mod_lt _ (by omega)
    show (#[Value.int .i64 0, .bool false, .int .i64 0, .string ⟨#[]⟩][i % 4]!).oneCell' = true
    generalize i % 4 = m at this
    match m, this with
    | 0, _ | 1, _ | 2, _ | 3, _ => rfl
  have hst := run_storeCells_cells (P := Tryz.prog) g o zc 0 W (by rw [hlen]; simpa using fun j hj => (hc j hj).1) (by rw [hlen]; simpa using fun j hj => (hc j hj).2) hone
  simp only [Nat.add_zero] at hst
  refine ⟨zc, hlen, fun ty => ?_⟩
  obtain ⟨m, rfl⟩ : ∃ m, n = m + 1 := ⟨n - 1, by omega⟩
  simp [Builtin.clear_, run_underlying Tryz.underlying23, hv, hzc, hst]
set_option maxHeartbeats 8000000 in
set_option maxRecDepth 100000 in
theorem cCompactV (g o c : Nat) (l : List Val) (w : World) (hs : VE.Row w (.slice (some ⟨g, o, none⟩) l.length c) l) (hl : l.length ≤ 1000000) (hc : l.length ≤ c) (hm : c ≤ maxLen) :
    Calls Tryz.prog 106 #[.slice (some ⟨g, o, none⟩) l.length c] w fun e w' => e = .returned (.slice (some ⟨g, o, none⟩) (cpt l).length c) ∧ VE.Row w' (.slice (some ⟨g, o, none⟩) (cpt l).length c) (cpt l) ∧ Kp [g] w w' := by
  unfold maxLen at hm
  have hF : Hid (cpt l = cptTo l l.length) := rfl
  by_cases h2 : l.length < 2
  · have e : Hid (cpt l = l) := by
      show _ = _
      match l, h2 with
      | [], _ => rfl
      | [x], _ => rfl
    rw [e.out]
    have hs' := hid hs
    clear hF hs
    go_enter Tryz.func106, Tryz.ntmps106
    go_wp2_with fail
    go_ret
    exact ⟨rfl, hs'.out, Kp.refl _ _⟩
  · have h1e : Hid (cptTo l 1 = l.take 1) := by
      show _ = _
      rw [cptTo_new l 0 (.inl rfl)]
      have := take_getD l 0 (by omega)
      simpa [cptTo] using this
    obtain ⟨F, hFF⟩ : ∃ F, Hid (cpt l = F) := ⟨_, rfl⟩
    rw [hFF.out] at hF ⊢
    have hs' := hid hs
    clear hs
    go_enter Tryz.func106, Tryz.ntmps106
    go_wp2_with fail
    go_loopw [3] (fun i wn => ∃ k : Nat, 1 ≤ k ∧ k ≤ l.length ∧ i = .int .i64 k ∧ Hid (cptTo l k = l.take k) ∧ VE.Row wn (.slice (some ⟨g, o, none⟩) l.length c) l ∧ Kp [] w wn) (fun i _ => l.length - (intOf i).toNat)
    case atStart => exact ⟨1, Nat.le_refl _, by omega, rfl, h1e, hs'.out, Kp.refl _ _⟩
    case round =>
      clear hs' h1e
      obtain ⟨k, hk1, hkl, rfl, htk, hrow, kn⟩ := hrel
      by_cases hlt : k < l.length
      · obtain ⟨a0, a1, a2, a3, _, _, _, _⟩ := rowAt4 hrow k hlt
        obtain ⟨b0, b1, b2, b3, _, _, _, _⟩ := rowAt4 hrow (k - 1) (by omega)
        have hsame := hid (cptTo_same l k (by omega))
        have hnew := hid (cptTo_new l k)
        have htg := hid (take_getD l k hlt)
        obtain ⟨⟨xk, xb, xn, xt⟩, hx⟩ : ∃ x, Hid (l.getD k nv = x) := ⟨_, rfl⟩
        obtain ⟨⟨yk, yb, yn, yt⟩, hy⟩ : ∃ y, Hid (l.getD (k - 1) nv = y) := ⟨_, rfl⟩
        rw [hx.out] at a0 a1 a2 a3
        rw [hy.out] at b0 b1 b2 b3
        rw [hx.out, hy.out] at hsame hnew
        rw [hx.out] at htg
        obtain ⟨X, HX, hX⟩ := eqV ⟨xk, xb, xn, xt⟩ ⟨yk, yb, yn, yt⟩
        dsimp only at a0 a1 a2 a3 b0 b1 b2 b3 hX
        have hrow' := hid hrow
        have i1 : (k : Int) < (l.length : Int) := by omega
        have i2 : (k : Int) - 1 < (l.length : Int) := by omega
        have i3 : (0 : Int) ≤ (k : Int) - 1 := by omega
        clear hrow
        go_wp2_with fail
        go_quiet ((fail))
        have kq : Kp [] w (wr.drewN nq) := kn.drewN nq
        have hrq := hid (hrow'.out.keptNew ((Kp.refl [] wr).drewN nq))
        generalize wr.drewN nq = wq at *
        clear hrow' a0 a1 a2 a3 b0 b1 b2 b3 hX
        cases X
        · have hst : Hid (cptTo l (k + 1) = l.take (k + 1)) := by
            show _ = _
            rw [hnew.out (.inr HX.out.symm), htk.out, htg.out]
          clear hsame hnew htg htk
          go_wp2_with fail
          exact ⟨⟨k + 1, by omega, by omega, by go_num, hst, hrq.out, kq⟩, by simp [intOf]; omega⟩
        · have hst : Hid (cptTo l (k + 1) = l.take k) := by
            show _ = _
            rw [hsame.out HX.out.symm, htk.out]
          clear hsame hnew htg htk HX
          go_wp2_with fail
          go_loopw [3, 5] (fun s3 s5 wn => ∃ (kk k2 : Nat), s3 = .int .i64 kk ∧ s5 = .int .i64 k2 ∧ 1 ≤ k2 ∧ k + k2 ≤ l.length ∧ kk < k + k2 ∧ Hid ((cptTo l (k + k2)).length = kk) ∧ VE.Row wn (.slice (some ⟨g, o, none⟩) l.length c) (cptTo l (k + k2) ++ l.drop kk) ∧ Kp [g] w wn) (fun _ s5 _ => l.length - k - (intOf s5).toNat)
          case atStart => exact ⟨k, 1, rfl, rfl, Nat.le_refl _, by omega, by omega, by show _ = _; rw [hst.out]; simp; omega, by rw [hst.out, List.take_append_drop]; exact hrq.out, kq.mono (by simp)⟩
          case round =>
            clear hrq hst
            obtain ⟨kk, k2, rfl, rfl, h21, h2l, hkk, hpl, hrow, kn2⟩ := hrel
            have hLl : (cptTo l (k + k2) ++ l.drop kk).length = l.length := by rw [List.length_append, hpl.out]; simp; omega
            by_cases hlt2 : k + k2 < l.length
            · have hgd : Hid (∀ i, kk ≤ i → (cptTo l (k + k2) ++ l.drop kk).getD i nv = l.getD i nv) := fun i hi => by
                simp only [List.getD_eq_getElem?_getD]
                rw [List.getElem?_append_right (by rw [hpl.out]; exact hi), hpl.out, List.getElem?_drop]
                congr 2
                omega
              obtain ⟨a0, a1, a2, a3, _, _, _, _⟩ := rowAt4 hrow (k + k2) (by omega)
              obtain ⟨b0, b1, b2, b3, _, _, _, _⟩ := rowAt4 hrow (k + k2 - 1) (by omega)
              rw [hgd.out _ (by omega)] at a0 a1 a2 a3
              rw [hgd.out _ (by omega)] at b0 b1 b2 b3
              have hsame := hid (cptTo_same l (k + k2) (by omega))
              have hnew := hid (cptTo_new l (k + k2))
              obtain ⟨⟨uk, ub, un, ut⟩, hu⟩ : ∃ x, Hid (l.getD (k + k2) nv = x) := ⟨_, rfl⟩
              obtain ⟨⟨vk, vb, vn, vt⟩, hv⟩ : ∃ y, Hid (l.getD (k + k2 - 1) nv = y) := ⟨_, rfl⟩
              rw [hu.out] at a0 a1 a2 a3
              rw [hv.out] at b0 b1 b2 b3
              rw [hu.out, hv.out] at hsame hnew
              obtain ⟨X, HX, hX⟩ := neV ⟨uk, ub, un, ut⟩ ⟨vk, vb, vn, vt⟩
              dsimp only at a0 a1 a2 a3 b0 b1 b2 b3 hX
              have e1 : o + (k + k2) * 4 = o + k * 4 + k2 * 4 := by omega
              have e2 : o + (k + k2 - 1) * 4 = o + k * 4 + (k2 - 1) * 4 := by omega
              rw [e1] at a0 a1 a2 a3
              rw [e2] at b0 b1 b2 b3
              have hrow' := hid hrow
              have i1 : (k2 : Int) < ((l.length - k : Nat) : Int) := by omega
              have i2 : (k2 : Int) - 1 < ((l.length - k : Nat) : Int) := by omega
              have i3 : (0 : Int) ≤ (k2 : Int) - 1 := by omega
              have j1 : k2 < l.length - k := by omega
              clear hrow e1 e2
              go_wp2_with fail
              go_quiet ((fail))
              have kq2 : Kp [g] w (wr.drewN nq) := kn2.drewN nq
              have hrq2 := hrow'.out.keptNew ((Kp.refl [] wr).drewN nq)
              have C0 : (wr.drewN nq).cell? ⟨g, o + k * 4 + k2 * 4, none⟩ = some (.int .i64 uk) := a0
              have C1 : (wr.drewN nq).cell? ⟨g, o + k * 4 + k2 * 4 + 1, none⟩ = some (.bool ub) := a1
              have C2 : (wr.drewN nq).cell? ⟨g, o + k * 4 + k2 * 4 + 2, none⟩ = some (.int .i64 un) := a2
              have C3 : (wr.drewN nq).cell? ⟨g, o + k * 4 + k2 * 4 + 3, none⟩ = some (.string ut) := a3
              generalize wr.drewN nq = wq2 at *
              clear hrow' a0 a1 a2 a3 b0 b1 b2 b3 hX
              cases X
              · have hst : Hid (cptTo l (k + k2 + 1) = cptTo l (k + k2) ++ [⟨uk, ub, un, ut⟩]) := by
                  show _ = _
                  rw [hnew.out (.inr HX.out.symm)]
                obtain ⟨d0, d1, d2, d3, f0, f1, f2, f3⟩ := rowAt4 hrq2 kk (by omega)
                have hset := hrq2.setAt kk (by omega) ⟨uk, ub, un, ut⟩
                have eL : (cptTo l (k + k2) ++ l.drop kk).set kk ⟨uk, ub, un, ut⟩ = cptTo l (k + k2 + 1) ++ l.drop (kk + 1) := by
                  rw [hst.out]
                  have hd : l.drop kk = l.getD kk nv :: l.drop (kk + 1) := by
                    rw [List.drop_eq_getElem_cons (show kk < l.length by omega)]
                    simp [show kk < l.length by omega]
                  rw [hd, List.set_append_right _ _ (by rw [hpl.out]; exact Nat.le_refl _), hpl.out, Nat.sub_self]
                  simp
                rw [eL] at hset
                have hpl2 : Hid ((cptTo l (k + k2 + 1)).length = kk + 1) := by show _ = _; rw [hst.out]; simp [hpl.out]
                have eW : Hid (wq2.setCells g (o + kk * VE.n) (VE.c ⟨uk, ub, un, ut⟩) = (((wq2.setCell ⟨g, o + kk * 4, none⟩ (.int .i64 uk)).setCell ⟨g, o + kk * 4 + 1, none⟩ (.bool ub)).setCell ⟨g, o + kk * 4 + 2, none⟩ (.int .i64 un)).setCell ⟨g, o + kk * 4 + 3, none⟩ (.string ut)) := by
                  show _ = _
                  have e4 : VE.n = 4 := rfl
                  rw [e4]
                  rfl
                have kS : Kp [g] w (wq2.setCells g (o + kk * VE.n) (VE.c ⟨uk, ub, un, ut⟩)) := kq2.setCells (.inl (by simp)) _ _
                rw [eW.out] at hset kS
                have hset' := hid hset
                generalize (cptTo l (k + k2) ++ l.drop kk).getD kk nv = old at *
                have hkkl : (kk : Int) < (l.length : Int) := by omega
                clear hset hrq2 hsame hnew hst hpl eL eW hgd HX
                go_wp2_with fail
                exact ⟨⟨kk + 1, k2 + 1, by go_num, by go_num, by omega, by omega, by omega, hpl2, hset'.out, kS⟩, by simp [intOf]; omega⟩
              · have hst : Hid (cptTo l (k + k2 + 1) = cptTo l (k + k2)) := by
                  show _ = _
                  rw [hsame.out HX.out.symm]
                have hpl2 : Hid ((cptTo l (k + k2 + 1)).length = kk) := by show _ = _; rw [hst.out, hpl.out]
                rw [← hst.out] at hrq2
                have hrq2' := hid hrq2
                clear hrq2 hsame hnew hst hpl hgd HX
                go_wp2_with fail
                exact ⟨⟨kk, k2 + 1, rfl, by go_num, by omega, by omega, by omega, hpl2, hrq2'.out, kq2⟩, by simp [intOf]; omega⟩
            · obtain hend : k + k2 = l.length := by omega
              rw [hend, ← hF.out] at hrow hpl hLl
              have hn0 : 0 < l.length - kk := by omega
              have hcc : ∀ j, j < (l.length - kk) * 4 → (wr.cell? ⟨g, o + kk * 4 + j, none⟩).isSome = true ∧ wr.frozen? ⟨g, o + kk * 4 + j, none⟩ = false := fun j hj => by
                rcases hrow with ⟨e, _⟩ | ⟨g9, o9, c9, e, q1, q2, q3, q4, q5⟩
                · cases e
                · injection e with e1 e2 e3
                  injection e1 with e1
                  injection e1 with e4 e5
                  subst e3 e4 e5
                  have := q5 (kk * 4 + j) (by have e4 : VE.n = 4 := rfl; rw [e4]; omega)
                  rw [← Nat.add_assoc] at this
                  exact this
              obtain ⟨cs, hcs, hcl⟩ := run_clearV wr g (o + kk * 4) (l.length - kk) (c - kk) hn0 hcc
              have hfr := row_front hrow kk (by omega)
              have eF : (F ++ l.drop kk).take kk = F := by rw [← hpl.out]; simp
              rw [eF] at hfr
              have hpl' : Hid (kk = F.length) := hpl.out.symm
              have hrt := row_tail hfr cs hpl.out (by rw [hcs]; omega) (fun j hj => (hcc j (by omega)).1)
              have kS : Kp [g] w (wr.setCells g (o + kk * 4) cs) := kn2.setCells (.inl (by simp)) _ _
              have hrt' := hid hrt
              have n1 : ¬ (k2 : Int) < ((l.length - k : Nat) : Int) := by omega
              have n2 : (kk : Int) ≤ (l.length : Int) := by omega
              have n3 : (kk : Int) ≤ (c : Int) := by omega
              have n4 : kk < l.length := by omega
              have n5 : kk < c := by omega
              clear hfr hrow hpl hLl hcc hrt eF hcs hF hFF
              go_wp2_with fail
              go_ret
              rw [← hpl'.out]
              exact ⟨rfl, hrt'.out, kS⟩
      · obtain rfl : k = l.length := by omega
        rw [List.take_length] at htk
        have hfin : Hid (F = l) := by show _ = _; rw [hF.out, htk.out]
        have hrow' := hid hrow
        clear hrow htk hF
        go_wp2_with fail
        go_ret
        rw [hfin.out]
        exact ⟨rfl, hrow'.out, kn.mono (by simp)⟩
end Go.Proofs.YtohbdbecioanaaaGreatDoor
end

section
namespace Go.Proofs
open Go.Shelf
def Tryz.lsortf_ren : Go.Shelf.Ren := ⟨fun | 6 => 105 | 15 => 129 | 14 => 128 | 28 => 144 | 29 => 110 | 20 => 136 | 21 => 137 | 22 => 138 | 23 => 139 | 24 => 140 | 25 => 141 | 26 => 142 | 27 => 143 | 46 => 148 | 47 => 149 | 48 => 150 | 49 => 151 | 50 => 152 | 57 => 154 | n => n, fun | 22 => 23 | 24 => 30 | 25 => 82 | 3 => 3 | 39 => 80 | 0 => 0 | 53 => 56 | 55 => 62 | 4 => 4 | 46 => 160 | 45 => 159 | 50 => 164 | 5 => 5 | 9 => 9 | 66 => 171 | 70 => 174 | 76 => 177 | 77 => 178 | n => n, fun | n => n⟩
theorem Tryz.lsortf : Go.Proofs.SlLaysF0.n6 Tryz.prog Tryz.lsortf_ren := {
  mixed := by kernel_rfl
  f6 := ⟨Tryz.f105.name, by decide, Tryz.func105.trans (congrArg some (by kernel_rfl))⟩
  f14 := ⟨Tryz.f128.name, by decide, Tryz.func128.trans (congrArg some (by kernel_rfl))⟩
  f15 := Tryz.func129.trans (congrArg some (by kernel_rfl))
  f20 := ⟨Tryz.f136.name, by decide, Tryz.func136.trans (congrArg some (by kernel_rfl))⟩
  f21 := ⟨Tryz.f137.name, by decide, Tryz.func137.trans (congrArg some (by kernel_rfl))⟩
  f22 := ⟨Tryz.f138.name, by decide, Tryz.func138.trans (congrArg some (by kernel_rfl))⟩
  f23 := ⟨Tryz.f139.name, by decide, Tryz.func139.trans (congrArg some (by kernel_rfl))⟩
  f24 := ⟨Tryz.f140.name, by decide, Tryz.func140.trans (congrArg some (by kernel_rfl))⟩
  f25 := ⟨Tryz.f141.name, by decide, Tryz.func141.trans (congrArg some (by kernel_rfl))⟩
  f26 := ⟨Tryz.f142.name, by decide, Tryz.func142.trans (congrArg some (by kernel_rfl))⟩
  f27 := ⟨Tryz.f143.name, by decide, Tryz.func143.trans (congrArg some (by kernel_rfl))⟩
  f28 := Tryz.func144.trans (congrArg some (by kernel_rfl))
  f29 := Tryz.func110.trans (congrArg some (by kernel_rfl))
  f46 := ⟨Tryz.f148.name, by decide, Tryz.func148.trans (congrArg some (by kernel_rfl))⟩
  f47 := Tryz.func149.trans (congrArg some (by kernel_rfl))
  f48 := Tryz.func150.trans (congrArg some (by kernel_rfl))
  f49 := ⟨Tryz.f151.name, by decide, Tryz.func151.trans (congrArg some (by kernel_rfl))⟩
  f50 := ⟨Tryz.f152.name, by decide, Tryz.func152.trans (congrArg some (by kernel_rfl))⟩
  f57 := ⟨Tryz.f154.name, by decide, Tryz.func154.trans (congrArg some (by kernel_rfl))⟩
  t0 := Tryz.underlying0
  a0 := Tryz.isAgg0
  z0 := Tryz.sizeOf0
  v0 := Tryz.zeroValue0
  t3 := Tryz.underlying3
  a3 := Tryz.isAgg3
  z3 := Tryz.sizeOf3
  v3 := Tryz.zeroValue3
  t4 := Tryz.underlying4
  a4 := Tryz.isAgg4
  z4 := Tryz.sizeOf4
  v4 := Tryz.zeroValue4
  t5 := Tryz.underlying5
  a5 := Tryz.isAgg5
  z5 := Tryz.sizeOf5
  v5 := Tryz.zeroValue5
  t9 := Tryz.underlying9
  a9 := Tryz.isAgg9
  z9 := Tryz.sizeOf9
  v9 := Tryz.zeroValue9
  t22 := Tryz.underlying23
  a22 := Tryz.isAgg23
  z22 := Tryz.sizeOf23
  v22 := Tryz.zeroValue23
  t25 := Tryz.underlying82
  a25 := Tryz.isAgg82
  z25 := Tryz.sizeOf82
  v25 := Tryz.zeroValue82
  t39 := Tryz.underlying80
  a39 := Tryz.isAgg80
  z39 := Tryz.sizeOf80
  v39 := Tryz.zeroValue80
  t45 := Tryz.underlying159
  a45 := Tryz.isAgg159
  z45 := Tryz.sizeOf159
  v45 := Tryz.zeroValue159
  t46 := Tryz.underlying160
  a46 := Tryz.isAgg160
  z46 := Tryz.sizeOf160
  v46 := Tryz.zeroValue160
  t50 := Tryz.underlying164
  a50 := Tryz.isAgg164
  z50 := Tryz.sizeOf164
  v50 := Tryz.zeroValue164
  t53 := Tryz.underlying56
  a53 := Tryz.isAgg56
  z53 := Tryz.sizeOf56
  v53 := Tryz.zeroValue56
  t55 := Tryz.underlying62
  a55 := Tryz.isAgg62
  z55 := Tryz.sizeOf62
  v55 := Tryz.zeroValue62
  t66 := Tryz.underlying171
  a66 := Tryz.isAgg171
  z66 := Tryz.sizeOf171
  v66 := Tryz.zeroValue171
  t70 := Tryz.underlying174
  a70 := Tryz.isAgg174
  z70 := Tryz.sizeOf174
  v70 := Tryz.zeroValue174
  t76 := Tryz.underlying177
  a76 := Tryz.isAgg177
  z76 := Tryz.sizeOf177
  v76 := Tryz.zeroValue177
  t77 := Tryz.underlying178
  a77 := Tryz.isAgg178
  z77 := Tryz.sizeOf178
  v77 := Tryz.zeroValue178 }
def Tryz.lindex_ren : Go.Shelf.Ren := ⟨fun | 6 => 107 | n => n, fun | 22 => 23 | 24 => 30 | 3 => 3 | 0 => 0 | 4 => 4 | n => n, fun | n => n⟩
theorem Tryz.lindex : Go.Proofs.SlLaysQ.n6 Tryz.prog Tryz.lindex_ren := {
  mixed := by kernel_rfl
  f6 := ⟨Tryz.f107.name, by decide, Tryz.func107.trans (congrArg some (by kernel_rfl))⟩
  t0 := Tryz.underlying0
  a0 := Tryz.isAgg0
  z0 := Tryz.sizeOf0
  v0 := Tryz.zeroValue0
  t3 := Tryz.underlying3
  a3 := Tryz.isAgg3
  z3 := Tryz.sizeOf3
  v3 := Tryz.zeroValue3
  t4 := Tryz.underlying4
  a4 := Tryz.isAgg4
  z4 := Tryz.sizeOf4
  v4 := Tryz.zeroValue4
  t22 := Tryz.underlying23
  a22 := Tryz.isAgg23
  z22 := Tryz.sizeOf23
  v22 := Tryz.zeroValue23 }
end Go.Proofs
end

section
namespace Go.Proofs.YtohbdbecioanaaaGreatDoor
open Go.RowKit Go.Hay Go.Sort
set_option linter.unusedVariables false
set_option linter.unusedSimpArgs false

instance : Inhabited Val := ⟨nv⟩
theorem ltV (x y : Val) : ltOf cmpV x y = x.lt y := by
  unfold ltOf cmpV
  cases h : x.lt y
  · cases h2 : y.lt x <;> simp [h, h2]
  · simp [h]
theorem ltV_trans (x y z : Val) (h : x.lt y = true) (k : y.lt z = true) : x.lt z = true := by
  cases hz : x.lt z with
  | true => rfl
  | false =>
    have h1 := Val.lt_asymm _ _ k
    have := Val.lt_ntrans y z x h1 hz
    rw [this] at h; cases h
theorem swoV : SWO (ltOf cmpV) where
  irrefl x := by rw [ltV]; exact Val.lt_irr x
  trans x y z h1 h2 := by rw [ltV] at *; exact ltV_trans x y z h1 h2
  ntrans x y z h1 h2 := by rw [ltV] at *; exact Val.lt_ntrans z y x h2 h1
theorem kp_sorted {enc : Val → List Value} {w : World} {g o n : Nat} {d : Array Val} {os : Array Obj} : Kp [g] w (sortWorldK enc 4 w g o n d os) := by
  refine ⟨rfl, rfl, rfl, size_sortWorldK_c enc 4 w g o n d os, fun k hk hne => ?_⟩
  unfold sortWorldK putRowK
  rw [heap_grow_old _ _ (by simpa using hk)]
  have : g ≠ k := fun e => hne (by simp [e])
  simp [putRow, mapBlock, Sort.ahead, Array.getElem?_modify, this]
theorem enterCmp : ∀ args w, (callFunc 40 args).run Tryz.prog w = .ok (.enter 40 args) w := enters_of Tryz.func40 (by kernel_rfl) rfl
theorem row_holds {w : World} {g o c : Nat} {l : List Val} (h : VE.Row w (.slice (some ⟨g, o, none⟩) l.length c) l) : HoldsK VE.c 4 w g o l.toArray := by
  rcases h with ⟨e, _⟩ | ⟨g9, o9, c9, e, q1, q2, q3, q4, q5⟩
  · cases e
  · cases e
    intro j hj
    rw [size_flatK] at hj
    have hj' : j < l.length * 4 := by simpa using hj
    refine ⟨?_, (q5 j (by have e4 : VE.n = 4 := rfl; rw [e4]; omega)).2⟩
    rw [get_flatK _ _ _ _ hj]
    have hq : j / 4 < l.length := by omega
    have hx : l[j / 4]? = some l[j / 4] := by simp [hq]
    have hm : j % 4 < VE.n := Nat.mod_lt _ (by decide)
    have e := El.cs_get VE hx hm
    have e4 : VE.n = 4 := rfl
    rw [e4, show j / 4 * 4 + j % 4 = j by omega] at e
    have hk : j % 4 < (VE.c l[j / 4]).length := by rw [VE.len]; exact hm
    rw [List.getElem?_eq_getElem hk] at e
    have := q4 j _ e
    rw [this]
    have e5 : l.toArray[j / 4]! = l[j / 4] := by simp [hq]
    rw [e5]
    simp [List.getElem!_eq_getElem?_getD, List.getElem?_eq_getElem hk]
theorem holds_row {w : World} {g o c n : Nat} {l s : List Val} {os : Array Obj} (h : VE.Row w (.slice (some ⟨g, o, none⟩) l.length c) l) (hs : s.length = l.length) : VE.Row (sortWorldK VE.c 4 w g o n s.toArray os) (.slice (some ⟨g, o, none⟩) s.length c) s := by
  have hH := row_holds h
  rcases h with ⟨e, _⟩ | ⟨g9, o9, c9, e, q1, q2, q3, q4, q5⟩
  · cases e
  · cases e
    have hH2 := holdsK_sortWorldK_c VE.c 4 w g o l.toArray s.toArray n os hH q3 (by simpa using hs)
    have e4 : VE.n = 4 := rfl
    have hsz := size_sortWorldK_c VE.c 4 w g o n s.toArray os
    refine .inr ⟨g, o, c, rfl, by omega, q2, by omega, fun j u hu => ?_, fun j hj => ?_⟩
    · have hj : j < s.length * 4 := by have := (List.getElem?_eq_some_iff.1 hu).1; rwa [El.cs_length, e4] at this
      have hq : j / 4 < s.length := by omega
      have := (hH2.cell (i := j / 4) (c := j % 4) (by simpa using hq) (by omega)).1
      rw [Nat.add_assoc, show j / 4 * 4 + j % 4 = j by omega] at this
      rw [this]
      have hx : s[j / 4]? = some s[j / 4] := by simp [hq]
      have hm : j % 4 < VE.n := Nat.mod_lt _ (by decide)
      have e := El.cs_get VE hx hm
      rw [e4, show j / 4 * 4 + j % 4 = j by omega, hu] at e
      have e5 : s.toArray[j / 4]! = s[j / 4] := by simp [hq]
      rw [e5]
      simp [List.getElem!_eq_getElem?_getD, ← e]
    · by_cases hjl : j < s.length * 4
      · have hq : j / 4 < s.length := by omega
        have := hH2.cell (i := j / 4) (c := j % 4) (by simpa using hq) (by omega)
        rw [Nat.add_assoc, show j / 4 * 4 + j % 4 = j by omega] at this
        rw [this.1]
        exact ⟨rfl, this.2⟩
      · have h5 := q5 j hj
        unfold sortWorldK putRowK
        rw [cell?_grow _ _ _ (by simpa using q3), frozen?_grow _ _ _ (by simpa using q3), cell?_putRow_other _ _ _ _ _ _ (.inr (.inr (by simp [size_flatK]; omega))), frozen?_putRow]
        exact h5
set_option maxHeartbeats 2000000 in
/-- The values, sorted: where they lay. -/
theorem cSortV (g o c : Nat) (l : List Val) (w : World) (hs : VE.Row w (.slice (some ⟨g, o, none⟩) l.length c) l) (hl : l.length ≤ 1000000) :
    Calls Tryz.prog 105 #[.slice (some ⟨g, o, none⟩) l.length c, .func (.func 40) #[] #[]] w fun e w' => e = .returned (.tuple #[]) ∧ Kp [g] w w' ∧ ∃ s : List Val, s.Perm l ∧ s.Pairwise (fun x y => y.lt x = false) ∧ VE.Row w' (.slice (some ⟨g, o, none⟩) s.length c) s := by
  have hg : g < w.heap.size := by
    have := hs.lt g (by simp [own, Value.ownBlock])
    exact this
  have hcmp : CmpLays Tryz.prog 40 #[] VE.c 4 cmpV g o l.toArray.size w := fun m os dk hdk x y => cCompareG x y _
  have h := AnyQ.slices_SortFunc Tryz.lsortf 4 Tryz.isAgg30 Tryz.sizeOf30 VE.c (fun _ => rfl) (fun x v hv => VE.one x v hv) cmpV swoV 40 #[] g o c l.toArray w enterCmp hcmp (row_holds hs) hg (by simp; omega)
  have h' : Calls Tryz.prog 105 #[.slice (some ⟨g, o, none⟩) l.length c, .func (.func 40) #[] #[]] w _ := h
  refine h'.mono ?_
  rintro e w' ⟨rfl, d', n, os, hp, hso, rfl⟩
  obtain ⟨s, rfl⟩ : ∃ s : List Val, d' = s.toArray := ⟨d'.toList, by simp⟩
  obtain ⟨p1, p2, p3⟩ := hp
  have hsl : s.length = l.length := by simpa using p1
  have p3' : s.Perm l := by
    have : (s.toArray.extract 0 l.toArray.size).toList = s := by rw [List.size_toArray, ← hsl]; simp
    rw [this] at p3
    have e2 : (l.toArray.extract 0 l.toArray.size).toList = l := by simp
    rw [e2] at p3
    exact p3
  refine ⟨rfl, kp_sorted, s, p3', ?_, holds_row hs hsl⟩
  rw [List.pairwise_iff_getElem]
  intro i j hi hj hij
  have := hso i j (Nat.zero_le _) hij (by simpa [← hsl] using hj)
  rw [ltV] at this
  simpa [hi, hj] using this
end Go.Proofs.YtohbdbecioanaaaGreatDoor
end

section
namespace Go.Proofs.YtohbdbecioanaaaGreatDoor
open Go.RowKit Go.Hay Go.Sort
set_option linter.unusedVariables false
set_option linter.unusedSimpArgs false

theorem eqAtV : EqlAt Tryz.prog 30 (fun x => .agg (VE.c x).toArray) Val.eqv := by
  refine ⟨fun x y w => ?_, GuardAt.agg _ (by kernel_rfl)⟩
  obtain ⟨X, hX, h⟩ := eqV x y
  have := h w
  rw [hX.out] at this
  exact this
theorem idxFrom_mem (x : Val) : ∀ (s : List Val) (i : Nat), x ∈ s → ∃ k, k < s.length ∧ s.getD k nv = x ∧ Lib.idxByFrom Val.eqv x s i = ((i + k : Nat) : Int)
  | [], _, h => by simp at h
  | y :: r, i, h => by
    by_cases e : x.eqv y = true
    · refine ⟨0, by simp, ?_, ?_⟩
      · rw [eqv_iff.1 e]; rfl
      · simp [Lib.idxByFrom, e]
    · have hr : x ∈ r := by
        rcases List.mem_cons.1 h with h1 | h1
        · subst h1; exact absurd (eqv_iff.2 rfl) e
        · exact h1
      obtain ⟨k, h1, h2, h3⟩ := idxFrom_mem x r (i + 1) hr
      refine ⟨k + 1, by simp; omega, by simpa using h2, ?_⟩
      rw [Lib.idxByFrom, if_neg e, h3]
      congr 1
      omega
/-- Where a value is. -/
def idxV (s : List Val) (x : Val) : Nat := (Lib.idxBy Val.eqv s x).toNat
theorem idxV_mem (s : List Val) (x : Val) (h : x ∈ s) : idxV s x < s.length ∧ s.getD (idxV s x) nv = x ∧ Lib.idxBy Val.eqv s x = (idxV s x : Int) := by
  obtain ⟨k, h1, h2, h3⟩ := idxFrom_mem x s 0 h
  have e : Lib.idxBy Val.eqv s x = (k : Int) := by unfold Lib.idxBy; rw [h3]; simp
  have e2 : idxV s x = k := by unfold idxV; rw [e]; simp
  rw [e2]
  exact ⟨h1, h2, e⟩
theorem cIndexV (g o c : Nat) (s : List Val) (x : Val) (w : World) (hs : VE.Row w (.slice (some ⟨g, o, none⟩) s.length c) s) (hx : x ∈ s) (hl : s.length ≤ 1000000) :
    Calls Tryz.prog 107 #[.slice (some ⟨g, o, none⟩) s.length c, x.v] w fun e w' => e = .returned (.int .i64 (idxV s x : Int)) ∧ Kp [] w w' := by
  have h := AnyQ.slices_Index Tryz.lindex 4 Tryz.isAgg30 Tryz.sizeOf30 VE.c (fun _ => rfl) Val.eqv eqAtV g o s.length c s x w (Nat.le_refl _) (by omega) (fun j hj i v hv => by
    have hi : i < 4 := by have := (List.getElem?_eq_some_iff.1 hv).1; rw [VE.len] at this; exact this
    have := (row_holds hs).cell (i := j) (c := i) (by simpa using hj) hi
    rw [this.1]
    have e5 : s.toArray[j]! = s[j]! := by simp [hj]
    rw [e5, List.getElem!_eq_getElem?_getD, hv]
    rfl)
  have h' : Calls Tryz.prog 107 #[.slice (some ⟨g, o, none⟩) s.length c, x.v] w _ := h
  refine h'.mono ?_
  rintro e w' ⟨rfl, q, rfl⟩
  rw [List.take_length, (idxV_mem s x hx).2.2]
  exact ⟨rfl, ((Kp.refl _ _).alloc _).drewN q⟩
/-- Everything is among the unlike ones, and nothing else. -/
theorem cptTo_in (s : List Val) : ∀ j, j ≤ s.length → (∀ i, i < j → s.getD i nv ∈ cptTo s j) ∧ ∀ x ∈ cptTo s j, x ∈ s
  | 0, _ => ⟨fun i hi => by omega, fun x hx => by simp [cptTo] at hx⟩
  | j + 1, hj => by
    obtain ⟨h1, h2⟩ := cptTo_in s j (by omega)
    have hm : s.getD j nv ∈ s := by
      have : j < s.length := by omega
      simp [this]
    by_cases hc : j ≠ 0 ∧ (s.getD j nv).eqv (s.getD (j - 1) nv) = true
    · rw [cptTo_same s j hc.1 hc.2]
      refine ⟨fun i hi => ?_, h2⟩
      by_cases e : i = j
      · subst e
        rw [eqv_iff.1 hc.2]
        exact h1 (i - 1) (by omega)
      · exact h1 i (by omega)
    · rw [cptTo, if_neg hc]
      refine ⟨fun i hi => ?_, fun x hx => ?_⟩
      · by_cases e : i = j
        · subst e; simp
        · exact List.mem_append_left _ (h1 i (by omega))
      · rcases List.mem_append.1 hx with h | h
        · exact h2 x h
        · rw [List.mem_singleton] at h; rw [h]; exact hm
theorem cpt_mem (s : List Val) (x : Val) : x ∈ cpt s ↔ x ∈ s := by
  obtain ⟨h1, h2⟩ := cptTo_in s s.length (Nat.le_refl _)
  refine ⟨h2 x, fun h => ?_⟩
  obtain ⟨i, hi, rfl⟩ := List.getElem_of_mem h
  have := h1 i hi
  show _ ∈ cptTo s s.length
  simpa [hi] using this
theorem lt_total (x y : Val) (hx : x.right = true) (hy : y.right = true) (h1 : x.lt y = false) (h2 : y.lt x = false) : x = y := by
  have := cmp_eqv x y hx hy
  rw [(cmp_zero x y).2 ⟨h1, h2⟩] at this
  exact eqv_iff.1 this.symm
/-- The values in their order. -/
def sortV (l : List Val) : List Val := l.mergeSort fun x y => !(y.lt x)
theorem sortV_of (l s : List Val) (hr : allR l = true) (hp : s.Perm l) (hs : s.Pairwise (fun x y => y.lt x = false)) : s = sortV l := by
  have hr' : ∀ x ∈ l, x.right = true := List.all_eq_true.1 hr
  have hm : (sortV l).Pairwise (fun x y => y.lt x = false) := by
    have := List.pairwise_mergeSort (le := fun x y : Val => !(y.lt x)) (fun a b c h1 h2 => by simp only [Bool.not_eq_true'] at *; exact Val.lt_ntrans a b c h1 h2) (fun a b => by
      cases h : b.lt a with
      | false => simp
      | true => simp [Val.lt_asymm b a h]) l
    exact this.imp (by simp)
  have hpm : s.Perm (sortV l) := hp.trans (List.mergeSort_perm l _).symm
  refine List.Perm.eq_of_pairwise ?_ hs hm hpm
  intro a b ha hb h1 h2
  exact lt_total a b (hr' a (hp.mem_iff.1 ha)) (hr' b ((List.mergeSort_perm l _).mem_iff.1 hb)) h2 h1
def uniq (l : List Val) : List Val := cpt (sortV l)
theorem uniq_mem (l : List Val) (x : Val) : x ∈ uniq l ↔ x ∈ l := by
  unfold uniq
  rw [cpt_mem]
  exact (List.mergeSort_perm l _).mem_iff
theorem uniq_len (l : List Val) : (uniq l).length ≤ l.length := by
  have := cptTo_le (sortV l) (sortV l).length
  have e : (sortV l).length = l.length := (List.mergeSort_perm l _).length_eq
  unfold uniq cpt
  omega
theorem uniq_right (l : List Val) (h : allR l = true) : allR (uniq l) = true := List.all_eq_true.2 fun x hx => List.all_eq_true.1 h x ((uniq_mem l x).1 hx)
end Go.Proofs.YtohbdbecioanaaaGreatDoor
end

section
namespace Go.Proofs.YtohbdbecioanaaaGreatDoor
open Go.RowKit Go.Hay
set_option linter.unusedVariables false
set_option linter.unusedSimpArgs false

def plcs (u l : List Val) (j : Nat) : List Nat := (List.range j).map fun k => idxV u (l.getD k nv)
theorem plcs_length (u l : List Val) (j : Nat) : (plcs u l j).length = j := by simp [plcs]
theorem plcs_succ (u l : List Val) (j : Nat) : plcs u l (j + 1) = plcs u l j ++ [idxV u (l.getD j nv)] := by simp [plcs, List.range_succ]
def dictB (l : List Val) : List UInt8 := [octet (uniq l).length] ++ (uniq l).flatMap rowB ++ packB (plcs (uniq l) l l.length) (Lib.bitLen ((uniq l).length - 1))
set_option maxHeartbeats 8000000 in
set_option maxRecDepth 100000 in
theorem cPutDict (a : Option Addr) (ca : Nat) (l : List Val) (w : World) (ha : Vals w a l) (hr : allR l = true) (h0 : 0 < l.length) (hl : l.length ≤ 64) :
    Calls Tryz.prog 66 #[.slice a l.length ca] w (NB (dictB l) w) := by
  obtain ⟨g, o, rfl, _⟩ := ha.at 0 h0
  have hat : Hid (∀ W, Kp [] w W → ∀ j, j < l.length → W.cell? ⟨g, o + j * 4, none⟩ = some (.int .i64 (l.getD j nv).k) ∧ W.cell? ⟨g, o + j * 4 + 1, none⟩ = some (.bool (l.getD j nv).b) ∧ W.cell? ⟨g, o + j * 4 + 2, none⟩ = some (.int .i64 (l.getD j nv).n) ∧ W.cell? ⟨g, o + j * 4 + 3, none⟩ = some (.string (l.getD j nv).t)) := fun W kW j hj => by
    obtain ⟨_, _, e, y0, y1, y2, y3⟩ := (ha.kept kW).at j hj
    cases e
    have e1 : l.getD j nv = l[j] := by simp [hj]
    rw [e1]
    exact ⟨y0, y1, y2, y3⟩
  have cC := cCloneV ⟨g, o, none⟩ ca l w (seeV.2 ha) (by omega)
  have hF : Hid (dictB l = [octet (uniq l).length] ++ (uniq l).flatMap rowB ++ packB (plcs (uniq l) l l.length) (Lib.bitLen ((uniq l).length - 1))) := rfl
  have hul := uniq_len l
  have hum := hid (fun x => (uniq_mem l x).2)
  have hur := hid (uniq_right l hr)
  have hu0 : 0 < (uniq l).length := List.length_pos_iff.2 (List.ne_nil_of_mem (hum.out _ (List.getElem_mem h0)))
  have hsv := hid (sortV_of l)
  have huq : Hid (uniq l = cpt (sortV l)) := rfl
  obtain ⟨F, hFF⟩ : ∃ F, Hid (dictB l = F) := ⟨_, rfl⟩
  rw [hFF.out] at hF ⊢
  obtain ⟨u, hu⟩ : ∃ u, Hid (uniq l = u) := ⟨_, rfl⟩
  rw [hu.out] at hF hul hum hur hu0 huq
  have hr' := hid hr
  clear ha hr hFF
  go_enter Tryz.func66, Tryz.ntmps66
  go_wp2_with fail
  refine cC.mono ?_
  rintro e w1 ⟨a1, c1, rfl, hrow1, k1, hn1⟩
  obtain ⟨g1, o1, rfl, hg1⟩ : ∃ g1 o1, a1 = some ⟨g1, o1, none⟩ ∧ w.heap.size ≤ g1 := by
    rcases hrow1 with ⟨e, e2⟩ | ⟨g9, o9, c9, e, _⟩
    · rw [e2] at h0; simp at h0
    · injection e with e1 e2 e3
      exact ⟨g9, o9, e1, hn1 g9 (by rw [e1]; simp [blk])⟩
  obtain ⟨_, _, ee, _, _, hlc, hcm, _⟩ := hrow1.see
  injection ee with e1 e2 e3
  subst e3
  have cS := cSortV g1 o1 c1 l w1 hrow1 (by omega)
  clear hn1 hrow1 e1 e2 cC
  go_wp2_with fail
  refine cS.mono ?_
  rintro e w2 ⟨rfl, k2, s, hp, hso, hrow2⟩
  have hse := hsv.out s hr'.out hp hso
  have hslen : s.length = l.length := hp.length_eq
  have cK := cCompactV g1 o1 c1 s w2 hrow2 (by omega) (by omega) hcm
  rw [hse, ← huq.out, ← hse, hslen] at cK
  have kw2 : Kp [] w w2 := k1.trans k2 (fun k hk => .inr (by simp at hk; omega))
  clear hrow2 cS hsv hp hso hse hslen
  go_wp2_with fail
  refine cK.mono ?_
  rintro e w3 ⟨rfl, hrow3, k3⟩
  have kw3 : Kp [] w w3 := kw2.trans k3 (fun k hk => .inr (by simp at hk; omega))
  obtain ⟨i0, hi, hz0, hz1, hz2⟩ := infoU64
  obtain ⟨W1, hmk, hrowm, km, hs1⟩ := run_makeG (E := U64E) (P := Tryz.prog) w3 136 62 i0 (.int .u64 0) 0 8 Tryz.underlying136 hi hz0 hz1 hz2 rfl .i64 .i64 l.length (by omega) (by unfold maxLen; omega)
  obtain ⟨q, hq⟩ : ∃ q, Hid (w3.heap.size = q) := ⟨_, rfl⟩
  have hg3 : g1 < w3.heap.size := hrow3.lt g1 (by simp [own, Value.ownBlock])
  rw [hq.out] at hmk hrowm hg3
  have hqw : w.heap.size ≤ q := by rw [← hq.out]; exact kw3.size
  have R1 : Hid (U64E.Row W1 (.slice (some ⟨q, 0, none⟩) l.length l.length) (plcs u l 0 ++ List.replicate (l.length - 0) 0) ∧ VE.Row W1 (.slice (some ⟨g1, o1, none⟩) u.length c1) u ∧ Kp [] w W1) := ⟨by simpa [plcs] using hrowm, hrow3.keptNew km, kw3.trans km (by simp)⟩
  clear hrowm km hs1 kw3 hrow3 k3 kw2 k2 k1 cK
  go_wp2_with fail
  go_loopw [18] (fun i wn => ∃ j : Nat, j ≤ l.length ∧ i = .int .i64 j ∧ U64E.Row wn (.slice (some ⟨q, 0, none⟩) l.length l.length) (plcs u l j ++ List.replicate (l.length - j) 0) ∧ VE.Row wn (.slice (some ⟨g1, o1, none⟩) u.length c1) u ∧ Kp [] w wn) (fun i _ => l.length - (intOf i).toNat)
  case atStart => exact ⟨0, Nat.zero_le _, rfl, R1.out.1, R1.out.2.1, R1.out.2.2⟩
  case round =>
    clear hmk R1
    obtain ⟨j, hj, rfl, hrow, hrowu, kn⟩ := hrel
    by_cases hlt : j < l.length
    · obtain ⟨y0, y1, y2, y3⟩ := hat.out wr kn j hlt
      have hmem : l.getD j nv ∈ u := hum.out _ (by simp [hlt])
      obtain ⟨v, hv⟩ : ∃ v, Hid (l.getD j nv = v) := ⟨_, rfl⟩
      have hps := hid (plcs_succ u l j)
      rw [hv.out] at y0 y1 y2 y3 hmem hps
      have hpl := plcs_length u l j
      have hixb := (idxV_mem u v hmem).1
      obtain ⟨wb, hwb⟩ : ∃ wb, wr.alloc (.cells #[.int .i64 v.k, .bool v.b, .int .i64 v.n, .string v.t] 30) = wb := ⟨_, rfl⟩
      have kb : Kp [] wr wb := by rw [← hwb]; exact (Kp.refl _ _).alloc _
      have bx : Box4 wb wr.heap.size (.int .i64 v.k) (.bool v.b) (.int .i64 v.n) (.string v.t) := by rw [← hwb]; exact Box4.new _ _ _ _ _ _
      have p0 := bx.c0; have p1 := bx.c1; have p2 := bx.c2; have p3 := bx.c3
      have cI := cIndexV g1 o1 c1 u v wb (hrowu.keptNew kb) hmem (by omega)
      obtain ⟨I, hI⟩ : ∃ I, Hid (idxV u v = I) := ⟨_, rfl⟩
      rw [hI.out] at cI hixb hps
      have hnext : Hid (∀ W, Kp [] wb W → (∃ x, W.cell? ⟨q, j, none⟩ = some x) ∧ W.frozen? ⟨q, j, none⟩ = false ∧ U64E.Row (W.setCell ⟨q, j, none⟩ (.int .u64 (I : Int))) (.slice (some ⟨q, 0, none⟩) l.length l.length) (plcs u l (j + 1) ++ List.replicate (l.length - (j + 1)) 0) ∧ VE.Row (W.setCell ⟨q, j, none⟩ (.int .u64 (I : Int))) (.slice (some ⟨g1, o1, none⟩) u.length c1) u ∧ Kp [] w (W.setCell ⟨q, j, none⟩ (.int .u64 (I : Int)))) := fun W kW => by
        have kA : Kp [] wr W := kb.trans kW (by simp)
        have hrW := hrow.keptNew kA
        have hal' : (plcs u l j ++ List.replicate (l.length - j) 0).length = l.length := by simp [hpl]; omega
        have hput := hrW.setAt j (by rw [hal']; exact hlt) I
        have e1 : (plcs u l j ++ List.replicate (l.length - j) 0).set j I = plcs u l (j + 1) ++ List.replicate (l.length - (j + 1)) 0 := by
          have := set_app (plcs u l j) 0 I (l.length - (j + 1))
          rw [hpl, show l.length - (j + 1) + 1 = l.length - j by omega] at this
          rw [this, hps.out]
        rw [e1] at hput
        have eW : W.setCells q (0 + j * U64E.n) (U64E.c I) = W.setCell ⟨q, j, none⟩ (.int .u64 (I : Int)) := by
          have : U64E.n = 1 := rfl
          rw [this]
          simp [U64E, World.setCells]
        rw [eW] at hput
        have kS : Kp [q] W (W.setCell ⟨q, j, none⟩ (.int .u64 (I : Int))) := (Kp.refl _ _).setCell (p := ⟨q, j, none⟩) (.inl (by simp)) _
        have hcf : (∃ x, W.cell? ⟨q, j, none⟩ = some x) ∧ W.frozen? ⟨q, j, none⟩ = false := by
          rcases hrW with ⟨e, _⟩ | ⟨g9, o9, c9, e, q1, q2, q3, q4, q5⟩
          · cases e
          · injection e with e1 e2 e3
            injection e1 with e1
            injection e1 with e4 e5
            subst e3 e4 e5
            have h5 := q5 j (by have : U64E.n = 1 := rfl; rw [this]; omega)
            rw [Nat.zero_add] at h5
            exact ⟨Option.isSome_iff_exists.1 h5.1, h5.2⟩
        refine ⟨hcf.1, hcf.2, hput, (hrowu.keptNew kA).kept kS (fun k hk => ?_), (kn.trans kA (by simp)).trans kS (fun k hk => .inr (by simp at hk; omega))⟩
        simp [own, Value.ownBlock] at hk
        simp; omega
      obtain ⟨vk, vb, vn, vt⟩ := v
      unfold Val.v at cI
      dsimp only at *
      clear hrow hrowu bx kb hps hmem
      go_wp2_with fail
      refine cI.mono ?_
      rintro e W ⟨rfl, kW⟩
      obtain ⟨⟨x, hx⟩, hfz, hN⟩ := hnext.out W kW
      have hN' := hid hN
      clear hN hnext
      go_wp2_with fail
      exact ⟨⟨j + 1, by omega, by go_num, hN'.out.1, hN'.out.2.1, hN'.out.2.2⟩, by simp [intOf]; omega⟩
    · obtain rfl : j = l.length := by omega
      rw [Nat.sub_self, List.replicate_zero, List.append_nil] at hrow
      have hplt : Hid (∀ x ∈ plcs u l l.length, x < 18446744073709551616) := fun x hx => by
        simp only [plcs, List.mem_map, List.mem_range] at hx
        obtain ⟨k, hk, rfl⟩ := hx
        have := (idxV_mem u (l.getD k nv) (hum.out _ (by simp [hk]))).1
        omega
      have hpl := plcs_length u l l.length
      have hwb := bitLen_le64 (u.length - 1)
      obtain ⟨wd, hwd⟩ : ∃ wd, Hid (Lib.bitLen (u.length - 1) = wd) := ⟨_, rfl⟩
      obtain ⟨ps, hps⟩ : ∃ ps, Hid (plcs u l l.length = ps) := ⟨_, rfl⟩
      rw [hwd.out] at hwb
      rw [hwd.out, hps.out] at hF
      rw [hps.out] at hrow hplt hpl
      have hpB := packB_length ps wd
      have hpB2 : ps.length * wd ≤ 64 * 64 := Nat.mul_le_mul (by omega) hwb
      have hfl : (u.flatMap rowB).length ≤ 100000 := by
        have := flat_length (f := rowB) (m := 66) (fun x hx => rowB_length hx) u hur.out
        omega
      have cW : Hid (∀ W, Calls Tryz.prog 109 #[.int .i64 u.length] W fun e w' => e = .returned (.int .i64 (wd : Int)) ∧ w' = W) := fun W => by
        have := cPlaceWidth u.length hu0 (by omega) W
        rw [hwd.out] at this
        exact this
      have hP : Hid (∀ Y, wr.alloc (.cells #[.int .u8 (u.length : Int)] 5) = Y → Kp [] wr Y ∧ Calls Tryz.prog 68 #[.slice (some ⟨g1, o1, none⟩) u.length c1] Y (NB (u.flatMap rowB) Y)) := fun Y hY => by
        have kY : Kp [] wr Y := by rw [← hY]; exact (Kp.refl _ _).alloc _
        obtain ⟨_, _, es, hs, _⟩ := (hrowu.keptNew kY).see
        injection es with e1 e2 e3
        have := cPutPlain (some ⟨g1, o1, none⟩) c1 u Y (seeV.1 (by rw [e1]; exact hs)) hur.out (by omega)
        exact ⟨kY, this⟩
      have hK : Hid (∀ Y, Kp [] wr Y → Calls Tryz.prog 108 #[.slice (some ⟨q, 0, none⟩) l.length l.length, .int .i64 wd] Y (NB (packB ps wd) Y)) := fun Y kY => by
        obtain ⟨_, _, es, hs, _⟩ := (hrow.keptNew kY).see
        injection es with e1 e2 e3
        have := cPack (some ⟨q, 0, none⟩) l.length ps wd Y (by rw [e1]; exact hs) (by omega) hplt.out hwb
        rw [hpl] at this
        exact this
      obtain ⟨UB, hUB⟩ : ∃ UB, Hid (u.flatMap rowB = UB) := ⟨_, rfl⟩
      obtain ⟨PB, hPB⟩ : ∃ PB, Hid (packB ps wd = PB) := ⟨_, rfl⟩
      rw [hUB.out] at hfl hF
      rw [hPB.out] at hpB hF
      simp only [hUB.out] at hP
      simp only [hPB.out] at hK
      have hend : Hid (∀ Y Z1 Z V b2 c2 b3 c3, wr.alloc (.cells #[.int .u8 (u.length : Int)] 5) = Y → Kp [] Y Z1 → Row Z1 (.slice b2 UB.length c2) UB → Kp [] Z1 Z → Row Z (.slice b3 PB.length c3) PB → Z.alloc (.cells #[.slice (some ⟨wr.heap.size, 0, none⟩) 1 1, .slice b2 UB.length c2, .slice b3 PB.length c3] 22) = V →
          Kp [] w V ∧ Calls Tryz.prog 100 #[.slice (some ⟨Z.heap.size, 0, none⟩) 3 3] V (NB F V)) := fun Y Z1 Z V b2 c2 b3 c3 hY kZ1 hr2 kZ hr3 hV => by
        have kY : Kp [] wr Y := by rw [← hY]; exact (Kp.refl _ _).alloc _
        have kV : Kp [] Z V := by rw [← hV]; exact (Kp.refl _ _).alloc _
        obtain ⟨_, _, e2, hs2, _⟩ := hr2.sees
        cases e2
        obtain ⟨_, _, e3, hs3, _⟩ := hr3.sees
        cases e3
        have hs1 : Sees Y (some ⟨wr.heap.size, 0, none⟩) [octet u.length] := by rw [← hY]; exact oneByte wr rfl u.length (by have := octet_toNat (u.length : Int) (by omega) (by omega); omega) _
        have h3 : BsE.See V (some ⟨Z.heap.size, 0, none⟩) [⟨some ⟨wr.heap.size, 0, none⟩, 1, [octet u.length]⟩, ⟨b2, c2, UB⟩, ⟨b3, c3, PB⟩] := by rw [← hV]; exact threeBs Z rfl ⟨some ⟨wr.heap.size, 0, none⟩, 1, [octet u.length]⟩ ⟨b2, c2, UB⟩ ⟨b3, c3, PB⟩ _
        have hj := cJoin (some ⟨Z.heap.size, 0, none⟩) 3 [⟨some ⟨wr.heap.size, 0, none⟩, 1, [octet u.length]⟩, ⟨b2, c2, UB⟩, ⟨b3, c3, PB⟩] V h3 (fun x hx => by
          simp only [List.mem_cons, List.not_mem_nil, or_false] at hx
          rcases hx with rfl | rfl | rfl
          · exact hs1.kept (kZ1.trans (kZ.trans kV (by simp)) (by simp)) (by simp)
          · exact hs2.kept (kZ.trans kV (by simp)) (by simp)
          · exact hs3.kept kV (by simp)) (by simp) (by simp [flatB, hpB]; omega)
        have eF : flatB [⟨some ⟨wr.heap.size, 0, none⟩, 1, [octet u.length]⟩, ⟨b2, c2, UB⟩, ⟨b3, c3, PB⟩] = F := by rw [hF.out]; simp [flatB]
        rw [eF] at hj
        exact ⟨kn.trans (kY.trans (kZ1.trans (kZ.trans kV (by simp)) (by simp)) (by simp)) (by simp), hj⟩
      clear hrow hrowu hF hfl hpB hpB2 hplt hpl hum hur hat
      obtain ⟨Y, hY⟩ : ∃ Y, wr.alloc (.cells #[.int .u8 (u.length : Int)] 5) = Y := ⟨_, rfl⟩
      obtain ⟨kY, cP⟩ := hP.out Y hY
      have he2 : Hid (∀ Z1 Z V b2 c2 b3 c3, Kp [] Y Z1 → Row Z1 (.slice b2 UB.length c2) UB → Kp [] Z1 Z → Row Z (.slice b3 PB.length c3) PB → Z.alloc (.cells #[.slice (some ⟨wr.heap.size, 0, none⟩) 1 1, .slice b2 UB.length c2, .slice b3 PB.length c3] 22) = V → Kp [] w V ∧ Calls Tryz.prog 100 #[.slice (some ⟨Z.heap.size, 0, none⟩) 3 3] V (NB F V)) := fun Z1 Z V b2 c2 b3 c3 => hend.out Y Z1 Z V b2 c2 b3 c3 hY
      clear hP hend
      go_wp2_with fail
      refine cP.mono ?_
      rintro e Z1 ⟨b2, c2, rfl, hr2, kZ1, hn2⟩
      have cK := hK.out Z1 (kY.trans kZ1 (by simp))
      have cW' := cW.out Z1
      have he3 : Hid (∀ Z V b3 c3, Kp [] Z1 Z → Row Z (.slice b3 PB.length c3) PB → Z.alloc (.cells #[.slice (some ⟨wr.heap.size, 0, none⟩) 1 1, .slice b2 UB.length c2, .slice b3 PB.length c3] 22) = V → Kp [] w V ∧ Calls Tryz.prog 100 #[.slice (some ⟨Z.heap.size, 0, none⟩) 3 3] V (NB F V)) := fun Z V b3 c3 => he2.out Z1 Z V b2 c2 b3 c3 kZ1 hr2
      clear hr2 he2 cP hK cW
      go_wp2_with fail
      refine cW'.mono ?_
      rintro e Z9 ⟨rfl, hZ9⟩
      rw [hZ9]
      clear hZ9 Z9 cW'
      go_wp2_with fail
      refine cK.mono ?_
      rintro e Z ⟨b3, c3, rfl, hr3, kZ, hn3⟩
      obtain ⟨V, hV⟩ : ∃ V, Z.alloc (.cells #[.slice (some ⟨wr.heap.size, 0, none⟩) 1 1, .slice b2 UB.length c2, .slice b3 PB.length c3] 22) = V := ⟨_, rfl⟩
      obtain ⟨kV, cJ⟩ := he3.out Z V b3 c3 kZ hr3 hV
      clear hr3 he3 cK
      go_wp2_with fail
      refine cJ.mono ?_
      rintro e U ⟨b4, c4, rfl, hr4, kU, hn4⟩
      go_wp2_with fail
      go_ret
      exact ⟨b4, c4, rfl, hr4, kV.trans kU (by simp), fun k hk => by have := hn4 k hk; have := kV.size; omega⟩
end Go.Proofs.YtohbdbecioanaaaGreatDoor
end

section
namespace Go.Proofs.YtohbdbecioanaaaGreatDoor
open Go.RowKit Go.Hay
set_option linter.unusedVariables false
set_option linter.unusedSimpArgs false

/-- The bytes in a kind. -/
def putB (k : Int) (l : List Val) : List UInt8 := if k = 1 then (runsV l).flatMap runB else if k = 2 then deltaB l else if k = 3 then dictB l else if k = 4 then bitsB l else l.flatMap rowB
set_option maxHeartbeats 2000000 in
theorem cPut (k : Int) (a : Option Addr) (ca : Nat) (l : List Val) (w : World) (ha : Vals w a l) (hc : l.length ≤ ca) (hm : ca ≤ maxLen) (hr : allR l = true) (h0 : 0 < l.length) (hl : l.length ≤ 64) :
    Calls Tryz.prog 36 #[.int .i64 k, .slice a l.length ca] w (NB (putB k l) w) := by
  have c1 := cPutRuns a ca l w ha hc hm hr hl
  have c2 := cPutDelta a ca l w ha hc hm h0 hl
  have c3 := cPutDict a ca l w ha hr h0 hl
  have c4 := cPutBits a ca l w ha hc hm h0 hl
  have c0 := cPutPlain a ca l w ha hr hl
  have hB : Hid (putB k l = if k = 1 then (runsV l).flatMap runB else if k = 2 then deltaB l else if k = 3 then dictB l else if k = 4 then bitsB l else l.flatMap rowB) := rfl
  obtain ⟨F, hF⟩ : ∃ F, Hid (putB k l = F) := ⟨_, rfl⟩
  rw [hF.out] at hB ⊢
  clear ha hm hc hr
  by_cases h1 : k = 1
  · have e : Hid ((runsV l).flatMap runB = F) := by show _ = _; rw [hB.out, if_pos h1]
    rw [e.out] at c1
    subst h1
    clear hB hF e c0 c2 c3 c4
    go_enter Tryz.func36, Tryz.ntmps36
    go_wp2_with fail
    refine c1.mono ?_
    rintro e w3 ⟨b3, c3, rfl, hrow3, k3, hn3⟩
    go_wp2_with fail
    go_ret
    exact ⟨b3, c3, rfl, hrow3, k3, hn3⟩
  by_cases h2 : k = 2
  · have e : Hid (deltaB l = F) := by show _ = _; rw [hB.out, if_neg h1, if_pos h2]
    rw [e.out] at c2
    subst h2
    clear hB hF e c0 c1 c3 c4 h1
    go_enter Tryz.func36, Tryz.ntmps36
    go_wp2_with fail
    refine c2.mono ?_
    rintro e w3 ⟨b3, c3, rfl, hrow3, k3, hn3⟩
    go_wp2_with fail
    go_ret
    exact ⟨b3, c3, rfl, hrow3, k3, hn3⟩
  by_cases h3 : k = 3
  · have e : Hid (dictB l = F) := by show _ = _; rw [hB.out, if_neg h1, if_neg h2, if_pos h3]
    rw [e.out] at c3
    subst h3
    clear hB hF e c0 c1 c2 c4 h1 h2
    go_enter Tryz.func36, Tryz.ntmps36
    go_wp2_with fail
    refine c3.mono ?_
    rintro e w3 ⟨b3, c3, rfl, hrow3, k3, hn3⟩
    go_wp2_with fail
    go_ret
    exact ⟨b3, c3, rfl, hrow3, k3, hn3⟩
  by_cases h4 : k = 4
  · have e : Hid (bitsB l = F) := by show _ = _; rw [hB.out, if_neg h1, if_neg h2, if_neg h3, if_pos h4]
    rw [e.out] at c4
    subst h4
    clear hB hF e c0 c1 c2 c3 h1 h2 h3
    go_enter Tryz.func36, Tryz.ntmps36
    go_wp2_with fail
    refine c4.mono ?_
    rintro e w3 ⟨b3, c3, rfl, hrow3, k3, hn3⟩
    go_wp2_with fail
    go_ret
    exact ⟨b3, c3, rfl, hrow3, k3, hn3⟩
  · have e : Hid (l.flatMap rowB = F) := by show _ = _; rw [hB.out, if_neg h1, if_neg h2, if_neg h3, if_neg h4]
    rw [e.out] at c0
    have d1 : (k == 1) = false := by simpa using h1
    have d2 : (k == 2) = false := by simpa using h2
    have d3 : (k == 3) = false := by simpa using h3
    have d4 : (k == 4) = false := by simpa using h4
    clear hB hF e c1 c2 c3 c4
    go_enter Tryz.func36, Tryz.ntmps36
    go_wp2_with fail
    refine c0.mono ?_
    rintro e w3 ⟨b3, c3, rfl, hrow3, k3, hn3⟩
    go_wp2_with fail
    go_ret
    exact ⟨b3, c3, rfl, hrow3, k3, hn3⟩
/-- What Encode writes. -/
def encR (k : Int) (l : List Val) : List UInt8 := if refE k l = 0 ∧ 0 < l.length then putB k l else []
def EncP (k : Int) (l : List Val) (w : World) (e : Ending) (w' : World) : Prop := ∃ b c, e = .returned (.tuple #[.slice b (encR k l).length c, .int .i64 (refE k l)]) ∧ Row w' (.slice b (encR k l).length c) (encR k l) ∧ Kp [] w w' ∧ ∀ k ∈ blk b, w.heap.size ≤ k
theorem refE_ok {k : Int} {l : List Val} (h : refE k l = 0) : knownB k = true ∧ l.length ≤ 64 ∧ allR l = true := by
  unfold refE at h
  split at h
  · cases h
  · rename_i h1
    split at h
    · cases h
    · rename_i h2
      split at h
      · cases h
      · rename_i h3
        exact ⟨by simpa using h1, by omega, by simpa using h3⟩
set_option maxHeartbeats 2000000 in
theorem cEncE (k : Int) (a : Option Addr) (ca : Nat) (l : List Val) (w : World) (ha : Vals w a l) (hc : l.length ≤ ca) (hm : ca ≤ maxLen) :
    Calls Tryz.prog 16 #[.int .i64 k, .slice a l.length ca] w (EncP k l w) := by
  have hlm : l.length ≤ 9223372036854775807 := by unfold maxLen at hm; omega
  have cR := cRefusedE k a ca l w ha hlm
  have hE : Hid (EncP k l w = fun e w' => ∃ b c, e = .returned (.tuple #[.slice b (encR k l).length c, .int .i64 (refE k l)]) ∧ Row w' (.slice b (encR k l).length c) (encR k l) ∧ Kp [] w w' ∧ ∀ k ∈ blk b, w.heap.size ≤ k) := rfl
  rw [hE.out]
  have hR : Hid (encR k l = if refE k l = 0 ∧ 0 < l.length then putB k l else []) := rfl
  have hok := hid (refE_ok (k := k) (l := l))
  obtain ⟨E, hEE⟩ : ∃ E, Hid (refE k l = E) := ⟨_, rfl⟩
  obtain ⟨R, hRR⟩ : ∃ R, Hid (encR k l = R) := ⟨_, rfl⟩
  rw [hEE.out] at cR hR hok
  rw [hRR.out] at hR
  rw [hEE.out, hRR.out]
  have ha' := hid ha
  have hm' := hid hm
  clear hE ha hm
  go_enter Tryz.func16, Tryz.ntmps16
  go_wp2_with fail
  refine cR.mono ?_
  rintro e w1 ⟨rfl, k1⟩
  by_cases h0 : E = 0
  · subst h0
    obtain ⟨_, hl64, hall⟩ := hok.out rfl
    by_cases hl0 : l.length = 0
    · have hRe : R = [] := by rw [hR.out, if_neg (by omega)]
      subst hRe
      rw [hl0] at *
      clear hR hRR cR
      go_wp2_with fail
      go_ret2
      exact ⟨none, 0, rfl, .inl ⟨rfl, rfl⟩, k1, by simp [blk]⟩
    · have hRe : Hid (putB k l = R) := by show _ = _; rw [hR.out, if_pos ⟨rfl, by omega⟩]
      have cP := cPut k a ca l w1 (ha'.out.kept k1) hc hm'.out hall (by omega) hl64
      rw [hRe.out] at cP
      have hd0 : ((l.length : Int) == 0) = false := by rw [beq_eq_false_iff_ne]; omega
      clear hR hRR hRe cR hall ha'
      go_wp2_with fail
      refine cP.mono ?_
      rintro e w3 ⟨b3, c3, rfl, hrow3, k3, hn3⟩
      go_wp2_with fail
      go_ret2
      exact ⟨b3, c3, rfl, hrow3, k1.trans k3 (by simp), fun k hk => by have := hn3 k hk; have := k1.size; omega⟩
  · have hRe : R = [] := by rw [hR.out, if_neg (fun h => h0 h.1)]
    subst hRe
    have d0 : (E != 0) = true := by simpa using h0
    have d1 : (E == 0) = false := by simpa using h0
    clear hR hRR cR hok
    go_wp2_with fail
    go_ret2
    exact ⟨none, 0, rfl, .inl ⟨rfl, rfl⟩, k1, by simp [blk]⟩
end Go.Proofs.YtohbdbecioanaaaGreatDoor
end

section
namespace Go.Proofs.YtohbdbecioanaaaGreatDoor
open Go.RowKit Go.Hay
set_option linter.unusedVariables false
set_option linter.unusedSimpArgs false

/-- The best of the first kinds, and how many bytes it takes (-1: none yet). -/
def bT (l : List Val) : Nat → Int × Int
  | 0 => (0, -1)
  | k + 1 => if refE k l = 0 ∧ ((bT l k).2 < 0 ∨ ((encR k l).length : Int) < (bT l k).2) then ((k : Int), ((encR k l).length : Int)) else bT l k
def bestV (l : List Val) : Int := (bT l 5).1
set_option maxHeartbeats 4000000 in
set_option maxRecDepth 100000 in
theorem cBest (a : Option Addr) (ca : Nat) (l : List Val) (w : World) (ha : Vals w a l) (hc : l.length ≤ ca) (hm : ca ≤ maxLen) :
    Calls Tryz.prog 15 #[.slice a l.length ca] w fun e w' => e = .returned (.int .i64 (bestV l)) ∧ Kp [] w w' := by
  have hE : Hid (∀ (k : Int) W, Kp [] w W → Calls Tryz.prog 16 #[.int .i64 k, .slice a l.length ca] W (EncP k l W)) := fun k W kW => cEncE k a ca l W (ha.kept kW) hc hm
  have hB : Hid (bestV l = (bT l 5).1) := rfl
  obtain ⟨F, hF⟩ : ∃ F, Hid (bestV l = F) := ⟨_, rfl⟩
  rw [hF.out] at hB ⊢
  clear ha hm hF hc
  go_enter Tryz.func15, Tryz.ntmps15
  go_wp2_with fail
  go_loopw [3, 4, 5] (fun s3 s4 s5 wn => ∃ k : Nat, k ≤ 5 ∧ s3 = .int .i64 (bT l k).1 ∧ s4 = .int .i64 (bT l k).2 ∧ s5 = .int .i64 k ∧ Kp [] w wn) (fun _ _ s5 _ => 5 - (intOf s5).toNat)
  case atStart => exact ⟨0, by omega, rfl, rfl, rfl, Kp.refl _ _⟩
  case round =>
    obtain ⟨k, hk, rfl, rfl, rfl, kn⟩ := hrel
    have hst : Hid (bT l (k + 1) = if refE k l = 0 ∧ ((bT l k).2 < 0 ∨ ((encR k l).length : Int) < (bT l k).2) then ((k : Int), ((encR k l).length : Int)) else bT l k) := rfl
    obtain ⟨⟨B1, B2⟩, hBT⟩ : ∃ p, Hid (bT l k = p) := ⟨_, rfl⟩
    by_cases hlt : k < 5
    · rw [hBT.out] at hst ⊢
      have cE := hE.out (k : Int) wr kn
      unfold EncP at cE
      obtain ⟨E, hEE⟩ : ∃ E, Hid (refE k l = E) := ⟨_, rfl⟩
      obtain ⟨R, hRR⟩ : ∃ R, Hid (encR k l = R) := ⟨_, rfl⟩
      rw [hEE.out, hRR.out] at hst
      rw [hEE.out, hRR.out] at cE
      dsimp only at hst ⊢
      have hk4 : (k : Int) ≤ 4 := by omega
      go_wp2_with fail
      refine cE.mono ?_
      rintro e w3 ⟨b3, c3, rfl, hrow3, k3, hn3⟩
      have k3' := kn.trans k3 (by simp)
      clear hrow3 hn3 cE k3
      by_cases h0 : E = 0
      · subst h0
        by_cases h1 : B2 < 0
        · have hst2 : Hid (bT l (k + 1) = ((k : Int), (R.length : Int))) := by show _ = _; rw [hst.out, if_pos ⟨rfl, .inl h1⟩]
          clear hst
          go_wp2_with fail
          exact ⟨⟨k + 1, by omega, by rw [hst2.out], by rw [hst2.out], by go_num, k3'⟩, by simp [intOf]; omega⟩
        · by_cases h2 : (R.length : Int) < B2
          · have hst2 : Hid (bT l (k + 1) = ((k : Int), (R.length : Int))) := by show _ = _; rw [hst.out, if_pos ⟨rfl, .inr h2⟩]
            clear hst
            go_wp2_with fail
            exact ⟨⟨k + 1, by omega, by rw [hst2.out], by rw [hst2.out], by go_num, k3'⟩, by simp [intOf]; omega⟩
          · have hst2 : Hid (bT l (k + 1) = (B1, B2)) := by
              show _ = _
              rw [hst.out, if_neg]
              rintro ⟨_, h | h⟩ <;> omega
            clear hst
            go_wp2_with fail
            exact ⟨⟨k + 1, by omega, by rw [hst2.out], by rw [hst2.out], by go_num, k3'⟩, by simp [intOf]; omega⟩
      · have hst2 : Hid (bT l (k + 1) = (B1, B2)) := by
          show _ = _
          rw [hst.out, if_neg (fun h => h0 h.1)]
        have d1 : (E == 0) = false := by simpa using h0
        clear hst
        go_wp2_with fail
        exact ⟨⟨k + 1, by omega, by rw [hst2.out], by rw [hst2.out], by go_num, k3'⟩, by simp [intOf]; omega⟩
    · obtain rfl : k = 5 := by omega
      rw [← hB.out]
      clear hst hBT
      go_wp2_with fail
      go_ret
      exact ⟨rfl, kn⟩
end Go.Proofs.YtohbdbecioanaaaGreatDoor
end

/- ExecRejoins (second form): two projections' versions are put together by their rows' names as the document says, where what is given is of bulk at most 1048576. -/
import Derived.Test.YtfolkjjhlcjfgaaB2
import Derived.Test.YtfolkjjhlcjfgaaB6
import Derived.Test.YtfolkjjhlcjfgaaB4
import Derived.Below
import Derived.Test.YtfolkjjhlcjfgaaRows
import Derived.Test.YtfolkjjhlcjfgaaB1
import Derived.ProofKit
import Derived.OpenShut
import Derived.ShutString
import Derived.ChangeOld
import Derived.Deep.Slices
import Derived.Maps.OwnSet
import Derived.Test.YtfolkjjhlcjfgaaB10
import Derived.SizedLaws
import Derived.JoinedCond
import Derived.Deep.CondSized
section
namespace Go.Proofs.Ytfolkjjhlcjfgaa
open Go.RowKit Go.Hay
set_option linter.unusedVariables false
set_option linter.unusedSimpArgs false

/-- A version. -/
structure Vr where
  e : Int
  n : Int
  a : Option Addr
  c : Nat
  l : List Val
  d : Int
instance : Inhabited Vr := ⟨⟨0, 0, none, 0, [], 0⟩⟩
def Vr.v (x : Vr) : Value := .agg #[.int .u64 x.e, .int .u32 x.n, .slice x.a x.l.length x.c, .int .u64 x.d]
def VrE : El Vr where
  n := 4
  c x := [.int .u64 x.e, .int .u32 x.n, .slice x.a x.l.length x.c, .int .u64 x.d]
  len _ := rfl
  one _ u hu := by simp at hu; rcases hu with rfl | rfl | rfl | rfl <;> rfl
  pos := by decide
theorem vrAt {w : World} {a : Option Addr} {l : List Vr} (h : VrE.See w a l) {j : Nat} {x : Vr} (hx : l[j]? = some x) : ∃ g o, a = some ⟨g, o, none⟩ ∧ w.cell? ⟨g, o + j * 4, none⟩ = some (.int .u64 x.e) ∧ w.cell? ⟨g, o + j * 4 + 1, none⟩ = some (.int .u32 x.n) ∧ w.cell? ⟨g, o + j * 4 + 2, none⟩ = some (.slice x.a x.l.length x.c) ∧ w.cell? ⟨g, o + j * 4 + 3, none⟩ = some (.int .u64 x.d) := by
  obtain ⟨g, o, rfl, hc⟩ := h.at hx
  exact ⟨g, o, rfl, hc 0 _ rfl, hc 1 _ rfl, hc 2 _ rfl, hc 3 _ rfl⟩
end Go.Proofs.Ytfolkjjhlcjfgaa
end

section
namespace Go.Proofs.Ytfolkjjhlcjfgaa
open Go.RowKit Go.Hay
attribute [local go_sem] Oper.semAt_some
set_option linter.unusedVariables false
set_option linter.unusedSimpArgs false

theorem eqI (a b c d : Int) (w : World) : (binOp .eql 85 (.agg #[.int .u64 a, .int .u32 b]) (.agg #[.int .u64 c, .int .u32 d])).run Try.prog w = .ok (.bool (decide ((a, b) = (c, d)))) w := by
  rw [run_eql_struct, run_equalIn_agg (ht := by kernel_rfl) (hp := by kernel_rfl)]
  by_cases h1 : a = c
  · by_cases h2 : b = d
    · simp [go_sem, h1, h2]
    · simp [go_sem, h1, h2]
  · simp [go_sem, h1]
abbrev Vr.r (x : Vr) : Vs := ⟨x.a, x.c, x.l⟩
def Vr.pr (x : Vr) : Int × Int × List Val × Int := (x.e, x.n, x.l, x.d)
structure Vr.lies (w : World) (x : Vr) : Prop where
  r : x.r.lies w
  e : 0 ≤ x.e ∧ x.e < 18446744073709551616
  n : 0 ≤ x.n ∧ x.n < 4294967296
theorem Vr.lies.ck {P : Nat → Prop} {X Y : World} {x : Vr} (hx : Vr.lies X x) (h : CK P X Y) (hP : ∀ k ∈ blk x.a, P k) : Vr.lies Y x := ⟨hx.r.ck h hP, hx.e, hx.n⟩
/-- Versions that were gathered: all blocks from N on, their rows apart from the row of versions. -/
structure Lov (N : Nat) (ra : Option Addr) (rc : Nat) (L : List Vr) (W : World) : Prop where
  row : VrE.Row W (.slice ra L.length rc) L
  lies : ∀ x ∈ L, Vr.lies W x
  own : ∀ k ∈ blk ra, N ≤ k
  rows : ∀ x ∈ L, ∀ k ∈ blk x.a, N ≤ k ∧ k < W.heap.size ∧ k ∉ blk ra
theorem Lov.nil (N : Nat) (W : World) : Lov N none 0 [] W := ⟨.inl ⟨rfl, rfl⟩, by simp, by simp [blk], by simp⟩
theorem Lov.ck {N : Nat} {ra : Option Addr} {rc : Nat} {L : List Vr} {P : Nat → Prop} {X Y : World} (h : Lov N ra rc L X) (k : CK P X Y) (h1 : ∀ k ∈ blk ra, P k) (h2 : ∀ x ∈ L, ∀ k ∈ blk x.a, P k) : Lov N ra rc L Y :=
  ⟨ckRow k h.row h1, fun x hx => (h.lies x hx).ck k (h2 x hx), h.own, fun x hx j hj => ⟨(h.rows x hx j hj).1, Nat.lt_of_lt_of_le (h.rows x hx j hj).2.1 k.1, (h.rows x hx j hj).2.2⟩⟩
theorem Lov.lt {N : Nat} {ra : Option Addr} {rc : Nat} {L : List Vr} {X : World} (h : Lov N ra rc L X) : ∀ k ∈ blk ra, k < X.heap.size := fun k hk => h.row.lt k (by rw [ownV]; exact hk)
theorem Lov.mono {N M : Nat} {ra : Option Addr} {rc : Nat} {L : List Vr} {X : World} (h : Lov N ra rc L X) (hm : M ≤ N) : Lov M ra rc L X :=
  ⟨h.row, h.lies, fun k hk => Nat.le_trans hm (h.own k hk), fun x hx k hk => ⟨Nat.le_trans hm (h.rows x hx k hk).1, (h.rows x hx k hk).2⟩⟩
theorem infoVr : ∃ i : TypeInfo, Try.prog.info? 87 = some i ∧ i.zero = some (.agg #[.int .u64 0, .int .u32 0, .slice none 0 0, .int .u64 0]) ∧ i.size = 4 ∧ i.bytes = 48 := by
  have h : (Try.prog.info? 87).map (fun i => (i.zero, i.size, i.bytes)) = some (some (.agg #[.int .u64 0, .int .u32 0, .slice none 0 0, .int .u64 0]), 4, 48) := by kernel_rfl
  cases e : Try.prog.info? 87 with
  | none => rw [e] at h; cases h
  | some i =>
    rw [e] at h
    simp at h
    exact ⟨i, rfl, h.1, h.2.1, h.2.2⟩
/-- One more row, behind the others. -/
theorem Lov.app {N : Nat} {ra : Option Addr} {rc : Nat} {L : List Vr} {w : World} (h : Lov N ra rc L w) (x : Vr) (hx : Vr.lies w x) (hN : N ≤ w.heap.size) (hb : ∀ k ∈ blk x.a, N ≤ k ∧ k < w.heap.size ∧ k ∉ blk ra) (hl : L.length ≤ 4000000000000) :
    ∃ a' c' W', (Builtin.append_ #[54, 54] 54 #[.slice ra L.length rc, .slice (some ⟨w.heap.size, 0, none⟩) 1 1]).run Try.prog (w.alloc (.cells #[.int .u64 x.e, .int .u32 x.n, .slice x.a x.l.length x.c, .int .u64 x.d] 87)) = .ok (.slice a' (L ++ [x]).length c') W' ∧ Lov N a' c' (L ++ [x]) W' ∧ Kp (blk ra) w W' ∧ ∀ k ∈ blk a', k ∈ blk ra ∨ w.heap.size ≤ k := by
  obtain ⟨A1, hA1⟩ : ∃ A1, w.alloc (.cells #[.int .u64 x.e, .int .u32 x.n, .slice x.a x.l.length x.c, .int .u64 x.d] 87) = A1 := ⟨_, rfl⟩
  have kA1 : Kp [] w A1 := by rw [← hA1]; exact (Kp.refl _ _).alloc _
  have bx1 : Bn A1 w.heap.size (VrE.c x) := by rw [← hA1]; exact Bn.new w (VrE.c x) _
  have hs1 : VrE.See A1 (some ⟨w.heap.size, 0, none⟩) [x] := .inr ⟨w.heap.size, 0, rfl, fun j u hu => by rw [Nat.zero_add]; exact bx1.get j u (by simpa [El.cs] using hu)⟩
  obtain ⟨i0, hi, hz0', hz1', hz2'⟩ := infoVr
  have hsr := hs1.src (P := Try.prog) Try.underlying54 1
  obtain ⟨v', A2, hrun, hrow2, k2, hn2⟩ := run_appendG (E := VrE) (P := Try.prog) A1 54 54 54 87 i0 _ 48 Try.underlying54 hi hz0' hz1' hz2' rfl (.slice ra L.length rc) L (h.row.keptNew kA1) _ [x] hsr (by simp only [List.length_cons, List.length_nil]; omega) (by simp only [List.length_cons, List.length_nil]; omega)
  obtain ⟨a', c', rfl, _⟩ := hrow2.see
  simp only [ownV] at k2 hn2
  rw [hA1]
  have z1 := kA1.size
  have kw : Kp (blk ra) w A2 := (kA1.mono (by simp)).trans k2 (fun j hj => .inl hj)
  have hnew : ∀ k ∈ blk a', k ∈ blk ra ∨ w.heap.size ≤ k := fun k hk => by
    rcases hn2 k hk with e | e
    · exact .inl e
    · exact .inr (by omega)
  have ck := CK.ofKp kw
  refine ⟨a', c', A2, hrun, ⟨hrow2, fun y hy => ?_, fun k hk => ?_, fun y hy k hk => ?_⟩, kw, hnew⟩
  · rcases List.mem_append.1 hy with hy | hy
    · exact (h.lies y hy).ck ck (fun k hk => (h.rows y hy k hk).2.2)
    · rw [List.mem_singleton.1 hy]; exact hx.ck ck (fun k hk => (hb k hk).2.2)
  · rcases hnew k hk with e | e
    · exact h.own k e
    · omega
  · have h0 : N ≤ k ∧ k < w.heap.size ∧ k ∉ blk ra := by
      rcases List.mem_append.1 hy with hy | hy
      · exact h.rows y hy k hk
      · rw [List.mem_singleton.1 hy] at hk; exact hb k hk
    refine ⟨h0.1, Nat.lt_of_lt_of_le h0.2.1 kw.size, fun hm => ?_⟩
    rcases hnew k hm with e | e
    · exact h0.2.2 e
    · omega
/-- Versions joined by their names. -/
def rejO (B : List Vr) (a : Vr) : Option (Int × Int × List Val × Int) := (B.find? fun b => decide ((b.e, b.n) = (a.e, a.n))).map fun b => (a.e, a.n, a.l ++ b.l, a.d)
def rejR (A B : List Vr) : List (Int × Int × List Val × Int) := A.filterMap (rejO B)
theorem rejR_snoc {A B : List Vr} {j : Nat} (h : j < A.length) : rejR (A.take (j + 1)) B = rejR (A.take j) B ++ (rejO B A[j]).toList := by
  unfold rejR
  rw [List.take_succ_eq_append_getElem h, List.filterMap_append]
  cases hc : rejO B A[j] <;> simp [hc]
def LovP (R : List (Int × Int × List Val × Int)) (w : World) (e : Ending) (w' : World) : Prop := ∃ ra rc L, e = .returned (.slice ra L.length rc) ∧ Lov w.heap.size ra rc L w' ∧ L.map Vr.pr = R ∧ Kp [] w w'
set_option maxHeartbeats 4000000 in
set_option maxRecDepth 100000 in
theorem rJoined (a b : Option Addr) (ca cb : Nat) (l m : List Val) (w : World) (ha : Vals w a l) (hb : Vals w b m) (hl : l.length + m.length ≤ 3600000000000) :
    Calls Try.prog 39 #[.slice a l.length ca, .slice b m.length cb] w (NewR (l ++ m) w) := by
  obtain ⟨X1, hX1⟩ : ∃ X1, w.alloc (.cells #[] 51) = X1 := ⟨_, rfl⟩
  have kX1 : Kp [] w X1 := by rw [← hX1]; exact (Kp.refl _ _).alloc _
  have hr0 : VE.Row X1 (.slice (some ⟨w.heap.size, 0, none⟩) 0 0) [] := by
    refine .inr ⟨w.heap.size, 0, 0, rfl, Nat.le_refl _, Nat.zero_le _, by rw [← hX1]; simp, fun j u hu => by simp [El.cs] at hu, fun j hj => by omega⟩
  obtain ⟨a5, c5, X2, hrun1, hrow5, kk5, hn5⟩ := appVY (l := []) hr0 a ca l (ha.kept kX1) (by simp; omega)
  rw [List.nil_append] at hrun1 hrow5
  have hb1 : blk (some (⟨w.heap.size, 0, none⟩ : Addr)) = [w.heap.size] := rfl
  have kX2 : Kp [] w X2 := kX1.trans kk5 (fun q hq => .inr (by rw [hb1] at hq; simp at hq; omega))
  have hn5' : ∀ q ∈ blk a5, w.heap.size ≤ q := fun q hq => by
    rcases hn5 q hq with h | h
    · rw [hb1] at h; simp at h; omega
    · have := kX1.size; omega
  obtain ⟨a6, c6, X3, hrun2, hrow6, kk6, hn6⟩ := appVY hrow5 b cb m (hb.kept kX2) (by omega)
  have kX3 : Kp [] w X3 := kX2.trans kk6 (fun q hq => .inr (hn5' q hq))
  have hn6' : ∀ q ∈ blk a6, w.heap.size ≤ q := fun q hq => by
    rcases hn6 q hq with h | h
    · exact hn5' q h
    · have := kX2.size; omega
  obtain ⟨z, hz⟩ : ∃ z, Hid (l ++ m = z) := ⟨_, rfl⟩
  rw [hz.out] at hrun2 hrow6 ⊢
  have hrow' := hid hrow6
  clear ha hb hr0 hrow5 kk5 hn5 hrow6 kk6 hn6
  simp only [List.length_nil] at hrun1
  go_enter Try.func39, Try.ntmps39
  go_wp2_with (first | (refine wpAppRunY rfl _ _ 24 24 rfl _ _ _ rfl rfl hrun1 ?_) | (refine wpAppRunY rfl _ _ 24 24 rfl _ _ _ rfl rfl hrun2 ?_) | fail)
  go_ret
  exact ⟨a6, c6, rfl, hrow'.out, kX3, hn6'⟩
set_option maxHeartbeats 8000000 in
set_option maxRecDepth 100000 in
theorem cSameVer (x y : Vr) (w : World) (hx : Vr.lies w x) (hy : Vr.lies w y) (he : x.pr = y.pr) : Calls Try.prog 54 #[x.v, y.v] w fun e w' => e = .returned (.bool true) ∧ Kp [] w w' := by
  obtain ⟨xe, xn, xa, xc, xl, xd⟩ := x
  obtain ⟨ye, yn, ya, yc, yl, yd⟩ := y
  simp only [Vr.pr, Prod.mk.injEq] at he
  obtain ⟨rfl, rfl, rfl, rfl⟩ := he
  simp only [Vr.v]
  obtain ⟨w1, hw1, k1, b1⟩ : ∃ w1, w.alloc (.cells #[.int .u64 xe, .int .u32 xn, .slice xa xl.length xc, .int .u64 xd] 87) = w1 ∧ Kp [] w w1 ∧ Bn w1 w.heap.size [.int .u64 xe, .int .u32 xn, .slice xa xl.length xc, .int .u64 xd] := ⟨_, rfl, (Kp.refl _ _).alloc _, Bn.new w _ _⟩
  obtain ⟨w2, hw2, k2, b2⟩ : ∃ w2, w1.alloc (.cells #[.int .u64 xe, .int .u32 xn, .slice ya xl.length yc, .int .u64 xd] 87) = w2 ∧ Kp [] w1 w2 ∧ Bn w2 w1.heap.size [.int .u64 xe, .int .u32 xn, .slice ya xl.length yc, .int .u64 xd] := ⟨_, rfl, (Kp.refl _ _).alloc _, Bn.new w1 _ _⟩
  obtain ⟨q2, hq2⟩ : ∃ q, w.heap.size = q := ⟨_, rfl⟩
  obtain ⟨q3, hq3⟩ : ∃ q, w1.heap.size = q := ⟨_, rfl⟩
  rw [hq2] at b1
  rw [hq3] at b2
  have b12 := b1.kept k2
  have k12 := k1.trans k2 (by simp)
  have hcm := hx.r.most
  have hcc := hx.r.cap
  unfold maxLen at hcm
  dsimp only at hcm hcc
  have cS := cSame xa ya xc yc xl xl w2 (hx.r.see.kept k12) (hy.r.see.kept k12) (by omega) (by omega)
  rw [sameV_selfY] at cS
  have cS' := hid cS
  have m0 := b12.get 0 _ rfl; have m1 := b12.get 1 _ rfl; have m2 := b12.get 2 _ rfl; have m3 := b12.get 3 _ rfl
  have n0 := b2.get 0 _ rfl; have n1 := b2.get 1 _ rfl; have n2 := b2.get 2 _ rfl; have n3 := b2.get 3 _ rfl
  have HB := hid (And.intro b12 (And.intro b2 k12))
  clear b1 b2 b12 k1 k2 k12 hx hy cS
  go_enter Try.func54, Try.ntmps54
  go_wp2_with fail
  refine cS'.out.mono ?_
  rintro e w3 ⟨rfl, k3⟩
  have b13 := HB.out.1.kept k3
  have b23 := HB.out.2.1.kept k3
  have p0 := b13.get 0 _ rfl; have p1 := b13.get 1 _ rfl; have p3 := b13.get 3 _ rfl
  have r0 := b23.get 0 _ rfl; have r1 := b23.get 1 _ rfl; have r3 := b23.get 3 _ rfl
  have K3 := hid (HB.out.2.2.trans k3 (by simp))
  have eq1 : ∀ w : World, (binOp .eql 85 (.agg #[.int .u64 xe, .int .u32 xn]) (.agg #[.int .u64 xe, .int .u32 xn])).run Try.prog w = .ok (.bool true) w := fun w => by rw [eqI]; simp
  clear b13 b23 k3 cS' m0 m1 m2 m3 n0 n1 n2 n3
  go_wp2_with fail
  go_ret
  exact ⟨by simp, K3.out⟩
set_option maxHeartbeats 8000000 in
set_option maxRecDepth 100000 in
/-- Versions that are alike are found alike. -/
theorem cSameVers (a b : Option Addr) (ca cb : Nat) (L M : List Vr) (w : World) (ha : VrE.See w a L) (hb : VrE.See w b M) (hL : ∀ x ∈ L, Vr.lies w x) (hM : ∀ x ∈ M, Vr.lies w x) (he : L.map Vr.pr = M.map Vr.pr) (hl : L.length ≤ 4000000000000) :
    Calls Try.prog 25 #[.slice a L.length ca, .slice b M.length cb] w fun e w' => e = .returned (.bool true) ∧ Kp [] w w' := by
  have hlen : L.length = M.length := by have := congrArg List.length he; simpa using this
  have HA := hid ha
  have HB := hid hb
  have HL := hid hL
  have HM := hid hM
  have HE := hid he
  clear ha hb hL hM he
  rw [← hlen]
  have hlen' := hid hlen
  clear hlen
  go_enter Try.func25, Try.ntmps25
  go_wp2_with fail
  go_loopw [5] (fun i wr => ∃ (j : Nat), j ≤ L.length ∧ i = .int .i64 (j : Int) ∧ Hid (Kp [] w wr)) (fun i _ => L.length - (intOf i).toNat)
  case atStart => exact ⟨0, Nat.zero_le _, rfl, hid (Kp.refl _ _)⟩
  case round =>
    obtain ⟨j, hj, rfl, hk⟩ := hrel
    by_cases hlt : j < L.length
    · have hltM : j < M.length := by have := hlen'.out; omega
      have hxj : L[j]? = some L[j] := by simp [hlt]
      have hyj : M[j]? = some M[j] := by simp [hltM]
      obtain ⟨g, o, ea, c0, c1, c2, c3⟩ := vrAt HA.out hxj
      obtain ⟨g2, o2, eb, d0, d1, d2, d3⟩ := vrAt HB.out hyj
      have ell : L[j].pr = M[j].pr := by
        have h1 := congrArg (fun z => z[j]?) HE.out
        simp [hlt, hltM] at h1
        exact h1
      have hlj := HL.out L[j] (List.getElem_mem hlt)
      have hmj := HM.out M[j] (List.getElem_mem hltM)
      have hS : Hid (∀ W', Kp [] wr W' → Calls Try.prog 54 #[L[j].v, M[j].v] W' fun e w' => e = .returned (.bool true) ∧ Kp [] W' w') := fun W' k => cSameVer L[j] M[j] W' (hlj.ck (CK.ofKp (hk.out.trans k (by simp))) (by simp)) (hmj.ck (CK.ofKp (hk.out.trans k (by simp))) (by simp)) ell
      have hcl : Hid (∀ W', Kp [] w W' → (W'.cell? ⟨g, o + j * 4, none⟩ = some (.int .u64 L[j].e) ∧ W'.cell? ⟨g, o + j * 4 + 1, none⟩ = some (.int .u32 L[j].n) ∧ W'.cell? ⟨g, o + j * 4 + 2, none⟩ = some (.slice L[j].a L[j].l.length L[j].c) ∧ W'.cell? ⟨g, o + j * 4 + 3, none⟩ = some (.int .u64 L[j].d) ∧ W'.cell? ⟨g2, o2 + j * 4, none⟩ = some (.int .u64 M[j].e) ∧ W'.cell? ⟨g2, o2 + j * 4 + 1, none⟩ = some (.int .u32 M[j].n) ∧ W'.cell? ⟨g2, o2 + j * 4 + 2, none⟩ = some (.slice M[j].a M[j].l.length M[j].c) ∧ W'.cell? ⟨g2, o2 + j * 4 + 3, none⟩ = some (.int .u64 M[j].d))) := fun W' k => ⟨kpAt k c0, kpAt k c1, kpAt k c2, kpAt k c3, kpAt k d0, kpAt k d1, kpAt k d2, kpAt k d3⟩
      generalize L[j] = x at *
      generalize M[j] = y at *
      obtain ⟨xe, xn, xa, xc, xl, xd⟩ := x
      obtain ⟨ye, yn, ya, yc, yl, yd⟩ := y
      simp only [Vr.v] at hS
      dsimp only at *
      have i1 : (0 : Int) ≤ (j : Int) := by omega
      have i2 : (j : Int) < (L.length : Int) := by omega
      have i3 : (j : Int) + 1 ≤ 9223372036854775807 := by omega
      subst ea eb
      clear c0 c1 c2 c3 d0 d1 d2 d3 hlj hmj hxj hyj ell
      have cg := hcl.out wr hk.out
      obtain ⟨g0, g1, g2', g3, g4, g5, g6, g7⟩ := cg
      go_wp2_with fail
      refine wp_noPanicY ?_
      refine wp_region_held_drew (S := fun A => A.cell? ⟨g, o + j * 4, none⟩ = some (.int .u64 xe) ∧ A.cell? ⟨g, o + j * 4 + 1, none⟩ = some (.int .u32 xn) ∧ A.cell? ⟨g, o + j * 4 + 2, none⟩ = some (.slice xa xl.length xc) ∧ A.cell? ⟨g, o + j * 4 + 3, none⟩ = some (.int .u64 xd) ∧ A.cell? ⟨g2, o2 + j * 4, none⟩ = some (.int .u64 ye) ∧ A.cell? ⟨g2, o2 + j * 4 + 1, none⟩ = some (.int .u32 yn) ∧ A.cell? ⟨g2, o2 + j * 4 + 2, none⟩ = some (.slice ya yl.length yc) ∧ A.cell? ⟨g2, o2 + j * 4 + 3, none⟩ = some (.int .u64 yd)) (by kernel_rfl) ?_ (fun hHeld => ?_)
      · exact ⟨g0, g1, g2', g3, g4, g5, g6, g7⟩
      have KD : Hid (Kp [] wr wr.drew) := hid (Kp.refl _ _).drew
      generalize wr.drew = wd at *
      refine wpAnyH_take (i := 0) (v := ?_) rfl (by kernel_rfl) (by kernel_rfl) (by kernel_rfl) (fun _ _ _ h => by cases h.1) (Or.inl ⟨by rfl, ?_⟩) (by assumption) ?_
      rotate_left
      · intro w hSw; (try dsimp only at hSw); go_simp <;> with_reducible rfl
      try simp only [Act.put, List.getElem_toArray, List.getElem_cons_zero, List.getElem_cons_succ, List.setIfInBounds_toArray, List.set_cons_zero, List.set_cons_succ]
      refine wpAnyH_take (i := 1) (v := ?_) rfl (by kernel_rfl) (by kernel_rfl) (by kernel_rfl) (fun _ _ _ h => by cases h.1) (Or.inl ⟨by rfl, ?_⟩) (by assumption) ?_
      rotate_left
      · intro w hSw; (try dsimp only at hSw); go_simp <;> with_reducible rfl
      try simp only [Act.put, List.getElem_toArray, List.getElem_cons_zero, List.getElem_cons_succ, List.setIfInBounds_toArray, List.set_cons_zero, List.set_cons_succ]
      refine wpAnyH_take (i := 2) (v := ?_) rfl (by kernel_rfl) (by kernel_rfl) (by kernel_rfl) (fun _ _ _ h => by cases h.1) (Or.inl ⟨by rfl, ?_⟩) (by assumption) ?_
      rotate_left
      · intro w hSw; (try dsimp only at hSw); go_simp <;> with_reducible rfl
      try simp only [Act.put, List.getElem_toArray, List.getElem_cons_zero, List.getElem_cons_succ, List.setIfInBounds_toArray, List.set_cons_zero, List.set_cons_succ]
      refine wpAnyH_take (i := 3) (v := ?_) rfl (by kernel_rfl) (by kernel_rfl) (by kernel_rfl) (fun _ _ _ h => by cases h.1) (Or.inl ⟨by rfl, ?_⟩) (by assumption) ?_
      rotate_left
      · intro w hSw; (try dsimp only at hSw); go_simp <;> with_reducible rfl
      try simp only [Act.put, List.getElem_toArray, List.getElem_cons_zero, List.getElem_cons_succ, List.setIfInBounds_toArray, List.set_cons_zero, List.set_cons_succ]
      refine wpAnyH_take (i := 4) (v := ?_) rfl (by kernel_rfl) (by kernel_rfl) (by kernel_rfl) (fun _ _ _ h => by cases h.1) (Or.inl ⟨by rfl, ?_⟩) (by assumption) ?_
      rotate_left
      · intro w hSw; (try dsimp only at hSw); go_simp <;> with_reducible rfl
      try simp only [Act.put, List.getElem_toArray, List.getElem_cons_zero, List.getElem_cons_succ, List.setIfInBounds_toArray, List.set_cons_zero, List.set_cons_succ]
      refine wpAnyH_take (i := 5) (v := ?_) rfl (by kernel_rfl) (by kernel_rfl) (by kernel_rfl) (fun _ _ _ h => by cases h.1) (Or.inl ⟨by rfl, ?_⟩) (by assumption) ?_
      rotate_left
      · intro w hSw; (try dsimp only at hSw); go_simp <;> with_reducible rfl
      try simp only [Act.put, List.getElem_toArray, List.getElem_cons_zero, List.getElem_cons_succ, List.setIfInBounds_toArray, List.set_cons_zero, List.set_cons_succ]
      refine wpAnyH_take (i := 6) (v := ?_) rfl (by kernel_rfl) (by kernel_rfl) (by kernel_rfl) (fun _ _ _ h => by cases h.1) (Or.inl ⟨by rfl, ?_⟩) (by assumption) ?_
      rotate_left
      · intro w hSw; (try dsimp only at hSw); go_simp <;> with_reducible rfl
      try simp only [Act.put, List.getElem_toArray, List.getElem_cons_zero, List.getElem_cons_succ, List.setIfInBounds_toArray, List.set_cons_zero, List.set_cons_succ]
      refine wpAnyH_take (i := 7) (v := ?_) rfl (by kernel_rfl) (by kernel_rfl) (by kernel_rfl) (fun _ _ _ h => by cases h.1) (Or.inl ⟨by rfl, ?_⟩) (by assumption) ?_
      rotate_left
      · intro w hSw; (try dsimp only at hSw); go_simp <;> with_reducible rfl
      try simp only [Act.put, List.getElem_toArray, List.getElem_cons_zero, List.getElem_cons_succ, List.setIfInBounds_toArray, List.set_cons_zero, List.set_cons_succ]
      refine wpAnyH_ready (rs := [8]) (by kernel_rfl) (by simp) ?_
      refine AllReadyH.cons rfl (fun K hK => ?_) AllReadyH.nil
      go_simp
      refine (hS.out wd KD.out).mono ?_
      rintro e we ⟨rfl, ke⟩
      (try go_wp2_with fail)
      refine hK.out _ _ ?_ (fun hHeld => ?_)
      · exact hcl.out we (hk.out.trans (KD.out.trans ke (by simp)) (by simp))
      clear hK K
      try simp only [Act.put, List.getElem_toArray, List.getElem_cons_zero, List.getElem_cons_succ, List.setIfInBounds_toArray, List.set_cons_zero, List.set_cons_succ]
      refine wpAnyH_take (i := 9) (v := ?_) rfl (by kernel_rfl) (by kernel_rfl) (by kernel_rfl) (fun _ _ _ h => by cases h.1) (Or.inl ⟨by rfl, ?_⟩) (by assumption) ?_
      rotate_left
      · intro w hSw; (try dsimp only at hSw); go_simp <;> with_reducible rfl
      try simp only [Act.put, List.getElem_toArray, List.getElem_cons_zero, List.getElem_cons_succ, List.setIfInBounds_toArray, List.set_cons_zero, List.set_cons_succ]
      refine wpAnyH_done (by kernel_rfl) ⟨rfl, ?_⟩ _
      have KE := hid (hk.out.trans (KD.out.trans ke (by simp)) (by simp))
      clear hHeld ke g0 g1 g2' g3 g4 g5 g6 g7
      go_wp2_with fail
      go_roundw
      case rel => exact ⟨j + 1, by omega, by go_num, KE⟩
      case measure => simp [intOf]; omega
    · have dj1 : ¬ (j : Int) < (L.length : Int) := by omega
      have dj2 : decide ((j : Int) < (L.length : Int)) = false := by simp; omega
      go_wp2_with fail
      go_ret
      exact ⟨rfl, hk.out⟩
end Go.Proofs.Ytfolkjjhlcjfgaa
end

section
namespace Go.Proofs.Ytfolkjjhlcjfgaa
open Go.RowKit Go.Hay
attribute [local go_sem] Oper.semAt_some
set_option linter.unusedVariables false
set_option linter.unusedSimpArgs false

theorem find_first {α : Type} (p : α → Bool) (B : List α) (k : Nat) (hk : k < B.length) (h : ∀ i (hi : i < B.length), i < k → p B[i] = false) (hp : p B[k] = true) : B.find? p = some B[k] := by
  have e : B = B.take k ++ B[k] :: B.drop (k + 1) := by rw [← List.drop_eq_getElem_cons hk, List.take_append_drop]
  have h0 : (B.take k).find? p = none := List.find?_eq_none.2 fun x hx => by
    obtain ⟨i, hi, rfl⟩ := List.getElem_of_mem hx
    rw [List.length_take] at hi
    rw [List.getElem_take]
    simp [h i (by omega) (by omega)]
  have : (B.take k ++ B[k] :: B.drop (k + 1)).find? p = some B[k] := by
    rw [List.find?_append, h0, Option.none_or, List.find?_cons_of_pos hp]
  rw [← e] at this
  exact this
theorem find_no {α : Type} (p : α → Bool) (B : List α) (h : ∀ i (hi : i < B.length), p B[i] = false) : B.find? p = none := List.find?_eq_none.2 fun x hx => by
  obtain ⟨i, hi, rfl⟩ := List.getElem_of_mem hx
  simp [h i hi]
set_option maxHeartbeats 16000000 in
set_option maxRecDepth 100000 in
theorem rRejoin (a b : Option Addr) (ca cb : Nat) (A B : List Vr) (w : World) (ha : VrE.See w a A) (hb : VrE.See w b B) (hA : ∀ x ∈ A, Vr.lies w x) (hB : ∀ x ∈ B, Vr.lies w x) (hl : A.length ≤ 1048576) (hm : B.length ≤ 1048576) (hAl : ∀ x ∈ A, x.l.length ≤ 1048576) (hBl : ∀ x ∈ B, x.l.length ≤ 1048576) :
    Calls Try.prog 27 #[.slice a A.length ca, .slice b B.length cb] w (LovP (rejR A B) w) := by
  have HA := hid ha
  have HB := hid hb
  have HLA := hid hA
  have HLB := hid hB
  have hAl' := hid hAl
  have hBl' := hid hBl
  have H0 : Hid (Lov w.heap.size none 0 [] w ∧ Kp [] w w) := ⟨Lov.nil _ _, Kp.refl _ _⟩
  clear ha hb hA hB hAl hBl
  go_enter Try.func27, Try.ntmps27
  go_wp2_with fail
  go_loopw [5, 6] (fun v5 i wr => ∃ (j : Nat) (ra : Option Addr) (rc : Nat) (m : List Vr), j ≤ A.length ∧ i = .int .i64 (j : Int) ∧ v5 = .slice ra m.length rc ∧ Hid (m.map Vr.pr = rejR (A.take j) B) ∧ Hid (Lov w.heap.size ra rc m wr ∧ Kp [] w wr)) (fun _ i _ => A.length - (intOf i).toNat)
  case atStart => exact ⟨0, none, 0, [], Nat.zero_le _, rfl, rfl, rfl, H0⟩
  case round =>
    obtain ⟨j, ra, rc, m, hj, rfl, rfl, hme, H⟩ := hrel
    clear H0
    have hml : m.length ≤ j := by
      have h1 := congrArg List.length hme.out
      have h2 := List.length_filterMap_le (rejO B) (A.take j)
      unfold rejR at h1
      rw [List.length_map] at h1
      rw [List.length_take] at h2
      omega
    by_cases hlt : j < A.length
    · have hsn := hid (rejR_snoc (B := B) hlt)
      obtain ⟨g, o, ea, x0, x1, x2, x3⟩ := vrAt HA.out (j := j) (x := A[j]) (by simp [hlt])
      have hxli := hid (HLA.out A[j] (List.getElem_mem hlt))
      have hxl := hAl'.out A[j] (List.getElem_mem hlt)
      obtain ⟨x, hx⟩ : ∃ x, Hid (A[j] = x) := ⟨A[j], rfl⟩
      rw [hx.out] at x0 x1 x2 x3 hxli hxl hsn
      obtain ⟨xe, xn, xa, xc, xl, xd⟩ := x
      dsimp only at x0 x1 x2 x3 hxl
      have HX : Hid (∀ W', Kp [] w W' → W'.cell? ⟨g, o + j * 4, none⟩ = some (.int .u64 xe) ∧ W'.cell? ⟨g, o + j * 4 + 1, none⟩ = some (.int .u32 xn) ∧ W'.cell? ⟨g, o + j * 4 + 2, none⟩ = some (.slice xa xl.length xc) ∧ W'.cell? ⟨g, o + j * 4 + 3, none⟩ = some (.int .u64 xd)) := fun W' k => ⟨kpAt k x0, kpAt k x1, kpAt k x2, kpAt k x3⟩
      have i1 : (0 : Int) ≤ (j : Int) := by omega
      have i2 : (j : Int) < (A.length : Int) := by omega
      have i3 : (j : Int) + 1 ≤ 9223372036854775807 := by omega
      have hml' := hid hml
      subst ea
      clear x0 x1 x2 x3 hml
      go_wp2_with fail
      go_loopw [5, 7] (fun v5 v7 wk => ∃ k : Nat, k ≤ B.length ∧ v7 = .int .i64 (k : Int) ∧ v5 = .slice ra m.length rc ∧ Hid (∀ i (hi : i < B.length), i < k → decide ((B[i].e, B[i].n) = (xe, xn)) = false) ∧ Hid (Lov w.heap.size ra rc m wk ∧ Kp [] w wk)) (fun _ v7 _ => B.length - (intOf v7).toNat)
      case atStart => exact ⟨0, Nat.zero_le _, rfl, rfl, fun i hi h => by omega, H⟩
      case round =>
        obtain ⟨k, hk, rfl, rfl, hno, Hk⟩ := hrel
        clear H
        by_cases hkl : k < B.length
        · obtain ⟨g2, o2, eb, y0, y1, y2, y3⟩ := vrAt HB.out (j := k) (x := B[k]) (by simp [hkl])
          have hyli := hid (HLB.out B[k] (List.getElem_mem hkl))
          have hyl := hBl'.out B[k] (List.getElem_mem hkl)
          have hfst := hid (fun hp => find_first (fun b : Vr => decide ((b.e, b.n) = (xe, xn))) B k hkl hno.out hp)
          obtain ⟨y, hy⟩ : ∃ y, Hid (B[k] = y) := ⟨B[k], rfl⟩
          have hnx : Hid (decide ((B[k].e, B[k].n) = (xe, xn)) = false → ∀ i (hi : i < B.length), i < k + 1 → decide ((B[i].e, B[i].n) = (xe, xn)) = false) := fun h i hi h2 => by
            by_cases e : i = k
            · subst e; exact h
            · exact hno.out i hi (by omega)
          rw [hy.out] at y0 y1 y2 y3 hyli hyl hfst hnx
          obtain ⟨ye, yn, ya, yc, yl, yd⟩ := y
          dsimp only at y0 y1 y2 y3 hyl hfst hnx
          have HC : Hid (∀ W', Kp [] w W' → W'.cell? ⟨g, o + j * 4, none⟩ = some (.int .u64 xe) ∧ W'.cell? ⟨g, o + j * 4 + 1, none⟩ = some (.int .u32 xn) ∧ W'.cell? ⟨g, o + j * 4 + 2, none⟩ = some (.slice xa xl.length xc) ∧ W'.cell? ⟨g, o + j * 4 + 3, none⟩ = some (.int .u64 xd) ∧ W'.cell? ⟨g2, o2 + k * 4, none⟩ = some (.int .u64 ye) ∧ W'.cell? ⟨g2, o2 + k * 4 + 1, none⟩ = some (.int .u32 yn) ∧ W'.cell? ⟨g2, o2 + k * 4 + 2, none⟩ = some (.slice ya yl.length yc) ∧ W'.cell? ⟨g2, o2 + k * 4 + 3, none⟩ = some (.int .u64 yd)) := fun W' q => ⟨(HX.out W' q).1, (HX.out W' q).2.1, (HX.out W' q).2.2.1, (HX.out W' q).2.2.2, kpAt q y0, kpAt q y1, kpAt q y2, kpAt q y3⟩
          have k1 : (0 : Int) ≤ (k : Int) := by omega
          have k2 : (k : Int) < (B.length : Int) := by omega
          have k3 : (k : Int) + 1 ≤ 9223372036854775807 := by omega
          have eqs := fun w => eqI ye yn xe xn w
          obtain ⟨D, hD⟩ : ∃ D, Hid (decide ((ye, yn) = (xe, xn)) = D) := ⟨_, rfl⟩
          rw [hD.out] at hfst hnx
          simp only [hD.out] at eqs
          subst eb
          clear y0 y1 y2 y3
          go_wp2_with fail
          refine wp_noPanicY ?_
          refine wp_region_held_drew (S := fun W' => W'.cell? ⟨g, o + j * 4, none⟩ = some (.int .u64 xe) ∧ W'.cell? ⟨g, o + j * 4 + 1, none⟩ = some (.int .u32 xn) ∧ W'.cell? ⟨g, o + j * 4 + 2, none⟩ = some (.slice xa xl.length xc) ∧ W'.cell? ⟨g, o + j * 4 + 3, none⟩ = some (.int .u64 xd) ∧ W'.cell? ⟨g2, o2 + k * 4, none⟩ = some (.int .u64 ye) ∧ W'.cell? ⟨g2, o2 + k * 4 + 1, none⟩ = some (.int .u32 yn) ∧ W'.cell? ⟨g2, o2 + k * 4 + 2, none⟩ = some (.slice ya yl.length yc) ∧ W'.cell? ⟨g2, o2 + k * 4 + 3, none⟩ = some (.int .u64 yd)) (by kernel_rfl) (HC.out _ Hk.out.2.drew) (fun hHeld => ?_)
          have KD : Hid (Kp [] wr wr.drew) := hid (Kp.refl _ _).drew
          generalize wr.drew = wd at *
          refine wpAnyH_take (i := 0) (v := ?_) rfl (by kernel_rfl) (by kernel_rfl) (by kernel_rfl) (fun _ _ _ h => by cases h.1) (Or.inl ⟨by rfl, ?_⟩) (by assumption) ?_
          rotate_left
          · intro w hSw; (try dsimp only at hSw); go_simp <;> with_reducible rfl
          try simp only [Act.put, List.getElem_toArray, List.getElem_cons_zero, List.getElem_cons_succ, List.setIfInBounds_toArray, List.set_cons_zero, List.set_cons_succ]
          refine wpAnyH_take (i := 1) (v := ?_) rfl (by kernel_rfl) (by kernel_rfl) (by kernel_rfl) (fun _ _ _ h => by cases h.1) (Or.inl ⟨by rfl, ?_⟩) (by assumption) ?_
          rotate_left
          · intro w hSw; (try dsimp only at hSw); go_simp <;> with_reducible rfl
          try simp only [Act.put, List.getElem_toArray, List.getElem_cons_zero, List.getElem_cons_succ, List.setIfInBounds_toArray, List.set_cons_zero, List.set_cons_succ]
          refine wpAnyH_take (i := 2) (v := ?_) rfl (by kernel_rfl) (by kernel_rfl) (by kernel_rfl) (fun _ _ _ h => by cases h.1) (Or.inl ⟨by rfl, ?_⟩) (by assumption) ?_
          rotate_left
          · intro w hSw; (try dsimp only at hSw); go_simp <;> with_reducible rfl
          try simp only [Act.put, List.getElem_toArray, List.getElem_cons_zero, List.getElem_cons_succ, List.setIfInBounds_toArray, List.set_cons_zero, List.set_cons_succ]
          refine wpAnyH_take (i := 3) (v := ?_) rfl (by kernel_rfl) (by kernel_rfl) (by kernel_rfl) (fun _ _ _ h => by cases h.1) (Or.inl ⟨by rfl, ?_⟩) (by assumption) ?_
          rotate_left
          · intro w hSw; (try dsimp only at hSw); go_simp <;> with_reducible rfl
          try simp only [Act.put, List.getElem_toArray, List.getElem_cons_zero, List.getElem_cons_succ, List.setIfInBounds_toArray, List.set_cons_zero, List.set_cons_succ]
          refine wpAnyH_take (i := 4) (v := ?_) rfl (by kernel_rfl) (by kernel_rfl) (by kernel_rfl) (fun _ _ _ h => by cases h.1) (Or.inl ⟨by rfl, ?_⟩) (by assumption) ?_
          rotate_left
          · intro w hSw; (try dsimp only at hSw); go_simp <;> with_reducible rfl
          try simp only [Act.put, List.getElem_toArray, List.getElem_cons_zero, List.getElem_cons_succ, List.setIfInBounds_toArray, List.set_cons_zero, List.set_cons_succ]
          refine wpAnyH_take (i := 5) (v := ?_) rfl (by kernel_rfl) (by kernel_rfl) (by kernel_rfl) (fun _ _ _ h => by cases h.1) (Or.inl ⟨by rfl, ?_⟩) (by assumption) ?_
          rotate_left
          · intro w hSw; (try dsimp only at hSw); go_simp <;> with_reducible rfl
          try simp only [Act.put, List.getElem_toArray, List.getElem_cons_zero, List.getElem_cons_succ, List.setIfInBounds_toArray, List.set_cons_zero, List.set_cons_succ]
          refine wpAnyH_take (i := 6) (v := ?_) rfl (by kernel_rfl) (by kernel_rfl) (by kernel_rfl) (fun _ _ _ h => by cases h.1) (Or.inl ⟨by rfl, ?_⟩) (by assumption) ?_
          rotate_left
          · intro w hSw; (try dsimp only at hSw); go_simp <;> with_reducible rfl
          try simp only [Act.put, List.getElem_toArray, List.getElem_cons_zero, List.getElem_cons_succ, List.setIfInBounds_toArray, List.set_cons_zero, List.set_cons_succ]
          refine wpAnyH_take (i := 7) (v := ?_) rfl (by kernel_rfl) (by kernel_rfl) (by kernel_rfl) (fun _ _ _ h => by cases h.1) (Or.inl ⟨by rfl, ?_⟩) (by assumption) ?_
          rotate_left
          · intro w hSw; (try dsimp only at hSw); go_simp <;> with_reducible rfl
          try simp only [Act.put, List.getElem_toArray, List.getElem_cons_zero, List.getElem_cons_succ, List.setIfInBounds_toArray, List.set_cons_zero, List.set_cons_succ]
          refine wpAnyH_take (i := 8) (v := ?_) rfl (by kernel_rfl) (by kernel_rfl) (by kernel_rfl) (fun _ _ _ h => by cases h.1) (Or.inl ⟨by rfl, ?_⟩) (by assumption) ?_
          rotate_left
          · intro w hSw; (try dsimp only at hSw); go_simp <;> with_reducible rfl
          try simp only [Act.put, List.getElem_toArray, List.getElem_cons_zero, List.getElem_cons_succ, List.setIfInBounds_toArray, List.set_cons_zero, List.set_cons_succ]
          refine wpAnyH_take (i := 9) (v := ?_) rfl (by kernel_rfl) (by kernel_rfl) (by kernel_rfl) (fun _ _ _ h => by cases h.1) (Or.inl ⟨by rfl, ?_⟩) (by assumption) ?_
          rotate_left
          · intro w hSw; (try dsimp only at hSw); go_simp <;> with_reducible rfl
          try simp only [Act.put, List.getElem_toArray, List.getElem_cons_zero, List.getElem_cons_succ, List.setIfInBounds_toArray, List.set_cons_zero, List.set_cons_succ]
          refine wpAnyH_take (i := 10) (v := ?_) rfl (by kernel_rfl) (by kernel_rfl) (by kernel_rfl) (fun _ _ _ h => by cases h.1) (Or.inl ⟨by rfl, ?_⟩) (by assumption) ?_
          rotate_left
          · intro w hSw; (try dsimp only at hSw); go_simp <;> with_reducible rfl
          try simp only [Act.put, List.getElem_toArray, List.getElem_cons_zero, List.getElem_cons_succ, List.setIfInBounds_toArray, List.set_cons_zero, List.set_cons_succ]
          refine wpAnyH_done (by kernel_rfl) ⟨rfl, ?_⟩ _
          have HD : Hid (Lov w.heap.size ra rc m wd ∧ Kp [] w wd) := ⟨Hk.out.1.ck (CK.ofKp KD.out) (by simp) (by simp), Hk.out.2.trans KD.out (by simp)⟩
          clear hHeld KD Hk
          cases D with
          | false =>
            have hno2 : Hid (∀ i (hi : i < B.length), i < k + 1 → decide ((B[i].e, B[i].n) = (xe, xn)) = false) := hnx.out rfl
            go_wp2_with fail
            go_roundw
            case rel => exact ⟨k + 1, by omega, by go_num, rfl, hno2, HD⟩
            case measure => simp [intOf]; omega
          | true =>
            go_wp2_with fail
            refine wp_noPanicY ?_
            refine wp_region_held_drew (S := fun W' => W'.cell? ⟨g, o + j * 4, none⟩ = some (.int .u64 xe) ∧ W'.cell? ⟨g, o + j * 4 + 1, none⟩ = some (.int .u32 xn) ∧ W'.cell? ⟨g, o + j * 4 + 2, none⟩ = some (.slice xa xl.length xc) ∧ W'.cell? ⟨g, o + j * 4 + 3, none⟩ = some (.int .u64 xd) ∧ W'.cell? ⟨g2, o2 + k * 4, none⟩ = some (.int .u64 ye) ∧ W'.cell? ⟨g2, o2 + k * 4 + 1, none⟩ = some (.int .u32 yn) ∧ W'.cell? ⟨g2, o2 + k * 4 + 2, none⟩ = some (.slice ya yl.length yc) ∧ W'.cell? ⟨g2, o2 + k * 4 + 3, none⟩ = some (.int .u64 yd)) (by kernel_rfl) (HC.out _ HD.out.2.drew) (fun hHeld => ?_)
            have KD : Hid (Kp [] wd wd.drew) := hid (Kp.refl _ _).drew
            generalize wd.drew = we at *
            have KE := hid (HD.out.2.trans KD.out (by simp))
            have cJ := hid (rJoined xa ya xc yc xl yl we (hxli.out.r.see.kept KE.out) (hyli.out.r.see.kept KE.out) (by omega))
            obtain ⟨zl, hzl⟩ : ∃ z, Hid (xl ++ yl = z) := ⟨_, rfl⟩
            rw [hzl.out] at cJ
            refine wpAnyH_take (i := 0) (v := ?_) rfl (by kernel_rfl) (by kernel_rfl) (by kernel_rfl) (fun _ _ _ h => by cases h.1) (Or.inl ⟨by rfl, ?_⟩) (by assumption) ?_
            rotate_left
            · intro w hSw; (try dsimp only at hSw); go_simp <;> with_reducible rfl
            try simp only [Act.put, List.getElem_toArray, List.getElem_cons_zero, List.getElem_cons_succ, List.setIfInBounds_toArray, List.set_cons_zero, List.set_cons_succ]
            refine wpAnyH_take (i := 1) (v := ?_) rfl (by kernel_rfl) (by kernel_rfl) (by kernel_rfl) (fun _ _ _ h => by cases h.1) (Or.inl ⟨by rfl, ?_⟩) (by assumption) ?_
            rotate_left
            · intro w hSw; (try dsimp only at hSw); go_simp <;> with_reducible rfl
            try simp only [Act.put, List.getElem_toArray, List.getElem_cons_zero, List.getElem_cons_succ, List.setIfInBounds_toArray, List.set_cons_zero, List.set_cons_succ]
            refine wpAnyH_take (i := 2) (v := ?_) rfl (by kernel_rfl) (by kernel_rfl) (by kernel_rfl) (fun _ _ _ h => by cases h.1) (Or.inl ⟨by rfl, ?_⟩) (by assumption) ?_
            rotate_left
            · intro w hSw; (try dsimp only at hSw); go_simp <;> with_reducible rfl
            try simp only [Act.put, List.getElem_toArray, List.getElem_cons_zero, List.getElem_cons_succ, List.setIfInBounds_toArray, List.set_cons_zero, List.set_cons_succ]
            refine wpAnyH_take (i := 3) (v := ?_) rfl (by kernel_rfl) (by kernel_rfl) (by kernel_rfl) (fun _ _ _ h => by cases h.1) (Or.inl ⟨by rfl, ?_⟩) (by assumption) ?_
            rotate_left
            · intro w hSw; (try dsimp only at hSw); go_simp <;> with_reducible rfl
            try simp only [Act.put, List.getElem_toArray, List.getElem_cons_zero, List.getElem_cons_succ, List.setIfInBounds_toArray, List.set_cons_zero, List.set_cons_succ]
            refine wpAnyH_take (i := 4) (v := ?_) rfl (by kernel_rfl) (by kernel_rfl) (by kernel_rfl) (fun _ _ _ h => by cases h.1) (Or.inl ⟨by rfl, ?_⟩) (by assumption) ?_
            rotate_left
            · intro w hSw; (try dsimp only at hSw); go_simp <;> with_reducible rfl
            try simp only [Act.put, List.getElem_toArray, List.getElem_cons_zero, List.getElem_cons_succ, List.setIfInBounds_toArray, List.set_cons_zero, List.set_cons_succ]
            refine wpAnyH_take (i := 5) (v := ?_) rfl (by kernel_rfl) (by kernel_rfl) (by kernel_rfl) (fun _ _ _ h => by cases h.1) (Or.inl ⟨by rfl, ?_⟩) (by assumption) ?_
            rotate_left
            · intro w hSw; (try dsimp only at hSw); go_simp <;> with_reducible rfl
            try simp only [Act.put, List.getElem_toArray, List.getElem_cons_zero, List.getElem_cons_succ, List.setIfInBounds_toArray, List.set_cons_zero, List.set_cons_succ]
            refine wpAnyH_take (i := 6) (v := ?_) rfl (by kernel_rfl) (by kernel_rfl) (by kernel_rfl) (fun _ _ _ h => by cases h.1) (Or.inl ⟨by rfl, ?_⟩) (by assumption) ?_
            rotate_left
            · intro w hSw; (try dsimp only at hSw); go_simp <;> with_reducible rfl
            try simp only [Act.put, List.getElem_toArray, List.getElem_cons_zero, List.getElem_cons_succ, List.setIfInBounds_toArray, List.set_cons_zero, List.set_cons_succ]
            refine wpAnyH_take (i := 7) (v := ?_) rfl (by kernel_rfl) (by kernel_rfl) (by kernel_rfl) (fun _ _ _ h => by cases h.1) (Or.inl ⟨by rfl, ?_⟩) (by assumption) ?_
            rotate_left
            · intro w hSw; (try dsimp only at hSw); go_simp <;> with_reducible rfl
            try simp only [Act.put, List.getElem_toArray, List.getElem_cons_zero, List.getElem_cons_succ, List.setIfInBounds_toArray, List.set_cons_zero, List.set_cons_succ]
            refine wpAnyH_take (i := 8) (v := ?_) rfl (by kernel_rfl) (by kernel_rfl) (by kernel_rfl) (fun _ _ _ h => by cases h.1) (Or.inl ⟨by rfl, ?_⟩) (by assumption) ?_
            rotate_left
            · intro w hSw; (try dsimp only at hSw); go_simp <;> with_reducible rfl
            try simp only [Act.put, List.getElem_toArray, List.getElem_cons_zero, List.getElem_cons_succ, List.setIfInBounds_toArray, List.set_cons_zero, List.set_cons_succ]
            refine wpAnyH_take (i := 9) (v := ?_) rfl (by kernel_rfl) (by kernel_rfl) (by kernel_rfl) (fun _ _ _ h => by cases h.1) (Or.inl ⟨by rfl, ?_⟩) (by assumption) ?_
            rotate_left
            · intro w hSw; (try dsimp only at hSw); go_simp <;> with_reducible rfl
            try simp only [Act.put, List.getElem_toArray, List.getElem_cons_zero, List.getElem_cons_succ, List.setIfInBounds_toArray, List.set_cons_zero, List.set_cons_succ]
            refine wpAnyH_take (i := 10) (v := ?_) rfl (by kernel_rfl) (by kernel_rfl) (by kernel_rfl) (fun _ _ _ h => by cases h.1) (Or.inl ⟨by rfl, ?_⟩) (by assumption) ?_
            rotate_left
            · intro w hSw; (try dsimp only at hSw); go_simp <;> with_reducible rfl
            try simp only [Act.put, List.getElem_toArray, List.getElem_cons_zero, List.getElem_cons_succ, List.setIfInBounds_toArray, List.set_cons_zero, List.set_cons_succ]
            refine wpAnyH_take (i := 11) (v := ?_) rfl (by kernel_rfl) (by kernel_rfl) (by kernel_rfl) (fun _ _ _ h => by cases h.1) (Or.inl ⟨by rfl, ?_⟩) (by assumption) ?_
            rotate_left
            · intro w hSw; (try dsimp only at hSw); go_simp <;> with_reducible rfl
            try simp only [Act.put, List.getElem_toArray, List.getElem_cons_zero, List.getElem_cons_succ, List.setIfInBounds_toArray, List.set_cons_zero, List.set_cons_succ]
            refine wpAnyH_take (i := 12) (v := ?_) rfl (by kernel_rfl) (by kernel_rfl) (by kernel_rfl) (fun _ _ _ h => by cases h.1) (Or.inl ⟨by rfl, ?_⟩) (by assumption) ?_
            rotate_left
            · intro w hSw; (try dsimp only at hSw); go_simp <;> with_reducible rfl
            try simp only [Act.put, List.getElem_toArray, List.getElem_cons_zero, List.getElem_cons_succ, List.setIfInBounds_toArray, List.set_cons_zero, List.set_cons_succ]
            refine wpAnyH_take (i := 13) (v := ?_) rfl (by kernel_rfl) (by kernel_rfl) (by kernel_rfl) (fun _ _ _ h => by cases h.1) (Or.inl ⟨by rfl, ?_⟩) (by assumption) ?_
            rotate_left
            · intro w hSw; (try dsimp only at hSw); go_simp <;> with_reducible rfl
            try simp only [Act.put, List.getElem_toArray, List.getElem_cons_zero, List.getElem_cons_succ, List.setIfInBounds_toArray, List.set_cons_zero, List.set_cons_succ]
            refine wpAnyH_take (i := 14) (v := ?_) rfl (by kernel_rfl) (by kernel_rfl) (by kernel_rfl) (fun _ _ _ h => by cases h.1) (Or.inl ⟨by rfl, ?_⟩) (by assumption) ?_
            rotate_left
            · intro w hSw; (try dsimp only at hSw); go_simp <;> with_reducible rfl
            try simp only [Act.put, List.getElem_toArray, List.getElem_cons_zero, List.getElem_cons_succ, List.setIfInBounds_toArray, List.set_cons_zero, List.set_cons_succ]
            refine wpAnyH_take (i := 15) (v := ?_) rfl (by kernel_rfl) (by kernel_rfl) (by kernel_rfl) (fun _ _ _ h => by cases h.1) (Or.inl ⟨by rfl, ?_⟩) (by assumption) ?_
            rotate_left
            · intro w hSw; (try dsimp only at hSw); go_simp <;> with_reducible rfl
            try simp only [Act.put, List.getElem_toArray, List.getElem_cons_zero, List.getElem_cons_succ, List.setIfInBounds_toArray, List.set_cons_zero, List.set_cons_succ]
            refine wpAnyH_take (i := 17) (v := ?_) rfl (by kernel_rfl) (by kernel_rfl) (by kernel_rfl) (fun _ _ _ h => by cases h.1) (Or.inl ⟨by rfl, ?_⟩) (by assumption) ?_
            rotate_left
            · intro w hSw; (try dsimp only at hSw); go_simp <;> with_reducible rfl
            try simp only [Act.put, List.getElem_toArray, List.getElem_cons_zero, List.getElem_cons_succ, List.setIfInBounds_toArray, List.set_cons_zero, List.set_cons_succ]
            refine wpAnyH_take (i := 18) (v := ?_) rfl (by kernel_rfl) (by kernel_rfl) (by kernel_rfl) (fun _ _ _ h => by cases h.1) (Or.inl ⟨by rfl, ?_⟩) (by assumption) ?_
            rotate_left
            · intro w hSw; (try dsimp only at hSw); go_simp <;> with_reducible rfl
            try simp only [Act.put, List.getElem_toArray, List.getElem_cons_zero, List.getElem_cons_succ, List.setIfInBounds_toArray, List.set_cons_zero, List.set_cons_succ]
            refine wpAnyH_take (i := 19) (v := ?_) rfl (by kernel_rfl) (by kernel_rfl) (by kernel_rfl) (fun _ _ _ h => by cases h.1) (Or.inl ⟨by rfl, ?_⟩) (by assumption) ?_
            rotate_left
            · intro w hSw; (try dsimp only at hSw); go_simp <;> with_reducible rfl
            try simp only [Act.put, List.getElem_toArray, List.getElem_cons_zero, List.getElem_cons_succ, List.setIfInBounds_toArray, List.set_cons_zero, List.set_cons_succ]
            refine wpAnyH_take (i := 20) (v := ?_) rfl (by kernel_rfl) (by kernel_rfl) (by kernel_rfl) (fun _ _ _ h => by cases h.1) (Or.inl ⟨by rfl, ?_⟩) (by assumption) ?_
            rotate_left
            · intro w hSw; (try dsimp only at hSw); go_simp <;> with_reducible rfl
            try simp only [Act.put, List.getElem_toArray, List.getElem_cons_zero, List.getElem_cons_succ, List.setIfInBounds_toArray, List.set_cons_zero, List.set_cons_succ]
            refine wpAnyH_take (i := 21) (v := ?_) rfl (by kernel_rfl) (by kernel_rfl) (by kernel_rfl) (fun _ _ _ h => by cases h.1) (Or.inl ⟨by rfl, ?_⟩) (by assumption) ?_
            rotate_left
            · intro w hSw; (try dsimp only at hSw); go_simp <;> with_reducible rfl
            try simp only [Act.put, List.getElem_toArray, List.getElem_cons_zero, List.getElem_cons_succ, List.setIfInBounds_toArray, List.set_cons_zero, List.set_cons_succ]
            refine wpAnyH_ready (rs := [16]) (by kernel_rfl) (by simp) ?_
            refine AllReadyH.cons rfl (fun K hK => ?_) AllReadyH.nil
            go_simp
            refine cJ.out.mono ?_
            rintro e wz ⟨za, zc, rfl, hzr, kz, hzb⟩
            (try go_wp2_with fail)
            refine hK.out _ _ (HC.out _ (KE.out.trans kz (by simp))) (fun hHeld => ?_)
            clear hK K
            try simp only [Act.put, List.getElem_toArray, List.getElem_cons_zero, List.getElem_cons_succ, List.setIfInBounds_toArray, List.set_cons_zero, List.set_cons_succ]
            refine wpAnyH_take (i := 22) (v := ?_) rfl (by kernel_rfl) (by kernel_rfl) (by kernel_rfl) (fun _ _ _ h => by cases h.1) (Or.inl ⟨by rfl, ?_⟩) (by assumption) ?_
            rotate_left
            · intro w hSw; (try dsimp only at hSw); go_simp <;> with_reducible rfl
            try simp only [Act.put, List.getElem_toArray, List.getElem_cons_zero, List.getElem_cons_succ, List.setIfInBounds_toArray, List.set_cons_zero, List.set_cons_succ]
            have KZ := hid (KE.out.trans kz (by simp))
            have hlz : Lov w.heap.size ra rc m wz := HD.out.1.ck (CK.ofKp (KD.out.trans kz (by simp))) (by simp) (by simp)
            have hsz := KE.out.size
            obtain ⟨a4, c4, W4, hrun, hl4, k4, hn4⟩ := hlz.app ⟨xe, xn, za, zc, zl, xd⟩ ⟨rowLies hzr, hxli.out.e, hxli.out.n⟩ KZ.out.size (fun k hk => ⟨by have := hzb k hk; omega, hzr.lt k (by rw [ownV]; exact hk), fun hm' => by have := hzb k hk; have := HD.out.1.lt k hm'; have := KD.out.size; omega⟩) (by have := hml'.out; omega)
            obtain ⟨m4, hm4⟩ : ∃ m4, Hid (m ++ [(⟨xe, xn, za, zc, zl, xd⟩ : Vr)] = m4) := ⟨_, rfl⟩
            rw [hm4.out] at hrun hl4
            dsimp only at hrun
            have KW4 : Kp [] w W4 := KZ.out.trans k4 (fun x hx => .inr (HD.out.1.own x hx))
            have HF : Hid (Lov w.heap.size a4 c4 m4 W4 ∧ Kp [] w W4) := ⟨hl4, KW4⟩
            have hm5 : Hid (m4.map Vr.pr = rejR (A.take (j + 1)) B) := by
              show _ = _
              rw [hsn.out, ← hm4.out, List.map_append, hme.out, rejO, hfst.out trivial, Option.map_some, Option.toList_some, ← hzl.out]
              rfl
            have sA := HC.out _ (KZ.out.alloc (.cells #[.int .u64 xe, .int .u32 xn, .slice za zl.length zc, .int .u64 xd] 87))
            have s4 := HC.out _ KW4
            clear hlz hl4 k4 hn4 kz hzr hzb hsz KW4
            refine wpAnyH_ready (rs := [23]) (by kernel_rfl) (by simp) ?_
            refine AllReadyH.cons rfl (fun K hK => ?_) AllReadyH.nil
            go_simp
            (try go_wp2_with fail)
            refine hK.out _ _ (sA) (fun hHeld => ?_)
            clear hK K
            try simp only [Act.put, List.getElem_toArray, List.getElem_cons_zero, List.getElem_cons_succ, List.setIfInBounds_toArray, List.set_cons_zero, List.set_cons_succ]
            refine wpAnyH_ready (rs := [24]) (by kernel_rfl) (by simp) ?_
            refine AllReadyH.cons rfl (fun K hK => ?_) AllReadyH.nil
            refine stepAppRun rfl _ _ 54 54 rfl _ _ _ rfl rfl hrun ?_
            refine hK.out _ _ s4 (fun hHeld => ?_)
            clear hK K
            try simp only [Act.put, List.getElem_toArray, List.getElem_cons_zero, List.getElem_cons_succ, List.setIfInBounds_toArray, List.set_cons_zero, List.set_cons_succ]
            refine wpAnyH_take (i := 25) (v := ?_) rfl (by kernel_rfl) (by kernel_rfl) (by kernel_rfl) (fun _ _ _ h => by cases h.1) (Or.inl ⟨by rfl, ?_⟩) (by assumption) ?_
            rotate_left
            · intro w hSw; (try dsimp only at hSw); go_simp <;> with_reducible rfl
            try simp only [Act.put, List.getElem_toArray, List.getElem_cons_zero, List.getElem_cons_succ, List.setIfInBounds_toArray, List.set_cons_zero, List.set_cons_succ]
            refine wpAnyH_done (by kernel_rfl) ⟨rfl, ?_⟩ _
            clear hHeld sA s4 hrun
            go_wp2_with fail
            go_roundw
            case rel => exact ⟨j + 1, a4, c4, m4, by omega, by go_num, rfl, hm5, HF⟩
            case measure => simp [intOf]; omega
        · have hke : k = B.length := by omega
          have hm5 : Hid (m.map Vr.pr = rejR (A.take (j + 1)) B) := by
            show _ = _
            rw [hsn.out, hme.out, rejO, find_no _ B (fun i hi => hno.out i hi (by omega))]
            simp
          have dj1 : ¬ (k : Int) < (B.length : Int) := by omega
          have dj2 : decide ((k : Int) < (B.length : Int)) = false := by simp; omega
          clear hke
          go_wp2_with fail
          go_roundw
          case rel => exact ⟨j + 1, ra, rc, m, by omega, by go_num, rfl, hm5, Hk⟩
          case measure => simp [intOf]; omega
    · have hmm : m.map Vr.pr = rejR A B := by rw [hme.out, show j = A.length by omega, List.take_length]
      have dj1 : ¬ (j : Int) < (A.length : Int) := by omega
      have dj2 : decide ((j : Int) < (A.length : Int)) = false := by simp; omega
      have hmm' := hid hmm
      clear hmm
      go_wp2_with fail
      go_ret
      exact ⟨ra, rc, m, rfl, H.out.1, hmm'.out, H.out.2⟩
end Go.Proofs.Ytfolkjjhlcjfgaa
end

section
namespace Go.Hay

/-- n in k bytes, the highest first. -/
def be (n : Nat) : Nat → List UInt8
  | 0 => []
  | k + 1 => UInt8.ofNat (n / 256 ^ k % 256) :: be n k
theorem be_length (n k : Nat) : (be n k).length = k := by
  induction k with
  | zero => rfl
  | succ k ih => simp [be, ih]
/-- The first byte of n's Var. -/
def leadI (n : Int) : Int := if n < 253 then n else if n < 65536 then 253 else if n < 4294967296 then 254 else 255
/-- How many bytes a Var has behind its first one. -/
def behindI (f : Int) : Int := if f = 253 then 2 else if f = 254 then 4 else if f = 255 then 8 else 0
theorem leadI_bd (n : Int) (h : 0 ≤ n) : 0 ≤ leadI n ∧ leadI n ≤ 255 := by unfold leadI; repeat (first | split | omega)
theorem behindI_bd (n : Int) : 0 ≤ behindI n ∧ behindI n ≤ 8 := by unfold behindI; repeat (first | split | omega)
/-- The number that bytes say, the highest first. -/
def num (bs : List UInt8) : Nat := bs.foldl (fun n x => n * 256 + x.toNat) 0
theorem num_snoc (bs : List UInt8) (x : UInt8) : num (bs ++ [x]) = num bs * 256 + x.toNat := by simp [num]
theorem num_lt (bs : List UInt8) : num bs < 256 ^ bs.length := by
  suffices ∀ (l : List UInt8), num l.reverse < 256 ^ l.length by simpa using this bs.reverse
  intro l
  induction l with
  | nil => simp [num]
  | cons x l ih =>
    rw [List.reverse_cons, num_snoc, List.length_cons, Nat.pow_succ]
    have := x.toNat_lt
    omega
/-- A byte, of a number. -/
def octet (n : Int) : UInt8 := UInt8.ofNat n.toNat
theorem octet_toNat (n : Int) (h0 : 0 ≤ n) (h1 : n ≤ 255) : ((octet n).toNat : Int) = n := by
  unfold octet
  rw [UInt8.toNat_ofNat']
  omega
/-- A number's Var. -/
def varB (n : Int) : List UInt8 := octet (leadI n) :: be n.toNat (behindI (leadI n)).toNat
theorem varB_length (n : Int) : (varB n).length ≤ 9 ∧ 1 ≤ (varB n).length := by
  have := behindI_bd (leadI n)
  simp only [varB, List.length_cons, be_length]
  omega
/-- What bytes begin with, read as a Var: the number, in how many bytes, what is amiss. -/
def fv (bs : List UInt8) : Int × Int × Int :=
  match bs with
  | [] => (0, 0, 10)
  | f :: r =>
    if behindI f.toNat = 0 then (f.toNat, 1, 0)
    else if (r.length : Int) < behindI f.toNat then (0, 0, 10)
    else if leadI (num (r.take (behindI f.toNat).toNat)) ≠ f.toNat then (0, 0, 11)
    else (num (r.take (behindI f.toNat).toNat), 1 + behindI f.toNat, 0)
theorem fv_bd (bs : List UInt8) : 0 ≤ (fv bs).1 ∧ (fv bs).1 < 18446744073709551616 ∧ 0 ≤ (fv bs).2.1 ∧ (fv bs).2.1 ≤ 9 ∧ (fv bs).2.1 ≤ bs.length := by
  cases bs with
  | nil => simp [fv]
  | cons f r =>
    have hf := f.toNat_lt
    have hb := behindI_bd f.toNat
    simp only [fv]
    have h64 : ∀ k : Nat, k ≤ 8 → num (r.take k) < 18446744073709551616 := fun k hk => by
      have h1 := num_lt (r.take k)
      have h2 : (r.take k).length ≤ 8 := by simp; omega
      have h3 : 256 ^ (r.take k).length ≤ 256 ^ 8 := Nat.pow_le_pow_right (by omega) h2
      omega
    have h64' := h64 (behindI f.toNat).toNat (by omega)
    generalize num (r.take (behindI f.toNat).toNat) = m at *
    simp only [List.length_cons]
    split
    · simp; omega
    · split
      · simp; omega
      · split
        · simp; omega
        · simp; omega
/-- A reader that takes n bytes: what it gives, what is left, what was amiss. -/
def takeS (n : Nat) (bs : List UInt8) (e : Int) : List UInt8 × List UInt8 × Int :=
  if e ≠ 0 then ([], bs, e) else if bs.length < n then ([], bs, 10) else (bs.take n, bs.drop n, 0)
/-- A reader that reads a Var. -/
def varS (most : Int) (bs : List UInt8) (e : Int) : Int × List UInt8 × Int :=
  if e ≠ 0 then (0, bs, e) else if (fv bs).2.2 ≠ 0 then (0, bs, (fv bs).2.2) else if most < (fv bs).1 then (0, bs, 12) else ((fv bs).1, bs.drop (fv bs).2.1.toNat, 0)
/-- .. raw bytes. -/
def rawS (n : Int) (bs : List UInt8) (e : Int) : List UInt8 × List UInt8 × Int :=
  if n < 0 then ([], bs, if e = 0 then 12 else e) else takeS n.toNat bs e
/-- .. a count. -/
def countS (most : Int) (bs : List UInt8) (e : Int) : Int × List UInt8 × Int :=
  if 0 ≤ most then varS most bs e else (0, bs, if (varS 18446744073709551615 bs e).2.2 = 0 then 12 else (varS 18446744073709551615 bs e).2.2)
/-- .. a text. -/
def textS (most : Int) (bs : List UInt8) (e : Int) : List UInt8 × List UInt8 × Int :=
  if (rawS (countS most bs e).1 (countS most bs e).2.1 (countS most bs e).2.2).2.2 ≠ 0 then ((rawS (countS most bs e).1 (countS most bs e).2.1 (countS most bs e).2.2).1, bs, (rawS (countS most bs e).1 (countS most bs e).2.1 (countS most bs e).2.2).2.2)
  else rawS (countS most bs e).1 (countS most bs e).2.1 (countS most bs e).2.2
/-- A text. -/
def textB (b : List UInt8) : List UInt8 := varB b.length ++ b
end Go.Hay
end

section
namespace Go.Hay
set_option linter.unusedVariables false

theorem be_snoc (n k : Nat) : be n (k + 1) = be (n / 256) k ++ [UInt8.ofNat (n % 256)] := by
  induction k with
  | zero => simp [be]
  | succ k ih =>
    rw [be, ih, be, List.cons_append]
    congr 2
    rw [Nat.div_div_eq_div_mul, Nat.pow_succ, Nat.mul_comm]
theorem be_num_rev (l : List UInt8) : be (num l.reverse) l.length = l.reverse := by
  induction l with
  | nil => simp [be]
  | cons x l ih =>
    have hx := x.toNat_lt
    rw [List.reverse_cons, num_snoc, List.length_cons, be_snoc, show (num l.reverse * 256 + x.toNat) / 256 = num l.reverse by omega, ih, show (num l.reverse * 256 + x.toNat) % 256 = x.toNat by omega, UInt8.ofNat_toNat]
theorem be_num (xs : List UInt8) : be (num xs) xs.length = xs := by simpa using be_num_rev xs.reverse
theorem num_be (n k : Nat) : num (be n k) = n % 256 ^ k := by
  induction k generalizing n with
  | zero => simp [be, num, Nat.mod_one]
  | succ k ih =>
    rw [be_snoc, num_snoc, ih, UInt8.toNat_ofNat', show 256 ^ (k + 1) = 256 * 256 ^ k by rw [Nat.pow_succ, Nat.mul_comm], Nat.mod_mul]
    omega
theorem octet_nat (x : UInt8) : octet x.toNat = x := by simp [octet]

/-- What is read as a number is written as the same bytes. -/
theorem fv_back (bs : List UInt8) (h : (fv bs).2.2 = 0) : varB (fv bs).1 = bs.take (fv bs).2.1.toNat ∧ 1 ≤ (fv bs).2.1 := by
  cases bs with
  | nil => simp [fv] at h
  | cons f r =>
    have hf := f.toNat_lt
    have hb := behindI_bd f.toNat
    simp only [fv] at h ⊢
    split
    · rename_i h0
      have hl : leadI f.toNat = f.toNat := by
        unfold behindI at h0
        unfold leadI
        repeat (first | split at h0 | (split <;> omega) | omega)
      simp only [varB, hl, h0, octet_nat]
      simp [be]
    · rename_i h0
      rw [if_neg h0] at h
      by_cases h1 : (r.length : Int) < behindI f.toNat
      · rw [if_pos h1] at h; simp at h
      rw [if_neg h1] at h ⊢
      by_cases h2 : leadI (num (r.take (behindI f.toNat).toNat)) ≠ f.toNat
      · rw [if_pos h2] at h; simp at h
      rw [if_neg h2]
      have h3 : leadI (num (r.take (behindI f.toNat).toNat)) = f.toNat := Decidable.not_not.1 h2
      obtain ⟨k, hk⟩ : ∃ k : Nat, behindI f.toNat = k := ⟨(behindI f.toNat).toNat, by omega⟩
      rw [hk, Int.toNat_natCast] at h3
      have hlen : (r.take k).length = k := by simp; omega
      refine ⟨?_, by show 1 ≤ 1 + behindI f.toNat; omega⟩
      show varB (num (r.take (behindI f.toNat).toNat)) = List.take (1 + behindI f.toNat).toNat (f :: r)
      rw [hk, Int.toNat_natCast]
      simp only [varB]
      rw [h3, hk, Int.toNat_natCast, Int.toNat_natCast, octet_nat]
      have e := be_num (r.take k)
      rw [hlen] at e
      rw [e, show (1 + (k : Int)).toNat = k + 1 by omega, List.take_succ_cons]

/-- Of a Var that was read: in words that the law uses. -/
theorem varS_cases (most : Int) (bs : List UInt8) {n : Int} {bs' : List UInt8} {e' : Int} (h0 : 0 ≤ most) (h : varS most bs 0 = (n, bs', e')) :
    0 ≤ n ∧ n < 18446744073709551616 ∧ bs'.length ≤ bs.length ∧ (e' ≠ 0 → n = 0 ∧ bs' = bs) ∧ (e' = 0 → n ≤ most ∧ varB n = bs.take (bs.length - bs'.length)) := by
  have hbd := fv_bd bs
  have hbk := fv_back bs
  unfold varS at h
  rw [if_neg (by simp)] at h
  split at h
  · rename_i h1
    cases h
    exact ⟨by omega, by omega, Nat.le_refl _, fun _ => ⟨rfl, rfl⟩, fun h => absurd h h1⟩
  · rename_i h1
    have h1' : (fv bs).2.2 = 0 := Decidable.not_not.1 h1
    have hbk := hbk h1'
    split at h
    · cases h
      exact ⟨by omega, by omega, Nat.le_refl _, fun _ => ⟨rfl, rfl⟩, fun h => by simp at h⟩
    · cases h
      refine ⟨by omega, by omega, by simp, fun h => absurd rfl h, fun _ => ⟨by omega, ?_⟩⟩
      rw [hbk.1]
      congr 1
      rw [List.length_drop]
      omega
end Go.Hay
end

section
namespace Go.Proofs.Ytfolkjjhlcjfgaa
open Go.ChangeShapes Go.WideShapes Go.ChangeAt Go.RowKit Go.Hay
set_option linter.unusedVariables false

theorem Try.own : ownKnob Try.prog.godebug = none := by kernel_rfl
theorem Try.laidOut : laidOutB Try.prog = true := by kernel_rfl

/-- How many values a slice's datum holds, its spare places too. -/
def capD {H : Type} : DataW H → Nat
  | .slice e sp => e.length + sp.length
  | _ => 0
theorem bulk_pos {H : Type} (d : DataW H) : 1 ≤ Rows.uptoBulk d := by
  cases d with
  | lit l => cases l <;> simp [Rows.uptoBulk]
  | _ => simp [Rows.uptoBulk]
theorem bulkAll_ge {H : Type} (l : List (DataW H)) : l.length ≤ Rows.uptoBulkAll l := by
  induction l with
  | nil => simp
  | cons d l ih => have := bulk_pos d; simp only [Rows.uptoBulkAll, List.length_cons]; omega
theorem bulk_cap {H : Type} (d : DataW H) : capD d + 1 ≤ Rows.uptoBulk d := by
  cases d with
  | slice e sp => have := bulkAll_ge e; have := bulkAll_ge sp; simp only [capD, Rows.uptoBulk]; omega
  | lit l => cases l <;> simp [capD, Rows.uptoBulk]
  | _ => simp [capD, Rows.uptoBulk]
theorem bulkAll_map {H : Type} (n : Nat) (D : Nat → DataW H) (f : Nat → Nat) (h : ∀ i, i < n → f i ≤ Rows.uptoBulk (D i)) : ((List.range n).map f).sum ≤ Rows.uptoBulkAll ((List.range n).map D) := by
  have gen : ∀ l : List Nat, (∀ i ∈ l, f i ≤ Rows.uptoBulk (D i)) → (l.map f).sum ≤ Rows.uptoBulkAll (l.map D) := by
    intro l
    induction l with
    | nil => intro _; simp
    | cons i l ih =>
      intro hl
      have h1 := hl i (by simp)
      have h2 := ih (fun j hj => hl j (by simp [hj]))
      simp only [List.map_cons, List.sum_cons, Rows.uptoBulkAll]
      omega
  exact gen _ (fun i hi => h i (List.mem_range.1 hi))
theorem mem_weightsAll {H : Type} {P : Program} {e : TypeId} {l : List (DataW H)} {d : DataW H} (hd : d ∈ l) {x : Nat} (hx : x ∈ d.weights P e) : x ∈ DataW.weightsAll P e l := by
  induction l with
  | nil => cases hd
  | cons y l ih =>
    rw [DataW.weightsAll, List.mem_append]
    rcases List.mem_cons.1 hd with rfl | h
    · exact .inl hx
    · exact .inr (ih h)
/-- Within the form's reach. -/
def Fit {H : Type} (t : TypeId) (d : DataW H) : Prop := (DataW.weights Try.prog t d).all (· ≤ reachBytes) = true

theorem openEls {α : Type} [Inhabited α] (E : El α) {t e : TypeId} (ht : Try.prog.underlying t = some (.slice e)) (hcells : Try.prog.cellsOf e = E.n) (B : Nat) (hB : Try.prog.bytesOf e = B)
    {H : Type} {enc : TypeId × Value → H} {W : World} (ok : α → Prop) (Q : α → Prop) (bk : α → Nat)
    (op : ∀ fuel cs x, DataW.trod enc Try.prog W 0 (fun _ => true) true fuel e cs = some x → cs.length = E.n → ∃ y : α, ok y ∧ cs = E.c y ∧ (Fit e x.1 → Q y) ∧ bk y ≤ Rows.uptoBulk x.1)
    {a : Option Addr} {len cap : Nat} {d : DataW H} {ps : List MemPlace} (h : DataW.Trod enc Try.prog W 0 (fun _ => true) true t (.slice a len cap) d ps) :
    ∃ l : List α, len = l.length ∧ E.See W a l ∧ (∀ y ∈ l, ok y) ∧ l.length ≤ cap ∧ cap ≤ maxLen ∧ (a = none → cap = 0) ∧ (Fit t d → cap * B ≤ 140737488351232 ∧ ∀ y ∈ l, Q y) ∧ (l.map bk).sum ≤ Rows.uptoBulk d ∧ cap + 1 ≤ Rows.uptoBulk d := by
  obtain ⟨fuel, hf⟩ := h
  rcases Go.Deep.open_slice ht hf with ⟨hcs, hx⟩ | ⟨x, len', cap', m, n, D, Pl, hcs, _, hl, hmx, hm, hx, hcell⟩
  · simp [Value.cells] at hcs
    obtain ⟨rfl, rfl, rfl⟩ := hcs
    cases hx
    exact ⟨[], rfl, .inl rfl, by simp, Nat.le_refl _, Nat.zero_le _, fun _ => rfl, fun _ => ⟨by omega, by simp⟩, by simp, by simp [Rows.uptoBulk]⟩
  · simp [Value.cells] at hcs
    obtain ⟨rfl, rfl, rfl⟩ := hcs
    cases hx
    have hm' : m = cap := by simpa using hm
    subst hm'
    rw [hcells] at hcell
    obtain ⟨Y, hY⟩ := Go.Deep.choose_lt (α := α) (n := len) (p := fun i y => ok y ∧ (∀ k u, (E.c y)[k]? = some u → W.cell? ((x.add (i * E.n)).add k) = some u) ∧ (Fit e (D i) → Q y) ∧ bk y ≤ Rows.uptoBulk (D i)) (fun i hi => by
      obtain ⟨cs', h1, h2⟩ := hcell i (by omega)
      obtain ⟨_, hlen, hc⟩ := World.cells?_some h1
      obtain ⟨y, g1, rfl, g2, g3⟩ := op _ _ _ h2 hlen
      refine ⟨y, g1, fun k u hu => ?_, g2, g3⟩
      have hk : k < E.n := by have := (List.getElem?_eq_some_iff.1 hu).1; rwa [E.len] at this
      exact (hc k hk).trans hu)
    refine ⟨(List.range len).map Y, by simp, ?_, ?_, by simpa using hl, hmx, fun h => (by cases h), fun hfit => ?_, ?_, ?_⟩
    · cases hlen : len with
      | zero => exact .inl rfl
      | succ k =>
        obtain ⟨b, off, spot⟩ := x
        have h0 : 0 < (E.c (Y 0)).length := by rw [E.len]; exact E.pos
        have hc0 := (hY 0 (by omega)).2.1 0 _ (List.getElem?_eq_getElem h0)
        have hspot : spot = none := by
          have := World.cell?_spot hc0
          simpa [Addr.add] using this
        subst hspot
        refine .inr ⟨b, off, rfl, fun j u hu => ?_⟩
        rw [← hlen] at hu
        have hj : j < ((List.range len).map Y).length * E.n := by have := (List.getElem?_eq_some_iff.1 hu).1; rwa [El.cs_length] at this
        have hpos := E.pos
        have hq : j / E.n < len := by
          rw [List.length_map, List.length_range] at hj
          exact Nat.div_lt_of_lt_mul (by rw [Nat.mul_comm]; exact hj)
        have hr : j % E.n < E.n := Nat.mod_lt _ hpos
        have hje : j = j / E.n * E.n + j % E.n := by rw [Nat.mul_comm]; exact (Nat.div_add_mod j E.n).symm
        have hget : ((List.range len).map Y)[j / E.n]? = some (Y (j / E.n)) := by rw [List.getElem?_map, List.getElem?_range hq]; rfl
        rw [hje, El.cs_get E hget hr] at hu
        have hcc := (hY _ hq).2.1 _ _ hu
        rw [Addr.add_lit, Addr.add_lit, Nat.add_assoc, ← hje] at hcc
        exact hcc
    · intro y hy
      obtain ⟨i, hi, rfl⟩ := List.mem_map.1 hy
      exact (hY i (List.mem_range.1 hi)).1
    · unfold Fit at hfit
      simp only [DataW.weights, ht] at hfit
      rw [List.all_cons, Bool.and_eq_true] at hfit
      refine ⟨?_, fun y hy => ?_⟩
      · have := of_decide_eq_true hfit.1
        simp only [List.length_map, List.length_range, hB, reachBytes] at this
        rwa [show len + (m - len) = m by omega] at this
      · obtain ⟨i, hi, rfl⟩ := List.mem_map.1 hy
        refine (hY i (List.mem_range.1 hi)).2.2.1 (List.all_eq_true.2 fun x hx => List.all_eq_true.1 hfit.2 x ?_)
        rw [List.mem_append]
        exact .inl (mem_weightsAll (List.mem_map_of_mem hi) hx)
    · have := bulkAll_map len D (fun i => bk (Y i)) (fun i hi => (hY i hi).2.2.2)
      simp only [List.map_map, Rows.uptoBulk]
      have e : (List.range len).map (bk ∘ Y) = (List.range len).map (fun i => bk (Y i)) := rfl
      rw [e]
      omega
    · have := bulk_cap (.slice ((List.range len).map D) ((List.range (m - len)).map fun j => D (len + j)) : DataW H)
      simp only [capD, List.length_map, List.length_range] at this
      omega

/-- A byte. -/
def ByteE : El UInt8 where
  n := 1
  c x := [.int .u8 x.toNat]
  len _ := rfl
  one _ u hu := by simp at hu; subst hu; rfl
  pos := by decide
theorem byteCs (l : List UInt8) : ByteE.cs l = bcells l := by
  induction l with
  | nil => rfl
  | cons x l ih => rw [El.cs_cons, ih]; rfl
theorem byteSee {w : World} {a : Option Addr} {l : List UInt8} (h : ByteE.See w a l) : Sees w a l := by
  rcases h with h | ⟨g, o, rfl, hc⟩
  · exact .inl h
  · refine .inr ⟨g, o, rfl, fun j u hu => hc j _ ?_⟩
    rw [byteCs, bcells_get, hu]
    rfl
/-- A slice of bytes, and what it sees. -/
structure Bs where
  a : Option Addr
  c : Nat
  bs : List UInt8
def Bs.v (x : Bs) : Value := .slice x.a x.bs.length x.c
structure Bs.ok (w : World) (x : Bs) : Prop where
  see : Sees w x.a x.bs
  cap : x.bs.length ≤ x.c
  nil : x.a = none → x.c = 0
theorem Bs.ok.kept {w w' : World} {x : Bs} {S : List Nat} (h : x.ok w) (hk : Kp S w w') (hn : x.bs ≠ [] → ∀ k ∈ blk x.a, k ∉ S) : x.ok w' := ⟨h.see.kept' hk hn, h.cap, h.nil⟩
theorem Bs.ok.keptNew {w w' : World} {x : Bs} (h : x.ok w) (hk : Kp [] w w') : x.ok w' := h.kept hk (by simp)
instance : Inhabited Bs := ⟨⟨none, 0, []⟩⟩
theorem cellsB : Try.prog.cellsOf 5 = 1 := by kernel_rfl
theorem bytesB : Try.prog.bytesOf 5 = 1 := by kernel_rfl
theorem cellsI : Try.prog.cellsOf 3 = 1 := by kernel_rfl
def Few (x : Bs) : Prop := x.bs.length ≤ 140737488351232
section
variable {H : Type} {enc : TypeId × Value → H} {W : World}
/-- A number among the arguments' cells. -/
theorem openI {fuel : Nat} {v : Value} {x : DataW H × List MemPlace} (h : DataW.trod enc Try.prog W 0 (fun _ => true) true fuel 3 [v] = some x) : ∃ n : Int, v = .int .i64 n ∧ -9223372036854775808 ≤ n ∧ n ≤ 9223372036854775807 := by
  obtain ⟨n, e, _, hw⟩ := DataW.trod_int Try.underlying3 h
  have hb := bounds_i64 hw
  exact ⟨n, by simpa using e, hb.1, hb.2⟩
end
end Go.Proofs.Ytfolkjjhlcjfgaa
end

section
namespace Go.Proofs.Ytfolkjjhlcjfgaa
open Go.RowKit Go.Hay
attribute [local go_sem] Oper.semAt_some
set_option linter.unusedVariables false
set_option linter.unusedSimpArgs false

theorem rowId : (85 : TypeId) < Try.prog.types.size := of_decide_eq_true (by kernel_rfl)
theorem wideId : (match Try.prog.underlying 85 with | some (.array _ _) | some (.struct _) => true | _ => false) = true := by rw [Try.underlying85]
set_option maxRecDepth 100000 in
theorem lawId : Maps.Keyed Try.prog 85 := Maps.Keyed.of_law (deep_law_laid Try.laidOut (m := 2) (by omega) rowId (by kernel_rfl) wideId)
theorem zeroI (w : World) : (zeroValue 3).run Try.prog w = .ok (.int .i64 0) w := by kernel_rfl
theorem keyId (e n : Int) (he : 0 ≤ e ∧ e < 18446744073709551616) (hn : 0 ≤ n ∧ n < 4294967296) : ∃ kl, keyOf Try.prog 85 (.agg #[.int .u64 e, .int .u32 n]) = some kl := by
  have h1 : (Lit.int .u64 e).wf = true := by simp [Lit.wf, IntKind.min, IntKind.max, IntKind.bits, IntKind.signed]; omega
  have h2 : (Lit.int .u32 n).wf = true := by simp [Lit.wf, IntKind.min, IntKind.max, IntKind.bits, IntKind.signed]; omega
  have hsz : ∀ s : Nat, 0 < s → ∃ m, s = m + 1 := fun s h => ⟨s - 1, by omega⟩
  obtain ⟨m, hm⟩ := hsz Try.prog.types.size (Nat.lt_of_le_of_lt (Nat.zero_le _) rowId)
  have hk : Try.prog.keyType 85 = true := by kernel_rfl
  have hc : Try.prog.cellsOf 85 = 2 := by kernel_rfl
  have hc1 : Try.prog.cellsOf 82 = 1 := by kernel_rfl
  have hc2 : Try.prog.cellsOf 83 = 1 := by kernel_rfl
  have hf : (Value.agg #[.int .u64 e, .int .u32 n]).formed Try.prog 85 = true := by simp [Value.formed, Try.underlying85, hc]
  unfold keyOf
  rw [Try.underlying85]
  simp only [hk, hf, Bool.and_self, if_true, hm]
  simp [Program.keyLits, Try.underlying85, Try.underlying82, Try.underlying83, hc, hc1, hc2, Value.cells, h1, h2]
theorem mkMap (n : Nat) (w : World) : (Instr.makeMap 88 (some (.int .i64 (n : Int)))).run Try.prog w = .ok (.map (some w.heap.size)) (w.alloc (.map #[] 0)) := by
  simp [Instr.makeMap, run_underlying Try.underlying88, go_sem]
/-- The first of a name. -/
def fi (B : List Vr) (e n : Int) : Option Nat := B.findIdx? fun b => decide ((b.e, b.n) = (e, n))
theorem fi_snoc (L : List Vr) (x : Vr) (e n : Int) : fi (L ++ [x]) e n = (fi L e n).or (if decide ((x.e, x.n) = (e, n)) then some L.length else none) := by
  unfold fi
  rw [List.findIdx?_append]
  congr 1
  by_cases h : decide ((x.e, x.n) = (e, n)) = true
  · simp only [List.findIdx?_cons, h, if_true, Option.map_some, Nat.zero_add]
  · simp only [List.findIdx?_cons, h, List.findIdx?_nil, Option.map_none]
    simp
theorem fi_some {B : List Vr} {e n : Int} {i : Nat} (h : fi B e n = some i) : ∃ hi : i < B.length, (B.find? fun b => decide ((b.e, b.n) = (e, n))) = some B[i] := by
  obtain ⟨hi, hp, hn⟩ := List.findIdx?_eq_some_iff_getElem.1 h
  exact ⟨hi, find_first _ B i hi (fun k hk hki => by have := hn k hki; simpa using this) hp⟩
theorem fi_none {B : List Vr} {e n : Int} (h : fi B e n = none) : (B.find? fun b => decide ((b.e, b.n) = (e, n))) = none := by
  have := List.findIdx?_eq_none_iff.1 h
  exact List.find?_eq_none.2 fun x hx h => Bool.noConfusion ((this x hx).symm.trans h)
/-- The map tells of each name the first place. -/
def MapOk (D : DataW Unit) (B : List Vr) : Prop := ∀ (e n : Int) (kl : Lit), keyOf Try.prog 85 (.agg #[.int .u64 e, .int .u32 n]) = some kl → (∀ i, fi B e n = some i → Maps.has D kl = true ∧ D.atKey kl (.lit (.int .i64 0)) = .lit (.int .i64 ((i : Nat) : Int))) ∧ (fi B e n = none → Maps.has D kl = false)
theorem MapOk.nil : MapOk (.map []) [] := fun e n kl _ => ⟨fun i h => (by cases h), fun _ => rfl⟩
theorem MapOk.put {D : DataW Unit} {L : List Vr} (h : MapOk D L) (hD : Maps.IsMap D) {x : Vr} {kl : Lit} (hk : keyOf Try.prog 85 (.agg #[.int .u64 x.e, .int .u32 x.n]) = some kl) (hn : fi L x.e x.n = none) : MapOk (D.put kl (.lit (.int .i64 ((L.length : Nat) : Int)))) (L ++ [x]) := fun e n kl' hk' => by
  rw [fi_snoc]
  by_cases he : (x.e, x.n) = (e, n)
  · have e1 : x.e = e := congrArg Prod.fst he
    have e2 : x.n = n := congrArg Prod.snd he
    subst e1 e2
    rw [hk] at hk'
    cases hk'
    rw [hn]
    simp only [decide_true, if_true, Option.none_or]
    exact ⟨fun i hi => by cases hi; exact ⟨Maps.has_put_same hD (lawId.key hk) _, Maps.atKey_put_same hD (lawId.key hk) _ _⟩, fun hi => (by cases hi)⟩
  · have hne : kl' ≠ kl := fun e' => he (by
      rw [e'] at hk'
      have := lawId.inj hk hk'
      simp at this
      rw [this.1, this.2])
    simp only [he, decide_false, Bool.false_eq_true, if_false, Option.or_none]
    rw [Maps.has_put_other hne, Maps.atKey_put_other hne]
    exact h e n kl' hk'
theorem MapOk.skip {D : DataW Unit} {L : List Vr} (h : MapOk D L) {x : Vr} {i0 : Nat} (hn : fi L x.e x.n = some i0) : MapOk D (L ++ [x]) := fun e n kl' hk' => by
  rw [fi_snoc]
  by_cases he : (x.e, x.n) = (e, n)
  · have e1 : x.e = e := congrArg Prod.fst he
    have e2 : x.n = n := congrArg Prod.snd he
    subst e1 e2
    have := h _ _ kl' hk'
    rw [hn] at this ⊢
    simpa using this
  · simp only [he, decide_false, Bool.false_eq_true, if_false, Option.or_none]
    exact h e n kl' hk'
theorem kpGrownM {X Y : World} {b : Nat} (h : X.grownBy Y (some b)) : Kp [b] X Y := ⟨h.os, h.tape, h.output, h.size, fun k hk hn => h.block k hk (fun e => hn (by simpa using e))⟩
abbrev OwnM (w : World) (q n : Nat) (D : DataW Unit) : Prop := w.ownsMap Try.prog 85 (plainElem Try.prog 3) q n D
theorem ownKept {X Y : World} {S : List Nat} {q n : Nat} {D : DataW Unit} (h : OwnM X q n D) (k : Kp S X Y) (hq : q ∉ S) : OwnM Y q n D := by
  obtain ⟨es, cl, hb, r⟩ := h
  exact ⟨es, cl, (k.block q (Array.getElem?_eq_some_iff.1 hb).1 hq).trans hb, r⟩
theorem boxVr (w : World) (e n : Int) (a : Option Addr) (l c : Nat) (d : Int) : ∃ q W1 W2, w.heap.size = q ∧ w.alloc (.cells #[.int .u64 0, .int .u32 0, .slice none 0 0, .int .u64 0] 87) = W1 ∧ Bn W1 q [.int .u64 0, .int .u32 0, .slice none 0 0, .int .u64 0] ∧ (((W1.setCell ⟨q, 0, none⟩ (.int .u64 e)).setCell ⟨q, 1, none⟩ (.int .u32 n)).setCell ⟨q, 2, none⟩ (.slice a l c)).setCell ⟨q, 3, none⟩ (.int .u64 d) = W2 ∧ Bn W2 q [.int .u64 e, .int .u32 n, .slice a l c, .int .u64 d] ∧ Kp [] w W2 := by
  have b0 := Bn.new w [.int .u64 0, .int .u32 0, .slice none 0 0, .int .u64 0] 87
  have k0 : Kp [] w (w.alloc (.cells #[.int .u64 0, .int .u32 0, .slice none 0 0, .int .u64 0] 87)) := (Kp.refl _ _).alloc _
  have h : w.heap.size ∈ ([] : List Nat) ∨ w.heap.size ≤ w.heap.size := .inr (Nat.le_refl _)
  exact ⟨_, _, _, rfl, rfl, b0, rfl, (((b0.set 0 (by simp) (.int .u64 e)).set 1 (by simp) (.int .u32 n)).set 2 (by simp) (.slice a l c)).set 3 (by simp) (.int .u64 d), (((k0.setCell h _).setCell h _).setCell h _).setCell h _⟩
set_option maxHeartbeats 32000000 in
set_option maxRecDepth 100000 in
theorem cRejoin (a b : Option Addr) (ca cb : Nat) (A B : List Vr) (w : World) (ha : VrE.See w a A) (hb : VrE.See w b B) (hA : ∀ x ∈ A, Vr.lies w x) (hB : ∀ x ∈ B, Vr.lies w x) (hl : A.length ≤ 1048576) (hm : B.length ≤ 1048576) (hAl : ∀ x ∈ A, x.l.length ≤ 1048576) (hBl : ∀ x ∈ B, x.l.length ≤ 1048576) :
    Calls Try.prog 26 #[.slice a A.length ca, .slice b B.length cb] w (LovP (rejR A B) w) := by
  have HA := hid ha
  have HB := hid hb
  have HLA := hid hA
  have HLB := hid hB
  have hAl' := hid hAl
  have hBl' := hid hBl
  obtain ⟨w1, hw1, k1⟩ : ∃ x, w.alloc (.map #[] 0) = x ∧ Kp [] w x := ⟨_, rfl, (Kp.refl _ _).alloc _⟩
  obtain ⟨qm, hqm⟩ : ∃ q, w.heap.size = q := ⟨_, rfl⟩
  have hmm := mkMap B.length w
  rw [hw1, hqm] at hmm
  have own1 : OwnM w1 qm 0 (.map []) := by rw [← hw1, ← hqm]; exact World.ownsMap_made _ _ _ _
  have H0 : Hid (OwnM w1 qm 0 (.map []) ∧ MapOk (.map []) (B.take 0) ∧ Kp [] w w1) := ⟨own1, MapOk.nil, k1⟩
  clear ha hb hA hB hAl hBl own1 k1
  go_enter Try.func26, Try.ntmps26
  go_wp2_with fail
  go_loopw [20] (fun i wr => ∃ (j : Nat) (D : DataW Unit), j ≤ B.length ∧ i = .int .i64 (j : Int) ∧ Hid (OwnM wr qm j D ∧ MapOk D (B.take j) ∧ Kp [] w wr)) (fun i _ => B.length - (intOf i).toNat)
  case atStart => exact ⟨0, _, Nat.zero_le _, rfl, H0⟩
  case round =>
    obtain ⟨j, D, hj, rfl, H⟩ := hrel
    clear H0
    by_cases hlt : j < B.length
    · obtain ⟨g, o, ea, x0, x1, x2, x3⟩ := vrAt HB.out (j := j) (x := B[j]) (by simp [hlt])
      have hxli := HLB.out B[j] (List.getElem_mem hlt)
      have htk : Hid (B.take (j + 1) = B.take j ++ [B[j]]) := List.take_succ_eq_append_getElem hlt
      have htl : Hid ((B.take j).length = j) := by show _ = _; rw [List.length_take]; omega
      obtain ⟨x, hx⟩ : ∃ x, Hid (B[j] = x) := ⟨B[j], rfl⟩
      rw [hx.out] at x0 x1 x2 x3 hxli htk
      obtain ⟨xe, xn, xa, xc, xl, xd⟩ := x
      dsimp only at x0 x1 x2 x3
      obtain ⟨kl, hkl⟩ := keyId xe xn hxli.e hxli.n
      obtain ⟨q7, W1, W2, eq7, eW1, b1, eW2, b2, kW2⟩ := boxVr wr xe xn xa xl.length xc xd
      have g0 := kpAt H.out.2.2 x0; have g1 := kpAt H.out.2.2 x1; have g2 := kpAt H.out.2.2 x2; have g3 := kpAt H.out.2.2 x3
      have m0 := b1.get 0 _ rfl; have m1 := b1.get 1 _ rfl; have m2 := b1.get 2 _ rfl; have m3 := b1.get 3 _ rfl
      have f0 := b1.free 0; have f1 := b1.free 1; have f2 := b1.free 2; have f3 := b1.free 3
      have v0 := b2.get 0 _ rfl; have v1 := b2.get 1 _ rfl; have v2 := b2.get 2 _ rfl; have v3 := b2.get 3 _ rfl
      have own2 : OwnM W2 qm j D := ownKept H.out.1 kW2 (by simp)
      have KW2 := hid (H.out.2.2.trans kW2 (by simp))
      have i1 : (0 : Int) ≤ (j : Int) := by omega
      have i2 : (j : Int) < (B.length : Int) := by omega
      have i3 : (j : Int) + 1 ≤ 9223372036854775807 := by omega
      have hqmw : w.heap.size ≤ qm := by omega
      have hmk := H.out.2.1 xe xn kl hkl
      subst ea
      clear x0 x1 x2 x3 b1 b2 kW2 hxli
      cases hfi : fi (B.take j) xe xn with
      | some i0 =>
        obtain ⟨hh, hat0⟩ := hmk.1 i0 hfi
        have HM2 : Hid (OwnM W2 qm (j + 1) D ∧ MapOk D (B.take (j + 1)) ∧ Kp [] w W2) := ⟨own2.mono (Nat.le_succ _), by rw [htk.out]; exact H.out.2.1.skip hfi, KW2.out⟩
        have hfi' := hid hfi
        have hat' := hid hat0
        clear hmk hfi hat0
        go_wp2_with (first | (at_lookup; refine wpList_lookup_own_ok_int _ rfl _ _ 88 rfl 85 3 .i64 lawId Try.underlying88 Try.underlying3 (zeroI _) qm j D rfl own2 _ kl rfl hkl ?_; intro c hat hwc; rw [hh]; clear hat hwc) | fail)
        go_roundw
        case rel => exact ⟨j + 1, D, by omega, by go_num, HM2⟩
        case measure => simp [intOf]; omega
      | none =>
        have hh := hmk.2 hfi
        have hfi' := hid hfi
        have hval : plainElem (H := Unit) Try.prog 3 (.int .i64 (j : Int)) = some (.lit (.int .i64 (j : Int)), []) := plainElem_int Try.underlying3 (by simp [Lit.wf, IntKind.min, IntKind.max, IntKind.bits, IntKind.signed]; omega)
        clear hmk hfi
        go_wp2_with (first | (at_lookup; refine wpList_lookup_own_ok_int _ rfl _ _ 88 rfl 85 3 .i64 lawId Try.underlying88 Try.underlying3 (zeroI _) qm j D rfl own2 _ kl rfl hkl ?_; intro c hat hwc; rw [hh]; clear hat hwc) | (at_mapUpdate; refine wpList_mapUpdate_own _ rfl _ _ _ 88 rfl 85 3 lawId Try.underlying88 _ qm j _ rfl own2 (by unfold maxLen; omega) _ _ kl rfl rfl hkl _ [] hval ?_; intro w5 own5 hg5) | fail)
        exact ⟨⟨j + 1, _, by omega, by go_num, ⟨own5, by rw [htk.out]; have h1 := H.out.2.1.put own2.isMap (x := ⟨xe, xn, xa, xc, xl, xd⟩) hkl hfi'.out; rw [htl.out] at h1; exact h1, KW2.out.trans (kpGrownM hg5) (fun x hx => .inr (by simp at hx; omega))⟩⟩, by simp [intOf]; omega⟩
    · obtain ⟨w9, hw9⟩ : ∃ x, x = wr := ⟨_, rfl⟩
      subst hw9
      have hje : j = B.length := by omega
      have HM : Hid (OwnM w9 qm j D ∧ MapOk D B ∧ Kp [] w w9) := ⟨H.out.1, by have h1 := H.out.2.1; rw [hje, List.take_length] at h1; exact h1, H.out.2.2⟩
      have hqr : qm < w9.heap.size := H.out.1.lt
      have dj1 : ¬ (j : Int) < (B.length : Int) := by omega
      have dj2 : decide ((j : Int) < (B.length : Int)) = false := by simp; omega
      have H1 : Hid (Lov w9.heap.size none 0 [] w9 ∧ OwnM w9 qm j D ∧ Kp [] w9 w9) := ⟨Lov.nil _ _, H.out.1, Kp.refl _ _⟩
      have hje' := hid hje
      clear hje H
      go_wp2_with fail
      go_loopw [10, 41] (fun v10 i w2 => ∃ (k : Nat) (ra : Option Addr) (rc : Nat) (m : List Vr), k ≤ A.length ∧ i = .int .i64 (k : Int) ∧ v10 = .slice ra m.length rc ∧ Hid (m.map Vr.pr = rejR (A.take k) B) ∧ Hid (Lov w9.heap.size ra rc m w2 ∧ OwnM w2 qm j D ∧ Kp [] w9 w2)) (fun _ i _ => A.length - (intOf i).toNat)
      case atStart => exact ⟨0, none, 0, [], Nat.zero_le _, rfl, rfl, rfl, H1⟩
      case round =>
        obtain ⟨k, ra, rc, m, hk, rfl, rfl, hme, H⟩ := hrel
        clear H1
        have hml : m.length ≤ k := by
          have h1 := congrArg List.length hme.out
          have h2 := List.length_filterMap_le (rejO B) (A.take k)
          unfold rejR at h1
          rw [List.length_map] at h1
          rw [List.length_take] at h2
          omega
        have KWr := hid (HM.out.2.2.trans H.out.2.2 (by simp))
        by_cases hlt : k < A.length
        · have hsn := hid (rejR_snoc (B := B) hlt)
          obtain ⟨g, o, ea, x0, x1, x2, x3⟩ := vrAt HA.out (j := k) (x := A[k]) (by simp [hlt])
          have hxli := hid (HLA.out A[k] (List.getElem_mem hlt))
          have hxl := hAl'.out A[k] (List.getElem_mem hlt)
          obtain ⟨x, hx⟩ : ∃ x, Hid (A[k] = x) := ⟨A[k], rfl⟩
          rw [hx.out] at x0 x1 x2 x3 hxli hxl hsn
          obtain ⟨xe, xn, xa, xc, xl, xd⟩ := x
          dsimp only at x0 x1 x2 x3 hxl
          obtain ⟨kl, hkl⟩ := keyId xe xn hxli.out.e hxli.out.n
          obtain ⟨q12, W1, W2, eq12, eW1, b1, eW2, b2, kW2⟩ := boxVr wr xe xn xa xl.length xc xd
          have g0 := kpAt KWr.out x0; have g1 := kpAt KWr.out x1; have g2 := kpAt KWr.out x2; have g3 := kpAt KWr.out x3
          have m0 := b1.get 0 _ rfl; have m1 := b1.get 1 _ rfl; have m2 := b1.get 2 _ rfl; have m3 := b1.get 3 _ rfl
          have f0 := b1.free 0; have f1 := b1.free 1; have f2 := b1.free 2; have f3 := b1.free 3
          have v0 := b2.get 0 _ rfl; have v1 := b2.get 1 _ rfl; have v2 := b2.get 2 _ rfl; have v3 := b2.get 3 _ rfl
          have own2 : OwnM W2 qm j D := ownKept H.out.2.1 kW2 (by simp)
          have K9 := hid (H.out.2.2.trans kW2 (by simp))
          have KW2 := hid (KWr.out.trans kW2 (by simp))
          have HL2 := hid (H.out.1.ck (CK.ofKp kW2) (by simp) (by simp))
          have BB := hid b2
          have i1 : (0 : Int) ≤ (k : Int) := by omega
          have i2 : (k : Int) < (A.length : Int) := by omega
          have i3 : (k : Int) + 1 ≤ 9223372036854775807 := by omega
          have hmk := HM.out.2.1 xe xn kl hkl
          have OWN := hid own2
          have hml' := hid hml
          have zq : q12 < W2.heap.size := b2.lt (by simp)
          have zq9 : w9.heap.size ≤ q12 := by have := H.out.2.2.size; omega
          subst ea
          clear x0 x1 x2 x3 b1 b2 kW2 hml
          cases hfi : fi B xe xn with
          | none =>
            have hh := hmk.2 hfi
            have hm5 : Hid (m.map Vr.pr = rejR (A.take (k + 1)) B) := by
              show _ = _
              rw [hsn.out, hme.out, rejO, fi_none hfi]
              simp
            have HF : Hid (Lov w9.heap.size ra rc m W2 ∧ OwnM W2 qm j D ∧ Kp [] w9 W2) := ⟨HL2.out, own2, K9.out⟩
            clear hmk hfi
            go_wp2_with (first | (at_lookup; refine wpList_lookup_own_ok_int _ rfl _ _ 88 rfl 85 3 .i64 lawId Try.underlying88 Try.underlying3 (zeroI _) qm j D rfl own2 _ kl rfl hkl ?_; intro c hat hwc; rw [hh]; clear hat hwc) | fail)
            go_roundw
            case rel => exact ⟨k + 1, ra, rc, m, by omega, by go_num, rfl, hm5, HF⟩
            case measure => simp [intOf]; omega
          | some i0 =>
            obtain ⟨hh, hat0⟩ := hmk.1 i0 hfi
            obtain ⟨hi0, hfd⟩ := fi_some hfi
            obtain ⟨gb, ob, eb, y0, y1, y2, y3⟩ := vrAt HB.out (j := i0) (x := B[i0]) (by simp [hi0])
            have hyli := hid (HLB.out B[i0] (List.getElem_mem hi0))
            have hyl := hBl'.out B[i0] (List.getElem_mem hi0)
            have hm5 : Hid (∀ z : Vr, z.pr = (xe, xn, xl ++ B[i0].l, xd) → (m ++ [z]).map Vr.pr = rejR (A.take (k + 1)) B) := fun z hz => by
              rw [hsn.out, List.map_append, hme.out, rejO, hfd, List.map_cons, hz]
              rfl
            obtain ⟨y, hy⟩ : ∃ y, Hid (B[i0] = y) := ⟨B[i0], rfl⟩
            rw [hy.out] at y0 y1 y2 y3 hyli hyl
            simp only [hy.out] at hm5
            obtain ⟨ye, yn, ya, yc, yl, yd⟩ := y
            dsimp only at y0 y1 y2 y3 hyl hm5
            have HC : Hid (∀ W', Kp [] W2 W' → W'.cell? ⟨q12, 0, none⟩ = some (.int .u64 xe) ∧ W'.cell? ⟨q12, 1, none⟩ = some (.int .u32 xn) ∧ W'.cell? ⟨q12, 2, none⟩ = some (.slice xa xl.length xc) ∧ W'.cell? ⟨q12, 3, none⟩ = some (.int .u64 xd) ∧ W'.cell? ⟨gb, ob + i0 * 4 + 2, none⟩ = some (.slice ya yl.length yc)) := fun W' q => ⟨(BB.out.kept q).get 0 _ rfl, (BB.out.kept q).get 1 _ rfl, (BB.out.kept q).get 2 _ rfl, (BB.out.kept q).get 3 _ rfl, kpAt (KW2.out.trans q (by simp)) y2⟩
            have HYB := hid y2
            have j1 : (0 : Int) ≤ (i0 : Int) := by omega
            have j2 : (i0 : Int) < (B.length : Int) := by omega
            subst eb
            clear hmk hfi y0 y1 y2 y3 hfd
            go_wp2_with (first | (at_lookup; refine wpList_lookup_own_ok_int _ rfl _ _ 88 rfl 85 3 .i64 lawId Try.underlying88 Try.underlying3 (zeroI _) qm j D rfl own2 _ kl rfl hkl ?_; intro c hat hwc; rw [hat0] at hat; obtain rfl : (i0 : Int) = c := (by simpa using hat); rw [hh]; clear hat hwc) | fail)
            refine wp_noPanicY ?_
            refine wp_region_held_drew (S := fun W' => W'.cell? ⟨q12, 0, none⟩ = some (.int .u64 xe) ∧ W'.cell? ⟨q12, 1, none⟩ = some (.int .u32 xn) ∧ W'.cell? ⟨q12, 2, none⟩ = some (.slice xa xl.length xc) ∧ W'.cell? ⟨q12, 3, none⟩ = some (.int .u64 xd) ∧ W'.cell? ⟨gb, ob + i0 * 4 + 2, none⟩ = some (.slice ya yl.length yc)) (by kernel_rfl) (HC.out _ (Kp.refl [] W2).drew) (fun hHeld => ?_)
            have KD : Hid (Kp [] W2 W2.drew) := hid (Kp.refl _ _).drew
            generalize W2.drew = wd at *
            refine wpAnyH_take (i := 0) (v := ?_) rfl (by kernel_rfl) (by kernel_rfl) (by kernel_rfl) (fun _ _ _ h => by cases h.1) (Or.inl ⟨by rfl, ?_⟩) (by assumption) ?_
            rotate_left
            · intro w hSw; (try dsimp only at hSw); go_simp <;> with_reducible rfl
            try simp only [Act.put, List.getElem_toArray, List.getElem_cons_zero, List.getElem_cons_succ, List.setIfInBounds_toArray, List.set_cons_zero, List.set_cons_succ]
            refine wpAnyH_take (i := 1) (v := ?_) rfl (by kernel_rfl) (by kernel_rfl) (by kernel_rfl) (fun _ _ _ h => by cases h.1) (Or.inl ⟨by rfl, ?_⟩) (by assumption) ?_
            rotate_left
            · intro w hSw; (try dsimp only at hSw); go_simp <;> with_reducible rfl
            try simp only [Act.put, List.getElem_toArray, List.getElem_cons_zero, List.getElem_cons_succ, List.setIfInBounds_toArray, List.set_cons_zero, List.set_cons_succ]
            refine wpAnyH_take (i := 2) (v := ?_) rfl (by kernel_rfl) (by kernel_rfl) (by kernel_rfl) (fun _ _ _ h => by cases h.1) (Or.inl ⟨by rfl, ?_⟩) (by assumption) ?_
            rotate_left
            · intro w hSw; (try dsimp only at hSw); go_simp <;> with_reducible rfl
            try simp only [Act.put, List.getElem_toArray, List.getElem_cons_zero, List.getElem_cons_succ, List.setIfInBounds_toArray, List.set_cons_zero, List.set_cons_succ]
            refine wpAnyH_take (i := 3) (v := ?_) rfl (by kernel_rfl) (by kernel_rfl) (by kernel_rfl) (fun _ _ _ h => by cases h.1) (Or.inl ⟨by rfl, ?_⟩) (by assumption) ?_
            rotate_left
            · intro w hSw; (try dsimp only at hSw); go_simp <;> with_reducible rfl
            try simp only [Act.put, List.getElem_toArray, List.getElem_cons_zero, List.getElem_cons_succ, List.setIfInBounds_toArray, List.set_cons_zero, List.set_cons_succ]
            refine wpAnyH_take (i := 4) (v := ?_) rfl (by kernel_rfl) (by kernel_rfl) (by kernel_rfl) (fun _ _ _ h => by cases h.1) (Or.inl ⟨by rfl, ?_⟩) (by assumption) ?_
            rotate_left
            · intro w hSw; (try dsimp only at hSw); go_simp <;> with_reducible rfl
            try simp only [Act.put, List.getElem_toArray, List.getElem_cons_zero, List.getElem_cons_succ, List.setIfInBounds_toArray, List.set_cons_zero, List.set_cons_succ]
            refine wpAnyH_take (i := 5) (v := ?_) rfl (by kernel_rfl) (by kernel_rfl) (by kernel_rfl) (fun _ _ _ h => by cases h.1) (Or.inl ⟨by rfl, ?_⟩) (by assumption) ?_
            rotate_left
            · intro w hSw; (try dsimp only at hSw); go_simp <;> with_reducible rfl
            try simp only [Act.put, List.getElem_toArray, List.getElem_cons_zero, List.getElem_cons_succ, List.setIfInBounds_toArray, List.set_cons_zero, List.set_cons_succ]
            refine wpAnyH_take (i := 6) (v := ?_) rfl (by kernel_rfl) (by kernel_rfl) (by kernel_rfl) (fun _ _ _ h => by cases h.1) (Or.inl ⟨by rfl, ?_⟩) (by assumption) ?_
            rotate_left
            · intro w hSw; (try dsimp only at hSw); go_simp <;> with_reducible rfl
            try simp only [Act.put, List.getElem_toArray, List.getElem_cons_zero, List.getElem_cons_succ, List.setIfInBounds_toArray, List.set_cons_zero, List.set_cons_succ]
            refine wpAnyH_take (i := 7) (v := ?_) rfl (by kernel_rfl) (by kernel_rfl) (by kernel_rfl) (fun _ _ _ h => by cases h.1) (Or.inl ⟨by rfl, ?_⟩) (by assumption) ?_
            rotate_left
            · intro w hSw; (try dsimp only at hSw); go_simp <;> with_reducible rfl
            try simp only [Act.put, List.getElem_toArray, List.getElem_cons_zero, List.getElem_cons_succ, List.setIfInBounds_toArray, List.set_cons_zero, List.set_cons_succ]
            refine wpAnyH_take (i := 8) (v := ?_) rfl (by kernel_rfl) (by kernel_rfl) (by kernel_rfl) (fun _ _ _ h => by cases h.1) (Or.inl ⟨by rfl, ?_⟩) (by assumption) ?_
            rotate_left
            · intro w hSw; (try dsimp only at hSw); go_simp <;> with_reducible rfl
            try simp only [Act.put, List.getElem_toArray, List.getElem_cons_zero, List.getElem_cons_succ, List.setIfInBounds_toArray, List.set_cons_zero, List.set_cons_succ]
            refine wpAnyH_take (i := 9) (v := ?_) rfl (by kernel_rfl) (by kernel_rfl) (by kernel_rfl) (fun _ _ _ h => by cases h.1) (Or.inl ⟨by rfl, ?_⟩) (by assumption) ?_
            rotate_left
            · intro w hSw; (try dsimp only at hSw); go_simp <;> with_reducible rfl
            try simp only [Act.put, List.getElem_toArray, List.getElem_cons_zero, List.getElem_cons_succ, List.setIfInBounds_toArray, List.set_cons_zero, List.set_cons_succ]
            refine wpAnyH_take (i := 12) (v := ?_) rfl (by kernel_rfl) (by kernel_rfl) (by kernel_rfl) (fun _ _ _ h => by cases h.1) (Or.inl ⟨by rfl, ?_⟩) (by assumption) ?_
            rotate_left
            · intro w hSw; (try dsimp only at hSw); go_simp <;> with_reducible rfl
            try simp only [Act.put, List.getElem_toArray, List.getElem_cons_zero, List.getElem_cons_succ, List.setIfInBounds_toArray, List.set_cons_zero, List.set_cons_succ]
            refine wpAnyH_take (i := 13) (v := ?_) rfl (by kernel_rfl) (by kernel_rfl) (by kernel_rfl) (fun _ _ _ h => by cases h.1) (Or.inl ⟨by rfl, ?_⟩) (by assumption) ?_
            rotate_left
            · intro w hSw; (try dsimp only at hSw); go_simp <;> with_reducible rfl
            try simp only [Act.put, List.getElem_toArray, List.getElem_cons_zero, List.getElem_cons_succ, List.setIfInBounds_toArray, List.set_cons_zero, List.set_cons_succ]
            have hWb0 := hid (KD.out.alloc (.cells #[.slice xa xl.length xc, .slice ya yl.length yc] 24))
            obtain ⟨Wb, hWb⟩ : ∃ Y, wd.alloc (.cells #[.slice xa xl.length xc, .slice ya yl.length yc] 24) = Y := ⟨_, rfl⟩
            rw [hWb] at hWb0
            obtain ⟨qb, hqb⟩ : ∃ q, wd.heap.size = q := ⟨_, rfl⟩
            have bb : Bn Wb qb [.slice xa xl.length xc, .slice ya yl.length yc] := by rw [← hWb, ← hqb]; exact Bn.new wd _ _
            have sb : VsE.See Wb (some ⟨qb, 0, none⟩) [⟨xa, xc, xl⟩, ⟨ya, yc, yl⟩] := .inr ⟨qb, 0, rfl, fun j u hu => by rw [Nat.zero_add]; exact bb.get j u (by simpa [El.cs, VsE] using hu)⟩
            have kwb := KW2.out.trans hWb0.out (by simp)
            have cCt := hid (cConcat (some ⟨qb, 0, none⟩) 2 [⟨xa, xc, xl⟩, ⟨ya, yc, yl⟩] Wb sb (fun x hx => by
              have ckb := CK.ofKp kwb
              rcases List.mem_cons.1 hx with rfl | hx
              · exact hxli.out.r.ck ckb (by simp)
              · rw [List.mem_singleton.1 hx]; exact hyli.out.r.ck ckb (by simp)) (by simp) (by simp [sumL]; omega))
            have ecat : catL [(⟨xa, xc, xl⟩ : Vs), ⟨ya, yc, yl⟩] = xl ++ yl := by simp [catL]
            rw [ecat] at cCt
            obtain ⟨zl, hzl⟩ : ∃ z, Hid (xl ++ yl = z) := ⟨_, rfl⟩
            rw [hzl.out] at cCt hm5
            have sWb := HC.out _ hWb0.out
            clear bb sb ecat kwb
            refine wpAnyH_ready (rs := [10]) (by kernel_rfl) (by simp) ?_
            refine AllReadyH.cons rfl (fun K hK => ?_) AllReadyH.nil
            go_simp
            (try go_wp2_with fail)
            refine hK.out _ _ (sWb) (fun hHeld => ?_)
            clear hK K
            try simp only [Act.put, List.getElem_toArray, List.getElem_cons_zero, List.getElem_cons_succ, List.setIfInBounds_toArray, List.set_cons_zero, List.set_cons_succ]
            refine wpAnyH_ready (rs := [11]) (by kernel_rfl) (by simp) ?_
            refine AllReadyH.cons rfl (fun K hK => ?_) AllReadyH.nil
            go_simp
            refine cCt.out.mono ?_
            rintro e wz ⟨za, zc, rfl, hzr, kz, hzb⟩
            (try go_wp2_with fail)
            refine hK.out _ _ (HC.out _ (hWb0.out.trans kz (by simp))) (fun hHeld => ?_)
            clear hK K
            try simp only [Act.put, List.getElem_toArray, List.getElem_cons_zero, List.getElem_cons_succ, List.setIfInBounds_toArray, List.set_cons_zero, List.set_cons_succ]
            refine wpAnyH_take (i := 14) (v := ?_) rfl (by kernel_rfl) (by kernel_rfl) (by kernel_rfl) (fun _ _ _ h => by cases h.1) (Or.inl ⟨by rfl, ?_⟩) (by assumption) ?_
            rotate_left
            · intro w hSw; (try dsimp only at hSw); go_simp <;> with_reducible rfl
            try simp only [Act.put, List.getElem_toArray, List.getElem_cons_zero, List.getElem_cons_succ, List.setIfInBounds_toArray, List.set_cons_zero, List.set_cons_succ]
            have KZ := hid (hWb0.out.trans kz (by simp))
            have K9Z := hid (K9.out.trans KZ.out (by simp))
            have hlz : Lov w9.heap.size ra rc m wz := HL2.out.ck (CK.ofKp KZ.out) (by simp) (by simp)
            have hsz := hWb0.out.size
            have hs9 := K9.out.size
            obtain ⟨a4, c4, W4, hrun, hl4, k4, hn4⟩ := hlz.app ⟨xe, xn, za, zc, zl, xd⟩ ⟨rowLies hzr, hxli.out.e, hxli.out.n⟩ K9Z.out.size (fun k hk => ⟨by have := hzb k hk; omega, hzr.lt k (by rw [ownV]; exact hk), fun hm' => by have := hzb k hk; have := HL2.out.lt k hm'; omega⟩) (by have := hml'.out; omega)
            have hm6 : Hid ((m ++ [(⟨xe, xn, za, zc, zl, xd⟩ : Vr)]).map Vr.pr = rejR (A.take (k + 1)) B) := hm5.out _ rfl
            obtain ⟨m4, hm4⟩ : ∃ m4, Hid (m ++ [(⟨xe, xn, za, zc, zl, xd⟩ : Vr)] = m4) := ⟨_, rfl⟩
            rw [hm4.out] at hrun hl4 hm6
            dsimp only at hrun
            have hbra : ∀ x ∈ blk ra, w9.heap.size ≤ x := hlz.own
            have own4 : OwnM W4 qm j D := ownKept (ownKept own2 KZ.out (by simp)) k4 (fun hm' => by have := hbra qm hm'; omega)
            have HF : Hid (Lov w9.heap.size a4 c4 m4 W4 ∧ OwnM W4 qm j D ∧ Kp [] w9 W4) := ⟨hl4, own4, K9Z.out.trans k4 (fun x hx => .inr (hbra x hx))⟩
            have kS4 : Kp (blk ra) W2 W4 := (KZ.out.mono (T := blk ra) (by simp)).trans k4 (fun j hj => .inl hj)
            have hq12ra : q12 ∉ blk ra := fun hm' => by have h1 := H.out.1.lt q12 hm'; omega
            have hgbra : gb ∉ blk ra := fun hm' => by have h1 := hbra gb hm'; have h2 : gb < w.heap.size := World.block_lt_of_cell? _ _ (HYB.out); have h3 := HM.out.2.2.size; omega
            have sA := HC.out _ (KZ.out.alloc (.cells #[.int .u64 xe, .int .u32 xn, .slice za zl.length zc, .int .u64 xd] 87))
            have s0 := HC.out _ (Kp.refl [] W2)
            have s4 : W4.cell? ⟨q12, 0, none⟩ = some (.int .u64 xe) ∧ W4.cell? ⟨q12, 1, none⟩ = some (.int .u32 xn) ∧ W4.cell? ⟨q12, 2, none⟩ = some (.slice xa xl.length xc) ∧ W4.cell? ⟨q12, 3, none⟩ = some (.int .u64 xd) ∧ W4.cell? ⟨gb, ob + i0 * 4 + 2, none⟩ = some (.slice ya yl.length yc) := ⟨(kS4.cell (p := ⟨q12, 0, none⟩) zq hq12ra).trans s0.1, (kS4.cell (p := ⟨q12, 1, none⟩) zq hq12ra).trans s0.2.1, (kS4.cell (p := ⟨q12, 2, none⟩) zq hq12ra).trans s0.2.2.1, (kS4.cell (p := ⟨q12, 3, none⟩) zq hq12ra).trans s0.2.2.2.1, (kS4.cell (p := ⟨gb, ob + i0 * 4 + 2, none⟩) (World.block_lt_of_cell? _ _ s0.2.2.2.2) hgbra).trans s0.2.2.2.2⟩
            clear hlz hl4 k4 hn4 kz hzr hzb hsz
            refine wpAnyH_ready (rs := [15]) (by kernel_rfl) (by simp) ?_
            refine AllReadyH.cons rfl (fun K hK => ?_) AllReadyH.nil
            go_simp
            (try go_wp2_with fail)
            refine hK.out _ _ (sA) (fun hHeld => ?_)
            clear hK K
            try simp only [Act.put, List.getElem_toArray, List.getElem_cons_zero, List.getElem_cons_succ, List.setIfInBounds_toArray, List.set_cons_zero, List.set_cons_succ]
            refine wpAnyH_ready (rs := [16]) (by kernel_rfl) (by simp) ?_
            refine AllReadyH.cons rfl (fun K hK => ?_) AllReadyH.nil
            refine stepAppRun rfl _ _ 54 54 rfl _ _ _ rfl rfl hrun ?_
            refine hK.out _ _ s4 (fun hHeld => ?_)
            clear hK K
            try simp only [Act.put, List.getElem_toArray, List.getElem_cons_zero, List.getElem_cons_succ, List.setIfInBounds_toArray, List.set_cons_zero, List.set_cons_succ]
            refine wpAnyH_take (i := 17) (v := ?_) rfl (by kernel_rfl) (by kernel_rfl) (by kernel_rfl) (fun _ _ _ h => by cases h.1) (Or.inl ⟨by rfl, ?_⟩) (by assumption) ?_
            rotate_left
            · intro w hSw; (try dsimp only at hSw); go_simp <;> with_reducible rfl
            try simp only [Act.put, List.getElem_toArray, List.getElem_cons_zero, List.getElem_cons_succ, List.setIfInBounds_toArray, List.set_cons_zero, List.set_cons_succ]
            refine wpAnyH_done (by kernel_rfl) ⟨rfl, ?_⟩ _
            clear hHeld sA s4 hrun
            go_wp2_with fail
            go_roundw
            case rel => exact ⟨k + 1, a4, c4, m4, by omega, by go_num, rfl, hm6, HF⟩
            case measure => simp [intOf]; omega
        · have hmm : m.map Vr.pr = rejR A B := by rw [hme.out, show k = A.length by omega, List.take_length]
          have dk1 : ¬ (k : Int) < (A.length : Int) := by omega
          have dk2 : decide ((k : Int) < (A.length : Int)) = false := by simp; omega
          have hmm' := hid hmm
          clear hmm hml
          go_wp2_with fail
          go_ret
          exact ⟨ra, rc, m, rfl, H.out.1.mono HM.out.2.2.size, hmm'.out, KWr.out⟩
end Go.Proofs.Ytfolkjjhlcjfgaa
end

section
namespace Go.Proofs.Ytfolkjjhlcjfgaa
open Go.RowKit Go.Hay
attribute [local go_sem] Oper.semAt_some
set_option linter.unusedVariables false
set_option linter.unusedSimpArgs false

set_option maxHeartbeats 8000000 in
set_option maxRecDepth 100000 in
theorem rejoinsWalk (a b : Option Addr) (ca cb : Nat) (A B : List Vr) (w : World) (ha : VrE.See w a A) (hb : VrE.See w b B) (hA : ∀ x ∈ A, Vr.lies w x) (hB : ∀ x ∈ B, Vr.lies w x) (hl : A.length ≤ 1048576) (hm : B.length ≤ 1048576) (hAl : ∀ x ∈ A, x.l.length ≤ 1048576) (hBl : ∀ x ∈ B, x.l.length ≤ 1048576) :
    Calls Try.prog 7 #[.slice a A.length ca, .slice b B.length cb] w fun e w' => e = .returned (.bool true) ∧ Below w.heap.size w w' := by
  have HV : Hid (∀ W, Kp [] w W → VrE.See W a A ∧ VrE.See W b B ∧ (∀ x ∈ A, Vr.lies W x) ∧ (∀ x ∈ B, Vr.lies W x)) := fun W k => ⟨ha.keptNew k, hb.keptNew k, fun x h => (hA x h).ck (CK.ofKp k) (by simp), fun x h => (hB x h).ck (CK.ofKp k) (by simp)⟩
  have hAl' := hid hAl
  have hBl' := hid hBl
  have cAl := hid (cAlive15 w)
  clear ha hb hA hB hAl hBl
  go_enter Try.func7, Try.ntmps7
  go_wp2_with fail
  refine cAl.out.mono ?_
  rintro e w1 ⟨rfl, k1⟩
  have K1 := hid k1
  have V1 := HV.out w1 k1
  have cJ := hid (cRejoin a b ca cb A B w1 V1.1 V1.2.1 V1.2.2.1 V1.2.2.2 hl hm hAl'.out hBl'.out)
  clear cAl k1 V1
  go_wp2_with fail
  refine cJ.out.mono ?_
  rintro e w2 ⟨ra, rc, L, rfl, hL, hLe, k2⟩
  have K2 := hid (K1.out.trans k2 (by simp))
  have HL := hid (And.intro hL hLe)
  have V2 := HV.out w2 K2.out
  have cR := hid (rRejoin a b ca cb A B w2 V2.1 V2.2.1 V2.2.2.1 V2.2.2.2 hl hm hAl'.out hBl'.out)
  clear cJ k2 V2 hL hLe
  go_wp2_with fail
  refine cR.out.mono ?_
  rintro e w3 ⟨rb, rd, M, rfl, hM, hMe, k3⟩
  have K3 := hid (K2.out.trans k3 (by simp))
  have hL3 := HL.out.1.ck (CK.ofKp k3) (by simp) (by simp)
  obtain ⟨a', c', e', s1, _⟩ := hL3.row.see
  cases e'
  obtain ⟨a', c', e', s2, _⟩ := hM.row.see
  cases e'
  have hLn : L.length ≤ 4000000000000 := by
    have h1 := congrArg List.length HL.out.2
    have h2 := List.length_filterMap_le (rejO B) A
    unfold rejR at h1
    rw [List.length_map] at h1
    omega
  have cS := hid (cSameVers ra rb rc rd L M w3 s1 s2 hL3.lies hM.lies (HL.out.2.trans hMe.symm) hLn)
  clear cR k3 hL3 hM hMe s1 s2
  go_wp2_with fail
  refine cS.out.mono ?_
  rintro e w4 ⟨rfl, k4⟩
  have K4 := hid (K3.out.trans k4 (by simp))
  clear cS k4
  go_wp2_with fail
  go_ret
  exact ⟨rfl, K4.out.below⟩
end Go.Proofs.Ytfolkjjhlcjfgaa
end

section
namespace Go.Proofs.Ytfolkjjhlcjfgaa
open Go.ChangeShapes Go.WideShapes Go.ChangeAt Go.RowKit Go.Hay
set_option linter.unusedVariables false
set_option linter.unusedSimpArgs false

theorem cellsX1 : Try.prog.cellsOf 3 = 1 := by kernel_rfl
theorem cellsX2 : Try.prog.cellsOf 4 = 1 := by kernel_rfl
theorem cellsX3 : Try.prog.cellsOf 2 = 1 := by kernel_rfl
theorem cellsX4 : Try.prog.cellsOf 9 = 1 := by kernel_rfl
theorem cellsX5 : Try.prog.cellsOf 51 = 4 := by kernel_rfl
theorem bytesX5 : Try.prog.bytesOf 51 = 40 := by kernel_rfl
instance : Inhabited Val := ⟨⟨0, false, 0, ⟨#[]⟩⟩⟩
section
variable {H : Type} {enc : TypeId × Value → H} {W : World} {a : Option Addr} {len cap : Nat} {d : DataW H} {ps : List MemPlace}
theorem openV4 {fuel : Nat} {c0 c1 c2 c3 : Value} {x : DataW H × List MemPlace} (h : DataW.trod enc Try.prog W 0 (fun _ => true) true fuel 51 [c0, c1, c2, c3] = some x) :
    ∃ t : Val, c0 = .int .i64 t.k ∧ c1 = .bool t.b ∧ c2 = .int .i64 t.n ∧ c3 = .string t.t := by
  obtain ⟨xs, n, _, rfl, _, hlen, hf⟩ := DataW.trod_struct Try.underlying51 h
  match xs, hlen with
  | [y0, y1, y2, y3], _ =>
    have h0 := hf 0 _ rfl
    have h1 := hf 1 _ rfl
    have h2 := hf 2 _ rfl
    have h3 := hf 3 _ rfl
    simp [cellsX1, cellsX2, cellsX3, cellsX4] at h0 h1 h2 h3
    obtain ⟨k, e0, _, w0⟩ := DataW.trod_int Try.underlying3 h0
    obtain ⟨b, e1, _⟩ := DataW.trod_bool Try.underlying4 h1
    obtain ⟨n2, e2, _, w2⟩ := DataW.trod_int Try.underlying2 h2
    obtain ⟨s, e3, _, w3⟩ := DataW.trod_string Try.underlying9 h3
    simp at e0 e1 e2 e3
    exact ⟨⟨k, b, n2, s⟩, e0, e1, e2, e3⟩
theorem openXv (h : DataW.Trod enc Try.prog W 0 (fun _ => true) true 24 (.slice a len cap) d ps) :
    ∃ l : List Val, len = l.length ∧ VE.See W a l ∧ (∀ y ∈ l, True) ∧ l.length ≤ cap ∧ cap ≤ maxLen ∧ (a = none → cap = 0) ∧ (Fit 24 d → cap * 40 ≤ 140737488351232 ∧ ∀ y ∈ l, True) ∧ (l.map fun _ => 0).sum ≤ Rows.uptoBulk d ∧ cap + 1 ≤ Rows.uptoBulk d :=
  openEls VE Try.underlying24 cellsX5 40 bytesX5 (fun _ => True) (fun _ => True) (fun _ => 0) (fun fuel cs x hx hcs => by
    match cs, hcs with
    | [c0, c1, c2, c3], _ =>
      obtain ⟨t, e0, e1, e2, e3⟩ := openV4 hx
      subst e0 e1 e2 e3
      exact ⟨t, trivial, rfl, fun _ => trivial, Nat.zero_le _⟩) h
end
end Go.Proofs.Ytfolkjjhlcjfgaa
end

section
namespace Go.Proofs.Ytfolkjjhlcjfgaa
open Go.ChangeShapes Go.WideShapes Go.ChangeAt Go.RowKit Go.Hay
set_option linter.unusedVariables false
set_option linter.unusedSimpArgs false

theorem cellsYI : Try.prog.cellsOf 3 = 1 := by kernel_rfl
theorem bytesYI : Try.prog.bytesOf 3 = 8 := by kernel_rfl
section
variable {H : Type} {enc : TypeId × Value → H} {W : World} {a : Option Addr} {len cap : Nat} {d : DataW H} {ps : List MemPlace}
theorem openVlists (h : DataW.Trod enc Try.prog W 0 (fun _ => true) true 22 (.slice a len cap) d ps) :
    ∃ l : List Vs, len = l.length ∧ VsE.See W a l ∧ (∀ y ∈ l, y.lies W) ∧ l.length ≤ cap ∧ cap ≤ maxLen ∧ (a = none → cap = 0) ∧ (Fit 22 d → cap * 24 ≤ 140737488351232 ∧ ∀ y ∈ l, y.c * 40 ≤ 140737488351232) ∧ (l.map fun y => y.l.length).sum ≤ Rows.uptoBulk d ∧ cap + 1 ≤ Rows.uptoBulk d :=
  openEls VsE Try.underlying22 cellsVs 24 bytesVs (fun y => y.lies W) (fun y => y.c * 40 ≤ 140737488351232) (fun y => y.l.length) (fun fuel cs x hx hcs => by
    obtain ⟨v, rfl⟩ : ∃ v, cs = [v] := by
      match cs, hcs with
      | [v], _ => exact ⟨v, rfl⟩
    have hv : ∃ a len cap, v = .slice a len cap := by
      rcases Go.Deep.open_slice Try.underlying24 hx with ⟨hcs, _⟩ | ⟨a, len, cap, _, _, _, _, hcs, _⟩
      · exact ⟨none, 0, 0, by simpa using hcs⟩
      · exact ⟨_, _, _, by simpa using hcs⟩
    obtain ⟨a, len, cap, rfl⟩ := hv
    have ht : DataW.Trod enc Try.prog W 0 (fun _ => true) true 24 (.slice a len cap) x.1 x.2 := ⟨fuel, hx⟩
    obtain ⟨l, rfl, hs, _, hl, hm, hn, hf, _, hb⟩ := openXv ht
    exact ⟨⟨a, cap, l⟩, ⟨seeV.1 hs, hl, hm, hn⟩, rfl, fun h => (hf h).1, by simp only; omega⟩) h
theorem openInts (h : DataW.Trod enc Try.prog W 0 (fun _ => true) true 43 (.slice a len cap) d ps) :
    ∃ l : List Int, len = l.length ∧ IntE.See W a l ∧ (∀ y ∈ l, True) ∧ l.length ≤ cap ∧ cap ≤ maxLen ∧ (a = none → cap = 0) ∧ (Fit 43 d → cap * 8 ≤ 140737488351232 ∧ ∀ y ∈ l, True) ∧ (l.map fun _ => 0).sum ≤ Rows.uptoBulk d ∧ cap + 1 ≤ Rows.uptoBulk d :=
  openEls IntE Try.underlying43 cellsYI 8 bytesYI (fun _ => True) (fun _ => True) (fun _ => 0) (fun fuel cs x hx hcs => by
    obtain ⟨v, rfl⟩ : ∃ v, cs = [v] := by
      match cs, hcs with
      | [v], _ => exact ⟨v, rfl⟩
    obtain ⟨n, e, _, _⟩ := DataW.trod_int Try.underlying3 hx
    simp at e
    subst e
    exact ⟨n, trivial, rfl, fun _ => trivial, Nat.zero_le _⟩) h
theorem lenOfSum {L : List Vs} {n : Nat} (h : (L.map fun y => y.l.length).sum ≤ n) : ∀ x ∈ L, x.l.length ≤ n := by
  induction L with
  | nil => simp
  | cons y L ih =>
    simp at h
    intro x hx
    rcases List.mem_cons.1 hx with rfl | hx
    · omega
    · exact ih (by omega) x hx
end
end Go.Proofs.Ytfolkjjhlcjfgaa
end

section
namespace Go.Proofs.Ytfolkjjhlcjfgaa
open Go.ChangeShapes Go.WideShapes Go.ChangeAt Go.RowKit Go.Hay
set_option linter.unusedVariables false
set_option linter.unusedSimpArgs false

theorem cellsYU8 : Try.prog.cellsOf 82 = 1 := by kernel_rfl
theorem cellsYU4 : Try.prog.cellsOf 83 = 1 := by kernel_rfl
theorem cellsYId : Try.prog.cellsOf 85 = 2 := by kernel_rfl
theorem cellsYVr : Try.prog.cellsOf 87 = 4 := by kernel_rfl
theorem bytesYVr : Try.prog.bytesOf 87 = 48 := by kernel_rfl
section
variable {H : Type} {enc : TypeId × Value → H} {W : World} {a : Option Addr} {len cap : Nat} {d : DataW H} {ps : List MemPlace}
theorem openIdY {fuel : Nat} {c0 c1 : Value} {x : DataW H × List MemPlace} (h : DataW.trod enc Try.prog W 0 (fun _ => true) true fuel 85 [c0, c1] = some x) :
    ∃ e n : Int, c0 = .int .u64 e ∧ c1 = .int .u32 n ∧ (0 ≤ e ∧ e < 18446744073709551616) ∧ (0 ≤ n ∧ n < 4294967296) := by
  obtain ⟨xs, n, _, rfl, _, hlen, hf⟩ := DataW.trod_struct Try.underlying85 h
  match xs, hlen with
  | [y0, y1], _ =>
    have h0 := hf 0 _ rfl
    have h1 := hf 1 _ rfl
    simp [cellsYU8, cellsYU4] at h0 h1
    obtain ⟨k, e0, _, w0⟩ := DataW.trod_int Try.underlying82 h0
    obtain ⟨m, e1, _, w1⟩ := DataW.trod_int Try.underlying83 h1
    simp at e0 e1
    have b0 := bounds_u64 w0
    have b1 := bounds_u32 w1
    exact ⟨k, m, e0, e1, by omega, by omega⟩
theorem openVrY {fuel : Nat} {cs : List Value} {x : DataW H × List MemPlace} (h : DataW.trod enc Try.prog W 0 (fun _ => true) true fuel 87 cs = some x) (hcs : cs.length = 4) :
    ∃ y : Vr, Vr.lies W y ∧ cs = VrE.c y ∧ (Fit 87 x.1 → True) ∧ y.l.length ≤ Rows.uptoBulk x.1 := by
  obtain ⟨c0, c1, c2, c3, rfl⟩ : ∃ c0 c1 c2 c3, cs = [c0, c1, c2, c3] := by
    match cs, hcs with
    | [c0, c1, c2, c3], _ => exact ⟨c0, c1, c2, c3, rfl⟩
  obtain ⟨xs, n, _, rfl, _, hlen, hf⟩ := DataW.trod_struct Try.underlying87 h
  match xs, hlen with
  | [y0, y1, y2], _ =>
    have h0 := hf 0 _ rfl
    have h1 := hf 1 _ rfl
    have h2 := hf 2 _ rfl
    simp [cellsYId, cellsVs, cellsYU8] at h0 h1 h2
    obtain ⟨e, n, rfl, rfl, e0, n0⟩ := openIdY h0
    have hv : ∃ a len cap, c2 = .slice a len cap := by
      rcases Go.Deep.open_slice Try.underlying24 h1 with ⟨hcs, _⟩ | ⟨a, len, cap, _, _, _, _, hcs, _⟩
      · exact ⟨none, 0, 0, by simpa using hcs⟩
      · exact ⟨_, _, _, by simpa using hcs⟩
    obtain ⟨a, len, cap, rfl⟩ := hv
    have ht : DataW.Trod enc Try.prog W 0 (fun _ => true) true 24 (.slice a len cap) y1.1 y1.2 := ⟨_, h1⟩
    obtain ⟨l, rfl, hs, _, hl, hm, hn, hfit, _, hb⟩ := openXv ht
    obtain ⟨d, ed, _, wd⟩ := DataW.trod_int Try.underlying82 h2
    simp at ed
    subst ed
    refine ⟨⟨e, n, a, cap, l, d⟩, ⟨⟨seeV.1 hs, hl, hm, hn⟩, e0, n0⟩, rfl, fun _ => trivial, ?_⟩
    simp only [List.map_cons, List.map_nil, Rows.uptoBulk, Rows.uptoBulkAll]
    omega
theorem openVers (h : DataW.Trod enc Try.prog W 0 (fun _ => true) true 54 (.slice a len cap) d ps) :
    ∃ l : List Vr, len = l.length ∧ VrE.See W a l ∧ (∀ y ∈ l, Vr.lies W y) ∧ l.length ≤ cap ∧ cap ≤ maxLen ∧ (a = none → cap = 0) ∧ (Fit 54 d → cap * 48 ≤ 140737488351232 ∧ ∀ y ∈ l, True) ∧ (l.map fun y => y.l.length).sum ≤ Rows.uptoBulk d ∧ cap + 1 ≤ Rows.uptoBulk d :=
  openEls VrE Try.underlying54 cellsYVr 48 bytesYVr (fun y => Vr.lies W y) (fun _ => True) (fun y => y.l.length) (fun fuel cs x hx hcs => openVrY hx hcs) h
theorem lenOfSumV {L : List Vr} {n : Nat} (h : (L.map fun y => y.l.length).sum ≤ n) : ∀ x ∈ L, x.l.length ≤ n := by
  induction L with
  | nil => simp
  | cons y L ih =>
    simp at h
    intro x hx
    rcases List.mem_cons.1 hx with rfl | hx
    · omega
    · exact ih (by omega) x hx
end
end Go.Proofs.Ytfolkjjhlcjfgaa
end

section
namespace Go.Proofs.Ytfolkjjhlcjfgaa
open Go.ChangeShapes Go.WideShapes Go.ChangeAt Go.RowKit Go.Hay
set_option linter.unusedVariables false

set_option maxRecDepth 100000 in
theorem execRejoinsContract (H : Type) (enc : TypeId × Value → H) (W : World) (base : Nat) (args : Array Value) (ds gs : List (DataW H)) (before : List MemPlace)
    (hval : ∀ (j : Nat) t v, Try.f7.params[j]? = some t → args[j]? = some v → Value.okWide Try.prog W .any base t v)
    (hW : DataW.Whole enc Try.prog Try.f7.params.toList Rows.execRejoinsSpec.vars false W args.toList ds gs before)
    (hsz : (DataW.weightsEach Try.prog (Try.f7.params.toList ++ (Rows.OpenSpec.upto Rows.execRejoinsSpec).bare.plain.varTypes Try.prog) (ds ++ gs)).all (· ≤ reachBytes) = true)
    (hk : Rows.uptoSmall H (ds ++ gs) = true) :
    Calls Try.prog 7 args W fun e W' => ∃ v, e = .returned v ∧ Rows.execRejoinsSpec.post enc Try.prog Try.f7 false true false false W args v W' := by
  have hW' := hW
  obtain ⟨p, q, hA0, hV, rfl, hfz, hnd⟩ := hW
  have hA : DataW.TrodAll enc Try.prog W 0 (fun _ => true) true Try.f7.params.toList args.toList ds p := hA0
  rw [Try.params7] at hA hval hsz
  obtain ⟨v0, vs0, d0, ds0, p0, q0, hargs, rfl, rfl, h0, r0⟩ := trodAll_cons hA
  obtain ⟨v1, vs1, d1, ds1, p1, q1, rfl, rfl, rfl, h1, r1⟩ := trodAll_cons r0
  obtain ⟨rfl, rfl, rfl⟩ := trodAll_nil r1
  obtain rfl : args = #[v0, v1] := by cases args; simp_all
  obtain ⟨rfl, rfl⟩ := trodVars_none hV
  obtain ⟨a0, len0, cap0, rfl⟩ := okWide_slice Try.underlying54 (hval 0 54 v0 rfl rfl)
  have k0 := h0
  have lt0 : ∀ x ∈ p0, x.block < W.heap.size := by obtain ⟨m, hm⟩ := k0; exact DataW.trod_lt m _ _ _ hm
  obtain ⟨l0, rfl, hs0, hok0, hl0, hm0, hn0, hfit0, hbk0, hcp0⟩ := openVers h0
  obtain ⟨hc0, hq0⟩ := hfit0 (List.all_eq_true.2 fun x hx => List.all_eq_true.1 hsz x (by simp [DataW.weightsEach]; first | exact .inl hx | exact .inr hx | exact .inr (.inl hx) | exact .inr (.inr hx) | exact hx))
  obtain ⟨a1, len1, cap1, rfl⟩ := okWide_slice Try.underlying54 (hval 1 54 v1 rfl rfl)
  have k1 := h1
  have lt1 : ∀ x ∈ p1, x.block < W.heap.size := by obtain ⟨m, hm⟩ := k1; exact DataW.trod_lt m _ _ _ hm
  obtain ⟨l1, rfl, hs1, hok1, hl1, hm1, hn1, hfit1, hbk1, hcp1⟩ := openVers h1
  obtain ⟨hc1, hq1⟩ := hfit1 (List.all_eq_true.2 fun x hx => List.all_eq_true.1 hsz x (by simp [DataW.weightsEach]; first | exact .inl hx | exact .inr hx | exact .inr (.inl hx) | exact .inr (.inr hx) | exact hx))
  have hbk := of_decide_eq_true hk
  simp only [List.append_nil, Rows.uptoBulkAll] at hbk
  clear hA0
  refine (rejoinsWalk a0 a1 cap0 cap1 l0 l1 W hs0 hs1 hok0 hok1 (by omega) (by omega) (fun x h => by have := lenOfSumV hbk0 x h; omega) (fun x h => by have := lenOfSumV hbk1 x h; omega)).mono fun e W' ⟨he, bel⟩ => ?_
  subst he
  exact ⟨_, rfl, _, _, _, [], _, [], hW', trodAll_mk1 (shut_bool Try.underlying4 _), (trodAll_cons_mk (Below.trod Try.laidOut (by kernel_rfl) (of_decide_eq_true (by kernel_rfl)) k0 bel lt0) (trodAll_cons_mk (Below.trod Try.laidOut (by kernel_rfl) (of_decide_eq_true (by kernel_rfl)) k1 bel lt1) trodAll_mk0)), rfl, bel.frame _, fun h => by cases h⟩

set_option maxRecDepth 100000 in
theorem execRejoinsLifted (os : Os) (started : os.Started) (H : Type) (enc : TypeId × Value → H) (F : Stop.Interp) :
    ReturnsInHanded {} Try.checked os 7 .any ((Rows.OpenSpec.upto Rows.execRejoinsSpec).pre6 enc Try.prog Try.f7 Rows.execRejoinsUptoRow.domain false) (((Rows.OpenSpec.upto Rows.execRejoinsSpec).at F).post enc Try.prog Try.f7 false true false false) := by
  refine returnsInHanded_of_cond_sized (C := Try.checked) (s := Rows.OpenSpec.upto Rows.execRejoinsSpec) (k := Rows.uptoSmall) rfl Try.own started (by kernel_rfl) Try.func7
    (OpenSpec.witness (enc := enc) (C := Try.checked) (s := Rows.OpenSpec.upto Rows.execRejoinsSpec) (k := Rows.uptoSmall) rfl false ⟨#[], #[.slice none 0 0, .slice none 0 0], []⟩ 8 (by kernel_rfl) (by kernel_rfl) (by kernel_rfl)
      (x := ([.nil, .nil], [], [])) (by kernel_rfl) rfl (by kernel_rfl)) ?_
  intro W base args ds gs before hval hW _ hk hsz _
  exact execRejoinsContract H enc W base args ds gs before hval hW hsz hk

theorem ExecRejoins_holds : Rows.ExecRejoinsUptoSaid :=
  OpenClaim.holds_of_cond 7 Try.f7 rfl rfl rfl rfl rfl rfl rfl ⟨rfl, rfl, rfl, rfl, rfl⟩ rfl rfl rfl rfl rfl (by kernel_rfl) Try.func7 (by kernel_rfl)
    (of_decide_eq_true (by kernel_rfl)) (by unfold Func.isWrapper; first | (rw [if_pos (by decide +kernel)]; kernel_rfl) | (rw [if_neg (by decide +kernel)]; exact ⟨rfl, rfl⟩))
    (fun os started H enc _ F => execRejoinsLifted os started H enc F)

#print axioms ExecRejoins_holds
end Go.Proofs.Ytfolkjjhlcjfgaa
end

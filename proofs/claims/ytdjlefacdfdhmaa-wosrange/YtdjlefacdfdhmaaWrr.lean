/- WosRange: the card. -/
import Derived.Test.YtdjlefacdfdhmaaB11
import Derived.SizedLaws
import Derived.JoinedCond
import Derived.Deep.CondSized
section
namespace Go.Proofs.Ytdjlefacdfdhmaa
open Go.RowKit Go.Hay
set_option linter.unusedVariables false
set_option linter.unusedSimpArgs false

/-- All is new since w but p. -/
structure Fre (w : World) (p : Nat) (w' : World) (p' : Nat) (v' : Value) (l' : List Vn) (ra' : Option Addr) (r' : List Vn) : Prop where
  kp : Kp [p] w w'
  foot : ∀ k ∈ p' :: own v', k = p ∨ w.heap.size ≤ k
  rows : ∀ y ∈ l', ∀ k ∈ bkV y, w.heap.size ≤ k
  ref : r' ≠ [] → ∀ k ∈ blk ra', w.heap.size ≤ k
theorem Fre.keep {w w1 w2 : World} {p p' : Nat} {v' : Value} {l' : List Vn} {ra' : Option Addr} {r' : List Vn} (h : Fre w p w1 p' v' l' ra' r') (k : Kp [] w1 w2) : Fre w p w2 p' v' l' ra' r' := ⟨h.kp.trans k (by simp), h.foot, h.rows, h.ref⟩
theorem Fre.step {w w1 w2 : World} {p p1 p2 : Nat} {v1 v2 : Value} {l1 l2 : List Vn} {ra1 ra2 : Option Addr} {r1 r2 : List Vn} (h : Fre w p w1 p1 v1 l1 ra1 r1) (m1 : Kp (p1 :: own v1) w1 w2) (m2 : ∀ k ∈ p2 :: own v2, k ∈ p1 :: own v1 ∨ w1.heap.size ≤ k) (m3 : r2 ≠ [] → ∀ k ∈ blk ra2, (k ∈ blk ra1 ∧ r1 ≠ []) ∨ w1.heap.size ≤ k) (m4 : ∀ y ∈ l2, ∀ k ∈ bkV y, (∃ z ∈ l1, k ∈ bkV z) ∨ w1.heap.size ≤ k) : Fre w p w2 p2 v2 l2 ra2 r2 := by
  have z := h.kp.size
  refine ⟨h.kp.trans m1 (fun k hk => ?_), fun k hk => ?_, fun y hy k hk => ?_, fun hne k hk => ?_⟩
  · rcases h.foot k hk with e | e
    · exact .inl (by simp [e])
    · exact .inr e
  · rcases m2 k hk with e | e
    · exact h.foot k e
    · exact .inr (by omega)
  · rcases m4 y hy k hk with ⟨z', hz, e⟩ | e
    · exact h.rows z' hz k e
    · omega
  · rcases m3 hne k hk with ⟨e, h1⟩ | e
    · exact h.ref h1 k e
    · omega
/-- What a run leaves, and what it turned: nothing older than the run but p. -/
def RunK (W w : World) (p : Nat) (m : Nat) (e : Ending) (w' : World) : Prop :=
  ∃ (p' : Nat) (v' : Value) (l' : List Vn) (ra' : Option Addr) (rc' : Nat) (r' : List Vn), e = .returned (.tuple #[.pointer (some ⟨p', 0, none⟩), .slice ra' r'.length rc', .bool true]) ∧ PW W w' p' v' l' ra' r' ∧ l'.length ≤ m ∧ Fre w p w' p' v' l' ra' r'
set_option maxHeartbeats 8000000 in
set_option maxRecDepth 100000 in
theorem cRunK {W w : World} {p : Nat} (P : PW W w p (.slice none 0 0) [] none []) (a : Option Addr) (c : Nat) (L : List OpV) (hs : OpE.See W a L) (ho : ∀ o ∈ L, VnOk W o.v) (hb : L.length ≤ 2000000000000) :
    Calls Try.prog 10 #[.pointer (some ⟨p, 0, none⟩), .slice none 0 0, .slice a L.length c] w (RunK W w p (L.length + 1)) := by
  have hs' := hid hs
  have ho' := hid ho
  have hP := hid P
  have hF0 : Hid (Fre w p w p (.slice none 0 0) [] none []) := ⟨Kp.refl _ _, by simp [own, Value.ownBlock], by simp, by simp⟩
  clear hs ho P
  go_enter Try.func10, Try.ntmps10
  go_wp2_with fail
  go_loopw [0, 1, 9, 11, 14] (fun s0 s1 s9 s11 i wr => ∃ (j p' : Nat) (v' : Value) (l' : List Vn) (ra' : Option Addr) (rc' : Nat) (r' : List Vn), j ≤ L.length ∧ i = .int .i64 j ∧ s0 = .pointer (some ⟨p', 0, none⟩) ∧ s1 = .slice ra' r'.length rc' ∧ PW W wr p' v' l' ra' r' ∧ l'.length ≤ j ∧ Fre w p wr p' v' l' ra' r') (fun _ _ _ _ i _ => L.length - (intOf i).toNat)
  case atStart => exact ⟨0, p, _, [], none, 0, [], Nat.zero_le _, rfl, rfl, rfl, hP.out, Nat.le_refl _, hF0.out⟩
  case round =>
    clear hP hF0
    obtain ⟨j, p', v', l', ra', rc', r', hj, rfl, rfl, rfl, P, hlj, F⟩ := hrel
    by_cases hjl : j < L.length
    · have hx : L[j]? = some L[j] := by simp [hjl]
      obtain ⟨g, o, rfl, c0, c1, c2, c3, c4, c5, c6, c7⟩ := opAt (hs'.out.keptNew P.kp) hx
      have hox := ho'.out L[j] (List.getElem_mem _)
      clear hx
      generalize L[j] = x at *
      obtain ⟨w1, hw1, k1, bx, hz1⟩ := boxOp wr x
      have cS := cStepW (P.keep k1) rc' x hox (by omega)
      have hF1 := hid (F.keep k1)
      clear F
      have b0 := bx.get 0 _ rfl; have b1 := bx.get 1 _ rfl; have b2 := bx.get 2 _ rfl; have b3 := bx.get 3 _ rfl
      have b4 := bx.get 4 _ rfl; have b5 := bx.get 5 _ rfl; have b6 := bx.get 6 _ rfl; have b7 := bx.get 7 _ rfl
      have i1 : (0 : Int) ≤ (j : Int) := by omega
      have i2 : (j : Int) < (L.length : Int) := by omega
      obtain ⟨xk, ⟨xe, xn, xa, xc, xr, xd⟩, xi, xm, xp⟩ := x
      dsimp only at *
      clear P hox bx k1
      go_wp2_with fail
      refine cS.mono ?_
      rintro e0 w2 ⟨p2, v2, l2, ra2, rc2, r2, rfl, P2, m1, m2, hl2, m3, m4⟩
      have hF2 := hid (hF1.out.step m1 m2 m3 m4)
      clear m1 m2 m3 m4
      clear cS c0 c1 c2 c3 c4 c5 c6 c7 b0 b1 b2 b3 b4 b5 b6 b7 hw1
      go_wp2_with fail
      exact ⟨⟨j + 1, p2, v2, l2, ra2, rc2, r2, by omega, by go_num, rfl, rfl, P2, by omega, hF2.out⟩, by simp [intOf]; omega⟩
    · have ej : j = L.length := by omega
      subst ej
      have cS := cStpE P rc' 6 default 0 0 0 (by decide) (by decide) (by decide) (by decide) (by decide) (by decide) (by decide)
      have ed : (default : Vn) = ⟨0, 0, none, 0, [], 0⟩ := rfl
      rw [ed] at cS
      dsimp only at cS
      simp only [List.length_nil] at cS
      have hF1 := hid F
      clear P ed F
      go_wp2_with fail
      refine cS.mono ?_
      rintro e0 w2 ⟨p2, v2, l2, ra2, rc2, r2, rfl, P2, m1, m2, hl2, m3, m4⟩
      have hF2 := hid (hF1.out.step m1 m2 m3 m4)
      clear m1 m2 m3 m4
      clear cS
      go_wp2_with fail
      go_returns
      exact ⟨p2, v2, l2, ra2, rc2, r2, rfl, P2, by omega, hF2.out⟩
/-- A range that turns nothing: how it stands. -/
structure RgI (w : World) (s : Sb) (W : World) : Prop where
  kp : Kp [] w W
  mb : s.made = true → w.heap.size + 2 ≤ s.B0
  js : ∀ j ∈ s.js, j ≠ w.heap.size ∧ j ≠ w.heap.size + 1
theorem RgI.own {w : World} : OwnFrom w.heap.size (RgI w) := fun s X Y row h hg hr => by
  have ht : TurnT w.heap.size X Y := TurnT.ofGrown hg hr
  exact ⟨Kp.turn h.kp ht (Nat.le_refl _), h.mb, h.js⟩
theorem RgI.step {w : World} {R : List Nat} {l : List Vn} {f : Vn → Option Vn} {s s' : Sb} {A B : World} (hz : w.heap.size + 2 ≤ A.heap.size) (h : RgI w s A) (ht : StepT R l f s s' A B) : RgI w s' B := by
  have hB := StepT.low h.mb hz ht
  refine ⟨Kp.turn h.kp ht.turn (by omega), fun _ => hB, fun j hj => ?_⟩
  rcases ht.js j hj with e | e
  · exact h.js j e.1
  · omega
theorem RgI.stepX {w : World} {s : Sb} {A B : World} (h : RgI w s A) (ht : StepX s A B) : RgI w s B := ⟨Kp.turn h.kp ht.2 (by have := h.mb ht.1; omega), h.mb, h.js⟩
theorem RgI.keeps {w : World} {R : List Nat} {l : List Vn} {f : Vn → Option Vn} {s s' : Sb} {A B : World} (h : RgI w s A) (ht : StepT R l f s s' A B) (k : Nat) (o : Obj) (hk : k = w.heap.size ∨ k = w.heap.size + 1) (ho : A.heap[k]? = some o) : B.heap[k]? = some o := by
  refine (ht.turn.low (Array.getElem?_eq_some_iff.1 ho).1 ?_).trans ho
  cases e : s.made with
  | true => have := (ht.stays e).2; have := h.mb e; omega
  | false => have := (ht.makes e).2.1; have := (Array.getElem?_eq_some_iff.1 ho).1; omega
theorem RgI.keepsX {w : World} {s : Sb} {A B : World} (h : RgI w s A) (ht : StepX s A B) (k : Nat) (o : Obj) (hk : k = w.heap.size ∨ k = w.heap.size + 1) (ho : A.heap[k]? = some o) : B.heap[k]? = some o :=
  (ht.2.low (Array.getElem?_eq_some_iff.1 ho).1 (by have := h.mb ht.1; omega)).trans ho
theorem RgI.put {w : World} {s : Sb} {W : World} (h : RgI w s W) (o' : Obj) : KeepT s W (W.putObj (w.heap.size + 1) o') := KeepT.putObj (fun j hj => (h.js j hj).2) (fun e => by have := h.mb e; omega) W o'
theorem atSeqAt {w : World} {p : Nat} {v : Value} {l : List Vn} (h : Wos w p v l) (q qe : Nat) (e : Int) (hq : w.cell? ⟨q, 0, none⟩ = some (.pointer (some ⟨p, 0, none⟩))) (hqe : w.cell? ⟨qe, 0, none⟩ = some (.int .u64 e)) :
    ∃ a, (∀ j ∈ (sT q p a l [qe]).js, j < w.heap.size) ∧ SeqX Fence.wide 7 Try.prog 28 #[.pointer (some ⟨q, 0, none⟩), .pointer (some ⟨qe, 0, none⟩)] encV (StepT (rowsB l ++ [qe]) l (fun x => if seenV e x = true then some (asV e x) else none)) StepX KeepT okT Sb.nx (fun s => s.made = true ∧ s.i = l.length ∧ s.v = none) (fun _ => True) (sT q p a l [qe]) w := by
  obtain ⟨a, c, rfl, _⟩ := h.row.see
  have hlt := h.ltAll
  rw [own_slice] at hlt
  have hrw : ∀ k ∈ rowsB l, k < w.heap.size := fun k hk => by obtain ⟨x, hx, hk'⟩ := mem_rowsB.1 hk; exact (h.ok x hx).lt k hk'
  have hql : qe < w.heap.size := World.block_lt_of_cell? _ _ hqe
  refine ⟨a, fun j hj => ?_, atSeq 7 (by omega) q qe p e a c l w (h.atT hq) hqe⟩
  simp only [sT, List.cons_append, List.nil_append, List.mem_cons, List.mem_append] at hj
  rcases hj with rfl | rfl | rfl | hj | hj
  · exact hql
  · exact World.block_lt_of_cell? _ _ hq
  · exact h.lt
  · exact hlt j (by simp [hj])
  · exact hrw j hj
/-- A range in whose rounds the versions go, and a counter rises: how it stands. -/
structure R2I (w : World) (p : Nat) (v0 : Value) (l : List Vn) (f : Vn → Option Vn) (qk : Nat) (s : Sb) (W : World) : Prop where
  kp : Kp (qk :: p :: own v0) w W
  box : Bx W qk [.int .i64 (((l.take s.i).filterMap f).length : Int)]
  st : ∃ v2 l2, Wos W p v2 l2 ∧ (∀ k ∈ own v2, k ∈ own v0) ∧ (((l.take s.i).filterMap f).length = 0 ∨ l2 = []) ∧ ∀ x ∈ l2, ∀ k ∈ bkV x, k ≠ qk
  off : s.made = true → ∀ j ∈ s.js, j ∉ qk :: p :: own v0
  mb : s.made = true → w.heap.size + 2 ≤ s.B0
  js : ∀ j ∈ s.js, j ≠ w.heap.size ∧ j ≠ w.heap.size + 1
  gv : ∀ y, s.v = some y → s.made = true ∧ ∃ x z, l[s.i]? = some x ∧ f x = some z ∧ y.p = z.p ∧ VnOk W y
section
variable {w : World} {p : Nat} {v0 : Value} {l : List Vn} {f : Vn → Option Vn} {qk : Nat}
theorem R2I.owned : OwnFrom w.heap.size (R2I w p v0 l f qk) := fun s X Y row h hg hr => by
  have ht : TurnT w.heap.size X Y := TurnT.ofGrown hg hr
  refine ⟨Kp.turn h.kp ht (Nat.le_refl _), ht.ck.bx h.box (by simp), ?_, h.off, h.mb, h.js, fun y hy => ?_⟩
  · obtain ⟨v2, l2, h1, h2, h3⟩ := h.st
    exact ⟨v2, l2, ht.ck.wos h1, h2, h3⟩
  · obtain ⟨h0, x, z, h1, h2, h3, h4⟩ := h.gv y hy
    exact ⟨h0, x, z, h1, h2, h3, ht.ck.ok h4⟩
theorem R2I.step {R : List Nat} {s s' : Sb} {A B : World} (hR : ∀ k ∈ R, k ∉ qk :: p :: own v0) (hlt : ∀ k ∈ qk :: p :: own v0, k < w.heap.size) (hz : w.heap.size + 2 ≤ A.heap.size) (h : R2I w p v0 l f qk s A) (ht : StepT R l f s s' A B) : R2I w p v0 l f qk s' B := by
  have hB := StepT.low h.mb hz ht
  have made' : s'.made = true := by
    cases e : s.made with
    | true => exact (ht.stays e).1
    | false => exact (ht.makes e).1
  refine ⟨Kp.turn h.kp ht.turn (by omega), ?_, ?_, fun _ j hj hm => ?_, fun _ => hB, fun j hj => ?_, fun y hy => ?_⟩
  · rw [filt_skip ht.on ht.skip]; exact ht.turn.ck.bx h.box (by simp)
  · obtain ⟨v2, l2, h1, h2, h3⟩ := h.st
    rw [filt_skip ht.on ht.skip]
    exact ⟨v2, l2, ht.turn.ck.wos h1, h2, h3⟩
  · rcases ht.js j hj with ⟨e1, e2⟩ | e
    · rcases e2 with e2 | e2
      · exact h.off e2 j e1 hm
      · exact hR j e2 hm
    · have := hlt j hm; omega
  · rcases ht.js j hj with e | e
    · exact h.js j e.1
    · omega
  · rcases ht.given with h1 | ⟨u', x, z, h1, h2, h3, h4⟩
    · rw [h1] at hy; cases hy
    · rw [h1] at hy
      cases hy
      exact ⟨made', x, z, h2, h3, h4.same, (Ownd.mk (n0 := 0) h4.row (fun k hk => Nat.zero_le _) h4.few).ok⟩
theorem R2I.keeps {R : List Nat} {s s' : Sb} {A B : World} (h : R2I w p v0 l f qk s A) (ht : StepT R l f s s' A B) (k : Nat) (o : Obj) (hk : k = w.heap.size ∨ k = w.heap.size + 1) (ho : A.heap[k]? = some o) : B.heap[k]? = some o := by
  refine (ht.turn.low (Array.getElem?_eq_some_iff.1 ho).1 ?_).trans ho
  cases e : s.made with
  | true => have := (ht.stays e).2; have := h.mb e; omega
  | false => have := (ht.makes e).2.1; have := (Array.getElem?_eq_some_iff.1 ho).1; omega
theorem R2I.put {s : Sb} {W : World} (h : R2I w p v0 l f qk s W) (o' : Obj) : KeepT s W (W.putObj (w.heap.size + 1) o') := KeepT.putObj (fun j hj => (h.js j hj).2) (fun e => by have := h.mb e; omega) W o'
/-- A round is over: the versions are taken, the counter has risen. -/
theorem R2I.round {s : Sb} {A B : World} {y x z : Vn} (hlt : ∀ k ∈ qk :: p :: own v0, k < w.heap.size) (h : R2I w p v0 l f qk s A) (hm : s.made = true) (hx : l[s.i]? = some x) (hz : f x = some z) (k : Kp (qk :: p :: own v0) A B) (hb : Bx B qk [.int .i64 ((((l.take s.i).filterMap f).length : Int) + 1)]) (hD : Wos B p (.slice none 0 0) []) :
    KeepsFrom w.heap.size A B ∧ KeepT s A B ∧ R2I w p v0 l f qk (s.nx y) B := by
  have hlow : ∀ (j : Nat) (o : Obj), w.heap.size ≤ j → A.heap[j]? = some o → B.heap[j]? = some o := fun j o hj ho => (k.block j (Array.getElem?_eq_some_iff.1 ho).1 (fun hm' => by have := hlt j hm'; omega)).trans ho
  refine ⟨⟨k.size, fun j o hj ho _ => hlow j o hj ho⟩, ⟨KeepN.ofKp k (fun j hj hm' => h.off hm j hj hm'), fun e j o hj ho _ => hlow j o (by have := h.mb e; omega) ho⟩, ⟨h.kp.trans k (fun _ h => .inl h), ?_, ⟨_, _, hD, by simp [own, Value.ownBlock], .inr rfl, by simp⟩, h.off, h.mb, h.js, fun u hu => (by cases hu)⟩⟩
  have e : ((l.take (s.i + 1)).filterMap f).length = ((l.take s.i).filterMap f).length + 1 := by rw [filt_one hx hz]; simp
  show Bx B qk [.int .i64 (((l.take (s.i + 1)).filterMap f).length : Int)]
  rw [e]
  exact hb
end
theorem filt_at {f : Vn → Option Vn} {l : List Vn} {i : Nat} {x z : Vn} (hx : l[i]? = some x) (hz : f x = some z) : (l.filterMap f)[((l.take i).filterMap f).length]? = some z := by
  obtain ⟨hl, rfl⟩ := List.getElem?_eq_some_iff.1 hx
  have e : l = l.take i ++ l[i] :: l.drop (i + 1) := by rw [List.getElem_cons_drop, List.take_append_drop]
  have e2 : l.filterMap f = (l.take i).filterMap f ++ z :: (l.drop (i + 1)).filterMap f := by
    conv => lhs; rw [e]
    rw [List.filterMap_append, List.filterMap_cons, hz]
  rw [e2]
  simp
theorem shareD {C G : Nat → World → Prop} {Goal : Prop} (xone : (∀ D W, C D W → G D W) → Goal) (xtwo : ∀ D W, C D W → G D W) : Goal := xone xtwo
end Go.Proofs.Ytdjlefacdfdhmaa
end

section
namespace Go.Proofs.Ytdjlefacdfdhmaa
open Go.RowKit Go.Hay
attribute [local go_sem] Oper.semAt_some
set_option linter.unusedVariables false
set_option linter.unusedSimpArgs false

set_option maxHeartbeats 16000000 in
set_option maxRecDepth 100000 in
theorem walkRange (a : Option Addr) (c : Nat) (L : List OpV) (E : Int) (w : World) (hs : OpE.See w a L) (ho : ∀ o ∈ L, VnOk w o.v) (hb : L.length ≤ 2000000000000) :
    Calls Try.prog 7 #[.slice a L.length c, .int .u64 E] w fun e w' => e = .returned (.bool true) ∧ Below w.heap.size w w' := by
  obtain ⟨wa, hwa⟩ : ∃ wa, (w.alloc (.cells #[.int .u64 E] 30)).alloc (.cells #[.bool false] 4) = wa := ⟨_, rfl⟩
  have ka : Kp [] w wa := by rw [← hwa]; exact ((Kp.refl _ _).alloc _).alloc _
  have be : Bx wa w.heap.size [.int .u64 E] := by rw [← hwa]; exact (Bx.new w [.int .u64 E] _).kept ((Kp.refl _ _).alloc _) (by simp)
  have br : Bx wa (w.heap.size + 1) [.bool false] := by
    rw [← hwa]
    have := Bx.new (w.alloc (.cells #[.int .u64 E] 30)) [.bool false] 4
    rwa [World.size_alloc] at this
  have hza : wa.heap.size = w.heap.size + 2 := by rw [← hwa]; simp
  have cB := cBegun wa
  have hR := hid (fun w1 p (P : PW wa w1 p (.slice none 0 0) [] none []) => cRunK P a c L (hs.keptNew ka) (fun o h => (ho o h).kept ka) hb)
  have hBe := hid be
  have hBr := hid br
  clear hs ho be br
  refine (callsIn_wide (n := 8)).1 ?_
  refine callsIn_of_wp_marks Try.func7 rfl trivial ?_ rfl
  simp only [Try.ntmps7, List.size_toArray, List.length_cons, List.length_nil, Nat.reduceAdd, Nat.reduceSub, Array.replicate_succ, Array.replicate_zero, List.push_toArray, List.append_toArray, List.nil_append, List.cons_append]
  refine wpIn_wide.2 ?_
  go_wp2_with fail
  refine cB.mono ?_
  rintro e w1 ⟨p, rfl, hD, k1, hp⟩
  obtain ⟨wb, hwb⟩ : ∃ wb, w1.alloc (.cells #[.pointer (some ⟨p, 0, none⟩)] 23) = wb := ⟨_, rfl⟩
  have kb : Kp [] w1 wb := by rw [← hwb]; exact (Kp.refl _ _).alloc _
  have bp : Bx wb w1.heap.size [.pointer (some ⟨p, 0, none⟩)] := by rw [← hwb]; exact Bx.new w1 [.pointer (some ⟨p, 0, none⟩)] _
  have hzb : w1.heap.size < wb.heap.size := by rw [← hwb]; simp
  have Pb := (BegP.pw hD k1 hp).keep kb
  have cR := hR.out wb p Pb
  obtain ⟨q5, hq5⟩ : ∃ q, Hid (w1.heap.size = q) := ⟨_, rfl⟩
  have x0 := bp.get 0 _ rfl
  have fx := bp.free 0
  have hBp := hid bp
  have hDl := hid hD.lt
  clear cB hD hR bp Pb
  go_wp2_with fail
  refine cR.mono ?_
  rintro e1 w2 ⟨p', v', l', ra', rc', r', rfl, P, hlL, F⟩
  rw [hq5.out] at hBp hzb
  have hpq : p ≠ q5 := by have := hDl.out; have := hq5.out; omega
  have b2 := hBp.out.keptS F.kp (by simpa using fun e => hpq e.symm) hzb
  have c2 := b2.get 0 _ rfl
  have f2 := b2.free 0
  obtain ⟨w3, hw3⟩ : ∃ w3, w2.setCell ⟨q5, 0, none⟩ (.pointer (some ⟨p', 0, none⟩)) = w3 := ⟨_, rfl⟩
  have b3 : Bx w3 q5 [.pointer (some ⟨p', 0, none⟩)] := by rw [← hw3]; exact b2.set 0 (by simp) _
  have k3 : Kp [q5] w2 w3 := by rw [← hw3]; exact (Kp.refl _ _).setCell (.inl (by simp)) _
  have hoff : ∀ k ∈ p' :: own v', k ∉ [q5] := fun k hk => by
    simp only [List.mem_singleton]
    rcases F.foot k hk with e | e
    · omega
    · omega
  have P3 : PW wa w3 p' v' l' ra' r' := P.keepS (w0 := w2) k3 (fun k hk h => hoff k h hk) (fun x hx k hk => by have := F.rows x hx k hk; simp; omega) (fun hne k hk => by have := F.ref hne k hk; simp; omega) (fun k hk => by simp at hk; subst hk; rw [← hq5.out]; exact k1.size)
  have F3 : Fre wb p w2 p' v' l' ra' r' := F
  have e3 := (hBe.out.kept P3.kp (by omega)).get 0 _ rfl
  have d0 := b3.get 0 _ rfl
  have cA := cAt p' E w3
  obtain ⟨w4, hw4⟩ : ∃ w4, (w3.alloc (.cells #[.pointer (some ⟨p', 0, none⟩)] 23)).alloc (.cells #[.int .u64 E] 30) = w4 := ⟨_, rfl⟩
  rw [hw4] at cA
  have k4 : Kp [] w3 w4 := by rw [← hw4]; exact ((Kp.refl _ _).alloc _).alloc _
  have hg0 : Hid (w4.cell? ⟨w3.heap.size, 0, none⟩ = some (.pointer (some ⟨p', 0, none⟩)) ∧ w4.cell? ⟨w3.heap.size + 1, 0, none⟩ = some (.int .u64 E)) := by
    rw [← hw4]
    refine ⟨kpAt ((Kp.refl _ _).alloc _) (World.cell?_alloc_new w3 #[.pointer (some ⟨p', 0, none⟩)] 23 0), ?_⟩
    have := World.cell?_alloc_new (w3.alloc (.cells #[.pointer (some ⟨p', 0, none⟩)] 23)) #[.int .u64 E] 30 0
    rwa [World.size_alloc] at this
  have hP3 := hid P3
  have hF3 := hid F3
  have hB3 := hid b3
  clear cR P P3 F F3 b2 b3 hoff hw4
  rw [hq5.out]
  go_wp2_with fail
  refine cA.mono ?_
  rintro e2 w4' ⟨rfl, hw4'⟩
  rw [hw4']
  clear hw4' w4' cA c2 f2 d0 e3
  go_wp2_with fail
  refine (wpIn_wide (n := 8)).1 ?_
  have D4 := hP3.out.D.keptNew k4
  obtain ⟨aq, hjs, hsq⟩ := atSeqAt D4 w3.heap.size (w3.heap.size + 1) E hg0.out.1 hg0.out.2
  apply shareD (C := fun D W => Kp [] w4 W ∧ w4.heap.size ≤ D ∧ W.heap[D]? = some (.deferred (some [])))
  · intro HK
    refine wpRangeX rfl (by omega) (gf := 28) rfl trivial (enters_of Try.func28 (by kernel_rfl) rfl)
      hsq (fun _ => rfl) KeepT.trans (fun s => KeepT.alloc s) (KeepT.refl _ _)
      (RgI w4) (fun c s W => c = .exit 0 ∧ RgI w4 s W) RgI.own (fun _ s X Y row h hg hr => ⟨h.1, RgI.own s X Y row h.2 hg hr⟩) ⟨Kp.refl _ _, fun h => (by cases h), fun j hj => by have := hjs j hj; omega⟩
      (fun s s' A B h ht k o hk ho => h.keeps ht k o hk ho) (fun _ _ _ _ h ht k o hk ho => h.2.keepsX ht k o hk ho) (fun s s' A B hz h ht => h.step hz ht) (fun _ _ _ _ h ht => ⟨h.1, h.2.stepX ht⟩)
      (fun s W o' h => h.put o') (fun s x W o' h => RgI.put (s := s) ⟨h.kp, h.mb, h.js⟩ o') (fun c s x W o' h => RgI.put (s := s) ⟨h.2.kp, h.2.mb, h.2.js⟩ o')
      (fun x => { tmps := #[.slice a L.length c, .int .u64 E, undef, .pointer (some ⟨w.heap.size, 0, none⟩), .pointer (some ⟨w.heap.size + 1, 0, none⟩), .pointer (some ⟨q5, 0, none⟩), .bool true, (.slice ra' r'.length rc'), undef, undef, undef, .tuple #[.pointer (some ⟨p, 0, none⟩), .bool true], .tuple #[.pointer (some ⟨p, 0, none⟩), .bool true], .pointer (some ⟨p, 0, none⟩), .bool true, .bool true, .bool false, (.tuple #[.pointer (some ⟨p', 0, none⟩), .slice ra' r'.length rc', .bool true]), .pointer (some ⟨p, 0, none⟩), .slice a L.length c, (.tuple #[.pointer (some ⟨p', 0, none⟩), .slice ra' r'.length rc', .bool true]), (.pointer (some ⟨p', 0, none⟩)), (.slice ra' r'.length rc'), .bool true, .bool true, .bool false, (.pointer (some ⟨p', 0, none⟩)), .int .u64 E, .func (.func 28) #[] #[.pointer (some ⟨w3.heap.size, 0, none⟩), .pointer (some ⟨w3.heap.size + 1, 0, none⟩)], .agg #[.int .u64 x.ep, .int .u32 x.num, .slice x.a x.row.length x.c, .int .u64 x.del], undef, undef, undef, undef, undef, undef, undef, undef, undef, undef, undef, undef, undef, undef, undef, undef, undef, undef, undef, undef, undef, undef, undef, undef, undef, undef, undef, undef, undef, undef, undef, undef, undef, undef, undef, undef, undef, undef, undef, undef, undef, undef, undef, undef, undef], defers := [] }) ?assign ?body ?done ?stop
    case assign =>
      intro l x W C hC
      gi_wp2_with fail
      exact hC
    case body =>
      rintro lr s x A h hok
      have hh := hid h
      clear h
      gi_wp2_with fail
      exact ⟨⟨Nat.le_refl _, fun k o _ h _ => h⟩, KeepT.refl _ _, rfl, ⟨hh.out.kp, hh.out.mb, hh.out.js⟩⟩
    case done =>
      rintro D s X hD ⟨hmd, hsi, hsv⟩ h hK
      exact HK D X ⟨h.kp, hD, hK⟩
    case stop =>
      rintro D c s X hD _ ⟨rfl, h⟩ hK
      refine wpIn_exit ?_
      exact HK D X ⟨h.kp, hD, hK⟩
  · rintro D1 w5 ⟨k5, hD1, hK1⟩
    have P5 := (hP3.out.keep k4).keep k5
    have k35 := k4.trans k5 (by simp)
    have e5 := (hBe.out.kept P5.kp (by omega)).get 0 _ rfl
    have b5 := hB3.out.kept k35 (hB3.out.lt (by simp))
    have d5 := b5.get 0 _ rfl
    have cT := rAt ra' rc' r' E w5 P5.S (by have := P5.len; omega)
    obtain ⟨T, hT⟩ : ∃ T, Hid (atV E r' = T) := ⟨_, rfl⟩
    unfold GatP at cT
    rw [hT.out] at cT
    have hP5 := hid P5
    have hB5 := hid b5
    have hwa5 : wa.heap.size ≤ w5.heap.size := P5.kp.size
    have hD5l : ∀ k ∈ p' :: own v', k < w5.heap.size := P5.D.ltAll
    have hql5 : q5 < w5.heap.size := b5.lt (by simp)
    have hq5f : ∀ k ∈ p' :: own v', k ≠ q5 := fun k hk => by
      rcases hF3.out.foot k hk with e | e
      · rw [e]; exact hpq
      · omega
    have hq5f' := hid hq5f
    have hD5l' := hid hD5l
    clear P5 b5 hq5f hD5l hsq hjs
    go_wp2_with fail
    refine cT.mono ?_
    rintro e6 w6 ⟨a8, c8, rfl, hr6, k6, hn6⟩
    obtain ⟨w7, hw7⟩ : ∃ y, w6.alloc (.cells #[.slice a8 T.length c8] 26) = y := ⟨_, rfl⟩
    have k7 : Kp [] w6 w7 := by rw [← hw7]; exact (Kp.refl _ _).alloc _
    have b7 : Bx w7 w6.heap.size [.slice a8 T.length c8] := by rw [← hw7]; exact Bx.new w6 [.slice a8 T.length c8] _
    have hz7 : w6.heap.size + 1 ≤ w7.heap.size ∧ w7.heap.size ≤ w6.heap.size + 1 := by rw [← hw7]; simp
    obtain ⟨wz, hwz⟩ : ∃ y, w7.alloc (.cells #[.int .i64 0] 3) = y := ⟨_, rfl⟩
    have bz : Bx wz w7.heap.size [.int .i64 0] := by rw [← hwz]; exact Bx.new w7 [.int .i64 0] _
    have cz := bz.get 0 _ rfl
    have fz := bz.free 0
    have hzz : w7.heap.size + 1 ≤ wz.heap.size ∧ wz.heap.size ≤ w7.heap.size + 1 := by rw [← hwz]; simp
    obtain ⟨w8, hw8⟩ : ∃ y, wz.setCell ⟨w7.heap.size, 0, none⟩ (.int .i64 0) = y := ⟨_, rfl⟩
    have b8 : Bx w8 w7.heap.size [.int .i64 0] := by rw [← hw8]; exact bz.set 0 (by simp) _
    have k8 : Kp [] w7 w8 := by
      have kz : Kp [] w7 wz := by rw [← hwz]; exact (Kp.refl _ _).alloc _
      rw [← hw8]
      exact kz.setCell (.inr (Nat.le_refl _)) _
    have hz8 : w7.heap.size + 1 ≤ w8.heap.size ∧ w8.heap.size ≤ w7.heap.size + 1 := by rw [← hw8]; simp only [World.size_setCell]; exact hzz
    have cA := cAt p' E w8
    obtain ⟨w9, hw9⟩ : ∃ w9, (w8.alloc (.cells #[.pointer (some ⟨p', 0, none⟩)] 23)).alloc (.cells #[.int .u64 E] 30) = w9 := ⟨_, rfl⟩
    rw [hw9] at cA
    have k9 : Kp [] w8 w9 := by rw [← hw9]; exact ((Kp.refl _ _).alloc _).alloc _
    have hz9 : w8.heap.size + 2 ≤ w9.heap.size ∧ w9.heap.size ≤ w8.heap.size + 2 := by rw [← hw9]; simp
    have hg9 : w9.cell? ⟨w8.heap.size, 0, none⟩ = some (.pointer (some ⟨p', 0, none⟩)) ∧ w9.cell? ⟨w8.heap.size + 1, 0, none⟩ = some (.int .u64 E) := by
      rw [← hw9]
      refine ⟨kpAt ((Kp.refl _ _).alloc _) (World.cell?_alloc_new w8 #[.pointer (some ⟨p', 0, none⟩)] 23 0), ?_⟩
      have := World.cell?_alloc_new (w8.alloc (.cells #[.pointer (some ⟨p', 0, none⟩)] 23)) #[.int .u64 E] 30 0
      rwa [World.size_alloc] at this
    have k57 := k6.trans k7 (by simp)
    have k58 := k57.trans k8 (by simp)
    have k59 := k58.trans k9 (by simp)
    have hz6 := k6.size
    have e8 := kpAt k58 e5
    have d8 := kpAt k58 d5
    have hk59 := hid k59
    have hS9 := hid ((See.ofRow hr6).keptNew ((k7.trans k8 (by simp)).trans k9 (by simp)))
    have b79 := hid ((b7.kept k8 (by omega)).kept k9 (by omega))
    have b89 := hid (b8.kept k9 (by omega))
    have hn6' := hid (And.intro hn6 (fun k (hk : k ∈ blk a8) => hr6.lt k (by rw [own_slice]; exact hk)))
    have hg9' := hid hg9
    clear cT hr6 hn6 b7 b8 hg9 k7 k8 k57 k58 k59
    go_wp2_with fail
    refine cA.mono ?_
    rintro e9 w9' ⟨rfl, hw9'⟩
    rw [hw9']
    clear hw9' w9' cA e5 d5 e8 d8 hw7 hw8 hw9 hwz cz fz bz
    go_wp2_with fail
    refine (wpIn_wide (n := 8)).1 ?_
    have D9 := hP5.out.D.keptNew hk59.out
    obtain ⟨aq, hjs, hsq⟩ := atSeqAt D9 w8.heap.size (w8.heap.size + 1) E hg9'.out.1 hg9'.out.2
    have hltF : ∀ k ∈ w7.heap.size :: p' :: own v', k < w9.heap.size := fun k hk => by
      rcases List.mem_cons.1 hk with e | e
      · omega
      · have := hD5l'.out k e; omega
    have hltF' := hid hltF
    have hRoff : ∀ k ∈ rowsB l' ++ [w8.heap.size + 1], k ∉ w7.heap.size :: p' :: own v' := fun k hk hm => by
      rcases List.mem_append.1 hk with h1 | h1
      · obtain ⟨y, hy, h2⟩ := mem_rowsB.1 h1
        rcases List.mem_cons.1 hm with e | e
        · have := (hP5.out.D.ok y hy).lt k h2; omega
        · exact hP5.out.D.off y hy k h2 e
      · simp only [List.mem_singleton] at h1
        rcases List.mem_cons.1 hm with e | e
        · omega
        · have := hD5l'.out k e; omega
    refine wpRangeY rfl (by omega) (gf := 28) rfl trivial (enters_of Try.func28 (by kernel_rfl) rfl)
      hsq (fun _ => rfl) KeepT.trans (fun s => KeepT.alloc s) (KeepT.refl _ _)
      (R2I w9 p' v' l' (fun x => if seenV E x = true then some (asV E x) else none) w7.heap.size) (fun _ _ _ => False) R2I.owned (fun _ _ _ _ _ h _ _ => h)
      ⟨Kp.refl _ _, b89.out, ⟨v', l', D9, fun _ h => h, .inl rfl, fun y hy k hk => by have := (hP5.out.D.ok y hy).lt k hk; omega⟩, fun h => (by cases h), fun h => (by cases h), fun j hj => by have := hjs j hj; omega, fun y hy => (by cases hy)⟩
      (fun s s' A B h ht k o hk ho => h.keeps ht k o hk ho) (fun _ _ _ _ h => h.elim) (fun s s' A B hz h ht => h.step hRoff hltF hz ht) (fun _ _ _ _ h => h.elim)
      (fun s W o' h => h.put o') (fun s x W o' h => KeepT.putObj (s := s) (fun j hj => (h.js j hj).2) (fun e => by have : w9.heap.size + 2 ≤ s.B0 := h.mb e; omega) W o') (fun _ _ _ _ _ h => h.elim)
      (fun x => .cells #[.int .u64 x.ep, .int .u32 x.num, .slice x.a x.row.length x.c, .int .u64 x.del] 45)
      (fun x q => { tmps := #[.slice a L.length c, .int .u64 E, undef, .pointer (some ⟨w.heap.size, 0, none⟩), .pointer (some ⟨w.heap.size + 1, 0, none⟩), .pointer (some ⟨q5, 0, none⟩), .bool true, (.slice ra' r'.length rc'), .pointer (some ⟨w6.heap.size, 0, none⟩), .pointer (some ⟨w7.heap.size, 0, none⟩), .pointer (some ⟨q, 0, none⟩), .tuple #[.pointer (some ⟨p, 0, none⟩), .bool true], .tuple #[.pointer (some ⟨p, 0, none⟩), .bool true], .pointer (some ⟨p, 0, none⟩), .bool true, .bool true, .bool false, (.tuple #[.pointer (some ⟨p', 0, none⟩), .slice ra' r'.length rc', .bool true]), .pointer (some ⟨p, 0, none⟩), .slice a L.length c, (.tuple #[.pointer (some ⟨p', 0, none⟩), .slice ra' r'.length rc', .bool true]), (.pointer (some ⟨p', 0, none⟩)), (.slice ra' r'.length rc'), .bool true, .bool true, .bool false, (.pointer (some ⟨p', 0, none⟩)), .int .u64 E, .func (.func 28) #[] #[.pointer (some ⟨w3.heap.size, 0, none⟩), .pointer (some ⟨w3.heap.size + 1, 0, none⟩)], undef, (.slice ra' r'.length rc'), .int .u64 E, .slice a8 T.length c8, (.pointer (some ⟨p', 0, none⟩)), .int .u64 E, .func (.func 28) #[] #[.pointer (some ⟨w8.heap.size, 0, none⟩), .pointer (some ⟨w8.heap.size + 1, 0, none⟩)], .agg #[.int .u64 x.ep, .int .u32 x.num, .slice x.a x.row.length x.c, .int .u64 x.del], undef, undef, undef, undef, undef, undef, undef, undef, undef, undef, undef, undef, undef, undef, undef, undef, undef, undef, undef, undef, undef, undef, undef, undef, undef, undef, undef, undef, undef, undef, undef, undef, undef, undef, undef, undef, undef, undef], defers := [] }) ?assign ?body ?done ?stop
    case assign =>
      intro l x W C hC
      clear hltF hRoff D9 hjs hsq hK1
      gi_wp2_with fail
      exact hC
    case stop =>
      rintro D c s X hD _ h
      exact h.elim
    case body =>
      rintro lr s x A q h hok hob hq3
      have hok' : s.v = some x := hok
      obtain ⟨hmd, x0, z0, hx0, hz0, hpz, hokx⟩ := h.gv x hok'
      obtain ⟨n, hn⟩ : ∃ n, Hid (((l'.take s.i).filterMap (fun x => if seenV E x = true then some (asV E x) else none)).length = n) := ⟨_, rfl⟩
      have hat : (atV E l')[n]? = some z0 := by rw [← filtAt, ← hn.out]; exact filt_at hx0 hz0
      have hLk := hP5.out.L.atV E
      rw [hT.out] at hLk
      obtain ⟨z, hzT, hz0z⟩ := hLk.at hat
      have hxz : x.p = z.p := hpz.trans hz0z
      have hbq := h.box
      rw [hn.out] at hbq
      obtain ⟨v2, l2, hD2, hsub, _, hrq⟩ := h.st
      have kA := h.kp
      have hnT : n < T.length := (List.getElem?_eq_some_iff.1 hzT).1
      have hTf : T.length ≤ 4000000000000 := by rw [← hT.out]; have := len_at E r'; have := hP5.out.len; omega
      have hSA : VnE.See A a8 T := hS9.out.kept kA (fun hne k hk hm => by
        have h1 := hn6'.out.1 k hk; have h2 := hn6'.out.2 k hk
        rcases List.mem_cons.1 hm with e | e
        · omega
        · have := hD5l'.out k e; omega)
      obtain ⟨g, o, ea, d0, d1, d2, d3⟩ := idAt hSA hzT
      have okT : ∀ y ∈ T, VnOk A y := by
        rw [← hT.out]
        exact ok_at (fun y hy => ((hP5.out.O y hy).kept hk59.out).keptS kA (fun k hk hm => by
          have h1 := hP5.out.rb y hy k hk
          rcases List.mem_cons.1 hm with e | e
          · omega
          · have := hP5.out.nw k e; omega))
      have okz := okT z (List.mem_of_getElem? hzT)
      have bw := b79.out.keptS kA (fun hm => by
        rcases List.mem_cons.1 hm with e | e
        · omega
        · have := hD5l'.out _ e; omega) (by omega)
      have cw := bw.get 0 _ rfl
      have hbx : ∀ j : Nat, A.cell? ⟨q, j, none⟩ = (#[.int .u64 x.ep, .int .u32 x.num, .slice x.a x.row.length x.c, .int .u64 x.del] : Array Value)[j]? := fun j => by
        unfold World.cell?
        simp [hob]
      have hqA : q < A.heap.size := (Array.getElem?_eq_some_iff.1 hob).1
      have e9 := kpAt hk59.out ((hBe.out.kept hP5.out.kp (by omega)).get 0 _ rfl)
      have d9 := kpAt hk59.out (hB5.out.get 0 _ rfl)
      have eA : A.cell? ⟨w.heap.size, 0, none⟩ = some (.int .u64 E) := (kA.cell (p := ⟨w.heap.size, 0, none⟩) (by show w.heap.size < w9.heap.size; omega) (fun hm => by
        rcases List.mem_cons.1 hm with e | e
        · simp only at e; omega
        · have := hP5.out.nw _ e; simp only at this; omega)).trans e9
      have dA : A.cell? ⟨q5, 0, none⟩ = some (.pointer (some ⟨p', 0, none⟩)) := (kA.cell (p := ⟨q5, 0, none⟩) (by show q5 < w9.heap.size; omega) (fun hm => by
        rcases List.mem_cons.1 hm with e | e
        · simp only at e; omega
        · exact hq5f'.out _ e rfl)).trans d9
      have hzA := kA.size
      have fE : ∀ k ∈ p' :: own v2, k ≠ w.heap.size ∧ k ≠ q5 ∧ k ≠ w7.heap.size ∧ k ∈ p' :: own v' := fun k hk => by
        have hk' : k ∈ p' :: own v' := by
          rcases List.mem_cons.1 hk with e | e
          · simp [e]
          · exact List.mem_cons_of_mem _ (hsub k e)
        have h1 := hP5.out.nw k hk'; have h2 := hD5l'.out k hk'
        exact ⟨by omega, hq5f'.out k hk', by omega, hk'⟩
      subst ea
      have cS : ∀ X, Kp [] A X → Calls Try.prog 21 #[.agg #[.int .u64 x.ep, .int .u32 x.num, .slice x.a x.row.length x.c, .int .u64 x.del], .agg #[.int .u64 z.ep, .int .u32 z.num, .slice z.a z.row.length z.c, .int .u64 z.del]] X fun e w' => e = .returned (.bool true) ∧ Kp [] X w' := fun X k => rSame x z X (hokx.kept k) (okz.kept k) hxz
      have hR2 := hid (And.intro h (And.intro hx0 hz0))
      have hbq' := hid hbq
      have hD2' := hid hD2
      have hfE := hid fE
      have heA := hid (And.intro eA dA)
      obtain ⟨xe, xn, xa, xc, xr, xd⟩ := x
      obtain ⟨ze, zn, za, zc, zr, zd⟩ := z
      dsimp only at *
      have v0' := hbx 0; have v1' := hbx 1; have v2' := hbx 2; have v3' := hbx 3
      have hSk : Hid (∀ A' : World, Kp [] A A' → (fun A : World => (A.cell? ⟨w7.heap.size, 0, none⟩ = some (.int .i64 (n : Int)) ∧ A.cell? ⟨w6.heap.size, 0, none⟩ = some (.slice (some ⟨g, o, none⟩) T.length c8)) ∧ (A.cell? ⟨q, 0, none⟩ = some (.int .u64 xe) ∧ A.cell? ⟨q, 1, none⟩ = some (.int .u32 xn) ∧ A.cell? ⟨q, 2, none⟩ = some (.slice xa xr.length xc) ∧ A.cell? ⟨q, 3, none⟩ = some (.int .u64 xd)) ∧ A.cell? ⟨g, o + n * 4, none⟩ = some (.int .u64 ze) ∧ A.cell? ⟨g, o + n * 4 + 1, none⟩ = some (.int .u32 zn) ∧ A.cell? ⟨g, o + n * 4 + 2, none⟩ = some (.slice za zr.length zc) ∧ A.cell? ⟨g, o + n * 4 + 3, none⟩ = some (.int .u64 zd)) A') := fun A' k => ⟨⟨(hbq.kept k (hbq.lt (by simp))).get 0 _ rfl, kpAt k cw⟩, ⟨kpAt k v0', kpAt k v1', kpAt k v2', kpAt k v3'⟩, kpAt k d0, kpAt k d1, kpAt k d2, kpAt k d3⟩
      have hbx' := hid (And.intro v0' v1')
      have di2 : ¬ (T.length : Int) ≤ (n : Int) := by omega
      have di3 : decide ((T.length : Int) ≤ (n : Int)) = false := by simp; omega
      have di6 : decide (T.length ≤ n) = false := by simp; omega
      have di4 : (n : Int) < (T.length : Int) := by omega
      have di5 : (0 : Int) ≤ (n : Int) := by omega
      clear h hok hok' hob hbx hbq hD2 hSA okT okz bw cw d0 d1 d2 d3 eA dA e9 d9 hat hLk hzT hz0z hpz hxz hokx v0' v1' v2' v3' fE hx0 hz0 kA hsub hsq hjs hltF hRoff D9
      gi_wp2_with fail
      refine region_round (fun A => (A.cell? ⟨w7.heap.size, 0, none⟩ = some (.int .i64 (n : Int)) ∧ A.cell? ⟨w6.heap.size, 0, none⟩ = some (.slice (some ⟨g, o, none⟩) T.length c8)) ∧ (A.cell? ⟨q, 0, none⟩ = some (.int .u64 xe) ∧ A.cell? ⟨q, 1, none⟩ = some (.int .u32 xn) ∧ A.cell? ⟨q, 2, none⟩ = some (.slice xa xr.length xc) ∧ A.cell? ⟨q, 3, none⟩ = some (.int .u64 xd)) ∧ A.cell? ⟨g, o + n * 4, none⟩ = some (.int .u64 ze) ∧ A.cell? ⟨g, o + n * 4 + 1, none⟩ = some (.int .u32 zn) ∧ A.cell? ⟨g, o + n * 4 + 2, none⟩ = some (.slice za zr.length zc) ∧ A.cell? ⟨g, o + n * 4 + 3, none⟩ = some (.int .u64 zd)) (by kernel_rfl) (by kernel_rfl) (by rintro ⟨_, _, hlo⟩; exact hlo) ?_ (fun hHeld => ?_)
      · exact hSk.out _ (Kp.refl _ _).drew
      obtain ⟨wd, hwd⟩ : ∃ X, A.drew = X := ⟨_, rfl⟩
      rw [hwd] at hHeld ⊢
      have Kwd : Kp [] A wd := by rw [← hwd]; exact (Kp.refl _ _).drew
      clear hwd
      refine wpAnyH_take (i := 0) (v := ?_) rfl (by kernel_rfl) (by kernel_rfl) (by kernel_rfl) (fun _ _ _ h => h) (Or.inl ⟨by rfl, ?_⟩) (by assumption) ?_
      rotate_left
      · intro w hSw; (try dsimp only at hSw); go_simp <;> with_reducible rfl
      try simp only [Act.put, List.getElem_toArray, List.getElem_cons_zero, List.getElem_cons_succ, List.setIfInBounds_toArray, List.set_cons_zero, List.set_cons_succ]
      refine wpAnyH_take (i := 1) (v := ?_) rfl (by kernel_rfl) (by kernel_rfl) (by kernel_rfl) (fun _ _ _ h => h) (Or.inl ⟨by rfl, ?_⟩) (by assumption) ?_
      rotate_left
      · intro w hSw; (try dsimp only at hSw); go_simp <;> with_reducible rfl
      try simp only [Act.put, List.getElem_toArray, List.getElem_cons_zero, List.getElem_cons_succ, List.setIfInBounds_toArray, List.set_cons_zero, List.set_cons_succ]
      refine wpAnyH_take (i := 2) (v := ?_) rfl (by kernel_rfl) (by kernel_rfl) (by kernel_rfl) (fun _ _ _ h => h) (Or.inl ⟨by rfl, ?_⟩) (by assumption) ?_
      rotate_left
      · intro w hSw; (try dsimp only at hSw); go_simp <;> with_reducible rfl
      try simp only [Act.put, List.getElem_toArray, List.getElem_cons_zero, List.getElem_cons_succ, List.setIfInBounds_toArray, List.set_cons_zero, List.set_cons_succ]
      refine wpAnyH_take (i := 3) (v := ?_) rfl (by kernel_rfl) (by kernel_rfl) (by kernel_rfl) (fun _ _ _ h => h) (Or.inl ⟨by rfl, ?_⟩) (by assumption) ?_
      rotate_left
      · intro w hSw; (try dsimp only at hSw); go_simp <;> with_reducible rfl
      try simp only [Act.put, List.getElem_toArray, List.getElem_cons_zero, List.getElem_cons_succ, List.setIfInBounds_toArray, List.set_cons_zero, List.set_cons_succ]
      try simp only [di3, di6, di2]
      refine wpAnyH_take (i := 4) (v := ?_) rfl (by kernel_rfl) (by kernel_rfl) (by kernel_rfl) (fun _ _ _ h => h) (Or.inl ⟨by rfl, ?_⟩) (by assumption) ?_
      rotate_left
      · intro w hSw; (try dsimp only at hSw); go_simp <;> with_reducible rfl
      try simp only [Act.put, List.getElem_toArray, List.getElem_cons_zero, List.getElem_cons_succ, List.setIfInBounds_toArray, List.set_cons_zero, List.set_cons_succ]
      try simp only [di3, di6, di2]
      refine wpAnyH_take (i := 5) (v := ?_) rfl (by kernel_rfl) (by kernel_rfl) (by kernel_rfl) (fun _ _ _ h => h) (Or.inl ⟨by rfl, ?_⟩) (by assumption) ?_
      rotate_left
      · intro w hSw; (try dsimp only at hSw); go_simp <;> with_reducible rfl
      try simp only [Act.put, List.getElem_toArray, List.getElem_cons_zero, List.getElem_cons_succ, List.setIfInBounds_toArray, List.set_cons_zero, List.set_cons_succ]
      refine wpAnyH_take (i := 6) (v := ?_) rfl (by kernel_rfl) (by kernel_rfl) (by kernel_rfl) (fun _ _ _ h => h) (Or.inl ⟨by rfl, ?_⟩) (by assumption) ?_
      rotate_left
      · intro w hSw; (try dsimp only at hSw); go_simp <;> with_reducible rfl
      try simp only [Act.put, List.getElem_toArray, List.getElem_cons_zero, List.getElem_cons_succ, List.setIfInBounds_toArray, List.set_cons_zero, List.set_cons_succ]
      refine wpAnyH_take (i := 7) (v := ?_) rfl (by kernel_rfl) (by kernel_rfl) (by kernel_rfl) (fun _ _ _ h => h) (Or.inl ⟨by rfl, ?_⟩) (by assumption) ?_
      rotate_left
      · intro w hSw; (try dsimp only at hSw); go_simp <;> with_reducible rfl
      try simp only [Act.put, List.getElem_toArray, List.getElem_cons_zero, List.getElem_cons_succ, List.setIfInBounds_toArray, List.set_cons_zero, List.set_cons_succ]
      refine wpAnyH_take (i := 8) (v := ?_) rfl (by kernel_rfl) (by kernel_rfl) (by kernel_rfl) (fun _ _ _ h => h) (Or.inl ⟨by rfl, ?_⟩) (by assumption) ?_
      rotate_left
      · intro w hSw; (try dsimp only at hSw); go_simp <;> with_reducible rfl
      try simp only [Act.put, List.getElem_toArray, List.getElem_cons_zero, List.getElem_cons_succ, List.setIfInBounds_toArray, List.set_cons_zero, List.set_cons_succ]
      refine wpAnyH_take (i := 9) (v := ?_) rfl (by kernel_rfl) (by kernel_rfl) (by kernel_rfl) (fun _ _ _ h => h) (Or.inl ⟨by rfl, ?_⟩) (by assumption) ?_
      rotate_left
      · intro w hSw; (try dsimp only at hSw); go_simp <;> with_reducible rfl
      try simp only [Act.put, List.getElem_toArray, List.getElem_cons_zero, List.getElem_cons_succ, List.setIfInBounds_toArray, List.set_cons_zero, List.set_cons_succ]
      refine wpAnyH_ready (rs := [10]) (by kernel_rfl) (by simp) ?_
      refine AllReadyH.cons rfl (fun K hK => ?_) AllReadyH.nil
      go_simp
      refine (cS wd Kwd).mono ?_
      rintro e1 x1 ⟨rfl, kx1⟩
      (try go_wp2_with fail)
      refine hK.out _ _ ?_ (fun hHeld => ?_)
      · exact hSk.out _ (Kwd.trans kx1 (by simp))
      clear hK K
      try simp only [Act.put, List.getElem_toArray, List.getElem_cons_zero, List.getElem_cons_succ, List.setIfInBounds_toArray, List.set_cons_zero, List.set_cons_succ]
      refine wpAnyH_take (i := 11) (v := ?_) rfl (by kernel_rfl) (by kernel_rfl) (by kernel_rfl) (fun _ _ _ h => h) (Or.inl ⟨by rfl, ?_⟩) (by assumption) ?_
      rotate_left
      · intro w hSw; (try dsimp only at hSw); go_simp <;> with_reducible rfl
      try simp only [Act.put, List.getElem_toArray, List.getElem_cons_zero, List.getElem_cons_succ, List.setIfInBounds_toArray, List.set_cons_zero, List.set_cons_succ]
      refine wpAnyH_take (i := 12) (v := ?_) rfl (by kernel_rfl) (by kernel_rfl) (by kernel_rfl) (fun _ _ _ h => h) (Or.inl ⟨by rfl, ?_⟩) (by assumption) ?_
      rotate_left
      · intro w hSw; (try dsimp only at hSw); go_simp <;> with_reducible rfl
      try simp only [Act.put, List.getElem_toArray, List.getElem_cons_zero, List.getElem_cons_succ, List.setIfInBounds_toArray, List.set_cons_zero, List.set_cons_succ]
      refine wpAnyH_done (by kernel_rfl) ?_ _
      have K1 := Kwd.trans kx1 (by simp)
      have bk1 := hbq'.out.kept K1 (hbq'.out.lt (by simp))
      have ck1 := bk1.get 0 _ rfl
      have fk1 := bk1.free 0
      obtain ⟨x2, hx2⟩ : ∃ X, x1.setCell ⟨w7.heap.size, 0, none⟩ (.int .i64 ((n : Int) + 1)) = X := ⟨_, rfl⟩
      have bk2 : Bx x2 w7.heap.size [.int .i64 ((n : Int) + 1)] := by rw [← hx2]; exact bk1.set 0 (by simp) _
      have K2 : Kp [w7.heap.size] x1 x2 := by rw [← hx2]; exact (Kp.refl _ _).setCell (.inl (by simp)) _
      have K12 : Kp [w7.heap.size] A x2 := (K1.mono (by simp)).trans K2 (fun _ h => .inl h)
      have D2x : Wos x2 p' v2 l2 := (hD2'.out.keptNew K1).kept K2 (fun k hk => by simpa using (hfE.out k hk).2.2.1) (fun y hy k hk => by simpa using hrq y hy k hk)
      have cE := cErase D2x xe xn E
      have hzx := K12.size
      have e2 : x2.cell? ⟨w.heap.size, 0, none⟩ = some (.int .u64 E) := (K12.cell (p := ⟨w.heap.size, 0, none⟩) (by show w.heap.size < A.heap.size; omega) (by simp; omega)).trans heA.out.1
      have d2 : x2.cell? ⟨q5, 0, none⟩ = some (.pointer (some ⟨p', 0, none⟩)) := (K12.cell (p := ⟨q5, 0, none⟩) (by show q5 < A.heap.size; omega) (by simp; omega)).trans heA.out.2
      have v02 : x2.cell? ⟨q, 0, none⟩ = some (.int .u64 xe) := (K12.cell (p := ⟨q, 0, none⟩) hqA (by simp; omega)).trans hbx'.out.1
      have v12 : x2.cell? ⟨q, 1, none⟩ = some (.int .u32 xn) := (K12.cell (p := ⟨q, 1, none⟩) hqA (by simp; omega)).trans hbx'.out.2
      have hq2 := hid (And.intro e2 d2)
      have hbk2 := hid bk2
      have hK12 := hid K12
      have hkl : w7.heap.size < x2.heap.size := bk2.lt (by simp)
      have i8 : (-9223372036854775808 : Int) ≤ (n : Int) + 1 := by omega
      have i9 : (n : Int) + 1 ≤ 9223372036854775807 := by omega
      clear bk1 bk2 D2x K1 K2 K12 Kwd kx1 hHeld cS hSk hbx' heA hrq
      gi_wp2_with fail
      refine ⟨trivial, (CallsIn.inRound lr (callsIn_wide.2 cE)).mono ?_⟩
      rintro e3 x3 ⟨v3, rfl, hD3, hW3, _⟩
      have f3 : ∀ k ∈ p' :: own v3, (k ∈ p' :: own v2) ∨ x2.heap.size ≤ k := fun k hk => by
        rcases List.mem_cons.1 hk with e | e
        · exact .inl (by simp [e])
        · rcases hW3.new k e with h1 | h1
          · exact .inl (by simp [h1])
          · exact .inr h1
      have e3' : x3.cell? ⟨w.heap.size, 0, none⟩ = some (.int .u64 E) := (hW3.kp.cell (p := ⟨w.heap.size, 0, none⟩) (by show w.heap.size < x2.heap.size; omega) (fun hm => (hfE.out _ hm).1 rfl)).trans hq2.out.1
      have d3 : x3.cell? ⟨q5, 0, none⟩ = some (.pointer (some ⟨p', 0, none⟩)) := (hW3.kp.cell (p := ⟨q5, 0, none⟩) (by show q5 < x2.heap.size; omega) (fun hm => (hfE.out _ hm).2.1 rfl)).trans hq2.out.2
      have bk3 := hbk2.out.keptS hW3.kp (fun hm => (hfE.out _ hm).2.2.1 rfl) hkl
      have cP := cPurge hD3 E
      have hz3 := hW3.kp.size
      have hK3 := hid hW3.kp
      have hf3 := hid f3
      have hq3' := hid (And.intro e3' d3)
      have hbk3 := hid bk3
      clear cE hD3 hW3 f3 e2 d2 v02 v12 ck1 fk1 hx2 bk3
      gi_wp2_with fail
      refine ⟨trivial, (CallsIn.inRound lr (callsIn_wide.2 cP)).mono ?_⟩
      rintro e4 x4 ⟨v4, rfl, hD4, hW4, _⟩
      have nf : ∀ k ∈ p' :: own v3, k ≠ q5 ∧ k ≠ w7.heap.size := fun k hk => by
        rcases hf3.out k hk with h1 | h1
        · exact ⟨(hfE.out k h1).2.1, (hfE.out k h1).2.2.1⟩
        · exact ⟨by omega, by omega⟩
      have d4 : x4.cell? ⟨q5, 0, none⟩ = some (.pointer (some ⟨p', 0, none⟩)) := (hW4.kp.cell (p := ⟨q5, 0, none⟩) (by show q5 < x3.heap.size; omega) (fun hm => (nf _ hm).1 rfl)).trans hq3'.out.2
      have bk4 := hbk3.out.keptS hW4.kp (fun hm => (nf _ hm).2 rfl) (by omega)
      have cK := cTake hD4
      have hK4 := hid hW4.kp
      have hbk4 := hid bk4
      have hz4 := hW4.kp.size
      clear cP hD4 hW4 nf e3' d3 bk4
      gi_wp2_with fail
      refine ⟨trivial, (CallsIn.inRound lr (callsIn_wide.2 cK)).mono ?_⟩
      rintro e5 x5 ⟨L5, a5, c5, rfl, _, _, K5, _, _, hD5⟩
      have KB : Kp (w7.heap.size :: p' :: own v') A x5 := by
        refine (((hK12.out.mono (fun k hk => .inl (by simp at hk; simp [hk]))).trans hK3.out (fun k hk => .inl (List.mem_cons_of_mem _ (hfE.out k hk).2.2.2))).trans hK4.out (fun k hk => ?_)).trans K5 (fun k hk => .inl (by simp at hk; simp [hk]))
        rcases hf3.out k hk with h1 | h1
        · exact .inl (List.mem_cons_of_mem _ (hfE.out k h1).2.2.2)
        · exact .inr (by omega)
      have bk5 := hbk4.out.keptS K5 (fun hm => by simp at hm; exact (hfE.out p' (by simp)).2.2.1 hm.symm) (by omega)
      rw [← hn.out] at bk5
      have HB := hid (R2I.round (y := ⟨xe, xn, xa, xc, xr, xd⟩) hltF'.out hR2.out.1 hmd hR2.out.2.1 hR2.out.2.2 KB bk5 hD5)
      clear cK KB bk5 hD5 K5 d4
      gi_wp2_with fail
      exact HB.out
    case done =>
      rintro D s X hD ⟨hmd, hsi, hsv⟩ h hK
      obtain ⟨v2, l2, hD2, hsub, hcnt, _⟩ := h.st
      have hbq := h.box
      have eC : ((l'.take s.i).filterMap (fun x => if seenV E x = true then some (asV E x) else none)).length = T.length := by
        rw [hsi, List.take_length, filtAt]
        have := (hP5.out.L.atV E).len
        rw [hT.out] at this
        exact this
      rw [eC] at hbq hcnt
      have kX := h.kp
      have hzX := kX.size
      have ck := hbq.get 0 _ rfl
      have bw := b79.out.keptS kX (fun hm => by
        rcases List.mem_cons.1 hm with e | e
        · omega
        · have := hD5l'.out _ e; omega) (by omega)
      have cw := bw.get 0 _ rfl
      have d9 := kpAt hk59.out (hB5.out.get 0 _ rfl)
      have dX : X.cell? ⟨q5, 0, none⟩ = some (.pointer (some ⟨p', 0, none⟩)) := (kX.cell (p := ⟨q5, 0, none⟩) (by show q5 < w9.heap.size; omega) (fun hm => by
        rcases List.mem_cons.1 hm with e | e
        · simp only at e; omega
        · exact hq5f'.out _ e rfl)).trans d9
      have br9 := (hBr.out.kept hP5.out.kp (by omega)).kept hk59.out (by omega)
      have brX := br9.keptS kX (fun hm => by
        rcases List.mem_cons.1 hm with e | e
        · omega
        · have := hP5.out.nw _ e; omega) (by omega)
      have cr := brX.get 0 _ rfl
      have fr := brX.free 0
      obtain ⟨X2, hX2⟩ : ∃ Y, X.setCell ⟨w.heap.size + 1, 0, none⟩ (.bool true) = Y := ⟨_, rfl⟩
      have bX2 : Bx X2 (w.heap.size + 1) [.bool true] := by rw [← hX2]; exact brX.set 0 (by simp) _
      have kX2 : Kp [w.heap.size + 1] X X2 := by rw [← hX2]; exact (Kp.refl _ _).setCell (.inl (by simp)) _
      have hD1f : D1 ∉ w7.heap.size :: p' :: own v' := fun hm => by
        have h1 := (Array.getElem?_eq_some_iff.1 hK1).1
        rcases List.mem_cons.1 hm with e | e
        · omega
        · have := hP3.out.D.ltAll _ e; have := k4.size; omega
      have hDX : X2.heap[D]? = some (.deferred (some [])) := (kX2.block D (Array.getElem?_eq_some_iff.1 hK).1 (by simp; omega)).trans hK
      have hD1w := (Array.getElem?_eq_some_iff.1 hK1).1
      have hD1X : X2.heap[D1]? = some (.deferred (some [])) := (kX2.block D1 (by omega) (by simp; have := k4.size; have := hP3.out.kp.size; omega)).trans ((kX.block D1 (by omega) hD1f).trans ((hk59.out.block D1 hD1w (by simp)).trans hK1))
      have hne : D1 ≠ D := by omega
      have hBk : Hid (∀ Y, Kp [D, D1] X2 Y → Below w.heap.size w Y) := fun Y kY => (((((ka.trans hP5.out.kp (by simp)).trans hk59.out (by simp)).trans kX (fun k hk => .inr (by
        rcases List.mem_cons.1 hk with e | e
        · omega
        · have := hP5.out.nw k e; omega))).trans kX2 (fun k hk => .inr (by simp at hk; omega))).trans kY (fun k hk => .inr (by have := k4.size; have := hP3.out.kp.size; simp at hk; omega))).below
      have hcl := hid (And.intro (bX2.get 0 _ rfl) (And.intro hDX hD1X))
      have hD2' := hid hD2
      have tt : ((T.length : Int) == (T.length : Int)) = true := by simp
      clear hbq bw br9 brX d9 h hD2 hDX hD1X kX2 bX2 hsq hjs hltF hRoff D9 hK
      rcases Nat.eq_zero_or_pos T.length with h0 | h0
      · rw [h0] at ck cw tt
        go_wp2_with fail
        have g2 : (X2.putObj D (.deferred none)).heap[D1]? = some (.deferred (some [])) := (World.putObj_heap_other hne).trans hcl.out.2.2
        have kD : Kp [D, D1] X2 ((X2.putObj D (.deferred none)).putObj D1 (.deferred none)) := ⟨rfl, rfl, rfl, by simp, fun k hk hn => (World.putObj_heap_other (by simp at hn; exact hn.2)).trans (World.putObj_heap_other (by simp at hn; exact hn.1))⟩
        have cF : ((X2.putObj D (.deferred none)).putObj D1 (.deferred none)).cell? ⟨w.heap.size + 1, 0, none⟩ = some (.bool true) := (kD.cell (p := ⟨w.heap.size + 1, 0, none⟩) (World.block_lt_of_cell? _ _ hcl.out.1) (by simp; have := k4.size; have := hP3.out.kp.size; omega)).trans hcl.out.1
        have hF : Below w.heap.size w ((X2.putObj D (.deferred none)).putObj D1 (.deferred none)) := hBk.out _ (kD.mono (fun k hk => .inl hk))
        refine ⟨by simp, .inl ⟨_, _, rfl, run_takeDeferred hcl.out.2.1, ?_⟩⟩
        refine ⟨by simp, .inl ⟨_, _, rfl, run_takeDeferred g2, ?_⟩⟩
        exact ⟨.bool true, by simp [results, Try.results7, go_sem, cF], rfl, hF⟩
      · have hl2 : l2 = [] := by
          rcases hcnt with e | e
          · omega
          · exact e
        subst hl2
        have cL := cLen hD2'.out
        simp only [List.length_nil] at cL
        have t0 : ((T.length : Int) == 0) = false := by rw [beq_eq_false_iff_ne]; omega
        go_wp2_with fail
        refine cL.mono ?_
        rintro e10 X1 ⟨rfl, hX1⟩
        rw [hX1]
        clear cL hX1 X1
        go_wp2_with fail
        have g2 : (X2.putObj D (.deferred none)).heap[D1]? = some (.deferred (some [])) := (World.putObj_heap_other hne).trans hcl.out.2.2
        have kD : Kp [D, D1] X2 ((X2.putObj D (.deferred none)).putObj D1 (.deferred none)) := ⟨rfl, rfl, rfl, by simp, fun k hk hn => (World.putObj_heap_other (by simp at hn; exact hn.2)).trans (World.putObj_heap_other (by simp at hn; exact hn.1))⟩
        have cF : ((X2.putObj D (.deferred none)).putObj D1 (.deferred none)).cell? ⟨w.heap.size + 1, 0, none⟩ = some (.bool true) := (kD.cell (p := ⟨w.heap.size + 1, 0, none⟩) (World.block_lt_of_cell? _ _ hcl.out.1) (by simp; have := k4.size; have := hP3.out.kp.size; omega)).trans hcl.out.1
        have hF : Below w.heap.size w ((X2.putObj D (.deferred none)).putObj D1 (.deferred none)) := hBk.out _ (kD.mono (fun k hk => .inl hk))
        refine ⟨by simp, .inl ⟨_, _, rfl, run_takeDeferred hcl.out.2.1, ?_⟩⟩
        refine ⟨by simp, .inl ⟨_, _, rfl, run_takeDeferred g2, ?_⟩⟩
        exact ⟨.bool true, by simp [results, Try.results7, go_sem, cF], rfl, hF⟩
end Go.Proofs.Ytdjlefacdfdhmaa
end

section
namespace Go.Proofs.Ytdjlefacdfdhmaa
open Go.ChangeShapes Go.WideShapes Go.ChangeAt Go.RowKit Go.Hay
set_option linter.unusedVariables false

set_option maxRecDepth 100000 in
theorem wosRangeContract (H : Type) (enc : TypeId × Value → H) (W : World) (base : Nat) (args : Array Value) (ds gs : List (DataW H)) (before : List MemPlace)
    (hval : ∀ (j : Nat) t v, Try.f7.params[j]? = some t → args[j]? = some v → Value.okWide Try.prog W .any base t v)
    (hW : DataW.Whole enc Try.prog Try.f7.params.toList Rows.wosRangeSpec.vars false W args.toList ds gs before)
    (hsz : (DataW.weightsEach Try.prog (Try.f7.params.toList ++ (OpenSpec.ofChange Rows.wosRangeSpec).bare.plain.varTypes Try.prog) (ds ++ gs)).all (· ≤ reachBytes) = true) :
    Calls Try.prog 7 args W fun e W' => ∃ v, e = .returned v ∧ Rows.wosRangeSpec.post enc Try.prog Try.f7 false true false false W args v W' := by
  have hW' := hW
  obtain ⟨p, q, hA0, hV, rfl, hfz, hnd⟩ := hW
  have hA : DataW.TrodAll enc Try.prog W 0 (fun _ => true) true Try.f7.params.toList args.toList ds p := hA0
  rw [Try.params7] at hA hval hsz
  obtain ⟨v0, vs0, d0, ds0, p0, q0, hargs, rfl, rfl, h0, r0⟩ := trodAll_cons hA
  obtain ⟨v1, vs1, d1, ds1, p1, q1, rfl, rfl, rfl, h1, r1⟩ := trodAll_cons r0
  obtain ⟨rfl, rfl, rfl⟩ := trodAll_nil r1
  obtain rfl : args = #[v0, v1] := by cases args; simp_all
  obtain ⟨rfl, rfl⟩ := trodVars_none hV
  obtain ⟨a0, len0, cap0, rfl⟩ := okWide_slice Try.underlying22 (hval 0 22 v0 rfl rfl)
  have k0 := h0
  have lt0 : ∀ x ∈ p0, x.block < W.heap.size := by obtain ⟨m, hm⟩ := k0; exact DataW.trod_lt m _ _ _ hm
  obtain ⟨l0, rfl, hs0, hok0, hl0, hm0, hn0, hfit0, hbk0, hcp0⟩ := openWops h0
  obtain ⟨hc0, hq0⟩ := hfit0 (List.all_eq_true.2 fun x hx => List.all_eq_true.1 hsz x (by simp [DataW.weightsEach]; first | exact .inl hx | exact .inr hx | exact .inr (.inl hx) | exact .inr (.inr hx) | exact hx))
  obtain ⟨a1, rfl, rfl, rfl, w1⟩ := open_int Try.underlying30 (hval 1 30 v1 rfl rfl) h1
  have hb1 := bounds_u64 w1
  clear hA0
  refine (walkRange a0 cap0 l0 a1 W hs0 (fun y hy => (hok0 y hy).ok (hq0 y hy)) (by omega)).mono fun e W' ⟨he, bel⟩ => ?_
  subst he
  exact ⟨_, rfl, _, _, _, [], _, [], hW', trodAll_mk1 (shut_bool Try.underlying4 _), (trodAll_cons_mk (Below.trod Try.laidOut (by kernel_rfl) (of_decide_eq_true (by kernel_rfl)) k0 bel lt0) (trodAll_cons_mk (shut_int Try.underlying30 w1) trodAll_mk0)), rfl, bel.frame _, fun h => by cases h⟩

set_option maxRecDepth 100000 in
theorem wosRangeLifted (os : Os) (started : os.Started) (H : Type) (enc : TypeId × Value → H) :
    ReturnsInHanded {} Try.checked os 7 .any (Rows.wosRangeSpec.pre6 enc Try.prog Try.f7 Rows.wosRangeRow.domain false) (Rows.wosRangeSpec.post enc Try.prog Try.f7 false true false false) := by
  refine returnsInHanded_of_change_sized (C := Try.checked) Try.own started (by kernel_rfl) Try.func7
    (ChangeSpec.witness6 (enc := enc) (C := Try.checked) false ⟨#[], #[.slice none 0 0, .int .u64 0], []⟩ 8 (by kernel_rfl) (by kernel_rfl) (by kernel_rfl) (by kernel_rfl)) ?_
  intro W base args ds gs before hval hW _ hsz _
  exact wosRangeContract H enc W base args ds gs before hval hW hsz

theorem WosRange_holds : Rows.WosRangeSaid :=
  OpenClaim.holds_of_wide 7 Try.f7 rfl rfl rfl rfl rfl rfl rfl ⟨rfl, rfl, rfl, rfl, rfl⟩ rfl rfl rfl rfl rfl (by kernel_rfl) Try.func7 (by kernel_rfl)
    (of_decide_eq_true (by kernel_rfl)) (by unfold Func.isWrapper; first | (rw [if_pos (by decide +kernel)]; kernel_rfl) | (rw [if_neg (by decide +kernel)]; exact ⟨rfl, rfl⟩))
    (fun os started H enc _ => wosRangeLifted os started H enc)

#print axioms WosRange_holds
end Go.Proofs.Ytdjlefacdfdhmaa
end

/- catalog: the nodes that have a copy of a segment. A range over an iterator that makes memory of its own, which the rounds leave alone: a law. No statement of the seat is proved here. catalog: the iterator over segments. catalog: Segments. A range whose rounds may turn all but the range's own records: a law. No statement of the seat is proved here. A range whose rounds begin by making a box, and may turn all but the range's own records: a law. No statement of the seat is proved here. A region that draws its order, inside a round of a range over a function: as a plain one, where nothing is deferred. No statement of the seat is proved here. -/
import Derived.Test.YtckicbaidbgonaaB4
import Derived.RangeFuncNested
import Derived.RangeFuncBound
import Derived.RangeFuncCalls
import Derived.RangeFuncLeaves
import Derived.RangeFuncSeq
import Derived.Shelf.RegionOpen
import Derived.LoopIn
import Derived.LoopNIn
import Derived.OrdersIn
import Derived.TacticsInMore
import Derived.OwnWalkIn
import Derived.RegionIn
import Derived.Deep.RegionHeld3
import Derived.OrdersHeld
section
namespace Go.Proofs.Ytckicbaidbgonaa
open Go.RowKit Go.Hay
set_option linter.unusedVariables false
set_option linter.unusedSimpArgs false

theorem infI {P : Program} {t : TypeId} {z : Value} {n b : Nat} (h : ((P.info? t).map fun i => (i.zero, i.size, i.bytes)) = some (some z, n, b)) : ∃ i : TypeInfo, P.info? t = some i ∧ i.zero = some z ∧ i.size = n ∧ i.bytes = b := by
  cases hi : P.info? t with
  | none => rw [hi] at h; cases h
  | some i =>
    rw [hi] at h
    simp at h
    exact ⟨i, rfl, h.1, h.2.1, h.2.2⟩
theorem infoI : ∃ i : TypeInfo, Try.prog.info? 3 = some i ∧ i.zero = some (.int .i64 0) ∧ i.size = 1 ∧ i.bytes = 8 := infI (by kernel_rfl)
/-- The ring of nodes. -/
def ring (F n : Int) (m : Nat) : List Int := (List.range m).map fun (j : Nat) => (F + j) % n
/-- .. as far as it is written. -/
def ringTo (F n : Int) (m j : Nat) : List Int := ring F n j ++ List.replicate (m - j) 0
theorem ring_length (F n : Int) (m : Nat) : (ring F n m).length = m := by simp [ring]
theorem ringTo_length (F n : Int) (m j : Nat) (h : j ≤ m) : (ringTo F n m j).length = m := by simp [ringTo, ring_length]; omega
theorem ring_succ (F n : Int) (j : Nat) : ring F n (j + 1) = ring F n j ++ [(F + j) % n] := by
  unfold ring
  rw [List.range_succ, List.map_append]
  rfl
theorem ringTo_succ (F n : Int) (m j : Nat) (h : j < m) : ringTo F n m (j + 1) = (ringTo F n m j).set j ((F + j) % n) := by
  have e1 : m - j = (m - (j + 1)) + 1 := by omega
  unfold ringTo
  rw [ring_succ, List.set_append, if_neg (by rw [ring_length]; omega), ring_length, Nat.sub_self, e1, List.replicate_succ, List.set_cons_zero, List.append_assoc]
  rfl
theorem ringTo_all (F n : Int) (m : Nat) : ringTo F n m m = ring F n m := by simp [ringTo]
/-- The nodes of a segment. -/
def ndsC (c : Cg) (P S : Int) : List Int := if liesC c P S = true then ring (S + (c.pl.getD P.toNat default).sh) c.n (c.k.toNat + 1) else []
theorem ndsC_len (c : Cg) (P S : Int) : (ndsC c P S).length ≤ c.k.toNat + 1 := by
  unfold ndsC
  split
  · rw [ring_length]; omega
  · simp
/-- What Nodes hands back. -/
def NdP (l : List Int) (w : World) (e : Ending) (w' : World) : Prop := ∃ (a : Option Addr) (cp : Nat), e = .returned (.slice a l.length cp) ∧ IntE.See w' a l ∧ l.length ≤ cp ∧ cp ≤ 8 ∧ Kp [] w w'
theorem rowInt {w : World} {g n : Nat} {l : List Int} (h : IntE.Row w (.slice (some ⟨g, 0, none⟩) n n) l) : IntE.See w (some ⟨g, 0, none⟩) l := by
  obtain ⟨a, c, e, hs, _⟩ := h.see
  cases e
  exact hs
set_option maxHeartbeats 8000000 in
set_option maxRecDepth 100000 in
theorem cNodes (c : Cg) (P S : Int) (w : World) (hc : c.ok w) (hn : cntd c = true) (hsh : ∀ p ∈ c.pl, wi p.sh c.n = true) : Calls Try.prog 18 #[c.v, .agg #[.int .i64 P, .int .i64 S]] w (NdP (ndsC c P S) w) := by
  obtain ⟨W, eW, kW, zW, bC, bA⟩ := boxCA c P S w
  have aL := hid (cLies c P S W (hc.kept kW) hn hsh)
  have KW := hid kW
  have HC := hid hc
  have BB := hid (And.intro bC bA)
  have hN := (cntd_iff c).1 hn
  have zW' : w.heap.size + 1 < W.heap.size := by omega
  have HSH := hid hsh
  have cc0 := bC.get 0 _ rfl; have cc1 := bC.get 1 _ rfl; have cc2 := bC.get 2 _ rfl; have cc3 := bC.get 3 _ rfl; have cc4 := bC.get 4 _ rfl
  have aa0 := bA.get 0 _ rfl; have aa1 := bA.get 1 _ rfl
  clear kW bC bA hc hn hsh
  unfold ndsC
  obtain ⟨X, hX⟩ : ∃ X, Hid (liesC c P S = X) := ⟨_, hid rfl⟩
  rw [hX.out] at aL
  rw [hX.out]
  simp only [Cg.v] at *
  cases X with
  | false =>
    rw [if_neg (by simp)]
    clear hN
    go_enter Try.func18, Try.ntmps18
    go_wp2_with fail
    refine aL.out.mono ?_
    rintro e w1 ⟨rfl, k1⟩
    have K1 := hid (KW.out.trans k1 (by simp))
    clear k1 aL cc0 cc1 cc2 cc3 cc4 aa0 aa1 eW
    go_wp2_with fail
    go_returns
    exact ⟨none, 0, rfl, .inl rfl, by simp, by omega, K1.out⟩
  | true =>
  rw [if_pos rfl]
  have hX' := hX.out
  unfold liesC wi at hX'
  simp only [Bool.and_eq_true, decide_eq_true_eq] at hX'
  obtain ⟨i, rfl⟩ := Int.eq_ofNat_of_zero_le hX'.1.1
  have hil : i < c.pl.length := by omega
  obtain ⟨g, o, eg, _, _, _, _, _, x5⟩ := pjAt (HC.out.ps.keptNew KW.out) (j := i) (p := c.pl[i]) (by simp [hil])
  have hs1 := HSH.out _ (List.getElem_mem hil)
  have hgd : (c.pl.getD (i : Int).toNat default).sh = c.pl[i].sh := by simp [hil]
  rw [hgd]
  generalize c.pl[i].sh = sh at *
  unfold wi at hs1
  simp only [Bool.and_eq_true, decide_eq_true_eq] at hs1
  rw [eg] at eW BB aL cc4
  rw [eg]
  have i1 : (0 : Int) ≤ (i : Int) := by omega
  have i2 : (i : Int) < (c.pl.length : Int) := by omega
  have hF : Hid (∀ W', Kp [] W W' → (W'.cell? ⟨w.heap.size, 0, none⟩ = some (.int .i64 c.n) ∧ W'.cell? ⟨w.heap.size, 1, none⟩ = some (.int .i64 c.s) ∧ W'.cell? ⟨w.heap.size, 2, none⟩ = some (.int .i64 c.k) ∧ W'.cell? ⟨w.heap.size, 3, none⟩ = some (.slice c.ta c.tl.length c.tc) ∧ W'.cell? ⟨w.heap.size, 4, none⟩ = some (.slice (some ⟨g, o, none⟩) c.pl.length c.pc) ∧ W'.cell? ⟨w.heap.size + 1, 0, none⟩ = some (.int .i64 (i : Int)) ∧ W'.cell? ⟨w.heap.size + 1, 1, none⟩ = some (.int .i64 S) ∧ W'.cell? ⟨g, o + i * 6 + 5, none⟩ = some (.int .i64 sh))) := fun W' k => by
    have h1 := BB.out.1.kept k
    have h2 := BB.out.2.kept k
    exact ⟨h1.get 0 _ rfl, h1.get 1 _ rfl, h1.get 2 _ rfl, h1.get 3 _ rfl, h1.get 4 _ rfl, h2.get 0 _ rfl, h2.get 1 _ rfl, kpAt k x5⟩
  obtain ⟨K, hK⟩ := Int.eq_ofNat_of_zero_le hN.2.1.1
  have hn1 : 1 ≤ c.n := hN.1.1
  have hn8 : c.n ≤ 8 := hN.1.2
  have hn0 : (c.n == 0) = false := by simp; omega
  obtain ⟨F, hFe⟩ : ∃ F, Hid (S + sh = F) := ⟨_, hid rfl⟩
  have hFb : 0 ≤ F ∧ F ≤ 16 := by have := hFe.out; omega
  rw [hFe.out, hK]
  have b1 : (-9223372036854775808 : Int) ≤ S + sh := by omega
  have b2 : S + sh ≤ 9223372036854775807 := by omega
  have hK8 : K < 8 := by omega
  rw [show ((K : Int)).toNat = K by simp]
  rw [hK] at eW BB aL cc2 hF
  have HN := hid hN
  have HK := hid hK
  clear hX' hX x5 hgd hs1 hN hK
  go_enter Try.func18, Try.ntmps18
  go_wp2_with fail
  refine aL.out.mono ?_
  rintro e w1 ⟨rfl, k1⟩
  have K1 := hid k1
  clear cc0 cc1 cc2 cc3 cc4 aa0 aa1 eW aL k1
  obtain ⟨q0, q1, q2, q3, q4, q5, q6, q7⟩ := hF.out _ K1.out
  go_wp2_with fail
  go_quiet ((fail))
  have K2 : Hid (Kp [] W (w1.drewN nq)) := hid (K1.out.drewN _)
  rw [hFe.out]
  generalize w1.drewN nq = w2 at *
  clear q0 q1 q2 q3 q4 q5 q6 q7 b1 b2
  obtain ⟨q0, q1, q2, q3, q4, q5, q6, q7⟩ := hF.out _ K2.out
  obtain ⟨m, hm⟩ : ∃ m, Hid (K + 1 = m) := ⟨_, hid rfl⟩
  have hKm : (K : Int) + 1 = (m : Int) := by have := hm.out; omega
  have hm9 : m ≤ 8 := by have := hm.out; omega
  rw [hm.out]
  obtain ⟨i0, hi, hz0, hz1, hz2⟩ := infoI
  obtain ⟨W3, hmk, hrow3, k3, hs3⟩ := run_makeG (E := IntE) (P := Try.prog) w2 40 3 i0 (.int .i64 0) 0 8 Try.underlying40 hi hz0 hz1 hz2 rfl .i64 .i64 m (by omega) (by unfold maxLen; omega)
  have hrw0 : Hid (IntE.Row W3 (.slice (some ⟨w2.heap.size, 0, none⟩) m m) (ringTo F c.n m 0)) := hid (by simpa [ringTo, ring] using hrow3)
  have K3 := hid (K2.out.trans k3 (by simp))
  have hz23 := hid K2.out.size
  have zq : W3.heap.size = w2.heap.size + 1 := hs3
  clear hi hz0 hz1 hz2 hrow3 k3 hs3
  go_wp2_with fail
  clear hmk zq q0 q1 q2 q3 q4 q5 q6 q7
  obtain ⟨q, hq⟩ : ∃ q, w2.heap.size = q := ⟨_, rfl⟩
  rw [hq] at hrw0 hz23
  rw [hq]
  clear hq
  go_loopw [28] (fun iv wn => ∃ j : Nat, j ≤ m ∧ iv = .int .i64 j ∧ Hid (IntE.Row wn (.slice (some ⟨q, 0, none⟩) m m) (ringTo F c.n m j)) ∧ Hid (Kp [] W wn)) (fun iv _ => m - (intOf iv).toNat)
  case atStart => exact ⟨0, Nat.zero_le _, rfl, hrw0, K3⟩
  case round =>
    obtain ⟨j, hj, rfl, hrow, kn⟩ := hrel
    clear hrw0 K3
    by_cases hlt : j < m
    · have hput := hrow.out.setAt j (by rw [ringTo_length _ _ _ _ hj]; exact hlt) ((F + j) % c.n)
      rw [← ringTo_succ _ _ _ _ hlt] at hput
      have hcf : (∃ u, wr.cell? ⟨q, j, none⟩ = some u) ∧ wr.frozen? ⟨q, j, none⟩ = false := by
        rcases hrow.out with ⟨e, _⟩ | ⟨g', o', c', e, r1, r2, r3, r4, r5⟩
        · cases e
        · injection e with e1 e2 e3
          injection e1 with e1
          injection e1 with e4 e5
          subst e3 e4 e5
          have := r5 j (by show j < m * 1; omega)
          rw [Nat.zero_add] at this
          exact ⟨Option.isSome_iff_exists.1 this.1, this.2⟩
      obtain ⟨⟨u, hu⟩, hf⟩ := hcf
      have hmod : Int.tmod (F + (j : Int)) c.n = (F + (j : Int)) % c.n := Int.tmod_eq_emod_of_nonneg (by omega)
      obtain ⟨V, hV⟩ : ∃ V, (F + (j : Int)) % c.n = V := ⟨_, rfl⟩
      rw [hV] at hput hmod
      have eW : Hid (wr.setCells q (0 + j * IntE.n) (IntE.c V) = wr.setCell ⟨q, j, none⟩ (.int .i64 V)) := by
        show _ = _
        have : IntE.n = 1 := rfl
        rw [this]
        simp [IntE, World.setCells]
      rw [eW.out] at hput
      have kf : Hid (Kp [] W (wr.setCell ⟨q, j, none⟩ (.int .i64 V))) := hid (kn.out.setCell (p := ⟨q, j, none⟩) (.inr (by simpa using hz23.out)) _)
      have HP := hid hput
      obtain ⟨p0, p1, p2, p3, p4, p5, p6, p7⟩ := hF.out _ kn.out
      have j1 : (0 : Int) ≤ (j : Int) := by omega
      have j2 : (j : Int) < (m : Int) := by omega
      have j3 : (j : Int) + 1 ≤ 9223372036854775807 := by omega
      have j4 : (-9223372036854775808 : Int) ≤ F + (j : Int) := by omega
      have j5 : F + (j : Int) ≤ 9223372036854775807 := by omega
      clear hput eW hrow hV
      go_wp2_with fail
      exact ⟨⟨j + 1, by omega, by go_num, HP, kf⟩, by simp [intOf]; omega⟩
    · have e : j = m := by omega
      subst e
      rw [ringTo_all] at hrow
      have hl : (ring F c.n j).length = j := ring_length _ _ _
      go_wp2_with fail
      go_ret
      have hS := rowInt hrow.out
      have e2 : ring F c.n (K + 1) = ring F c.n j := by rw [hm.out]
      show NdP (ring F c.n (K + 1)) w _ _
      rw [e2]
      refine ⟨some ⟨q, 0, none⟩, j, by rw [hl]; rfl, hS, by rw [hl]; exact Nat.le_refl _, hm9, KW.out.trans kn.out (by simp)⟩
end Go.Proofs.Ytckicbaidbgonaa
end

section
namespace Go.Hay
open Go.RowKit
set_option linter.unusedVariables false

variable {F : Fence} {n : Nat} {P : Program} {σ α : Type}

/-- What an iterator that stands at some s of σ promises: it hands on things x (as encs x), each behind a step T of its own, which may turn memory; a round that goes on takes it from s to nx s x and keeps what K says; S: it is at its end; Sp: a round has said 'no more'. -/
def SeqS (F : Fence) (n : Nat) (P : Program) (g : Nat) (lb : Array Value) (encs : α → Array Value) (T : σ → σ → World → World → Prop) (K : σ → World → World → Prop) (ok : σ → α → Prop) (nx : σ → α → σ) (S Sp : σ → Prop) (s0 : σ) (w : World) : Prop :=
  ∀ (l : Nat) (J Jx : σ → World → Prop) (W : World), K s0 w W → (∀ s s' A B, J s A → T s s' A B → J s' B) →
    (∀ s x A, J s A → ok s x → YieldAt F (n - 1) P l (encs x) A fun e A' => (e = .returned (.bool true) ∧ J (nx s x) A' ∧ K s A A') ∨ (e = .returned (.bool false) ∧ Jx (nx s x) A')) →
    J s0 W → CallsIn F n P g (#[.func (.yield l) #[] #[]] ++ lb) W fun e A' => (∃ v, e = .returned v) ∧ ((∃ s, S s ∧ J s A') ∨ (∃ s, Sp s ∧ Jx s A'))

/-- How a round's body may be left: B: from which block on whatever is no cells must lie as it lay. -/
def leftS (B : Nat) (K : σ → World → World → Prop) (I : σ → World → Prop) (Ix : Code → σ → World → Prop) (s0 s : σ) (W : World) : Exit → Act → World → Prop
  | .normal, _, W' => KeepsFrom B W W' ∧ K s0 W W' ∧ I s W'
  | .ret, _, W' => KeepsFrom B W W' ∧ Ix .ret s W'
  | .exit id, _, W' => KeepsFrom B W W' ∧ Ix (.exit id) s W'
  | .goto t, _, W' => KeepsFrom B W W' ∧ Ix (.goto t) s W'
  | _, _, _ => False

/-- The law. -/
theorem wpRangeS {g : Operand} {ps : Array Tmp} {assign body : Code} {Q : Exit → Act → World → Prop} {a : Act} {w : World}
    (hro : F.round = none) (h1 : 1 ≤ n) {gf : Nat} {lb : Array Value} (hg : a.eval g = .func (.func gf) #[] lb) (hFg : F.fn gf) (eg : ∀ args w, (callFunc gf args).run P w = .ok (.enter gf args) w)
    {encs : α → Array Value} {T : σ → σ → World → World → Prop} {K : σ → World → World → Prop} {ok : σ → α → Prop} {nx : σ → α → σ} {S Sp : σ → Prop} {s0 : σ} {w0 : World}
    (hseq : SeqS F (n - 1) P gf lb encs T K ok nx S Sp s0 w0) (hps : ∀ x, (encs x).size = ps.size)
    (hKt : ∀ {s : σ} {A B C : World}, K s A B → K s B C → K s A C) (hKa : ∀ s W o, K s W (W.alloc o)) (hKb : ∀ (s : σ) (W : World) (l : Nat) (o o' : Obj), w.heap.size ≤ l → W.heap[l]? = some o → o.isCells = false → o.isWalk = false → K s W (W.putObj l o')) (hb0 : K s0 w0 w)
    (hTk : ∀ s s' A B, T s s' A B → ∀ (k : Nat) (o : Obj), w.heap.size ≤ k → A.heap[k]? = some o → o.isCells = false → o.isWalk = false → B.heap[k]? = some o)
    (I : σ → World → Prop) (Ix : Code → σ → World → Prop) (hI : OwnFrom w.heap.size I) (hIx : ∀ c, OwnFrom w.heap.size (Ix c)) (hIT : ∀ s s' A B, I s A → T s s' A B → I s' B) (h0 : I s0 w)
    (a₁ : α → Act) (hassign : ∀ (l : Nat) (x : α) (W : World) (C : Act → World → Prop), C (a₁ x) W →
      assign.wpIn (F.inRound l) (n - 1 - 1) P (Exit.then C (fun _ _ _ => False)) { tmps := (ps.zip (encs x)).foldl (fun t (p, v) => t.setIfInBounds p v) a.tmps, defers := [] } W)
    (hbody : ∀ (l : Nat) (s : σ) (x : α) (W : World), I s W → ok s x → body.wpIn (F.inRound l) (n - 1 - 1) P (leftS w.heap.size K I Ix s (nx s x) W) (a₁ x) W)
    (hdone : ∀ (D : Nat) (s : σ) (W : World), w.heap.size ≤ D → S s → I s W → W.heap[D]? = some (.deferred (some [])) → Q .normal { a with defers := { target := .collected D, args := #[] } :: a.defers } W)
    (hstop : ∀ (D : Nat) (c : Code) (s : σ) (W : World), w.heap.size ≤ D → Sp s → Ix c s W → W.heap[D]? = some (.deferred (some [])) → c.wpIn F n P Q { a with defers := { target := .collected D, args := #[] } :: a.defers } W) :
    (Code.rangeFunc g ps assign body).wpIn F n P Q a w := by
  refine wpIn_rangeFunc fun fn hfn => ?_
  rw [hro]
  -- the loop's record, as it may stand
  let R : LoopState → Option Code → Obj := fun st pe => .loop { state := st, pending := pe, fn, tmps := a.tmps, params := ps, assign, body, defers := w.heap.size }
  let Bk : LoopState → Option Code → World → Prop := fun st pe W => W.heap[w.heap.size + 1]? = some (R st pe) ∧ W.heap[w.heap.size]? = some (.deferred (some []))
  have bkK : ∀ {st pe A B}, KeepsFrom w.heap.size A B → Bk st pe A → Bk st pe B := fun hk hb => ⟨hk.same _ _ (by omega) hb.1 rfl, hk.same _ _ (Nat.le_refl _) hb.2 rfl⟩
  have bkP : ∀ {st pe st' pe' A}, Bk st pe A → Bk st' pe' (A.putObj (w.heap.size + 1) (R st' pe')) := fun hb =>
    ⟨World.putObj_heap_same (Array.getElem?_eq_some_iff.1 hb.1).1, (World.putObj_heap_other (by omega)).trans hb.2⟩
  have iP : ∀ {st pe s A} (o : Obj), Bk st pe A → I s A → I s (A.putObj (w.heap.size + 1) o) := fun o hb hi => hI.putObj o hi (by omega) hb.1 rfl
  have ixP : ∀ {st pe s c A} (o : Obj), Bk st pe A → Ix c s A → Ix c s (A.putObj (w.heap.size + 1) o) := fun o hb hi => (hIx _).putObj o hi (by omega) hb.1 rfl
  have kP : ∀ {s st pe A} (o : Obj), Bk st pe A → K s A (A.putObj (w.heap.size + 1) o) := fun o hb => hKb _ _ _ _ _ (by omega) hb.1 rfl rfl
  have bkT : ∀ {s s' st pe A B}, T s s' A B → Bk st pe A → Bk st pe B := fun ht hb => ⟨hTk _ _ _ _ ht _ _ (by omega) hb.1 rfl rfl, hTk _ _ _ _ ht _ _ (Nat.le_refl _) hb.2 rfl rfl⟩
  have b0 : Bk .ready none ((w.alloc (.deferred (some []))).alloc (R .ready none)) :=
    ⟨by have := World.alloc_heap_new (w.alloc (.deferred (some []))) (R .ready none); rwa [World.size_alloc] at this, (Below.heap_alloc _ _ _ (by simp)).trans (World.alloc_heap_new w _)⟩
  refine ⟨w.heap.size + 1, [{ target := .collected w.heap.size, args := #[] }], ((w.alloc (.deferred (some []))).alloc (R .ready none)), { target := .fn (.func gf) lb, args := #[.func (.yield (w.heap.size + 1)) #[] #[]] }, ((w.alloc (.deferred (some []))).alloc (R .ready none)), gf, #[.func (.yield (w.heap.size + 1)) #[] #[]] ++ lb, ((w.alloc (.deferred (some []))).alloc (R .ready none)),
    run_enterLoop_outer _ _ _ _ _, by simp only [resolve, hg]; simp [go_sem], fun f' hf' => by simp [Target.leads] at hf'; subst hf'; exact hFg, by simp [invoke, go_sem, eg], fun _ => h1, ?_⟩
  refine (hseq (w.heap.size + 1) (fun s A => I s A ∧ Bk .ready none A) (fun s A => ∃ c, Ix c s A ∧ Bk .done (some c) A) _ (hKt hb0 (hKt (hKa _ _ _) (hKa _ _ _)))
    (fun s s' A B hs ht => ⟨hIT s s' A B hs.1 ht, bkT ht hs.2⟩) ?_ ⟨hI.alloc _ (hI.alloc _ h0), b0⟩).mono ?_
  · -- one round
    rintro s x A ⟨hi, hb⟩ hok
    refine ⟨fn, _, assign, body, run_yield hb.1 (hps x), roundIn_of_wpIn hfn (hassign _ x A _ ⟨_, run_beginRound hb.1 rfl, ?_⟩)⟩
    have hb2 : Bk .busy none (A.putObj (w.heap.size + 1) (R .busy none)) := bkP hb
    refine wpIn_mono (hbody _ s x _ (iP _ hb hi) hok) ?_
    rintro e a3 W3 hp
    cases e with
    | normal =>
      have hb3 := bkK hp.1 hb2
      exact ⟨_, _, run_endRound none hb3.1, .inl ⟨rfl, ⟨iP _ hb3 hp.2.2, bkP hb3⟩, hKt (kP _ hb) (hKt hp.2.1 (kP _ hb3))⟩⟩
    | ret => have hb3 := bkK hp.1 hb2; exact ⟨_, _, run_endRound (some .ret) hb3.1, .inr ⟨rfl, .ret, ixP _ hb3 hp.2, bkP hb3⟩⟩
    | exit id => have hb3 := bkK hp.1 hb2; exact ⟨_, _, run_endRound (some (.exit id)) hb3.1, .inr ⟨rfl, .exit id, ixP _ hb3 hp.2, bkP hb3⟩⟩
    | goto t => have hb3 := bkK hp.1 hb2; exact ⟨_, _, run_endRound (some (.goto t)) hb3.1, .inr ⟨rfl, .goto t, ixP _ hb3 hp.2, bkP hb3⟩⟩
    | panic ch => exact hp.elim
    | outgrown => exact hp.elim
  · -- behind the iterator
    rintro e A ⟨⟨v, rfl⟩, (⟨s, hS, hi, hb⟩ | ⟨s, hSp, c, hi, hb⟩)⟩
    · exact ⟨none, _, run_endLoop hb.1 (by simp), hdone _ s _ (Nat.le_refl _) hS (iP _ hb hi) ((World.putObj_heap_other (by omega)).trans hb.2)⟩
    · exact ⟨some c, _, run_endLoop hb.1 (by simp), hstop _ c s _ (Nat.le_refl _) hSp (ixP _ hb hi) ((World.putObj_heap_other (by omega)).trans hb.2)⟩
end Go.Hay
end

section
namespace Go.Proofs.Ytckicbaidbgonaa
open Go.RowKit Go.Hay
attribute [local go_sem] Oper.semAt_some
set_option linter.unusedVariables false
set_option linter.unusedSimpArgs false

/-- The cells of G stand. -/
def KeepC (G : Addr → Prop) (A B : World) : Prop := A.heap.size ≤ B.heap.size ∧ ∀ a v, G a → A.cell? a = some v → B.cell? a = some v
theorem KeepC.refl (G : Addr → Prop) (A : World) : KeepC G A A := ⟨Nat.le_refl _, fun _ _ _ h => h⟩
theorem KeepC.trans {G : Addr → Prop} {A B C : World} (h : KeepC G A B) (k : KeepC G B C) : KeepC G A C := ⟨Nat.le_trans h.1 k.1, fun a v g hc => k.2 a v g (h.2 a v g hc)⟩
theorem KeepC.ofKp {G : Addr → Prop} {S : List Nat} {A B : World} (hk : Kp S A B) (hS : ∀ a, G a → a.block ∉ S) : KeepC G A B := ⟨hk.size, fun a v g hc => (hk.cell (World.block_lt_of_cell? _ _ hc) (hS a g)).trans hc⟩
theorem KeepC.alloc (G : Addr → Prop) (W : World) (o : Obj) : KeepC G W (W.alloc o) := KeepC.ofKp (S := []) ((Kp.refl _ _).alloc _) (by simp)
theorem KeepC.putObj (G : Addr → Prop) (W : World) (l : Nat) (o o' : Obj) (ho : W.heap[l]? = some o) (hc : o.isCells = false) : KeepC G W (W.putObj l o') :=
  ⟨by simp, fun a v _ hv => by
    have hne : a.block ≠ l := fun e => by
      unfold World.cell? at hv
      rw [e, ho] at hv
      cases o <;> simp_all [Obj.isCells]
    exact (World.cell?_of_block (World.putObj_heap_other (by simpa using hne))).trans hv⟩
/-- What the rounds must leave: the iterator's two numbers. -/
def Gsg (q1 q2 : Nat) : Addr → Prop := fun x => x.block = q1 ∨ x.block = q2
/-- The segment that comes behind so many. -/
def sgAt (M k : Nat) : Nat × Nat := (k / M, k % M)
set_option maxHeartbeats 8000000 in
set_option maxRecDepth 100000 in
theorem segSeq (n : Nat) (hn : 1 ≤ n) (q1 q2 P M : Nat) (w : World) (hb1 : w.cell? ⟨q1, 0, none⟩ = some (.int .i64 (P : Int))) (hb2 : w.cell? ⟨q2, 0, none⟩ = some (.int .i64 (M : Int))) (hP : P ≤ 9223372036854775807) (hM : M ≤ 9223372036854775807) :
    SeqS Fence.wide n Try.prog 64 #[.pointer (some ⟨q1, 0, none⟩), .pointer (some ⟨q2, 0, none⟩)] (fun x : Nat × Nat => #[.agg #[.int .i64 x.1, .int .i64 x.2]]) (fun s s' A B => s = s' ∧ A = B) (fun _ => KeepC (Gsg q1 q2))
      (fun s x => s < P * M ∧ x.1 * M + x.2 = s ∧ x.2 < M ∧ x.1 < P) (fun s _ => s + 1) (fun s => s = P * M) (fun _ => True) 0 w := by
  intro ly J Jx W hW hT hY h0
  have hb1W := hW.2 _ _ (.inl rfl) hb1
  have hkW := hid hW
  have hB := hid hb2
  clear hb1 hb2 hW
  refine callsIn_of_wp Try.func64 rfl trivial ?_ rfl
  simp only [Try.ntmps64, List.size_toArray, List.length_cons, List.length_nil, Nat.reduceAdd, Nat.reduceSub, Array.replicate_succ, Array.replicate_zero, List.push_toArray, List.append_toArray, List.nil_append, List.cons_append]
  gi_wp2_with fail
  gi_loopw [7] (fun i wr => ∃ k : Nat, k ≤ P ∧ i = .int .i64 k ∧ J (k * M) wr ∧ Hid (KeepC (Gsg q1 q2) w wr)) (fun i _ => P - (intOf i).toNat)
  case atStart => exact ⟨0, Nat.zero_le _, rfl, by simpa using h0, hkW⟩
  case round =>
    obtain ⟨k, hk, rfl, hJk, hkr⟩ := hrel
    clear h0 hb1W hkW
    by_cases hkP : k < P
    · have b2 := hkr.out.2 _ _ (.inr rfl) hB.out
      have i1 : (0 : Int) ≤ (k : Int) := by omega
      have i2 : (k : Int) < (P : Int) := by omega
      have i3 : (k : Int) + 1 ≤ 9223372036854775807 := by omega
      gi_wp2_with fail
      gi_loopw [11] (fun i wn => ∃ j : Nat, j ≤ M ∧ i = .int .i64 j ∧ J (k * M + j) wn ∧ Hid (KeepC (Gsg q1 q2) w wn)) (fun i _ => M - (intOf i).toNat)
      case atStart => exact ⟨0, Nat.zero_le _, rfl, by simpa using hJk, hkr⟩
      case round =>
        obtain ⟨j, hj, rfl, hJj, hkn⟩ := hrel
        clear hJk hkr b2
        by_cases hjM : j < M
        · have j1 : (0 : Int) ≤ (j : Int) := by omega
          have j2 : (j : Int) < (M : Int) := by omega
          have j3 : (j : Int) + 1 ≤ 9223372036854775807 := by omega
          have hlt : k * M + j < P * M := by
            have : (k + 1) * M ≤ P * M := Nat.mul_le_mul_right _ hkP
            rw [Nat.succ_mul] at this
            omega
          obtain ⟨fn, tmps, assign, body, hy, hR⟩ := hY _ (k, j) _ hJj ⟨hlt, rfl, hjM, hkP⟩
          dsimp only at hy
          clear hJj hlt
          gi_wp2_with fail
          refine hR.mono ?_
          rintro e1 W3 (⟨rfl, hJ3, hk3⟩ | ⟨rfl, hJx⟩)
          · have hkk := hid (hkn.out.trans hk3)
            clear hR hy hkn
            gi_wp2_with fail
            go_roundw
            case rel => exact ⟨j + 1, by omega, by go_num, by simpa [Nat.add_assoc] using hJ3, hkk⟩
            case measure => simp [intOf]; omega
          · clear hR hy
            gi_wp2_with fail
            refine bodyPost_ret (results_none rfl _ _ _) rfl ?_
            exact ⟨⟨_, rfl⟩, .inr ⟨_, trivial, hJx⟩⟩
        · have e : j = M := by omega
          subst e
          have hJ4 : J ((k + 1) * j) wr := by rw [Nat.succ_mul]; exact hJj
          gi_wp2_with fail
          go_roundw
          case rel => exact ⟨k + 1, by omega, by go_num, hJ4, hkn⟩
          case measure => simp [intOf]; omega
    · have e : k = P := by omega
      subst e
      gi_wp2
      go_end0
      exact ⟨⟨_, rfl⟩, .inl ⟨_, rfl, hJk⟩⟩
end Go.Proofs.Ytckicbaidbgonaa
end

section
namespace Go.Proofs.Ytckicbaidbgonaa
open Go.RowKit Go.Hay
set_option linter.unusedVariables false
set_option linter.unusedSimpArgs false

/-- What Segments hands back: an iterator, and its two numbers. -/
def SgP (P M : Nat) (w : World) (e : Ending) (w' : World) : Prop := ∃ q1 q2, e = .returned (.func (.func 64) #[] #[.pointer (some ⟨q1, 0, none⟩), .pointer (some ⟨q2, 0, none⟩)]) ∧ w'.cell? ⟨q1, 0, none⟩ = some (.int .i64 (P : Int)) ∧ w'.cell? ⟨q2, 0, none⟩ = some (.int .i64 (M : Int)) ∧ w.heap.size ≤ q1 ∧ w.heap.size ≤ q2 ∧ Kp [] w w'
set_option maxHeartbeats 8000000 in
set_option maxRecDepth 100000 in
theorem cSegments (c : Cg) (w : World) (M : Nat) (hM : c.s = (M : Int)) (hn : cntd c = true) : Calls Try.prog 41 #[c.v] w (SgP c.pl.length M w) := by
  obtain ⟨W, eW, kW, zW, bC⟩ := boxC c w
  have aC := hid (fun W' => cCounted c W')
  rw [hn] at aC
  simp only [Cg.v] at *
  rw [hM] at aC eW bC
  rw [hM]
  have c4 := bC.get 4 _ rfl
  have c1 := bC.get 1 _ rfl
  have BC := hid bC
  have KW := hid kW
  have zW' : w.heap.size < W.heap.size := by omega
  have hF : Hid (∀ W', Kp [] W W' → (W'.cell? ⟨w.heap.size, 0, none⟩ = some (.int .i64 c.n) ∧ W'.cell? ⟨w.heap.size, 1, none⟩ = some (.int .i64 (M : Int)) ∧ W'.cell? ⟨w.heap.size, 2, none⟩ = some (.int .i64 c.k) ∧ W'.cell? ⟨w.heap.size, 3, none⟩ = some (.slice c.ta c.tl.length c.tc) ∧ W'.cell? ⟨w.heap.size, 4, none⟩ = some (.slice c.pa c.pl.length c.pc))) := fun W' k => by
    have h1 := BC.out.kept k
    exact ⟨h1.get 0 _ rfl, h1.get 1 _ rfl, h1.get 2 _ rfl, h1.get 3 _ rfl, h1.get 4 _ rfl⟩
  clear kW bC hn hM
  go_enter Try.func41, Try.ntmps41
  go_wp2_with fail
  refine wp_region_held_drew (S := fun W' => W'.cell? ⟨w.heap.size, 0, none⟩ = some (.int .i64 c.n) ∧ W'.cell? ⟨w.heap.size, 1, none⟩ = some (.int .i64 (M : Int)) ∧ W'.cell? ⟨w.heap.size, 2, none⟩ = some (.int .i64 c.k) ∧ W'.cell? ⟨w.heap.size, 3, none⟩ = some (.slice c.ta c.tl.length c.tc) ∧ W'.cell? ⟨w.heap.size, 4, none⟩ = some (.slice c.pa c.pl.length c.pc)) (by kernel_rfl) ?_ (fun hHeld => ?_)
  · exact hF.out _ (Kp.refl _ _).drew
  have KD : Hid (Kp [] W W.drew) := hid (Kp.refl _ _).drew
  generalize W.drew = Wd at *
  clear c4 c1
  refine wpAnyH_take (i := 0) (v := ?_) rfl (by kernel_rfl) (by kernel_rfl) (by kernel_rfl) (fun _ _ _ h => h) (Or.inl ⟨by rfl, ?_⟩) (by assumption) ?_
  rotate_left
  · intro w hSw; (try dsimp only at hSw); go_simp <;> with_reducible rfl
  try simp only [Act.put, List.getElem_toArray, List.getElem_cons_zero, List.getElem_cons_succ, List.setIfInBounds_toArray, List.set_cons_zero, List.set_cons_succ]
  refine wpAnyH_take (i := 1) (v := ?_) rfl (by kernel_rfl) (by kernel_rfl) (by kernel_rfl) (fun _ _ _ h => h) (Or.inl ⟨by rfl, ?_⟩) (by assumption) ?_
  rotate_left
  · intro w hSw; (try dsimp only at hSw); go_simp <;> with_reducible rfl
  try simp only [Act.put, List.getElem_toArray, List.getElem_cons_zero, List.getElem_cons_succ, List.setIfInBounds_toArray, List.set_cons_zero, List.set_cons_succ]
  refine wpAnyH_take (i := 2) (v := ?_) rfl (by kernel_rfl) (by kernel_rfl) (by kernel_rfl) (fun _ _ _ h => h) (Or.inl ⟨by rfl, ?_⟩) (by assumption) ?_
  rotate_left
  · intro w hSw; (try dsimp only at hSw); go_simp <;> with_reducible rfl
  try simp only [Act.put, List.getElem_toArray, List.getElem_cons_zero, List.getElem_cons_succ, List.setIfInBounds_toArray, List.set_cons_zero, List.set_cons_succ]
  refine wpAnyH_take (i := 3) (v := ?_) rfl (by kernel_rfl) (by kernel_rfl) (by kernel_rfl) (fun _ _ _ h => h) (Or.inl ⟨by rfl, ?_⟩) (by assumption) ?_
  rotate_left
  · intro w hSw; (try dsimp only at hSw); go_simp <;> with_reducible rfl
  try simp only [Act.put, List.getElem_toArray, List.getElem_cons_zero, List.getElem_cons_succ, List.setIfInBounds_toArray, List.set_cons_zero, List.set_cons_succ]
  refine wpAnyH_take (i := 4) (v := ?_) rfl (by kernel_rfl) (by kernel_rfl) (by kernel_rfl) (fun _ _ _ h => h) (Or.inl ⟨by rfl, ?_⟩) (by assumption) ?_
  rotate_left
  · intro w hSw; (try dsimp only at hSw); go_simp <;> with_reducible rfl
  try simp only [Act.put, List.getElem_toArray, List.getElem_cons_zero, List.getElem_cons_succ, List.setIfInBounds_toArray, List.set_cons_zero, List.set_cons_succ]
  refine wpAnyH_ready (rs := [5, 6]) (by kernel_rfl) (by simp) ?_
  refine AllReadyH.cons rfl (fun K hK => ?_) (AllReadyH.cons rfl (fun K hK => ?_) AllReadyH.nil)
  · clear hHeld
    go_simp
    (try go_wp2_with fail)
    refine hK.out _ _ ?_ (fun hHeld => ?_)
    · exact hF.out _ (KD.out.alloc _)
    clear hK K
    try simp only [Act.put, List.getElem_toArray, List.getElem_cons_zero, List.getElem_cons_succ, List.setIfInBounds_toArray, List.set_cons_zero, List.set_cons_succ]
    refine wpAnyH_ready (rs := [6]) (by kernel_rfl) (by simp) ?_
    refine AllReadyH.cons rfl (fun K hK => ?_) AllReadyH.nil
    go_simp
    (try go_wp2_with fail)
    refine hK.out _ _ ?_ (fun hHeld => ?_)
    · exact hF.out _ ((KD.out.alloc _).alloc _)
    clear hK K
    try simp only [Act.put, List.getElem_toArray, List.getElem_cons_zero, List.getElem_cons_succ, List.setIfInBounds_toArray, List.set_cons_zero, List.set_cons_succ]
    obtain ⟨W2, e2⟩ : ∃ Y, (Wd.alloc (.cells #[.int .i64 0] 3)).alloc (.cells #[.int .i64 0] 3) = Y := ⟨_, rfl⟩
    have b3 : Bn W2 Wd.heap.size [.int .i64 0] := by rw [← e2]; exact (Bn.new Wd [.int .i64 0] 3).kept ((Kp.refl _ _).alloc _)
    have b4 : Bn W2 (Wd.heap.size + 1) [.int .i64 0] := by
      have h := Bn.new (Wd.alloc (.cells #[.int .i64 0] 3)) [.int .i64 0] 3
      rw [World.size_alloc] at h
      rw [← e2]; exact h
    have k2 : Kp [] Wd W2 := by rw [← e2]; exact ((Kp.refl _ _).alloc _).alloc _
    have z2 : W2.heap.size = Wd.heap.size + 2 := by rw [← e2]; simp
    try rw [e2]
    try rw [World.size_alloc]
    have u3 := b3.get 0 _ rfl
    have v3 := b3.free 0
    have B3 := b3.set 0 (by simp) (.int .i64 (c.pl.length : Int))
    have kS3 : Kp [Wd.heap.size] W2 (W2.setCell ⟨Wd.heap.size, 0, none⟩ (.int .i64 (c.pl.length : Int))) := (Kp.refl _ _).setCell (by simp) _
    have B4 := b4.keptS kS3 (by simp) (by omega)
    have KS3 : Hid (Kp [] W (W2.setCell ⟨Wd.heap.size, 0, none⟩ (.int .i64 (c.pl.length : Int)))) := hid ((KD.out.trans k2 (by simp)).trans kS3 (fun x hx => .inr (by simp at hx; have := KD.out.size; omega)))
    clear hHeld
    refine wpAnyH_ready (rs := [7]) (by kernel_rfl) (by simp) ?_
    refine AllReadyH.cons rfl (fun K hK => ?_) AllReadyH.nil
    go_simp
    (try go_wp2_with fail)
    refine hK.out _ _ ?_ (fun hHeld => ?_)
    · exact hF.out _ KS3.out
    clear hK K
    try simp only [Act.put, List.getElem_toArray, List.getElem_cons_zero, List.getElem_cons_succ, List.setIfInBounds_toArray, List.set_cons_zero, List.set_cons_succ]
    generalize W2.setCell ⟨Wd.heap.size, 0, none⟩ (.int .i64 (c.pl.length : Int)) = W3 at *
    have z3 := kS3.size
    have u4 := B4.get 0 _ rfl
    have v4 := B4.free 0
    have B5 := B4.set 0 (by simp) (.int .i64 (M : Int))
    have kS4 : Kp [Wd.heap.size + 1] W3 (W3.setCell ⟨Wd.heap.size + 1, 0, none⟩ (.int .i64 (M : Int))) := (Kp.refl _ _).setCell (by simp) _
    have B6 := B3.keptS kS4 (by simp) (by omega)
    have KS4 : Hid (Kp [] W (W3.setCell ⟨Wd.heap.size + 1, 0, none⟩ (.int .i64 (M : Int)))) := hid (KS3.out.trans kS4 (fun x hx => .inr (by simp at hx; have := KD.out.size; omega)))
    clear hHeld
    refine wpAnyH_ready (rs := [8]) (by kernel_rfl) (by simp) ?_
    refine AllReadyH.cons rfl (fun K hK => ?_) AllReadyH.nil
    go_simp
    (try go_wp2_with fail)
    refine hK.out _ _ ?_ (fun hHeld => ?_)
    · exact hF.out _ KS4.out
    clear hK K
    try simp only [Act.put, List.getElem_toArray, List.getElem_cons_zero, List.getElem_cons_succ, List.setIfInBounds_toArray, List.set_cons_zero, List.set_cons_succ]
    generalize W3.setCell ⟨Wd.heap.size + 1, 0, none⟩ (.int .i64 (M : Int)) = W4 at *
    have HB := hid (And.intro B6 B5)
    obtain ⟨r0, r1, r2, r3, r4⟩ := hF.out _ KS4.out
    have zd := KD.out.size
    clear hHeld u3 v3 u4 v4 b3 b4 B3 B4 B5 B6 kS3 kS4 k2
    refine wpAnyH_done (by kernel_rfl) ?_ _
    go_wp2_with fail
    refine (aC.out _).mono ?_
    rintro e w5 ⟨rfl, k5⟩
    have K5 := hid k5
    clear k5 r0 r1 r2 r3 r4 aC
    go_wp2_with fail
    go_ret
    exact ⟨Wd.heap.size, Wd.heap.size + 1, rfl, (HB.out.1.kept K5.out).get 0 _ rfl, (HB.out.2.kept K5.out).get 0 _ rfl, by omega, by omega, (KW.out.trans KS4.out (by simp)).trans K5.out (by simp)⟩
  · clear hHeld
    go_simp
    (try go_wp2_with fail)
    refine hK.out _ _ ?_ (fun hHeld => ?_)
    · exact hF.out _ (KD.out.alloc _)
    clear hK K
    try simp only [Act.put, List.getElem_toArray, List.getElem_cons_zero, List.getElem_cons_succ, List.setIfInBounds_toArray, List.set_cons_zero, List.set_cons_succ]
    refine wpAnyH_ready (rs := [5]) (by kernel_rfl) (by simp) ?_
    refine AllReadyH.cons rfl (fun K hK => ?_) AllReadyH.nil
    go_simp
    (try go_wp2_with fail)
    refine hK.out _ _ ?_ (fun hHeld => ?_)
    · exact hF.out _ ((KD.out.alloc _).alloc _)
    clear hK K
    try simp only [Act.put, List.getElem_toArray, List.getElem_cons_zero, List.getElem_cons_succ, List.setIfInBounds_toArray, List.set_cons_zero, List.set_cons_succ]
    obtain ⟨W2, e2⟩ : ∃ Y, (Wd.alloc (.cells #[.int .i64 0] 3)).alloc (.cells #[.int .i64 0] 3) = Y := ⟨_, rfl⟩
    have b3 : Bn W2 Wd.heap.size [.int .i64 0] := by rw [← e2]; exact (Bn.new Wd [.int .i64 0] 3).kept ((Kp.refl _ _).alloc _)
    have b4 : Bn W2 (Wd.heap.size + 1) [.int .i64 0] := by
      have h := Bn.new (Wd.alloc (.cells #[.int .i64 0] 3)) [.int .i64 0] 3
      rw [World.size_alloc] at h
      rw [← e2]; exact h
    have k2 : Kp [] Wd W2 := by rw [← e2]; exact ((Kp.refl _ _).alloc _).alloc _
    have z2 : W2.heap.size = Wd.heap.size + 2 := by rw [← e2]; simp
    try rw [e2]
    try rw [World.size_alloc]
    have u3 := b4.get 0 _ rfl
    have v3 := b4.free 0
    have B3 := b4.set 0 (by simp) (.int .i64 (c.pl.length : Int))
    have kS3 : Kp [Wd.heap.size + 1] W2 (W2.setCell ⟨Wd.heap.size + 1, 0, none⟩ (.int .i64 (c.pl.length : Int))) := (Kp.refl _ _).setCell (by simp) _
    have B4 := b3.keptS kS3 (by simp) (by omega)
    have KS3 : Hid (Kp [] W (W2.setCell ⟨Wd.heap.size + 1, 0, none⟩ (.int .i64 (c.pl.length : Int)))) := hid ((KD.out.trans k2 (by simp)).trans kS3 (fun x hx => .inr (by simp at hx; have := KD.out.size; omega)))
    clear hHeld
    refine wpAnyH_ready (rs := [7]) (by kernel_rfl) (by simp) ?_
    refine AllReadyH.cons rfl (fun K hK => ?_) AllReadyH.nil
    go_simp
    (try go_wp2_with fail)
    refine hK.out _ _ ?_ (fun hHeld => ?_)
    · exact hF.out _ KS3.out
    clear hK K
    try simp only [Act.put, List.getElem_toArray, List.getElem_cons_zero, List.getElem_cons_succ, List.setIfInBounds_toArray, List.set_cons_zero, List.set_cons_succ]
    generalize W2.setCell ⟨Wd.heap.size + 1, 0, none⟩ (.int .i64 (c.pl.length : Int)) = W3 at *
    have z3 := kS3.size
    have u4 := B4.get 0 _ rfl
    have v4 := B4.free 0
    have B5 := B4.set 0 (by simp) (.int .i64 (M : Int))
    have kS4 : Kp [Wd.heap.size] W3 (W3.setCell ⟨Wd.heap.size, 0, none⟩ (.int .i64 (M : Int))) := (Kp.refl _ _).setCell (by simp) _
    have B6 := B3.keptS kS4 (by simp) (by omega)
    have KS4 : Hid (Kp [] W (W3.setCell ⟨Wd.heap.size, 0, none⟩ (.int .i64 (M : Int)))) := hid (KS3.out.trans kS4 (fun x hx => .inr (by simp at hx; have := KD.out.size; omega)))
    clear hHeld
    refine wpAnyH_ready (rs := [8]) (by kernel_rfl) (by simp) ?_
    refine AllReadyH.cons rfl (fun K hK => ?_) AllReadyH.nil
    go_simp
    (try go_wp2_with fail)
    refine hK.out _ _ ?_ (fun hHeld => ?_)
    · exact hF.out _ KS4.out
    clear hK K
    try simp only [Act.put, List.getElem_toArray, List.getElem_cons_zero, List.getElem_cons_succ, List.setIfInBounds_toArray, List.set_cons_zero, List.set_cons_succ]
    generalize W3.setCell ⟨Wd.heap.size, 0, none⟩ (.int .i64 (M : Int)) = W4 at *
    have HB := hid (And.intro B6 B5)
    obtain ⟨r0, r1, r2, r3, r4⟩ := hF.out _ KS4.out
    have zd := KD.out.size
    clear hHeld u3 v3 u4 v4 b3 b4 B3 B4 B5 B6 kS3 kS4 k2
    refine wpAnyH_done (by kernel_rfl) ?_ _
    go_wp2_with fail
    refine (aC.out _).mono ?_
    rintro e w5 ⟨rfl, k5⟩
    have K5 := hid k5
    clear k5 r0 r1 r2 r3 r4 aC
    go_wp2_with fail
    go_ret
    exact ⟨Wd.heap.size + 1, Wd.heap.size, rfl, (HB.out.1.kept K5.out).get 0 _ rfl, (HB.out.2.kept K5.out).get 0 _ rfl, by omega, by omega, (KW.out.trans KS4.out (by simp)).trans K5.out (by simp)⟩
end Go.Proofs.Ytckicbaidbgonaa
end

section
namespace Go.Hay
open Go.RowKit
set_option linter.unusedVariables false

variable {F : Fence} {n : Nat} {P : Program} {σ α : Type}

/-- The range's own two records stand. -/
def Recs (B : Nat) (W W' : World) : Prop := W'.heap[B]? = W.heap[B]? ∧ W'.heap[B + 1]? = W.heap[B + 1]?
/-- How a round's body may be left. -/
def leftZ (B : Nat) (K : σ → World → World → Prop) (I : σ → World → Prop) (Ix : Code → σ → World → Prop) (s0 s : σ) (W : World) : Exit → Act → World → Prop
  | .normal, _, W' => Recs B W W' ∧ K s0 W W' ∧ I s W'
  | .ret, _, W' => Recs B W W' ∧ Ix .ret s W'
  | .exit id, _, W' => Recs B W W' ∧ Ix (.exit id) s W'
  | .goto t, _, W' => Recs B W W' ∧ Ix (.goto t) s W'
  | _, _, _ => False

/-- The law. -/
theorem wpRangeZ {g : Operand} {ps : Array Tmp} {assign body : Code} {Q : Exit → Act → World → Prop} {a : Act} {w : World}
    (hro : F.round = none) (h1 : 1 ≤ n) {gf : Nat} {lb : Array Value} (hg : a.eval g = .func (.func gf) #[] lb) (hFg : F.fn gf) (eg : ∀ args w, (callFunc gf args).run P w = .ok (.enter gf args) w)
    {encs : α → Array Value} {T : σ → σ → World → World → Prop} {K : σ → World → World → Prop} {ok : σ → α → Prop} {nx : σ → α → σ} {S Sp : σ → Prop} {s0 : σ} {w0 : World}
    (hseq : SeqS F (n - 1) P gf lb encs T K ok nx S Sp s0 w0) (hps : ∀ x, (encs x).size = ps.size)
    (hKt : ∀ {s : σ} {A B C : World}, K s A B → K s B C → K s A C) (hKa : ∀ s W o, K s W (W.alloc o)) (hKb : ∀ (s : σ) (W : World) (l : Nat) (o o' : Obj), w.heap.size ≤ l → W.heap[l]? = some o → o.isCells = false → o.isWalk = false → K s W (W.putObj l o')) (hb0 : K s0 w0 w)
    (hTk : ∀ s s' A B, T s s' A B → ∀ (k : Nat) (o : Obj), w.heap.size ≤ k → A.heap[k]? = some o → o.isCells = false → o.isWalk = false → B.heap[k]? = some o)
    (I : σ → World → Prop) (Ix : Code → σ → World → Prop) (hI : ∀ s W o', I s W → W.heap.size > w.heap.size + 1 → I s (W.putObj (w.heap.size + 1) o')) (hIx : ∀ c s W o', Ix c s W → W.heap.size > w.heap.size + 1 → Ix c s (W.putObj (w.heap.size + 1) o')) (hIT : ∀ s s' A B, I s A → T s s' A B → I s' B) (h0 : ∀ o1 o2, I s0 ((w.alloc o1).alloc o2))
    (a₁ : α → Act) (hassign : ∀ (l : Nat) (x : α) (W : World) (C : Act → World → Prop), C (a₁ x) W →
      assign.wpIn (F.inRound l) (n - 1 - 1) P (Exit.then C (fun _ _ _ => False)) { tmps := (ps.zip (encs x)).foldl (fun t (p, v) => t.setIfInBounds p v) a.tmps, defers := [] } W)
    (hbody : ∀ (l : Nat) (s : σ) (x : α) (W : World), I s W → ok s x → body.wpIn (F.inRound l) (n - 1 - 1) P (leftZ w.heap.size K I Ix s (nx s x) W) (a₁ x) W)
    (hdone : ∀ (D : Nat) (s : σ) (W : World), w.heap.size ≤ D → S s → I s W → W.heap[D]? = some (.deferred (some [])) → Q .normal { a with defers := { target := .collected D, args := #[] } :: a.defers } W)
    (hstop : ∀ (D : Nat) (c : Code) (s : σ) (W : World), w.heap.size ≤ D → Sp s → Ix c s W → W.heap[D]? = some (.deferred (some [])) → c.wpIn F n P Q { a with defers := { target := .collected D, args := #[] } :: a.defers } W) :
    (Code.rangeFunc g ps assign body).wpIn F n P Q a w := by
  refine wpIn_rangeFunc fun fn hfn => ?_
  rw [hro]
  -- the loop's record, as it may stand
  let R : LoopState → Option Code → Obj := fun st pe => .loop { state := st, pending := pe, fn, tmps := a.tmps, params := ps, assign, body, defers := w.heap.size }
  let Bk : LoopState → Option Code → World → Prop := fun st pe W => W.heap[w.heap.size + 1]? = some (R st pe) ∧ W.heap[w.heap.size]? = some (.deferred (some []))
  have bkK : ∀ {st pe A B}, Recs w.heap.size A B → Bk st pe A → Bk st pe B := fun hk hb => ⟨hk.2.trans hb.1, hk.1.trans hb.2⟩
  have bkP : ∀ {st pe st' pe' A}, Bk st pe A → Bk st' pe' (A.putObj (w.heap.size + 1) (R st' pe')) := fun hb =>
    ⟨World.putObj_heap_same (Array.getElem?_eq_some_iff.1 hb.1).1, (World.putObj_heap_other (by omega)).trans hb.2⟩
  have iP : ∀ {st pe s A} (o : Obj), Bk st pe A → I s A → I s (A.putObj (w.heap.size + 1) o) := fun o hb hi => hI _ _ o hi (Array.getElem?_eq_some_iff.1 hb.1).1
  have ixP : ∀ {st pe s c A} (o : Obj), Bk st pe A → Ix c s A → Ix c s (A.putObj (w.heap.size + 1) o) := fun o hb hi => hIx _ _ _ o hi (Array.getElem?_eq_some_iff.1 hb.1).1
  have kP : ∀ {s st pe A} (o : Obj), Bk st pe A → K s A (A.putObj (w.heap.size + 1) o) := fun o hb => hKb _ _ _ _ _ (by omega) hb.1 rfl rfl
  have bkT : ∀ {s s' st pe A B}, T s s' A B → Bk st pe A → Bk st pe B := fun ht hb => ⟨hTk _ _ _ _ ht _ _ (by omega) hb.1 rfl rfl, hTk _ _ _ _ ht _ _ (Nat.le_refl _) hb.2 rfl rfl⟩
  have b0 : Bk .ready none ((w.alloc (.deferred (some []))).alloc (R .ready none)) :=
    ⟨by have := World.alloc_heap_new (w.alloc (.deferred (some []))) (R .ready none); rwa [World.size_alloc] at this, (Below.heap_alloc _ _ _ (by simp)).trans (World.alloc_heap_new w _)⟩
  refine ⟨w.heap.size + 1, [{ target := .collected w.heap.size, args := #[] }], ((w.alloc (.deferred (some []))).alloc (R .ready none)), { target := .fn (.func gf) lb, args := #[.func (.yield (w.heap.size + 1)) #[] #[]] }, ((w.alloc (.deferred (some []))).alloc (R .ready none)), gf, #[.func (.yield (w.heap.size + 1)) #[] #[]] ++ lb, ((w.alloc (.deferred (some []))).alloc (R .ready none)),
    run_enterLoop_outer _ _ _ _ _, by simp only [resolve, hg]; simp [go_sem], fun f' hf' => by simp [Target.leads] at hf'; subst hf'; exact hFg, by simp [invoke, go_sem, eg], fun _ => h1, ?_⟩
  refine (hseq (w.heap.size + 1) (fun s A => I s A ∧ Bk .ready none A) (fun s A => ∃ c, Ix c s A ∧ Bk .done (some c) A) _ (hKt hb0 (hKt (hKa _ _ _) (hKa _ _ _)))
    (fun s s' A B hs ht => ⟨hIT s s' A B hs.1 ht, bkT ht hs.2⟩) ?_ ⟨h0 _ _, b0⟩).mono ?_
  · -- one round
    rintro s x A ⟨hi, hb⟩ hok
    refine ⟨fn, _, assign, body, run_yield hb.1 (hps x), roundIn_of_wpIn hfn (hassign _ x A _ ⟨_, run_beginRound hb.1 rfl, ?_⟩)⟩
    have hb2 : Bk .busy none (A.putObj (w.heap.size + 1) (R .busy none)) := bkP hb
    refine wpIn_mono (hbody _ s x _ (iP _ hb hi) hok) ?_
    rintro e a3 W3 hp
    cases e with
    | normal =>
      have hb3 := bkK hp.1 hb2
      exact ⟨_, _, run_endRound none hb3.1, .inl ⟨rfl, ⟨iP _ hb3 hp.2.2, bkP hb3⟩, hKt (kP _ hb) (hKt hp.2.1 (kP _ hb3))⟩⟩
    | ret => have hb3 := bkK hp.1 hb2; exact ⟨_, _, run_endRound (some .ret) hb3.1, .inr ⟨rfl, .ret, ixP _ hb3 hp.2, bkP hb3⟩⟩
    | exit id => have hb3 := bkK hp.1 hb2; exact ⟨_, _, run_endRound (some (.exit id)) hb3.1, .inr ⟨rfl, .exit id, ixP _ hb3 hp.2, bkP hb3⟩⟩
    | goto t => have hb3 := bkK hp.1 hb2; exact ⟨_, _, run_endRound (some (.goto t)) hb3.1, .inr ⟨rfl, .goto t, ixP _ hb3 hp.2, bkP hb3⟩⟩
    | panic ch => exact hp.elim
    | outgrown => exact hp.elim
  · -- behind the iterator
    rintro e A ⟨⟨v, rfl⟩, (⟨s, hS, hi, hb⟩ | ⟨s, hSp, c, hi, hb⟩)⟩
    · exact ⟨none, _, run_endLoop hb.1 (by simp), hdone _ s _ (Nat.le_refl _) hS (iP _ hb hi) ((World.putObj_heap_other (by omega)).trans hb.2)⟩
    · exact ⟨some c, _, run_endLoop hb.1 (by simp), hstop _ c s _ (Nat.le_refl _) hSp (ixP _ hb hi) ((World.putObj_heap_other (by omega)).trans hb.2)⟩
end Go.Hay
end

section
namespace Go.Hay
open Go.RowKit
set_option linter.unusedVariables false

variable {F : Fence} {n : Nat} {P : Program} {σ α : Type}

/-- The law. -/
theorem wpRangeW {g : Operand} {ps : Array Tmp} {assign body : Code} {Q : Exit → Act → World → Prop} {a : Act} {w : World}
    (hro : F.round = none) (h1 : 1 ≤ n) {gf : Nat} {lb : Array Value} (hg : a.eval g = .func (.func gf) #[] lb) (hFg : F.fn gf) (eg : ∀ args w, (callFunc gf args).run P w = .ok (.enter gf args) w)
    {encs : α → Array Value} {T : σ → σ → World → World → Prop} {K : σ → World → World → Prop} {ok : σ → α → Prop} {nx : σ → α → σ} {S Sp : σ → Prop} {s0 : σ} {w0 : World}
    (hseq : SeqS F (n - 1) P gf lb encs T K ok nx S Sp s0 w0) (hps : ∀ x, (encs x).size = ps.size)
    (hKt : ∀ {s : σ} {A B C : World}, K s A B → K s B C → K s A C) (hKa : ∀ s W o, K s W (W.alloc o)) (hKb : ∀ (s : σ) (W : World) (l : Nat) (o o' : Obj), w.heap.size ≤ l → W.heap[l]? = some o → o.isCells = false → o.isWalk = false → K s W (W.putObj l o')) (hb0 : K s0 w0 w)
    (hTk : ∀ s s' A B, T s s' A B → ∀ (k : Nat) (o : Obj), w.heap.size ≤ k → A.heap[k]? = some o → o.isCells = false → o.isWalk = false → B.heap[k]? = some o)
    (I : σ → World → Prop) (Ix : Code → σ → World → Prop) (hI : ∀ s W o', I s W → W.heap.size > w.heap.size + 1 → I s (W.putObj (w.heap.size + 1) o')) (hIx : ∀ c s W o', Ix c s W → W.heap.size > w.heap.size + 1 → Ix c s (W.putObj (w.heap.size + 1) o')) (hIT : ∀ s s' A B, I s A → T s s' A B → I s' B) (h0 : ∀ o1 o2, I s0 ((w.alloc o1).alloc o2)) (hIa : ∀ s W o, I s W → I s (W.alloc o))
    (ob : α → Obj) (a₁ : α → Nat → Act) (hassign : ∀ (l : Nat) (x : α) (W : World) (C : Act → World → Prop), C (a₁ x W.heap.size) (W.alloc (ob x)) →
      assign.wpIn (F.inRound l) (n - 1 - 1) P (Exit.then C (fun _ _ _ => False)) { tmps := (ps.zip (encs x)).foldl (fun t (p, v) => t.setIfInBounds p v) a.tmps, defers := [] } W)
    (hbody : ∀ (l : Nat) (s : σ) (x : α) (W : World) (q : Nat), I s W → ok s x → W.heap[q]? = some (ob x) → w.heap.size + 2 ≤ q → body.wpIn (F.inRound l) (n - 1 - 1) P (leftZ w.heap.size K I Ix s (nx s x) W) (a₁ x q) W)
    (hdone : ∀ (D : Nat) (s : σ) (W : World), w.heap.size ≤ D → S s → I s W → W.heap[D]? = some (.deferred (some [])) → Q .normal { a with defers := { target := .collected D, args := #[] } :: a.defers } W)
    (hstop : ∀ (D : Nat) (c : Code) (s : σ) (W : World), w.heap.size ≤ D → Sp s → Ix c s W → W.heap[D]? = some (.deferred (some [])) → c.wpIn F n P Q { a with defers := { target := .collected D, args := #[] } :: a.defers } W) :
    (Code.rangeFunc g ps assign body).wpIn F n P Q a w := by
  refine wpIn_rangeFunc fun fn hfn => ?_
  rw [hro]
  -- the loop's record, as it may stand
  let R : LoopState → Option Code → Obj := fun st pe => .loop { state := st, pending := pe, fn, tmps := a.tmps, params := ps, assign, body, defers := w.heap.size }
  let Bk : LoopState → Option Code → World → Prop := fun st pe W => W.heap[w.heap.size + 1]? = some (R st pe) ∧ W.heap[w.heap.size]? = some (.deferred (some []))
  have bkK : ∀ {st pe A B}, Recs w.heap.size A B → Bk st pe A → Bk st pe B := fun hk hb => ⟨hk.2.trans hb.1, hk.1.trans hb.2⟩
  have bkP : ∀ {st pe st' pe' A}, Bk st pe A → Bk st' pe' (A.putObj (w.heap.size + 1) (R st' pe')) := fun hb =>
    ⟨World.putObj_heap_same (Array.getElem?_eq_some_iff.1 hb.1).1, (World.putObj_heap_other (by omega)).trans hb.2⟩
  have iP : ∀ {st pe s A} (o : Obj), Bk st pe A → I s A → I s (A.putObj (w.heap.size + 1) o) := fun o hb hi => hI _ _ o hi (Array.getElem?_eq_some_iff.1 hb.1).1
  have ixP : ∀ {st pe s c A} (o : Obj), Bk st pe A → Ix c s A → Ix c s (A.putObj (w.heap.size + 1) o) := fun o hb hi => hIx _ _ _ o hi (Array.getElem?_eq_some_iff.1 hb.1).1
  have kP : ∀ {s st pe A} (o : Obj), Bk st pe A → K s A (A.putObj (w.heap.size + 1) o) := fun o hb => hKb _ _ _ _ _ (by omega) hb.1 rfl rfl
  have bkT : ∀ {s s' st pe A B}, T s s' A B → Bk st pe A → Bk st pe B := fun ht hb => ⟨hTk _ _ _ _ ht _ _ (by omega) hb.1 rfl rfl, hTk _ _ _ _ ht _ _ (Nat.le_refl _) hb.2 rfl rfl⟩
  have b0 : Bk .ready none ((w.alloc (.deferred (some []))).alloc (R .ready none)) :=
    ⟨by have := World.alloc_heap_new (w.alloc (.deferred (some []))) (R .ready none); rwa [World.size_alloc] at this, (Below.heap_alloc _ _ _ (by simp)).trans (World.alloc_heap_new w _)⟩
  refine ⟨w.heap.size + 1, [{ target := .collected w.heap.size, args := #[] }], ((w.alloc (.deferred (some []))).alloc (R .ready none)), { target := .fn (.func gf) lb, args := #[.func (.yield (w.heap.size + 1)) #[] #[]] }, ((w.alloc (.deferred (some []))).alloc (R .ready none)), gf, #[.func (.yield (w.heap.size + 1)) #[] #[]] ++ lb, ((w.alloc (.deferred (some []))).alloc (R .ready none)),
    run_enterLoop_outer _ _ _ _ _, by simp only [resolve, hg]; simp [go_sem], fun f' hf' => by simp [Target.leads] at hf'; subst hf'; exact hFg, by simp [invoke, go_sem, eg], fun _ => h1, ?_⟩
  refine (hseq (w.heap.size + 1) (fun s A => I s A ∧ Bk .ready none A) (fun s A => ∃ c, Ix c s A ∧ Bk .done (some c) A) _ (hKt hb0 (hKt (hKa _ _ _) (hKa _ _ _)))
    (fun s s' A B hs ht => ⟨hIT s s' A B hs.1 ht, bkT ht hs.2⟩) ?_ ⟨h0 _ _, b0⟩).mono ?_
  · -- one round
    rintro s x A ⟨hi, hb⟩ hok
    have hb1 : Bk .ready none (A.alloc (ob x)) := ⟨(Below.heap_alloc A _ _ (Array.getElem?_eq_some_iff.1 hb.1).1).trans hb.1, (Below.heap_alloc A _ _ (Array.getElem?_eq_some_iff.1 hb.2).1).trans hb.2⟩
    have hi1 : I s (A.alloc (ob x)) := hIa _ _ _ hi
    have hz : w.heap.size + 2 ≤ A.heap.size := (Array.getElem?_eq_some_iff.1 hb.1).1
    refine ⟨fn, _, assign, body, run_yield hb.1 (hps x), roundIn_of_wpIn hfn (hassign _ x A _ ⟨_, run_beginRound hb1.1 rfl, ?_⟩)⟩
    have hb2 : Bk .busy none ((A.alloc (ob x)).putObj (w.heap.size + 1) (R .busy none)) := bkP hb1
    refine wpIn_mono (hbody _ s x _ A.heap.size (iP _ hb1 hi1) hok ((World.putObj_heap_other (by omega)).trans (World.alloc_heap_new A (ob x))) hz) ?_
    rintro e a3 W3 hp
    cases e with
    | normal =>
      have hb3 := bkK hp.1 hb2
      exact ⟨_, _, run_endRound none hb3.1, .inl ⟨rfl, ⟨iP _ hb3 hp.2.2, bkP hb3⟩, hKt (hKa _ _ _) (hKt (kP _ hb1) (hKt hp.2.1 (kP _ hb3)))⟩⟩
    | ret => have hb3 := bkK hp.1 hb2; exact ⟨_, _, run_endRound (some .ret) hb3.1, .inr ⟨rfl, .ret, ixP _ hb3 hp.2, bkP hb3⟩⟩
    | exit id => have hb3 := bkK hp.1 hb2; exact ⟨_, _, run_endRound (some (.exit id)) hb3.1, .inr ⟨rfl, .exit id, ixP _ hb3 hp.2, bkP hb3⟩⟩
    | goto t => have hb3 := bkK hp.1 hb2; exact ⟨_, _, run_endRound (some (.goto t)) hb3.1, .inr ⟨rfl, .goto t, ixP _ hb3 hp.2, bkP hb3⟩⟩
    | panic ch => exact hp.elim
    | outgrown => exact hp.elim
  · -- behind the iterator
    rintro e A ⟨⟨v, rfl⟩, (⟨s, hS, hi, hb⟩ | ⟨s, hSp, c, hi, hb⟩)⟩
    · exact ⟨none, _, run_endLoop hb.1 (by simp), hdone _ s _ (Nat.le_refl _) hS (iP _ hb hi) ((World.putObj_heap_other (by omega)).trans hb.2)⟩
    · exact ⟨some c, _, run_endLoop hb.1 (by simp), hstop _ c s _ (Nat.le_refl _) hSp (ixP _ hb hi) ((World.putObj_heap_other (by omega)).trans hb.2)⟩
end Go.Hay
end

section
namespace Go.Hay
open Go.RowKit
set_option linter.unusedVariables false

variable {P : Program} {l n : Nat}
theorem upon_round {o : Oper} {a : Act} {K : Act → World → Prop} {Q : Exit → Act → World → Prop} : ∀ {r : Result Next}, o.upon P a K Q r → o.uponIn (Fence.wide.inRound l) n P a K Q r := by
  intro r h
  have hdep : (Fence.wide.inRound l).depth.isSome = true → 1 ≤ n := fun h => by cases h
  unfold Oper.upon at h
  split at h
  · exact h
  · exact h
  · exact h
  · exact ⟨hdep, callsIn_wide.2 h⟩
  · refine ⟨hdep, fun c cs _ => ?_⟩
    obtain ⟨v, w', hr, hs⟩ := h c cs
    exact ⟨v, w', hr, stepsIn_wide.2 hs⟩
  · exact h
  · exact h.elim
theorem op_round {ops : Array Oper} {i : Nat} {K : Act → World → Prop} {Q : Exit → Act → World → Prop} {a : Act} {w : World} (hnd : ∀ o, ops[i]? = some o → ∀ c, o.op ≠ .defer c) (hlo : ¬ LetsOut Q) (h : wpOp P ops Q i K a w) : wpOpIn (Fence.wide.inRound l) n P ops Q i K a w := by
  unfold wpOp at h
  unfold wpOpIn
  cases ho : ops[i]? with
  | none => rw [ho] at h; exact h
  | some o =>
    rw [ho] at h
    simp only at h ⊢
    split
    · rename_i hw
      rw [if_pos hw] at h
      rcases h with h | h
      · refine ⟨fun _ _ => trivial, ?_⟩
        rw [Oper.semAt_plain _ _ _ (hnd o ho)]
        exact upon_round h
      · exact absurd h.2 hlo
    · rename_i hw
      rw [if_neg hw] at h
      exact ⟨fun _ _ => trivial, h⟩
theorem any_round {ops : Array Oper} {Q : Exit → Act → World → Prop} {S : World → Prop} (hnd : ∀ (i : Nat) (o : Oper), ops[i]? = some o → ∀ c, o.op ≠ .defer c) (hlo : ¬ LetsOut Q) : ∀ (fuel : Nat) (listed : Array Bool) (a : Act) (w : World), wpAnyH P .any ops Q S fuel listed a w → wpAnyIn (Fence.wide.inRound l) n P .any ops Q fuel listed a w
  | 0, _, _, _, h => h
  | fuel + 1, listed, a, w, h => ⟨h.1, fun i hi => op_round (hnd i) hlo (wpOp_mono (fun a w hk => any_round hnd hlo fuel _ a w hk.2) (h.2 i hi))⟩
def noDefer (ops : Array Oper) : Bool := ops.all fun o => match o.op with | .defer _ => false | _ => true
theorem noDefer_spec {ops : Array Oper} (h : noDefer ops = true) (i : Nat) (o : Oper) (ho : ops[i]? = some o) (c : Call) : o.op ≠ .defer c := fun e => by
  have := Array.all_eq_true.1 h i (Array.getElem?_eq_some_iff.1 ho).1
  rw [(Array.getElem?_eq_some_iff.1 ho).2, e] at this
  cases this
theorem region_round {id : Nat} {ops : Array Oper} {Q : Exit → Act → World → Prop} {a : Act} {w : World} (S : World → Prop) (hm : P.follows .mixedOrders = true) (hnd : noDefer ops = true) (hlo : ¬ LetsOut Q) (hS : S w.drew)
    (h : S w.drew → wpAnyH P .any ops Q S ops.size (Array.replicate ops.size false) a w.drew) : (Code.region id ops true).wpIn (Fence.wide.inRound l) n P Q a w :=
  wpIn_region_any hm (any_round (noDefer_spec hnd) hlo _ _ _ _ (h hS))
end Go.Hay
end

/- Recover: Missing, the program's and the reference's. Recover: what the document fixes (alive). Recover, by the reference: once, Upto, Changes, Merged. Recover: what follows, as plain values. No statement of the seat is proved here. RecoverGives' walk. RecoverMerges' walk. Recover: lists as they are told, for the laws; right. Recover: arguments opened. (mkrvx.py) -/
import Derived.Test.YtebkkdoggagcdabB10
import Derived.Test.YtebkkdoggagcdabB9
import Derived.Test.YtebkkdoggagcdabB2
section
namespace Go.Proofs.Ytebkkdoggagcdab
open Go.RowKit Go.Hay
attribute [local go_sem] Oper.semAt_some
set_option linter.unusedVariables false
set_option linter.unusedSimpArgs false

/-- A segment. -/
structure Sgm where
  p : Int
  s : Int
def SgE : El Sgm where
  n := 2
  c x := [.int .i64 x.p, .int .i64 x.s]
  len _ := rfl
  one _ u hu := by simp at hu; rcases hu with rfl | rfl <;> rfl
  pos := by decide
/-- What is held: a segment, and a slice of versions. -/
structure Hl where
  p : Int
  s : Int
  a : Option Addr
  n : Nat
  c : Nat
def HlE : El Hl where
  n := 3
  c x := [.int .i64 x.p, .int .i64 x.s, .slice x.a x.n x.c]
  len _ := rfl
  one _ u hu := by simp at hu; rcases hu with rfl | rfl | rfl <;> rfl
  pos := by decide
theorem sgAt {w : World} {a : Option Addr} {l : List Sgm} (h : SgE.See w a l) {i : Nat} {x : Sgm} (hx : l[i]? = some x) : ∃ g o, a = some ⟨g, o, none⟩ ∧ w.cell? ⟨g, o + i * 2, none⟩ = some (.int .i64 x.p) ∧ w.cell? ⟨g, o + i * 2 + 1, none⟩ = some (.int .i64 x.s) := by
  obtain ⟨g, o, e, hc⟩ := h.at hx
  exact ⟨g, o, e, hc 0 _ rfl, hc 1 _ rfl⟩
theorem hlAt {w : World} {a : Option Addr} {l : List Hl} (h : HlE.See w a l) {i : Nat} {x : Hl} (hx : l[i]? = some x) : ∃ g o, a = some ⟨g, o, none⟩ ∧ w.cell? ⟨g, o + i * 3, none⟩ = some (.int .i64 x.p) ∧ w.cell? ⟨g, o + i * 3 + 1, none⟩ = some (.int .i64 x.s) ∧ w.cell? ⟨g, o + i * 3 + 2, none⟩ = some (.slice x.a x.n x.c) := by
  obtain ⟨g, o, e, hc⟩ := h.at hx
  exact ⟨g, o, e, hc 0 _ rfl, hc 1 _ rfl, hc 2 _ rfl⟩
/-- Whether something is held of a segment. -/
def heldS (H : List Hl) (x : Sgm) : Bool := H.any fun h => decide ((h.p, h.s) = (x.p, x.s))
def misV (W : List Sgm) (H : List Hl) : List Sgm := W.filter fun x => !heldS H x
theorem heldS_snoc (H : List Hl) (h : Hl) (x : Sgm) : heldS (H ++ [h]) x = (heldS H x || decide ((h.p, h.s) = (x.p, x.s))) := by
  unfold heldS
  rw [List.any_append]
  simp
theorem misV_snoc {W : List Sgm} (H : List Hl) {j : Nat} (h : j < W.length) : misV (W.take (j + 1)) H = misV (W.take j) H ++ (if heldS H W[j] = true then [] else [W[j]]) := by
  rw [List.take_succ_eq_append_getElem h]
  unfold misV
  rw [List.filter_append]
  by_cases c : heldS H W[j] = true <;> simp [c]
theorem infoS : ∃ i : TypeInfo, Try.prog.info? 40 = some i ∧ i.zero = some (.agg #[.int .i64 0, .int .i64 0]) ∧ i.size = 2 ∧ i.bytes = 16 := info3 (by kernel_rfl)
def GS (w : World) (ra : Option Addr) (rc : Nat) (O : List Sgm) (W : World) : Prop := SgE.Row W (.slice ra O.length rc) O ∧ Kp [] w W ∧ ∀ k ∈ blk ra, w.heap.size ≤ k
theorem GS.kp {w : World} {ra : Option Addr} {rc : Nat} {O : List Sgm} {W W' : World} (h : GS w ra rc O W) (k : Kp [] W W') : GS w ra rc O W' := ⟨h.1.keptNew k, h.2.1.trans k (by simp), h.2.2⟩
theorem GS.app {w : World} {ra : Option Addr} {rc : Nat} {L : List Sgm} {W : World} (h : GS w ra rc L W) (x : Sgm) (q : Nat) (hq : W.heap.size = q) (hL : L.length ≤ 9000000000000) :
    ∃ a' c' w', (Builtin.append_ #[37, 37] 37 #[.slice ra L.length rc, .slice (some ⟨q, 0, none⟩) 1 1]).run Try.prog (W.alloc (.cells #[.int .i64 x.p, .int .i64 x.s] 40)) = .ok (.slice a' (L ++ [x]).length c') w' ∧ GS w a' c' (L ++ [x]) w' ∧ Kp (blk ra) W w' := by
  have k1 : Kp [] W (W.alloc (.cells #[.int .i64 x.p, .int .i64 x.s] 40)) := (Kp.refl _ _).alloc _
  have bx : Bn (W.alloc (.cells #[.int .i64 x.p, .int .i64 x.s] 40)) q (SgE.c x) := by rw [← hq]; exact Bn.new W (SgE.c x) _
  have hse : SgE.See (W.alloc (.cells #[.int .i64 x.p, .int .i64 x.s] 40)) (some ⟨q, 0, none⟩) [x] := .inr ⟨q, 0, rfl, fun j u hu => by rw [Nat.zero_add]; exact bx.get j u (by simpa [El.cs] using hu)⟩
  obtain ⟨i0, hi, hz0, hz1, hz2⟩ := infoS
  have hsr := hse.src (P := Try.prog) Try.underlying37 1
  obtain ⟨v', w', hrun, h1, h2, h3⟩ := run_appendG (E := SgE) (P := Try.prog) _ 37 37 37 40 i0 _ 16 Try.underlying37 hi hz0 hz1 hz2 rfl (.slice ra L.length rc) L (h.1.keptNew k1) _ [x] hsr (by simp only [List.length_cons, List.length_nil]; omega) (by simp only [List.length_cons, List.length_nil]; omega)
  obtain ⟨a', c', rfl, _⟩ := h1.see
  simp only [own_slice] at h2 h3
  have kk : Kp (blk ra) W w' := (k1.mono (by simp)).trans h2 (fun _ h => .inl h)
  refine ⟨a', c', w', hrun, ⟨h1, h.2.1.trans kk (fun x hx => .inr (h.2.2 x hx)), fun k hk => ?_⟩, kk⟩
  rcases h3 k hk with e | e
  · exact h.2.2 k e
  · exact Nat.le_trans h.2.1.size (Nat.le_trans k1.size e)
theorem eqSg (a b c d : Int) (w : World) : (binOp .eql 40 (.agg #[.int .i64 a, .int .i64 b]) (.agg #[.int .i64 c, .int .i64 d])).run Try.prog w = .ok (.bool (decide ((a, b) = (c, d)))) w := by
  rw [run_eql_struct, run_equalIn_agg (ht := by kernel_rfl) (hp := by kernel_rfl)]
  by_cases h1 : a = c
  · by_cases h2 : b = d
    · simp [go_sem, h1, h2]
    · simp [go_sem, h1, h2]
  · simp [go_sem, h1]
theorem segK : (40 : TypeId) < Try.prog.types.size := of_decide_eq_true (by kernel_rfl)
theorem wideSegK : (match Try.prog.underlying 40 with | some (.array _ _) | some (.struct _) => true | _ => false) = true := by rw [Try.underlying40]
set_option maxRecDepth 100000 in
theorem lawSegK : Maps.Keyed Try.prog 40 := Maps.Keyed.of_law (deep_law_laid Try.laidOut (m := 2) (by omega) segK (by kernel_rfl) wideSegK)
theorem zeroUnit (w : World) : (zeroValue 55).run Try.prog w = .ok (.agg #[]) w := by kernel_rfl
/-- Numbers that an int holds. -/
def I64 (x : Int) : Prop := -9223372036854775808 ≤ x ∧ x ≤ 9223372036854775807
theorem keySegK (e n : Int) (he : I64 e) (hn : I64 n) : ∃ kl, keyOf Try.prog 40 (.agg #[.int .i64 e, .int .i64 n]) = some kl := by
  unfold I64 at he hn
  have h1 : (Lit.int .i64 e).wf = true := by simp [Lit.wf, IntKind.min, IntKind.max, IntKind.bits, IntKind.signed]; omega
  have h2 : (Lit.int .i64 n).wf = true := by simp [Lit.wf, IntKind.min, IntKind.max, IntKind.bits, IntKind.signed]; omega
  have hsz : ∀ s : Nat, 0 < s → ∃ m, s = m + 1 := fun s h => ⟨s - 1, by omega⟩
  obtain ⟨m, hm⟩ := hsz Try.prog.types.size (Nat.lt_of_le_of_lt (Nat.zero_le _) segK)
  have hk : Try.prog.keyType 40 = true := by kernel_rfl
  have hc : Try.prog.cellsOf 40 = 2 := by kernel_rfl
  have hc1 : Try.prog.cellsOf 3 = 1 := by kernel_rfl
  have hf : (Value.agg #[.int .i64 e, .int .i64 n]).formed Try.prog 40 = true := by simp [Value.formed, Try.underlying40, hc]
  unfold keyOf
  rw [Try.underlying40]
  simp only [hk, hf, Bool.and_self, if_true, hm]
  simp [Program.keyLits, Try.underlying40, Try.underlying3, hc, hc1, Value.cells, h1, h2]
abbrev OwnS (w : World) (q n : Nat) (D : DataW Unit) : Prop := w.ownsMap Try.prog 40 unitElem q n D
theorem ownKeptS {X Y : World} {S : List Nat} {q n : Nat} {D : DataW Unit} (h : OwnS X q n D) (k : Kp S X Y) (hq : q ∉ S) : OwnS Y q n D := by
  obtain ⟨es, cl, hb, r⟩ := h
  exact ⟨es, cl, (k.block q (Array.getElem?_eq_some_iff.1 hb).1 hq).trans hb, r⟩
/-- The map has just those segments of which something is held. -/
def MapS (D : DataW Unit) (L : List Hl) : Prop := ∀ (e n : Int) (kl : Lit), keyOf Try.prog 40 (.agg #[.int .i64 e, .int .i64 n]) = some kl → Maps.has D kl = heldS L ⟨e, n⟩
theorem MapS.nil : MapS (.map []) [] := fun e n kl _ => rfl
theorem MapS.put {D : DataW Unit} {L : List Hl} (h : MapS D L) (hD : Maps.IsMap D) {x : Hl} {kl : Lit} (hk : keyOf Try.prog 40 (.agg #[.int .i64 x.p, .int .i64 x.s]) = some kl) : MapS (D.put kl (.agg [])) (L ++ [x]) := fun e n kl' hk' => by
  rw [heldS_snoc]
  by_cases he : (x.p, x.s) = (e, n)
  · have e1 : x.p = e := congrArg Prod.fst he
    have e2 : x.s = n := congrArg Prod.snd he
    subst e1 e2
    rw [hk] at hk'
    cases hk'
    rw [Maps.has_put_same hD (lawSegK.key hk)]
    simp
  · have hne : kl' ≠ kl := fun e' => he (by
      rw [e'] at hk'
      have := lawSegK.inj hk hk'
      simp at this
      rw [this.1, this.2])
    rw [Maps.has_put_other hne, h e n kl' hk']
    simp [he]
theorem boxHl (w : World) (p s : Int) (a : Option Addr) (n c : Nat) : ∃ q W1 W2, w.heap.size = q ∧ w.alloc (.cells #[.int .i64 0, .int .i64 0, .slice none 0 0] 54) = W1 ∧ Bn W1 q [.int .i64 0, .int .i64 0, .slice none 0 0] ∧ ((W1.setCell ⟨q, 0, none⟩ (.int .i64 p)).setCell ⟨q, 1, none⟩ (.int .i64 s)).setCell ⟨q, 2, none⟩ (.slice a n c) = W2 ∧ Bn W2 q [.int .i64 p, .int .i64 s, .slice a n c] ∧ Kp [] w W2 := by
  have b0 := Bn.new w [.int .i64 0, .int .i64 0, .slice none 0 0] 54
  have k0 : Kp [] w (w.alloc (.cells #[.int .i64 0, .int .i64 0, .slice none 0 0] 54)) := (Kp.refl _ _).alloc _
  have h : w.heap.size ∈ ([] : List Nat) ∨ w.heap.size ≤ w.heap.size := .inr (Nat.le_refl _)
  exact ⟨_, _, _, rfl, rfl, b0, rfl, ((b0.set 0 (by simp) (.int .i64 p)).set 1 (by simp) (.int .i64 s)).set 2 (by simp) (.slice a n c), ((k0.setCell h _).setCell h _).setCell h _⟩
theorem boxSg (w : World) (p s : Int) : ∃ q W1 W2, w.heap.size = q ∧ w.alloc (.cells #[.int .i64 0, .int .i64 0] 40) = W1 ∧ Bn W1 q [.int .i64 0, .int .i64 0] ∧ (W1.setCell ⟨q, 0, none⟩ (.int .i64 p)).setCell ⟨q, 1, none⟩ (.int .i64 s) = W2 ∧ Bn W2 q [.int .i64 p, .int .i64 s] ∧ Kp [] w W2 := by
  have b0 := Bn.new w [.int .i64 0, .int .i64 0] 40
  have k0 : Kp [] w (w.alloc (.cells #[.int .i64 0, .int .i64 0] 40)) := (Kp.refl _ _).alloc _
  have h : w.heap.size ∈ ([] : List Nat) ∨ w.heap.size ≤ w.heap.size := .inr (Nat.le_refl _)
  exact ⟨_, _, _, rfl, rfl, b0, rfl, (b0.set 0 (by simp) (.int .i64 p)).set 1 (by simp) (.int .i64 s), (k0.setCell h _).setCell h _⟩
set_option maxHeartbeats 16000000 in
set_option maxRecDepth 100000 in
theorem cMissing (a b : Option Addr) (ca cb : Nat) (Wn : List Sgm) (H : List Hl) (w : World) (hs : SgE.See w a Wn) (ht : HlE.See w b H) (hl : Wn.length ≤ 9000000000000) (hm : H.length ≤ 9000000000000) (hr : ∀ x ∈ Wn, I64 x.p ∧ I64 x.s) (hr2 : ∀ x ∈ H, I64 x.p ∧ I64 x.s) :
    Calls Try.prog 10 #[.slice a Wn.length ca, .slice b H.length cb] w (CloneP SgE (misV Wn H) w) := by
  have HS := hid (And.intro hs ht)
  have HR := hid (And.intro hr hr2)
  obtain ⟨U, hU⟩ : ∃ U, Hid (misV Wn H = U) := ⟨_, hid rfl⟩
  rw [hU.out]
  obtain ⟨w1, hw1, k1⟩ : ∃ x, w.alloc (.map #[] 0) = x ∧ Kp [] w x := ⟨_, rfl, (Kp.refl _ _).alloc _⟩
  obtain ⟨qm, hqm⟩ : ∃ q, w.heap.size = q := ⟨_, rfl⟩
  have hmm : (Instr.makeMap 52 (some (.int .i64 (H.length : Int)))).run Try.prog w = .ok (.map (some w.heap.size)) (w.alloc (.map #[] 0)) := by simp [Instr.makeMap, run_underlying Try.underlying52, go_sem]
  rw [hw1, hqm] at hmm
  have own1 : OwnS w1 qm 0 (.map []) := by rw [← hw1, ← hqm]; exact World.ownsMap_made _ _ _ _
  have H0 : Hid (OwnS w1 qm 0 (.map []) ∧ MapS (.map []) (H.take 0) ∧ Kp [] w w1) := hid ⟨own1, MapS.nil, k1⟩
  have HQ := hid hqm
  clear hs ht hr hr2 own1 k1
  go_enter Try.func10, Try.ntmps10
  go_wp2_with fail
  go_loopw [18] (fun i wr => ∃ (j : Nat) (D : DataW Unit), j ≤ H.length ∧ i = .int .i64 (j : Int) ∧ Hid (OwnS wr qm j D ∧ MapS D (H.take j) ∧ Kp [] w wr)) (fun i _ => H.length - (intOf i).toNat)
  case atStart => exact ⟨0, _, Nat.zero_le _, rfl, H0⟩
  case round =>
    obtain ⟨j, D, hj, rfl, G⟩ := hrel
    clear H0
    by_cases hlt : j < H.length
    · obtain ⟨g, o, ea, x0, x1, x2⟩ := hlAt (HS.out.2.keptNew G.out.2.2) (i := j) (x := H[j]) (by simp [hlt])
      have hxr := hid (HR.out.2 H[j] (List.getElem_mem hlt))
      have htk : Hid (H.take (j + 1) = H.take j ++ [H[j]]) := hid (List.take_succ_eq_append_getElem hlt)
      obtain ⟨x, hx⟩ : ∃ x, Hid (H[j] = x) := ⟨H[j], hid rfl⟩
      rw [hx.out] at x0 x1 x2 hxr htk
      have hput := hid (fun kl hk => G.out.2.1.put G.out.1.isMap (x := x) (kl := kl) hk)
      obtain ⟨xp, xs, xa, xn, xc⟩ := x
      dsimp only at x0 x1 x2 hput
      obtain ⟨kl, hkl⟩ := keySegK xp xs hxr.out.1 hxr.out.2
      obtain ⟨q7, W1, W2, eq7, eW1, b1, eW2, b2, kW2⟩ := boxHl wr xp xs xa xn xc
      have m0 := b1.get 0 _ rfl; have m1 := b1.get 1 _ rfl; have m2 := b1.get 2 _ rfl
      have f0 := b1.free 0; have f1 := b1.free 1; have f2 := b1.free 2
      have v0 := b2.get 0 _ rfl; have v1 := b2.get 1 _ rfl; have v2 := b2.get 2 _ rfl
      have own2 : OwnS W2 qm j D := ownKeptS G.out.1 kW2 (by simp)
      have KW2 := hid (G.out.2.2.trans kW2 (by simp))
      have i1 : (0 : Int) ≤ (j : Int) := by omega
      have i2 : (j : Int) < (H.length : Int) := by omega
      have i3 : (j : Int) + 1 ≤ 9223372036854775807 := by omega
      have hval : unitElem (H := Unit) (.agg #[]) = some (.agg [], []) := unitElem_mk
      have hpt := hid (hput.out kl hkl)
      rw [← htk.out] at hpt
      subst ea
      clear b1 b2 kW2 hput
      go_wp2_with (first | (at_mapUpdate; refine wpList_mapUpdate_own _ rfl _ _ _ 52 rfl 40 55 lawSegK Try.underlying52 _ qm j _ rfl own2 (by unfold maxLen; omega) _ _ kl rfl rfl hkl _ [] hval ?_; intro w5 own5 hg5) | fail)
      have HF : Hid (OwnS w5 qm (j + 1) (D.put kl (.agg [])) ∧ MapS (D.put kl (.agg [])) (H.take (j + 1)) ∧ Kp [] w w5) := hid ⟨own5, hpt.out, KW2.out.trans (kpGrownU hg5) (fun x hx => .inr (by simp at hx; have := HQ.out; omega))⟩
      exact ⟨⟨j + 1, _, by omega, by go_num, HF⟩, by simp [intOf]; omega⟩
    · obtain ⟨w9, hw9⟩ : ∃ x, x = wr := ⟨_, rfl⟩
      subst hw9
      have hje : j = H.length := by omega
      have HM : Hid (OwnS w9 qm j D ∧ MapS D H ∧ Kp [] w w9) := hid ⟨G.out.1, by have h1 := G.out.2.1; rw [hje, List.take_length] at h1; exact h1, G.out.2.2⟩
      have dj1 : ¬ (j : Int) < (H.length : Int) := by omega
      have dj2 : decide ((j : Int) < (H.length : Int)) = false := by simp; omega
      have hqml : Hid (qm < w9.heap.size) := hid (World.ownsMap.lt HM.out.1)
      clear G hje
      go_wp2_with fail
      go_loopw [8, 29] (fun v8 i wr => ∃ (k : Nat) (ra : Option Addr) (rc : Nat) (M : List Sgm), k ≤ Wn.length ∧ i = .int .i64 (k : Int) ∧ v8 = .slice ra M.length rc ∧ Hid (M = misV (Wn.take k) H) ∧ Hid (GS w9 ra rc M wr ∧ OwnS wr qm j D)) (fun _ i _ => Wn.length - (intOf i).toNat)
      case atStart => exact ⟨0, none, 0, [], Nat.zero_le _, rfl, rfl, hid rfl, hid ⟨⟨.inl ⟨rfl, rfl⟩, Kp.refl _ _, by simp [blk]⟩, HM.out.1⟩⟩
      case round =>
        obtain ⟨k, ra, rc, M, hk, rfl, rfl, hlk, G⟩ := hrel
        have hMl : M.length ≤ k := by
          have h1 := congrArg List.length hlk.out
          have h2 := List.length_filter_le (fun x => !heldS H x) (Wn.take k)
          rw [List.length_take] at h2
          unfold misV at h1
          omega
        have KWr := hid (HM.out.2.2.trans G.out.1.2.1 (by simp))
        by_cases hlt : k < Wn.length
        · have hsn := hid (misV_snoc H hlt)
          rw [← hlk.out] at hsn
          obtain ⟨g, o, ea, x0, x1⟩ := sgAt (HS.out.1.keptNew KWr.out) (i := k) (x := Wn[k]) (by simp [hlt])
          have hxr := hid (HR.out.1 Wn[k] (List.getElem_mem hlt))
          obtain ⟨x, hx⟩ : ∃ x, Hid (Wn[k] = x) := ⟨Wn[k], hid rfl⟩
          rw [hx.out] at x0 x1 hsn hxr
          obtain ⟨xp, xs⟩ := x
          dsimp only at x0 x1
          obtain ⟨kl, hkl⟩ := keySegK xp xs hxr.out.1 hxr.out.2
          have hh := HM.out.2.1 xp xs kl hkl
          obtain ⟨q10, W1, W2, eq10, eW1, b1, eW2, b2, kW2⟩ := boxSg wr xp xs
          have m0 := b1.get 0 _ rfl; have m1 := b1.get 1 _ rfl
          have f0 := b1.free 0; have f1 := b1.free 1
          have v0 := b2.get 0 _ rfl; have v1 := b2.get 1 _ rfl
          have own2 : OwnS W2 qm j D := ownKeptS G.out.2 kW2 (by simp)
          obtain ⟨W3, eW3⟩ : ∃ Y, W2.alloc (.cells #[] 55) = Y := ⟨_, rfl⟩
          have k3 : Kp [] W2 W3 := by rw [← eW3]; exact (Kp.refl _ _).alloc _
          have b3 := b2.kept k3
          have u0 := b3.get 0 _ rfl; have u1 := b3.get 1 _ rfl
          have own3 : OwnS W3 qm j D := ownKeptS own2 k3 (by simp)
          have G3 := hid (G.out.1.kp (kW2.trans k3 (by simp)))
          have O3 := hid own3
          have i1 : (0 : Int) ≤ (k : Int) := by omega
          have i2 : (k : Int) < (Wn.length : Int) := by omega
          have i3 : (k : Int) + 1 ≤ 9223372036854775807 := by omega
          subst ea
          clear b1 b2 kW2 b3 k3
          cases hB : heldS H ⟨xp, xs⟩ with
          | true =>
            rw [hB] at hh
            have hn : Hid (M = misV (Wn.take (k + 1)) H) := hid (by rw [hsn.out, if_pos hB, List.append_nil])
            have HF : Hid (GS w9 ra rc M W3 ∧ OwnS W3 qm j D) := hid ⟨G3.out, O3.out⟩
            clear hsn hB
            go_wp2_with (first | (at_lookup; refine wpList_lookup_own_unit _ rfl _ _ 52 rfl 40 55 lawSegK Try.underlying52 (zeroUnit _) qm j D rfl own2 _ kl rfl hkl ?_; rw [hh]) | fail)
            go_roundw
            case rel => exact ⟨k + 1, ra, rc, M, by omega, by go_num, rfl, hn, HF⟩
            case measure => simp [intOf]; omega
          | false =>
            rw [hB] at hh
            have hn : Hid (M ++ [⟨xp, xs⟩] = misV (Wn.take (k + 1)) H) := hid (by rw [hsn.out, if_neg (by rw [hB]; simp)])
            obtain ⟨q8, hq8⟩ : ∃ q, W3.heap.size = q := ⟨_, rfl⟩
            obtain ⟨a4, c4, W4, hrun, hg4, k4⟩ := G3.out.app ⟨xp, xs⟩ q8 hq8 (by omega)
            obtain ⟨M4, hM4⟩ : ∃ M4, Hid (M ++ [(⟨xp, xs⟩ : Sgm)] = M4) := ⟨_, hid rfl⟩
            rw [hM4.out] at hrun hg4 hn
            dsimp only at hrun
            have HF : Hid (GS w9 a4 c4 M4 W4 ∧ OwnS W4 qm j D) := hid ⟨hg4, ownKeptS O3.out k4 (fun hm => by have h1 := G3.out.2.2 qm hm; have h2 := hqml.out; omega)⟩
            clear hsn hB hg4 k4
            go_wp2_with (first | (at_lookup; refine wpList_lookup_own_unit _ rfl _ _ 52 rfl 40 55 lawSegK Try.underlying52 (zeroUnit _) qm j D rfl own2 _ kl rfl hkl ?_; rw [hh]) | (refine wpAppRun rfl _ _ 37 37 rfl _ _ _ rfl rfl hrun ?_) | fail)
            go_roundw
            case rel => exact ⟨k + 1, a4, c4, M4, by omega, by go_num, rfl, hn, HF⟩
            case measure => simp [intOf]; omega
        · obtain rfl : k = Wn.length := by omega
          have hfin : Hid (M = U) := hid (by have := hlk.out; rw [List.take_length] at this; rw [← hU.out]; exact this)
          clear hMl
          go_wp2_with fail
          go_ret
          rw [← hfin.out]
          exact ⟨ra, rc, rfl, G.out.1.1, KWr.out, fun k hk => Nat.le_trans HM.out.2.2.size (G.out.1.2.2 k hk)⟩
end Go.Proofs.Ytebkkdoggagcdab
end

section
namespace Go.Proofs.Ytebkkdoggagcdab
open Go.RowKit Go.Hay
attribute [local go_sem] Oper.semAt_some
set_option linter.unusedVariables false
set_option linter.unusedSimpArgs false

theorem Like.one {M : List Vn} {x : Vn} (h : Like M [x]) : ∃ a, M = [a] ∧ a.p = x.p := by
  obtain ⟨y, s, rfl, e, h'⟩ := Like.cons h.symm
  rw [Like.nil h']
  exact ⟨y, rfl, e.symm⟩
theorem Like.two {M : List Vn} {x y : Vn} (h : Like M [x, y]) : ∃ a b, M = [a, b] ∧ a.p = x.p ∧ b.p = y.p := by
  obtain ⟨z, s, rfl, e, h'⟩ := Like.cons h.symm
  obtain ⟨b, rfl, e2⟩ := Like.one h'.symm
  exact ⟨z, b, rfl, e.symm, e2⟩
abbrev alV0 : Vn := ⟨2, 0, none, 0, [], 0⟩
abbrev alV1 : Vn := ⟨1, 0, none, 0, [], 3⟩
abbrev alU0 : Vn := ⟨1, 0, none, 0, [], 0⟩
theorem al_upto : uptoV [alV0, alV1] 2 = [alU0, alV0] := by rfl
theorem al_chg : chgV [alV0, alV1] 2 3 = [alV1] := by rfl
theorem al_mrg : (mrgV [alU0, alV0] [alV1]).length = 2 := by rfl
theorem al_mis : misV [⟨1, 0⟩] [] = [⟨1, 0⟩] := by rfl
theorem Lvn.at0 {N : Nat} {ra : Option Addr} {rc : Nat} {x : Vn} {L : List Vn} {W : World} (h : Lvn N ra rc (x :: L) W) : ∃ g o, ra = some ⟨g, o, none⟩ ∧ ∀ W', Kp [] W W' → W'.cell? ⟨g, o, none⟩ = some (.int .u64 x.ep) ∧ W'.cell? ⟨g, o + 3, none⟩ = some (.int .u64 x.del) := by
  obtain ⟨g, o, e, c0, c1, c2, c3⟩ := idAt h.see (i := 0) (x := x) rfl
  rw [Nat.zero_mul, Nat.add_zero] at c0 c3
  exact ⟨g, o, e, fun W' k => ⟨kpAt k c0, kpAt k c3⟩⟩
set_option maxHeartbeats 16000000 in
set_option maxRecDepth 100000 in
theorem cAliveR (w : World) : Calls Try.prog 5 #[] w fun e w' => e = .returned (.bool true) ∧ Kp [] w w' := by
  obtain ⟨w1, hw1, k1, b1⟩ : ∃ x, w.alloc (.cells #[.int .u64 2, .int .u32 0, .slice none 0 0, .int .u64 0, .int .u64 1, .int .u32 0, .slice none 0 0, .int .u64 3] 29) = x ∧ Kp [] w x ∧ Bn x w.heap.size (VnE.cs [alV0, alV1]) := ⟨_, rfl, (Kp.refl _ _).alloc _, Bn.new w _ _⟩
  obtain ⟨q, hq⟩ : ∃ q, w.heap.size = q := ⟨_, rfl⟩
  rw [hq] at b1
  have hsee : VnE.See w1 (some ⟨q, 0, none⟩) [alV0, alV1] := .inr ⟨q, 0, rfl, fun j u hu => by rw [Nat.zero_add]; exact b1.get j u hu⟩
  have hok : ∀ W, ∀ x ∈ [alV0, alV1], VnOk W x := fun W x hx => by
    rcases List.mem_cons.1 hx with rfl | hx
    · exact ⟨.inl rfl, Nat.le_refl _, fun _ => rfl, by decide⟩
    · rw [List.mem_singleton.1 hx]; exact ⟨.inl rfl, Nat.le_refl _, fun _ => rfl, by decide⟩
  have cU := hid (fun W (k : Kp [] w1 W) => cUpto (some ⟨q, 0, none⟩) 2 [alV0, alV1] 2 W (hsee.keptNew k) (fun e => by cases e) (by decide) (hok W))
  have cC := hid (fun W (k : Kp [] w1 W) => cChanges (some ⟨q, 0, none⟩) 2 [alV0, alV1] 2 3 W (hsee.keptNew k) (fun e => by cases e) (by decide) (hok W))
  rw [al_upto] at cU
  rw [al_chg] at cC
  simp only [List.length_cons, List.length_nil, Nat.reduceAdd] at cU cC
  have K1 := hid k1
  have cU1 := hid (cU.out w1 (Kp.refl _ _))
  clear k1 b1 hsee hok cU
  go_enter Try.func5, Try.ntmps5
  go_wp2_with fail
  refine cU1.out.mono ?_
  rintro e w2 ⟨ra, rc, M, rfl, hlv, hlk, k2⟩
  obtain ⟨m0, m1, rfl, e0, e1⟩ := Like.two hlk
  have HL := hid hlv
  have K2 := hid k2
  have cC2 := hid (cC.out w2 k2)
  clear cU1 cC hlv hlk k2
  simp only [List.length_cons, List.length_nil, Nat.reduceAdd]
  go_wp2_with fail
  refine cC2.out.mono ?_
  rintro e w3 ⟨rb, rd, N, rfl, hlv3, hlk3, k3⟩
  obtain ⟨n0, rfl, e3⟩ := Like.one hlk3
  have K3 := hid (K2.out.trans k3 (by simp))
  have HL2 := hid (HL.out.kp k3)
  obtain ⟨g, o, rfl, hA⟩ := HL2.out.at0
  obtain ⟨g2, o2, rfl, hB⟩ := hlv3.at0
  obtain ⟨x0, x3⟩ := hA w3 (Kp.refl _ _)
  obtain ⟨y0, y3⟩ := hB w3 (Kp.refl _ _)
  rw [show m0.ep = 1 from p_ep e0] at x0
  rw [show m0.del = 0 from p_del e0] at x3
  rw [show n0.del = 3 from p_del e3] at y3
  have hR : ∀ x ∈ [m0, m1] ++ [n0], VnR x := fun x hx => by
    simp at hx
    rcases hx with rfl | rfl | rfl
    · exact ⟨by rw [show x.ep = 1 from p_ep e0]; omega, by rw [show x.num = 0 from p_num e0]; omega, by rw [show x.del = 0 from p_del e0]; omega⟩
    · exact ⟨by rw [show x.ep = 2 from p_ep e1]; omega, by rw [show x.num = 0 from p_num e1]; omega, by rw [show x.del = 0 from p_del e1]; omega⟩
    · exact ⟨by rw [show x.ep = 1 from p_ep e3]; omega, by rw [show x.num = 0 from p_num e3]; omega, by rw [show x.del = 3 from p_del e3]; omega⟩
  have cM := hid (cMerged (some ⟨g, o, none⟩) (some ⟨g2, o2, none⟩) rc rd [m0, m1] [n0] w3 HL2.out.see (fun e => by cases e) hlv3.see (fun e => by cases e) (by simp) (fun x hx => by
    rcases List.mem_append.1 hx with hx | hx
    · exact HL2.out.ok x hx
    · exact hlv3.ok x hx) hR)
  have hml : Hid (∀ M : List Vn, Like M (mrgV [m0, m1] [n0]) → M.length = 2) := hid fun M h => by
    have h1 : Like (mrgV [m0, m1] [n0]) (mrgV [alU0, alV0] [alV1]) := mrg_like (Like.mk e0 (Like.mk e1 rfl)) (Like.mk e3 rfl)
    rw [h.len, h1.len, al_mrg]
  simp only [List.length_cons, List.length_nil, Nat.reduceAdd] at cM
  clear cC2 hlv3 hlk3 k3 hA hB hR e0 e1 e3
  simp only [List.length_cons, List.length_nil, Nat.reduceAdd]
  go_wp2_with fail
  refine cM.out.mono ?_
  rintro e w4 ⟨rm, rmc, MM, rfl, hlv4, hlk4, k4⟩
  have hmm := hml.out MM hlk4
  have K4 := hid (K3.out.trans k4 (by simp))
  obtain ⟨w5, hw5, k5, b5⟩ : ∃ x, w4.alloc (.cells #[.int .i64 1, .int .i64 0] 40) = x ∧ Kp [] w4 x ∧ Bn x w4.heap.size (SgE.cs [⟨1, 0⟩]) := ⟨_, rfl, (Kp.refl _ _).alloc _, Bn.new w4 _ _⟩
  obtain ⟨q5, hq5⟩ : ∃ q, w4.heap.size = q := ⟨_, rfl⟩
  rw [hq5] at b5
  have hsee5 : SgE.See w5 (some ⟨q5, 0, none⟩) [⟨1, 0⟩] := .inr ⟨q5, 0, rfl, fun j u hu => by rw [Nat.zero_add]; exact b5.get j u hu⟩
  have cS := hid (cMissing (some ⟨q5, 0, none⟩) none 1 0 [⟨1, 0⟩] [] w5 hsee5 (.inl rfl) (by decide) (by decide) (fun x hx => by rw [List.mem_singleton.1 hx]; exact ⟨⟨by decide, by decide⟩, ⟨by decide, by decide⟩⟩) (by simp))
  rw [al_mis] at cS
  simp only [List.length_cons, List.length_nil, Nat.reduceAdd] at cS
  have K5 := hid (K4.out.trans k5 (by simp))
  clear cM hml hlv4 hlk4 k4 k5 b5 hsee5 x0 x3 y0 y3
  rw [hmm]
  go_wp2_with fail
  refine cS.out.mono ?_
  rintro e w6 ⟨rs, rsc, rfl, hrs, k6, _⟩
  have K6 := hid ((K1.out.trans K5.out (by simp)).trans k6 (by simp))
  clear cS hrs k6
  simp only [List.length_cons, List.length_nil, Nat.reduceAdd]
  go_wp2_with fail
  go_ret
  exact ⟨rfl, K6.out⟩
end Go.Proofs.Ytebkkdoggagcdab
end

section
namespace Go.Proofs.Ytebkkdoggagcdab
open Go.RowKit Go.Hay
attribute [local go_sem] Oper.semAt_some
set_option linter.unusedVariables false
set_option linter.unusedSimpArgs false

theorem put_same : ∀ {l : List Vn}, Srt l → ∀ {i : Int × Int} {x : Vn}, lk l i = some x → ∀ v : Vn, l.take (kOf l i) ++ v :: l.drop (kOf l i + 1) = l.map (fun z => if z.id = i then v else z)
  | [], _, i, x, h, v => by cases h
  | y :: l, hs, i, x, h, v => by
    have hs' := List.pairwise_cons.1 hs
    rw [kOf_cons]
    by_cases hy : ltI y.id i = true
    · rw [if_pos hy, List.map_cons, if_neg (ltI_ne hy)]
      rw [lk_cons, if_neg (ltI_ne hy)] at h
      rw [← put_same hs'.2 h v]
      rfl
    · have hy' : ltI y.id i = false := by simpa using hy
      rw [if_neg hy, kOf_zero hs hy']
      have hyi : y.id = i := by
        by_cases e : y.id = i
        · exact e
        · rw [lk_cons, if_neg e] at h
          have := hs'.1 x (lk_mem h)
          rw [lk_id h, hy'] at this
          cases this
      rw [List.map_cons, if_pos hyi]
      have : l.map (fun z => if z.id = i then v else z) = l := by
        conv => rhs; rw [← List.map_id l]
        apply List.map_congr_left
        intro z hz
        have h1 := hs'.1 z hz
        rw [hyi] at h1
        show (if z.id = i then v else z) = z
        rw [if_neg (fun e => (ltI_ne h1) e.symm)]
      rw [this]
      rfl
theorem stMg_put {o : List Vn} (hs : Srt o) {y x : Vn} (h : lk o y.id = some x) (hd : x.del = 0) : stMg o y = o.take (kOf o y.id) ++ erased x y.del :: o.drop (kOf o y.id + 1) := by
  rw [put_same hs h (erased x y.del)]
  unfold stMg
  rw [h]
  dsimp only
  rw [if_pos hd]
  apply List.map_congr_left
  intro z hz
  by_cases e : z.id = y.id
  · rw [if_pos e, if_pos e]
    have := srt_lk hs hz
    rw [e, h] at this
    cases this
    rfl
  · rw [if_neg e, if_neg e]
theorem lk_at {l : List Vn} (hs : Srt l) {i : Int × Int} {x : Vn} (h : lk l i = some x) : l[kOf l i]? = some x := by
  obtain ⟨y, hy, e⟩ := has_at hs i (by rw [has_lk, h]; rfl)
  have := srt_lk hs (List.mem_of_getElem? hy)
  rw [e, h] at this
  cases this
  exact hy
theorem once_snoc {l : List Vn} {j : Nat} (h : j < l.length) : onceV (l.take (j + 1)) = stO (onceV (l.take j)) l[j] := by
  rw [List.take_succ_eq_append_getElem h, onceV_snoc]
theorem has_bool (o : List Vn) (i : Int × Int) (r : Int) (hs : Srt o) (h : PlcP o i r) : decide (r < 0) = !hasV o i ∧ -1 ≤ r ∧ r ≤ o.length := by
  cases e : hasV o i with
  | false => rw [h.no e]; exact ⟨rfl, by omega, by omega⟩
  | true =>
    rw [h.yes hs e]
    have := kOf_le o i
    exact ⟨by simp, by omega, by omega⟩
theorem uptoR_snoc (e : Int) {O : List Vn} {j : Nat} (h : j < O.length) : ((O.take (j + 1)).filter (epL e)).map (asV e) = ((O.take j).filter (epL e)).map (asV e) ++ (if epL e O[j] = true then [asV e O[j]] else []) := by
  rw [List.take_succ_eq_append_getElem h, List.filter_append, List.map_append]
  congr 1
  by_cases c : epL e O[j] = true <;> simp [c]
/-- How a gathering of versions stands, as they are. -/
def GR (w : World) (ra : Option Addr) (rc : Nat) (O : List Vn) (W : World) : Prop := VnE.Row W (.slice ra O.length rc) O ∧ Kp [] w W ∧ ∀ k ∈ blk ra, w.heap.size ≤ k
theorem GR.kp {w : World} {ra : Option Addr} {rc : Nat} {O : List Vn} {W W' : World} (h : GR w ra rc O W) (k : Kp [] W W') : GR w ra rc O W' := ⟨h.1.keptNew k, h.2.1.trans k (by simp), h.2.2⟩
theorem GR.app {w : World} {ra : Option Addr} {rc : Nat} {L : List Vn} {W : World} (h : GR w ra rc L W) (x : Vn) (q : Nat) (hq : W.heap.size = q) (hL : L.length ≤ 4000000000002) :
    ∃ a' c' w', (Builtin.append_ #[22, 22] 22 #[.slice ra L.length rc, .slice (some ⟨q, 0, none⟩) 1 1]).run Try.prog (W.alloc (.cells #[.int .u64 x.ep, .int .u32 x.num, .slice x.a x.row.length x.c, .int .u64 x.del] 29)) = .ok (.slice a' (L ++ [x]).length c') w' ∧ GR w a' c' (L ++ [x]) w' := by
  obtain ⟨a', c', w', hrun, hr, hk, hn⟩ := appV W L ra rc x q hq h.1 hL
  exact ⟨a', c', w', hrun, hr, h.2.1.trans hk (fun x hx => .inr (h.2.2 x hx)), fun k hk' => by
    rcases hn k hk' with e | e
    · exact h.2.2 k e
    · exact Nat.le_trans h.2.1.size e⟩
theorem chgF_snoc2 (s : Int) {O : List Vn} {j : Nat} (h : j < O.length) : chgF s (O.take (j + 1)) = chgF s (O.take j) ++ (if behS s O[j] = true then [O[j]] else []) := by
  rw [List.take_succ_eq_append_getElem h]
  unfold chgF
  rw [List.filter_append]
  by_cases c : behS s O[j] = true <;> simp [c]
theorem foldM_snoc (o : List Vn) {m : List Vn} {j : Nat} (h : j < m.length) : (m.take (j + 1)).foldl stMg o = stMg ((m.take j).foldl stMg o) m[j] := by
  rw [List.take_succ_eq_append_getElem h, List.foldl_append]
  rfl
end Go.Proofs.Ytebkkdoggagcdab
end

section
namespace Go.Hay
open Go.RowKit
set_option linter.unusedVariables false
set_option linter.unusedSimpArgs false

theorem as_del (e : Int) (x : Vn) : (asV e x).del = if e < x.del then 0 else x.del := by unfold asV; split <;> rfl
theorem as_ep (e : Int) (x : Vn) : (asV e x).ep = x.ep := by unfold asV; split <;> rfl
theorem era_id (x : Vn) (d : Int) : (erased x d).id = x.id := rfl
/-- One step. -/
theorem catch_one (l : List Vn) {s u : Int} (h : s ≤ u) : mrgV (uptoV l s) (chgV l s u) = uptoV l u := by
  refine srt_eq (mrg_srt _ _) (upto_srt _ _) fun i => ?_
  rw [mrg_lkM, upto_lk, upto_lk, chg_lk]
  cases lk l i with
  | none => rfl
  | some x =>
    simp only [Option.filter_some]
    by_cases h1 : x.ep ≤ s
    · have h2 : x.ep ≤ u := by omega
      rw [if_pos (show epL s x = true from decide_eq_true h1), if_pos (show epL u x = true from decide_eq_true h2)]
      simp only [Option.map_some, Option.filter_some]
      have hb : behS s (asV u x) = decide (s < (asV u x).del) := by
        unfold behS
        rw [as_ep]
        simp; omega
      rw [hb, as_del]
      by_cases h3 : x.del ≤ s
      · have e1 : asV s x = x := by unfold asV; rw [if_neg (by omega)]
        have e2 : asV u x = x := by unfold asV; rw [if_neg (by omega)]
        rw [e1, e2, if_neg (show ¬ u < x.del by omega), if_neg (by simpa using h3)]
      · have e1 : asV s x = erased x 0 := by unfold asV; rw [if_pos (by omega)]
        rw [e1]
        by_cases h4 : u < x.del
        · have e2 : asV u x = erased x 0 := by unfold asV; rw [if_pos h4]
          rw [e2, if_pos h4]
          by_cases h5 : s < 0
          · rw [if_pos (by simpa using h5)]; rfl
          · rw [if_neg (by simpa using h5)]
        · have e2 : asV u x = x := by unfold asV; rw [if_neg h4]
          rw [e2, if_neg h4, if_pos (by simp; omega)]
          rfl
    · rw [if_neg (show ¬ epL s x = true by unfold epL; simpa using h1)]
      by_cases h2 : x.ep ≤ u
      · rw [if_pos (show epL u x = true from decide_eq_true h2)]
        simp only [Option.map_some, Option.map_none, Option.filter_some]
        rw [if_pos (by unfold behS; rw [as_ep]; simp; omega)]
      · rw [if_neg (show ¬ epL u x = true by unfold epL; simpa using h2)]
        rfl
/-- Who has nothing gets it whole. -/
theorem catch_whole (l : List Vn) (u : Int) (h0 : ∀ x ∈ l, 0 ≤ x.ep) (h : ∀ x ∈ uptoV l u, x.ep ≠ 0) : mrgV [] (chgV l 0 u) = uptoV l u := by
  refine srt_eq (mrg_srt _ _) (upto_srt _ _) fun i => ?_
  rw [mrg_lkM, chg_lk, ← upto_lk, lk_nil]
  cases hx : lk (uptoV l u) i with
  | none => rfl
  | some y =>
    have h1 := h y (lk_mem hx)
    have h2 : 0 ≤ y.ep := by
      rw [upto_lk] at hx
      cases hz : lk l i with
      | none => rw [hz] at hx; simp at hx
      | some z =>
        rw [hz] at hx
        simp only [Option.filter_some] at hx
        split at hx
        · simp at hx
          rw [← hx, as_ep]
          exact h0 z (lk_mem hz)
        · simp at hx
    have hb : behS 0 y = true := by unfold behS; simp; omega
    simp [Option.filter, hb]
/-- No name comes twice. -/
def Uq (l : List Vn) : Prop := l.Pairwise fun x y => x.id ≠ y.id
theorem uq_filter {l : List Vn} (hs : Uq l) (f : Vn → Bool) (i : Int × Int) : lk (l.filter f) i = (lk l i).filter f := by
  induction l with
  | nil => rfl
  | cons x l ih =>
    have hs' := List.pairwise_cons.1 hs
    have ih := ih hs'.2
    rw [List.filter_cons, lk_cons]
    by_cases e : x.id = i
    · rw [if_pos e]
      by_cases hf : f x = true
      · rw [if_pos hf, lk_cons, if_pos e]; simp [Option.filter, hf]
      · rw [if_neg hf, ih]
        have h1 : lk l i = none := lk_none.2 fun z hz e2 => hs'.1 z hz (e.trans e2.symm)
        rw [h1]; simp [Option.filter, hf]
    · rw [if_neg e]
      by_cases hf : f x = true
      · rw [if_pos hf, lk_cons, if_neg e, ih]
      · rw [if_neg hf, ih]
theorem uq_rev {l : List Vn} (hs : Uq l) (i : Int × Int) : lk l.reverse i = lk l i := by
  induction l with
  | nil => rfl
  | cons x l ih =>
    have hs' := List.pairwise_cons.1 hs
    rw [List.reverse_cons, lk_append, ih hs'.2, lk_cons, lk_cons, lk_nil]
    by_cases e : x.id = i
    · have h1 : lk l i = none := lk_none.2 fun z hz e2 => hs'.1 z hz (e.trans e2.symm)
      rw [h1, if_pos e]; rfl
    · rw [if_neg e, if_neg e]; simp
/-- The first of each name, as they came. -/
def stF (o : List Vn) (x : Vn) : List Vn := if hasV o x.id = true then o else o ++ [x]
def firstV (l : List Vn) : List Vn := l.foldl stF []
theorem firstV_snoc (l : List Vn) (x : Vn) : firstV (l ++ [x]) = stF (firstV l) x := by unfold firstV; rw [List.foldl_append]; rfl
theorem foldF_ok : ∀ (l o : List Vn), Uq o → Uq (l.foldl stF o) ∧ (∀ i, lk (l.foldl stF o) i = (lk o i).or (lk l i)) ∧ (l.foldl stF o).length ≤ o.length + l.length ∧ ∀ x ∈ l.foldl stF o, x ∈ o ∨ x ∈ l
  | [], o, h => ⟨h, fun i => by simp [lk_nil], by simp, fun x hx => .inl hx⟩
  | x :: l, o, h => by
    rw [List.foldl_cons]
    have hs : Uq (stF o x) ∧ (∀ i, lk (stF o x) i = (lk o i).or (lk [x] i)) ∧ (stF o x).length ≤ o.length + 1 ∧ ∀ z ∈ stF o x, z ∈ o ∨ z = x := by
      unfold stF
      by_cases e : hasV o x.id = true
      · rw [if_pos e]
        refine ⟨h, fun i => ?_, by omega, fun z hz => .inl hz⟩
        rw [lk_cons]
        by_cases ei : x.id = i
        · subst ei
          rw [has_lk] at e
          obtain ⟨y, hy⟩ := Option.isSome_iff_exists.1 e
          rw [hy]; rfl
        · rw [if_neg ei, lk_nil]; simp
      · have e' : hasV o x.id = false := by simpa using e
        rw [if_neg e]
        refine ⟨?_, fun i => lk_append _ _ _, by simp, fun z hz => ?_⟩
        · unfold Uq
          rw [List.pairwise_append]
          refine ⟨h, by simp, fun a ha b hb => ?_⟩
          rw [List.mem_singleton.1 hb]
          exact hasNot_at _ e' a ha
        · rcases List.mem_append.1 hz with hz | hz
          · exact .inl hz
          · exact .inr (by simpa using hz)
    obtain ⟨h1, h2, h3, h4⟩ := foldF_ok l (stF o x) hs.1
    refine ⟨h1, fun i => ?_, by simp only [List.length_cons]; omega, fun z hz => ?_⟩
    · rw [h2 i, hs.2.1 i, show x :: l = [x] ++ l from rfl, lk_append]
      cases lk o i <;> rfl
    · rcases h4 z hz with hz | hz
      · rcases hs.2.2.2 z hz with hz | hz
        · exact .inl hz
        · exact .inr (by rw [hz]; exact List.mem_cons_self ..)
      · exact .inr (List.mem_cons_of_mem _ hz)
theorem first_uq (l : List Vn) : Uq (firstV l) := (foldF_ok l [] List.Pairwise.nil).1
theorem first_lk (l : List Vn) (i : Int × Int) : lk (firstV l) i = lk l i := by rw [show firstV l = l.foldl stF [] from rfl, (foldF_ok l [] List.Pairwise.nil).2.1 i]; rfl
theorem first_len (l : List Vn) : (firstV l).length ≤ l.length := by have := (foldF_ok l [] List.Pairwise.nil).2.2.1; simpa [firstV] using this
theorem first_mem {l : List Vn} {x : Vn} (h : x ∈ firstV l) : x ∈ l := by
  rcases (foldF_ok l [] List.Pairwise.nil).2.2.2 x h with h | h
  · cases h
  · exact h
/-- Deleted behind the epoch at which it came, or not at all. -/
def rgt (x : Vn) : Bool := decide (x.del = 0) || decide (x.ep < x.del)
def rightV (l : List Vn) : Bool := l.all rgt
theorem purge_chg {f : List Vn} (hu : Uq f) (hr : rightV f = true) {mark s : Int} (u : Int) (h : mark ≤ s) (h0 : 0 ≤ s) : chgV (purV mark f) s u = chgV f s u := by
  refine srt_eq (chg_srt _ _ _) (chg_srt _ _ _) fun i => ?_
  rw [chg_lk, chg_lk]
  unfold purV
  rw [uq_filter hu]
  cases hx : lk f i with
  | none => rfl
  | some x =>
    simp only [Option.filter_some]
    by_cases hst : stays mark x = true
    · rw [if_pos hst]
      simp only [Option.filter_some]
    · rw [if_neg hst]
      have hrx := List.all_eq_true.1 hr x (lk_mem hx)
      unfold stays at hst
      unfold rgt at hrx
      simp at hst hrx
      have h1 : ¬ u < x.del ∨ u < x.del := by omega
      by_cases he : x.ep ≤ u
      · rw [if_pos (show epL u x = true from decide_eq_true he)]
        have hb : behS s (asV u x) = false := by
          unfold behS
          rw [as_ep, as_del]
          simp
          refine ⟨by omega, ?_⟩
          split <;> omega
        simp [Option.filter, hb]
      · rw [if_neg (show ¬ epL u x = true by unfold epL; simpa using he)]
        rfl
theorem mrg_again (h m : List Vn) : mrgV (mrgV h m) m = mrgV h m := by
  refine srt_eq (mrg_srt _ _) (mrg_srt _ _) fun i => ?_
  rw [mrg_lkM, mrg_lkM]
  cases lk h i with
  | none =>
    cases lk m i with
    | none => rfl
    | some y =>
      dsimp only
      by_cases hd : y.del = 0
      · rw [if_pos hd, hd, era0 y hd]
      · rw [if_neg hd]
  | some x =>
    cases lk m i with
    | none => rfl
    | some y =>
      dsimp only
      by_cases hd : x.del = 0
      · rw [if_pos hd]
        have e : (erased x y.del).del = y.del := rfl
        by_cases hy : y.del = 0
        · rw [if_pos (by rw [e]; exact hy), hy]; rfl
        · rw [if_neg (by rw [e]; exact hy)]
      · rw [if_neg hd, if_neg hd]
/-- Changes in two orders, where they say alike of each name. -/
theorem mrg_comm (h m o : List Vn) (hmo : ∀ i x y, lk m i = some x → lk o i = some y → x.p = y.p) : Like (mrgV (mrgV h m) o) (mrgV (mrgV h o) m) := by
  refine srt_like (mrg_srt _ _) (mrg_srt _ _) fun i => ?_
  rw [mrg_lkM, mrg_lkM, mrg_lkM, mrg_lkM]
  have H := hmo i
  cases lk h i with
  | none =>
    cases e1 : lk m i with
    | none => cases e2 : lk o i <;> rfl
    | some x =>
      cases e2 : lk o i with
      | none => rfl
      | some y =>
        have hp := H x y e1 e2
        have hd := p_del hp
        dsimp only
        by_cases h0 : x.del = 0
        · rw [if_pos h0, if_pos (by omega), ← hd, h0, era0 x h0, era0 y (by omega)]
          simp [hp]
        · rw [if_neg h0, if_neg (by omega)]
          simp [hp]
  | some z =>
    cases e1 : lk m i with
    | none => cases e2 : lk o i <;> rfl
    | some x =>
      cases e2 : lk o i with
      | none => rfl
      | some y =>
        have hd := p_del (H x y e1 e2)
        dsimp only
        by_cases h0 : z.del = 0
        · rw [if_pos h0, if_pos h0]
          have ea : (erased z x.del).del = x.del := rfl
          have eb : (erased z y.del).del = y.del := rfl
          by_cases hx : x.del = 0
          · rw [if_pos (by rw [ea]; exact hx), if_pos (by rw [eb]; omega)]
            simp [erased, hd]
          · rw [if_neg (by rw [ea]; exact hx), if_neg (by rw [eb]; omega), hd]
        · rw [if_neg h0, if_neg h0, if_neg h0]
theorem upto_of_lk {l m : List Vn} (h : ∀ i, lk l i = lk m i) (e : Int) : uptoV l e = uptoV m e := srt_eq (upto_srt _ _) (upto_srt _ _) fun i => by rw [upto_lk, upto_lk, h]
theorem chg_of_lk {l m : List Vn} (h : ∀ i, lk l i = lk m i) (s e : Int) : chgV l s e = chgV m s e := srt_eq (chg_srt _ _ _) (chg_srt _ _ _) fun i => by rw [chg_lk, chg_lk, h]
theorem mrg_of_lk {a b c d : List Vn} (h : ∀ i, lk a i = lk b i) (k : ∀ i, lk c i = lk d i) : mrgV a c = mrgV b d := srt_eq (mrg_srt _ _) (mrg_srt _ _) fun i => by rw [mrg_lkM, mrg_lkM, h, k]
end Go.Hay
end

section
namespace Go.Proofs.Ytebkkdoggagcdab
open Go.RowKit Go.Hay
attribute [local go_sem] Oper.semAt_some
set_option linter.unusedVariables false
set_option linter.unusedSimpArgs false

theorem VnOk.asV {w : World} {x : Vn} (h : VnOk w x) (e : Int) : VnOk w (asV e x) := by
  unfold Go.Hay.asV
  split
  · exact h.era 0
  · exact h
theorem upto_ok {w : World} {l : List Vn} (h : ∀ x ∈ l, VnOk w x) (e : Int) : ∀ x ∈ uptoV l e, VnOk w x := fun x hx => by
  unfold uptoV at hx
  obtain ⟨y, hy, rfl⟩ := List.mem_map.1 hx
  exact (h y (once_mem (List.mem_filter.1 hy).1)).asV e
theorem chg_ok {w : World} {l : List Vn} (h : ∀ x ∈ l, VnOk w x) (s e : Int) : ∀ x ∈ chgV l s e, VnOk w x := fun x hx => upto_ok h e x (beh_sub hx)
theorem mrg_ok {w : World} {l m : List Vn} (h : ∀ x ∈ l ++ m, VnOk w x) : ∀ x ∈ mrgV l m, VnOk w x := fun x hx => by
  unfold mrgV at hx
  obtain ⟨y, hy, rfl⟩ := List.mem_map.1 hx
  have := h y (once_mem hy)
  unfold mrgG
  split
  · exact this.era _
  · exact this
/-- The blocks of rows. -/
def rowsB (L : List Vn) : List Nat := L.flatMap fun x => blk x.a
theorem mem_rowsB {L : List Vn} {k : Nat} : k ∈ rowsB L ↔ ∃ x ∈ L, k ∈ blk x.a := by unfold rowsB; rw [List.mem_flatMap]
/-- The rows may be written over. -/
def WrOk (L : List Vn) (W : World) : Prop := ∀ x ∈ L, ∀ g o, x.a = some ⟨g, o, none⟩ → ∀ j, j < x.row.length * 4 → (W.cell? ⟨g, o + j, none⟩).isSome = true ∧ W.frozen? ⟨g, o + j, none⟩ = false
theorem WrOk.of {N : Nat} {ra : Option Addr} {rc : Nat} {L : List Vn} {W : World} (h : Lvn N ra rc L W) : WrOk L W := fun x hx g o e j hj => by
  obtain ⟨h1, _, _⟩ := h.rows x hx
  rcases h1 with ⟨e1, _⟩ | ⟨g', o', cap, e1, hl, hm, hg, hc, ht⟩
  · rw [e] at e1; cases e1
  · rw [e] at e1
    simp only [Value.slice.injEq, Option.some.injEq, Addr.mk.injEq] at e1
    obtain ⟨⟨rfl, rfl, _⟩, _, rfl⟩ := e1
    have e4 : VE.n = 4 := rfl
    exact ht j (by rw [e4]; omega)
theorem WrOk.kp {L : List Vn} {W W' : World} (h : WrOk L W) (k : Kp [] W W') : WrOk L W' := fun x hx g o e j hj => by
  obtain ⟨h1, h2⟩ := h x hx g o e j hj
  obtain ⟨u, hu⟩ := Option.isSome_iff_exists.1 h1
  have hl : g < W.heap.size := World.block_lt_of_cell? _ _ hu
  exact ⟨by rw [kpAt k hu]; rfl, (k.frozen (p := ⟨g, o + j, none⟩) hl (by simp)).trans h2⟩
theorem WrOk.set {L : List Vn} {W : World} (h : WrOk L W) (p : Addr) (v : Value) : WrOk L (W.setCell p v) := fun x hx g o e j hj => by
  obtain ⟨h1, h2⟩ := h x hx g o e j hj
  refine ⟨?_, by rw [World.frozen?_setCell]; exact h2⟩
  by_cases ep : p = ⟨g, o + j, none⟩
  · subst ep
    obtain ⟨u, hu⟩ := Option.isSome_iff_exists.1 h1
    rw [World.cell?_setCell_same _ _ _ hu]; rfl
  · rw [World.cell?_setCell_other _ _ _ _ (fun e2 => ep (by first | exact e2 | exact e2.symm))]
    exact h1
theorem Lvn.lo {N : Nat} {ra : Option Addr} {rc : Nat} {L : List Vn} {W : World} (h : Lvn N ra rc L W) : (∀ k ∈ blk ra, N ≤ k ∧ k < W.heap.size) ∧ ∀ x ∈ L, ∀ k ∈ blk x.a, N ≤ k ∧ k < W.heap.size :=
  ⟨fun k hk => ⟨h.own k hk, h.lt k hk⟩, fun x hx k hk => ⟨((h.rows x hx).2.2 k hk).1, (h.rows x hx).1.lt k (by rw [own_slice]; exact hk)⟩⟩
end Go.Proofs.Ytebkkdoggagcdab
end

section
namespace Go.Proofs.Ytebkkdoggagcdab
open Go.RowKit Go.Hay
attribute [local go_sem] Oper.semAt_some
set_option linter.unusedVariables false
set_option linter.unusedSimpArgs false

theorem like_vnr {l m : List Vn} (h : Like l m) (hr : ∀ x ∈ m, VnR x) : ∀ x ∈ l, VnR x := fun x hx => by
  obtain ⟨i, hi⟩ := List.mem_iff_getElem?.1 hx
  obtain ⟨y, hy, e⟩ := h.at hi
  have := hr y (List.mem_of_getElem? hy)
  exact ⟨by rw [p_ep e]; exact this.e, by rw [p_num e]; exact this.n, by rw [p_del e]; exact this.d⟩
end Go.Proofs.Ytebkkdoggagcdab
end

section
namespace Go.Proofs.Ytebkkdoggagcdab
open Go.RowKit Go.Hay
attribute [local go_sem] Oper.semAt_some
set_option linter.unusedVariables false
set_option linter.unusedSimpArgs false

/-- Versions that came in, or that are taken as they are. -/
structure InV (a : Option Addr) (c : Nat) (l : List Vn) (W : World) : Prop where
  see : VnE.See W a l
  nil : a = none → c = 0
  few : l.length ≤ 1000000000000
  ok : ∀ x ∈ l, VnOk W x
  rg : ∀ x ∈ l, VnR x
theorem InV.kp {a : Option Addr} {c : Nat} {l : List Vn} {W W' : World} (h : InV a c l W) (k : Kp [] W W') : InV a c l W' := ⟨h.see.keptNew k, h.nil, h.few, fun x hx => (h.ok x hx).kept k, h.rg⟩
/-- Versions that were told: they are those of R. -/
structure Tld (R : List Vn) (a : Option Addr) (c : Nat) (L : List Vn) (W : World) : Prop where
  i : InV a c L W
  like : Like L R
theorem Tld.kp {R : List Vn} {a : Option Addr} {c : Nat} {L : List Vn} {W W' : World} (h : Tld R a c L W) (k : Kp [] W W') : Tld R a c L W' := ⟨h.i.kp k, h.like⟩
def TldP (R : List Vn) (w : World) (e : Ending) (w' : World) : Prop := ∃ r c L, e = .returned (.slice r L.length c) ∧ Tld R r c L w' ∧ Kp [] w w'
theorem LvP.tld {R : List Vn} {w : World} {e : Ending} {w' : World} (h : LvP R w e w') (hf : R.length ≤ 1000000000000) (hr : ∀ x ∈ R, VnR x) : TldP R w e w' := by
  obtain ⟨ra, rc, M, rfl, hlv, hlk, k⟩ := h
  exact ⟨ra, rc, M, rfl, ⟨⟨hlv.see, hlv.cap, by rw [hlk.len]; exact hf, hlv.ok, like_vnr hlk hr⟩, hlk⟩, k⟩
theorem VnR.era {x : Vn} (h : VnR x) {d : Int} (hd : 0 ≤ d ∧ d < 18446744073709551616) : VnR (erased x d) := ⟨h.e, h.n, hd⟩
theorem upto_rg {l : List Vn} (h : ∀ x ∈ l, VnR x) (e : Int) : ∀ x ∈ uptoV l e, VnR x := fun x hx => by
  unfold uptoV at hx
  obtain ⟨y, hy, rfl⟩ := List.mem_map.1 hx
  have := h y (once_mem (List.mem_filter.1 hy).1)
  unfold Go.Hay.asV
  split
  · exact this.era (by omega)
  · exact this
theorem chg_rg {l : List Vn} (h : ∀ x ∈ l, VnR x) (s e : Int) : ∀ x ∈ chgV l s e, VnR x := fun x hx => upto_rg h e x (beh_sub hx)
theorem mrg_rg {l m : List Vn} (h : ∀ x ∈ l, VnR x) (k : ∀ x ∈ m, VnR x) : ∀ x ∈ mrgV l m, VnR x := fun x hx => by
  unfold mrgV at hx
  obtain ⟨y, hy, rfl⟩ := List.mem_map.1 hx
  have hy' : VnR y := by
    rcases List.mem_append.1 (once_mem hy) with h1 | h1
    · exact h y h1
    · exact k y h1
  unfold mrgG
  split
  · refine hy'.era ?_
    unfold delOf
    cases e : lk m y.id with
    | none => dsimp only; omega
    | some z => exact (k z (lk_mem e)).d
  · exact hy'
theorem tUpto {a : Option Addr} {c : Nat} {l : List Vn} {W : World} (h : InV a c l W) (e : Int) : Calls Try.prog 7 #[.slice a l.length c, .int .u64 e] W (TldP (uptoV l e) W) :=
  (cUpto a c l e W h.see h.nil (by have := h.few; omega) h.ok).mono fun _ _ q => LvP.tld q (Nat.le_trans (upto_len l e) h.few) (upto_rg h.rg e)
theorem tChg {a : Option Addr} {c : Nat} {l : List Vn} {W : World} (h : InV a c l W) (s e : Int) : Calls Try.prog 8 #[.slice a l.length c, .int .u64 s, .int .u64 e] W (TldP (chgV l s e) W) :=
  (cChanges a c l s e W h.see h.nil (by have := h.few; omega) h.ok).mono fun _ _ q => LvP.tld q (Nat.le_trans (chgF_len _ _) (Nat.le_trans (upto_len l e) h.few)) (chg_rg h.rg s e)
theorem tMrg {a b : Option Addr} {c d : Nat} {l m : List Vn} {R S : List Vn} {W : World} (h : InV a c l W) (k : InV b d m W) (hl : Like l R) (hm : Like m S) (hf : R.length + S.length ≤ 1000000000000) : Calls Try.prog 9 #[.slice a l.length c, .slice b m.length d] W (TldP (mrgV R S) W) :=
  (cMerged a b c d l m W h.see h.nil k.see k.nil (by rw [hl.len, hm.len]; omega) (fun x hx => by
    rcases List.mem_append.1 hx with hx | hx
    · exact h.ok x hx
    · exact k.ok x hx) (fun x hx => by
    rcases List.mem_append.1 hx with hx | hx
    · exact h.rg x hx
    · exact k.rg x hx)).mono fun _ _ q => by
    obtain ⟨ra, rc, M, rfl, hlv, hlk, k1⟩ := q
    exact ⟨ra, rc, M, rfl, ⟨⟨hlv.see, hlv.cap, by rw [hlk.len]; exact Nat.le_trans (mrg_len l m) (by rw [hl.len, hm.len]; exact hf), hlv.ok, like_vnr hlk (mrg_rg h.rg k.rg)⟩, hlk.trans (mrg_like hl hm)⟩, k1⟩
theorem tSame {a b : Option Addr} {c d : Nat} {l m : List Vn} {W : World} (h : InV a c l W) (k : InV b d m W) (hl : Like l m) : Calls Try.prog 6 #[.slice a l.length c, .slice b m.length d] W fun e w' => e = .returned (.bool true) ∧ Kp [] W w' :=
  rSameAll a b c d l m W h.see k.see h.ok k.ok hl (by have := h.few; omega)
end Go.Proofs.Ytebkkdoggagcdab
end

section
namespace Go.Proofs.Ytebkkdoggagcdab
open Go.ChangeShapes Go.WideShapes Go.ChangeAt Go.RowKit Go.Hay
set_option linter.unusedVariables false
set_option linter.unusedSimpArgs false

theorem cellsValR : Try.prog.cellsOf 50 = 4 := by kernel_rfl
theorem bytesValR : Try.prog.bytesOf 50 = 40 := by kernel_rfl
theorem cellsInR : Try.prog.cellsOf 3 = 1 := by kernel_rfl
theorem cellsBoR : Try.prog.cellsOf 4 = 1 := by kernel_rfl
theorem cellsLoR : Try.prog.cellsOf 2 = 1 := by kernel_rfl
theorem cellsStR : Try.prog.cellsOf 9 = 1 := by kernel_rfl
theorem cellsU8R : Try.prog.cellsOf 23 = 1 := by kernel_rfl
theorem cellsU4R : Try.prog.cellsOf 24 = 1 := by kernel_rfl
theorem cellsRwR : Try.prog.cellsOf 27 = 1 := by kernel_rfl
theorem cellsRiR : Try.prog.cellsOf 26 = 2 := by kernel_rfl
theorem cellsVnR : Try.prog.cellsOf 29 = 4 := by kernel_rfl
theorem bytesVnR : Try.prog.bytesOf 29 = 48 := by kernel_rfl
/-- A version that came in: all but how great its row may be. -/
structure VnI (w : World) (x : Vn) : Prop where
  rg : VnR x
  see : VE.See w x.a x.row
  cap : x.row.length ≤ x.c
  nil : x.a = none → x.c = 0
def FewV (x : Vn) : Prop := x.row.length * 40 ≤ 140737488355328
theorem VnI.ok {w : World} {x : Vn} (h : VnI w x) (f : FewV x) : VnOk w x := ⟨h.see, h.cap, h.nil, f⟩
section
variable {H : Type} {enc : TypeId × Value → H} {W : World}
theorem openVl {fuel : Nat} {cs : List Value} {x : DataW H × List MemPlace} (h : DataW.trod enc Try.prog W 0 (fun _ => true) true fuel 50 cs = some x) (hcs : cs.length = 4) :
    ∃ t : Val, cs = VE.c t := by
  obtain ⟨c0, c1, c2, c3, rfl⟩ : ∃ c0 c1 c2 c3, cs = [c0, c1, c2, c3] := by
    match cs, hcs with
    | [c0, c1, c2, c3], _ => exact ⟨c0, c1, c2, c3, rfl⟩
  obtain ⟨xs, n, _, rfl, _, hlen, hf⟩ := DataW.trod_struct Try.underlying50 h
  match xs, hlen with
  | [y0, y1, y2, y3], _ =>
    have h0 := hf 0 _ rfl
    have h1 := hf 1 _ rfl
    have h2 := hf 2 _ rfl
    have h3 := hf 3 _ rfl
    simp [cellsInR, cellsBoR, cellsLoR, cellsStR] at h0 h1 h2 h3
    obtain ⟨k, e0, _, w0⟩ := DataW.trod_int Try.underlying3 h0
    obtain ⟨b, e1, _⟩ := DataW.trod_bool Try.underlying4 h1
    obtain ⟨n2, e2, _, w2⟩ := DataW.trod_int Try.underlying2 h2
    obtain ⟨s, e3, _, w3⟩ := DataW.trod_string Try.underlying9 h3
    simp at e0 e1 e2 e3
    subst e0 e1 e2 e3
    exact ⟨⟨k, b, n2, s⟩, rfl⟩
theorem openRw {fuel : Nat} {c : Value} {x : DataW H × List MemPlace} (h : DataW.trod enc Try.prog W 0 (fun _ => true) true fuel 27 [c] = some x) :
    ∃ (a : Option Addr) (cap : Nat) (l : List Val), c = .slice a l.length cap ∧ VE.See W a l ∧ l.length ≤ cap ∧ (a = none → cap = 0) ∧ (Fit 27 x.1 → l.length * 40 ≤ 140737488355328) := by
  have hv : ∃ a len cap, c = .slice a len cap := by
    rcases Go.Deep.open_slice Try.underlying27 h with ⟨hcs, _⟩ | ⟨a, len, cap, _, _, _, _, hcs, _⟩
    · exact ⟨none, 0, 0, by simpa using hcs⟩
    · exact ⟨_, _, _, by simpa using hcs⟩
  obtain ⟨a, len, cap, rfl⟩ := hv
  obtain ⟨l, rfl, hs, _, hl, hm, hn, hfit, _, hbk⟩ := openEls VE Try.underlying27 cellsValR 40 bytesValR (fun _ => True) (fun _ => True) (fun _ => 0)
    (fun fuel cs x hx hcs => by
      obtain ⟨t, e⟩ := openVl hx hcs
      exact ⟨t, trivial, e, fun _ => trivial, Nat.zero_le _⟩) (d := x.1) (ps := x.2) ⟨fuel, h⟩
  exact ⟨a, cap, l, rfl, hs, hl, hn, fun hf => by have := (hfit hf).1; omega⟩
theorem openRi {fuel : Nat} {c0 c1 : Value} {x : DataW H × List MemPlace} (h : DataW.trod enc Try.prog W 0 (fun _ => true) true fuel 26 [c0, c1] = some x) :
    ∃ e n : Int, c0 = .int .u64 e ∧ c1 = .int .u32 n ∧ (0 ≤ e ∧ e < 18446744073709551616) ∧ (0 ≤ n ∧ n < 4294967296) := by
  obtain ⟨xs, n, _, rfl, _, hlen, hf⟩ := DataW.trod_struct Try.underlying26 h
  match xs, hlen with
  | [y0, y1], _ =>
    have h0 := hf 0 _ rfl
    have h1 := hf 1 _ rfl
    simp [cellsU8R, cellsU4R] at h0 h1
    obtain ⟨k, e0, _, w0⟩ := DataW.trod_int Try.underlying23 h0
    obtain ⟨m, e1, _, w1⟩ := DataW.trod_int Try.underlying24 h1
    simp at e0 e1
    have b0 := bounds_u64 w0
    have b1 := bounds_u32 w1
    exact ⟨k, m, e0, e1, by omega, by omega⟩
theorem openVn {fuel : Nat} {cs : List Value} {x : DataW H × List MemPlace} (h : DataW.trod enc Try.prog W 0 (fun _ => true) true fuel 29 cs = some x) (hcs : cs.length = 4) :
    ∃ y : Vn, VnI W y ∧ cs = VnE.c y ∧ (Fit 29 x.1 → FewV y) ∧ 0 ≤ Rows.uptoBulk x.1 := by
  obtain ⟨c0, c1, c2, c3, rfl⟩ : ∃ c0 c1 c2 c3, cs = [c0, c1, c2, c3] := by
    match cs, hcs with
    | [c0, c1, c2, c3], _ => exact ⟨c0, c1, c2, c3, rfl⟩
  obtain ⟨xs, n, _, rfl, _, hlen, hf⟩ := DataW.trod_struct Try.underlying29 h
  match xs, hlen with
  | [y0, y1, y2], _ =>
    have h0 := hf 0 _ rfl
    have h1 := hf 1 _ rfl
    have h2 := hf 2 _ rfl
    simp [cellsRiR, cellsRwR, cellsU8R] at h0 h1 h2
    obtain ⟨e, n, rfl, rfl, e0, n0⟩ := openRi h0
    obtain ⟨a, cap, l, rfl, hs, hl, hn, hfew⟩ := openRw h1
    obtain ⟨d, ed, _, wd⟩ := DataW.trod_int Try.underlying23 h2
    simp at ed
    subst ed
    refine ⟨⟨e, n, a, cap, l, d⟩, ⟨⟨e0, n0, by have b2 := bounds_u64 wd; dsimp only; omega⟩, hs, hl, hn⟩, rfl, fun hfit => hfew (List.all_eq_true.2 fun z hz => List.all_eq_true.1 hfit z ?_), Nat.zero_le _⟩
    simp only [List.map_cons, List.map_nil, DataW.weights, Try.underlying29]
    simp [DataW.weightsEach, hz]
theorem openVers {a : Option Addr} {len cap : Nat} {d : DataW H} {ps : List MemPlace} (h : DataW.Trod enc Try.prog W 0 (fun _ => true) true 22 (.slice a len cap) d ps) :
    ∃ l : List Vn, len = l.length ∧ VnE.See W a l ∧ (∀ y ∈ l, VnI W y) ∧ l.length ≤ cap ∧ cap ≤ maxLen ∧ (a = none → cap = 0) ∧ (Fit 22 d → cap * 48 ≤ 140737488351232 ∧ ∀ y ∈ l, FewV y) ∧ (l.map fun y => 0).sum ≤ Rows.uptoBulk d ∧ cap + 1 ≤ Rows.uptoBulk d :=
  openEls VnE Try.underlying22 cellsVnR 48 bytesVnR (fun y => VnI W y) FewV (fun y => 0) (fun fuel cs x hx hcs => openVn hx hcs) h
theorem cellsSgR : Try.prog.cellsOf 40 = 2 := by kernel_rfl
theorem bytesSgR : Try.prog.bytesOf 40 = 16 := by kernel_rfl
theorem cellsHlR : Try.prog.cellsOf 54 = 3 := by kernel_rfl
theorem bytesHlR : Try.prog.bytesOf 54 = 40 := by kernel_rfl
theorem cellsVsR : Try.prog.cellsOf 22 = 1 := by kernel_rfl
theorem openSgR {fuel : Nat} {cs : List Value} {x : DataW H × List MemPlace} (h : DataW.trod enc Try.prog W 0 (fun _ => true) true fuel 40 cs = some x) (hcs : cs.length = 2) :
    ∃ y : Sgm, (I64 y.p ∧ I64 y.s) ∧ cs = SgE.c y ∧ (Fit 40 x.1 → True) ∧ 0 ≤ Rows.uptoBulk x.1 := by
  obtain ⟨c0, c1, rfl⟩ : ∃ c0 c1, cs = [c0, c1] := by
    match cs, hcs with
    | [c0, c1], _ => exact ⟨c0, c1, rfl⟩
  obtain ⟨xs, n, _, rfl, _, hlen, hf⟩ := DataW.trod_struct Try.underlying40 h
  match xs, hlen with
  | [y0, y1], _ =>
    have h0 := hf 0 _ rfl
    have h1 := hf 1 _ rfl
    simp [cellsInR] at h0 h1
    obtain ⟨k, e0, _, w0⟩ := DataW.trod_int Try.underlying3 h0
    obtain ⟨m, e1, _, w1⟩ := DataW.trod_int Try.underlying3 h1
    simp at e0 e1
    subst e0 e1
    have b0 := bounds_i64 w0
    have b1 := bounds_i64 w1
    exact ⟨⟨k, m⟩, ⟨⟨by dsimp only; omega, by dsimp only; omega⟩, ⟨by dsimp only; omega, by dsimp only; omega⟩⟩, rfl, fun _ => trivial, Nat.zero_le _⟩
theorem openSegs {a : Option Addr} {len cap : Nat} {d : DataW H} {ps : List MemPlace} (h : DataW.Trod enc Try.prog W 0 (fun _ => true) true 37 (.slice a len cap) d ps) :
    ∃ l : List Sgm, len = l.length ∧ SgE.See W a l ∧ (∀ y ∈ l, I64 y.p ∧ I64 y.s) ∧ l.length ≤ cap ∧ cap ≤ maxLen ∧ (a = none → cap = 0) ∧ (Fit 37 d → cap * 16 ≤ 140737488351232 ∧ ∀ y ∈ l, True) ∧ (l.map fun y => 0).sum ≤ Rows.uptoBulk d ∧ cap + 1 ≤ Rows.uptoBulk d :=
  haveI : Inhabited Sgm := ⟨⟨0, 0⟩⟩
  openEls SgE Try.underlying37 cellsSgR 16 bytesSgR (fun y => I64 y.p ∧ I64 y.s) (fun _ => True) (fun _ => 0) (fun fuel cs x hx hcs => openSgR hx hcs) h
theorem openHlR {fuel : Nat} {cs : List Value} {x : DataW H × List MemPlace} (h : DataW.trod enc Try.prog W 0 (fun _ => true) true fuel 54 cs = some x) (hcs : cs.length = 3) :
    ∃ y : Hl, (I64 y.p ∧ I64 y.s) ∧ cs = HlE.c y ∧ (Fit 54 x.1 → True) ∧ 0 ≤ Rows.uptoBulk x.1 := by
  obtain ⟨c0, c1, c2, rfl⟩ : ∃ c0 c1 c2, cs = [c0, c1, c2] := by
    match cs, hcs with
    | [c0, c1, c2], _ => exact ⟨c0, c1, c2, rfl⟩
  obtain ⟨xs, n, _, rfl, _, hlen, hf⟩ := DataW.trod_struct Try.underlying54 h
  match xs, hlen with
  | [y0, y1], _ =>
    have h0 := hf 0 _ rfl
    have h1 := hf 1 _ rfl
    simp [cellsSgR, cellsVsR] at h0 h1
    obtain ⟨y, hy, e, _, _⟩ := openSgR h0 rfl
    have hv : ∃ a len cap, c2 = .slice a len cap := by
      rcases Go.Deep.open_slice Try.underlying22 h1 with ⟨hcs, _⟩ | ⟨a, len, cap, _, _, _, _, hcs, _⟩
      · exact ⟨none, 0, 0, by simpa using hcs⟩
      · exact ⟨_, _, _, by simpa using hcs⟩
    obtain ⟨a, len, cap, rfl⟩ := hv
    simp only [SgE, List.cons.injEq] at e
    obtain ⟨rfl, rfl, _⟩ := e
    exact ⟨⟨y.p, y.s, a, len, cap⟩, hy, rfl, fun _ => trivial, Nat.zero_le _⟩
theorem openHelds {a : Option Addr} {len cap : Nat} {d : DataW H} {ps : List MemPlace} (h : DataW.Trod enc Try.prog W 0 (fun _ => true) true 51 (.slice a len cap) d ps) :
    ∃ l : List Hl, len = l.length ∧ HlE.See W a l ∧ (∀ y ∈ l, I64 y.p ∧ I64 y.s) ∧ l.length ≤ cap ∧ cap ≤ maxLen ∧ (a = none → cap = 0) ∧ (Fit 51 d → cap * 40 ≤ 140737488351232 ∧ ∀ y ∈ l, True) ∧ (l.map fun y => 0).sum ≤ Rows.uptoBulk d ∧ cap + 1 ≤ Rows.uptoBulk d :=
  haveI : Inhabited Hl := ⟨⟨0, 0, none, 0, 0⟩⟩
  openEls HlE Try.underlying51 cellsHlR 40 bytesHlR (fun y => I64 y.p ∧ I64 y.s) (fun _ => True) (fun _ => 0) (fun fuel cs x hx hcs => openHlR hx hcs) h
end
theorem okWide_arrR {P : Program} {w : World} {r : Reach} {base : Nat} {t : TypeId} {v : Value} {n : Nat} {e : TypeId} (ht : P.underlying t = some (.array n e)) (h : Value.okWide P w r base t v) : ∃ cs, v = .agg cs ∧ cs.size = P.cellsOf t := by
  simp only [Value.okWide, ht] at h
  obtain ⟨cs, h1, h2, _⟩ := h
  exact ⟨cs, h1, h2⟩
end Go.Proofs.Ytebkkdoggagcdab
end

/- Crash: what is found; the round's tools. -/
import Derived.Test.YtgllkonbgigcbabDfnd
import Derived.Test.YtgllkonbgigcbabDrgn
namespace Go.Proofs.Ytgllkonbgigcbab
open Go.RowKit Go.Hay Go.Maps
set_option linter.unusedVariables false
set_option linter.unusedSimpArgs false

/-- No block of S holds cells. -/
def NoC (S : List Nat) (W : World) : Prop := ∀ r ∈ S, ∃ o : Obj, W.heap[r]? = some o ∧ o.isCells = false
theorem NoC.out {S : List Nat} {W : World} (h : NoC S W) {a : Addr} (hc : (W.cell? a).isSome = true) : a.block ∉ S := fun hm => by
  obtain ⟨o, ho, hn⟩ := h _ hm
  unfold World.cell? at hc
  rw [ho] at hc
  cases o <;> simp_all [Obj.isCells]
theorem kpOfGrown {W W' : World} {row : Option Nat} (hg : W.grownBy W' row) : Kp row.toList W W' := (Kp.refl _ W).grown hg (fun k e => .inl (by simp [Option.mem_toList, e]))
theorem cellN {S : List Nat} {W W' : World} (hk : Kp S W W') (hn : NoC S W) {a : Addr} {v : Value} (hc : W.cell? a = some v) : W'.cell? a = some v :=
  (hk.cell (World.block_lt_of_cell? _ _ hc) (hn.out (by rw [hc]; rfl))).trans hc
theorem frozenN {S : List Nat} {W W' : World} (hk : Kp S W W') (hn : NoC S W) {a : Addr} {v : Value} (hc : W.cell? a = some v) : W'.frozen? a = W.frozen? a :=
  hk.frozen (World.block_lt_of_cell? _ _ hc) (hn.out (by rw [hc]; rfl))
theorem rowN {S : List Nat} {W W' : World} (hk : Kp S W W') (hn : NoC S W) {v : Value} {bs : List UInt8} (h : Row W v bs) : Row W' v bs := by
  rcases h with h | ⟨g, o, cap, rfl, hl, hm, hg, hc, ht⟩
  · exact .inl h
  · refine .inr ⟨g, o, cap, rfl, hl, hm, Nat.lt_of_lt_of_le hg hk.size, fun j u hu => cellN hk hn (hc j u hu), fun j hj => ?_⟩
    obtain ⟨v, hv⟩ := Option.isSome_iff_exists.1 (ht j hj).1
    exact ⟨by rw [cellN hk hn hv]; rfl, (frozenN hk hn hv).trans (ht j hj).2⟩
theorem Disk.stands {S : List Nat} {W W' : World} {p mb : Nat} {xs : List Ent} {d : Dk} (h : Disk W p mb xs d) (hk : Kp S W W') (hn : NoC S W) (hm : mb ∉ S) : Disk W' p mb xs d := by
  have hp : p ∉ S := hn.out (a := ⟨p, 0, none⟩) (by rw [h.hd.c0]; rfl)
  refine ⟨h.hd.kept hk hp, h.map.kept hk hm, fun x hx => ?_, h.rise, h.pm, h.px, h.xy, h.fl, h.ok⟩
  have hf := h.files x hx
  exact ⟨hf.box.kept hk (hn.out (a := ⟨x.blk, 0, none⟩) (by rw [hf.box.c0]; rfl)), rowN hk hn hf.row, hf.ap⟩

/-- A slice of numbers. -/
def Ints (w : World) (a : Option Addr) (ks : List Int) : Prop := ks = [] ∨ ∃ g o, a = some ⟨g, o, none⟩ ∧ ∀ j k, ks[j]? = some k → w.cell? ⟨g, o + j, none⟩ = some (.int .i64 k)
theorem Ints.kept {w w' : World} {a : Option Addr} {ks : List Int} (h : Ints w a ks) (hk : Kp [] w w') : Ints w' a ks := by
  rcases h with rfl | ⟨g, o, rfl, hc⟩
  · exact .inl rfl
  · exact .inr ⟨g, o, rfl, fun j k hj => (hk.cell (World.block_lt_of_cell? _ _ (hc j k hj)) (by simp)).trans (hc j k hj)⟩
theorem Ints.tail {w : World} {g o : Nat} {k : Int} {ks : List Int} (h : Ints w (some ⟨g, o, none⟩) (k :: ks)) : Ints w (some ⟨g, o + 1, none⟩) ks := by
  rcases h with h | ⟨g', o', e, hc⟩
  · cases h
  · cases e
    exact .inr ⟨_, _, rfl, fun j k hj => by have := hc (j + 1) k (by simpa using hj); rwa [show o + 1 + j = o + (j + 1) by omega]⟩
theorem putG_last {α : Type} {nm : α → List UInt8} (f : α) : ∀ (l : List α), (∀ x ∈ l, bytesBefore (nm x) (nm f) = true) → putG nm f false l = l ++ [f]
  | [], _ => rfl
  | g :: r, h => by
    have hg := h g (by simp)
    have e1 : leN (nm f) (nm g) = false := by simp [leN, bb_asymm hg, Ne.symm (bb_ne hg)]
    have e2 : (nm g == nm f) = false := by simpa using bb_ne hg
    simp [putG, e1, e2, putG_last f r (fun x hx => h x (by simp [hx]))]
theorem crashF_snoc : ∀ (l : List Fl) (x : Fl) (ks : List Int), crashF (l ++ [x]) ks = crashF l ks ++ [keptF x (ks.getD l.length 0)]
  | [], x, [] => rfl
  | [], x, k :: ks => rfl
  | f :: r, x, [] => by simp [crashF, crashF_snoc r x []]
  | f :: r, x, k :: ks => by simp [crashF, crashF_snoc r x ks]
/-- A new disk that is filled, file by file. -/
def BuildI (g : Nat → Dk) (lb b0 pf mf : Nat) (w : World) (s : Sr) (W : World) : Prop := ∃ ys, Disk W pf mf ys (g s.i) ∧ Kp [] w W ∧ b0 ≤ W.heap.size ∧ (∀ k ∈ foot pf mf ys, lb ≤ k) ∧ ∀ q, s.q = some q → b0 ≤ q ∧ q < W.heap.size ∧ q ∉ foot pf mf ys
theorem buildOwn (g : Nat → Dk) (lb b0 pf mf : Nat) (w : World) (hm : mf < b0) (hw : w.heap.size ≤ b0) : OwnFrom b0 (BuildI g lb b0 pf mf w) := fun s W W' row h hg hr => by
  obtain ⟨ys, h1, h2, h3, h4, h5⟩ := h
  have hk := kpOfGrown hg
  have hn : NoC row.toList W := fun r hm' => (hr r (by simpa [Option.mem_toList] using hm')).2
  refine ⟨ys, h1.stands hk hn (fun hm' => ?_), h2.grown hg (fun k e => .inr ?_), Nat.le_trans h3 hg.size, h4, fun q hq => ⟨(h5 q hq).1, Nat.lt_of_lt_of_le (h5 q hq).2.1 hg.size, (h5 q hq).2.2⟩⟩
  · have := (hr mf (by simpa [Option.mem_toList] using hm')).1; omega
  · have := (hr k e).1; omega
theorem buildTurn (g : Nat → Dk) (lb b0 pf mf : Nat) (w : World) (s s' : Sr) (A B : World) (h : BuildI g lb b0 pf mf w s A) (ht : StepR s s' A B) : BuildI g lb b0 pf mf w s' B := by
  obtain ⟨ys, h1, h2, h3, h4, h5⟩ := h
  obtain ⟨_, e, hk, q, hq, hq1, hq2⟩ := ht
  have ei : s'.i = s.i := by rw [e]
  refine ⟨ys, by rw [ei]; exact h1.keptNew hk, h2.trans hk (by simp), Nat.le_trans h3 hk.size, h4, fun q' hq' => ?_⟩
  rw [hq] at hq'
  cases hq'
  exact ⟨by omega, hq2, fun hm => by have := h1.lt _ hm; omega⟩
theorem okTake {d : Dk} (h : Okd d) (i : Nat) : Okd { d with files := d.files.take i } := by
  refine ⟨h.rise.sublist (List.take_sublist i _), fun f hf => h.last f (List.mem_of_mem_take hf), fun f hf => h.name f (List.mem_of_mem_take hf), ?_, h.room, h.arm⟩
  have e : sumF (d.files.take i) + sumF (d.files.drop i) = sumF d.files := by
    unfold sumF
    rw [← List.sum_append, ← List.map_append, List.take_append_drop]
  have := h.sum
  show sumF (d.files.take i) ≤ d.room
  omega
/-- One file more. -/
theorem Disk.snoc {w w1 w' : World} {p mb : Nat} {ys : List Ent} {d d' : Dk} (h : Disk w p mb ys d) (e : Ent) (k0 : Kp [] w w1) (hfe : FileAt w1 e) (hnew : ∀ k ∈ e.foot, w.heap.size ≤ k) (hk : Kp [mb] w1 w') (hm : OwnsM w' mb (putG Ent.name e false ys))
    (hb : ∀ x ∈ d.files, bytesBefore x.name e.name = true) (hd : d' = { d with files := d.files ++ [e.fl] }) (ok : Okd d') : Disk w' p mb (putG Ent.name e false ys) d' ∧ Mv (foot p mb ys) w (foot p mb (putG Ent.name e false ys)) w' := by
  have e1 : putG Fl.name e.fl false d.files = d.files ++ [e.fl] := putG_last (nm := Fl.name) e.fl d.files hb
  subst hd
  rw [← e1] at ok ⊢
  exact h.added e k0 hfe hnew hk hm ok
theorem run_makeMapN (n : Int) (w : World) : (Instr.makeMap 60 (some (.int .i64 n))).run Try.prog w = .ok (.map (some w.heap.size)) (w.alloc (.map #[] 0)) := by
  simp [Instr.makeMap, run_underlying Try.underlying60, Result.andThen, asInt, asIntOf]
end Go.Proofs.Ytgllkonbgigcbab

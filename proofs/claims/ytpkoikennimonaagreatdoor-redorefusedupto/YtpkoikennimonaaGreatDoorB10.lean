/- Crash: what is found; the round's tools. Clone. Crash. A log on a disk: what its calls do, plainly; how it lies in memory; write, Create, Len, Size. Create; Open. -/
import Derived.Test.YtpkoikennimonaaGreatDoorB9
import Derived.Test.YtpkoikennimonaaGreatDoorB7
import Derived.Test.YtpkoikennimonaaGreatDoorB8
section
namespace Go.Proofs.YtpkoikennimonaaGreatDoor
open Go.RowKit Go.Hay Go.Maps
set_option linter.unusedVariables false
set_option linter.unusedSimpArgs false

/-- No block of S holds cells. -/
def NoCD (S : List Nat) (W : World) : Prop := ∀ r ∈ S, ∃ o : Obj, W.heap[r]? = some o ∧ o.isCells = false
theorem NoCD.out {S : List Nat} {W : World} (h : NoCD S W) {a : Addr} (hc : (W.cell? a).isSome = true) : a.block ∉ S := fun hm => by
  obtain ⟨o, ho, hn⟩ := h _ hm
  unfold World.cell? at hc
  rw [ho] at hc
  cases o <;> simp_all [Obj.isCells]
theorem kpOfGrownD {W W' : World} {row : Option Nat} (hg : W.grownBy W' row) : Kp row.toList W W' := (Kp.refl _ W).grown hg (fun k e => .inl (by simp [Option.mem_toList, e]))
theorem cellND {S : List Nat} {W W' : World} (hk : Kp S W W') (hn : NoCD S W) {a : Addr} {v : Value} (hc : W.cell? a = some v) : W'.cell? a = some v :=
  (hk.cell (World.block_lt_of_cell? _ _ hc) (hn.out (by rw [hc]; rfl))).trans hc
theorem frozenND {S : List Nat} {W W' : World} (hk : Kp S W W') (hn : NoCD S W) {a : Addr} {v : Value} (hc : W.cell? a = some v) : W'.frozen? a = W.frozen? a :=
  hk.frozen (World.block_lt_of_cell? _ _ hc) (hn.out (by rw [hc]; rfl))
theorem rowND {S : List Nat} {W W' : World} (hk : Kp S W W') (hn : NoCD S W) {v : Value} {bs : List UInt8} (h : Row W v bs) : Row W' v bs := by
  rcases h with h | ⟨g, o, cap, rfl, hl, hm, hg, hc, ht⟩
  · exact .inl h
  · refine .inr ⟨g, o, cap, rfl, hl, hm, Nat.lt_of_lt_of_le hg hk.size, fun j u hu => cellND hk hn (hc j u hu), fun j hj => ?_⟩
    obtain ⟨v, hv⟩ := Option.isSome_iff_exists.1 (ht j hj).1
    exact ⟨by rw [cellND hk hn hv]; rfl, (frozenND hk hn hv).trans (ht j hj).2⟩
theorem Disk.stands {S : List Nat} {W W' : World} {p mb : Nat} {xs : List Ent} {d : Dk} (h : Disk W p mb xs d) (hk : Kp S W W') (hn : NoCD S W) (hm : mb ∉ S) : Disk W' p mb xs d := by
  have hp : p ∉ S := hn.out (a := ⟨p, 0, none⟩) (by rw [h.hd.c0]; rfl)
  refine ⟨h.hd.kept hk hp, h.map.kept hk hm, fun x hx => ?_, h.rise, h.pm, h.px, h.xy, h.fl, h.ok⟩
  have hf := h.files x hx
  exact ⟨hf.box.kept hk (hn.out (a := ⟨x.blk, 0, none⟩) (by rw [hf.box.c0]; rfl)), rowND hk hn hf.row, hf.ap⟩

/-- A slice of numbers. -/
def Ints (w : World) (a : Option Addr) (ks : List Int) : Prop := ks = [] ∨ ∃ g o, a = some ⟨g, o, none⟩ ∧ ∀ j k, ks[j]? = some k → w.cell? ⟨g, o + j, none⟩ = some (.int .i64 k)
theorem Ints.kept {w w' : World} {a : Option Addr} {ks : List Int} (h : Ints w a ks) (hk : Kp [] w w') : Ints w' a ks := by
  rcases h with rfl | ⟨g, o, rfl, hc⟩
  · exact .inl rfl
  · exact .inr ⟨g, o, rfl, fun j k hj => (hk.cell (World.block_lt_of_cell? _ _ (hc j k hj)) (by simp)).trans (hc j k hj)⟩
theorem Ints.tail {w : World} {g o : Nat} {k : Int} {ks : List Int} (h : Ints w (some ⟨g, o, none⟩) (k :: ks)) : Ints w (some ⟨g, o + 1, none⟩) ks := by
  rcases h with h | ⟨g', o', e, hc⟩
  · cases h
  · cases e
    exact .inr ⟨_, _, rfl, fun j k hj => by have := hc (j + 1) k (by simpa using hj); rwa [show o + 1 + j = o + (j + 1) by omega]⟩
theorem putG_last {α : Type} {nm : α → List UInt8} (f : α) : ∀ (l : List α), (∀ x ∈ l, bytesBefore (nm x) (nm f) = true) → putG nm f false l = l ++ [f]
  | [], _ => rfl
  | g :: r, h => by
    have hg := h g (by simp)
    have e1 : leN (nm f) (nm g) = false := by simp [leN, bb_asymm hg, Ne.symm (bb_ne hg)]
    have e2 : (nm g == nm f) = false := by simpa using bb_ne hg
    simp [putG, e1, e2, putG_last f r (fun x hx => h x (by simp [hx]))]
theorem crashF_snoc : ∀ (l : List Fl) (x : Fl) (ks : List Int), crashF (l ++ [x]) ks = crashF l ks ++ [keptF x (ks.getD l.length 0)]
  | [], x, [] => rfl
  | [], x, k :: ks => rfl
  | f :: r, x, [] => by simp [crashF, crashF_snoc r x []]
  | f :: r, x, k :: ks => by simp [crashF, crashF_snoc r x ks]
/-- A new disk that is filled, file by file. -/
def BuildI (g : Nat → Dk) (lb b0 pf mf : Nat) (w : World) (s : Sr) (W : World) : Prop := ∃ ys, Disk W pf mf ys (g s.i) ∧ Kp [] w W ∧ b0 ≤ W.heap.size ∧ (∀ k ∈ foot pf mf ys, lb ≤ k) ∧ ∀ q, s.q = some q → b0 ≤ q ∧ q < W.heap.size ∧ q ∉ foot pf mf ys
theorem buildOwn (g : Nat → Dk) (lb b0 pf mf : Nat) (w : World) (hm : mf < b0) (hw : w.heap.size ≤ b0) : OwnFrom b0 (BuildI g lb b0 pf mf w) := fun s W W' row h hg hr => by
  obtain ⟨ys, h1, h2, h3, h4, h5⟩ := h
  have hk := kpOfGrownD hg
  have hn : NoCD row.toList W := fun r hm' => (hr r (by simpa [Option.mem_toList] using hm')).2
  refine ⟨ys, h1.stands hk hn (fun hm' => ?_), h2.grown hg (fun k e => .inr ?_), Nat.le_trans h3 hg.size, h4, fun q hq => ⟨(h5 q hq).1, Nat.lt_of_lt_of_le (h5 q hq).2.1 hg.size, (h5 q hq).2.2⟩⟩
  · have := (hr mf (by simpa [Option.mem_toList] using hm')).1; omega
  · have := (hr k e).1; omega
theorem buildTurn (g : Nat → Dk) (lb b0 pf mf : Nat) (w : World) (s s' : Sr) (A B : World) (h : BuildI g lb b0 pf mf w s A) (ht : StepR s s' A B) : BuildI g lb b0 pf mf w s' B := by
  obtain ⟨ys, h1, h2, h3, h4, h5⟩ := h
  obtain ⟨_, e, hk, q, hq, hq1, hq2⟩ := ht
  have ei : s'.i = s.i := by rw [e]
  refine ⟨ys, by rw [ei]; exact h1.keptNew hk, h2.trans hk (by simp), Nat.le_trans h3 hk.size, h4, fun q' hq' => ?_⟩
  rw [hq] at hq'
  cases hq'
  exact ⟨by omega, hq2, fun hm => by have := h1.lt _ hm; omega⟩
theorem okTake {d : Dk} (h : Okd d) (i : Nat) : Okd { d with files := d.files.take i } := by
  refine ⟨h.rise.sublist (List.take_sublist i _), fun f hf => h.last f (List.mem_of_mem_take hf), fun f hf => h.name f (List.mem_of_mem_take hf), ?_, h.room, h.arm⟩
  have e : sumF (d.files.take i) + sumF (d.files.drop i) = sumF d.files := by
    unfold sumF
    rw [← List.sum_append, ← List.map_append, List.take_append_drop]
  have := h.sum
  show sumF (d.files.take i) ≤ d.room
  omega
/-- One file more. -/
theorem Disk.snoc {w w1 w' : World} {p mb : Nat} {ys : List Ent} {d d' : Dk} (h : Disk w p mb ys d) (e : Ent) (k0 : Kp [] w w1) (hfe : FileAt w1 e) (hnew : ∀ k ∈ e.foot, w.heap.size ≤ k) (hk : Kp [mb] w1 w') (hm : OwnsM w' mb (putG Ent.name e false ys))
    (hb : ∀ x ∈ d.files, bytesBefore x.name e.name = true) (hd : d' = { d with files := d.files ++ [e.fl] }) (ok : Okd d') : Disk w' p mb (putG Ent.name e false ys) d' ∧ Mv (foot p mb ys) w (foot p mb (putG Ent.name e false ys)) w' := by
  have e1 : putG Fl.name e.fl false d.files = d.files ++ [e.fl] := putG_last (nm := Fl.name) e.fl d.files hb
  subst hd
  rw [← e1] at ok ⊢
  exact h.added e k0 hfe hnew hk hm ok
theorem run_makeMapN (n : Int) (w : World) : (Instr.makeMap 52 (some (.int .i64 n))).run Tryz.prog w = .ok (.map (some w.heap.size)) (w.alloc (.map #[] 0)) := by
  simp [Instr.makeMap, run_underlying Tryz.underlying52, Result.andThen, asInt, asIntOf]
end Go.Proofs.YtpkoikennimonaaGreatDoor
end

section
namespace Go.Proofs.YtpkoikennimonaaGreatDoor
open Go.RowKit Go.Hay Go.Maps Go.Sort Go.Shelf
attribute [local go_sem] Oper.semAt_some
set_option linter.unusedVariables false
set_option linter.unusedSimpArgs false

def DiskP (d : Dk) (w : World) (e : Ending) (w' : World) : Prop := ∃ p mb xs, e = .returned (.pointer (some ⟨p, 0, none⟩)) ∧ Disk w' p mb xs d ∧ Kp [] w w' ∧ ∀ k ∈ foot p mb xs, w.heap.size ≤ k
theorem cell_kp {W W' : World} {a : Addr} {v : Value} (hk : Kp [] W W') (hc : W.cell? a = some v) : W'.cell? a = some v := (hk.cell (World.block_lt_of_cell? _ _ hc) (by simp)).trans hc
def takeD (d : Dk) (i : Nat) : Dk := { d with files := d.files.take i }
theorem takeD_succ {xs : List Ent} {d : Dk} (hfl : d.files = xs.map Ent.fl) {i : Nat} {x : Ent} (hx : xs[i]? = some x) : takeD d (i + 1) = { takeD d i with files := (takeD d i).files ++ [x.fl] } := by
  simp only [takeD]
  congr 1
  rw [List.take_add_one, hfl]
  simp [hx]
theorem before_take {xs : List Ent} {d : Dk} (hfl : d.files = xs.map Ent.fl) (hr : riseG Ent.name xs) {i : Nat} {x : Ent} (hx : xs[i]? = some x) : ∀ f ∈ (takeD d i).files, bytesBefore f.name x.name = true := fun f hf => by
  simp only [takeD, hfl] at hf
  rw [← List.map_take] at hf
  obtain ⟨y, hy, rfl⟩ := List.mem_map.1 hf
  obtain ⟨j, hj, rfl⟩ := List.mem_take_iff_getElem.1 hy
  obtain ⟨hi, rfl⟩ := List.getElem?_eq_some_iff.1 hx
  exact List.pairwise_iff_getElem.1 hr j i (by omega) hi (by omega)

end Go.Proofs.YtpkoikennimonaaGreatDoor
end

section
namespace Go.Proofs.YtpkoikennimonaaGreatDoor
open Go.RowKit Go.Hay Go.Maps Go.Sort Go.Shelf
attribute [local go_sem] Oper.semAt_some
set_option linter.unusedVariables false
set_option linter.unusedSimpArgs false

/-- What is left of the numbers. -/
def KeepI (ks : List Int) (kb fb pf : Nat) (w : World) (s : Sr) (W : World) : Prop := ∃ a c, W.cell? ⟨kb, 0, none⟩ = some (.slice a (ks.drop s.i).length c) ∧ W.frozen? ⟨kb, 0, none⟩ = false ∧ Ints w a (ks.drop s.i) ∧ (ks.drop s.i).length ≤ c ∧ c ≤ 9223372036854775807 ∧ W.cell? ⟨fb, 0, none⟩ = some (.pointer (some ⟨pf, 0, none⟩))
theorem keepOwn (ks : List Int) (kb fb pf b0 : Nat) (w : World) (hk : kb < b0) (hf : fb < b0) : OwnFrom b0 (KeepI ks kb fb pf w) := fun s W W' row h hg hr => by
  obtain ⟨a, c, h1, h2, h3, h4, h6, h5⟩ := h
  have hb : ∀ k, k < b0 → k < W.heap.size → W'.heap[k]? = W.heap[k]? := fun k hk hl => hg.block k hl (fun e => by have := (hr k e.symm).1; omega)
  have e1 := hb kb hk (World.block_lt_of_cell? _ _ h1)
  have e2 := hb fb hf (World.block_lt_of_cell? _ _ h5)
  exact ⟨a, c, (World.cell?_of_block (a := ⟨kb, 0, none⟩) e1).trans h1, (World.frozen?_of_block (a := ⟨kb, 0, none⟩) e1).trans h2, h3, h4, h6, (World.cell?_of_block (a := ⟨fb, 0, none⟩) e2).trans h5⟩
theorem keepTurn (ks : List Int) (kb fb pf : Nat) (w : World) (s s' : Sr) (A B : World) (h : KeepI ks kb fb pf w s A) (ht : StepR s s' A B) : KeepI ks kb fb pf w s' B := by
  obtain ⟨a, c, h1, h2, h3, h4, h6, h5⟩ := h
  obtain ⟨_, e, hk, q, hq, hq1, hq2⟩ := ht
  have ei : s'.i = s.i := by rw [e]
  refine ⟨a, c, ?_, (hk.frozen (p := ⟨kb, 0, none⟩) (World.block_lt_of_cell? _ _ h1) (by simp)).trans h2, by rw [ei]; exact h3, by rw [ei]; exact h4, h6, cell_kp hk h5⟩
  rw [ei]; exact cell_kp hk h1
def CrashI (g : Nat → Dk) (b0 pf mf : Nat) (ks : List Int) (kb fb : Nat) (w : World) (s : Sr) (W : World) : Prop := BuildI g (w.heap.size + 1) b0 pf mf w s W ∧ KeepI ks kb fb pf w s W
theorem crash_succ {xs : List Ent} {d : Dk} (hfl : d.files = xs.map Ent.fl) (ks : List Int) {i : Nat} {x : Ent} (hx : xs[i]? = some x) : crashD (takeD d (i + 1)) ks = { crashD (takeD d i) ks with files := (crashD (takeD d i) ks).files ++ [keptF x.fl (ks.getD i 0)] } := by
  rw [takeD_succ hfl hx]
  simp only [crashD]
  congr 1
  rw [crashF_snoc]
  have hil : i < xs.length := (List.getElem?_eq_some_iff.1 hx).1
  have : (takeD d i).files.length = i := by simp [takeD, hfl]; omega
  rw [this]
theorem before_crash {xs : List Ent} {d : Dk} (hfl : d.files = xs.map Ent.fl) (hr : riseG Ent.name xs) (ks : List Int) {i : Nat} {x : Ent} (hx : xs[i]? = some x) : ∀ f ∈ (crashD (takeD d i) ks).files, bytesBefore f.name x.name = true := fun f hf => by
  obtain ⟨g, hg, k, rfl⟩ := crashF_mem _ _ f hf
  exact before_take hfl hr hx g hg

set_option maxHeartbeats 16000000 in
set_option maxRecDepth 100000 in
theorem cCrash {w : World} {p mb : Nat} {xs : List Ent} {d : Dk} (hD : Disk w p mb xs d) (hB : Small d) (hN : xs.length ≤ 1000000000000) (ka : Option Addr) (kc : Nat) (ks : List Int) (hks : Ints w ka ks) (hkl : ks.length ≤ kc) (hkc : kc ≤ 9223372036854775807) (hk64 : ∀ k ∈ ks, -9223372036854775808 ≤ k ∧ k < 9223372036854775808) :
    Calls Tryz.prog 23 #[.pointer (some ⟨p, 0, none⟩), .slice ka ks.length kc] w (DiskP (crashD d ks) w) := by
  have hplt := hD.hd.lt
  have hmlt := hD.map.lt
  have c0 := hD.hd.c0
  have hroom := hD.ok.room
  refine (callsIn_wide (n := 4)).1 ?_
  refine callsIn_of_wp_marks Tryz.func23 rfl trivial ?_ rfl
  simp only [Tryz.ntmps23, List.size_toArray, List.length_cons, List.length_nil, Nat.reduceAdd, Nat.reduceSub, Array.replicate_succ, Array.replicate_zero, List.push_toArray, List.append_toArray, List.nil_append, List.cons_append]
  gi_wp2_with fail
  refine ⟨trivial, (callsIn_wide.2 (cNew _ _ (by omega))).mono ?_⟩
  rintro e w2 ⟨pf, mf, rfl, hE, k2, hpf, hmf⟩
  gi_wp2_with fail
  refine ⟨trivial, (callsIn_wide.2 (cRising _ _)).mono ?_⟩
  rintro e w' ⟨rfl, rfl⟩
  have k2w : Kp [] w w2 := ((Kp.refl [] w).alloc _).trans k2 (by simp)
  have ckb : w2.cell? ⟨w.heap.size, 0, none⟩ = some (.slice ka ks.length kc) := cell_kp k2 (by simp)
  have fkb : w2.frozen? ⟨w.heap.size, 0, none⟩ = false := (k2.frozen (p := ⟨w.heap.size, 0, none⟩) (by simp) (by simp)).trans (by simp)
  simp only [World.size_alloc] at hpf hmf
  have hpl := hE.hd.lt
  have hml := hE.map.lt
  have hsz2 : w.heap.size < w2.heap.size := by omega
  obtain ⟨w1, hw1⟩ : ∃ w1, w1 = (w2.alloc (.cells #[.pointer (some ⟨pf, 0, none⟩)] 23)).alloc (.cells #[.pointer (some ⟨p, 0, none⟩)] 23) := ⟨_, rfl⟩
  have k21 : Kp [] w2 w1 := by rw [hw1]; exact ((Kp.refl _ _).alloc _).alloc _
  have k1 : Kp [] w w1 := k2w.trans k21 (by simp)
  have b1 : w1.cell? ⟨w2.heap.size + 1, 0, none⟩ = some (.pointer (some ⟨p, 0, none⟩)) := by
    rw [hw1]
    have := World.cell?_alloc_new (w2.alloc (.cells #[.pointer (some ⟨pf, 0, none⟩)] 23)) #[.pointer (some ⟨p, 0, none⟩)] 23 0
    rwa [World.size_alloc] at this
  have b2 : w1.cell? ⟨w2.heap.size, 0, none⟩ = some (.pointer (some ⟨pf, 0, none⟩)) := by rw [hw1]; simp
  have hs1a : w2.heap.size + 2 ≤ w1.heap.size := by rw [hw1]; simp
  have hs1b : w1.heap.size ≤ w2.heap.size + 2 := by rw [hw1]; simp
  rw [← hw1]
  simp only [World.size_alloc]
  have hD1 := hD.keptNew k1
  have hE1 : Disk w1 pf mf [] (crashD (takeD d 0) ks) := by
    have e : newD (d.room : Int) = crashD (takeD d 0) ks := by simp [newD, crashD, takeD, crashF]
    rw [← e]; exact hE.keptNew k21
  have hseq := risingSeq (4 - 1) (by omega) (w2.heap.size + 1) p mb xs hD.rise (by omega) hD.names w1 ⟨b1, hD1.hd.c1, hD1.map⟩
  have hI0 : CrashI (fun i => crashD (takeD d i) ks) w1.heap.size pf mf ks w.heap.size w2.heap.size w ⟨none, 0⟩ w1 :=
    ⟨⟨[], hE1, k1, Nat.le_refl _, by intro k hk; simp [foot] at hk; omega, by simp⟩, ka, kc, by simpa using cell_kp k21 ckb, (k21.frozen (p := ⟨w.heap.size, 0, none⟩) hsz2 (by simp)).trans fkb, by simpa using hks, by simpa using hkl, hkc, b2⟩
  have hJs : ∀ j ∈ [w2.heap.size + 1, p, mb], j < w1.heap.size := by intro j hj; simp at hj; omega
  clear hw1 k21 hE k2 ckb fkb b1 b2
  gi_wp2_with fail
  refine wpRangeS rfl (by omega) (gf := 68) (lb := #[.pointer (some ⟨w2.heap.size + 1, 0, none⟩)]) rfl trivial (enters_of Tryz.func68 (by kernel_rfl) rfl)
    hseq (fun _ => rfl) KeepR.trans (fun s => KeepR.alloc _ s) (fun s W l o o' hl ho hc _ => KeepR.putObj hJs W l o o' hl ho hc) (KeepR.refl _ _ _) (fun s s' A B ht k o _ ho _ _ => stepRKeeps ht k o ho)
    (CrashI (fun i => crashD (takeD d i) ks) w1.heap.size pf mf ks w.heap.size w2.heap.size w) (fun _ _ _ => False) (OwnFrom.and (buildOwn _ _ _ _ _ w (by omega) (by omega)) (keepOwn _ _ _ _ _ w (by omega) (by omega))) (fun _ _ _ _ _ h _ _ => h) (fun s s' A B h ht => ⟨buildTurn _ _ _ _ _ w s s' A B h.1 ht, keepTurn _ _ _ _ w s s' A B h.2 ht⟩) hI0
    (fun x => { tmps := #[.pointer (some ⟨p, 0, none⟩), .slice ka ks.length kc, undef, .pointer (some ⟨w.heap.size, 0, none⟩), .pointer none, .pointer (some ⟨w2.heap.size, 0, none⟩), encStr x.name, .pointer (some ⟨x.blk, 0, none⟩), undef, .pointer (some ⟨p, 0, none⟩), .pointer (some ⟨p, 0, none⟩), .pointer (some ⟨p, 0, none⟩), .int .i64 (d.room : Int), .pointer (some ⟨pf, 0, none⟩), .pointer (some ⟨p, 0, none⟩), .func (.func 68) #[] #[.pointer (some ⟨w2.heap.size + 1, 0, none⟩)], encStr x.name, .pointer (some ⟨x.blk, 0, none⟩), undef, undef, undef, undef, undef, undef, undef, undef, undef, undef, undef, undef, undef, undef, undef, undef, undef], defers := [] }) ?assign ?body ?done ?stop
  case assign =>
    intro l x W C hC
    gi_wp2_with fail
    exact hC
  case body =>
    rintro l ⟨sq, i⟩ x W ⟨⟨ys, h1, h2, h3, h4, h5⟩, ⟨a, c, g1, g2, g3, g4, g6, g5⟩⟩ ⟨hsq, hx⟩
    simp only at hsq hx h1 h5 g1 g3 g4
    have hxm : x ∈ xs := List.mem_of_getElem? hx
    have hDW := hD.keptNew h2
    have hbl := hB x.fl (by rw [hD.fl]; exact List.mem_map_of_mem hxm)
    have hlast := hD.ok.last x.fl (by rw [hD.fl]; exact List.mem_map_of_mem hxm)
    simp only [Ent.fl] at hbl hlast
    have cf1 := h1.hd.c1
    have hil : i < xs.length := (List.getElem?_eq_some_iff.1 hx).1
    have hysl : ys.length ≤ xs.length := by
      have := congrArg List.length h1.fl
      have e2 := congrArg List.length (crashF_name (takeD d i).files ks)
      simp only [crashD, takeD, hD.fl, List.length_map, List.length_take] at this e2
      omega
    have hxblt : x.blk < w.heap.size := (hD.files x hxm).box.lt
    have hfx : ∀ W', Kp [] w W' → FileAt W' x := fun W' hk => (hD.keptNew hk).files x hxm
    have hfound : ∀ W' k, Kp [] w W' → -9223372036854775808 ≤ k → k < 9223372036854775808 → Calls Tryz.prog 43 #[.pointer (some ⟨x.blk, 0, none⟩), .int .i64 k] W' (FoundP x k W') := fun W' k hk h0 h1 => cFound (hfx W' hk) hlast hbl k h0 h1
    have hmap : ∀ (k : Int) (W2 w3 : World) (b3 : Nat) (v3 : Value), k = ks.getD i 0 → Kp [w.heap.size] W W2 → KeepI ks w.heap.size w2.heap.size pf w ⟨sq, i + 1⟩ W2 → Kp [] W2 w3 → FileAt w3 ⟨x.name, b3, v3, (keptF x.fl k).bytes, (keptF x.fl k).last⟩ → (∀ j ∈ b3 :: own v3, W2.heap.size ≤ j) →
        ∃ w5, (Instr.mapUpdate 52 (.map (some mf)) (.string ⟨x.name.toArray⟩) (.pointer (some ⟨b3, 0, none⟩))).run Tryz.prog w3 = .ok () w5 ∧
          leftS w1.heap.size (KeepR [w2.heap.size + 1, p, mb]) (CrashI (fun i => crashD (takeD d i) ks) w1.heap.size pf mf ks w.heap.size w2.heap.size w) (fun _ _ _ => False) ⟨sq, i⟩ (Sr.nx ⟨sq, i⟩ x) W .normal { tmps := #[], defers := [] } w5 ∧
          (w5.cell? ⟨w2.heap.size, 0, none⟩ = some (.pointer (some ⟨pf, 0, none⟩)) ∧ w5.cell? ⟨pf, 1, none⟩ = some (.map (some mf))) := fun k W2 w3 b3 v3 hk kW hKI k3 hfe hn3 => by
      have hW2 : Disk W2 pf mf ys (crashD (takeD d i) ks) := h1.kept kW (fun j hj hm => by rw [List.mem_singleton] at hm; have := h4 j hj; omega)
      have hm3 : OwnsM w3 mf ys := hW2.map.kept k3 (by simp)
      obtain ⟨w5, hrun, hown5, k5⟩ := storeF hm3 h1.rise (by unfold maxLen; omega) ⟨x.name, b3, v3, (keptF x.fl k).bytes, (keptF x.fl k).last⟩ (hD.names x hxm)
      obtain ⟨hD5, mv5⟩ := hW2.snoc (d' := crashD (takeD d (i + 1)) ks) ⟨x.name, b3, v3, (keptF x.fl k).bytes, (keptF x.fl k).last⟩ k3 hfe (fun j hj => hn3 j hj) k5 hown5 (before_crash (x := x) hD.fl hD.rise ks hx) (by rw [hk]; exact crash_succ (x := x) hD.fl ks hx) (okCrash (okTake hD.ok _) ks)
      have k25 : Kp [mf] W2 w5 := (k3.mono (T := [mf]) (by simp)).trans k5 (fun _ h => .inl h)
      have kA : Kp [w.heap.size, mf] W w5 := (kW.mono (T := [w.heap.size, mf]) (fun j hj => .inl (by simp at hj; simp [hj]))).trans k25 (fun j hj => .inl (by simp at hj; simp [hj]))
      obtain ⟨ra, rc, r1, r2, r3, r4, r6, r5⟩ := hKI
      have hfblt := World.block_lt_of_cell? _ _ r5
      have hkblt := World.block_lt_of_cell? _ _ r1
      refine ⟨w5, hrun, ⟨⟨kA.size, fun j o hj ho _ => (kA.block j (Array.getElem?_eq_some_iff.1 ho).1 (by simp; omega)).trans ho⟩, KeepR.ofKp kA (fun j hj => ?_) (fun q hq => ?_), ⟨_, hD5, h2.trans kA (fun j hj => .inr (by simp at hj; omega)), Nat.le_trans h3 kA.size, fun j hj => ?_, fun q hq => ?_⟩, ra, rc, ?_, ?_, r3, r4, r6, ?_⟩, ?_, ?_⟩
      · simp at hj ⊢; omega
      · have := h5 q hq; simp; omega
      · rcases mv5.new j hj with h | h
        · exact h4 j h
        · have := h2.size; have := kW.size; omega
      · have h6 := h5 q hq
        refine ⟨h6.1, Nat.lt_of_lt_of_le h6.2.1 kA.size, fun hm => ?_⟩
        rcases mv5.new q hm with h | h
        · exact h6.2.2 h
        · have := kW.size; omega
      · exact (k25.cell (p := ⟨w.heap.size, 0, none⟩) hkblt (by simp; omega)).trans r1
      · exact (k25.frozen (p := ⟨w.heap.size, 0, none⟩) hkblt (by simp; omega)).trans r2
      · exact (k25.cell (p := ⟨w2.heap.size, 0, none⟩) hfblt (by simp; omega)).trans r5
      · exact (k25.cell (p := ⟨w2.heap.size, 0, none⟩) hfblt (by simp; omega)).trans r5
      · exact hD5.hd.c1
    rcases Nat.lt_or_ge i ks.length with hik | hik
    · obtain ⟨k, rest, hdr⟩ : ∃ k rest, ks.drop i = k :: rest := ⟨ks[i], ks.drop (i + 1), (List.drop_eq_getElem_cons hik)⟩
      have hdr1 : ks.drop (i + 1) = rest := by
        have : (ks.drop i).drop 1 = ks.drop (i + 1) := by rw [List.drop_drop]
        rw [← this, hdr]; rfl
      have hkk : k = ks.getD i 0 := by
        have : (ks.drop i)[0]? = some k := by rw [hdr]; rfl
        rw [List.getElem?_drop] at this
        simp at this
        simp [this]
      have Hkk := hid hkk
      have hkm := hk64 k (by have : k ∈ ks.drop i := by rw [hdr]; simp
                             exact List.mem_of_mem_drop this)
      rw [hdr] at g1 g3 g4
      rcases g3 with hn | ⟨g, o, rfl, hcs⟩
      · cases hn
      have hcw := cell_kp h2 (hcs 0 k rfl)
      rw [Nat.add_zero] at hcw
      simp only [List.length_cons] at g1 g4
      have hglt : g < w.heap.size := World.block_lt_of_cell? _ _ (hcs 0 k rfl)
      have htl : Ints w (some ⟨g, o + 1, none⟩) rest := Ints.tail (.inr ⟨g, o, rfl, hcs⟩)
      obtain ⟨m, hm⟩ : ∃ m, Hid (rest.length = m) := ⟨_, rfl⟩
      rw [hm.out] at g1 g4
      have hW2 : ∀ a', Ints w a' rest → ∀ c', rest.length ≤ c' → c' ≤ 9223372036854775807 → Kp [w.heap.size] W (W.setCell ⟨w.heap.size, 0, none⟩ (.slice a' m c')).drew ∧ KeepI ks w.heap.size w2.heap.size pf w ⟨sq, i + 1⟩ (W.setCell ⟨w.heap.size, 0, none⟩ (.slice a' m c')).drew := fun a' ha c' hc' hc2 => by
        have kS : Kp [w.heap.size] W (W.setCell ⟨w.heap.size, 0, none⟩ (.slice a' m c')) := (Kp.refl _ _).setCell (p := ⟨w.heap.size, 0, none⟩) (by simp) _
        refine ⟨kS.drew, a', c', ?_, ?_, ?_, ?_, hc2, ?_⟩
        · simp only [hdr1, hm.out]; exact World.cell?_setCell_same _ _ _ g1
        · exact (World.frozen?_setCell _ _ _ _).trans g2
        · simp only [hdr1]; exact ha
        · simp only [hdr1]; exact hc'
        · exact (kS.cell (p := ⟨w2.heap.size, 0, none⟩) (World.block_lt_of_cell? _ _ g5) (by simp; omega)).trans g5
      have hrl : rest.length = m := hm.out
      by_cases hc1 : c = 1
      · subst hc1
        have hm0 : m = 0 := by omega
        have hrn : rest = [] := List.length_eq_zero_iff.1 (by omega)
        subst hm0
        obtain ⟨kW, hKI⟩ := hW2 (some ⟨g, o, none⟩) (.inl hrn) 0 (by omega) (by omega)
        clear hW2 hdr hdr1 hcs htl hrn hrl hm hx h5 h4 hysl hil hkk
        gi_wp2_with fail
        refine wpIn_mono (Q := fun e a' w' => e = Exit.normal ∧ a' = { tmps := #[.pointer (some ⟨p, 0, none⟩), .slice ka ks.length kc, undef, .pointer (some ⟨w.heap.size, 0, none⟩), .pointer none, .pointer (some ⟨w2.heap.size, 0, none⟩), encStr x.name, .pointer (some ⟨x.blk, 0, none⟩), .int .i64 k, .pointer (some ⟨p, 0, none⟩), .pointer (some ⟨p, 0, none⟩), .pointer (some ⟨p, 0, none⟩), .int .i64 (d.room : Int), .pointer (some ⟨pf, 0, none⟩), .pointer (some ⟨p, 0, none⟩), .func (.func 68) #[] #[.pointer (some ⟨w2.heap.size + 1, 0, none⟩)], encStr x.name, .pointer (some ⟨x.blk, 0, none⟩), .slice (some ⟨g, o, none⟩) 1 1, .int .i64 1, .bool true, .slice (some ⟨g, o, none⟩) 1 1, .pointer (some ⟨g, o, none⟩), .int .i64 k, .slice (some ⟨g, o, none⟩) 1 1, .slice (some ⟨g, o, none⟩) 0 0, undef, undef, undef, undef, undef, undef, undef, undef, undef], defers := [] } ∧ w' = (W.setCell ⟨w.heap.size, 0, none⟩ (.slice (some ⟨g, o, none⟩) 0 0)).drew) ?_ ?_
        · gi_region
          all_goals exact ⟨rfl, rfl, rfl⟩
        · rintro e1 a1 W1 ⟨rfl, rfl, rfl⟩
          have hkW2 : Kp [] w (W.setCell ⟨w.heap.size, 0, none⟩ (.slice (some ⟨g, o, none⟩) 0 0)).drew := h2.trans kW (fun j hj => .inr (by simp at hj; omega))
          have cfb2 := hKI.choose_spec.choose_spec.2.2.2.2.2
          have cf2 : ((W.setCell ⟨w.heap.size, 0, none⟩ (.slice (some ⟨g, o, none⟩) 0 0)).drew).cell? ⟨pf, 1, none⟩ = some (.map (some mf)) := (kW.cell (p := ⟨pf, 1, none⟩) h1.hd.lt (by simp; omega)).trans cf1
          gi_wp2_with fail
          refine region_round (fun W' => W'.cell? ⟨w2.heap.size, 0, none⟩ = some (.pointer (some ⟨pf, 0, none⟩)) ∧ W'.cell? ⟨pf, 1, none⟩ = some (.map (some mf))) (by kernel_rfl) (by kernel_rfl) (by rintro ⟨_, _, hlo⟩; exact hlo) ?_ (fun hHeld => ?_)
          · exact ⟨cfb2, cf2⟩
          refine wpAnyH_take (i := 0) (v := ?_) rfl (by kernel_rfl) (by kernel_rfl) (by kernel_rfl) (fun _ _ _ h => h) (Or.inl ⟨by rfl, ?_⟩) (by assumption) ?_
          rotate_left
          · intro w hSw; (try dsimp only at hSw); go_simp <;> with_reducible rfl
          try simp only [Act.put, List.getElem_toArray, List.getElem_cons_zero, List.getElem_cons_succ, List.setIfInBounds_toArray, List.set_cons_zero, List.set_cons_succ]
          refine wpAnyH_take (i := 1) (v := ?_) rfl (by kernel_rfl) (by kernel_rfl) (by kernel_rfl) (fun _ _ _ h => h) (Or.inl ⟨by rfl, ?_⟩) (by assumption) ?_
          rotate_left
          · intro w hSw; (try dsimp only at hSw); go_simp <;> with_reducible rfl
          try simp only [Act.put, List.getElem_toArray, List.getElem_cons_zero, List.getElem_cons_succ, List.setIfInBounds_toArray, List.set_cons_zero, List.set_cons_succ]
          refine wpAnyH_take (i := 2) (v := ?_) rfl (by kernel_rfl) (by kernel_rfl) (by kernel_rfl) (fun _ _ _ h => h) (Or.inl ⟨by rfl, ?_⟩) (by assumption) ?_
          rotate_left
          · intro w hSw; (try dsimp only at hSw); go_simp <;> with_reducible rfl
          try simp only [Act.put, List.getElem_toArray, List.getElem_cons_zero, List.getElem_cons_succ, List.setIfInBounds_toArray, List.set_cons_zero, List.set_cons_succ]
          refine wpAnyH_take (i := 3) (v := ?_) rfl (by kernel_rfl) (by kernel_rfl) (by kernel_rfl) (fun _ _ _ h => h) (Or.inl ⟨by rfl, ?_⟩) (by assumption) ?_
          rotate_left
          · intro w hSw; (try dsimp only at hSw); go_simp <;> with_reducible rfl
          try simp only [Act.put, List.getElem_toArray, List.getElem_cons_zero, List.getElem_cons_succ, List.setIfInBounds_toArray, List.set_cons_zero, List.set_cons_succ]
          refine wpAnyH_take (i := 4) (v := ?_) rfl (by kernel_rfl) (by kernel_rfl) (by kernel_rfl) (fun _ _ _ h => h) (Or.inl ⟨by rfl, ?_⟩) (by assumption) ?_
          rotate_left
          · intro w hSw; (try dsimp only at hSw); go_simp <;> with_reducible rfl
          try simp only [Act.put, List.getElem_toArray, List.getElem_cons_zero, List.getElem_cons_succ, List.setIfInBounds_toArray, List.set_cons_zero, List.set_cons_succ]
          refine wpAnyH_take (i := 5) (v := ?_) rfl (by kernel_rfl) (by kernel_rfl) (by kernel_rfl) (fun _ _ _ h => h) (Or.inl ⟨by rfl, ?_⟩) (by assumption) ?_
          rotate_left
          · intro w hSw; (try dsimp only at hSw); go_simp <;> with_reducible rfl
          try simp only [Act.put, List.getElem_toArray, List.getElem_cons_zero, List.getElem_cons_succ, List.setIfInBounds_toArray, List.set_cons_zero, List.set_cons_succ]
          refine wpAnyH_take (i := 6) (v := ?_) rfl (by kernel_rfl) (by kernel_rfl) (by kernel_rfl) (fun _ _ _ h => h) (Or.inl ⟨by rfl, ?_⟩) (by assumption) ?_
          rotate_left
          · intro w hSw; (try dsimp only at hSw); go_simp <;> with_reducible rfl
          try simp only [Act.put, List.getElem_toArray, List.getElem_cons_zero, List.getElem_cons_succ, List.setIfInBounds_toArray, List.set_cons_zero, List.set_cons_succ]
          refine wpAnyH_ready (rs := [7]) (by kernel_rfl) (by simp) ?_
          refine AllReadyH.cons rfl (fun K hK => ?_) AllReadyH.nil
          go_simp
          refine (hfound _ k (hkW2.drew) hkm.1 hkm.2).mono ?_
          rintro e w3 ⟨b3, v3, rfl, hf3, hk3, hnew3⟩
          have hk3' : Kp [] (W.setCell ⟨w.heap.size, 0, none⟩ (.slice (some ⟨g, o, none⟩) 0 0)).drew w3 := ((Kp.refl [] _).drew).trans hk3 (by simp)
          (try go_wp2_with fail)
          refine hK.out _ _ ?_ (fun hHeld => ?_)
          · exact ⟨cell_kp hk3 hHeld.1, cell_kp hk3 hHeld.2⟩
          clear hK K
          try simp only [Act.put, List.getElem_toArray, List.getElem_cons_zero, List.getElem_cons_succ, List.setIfInBounds_toArray, List.set_cons_zero, List.set_cons_succ]
          refine wpAnyH_ready (rs := [8]) (by kernel_rfl) (by simp) ?_
          refine AllReadyH.cons rfl (fun K hK => ?_) AllReadyH.nil
          go_simp
          obtain ⟨w5, hrun5, hpost5, hS5⟩ := hmap _ _ w3 b3 v3 Hkk.out kW hKI hk3' hf3 hnew3
          rw [hrun5]
          (try go_wp2_with fail)
          refine hK.out _ _ ?_ (fun hHeld => ?_)
          · exact hS5
          clear hK K
          try simp only [Act.put, List.getElem_toArray, List.getElem_cons_zero, List.getElem_cons_succ, List.setIfInBounds_toArray, List.set_cons_zero, List.set_cons_succ]
          refine wpAnyH_done (by kernel_rfl) ?_ _
          gi_wp2_with fail
          exact hpost5
      · have hc2 : 1 < c := by omega
        obtain ⟨kW, hKI⟩ := hW2 (some ⟨g, o + 1, none⟩) htl (c - 1) (by omega) (by omega)
        clear hW2 hdr hdr1 hcs htl hrl hm hx h5 h4 hysl hil hkk
        gi_wp2_with fail
        refine wpIn_mono (Q := fun e a' w' => e = Exit.normal ∧ a' = { tmps := #[.pointer (some ⟨p, 0, none⟩), .slice ka ks.length kc, undef, .pointer (some ⟨w.heap.size, 0, none⟩), .pointer none, .pointer (some ⟨w2.heap.size, 0, none⟩), encStr x.name, .pointer (some ⟨x.blk, 0, none⟩), .int .i64 k, .pointer (some ⟨p, 0, none⟩), .pointer (some ⟨p, 0, none⟩), .pointer (some ⟨p, 0, none⟩), .int .i64 (d.room : Int), .pointer (some ⟨pf, 0, none⟩), .pointer (some ⟨p, 0, none⟩), .func (.func 68) #[] #[.pointer (some ⟨w2.heap.size + 1, 0, none⟩)], encStr x.name, .pointer (some ⟨x.blk, 0, none⟩), .slice (some ⟨g, o, none⟩) (m + 1) c, .int .i64 ((m : Int) + 1), .bool true, .slice (some ⟨g, o, none⟩) (m + 1) c, .pointer (some ⟨g, o, none⟩), .int .i64 k, .slice (some ⟨g, o, none⟩) (m + 1) c, .slice (some ⟨g, o + 1, none⟩) m (c - 1), undef, undef, undef, undef, undef, undef, undef, undef, undef], defers := [] } ∧ w' = (W.setCell ⟨w.heap.size, 0, none⟩ (.slice (some ⟨g, o + 1, none⟩) m (c - 1))).drew) ?_ ?_
        · gi_region
          all_goals exact ⟨rfl, rfl, rfl⟩
        · rintro e1 a1 W1 ⟨rfl, rfl, rfl⟩
          have hkW2 : Kp [] w (W.setCell ⟨w.heap.size, 0, none⟩ (.slice (some ⟨g, o + 1, none⟩) m (c - 1))).drew := h2.trans kW (fun j hj => .inr (by simp at hj; omega))
          have cfb2 := hKI.choose_spec.choose_spec.2.2.2.2.2
          have cf2 : ((W.setCell ⟨w.heap.size, 0, none⟩ (.slice (some ⟨g, o + 1, none⟩) m (c - 1))).drew).cell? ⟨pf, 1, none⟩ = some (.map (some mf)) := (kW.cell (p := ⟨pf, 1, none⟩) h1.hd.lt (by simp; omega)).trans cf1
          gi_wp2_with fail
          refine region_round (fun W' => W'.cell? ⟨w2.heap.size, 0, none⟩ = some (.pointer (some ⟨pf, 0, none⟩)) ∧ W'.cell? ⟨pf, 1, none⟩ = some (.map (some mf))) (by kernel_rfl) (by kernel_rfl) (by rintro ⟨_, _, hlo⟩; exact hlo) ?_ (fun hHeld => ?_)
          · exact ⟨cfb2, cf2⟩
          refine wpAnyH_take (i := 0) (v := ?_) rfl (by kernel_rfl) (by kernel_rfl) (by kernel_rfl) (fun _ _ _ h => h) (Or.inl ⟨by rfl, ?_⟩) (by assumption) ?_
          rotate_left
          · intro w hSw; (try dsimp only at hSw); go_simp <;> with_reducible rfl
          try simp only [Act.put, List.getElem_toArray, List.getElem_cons_zero, List.getElem_cons_succ, List.setIfInBounds_toArray, List.set_cons_zero, List.set_cons_succ]
          refine wpAnyH_take (i := 1) (v := ?_) rfl (by kernel_rfl) (by kernel_rfl) (by kernel_rfl) (fun _ _ _ h => h) (Or.inl ⟨by rfl, ?_⟩) (by assumption) ?_
          rotate_left
          · intro w hSw; (try dsimp only at hSw); go_simp <;> with_reducible rfl
          try simp only [Act.put, List.getElem_toArray, List.getElem_cons_zero, List.getElem_cons_succ, List.setIfInBounds_toArray, List.set_cons_zero, List.set_cons_succ]
          refine wpAnyH_take (i := 2) (v := ?_) rfl (by kernel_rfl) (by kernel_rfl) (by kernel_rfl) (fun _ _ _ h => h) (Or.inl ⟨by rfl, ?_⟩) (by assumption) ?_
          rotate_left
          · intro w hSw; (try dsimp only at hSw); go_simp <;> with_reducible rfl
          try simp only [Act.put, List.getElem_toArray, List.getElem_cons_zero, List.getElem_cons_succ, List.setIfInBounds_toArray, List.set_cons_zero, List.set_cons_succ]
          refine wpAnyH_take (i := 3) (v := ?_) rfl (by kernel_rfl) (by kernel_rfl) (by kernel_rfl) (fun _ _ _ h => h) (Or.inl ⟨by rfl, ?_⟩) (by assumption) ?_
          rotate_left
          · intro w hSw; (try dsimp only at hSw); go_simp <;> with_reducible rfl
          try simp only [Act.put, List.getElem_toArray, List.getElem_cons_zero, List.getElem_cons_succ, List.setIfInBounds_toArray, List.set_cons_zero, List.set_cons_succ]
          refine wpAnyH_take (i := 4) (v := ?_) rfl (by kernel_rfl) (by kernel_rfl) (by kernel_rfl) (fun _ _ _ h => h) (Or.inl ⟨by rfl, ?_⟩) (by assumption) ?_
          rotate_left
          · intro w hSw; (try dsimp only at hSw); go_simp <;> with_reducible rfl
          try simp only [Act.put, List.getElem_toArray, List.getElem_cons_zero, List.getElem_cons_succ, List.setIfInBounds_toArray, List.set_cons_zero, List.set_cons_succ]
          refine wpAnyH_take (i := 5) (v := ?_) rfl (by kernel_rfl) (by kernel_rfl) (by kernel_rfl) (fun _ _ _ h => h) (Or.inl ⟨by rfl, ?_⟩) (by assumption) ?_
          rotate_left
          · intro w hSw; (try dsimp only at hSw); go_simp <;> with_reducible rfl
          try simp only [Act.put, List.getElem_toArray, List.getElem_cons_zero, List.getElem_cons_succ, List.setIfInBounds_toArray, List.set_cons_zero, List.set_cons_succ]
          refine wpAnyH_take (i := 6) (v := ?_) rfl (by kernel_rfl) (by kernel_rfl) (by kernel_rfl) (fun _ _ _ h => h) (Or.inl ⟨by rfl, ?_⟩) (by assumption) ?_
          rotate_left
          · intro w hSw; (try dsimp only at hSw); go_simp <;> with_reducible rfl
          try simp only [Act.put, List.getElem_toArray, List.getElem_cons_zero, List.getElem_cons_succ, List.setIfInBounds_toArray, List.set_cons_zero, List.set_cons_succ]
          refine wpAnyH_ready (rs := [7]) (by kernel_rfl) (by simp) ?_
          refine AllReadyH.cons rfl (fun K hK => ?_) AllReadyH.nil
          go_simp
          refine (hfound _ k (hkW2.drew) hkm.1 hkm.2).mono ?_
          rintro e w3 ⟨b3, v3, rfl, hf3, hk3, hnew3⟩
          have hk3' : Kp [] (W.setCell ⟨w.heap.size, 0, none⟩ (.slice (some ⟨g, o + 1, none⟩) m (c - 1))).drew w3 := ((Kp.refl [] _).drew).trans hk3 (by simp)
          (try go_wp2_with fail)
          refine hK.out _ _ ?_ (fun hHeld => ?_)
          · exact ⟨cell_kp hk3 hHeld.1, cell_kp hk3 hHeld.2⟩
          clear hK K
          try simp only [Act.put, List.getElem_toArray, List.getElem_cons_zero, List.getElem_cons_succ, List.setIfInBounds_toArray, List.set_cons_zero, List.set_cons_succ]
          refine wpAnyH_ready (rs := [8]) (by kernel_rfl) (by simp) ?_
          refine AllReadyH.cons rfl (fun K hK => ?_) AllReadyH.nil
          go_simp
          obtain ⟨w5, hrun5, hpost5, hS5⟩ := hmap _ _ w3 b3 v3 Hkk.out kW hKI hk3' hf3 hnew3
          rw [hrun5]
          (try go_wp2_with fail)
          refine hK.out _ _ ?_ (fun hHeld => ?_)
          · exact hS5
          clear hK K
          try simp only [Act.put, List.getElem_toArray, List.getElem_cons_zero, List.getElem_cons_succ, List.setIfInBounds_toArray, List.set_cons_zero, List.set_cons_succ]
          refine wpAnyH_done (by kernel_rfl) ?_ _
          gi_wp2_with fail
          exact hpost5
    · have hdr : ks.drop i = [] := List.drop_eq_nil_of_le hik
      have hdr1 : ks.drop (i + 1) = [] := List.drop_eq_nil_of_le (by omega)
      have Hkk : Hid ((0 : Int) = ks.getD i 0) := by show _ = _; simp [hik]
      have hKI : KeepI ks w.heap.size w2.heap.size pf w ⟨sq, i + 1⟩ W := ⟨a, c, by simp only [hdr1]; rw [hdr] at g1; exact g1, g2, by simp only [hdr1]; exact .inl rfl, by simp [hdr1], g6, g5⟩
      rw [hdr] at g1
      simp only [List.length_nil] at g1
      have hkW2 := h2
      have kW : Kp [w.heap.size] W W := Kp.refl _ _
      have cfb2 := g5
      have cf2 := cf1
      clear hdr hdr1 hx h5 h4 hysl hil g3 g4
      gi_wp2_with fail
      refine region_round (fun W' => W'.cell? ⟨w2.heap.size, 0, none⟩ = some (.pointer (some ⟨pf, 0, none⟩)) ∧ W'.cell? ⟨pf, 1, none⟩ = some (.map (some mf))) (by kernel_rfl) (by kernel_rfl) (by rintro ⟨_, _, hlo⟩; exact hlo) ?_ (fun hHeld => ?_)
      · exact ⟨cfb2, cf2⟩
      refine wpAnyH_take (i := 0) (v := ?_) rfl (by kernel_rfl) (by kernel_rfl) (by kernel_rfl) (fun _ _ _ h => h) (Or.inl ⟨by rfl, ?_⟩) (by assumption) ?_
      rotate_left
      · intro w hSw; (try dsimp only at hSw); go_simp <;> with_reducible rfl
      try simp only [Act.put, List.getElem_toArray, List.getElem_cons_zero, List.getElem_cons_succ, List.setIfInBounds_toArray, List.set_cons_zero, List.set_cons_succ]
      refine wpAnyH_take (i := 1) (v := ?_) rfl (by kernel_rfl) (by kernel_rfl) (by kernel_rfl) (fun _ _ _ h => h) (Or.inl ⟨by rfl, ?_⟩) (by assumption) ?_
      rotate_left
      · intro w hSw; (try dsimp only at hSw); go_simp <;> with_reducible rfl
      try simp only [Act.put, List.getElem_toArray, List.getElem_cons_zero, List.getElem_cons_succ, List.setIfInBounds_toArray, List.set_cons_zero, List.set_cons_succ]
      refine wpAnyH_take (i := 2) (v := ?_) rfl (by kernel_rfl) (by kernel_rfl) (by kernel_rfl) (fun _ _ _ h => h) (Or.inl ⟨by rfl, ?_⟩) (by assumption) ?_
      rotate_left
      · intro w hSw; (try dsimp only at hSw); go_simp <;> with_reducible rfl
      try simp only [Act.put, List.getElem_toArray, List.getElem_cons_zero, List.getElem_cons_succ, List.setIfInBounds_toArray, List.set_cons_zero, List.set_cons_succ]
      refine wpAnyH_take (i := 3) (v := ?_) rfl (by kernel_rfl) (by kernel_rfl) (by kernel_rfl) (fun _ _ _ h => h) (Or.inl ⟨by rfl, ?_⟩) (by assumption) ?_
      rotate_left
      · intro w hSw; (try dsimp only at hSw); go_simp <;> with_reducible rfl
      try simp only [Act.put, List.getElem_toArray, List.getElem_cons_zero, List.getElem_cons_succ, List.setIfInBounds_toArray, List.set_cons_zero, List.set_cons_succ]
      refine wpAnyH_take (i := 4) (v := ?_) rfl (by kernel_rfl) (by kernel_rfl) (by kernel_rfl) (fun _ _ _ h => h) (Or.inl ⟨by rfl, ?_⟩) (by assumption) ?_
      rotate_left
      · intro w hSw; (try dsimp only at hSw); go_simp <;> with_reducible rfl
      try simp only [Act.put, List.getElem_toArray, List.getElem_cons_zero, List.getElem_cons_succ, List.setIfInBounds_toArray, List.set_cons_zero, List.set_cons_succ]
      refine wpAnyH_take (i := 5) (v := ?_) rfl (by kernel_rfl) (by kernel_rfl) (by kernel_rfl) (fun _ _ _ h => h) (Or.inl ⟨by rfl, ?_⟩) (by assumption) ?_
      rotate_left
      · intro w hSw; (try dsimp only at hSw); go_simp <;> with_reducible rfl
      try simp only [Act.put, List.getElem_toArray, List.getElem_cons_zero, List.getElem_cons_succ, List.setIfInBounds_toArray, List.set_cons_zero, List.set_cons_succ]
      refine wpAnyH_take (i := 6) (v := ?_) rfl (by kernel_rfl) (by kernel_rfl) (by kernel_rfl) (fun _ _ _ h => h) (Or.inl ⟨by rfl, ?_⟩) (by assumption) ?_
      rotate_left
      · intro w hSw; (try dsimp only at hSw); go_simp <;> with_reducible rfl
      try simp only [Act.put, List.getElem_toArray, List.getElem_cons_zero, List.getElem_cons_succ, List.setIfInBounds_toArray, List.set_cons_zero, List.set_cons_succ]
      refine wpAnyH_ready (rs := [7]) (by kernel_rfl) (by simp) ?_
      refine AllReadyH.cons rfl (fun K hK => ?_) AllReadyH.nil
      go_simp
      refine (hfound _ 0 (hkW2.drew) (by omega) (by omega)).mono ?_
      rintro e w3 ⟨b3, v3, rfl, hf3, hk3, hnew3⟩
      have hk3' : Kp [] W w3 := ((Kp.refl [] _).drew).trans hk3 (by simp)
      (try go_wp2_with fail)
      refine hK.out _ _ ?_ (fun hHeld => ?_)
      · exact ⟨cell_kp hk3 hHeld.1, cell_kp hk3 hHeld.2⟩
      clear hK K
      try simp only [Act.put, List.getElem_toArray, List.getElem_cons_zero, List.getElem_cons_succ, List.setIfInBounds_toArray, List.set_cons_zero, List.set_cons_succ]
      refine wpAnyH_ready (rs := [8]) (by kernel_rfl) (by simp) ?_
      refine AllReadyH.cons rfl (fun K hK => ?_) AllReadyH.nil
      go_simp
      obtain ⟨w5, hrun5, hpost5, hS5⟩ := hmap _ _ w3 b3 v3 Hkk.out kW hKI hk3' hf3 hnew3
      rw [hrun5]
      (try go_wp2_with fail)
      refine hK.out _ _ ?_ (fun hHeld => ?_)
      · exact hS5
      clear hK K
      try simp only [Act.put, List.getElem_toArray, List.getElem_cons_zero, List.getElem_cons_succ, List.setIfInBounds_toArray, List.set_cons_zero, List.set_cons_succ]
      refine wpAnyH_done (by kernel_rfl) ?_ _
      gi_wp2_with fail
      exact hpost5
  case done =>
    rintro D' ⟨sq, i⟩ W hD' ⟨hsq, hS⟩ ⟨⟨ys, h1, h2, h3, h4, h5⟩, ⟨a, c, g1, g2, g3, g4, g6, g5⟩⟩ hK
    simp only at hS h1
    have e1 : takeD d i = d := by
      subst hS
      have : d.files.take xs.length = d.files := List.take_of_length_le (by rw [hD.fl]; simp)
      simp only [takeD, this]
    rw [e1] at h1
    have hkD : Kp [D'] W (W.putObj D' (.deferred none)) := ⟨rfl, rfl, rfl, by simp, fun k hk hn => World.putObj_heap_other (by simpa using hn)⟩
    have kD := h2.trans hkD (fun x hx => .inr (by simp at hx; omega))
    have hfin := h1.stands hkD (fun r hr => by rw [List.mem_singleton] at hr; subst hr; exact ⟨_, hK, rfl⟩) (by simp; omega)
    clear h1
    gi_wp2_with fail
    refine ⟨by simp, .inl ⟨_, _, rfl, run_takeDeferred hK, ?_⟩⟩
    exact ⟨_, results_tmp rfl _ _ _, _, _, ys, rfl, hfin, kD, fun k hk => by have := h4 k hk; omega⟩
  case stop =>
    rintro D' c s W _ _ h _
    exact h.elim
end Go.Proofs.YtpkoikennimonaaGreatDoor
end

section
namespace Go.Hay
open Go.RowKit
/-- Bytes put behind a file's end, and made to last. -/
def writeD (d : Dk) (nm b : List UInt8) : Dk × Int := if (appendD d nm b).2 ≠ 0 then appendD d nm b else doD (appendD d nm b).1 1 nm [] 0
/-- Create: the disk behind it, and its answer. -/
def createD (d : Dk) (nm : List UInt8) : Dk × Int := if (doD d 4 nm [] 0).2 ≠ 0 ∧ (doD d 4 nm [] 0).2 ≠ 42 then doD d 4 nm [] 0 else writeD (doD d 4 nm [] 0).1 nm []
theorem stepD_steps (d : Dk) : (stepD d).1.steps = d.steps + 1 ∧ (stepD d).1.files = d.files ∧ (stepD d).1.room = d.room := by
  unfold stepD
  split <;> exact ⟨rfl, rfl, rfl⟩
theorem appendD_steps (d : Dk) (nm b : List UInt8) : (appendD d nm b).1.steps ≤ d.steps + 1 := by
  unfold appendD
  split
  · simp
  split
  · simp
  split
  · simp
  · have h := (stepD_steps { d with files := grownF d.files nm b }).1
    dsimp only at h ⊢
    omega
theorem doD_steps (d : Dk) (c : Int) (nm to : List UInt8) (n : Int) : (doD d c nm to n).1.steps ≤ d.steps + 1 := by
  unfold doD
  split
  · simp
  split
  · have := (stepD_steps d).1; simp only; omega
  · have := (stepD_steps d).1; simp only; omega
theorem writeD_steps (d : Dk) (nm b : List UInt8) : (writeD d nm b).1.steps ≤ d.steps + 2 := by
  have h1 := appendD_steps d nm b
  unfold writeD
  split
  · omega
  · have := doD_steps (appendD d nm b).1 1 nm [] 0; omega
theorem createD_steps (d : Dk) (nm : List UInt8) : (createD d nm).1.steps ≤ d.steps + 3 := by
  have h1 := doD_steps d 4 nm [] 0
  unfold createD
  split
  · omega
  · have := writeD_steps (doD d 4 nm [] 0).1 nm []; omega
end Go.Hay
namespace Go.Proofs.YtpkoikennimonaaGreatDoor
open Go.RowKit Go.Hay
set_option linter.unusedVariables false
set_option linter.unusedSimpArgs false

/-- A log's own block. -/
structure Lg (w : World) (p dp : Nat) (nm : List UInt8) (v : Value) (sz : Int) : Prop where
  c0 : w.cell? ⟨p, 0, none⟩ = some (.pointer (some ⟨dp, 0, none⟩))
  c1 : w.cell? ⟨p, 1, none⟩ = some (.string ⟨nm.toArray⟩)
  c2 : w.cell? ⟨p, 2, none⟩ = some v
  c3 : w.cell? ⟨p, 3, none⟩ = some (.int .i64 sz)
  free : ∀ j, w.frozen? ⟨p, j, none⟩ = false
theorem Lg.lt {w : World} {p dp : Nat} {nm : List UInt8} {v : Value} {sz : Int} (h : Lg w p dp nm v sz) : p < w.heap.size := World.block_lt_of_cell? _ _ h.c0
theorem Lg.kept {w w' : World} {p dp : Nat} {nm : List UInt8} {v : Value} {sz : Int} {S : List Nat} (h : Lg w p dp nm v sz) (hk : Kp S w w') (hp : p ∉ S) : Lg w' p dp nm v sz :=
  ⟨(hk.cell (p := ⟨p, 0, none⟩) h.lt hp).trans h.c0, (hk.cell (p := ⟨p, 1, none⟩) h.lt hp).trans h.c1, (hk.cell (p := ⟨p, 2, none⟩) h.lt hp).trans h.c2, (hk.cell (p := ⟨p, 3, none⟩) h.lt hp).trans h.c3, fun j => (hk.frozen (p := ⟨p, j, none⟩) h.lt hp).trans (h.free j)⟩
theorem Lg.new (w : World) (dp : Nat) (nm : List UInt8) (v : Value) (sz : Int) (t : TypeId) : Lg (w.alloc (.cells #[.pointer (some ⟨dp, 0, none⟩), .string ⟨nm.toArray⟩, v, .int .i64 sz] t)) w.heap.size dp nm v sz :=
  ⟨World.cell?_alloc_new w _ _ 0, World.cell?_alloc_new w _ _ 1, World.cell?_alloc_new w _ _ 2, World.cell?_alloc_new w _ _ 3, fun j => World.frozen?_alloc_new w _ _ j⟩
theorem Lg.set2 {w : World} {p dp : Nat} {nm : List UInt8} {v : Value} {sz : Int} (h : Lg w p dp nm v sz) (u : Value) : Lg (w.setCell ⟨p, 2, none⟩ u) p dp nm u sz :=
  ⟨(setCell_off (by decide) _).trans h.c0, (setCell_off (by decide) _).trans h.c1, World.cell?_setCell_same _ _ _ h.c2, (setCell_off (by decide) _).trans h.c3, fun j => (World.frozen?_setCell _ _ _ _).trans (h.free j)⟩
theorem Lg.set3 {w : World} {p dp : Nat} {nm : List UInt8} {v : Value} {sz : Int} (h : Lg w p dp nm v sz) (u : Int) : Lg (w.setCell ⟨p, 3, none⟩ (.int .i64 u)) p dp nm v u :=
  ⟨(setCell_off (by decide) _).trans h.c0, (setCell_off (by decide) _).trans h.c1, (setCell_off (by decide) _).trans h.c2, World.cell?_setCell_same _ _ _ h.c3, fun j => (World.frozen?_setCell _ _ _ _).trans (h.free j)⟩
/-- A log: its block, its records; B: the blocks that these lie in. -/
structure Log (w : World) (p dp : Nat) (nm : List UInt8) (B : Nat → Prop) (v : Value) (L : List (List UInt8)) (sz : Int) : Prop where
  box : Lg w p dp nm v sz
  row : RowP B w v L
  np : ¬ B p
theorem Log.kept {w w' : World} {p dp : Nat} {nm : List UInt8} {B : Nat → Prop} {v : Value} {L : List (List UInt8)} {sz : Int} {S : List Nat} (h : Log w p dp nm B v L sz) (hk : Kp S w w') (hp : p ∉ S) (hS : ∀ k ∈ S, ¬ B k) : Log w' p dp nm B v L sz :=
  ⟨h.box.kept hk hp, h.row.kept hk hS, h.np⟩
theorem cLenQ {w : World} {p dp : Nat} {nm : List UInt8} {B : Nat → Prop} {v : Value} {L : List (List UInt8)} {sz : Int} (h : Log w p dp nm B v L sz) : Calls Tryz.prog 14 #[.pointer (some ⟨p, 0, none⟩)] w fun e w' => e = .returned (.int .i64 L.length) ∧ w' = w := by
  have c2 := h.box.c2
  have hlt := h.box.lt
  obtain ⟨a, c, rfl⟩ := rowPshape h.row
  go_enter Tryz.func14, Tryz.ntmps14
  go_wp2_with fail
  go_ret
  exact ⟨rfl, rfl⟩
theorem cSizeQ {w : World} {p dp : Nat} {nm : List UInt8} {B : Nat → Prop} {v : Value} {L : List (List UInt8)} {sz : Int} (h : Log w p dp nm B v L sz) : Calls Tryz.prog 11 #[.pointer (some ⟨p, 0, none⟩)] w fun e w' => e = .returned (.int .i64 sz) ∧ w' = w := by
  have c3 := h.box.c3
  have hlt := h.box.lt
  go_enter Tryz.func11, Tryz.ntmps11
  go_wp2_with fail
  go_ret
  exact ⟨rfl, rfl⟩
theorem ownQ (a : Option Addr) (n c : Nat) : own (.slice a n c) = blk a := by cases a <;> rfl
/-- gone, of a log. -/
theorem cGoneQ {w : World} {p dp : Nat} {nm : List UInt8} {B : Nat → Prop} {v : Value} {L : List (List UInt8)} {sz : Int} (h : Log w p dp nm B v L sz) (hf : L.length ≤ 4000000000000) (hb : ∀ x ∈ L, x.length ≤ 200000000000000) :
    Calls Tryz.prog 10 #[.pointer (some ⟨p, 0, none⟩)] w fun e w' => ∃ v, e = .returned v ∧ RowP (fun k => w.heap.size ≤ k) w' v L ∧ Kp [] w w' := by
  have hlt := h.row.lt
  have hc2 := h.box.c2
  obtain ⟨vs, hvl, hs, hfr, hel⟩ := h.row
  have hrow := h.row
  obtain ⟨a, c, l, rfl, hsee, hok, rfl⟩ := h.row.mono (C := fun k => k < w.heap.size) (fun k hk _ => hk) |>.bs
  refine cGone p a c l w hc2 hsee (fun y hy => ⟨(hok y hy).1.see, hb y.bs (by unfold bsl; exact List.mem_map.2 ⟨y, hy, rfl⟩)⟩) (by rw [bsl_len] at hf; exact hf) (fun k hk => hlt k (by rw [ownQ]; exact hk)) (fun y hy k hk => (hok y hy).2 k hk)
set_option maxHeartbeats 1000000 in
theorem cWriteQ {w : World} {p mb : Nat} {xs : List Ent} {d : Dk} (hD : Disk w p mb xs d) (hs : d.steps < 8000000000000000000) (hN : xs.length < 8000000000000000000) (hB : Small d) (name : List UInt8) (hk : name.length ≤ maxLen) (ab : Option Addr) (cb : Nat) (b : List UInt8) (hsee : Sees w ab b) (hoff : b ≠ [] → ∀ k ∈ blk ab, k ∉ foot p mb xs)
    (hlen : (fileOf d.files name).bytes.length + b.length ≤ 140737488355328) :
    Calls Tryz.prog 32 #[.pointer (some ⟨p, 0, none⟩), .string ⟨name.toArray⟩, .slice ab b.length cb] w (ChgP p mb xs (writeD d name b) w) := by
  have a1 := hid (cAppend hD (by omega) (by omega) hB name hk ab cb b hsee hoff hlen)
  have hst := appendD_steps d name b
  have hw1 : Hid ((appendD d name b).2 ≠ 0 → writeD d name b = appendD d name b) := fun h => by unfold writeD; rw [if_pos h]
  have hw2 : Hid ((appendD d name b).2 = 0 → writeD d name b = doD (appendD d name b).1 1 name [] 0) := fun h => by unfold writeD; rw [if_neg (by simpa using h)]
  obtain ⟨⟨d1, e1⟩, hr⟩ : ∃ r, Hid (appendD d name b = r) := ⟨_, rfl⟩
  obtain ⟨R, hR⟩ : ∃ R, Hid (writeD d name b = R) := ⟨_, rfl⟩
  rw [hr.out] at a1 hst hw1 hw2
  rw [hR.out] at hw1 hw2
  rw [hR.out]
  dsimp only at hst hw1 hw2
  clear hr hR hsee hoff
  go_enter Tryz.func32, Tryz.ntmps32
  go_wp2_with fail
  refine a1.out.mono ?_
  rintro e w1 ⟨rfl, xs1, hD1, m1⟩
  dsimp only at hD1
  have H1 := hid (And.intro hD1 m1)
  clear a1 hD1 m1
  by_cases he : e1 = 0
  · have hRe := hw2.out he
    subst he hRe
    have a2 := hid (cSync H1.out.1 (by omega) name hk [] 0)
    clear hw1 hw2
    go_wp2_with fail
    refine a2.out.mono ?_
    rintro e w2 ⟨rfl, xs2, hD2, m2⟩
    have H2 := hid (And.intro hD2 (H1.out.2.trans m2))
    clear a2 hD2 m2 H1
    go_wp2_with fail
    go_ret
    exact ⟨rfl, xs2, H2.out.1, H2.out.2⟩
  · have hRe := hw1.out he
    subst hRe
    have d1' : (e1 != 0) = true := by simpa using he
    have d2' : (e1 == 0) = false := by simpa using he
    clear hw1 hw2
    go_wp2_with fail
    go_ret
    exact ⟨rfl, xs1, H1.out.1, H1.out.2⟩
end Go.Proofs.YtpkoikennimonaaGreatDoor
end

section
namespace Go.Hay
open Go.RowKit
/-- Open: the disk behind it, and its answer. -/
def openD (q : List UInt8 → List (List UInt8) × Nat × Int) (d : Dk) (nm : List UInt8) : Dk × Int :=
  if d.dead then (d, 44) else match lookG Fl.name nm d.files with
    | none => (d, 42)
    | some f => if (q f.bytes).2.2 ≠ 0 then (d, (q f.bytes).2.2) else
      if (q f.bytes).2.1 < f.bytes.length then (if (doD d 2 nm [] (q f.bytes).2.1).2 ≠ 0 then doD d 2 nm [] (q f.bytes).2.1 else doD (doD d 2 nm [] (q f.bytes).2.1).1 1 nm [] 0) else doD d 1 nm [] 0
end Go.Hay
namespace Go.Proofs.YtpkoikennimonaaGreatDoor
open Go.RowKit Go.Hay
set_option linter.unusedVariables false
set_option linter.unusedSimpArgs false

/-- What Create and Open hand back: a log, or none. -/
def OpnP (dp mb : Nat) (xs : List Ent) (r : Dk × Int) (nm : List UInt8) (L : List (List UInt8)) (sz : Int) (w : World) (e : Ending) (w' : World) : Prop :=
  ∃ v0 xs', e = .returned (.tuple #[v0, .int .i64 r.2]) ∧ Disk w' dp mb xs' r.1 ∧ Mv (foot dp mb xs) w (foot dp mb xs') w' ∧ (r.2 ≠ 0 → v0 = .pointer none) ∧
    (r.2 = 0 → ∃ p v B, v0 = .pointer (some ⟨p, 0, none⟩) ∧ Log w' p dp nm B v L sz ∧ w.heap.size ≤ p ∧ (∀ k, B k → w.heap.size ≤ k ∧ k < w'.heap.size) ∧ ∀ k ∈ foot dp mb xs', ¬ B k ∧ k ≠ p)
theorem small_do4 {d : Dk} (hB : Small d) (nm : List UInt8) : Small (doD d 4 nm [] 0).1 := by
  unfold doD
  split
  · exact hB
  split
  · intro f hf
    rw [(stepD_steps d).2.1] at hf
    exact hB f hf
  · intro f hf
    simp only [changedF] at hf
    rw [if_neg (by decide), if_neg (by decide), if_neg (by decide)] at hf
    exact hB f (List.mem_filter.1 hf).1
theorem foot_len {w : World} {p mb : Nat} {xs : List Ent} {d : Dk} (h : Disk w p mb xs d) : xs.length = d.files.length := by rw [h.fl]; simp
theorem look4_none {d : Dk} {nm : List UInt8} (h : (doD d 4 nm [] 0).2 = 0 ∨ (doD d 4 nm [] 0).2 = 42) : lookG Fl.name nm (doD d 4 nm [] 0).1.files = none ∨ d.dead = true := by
  unfold doD refusedD at h ⊢
  by_cases hd : d.dead = true
  · exact .inr hd
  · left
    simp only [hd] at h ⊢
    cases hl : lookG Fl.name nm d.files with
    | none => simp [hl]
    | some f =>
      simp [hl] at h ⊢
      by_cases hs : (stepD d).2 = true
      · simp [hs] at h
      · simp [hs, changedF]
        unfold lookG dropG
        rw [List.find?_eq_none]
        intro x hx
        have := (List.mem_filter.1 hx).2
        simpa using this
set_option maxHeartbeats 4000000 in
theorem cCreate {w : World} {p mb : Nat} {xs : List Ent} {d : Dk} (hD : Disk w p mb xs d) (hs : d.steps < 7000000000000000000) (hN : d.files.length < 7000000000000000000) (hB : Small d) (name : List UInt8) (hk : name.length ≤ maxLen) :
    Calls Tryz.prog 16 #[.pointer (some ⟨p, 0, none⟩), .string ⟨name.toArray⟩] w (OpnP p mb xs (createD d name) name [] 0 w) := by
  have a1 := hid (cRemove hD (by omega) name hk [] 0)
  have hst := doD_steps d 4 name [] 0
  have hsm := small_do4 hB name
  have hlk := hid (@look4_none d name)
  have hN1 : (doD d 4 name [] 0).1.files.length ≤ d.files.length := by
    unfold doD
    split
    · exact Nat.le_refl _
    split
    · rw [(stepD_steps d).2.1]; exact Nat.le_refl _
    · simp only [changedF]
      rw [if_neg (by decide), if_neg (by decide), if_neg (by decide)]
      exact List.length_filter_le _ _
  have hw1 : Hid ((doD d 4 name [] 0).2 ≠ 0 → (doD d 4 name [] 0).2 ≠ 42 → createD d name = doD d 4 name [] 0) := fun h h' => by unfold createD; rw [if_pos ⟨h, h'⟩]
  have hw2 : Hid ((doD d 4 name [] 0).2 = 0 ∨ (doD d 4 name [] 0).2 = 42 → createD d name = writeD (doD d 4 name [] 0).1 name []) := fun h => by
    unfold createD
    rw [if_neg (fun hh => by rcases h with h | h; exact hh.1 h; exact hh.2 h)]
  obtain ⟨⟨d1, e1⟩, hr⟩ : ∃ r, Hid (doD d 4 name [] 0 = r) := ⟨_, rfl⟩
  obtain ⟨R, hR⟩ : ∃ R, Hid (createD d name = R) := ⟨_, rfl⟩
  rw [hr.out] at a1 hst hw1 hw2 hsm hN1 hlk
  rw [hR.out] at hw1 hw2
  rw [hR.out]
  dsimp only at hst hw1 hw2 hsm hN1 hlk
  clear hr hR
  go_enter Tryz.func16, Tryz.ntmps16
  go_wp2_with fail
  refine a1.out.mono ?_
  rintro e w1 ⟨rfl, xs1, hD1, m1⟩
  dsimp only at hD1
  have hx1 := foot_len hD1
  have hfl : Hid ((fileOf d1.files name).bytes.length + ([] : List UInt8).length ≤ 140737488355328) := by
    show _ ≤ _
    unfold fileOf
    cases hl : lookG Fl.name name d1.files with
    | none => simp
    | some f => simpa using hsm f (List.mem_of_find?_eq_some hl)
  have H1 := hid (And.intro hD1 m1)
  have HS := hid hsm
  clear a1 hD1 m1 hsm
  by_cases he : e1 = 0 ∨ e1 = 42
  · have hRe := hw2.out he
    have a2 := hid (cWriteQ H1.out.1 (by omega) (by omega) HS.out name hk none 0 [] (Sees.nil _ _) (fun h => absurd rfl h) hfl.out)
    have ev : (e1 != 0 && e1 != 42) = false := by rcases he with rfl | rfl <;> rfl
    have ev0 : (e1 != 0) = false ∨ (e1 != 42) = false := by rcases he with rfl | rfl; exact .inl rfl; exact .inr rfl
    have key : ∀ (E2 : Int) (d2 : Dk), Hid (writeD d1 name [] = (d2, E2)) → True := fun _ _ _ => trivial
    obtain ⟨⟨d2, e2⟩, hr2⟩ : ∃ r, Hid (writeD d1 name [] = r) := ⟨_, rfl⟩
    rw [hr2.out] at a2 hRe
    subst hRe
    clear hw1 hw2 hr2 key
    rcases he with rfl | rfl
    · clear ev ev0
      go_wp2_with fail
      refine a2.out.mono ?_
      rintro e w2 ⟨rfl, xs2, hD2, m2⟩
      dsimp only at hD2
      have H2 := hid (And.intro hD2 (H1.out.2.trans m2))
      clear a2 hD2 m2 H1
      by_cases h2 : e2 = 0
      · subst h2
        have Hn := hid (Lg.new w2 p name (.slice none 0 0) 0 73)
        have kn : Kp [] w2 (w2.alloc (.cells #[.pointer (some ⟨p, 0, none⟩), .string ⟨name.toArray⟩, .slice none 0 0, .int .i64 0] 73)) := (Kp.refl _ _).alloc _
        have HF : Hid (OpnP p mb xs (d2, 0) name [] 0 w (.returned (.tuple #[.pointer (some ⟨w2.heap.size, 0, none⟩), .int .i64 0])) (w2.alloc (.cells #[.pointer (some ⟨p, 0, none⟩), .string ⟨name.toArray⟩, .slice none 0 0, .int .i64 0] 73))) :=
          ⟨_, xs2, rfl, H2.out.1.keptNew kn, H2.out.2.trans (Mv.ofNew kn), fun h => absurd rfl h, fun _ => ⟨w2.heap.size, .slice none 0 0, fun _ => False, rfl, ⟨Hn.out, RowP.nil _ _, id⟩, H2.out.2.kp.size, fun k h => h.elim, fun k hk => ⟨id, fun e => by have := H2.out.1.lt k hk; omega⟩⟩⟩
        clear Hn kn H2
        go_wp2_with fail
        go_ret2
        exact HF.out
      · have dd : (e2 != 0) = true := by simpa using h2
        have dd2 : (e2 == 0) = false := by simpa using h2
        go_wp2_with fail
        go_ret2
        exact ⟨_, xs2, rfl, H2.out.1, H2.out.2, fun _ => rfl, fun h => absurd h h2⟩
    · clear ev ev0
      go_wp2_with fail
      refine a2.out.mono ?_
      rintro e w2 ⟨rfl, xs2, hD2, m2⟩
      dsimp only at hD2
      have H2 := hid (And.intro hD2 (H1.out.2.trans m2))
      clear a2 hD2 m2 H1
      by_cases h2 : e2 = 0
      · subst h2
        have Hn := hid (Lg.new w2 p name (.slice none 0 0) 0 73)
        have kn : Kp [] w2 (w2.alloc (.cells #[.pointer (some ⟨p, 0, none⟩), .string ⟨name.toArray⟩, .slice none 0 0, .int .i64 0] 73)) := (Kp.refl _ _).alloc _
        have HF : Hid (OpnP p mb xs (d2, 0) name [] 0 w (.returned (.tuple #[.pointer (some ⟨w2.heap.size, 0, none⟩), .int .i64 0])) (w2.alloc (.cells #[.pointer (some ⟨p, 0, none⟩), .string ⟨name.toArray⟩, .slice none 0 0, .int .i64 0] 73))) :=
          ⟨_, xs2, rfl, H2.out.1.keptNew kn, H2.out.2.trans (Mv.ofNew kn), fun h => absurd rfl h, fun _ => ⟨w2.heap.size, .slice none 0 0, fun _ => False, rfl, ⟨Hn.out, RowP.nil _ _, id⟩, H2.out.2.kp.size, fun k h => h.elim, fun k hk => ⟨id, fun e => by have := H2.out.1.lt k hk; omega⟩⟩⟩
        clear Hn kn H2
        go_wp2_with fail
        go_ret2
        exact HF.out
      · have dd : (e2 != 0) = true := by simpa using h2
        have dd2 : (e2 == 0) = false := by simpa using h2
        go_wp2_with fail
        go_ret2
        exact ⟨_, xs2, rfl, H2.out.1, H2.out.2, fun _ => rfl, fun h => absurd h h2⟩
  · have h0 : e1 ≠ 0 := fun h => he (.inl h)
    have h42 : e1 ≠ 42 := fun h => he (.inr h)
    have hRe := hw1.out h0 h42
    subst hRe
    have dd : (e1 != 0) = true := by simpa using h0
    have dd2 : (e1 != 42) = true := by simpa using h42
    clear hw1 hw2
    go_wp2_with fail
    go_ret2
    exact ⟨_, xs1, rfl, H1.out.1, H1.out.2, fun _ => rfl, fun h => absurd h h0⟩
end Go.Proofs.YtpkoikennimonaaGreatDoor
end

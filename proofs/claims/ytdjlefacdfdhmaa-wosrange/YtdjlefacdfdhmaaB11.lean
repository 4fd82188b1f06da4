/- What the laws ask beside a step: those at an epoch, all, gathered; how a purge is not seen. Arguments opened: versions, calls, scripts of them. (mkwopn.py) -/
import Derived.Test.YtdjlefacdfdhmaaB10
import Derived.ProofKit
import Derived.OpenShut
import Derived.ShutString
import Derived.ChangeOld
import Derived.Below
import Derived.Deep.Slices
section
namespace Go.Hay
open Go.RowKit
/-- What a purge at a mark takes away is not seen at the mark or above it. -/
theorem at_pur (e m : Int) (h : m ≤ e) (l : List Vn) : atV e (purV m l) = atV e l := by
  unfold atV purV
  rw [List.filter_filter]
  congr 1
  refine List.filter_congr fun x _ => ?_
  unfold seenV stays
  by_cases h1 : x.del = 0
  · simp [h1]
  · by_cases h2 : e < x.del
    · have : m < x.del := by omega
      simp [h2, this]
    · simp [h1, h2]
end Go.Hay
namespace Go.Proofs.Ytdjlefacdfdhmaa
open Go.RowKit Go.Hay
set_option linter.unusedVariables false
set_option linter.unusedSimpArgs false

theorem atPair {w : World} {p : Nat} {v : Value} {l : List Vn} (D : Wos w p v l) (e : Int) :
    ∃ w2, Kp [] w w2 ∧ (Calls Try.prog 12 #[.pointer (some ⟨p, 0, none⟩), .int .u64 e] w fun r w' => r = .returned (.func (.func 28) #[] #[.pointer (some ⟨w.heap.size, 0, none⟩), .pointer (some ⟨w.heap.size + 1, 0, none⟩)]) ∧ w' = w2) ∧
      Calls Try.prog 11 #[.func (.func 28) #[] #[.pointer (some ⟨w.heap.size, 0, none⟩), .pointer (some ⟨w.heap.size + 1, 0, none⟩)]] w2 (GoneP (atV e l) w2) := by
  have k2 : Kp [] w ((w.alloc (.cells #[.pointer (some ⟨p, 0, none⟩)] 23)).alloc (.cells #[.int .u64 e] 30)) := ((Kp.refl _ _).alloc _).alloc _
  refine ⟨_, k2, cAt p e w, cGoneAt (D.keptNew k2) w.heap.size (w.heap.size + 1) e ?_ ?_⟩
  · exact kpAt ((Kp.refl _ _).alloc _) (World.cell?_alloc_new w #[.pointer (some ⟨p, 0, none⟩)] 23 0)
  · have := World.cell?_alloc_new (w.alloc (.cells #[.pointer (some ⟨p, 0, none⟩)] 23)) #[.int .u64 e] 30 0
    rwa [World.size_alloc] at this
theorem allPair {w : World} {p : Nat} {v : Value} {l : List Vn} (D : Wos w p v l) :
    ∃ w2, Kp [] w w2 ∧ (Calls Try.prog 19 #[.pointer (some ⟨p, 0, none⟩)] w fun r w' => r = .returned (.func (.func 38) #[] #[.pointer (some ⟨w.heap.size, 0, none⟩)]) ∧ w' = w2) ∧
      Calls Try.prog 11 #[.func (.func 38) #[] #[.pointer (some ⟨w.heap.size, 0, none⟩)]] w2 (GoneP l w2) := by
  have k2 : Kp [] w (w.alloc (.cells #[.pointer (some ⟨p, 0, none⟩)] 23)) := (Kp.refl _ _).alloc _
  exact ⟨_, k2, cAll p w, cGoneAll (D.keptNew k2) w.heap.size (World.cell?_alloc_new w _ _ 0)⟩
/-- What was gathered: whatever is kept of it. -/
structure Got (n : Nat) (T : List Vn) (w : World) (a : Option Addr) (c : Nat) (L : List Vn) : Prop where
  like : Like L T
  row : VnE.Row w (.slice a L.length c) L
  new : ∀ k ∈ blk a, n ≤ k
  own : ∀ y ∈ L, Ownd n w y ∧ ∀ k ∈ blk y.a, k ∉ blk a
theorem Got.kept {n : Nat} {T : List Vn} {w w' : World} {a : Option Addr} {c : Nat} {L : List Vn} {S : List Nat} (h : Got n T w a c L) (hk : Kp S w w') (hS : ∀ k ∈ S, k < n) : Got n T w' a c L :=
  ⟨h.like, h.row.kept hk (fun k hk' hm => by rw [own_slice] at hk'; have := h.new k hk'; have := hS k hm; omega), h.new, fun y hy => ⟨(h.own y hy).1.kept hk (fun k hk' hm => by have := (h.own y hy).1.new k hk'; have := hS k hm; omega), (h.own y hy).2⟩⟩
theorem Got.see {n : Nat} {T : List Vn} {w : World} {a : Option Addr} {c : Nat} {L : List Vn} (h : Got n T w a c L) : VnE.See w a L := See.ofRow h.row
theorem Got.ok {n : Nat} {T : List Vn} {w : World} {a : Option Addr} {c : Nat} {L : List Vn} (h : Got n T w a c L) : ∀ y ∈ L, VnOk w y := fun y hy => (h.own y hy).1.ok
theorem len_at (e : Int) (l : List Vn) : (atV e l).length ≤ l.length := by unfold atV; rw [List.length_map]; exact List.length_filter_le _ _
theorem ok_at {w : World} {e : Int} {r : List Vn} (h : ∀ y ∈ r, VnOk w y) : ∀ y ∈ atV e r, VnOk w y := fun y hy => by
  unfold atV at hy
  obtain ⟨z, hz, rfl⟩ := List.mem_map.1 hy
  have hz' := h z (List.mem_filter.1 hz).1
  unfold asV
  split
  · exact hz'.era 0
  · exact hz'
end Go.Proofs.Ytdjlefacdfdhmaa
end

section
namespace Go.Proofs.Ytdjlefacdfdhmaa
open Go.ChangeShapes Go.WideShapes Go.ChangeAt Go.RowKit Go.Hay
set_option linter.unusedVariables false
set_option linter.unusedSimpArgs false

theorem Try.own : ownKnob Try.prog.godebug = none := by kernel_rfl
theorem Try.laidOut : laidOutB Try.prog = true := by kernel_rfl

/-- How many values a slice's datum holds, its spare places too. -/
def capD {H : Type} : DataW H → Nat
  | .slice e sp => e.length + sp.length
  | _ => 0
theorem bulk_pos {H : Type} (d : DataW H) : 1 ≤ Rows.uptoBulk d := by
  cases d with
  | lit l => cases l <;> simp [Rows.uptoBulk]
  | _ => simp [Rows.uptoBulk]
theorem bulkAll_ge {H : Type} (l : List (DataW H)) : l.length ≤ Rows.uptoBulkAll l := by
  induction l with
  | nil => simp
  | cons d l ih => have := bulk_pos d; simp only [Rows.uptoBulkAll, List.length_cons]; omega
theorem bulk_cap {H : Type} (d : DataW H) : capD d + 1 ≤ Rows.uptoBulk d := by
  cases d with
  | slice e sp => have := bulkAll_ge e; have := bulkAll_ge sp; simp only [capD, Rows.uptoBulk]; omega
  | lit l => cases l <;> simp [capD, Rows.uptoBulk]
  | _ => simp [capD, Rows.uptoBulk]
theorem bulkAll_map {H : Type} (n : Nat) (D : Nat → DataW H) (f : Nat → Nat) (h : ∀ i, i < n → f i ≤ Rows.uptoBulk (D i)) : ((List.range n).map f).sum ≤ Rows.uptoBulkAll ((List.range n).map D) := by
  have gen : ∀ l : List Nat, (∀ i ∈ l, f i ≤ Rows.uptoBulk (D i)) → (l.map f).sum ≤ Rows.uptoBulkAll (l.map D) := by
    intro l
    induction l with
    | nil => intro _; simp
    | cons i l ih =>
      intro hl
      have h1 := hl i (by simp)
      have h2 := ih (fun j hj => hl j (by simp [hj]))
      simp only [List.map_cons, List.sum_cons, Rows.uptoBulkAll]
      omega
  exact gen _ (fun i hi => h i (List.mem_range.1 hi))
theorem mem_weightsAll {H : Type} {P : Program} {e : TypeId} {l : List (DataW H)} {d : DataW H} (hd : d ∈ l) {x : Nat} (hx : x ∈ d.weights P e) : x ∈ DataW.weightsAll P e l := by
  induction l with
  | nil => cases hd
  | cons y l ih =>
    rw [DataW.weightsAll, List.mem_append]
    rcases List.mem_cons.1 hd with rfl | h
    · exact .inl hx
    · exact .inr (ih h)
/-- Within the form's reach. -/
def Fit {H : Type} (t : TypeId) (d : DataW H) : Prop := (DataW.weights Try.prog t d).all (· ≤ reachBytes) = true

theorem openEls {α : Type} [Inhabited α] (E : El α) {t e : TypeId} (ht : Try.prog.underlying t = some (.slice e)) (hcells : Try.prog.cellsOf e = E.n) (B : Nat) (hB : Try.prog.bytesOf e = B)
    {H : Type} {enc : TypeId × Value → H} {W : World} (ok : α → Prop) (Q : α → Prop) (bk : α → Nat)
    (op : ∀ fuel cs x, DataW.trod enc Try.prog W 0 (fun _ => true) true fuel e cs = some x → cs.length = E.n → ∃ y : α, ok y ∧ cs = E.c y ∧ (Fit e x.1 → Q y) ∧ bk y ≤ Rows.uptoBulk x.1)
    {a : Option Addr} {len cap : Nat} {d : DataW H} {ps : List MemPlace} (h : DataW.Trod enc Try.prog W 0 (fun _ => true) true t (.slice a len cap) d ps) :
    ∃ l : List α, len = l.length ∧ E.See W a l ∧ (∀ y ∈ l, ok y) ∧ l.length ≤ cap ∧ cap ≤ maxLen ∧ (a = none → cap = 0) ∧ (Fit t d → cap * B ≤ 140737488351232 ∧ ∀ y ∈ l, Q y) ∧ (l.map bk).sum ≤ Rows.uptoBulk d ∧ cap + 1 ≤ Rows.uptoBulk d := by
  obtain ⟨fuel, hf⟩ := h
  rcases Go.Deep.open_slice ht hf with ⟨hcs, hx⟩ | ⟨x, len', cap', m, n, D, Pl, hcs, _, hl, hmx, hm, hx, hcell⟩
  · simp [Value.cells] at hcs
    obtain ⟨rfl, rfl, rfl⟩ := hcs
    cases hx
    exact ⟨[], rfl, .inl rfl, by simp, Nat.le_refl _, Nat.zero_le _, fun _ => rfl, fun _ => ⟨by omega, by simp⟩, by simp, by simp [Rows.uptoBulk]⟩
  · simp [Value.cells] at hcs
    obtain ⟨rfl, rfl, rfl⟩ := hcs
    cases hx
    have hm' : m = cap := by simpa using hm
    subst hm'
    rw [hcells] at hcell
    obtain ⟨Y, hY⟩ := Go.Deep.choose_lt (α := α) (n := len) (p := fun i y => ok y ∧ (∀ k u, (E.c y)[k]? = some u → W.cell? ((x.add (i * E.n)).add k) = some u) ∧ (Fit e (D i) → Q y) ∧ bk y ≤ Rows.uptoBulk (D i)) (fun i hi => by
      obtain ⟨cs', h1, h2⟩ := hcell i (by omega)
      obtain ⟨_, hlen, hc⟩ := World.cells?_some h1
      obtain ⟨y, g1, rfl, g2, g3⟩ := op _ _ _ h2 hlen
      refine ⟨y, g1, fun k u hu => ?_, g2, g3⟩
      have hk : k < E.n := by have := (List.getElem?_eq_some_iff.1 hu).1; rwa [E.len] at this
      exact (hc k hk).trans hu)
    refine ⟨(List.range len).map Y, by simp, ?_, ?_, by simpa using hl, hmx, fun h => (by cases h), fun hfit => ?_, ?_, ?_⟩
    · cases hlen : len with
      | zero => exact .inl rfl
      | succ k =>
        obtain ⟨b, off, spot⟩ := x
        have h0 : 0 < (E.c (Y 0)).length := by rw [E.len]; exact E.pos
        have hc0 := (hY 0 (by omega)).2.1 0 _ (List.getElem?_eq_getElem h0)
        have hspot : spot = none := by
          have := World.cell?_spot hc0
          simpa [Addr.add] using this
        subst hspot
        refine .inr ⟨b, off, rfl, fun j u hu => ?_⟩
        rw [← hlen] at hu
        have hj : j < ((List.range len).map Y).length * E.n := by have := (List.getElem?_eq_some_iff.1 hu).1; rwa [El.cs_length] at this
        have hpos := E.pos
        have hq : j / E.n < len := by
          rw [List.length_map, List.length_range] at hj
          exact Nat.div_lt_of_lt_mul (by rw [Nat.mul_comm]; exact hj)
        have hr : j % E.n < E.n := Nat.mod_lt _ hpos
        have hje : j = j / E.n * E.n + j % E.n := by rw [Nat.mul_comm]; exact (Nat.div_add_mod j E.n).symm
        have hget : ((List.range len).map Y)[j / E.n]? = some (Y (j / E.n)) := by rw [List.getElem?_map, List.getElem?_range hq]; rfl
        rw [hje, El.cs_get E hget hr] at hu
        have hcc := (hY _ hq).2.1 _ _ hu
        rw [Addr.add_lit, Addr.add_lit, Nat.add_assoc, ← hje] at hcc
        exact hcc
    · intro y hy
      obtain ⟨i, hi, rfl⟩ := List.mem_map.1 hy
      exact (hY i (List.mem_range.1 hi)).1
    · unfold Fit at hfit
      simp only [DataW.weights, ht] at hfit
      rw [List.all_cons, Bool.and_eq_true] at hfit
      refine ⟨?_, fun y hy => ?_⟩
      · have := of_decide_eq_true hfit.1
        simp only [List.length_map, List.length_range, hB, reachBytes] at this
        rwa [show len + (m - len) = m by omega] at this
      · obtain ⟨i, hi, rfl⟩ := List.mem_map.1 hy
        refine (hY i (List.mem_range.1 hi)).2.2.1 (List.all_eq_true.2 fun x hx => List.all_eq_true.1 hfit.2 x ?_)
        rw [List.mem_append]
        exact .inl (mem_weightsAll (List.mem_map_of_mem hi) hx)
    · have := bulkAll_map len D (fun i => bk (Y i)) (fun i hi => (hY i hi).2.2.2)
      simp only [List.map_map, Rows.uptoBulk]
      have e : (List.range len).map (bk ∘ Y) = (List.range len).map (fun i => bk (Y i)) := rfl
      rw [e]
      omega
    · have := bulk_cap (.slice ((List.range len).map D) ((List.range (m - len)).map fun j => D (len + j)) : DataW H)
      simp only [capD, List.length_map, List.length_range] at this
      omega

theorem cellsVal : Try.prog.cellsOf 64 = 4 := by kernel_rfl
theorem bytesVal : Try.prog.bytesOf 64 = 40 := by kernel_rfl
theorem cellsIn : Try.prog.cellsOf 3 = 1 := by kernel_rfl
theorem cellsBo : Try.prog.cellsOf 4 = 1 := by kernel_rfl
theorem cellsLo : Try.prog.cellsOf 2 = 1 := by kernel_rfl
theorem cellsSt : Try.prog.cellsOf 9 = 1 := by kernel_rfl
theorem cellsU8 : Try.prog.cellsOf 30 = 1 := by kernel_rfl
theorem cellsU4 : Try.prog.cellsOf 40 = 1 := by kernel_rfl
theorem cellsRw : Try.prog.cellsOf 43 = 1 := by kernel_rfl
theorem cellsRi : Try.prog.cellsOf 42 = 2 := by kernel_rfl
theorem cellsVn : Try.prog.cellsOf 45 = 4 := by kernel_rfl
theorem bytesVn : Try.prog.bytesOf 45 = 48 := by kernel_rfl
/-- A version that came in: all but how great its row may be. -/
structure VnI (w : World) (x : Vn) : Prop where
  see : VE.See w x.a x.row
  cap : x.row.length ≤ x.c
  nil : x.a = none → x.c = 0
  e0 : 0 ≤ x.ep
  n0 : 0 ≤ x.num
  d0 : 0 ≤ x.del
def FewV (x : Vn) : Prop := x.row.length * 40 ≤ 140737488355328
theorem VnI.ok {w : World} {x : Vn} (h : VnI w x) (f : FewV x) : VnOk w x := ⟨h.see, h.cap, h.nil, f⟩
section
variable {H : Type} {enc : TypeId × Value → H} {W : World}
theorem openVl {fuel : Nat} {cs : List Value} {x : DataW H × List MemPlace} (h : DataW.trod enc Try.prog W 0 (fun _ => true) true fuel 64 cs = some x) (hcs : cs.length = 4) :
    ∃ t : Val, cs = VE.c t := by
  obtain ⟨c0, c1, c2, c3, rfl⟩ : ∃ c0 c1 c2 c3, cs = [c0, c1, c2, c3] := by
    match cs, hcs with
    | [c0, c1, c2, c3], _ => exact ⟨c0, c1, c2, c3, rfl⟩
  obtain ⟨xs, n, _, rfl, _, hlen, hf⟩ := DataW.trod_struct Try.underlying64 h
  match xs, hlen with
  | [y0, y1, y2, y3], _ =>
    have h0 := hf 0 _ rfl
    have h1 := hf 1 _ rfl
    have h2 := hf 2 _ rfl
    have h3 := hf 3 _ rfl
    simp [cellsIn, cellsBo, cellsLo, cellsSt] at h0 h1 h2 h3
    obtain ⟨k, e0, _, w0⟩ := DataW.trod_int Try.underlying3 h0
    obtain ⟨b, e1, _⟩ := DataW.trod_bool Try.underlying4 h1
    obtain ⟨n2, e2, _, w2⟩ := DataW.trod_int Try.underlying2 h2
    obtain ⟨s, e3, _, w3⟩ := DataW.trod_string Try.underlying9 h3
    simp at e0 e1 e2 e3
    subst e0 e1 e2 e3
    exact ⟨⟨k, b, n2, s⟩, rfl⟩
theorem openRw {fuel : Nat} {c : Value} {x : DataW H × List MemPlace} (h : DataW.trod enc Try.prog W 0 (fun _ => true) true fuel 43 [c] = some x) :
    ∃ (a : Option Addr) (cap : Nat) (l : List Val), c = .slice a l.length cap ∧ VE.See W a l ∧ l.length ≤ cap ∧ (a = none → cap = 0) ∧ (Fit 43 x.1 → l.length * 40 ≤ 140737488355328) := by
  have hv : ∃ a len cap, c = .slice a len cap := by
    rcases Go.Deep.open_slice Try.underlying43 h with ⟨hcs, _⟩ | ⟨a, len, cap, _, _, _, _, hcs, _⟩
    · exact ⟨none, 0, 0, by simpa using hcs⟩
    · exact ⟨_, _, _, by simpa using hcs⟩
  obtain ⟨a, len, cap, rfl⟩ := hv
  obtain ⟨l, rfl, hs, _, hl, hm, hn, hfit, _, hbk⟩ := openEls VE Try.underlying43 cellsVal 40 bytesVal (fun _ => True) (fun _ => True) (fun _ => 0)
    (fun fuel cs x hx hcs => by
      obtain ⟨t, e⟩ := openVl hx hcs
      exact ⟨t, trivial, e, fun _ => trivial, Nat.zero_le _⟩) (d := x.1) (ps := x.2) ⟨fuel, h⟩
  exact ⟨a, cap, l, rfl, hs, hl, hn, fun hf => by have := (hfit hf).1; omega⟩
theorem openRi {fuel : Nat} {c0 c1 : Value} {x : DataW H × List MemPlace} (h : DataW.trod enc Try.prog W 0 (fun _ => true) true fuel 42 [c0, c1] = some x) :
    ∃ e n : Int, c0 = .int .u64 e ∧ c1 = .int .u32 n ∧ 0 ≤ e ∧ 0 ≤ n := by
  obtain ⟨xs, n, _, rfl, _, hlen, hf⟩ := DataW.trod_struct Try.underlying42 h
  match xs, hlen with
  | [y0, y1], _ =>
    have h0 := hf 0 _ rfl
    have h1 := hf 1 _ rfl
    simp [cellsU8, cellsU4] at h0 h1
    obtain ⟨k, e0, _, w0⟩ := DataW.trod_int Try.underlying30 h0
    obtain ⟨m, e1, _, w1⟩ := DataW.trod_int Try.underlying40 h1
    simp at e0 e1
    exact ⟨k, m, e0, e1, (bounds_u64 w0).1, (bounds_u32 w1).1⟩
theorem openVn {fuel : Nat} {cs : List Value} {x : DataW H × List MemPlace} (h : DataW.trod enc Try.prog W 0 (fun _ => true) true fuel 45 cs = some x) (hcs : cs.length = 4) :
    ∃ y : Vn, VnI W y ∧ cs = VnE.c y ∧ (Fit 45 x.1 → FewV y) ∧ 0 ≤ Rows.uptoBulk x.1 := by
  obtain ⟨c0, c1, c2, c3, rfl⟩ : ∃ c0 c1 c2 c3, cs = [c0, c1, c2, c3] := by
    match cs, hcs with
    | [c0, c1, c2, c3], _ => exact ⟨c0, c1, c2, c3, rfl⟩
  obtain ⟨xs, n, _, rfl, _, hlen, hf⟩ := DataW.trod_struct Try.underlying45 h
  match xs, hlen with
  | [y0, y1, y2], _ =>
    have h0 := hf 0 _ rfl
    have h1 := hf 1 _ rfl
    have h2 := hf 2 _ rfl
    simp [cellsRi, cellsRw, cellsU8] at h0 h1 h2
    obtain ⟨e, n, rfl, rfl, e0, n0⟩ := openRi h0
    obtain ⟨a, cap, l, rfl, hs, hl, hn, hfew⟩ := openRw h1
    obtain ⟨d, ed, _, wd⟩ := DataW.trod_int Try.underlying30 h2
    simp at ed
    subst ed
    refine ⟨⟨e, n, a, cap, l, d⟩, ⟨hs, hl, hn, e0, n0, (bounds_u64 wd).1⟩, rfl, fun hfit => hfew (List.all_eq_true.2 fun z hz => List.all_eq_true.1 hfit z ?_), Nat.zero_le _⟩
    simp only [List.map_cons, List.map_nil, DataW.weights, Try.underlying45]
    simp [DataW.weightsEach, hz]
theorem openVers {a : Option Addr} {len cap : Nat} {d : DataW H} {ps : List MemPlace} (h : DataW.Trod enc Try.prog W 0 (fun _ => true) true 26 (.slice a len cap) d ps) :
    ∃ l : List Vn, len = l.length ∧ VnE.See W a l ∧ (∀ y ∈ l, VnI W y) ∧ l.length ≤ cap ∧ cap ≤ maxLen ∧ (a = none → cap = 0) ∧ (Fit 26 d → cap * 48 ≤ 140737488351232 ∧ ∀ y ∈ l, FewV y) ∧ (l.map fun y => 0).sum ≤ Rows.uptoBulk d ∧ cap + 1 ≤ Rows.uptoBulk d :=
  openEls VnE Try.underlying26 cellsVn 48 bytesVn (fun y => VnI W y) FewV (fun y => 0) (fun fuel cs x hx hcs => openVn hx hcs) h
set_option maxRecDepth 100000 in
theorem openVnV {base : Nat} {v : Value} {d : DataW H} {ps : List MemPlace} (hv : Value.okWide Try.prog W .any base 45 v)
    (h : DataW.Trod enc Try.prog W 0 (fun _ => true) true 45 v d ps) : ∃ y : Vn, v = y.v ∧ VnI W y ∧ (Fit 45 d → FewV y) := by
  obtain ⟨cs, rfl, hsz⟩ := okWide_struct Try.underlying45 hv
  rw [cellsVn] at hsz
  obtain ⟨fuel, hf⟩ := h
  obtain ⟨l⟩ := cs
  have hf' : DataW.trod enc Try.prog W 0 (fun _ => true) true fuel 45 l = some (d, ps) := hf
  obtain ⟨y, h1, h2, h3, _⟩ := openVn hf' (by simpa using hsz)
  subst h2
  exact ⟨y, rfl, h1, h3⟩
theorem cellsOp : Try.prog.cellsOf 61 = 8 := by kernel_rfl
theorem bytesOp : Try.prog.bytesOf 61 = 80 := by kernel_rfl
def FewP (x : OpV) : Prop := FewV x.v
theorem openOp {fuel : Nat} {cs : List Value} {x : DataW H × List MemPlace} (h : DataW.trod enc Try.prog W 0 (fun _ => true) true fuel 61 cs = some x) (hcs : cs.length = 8) :
    ∃ y : OpV, VnI W y.v ∧ cs = OpE.c y ∧ (Fit 61 x.1 → FewP y) ∧ 0 ≤ Rows.uptoBulk x.1 := by
  obtain ⟨c0, c1, c2, c3, c4, c5, c6, c7, rfl⟩ : ∃ c0 c1 c2 c3 c4 c5 c6 c7, cs = [c0, c1, c2, c3, c4, c5, c6, c7] := by
    match cs, hcs with
    | [c0, c1, c2, c3, c4, c5, c6, c7], _ => exact ⟨c0, c1, c2, c3, c4, c5, c6, c7, rfl⟩
  obtain ⟨xs, n, _, rfl, _, hlen, hf⟩ := DataW.trod_struct Try.underlying61 h
  match xs, hlen with
  | [y0, y1, y2, y3], _ =>
    have h0 := hf 0 _ rfl
    have h1 := hf 1 _ rfl
    have h2 := hf 2 _ rfl
    have h3 := hf 3 _ rfl
    simp [cellsIn, cellsVn, cellsRi, cellsU8] at h0 h1 h2 h3
    obtain ⟨k, ek, _, _⟩ := DataW.trod_int Try.underlying3 h0
    simp at ek
    subst ek
    obtain ⟨y, hy, he, hfew, _⟩ := openVn h1 rfl
    obtain ⟨ie, num, rfl, rfl, _, _⟩ := openRi h2
    obtain ⟨e, ee, _, _⟩ := DataW.trod_int Try.underlying30 h3
    simp at ee
    subst ee
    simp only [VnE, List.cons.injEq, and_true] at he
    obtain ⟨rfl, rfl, rfl, rfl⟩ := he
    refine ⟨⟨k, y, ie, num, e⟩, hy, rfl, fun hfit => hfew (List.all_eq_true.2 fun z hz => List.all_eq_true.1 hfit z ?_), Nat.zero_le _⟩
    simp only [List.map_cons, List.map_nil, DataW.weights, Try.underlying61]
    simp [DataW.weightsEach, hz]
theorem openWops {a : Option Addr} {len cap : Nat} {d : DataW H} {ps : List MemPlace} (h : DataW.Trod enc Try.prog W 0 (fun _ => true) true 22 (.slice a len cap) d ps) :
    ∃ l : List OpV, len = l.length ∧ OpE.See W a l ∧ (∀ y ∈ l, VnI W y.v) ∧ l.length ≤ cap ∧ cap ≤ maxLen ∧ (a = none → cap = 0) ∧ (Fit 22 d → cap * 80 ≤ 140737488351232 ∧ ∀ y ∈ l, FewP y) ∧ (l.map fun y => 0).sum ≤ Rows.uptoBulk d ∧ cap + 1 ≤ Rows.uptoBulk d :=
  openEls OpE Try.underlying22 cellsOp 80 bytesOp (fun y => VnI W y.v) FewP (fun y => 0) (fun fuel cs x hx hcs => openOp hx hcs) h
theorem cellsWW : Try.prog.cellsOf 57 = 3 := by kernel_rfl
theorem cellsWO : Try.prog.cellsOf 22 = 1 := by kernel_rfl
theorem openWSl {fuel : Nat} {c : Value} {x : DataW H × List MemPlace} (h : DataW.trod enc Try.prog W 0 (fun _ => true) true fuel 22 [c] = some x) :
    ∃ (a : Option Addr) (cap : Nat) (l : List OpV), c = .slice a l.length cap ∧ OpE.See W a l ∧ (∀ y ∈ l, VnI W y.v) ∧ (Fit 22 x.1 → l.length ≤ 1900000000000 ∧ ∀ y ∈ l, FewP y) := by
  have hv : ∃ a len cap, c = .slice a len cap := by
    rcases Go.Deep.open_slice Try.underlying22 h with ⟨hcs, _⟩ | ⟨a, len, cap, _, _, _, _, hcs, _⟩
    · exact ⟨none, 0, 0, by simpa using hcs⟩
    · exact ⟨_, _, _, by simpa using hcs⟩
  obtain ⟨a, len, cap, rfl⟩ := hv
  obtain ⟨l, rfl, hs, hok, hl, _, _, hfit, hb, hc⟩ := openWops (d := x.1) (ps := x.2) ⟨_, h⟩
  exact ⟨a, cap, l, rfl, hs, hok, fun hf => ⟨by have := (hfit hf).1; omega, (hfit hf).2⟩⟩
set_option maxRecDepth 100000 in
theorem openWWays {base : Nat} {v : Value} {d : DataW H} {ps : List MemPlace} (hv : Value.okWide Try.prog W .any base 57 v)
    (h : DataW.Trod enc Try.prog W 0 (fun _ => true) true 57 v d ps) : ∃ (a0 : Option Addr) (c0 : Nat) (l0 : List OpV) (a1 : Option Addr) (c1 : Nat) (l1 : List OpV) (a2 : Option Addr) (c2 : Nat) (l2 : List OpV), v = .agg #[.slice a0 l0.length c0, .slice a1 l1.length c1, .slice a2 l2.length c2] ∧
      (OpE.See W a0 l0 ∧ (∀ y ∈ l0, VnI W y.v)) ∧ (OpE.See W a1 l1 ∧ (∀ y ∈ l1, VnI W y.v)) ∧ (OpE.See W a2 l2 ∧ (∀ y ∈ l2, VnI W y.v)) ∧
      (Fit 57 d → (l0.length ≤ 1900000000000 ∧ ∀ y ∈ l0, FewP y) ∧ (l1.length ≤ 1900000000000 ∧ ∀ y ∈ l1, FewP y) ∧ (l2.length ≤ 1900000000000 ∧ ∀ y ∈ l2, FewP y)) := by
  obtain ⟨cs, rfl, hsz⟩ := okWide_struct Try.underlying57 hv
  rw [cellsWW] at hsz
  obtain ⟨fuel, hf⟩ := h
  obtain ⟨l⟩ := cs
  match l, hsz, hf with
  | [c0, c1, c2], _, hf =>
    have hf' : DataW.trod enc Try.prog W 0 (fun _ => true) true fuel 57 [c0, c1, c2] = some (d, ps) := hf
    obtain ⟨xs, n, _, he, _, hlen, hff⟩ := DataW.trod_struct Try.underlying57 hf'
    match xs, hlen with
    | [y0, y1, y2], _ =>
      have h0 := hff 0 _ rfl
      have h1 := hff 1 _ rfl
      have h2 := hff 2 _ rfl
      simp [cellsWO] at h0 h1 h2
      obtain ⟨a0, k0, l0, e0, s0, o0, f0⟩ := openWSl h0
      obtain ⟨a1, k1, l1, e1, s1, o1, f1⟩ := openWSl h1
      obtain ⟨a2, k2, l2, e2, s2, o2, f2⟩ := openWSl h2
      subst e0 e1 e2
      have hd : d = DataW.agg (List.map (fun x => x.fst) [y0, y1, y2]) := congrArg Prod.fst he
      refine ⟨a0, k0, l0, a1, k1, l1, a2, k2, l2, rfl, ⟨s0, o0⟩, ⟨s1, o1⟩, ⟨s2, o2⟩, fun hfit => ?_⟩
      rw [hd] at hfit
      have hin : ∀ z, (z ∈ DataW.weights Try.prog 22 y0.1 ∨ z ∈ DataW.weights Try.prog 22 y1.1 ∨ z ∈ DataW.weights Try.prog 22 y2.1) → decide (z ≤ reachBytes) = true := fun z hz => by
        refine List.all_eq_true.1 hfit z ?_
        simp only [List.map_cons, List.map_nil, DataW.weights, Try.underlying57]
        simp [DataW.weightsEach]
        exact hz
      exact ⟨f0 (List.all_eq_true.2 fun z hz => hin z (.inl hz)), f1 (List.all_eq_true.2 fun z hz => hin z (.inr (.inl hz))), f2 (List.all_eq_true.2 fun z hz => hin z (.inr (.inr hz)))⟩
end
end Go.Proofs.Ytdjlefacdfdhmaa
end

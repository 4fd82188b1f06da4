/- The reference's call Crash. The law's own step: to go on with what a crash leaves (10); step, whole. There are never more bytes than there is room; what is refused for want of room is refused whole: the walk. -/
import Derived.Test.YtgllkonbgigcbaaB5
import Derived.Test.YtgllkonbgigcbaaB6
import Derived.Test.YtgllkonbgigcbaaB9
import Derived.Deep.RegionHeld3
import Derived.Test.YtgllkonbgigcbaaB13
section
namespace Go.Proofs.Ytgllkonbgigcbaa
open Go.RowKit Go.Hay
set_option linter.unusedVariables false
set_option linter.unusedSimpArgs false

def RFE : El RF where
  n := 3
  c f := RF.c f
  len _ := rfl
  one _ u hu := by simp [RF.c] at hu; rcases hu with rfl | rfl | rfl <;> rfl
  pos := by decide
/-- One file more, for the walk. -/
theorem wpAppFE {w : World} {ops : Array Oper} {rest : List Oper} {o : Oper} {a : Act} {Q : Exit → Act → World → Prop} (hgd : o.guard = none) (s x : Operand)
    (ho : o.op = .call { callee := .builtin .append, args := #[s, x], argTypes := #[26, 26] })
    (v : Value) (l : List RF) (hs : a.eval s = v) (hown : RFE.Row w v l) (y : RF) (q : Nat) (hq : w.heap.size = q) (hx : a.eval x = .slice (some ⟨q, 0, none⟩) 1 1) (hb : l.length ≤ 1000000000000)
    (hK : ∀ l' a' c' w', Hid (l' = l ++ [y]) → RFE.Row w' (.slice a' l'.length c') l' → Kp (own v) w w' → (∀ k ∈ blk a', k ∈ own v ∨ w.heap.size ≤ k) → wpList Try.prog ops Q rest (a.put o.dst (.slice a' l'.length c')) w') :
    wpList Try.prog ops Q (o :: rest) a (w.alloc (.cells #[.string ⟨y.name.toArray⟩, .slice y.ba y.bytes.length y.bc, .int .i64 (y.last : Int)] 45)) := by
  obtain ⟨i0, hi, hz0, hz1, hz2⟩ := infoF
  subst hq
  have kk : Kp [] w (w.alloc (.cells #[.string ⟨y.name.toArray⟩, .slice y.ba y.bytes.length y.bc, .int .i64 (y.last : Int)] 45)) := (Kp.refl _ _).alloc _
  have hs1 : Src Try.prog 3 26 (.slice (some ⟨w.heap.size, 0, none⟩) 1 1) 1 (RFE.cs [y]) (w.alloc (.cells #[.string ⟨y.name.toArray⟩, .slice y.ba y.bytes.length y.bc, .int .i64 (y.last : Int)] 45)) := by
    refine Src.ofSlice _ Try.underlying26 ⟨w.heap.size, 0, none⟩ 1 1 _ rfl ?_ (El.cs_one RFE [y])
    intro j u hu
    rw [Addr.add_lit, Nat.zero_add]
    match j, hu with
    | 0, hu => cases hu; exact World.cell?_alloc_new w _ _ 0
    | 1, hu => cases hu; exact World.cell?_alloc_new w _ _ 1
    | 2, hu => cases hu; exact World.cell?_alloc_new w _ _ 2
    | j + 3, hu => simp [El.cs, RFE, RF.c] at hu
  refine wpAppG (E := RFE) hgd s x _ _ _ ho i0 _ 48 Try.underlying26 hi hz0 hz1 hz2 rfl v l hs (hown.keptNew kk) _ [y] hx hs1 (by simp only [List.length_cons, List.length_nil]; omega) (by simp only [List.length_cons, List.length_nil]; omega) ?_
  intro l' a' c' w' hl hr hk hn
  refine hK l' a' c' w' hl hr ((kk.mono (T := own v) (by simp)).trans hk (fun _ h => .inl h)) (fun k hk' => ?_)
  rcases hn k hk' with h1 | h1
  · exact .inl h1
  · exact .inr (by have := kk.size; omega)
theorem RFE.fls {w : World} {a : Option Addr} {l : List RF} (h : RFE.See w a l) : Fls w a l := by
  rcases h with h | ⟨g, o, rfl, hc⟩
  · exact .inl h
  · refine .inr ⟨g, o, rfl, fun j x hx => ?_⟩
    have e := fun k (hk : k < 3) => El.cs_get RFE hx (k := k) hk
    refine ⟨hc _ _ (by have := e 0 (by omega); simpa [RFE, RF.c] using this), ?_, ?_⟩
    · rw [Nat.add_assoc]; exact hc _ _ (by have := e 1 (by omega); simpa [RFE, RF.c] using this)
    · rw [Nat.add_assoc]; exact hc _ _ (by have := e 2 (by omega); simpa [RFE, RF.c] using this)
theorem crashF_take : ∀ (l : List Fl) (ks : List Int) (j : Nat) (x : Fl), l[j]? = some x → crashF (l.take (j + 1)) ks = crashF (l.take j) ks ++ [keptF x (ks.getD j 0)]
  | l, ks, j, x, h => by
    have hj := (List.getElem?_eq_some_iff.1 h).1
    have he := (List.getElem?_eq_some_iff.1 h).2
    rw [List.take_succ_eq_append_getElem hj, he, crashF_snoc]
    simp [Nat.min_eq_left (Nat.le_of_lt hj)]
/-- Where it stands behind j files. -/
def CrI (w w1 : World) (r : RD) (ks : List Int) (j : Nat) (wn : World) : Prop :=
  ∃ (l' : List RF) (a : Option Addr) (c : Nat), B6 wn (w.heap.size + 1 + 1) (.int .i64 r.room) (.int .i64 0) (.slice a l'.length c) (.bool false) (.bool false) (.int .i64 0) ∧ RFE.Row wn (.slice a l'.length c) l' ∧ Kp [w.heap.size + 1 + 1] w1 wn ∧ l'.map RF.fl = crashF ((r.l.map RF.fl).take j) ks ∧ (∀ f ∈ l', FSee wn f ∧ ∀ k ∈ f.ft, w1.heap.size ≤ k ∧ k ∉ blk a) ∧ (∀ k ∈ blk a, w1.heap.size ≤ k) ∧ l'.length = j
theorem rowOwn {w : World} {a : Option Addr} {n c : Nat} {l : List RF} (h : RFE.Row w (.slice a n c) l) : own (.slice a n c) = blk a := by
  obtain ⟨_, _, e, _, _, _, _, h⟩ := h.see
  cases e
  exact h
theorem FSee.keep {w w' : World} {f : RF} {S : List Nat} (h : FSee w f) (hk : Kp S w w') (hn : ∀ k ∈ f.ft, k ∉ S) : FSee w' f :=
  ⟨h.1.kept' hk (fun hb k hk' => hn k (by simp only [RF.ft]; rw [if_neg hb]; exact hk')), h.2⟩
theorem FSee.lt {w : World} {f : RF} (h : FSee w f) : ∀ k ∈ f.ft, k < w.heap.size := fun k hk => by
  unfold RF.ft at hk
  split at hk
  · cases hk
  · rename_i hb; exact h.1.lt hb k hk
/-- One round. -/
theorem CrI.next {w w1 wr we w2 w3 : World} {r : RD} {ks : List Int} {j : Nat} {l' l2 : List RF} {a a2 : Option Addr} {c c2 : Nat} {x f' : RF} (hx : r.l[j]? = some x) (hq : w.heap.size + 1 + 1 < w1.heap.size)
    (bq : B6 wr (w.heap.size + 1 + 1) (.int .i64 r.room) (.int .i64 0) (.slice a l'.length c) (.bool false) (.bool false) (.int .i64 0)) (hrow : RFE.Row wr (.slice a l'.length c) l') (k1 : Kp [w.heap.size + 1 + 1] w1 wr) (hm : l'.map RF.fl = crashF ((r.l.map RF.fl).take j) ks) (hs : ∀ f ∈ l', FSee wr f ∧ ∀ k ∈ f.ft, w1.heap.size ≤ k ∧ k ∉ blk a) (ha : ∀ k ∈ blk a, w1.heap.size ≤ k) (hlen : l'.length = j)
    (ke : Kp [] wr we) (hf : FSee we f') (hfn : ∀ k ∈ f'.ft, wr.heap.size ≤ k) (hfe : f'.fl = keptF x.fl (ks.getD j 0))
    (hl2 : l2 = l' ++ [f']) (hrow2 : RFE.Row w2 (.slice a2 l2.length c2) l2) (kA : Kp (own (.slice a l'.length c)) we w2) (hn2 : ∀ k ∈ blk a2, k ∈ own (.slice a l'.length c) ∨ we.heap.size ≤ k)
    (hw3 : w3 = w2.setCell ⟨w.heap.size + 1 + 1, 2, none⟩ (.slice a2 l2.length c2)) : CrI w w1 r ks (j + 1) w3 := by
  have eo := rowOwn hrow
  rw [eo] at kA hn2
  have hra := hrow.lt
  rw [eo] at hra
  have z1 := k1.size
  have z2 := ke.size
  have z3 := kA.size
  have hqa : w.heap.size + 1 + 1 ∉ blk a := fun h => by have := ha _ h; omega
  have bq2 := B6.keptS (bq.kept ke) kA hqa
  have k3 : Kp [w.heap.size + 1 + 1] w2 w3 := by rw [hw3]; exact kpSet _ _ _ _
  have hla2 : ∀ k ∈ blk a2, w1.heap.size ≤ k := fun k hk => by
    rcases hn2 k hk with h | h
    · exact ha k h
    · omega
  have off2 : ∀ k, k < we.heap.size → k ∉ blk a → k ∉ blk a2 := fun k hk hn hx => by
    rcases hn2 k hx with h | h
    · exact hn h
    · omega
  refine ⟨l2, a2, c2, ?_, hrow2.kept k3 (fun k hk h => ?_), (k1.trans (ke.mono (T := [w.heap.size + 1 + 1]) (by simp)) (fun x hx => .inl hx)).trans ((kA.mono (T := (w.heap.size + 1 + 1) :: blk a) (fun x hx => .inl (by simp [hx]))).trans k3 (fun x hx => .inl (by simp at hx; simp [hx]))) (fun x hx => ?_), ?_, fun f hf' => ?_, hla2, ?_⟩
  · rw [hw3]
    exact ⟨(setCell_off (by decide) _).trans bq2.c0, (setCell_off (by decide) _).trans bq2.c1, World.cell?_setCell_same _ _ _ bq2.c2, (setCell_off (by decide) _).trans bq2.c3, (setCell_off (by decide) _).trans bq2.c4, (setCell_off (by decide) _).trans bq2.c5, fun j => (World.frozen?_setCell _ _ _ _).trans (bq2.free j)⟩
  · rw [rowOwn hrow2] at hk
    simp at h
    subst h
    have := hla2 _ hk
    omega
  · rcases List.mem_cons.1 hx with h | h
    · exact .inl (by simp [h])
    · exact .inr (ha x h)
  · rw [hl2, List.map_append, hm, crashF_take (r.l.map RF.fl) ks j x.fl (by simp [hx])]
    simp [hfe]
  · rw [hl2] at hf'
    rcases List.mem_append.1 hf' with h | h
    · obtain ⟨h1, h2⟩ := hs f h
      have hlt := h1.lt
      refine ⟨((h1.keep ke (by simp)).keep kA (fun k hk => (h2 k hk).2)).keep k3 (fun k hk h => ?_), fun k hk => ⟨(h2 k hk).1, off2 k (by have := hlt k hk; omega) (h2 k hk).2⟩⟩
      simp at h
      have := (h2 k hk).1
      omega
    · simp at h
      subst h
      have hna : ∀ k ∈ f.ft, k ∉ blk a := fun k hk h => by have := hfn k hk; have := hra k h; omega
      have hlt := hf.lt
      refine ⟨(hf.keep kA hna).keep k3 (fun k hk h => ?_), fun k hk => ⟨by have := hfn k hk; omega, off2 k (hlt k hk) (hna k hk)⟩⟩
      simp at h
      have := hfn k hk
      omega
  · rw [hl2]; simp [hlen]
set_option maxHeartbeats 16000000 in
set_option maxRecDepth 100000 in
theorem cRefCrash (r : RD) (d : Dk) (w : World) (hr : RdOk w r) (hL : Like r d) (ho : Okd d) (hl : r.l.length ≤ 1000000000) (hB : ∀ f ∈ r.l, f.bytes.length ≤ 140737488355328) (ka : Option Addr) (kc : Nat) (ks : List Int) (hks : Ints w ka ks) (hkl : ks.length ≤ kc) (hkc : kc ≤ 9223372036854775807) (hk64 : ∀ k ∈ ks, -9223372036854775808 ≤ k ∧ k < 9223372036854775808) :
    Calls Try.prog 24 #[r.v, .slice ka ks.length kc] w (fun e w' => ∃ v, e = .returned v ∧ RefP [] (crashD d ks) w v w') := by
  obtain ⟨w0, hw0, k0, bx0, br0, hsz0⟩ := boxRR r w
  obtain ⟨w1, hw1, k1, bc1, hsz1⟩ : ∃ w1, w0.alloc (.cells #[.int .i64 r.room, .int .i64 0, .slice none 0 0, .bool false, .bool false, .int .i64 0] 28) = w1 ∧ Kp [] w0 w1 ∧ B6 w1 (w.heap.size + 1 + 1) (.int .i64 r.room) (.int .i64 0) (.slice none 0 0) (.bool false) (.bool false) (.int .i64 0) ∧ w.heap.size + 1 + 1 < w1.heap.size := by
    have e : w0.heap.size = w.heap.size + 1 + 1 := by rw [← hw0]; simp
    exact ⟨_, rfl, (Kp.refl _ _).alloc _, B6.at _ e _ _ _ _ _ _ _, by simp; omega⟩
  have kw1 : Kp [] w w1 := k0.trans k1 (by simp)
  have bx1 := bx0.kept k1
  have br1 := br0.kept k1
  have hks1 := hks.kept kw1
  have hrl := hr.lt
  have hlast : ∀ f ∈ r.l, f.last ≤ f.bytes.length := fun f hf => by
    have := ho.last f.fl (by rw [← hL.files]; exact List.mem_map_of_mem hf)
    exact this
  have A0 : Hid (CrI w w1 r ks 0 w1) := ⟨[], none, 0, bc1, .inl ⟨rfl, rfl⟩, Kp.refl _ _, by simp [crashF], by simp, by simp [blk], rfl⟩
  have hrk : Hid (RdOk w r) := hr
  have hLk : Hid (Like r d) := hL
  have hcr : Hid (∀ j wn, CrI w w1 r ks j wn → CrI w w1 r ks j wn) := fun _ _ h => h
  have hnext : Hid (∀ {wr we w2 w3 : World} {j : Nat} {l' l2 : List RF} {a a2 : Option Addr} {c c2 : Nat} {x f' : RF} (hx : r.l[j]? = some x)
    (bq : B6 wr (w.heap.size + 1 + 1) (.int .i64 r.room) (.int .i64 0) (.slice a l'.length c) (.bool false) (.bool false) (.int .i64 0)) (hrow : RFE.Row wr (.slice a l'.length c) l') (k1 : Kp [w.heap.size + 1 + 1] w1 wr) (hm : l'.map RF.fl = crashF ((r.l.map RF.fl).take j) ks) (hs : ∀ f ∈ l', FSee wr f ∧ ∀ k ∈ f.ft, w1.heap.size ≤ k ∧ k ∉ blk a) (ha : ∀ k ∈ blk a, w1.heap.size ≤ k) (hlen : l'.length = j)
    (ke : Kp [] wr we) (hf : FSee we f') (hfn : ∀ k ∈ f'.ft, wr.heap.size ≤ k) (hfe : f'.fl = keptF x.fl (ks.getD j 0))
    (hl2 : l2 = l' ++ [f']) (hrow2 : RFE.Row w2 (.slice a2 l2.length c2) l2) (kA : Kp (own (.slice a l'.length c)) we w2) (hn2 : ∀ k ∈ blk a2, k ∈ own (.slice a l'.length c) ∨ we.heap.size ≤ k)
    (hw3 : w3 = w2.setCell ⟨w.heap.size + 1 + 1, 2, none⟩ (.slice a2 l2.length c2)), CrI w w1 r ks (j + 1) w3) := fun hx bq hrow k1 hm hs ha hlen ke hf hfn hfe hl2 hrow2 kA hn2 hw3 => CrI.next hx hsz1 bq hrow k1 hm hs ha hlen ke hf hfn hfe hl2 hrow2 kA hn2 hw3
  have hw0' := hid hw0
  have hw1' := hid hw1
  clear hr hL hw0 hw1
  obtain ⟨room, steps, fa, fc, l, armed, dead, left⟩ := r
  simp only [RD.v] at *
  go_enter Try.func24, Try.ntmps24
  go_wp2_with fail
  rw [hw0'.out, hw1'.out]
  go_loopw [6] (fun i wn => ∃ j : Nat, j ≤ l.length ∧ i = .int .i64 j ∧ CrI w w1 ⟨room, steps, fa, fc, l, armed, dead, left⟩ ks j wn) (fun i _ => l.length - (intOf i).toNat)
  case atStart => exact ⟨0, Nat.zero_le _, rfl, A0.out⟩
  case round =>
    clear A0
    obtain ⟨j, hj, rfl, l', av, cv, bq, hrow, kr, hm0, hs, ha, hlen0⟩ := hrel
    have hm := hid hm0
    have hlen := hid hlen0
    clear hm0 hlen0
    simp only at bq
    have bxr := B6.keptS bx1 kr (by simp <;> omega)
    have b2 := bxr.c2
    by_cases hjl : j < l.length
    · obtain ⟨x, hx⟩ : ∃ x, l[j]? = some x := ⟨l[j], by simp [hjl]⟩
      have hxm := List.mem_of_getElem? hx
      have hrr : RdOk wr (⟨room, steps, fa, fc, l, armed, dead, left⟩ : RD) := (hrk.out.keptNew kw1).kept kr (fun k hk h => by simp at h; have := hrl k hk; omega)
      obtain ⟨g, o, rfl, c0, c1, c2⟩ := hrr.fls.at hx
      have hse := hrr.see x hxm
      have hxl := hlast x hxm
      have hxB := hB x hxm
      have hbc := hse.2.2
      obtain ⟨wb, hwb⟩ : ∃ wb, wr.alloc (.cells #[.string ⟨x.name.toArray⟩, .slice x.ba x.bytes.length x.bc, .int .i64 (x.last : Int)] 45) = wb := ⟨_, rfl⟩
      have kb : Kp [] wr wb := by rw [← hwb]; exact (Kp.refl _ _).alloc _
      have bf : B3 wb wr.heap.size (.string ⟨x.name.toArray⟩) (.slice x.ba x.bytes.length x.bc) (.int .i64 (x.last : Int)) := by rw [← hwb]; exact B3.at _ rfl _ _ _ _
      have hqf : wr.heap.size ≠ w.heap.size + 1 + 1 := by have := bq.lt; omega
      have hxh := hid hx
      have hll : l'.length ≤ 1000000000000 := by have := hlen.out; omega
      have hwb' := hid hwb
      -- the rest of a round, for a number kn of bytes more
      have tail : True := trivial
      clear hx hwb
      by_cases hjk : j < ks.length
      · obtain ⟨kk, hkk⟩ : ∃ k, ks[j]? = some k := ⟨ks[j], by simp [hjk]⟩
        have hkb := hk64 kk (List.mem_of_getElem? hkk)
        rcases hks1 with hnil | ⟨gk, ok, rfl, hkc1⟩
        · rw [hnil] at hkk; simp at hkk
        have hkcell := hkc1 j kk hkk
        have hgd : ks.getD j 0 = kk := by simp [List.getD, hkk]
        have hgdh := hid hgd
        have hgkw : gk < w.heap.size := by
          rcases hks with hnil | ⟨gk', ok', e', hkc0⟩
          · rw [hnil] at hkk; simp at hkk
          · cases e'
            exact World.block_lt_of_cell? _ _ (hkc0 j kk hkk)
        have hkr : wr.cell? ⟨gk, ok + j, none⟩ = some (.int .i64 kk) := (kr.cell (p := ⟨gk, ok + j, none⟩) (World.block_lt_of_cell? _ _ hkcell) (by simp; omega)).trans hkcell
        have hgkr : gk < wr.heap.size := World.block_lt_of_cell? _ _ hkr
        clear hkc1 hkk hgd hkcell
        by_cases hkp : 0 < kk
        · have hdk : decide (0 < kk) = true := by simpa using hkp
          obtain ⟨kn, hkn⟩ : ∃ kn : Nat, Hid (kn = min kk.toNat (x.bytes.length - x.last)) := ⟨_, rfl⟩
          have hmin : min kk ((x.bytes.length : Int) - (x.last : Int)) = (kn : Int) := by have := hkn.out; omega
          have hws : IntKind.i64.wrap ((x.bytes.length : Int) - (x.last : Int)) = (x.bytes.length : Int) - (x.last : Int) := by rw [IntKind.wrap_i64]; omega
          have hkx : Hid (min (ks.getD j 0).toNat (x.bytes.length - x.last) = kn) := by show _ = _; rw [hgdh.out, hkn.out]
          have hknl : x.last + kn ≤ x.bytes.length := by have := hkn.out; omega
          have bfd := bf.kept (w' := wb.drew) (Kp.refl _ _).drew
          have hkd : wb.drew.cell? ⟨gk, ok + j, none⟩ = some (.int .i64 kk) := cell_kp kb.drew hkr
          have hSf : wb.drew.cell? ⟨gk, ok + j, none⟩ = some (.int .i64 kk) ∧ wb.drew.cell? ⟨wr.heap.size, 1, none⟩ = some (.slice x.ba x.bytes.length x.bc) ∧ wb.drew.cell? ⟨wr.heap.size, 2, none⟩ = some (.int .i64 (x.last : Int)) := ⟨hkd, bfd.c1, bfd.c2⟩
          go_wp2_with fail
          rw [hwb'.out]
          refine wp_region_held_drew (S := (fun A => A.cell? ⟨gk, ok + j, none⟩ = some (.int .i64 kk) ∧ A.cell? ⟨wr.heap.size, 1, none⟩ = some (.slice x.ba x.bytes.length x.bc) ∧ A.cell? ⟨wr.heap.size, 2, none⟩ = some (.int .i64 (x.last : Int)))) (by kernel_rfl) ?_ (fun hHeld => ?_)
          · exact hSf
          refine wpAnyH_take (i := 0) (v := ?_) rfl (by kernel_rfl) (by kernel_rfl) (by kernel_rfl) (fun _ _ _ h => h) (Or.inl ⟨by rfl, ?_⟩) (by assumption) ?_
          rotate_left
          · intro w hSw; (try dsimp only at hSw); go_simp <;> with_reducible rfl
          try simp only [Act.put, List.getElem_toArray, List.getElem_cons_zero, List.getElem_cons_succ, List.setIfInBounds_toArray, List.set_cons_zero, List.set_cons_succ]
          refine wpAnyH_take (i := 1) (v := ?_) rfl (by kernel_rfl) (by kernel_rfl) (by kernel_rfl) (fun _ _ _ h => h) (Or.inl ⟨by rfl, ?_⟩) (by assumption) ?_
          rotate_left
          · intro w hSw; (try dsimp only at hSw); go_simp <;> with_reducible rfl
          try simp only [Act.put, List.getElem_toArray, List.getElem_cons_zero, List.getElem_cons_succ, List.setIfInBounds_toArray, List.set_cons_zero, List.set_cons_succ]
          refine wpAnyH_take (i := 2) (v := ?_) rfl (by kernel_rfl) (by kernel_rfl) (by kernel_rfl) (fun _ _ _ h => h) (Or.inl ⟨by rfl, ?_⟩) (by assumption) ?_
          rotate_left
          · intro w hSw; (try dsimp only at hSw); go_simp <;> with_reducible rfl
          try simp only [Act.put, List.getElem_toArray, List.getElem_cons_zero, List.getElem_cons_succ, List.setIfInBounds_toArray, List.set_cons_zero, List.set_cons_succ]
          refine wpAnyH_take (i := 3) (v := ?_) rfl (by kernel_rfl) (by kernel_rfl) (by kernel_rfl) (fun _ _ _ h => h) (Or.inl ⟨by rfl, ?_⟩) (by assumption) ?_
          rotate_left
          · intro w hSw; (try dsimp only at hSw); go_simp <;> with_reducible rfl
          try simp only [Act.put, List.getElem_toArray, List.getElem_cons_zero, List.getElem_cons_succ, List.setIfInBounds_toArray, List.set_cons_zero, List.set_cons_succ]
          refine wpAnyH_take (i := 4) (v := ?_) rfl (by kernel_rfl) (by kernel_rfl) (by kernel_rfl) (fun _ _ _ h => h) (Or.inl ⟨by rfl, ?_⟩) (by assumption) ?_
          rotate_left
          · intro w hSw; (try dsimp only at hSw); go_simp <;> with_reducible rfl
          try simp only [Act.put, List.getElem_toArray, List.getElem_cons_zero, List.getElem_cons_succ, List.setIfInBounds_toArray, List.set_cons_zero, List.set_cons_succ]
          refine wpAnyH_take (i := 5) (v := ?_) rfl (by kernel_rfl) (by kernel_rfl) (by kernel_rfl) (fun _ _ _ h => h) (Or.inl ⟨by rfl, ?_⟩) (by assumption) ?_
          rotate_left
          · intro w hSw; (try dsimp only at hSw); go_simp <;> with_reducible rfl
          try simp only [Act.put, List.getElem_toArray, List.getElem_cons_zero, List.getElem_cons_succ, List.setIfInBounds_toArray, List.set_cons_zero, List.set_cons_succ]
          refine wpAnyH_take (i := 6) (v := ?_) rfl (by kernel_rfl) (by kernel_rfl) (by kernel_rfl) (fun _ _ _ h => h) (Or.inl ⟨by rfl, ?_⟩) (by assumption) ?_
          rotate_left
          · intro w hSw; (try dsimp only at hSw); go_simp <;> with_reducible rfl
          try simp only [Act.put, List.getElem_toArray, List.getElem_cons_zero, List.getElem_cons_succ, List.setIfInBounds_toArray, List.set_cons_zero, List.set_cons_succ]
          refine wpAnyH_take (i := 7) (v := ?_) rfl (by kernel_rfl) (by kernel_rfl) (by kernel_rfl) (fun _ _ _ h => h) (Or.inl ⟨by rfl, ?_⟩) (by assumption) ?_
          rotate_left
          · intro w hSw; (try dsimp only at hSw); go_simp <;> with_reducible rfl
          try simp only [Act.put, List.getElem_toArray, List.getElem_cons_zero, List.getElem_cons_succ, List.setIfInBounds_toArray, List.set_cons_zero, List.set_cons_succ]
          refine wpAnyH_take (i := 8) (v := ?_) rfl (by kernel_rfl) (by kernel_rfl) (by kernel_rfl) (fun _ _ _ h => h) (Or.inl ⟨by rfl, ?_⟩) (by assumption) ?_
          rotate_left
          · intro w hSw; (try dsimp only at hSw); go_simp <;> with_reducible rfl
          try simp only [Act.put, List.getElem_toArray, List.getElem_cons_zero, List.getElem_cons_succ, List.setIfInBounds_toArray, List.set_cons_zero, List.set_cons_succ]
          refine wpAnyH_take (i := 9) (v := ?_) rfl (by kernel_rfl) (by kernel_rfl) (by kernel_rfl) (fun _ _ _ h => h) (Or.inl ⟨by rfl, ?_⟩) (by assumption) ?_
          rotate_left
          · intro w hSw; (try dsimp only at hSw); go_simp <;> with_reducible rfl
          try simp only [Act.put, List.getElem_toArray, List.getElem_cons_zero, List.getElem_cons_succ, List.setIfInBounds_toArray, List.set_cons_zero, List.set_cons_succ]
          refine wpAnyH_take (i := 10) (v := ?_) rfl (by kernel_rfl) (by kernel_rfl) (by kernel_rfl) (fun _ _ _ h => h) (Or.inl ⟨by rfl, ?_⟩) (by assumption) ?_
          rotate_left
          · intro w hSw; (try dsimp only at hSw); go_simp <;> with_reducible rfl
          try simp only [Act.put, List.getElem_toArray, List.getElem_cons_zero, List.getElem_cons_succ, List.setIfInBounds_toArray, List.set_cons_zero, List.set_cons_succ]
          refine wpAnyH_take (i := 11) (v := ?_) rfl (by kernel_rfl) (by kernel_rfl) (by kernel_rfl) (fun _ _ _ h => h) (Or.inl ⟨by rfl, ?_⟩) (by assumption) ?_
          rotate_left
          · intro w hSw; (try dsimp only at hSw); go_simp <;> with_reducible rfl
          try simp only [Act.put, List.getElem_toArray, List.getElem_cons_zero, List.getElem_cons_succ, List.setIfInBounds_toArray, List.set_cons_zero, List.set_cons_succ]
          refine wpAnyH_done (by kernel_rfl) ?_ _
          obtain ⟨m, hmk⟩ : ∃ m : Nat, Hid (m = x.last + kn) := ⟨_, rfl⟩
          have hml : m ≤ x.bytes.length := by have := hmk.out; omega
          have hmc : m ≤ x.bc := by omega
          have hm0 : (0 : Int) ≤ (m : Int) := by omega
          have hm1 : (m : Int) ≤ (x.bc : Int) := by omega
          have hwa : IntKind.i64.wrap ((x.last : Int) + (kn : Int)) = (m : Int) := by have := hmk.out; rw [IntKind.wrap_i64]; omega
          have hjo := cJoined x.ba none x.bc 0 (x.bytes.take m) [] wb.drew ((hse.1.kept kb.drew (by simp)).front m) (Sees.nil _ _) (by simp; omega)
          have etl : (x.bytes.take m).length = m := by simp; omega
          rw [etl] at hjo
          simp only [List.length_nil, List.append_nil] at hjo
          have bfx : B3 wb.drew wr.heap.size (.string ⟨x.name.toArray⟩) (.slice x.ba x.bytes.length x.bc) (.int .i64 (x.last : Int)) := bf.kept (Kp.refl _ _).drew
          have hXs : wr.heap.size < wb.drew.heap.size := bfx.lt
          have f1 := bfx.c1
          have f2 := bfx.c2
          go_wp2_with fail
          refine hjo.mono ?_
          rintro e wa ⟨ja, jc, rfl, hja, ka', hjn⟩
          obtain ⟨ys, hys⟩ : ∃ ys, Hid (ys = x.bytes.take m) := ⟨_, rfl⟩
          rw [← hys.out] at hja ⊢
          have hyl : Hid (ys.length = m) := by show _ = _; rw [hys.out]; exact etl
          have bfa := bfx.kept ka'
          have p0 := bfa.c0
          have p1 := bfa.c1
          have p2 := bfa.c2
          have pf1 := bfa.free 1
          have pf2 := bfa.free 2
          obtain ⟨wc, hwc⟩ : ∃ wc, wa.setCell ⟨wr.heap.size, 1, none⟩ (.slice ja ys.length jc) = wc := ⟨_, rfl⟩
          have bfc : B3 wc wr.heap.size (.string ⟨x.name.toArray⟩) (.slice ja ys.length jc) (.int .i64 (x.last : Int)) := by rw [← hwc]; exact bfa.set1 _
          have kcc : Kp [wr.heap.size] wa wc := by rw [← hwc]; exact kpSet _ _ _ _
          have d1 := bfc.c1
          have d2 := bfc.c2
          have df2 := bfc.free 2
          obtain ⟨we, hwe⟩ : ∃ we, wc.setCell ⟨wr.heap.size, 2, none⟩ (.int .i64 (ys.length : Int)) = we := ⟨_, rfl⟩
          have bfe : B3 we wr.heap.size (.string ⟨x.name.toArray⟩) (.slice ja ys.length jc) (.int .i64 (ys.length : Int)) := by rw [← hwe]; exact bfc.set2 _
          have kce : Kp [wr.heap.size] wa we := kcc.trans (by rw [← hwe]; exact kpSet _ _ _ _) (fun x hx => .inl hx)
          have e0 := bfe.c0
          have e1 := bfe.c1
          have e2 := bfe.c2
          have hqfe := bfe.lt
          have ke : Kp [] wr we := ((kb.drew).trans ka' (by simp)).trans kce (fun x hx => .inr (by simp at hx; omega))
          have hrowe := hrow.keptNew ke
          have bqe := bq.kept ke
          have q2 := bqe.c2
          have qf2 := bqe.free 2
          have hqown : w.heap.size + 1 + 1 ∉ own (.slice av l'.length cv) := by rw [rowOwn hrow]; intro h; have := ha _ h; omega
          obtain ⟨_, _, eja, hsj, hnj, hlj⟩ := Row.parts hja
          cases eja
          have hfs : FSee we ⟨x.name, ja, jc, ys, ys.length⟩ := ⟨hsj.kept kce (fun k hk h => by have := hjn k hk; simp at h; omega), hnj, hlj⟩
          have hfn : ∀ k ∈ RF.ft ⟨x.name, ja, jc, ys, ys.length⟩, wr.heap.size ≤ k := fun k hk => by have := hjn k (mem_ft hk); omega
          have hfe : Hid (RF.fl ⟨x.name, ja, jc, ys, ys.length⟩ = keptF x.fl (ks.getD j 0)) := by
            show _ = _
            have e1 : x.last + min (ks.getD j 0).toNat (x.bytes.length - x.last) = m := by have := hkx.out; have := hmk.out; omega
            simp only [RF.fl, keptF]
            rw [e1, hyl.out, hys.out]
          have hfin : Hid (∀ l2 a2 c2 w2, l2 = l' ++ [⟨x.name, ja, jc, ys, ys.length⟩] → RFE.Row w2 (.slice a2 l2.length c2) l2 → Kp (own (.slice av l'.length cv)) we w2 → (∀ k ∈ blk a2, k ∈ own (.slice av l'.length cv) ∨ we.heap.size ≤ k) → CrI w w1 ⟨room, steps, some ⟨g, o, none⟩, fc, l, armed, dead, left⟩ ks (j + 1) (w2.setCell ⟨w.heap.size + 1 + 1, 2, none⟩ (.slice a2 l2.length c2))) := fun l2 a2 c2 w2 h1 h2 h3 h4 => hnext.out hxh.out bq hrow kr hm.out hs ha hlen.out ke hfs hfn hfe.out h1 h2 h3 h4 rfl
          clear hjo f1 f2 etl hja hsj bfa bfc bfe bqe hse hrr c0 c1 c2
          go_wp2_with (first | (refine wpAppFE rfl _ _ rfl _ l' rfl hrowe ⟨x.name, ja, jc, ys, ys.length⟩ _ rfl rfl hll ?_; intro l2 a2 c2 w2 hl2 hrow2 kA hn2; have v2 := (kA.cell (p := ⟨w.heap.size + 1 + 1, 2, none⟩) (World.block_lt_of_cell? _ _ q2) hqown).trans q2; have vf := (kA.frozen (p := ⟨w.heap.size + 1 + 1, 2, none⟩) (World.block_lt_of_cell? _ _ q2) hqown).trans qf2) | fail)
          exact ⟨⟨j + 1, by omega, by go_num, hfin.out l2 a2 c2 w2 hl2.out hrow2 kA hn2⟩, by simp [intOf]; omega⟩
        · have hdk : decide (0 < kk) = false := by simpa using hkp
          obtain ⟨kn, hkn⟩ : ∃ kn : Nat, Hid (kn = 0) := ⟨_, rfl⟩
          have hkx : Hid (min (ks.getD j 0).toNat (x.bytes.length - x.last) = kn) := by show _ = _; rw [hgdh.out, hkn.out]; omega
          have hknl : x.last + kn ≤ x.bytes.length := by have := hkn.out; omega
          have hmk : Hid (x.last = x.last + kn) := by show _ = _; have := hkn.out; omega
          have hml : x.last ≤ x.bytes.length := by have := hmk.out; omega
          have hmc : x.last ≤ x.bc := by omega
          have hm0 : (0 : Int) ≤ (x.last : Int) := by omega
          have hm1 : (x.last : Int) ≤ (x.bc : Int) := by omega
          have hwa : IntKind.i64.wrap ((x.last : Int) + 0) = (x.last : Int) := by rw [IntKind.wrap_i64]; omega
          have hjo := cJoined x.ba none x.bc 0 (x.bytes.take x.last) [] wb ((hse.1.kept kb (by simp)).front x.last) (Sees.nil _ _) (by simp; omega)
          have etl : (x.bytes.take x.last).length = x.last := by simp; omega
          rw [etl] at hjo
          simp only [List.length_nil, List.append_nil] at hjo
          have bfx : B3 wb wr.heap.size (.string ⟨x.name.toArray⟩) (.slice x.ba x.bytes.length x.bc) (.int .i64 (x.last : Int)) := bf
          have hXs : wr.heap.size < wb.heap.size := bfx.lt
          have f1 := bfx.c1
          have f2 := bfx.c2
          go_wp2_with fail
          rw [hwb'.out]
          refine hjo.mono ?_
          rintro e wa ⟨ja, jc, rfl, hja, ka', hjn⟩
          obtain ⟨ys, hys⟩ : ∃ ys, Hid (ys = x.bytes.take x.last) := ⟨_, rfl⟩
          rw [← hys.out] at hja ⊢
          have hyl : Hid (ys.length = x.last) := by show _ = _; rw [hys.out]; exact etl
          have bfa := bfx.kept ka'
          have p0 := bfa.c0
          have p1 := bfa.c1
          have p2 := bfa.c2
          have pf1 := bfa.free 1
          have pf2 := bfa.free 2
          obtain ⟨wc, hwc⟩ : ∃ wc, wa.setCell ⟨wr.heap.size, 1, none⟩ (.slice ja ys.length jc) = wc := ⟨_, rfl⟩
          have bfc : B3 wc wr.heap.size (.string ⟨x.name.toArray⟩) (.slice ja ys.length jc) (.int .i64 (x.last : Int)) := by rw [← hwc]; exact bfa.set1 _
          have kcc : Kp [wr.heap.size] wa wc := by rw [← hwc]; exact kpSet _ _ _ _
          have d1 := bfc.c1
          have d2 := bfc.c2
          have df2 := bfc.free 2
          obtain ⟨we, hwe⟩ : ∃ we, wc.setCell ⟨wr.heap.size, 2, none⟩ (.int .i64 (ys.length : Int)) = we := ⟨_, rfl⟩
          have bfe : B3 we wr.heap.size (.string ⟨x.name.toArray⟩) (.slice ja ys.length jc) (.int .i64 (ys.length : Int)) := by rw [← hwe]; exact bfc.set2 _
          have kce : Kp [wr.heap.size] wa we := kcc.trans (by rw [← hwe]; exact kpSet _ _ _ _) (fun x hx => .inl hx)
          have e0 := bfe.c0
          have e1 := bfe.c1
          have e2 := bfe.c2
          have hqfe := bfe.lt
          have ke : Kp [] wr we := ((kb).trans ka' (by simp)).trans kce (fun x hx => .inr (by simp at hx; omega))
          have hrowe := hrow.keptNew ke
          have bqe := bq.kept ke
          have q2 := bqe.c2
          have qf2 := bqe.free 2
          have hqown : w.heap.size + 1 + 1 ∉ own (.slice av l'.length cv) := by rw [rowOwn hrow]; intro h; have := ha _ h; omega
          obtain ⟨_, _, eja, hsj, hnj, hlj⟩ := Row.parts hja
          cases eja
          have hfs : FSee we ⟨x.name, ja, jc, ys, ys.length⟩ := ⟨hsj.kept kce (fun k hk h => by have := hjn k hk; simp at h; omega), hnj, hlj⟩
          have hfn : ∀ k ∈ RF.ft ⟨x.name, ja, jc, ys, ys.length⟩, wr.heap.size ≤ k := fun k hk => by have := hjn k (mem_ft hk); omega
          have hfe : Hid (RF.fl ⟨x.name, ja, jc, ys, ys.length⟩ = keptF x.fl (ks.getD j 0)) := by
            show _ = _
            have e1 : x.last + min (ks.getD j 0).toNat (x.bytes.length - x.last) = x.last := by have := hkx.out; have := hmk.out; omega
            simp only [RF.fl, keptF]
            rw [e1, hyl.out, hys.out]
          have hfin : Hid (∀ l2 a2 c2 w2, l2 = l' ++ [⟨x.name, ja, jc, ys, ys.length⟩] → RFE.Row w2 (.slice a2 l2.length c2) l2 → Kp (own (.slice av l'.length cv)) we w2 → (∀ k ∈ blk a2, k ∈ own (.slice av l'.length cv) ∨ we.heap.size ≤ k) → CrI w w1 ⟨room, steps, some ⟨g, o, none⟩, fc, l, armed, dead, left⟩ ks (j + 1) (w2.setCell ⟨w.heap.size + 1 + 1, 2, none⟩ (.slice a2 l2.length c2))) := fun l2 a2 c2 w2 h1 h2 h3 h4 => hnext.out hxh.out bq hrow kr hm.out hs ha hlen.out ke hfs hfn hfe.out h1 h2 h3 h4 rfl
          clear hjo f1 f2 etl hja hsj bfa bfc bfe bqe hse hrr c0 c1 c2
          go_wp2_with (first | (refine wpAppFE rfl _ _ rfl _ l' rfl hrowe ⟨x.name, ja, jc, ys, ys.length⟩ _ rfl rfl hll ?_; intro l2 a2 c2 w2 hl2 hrow2 kA hn2; have v2 := (kA.cell (p := ⟨w.heap.size + 1 + 1, 2, none⟩) (World.block_lt_of_cell? _ _ q2) hqown).trans q2; have vf := (kA.frozen (p := ⟨w.heap.size + 1 + 1, 2, none⟩) (World.block_lt_of_cell? _ _ q2) hqown).trans qf2) | fail)
          exact ⟨⟨j + 1, by omega, by go_num, hfin.out l2 a2 c2 w2 hl2.out hrow2 kA hn2⟩, by simp [intOf]; omega⟩
      · have hkx0 : ks.getD j 0 = 0 := by simp [List.getD, List.getElem?_eq_none (by omega : ks.length ≤ j)]
        obtain ⟨kn, hkn⟩ : ∃ kn : Nat, Hid (kn = 0) := ⟨_, rfl⟩
        have hkx : Hid (min (ks.getD j 0).toNat (x.bytes.length - x.last) = kn) := by show _ = _; rw [hkx0, hkn.out]; omega
        have hknl : x.last + kn ≤ x.bytes.length := by have := hkn.out; omega
        clear hkx0
        have hmk : Hid (x.last = x.last + kn) := by show _ = _; have := hkn.out; omega
        have hml : x.last ≤ x.bytes.length := by have := hmk.out; omega
        have hmc : x.last ≤ x.bc := by omega
        have hm0 : (0 : Int) ≤ (x.last : Int) := by omega
        have hm1 : (x.last : Int) ≤ (x.bc : Int) := by omega
        have hwa : IntKind.i64.wrap ((x.last : Int) + 0) = (x.last : Int) := by rw [IntKind.wrap_i64]; omega
        have hjo := cJoined x.ba none x.bc 0 (x.bytes.take x.last) [] wb ((hse.1.kept kb (by simp)).front x.last) (Sees.nil _ _) (by simp; omega)
        have etl : (x.bytes.take x.last).length = x.last := by simp; omega
        rw [etl] at hjo
        simp only [List.length_nil, List.append_nil] at hjo
        have bfx : B3 wb wr.heap.size (.string ⟨x.name.toArray⟩) (.slice x.ba x.bytes.length x.bc) (.int .i64 (x.last : Int)) := bf
        have hXs : wr.heap.size < wb.heap.size := bfx.lt
        have f1 := bfx.c1
        have f2 := bfx.c2
        go_wp2_with fail
        rw [hwb'.out]
        refine hjo.mono ?_
        rintro e wa ⟨ja, jc, rfl, hja, ka', hjn⟩
        obtain ⟨ys, hys⟩ : ∃ ys, Hid (ys = x.bytes.take x.last) := ⟨_, rfl⟩
        rw [← hys.out] at hja ⊢
        have hyl : Hid (ys.length = x.last) := by show _ = _; rw [hys.out]; exact etl
        have bfa := bfx.kept ka'
        have p0 := bfa.c0
        have p1 := bfa.c1
        have p2 := bfa.c2
        have pf1 := bfa.free 1
        have pf2 := bfa.free 2
        obtain ⟨wc, hwc⟩ : ∃ wc, wa.setCell ⟨wr.heap.size, 1, none⟩ (.slice ja ys.length jc) = wc := ⟨_, rfl⟩
        have bfc : B3 wc wr.heap.size (.string ⟨x.name.toArray⟩) (.slice ja ys.length jc) (.int .i64 (x.last : Int)) := by rw [← hwc]; exact bfa.set1 _
        have kcc : Kp [wr.heap.size] wa wc := by rw [← hwc]; exact kpSet _ _ _ _
        have d1 := bfc.c1
        have d2 := bfc.c2
        have df2 := bfc.free 2
        obtain ⟨we, hwe⟩ : ∃ we, wc.setCell ⟨wr.heap.size, 2, none⟩ (.int .i64 (ys.length : Int)) = we := ⟨_, rfl⟩
        have bfe : B3 we wr.heap.size (.string ⟨x.name.toArray⟩) (.slice ja ys.length jc) (.int .i64 (ys.length : Int)) := by rw [← hwe]; exact bfc.set2 _
        have kce : Kp [wr.heap.size] wa we := kcc.trans (by rw [← hwe]; exact kpSet _ _ _ _) (fun x hx => .inl hx)
        have e0 := bfe.c0
        have e1 := bfe.c1
        have e2 := bfe.c2
        have hqfe := bfe.lt
        have ke : Kp [] wr we := ((kb).trans ka' (by simp)).trans kce (fun x hx => .inr (by simp at hx; omega))
        have hrowe := hrow.keptNew ke
        have bqe := bq.kept ke
        have q2 := bqe.c2
        have qf2 := bqe.free 2
        have hqown : w.heap.size + 1 + 1 ∉ own (.slice av l'.length cv) := by rw [rowOwn hrow]; intro h; have := ha _ h; omega
        obtain ⟨_, _, eja, hsj, hnj, hlj⟩ := Row.parts hja
        cases eja
        have hfs : FSee we ⟨x.name, ja, jc, ys, ys.length⟩ := ⟨hsj.kept kce (fun k hk h => by have := hjn k hk; simp at h; omega), hnj, hlj⟩
        have hfn : ∀ k ∈ RF.ft ⟨x.name, ja, jc, ys, ys.length⟩, wr.heap.size ≤ k := fun k hk => by have := hjn k (mem_ft hk); omega
        have hfe : Hid (RF.fl ⟨x.name, ja, jc, ys, ys.length⟩ = keptF x.fl (ks.getD j 0)) := by
          show _ = _
          have e1 : x.last + min (ks.getD j 0).toNat (x.bytes.length - x.last) = x.last := by have := hkx.out; have := hmk.out; omega
          simp only [RF.fl, keptF]
          rw [e1, hyl.out, hys.out]
        have hfin : Hid (∀ l2 a2 c2 w2, l2 = l' ++ [⟨x.name, ja, jc, ys, ys.length⟩] → RFE.Row w2 (.slice a2 l2.length c2) l2 → Kp (own (.slice av l'.length cv)) we w2 → (∀ k ∈ blk a2, k ∈ own (.slice av l'.length cv) ∨ we.heap.size ≤ k) → CrI w w1 ⟨room, steps, some ⟨g, o, none⟩, fc, l, armed, dead, left⟩ ks (j + 1) (w2.setCell ⟨w.heap.size + 1 + 1, 2, none⟩ (.slice a2 l2.length c2))) := fun l2 a2 c2 w2 h1 h2 h3 h4 => hnext.out hxh.out bq hrow kr hm.out hs ha hlen.out ke hfs hfn hfe.out h1 h2 h3 h4 rfl
        clear hjo f1 f2 etl hja hsj bfa bfc bfe bqe hse hrr c0 c1 c2
        go_wp2_with (first | (refine wpAppFE rfl _ _ rfl _ l' rfl hrowe ⟨x.name, ja, jc, ys, ys.length⟩ _ rfl rfl hll ?_; intro l2 a2 c2 w2 hl2 hrow2 kA hn2; have v2 := (kA.cell (p := ⟨w.heap.size + 1 + 1, 2, none⟩) (World.block_lt_of_cell? _ _ q2) hqown).trans q2; have vf := (kA.frozen (p := ⟨w.heap.size + 1 + 1, 2, none⟩) (World.block_lt_of_cell? _ _ q2) hqown).trans qf2) | fail)
        exact ⟨⟨j + 1, by omega, by go_num, hfin.out l2 a2 c2 w2 hl2.out hrow2 kA hn2⟩, by simp [intOf]; omega⟩
    · have e : j = l.length := by omega
      subst e
      have q0 := bq.c0; have q1 := bq.c1; have q2 := bq.c2; have q3 := bq.c3; have q4 := bq.c4; have q5 := bq.c5
      have brr := B6.keptS br1 kr (by simp)
      have hb4 : B6 wr (w.heap.size + 1) (.int .i64 0) (.int .i64 0) (.slice none 0 0) (.bool false) (.bool false) (.int .i64 0) := brr
      obtain ⟨r0, r1, r2, r3, r4, r5, rf⟩ := brr
      have g0 := rf 0; have g1 := rf 1; have g2 := rf 2; have g3 := rf 3; have g4 := rf 4; have g5 := rf 5
      have hfin : Hid (∀ W', Kp [w.heap.size + 1] wr W' → RefP [] (crashD d ks) w (.agg #[.int .i64 room, .int .i64 0, .slice av l'.length cv, .bool false, .bool false, .int .i64 0]) W') := fun W' kW => by
        obtain ⟨_, _, ev, hsee, _⟩ := hrow.see
        cases ev
        have hz1 := kw1.size
        refine ⟨⟨room, 0, av, cv, l', false, false, 0⟩, rfl, ⟨(RFE.fls hsee).kept kW (fun k hk h => ?_), fun f hf => (hs f hf).1.keep kW (fun k hk h => ?_)⟩, ⟨hLk.out.room, rfl, ?_, rfl, rfl, fun n hn => by simp [crashD] at hn, by simp, by simp⟩, (kw1.trans kr (fun x hx => .inr (by simp at hx; omega))).trans kW (fun x hx => .inr (by simp at hx; omega)), fun k hk => .inr ?_⟩
        · have := ha k hk; simp at h; omega
        · have := ((hs f hf).2 k hk).1; simp at h; omega
        · have h1 := hm.out
          rw [List.take_of_length_le (by simp)] at h1
          simp only [h1, crashD]
          have h2 := hLk.out.files
          simp only at h2
          rw [h2]
        · simp only [RD.foot, List.mem_append, List.mem_flatMap] at hk
          rcases hk with hk | ⟨f, hf, hk⟩
          · have := ha k (mem_ff hk); omega
          · have := ((hs f hf).2 k hk).1; omega
      clear hnext hcr
      go_wp2_with fail
      obtain ⟨W', hW', hb6, kW'⟩ := set6_ex hb4 (.int .i64 room) (.int .i64 0) (.slice av l'.length cv) (.bool false) (.bool false) (.int .i64 0)
      rw [hW']
      obtain ⟨z0, z1, z2, z3, z4, z5, _⟩ := hb6
      refine bodyPost_ret (v := .agg #[.int .i64 room, .int .i64 0, .slice av l'.length cv, .bool false, .bool false, .int .i64 0]) (by simp [results, Try.results24, go_sem, z0, z1, z2, z3, z4, z5]) rfl ?_
      exact ⟨_, rfl, hfin.out W' kW'⟩
end Go.Proofs.Ytgllkonbgigcbaa
end

section
namespace Go.Proofs.Ytgllkonbgigcbaa
open Go.RowKit Go.Hay
set_option linter.unusedVariables false
set_option linter.unusedSimpArgs false

set_option maxHeartbeats 16000000 in
set_option maxRecDepth 100000 in
theorem cStepA {w : World} {p mb : Nat} {xs : List Ent} {d : Dk} (hD : Disk w p mb xs d) {K J : Nat} (hlow : Lw K J d) (hs : d.steps < 9000000000000000000) (r : RD) (hr : RdOk w r) (hL : Like r d) (hT : ∀ k ∈ r.foot, k ∉ foot p mb xs) (o : DOp) (hok : o.ok w) (hk : o.kind = 10)
    (hK : K + o.b.bs.length ≤ 100000000000000) (hJ : J ≤ 100000000) (hoff : o.b.bs ≠ [] → ∀ k ∈ blk o.b.a, k ∉ foot p mb xs) :
    Calls Try.prog 25 #[.pointer (some ⟨p, 0, none⟩), r.v, o.v] w (StQ p mb xs r o (crashD d o.ks) w) := by
  obtain ⟨w1, hw1, k1, bx, hsz⟩ := boxC r o w
  have hlt := hD.lt
  have hrl := hr.lt
  have hsm : Small d := hlow.small (by omega)
  have hN : xs.length ≤ 1000000000 := by have := len_of hD; have := hlow.len; omega
  have hp0 : w.heap.size ∉ foot p mb xs := fun h => by have := hlt _ h; omega
  have hp1 : w.heap.size + 1 ∉ foot p mb xs := fun h => by have := hlt _ h; omega
  have hp2 : w.heap.size + 1 + 1 ∉ foot p mb xs := fun h => by have := hlt _ h; omega
  have hr2 : w.heap.size + 1 + 1 ∉ r.foot := fun h => by have := hrl _ h; omega
  have hC := cCrash (hD.keptNew k1) hsm (by omega) o.ka o.kc o.ks (hok.ks.kept k1) hok.kl (by have := hok.kc; unfold maxLen at this; omega) hok.k64
  have hRC : Hid (∀ A, Kp [] w A → Calls Try.prog 24 #[r.v, .slice o.ka o.ks.length o.kc] A (fun e w' => ∃ v, e = .returned v ∧ RefP [] (crashD d o.ks) A v w')) := fun A kA => cRefCrash r d A (hr.keptNew kA) hL hD.ok (by have := congrArg List.length hL.files; have := hlow.len; simp at *; omega) (fun f hf => by have := hsm f.fl (by rw [← hL.files]; exact List.mem_map_of_mem hf); exact this) o.ka o.kc o.ks (hok.ks.kept kA) hok.kl (by have := hok.kc; unfold maxLen at this; omega) hok.k64
  have o6 := boxC6 r o w hw1
  have hfin : Hid (∀ w2 p' mb' xs' w3 (r' : RD), Kp [] w1 w2 → Disk w2 p' mb' xs' (crashD d o.ks) → (∀ k ∈ foot p' mb' xs', w1.heap.size ≤ k) → RdOk w3 r' → Like r' (crashD d o.ks) → Kp [] w2 w3 → (∀ k ∈ r'.foot, k ∈ ([] : List Nat) ∨ w2.heap.size ≤ k) → ∀ W', Kp [w.heap.size + 1 + 1] w3 W' → StQ p mb xs r o (crashD d o.ks) w (.returned (.tuple #[.pointer (some ⟨p', 0, none⟩), r'.v, .bool true])) W') := fun w2 p' mb' xs' w3 r' k2 hD' hn hr3 hL3 k3 hft W' kW => by
    have hft' : ∀ k ∈ r'.foot, w2.heap.size ≤ k := fun k hk => by
      rcases hft k hk with h | h
      · cases h
      · exact h
    have k : Kp [] w w3 := (k1.trans k2 (by simp)).trans k3 (by simp)
    have hs1 := k1.size
    have hs2 := k2.size
    refine stFin (k.mono (by simp)) (hD'.keptNew k3) hr3 hL3 (fun k hk => .inr (by have := hn k hk; omega)) (fun k hk => .inr (by have := hft' k hk; omega)) (fun k hk h => by have := hft' k hk; have := hD'.lt k h; omega) (by omega) (fun h => by have := hn _ h; omega) (fun h => by have := hft' _ h; omega) kW (fun _ h => absurd hk h)
  clear hL hr hT hrl hlow
  obtain ⟨room, steps, fa, fc, l, armed, dead, left⟩ := r
  simp only [RD.v, DOp.v] at *
  have b0 := bx.rd.c0; have b1 := bx.rd.c1; have b2 := bx.rd.c2; have b3 := bx.rd.c3; have b4 := bx.rd.c4; have b5 := bx.rd.c5
  have o0 := bx.o0; have o1 := bx.o1; have o2 := bx.o2; have o3 := bx.o3; have o4 := bx.o4; have o5 := bx.o5
  have hw1' := hid hw1
  rw [hk] at o0 hw1 ⊢
  go_enter Try.func25, Try.ntmps25
  go_wp2_with fail
  refine hC.mono ?_
  rintro e w2 ⟨p', mb', xs', rfl, hD2, k2, hn2⟩
  clear b0 b1 b2 b3 b4 b5 o0 o1 o2 o3 o4 o5
  have bx2 := bx.kept k2
  have b0 := bx2.rd.c0; have b1 := bx2.rd.c1; have b2 := bx2.rd.c2; have b3 := bx2.rd.c3; have b4 := bx2.rd.c4; have b5 := bx2.rd.c5
  have o6' := cell_kp k2 o6
  have aR := hRC.out w2 (k1.trans k2 (by simp))
  clear o6
  go_wp2_with fail
  refine aR.mono ?_
  rintro e w3 ⟨v, rfl, r', rfl, hr3, hL3, k3, hft3⟩
  have an3 := bx2.an.kept k3
  have hfin2 : Hid (∀ W', Kp [w.heap.size + 1 + 1] w3 W' → StQ p mb xs _ o (crashD d o.ks) w (.returned (.tuple #[.pointer (some ⟨p', 0, none⟩), r'.v, .bool true])) W') := fun W' kW => hfin.out w2 p' mb' xs' w3 r' k2 hD2 hn2 hr3 hL3 k3 hft3 W' kW
  have hb4 := an3
  obtain ⟨r0, r1, r2, r3, r4, r5, rf⟩ := an3
  have g0 := rf 0; have g1 := rf 1; have g2 := rf 2; have g3 := rf 3; have g4 := rf 4; have g5 := rf 5
  obtain ⟨room', steps', fa', fc', l', armed', dead', left'⟩ := r'
  simp only [RD.v] at *
  clear b0 b1 b2 b3 b4 b5 o6' aR hRC hfin hr3 hL3 hft3
  go_wp2_with fail
  obtain ⟨W', hW', hb6, kW'⟩ := set6_ex (show B6 w3 (w.heap.size + 1 + 1) _ _ _ _ _ _ from hb4) (.int .i64 room') (.int .i64 steps') (.slice fa' l'.length fc') (.bool armed') (.bool dead') (.int .i64 left')
  rw [hW']
  obtain ⟨z0, z1, z2, z3, z4, z5, _⟩ := hb6
  refine bodyPost_ret (v := .tuple #[.pointer (some ⟨p', 0, none⟩), .agg #[.int .i64 room', .int .i64 steps', .slice fa' l'.length fc', .bool armed', .bool dead', .int .i64 left'], .bool true]) (by simp [results, Try.results25, go_sem, z0, z1, z2, z3, z4, z5]) rfl ?_
  exact hfin2.out W' kW'
theorem cStepW {w : World} {p mb : Nat} {xs : List Ent} {d : Dk} (hD : Disk w p mb xs d) {K J : Nat} (hlow : Lw K J d) (hs : d.steps < 9000000000000000000) (r : RD) (hr : RdOk w r) (hL : Like r d) (hT : ∀ k ∈ r.foot, k ∉ foot p mb xs) (o : DOp) (hok : o.ok w)
    (hK : K + o.b.bs.length ≤ 100000000000000) (hJ : J ≤ 100000000) (hoff : o.b.bs ≠ [] → ∀ k ∈ blk o.b.a, k ∉ foot p mb xs) :
    Calls Try.prog 25 #[.pointer (some ⟨p, 0, none⟩), r.v, o.v] w (StQ p mb xs r o (stpD d o) w) := by
  by_cases h10 : o.kind = 10
  · have e : stpD d o = crashD d o.ks := by unfold stpD; rw [if_neg (by omega), if_pos h10]
    rw [e]
    exact cStepA hD hlow hs r hr hL hT o hok h10 hK hJ hoff
  · exact cStepN hD hlow hs r hr hL hT o hok h10 hK hJ hoff
end Go.Proofs.Ytgllkonbgigcbaa
end

section
namespace Go.Proofs.Ytgllkonbgigcbaa
open Go.RowKit Go.Hay
set_option linter.unusedVariables false
set_option linter.unusedSimpArgs false

/-- The reference, in a variable's box. -/
def RB (w : World) (q : Nat) (r : RD) : Prop := B6 w q (.int .i64 r.room) (.int .i64 r.steps) (.slice r.fa r.l.length r.fc) (.bool r.armed) (.bool r.dead) (.int .i64 r.left)
theorem append_full {d : Dk} {name b : List UInt8} (h : (b.length : Int) > freeD d) : (appendD d name b).1 = d := by
  unfold appendD
  split
  · rfl
  split
  · rfl
  · first | rfl | (simp only [if_pos h])
theorem stp_full {d : Dk} {o : DOp} (h0 : o.kind = 0) (h : (o.b.bs.length : Int) > freeD d) : stpD d o = d := by
  unfold stpD chD chgD
  simp only [h0, if_true, if_false, Int.reduceEq, or_self]
  exact append_full h
/-- How it stands behind j calls. -/
def FullI (W : World) (p mb q R : Nat) (l : List DOp) (j : Nat) (wn : World) : Prop :=
  ∃ (d : Dk) (xs : List Ent) (r : RD), Pr W wn p mb xs r d ∧ Lw (sumB (l.take j)) j d ∧ d.steps ≤ j ∧ d.room = R ∧ RB wn q r ∧ q ∉ foot p mb xs ∧ q ∉ r.foot
/-- Behind a call of stepped, and the store of the reference. -/
theorem prStored {W w3 w4 w5 : World} {p mb q : Nat} {xs xs' : List Ent} {r r' : RD} {d d' : Dk} (P : Pr W w3 p mb xs r d) (hq : q < w3.heap.size) (hW : W.heap.size ≤ q) (hqf : q ∉ foot p mb xs) (hqr : q ∉ r.foot)
    (hD : Disk w4 p mb xs' d') (hR : RdOk w4 r') (hL : Like r' d') (mv : Mv (foot p mb xs) w3 (foot p mb xs') w4) (n2 : ∀ k ∈ r'.foot, k ∈ r.foot ∨ w3.heap.size ≤ k) (n3 : ∀ k ∈ r'.foot, k ∉ foot p mb xs') (k5 : Kp [q] w4 w5) :
    Pr W w5 p mb xs' r' d' ∧ q ∉ foot p mb xs' ∧ q ∉ r'.foot := by
  have h1 : q ∉ foot p mb xs' := fun h => by
    rcases mv.new q h with h | h
    · exact hqf h
    · omega
  have h2 : q ∉ r'.foot := fun h => by
    rcases n2 q h with h | h
    · exact hqr h
    · omega
  exact ⟨(P.step hD hR hL mv.kp mv.new n3).keepS k5 (by simpa using h1) (by simpa using h2) (by simpa using hW), h1, h2⟩
set_option maxHeartbeats 16000000 in
set_option maxRecDepth 100000 in
theorem fullWalk (room : Int) (hroom : room < 9223372036854775808) (a : Option Addr) (c : Nat) (l : List DOp) (W : World) (hs1 : DOpE.See W a l) (hok1 : ∀ o ∈ l, o.ok W) (hb1 : sumB l ≤ 1048576) (hn1 : l.length ≤ 1048576) :
    Calls Try.prog 6 #[.int .i64 room, .slice a l.length c] W (fun e W' => e = .returned (.bool true) ∧ Kp [] W W') := by
  go_enter Try.func6, Try.ntmps6
  go_wp2_with fail
  refine (cBegun room W hroom).mono ?_
  rintro e w1 ⟨p, mb, rfl, hD1, k1, hp, hmb⟩
  have a2 := cRefNew room w1 hroom
  go_wp2_with fail
  refine a2.mono ?_
  rintro e w2 ⟨v, rfl, r, rfl, hr2, hL2, k2, hft2⟩
  obtain ⟨w3, hw3, k3, rb3, hsz3⟩ := boxR r w2
  have hlt1 := hD1.lt
  have P3 : Pr W w3 p mb [] r (newD room) := ⟨(hD1.keptNew k2).keptNew k3, hr2.keptNew k3, hL2, (k1.trans k2 (by simp)).trans k3 (by simp), fun k hk => by simp [foot] at hk; omega, fun k hk h => by
    have := hlt1 k h
    rcases hft2 k hk with h1 | h1
    · cases h1
    · omega⟩
  obtain ⟨q, hq⟩ : ∃ q, q = w2.heap.size := ⟨_, rfl⟩
  have hqW : W.heap.size ≤ q := by have := k1.size; have := k2.size; omega
  have A0 : FullI W p mb q room.toNat l 0 w3 := ⟨newD room, [], r, P3, ⟨by simp [newD, sumF], by simp [newD]⟩, by simp [newD], rfl, by rw [hq]; exact rb3, fun h => by have := hlt1 q h; have := k2.size; omega, fun h => by have := hr2.lt q h; omega⟩
  obtain ⟨R, hR⟩ : ∃ R, R = room.toNat := ⟨_, rfl⟩
  rw [← hR] at A0
  have hRm : (R : Int) ≤ max room 0 := by omega
  have hw3' := hid hw3
  have hq' := hid hq
  obtain ⟨room', steps', fa', fc', l', armed', dead', left'⟩ := r
  simp only [RD.v] at *
  clear P3 hD1 k1 k2 k3 rb3 hr2 hL2 hft2 hlt1 hR hw3 hq a2
  go_wp2_with fail
  rw [hw3'.out, ← hq'.out]
  clear hw3' hq'
  go_loopw [23] (fun i wn => ∃ j : Nat, j ≤ l.length ∧ i = .int .i64 j ∧ FullI W p mb q R l j wn) (fun i _ => l.length - (intOf i).toNat)
  case atStart => exact ⟨0, Nat.zero_le _, rfl, A0⟩
  case round =>
    clear A0
    obtain ⟨j, hj, rfl, hA⟩ := hrel
    by_cases hjl : j < l.length
    · obtain ⟨o, ho⟩ : ∃ o, l[j]? = some o := ⟨l[j], by simp [hjl]⟩
      have hom := List.mem_of_getElem? ho
      have hso := hid (sumB_take ho)
      have hsl := sumB_le l (j + 1)
      obtain ⟨d, xs, r, P, low, hsj, hrm, rb, hqf, hqr⟩ := hA
      have hrm := hid hrm
      obtain ⟨g, f, rfl, x0, x1, x2, x3, x4, x5, x6⟩ := dopAt (hs1.keptNew P.kp) ho
      obtain ⟨wb, hwb, kb, hop, hqb⟩ := box7 o wr
      have Pb := P.keep kb
      have hqlt : q < wr.heap.size := rb.lt
      have hwq : wr.heap.size ∉ foot p mb xs := fun h => by have := P.D.lt _ h; omega
      have hop0 := hop
      obtain ⟨y0, y1, y2, y3, y4, y5, y6⟩ := hop0
      have hwb' := hid hwb
      have hoW := hok1 o hom
      clear hwb ho
      by_cases hko : 8 < o.kind
      · have hfin1 : Hid (FullI W p mb q R l (j + 1) wb) := ⟨d, xs, r, Pb, low.mono (by have := hso.out; omega) (by omega), by omega, hrm.out, rb.kept kb, hqf, hqr⟩
        clear P Pb hop rb
        go_wp2_with fail
        rw [hwb'.out]
        exact ⟨⟨j + 1, by omega, by go_num, hfin1.out⟩, by simp [intOf]; omega⟩
      · have a1 := cFree Pb.D
        obtain ⟨z0, hz0⟩ : ∃ z, Hid (z = freeD d) := ⟨_, rfl⟩
        rw [← hz0.out] at a1
        go_wp2_with fail
        rw [hwb'.out]
        clear x0 x1 x2 x3 x4 x5 x6
        go_wp2_with fail
        refine a1.mono ?_
        rintro e w2 ⟨rfl, k2⟩
        have P2 := Pb.keep k2
        have hNx : xs.length ≤ 1000000000000 := by have := len_of P.D; have := low.len; omega
        have a2 := cNames P2.D hNx
        obtain ⟨n, hnx0⟩ : ∃ n, Hid (n = xs.length) := ⟨_, rfl⟩
        have hnxl : n ≤ 1000000000000 := by have := hnx0.out; omega
        go_wp2_with fail
        refine a2.mono ?_
        rintro e w3 ⟨na, nc, rfl, _, k3⟩
        have hnx := hnx0.out
        rw [← hnx]
        have P3 := P2.keep k3
        have op3 : Op7 wr.heap.size o w3 := (hop.kept k2 (by simp)).kept k3 (by simp)
        have rb3 : RB w3 q r := ((rb.kept kb).kept k2).kept k3
        obtain ⟨y0, y1, y2, y3, y4, y5, y6⟩ := op3
        have a3 := cStepped P3.D low (by omega) r P3.R P3.L P3.ap o (hoW.kept P3.kp) (by omega) (by omega) (by have := hso.out; omega) (by omega) (offPr P3 hoW)
        have hlow := lw_stp o low P.D.ok (by have := hso.out; omega)
        have hstp := stp_steps d o
        have hrm' := (stp_room d o).trans hrm.out
        have hfull : Hid (o.kind = 0 → (o.b.bs.length : Int) > z0 → stpD d o = d) := fun h0 h => stp_full h0 (by rw [← hz0.out]; exact h)
        obtain ⟨d', hd'⟩ : ∃ d', d' = stpD d o := ⟨_, rfl⟩
        rw [← hd'] at a3 hlow hstp hrm' hfull
        have hsame : Hid (d' = d → (freeD d' = z0 ∧ d'.files.length = n)) := fun h => by
          rw [h]
          exact ⟨hz0.out.symm, by rw [hnx, len_of P.D]⟩
        obtain ⟨b0, b1, b2, b3, b4, b5, bf⟩ := rb3
        have rb3' : RB w3 q r := ⟨b0, b1, b2, b3, b4, b5, bf⟩
        have hq3 : q < w3.heap.size := rb3'.lt
        obtain ⟨room', steps', fa', fc', l', armed', dead', left'⟩ := r
        simp only [RD.v, DOp.v] at *
        have hnx' := hid hnx
        have hlow' := hid hlow
        have hrm2 := hid hrm'
        have hPR := hid hrm
        clear a1 a2 P P2 Pb hop rb hnx hd' hlow hrm' hrm low
        go_wp2_with fail
        refine a3.mono ?_
        rintro e w4 ⟨r', xs', rfl, hD4, hR4, hL4, mv4, n2, n3⟩
        have bq4 := rb3'.keptS mv4.kp hqf
        obtain ⟨W5, hW5, rb5, k5⟩ := set6_ex bq4 (.int .i64 r'.room) (.int .i64 r'.steps) (.slice r'.fa r'.l.length r'.fc) (.bool r'.armed) (.bool r'.dead) (.int .i64 r'.left)
        obtain ⟨P5, hqf5, hqr5⟩ := prStored P3 hq3 hqW hqf hqr hD4 hR4 hL4 mv4 n2 n3 k5
        have op5 : Op7 wr.heap.size o W5 := ((show Op7 wr.heap.size o w3 from ⟨y0, y1, y2, y3, y4, y5, y6⟩).kept mv4.kp hwq).kept k5 (by simp; omega)
        have hz1 : 0 ≤ freeD d' := by have := hD4.ok.sum; unfold freeD; omega
        have hz2 : freeD d' ≤ max room 0 := by have := hrm2.out; unfold freeD; omega
        have a4 := cFree P5.D
        have hN5 : xs'.length ≤ 1000000000000 := by have := len_of hD4; have := hlow'.out.len; omega
        have hN5' := hid (len_of hD4)
        have hfin5 : Hid (∀ w', Kp [] W5 w' → FullI W p mb q R l (j + 1) w') := fun w' k' => ⟨d', xs', r', P5.keep k', by rw [hso.out]; exact hlow'.out, by omega, hrm2.out, B6.kept rb5 k', hqf5, hqr5⟩
        obtain ⟨z, hz⟩ : ∃ z, z = freeD d' := ⟨_, rfl⟩
        rw [← hz] at a4 hz1 hz2 hsame
        have hz' := hid hz
        obtain ⟨q0, q1, q2, q3, q4, q5, qf⟩ := bq4
        have g0 := qf 0; have g1 := qf 1; have g2 := qf 2; have g3 := qf 3; have g4 := qf 4; have g5 := qf 5
        obtain ⟨room', steps', fa', fc', l', armed', dead', left'⟩ := r'
        simp only [RD.v] at *
        have hW5' := hid hW5
        clear hW5 a3 y0 y1 y2 y3 y4 y5 y6 b0 b1 b2 b3 b4 b5 hz P3 hD4 hR4 hL4 n2 n3 rb3' rb5
        go_wp2_with fail
        rw [hW5'.out]
        clear q0 q1 q2 q3 q4 q5 g0 g1 g2 g3 g4 g5 hW5' qf
        go_wp2_with fail
        refine a4.mono ?_
        rintro e w6 ⟨rfl, k6⟩
        have P6 := P5.keep k6
        have a5 := cFree P6.D
        rw [← hz'.out] at a5
        go_wp2_with fail
        refine a5.mono ?_
        rintro e w7 ⟨rfl, k7⟩
        have P7 := P6.keep k7
        have k57 : Kp [] W5 w7 := k6.trans k7 (by simp)
        have op7 : Op7 wr.heap.size o w7 := op5.kept k57 (by simp)
        obtain ⟨y0, y1, y2, y3, y4, y5, y6⟩ := op7
        clear a4 a5
        by_cases h0 : o.kind = 0
        · by_cases hbig : (o.b.bs.length : Int) > z0
          · obtain ⟨e1, e2⟩ := hsame.out (hfull.out h0 hbig)
            have a6 := cFree P7.D
            rw [← hz'.out, e1] at a6
            rw [h0] at y0
            have e1' := hid e1
            clear e1 h0
            go_wp2_with fail
            refine a6.mono ?_
            rintro e w8 ⟨rfl, k8⟩
            have a7 := cNames (P7.keep k8).D hN5
            go_wp2_with fail
            refine a7.mono ?_
            rintro e w9 ⟨na', nc', rfl, _, k9⟩
            rw [hN5'.out, e2]
            clear e2
            go_wp2_with fail
            exact ⟨⟨j + 1, by omega, by go_num, hfin5.out _ ((k57.trans k8 (by simp)).trans k9 (by simp))⟩, by simp [intOf]; omega⟩
          · rw [h0] at y0
            clear h0
            go_wp2_with fail
            exact ⟨⟨j + 1, by omega, by go_num, hfin5.out _ k57⟩, by simp [intOf]; omega⟩
        · have e0 : (o.kind == 0) = false := by simpa using h0
          clear h0
          go_wp2_with fail
          exact ⟨⟨j + 1, by omega, by go_num, hfin5.out _ k57⟩, by simp [intOf]; omega⟩
    · obtain ⟨d, xs, r, P, _⟩ := hA
      have kf := P.kp
      clear P
      go_wp2_with fail
      go_ret
      exact ⟨rfl, kf⟩
theorem sumB_blk (l : List DOp) : sumB l ≤ (l.map fun y => y.b.bs.length + 1).sum := by
  induction l with
  | nil => simp [sumB]
  | cons o l ih => simp only [sumB, List.map_cons, List.sum_cons] at *; omega
theorem fullWalk' (room : Int) (hroom : room < 9223372036854775808) (a : Option Addr) (c : Nat) (l1 : List DOp) (W : World) (hs1 : DOpE.See W a l1) (hok1 : ∀ o ∈ l1, o.ok W)
    (hb1 : (l1.map fun y => y.b.bs.length + 1).sum ≤ 1048576) (hn1 : l1.length ≤ 1048576) :
    Calls Try.prog 6 #[.int .i64 room, .slice a l1.length c] W (fun e W' => e = .returned (.bool true) ∧ Below W.heap.size W W') :=
  (fullWalk room hroom a c l1 W hs1 hok1 (Nat.le_trans (sumB_blk l1) hb1) hn1).mono fun e W' h => ⟨h.1, h.2.below⟩
end Go.Proofs.Ytgllkonbgigcbaa
end

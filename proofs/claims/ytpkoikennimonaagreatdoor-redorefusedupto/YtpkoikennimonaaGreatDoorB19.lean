/- The reference's call Crash. No record of what is read is long. A disk with at most one file, which is never armed where so is said. The law's world: a disk and a log, the program's and the reference's, side by side; Open and Create at both. -/
import Derived.Test.YtpkoikennimonaaGreatDoorB15
import Derived.Deep.RegionHeld3
import Derived.Test.YtpkoikennimonaaGreatDoorB11
import Derived.Test.YtpkoikennimonaaGreatDoorB16
import Derived.Test.YtpkoikennimonaaGreatDoorB17
import Derived.Test.YtpkoikennimonaaGreatDoorB18
section
namespace Go.Proofs.YtpkoikennimonaaGreatDoor
open Go.RowKit Go.Hay
set_option linter.unusedVariables false
set_option linter.unusedSimpArgs false

def RFE : El RF where
  n := 3
  c f := RF.c f
  len _ := rfl
  one _ u hu := by simp [RF.c] at hu; rcases hu with rfl | rfl | rfl <;> rfl
  pos := by decide
/-- One file more, for the walk. -/
theorem wpAppFE {w : World} {ops : Array Oper} {rest : List Oper} {o : Oper} {a : Act} {Q : Exit → Act → World → Prop} (hgd : o.guard = none) (s x : Operand)
    (ho : o.op = .call { callee := .builtin .append, args := #[s, x], argTypes := #[25, 25] })
    (v : Value) (l : List RF) (hs : a.eval s = v) (hown : RFE.Row w v l) (y : RF) (q : Nat) (hq : w.heap.size = q) (hx : a.eval x = .slice (some ⟨q, 0, none⟩) 1 1) (hb : l.length ≤ 1000000000000)
    (hK : ∀ l' a' c' w', Hid (l' = l ++ [y]) → RFE.Row w' (.slice a' l'.length c') l' → Kp (own v) w w' → (∀ k ∈ blk a', k ∈ own v ∨ w.heap.size ≤ k) → wpList Tryz.prog ops Q rest (a.put o.dst (.slice a' l'.length c')) w') :
    wpList Tryz.prog ops Q (o :: rest) a (w.alloc (.cells #[.string ⟨y.name.toArray⟩, .slice y.ba y.bytes.length y.bc, .int .i64 (y.last : Int)] 68)) := by
  obtain ⟨i0, hi, hz0, hz1, hz2⟩ := infoF
  subst hq
  have kk : Kp [] w (w.alloc (.cells #[.string ⟨y.name.toArray⟩, .slice y.ba y.bytes.length y.bc, .int .i64 (y.last : Int)] 68)) := (Kp.refl _ _).alloc _
  have hs1 : Src Tryz.prog 3 25 (.slice (some ⟨w.heap.size, 0, none⟩) 1 1) 1 (RFE.cs [y]) (w.alloc (.cells #[.string ⟨y.name.toArray⟩, .slice y.ba y.bytes.length y.bc, .int .i64 (y.last : Int)] 68)) := by
    refine Src.ofSlice _ Tryz.underlying25 ⟨w.heap.size, 0, none⟩ 1 1 _ rfl ?_ (El.cs_one RFE [y])
    intro j u hu
    rw [Addr.add_lit, Nat.zero_add]
    match j, hu with
    | 0, hu => cases hu; exact World.cell?_alloc_new w _ _ 0
    | 1, hu => cases hu; exact World.cell?_alloc_new w _ _ 1
    | 2, hu => cases hu; exact World.cell?_alloc_new w _ _ 2
    | j + 3, hu => simp [El.cs, RFE, RF.c] at hu
  refine wpAppG (E := RFE) hgd s x _ _ _ ho i0 _ 48 Tryz.underlying25 hi hz0 hz1 hz2 rfl v l hs (hown.keptNew kk) _ [y] hx hs1 (by simp only [List.length_cons, List.length_nil]; omega) (by simp only [List.length_cons, List.length_nil]; omega) ?_
  intro l' a' c' w' hl hr hk hn
  refine hK l' a' c' w' hl hr ((kk.mono (T := own v) (by simp)).trans hk (fun _ h => .inl h)) (fun k hk' => ?_)
  rcases hn k hk' with h1 | h1
  · exact .inl h1
  · exact .inr (by have := kk.size; omega)
theorem RFE.fls {w : World} {a : Option Addr} {l : List RF} (h : RFE.See w a l) : Fls w a l := by
  rcases h with h | ⟨g, o, rfl, hc⟩
  · exact .inl h
  · refine .inr ⟨g, o, rfl, fun j x hx => ?_⟩
    have e := fun k (hk : k < 3) => El.cs_get RFE hx (k := k) hk
    refine ⟨hc _ _ (by have := e 0 (by omega); simpa [RFE, RF.c] using this), ?_, ?_⟩
    · rw [Nat.add_assoc]; exact hc _ _ (by have := e 1 (by omega); simpa [RFE, RF.c] using this)
    · rw [Nat.add_assoc]; exact hc _ _ (by have := e 2 (by omega); simpa [RFE, RF.c] using this)
theorem crashF_take : ∀ (l : List Fl) (ks : List Int) (j : Nat) (x : Fl), l[j]? = some x → crashF (l.take (j + 1)) ks = crashF (l.take j) ks ++ [keptF x (ks.getD j 0)]
  | l, ks, j, x, h => by
    have hj := (List.getElem?_eq_some_iff.1 h).1
    have he := (List.getElem?_eq_some_iff.1 h).2
    rw [List.take_succ_eq_append_getElem hj, he, crashF_snoc]
    simp [Nat.min_eq_left (Nat.le_of_lt hj)]
/-- Where it stands behind j files. -/
def CrI (w w1 : World) (r : RD) (ks : List Int) (j : Nat) (wn : World) : Prop :=
  ∃ (l' : List RF) (a : Option Addr) (c : Nat), B6 wn (w.heap.size + 1 + 1) (.int .i64 r.room) (.int .i64 0) (.slice a l'.length c) (.bool false) (.bool false) (.int .i64 0) ∧ RFE.Row wn (.slice a l'.length c) l' ∧ Kp [w.heap.size + 1 + 1] w1 wn ∧ l'.map RF.fl = crashF ((r.l.map RF.fl).take j) ks ∧ (∀ f ∈ l', FSee wn f ∧ ∀ k ∈ f.ft, w1.heap.size ≤ k ∧ k ∉ blk a) ∧ (∀ k ∈ blk a, w1.heap.size ≤ k) ∧ l'.length = j
theorem rowOwn {w : World} {a : Option Addr} {n c : Nat} {l : List RF} (h : RFE.Row w (.slice a n c) l) : own (.slice a n c) = blk a := by
  obtain ⟨_, _, e, _, _, _, _, h⟩ := h.see
  cases e
  exact h
theorem FSee.keep {w w' : World} {f : RF} {S : List Nat} (h : FSee w f) (hk : Kp S w w') (hn : ∀ k ∈ f.ft, k ∉ S) : FSee w' f :=
  ⟨h.1.kept' hk (fun hb k hk' => hn k (by simp only [RF.ft]; rw [if_neg hb]; exact hk')), h.2⟩
theorem FSee.lt {w : World} {f : RF} (h : FSee w f) : ∀ k ∈ f.ft, k < w.heap.size := fun k hk => by
  unfold RF.ft at hk
  split at hk
  · cases hk
  · rename_i hb; exact h.1.lt hb k hk
/-- One round. -/
theorem CrI.next {w w1 wr we w2 w3 : World} {r : RD} {ks : List Int} {j : Nat} {l' l2 : List RF} {a a2 : Option Addr} {c c2 : Nat} {x f' : RF} (hx : r.l[j]? = some x) (hq : w.heap.size + 1 + 1 < w1.heap.size)
    (bq : B6 wr (w.heap.size + 1 + 1) (.int .i64 r.room) (.int .i64 0) (.slice a l'.length c) (.bool false) (.bool false) (.int .i64 0)) (hrow : RFE.Row wr (.slice a l'.length c) l') (k1 : Kp [w.heap.size + 1 + 1] w1 wr) (hm : l'.map RF.fl = crashF ((r.l.map RF.fl).take j) ks) (hs : ∀ f ∈ l', FSee wr f ∧ ∀ k ∈ f.ft, w1.heap.size ≤ k ∧ k ∉ blk a) (ha : ∀ k ∈ blk a, w1.heap.size ≤ k) (hlen : l'.length = j)
    (ke : Kp [] wr we) (hf : FSee we f') (hfn : ∀ k ∈ f'.ft, wr.heap.size ≤ k) (hfe : f'.fl = keptF x.fl (ks.getD j 0))
    (hl2 : l2 = l' ++ [f']) (hrow2 : RFE.Row w2 (.slice a2 l2.length c2) l2) (kA : Kp (own (.slice a l'.length c)) we w2) (hn2 : ∀ k ∈ blk a2, k ∈ own (.slice a l'.length c) ∨ we.heap.size ≤ k)
    (hw3 : w3 = w2.setCell ⟨w.heap.size + 1 + 1, 2, none⟩ (.slice a2 l2.length c2)) : CrI w w1 r ks (j + 1) w3 := by
  have eo := rowOwn hrow
  rw [eo] at kA hn2
  have hra := hrow.lt
  rw [eo] at hra
  have z1 := k1.size
  have z2 := ke.size
  have z3 := kA.size
  have hqa : w.heap.size + 1 + 1 ∉ blk a := fun h => by have := ha _ h; omega
  have bq2 := B6.keptS (bq.kept ke) kA hqa
  have k3 : Kp [w.heap.size + 1 + 1] w2 w3 := by rw [hw3]; exact kpSet _ _ _ _
  have hla2 : ∀ k ∈ blk a2, w1.heap.size ≤ k := fun k hk => by
    rcases hn2 k hk with h | h
    · exact ha k h
    · omega
  have off2 : ∀ k, k < we.heap.size → k ∉ blk a → k ∉ blk a2 := fun k hk hn hx => by
    rcases hn2 k hx with h | h
    · exact hn h
    · omega
  refine ⟨l2, a2, c2, ?_, hrow2.kept k3 (fun k hk h => ?_), (k1.trans (ke.mono (T := [w.heap.size + 1 + 1]) (by simp)) (fun x hx => .inl hx)).trans ((kA.mono (T := (w.heap.size + 1 + 1) :: blk a) (fun x hx => .inl (by simp [hx]))).trans k3 (fun x hx => .inl (by simp at hx; simp [hx]))) (fun x hx => ?_), ?_, fun f hf' => ?_, hla2, ?_⟩
  · rw [hw3]
    exact ⟨(setCell_off (by decide) _).trans bq2.c0, (setCell_off (by decide) _).trans bq2.c1, World.cell?_setCell_same _ _ _ bq2.c2, (setCell_off (by decide) _).trans bq2.c3, (setCell_off (by decide) _).trans bq2.c4, (setCell_off (by decide) _).trans bq2.c5, fun j => (World.frozen?_setCell _ _ _ _).trans (bq2.free j)⟩
  · rw [rowOwn hrow2] at hk
    simp at h
    subst h
    have := hla2 _ hk
    omega
  · rcases List.mem_cons.1 hx with h | h
    · exact .inl (by simp [h])
    · exact .inr (ha x h)
  · rw [hl2, List.map_append, hm, crashF_take (r.l.map RF.fl) ks j x.fl (by simp [hx])]
    simp [hfe]
  · rw [hl2] at hf'
    rcases List.mem_append.1 hf' with h | h
    · obtain ⟨h1, h2⟩ := hs f h
      have hlt := h1.lt
      refine ⟨((h1.keep ke (by simp)).keep kA (fun k hk => (h2 k hk).2)).keep k3 (fun k hk h => ?_), fun k hk => ⟨(h2 k hk).1, off2 k (by have := hlt k hk; omega) (h2 k hk).2⟩⟩
      simp at h
      have := (h2 k hk).1
      omega
    · simp at h
      subst h
      have hna : ∀ k ∈ f.ft, k ∉ blk a := fun k hk h => by have := hfn k hk; have := hra k h; omega
      have hlt := hf.lt
      refine ⟨(hf.keep kA hna).keep k3 (fun k hk h => ?_), fun k hk => ⟨by have := hfn k hk; omega, off2 k (hlt k hk) (hna k hk)⟩⟩
      simp at h
      have := hfn k hk
      omega
  · rw [hl2]; simp [hlen]
set_option maxHeartbeats 16000000 in
set_option maxRecDepth 100000 in
theorem cRefCrash (r : RD) (d : Dk) (w : World) (hr : RdOk w r) (hL : Like r d) (ho : Okd d) (hl : r.l.length ≤ 1000000000) (hB : ∀ f ∈ r.l, f.bytes.length ≤ 140737488355328) (ka : Option Addr) (kc : Nat) (ks : List Int) (hks : Ints w ka ks) (hkl : ks.length ≤ kc) (hkc : kc ≤ 9223372036854775807) (hk64 : ∀ k ∈ ks, -9223372036854775808 ≤ k ∧ k < 9223372036854775808) :
    Calls Tryz.prog 24 #[r.v, .slice ka ks.length kc] w (fun e w' => ∃ v, e = .returned v ∧ RefP [] (crashD d ks) w v w') := by
  obtain ⟨w0, hw0, k0, bx0, br0, hsz0⟩ := boxRR r w
  obtain ⟨w1, hw1, k1, bc1, hsz1⟩ : ∃ w1, w0.alloc (.cells #[.int .i64 r.room, .int .i64 0, .slice none 0 0, .bool false, .bool false, .int .i64 0] 27) = w1 ∧ Kp [] w0 w1 ∧ B6 w1 (w.heap.size + 1 + 1) (.int .i64 r.room) (.int .i64 0) (.slice none 0 0) (.bool false) (.bool false) (.int .i64 0) ∧ w.heap.size + 1 + 1 < w1.heap.size := by
    have e : w0.heap.size = w.heap.size + 1 + 1 := by rw [← hw0]; simp
    exact ⟨_, rfl, (Kp.refl _ _).alloc _, B6.at _ e _ _ _ _ _ _ _, by simp; omega⟩
  have kw1 : Kp [] w w1 := k0.trans k1 (by simp)
  have bx1 := bx0.kept k1
  have br1 := br0.kept k1
  have hks1 := hks.kept kw1
  have hrl := hr.lt
  have hlast : ∀ f ∈ r.l, f.last ≤ f.bytes.length := fun f hf => by
    have := ho.last f.fl (by rw [← hL.files]; exact List.mem_map_of_mem hf)
    exact this
  have A0 : Hid (CrI w w1 r ks 0 w1) := ⟨[], none, 0, bc1, .inl ⟨rfl, rfl⟩, Kp.refl _ _, by simp [crashF], by simp, by simp [blk], rfl⟩
  have hrk : Hid (RdOk w r) := hr
  have hLk : Hid (Like r d) := hL
  have hcr : Hid (∀ j wn, CrI w w1 r ks j wn → CrI w w1 r ks j wn) := fun _ _ h => h
  have hnext : Hid (∀ {wr we w2 w3 : World} {j : Nat} {l' l2 : List RF} {a a2 : Option Addr} {c c2 : Nat} {x f' : RF} (hx : r.l[j]? = some x)
    (bq : B6 wr (w.heap.size + 1 + 1) (.int .i64 r.room) (.int .i64 0) (.slice a l'.length c) (.bool false) (.bool false) (.int .i64 0)) (hrow : RFE.Row wr (.slice a l'.length c) l') (k1 : Kp [w.heap.size + 1 + 1] w1 wr) (hm : l'.map RF.fl = crashF ((r.l.map RF.fl).take j) ks) (hs : ∀ f ∈ l', FSee wr f ∧ ∀ k ∈ f.ft, w1.heap.size ≤ k ∧ k ∉ blk a) (ha : ∀ k ∈ blk a, w1.heap.size ≤ k) (hlen : l'.length = j)
    (ke : Kp [] wr we) (hf : FSee we f') (hfn : ∀ k ∈ f'.ft, wr.heap.size ≤ k) (hfe : f'.fl = keptF x.fl (ks.getD j 0))
    (hl2 : l2 = l' ++ [f']) (hrow2 : RFE.Row w2 (.slice a2 l2.length c2) l2) (kA : Kp (own (.slice a l'.length c)) we w2) (hn2 : ∀ k ∈ blk a2, k ∈ own (.slice a l'.length c) ∨ we.heap.size ≤ k)
    (hw3 : w3 = w2.setCell ⟨w.heap.size + 1 + 1, 2, none⟩ (.slice a2 l2.length c2)), CrI w w1 r ks (j + 1) w3) := fun hx bq hrow k1 hm hs ha hlen ke hf hfn hfe hl2 hrow2 kA hn2 hw3 => CrI.next hx hsz1 bq hrow k1 hm hs ha hlen ke hf hfn hfe hl2 hrow2 kA hn2 hw3
  have hw0' := hid hw0
  have hw1' := hid hw1
  clear hr hL hw0 hw1
  obtain ⟨room, steps, fa, fc, l, armed, dead, left⟩ := r
  simp only [RD.v] at *
  go_enter Tryz.func24, Tryz.ntmps24
  go_wp2_with fail
  rw [hw0'.out, hw1'.out]
  go_loopw [6] (fun i wn => ∃ j : Nat, j ≤ l.length ∧ i = .int .i64 j ∧ CrI w w1 ⟨room, steps, fa, fc, l, armed, dead, left⟩ ks j wn) (fun i _ => l.length - (intOf i).toNat)
  case atStart => exact ⟨0, Nat.zero_le _, rfl, A0.out⟩
  case round =>
    clear A0
    obtain ⟨j, hj, rfl, l', av, cv, bq, hrow, kr, hm0, hs, ha, hlen0⟩ := hrel
    have hm := hid hm0
    have hlen := hid hlen0
    clear hm0 hlen0
    simp only at bq
    have bxr := B6.keptS bx1 kr (by simp <;> omega)
    have b2 := bxr.c2
    by_cases hjl : j < l.length
    · obtain ⟨x, hx⟩ : ∃ x, l[j]? = some x := ⟨l[j], by simp [hjl]⟩
      have hxm := List.mem_of_getElem? hx
      have hrr : RdOk wr (⟨room, steps, fa, fc, l, armed, dead, left⟩ : RD) := (hrk.out.keptNew kw1).kept kr (fun k hk h => by simp at h; have := hrl k hk; omega)
      obtain ⟨g, o, rfl, c0, c1, c2⟩ := hrr.fls.at hx
      have hse := hrr.see x hxm
      have hxl := hlast x hxm
      have hxB := hB x hxm
      have hbc := hse.2.2.1
      obtain ⟨wb, hwb⟩ : ∃ wb, wr.alloc (.cells #[.string ⟨x.name.toArray⟩, .slice x.ba x.bytes.length x.bc, .int .i64 (x.last : Int)] 68) = wb := ⟨_, rfl⟩
      have kb : Kp [] wr wb := by rw [← hwb]; exact (Kp.refl _ _).alloc _
      have bf : B3 wb wr.heap.size (.string ⟨x.name.toArray⟩) (.slice x.ba x.bytes.length x.bc) (.int .i64 (x.last : Int)) := by rw [← hwb]; exact B3.at _ rfl _ _ _ _
      have hqf : wr.heap.size ≠ w.heap.size + 1 + 1 := by have := bq.lt; omega
      have hxh := hid hx
      have hll : l'.length ≤ 1000000000000 := by have := hlen.out; omega
      have hwb' := hid hwb
      -- the rest of a round, for a number kn of bytes more
      have tail : True := trivial
      clear hx hwb
      by_cases hjk : j < ks.length
      · obtain ⟨kk, hkk⟩ : ∃ k, ks[j]? = some k := ⟨ks[j], by simp [hjk]⟩
        have hkb := hk64 kk (List.mem_of_getElem? hkk)
        rcases hks1 with hnil | ⟨gk, ok, rfl, hkc1⟩
        · rw [hnil] at hkk; simp at hkk
        have hkcell := hkc1 j kk hkk
        have hgd : ks.getD j 0 = kk := by simp [List.getD, hkk]
        have hgdh := hid hgd
        have hgkw : gk < w.heap.size := by
          rcases hks with hnil | ⟨gk', ok', e', hkc0⟩
          · rw [hnil] at hkk; simp at hkk
          · cases e'
            exact World.block_lt_of_cell? _ _ (hkc0 j kk hkk)
        have hkr : wr.cell? ⟨gk, ok + j, none⟩ = some (.int .i64 kk) := (kr.cell (p := ⟨gk, ok + j, none⟩) (World.block_lt_of_cell? _ _ hkcell) (by simp; omega)).trans hkcell
        have hgkr : gk < wr.heap.size := World.block_lt_of_cell? _ _ hkr
        clear hkc1 hkk hgd hkcell
        by_cases hkp : 0 < kk
        · have hdk : decide (0 < kk) = true := by simpa using hkp
          obtain ⟨kn, hkn⟩ : ∃ kn : Nat, Hid (kn = min kk.toNat (x.bytes.length - x.last)) := ⟨_, rfl⟩
          have hmin : min kk ((x.bytes.length : Int) - (x.last : Int)) = (kn : Int) := by have := hkn.out; omega
          have hws : IntKind.i64.wrap ((x.bytes.length : Int) - (x.last : Int)) = (x.bytes.length : Int) - (x.last : Int) := by rw [IntKind.wrap_i64]; omega
          have hkx : Hid (min (ks.getD j 0).toNat (x.bytes.length - x.last) = kn) := by show _ = _; rw [hgdh.out, hkn.out]
          have hknl : x.last + kn ≤ x.bytes.length := by have := hkn.out; omega
          have bfd := bf.kept (w' := wb.drew) (Kp.refl _ _).drew
          have hkd : wb.drew.cell? ⟨gk, ok + j, none⟩ = some (.int .i64 kk) := cell_kp kb.drew hkr
          have hSf : wb.drew.cell? ⟨gk, ok + j, none⟩ = some (.int .i64 kk) ∧ wb.drew.cell? ⟨wr.heap.size, 1, none⟩ = some (.slice x.ba x.bytes.length x.bc) ∧ wb.drew.cell? ⟨wr.heap.size, 2, none⟩ = some (.int .i64 (x.last : Int)) := ⟨hkd, bfd.c1, bfd.c2⟩
          go_wp2_with fail
          rw [hwb'.out]
          refine wp_region_held_drew (S := (fun A => A.cell? ⟨gk, ok + j, none⟩ = some (.int .i64 kk) ∧ A.cell? ⟨wr.heap.size, 1, none⟩ = some (.slice x.ba x.bytes.length x.bc) ∧ A.cell? ⟨wr.heap.size, 2, none⟩ = some (.int .i64 (x.last : Int)))) (by kernel_rfl) ?_ (fun hHeld => ?_)
          · exact hSf
          refine wpAnyH_take (i := 0) (v := ?_) rfl (by kernel_rfl) (by kernel_rfl) (by kernel_rfl) (fun _ _ _ h => h) (Or.inl ⟨by rfl, ?_⟩) (by assumption) ?_
          rotate_left
          · intro w hSw; (try dsimp only at hSw); go_simp <;> with_reducible rfl
          try simp only [Act.put, List.getElem_toArray, List.getElem_cons_zero, List.getElem_cons_succ, List.setIfInBounds_toArray, List.set_cons_zero, List.set_cons_succ]
          refine wpAnyH_take (i := 1) (v := ?_) rfl (by kernel_rfl) (by kernel_rfl) (by kernel_rfl) (fun _ _ _ h => h) (Or.inl ⟨by rfl, ?_⟩) (by assumption) ?_
          rotate_left
          · intro w hSw; (try dsimp only at hSw); go_simp <;> with_reducible rfl
          try simp only [Act.put, List.getElem_toArray, List.getElem_cons_zero, List.getElem_cons_succ, List.setIfInBounds_toArray, List.set_cons_zero, List.set_cons_succ]
          refine wpAnyH_take (i := 2) (v := ?_) rfl (by kernel_rfl) (by kernel_rfl) (by kernel_rfl) (fun _ _ _ h => h) (Or.inl ⟨by rfl, ?_⟩) (by assumption) ?_
          rotate_left
          · intro w hSw; (try dsimp only at hSw); go_simp <;> with_reducible rfl
          try simp only [Act.put, List.getElem_toArray, List.getElem_cons_zero, List.getElem_cons_succ, List.setIfInBounds_toArray, List.set_cons_zero, List.set_cons_succ]
          refine wpAnyH_take (i := 3) (v := ?_) rfl (by kernel_rfl) (by kernel_rfl) (by kernel_rfl) (fun _ _ _ h => h) (Or.inl ⟨by rfl, ?_⟩) (by assumption) ?_
          rotate_left
          · intro w hSw; (try dsimp only at hSw); go_simp <;> with_reducible rfl
          try simp only [Act.put, List.getElem_toArray, List.getElem_cons_zero, List.getElem_cons_succ, List.setIfInBounds_toArray, List.set_cons_zero, List.set_cons_succ]
          refine wpAnyH_take (i := 4) (v := ?_) rfl (by kernel_rfl) (by kernel_rfl) (by kernel_rfl) (fun _ _ _ h => h) (Or.inl ⟨by rfl, ?_⟩) (by assumption) ?_
          rotate_left
          · intro w hSw; (try dsimp only at hSw); go_simp <;> with_reducible rfl
          try simp only [Act.put, List.getElem_toArray, List.getElem_cons_zero, List.getElem_cons_succ, List.setIfInBounds_toArray, List.set_cons_zero, List.set_cons_succ]
          refine wpAnyH_take (i := 5) (v := ?_) rfl (by kernel_rfl) (by kernel_rfl) (by kernel_rfl) (fun _ _ _ h => h) (Or.inl ⟨by rfl, ?_⟩) (by assumption) ?_
          rotate_left
          · intro w hSw; (try dsimp only at hSw); go_simp <;> with_reducible rfl
          try simp only [Act.put, List.getElem_toArray, List.getElem_cons_zero, List.getElem_cons_succ, List.setIfInBounds_toArray, List.set_cons_zero, List.set_cons_succ]
          refine wpAnyH_take (i := 6) (v := ?_) rfl (by kernel_rfl) (by kernel_rfl) (by kernel_rfl) (fun _ _ _ h => h) (Or.inl ⟨by rfl, ?_⟩) (by assumption) ?_
          rotate_left
          · intro w hSw; (try dsimp only at hSw); go_simp <;> with_reducible rfl
          try simp only [Act.put, List.getElem_toArray, List.getElem_cons_zero, List.getElem_cons_succ, List.setIfInBounds_toArray, List.set_cons_zero, List.set_cons_succ]
          refine wpAnyH_take (i := 7) (v := ?_) rfl (by kernel_rfl) (by kernel_rfl) (by kernel_rfl) (fun _ _ _ h => h) (Or.inl ⟨by rfl, ?_⟩) (by assumption) ?_
          rotate_left
          · intro w hSw; (try dsimp only at hSw); go_simp <;> with_reducible rfl
          try simp only [Act.put, List.getElem_toArray, List.getElem_cons_zero, List.getElem_cons_succ, List.setIfInBounds_toArray, List.set_cons_zero, List.set_cons_succ]
          refine wpAnyH_take (i := 8) (v := ?_) rfl (by kernel_rfl) (by kernel_rfl) (by kernel_rfl) (fun _ _ _ h => h) (Or.inl ⟨by rfl, ?_⟩) (by assumption) ?_
          rotate_left
          · intro w hSw; (try dsimp only at hSw); go_simp <;> with_reducible rfl
          try simp only [Act.put, List.getElem_toArray, List.getElem_cons_zero, List.getElem_cons_succ, List.setIfInBounds_toArray, List.set_cons_zero, List.set_cons_succ]
          refine wpAnyH_take (i := 9) (v := ?_) rfl (by kernel_rfl) (by kernel_rfl) (by kernel_rfl) (fun _ _ _ h => h) (Or.inl ⟨by rfl, ?_⟩) (by assumption) ?_
          rotate_left
          · intro w hSw; (try dsimp only at hSw); go_simp <;> with_reducible rfl
          try simp only [Act.put, List.getElem_toArray, List.getElem_cons_zero, List.getElem_cons_succ, List.setIfInBounds_toArray, List.set_cons_zero, List.set_cons_succ]
          refine wpAnyH_take (i := 10) (v := ?_) rfl (by kernel_rfl) (by kernel_rfl) (by kernel_rfl) (fun _ _ _ h => h) (Or.inl ⟨by rfl, ?_⟩) (by assumption) ?_
          rotate_left
          · intro w hSw; (try dsimp only at hSw); go_simp <;> with_reducible rfl
          try simp only [Act.put, List.getElem_toArray, List.getElem_cons_zero, List.getElem_cons_succ, List.setIfInBounds_toArray, List.set_cons_zero, List.set_cons_succ]
          refine wpAnyH_take (i := 11) (v := ?_) rfl (by kernel_rfl) (by kernel_rfl) (by kernel_rfl) (fun _ _ _ h => h) (Or.inl ⟨by rfl, ?_⟩) (by assumption) ?_
          rotate_left
          · intro w hSw; (try dsimp only at hSw); go_simp <;> with_reducible rfl
          try simp only [Act.put, List.getElem_toArray, List.getElem_cons_zero, List.getElem_cons_succ, List.setIfInBounds_toArray, List.set_cons_zero, List.set_cons_succ]
          refine wpAnyH_done (by kernel_rfl) ?_ _
          obtain ⟨m, hmk⟩ : ∃ m : Nat, Hid (m = x.last + kn) := ⟨_, rfl⟩
          have hml : m ≤ x.bytes.length := by have := hmk.out; omega
          have hmc : m ≤ x.bc := by omega
          have hm0 : (0 : Int) ≤ (m : Int) := by omega
          have hm1 : (m : Int) ≤ (x.bc : Int) := by omega
          have hwa : IntKind.i64.wrap ((x.last : Int) + (kn : Int)) = (m : Int) := by have := hmk.out; rw [IntKind.wrap_i64]; omega
          have hjo := cJoined x.ba none x.bc 0 (x.bytes.take m) [] wb.drew ((hse.1.kept kb.drew (by simp)).front m) (Sees.nil _ _) (by simp; omega)
          have etl : (x.bytes.take m).length = m := by simp; omega
          rw [etl] at hjo
          simp only [List.length_nil, List.append_nil] at hjo
          have bfx : B3 wb.drew wr.heap.size (.string ⟨x.name.toArray⟩) (.slice x.ba x.bytes.length x.bc) (.int .i64 (x.last : Int)) := bf.kept (Kp.refl _ _).drew
          have hXs : wr.heap.size < wb.drew.heap.size := bfx.lt
          have f1 := bfx.c1
          have f2 := bfx.c2
          go_wp2_with fail
          refine hjo.mono ?_
          rintro e wa ⟨ja, jc, rfl, hja, ka', hjn⟩
          obtain ⟨ys, hys⟩ : ∃ ys, Hid (ys = x.bytes.take m) := ⟨_, rfl⟩
          rw [← hys.out] at hja ⊢
          have hyl : Hid (ys.length = m) := by show _ = _; rw [hys.out]; exact etl
          have bfa := bfx.kept ka'
          have p0 := bfa.c0
          have p1 := bfa.c1
          have p2 := bfa.c2
          have pf1 := bfa.free 1
          have pf2 := bfa.free 2
          obtain ⟨wc, hwc⟩ : ∃ wc, wa.setCell ⟨wr.heap.size, 1, none⟩ (.slice ja ys.length jc) = wc := ⟨_, rfl⟩
          have bfc : B3 wc wr.heap.size (.string ⟨x.name.toArray⟩) (.slice ja ys.length jc) (.int .i64 (x.last : Int)) := by rw [← hwc]; exact bfa.set1 _
          have kcc : Kp [wr.heap.size] wa wc := by rw [← hwc]; exact kpSet _ _ _ _
          have d1 := bfc.c1
          have d2 := bfc.c2
          have df2 := bfc.free 2
          obtain ⟨we, hwe⟩ : ∃ we, wc.setCell ⟨wr.heap.size, 2, none⟩ (.int .i64 (ys.length : Int)) = we := ⟨_, rfl⟩
          have bfe : B3 we wr.heap.size (.string ⟨x.name.toArray⟩) (.slice ja ys.length jc) (.int .i64 (ys.length : Int)) := by rw [← hwe]; exact bfc.set2 _
          have kce : Kp [wr.heap.size] wa we := kcc.trans (by rw [← hwe]; exact kpSet _ _ _ _) (fun x hx => .inl hx)
          have e0 := bfe.c0
          have e1 := bfe.c1
          have e2 := bfe.c2
          have hqfe := bfe.lt
          have ke : Kp [] wr we := ((kb.drew).trans ka' (by simp)).trans kce (fun x hx => .inr (by simp at hx; omega))
          have hrowe := hrow.keptNew ke
          have bqe := bq.kept ke
          have q2 := bqe.c2
          have qf2 := bqe.free 2
          have hqown : w.heap.size + 1 + 1 ∉ own (.slice av l'.length cv) := by rw [rowOwn hrow]; intro h; have := ha _ h; omega
          obtain ⟨_, _, eja, hsj, hnj, hlj⟩ := Row.partsM hja
          cases eja
          have hfs : FSee we ⟨x.name, ja, jc, ys, ys.length⟩ := ⟨hsj.kept kce (fun k hk h => by have := hjn k hk; simp at h; omega), hnj, hlj⟩
          have hfn : ∀ k ∈ RF.ft ⟨x.name, ja, jc, ys, ys.length⟩, wr.heap.size ≤ k := fun k hk => by have := hjn k (mem_ft hk); omega
          have hfe : Hid (RF.fl ⟨x.name, ja, jc, ys, ys.length⟩ = keptF x.fl (ks.getD j 0)) := by
            show _ = _
            have e1 : x.last + min (ks.getD j 0).toNat (x.bytes.length - x.last) = m := by have := hkx.out; have := hmk.out; omega
            simp only [RF.fl, keptF]
            rw [e1, hyl.out, hys.out]
          have hfin : Hid (∀ l2 a2 c2 w2, l2 = l' ++ [⟨x.name, ja, jc, ys, ys.length⟩] → RFE.Row w2 (.slice a2 l2.length c2) l2 → Kp (own (.slice av l'.length cv)) we w2 → (∀ k ∈ blk a2, k ∈ own (.slice av l'.length cv) ∨ we.heap.size ≤ k) → CrI w w1 ⟨room, steps, some ⟨g, o, none⟩, fc, l, armed, dead, left⟩ ks (j + 1) (w2.setCell ⟨w.heap.size + 1 + 1, 2, none⟩ (.slice a2 l2.length c2))) := fun l2 a2 c2 w2 h1 h2 h3 h4 => hnext.out hxh.out bq hrow kr hm.out hs ha hlen.out ke hfs hfn hfe.out h1 h2 h3 h4 rfl
          clear hjo f1 f2 etl hja hsj bfa bfc bfe bqe hse hrr c0 c1 c2
          go_wp2_with (first | (refine wpAppFE rfl _ _ rfl _ l' rfl hrowe ⟨x.name, ja, jc, ys, ys.length⟩ _ rfl rfl hll ?_; intro l2 a2 c2 w2 hl2 hrow2 kA hn2; have v2 := (kA.cell (p := ⟨w.heap.size + 1 + 1, 2, none⟩) (World.block_lt_of_cell? _ _ q2) hqown).trans q2; have vf := (kA.frozen (p := ⟨w.heap.size + 1 + 1, 2, none⟩) (World.block_lt_of_cell? _ _ q2) hqown).trans qf2) | fail)
          exact ⟨⟨j + 1, by omega, by go_num, hfin.out l2 a2 c2 w2 hl2.out hrow2 kA hn2⟩, by simp [intOf]; omega⟩
        · have hdk : decide (0 < kk) = false := by simpa using hkp
          obtain ⟨kn, hkn⟩ : ∃ kn : Nat, Hid (kn = 0) := ⟨_, rfl⟩
          have hkx : Hid (min (ks.getD j 0).toNat (x.bytes.length - x.last) = kn) := by show _ = _; rw [hgdh.out, hkn.out]; omega
          have hknl : x.last + kn ≤ x.bytes.length := by have := hkn.out; omega
          have hmk : Hid (x.last = x.last + kn) := by show _ = _; have := hkn.out; omega
          have hml : x.last ≤ x.bytes.length := by have := hmk.out; omega
          have hmc : x.last ≤ x.bc := by omega
          have hm0 : (0 : Int) ≤ (x.last : Int) := by omega
          have hm1 : (x.last : Int) ≤ (x.bc : Int) := by omega
          have hwa : IntKind.i64.wrap ((x.last : Int) + 0) = (x.last : Int) := by rw [IntKind.wrap_i64]; omega
          have hjo := cJoined x.ba none x.bc 0 (x.bytes.take x.last) [] wb ((hse.1.kept kb (by simp)).front x.last) (Sees.nil _ _) (by simp; omega)
          have etl : (x.bytes.take x.last).length = x.last := by simp; omega
          rw [etl] at hjo
          simp only [List.length_nil, List.append_nil] at hjo
          have bfx : B3 wb wr.heap.size (.string ⟨x.name.toArray⟩) (.slice x.ba x.bytes.length x.bc) (.int .i64 (x.last : Int)) := bf
          have hXs : wr.heap.size < wb.heap.size := bfx.lt
          have f1 := bfx.c1
          have f2 := bfx.c2
          go_wp2_with fail
          rw [hwb'.out]
          refine hjo.mono ?_
          rintro e wa ⟨ja, jc, rfl, hja, ka', hjn⟩
          obtain ⟨ys, hys⟩ : ∃ ys, Hid (ys = x.bytes.take x.last) := ⟨_, rfl⟩
          rw [← hys.out] at hja ⊢
          have hyl : Hid (ys.length = x.last) := by show _ = _; rw [hys.out]; exact etl
          have bfa := bfx.kept ka'
          have p0 := bfa.c0
          have p1 := bfa.c1
          have p2 := bfa.c2
          have pf1 := bfa.free 1
          have pf2 := bfa.free 2
          obtain ⟨wc, hwc⟩ : ∃ wc, wa.setCell ⟨wr.heap.size, 1, none⟩ (.slice ja ys.length jc) = wc := ⟨_, rfl⟩
          have bfc : B3 wc wr.heap.size (.string ⟨x.name.toArray⟩) (.slice ja ys.length jc) (.int .i64 (x.last : Int)) := by rw [← hwc]; exact bfa.set1 _
          have kcc : Kp [wr.heap.size] wa wc := by rw [← hwc]; exact kpSet _ _ _ _
          have d1 := bfc.c1
          have d2 := bfc.c2
          have df2 := bfc.free 2
          obtain ⟨we, hwe⟩ : ∃ we, wc.setCell ⟨wr.heap.size, 2, none⟩ (.int .i64 (ys.length : Int)) = we := ⟨_, rfl⟩
          have bfe : B3 we wr.heap.size (.string ⟨x.name.toArray⟩) (.slice ja ys.length jc) (.int .i64 (ys.length : Int)) := by rw [← hwe]; exact bfc.set2 _
          have kce : Kp [wr.heap.size] wa we := kcc.trans (by rw [← hwe]; exact kpSet _ _ _ _) (fun x hx => .inl hx)
          have e0 := bfe.c0
          have e1 := bfe.c1
          have e2 := bfe.c2
          have hqfe := bfe.lt
          have ke : Kp [] wr we := ((kb).trans ka' (by simp)).trans kce (fun x hx => .inr (by simp at hx; omega))
          have hrowe := hrow.keptNew ke
          have bqe := bq.kept ke
          have q2 := bqe.c2
          have qf2 := bqe.free 2
          have hqown : w.heap.size + 1 + 1 ∉ own (.slice av l'.length cv) := by rw [rowOwn hrow]; intro h; have := ha _ h; omega
          obtain ⟨_, _, eja, hsj, hnj, hlj⟩ := Row.partsM hja
          cases eja
          have hfs : FSee we ⟨x.name, ja, jc, ys, ys.length⟩ := ⟨hsj.kept kce (fun k hk h => by have := hjn k hk; simp at h; omega), hnj, hlj⟩
          have hfn : ∀ k ∈ RF.ft ⟨x.name, ja, jc, ys, ys.length⟩, wr.heap.size ≤ k := fun k hk => by have := hjn k (mem_ft hk); omega
          have hfe : Hid (RF.fl ⟨x.name, ja, jc, ys, ys.length⟩ = keptF x.fl (ks.getD j 0)) := by
            show _ = _
            have e1 : x.last + min (ks.getD j 0).toNat (x.bytes.length - x.last) = x.last := by have := hkx.out; have := hmk.out; omega
            simp only [RF.fl, keptF]
            rw [e1, hyl.out, hys.out]
          have hfin : Hid (∀ l2 a2 c2 w2, l2 = l' ++ [⟨x.name, ja, jc, ys, ys.length⟩] → RFE.Row w2 (.slice a2 l2.length c2) l2 → Kp (own (.slice av l'.length cv)) we w2 → (∀ k ∈ blk a2, k ∈ own (.slice av l'.length cv) ∨ we.heap.size ≤ k) → CrI w w1 ⟨room, steps, some ⟨g, o, none⟩, fc, l, armed, dead, left⟩ ks (j + 1) (w2.setCell ⟨w.heap.size + 1 + 1, 2, none⟩ (.slice a2 l2.length c2))) := fun l2 a2 c2 w2 h1 h2 h3 h4 => hnext.out hxh.out bq hrow kr hm.out hs ha hlen.out ke hfs hfn hfe.out h1 h2 h3 h4 rfl
          clear hjo f1 f2 etl hja hsj bfa bfc bfe bqe hse hrr c0 c1 c2
          go_wp2_with (first | (refine wpAppFE rfl _ _ rfl _ l' rfl hrowe ⟨x.name, ja, jc, ys, ys.length⟩ _ rfl rfl hll ?_; intro l2 a2 c2 w2 hl2 hrow2 kA hn2; have v2 := (kA.cell (p := ⟨w.heap.size + 1 + 1, 2, none⟩) (World.block_lt_of_cell? _ _ q2) hqown).trans q2; have vf := (kA.frozen (p := ⟨w.heap.size + 1 + 1, 2, none⟩) (World.block_lt_of_cell? _ _ q2) hqown).trans qf2) | fail)
          exact ⟨⟨j + 1, by omega, by go_num, hfin.out l2 a2 c2 w2 hl2.out hrow2 kA hn2⟩, by simp [intOf]; omega⟩
      · have hkx0 : ks.getD j 0 = 0 := by simp [List.getD, List.getElem?_eq_none (by omega : ks.length ≤ j)]
        obtain ⟨kn, hkn⟩ : ∃ kn : Nat, Hid (kn = 0) := ⟨_, rfl⟩
        have hkx : Hid (min (ks.getD j 0).toNat (x.bytes.length - x.last) = kn) := by show _ = _; rw [hkx0, hkn.out]; omega
        have hknl : x.last + kn ≤ x.bytes.length := by have := hkn.out; omega
        clear hkx0
        have hmk : Hid (x.last = x.last + kn) := by show _ = _; have := hkn.out; omega
        have hml : x.last ≤ x.bytes.length := by have := hmk.out; omega
        have hmc : x.last ≤ x.bc := by omega
        have hm0 : (0 : Int) ≤ (x.last : Int) := by omega
        have hm1 : (x.last : Int) ≤ (x.bc : Int) := by omega
        have hwa : IntKind.i64.wrap ((x.last : Int) + 0) = (x.last : Int) := by rw [IntKind.wrap_i64]; omega
        have hjo := cJoined x.ba none x.bc 0 (x.bytes.take x.last) [] wb ((hse.1.kept kb (by simp)).front x.last) (Sees.nil _ _) (by simp; omega)
        have etl : (x.bytes.take x.last).length = x.last := by simp; omega
        rw [etl] at hjo
        simp only [List.length_nil, List.append_nil] at hjo
        have bfx : B3 wb wr.heap.size (.string ⟨x.name.toArray⟩) (.slice x.ba x.bytes.length x.bc) (.int .i64 (x.last : Int)) := bf
        have hXs : wr.heap.size < wb.heap.size := bfx.lt
        have f1 := bfx.c1
        have f2 := bfx.c2
        go_wp2_with fail
        rw [hwb'.out]
        refine hjo.mono ?_
        rintro e wa ⟨ja, jc, rfl, hja, ka', hjn⟩
        obtain ⟨ys, hys⟩ : ∃ ys, Hid (ys = x.bytes.take x.last) := ⟨_, rfl⟩
        rw [← hys.out] at hja ⊢
        have hyl : Hid (ys.length = x.last) := by show _ = _; rw [hys.out]; exact etl
        have bfa := bfx.kept ka'
        have p0 := bfa.c0
        have p1 := bfa.c1
        have p2 := bfa.c2
        have pf1 := bfa.free 1
        have pf2 := bfa.free 2
        obtain ⟨wc, hwc⟩ : ∃ wc, wa.setCell ⟨wr.heap.size, 1, none⟩ (.slice ja ys.length jc) = wc := ⟨_, rfl⟩
        have bfc : B3 wc wr.heap.size (.string ⟨x.name.toArray⟩) (.slice ja ys.length jc) (.int .i64 (x.last : Int)) := by rw [← hwc]; exact bfa.set1 _
        have kcc : Kp [wr.heap.size] wa wc := by rw [← hwc]; exact kpSet _ _ _ _
        have d1 := bfc.c1
        have d2 := bfc.c2
        have df2 := bfc.free 2
        obtain ⟨we, hwe⟩ : ∃ we, wc.setCell ⟨wr.heap.size, 2, none⟩ (.int .i64 (ys.length : Int)) = we := ⟨_, rfl⟩
        have bfe : B3 we wr.heap.size (.string ⟨x.name.toArray⟩) (.slice ja ys.length jc) (.int .i64 (ys.length : Int)) := by rw [← hwe]; exact bfc.set2 _
        have kce : Kp [wr.heap.size] wa we := kcc.trans (by rw [← hwe]; exact kpSet _ _ _ _) (fun x hx => .inl hx)
        have e0 := bfe.c0
        have e1 := bfe.c1
        have e2 := bfe.c2
        have hqfe := bfe.lt
        have ke : Kp [] wr we := ((kb).trans ka' (by simp)).trans kce (fun x hx => .inr (by simp at hx; omega))
        have hrowe := hrow.keptNew ke
        have bqe := bq.kept ke
        have q2 := bqe.c2
        have qf2 := bqe.free 2
        have hqown : w.heap.size + 1 + 1 ∉ own (.slice av l'.length cv) := by rw [rowOwn hrow]; intro h; have := ha _ h; omega
        obtain ⟨_, _, eja, hsj, hnj, hlj⟩ := Row.partsM hja
        cases eja
        have hfs : FSee we ⟨x.name, ja, jc, ys, ys.length⟩ := ⟨hsj.kept kce (fun k hk h => by have := hjn k hk; simp at h; omega), hnj, hlj⟩
        have hfn : ∀ k ∈ RF.ft ⟨x.name, ja, jc, ys, ys.length⟩, wr.heap.size ≤ k := fun k hk => by have := hjn k (mem_ft hk); omega
        have hfe : Hid (RF.fl ⟨x.name, ja, jc, ys, ys.length⟩ = keptF x.fl (ks.getD j 0)) := by
          show _ = _
          have e1 : x.last + min (ks.getD j 0).toNat (x.bytes.length - x.last) = x.last := by have := hkx.out; have := hmk.out; omega
          simp only [RF.fl, keptF]
          rw [e1, hyl.out, hys.out]
        have hfin : Hid (∀ l2 a2 c2 w2, l2 = l' ++ [⟨x.name, ja, jc, ys, ys.length⟩] → RFE.Row w2 (.slice a2 l2.length c2) l2 → Kp (own (.slice av l'.length cv)) we w2 → (∀ k ∈ blk a2, k ∈ own (.slice av l'.length cv) ∨ we.heap.size ≤ k) → CrI w w1 ⟨room, steps, some ⟨g, o, none⟩, fc, l, armed, dead, left⟩ ks (j + 1) (w2.setCell ⟨w.heap.size + 1 + 1, 2, none⟩ (.slice a2 l2.length c2))) := fun l2 a2 c2 w2 h1 h2 h3 h4 => hnext.out hxh.out bq hrow kr hm.out hs ha hlen.out ke hfs hfn hfe.out h1 h2 h3 h4 rfl
        clear hjo f1 f2 etl hja hsj bfa bfc bfe bqe hse hrr c0 c1 c2
        go_wp2_with (first | (refine wpAppFE rfl _ _ rfl _ l' rfl hrowe ⟨x.name, ja, jc, ys, ys.length⟩ _ rfl rfl hll ?_; intro l2 a2 c2 w2 hl2 hrow2 kA hn2; have v2 := (kA.cell (p := ⟨w.heap.size + 1 + 1, 2, none⟩) (World.block_lt_of_cell? _ _ q2) hqown).trans q2; have vf := (kA.frozen (p := ⟨w.heap.size + 1 + 1, 2, none⟩) (World.block_lt_of_cell? _ _ q2) hqown).trans qf2) | fail)
        exact ⟨⟨j + 1, by omega, by go_num, hfin.out l2 a2 c2 w2 hl2.out hrow2 kA hn2⟩, by simp [intOf]; omega⟩
    · have e : j = l.length := by omega
      subst e
      have q0 := bq.c0; have q1 := bq.c1; have q2 := bq.c2; have q3 := bq.c3; have q4 := bq.c4; have q5 := bq.c5
      have brr := B6.keptS br1 kr (by simp)
      have hb4 : B6 wr (w.heap.size + 1) (.int .i64 0) (.int .i64 0) (.slice none 0 0) (.bool false) (.bool false) (.int .i64 0) := brr
      obtain ⟨r0, r1, r2, r3, r4, r5, rf⟩ := brr
      have g0 := rf 0; have g1 := rf 1; have g2 := rf 2; have g3 := rf 3; have g4 := rf 4; have g5 := rf 5
      have hfin : Hid (∀ W', Kp [w.heap.size + 1] wr W' → RefP [] (crashD d ks) w (.agg #[.int .i64 room, .int .i64 0, .slice av l'.length cv, .bool false, .bool false, .int .i64 0]) W') := fun W' kW => by
        obtain ⟨_, _, ev, hsee, _⟩ := hrow.see
        cases ev
        have hz1 := kw1.size
        refine ⟨⟨room, 0, av, cv, l', false, false, 0⟩, rfl, ⟨(RFE.fls hsee).kept kW (fun k hk h => ?_), fun f hf => (hs f hf).1.keep kW (fun k hk h => ?_)⟩, ⟨hLk.out.room, rfl, ?_, rfl, rfl, fun n hn => by simp [crashD] at hn, by simp, by simp⟩, (kw1.trans kr (fun x hx => .inr (by simp at hx; omega))).trans kW (fun x hx => .inr (by simp at hx; omega)), fun k hk => .inr ?_⟩
        · have := ha k hk; simp at h; omega
        · have := ((hs f hf).2 k hk).1; simp at h; omega
        · have h1 := hm.out
          rw [List.take_of_length_le (by simp)] at h1
          simp only [h1, crashD]
          have h2 := hLk.out.files
          simp only at h2
          rw [h2]
        · simp only [RD.foot, List.mem_append, List.mem_flatMap] at hk
          rcases hk with hk | ⟨f, hf, hk⟩
          · have := ha k (mem_ff hk); omega
          · have := ((hs f hf).2 k hk).1; omega
      clear hnext hcr
      go_wp2_with fail
      obtain ⟨W', hW', hb6, kW'⟩ := set6_ex hb4 (.int .i64 room) (.int .i64 0) (.slice av l'.length cv) (.bool false) (.bool false) (.int .i64 0)
      rw [hW']
      obtain ⟨z0, z1, z2, z3, z4, z5, _⟩ := hb6
      refine bodyPost_ret (v := .agg #[.int .i64 room, .int .i64 0, .slice av l'.length cv, .bool false, .bool false, .int .i64 0]) (by simp [results, Tryz.results24, go_sem, z0, z1, z2, z3, z4, z5]) rfl ?_
      exact ⟨_, rfl, hfin.out W' kW'⟩
end Go.Proofs.YtpkoikennimonaaGreatDoor
end

section
namespace Go.Proofs.YtpkoikennimonaaGreatDoor
open Go.RowKit Go.Hay
set_option linter.unusedVariables false
set_option linter.unusedSimpArgs false

theorem textS_out {bs bs' out : List UInt8} (h : textS 16777216 bs 0 = (out, bs', 0)) : out.length ≤ bs.length := by
  obtain ⟨⟨n, r, e1⟩, hc⟩ : ∃ c, varS 16777216 bs 0 = c := ⟨_, rfl⟩
  have hcc : countS 16777216 bs 0 = (n, r, e1) := by unfold countS; rw [if_pos (by omega)]; exact hc
  have hle := countS_le hcc
  unfold textS at h
  rw [hcc] at h
  dsimp only at h
  split at h
  · rename_i h1
    exact absurd (congrArg (fun x => x.2.2) h) h1
  · unfold rawS at h
    split at h
    · have h9 : out = [] := (congrArg (fun x => x.1) h).symm
      rw [h9]
      simp
    · obtain ⟨he, h2, h3, hb'⟩ := takeS_ok _ _ _ h
      rw [h3, List.length_take]
      omega
theorem lstS_mem : ∀ (n : Nat) (bs : List UInt8), ∀ x ∈ (lstS n bs 0).1, x.length ≤ bs.length
  | 0, bs, x, hx => by simp [lstS] at hx
  | n + 1, bs, x, hx => by
    obtain ⟨⟨out, r, e⟩, ht⟩ : ∃ T, textS 16777216 bs 0 = T := ⟨_, rfl⟩
    by_cases he : e = 0
    · subst he
      rw [lstS_good _ _ _ _ ht] at hx
      have h1 := textS_out ht
      have h2 := textS_shorter ht
      rcases List.mem_cons.1 hx with rfl | hx
      · exact h1
      · have := lstS_mem n r x hx; omega
    · rw [lstS_bad _ _ _ _ _ he ht] at hx
      cases hx
theorem bdy_mem (bs : List UInt8) : ∀ x ∈ (bdy bs).1, x.length ≤ bs.length := by
  intro x hx
  unfold bdy at hx
  obtain ⟨⟨n, r, e⟩, hc⟩ : ∃ C, countS 16777216 bs 0 = C := ⟨_, rfl⟩
  rw [hc] at hx
  dsimp only at hx
  have hle := countS_le hc
  by_cases he : e = 0
  · subst he
    have := lstS_mem n.toNat r x hx
    omega
  · rw [lstS_err _ _ _ he] at hx
    cases hx
theorem rdF_mem : ∀ (f : Nat) (bs : List UInt8), ∀ x ∈ (rdF f bs).1, x.length ≤ 16777216
  | 0, bs, x, hx => by simp [rdF] at hx
  | f + 1, bs, x, hx => by
    rw [rdF] at hx
    by_cases h1 : bs = []
    · rw [if_pos h1] at hx; cases hx
    rw [if_neg h1] at hx
    by_cases h2 : (unf bs).2.2 = 10
    · rw [if_pos h2] at hx; cases hx
    rw [if_neg h2] at hx
    by_cases h3 : (unf bs).2.2 ≠ 0
    · rw [if_pos h3] at hx; cases hx
    rw [if_neg h3] at hx
    by_cases h4 : (bdy (unf bs).1).2 = false
    · rw [if_pos h4] at hx; cases hx
    rw [if_neg h4] at hx
    by_cases h5 : (rdF f (bs.drop (unf bs).2.1.toNat)).2.2 ≠ 0
    · simp only [if_pos h5] at hx; cases hx
    · simp only [if_neg h5] at hx
      rcases List.mem_append.1 hx with h | h
      · have h6 := bdy_mem _ x h
        have := unf_len bs
        omega
      · exact rdF_mem f _ x h
theorem rdQ_mem (bs : List UInt8) : ∀ x ∈ (rdQ bs).1, x.length ≤ 16777216 := rdF_mem _ _
end Go.Proofs.YtpkoikennimonaaGreatDoor
end

section
namespace Go.Proofs.YtpkoikennimonaaGreatDoor
open Go.RowKit Go.Hay
set_option linter.unusedVariables false
set_option linter.unusedSimpArgs false

/-- A disk that lives, and will. -/
def Quiet (d : Dk) : Prop := d.arm = none ∧ d.dead = false
theorem Quiet.step {d : Dk} (h : Quiet d) : Quiet (stepD d).1 ∧ (stepD d).2 = false := by
  unfold stepD
  rw [if_neg (by rw [h.1]; simp)]
  exact ⟨⟨by simp [h.1], h.2⟩, rfl⟩
theorem Quiet.append {d : Dk} (h : Quiet d) (nm b : List UInt8) : Quiet (appendD d nm b).1 := by
  have h1 : Quiet (stepD { d with files := grownF d.files nm b }).1 := (Quiet.step (d := { d with files := grownF d.files nm b }) ⟨h.1, h.2⟩).1
  unfold appendD
  repeat' split
  all_goals first | exact h | exact h1
theorem Quiet.do {d : Dk} (h : Quiet d) (c : Int) (nm to : List UInt8) (n : Int) : Quiet (doD d c nm to n).1 := by
  have h1 := h.step
  unfold doD
  repeat' split
  all_goals first | exact h | exact h1.1 | exact ⟨h1.1.1, h1.1.2⟩
theorem Quiet.write {d : Dk} (h : Quiet d) (nm b : List UInt8) : Quiet (writeD d nm b).1 := by
  unfold writeD
  split
  · exact h.append _ _
  · exact (h.append _ _).do _ _ _ _
theorem Quiet.create {d : Dk} (h : Quiet d) (nm : List UInt8) : Quiet (createD d nm).1 := by
  unfold createD
  split
  · exact h.do _ _ _ _
  · exact (h.do _ _ _ _).write _ _
theorem Quiet.opened {d : Dk} (h : Quiet d) (q : List UInt8 → List (List UInt8) × Nat × Int) (nm : List UInt8) : Quiet (openD q d nm).1 := by
  unfold openD
  repeat' split
  all_goals first | exact h | exact h.do _ _ _ _ | exact (h.do _ _ _ _).do _ _ _ _
theorem Quiet.crash (d : Dk) (ks : List Int) : Quiet (crashD d ks) := ⟨rfl, rfl⟩
theorem Quiet.app {d : Dk} (h : Quiet d) (nm : List UInt8) (R : List (List UInt8)) : Quiet (appQ d nm R).1 := by
  unfold appQ
  repeat' split
  all_goals first | exact h | exact h.write _ _
theorem One.wr {K s : Nat} {d : Dk} (h : One K s d) (q : Quiet d) (b : List UInt8) (hr : (writeD d nmZ b).2 ≠ 0) : (writeD d nmZ b).1.files = d.files := by
  have hst : ∀ l, (stepD { d with files := l }).2 = false := fun l => (Quiet.step (d := { d with files := l }) ⟨q.1, q.2⟩).2
  have hfs : ∀ l, (stepD { d with files := l }).1.files = l := fun l => by unfold stepD; split <;> rfl
  have hqs : ∀ l, Quiet (stepD { d with files := l }).1 := fun l => (Quiet.step (d := { d with files := l }) ⟨q.1, q.2⟩).1
  have hlk : ∃ f, lookG Fl.name nmZ (grownF d.files nmZ b) = some f := by
    rcases h.fs with e | ⟨x, k, e, _⟩
    · rw [e]; exact ⟨_, by simp [grownF, fileOf, lookG, putG]; rfl⟩
    · have hfi : fileOf [⟨nmZ, x, k⟩] nmZ = ⟨nmZ, x, k⟩ := by simp [fileOf, lookG]
      rw [e]
      unfold grownF
      rw [hfi, put_Z]
      exact ⟨⟨nmZ, x ++ b, k⟩, by simp [lookG]⟩
  by_cases hf : (b.length : Int) > freeD d
  · have e : appendD d nmZ b = (d, 41) := by simp [appendD, q.2, rnZ, hf]
    unfold writeD
    rw [e, if_pos (by simp)]
  · have e : appendD d nmZ b = ((stepD { d with files := grownF d.files nmZ b }).1, 0) := by
      have h1 := hst (grownF d.files nmZ b)
      unfold appendD
      rw [if_neg (by rw [q.2]; simp), if_neg (by rw [rnZ]; simp), if_neg hf, h1]
      rfl
    exfalso
    apply hr
    unfold writeD
    rw [e, if_neg (by simp)]
    obtain ⟨f, hf2⟩ := hlk
    have q1 := hqs (grownF d.files nmZ b)
    have e2 := hfs (grownF d.files nmZ b)
    generalize (stepD { d with files := grownF d.files nmZ b }).1 = D at q1 e2
    have hre : refusedD D 1 nmZ [] 0 = 0 := by simp [refusedD, q1.2, e2, hf2]
    simp [doD, hre, q1.step.2]
/-- What is refused of a disk that lives leaves its files. -/
theorem One.refused {K s : Nat} {d : Dk} (h : One K s d) (q : Quiet d) (R : List (List UInt8)) (hr : (appQ d nmZ R).2 ≠ 0) : (appQ d nmZ R).1.files = d.files := by
  unfold appQ at hr ⊢
  by_cases h0 : R = []
  · rw [if_pos h0]
  · rw [if_neg h0] at hr ⊢
    by_cases h1 : (frmR R).2 ≠ 0
    · rw [if_pos h1]
    · rw [if_neg h1] at hr ⊢
      exact h.wr q _ hr
/-- At most one file; and where Q is so, the disk lives, and will. -/
structure OneQ (Q : Prop) (K s : Nat) (d : Dk) : Prop extends One K s d where
  qt : Q → Quiet d
variable {Q : Prop} {K s : Nat} {d : Dk}
theorem OneQ.mono {K' s' : Nat} (h : OneQ Q K s d) (hK : K ≤ K') (hs : s ≤ s') : OneQ Q K' s' d := ⟨h.toOne.mono hK hs, h.qt⟩
theorem OneQ.armed (h : OneQ False K s d) (n : Int) (hn : n < 9223372036854775808) : OneQ False K s (armD d n) := ⟨h.toOne.armed n hn, fun h => h.elim⟩
theorem OneQ.crash (h : OneQ Q K s d) (ks : List Int) : OneQ Q K 0 (crashD d ks) := ⟨h.toOne.crash ks, fun _ => Quiet.crash d ks⟩
theorem OneQ.new (room : Int) (h : room < 9223372036854775808) : OneQ Q 0 0 (newD room) := ⟨One.new room h, fun _ => ⟨rfl, rfl⟩⟩
theorem OneQ.create (h : OneQ Q K s d) : OneQ Q K (s + 3) (createD d nmZ).1 := ⟨h.toOne.create, fun q => (h.qt q).create _⟩
theorem OneQ.opened (h : OneQ Q K s d) (q : List UInt8 → List (List UInt8) × Nat × Int) : OneQ Q K (s + 2) (openD q d nmZ).1 := ⟨h.toOne.opened q, fun k => (h.qt k).opened q nmZ⟩
end Go.Proofs.YtpkoikennimonaaGreatDoor
end

section
namespace Go.Proofs.YtpkoikennimonaaGreatDoor
open Go.RowKit Go.Hay
set_option linter.unusedVariables false
set_option linter.unusedSimpArgs false
variable {Q : Prop}

/-- There is a log, at both. -/
def UpZ (w W : World) (dp mb : Nat) (xs : List Ent) (r : RD) (g : RL) (lp : Option Addr) (K : Nat) (X : List Nat) : Prop :=
  ∃ (p : Nat) (B : Nat → Prop) (v : Value) (M : List (List UInt8)) (sz : Int), lp = some ⟨p, 0, none⟩ ∧ Log W p dp nmZ B v M sz ∧ (∀ k ∈ foot dp mb xs, ¬ B k ∧ k ≠ p) ∧ (∀ k, B k → w.heap.size ≤ k ∧ k < W.heap.size) ∧ w.heap.size ≤ p ∧
    RlOk W g ∧ (g.nm = nmZ ∧ bsl g.l = M ∧ g.sz = sz) ∧ (∀ k ∈ g.foot, k ∉ foot dp mb xs ∧ ¬ B k ∧ k ≠ p) ∧ (∀ k ∈ r.foot, ¬ B k ∧ k ≠ p) ∧ (M.length ≤ K ∧ 0 ≤ sz ∧ sz ≤ K ∧ ∀ x ∈ M, x.length ≤ 140737488351232) ∧ ∀ k ∈ X, ¬ B k ∧ k ≠ p ∧ k ∉ g.foot
theorem UpZ.keep {w W W' : World} {dp mb : Nat} {xs : List Ent} {r : RD} {g : RL} {lp : Option Addr} {K : Nat} {X : List Nat} (h : UpZ w W dp mb xs r g lp K X) (k : Kp [] W W') : UpZ w W' dp mb xs r g lp K X := by
  obtain ⟨p, B, v, M, sz, h1, h2, h3, h4, h5, h6, h7, h8, h9, h10, h11⟩ := h
  have := k.size
  exact ⟨p, B, v, M, sz, h1, h2.kept k (by simp) (by simp), h3, fun j hj => ⟨(h4 j hj).1, by have := (h4 j hj).2; omega⟩, h5, h6.kept k (by simp), h7, h8, h9, h10, h11⟩
/-- Both disks; and where there is a log, both logs. -/
def StZ (Q : Prop) (w W : World) (dp : Nat) (lp : Option Addr) (r : RD) (g : RL) (up : Bool) (K s : Nat) (X : List Nat) : Prop :=
  ∃ (mb : Nat) (xs : List Ent) (d : Dk), Disk W dp mb xs d ∧ OneQ Q K s d ∧ RdOk W r ∧ Like r d ∧ Kp [] w W ∧ (∀ k ∈ foot dp mb xs, w.heap.size ≤ k) ∧ (∀ k ∈ r.foot, k ∉ foot dp mb xs) ∧ (up = true → UpZ w W dp mb xs r g lp K X) ∧ ∀ k ∈ X, k < W.heap.size ∧ k ∉ foot dp mb xs ∧ k ∉ r.foot ∧ w.heap.size ≤ k
theorem StZ.keep {w W W' : World} {dp : Nat} {lp : Option Addr} {r : RD} {g : RL} {up : Bool} {K s : Nat} {X : List Nat} (h : StZ Q w W dp lp r g up K s X) (k : Kp [] W W') : StZ Q w W' dp lp r g up K s X := by
  obtain ⟨mb, xs, d, h1, h2, h3, h4, h5, h6, h7, h8, h9⟩ := h
  have hz := k.size
  exact ⟨mb, xs, d, h1.keptNew k, h2, h3.keptNew k, h4, h5.trans k (by simp), h6, h7, fun hu => (h8 hu).keep k, fun j hj => ⟨by have := (h9 j hj).1; omega, (h9 j hj).2⟩⟩
theorem StZ.kp {w W : World} {dp : Nat} {lp : Option Addr} {r : RD} {g : RL} {up : Bool} {K s : Nat} {X : List Nat} (h : StZ Q w W dp lp r g up K s X) : Kp [] w W := by
  obtain ⟨mb, xs, d, h1, h2, h3, h4, h5, h6, h7, h8, h9⟩ := h
  exact h5
/-- What both calls tell, one behind the other. -/
def BothZ (Q : Prop) (w W0 W : World) (dp : Nat) (r : RD) (F : Nat) (K s : Nat) (X : List Nat) (e : Ending) (W1 : World) : Prop :=
  ∃ (lp : Option Addr) (z : Int), e = .returned (.tuple #[.pointer lp, .int .i64 z]) ∧ lp.isSome = (z == 0) ∧ (∃ S, Kp S W W1 ∧ ∀ k ∈ S, k < W0.heap.size ∧ k ∉ X ∧ w.heap.size ≤ k) ∧
    ∀ W2, Kp [] W1 W2 → Calls Tryz.prog F #[r.v, .string ⟨nmZ.toArray⟩] W2 fun e W3 => ∃ (r' : RD) (g' : RL), e = .returned (.tuple #[r'.v, g'.v, .int .i64 z]) ∧ Kp [] W2 W3 ∧ StZ Q w W3 dp lp r' g' (z == 0) K s X
theorem both_of {w W0 W W1 : World} {dp mb : Nat} {xs : List Ent} {d : Dk} {r : RD} {K s' : Nat} {F : Nat} {X : List Nat} {e : Ending} {x : Dk × Int} {L : List (List UInt8)} {sz : Int} (hD0 : Disk W0 dp mb xs d) (hX0 : ∀ k ∈ X, k < W0.heap.size ∧ k ∉ foot dp mb xs ∧ k ∉ r.foot ∧ w.heap.size ≤ k) (hz0 : W0.heap.size ≤ W.heap.size) (hR : RdOk W r) (hL : Like r d) (hw : Kp [] w W) (hf : ∀ k ∈ foot dp mb xs, w.heap.size ≤ k) (hap : ∀ k ∈ r.foot, k ∉ foot dp mb xs) (hOx : OneQ Q K s' x.1) (hLK : L.length ≤ K ∧ 0 ≤ sz ∧ sz ≤ K ∧ ∀ x ∈ L, x.length ≤ 140737488351232)
    (hF : ∀ W2, RdOk W2 r → Calls Tryz.prog F #[r.v, .string ⟨nmZ.toArray⟩] W2 (RefL r.foot x nmZ L sz W2)) (hP : OpnP dp mb xs x nmZ L sz W e W1) : BothZ Q w W0 W dp r F K s' X e W1 := by
  obtain ⟨v0, xs', he, hD1, hm, hno, hyes⟩ := hP
  have hz1 := hm.kp.size
  have hzw := hw.size
  have hRlt := hR.lt
  have hR1 : RdOk W1 r := hR.kept hm.kp hap
  have hkw1 : Kp [] w W1 := hw.trans hm.kp (fun k hk => .inr (hf k hk))
  have hf1 : ∀ k ∈ foot dp mb xs', w.heap.size ≤ k := fun k hk => by
    rcases hm.new k hk with h | h
    · exact hf k h
    · omega
  have hD1lt := hD1.lt
  have fin : ∀ (lp : Option Addr), v0 = .pointer lp → lp.isSome = (x.2 == 0) → (x.2 = 0 → ∃ p v B, lp = some ⟨p, 0, none⟩ ∧ Log W1 p dp nmZ B v L sz ∧ W.heap.size ≤ p ∧ (∀ k, B k → W.heap.size ≤ k ∧ k < W1.heap.size) ∧ ∀ k ∈ foot dp mb xs', ¬ B k ∧ k ≠ p) → BothZ Q w W0 W dp r F K s' X e W1 := fun lp hv hs hl => by
    refine ⟨lp, x.2, by rw [he, hv], hs, ⟨_, hm.kp, fun k hk => ⟨hD0.lt k hk, fun hx => (hX0 k hx).2.1 hk, hf k hk⟩⟩, fun W2 k2 => ?_⟩
    have hz2 := k2.size
    refine (hF W2 (hR1.keptNew k2)).mono ?_
    rintro e' W3 ⟨v, g, rfl, ⟨r', rfl, hR', hL', k3, hf3⟩, hg, hgf, hg0, _⟩
    have hz3 := k3.size
    have hapn : ∀ k, (k ∈ r.foot ∨ W2.heap.size ≤ k) → k ∉ foot dp mb xs' := fun k hk hm' => by
      rcases hk with h | h
      · rcases hm.new k hm' with h2 | h2
        · exact hap k h h2
        · have := hRlt k h; omega
      · have := hD1lt k hm'; omega
    refine ⟨r', g, rfl, k3, mb, xs', x.1, (hD1.keptNew k2).keptNew k3, hOx, hR', hL', (hkw1.trans k2 (by simp)).trans k3 (by simp), hf1, fun k hk => hapn k (hf3 k hk), fun hu => ?_, fun k hk => ⟨by have := (hX0 k hk).1; omega, fun hm' => by
      rcases hm.new k hm' with h2 | h2
      · exact (hX0 k hk).2.1 h2
      · have := (hX0 k hk).1; omega, fun hm' => by
      rcases hf3 k hm' with h2 | h2
      · exact (hX0 k hk).2.2.1 h2
      · have := (hX0 k hk).1; omega, (hX0 k hk).2.2.2⟩⟩
    have h0 : x.2 = 0 := by simpa using hu
    obtain ⟨p, v', B, rfl, hlog, hp, hB, hsp⟩ := hl h0
    have hplt := hlog.box.lt
    have hnB : ∀ k, (k ∈ r.foot ∨ W2.heap.size ≤ k) → ¬ B k ∧ k ≠ p := fun k hk => by
      rcases hk with h | h
      · have h9 := hRlt k h
        exact ⟨fun hb => by have := (hB k hb).1; omega, by omega⟩
      · exact ⟨fun hb => by have := (hB k hb).2; omega, by omega⟩
    exact ⟨p, B, v', L, sz, rfl, (hlog.kept k2 (by simp) (by simp)).kept k3 (by simp) (by simp), hsp, fun k hk => ⟨by have := (hB k hk).1; omega, by have := (hB k hk).2; omega⟩, by omega, hg, hg0 h0, fun k hk => ⟨hapn k (hgf k hk), hnB k (hgf k hk)⟩, fun k hk => hnB k (hf3 k hk), hLK, fun k hk => by
      have h9 := (hX0 k hk).1
      exact ⟨fun hb => by have := (hB k hb).1; omega, by omega, fun hm' => by
        rcases hgf k hm' with h2 | h2
        · exact (hX0 k hk).2.2.1 h2
        · omega⟩⟩
  by_cases h0 : x.2 = 0
  · obtain ⟨p, v, B, rfl, hlog, hp, hB, hsp⟩ := hyes h0
    exact fin (some ⟨p, 0, none⟩) rfl (by simp [h0]) (fun _ => ⟨p, v, B, rfl, hlog, hp, hB, hsp⟩)
  · exact fin none (hno h0) (by simp [h0]) (fun h => absurd h h0)
/-- Open, at both. -/
theorem StZ.opn {w W0 W : World} {dp : Nat} {lp : Option Addr} {r : RD} {g : RL} {up : Bool} {K s : Nat} {X : List Nat} (h : StZ Q w W0 dp lp r g up K s X) (k : Kp [] W0 W) (hK : K ≤ 4000000000000) (hs : s ≤ 6000000000000000000) (hT : Tab w) :
    Calls Tryz.prog 17 #[.pointer (some ⟨dp, 0, none⟩), .string ⟨nmZ.toArray⟩] W (BothZ Q w W0 W dp r 18 K (s + 2) X) := by
  obtain ⟨mb, xs, d, h1, h2, h3, h4, h5, h6, h7, h8, h9⟩ := h
  have hst := h2.st
  have hfi := h2.file
  have hr := rdQ_len (fileOf d.files nmZ).bytes
  refine (cOpen (h1.keptNew k) (by omega) (h2.small (by omega)) nmZ nmZ_len (hT.kept (h5.trans k (by simp)) (by simp)) (by omega)).mono ?_
  intro e W1 hP
  exact both_of h1 h9 k.size (h3.keptNew k) h4 (h5.trans k (by simp)) h6 h7 (h2.opened rdQ) ⟨by omega, by omega, by omega, fun x hx => by have := rdQ_mem _ x hx; omega⟩ (fun W2 hR2 => rOpen r d W2 hR2 h4 h2.toOne hK (by omega)) hP
/-- Create, at both. -/
theorem StZ.cre {w W0 W : World} {dp : Nat} {lp : Option Addr} {r : RD} {g : RL} {up : Bool} {K s : Nat} {X : List Nat} (h : StZ Q w W0 dp lp r g up K s X) (k : Kp [] W0 W) (hK : K ≤ 4000000000000) (hs : s ≤ 6000000000000000000) :
    Calls Tryz.prog 16 #[.pointer (some ⟨dp, 0, none⟩), .string ⟨nmZ.toArray⟩] W (BothZ Q w W0 W dp r 20 K (s + 3) X) := by
  obtain ⟨mb, xs, d, h1, h2, h3, h4, h5, h6, h7, h8, h9⟩ := h
  have hst := h2.st
  have hln := h2.len
  refine (cCreate (h1.keptNew k) (by omega) (by omega) (h2.small (by omega)) nmZ nmZ_len).mono ?_
  intro e W1 hP
  exact both_of h1 h9 k.size (h3.keptNew k) h4 (h5.trans k (by simp)) h6 h7 h2.create ⟨by simp, by omega, by omega, by simp⟩ (fun W2 hR2 => rCreate r d W2 hR2 h4 h2.toOne (by omega) (by omega)) hP
end Go.Proofs.YtpkoikennimonaaGreatDoor
end

/- Free: how much room a disk has. Append. A log on a disk: what its calls do, plainly; how it lies in memory; write, Create, Len, Size. Create; Open. -/
import Derived.Test.YtpbogplmkenegabDoorB6
import Derived.Test.YtpbogplmkenegabDoorB5
section
namespace Go.Proofs.YtpbogplmkenegabDoor
open Go.RowKit Go.Hay Go.Maps Go.Sort Go.Shelf
attribute [local go_sem] Oper.semAt_some
set_option linter.unusedVariables false
set_option linter.unusedSimpArgs false

/-- How it stands between two rounds. -/
def FreeI (xs : List Ent) (room : Nat) (w : World) (s : List Ent) (W : World) : Prop := W.cell? ⟨w.heap.size, 0, none⟩ = some (.int .i64 ((room : Int) - ((s.map fun x => x.bytes.length).sum : Nat))) ∧ W.frozen? ⟨w.heap.size, 0, none⟩ = false ∧ Kp [] w W ∧ w.heap.size + 2 ≤ W.heap.size ∧ (∀ y ∈ s, y ∈ xs) ∧ (s.map Ent.name).Nodup
theorem freeOwn (xs : List Ent) (room : Nat) (w : World) (B : Nat) (hB : w.heap.size < B) : OwnFrom B (FreeI xs room w) := fun s W W' row h hg hr => by
  have hb : W'.heap[w.heap.size]? = W.heap[w.heap.size]? := hg.block _ (World.block_lt_of_cell? _ _ h.1) (fun e => by have := (hr _ e.symm).1; omega)
  exact ⟨(World.cell?_of_block (a := ⟨w.heap.size, 0, none⟩) hb).trans h.1, (World.frozen?_of_block (a := ⟨w.heap.size, 0, none⟩) hb).trans h.2.1, h.2.2.1.grown hg (fun k e => by have := (hr k e).1; exact .inr (by omega)), Nat.le_trans h.2.2.2.1 hg.size, h.2.2.2.2⟩
theorem freeTurn (xs : List Ent) (room : Nat) (w : World) (B : Nat) (hB : w.heap.size < B) (s s' : List Ent) (A A' : World) (h : FreeI xs room w s A) (ht : StepV B s s' A A') : FreeI xs room w s' A' := by
  obtain ⟨rfl, row, hg, hr⟩ := ht
  have hb : A'.heap[w.heap.size]? = A.heap[w.heap.size]? := hg.block _ (World.block_lt_of_cell? _ _ h.1) (fun e => by have := (hr _ e.symm).1; omega)
  exact ⟨(World.cell?_of_block (a := ⟨w.heap.size, 0, none⟩) hb).trans h.1, (World.frozen?_of_block (a := ⟨w.heap.size, 0, none⟩) hb).trans h.2.1, h.2.2.1.grown hg (fun k e => by have := (hr k e).1; exact .inr (by omega)), Nat.le_trans h.2.2.2.1 hg.size, h.2.2.2.2⟩
theorem stepKeeps {B : Nat} {s s' : List Ent} {A A' : World} (ht : StepV B s s' A A') (k : Nat) (o : Obj) (ho : A.heap[k]? = some o) (hw : o.isWalk = false) : A'.heap[k]? = some o := by
  obtain ⟨rfl, row, hg, hr⟩ := ht
  exact (grownBy_keeps hg (fun r e => (hr r e).2) ho hw).trans ho

set_option maxHeartbeats 8000000 in
set_option maxRecDepth 100000 in
theorem cFree {w : World} {p mb : Nat} {xs : List Ent} {d : Dk} (hD : Disk w p mb xs d) : Calls Tryd.prog 39 #[.pointer (some ⟨p, 0, none⟩)] w fun e w' => e = .returned (.int .i64 (freeD d)) ∧ Kp [] w w' := by
  have c0 := hD.hd.c0
  have c1 := hD.hd.c1
  have hplt := hD.hd.lt
  have hroom := hD.ok.room
  refine (callsIn_wide (n := 4)).1 ?_
  refine callsIn_of_wp_marks Tryd.func39 rfl trivial ?_ rfl
  simp only [Tryd.ntmps39, List.size_toArray, List.length_cons, List.length_nil, Nat.reduceAdd, Nat.reduceSub, Array.replicate_succ, Array.replicate_zero, List.push_toArray, List.append_toArray, List.nil_append, List.cons_append]
  gi_wp2_with fail
  refine ⟨trivial, (callsIn_wide.2 (cValues _ _)).mono ?_⟩
  rintro e w' ⟨rfl, rfl⟩
  obtain ⟨w1, hw1⟩ : ∃ w1, w1 = (w.alloc (.cells #[.int .i64 (d.room : Int)] 3)).alloc (.cells #[.map (some mb)] 36) := ⟨_, rfl⟩
  have hs1 : w1.heap.size = w.heap.size + 2 := by rw [hw1]; simp
  have k1 : Kp [] w w1 := by rw [hw1]; exact ((Kp.refl _ _).alloc _).alloc _
  have b0 : w1.cell? ⟨w.heap.size, 0, none⟩ = some (.int .i64 (d.room : Int)) := by rw [hw1]; simp
  have f0 : w1.frozen? ⟨w.heap.size, 0, none⟩ = false := by rw [hw1]; simp
  have b1 : w1.heap[w.heap.size + 1]? = some (.cells #[.map (some mb)] 36 (0, 0)) := by
    rw [hw1]
    have := World.alloc_heap_new (w.alloc (.cells #[.int .i64 (d.room : Int)] 3)) (.cells #[.map (some mb)] 36)
    rwa [World.size_alloc] at this
  rw [← hw1]
  simp only [World.size_alloc]
  have hD1 := hD.keptNew k1
  have hseq := valuesSeq (4 - 1) (by omega) (w.heap.size + 1) mb xs hD.rise w1 b1 hD1.map
  have hI0 : FreeI xs d.room w [] w1 := ⟨by simpa using b0, f0, k1, by omega, by simp, by simp⟩
  have hmaplt := hD.map.lt
  clear b0 f0 hw1 c0 c1
  gi_wp2_with fail
  refine wpRangeS rfl (by omega) (gf := 56) (lb := #[.pointer (some ⟨w.heap.size + 1, 0, none⟩)]) rfl trivial (enters_of Tryd.func56 (by kernel_rfl) rfl)
    hseq (fun _ => rfl) KeepV.trans (fun _ => KeepV.alloc _) (fun _ W l o o' hl ho _ hw => KeepV.putObj W l o o' (by omega) ho hw) ⟨KeepsWalks.refl _, fun _ h => h⟩ (fun s s' A B ht k o _ ho _ hw => stepKeeps ht k o ho hw)
    (FreeI xs d.room w) (fun _ _ _ => False) (freeOwn xs d.room w _ (by omega)) (fun _ _ _ _ _ h _ _ => h) (freeTurn xs d.room w _ (by omega)) hI0
    (fun x => { tmps := #[.pointer (some ⟨p, 0, none⟩), undef, .int .i64 0, .pointer (some ⟨w.heap.size, 0, none⟩), .pointer (some ⟨x.blk, 0, none⟩), .pointer (some ⟨p, 0, none⟩), .pointer (some ⟨p, 0, none⟩), .pointer (some ⟨p, 0, none⟩), .int .i64 (d.room : Int), .pointer (some ⟨p, 0, none⟩), .pointer (some ⟨p, 0, none⟩), .pointer (some ⟨p, 1, none⟩), .map (some mb), .func (.func 56) #[] #[.pointer (some ⟨w.heap.size + 1, 0, none⟩)], .pointer (some ⟨x.blk, 0, none⟩), undef, undef, undef, undef, undef, undef, undef, undef], defers := [] }) ?assign ?body ?done ?stop
  case assign =>
    intro l x W C hC
    gi_wp2_with fail
    exact hC
  case body =>
    rintro l s x W ⟨h1, h2, h3, h4, h5, h6⟩ ⟨hx, hnot⟩
    have hf := (hD.keptNew h3).files x hx
    obtain ⟨a, c, ev, hsee, hnil, hcap⟩ := Row.parts hf.row
    have c0 := hf.box.c0
    have hxl := hf.box.lt
    have hxl0 := (hD.files x hx).box.lt
    rw [ev] at c0
    have h7 : ∀ y ∈ s ++ [x], y ∈ xs := fun y hy => by
      rcases List.mem_append.1 hy with h | h
      · exact h5 y h
      · rw [List.mem_singleton.1 h]; exact hx
    have h8 : ((s ++ [x]).map Ent.name).Nodup := by
      rw [List.map_append, List.nodup_append]
      refine ⟨h6, by simp, fun a ha b hb => ?_⟩
      simp at hb
      subst hb
      exact fun e => hnot (by rw [← e]; exact ha)
    have hsum : ((s ++ [x]).map fun x => x.bytes.length).sum = (s.map fun x => x.bytes.length).sum + x.bytes.length := by simp
    have hle := sum_sub (nm := Ent.name) (fun x => x.bytes.length) (s ++ [x]) xs hD.rise h7 h8
    have htot : (xs.map fun x => x.bytes.length).sum = sumF d.files := by rw [hD.fl]; simp [sumF, Function.comp_def, Ent.fl]
    have hsm := hD.ok.sum
    have hfin : ∀ z : Int, z = (d.room : Int) - (((s ++ [x]).map fun x => x.bytes.length).sum : Nat) → leftS w1.heap.size (fun _ => KeepV (w.heap.size + 1)) (FreeI xs d.room w) (fun _ _ _ => False) s (s ++ [x]) W .normal { tmps := #[], defers := [] } (W.setCell ⟨w.heap.size, 0, none⟩ (.int .i64 z)).drew := fun z hz => by
      subst hz
      have kS : Kp [w.heap.size] W (W.setCell ⟨w.heap.size, 0, none⟩ (.int .i64 ((d.room : Int) - (((s ++ [x]).map fun x => x.bytes.length).sum : Nat)))) := (Kp.refl _ _).setCell (p := ⟨w.heap.size, 0, none⟩) (by simp) _
      have hne : ∀ k, k ≠ w.heap.size → (W.setCell ⟨w.heap.size, 0, none⟩ (.int .i64 ((d.room : Int) - (((s ++ [x]).map fun x => x.bytes.length).sum : Nat)))).heap[k]? = W.heap[k]? := fun k hk => Below.heap_setCell W _ _ k hk
      refine ⟨⟨kS.size, fun k o hk ho _ => (hne k (by omega)).trans ho⟩, ⟨⟨kS.size, fun k o ho hw => ?_⟩, fun o ho => (hne _ (by omega)).trans ho⟩, ?_, ?_, ?_, ?_, h7, h8⟩
      · by_cases e : k = w.heap.size
        · subst e
          obtain ⟨o', ho', hw'⟩ := not_walk_of_cell h1
          rw [ho] at ho'; cases ho'; rw [hw] at hw'; cases hw'
        · exact (hne k e).trans ho
      · exact World.cell?_setCell_same _ _ _ h1
      · exact (World.frozen?_setCell _ _ _ _).trans h2
      · exact (h3.setCell (p := ⟨w.heap.size, 0, none⟩) (.inr (Nat.le_refl _)) _).drew
      · exact Nat.le_trans h4 kS.size
    have hwr : ∀ z : Int, z = (d.room : Int) - (s.map fun x => x.bytes.length).sum - x.bytes.length → IntKind.i64.wrap z = z := fun z hz => by
      rw [IntKind.wrap_i64]; omega
    have hwr' := hwr _ rfl
    gi_wp2_with fail
    gi_region
    all_goals
      gi_wp2_with fail
      exact hfin _ (by rw [hsum]; simp only [Int.natCast_add]; omega)
  case done =>
    rintro D' s W hD' hS ⟨h1, h2, h3, h4, h5, h6⟩ hK
    have htot : (xs.map fun x => x.bytes.length).sum = sumF d.files := by rw [hD.fl]; simp [sumF, Function.comp_def, Ent.fl]
    have hsum : (s.map fun x => x.bytes.length).sum = sumF d.files := by rw [← htot]; exact (hS.map _).sum_nat
    rw [hsum] at h1
    have hfr : freeD d = (d.room : Int) - (sumF d.files : Nat) := rfl
    rw [← hfr] at h1
    have hkD : Kp [D'] W (W.putObj D' (.deferred none)) := ⟨rfl, rfl, rfl, by simp, fun k hk hn => World.putObj_heap_other (by simpa using hn)⟩
    have kD := h3.trans hkD (fun x hx => .inr (by simp at hx; omega))
    clear hsum htot hfr
    gi_wp2_with fail
    refine ⟨by simp, .inl ⟨_, _, rfl, run_takeDeferred hK, ?_⟩⟩
    exact ⟨_, results_tmp rfl _ _ _, rfl, kD⟩
  case stop =>
    rintro D' c s W _ _ h _
    exact h.elim
end Go.Proofs.YtpbogplmkenegabDoor
end

section
namespace Go.Proofs.YtpbogplmkenegabDoor
open Go.RowKit Go.Hay Go.Maps
set_option linter.unusedVariables false
set_option linter.unusedSimpArgs false

theorem putG_twice {α : Type} {nm : α → List UInt8} (f g : α) (h : nm g = nm f) {l : List α} (hr : riseG nm l) : putG nm f false (putG nm g false l) = putG nm f false l := by
  rw [putG_ins f _ (riseG_put g hr), putG_ins f l hr, putG_ins g l hr, h]
  congr 1
  have : ∀ (m : List α), (∀ x ∈ m, nm x ≠ nm f) → dropG nm (nm f) (insG nm g m) = m := by
    intro m
    induction m with
    | nil => intro _; simp [insG, dropG, h]
    | cons y m ih =>
      intro hm
      have hy := hm y (by simp)
      unfold insG
      split
      · have e : dropG nm (nm f) (g :: y :: m) = dropG nm (nm f) (y :: m) := by simp [dropG, h]
        rw [e]
        exact dropG_all hm
      · have e : dropG nm (nm f) (y :: insG nm g m) = y :: dropG nm (nm f) (insG nm g m) := by simp [dropG, hy]
        rw [e, ih (fun x hx => hm x (by simp [hx]))]
  exact this _ (fun x hx => (mem_dropG.1 hx).2)

section
variable {w w1 : World} {p mb : Nat} {xs : List Ent} {d : Dk}
theorem Disk.appended (h : Disk w p mb xs d) {x : Ent} (hx : x ∈ xs) {v' : Value} {bs : List UInt8} (hr : Row w1 v' bs) (hg : Grew x.v w v' w1) (ok : Okd { d with files := putG Fl.name ⟨x.name, bs, x.last⟩ false d.files }) :
    w1.cell? ⟨x.blk, 0, none⟩ = some x.v ∧ w1.frozen? ⟨x.blk, 0, none⟩ = false ∧
    Disk (w1.setCell ⟨x.blk, 0, none⟩ v') p mb (putG Ent.name ⟨x.name, x.blk, v', bs, x.last⟩ false xs) { d with files := putG Fl.name ⟨x.name, bs, x.last⟩ false d.files } ∧ Mv (foot p mb xs) w (foot p mb (putG Ent.name ⟨x.name, x.blk, v', bs, x.last⟩ false xs)) (w1.setCell ⟨x.blk, 0, none⟩ v') := by
  have hf := h.files x hx
  have hb1 := hf.box.kept hg.kp hf.ap
  have hap : x.blk ∉ own v' := fun hm => by
    rcases hg.new _ hm with h1 | h1
    · exact hf.ap h1
    · have := hf.box.lt; omega
  have kS : Kp [x.blk] w1 (w1.setCell ⟨x.blk, 0, none⟩ v') := (Kp.refl _ _).setCell (p := ⟨x.blk, 0, none⟩) (by simp) _
  have kA : Kp x.foot w (w1.setCell ⟨x.blk, 0, none⟩ v') := (hg.kp.mono (T := x.foot) (fun k hk => .inl (by simp [Ent.foot, hk]))).trans kS (fun k hk => .inl (by simp at hk; simp [Ent.foot, hk]))
  have hin := h.inPlace ⟨x.name, x.blk, v', bs, x.last⟩ hx rfl rfl kA ⟨hb1.set0 _, hr.kept kS (fun k hk e => hap (by rw [List.mem_singleton] at e; subst e; exact hk)), hap⟩ (fun k hk => by
    rcases List.mem_cons.1 hk with rfl | hk
    · exact .inl (by simp [Ent.foot])
    · exact (hg.new k hk).imp (fun h => by simp [Ent.foot, h]) id) ok
  exact ⟨hb1.c0, hb1.free 0, hin⟩
end

theorem stepD_with (d : Dk) (G : List Fl) : stepD { d with files := G } = ({ (stepD d).1 with files := G }, (stepD d).2) := by
  unfold stepD
  simp only
  split <;> rfl
theorem append_done {d : Dk} {name b : List UInt8} (hd : d.dead = false) (hn : nameOk name = true) (hle : (b.length : Int) ≤ freeD d) : appendD d name b = ({ (stepD d).1 with files := grownF d.files name b }, if (stepD d).2 then 44 else 0) := by
  have h1 : ¬ (b.length : Int) > freeD d := by omega
  unfold appendD
  rw [if_neg (by simp [hd]), if_neg (by simp [hn]), if_neg h1, stepD_with]
set_option maxHeartbeats 4000000 in
set_option maxRecDepth 100000 in
theorem cAppend {w : World} {p mb : Nat} {xs : List Ent} {d : Dk} (hD : Disk w p mb xs d) (hs : d.steps < 9000000000000000000) (hN : xs.length < 9000000000000000000) (hB : Small d) (name : List UInt8) (hk : name.length ≤ maxLen) (ab : Option Addr) (cb : Nat) (b : List UInt8) (hsee : Sees w ab b) (hoff : b ≠ [] → ∀ k ∈ blk ab, k ∉ foot p mb xs)
    (hlen : (fileOf d.files name).bytes.length + b.length ≤ 140737488355328) :
    Calls Tryd.prog 24 #[.pointer (some ⟨p, 0, none⟩), .string ⟨name.toArray⟩, .slice ab b.length cb] w (ChgP p mb xs (appendD d name b) w) := by
  have c4 := hD.hd.c4
  have hnm : ∀ w, Calls Tryd.prog 38 #[.string ⟨name.toArray⟩] w fun e w' => e = .returned (.bool (nameOk name)) ∧ w' = w := fun w => cIsName ⟨name.toArray⟩ w (by simpa [ByteArray.size] using hk)
  go_enter Tryd.func24, Tryd.ntmps24
  cases hd : d.dead with
  | true =>
    have hfin : ChgP p mb xs (appendD d name b) w (.returned (.int .i64 44)) w := ChgP.same hD (by simp [appendD, hd])
    rw [hd] at c4
    go_wp2_with fail
    go_ret
    exact hfin
  | false =>
    rw [hd] at c4
    cases hn : nameOk name with
    | false =>
      have hfin : ChgP p mb xs (appendD d name b) w (.returned (.int .i64 40)) w := ChgP.same hD (by simp [appendD, hd, hn])
      rw [hn] at hnm
      go_wp2_with fail
      refine (hnm w).mono ?_
      rintro e w1 ⟨rfl, rfl⟩
      go_wp2_with fail
      go_ret
      exact hfin
    | true =>
      rw [hn] at hnm
      have hfree := cFree hD
      by_cases hfull : freeD d < (b.length : Int)
      · have hfin : ∀ w', Kp [] w w' → ChgP p mb xs (appendD d name b) w (.returned (.int .i64 41)) w' := fun w' kk => by
          have e : appendD d name b = (d, 41) := by simp [appendD, hd, hn, hfull]
          rw [e]
          exact ⟨rfl, xs, hD.keptNew kk, Mv.ofNew kk⟩
        go_wp2_with fail
        refine (hnm w).mono ?_
        rintro e w1 ⟨rfl, rfl⟩
        go_wp2_with fail
        refine hfree.mono ?_
        rintro e w2 ⟨rfl, k2⟩
        go_wp2_with fail
        go_ret
        exact hfin _ k2
      · have hle : (b.length : Int) ≤ freeD d := by omega
        have hok := okGrown hD.ok hn hle
        have hfb : (fileOf d.files name).name = name := fileOf_name _ _
        go_wp2_with fail
        refine (hnm w).mono ?_
        rintro e w1 ⟨rfl, rfl⟩
        go_wp2_with fail
        refine hfree.mono ?_
        rintro e w2 ⟨rfl, k2⟩
        have hD2 := hD.keptNew k2
        have hst := cStep hD2 hs hd
        go_wp2_with fail
        refine hst.mono ?_
        rintro e w3 ⟨rfl, hD3, k3⟩
        have c1 := hD3.hd.c1
        have hl := lookF hD3.map name hk
        have hlk := hD.look name
        have hap := append_done hd hn hle
        have hok3 : Okd { (stepD d).1 with files := grownF d.files name b } := by have := okStep hok; rw [stepD_with] at this; exact this
        have ef := (stepD_files d).1
        have hsee3 : Sees w3 ab b := (hsee.kept k2 (by simp)).kept' k3 (fun h k hk' e => hoff h k hk' (by rw [List.mem_singleton] at e; subst e; exact mem_foot.2 (.inl rfl)))
        have mv3 : Mv (foot p mb xs) w1 (foot p mb xs) w3 := (Mv.ofNew k2).trans (mvStep k3)
        generalize stepD d = sd at *
        obtain ⟨d1, alive⟩ := sd
        simp only at hD3 hap hok3 ef hst
        cases hx : lookG Ent.name name xs with
        | some x =>
          rw [hx] at hl hlk
          simp only [ptrOf] at hl
          have hx1 := (lookG_some hx).1
          have hxn := (lookG_some hx).2
          have hf := hD3.files x hx1
          have hfo : fileOf d.files name = x.fl := fileOf_some hlk
          rw [hfo] at hlen
          simp only [Ent.fl] at hlen
          have hG : grownF d.files name b = putG Fl.name ⟨x.name, x.bytes ++ b, x.last⟩ false d1.files := by rw [ef]; simp only [grownF, hfo]; rfl
          rw [hG] at hap hok3
          have hrow := hf.row
          have c0 := hf.box.c0
          obtain ⟨a, c, ev, _, _, hcap⟩ := Row.parts hrow
          have hfin : ∀ ys v' w', Hid (ys = x.bytes ++ b) → Row w' v' ys → Grew (.slice a x.bytes.length c) w3 v' w' → w'.cell? ⟨x.blk, 0, none⟩ = some (.slice a x.bytes.length c) ∧ w'.frozen? ⟨x.blk, 0, none⟩ = false ∧ ChgP p mb xs (appendD d name b) w1 (.returned (.int .i64 (if alive then 44 else 0))) (w'.setCell ⟨x.blk, 0, none⟩ v') := fun ys v' w' hy hr hg => by
            rw [hy.out] at hr
            rw [← ev] at hg ⊢
            obtain ⟨h1, h2, h3, h4⟩ := hD3.appended hx1 hr hg hok3
            refine ⟨h1, h2, ?_⟩
            rw [hap]
            exact ⟨rfl, _, h3, mv3.trans h4⟩
          rw [ev] at c0 hrow
          clear hG ef hlk hx hfull hf hst hfree hnm hap hok3 hok hfb hfo
          cases alive
          all_goals
            go_wp2_with (first | (refine wpAppR rfl _ _ rfl _ x.bytes rfl hrow _ _ _ b rfl rfl hsee3 (by omega) ?_; intro ys a' c' w4 hy hyl hrow4 hg4; obtain ⟨cc, ff, hch⟩ := hfin _ _ _ hy hrow4 hg4) | fail)
            go_ret
            exact hch
        | none =>
          rw [hx] at hl hlk
          simp only [ptrOf] at hl
          have hfo : fileOf d.files name = ⟨name, [], 0⟩ := fileOf_none hlk
          have hG : grownF d.files name b = putG Fl.name ⟨name, [] ++ b, 0⟩ false (putG Fl.name ⟨name, [], 0⟩ false d1.files) := by
            rw [putG_twice (nm := Fl.name) ⟨name, [] ++ b, 0⟩ ⟨name, [], 0⟩ rfl hD3.ok.rise, ef]
            simp only [grownF, hfo]
          rw [hfo] at hlen
          simp only [List.length_nil] at hlen
          rw [hG] at hap hok3
          have hok0 : Okd { d1 with files := putG Fl.name (⟨name, w3.heap.size, .slice none 0 0, [], 0⟩ : Ent).fl false d1.files } := okPut hD3.ok ⟨name, [], 0⟩ (Nat.le_refl _) hn (by have := hD3.ok.sum; simp; omega)
          obtain ⟨w4, hw4⟩ : ∃ w4, w4 = w3.alloc (.cells #[.slice none 0 0, .int .i64 0] 66) := ⟨_, rfl⟩
          have k4 : Kp [] w3 w4 := by rw [hw4]; exact (Kp.refl _ _).alloc _
          have b4 : Fx w4 w3.heap.size (.slice none 0 0) 0 := by rw [hw4]; exact Fx.at _ rfl _
          have hm4 : OwnsM w4 mb xs := hD3.map.kept k4 (by simp)
          obtain ⟨w5, hrun, hown5, k5⟩ := storeF hm4 hD3.rise (by unfold maxLen; omega) ⟨name, w3.heap.size, .slice none 0 0, [], 0⟩ hk
          obtain ⟨hD5, mv5⟩ := hD3.added ⟨name, w3.heap.size, .slice none 0 0, [], 0⟩ k4 ⟨b4, Row.nil _, by simp [own, Value.ownBlock]⟩ (by intro k hk'; simp [Ent.foot, own, Value.ownBlock] at hk'; omega) k5 hown5 hok0
          have hx5 : (⟨name, w3.heap.size, .slice none 0 0, [], 0⟩ : Ent) ∈ putG Ent.name ⟨name, w3.heap.size, .slice none 0 0, [], 0⟩ false xs := (mem_putG hD3.rise).2 (.inl rfl)
          have c1' : w4.cell? ⟨p, 1, none⟩ = some (.map (some mb)) := (k4.cell (p := ⟨p, 1, none⟩) hD3.hd.lt (by simp)).trans c1
          have c0 := (hD5.files _ hx5).box.c0
          have hsee5 : Sees w5 ab b := (hsee3.kept k4 (by simp)).kept' k5 (fun h k hk' e => hoff h k hk' (by rw [List.mem_singleton] at e; subst e; exact mem_foot.2 (.inr (.inl rfl))))
          have hfin : ∀ ys v' w', Hid (ys = [] ++ b) → Row w' v' ys → Grew (.slice none 0 0) w5 v' w' → w'.cell? ⟨w3.heap.size, 0, none⟩ = some (.slice none 0 0) ∧ w'.frozen? ⟨w3.heap.size, 0, none⟩ = false ∧ ChgP p mb xs (appendD d name b) w1 (.returned (.int .i64 (if alive then 44 else 0))) (w'.setCell ⟨w3.heap.size, 0, none⟩ v') := fun ys v' w' hy hr hg => by
            rw [hy.out] at hr
            obtain ⟨h1, h2, h3, h4⟩ := hD5.appended hx5 hr hg hok3
            refine ⟨h1, h2, ?_⟩
            rw [hap]
            exact ⟨rfl, _, h3, (mv3.trans mv5).trans h4⟩
          simp only at hrun c0
          have hnil := Row.nil w5
          clear hG ef hlk hx hfull hst hfree hnm hap hok3 hok hfb hfo hok0 hD5 mv5 hown5 hm4 b4 hx5
          have halloc : w3.alloc (.cells #[.slice none 0 0, .int .i64 0] 66) = w4 := hw4.symm
          clear hw4
          cases alive
          all_goals
            go_wp2_with (first | (refine wpAppR rfl _ _ rfl _ [] rfl hnil _ _ _ b rfl rfl hsee5 (by simp; omega) ?_; intro ys a' c' w6 hy hyl hrow6 hg6; obtain ⟨cc, ff, hch⟩ := hfin _ _ _ hy hrow6 hg6) | fail)
            go_ret
            exact hch
end Go.Proofs.YtpbogplmkenegabDoor
end

section
namespace Go.Hay
open Go.RowKit
/-- Bytes put behind a file's end, and made to last. -/
def writeD (d : Dk) (nm b : List UInt8) : Dk × Int := if (appendD d nm b).2 ≠ 0 then appendD d nm b else doD (appendD d nm b).1 1 nm [] 0
/-- Create: the disk behind it, and its answer. -/
def createD (d : Dk) (nm : List UInt8) : Dk × Int := if (doD d 4 nm [] 0).2 ≠ 0 ∧ (doD d 4 nm [] 0).2 ≠ 42 then doD d 4 nm [] 0 else writeD (doD d 4 nm [] 0).1 nm []
theorem stepD_steps (d : Dk) : (stepD d).1.steps = d.steps + 1 ∧ (stepD d).1.files = d.files ∧ (stepD d).1.room = d.room := by
  unfold stepD
  split <;> exact ⟨rfl, rfl, rfl⟩
theorem appendD_steps (d : Dk) (nm b : List UInt8) : (appendD d nm b).1.steps ≤ d.steps + 1 := by
  unfold appendD
  split
  · simp
  split
  · simp
  split
  · simp
  · have h := (stepD_steps { d with files := grownF d.files nm b }).1
    dsimp only at h ⊢
    omega
theorem doD_steps (d : Dk) (c : Int) (nm to : List UInt8) (n : Int) : (doD d c nm to n).1.steps ≤ d.steps + 1 := by
  unfold doD
  split
  · simp
  split
  · have := (stepD_steps d).1; simp only; omega
  · have := (stepD_steps d).1; simp only; omega
theorem writeD_steps (d : Dk) (nm b : List UInt8) : (writeD d nm b).1.steps ≤ d.steps + 2 := by
  have h1 := appendD_steps d nm b
  unfold writeD
  split
  · omega
  · have := doD_steps (appendD d nm b).1 1 nm [] 0; omega
theorem createD_steps (d : Dk) (nm : List UInt8) : (createD d nm).1.steps ≤ d.steps + 3 := by
  have h1 := doD_steps d 4 nm [] 0
  unfold createD
  split
  · omega
  · have := writeD_steps (doD d 4 nm [] 0).1 nm []; omega
end Go.Hay
namespace Go.Proofs.YtpbogplmkenegabDoor
open Go.RowKit Go.Hay
set_option linter.unusedVariables false
set_option linter.unusedSimpArgs false

/-- A log's own block. -/
structure Lg (w : World) (p dp : Nat) (nm : List UInt8) (v : Value) (sz : Int) : Prop where
  c0 : w.cell? ⟨p, 0, none⟩ = some (.pointer (some ⟨dp, 0, none⟩))
  c1 : w.cell? ⟨p, 1, none⟩ = some (.string ⟨nm.toArray⟩)
  c2 : w.cell? ⟨p, 2, none⟩ = some v
  c3 : w.cell? ⟨p, 3, none⟩ = some (.int .i64 sz)
  free : ∀ j, w.frozen? ⟨p, j, none⟩ = false
theorem Lg.lt {w : World} {p dp : Nat} {nm : List UInt8} {v : Value} {sz : Int} (h : Lg w p dp nm v sz) : p < w.heap.size := World.block_lt_of_cell? _ _ h.c0
theorem Lg.kept {w w' : World} {p dp : Nat} {nm : List UInt8} {v : Value} {sz : Int} {S : List Nat} (h : Lg w p dp nm v sz) (hk : Kp S w w') (hp : p ∉ S) : Lg w' p dp nm v sz :=
  ⟨(hk.cell (p := ⟨p, 0, none⟩) h.lt hp).trans h.c0, (hk.cell (p := ⟨p, 1, none⟩) h.lt hp).trans h.c1, (hk.cell (p := ⟨p, 2, none⟩) h.lt hp).trans h.c2, (hk.cell (p := ⟨p, 3, none⟩) h.lt hp).trans h.c3, fun j => (hk.frozen (p := ⟨p, j, none⟩) h.lt hp).trans (h.free j)⟩
theorem Lg.new (w : World) (dp : Nat) (nm : List UInt8) (v : Value) (sz : Int) (t : TypeId) : Lg (w.alloc (.cells #[.pointer (some ⟨dp, 0, none⟩), .string ⟨nm.toArray⟩, v, .int .i64 sz] t)) w.heap.size dp nm v sz :=
  ⟨World.cell?_alloc_new w _ _ 0, World.cell?_alloc_new w _ _ 1, World.cell?_alloc_new w _ _ 2, World.cell?_alloc_new w _ _ 3, fun j => World.frozen?_alloc_new w _ _ j⟩
theorem Lg.set2 {w : World} {p dp : Nat} {nm : List UInt8} {v : Value} {sz : Int} (h : Lg w p dp nm v sz) (u : Value) : Lg (w.setCell ⟨p, 2, none⟩ u) p dp nm u sz :=
  ⟨(setCell_off (by decide) _).trans h.c0, (setCell_off (by decide) _).trans h.c1, World.cell?_setCell_same _ _ _ h.c2, (setCell_off (by decide) _).trans h.c3, fun j => (World.frozen?_setCell _ _ _ _).trans (h.free j)⟩
theorem Lg.set3 {w : World} {p dp : Nat} {nm : List UInt8} {v : Value} {sz : Int} (h : Lg w p dp nm v sz) (u : Int) : Lg (w.setCell ⟨p, 3, none⟩ (.int .i64 u)) p dp nm v u :=
  ⟨(setCell_off (by decide) _).trans h.c0, (setCell_off (by decide) _).trans h.c1, (setCell_off (by decide) _).trans h.c2, World.cell?_setCell_same _ _ _ h.c3, fun j => (World.frozen?_setCell _ _ _ _).trans (h.free j)⟩
/-- A log: its block, its records; B: the blocks that these lie in. -/
structure Log (w : World) (p dp : Nat) (nm : List UInt8) (B : Nat → Prop) (v : Value) (L : List (List UInt8)) (sz : Int) : Prop where
  box : Lg w p dp nm v sz
  row : RowP B w v L
  np : ¬ B p
theorem Log.kept {w w' : World} {p dp : Nat} {nm : List UInt8} {B : Nat → Prop} {v : Value} {L : List (List UInt8)} {sz : Int} {S : List Nat} (h : Log w p dp nm B v L sz) (hk : Kp S w w') (hp : p ∉ S) (hS : ∀ k ∈ S, ¬ B k) : Log w' p dp nm B v L sz :=
  ⟨h.box.kept hk hp, h.row.kept hk hS, h.np⟩
theorem cLenQ {w : World} {p dp : Nat} {nm : List UInt8} {B : Nat → Prop} {v : Value} {L : List (List UInt8)} {sz : Int} (h : Log w p dp nm B v L sz) : Calls Tryd.prog 11 #[.pointer (some ⟨p, 0, none⟩)] w fun e w' => e = .returned (.int .i64 L.length) ∧ w' = w := by
  have c2 := h.box.c2
  have hlt := h.box.lt
  obtain ⟨a, c, rfl⟩ := rowPshape h.row
  go_enter Tryd.func11, Tryd.ntmps11
  go_wp2_with fail
  go_ret
  exact ⟨rfl, rfl⟩
theorem cSizeQ {w : World} {p dp : Nat} {nm : List UInt8} {B : Nat → Prop} {v : Value} {L : List (List UInt8)} {sz : Int} (h : Log w p dp nm B v L sz) : Calls Tryd.prog 12 #[.pointer (some ⟨p, 0, none⟩)] w fun e w' => e = .returned (.int .i64 sz) ∧ w' = w := by
  have c3 := h.box.c3
  have hlt := h.box.lt
  go_enter Tryd.func12, Tryd.ntmps12
  go_wp2_with fail
  go_ret
  exact ⟨rfl, rfl⟩
theorem ownQ (a : Option Addr) (n c : Nat) : own (.slice a n c) = blk a := by cases a <;> rfl
/-- gone, of a log. -/
theorem cGoneQ {w : World} {p dp : Nat} {nm : List UInt8} {B : Nat → Prop} {v : Value} {L : List (List UInt8)} {sz : Int} (h : Log w p dp nm B v L sz) (hf : L.length ≤ 4000000000000) (hb : ∀ x ∈ L, x.length ≤ 200000000000000) :
    Calls Tryd.prog 10 #[.pointer (some ⟨p, 0, none⟩)] w fun e w' => ∃ v, e = .returned v ∧ RowP (fun k => w.heap.size ≤ k) w' v L ∧ Kp [] w w' := by
  have hlt := h.row.lt
  have hc2 := h.box.c2
  obtain ⟨vs, hvl, hs, hfr, hel⟩ := h.row
  have hrow := h.row
  obtain ⟨a, c, l, rfl, hsee, hok, rfl⟩ := h.row.mono (C := fun k => k < w.heap.size) (fun k hk _ => hk) |>.bs
  refine cGone p a c l w hc2 hsee (fun y hy => ⟨(hok y hy).1.see, hb y.bs (by unfold bsl; exact List.mem_map.2 ⟨y, hy, rfl⟩)⟩) (by rw [bsl_len] at hf; exact hf) (fun k hk => hlt k (by rw [ownQ]; exact hk)) (fun y hy k hk => (hok y hy).2 k hk)
set_option maxHeartbeats 1000000 in
theorem cWriteQ {w : World} {p mb : Nat} {xs : List Ent} {d : Dk} (hD : Disk w p mb xs d) (hs : d.steps < 8000000000000000000) (hN : xs.length < 8000000000000000000) (hB : Small d) (name : List UInt8) (hk : name.length ≤ maxLen) (ab : Option Addr) (cb : Nat) (b : List UInt8) (hsee : Sees w ab b) (hoff : b ≠ [] → ∀ k ∈ blk ab, k ∉ foot p mb xs)
    (hlen : (fileOf d.files name).bytes.length + b.length ≤ 140737488355328) :
    Calls Tryd.prog 14 #[.pointer (some ⟨p, 0, none⟩), .string ⟨name.toArray⟩, .slice ab b.length cb] w (ChgP p mb xs (writeD d name b) w) := by
  have a1 := hid (cAppend hD (by omega) (by omega) hB name hk ab cb b hsee hoff hlen)
  have hst := appendD_steps d name b
  have hw1 : Hid ((appendD d name b).2 ≠ 0 → writeD d name b = appendD d name b) := fun h => by unfold writeD; rw [if_pos h]
  have hw2 : Hid ((appendD d name b).2 = 0 → writeD d name b = doD (appendD d name b).1 1 name [] 0) := fun h => by unfold writeD; rw [if_neg (by simpa using h)]
  obtain ⟨⟨d1, e1⟩, hr⟩ : ∃ r, Hid (appendD d name b = r) := ⟨_, rfl⟩
  obtain ⟨R, hR⟩ : ∃ R, Hid (writeD d name b = R) := ⟨_, rfl⟩
  rw [hr.out] at a1 hst hw1 hw2
  rw [hR.out] at hw1 hw2
  rw [hR.out]
  dsimp only at hst hw1 hw2
  clear hr hR hsee hoff
  go_enter Tryd.func14, Tryd.ntmps14
  go_wp2_with fail
  refine a1.out.mono ?_
  rintro e w1 ⟨rfl, xs1, hD1, m1⟩
  dsimp only at hD1
  have H1 := hid (And.intro hD1 m1)
  clear a1 hD1 m1
  by_cases he : e1 = 0
  · have hRe := hw2.out he
    subst he hRe
    have a2 := hid (cSync H1.out.1 (by omega) name hk [] 0)
    clear hw1 hw2
    go_wp2_with fail
    refine a2.out.mono ?_
    rintro e w2 ⟨rfl, xs2, hD2, m2⟩
    have H2 := hid (And.intro hD2 (H1.out.2.trans m2))
    clear a2 hD2 m2 H1
    go_wp2_with fail
    go_ret
    exact ⟨rfl, xs2, H2.out.1, H2.out.2⟩
  · have hRe := hw1.out he
    subst hRe
    have d1' : (e1 != 0) = true := by simpa using he
    have d2' : (e1 == 0) = false := by simpa using he
    clear hw1 hw2
    go_wp2_with fail
    go_ret
    exact ⟨rfl, xs1, H1.out.1, H1.out.2⟩
end Go.Proofs.YtpbogplmkenegabDoor
end

section
namespace Go.Hay
open Go.RowKit
/-- Open: the disk behind it, and its answer. -/
def openD (q : List UInt8 → List (List UInt8) × Nat × Int) (d : Dk) (nm : List UInt8) : Dk × Int :=
  if d.dead then (d, 44) else match lookG Fl.name nm d.files with
    | none => (d, 42)
    | some f => if (q f.bytes).2.2 ≠ 0 then (d, (q f.bytes).2.2) else
      if (q f.bytes).2.1 < f.bytes.length then (if (doD d 2 nm [] (q f.bytes).2.1).2 ≠ 0 then doD d 2 nm [] (q f.bytes).2.1 else doD (doD d 2 nm [] (q f.bytes).2.1).1 1 nm [] 0) else doD d 1 nm [] 0
end Go.Hay
namespace Go.Proofs.YtpbogplmkenegabDoor
open Go.RowKit Go.Hay
set_option linter.unusedVariables false
set_option linter.unusedSimpArgs false

/-- What Create and Open hand back: a log, or none. -/
def OpnP (dp mb : Nat) (xs : List Ent) (r : Dk × Int) (nm : List UInt8) (L : List (List UInt8)) (sz : Int) (w : World) (e : Ending) (w' : World) : Prop :=
  ∃ v0 xs', e = .returned (.tuple #[v0, .int .i64 r.2]) ∧ Disk w' dp mb xs' r.1 ∧ Mv (foot dp mb xs) w (foot dp mb xs') w' ∧ (r.2 ≠ 0 → v0 = .pointer none) ∧
    (r.2 = 0 → ∃ p v B, v0 = .pointer (some ⟨p, 0, none⟩) ∧ Log w' p dp nm B v L sz ∧ w.heap.size ≤ p ∧ (∀ k, B k → w.heap.size ≤ k ∧ k < w'.heap.size) ∧ ∀ k ∈ foot dp mb xs', ¬ B k ∧ k ≠ p)
theorem small_do4 {d : Dk} (hB : Small d) (nm : List UInt8) : Small (doD d 4 nm [] 0).1 := by
  unfold doD
  split
  · exact hB
  split
  · intro f hf
    rw [(stepD_steps d).2.1] at hf
    exact hB f hf
  · intro f hf
    simp only [changedF] at hf
    rw [if_neg (by decide), if_neg (by decide), if_neg (by decide)] at hf
    exact hB f (List.mem_filter.1 hf).1
theorem foot_len {w : World} {p mb : Nat} {xs : List Ent} {d : Dk} (h : Disk w p mb xs d) : xs.length = d.files.length := by rw [h.fl]; simp
theorem look4_none {d : Dk} {nm : List UInt8} (h : (doD d 4 nm [] 0).2 = 0 ∨ (doD d 4 nm [] 0).2 = 42) : lookG Fl.name nm (doD d 4 nm [] 0).1.files = none ∨ d.dead = true := by
  unfold doD refusedD at h ⊢
  by_cases hd : d.dead = true
  · exact .inr hd
  · left
    simp only [hd] at h ⊢
    cases hl : lookG Fl.name nm d.files with
    | none => simp [hl]
    | some f =>
      simp [hl] at h ⊢
      by_cases hs : (stepD d).2 = true
      · simp [hs] at h
      · simp [hs, changedF]
        unfold lookG dropG
        rw [List.find?_eq_none]
        intro x hx
        have := (List.mem_filter.1 hx).2
        simpa using this
set_option maxHeartbeats 4000000 in
theorem cCreate {w : World} {p mb : Nat} {xs : List Ent} {d : Dk} (hD : Disk w p mb xs d) (hs : d.steps < 7000000000000000000) (hN : d.files.length < 7000000000000000000) (hB : Small d) (name : List UInt8) (hk : name.length ≤ maxLen) :
    Calls Tryd.prog 6 #[.pointer (some ⟨p, 0, none⟩), .string ⟨name.toArray⟩] w (OpnP p mb xs (createD d name) name [] 0 w) := by
  have a1 := hid (cRemove hD (by omega) name hk [] 0)
  have hst := doD_steps d 4 name [] 0
  have hsm := small_do4 hB name
  have hlk := hid (@look4_none d name)
  have hN1 : (doD d 4 name [] 0).1.files.length ≤ d.files.length := by
    unfold doD
    split
    · exact Nat.le_refl _
    split
    · rw [(stepD_steps d).2.1]; exact Nat.le_refl _
    · simp only [changedF]
      rw [if_neg (by decide), if_neg (by decide), if_neg (by decide)]
      exact List.length_filter_le _ _
  have hw1 : Hid ((doD d 4 name [] 0).2 ≠ 0 → (doD d 4 name [] 0).2 ≠ 42 → createD d name = doD d 4 name [] 0) := fun h h' => by unfold createD; rw [if_pos ⟨h, h'⟩]
  have hw2 : Hid ((doD d 4 name [] 0).2 = 0 ∨ (doD d 4 name [] 0).2 = 42 → createD d name = writeD (doD d 4 name [] 0).1 name []) := fun h => by
    unfold createD
    rw [if_neg (fun hh => by rcases h with h | h; exact hh.1 h; exact hh.2 h)]
  obtain ⟨⟨d1, e1⟩, hr⟩ : ∃ r, Hid (doD d 4 name [] 0 = r) := ⟨_, rfl⟩
  obtain ⟨R, hR⟩ : ∃ R, Hid (createD d name = R) := ⟨_, rfl⟩
  rw [hr.out] at a1 hst hw1 hw2 hsm hN1 hlk
  rw [hR.out] at hw1 hw2
  rw [hR.out]
  dsimp only at hst hw1 hw2 hsm hN1 hlk
  clear hr hR
  go_enter Tryd.func6, Tryd.ntmps6
  go_wp2_with fail
  refine a1.out.mono ?_
  rintro e w1 ⟨rfl, xs1, hD1, m1⟩
  dsimp only at hD1
  have hx1 := foot_len hD1
  have hfl : Hid ((fileOf d1.files name).bytes.length + ([] : List UInt8).length ≤ 140737488355328) := by
    show _ ≤ _
    unfold fileOf
    cases hl : lookG Fl.name name d1.files with
    | none => simp
    | some f => simpa using hsm f (List.mem_of_find?_eq_some hl)
  have H1 := hid (And.intro hD1 m1)
  have HS := hid hsm
  clear a1 hD1 m1 hsm
  by_cases he : e1 = 0 ∨ e1 = 42
  · have hRe := hw2.out he
    have a2 := hid (cWriteQ H1.out.1 (by omega) (by omega) HS.out name hk none 0 [] (Sees.nil _ _) (fun h => absurd rfl h) hfl.out)
    have ev : (e1 != 0 && e1 != 42) = false := by rcases he with rfl | rfl <;> rfl
    have ev0 : (e1 != 0) = false ∨ (e1 != 42) = false := by rcases he with rfl | rfl; exact .inl rfl; exact .inr rfl
    have key : ∀ (E2 : Int) (d2 : Dk), Hid (writeD d1 name [] = (d2, E2)) → True := fun _ _ _ => trivial
    obtain ⟨⟨d2, e2⟩, hr2⟩ : ∃ r, Hid (writeD d1 name [] = r) := ⟨_, rfl⟩
    rw [hr2.out] at a2 hRe
    subst hRe
    clear hw1 hw2 hr2 key
    rcases he with rfl | rfl
    · clear ev ev0
      go_wp2_with fail
      refine a2.out.mono ?_
      rintro e w2 ⟨rfl, xs2, hD2, m2⟩
      dsimp only at hD2
      have H2 := hid (And.intro hD2 (H1.out.2.trans m2))
      clear a2 hD2 m2 H1
      by_cases h2 : e2 = 0
      · subst h2
        have Hn := hid (Lg.new w2 p name (.slice none 0 0) 0 43)
        have kn : Kp [] w2 (w2.alloc (.cells #[.pointer (some ⟨p, 0, none⟩), .string ⟨name.toArray⟩, .slice none 0 0, .int .i64 0] 43)) := (Kp.refl _ _).alloc _
        have HF : Hid (OpnP p mb xs (d2, 0) name [] 0 w (.returned (.tuple #[.pointer (some ⟨w2.heap.size, 0, none⟩), .int .i64 0])) (w2.alloc (.cells #[.pointer (some ⟨p, 0, none⟩), .string ⟨name.toArray⟩, .slice none 0 0, .int .i64 0] 43))) :=
          ⟨_, xs2, rfl, H2.out.1.keptNew kn, H2.out.2.trans (Mv.ofNew kn), fun h => absurd rfl h, fun _ => ⟨w2.heap.size, .slice none 0 0, fun _ => False, rfl, ⟨Hn.out, RowP.nil _ _, id⟩, H2.out.2.kp.size, fun k h => h.elim, fun k hk => ⟨id, fun e => by have := H2.out.1.lt k hk; omega⟩⟩⟩
        clear Hn kn H2
        go_wp2_with fail
        go_ret2
        exact HF.out
      · have dd : (e2 != 0) = true := by simpa using h2
        have dd2 : (e2 == 0) = false := by simpa using h2
        go_wp2_with fail
        go_ret2
        exact ⟨_, xs2, rfl, H2.out.1, H2.out.2, fun _ => rfl, fun h => absurd h h2⟩
    · clear ev ev0
      go_wp2_with fail
      refine a2.out.mono ?_
      rintro e w2 ⟨rfl, xs2, hD2, m2⟩
      dsimp only at hD2
      have H2 := hid (And.intro hD2 (H1.out.2.trans m2))
      clear a2 hD2 m2 H1
      by_cases h2 : e2 = 0
      · subst h2
        have Hn := hid (Lg.new w2 p name (.slice none 0 0) 0 43)
        have kn : Kp [] w2 (w2.alloc (.cells #[.pointer (some ⟨p, 0, none⟩), .string ⟨name.toArray⟩, .slice none 0 0, .int .i64 0] 43)) := (Kp.refl _ _).alloc _
        have HF : Hid (OpnP p mb xs (d2, 0) name [] 0 w (.returned (.tuple #[.pointer (some ⟨w2.heap.size, 0, none⟩), .int .i64 0])) (w2.alloc (.cells #[.pointer (some ⟨p, 0, none⟩), .string ⟨name.toArray⟩, .slice none 0 0, .int .i64 0] 43))) :=
          ⟨_, xs2, rfl, H2.out.1.keptNew kn, H2.out.2.trans (Mv.ofNew kn), fun h => absurd rfl h, fun _ => ⟨w2.heap.size, .slice none 0 0, fun _ => False, rfl, ⟨Hn.out, RowP.nil _ _, id⟩, H2.out.2.kp.size, fun k h => h.elim, fun k hk => ⟨id, fun e => by have := H2.out.1.lt k hk; omega⟩⟩⟩
        clear Hn kn H2
        go_wp2_with fail
        go_ret2
        exact HF.out
      · have dd : (e2 != 0) = true := by simpa using h2
        have dd2 : (e2 == 0) = false := by simpa using h2
        go_wp2_with fail
        go_ret2
        exact ⟨_, xs2, rfl, H2.out.1, H2.out.2, fun _ => rfl, fun h => absurd h h2⟩
  · have h0 : e1 ≠ 0 := fun h => he (.inl h)
    have h42 : e1 ≠ 42 := fun h => he (.inr h)
    have hRe := hw1.out h0 h42
    subst hRe
    have dd : (e1 != 0) = true := by simpa using h0
    have dd2 : (e1 != 42) = true := by simpa using h42
    clear hw1 hw2
    go_wp2_with fail
    go_ret2
    exact ⟨_, xs1, rfl, H1.out.1, H1.out.2, fun _ => rfl, fun h => absurd h h0⟩
end Go.Proofs.YtpbogplmkenegabDoor
end

/- Clone. Crash. The reference's files: a slice of structs of three fields; how it grows. -/
import Derived.Test.YtgllkonbgigcbaaB3
import Derived.Laws.AppendOwnNone
section
namespace Go.Proofs.Ytgllkonbgigcbaa
open Go.RowKit Go.Hay Go.Maps Go.Sort Go.Shelf
attribute [local go_sem] Oper.semAt_some
set_option linter.unusedVariables false
set_option linter.unusedSimpArgs false

def DiskP (d : Dk) (w : World) (e : Ending) (w' : World) : Prop := ∃ p mb xs, e = .returned (.pointer (some ⟨p, 0, none⟩)) ∧ Disk w' p mb xs d ∧ Kp [] w w' ∧ ∀ k ∈ foot p mb xs, w.heap.size ≤ k
theorem cell_kp {W W' : World} {a : Addr} {v : Value} (hk : Kp [] W W') (hc : W.cell? a = some v) : W'.cell? a = some v := (hk.cell (World.block_lt_of_cell? _ _ hc) (by simp)).trans hc
def takeD (d : Dk) (i : Nat) : Dk := { d with files := d.files.take i }
theorem takeD_succ {xs : List Ent} {d : Dk} (hfl : d.files = xs.map Ent.fl) {i : Nat} {x : Ent} (hx : xs[i]? = some x) : takeD d (i + 1) = { takeD d i with files := (takeD d i).files ++ [x.fl] } := by
  simp only [takeD]
  congr 1
  rw [List.take_add_one, hfl]
  simp [hx]
theorem before_take {xs : List Ent} {d : Dk} (hfl : d.files = xs.map Ent.fl) (hr : riseG Ent.name xs) {i : Nat} {x : Ent} (hx : xs[i]? = some x) : ∀ f ∈ (takeD d i).files, bytesBefore f.name x.name = true := fun f hf => by
  simp only [takeD, hfl] at hf
  rw [← List.map_take] at hf
  obtain ⟨y, hy, rfl⟩ := List.mem_map.1 hf
  obtain ⟨j, hj, rfl⟩ := List.mem_take_iff_getElem.1 hy
  obtain ⟨hi, rfl⟩ := List.getElem?_eq_some_iff.1 hx
  exact List.pairwise_iff_getElem.1 hr j i (by omega) hi (by omega)

set_option maxHeartbeats 16000000 in
set_option maxRecDepth 100000 in
theorem cClone {w : World} {p mb : Nat} {xs : List Ent} {d : Dk} (hD : Disk w p mb xs d) (hB : Small d) (hN : xs.length ≤ 1000000000000) : Calls Try.prog 23 #[.pointer (some ⟨p, 0, none⟩)] w (DiskP d w) := by
  have hplt := hD.hd.lt
  have hmlt := hD.map.lt
  have c0 := hD.hd.c0
  have c1 := hD.hd.c1
  have c2 := hD.hd.c2
  have c3 := hD.hd.c3
  have c4 := hD.hd.c4
  refine (callsIn_wide (n := 4)).1 ?_
  refine callsIn_of_wp_marks Try.func23 rfl trivial ?_ rfl
  simp only [Try.ntmps23, List.size_toArray, List.length_cons, List.length_nil, Nat.reduceAdd, Nat.reduceSub, Array.replicate_succ, Array.replicate_zero, List.push_toArray, List.append_toArray, List.nil_append, List.cons_append]
  have hlen := (hD.keptNew ((Kp.refl [] w).alloc (.cells #[.int .i64 (d.room : Int), .map (some mb), .int .i64 (d.steps : Int), .int .i64 (leftOf d), .bool d.dead] 65))).map.len Try.underlying63 3
  rw [dat_size] at hlen
  have hmk := run_makeMapN
  gi_wp2_with fail
  refine ⟨trivial, (callsIn_wide.2 (cRising _ _)).mono ?_⟩
  rintro e w' ⟨rfl, rfl⟩
  obtain ⟨w0, hw0⟩ : ∃ w0, w0 = (w.alloc (.cells #[.int .i64 (d.room : Int), .map (some (w.heap.size + 1)), .int .i64 (d.steps : Int), .int .i64 (leftOf d), .bool d.dead] 65)).alloc (.map #[] 0) := ⟨_, rfl⟩
  have hs0 : w0.heap.size = w.heap.size + 2 := by rw [hw0]; simp
  have hD0 : Disk w0 w.heap.size (w.heap.size + 1) [] (takeD d 0) := by
    rw [hw0]
    have k : Kp [] (w.alloc (.cells #[.int .i64 (d.room : Int), .map (some (w.heap.size + 1)), .int .i64 (d.steps : Int), .int .i64 (leftOf d), .bool d.dead] 65)) ((w.alloc (.cells #[.int .i64 (d.room : Int), .map (some (w.heap.size + 1)), .int .i64 (d.steps : Int), .int .i64 (leftOf d), .bool d.dead] 65)).alloc (.map #[] 0)) := (Kp.refl _ _).alloc _
    have m : OwnsM ((w.alloc (.cells #[.int .i64 (d.room : Int), .map (some (w.heap.size + 1)), .int .i64 (d.steps : Int), .int .i64 (leftOf d), .bool d.dead] 65)).alloc (.map #[] 0)) (w.heap.size + 1) [] := by
      have := World.ownsMap_made (w.alloc (.cells #[.int .i64 (d.room : Int), .map (some (w.heap.size + 1)), .int .i64 (d.steps : Int), .int .i64 (leftOf d), .bool d.dead] 65)) Try.prog 9 ptrR
      rwa [World.size_alloc] at this
    exact ⟨(Hd.at w.heap.size rfl _).kept k (by simp), m, by simp, List.Pairwise.nil, by omega, by simp, by simp, by simp [takeD], okTake hD.ok 0⟩
  have k0 : Kp [] w w0 := by rw [hw0]; exact ((Kp.refl _ _).alloc _).alloc _
  rw [← hw0]
  simp only [hs0]
  clear hw0 hlen hmk c0 c1 c2 c3 c4
  obtain ⟨w1, hw1⟩ : ∃ w1, w1 = w0.alloc (.cells #[.pointer (some ⟨p, 0, none⟩)] 23) := ⟨_, rfl⟩
  have k01 : Kp [] w0 w1 := by rw [hw1]; exact (Kp.refl _ _).alloc _
  have k1 : Kp [] w w1 := k0.trans k01 (by simp)
  have b1 : w1.cell? ⟨w.heap.size + 2, 0, none⟩ = some (.pointer (some ⟨p, 0, none⟩)) := by
    rw [hw1]
    have := World.cell?_alloc_new w0 #[.pointer (some ⟨p, 0, none⟩)] 23 0
    rwa [hs0] at this
  have hs1a : w.heap.size + 3 ≤ w1.heap.size := by rw [hw1]; simp; omega
  have hs1b : w1.heap.size ≤ w.heap.size + 3 := by rw [hw1]; simp; omega
  rw [← hw1]
  have hD1 := hD.keptNew k1
  have hE1 := hD0.keptNew k01
  have hseq := risingSeq (4 - 1) (by omega) (w.heap.size + 2) p mb xs hD.rise (by omega) hD.names w1 ⟨b1, hD1.hd.c1, hD1.map⟩
  have hI0 : BuildI (takeD d) w.heap.size w1.heap.size w.heap.size (w.heap.size + 1) w ⟨none, 0⟩ w1 := ⟨[], hE1, k1, Nat.le_refl _, by intro k hk; simp [foot] at hk; omega, by simp⟩
  have hJs : ∀ j ∈ [w.heap.size + 2, p, mb], j < w1.heap.size := by intro j hj; simp at hj; omega
  clear hw1 hs0 k01 k0 hD0
  gi_wp2_with fail
  refine wpRangeS rfl (by omega) (gf := 47) (lb := #[.pointer (some ⟨w.heap.size + 2, 0, none⟩)]) rfl trivial (enters_of Try.func47 (by kernel_rfl) rfl)
    hseq (fun _ => rfl) KeepR.trans (fun s => KeepR.alloc _ s) (fun s W l o o' hl ho hc _ => KeepR.putObj hJs W l o o' hl ho hc) (KeepR.refl _ _ _) (fun s s' A B ht k o _ ho _ _ => stepRKeeps ht k o ho)
    (BuildI (takeD d) w.heap.size w1.heap.size w.heap.size (w.heap.size + 1) w) (fun _ _ _ => False) (buildOwn _ _ _ _ _ w (by omega) (by omega)) (fun _ _ _ _ _ h _ _ => h) (buildTurn _ _ _ _ _ w) hI0
    (fun x => { tmps := #[.pointer (some ⟨p, 0, none⟩), undef, .pointer none, .pointer (some ⟨w.heap.size, 0, none⟩), encStr x.name, .pointer (some ⟨x.blk, 0, none⟩), .pointer (some ⟨p, 0, none⟩), .pointer (some ⟨p, 0, none⟩), .agg #[.int .i64 (d.room : Int), .map (some mb), .int .i64 (d.steps : Int), .int .i64 (leftOf d), .bool d.dead], .pointer (some ⟨p, 0, none⟩), .pointer (some ⟨p, 0, none⟩), .pointer (some ⟨p, 1, none⟩), .map (some mb), .int .i64 (xs.length : Int), .map (some (w.heap.size + 1)), .pointer (some ⟨w.heap.size, 1, none⟩), .pointer (some ⟨p, 0, none⟩), .func (.func 47) #[] #[.pointer (some ⟨w.heap.size + 2, 0, none⟩)], encStr x.name, .pointer (some ⟨x.blk, 0, none⟩), undef, undef, undef, undef, undef, undef, undef, undef, undef, undef, undef, undef, undef, undef], defers := [] }) ?assign ?body ?done ?stop
  case assign =>
    intro l x W C hC
    gi_wp2_with fail
    exact hC
  case body =>
    rintro l ⟨sq, i⟩ x W ⟨ys, h1, h2, h3, h4, h5⟩ ⟨hsq, hx⟩
    simp only at hsq hx h1 h5
    have hxm : x ∈ xs := List.mem_of_getElem? hx
    have hDW := hD.keptNew h2
    have hf := hDW.files x hxm
    have hbl := hB x.fl (by rw [hD.fl]; exact List.mem_map_of_mem hxm)
    simp only [Ent.fl] at hbl
    obtain ⟨a, c, ev, hsee, hnil, hcap⟩ := Row.parts hf.row
    have c0 := hf.box.c0
    have c1' := hf.box.c1
    rw [ev] at c0
    have cf1 := h1.hd.c1
    have hc : ∀ W', Sees W' a x.bytes → Calls Try.prog 30 #[.slice a x.bytes.length c] W' (CloneP x.bytes W') := fun W' hs => cCloneB a c x.bytes W' hs hnil hbl
    have hseeD : Sees W.drew a x.bytes := hsee
    have hSk : ∀ A B, Kp [] A B → (A.cell? ⟨w.heap.size, 1, none⟩ = some (.map (some (w.heap.size + 1))) ∧ A.cell? ⟨x.blk, 0, none⟩ = some (.slice a x.bytes.length c) ∧ A.cell? ⟨x.blk, 1, none⟩ = some (.int .i64 (x.last : Int))) → (B.cell? ⟨w.heap.size, 1, none⟩ = some (.map (some (w.heap.size + 1))) ∧ B.cell? ⟨x.blk, 0, none⟩ = some (.slice a x.bytes.length c) ∧ B.cell? ⟨x.blk, 1, none⟩ = some (.int .i64 (x.last : Int))) :=
      fun A B hk h => ⟨cell_kp hk h.1, cell_kp hk h.2.1, cell_kp hk h.2.2⟩
    have hysl : ys.length = i := by
      have := congrArg List.length h1.fl
      have hil : i < xs.length := (List.getElem?_eq_some_iff.1 hx).1
      simp only [takeD, hD.fl, List.length_map, List.length_take] at this
      omega
    have hil : i < xs.length := (List.getElem?_eq_some_iff.1 hx).1
    have hxblt : x.blk < w.heap.size := (hD.files x hxm).box.lt
    have hmap : ∀ w3 a3 c3, Row w3 (.slice a3 x.bytes.length c3) x.bytes → Kp [] W.drew w3 → (∀ k ∈ blk a3, W.drew.heap.size ≤ k) →
        ∃ w5, (Instr.mapUpdate 63 (.map (some (w.heap.size + 1))) (.string ⟨x.name.toArray⟩) (.pointer (some ⟨w3.heap.size, 0, none⟩))).run Try.prog (w3.alloc (.cells #[.slice a3 x.bytes.length c3, .int .i64 (x.last : Int)] 74)) = .ok () w5 ∧
          leftS w1.heap.size (KeepR [w.heap.size + 2, p, mb]) (BuildI (takeD d) w.heap.size w1.heap.size w.heap.size (w.heap.size + 1) w) (fun _ _ _ => False) ⟨sq, i⟩ (Sr.nx ⟨sq, i⟩ x) W .normal { tmps := #[], defers := [] } w5 ∧
          (w5.cell? ⟨w.heap.size, 1, none⟩ = some (.map (some (w.heap.size + 1))) ∧ w5.cell? ⟨x.blk, 0, none⟩ = some (.slice a x.bytes.length c) ∧ w5.cell? ⟨x.blk, 1, none⟩ = some (.int .i64 (x.last : Int))) := fun w3 a3 c3 hr3 hk3 hn3 => by
      have k3 : Kp [] W w3 := ((Kp.refl [] W).drew).trans hk3 (by simp)
      have k4 : Kp [] w3 (w3.alloc (.cells #[.slice a3 x.bytes.length c3, .int .i64 (x.last : Int)] 74)) := (Kp.refl _ _).alloc _
      have hm4 : OwnsM (w3.alloc (.cells #[.slice a3 x.bytes.length c3, .int .i64 (x.last : Int)] 74)) (w.heap.size + 1) ys := (h1.map.kept k3 (by simp)).kept k4 (by simp)
      obtain ⟨w5, hrun, hown5, k5⟩ := storeF hm4 h1.rise (by unfold maxLen; omega) ⟨x.name, w3.heap.size, .slice a3 x.bytes.length c3, x.bytes, x.last⟩ (hD.names x hxm)
      have hfe : FileAt (w3.alloc (.cells #[.slice a3 x.bytes.length c3, .int .i64 (x.last : Int)] 74)) ⟨x.name, w3.heap.size, .slice a3 x.bytes.length c3, x.bytes, x.last⟩ := ⟨Fx.at _ rfl _, hr3.kept k4 (by simp), fun hm => Nat.lt_irrefl _ (hr3.lt _ hm)⟩
      have hnewe : ∀ k ∈ (⟨x.name, w3.heap.size, .slice a3 x.bytes.length c3, x.bytes, x.last⟩ : Ent).foot, W.heap.size ≤ k := fun k hk => by
        simp only [Ent.foot, own_slice] at hk
        rcases List.mem_cons.1 hk with rfl | hk
        · exact k3.size
        · exact hn3 k hk
      obtain ⟨hD5, mv5⟩ := h1.snoc (d' := takeD d (i + 1)) ⟨x.name, w3.heap.size, .slice a3 x.bytes.length c3, x.bytes, x.last⟩ (k3.trans k4 (by simp)) hfe hnewe k5 hown5 (before_take (x := x) hD.fl hD.rise hx) (takeD_succ (x := x) hD.fl hx) (okTake hD.ok _)
      have kA : Kp [w.heap.size + 1] W w5 := ((k3.trans k4 (by simp)).mono (T := [w.heap.size + 1]) (by simp)).trans k5 (fun _ h => .inl h)
      have hfootmf : w.heap.size + 1 ∈ foot w.heap.size (w.heap.size + 1) ys := mem_foot.2 (.inr (.inl rfl))
      refine ⟨w5, hrun, ⟨⟨kA.size, fun k o hk ho _ => (kA.block k (Array.getElem?_eq_some_iff.1 ho).1 (by simp; omega)).trans ho⟩, KeepR.ofKp kA (fun j hj => ?_) (fun q hq => ?_), _, hD5, h2.trans kA (fun k hk => .inr (by simp at hk; omega)), Nat.le_trans h3 kA.size, fun k hk => ?_, fun q hq => ?_⟩, ?_, ?_, ?_⟩
      · simp at hj ⊢; omega
      · have := h5 q hq; simp; omega
      · rcases mv5.new k hk with h | h
        · exact h4 k h
        · have := h2.size; omega
      · have h6 := h5 q hq
        refine ⟨h6.1, Nat.lt_of_lt_of_le h6.2.1 kA.size, fun hm => ?_⟩
        rcases mv5.new q hm with h | h
        · exact h6.2.2 h
        · omega
      · exact (kA.cell (p := ⟨w.heap.size, 1, none⟩) h1.hd.lt (by simp)).trans cf1
      · exact (kA.cell (p := ⟨x.blk, 0, none⟩) hf.box.lt (by simp; omega)).trans c0
      · exact (kA.cell (p := ⟨x.blk, 1, none⟩) hf.box.lt (by simp; omega)).trans c1'
    clear hnil hsee ev hf hDW hx h5 h4 hysl hil
    gi_wp2_with fail
    refine region_round (fun W' => W'.cell? ⟨w.heap.size, 1, none⟩ = some (.map (some (w.heap.size + 1))) ∧ W'.cell? ⟨x.blk, 0, none⟩ = some (.slice a x.bytes.length c) ∧ W'.cell? ⟨x.blk, 1, none⟩ = some (.int .i64 (x.last : Int))) (by kernel_rfl) (by kernel_rfl) (by rintro ⟨_, _, hlo⟩; exact hlo) ?_ (fun hHeld => ?_)
    · exact ⟨cf1, c0, c1'⟩
    refine wpAnyH_take (i := 0) (v := ?_) rfl (by kernel_rfl) (by kernel_rfl) (by kernel_rfl) (fun _ _ _ h => h) (Or.inl ⟨by rfl, ?_⟩) (by assumption) ?_
    rotate_left
    · intro w hSw; (try dsimp only at hSw); go_simp <;> with_reducible rfl
    try simp only [Act.put, List.getElem_toArray, List.getElem_cons_zero, List.getElem_cons_succ, List.setIfInBounds_toArray, List.set_cons_zero, List.set_cons_succ]
    refine wpAnyH_take (i := 1) (v := ?_) rfl (by kernel_rfl) (by kernel_rfl) (by kernel_rfl) (fun _ _ _ h => h) (Or.inl ⟨by rfl, ?_⟩) (by assumption) ?_
    rotate_left
    · intro w hSw; (try dsimp only at hSw); go_simp <;> with_reducible rfl
    try simp only [Act.put, List.getElem_toArray, List.getElem_cons_zero, List.getElem_cons_succ, List.setIfInBounds_toArray, List.set_cons_zero, List.set_cons_succ]
    refine wpAnyH_take (i := 2) (v := ?_) rfl (by kernel_rfl) (by kernel_rfl) (by kernel_rfl) (fun _ _ _ h => h) (Or.inl ⟨by rfl, ?_⟩) (by assumption) ?_
    rotate_left
    · intro w hSw; (try dsimp only at hSw); go_simp <;> with_reducible rfl
    try simp only [Act.put, List.getElem_toArray, List.getElem_cons_zero, List.getElem_cons_succ, List.setIfInBounds_toArray, List.set_cons_zero, List.set_cons_succ]
    refine wpAnyH_take (i := 3) (v := ?_) rfl (by kernel_rfl) (by kernel_rfl) (by kernel_rfl) (fun _ _ _ h => h) (Or.inl ⟨by rfl, ?_⟩) (by assumption) ?_
    rotate_left
    · intro w hSw; (try dsimp only at hSw); go_simp <;> with_reducible rfl
    try simp only [Act.put, List.getElem_toArray, List.getElem_cons_zero, List.getElem_cons_succ, List.setIfInBounds_toArray, List.set_cons_zero, List.set_cons_succ]
    refine wpAnyH_take (i := 4) (v := ?_) rfl (by kernel_rfl) (by kernel_rfl) (by kernel_rfl) (fun _ _ _ h => h) (Or.inl ⟨by rfl, ?_⟩) (by assumption) ?_
    rotate_left
    · intro w hSw; (try dsimp only at hSw); go_simp <;> with_reducible rfl
    try simp only [Act.put, List.getElem_toArray, List.getElem_cons_zero, List.getElem_cons_succ, List.setIfInBounds_toArray, List.set_cons_zero, List.set_cons_succ]
    refine wpAnyH_take (i := 5) (v := ?_) rfl (by kernel_rfl) (by kernel_rfl) (by kernel_rfl) (fun _ _ _ h => h) (Or.inl ⟨by rfl, ?_⟩) (by assumption) ?_
    rotate_left
    · intro w hSw; (try dsimp only at hSw); go_simp <;> with_reducible rfl
    try simp only [Act.put, List.getElem_toArray, List.getElem_cons_zero, List.getElem_cons_succ, List.setIfInBounds_toArray, List.set_cons_zero, List.set_cons_succ]
    refine wpAnyH_take (i := 6) (v := ?_) rfl (by kernel_rfl) (by kernel_rfl) (by kernel_rfl) (fun _ _ _ h => h) (Or.inl ⟨by rfl, ?_⟩) (by assumption) ?_
    rotate_left
    · intro w hSw; (try dsimp only at hSw); go_simp <;> with_reducible rfl
    try simp only [Act.put, List.getElem_toArray, List.getElem_cons_zero, List.getElem_cons_succ, List.setIfInBounds_toArray, List.set_cons_zero, List.set_cons_succ]
    refine wpAnyH_take (i := 8) (v := ?_) rfl (by kernel_rfl) (by kernel_rfl) (by kernel_rfl) (fun _ _ _ h => h) (Or.inl ⟨by rfl, ?_⟩) (by assumption) ?_
    rotate_left
    · intro w hSw; (try dsimp only at hSw); go_simp <;> with_reducible rfl
    try simp only [Act.put, List.getElem_toArray, List.getElem_cons_zero, List.getElem_cons_succ, List.setIfInBounds_toArray, List.set_cons_zero, List.set_cons_succ]
    refine wpAnyH_take (i := 9) (v := ?_) rfl (by kernel_rfl) (by kernel_rfl) (by kernel_rfl) (fun _ _ _ h => h) (Or.inl ⟨by rfl, ?_⟩) (by assumption) ?_
    rotate_left
    · intro w hSw; (try dsimp only at hSw); go_simp <;> with_reducible rfl
    try simp only [Act.put, List.getElem_toArray, List.getElem_cons_zero, List.getElem_cons_succ, List.setIfInBounds_toArray, List.set_cons_zero, List.set_cons_succ]
    refine wpAnyH_take (i := 10) (v := ?_) rfl (by kernel_rfl) (by kernel_rfl) (by kernel_rfl) (fun _ _ _ h => h) (Or.inl ⟨by rfl, ?_⟩) (by assumption) ?_
    rotate_left
    · intro w hSw; (try dsimp only at hSw); go_simp <;> with_reducible rfl
    try simp only [Act.put, List.getElem_toArray, List.getElem_cons_zero, List.getElem_cons_succ, List.setIfInBounds_toArray, List.set_cons_zero, List.set_cons_succ]
    refine wpAnyH_take (i := 11) (v := ?_) rfl (by kernel_rfl) (by kernel_rfl) (by kernel_rfl) (fun _ _ _ h => h) (Or.inl ⟨by rfl, ?_⟩) (by assumption) ?_
    rotate_left
    · intro w hSw; (try dsimp only at hSw); go_simp <;> with_reducible rfl
    try simp only [Act.put, List.getElem_toArray, List.getElem_cons_zero, List.getElem_cons_succ, List.setIfInBounds_toArray, List.set_cons_zero, List.set_cons_succ]
    refine wpAnyH_ready (rs := [7]) (by kernel_rfl) (by simp) ?_
    refine AllReadyH.cons rfl (fun K hK => ?_) AllReadyH.nil
    go_simp
    refine (hc _ hseeD).mono ?_
    rintro e w3 ⟨a3, c3, rfl, hr3, hk3, hnew3⟩
    (try go_wp2_with fail)
    refine hK.out _ _ ?_ (fun hHeld => ?_)
    · exact hSk _ _ hk3 hHeld
    clear hK K
    try simp only [Act.put, List.getElem_toArray, List.getElem_cons_zero, List.getElem_cons_succ, List.setIfInBounds_toArray, List.set_cons_zero, List.set_cons_succ]
    refine wpAnyH_take (i := 12) (v := ?_) rfl (by kernel_rfl) (by kernel_rfl) (by kernel_rfl) (fun _ _ _ h => h) (Or.inl ⟨by rfl, ?_⟩) (by assumption) ?_
    rotate_left
    · intro w hSw; (try dsimp only at hSw); go_simp <;> with_reducible rfl
    try simp only [Act.put, List.getElem_toArray, List.getElem_cons_zero, List.getElem_cons_succ, List.setIfInBounds_toArray, List.set_cons_zero, List.set_cons_succ]
    refine wpAnyH_ready (rs := [13]) (by kernel_rfl) (by simp) ?_
    refine AllReadyH.cons rfl (fun K hK => ?_) AllReadyH.nil
    go_simp
    (try go_wp2_with fail)
    refine hK.out _ _ ?_ (fun hHeld => ?_)
    · exact hSk _ _ ((Kp.refl [] w3).alloc _) hHeld
    clear hK K
    try simp only [Act.put, List.getElem_toArray, List.getElem_cons_zero, List.getElem_cons_succ, List.setIfInBounds_toArray, List.set_cons_zero, List.set_cons_succ]
    refine wpAnyH_ready (rs := [14]) (by kernel_rfl) (by simp) ?_
    refine AllReadyH.cons rfl (fun K hK => ?_) AllReadyH.nil
    go_simp
    obtain ⟨w5, hrun5, hpost5, hS5⟩ := hmap w3 a3 c3 hr3 hk3 hnew3
    rw [hrun5]
    (try go_wp2_with fail)
    refine hK.out _ _ ?_ (fun hHeld => ?_)
    · exact hS5
    clear hK K
    try simp only [Act.put, List.getElem_toArray, List.getElem_cons_zero, List.getElem_cons_succ, List.setIfInBounds_toArray, List.set_cons_zero, List.set_cons_succ]
    refine wpAnyH_done (by kernel_rfl) ?_ _
    gi_wp2_with fail
    exact hpost5
  case done =>
    rintro D' ⟨sq, i⟩ W hD' ⟨hsq, hS⟩ ⟨ys, h1, h2, h3, h4, h5⟩ hK
    simp only at hS h1
    have e1 : takeD d i = d := by
      subst hS
      have : d.files.take xs.length = d.files := List.take_of_length_le (by rw [hD.fl]; simp)
      simp only [takeD, this]
    rw [e1] at h1
    have hkD : Kp [D'] W (W.putObj D' (.deferred none)) := ⟨rfl, rfl, rfl, by simp, fun k hk hn => World.putObj_heap_other (by simpa using hn)⟩
    have kD := h2.trans hkD (fun x hx => .inr (by simp at hx; omega))
    have hfin := h1.stands hkD (fun r hr => by rw [List.mem_singleton] at hr; subst hr; exact ⟨_, hK, rfl⟩) (by simp; omega)
    clear h1
    gi_wp2_with fail
    refine ⟨by simp, .inl ⟨_, _, rfl, run_takeDeferred hK, ?_⟩⟩
    exact ⟨_, results_tmp rfl _ _ _, _, _, ys, rfl, hfin, kD, fun k hk => by have := h4 k hk; omega⟩
  case stop =>
    rintro D' c s W _ _ h _
    exact h.elim
end Go.Proofs.Ytgllkonbgigcbaa
end

section
namespace Go.Proofs.Ytgllkonbgigcbaa
open Go.RowKit Go.Hay Go.Maps Go.Sort Go.Shelf
attribute [local go_sem] Oper.semAt_some
set_option linter.unusedVariables false
set_option linter.unusedSimpArgs false

/-- What is left of the numbers. -/
def KeepI (ks : List Int) (kb fb pf : Nat) (w : World) (s : Sr) (W : World) : Prop := ∃ a c, W.cell? ⟨kb, 0, none⟩ = some (.slice a (ks.drop s.i).length c) ∧ W.frozen? ⟨kb, 0, none⟩ = false ∧ Ints w a (ks.drop s.i) ∧ (ks.drop s.i).length ≤ c ∧ c ≤ 9223372036854775807 ∧ W.cell? ⟨fb, 0, none⟩ = some (.pointer (some ⟨pf, 0, none⟩))
theorem keepOwn (ks : List Int) (kb fb pf b0 : Nat) (w : World) (hk : kb < b0) (hf : fb < b0) : OwnFrom b0 (KeepI ks kb fb pf w) := fun s W W' row h hg hr => by
  obtain ⟨a, c, h1, h2, h3, h4, h6, h5⟩ := h
  have hb : ∀ k, k < b0 → k < W.heap.size → W'.heap[k]? = W.heap[k]? := fun k hk hl => hg.block k hl (fun e => by have := (hr k e.symm).1; omega)
  have e1 := hb kb hk (World.block_lt_of_cell? _ _ h1)
  have e2 := hb fb hf (World.block_lt_of_cell? _ _ h5)
  exact ⟨a, c, (World.cell?_of_block (a := ⟨kb, 0, none⟩) e1).trans h1, (World.frozen?_of_block (a := ⟨kb, 0, none⟩) e1).trans h2, h3, h4, h6, (World.cell?_of_block (a := ⟨fb, 0, none⟩) e2).trans h5⟩
theorem keepTurn (ks : List Int) (kb fb pf : Nat) (w : World) (s s' : Sr) (A B : World) (h : KeepI ks kb fb pf w s A) (ht : StepR s s' A B) : KeepI ks kb fb pf w s' B := by
  obtain ⟨a, c, h1, h2, h3, h4, h6, h5⟩ := h
  obtain ⟨_, e, hk, q, hq, hq1, hq2⟩ := ht
  have ei : s'.i = s.i := by rw [e]
  refine ⟨a, c, ?_, (hk.frozen (p := ⟨kb, 0, none⟩) (World.block_lt_of_cell? _ _ h1) (by simp)).trans h2, by rw [ei]; exact h3, by rw [ei]; exact h4, h6, cell_kp hk h5⟩
  rw [ei]; exact cell_kp hk h1
def CrashI (g : Nat → Dk) (b0 pf mf : Nat) (ks : List Int) (kb fb : Nat) (w : World) (s : Sr) (W : World) : Prop := BuildI g (w.heap.size + 1) b0 pf mf w s W ∧ KeepI ks kb fb pf w s W
theorem crash_succ {xs : List Ent} {d : Dk} (hfl : d.files = xs.map Ent.fl) (ks : List Int) {i : Nat} {x : Ent} (hx : xs[i]? = some x) : crashD (takeD d (i + 1)) ks = { crashD (takeD d i) ks with files := (crashD (takeD d i) ks).files ++ [keptF x.fl (ks.getD i 0)] } := by
  rw [takeD_succ hfl hx]
  simp only [crashD]
  congr 1
  rw [crashF_snoc]
  have hil : i < xs.length := (List.getElem?_eq_some_iff.1 hx).1
  have : (takeD d i).files.length = i := by simp [takeD, hfl]; omega
  rw [this]
theorem before_crash {xs : List Ent} {d : Dk} (hfl : d.files = xs.map Ent.fl) (hr : riseG Ent.name xs) (ks : List Int) {i : Nat} {x : Ent} (hx : xs[i]? = some x) : ∀ f ∈ (crashD (takeD d i) ks).files, bytesBefore f.name x.name = true := fun f hf => by
  obtain ⟨g, hg, k, rfl⟩ := crashF_mem _ _ f hf
  exact before_take hfl hr hx g hg

set_option maxHeartbeats 16000000 in
set_option maxRecDepth 100000 in
theorem cCrash {w : World} {p mb : Nat} {xs : List Ent} {d : Dk} (hD : Disk w p mb xs d) (hB : Small d) (hN : xs.length ≤ 1000000000000) (ka : Option Addr) (kc : Nat) (ks : List Int) (hks : Ints w ka ks) (hkl : ks.length ≤ kc) (hkc : kc ≤ 9223372036854775807) (hk64 : ∀ k ∈ ks, -9223372036854775808 ≤ k ∧ k < 9223372036854775808) :
    Calls Try.prog 13 #[.pointer (some ⟨p, 0, none⟩), .slice ka ks.length kc] w (DiskP (crashD d ks) w) := by
  have hplt := hD.hd.lt
  have hmlt := hD.map.lt
  have c0 := hD.hd.c0
  have hroom := hD.ok.room
  refine (callsIn_wide (n := 4)).1 ?_
  refine callsIn_of_wp_marks Try.func13 rfl trivial ?_ rfl
  simp only [Try.ntmps13, List.size_toArray, List.length_cons, List.length_nil, Nat.reduceAdd, Nat.reduceSub, Array.replicate_succ, Array.replicate_zero, List.push_toArray, List.append_toArray, List.nil_append, List.cons_append]
  gi_wp2_with fail
  refine ⟨trivial, (callsIn_wide.2 (cNew _ _ (by omega))).mono ?_⟩
  rintro e w2 ⟨pf, mf, rfl, hE, k2, hpf, hmf⟩
  gi_wp2_with fail
  refine ⟨trivial, (callsIn_wide.2 (cRising _ _)).mono ?_⟩
  rintro e w' ⟨rfl, rfl⟩
  have k2w : Kp [] w w2 := ((Kp.refl [] w).alloc _).trans k2 (by simp)
  have ckb : w2.cell? ⟨w.heap.size, 0, none⟩ = some (.slice ka ks.length kc) := cell_kp k2 (by simp)
  have fkb : w2.frozen? ⟨w.heap.size, 0, none⟩ = false := (k2.frozen (p := ⟨w.heap.size, 0, none⟩) (by simp) (by simp)).trans (by simp)
  simp only [World.size_alloc] at hpf hmf
  have hpl := hE.hd.lt
  have hml := hE.map.lt
  have hsz2 : w.heap.size < w2.heap.size := by omega
  obtain ⟨w1, hw1⟩ : ∃ w1, w1 = (w2.alloc (.cells #[.pointer (some ⟨pf, 0, none⟩)] 23)).alloc (.cells #[.pointer (some ⟨p, 0, none⟩)] 23) := ⟨_, rfl⟩
  have k21 : Kp [] w2 w1 := by rw [hw1]; exact ((Kp.refl _ _).alloc _).alloc _
  have k1 : Kp [] w w1 := k2w.trans k21 (by simp)
  have b1 : w1.cell? ⟨w2.heap.size + 1, 0, none⟩ = some (.pointer (some ⟨p, 0, none⟩)) := by
    rw [hw1]
    have := World.cell?_alloc_new (w2.alloc (.cells #[.pointer (some ⟨pf, 0, none⟩)] 23)) #[.pointer (some ⟨p, 0, none⟩)] 23 0
    rwa [World.size_alloc] at this
  have b2 : w1.cell? ⟨w2.heap.size, 0, none⟩ = some (.pointer (some ⟨pf, 0, none⟩)) := by rw [hw1]; simp
  have hs1a : w2.heap.size + 2 ≤ w1.heap.size := by rw [hw1]; simp
  have hs1b : w1.heap.size ≤ w2.heap.size + 2 := by rw [hw1]; simp
  rw [← hw1]
  simp only [World.size_alloc]
  have hD1 := hD.keptNew k1
  have hE1 : Disk w1 pf mf [] (crashD (takeD d 0) ks) := by
    have e : newD (d.room : Int) = crashD (takeD d 0) ks := by simp [newD, crashD, takeD, crashF]
    rw [← e]; exact hE.keptNew k21
  have hseq := risingSeq (4 - 1) (by omega) (w2.heap.size + 1) p mb xs hD.rise (by omega) hD.names w1 ⟨b1, hD1.hd.c1, hD1.map⟩
  have hI0 : CrashI (fun i => crashD (takeD d i) ks) w1.heap.size pf mf ks w.heap.size w2.heap.size w ⟨none, 0⟩ w1 :=
    ⟨⟨[], hE1, k1, Nat.le_refl _, by intro k hk; simp [foot] at hk; omega, by simp⟩, ka, kc, by simpa using cell_kp k21 ckb, (k21.frozen (p := ⟨w.heap.size, 0, none⟩) hsz2 (by simp)).trans fkb, by simpa using hks, by simpa using hkl, hkc, b2⟩
  have hJs : ∀ j ∈ [w2.heap.size + 1, p, mb], j < w1.heap.size := by intro j hj; simp at hj; omega
  clear hw1 k21 hE k2 ckb fkb b1 b2
  gi_wp2_with fail
  refine wpRangeS rfl (by omega) (gf := 47) (lb := #[.pointer (some ⟨w2.heap.size + 1, 0, none⟩)]) rfl trivial (enters_of Try.func47 (by kernel_rfl) rfl)
    hseq (fun _ => rfl) KeepR.trans (fun s => KeepR.alloc _ s) (fun s W l o o' hl ho hc _ => KeepR.putObj hJs W l o o' hl ho hc) (KeepR.refl _ _ _) (fun s s' A B ht k o _ ho _ _ => stepRKeeps ht k o ho)
    (CrashI (fun i => crashD (takeD d i) ks) w1.heap.size pf mf ks w.heap.size w2.heap.size w) (fun _ _ _ => False) (OwnFrom.and (buildOwn _ _ _ _ _ w (by omega) (by omega)) (keepOwn _ _ _ _ _ w (by omega) (by omega))) (fun _ _ _ _ _ h _ _ => h) (fun s s' A B h ht => ⟨buildTurn _ _ _ _ _ w s s' A B h.1 ht, keepTurn _ _ _ _ w s s' A B h.2 ht⟩) hI0
    (fun x => { tmps := #[.pointer (some ⟨p, 0, none⟩), .slice ka ks.length kc, undef, .pointer (some ⟨w.heap.size, 0, none⟩), .pointer none, .pointer (some ⟨w2.heap.size, 0, none⟩), encStr x.name, .pointer (some ⟨x.blk, 0, none⟩), undef, .pointer (some ⟨p, 0, none⟩), .pointer (some ⟨p, 0, none⟩), .pointer (some ⟨p, 0, none⟩), .int .i64 (d.room : Int), .pointer (some ⟨pf, 0, none⟩), .pointer (some ⟨p, 0, none⟩), .func (.func 47) #[] #[.pointer (some ⟨w2.heap.size + 1, 0, none⟩)], encStr x.name, .pointer (some ⟨x.blk, 0, none⟩), undef, undef, undef, undef, undef, undef, undef, undef, undef, undef, undef, undef, undef, undef, undef, undef, undef], defers := [] }) ?assign ?body ?done ?stop
  case assign =>
    intro l x W C hC
    gi_wp2_with fail
    exact hC
  case body =>
    rintro l ⟨sq, i⟩ x W ⟨⟨ys, h1, h2, h3, h4, h5⟩, ⟨a, c, g1, g2, g3, g4, g6, g5⟩⟩ ⟨hsq, hx⟩
    simp only at hsq hx h1 h5 g1 g3 g4
    have hxm : x ∈ xs := List.mem_of_getElem? hx
    have hDW := hD.keptNew h2
    have hbl := hB x.fl (by rw [hD.fl]; exact List.mem_map_of_mem hxm)
    have hlast := hD.ok.last x.fl (by rw [hD.fl]; exact List.mem_map_of_mem hxm)
    simp only [Ent.fl] at hbl hlast
    have cf1 := h1.hd.c1
    have hil : i < xs.length := (List.getElem?_eq_some_iff.1 hx).1
    have hysl : ys.length ≤ xs.length := by
      have := congrArg List.length h1.fl
      have e2 := congrArg List.length (crashF_name (takeD d i).files ks)
      simp only [crashD, takeD, hD.fl, List.length_map, List.length_take] at this e2
      omega
    have hxblt : x.blk < w.heap.size := (hD.files x hxm).box.lt
    have hfx : ∀ W', Kp [] w W' → FileAt W' x := fun W' hk => (hD.keptNew hk).files x hxm
    have hfound : ∀ W' k, Kp [] w W' → -9223372036854775808 ≤ k → k < 9223372036854775808 → Calls Try.prog 29 #[.pointer (some ⟨x.blk, 0, none⟩), .int .i64 k] W' (FoundP x k W') := fun W' k hk h0 h1 => cFound (hfx W' hk) hlast hbl k h0 h1
    have hmap : ∀ (k : Int) (W2 w3 : World) (b3 : Nat) (v3 : Value), k = ks.getD i 0 → Kp [w.heap.size] W W2 → KeepI ks w.heap.size w2.heap.size pf w ⟨sq, i + 1⟩ W2 → Kp [] W2 w3 → FileAt w3 ⟨x.name, b3, v3, (keptF x.fl k).bytes, (keptF x.fl k).last⟩ → (∀ j ∈ b3 :: own v3, W2.heap.size ≤ j) →
        ∃ w5, (Instr.mapUpdate 63 (.map (some mf)) (.string ⟨x.name.toArray⟩) (.pointer (some ⟨b3, 0, none⟩))).run Try.prog w3 = .ok () w5 ∧
          leftS w1.heap.size (KeepR [w2.heap.size + 1, p, mb]) (CrashI (fun i => crashD (takeD d i) ks) w1.heap.size pf mf ks w.heap.size w2.heap.size w) (fun _ _ _ => False) ⟨sq, i⟩ (Sr.nx ⟨sq, i⟩ x) W .normal { tmps := #[], defers := [] } w5 ∧
          (w5.cell? ⟨w2.heap.size, 0, none⟩ = some (.pointer (some ⟨pf, 0, none⟩)) ∧ w5.cell? ⟨pf, 1, none⟩ = some (.map (some mf))) := fun k W2 w3 b3 v3 hk kW hKI k3 hfe hn3 => by
      have hW2 : Disk W2 pf mf ys (crashD (takeD d i) ks) := h1.kept kW (fun j hj hm => by rw [List.mem_singleton] at hm; have := h4 j hj; omega)
      have hm3 : OwnsM w3 mf ys := hW2.map.kept k3 (by simp)
      obtain ⟨w5, hrun, hown5, k5⟩ := storeF hm3 h1.rise (by unfold maxLen; omega) ⟨x.name, b3, v3, (keptF x.fl k).bytes, (keptF x.fl k).last⟩ (hD.names x hxm)
      obtain ⟨hD5, mv5⟩ := hW2.snoc (d' := crashD (takeD d (i + 1)) ks) ⟨x.name, b3, v3, (keptF x.fl k).bytes, (keptF x.fl k).last⟩ k3 hfe (fun j hj => hn3 j hj) k5 hown5 (before_crash (x := x) hD.fl hD.rise ks hx) (by rw [hk]; exact crash_succ (x := x) hD.fl ks hx) (okCrash (okTake hD.ok _) ks)
      have k25 : Kp [mf] W2 w5 := (k3.mono (T := [mf]) (by simp)).trans k5 (fun _ h => .inl h)
      have kA : Kp [w.heap.size, mf] W w5 := (kW.mono (T := [w.heap.size, mf]) (fun j hj => .inl (by simp at hj; simp [hj]))).trans k25 (fun j hj => .inl (by simp at hj; simp [hj]))
      obtain ⟨ra, rc, r1, r2, r3, r4, r6, r5⟩ := hKI
      have hfblt := World.block_lt_of_cell? _ _ r5
      have hkblt := World.block_lt_of_cell? _ _ r1
      refine ⟨w5, hrun, ⟨⟨kA.size, fun j o hj ho _ => (kA.block j (Array.getElem?_eq_some_iff.1 ho).1 (by simp; omega)).trans ho⟩, KeepR.ofKp kA (fun j hj => ?_) (fun q hq => ?_), ⟨_, hD5, h2.trans kA (fun j hj => .inr (by simp at hj; omega)), Nat.le_trans h3 kA.size, fun j hj => ?_, fun q hq => ?_⟩, ra, rc, ?_, ?_, r3, r4, r6, ?_⟩, ?_, ?_⟩
      · simp at hj ⊢; omega
      · have := h5 q hq; simp; omega
      · rcases mv5.new j hj with h | h
        · exact h4 j h
        · have := h2.size; have := kW.size; omega
      · have h6 := h5 q hq
        refine ⟨h6.1, Nat.lt_of_lt_of_le h6.2.1 kA.size, fun hm => ?_⟩
        rcases mv5.new q hm with h | h
        · exact h6.2.2 h
        · have := kW.size; omega
      · exact (k25.cell (p := ⟨w.heap.size, 0, none⟩) hkblt (by simp; omega)).trans r1
      · exact (k25.frozen (p := ⟨w.heap.size, 0, none⟩) hkblt (by simp; omega)).trans r2
      · exact (k25.cell (p := ⟨w2.heap.size, 0, none⟩) hfblt (by simp; omega)).trans r5
      · exact (k25.cell (p := ⟨w2.heap.size, 0, none⟩) hfblt (by simp; omega)).trans r5
      · exact hD5.hd.c1
    rcases Nat.lt_or_ge i ks.length with hik | hik
    · obtain ⟨k, rest, hdr⟩ : ∃ k rest, ks.drop i = k :: rest := ⟨ks[i], ks.drop (i + 1), (List.drop_eq_getElem_cons hik)⟩
      have hdr1 : ks.drop (i + 1) = rest := by
        have : (ks.drop i).drop 1 = ks.drop (i + 1) := by rw [List.drop_drop]
        rw [← this, hdr]; rfl
      have hkk : k = ks.getD i 0 := by
        have : (ks.drop i)[0]? = some k := by rw [hdr]; rfl
        rw [List.getElem?_drop] at this
        simp at this
        simp [this]
      have Hkk := hid hkk
      have hkm := hk64 k (by have : k ∈ ks.drop i := by rw [hdr]; simp
                             exact List.mem_of_mem_drop this)
      rw [hdr] at g1 g3 g4
      rcases g3 with hn | ⟨g, o, rfl, hcs⟩
      · cases hn
      have hcw := cell_kp h2 (hcs 0 k rfl)
      rw [Nat.add_zero] at hcw
      simp only [List.length_cons] at g1 g4
      have hglt : g < w.heap.size := World.block_lt_of_cell? _ _ (hcs 0 k rfl)
      have htl : Ints w (some ⟨g, o + 1, none⟩) rest := Ints.tail (.inr ⟨g, o, rfl, hcs⟩)
      obtain ⟨m, hm⟩ : ∃ m, Hid (rest.length = m) := ⟨_, rfl⟩
      rw [hm.out] at g1 g4
      have hW2 : ∀ a', Ints w a' rest → ∀ c', rest.length ≤ c' → c' ≤ 9223372036854775807 → Kp [w.heap.size] W (W.setCell ⟨w.heap.size, 0, none⟩ (.slice a' m c')).drew ∧ KeepI ks w.heap.size w2.heap.size pf w ⟨sq, i + 1⟩ (W.setCell ⟨w.heap.size, 0, none⟩ (.slice a' m c')).drew := fun a' ha c' hc' hc2 => by
        have kS : Kp [w.heap.size] W (W.setCell ⟨w.heap.size, 0, none⟩ (.slice a' m c')) := (Kp.refl _ _).setCell (p := ⟨w.heap.size, 0, none⟩) (by simp) _
        refine ⟨kS.drew, a', c', ?_, ?_, ?_, ?_, hc2, ?_⟩
        · simp only [hdr1, hm.out]; exact World.cell?_setCell_same _ _ _ g1
        · exact (World.frozen?_setCell _ _ _ _).trans g2
        · simp only [hdr1]; exact ha
        · simp only [hdr1]; exact hc'
        · exact (kS.cell (p := ⟨w2.heap.size, 0, none⟩) (World.block_lt_of_cell? _ _ g5) (by simp; omega)).trans g5
      have hrl : rest.length = m := hm.out
      by_cases hc1 : c = 1
      · subst hc1
        have hm0 : m = 0 := by omega
        have hrn : rest = [] := List.length_eq_zero_iff.1 (by omega)
        subst hm0
        obtain ⟨kW, hKI⟩ := hW2 (some ⟨g, o, none⟩) (.inl hrn) 0 (by omega) (by omega)
        clear hW2 hdr hdr1 hcs htl hrn hrl hm hx h5 h4 hysl hil hkk
        gi_wp2_with fail
        refine wpIn_mono (Q := fun e a' w' => e = Exit.normal ∧ a' = { tmps := #[.pointer (some ⟨p, 0, none⟩), .slice ka ks.length kc, undef, .pointer (some ⟨w.heap.size, 0, none⟩), .pointer none, .pointer (some ⟨w2.heap.size, 0, none⟩), encStr x.name, .pointer (some ⟨x.blk, 0, none⟩), .int .i64 k, .pointer (some ⟨p, 0, none⟩), .pointer (some ⟨p, 0, none⟩), .pointer (some ⟨p, 0, none⟩), .int .i64 (d.room : Int), .pointer (some ⟨pf, 0, none⟩), .pointer (some ⟨p, 0, none⟩), .func (.func 47) #[] #[.pointer (some ⟨w2.heap.size + 1, 0, none⟩)], encStr x.name, .pointer (some ⟨x.blk, 0, none⟩), .slice (some ⟨g, o, none⟩) 1 1, .int .i64 1, .bool true, .slice (some ⟨g, o, none⟩) 1 1, .pointer (some ⟨g, o, none⟩), .int .i64 k, .slice (some ⟨g, o, none⟩) 1 1, .slice (some ⟨g, o, none⟩) 0 0, undef, undef, undef, undef, undef, undef, undef, undef, undef], defers := [] } ∧ w' = (W.setCell ⟨w.heap.size, 0, none⟩ (.slice (some ⟨g, o, none⟩) 0 0)).drew) ?_ ?_
        · gi_region
          all_goals exact ⟨rfl, rfl, rfl⟩
        · rintro e1 a1 W1 ⟨rfl, rfl, rfl⟩
          have hkW2 : Kp [] w (W.setCell ⟨w.heap.size, 0, none⟩ (.slice (some ⟨g, o, none⟩) 0 0)).drew := h2.trans kW (fun j hj => .inr (by simp at hj; omega))
          have cfb2 := hKI.choose_spec.choose_spec.2.2.2.2.2
          have cf2 : ((W.setCell ⟨w.heap.size, 0, none⟩ (.slice (some ⟨g, o, none⟩) 0 0)).drew).cell? ⟨pf, 1, none⟩ = some (.map (some mf)) := (kW.cell (p := ⟨pf, 1, none⟩) h1.hd.lt (by simp; omega)).trans cf1
          gi_wp2_with fail
          refine region_round (fun W' => W'.cell? ⟨w2.heap.size, 0, none⟩ = some (.pointer (some ⟨pf, 0, none⟩)) ∧ W'.cell? ⟨pf, 1, none⟩ = some (.map (some mf))) (by kernel_rfl) (by kernel_rfl) (by rintro ⟨_, _, hlo⟩; exact hlo) ?_ (fun hHeld => ?_)
          · exact ⟨cfb2, cf2⟩
          refine wpAnyH_take (i := 0) (v := ?_) rfl (by kernel_rfl) (by kernel_rfl) (by kernel_rfl) (fun _ _ _ h => h) (Or.inl ⟨by rfl, ?_⟩) (by assumption) ?_
          rotate_left
          · intro w hSw; (try dsimp only at hSw); go_simp <;> with_reducible rfl
          try simp only [Act.put, List.getElem_toArray, List.getElem_cons_zero, List.getElem_cons_succ, List.setIfInBounds_toArray, List.set_cons_zero, List.set_cons_succ]
          refine wpAnyH_take (i := 1) (v := ?_) rfl (by kernel_rfl) (by kernel_rfl) (by kernel_rfl) (fun _ _ _ h => h) (Or.inl ⟨by rfl, ?_⟩) (by assumption) ?_
          rotate_left
          · intro w hSw; (try dsimp only at hSw); go_simp <;> with_reducible rfl
          try simp only [Act.put, List.getElem_toArray, List.getElem_cons_zero, List.getElem_cons_succ, List.setIfInBounds_toArray, List.set_cons_zero, List.set_cons_succ]
          refine wpAnyH_take (i := 2) (v := ?_) rfl (by kernel_rfl) (by kernel_rfl) (by kernel_rfl) (fun _ _ _ h => h) (Or.inl ⟨by rfl, ?_⟩) (by assumption) ?_
          rotate_left
          · intro w hSw; (try dsimp only at hSw); go_simp <;> with_reducible rfl
          try simp only [Act.put, List.getElem_toArray, List.getElem_cons_zero, List.getElem_cons_succ, List.setIfInBounds_toArray, List.set_cons_zero, List.set_cons_succ]
          refine wpAnyH_take (i := 3) (v := ?_) rfl (by kernel_rfl) (by kernel_rfl) (by kernel_rfl) (fun _ _ _ h => h) (Or.inl ⟨by rfl, ?_⟩) (by assumption) ?_
          rotate_left
          · intro w hSw; (try dsimp only at hSw); go_simp <;> with_reducible rfl
          try simp only [Act.put, List.getElem_toArray, List.getElem_cons_zero, List.getElem_cons_succ, List.setIfInBounds_toArray, List.set_cons_zero, List.set_cons_succ]
          refine wpAnyH_take (i := 4) (v := ?_) rfl (by kernel_rfl) (by kernel_rfl) (by kernel_rfl) (fun _ _ _ h => h) (Or.inl ⟨by rfl, ?_⟩) (by assumption) ?_
          rotate_left
          · intro w hSw; (try dsimp only at hSw); go_simp <;> with_reducible rfl
          try simp only [Act.put, List.getElem_toArray, List.getElem_cons_zero, List.getElem_cons_succ, List.setIfInBounds_toArray, List.set_cons_zero, List.set_cons_succ]
          refine wpAnyH_take (i := 5) (v := ?_) rfl (by kernel_rfl) (by kernel_rfl) (by kernel_rfl) (fun _ _ _ h => h) (Or.inl ⟨by rfl, ?_⟩) (by assumption) ?_
          rotate_left
          · intro w hSw; (try dsimp only at hSw); go_simp <;> with_reducible rfl
          try simp only [Act.put, List.getElem_toArray, List.getElem_cons_zero, List.getElem_cons_succ, List.setIfInBounds_toArray, List.set_cons_zero, List.set_cons_succ]
          refine wpAnyH_take (i := 6) (v := ?_) rfl (by kernel_rfl) (by kernel_rfl) (by kernel_rfl) (fun _ _ _ h => h) (Or.inl ⟨by rfl, ?_⟩) (by assumption) ?_
          rotate_left
          · intro w hSw; (try dsimp only at hSw); go_simp <;> with_reducible rfl
          try simp only [Act.put, List.getElem_toArray, List.getElem_cons_zero, List.getElem_cons_succ, List.setIfInBounds_toArray, List.set_cons_zero, List.set_cons_succ]
          refine wpAnyH_ready (rs := [7]) (by kernel_rfl) (by simp) ?_
          refine AllReadyH.cons rfl (fun K hK => ?_) AllReadyH.nil
          go_simp
          refine (hfound _ k (hkW2.drew) hkm.1 hkm.2).mono ?_
          rintro e w3 ⟨b3, v3, rfl, hf3, hk3, hnew3⟩
          have hk3' : Kp [] (W.setCell ⟨w.heap.size, 0, none⟩ (.slice (some ⟨g, o, none⟩) 0 0)).drew w3 := ((Kp.refl [] _).drew).trans hk3 (by simp)
          (try go_wp2_with fail)
          refine hK.out _ _ ?_ (fun hHeld => ?_)
          · exact ⟨cell_kp hk3 hHeld.1, cell_kp hk3 hHeld.2⟩
          clear hK K
          try simp only [Act.put, List.getElem_toArray, List.getElem_cons_zero, List.getElem_cons_succ, List.setIfInBounds_toArray, List.set_cons_zero, List.set_cons_succ]
          refine wpAnyH_ready (rs := [8]) (by kernel_rfl) (by simp) ?_
          refine AllReadyH.cons rfl (fun K hK => ?_) AllReadyH.nil
          go_simp
          obtain ⟨w5, hrun5, hpost5, hS5⟩ := hmap _ _ w3 b3 v3 Hkk.out kW hKI hk3' hf3 hnew3
          rw [hrun5]
          (try go_wp2_with fail)
          refine hK.out _ _ ?_ (fun hHeld => ?_)
          · exact hS5
          clear hK K
          try simp only [Act.put, List.getElem_toArray, List.getElem_cons_zero, List.getElem_cons_succ, List.setIfInBounds_toArray, List.set_cons_zero, List.set_cons_succ]
          refine wpAnyH_done (by kernel_rfl) ?_ _
          gi_wp2_with fail
          exact hpost5
      · have hc2 : 1 < c := by omega
        obtain ⟨kW, hKI⟩ := hW2 (some ⟨g, o + 1, none⟩) htl (c - 1) (by omega) (by omega)
        clear hW2 hdr hdr1 hcs htl hrl hm hx h5 h4 hysl hil hkk
        gi_wp2_with fail
        refine wpIn_mono (Q := fun e a' w' => e = Exit.normal ∧ a' = { tmps := #[.pointer (some ⟨p, 0, none⟩), .slice ka ks.length kc, undef, .pointer (some ⟨w.heap.size, 0, none⟩), .pointer none, .pointer (some ⟨w2.heap.size, 0, none⟩), encStr x.name, .pointer (some ⟨x.blk, 0, none⟩), .int .i64 k, .pointer (some ⟨p, 0, none⟩), .pointer (some ⟨p, 0, none⟩), .pointer (some ⟨p, 0, none⟩), .int .i64 (d.room : Int), .pointer (some ⟨pf, 0, none⟩), .pointer (some ⟨p, 0, none⟩), .func (.func 47) #[] #[.pointer (some ⟨w2.heap.size + 1, 0, none⟩)], encStr x.name, .pointer (some ⟨x.blk, 0, none⟩), .slice (some ⟨g, o, none⟩) (m + 1) c, .int .i64 ((m : Int) + 1), .bool true, .slice (some ⟨g, o, none⟩) (m + 1) c, .pointer (some ⟨g, o, none⟩), .int .i64 k, .slice (some ⟨g, o, none⟩) (m + 1) c, .slice (some ⟨g, o + 1, none⟩) m (c - 1), undef, undef, undef, undef, undef, undef, undef, undef, undef], defers := [] } ∧ w' = (W.setCell ⟨w.heap.size, 0, none⟩ (.slice (some ⟨g, o + 1, none⟩) m (c - 1))).drew) ?_ ?_
        · gi_region
          all_goals exact ⟨rfl, rfl, rfl⟩
        · rintro e1 a1 W1 ⟨rfl, rfl, rfl⟩
          have hkW2 : Kp [] w (W.setCell ⟨w.heap.size, 0, none⟩ (.slice (some ⟨g, o + 1, none⟩) m (c - 1))).drew := h2.trans kW (fun j hj => .inr (by simp at hj; omega))
          have cfb2 := hKI.choose_spec.choose_spec.2.2.2.2.2
          have cf2 : ((W.setCell ⟨w.heap.size, 0, none⟩ (.slice (some ⟨g, o + 1, none⟩) m (c - 1))).drew).cell? ⟨pf, 1, none⟩ = some (.map (some mf)) := (kW.cell (p := ⟨pf, 1, none⟩) h1.hd.lt (by simp; omega)).trans cf1
          gi_wp2_with fail
          refine region_round (fun W' => W'.cell? ⟨w2.heap.size, 0, none⟩ = some (.pointer (some ⟨pf, 0, none⟩)) ∧ W'.cell? ⟨pf, 1, none⟩ = some (.map (some mf))) (by kernel_rfl) (by kernel_rfl) (by rintro ⟨_, _, hlo⟩; exact hlo) ?_ (fun hHeld => ?_)
          · exact ⟨cfb2, cf2⟩
          refine wpAnyH_take (i := 0) (v := ?_) rfl (by kernel_rfl) (by kernel_rfl) (by kernel_rfl) (fun _ _ _ h => h) (Or.inl ⟨by rfl, ?_⟩) (by assumption) ?_
          rotate_left
          · intro w hSw; (try dsimp only at hSw); go_simp <;> with_reducible rfl
          try simp only [Act.put, List.getElem_toArray, List.getElem_cons_zero, List.getElem_cons_succ, List.setIfInBounds_toArray, List.set_cons_zero, List.set_cons_succ]
          refine wpAnyH_take (i := 1) (v := ?_) rfl (by kernel_rfl) (by kernel_rfl) (by kernel_rfl) (fun _ _ _ h => h) (Or.inl ⟨by rfl, ?_⟩) (by assumption) ?_
          rotate_left
          · intro w hSw; (try dsimp only at hSw); go_simp <;> with_reducible rfl
          try simp only [Act.put, List.getElem_toArray, List.getElem_cons_zero, List.getElem_cons_succ, List.setIfInBounds_toArray, List.set_cons_zero, List.set_cons_succ]
          refine wpAnyH_take (i := 2) (v := ?_) rfl (by kernel_rfl) (by kernel_rfl) (by kernel_rfl) (fun _ _ _ h => h) (Or.inl ⟨by rfl, ?_⟩) (by assumption) ?_
          rotate_left
          · intro w hSw; (try dsimp only at hSw); go_simp <;> with_reducible rfl
          try simp only [Act.put, List.getElem_toArray, List.getElem_cons_zero, List.getElem_cons_succ, List.setIfInBounds_toArray, List.set_cons_zero, List.set_cons_succ]
          refine wpAnyH_take (i := 3) (v := ?_) rfl (by kernel_rfl) (by kernel_rfl) (by kernel_rfl) (fun _ _ _ h => h) (Or.inl ⟨by rfl, ?_⟩) (by assumption) ?_
          rotate_left
          · intro w hSw; (try dsimp only at hSw); go_simp <;> with_reducible rfl
          try simp only [Act.put, List.getElem_toArray, List.getElem_cons_zero, List.getElem_cons_succ, List.setIfInBounds_toArray, List.set_cons_zero, List.set_cons_succ]
          refine wpAnyH_take (i := 4) (v := ?_) rfl (by kernel_rfl) (by kernel_rfl) (by kernel_rfl) (fun _ _ _ h => h) (Or.inl ⟨by rfl, ?_⟩) (by assumption) ?_
          rotate_left
          · intro w hSw; (try dsimp only at hSw); go_simp <;> with_reducible rfl
          try simp only [Act.put, List.getElem_toArray, List.getElem_cons_zero, List.getElem_cons_succ, List.setIfInBounds_toArray, List.set_cons_zero, List.set_cons_succ]
          refine wpAnyH_take (i := 5) (v := ?_) rfl (by kernel_rfl) (by kernel_rfl) (by kernel_rfl) (fun _ _ _ h => h) (Or.inl ⟨by rfl, ?_⟩) (by assumption) ?_
          rotate_left
          · intro w hSw; (try dsimp only at hSw); go_simp <;> with_reducible rfl
          try simp only [Act.put, List.getElem_toArray, List.getElem_cons_zero, List.getElem_cons_succ, List.setIfInBounds_toArray, List.set_cons_zero, List.set_cons_succ]
          refine wpAnyH_take (i := 6) (v := ?_) rfl (by kernel_rfl) (by kernel_rfl) (by kernel_rfl) (fun _ _ _ h => h) (Or.inl ⟨by rfl, ?_⟩) (by assumption) ?_
          rotate_left
          · intro w hSw; (try dsimp only at hSw); go_simp <;> with_reducible rfl
          try simp only [Act.put, List.getElem_toArray, List.getElem_cons_zero, List.getElem_cons_succ, List.setIfInBounds_toArray, List.set_cons_zero, List.set_cons_succ]
          refine wpAnyH_ready (rs := [7]) (by kernel_rfl) (by simp) ?_
          refine AllReadyH.cons rfl (fun K hK => ?_) AllReadyH.nil
          go_simp
          refine (hfound _ k (hkW2.drew) hkm.1 hkm.2).mono ?_
          rintro e w3 ⟨b3, v3, rfl, hf3, hk3, hnew3⟩
          have hk3' : Kp [] (W.setCell ⟨w.heap.size, 0, none⟩ (.slice (some ⟨g, o + 1, none⟩) m (c - 1))).drew w3 := ((Kp.refl [] _).drew).trans hk3 (by simp)
          (try go_wp2_with fail)
          refine hK.out _ _ ?_ (fun hHeld => ?_)
          · exact ⟨cell_kp hk3 hHeld.1, cell_kp hk3 hHeld.2⟩
          clear hK K
          try simp only [Act.put, List.getElem_toArray, List.getElem_cons_zero, List.getElem_cons_succ, List.setIfInBounds_toArray, List.set_cons_zero, List.set_cons_succ]
          refine wpAnyH_ready (rs := [8]) (by kernel_rfl) (by simp) ?_
          refine AllReadyH.cons rfl (fun K hK => ?_) AllReadyH.nil
          go_simp
          obtain ⟨w5, hrun5, hpost5, hS5⟩ := hmap _ _ w3 b3 v3 Hkk.out kW hKI hk3' hf3 hnew3
          rw [hrun5]
          (try go_wp2_with fail)
          refine hK.out _ _ ?_ (fun hHeld => ?_)
          · exact hS5
          clear hK K
          try simp only [Act.put, List.getElem_toArray, List.getElem_cons_zero, List.getElem_cons_succ, List.setIfInBounds_toArray, List.set_cons_zero, List.set_cons_succ]
          refine wpAnyH_done (by kernel_rfl) ?_ _
          gi_wp2_with fail
          exact hpost5
    · have hdr : ks.drop i = [] := List.drop_eq_nil_of_le hik
      have hdr1 : ks.drop (i + 1) = [] := List.drop_eq_nil_of_le (by omega)
      have Hkk : Hid ((0 : Int) = ks.getD i 0) := by show _ = _; simp [hik]
      have hKI : KeepI ks w.heap.size w2.heap.size pf w ⟨sq, i + 1⟩ W := ⟨a, c, by simp only [hdr1]; rw [hdr] at g1; exact g1, g2, by simp only [hdr1]; exact .inl rfl, by simp [hdr1], g6, g5⟩
      rw [hdr] at g1
      simp only [List.length_nil] at g1
      have hkW2 := h2
      have kW : Kp [w.heap.size] W W := Kp.refl _ _
      have cfb2 := g5
      have cf2 := cf1
      clear hdr hdr1 hx h5 h4 hysl hil g3 g4
      gi_wp2_with fail
      refine region_round (fun W' => W'.cell? ⟨w2.heap.size, 0, none⟩ = some (.pointer (some ⟨pf, 0, none⟩)) ∧ W'.cell? ⟨pf, 1, none⟩ = some (.map (some mf))) (by kernel_rfl) (by kernel_rfl) (by rintro ⟨_, _, hlo⟩; exact hlo) ?_ (fun hHeld => ?_)
      · exact ⟨cfb2, cf2⟩
      refine wpAnyH_take (i := 0) (v := ?_) rfl (by kernel_rfl) (by kernel_rfl) (by kernel_rfl) (fun _ _ _ h => h) (Or.inl ⟨by rfl, ?_⟩) (by assumption) ?_
      rotate_left
      · intro w hSw; (try dsimp only at hSw); go_simp <;> with_reducible rfl
      try simp only [Act.put, List.getElem_toArray, List.getElem_cons_zero, List.getElem_cons_succ, List.setIfInBounds_toArray, List.set_cons_zero, List.set_cons_succ]
      refine wpAnyH_take (i := 1) (v := ?_) rfl (by kernel_rfl) (by kernel_rfl) (by kernel_rfl) (fun _ _ _ h => h) (Or.inl ⟨by rfl, ?_⟩) (by assumption) ?_
      rotate_left
      · intro w hSw; (try dsimp only at hSw); go_simp <;> with_reducible rfl
      try simp only [Act.put, List.getElem_toArray, List.getElem_cons_zero, List.getElem_cons_succ, List.setIfInBounds_toArray, List.set_cons_zero, List.set_cons_succ]
      refine wpAnyH_take (i := 2) (v := ?_) rfl (by kernel_rfl) (by kernel_rfl) (by kernel_rfl) (fun _ _ _ h => h) (Or.inl ⟨by rfl, ?_⟩) (by assumption) ?_
      rotate_left
      · intro w hSw; (try dsimp only at hSw); go_simp <;> with_reducible rfl
      try simp only [Act.put, List.getElem_toArray, List.getElem_cons_zero, List.getElem_cons_succ, List.setIfInBounds_toArray, List.set_cons_zero, List.set_cons_succ]
      refine wpAnyH_take (i := 3) (v := ?_) rfl (by kernel_rfl) (by kernel_rfl) (by kernel_rfl) (fun _ _ _ h => h) (Or.inl ⟨by rfl, ?_⟩) (by assumption) ?_
      rotate_left
      · intro w hSw; (try dsimp only at hSw); go_simp <;> with_reducible rfl
      try simp only [Act.put, List.getElem_toArray, List.getElem_cons_zero, List.getElem_cons_succ, List.setIfInBounds_toArray, List.set_cons_zero, List.set_cons_succ]
      refine wpAnyH_take (i := 4) (v := ?_) rfl (by kernel_rfl) (by kernel_rfl) (by kernel_rfl) (fun _ _ _ h => h) (Or.inl ⟨by rfl, ?_⟩) (by assumption) ?_
      rotate_left
      · intro w hSw; (try dsimp only at hSw); go_simp <;> with_reducible rfl
      try simp only [Act.put, List.getElem_toArray, List.getElem_cons_zero, List.getElem_cons_succ, List.setIfInBounds_toArray, List.set_cons_zero, List.set_cons_succ]
      refine wpAnyH_take (i := 5) (v := ?_) rfl (by kernel_rfl) (by kernel_rfl) (by kernel_rfl) (fun _ _ _ h => h) (Or.inl ⟨by rfl, ?_⟩) (by assumption) ?_
      rotate_left
      · intro w hSw; (try dsimp only at hSw); go_simp <;> with_reducible rfl
      try simp only [Act.put, List.getElem_toArray, List.getElem_cons_zero, List.getElem_cons_succ, List.setIfInBounds_toArray, List.set_cons_zero, List.set_cons_succ]
      refine wpAnyH_take (i := 6) (v := ?_) rfl (by kernel_rfl) (by kernel_rfl) (by kernel_rfl) (fun _ _ _ h => h) (Or.inl ⟨by rfl, ?_⟩) (by assumption) ?_
      rotate_left
      · intro w hSw; (try dsimp only at hSw); go_simp <;> with_reducible rfl
      try simp only [Act.put, List.getElem_toArray, List.getElem_cons_zero, List.getElem_cons_succ, List.setIfInBounds_toArray, List.set_cons_zero, List.set_cons_succ]
      refine wpAnyH_ready (rs := [7]) (by kernel_rfl) (by simp) ?_
      refine AllReadyH.cons rfl (fun K hK => ?_) AllReadyH.nil
      go_simp
      refine (hfound _ 0 (hkW2.drew) (by omega) (by omega)).mono ?_
      rintro e w3 ⟨b3, v3, rfl, hf3, hk3, hnew3⟩
      have hk3' : Kp [] W w3 := ((Kp.refl [] _).drew).trans hk3 (by simp)
      (try go_wp2_with fail)
      refine hK.out _ _ ?_ (fun hHeld => ?_)
      · exact ⟨cell_kp hk3 hHeld.1, cell_kp hk3 hHeld.2⟩
      clear hK K
      try simp only [Act.put, List.getElem_toArray, List.getElem_cons_zero, List.getElem_cons_succ, List.setIfInBounds_toArray, List.set_cons_zero, List.set_cons_succ]
      refine wpAnyH_ready (rs := [8]) (by kernel_rfl) (by simp) ?_
      refine AllReadyH.cons rfl (fun K hK => ?_) AllReadyH.nil
      go_simp
      obtain ⟨w5, hrun5, hpost5, hS5⟩ := hmap _ _ w3 b3 v3 Hkk.out kW hKI hk3' hf3 hnew3
      rw [hrun5]
      (try go_wp2_with fail)
      refine hK.out _ _ ?_ (fun hHeld => ?_)
      · exact hS5
      clear hK K
      try simp only [Act.put, List.getElem_toArray, List.getElem_cons_zero, List.getElem_cons_succ, List.setIfInBounds_toArray, List.set_cons_zero, List.set_cons_succ]
      refine wpAnyH_done (by kernel_rfl) ?_ _
      gi_wp2_with fail
      exact hpost5
  case done =>
    rintro D' ⟨sq, i⟩ W hD' ⟨hsq, hS⟩ ⟨⟨ys, h1, h2, h3, h4, h5⟩, ⟨a, c, g1, g2, g3, g4, g6, g5⟩⟩ hK
    simp only at hS h1
    have e1 : takeD d i = d := by
      subst hS
      have : d.files.take xs.length = d.files := List.take_of_length_le (by rw [hD.fl]; simp)
      simp only [takeD, this]
    rw [e1] at h1
    have hkD : Kp [D'] W (W.putObj D' (.deferred none)) := ⟨rfl, rfl, rfl, by simp, fun k hk hn => World.putObj_heap_other (by simpa using hn)⟩
    have kD := h2.trans hkD (fun x hx => .inr (by simp at hx; omega))
    have hfin := h1.stands hkD (fun r hr => by rw [List.mem_singleton] at hr; subst hr; exact ⟨_, hK, rfl⟩) (by simp; omega)
    clear h1
    gi_wp2_with fail
    refine ⟨by simp, .inl ⟨_, _, rfl, run_takeDeferred hK, ?_⟩⟩
    exact ⟨_, results_tmp rfl _ _ _, _, _, ys, rfl, hfin, kD, fun k hk => by have := h4 k hk; omega⟩
  case stop =>
    rintro D' c s W _ _ h _
    exact h.elim
end Go.Proofs.Ytgllkonbgigcbaa
end

section
namespace Go.Proofs.Ytgllkonbgigcbaa
open Go.RowKit Go.Hay
set_option linter.unusedVariables false
set_option linter.unusedSimpArgs false

/-- A file of the reference's: its fields, and the bytes that its slice sees. -/
structure RF where
  name : List UInt8
  ba : Option Addr
  bc : Nat
  bytes : List UInt8
  last : Nat
def RF.fl (f : RF) : Fl := ⟨f.name, f.bytes, f.last⟩
def RF.c (f : RF) : List Value := [.string ⟨f.name.toArray⟩, .slice f.ba f.bytes.length f.bc, .int .i64 (f.last : Int)]
def RF.v (f : RF) : Value := .agg #[.string ⟨f.name.toArray⟩, .slice f.ba f.bytes.length f.bc, .int .i64 (f.last : Int)]
def fcells (l : List RF) : List Value := l.flatMap RF.c
theorem fcells_length (l : List RF) : (fcells l).length = l.length * 3 := by
  induction l with
  | nil => rfl
  | cons x l ih => simp only [fcells, List.flatMap_cons, List.length_append, List.length_cons, RF.c, List.length_nil] at ih ⊢; omega
theorem fcells_append (a b : List RF) : fcells (a ++ b) = fcells a ++ fcells b := by simp [fcells]
theorem fcells_one (l : List RF) : ∀ u ∈ fcells l, u.oneCell' = true := by
  intro u hu
  obtain ⟨x, _, hx⟩ := List.mem_flatMap.1 hu
  simp [RF.c] at hx
  rcases hx with rfl | rfl | rfl <;> rfl
theorem fcells_cons (x : RF) (l : List RF) : fcells (x :: l) = RF.c x ++ fcells l := rfl
theorem fcells_at (l : List RF) : ∀ (j : Nat) (x : RF), l[j]? = some x → (fcells l)[j * 3]? = some (.string ⟨x.name.toArray⟩) ∧ (fcells l)[j * 3 + 1]? = some (.slice x.ba x.bytes.length x.bc) ∧ (fcells l)[j * 3 + 2]? = some (.int .i64 (x.last : Int)) := by
  induction l with
  | nil => intro j x h; simp at h
  | cons y l ih =>
    intro j x h
    cases j with
    | zero => cases h; exact ⟨rfl, rfl, rfl⟩
    | succ j =>
      have := ih j x (by simpa using h)
      rw [fcells_cons, show (j + 1) * 3 = j * 3 + 3 by omega]
      simpa [RF.c] using this
/-- A slice of such files. -/
def Fls (w : World) (a : Option Addr) (l : List RF) : Prop :=
  l = [] ∨ ∃ g o, a = some ⟨g, o, none⟩ ∧ ∀ j x, l[j]? = some x → w.cell? ⟨g, o + j * 3, none⟩ = some (.string ⟨x.name.toArray⟩) ∧ w.cell? ⟨g, o + j * 3 + 1, none⟩ = some (.slice x.ba x.bytes.length x.bc) ∧ w.cell? ⟨g, o + j * 3 + 2, none⟩ = some (.int .i64 (x.last : Int))
theorem Fls.kept {w w' : World} {a : Option Addr} {l : List RF} {S : List Nat} (h : Fls w a l) (hk : Kp S w w') (hn : ∀ k ∈ blk a, k ∉ S) : Fls w' a l := by
  rcases h with rfl | ⟨g, o, rfl, hc⟩
  · exact .inl rfl
  · refine .inr ⟨g, o, rfl, fun j x hx => ?_⟩
    obtain ⟨c0, c1, c2⟩ := hc j x hx
    have hg : g < w.heap.size := World.block_lt_of_cell? _ _ c0
    have hS : g ∉ S := hn g (by simp [blk])
    exact ⟨(hk.cell (p := ⟨g, _, none⟩) hg hS).trans c0, (hk.cell (p := ⟨g, _, none⟩) hg hS).trans c1, (hk.cell (p := ⟨g, _, none⟩) hg hS).trans c2⟩
theorem Fls.at {w : World} {a : Option Addr} {l : List RF} (h : Fls w a l) {j : Nat} {x : RF} (hx : l[j]? = some x) : ∃ g o, a = some ⟨g, o, none⟩ ∧ w.cell? ⟨g, o + j * 3, none⟩ = some (.string ⟨x.name.toArray⟩) ∧ w.cell? ⟨g, o + j * 3 + 1, none⟩ = some (.slice x.ba x.bytes.length x.bc) ∧ w.cell? ⟨g, o + j * 3 + 2, none⟩ = some (.int .i64 (x.last : Int)) := by
  rcases h with rfl | ⟨g, o, rfl, hc⟩
  · simp at hx
  · obtain ⟨c0, c1, c2⟩ := hc j x hx
    exact ⟨g, o, rfl, c0, c1, c2⟩
theorem fcells_src (l : List RF) (w : World) (g o : Nat) (hc : ∀ j x, l[j]? = some x → w.cell? ⟨g, o + j * 3, none⟩ = some (.string ⟨x.name.toArray⟩) ∧ w.cell? ⟨g, o + j * 3 + 1, none⟩ = some (.slice x.ba x.bytes.length x.bc) ∧ w.cell? ⟨g, o + j * 3 + 2, none⟩ = some (.int .i64 (x.last : Int))) (j : Nat) (u : Value) (h : (fcells l)[j]? = some u) : w.cell? ⟨g, o + j, none⟩ = some u := by
  have hj : j < (fcells l).length := (List.getElem?_eq_some_iff.1 h).1
  rw [fcells_length] at hj
  have hq : j / 3 < l.length := by omega
  obtain ⟨e0, e1, e2⟩ := fcells_at l (j / 3) l[j / 3] (by simp)
  obtain ⟨c0, c1, c2⟩ := hc (j / 3) l[j / 3] (by simp)
  rcases (by omega : j % 3 = 0 ∨ j % 3 = 1 ∨ j % 3 = 2) with h4 | h4 | h4
  · rw [show j = j / 3 * 3 by omega] at h ⊢; rw [e0] at h; cases h; exact c0
  · rw [show j = j / 3 * 3 + 1 by omega] at h ⊢; rw [e1] at h; cases h; exact c1
  · rw [show j = j / 3 * 3 + 2 by omega] at h ⊢; rw [e2] at h; cases h; exact c2

/-- A row of files of the call's own. -/
def RowF (n0 : Nat) (w : World) (v : Value) (l : List RF) : Prop := w.ownsRow n0 45 3 v l.length (fcells l)
theorem RowF.nil (n0 : Nat) (w : World) : RowF n0 w (.slice none 0 0) [] := ⟨rfl, .inl ⟨rfl, rfl⟩⟩
theorem RowF.fls {n0 : Nat} {w : World} {v : Value} {l : List RF} (h : RowF n0 w v l) : ∃ a c, v = .slice a l.length c ∧ Fls w a l ∧ l.length ≤ c ∧ c ≤ maxLen ∧ ∀ k ∈ blk a, n0 ≤ k := by
  obtain ⟨_, ⟨rfl, h0⟩ | ⟨g, cap, cur, rfl, hb, hg, hl, hm, hsz, ht⟩⟩ := h
  · obtain rfl : l = [] := List.length_eq_zero_iff.1 h0
    exact ⟨none, 0, rfl, .inl rfl, Nat.le_refl _, Nat.zero_le _, by simp [blk]⟩
  · refine ⟨some ⟨g, 0, none⟩, cap, rfl, .inr ⟨g, 0, rfl, fun j x hx => ?_⟩, hl, hm, by intro k hk; simp [blk] at hk; omega⟩
    have cell : ∀ i u, (fcells l)[i]? = some u → w.cell? ⟨g, 0 + i, none⟩ = some u := fun i u hu => by
      rw [← ht, List.getElem?_take] at hu
      split at hu
      · rw [Nat.zero_add, World.cell?, hg]; simpa using hu
      · cases hu
    obtain ⟨e0, e1, e2⟩ := fcells_at l j x hx
    exact ⟨cell _ _ e0, by rw [Nat.add_assoc]; exact cell _ _ e1, by rw [Nat.add_assoc]; exact cell _ _ e2⟩
theorem RowF.kept {n0 : Nat} {w w' : World} {v : Value} {l : List RF} (h : RowF n0 w v l) (hk : Kp [] w w') : RowF n0 w' v l := by
  obtain ⟨h1, h2 | ⟨g, cap, cur, h3, hb, hg, h4⟩⟩ := h
  · exact ⟨h1, .inl h2⟩
  · refine ⟨h1, .inr ⟨g, cap, cur, h3, hb, ?_, h4⟩⟩
    rw [hk.block g (Array.getElem?_eq_some_iff.1 hg).1 (by simp)]
    exact hg
theorem infoF : ∃ i : TypeInfo, Try.prog.info? 45 = some i ∧ i.zero = some (.agg #[.string ⟨#[]⟩, .slice none 0 0, .int .i64 0]) ∧ i.size = 3 ∧ i.bytes = 48 := info3 (by kernel_rfl)
theorem kpGrown {w0 w w' : World} {row : Option Nat} (h : Kp [] w0 w) (hg : w.grownBy w' row) (hr : ∀ k, row = some k → w0.heap.size ≤ k) : Kp [] w0 w' := h.grown hg (fun k e => .inr (hr k e))
/-- One file more, for the walk. -/
theorem wpAppF {w : World} {ops : Array Oper} {rest : List Oper} {o : Oper} {a : Act} {Q : Exit → Act → World → Prop} (hgd : o.guard = none) (s x : Operand)
    (ho : o.op = .call { callee := .builtin .append, args := #[s, x], argTypes := #[26, 26] })
    (w0 : World) (v : Value) (l : List RF) (hs : a.eval s = v) (hown : RowF w0.heap.size w v l) (r : RF) (q : Nat) (hq : w.heap.size = q) (hx : a.eval x = .slice (some ⟨q, 0, none⟩) 1 1)
    (hb : l.length ≤ 1000000000000) (hk : Kp [] w0 w)
    (h : ∀ l' a' c' w', Hid (l' = l ++ [r]) → RowF w0.heap.size w' (.slice a' l'.length c') l' → Kp [] w0 w' → w.heap.size < w'.heap.size → (∀ k, k < w.heap.size → v.ownBlock ≠ some k → w'.heap[k]? = w.heap[k]?) → wpList Try.prog ops Q rest (a.put o.dst (.slice a' l'.length c')) w') :
    wpList Try.prog ops Q (o :: rest) a (w.alloc (.cells #[.string ⟨r.name.toArray⟩, .slice r.ba r.bytes.length r.bc, .int .i64 (r.last : Int)] 45)) := by
  obtain ⟨i, hi, hz, hz1, hz2⟩ := infoF
  subst hq
  have hk1 : Kp [] w (w.alloc (.cells #[.string ⟨r.name.toArray⟩, .slice r.ba r.bytes.length r.bc, .int .i64 (r.last : Int)] 45)) := (Kp.refl _ _).alloc _
  have hown1 := hown.kept hk1
  refine wpList_append_own_wide _ hgd s x 26 ho w0.heap.size 45 i _ 3 48 Try.underlying26 hi hz hz1 hz2 rfl (by omega) v l.length (fcells l) hs hown1 ⟨w.heap.size, 0, none⟩ 1 1 (RF.c r) hx rfl ?_ (by intro u hu; simp [RF.c] at hu; rcases hu with rfl | rfl | rfl <;> rfl) (by unfold maxLen; omega) (by omega) (by have := hk.size; simp; omega) ?_
  · intro j u hu
    rw [Addr.add_lit, Nat.zero_add]
    match j, hu with
    | 0, hu => cases hu; exact World.cell?_alloc_new w _ _ 0
    | 1, hu => cases hu; exact World.cell?_alloc_new w _ _ 1
    | 2, hu => cases hu; exact World.cell?_alloc_new w _ _ 2
    | j + 3, hu => simp [RF.c] at hu
  · intro v' w' h2 h3 _
    have h2' : RowF w0.heap.size w' v' (l ++ [r]) := by
      unfold RowF
      rw [List.length_append, fcells_append]
      have : fcells [r] = RF.c r := by simp [fcells]
      rw [this]
      exact h2
    obtain ⟨a', c', rfl, _⟩ := RowF.fls h2'
    have hob : ∀ k, v.ownBlock = some k → w0.heap.size ≤ k := by
      obtain ⟨_, ⟨rfl, _⟩ | ⟨g, cap, cur, rfl, hb', _⟩⟩ := hown
      · intro k hk; cases hk
      · intro k hk; cases hk; exact hb'
    refine h (l ++ [r]) a' c' w' rfl h2' (kpGrown (hk.alloc _) h3 hob) ?_ (fun k hk' hne => ?_)
    · have := h3.size; simp at this; omega
    · exact (h3.block k (by simp; omega) (Ne.symm hne)).trans (Below.heap_alloc _ _ k hk')
end Go.Proofs.Ytgllkonbgigcbaa
end

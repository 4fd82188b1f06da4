/- Clone. -/
import Derived.Test.YtgllkonbgigcbaaDcra
namespace Go.Proofs.Ytgllkonbgigcbaa
open Go.RowKit Go.Hay Go.Maps Go.Sort Go.Shelf
attribute [local go_sem] Oper.semAt_some
set_option linter.unusedVariables false
set_option linter.unusedSimpArgs false

def DiskP (d : Dk) (w : World) (e : Ending) (w' : World) : Prop := ∃ p mb xs, e = .returned (.pointer (some ⟨p, 0, none⟩)) ∧ Disk w' p mb xs d ∧ Kp [] w w' ∧ ∀ k ∈ foot p mb xs, w.heap.size ≤ k
theorem cell_kp {W W' : World} {a : Addr} {v : Value} (hk : Kp [] W W') (hc : W.cell? a = some v) : W'.cell? a = some v := (hk.cell (World.block_lt_of_cell? _ _ hc) (by simp)).trans hc
def takeD (d : Dk) (i : Nat) : Dk := { d with files := d.files.take i }
theorem takeD_succ {xs : List Ent} {d : Dk} (hfl : d.files = xs.map Ent.fl) {i : Nat} {x : Ent} (hx : xs[i]? = some x) : takeD d (i + 1) = { takeD d i with files := (takeD d i).files ++ [x.fl] } := by
  simp only [takeD]
  congr 1
  rw [List.take_add_one, hfl]
  simp [hx]
theorem before_take {xs : List Ent} {d : Dk} (hfl : d.files = xs.map Ent.fl) (hr : riseG Ent.name xs) {i : Nat} {x : Ent} (hx : xs[i]? = some x) : ∀ f ∈ (takeD d i).files, bytesBefore f.name x.name = true := fun f hf => by
  simp only [takeD, hfl] at hf
  rw [← List.map_take] at hf
  obtain ⟨y, hy, rfl⟩ := List.mem_map.1 hf
  obtain ⟨j, hj, rfl⟩ := List.mem_take_iff_getElem.1 hy
  obtain ⟨hi, rfl⟩ := List.getElem?_eq_some_iff.1 hx
  exact List.pairwise_iff_getElem.1 hr j i (by omega) hi (by omega)

set_option maxHeartbeats 16000000 in
set_option maxRecDepth 100000 in
theorem cClone {w : World} {p mb : Nat} {xs : List Ent} {d : Dk} (hD : Disk w p mb xs d) (hB : Small d) (hN : xs.length ≤ 1000000000000) : Calls Try.prog 23 #[.pointer (some ⟨p, 0, none⟩)] w (DiskP d w) := by
  have hplt := hD.hd.lt
  have hmlt := hD.map.lt
  have c0 := hD.hd.c0
  have c1 := hD.hd.c1
  have c2 := hD.hd.c2
  have c3 := hD.hd.c3
  have c4 := hD.hd.c4
  refine (callsIn_wide (n := 4)).1 ?_
  refine callsIn_of_wp_marks Try.func23 rfl trivial ?_ rfl
  simp only [Try.ntmps23, List.size_toArray, List.length_cons, List.length_nil, Nat.reduceAdd, Nat.reduceSub, Array.replicate_succ, Array.replicate_zero, List.push_toArray, List.append_toArray, List.nil_append, List.cons_append]
  have hlen := (hD.keptNew ((Kp.refl [] w).alloc (.cells #[.int .i64 (d.room : Int), .map (some mb), .int .i64 (d.steps : Int), .int .i64 (leftOf d), .bool d.dead] 65))).map.len Try.underlying63 3
  rw [dat_size] at hlen
  have hmk := run_makeMapN
  gi_wp2_with fail
  refine ⟨trivial, (callsIn_wide.2 (cRising _ _)).mono ?_⟩
  rintro e w' ⟨rfl, rfl⟩
  obtain ⟨w0, hw0⟩ : ∃ w0, w0 = (w.alloc (.cells #[.int .i64 (d.room : Int), .map (some (w.heap.size + 1)), .int .i64 (d.steps : Int), .int .i64 (leftOf d), .bool d.dead] 65)).alloc (.map #[] 0) := ⟨_, rfl⟩
  have hs0 : w0.heap.size = w.heap.size + 2 := by rw [hw0]; simp
  have hD0 : Disk w0 w.heap.size (w.heap.size + 1) [] (takeD d 0) := by
    rw [hw0]
    have k : Kp [] (w.alloc (.cells #[.int .i64 (d.room : Int), .map (some (w.heap.size + 1)), .int .i64 (d.steps : Int), .int .i64 (leftOf d), .bool d.dead] 65)) ((w.alloc (.cells #[.int .i64 (d.room : Int), .map (some (w.heap.size + 1)), .int .i64 (d.steps : Int), .int .i64 (leftOf d), .bool d.dead] 65)).alloc (.map #[] 0)) := (Kp.refl _ _).alloc _
    have m : OwnsM ((w.alloc (.cells #[.int .i64 (d.room : Int), .map (some (w.heap.size + 1)), .int .i64 (d.steps : Int), .int .i64 (leftOf d), .bool d.dead] 65)).alloc (.map #[] 0)) (w.heap.size + 1) [] := by
      have := World.ownsMap_made (w.alloc (.cells #[.int .i64 (d.room : Int), .map (some (w.heap.size + 1)), .int .i64 (d.steps : Int), .int .i64 (leftOf d), .bool d.dead] 65)) Try.prog 9 ptrR
      rwa [World.size_alloc] at this
    exact ⟨(Hd.at w.heap.size rfl _).kept k (by simp), m, by simp, List.Pairwise.nil, by omega, by simp, by simp, by simp [takeD], okTake hD.ok 0⟩
  have k0 : Kp [] w w0 := by rw [hw0]; exact ((Kp.refl _ _).alloc _).alloc _
  rw [← hw0]
  simp only [hs0]
  clear hw0 hlen hmk c0 c1 c2 c3 c4
  obtain ⟨w1, hw1⟩ : ∃ w1, w1 = w0.alloc (.cells #[.pointer (some ⟨p, 0, none⟩)] 23) := ⟨_, rfl⟩
  have k01 : Kp [] w0 w1 := by rw [hw1]; exact (Kp.refl _ _).alloc _
  have k1 : Kp [] w w1 := k0.trans k01 (by simp)
  have b1 : w1.cell? ⟨w.heap.size + 2, 0, none⟩ = some (.pointer (some ⟨p, 0, none⟩)) := by
    rw [hw1]
    have := World.cell?_alloc_new w0 #[.pointer (some ⟨p, 0, none⟩)] 23 0
    rwa [hs0] at this
  have hs1a : w.heap.size + 3 ≤ w1.heap.size := by rw [hw1]; simp; omega
  have hs1b : w1.heap.size ≤ w.heap.size + 3 := by rw [hw1]; simp; omega
  rw [← hw1]
  have hD1 := hD.keptNew k1
  have hE1 := hD0.keptNew k01
  have hseq := risingSeq (4 - 1) (by omega) (w.heap.size + 2) p mb xs hD.rise (by omega) hD.names w1 ⟨b1, hD1.hd.c1, hD1.map⟩
  have hI0 : BuildI (takeD d) w.heap.size w1.heap.size w.heap.size (w.heap.size + 1) w ⟨none, 0⟩ w1 := ⟨[], hE1, k1, Nat.le_refl _, by intro k hk; simp [foot] at hk; omega, by simp⟩
  have hJs : ∀ j ∈ [w.heap.size + 2, p, mb], j < w1.heap.size := by intro j hj; simp at hj; omega
  clear hw1 hs0 k01 k0 hD0
  gi_wp2_with fail
  refine wpRangeS rfl (by omega) (gf := 47) (lb := #[.pointer (some ⟨w.heap.size + 2, 0, none⟩)]) rfl trivial (enters_of Try.func47 (by kernel_rfl) rfl)
    hseq (fun _ => rfl) KeepR.trans (fun s => KeepR.alloc _ s) (fun s W l o o' hl ho hc _ => KeepR.putObj hJs W l o o' hl ho hc) (KeepR.refl _ _ _) (fun s s' A B ht k o _ ho _ _ => stepRKeeps ht k o ho)
    (BuildI (takeD d) w.heap.size w1.heap.size w.heap.size (w.heap.size + 1) w) (fun _ _ _ => False) (buildOwn _ _ _ _ _ w (by omega) (by omega)) (fun _ _ _ _ _ h _ _ => h) (buildTurn _ _ _ _ _ w) hI0
    (fun x => { tmps := #[.pointer (some ⟨p, 0, none⟩), undef, .pointer none, .pointer (some ⟨w.heap.size, 0, none⟩), encStr x.name, .pointer (some ⟨x.blk, 0, none⟩), .pointer (some ⟨p, 0, none⟩), .pointer (some ⟨p, 0, none⟩), .agg #[.int .i64 (d.room : Int), .map (some mb), .int .i64 (d.steps : Int), .int .i64 (leftOf d), .bool d.dead], .pointer (some ⟨p, 0, none⟩), .pointer (some ⟨p, 0, none⟩), .pointer (some ⟨p, 1, none⟩), .map (some mb), .int .i64 (xs.length : Int), .map (some (w.heap.size + 1)), .pointer (some ⟨w.heap.size, 1, none⟩), .pointer (some ⟨p, 0, none⟩), .func (.func 47) #[] #[.pointer (some ⟨w.heap.size + 2, 0, none⟩)], encStr x.name, .pointer (some ⟨x.blk, 0, none⟩), undef, undef, undef, undef, undef, undef, undef, undef, undef, undef, undef, undef, undef, undef], defers := [] }) ?assign ?body ?done ?stop
  case assign =>
    intro l x W C hC
    gi_wp2_with fail
    exact hC
  case body =>
    rintro l ⟨sq, i⟩ x W ⟨ys, h1, h2, h3, h4, h5⟩ ⟨hsq, hx⟩
    simp only at hsq hx h1 h5
    have hxm : x ∈ xs := List.mem_of_getElem? hx
    have hDW := hD.keptNew h2
    have hf := hDW.files x hxm
    have hbl := hB x.fl (by rw [hD.fl]; exact List.mem_map_of_mem hxm)
    simp only [Ent.fl] at hbl
    obtain ⟨a, c, ev, hsee, hnil, hcap⟩ := Row.parts hf.row
    have c0 := hf.box.c0
    have c1' := hf.box.c1
    rw [ev] at c0
    have cf1 := h1.hd.c1
    have hc : ∀ W', Sees W' a x.bytes → Calls Try.prog 30 #[.slice a x.bytes.length c] W' (CloneP x.bytes W') := fun W' hs => cCloneB a c x.bytes W' hs hnil hbl
    have hseeD : Sees W.drew a x.bytes := hsee
    have hSk : ∀ A B, Kp [] A B → (A.cell? ⟨w.heap.size, 1, none⟩ = some (.map (some (w.heap.size + 1))) ∧ A.cell? ⟨x.blk, 0, none⟩ = some (.slice a x.bytes.length c) ∧ A.cell? ⟨x.blk, 1, none⟩ = some (.int .i64 (x.last : Int))) → (B.cell? ⟨w.heap.size, 1, none⟩ = some (.map (some (w.heap.size + 1))) ∧ B.cell? ⟨x.blk, 0, none⟩ = some (.slice a x.bytes.length c) ∧ B.cell? ⟨x.blk, 1, none⟩ = some (.int .i64 (x.last : Int))) :=
      fun A B hk h => ⟨cell_kp hk h.1, cell_kp hk h.2.1, cell_kp hk h.2.2⟩
    have hysl : ys.length = i := by
      have := congrArg List.length h1.fl
      have hil : i < xs.length := (List.getElem?_eq_some_iff.1 hx).1
      simp only [takeD, hD.fl, List.length_map, List.length_take] at this
      omega
    have hil : i < xs.length := (List.getElem?_eq_some_iff.1 hx).1
    have hxblt : x.blk < w.heap.size := (hD.files x hxm).box.lt
    have hmap : ∀ w3 a3 c3, Row w3 (.slice a3 x.bytes.length c3) x.bytes → Kp [] W.drew w3 → (∀ k ∈ blk a3, W.drew.heap.size ≤ k) →
        ∃ w5, (Instr.mapUpdate 63 (.map (some (w.heap.size + 1))) (.string ⟨x.name.toArray⟩) (.pointer (some ⟨w3.heap.size, 0, none⟩))).run Try.prog (w3.alloc (.cells #[.slice a3 x.bytes.length c3, .int .i64 (x.last : Int)] 74)) = .ok () w5 ∧
          leftS w1.heap.size (KeepR [w.heap.size + 2, p, mb]) (BuildI (takeD d) w.heap.size w1.heap.size w.heap.size (w.heap.size + 1) w) (fun _ _ _ => False) ⟨sq, i⟩ (Sr.nx ⟨sq, i⟩ x) W .normal { tmps := #[], defers := [] } w5 ∧
          (w5.cell? ⟨w.heap.size, 1, none⟩ = some (.map (some (w.heap.size + 1))) ∧ w5.cell? ⟨x.blk, 0, none⟩ = some (.slice a x.bytes.length c) ∧ w5.cell? ⟨x.blk, 1, none⟩ = some (.int .i64 (x.last : Int))) := fun w3 a3 c3 hr3 hk3 hn3 => by
      have k3 : Kp [] W w3 := ((Kp.refl [] W).drew).trans hk3 (by simp)
      have k4 : Kp [] w3 (w3.alloc (.cells #[.slice a3 x.bytes.length c3, .int .i64 (x.last : Int)] 74)) := (Kp.refl _ _).alloc _
      have hm4 : OwnsM (w3.alloc (.cells #[.slice a3 x.bytes.length c3, .int .i64 (x.last : Int)] 74)) (w.heap.size + 1) ys := (h1.map.kept k3 (by simp)).kept k4 (by simp)
      obtain ⟨w5, hrun, hown5, k5⟩ := storeF hm4 h1.rise (by unfold maxLen; omega) ⟨x.name, w3.heap.size, .slice a3 x.bytes.length c3, x.bytes, x.last⟩ (hD.names x hxm)
      have hfe : FileAt (w3.alloc (.cells #[.slice a3 x.bytes.length c3, .int .i64 (x.last : Int)] 74)) ⟨x.name, w3.heap.size, .slice a3 x.bytes.length c3, x.bytes, x.last⟩ := ⟨Fx.at _ rfl _, hr3.kept k4 (by simp), fun hm => Nat.lt_irrefl _ (hr3.lt _ hm)⟩
      have hnewe : ∀ k ∈ (⟨x.name, w3.heap.size, .slice a3 x.bytes.length c3, x.bytes, x.last⟩ : Ent).foot, W.heap.size ≤ k := fun k hk => by
        simp only [Ent.foot, own_slice] at hk
        rcases List.mem_cons.1 hk with rfl | hk
        · exact k3.size
        · exact hn3 k hk
      obtain ⟨hD5, mv5⟩ := h1.snoc (d' := takeD d (i + 1)) ⟨x.name, w3.heap.size, .slice a3 x.bytes.length c3, x.bytes, x.last⟩ (k3.trans k4 (by simp)) hfe hnewe k5 hown5 (before_take (x := x) hD.fl hD.rise hx) (takeD_succ (x := x) hD.fl hx) (okTake hD.ok _)
      have kA : Kp [w.heap.size + 1] W w5 := ((k3.trans k4 (by simp)).mono (T := [w.heap.size + 1]) (by simp)).trans k5 (fun _ h => .inl h)
      have hfootmf : w.heap.size + 1 ∈ foot w.heap.size (w.heap.size + 1) ys := mem_foot.2 (.inr (.inl rfl))
      refine ⟨w5, hrun, ⟨⟨kA.size, fun k o hk ho _ => (kA.block k (Array.getElem?_eq_some_iff.1 ho).1 (by simp; omega)).trans ho⟩, KeepR.ofKp kA (fun j hj => ?_) (fun q hq => ?_), _, hD5, h2.trans kA (fun k hk => .inr (by simp at hk; omega)), Nat.le_trans h3 kA.size, fun k hk => ?_, fun q hq => ?_⟩, ?_, ?_, ?_⟩
      · simp at hj ⊢; omega
      · have := h5 q hq; simp; omega
      · rcases mv5.new k hk with h | h
        · exact h4 k h
        · have := h2.size; omega
      · have h6 := h5 q hq
        refine ⟨h6.1, Nat.lt_of_lt_of_le h6.2.1 kA.size, fun hm => ?_⟩
        rcases mv5.new q hm with h | h
        · exact h6.2.2 h
        · omega
      · exact (kA.cell (p := ⟨w.heap.size, 1, none⟩) h1.hd.lt (by simp)).trans cf1
      · exact (kA.cell (p := ⟨x.blk, 0, none⟩) hf.box.lt (by simp; omega)).trans c0
      · exact (kA.cell (p := ⟨x.blk, 1, none⟩) hf.box.lt (by simp; omega)).trans c1'
    clear hnil hsee ev hf hDW hx h5 h4 hysl hil
    gi_wp2_with fail
    refine region_round (fun W' => W'.cell? ⟨w.heap.size, 1, none⟩ = some (.map (some (w.heap.size + 1))) ∧ W'.cell? ⟨x.blk, 0, none⟩ = some (.slice a x.bytes.length c) ∧ W'.cell? ⟨x.blk, 1, none⟩ = some (.int .i64 (x.last : Int))) (by kernel_rfl) (by kernel_rfl) (by rintro ⟨_, _, hlo⟩; exact hlo) ?_ (fun hHeld => ?_)
    · exact ⟨cf1, c0, c1'⟩
    refine wpAnyH_take (i := 0) (v := ?_) rfl (by kernel_rfl) (by kernel_rfl) (by kernel_rfl) (fun _ _ _ h => h) (Or.inl ⟨by rfl, ?_⟩) (by assumption) ?_
    rotate_left
    · intro w hSw; (try dsimp only at hSw); go_simp <;> with_reducible rfl
    try simp only [Act.put, List.getElem_toArray, List.getElem_cons_zero, List.getElem_cons_succ, List.setIfInBounds_toArray, List.set_cons_zero, List.set_cons_succ]
    refine wpAnyH_take (i := 1) (v := ?_) rfl (by kernel_rfl) (by kernel_rfl) (by kernel_rfl) (fun _ _ _ h => h) (Or.inl ⟨by rfl, ?_⟩) (by assumption) ?_
    rotate_left
    · intro w hSw; (try dsimp only at hSw); go_simp <;> with_reducible rfl
    try simp only [Act.put, List.getElem_toArray, List.getElem_cons_zero, List.getElem_cons_succ, List.setIfInBounds_toArray, List.set_cons_zero, List.set_cons_succ]
    refine wpAnyH_take (i := 2) (v := ?_) rfl (by kernel_rfl) (by kernel_rfl) (by kernel_rfl) (fun _ _ _ h => h) (Or.inl ⟨by rfl, ?_⟩) (by assumption) ?_
    rotate_left
    · intro w hSw; (try dsimp only at hSw); go_simp <;> with_reducible rfl
    try simp only [Act.put, List.getElem_toArray, List.getElem_cons_zero, List.getElem_cons_succ, List.setIfInBounds_toArray, List.set_cons_zero, List.set_cons_succ]
    refine wpAnyH_take (i := 3) (v := ?_) rfl (by kernel_rfl) (by kernel_rfl) (by kernel_rfl) (fun _ _ _ h => h) (Or.inl ⟨by rfl, ?_⟩) (by assumption) ?_
    rotate_left
    · intro w hSw; (try dsimp only at hSw); go_simp <;> with_reducible rfl
    try simp only [Act.put, List.getElem_toArray, List.getElem_cons_zero, List.getElem_cons_succ, List.setIfInBounds_toArray, List.set_cons_zero, List.set_cons_succ]
    refine wpAnyH_take (i := 4) (v := ?_) rfl (by kernel_rfl) (by kernel_rfl) (by kernel_rfl) (fun _ _ _ h => h) (Or.inl ⟨by rfl, ?_⟩) (by assumption) ?_
    rotate_left
    · intro w hSw; (try dsimp only at hSw); go_simp <;> with_reducible rfl
    try simp only [Act.put, List.getElem_toArray, List.getElem_cons_zero, List.getElem_cons_succ, List.setIfInBounds_toArray, List.set_cons_zero, List.set_cons_succ]
    refine wpAnyH_take (i := 5) (v := ?_) rfl (by kernel_rfl) (by kernel_rfl) (by kernel_rfl) (fun _ _ _ h => h) (Or.inl ⟨by rfl, ?_⟩) (by assumption) ?_
    rotate_left
    · intro w hSw; (try dsimp only at hSw); go_simp <;> with_reducible rfl
    try simp only [Act.put, List.getElem_toArray, List.getElem_cons_zero, List.getElem_cons_succ, List.setIfInBounds_toArray, List.set_cons_zero, List.set_cons_succ]
    refine wpAnyH_take (i := 6) (v := ?_) rfl (by kernel_rfl) (by kernel_rfl) (by kernel_rfl) (fun _ _ _ h => h) (Or.inl ⟨by rfl, ?_⟩) (by assumption) ?_
    rotate_left
    · intro w hSw; (try dsimp only at hSw); go_simp <;> with_reducible rfl
    try simp only [Act.put, List.getElem_toArray, List.getElem_cons_zero, List.getElem_cons_succ, List.setIfInBounds_toArray, List.set_cons_zero, List.set_cons_succ]
    refine wpAnyH_take (i := 8) (v := ?_) rfl (by kernel_rfl) (by kernel_rfl) (by kernel_rfl) (fun _ _ _ h => h) (Or.inl ⟨by rfl, ?_⟩) (by assumption) ?_
    rotate_left
    · intro w hSw; (try dsimp only at hSw); go_simp <;> with_reducible rfl
    try simp only [Act.put, List.getElem_toArray, List.getElem_cons_zero, List.getElem_cons_succ, List.setIfInBounds_toArray, List.set_cons_zero, List.set_cons_succ]
    refine wpAnyH_take (i := 9) (v := ?_) rfl (by kernel_rfl) (by kernel_rfl) (by kernel_rfl) (fun _ _ _ h => h) (Or.inl ⟨by rfl, ?_⟩) (by assumption) ?_
    rotate_left
    · intro w hSw; (try dsimp only at hSw); go_simp <;> with_reducible rfl
    try simp only [Act.put, List.getElem_toArray, List.getElem_cons_zero, List.getElem_cons_succ, List.setIfInBounds_toArray, List.set_cons_zero, List.set_cons_succ]
    refine wpAnyH_take (i := 10) (v := ?_) rfl (by kernel_rfl) (by kernel_rfl) (by kernel_rfl) (fun _ _ _ h => h) (Or.inl ⟨by rfl, ?_⟩) (by assumption) ?_
    rotate_left
    · intro w hSw; (try dsimp only at hSw); go_simp <;> with_reducible rfl
    try simp only [Act.put, List.getElem_toArray, List.getElem_cons_zero, List.getElem_cons_succ, List.setIfInBounds_toArray, List.set_cons_zero, List.set_cons_succ]
    refine wpAnyH_take (i := 11) (v := ?_) rfl (by kernel_rfl) (by kernel_rfl) (by kernel_rfl) (fun _ _ _ h => h) (Or.inl ⟨by rfl, ?_⟩) (by assumption) ?_
    rotate_left
    · intro w hSw; (try dsimp only at hSw); go_simp <;> with_reducible rfl
    try simp only [Act.put, List.getElem_toArray, List.getElem_cons_zero, List.getElem_cons_succ, List.setIfInBounds_toArray, List.set_cons_zero, List.set_cons_succ]
    refine wpAnyH_ready (rs := [7]) (by kernel_rfl) (by simp) ?_
    refine AllReadyH.cons rfl (fun K hK => ?_) AllReadyH.nil
    go_simp
    refine (hc _ hseeD).mono ?_
    rintro e w3 ⟨a3, c3, rfl, hr3, hk3, hnew3⟩
    (try go_wp2_with fail)
    refine hK.out _ _ ?_ (fun hHeld => ?_)
    · exact hSk _ _ hk3 hHeld
    clear hK K
    try simp only [Act.put, List.getElem_toArray, List.getElem_cons_zero, List.getElem_cons_succ, List.setIfInBounds_toArray, List.set_cons_zero, List.set_cons_succ]
    refine wpAnyH_take (i := 12) (v := ?_) rfl (by kernel_rfl) (by kernel_rfl) (by kernel_rfl) (fun _ _ _ h => h) (Or.inl ⟨by rfl, ?_⟩) (by assumption) ?_
    rotate_left
    · intro w hSw; (try dsimp only at hSw); go_simp <;> with_reducible rfl
    try simp only [Act.put, List.getElem_toArray, List.getElem_cons_zero, List.getElem_cons_succ, List.setIfInBounds_toArray, List.set_cons_zero, List.set_cons_succ]
    refine wpAnyH_ready (rs := [13]) (by kernel_rfl) (by simp) ?_
    refine AllReadyH.cons rfl (fun K hK => ?_) AllReadyH.nil
    go_simp
    (try go_wp2_with fail)
    refine hK.out _ _ ?_ (fun hHeld => ?_)
    · exact hSk _ _ ((Kp.refl [] w3).alloc _) hHeld
    clear hK K
    try simp only [Act.put, List.getElem_toArray, List.getElem_cons_zero, List.getElem_cons_succ, List.setIfInBounds_toArray, List.set_cons_zero, List.set_cons_succ]
    refine wpAnyH_ready (rs := [14]) (by kernel_rfl) (by simp) ?_
    refine AllReadyH.cons rfl (fun K hK => ?_) AllReadyH.nil
    go_simp
    obtain ⟨w5, hrun5, hpost5, hS5⟩ := hmap w3 a3 c3 hr3 hk3 hnew3
    rw [hrun5]
    (try go_wp2_with fail)
    refine hK.out _ _ ?_ (fun hHeld => ?_)
    · exact hS5
    clear hK K
    try simp only [Act.put, List.getElem_toArray, List.getElem_cons_zero, List.getElem_cons_succ, List.setIfInBounds_toArray, List.set_cons_zero, List.set_cons_succ]
    refine wpAnyH_done (by kernel_rfl) ?_ _
    gi_wp2_with fail
    exact hpost5
  case done =>
    rintro D' ⟨sq, i⟩ W hD' ⟨hsq, hS⟩ ⟨ys, h1, h2, h3, h4, h5⟩ hK
    simp only at hS h1
    have e1 : takeD d i = d := by
      subst hS
      have : d.files.take xs.length = d.files := List.take_of_length_le (by rw [hD.fl]; simp)
      simp only [takeD, this]
    rw [e1] at h1
    have hkD : Kp [D'] W (W.putObj D' (.deferred none)) := ⟨rfl, rfl, rfl, by simp, fun k hk hn => World.putObj_heap_other (by simpa using hn)⟩
    have kD := h2.trans hkD (fun x hx => .inr (by simp at hx; omega))
    have hfin := h1.stands hkD (fun r hr => by rw [List.mem_singleton] at hr; subst hr; exact ⟨_, hK, rfl⟩) (by simp; omega)
    clear h1
    gi_wp2_with fail
    refine ⟨by simp, .inl ⟨_, _, rfl, run_takeDeferred hK, ?_⟩⟩
    exact ⟨_, results_tmp rfl _ _ _, _, _, ys, rfl, hfin, kD, fun k hk => by have := h4 k hk; omega⟩
  case stop =>
    rintro D' c s W _ _ h _
    exact h.elim
end Go.Proofs.Ytgllkonbgigcbaa

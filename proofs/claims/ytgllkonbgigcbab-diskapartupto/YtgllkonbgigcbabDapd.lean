/- Append. -/
import Derived.Test.YtgllkonbgigcbabDfre
namespace Go.Proofs.Ytgllkonbgigcbab
open Go.RowKit Go.Hay Go.Maps
set_option linter.unusedVariables false
set_option linter.unusedSimpArgs false

theorem putG_twice {α : Type} {nm : α → List UInt8} (f g : α) (h : nm g = nm f) {l : List α} (hr : riseG nm l) : putG nm f false (putG nm g false l) = putG nm f false l := by
  rw [putG_ins f _ (riseG_put g hr), putG_ins f l hr, putG_ins g l hr, h]
  congr 1
  have : ∀ (m : List α), (∀ x ∈ m, nm x ≠ nm f) → dropG nm (nm f) (insG nm g m) = m := by
    intro m
    induction m with
    | nil => intro _; simp [insG, dropG, h]
    | cons y m ih =>
      intro hm
      have hy := hm y (by simp)
      unfold insG
      split
      · have e : dropG nm (nm f) (g :: y :: m) = dropG nm (nm f) (y :: m) := by simp [dropG, h]
        rw [e]
        exact dropG_all hm
      · have e : dropG nm (nm f) (y :: insG nm g m) = y :: dropG nm (nm f) (insG nm g m) := by simp [dropG, hy]
        rw [e, ih (fun x hx => hm x (by simp [hx]))]
  exact this _ (fun x hx => (mem_dropG.1 hx).2)

section
variable {w w1 : World} {p mb : Nat} {xs : List Ent} {d : Dk}
theorem Disk.appended (h : Disk w p mb xs d) {x : Ent} (hx : x ∈ xs) {v' : Value} {bs : List UInt8} (hr : Row w1 v' bs) (hg : Grew x.v w v' w1) (ok : Okd { d with files := putG Fl.name ⟨x.name, bs, x.last⟩ false d.files }) :
    w1.cell? ⟨x.blk, 0, none⟩ = some x.v ∧ w1.frozen? ⟨x.blk, 0, none⟩ = false ∧
    Disk (w1.setCell ⟨x.blk, 0, none⟩ v') p mb (putG Ent.name ⟨x.name, x.blk, v', bs, x.last⟩ false xs) { d with files := putG Fl.name ⟨x.name, bs, x.last⟩ false d.files } ∧ Mv (foot p mb xs) w (foot p mb (putG Ent.name ⟨x.name, x.blk, v', bs, x.last⟩ false xs)) (w1.setCell ⟨x.blk, 0, none⟩ v') := by
  have hf := h.files x hx
  have hb1 := hf.box.kept hg.kp hf.ap
  have hap : x.blk ∉ own v' := fun hm => by
    rcases hg.new _ hm with h1 | h1
    · exact hf.ap h1
    · have := hf.box.lt; omega
  have kS : Kp [x.blk] w1 (w1.setCell ⟨x.blk, 0, none⟩ v') := (Kp.refl _ _).setCell (p := ⟨x.blk, 0, none⟩) (by simp) _
  have kA : Kp x.foot w (w1.setCell ⟨x.blk, 0, none⟩ v') := (hg.kp.mono (T := x.foot) (fun k hk => .inl (by simp [Ent.foot, hk]))).trans kS (fun k hk => .inl (by simp at hk; simp [Ent.foot, hk]))
  have hin := h.inPlace ⟨x.name, x.blk, v', bs, x.last⟩ hx rfl rfl kA ⟨hb1.set0 _, hr.kept kS (fun k hk e => hap (by rw [List.mem_singleton] at e; subst e; exact hk)), hap⟩ (fun k hk => by
    rcases List.mem_cons.1 hk with rfl | hk
    · exact .inl (by simp [Ent.foot])
    · exact (hg.new k hk).imp (fun h => by simp [Ent.foot, h]) id) ok
  exact ⟨hb1.c0, hb1.free 0, hin⟩
end

theorem stepD_with (d : Dk) (G : List Fl) : stepD { d with files := G } = ({ (stepD d).1 with files := G }, (stepD d).2) := by
  unfold stepD
  simp only
  split <;> rfl
theorem append_done {d : Dk} {name b : List UInt8} (hd : d.dead = false) (hn : nameOk name = true) (hle : (b.length : Int) ≤ freeD d) : appendD d name b = ({ (stepD d).1 with files := grownF d.files name b }, if (stepD d).2 then 44 else 0) := by
  have h1 : ¬ (b.length : Int) > freeD d := by omega
  unfold appendD
  rw [if_neg (by simp [hd]), if_neg (by simp [hn]), if_neg h1, stepD_with]
set_option maxHeartbeats 4000000 in
set_option maxRecDepth 100000 in
theorem cAppend {w : World} {p mb : Nat} {xs : List Ent} {d : Dk} (hD : Disk w p mb xs d) (hs : d.steps < 9000000000000000000) (hN : xs.length < 9000000000000000000) (hB : Small d) (name : List UInt8) (hk : name.length ≤ maxLen) (ab : Option Addr) (cb : Nat) (b : List UInt8) (hsee : Sees w ab b) (hoff : b ≠ [] → ∀ k ∈ blk ab, k ∉ foot p mb xs)
    (hlen : (fileOf d.files name).bytes.length + b.length ≤ 140737488355328) :
    Calls Try.prog 10 #[.pointer (some ⟨p, 0, none⟩), .string ⟨name.toArray⟩, .slice ab b.length cb] w (ChgP p mb xs (appendD d name b) w) := by
  have c4 := hD.hd.c4
  have hnm : ∀ w, Calls Try.prog 29 #[.string ⟨name.toArray⟩] w fun e w' => e = .returned (.bool (nameOk name)) ∧ w' = w := fun w => cIsName ⟨name.toArray⟩ w (by simpa [ByteArray.size] using hk)
  go_enter Try.func10, Try.ntmps10
  cases hd : d.dead with
  | true =>
    have hfin : ChgP p mb xs (appendD d name b) w (.returned (.int .i64 44)) w := ChgP.same hD (by simp [appendD, hd])
    rw [hd] at c4
    go_wp2_with fail
    go_ret
    exact hfin
  | false =>
    rw [hd] at c4
    cases hn : nameOk name with
    | false =>
      have hfin : ChgP p mb xs (appendD d name b) w (.returned (.int .i64 40)) w := ChgP.same hD (by simp [appendD, hd, hn])
      rw [hn] at hnm
      go_wp2_with fail
      refine (hnm w).mono ?_
      rintro e w1 ⟨rfl, rfl⟩
      go_wp2_with fail
      go_ret
      exact hfin
    | true =>
      rw [hn] at hnm
      have hfree := cFree hD
      by_cases hfull : freeD d < (b.length : Int)
      · have hfin : ∀ w', Kp [] w w' → ChgP p mb xs (appendD d name b) w (.returned (.int .i64 41)) w' := fun w' kk => by
          have e : appendD d name b = (d, 41) := by simp [appendD, hd, hn, hfull]
          rw [e]
          exact ⟨rfl, xs, hD.keptNew kk, Mv.ofNew kk⟩
        go_wp2_with fail
        refine (hnm w).mono ?_
        rintro e w1 ⟨rfl, rfl⟩
        go_wp2_with fail
        refine hfree.mono ?_
        rintro e w2 ⟨rfl, k2⟩
        go_wp2_with fail
        go_ret
        exact hfin _ k2
      · have hle : (b.length : Int) ≤ freeD d := by omega
        have hok := okGrown hD.ok hn hle
        have hfb : (fileOf d.files name).name = name := fileOf_name _ _
        go_wp2_with fail
        refine (hnm w).mono ?_
        rintro e w1 ⟨rfl, rfl⟩
        go_wp2_with fail
        refine hfree.mono ?_
        rintro e w2 ⟨rfl, k2⟩
        have hD2 := hD.keptNew k2
        have hst := cStep hD2 hs hd
        go_wp2_with fail
        refine hst.mono ?_
        rintro e w3 ⟨rfl, hD3, k3⟩
        have c1 := hD3.hd.c1
        have hl := lookF hD3.map name hk
        have hlk := hD.look name
        have hap := append_done hd hn hle
        have hok3 : Okd { (stepD d).1 with files := grownF d.files name b } := by have := okStep hok; rw [stepD_with] at this; exact this
        have ef := (stepD_files d).1
        have hsee3 : Sees w3 ab b := (hsee.kept k2 (by simp)).kept' k3 (fun h k hk' e => hoff h k hk' (by rw [List.mem_singleton] at e; subst e; exact mem_foot.2 (.inl rfl)))
        have mv3 : Mv (foot p mb xs) w1 (foot p mb xs) w3 := (Mv.ofNew k2).trans (mvStep k3)
        generalize stepD d = sd at *
        obtain ⟨d1, alive⟩ := sd
        simp only at hD3 hap hok3 ef hst
        cases hx : lookG Ent.name name xs with
        | some x =>
          rw [hx] at hl hlk
          simp only [ptrOf] at hl
          have hx1 := (lookG_some hx).1
          have hxn := (lookG_some hx).2
          have hf := hD3.files x hx1
          have hfo : fileOf d.files name = x.fl := fileOf_some hlk
          rw [hfo] at hlen
          simp only [Ent.fl] at hlen
          have hG : grownF d.files name b = putG Fl.name ⟨x.name, x.bytes ++ b, x.last⟩ false d1.files := by rw [ef]; simp only [grownF, hfo]; rfl
          rw [hG] at hap hok3
          have hrow := hf.row
          have c0 := hf.box.c0
          obtain ⟨a, c, ev, _, _, hcap⟩ := Row.parts hrow
          have hfin : ∀ ys v' w', Hid (ys = x.bytes ++ b) → Row w' v' ys → Grew (.slice a x.bytes.length c) w3 v' w' → w'.cell? ⟨x.blk, 0, none⟩ = some (.slice a x.bytes.length c) ∧ w'.frozen? ⟨x.blk, 0, none⟩ = false ∧ ChgP p mb xs (appendD d name b) w1 (.returned (.int .i64 (if alive then 44 else 0))) (w'.setCell ⟨x.blk, 0, none⟩ v') := fun ys v' w' hy hr hg => by
            rw [hy.out] at hr
            rw [← ev] at hg ⊢
            obtain ⟨h1, h2, h3, h4⟩ := hD3.appended hx1 hr hg hok3
            refine ⟨h1, h2, ?_⟩
            rw [hap]
            exact ⟨rfl, _, h3, mv3.trans h4⟩
          rw [ev] at c0 hrow
          clear hG ef hlk hx hfull hf hst hfree hnm hap hok3 hok hfb hfo
          cases alive
          all_goals
            go_wp2_with (first | (refine wpAppR rfl _ _ rfl _ x.bytes rfl hrow _ _ _ b rfl rfl hsee3 (by omega) ?_; intro ys a' c' w4 hy hyl hrow4 hg4; obtain ⟨cc, ff, hch⟩ := hfin _ _ _ hy hrow4 hg4) | fail)
            go_ret
            exact hch
        | none =>
          rw [hx] at hl hlk
          simp only [ptrOf] at hl
          have hfo : fileOf d.files name = ⟨name, [], 0⟩ := fileOf_none hlk
          have hG : grownF d.files name b = putG Fl.name ⟨name, [] ++ b, 0⟩ false (putG Fl.name ⟨name, [], 0⟩ false d1.files) := by
            rw [putG_twice (nm := Fl.name) ⟨name, [] ++ b, 0⟩ ⟨name, [], 0⟩ rfl hD3.ok.rise, ef]
            simp only [grownF, hfo]
          rw [hfo] at hlen
          simp only [List.length_nil] at hlen
          rw [hG] at hap hok3
          have hok0 : Okd { d1 with files := putG Fl.name (⟨name, w3.heap.size, .slice none 0 0, [], 0⟩ : Ent).fl false d1.files } := okPut hD3.ok ⟨name, [], 0⟩ (Nat.le_refl _) hn (by have := hD3.ok.sum; simp; omega)
          obtain ⟨w4, hw4⟩ : ∃ w4, w4 = w3.alloc (.cells #[.slice none 0 0, .int .i64 0] 65) := ⟨_, rfl⟩
          have k4 : Kp [] w3 w4 := by rw [hw4]; exact (Kp.refl _ _).alloc _
          have b4 : Fx w4 w3.heap.size (.slice none 0 0) 0 := by rw [hw4]; exact Fx.at _ rfl _
          have hm4 : OwnsM w4 mb xs := hD3.map.kept k4 (by simp)
          obtain ⟨w5, hrun, hown5, k5⟩ := storeF hm4 hD3.rise (by unfold maxLen; omega) ⟨name, w3.heap.size, .slice none 0 0, [], 0⟩ hk
          obtain ⟨hD5, mv5⟩ := hD3.added ⟨name, w3.heap.size, .slice none 0 0, [], 0⟩ k4 ⟨b4, Row.nil _, by simp [own, Value.ownBlock]⟩ (by intro k hk'; simp [Ent.foot, own, Value.ownBlock] at hk'; omega) k5 hown5 hok0
          have hx5 : (⟨name, w3.heap.size, .slice none 0 0, [], 0⟩ : Ent) ∈ putG Ent.name ⟨name, w3.heap.size, .slice none 0 0, [], 0⟩ false xs := (mem_putG hD3.rise).2 (.inl rfl)
          have c1' : w4.cell? ⟨p, 1, none⟩ = some (.map (some mb)) := (k4.cell (p := ⟨p, 1, none⟩) hD3.hd.lt (by simp)).trans c1
          have c0 := (hD5.files _ hx5).box.c0
          have hsee5 : Sees w5 ab b := (hsee3.kept k4 (by simp)).kept' k5 (fun h k hk' e => hoff h k hk' (by rw [List.mem_singleton] at e; subst e; exact mem_foot.2 (.inr (.inl rfl))))
          have hfin : ∀ ys v' w', Hid (ys = [] ++ b) → Row w' v' ys → Grew (.slice none 0 0) w5 v' w' → w'.cell? ⟨w3.heap.size, 0, none⟩ = some (.slice none 0 0) ∧ w'.frozen? ⟨w3.heap.size, 0, none⟩ = false ∧ ChgP p mb xs (appendD d name b) w1 (.returned (.int .i64 (if alive then 44 else 0))) (w'.setCell ⟨w3.heap.size, 0, none⟩ v') := fun ys v' w' hy hr hg => by
            rw [hy.out] at hr
            obtain ⟨h1, h2, h3, h4⟩ := hD5.appended hx5 hr hg hok3
            refine ⟨h1, h2, ?_⟩
            rw [hap]
            exact ⟨rfl, _, h3, (mv3.trans mv5).trans h4⟩
          simp only at hrun c0
          have hnil := Row.nil w5
          clear hG ef hlk hx hfull hst hfree hnm hap hok3 hok hfb hfo hok0 hD5 mv5 hown5 hm4 b4 hx5
          have halloc : w3.alloc (.cells #[.slice none 0 0, .int .i64 0] 65) = w4 := hw4.symm
          clear hw4
          cases alive
          all_goals
            go_wp2_with (first | (refine wpAppR rfl _ _ rfl _ [] rfl hnil _ _ _ b rfl rfl hsee5 (by simp; omega) ?_; intro ys a' c' w6 hy hyl hrow6 hg6; obtain ⟨cc, ff, hch⟩ := hfin _ _ _ hy hrow6 hg6) | fail)
            go_ret
            exact hch
end Go.Proofs.Ytgllkonbgigcbab

/- Append. Open. Plain mathematics of frames: what was framed is told again; no shorter beginning is a frame; a byte that differs is found. Numbers and texts, written and read. -/
import Derived.Test.YtpkoikennimonaaGreatDoorB10
import Derived.Deep.RegionHeld3
import Derived.Test.YtpkoikennimonaaGreatDoorB4
import Derived.Test.YtpkoikennimonaaGreatDoorB2
section
namespace Go.Hay
open Go.RowKit
end Go.Hay
namespace Go.Proofs.YtpkoikennimonaaGreatDoor
open Go.RowKit Go.Hay
set_option linter.unusedVariables false
set_option linter.unusedSimpArgs false

theorem wp_noPanic {P : Program} {c : Code} {Q : Exit → Act → World → Prop} {a : Act} {w : World} (h : c.wp P (fun e a w => e = .normal ∧ Q e a w) a w) : c.wp P Q a w := wp_mono h (fun _ _ _ h => h.2)
theorem stepAppRun {P : Program} {w w' : World} {ops : Array Oper} {o : Oper} {a : Act} {K : Act → World → Prop} {Q : Exit → Act → World → Prop} {E : Prop} (hgd : o.guard = none) (s x : Operand) (t tx : TypeId)
    (ho : o.op = .call { callee := .builtin .append, args := #[s, x], argTypes := #[t, tx] }) (v xv v' : Value) (hv : a.eval s = v) (hx : a.eval x = xv)
    (hrun : (Builtin.append_ #[t, tx] o.type #[v, xv]).run P w = .ok v' w') (h : K (a.put o.dst v') w') : if Region.wanted o (yielded ops a.tmps) = true then Oper.wp P o a w K Q else E := by
  have hw : Region.wanted o (yielded ops a.tmps) = true := by simp [Region.wanted, hgd]
  rw [if_pos hw]
  unfold Oper.wp execOp
  simp only [ho, resolve, invoke, builtin, Sem.run_bind, Sem.run_pure, Result.andThen_ok, List.map_toArray, List.map_cons, List.map_nil, hv, hx, hrun]
  exact h
/-- What Append leaves of the disk, and tells. -/
def appQ (d : Dk) (nm : List UInt8) (R : List (List UInt8)) : Dk × Int := if R = [] then (d, 0) else if (frmR R).2 ≠ 0 then (d, (frmR R).2) else writeD d nm (frmR R).1
/-- By how many bytes a log has grown. -/
def appS (R : List (List UInt8)) : Int := if R = [] then 0 else ((frmR R).1.length : Int)
/-- Arguments that no call on the log turns. -/
structure ArgQ (w : World) (a : Option Addr) (R : List Bs) (X : Nat → Prop) : Prop where
  see : BsE.See w a R
  ok : ∀ y ∈ R, y.ok w
  ab : R ≠ [] → ∀ k ∈ blk a, ¬ X k
  yb : ∀ y ∈ R, y.bs ≠ [] → ∀ k ∈ blk y.a, ¬ X k
  few : R.length ≤ 4000000000000
  len : ∀ y ∈ R, y.bs.length ≤ 140737488351232
theorem ArgQ.kept {w w' : World} {a : Option Addr} {R : List Bs} {X : Nat → Prop} {S : List Nat} (h : ArgQ w a R X) (hk : Kp S w w') (hS : ∀ k ∈ S, X k ∨ w.heap.size ≤ k) : ArgQ w' a R X := by
  have hin : ∀ k, k < w.heap.size → ¬ X k → k ∉ S := fun k h1 h2 hm => by rcases hS k hm with h | h; exact h2 h; omega
  refine ⟨?_, fun y hy => ?_, h.ab, h.yb, h.few, h.len⟩
  · by_cases hR : R = []
    · exact .inl hR
    · rcases h.see with e | ⟨g, o, rfl, hc⟩
      · exact absurd e hR
      · exact .inr ⟨g, o, rfl, fun j u hu => (hk.cell (p := ⟨g, o + j, none⟩) (World.block_lt_of_cell? _ _ (hc j u hu)) (hin g (World.block_lt_of_cell? _ _ (hc j u hu)) (h.ab hR g (by simp [blk])))).trans (hc j u hu)⟩
  · exact ⟨(h.ok y hy).see.kept' hk (fun hb k hk' => hin k ((h.ok y hy).see.lt hb k hk') (h.yb y hy hb k hk')), (h.ok y hy).cap, (h.ok y hy).nil⟩
/-- What Append hands back. -/
def AppP (p dp mb : Nat) (xs : List Ent) (d : Dk) (nm : List UInt8) (B : Nat → Prop) (v : Value) (L : List (List UInt8)) (sz : Int) (R : List (List UInt8)) (w : World) (e : Ending) (w' : World) : Prop :=
  e = .returned (.int .i64 (appQ d nm R).2) ∧ ∃ xs', Disk w' dp mb xs' (appQ d nm R).1 ∧ Kp (p :: own v ++ foot dp mb xs) w w' ∧ (∀ k ∈ foot dp mb xs', k ∈ foot dp mb xs ∨ w.heap.size ≤ k) ∧
    ((appQ d nm R).2 ≠ 0 → Log w' p dp nm B v L sz ∧ ∀ k ∈ foot dp mb xs', ¬ B k ∧ k ≠ p) ∧
    ((appQ d nm R).2 = 0 → ∃ v' B', Log w' p dp nm B' v' (L ++ R) (sz + appS R) ∧ (∀ k, B' k → B k ∨ (w.heap.size ≤ k ∧ k < w'.heap.size)) ∧ ∀ k ∈ foot dp mb xs', ¬ B' k ∧ k ≠ p)
/-- How the loop stands. -/
structure ApI (w5 : World) (p dp : Nat) (nm : List UInt8) (B : Nat → Prop) (v : Value) (L : List (List UInt8)) (sz : Int) (R : List (List UInt8)) (W : World) (v1 : Value) : Prop where
  log : Log W p dp nm (fun k => B k ∨ w5.heap.size ≤ k) v1 (L ++ R) sz
  kp : Kp (p :: own v) w5 W
  own : ∀ k ∈ own v1, k ∈ own v ∨ w5.heap.size ≤ k
set_option maxHeartbeats 16000000 in
set_option maxRecDepth 100000 in
theorem cAppendL {w : World} {p dp mb : Nat} {xs : List Ent} {d : Dk} {nm : List UInt8} {B : Nat → Prop} {v : Value} {L : List (List UInt8)} {sz : Int} (hL : Log w p dp nm B v L sz) (hD : Disk w dp mb xs d) (hsep : ∀ k ∈ foot dp mb xs, ¬ B k ∧ k ≠ p) (hBl : ∀ k, B k → k < w.heap.size)
    (hs : d.steps < 7000000000000000000) (hN : d.files.length < 7000000000000000000) (hB : Small d) (hk : nm.length ≤ maxLen) (hfl : (fileOf d.files nm).bytes.length ≤ 140737400000000) (hLl : L.length ≤ 900000000000) (hsz : 0 ≤ sz ∧ sz ≤ 8000000000000000000)
    (a : Option Addr) (c : Nat) (R : List Bs) (hR : ArgQ w a R (fun k => k ∈ foot dp mb xs ∨ k = p ∨ B k)) (hTb : Tab w) (h0 : 0 ∉ foot dp mb xs ∧ 0 ≠ p ∧ ¬ B 0) :
    Calls Tryz.prog 13 #[.pointer (some ⟨p, 0, none⟩), .slice a R.length c] w (AppP p dp mb xs d nm B v L sz (bsl R) w) := by
  have c0 := hL.box.c0
  have c1 := hL.box.c1
  have hplt := hL.box.lt
  by_cases hR0 : R.length = 0
  · have e0 : R = [] := List.length_eq_zero_iff.1 hR0
    subst e0
    have hap : appQ d nm (bsl []) = (d, 0) := rfl
    have Hf : Hid (AppP p dp mb xs d nm B v L sz (bsl []) w (.returned (.int .i64 0)) w) := by
      refine ⟨rfl, xs, hD, Kp.refl _ _, fun k hk => .inl hk, fun h => absurd rfl h, fun _ => ⟨v, B, ?_, fun k hk => .inl hk, hsep⟩⟩
      have e1 : L ++ bsl [] = L := by simp [bsl]
      have e2 : sz + appS (bsl []) = sz := by simp [appS, bsl]
      rw [e1, e2]
      exact hL
    clear hL hD hsep hBl hR hTb hB
    go_enter Tryz.func13, Tryz.ntmps13
    go_wp2_with fail
    go_ret
    exact Hf.out
  · have hne : bsl R ≠ [] := fun h => hR0 (by have := congrArg List.length h; rw [bsl_len] at this; simpa using this)
    have dR0 : ((R.length : Int) == 0) = false := by rw [beq_eq_false_iff_ne]; omega
    have hFr := hid (cFrames a c R w hTb hR.see hR.ok (by have := hR.few; omega))
    have hq1 : Hid ((frmR (bsl R)).2 ≠ 0 → appQ d nm (bsl R) = (d, (frmR (bsl R)).2)) := fun h => by unfold appQ; rw [if_neg hne, if_pos h]
    have hq2 : Hid ((frmR (bsl R)).2 = 0 → appQ d nm (bsl R) = writeD d nm (frmR (bsl R)).1) := fun h => by unfold appQ; rw [if_neg hne, if_neg (by simpa using h)]
    have hqs : Hid (appS (bsl R) = ((frmR (bsl R)).1.length : Int)) := by show _ = _; unfold appS; rw [if_neg hne]
    have hfll : Hid ((frmR (bsl R)).1.length ≤ 16777300) := by
      show _ ≤ _
      unfold frmR
      split
      · rw [frameB_length]; omega
      · simp
    obtain ⟨⟨f1, f2⟩, hfe⟩ : ∃ f, Hid (frmR (bsl R) = f) := ⟨_, rfl⟩
    obtain ⟨Q, hQe⟩ : ∃ Q, Hid (appQ d nm (bsl R) = Q) := ⟨_, rfl⟩
    rw [hfe.out] at hFr hq1 hq2 hqs hfll
    rw [hQe.out] at hq1 hq2
    dsimp only at hq1 hq2 hqs hfll
    have HP : Hid (AppP p dp mb xs d nm B v L sz (bsl R) w = fun e w' => e = .returned (.int .i64 Q.2) ∧ ∃ xs', Disk w' dp mb xs' Q.1 ∧ Kp (p :: own v ++ foot dp mb xs) w w' ∧ (∀ k ∈ foot dp mb xs', k ∈ foot dp mb xs ∨ w.heap.size ≤ k) ∧
      (Q.2 ≠ 0 → Log w' p dp nm B v L sz ∧ ∀ k ∈ foot dp mb xs', ¬ B k ∧ k ≠ p) ∧
      (Q.2 = 0 → ∃ v' B', Log w' p dp nm B' v' (L ++ bsl R) (sz + f1.length) ∧ (∀ k, B' k → B k ∨ (w.heap.size ≤ k ∧ k < w'.heap.size)) ∧ ∀ k ∈ foot dp mb xs', ¬ B' k ∧ k ≠ p)) := by
      show _ = _
      unfold AppP
      rw [hQe.out, hqs.out]
    obtain ⟨PP, hPP⟩ : ∃ PP, Hid (AppP p dp mb xs d nm B v L sz (bsl R) w = PP) := ⟨_, rfl⟩
    rw [hPP.out]
    have H0 := hid (And.intro hL (And.intro hD (And.intro hsep (And.intro hBl (And.intro hR hB)))))
    clear hL hD hsep hBl hR hTb hB hQe hqs hfe
    go_enter Tryz.func13, Tryz.ntmps13
    go_wp2_with fail
    refine hFr.out.mono ?_
    rintro e w1 ⟨b1, cb1, rfl, hr1, k1, hn1⟩
    dsimp only at hr1
    obtain ⟨b1', cb1', eb, hs1, -⟩ := hr1.sees
    cases eb
    have H1 := hid (And.intro hs1 (And.intro k1 hn1))
    have c0' := (k1.cell (p := ⟨p, 0, none⟩) hplt (by simp)).trans c0
    have c1' := (k1.cell (p := ⟨p, 1, none⟩) hplt (by simp)).trans c1
    have hplt1 : p < w1.heap.size := by have := k1.size; omega
    clear hFr hr1 hs1 k1 hn1 c0 c1
    by_cases hf2 : f2 = 0
    · have hQ := hq2.out hf2
      subst hf2
      have hL1 := H0.out.1.kept H1.out.2.1 (by simp) (by simp)
      have hD1 := H0.out.2.1.keptNew H1.out.2.1
      have hW := hid (cWriteQ (hD1.keptNew ((Kp.refl [] w1).drew)) (by omega) (by rw [foot_len H0.out.2.1]; omega) H0.out.2.2.2.2.2 nm hk b1 cb1 f1 (H1.out.1.kept ((Kp.refl [] w1).drew) (by simp)) (fun _ k hk' hm => by have := H1.out.2.2 k hk'; have := H0.out.2.1.lt k hm; omega) (by have := hfll.out; omega))
      obtain ⟨⟨d5, e5⟩, hr5⟩ : ∃ r, Hid (writeD d nm f1 = r) := ⟨_, rfl⟩
      rw [hr5.out] at hW hQ
      subst hQ
      have HL1 := hid hL1
      clear hq1 hq2 hr5 hL1 hD1
      have HSd : Hid (∀ A, Kp (foot dp mb xs) w1 A → A.cell? ⟨p, 0, none⟩ = some (.pointer (some ⟨dp, 0, none⟩)) ∧ A.cell? ⟨p, 1, none⟩ = some (.string ⟨nm.toArray⟩)) := fun A kA =>
        ⟨(kA.cell (p := ⟨p, 0, none⟩) hplt1 (fun hm => (H0.out.2.2.1 p hm).2 rfl)).trans c0', (kA.cell (p := ⟨p, 1, none⟩) hplt1 (fun hm => (H0.out.2.2.1 p hm).2 rfl)).trans c1'⟩
      have kdr : Kp (foot dp mb xs) w1 w1.drew := (Kp.refl _ _).drew
      have KDR := hid kdr
      have HS0 := HSd.out _ kdr
      clear kdr
      go_wp2_with fail
      refine wp_noPanic ?_
      refine wp_region_held_drew (S := fun A => A.cell? ⟨p, 0, none⟩ = some (.pointer (some ⟨dp, 0, none⟩)) ∧ A.cell? ⟨p, 1, none⟩ = some (.string ⟨nm.toArray⟩)) (by kernel_rfl) ?_ (fun hHeld => ?_)
      · exact HS0
      clear c0' c1'
      generalize w1.drew = wd at *
      refine wpAnyH_take (i := 0) (v := ?_) rfl (by kernel_rfl) (by kernel_rfl) (by kernel_rfl) (fun _ _ _ h => by cases h.1) (Or.inl ⟨by rfl, ?_⟩) (by assumption) ?_
      rotate_left
      · intro w hSw; (try dsimp only at hSw); go_simp <;> with_reducible rfl
      try simp only [Act.put, List.getElem_toArray, List.getElem_cons_zero, List.getElem_cons_succ, List.setIfInBounds_toArray, List.set_cons_zero, List.set_cons_succ]
      refine wpAnyH_take (i := 1) (v := ?_) rfl (by kernel_rfl) (by kernel_rfl) (by kernel_rfl) (fun _ _ _ h => by cases h.1) (Or.inl ⟨by rfl, ?_⟩) (by assumption) ?_
      rotate_left
      · intro w hSw; (try dsimp only at hSw); go_simp <;> with_reducible rfl
      try simp only [Act.put, List.getElem_toArray, List.getElem_cons_zero, List.getElem_cons_succ, List.setIfInBounds_toArray, List.set_cons_zero, List.set_cons_succ]
      refine wpAnyH_take (i := 2) (v := ?_) rfl (by kernel_rfl) (by kernel_rfl) (by kernel_rfl) (fun _ _ _ h => by cases h.1) (Or.inl ⟨by rfl, ?_⟩) (by assumption) ?_
      rotate_left
      · intro w hSw; (try dsimp only at hSw); go_simp <;> with_reducible rfl
      try simp only [Act.put, List.getElem_toArray, List.getElem_cons_zero, List.getElem_cons_succ, List.setIfInBounds_toArray, List.set_cons_zero, List.set_cons_succ]
      refine wpAnyH_take (i := 3) (v := ?_) rfl (by kernel_rfl) (by kernel_rfl) (by kernel_rfl) (fun _ _ _ h => by cases h.1) (Or.inl ⟨by rfl, ?_⟩) (by assumption) ?_
      rotate_left
      · intro w hSw; (try dsimp only at hSw); go_simp <;> with_reducible rfl
      try simp only [Act.put, List.getElem_toArray, List.getElem_cons_zero, List.getElem_cons_succ, List.setIfInBounds_toArray, List.set_cons_zero, List.set_cons_succ]
      refine wpAnyH_take (i := 4) (v := ?_) rfl (by kernel_rfl) (by kernel_rfl) (by kernel_rfl) (fun _ _ _ h => by cases h.1) (Or.inl ⟨by rfl, ?_⟩) (by assumption) ?_
      rotate_left
      · intro w hSw; (try dsimp only at hSw); go_simp <;> with_reducible rfl
      try simp only [Act.put, List.getElem_toArray, List.getElem_cons_zero, List.getElem_cons_succ, List.setIfInBounds_toArray, List.set_cons_zero, List.set_cons_succ]
      refine wpAnyH_take (i := 5) (v := ?_) rfl (by kernel_rfl) (by kernel_rfl) (by kernel_rfl) (fun _ _ _ h => by cases h.1) (Or.inl ⟨by rfl, ?_⟩) (by assumption) ?_
      rotate_left
      · intro w hSw; (try dsimp only at hSw); go_simp <;> with_reducible rfl
      try simp only [Act.put, List.getElem_toArray, List.getElem_cons_zero, List.getElem_cons_succ, List.setIfInBounds_toArray, List.set_cons_zero, List.set_cons_succ]
      refine wpAnyH_take (i := 6) (v := ?_) rfl (by kernel_rfl) (by kernel_rfl) (by kernel_rfl) (fun _ _ _ h => by cases h.1) (Or.inl ⟨by rfl, ?_⟩) (by assumption) ?_
      rotate_left
      · intro w hSw; (try dsimp only at hSw); go_simp <;> with_reducible rfl
      try simp only [Act.put, List.getElem_toArray, List.getElem_cons_zero, List.getElem_cons_succ, List.setIfInBounds_toArray, List.set_cons_zero, List.set_cons_succ]
      refine wpAnyH_take (i := 7) (v := ?_) rfl (by kernel_rfl) (by kernel_rfl) (by kernel_rfl) (fun _ _ _ h => by cases h.1) (Or.inl ⟨by rfl, ?_⟩) (by assumption) ?_
      rotate_left
      · intro w hSw; (try dsimp only at hSw); go_simp <;> with_reducible rfl
      try simp only [Act.put, List.getElem_toArray, List.getElem_cons_zero, List.getElem_cons_succ, List.setIfInBounds_toArray, List.set_cons_zero, List.set_cons_succ]
      refine wpAnyH_take (i := 8) (v := ?_) rfl (by kernel_rfl) (by kernel_rfl) (by kernel_rfl) (fun _ _ _ h => by cases h.1) (Or.inl ⟨by rfl, ?_⟩) (by assumption) ?_
      rotate_left
      · intro w hSw; (try dsimp only at hSw); go_simp <;> with_reducible rfl
      try simp only [Act.put, List.getElem_toArray, List.getElem_cons_zero, List.getElem_cons_succ, List.setIfInBounds_toArray, List.set_cons_zero, List.set_cons_succ]
      refine wpAnyH_ready (rs := [9]) (by kernel_rfl) (by simp) ?_
      refine AllReadyH.cons rfl (fun K hK => ?_) AllReadyH.nil
      go_simp
      refine hW.out.mono ?_
      rintro e w5 ⟨rfl, hm5⟩
      have k5S := hm5.choose_spec.2.kp
      (try go_wp2_with fail)
      refine hK.out _ _ ?_ (fun hHeld => ?_)
      · exact HSd.out _ (KDR.out.trans k5S (fun x hx => .inl hx))
      clear hK K
      try simp only [Act.put, List.getElem_toArray, List.getElem_cons_zero, List.getElem_cons_succ, List.setIfInBounds_toArray, List.set_cons_zero, List.set_cons_succ]
      clear k5S
      refine wpAnyH_take (i := 10) (v := ?_) rfl (by kernel_rfl) (by kernel_rfl) (by kernel_rfl) (fun _ _ _ h => by cases h.1) (Or.inl ⟨by rfl, ?_⟩) (by assumption) ?_
      rotate_left
      · intro w hSw; (try dsimp only at hSw); go_simp <;> with_reducible rfl
      try simp only [Act.put, List.getElem_toArray, List.getElem_cons_zero, List.getElem_cons_succ, List.setIfInBounds_toArray, List.set_cons_zero, List.set_cons_succ]
      refine wpAnyH_done (by kernel_rfl) ⟨rfl, ?_⟩ _
      rcases hm5 with ⟨xs5, hD5, m5⟩
      have H5 := hid (And.intro hD5 m5)
      clear hD5 m5 HS0 hHeld
      by_cases h5 : e5 = 0
      · subst h5
        have k15 : Kp (foot dp mb xs) w1 w5 := KDR.out.trans H5.out.2.kp (fun x hx => .inl hx)
        have kw5 : Kp (foot dp mb xs) w w5 := (H1.out.2.1.mono (by simp)).trans k15 (fun x hx => .inl hx)
        have hL5 : Log w5 p dp nm B v L sz := HL1.out.kept k15 (fun hm => (H0.out.2.2.1 p hm).2 rfl) (fun k hk' => (H0.out.2.2.1 k hk').1)
        have hp5 : p < w5.heap.size := hL5.box.lt
        have hz15 := k15.size
        have hA5 := hid (H0.out.2.2.2.2.1.kept kw5 (fun k hk' => .inl (.inl hk')))
        have hI0 : Hid (ApI w5 p dp nm B v L sz (bsl (R.take 0)) w5 v) := ⟨⟨hL5.box, by simpa [bsl] using hL5.row.mono (fun k _ hk' => .inl hk'), fun h => by rcases h with h | h; exact hL5.np h; omega⟩, Kp.refl _ _, fun k hk' => .inl hk'⟩
        have HK5 := hid (And.intro k15 (And.intro kw5 hL5))
        have hzw : w.heap.size ≤ w5.heap.size := kw5.size
        have hzd : w1.heap.size ≤ wd.heap.size := KDR.out.size
        clear k15 kw5 hL5 HL1 HSd KDR
        go_wp2_with fail
        go_loopw [9, 36] (fun _ i wn => ∃ (j : Nat) (v1 : Value), j ≤ R.length ∧ i = .int .i64 j ∧ Hid (ApI w5 p dp nm B v L sz (bsl (R.take j)) wn v1)) (fun _ i _ => R.length - (intOf i).toNat)
        case atStart => exact ⟨0, v, Nat.zero_le _, rfl, hI0⟩
        case round =>
          obtain ⟨j, v1, hj, rfl, hI⟩ := hrel
          clear hI0
          by_cases hlt : j < R.length
          · have hAr := hA5.out.kept hI.out.kp (fun k hk' => by
              rcases List.mem_cons.1 hk' with rfl | hk'
              · exact .inl (.inr (.inl rfl))
              · exact .inl (.inr (.inr (HK5.out.2.2.row.from k hk'))))
            obtain ⟨g, o, ea, cR⟩ := bsAt hAr.see (k := j) (x := R[j]) (by simp [hlt])
            have hyo := hAr.ok _ (List.getElem_mem hlt)
            have hyl := hAr.len _ (List.getElem_mem hlt)
            have hTk0 := take_snoc (l := R) (i := j) (y := R[j]) (by simp [hlt])
            obtain ⟨Y, hY⟩ : ∃ Y, R[j] = Y := ⟨_, rfl⟩
            rw [hY] at cR hyo hyl hTk0
            obtain ⟨ya, yc, yb⟩ := Y
            dsimp only at cR hyl hTk0
            have hse : Sees wr ya yb := hyo.see
            obtain ⟨M, hM⟩ : ∃ M, Hid (L ++ bsl (R.take j) = M) := ⟨_, rfl⟩
            have hlen1 : (L ++ bsl (R.take j)).length + 1 ≤ 5000000000000 := by rw [List.length_append, bsl_len, List.length_take]; have := hA5.out.few; omega
            have hIl := hI.out.log
            rw [hM.out] at hIl hlen1
            obtain ⟨av, cv, ev⟩ := rowPshape hIl.row
            subst ev
            have hlw : w5.heap.size ≤ wr.heap.size := hI.out.kp.size
            have hsd : wr.drew.heap.size = wr.heap.size := rfl
            have kd0 : Kp [] wr wr.drew := (Kp.refl _ _).drew
            obtain ⟨M2, hM2⟩ : ∃ M2, Hid (M ++ [yb] = M2) := ⟨_, rfl⟩
            have hTk : Hid (L ++ bsl (R.take (j + 1)) = M2) := by show _ = _; rw [hTk0, ← List.append_assoc, hM.out, hM2.out]
            have hCl : Hid (∀ X, Kp [] wr.drew X → Calls Tryz.prog 33 #[.slice ya yb.length yc] X fun e w' => ∃ v', e = .returned v' ∧ Row w' v' yb ∧ Kp [] X w' ∧ ∀ k ∈ own v', X.heap.size ≤ k) := fun X kX => cClone ya yb.length yc yb X ((hse.kept kd0 (by simp)).kept kX (by simp)) rfl (by omega)
            have hSd : Hid (∀ A, Kp [] wr.drew A → A.cell? ⟨p, 0, none⟩ = some (.pointer (some ⟨dp, 0, none⟩))) := fun A kA => ((kd0.trans kA (by simp)).cell (p := ⟨p, 0, none⟩) hIl.box.lt (by simp)).trans hIl.box.c0
            have hL2 : Hid (∀ A, Kp [] wr.drew A → A.cell? ⟨p, 2, none⟩ = some (.slice av M.length cv)) := fun A kA => ((kd0.trans kA (by simp)).cell (p := ⟨p, 2, none⟩) hIl.box.lt (by simp)).trans hIl.box.c2
            have hApp : Hid (∀ y2 v2, Kp [] wr.drew y2 → Row y2 v2 yb → (∀ k ∈ own v2, wr.drew.heap.size ≤ k) → ∃ v8 w8, (Builtin.append_ #[30, 30] 30 #[.slice av M.length cv, .slice (some ⟨y2.heap.size, 0, none⟩) 1 1]).run Tryz.prog (y2.alloc (.cells #[v2] 45)) = .ok v8 w8 ∧ RowP (fun k => B k ∨ w5.heap.size ≤ k) w8 v8 M2 ∧ Kp (own (.slice av M.length cv)) y2 w8 ∧ ∀ k ∈ own v8, k ∈ own (.slice av M.length cv) ∨ y2.heap.size ≤ k) := fun y2 v2 k2 hr2 hn2 => by
              rw [← hM2.out]
              refine runAppendP ((hIl.row.kept kd0 (by simp)).kept k2 (by simp)) hr2 (fun k hk' => ⟨.inr (by have := hn2 k hk'; omega), fun hm => ?_⟩) (fun k hk' => .inr (by have := k2.size; omega)) rfl hlen1 _
              have := hIl.row.lt k hm
              have := hn2 k hk'
              omega
            have hFin : Hid (∀ y2 a8 c8 w8, Kp [] wr.drew y2 → RowP (fun k => B k ∨ w5.heap.size ≤ k) w8 (.slice a8 M2.length c8) M2 → Kp (own (.slice av M.length cv)) y2 w8 → (∀ k ∈ own (.slice a8 M2.length c8), k ∈ own (.slice av M.length cv) ∨ y2.heap.size ≤ k) →
                Lg w8 p dp nm (.slice av M.length cv) sz ∧ ApI w5 p dp nm B v L sz (bsl (R.take (j + 1))) (w8.setCell ⟨p, 2, none⟩ (.slice a8 M2.length c8)) (.slice a8 M2.length c8)) := fun y2 a8 c8 w8 k2 hr8 k8 hn8 => by
              have hpo : p ∉ own (.slice av M.length cv) := fun hm => hIl.np (hIl.row.from p hm)
              have hLg : Lg w8 p dp nm (.slice av M.length cv) sz := ((hIl.box.kept kd0 (by simp)).kept k2 (by simp)).kept k8 hpo
              have kS : Kp [p] w8 (w8.setCell ⟨p, 2, none⟩ (.slice a8 M2.length c8)) := (Kp.refl _ _).setCell (by simp) _
              have k58 : Kp (p :: own v) w5 (w8.setCell ⟨p, 2, none⟩ (.slice a8 M2.length c8)) := (((hI.out.kp.trans kd0 (by simp)).trans k2 (by simp)).trans k8 (fun x hx => by rcases hI.out.own x hx with h | h; exact .inl (by simp [h]); exact .inr h)).trans kS (fun x hx => .inl (by simp at hx; simp [hx]))
              refine ⟨hLg, ⟨hLg.set2 _, ?_, hIl.np⟩, k58, fun k hk' => ?_⟩
              · rw [hTk.out]
                exact hr8.kept kS (fun k hk' hb => by simp at hk'; subst hk'; exact hIl.np hb)
              · rcases hn8 k hk' with h | h
                · exact hI.out.own k h
                · exact .inr (by have := k2.size; omega)
            have hS0 := hSd.out _ (Kp.refl _ _)
            have l2 := hL2.out _ (Kp.refl _ _)
            have hL2w := hIl.box.c2
            have dj1 : (j : Int) < (R.length : Int) := by omega
            have dj0 : (0 : Int) ≤ (j : Int) := by omega
            have hRf := hA5.out.few
            have dj7 : (-9223372036854775808 : Int) ≤ (j : Int) + 1 := by omega
            have dj8 : (j : Int) + 1 ≤ 9223372036854775807 := by omega
            have hpr : p < wr.heap.size := hIl.box.lt
            clear hAr hyo hTk0 hY hse hIl hI hsd kd0 hL2w hM hM2
            subst ea
            go_wp2_with fail
            refine wp_noPanic ?_
            refine wp_region_held_drew (S := fun A => A.cell? ⟨p, 0, none⟩ = some (.pointer (some ⟨dp, 0, none⟩))) (by kernel_rfl) ?_ (fun hHeld => ?_)
            · exact hS0
            generalize wr.drew = wd2 at *
            refine wpAnyH_take (i := 0) (v := ?_) rfl (by kernel_rfl) (by kernel_rfl) (by kernel_rfl) (fun _ _ _ h => by cases h.1) (Or.inl ⟨by rfl, ?_⟩) (by assumption) ?_
            rotate_left
            · intro w hSw; (try dsimp only at hSw); go_simp <;> with_reducible rfl
            try simp only [Act.put, List.getElem_toArray, List.getElem_cons_zero, List.getElem_cons_succ, List.setIfInBounds_toArray, List.set_cons_zero, List.set_cons_succ]
            refine wpAnyH_take (i := 1) (v := ?_) rfl (by kernel_rfl) (by kernel_rfl) (by kernel_rfl) (fun _ _ _ h => by cases h.1) (Or.inl ⟨by rfl, ?_⟩) (by assumption) ?_
            rotate_left
            · intro w hSw; (try dsimp only at hSw); go_simp <;> with_reducible rfl
            try simp only [Act.put, List.getElem_toArray, List.getElem_cons_zero, List.getElem_cons_succ, List.setIfInBounds_toArray, List.set_cons_zero, List.set_cons_succ]
            refine wpAnyH_take (i := 2) (v := ?_) rfl (by kernel_rfl) (by kernel_rfl) (by kernel_rfl) (fun _ _ _ h => by cases h.1) (Or.inl ⟨by rfl, ?_⟩) (by assumption) ?_
            rotate_left
            · intro w hSw; (try dsimp only at hSw); go_simp <;> with_reducible rfl
            try simp only [Act.put, List.getElem_toArray, List.getElem_cons_zero, List.getElem_cons_succ, List.setIfInBounds_toArray, List.set_cons_zero, List.set_cons_succ]
            refine wpAnyH_take (i := 3) (v := ?_) rfl (by kernel_rfl) (by kernel_rfl) (by kernel_rfl) (fun _ _ _ h => by cases h.1) (Or.inl ⟨by rfl, ?_⟩) (by assumption) ?_
            rotate_left
            · intro w hSw; (try dsimp only at hSw); go_simp <;> with_reducible rfl
            try simp only [Act.put, List.getElem_toArray, List.getElem_cons_zero, List.getElem_cons_succ, List.setIfInBounds_toArray, List.set_cons_zero, List.set_cons_succ]
            refine wpAnyH_take (i := 5) (v := ?_) rfl (by kernel_rfl) (by kernel_rfl) (by kernel_rfl) (fun _ _ _ h => by cases h.1) (Or.inl ⟨by rfl, ?_⟩) (by assumption) ?_
            rotate_left
            · intro w hSw; (try dsimp only at hSw); go_simp <;> with_reducible rfl
            try simp only [Act.put, List.getElem_toArray, List.getElem_cons_zero, List.getElem_cons_succ, List.setIfInBounds_toArray, List.set_cons_zero, List.set_cons_succ]
            refine wpAnyH_ready (rs := [4, 6]) (by kernel_rfl) (by simp) ?_
            refine (AllReadyH.cons rfl (fun K hK => ?_) (AllReadyH.cons rfl (fun K hK => ?_) AllReadyH.nil))
            · go_simp
              (try go_wp2_with fail)
              refine hK.out _ _ ?_ (fun hHeld => ?_)
              · exact hSd.out _ (Kp.refl _ _)
              clear hK K
              try simp only [Act.put, List.getElem_toArray, List.getElem_cons_zero, List.getElem_cons_succ, List.setIfInBounds_toArray, List.set_cons_zero, List.set_cons_succ]
              refine wpAnyH_ready (rs := [6]) (by kernel_rfl) (by simp) ?_
              refine AllReadyH.cons rfl (fun K hK => ?_) AllReadyH.nil
              go_simp
              refine (hCl.out wd2 (Kp.refl _ _)).mono ?_
              rintro e y2 ⟨v2, rfl, hr2, ky2, hn2⟩
              obtain ⟨a2, c2, rfl, -, -⟩ := hr2.sees
              (try go_wp2_with fail)
              refine hK.out _ _ ?_ (fun hHeld => ?_)
              · exact hSd.out _ ky2
              clear hK K
              try simp only [Act.put, List.getElem_toArray, List.getElem_cons_zero, List.getElem_cons_succ, List.setIfInBounds_toArray, List.set_cons_zero, List.set_cons_succ]
              obtain ⟨v8, w8, hrun8, hr8, k8, hn8⟩ := hApp.out y2 _ ky2 hr2 hn2
              obtain ⟨a8, c8, rfl⟩ := rowPshape hr8
              obtain ⟨y3, hy3⟩ : ∃ y, y2.alloc (.cells #[.slice a2 yb.length c2] 45) = y := ⟨_, rfl⟩
              rw [hy3] at hrun8
              have k23 : Kp [] y2 y3 := by rw [← hy3]; exact (Kp.refl _ _).alloc _
              have hfin8 := hid (hFin.out y2 a8 c8 w8 ky2 hr8 k8 hn8)
              have hy3' := hid hy3
              clear hy3 hr8 k8 hn8 hApp hFin
              refine wpAnyH_ready (rs := [7]) (by kernel_rfl) (by simp) ?_
              refine AllReadyH.cons rfl (fun K hK => ?_) AllReadyH.nil
              go_simp
              rw [hy3'.out]
              (try go_wp2_with fail)
              refine hK.out _ _ ?_ (fun hHeld => ?_)
              · exact hSd.out _ (ky2.trans k23 (by simp))
              clear hK K
              try simp only [Act.put, List.getElem_toArray, List.getElem_cons_zero, List.getElem_cons_succ, List.setIfInBounds_toArray, List.set_cons_zero, List.set_cons_succ]
              refine wpAnyH_ready (rs := [8]) (by kernel_rfl) (by simp) ?_
              refine AllReadyH.cons rfl (fun K hK => ?_) AllReadyH.nil
              refine stepAppRun rfl _ _ 30 30 rfl _ _ _ rfl rfl hrun8 ?_
              refine hK.out _ _ ?_ (fun hHeld => ?_)
              · exact hfin8.out.1.c0
              clear hK K
              try simp only [Act.put, List.getElem_toArray, List.getElem_cons_zero, List.getElem_cons_succ, List.setIfInBounds_toArray, List.set_cons_zero, List.set_cons_succ]
              refine wpAnyH_take (i := 9) (v := ?_) rfl (by kernel_rfl) (by kernel_rfl) (by kernel_rfl) (fun _ _ _ h => by cases h.1) (Or.inl ⟨by rfl, ?_⟩) (by assumption) ?_
              rotate_left
              · intro w hSw; (try dsimp only at hSw); go_simp <;> with_reducible rfl
              try simp only [Act.put, List.getElem_toArray, List.getElem_cons_zero, List.getElem_cons_succ, List.setIfInBounds_toArray, List.set_cons_zero, List.set_cons_succ]
              refine wpAnyH_take (i := 10) (v := ?_) rfl (by kernel_rfl) (by kernel_rfl) (by kernel_rfl) (fun _ _ _ h => by cases h.1) (Or.inl ⟨by rfl, ?_⟩) (by assumption) ?_
              rotate_left
              · intro w hSw; (try dsimp only at hSw); go_simp <;> with_reducible rfl
              try simp only [Act.put, List.getElem_toArray, List.getElem_cons_zero, List.getElem_cons_succ, List.setIfInBounds_toArray, List.set_cons_zero, List.set_cons_succ]
              have s2c := hfin8.out.1.c2
              have s2f := hfin8.out.1.free 2
              refine wpAnyH_ready (rs := [11]) (by kernel_rfl) (by simp) ?_
              refine AllReadyH.cons rfl (fun K hK => ?_) AllReadyH.nil
              go_simp
              (try go_wp2_with fail)
              refine hK.out _ _ ?_ (fun hHeld => ?_)
              · exact hfin8.out.2.log.box.c0
              clear hK K
              try simp only [Act.put, List.getElem_toArray, List.getElem_cons_zero, List.getElem_cons_succ, List.setIfInBounds_toArray, List.set_cons_zero, List.set_cons_succ]
              refine wpAnyH_done (by kernel_rfl) ⟨rfl, ?_⟩ _
              have HN := hid hfin8.out.2
              clear s2c s2f hfin8
              go_wp2_with fail
              go_roundw
              case rel => exact ⟨j + 1, _, by omega, by simp, HN⟩
              case measure => simp [intOf]; omega
            · go_simp
              refine (hCl.out wd2 (Kp.refl _ _)).mono ?_
              rintro e y2 ⟨v2, rfl, hr2, ky2, hn2⟩
              obtain ⟨a2, c2, rfl, -, -⟩ := hr2.sees
              (try go_wp2_with fail)
              refine hK.out _ _ ?_ (fun hHeld => ?_)
              · exact hSd.out _ ky2
              clear hK K
              try simp only [Act.put, List.getElem_toArray, List.getElem_cons_zero, List.getElem_cons_succ, List.setIfInBounds_toArray, List.set_cons_zero, List.set_cons_succ]
              have l2y := (hL2.out y2 ky2)
              refine wpAnyH_ready (rs := [4, 7]) (by kernel_rfl) (by simp) ?_
              refine (AllReadyH.cons rfl (fun K hK => ?_) (AllReadyH.cons rfl (fun K hK => ?_) AllReadyH.nil))
              · go_simp
                (try go_wp2_with fail)
                refine hK.out _ _ ?_ (fun hHeld => ?_)
                · exact hSd.out _ ky2
                clear hK K
                try simp only [Act.put, List.getElem_toArray, List.getElem_cons_zero, List.getElem_cons_succ, List.setIfInBounds_toArray, List.set_cons_zero, List.set_cons_succ]
                clear l2y
                obtain ⟨v8, w8, hrun8, hr8, k8, hn8⟩ := hApp.out y2 _ ky2 hr2 hn2
                obtain ⟨a8, c8, rfl⟩ := rowPshape hr8
                obtain ⟨y3, hy3⟩ : ∃ y, y2.alloc (.cells #[.slice a2 yb.length c2] 45) = y := ⟨_, rfl⟩
                rw [hy3] at hrun8
                have k23 : Kp [] y2 y3 := by rw [← hy3]; exact (Kp.refl _ _).alloc _
                have hfin8 := hid (hFin.out y2 a8 c8 w8 ky2 hr8 k8 hn8)
                have hy3' := hid hy3
                clear hy3 hr8 k8 hn8 hApp hFin
                refine wpAnyH_ready (rs := [7]) (by kernel_rfl) (by simp) ?_
                refine AllReadyH.cons rfl (fun K hK => ?_) AllReadyH.nil
                go_simp
                rw [hy3'.out]
                (try go_wp2_with fail)
                refine hK.out _ _ ?_ (fun hHeld => ?_)
                · exact hSd.out _ (ky2.trans k23 (by simp))
                clear hK K
                try simp only [Act.put, List.getElem_toArray, List.getElem_cons_zero, List.getElem_cons_succ, List.setIfInBounds_toArray, List.set_cons_zero, List.set_cons_succ]
                refine wpAnyH_ready (rs := [8]) (by kernel_rfl) (by simp) ?_
                refine AllReadyH.cons rfl (fun K hK => ?_) AllReadyH.nil
                refine stepAppRun rfl _ _ 30 30 rfl _ _ _ rfl rfl hrun8 ?_
                refine hK.out _ _ ?_ (fun hHeld => ?_)
                · exact hfin8.out.1.c0
                clear hK K
                try simp only [Act.put, List.getElem_toArray, List.getElem_cons_zero, List.getElem_cons_succ, List.setIfInBounds_toArray, List.set_cons_zero, List.set_cons_succ]
                refine wpAnyH_take (i := 9) (v := ?_) rfl (by kernel_rfl) (by kernel_rfl) (by kernel_rfl) (fun _ _ _ h => by cases h.1) (Or.inl ⟨by rfl, ?_⟩) (by assumption) ?_
                rotate_left
                · intro w hSw; (try dsimp only at hSw); go_simp <;> with_reducible rfl
                try simp only [Act.put, List.getElem_toArray, List.getElem_cons_zero, List.getElem_cons_succ, List.setIfInBounds_toArray, List.set_cons_zero, List.set_cons_succ]
                refine wpAnyH_take (i := 10) (v := ?_) rfl (by kernel_rfl) (by kernel_rfl) (by kernel_rfl) (fun _ _ _ h => by cases h.1) (Or.inl ⟨by rfl, ?_⟩) (by assumption) ?_
                rotate_left
                · intro w hSw; (try dsimp only at hSw); go_simp <;> with_reducible rfl
                try simp only [Act.put, List.getElem_toArray, List.getElem_cons_zero, List.getElem_cons_succ, List.setIfInBounds_toArray, List.set_cons_zero, List.set_cons_succ]
                have s2c := hfin8.out.1.c2
                have s2f := hfin8.out.1.free 2
                refine wpAnyH_ready (rs := [11]) (by kernel_rfl) (by simp) ?_
                refine AllReadyH.cons rfl (fun K hK => ?_) AllReadyH.nil
                go_simp
                (try go_wp2_with fail)
                refine hK.out _ _ ?_ (fun hHeld => ?_)
                · exact hfin8.out.2.log.box.c0
                clear hK K
                try simp only [Act.put, List.getElem_toArray, List.getElem_cons_zero, List.getElem_cons_succ, List.setIfInBounds_toArray, List.set_cons_zero, List.set_cons_succ]
                refine wpAnyH_done (by kernel_rfl) ⟨rfl, ?_⟩ _
                have HN := hid hfin8.out.2
                clear s2c s2f hfin8
                go_wp2_with fail
                go_roundw
                case rel => exact ⟨j + 1, _, by omega, by simp, HN⟩
                case measure => simp [intOf]; omega
              · go_simp
                obtain ⟨v8, w8, hrun8, hr8, k8, hn8⟩ := hApp.out y2 _ ky2 hr2 hn2
                obtain ⟨a8, c8, rfl⟩ := rowPshape hr8
                obtain ⟨y3, hy3⟩ : ∃ y, y2.alloc (.cells #[.slice a2 yb.length c2] 45) = y := ⟨_, rfl⟩
                rw [hy3] at hrun8
                have k23 : Kp [] y2 y3 := by rw [← hy3]; exact (Kp.refl _ _).alloc _
                have hfin8 := hid (hFin.out y2 a8 c8 w8 ky2 hr8 k8 hn8)
                have hy3' := hid hy3
                clear hy3 hr8 k8 hn8 hApp hFin
                rw [hy3'.out]
                (try go_wp2_with fail)
                refine hK.out _ _ ?_ (fun hHeld => ?_)
                · exact hSd.out _ (ky2.trans k23 (by simp))
                clear hK K
                try simp only [Act.put, List.getElem_toArray, List.getElem_cons_zero, List.getElem_cons_succ, List.setIfInBounds_toArray, List.set_cons_zero, List.set_cons_succ]
                have l2z := (hL2.out y3 (ky2.trans k23 (by simp)))
                refine wpAnyH_ready (rs := [4]) (by kernel_rfl) (by simp) ?_
                refine AllReadyH.cons rfl (fun K hK => ?_) AllReadyH.nil
                go_simp
                (try go_wp2_with fail)
                refine hK.out _ _ ?_ (fun hHeld => ?_)
                · exact hSd.out _ (ky2.trans k23 (by simp))
                clear hK K
                try simp only [Act.put, List.getElem_toArray, List.getElem_cons_zero, List.getElem_cons_succ, List.setIfInBounds_toArray, List.set_cons_zero, List.set_cons_succ]
                clear l2z
                refine wpAnyH_ready (rs := [8]) (by kernel_rfl) (by simp) ?_
                refine AllReadyH.cons rfl (fun K hK => ?_) AllReadyH.nil
                refine stepAppRun rfl _ _ 30 30 rfl _ _ _ rfl rfl hrun8 ?_
                refine hK.out _ _ ?_ (fun hHeld => ?_)
                · exact hfin8.out.1.c0
                clear hK K
                try simp only [Act.put, List.getElem_toArray, List.getElem_cons_zero, List.getElem_cons_succ, List.setIfInBounds_toArray, List.set_cons_zero, List.set_cons_succ]
                refine wpAnyH_take (i := 9) (v := ?_) rfl (by kernel_rfl) (by kernel_rfl) (by kernel_rfl) (fun _ _ _ h => by cases h.1) (Or.inl ⟨by rfl, ?_⟩) (by assumption) ?_
                rotate_left
                · intro w hSw; (try dsimp only at hSw); go_simp <;> with_reducible rfl
                try simp only [Act.put, List.getElem_toArray, List.getElem_cons_zero, List.getElem_cons_succ, List.setIfInBounds_toArray, List.set_cons_zero, List.set_cons_succ]
                refine wpAnyH_take (i := 10) (v := ?_) rfl (by kernel_rfl) (by kernel_rfl) (by kernel_rfl) (fun _ _ _ h => by cases h.1) (Or.inl ⟨by rfl, ?_⟩) (by assumption) ?_
                rotate_left
                · intro w hSw; (try dsimp only at hSw); go_simp <;> with_reducible rfl
                try simp only [Act.put, List.getElem_toArray, List.getElem_cons_zero, List.getElem_cons_succ, List.setIfInBounds_toArray, List.set_cons_zero, List.set_cons_succ]
                have s2c := hfin8.out.1.c2
                have s2f := hfin8.out.1.free 2
                refine wpAnyH_ready (rs := [11]) (by kernel_rfl) (by simp) ?_
                refine AllReadyH.cons rfl (fun K hK => ?_) AllReadyH.nil
                go_simp
                (try go_wp2_with fail)
                refine hK.out _ _ ?_ (fun hHeld => ?_)
                · exact hfin8.out.2.log.box.c0
                clear hK K
                try simp only [Act.put, List.getElem_toArray, List.getElem_cons_zero, List.getElem_cons_succ, List.setIfInBounds_toArray, List.set_cons_zero, List.set_cons_succ]
                refine wpAnyH_done (by kernel_rfl) ⟨rfl, ?_⟩ _
                have HN := hid hfin8.out.2
                clear s2c s2f hfin8
                go_wp2_with fail
                go_roundw
                case rel => exact ⟨j + 1, _, by omega, by simp, HN⟩
                case measure => simp [intOf]; omega
          · have hjl : R.take j = R := List.take_of_length_le (by omega)
            have dj2 : decide ((j : Int) < (R.length : Int)) = false := by simp; omega
            have hI2 := hI.out
            rw [hjl] at hI2
            have HI2 := hid hI2
            have s3 := hI2.log.box.c3
            have s3f := hI2.log.box.free 3
            have hpr : p < wr.heap.size := hI2.log.box.lt
            have dz1 : (-9223372036854775808 : Int) ≤ sz + (f1.length : Int) := by omega
            have dz2 : sz + (f1.length : Int) ≤ 9223372036854775807 := by have := hfll.out; omega
            clear hI hI2 hjl
            go_wp2_with fail
            rw [← hPP.out, HP.out]
            have kS : Kp [p] wr (wr.setCell ⟨p, 3, none⟩ (.int .i64 (sz + (f1.length : Int)))) := (Kp.refl _ _).setCell (by simp) _
            have hnew : ∀ k ∈ foot dp mb xs5, k ∈ foot dp mb xs ∨ w.heap.size ≤ k := fun k hk' => by rcases H5.out.2.new k hk' with h | h; exact .inl h; exact .inr (by have := H1.out.2.1.size; omega)
            have hsp5 : ∀ k ∈ foot dp mb xs5, ¬ B k ∧ k ≠ p ∧ k < w5.heap.size := fun k hk' => by
              have hl5 := H5.out.1.lt k hk'
              rcases hnew k hk' with h | h
              · exact ⟨(H0.out.2.2.1 k h).1, (H0.out.2.2.1 k h).2, hl5⟩
              · exact ⟨fun hb => by have := H0.out.2.2.2.1 k hb; omega, fun e => by rw [e] at h; omega, hl5⟩
            have hfo : ∀ k ∈ foot dp mb xs5, k ∉ p :: own v := fun k hk' hm => by
              rcases List.mem_cons.1 hm with e | hm
              · exact (hsp5 k hk').2.1 e
              · exact (hsp5 k hk').1 (HK5.out.2.2.row.from k hm)
            have kL : Kp (p :: own v) w5 (wr.setCell ⟨p, 3, none⟩ (.int .i64 (sz + (f1.length : Int)))) := HI2.out.kp.trans kS (fun x hx => .inl (by simp at hx; simp [hx]))
            refine ⟨rfl, xs5, H5.out.1.kept kL hfo, ?_, hnew, fun h => absurd rfl h, fun _ => ⟨v1, fun k => B k ∨ (w5.heap.size ≤ k ∧ k < wr.heap.size), ⟨HI2.out.log.box.set3 _, ?_, ?_⟩, fun k hk' => ?_, fun k hk' => ⟨fun hb => ?_, (hsp5 k hk').2.1⟩⟩⟩
            · refine (HK5.out.2.1.mono (fun x hx => .inl ?_)).trans kL (fun x hx => .inl ?_)
              · simp [hx]
              · rcases List.mem_cons.1 hx with rfl | hx
                · simp
                · simp [hx]
            · exact (HI2.out.log.row.mono (fun k hk1 hk' => by rcases hk' with h | h; exact .inl h; exact .inr ⟨h, hk1⟩)).kept kS (fun k hk' hb => by
                simp at hk'
                subst hk'
                rcases hb with h | h
                · exact HK5.out.2.2.np h
                · omega)
            · intro hb
              rcases hb with h | h
              · exact HK5.out.2.2.np h
              · omega
            · rcases hk' with h | h
              · exact .inl h
              · exact .inr ⟨by omega, by simpa [World.setCell] using h.2⟩
            · rcases hb with h | h
              · exact (hsp5 k hk').1 h
              · have := (hsp5 k hk').2.2; omega
      · have dd : (e5 != 0) = true := by simpa using h5
        have dd2 : (e5 == 0) = false := by simpa using h5
        have k15 : Kp (foot dp mb xs) w1 w5 := KDR.out.trans H5.out.2.kp (fun x hx => .inl hx)
        have kw5 : Kp (foot dp mb xs) w w5 := (H1.out.2.1.mono (by simp)).trans k15 (fun x hx => .inl hx)
        have hL5 := hid (HL1.out.kept k15 (fun hm => (H0.out.2.2.1 p hm).2 rfl) (fun k hk' => (H0.out.2.2.1 k hk').1))
        have HK5 := hid kw5
        have hz15 : w1.heap.size ≤ wd.heap.size := KDR.out.size
        have hzw1 := H1.out.2.1.size
        clear k15 kw5
        go_wp2_with fail
        rw [← hPP.out, HP.out]
        have hnew : ∀ k ∈ foot dp mb xs5, k ∈ foot dp mb xs ∨ w.heap.size ≤ k := fun k hk' => by rcases H5.out.2.new k hk' with h | h; exact .inl h; exact .inr (by omega)
        refine ⟨rfl, xs5, H5.out.1, HK5.out.mono (fun x hx => .inl (by simp [hx])), hnew, fun _ => ⟨hL5.out, fun k hk' => ?_⟩, fun h => absurd h h5⟩
        rcases hnew k hk' with h | h
        · exact H0.out.2.2.1 k h
        · exact ⟨fun hb => by have := H0.out.2.2.2.1 k hb; omega, fun e => by rw [e] at h; omega⟩
    · have hQ := hq1.out hf2
      subst hQ
      have dd : (f2 != 0) = true := by simpa using hf2
      have dd2 : (f2 == 0) = false := by simpa using hf2
      have hL1 := hid (H0.out.1.kept H1.out.2.1 (by simp) (by simp))
      have hD1 := hid (H0.out.2.1.keptNew H1.out.2.1)
      clear hq1 hq2
      go_wp2_with fail
      rw [← hPP.out, HP.out]
      exact ⟨rfl, xs, hD1.out, H1.out.2.1.mono (by simp), fun k hk => .inl hk, fun _ => ⟨hL1.out, H0.out.2.2.1⟩, fun h => absurd h hf2⟩
end Go.Proofs.YtpkoikennimonaaGreatDoor
end

section
namespace Go.Proofs.YtpkoikennimonaaGreatDoor
open Go.RowKit Go.Hay
set_option linter.unusedVariables false
set_option linter.unusedSimpArgs false

theorem rdF_len : ∀ (f : Nat) (bs : List UInt8), (rdF f bs).2.1 ≤ bs.length ∧ (rdF f bs).1.length ≤ (rdF f bs).2.1
  | 0, bs => by simp [rdF]
  | f + 1, bs => by
    rw [rdF]
    by_cases h1 : bs = []
    · rw [if_pos h1]; simp
    rw [if_neg h1]
    by_cases h2 : (unf bs).2.2 = 10
    · rw [if_pos h2]; simp
    rw [if_neg h2]
    by_cases h3 : (unf bs).2.2 ≠ 0
    · rw [if_pos h3]; simp
    rw [if_neg h3]
    by_cases h4 : (bdy (unf bs).1).2 = false
    · rw [if_pos h4]; simp
    rw [if_neg h4]
    have h3' : (unf bs).2.2 = 0 := by simpa using h3
    obtain ⟨u1, u2, u3⟩ := unf_ok h3'
    have ih := rdF_len f (bs.drop (unf bs).2.1.toNat)
    rw [List.length_drop] at ih
    have hb := bdy_len (unf bs).1 (by simpa using h4)
    by_cases h5 : (rdF f (bs.drop (unf bs).2.1.toNat)).2.2 ≠ 0
    · simp only [if_pos h5]; simp
    · simp only [if_neg h5, List.length_append]
      omega
theorem rdQ_len (bs : List UInt8) : (rdQ bs).2.1 ≤ bs.length ∧ (rdQ bs).1.length ≤ (rdQ bs).2.1 := rdF_len _ _
set_option maxHeartbeats 8000000 in
set_option maxRecDepth 100000 in
theorem cOpen {w : World} {p mb : Nat} {xs : List Ent} {d : Dk} (hD : Disk w p mb xs d) (hs : d.steps < 7000000000000000000) (hB : Small d) (name : List UInt8) (hk : name.length ≤ maxLen) (ht : Tab w) (hfl : (fileOf d.files name).bytes.length ≤ 4000000000000) :
    Calls Tryz.prog 17 #[.pointer (some ⟨p, 0, none⟩), .string ⟨name.toArray⟩] w (OpnP p mb xs (openD rdQ d name) name (rdQ (fileOf d.files name).bytes).1 ((rdQ (fileOf d.files name).bytes).2.1 : Int) w) := by
  obtain ⟨Q, hQ0⟩ : ∃ Q, Hid (openD rdQ d name = Q) := ⟨_, rfl⟩
  rw [hQ0.out]
  have aD := hid (cDead hD)
  have hst := fun c n => doD_steps d c name [] n
  cases hdd : d.dead with
  | true =>
    have hQ : Q = (d, 44) := by rw [← hQ0.out, openD, if_pos hdd]
    subst hQ
    rw [hdd] at aD
    have HF : Hid (OpnP p mb xs (d, 44) name (rdQ (fileOf d.files name).bytes).1 ((rdQ (fileOf d.files name).bytes).2.1 : Int) w (.returned (.tuple #[.pointer none, .int .i64 44])) w) := ⟨_, xs, rfl, hD, Mv.refl _ _, fun _ => rfl, fun h => by cases h⟩
    clear hD hst hQ0
    go_enter Tryz.func17, Tryz.ntmps17
    go_wp2_with fail
    refine aD.out.mono ?_
    rintro e w1 ⟨rfl, rfl⟩
    clear aD
    go_wp2_with fail
    go_ret2
    exact HF.out
  | false =>
    rw [hdd] at aD
    have aR := hid (cRead hD hB name hk)
    cases hlk : lookG Fl.name name d.files with
    | none =>
      have hQ : Q = (d, 42) := by rw [← hQ0.out, openD, if_neg (by simp [hdd])]; simp only [hlk]
      subst hQ
      rw [hlk] at aR
      have HF : Hid (OpnP p mb xs (d, 42) name (rdQ (fileOf d.files name).bytes).1 ((rdQ (fileOf d.files name).bytes).2.1 : Int) w (.returned (.tuple #[.pointer none, .int .i64 42])) w) := ⟨_, xs, rfl, hD, Mv.refl _ _, fun _ => rfl, fun h => by cases h⟩
      clear hD hst hQ0
      go_enter Tryz.func17, Tryz.ntmps17
      go_wp2_with fail
      refine aD.out.mono ?_
      rintro e w1 ⟨rfl, rfl⟩
      clear aD
      go_wp2_with fail
      refine aR.out.mono ?_
      rintro e w2 ⟨rfl, rfl⟩
      clear aR
      go_wp2_with fail
      go_ret2
      exact HF.out
    | some f =>
      have hff : fileOf d.files name = f := by unfold fileOf; rw [hlk]; rfl
      rw [hff] at hfl ⊢
      rw [hlk] at aR
      obtain ⟨fb, hfb⟩ : ∃ fb, f.bytes = fb := ⟨_, rfl⟩
      have hQ1 : Hid ((rdQ fb).2.2 ≠ 0 → Q = (d, (rdQ fb).2.2)) := fun h => by rw [← hQ0.out, openD, if_neg (by simp [hdd])]; simp only [hlk, hfb]; rw [if_pos h]
      have hQ2 : Hid ((rdQ fb).2.2 = 0 → (rdQ fb).2.1 < fb.length → (doD d 2 name [] (rdQ fb).2.1).2 ≠ 0 → Q = doD d 2 name [] (rdQ fb).2.1) := fun h h2 h3 => by rw [← hQ0.out, openD, if_neg (by simp [hdd])]; simp only [hlk, hfb]; rw [if_neg (by simpa using h), if_pos h2, if_pos h3]
      have hQ3 : Hid ((rdQ fb).2.2 = 0 → (rdQ fb).2.1 < fb.length → (doD d 2 name [] (rdQ fb).2.1).2 = 0 → Q = doD (doD d 2 name [] (rdQ fb).2.1).1 1 name [] 0) := fun h h2 h3 => by rw [← hQ0.out, openD, if_neg (by simp [hdd])]; simp only [hlk, hfb]; rw [if_neg (by simpa using h), if_pos h2, if_neg (by simpa using h3)]
      have hQ4 : Hid ((rdQ fb).2.2 = 0 → ¬ (rdQ fb).2.1 < fb.length → Q = doD d 1 name [] 0) := fun h h2 => by rw [← hQ0.out, openD, if_neg (by simp [hdd])]; simp only [hlk, hfb]; rw [if_neg (by simpa using h), if_neg h2]
      have aR' : Hid (Calls Tryz.prog 12 #[.pointer (some ⟨p, 0, none⟩), .string ⟨name.toArray⟩] w fun e w' => ∃ a c, e = .returned (.tuple #[.slice a fb.length c, .bool true]) ∧ Row w' (.slice a fb.length c) fb ∧ Kp [] w w' ∧ ∀ k ∈ blk a, w.heap.size ≤ k) := by rw [← hfb]; exact aR
      rw [hfb] at hfl ⊢
      have hLn := rdQ_len fb
      obtain ⟨⟨L, n, qe⟩, hq⟩ : ∃ q, Hid (rdQ fb = q) := ⟨_, rfl⟩
      rw [hq.out] at hQ1 hQ2 hQ3 hQ4 hLn
      rw [hq.out]
      dsimp only at hQ1 hQ2 hQ3 hQ4 hLn ⊢
      have hplt := hD.lt
      have H0 := hid (And.intro hD (And.intro hB ht))
      clear hQ0 hlk hff aR hfb hD hB ht
      go_enter Tryz.func17, Tryz.ntmps17
      go_wp2_with fail
      refine aD.out.mono ?_
      rintro e w ⟨rfl, rfl⟩
      clear aD
      go_wp2_with fail
      refine aR'.out.mono ?_
      rintro e w2 ⟨a2, c2, rfl, hr2, k2, hn2⟩
      obtain ⟨a2', c2', eb, hs2, -⟩ := hr2.sees
      cases eb
      obtain ⟨a2'', c2'', eb2, hlc2⟩ := hr2.shape
      cases eb2
      have hcm : c2 ≤ maxLen := by
        rcases hr2 with ⟨h1, h2⟩ | ⟨g, o, cap, h1, _, h3, _⟩
        · injection h1 with _ _ h4; rw [h4]; unfold maxLen; omega
        · injection h1 with _ _ h4; rw [h4]; exact h3
      have aQ := hid (cReadQ a2 c2 fb w2 (H0.out.2.2.kept k2 (by simp)) hs2 hlc2 hcm hfl)
      have HK2 := hid k2
      have hz2 := k2.size
      rw [hq.out] at aQ
      clear aR' hr2 k2 hn2 hs2 hq
      go_wp2_with fail
      refine aQ.out.mono ?_
      rintro e w3 ⟨v3, rfl, hrow3, k3⟩
      dsimp only at hrow3
      obtain ⟨va, vc, rfl⟩ := rowPshape hrow3
      have hz3 := k3.size
      have hD3 := (H0.out.1.keptNew HK2.out).keptNew k3
      have kw3 := HK2.out.trans k3 (by simp)
      have hrB : RowP (fun k => w2.heap.size ≤ k ∧ k < w3.heap.size) w3 (.slice va L.length vc) L := hrow3.mono (fun k h1 h2 => ⟨h2, h1⟩)
      have hsp : ∀ w4 xs4 d4, Disk w4 p mb xs4 d4 → Mv (foot p mb xs) w3 (foot p mb xs4) w4 → ∀ k ∈ foot p mb xs4, ¬ (w2.heap.size ≤ k ∧ k < w3.heap.size) := fun w4 xs4 d4 hD4 m4 k hk' hb => by
        rcases m4.new k hk' with h | h
        · have := hplt k h; omega
        · omega
      have hEnd : Hid (∀ w4 xs4 d4, Disk w4 p mb xs4 d4 → Mv (foot p mb xs) w3 (foot p mb xs4) w4 → OpnP p mb xs (d4, 0) name L (n : Int) w (.returned (.tuple #[.pointer (some ⟨w4.heap.size, 0, none⟩), .int .i64 0])) (w4.alloc (.cells #[.pointer (some ⟨p, 0, none⟩), .string ⟨name.toArray⟩, .slice va L.length vc, .int .i64 (n : Int)] 73))) := fun w4 xs4 d4 hD4 m4 => by
        have kn : Kp [] w4 (w4.alloc (.cells #[.pointer (some ⟨p, 0, none⟩), .string ⟨name.toArray⟩, .slice va L.length vc, .int .i64 (n : Int)] 73)) := (Kp.refl _ _).alloc _
        have m34 := m4.trans (Mv.ofNew kn)
        have hz4 := m4.kp.size
        refine ⟨_, xs4, rfl, hD4.keptNew kn, (Mv.ofNew kw3).trans m34, fun h => absurd rfl h, fun _ => ⟨w4.heap.size, .slice va L.length vc, fun k => w2.heap.size ≤ k ∧ k < w3.heap.size, rfl, ⟨Lg.new w4 p name _ _ _, ?_, fun h => by omega⟩, by omega, fun k hb => ⟨by omega, by have := kn.size; omega⟩, fun k hk' => ⟨hsp w4 xs4 d4 hD4 m4 k hk', fun e => by have := hD4.lt k hk'; omega⟩⟩⟩
        exact (hrB.kept m4.kp (fun k hk' hb => by have := hplt k hk'; omega)).kept kn (by simp)
      have hBad : Hid (∀ w4 xs4 d4 (e4 : Int), e4 ≠ 0 → Disk w4 p mb xs4 d4 → Mv (foot p mb xs) w3 (foot p mb xs4) w4 → OpnP p mb xs (d4, e4) name L (n : Int) w (.returned (.tuple #[.pointer none, .int .i64 e4])) w4) := fun w4 xs4 d4 e4 h4 hD4 m4 => ⟨_, xs4, rfl, hD4, (Mv.ofNew kw3).trans m4, fun _ => rfl, fun h => absurd h h4⟩
      have HD3 := hid hD3
      clear aQ hrow3 k3 hD3 kw3 hrB hsp
      by_cases hqe : qe = 0
      · by_cases hnl : n < fb.length
        · have hQ2' := hid (hQ2.out hqe hnl)
          have hQ3' := hid (hQ3.out hqe hnl)
          subst hqe
          have a3 := hid (cTruncate HD3.out (by omega) name hk [] (n : Int) (by omega) (by omega) H0.out.2.1)
          have hst2 := hst 2 (n : Int)
          obtain ⟨⟨d3, e3⟩, hr3⟩ : ∃ r, Hid (doD d 2 name [] (n : Int) = r) := ⟨_, rfl⟩
          rw [hr3.out] at a3 hQ2' hQ3' hst2
          dsimp only at hQ2' hQ3' hst2
          have dn1 : (n : Int) < (fb.length : Int) := by omega
          clear hQ1 hQ2 hQ3 hQ4 hr3 hst
          go_wp2_with fail
          refine a3.out.mono ?_
          rintro e w3' ⟨rfl, xs3, hD3', m3⟩
          dsimp only at hD3'
          have HH := hid (And.intro hD3' m3)
          clear a3 hD3' m3 HD3
          by_cases h3 : e3 = 0
          · have hQ := hQ3'.out h3
            subst h3
            clear hQ2' hQ3'
            have a4 := hid (cSync HH.out.1 (by omega) name hk [] 0)
            obtain ⟨⟨d4, e4⟩, hr4⟩ : ∃ r, Hid (doD d3 1 name [] 0 = r) := ⟨_, rfl⟩
            rw [hr4.out] at a4 hQ
            subst hQ
            clear hr4
            go_wp2_with fail
            refine a4.out.mono ?_
            rintro e w4 ⟨rfl, xs4, hD4, m4⟩
            have H4 := hid (And.intro hD4 (HH.out.2.trans m4))
            clear a4 hD4 m4 HH
            by_cases h4 : e4 = 0
            · subst h4
              have HE := hEnd.out w4 xs4 d4 H4.out.1 H4.out.2
              have HE' := hid HE
              clear HE hEnd
              go_wp2_with fail
              go_ret2
              exact HE'.out
            · have dd : (e4 != 0) = true := by simpa using h4
              have dd2 : (e4 == 0) = false := by simpa using h4
              have HE := hid (hBad.out w4 xs4 d4 e4 h4 H4.out.1 H4.out.2)
              clear hEnd hBad
              go_wp2_with fail
              go_ret2
              exact HE.out
          · have hQ := hQ2'.out h3
            subst hQ
            have dd : (e3 != 0) = true := by simpa using h3
            have dd2 : (e3 == 0) = false := by simpa using h3
            have HE := hid (hBad.out w3' xs3 d3 e3 h3 HH.out.1 HH.out.2)
            clear hEnd hBad hQ2' hQ3'
            go_wp2_with fail
            go_ret2
            exact HE.out
        · have hQ := hQ4.out hqe hnl
          subst hqe
          have dn1 : decide ((n : Int) < (fb.length : Int)) = false := by simp; omega
          have HH := hid (And.intro HD3.out (Mv.refl (foot p mb xs) w3))
          clear hQ1 hQ2 hQ3 hQ4 hst HD3
          have a4 := hid (cSync HH.out.1 (by omega) name hk [] 0)
          obtain ⟨⟨d4, e4⟩, hr4⟩ : ∃ r, Hid (doD d 1 name [] 0 = r) := ⟨_, rfl⟩
          rw [hr4.out] at a4 hQ
          subst hQ
          clear hr4
          go_wp2_with fail
          refine a4.out.mono ?_
          rintro e w4 ⟨rfl, xs4, hD4, m4⟩
          have H4 := hid (And.intro hD4 (HH.out.2.trans m4))
          clear a4 hD4 m4 HH
          by_cases h4 : e4 = 0
          · subst h4
            have HE := hEnd.out w4 xs4 d4 H4.out.1 H4.out.2
            have HE' := hid HE
            clear HE hEnd
            go_wp2_with fail
            go_ret2
            exact HE'.out
          · have dd : (e4 != 0) = true := by simpa using h4
            have dd2 : (e4 == 0) = false := by simpa using h4
            have HE := hid (hBad.out w4 xs4 d4 e4 h4 H4.out.1 H4.out.2)
            clear hEnd hBad
            go_wp2_with fail
            go_ret2
            exact HE.out
      · have hQ := hQ1.out hqe
        subst hQ
        have dd : (qe != 0) = true := by simpa using hqe
        have dd2 : (qe == 0) = false := by simpa using hqe
        have HE := hid (hBad.out w3 xs d qe hqe HD3.out (Mv.refl _ _))
        clear hEnd hBad hQ1 hQ2 hQ3 hQ4 hst HD3
        go_wp2_with fail
        go_ret2
        exact HE.out
end Go.Proofs.YtpkoikennimonaaGreatDoor
end

section
namespace Go.Proofs.YtpkoikennimonaaGreatDoor
open Go.RowKit Go.Hay
set_option linter.unusedVariables false

theorem set_split (bs : List UInt8) (i : Nat) (hi : i < bs.length) (y : UInt8) (h : bs[i] ≠ y) : crc bs ≠ crc (bs.set i y) := by
  have e1 : bs = bs.take i ++ bs[i] :: bs.drop (i + 1) := by simp
  rw [List.set_eq_take_append_cons_drop, if_pos hi]
  conv => lhs; rw [e1]
  exact crc_byte _ _ _ _ h
theorem rowFull {w : World} {v : Value} {bs : List UInt8} (h : Row w v bs) : ∃ a c, v = .slice a bs.length c ∧ Sees w a bs ∧ bs.length ≤ c ∧ c ≤ maxLen ∧ own v = blk a := by
  rcases h with ⟨rfl, rfl⟩ | ⟨g, o, cap, rfl, hl, hm, hg, hc, ht⟩
  · exact ⟨none, 0, rfl, .inl rfl, Nat.le_refl _, Nat.zero_le _, rfl⟩
  · exact ⟨_, _, rfl, .inr ⟨g, o, rfl, hc⟩, hl, hm, rfl⟩

theorem unf_parts (L C R : List UInt8) (hL : L.length = 4) (hC : C.length = 4) : unf (L ++ (C ++ R)) =
    if num C ≠ crc L then ([], 0, 14) else if 16777216 < num L then ([], 0, 12) else if R.length < num L + 4 then ([], 0, 10)
    else if num ((R.drop (num L)).take 4) ≠ crc (R.take (num L)) then ([], 0, 14) else (R.take (num L), ((num L + 12 : Nat) : Int), 0) := by
  have e1 : (L ++ (C ++ R)).take 4 = L := by rw [List.take_append_of_le_length (by omega), List.take_of_length_le (by omega)]
  have e2 : (L ++ (C ++ R)).drop 4 = C ++ R := by rw [← hL, List.drop_left]
  have e3 : (C ++ R).take 4 = C := by rw [List.take_append_of_le_length (by omega), List.take_of_length_le (by omega)]
  have e4 : (L ++ (C ++ R)).drop 8 = R := by
    rw [show 8 = 4 + 4 from rfl, ← List.drop_drop, e2, ← hC, List.drop_left]
  have e5 : ∀ m, (L ++ (C ++ R)).drop (8 + m) = R.drop m := fun m => by rw [← List.drop_drop, e4]
  have hlen : (L ++ (C ++ R)).length = 8 + R.length := by simp only [List.length_append]; omega
  unfold unf
  rw [if_neg (by omega), e1, e2, e3, e4, e5, hlen]
  by_cases h1 : num C ≠ crc L
  · rw [if_pos h1, if_pos h1]
  · rw [if_neg h1, if_neg h1]
    by_cases h2 : 16777216 < num L
    · rw [if_pos h2, if_pos h2]
    · rw [if_neg h2, if_neg h2]
      by_cases h3 : R.length < num L + 4
      · rw [if_pos h3, if_pos (by omega)]
      · rw [if_neg h3, if_neg (by omega)]

theorem num_be4 (n : Nat) (h : n < 4294967296) : num (be n 4) = n := by rw [num_be]; exact Nat.mod_eq_of_lt (by omega)
theorem num_inj (a b : List UInt8) (hl : a.length = b.length) (h : num a = num b) : a = b := by rw [← be_num a, ← be_num b, h, hl]
theorem frame_split (bs : List UInt8) (more : List UInt8) : frameB bs ++ more = be bs.length 4 ++ (be (crc (be bs.length 4)) 4 ++ (bs ++ (be (crc bs) 4 ++ more))) := by simp [frameB]

theorem unf_tail (bs E Z : List UInt8) (h : bs.length ≤ 16777216) (X : List UInt8) (hX : X.length = bs.length) (hE : E.length = 4) :
    unf (be bs.length 4 ++ (be (crc (be bs.length 4)) 4 ++ (X ++ (E ++ Z)))) = if num E ≠ crc X then ([], 0, 14) else (X, ((bs.length + 12 : Nat) : Int), 0) := by
  rw [unf_parts _ _ _ (be_length _ _) (be_length _ _), num_be4 _ (crc_lt _), num_be4 bs.length (by omega), if_neg (fun h => h rfl), if_neg (by omega), if_neg (by simp; omega), ← hX, List.drop_left, List.take_left]
  rw [List.take_append_of_le_length (by omega), List.take_of_length_le (by omega)]
theorem unf_frame (bs more : List UInt8) (h : bs.length ≤ 16777216) : unf (frameB bs ++ more) = (bs, ((bs.length + 12 : Nat) : Int), 0) := by
  rw [frame_split, unf_tail bs _ _ h bs rfl (be_length _ _), num_be4 _ (crc_lt _), if_neg (fun h => h rfl)]
theorem unf_cut (bs : List UInt8) (h : bs.length ≤ 16777216) (k : Nat) (hk : k < bs.length + 12) : unf ((frameB bs).take k) = ([], 0, 10) := by
  have hl := frameB_length bs
  by_cases h8 : k < 8
  · unfold unf
    rw [if_pos (by rw [List.length_take]; omega)]
  · have e : (frameB bs).take k = be bs.length 4 ++ (be (crc (be bs.length 4)) 4 ++ ((bs ++ be (crc bs) 4).take (k - 8))) := by
      have := frame_split bs []
      rw [List.append_nil, List.append_nil] at this
      rw [this, List.take_append, be_length, List.take_of_length_le (by rw [be_length]; omega), List.take_append, be_length, List.take_of_length_le (by rw [be_length]; omega)]
      congr 3
    rw [e, unf_parts _ _ _ (be_length _ _) (be_length _ _), num_be4 _ (crc_lt _), num_be4 bs.length (by omega), if_neg (fun h => h rfl), if_neg (by omega), if_pos (by rw [List.length_take, List.length_append, be_length]; omega)]
theorem unf_turned (bs : List UInt8) (h : bs.length ≤ 16777216) (i : Nat) (hi : i < (frameB bs).length) (y : UInt8) (hy : (frameB bs)[i] ≠ y) : unf ((frameB bs).set i y) = ([], 0, 14) := by
  have hl := frameB_length bs
  have key : ∀ (a b : List UInt8) (j : Nat) (z : UInt8), a.length = b.length → j < a.length → a[j]? ≠ some z → a.set j z = b → num a ≠ num b := by
    intro a b j z hab hj hne he hn
    have := num_inj a b hab hn
    subst this
    apply hne
    have h2 := congrArg (fun l => l[j]?) he
    simp only [List.getElem?_set_self hj] at h2
    exact h2.symm
  have fs := frame_split bs []
  simp only [List.append_nil] at fs
  have hget : (frameB bs)[i]? ≠ some y := by rw [List.getElem?_eq_getElem hi]; intro e; exact hy (Option.some.inj e)
  rw [fs] at hget ⊢
  have hcL : num (be (crc (be bs.length 4)) 4) = crc (be bs.length 4) := num_be4 _ (crc_lt _)
  by_cases c1 : i < 4
  · rw [List.getElem?_append_left (by rw [be_length]; omega)] at hget
    rw [List.set_append_left _ _ (by rw [be_length]; omega), unf_parts _ _ _ (by rw [List.length_set, be_length]) (be_length _ _), if_pos]
    rw [hcL]
    refine set_split _ i (by rw [be_length]; omega) y (fun e => hget ?_)
    rw [← e, List.getElem?_eq_getElem]
  rw [List.getElem?_append_right (by rw [be_length]; omega)] at hget
  rw [List.set_append_right _ _ (by rw [be_length]; omega)]
  rw [be_length] at hget ⊢
  by_cases c2 : i - 4 < 4
  · rw [List.getElem?_append_left (by rw [be_length]; omega)] at hget
    rw [List.set_append_left _ _ (by rw [be_length]; omega), unf_parts _ _ _ (be_length _ _) (by rw [List.length_set, be_length]), if_pos]
    intro e
    exact key _ _ (i - 4) y (by rw [List.length_set]) (by rw [be_length]; omega) hget rfl (by rw [e, hcL])
  rw [List.getElem?_append_right (by rw [be_length]; omega)] at hget
  rw [List.set_append_right _ _ (by rw [be_length]; omega)]
  rw [be_length] at hget ⊢
  by_cases c3 : i - 4 - 4 < bs.length
  · rw [List.getElem?_append_left c3] at hget
    rw [List.set_append_left _ _ c3]
    have := unf_tail bs (be (crc bs) 4) [] h (bs.set (i - 4 - 4) y) (by rw [List.length_set]) (be_length _ _)
    rw [List.append_nil] at this
    rw [this, if_pos]
    rw [num_be4 _ (crc_lt _)]
    refine set_split _ _ c3 y (fun e => hget ?_)
    rw [← e, List.getElem?_eq_getElem]
  · rw [List.getElem?_append_right (by omega)] at hget
    rw [List.set_append_right _ _ (by omega)]
    have := unf_tail bs ((be (crc bs) 4).set (i - 4 - 4 - bs.length) y) [] h bs rfl (by rw [List.length_set, be_length])
    rw [List.append_nil] at this
    rw [this, if_pos]
    intro e
    exact key _ _ (i - 4 - 4 - bs.length) y (by rw [List.length_set]) (by rw [be_length]; omega) hget rfl (by rw [e, num_be4 _ (crc_lt _)])
end Go.Proofs.YtpkoikennimonaaGreatDoor
end

section
namespace Go.Proofs.YtpkoikennimonaaGreatDoor
open Go.RowKit Go.Hay
set_option linter.unusedVariables false
theorem takeS_app (k : Nat) (xs rest : List UInt8) (h : xs.length = k) : takeS k (xs ++ rest) 0 = (xs, rest, 0) := by
  unfold takeS
  rw [if_neg (by simp), if_neg (by rw [List.length_append]; omega), List.take_append_of_le_length (by omega), List.take_of_length_le (by omega), ← h, List.drop_left]
theorem takeS_short (k : Nat) (P : List UInt8) (h : P.length < k) : takeS k P 0 = ([], P, 10) := by
  unfold takeS
  rw [if_neg (by simp), if_pos h]
theorem takeS_bad (k : Nat) (P : List UInt8) (e : Int) (h : e ≠ 0) : takeS k P e = ([], P, e) := by
  unfold takeS
  rw [if_pos h]
/-- The parts of a Var. -/
theorem varB_parts (n : Int) (h0 : 0 ≤ n) (h1 : n < 18446744073709551616) : ∃ f k : Nat, f < 256 ∧ k ≤ 8 ∧ varB n = octet f :: be n.toNat k ∧ behindI f = k ∧ leadI n = f ∧ n.toNat % 256 ^ k = (if k = 0 then 0 else n.toNat) ∧ (k = 0 → n = f) := by
  by_cases a : n < 253
  · refine ⟨n.toNat, 0, by omega, by omega, ?_, ?_, ?_, by simp [Nat.mod_one], fun _ => by omega⟩
    · have e : leadI n = n := by simp [leadI, a]
      have e2 : behindI n = 0 := by unfold behindI; rw [if_neg (by omega), if_neg (by omega), if_neg (by omega)]
      simp [varB, e, e2, be, show ((n.toNat : Nat) : Int) = n by omega]
    · unfold behindI; rw [if_neg (by omega), if_neg (by omega), if_neg (by omega)]; rfl
    · rw [leadI, if_pos a]; omega
  by_cases b : n < 65536
  · exact ⟨253, 2, by omega, by omega, by simp [varB, leadI, behindI, a, b], by simp [behindI], by simp [leadI, a, b], by rw [if_neg (by omega)]; exact Nat.mod_eq_of_lt (by omega), fun h => by omega⟩
  by_cases c : n < 4294967296
  · exact ⟨254, 4, by omega, by omega, by simp [varB, leadI, behindI, a, b, c], by simp [behindI], by simp [leadI, a, b, c], by rw [if_neg (by omega)]; exact Nat.mod_eq_of_lt (by omega), fun h => by omega⟩
  · exact ⟨255, 8, by omega, by omega, by simp [varB, leadI, behindI, a, b, c], by simp [behindI], by simp [leadI, a, b, c], by rw [if_neg (by omega)]; exact Nat.mod_eq_of_lt (by omega), fun h => by omega⟩
theorem octet_f (f : Nat) (h : f < 256) : (octet (f : Int)).toNat = f := by
  have := octet_toNat (f : Int) (by omega) (by omega)
  omega
theorem fv_varB (n : Int) (h0 : 0 ≤ n) (h1 : n < 18446744073709551616) (rest : List UInt8) : fv (varB n ++ rest) = (n, ((varB n).length : Int), 0) := by
  obtain ⟨f, k, hf, hk, hv, hb, hl, hm, hz⟩ := varB_parts n h0 h1
  rw [hv, List.cons_append]
  simp only [fv, octet_f f hf, hb, List.length_cons, be_length, List.length_append]
  by_cases hk0 : k = 0
  · subst hk0
    have := hz rfl
    rw [if_pos (by rfl)]
    simp only [this]
    rfl
  · rw [if_neg (by omega), if_neg (by omega), Int.toNat_natCast, List.take_append_of_le_length (by rw [be_length]; omega), List.take_of_length_le (by rw [be_length]; omega), num_be, hm, if_neg hk0, show ((n.toNat : Nat) : Int) = n by omega, hl, if_neg (fun h => h rfl)]
    simp
    omega
theorem fv_short (n : Int) (h0 : 0 ≤ n) (h1 : n < 18446744073709551616) (c : Nat) (hc : c < (varB n).length) : (fv ((varB n).take c)).2.2 = 10 := by
  obtain ⟨f, k, hf, hk, hv, hb, hl, hm, hz⟩ := varB_parts n h0 h1
  rw [hv] at hc ⊢
  simp only [List.length_cons, be_length] at hc
  cases c with
  | zero => rfl
  | succ c =>
    rw [List.take_succ_cons]
    simp only [fv, octet_f f hf, hb]
    rw [if_neg (by omega), if_pos (by rw [List.length_take, be_length]; omega)]
theorem varS_app (most n : Int) (h0 : 0 ≤ n) (h1 : n < 18446744073709551616) (hm : n ≤ most) (rest : List UInt8) : varS most (varB n ++ rest) 0 = (n, rest, 0) := by
  unfold varS
  rw [if_neg (by simp), fv_varB n h0 h1, if_neg (by simp), if_neg (by show ¬ most < n; omega)]
  simp only [Int.toNat_natCast, List.drop_left]
theorem varS_short (most n : Int) (h0 : 0 ≤ n) (h1 : n < 18446744073709551616) (c : Nat) (hc : c < (varB n).length) : varS most ((varB n).take c) 0 = (0, (varB n).take c, 10) := by
  unfold varS
  rw [if_neg (by simp), fv_short n h0 h1 c hc, if_pos (by simp)]
theorem varS_bad (most : Int) (bs : List UInt8) (e : Int) (h : e ≠ 0) : varS most bs e = (0, bs, e) := by
  unfold varS
  rw [if_pos h]
theorem rawS_nat (n : Nat) (bs : List UInt8) (e : Int) : rawS n bs e = takeS n bs e := by
  unfold rawS
  rw [if_neg (by omega), Int.toNat_natCast]
theorem countS_nat (n : Nat) (bs : List UInt8) (e : Int) : countS n bs e = varS n bs e := by
  unfold countS
  rw [if_pos (by omega)]
theorem textS_app (x rest : List UInt8) (h : x.length ≤ 16777216) : textS 16777216 (textB x ++ rest) 0 = (x, rest, 0) := by
  have hc : countS 16777216 (textB x ++ rest) 0 = ((x.length : Int), x ++ rest, 0) := by
    unfold countS textB
    rw [if_pos (by omega), List.append_assoc]
    exact varS_app 16777216 x.length (by omega) (by omega) (by omega) _
  rw [textS_good 16777216 _ _ 0 _ hc (by omega) (by rw [List.length_append]; omega), rawS_nat]
  exact takeS_app _ _ _ rfl
theorem lstS_app : ∀ (R : List (List UInt8)) (rest : List UInt8), (∀ x ∈ R, x.length ≤ 16777216) → lstS R.length (R.flatMap textB ++ rest) 0 = (R, rest, 0)
  | [], rest, _ => by simp [lstS]
  | x :: R, rest, h => by
    have e : (x :: R).flatMap textB ++ rest = textB x ++ (R.flatMap textB ++ rest) := by simp
    rw [e, List.length_cons, lstS_good _ _ _ _ (textS_app x _ (h x (by simp))), lstS_app R rest (fun y hy => h y (by simp [hy]))]
theorem rec_in {R : List (List UInt8)} (h : (recB R).length ≤ 16777216) : R.length ≤ 16777216 ∧ ∀ x ∈ R, x.length ≤ 16777216 := by
  have e : recB R = varB R.length ++ R.flatMap textB := rfl
  rw [e, List.length_append] at h
  have key : ∀ S : List (List UInt8), S.length ≤ (S.flatMap textB).length ∧ ∀ x ∈ S, x.length ≤ (S.flatMap textB).length := by
    intro S
    induction S with
    | nil => simp
    | cons x S ih =>
      have ht := textB_len x
      have e2 : ((x :: S).flatMap textB).length = (textB x).length + (S.flatMap textB).length := by simp
      rw [e2]
      refine ⟨by rw [List.length_cons]; omega, fun y hy => ?_⟩
      rcases List.mem_cons.1 hy with rfl | hy
      · omega
      · have := ih.2 y hy; omega
  have k := key R
  exact ⟨by omega, fun x hx => by have := k.2 x hx; omega⟩
/-- What was framed is told. -/
theorem bdy_rec (R : List (List UInt8)) (h : (recB R).length ≤ 16777216) : bdy (recB R) = (R, true) := by
  obtain ⟨h1, h2⟩ := rec_in h
  have hc : countS 16777216 (recB R) 0 = ((R.length : Int), R.flatMap textB, 0) := by
    unfold countS recB
    rw [if_pos (by omega)]
    exact varS_app 16777216 R.length (by omega) (by omega) (by omega) _
  have hl := lstS_app R [] h2
  rw [List.append_nil] at hl
  unfold bdy
  rw [hc]
  dsimp only
  rw [Int.toNat_natCast, hl]
  rfl
theorem rdQ_frame (R : List (List UInt8)) (h : (recB R).length ≤ 16777216) (rest : List UInt8) : rdQ (frameB (recB R) ++ rest) = finQ R (frameB (recB R)).length (rdQ rest) := by
  have hu := unf_frame (recB R) rest h
  have hne : frameB (recB R) ++ rest ≠ [] := fun e => by have := congrArg List.length e; rw [List.length_append, frameB_length] at this; simp at this
  have hs := finQ_step [] 0 hne (by rw [hu]) (by rw [hu]; simp [bdy_rec R h])
  rw [finQ_start, hu] at hs
  simp only [bdy_rec R h, List.nil_append, Nat.zero_add, Int.toNat_natCast] at hs
  have e1 : (recB R).length + 12 = (frameB (recB R)).length := (frameB_length _).symm
  rw [e1, List.drop_left] at hs
  exact hs
end Go.Proofs.YtpkoikennimonaaGreatDoor
end

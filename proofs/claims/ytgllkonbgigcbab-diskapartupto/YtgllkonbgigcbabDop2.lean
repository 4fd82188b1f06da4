/- Rename, Remove. -/
import Derived.Test.YtgllkonbgigcbabDops
namespace Go.Proofs.Ytgllkonbgigcbab
open Go.RowKit Go.Hay Go.Maps
set_option linter.unusedVariables false
set_option linter.unusedSimpArgs false

set_option maxHeartbeats 1000000 in
set_option maxRecDepth 100000 in
theorem cRemove {w : World} {p mb : Nat} {xs : List Ent} {d : Dk} (hD : Disk w p mb xs d) (hs : d.steps < 9000000000000000000) (name : List UInt8) (hk : name.length ≤ maxLen) (to : List UInt8) (n : Int) :
    Calls Try.prog 9 #[.pointer (some ⟨p, 0, none⟩), .string ⟨name.toArray⟩] w (ChgP p mb xs (doD d 4 name to n) w) := by
  have c1 := hD.hd.c1
  have c4 := hD.hd.c4
  have hl := lookF hD.map name hk
  have hlk := hD.look name
  go_enter Try.func9, Try.ntmps9
  cases hd : d.dead with
  | true =>
    have hfin := ChgP.same hD (ref_dead hd 4 name to n)
    rw [hd] at c4
    go_wp2_with fail
    go_ret
    exact hfin
  | false =>
    rw [hd] at c4
    cases hx : lookG Ent.name name xs with
    | none =>
      rw [hx] at hl
      have hfin := ChgP.same hD (ref_none hd (by rw [hlk, hx]; rfl) 4 to n)
      simp only [ptrOf] at hl
      go_wp2_with fail
      go_ret
      exact hfin
    | some x =>
      rw [hx] at hl hlk
      simp only [ptrOf] at hl
      have hr0 : refusedD d 4 name to n = 0 := by simp [refusedD, hd, hlk]
      have hst := cStep hD hs hd
      have hdies := @do_dies d 4 name to n hr0
      have hdone := @do_done d 4 name to n hr0
      obtain ⟨ef, _, _⟩ := stepD_files d
      generalize stepD d = sd at *
      obtain ⟨d1, b⟩ := sd
      simp only at hst hdies hdone ef
      clear hr0
      go_wp2_with fail
      refine hst.mono ?_
      rintro e w1 ⟨rfl, hD1, k1⟩
      cases b with
      | true =>
        go_wp2_with fail
        go_ret
        rw [hdies (by trivial)]
        exact ⟨rfl, xs, hD1, mvStep k1⟩
      | false =>
        obtain ⟨w2, hrun, hown, kp⟩ := dropF hD1.map name hk 0
        have hre := hD1.removed name kp hown
        have hfin : ChgP p mb xs (doD d 4 name to n) w (.returned (.int .i64 0)) w2 := by
          rw [hdone (by trivial)]
          refine ⟨rfl, _, ?_, (mvStep k1).trans hre.2⟩
          show Disk _ p mb _ { d1 with files := changedF d.files 4 name to n }
          have e : changedF d.files 4 name to n = dropG Fl.name name d1.files := by simp [changedF, ef]
          rw [e]
          exact hre.1
        have c1' := hD1.hd.c1
        clear hre hown hdone hdies hlk ef hx hst c1
        go_wp2_with fail
        go_ret
        exact hfin

set_option maxHeartbeats 1000000 in
set_option maxRecDepth 100000 in
theorem cRename {w : World} {p mb : Nat} {xs : List Ent} {d : Dk} (hD : Disk w p mb xs d) (hs : d.steps < 9000000000000000000) (hN : xs.length < 9000000000000000000) (name to : List UInt8) (hk : name.length ≤ maxLen) (hkt : to.length ≤ maxLen) (n : Int) :
    Calls Try.prog 21 #[.pointer (some ⟨p, 0, none⟩), .string ⟨name.toArray⟩, .string ⟨to.toArray⟩] w (ChgP p mb xs (doD d 3 name to n) w) := by
  have c1 := hD.hd.c1
  have c4 := hD.hd.c4
  have hl := lookF hD.map name hk
  have hlk := hD.look name
  go_enter Try.func21, Try.ntmps21
  cases hd : d.dead with
  | true =>
    have hfin := ChgP.same hD (ref_dead hd 3 name to n)
    rw [hd] at c4
    cases hx : lookG Ent.name name xs with
    | none =>
      rw [hx] at hl
      simp only [ptrOf] at hl
      go_wp2_with fail
      go_ret
      exact hfin
    | some x =>
      rw [hx] at hl
      simp only [ptrOf] at hl
      go_wp2_with fail
      go_ret
      exact hfin
  | false =>
    rw [hd] at c4
    cases hx : lookG Ent.name name xs with
    | none =>
      rw [hx] at hl
      have hfin := ChgP.same hD (ref_none hd (by rw [hlk, hx]; rfl) 3 to n)
      simp only [ptrOf] at hl
      go_wp2_with fail
      go_ret
      exact hfin
    | some x =>
      rw [hx] at hl hlk
      simp only [ptrOf] at hl
      have hnm : ∀ w, Calls Try.prog 29 #[.string ⟨to.toArray⟩] w fun e w' => e = .returned (.bool (nameOk to)) ∧ w' = w := fun w => cIsName ⟨to.toArray⟩ w (by simpa [ByteArray.size] using hkt)
      cases hto : nameOk to with
      | false =>
        rw [hto] at hnm
        have hfin : ChgP p mb xs (doD d 3 name to n) w (.returned (.int .i64 40)) w := ChgP.same hD (by simp [doD, refusedD, hd, hlk, hto])
        go_wp2_with fail
        refine (hnm w).mono ?_
        rintro e w1 ⟨rfl, rfl⟩
        go_wp2_with fail
        go_ret
        exact hfin
      | true =>
        rw [hto] at hnm
        have hr0 : refusedD d 3 name to n = 0 := by simp [refusedD, hd, hlk, hto]
        have hst := cStep hD hs hd
        have hdies := @do_dies d 3 name to n hr0
        have hdone := @do_done d 3 name to n hr0
        obtain ⟨ef, _, _⟩ := stepD_files d
        generalize stepD d = sd at *
        obtain ⟨d1, b⟩ := sd
        simp only at hst hdies hdone ef
        clear hr0
        go_wp2_with fail
        refine (hnm w).mono ?_
        rintro e w0 ⟨rfl, rfl⟩
        go_wp2_with fail
        refine hst.mono ?_
        rintro e w1 ⟨rfl, hD1, k1⟩
        cases b with
        | true =>
          go_wp2_with fail
          go_ret
          rw [hdies (by trivial)]
          exact ⟨rfl, xs, hD1, mvStep k1⟩
        | false =>
          obtain ⟨w2, hrun, hown, kp⟩ := dropF hD1.map name hk 0
          have hlen : (dropG Ent.name name xs).length ≤ xs.length := List.length_filter_le _ _
          obtain ⟨w3, hrun3, hown3, kp3⟩ := storeF hown (riseG_drop name hD1.rise) (by unfold maxLen; omega) { x with name := to } hkt
          have hre := hD1.renamed hx to hto (kp.trans kp3 (fun _ h => .inl h)) hown3
          have hfin : ChgP p mb xs (doD d 3 name to n) w0 (.returned (.int .i64 0)) w3 := by
            rw [hdone (by trivial)]
            refine ⟨rfl, _, ?_, (mvStep k1).trans hre.2⟩
            show Disk _ p mb _ { d1 with files := changedF d.files 3 name to n }
            have e : changedF d.files 3 name to n = putG Fl.name { x.fl with name := to } false (dropG Fl.name name d1.files) := by simp [changedF, ef, fileOf_some hlk]
            rw [e]
            exact hre.1
          have c1' := hD1.hd.c1
          have c2' : w2.cell? ⟨p, 1, none⟩ = some (.map (some mb)) := (kp.cell (p := ⟨p, 1, none⟩) hD1.hd.lt (by simpa using hD1.pm)).trans c1'
          simp only at hrun3
          clear hre hown hown3 hdone hdies hlk ef hx hst c1 hto
          go_wp2_with fail
          go_ret
          exact hfin
end Go.Proofs.Ytgllkonbgigcbab

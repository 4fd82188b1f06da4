/- NetOrder: the walk. -/
import Derived.Test.YtgegdlllmpinfaaNord
import Derived.Deep.RegionHeld3
namespace Go.Proofs.Ytgegdlllmpinfaa
open Go.RowKit Go.Hay
set_option linter.unusedVariables false
set_option linter.unusedSimpArgs false

set_option maxHeartbeats 8000000 in
set_option maxRecDepth 100000 in
theorem orderWalk (a : Option Addr) (c : Nat) (l : List Bs) (a' : Option Addr) (c' : Nat) (tk : List Bool) (W : World) (hs : BsE.See W a l) (hok : ∀ x ∈ l, x.ok W) (hfew : ∀ x ∈ l, Few x) (hl : l.length ≤ 5900000000000) (ht : BoolE.See W a' tk) (htl : tk.length ≤ 1000000000000000) :
    Calls Try.prog 4 #[.slice a l.length c, .slice a' tk.length c'] W (fun e W' => e = .returned (.bool true) ∧ Kp [] W W') := by
  go_enter Try.func4, Try.ntmps4
  go_wp2_with fail
  refine (cBegun l.length W).mono ?_
  rintro e w1 ⟨p, rfl, hN1, k1, hp⟩
  have I0 : OrdI p l W 0 0 w1 := ⟨Nat.le_refl _, Nat.zero_le _, ⟨_, hN1, by simp [own, Value.ownBlock]⟩, k1⟩
  go_wp2_with fail
  go_loopw [7, 26] (fun nx i wn => ∃ (n j : Nat), nx = .int .i64 n ∧ i = .int .i64 j ∧ OrdI p l W n j wn) (fun _ i _ => l.length - (intOf i).toNat)
  case atStart => exact ⟨0, 0, rfl, rfl, I0⟩
  case round =>
    obtain ⟨n, j, rfl, rfl, I⟩ := hrel
    obtain ⟨v, hN, ho⟩ := I.net
    have kw := I.kp
    by_cases hj : j < l.length
    · obtain ⟨x, hx⟩ : ∃ x, l[j]? = some x := ⟨l[j], by simp [hj]⟩
      obtain ⟨g, o, rfl, cx⟩ := bsAt (hs.keptNew kw) hx
      have hb : bsOf l j = x.bs := by unfold bsOf; rw [hx]
      have a1 := cSend hN (by simp only [msgs_len]; have := I.il; omega) (j : Int) x.a x.c x.bs ((hok x (List.mem_of_getElem? hx)).see.kept kw (by simp))
      go_wp2_with fail
      refine a1.mono ?_
      intro e w2 he
      rw [← hb] at he
      obtain ⟨rfl, I2⟩ := I.sent hp hj hN ho he
      clear he a1 hN
      have kw2 := I2.kp
      by_cases htk : tk[j]? = some true
      · have htl' : j < tk.length := (List.getElem?_eq_some_iff.1 htk).1
        obtain ⟨gt, ot, rfl, ct⟩ := boolAt (ht.keptNew kw2) htk
        obtain ⟨v2, hN2, ho2⟩ := I2.net
        have a2 := cTake hN2 (msgs_small hfew _ _ _) (by simp only [msgs_len]; have := I2.il; omega) 0
        go_wp2_with fail
        refine a2.mono ?_
        intro e w3 he
        have hle := I.le
        have hn1 : n < l.length := by omega
        obtain ⟨I3, b, d, rfl, hr3⟩ := I2.took hp (by omega) ho2 he
        clear he a2
        obtain ⟨y, hy⟩ : ∃ y, l[n]? = some y := ⟨l[n], by simp⟩
        have hb3 : bsOf l n = y.bs := by unfold bsOf; rw [hy]
        have kw3 := I3.kp
        obtain ⟨g', o', e', cy⟩ := bsAt (hs.keptNew kw3) hy
        cases e'
        rw [hb3] at hr3 ⊢
        obtain ⟨_, _, er, hs3, _⟩ := hr3.sees
        cases er
        have cv1 := convSees hs3.drew d
        have cv2 := convSees (w := w3.drew) ((hok y (List.mem_of_getElem? hy)).see.kept kw3 (by simp)).drew y.c
        clear hr3 hs3 cx ct
        have I3' := hid (show OrdI p l W (n + 1) (j + 1) w3.drew from ⟨I3.le, I3.il, I3.net.imp fun v h => ⟨h.1.keptNew ((Kp.refl _ _).drew), h.2⟩, I3.kp.drew⟩)
        clear I3
        go_wp2_with fail
        generalize y.bs.length = ln at *
        generalize (⟨y.bs.toArray⟩ : ByteArray) = str at *
        have hS : w3.drew.cell? ⟨g, o + n, none⟩ = some (.slice y.a ln y.c) ∧ (convert 27 9 (.slice b ln d)).run Try.prog w3.drew = .ok (.string str) w3.drew ∧ (convert 27 9 (.slice y.a ln y.c)).run Try.prog w3.drew = .ok (.string str) w3.drew := ⟨cy, cv1, cv2⟩
        go_region_held3 (fun w' => w'.cell? ⟨g, o + n, none⟩ = some (.slice y.a ln y.c) ∧ (convert 27 9 (.slice b ln d)).run Try.prog w' = .ok (.string str) w' ∧ (convert 27 9 (.slice y.a ln y.c)).run Try.prog w' = .ok (.string str) w')
          (first | assumption) (fail)
        go_wp2_with fail
        exact ⟨⟨n + 1, j + 1, by go_num, by go_num, I3'.out⟩, by simp [intOf]; omega⟩
      · have hIe : Hid (OrdI p l W n (j + 1) w2) := I2
        by_cases hlt : j < tk.length
        · have hf : tk[j]? = some false := by
            rw [List.getElem?_eq_getElem hlt] at htk ⊢
            cases hq : tk[j] with
            | true => rw [hq] at htk; exact absurd rfl htk
            | false => rfl
          obtain ⟨gt, ot, rfl, ct⟩ := boolAt (ht.keptNew kw2) hf
          clear htk cx
          go_wp2_with fail
          exact ⟨⟨n, j + 1, rfl, by go_num, hIe.out⟩, by simp [intOf]; omega⟩
        · clear htk cx
          go_wp2_with fail
          exact ⟨⟨n, j + 1, rfl, by go_num, hIe.out⟩, by simp [intOf]; omega⟩
    · obtain rfl : j = l.length := by have := I.il; omega
      go_wp2_with fail
      go_loopw [7] (fun nx wn => ∃ (n : Nat), nx = .int .i64 n ∧ OrdI p l W n l.length wn) (fun nx _ => l.length - (intOf nx).toNat)
      case atStart => exact ⟨n, rfl, I⟩
      case round =>
        obtain ⟨n, rfl, I⟩ := hrel
        obtain ⟨v, hN, ho⟩ := I.net
        have kw := I.kp
        by_cases hn : n < l.length
        · have a2 := cTake hN (msgs_small hfew _ _ _) (by simp only [msgs_len]; omega) 0
          go_wp2_with fail
          refine a2.mono ?_
          intro e w3 he
          obtain ⟨I3, b, d, rfl, hr3⟩ := I.took hp hn ho he
          clear he a2
          obtain ⟨y, hy⟩ : ∃ y, l[n]? = some y := ⟨l[n], by simp [hn]⟩
          have hb3 : bsOf l n = y.bs := by unfold bsOf; rw [hy]
          have kw3 := I3.kp
          obtain ⟨g, o, rfl, cy⟩ := bsAt (hs.keptNew kw3) hy
          rw [hb3] at hr3 ⊢
          obtain ⟨_, _, er, hs3, _⟩ := hr3.sees
          cases er
          have cv1 := convSees hs3.drew d
          have cv2 := convSees (w := w3.drew) ((hok y (List.mem_of_getElem? hy)).see.kept kw3 (by simp)).drew y.c
          clear hr3 hs3
          have I3' := hid (show OrdI p l W (n + 1) l.length w3.drew from ⟨I3.le, I3.il, I3.net.imp fun v h => ⟨h.1.keptNew ((Kp.refl _ _).drew), h.2⟩, I3.kp.drew⟩)
          clear I3
          go_wp2_with fail
          generalize y.bs.length = ln at *
          generalize (⟨y.bs.toArray⟩ : ByteArray) = str at *
          have hS : w3.drew.cell? ⟨g, o + n, none⟩ = some (.slice y.a ln y.c) ∧ (convert 27 9 (.slice b ln d)).run Try.prog w3.drew = .ok (.string str) w3.drew ∧ (convert 27 9 (.slice y.a ln y.c)).run Try.prog w3.drew = .ok (.string str) w3.drew := ⟨cy, cv1, cv2⟩
          go_region_held3 (fun w' => w'.cell? ⟨g, o + n, none⟩ = some (.slice y.a ln y.c) ∧ (convert 27 9 (.slice b ln d)).run Try.prog w' = .ok (.string str) w' ∧ (convert 27 9 (.slice y.a ln y.c)).run Try.prog w' = .ok (.string str) w')
            (first | assumption) (fail)
          go_wp2_with fail
          exact ⟨⟨n + 1, by go_num, I3'.out⟩, by simp [intOf]; omega⟩
        · have hle := I.le
          obtain rfl : n = l.length := by omega
          have a3 := cLen hN
          simp only [msgs_len, Nat.sub_self] at a3
          go_wp2_with fail
          refine a3.mono ?_
          rintro e w4 ⟨rfl, rfl⟩
          go_wp2_with fail
          go_ret
          exact ⟨rfl, kw⟩
theorem orderWalk' (a : Option Addr) (c : Nat) (l : List Bs) (a' : Option Addr) (c' : Nat) (tk : List Bool) (W : World) (hs : BsE.See W a l) (hok : ∀ x ∈ l, x.ok W) (hfew : ∀ x ∈ l, Few x) (hl : l.length ≤ 5900000000000) (ht : BoolE.See W a' tk) (htl : tk.length ≤ 1000000000000000) :
    Calls Try.prog 4 #[.slice a l.length c, .slice a' tk.length c'] W (fun e W' => e = .returned (.bool true) ∧ Below W.heap.size W W') :=
  (orderWalk a c l a' c' tk W hs hok hfew hl ht htl).mono fun e W' h => ⟨h.1, h.2.below⟩
end Go.Proofs.Ytgegdlllmpinfaa

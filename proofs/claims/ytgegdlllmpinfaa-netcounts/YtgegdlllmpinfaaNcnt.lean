/- NetCounts: how often bytes stand in a list; what stays as it is while a net and two rows grow. -/
import Derived.Test.YtgegdlllmpinfaaNops
import Derived.Deep.RegionHeld3
namespace Go.Proofs.Ytgegdlllmpinfaa
open Go.RowKit Go.Hay
set_option linter.unusedVariables false
set_option linter.unusedSimpArgs false

def cntL (l : List Bs) (b : List UInt8) : Nat := (l.map Bs.bs).count b
theorem cntL_le (l : List Bs) (b : List UInt8) : cntL l b ≤ l.length := by unfold cntL; have := List.count_le_length (a := b) (l := l.map Bs.bs); simpa using this
theorem cntL_take {l : List Bs} {j : Nat} {x : Bs} (hx : l[j]? = some x) (b : List UInt8) : cntL (l.take (j + 1)) b = cntL (l.take j) b + if x.bs = b then 1 else 0 := by
  have hj := (List.getElem?_eq_some_iff.1 hx).1
  have he := (List.getElem?_eq_some_iff.1 hx).2
  rw [← he]
  unfold cntL
  rw [List.take_succ_eq_append_getElem hj, List.map_append, List.count_append]
  congr 1
  simp [List.count_cons]
set_option maxHeartbeats 4000000 in
theorem cCount (a : Option Addr) (c : Nat) (l : List Bs) (b : Bs) (w : World) (hs : BsE.See w a l) (hok : ∀ x ∈ l, x.ok w) (hb : b.ok w) (hl : l.length ≤ 6000000000000) :
    Calls Try.prog 12 #[.slice a l.length c, .slice b.a b.bs.length b.c] w (fun e w' => e = .returned (.int .i64 (cntL l b.bs : Int)) ∧ Kp [] w w') := by
  go_enter Try.func12, Try.ntmps12
  go_wp2_with fail
  go_loopw [5, 9] (fun n i wn => ∃ (j : Nat) (z : Nat), j ≤ l.length ∧ i = .int .i64 j ∧ n = .int .i64 z ∧ Hid (z = cntL (l.take j) b.bs) ∧ z ≤ j ∧ Kp [] w wn) (fun _ i _ => l.length - (intOf i).toNat)
  case atStart => exact ⟨0, 0, Nat.zero_le _, rfl, rfl, rfl, Nat.le_refl _, Kp.refl _ _⟩
  case round =>
    obtain ⟨j, z, hj, rfl, rfl, hz, hzj, kw⟩ := hrel
    by_cases hjl : j < l.length
    · obtain ⟨x, hx⟩ : ∃ x, l[j]? = some x := ⟨l[j], by simp [hjl]⟩
      obtain ⟨g, o, rfl, cx⟩ := bsAt (hs.keptNew kw) hx
      have ht := hid (cntL_take hx b.bs)
      have cv1 := convSees (w := wr.drew) (((hok x (List.mem_of_getElem? hx)).see.kept kw (by simp)).drew) x.c
      have cv2 := convSees (w := wr.drew) ((hb.see.kept kw (by simp)).drew) b.c
      have kd : Kp [] w wr.drew := kw.drew
      obtain ⟨l1, hl1⟩ : ∃ l1, l1 = x.bs.length := ⟨_, rfl⟩
      obtain ⟨l2, hl2⟩ : ∃ l2, l2 = b.bs.length := ⟨_, rfl⟩
      rw [← hl1] at cv1 cx
      rw [← hl2] at cv2 ⊢
      clear hl1 hl2 hx
      have hS : wr.drew.cell? ⟨g, o + j, none⟩ = some (.slice x.a l1 x.c) ∧ (convert 27 9 (.slice x.a l1 x.c)).run Try.prog wr.drew = .ok (.string ⟨x.bs.toArray⟩) wr.drew ∧ (convert 27 9 (.slice b.a l2 b.c)).run Try.prog wr.drew = .ok (.string ⟨b.bs.toArray⟩) wr.drew := ⟨cx, cv1, cv2⟩
      by_cases he : x.bs = b.bs
      · rw [if_pos he] at ht
        have he1 : (x.bs == b.bs) = true := by simpa using he
        clear he
        go_wp2_with fail
        go_region_held3 (fun w' => w'.cell? ⟨g, o + j, none⟩ = some (.slice x.a l1 x.c) ∧ (convert 27 9 (.slice x.a l1 x.c)).run Try.prog w' = .ok (.string ⟨x.bs.toArray⟩) w' ∧ (convert 27 9 (.slice b.a l2 b.c)).run Try.prog w' = .ok (.string ⟨b.bs.toArray⟩) w')
          (first | assumption) (fail)
        go_wp2_with fail
        exact ⟨⟨j + 1, z + 1, by omega, by go_num, by go_num, hid (by rw [ht.out, hz.out]), by omega, kd⟩, by simp [intOf]; omega⟩
      · rw [if_neg he] at ht
        have he1 : (x.bs == b.bs) = false := by simpa using he
        clear he
        go_wp2_with fail
        go_region_held3 (fun w' => w'.cell? ⟨g, o + j, none⟩ = some (.slice x.a l1 x.c) ∧ (convert 27 9 (.slice x.a l1 x.c)).run Try.prog w' = .ok (.string ⟨x.bs.toArray⟩) w' ∧ (convert 27 9 (.slice b.a l2 b.c)).run Try.prog w' = .ok (.string ⟨b.bs.toArray⟩) w')
          (first | assumption) (fail)
        go_wp2_with fail
        exact ⟨⟨j + 1, z, by omega, by go_num, rfl, hid (by rw [ht.out, hz.out]; rfl), by omega, kd⟩, by simp [intOf]; omega⟩
    · obtain rfl : j = l.length := by omega
      have hz' := hz.out
      rw [List.take_length] at hz'
      clear hz
      subst hz'
      go_wp2_with fail
      go_ret
      exact ⟨rfl, kw⟩
end Go.Proofs.Ytgegdlllmpinfaa

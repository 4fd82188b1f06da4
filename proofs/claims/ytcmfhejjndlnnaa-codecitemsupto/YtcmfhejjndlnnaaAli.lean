/- same, and alive: the answers that the document fixes. -/
import Derived.Test.YtcmfhejjndlnnaaRdc
import Derived.Laws.BytesArg
import Derived.Laws.IdiomStrings
import Derived.Lib.SlBytesConst
namespace Go.Proofs.Ytcmfhejjndlnnaa
open Go.RowKit Go.Hay
set_option linter.unusedVariables false

theorem Try.conv (w : World) (a : Option Addr) (c : Nat) (xs : List UInt8) (hs : Sees w a xs) : (convert 22 9 (.slice a xs.length c)).run Try.prog w = .ok (.string ⟨xs.toArray⟩) w := by
  cases a with
  | none =>
    obtain rfl : xs = [] := by rcases hs with h | ⟨g, o, h, _⟩; exact h; cases h
    exact run_convert_bytes_nil w 22 5 Try.underlying22 Try.underlying5 0 c 9 Try.underlying9
  | some ad =>
    refine run_convert_bytes_back (P := Try.prog) w 22 9 5 ad c xs Try.underlying22 Try.underlying5 Try.underlying9 (fun j hj => ?_)
    rcases hs with rfl | ⟨g, o, h, hc⟩
    · simp at hj
    · cases h
      rw [Addr.add_lit]
      exact hc j _ (List.getElem?_eq_getElem hj)

set_option maxHeartbeats 400000 in
theorem cSame (a b : Option Addr) (n m c d : Nat) (xs ys : List UInt8) (w : World) (hx : Sees w a xs) (hy : Sees w b ys) (hn : n = xs.length) (hm : m = ys.length) :
    Calls Try.prog 12 #[.slice a n c, .slice b m d] w fun e w' => e = .returned (.bool (xs == ys)) ∧ w' = w := by
  subst hn hm
  have h1 := Try.conv w a c xs hx
  have h2 := Try.conv w b d ys hy
  go_enter Try.func12, Try.ntmps12
  go_wp2
  go_ret
  exact ⟨rfl, rfl⟩

theorem v253 : varB 253 = [253, 0, 253] := by decide +kernel
theorem v1000 : varS 1000 [253, 0, 253, 2, 97, 98, 9] 0 = (253, [2, 97, 98, 9], 0) := by decide +kernel
theorem t2 : textS 2 [2, 97, 98, 9] 0 = ([97, 98], [9], 0) := by decide +kernel
theorem k1 : takeS 1 [9] 0 = ([9], [], 0) := by decide +kernel
theorem n9 : num [9] = 9 := by decide +kernel
theorem e9 : endE [9] 0 = 13 := by decide +kernel
theorem e0 : endE [] 0 = 0 := by decide +kernel
theorem tab : textB [97, 98] = [2, 97, 98] := by decide +kernel

set_option maxHeartbeats 1000000 in
set_option maxRecDepth 100000 in
theorem cAlive (w : World) : Calls Try.prog 6 #[] w fun e w' => e = .returned (.bool true) ∧ Kp [] w w' := by
  have kc := fun (w : World) (C : Array Value) (n c : Nat) => Lib.run_convert_bytes_const (P := Try.prog) w 22 5 C n c Try.underlying22 Try.underlying5
  go_enter Try.func6, Try.ntmps6
  go_wp2_with fail
  refine (wNew _).mono ?_
  rintro e w1 ⟨p, rfl, hp, hw1, hk1⟩
  have hpge : w.heap.size ≤ p := by omega
  clear hp
  go_wp2_with fail
  refine (wVar p _ [] 253 _ hw1 (by simp) (by omega) (by omega)).mono ?_
  rintro e w2 ⟨rfl, v2, hw2, hr2⟩
  rw [v253] at hw2
  obtain ⟨k2, o2⟩ := stepW hk1 hpge (by simp [own, Value.ownBlock]) hr2
  clear hr2 hk1 hw1
  go_wp2_with fail
  have k3 : Kp [] w2 (w2.alloc (.cells #[.int .u8 97, .int .u8 98] 5 (2, 3))) := (Kp.refl _ _).alloc _
  refine (wText p v2 _ _ 2 2 [97, 98] _ (hw2.keptNew k3) (Sees.new _ _ _ _ _ rfl) rfl (by simp) ?_).mono ?_
  · intro _ k hk
    simp [blk] at hk
    have := hw2.lt
    have := hw2.row.lt
    simp only [List.mem_cons, not_or]
    exact ⟨by omega, fun h => by have := this k h; omega⟩
  rintro e w3 ⟨rfl, v3, hw3, hr3⟩
  rw [tab] at hw3
  obtain ⟨k4, o3⟩ := stepW (k2.trans k3 (by simp)) hpge o2 hr3
  clear hr3 k2 k3 hw2 o2
  go_wp2_with fail
  have k5 : Kp [] w3 (w3.alloc (.cells #[.int .u8 253, .int .u8 0, .int .u8 253, .int .u8 2, .int .u8 97, .int .u8 98, .int .u8 9] 5)) := (Kp.refl _ _).alloc _
  refine (rRead _ 7 7 [253, 0, 253, 2, 97, 98, 9] _ (Sees.new _ _ _ _ _ rfl) rfl (by simp)).mono ?_
  rintro e w4 ⟨q, D, rfl, hq, hk6, hq1, hD⟩
  have hw4 := (hw3.keptNew k5).keptNew hk6
  have k7 := (k4.trans k5 (by simp)).trans hk6 (by simp)
  have hk45 := k4.size
  have hqge : w.heap.size ≤ q := by simp at hq1; omega
  have hpq : p ≠ q := by have := hw3.lt; simp at hq1; omega
  have hqo : ∀ k ∈ p :: own v3, k ∉ [q] := by
    intro k hk hm
    rw [List.mem_singleton] at hm
    subst hm
    simp at hq1
    rcases List.mem_cons.1 hk with h | h
    · exact hpq h.symm
    · have := hw3.row.lt _ h; omega
  clear hk6 hq1 hD k4 k5 hw3 hk45
  go_wp2_with fail
  refine (wBytes p v3 _ _ hw4 (by simp)).mono ?_
  rintro e w5 ⟨vb, rfl, hb, kb, ob⟩
  obtain ⟨ab, cb, rfl, hsb, _⟩ := hb.sees
  have hw5 := hw4.keptNew kb
  have hq5 := hq.kept kb (by simp) (by simp)
  have k8 := k7.trans kb (by simp)
  clear hw4 hq k7 hb ob
  go_wp2_with fail
  have k9 : Kp [] w5 (w5.alloc (.cells #[.int .u8 253, .int .u8 0, .int .u8 253, .int .u8 2, .int .u8 97, .int .u8 98] 5)) := (Kp.refl _ _).alloc _
  refine (cSame _ _ _ 6 _ 6 [253, 0, 253, 2, 97, 98] [253, 0, 253, 2, 97, 98] _ (hsb.kept k9 (by simp)) (Sees.new _ _ _ _ _ rfl) rfl rfl).mono ?_
  rintro e w6 ⟨rfl, rfl⟩
  have hw6 := hw5.keptNew k9
  have hq6 := hq5.kept k9 (by simp) (by simp)
  have k10 := k8.trans k9 (by simp)
  clear hw5 hq5 k8 k9 hsb kb
  go_wp2_with fail
  refine (wLen p v3 _ _ hw6).mono ?_
  rintro e w7 ⟨rfl, rfl⟩
  go_wp2_with fail
  refine (rVar q D _ 0 1000 _ hq6 (by omega) (by omega)).mono ?_
  rintro e w7 ⟨n, bs', e', ht, rfl, hr, hk⟩
  rw [v1000] at ht
  cases ht
  have k11 := stepR k10 hqge hk
  clear hq6 k10 hw6 hk
  go_wp2_with fail
  refine (rText q D _ 0 2 _ hr (by omega) (by omega) (by simp)).mono ?_
  rintro e w8 ⟨out, bs', e', v, ht, rfl, hv, ov, hr8, hk⟩
  rw [t2] at ht
  cases ht
  have k12 := stepR k11 hqge hk
  obtain ⟨at', ct, rfl, hst, _⟩ := hv.sees
  clear hr k11 hk hv ov
  go_wp2_with fail
  have k13 : Kp [] w8 (w8.alloc (.cells #[.int .u8 97, .int .u8 98] 5 (2, 3))) := (Kp.refl _ _).alloc _
  refine (cSame _ _ _ 2 _ 2 [97, 98] [97, 98] _ (hst.kept k13 (by simp)) (Sees.new _ _ _ _ _ rfl) rfl rfl).mono ?_
  rintro e w9 ⟨rfl, rfl⟩
  have hr9 := hr8.kept k13 (by simp) (by simp)
  have k14 := k12.trans k13 (by simp)
  clear hr8 k12 k13 hst
  go_wp2_with fail
  refine (rLeft q D _ 0 _ hr9).mono ?_
  rintro e w10 ⟨rfl, rfl⟩
  go_wp2_with fail
  refine (rEnd q D _ 0 _ hr9).mono ?_
  rintro e w10 ⟨rfl, rfl⟩
  rw [e9]
  go_wp2_with fail
  refine (rByte q D _ 0 _ hr9).mono ?_
  rintro e w10 ⟨out, bs', e', ht, rfl, hr10, hk⟩
  rw [k1] at ht
  cases ht
  rw [n9]
  have k15 := stepR k14 hqge hk
  clear hr9 k14 hk
  go_wp2_with fail
  refine (rEnd q D _ 0 _ hr10).mono ?_
  rintro e w11 ⟨rfl, rfl⟩
  rw [e0]
  go_wp2_with fail
  go_ret
  exact ⟨rfl, k15⟩
end Go.Proofs.Ytcmfhejjndlnnaa

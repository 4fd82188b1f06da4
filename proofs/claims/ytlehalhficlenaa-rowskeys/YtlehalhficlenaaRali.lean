/- Whether there is a program at all: the few answers that the document fixes. -/
import Derived.Test.YtlehalhficlenaaRdcd
import Derived.Test.YtlehalhficlenaaRenc
namespace Go.Proofs.Ytlehalhficlenaa
open Go.RowKit Go.Hay
set_option linter.unusedVariables false
set_option linter.unusedSimpArgs false

theorem encAlive : encS [⟨2, false, 1, ⟨#[]⟩⟩] = ([1, 2, 0, 0, 0, 0, 0, 0, 0, 1], 0) := by
  have h : okR [⟨2, false, 1, ⟨#[]⟩⟩] = true := by simp [okR, allR, Val.right, emptyL]
  unfold encS
  rw [if_pos h]
  rfl
theorem decAlive : decS [1, 1, 1] = ([⟨1, true, 0, ⟨#[]⟩⟩], 0) := by
  simp [decS, decL, rowF, fixF, decO]
theorem seesAt {w : World} {a : Option Addr} {l : List UInt8} (h : Sees w a l) (j : Nat) (u : UInt8) (hj : l[j]? = some u) : ∃ g o, a = some ⟨g, o, none⟩ ∧ w.cell? ⟨g, o + j, none⟩ = some (.int .u8 u.toNat) := by
  rcases h with h | ⟨g, o, h, hc⟩
  · subst h; simp at hj
  · exact ⟨g, o, h, hc j u hj⟩

set_option maxHeartbeats 4000000 in
set_option maxRecDepth 100000 in
theorem cAlive (w : World) : Calls Try.prog 10 #[] w fun e w' => e = .returned (.bool true) ∧ Kp [] w w' := by
  have k0 : Kp [] w (w.alloc (.cells #[.int .i64 2, .bool false, .int .i64 1, .string ⟨#[]⟩] 35)) := (Kp.refl _ _).alloc _
  have hv : Vals (w.alloc (.cells #[.int .i64 2, .bool false, .int .i64 1, .string ⟨#[]⟩] 35)) (some ⟨w.heap.size, 0, none⟩) [⟨2, false, 1, ⟨#[]⟩⟩] := Vals.single w ⟨2, false, 1, ⟨#[]⟩⟩ 35
  have hE := cEncode (some ⟨w.heap.size, 0, none⟩) 1 [⟨2, false, 1, ⟨#[]⟩⟩] _ hv (by simp)
  rw [encAlive] at hE
  go_enter Try.func10, Try.ntmps10
  go_wp2_with fail
  refine hE.mono ?_
  rintro e w1 ⟨a1, c1, bs, E, hbs, rfl, hr1, hn1, _⟩
  obtain ⟨rfl, rfl⟩ : [1, 2, 0, 0, 0, 0, 0, 0, 0, 1] = bs ∧ 0 = E := by have := hbs.out; simp only [Prod.mk.injEq] at this; exact this
  obtain ⟨a1', c1', hsl, hs1, _⟩ := hr1.sees
  simp only [Value.slice.injEq] at hsl
  obtain ⟨rfl, _, rfl⟩ := hsl
  have k1 := k0.trans hn1.kp (by simp)
  have hs2 : Sees (w1.alloc (.cells #[.int .u8 1, .int .u8 1, .int .u8 1] 5)) (some ⟨w1.heap.size, 0, none⟩) [1, 1, 1] := Sees.new w1 _ _ _ _ rfl
  have hD := cDecode (some ⟨w1.heap.size, 0, none⟩) 3 [1, 1, 1] _ hs2 (by simp) (by unfold maxLen; omega)
  rw [decAlive] at hD
  have hs1' := seesKeep hs1 (kpNew _ (.cells #[.int .u8 1, .int .u8 1, .int .u8 1] 5))
  clear hE hbs hr1 hn1 k0 hv hs1
  go_wp2_with fail
  refine hD.mono ?_
  rintro e w2 ⟨a2, c2, l, E, hl, rfl, hv2, _, hc2, hm2, _, k2⟩
  obtain ⟨rfl, rfl⟩ : [⟨1, true, 0, ⟨#[]⟩⟩] = l ∧ 0 = E := by have := hl.out; simp only [Prod.mk.injEq] at this; exact this
  have hs3 := seesKeep hs1' k2
  obtain ⟨g, o, rfl, hc9⟩ := seesAt hs3 9 1 rfl
  obtain ⟨g', o', rfl, y0, y1, y2, y3⟩ := hv2.at 0 (by simp)
  have k3 := (k1.alloc (.cells #[.int .u8 1, .int .u8 1, .int .u8 1] 5)).trans k2 (by simp)
  simp only [List.length_cons, List.length_nil] at hc2 ⊢
  clear hD hs1' hs2 hl k2 hs3 hv2
  have hc9' : w2.cell? ⟨g, o + 9, none⟩ = some (.int .u8 1) := hc9
  have y1' : w2.cell? ⟨g', o' + 1, none⟩ = some (.bool true) := by simpa using y1
  clear hc9 y0 y1 y2 y3
  go_wp2_with fail
  go_ret
  exact ⟨rfl, k3⟩
end Go.Proofs.Ytlehalhficlenaa

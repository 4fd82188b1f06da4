/- The reference's Var and Text. -/
import Derived.Test.YtcmfhejjndlnnaaFrmb
namespace Go.Proofs.Ytcmfhejjndlnnaa
open Go.RowKit Go.Hay
set_option linter.unusedVariables false

theorem rowNew (w : World) (C : Array Value) (t : TypeId) (bs : List UInt8) (n : Nat) (h : C.toList = bcells bs) (hn : n = bs.length) (hb : bs.length ≤ maxLen) : Row (w.alloc (.cells C t)) (.slice (some ⟨w.heap.size, 0, none⟩) n n) bs := by
  subst hn
  have hsz : C.size = bs.length := by rw [← Array.length_toList, h, bcells_length]
  refine .inr ⟨w.heap.size, 0, bs.length, rfl, Nat.le_refl _, hb, by simp, ?_, fun j hj => ⟨?_, World.frozen?_alloc_new w _ _ (0 + j)⟩⟩
  · rcases Sees.new w C t (0, 0) bs h with h1 | ⟨g, o, h1, h2⟩
    · subst h1; intro j u hu; simp at hu
    · cases h1; exact h2
  · have e1 : (w.alloc (.cells C t)).cell? ⟨w.heap.size, 0 + j, none⟩ = C[0 + j]? := World.cell?_alloc_new w _ _ (0 + j)
    rw [e1, Nat.zero_add, Array.getElem?_eq_getElem (by omega)]
    rfl

theorem varB_small (n : Int) (h0 : 0 ≤ n) (h : n < 253) : varB n = [octet n] := by
  have e : leadI n = n := by simp [leadI, h]
  have e2 : behindI n = 0 := by unfold behindI; rw [if_neg (by omega), if_neg (by omega), if_neg (by omega)]
  simp [varB, e, e2, be]

set_option maxHeartbeats 1000000 in
set_option maxRecDepth 100000 in
theorem cRefVar (n : Int) (w : World) (h0 : 0 ≤ n) (h1 : n < 18446744073709551616) :
    Calls Try.prog 38 #[.int .u64 n] w fun e w' => ∃ v, e = .returned v ∧ Row w' v (varB n) ∧ Kp [] w w' ∧ ∀ k ∈ own v, w.heap.size ≤ k := by
  by_cases hsm : n < 253
  · rw [varB_small n h0 hsm]
    have hrow := rowNew w #[.int .u8 n] 5 [octet n] 1 (by simp [bcells, octet_toNat n h0 (by omega)]) rfl (by unfold maxLen; simp)
    go_enter Try.func38, Try.ntmps38
    go_wp2_with fail
    go_ret
    exact ⟨_, rfl, hrow, (Kp.refl _ _).alloc _, by simp [own, Value.ownBlock]⟩
  obtain ⟨i0, hi, hz0, hz1, hz2⟩ := info_parts Try.infoB
  have fin : ∀ (f : Nat) (k : Nat), f < 256 → k ≤ 8 → varB n = octet f :: be n.toNat k → Row (w.alloc (.cells #[.int .u8 f] 5)) (.slice (some ⟨w.heap.size, 0, none⟩) 1 1) [octet f] ∧ Hid (varB n = [octet f] ++ be n.toNat k) := by
    intro f k hf hk e
    exact ⟨rowNew w #[.int .u8 f] 5 [octet f] 1 (by simp [bcells, octet_toNat (f : Int) (by omega) (by omega)]) rfl (by unfold maxLen; simp), hid (by rw [e]; rfl)⟩
  by_cases h16 : n < 65536
  · obtain ⟨hrow, HV⟩ := fin 253 2 (by omega) (by omega) (by simp [varB, leadI, behindI, hsm, h16])
    rw [HV.out]
    clear fin
    go_enter Try.func38, Try.ntmps38
    go_wp2_with fail
    refine (cRefNumber n 2 _ h0 h1 (by omega)).mono ?_
    rintro e w2 ⟨v2, rfl, r2, k2, o2⟩
    obtain ⟨a2, c2, rfl, s2, _⟩ := r2.sees
    have hsrc := s2.src (P := Try.prog) Try.underlying22 c2
    have hrow' := hrow.kept k2 (by simp)
    have k3 : Kp [] w w2 := ((Kp.refl [] w).alloc (.cells #[.int .u8 (253 : Nat)] 5)).trans k2 (by simp)
    go_wp2_with (at_builtin; refine wpList_append_src _ rfl (.tmp 17) (.tmp 20) 22 22 rfl i0 Try.underlying22 hi hz0 hz1 hz2 _ _ rfl hrow' _ _ rfl hsrc (by simp [be_length]) ?_)
    intro v4 w4 r4 k4 o4
    obtain ⟨k5, o5⟩ := stepA k3 (by simp [own, Value.ownBlock]) k4 o4
    go_wp2_with fail
    go_ret
    exact ⟨_, rfl, r4, k5, o5⟩
  by_cases h32 : n < 4294967296
  · obtain ⟨hrow, HV⟩ := fin 254 4 (by omega) (by omega) (by simp [varB, leadI, behindI, hsm, h16, h32])
    rw [HV.out]
    clear fin
    go_enter Try.func38, Try.ntmps38
    go_wp2_with fail
    refine (cRefNumber n 4 _ h0 h1 (by omega)).mono ?_
    rintro e w2 ⟨v2, rfl, r2, k2, o2⟩
    obtain ⟨a2, c2, rfl, s2, _⟩ := r2.sees
    have hsrc := s2.src (P := Try.prog) Try.underlying22 c2
    have hrow' := hrow.kept k2 (by simp)
    have k3 : Kp [] w w2 := ((Kp.refl [] w).alloc (.cells #[.int .u8 (254 : Nat)] 5)).trans k2 (by simp)
    go_wp2_with (at_builtin; refine wpList_append_src _ rfl (.tmp 17) (.tmp 20) 22 22 rfl i0 Try.underlying22 hi hz0 hz1 hz2 _ _ rfl hrow' _ _ rfl hsrc (by simp [be_length]) ?_)
    intro v4 w4 r4 k4 o4
    obtain ⟨k5, o5⟩ := stepA k3 (by simp [own, Value.ownBlock]) k4 o4
    go_wp2_with fail
    go_ret
    exact ⟨_, rfl, r4, k5, o5⟩
  · obtain ⟨hrow, HV⟩ := fin 255 8 (by omega) (by omega) (by simp [varB, leadI, behindI, hsm, h16, h32])
    rw [HV.out]
    clear fin
    go_enter Try.func38, Try.ntmps38
    go_wp2_with fail
    refine (cRefNumber n 8 _ h0 h1 (by omega)).mono ?_
    rintro e w2 ⟨v2, rfl, r2, k2, o2⟩
    obtain ⟨a2, c2, rfl, s2, _⟩ := r2.sees
    have hsrc := s2.src (P := Try.prog) Try.underlying22 c2
    have hrow' := hrow.kept k2 (by simp)
    have k3 : Kp [] w w2 := ((Kp.refl [] w).alloc (.cells #[.int .u8 (255 : Nat)] 5)).trans k2 (by simp)
    go_wp2_with (at_builtin; refine wpList_append_src _ rfl (.tmp 17) (.tmp 20) 22 22 rfl i0 Try.underlying22 hi hz0 hz1 hz2 _ _ rfl hrow' _ _ rfl hsrc (by simp [be_length]) ?_)
    intro v4 w4 r4 k4 o4
    obtain ⟨k5, o5⟩ := stepA k3 (by simp [own, Value.ownBlock]) k4 o4
    go_wp2_with fail
    go_ret
    exact ⟨_, rfl, r4, k5, o5⟩

end Go.Proofs.Ytcmfhejjndlnnaa

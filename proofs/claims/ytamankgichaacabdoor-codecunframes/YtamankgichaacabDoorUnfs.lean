/- For every two slices of bytes and every place: what was framed is told again, whatever stands behind it; no shorter beginning is a frame; one bit that is turned is found. -/
import Derived.Test.YtamankgichaacabDoorUnfm
import Derived.Test.YtamankgichaacabDoorOpn
namespace Go.Proofs.YtamankgichaacabDoor
open Go.RowKit Go.Hay
set_option linter.unusedVariables false

theorem rowFull {w : World} {v : Value} {bs : List UInt8} (h : Row w v bs) : ∃ a c, v = .slice a bs.length c ∧ Sees w a bs ∧ bs.length ≤ c ∧ c ≤ maxLen ∧ own v = blk a := by
  rcases h with ⟨rfl, rfl⟩ | ⟨g, o, cap, rfl, hl, hm, hg, hc, ht⟩
  · exact ⟨none, 0, rfl, .inl rfl, Nat.le_refl _, Nat.zero_le _, rfl⟩
  · exact ⟨_, _, rfl, .inr ⟨g, o, rfl, hc⟩, hl, hm, rfl⟩

set_option maxHeartbeats 2000000 in
set_option maxRecDepth 100000 in
theorem unframesWalk (a : Option Addr) (n c : Nat) (bs : List UInt8) (b : Option Addr) (m d : Nat) (more : List UInt8) (at' : Int) (w : World) (ht : Tab w) (hs : Sees w a bs) (hn : n = bs.length)
    (hr : Sees w b more) (hm : m = more.length) (hbr : more.length ≤ 140737488351232) (h0 : -9223372036854775808 ≤ at') (h1 : at' ≤ 9223372036854775807) :
    Calls Tryd.prog 5 #[.slice a n c, .slice b m d, .int .i64 at'] w fun e w' => e = .returned (.bool true) ∧ Below w.heap.size w w' := by
  subst hn hm
  obtain ⟨i0, hi, hz0, hz1, hz2⟩ := info_parts Tryd.infoB
  by_cases hbig : 16777216 < bs.length
  · go_enter Tryd.func5, Tryd.ntmps5
    go_wp2_with fail
    refine (cFrameLong a _ c bs _ rfl hbig).mono ?_
    rintro e w ⟨rfl, rfl⟩
    go_wp2_with fail
    refine (cAlive _).mono ?_
    rintro e w1 ⟨rfl, k1⟩
    go_wp2_with fail
    go_ret
    exact ⟨rfl, k1.below⟩
  have hle : bs.length ≤ 16777216 := by omega
  have hfl := frameB_length bs
  have hu1 := hid (show unf (frameB bs ++ more) = (bs, (((frameB bs).length : Nat) : Int), 0) by rw [unf_frame bs more hle, frameB_length])
  have hu2 := hid (unf_cut bs hle)
  have hu3 := hid (unf_turned bs hle)
  go_enter Tryd.func5, Tryd.ntmps5
  go_wp2_with fail
  refine (cFrame a _ c bs _ ht hs rfl hle).mono ?_
  rintro e w1 ⟨v1, rfl, r1, k1, o1⟩
  rcases r1 with ⟨_, h⟩ | ⟨g, o, cap, rfl, hlc, hcm, hgl, hc, hfr⟩
  · rw [h] at hfl; simp at hfl
  have r1 : Row w1 (.slice (some ⟨g, o, none⟩) (frameB bs).length cap) (frameB bs) := .inr ⟨g, o, cap, rfl, hlc, hcm, hgl, hc, hfr⟩
  have hge0 : w.heap.size ≤ g := o1 g (by simp [own, Value.ownBlock])
  generalize frameB bs = f at *
  have hf1 : f.length ≤ 16777228 := by omega
  have HFL := hid hfl
  clear hfl
  have s1 : Sees w1 (some ⟨g, o, none⟩) f := .inr ⟨g, o, rfl, hc⟩
  have hsrc := s1.src (P := Tryd.prog) Tryd.underlying22 cap
  go_wp2_with (at_builtin; refine wpList_append_src _ rfl (.const (.slice none 0 0)) (.tmp 36) 22 22 rfl i0 Tryd.underlying22 hi hz0 hz1 hz2 _ [] rfl (Row.nil _) _ f rfl hsrc (by simp; omega) ?_)
  intro v2 w2 r2 k2 o2
  obtain ⟨k3, o3⟩ := stepA k1 (v := .slice none 0 0) (by simp [own, Value.ownBlock]) k2 o2
  have hsrc2 := (hr.kept k3 (by simp)).src (P := Tryd.prog) Tryd.underlying22 d
  have hk2 : Kp [] w1 w2 := k2.mono (by simp [own, Value.ownBlock])
  have o2' : ∀ k ∈ own v2, w1.heap.size ≤ k := fun k hk => by
    rcases o2 k hk with h | h
    · simp [own, Value.ownBlock] at h
    · exact h
  clear hsrc k2 o2
  go_wp2_with (at_builtin; refine wpList_append_src _ rfl (.tmp 37) (.tmp 38) 22 22 rfl i0 Tryd.underlying22 hi hz0 hz1 hz2 _ f rfl r2 _ more rfl hsrc2 (by omega) ?_)
  intro v4 w4 r4 k4 o4
  obtain ⟨k5, o5⟩ := stepA k3 o3 k4 o4
  have k14 : Kp [] w1 w4 := hk2.trans k4 (fun x hx => .inr (o2' x hx))
  have ht4 := ht.kept k5 (by simp)
  obtain ⟨a4, c4, rfl, s4, hl4, hm4, _⟩ := rowFull r4
  rw [List.length_append] at hl4 ⊢
  clear hsrc2 r2 r4 k4 o4 o5 k3 o3 o2' hk2
  go_wp2_with fail
  refine (cUnframe a4 _ c4 (f ++ more) _ ht4 s4 (by rw [List.length_append]) (by rw [List.length_append]; exact hl4) hm4 (by rw [List.length_append]; omega)).mono ?_
  rintro e w5 ⟨v5, rfl, r5, k6, o6⟩
  rw [hu1.out] at r5 ⊢
  obtain ⟨a5, c5, rfl, s5, _⟩ := r5.sees
  have k7 := k5.trans k6 (by simp)
  have k17 := k14.trans k6 (by simp)
  clear s4 hl4 hm4 k5 k6 o6 r5 ht4 k14
  go_wp2_with fail
  refine (cAlive _).mono ?_
  rintro e w6 ⟨rfl, k8⟩
  have s6 := s5.kept k8 (by simp)
  have k9 := k7.trans k8 (by simp)
  have k19 := k17.trans k8 (by simp)
  clear s5 k7 k8 k17
  go_wp2_with fail
  refine (cSame a5 a _ _ c5 c bs bs _ s6 (hs.kept k9 (by simp)) rfl rfl).mono ?_
  rintro e w7 ⟨rfl, rfl⟩
  rw [beq_self_eq_true]
  clear s6 hu1 hi hz0 hz1 hz2 i0
  by_cases hat : at' < 0
  · go_wp2_with fail
    go_ret
    exact ⟨rfl, k9.below⟩
  obtain ⟨t, rfl⟩ := Int.eq_ofNat_of_zero_le (Int.not_lt.1 hat)
  clear hat h0
  by_cases hge : f.length ≤ t / 8
  · have hge' : (f.length : Int) ≤ (t : Int) / 8 := by omega
    go_wp2_with fail
    go_ret
    exact ⟨rfl, k9.below⟩
  have hlt : t / 8 < f.length := by omega
  have hge' : (t : Int) / 8 < (f.length : Int) := by omega
  have hcap' : (t : Int) / 8 ≤ (cap : Int) := by omega
  clear hge
  have r7 := r1.kept k19 (by simp)
  have ht7 := ht.kept k9 (by simp)
  have s7 := s1.kept k19 (by simp)
  have hu2' := hid (hu2.out (t / 8) (by have := HFL.out; omega))
  obtain ⟨y, hy, hne⟩ := turned f[t / 8] (t % 8) (by omega)
  have hu3' := hid (hu3.out (t / 8) hlt y hne)
  have hlk : (f.take (t / 8)).length = t / 8 := by simp; omega
  have HLK := hid hlk
  clear hu2 hu3 hlk hc hfr r1 s1
  go_wp2_with fail
  refine (cUnframe _ (t / 8) cap (f.take (t / 8)) _ ht7 (s7.front _) HLK.out.symm (by rw [HLK.out]; omega) hcm (by rw [HLK.out]; omega)).mono ?_
  rintro e w8 ⟨v8, rfl, r8, k10, _⟩
  rw [hu2'.out]
  have k11 := k9.trans k10 (by simp)
  have r9 := r7.kept k10 (by simp)
  clear r8 k9 k10 r7 s7 ht7 hu2' k19
  rcases r9 with ⟨h, _⟩ | ⟨g', o', cap', hv9, hlc9, hcm9, hgl9, hc9, hfr9⟩
  · cases h
  cases hv9
  have hci := hc9 (t / 8) f[t / 8] (by simp)
  have hfi := (hfr9 (t / 8) (by omega)).2
  have hset := (Sees.set hc9 (t / 8) y hlt).drew
  have k12 : Kp [] w ((w8.setCell ⟨g, o + t / 8, none⟩ (.int .u8 y.toNat)).drew) := (k11.setCell (p := ⟨g, o + t / 8, none⟩) (.inr hge0) _).drew
  have ht12 := ht.kept k12 (by simp)
  clear hc9 hfr9 k11 hgl9 hlc9 hcm9
  go_wp2_with fail
  go_region
  go_wp2_with fail
  refine (cUnframe _ f.length cap (f.set (t / 8) y) _ ht12 hset (by simp) (by simpa using hlc) hcm (by simp; omega)).mono ?_
  rintro e w13 ⟨v13, rfl, r13, k13, _⟩
  rw [hu3'.out] at r13 ⊢
  obtain ⟨a13, c13, rfl, _⟩ := r13.sees
  have k14 := k12.trans k13 (by simp)
  go_wp2_with fail
  go_ret
  exact ⟨rfl, k14.below⟩
end Go.Proofs.YtamankgichaacabDoor

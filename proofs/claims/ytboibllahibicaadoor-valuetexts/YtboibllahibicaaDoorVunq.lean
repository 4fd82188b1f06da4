/- What a text between quotes says: front and unquote. -/
import Derived.Test.YtboibllahibicaaDoorVfro
import Derived.Lib.Strings
namespace Go.Proofs.YtboibllahibicaaDoor
open Go.RowKit Go.Hay
set_option linter.unusedVariables false
set_option linter.unusedSimpArgs false

theorem byteAt (s : ByteArray) (l : List UInt8) (hl : s.data.toList = l) (i : Nat) (c : UInt8) (h : l[i]? = some c) (hi : i < s.size) : s[i]'hi = c := by
  subst hl
  obtain ⟨h1, h2⟩ := List.getElem?_eq_some_iff.1 h
  exact h2

theorem extractL (s : ByteArray) (i j : Nat) : (s.extract i j).data.toList = (s.data.toList.drop i).take (j - i) := by
  rw [← Lib.toList_data, Lib.extract_toList]

set_option maxHeartbeats 4000000 in
set_option maxRecDepth 100000 in
theorem cFront (s : ByteArray) (w : World) (he : Errs w) (h0 : s.size ≠ 0) (hm : s.size ≤ 9223372036854775807) :
    Calls Tryd.prog 62 #[.string s] w fun e w' => e = .returned (.tuple #[.int .u8 (frontV s.data.toList).1.toNat, .int .i64 (frontV s.data.toList).2]) ∧ Kp [] w w' := by
  have hsz : s.data.toList.length = s.size := (Lib.size_eq s).symm
  obtain ⟨l, hl⟩ : ∃ l, s.data.toList = l := ⟨_, rfl⟩
  have hat := byteAt s l hl
  have Hl := hid hl
  rw [hl] at hsz ⊢
  clear hl
  match l, hat, hsz, Hl with
  | [], _, hsz, _ => exact absurd hsz.symm h0
  | c :: r, hat, hsz, Hl =>
    have g0 := hat 0 c rfl (by omega)
    by_cases h92 : c = 92
    · subst h92
      match r, hat, hsz, Hl with
      | [], hat, hsz, Hl =>
        have hf : Hid (frontV [92] = (0, 0)) := rfl
        have h1 : (s.size : Int) < 2 := by simp at hsz; omega
        clear hat Hl
        go_enter Tryd.func62, Tryd.ntmps62
        go_wp2_with fail
        go_ret2
        exact ⟨by rw [hf.out]; rfl, Kp.refl _ _⟩
      | d :: r2, hat, hsz, Hl =>
        have h2s : 2 ≤ s.size := by simp at hsz; omega
        have g1 := hat 1 d rfl (by omega)
        by_cases h120 : d = 120
        · subst h120
          match r2, hat, hsz, Hl with
          | [], hat, hsz, Hl =>
            have hf : Hid (frontV [92, 120] = (0, 0)) := rfl
            have h3 : (s.size : Int) < 4 := by simp at hsz; omega
            clear hat Hl
            go_enter Tryd.func62, Tryd.ntmps62
            go_wp2_with fail
            go_ret2
            exact ⟨by rw [hf.out]; rfl, Kp.refl _ _⟩
          | [x], hat, hsz, Hl =>
            have hf : Hid (frontV [92, 120, x] = (0, 0)) := rfl
            have h3 : (s.size : Int) < 4 := by simp at hsz; omega
            clear hat Hl
            go_enter Tryd.func62, Tryd.ntmps62
            go_wp2_with fail
            go_ret2
            exact ⟨by rw [hf.out]; rfl, Kp.refl _ _⟩
          | x :: y :: r3, hat, hsz, Hl =>
            have h4s : 4 ≤ s.size := by simp at hsz; omega
            have htl : (s.extract 2 4).data.toList = [x, y] := by rw [extractL, Hl.out]; rfl
            have hts : (s.extract 2 4).size = 2 := by rw [Lib.size_eq, htl]; rfl
            have hpu := cPu (s.extract 2 4) hts w he
            rw [htl] at hpu
            clear hat htl hts
            have hf : Hid (frontV (92 :: 120 :: x :: y :: r3) = match pu 0 [x, y] with | some n => (UInt8.ofNat n, 4) | none => (0, 0)) := by show _ = _; unfold frontV; dsimp only; rw [if_pos rfl, if_pos rfl]; rfl
            go_enter Tryd.func62, Tryd.ntmps62
            go_wp2_with fail
            refine hpu.mono ?_
            rintro e w1 ⟨ho, k1⟩
            rcases ho with ⟨n, hn, rfl⟩ | ⟨hn, N, rfl⟩
            · have hn2 := pu_two x y n hn
              have hf2 : Hid (frontV (92 :: 120 :: x :: y :: r3) = (UInt8.ofNat n, 4)) := by show _ = _; rw [hf.out, hn]
              have hw : IntKind.u8.wrap (n : Int) = (n : Int) := by rw [IntKind.wrap_u8]; omega
              clear hf hn
              go_wp2_with fail
              go_ret2
              exact ⟨by rw [hf2.out]; simp; omega, k1⟩
            · have hf2 : Hid (frontV (92 :: 120 :: x :: y :: r3) = (0, 0)) := by show _ = _; rw [hf.out, hn]
              clear hf hn
              go_wp2_with fail
              go_ret2
              exact ⟨by rw [hf2.out]; rfl, k1⟩
        · have e120 : ((d.toNat : Int) == 120) = false := by have : d.toNat ≠ 120 := fun h => h120 (UInt8.toNat_inj.1 h); simp; omega
          have hf : Hid (frontV (92 :: d :: r2) = (d, 2)) := by show _ = _; unfold frontV; dsimp only; rw [if_pos rfl, if_neg h120]
          clear hat Hl
          go_enter Tryd.func62, Tryd.ntmps62
          go_wp2_with fail
          go_ret2
          exact ⟨by rw [hf.out]; rfl, Kp.refl _ _⟩
    · have e92 : ((c.toNat : Int) == 92) = false := by have : c.toNat ≠ 92 := fun h => h92 (UInt8.toNat_inj.1 h); simp; omega
      have hf : Hid (frontV (c :: r) = (c, 1)) := by show _ = _; unfold frontV; dsimp only; rw [if_neg h92]
      clear hat Hl
      go_enter Tryd.func62, Tryd.ntmps62
      go_wp2_with fail
      go_ret2
      exact ⟨by rw [hf.out]; rfl, Kp.refl _ _⟩


theorem Bu.kept {w0 w w' : World} {b : Nat} {l : List UInt8} (h : Bu w0 w b l) (hk : Kp [] w w') : Bu w0 w' b l := by
  have key : ∀ p, Lib.BuilderAtF 77 5 w0.heap.size b p (Lib.byteCells l) w → Lib.BuilderAtF 77 5 w0.heap.size b p (Lib.byteCells l) w' := by
    rintro p ⟨hB, v, hb, ⟨h1, h2⟩, hne⟩
    have old : ∀ k o, w.heap[k]? = some o → w'.heap[k]? = some o := fun k o ho => by
      have hlt : k < w.heap.size := by
        rcases Nat.lt_or_ge k w.heap.size with h' | h'
        · exact h'
        · rw [Array.getElem?_eq_none h'] at ho; cases ho
      rw [hk.block k hlt (by simp)]
      exact ho
    refine ⟨hB, v, old _ _ hb, ⟨h1, ?_⟩, hne⟩
    rcases h2 with h2 | ⟨g, cap, cur, fz, e1, e2, e3, e4⟩
    · exact .inl h2
    · exact .inr ⟨g, cap, cur, fz, e1, e2, old _ _ e3, e4⟩
  refine ⟨?_, h.2.trans hk (by simp)⟩
  rcases h.1 with h1 | h1
  · exact .inl (key _ h1)
  · exact .inr (key _ h1)

theorem escB_pos (c : UInt8) : 1 ≤ (escB c).length := by
  unfold escB
  split
  · simp
  · split <;> simp
theorem bodyB_cons (c : UInt8) (l : List UInt8) : bodyB (c :: l) = escB c ++ bodyB l := rfl
theorem bodyB_nil (l : List UInt8) (h : bodyB l = []) : l = [] := by
  cases l with
  | nil => rfl
  | cons c l =>
    have h1 := escB_pos c
    rw [bodyB_cons] at h
    rw [(List.append_eq_nil_iff.1 h).1] at h1
    simp at h1
/-- Where the loop stands, if it goes through what a text was written as. -/
def Way (l p r : List UInt8) : Prop := ∀ t : List UInt8, t.length ≤ 64 → l = bodyB t → ∃ t2, p ++ t2 = t ∧ r = bodyB t2
theorem Way.start (l : List UInt8) : Way l [] l := fun t _ h => ⟨t, rfl, h⟩
theorem Way.none {l p r : List UInt8} (h : Way l p r) (hr : r ≠ []) (h0 : (frontV r).2 = 0) : ∀ t : List UInt8, t.length ≤ 64 → l ≠ bodyB t := by
  intro t ht hl
  obtain ⟨t2, _, h2⟩ := h t ht hl
  cases t2 with
  | nil => exact hr h2
  | cons c t3 =>
    rw [h2, bodyB_cons, front_esc] at h0
    have := escB_pos c
    omega
theorem Way.step {l p r : List UInt8} (h : Way l p r) (hr : r ≠ []) : Way l (p ++ [(frontV r).1]) (r.drop (frontV r).2) := by
  intro t ht hl
  obtain ⟨t2, h1, h2⟩ := h t ht hl
  cases t2 with
  | nil => exact absurd h2 hr
  | cons c t3 =>
    rw [h2, bodyB_cons, front_esc]
    exact ⟨t3, by rw [← h1]; simp, by simp⟩
theorem Way.done {l p : List UInt8} (h : Way l p []) (t : List UInt8) (ht : t.length ≤ 64) (hl : l = bodyB t) : p = t := by
  obtain ⟨t2, h1, h2⟩ := h t ht hl
  rw [bodyB_nil t2 h2.symm] at h1
  simpa using h1
theorem Way.long {l p r : List UInt8} (h : Way l p r) (hp : 64 < p.length) (t : List UInt8) (ht : t.length ≤ 64) (hl : l = bodyB t) : False := by
  obtain ⟨t2, h1, h2⟩ := h t ht hl
  have := congrArg List.length h1
  simp at this
  omega
end Go.Proofs.YtboibllahibicaaDoor

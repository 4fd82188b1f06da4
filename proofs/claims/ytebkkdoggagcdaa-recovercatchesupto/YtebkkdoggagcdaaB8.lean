/- Stable sorting: symMerge. Stable sorting: stable, SortStableFunc. The reference's Put. The reference's Add, Erase, At, Purge. -/
import Derived.Test.YtebkkdoggagcdaaB6
import Derived.Test.YtebkkdoggagcdaaB7
import Derived.Test.YtebkkdoggagcdaaB3
section
namespace Go.Proofs.Ytebkkdoggagcdaa
open Go.RowKit Go.Hay
set_option linter.unusedVariables false
set_option linter.unusedSimpArgs false

theorem cSym (g o n cap : Nat) (A : Nat → Vr) (cv cu : Value) (cf : Nat → Nat → Int) (Inv : World → Prop) (hC : CmpOk g n A cv cu cf Inv) (hn : n ≤ 4000000000000) (hcap : n ≤ cap) : ∀ (d : Nat) (p : Nat → Nat) (a m b : Nat) (w : World), b - a ≤ d → Hd w g o n cap A p → Inv w → (∀ k, k < n → p k < n) → a < m → m < b → b ≤ n → Stb (fun x y => cf x y < 0) p a m → Stb (fun x y => cf x y < 0) p m b → Low p a m b → Calls Try.prog 51 #[.slice (some ⟨g, o, none⟩) n cap, .int .i64 (a : Int), .int .i64 (m : Int), .int .i64 (b : Int), .func (.func 39) #[] #[cv, cu]] w fun e w' => (∃ v, e = .returned v) ∧ ∃ s, PermIn a b s ∧ Stb (fun x y => cf x y < 0) (fun k => p (s k)) a b ∧ Hd w' g o n cap A (fun k => p (s k)) ∧ Kp [g] w w'
  | 0, p, a, m, b, w, hd, h, hI, hpn, h1, h2, h3, hA, hB, hLo => by omega
  | d + 1, p, a, m, b, w, hd, h, hI, hpn, h1, h2, h3, hA, hB, hLo => by
    by_cases c1 : m ≤ a + 1
    · exact cSymA g o n cap A cv cu cf Inv hC p a m b w h hI hpn h1 h2 h3 hA hB hLo hn hcap c1
    by_cases c2 : b ≤ m + 1
    · exact cSymB g o n cap A cv cu cf Inv hC p a m b w h hI hpn h1 h2 h3 hA hB hLo hn hcap (by omega) c2
    have IH := fun (p' : Nat → Nat) (a' m' b' : Nat) (w' : World) (hlt : b' - a' < b - a) h' hI' hpn' h1' h2' h3' hA' hB' hLo' => cSym g o n cap A cv cu cf Inv hC hn hcap d p' a' m' b' w' (by omega) h' hI' hpn' h1' h2' h3' hA' hB' hLo'
    by_cases c3 : a + b < 2 * m
    · exact cSymC1 g o n cap A cv cu cf Inv hC p a m b w h hI hpn h1 h2 h3 hA hB hLo hn hcap (by omega) (by omega) c3 IH
    · exact cSymC2 g o n cap A cv cu cf Inv hC p a m b w h hI hpn h1 h2 h3 hA hB hLo hn hcap (by omega) (by omega) (by omega) IH
end Go.Proofs.Ytebkkdoggagcdaa
end

section
namespace Go.Proofs.Ytebkkdoggagcdaa
open Go.RowKit Go.Hay
set_option linter.unusedVariables false
set_option linter.unusedSimpArgs false

/-- A run: in order, and made of its own places. -/
def Sg (lt : Nat → Nat → Prop) (s : Nat → Nat) (x y : Nat) : Prop := Stb lt s x y ∧ ∀ k, x ≤ k → k < y → x ≤ s k ∧ s k < y
theorem Sg.congr {lt : Nat → Nat → Prop} {s t : Nat → Nat} {x y : Nat} (h : Sg lt s x y) (ht : ∀ k, x ≤ k → k < y → t k = k) : Sg lt (fun k => s (t k)) x y :=
  ⟨fun i j g1 g2 g3 => by
    show bef lt (s (t i)) (s (t j))
    rw [ht i g1 (by omega), ht j (by omega) g3]
    exact h.1 i j g1 g2 g3, fun k g1 g2 => by
    show x ≤ s (t k) ∧ s (t k) < y
    rw [ht k g1 g2]
    exact h.2 k g1 g2⟩
/-- Two runs that were merged. -/
theorem Sg.merged {lt : Nat → Nat → Prop} {s t : Nat → Nat} {a m b : Nat} (h1 : Sg lt s a m) (h2 : Sg lt s m b) (hab : a ≤ m) (hmb : m ≤ b) (ht : PermIn a b t) (hs : Stb lt (fun k => s (t k)) a b) : Sg lt (fun k => s (t k)) a b :=
  ⟨hs, fun k g1 g2 => by
    show a ≤ s (t k) ∧ s (t k) < b
    have h3 := ht.1 k g1 g2
    by_cases c : t k < m
    · have := h1.2 _ h3.1 c
      omega
    · have := h2.2 (t k) (by omega) h3.2
      omega⟩
theorem Sg.low {lt : Nat → Nat → Prop} {s : Nat → Nat} {a m b : Nat} (h1 : Sg lt s a m) (h2 : Sg lt s m b) : Low s a m b := fun i j g1 g2 g3 g4 => by
  have := h1.2 i g1 g2
  have := h2.2 j g3 g4
  omega
/-- Whole runs, up to x. -/
inductive Ln (lt : Nat → Nat → Prop) (s : Nat → Nat) (bs : Nat) : Nat → Prop
  | nil : Ln lt s bs 0
  | snoc {x : Nat} : Ln lt s bs x → Sg lt s x (x + bs) → Ln lt s bs (x + bs)
/-- Runs from x on; the last one may be short. -/
inductive Rn (lt : Nat → Nat → Prop) (s : Nat → Nat) (bs n : Nat) : Nat → Prop
  | done {x : Nat} : n ≤ x → Rn lt s bs n x
  | step {x : Nat} : x < n → Sg lt s x (min (x + bs) n) → Rn lt s bs n (x + bs) → Rn lt s bs n x
theorem Ln.congr {lt : Nat → Nat → Prop} {s t : Nat → Nat} {bs x : Nat} (h : Ln lt s bs x) : (∀ k, k < x → t k = k) → Ln lt (fun k => s (t k)) bs x := by
  induction h with
  | nil => intro _; exact .nil
  | snoc h1 h2 ih => intro ht; exact .snoc (ih fun k hk => ht k (by omega)) (h2.congr fun k _ g => ht k g)
theorem Rn.congr {lt : Nat → Nat → Prop} {s t : Nat → Nat} {bs n x : Nat} (h : Rn lt s bs n x) : (∀ k, x ≤ k → k < n → t k = k) → Rn lt (fun k => s (t k)) bs n x := by
  induction h with
  | done h => intro _; exact .done h
  | step h1 h2 h3 ih => intro ht; exact .step h1 (h2.congr fun k g1 g2 => ht k g1 (by omega)) (ih fun k g1 g2 => ht k (by omega) g2)
theorem Ln.all {lt : Nat → Nat → Prop} {s : Nat → Nat} {bs n x : Nat} (h : Ln lt s bs x) (hb : 0 < bs) : x ≤ n → Rn lt s bs n x → Rn lt s bs n 0 := by
  induction h with
  | nil => intro _ h; exact h
  | snoc h1 h2 ih => intro hx hr; exact ih (by omega) (.step (by omega) (by rw [Nat.min_eq_left hx]; exact h2) hr)
theorem Rn.two {lt : Nat → Nat → Prop} {s : Nat → Nat} {bs n a : Nat} (h : Rn lt s bs n a) (hb : 0 < bs) (hab : a + bs < n) : Sg lt s a (a + bs) ∧ Sg lt s (a + bs) (min (a + bs + bs) n) ∧ Rn lt s bs n (a + bs + bs) := by
  cases h with
  | done h => omega
  | step h1 h2 h3 =>
    rw [Nat.min_eq_left (by omega)] at h2
    cases h3 with
    | done h => omega
    | step h4 h5 h6 => exact ⟨h2, h5, h6⟩
theorem Rn.last {lt : Nat → Nat → Prop} {s : Nat → Nat} {bs n a : Nat} (h : Rn lt s bs n a) (han : a < n) (hab : n ≤ a + bs) : Sg lt s a n := by
  cases h with
  | done h => omega
  | step h1 h2 h3 => rwa [Nat.min_eq_right hab] at h2
theorem Sg.fresh {lt : Nat → Nat → Prop} {s t : Nat → Nat} {a b : Nat} (hs : PermIn 0 a s) (ht : PermIn a b t) (h : Stb lt (fun k => s (t k)) a b) : Sg lt (fun k => s (t k)) a b :=
  ⟨h, fun k g1 g2 => by
    show a ≤ s (t k) ∧ s (t k) < b
    have h3 := ht.1 k g1 g2
    rw [hs.2.1 (t k) (by omega)]
    exact h3⟩
set_option maxHeartbeats 64000000 in
set_option maxRecDepth 100000 in
theorem cStable (g o n cap : Nat) (A : Nat → Vr) (cv cu : Value) (cf : Nat → Nat → Int) (Inv : World → Prop) (hC : CmpOk g n A cv cu cf Inv) (hn : n ≤ 4000000000000) (hcap : n ≤ cap) (w : World) (h : Hd w g o n cap A (fun k => k)) (hI : Inv w) : Calls Try.prog 47 #[.slice (some ⟨g, o, none⟩) n cap, .int .i64 (n : Int), .func (.func 39) #[] #[cv, cu]] w fun e w' => (∃ v, e = .returned v) ∧ ∃ s, PermIn 0 n s ∧ Stb (fun x y => cf x y < 0) s 0 n ∧ Hd w' g o n cap A s ∧ Kp [g] w w' := by
  have HC := hid hC
  have HI := hid hI
  have HH := hid h
  clear hC hI h
  go_enter Try.func47, Try.ntmps47
  go_wp2_with fail
  go_loopw [7, 8] (fun av bv wr => ∃ (a b : Nat) (s : Nat → Nat), (a ≤ n ∧ a + 20 ≤ b ∧ b ≤ a + 20) ∧ av = .int .i64 (a : Int) ∧ bv = .int .i64 (b : Int) ∧ Hid (PermIn 0 a s ∧ Ln (fun x y => cf x y < 0) s 20 a) ∧ Hid (Hd wr g o n cap A s ∧ Kp [g] w wr)) (fun av _ _ => n + 20 - (intOf av).toNat)
  case atStart => exact ⟨0, 20, fun k => k, by omega, rfl, rfl, hid ⟨PermIn.id _ _, .nil⟩, hid ⟨HH.out, Kp.refl _ _⟩⟩
  case round =>
    obtain ⟨a, b, s, ⟨ba, bb1, bb2⟩, rfl, rfl, hs, hw⟩ := hrel
    by_cases hbn : b ≤ n
    · have d0 : decide ((b : Int) ≤ (n : Int)) = true := by simp; omega
      have d1 : (b : Int) ≤ (n : Int) := by omega
      have cI := hid (cIns g o n cap A cv cu cf Inv HC.out s a b wr hw.out.1 (HC.out.keep _ _ HI.out hw.out.2) (fun k g1 g2 => hs.out.1.2.1 k (by omega)) (by omega) hbn hn hcap)
      obtain ⟨b', hb2'⟩ : ∃ x : Nat, x = b + 20 := ⟨_, rfl⟩
      have ebx : (b : Int) + 20 = (b' : Int) := by omega
      have ebx1 : (-9223372036854775808 : Int) ≤ (b : Int) + 20 := by omega
      have ebx2 : (b : Int) + 20 ≤ 9223372036854775807 := by omega
      have HW := hid hw.out.2
      have hb3 : a ≤ b ∧ b + 20 ≤ b' ∧ b' ≤ b + 20 := by omega
      clear hb2' hw
      go_wp2_with fail
      refine cI.out.mono ?_
      rintro e w1 ⟨⟨v, rfl⟩, t, pt, st, hd, kd⟩
      have hs2 : Hid (PermIn 0 b (fun k => s (t k)) ∧ Ln (fun x y => cf x y < 0) (fun k => s (t k)) 20 b) := hid ⟨(hs.out.1.mono (Nat.le_refl _) (by omega)).comp (pt.mono (Nat.zero_le _) (Nat.le_refl _)), by
        have e : b = a + 20 := by omega
        subst e
        exact .snoc (hs.out.2.congr fun k hk => pt.2.1 k (by omega)) (Sg.fresh hs.out.1 pt st)⟩
      have hw2 := hid (And.intro hd (HW.out.trans kd (by simp)))
      clear pt st hd kd hs HW cI
      go_wp2_with fail
      exact ⟨⟨b, b', fun k => s (t k), by omega, rfl, rfl, hs2, hw2⟩, by simp [intOf]; omega⟩
    · have d0 : decide ((b : Int) ≤ (n : Int)) = false := by simp; omega
      have d1 : ¬ ((b : Int) ≤ (n : Int)) := by omega
      have cI := hid (cIns g o n cap A cv cu cf Inv HC.out s a n wr hw.out.1 (HC.out.keep _ _ HI.out hw.out.2) (fun k g1 g2 => hs.out.1.2.1 k (by omega)) ba (Nat.le_refl _) hn hcap)
      have HW := hid hw.out.2
      clear hw
      go_wp2_with fail
      refine cI.out.mono ?_
      rintro e w1 ⟨⟨v, rfl⟩, t, pt, st, hd, kd⟩
      have hs2 : Hid (PermIn 0 n (fun k => s (t k)) ∧ Rn (fun x y => cf x y < 0) (fun k => s (t k)) 20 n 0) := hid ⟨(hs.out.1.mono (Nat.le_refl _) ba).comp (pt.mono (Nat.zero_le _) (Nat.le_refl _)), (hs.out.2.congr fun k hk => pt.2.1 k (by omega)).all (by omega) ba (by
        by_cases c : a < n
        · exact .step c (by rw [Nat.min_eq_right (by omega)]; exact Sg.fresh hs.out.1 pt st) (.done (by omega))
        · exact .done (by omega))⟩
      have hw2 := hid (And.intro hd (HW.out.trans kd (by simp)))
      clear pt st hd kd hs HW cI
      go_wp2_with fail
      go_loopw [6, 7, 8, 9] (fun zv _ _ _ wn => ∃ (bs : Nat) (s : Nat → Nat), (20 ≤ bs ∧ bs ≤ n + n + 20) ∧ zv = .int .i64 (bs : Int) ∧ Hid (PermIn 0 n s ∧ Rn (fun x y => cf x y < 0) s bs n 0) ∧ Hid (Hd wn g o n cap A s ∧ Kp [g] w wn)) (fun zv _ _ _ _ => n + n + 20 - (intOf zv).toNat)
      case atStart => exact ⟨20, _, by omega, rfl, hs2, hw2⟩
      case round =>
        obtain ⟨bs, s, ⟨bz1, bz2⟩, rfl, hs, hw⟩ := hrel
        clear hs2 hw2
        by_cases hzn : bs < n
        · have i0 : (bs : Int) < (n : Int) := by omega
          obtain ⟨B, hB⟩ : ∃ x : Nat, x = 2 * bs := ⟨_, rfl⟩
          have eB : (2 : Int) * (bs : Int) = (B : Int) := by omega
          have eB1 : (-9223372036854775808 : Int) ≤ (2 : Int) * (bs : Int) := by omega
          have eB2 : (2 : Int) * (bs : Int) ≤ 9223372036854775807 := by omega
          obtain ⟨B2, hB2⟩ : ∃ x : Nat, x = 2 * bs := ⟨_, rfl⟩
          have eB2 : (bs : Int) * 2 = (B2 : Int) := by omega
          have eB21 : (-9223372036854775808 : Int) ≤ (bs : Int) * 2 := by omega
          have eB22 : (bs : Int) * 2 ≤ 9223372036854775807 := by omega
          have hBb : bs + bs ≤ B ∧ B ≤ bs + bs ∧ B2 ≤ bs + bs ∧ bs + bs ≤ B2 := by omega
          clear hB hB2
          go_wp2_with fail
          go_loopw [7, 8] (fun av bv wn => ∃ (a b : Nat) (s : Nat → Nat), (a ≤ n ∧ a + B ≤ b ∧ b ≤ a + B) ∧ av = .int .i64 (a : Int) ∧ bv = .int .i64 (b : Int) ∧ Hid (PermIn 0 n s ∧ Ln (fun x y => cf x y < 0) s B a ∧ Rn (fun x y => cf x y < 0) s bs n a) ∧ Hid (Hd wn g o n cap A s ∧ Kp [g] w wn)) (fun av _ _ => n + 1 - (intOf av).toNat)
          case atStart => exact ⟨0, B, s, by omega, rfl, rfl, hid ⟨hs.out.1, .nil, hs.out.2⟩, hw⟩
          case round =>
            obtain ⟨a, b, s, ⟨ba, bb1, bb2⟩, rfl, rfl, hs, hw⟩ := hrel
            obtain ⟨m, hm⟩ : ∃ x : Nat, x = a + bs := ⟨_, rfl⟩
            have em : (a : Int) + (bs : Int) = (m : Int) := by omega
            have em1 : (-9223372036854775808 : Int) ≤ (a : Int) + (bs : Int) := by omega
            have em2 : (a : Int) + (bs : Int) ≤ 9223372036854775807 := by omega
            have hm2 : m ≤ a + bs ∧ a + bs ≤ m := by omega
            clear hm
            by_cases hbn : b ≤ n
            · have d0 : decide ((b : Int) ≤ (n : Int)) = true := by simp; omega
              have d1 : (b : Int) ≤ (n : Int) := by omega
              obtain ⟨b2, hb2⟩ : ∃ x : Nat, x = b + B := ⟨_, rfl⟩
              have eb2 : (b : Int) + (B : Int) = (b2 : Int) := by omega
              have eb21 : (-9223372036854775808 : Int) ≤ (b : Int) + (B : Int) := by omega
              have eb22 : (b : Int) + (B : Int) ≤ 9223372036854775807 := by omega
              have hb3 : b2 ≤ b + B ∧ b + B ≤ b2 := by omega
              have hem : m = a + bs := by omega
              have heb : b = a + bs + bs := by omega
              obtain ⟨r1, r2, r3⟩ := hs.out.2.2.two (by omega) (by omega)
              rw [Nat.min_eq_left (by omega)] at r2
              rw [← hem] at r1 r2 r3
              have heb2 : b = m + bs := by omega
              rw [← heb2] at r2 r3
              have cM := hid (cSym g o n cap A cv cu cf Inv HC.out hn hcap (b - a) s a m b wr (Nat.le_refl _) hw.out.1 (HC.out.keep _ _ HI.out hw.out.2) (fun k hk => (hs.out.1.1 k (Nat.zero_le _) hk).2) (by omega) (by omega) hbn r1.1 r2.1 (r1.low r2))
              have HW := hid hw.out.2
              have RR := hid (And.intro r1 (And.intro r2 r3))
              clear hb2 hw hem heb heb2 r1 r2 r3
              go_wp2_with fail
              refine cM.out.mono ?_
              rintro e w1 ⟨⟨v, rfl⟩, t, pt, st, hd, kd⟩
              have hs2 : Hid (PermIn 0 n (fun k => s (t k)) ∧ Ln (fun x y => cf x y < 0) (fun k => s (t k)) B b ∧ Rn (fun x y => cf x y < 0) (fun k => s (t k)) bs n b) := hid ⟨hs.out.1.comp (pt.mono (Nat.zero_le _) hbn), by
                have hSg := Sg.merged RR.out.1 RR.out.2.1 (by omega) (by omega) pt st
                have e : b = a + B := by omega
                rw [e] at hSg ⊢
                exact .snoc (hs.out.2.1.congr fun k hk => pt.2.1 k (by omega)) hSg, RR.out.2.2.congr fun k g1 g2 => pt.2.1 k (by omega)⟩
              have hw2 := hid (And.intro hd (HW.out.trans kd (by simp)))
              clear pt st hd kd hs HW cM RR
              go_wp2_with fail
              exact ⟨⟨b, b2, fun k => s (t k), by omega, rfl, rfl, hs2, hw2⟩, by simp [intOf]; omega⟩
            · have d0 : decide ((b : Int) ≤ (n : Int)) = false := by simp; omega
              have d1 : ¬ ((b : Int) ≤ (n : Int)) := by omega
              by_cases hmn : m < n
              · have i5 : (m : Int) < (n : Int) := by omega
                have hem : m = a + bs := by omega
                obtain ⟨r1, r2, r3⟩ := hs.out.2.2.two (by omega) (by omega)
                rw [Nat.min_eq_right (by omega)] at r2
                rw [← hem] at r1 r2
                have cM := hid (cSym g o n cap A cv cu cf Inv HC.out hn hcap (n - a) s a m n wr (Nat.le_refl _) hw.out.1 (HC.out.keep _ _ HI.out hw.out.2) (fun k hk => (hs.out.1.1 k (Nat.zero_le _) hk).2) (by omega) hmn (Nat.le_refl _) r1.1 r2.1 (r1.low r2))
                have HW := hid hw.out.2
                have RR := hid (And.intro r1 r2)
                clear hw hem r1 r2 r3
                go_wp2_with fail
                refine cM.out.mono ?_
                rintro e w1 ⟨⟨v, rfl⟩, t, pt, st, hd, kd⟩
                have hs2 : Hid (PermIn 0 n (fun k => s (t k)) ∧ Rn (fun x y => cf x y < 0) (fun k => s (t k)) B2 n 0) := hid ⟨hs.out.1.comp (pt.mono (Nat.zero_le _) (Nat.le_refl _)), by
                  have hSg := Sg.merged RR.out.1 RR.out.2 (by omega) (by omega) pt st
                  have e : B2 = B := by omega
                  rw [e]
                  exact (hs.out.2.1.congr fun k hk => pt.2.1 k (by omega)).all (by omega) ba (.step (by omega) (by rw [Nat.min_eq_right (by omega)]; exact hSg) (.done (by omega)))⟩
                have hw2 := hid (And.intro hd (HW.out.trans kd (by simp)))
                clear pt st hd kd hs HW cM RR
                go_wp2_with fail
                exact ⟨⟨B2, fun k => s (t k), by omega, rfl, hs2, hw2⟩, by simp [intOf]; omega⟩
              · have i5 : ¬ ((m : Int) < (n : Int)) := by omega
                have i6 : decide ((m : Int) < (n : Int)) = false := by simp; omega
                have hs2 : Hid (PermIn 0 n s ∧ Rn (fun x y => cf x y < 0) s B2 n 0) := hid ⟨hs.out.1, by
                  have e : B2 = B := by omega
                  rw [e]
                  refine hs.out.2.1.all (by omega) ba ?_
                  by_cases c : a < n
                  · exact .step c (by rw [Nat.min_eq_right (by omega)]; exact hs.out.2.2.last c (by omega)) (.done (by omega))
                  · exact .done (by omega)⟩
                clear hs
                go_wp2_with fail
                exact ⟨⟨B2, s, by omega, rfl, hs2, hw⟩, by simp [intOf]; omega⟩
        · have d2 : decide ((bs : Int) < (n : Int)) = false := by simp; omega
          have d3 : ¬ ((bs : Int) < (n : Int)) := by omega
          have hfin : Hid (Stb (fun x y => cf x y < 0) s 0 n) := hid (by
            by_cases c : 0 < n
            · exact (hs.out.2.last c (by omega)).1
            · exact Stb.one _ _ _ _ (by omega))
          go_wp2_with fail
          go_end0
          exact ⟨⟨_, rfl⟩, s, hs.out.1, hfin.out, hw.out.1, hw.out.2⟩
theorem cSortStable (g o n cap : Nat) (A : Nat → Vr) (cv cu : Value) (cf : Nat → Nat → Int) (Inv : World → Prop) (hC : CmpOk g n A cv cu cf Inv) (hn : n ≤ 4000000000000) (hcap : n ≤ cap) (w : World) (h : Hd w g o n cap A (fun k => k)) (hI : Inv w) : Calls Try.prog 41 #[.slice (some ⟨g, o, none⟩) n cap, .func (.func 39) #[] #[cv, cu]] w fun e w' => (∃ v, e = .returned v) ∧ ∃ s, PermIn 0 n s ∧ Stb (fun x y => cf x y < 0) s 0 n ∧ Hd w' g o n cap A s ∧ Kp [g] w w' := by
  have cS := hid (cStable g o n cap A cv cu cf Inv hC hn hcap w h hI)
  clear hC h hI
  go_enter Try.func41, Try.ntmps41
  go_wp2_with fail
  refine cS.out.mono ?_
  rintro e w1 ⟨⟨v, rfl⟩, hp⟩
  have HP := hid hp
  clear hp
  go_wp2_with fail
  go_end0
  exact ⟨⟨_, rfl⟩, HP.out⟩
end Go.Proofs.Ytebkkdoggagcdaa
end

section
namespace Go.Proofs.Ytebkkdoggagcdaa
open Go.RowKit Go.Hay
set_option linter.unusedVariables false
set_option linter.unusedSimpArgs false

/-- What Put has made of the first j: k the place, d whether one of the name is there. -/
def putTo (l : List Vn) (v : Vn) (k d j : Nat) : List Vn := if j ≤ k then l.take j else l.take k ++ v :: (l.take j).drop (k + d)
theorem putTo_len (l : List Vn) (v : Vn) (k d j : Nat) : (putTo l v k d j).length ≤ j + 1 := by
  unfold putTo
  split
  · simp; omega
  · simp; omega
/-- A version appended to a row of the call's own. -/
theorem appV (w : World) (L : List Vn) (a : Option Addr) (c : Nat) (x : Vn) (q : Nat) (hq : w.heap.size = q) (hr : VnE.Row w (.slice a L.length c) L) (hL : L.length ≤ 4000000000002) :
    ∃ a' c' w', (Builtin.append_ #[22, 22] 22 #[.slice a L.length c, .slice (some ⟨q, 0, none⟩) 1 1]).run Try.prog (w.alloc (.cells #[.int .u64 x.ep, .int .u32 x.num, .slice x.a x.row.length x.c, .int .u64 x.del] 34)) = .ok (.slice a' (L ++ [x]).length c') w' ∧ VnE.Row w' (.slice a' (L ++ [x]).length c') (L ++ [x]) ∧ Kp (blk a) w w' ∧ ∀ k ∈ blk a', k ∈ blk a ∨ w.heap.size ≤ k := by
  have k1 : Kp [] w (w.alloc (.cells #[.int .u64 x.ep, .int .u32 x.num, .slice x.a x.row.length x.c, .int .u64 x.del] 34)) := (Kp.refl _ _).alloc _
  have bx : Bx (w.alloc (.cells #[.int .u64 x.ep, .int .u32 x.num, .slice x.a x.row.length x.c, .int .u64 x.del] 34)) q (VnE.c x) := by rw [← hq]; exact Bx.new w (VnE.c x) _
  obtain ⟨i0, hi, hz0, hz1, hz2⟩ := infoN
  have hsr := bx.see1.src (P := Try.prog) Try.underlying22 1
  obtain ⟨v', w', hrun, h1, h2, h3⟩ := run_appendG (E := VnE) (P := Try.prog) _ 22 22 22 34 i0 _ 48 Try.underlying22 hi hz0 hz1 hz2 rfl (.slice a L.length c) L (hr.keptNew k1) _ [x] hsr (by simp only [List.length_cons, List.length_nil]; omega) (by simp only [List.length_cons, List.length_nil]; omega)
  obtain ⟨a', c', rfl, _⟩ := h1.see
  simp only [own_slice] at h2 h3
  refine ⟨a', c', w', hrun, h1, (k1.mono (by simp)).trans h2 (fun _ h => .inl h), fun k hk => ?_⟩
  rcases h3 k hk with e | e
  · exact .inl e
  · exact .inr (Nat.le_trans k1.size e)
/-- How Put stands: what is gathered. -/
structure PuI (w wr : World) (a : Option Addr) (c : Nat) (L : List Vn) : Prop where
  row : VnE.Row wr (.slice a L.length c) L
  kp : Kp [] w wr
  new : ∀ k ∈ blk a, w.heap.size + 1 ≤ k
theorem PuI.quiet {w wr wr' : World} {a : Option Addr} {c : Nat} {L : List Vn} (h : PuI w wr a c L) (hk : Kp [] wr wr') : PuI w wr' a c L := ⟨h.row.keptNew hk, h.kp.trans hk (by simp), h.new⟩
theorem PuI.app {w wr : World} {a : Option Addr} {c : Nat} {L : List Vn} (h : PuI w wr a c L) (hz : w.heap.size + 1 ≤ wr.heap.size) (x : Vn) (q : Nat) (hq : wr.heap.size = q) (hL : L.length ≤ 4000000000002) :
    ∃ a' c' w', (Builtin.append_ #[22, 22] 22 #[.slice a L.length c, .slice (some ⟨q, 0, none⟩) 1 1]).run Try.prog (wr.alloc (.cells #[.int .u64 x.ep, .int .u32 x.num, .slice x.a x.row.length x.c, .int .u64 x.del] 34)) = .ok (.slice a' (L ++ [x]).length c') w' ∧ PuI w w' a' c' (L ++ [x]) ∧ w.heap.size + 1 ≤ w'.heap.size ∧ Kp (blk a) wr w' := by
  obtain ⟨a', c', w', h1, h2, h3, h4⟩ := appV wr L a c x q hq h.row hL
  exact ⟨a', c', w', h1, ⟨h2, h.kp.trans h3 (fun k hk => .inr (by have := h.new k hk; omega)), fun k hk => by
    rcases h4 k hk with e | e
    · exact h.new k e
    · omega⟩, Nat.le_trans hz h3.size, h3⟩
theorem putTo_low {l : List Vn} {v : Vn} {k d j : Nat} {x : Vn} (hx : l[j]? = some x) (hj : j < k) : putTo l v k d (j + 1) = putTo l v k d j ++ [x] := by
  unfold putTo
  obtain ⟨hl, rfl⟩ := List.getElem?_eq_some_iff.1 hx
  rw [if_pos (by omega), if_pos (by omega), List.take_succ_eq_append_getElem hl]
theorem putTo_at {l : List Vn} {v : Vn} {k d : Nat} {x : Vn} (hx : l[k]? = some x) : putTo l v k d (k + 1) = putTo l v k d k ++ (if d = 0 then [v, x] else if d = 1 then [v] else [v]) ∨ 1 < d := by
  obtain ⟨hl, rfl⟩ := List.getElem?_eq_some_iff.1 hx
  unfold putTo
  rw [if_neg (by omega), if_pos (Nat.le_refl _)]
  by_cases h0 : d = 0
  · left
    subst h0
    rw [if_pos rfl, Nat.add_zero, List.take_succ_eq_append_getElem hl, List.drop_append_of_le_length (by simp; omega), List.drop_take]
    simp
  · by_cases h1 : d = 1
    · left
      subst h1
      rw [if_neg (by omega), if_pos rfl, List.drop_of_length_le (by simp; omega)]
    · right; omega
theorem putTo_high {l : List Vn} {v : Vn} {k d j : Nat} {x : Vn} (hx : l[j]? = some x) (hj : k < j) (hd : d ≤ 1) : putTo l v k d (j + 1) = putTo l v k d j ++ [x] := by
  obtain ⟨hl, rfl⟩ := List.getElem?_eq_some_iff.1 hx
  unfold putTo
  rw [if_neg (by omega), if_neg (by omega), List.take_succ_eq_append_getElem hl, List.drop_append_of_le_length (by simp; omega)]
  simp
set_option maxHeartbeats 16000000 in
set_option maxRecDepth 100000 in
theorem rPut (a : Option Addr) (c : Nat) (l : List Vn) (v : Vn) (w : World) (hs : VnE.See w a l) (hsr : Srt l) (hf : l.length ≤ 4000000000000) :
    Calls Try.prog 32 #[.slice a l.length c, .agg #[.int .u64 v.ep, .int .u32 v.num, .slice v.a v.row.length v.c, .int .u64 v.del]] w fun e w' => ∃ a' c', e = .returned (.slice a' (l.take (kOf l v.id) ++ v :: l.drop (kOf l v.id + (if hasV l v.id = true then 1 else 0))).length c') ∧ VnE.Row w' (.slice a' (l.take (kOf l v.id) ++ v :: l.drop (kOf l v.id + (if hasV l v.id = true then 1 else 0))).length c') (l.take (kOf l v.id) ++ v :: l.drop (kOf l v.id + (if hasV l v.id = true then 1 else 0))) ∧ Kp [] w w' ∧ ∀ k ∈ blk a', w.heap.size ≤ k := by
  have hkl := kOf_le l v.id
  have hat := hid (kOf_at hsr v.id)
  have hyes := hid (has_at hsr v.id)
  have hno := hid (hasNot_at (l := l) v.id)
  obtain ⟨k, hk⟩ : ∃ k, Hid (kOf l v.id = k) := ⟨_, rfl⟩
  obtain ⟨d, hd⟩ : ∃ d : Nat, Hid ((if hasV l v.id = true then 1 else 0) = d) := ⟨_, rfl⟩
  have hd1 : d ≤ 1 := by rw [← hd.out]; split <;> omega
  have heq : Hid (∀ (j : Nat) (x : Vn), l[j]? = some x → (decide ((x.ep, x.num) = (v.ep, v.num)) = decide (j = k ∧ d = 1))) := fun j x hx => by
    by_cases hh : hasV l v.id = true
    · obtain ⟨y, hy, ey⟩ := hyes.out hh
      have hd' : d = 1 := by rw [← hd.out, if_pos hh]
      rw [hk.out] at hy
      by_cases hjk : j = k
      · subst hjk
        rw [hx] at hy; cases hy
        simp [hd']; simpa [Vn.id] using ey
      · have : ¬ (x.ep, x.num) = (v.ep, v.num) := fun e => by
          obtain ⟨g1, e1⟩ := List.getElem?_eq_some_iff.1 hx
          obtain ⟨g2, e2⟩ := List.getElem?_eq_some_iff.1 hy
          rcases Nat.lt_or_gt_of_ne hjk with h | h
          · have := List.pairwise_iff_getElem.1 hsr _ _ g1 g2 h
            rw [e1, e2] at this
            exact ltI_ne this (show x.id = y.id from e.trans ey.symm)
          · have := List.pairwise_iff_getElem.1 hsr _ _ g2 g1 h
            rw [e1, e2] at this
            exact ltI_ne this (show y.id = x.id from ey.trans e.symm)
        simp only [this, hjk, false_and, decide_false]
    · have hd' : d = 0 := by rw [← hd.out, if_neg hh]
      have : ¬ (x.ep, x.num) = (v.ep, v.num) := hno.out (by simpa using hh) x (List.mem_of_getElem? hx)
      simp only [this, hd', decide_false]
      simp
  rw [hk.out] at hkl hat ⊢
  rw [hd.out]
  have hend : Hid (putTo l v k d l.length = if l.length ≤ k then l else l.take k ++ v :: l.drop (k + d)) := by
    show _ = _
    unfold putTo
    rw [List.take_length]
  obtain ⟨w1, hw1⟩ : ∃ w1, w.alloc (.cells #[.int .u64 v.ep, .int .u32 v.num, .slice v.a v.row.length v.c, .int .u64 v.del] 34) = w1 := ⟨_, rfl⟩
  have k1 : Kp [] w w1 := by rw [← hw1]; exact (Kp.refl _ _).alloc _
  have bx : Bx w1 w.heap.size (VnE.c v) := by rw [← hw1]; exact Bx.new w (VnE.c v) _
  have hlt1 : w.heap.size + 1 ≤ w1.heap.size := by rw [← hw1]; simp
  have hs1 := hid hs
  have hplow := hid (fun j x (hx : l[j]? = some x) (hj : j < k) => putTo_low (v := v) (d := d) hx hj)
  have hpat := hid (fun x (hx : l[k]? = some x) => putTo_at (v := v) (d := d) hx)
  have hphi := hid (fun j x (hx : l[j]? = some x) (hj : k < j) => putTo_high (v := v) (d := d) hx hj hd1)
  have hlenP := hid (putTo_len l v k d)
  clear hs hsr hyes hno
  have hidv : Hid (v.id = (v.ep, v.num)) := rfl
  rw [hidv.out] at hat
  obtain ⟨P, hP⟩ : ∃ P : Nat → List Vn, Hid (putTo l v k d = P) := ⟨_, rfl⟩
  obtain ⟨Fin, hFin⟩ : ∃ F : List Vn, Hid (l.take k ++ v :: l.drop (k + d) = F) := ⟨_, rfl⟩
  have hP0 : Hid (P 0 = []) := by show _ = _; rw [← hP.out]; unfold putTo; rw [if_pos (Nat.zero_le _)]; rfl
  have hPend1 : Hid (k < l.length → P l.length = Fin) := fun h => by rw [← hP.out, hend.out, if_neg (by omega)]; exact hFin.out
  have hPend2 : Hid (k = l.length → P l.length ++ [v] = Fin) := fun h => by rw [← hP.out, hend.out, if_pos (by omega), ← hFin.out, h, List.take_length, List.drop_of_length_le (by omega)]
  simp only [hP.out] at hplow hpat hphi hlenP
  rw [hFin.out]
  obtain ⟨ep, num, va, vc, row, del⟩ := v
  dsimp only at *
  clear hend hP hFin hd
  go_enter Try.func32, Try.ntmps32
  go_wp2_with fail
  go_loopw [5, 6, 7] (fun s5 s6 s7 wr => ∃ (j : Nat) (a' : Option Addr) (c' : Nat), j ≤ l.length ∧ s7 = .int .i64 j ∧ s6 = .bool (decide (k < j)) ∧ s5 = .slice a' (P j).length c' ∧ PuI w wr a' c' (P j) ∧ w.heap.size + 1 ≤ wr.heap.size ∧ Hid (Bx wr w.heap.size (VnE.c ⟨ep, num, va, vc, row, del⟩))) (fun _ _ s7 _ => l.length - (intOf s7).toNat)
  case atStart => exact ⟨0, none, 0, Nat.zero_le _, rfl, rfl, by rw [hP0.out]; rfl, by rw [hP0.out]; exact ⟨.inl ⟨rfl, rfl⟩, k1, by simp [blk]⟩, hlt1, bx⟩
  case round =>
    clear hP0 hw1 bx hlt1 k1
    obtain ⟨j, a', c', hj, rfl, rfl, rfl, I, hz, hbx⟩ := hrel
    by_cases hjl : j < l.length
    · have hx : l[j]? = some l[j] := by simp [hjl]
      obtain ⟨g, o, rfl, c0, c1, c2, c3⟩ := idAt (hs1.out.keptNew I.kp) hx
      have b := hbx.out
      have d0 := b.get 0 _ rfl; have d1 := b.get 1 _ rfl; have d2 := b.get 2 _ rfl; have d3 := b.get 3 _ rfl
      have hatj := hat.out j l[j] hx
      have heqj := heq.out j l[j] hx
      have hlow := hid (hplow.out j l[j] hx)
      have hhi := hid (hphi.out j l[j] hx)
      have hmid : Hid (j = k → P (k + 1) = P k ++ (if d = 0 then [⟨ep, num, va, vc, row, del⟩, l[j]] else if d = 1 then [⟨ep, num, va, vc, row, del⟩] else [⟨ep, num, va, vc, row, del⟩])) := fun e => by
        rcases hpat.out l[j] (by rw [← e]; exact hx) with h | h
        · exact h
        · omega
      have glt : g < w.heap.size := hs1.out.lt (fun e => by rw [e] at hjl; simp at hjl) g (by simp [blk])
      have cL := rLess l[j].ep l[j].num ep num
      have hlenj := hlenP.out j
      have i1 : (0 : Int) ≤ (j : Int) := by omega
      have i2 : (j : Int) < (l.length : Int) := by omega
      clear hx hplow hpat hphi hlenP hat heq hPend1 hPend2
      generalize l[j] = x at *
      have nI := neI x.ep x.num ep num
      simp only [heqj] at nI
      obtain ⟨B, hBB⟩ : ∃ B, Hid (ltI (x.ep, x.num) (ep, num) = B) := ⟨_, rfl⟩
      have hatj' : Hid (B = true ↔ j < k) := by rw [← hBB.out]; exact hatj
      simp only [hBB.out] at cL
      obtain ⟨xe, xn, xa, xc, xr, xd⟩ := x
      dsimp only at c0 c1 c2 c3 cL nI hlow hhi hmid
      have hS0 : (fun A : World => (A.cell? ⟨g, o + j * 4, none⟩ = some (.int .u64 xe) ∧ A.cell? ⟨g, o + j * 4 + 1, none⟩ = some (.int .u32 xn) ∧ A.cell? ⟨g, o + j * 4 + 2, none⟩ = some (.slice xa xr.length xc) ∧ A.cell? ⟨g, o + j * 4 + 3, none⟩ = some (.int .u64 xd)) ∧ A.cell? ⟨w.heap.size, 0, none⟩ = some (.int .u64 ep) ∧ A.cell? ⟨w.heap.size, 1, none⟩ = some (.int .u32 num) ∧ A.cell? ⟨w.heap.size, 2, none⟩ = some (.slice va row.length vc) ∧ A.cell? ⟨w.heap.size, 3, none⟩ = some (.int .u64 del)) wr.drew := ⟨⟨c0, c1, c2, c3⟩, d0, d1, d2, d3⟩
      have Kwd : Kp [] wr wr.drew := (Kp.refl _ _).drew
      have hI := hid I
      clear c0 c1 c2 c3 d0 d1 d2 d3 heqj hatj I b hBB
      rcases Nat.lt_trichotomy j k with hjk | hjk | hjk
      · have hB1 : B = true := hatj'.out.2 hjk
        subst hB1
        have t1 : decide (k < j) = false := by simp; omega
        have t2 : decide (j = k ∧ d = 1) = false := by simp; omega
        have hP1 := hlow.out hjk
        rw [t1]
        simp only [t2, Bool.not_false] at nI
        clear hlow hhi hmid hatj' t2
        go_wp2_with fail
        refine wp_region_held_drew (S := (fun A => (A.cell? ⟨g, o + j * 4, none⟩ = some (.int .u64 xe) ∧ A.cell? ⟨g, o + j * 4 + 1, none⟩ = some (.int .u32 xn) ∧ A.cell? ⟨g, o + j * 4 + 2, none⟩ = some (.slice xa xr.length xc) ∧ A.cell? ⟨g, o + j * 4 + 3, none⟩ = some (.int .u64 xd)) ∧ A.cell? ⟨w.heap.size, 0, none⟩ = some (.int .u64 ep) ∧ A.cell? ⟨w.heap.size, 1, none⟩ = some (.int .u32 num) ∧ A.cell? ⟨w.heap.size, 2, none⟩ = some (.slice va row.length vc) ∧ A.cell? ⟨w.heap.size, 3, none⟩ = some (.int .u64 del))) (by kernel_rfl) ?_ (fun hHeld => ?_)
        · exact hS0
        generalize wr.drew = wd at *
        refine wpAnyH_take (i := 0) (v := ?_) rfl (by kernel_rfl) (by kernel_rfl) (by kernel_rfl) (fun _ _ _ h => h) (Or.inl ⟨by rfl, ?_⟩) (by assumption) ?_
        rotate_left
        · intro w hSw; (try dsimp only at hSw); go_simp <;> with_reducible rfl
        try simp only [Act.put, List.getElem_toArray, List.getElem_cons_zero, List.getElem_cons_succ, List.setIfInBounds_toArray, List.set_cons_zero, List.set_cons_succ]
        refine wpAnyH_take (i := 1) (v := ?_) rfl (by kernel_rfl) (by kernel_rfl) (by kernel_rfl) (fun _ _ _ h => h) (Or.inl ⟨by rfl, ?_⟩) (by assumption) ?_
        rotate_left
        · intro w hSw; (try dsimp only at hSw); go_simp <;> with_reducible rfl
        try simp only [Act.put, List.getElem_toArray, List.getElem_cons_zero, List.getElem_cons_succ, List.setIfInBounds_toArray, List.set_cons_zero, List.set_cons_succ]
        try simp only [Bool.not_true, Bool.not_false]
        refine wpAnyH_take (i := 2) (v := ?_) rfl (by kernel_rfl) (by kernel_rfl) (by kernel_rfl) (fun _ _ _ h => h) (Or.inl ⟨by rfl, ?_⟩) (by assumption) ?_
        rotate_left
        · intro w hSw; (try dsimp only at hSw); go_simp <;> with_reducible rfl
        try simp only [Act.put, List.getElem_toArray, List.getElem_cons_zero, List.getElem_cons_succ, List.setIfInBounds_toArray, List.set_cons_zero, List.set_cons_succ]
        try simp only [Bool.not_true, Bool.not_false]
        refine wpAnyH_take (i := 3) (v := ?_) rfl (by kernel_rfl) (by kernel_rfl) (by kernel_rfl) (fun _ _ _ h => h) (Or.inl ⟨by rfl, ?_⟩) (by assumption) ?_
        rotate_left
        · intro w hSw; (try dsimp only at hSw); go_simp <;> with_reducible rfl
        try simp only [Act.put, List.getElem_toArray, List.getElem_cons_zero, List.getElem_cons_succ, List.setIfInBounds_toArray, List.set_cons_zero, List.set_cons_succ]
        refine wpAnyH_take (i := 4) (v := ?_) rfl (by kernel_rfl) (by kernel_rfl) (by kernel_rfl) (fun _ _ _ h => h) (Or.inl ⟨by rfl, ?_⟩) (by assumption) ?_
        rotate_left
        · intro w hSw; (try dsimp only at hSw); go_simp <;> with_reducible rfl
        try simp only [Act.put, List.getElem_toArray, List.getElem_cons_zero, List.getElem_cons_succ, List.setIfInBounds_toArray, List.set_cons_zero, List.set_cons_succ]
        refine wpAnyH_take (i := 5) (v := ?_) rfl (by kernel_rfl) (by kernel_rfl) (by kernel_rfl) (fun _ _ _ h => h) (Or.inl ⟨by rfl, ?_⟩) (by assumption) ?_
        rotate_left
        · intro w hSw; (try dsimp only at hSw); go_simp <;> with_reducible rfl
        try simp only [Act.put, List.getElem_toArray, List.getElem_cons_zero, List.getElem_cons_succ, List.setIfInBounds_toArray, List.set_cons_zero, List.set_cons_succ]
        refine wpAnyH_take (i := 6) (v := ?_) rfl (by kernel_rfl) (by kernel_rfl) (by kernel_rfl) (fun _ _ _ h => h) (Or.inl ⟨by rfl, ?_⟩) (by assumption) ?_
        rotate_left
        · intro w hSw; (try dsimp only at hSw); go_simp <;> with_reducible rfl
        try simp only [Act.put, List.getElem_toArray, List.getElem_cons_zero, List.getElem_cons_succ, List.setIfInBounds_toArray, List.set_cons_zero, List.set_cons_succ]
        refine wpAnyH_take (i := 7) (v := ?_) rfl (by kernel_rfl) (by kernel_rfl) (by kernel_rfl) (fun _ _ _ h => h) (Or.inl ⟨by rfl, ?_⟩) (by assumption) ?_
        rotate_left
        · intro w hSw; (try dsimp only at hSw); go_simp <;> with_reducible rfl
        try simp only [Act.put, List.getElem_toArray, List.getElem_cons_zero, List.getElem_cons_succ, List.setIfInBounds_toArray, List.set_cons_zero, List.set_cons_succ]
        refine wpAnyH_take (i := 8) (v := ?_) rfl (by kernel_rfl) (by kernel_rfl) (by kernel_rfl) (fun _ _ _ h => h) (Or.inl ⟨by rfl, ?_⟩) (by assumption) ?_
        rotate_left
        · intro w hSw; (try dsimp only at hSw); go_simp <;> with_reducible rfl
        try simp only [Act.put, List.getElem_toArray, List.getElem_cons_zero, List.getElem_cons_succ, List.setIfInBounds_toArray, List.set_cons_zero, List.set_cons_succ]
        refine wpAnyH_take (i := 9) (v := ?_) rfl (by kernel_rfl) (by kernel_rfl) (by kernel_rfl) (fun _ _ _ h => h) (Or.inl ⟨by rfl, ?_⟩) (by assumption) ?_
        rotate_left
        · intro w hSw; (try dsimp only at hSw); go_simp <;> with_reducible rfl
        try simp only [Act.put, List.getElem_toArray, List.getElem_cons_zero, List.getElem_cons_succ, List.setIfInBounds_toArray, List.set_cons_zero, List.set_cons_succ]
        refine wpAnyH_ready (rs := [10]) (by kernel_rfl) (by simp) ?_
        refine AllReadyH.cons rfl (fun K hK => ?_) AllReadyH.nil
        go_simp
        refine (cL wd).mono ?_
        rintro e1 x1 ⟨rfl, kx1⟩
        (try go_wp2_with fail)
        refine hK.out _ _ ?_ (fun hHeld => ?_)
        · exact ⟨⟨kpAt kx1 hHeld.1.1, kpAt kx1 hHeld.1.2.1, kpAt kx1 hHeld.1.2.2.1, kpAt kx1 hHeld.1.2.2.2⟩, kpAt kx1 hHeld.2.1, kpAt kx1 hHeld.2.2.1, kpAt kx1 hHeld.2.2.2.1, kpAt kx1 hHeld.2.2.2.2⟩
        clear hK K
        try simp only [Act.put, List.getElem_toArray, List.getElem_cons_zero, List.getElem_cons_succ, List.setIfInBounds_toArray, List.set_cons_zero, List.set_cons_succ]
        refine wpAnyH_take (i := 11) (v := ?_) rfl (by kernel_rfl) (by kernel_rfl) (by kernel_rfl) (fun _ _ _ h => h) (Or.inl ⟨by rfl, ?_⟩) (by assumption) ?_
        rotate_left
        · intro w hSw; (try dsimp only at hSw); go_simp <;> with_reducible rfl
        try simp only [Act.put, List.getElem_toArray, List.getElem_cons_zero, List.getElem_cons_succ, List.setIfInBounds_toArray, List.set_cons_zero, List.set_cons_succ]
        refine wpAnyH_take (i := 12) (v := ?_) rfl (by kernel_rfl) (by kernel_rfl) (by kernel_rfl) (fun _ _ _ h => h) (Or.inl ⟨by rfl, ?_⟩) (by assumption) ?_
        rotate_left
        · intro w hSw; (try dsimp only at hSw); go_simp <;> with_reducible rfl
        try simp only [Act.put, List.getElem_toArray, List.getElem_cons_zero, List.getElem_cons_succ, List.setIfInBounds_toArray, List.set_cons_zero, List.set_cons_succ]
        refine wpAnyH_done (by kernel_rfl) ?_ _
        have IX := hI.out.quiet (Kwd.trans kx1 (by simp))
        have C0 := hHeld.1.1; have C1 := hHeld.1.2.1; have C2 := hHeld.1.2.2.1; have C3 := hHeld.1.2.2.2
        have D0 := hHeld.2.1; have D1 := hHeld.2.2.1; have D2 := hHeld.2.2.2.1; have D3 := hHeld.2.2.2.2
        have BB := (hbx.out.kept Kwd (by omega)).kept kx1 (by have := Kwd.size; omega)
        have hzX : w.heap.size + 1 ≤ x1.heap.size := by have := Kwd.size; have := kx1.size; omega
        clear hHeld hS0 hI hbx cL kx1 Kwd
        go_wp2_with fail
        go_quiet (fail)
        have I9 := IX.quiet ((Kp.refl [] x1).drewN nq)
        have C0' : (x1.drewN nq).cell? ⟨g, o + j * 4, none⟩ = some (.int .u64 xe) := C0
        have C1' : (x1.drewN nq).cell? ⟨g, o + j * 4 + 1, none⟩ = some (.int .u32 xn) := C1
        have C2' : (x1.drewN nq).cell? ⟨g, o + j * 4 + 2, none⟩ = some (.slice xa xr.length xc) := C2
        have C3' : (x1.drewN nq).cell? ⟨g, o + j * 4 + 3, none⟩ = some (.int .u64 xd) := C3
        have B9 := BB.kept ((Kp.refl [] x1).drewN nq) (BB.lt (by simp [VnE]))
        have hz9 : w.heap.size + 1 ≤ (x1.drewN nq).heap.size := hzX
        clear C0 C1 C2 C3 IX BB hzX
        generalize x1.drewN nq = Z at *
        obtain ⟨a2, c2, w2, hrun, I2, hz2, k2⟩ := I9.app hz9 ⟨xe, xn, xa, xc, xr, xd⟩ Z.heap.size rfl (by omega)
        rw [← hP1] at hrun I2
        clear hP1
        dsimp only at hrun
        have B2 : Bx w2 w.heap.size (VnE.c ⟨ep, num, va, vc, row, del⟩) := B9.keptS k2 (fun hm => by have := I9.new _ hm; omega) (by omega)
        have H2 := hid (And.intro I2 B2)
        clear I9 I2 B9 B2 k2
        go_wp2_with (first | (refine wpAppRun rfl _ _ 22 22 rfl _ _ _ rfl rfl hrun ?_) | fail)
        exact ⟨⟨j + 1, a2, c2, by omega, by go_num, by rw [show decide (k < j + 1) = false by simp; omega], rfl, H2.out.1, hz2, H2.out.2⟩, by simp [intOf]; omega⟩
      · have hB1 : B = false := by
          cases B with
          | false => rfl
          | true => have := hatj'.out.1 rfl; omega
        subst hB1
        subst hjk
        have t1 : decide (j < j) = false := by simp
        rw [t1]
        have hP1 := hmid.out rfl
        clear hlow hhi hmid hatj'
        go_wp2_with fail
        refine wp_region_held_drew (S := (fun A => (A.cell? ⟨g, o + j * 4, none⟩ = some (.int .u64 xe) ∧ A.cell? ⟨g, o + j * 4 + 1, none⟩ = some (.int .u32 xn) ∧ A.cell? ⟨g, o + j * 4 + 2, none⟩ = some (.slice xa xr.length xc) ∧ A.cell? ⟨g, o + j * 4 + 3, none⟩ = some (.int .u64 xd)) ∧ A.cell? ⟨w.heap.size, 0, none⟩ = some (.int .u64 ep) ∧ A.cell? ⟨w.heap.size, 1, none⟩ = some (.int .u32 num) ∧ A.cell? ⟨w.heap.size, 2, none⟩ = some (.slice va row.length vc) ∧ A.cell? ⟨w.heap.size, 3, none⟩ = some (.int .u64 del))) (by kernel_rfl) ?_ (fun hHeld => ?_)
        · exact hS0
        generalize wr.drew = wd at *
        refine wpAnyH_take (i := 0) (v := ?_) rfl (by kernel_rfl) (by kernel_rfl) (by kernel_rfl) (fun _ _ _ h => h) (Or.inl ⟨by rfl, ?_⟩) (by assumption) ?_
        rotate_left
        · intro w hSw; (try dsimp only at hSw); go_simp <;> with_reducible rfl
        try simp only [Act.put, List.getElem_toArray, List.getElem_cons_zero, List.getElem_cons_succ, List.setIfInBounds_toArray, List.set_cons_zero, List.set_cons_succ]
        refine wpAnyH_take (i := 1) (v := ?_) rfl (by kernel_rfl) (by kernel_rfl) (by kernel_rfl) (fun _ _ _ h => h) (Or.inl ⟨by rfl, ?_⟩) (by assumption) ?_
        rotate_left
        · intro w hSw; (try dsimp only at hSw); go_simp <;> with_reducible rfl
        try simp only [Act.put, List.getElem_toArray, List.getElem_cons_zero, List.getElem_cons_succ, List.setIfInBounds_toArray, List.set_cons_zero, List.set_cons_succ]
        try simp only [Bool.not_true, Bool.not_false]
        refine wpAnyH_take (i := 2) (v := ?_) rfl (by kernel_rfl) (by kernel_rfl) (by kernel_rfl) (fun _ _ _ h => h) (Or.inl ⟨by rfl, ?_⟩) (by assumption) ?_
        rotate_left
        · intro w hSw; (try dsimp only at hSw); go_simp <;> with_reducible rfl
        try simp only [Act.put, List.getElem_toArray, List.getElem_cons_zero, List.getElem_cons_succ, List.setIfInBounds_toArray, List.set_cons_zero, List.set_cons_succ]
        try simp only [Bool.not_true, Bool.not_false]
        refine wpAnyH_take (i := 3) (v := ?_) rfl (by kernel_rfl) (by kernel_rfl) (by kernel_rfl) (fun _ _ _ h => h) (Or.inl ⟨by rfl, ?_⟩) (by assumption) ?_
        rotate_left
        · intro w hSw; (try dsimp only at hSw); go_simp <;> with_reducible rfl
        try simp only [Act.put, List.getElem_toArray, List.getElem_cons_zero, List.getElem_cons_succ, List.setIfInBounds_toArray, List.set_cons_zero, List.set_cons_succ]
        refine wpAnyH_take (i := 4) (v := ?_) rfl (by kernel_rfl) (by kernel_rfl) (by kernel_rfl) (fun _ _ _ h => h) (Or.inl ⟨by rfl, ?_⟩) (by assumption) ?_
        rotate_left
        · intro w hSw; (try dsimp only at hSw); go_simp <;> with_reducible rfl
        try simp only [Act.put, List.getElem_toArray, List.getElem_cons_zero, List.getElem_cons_succ, List.setIfInBounds_toArray, List.set_cons_zero, List.set_cons_succ]
        refine wpAnyH_take (i := 5) (v := ?_) rfl (by kernel_rfl) (by kernel_rfl) (by kernel_rfl) (fun _ _ _ h => h) (Or.inl ⟨by rfl, ?_⟩) (by assumption) ?_
        rotate_left
        · intro w hSw; (try dsimp only at hSw); go_simp <;> with_reducible rfl
        try simp only [Act.put, List.getElem_toArray, List.getElem_cons_zero, List.getElem_cons_succ, List.setIfInBounds_toArray, List.set_cons_zero, List.set_cons_succ]
        refine wpAnyH_take (i := 6) (v := ?_) rfl (by kernel_rfl) (by kernel_rfl) (by kernel_rfl) (fun _ _ _ h => h) (Or.inl ⟨by rfl, ?_⟩) (by assumption) ?_
        rotate_left
        · intro w hSw; (try dsimp only at hSw); go_simp <;> with_reducible rfl
        try simp only [Act.put, List.getElem_toArray, List.getElem_cons_zero, List.getElem_cons_succ, List.setIfInBounds_toArray, List.set_cons_zero, List.set_cons_succ]
        refine wpAnyH_take (i := 7) (v := ?_) rfl (by kernel_rfl) (by kernel_rfl) (by kernel_rfl) (fun _ _ _ h => h) (Or.inl ⟨by rfl, ?_⟩) (by assumption) ?_
        rotate_left
        · intro w hSw; (try dsimp only at hSw); go_simp <;> with_reducible rfl
        try simp only [Act.put, List.getElem_toArray, List.getElem_cons_zero, List.getElem_cons_succ, List.setIfInBounds_toArray, List.set_cons_zero, List.set_cons_succ]
        refine wpAnyH_take (i := 8) (v := ?_) rfl (by kernel_rfl) (by kernel_rfl) (by kernel_rfl) (fun _ _ _ h => h) (Or.inl ⟨by rfl, ?_⟩) (by assumption) ?_
        rotate_left
        · intro w hSw; (try dsimp only at hSw); go_simp <;> with_reducible rfl
        try simp only [Act.put, List.getElem_toArray, List.getElem_cons_zero, List.getElem_cons_succ, List.setIfInBounds_toArray, List.set_cons_zero, List.set_cons_succ]
        refine wpAnyH_take (i := 9) (v := ?_) rfl (by kernel_rfl) (by kernel_rfl) (by kernel_rfl) (fun _ _ _ h => h) (Or.inl ⟨by rfl, ?_⟩) (by assumption) ?_
        rotate_left
        · intro w hSw; (try dsimp only at hSw); go_simp <;> with_reducible rfl
        try simp only [Act.put, List.getElem_toArray, List.getElem_cons_zero, List.getElem_cons_succ, List.setIfInBounds_toArray, List.set_cons_zero, List.set_cons_succ]
        refine wpAnyH_ready (rs := [10]) (by kernel_rfl) (by simp) ?_
        refine AllReadyH.cons rfl (fun K hK => ?_) AllReadyH.nil
        go_simp
        refine (cL wd).mono ?_
        rintro e1 x1 ⟨rfl, kx1⟩
        (try go_wp2_with fail)
        refine hK.out _ _ ?_ (fun hHeld => ?_)
        · exact ⟨⟨kpAt kx1 hHeld.1.1, kpAt kx1 hHeld.1.2.1, kpAt kx1 hHeld.1.2.2.1, kpAt kx1 hHeld.1.2.2.2⟩, kpAt kx1 hHeld.2.1, kpAt kx1 hHeld.2.2.1, kpAt kx1 hHeld.2.2.2.1, kpAt kx1 hHeld.2.2.2.2⟩
        clear hK K
        try simp only [Act.put, List.getElem_toArray, List.getElem_cons_zero, List.getElem_cons_succ, List.setIfInBounds_toArray, List.set_cons_zero, List.set_cons_succ]
        refine wpAnyH_take (i := 11) (v := ?_) rfl (by kernel_rfl) (by kernel_rfl) (by kernel_rfl) (fun _ _ _ h => h) (Or.inl ⟨by rfl, ?_⟩) (by assumption) ?_
        rotate_left
        · intro w hSw; (try dsimp only at hSw); go_simp <;> with_reducible rfl
        try simp only [Act.put, List.getElem_toArray, List.getElem_cons_zero, List.getElem_cons_succ, List.setIfInBounds_toArray, List.set_cons_zero, List.set_cons_succ]
        refine wpAnyH_take (i := 12) (v := ?_) rfl (by kernel_rfl) (by kernel_rfl) (by kernel_rfl) (fun _ _ _ h => h) (Or.inl ⟨by rfl, ?_⟩) (by assumption) ?_
        rotate_left
        · intro w hSw; (try dsimp only at hSw); go_simp <;> with_reducible rfl
        try simp only [Act.put, List.getElem_toArray, List.getElem_cons_zero, List.getElem_cons_succ, List.setIfInBounds_toArray, List.set_cons_zero, List.set_cons_succ]
        refine wpAnyH_done (by kernel_rfl) ?_ _
        have IX := hI.out.quiet (Kwd.trans kx1 (by simp))
        have C0 := hHeld.1.1; have C1 := hHeld.1.2.1; have C2 := hHeld.1.2.2.1; have C3 := hHeld.1.2.2.2
        have D0 := hHeld.2.1; have D1 := hHeld.2.2.1; have D2 := hHeld.2.2.2.1; have D3 := hHeld.2.2.2.2
        have BB := (hbx.out.kept Kwd (by omega)).kept kx1 (by have := Kwd.size; omega)
        have hzX : w.heap.size + 1 ≤ x1.heap.size := by have := Kwd.size; have := kx1.size; omega
        have hSL := hid (hs1.out.keptNew IX.kp)
        clear hHeld hS0 hI hbx cL kx1 Kwd
        obtain ⟨a3, c3, w3, hrun3, I3, hz3, k3⟩ := IX.app hzX ⟨ep, num, va, vc, row, del⟩ x1.heap.size rfl (by omega)
        dsimp only at hrun3
        have hga : g ∉ blk a' := fun hm => by
          have h1 := IX.new g hm
          have h2 : g < w.heap.size := glt
          omega
        have E0 := (k3.cell (p := ⟨g, o + j * 4, none⟩) (World.block_lt_of_cell? _ _ C0) hga).trans C0
        have E1 := (k3.cell (p := ⟨g, o + j * 4 + 1, none⟩) (World.block_lt_of_cell? _ _ C1) hga).trans C1
        have E2 := (k3.cell (p := ⟨g, o + j * 4 + 2, none⟩) (World.block_lt_of_cell? _ _ C2) hga).trans C2
        have E3 := (k3.cell (p := ⟨g, o + j * 4 + 3, none⟩) (World.block_lt_of_cell? _ _ C3) hga).trans C3
        have BB3 : Bx w3 w.heap.size (VnE.c ⟨ep, num, va, vc, row, del⟩) := BB.keptS k3 (fun hm => by have := IX.new _ hm; omega) (by omega)
        have F0 := BB3.get 0 _ rfl; have F1 := BB3.get 1 _ rfl; have F2 := BB3.get 2 _ rfl; have F3 := BB3.get 3 _ rfl
        obtain ⟨PL, hPL⟩ : ∃ n, Hid ((P j ++ [(⟨ep, num, va, vc, row, del⟩ : Vn)]).length = n) := ⟨_, rfl⟩
        by_cases hd0 : d = 0
        · subst hd0
          have nI' : ∀ W : World, (binOp .neq 31 (.agg #[.int .u64 xe, .int .u32 xn]) (.agg #[.int .u64 ep, .int .u32 num])).run Try.prog W = .ok (.bool true) W := fun W => by have := nI W; simpa using this
          clear nI
          have hP2 : (P j ++ [(⟨ep, num, va, vc, row, del⟩ : Vn)]) ++ [⟨xe, xn, xa, xc, xr, xd⟩] = P (j + 1) := by rw [hP1]; simp
          have hlen3 : (P j ++ [(⟨ep, num, va, vc, row, del⟩ : Vn)]).length ≤ l.length + 2 := by simp only [List.length_append, List.length_cons, List.length_nil]; omega
          have I3' := hid I3
          have BB3' := hid BB3
          clear IX I3 C0 C1 C2 C3 BB k3 hP1 BB3
          rw [hPL.out] at hrun3
          go_wp2_with (first | (refine wpAppRun rfl _ _ 22 22 rfl _ _ _ rfl rfl hrun3 ?_) | fail)
          go_quiet (fail)
          have I9 := I3'.out.quiet ((Kp.refl [] w3).drewN nq)
          have C0' : (w3.drewN nq).cell? ⟨g, o + j * 4, none⟩ = some (.int .u64 xe) := E0
          have C1' : (w3.drewN nq).cell? ⟨g, o + j * 4 + 1, none⟩ = some (.int .u32 xn) := E1
          have C2' : (w3.drewN nq).cell? ⟨g, o + j * 4 + 2, none⟩ = some (.slice xa xr.length xc) := E2
          have C3' : (w3.drewN nq).cell? ⟨g, o + j * 4 + 3, none⟩ = some (.int .u64 xd) := E3
          have B9 := BB3'.out.kept ((Kp.refl [] w3).drewN nq) (BB3'.out.lt (by simp [VnE]))
          have hz9 : w.heap.size + 1 ≤ (w3.drewN nq).heap.size := hz3
          clear E0 E1 E2 E3 F0 F1 F2 F3 I3' BB3' hz3 hrun3
          generalize w3.drewN nq = Z at *
          obtain ⟨a2, c2, w2, hrun, I2, hz2, k2⟩ := I9.app hz9 ⟨xe, xn, xa, xc, xr, xd⟩ Z.heap.size rfl (by omega)
          rw [hP2] at hrun I2
          rw [hPL.out] at hrun
          clear hP2
          dsimp only at hrun
          have B2 : Bx w2 w.heap.size (VnE.c ⟨ep, num, va, vc, row, del⟩) := B9.keptS k2 (fun hm => by have := I9.new _ hm; omega) (by omega)
          have H2 := hid (And.intro I2 B2)
          clear I9 I2 B9 B2 k2
          go_wp2_with (first | (refine wpAppRun rfl _ _ 22 22 rfl _ _ _ rfl rfl hrun ?_) | fail)
          exact ⟨⟨j + 1, a2, c2, by omega, by go_num, by rw [show decide (j < j + 1) = true by simp], rfl, H2.out.1, hz2, H2.out.2⟩, by simp [intOf]; omega⟩
        · have hd' : d = 1 := by omega
          subst hd'
          have nI' : ∀ W : World, (binOp .neq 31 (.agg #[.int .u64 xe, .int .u32 xn]) (.agg #[.int .u64 ep, .int .u32 num])).run Try.prog W = .ok (.bool false) W := fun W => by have := nI W; simpa using this
          clear nI
          have hP2 : P j ++ [(⟨ep, num, va, vc, row, del⟩ : Vn)] = P (j + 1) := by rw [hP1]; simp
          rw [hP2] at I3 hrun3
          have H2 := hid (And.intro I3 BB3)
          clear IX I3 C0 C1 C2 C3 BB k3 hP1 BB3 hPL hP2
          go_wp2_with (first | (refine wpAppRun rfl _ _ 22 22 rfl _ _ _ rfl rfl hrun3 ?_) | fail)
          go_quiet (fail)
          go_wp2_with fail
          have kq : Kp [] w3 (w3.drewN nq) := (Kp.refl _ _).drewN nq
          exact ⟨⟨j + 1, a3, c3, by omega, by go_num, by rw [show decide (j < j + 1) = true by simp], rfl, H2.out.1.quiet kq, hz3, H2.out.2.kept kq (H2.out.2.lt (by simp [VnE]))⟩, by simp [intOf]; omega⟩
      · have t1 : decide (k < j) = true := by simpa using hjk
        have t2 : decide (j = k ∧ d = 1) = false := by simp; omega
        have hP1 := hhi.out hjk
        rw [t1]
        simp only [t2, Bool.not_false] at nI
        clear hlow hhi hmid hatj' t2 cL
        go_wp2_with fail
        refine wp_region_held_drew (S := (fun A => (A.cell? ⟨g, o + j * 4, none⟩ = some (.int .u64 xe) ∧ A.cell? ⟨g, o + j * 4 + 1, none⟩ = some (.int .u32 xn) ∧ A.cell? ⟨g, o + j * 4 + 2, none⟩ = some (.slice xa xr.length xc) ∧ A.cell? ⟨g, o + j * 4 + 3, none⟩ = some (.int .u64 xd)) ∧ A.cell? ⟨w.heap.size, 0, none⟩ = some (.int .u64 ep) ∧ A.cell? ⟨w.heap.size, 1, none⟩ = some (.int .u32 num) ∧ A.cell? ⟨w.heap.size, 2, none⟩ = some (.slice va row.length vc) ∧ A.cell? ⟨w.heap.size, 3, none⟩ = some (.int .u64 del))) (by kernel_rfl) ?_ (fun hHeld => ?_)
        · exact hS0
        generalize wr.drew = wd at *
        refine wpAnyH_take (i := 0) (v := ?_) rfl (by kernel_rfl) (by kernel_rfl) (by kernel_rfl) (fun _ _ _ h => h) (Or.inl ⟨by rfl, ?_⟩) (by assumption) ?_
        rotate_left
        · intro w hSw; (try dsimp only at hSw); go_simp <;> with_reducible rfl
        try simp only [Act.put, List.getElem_toArray, List.getElem_cons_zero, List.getElem_cons_succ, List.setIfInBounds_toArray, List.set_cons_zero, List.set_cons_succ]
        refine wpAnyH_take (i := 1) (v := ?_) rfl (by kernel_rfl) (by kernel_rfl) (by kernel_rfl) (fun _ _ _ h => h) (Or.inl ⟨by rfl, ?_⟩) (by assumption) ?_
        rotate_left
        · intro w hSw; (try dsimp only at hSw); go_simp <;> with_reducible rfl
        try simp only [Act.put, List.getElem_toArray, List.getElem_cons_zero, List.getElem_cons_succ, List.setIfInBounds_toArray, List.set_cons_zero, List.set_cons_succ]
        try simp only [Bool.not_true, Bool.not_false]
        refine wpAnyH_take (i := 2) (v := ?_) rfl (by kernel_rfl) (by kernel_rfl) (by kernel_rfl) (fun _ _ _ h => h) (Or.inl ⟨by rfl, ?_⟩) (by assumption) ?_
        rotate_left
        · intro w hSw; (try dsimp only at hSw); go_simp <;> with_reducible rfl
        try simp only [Act.put, List.getElem_toArray, List.getElem_cons_zero, List.getElem_cons_succ, List.setIfInBounds_toArray, List.set_cons_zero, List.set_cons_succ]
        try simp only [Bool.not_true, Bool.not_false]
        refine wpAnyH_take (i := 3) (v := undef) rfl (by kernel_rfl) (by kernel_rfl) (by kernel_rfl) (fun _ _ _ h => h) (Or.inr ⟨by rfl, rfl⟩) (by assumption) ?_
        try simp only [Act.put, List.getElem_toArray, List.getElem_cons_zero, List.getElem_cons_succ, List.setIfInBounds_toArray, List.set_cons_zero, List.set_cons_succ]
        refine wpAnyH_take (i := 4) (v := undef) rfl (by kernel_rfl) (by kernel_rfl) (by kernel_rfl) (fun _ _ _ h => h) (Or.inr ⟨by rfl, rfl⟩) (by assumption) ?_
        try simp only [Act.put, List.getElem_toArray, List.getElem_cons_zero, List.getElem_cons_succ, List.setIfInBounds_toArray, List.set_cons_zero, List.set_cons_succ]
        refine wpAnyH_take (i := 5) (v := undef) rfl (by kernel_rfl) (by kernel_rfl) (by kernel_rfl) (fun _ _ _ h => h) (Or.inr ⟨by rfl, rfl⟩) (by assumption) ?_
        try simp only [Act.put, List.getElem_toArray, List.getElem_cons_zero, List.getElem_cons_succ, List.setIfInBounds_toArray, List.set_cons_zero, List.set_cons_succ]
        refine wpAnyH_take (i := 6) (v := undef) rfl (by kernel_rfl) (by kernel_rfl) (by kernel_rfl) (fun _ _ _ h => h) (Or.inr ⟨by rfl, rfl⟩) (by assumption) ?_
        try simp only [Act.put, List.getElem_toArray, List.getElem_cons_zero, List.getElem_cons_succ, List.setIfInBounds_toArray, List.set_cons_zero, List.set_cons_succ]
        refine wpAnyH_take (i := 7) (v := undef) rfl (by kernel_rfl) (by kernel_rfl) (by kernel_rfl) (fun _ _ _ h => h) (Or.inr ⟨by rfl, rfl⟩) (by assumption) ?_
        try simp only [Act.put, List.getElem_toArray, List.getElem_cons_zero, List.getElem_cons_succ, List.setIfInBounds_toArray, List.set_cons_zero, List.set_cons_succ]
        refine wpAnyH_take (i := 8) (v := undef) rfl (by kernel_rfl) (by kernel_rfl) (by kernel_rfl) (fun _ _ _ h => h) (Or.inr ⟨by rfl, rfl⟩) (by assumption) ?_
        try simp only [Act.put, List.getElem_toArray, List.getElem_cons_zero, List.getElem_cons_succ, List.setIfInBounds_toArray, List.set_cons_zero, List.set_cons_succ]
        refine wpAnyH_take (i := 9) (v := undef) rfl (by kernel_rfl) (by kernel_rfl) (by kernel_rfl) (fun _ _ _ h => h) (Or.inr ⟨by rfl, rfl⟩) (by assumption) ?_
        try simp only [Act.put, List.getElem_toArray, List.getElem_cons_zero, List.getElem_cons_succ, List.setIfInBounds_toArray, List.set_cons_zero, List.set_cons_succ]
        refine wpAnyH_take (i := 10) (v := undef) rfl (by kernel_rfl) (by kernel_rfl) (by kernel_rfl) (fun _ _ _ h => h) (Or.inr ⟨by rfl, rfl⟩) (by assumption) ?_
        try simp only [Act.put, List.getElem_toArray, List.getElem_cons_zero, List.getElem_cons_succ, List.setIfInBounds_toArray, List.set_cons_zero, List.set_cons_succ]
        refine wpAnyH_take (i := 11) (v := undef) rfl (by kernel_rfl) (by kernel_rfl) (by kernel_rfl) (fun _ _ _ h => h) (Or.inr ⟨by rfl, rfl⟩) (by assumption) ?_
        try simp only [Act.put, List.getElem_toArray, List.getElem_cons_zero, List.getElem_cons_succ, List.setIfInBounds_toArray, List.set_cons_zero, List.set_cons_succ]
        refine wpAnyH_take (i := 12) (v := ?_) rfl (by kernel_rfl) (by kernel_rfl) (by kernel_rfl) (fun _ _ _ h => h) (Or.inl ⟨by rfl, ?_⟩) (by assumption) ?_
        rotate_left
        · intro w hSw; (try dsimp only at hSw); go_simp <;> with_reducible rfl
        try simp only [Act.put, List.getElem_toArray, List.getElem_cons_zero, List.getElem_cons_succ, List.setIfInBounds_toArray, List.set_cons_zero, List.set_cons_succ]
        refine wpAnyH_done (by kernel_rfl) ?_ _
        have IX := hI.out.quiet Kwd
        have C0 := hHeld.1.1; have C1 := hHeld.1.2.1; have C2 := hHeld.1.2.2.1; have C3 := hHeld.1.2.2.2
        have D0 := hHeld.2.1; have D1 := hHeld.2.2.1; have D2 := hHeld.2.2.2.1; have D3 := hHeld.2.2.2.2
        have BB := hbx.out.kept Kwd (by omega)
        have hzX : w.heap.size + 1 ≤ wd.heap.size := by have := Kwd.size; omega
        clear hHeld hS0 hI hbx Kwd
        go_wp2_with fail
        go_quiet (fail)
        have I9 := IX.quiet ((Kp.refl [] wd).drewN nq)
        have C0' : (wd.drewN nq).cell? ⟨g, o + j * 4, none⟩ = some (.int .u64 xe) := C0
        have C1' : (wd.drewN nq).cell? ⟨g, o + j * 4 + 1, none⟩ = some (.int .u32 xn) := C1
        have C2' : (wd.drewN nq).cell? ⟨g, o + j * 4 + 2, none⟩ = some (.slice xa xr.length xc) := C2
        have C3' : (wd.drewN nq).cell? ⟨g, o + j * 4 + 3, none⟩ = some (.int .u64 xd) := C3
        have B9 := BB.kept ((Kp.refl [] wd).drewN nq) (BB.lt (by simp [VnE]))
        have hz9 : w.heap.size + 1 ≤ (wd.drewN nq).heap.size := hzX
        clear C0 C1 C2 C3 IX BB hzX
        generalize wd.drewN nq = Z at *
        obtain ⟨a2, c2, w2, hrun, I2, hz2, k2⟩ := I9.app hz9 ⟨xe, xn, xa, xc, xr, xd⟩ Z.heap.size rfl (by omega)
        rw [← hP1] at hrun I2
        clear hP1
        dsimp only at hrun
        have B2 : Bx w2 w.heap.size (VnE.c ⟨ep, num, va, vc, row, del⟩) := B9.keptS k2 (fun hm => by have := I9.new _ hm; omega) (by omega)
        have H2 := hid (And.intro I2 B2)
        clear I9 I2 B9 B2 k2
        go_wp2_with (first | (refine wpAppRun rfl _ _ 22 22 rfl _ _ _ rfl rfl hrun ?_) | fail)
        exact ⟨⟨j + 1, a2, c2, by omega, by go_num, by rw [show decide (k < j + 1) = true by simp; omega], rfl, H2.out.1, hz2, H2.out.2⟩, by simp [intOf]; omega⟩
    · have e : j = l.length := by omega
      subst e
      have hlenj := hlenP.out l.length
      have b := hbx.out
      have d0 := b.get 0 _ rfl; have d1 := b.get 1 _ rfl; have d2 := b.get 2 _ rfl; have d3 := b.get 3 _ rfl
      have zz : w.heap.size < wr.heap.size := by omega
      by_cases hkn : k < l.length
      · have eF := hPend1.out hkn
        have t1 : decide (k < l.length) = true := by simpa using hkn
        rw [t1]
        have I' := hid I
        rw [eF] at I' ⊢
        clear I hplow hpat hphi hlenP hat heq hPend1 hPend2 b hlenj
        go_wp2_with fail
        go_ret
        exact ⟨a', c', rfl, I'.out.row, I'.out.kp, fun k hk => by have := I'.out.new k hk; omega⟩
      · have eF := hPend2.out (by omega)
        have t1 : decide (k < l.length) = false := by simpa using hkn
        rw [t1]
        obtain ⟨a2, c2, w2, hrun, I2, hz2, _⟩ := I.app hz ⟨ep, num, va, vc, row, del⟩ wr.heap.size rfl (by omega)
        rw [eF] at hrun I2
        dsimp only at hrun
        have I' := hid I2
        clear I I2 hplow hpat hphi hlenP hat heq hPend1 hPend2 b hlenj
        go_wp2_with (first | (refine wpAppRun rfl _ _ 22 22 rfl _ _ _ rfl rfl hrun ?_) | fail)
        go_ret
        exact ⟨a2, c2, rfl, I'.out.row, I'.out.kp, fun k hk => by have := I'.out.new k hk; omega⟩
end Go.Proofs.Ytebkkdoggagcdaa
end

section
namespace Go.Proofs.Ytebkkdoggagcdaa
open Go.RowKit Go.Hay
set_option linter.unusedVariables false
set_option linter.unusedSimpArgs false

/-- What Add and Erase of the reference's hand back. -/
def RefP (a : Option Addr) (l l' : List Vn) (r : Int) (w : World) (e : Ending) (w' : World) : Prop :=
  ∃ a' c', e = .returned (.tuple #[.slice a' l'.length c', .int .i64 r]) ∧ VnE.See w' a' l' ∧ Kp [] w w' ∧ ((l' = l ∧ a' = a) ∨ ∀ k ∈ blk a', w.heap.size ≤ k)
theorem RefP.same {a : Option Addr} {c : Nat} {l : List Vn} {w w' : World} (hs : VnE.See w a l) (hk : Kp [] w w') (r : Int) : RefP a l l r w (.returned (.tuple #[.slice a l.length c, .int .i64 r])) w' :=
  ⟨a, c, rfl, hs.keptNew hk, hk, .inl ⟨rfl, rfl⟩⟩
theorem See.ofRow {α : Type} {E : El α} {w : World} {a : Option Addr} {n c : Nat} {l : List α} (h : E.Row w (.slice a n c) l) : E.See w a l := by
  obtain ⟨_, _, e, hs, _⟩ := h.see
  simp only [Value.slice.injEq] at e
  rw [e.1]; exact hs
/-- How a gathering stands. -/
structure GaI (w wr : World) (a : Option Addr) (c : Nat) (L : List Vn) : Prop where
  row : VnE.Row wr (.slice a L.length c) L
  kp : Kp [] w wr
  new : ∀ k ∈ blk a, w.heap.size ≤ k
theorem GaI.quiet {w wr wr' : World} {a : Option Addr} {c : Nat} {L : List Vn} (h : GaI w wr a c L) (hk : Kp [] wr wr') : GaI w wr' a c L := ⟨h.row.keptNew hk, h.kp.trans hk (by simp), h.new⟩
theorem GaI.app {w wr : World} {a : Option Addr} {c : Nat} {L : List Vn} (h : GaI w wr a c L) (x : Vn) (q : Nat) (hq : wr.heap.size = q) (hL : L.length ≤ 4000000000002) :
    ∃ a' c' w', (Builtin.append_ #[22, 22] 22 #[.slice a L.length c, .slice (some ⟨q, 0, none⟩) 1 1]).run Try.prog (wr.alloc (.cells #[.int .u64 x.ep, .int .u32 x.num, .slice x.a x.row.length x.c, .int .u64 x.del] 34)) = .ok (.slice a' (L ++ [x]).length c') w' ∧ GaI w w' a' c' (L ++ [x]) := by
  obtain ⟨a', c', w', h1, h2, h3, h4⟩ := appV wr L a c x q hq h.row hL
  exact ⟨a', c', w', h1, ⟨h2, h.kp.trans h3 (fun k hk => .inr (h.new k hk)), fun k hk => by
    rcases h4 k hk with e | e
    · exact h.new k e
    · exact Nat.le_trans h.kp.size e⟩⟩
/-- What is gathered by the reference. -/
def GatP (T : List Vn) (w : World) (e : Ending) (w' : World) : Prop := ∃ a c, e = .returned (.slice a T.length c) ∧ VnE.Row w' (.slice a T.length c) T ∧ Kp [] w w' ∧ ∀ k ∈ blk a, w.heap.size ≤ k
theorem atV_snoc (e : Int) (l : List Vn) (x : Vn) : atV e (l ++ [x]) = if seenV e x = true then atV e l ++ [asV e x] else atV e l := by
  unfold atV
  rw [List.filter_append]
  by_cases h : seenV e x = true <;> simp [h]
set_option maxHeartbeats 8000000 in
set_option maxRecDepth 100000 in
theorem rPurge (a : Option Addr) (c : Nat) (l : List Vn) (m : Int) (w : World) (hs : VnE.See w a l) (hf : l.length ≤ 4000000000001) :
    Calls Try.prog 20 #[.slice a l.length c, .int .u64 m] w (GatP (purV m l) w) := by
  have hs' := hid hs
  clear hs
  obtain ⟨P, hP⟩ : ∃ P : Nat → List Vn, Hid (∀ j, P j = purV m (l.take j)) := ⟨fun j => purV m (l.take j), fun j => rfl⟩
  have hP0 : Hid (P 0 = []) := by show _ = _; rw [hP.out]; rfl
  have hPn : Hid (P l.length = purV m l) := by show _ = _; rw [hP.out, List.take_length]
  have hPl : Hid (∀ j, (P j).length ≤ j) := fun j => by
    rw [hP.out]; unfold purV
    exact Nat.le_trans (List.length_filter_le _ _) (by rw [List.length_take]; omega)
  rw [← hPn.out]
  go_enter Try.func20, Try.ntmps20
  go_wp2_with fail
  go_loopw [5, 6] (fun s5 s6 wr => ∃ (j : Nat) (a' : Option Addr) (c' : Nat), j ≤ l.length ∧ s6 = .int .i64 j ∧ s5 = .slice a' (P j).length c' ∧ GaI w wr a' c' (P j)) (fun _ s6 _ => l.length - (intOf s6).toNat)
  case atStart => exact ⟨0, none, 0, Nat.zero_le _, rfl, by rw [hP0.out]; rfl, by rw [hP0.out]; exact ⟨.inl ⟨rfl, rfl⟩, Kp.refl _ _, by simp [blk]⟩⟩
  case round =>
    clear hP0 hPn
    obtain ⟨j, a', c', hj, rfl, rfl, I⟩ := hrel
    by_cases hjl : j < l.length
    · have hx : l[j]? = some l[j] := by simp [hjl]
      obtain ⟨g, o, rfl, c0, c1, c2, c3⟩ := idAt (hs'.out.keptNew I.kp) hx
      have hst : Hid (P (j + 1) = if stays m l[j] = true then P j ++ [l[j]] else P j) := by show _ = _; rw [hP.out, hP.out, List.take_succ_eq_append_getElem hjl, purV_snoc]
      have hlj := hPl.out j
      clear hx
      generalize l[j] = x at *
      have i1 : (0 : Int) ≤ (j : Int) := by omega
      have i2 : (j : Int) < (l.length : Int) := by omega
      have hstay : Hid (stays m x = (decide (x.del = 0) || decide (m < x.del))) := rfl
      obtain ⟨a4, c4, w4, hrun, I4⟩ := I.app x wr.heap.size rfl (by omega)
      have I' := hid I
      obtain ⟨xe, xn, xa, xc, xr, xd⟩ := x
      dsimp only at c0 c1 c2 c3 hst hrun hstay
      clear I
      by_cases h1 : xd = 0
      · have t1 : (xd == 0) = true := by simpa using h1
        have hst' : P j ++ [⟨xe, xn, xa, xc, xr, xd⟩] = P (j + 1) := by rw [hst.out, hstay.out, if_pos (by simp [h1])]
        rw [hst'] at hrun I4
        have I4' := hid I4
        clear hst hstay hst' I4 I' h1
        go_wp2_with (first | (refine wpAppRun rfl _ _ 22 22 rfl _ _ _ rfl rfl hrun ?_) | fail)
        exact ⟨⟨j + 1, a4, c4, by omega, by go_num, rfl, I4'.out⟩, by simp [intOf]; omega⟩
      · have t1 : (xd == 0) = false := by simpa using h1
        by_cases h2 : m < xd
        · have t2 : decide (m < xd) = true := by simpa using h2
          have hst' : P j ++ [⟨xe, xn, xa, xc, xr, xd⟩] = P (j + 1) := by rw [hst.out, hstay.out, if_pos (by simp [h2])]
          rw [hst'] at hrun I4
          have I4' := hid I4
          clear hst hstay hst' I4 I' h1
          go_wp2_with (first | (refine wpAppRun rfl _ _ 22 22 rfl _ _ _ rfl rfl hrun ?_) | fail)
          exact ⟨⟨j + 1, a4, c4, by omega, by go_num, rfl, I4'.out⟩, by simp [intOf]; omega⟩
        · have t2 : decide (m < xd) = false := by simpa using h2
          have hst' : Hid (P (j + 1) = P j) := by show _ = _; rw [hst.out, hstay.out, if_neg (by simp [h1]; omega)]
          clear hst hstay I4 h1 hrun
          go_wp2_with fail
          exact ⟨⟨j + 1, a', c', by omega, by go_num, by rw [hst'.out], by rw [hst'.out]; exact I'.out⟩, by simp [intOf]; omega⟩
    · have ej : j = l.length := by omega
      subst ej
      go_wp2_with fail
      go_ret
      exact ⟨a', c', rfl, I.row, I.kp, I.new⟩
end Go.Proofs.Ytebkkdoggagcdaa
end

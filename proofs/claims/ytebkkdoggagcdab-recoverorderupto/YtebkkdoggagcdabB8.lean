/- Stable sorting: symMerge. Stable sorting: stable, SortStableFunc. The reference's Put. The reference's Add, Erase, At, Purge. Rows in memory: Purge. -/
import Derived.Test.YtebkkdoggagcdabB6
import Derived.Test.YtebkkdoggagcdabB7
import Derived.Test.YtebkkdoggagcdabB3
import Derived.Test.YtebkkdoggagcdabB2
section
namespace Go.Proofs.Ytebkkdoggagcdab
open Go.RowKit Go.Hay
set_option linter.unusedVariables false
set_option linter.unusedSimpArgs false

theorem cSym (g o n cap : Nat) (A : Nat → Vr) (cv cu : Value) (cf : Nat → Nat → Int) (Inv : World → Prop) (hC : CmpOk g n A cv cu cf Inv) (hn : n ≤ 4000000000000) (hcap : n ≤ cap) : ∀ (d : Nat) (p : Nat → Nat) (a m b : Nat) (w : World), b - a ≤ d → Hd w g o n cap A p → Inv w → (∀ k, k < n → p k < n) → a < m → m < b → b ≤ n → Stb (fun x y => cf x y < 0) p a m → Stb (fun x y => cf x y < 0) p m b → Low p a m b → Calls Try.prog 35 #[.slice (some ⟨g, o, none⟩) n cap, .int .i64 (a : Int), .int .i64 (m : Int), .int .i64 (b : Int), .func (.func 23) #[] #[cv, cu]] w fun e w' => (∃ v, e = .returned v) ∧ ∃ s, PermIn a b s ∧ Stb (fun x y => cf x y < 0) (fun k => p (s k)) a b ∧ Hd w' g o n cap A (fun k => p (s k)) ∧ Kp [g] w w'
  | 0, p, a, m, b, w, hd, h, hI, hpn, h1, h2, h3, hA, hB, hLo => by omega
  | d + 1, p, a, m, b, w, hd, h, hI, hpn, h1, h2, h3, hA, hB, hLo => by
    by_cases c1 : m ≤ a + 1
    · exact cSymA g o n cap A cv cu cf Inv hC p a m b w h hI hpn h1 h2 h3 hA hB hLo hn hcap c1
    by_cases c2 : b ≤ m + 1
    · exact cSymB g o n cap A cv cu cf Inv hC p a m b w h hI hpn h1 h2 h3 hA hB hLo hn hcap (by omega) c2
    have IH := fun (p' : Nat → Nat) (a' m' b' : Nat) (w' : World) (hlt : b' - a' < b - a) h' hI' hpn' h1' h2' h3' hA' hB' hLo' => cSym g o n cap A cv cu cf Inv hC hn hcap d p' a' m' b' w' (by omega) h' hI' hpn' h1' h2' h3' hA' hB' hLo'
    by_cases c3 : a + b < 2 * m
    · exact cSymC1 g o n cap A cv cu cf Inv hC p a m b w h hI hpn h1 h2 h3 hA hB hLo hn hcap (by omega) (by omega) c3 IH
    · exact cSymC2 g o n cap A cv cu cf Inv hC p a m b w h hI hpn h1 h2 h3 hA hB hLo hn hcap (by omega) (by omega) (by omega) IH
end Go.Proofs.Ytebkkdoggagcdab
end

section
namespace Go.Proofs.Ytebkkdoggagcdab
open Go.RowKit Go.Hay
set_option linter.unusedVariables false
set_option linter.unusedSimpArgs false

/-- A run: in order, and made of its own places. -/
def Sg (lt : Nat → Nat → Prop) (s : Nat → Nat) (x y : Nat) : Prop := Stb lt s x y ∧ ∀ k, x ≤ k → k < y → x ≤ s k ∧ s k < y
theorem Sg.congr {lt : Nat → Nat → Prop} {s t : Nat → Nat} {x y : Nat} (h : Sg lt s x y) (ht : ∀ k, x ≤ k → k < y → t k = k) : Sg lt (fun k => s (t k)) x y :=
  ⟨fun i j g1 g2 g3 => by
    show bef lt (s (t i)) (s (t j))
    rw [ht i g1 (by omega), ht j (by omega) g3]
    exact h.1 i j g1 g2 g3, fun k g1 g2 => by
    show x ≤ s (t k) ∧ s (t k) < y
    rw [ht k g1 g2]
    exact h.2 k g1 g2⟩
/-- Two runs that were merged. -/
theorem Sg.merged {lt : Nat → Nat → Prop} {s t : Nat → Nat} {a m b : Nat} (h1 : Sg lt s a m) (h2 : Sg lt s m b) (hab : a ≤ m) (hmb : m ≤ b) (ht : PermIn a b t) (hs : Stb lt (fun k => s (t k)) a b) : Sg lt (fun k => s (t k)) a b :=
  ⟨hs, fun k g1 g2 => by
    show a ≤ s (t k) ∧ s (t k) < b
    have h3 := ht.1 k g1 g2
    by_cases c : t k < m
    · have := h1.2 _ h3.1 c
      omega
    · have := h2.2 (t k) (by omega) h3.2
      omega⟩
theorem Sg.low {lt : Nat → Nat → Prop} {s : Nat → Nat} {a m b : Nat} (h1 : Sg lt s a m) (h2 : Sg lt s m b) : Low s a m b := fun i j g1 g2 g3 g4 => by
  have := h1.2 i g1 g2
  have := h2.2 j g3 g4
  omega
/-- Whole runs, up to x. -/
inductive Ln (lt : Nat → Nat → Prop) (s : Nat → Nat) (bs : Nat) : Nat → Prop
  | nil : Ln lt s bs 0
  | snoc {x : Nat} : Ln lt s bs x → Sg lt s x (x + bs) → Ln lt s bs (x + bs)
/-- Runs from x on; the last one may be short. -/
inductive Rn (lt : Nat → Nat → Prop) (s : Nat → Nat) (bs n : Nat) : Nat → Prop
  | done {x : Nat} : n ≤ x → Rn lt s bs n x
  | step {x : Nat} : x < n → Sg lt s x (min (x + bs) n) → Rn lt s bs n (x + bs) → Rn lt s bs n x
theorem Ln.congr {lt : Nat → Nat → Prop} {s t : Nat → Nat} {bs x : Nat} (h : Ln lt s bs x) : (∀ k, k < x → t k = k) → Ln lt (fun k => s (t k)) bs x := by
  induction h with
  | nil => intro _; exact .nil
  | snoc h1 h2 ih => intro ht; exact .snoc (ih fun k hk => ht k (by omega)) (h2.congr fun k _ g => ht k g)
theorem Rn.congr {lt : Nat → Nat → Prop} {s t : Nat → Nat} {bs n x : Nat} (h : Rn lt s bs n x) : (∀ k, x ≤ k → k < n → t k = k) → Rn lt (fun k => s (t k)) bs n x := by
  induction h with
  | done h => intro _; exact .done h
  | step h1 h2 h3 ih => intro ht; exact .step h1 (h2.congr fun k g1 g2 => ht k g1 (by omega)) (ih fun k g1 g2 => ht k (by omega) g2)
theorem Ln.all {lt : Nat → Nat → Prop} {s : Nat → Nat} {bs n x : Nat} (h : Ln lt s bs x) (hb : 0 < bs) : x ≤ n → Rn lt s bs n x → Rn lt s bs n 0 := by
  induction h with
  | nil => intro _ h; exact h
  | snoc h1 h2 ih => intro hx hr; exact ih (by omega) (.step (by omega) (by rw [Nat.min_eq_left hx]; exact h2) hr)
theorem Rn.two {lt : Nat → Nat → Prop} {s : Nat → Nat} {bs n a : Nat} (h : Rn lt s bs n a) (hb : 0 < bs) (hab : a + bs < n) : Sg lt s a (a + bs) ∧ Sg lt s (a + bs) (min (a + bs + bs) n) ∧ Rn lt s bs n (a + bs + bs) := by
  cases h with
  | done h => omega
  | step h1 h2 h3 =>
    rw [Nat.min_eq_left (by omega)] at h2
    cases h3 with
    | done h => omega
    | step h4 h5 h6 => exact ⟨h2, h5, h6⟩
theorem Rn.last {lt : Nat → Nat → Prop} {s : Nat → Nat} {bs n a : Nat} (h : Rn lt s bs n a) (han : a < n) (hab : n ≤ a + bs) : Sg lt s a n := by
  cases h with
  | done h => omega
  | step h1 h2 h3 => rwa [Nat.min_eq_right hab] at h2
theorem Sg.fresh {lt : Nat → Nat → Prop} {s t : Nat → Nat} {a b : Nat} (hs : PermIn 0 a s) (ht : PermIn a b t) (h : Stb lt (fun k => s (t k)) a b) : Sg lt (fun k => s (t k)) a b :=
  ⟨h, fun k g1 g2 => by
    show a ≤ s (t k) ∧ s (t k) < b
    have h3 := ht.1 k g1 g2
    rw [hs.2.1 (t k) (by omega)]
    exact h3⟩
set_option maxHeartbeats 64000000 in
set_option maxRecDepth 100000 in
theorem cStable (g o n cap : Nat) (A : Nat → Vr) (cv cu : Value) (cf : Nat → Nat → Int) (Inv : World → Prop) (hC : CmpOk g n A cv cu cf Inv) (hn : n ≤ 4000000000000) (hcap : n ≤ cap) (w : World) (h : Hd w g o n cap A (fun k => k)) (hI : Inv w) : Calls Try.prog 31 #[.slice (some ⟨g, o, none⟩) n cap, .int .i64 (n : Int), .func (.func 23) #[] #[cv, cu]] w fun e w' => (∃ v, e = .returned v) ∧ ∃ s, PermIn 0 n s ∧ Stb (fun x y => cf x y < 0) s 0 n ∧ Hd w' g o n cap A s ∧ Kp [g] w w' := by
  have HC := hid hC
  have HI := hid hI
  have HH := hid h
  clear hC hI h
  go_enter Try.func31, Try.ntmps31
  go_wp2_with fail
  go_loopw [7, 8] (fun av bv wr => ∃ (a b : Nat) (s : Nat → Nat), (a ≤ n ∧ a + 20 ≤ b ∧ b ≤ a + 20) ∧ av = .int .i64 (a : Int) ∧ bv = .int .i64 (b : Int) ∧ Hid (PermIn 0 a s ∧ Ln (fun x y => cf x y < 0) s 20 a) ∧ Hid (Hd wr g o n cap A s ∧ Kp [g] w wr)) (fun av _ _ => n + 20 - (intOf av).toNat)
  case atStart => exact ⟨0, 20, fun k => k, by omega, rfl, rfl, hid ⟨PermIn.id _ _, .nil⟩, hid ⟨HH.out, Kp.refl _ _⟩⟩
  case round =>
    obtain ⟨a, b, s, ⟨ba, bb1, bb2⟩, rfl, rfl, hs, hw⟩ := hrel
    by_cases hbn : b ≤ n
    · have d0 : decide ((b : Int) ≤ (n : Int)) = true := by simp; omega
      have d1 : (b : Int) ≤ (n : Int) := by omega
      have cI := hid (cIns g o n cap A cv cu cf Inv HC.out s a b wr hw.out.1 (HC.out.keep _ _ HI.out hw.out.2) (fun k g1 g2 => hs.out.1.2.1 k (by omega)) (by omega) hbn hn hcap)
      obtain ⟨b', hb2'⟩ : ∃ x : Nat, x = b + 20 := ⟨_, rfl⟩
      have ebx : (b : Int) + 20 = (b' : Int) := by omega
      have ebx1 : (-9223372036854775808 : Int) ≤ (b : Int) + 20 := by omega
      have ebx2 : (b : Int) + 20 ≤ 9223372036854775807 := by omega
      have HW := hid hw.out.2
      have hb3 : a ≤ b ∧ b + 20 ≤ b' ∧ b' ≤ b + 20 := by omega
      clear hb2' hw
      go_wp2_with fail
      refine cI.out.mono ?_
      rintro e w1 ⟨⟨v, rfl⟩, t, pt, st, hd, kd⟩
      have hs2 : Hid (PermIn 0 b (fun k => s (t k)) ∧ Ln (fun x y => cf x y < 0) (fun k => s (t k)) 20 b) := hid ⟨(hs.out.1.mono (Nat.le_refl _) (by omega)).comp (pt.mono (Nat.zero_le _) (Nat.le_refl _)), by
        have e : b = a + 20 := by omega
        subst e
        exact .snoc (hs.out.2.congr fun k hk => pt.2.1 k (by omega)) (Sg.fresh hs.out.1 pt st)⟩
      have hw2 := hid (And.intro hd (HW.out.trans kd (by simp)))
      clear pt st hd kd hs HW cI
      go_wp2_with fail
      exact ⟨⟨b, b', fun k => s (t k), by omega, rfl, rfl, hs2, hw2⟩, by simp [intOf]; omega⟩
    · have d0 : decide ((b : Int) ≤ (n : Int)) = false := by simp; omega
      have d1 : ¬ ((b : Int) ≤ (n : Int)) := by omega
      have cI := hid (cIns g o n cap A cv cu cf Inv HC.out s a n wr hw.out.1 (HC.out.keep _ _ HI.out hw.out.2) (fun k g1 g2 => hs.out.1.2.1 k (by omega)) ba (Nat.le_refl _) hn hcap)
      have HW := hid hw.out.2
      clear hw
      go_wp2_with fail
      refine cI.out.mono ?_
      rintro e w1 ⟨⟨v, rfl⟩, t, pt, st, hd, kd⟩
      have hs2 : Hid (PermIn 0 n (fun k => s (t k)) ∧ Rn (fun x y => cf x y < 0) (fun k => s (t k)) 20 n 0) := hid ⟨(hs.out.1.mono (Nat.le_refl _) ba).comp (pt.mono (Nat.zero_le _) (Nat.le_refl _)), (hs.out.2.congr fun k hk => pt.2.1 k (by omega)).all (by omega) ba (by
        by_cases c : a < n
        · exact .step c (by rw [Nat.min_eq_right (by omega)]; exact Sg.fresh hs.out.1 pt st) (.done (by omega))
        · exact .done (by omega))⟩
      have hw2 := hid (And.intro hd (HW.out.trans kd (by simp)))
      clear pt st hd kd hs HW cI
      go_wp2_with fail
      go_loopw [6, 7, 8, 9] (fun zv _ _ _ wn => ∃ (bs : Nat) (s : Nat → Nat), (20 ≤ bs ∧ bs ≤ n + n + 20) ∧ zv = .int .i64 (bs : Int) ∧ Hid (PermIn 0 n s ∧ Rn (fun x y => cf x y < 0) s bs n 0) ∧ Hid (Hd wn g o n cap A s ∧ Kp [g] w wn)) (fun zv _ _ _ _ => n + n + 20 - (intOf zv).toNat)
      case atStart => exact ⟨20, _, by omega, rfl, hs2, hw2⟩
      case round =>
        obtain ⟨bs, s, ⟨bz1, bz2⟩, rfl, hs, hw⟩ := hrel
        clear hs2 hw2
        by_cases hzn : bs < n
        · have i0 : (bs : Int) < (n : Int) := by omega
          obtain ⟨B, hB⟩ : ∃ x : Nat, x = 2 * bs := ⟨_, rfl⟩
          have eB : (2 : Int) * (bs : Int) = (B : Int) := by omega
          have eB1 : (-9223372036854775808 : Int) ≤ (2 : Int) * (bs : Int) := by omega
          have eB2 : (2 : Int) * (bs : Int) ≤ 9223372036854775807 := by omega
          obtain ⟨B2, hB2⟩ : ∃ x : Nat, x = 2 * bs := ⟨_, rfl⟩
          have eB2 : (bs : Int) * 2 = (B2 : Int) := by omega
          have eB21 : (-9223372036854775808 : Int) ≤ (bs : Int) * 2 := by omega
          have eB22 : (bs : Int) * 2 ≤ 9223372036854775807 := by omega
          have hBb : bs + bs ≤ B ∧ B ≤ bs + bs ∧ B2 ≤ bs + bs ∧ bs + bs ≤ B2 := by omega
          clear hB hB2
          go_wp2_with fail
          go_loopw [7, 8] (fun av bv wn => ∃ (a b : Nat) (s : Nat → Nat), (a ≤ n ∧ a + B ≤ b ∧ b ≤ a + B) ∧ av = .int .i64 (a : Int) ∧ bv = .int .i64 (b : Int) ∧ Hid (PermIn 0 n s ∧ Ln (fun x y => cf x y < 0) s B a ∧ Rn (fun x y => cf x y < 0) s bs n a) ∧ Hid (Hd wn g o n cap A s ∧ Kp [g] w wn)) (fun av _ _ => n + 1 - (intOf av).toNat)
          case atStart => exact ⟨0, B, s, by omega, rfl, rfl, hid ⟨hs.out.1, .nil, hs.out.2⟩, hw⟩
          case round =>
            obtain ⟨a, b, s, ⟨ba, bb1, bb2⟩, rfl, rfl, hs, hw⟩ := hrel
            obtain ⟨m, hm⟩ : ∃ x : Nat, x = a + bs := ⟨_, rfl⟩
            have em : (a : Int) + (bs : Int) = (m : Int) := by omega
            have em1 : (-9223372036854775808 : Int) ≤ (a : Int) + (bs : Int) := by omega
            have em2 : (a : Int) + (bs : Int) ≤ 9223372036854775807 := by omega
            have hm2 : m ≤ a + bs ∧ a + bs ≤ m := by omega
            clear hm
            by_cases hbn : b ≤ n
            · have d0 : decide ((b : Int) ≤ (n : Int)) = true := by simp; omega
              have d1 : (b : Int) ≤ (n : Int) := by omega
              obtain ⟨b2, hb2⟩ : ∃ x : Nat, x = b + B := ⟨_, rfl⟩
              have eb2 : (b : Int) + (B : Int) = (b2 : Int) := by omega
              have eb21 : (-9223372036854775808 : Int) ≤ (b : Int) + (B : Int) := by omega
              have eb22 : (b : Int) + (B : Int) ≤ 9223372036854775807 := by omega
              have hb3 : b2 ≤ b + B ∧ b + B ≤ b2 := by omega
              have hem : m = a + bs := by omega
              have heb : b = a + bs + bs := by omega
              obtain ⟨r1, r2, r3⟩ := hs.out.2.2.two (by omega) (by omega)
              rw [Nat.min_eq_left (by omega)] at r2
              rw [← hem] at r1 r2 r3
              have heb2 : b = m + bs := by omega
              rw [← heb2] at r2 r3
              have cM := hid (cSym g o n cap A cv cu cf Inv HC.out hn hcap (b - a) s a m b wr (Nat.le_refl _) hw.out.1 (HC.out.keep _ _ HI.out hw.out.2) (fun k hk => (hs.out.1.1 k (Nat.zero_le _) hk).2) (by omega) (by omega) hbn r1.1 r2.1 (r1.low r2))
              have HW := hid hw.out.2
              have RR := hid (And.intro r1 (And.intro r2 r3))
              clear hb2 hw hem heb heb2 r1 r2 r3
              go_wp2_with fail
              refine cM.out.mono ?_
              rintro e w1 ⟨⟨v, rfl⟩, t, pt, st, hd, kd⟩
              have hs2 : Hid (PermIn 0 n (fun k => s (t k)) ∧ Ln (fun x y => cf x y < 0) (fun k => s (t k)) B b ∧ Rn (fun x y => cf x y < 0) (fun k => s (t k)) bs n b) := hid ⟨hs.out.1.comp (pt.mono (Nat.zero_le _) hbn), by
                have hSg := Sg.merged RR.out.1 RR.out.2.1 (by omega) (by omega) pt st
                have e : b = a + B := by omega
                rw [e] at hSg ⊢
                exact .snoc (hs.out.2.1.congr fun k hk => pt.2.1 k (by omega)) hSg, RR.out.2.2.congr fun k g1 g2 => pt.2.1 k (by omega)⟩
              have hw2 := hid (And.intro hd (HW.out.trans kd (by simp)))
              clear pt st hd kd hs HW cM RR
              go_wp2_with fail
              exact ⟨⟨b, b2, fun k => s (t k), by omega, rfl, rfl, hs2, hw2⟩, by simp [intOf]; omega⟩
            · have d0 : decide ((b : Int) ≤ (n : Int)) = false := by simp; omega
              have d1 : ¬ ((b : Int) ≤ (n : Int)) := by omega
              by_cases hmn : m < n
              · have i5 : (m : Int) < (n : Int) := by omega
                have hem : m = a + bs := by omega
                obtain ⟨r1, r2, r3⟩ := hs.out.2.2.two (by omega) (by omega)
                rw [Nat.min_eq_right (by omega)] at r2
                rw [← hem] at r1 r2
                have cM := hid (cSym g o n cap A cv cu cf Inv HC.out hn hcap (n - a) s a m n wr (Nat.le_refl _) hw.out.1 (HC.out.keep _ _ HI.out hw.out.2) (fun k hk => (hs.out.1.1 k (Nat.zero_le _) hk).2) (by omega) hmn (Nat.le_refl _) r1.1 r2.1 (r1.low r2))
                have HW := hid hw.out.2
                have RR := hid (And.intro r1 r2)
                clear hw hem r1 r2 r3
                go_wp2_with fail
                refine cM.out.mono ?_
                rintro e w1 ⟨⟨v, rfl⟩, t, pt, st, hd, kd⟩
                have hs2 : Hid (PermIn 0 n (fun k => s (t k)) ∧ Rn (fun x y => cf x y < 0) (fun k => s (t k)) B2 n 0) := hid ⟨hs.out.1.comp (pt.mono (Nat.zero_le _) (Nat.le_refl _)), by
                  have hSg := Sg.merged RR.out.1 RR.out.2 (by omega) (by omega) pt st
                  have e : B2 = B := by omega
                  rw [e]
                  exact (hs.out.2.1.congr fun k hk => pt.2.1 k (by omega)).all (by omega) ba (.step (by omega) (by rw [Nat.min_eq_right (by omega)]; exact hSg) (.done (by omega)))⟩
                have hw2 := hid (And.intro hd (HW.out.trans kd (by simp)))
                clear pt st hd kd hs HW cM RR
                go_wp2_with fail
                exact ⟨⟨B2, fun k => s (t k), by omega, rfl, hs2, hw2⟩, by simp [intOf]; omega⟩
              · have i5 : ¬ ((m : Int) < (n : Int)) := by omega
                have i6 : decide ((m : Int) < (n : Int)) = false := by simp; omega
                have hs2 : Hid (PermIn 0 n s ∧ Rn (fun x y => cf x y < 0) s B2 n 0) := hid ⟨hs.out.1, by
                  have e : B2 = B := by omega
                  rw [e]
                  refine hs.out.2.1.all (by omega) ba ?_
                  by_cases c : a < n
                  · exact .step c (by rw [Nat.min_eq_right (by omega)]; exact hs.out.2.2.last c (by omega)) (.done (by omega))
                  · exact .done (by omega)⟩
                clear hs
                go_wp2_with fail
                exact ⟨⟨B2, s, by omega, rfl, hs2, hw⟩, by simp [intOf]; omega⟩
        · have d2 : decide ((bs : Int) < (n : Int)) = false := by simp; omega
          have d3 : ¬ ((bs : Int) < (n : Int)) := by omega
          have hfin : Hid (Stb (fun x y => cf x y < 0) s 0 n) := hid (by
            by_cases c : 0 < n
            · exact (hs.out.2.last c (by omega)).1
            · exact Stb.one _ _ _ _ (by omega))
          go_wp2_with fail
          go_end0
          exact ⟨⟨_, rfl⟩, s, hs.out.1, hfin.out, hw.out.1, hw.out.2⟩
theorem cSortStable (g o n cap : Nat) (A : Nat → Vr) (cv cu : Value) (cf : Nat → Nat → Int) (Inv : World → Prop) (hC : CmpOk g n A cv cu cf Inv) (hn : n ≤ 4000000000000) (hcap : n ≤ cap) (w : World) (h : Hd w g o n cap A (fun k => k)) (hI : Inv w) : Calls Try.prog 25 #[.slice (some ⟨g, o, none⟩) n cap, .func (.func 23) #[] #[cv, cu]] w fun e w' => (∃ v, e = .returned v) ∧ ∃ s, PermIn 0 n s ∧ Stb (fun x y => cf x y < 0) s 0 n ∧ Hd w' g o n cap A s ∧ Kp [g] w w' := by
  have cS := hid (cStable g o n cap A cv cu cf Inv hC hn hcap w h hI)
  clear hC h hI
  go_enter Try.func25, Try.ntmps25
  go_wp2_with fail
  refine cS.out.mono ?_
  rintro e w1 ⟨⟨v, rfl⟩, hp⟩
  have HP := hid hp
  clear hp
  go_wp2_with fail
  go_end0
  exact ⟨⟨_, rfl⟩, HP.out⟩
end Go.Proofs.Ytebkkdoggagcdab
end

section
namespace Go.Proofs.Ytebkkdoggagcdab
open Go.RowKit Go.Hay
set_option linter.unusedVariables false
set_option linter.unusedSimpArgs false

/-- What Put has made of the first j: k the place, d whether one of the name is there. -/
def putTo (l : List Vn) (v : Vn) (k d j : Nat) : List Vn := if j ≤ k then l.take j else l.take k ++ v :: (l.take j).drop (k + d)
theorem putTo_len (l : List Vn) (v : Vn) (k d j : Nat) : (putTo l v k d j).length ≤ j + 1 := by
  unfold putTo
  split
  · simp; omega
  · simp; omega
/-- A version appended to a row of the call's own. -/
theorem appV (w : World) (L : List Vn) (a : Option Addr) (c : Nat) (x : Vn) (q : Nat) (hq : w.heap.size = q) (hr : VnE.Row w (.slice a L.length c) L) (hL : L.length ≤ 4000000000002) :
    ∃ a' c' w', (Builtin.append_ #[22, 22] 22 #[.slice a L.length c, .slice (some ⟨q, 0, none⟩) 1 1]).run Try.prog (w.alloc (.cells #[.int .u64 x.ep, .int .u32 x.num, .slice x.a x.row.length x.c, .int .u64 x.del] 29)) = .ok (.slice a' (L ++ [x]).length c') w' ∧ VnE.Row w' (.slice a' (L ++ [x]).length c') (L ++ [x]) ∧ Kp (blk a) w w' ∧ ∀ k ∈ blk a', k ∈ blk a ∨ w.heap.size ≤ k := by
  have k1 : Kp [] w (w.alloc (.cells #[.int .u64 x.ep, .int .u32 x.num, .slice x.a x.row.length x.c, .int .u64 x.del] 29)) := (Kp.refl _ _).alloc _
  have bx : Bx (w.alloc (.cells #[.int .u64 x.ep, .int .u32 x.num, .slice x.a x.row.length x.c, .int .u64 x.del] 29)) q (VnE.c x) := by rw [← hq]; exact Bx.new w (VnE.c x) _
  obtain ⟨i0, hi, hz0, hz1, hz2⟩ := infoN
  have hsr := bx.see1.src (P := Try.prog) Try.underlying22 1
  obtain ⟨v', w', hrun, h1, h2, h3⟩ := run_appendG (E := VnE) (P := Try.prog) _ 22 22 22 29 i0 _ 48 Try.underlying22 hi hz0 hz1 hz2 rfl (.slice a L.length c) L (hr.keptNew k1) _ [x] hsr (by simp only [List.length_cons, List.length_nil]; omega) (by simp only [List.length_cons, List.length_nil]; omega)
  obtain ⟨a', c', rfl, _⟩ := h1.see
  simp only [own_slice] at h2 h3
  refine ⟨a', c', w', hrun, h1, (k1.mono (by simp)).trans h2 (fun _ h => .inl h), fun k hk => ?_⟩
  rcases h3 k hk with e | e
  · exact .inl e
  · exact .inr (Nat.le_trans k1.size e)
/-- How Put stands: what is gathered. -/
structure PuI (w wr : World) (a : Option Addr) (c : Nat) (L : List Vn) : Prop where
  row : VnE.Row wr (.slice a L.length c) L
  kp : Kp [] w wr
  new : ∀ k ∈ blk a, w.heap.size + 1 ≤ k
theorem PuI.quiet {w wr wr' : World} {a : Option Addr} {c : Nat} {L : List Vn} (h : PuI w wr a c L) (hk : Kp [] wr wr') : PuI w wr' a c L := ⟨h.row.keptNew hk, h.kp.trans hk (by simp), h.new⟩
theorem PuI.app {w wr : World} {a : Option Addr} {c : Nat} {L : List Vn} (h : PuI w wr a c L) (hz : w.heap.size + 1 ≤ wr.heap.size) (x : Vn) (q : Nat) (hq : wr.heap.size = q) (hL : L.length ≤ 4000000000002) :
    ∃ a' c' w', (Builtin.append_ #[22, 22] 22 #[.slice a L.length c, .slice (some ⟨q, 0, none⟩) 1 1]).run Try.prog (wr.alloc (.cells #[.int .u64 x.ep, .int .u32 x.num, .slice x.a x.row.length x.c, .int .u64 x.del] 29)) = .ok (.slice a' (L ++ [x]).length c') w' ∧ PuI w w' a' c' (L ++ [x]) ∧ w.heap.size + 1 ≤ w'.heap.size ∧ Kp (blk a) wr w' := by
  obtain ⟨a', c', w', h1, h2, h3, h4⟩ := appV wr L a c x q hq h.row hL
  exact ⟨a', c', w', h1, ⟨h2, h.kp.trans h3 (fun k hk => .inr (by have := h.new k hk; omega)), fun k hk => by
    rcases h4 k hk with e | e
    · exact h.new k e
    · omega⟩, Nat.le_trans hz h3.size, h3⟩
theorem putTo_low {l : List Vn} {v : Vn} {k d j : Nat} {x : Vn} (hx : l[j]? = some x) (hj : j < k) : putTo l v k d (j + 1) = putTo l v k d j ++ [x] := by
  unfold putTo
  obtain ⟨hl, rfl⟩ := List.getElem?_eq_some_iff.1 hx
  rw [if_pos (by omega), if_pos (by omega), List.take_succ_eq_append_getElem hl]
theorem putTo_at {l : List Vn} {v : Vn} {k d : Nat} {x : Vn} (hx : l[k]? = some x) : putTo l v k d (k + 1) = putTo l v k d k ++ (if d = 0 then [v, x] else if d = 1 then [v] else [v]) ∨ 1 < d := by
  obtain ⟨hl, rfl⟩ := List.getElem?_eq_some_iff.1 hx
  unfold putTo
  rw [if_neg (by omega), if_pos (Nat.le_refl _)]
  by_cases h0 : d = 0
  · left
    subst h0
    rw [if_pos rfl, Nat.add_zero, List.take_succ_eq_append_getElem hl, List.drop_append_of_le_length (by simp; omega), List.drop_take]
    simp
  · by_cases h1 : d = 1
    · left
      subst h1
      rw [if_neg (by omega), if_pos rfl, List.drop_of_length_le (by simp; omega)]
    · right; omega
theorem putTo_high {l : List Vn} {v : Vn} {k d j : Nat} {x : Vn} (hx : l[j]? = some x) (hj : k < j) (hd : d ≤ 1) : putTo l v k d (j + 1) = putTo l v k d j ++ [x] := by
  obtain ⟨hl, rfl⟩ := List.getElem?_eq_some_iff.1 hx
  unfold putTo
  rw [if_neg (by omega), if_neg (by omega), List.take_succ_eq_append_getElem hl, List.drop_append_of_le_length (by simp; omega)]
  simp
end Go.Proofs.Ytebkkdoggagcdab
end

section
namespace Go.Proofs.Ytebkkdoggagcdab
open Go.RowKit Go.Hay
set_option linter.unusedVariables false
set_option linter.unusedSimpArgs false

/-- What Add and Erase of the reference's hand back. -/
def RefP (a : Option Addr) (l l' : List Vn) (r : Int) (w : World) (e : Ending) (w' : World) : Prop :=
  ∃ a' c', e = .returned (.tuple #[.slice a' l'.length c', .int .i64 r]) ∧ VnE.See w' a' l' ∧ Kp [] w w' ∧ ((l' = l ∧ a' = a) ∨ ∀ k ∈ blk a', w.heap.size ≤ k)
theorem RefP.same {a : Option Addr} {c : Nat} {l : List Vn} {w w' : World} (hs : VnE.See w a l) (hk : Kp [] w w') (r : Int) : RefP a l l r w (.returned (.tuple #[.slice a l.length c, .int .i64 r])) w' :=
  ⟨a, c, rfl, hs.keptNew hk, hk, .inl ⟨rfl, rfl⟩⟩
theorem See.ofRow {α : Type} {E : El α} {w : World} {a : Option Addr} {n c : Nat} {l : List α} (h : E.Row w (.slice a n c) l) : E.See w a l := by
  obtain ⟨_, _, e, hs, _⟩ := h.see
  simp only [Value.slice.injEq] at e
  rw [e.1]; exact hs
/-- How a gathering stands. -/
structure GaI (w wr : World) (a : Option Addr) (c : Nat) (L : List Vn) : Prop where
  row : VnE.Row wr (.slice a L.length c) L
  kp : Kp [] w wr
  new : ∀ k ∈ blk a, w.heap.size ≤ k
theorem GaI.quiet {w wr wr' : World} {a : Option Addr} {c : Nat} {L : List Vn} (h : GaI w wr a c L) (hk : Kp [] wr wr') : GaI w wr' a c L := ⟨h.row.keptNew hk, h.kp.trans hk (by simp), h.new⟩
theorem GaI.app {w wr : World} {a : Option Addr} {c : Nat} {L : List Vn} (h : GaI w wr a c L) (x : Vn) (q : Nat) (hq : wr.heap.size = q) (hL : L.length ≤ 4000000000002) :
    ∃ a' c' w', (Builtin.append_ #[22, 22] 22 #[.slice a L.length c, .slice (some ⟨q, 0, none⟩) 1 1]).run Try.prog (wr.alloc (.cells #[.int .u64 x.ep, .int .u32 x.num, .slice x.a x.row.length x.c, .int .u64 x.del] 29)) = .ok (.slice a' (L ++ [x]).length c') w' ∧ GaI w w' a' c' (L ++ [x]) := by
  obtain ⟨a', c', w', h1, h2, h3, h4⟩ := appV wr L a c x q hq h.row hL
  exact ⟨a', c', w', h1, ⟨h2, h.kp.trans h3 (fun k hk => .inr (h.new k hk)), fun k hk => by
    rcases h4 k hk with e | e
    · exact h.new k e
    · exact Nat.le_trans h.kp.size e⟩⟩
/-- What is gathered by the reference. -/
def GatP (T : List Vn) (w : World) (e : Ending) (w' : World) : Prop := ∃ a c, e = .returned (.slice a T.length c) ∧ VnE.Row w' (.slice a T.length c) T ∧ Kp [] w w' ∧ ∀ k ∈ blk a, w.heap.size ≤ k
theorem atV_snoc (e : Int) (l : List Vn) (x : Vn) : atV e (l ++ [x]) = if seenV e x = true then atV e l ++ [asV e x] else atV e l := by
  unfold atV
  rw [List.filter_append]
  by_cases h : seenV e x = true <;> simp [h]
end Go.Proofs.Ytebkkdoggagcdab
end

section
namespace Go.Proofs.Ytebkkdoggagcdab
open Go.RowKit Go.Hay
set_option linter.unusedVariables false
set_option linter.unusedSimpArgs false

theorem cGone1 (q : Nat) (m : Int) (x : Vn) (w : World) (hq : w.cell? ⟨q, 0, none⟩ = some (.int .u64 m)) : Calls Try.prog 15 #[.agg #[.int .u64 x.ep, .int .u32 x.num, .slice x.a x.row.length x.c, .int .u64 x.del], .pointer (some ⟨q, 0, none⟩)] w fun r w' => r = .returned (.bool (!behS m x)) ∧ Kp [] w w' := by
  have hlt : q < w.heap.size := World.block_lt_of_cell? _ _ hq
  obtain ⟨ep, num, a, c, row, del⟩ := x
  have e : (!behS m ⟨ep, num, a, c, row, del⟩) = (decide (ep ≤ m) && decide (del ≤ m)) := by
    unfold behS
    by_cases h1 : m < ep
    · have : ¬ ep ≤ m := by omega
      simp [h1, this]
    · have h1' : ep ≤ m := by omega
      by_cases h2 : m < del
      · have : ¬ del ≤ m := by omega
        simp [h2, this]
      · have h2' : del ≤ m := by omega
        simp [h1, h2, h1', h2']
  rw [e]
  clear e
  by_cases h1 : ep ≤ m
  · have d1 : decide (ep ≤ m) = true := by simpa using h1
    rw [d1]
    clear h1
    go_enter Try.func15, Try.ntmps15
    go_wp2_with fail
    go_returns
    exact ⟨by simp, (Kp.refl _ _).alloc _⟩
  · have d1 : decide (ep ≤ m) = false := by simpa using h1
    rw [d1]
    clear h1
    go_enter Try.func15, Try.ntmps15
    go_wp2_with fail
    go_returns
    exact ⟨by simp, (Kp.refl _ _).alloc _⟩
/-- What IndexFunc tells: the first that goes. -/
def IdxP (m : Int) (l : List Vn) (r : Int) : Prop := (r = -1 ∧ ∀ x ∈ l, behS m x = true) ∨ ∃ i : Nat, ∃ x, r = i ∧ l[i]? = some x ∧ behS m x = false ∧ ∀ y ∈ l.take i, behS m y = true
set_option maxHeartbeats 8000000 in
set_option maxRecDepth 100000 in
theorem cIndexF (a : Option Addr) (c q : Nat) (m : Int) (l : List Vn) (w : World) (hs : VnE.See w a l) (hq : w.cell? ⟨q, 0, none⟩ = some (.int .u64 m)) (hf : l.length ≤ 4000000000000) :
    Calls Try.prog 21 #[.slice a l.length c, .func (.func 15) #[] #[.pointer (some ⟨q, 0, none⟩)]] w fun e w' => ∃ r, e = .returned (.int .i64 r) ∧ IdxP m l r ∧ Kp [] w w' := by
  have hs' := hid hs
  have hq' := hid hq
  clear hs hq
  go_enter Try.func21, Try.ntmps21
  go_wp2_with fail
  go_loopw [8] (fun i wr => ∃ j : Nat, j ≤ l.length ∧ i = .int .i64 j ∧ Hid (∀ y ∈ l.take j, behS m y = true) ∧ Kp [] w wr) (fun i _ => l.length - (intOf i).toNat)
  case atStart => exact ⟨0, Nat.zero_le _, rfl, by intro y hy; simp at hy, Kp.refl _ _⟩
  case round =>
    obtain ⟨j, hj, rfl, hst, kr⟩ := hrel
    by_cases hjl : j < l.length
    · have hx : l[j]? = some l[j] := by simp [hjl]
      obtain ⟨g, o, rfl, c0, c1, c2, c3⟩ := idAt (hs'.out.keptNew kr) hx
      have cG := cGone1 q m l[j] wr (kpAt kr hq'.out)
      have htk : Hid (l.take (j + 1) = l.take j ++ [l[j]]) := by show _ = _; rw [List.take_succ_eq_append_getElem hjl]
      have hx' := hid hx
      clear hx
      generalize l[j] = x at *
      have i1 : (0 : Int) ≤ (j : Int) := by omega
      have i2 : (j : Int) < (l.length : Int) := by omega
      obtain ⟨B, hB⟩ : ∃ B, Hid (behS m x = B) := ⟨_, rfl⟩
      rw [hB.out] at cG
      obtain ⟨ep, num, xa, xc, row, del⟩ := x
      dsimp only at c0 c1 c2 c3 cG
      go_wp2_with fail
      refine cG.mono ?_
      rintro e w2 ⟨rfl, k2⟩
      have kw2 := kr.trans k2 (by simp)
      clear cG k2 c0 c1 c2 c3
      cases B with
      | true =>
        go_wp2_with fail
        refine ⟨⟨j + 1, by omega, by go_num, fun y hy => ?_, kw2⟩, by simp [intOf]; omega⟩
        rw [htk.out] at hy
        rcases List.mem_append.1 hy with h | h
        · exact hst.out y h
        · rw [List.mem_singleton] at h; subst h; exact hB.out
      | false =>
        go_wp2_with fail
        go_ret
        exact ⟨_, rfl, .inr ⟨j, _, rfl, hx'.out, hB.out, hst.out⟩, kw2⟩
    · have e : j = l.length := by omega
      subst e
      go_wp2_with fail
      go_ret
      exact ⟨_, rfl, .inl ⟨rfl, fun x hx => hst.out x (by rw [List.take_length]; exact hx)⟩, kr⟩
/-- The rest of a row of versions, made nought. -/
theorem run_clearN (W : World) (g o n c : Nat) (hn : 0 < n) (hc : ∀ j, j < n * 4 → (W.cell? ⟨g, o + j, none⟩).isSome = true ∧ W.frozen? ⟨g, o + j, none⟩ = false) :
    ∀ ty, (Builtin.clear_ #[22] ty #[.slice (some ⟨g, o, none⟩) n c]).run Try.prog W = .ok (.tuple #[]) (W.setCells g o (VnE.cs (List.replicate n default))) := by
  have hv : ∀ w : World, (zeroValue 29).run Try.prog w = .ok (.agg #[.int .u64 0, .int .u32 0, .slice none 0 0, .int .u64 0]) w := Try.zeroValue29
  have hzc := zeroCells_cs VnE default (Value.agg #[.int .u64 0, .int .u32 0, .slice none 0 0, .int .u64 0]).cells rfl n
  have hlen : (VnE.cs (List.replicate n default)).length = n * 4 := by rw [El.cs_length, List.length_replicate]; rfl
  have hst := run_storeCells_cells (P := Try.prog) g o (VnE.cs (List.replicate n default)) 0 W (by rw [hlen]; simpa using fun j hj => (hc j hj).1) (by rw [hlen]; simpa using fun j hj => (hc j hj).2) (El.cs_one VnE _)
  simp only [Nat.add_zero] at hst
  intro ty
  obtain ⟨m, rfl⟩ : ∃ m, n = m + 1 := ⟨n - 1, by omega⟩
  simp [Builtin.clear_, run_underlying Try.underlying22, hv, hzc, hst]
/-- The first ones of a row, with all its room. -/
theorem rowFront {α : Type} {E : El α} {w : World} {g o c : Nat} {l : List α} (h : E.Row w (.slice (some ⟨g, o, none⟩) l.length c) l) (k : Nat) (hk : k ≤ l.length) : E.Row w (.slice (some ⟨g, o, none⟩) k c) (l.take k) := by
  have hlen : (l.take k).length = k := by simp; omega
  rcases h with ⟨e, _⟩ | ⟨g', o', cap, e, hl, hm, hg, hc, ht⟩
  · cases e
  · simp only [Value.slice.injEq, Option.some.injEq, Addr.mk.injEq] at e
    obtain ⟨⟨rfl, rfl, _⟩, _, rfl⟩ := e
    refine .inr ⟨g, o, c, by rw [hlen], by rw [hlen]; omega, hm, hg, fun j u hu => ?_, ht⟩
    rw [El.cs_take, List.getElem?_take] at hu
    split at hu
    · exact hc j u hu
    · cases hu
theorem rowCells {α : Type} {E : El α} {w : World} {g o c : Nat} {l : List α} (h : E.Row w (.slice (some ⟨g, o, none⟩) l.length c) l) : l.length ≤ c ∧ c ≤ maxLen ∧ g < w.heap.size ∧ ∀ j, j < c * E.n → (w.cell? ⟨g, o + j, none⟩).isSome = true ∧ w.frozen? ⟨g, o + j, none⟩ = false := by
  rcases h with ⟨e, _⟩ | ⟨g', o', cap, e, hl, hm, hg, hc, ht⟩
  · cases e
  · simp only [Value.slice.injEq, Option.some.injEq, Addr.mk.injEq] at e
    obtain ⟨⟨rfl, rfl, _⟩, _, rfl⟩ := e
    exact ⟨hl, hm, hg, ht⟩
theorem chgF_all {m : Int} {l : List Vn} (h : ∀ x ∈ l, behS m x = true) : chgF m l = l := List.filter_eq_self.2 h
theorem chgF_snoc (m : Int) (l : List Vn) (x : Vn) : chgF m (l ++ [x]) = if behS m x = true then chgF m l ++ [x] else chgF m l := by
  unfold chgF
  rw [List.filter_append]
  by_cases h : behS m x = true <;> simp [h]
def DelP (g o c : Nat) (m : Int) (l : List Vn) (w : World) (e : Ending) (w' : World) : Prop := e = .returned (.slice (some ⟨g, o, none⟩) (chgF m l).length c) ∧ VnE.Row w' (.slice (some ⟨g, o, none⟩) (chgF m l).length c) (chgF m l) ∧ Kp [g] w w'
set_option maxHeartbeats 16000000 in
set_option maxRecDepth 100000 in
theorem cDelF (g o c q : Nat) (m : Int) (l : List Vn) (w : World) (hr : VnE.Row w (.slice (some ⟨g, o, none⟩) l.length c) l) (hq : w.cell? ⟨q, 0, none⟩ = some (.int .u64 m)) (hqg : q ≠ g) (hf : l.length ≤ 4000000000000) :
    Calls Try.prog 14 #[.slice (some ⟨g, o, none⟩) l.length c, .func (.func 15) #[] #[.pointer (some ⟨q, 0, none⟩)]] w (DelP g o c m l w) := by
  obtain ⟨hlc, hcm, _, _⟩ := rowCells hr
  obtain ⟨_, _, ev, hsee, _⟩ := hr.see
  cases ev
  have cI := cIndexF (some ⟨g, o, none⟩) c q m l w hsee hq hf
  have hr' := hid hr
  have hq' := hid hq
  unfold maxLen at hcm
  clear hr hsee hq
  go_enter Try.func14, Try.ntmps14
  go_wp2_with fail
  refine cI.mono ?_
  rintro e w2 ⟨r, rfl, hI, k2⟩
  clear cI
  rcases hI with ⟨rfl, hall⟩ | ⟨i, x0, rfl, hx0, hx1, hst⟩
  · have hH : Hid (DelP g o c m l w (.returned (.slice (some ⟨g, o, none⟩) l.length c)) w2) := by
      show DelP _ _ _ _ _ _ _ _
      unfold DelP
      rw [chgF_all hall]
      exact ⟨rfl, hr'.out.keptNew k2, k2.mono (by simp)⟩
    clear hall
    go_wp2_with fail
    go_ret
    exact hH.out
  · have hil : i < l.length := (List.getElem?_eq_some_iff.1 hx0).1
    have t1 : ((i : Int) == -1) = false := beq_eq_false_iff_ne.2 (by omega)
    have hP0 : Hid (chgF m (l.take (i + 1)) = l.take i) := by
      show _ = _
      have e1 : l.take (i + 1) = l.take i ++ [x0] := by
        rw [List.take_succ_eq_append_getElem hil]
        obtain ⟨_, rfl⟩ := List.getElem?_eq_some_iff.1 hx0
        rfl
      rw [e1, chgF_snoc, if_neg (by rw [hx1]; simp), chgF_all hst]
    have hlti : Hid ((l.take i).length = i) := by show _ = _; rw [List.length_take]; omega
    have hr2 := hid (hr'.out.keptNew k2)
    have hq2 := hid (kpAt k2 hq'.out)
    clear hx0 hx1 hst hr' hq'
    go_wp2_with fail
    go_loopw [5, 6, 7] (fun s5 s6 s7 wn => ∃ (kk j : Nat), s5 = .int .i64 kk ∧ s6 = .int .i64 j ∧ j ≤ l.length ∧ kk < j ∧ Hid ((chgF m (l.take j)).length = kk) ∧ VnE.Row wn (.slice (some ⟨g, o, none⟩) l.length c) (chgF m (l.take j) ++ l.drop kk) ∧ Kp [g] w2 wn) (fun _ s6 _ _ => l.length - (intOf s6).toNat)
    case atStart => exact ⟨i, i + 1, rfl, by go_num, by omega, by omega, by show _ = _; rw [hP0.out, hlti.out], by rw [hP0.out, List.take_append_drop]; exact hr2.out, Kp.refl _ _⟩
    case round =>
      clear hr2 hP0 hlti
      obtain ⟨kk, j, rfl, rfl, hj, hkk, hpl, hrow, kn⟩ := hrel
      have hLl : (chgF m (l.take j) ++ l.drop kk).length = l.length := by rw [List.length_append, hpl.out]; simp; omega
      have hLl' := hid hLl
      have hrow2 : VnE.Row wr (.slice (some ⟨g, o, none⟩) (chgF m (l.take j) ++ l.drop kk).length c) (chgF m (l.take j) ++ l.drop kk) := by rw [hLl]; exact hrow
      clear hLl
      by_cases hjl : j < l.length
      · have hx : l[j]? = some l[j] := by simp [hjl]
        have hxx : (chgF m (l.take j) ++ l.drop kk)[j]? = some l[j] := by
          rw [List.getElem?_append_right (by rw [hpl.out]; omega), hpl.out, List.getElem?_drop, show kk + (j - kk) = j by omega]
          exact hx
        obtain ⟨_, _, ev, hsee, _⟩ := hrow2.see
        simp only [Value.slice.injEq] at ev
        obtain ⟨rfl, _, rfl⟩ := ev
        obtain ⟨g', o', ea, c0, c1, c2, c3⟩ := idAt hsee hxx
        simp only [Option.some.injEq, Addr.mk.injEq] at ea
        obtain ⟨rfl, rfl, _⟩ := ea
        have htk : Hid (l.take (j + 1) = l.take j ++ [l[j]]) := by show _ = _; rw [List.take_succ_eq_append_getElem hjl]
        generalize l[j] = x at *
        obtain ⟨wb, hwb⟩ : ∃ wb, wr.alloc (.cells #[.int .u64 x.ep, .int .u32 x.num, .slice x.a x.row.length x.c, .int .u64 x.del] 29) = wb := ⟨_, rfl⟩
        have kb : Kp [] wr wb := by rw [← hwb]; exact (Kp.refl _ _).alloc _
        have bb : Bx wb wr.heap.size (VnE.c x) := by rw [← hwb]; exact Bx.new wr (VnE.c x) _
        have hzb : wr.heap.size < wb.heap.size := by rw [← hwb]; simp
        have hqr : wr.cell? ⟨q, 0, none⟩ = some (.int .u64 m) := (kn.cell (p := ⟨q, 0, none⟩) (World.block_lt_of_cell? _ _ hq2.out) (by simpa using hqg)).trans hq2.out
        have cG := cGone1 q m x wb (kpAt kb hqr)
        obtain ⟨B, hB⟩ : ∃ B, Hid (behS m x = B) := ⟨_, rfl⟩
        rw [hB.out] at cG
        have i1 : (0 : Int) ≤ (j : Int) := by omega
        have i2 : (j : Int) < (l.length : Int) := by omega
        have i3 : (0 : Int) ≤ (kk : Int) := by omega
        have i4 : (kk : Int) < (l.length : Int) := by omega
        have b0 := bb.get 0 _ rfl; have b1 := bb.get 1 _ rfl; have b2 := bb.get 2 _ rfl; have b3 := bb.get 3 _ rfl
        have hrow' := hid hrow2
        obtain ⟨ep, num, xa, xc, row, del⟩ := x
        dsimp only at c0 c1 c2 c3 cG b0 b1 b2 b3 hwb
        clear hx hxx hsee hrow hrow2
        go_wp2_with fail
        refine cG.mono ?_
        rintro e w4 ⟨rfl, k4⟩
        have kbr := kb.trans k4 (by simp)
        have kw4 := kn.trans kbr (by simp)
        clear cG
        cases B with
        | true =>
          have b4 := bb.kept k4 hzb
          have d0 := b4.get 0 _ rfl; have d1 := b4.get 1 _ rfl; have d2 := b4.get 2 _ rfl; have d3 := b4.get 3 _ rfl
          have hr4 := hrow'.out.keptNew kbr
          obtain ⟨hput, kput, hs, hfz⟩ := hr4.put kk (by rw [hLl'.out]; omega) [⟨ep, num, xa, xc, row, del⟩] (by simp; omega)
          have hl2 : (chgF m (l.take j) ++ l.drop kk).take kk ++ [⟨ep, num, xa, xc, row, del⟩] ++ (chgF m (l.take j) ++ l.drop kk).drop (kk + [(⟨ep, num, xa, xc, row, del⟩ : Vn)].length) = chgF m (l.take (j + 1)) ++ l.drop (kk + 1) := by
            have e1 : (chgF m (l.take j) ++ l.drop kk).take kk = chgF m (l.take j) := by
              have := List.take_left (l₁ := chgF m (l.take j)) (l₂ := l.drop kk)
              rwa [hpl.out] at this
            have e2 : (chgF m (l.take j) ++ l.drop kk).drop (kk + 1) = l.drop (kk + 1) := by
              rw [List.drop_append, List.drop_of_length_le (by rw [hpl.out]; omega), List.nil_append, hpl.out, List.drop_drop]
              congr 1
              omega
            rw [e1, show kk + [(⟨ep, num, xa, xc, row, del⟩ : Vn)].length = kk + 1 from rfl, e2, htk.out, chgF_snoc, if_pos hB.out]
          have hlen2 : (chgF m (l.take (j + 1)) ++ l.drop (kk + 1)).length = l.length := by
            rw [htk.out, chgF_snoc, if_pos hB.out, List.length_append, List.length_append, hpl.out]; simp; omega
          rw [hl2, hlen2] at hput
          have f0 := hfz 0 (by simp [El.cs, VnE]); have f1 := hfz 1 (by simp [El.cs, VnE]); have f2 := hfz 2 (by simp [El.cs, VnE]); have f3 := hfz 3 (by simp [El.cs, VnE])
          obtain ⟨u0, v0⟩ := Option.isSome_iff_exists.1 (hs 0 (by simp [El.cs, VnE]))
          obtain ⟨u1, v1⟩ := Option.isSome_iff_exists.1 (hs 1 (by simp [El.cs, VnE]))
          obtain ⟨u2, v2⟩ := Option.isSome_iff_exists.1 (hs 2 (by simp [El.cs, VnE]))
          obtain ⟨u3, v3⟩ := Option.isSome_iff_exists.1 (hs 3 (by simp [El.cs, VnE]))
          have e4 : VnE.n = 4 := rfl
          rw [e4] at f0 f1 f2 f3 v0 v1 v2 v3
          rw [Nat.add_zero] at f0 v0
          obtain ⟨w5, hw5⟩ : ∃ w5, (((w4.setCell ⟨g, o + kk * 4, none⟩ (.int .u64 ep)).setCell ⟨g, o + kk * 4 + 1, none⟩ (.int .u32 num)).setCell ⟨g, o + kk * 4 + 2, none⟩ (.slice xa row.length xc)).setCell ⟨g, o + kk * 4 + 3, none⟩ (.int .u64 del) = w5 := ⟨_, rfl⟩
          have hput5 : VnE.Row w5 (.slice (some ⟨g, o, none⟩) l.length c) (chgF m (l.take (j + 1)) ++ l.drop (kk + 1)) := by rw [← hw5]; exact hput
          have k5 : Kp [g] w2 w5 := by rw [← hw5]; exact kw4.trans kput (fun _ h => .inl h)
          have hpl2 : Hid ((chgF m (l.take (j + 1))).length = kk + 1) := by show _ = _; rw [htk.out, chgF_snoc, if_pos hB.out, List.length_append, hpl.out]; rfl
          have H := hid (And.intro hput5 k5)
          clear hr4 hput kput hs hfz hl2 hlen2 hput5 k5 b4 bb hrow' k4 kb kbr kw4 c0 c1 c2 c3 b0 b1 b2 b3 hwb
          go_wp2_with fail
          exact ⟨⟨kk + 1, j + 1, by go_num, by go_num, by omega, by omega, hpl2, H.out.1, H.out.2⟩, by simp [intOf]; omega⟩
        | false =>
          have hpl2 : Hid (chgF m (l.take (j + 1)) = chgF m (l.take j)) := by show _ = _; rw [htk.out, chgF_snoc, if_neg (by rw [hB.out]; simp)]
          have hr4 : VnE.Row w4 (.slice (some ⟨g, o, none⟩) l.length c) (chgF m (l.take j) ++ l.drop kk) := by have := hrow'.out.keptNew kbr; rwa [hLl'.out] at this
          have H := hid (And.intro hr4 kw4)
          clear hr4 bb hrow' k4 kb kbr kw4 c0 c1 c2 c3 b0 b1 b2 b3 hwb
          go_wp2_with fail
          exact ⟨⟨kk, j + 1, rfl, by go_num, by omega, by omega, by show _ = _; rw [hpl2.out, hpl.out], by rw [hpl2.out]; exact H.out.1, H.out.2⟩, by simp [intOf]; omega⟩
      · have e : j = l.length := by omega
        subst e
        have hF : Hid (chgF m (l.take l.length) = chgF m l) := by show _ = _; rw [List.take_length]
        rw [hF.out] at hrow2 hpl hLl'
        obtain ⟨hl9, hm9, hg9, ht9⟩ := rowCells hrow2
        rw [hLl'.out] at hl9
        have hcc : ∀ z, z < (l.length - kk) * 4 → (wr.cell? ⟨g, o + kk * 4 + z, none⟩).isSome = true ∧ wr.frozen? ⟨g, o + kk * 4 + z, none⟩ = false := fun z hz => by
          rw [Nat.add_assoc]
          refine ht9 _ ?_
          show _ < c * 4
          omega
        have hcl := run_clearN wr g (o + kk * 4) (l.length - kk) (c - kk) (by omega) hcc
        obtain ⟨hput, kput, _, _⟩ := hrow2.put kk (by rw [hLl'.out]; omega) (List.replicate (l.length - kk) default) (by simp; omega)
        have hlz : ((chgF m l ++ l.drop kk).take kk ++ List.replicate (l.length - kk) default ++ (chgF m l ++ l.drop kk).drop (kk + (List.replicate (l.length - kk) (default : Vn)).length)).take kk = chgF m l := by
          have e1 : (chgF m l ++ l.drop kk).take kk = chgF m l := by
            have := List.take_left (l₁ := chgF m l) (l₂ := l.drop kk)
            rwa [hpl.out] at this
          rw [e1, List.append_assoc, List.take_append_of_le_length (by rw [hpl.out]; omega), ← hpl.out, List.take_length]
        have hfr := rowFront hput kk (by simp only [List.length_append, List.length_replicate, List.length_take, List.length_drop]; rw [hpl.out]; omega)
        rw [hlz] at hfr
        have hH : Hid (DelP g o c m l w (.returned (.slice (some ⟨g, o, none⟩) kk c)) (wr.setCells g (o + kk * 4) (VnE.cs (List.replicate (l.length - kk) default)))) := by
          show DelP _ _ _ _ _ _ _ _
          unfold DelP
          rw [hpl.out]
          exact ⟨rfl, hfr, ((k2.mono (by simp)).trans kn (fun _ h => .inl h)).trans kput (fun _ h => .inl h)⟩
        have n2 : (kk : Int) ≤ (l.length : Int) := by omega
        have n3 : (kk : Int) ≤ (c : Int) := by omega
        have n4 : kk < l.length := by omega
        have n5 : kk < c := by omega
        clear hput kput hfr hlz hrow hrow2 hpl hLl' ht9 hcc hF hm9
        go_wp2_with fail
        go_ret
        exact hH.out
set_option maxHeartbeats 8000000 in
set_option maxRecDepth 100000 in
theorem cDelNil (c q : Nat) (m : Int) (w : World) (hq : w.cell? ⟨q, 0, none⟩ = some (.int .u64 m)) :
    Calls Try.prog 14 #[.slice none 0 0, .func (.func 15) #[] #[.pointer (some ⟨q, 0, none⟩)]] w fun e w' => e = .returned (.slice none 0 0) ∧ Kp [] w w' := by
  have cI := cIndexF none 0 q m [] w (.inl rfl) hq (by simp)
  simp only [List.length_nil] at cI
  clear hq
  go_enter Try.func14, Try.ntmps14
  go_wp2_with fail
  refine cI.mono ?_
  rintro e w2 ⟨r, rfl, hI, k2⟩
  clear cI
  rcases hI with ⟨rfl, hall⟩ | ⟨i, x0, rfl, hx0, hx1, hst⟩
  · clear hall
    go_wp2_with fail
    go_ret
    exact ⟨rfl, k2⟩
  · simp at hx0
end Go.Proofs.Ytebkkdoggagcdab
end

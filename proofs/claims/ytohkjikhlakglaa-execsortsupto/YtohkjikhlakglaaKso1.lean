/- Stable sorting: symMerge, its ends. -/
import Derived.Test.YtohkjikhlakglaaB1
import Derived.Test.YtohkjikhlakglaaB10
import Derived.Test.YtohkjikhlakglaaB4
import Derived.Test.YtohkjikhlakglaaB7
import Derived.Test.YtohkjikhlakglaaB2
import Derived.Test.YtohkjikhlakglaaB6
import Derived.Test.YtohkjikhlakglaaB9
import Derived.Test.YtohkjikhlakglaaB3
import Derived.Deep.RegionHeld3
section
namespace Go.Hay
set_option linter.unusedVariables false

/-- Places turned among themselves, from a on and ahead of b. -/
def PermIn (a b : Nat) (s : Nat → Nat) : Prop := (∀ k, a ≤ k → k < b → a ≤ s k ∧ s k < b) ∧ (∀ k, ¬ (a ≤ k ∧ k < b) → s k = k) ∧ ∀ i j, s i = s j → i = j
theorem PermIn.id (a b : Nat) : PermIn a b (fun k => k) := ⟨fun k h1 h2 => ⟨h1, h2⟩, fun _ _ => rfl, fun _ _ h => h⟩
theorem PermIn.comp {a b : Nat} {s t : Nat → Nat} (hs : PermIn a b s) (ht : PermIn a b t) : PermIn a b (fun k => s (t k)) :=
  ⟨fun k h1 h2 => hs.1 _ (ht.1 k h1 h2).1 (ht.1 k h1 h2).2, fun k h => by show s (t k) = k; rw [ht.2.1 k h, hs.2.1 k h], fun i j h => ht.2.2 _ _ (hs.2.2 _ _ h)⟩
theorem PermIn.mono {a b c d : Nat} {s : Nat → Nat} (hs : PermIn a b s) (h1 : c ≤ a) (h2 : b ≤ d) : PermIn c d s :=
  ⟨fun k h3 h4 => by
    by_cases h : a ≤ k ∧ k < b
    · have := hs.1 k h.1 h.2
      omega
    · rw [hs.2.1 k h]; omega, fun k h => hs.2.1 k (by omega), hs.2.2⟩
/-- Two places exchanged. -/
def swp (i j : Nat) : Nat → Nat := fun k => if k = i then j else if k = j then i else k
theorem swp_perm {a b i j : Nat} (h1 : a ≤ i) (h2 : i < b) (h3 : a ≤ j) (h4 : j < b) : PermIn a b (swp i j) := by
  refine ⟨fun k _ _ => ?_, fun k h => ?_, fun x y h => ?_⟩
  · unfold swp; split <;> (try split) <;> omega
  · unfold swp; split <;> (try split) <;> omega
  · unfold swp at h; split at h <;> (try split at h) <;> (try split at h) <;> (try split at h) <;> omega
/-- So many places exchanged with as many others. -/
def swR (a b n : Nat) : Nat → Nat := fun k => if a ≤ k ∧ k < a + n then k - a + b else if b ≤ k ∧ k < b + n then k - b + a else k
theorem swR_zero (a b : Nat) : swR a b 0 = fun k => k := by
  funext k
  unfold swR
  split <;> (try split) <;> omega
theorem swR_succ (a b i : Nat) (h : a + (i + 1) ≤ b) : swR a b (i + 1) = fun k => swR a b i (swp (a + i) (b + i) k) := by
  funext k
  unfold swR swp
  repeat' split
  all_goals omega
theorem swR_perm {lo hi a b n : Nat} (h1 : lo ≤ a) (h2 : a + n ≤ b) (h3 : b + n ≤ hi) : PermIn lo hi (swR a b n) := by
  refine ⟨fun k _ _ => ?_, fun k h => ?_, fun x y h => ?_⟩
  · unfold swR; repeat' split
    all_goals omega
  · unfold swR; repeat' split
    all_goals omega
  · unfold swR at h
    repeat' split at h
    all_goals omega
/-- Two neighbouring rows of places exchanged. -/
def rot (a m b : Nat) : Nat → Nat := fun k => if a ≤ k ∧ k < b then (if k < a + (b - m) then k + (m - a) else k - (b - m)) else k
theorem rot_perm {lo hi a m b : Nat} (h1 : lo ≤ a) (h2 : a ≤ m) (h3 : m ≤ b) (h4 : b ≤ hi) : PermIn lo hi (rot a m b) := by
  refine ⟨fun k _ _ => ?_, fun k h => ?_, fun x y h => ?_⟩
  · unfold rot; repeat' split
    all_goals omega
  · unfold rot; repeat' split
    all_goals omega
  · unfold rot at h
    repeat' split at h
    all_goals omega
theorem rot_left (m b : Nat) : rot m m b = fun k => k := by
  funext k
  unfold rot
  repeat' split
  all_goals omega
theorem rot_right (a m : Nat) (h : a ≤ m) : rot a m m = fun k => k := by
  funext k
  unfold rot
  repeat' split
  all_goals omega
theorem rot_step1 (m i j : Nat) (hi : i ≤ m) (h : j < i) : rot (m - i) m (m + j) = fun k => swR (m - i) m j (rot (m - (i - j)) m (m + j) k) := by
  funext k
  unfold rot swR
  repeat' split
  all_goals omega
theorem rot_step2 (m i j : Nat) (hi : i ≤ m) (h : i < j) : rot (m - i) m (m + j) = fun k => swR (m - i) (m + j - i) i (rot (m - i) m (m + (j - i)) k) := by
  funext k
  unfold rot swR
  repeat' split
  all_goals omega
theorem rot_end (m i : Nat) (hi : i ≤ m) : rot (m - i) m (m + i) = swR (m - i) m i := by
  funext k
  unfold rot swR
  repeat' split
  all_goals omega
theorem rot_pull (j i : Nat) (h : j < i) : rot j i (i + 1) = fun k => rot (j + 1) i (i + 1) (swp (j + 1) j k) := by
  funext k
  unfold rot swp
  repeat' split
  all_goals omega
theorem rot_push (a k i : Nat) (h1 : a ≤ k) (h2 : k + 1 < i) : rot a (a + 1) (k + 2) = fun x => rot a (a + 1) (k + 1) (swp k (k + 1) x) := by
  funext x
  unfold rot swp
  repeat' split
  all_goals omega

/-- Which of two things comes first: by the order, then by place. -/
def bef (lt : Nat → Nat → Prop) (x y : Nat) : Prop := lt x y ∨ (¬ lt y x ∧ x < y)
structure Swo (lt : Nat → Nat → Prop) : Prop where
  asym : ∀ x y, lt x y → ¬ lt y x
  ntr : ∀ x y z, ¬ lt x y → ¬ lt y z → ¬ lt x z
theorem bef_trans {lt : Nat → Nat → Prop} (h : Swo lt) {x y z : Nat} (h1 : bef lt x y) (h2 : bef lt y z) : bef lt x z := by
  have nyx : ¬ lt y x := by rcases h1 with h1 | h1; exact h.asym _ _ h1; exact h1.1
  have nzy : ¬ lt z y := by rcases h2 with h2 | h2; exact h.asym _ _ h2; exact h2.1
  have nzx : ¬ lt z x := h.ntr _ _ _ nzy nyx
  by_cases hxz : lt x z
  · exact .inl hxz
  · right
    refine ⟨nzx, ?_⟩
    rcases h1 with h1 | h1
    · exact absurd h1 (h.ntr _ _ _ hxz nzy)
    · rcases h2 with h2 | h2
      · exact absurd h2 (h.ntr _ _ _ nyx hxz)
      · omega
theorem bef_asym {lt : Nat → Nat → Prop} (h : Swo lt) {x y : Nat} (h1 : bef lt x y) (h2 : bef lt y x) : False := by
  rcases h1 with h1 | h1
  · rcases h2 with h2 | h2
    · exact h.asym _ _ h1 h2
    · exact h2.1 h1
  · rcases h2 with h2 | h2
    · exact h1.1 h2
    · omega
/-- In order, from a on and ahead of b. -/
def Srt (lt : Nat → Nat → Prop) (p : Nat → Nat) (a b : Nat) : Prop := ∀ i j, a ≤ i → i < j → j < b → bef lt (p i) (p j)
/-- What stands in the first part came from further ahead. -/
def Low (p : Nat → Nat) (a m b : Nat) : Prop := ∀ i j, a ≤ i → i < m → m ≤ j → j < b → p i < p j
theorem Srt.one (lt : Nat → Nat → Prop) (p : Nat → Nat) (a b : Nat) (h : b ≤ a + 1) : Srt lt p a b := fun i j h1 h2 h3 => by omega
theorem Srt.sub {lt : Nat → Nat → Prop} {p : Nat → Nat} {a b c d : Nat} (h : Srt lt p a b) (h1 : a ≤ c) (h2 : d ≤ b) : Srt lt p c d := fun i j h3 h4 h5 => h i j (by omega) h4 (by omega)
theorem Srt.to {lt : Nat → Nat → Prop} (hl : Swo lt) {p : Nat → Nat} {a b i j k : Nat} (h : Srt lt p a b) (h1 : a ≤ i) (h2 : i ≤ j) (h3 : j < b) (hb : bef lt (p j) k) : bef lt (p i) k := by
  rcases Nat.lt_or_ge i j with h4 | h4
  · exact bef_trans hl (h i j h1 h4 h3) hb
  · obtain rfl : i = j := by omega
    exact hb
theorem Srt.from {lt : Nat → Nat → Prop} (hl : Swo lt) {p : Nat → Nat} {a b i j k : Nat} (h : Srt lt p a b) (h1 : a ≤ i) (h2 : i ≤ j) (h3 : j < b) (hb : bef lt k (p i)) : bef lt k (p j) := by
  rcases Nat.lt_or_ge i j with h4 | h4
  · exact bef_trans hl hb (h i j h1 h4 h3)
  · obtain rfl : i = j := by omega
    exact hb
/-- The parts behind the turn: where all of the one part come ahead of all of the other, both in order. -/
theorem rot_first (s m e k : Nat) (h1 : s ≤ k) (h2 : k < s + (e - m)) (h3 : s ≤ m) (h4 : m ≤ e) : rot s m e k = k + (m - s) := by unfold rot; rw [if_pos (by omega), if_pos h2]
theorem rot_second (s m e k : Nat) (h1 : s + (e - m) ≤ k) (h2 : k < e) (h3 : s ≤ m) (h4 : m ≤ e) : rot s m e k = k - (e - m) := by unfold rot; rw [if_pos (by omega), if_neg (by omega)]
theorem rot_out (s m e k : Nat) (h : k < s ∨ e ≤ k) : rot s m e k = k := by unfold rot; rw [if_neg (by omega)]
/-- One merge's turn: the two halves stand apart, each made of two rows in order. -/
theorem sym_parts {lt : Nat → Nat → Prop} (hl : Swo lt) {p : Nat → Nat} {a s m e b mid : Nat} (h1 : a ≤ s) (h2 : s ≤ m) (h3 : m ≤ e) (h4 : e ≤ b) (hmid : mid = s + (e - m)) (hA : Srt lt p a m) (hB : Srt lt p m b) (hLo : Low p a m b)
    (F1 : s < m → m < e → lt (p (e - 1)) (p s)) (F2 : a < s → e < b → ¬ lt (p e) (p (s - 1))) :
    (Srt lt (fun k => p (rot s m e k)) a s ∧ Srt lt (fun k => p (rot s m e k)) s mid ∧ Low (fun k => p (rot s m e k)) a s mid) ∧ (Srt lt (fun k => p (rot s m e k)) mid e ∧ Srt lt (fun k => p (rot s m e k)) e b ∧ Low (fun k => p (rot s m e k)) mid e b) ∧ ∀ x y, a ≤ x → x < mid → mid ≤ y → y < b → bef lt (p (rot s m e x)) (p (rot s m e y)) := by
  subst hmid
  refine ⟨⟨fun i j g1 g2 g3 => ?_, fun i j g1 g2 g3 => ?_, fun i j g1 g2 g3 g4 => ?_⟩, ⟨fun i j g1 g2 g3 => ?_, fun i j g1 g2 g3 => ?_, fun i j g1 g2 g3 g4 => ?_⟩, fun x y g1 g2 g3 g4 => ?_⟩
  · show bef lt (p (rot s m e i)) (p (rot s m e j))
    rw [rot_out s m e i (by omega), rot_out s m e j (by omega)]
    exact hA i j g1 g2 (by omega)
  · show bef lt (p (rot s m e i)) (p (rot s m e j))
    rw [rot_first s m e i (by omega) (by omega) h2 h3, rot_first s m e j (by omega) (by omega) h2 h3]
    exact hB _ _ (by omega) (by omega) (by omega)
  · show p (rot s m e i) < p (rot s m e j)
    rw [rot_out s m e i (by omega), rot_first s m e j (by omega) (by omega) h2 h3]
    exact hLo _ _ (by omega) (by omega) (by omega) (by omega)
  · show bef lt (p (rot s m e i)) (p (rot s m e j))
    rw [rot_second s m e i (by omega) (by omega) h2 h3, rot_second s m e j (by omega) (by omega) h2 h3]
    exact hA _ _ (by omega) (by omega) (by omega)
  · show bef lt (p (rot s m e i)) (p (rot s m e j))
    rw [rot_out s m e i (by omega), rot_out s m e j (by omega)]
    exact hB i j (by omega) g2 g3
  · show p (rot s m e i) < p (rot s m e j)
    rw [rot_second s m e i (by omega) (by omega) h2 h3, rot_out s m e j (by omega)]
    exact hLo _ _ (by omega) (by omega) (by omega) (by omega)
  · by_cases c1 : x < s
    · rw [rot_out s m e x (by omega)]
      by_cases c2 : y < e
      · rw [rot_second s m e y (by omega) (by omega) h2 h3]
        exact hA _ _ (by omega) (by omega) (by omega)
      · rw [rot_out s m e y (by omega)]
        have f2 := F2 (by omega) (by omega)
        have hb : bef lt (p (s - 1)) (p e) := .inr ⟨f2, hLo _ _ (by omega) (by omega) (by omega) (by omega)⟩
        exact hB.from hl (i := e) (by omega) (by omega) (by omega) (hA.to hl (j := s - 1) g1 (by omega) (by omega) hb)
    · rw [rot_first s m e x (by omega) (by omega) h2 h3]
      by_cases c2 : y < e
      · rw [rot_second s m e y (by omega) (by omega) h2 h3]
        have f1 := F1 (by omega) (by omega)
        exact hA.from hl (i := s) (by omega) (by omega) (by omega) (hB.to hl (j := e - 1) (by omega) (by omega) (by omega) (.inl f1))
      · rw [rot_out s m e y (by omega)]
        exact hB _ _ (by omega) (by omega) (by omega)
/-- Two halves, each put in order. -/
theorem Srt.join {lt : Nat → Nat → Prop} {p s t : Nat → Nat} {a m b : Nat} (hs : PermIn a m s) (ht : PermIn m b t) (h1 : Srt lt (fun k => p (s k)) a m) (h2 : Srt lt (fun k => p (t k)) m b) (hx : ∀ x y, a ≤ x → x < m → m ≤ y → y < b → bef lt (p x) (p y)) : Srt lt (fun k => p (s (t k))) a b := fun i j g1 g2 g3 => by
  show bef lt (p (s (t i))) (p (s (t j)))
  by_cases c1 : j < m
  · rw [ht.2.1 i (by omega), ht.2.1 j (by omega)]
    exact h1 i j g1 g2 c1
  · have hj := ht.1 j (by omega) g3
    rw [hs.2.1 (t j) (by omega)]
    by_cases c2 : i < m
    · rw [ht.2.1 i (by omega)]
      have hi := hs.1 i g1 c2
      exact hx _ _ hi.1 hi.2 hj.1 hj.2
    · have hi := ht.1 i (by omega) (by omega)
      rw [hs.2.1 (t i) (by omega)]
      exact h2 i j (by omega) g2 g3
/-- One laid into a row that stands behind it. -/
theorem ins_right {lt : Nat → Nat → Prop} (hl : Swo lt) {p : Nat → Nat} {a b i : Nat} (h1 : a + 1 ≤ i) (h2 : i ≤ b) (hB : Srt lt p (a + 1) b) (hLo : Low p a (a + 1) b) (F1 : i = a + 1 ∨ lt (p (i - 1)) (p a)) (F2 : i = b ∨ ¬ lt (p i) (p a)) : Srt lt (fun k => p (rot a (a + 1) i k)) a b := by
  obtain ⟨⟨_, q2, _⟩, ⟨q4, q5, _⟩, q7⟩ := sym_parts hl (p := p) (a := a) (s := a) (m := a + 1) (e := i) (b := b) (mid := a + (i - (a + 1))) (Nat.le_refl _) (by omega) h1 h2 rfl (Srt.one _ _ _ _ (by omega)) hB hLo (fun _ h => by rcases F1 with h' | h'; omega; exact h') (fun h => by omega)
  intro x y g1 g2 g3
  show bef lt (p (rot a (a + 1) i x)) (p (rot a (a + 1) i y))
  by_cases c1 : y < a + (i - (a + 1))
  · exact q2 x y g1 g2 c1
  · by_cases c2 : x < a + (i - (a + 1))
    · exact q7 x y g1 c2 (by omega) g3
    · by_cases c3 : y < i
      · omega
      · by_cases c4 : x < i
        · rw [rot_second a (a + 1) i x (by omega) (by omega) (by omega) h1, rot_out a (a + 1) i y (by omega)]
          have e : x - (i - (a + 1)) = a := by omega
          rw [e]
          have f2 : ¬ lt (p i) (p a) := by rcases F2 with h | h; omega; exact h
          exact hB.from hl (i := i) h1 (by omega) g3 (.inr ⟨f2, hLo _ _ (by omega) (by omega) (by omega) (by omega)⟩)
        · exact q5 x y (by omega) g2 g3
/-- One laid into a row that stands ahead of it. -/
theorem ins_left {lt : Nat → Nat → Prop} (hl : Swo lt) {p : Nat → Nat} {a m i : Nat} (h1 : a ≤ i) (h2 : i ≤ m) (hA : Srt lt p a m) (hLo : Low p a m (m + 1)) (F1 : i = m ∨ lt (p m) (p i)) (F2 : i = a ∨ ¬ lt (p m) (p (i - 1))) : Srt lt (fun k => p (rot i m (m + 1) k)) a (m + 1) := by
  intro x y g1 g2 g3
  show bef lt (p (rot i m (m + 1) x)) (p (rot i m (m + 1) y))
  by_cases c1 : x < i
  · rw [rot_out i m (m + 1) x (by omega)]
    have f2 : i = a ∨ bef lt (p (i - 1)) (p m) := by
      rcases F2 with h | h
      · exact .inl h
      · by_cases hia : i = a
        · exact .inl hia
        · exact .inr (.inr ⟨h, hLo _ _ (by omega) (by omega) (by omega) (by omega)⟩)
    by_cases c2 : y < i
    · rw [rot_out i m (m + 1) y (by omega)]
      exact hA x y g1 g2 (by omega)
    · by_cases c3 : y = i
      · subst c3
        rw [rot_first y m (m + 1) y (by omega) (by omega) h2 (by omega), show y + (m - y) = m by omega]
        rcases f2 with h | h
        · omega
        · exact hA.to hl (j := y - 1) g1 (by omega) (by omega) h
      · rw [rot_second i m (m + 1) y (by omega) (by omega) h2 (by omega)]
        exact hA _ _ g1 (by omega) (by omega)
  · by_cases c3 : x = i
    · subst c3
      rw [rot_first x m (m + 1) x (by omega) (by omega) h2 (by omega), show x + (m - x) = m by omega, rot_second x m (m + 1) y (by omega) (by omega) h2 (by omega)]
      have f1 : lt (p m) (p x) := by rcases F1 with h | h; omega; exact h
      exact hA.from hl (i := x) h1 (by omega) (by omega) (.inl f1)
    · rw [rot_second i m (m + 1) x (by omega) (by omega) h2 (by omega), rot_second i m (m + 1) y (by omega) (by omega) h2 (by omega)]
      exact hA _ _ (by omega) (by omega) (by omega)
end Go.Hay
end

section
namespace Go.Proofs.Ytohkjikhlakglaa
open Go.RowKit Go.Hay
set_option linter.unusedVariables false
set_option linter.unusedSimpArgs false

/-- Where one is laid in: behind all that it is not ahead of. -/
def insP (lt : Nat → Nat → Prop) [∀ x y, Decidable (lt x y)] (v : Nat) (L : List Nat) : Nat → Nat
  | 0 => 0
  | k + 1 => if lt v (L.getD k 0) then insP lt v L k else k + 1
def insI (lt : Nat → Nat → Prop) [∀ x y, Decidable (lt x y)] (v : Nat) (L : List Nat) : List Nat := L.take (insP lt v L L.length) ++ v :: L.drop (insP lt v L L.length)
theorem insP_le (lt : Nat → Nat → Prop) [∀ x y, Decidable (lt x y)] (v : Nat) (L : List Nat) : ∀ k, insP lt v L k ≤ k
  | 0 => Nat.le_refl _
  | k + 1 => by
    unfold insP
    have := insP_le lt v L k
    split <;> omega
theorem insP_lt (lt : Nat → Nat → Prop) [∀ x y, Decidable (lt x y)] (v : Nat) (L : List Nat) : ∀ k j, insP lt v L k ≤ j → j < k → lt v (L.getD j 0)
  | 0, j, _, h => by omega
  | k + 1, j, h1, h2 => by
    unfold insP at h1
    split at h1
    · rename_i hl
      by_cases e : j = k
      · rw [e]; exact hl
      · exact insP_lt lt v L k j h1 (by omega)
    · omega
theorem insP_ge (lt : Nat → Nat → Prop) [∀ x y, Decidable (lt x y)] (v : Nat) (L : List Nat) : ∀ k, insP lt v L k = 0 ∨ ¬ lt v (L.getD (insP lt v L k - 1) 0)
  | 0 => .inl rfl
  | k + 1 => by
    unfold insP
    split
    · exact insP_ge lt v L k
    · rename_i hl
      exact .inr (by simpa using hl)
/-- The row stays in order. -/
theorem insI_sorted {lt : Nat → Nat → Prop} [∀ x y, Decidable (lt x y)] (hl : Swo lt) (v : Nat) (L : List Nat) (hs : L.Pairwise (bef lt)) (hv : ∀ y ∈ L, y < v) : (insI lt v L).Pairwise (bef lt) := by
  have h0 := insP_le lt v L L.length
  have h1 := insP_lt lt v L L.length
  have h2 := insP_ge lt v L L.length
  unfold insI
  generalize insP lt v L L.length = k at *
  have hp := List.pairwise_iff_getElem.1 hs
  rw [List.pairwise_append]
  refine ⟨hs.sublist (List.take_sublist _ _), ?_, fun x hx y hy => ?_⟩
  · rw [List.pairwise_cons]
    refine ⟨fun y hy => ?_, hs.sublist (List.drop_sublist _ _)⟩
    obtain ⟨j, hj, e⟩ := List.mem_iff_getElem.1 hy
    rw [List.getElem_drop] at e
    rw [List.length_drop] at hj
    have h3 := h1 (k + j) (by omega) (by omega)
    rw [List.getD_eq_getElem?_getD, List.getElem?_eq_getElem (by omega), Option.getD_some, e] at h3
    exact .inl h3
  · obtain ⟨i, hi, e⟩ := List.mem_iff_getElem.1 hx
    rw [List.getElem_take] at e
    rw [List.length_take] at hi
    have hk : ¬ lt v (L.getD (k - 1) 0) := by rcases h2 with h | h; omega; exact h
    rw [List.getD_eq_getElem?_getD, List.getElem?_eq_getElem (show k - 1 < L.length by omega), Option.getD_some] at hk
    have hb : bef lt L[k - 1] v := .inr ⟨hk, hv _ (List.getElem_mem _)⟩
    have hxv : bef lt x v := by
      by_cases c : i = k - 1
      · subst c; rw [← e]; exact hb
      · rw [← e]; exact bef_trans hl (hp i (k - 1) (by omega) (by omega) (by omega)) hb
    rcases List.mem_cons.1 hy with rfl | hy
    · exact hxv
    · obtain ⟨j, hj, e2⟩ := List.mem_iff_getElem.1 hy
      rw [List.getElem_drop] at e2
      rw [List.length_drop] at hj
      rw [← e, ← e2]
      exact hp i (k + j) (by omega) (by omega) (by omega)
theorem insI_perm (lt : Nat → Nat → Prop) [∀ x y, Decidable (lt x y)] (v : Nat) (L : List Nat) : (insI lt v L).Perm (L ++ [v]) := by
  unfold insI
  generalize insP lt v L L.length = k
  have h1 : (L.take k ++ v :: L.drop k).Perm (v :: (L.take k ++ L.drop k)) := List.perm_middle
  rw [List.take_append_drop] at h1
  exact h1.trans (List.perm_append_comm (l₁ := [v]) (l₂ := L))
/-- All laid in, one by one. -/
def srtI (lt : Nat → Nat → Prop) [∀ x y, Decidable (lt x y)] : Nat → List Nat
  | 0 => []
  | n + 1 => insI lt n (srtI lt n)
theorem srtI_perm (lt : Nat → Nat → Prop) [∀ x y, Decidable (lt x y)] : ∀ n, (srtI lt n).Perm (List.range n)
  | 0 => List.Perm.refl _
  | n + 1 => by
    rw [srtI, List.range_succ]
    exact (insI_perm lt n _).trans ((srtI_perm lt n).append_right [n])
theorem srtI_sorted {lt : Nat → Nat → Prop} [∀ x y, Decidable (lt x y)] (hl : Swo lt) : ∀ n, (srtI lt n).Pairwise (bef lt)
  | 0 => List.Pairwise.nil
  | n + 1 => insI_sorted hl n _ (srtI_sorted hl n) (fun y hy => by have := (srtI_perm lt n).mem_iff.1 hy; simpa using this)
theorem perm_of_sub : ∀ (l m : List Nat), l.Nodup → (∀ x ∈ l, x ∈ m) → m.length ≤ l.length → l.Perm m
  | [], m, _, _, h => by
    have : m = [] := List.length_eq_zero_iff.1 (Nat.le_zero.1 h)
    rw [this]
  | a :: l, m, hn, hs, h => by
    have ha : a ∈ m := hs a (List.mem_cons_self ..)
    have hn' := List.nodup_cons.1 hn
    have h1 : l.Perm (m.erase a) := perm_of_sub l (m.erase a) hn'.2 (fun x hx => by
      have hne : x ≠ a := fun e => hn'.1 (e ▸ hx)
      exact (List.mem_erase_of_ne hne).2 (hs x (List.mem_cons_of_mem _ hx))) (by
      rw [List.length_erase_of_mem ha]; simp only [List.length_cons] at h; omega)
    exact (h1.cons a).trans (List.perm_cons_erase ha).symm
/-- What is sorted stably is that row. -/
theorem sorted_eq {lt : Nat → Nat → Prop} [∀ x y, Decidable (lt x y)] (hl : Swo lt) {n : Nat} {s : Nat → Nat} (hp : PermIn 0 n s) (hs : Srt lt s 0 n) : (List.range n).map s = srtI lt n := by
  have h1 : ((List.range n).map s).Pairwise (bef lt) := by
    rw [List.pairwise_map]
    refine List.Pairwise.imp_of_mem (R := fun a b => a < b) (fun {a b} ha hb hab => ?_) List.pairwise_lt_range
    exact hs a b (Nat.zero_le _) hab (List.mem_range.1 hb)
  have hnd : ((List.range n).map s).Nodup := by
    unfold List.Nodup
    rw [List.pairwise_map]
    exact List.Pairwise.imp (fun {a b} hab e => hab (hp.2.2 _ _ e)) List.nodup_range
  have h2 : ((List.range n).map s).Perm (List.range n) := by
    refine perm_of_sub _ _ hnd ?_ (by simp)
    intro y hy
    obtain ⟨k, hk, rfl⟩ := List.mem_map.1 hy
    exact List.mem_range.2 (hp.1 k (Nat.zero_le _) (List.mem_range.1 hk)).2
  refine List.Perm.eq_of_pairwise (le := bef lt) (fun a b _ _ h3 h4 => (bef_asym hl h3 h4).elim) h1 (srtI_sorted hl n) (h2.trans (srtI_perm lt n).symm)
end Go.Proofs.Ytohkjikhlakglaa
end

section
namespace Go.Proofs.Ytohkjikhlakglaa
open Go.RowKit Go.Hay
attribute [local go_sem] Oper.semAt_some
set_option linter.unusedVariables false
set_option linter.unusedSimpArgs false

theorem dir_neg (d : Bool) (k : Int) : dirC d (-k) = -dirC d k := by cases d <;> simp [dirC]
theorem dir_zero (d : Bool) (k : Int) : dirC d k = 0 ↔ k = 0 := by cases d <;> simp [dirC]
theorem dirc_neg (d : Bool) (a b : Val) : dirC d (cmpV b a) = -dirC d (cmpV a b) := by rw [cmp_neg a b, dir_neg]
theorem dirc_trans (d : Bool) (a b c : Val) (h : dirC d (cmpV a b) ≤ 0) (k : dirC d (cmpV b c) ≤ 0) : dirC d (cmpV a c) ≤ 0 := by
  cases d with
  | false => exact cmp_trans a b c h k
  | true =>
    simp only [dirC, if_true] at h k ⊢
    have h1 := cmp_neg a b
    have h2 := cmp_neg b c
    have h3 := cmp_neg a c
    have := cmp_trans c b a (by omega) (by omega)
    omega
theorem cmpO_neg : ∀ (os : List (Int × Bool)) (x y : List Val), cmpO os y x = -cmpO os x y
  | [], x, y => rows_neg x y
  | q :: os, x, y => by
    have h := dirc_neg q.2 (vAt x q.1) (vAt y q.1)
    have ih := cmpO_neg os x y
    unfold cmpO
    by_cases h0 : dirC q.2 (cmpV (vAt x q.1) (vAt y q.1)) = 0
    · rw [if_pos h0, if_pos (by omega), ih]
    · rw [if_neg h0, if_neg (by omega), h]
theorem cmpO_trans : ∀ (os : List (Int × Bool)) (x y z : List Val), cmpO os x y ≤ 0 → cmpO os y z ≤ 0 → cmpO os x z ≤ 0
  | [], x, y, z, h1, h2 => rows_trans x y z h1 h2
  | q :: os, x, y, z, h1, h2 => by
    have ih := cmpO_trans os x y z
    unfold cmpO at h1 h2 ⊢
    generalize vAt x q.1 = a at *
    generalize vAt y q.1 = b at *
    generalize vAt z q.1 = c at *
    have n1 := dirc_neg q.2 a b
    have n2 := dirc_neg q.2 b c
    have n3 := dirc_neg q.2 a c
    have hab : dirC q.2 (cmpV a b) ≤ 0 := by
      by_cases e1 : dirC q.2 (cmpV a b) = 0
      · omega
      · rw [if_neg e1] at h1; omega
    have hbc : dirC q.2 (cmpV b c) ≤ 0 := by
      by_cases e1 : dirC q.2 (cmpV b c) = 0
      · omega
      · rw [if_neg e1] at h2; omega
    have hac := dirc_trans q.2 a b c hab hbc
    by_cases e3 : dirC q.2 (cmpV a c) = 0
    · have hca : dirC q.2 (cmpV c a) ≤ 0 := by omega
      have hcb := dirc_trans q.2 c a b hca hab
      have hba := dirc_trans q.2 b c a hbc hca
      rw [if_pos (by omega)] at h1
      rw [if_pos (by omega)] at h2
      rw [if_pos e3]
      exact ih h1 h2
    · rw [if_neg e3]
      exact hac
theorem cmpO_swo (os : List (Int × Bool)) (f : Nat → List Val) : Swo (fun x y => cmpO os (f x) (f y) < 0) where
  asym x y h := by
    have := cmpO_neg os (f x) (f y)
    show ¬ cmpO os (f y) (f x) < 0
    have h' : cmpO os (f x) (f y) < 0 := h
    omega
  ntr x y z h1 h2 := by
    have n1 := cmpO_neg os (f x) (f y)
    have n2 := cmpO_neg os (f y) (f z)
    have n3 := cmpO_neg os (f x) (f z)
    have h1' : ¬ cmpO os (f x) (f y) < 0 := h1
    have h2' : ¬ cmpO os (f y) (f z) < 0 := h2
    have := cmpO_trans os (f z) (f y) (f x) (by omega) (by omega)
    show ¬ cmpO os (f x) (f z) < 0
    omega
def ltO (os : List (Int × Bool)) (R : List (List Val)) (x y : Nat) : Prop := cmpO os (R.getD x []) (R.getD y []) < 0
instance (os : List (Int × Bool)) (R : List (List Val)) : ∀ x y, Decidable (ltO os R x y) := fun x y => by unfold ltO; infer_instance
theorem ltO_swo (os : List (Int × Bool)) (R : List (List Val)) : Swo (ltO os R) := cmpO_swo os (fun x => R.getD x [])
/-- Rows, sorted stably. -/
def srtO (os : List (Int × Bool)) (R : List (List Val)) : List (List Val) := (srtI (ltO os R) R.length).map fun i => R.getD i []
set_option maxHeartbeats 4000000 in
set_option maxRecDepth 100000 in
theorem cSortC (x y : Vs) (q : Nat) (oa : Option Addr) (oc : Nat) (os : List (Int × Bool)) (w : World) (hx : x.lies w) (hy : y.lies w) (ho : OrE.See w oa os) (hol : os.length ≤ 4000000000000) (hb : w.cell? ⟨q, 0, none⟩ = some (.slice oa os.length oc)) :
    Calls Try.prog 38 #[.slice x.a x.l.length x.c, .slice y.a y.l.length y.c, .pointer (some ⟨q, 0, none⟩)] w fun e w' => e = .returned (.int .i64 (cmpO os x.l y.l)) ∧ Kp [] w w' := by
  have cC := hid (cCmpO x y oa oc os w hx hy ho hol)
  clear hx hy ho
  go_enter Try.func38, Try.ntmps38
  go_wp2_with fail
  refine cC.out.mono ?_
  rintro e w2 ⟨rfl, k2⟩
  have K2 := hid k2
  clear cC k2
  go_wp2_with fail
  go_ret
  exact ⟨rfl, K2.out⟩
end Go.Proofs.Ytohkjikhlakglaa
end

section
namespace Go.Proofs.Ytohkjikhlakglaa
open Go.RowKit Go.Hay
set_option linter.unusedVariables false
set_option linter.unusedSimpArgs false

def ltR (on : Int) (R : List (List Val)) (x y : Nat) : Prop := cmpV (vAt (R.getD x []) on) (vAt (R.getD y []) on) < 0
instance (on : Int) (R : List (List Val)) : ∀ x y, Decidable (ltR on R x y) := fun x y => by unfold ltR; infer_instance
theorem cmpSwo (f : Nat → Val) : Swo (fun x y => cmpV (f x) (f y) < 0) where
  asym x y h h2 := by rw [cmp_neg (f x) (f y)] at h2; omega
  ntr x y z h1 h2 h3 := by
    have a1 : cmpV (f y) (f x) ≤ 0 := by rw [cmp_neg (f x) (f y)]; omega
    have a2 : cmpV (f z) (f y) ≤ 0 := by rw [cmp_neg (f y) (f z)]; omega
    have a3 := cmp_trans _ _ _ a2 a1
    rw [cmp_neg (f x) (f z)] at a3
    omega
theorem ltR_swo (on : Int) (R : List (List Val)) : Swo (ltR on R) := cmpSwo (fun x => vAt (R.getD x []) on)
/-- Rows, sorted stably by a column. -/
def srtR (on : Int) (R : List (List Val)) : List (List Val) := (srtI (ltR on R) R.length).map fun i => R.getD i []
theorem srtR_len (on : Int) (R : List (List Val)) : (srtR on R).length = R.length := by
  unfold srtR
  rw [List.length_map, (srtI_perm (ltR on R) R.length).length_eq, List.length_range]
theorem getR (R : List (List Val)) : R = (List.range R.length).map fun i => R.getD i [] := by
  apply List.ext_getElem?
  intro k
  by_cases h : k < R.length
  · simp [h]
  · rw [List.getElem?_eq_none (by omega), List.getElem?_eq_none (by simp; omega)]
theorem srtR_perm (on : Int) (R : List (List Val)) : (srtR on R).Perm R := by
  have h := (srtI_perm (ltR on R) R.length).map (fun i => R.getD i [])
  rw [← getR] at h
  exact h
theorem srtR_mono (on : Int) (R : List (List Val)) : (srtR on R).Pairwise fun a b => cmpV (vAt a on) (vAt b on) ≤ 0 := by
  unfold srtR
  rw [List.pairwise_map]
  refine (srtI_sorted (ltR_swo on R) R.length).imp fun {a b} h => ?_
  have h2 : ¬ ltR on R b a := by
    rcases h with h | h
    · exact (ltR_swo on R).asym _ _ h
    · exact h.1
  unfold ltR at h2
  rw [cmp_neg (vAt (R.getD a []) on)] at h2
  omega
/-- Those that are alike keep their order. -/
theorem srtR_filter (on : Int) (R : List (List Val)) (v : Val) : (srtR on R).filter (fun r => cmpV (vAt r on) v == 0) = R.filter (fun r => cmpV (vAt r on) v == 0) := by
  have e : (srtI (ltR on R) R.length).filter (fun i => cmpV (vAt (R.getD i []) on) v == 0) = (List.range R.length).filter (fun i => cmpV (vAt (R.getD i []) on) v == 0) := by
    refine List.Perm.eq_of_pairwise (le := fun a b => a < b) (fun a b _ _ h1 h2 => by omega) ?_ (List.Pairwise.filter _ List.pairwise_lt_range) ((srtI_perm (ltR on R) R.length).filter _)
    rw [List.pairwise_filter]
    refine (srtI_sorted (ltR_swo on R) R.length).imp fun {a b} h ha hb => ?_
    have h1 : cmpV (vAt (R.getD a []) on) v = 0 := by simpa using ha
    have h2 : cmpV (vAt (R.getD b []) on) v = 0 := by simpa using hb
    rcases h with h | h
    · unfold ltR at h
      have h3 := cmp_strict _ _ _ h (by omega : cmpV (vAt (R.getD b []) on) v ≤ 0)
      omega
    · exact h.2
  conv => rhs; rw [getR R]
  unfold srtR
  rw [List.filter_map, List.filter_map]
  exact congrArg (List.map fun i => R.getD i []) e
theorem cmp_kind {a b : Val} (h : cmpV a b = 0) : a.k = b.k := by
  obtain ⟨h1, h2⟩ := (cmp_zero a b).1 h
  unfold Val.lt at h1 h2
  by_cases e : a.k = b.k
  · exact e
  · have e' : ¬ b.k = a.k := fun h => e h.symm
    simp [e, e'] at h1 h2
    omega
/-- The join, by definition. -/
def refJ (RL RR : List (List Val)) (lo ro : Int) : List (List Val) := RL.flatMap fun x => (RR.filter fun r => (vAt x lo).k != 0 && (vAt r ro).k != 0 && cmpV (vAt x lo) (vAt r ro) == 0).map (x ++ ·)
theorem joinR_ref (RL RR : List (List Val)) (lo ro : Int) : joinR RL (srtR ro (ordR ro RR)) lo ro = refJ RL RR lo ro := by
  unfold joinR refJ
  congr 1
  funext x
  unfold fJ
  rw [srtR_filter]
  unfold ordR
  rw [List.filter_filter]
  congr 1
  congr 1
  funext r
  have hs : (cmpV (vAt r ro) (vAt x lo) == 0) = (cmpV (vAt x lo) (vAt r ro) == 0) := by
    rw [cmp_neg (vAt x lo) (vAt r ro)]
    by_cases h : cmpV (vAt x lo) (vAt r ro) = 0
    · simp [h]
    · have : ¬ -cmpV (vAt x lo) (vAt r ro) = 0 := by omega
      rw [beq_eq_false_iff_ne.2 this, beq_eq_false_iff_ne.2 h]
  rw [hs]
  by_cases h : cmpV (vAt x lo) (vAt r ro) = 0
  · have hk := cmp_kind h
    rw [hk]
    cases hb : (vAt r ro).k == 0 <;> simp [bne, hb, h]
  · rw [beq_eq_false_iff_ne.2 h, Bool.and_false, Bool.false_and]
end Go.Proofs.Ytohkjikhlakglaa
end

section
namespace Go.Proofs.Ytohkjikhlakglaa
open Go.RowKit Go.Hay
set_option linter.unusedVariables false
set_option linter.unusedSimpArgs false

/-- A version. -/
structure Vr where
  e : Int
  n : Int
  a : Option Addr
  c : Nat
  l : List Val
  d : Int
instance : Inhabited Vr := ⟨⟨0, 0, none, 0, [], 0⟩⟩
def Vr.v (x : Vr) : Value := .agg #[.int .u64 x.e, .int .u32 x.n, .slice x.a x.l.length x.c, .int .u64 x.d]
def VrE : El Vr where
  n := 4
  c x := [.int .u64 x.e, .int .u32 x.n, .slice x.a x.l.length x.c, .int .u64 x.d]
  len _ := rfl
  one _ u hu := by simp at hu; rcases hu with rfl | rfl | rfl | rfl <;> rfl
  pos := by decide
theorem vrAt {w : World} {a : Option Addr} {l : List Vr} (h : VrE.See w a l) {j : Nat} {x : Vr} (hx : l[j]? = some x) : ∃ g o, a = some ⟨g, o, none⟩ ∧ w.cell? ⟨g, o + j * 4, none⟩ = some (.int .u64 x.e) ∧ w.cell? ⟨g, o + j * 4 + 1, none⟩ = some (.int .u32 x.n) ∧ w.cell? ⟨g, o + j * 4 + 2, none⟩ = some (.slice x.a x.l.length x.c) ∧ w.cell? ⟨g, o + j * 4 + 3, none⟩ = some (.int .u64 x.d) := by
  obtain ⟨g, o, rfl, hc⟩ := h.at hx
  exact ⟨g, o, rfl, hc 0 _ rfl, hc 1 _ rfl, hc 2 _ rfl, hc 3 _ rfl⟩
end Go.Proofs.Ytohkjikhlakglaa
end

section
namespace Go.Proofs.Ytohkjikhlakglaa
open Go.RowKit Go.Hay
attribute [local go_sem] Oper.semAt_some
set_option linter.unusedVariables false
set_option linter.unusedSimpArgs false

abbrev Vr.r (x : Vr) : Vs := ⟨x.a, x.c, x.l⟩
def Vr.pr (x : Vr) : Int × Int × List Val × Int := (x.e, x.n, x.l, x.d)
structure Vr.lies (w : World) (x : Vr) : Prop where
  r : x.r.lies w
  e : 0 ≤ x.e ∧ x.e < 18446744073709551616
  n : 0 ≤ x.n ∧ x.n < 4294967296
theorem Vr.lies.ck {P : Nat → Prop} {X Y : World} {x : Vr} (hx : Vr.lies X x) (h : CK P X Y) (hP : ∀ k ∈ blk x.a, P k) : Vr.lies Y x := ⟨hx.r.ck h hP, hx.e, hx.n⟩
/-- Versions that were gathered: all blocks from N on, their rows apart from the row of versions. -/
structure Lov (N : Nat) (ra : Option Addr) (rc : Nat) (L : List Vr) (W : World) : Prop where
  row : VrE.Row W (.slice ra L.length rc) L
  lies : ∀ x ∈ L, Vr.lies W x
  own : ∀ k ∈ blk ra, N ≤ k
  rows : ∀ x ∈ L, ∀ k ∈ blk x.a, N ≤ k ∧ k < W.heap.size ∧ k ∉ blk ra
theorem Lov.nil (N : Nat) (W : World) : Lov N none 0 [] W := ⟨.inl ⟨rfl, rfl⟩, by simp, by simp [blk], by simp⟩
theorem Lov.ck {N : Nat} {ra : Option Addr} {rc : Nat} {L : List Vr} {P : Nat → Prop} {X Y : World} (h : Lov N ra rc L X) (k : CK P X Y) (h1 : ∀ k ∈ blk ra, P k) (h2 : ∀ x ∈ L, ∀ k ∈ blk x.a, P k) : Lov N ra rc L Y :=
  ⟨ckRow k h.row h1, fun x hx => (h.lies x hx).ck k (h2 x hx), h.own, fun x hx j hj => ⟨(h.rows x hx j hj).1, Nat.lt_of_lt_of_le (h.rows x hx j hj).2.1 k.1, (h.rows x hx j hj).2.2⟩⟩
theorem Lov.lt {N : Nat} {ra : Option Addr} {rc : Nat} {L : List Vr} {X : World} (h : Lov N ra rc L X) : ∀ k ∈ blk ra, k < X.heap.size := fun k hk => h.row.lt k (by rw [ownV]; exact hk)
theorem Lov.mono {N M : Nat} {ra : Option Addr} {rc : Nat} {L : List Vr} {X : World} (h : Lov N ra rc L X) (hm : M ≤ N) : Lov M ra rc L X :=
  ⟨h.row, h.lies, fun k hk => Nat.le_trans hm (h.own k hk), fun x hx k hk => ⟨Nat.le_trans hm (h.rows x hx k hk).1, (h.rows x hx k hk).2⟩⟩
/-- Versions joined by their names. -/
def rejO (B : List Vr) (a : Vr) : Option (Int × Int × List Val × Int) := (B.find? fun b => decide ((b.e, b.n) = (a.e, a.n))).map fun b => (a.e, a.n, a.l ++ b.l, a.d)
def rejR (A B : List Vr) : List (Int × Int × List Val × Int) := A.filterMap (rejO B)
theorem rejR_snoc {A B : List Vr} {j : Nat} (h : j < A.length) : rejR (A.take (j + 1)) B = rejR (A.take j) B ++ (rejO B A[j]).toList := by
  unfold rejR
  rw [List.take_succ_eq_append_getElem h, List.filterMap_append]
  cases hc : rejO B A[j] <;> simp [hc]
def LovP (R : List (Int × Int × List Val × Int)) (w : World) (e : Ending) (w' : World) : Prop := ∃ ra rc L, e = .returned (.slice ra L.length rc) ∧ Lov w.heap.size ra rc L w' ∧ L.map Vr.pr = R ∧ Kp [] w w'
end Go.Proofs.Ytohkjikhlakglaa
end

section
namespace Go.Proofs.Ytohkjikhlakglaa
open Go.RowKit Go.Hay
attribute [local go_sem] Oper.semAt_some
set_option linter.unusedVariables false
set_option linter.unusedSimpArgs false

set_option maxHeartbeats 8000000 in
set_option maxRecDepth 100000 in
theorem rAtE (a : Option Addr) (c : Nat) (l : List Val) (n : Int) (w : World) (ha : Vals w a l) (hl : l.length ≤ 9223372036854775807) : Calls Try.prog 52 #[.slice a l.length c, .int .i64 n] w fun e w' => e = .returned (.agg #[.int .i64 (vAt l n).k, .bool (vAt l n).b, .int .i64 (vAt l n).n, .string (vAt l n).t]) ∧ Kp [] w w' := by
  obtain ⟨q, W1, eq, e1, b1, k1⟩ : ∃ q W1, w.heap.size = q ∧ w.alloc (.cells #[.int .i64 0, .bool false, .int .i64 0, .string ⟨#[]⟩] 47) = W1 ∧ Bn W1 q [.int .i64 0, .bool false, .int .i64 0, .string ⟨#[]⟩] ∧ Kp [] w W1 := ⟨_, _, rfl, rfl, Bn.new w _ _, (Kp.refl _ _).alloc _⟩
  have hset : ∀ (W : World) (v : Val), Bn W q [.int .i64 0, .bool false, .int .i64 0, .string ⟨#[]⟩] → Kp [] w W → ∃ W2, (((W.setCell ⟨q, 0, none⟩ (.int .i64 v.k)).setCell ⟨q, 1, none⟩ (.bool v.b)).setCell ⟨q, 2, none⟩ (.int .i64 v.n)).setCell ⟨q, 3, none⟩ (.string v.t) = W2 ∧ Bn W2 q [.int .i64 v.k, .bool v.b, .int .i64 v.n, .string v.t] ∧ Kp [] w W2 := fun W v b k =>
    have h : q ∈ ([] : List Nat) ∨ w.heap.size ≤ q := .inr (by omega)
    ⟨_, rfl, (((b.set 0 (by simp) (.int .i64 v.k)).set 1 (by simp) (.bool v.b)).set 2 (by simp) (.int .i64 v.n)).set 3 (by simp) (.string v.t), (((k.setCell h _).setCell h _).setCell h _).setCell h _⟩
  by_cases hin : 0 ≤ n ∧ n < (l.length : Int)
  · obtain ⟨i, rfl⟩ := Int.eq_ofNat_of_zero_le hin.1
    have hi : i < l.length := by omega
    rw [vAt_in l i hi]
    obtain ⟨g, o, rfl, c0, c1, c2, c3⟩ := (ha.kept k1).at i hi
    obtain ⟨v, hv⟩ : ∃ v, l[i] = v := ⟨_, rfl⟩
    rw [hv] at c0 c1 c2 c3 ⊢
    obtain ⟨W2, e2, b2, k2⟩ := hset W1 v b1 k1
    have m0 := b1.get 0 _ rfl; have m1 := b1.get 1 _ rfl; have m2 := b1.get 2 _ rfl; have m3 := b1.get 3 _ rfl
    have f0 := b1.free 0; have f1 := b1.free 1; have f2 := b1.free 2; have f3 := b1.free 3
    have v0 := b2.get 0 _ rfl; have v1 := b2.get 1 _ rfl; have v2 := b2.get 2 _ rfl; have v3 := b2.get 3 _ rfl
    obtain ⟨vk, vb, vn, vt⟩ := v
    dsimp only at *
    have d1 : decide ((i : Int) < 0) = false := by simp
    have d2 : decide ((l.length : Int) ≤ (i : Int)) = false := by simp; omega
    have d2n : decide (l.length ≤ i) = false := by simp; omega
    have d3 : (0 : Int) ≤ (i : Int) := by omega
    have d4 : (i : Int) < (l.length : Int) := by omega
    clear b1 b2 hset ha hv hin k1
    go_enter Try.func52, Try.ntmps52
    go_wp2_with fail
    exact bodyPost_ret (v := .agg #[.int .i64 vk, .bool vb, .int .i64 vn, .string vt]) (by simp [results, Try.results52, go_sem, v0, v1, v2, v3]) rfl ⟨rfl, k2⟩
  · rw [vAt_out l n hin]
    obtain ⟨W2, e2, b2, k2⟩ := hset W1 nulV b1 k1
    have m0 := b1.get 0 _ rfl; have m1 := b1.get 1 _ rfl; have m2 := b1.get 2 _ rfl; have m3 := b1.get 3 _ rfl
    have f0 := b1.free 0; have f1 := b1.free 1; have f2 := b1.free 2; have f3 := b1.free 3
    have v0 := b2.get 0 _ rfl; have v1 := b2.get 1 _ rfl; have v2 := b2.get 2 _ rfl; have v3 := b2.get 3 _ rfl
    dsimp only [nulV] at *
    by_cases h0 : n < 0
    · have d1 : decide (n < 0) = true := by simpa using h0
      clear b1 b2 k1 hset h0 hin
      go_enter Try.func52, Try.ntmps52
      go_wp2_with fail
      exact bodyPost_ret (v := .agg #[.int .i64 0, .bool false, .int .i64 0, .string ⟨#[]⟩]) (by simp [results, Try.results52, go_sem, v0, v1, v2, v3]) rfl ⟨rfl, k2⟩
    · have d1 : decide (n < 0) = false := by simpa using h0
      have d2 : decide ((l.length : Int) ≤ n) = true := by simp; omega
      clear b1 b2 k1 hset h0 hin
      go_enter Try.func52, Try.ntmps52
      go_wp2_with fail
      exact bodyPost_ret (v := .agg #[.int .i64 0, .bool false, .int .i64 0, .string ⟨#[]⟩]) (by simp [results, Try.results52, go_sem, v0, v1, v2, v3]) rfl ⟨rfl, k2⟩
def prJ (lo ro : Int) (x r : List Val) : Bool := (vAt x lo).k != 0 && (vAt r ro).k != 0 && cmpV (vAt x lo) (vAt r ro) == 0
theorem refJ_eq (RL RR : List (List Val)) (lo ro : Int) : refJ RL RR lo ro = RL.flatMap fun x => (RR.filter (prJ lo ro x)).map (x ++ ·) := rfl
theorem refJ_snoc {L : List Vs} {RR : List (List Val)} {lo ro : Int} {j : Nat} (h : j < L.length) : refJ ((L.take (j + 1)).map (·.l)) RR lo ro = refJ ((L.take j).map (·.l)) RR lo ro ++ (RR.filter (prJ lo ro L[j].l)).map (L[j].l ++ ·) := by
  rw [refJ_eq, refJ_eq, List.take_succ_eq_append_getElem h, List.map_append, List.flatMap_append]
  simp
theorem filtJ_snoc {M : List Vs} {p : List Val → Bool} {k : Nat} (h : k < M.length) : ((M.take (k + 1)).map (·.l)).filter p = ((M.take k).map (·.l)).filter p ++ (if p M[k].l then [M[k].l] else []) := by
  rw [List.take_succ_eq_append_getElem h, List.map_append, List.filter_append]
  by_cases hp : p M[k].l <;> simp [hp]
end Go.Proofs.Ytohkjikhlakglaa
end

section
namespace Go.Proofs.Ytohkjikhlakglaa
open Go.RowKit Go.Hay
attribute [local go_sem] Oper.semAt_some
set_option linter.unusedVariables false
set_option linter.unusedSimpArgs false

set_option maxHeartbeats 16000000 in
set_option maxRecDepth 100000 in
theorem rAhead (x y : Vs) (oa : Option Addr) (oc : Nat) (os : List (Int × Bool)) (w : World) (hx : x.lies w) (hy : y.lies w) (ho : OrE.See w oa os) (hol : os.length ≤ 4000000000000) :
    Calls Try.prog 40 #[.slice x.a x.l.length x.c, .slice y.a y.l.length y.c, .slice oa os.length oc] w fun e w' => e = .returned (.bool (decide (cmpO os x.l y.l < 0))) ∧ Kp [] w w' := by
  obtain ⟨xa, xc, xl⟩ := x
  obtain ⟨ya, yc, yl⟩ := y
  have h1 := hx.cap; have h2 := hx.most; have h3 := hy.cap; have h4 := hy.most
  unfold maxLen at h2 h4
  dsimp only at *
  have HX := hid hx
  have HY := hid hy
  have HO := hid ho
  obtain ⟨Z, hZ⟩ : ∃ Z, Hid (cmpO os xl yl = Z) := ⟨_, rfl⟩
  rw [hZ.out]
  clear hx hy ho
  go_enter Try.func40, Try.ntmps40
  go_wp2_with fail
  go_loopw [7] (fun i wr => ∃ j : Nat, j ≤ os.length ∧ i = .int .i64 (j : Int) ∧ Hid (cmpO (os.drop j) xl yl = Z) ∧ Hid (Kp [] w wr)) (fun i _ => os.length - (intOf i).toNat)
  case atStart => exact ⟨0, Nat.zero_le _, rfl, hZ, Kp.refl _ _⟩
  case round =>
    obtain ⟨j, hj, rfl, hz, H⟩ := hrel
    by_cases hlt : j < os.length
    · obtain ⟨g, o, ea, c0, c1⟩ := orAt HO.out j hlt
      have hdr := hid (cmpO_drop os xl yl j hlt)
      obtain ⟨p, hp⟩ : ∃ p, Hid (os[j] = p) := ⟨os[j], rfl⟩
      rw [hp.out] at c0 c1 hdr
      obtain ⟨col, dn⟩ := p
      dsimp only at c0 c1 hdr
      have hS : Hid (∀ A, Kp [] w A → A.cell? ⟨g, o + j * 2, none⟩ = some (.int .i64 col) ∧ A.cell? ⟨g, o + j * 2 + 1, none⟩ = some (.bool dn)) := fun A k => ⟨kpAt k c0, kpAt k c1⟩
      have cA : Hid (∀ A, Kp [] w A → Calls Try.prog 52 #[.slice xa xl.length xc, .int .i64 col] A fun e w' => e = .returned (.agg #[.int .i64 (vAt xl col).k, .bool (vAt xl col).b, .int .i64 (vAt xl col).n, .string (vAt xl col).t]) ∧ Kp [] A w') := fun A k => rAtE xa xc xl col A (HX.out.see.kept k) (by omega)
      have cB : Hid (∀ A, Kp [] w A → Calls Try.prog 52 #[.slice ya yl.length yc, .int .i64 col] A fun e w' => e = .returned (.agg #[.int .i64 (vAt yl col).k, .bool (vAt yl col).b, .int .i64 (vAt yl col).n, .string (vAt yl col).t]) ∧ Kp [] A w') := fun A k => rAtE ya yc yl col A (HY.out.see.kept k) (by omega)
      obtain ⟨⟨uk, ub, un, ut⟩, hu⟩ : ∃ y, Hid (vAt xl col = y) := ⟨_, rfl⟩
      obtain ⟨⟨vk, vb, vn, vt⟩, hv⟩ : ∃ y, Hid (vAt yl col = y) := ⟨_, rfl⟩
      simp only [hu.out] at cA
      simp only [hv.out] at cB
      rw [hu.out, hv.out] at hdr
      have cC := hid (fun A => cRefCompare ⟨uk, ub, un, ut⟩ ⟨vk, vb, vn, vt⟩ A)
      simp only [Val.v] at cC
      have hrg := cmp_range ⟨uk, ub, un, ut⟩ ⟨vk, vb, vn, vt⟩
      obtain ⟨C, hC⟩ : ∃ C, Hid (cmpV ⟨uk, ub, un, ut⟩ ⟨vk, vb, vn, vt⟩ = C) := ⟨_, rfl⟩
      simp only [hC.out] at cC
      rw [hC.out] at hdr hrg
      have i1 : (0 : Int) ≤ (j : Int) := by omega
      have i2 : (j : Int) < (os.length : Int) := by omega
      have i3 : (j : Int) + 1 ≤ 9223372036854775807 := by omega
      subst ea
      clear c0 c1
      go_wp2_with fail
      refine wp_noPanicY ?_
      refine wp_region_held_drew (S := fun A => A.cell? ⟨g, o + j * 2, none⟩ = some (.int .i64 col) ∧ A.cell? ⟨g, o + j * 2 + 1, none⟩ = some (.bool dn)) (by kernel_rfl) (hS.out _ H.out.drew) (fun hHeld => ?_)
      have KD : Hid (Kp [] w wr.drew) := hid H.out.drew
      generalize wr.drew = wd at *
      refine wpAnyH_take (i := 0) (v := ?_) rfl (by kernel_rfl) (by kernel_rfl) (by kernel_rfl) (fun _ _ _ h => by cases h.1) (Or.inl ⟨by rfl, ?_⟩) (by assumption) ?_
      rotate_left
      · intro w hSw; (try dsimp only at hSw); go_simp <;> with_reducible rfl
      try simp only [Act.put, List.getElem_toArray, List.getElem_cons_zero, List.getElem_cons_succ, List.setIfInBounds_toArray, List.set_cons_zero, List.set_cons_succ]
      refine wpAnyH_take (i := 1) (v := ?_) rfl (by kernel_rfl) (by kernel_rfl) (by kernel_rfl) (fun _ _ _ h => by cases h.1) (Or.inl ⟨by rfl, ?_⟩) (by assumption) ?_
      rotate_left
      · intro w hSw; (try dsimp only at hSw); go_simp <;> with_reducible rfl
      try simp only [Act.put, List.getElem_toArray, List.getElem_cons_zero, List.getElem_cons_succ, List.setIfInBounds_toArray, List.set_cons_zero, List.set_cons_succ]
      refine wpAnyH_take (i := 2) (v := ?_) rfl (by kernel_rfl) (by kernel_rfl) (by kernel_rfl) (fun _ _ _ h => by cases h.1) (Or.inl ⟨by rfl, ?_⟩) (by assumption) ?_
      rotate_left
      · intro w hSw; (try dsimp only at hSw); go_simp <;> with_reducible rfl
      try simp only [Act.put, List.getElem_toArray, List.getElem_cons_zero, List.getElem_cons_succ, List.setIfInBounds_toArray, List.set_cons_zero, List.set_cons_succ]
      refine wpAnyH_take (i := 3) (v := ?_) rfl (by kernel_rfl) (by kernel_rfl) (by kernel_rfl) (fun _ _ _ h => by cases h.1) (Or.inl ⟨by rfl, ?_⟩) (by assumption) ?_
      rotate_left
      · intro w hSw; (try dsimp only at hSw); go_simp <;> with_reducible rfl
      try simp only [Act.put, List.getElem_toArray, List.getElem_cons_zero, List.getElem_cons_succ, List.setIfInBounds_toArray, List.set_cons_zero, List.set_cons_succ]
      refine wpAnyH_take (i := 4) (v := ?_) rfl (by kernel_rfl) (by kernel_rfl) (by kernel_rfl) (fun _ _ _ h => by cases h.1) (Or.inl ⟨by rfl, ?_⟩) (by assumption) ?_
      rotate_left
      · intro w hSw; (try dsimp only at hSw); go_simp <;> with_reducible rfl
      try simp only [Act.put, List.getElem_toArray, List.getElem_cons_zero, List.getElem_cons_succ, List.setIfInBounds_toArray, List.set_cons_zero, List.set_cons_succ]
      refine wpAnyH_take (i := 5) (v := ?_) rfl (by kernel_rfl) (by kernel_rfl) (by kernel_rfl) (fun _ _ _ h => by cases h.1) (Or.inl ⟨by rfl, ?_⟩) (by assumption) ?_
      rotate_left
      · intro w hSw; (try dsimp only at hSw); go_simp <;> with_reducible rfl
      try simp only [Act.put, List.getElem_toArray, List.getElem_cons_zero, List.getElem_cons_succ, List.setIfInBounds_toArray, List.set_cons_zero, List.set_cons_succ]
      refine wpAnyH_take (i := 7) (v := ?_) rfl (by kernel_rfl) (by kernel_rfl) (by kernel_rfl) (fun _ _ _ h => by cases h.1) (Or.inl ⟨by rfl, ?_⟩) (by assumption) ?_
      rotate_left
      · intro w hSw; (try dsimp only at hSw); go_simp <;> with_reducible rfl
      try simp only [Act.put, List.getElem_toArray, List.getElem_cons_zero, List.getElem_cons_succ, List.setIfInBounds_toArray, List.set_cons_zero, List.set_cons_succ]
      refine wpAnyH_take (i := 8) (v := ?_) rfl (by kernel_rfl) (by kernel_rfl) (by kernel_rfl) (fun _ _ _ h => by cases h.1) (Or.inl ⟨by rfl, ?_⟩) (by assumption) ?_
      rotate_left
      · intro w hSw; (try dsimp only at hSw); go_simp <;> with_reducible rfl
      try simp only [Act.put, List.getElem_toArray, List.getElem_cons_zero, List.getElem_cons_succ, List.setIfInBounds_toArray, List.set_cons_zero, List.set_cons_succ]
      refine wpAnyH_take (i := 9) (v := ?_) rfl (by kernel_rfl) (by kernel_rfl) (by kernel_rfl) (fun _ _ _ h => by cases h.1) (Or.inl ⟨by rfl, ?_⟩) (by assumption) ?_
      rotate_left
      · intro w hSw; (try dsimp only at hSw); go_simp <;> with_reducible rfl
      try simp only [Act.put, List.getElem_toArray, List.getElem_cons_zero, List.getElem_cons_succ, List.setIfInBounds_toArray, List.set_cons_zero, List.set_cons_succ]
      refine wpAnyH_take (i := 10) (v := ?_) rfl (by kernel_rfl) (by kernel_rfl) (by kernel_rfl) (fun _ _ _ h => by cases h.1) (Or.inl ⟨by rfl, ?_⟩) (by assumption) ?_
      rotate_left
      · intro w hSw; (try dsimp only at hSw); go_simp <;> with_reducible rfl
      try simp only [Act.put, List.getElem_toArray, List.getElem_cons_zero, List.getElem_cons_succ, List.setIfInBounds_toArray, List.set_cons_zero, List.set_cons_succ]
      refine wpAnyH_take (i := 11) (v := ?_) rfl (by kernel_rfl) (by kernel_rfl) (by kernel_rfl) (fun _ _ _ h => by cases h.1) (Or.inl ⟨by rfl, ?_⟩) (by assumption) ?_
      rotate_left
      · intro w hSw; (try dsimp only at hSw); go_simp <;> with_reducible rfl
      try simp only [Act.put, List.getElem_toArray, List.getElem_cons_zero, List.getElem_cons_succ, List.setIfInBounds_toArray, List.set_cons_zero, List.set_cons_succ]
      refine wpAnyH_take (i := 12) (v := ?_) rfl (by kernel_rfl) (by kernel_rfl) (by kernel_rfl) (fun _ _ _ h => by cases h.1) (Or.inl ⟨by rfl, ?_⟩) (by assumption) ?_
      rotate_left
      · intro w hSw; (try dsimp only at hSw); go_simp <;> with_reducible rfl
      try simp only [Act.put, List.getElem_toArray, List.getElem_cons_zero, List.getElem_cons_succ, List.setIfInBounds_toArray, List.set_cons_zero, List.set_cons_succ]
      refine wpAnyH_ready (rs := [6]) (by kernel_rfl) (by simp) ?_
      refine AllReadyH.cons rfl (fun K hK => ?_) AllReadyH.nil
      go_simp
      refine (cA.out wd KD.out).mono ?_
      rintro e we ⟨rfl, ke⟩
      (try go_wp2_with fail)
      refine hK.out _ _ ?_ (fun hHeld => ?_)
      · exact hS.out we (KD.out.trans ke (by simp))
      clear hK K
      try simp only [Act.put, List.getElem_toArray, List.getElem_cons_zero, List.getElem_cons_succ, List.setIfInBounds_toArray, List.set_cons_zero, List.set_cons_succ]
      have KE := hid (KD.out.trans ke (by simp))
      refine wpAnyH_ready (rs := [13]) (by kernel_rfl) (by simp) ?_
      refine AllReadyH.cons rfl (fun K hK => ?_) AllReadyH.nil
      go_simp
      refine (cB.out we KE.out).mono ?_
      rintro e wf ⟨rfl, kf⟩
      (try go_wp2_with fail)
      refine hK.out _ _ ?_ (fun hHeld => ?_)
      · exact hS.out wf (KE.out.trans kf (by simp))
      clear hK K
      try simp only [Act.put, List.getElem_toArray, List.getElem_cons_zero, List.getElem_cons_succ, List.setIfInBounds_toArray, List.set_cons_zero, List.set_cons_succ]
      have KF := hid (KE.out.trans kf (by simp))
      refine wpAnyH_ready (rs := [14]) (by kernel_rfl) (by simp) ?_
      refine AllReadyH.cons rfl (fun K hK => ?_) AllReadyH.nil
      go_simp
      refine (cC.out wf).mono ?_
      rintro e wg ⟨rfl, kg⟩
      (try go_wp2_with fail)
      refine hK.out _ _ ?_ (fun hHeld => ?_)
      · exact hS.out wg (KF.out.trans kg (by simp))
      clear hK K
      try simp only [Act.put, List.getElem_toArray, List.getElem_cons_zero, List.getElem_cons_succ, List.setIfInBounds_toArray, List.set_cons_zero, List.set_cons_succ]
      refine wpAnyH_take (i := 15) (v := ?_) rfl (by kernel_rfl) (by kernel_rfl) (by kernel_rfl) (fun _ _ _ h => by cases h.1) (Or.inl ⟨by rfl, ?_⟩) (by assumption) ?_
      rotate_left
      · intro w hSw; (try dsimp only at hSw); go_simp <;> with_reducible rfl
      try simp only [Act.put, List.getElem_toArray, List.getElem_cons_zero, List.getElem_cons_succ, List.setIfInBounds_toArray, List.set_cons_zero, List.set_cons_succ]
      refine wpAnyH_done (by kernel_rfl) ⟨rfl, ?_⟩ _
      have KG := hid (KF.out.trans kg (by simp))
      obtain ⟨s0, s1⟩ := hS.out wg KG.out
      clear hHeld ke kf kg
      by_cases hC0 : C = 0
      · have d1 : (C != 0) = false := by simpa using hC0
        have hz2 : Hid (cmpO (os.drop (j + 1)) xl yl = Z) := by show _ = _; rw [← hz.out, hdr.out, dirC]; cases dn <;> simp [hC0]
        clear hC0
        go_wp2_with fail
        go_roundw
        case rel => exact ⟨j + 1, by omega, by go_num, hz2, KG⟩
        case measure => simp [intOf]; omega
      · have d1 : (C != 0) = true := by simpa using hC0
        have hz2 : Hid ((decide (C < 0) != dn) = decide (Z < 0)) := by
          show _ = _
          have hne : ¬ dirC dn C = 0 := fun h => hC0 ((dir_zero dn C).1 h)
          rw [← hz.out, hdr.out, if_neg hne]
          rcases hrg with rfl | rfl | rfl
          · cases dn <;> rfl
          · exact absurd rfl hC0
          · cases dn <;> rfl
        clear hC0
        go_wp2_with fail
        go_ret
        rw [← hz2.out]
        exact ⟨rfl, KG.out⟩
    · have hje : os.drop j = [] := List.drop_eq_nil_of_le (by omega)
      have hz2 : Hid (rowsV xl yl = Z) := by show _ = _; rw [← hz.out, hje]; rfl
      have cR := hid (cRefRows xa ya xc yc xl yl wr (HX.out.see.kept H.out) (HY.out.see.kept H.out) (by omega) (by omega))
      rw [hz2.out] at cR
      have dj1 : ¬ (j : Int) < (os.length : Int) := by omega
      have dj2 : decide ((j : Int) < (os.length : Int)) = false := by simp; omega
      clear hje
      go_wp2_with fail
      refine cR.out.mono ?_
      rintro e w2 ⟨rfl, k2⟩
      have KF := hid (H.out.trans k2 (by simp))
      clear cR k2
      go_wp2_with fail
      go_ret
      exact ⟨rfl, KF.out⟩
end Go.Proofs.Ytohkjikhlakglaa
end

section
namespace Go.Proofs.Ytohkjikhlakglaa
open Go.RowKit Go.Hay
set_option linter.unusedVariables false
set_option linter.unusedSimpArgs false

theorem insI_len (lt : Nat → Nat → Prop) [∀ x y, Decidable (lt x y)] (n : Nat) : (srtI lt n).length = n := by rw [(srtI_perm lt n).length_eq, List.length_range]
theorem insI_map {α : Type} (lt : Nat → Nat → Prop) [∀ x y, Decidable (lt x y)] (A : Nat → α) (j K : Nat) (h : insP lt j (srtI lt j) j = K) : (srtI lt (j + 1)).map A = ((srtI lt j).map A).take K ++ A j :: ((srtI lt j).map A).drop K := by
  rw [srtI, insI, insI_len, h, List.map_append, List.map_cons, List.map_take, List.map_drop]
/-- Rows that lie somewhere, appended to a row of the call's own. -/
theorem appVsS (w : World) (L : List Vs) (a : Option Addr) (c : Nat) (ys : List Vs) (a2 : Option Addr) (c2 : Nat) (hr : VsE.Row w (.slice a L.length c) L) (hs : VsE.See w a2 ys) (hL : L.length + ys.length ≤ 4000000) :
    ∃ a' c' w', (Builtin.append_ #[22, 22] 22 #[.slice a L.length c, .slice a2 ys.length c2]).run Try.prog w = .ok (.slice a' (L ++ ys).length c') w' ∧ VsE.Row w' (.slice a' (L ++ ys).length c') (L ++ ys) ∧ Kp (blk a) w w' ∧ ∀ k ∈ blk a', k ∈ blk a ∨ w.heap.size ≤ k := by
  obtain ⟨i0, hi, hz0, hz1, hz2⟩ := infoVs
  have hsr := hs.src (P := Try.prog) Try.underlying22 c2
  obtain ⟨v', w', hrun, h1, h2, h3⟩ := run_appendG (E := VsE) (P := Try.prog) w 22 22 22 24 i0 _ 24 Try.underlying22 hi hz0 hz1 hz2 rfl (.slice a L.length c) L hr _ ys hsr (by omega) (by omega)
  obtain ⟨a', c', rfl, _⟩ := h1.see
  simp only [ownV] at h2 h3
  exact ⟨a', c', w', hrun, h1, h2, h3⟩
/-- One row appended. -/
theorem appVs1 (w : World) (L : List Vs) (a : Option Addr) (c : Nat) (x : Vs) (hr : VsE.Row w (.slice a L.length c) L) (hL : L.length ≤ 3000000) :
    ∃ a' c' w', (Builtin.append_ #[22, 22] 22 #[.slice a L.length c, .slice (some ⟨w.heap.size, 0, none⟩) 1 1]).run Try.prog (w.alloc (.cells #[.slice x.a x.l.length x.c] 24)) = .ok (.slice a' (L ++ [x]).length c') w' ∧ VsE.Row w' (.slice a' (L ++ [x]).length c') (L ++ [x]) ∧ Kp (blk a) w w' ∧ ∀ k ∈ blk a', k ∈ blk a ∨ w.heap.size ≤ k := by
  obtain ⟨A1, hA1⟩ : ∃ A1, w.alloc (.cells #[.slice x.a x.l.length x.c] 24) = A1 := ⟨_, rfl⟩
  have k1 : Kp [] w A1 := by rw [← hA1]; exact (Kp.refl _ _).alloc _
  have bx : Bn A1 w.heap.size (VsE.c x) := by rw [← hA1]; exact Bn.new w (VsE.c x) _
  have hs1 : VsE.See A1 (some ⟨w.heap.size, 0, none⟩) [x] := .inr ⟨w.heap.size, 0, rfl, fun j u hu => by rw [Nat.zero_add]; exact bx.get j u (by simpa [El.cs] using hu)⟩
  obtain ⟨a', c', w', h1, h2, h3, h4⟩ := appVsS A1 L a c [x] _ 1 (hr.keptNew k1) hs1 (by simp only [List.length_cons, List.length_nil]; omega)
  rw [hA1]
  have z := k1.size
  exact ⟨a', c', w', h1, h2, (k1.mono (by simp)).trans h3 (fun _ h => .inl h), fun k hk => by
    rcases h4 k hk with e | e
    · exact .inl e
    · exact .inr (by omega)⟩
/-- The rest of a row of rows. -/
theorem sliceFromVs (a : Option Addr) (n c k : Nat) (w : World) (hk : k ≤ n) : (Instr.slice 22 (.slice a n c) (some (.int .i64 (k : Int))) none none).run Try.prog w = .ok (.slice (if c = k then a else a.map (·.add k)) (n - k) (c - k)) w := by
  obtain ⟨i0, hi, hz0, hz1, hz2⟩ := infoVs
  have hsz := run_sizeOf (P := Try.prog) (w := w) hi
  have h1 : (0 : Int) ≤ (k : Int) := by omega
  have h2 : (k : Int) ≤ (n : Int) := by omega
  simp [Instr.slice, Instr.sliceBounds, Instr.sliceBound, run_underlying Try.underlying22, h1, h2, hk, asIntOf]
theorem addrMap0 (a : Option Addr) : a.map (·.add 0) = a := by cases a <;> rfl
/-- The beginning of a row of rows. -/
theorem sliceToVs (a : Option Addr) (n c k : Nat) (w : World) (hk : k ≤ c) : (Instr.slice 22 (.slice a n c) none (some (.int .i64 (k : Int))) none).run Try.prog w = .ok (.slice a k c) w := by
  obtain ⟨i0, hi, hz0, hz1, hz2⟩ := infoVs
  have hsz := run_sizeOf (P := Try.prog) (w := w) hi
  have h1 : (0 : Int) ≤ (k : Int) := by omega
  have h2 : (k : Int) ≤ (c : Int) := by omega
  have e0 := addrMap0 a
  simp [Instr.slice, Instr.sliceBounds, Instr.sliceBound, run_underlying Try.underlying22, h1, h2, hk, asIntOf, e0]
/-- Three appends: what is ahead, one, what is behind. -/
theorem app3V (u : World) (a cq : Option Addr) (ca cc j K : Nat) (O : List Vs) (hO : O.length = j) (hK : K ≤ j) (h1 : VsE.See u a (O.take K)) (h2 : VsE.See u cq (O.drop K)) (x : Vs) (hj : j ≤ 1048576) :
    ∃ a1 c1 W1 a2 c2 W2 a3 c3 W3, (Builtin.append_ #[22, 22] 22 #[.slice none 0 0, .slice a K ca]).run Try.prog u = .ok (.slice a1 K c1) W1
      ∧ (Builtin.append_ #[22, 22] 22 #[.slice a1 K c1, .slice (some ⟨W1.heap.size, 0, none⟩) 1 1]).run Try.prog (W1.alloc (.cells #[.slice x.a x.l.length x.c] 24)) = .ok (.slice a2 (K + 1) c2) W2
      ∧ (Builtin.append_ #[22, 22] 22 #[.slice a2 (K + 1) c2, .slice cq (j - K) cc]).run Try.prog W2 = .ok (.slice a3 (j + 1) c3) W3
      ∧ VsE.Row W3 (.slice a3 (O.take K ++ x :: O.drop K).length c3) (O.take K ++ x :: O.drop K) ∧ (∀ k ∈ blk a3, u.heap.size ≤ k) ∧ Kp [] u W1 ∧ Kp [] u W2 ∧ Kp [] u W3 := by
  have l1 : (O.take K).length = K := by rw [List.length_take]; omega
  have l2 : (O.drop K).length = j - K := by rw [List.length_drop]; omega
  obtain ⟨a1, c1, W1, r1, R1, k1, n1⟩ := appVsS u [] none 0 (O.take K) a ca (.inl ⟨rfl, rfl⟩) h1 (by simp; omega)
  simp only [List.nil_append, List.length_nil] at r1 R1
  obtain ⟨a2, c2, W2, r2, R2, k2, n2⟩ := appVs1 W1 (O.take K) a1 c1 x R1 (by omega)
  have k1' : Kp [] u W1 := by simpa [blk] using k1
  have n1' : ∀ k ∈ blk a1, u.heap.size ≤ k := fun k hk => by
    rcases n1 k hk with e | e
    · simp [blk] at e
    · exact e
  have k2' : Kp [] u W2 := k1'.trans k2 (fun y hy => .inr (n1' y hy))
  have n2' : ∀ k ∈ blk a2, u.heap.size ≤ k := fun k hk => by
    rcases n2 k hk with e | e
    · exact n1' k e
    · have := k1'.size; omega
  obtain ⟨a3, c3, W3, r3, R3, k3, n3⟩ := appVsS W2 (O.take K ++ [x]) a2 c2 (O.drop K) cq cc R2 (h2.keptNew k2') (by simp; omega)
  have e1 : (O.take K ++ [x]).length = K + 1 := by simp; omega
  have e2 : O.take K ++ [x] ++ O.drop K = O.take K ++ x :: O.drop K := by simp
  have e3 : (O.take K ++ x :: O.drop K).length = j + 1 := by simp; omega
  rw [l1] at r1 r2
  rw [e1] at r2 r3
  rw [e2] at r3 R3
  rw [e3, l2] at r3
  exact ⟨a1, c1, W1, a2, c2, W2, a3, c3, W3, r1, r2, r3, R3, fun k hk => by
    rcases n3 k hk with e | e
    · exact n2' k e
    · have := k2'.size; omega, k1', k2', k2'.trans k3 (fun y hy => .inr (n2' y hy))⟩
end Go.Proofs.Ytohkjikhlakglaa
end

section
namespace Go.Proofs.Ytohkjikhlakglaa
open Go.RowKit Go.Hay
set_option linter.unusedVariables false
set_option linter.unusedSimpArgs false

abbrev Vs.v (x : Vs) : Value := .slice x.a x.l.length x.c
/-- Things as they stand, told by where each came from. -/
def arr (A : Nat → Vs) (p : Nat → Nat) (n : Nat) : List Vs := (List.range n).map fun k => A (p k)
theorem arr_len (A : Nat → Vs) (p : Nat → Nat) (n : Nat) : (arr A p n).length = n := by simp [arr]
theorem arr_at (A : Nat → Vs) (p : Nat → Nat) (n i : Nat) (h : i < n) : (arr A p n)[i]? = some (A (p i)) := by simp [arr, h]
theorem arr_swap (A : Nat → Vs) (p : Nat → Nat) (n i j : Nat) (hi : i < n) (hj : j < n) : ((arr A p n).set i (A (p j))).set j (A (p i)) = arr A (fun k => p (swp i j k)) n := by
  apply List.ext_getElem?
  intro k
  by_cases hk : k < n
  · rw [arr_at A _ n k hk, List.getElem?_set, List.getElem?_set]
    simp only [List.length_set, arr_len, hj, hi, if_true]
    by_cases c1 : j = k
    · subst c1
      rw [if_pos rfl]
      unfold swp
      split
      · rename_i h; rw [h]
      · rw [if_pos rfl]
    · rw [if_neg c1]
      by_cases c2 : i = k
      · subst c2
        rw [if_pos rfl]
        unfold swp
        rw [if_pos rfl]
      · rw [if_neg c2, arr_at A _ n k hk]
        unfold swp
        rw [if_neg (fun h => c2 h.symm), if_neg (fun h => c1 h.symm)]
  · rw [List.getElem?_eq_none (by simp [arr_len]; omega), List.getElem?_eq_none (by simp [arr_len]; omega)]
/-- The row that is sorted stands so. -/
def Hd (W : World) (g o n cap : Nat) (A : Nat → Vs) (p : Nat → Nat) : Prop := VsE.Row W (.slice (some ⟨g, o, none⟩) n cap) (arr A p n)
theorem Hd.cells {W : World} {g o n cap : Nat} {A : Nat → Vs} {p : Nat → Nat} (h : Hd W g o n cap A p) (i : Nat) (hi : i < n) : W.cell? ⟨g, o + i, none⟩ = some (.slice (A (p i)).a (A (p i)).l.length (A (p i)).c) ∧ W.frozen? ⟨g, o + i, none⟩ = false := by
  obtain ⟨a', c', e, hs, _⟩ := El.Row.see h
  have e1 := Value.slice.inj e
  obtain ⟨g', o', e2, x0⟩ := vsAt hs (arr_at A p n i hi)
  rw [← e1.1] at e2
  cases e2
  refine ⟨x0, ?_⟩
  rcases h with ⟨e3, _⟩ | ⟨g2, o2, cc, e3, hl, hx, hg, hc, ht⟩
  · cases e3
  · have e4 := Value.slice.inj e3
    obtain ⟨e5, e6, e7⟩ := e4
    cases e5
    subst e7
    have en : VsE.n = 1 := rfl
    rw [en] at ht
    rw [arr_len] at hl
    exact (ht i (by omega)).2
def put1 (W : World) (g x : Nat) (v : Vs) : World := W.setCell ⟨g, x, none⟩ (.slice v.a v.l.length v.c)
theorem put1_kp (W : World) (g x : Nat) (v : Vs) : Kp [g] W (put1 W g x v) := (Kp.refl _ _).setCell (by simp) _
theorem row_put1 {W : World} {g o n cap : Nat} {l : List Vs} (h : VsE.Row W (.slice (some ⟨g, o, none⟩) n cap) l) (i : Nat) (hi : i < l.length) (x : Vs) : VsE.Row (put1 W g (o + i) x) (.slice (some ⟨g, o, none⟩) n cap) (l.set i x) := by
  have := h.setAt i hi x
  have e : VsE.n = 1 := rfl
  rw [e, Nat.mul_one] at this
  exact this
theorem Hd.swap {W : World} {g o n cap : Nat} {A : Nat → Vs} {p : Nat → Nat} (h : Hd W g o n cap A p) (i j : Nat) (hi : i < n) (hj : j < n) : Hd (put1 (put1 W g (o + i) (A (p j))) g (o + j) (A (p i))) g o n cap A (fun k => p (swp i j k)) := by
  unfold Hd
  rw [← arr_swap A p n i j hi hj]
  exact row_put1 (row_put1 h i (by rw [arr_len]; exact hi) _) j (by rw [List.length_set, arr_len]; exact hj) _
/-- Behind the first store the cells of the other place stand. -/
theorem put1_cells {W : World} {g o n cap : Nat} {A : Nat → Vs} {p : Nat → Nat} (h : Hd W g o n cap A p) (i j : Nat) (hi : i < n) (hj : j < n) (x : Vs) : ∀ c, c < 1 → (∃ u, (put1 W g (o + i) x).cell? ⟨g, o + j + c, none⟩ = some u) ∧ (put1 W g (o + i) x).frozen? ⟨g, o + j + c, none⟩ = false := by
  intro c hc
  obtain rfl : c = 0 := by omega
  have h1 := row_put1 h i (by rw [arr_len]; exact hi) x
  rcases h1 with ⟨e3, _⟩ | ⟨g2, o2, cc, e3, hl, hx, hg, hcc, ht⟩
  · cases e3
  · obtain ⟨e5, e6, e7⟩ := Value.slice.inj e3
    cases e5
    subst e7
    have en : VsE.n = 1 := rfl
    rw [en] at ht
    rw [List.length_set, arr_len] at hl
    have := ht j (by omega)
    exact ⟨Option.isSome_iff_exists.1 this.1, this.2⟩
theorem Hd.kept {W W' : World} {g o n cap : Nat} {A : Nat → Vs} {p : Nat → Nat} (h : Hd W g o n cap A p) (k : Kp [] W W') : Hd W' g o n cap A p := El.Row.keptNew h k
theorem Hd.lt {W : World} {g o n cap : Nat} {A : Nat → Vs} {p : Nat → Nat} (h : Hd W g o n cap A p) : g < W.heap.size := El.Row.lt h g (by simp [own, Value.ownBlock])
end Go.Proofs.Ytohkjikhlakglaa
end

section
namespace Go.Proofs.Ytohkjikhlakglaa
open Go.RowKit Go.Hay
set_option linter.unusedVariables false
set_option linter.unusedSimpArgs false

set_option maxHeartbeats 8000000 in
set_option maxRecDepth 100000 in
theorem cSwapR (g o n cap : Nat) (A : Nat → Vs) (p : Nat → Nat) (a b m : Nat) (f : Value) (w : World) (h : Hd w g o n cap A p) (h1 : a + m ≤ b) (h2 : b + m ≤ n) (hn : n ≤ 4000000000000) (hcap : n ≤ cap) : Calls Try.prog 78 #[.slice (some ⟨g, o, none⟩) n cap, .int .i64 (a : Int), .int .i64 (b : Int), .int .i64 (m : Int), f] w fun e w' => (∃ v, e = .returned v) ∧ Hd w' g o n cap A (fun k => p (swR a b m k)) ∧ Kp [g] w w' := by
  have HH := hid h
  clear h
  go_enter Try.func78, Try.ntmps78
  go_wp2_with fail
  go_loopw [10] (fun iv wr => ∃ i : Nat, i ≤ m ∧ iv = .int .i64 (i : Int) ∧ Hid (Hd wr g o n cap A (fun k => p (swR a b i k)) ∧ Kp [g] w wr)) (fun iv _ => m - (intOf iv).toNat)
  case atStart => exact ⟨0, Nat.zero_le _, rfl, hid ⟨by rw [swR_zero]; exact HH.out, Kp.refl _ _⟩⟩
  case round =>
    obtain ⟨i, hi, rfl, hr⟩ := hrel
    by_cases hlt : i < m
    · obtain ⟨x, hx⟩ : ∃ x : Nat, x = a + i := ⟨_, rfl⟩
      obtain ⟨y, hy⟩ : ∃ y : Nat, y = b + i := ⟨_, rfl⟩
      have ex : (a : Int) + (i : Int) = (x : Int) := by omega
      have ey : (b : Int) + (i : Int) = (y : Int) := by omega
      have hxn : x < n := by omega
      have hyn : y < n := by omega
      have b1 : (-9223372036854775808 : Int) ≤ (a : Int) + (i : Int) := by omega
      have b2 : (a : Int) + (i : Int) ≤ 9223372036854775807 := by omega
      have b3 : (-9223372036854775808 : Int) ≤ (b : Int) + (i : Int) := by omega
      have b4 : (b : Int) + (i : Int) ≤ 9223372036854775807 := by omega
      have i1 : (0 : Int) ≤ (x : Int) := by omega
      have i2 : (x : Int) < (n : Int) := by omega
      have i3 : (0 : Int) ≤ (y : Int) := by omega
      have i4 : (y : Int) < (n : Int) := by omega
      have i5 : (i : Int) + 1 ≤ 9223372036854775807 := by omega
      have i6 : (i : Int) < (m : Int) := by omega
      have wx : IntKind.i64.wrap ((a : Int) + (i : Int)) = (x : Int) := by rw [ex, IntKind.wrap_i64]; omega
      have wy : IntKind.i64.wrap ((b : Int) + (i : Int)) = (y : Int) := by rw [ey, IntKind.wrap_i64]; omega
      have wx2 : IntKind.i64.wrap (x : Int) = (x : Int) := by rw [IntKind.wrap_i64]; omega
      have wy2 : IntKind.i64.wrap (y : Int) = (y : Int) := by rw [IntKind.wrap_i64]; omega
      obtain ⟨P, hP⟩ : ∃ P, Hid (P = fun k => p (swR a b i k)) := ⟨_, hid rfl⟩
      have hd := hr.out.1
      have kr := hid hr.out.2
      rw [← hP.out] at hd
      have HX := hid (And.intro hx hy)
      clear hx hy hr
      go_wp2_with fail
      refine wp_region_held_drew (S := fun _ => True) (by kernel_rfl) trivial (fun hHeld => ?_)
      have KD : Kp [] wr wr.drew := (Kp.refl [] wr).drew
      have hd2 := hd.kept KD
      generalize wr.drew = Wd at *
      obtain ⟨x0, fx0⟩ := hd2.cells x (by omega)
      obtain ⟨y0, fy0⟩ := hd2.cells y (by omega)
      have hsw := hd2.swap x y (by omega) (by omega)
      have hpc := put1_cells hd2 x y (by omega) (by omega)
      obtain ⟨V1, hV1⟩ : ∃ V, V = A (P x) := ⟨_, rfl⟩
      obtain ⟨V2, hV2⟩ : ∃ V, V = A (P y) := ⟨_, rfl⟩
      rw [← hV1] at x0 hsw
      rw [← hV2] at y0 hsw
      replace hpc := hpc V2
      obtain ⟨⟨u0, hu0⟩, gu0⟩ := hpc 0 (by omega)
      try simp only [Nat.add_zero] at hu0 gu0
      obtain ⟨W1, eW1⟩ : ∃ Y, (Wd.setCell ⟨g, o + x, none⟩ (.slice V2.a V2.l.length V2.c)) = Y := ⟨_, rfl⟩
      have eP1 : put1 Wd g (o + x) V2 = W1 := eW1
      obtain ⟨W2, eW2⟩ : ∃ Y, (W1.setCell ⟨g, o + y, none⟩ (.slice V1.a V1.l.length V1.c)) = Y := ⟨_, rfl⟩
      have eP2 : put1 W1 g (o + y) V1 = W2 := eW2
      have kP1 : Kp [g] Wd W1 := by rw [← eP1]; exact put1_kp _ _ _ _
      have kP2 : Kp [g] W1 W2 := by rw [← eP2]; exact put1_kp _ _ _ _
      simp only [eP1] at hu0 gu0 hsw
      simp only [eP2] at hsw
      have zW1 := kP1.size
      have HSW := hid (And.intro hsw (kP1.trans kP2 (by simp)))
      have zg : g < Wd.heap.size := hd2.lt
      have zg1 : g < W1.heap.size := by omega
      clear hpc hsw eP1 eP2 kP1 kP2 hV1 hV2 zW1
      obtain ⟨a1, c1, l1⟩ := V1
      obtain ⟨a2, c2, l2⟩ := V2
      dsimp only at *
      have hfin : Hid (Hd W2 g o n cap A (fun k => p (swR a b (i + 1) k)) ∧ Kp [g] w W2) := hid ⟨by
        have := HSW.out.1
        rw [hP.out] at this
        rw [swR_succ a b i (by omega), ← HX.out.1, ← HX.out.2]
        exact this, (kr.out.trans KD (by simp)).trans HSW.out.2 (by simp)⟩
      clear hd hd2 HSW hP kr KD HX
      refine wpAnyH_take (i := 0) (v := ?_) rfl (by kernel_rfl) (by kernel_rfl) (by kernel_rfl) (fun _ _ _ h => h) (Or.inl ⟨by rfl, ?_⟩) (by assumption) ?_
      rotate_left
      · intro w hSw; (try dsimp only at hSw); go_simp <;> with_reducible rfl
      try simp only [Act.put, List.getElem_toArray, List.getElem_cons_zero, List.getElem_cons_succ, List.setIfInBounds_toArray, List.set_cons_zero, List.set_cons_succ]
      refine wpAnyH_take (i := 1) (v := ?_) rfl (by kernel_rfl) (by kernel_rfl) (by kernel_rfl) (fun _ _ _ h => h) (Or.inl ⟨by rfl, ?_⟩) (by assumption) ?_
      rotate_left
      · intro w hSw; (try dsimp only at hSw); go_simp <;> with_reducible rfl
      try simp only [Act.put, List.getElem_toArray, List.getElem_cons_zero, List.getElem_cons_succ, List.setIfInBounds_toArray, List.set_cons_zero, List.set_cons_succ]
      refine wpAnyH_take (i := 2) (v := ?_) rfl (by kernel_rfl) (by kernel_rfl) (by kernel_rfl) (fun _ _ _ h => h) (Or.inl ⟨by rfl, ?_⟩) (by assumption) ?_
      rotate_left
      · intro w hSw; (try dsimp only at hSw); go_simp <;> with_reducible rfl
      try simp only [Act.put, List.getElem_toArray, List.getElem_cons_zero, List.getElem_cons_succ, List.setIfInBounds_toArray, List.set_cons_zero, List.set_cons_succ]
      refine wpAnyH_take (i := 3) (v := ?_) rfl (by kernel_rfl) (by kernel_rfl) (by kernel_rfl) (fun _ _ _ h => h) (Or.inl ⟨by rfl, ?_⟩) (by assumption) ?_
      rotate_left
      · intro w hSw; (try dsimp only at hSw); go_simp <;> (try simp only [wx, wy, wx2, wy2]) <;> with_reducible rfl
      try simp only [Act.put, List.getElem_toArray, List.getElem_cons_zero, List.getElem_cons_succ, List.setIfInBounds_toArray, List.set_cons_zero, List.set_cons_succ]
      try simp only [wx, wy, wx2, wy2]
      refine wpAnyH_take (i := 4) (v := ?_) rfl (by kernel_rfl) (by kernel_rfl) (by kernel_rfl) (fun _ _ _ h => h) (Or.inl ⟨by rfl, ?_⟩) (by assumption) ?_
      rotate_left
      · intro w hSw; (try dsimp only at hSw); go_simp <;> with_reducible rfl
      try simp only [Act.put, List.getElem_toArray, List.getElem_cons_zero, List.getElem_cons_succ, List.setIfInBounds_toArray, List.set_cons_zero, List.set_cons_succ]
      refine wpAnyH_take (i := 5) (v := ?_) rfl (by kernel_rfl) (by kernel_rfl) (by kernel_rfl) (fun _ _ _ h => h) (Or.inl ⟨by rfl, ?_⟩) (by assumption) ?_
      rotate_left
      · intro w hSw; (try dsimp only at hSw); go_simp <;> with_reducible rfl
      try simp only [Act.put, List.getElem_toArray, List.getElem_cons_zero, List.getElem_cons_succ, List.setIfInBounds_toArray, List.set_cons_zero, List.set_cons_succ]
      refine wpAnyH_take (i := 6) (v := ?_) rfl (by kernel_rfl) (by kernel_rfl) (by kernel_rfl) (fun _ _ _ h => h) (Or.inl ⟨by rfl, ?_⟩) (by assumption) ?_
      rotate_left
      · intro w hSw; (try dsimp only at hSw); go_simp <;> with_reducible rfl
      try simp only [Act.put, List.getElem_toArray, List.getElem_cons_zero, List.getElem_cons_succ, List.setIfInBounds_toArray, List.set_cons_zero, List.set_cons_succ]
      refine wpAnyH_take (i := 7) (v := ?_) rfl (by kernel_rfl) (by kernel_rfl) (by kernel_rfl) (fun _ _ _ h => h) (Or.inl ⟨by rfl, ?_⟩) (by assumption) ?_
      rotate_left
      · intro w hSw; (try dsimp only at hSw); go_simp <;> (try simp only [wx, wy, wx2, wy2]) <;> with_reducible rfl
      try simp only [Act.put, List.getElem_toArray, List.getElem_cons_zero, List.getElem_cons_succ, List.setIfInBounds_toArray, List.set_cons_zero, List.set_cons_succ]
      try simp only [wx, wy, wx2, wy2]
      refine wpAnyH_take (i := 8) (v := ?_) rfl (by kernel_rfl) (by kernel_rfl) (by kernel_rfl) (fun _ _ _ h => h) (Or.inl ⟨by rfl, ?_⟩) (by assumption) ?_
      rotate_left
      · intro w hSw; (try dsimp only at hSw); go_simp <;> with_reducible rfl
      try simp only [Act.put, List.getElem_toArray, List.getElem_cons_zero, List.getElem_cons_succ, List.setIfInBounds_toArray, List.set_cons_zero, List.set_cons_succ]
      refine wpAnyH_take (i := 9) (v := ?_) rfl (by kernel_rfl) (by kernel_rfl) (by kernel_rfl) (fun _ _ _ h => h) (Or.inl ⟨by rfl, ?_⟩) (by assumption) ?_
      rotate_left
      · intro w hSw; (try dsimp only at hSw); go_simp <;> with_reducible rfl
      try simp only [Act.put, List.getElem_toArray, List.getElem_cons_zero, List.getElem_cons_succ, List.setIfInBounds_toArray, List.set_cons_zero, List.set_cons_succ]
      refine wpAnyH_take (i := 10) (v := ?_) rfl (by kernel_rfl) (by kernel_rfl) (by kernel_rfl) (fun _ _ _ h => h) (Or.inl ⟨by rfl, ?_⟩) (by assumption) ?_
      rotate_left
      · intro w hSw; (try dsimp only at hSw); go_simp <;> with_reducible rfl
      try simp only [Act.put, List.getElem_toArray, List.getElem_cons_zero, List.getElem_cons_succ, List.setIfInBounds_toArray, List.set_cons_zero, List.set_cons_succ]
      refine wpAnyH_take (i := 11) (v := ?_) rfl (by kernel_rfl) (by kernel_rfl) (by kernel_rfl) (fun _ _ _ h => h) (Or.inl ⟨by rfl, ?_⟩) (by assumption) ?_
      rotate_left
      · intro w hSw; (try dsimp only at hSw); go_simp <;> (try simp only [wx, wy, wx2, wy2]) <;> with_reducible rfl
      try simp only [Act.put, List.getElem_toArray, List.getElem_cons_zero, List.getElem_cons_succ, List.setIfInBounds_toArray, List.set_cons_zero, List.set_cons_succ]
      try simp only [wx, wy, wx2, wy2]
      refine wpAnyH_take (i := 12) (v := ?_) rfl (by kernel_rfl) (by kernel_rfl) (by kernel_rfl) (fun _ _ _ h => h) (Or.inl ⟨by rfl, ?_⟩) (by assumption) ?_
      rotate_left
      · intro w hSw; (try dsimp only at hSw); go_simp <;> with_reducible rfl
      try simp only [Act.put, List.getElem_toArray, List.getElem_cons_zero, List.getElem_cons_succ, List.setIfInBounds_toArray, List.set_cons_zero, List.set_cons_succ]
      refine wpAnyH_take (i := 14) (v := ?_) rfl (by kernel_rfl) (by kernel_rfl) (by kernel_rfl) (fun _ _ _ h => h) (Or.inl ⟨by rfl, ?_⟩) (by assumption) ?_
      rotate_left
      · intro w hSw; (try dsimp only at hSw); go_simp <;> with_reducible rfl
      try simp only [Act.put, List.getElem_toArray, List.getElem_cons_zero, List.getElem_cons_succ, List.setIfInBounds_toArray, List.set_cons_zero, List.set_cons_succ]
      refine wpAnyH_take (i := 15) (v := ?_) rfl (by kernel_rfl) (by kernel_rfl) (by kernel_rfl) (fun _ _ _ h => h) (Or.inl ⟨by rfl, ?_⟩) (by assumption) ?_
      rotate_left
      · intro w hSw; (try dsimp only at hSw); go_simp <;> with_reducible rfl
      try simp only [Act.put, List.getElem_toArray, List.getElem_cons_zero, List.getElem_cons_succ, List.setIfInBounds_toArray, List.set_cons_zero, List.set_cons_succ]
      refine wpAnyH_take (i := 16) (v := ?_) rfl (by kernel_rfl) (by kernel_rfl) (by kernel_rfl) (fun _ _ _ h => h) (Or.inl ⟨by rfl, ?_⟩) (by assumption) ?_
      rotate_left
      · intro w hSw; (try dsimp only at hSw); go_simp <;> with_reducible rfl
      try simp only [Act.put, List.getElem_toArray, List.getElem_cons_zero, List.getElem_cons_succ, List.setIfInBounds_toArray, List.set_cons_zero, List.set_cons_succ]
      refine wpAnyH_take (i := 17) (v := ?_) rfl (by kernel_rfl) (by kernel_rfl) (by kernel_rfl) (fun _ _ _ h => h) (Or.inl ⟨by rfl, ?_⟩) (by assumption) ?_
      rotate_left
      · intro w hSw; (try dsimp only at hSw); go_simp <;> (try simp only [wx, wy, wx2, wy2]) <;> with_reducible rfl
      try simp only [Act.put, List.getElem_toArray, List.getElem_cons_zero, List.getElem_cons_succ, List.setIfInBounds_toArray, List.set_cons_zero, List.set_cons_succ]
      try simp only [wx, wy, wx2, wy2]
      refine wpAnyH_take (i := 18) (v := ?_) rfl (by kernel_rfl) (by kernel_rfl) (by kernel_rfl) (fun _ _ _ h => h) (Or.inl ⟨by rfl, ?_⟩) (by assumption) ?_
      rotate_left
      · intro w hSw; (try dsimp only at hSw); go_simp <;> with_reducible rfl
      try simp only [Act.put, List.getElem_toArray, List.getElem_cons_zero, List.getElem_cons_succ, List.setIfInBounds_toArray, List.set_cons_zero, List.set_cons_succ]
      refine wpAnyH_ready (rs := [13, 19]) (by kernel_rfl) (by simp) ?_
      refine AllReadyH.cons rfl (fun K hK => ?_) (AllReadyH.cons rfl (fun K hK => ?_) AllReadyH.nil)
      · go_simp
        (try go_wp2_with fail)
        refine hK.out _ _ trivial (fun hHeld => ?_)
        clear hK K
        try simp only [Act.put, List.getElem_toArray, List.getElem_cons_zero, List.getElem_cons_succ, List.setIfInBounds_toArray, List.set_cons_zero, List.set_cons_succ]
        refine wpAnyH_ready (rs := [19]) (by kernel_rfl) (by simp) ?_
        refine AllReadyH.cons rfl (fun K hK => ?_) AllReadyH.nil
        go_simp
        (try go_wp2_with fail)
        refine hK.out _ _ trivial (fun hHeld => ?_)
        clear hK K
        try simp only [Act.put, List.getElem_toArray, List.getElem_cons_zero, List.getElem_cons_succ, List.setIfInBounds_toArray, List.set_cons_zero, List.set_cons_succ]
        refine wpAnyH_take (i := 20) (v := ?_) rfl (by kernel_rfl) (by kernel_rfl) (by kernel_rfl) (fun _ _ _ h => h) (Or.inl ⟨by rfl, ?_⟩) (by assumption) ?_
        rotate_left
        · intro w hSw; (try dsimp only at hSw); go_simp <;> with_reducible rfl
        try simp only [Act.put, List.getElem_toArray, List.getElem_cons_zero, List.getElem_cons_succ, List.setIfInBounds_toArray, List.set_cons_zero, List.set_cons_succ]
        refine wpAnyH_ready (rs := [21]) (by kernel_rfl) (by simp) ?_
        refine AllReadyH.cons rfl (fun K hK => ?_) AllReadyH.nil
        go_simp
        (try go_wp2_with fail)
        refine hK.out _ _ trivial (fun hHeld => ?_)
        clear hK K
        try simp only [Act.put, List.getElem_toArray, List.getElem_cons_zero, List.getElem_cons_succ, List.setIfInBounds_toArray, List.set_cons_zero, List.set_cons_succ]
        refine wpAnyH_take (i := 22) (v := ?_) rfl (by kernel_rfl) (by kernel_rfl) (by kernel_rfl) (fun _ _ _ h => h) (Or.inl ⟨by rfl, ?_⟩) (by assumption) ?_
        rotate_left
        · intro w hSw; (try dsimp only at hSw); go_simp <;> with_reducible rfl
        try simp only [Act.put, List.getElem_toArray, List.getElem_cons_zero, List.getElem_cons_succ, List.setIfInBounds_toArray, List.set_cons_zero, List.set_cons_succ]
        refine wpAnyH_ready (rs := [23]) (by kernel_rfl) (by simp) ?_
        refine AllReadyH.cons rfl (fun K hK => ?_) AllReadyH.nil
        go_simp
        (try go_wp2_with fail)
        refine hK.out _ _ trivial (fun hHeld => ?_)
        clear hK K
        try simp only [Act.put, List.getElem_toArray, List.getElem_cons_zero, List.getElem_cons_succ, List.setIfInBounds_toArray, List.set_cons_zero, List.set_cons_succ]
        refine wpAnyH_done (by kernel_rfl) ?_ _
        clear hHeld
        go_wp2_with fail
        exact ⟨⟨i + 1, by omega, by go_num, hfin⟩, by simp [intOf]; omega⟩
      · go_simp
        (try go_wp2_with fail)
        refine hK.out _ _ trivial (fun hHeld => ?_)
        clear hK K
        try simp only [Act.put, List.getElem_toArray, List.getElem_cons_zero, List.getElem_cons_succ, List.setIfInBounds_toArray, List.set_cons_zero, List.set_cons_succ]
        refine wpAnyH_ready (rs := [13]) (by kernel_rfl) (by simp) ?_
        refine AllReadyH.cons rfl (fun K hK => ?_) AllReadyH.nil
        go_simp
        (try go_wp2_with fail)
        refine hK.out _ _ trivial (fun hHeld => ?_)
        clear hK K
        try simp only [Act.put, List.getElem_toArray, List.getElem_cons_zero, List.getElem_cons_succ, List.setIfInBounds_toArray, List.set_cons_zero, List.set_cons_succ]
        refine wpAnyH_take (i := 20) (v := ?_) rfl (by kernel_rfl) (by kernel_rfl) (by kernel_rfl) (fun _ _ _ h => h) (Or.inl ⟨by rfl, ?_⟩) (by assumption) ?_
        rotate_left
        · intro w hSw; (try dsimp only at hSw); go_simp <;> with_reducible rfl
        try simp only [Act.put, List.getElem_toArray, List.getElem_cons_zero, List.getElem_cons_succ, List.setIfInBounds_toArray, List.set_cons_zero, List.set_cons_succ]
        refine wpAnyH_ready (rs := [21]) (by kernel_rfl) (by simp) ?_
        refine AllReadyH.cons rfl (fun K hK => ?_) AllReadyH.nil
        go_simp
        (try go_wp2_with fail)
        refine hK.out _ _ trivial (fun hHeld => ?_)
        clear hK K
        try simp only [Act.put, List.getElem_toArray, List.getElem_cons_zero, List.getElem_cons_succ, List.setIfInBounds_toArray, List.set_cons_zero, List.set_cons_succ]
        refine wpAnyH_take (i := 22) (v := ?_) rfl (by kernel_rfl) (by kernel_rfl) (by kernel_rfl) (fun _ _ _ h => h) (Or.inl ⟨by rfl, ?_⟩) (by assumption) ?_
        rotate_left
        · intro w hSw; (try dsimp only at hSw); go_simp <;> with_reducible rfl
        try simp only [Act.put, List.getElem_toArray, List.getElem_cons_zero, List.getElem_cons_succ, List.setIfInBounds_toArray, List.set_cons_zero, List.set_cons_succ]
        refine wpAnyH_ready (rs := [23]) (by kernel_rfl) (by simp) ?_
        refine AllReadyH.cons rfl (fun K hK => ?_) AllReadyH.nil
        go_simp
        (try go_wp2_with fail)
        refine hK.out _ _ trivial (fun hHeld => ?_)
        clear hK K
        try simp only [Act.put, List.getElem_toArray, List.getElem_cons_zero, List.getElem_cons_succ, List.setIfInBounds_toArray, List.set_cons_zero, List.set_cons_succ]
        refine wpAnyH_done (by kernel_rfl) ?_ _
        clear hHeld
        go_wp2_with fail
        exact ⟨⟨i + 1, by omega, by go_num, hfin⟩, by simp [intOf]; omega⟩
    · have e : i = m := by omega
      subst e
      go_wp2_with fail
      go_end0
      exact ⟨⟨_, rfl⟩, hr.out.1, hr.out.2⟩
end Go.Proofs.Ytohkjikhlakglaa
end

section
namespace Go.Proofs.Ytohkjikhlakglaa
open Go.RowKit Go.Hay
set_option linter.unusedVariables false
set_option linter.unusedSimpArgs false

set_option maxHeartbeats 8000000 in
set_option maxRecDepth 100000 in
theorem cRot (g o n cap : Nat) (A : Nat → Vs) (p : Nat → Nat) (a m b : Nat) (f : Value) (w : World) (h : Hd w g o n cap A p) (h1 : a < m) (h2 : m < b) (h3 : b ≤ n) (hn : n ≤ 4000000000000) (hcap : n ≤ cap) : Calls Try.prog 74 #[.slice (some ⟨g, o, none⟩) n cap, .int .i64 (a : Int), .int .i64 (m : Int), .int .i64 (b : Int), f] w fun e w' => (∃ v, e = .returned v) ∧ Hd w' g o n cap A (fun k => p (rot a m b k)) ∧ Kp [g] w w' := by
  have HH := hid h
  obtain ⟨i0, hi0⟩ : ∃ i : Nat, i = m - a := ⟨_, rfl⟩
  obtain ⟨j0, hj0⟩ : ∃ j : Nat, j = b - m := ⟨_, rfl⟩
  have ei : (m : Int) - (a : Int) = (i0 : Int) := by omega
  have ej : (b : Int) - (m : Int) = (j0 : Int) := by omega
  have q1 : (-9223372036854775808 : Int) ≤ (m : Int) - (a : Int) := by omega
  have q2 : (m : Int) - (a : Int) ≤ 9223372036854775807 := by omega
  have q3 : (-9223372036854775808 : Int) ≤ (b : Int) - (m : Int) := by omega
  have q4 : (b : Int) - (m : Int) ≤ 9223372036854775807 := by omega
  have hst : Hid ((fun k => rot (m - i0) m (m + j0) k) = rot a m b) := hid (by rw [show m - i0 = a by omega, show m + j0 = b by omega])
  have hb0 : 1 ≤ i0 ∧ 1 ≤ j0 ∧ i0 ≤ m ∧ m + j0 ≤ n := by omega
  clear h hi0 hj0
  go_enter Try.func74, Try.ntmps74
  go_wp2_with fail
  clear ei ej q1 q2 q3 q4
  go_loopw [10, 11] (fun iv jv wr => ∃ (i j : Nat) (s : Nat → Nat), (1 ≤ i ∧ 1 ≤ j ∧ i ≤ m ∧ m + j ≤ n) ∧ iv = .int .i64 (i : Int) ∧ jv = .int .i64 (j : Int) ∧ Hid ((fun k => s (rot (m - i) m (m + j) k)) = rot a m b) ∧ Hid (Hd wr g o n cap A (fun k => p (s k)) ∧ Kp [g] w wr)) (fun iv jv _ => (intOf iv).toNat + (intOf jv).toNat)
  case atStart => exact ⟨i0, j0, fun k => k, hb0, rfl, rfl, hst, hid ⟨HH.out, Kp.refl _ _⟩⟩
  case round =>
    obtain ⟨i, j, s, ⟨bi, bj, bm, bn⟩, rfl, rfl, hs, hr⟩ := hrel
    clear hb0 hst
    obtain ⟨x, hx⟩ : ∃ x : Nat, x = m - i := ⟨_, rfl⟩
    have ex : (m : Int) - (i : Int) = (x : Int) := by omega
    have q1 : (-9223372036854775808 : Int) ≤ (m : Int) - (i : Int) := by omega
    have q2 : (m : Int) - (i : Int) ≤ 9223372036854775807 := by omega
    by_cases hij : i = j
    · subst hij
      have hne : ((i : Int) != (i : Int)) = false := by simp
      have cS := hid (cSwapR g o n cap A (fun k => p (s k)) x m i f wr hr.out.1 (by omega) (by omega) hn hcap)
      have hs2 : Hid ((fun k => s (swR x m i k)) = rot a m b) := hid (by rw [← hs.out, rot_end m i bm, hx])
      have KR := hid hr.out.2
      clear hx hs hr
      go_wp2_with fail
      refine cS.out.mono ?_
      rintro e w1 ⟨⟨v, rfl⟩, hd, k1⟩
      have HF := hid (And.intro hd (KR.out.trans k1 (by simp)))
      clear hd k1
      go_wp2_with fail
      go_end0
      refine ⟨⟨_, rfl⟩, ?_, HF.out.2⟩
      rw [← hs2.out]
      exact HF.out.1
    have hne : ((i : Int) != (j : Int)) = true := by simp; omega
    by_cases hgt : j < i
    · have dg : decide ((j : Int) < (i : Int)) = true := by simp; omega
      have cS := hid (cSwapR g o n cap A (fun k => p (s k)) x m j f wr hr.out.1 (by omega) (by omega) hn hcap)
      have hs2 : Hid ((fun k => s (swR x m j (rot (m - (i - j)) m (m + j) k))) = rot a m b) := hid (by rw [← hs.out, rot_step1 m i j bm hgt, hx])
      have KR := hid hr.out.2
      obtain ⟨i', hi'⟩ : ∃ i' : Nat, i' = i - j := ⟨_, rfl⟩
      have ei : (i : Int) - (j : Int) = (i' : Int) := by omega
      have q3 : (-9223372036854775808 : Int) ≤ (i : Int) - (j : Int) := by omega
      have q4 : (i : Int) - (j : Int) ≤ 9223372036854775807 := by omega
      rw [← hi'] at hs2
      have hb : 1 ≤ i' ∧ 1 ≤ j ∧ i' ≤ m ∧ m + j ≤ n := by omega
      have hdec : i' + j < i + j := by omega
      clear hx hs hr hi' hij
      go_wp2_with fail
      refine cS.out.mono ?_
      rintro e w1 ⟨⟨v, rfl⟩, hd, k1⟩
      have HF := hid (And.intro hd (KR.out.trans k1 (by simp)))
      clear hd k1
      go_wp2_with fail
      exact ⟨⟨i', j, fun k => s (swR x m j k), hb, rfl, rfl, hs2, HF⟩, by simp [intOf]; omega⟩
    · have dg : decide ((j : Int) < (i : Int)) = false := by simp; omega
      obtain ⟨z, hz⟩ : ∃ z : Nat, z = m + j := ⟨_, rfl⟩
      obtain ⟨y, hy⟩ : ∃ y : Nat, y = m + j - i := ⟨_, rfl⟩
      have ez : (m : Int) + (j : Int) = (z : Int) := by omega
      have ey : (z : Int) - (i : Int) = (y : Int) := by omega
      have q5 : (-9223372036854775808 : Int) ≤ (m : Int) + (j : Int) := by omega
      have q6 : (m : Int) + (j : Int) ≤ 9223372036854775807 := by omega
      have q7 : (-9223372036854775808 : Int) ≤ (z : Int) - (i : Int) := by omega
      have q8 : (z : Int) - (i : Int) ≤ 9223372036854775807 := by omega
      have cS := hid (cSwapR g o n cap A (fun k => p (s k)) x y i f wr hr.out.1 (by omega) (by omega) hn hcap)
      have hs2 : Hid ((fun k => s (swR x y i (rot (m - i) m (m + (j - i)) k))) = rot a m b) := hid (by rw [← hs.out, rot_step2 m i j bm (by omega), hx, hy])
      have KR := hid hr.out.2
      obtain ⟨j', hj'⟩ : ∃ j' : Nat, j' = j - i := ⟨_, rfl⟩
      have ej : (j : Int) - (i : Int) = (j' : Int) := by omega
      have q3 : (-9223372036854775808 : Int) ≤ (j : Int) - (i : Int) := by omega
      have q4 : (j : Int) - (i : Int) ≤ 9223372036854775807 := by omega
      rw [← hj'] at hs2
      have hb : 1 ≤ i ∧ 1 ≤ j' ∧ i ≤ m ∧ m + j' ≤ n := by omega
      have hdec : i + j' < i + j := by omega
      clear hx hs hr hj' hy hz hij
      go_wp2_with fail
      refine cS.out.mono ?_
      rintro e w1 ⟨⟨v, rfl⟩, hd, k1⟩
      have HF := hid (And.intro hd (KR.out.trans k1 (by simp)))
      clear hd k1
      go_wp2_with fail
      exact ⟨⟨i, j', fun k => s (swR x y i k), hb, rfl, rfl, hs2, HF⟩, by simp [intOf]; omega⟩
end Go.Proofs.Ytohkjikhlakglaa
end

section
namespace Go.Proofs.Ytohkjikhlakglaa
open Go.RowKit Go.Hay
set_option linter.unusedVariables false
set_option linter.unusedSimpArgs false

/-- What the order that is handed in answers. -/
structure CmpOk (g n : Nat) (A : Nat → Vs) (cv : Value) (cf : Nat → Nat → Int) (Inv : World → Prop) : Prop where
  calls : ∀ W x y, Inv W → x < n → y < n → Calls Try.prog 38 #[(A x).v, (A y).v, cv] W fun e w' => e = .returned (.int .i64 (cf x y)) ∧ Kp [] W w'
  keep : ∀ W W', Inv W → Kp [g] W W' → Inv W'
  swo : Swo (fun x y => cf x y < 0)
set_option maxHeartbeats 16000000 in
set_option maxRecDepth 100000 in
theorem cIns (g o n cap : Nat) (A : Nat → Vs) (cv : Value) (cf : Nat → Nat → Int) (Inv : World → Prop) (hC : CmpOk g n A cv cf Inv) (p : Nat → Nat) (a b : Nat) (w : World) (h : Hd w g o n cap A p) (hI : Inv w) (hid0 : ∀ k, a ≤ k → k < b → p k = k) (h1 : a ≤ b) (h3 : b ≤ n) (hn : n ≤ 4000000000000) (hcap : n ≤ cap) : Calls Try.prog 66 #[.slice (some ⟨g, o, none⟩) n cap, .int .i64 (a : Int), .int .i64 (b : Int), .func (.func 38) #[] #[cv]] w fun e w' => (∃ v, e = .returned v) ∧ ∃ s, PermIn a b s ∧ Srt (fun x y => cf x y < 0) (fun k => p (s k)) a b ∧ Hd w' g o n cap A (fun k => p (s k)) ∧ Kp [g] w w' := by
  have HC := hid hC
  have HI := hid hI
  have HH := hid h
  have HID := hid hid0
  have q1 : (-9223372036854775808 : Int) ≤ (a : Int) + 1 := by omega
  have q2 : (a : Int) + 1 ≤ 9223372036854775807 := by omega
  clear hC hI h hid0
  by_cases hab : a = b
  · subst hab
    have d0 : decide ((a : Int) + 1 < (a : Int)) = false := by simp; omega
    have d1 : ¬ ((a : Int) + 1 < (a : Int)) := by omega
    go_enter Try.func66, Try.ntmps66
    go_wp2_with fail
    go_loopw [8, 9] (fun iv _ wr => iv = .int .i64 ((a : Int) + 1) ∧ wr = w) (fun _ _ _ => 0)
    case atStart => exact ⟨rfl, rfl⟩
    case round =>
      obtain ⟨rfl, rfl⟩ := hrel
      go_wp2_with fail
      go_end0
      exact ⟨⟨_, rfl⟩, fun k => k, PermIn.id _ _, Srt.one _ _ _ _ (by omega), HH.out, Kp.refl _ _⟩
  go_enter Try.func66, Try.ntmps66
  go_wp2_with fail
  go_loopw [8, 9] (fun iv _ wr => ∃ (i : Nat) (s : Nat → Nat), (a + 1 ≤ i ∧ i ≤ b) ∧ iv = .int .i64 (i : Int) ∧ Hid (PermIn a i s ∧ Srt (fun x y => cf x y < 0) (fun k => p (s k)) a i) ∧ Hid (Hd wr g o n cap A (fun k => p (s k)) ∧ Kp [g] w wr)) (fun iv _ _ => b - (intOf iv).toNat)
  case atStart => exact ⟨a + 1, fun k => k, by omega, by go_num, hid ⟨PermIn.id _ _, Srt.one _ _ _ _ (by omega)⟩, hid ⟨HH.out, Kp.refl _ _⟩⟩
  case round =>
    obtain ⟨i, s, ⟨bi, bb⟩, rfl, hs, hr⟩ := hrel
    clear q1 q2
    have i5 : (i : Int) + 1 ≤ 9223372036854775807 := by omega
    by_cases hlt : i < b
    · have i6 : (i : Int) < (b : Int) := by omega
      obtain ⟨P, hP⟩ : ∃ P, Hid (P = fun k => p (s k)) := ⟨_, hid rfl⟩
      rw [← hP.out] at hr hs
      have hPi : Hid (P i = i) := hid (by rw [hP.out]; show p (s i) = i; rw [hs.out.1.2.1 i (by omega)]; exact HID.out i (by omega) hlt)
      have hPk : Hid (∀ k, a ≤ k → k < i → a ≤ P k ∧ P k < i) := hid (fun k g1 g2 => by
        rw [hP.out]
        show a ≤ p (s k) ∧ p (s k) < i
        have := hs.out.1.1 k g1 g2
        rw [HID.out (s k) this.1 (by omega)]
        exact this)
      have hLow : Hid (Low P a i (i + 1)) := hid (fun x y g1 g2 g3 g4 => by
        obtain rfl : y = i := by omega
        rw [hPi.out]
        exact (hPk.out x g1 g2).2)
      go_wp2_with fail
      go_loopw [9] (fun jv wn => ∃ j : Nat, (a ≤ j ∧ j ≤ i) ∧ jv = .int .i64 (j : Int) ∧ Hid (j = i ∨ cf (P i) (P j) < 0) ∧ Hid (Hd wn g o n cap A (fun k => P (rot j i (i + 1) k)) ∧ Kp [g] w wn)) (fun jv _ => (intOf jv).toNat)
      case atStart => exact ⟨i, by omega, rfl, hid (.inl rfl), hid ⟨by rw [rot_left]; exact hr.out.1, hr.out.2⟩⟩
      case round =>
        obtain ⟨j, ⟨ja, ji⟩, rfl, hj, hw⟩ := hrel
        clear hr
        by_cases hja : j = a
        · have hfin : Hid (PermIn a (i + 1) (fun k => s (rot j i (i + 1) k)) ∧ Srt (fun x y => cf x y < 0) (fun k => p (s (rot j i (i + 1) k))) a (i + 1)) := hid ⟨(hs.out.1.mono (Nat.le_refl _) (by omega)).comp (rot_perm ja ji (by omega) (Nat.le_refl _)), by
            have := ins_left HC.out.swo ja ji hs.out.2 hLow.out hj.out (.inl hja)
            rw [hP.out] at this
            exact this⟩
          have hw2 : Hid (Hd wr g o n cap A (fun k => p (s (rot j i (i + 1) k))) ∧ Kp [g] w wr) := hid ⟨by have := hw.out.1; rw [hP.out] at this; exact this, hw.out.2⟩
          have hne : decide ((a : Int) < (j : Int)) = false := by simp; omega
          have hneN : decide (a < j) = false := by simp; omega
          have hng : ¬ ((a : Int) < (j : Int)) := by omega
          clear hj hw hja
          go_wp2_with fail
          refine wp_region_held_drew (S := fun _ => True) (by kernel_rfl) trivial (fun hHeld => ?_)
          have hw3 : Hid (Hd wr.drew g o n cap A (fun k => p (s (rot j i (i + 1) k))) ∧ Kp [g] w wr.drew) := hid ⟨hw2.out.1.kept (Kp.refl [] wr).drew, hw2.out.2.drew⟩
          generalize wr.drew = Wd at *
          clear hw2
          refine wpAnyH_take (i := 0) (v := ?_) rfl (by kernel_rfl) (by kernel_rfl) (by kernel_rfl) (fun _ _ _ h => h) (Or.inl ⟨by rfl, ?_⟩) (by assumption) ?_
          rotate_left
          · intro w hSw; (try dsimp only at hSw); go_simp <;> with_reducible rfl
          try simp only [Act.put, List.getElem_toArray, List.getElem_cons_zero, List.getElem_cons_succ, List.setIfInBounds_toArray, List.set_cons_zero, List.set_cons_succ]
          refine wpAnyH_take (i := 1) (v := ?_) rfl (by kernel_rfl) (by kernel_rfl) (by kernel_rfl) (fun _ _ _ h => h) (Or.inl ⟨by rfl, ?_⟩) (by assumption) ?_
          rotate_left
          · intro w hSw; (try dsimp only at hSw); go_simp <;> with_reducible rfl
          try simp only [Act.put, List.getElem_toArray, List.getElem_cons_zero, List.getElem_cons_succ, List.setIfInBounds_toArray, List.set_cons_zero, List.set_cons_succ]
          refine wpAnyH_take (i := 2) (v := ?_) rfl (by kernel_rfl) (by kernel_rfl) (by kernel_rfl) (fun _ _ _ h => h) (Or.inl ⟨by rfl, ?_⟩) (by assumption) ?_
          rotate_left
          · intro w hSw; (try dsimp only at hSw); go_simp <;> (try simp only [hne, hneN]) <;> with_reducible rfl
          try simp only [Act.put, List.getElem_toArray, List.getElem_cons_zero, List.getElem_cons_succ, List.setIfInBounds_toArray, List.set_cons_zero, List.set_cons_succ]
          try simp only [hne, hneN]
          refine wpAnyH_take (i := 3) (v := ?_) rfl (by kernel_rfl) (by kernel_rfl) (by kernel_rfl) (fun _ _ _ h => h) (Or.inl ⟨by rfl, ?_⟩) (by assumption) ?_
          rotate_left
          · intro w hSw; (try dsimp only at hSw); go_simp <;> with_reducible rfl
          try simp only [Act.put, List.getElem_toArray, List.getElem_cons_zero, List.getElem_cons_succ, List.setIfInBounds_toArray, List.set_cons_zero, List.set_cons_succ]
          refine wpAnyH_take (i := 4) (v := undef) rfl (by kernel_rfl) (by kernel_rfl) (by kernel_rfl) (fun _ _ _ h => h) (Or.inr ⟨by rfl, rfl⟩) (by assumption) ?_
          try simp only [Act.put, List.getElem_toArray, List.getElem_cons_zero, List.getElem_cons_succ, List.setIfInBounds_toArray, List.set_cons_zero, List.set_cons_succ]
          refine wpAnyH_take (i := 5) (v := undef) rfl (by kernel_rfl) (by kernel_rfl) (by kernel_rfl) (fun _ _ _ h => h) (Or.inr ⟨by rfl, rfl⟩) (by assumption) ?_
          try simp only [Act.put, List.getElem_toArray, List.getElem_cons_zero, List.getElem_cons_succ, List.setIfInBounds_toArray, List.set_cons_zero, List.set_cons_succ]
          refine wpAnyH_take (i := 6) (v := undef) rfl (by kernel_rfl) (by kernel_rfl) (by kernel_rfl) (fun _ _ _ h => h) (Or.inr ⟨by rfl, rfl⟩) (by assumption) ?_
          try simp only [Act.put, List.getElem_toArray, List.getElem_cons_zero, List.getElem_cons_succ, List.setIfInBounds_toArray, List.set_cons_zero, List.set_cons_succ]
          refine wpAnyH_take (i := 7) (v := undef) rfl (by kernel_rfl) (by kernel_rfl) (by kernel_rfl) (fun _ _ _ h => h) (Or.inr ⟨by rfl, rfl⟩) (by assumption) ?_
          try simp only [Act.put, List.getElem_toArray, List.getElem_cons_zero, List.getElem_cons_succ, List.setIfInBounds_toArray, List.set_cons_zero, List.set_cons_succ]
          refine wpAnyH_take (i := 8) (v := undef) rfl (by kernel_rfl) (by kernel_rfl) (by kernel_rfl) (fun _ _ _ h => h) (Or.inr ⟨by rfl, rfl⟩) (by assumption) ?_
          try simp only [Act.put, List.getElem_toArray, List.getElem_cons_zero, List.getElem_cons_succ, List.setIfInBounds_toArray, List.set_cons_zero, List.set_cons_succ]
          refine wpAnyH_take (i := 9) (v := undef) rfl (by kernel_rfl) (by kernel_rfl) (by kernel_rfl) (fun _ _ _ h => h) (Or.inr ⟨by rfl, rfl⟩) (by assumption) ?_
          try simp only [Act.put, List.getElem_toArray, List.getElem_cons_zero, List.getElem_cons_succ, List.setIfInBounds_toArray, List.set_cons_zero, List.set_cons_succ]
          refine wpAnyH_take (i := 10) (v := undef) rfl (by kernel_rfl) (by kernel_rfl) (by kernel_rfl) (fun _ _ _ h => h) (Or.inr ⟨by rfl, rfl⟩) (by assumption) ?_
          try simp only [Act.put, List.getElem_toArray, List.getElem_cons_zero, List.getElem_cons_succ, List.setIfInBounds_toArray, List.set_cons_zero, List.set_cons_succ]
          refine wpAnyH_take (i := 11) (v := undef) rfl (by kernel_rfl) (by kernel_rfl) (by kernel_rfl) (fun _ _ _ h => h) (Or.inr ⟨by rfl, rfl⟩) (by assumption) ?_
          try simp only [Act.put, List.getElem_toArray, List.getElem_cons_zero, List.getElem_cons_succ, List.setIfInBounds_toArray, List.set_cons_zero, List.set_cons_succ]
          refine wpAnyH_take (i := 12) (v := undef) rfl (by kernel_rfl) (by kernel_rfl) (by kernel_rfl) (fun _ _ _ h => h) (Or.inr ⟨by rfl, rfl⟩) (by assumption) ?_
          try simp only [Act.put, List.getElem_toArray, List.getElem_cons_zero, List.getElem_cons_succ, List.setIfInBounds_toArray, List.set_cons_zero, List.set_cons_succ]
          refine wpAnyH_take (i := 13) (v := undef) rfl (by kernel_rfl) (by kernel_rfl) (by kernel_rfl) (fun _ _ _ h => h) (Or.inr ⟨by rfl, rfl⟩) (by assumption) ?_
          try simp only [Act.put, List.getElem_toArray, List.getElem_cons_zero, List.getElem_cons_succ, List.setIfInBounds_toArray, List.set_cons_zero, List.set_cons_succ]
          refine wpAnyH_take (i := 14) (v := undef) rfl (by kernel_rfl) (by kernel_rfl) (by kernel_rfl) (fun _ _ _ h => h) (Or.inr ⟨by rfl, rfl⟩) (by assumption) ?_
          try simp only [Act.put, List.getElem_toArray, List.getElem_cons_zero, List.getElem_cons_succ, List.setIfInBounds_toArray, List.set_cons_zero, List.set_cons_succ]
          refine wpAnyH_take (i := 15) (v := undef) rfl (by kernel_rfl) (by kernel_rfl) (by kernel_rfl) (fun _ _ _ h => h) (Or.inr ⟨by rfl, rfl⟩) (by assumption) ?_
          try simp only [Act.put, List.getElem_toArray, List.getElem_cons_zero, List.getElem_cons_succ, List.setIfInBounds_toArray, List.set_cons_zero, List.set_cons_succ]
          refine wpAnyH_take (i := 16) (v := ?_) rfl (by kernel_rfl) (by kernel_rfl) (by kernel_rfl) (fun _ _ _ h => h) (Or.inl ⟨by rfl, ?_⟩) (by assumption) ?_
          rotate_left
          · intro w hSw; (try dsimp only at hSw); go_simp <;> with_reducible rfl
          try simp only [Act.put, List.getElem_toArray, List.getElem_cons_zero, List.getElem_cons_succ, List.setIfInBounds_toArray, List.set_cons_zero, List.set_cons_succ]
          refine wpAnyH_done (by kernel_rfl) ?_ _
          clear hHeld
          go_wp2_with fail
          exact ⟨⟨i + 1, fun k => s (rot j i (i + 1) k), by omega, by go_num, hfin, hw3⟩, by simp [intOf]; omega⟩
        obtain ⟨y, hy⟩ : ∃ y : Nat, y = j - 1 := ⟨_, rfl⟩
        have ey : (j : Int) - 1 = (y : Int) := by omega
        have wy : IntKind.i64.wrap ((j : Int) - 1) = (y : Int) := by rw [ey, IntKind.wrap_i64]; omega
        have wy2 : IntKind.i64.wrap (y : Int) = (y : Int) := by rw [IntKind.wrap_i64]; omega
        have dg : decide ((a : Int) < (j : Int)) = true := by simp; omega
        have dgN : decide (a < j) = true := by simp; omega
        have dg2 : (a : Int) < (j : Int) := by omega
        have i1 : (0 : Int) ≤ (j : Int) := by omega
        have i2 : (j : Int) < (n : Int) := by omega
        have i3 : (0 : Int) ≤ (y : Int) := by omega
        have i4 : (y : Int) < (n : Int) := by omega
        have b1 : (-9223372036854775808 : Int) ≤ (j : Int) - 1 := by omega
        have b2 : (j : Int) - 1 ≤ 9223372036854775807 := by omega
        have hjy : j = y + 1 := by omega
        obtain ⟨Q, hQ⟩ : ∃ Q, Hid (Q = fun k => P (rot j i (i + 1) k)) := ⟨_, hid rfl⟩
        have hQj : Hid (Q j = P i) := hid (by rw [hQ.out]; show P (rot j i (i + 1) j) = P i; rw [rot_first j i (i + 1) j (by omega) (by omega) ji (by omega), show j + (i - j) = i by omega])
        have hQy : Hid (Q y = P y) := hid (by rw [hQ.out]; show P (rot j i (i + 1) y) = P y; rw [rot_out j i (i + 1) y (by omega)])
        rw [← hQ.out] at hw
        have hQn : Q j < n ∧ Q y < n := by
          rw [hQj.out, hQy.out, hPi.out]
          have := hPk.out y (by omega) (by omega)
          omega
        have cC := hid (fun W' (k : Kp [] wr W') => HC.out.calls W' (Q j) (Q y) (HC.out.keep _ _ HI.out (hw.out.2.trans k (by simp))) hQn.1 hQn.2)
        obtain ⟨x0, _⟩ := hw.out.1.cells j (by omega)
        obtain ⟨y0, _⟩ := hw.out.1.cells y (by omega)
        obtain ⟨V1, hV1⟩ : ∃ V, Hid (V = A (Q j)) := ⟨_, hid rfl⟩
        obtain ⟨V2, hV2⟩ : ∃ V, Hid (V = A (Q y)) := ⟨_, hid rfl⟩
        rw [← hV1.out] at x0 cC
        rw [← hV2.out] at y0 cC
        obtain ⟨C, hCf⟩ : ∃ C, Hid (cf (Q j) (Q y) = C) := ⟨_, hid rfl⟩
        rw [hCf.out] at cC
        obtain ⟨a1, c1, l1⟩ := V1
        obtain ⟨a2, c2, l2⟩ := V2
        simp only [Vs.v] at cC
        dsimp only at *
        have hF : Hid (∀ W', Kp [] wr W' → (W'.cell? ⟨g, o + j, none⟩ = some (.slice a1 l1.length c1) ∧ W'.cell? ⟨g, o + y, none⟩ = some (.slice a2 l2.length c2))) := fun W' k => ⟨kpAt k x0, kpAt k y0⟩
        have zg : g < wr.heap.size := hw.out.1.lt
        clear x0 y0
        have HYJ := hid (And.intro hy hjy)
        have HJA := hid hja
        clear hy hjy hja
        go_wp2_with fail
        refine wp_region_held_drew (S := fun W' => W'.cell? ⟨g, o + j, none⟩ = some (.slice a1 l1.length c1) ∧ W'.cell? ⟨g, o + y, none⟩ = some (.slice a2 l2.length c2)) (by kernel_rfl) ?_ (fun hHeld => ?_)
        · exact hF.out _ (Kp.refl [] wr).drew
        have KD : Hid (Kp [] wr wr.drew) := hid (Kp.refl [] wr).drew
        generalize wr.drew = Wd at *
        refine wpAnyH_take (i := 0) (v := ?_) rfl (by kernel_rfl) (by kernel_rfl) (by kernel_rfl) (fun _ _ _ h => h) (Or.inl ⟨by rfl, ?_⟩) (by assumption) ?_
        rotate_left
        · intro w hSw; (try dsimp only at hSw); go_simp <;> with_reducible rfl
        try simp only [Act.put, List.getElem_toArray, List.getElem_cons_zero, List.getElem_cons_succ, List.setIfInBounds_toArray, List.set_cons_zero, List.set_cons_succ]
        refine wpAnyH_take (i := 1) (v := ?_) rfl (by kernel_rfl) (by kernel_rfl) (by kernel_rfl) (fun _ _ _ h => h) (Or.inl ⟨by rfl, ?_⟩) (by assumption) ?_
        rotate_left
        · intro w hSw; (try dsimp only at hSw); go_simp <;> with_reducible rfl
        try simp only [Act.put, List.getElem_toArray, List.getElem_cons_zero, List.getElem_cons_succ, List.setIfInBounds_toArray, List.set_cons_zero, List.set_cons_succ]
        refine wpAnyH_take (i := 2) (v := ?_) rfl (by kernel_rfl) (by kernel_rfl) (by kernel_rfl) (fun _ _ _ h => h) (Or.inl ⟨by rfl, ?_⟩) (by assumption) ?_
        rotate_left
        · intro w hSw; (try dsimp only at hSw); go_simp <;> (try simp only [dg, dgN]) <;> with_reducible rfl
        try simp only [Act.put, List.getElem_toArray, List.getElem_cons_zero, List.getElem_cons_succ, List.setIfInBounds_toArray, List.set_cons_zero, List.set_cons_succ]
        try simp only [dg, dgN]
        refine wpAnyH_take (i := 3) (v := ?_) rfl (by kernel_rfl) (by kernel_rfl) (by kernel_rfl) (fun _ _ _ h => h) (Or.inl ⟨by rfl, ?_⟩) (by assumption) ?_
        rotate_left
        · intro w hSw; (try dsimp only at hSw); go_simp <;> with_reducible rfl
        try simp only [Act.put, List.getElem_toArray, List.getElem_cons_zero, List.getElem_cons_succ, List.setIfInBounds_toArray, List.set_cons_zero, List.set_cons_succ]
        refine wpAnyH_take (i := 4) (v := ?_) rfl (by kernel_rfl) (by kernel_rfl) (by kernel_rfl) (fun _ _ _ h => h) (Or.inl ⟨by rfl, ?_⟩) (by assumption) ?_
        rotate_left
        · intro w hSw; (try dsimp only at hSw); go_simp <;> with_reducible rfl
        try simp only [Act.put, List.getElem_toArray, List.getElem_cons_zero, List.getElem_cons_succ, List.setIfInBounds_toArray, List.set_cons_zero, List.set_cons_succ]
        refine wpAnyH_take (i := 5) (v := ?_) rfl (by kernel_rfl) (by kernel_rfl) (by kernel_rfl) (fun _ _ _ h => h) (Or.inl ⟨by rfl, ?_⟩) (by assumption) ?_
        rotate_left
        · intro w hSw; (try dsimp only at hSw); go_simp <;> with_reducible rfl
        try simp only [Act.put, List.getElem_toArray, List.getElem_cons_zero, List.getElem_cons_succ, List.setIfInBounds_toArray, List.set_cons_zero, List.set_cons_succ]
        refine wpAnyH_take (i := 6) (v := ?_) rfl (by kernel_rfl) (by kernel_rfl) (by kernel_rfl) (fun _ _ _ h => h) (Or.inl ⟨by rfl, ?_⟩) (by assumption) ?_
        rotate_left
        · intro w hSw; (try dsimp only at hSw); go_simp <;> with_reducible rfl
        try simp only [Act.put, List.getElem_toArray, List.getElem_cons_zero, List.getElem_cons_succ, List.setIfInBounds_toArray, List.set_cons_zero, List.set_cons_succ]
        refine wpAnyH_take (i := 7) (v := ?_) rfl (by kernel_rfl) (by kernel_rfl) (by kernel_rfl) (fun _ _ _ h => h) (Or.inl ⟨by rfl, ?_⟩) (by assumption) ?_
        rotate_left
        · intro w hSw; (try dsimp only at hSw); go_simp <;> with_reducible rfl
        try simp only [Act.put, List.getElem_toArray, List.getElem_cons_zero, List.getElem_cons_succ, List.setIfInBounds_toArray, List.set_cons_zero, List.set_cons_succ]
        refine wpAnyH_take (i := 8) (v := ?_) rfl (by kernel_rfl) (by kernel_rfl) (by kernel_rfl) (fun _ _ _ h => h) (Or.inl ⟨by rfl, ?_⟩) (by assumption) ?_
        rotate_left
        · intro w hSw; (try dsimp only at hSw); go_simp <;> with_reducible rfl
        try simp only [Act.put, List.getElem_toArray, List.getElem_cons_zero, List.getElem_cons_succ, List.setIfInBounds_toArray, List.set_cons_zero, List.set_cons_succ]
        refine wpAnyH_take (i := 9) (v := ?_) rfl (by kernel_rfl) (by kernel_rfl) (by kernel_rfl) (fun _ _ _ h => h) (Or.inl ⟨by rfl, ?_⟩) (by assumption) ?_
        rotate_left
        · intro w hSw; (try dsimp only at hSw); go_simp <;> with_reducible rfl
        try simp only [Act.put, List.getElem_toArray, List.getElem_cons_zero, List.getElem_cons_succ, List.setIfInBounds_toArray, List.set_cons_zero, List.set_cons_succ]
        refine wpAnyH_take (i := 10) (v := ?_) rfl (by kernel_rfl) (by kernel_rfl) (by kernel_rfl) (fun _ _ _ h => h) (Or.inl ⟨by rfl, ?_⟩) (by assumption) ?_
        rotate_left
        · intro w hSw; (try dsimp only at hSw); go_simp <;> with_reducible rfl
        try simp only [Act.put, List.getElem_toArray, List.getElem_cons_zero, List.getElem_cons_succ, List.setIfInBounds_toArray, List.set_cons_zero, List.set_cons_succ]
        refine wpAnyH_take (i := 11) (v := ?_) rfl (by kernel_rfl) (by kernel_rfl) (by kernel_rfl) (fun _ _ _ h => h) (Or.inl ⟨by rfl, ?_⟩) (by assumption) ?_
        rotate_left
        · intro w hSw; (try dsimp only at hSw); go_simp <;> (try simp only [wy, wy2]) <;> with_reducible rfl
        try simp only [Act.put, List.getElem_toArray, List.getElem_cons_zero, List.getElem_cons_succ, List.setIfInBounds_toArray, List.set_cons_zero, List.set_cons_succ]
        try simp only [wy, wy2]
        refine wpAnyH_take (i := 12) (v := ?_) rfl (by kernel_rfl) (by kernel_rfl) (by kernel_rfl) (fun _ _ _ h => h) (Or.inl ⟨by rfl, ?_⟩) (by assumption) ?_
        rotate_left
        · intro w hSw; (try dsimp only at hSw); go_simp <;> with_reducible rfl
        try simp only [Act.put, List.getElem_toArray, List.getElem_cons_zero, List.getElem_cons_succ, List.setIfInBounds_toArray, List.set_cons_zero, List.set_cons_succ]
        refine wpAnyH_take (i := 13) (v := ?_) rfl (by kernel_rfl) (by kernel_rfl) (by kernel_rfl) (fun _ _ _ h => h) (Or.inl ⟨by rfl, ?_⟩) (by assumption) ?_
        rotate_left
        · intro w hSw; (try dsimp only at hSw); go_simp <;> with_reducible rfl
        try simp only [Act.put, List.getElem_toArray, List.getElem_cons_zero, List.getElem_cons_succ, List.setIfInBounds_toArray, List.set_cons_zero, List.set_cons_succ]
        refine wpAnyH_ready (rs := [14]) (by kernel_rfl) (by simp) ?_
        refine AllReadyH.cons rfl (fun K hK => ?_) AllReadyH.nil
        go_simp
        refine (cC.out Wd KD.out).mono ?_
        rintro e u1 ⟨rfl, l1'⟩
        (try go_wp2_with fail)
        refine hK.out _ _ ?_ (fun hHeld => ?_)
        · exact hF.out _ (KD.out.trans l1' (by simp))
        clear hK K
        try simp only [Act.put, List.getElem_toArray, List.getElem_cons_zero, List.getElem_cons_succ, List.setIfInBounds_toArray, List.set_cons_zero, List.set_cons_succ]
        have K1 := hid (KD.out.trans l1' (by simp))
        clear l1' KD
        have hw1 : Hid (Hd u1 g o n cap A Q ∧ Kp [g] w u1) := hid ⟨hw.out.1.kept K1.out, hw.out.2.trans K1.out (by simp)⟩
        by_cases hc0 : C < 0
        · have dc : decide (C < 0) = true := by simpa using hc0
          refine wpAnyH_take (i := 15) (v := ?_) rfl (by kernel_rfl) (by kernel_rfl) (by kernel_rfl) (fun _ _ _ h => h) (Or.inl ⟨by rfl, ?_⟩) (by assumption) ?_
          rotate_left
          · intro w hSw; (try dsimp only at hSw); go_simp <;> (try simp only [dc]) <;> with_reducible rfl
          try simp only [Act.put, List.getElem_toArray, List.getElem_cons_zero, List.getElem_cons_succ, List.setIfInBounds_toArray, List.set_cons_zero, List.set_cons_succ]
          try simp only [dc]
          refine wpAnyH_take (i := 16) (v := ?_) rfl (by kernel_rfl) (by kernel_rfl) (by kernel_rfl) (fun _ _ _ h => h) (Or.inl ⟨by rfl, ?_⟩) (by assumption) ?_
          rotate_left
          · intro w hSw; (try dsimp only at hSw); go_simp <;> with_reducible rfl
          try simp only [Act.put, List.getElem_toArray, List.getElem_cons_zero, List.getElem_cons_succ, List.setIfInBounds_toArray, List.set_cons_zero, List.set_cons_succ]
          refine wpAnyH_done (by kernel_rfl) ?_ _
          have hj2 : Hid (y = i ∨ cf (P i) (P y) < 0) := hid (.inr (by rw [← hQj.out, ← hQy.out, hCf.out]; exact hc0))
          clear hHeld hF cC hj hw hc0
          go_wp2_with fail
          refine wp_region_held_drew (S := fun _ => True) (by kernel_rfl) trivial (fun hHeld => ?_)
          have KD2 : Kp [] u1 u1.drew := (Kp.refl [] u1).drew
          have hd2 := hw1.out.1.kept KD2
          have hk2 := hid (hw1.out.2.trans KD2 (by simp))
          generalize u1.drew = Wd2 at *
          clear KD2 hw1 hV1 hV2
          obtain ⟨x0, fx0⟩ := hd2.cells j (by omega)
          obtain ⟨y0, fy0⟩ := hd2.cells y (by omega)
          have hsw := hd2.swap j y (by omega) (by omega)
          have hpc := put1_cells hd2 j y (by omega) (by omega)
          obtain ⟨U1, hU1⟩ : ∃ V, V = A (Q j) := ⟨_, rfl⟩
          obtain ⟨U2, hU2⟩ : ∃ V, V = A (Q y) := ⟨_, rfl⟩
          rw [← hU1] at x0 hsw
          rw [← hU2] at y0 hsw
          replace hpc := hpc U2
          obtain ⟨⟨u0, hu0⟩, gu0⟩ := hpc 0 (by omega)
          try simp only [Nat.add_zero] at hu0 gu0
          obtain ⟨W1, eW1⟩ : ∃ Y, (Wd2.setCell ⟨g, o + j, none⟩ (.slice U2.a U2.l.length U2.c)) = Y := ⟨_, rfl⟩
          have eP1 : put1 Wd2 g (o + j) U2 = W1 := eW1
          obtain ⟨W2, eW2⟩ : ∃ Y, (W1.setCell ⟨g, o + y, none⟩ (.slice U1.a U1.l.length U1.c)) = Y := ⟨_, rfl⟩
          have eP2 : put1 W1 g (o + y) U1 = W2 := eW2
          have kP1 : Kp [g] Wd2 W1 := by rw [← eP1]; exact put1_kp _ _ _ _
          have kP2 : Kp [g] W1 W2 := by rw [← eP2]; exact put1_kp _ _ _ _
          simp only [eP1] at hu0 gu0 hsw
          simp only [eP2] at hsw
          have zW1 := kP1.size
          have HSW := hid (And.intro hsw (kP1.trans kP2 (by simp)))
          have zg : g < Wd2.heap.size := hd2.lt
          have zg1 : g < W1.heap.size := by omega
          clear hpc hsw eP1 eP2 kP1 kP2 hU1 hU2 zW1
          obtain ⟨a3, c3, l3⟩ := U1
          obtain ⟨a4, c4, l4⟩ := U2
          dsimp only at *
          have hfin : Hid (Hd W2 g o n cap A (fun k => P (rot y i (i + 1) k)) ∧ Kp [g] w W2) := hid ⟨by
            have := HSW.out.1
            rw [hQ.out] at this
            rw [rot_pull y i (by have := HYJ.out; omega), ← HYJ.out.2]
            exact this, hk2.out.trans HSW.out.2 (by simp)⟩
          have hya : a ≤ y ∧ y ≤ i := by have := HYJ.out; have := HJA.out; omega
          have hyj : y < j := by have := HYJ.out; omega
          clear hd2 HSW hk2
          refine wpAnyH_take (i := 0) (v := ?_) rfl (by kernel_rfl) (by kernel_rfl) (by kernel_rfl) (fun _ _ _ h => h) (Or.inl ⟨by rfl, ?_⟩) (by assumption) ?_
          rotate_left
          · intro w hSw; (try dsimp only at hSw); go_simp <;> with_reducible rfl
          try simp only [Act.put, List.getElem_toArray, List.getElem_cons_zero, List.getElem_cons_succ, List.setIfInBounds_toArray, List.set_cons_zero, List.set_cons_succ]
          refine wpAnyH_take (i := 1) (v := ?_) rfl (by kernel_rfl) (by kernel_rfl) (by kernel_rfl) (fun _ _ _ h => h) (Or.inl ⟨by rfl, ?_⟩) (by assumption) ?_
          rotate_left
          · intro w hSw; (try dsimp only at hSw); go_simp <;> with_reducible rfl
          try simp only [Act.put, List.getElem_toArray, List.getElem_cons_zero, List.getElem_cons_succ, List.setIfInBounds_toArray, List.set_cons_zero, List.set_cons_succ]
          refine wpAnyH_take (i := 2) (v := ?_) rfl (by kernel_rfl) (by kernel_rfl) (by kernel_rfl) (fun _ _ _ h => h) (Or.inl ⟨by rfl, ?_⟩) (by assumption) ?_
          rotate_left
          · intro w hSw; (try dsimp only at hSw); go_simp <;> with_reducible rfl
          try simp only [Act.put, List.getElem_toArray, List.getElem_cons_zero, List.getElem_cons_succ, List.setIfInBounds_toArray, List.set_cons_zero, List.set_cons_succ]
          refine wpAnyH_take (i := 3) (v := ?_) rfl (by kernel_rfl) (by kernel_rfl) (by kernel_rfl) (fun _ _ _ h => h) (Or.inl ⟨by rfl, ?_⟩) (by assumption) ?_
          rotate_left
          · intro w hSw; (try dsimp only at hSw); go_simp <;> with_reducible rfl
          try simp only [Act.put, List.getElem_toArray, List.getElem_cons_zero, List.getElem_cons_succ, List.setIfInBounds_toArray, List.set_cons_zero, List.set_cons_succ]
          refine wpAnyH_take (i := 4) (v := ?_) rfl (by kernel_rfl) (by kernel_rfl) (by kernel_rfl) (fun _ _ _ h => h) (Or.inl ⟨by rfl, ?_⟩) (by assumption) ?_
          rotate_left
          · intro w hSw; (try dsimp only at hSw); go_simp <;> (try simp only [wy, wy2]) <;> with_reducible rfl
          try simp only [Act.put, List.getElem_toArray, List.getElem_cons_zero, List.getElem_cons_succ, List.setIfInBounds_toArray, List.set_cons_zero, List.set_cons_succ]
          try simp only [wy, wy2]
          refine wpAnyH_take (i := 5) (v := ?_) rfl (by kernel_rfl) (by kernel_rfl) (by kernel_rfl) (fun _ _ _ h => h) (Or.inl ⟨by rfl, ?_⟩) (by assumption) ?_
          rotate_left
          · intro w hSw; (try dsimp only at hSw); go_simp <;> with_reducible rfl
          try simp only [Act.put, List.getElem_toArray, List.getElem_cons_zero, List.getElem_cons_succ, List.setIfInBounds_toArray, List.set_cons_zero, List.set_cons_succ]
          refine wpAnyH_take (i := 6) (v := ?_) rfl (by kernel_rfl) (by kernel_rfl) (by kernel_rfl) (fun _ _ _ h => h) (Or.inl ⟨by rfl, ?_⟩) (by assumption) ?_
          rotate_left
          · intro w hSw; (try dsimp only at hSw); go_simp <;> with_reducible rfl
          try simp only [Act.put, List.getElem_toArray, List.getElem_cons_zero, List.getElem_cons_succ, List.setIfInBounds_toArray, List.set_cons_zero, List.set_cons_succ]
          refine wpAnyH_take (i := 7) (v := ?_) rfl (by kernel_rfl) (by kernel_rfl) (by kernel_rfl) (fun _ _ _ h => h) (Or.inl ⟨by rfl, ?_⟩) (by assumption) ?_
          rotate_left
          · intro w hSw; (try dsimp only at hSw); go_simp <;> (try simp only [wy, wy2]) <;> with_reducible rfl
          try simp only [Act.put, List.getElem_toArray, List.getElem_cons_zero, List.getElem_cons_succ, List.setIfInBounds_toArray, List.set_cons_zero, List.set_cons_succ]
          try simp only [wy, wy2]
          refine wpAnyH_take (i := 8) (v := ?_) rfl (by kernel_rfl) (by kernel_rfl) (by kernel_rfl) (fun _ _ _ h => h) (Or.inl ⟨by rfl, ?_⟩) (by assumption) ?_
          rotate_left
          · intro w hSw; (try dsimp only at hSw); go_simp <;> with_reducible rfl
          try simp only [Act.put, List.getElem_toArray, List.getElem_cons_zero, List.getElem_cons_succ, List.setIfInBounds_toArray, List.set_cons_zero, List.set_cons_succ]
          refine wpAnyH_take (i := 10) (v := ?_) rfl (by kernel_rfl) (by kernel_rfl) (by kernel_rfl) (fun _ _ _ h => h) (Or.inl ⟨by rfl, ?_⟩) (by assumption) ?_
          rotate_left
          · intro w hSw; (try dsimp only at hSw); go_simp <;> with_reducible rfl
          try simp only [Act.put, List.getElem_toArray, List.getElem_cons_zero, List.getElem_cons_succ, List.setIfInBounds_toArray, List.set_cons_zero, List.set_cons_succ]
          refine wpAnyH_take (i := 11) (v := ?_) rfl (by kernel_rfl) (by kernel_rfl) (by kernel_rfl) (fun _ _ _ h => h) (Or.inl ⟨by rfl, ?_⟩) (by assumption) ?_
          rotate_left
          · intro w hSw; (try dsimp only at hSw); go_simp <;> with_reducible rfl
          try simp only [Act.put, List.getElem_toArray, List.getElem_cons_zero, List.getElem_cons_succ, List.setIfInBounds_toArray, List.set_cons_zero, List.set_cons_succ]
          refine wpAnyH_take (i := 12) (v := ?_) rfl (by kernel_rfl) (by kernel_rfl) (by kernel_rfl) (fun _ _ _ h => h) (Or.inl ⟨by rfl, ?_⟩) (by assumption) ?_
          rotate_left
          · intro w hSw; (try dsimp only at hSw); go_simp <;> with_reducible rfl
          try simp only [Act.put, List.getElem_toArray, List.getElem_cons_zero, List.getElem_cons_succ, List.setIfInBounds_toArray, List.set_cons_zero, List.set_cons_succ]
          refine wpAnyH_ready (rs := [9, 13]) (by kernel_rfl) (by simp) ?_
          refine AllReadyH.cons rfl (fun K hK => ?_) (AllReadyH.cons rfl (fun K hK => ?_) AllReadyH.nil)
          · go_simp
            (try go_wp2_with fail)
            refine hK.out _ _ trivial (fun hHeld => ?_)
            clear hK K
            try simp only [Act.put, List.getElem_toArray, List.getElem_cons_zero, List.getElem_cons_succ, List.setIfInBounds_toArray, List.set_cons_zero, List.set_cons_succ]
            refine wpAnyH_ready (rs := [13]) (by kernel_rfl) (by simp) ?_
            refine AllReadyH.cons rfl (fun K hK => ?_) AllReadyH.nil
            go_simp
            (try go_wp2_with fail)
            refine hK.out _ _ trivial (fun hHeld => ?_)
            clear hK K
            try simp only [Act.put, List.getElem_toArray, List.getElem_cons_zero, List.getElem_cons_succ, List.setIfInBounds_toArray, List.set_cons_zero, List.set_cons_succ]
            refine wpAnyH_take (i := 14) (v := ?_) rfl (by kernel_rfl) (by kernel_rfl) (by kernel_rfl) (fun _ _ _ h => h) (Or.inl ⟨by rfl, ?_⟩) (by assumption) ?_
            rotate_left
            · intro w hSw; (try dsimp only at hSw); go_simp <;> with_reducible rfl
            try simp only [Act.put, List.getElem_toArray, List.getElem_cons_zero, List.getElem_cons_succ, List.setIfInBounds_toArray, List.set_cons_zero, List.set_cons_succ]
            refine wpAnyH_ready (rs := [15]) (by kernel_rfl) (by simp) ?_
            refine AllReadyH.cons rfl (fun K hK => ?_) AllReadyH.nil
            go_simp
            (try go_wp2_with fail)
            refine hK.out _ _ trivial (fun hHeld => ?_)
            clear hK K
            try simp only [Act.put, List.getElem_toArray, List.getElem_cons_zero, List.getElem_cons_succ, List.setIfInBounds_toArray, List.set_cons_zero, List.set_cons_succ]
            refine wpAnyH_take (i := 16) (v := ?_) rfl (by kernel_rfl) (by kernel_rfl) (by kernel_rfl) (fun _ _ _ h => h) (Or.inl ⟨by rfl, ?_⟩) (by assumption) ?_
            rotate_left
            · intro w hSw; (try dsimp only at hSw); go_simp <;> with_reducible rfl
            try simp only [Act.put, List.getElem_toArray, List.getElem_cons_zero, List.getElem_cons_succ, List.setIfInBounds_toArray, List.set_cons_zero, List.set_cons_succ]
            refine wpAnyH_ready (rs := [17]) (by kernel_rfl) (by simp) ?_
            refine AllReadyH.cons rfl (fun K hK => ?_) AllReadyH.nil
            go_simp
            (try go_wp2_with fail)
            refine hK.out _ _ trivial (fun hHeld => ?_)
            clear hK K
            try simp only [Act.put, List.getElem_toArray, List.getElem_cons_zero, List.getElem_cons_succ, List.setIfInBounds_toArray, List.set_cons_zero, List.set_cons_succ]
            refine wpAnyH_done (by kernel_rfl) ?_ _
            clear hHeld
            go_wp2_with fail
            exact ⟨⟨y, hya, by go_num, hj2, hfin⟩, by simp [intOf]; omega⟩
          · go_simp
            (try go_wp2_with fail)
            refine hK.out _ _ trivial (fun hHeld => ?_)
            clear hK K
            try simp only [Act.put, List.getElem_toArray, List.getElem_cons_zero, List.getElem_cons_succ, List.setIfInBounds_toArray, List.set_cons_zero, List.set_cons_succ]
            refine wpAnyH_ready (rs := [9]) (by kernel_rfl) (by simp) ?_
            refine AllReadyH.cons rfl (fun K hK => ?_) AllReadyH.nil
            go_simp
            (try go_wp2_with fail)
            refine hK.out _ _ trivial (fun hHeld => ?_)
            clear hK K
            try simp only [Act.put, List.getElem_toArray, List.getElem_cons_zero, List.getElem_cons_succ, List.setIfInBounds_toArray, List.set_cons_zero, List.set_cons_succ]
            refine wpAnyH_take (i := 14) (v := ?_) rfl (by kernel_rfl) (by kernel_rfl) (by kernel_rfl) (fun _ _ _ h => h) (Or.inl ⟨by rfl, ?_⟩) (by assumption) ?_
            rotate_left
            · intro w hSw; (try dsimp only at hSw); go_simp <;> with_reducible rfl
            try simp only [Act.put, List.getElem_toArray, List.getElem_cons_zero, List.getElem_cons_succ, List.setIfInBounds_toArray, List.set_cons_zero, List.set_cons_succ]
            refine wpAnyH_ready (rs := [15]) (by kernel_rfl) (by simp) ?_
            refine AllReadyH.cons rfl (fun K hK => ?_) AllReadyH.nil
            go_simp
            (try go_wp2_with fail)
            refine hK.out _ _ trivial (fun hHeld => ?_)
            clear hK K
            try simp only [Act.put, List.getElem_toArray, List.getElem_cons_zero, List.getElem_cons_succ, List.setIfInBounds_toArray, List.set_cons_zero, List.set_cons_succ]
            refine wpAnyH_take (i := 16) (v := ?_) rfl (by kernel_rfl) (by kernel_rfl) (by kernel_rfl) (fun _ _ _ h => h) (Or.inl ⟨by rfl, ?_⟩) (by assumption) ?_
            rotate_left
            · intro w hSw; (try dsimp only at hSw); go_simp <;> with_reducible rfl
            try simp only [Act.put, List.getElem_toArray, List.getElem_cons_zero, List.getElem_cons_succ, List.setIfInBounds_toArray, List.set_cons_zero, List.set_cons_succ]
            refine wpAnyH_ready (rs := [17]) (by kernel_rfl) (by simp) ?_
            refine AllReadyH.cons rfl (fun K hK => ?_) AllReadyH.nil
            go_simp
            (try go_wp2_with fail)
            refine hK.out _ _ trivial (fun hHeld => ?_)
            clear hK K
            try simp only [Act.put, List.getElem_toArray, List.getElem_cons_zero, List.getElem_cons_succ, List.setIfInBounds_toArray, List.set_cons_zero, List.set_cons_succ]
            refine wpAnyH_done (by kernel_rfl) ?_ _
            clear hHeld
            go_wp2_with fail
            exact ⟨⟨y, hya, by go_num, hj2, hfin⟩, by simp [intOf]; omega⟩
        · have dc : decide (C < 0) = false := by simpa using hc0
          refine wpAnyH_take (i := 15) (v := ?_) rfl (by kernel_rfl) (by kernel_rfl) (by kernel_rfl) (fun _ _ _ h => h) (Or.inl ⟨by rfl, ?_⟩) (by assumption) ?_
          rotate_left
          · intro w hSw; (try dsimp only at hSw); go_simp <;> (try simp only [dc]) <;> with_reducible rfl
          try simp only [Act.put, List.getElem_toArray, List.getElem_cons_zero, List.getElem_cons_succ, List.setIfInBounds_toArray, List.set_cons_zero, List.set_cons_succ]
          try simp only [dc]
          refine wpAnyH_take (i := 16) (v := ?_) rfl (by kernel_rfl) (by kernel_rfl) (by kernel_rfl) (fun _ _ _ h => h) (Or.inl ⟨by rfl, ?_⟩) (by assumption) ?_
          rotate_left
          · intro w hSw; (try dsimp only at hSw); go_simp <;> with_reducible rfl
          try simp only [Act.put, List.getElem_toArray, List.getElem_cons_zero, List.getElem_cons_succ, List.setIfInBounds_toArray, List.set_cons_zero, List.set_cons_succ]
          refine wpAnyH_done (by kernel_rfl) ?_ _
          have hfin : Hid (PermIn a (i + 1) (fun k => s (rot j i (i + 1) k)) ∧ Srt (fun x y => cf x y < 0) (fun k => p (s (rot j i (i + 1) k))) a (i + 1)) := hid ⟨(hs.out.1.mono (Nat.le_refl _) (by omega)).comp (rot_perm ja ji (by omega) (Nat.le_refl _)), by
            have := ins_left HC.out.swo ja ji hs.out.2 hLow.out hj.out (.inr (by rw [← HYJ.out.1, ← hQj.out, ← hQy.out, hCf.out]; exact hc0))
            rw [hP.out] at this
            exact this⟩
          have hw2 : Hid (Hd u1 g o n cap A (fun k => p (s (rot j i (i + 1) k))) ∧ Kp [g] w u1) := hid ⟨by have := hw1.out.1; rw [hQ.out, hP.out] at this; exact this, hw1.out.2⟩
          clear hHeld hF cC hj hw hc0 hw1
          go_wp2_with fail
          exact ⟨⟨i + 1, fun k => s (rot j i (i + 1) k), by omega, by go_num, hfin, hw2⟩, by simp [intOf]; omega⟩
    · have e : i = b := by omega
      subst e
      go_wp2_with fail
      go_end0
      exact ⟨⟨_, rfl⟩, s, hs.out.1, hs.out.2, hr.out.1, hr.out.2⟩
end Go.Proofs.Ytohkjikhlakglaa
end

section
namespace Go.Proofs.Ytohkjikhlakglaa
open Go.RowKit Go.Hay
set_option linter.unusedVariables false
set_option linter.unusedSimpArgs false

set_option maxHeartbeats 16000000 in
set_option maxRecDepth 100000 in
theorem cSymA (g o n cap : Nat) (A : Nat → Vs) (cv : Value) (cf : Nat → Nat → Int) (Inv : World → Prop) (hC : CmpOk g n A cv cf Inv) (p : Nat → Nat) (a m b : Nat) (w : World) (h : Hd w g o n cap A p) (hI : Inv w) (hpn : ∀ k, k < n → p k < n) (h1 : a < m) (h2 : m < b) (h3 : b ≤ n) (hA : Srt (fun x y => cf x y < 0) p a m) (hB : Srt (fun x y => cf x y < 0) p m b) (hLo : Low p a m b) (hn : n ≤ 4000000000000) (hcap : n ≤ cap) (hma : m ≤ a + 1) : Calls Try.prog 67 #[.slice (some ⟨g, o, none⟩) n cap, .int .i64 (a : Int), .int .i64 (m : Int), .int .i64 (b : Int), .func (.func 38) #[] #[cv]] w fun e w' => (∃ v, e = .returned v) ∧ ∃ s, PermIn a b s ∧ Srt (fun x y => cf x y < 0) (fun k => p (s k)) a b ∧ Hd w' g o n cap A (fun k => p (s k)) ∧ Kp [g] w w' := by
  have HC := hid hC
  have HI := hid hI
  have HH := hid h
  have HPN := hid hpn
  have HSR := hid (And.intro hA (And.intro hB hLo))
  have q1 : (-9223372036854775808 : Int) ≤ (m : Int) - (a : Int) := by omega
  have q2 : (m : Int) - (a : Int) ≤ 9223372036854775807 := by omega
  clear hC hI h hpn hA hB hLo
  have hm1 : (m : Int) - (a : Int) = 1 := by omega
  go_enter Try.func67, Try.ntmps67
  go_wp2_with fail
  clear q1 q2 hm1
  go_loopw [10, 11, 12] (fun iv jv _ wr => ∃ i j : Nat, (m ≤ i ∧ i ≤ j ∧ j ≤ b) ∧ iv = .int .i64 (i : Int) ∧ jv = .int .i64 (j : Int) ∧ Hid ((i = m ∨ cf (p (i - 1)) (p a) < 0) ∧ (j = b ∨ 0 ≤ cf (p j) (p a))) ∧ Hid (Hd wr g o n cap A p ∧ Kp [g] w wr)) (fun iv jv _ _ => (intOf jv).toNat - (intOf iv).toNat)
  case atStart => exact ⟨m, b, by omega, rfl, rfl, hid ⟨.inl rfl, .inl rfl⟩, hid ⟨HH.out, Kp.refl _ _⟩⟩
  case round =>
    obtain ⟨i, j, ⟨bi, bij, bj⟩, rfl, rfl, hs, hw⟩ := hrel
    by_cases hij : i < j
    · have i0 : (i : Int) < (j : Int) := by omega
      obtain ⟨t, ht⟩ : ∃ t : Nat, t = i + j := ⟨_, rfl⟩
      obtain ⟨h, hh⟩ : ∃ h : Nat, h = t / 2 := ⟨_, rfl⟩
      have et : (i : Int) + (j : Int) = (t : Int) := by omega
      have et1 : (-9223372036854775808 : Int) ≤ (i : Int) + (j : Int) := by omega
      have et2 : (i : Int) + (j : Int) ≤ 9223372036854775807 := by omega
      have et3 : (0 : Int) ≤ (t : Int) := by omega
      have et4 : (t : Int) ≤ 9223372036854775807 := by omega
      have et5 : (t : Int) < 18446744073709551616 := by omega
      have eh : (t : Int) / 2 = (h : Int) := by omega
      have eh2 : (h : Int) ≤ 9223372036854775807 := by omega
      have eu : IntKind.u64.wrap (t : Int) = (t : Int) := by rw [IntKind.wrap_u64]; omega
      have ew : IntKind.i64.wrap (h : Int) = (h : Int) := by rw [IntKind.wrap_i64]; omega
      have ewt : IntKind.i64.wrap (t : Int) = (t : Int) := by rw [IntKind.wrap_i64]; omega
      have hhb : i ≤ h ∧ h < j := by omega
      have HT := hid (And.intro ht hh)
      clear ht hh
      have i1 : (0 : Int) ≤ (h : Int) := by omega
      have i2 : (h : Int) < (n : Int) := by omega
      have i5 : (h : Int) + 1 ≤ 9223372036854775807 := by omega
      have i3 : (0 : Int) ≤ (a : Int) := by omega
      have i4 : (a : Int) < (n : Int) := by omega
      have cC := hid (fun W' (k : Kp [] wr W') => HC.out.calls W' (p h) (p a) (HC.out.keep _ _ HI.out (hw.out.2.trans k (by simp))) (HPN.out _ (by omega)) (HPN.out _ (by omega)))
      obtain ⟨x0, _⟩ := hw.out.1.cells h (by omega)
      obtain ⟨y0, _⟩ := hw.out.1.cells a (by omega)
      obtain ⟨V1, hV1⟩ : ∃ V, Hid (V = A (p h)) := ⟨_, hid rfl⟩
      obtain ⟨V2, hV2⟩ : ∃ V, Hid (V = A (p a)) := ⟨_, hid rfl⟩
      rw [← hV1.out] at x0 cC
      rw [← hV2.out] at y0 cC
      obtain ⟨C, hCf⟩ : ∃ C, Hid (cf (p h) (p a) = C) := ⟨_, hid rfl⟩
      rw [hCf.out] at cC
      obtain ⟨a1, c1, l1⟩ := V1
      obtain ⟨a2, c2, l2⟩ := V2
      simp only [Vs.v] at cC
      dsimp only at *
      have hF : Hid (∀ W', Kp [] wr W' → (W'.cell? ⟨g, o + h, none⟩ = some (.slice a1 l1.length c1) ∧ W'.cell? ⟨g, o + a, none⟩ = some (.slice a2 l2.length c2))) := fun W' k => ⟨kpAt k x0, kpAt k y0⟩
      clear x0 y0 hV1 hV2
      go_wp2_with fail
      refine wp_region_held_drew (S := fun W' => W'.cell? ⟨g, o + h, none⟩ = some (.slice a1 l1.length c1) ∧ W'.cell? ⟨g, o + a, none⟩ = some (.slice a2 l2.length c2)) (by kernel_rfl) ?_ (fun hHeld => ?_)
      · exact hF.out _ (Kp.refl [] wr).drew
      have KD : Hid (Kp [] wr wr.drew) := hid (Kp.refl [] wr).drew
      generalize wr.drew = Wd at *
      refine wpAnyH_take (i := 0) (v := ?_) rfl (by kernel_rfl) (by kernel_rfl) (by kernel_rfl) (fun _ _ _ h => h) (Or.inl ⟨by rfl, ?_⟩) (by assumption) ?_
      rotate_left
      · intro w hSw; (try dsimp only at hSw); go_simp <;> with_reducible rfl
      try simp only [Act.put, List.getElem_toArray, List.getElem_cons_zero, List.getElem_cons_succ, List.setIfInBounds_toArray, List.set_cons_zero, List.set_cons_succ]
      refine wpAnyH_take (i := 1) (v := ?_) rfl (by kernel_rfl) (by kernel_rfl) (by kernel_rfl) (fun _ _ _ h => h) (Or.inl ⟨by rfl, ?_⟩) (by assumption) ?_
      rotate_left
      · intro w hSw; (try dsimp only at hSw); go_simp <;> with_reducible rfl
      try simp only [Act.put, List.getElem_toArray, List.getElem_cons_zero, List.getElem_cons_succ, List.setIfInBounds_toArray, List.set_cons_zero, List.set_cons_succ]
      refine wpAnyH_take (i := 2) (v := ?_) rfl (by kernel_rfl) (by kernel_rfl) (by kernel_rfl) (fun _ _ _ h => h) (Or.inl ⟨by rfl, ?_⟩) (by assumption) ?_
      rotate_left
      · intro w hSw; (try dsimp only at hSw); go_simp <;> with_reducible rfl
      try simp only [Act.put, List.getElem_toArray, List.getElem_cons_zero, List.getElem_cons_succ, List.setIfInBounds_toArray, List.set_cons_zero, List.set_cons_succ]
      refine wpAnyH_take (i := 3) (v := ?_) rfl (by kernel_rfl) (by kernel_rfl) (by kernel_rfl) (fun _ _ _ h => h) (Or.inl ⟨by rfl, ?_⟩) (by assumption) ?_
      rotate_left
      · intro w hSw; (try dsimp only at hSw); go_simp <;> with_reducible rfl
      try simp only [Act.put, List.getElem_toArray, List.getElem_cons_zero, List.getElem_cons_succ, List.setIfInBounds_toArray, List.set_cons_zero, List.set_cons_succ]
      refine wpAnyH_take (i := 4) (v := ?_) rfl (by kernel_rfl) (by kernel_rfl) (by kernel_rfl) (fun _ _ _ h => h) (Or.inl ⟨by rfl, ?_⟩) (by assumption) ?_
      rotate_left
      · intro w hSw; (try dsimp only at hSw); go_simp <;> with_reducible rfl
      try simp only [Act.put, List.getElem_toArray, List.getElem_cons_zero, List.getElem_cons_succ, List.setIfInBounds_toArray, List.set_cons_zero, List.set_cons_succ]
      refine wpAnyH_take (i := 5) (v := ?_) rfl (by kernel_rfl) (by kernel_rfl) (by kernel_rfl) (fun _ _ _ h => h) (Or.inl ⟨by rfl, ?_⟩) (by assumption) ?_
      rotate_left
      · intro w hSw; (try dsimp only at hSw); go_simp <;> with_reducible rfl
      try simp only [Act.put, List.getElem_toArray, List.getElem_cons_zero, List.getElem_cons_succ, List.setIfInBounds_toArray, List.set_cons_zero, List.set_cons_succ]
      refine wpAnyH_take (i := 6) (v := ?_) rfl (by kernel_rfl) (by kernel_rfl) (by kernel_rfl) (fun _ _ _ h => h) (Or.inl ⟨by rfl, ?_⟩) (by assumption) ?_
      rotate_left
      · intro w hSw; (try dsimp only at hSw); go_simp <;> with_reducible rfl
      try simp only [Act.put, List.getElem_toArray, List.getElem_cons_zero, List.getElem_cons_succ, List.setIfInBounds_toArray, List.set_cons_zero, List.set_cons_succ]
      refine wpAnyH_take (i := 7) (v := ?_) rfl (by kernel_rfl) (by kernel_rfl) (by kernel_rfl) (fun _ _ _ h => h) (Or.inl ⟨by rfl, ?_⟩) (by assumption) ?_
      rotate_left
      · intro w hSw; (try dsimp only at hSw); go_simp <;> with_reducible rfl
      try simp only [Act.put, List.getElem_toArray, List.getElem_cons_zero, List.getElem_cons_succ, List.setIfInBounds_toArray, List.set_cons_zero, List.set_cons_succ]
      refine wpAnyH_take (i := 8) (v := ?_) rfl (by kernel_rfl) (by kernel_rfl) (by kernel_rfl) (fun _ _ _ h => h) (Or.inl ⟨by rfl, ?_⟩) (by assumption) ?_
      rotate_left
      · intro w hSw; (try dsimp only at hSw); go_simp <;> with_reducible rfl
      try simp only [Act.put, List.getElem_toArray, List.getElem_cons_zero, List.getElem_cons_succ, List.setIfInBounds_toArray, List.set_cons_zero, List.set_cons_succ]
      refine wpAnyH_ready (rs := [9]) (by kernel_rfl) (by simp) ?_
      refine AllReadyH.cons rfl (fun K hK => ?_) AllReadyH.nil
      go_simp
      refine (cC.out Wd KD.out).mono ?_
      rintro e u1 ⟨rfl, l1'⟩
      (try go_wp2_with fail)
      refine hK.out _ _ ?_ (fun hHeld => ?_)
      · exact hF.out _ (KD.out.trans l1' (by simp))
      clear hK K
      try simp only [Act.put, List.getElem_toArray, List.getElem_cons_zero, List.getElem_cons_succ, List.setIfInBounds_toArray, List.set_cons_zero, List.set_cons_succ]
      have K1 := hid (KD.out.trans l1' (by simp))
      clear l1' KD
      have hw1 : Hid (Hd u1 g o n cap A p ∧ Kp [g] w u1) := hid ⟨hw.out.1.kept K1.out, hw.out.2.trans K1.out (by simp)⟩
      by_cases hc0 : C < 0
      · have dc : decide (C < 0) = true := by simpa using hc0
        refine wpAnyH_take (i := 10) (v := ?_) rfl (by kernel_rfl) (by kernel_rfl) (by kernel_rfl) (fun _ _ _ h => h) (Or.inl ⟨by rfl, ?_⟩) (by assumption) ?_
        rotate_left
        · intro w hSw; (try dsimp only at hSw); go_simp <;> (try simp only [dc]) <;> with_reducible rfl
        try simp only [Act.put, List.getElem_toArray, List.getElem_cons_zero, List.getElem_cons_succ, List.setIfInBounds_toArray, List.set_cons_zero, List.set_cons_succ]
        try simp only [dc]
        refine wpAnyH_done (by kernel_rfl) ?_ _
        have hs2 : Hid ((h + 1 = m ∨ cf (p (h + 1 - 1)) (p a) < 0) ∧ (j = b ∨ 0 ≤ cf (p j) (p a))) := hid ⟨.inr (by rw [Nat.add_sub_cancel, hCf.out]; exact hc0), hs.out.2⟩
        clear hHeld hF cC hs hw hc0
        go_wp2_with fail
        exact ⟨⟨h + 1, j, by omega, by go_num, rfl, hs2, hw1⟩, by simp [intOf]; omega⟩
      · have dc : decide (C < 0) = false := by simpa using hc0
        refine wpAnyH_take (i := 10) (v := ?_) rfl (by kernel_rfl) (by kernel_rfl) (by kernel_rfl) (fun _ _ _ h => h) (Or.inl ⟨by rfl, ?_⟩) (by assumption) ?_
        rotate_left
        · intro w hSw; (try dsimp only at hSw); go_simp <;> (try simp only [dc]) <;> with_reducible rfl
        try simp only [Act.put, List.getElem_toArray, List.getElem_cons_zero, List.getElem_cons_succ, List.setIfInBounds_toArray, List.set_cons_zero, List.set_cons_succ]
        try simp only [dc]
        refine wpAnyH_done (by kernel_rfl) ?_ _
        have hs2 : Hid ((i = m ∨ cf (p (i - 1)) (p a) < 0) ∧ (h = b ∨ 0 ≤ cf (p h) (p a))) := hid ⟨hs.out.1, .inr (by rw [hCf.out]; omega)⟩
        clear hHeld hF cC hs hw hc0
        go_wp2_with fail
        exact ⟨⟨i, h, by omega, rfl, rfl, hs2, hw1⟩, by simp [intOf]; omega⟩
    · have e : j = i := by omega
      subst e
      have hfin : Hid (PermIn a b (rot a (a + 1) j) ∧ Srt (fun x y => cf x y < 0) (fun k => p (rot a (a + 1) j k)) a b) := hid ⟨rot_perm (Nat.le_refl _) (by omega) (by omega) bj, by
        have em : m = a + 1 := by omega
        refine ins_right HC.out.swo (by omega) bj (em ▸ HSR.out.2.1) (em ▸ HSR.out.2.2) ?_ (hs.out.2.imp_right fun h => Int.not_lt.2 h)
        have := hs.out.1
        rwa [em] at this⟩
      have q3 : (-9223372036854775808 : Int) ≤ (j : Int) - 1 := by omega
      have q4 : (j : Int) - 1 ≤ 9223372036854775807 := by omega
      clear hs
      go_wp2_with fail
      go_loopw [13] (fun kv wn => ∃ k : Nat, (a ≤ k ∧ k + 1 ≤ j) ∧ kv = .int .i64 (k : Int) ∧ Hid (Hd wn g o n cap A (fun x => p (rot a (a + 1) (k + 1) x)) ∧ Kp [g] w wn)) (fun kv _ => j - (intOf kv).toNat)
      case atStart => exact ⟨a, by omega, rfl, hid ⟨by rw [rot_right a (a + 1) (by omega)]; exact hw.out.1, hw.out.2⟩⟩
      case round =>
        obtain ⟨k, ⟨bk, bk2⟩, rfl, hw3⟩ := hrel
        clear hw
        by_cases hkj : k + 1 < j
        · have d1 : decide ((k : Int) < (j : Int) - 1) = true := by simp; omega
          have d2 : (k : Int) < (j : Int) - 1 := by omega
          obtain ⟨y, hy⟩ : ∃ y : Nat, y = k + 1 := ⟨_, rfl⟩
          have ey : (k : Int) + 1 = (y : Int) := by omega
          have wy : IntKind.i64.wrap ((k : Int) + 1) = (y : Int) := by rw [ey, IntKind.wrap_i64]; omega
          have wy2 : IntKind.i64.wrap (y : Int) = (y : Int) := by rw [IntKind.wrap_i64]; omega
          have i1 : (0 : Int) ≤ (k : Int) := by omega
          have i2 : (k : Int) < (n : Int) := by omega
          have i3 : (0 : Int) ≤ (y : Int) := by omega
          have i4 : (y : Int) < (n : Int) := by omega
          have b1 : (-9223372036854775808 : Int) ≤ (k : Int) + 1 := by omega
          have b2 : (k : Int) + 1 ≤ 9223372036854775807 := by omega
          have HY := hid hy
          obtain ⟨Q, hQ⟩ : ∃ Q, Hid (Q = fun x => p (rot a (a + 1) (k + 1) x)) := ⟨_, hid rfl⟩
          rw [← hQ.out] at hw3
          have hyb : y < n ∧ y + 1 ≤ j := by omega
          clear hy
          go_wp2_with fail
          refine wp_region_held_drew (S := fun _ => True) (by kernel_rfl) trivial (fun hHeld => ?_)
          have KD2 : Kp [] wr wr.drew := (Kp.refl [] wr).drew
          have hd2 := hw3.out.1.kept KD2
          have hk2 := hid (hw3.out.2.trans KD2 (by simp))
          generalize wr.drew = Wd2 at *
          clear KD2 hw3
          obtain ⟨x0, fx0⟩ := hd2.cells k (by omega)
          obtain ⟨y0, fy0⟩ := hd2.cells y (by omega)
          have hsw := hd2.swap k y (by omega) (by omega)
          have hpc := put1_cells hd2 k y (by omega) (by omega)
          obtain ⟨U1, hU1⟩ : ∃ V, V = A (Q k) := ⟨_, rfl⟩
          obtain ⟨U2, hU2⟩ : ∃ V, V = A (Q y) := ⟨_, rfl⟩
          rw [← hU1] at x0 hsw
          rw [← hU2] at y0 hsw
          replace hpc := hpc U2
          obtain ⟨⟨u0, hu0⟩, gu0⟩ := hpc 0 (by omega)
          try simp only [Nat.add_zero] at hu0 gu0
          obtain ⟨W1, eW1⟩ : ∃ Y, (Wd2.setCell ⟨g, o + k, none⟩ (.slice U2.a U2.l.length U2.c)) = Y := ⟨_, rfl⟩
          have eP1 : put1 Wd2 g (o + k) U2 = W1 := eW1
          obtain ⟨W2, eW2⟩ : ∃ Y, (W1.setCell ⟨g, o + y, none⟩ (.slice U1.a U1.l.length U1.c)) = Y := ⟨_, rfl⟩
          have eP2 : put1 W1 g (o + y) U1 = W2 := eW2
          have kP1 : Kp [g] Wd2 W1 := by rw [← eP1]; exact put1_kp _ _ _ _
          have kP2 : Kp [g] W1 W2 := by rw [← eP2]; exact put1_kp _ _ _ _
          simp only [eP1] at hu0 gu0 hsw
          simp only [eP2] at hsw
          have zW1 := kP1.size
          have HSW := hid (And.intro hsw (kP1.trans kP2 (by simp)))
          have zg : g < Wd2.heap.size := hd2.lt
          have zg1 : g < W1.heap.size := by omega
          clear hpc hsw eP1 eP2 kP1 kP2 hU1 hU2 zW1
          obtain ⟨a3, c3, l3⟩ := U1
          obtain ⟨a4, c4, l4⟩ := U2
          dsimp only at *
          have hfin2 : Hid (Hd W2 g o n cap A (fun x => p (rot a (a + 1) (y + 1) x)) ∧ Kp [g] w W2) := hid ⟨by
            have := HSW.out.1
            rw [hQ.out] at this
            have e := HY.out
            subst e
            rw [rot_push a k j bk hkj]
            exact this, hk2.out.trans HSW.out.2 (by simp)⟩
          have hky : a ≤ y ∧ k < y := by have := HY.out; omega
          clear hd2 HSW hk2
          refine wpAnyH_take (i := 0) (v := ?_) rfl (by kernel_rfl) (by kernel_rfl) (by kernel_rfl) (fun _ _ _ h => h) (Or.inl ⟨by rfl, ?_⟩) (by assumption) ?_
          rotate_left
          · intro w hSw; (try dsimp only at hSw); go_simp <;> with_reducible rfl
          try simp only [Act.put, List.getElem_toArray, List.getElem_cons_zero, List.getElem_cons_succ, List.setIfInBounds_toArray, List.set_cons_zero, List.set_cons_succ]
          refine wpAnyH_take (i := 1) (v := ?_) rfl (by kernel_rfl) (by kernel_rfl) (by kernel_rfl) (fun _ _ _ h => h) (Or.inl ⟨by rfl, ?_⟩) (by assumption) ?_
          rotate_left
          · intro w hSw; (try dsimp only at hSw); go_simp <;> with_reducible rfl
          try simp only [Act.put, List.getElem_toArray, List.getElem_cons_zero, List.getElem_cons_succ, List.setIfInBounds_toArray, List.set_cons_zero, List.set_cons_succ]
          refine wpAnyH_take (i := 2) (v := ?_) rfl (by kernel_rfl) (by kernel_rfl) (by kernel_rfl) (fun _ _ _ h => h) (Or.inl ⟨by rfl, ?_⟩) (by assumption) ?_
          rotate_left
          · intro w hSw; (try dsimp only at hSw); go_simp <;> with_reducible rfl
          try simp only [Act.put, List.getElem_toArray, List.getElem_cons_zero, List.getElem_cons_succ, List.setIfInBounds_toArray, List.set_cons_zero, List.set_cons_succ]
          refine wpAnyH_take (i := 3) (v := ?_) rfl (by kernel_rfl) (by kernel_rfl) (by kernel_rfl) (fun _ _ _ h => h) (Or.inl ⟨by rfl, ?_⟩) (by assumption) ?_
          rotate_left
          · intro w hSw; (try dsimp only at hSw); go_simp <;> with_reducible rfl
          try simp only [Act.put, List.getElem_toArray, List.getElem_cons_zero, List.getElem_cons_succ, List.setIfInBounds_toArray, List.set_cons_zero, List.set_cons_succ]
          refine wpAnyH_take (i := 4) (v := ?_) rfl (by kernel_rfl) (by kernel_rfl) (by kernel_rfl) (fun _ _ _ h => h) (Or.inl ⟨by rfl, ?_⟩) (by assumption) ?_
          rotate_left
          · intro w hSw; (try dsimp only at hSw); go_simp <;> (try simp only [wy, wy2]) <;> with_reducible rfl
          try simp only [Act.put, List.getElem_toArray, List.getElem_cons_zero, List.getElem_cons_succ, List.setIfInBounds_toArray, List.set_cons_zero, List.set_cons_succ]
          try simp only [wy, wy2]
          refine wpAnyH_take (i := 5) (v := ?_) rfl (by kernel_rfl) (by kernel_rfl) (by kernel_rfl) (fun _ _ _ h => h) (Or.inl ⟨by rfl, ?_⟩) (by assumption) ?_
          rotate_left
          · intro w hSw; (try dsimp only at hSw); go_simp <;> with_reducible rfl
          try simp only [Act.put, List.getElem_toArray, List.getElem_cons_zero, List.getElem_cons_succ, List.setIfInBounds_toArray, List.set_cons_zero, List.set_cons_succ]
          refine wpAnyH_take (i := 6) (v := ?_) rfl (by kernel_rfl) (by kernel_rfl) (by kernel_rfl) (fun _ _ _ h => h) (Or.inl ⟨by rfl, ?_⟩) (by assumption) ?_
          rotate_left
          · intro w hSw; (try dsimp only at hSw); go_simp <;> with_reducible rfl
          try simp only [Act.put, List.getElem_toArray, List.getElem_cons_zero, List.getElem_cons_succ, List.setIfInBounds_toArray, List.set_cons_zero, List.set_cons_succ]
          refine wpAnyH_take (i := 7) (v := ?_) rfl (by kernel_rfl) (by kernel_rfl) (by kernel_rfl) (fun _ _ _ h => h) (Or.inl ⟨by rfl, ?_⟩) (by assumption) ?_
          rotate_left
          · intro w hSw; (try dsimp only at hSw); go_simp <;> (try simp only [wy, wy2]) <;> with_reducible rfl
          try simp only [Act.put, List.getElem_toArray, List.getElem_cons_zero, List.getElem_cons_succ, List.setIfInBounds_toArray, List.set_cons_zero, List.set_cons_succ]
          try simp only [wy, wy2]
          refine wpAnyH_take (i := 8) (v := ?_) rfl (by kernel_rfl) (by kernel_rfl) (by kernel_rfl) (fun _ _ _ h => h) (Or.inl ⟨by rfl, ?_⟩) (by assumption) ?_
          rotate_left
          · intro w hSw; (try dsimp only at hSw); go_simp <;> with_reducible rfl
          try simp only [Act.put, List.getElem_toArray, List.getElem_cons_zero, List.getElem_cons_succ, List.setIfInBounds_toArray, List.set_cons_zero, List.set_cons_succ]
          refine wpAnyH_take (i := 10) (v := ?_) rfl (by kernel_rfl) (by kernel_rfl) (by kernel_rfl) (fun _ _ _ h => h) (Or.inl ⟨by rfl, ?_⟩) (by assumption) ?_
          rotate_left
          · intro w hSw; (try dsimp only at hSw); go_simp <;> with_reducible rfl
          try simp only [Act.put, List.getElem_toArray, List.getElem_cons_zero, List.getElem_cons_succ, List.setIfInBounds_toArray, List.set_cons_zero, List.set_cons_succ]
          refine wpAnyH_take (i := 11) (v := ?_) rfl (by kernel_rfl) (by kernel_rfl) (by kernel_rfl) (fun _ _ _ h => h) (Or.inl ⟨by rfl, ?_⟩) (by assumption) ?_
          rotate_left
          · intro w hSw; (try dsimp only at hSw); go_simp <;> with_reducible rfl
          try simp only [Act.put, List.getElem_toArray, List.getElem_cons_zero, List.getElem_cons_succ, List.setIfInBounds_toArray, List.set_cons_zero, List.set_cons_succ]
          refine wpAnyH_take (i := 12) (v := ?_) rfl (by kernel_rfl) (by kernel_rfl) (by kernel_rfl) (fun _ _ _ h => h) (Or.inl ⟨by rfl, ?_⟩) (by assumption) ?_
          rotate_left
          · intro w hSw; (try dsimp only at hSw); go_simp <;> with_reducible rfl
          try simp only [Act.put, List.getElem_toArray, List.getElem_cons_zero, List.getElem_cons_succ, List.setIfInBounds_toArray, List.set_cons_zero, List.set_cons_succ]
          refine wpAnyH_ready (rs := [9, 13]) (by kernel_rfl) (by simp) ?_
          refine AllReadyH.cons rfl (fun K hK => ?_) (AllReadyH.cons rfl (fun K hK => ?_) AllReadyH.nil)
          · go_simp
            (try go_wp2_with fail)
            refine hK.out _ _ trivial (fun hHeld => ?_)
            clear hK K
            try simp only [Act.put, List.getElem_toArray, List.getElem_cons_zero, List.getElem_cons_succ, List.setIfInBounds_toArray, List.set_cons_zero, List.set_cons_succ]
            refine wpAnyH_ready (rs := [13]) (by kernel_rfl) (by simp) ?_
            refine AllReadyH.cons rfl (fun K hK => ?_) AllReadyH.nil
            go_simp
            (try go_wp2_with fail)
            refine hK.out _ _ trivial (fun hHeld => ?_)
            clear hK K
            try simp only [Act.put, List.getElem_toArray, List.getElem_cons_zero, List.getElem_cons_succ, List.setIfInBounds_toArray, List.set_cons_zero, List.set_cons_succ]
            refine wpAnyH_take (i := 14) (v := ?_) rfl (by kernel_rfl) (by kernel_rfl) (by kernel_rfl) (fun _ _ _ h => h) (Or.inl ⟨by rfl, ?_⟩) (by assumption) ?_
            rotate_left
            · intro w hSw; (try dsimp only at hSw); go_simp <;> with_reducible rfl
            try simp only [Act.put, List.getElem_toArray, List.getElem_cons_zero, List.getElem_cons_succ, List.setIfInBounds_toArray, List.set_cons_zero, List.set_cons_succ]
            refine wpAnyH_ready (rs := [15]) (by kernel_rfl) (by simp) ?_
            refine AllReadyH.cons rfl (fun K hK => ?_) AllReadyH.nil
            go_simp
            (try go_wp2_with fail)
            refine hK.out _ _ trivial (fun hHeld => ?_)
            clear hK K
            try simp only [Act.put, List.getElem_toArray, List.getElem_cons_zero, List.getElem_cons_succ, List.setIfInBounds_toArray, List.set_cons_zero, List.set_cons_succ]
            refine wpAnyH_take (i := 16) (v := ?_) rfl (by kernel_rfl) (by kernel_rfl) (by kernel_rfl) (fun _ _ _ h => h) (Or.inl ⟨by rfl, ?_⟩) (by assumption) ?_
            rotate_left
            · intro w hSw; (try dsimp only at hSw); go_simp <;> with_reducible rfl
            try simp only [Act.put, List.getElem_toArray, List.getElem_cons_zero, List.getElem_cons_succ, List.setIfInBounds_toArray, List.set_cons_zero, List.set_cons_succ]
            refine wpAnyH_ready (rs := [17]) (by kernel_rfl) (by simp) ?_
            refine AllReadyH.cons rfl (fun K hK => ?_) AllReadyH.nil
            go_simp
            (try go_wp2_with fail)
            refine hK.out _ _ trivial (fun hHeld => ?_)
            clear hK K
            try simp only [Act.put, List.getElem_toArray, List.getElem_cons_zero, List.getElem_cons_succ, List.setIfInBounds_toArray, List.set_cons_zero, List.set_cons_succ]
            refine wpAnyH_done (by kernel_rfl) ?_ _
            clear hHeld
            go_wp2_with fail
            exact ⟨⟨y, by omega, by go_num, hfin2⟩, by simp [intOf]; omega⟩
          · go_simp
            (try go_wp2_with fail)
            refine hK.out _ _ trivial (fun hHeld => ?_)
            clear hK K
            try simp only [Act.put, List.getElem_toArray, List.getElem_cons_zero, List.getElem_cons_succ, List.setIfInBounds_toArray, List.set_cons_zero, List.set_cons_succ]
            refine wpAnyH_ready (rs := [9]) (by kernel_rfl) (by simp) ?_
            refine AllReadyH.cons rfl (fun K hK => ?_) AllReadyH.nil
            go_simp
            (try go_wp2_with fail)
            refine hK.out _ _ trivial (fun hHeld => ?_)
            clear hK K
            try simp only [Act.put, List.getElem_toArray, List.getElem_cons_zero, List.getElem_cons_succ, List.setIfInBounds_toArray, List.set_cons_zero, List.set_cons_succ]
            refine wpAnyH_take (i := 14) (v := ?_) rfl (by kernel_rfl) (by kernel_rfl) (by kernel_rfl) (fun _ _ _ h => h) (Or.inl ⟨by rfl, ?_⟩) (by assumption) ?_
            rotate_left
            · intro w hSw; (try dsimp only at hSw); go_simp <;> with_reducible rfl
            try simp only [Act.put, List.getElem_toArray, List.getElem_cons_zero, List.getElem_cons_succ, List.setIfInBounds_toArray, List.set_cons_zero, List.set_cons_succ]
            refine wpAnyH_ready (rs := [15]) (by kernel_rfl) (by simp) ?_
            refine AllReadyH.cons rfl (fun K hK => ?_) AllReadyH.nil
            go_simp
            (try go_wp2_with fail)
            refine hK.out _ _ trivial (fun hHeld => ?_)
            clear hK K
            try simp only [Act.put, List.getElem_toArray, List.getElem_cons_zero, List.getElem_cons_succ, List.setIfInBounds_toArray, List.set_cons_zero, List.set_cons_succ]
            refine wpAnyH_take (i := 16) (v := ?_) rfl (by kernel_rfl) (by kernel_rfl) (by kernel_rfl) (fun _ _ _ h => h) (Or.inl ⟨by rfl, ?_⟩) (by assumption) ?_
            rotate_left
            · intro w hSw; (try dsimp only at hSw); go_simp <;> with_reducible rfl
            try simp only [Act.put, List.getElem_toArray, List.getElem_cons_zero, List.getElem_cons_succ, List.setIfInBounds_toArray, List.set_cons_zero, List.set_cons_succ]
            refine wpAnyH_ready (rs := [17]) (by kernel_rfl) (by simp) ?_
            refine AllReadyH.cons rfl (fun K hK => ?_) AllReadyH.nil
            go_simp
            (try go_wp2_with fail)
            refine hK.out _ _ trivial (fun hHeld => ?_)
            clear hK K
            try simp only [Act.put, List.getElem_toArray, List.getElem_cons_zero, List.getElem_cons_succ, List.setIfInBounds_toArray, List.set_cons_zero, List.set_cons_succ]
            refine wpAnyH_done (by kernel_rfl) ?_ _
            clear hHeld
            go_wp2_with fail
            exact ⟨⟨y, by omega, by go_num, hfin2⟩, by simp [intOf]; omega⟩
        · have d1 : decide ((k : Int) < (j : Int) - 1) = false := by simp; omega
          have d2 : ¬ ((k : Int) < (j : Int) - 1) := by omega
          have ek : k + 1 = j := by omega
          rw [ek] at hw3
          clear ek
          go_wp2_with fail
          refine bodyPost_ret (results_none rfl _ _ _) rfl ?_
          exact ⟨⟨_, rfl⟩, _, hfin.out.1, hfin.out.2, hw3.out.1, hw3.out.2⟩
set_option maxHeartbeats 16000000 in
set_option maxRecDepth 100000 in
theorem cSymB (g o n cap : Nat) (A : Nat → Vs) (cv : Value) (cf : Nat → Nat → Int) (Inv : World → Prop) (hC : CmpOk g n A cv cf Inv) (p : Nat → Nat) (a m b : Nat) (w : World) (h : Hd w g o n cap A p) (hI : Inv w) (hpn : ∀ k, k < n → p k < n) (h1 : a < m) (h2 : m < b) (h3 : b ≤ n) (hA : Srt (fun x y => cf x y < 0) p a m) (hB : Srt (fun x y => cf x y < 0) p m b) (hLo : Low p a m b) (hn : n ≤ 4000000000000) (hcap : n ≤ cap) (hma : a + 1 < m) (hmb : b ≤ m + 1) : Calls Try.prog 67 #[.slice (some ⟨g, o, none⟩) n cap, .int .i64 (a : Int), .int .i64 (m : Int), .int .i64 (b : Int), .func (.func 38) #[] #[cv]] w fun e w' => (∃ v, e = .returned v) ∧ ∃ s, PermIn a b s ∧ Srt (fun x y => cf x y < 0) (fun k => p (s k)) a b ∧ Hd w' g o n cap A (fun k => p (s k)) ∧ Kp [g] w w' := by
  have HC := hid hC
  have HI := hid hI
  have HH := hid h
  have HPN := hid hpn
  have HSR := hid (And.intro hA (And.intro hB hLo))
  have q1 : (-9223372036854775808 : Int) ≤ (m : Int) - (a : Int) := by omega
  have q2 : (m : Int) - (a : Int) ≤ 9223372036854775807 := by omega
  clear hC hI h hpn hA hB hLo
  have hm1 : ((m : Int) - (a : Int) == 1) = false := by simp; omega
  have hm2 : ¬ ((m : Int) - (a : Int) = 1) := by omega
  have hb1 : (b : Int) - (m : Int) = 1 := by omega
  have q3 : (-9223372036854775808 : Int) ≤ (b : Int) - (m : Int) := by omega
  have q4 : (b : Int) - (m : Int) ≤ 9223372036854775807 := by omega
  go_enter Try.func67, Try.ntmps67
  go_wp2_with fail
  clear q1 q2 hm1 hm2 hb1 q3 q4
  go_loopw [14, 15, 16] (fun iv jv _ wr => ∃ i j : Nat, (a ≤ i ∧ i ≤ j ∧ j ≤ m) ∧ iv = .int .i64 (i : Int) ∧ jv = .int .i64 (j : Int) ∧ Hid ((i = a ∨ 0 ≤ cf (p m) (p (i - 1))) ∧ (j = m ∨ cf (p m) (p j) < 0)) ∧ Hid (Hd wr g o n cap A p ∧ Kp [g] w wr)) (fun iv jv _ _ => (intOf jv).toNat - (intOf iv).toNat)
  case atStart => exact ⟨a, m, by omega, rfl, rfl, hid ⟨.inl rfl, .inl rfl⟩, hid ⟨HH.out, Kp.refl _ _⟩⟩
  case round =>
    obtain ⟨i, j, ⟨bi, bij, bj⟩, rfl, rfl, hs, hw⟩ := hrel
    by_cases hij : i < j
    · have i0 : (i : Int) < (j : Int) := by omega
      obtain ⟨t, ht⟩ : ∃ t : Nat, t = i + j := ⟨_, rfl⟩
      obtain ⟨h, hh⟩ : ∃ h : Nat, h = t / 2 := ⟨_, rfl⟩
      have et : (i : Int) + (j : Int) = (t : Int) := by omega
      have et1 : (-9223372036854775808 : Int) ≤ (i : Int) + (j : Int) := by omega
      have et2 : (i : Int) + (j : Int) ≤ 9223372036854775807 := by omega
      have et3 : (0 : Int) ≤ (t : Int) := by omega
      have et4 : (t : Int) ≤ 9223372036854775807 := by omega
      have et5 : (t : Int) < 18446744073709551616 := by omega
      have eh : (t : Int) / 2 = (h : Int) := by omega
      have eh2 : (h : Int) ≤ 9223372036854775807 := by omega
      have eu : IntKind.u64.wrap (t : Int) = (t : Int) := by rw [IntKind.wrap_u64]; omega
      have ew : IntKind.i64.wrap (h : Int) = (h : Int) := by rw [IntKind.wrap_i64]; omega
      have ewt : IntKind.i64.wrap (t : Int) = (t : Int) := by rw [IntKind.wrap_i64]; omega
      have hhb : i ≤ h ∧ h < j := by omega
      have HT := hid (And.intro ht hh)
      clear ht hh
      have i1 : (0 : Int) ≤ (h : Int) := by omega
      have i2 : (h : Int) < (n : Int) := by omega
      have i5 : (h : Int) + 1 ≤ 9223372036854775807 := by omega
      have i3 : (0 : Int) ≤ (m : Int) := by omega
      have i4 : (m : Int) < (n : Int) := by omega
      have cC := hid (fun W' (k : Kp [] wr W') => HC.out.calls W' (p m) (p h) (HC.out.keep _ _ HI.out (hw.out.2.trans k (by simp))) (HPN.out _ (by omega)) (HPN.out _ (by omega)))
      obtain ⟨x0, _⟩ := hw.out.1.cells m (by omega)
      obtain ⟨y0, _⟩ := hw.out.1.cells h (by omega)
      obtain ⟨V1, hV1⟩ : ∃ V, Hid (V = A (p m)) := ⟨_, hid rfl⟩
      obtain ⟨V2, hV2⟩ : ∃ V, Hid (V = A (p h)) := ⟨_, hid rfl⟩
      rw [← hV1.out] at x0 cC
      rw [← hV2.out] at y0 cC
      obtain ⟨C, hCf⟩ : ∃ C, Hid (cf (p m) (p h) = C) := ⟨_, hid rfl⟩
      rw [hCf.out] at cC
      obtain ⟨a1, c1, l1⟩ := V1
      obtain ⟨a2, c2, l2⟩ := V2
      simp only [Vs.v] at cC
      dsimp only at *
      have hF : Hid (∀ W', Kp [] wr W' → (W'.cell? ⟨g, o + m, none⟩ = some (.slice a1 l1.length c1) ∧ W'.cell? ⟨g, o + h, none⟩ = some (.slice a2 l2.length c2))) := fun W' k => ⟨kpAt k x0, kpAt k y0⟩
      clear x0 y0 hV1 hV2
      go_wp2_with fail
      refine wp_region_held_drew (S := fun W' => W'.cell? ⟨g, o + m, none⟩ = some (.slice a1 l1.length c1) ∧ W'.cell? ⟨g, o + h, none⟩ = some (.slice a2 l2.length c2)) (by kernel_rfl) ?_ (fun hHeld => ?_)
      · exact hF.out _ (Kp.refl [] wr).drew
      have KD : Hid (Kp [] wr wr.drew) := hid (Kp.refl [] wr).drew
      generalize wr.drew = Wd at *
      refine wpAnyH_take (i := 0) (v := ?_) rfl (by kernel_rfl) (by kernel_rfl) (by kernel_rfl) (fun _ _ _ h => h) (Or.inl ⟨by rfl, ?_⟩) (by assumption) ?_
      rotate_left
      · intro w hSw; (try dsimp only at hSw); go_simp <;> with_reducible rfl
      try simp only [Act.put, List.getElem_toArray, List.getElem_cons_zero, List.getElem_cons_succ, List.setIfInBounds_toArray, List.set_cons_zero, List.set_cons_succ]
      refine wpAnyH_take (i := 1) (v := ?_) rfl (by kernel_rfl) (by kernel_rfl) (by kernel_rfl) (fun _ _ _ h => h) (Or.inl ⟨by rfl, ?_⟩) (by assumption) ?_
      rotate_left
      · intro w hSw; (try dsimp only at hSw); go_simp <;> with_reducible rfl
      try simp only [Act.put, List.getElem_toArray, List.getElem_cons_zero, List.getElem_cons_succ, List.setIfInBounds_toArray, List.set_cons_zero, List.set_cons_succ]
      refine wpAnyH_take (i := 2) (v := ?_) rfl (by kernel_rfl) (by kernel_rfl) (by kernel_rfl) (fun _ _ _ h => h) (Or.inl ⟨by rfl, ?_⟩) (by assumption) ?_
      rotate_left
      · intro w hSw; (try dsimp only at hSw); go_simp <;> with_reducible rfl
      try simp only [Act.put, List.getElem_toArray, List.getElem_cons_zero, List.getElem_cons_succ, List.setIfInBounds_toArray, List.set_cons_zero, List.set_cons_succ]
      refine wpAnyH_take (i := 3) (v := ?_) rfl (by kernel_rfl) (by kernel_rfl) (by kernel_rfl) (fun _ _ _ h => h) (Or.inl ⟨by rfl, ?_⟩) (by assumption) ?_
      rotate_left
      · intro w hSw; (try dsimp only at hSw); go_simp <;> with_reducible rfl
      try simp only [Act.put, List.getElem_toArray, List.getElem_cons_zero, List.getElem_cons_succ, List.setIfInBounds_toArray, List.set_cons_zero, List.set_cons_succ]
      refine wpAnyH_take (i := 4) (v := ?_) rfl (by kernel_rfl) (by kernel_rfl) (by kernel_rfl) (fun _ _ _ h => h) (Or.inl ⟨by rfl, ?_⟩) (by assumption) ?_
      rotate_left
      · intro w hSw; (try dsimp only at hSw); go_simp <;> with_reducible rfl
      try simp only [Act.put, List.getElem_toArray, List.getElem_cons_zero, List.getElem_cons_succ, List.setIfInBounds_toArray, List.set_cons_zero, List.set_cons_succ]
      refine wpAnyH_take (i := 5) (v := ?_) rfl (by kernel_rfl) (by kernel_rfl) (by kernel_rfl) (fun _ _ _ h => h) (Or.inl ⟨by rfl, ?_⟩) (by assumption) ?_
      rotate_left
      · intro w hSw; (try dsimp only at hSw); go_simp <;> with_reducible rfl
      try simp only [Act.put, List.getElem_toArray, List.getElem_cons_zero, List.getElem_cons_succ, List.setIfInBounds_toArray, List.set_cons_zero, List.set_cons_succ]
      refine wpAnyH_take (i := 6) (v := ?_) rfl (by kernel_rfl) (by kernel_rfl) (by kernel_rfl) (fun _ _ _ h => h) (Or.inl ⟨by rfl, ?_⟩) (by assumption) ?_
      rotate_left
      · intro w hSw; (try dsimp only at hSw); go_simp <;> with_reducible rfl
      try simp only [Act.put, List.getElem_toArray, List.getElem_cons_zero, List.getElem_cons_succ, List.setIfInBounds_toArray, List.set_cons_zero, List.set_cons_succ]
      refine wpAnyH_take (i := 7) (v := ?_) rfl (by kernel_rfl) (by kernel_rfl) (by kernel_rfl) (fun _ _ _ h => h) (Or.inl ⟨by rfl, ?_⟩) (by assumption) ?_
      rotate_left
      · intro w hSw; (try dsimp only at hSw); go_simp <;> with_reducible rfl
      try simp only [Act.put, List.getElem_toArray, List.getElem_cons_zero, List.getElem_cons_succ, List.setIfInBounds_toArray, List.set_cons_zero, List.set_cons_succ]
      refine wpAnyH_take (i := 8) (v := ?_) rfl (by kernel_rfl) (by kernel_rfl) (by kernel_rfl) (fun _ _ _ h => h) (Or.inl ⟨by rfl, ?_⟩) (by assumption) ?_
      rotate_left
      · intro w hSw; (try dsimp only at hSw); go_simp <;> with_reducible rfl
      try simp only [Act.put, List.getElem_toArray, List.getElem_cons_zero, List.getElem_cons_succ, List.setIfInBounds_toArray, List.set_cons_zero, List.set_cons_succ]
      refine wpAnyH_ready (rs := [9]) (by kernel_rfl) (by simp) ?_
      refine AllReadyH.cons rfl (fun K hK => ?_) AllReadyH.nil
      go_simp
      refine (cC.out Wd KD.out).mono ?_
      rintro e u1 ⟨rfl, l1'⟩
      (try go_wp2_with fail)
      refine hK.out _ _ ?_ (fun hHeld => ?_)
      · exact hF.out _ (KD.out.trans l1' (by simp))
      clear hK K
      try simp only [Act.put, List.getElem_toArray, List.getElem_cons_zero, List.getElem_cons_succ, List.setIfInBounds_toArray, List.set_cons_zero, List.set_cons_succ]
      have K1 := hid (KD.out.trans l1' (by simp))
      clear l1' KD
      have hw1 : Hid (Hd u1 g o n cap A p ∧ Kp [g] w u1) := hid ⟨hw.out.1.kept K1.out, hw.out.2.trans K1.out (by simp)⟩
      by_cases hc0 : C < 0
      · have dc : decide (C < 0) = true := by simpa using hc0
        refine wpAnyH_take (i := 10) (v := ?_) rfl (by kernel_rfl) (by kernel_rfl) (by kernel_rfl) (fun _ _ _ h => h) (Or.inl ⟨by rfl, ?_⟩) (by assumption) ?_
        rotate_left
        · intro w hSw; (try dsimp only at hSw); go_simp <;> (try simp only [dc]) <;> with_reducible rfl
        try simp only [Act.put, List.getElem_toArray, List.getElem_cons_zero, List.getElem_cons_succ, List.setIfInBounds_toArray, List.set_cons_zero, List.set_cons_succ]
        try simp only [dc]
        refine wpAnyH_take (i := 11) (v := ?_) rfl (by kernel_rfl) (by kernel_rfl) (by kernel_rfl) (fun _ _ _ h => h) (Or.inl ⟨by rfl, ?_⟩) (by assumption) ?_
        rotate_left
        · intro w hSw; (try dsimp only at hSw); go_simp <;> with_reducible rfl
        try simp only [Act.put, List.getElem_toArray, List.getElem_cons_zero, List.getElem_cons_succ, List.setIfInBounds_toArray, List.set_cons_zero, List.set_cons_succ]
        try simp only [Bool.not_true, Bool.not_false]
        refine wpAnyH_done (by kernel_rfl) ?_ _
        have hs2 : Hid ((i = a ∨ 0 ≤ cf (p m) (p (i - 1))) ∧ (h = m ∨ cf (p m) (p h) < 0)) := hid ⟨hs.out.1, .inr (by rw [hCf.out]; exact hc0)⟩
        clear hHeld hF cC hs hw hc0
        go_wp2_with fail
        exact ⟨⟨i, h, by omega, rfl, rfl, hs2, hw1⟩, by simp [intOf]; omega⟩
      · have dc : decide (C < 0) = false := by simpa using hc0
        refine wpAnyH_take (i := 10) (v := ?_) rfl (by kernel_rfl) (by kernel_rfl) (by kernel_rfl) (fun _ _ _ h => h) (Or.inl ⟨by rfl, ?_⟩) (by assumption) ?_
        rotate_left
        · intro w hSw; (try dsimp only at hSw); go_simp <;> (try simp only [dc]) <;> with_reducible rfl
        try simp only [Act.put, List.getElem_toArray, List.getElem_cons_zero, List.getElem_cons_succ, List.setIfInBounds_toArray, List.set_cons_zero, List.set_cons_succ]
        try simp only [dc]
        refine wpAnyH_take (i := 11) (v := ?_) rfl (by kernel_rfl) (by kernel_rfl) (by kernel_rfl) (fun _ _ _ h => h) (Or.inl ⟨by rfl, ?_⟩) (by assumption) ?_
        rotate_left
        · intro w hSw; (try dsimp only at hSw); go_simp <;> with_reducible rfl
        try simp only [Act.put, List.getElem_toArray, List.getElem_cons_zero, List.getElem_cons_succ, List.setIfInBounds_toArray, List.set_cons_zero, List.set_cons_succ]
        try simp only [Bool.not_true, Bool.not_false]
        refine wpAnyH_done (by kernel_rfl) ?_ _
        have hs2 : Hid ((h + 1 = a ∨ 0 ≤ cf (p m) (p (h + 1 - 1))) ∧ (j = m ∨ cf (p m) (p j) < 0)) := hid ⟨.inr (by rw [Nat.add_sub_cancel, hCf.out]; omega), hs.out.2⟩
        clear hHeld hF cC hs hw hc0
        go_wp2_with fail
        exact ⟨⟨h + 1, j, by omega, by go_num, rfl, hs2, hw1⟩, by simp [intOf]; omega⟩
    · have e : j = i := by omega
      subst e
      have eb : b = m + 1 := by omega
      have hfin : Hid (PermIn a b (rot j m (m + 1)) ∧ Srt (fun x y => cf x y < 0) (fun k => p (rot j m (m + 1) k)) a b) := hid ⟨rot_perm bi bj (by omega) (by omega), by
        have h5 := ins_left HC.out.swo bi bj HSR.out.1 (eb ▸ HSR.out.2.2) hs.out.2 (hs.out.1.imp_right fun h => Int.not_lt.2 h)
        exact h5.sub (Nat.le_refl _) (by omega)⟩
      clear hs eb
      go_wp2_with fail
      go_loopw [17] (fun kv wn => ∃ k : Nat, (j ≤ k ∧ k ≤ m) ∧ kv = .int .i64 (k : Int) ∧ Hid (Hd wn g o n cap A (fun x => p (rot k m (m + 1) x)) ∧ Kp [g] w wn)) (fun kv _ => (intOf kv).toNat)
      case atStart => exact ⟨m, by omega, rfl, hid ⟨by rw [rot_left]; exact hw.out.1, hw.out.2⟩⟩
      case round =>
        obtain ⟨k, ⟨bk, bk2⟩, rfl, hw3⟩ := hrel
        clear hw
        by_cases hkj : j < k
        · have d1 : decide ((j : Int) < (k : Int)) = true := by simp; omega
          have d2 : (j : Int) < (k : Int) := by omega
          obtain ⟨y, hy⟩ : ∃ y : Nat, y = k - 1 := ⟨_, rfl⟩
          have ey : (k : Int) - 1 = (y : Int) := by omega
          have wy : IntKind.i64.wrap ((k : Int) - 1) = (y : Int) := by rw [ey, IntKind.wrap_i64]; omega
          have wy2 : IntKind.i64.wrap (y : Int) = (y : Int) := by rw [IntKind.wrap_i64]; omega
          have i1 : (0 : Int) ≤ (k : Int) := by omega
          have i2 : (k : Int) < (n : Int) := by omega
          have i3 : (0 : Int) ≤ (y : Int) := by omega
          have i4 : (y : Int) < (n : Int) := by omega
          have b1 : (-9223372036854775808 : Int) ≤ (k : Int) - 1 := by omega
          have b2 : (k : Int) - 1 ≤ 9223372036854775807 := by omega
          have HY : Hid (k = y + 1) := hid (by omega)
          obtain ⟨Q, hQ⟩ : ∃ Q, Hid (Q = fun x => p (rot k m (m + 1) x)) := ⟨_, hid rfl⟩
          rw [← hQ.out] at hw3
          have hyb : y < n ∧ j ≤ y := by omega
          clear hy
          go_wp2_with fail
          refine wp_region_held_drew (S := fun _ => True) (by kernel_rfl) trivial (fun hHeld => ?_)
          have KD2 : Kp [] wr wr.drew := (Kp.refl [] wr).drew
          have hd2 := hw3.out.1.kept KD2
          have hk2 := hid (hw3.out.2.trans KD2 (by simp))
          generalize wr.drew = Wd2 at *
          clear KD2 hw3
          obtain ⟨x0, fx0⟩ := hd2.cells k (by omega)
          obtain ⟨y0, fy0⟩ := hd2.cells y (by omega)
          have hsw := hd2.swap k y (by omega) (by omega)
          have hpc := put1_cells hd2 k y (by omega) (by omega)
          obtain ⟨U1, hU1⟩ : ∃ V, V = A (Q k) := ⟨_, rfl⟩
          obtain ⟨U2, hU2⟩ : ∃ V, V = A (Q y) := ⟨_, rfl⟩
          rw [← hU1] at x0 hsw
          rw [← hU2] at y0 hsw
          replace hpc := hpc U2
          obtain ⟨⟨u0, hu0⟩, gu0⟩ := hpc 0 (by omega)
          try simp only [Nat.add_zero] at hu0 gu0
          obtain ⟨W1, eW1⟩ : ∃ Y, (Wd2.setCell ⟨g, o + k, none⟩ (.slice U2.a U2.l.length U2.c)) = Y := ⟨_, rfl⟩
          have eP1 : put1 Wd2 g (o + k) U2 = W1 := eW1
          obtain ⟨W2, eW2⟩ : ∃ Y, (W1.setCell ⟨g, o + y, none⟩ (.slice U1.a U1.l.length U1.c)) = Y := ⟨_, rfl⟩
          have eP2 : put1 W1 g (o + y) U1 = W2 := eW2
          have kP1 : Kp [g] Wd2 W1 := by rw [← eP1]; exact put1_kp _ _ _ _
          have kP2 : Kp [g] W1 W2 := by rw [← eP2]; exact put1_kp _ _ _ _
          simp only [eP1] at hu0 gu0 hsw
          simp only [eP2] at hsw
          have zW1 := kP1.size
          have HSW := hid (And.intro hsw (kP1.trans kP2 (by simp)))
          have zg : g < Wd2.heap.size := hd2.lt
          have zg1 : g < W1.heap.size := by omega
          clear hpc hsw eP1 eP2 kP1 kP2 hU1 hU2 zW1
          obtain ⟨a3, c3, l3⟩ := U1
          obtain ⟨a4, c4, l4⟩ := U2
          dsimp only at *
          have hfin2 : Hid (Hd W2 g o n cap A (fun x => p (rot y m (m + 1) x)) ∧ Kp [g] w W2) := hid ⟨by
            have := HSW.out.1
            rw [hQ.out] at this
            have e := HY.out
            rw [rot_pull y m (by omega), ← e]
            exact this, hk2.out.trans HSW.out.2 (by simp)⟩
          have hky : y < k ∧ y ≤ m := by have := HY.out; omega
          clear hd2 HSW hk2
          refine wpAnyH_take (i := 0) (v := ?_) rfl (by kernel_rfl) (by kernel_rfl) (by kernel_rfl) (fun _ _ _ h => h) (Or.inl ⟨by rfl, ?_⟩) (by assumption) ?_
          rotate_left
          · intro w hSw; (try dsimp only at hSw); go_simp <;> with_reducible rfl
          try simp only [Act.put, List.getElem_toArray, List.getElem_cons_zero, List.getElem_cons_succ, List.setIfInBounds_toArray, List.set_cons_zero, List.set_cons_succ]
          refine wpAnyH_take (i := 1) (v := ?_) rfl (by kernel_rfl) (by kernel_rfl) (by kernel_rfl) (fun _ _ _ h => h) (Or.inl ⟨by rfl, ?_⟩) (by assumption) ?_
          rotate_left
          · intro w hSw; (try dsimp only at hSw); go_simp <;> with_reducible rfl
          try simp only [Act.put, List.getElem_toArray, List.getElem_cons_zero, List.getElem_cons_succ, List.setIfInBounds_toArray, List.set_cons_zero, List.set_cons_succ]
          refine wpAnyH_take (i := 2) (v := ?_) rfl (by kernel_rfl) (by kernel_rfl) (by kernel_rfl) (fun _ _ _ h => h) (Or.inl ⟨by rfl, ?_⟩) (by assumption) ?_
          rotate_left
          · intro w hSw; (try dsimp only at hSw); go_simp <;> with_reducible rfl
          try simp only [Act.put, List.getElem_toArray, List.getElem_cons_zero, List.getElem_cons_succ, List.setIfInBounds_toArray, List.set_cons_zero, List.set_cons_succ]
          refine wpAnyH_take (i := 3) (v := ?_) rfl (by kernel_rfl) (by kernel_rfl) (by kernel_rfl) (fun _ _ _ h => h) (Or.inl ⟨by rfl, ?_⟩) (by assumption) ?_
          rotate_left
          · intro w hSw; (try dsimp only at hSw); go_simp <;> with_reducible rfl
          try simp only [Act.put, List.getElem_toArray, List.getElem_cons_zero, List.getElem_cons_succ, List.setIfInBounds_toArray, List.set_cons_zero, List.set_cons_succ]
          refine wpAnyH_take (i := 4) (v := ?_) rfl (by kernel_rfl) (by kernel_rfl) (by kernel_rfl) (fun _ _ _ h => h) (Or.inl ⟨by rfl, ?_⟩) (by assumption) ?_
          rotate_left
          · intro w hSw; (try dsimp only at hSw); go_simp <;> (try simp only [wy, wy2]) <;> with_reducible rfl
          try simp only [Act.put, List.getElem_toArray, List.getElem_cons_zero, List.getElem_cons_succ, List.setIfInBounds_toArray, List.set_cons_zero, List.set_cons_succ]
          try simp only [wy, wy2]
          refine wpAnyH_take (i := 5) (v := ?_) rfl (by kernel_rfl) (by kernel_rfl) (by kernel_rfl) (fun _ _ _ h => h) (Or.inl ⟨by rfl, ?_⟩) (by assumption) ?_
          rotate_left
          · intro w hSw; (try dsimp only at hSw); go_simp <;> with_reducible rfl
          try simp only [Act.put, List.getElem_toArray, List.getElem_cons_zero, List.getElem_cons_succ, List.setIfInBounds_toArray, List.set_cons_zero, List.set_cons_succ]
          refine wpAnyH_take (i := 6) (v := ?_) rfl (by kernel_rfl) (by kernel_rfl) (by kernel_rfl) (fun _ _ _ h => h) (Or.inl ⟨by rfl, ?_⟩) (by assumption) ?_
          rotate_left
          · intro w hSw; (try dsimp only at hSw); go_simp <;> with_reducible rfl
          try simp only [Act.put, List.getElem_toArray, List.getElem_cons_zero, List.getElem_cons_succ, List.setIfInBounds_toArray, List.set_cons_zero, List.set_cons_succ]
          refine wpAnyH_take (i := 7) (v := ?_) rfl (by kernel_rfl) (by kernel_rfl) (by kernel_rfl) (fun _ _ _ h => h) (Or.inl ⟨by rfl, ?_⟩) (by assumption) ?_
          rotate_left
          · intro w hSw; (try dsimp only at hSw); go_simp <;> (try simp only [wy, wy2]) <;> with_reducible rfl
          try simp only [Act.put, List.getElem_toArray, List.getElem_cons_zero, List.getElem_cons_succ, List.setIfInBounds_toArray, List.set_cons_zero, List.set_cons_succ]
          try simp only [wy, wy2]
          refine wpAnyH_take (i := 8) (v := ?_) rfl (by kernel_rfl) (by kernel_rfl) (by kernel_rfl) (fun _ _ _ h => h) (Or.inl ⟨by rfl, ?_⟩) (by assumption) ?_
          rotate_left
          · intro w hSw; (try dsimp only at hSw); go_simp <;> with_reducible rfl
          try simp only [Act.put, List.getElem_toArray, List.getElem_cons_zero, List.getElem_cons_succ, List.setIfInBounds_toArray, List.set_cons_zero, List.set_cons_succ]
          refine wpAnyH_take (i := 10) (v := ?_) rfl (by kernel_rfl) (by kernel_rfl) (by kernel_rfl) (fun _ _ _ h => h) (Or.inl ⟨by rfl, ?_⟩) (by assumption) ?_
          rotate_left
          · intro w hSw; (try dsimp only at hSw); go_simp <;> with_reducible rfl
          try simp only [Act.put, List.getElem_toArray, List.getElem_cons_zero, List.getElem_cons_succ, List.setIfInBounds_toArray, List.set_cons_zero, List.set_cons_succ]
          refine wpAnyH_take (i := 11) (v := ?_) rfl (by kernel_rfl) (by kernel_rfl) (by kernel_rfl) (fun _ _ _ h => h) (Or.inl ⟨by rfl, ?_⟩) (by assumption) ?_
          rotate_left
          · intro w hSw; (try dsimp only at hSw); go_simp <;> with_reducible rfl
          try simp only [Act.put, List.getElem_toArray, List.getElem_cons_zero, List.getElem_cons_succ, List.setIfInBounds_toArray, List.set_cons_zero, List.set_cons_succ]
          refine wpAnyH_take (i := 12) (v := ?_) rfl (by kernel_rfl) (by kernel_rfl) (by kernel_rfl) (fun _ _ _ h => h) (Or.inl ⟨by rfl, ?_⟩) (by assumption) ?_
          rotate_left
          · intro w hSw; (try dsimp only at hSw); go_simp <;> with_reducible rfl
          try simp only [Act.put, List.getElem_toArray, List.getElem_cons_zero, List.getElem_cons_succ, List.setIfInBounds_toArray, List.set_cons_zero, List.set_cons_succ]
          refine wpAnyH_ready (rs := [9, 13]) (by kernel_rfl) (by simp) ?_
          refine AllReadyH.cons rfl (fun K hK => ?_) (AllReadyH.cons rfl (fun K hK => ?_) AllReadyH.nil)
          · go_simp
            (try go_wp2_with fail)
            refine hK.out _ _ trivial (fun hHeld => ?_)
            clear hK K
            try simp only [Act.put, List.getElem_toArray, List.getElem_cons_zero, List.getElem_cons_succ, List.setIfInBounds_toArray, List.set_cons_zero, List.set_cons_succ]
            refine wpAnyH_ready (rs := [13]) (by kernel_rfl) (by simp) ?_
            refine AllReadyH.cons rfl (fun K hK => ?_) AllReadyH.nil
            go_simp
            (try go_wp2_with fail)
            refine hK.out _ _ trivial (fun hHeld => ?_)
            clear hK K
            try simp only [Act.put, List.getElem_toArray, List.getElem_cons_zero, List.getElem_cons_succ, List.setIfInBounds_toArray, List.set_cons_zero, List.set_cons_succ]
            refine wpAnyH_take (i := 14) (v := ?_) rfl (by kernel_rfl) (by kernel_rfl) (by kernel_rfl) (fun _ _ _ h => h) (Or.inl ⟨by rfl, ?_⟩) (by assumption) ?_
            rotate_left
            · intro w hSw; (try dsimp only at hSw); go_simp <;> with_reducible rfl
            try simp only [Act.put, List.getElem_toArray, List.getElem_cons_zero, List.getElem_cons_succ, List.setIfInBounds_toArray, List.set_cons_zero, List.set_cons_succ]
            refine wpAnyH_ready (rs := [15]) (by kernel_rfl) (by simp) ?_
            refine AllReadyH.cons rfl (fun K hK => ?_) AllReadyH.nil
            go_simp
            (try go_wp2_with fail)
            refine hK.out _ _ trivial (fun hHeld => ?_)
            clear hK K
            try simp only [Act.put, List.getElem_toArray, List.getElem_cons_zero, List.getElem_cons_succ, List.setIfInBounds_toArray, List.set_cons_zero, List.set_cons_succ]
            refine wpAnyH_take (i := 16) (v := ?_) rfl (by kernel_rfl) (by kernel_rfl) (by kernel_rfl) (fun _ _ _ h => h) (Or.inl ⟨by rfl, ?_⟩) (by assumption) ?_
            rotate_left
            · intro w hSw; (try dsimp only at hSw); go_simp <;> with_reducible rfl
            try simp only [Act.put, List.getElem_toArray, List.getElem_cons_zero, List.getElem_cons_succ, List.setIfInBounds_toArray, List.set_cons_zero, List.set_cons_succ]
            refine wpAnyH_ready (rs := [17]) (by kernel_rfl) (by simp) ?_
            refine AllReadyH.cons rfl (fun K hK => ?_) AllReadyH.nil
            go_simp
            (try go_wp2_with fail)
            refine hK.out _ _ trivial (fun hHeld => ?_)
            clear hK K
            try simp only [Act.put, List.getElem_toArray, List.getElem_cons_zero, List.getElem_cons_succ, List.setIfInBounds_toArray, List.set_cons_zero, List.set_cons_succ]
            refine wpAnyH_done (by kernel_rfl) ?_ _
            clear hHeld
            go_wp2_with fail
            exact ⟨⟨y, by omega, by go_num, hfin2⟩, by simp [intOf]; omega⟩
          · go_simp
            (try go_wp2_with fail)
            refine hK.out _ _ trivial (fun hHeld => ?_)
            clear hK K
            try simp only [Act.put, List.getElem_toArray, List.getElem_cons_zero, List.getElem_cons_succ, List.setIfInBounds_toArray, List.set_cons_zero, List.set_cons_succ]
            refine wpAnyH_ready (rs := [9]) (by kernel_rfl) (by simp) ?_
            refine AllReadyH.cons rfl (fun K hK => ?_) AllReadyH.nil
            go_simp
            (try go_wp2_with fail)
            refine hK.out _ _ trivial (fun hHeld => ?_)
            clear hK K
            try simp only [Act.put, List.getElem_toArray, List.getElem_cons_zero, List.getElem_cons_succ, List.setIfInBounds_toArray, List.set_cons_zero, List.set_cons_succ]
            refine wpAnyH_take (i := 14) (v := ?_) rfl (by kernel_rfl) (by kernel_rfl) (by kernel_rfl) (fun _ _ _ h => h) (Or.inl ⟨by rfl, ?_⟩) (by assumption) ?_
            rotate_left
            · intro w hSw; (try dsimp only at hSw); go_simp <;> with_reducible rfl
            try simp only [Act.put, List.getElem_toArray, List.getElem_cons_zero, List.getElem_cons_succ, List.setIfInBounds_toArray, List.set_cons_zero, List.set_cons_succ]
            refine wpAnyH_ready (rs := [15]) (by kernel_rfl) (by simp) ?_
            refine AllReadyH.cons rfl (fun K hK => ?_) AllReadyH.nil
            go_simp
            (try go_wp2_with fail)
            refine hK.out _ _ trivial (fun hHeld => ?_)
            clear hK K
            try simp only [Act.put, List.getElem_toArray, List.getElem_cons_zero, List.getElem_cons_succ, List.setIfInBounds_toArray, List.set_cons_zero, List.set_cons_succ]
            refine wpAnyH_take (i := 16) (v := ?_) rfl (by kernel_rfl) (by kernel_rfl) (by kernel_rfl) (fun _ _ _ h => h) (Or.inl ⟨by rfl, ?_⟩) (by assumption) ?_
            rotate_left
            · intro w hSw; (try dsimp only at hSw); go_simp <;> with_reducible rfl
            try simp only [Act.put, List.getElem_toArray, List.getElem_cons_zero, List.getElem_cons_succ, List.setIfInBounds_toArray, List.set_cons_zero, List.set_cons_succ]
            refine wpAnyH_ready (rs := [17]) (by kernel_rfl) (by simp) ?_
            refine AllReadyH.cons rfl (fun K hK => ?_) AllReadyH.nil
            go_simp
            (try go_wp2_with fail)
            refine hK.out _ _ trivial (fun hHeld => ?_)
            clear hK K
            try simp only [Act.put, List.getElem_toArray, List.getElem_cons_zero, List.getElem_cons_succ, List.setIfInBounds_toArray, List.set_cons_zero, List.set_cons_succ]
            refine wpAnyH_done (by kernel_rfl) ?_ _
            clear hHeld
            go_wp2_with fail
            exact ⟨⟨y, by omega, by go_num, hfin2⟩, by simp [intOf]; omega⟩
        · have d1 : decide ((j : Int) < (k : Int)) = false := by simp; omega
          have d2 : ¬ ((j : Int) < (k : Int)) := by omega
          have ek : k = j := by omega
          subst ek
          go_wp2_with fail
          refine bodyPost_ret (results_none rfl _ _ _) rfl ?_
          exact ⟨⟨_, rfl⟩, _, hfin.out.1, hfin.out.2, hw3.out.1, hw3.out.2⟩
end Go.Proofs.Ytohkjikhlakglaa
end

/- Disks as plain values: files by rising names, and what each call makes of them. -/
import Derived.Test.YtgllkonbgigcbabMem
import Derived.Sort.KeysCollected
namespace Go.Hay
open Go.RowKit
set_option linter.unusedVariables false
set_option linter.unusedSimpArgs false

/-- A file: its name, its bytes, how many of them last. -/
structure Fl where
  name : List UInt8
  bytes : List UInt8
  last : Nat
/-- A disk. -/
structure Dk where
  room : Nat
  steps : Nat
  files : List Fl
  arm : Option Nat
  dead : Bool

def nameOk (s : List UInt8) : Bool := s.all (fun c => decide (33 ≤ c.toNat) && decide (c.toNat ≤ 126)) && (decide (1 ≤ s.length) && decide (s.length ≤ 32))

/-- No later than. -/
def leN (a b : List UInt8) : Bool := bytesBefore a b || a == b
theorem bb_irrefl : ∀ (a : List UInt8), bytesBefore a a = false
  | [] => rfl
  | x :: r => by simp [bytesBefore, bb_irrefl r]
theorem bb_total : ∀ (a b : List UInt8), a ≠ b → bytesBefore a b = true ∨ bytesBefore b a = true
  | [], [], h => absurd rfl h
  | [], _ :: _, _ => .inl rfl
  | _ :: _, [], _ => .inr rfl
  | x :: r, y :: s, h => by
    simp only [bytesBefore, Bool.or_eq_true, Bool.and_eq_true, decide_eq_true_eq, beq_iff_eq]
    rcases Nat.lt_trichotomy x.toNat y.toNat with h1 | h1 | h1
    · exact .inl (.inl (UInt8.lt_iff_toNat_lt.2 h1))
    · have e : x = y := UInt8.toNat_inj.1 h1
      subst e
      rcases bb_total r s (fun e => h (by rw [e])) with h2 | h2
      · exact .inl (.inr ⟨rfl, h2⟩)
      · exact .inr (.inr ⟨rfl, h2⟩)
    · exact .inr (.inl (UInt8.lt_iff_toNat_lt.2 h1))
theorem bb_trans : ∀ (a b c : List UInt8), bytesBefore a b = true → bytesBefore b c = true → bytesBefore a c = true
  | [], [], _, h, _ => by cases h
  | [], _ :: _, [], _, h => by cases h
  | [], _ :: _, _ :: _, _, _ => rfl
  | _ :: _, [], _, h, _ => by cases h
  | _ :: _, _ :: _, [], _, h => by cases h
  | x :: r, y :: s, z :: t, h, k => by
    simp only [bytesBefore, Bool.or_eq_true, Bool.and_eq_true, decide_eq_true_eq, beq_iff_eq] at h k ⊢
    rcases h with h | ⟨rfl, h⟩
    · rcases k with k | ⟨rfl, k⟩
      · exact .inl (UInt8.lt_trans h k)
      · exact .inl h
    · rcases k with k | ⟨rfl, k⟩
      · exact .inl k
      · exact .inr ⟨rfl, bb_trans r s t h k⟩
theorem bb_asymm {a b : List UInt8} (h : bytesBefore a b = true) : bytesBefore b a = false := by
  cases hb : bytesBefore b a with
  | false => rfl
  | true => have := bb_trans _ _ _ h hb; rw [bb_irrefl] at this; cases this
theorem bb_ne {a b : List UInt8} (h : bytesBefore a b = true) : a ≠ b := fun e => by subst e; rw [bb_irrefl] at h; cases h
/-- .. as lists are ordered. -/
theorem bb_lt : ∀ (a b : List UInt8), bytesBefore a b = true ↔ a < b
  | [], [] => by simp [bytesBefore]
  | [], _ :: _ => by simp [bytesBefore]
  | _ :: _, [] => by simp [bytesBefore]
  | x :: r, y :: s => by
    simp only [bytesBefore, Bool.or_eq_true, Bool.and_eq_true, decide_eq_true_eq, beq_iff_eq, List.cons_lt_cons_iff, bb_lt r s]

section
variable {α : Type} (nm : α → List UInt8)
/-- A thing put into its place; of its name there was one, or none. -/
def putG (f : α) : Bool → List α → List α
  | done, [] => if done then [] else [f]
  | done, g :: r => (if !done && leN (nm f) (nm g) then [f] else []) ++ ((if nm g == nm f then [] else [g]) ++ putG f (done || leN (nm f) (nm g)) r)
def dropG (k : List UInt8) (l : List α) : List α := l.filter fun g => !(nm g == k)
def riseG (l : List α) : Prop := l.Pairwise fun a b => bytesBefore (nm a) (nm b) = true
def lookG (k : List UInt8) (l : List α) : Option α := l.find? fun g => nm g == k
def insG (f : α) : List α → List α
  | [] => [f]
  | y :: r => if bytesBefore (nm f) (nm y) then f :: y :: r else y :: insG f r
variable {nm}
theorem putG_done (f : α) : ∀ l, putG nm f true l = dropG nm (nm f) l
  | [] => rfl
  | g :: r => by
    simp only [putG, Bool.not_true, Bool.false_and, Bool.true_or, putG_done f r, dropG, List.filter_cons]
    cases nm g == nm f <;> simp
theorem dropG_all {k : List UInt8} {l : List α} (h : ∀ x ∈ l, nm x ≠ k) : dropG nm k l = l := by
  unfold dropG
  rw [List.filter_eq_self]
  intro x hx
  simp [h x hx]
theorem putG_ins (f : α) : ∀ (l : List α), riseG nm l → putG nm f false l = insG nm f (dropG nm (nm f) l)
  | [], _ => rfl
  | g :: r, h => by
    have hr := (List.pairwise_cons.1 h)
    by_cases e : nm g = nm f
    · have hd : dropG nm (nm f) r = r := dropG_all (fun x hx e' => bb_ne (hr.1 x hx) (e.trans e'.symm))
      have h1 : dropG nm (nm f) (g :: r) = r := by
        have : dropG nm (nm f) (g :: r) = dropG nm (nm f) r := by simp [dropG, List.filter_cons, e]
        rw [this, hd]
      rw [h1]
      have h2 : putG nm f false (g :: r) = f :: r := by simp [putG, leN, e, putG_done, hd]
      rw [h2]
      cases r with
      | nil => rfl
      | cons y s => have := hr.1 y (by simp); rw [e] at this; simp [insG, this]
    · have h1 : dropG nm (nm f) (g :: r) = g :: dropG nm (nm f) r := by simp [dropG, List.filter_cons, e]
      rw [h1]
      by_cases hb : bytesBefore (nm f) (nm g) = true
      · simp [putG, leN, hb, e, putG_done, insG]
      · have hle : leN (nm f) (nm g) = false := by simp [leN, hb, Ne.symm e]
        simp only [Bool.not_eq_true] at hb
        simp [putG, hle, e, insG, hb, putG_ins f r hr.2]
theorem riseG_drop (k : List UInt8) {l : List α} (h : riseG nm l) : riseG nm (dropG nm k l) := h.sublist List.filter_sublist
theorem mem_insG {f x : α} : ∀ {l : List α}, x ∈ insG nm f l ↔ x = f ∨ x ∈ l
  | [] => by simp [insG]
  | y :: r => by
    unfold insG
    split
    · simp
    · simp only [List.mem_cons, mem_insG (l := r)]
      constructor
      · rintro (h | h | h) <;> simp [h]
      · rintro (h | h | h) <;> simp [h]
theorem mem_dropG {k : List UInt8} {x : α} {l : List α} : x ∈ dropG nm k l ↔ x ∈ l ∧ nm x ≠ k := by simp [dropG]
theorem mem_putG {f x : α} {l : List α} (h : riseG nm l) : x ∈ putG nm f false l ↔ x = f ∨ (x ∈ l ∧ nm x ≠ nm f) := by
  rw [putG_ins f l h, mem_insG, mem_dropG]
theorem riseG_ins {f : α} : ∀ {l : List α}, riseG nm l → (∀ x ∈ l, nm x ≠ nm f) → riseG nm (insG nm f l)
  | [], _, _ => List.pairwise_singleton _ _
  | y :: r, h, hn => by
    have hr := List.pairwise_cons.1 h
    unfold insG
    split
    · rename_i hb
      refine List.pairwise_cons.2 ⟨fun x hx => ?_, h⟩
      rcases List.mem_cons.1 hx with rfl | hx
      · exact hb
      · exact bb_trans _ _ _ hb (hr.1 x hx)
    · rename_i hb
      refine List.pairwise_cons.2 ⟨fun x hx => ?_, riseG_ins hr.2 (fun x hx => hn x (by simp [hx]))⟩
      rcases mem_insG.1 hx with rfl | hx
      · rcases bb_total _ _ (hn y (by simp)) with h1 | h1
        · exact h1
        · exact absurd h1 hb
      · exact hr.1 x hx
theorem riseG_put (f : α) {l : List α} (h : riseG nm l) : riseG nm (putG nm f false l) := by
  rw [putG_ins f l h]
  exact riseG_ins (riseG_drop _ h) (fun x hx => (mem_dropG.1 hx).2)
theorem putG_map {β : Type} {nm' : β → List UInt8} (φ : α → β) (hφ : ∀ x, nm' (φ x) = nm x) (f : α) : ∀ (b : Bool) (l : List α), (putG nm f b l).map φ = putG nm' (φ f) b (l.map φ)
  | b, [] => by cases b <;> rfl
  | b, g :: r => by
    simp only [putG, List.map_append, List.map_cons, hφ, putG_map φ hφ f _ r]
    congr 1
    · split <;> rfl
    · congr 1
      split <;> rfl
theorem dropG_map {β : Type} {nm' : β → List UInt8} (φ : α → β) (hφ : ∀ x, nm' (φ x) = nm x) (k : List UInt8) (l : List α) : (dropG nm k l).map φ = dropG nm' k (l.map φ) := by
  simp [dropG, List.filter_map, Function.comp_def, hφ]
theorem riseG_map {β : Type} {nm' : β → List UInt8} (φ : α → β) (hφ : ∀ x, nm' (φ x) = nm x) {l : List α} : riseG nm' (l.map φ) ↔ riseG nm l := by
  simp [riseG, List.pairwise_map, hφ]
theorem lookG_map {β : Type} {nm' : β → List UInt8} (φ : α → β) (hφ : ∀ x, nm' (φ x) = nm x) (k : List UInt8) (l : List α) : lookG nm' k (l.map φ) = (lookG nm k l).map φ := by
  simp [lookG, List.find?_map, Function.comp_def, hφ]
theorem lookG_some {k : List UInt8} {l : List α} {x : α} (h : lookG nm k l = some x) : x ∈ l ∧ nm x = k :=
  ⟨List.mem_of_find?_eq_some h, by simpa using List.find?_some h⟩
theorem lookG_none {k : List UInt8} {l : List α} (h : lookG nm k l = none) : ∀ x ∈ l, nm x ≠ k := fun x hx => by simpa using List.find?_eq_none.1 h x hx
theorem rise_inj {l : List α} (h : riseG nm l) {x y : α} (hx : x ∈ l) (hy : y ∈ l) (e : nm x = nm y) : x = y := by
  induction l with
  | nil => cases hx
  | cons a l ih =>
    have hr := List.pairwise_cons.1 h
    rcases List.mem_cons.1 hx with ex | hx' <;> rcases List.mem_cons.1 hy with ey | hy'
    · exact ex.trans ey.symm
    · exact absurd e (by rw [ex]; exact bb_ne (hr.1 y hy'))
    · exact absurd e.symm (by rw [ey]; exact bb_ne (hr.1 x hx'))
    · exact ih hr.2 hx' hy'
theorem lookG_mem {k : List UInt8} {l : List α} (h : riseG nm l) {x : α} (hx : x ∈ l) (e : nm x = k) : lookG nm k l = some x := by
  cases hl : lookG nm k l with
  | none => exact absurd e (lookG_none hl x hx)
  | some y => obtain ⟨hy, ey⟩ := lookG_some hl; rw [rise_inj h hy hx (ey.trans e.symm)]
/-- Where one of the name is there, the place is its own. -/
theorem putG_set (f : α) : ∀ (l : List α), riseG nm l → (∃ x ∈ l, nm x = nm f) → putG nm f false l = l.map fun g => if nm g == nm f then f else g
  | [], _, h => by obtain ⟨x, hx, _⟩ := h; cases hx
  | g :: r, h, hx => by
    have hr := List.pairwise_cons.1 h
    by_cases e : nm g = nm f
    · have hd : dropG nm (nm f) r = r := dropG_all (fun x hx e' => bb_ne (hr.1 x hx) (e.trans e'.symm))
      have hm : r.map (fun g => if nm g == nm f then f else g) = r := by
        conv => rhs; rw [← List.map_id r]
        refine List.map_congr_left fun x hx => ?_
        have : nm x ≠ nm f := fun e' => bb_ne (hr.1 x hx) (e.trans e'.symm)
        simp [this]
      rw [List.map_cons, hm]
      simp [putG, leN, e, putG_done, hd]
    · obtain ⟨x, hx, ex⟩ := hx
      rcases List.mem_cons.1 hx with rfl | hx
      · exact absurd ex e
      · have hb := hr.1 x hx
        rw [ex] at hb
        have hle : leN (nm f) (nm g) = false := by simp [leN, bb_asymm hb, Ne.symm e]
        simp [putG, hle, e, putG_set f r hr.2 ⟨x, hx, ex⟩]
theorem sum_drop (φ : α → Nat) {k : List UInt8} : ∀ {l : List α}, riseG nm l → ((dropG nm k l).map φ).sum + ((lookG nm k l).map φ).getD 0 = (l.map φ).sum
  | [], _ => rfl
  | g :: r, h => by
    have hr := List.pairwise_cons.1 h
    have ih := sum_drop φ (k := k) hr.2
    by_cases e : nm g = k
    · have hd : dropG nm k r = r := dropG_all (fun x hx e' => bb_ne (hr.1 x hx) (e.trans e'.symm))
      have h1 : dropG nm k (g :: r) = r := by
        have : dropG nm k (g :: r) = dropG nm k r := by simp [dropG, List.filter_cons, e]
        rw [this, hd]
      simp [h1, lookG, e]
      omega
    · have h1 : dropG nm k (g :: r) = g :: dropG nm k r := by simp [dropG, List.filter_cons, e]
      have h2 : lookG nm k (g :: r) = lookG nm k r := by simp [lookG, e]
      rw [h1, h2]
      simp only [List.map_cons, List.sum_cons]
      omega
theorem sum_sub (φ : α → Nat) : ∀ (s l : List α), riseG nm l → (∀ y ∈ s, y ∈ l) → (s.map nm).Nodup → (s.map φ).sum ≤ (l.map φ).sum
  | [], _, _, _, _ => Nat.zero_le _
  | y :: s, l, hr, hm, hn => by
    rw [List.map_cons, List.nodup_cons] at hn
    have h1 := sum_sub φ s (dropG nm (nm y) l) (riseG_drop _ hr) (fun z hz => mem_dropG.2 ⟨hm z (by simp [hz]), fun e => hn.1 (by rw [← e]; exact List.mem_map_of_mem hz)⟩) hn.2
    have h2 := sum_drop (nm := nm) φ (k := nm y) hr
    rw [lookG_mem hr (hm y (by simp)) rfl] at h2
    simp only [Option.map_some, Option.getD_some, List.map_cons, List.sum_cons] at h2 ⊢
    omega
theorem sum_ins (φ : α → Nat) (f : α) : ∀ (l : List α), ((insG nm f l).map φ).sum = φ f + (l.map φ).sum
  | [] => rfl
  | y :: r => by
    unfold insG
    split
    · simp
    · simp only [List.map_cons, List.sum_cons, sum_ins φ f r]; omega
theorem sum_put (φ : α → Nat) (f : α) {l : List α} (h : riseG nm l) : ((putG nm f false l).map φ).sum + ((lookG nm (nm f) l).map φ).getD 0 = (l.map φ).sum + φ f := by
  rw [putG_ins f l h, sum_ins]
  have := sum_drop (nm := nm) φ (k := nm f) h
  omega
end

/-- How many bytes there are. -/
def sumF (l : List Fl) : Nat := (l.map fun f => f.bytes.length).sum
/-- What every disk is. -/
structure Okd (d : Dk) : Prop where
  rise : riseG Fl.name d.files
  last : ∀ f ∈ d.files, f.last ≤ f.bytes.length
  name : ∀ f ∈ d.files, nameOk f.name = true
  sum : sumF d.files ≤ d.room
  room : d.room < 9223372036854775808
  arm : ∀ n, d.arm = some n → n < 9223372036854775808

def newD (room : Int) : Dk := ⟨room.toNat, 0, [], none, false⟩
def freeD (d : Dk) : Int := (d.room : Int) - sumF d.files
/-- A step: the disk behind it; does it die there? -/
def stepD (d : Dk) : Dk × Bool := if d.arm = some 0 then ({ d with steps := d.steps + 1, dead := true }, true) else ({ d with steps := d.steps + 1, arm := d.arm.map (· - 1) }, false)
def fileOf (l : List Fl) (name : List UInt8) : Fl := (lookG Fl.name name l).getD ⟨name, [], 0⟩
def grownF (l : List Fl) (name b : List UInt8) : List Fl := putG Fl.name { fileOf l name with bytes := (fileOf l name).bytes ++ b } false l
def appendD (d : Dk) (name b : List UInt8) : Dk × Int :=
  if d.dead then (d, 44) else if !nameOk name then (d, 40) else if (b.length : Int) > freeD d then (d, 41) else
    ((stepD { d with files := grownF d.files name b }).1, if (stepD { d with files := grownF d.files name b }).2 then 44 else 0)
def refusedD (d : Dk) (call : Int) (name to : List UInt8) (n : Int) : Int :=
  if d.dead then 44 else match lookG Fl.name name d.files with
    | none => 42
    | some f => if call == 2 && (decide (n < 0) || decide (n > (f.bytes.length : Int))) then 43 else if call == 3 && !nameOk to then 40 else 0
def changedF (l : List Fl) (call : Int) (name to : List UInt8) (n : Int) : List Fl :=
  if call = 1 then putG Fl.name { fileOf l name with last := (fileOf l name).bytes.length } false l
  else if call = 2 then putG Fl.name { fileOf l name with bytes := (fileOf l name).bytes.take n.toNat, last := min (fileOf l name).last n.toNat } false l
  else if call = 3 then putG Fl.name { fileOf l name with name := to } false (dropG Fl.name name l)
  else dropG Fl.name name l
def doD (d : Dk) (call : Int) (name to : List UInt8) (n : Int) : Dk × Int :=
  if refusedD d call name to n ≠ 0 then (d, refusedD d call name to n)
  else if (stepD d).2 then ((stepD d).1, 44)
  else ({ (stepD d).1 with files := changedF d.files call name to n }, 0)
def armD (d : Dk) (at_ : Int) : Dk := if d.dead then d else { d with arm := if at_ ≥ 0 then some at_.toNat else none }
def keptF (f : Fl) (k : Int) : Fl := { f with bytes := f.bytes.take (f.last + min k.toNat (f.bytes.length - f.last)), last := f.last + min k.toNat (f.bytes.length - f.last) }
def crashF : List Fl → List Int → List Fl
  | [], _ => []
  | f :: r, [] => keptF f 0 :: crashF r []
  | f :: r, k :: ks => keptF f k :: crashF r ks
def crashD (d : Dk) (keep : List Int) : Dk := ⟨d.room, 0, crashF d.files keep, none, false⟩
def flipOk (d : Dk) (name : List UInt8) (at_ bit : Int) : Bool :=
  match lookG Fl.name name d.files with
  | none => false
  | some f => decide (0 ≤ at_) && decide (at_ < f.bytes.length) && decide (0 ≤ bit) && decide (bit ≤ 7)
def flipB (bs : List UInt8) (i bit : Nat) : List UInt8 := bs.set i ((bs.getD i 0) ^^^ UInt8.ofNat (2 ^ bit))
def flipD (d : Dk) (name : List UInt8) (at_ bit : Int) : Dk :=
  if flipOk d name at_ bit then { d with files := putG Fl.name { fileOf d.files name with bytes := flipB (fileOf d.files name).bytes at_.toNat bit.toNat } false d.files } else d
def wipeD (d : Dk) : Dk := { d with files := [] }
end Go.Hay

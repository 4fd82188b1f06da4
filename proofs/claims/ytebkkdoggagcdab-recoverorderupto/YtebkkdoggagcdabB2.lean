/- Recover: versions as plain values: the first of each name by rising names; what there was, what changed, what is put together. No statement of the seat is proved here. Stable sorting: plain mathematics of places. No statement of the seat is proved here. Recover: what is sorted stably, and then made compact, is the first of each name by rising names. No statement of the seat is proved here. Versions in memory; the calls that only read one: Less, Seen, As, the program's and the reference's; copies. copyOf, As; how rows in memory lie: New, Len, find. Where a name stands: find. Cells written over in a row; a copy onto it; an insertion. No statement of the seat is proved here. -/
import Derived.Test.YtebkkdoggagcdabB1
import Derived.Test.YtebkkdoggagcdabRows
import Derived.Laws.StructEq
import Derived.Handy
import Derived.BigQuiet
import Derived.Deep.QuietTactic
import Derived.Deep.RegionHeld3
import Derived.Deep.RegionWith
import Derived.Laws.Cover3
import Derived.Lib.AppendZerosOnto
import Derived.Lib.Overlaps
section
namespace Go.Hay
open Go.RowKit
set_option linter.unusedVariables false
set_option linter.unusedSimpArgs false

theorem purV_snoc (m : Int) (l : List Vn) (x : Vn) : purV m (l ++ [x]) = if stays m x = true then purV m l ++ [x] else purV m l := by
  unfold purV
  rw [List.filter_append]
  by_cases h : stays m x = true <;> simp [h]
/-- The first one of a name. -/
def lk (l : List Vn) (i : Int × Int) : Option Vn := l.find? fun x => decide (x.id = i)
theorem lk_nil (i : Int × Int) : lk [] i = none := rfl
theorem lk_cons (x : Vn) (l : List Vn) (i : Int × Int) : lk (x :: l) i = if x.id = i then some x else lk l i := by
  unfold lk
  rw [List.find?_cons]
  by_cases h : x.id = i <;> simp [h]
theorem lk_append (l m : List Vn) (i : Int × Int) : lk (l ++ m) i = (lk l i).or (lk m i) := List.find?_append
theorem lk_id {l : List Vn} {i : Int × Int} {x : Vn} (h : lk l i = some x) : x.id = i := by simpa using List.find?_some h
theorem lk_mem {l : List Vn} {i : Int × Int} {x : Vn} (h : lk l i = some x) : x ∈ l := List.mem_of_find?_eq_some h
theorem lk_none {l : List Vn} {i : Int × Int} : lk l i = none ↔ ∀ x ∈ l, x.id ≠ i := by
  unfold lk
  rw [List.find?_eq_none]
  constructor
  · intro h x hx e; exact h x hx (by simpa using e)
  · intro h x hx e; exact h x hx (by simpa using e)
theorem has_lk (l : List Vn) (i : Int × Int) : hasV l i = (lk l i).isSome := by
  cases h : lk l i with
  | none =>
    have := lk_none.1 h
    cases e : hasV l i with
    | false => rfl
    | true =>
      obtain ⟨x, hx, e2⟩ := List.any_eq_true.1 e
      exact absurd (by simpa using e2) (this x hx)
  | some x => exact List.any_eq_true.2 ⟨x, lk_mem h, by simpa using lk_id h⟩
theorem lk_ins {l : List Vn} {x : Vn} (h : hasV l x.id = false) (i : Int × Int) : lk (insV l x) i = if x.id = i then some x else lk l i := by
  have h0 := hasNot_at x.id h
  unfold insV
  rw [lk_append, lk_cons]
  by_cases e : x.id = i
  · rw [if_pos e, if_pos e]
    have h1 : lk (l.take (kOf l x.id)) i = none := lk_none.2 fun y hy => e ▸ h0 y (List.mem_of_mem_take hy)
    rw [h1]; rfl
  · rw [if_neg e, if_neg e, ← lk_append, List.take_append_drop]
theorem srt_lk {l : List Vn} (hs : Srt l) {x : Vn} (hx : x ∈ l) : lk l x.id = some x := by
  induction l with
  | nil => cases hx
  | cons y l ih =>
    rw [lk_cons]
    rcases List.mem_cons.1 hx with rfl | hx
    · rw [if_pos rfl]
    · rw [if_neg (ltI_ne ((List.pairwise_cons.1 hs).1 x hx))]
      exact ih (List.pairwise_cons.1 hs).2 hx
/-- Lists by rising names are alike where they tell alike of each name. -/
theorem srt_ext {α : Type} (f : Vn → α) (hf : ∀ x y, f x = f y → x.id = y.id) : ∀ {l m : List Vn}, Srt l → Srt m → (∀ i, (lk l i).map f = (lk m i).map f) → l.map f = m.map f
  | [], [], _, _, _ => rfl
  | [], y :: m, _, _, h => by have := h y.id; simp [lk_nil, lk_cons] at this
  | x :: l, [], _, _, h => by have := h x.id; simp [lk_nil, lk_cons] at this
  | x :: l, y :: m, hl, hm, h => by
    have hl' := List.pairwise_cons.1 hl
    have hm' := List.pairwise_cons.1 hm
    have hxy : x.id = y.id := by
      by_cases e : x.id = y.id
      · exact e
      · have h1 := h x.id
        rw [lk_cons, lk_cons, if_pos rfl, if_neg (fun e' => e e'.symm)] at h1
        cases h2 : lk m x.id with
        | none => rw [h2] at h1; simp at h1
        | some z =>
          have h3 := hm'.1 z (lk_mem h2)
          rw [lk_id h2] at h3
          have h4 := h y.id
          rw [lk_cons, lk_cons, if_pos rfl, if_neg e] at h4
          cases h5 : lk l y.id with
          | none => rw [h5] at h4; simp at h4
          | some z2 =>
            have h6 := hl'.1 z2 (lk_mem h5)
            rw [lk_id h5] at h6
            rw [ltI_asymm h3] at h6
            cases h6
    have hfx : f x = f y := by
      have h1 := h x.id
      rw [lk_cons, lk_cons, if_pos rfl, if_pos hxy.symm] at h1
      simpa using h1
    have ht : ∀ i, (lk l i).map f = (lk m i).map f := fun i => by
      by_cases e : x.id = i
      · subst e
        have h1 : lk l x.id = none := lk_none.2 fun z hz e => by have := hl'.1 z hz; rw [e, ltI_irrefl] at this; cases this
        have h2 : lk m x.id = none := lk_none.2 fun z hz e => by have := hm'.1 z hz; rw [← hxy, e, ltI_irrefl] at this; cases this
        rw [h1, h2]
      · have h1 := h i
        rwa [lk_cons, lk_cons, if_neg e, if_neg (hxy ▸ e)] at h1
    rw [List.map_cons, List.map_cons, hfx, srt_ext f hf hl'.2 hm'.2 ht]
theorem srt_eq {l m : List Vn} (hl : Srt l) (hm : Srt m) (h : ∀ i, lk l i = lk m i) : l = m := by
  have := srt_ext (fun x => x) (fun x y e => by rw [e]) hl hm (fun i => by rw [h i])
  simpa using this
theorem srt_like {l m : List Vn} (hl : Srt l) (hm : Srt m) (h : ∀ i, (lk l i).map Vn.p = (lk m i).map Vn.p) : Like l m := srt_ext Vn.p (fun x y e => p_id e) hl hm h
theorem lk_like : ∀ {l m : List Vn}, Like l m → ∀ i, (lk l i).map Vn.p = (lk m i).map Vn.p
  | [], m, h, i => by rw [Like.nil h]
  | x :: l, m, h, i => by
    obtain ⟨y, s, rfl, e, h'⟩ := Like.cons h
    rw [lk_cons, lk_cons, ← p_id e]
    split
    · simp [e]
    · exact lk_like h' i
/-- The first of each name, by rising names. -/
def stO (o : List Vn) (x : Vn) : List Vn := if hasV o x.id = true then o else insV o x
def onceV (l : List Vn) : List Vn := l.foldl stO []
theorem onceV_snoc (l : List Vn) (x : Vn) : onceV (l ++ [x]) = stO (onceV l) x := by unfold onceV; rw [List.foldl_append]; rfl
theorem ins_len (l : List Vn) (x : Vn) : (insV l x).length = l.length + 1 := by
  have := kOf_le l x.id
  unfold insV
  rw [List.length_append, List.length_cons, List.length_take, List.length_drop]
  omega
theorem fold_ok : ∀ (l o : List Vn), Srt o → Srt (l.foldl stO o) ∧ (∀ i, lk (l.foldl stO o) i = (lk o i).or (lk l i)) ∧ (l.foldl stO o).length ≤ o.length + l.length
  | [], o, h => ⟨h, fun i => by simp [lk_nil], by simp⟩
  | x :: l, o, h => by
    rw [List.foldl_cons]
    have hs : Srt (stO o x) ∧ (∀ i, lk (stO o x) i = (lk o i).or (lk [x] i)) ∧ (stO o x).length ≤ o.length + 1 := by
      unfold stO
      by_cases e : hasV o x.id = true
      · rw [if_pos e]
        refine ⟨h, fun i => ?_, by omega⟩
        rw [lk_cons]
        by_cases ei : x.id = i
        · subst ei
          rw [has_lk] at e
          obtain ⟨y, hy⟩ := Option.isSome_iff_exists.1 e
          rw [hy]; rfl
        · rw [if_neg ei, lk_nil]; simp
      · have e' : hasV o x.id = false := by simpa using e
        rw [if_neg e]
        refine ⟨h.ins e', fun i => ?_, by rw [ins_len]; omega⟩
        rw [lk_ins e', lk_cons, lk_nil]
        by_cases ei : x.id = i
        · subst ei
          rw [if_pos rfl, if_pos rfl, lk_none.2 (hasNot_at _ e')]; rfl
        · rw [if_neg ei, if_neg ei]; simp
    obtain ⟨h1, h2, h3⟩ := fold_ok l (stO o x) hs.1
    refine ⟨h1, fun i => ?_, by simp only [List.length_cons]; omega⟩
    rw [h2 i, hs.2.1 i, show x :: l = [x] ++ l from rfl, lk_append]
    cases lk o i <;> rfl
theorem once_srt (l : List Vn) : Srt (onceV l) := (fold_ok l [] List.Pairwise.nil).1
theorem once_lk (l : List Vn) (i : Int × Int) : lk (onceV l) i = lk l i := by rw [show onceV l = l.foldl stO [] from rfl, (fold_ok l [] List.Pairwise.nil).2.1 i]; rfl
theorem once_len (l : List Vn) : (onceV l).length ≤ l.length := by have := (fold_ok l [] List.Pairwise.nil).2.2; simpa [onceV] using this
theorem once_mem {l : List Vn} {x : Vn} (h : x ∈ onceV l) : x ∈ l := by
  have := srt_lk (once_srt l) h
  rw [once_lk] at this
  exact lk_mem this
theorem once_like {l m : List Vn} (h : Like l m) : Like (onceV l) (onceV m) := srt_like (once_srt l) (once_srt m) fun i => by rw [once_lk, once_lk]; exact lk_like h i
theorem lk_filter {l : List Vn} (hs : Srt l) (f : Vn → Bool) (i : Int × Int) : lk (l.filter f) i = (lk l i).filter f := by
  induction l with
  | nil => rfl
  | cons x l ih =>
    have hs' := List.pairwise_cons.1 hs
    have ih := ih hs'.2
    rw [List.filter_cons, lk_cons]
    by_cases e : x.id = i
    · rw [if_pos e]
      by_cases hf : f x = true
      · rw [if_pos hf, lk_cons, if_pos e]; simp [Option.filter, hf]
      · rw [if_neg hf, ih]
        have h1 : lk l i = none := lk_none.2 fun z hz e2 => by have := hs'.1 z hz; rw [e2, ← e, ltI_irrefl] at this; cases this
        rw [h1]; simp [Option.filter, hf]
    · rw [if_neg e]
      by_cases hf : f x = true
      · rw [if_pos hf, lk_cons, if_neg e, ih]
      · rw [if_neg hf, ih]
theorem lk_map (g : Vn → Vn) (hg : ∀ x, (g x).id = x.id) (l : List Vn) (i : Int × Int) : lk (l.map g) i = (lk l i).map g := by
  induction l with
  | nil => rfl
  | cons x l ih =>
    rw [List.map_cons, lk_cons, lk_cons, hg, ih]
    split <;> rfl
theorem srt_filter {l : List Vn} (hs : Srt l) (f : Vn → Bool) : Srt (l.filter f) := List.Pairwise.filter _ hs
theorem srt_map {l : List Vn} (hs : Srt l) (g : Vn → Vn) (hg : ∀ x, (g x).id = x.id) : Srt (l.map g) := by
  unfold Srt
  rw [List.pairwise_map]
  exact hs.imp fun {a b} h => by rw [hg, hg]; exact h
/-- What there was up to an epoch. -/
def epL (e : Int) (x : Vn) : Bool := decide (x.ep ≤ e)
def uptoV (l : List Vn) (e : Int) : List Vn := ((onceV l).filter (epL e)).map (asV e)
theorem as_id (e : Int) (x : Vn) : (asV e x).id = x.id := by unfold asV; split <;> rfl
theorem upto_srt (l : List Vn) (e : Int) : Srt (uptoV l e) := srt_map (srt_filter (once_srt l) _) _ (as_id e)
theorem upto_lk (l : List Vn) (e : Int) (i : Int × Int) : lk (uptoV l e) i = ((lk l i).filter (epL e)).map (asV e) := by
  unfold uptoV
  rw [lk_map _ (as_id e), lk_filter (once_srt l), once_lk]
theorem upto_len (l : List Vn) (e : Int) : (uptoV l e).length ≤ l.length := by
  unfold uptoV
  rw [List.length_map]
  exact Nat.le_trans (List.length_filter_le _ _) (once_len l)
theorem upto_like {l m : List Vn} (h : Like l m) (e : Int) : Like (uptoV l e) (uptoV m e) :=
  ((once_like h).filter (epL e) (fun x y h => by unfold epL; rw [p_ep h])).map (asV e) (as_p e)
/-- Came, or was deleted, behind an epoch. -/
def behS (m : Int) (x : Vn) : Bool := decide (m < x.ep) || decide (m < x.del)
def chgF (m : Int) (l : List Vn) : List Vn := l.filter (behS m)
def chgV (l : List Vn) (s u : Int) : List Vn := chgF s (uptoV l u)
theorem beh_p (m : Int) (x y : Vn) (h : x.p = y.p) : behS m x = behS m y := by unfold behS; rw [p_ep h, p_del h]
theorem chgF_like {l m : List Vn} (h : Like l m) (s : Int) : Like (chgF s l) (chgF s m) := h.filter (behS s) (beh_p s)
theorem chg_like {l m : List Vn} (h : Like l m) (s u : Int) : Like (chgV l s u) (chgV m s u) := chgF_like (upto_like h u) s
theorem chg_srt (l : List Vn) (s u : Int) : Srt (chgV l s u) := srt_filter (upto_srt l u) _
theorem chg_lk (l : List Vn) (s u : Int) (i : Int × Int) : lk (chgV l s u) i = (((lk l i).filter (epL u)).map (asV u)).filter (behS s) := by
  unfold chgV chgF
  rw [lk_filter (upto_srt l u), upto_lk]
theorem chgF_len (l : List Vn) (s : Int) : (chgF s l).length ≤ l.length := List.length_filter_le _ _
/-- When a name was deleted, as changes tell it. -/
def delOf (m : List Vn) (i : Int × Int) : Int := match lk m i with | some y => y.del | none => 0
def mrgG (m : List Vn) (x : Vn) : Vn := if x.del = 0 then erased x (delOf m x.id) else x
def mrgV (h m : List Vn) : List Vn := (onceV (h ++ m)).map (mrgG m)
theorem mrgG_id (m : List Vn) (x : Vn) : (mrgG m x).id = x.id := by unfold mrgG; split <;> rfl
theorem mrg_srt (h m : List Vn) : Srt (mrgV h m) := srt_map (once_srt _) _ (mrgG_id m)
theorem mrg_lk (h m : List Vn) (i : Int × Int) : lk (mrgV h m) i = ((lk h i).or (lk m i)).map (mrgG m) := by
  unfold mrgV
  rw [lk_map _ (mrgG_id m), once_lk, lk_append]
theorem mrg_len (h m : List Vn) : (mrgV h m).length ≤ h.length + m.length := by
  unfold mrgV
  rw [List.length_map]
  have := once_len (h ++ m)
  rwa [List.length_append] at this
theorem delOf_like {l m : List Vn} (h : Like l m) (i : Int × Int) : delOf l i = delOf m i := by
  have h1 := lk_like h i
  unfold delOf
  cases e1 : lk l i with
  | none =>
    rw [e1] at h1
    cases e2 : lk m i with
    | none => rfl
    | some y => rw [e2] at h1; simp at h1
  | some x =>
    rw [e1] at h1
    cases e2 : lk m i with
    | none => rw [e2] at h1; simp at h1
    | some y => rw [e2] at h1; exact p_del (by simpa using h1)
theorem mrgG_p {l m : List Vn} (h : Like l m) {x y : Vn} (e : x.p = y.p) : (mrgG l x).p = (mrgG m y).p := by
  unfold mrgG
  rw [p_del e, p_id e, delOf_like h]
  split
  · exact p_era e _
  · exact e
theorem map_like {l m : List Vn} (h : Like l m) (f g : Vn → Vn) (hf : ∀ x y : Vn, x.p = y.p → (f x).p = (g y).p) : Like (l.map f) (m.map g) := by
  induction l generalizing m with
  | nil => rw [Like.nil h]; exact rfl
  | cons x l ih =>
    obtain ⟨y, s, rfl, e, h'⟩ := Like.cons h
    exact Like.mk (hf x y e) (ih h')
theorem mrg_like {a b c d : List Vn} (h : Like a b) (k : Like c d) : Like (mrgV a c) (mrgV b d) := map_like (once_like (h.append k)) _ _ fun x y e => mrgG_p k e
/-- The reference's way: changes are put in one by one. -/
def stMg (o : List Vn) (y : Vn) : List Vn := match lk o y.id with | none => insV o y | some x => if x.del = 0 then o.map (fun z => if z.id = y.id then erased z y.del else z) else o
theorem era0 (x : Vn) (h : x.del = 0) : erased x 0 = x := by cases x; simp [erased] at *; exact h.symm
theorem fold_m : ∀ (l o : List Vn), Srt o → Srt l → Srt (l.foldl stMg o) ∧ (∀ i, lk (l.foldl stMg o) i = match lk o i, lk l i with | none, y => y | some x, none => some x | some x, some y => some (if x.del = 0 then erased x y.del else x)) ∧ (l.foldl stMg o).length ≤ o.length + l.length
  | [], o, h, _ => ⟨h, fun i => by rw [lk_nil]; show lk o i = _; cases lk o i <;> rfl, by simp⟩
  | y :: l, o, h, hl => by
    have hl' := List.pairwise_cons.1 hl
    rw [List.foldl_cons]
    have hs : Srt (stMg o y) ∧ (∀ i, lk (stMg o y) i = if y.id = i then some (match lk o i with | none => y | some x => if x.del = 0 then erased x y.del else x) else lk o i) ∧ (stMg o y).length ≤ o.length + 1 := by
      unfold stMg
      cases e : lk o y.id with
      | none =>
        have e' : hasV o y.id = false := by rw [has_lk, e]; rfl
        refine ⟨h.ins e', fun i => ?_, by rw [ins_len]; omega⟩
        show lk (insV o y) i = _
        rw [lk_ins e']
        by_cases ei : y.id = i
        · subst ei; rw [if_pos rfl, if_pos rfl, e]
        · rw [if_neg ei, if_neg ei]
      | some x =>
        dsimp only
        by_cases hd : x.del = 0
        · rw [if_pos hd]
          have hg : ∀ z : Vn, (if z.id = y.id then erased z y.del else z).id = z.id := fun z => by split <;> rfl
          refine ⟨srt_map h _ hg, fun i => ?_, by rw [List.length_map]; omega⟩
          rw [lk_map _ hg]
          by_cases ei : y.id = i
          · subst ei
            rw [if_pos rfl, e]
            show some (if x.id = y.id then erased x y.del else x) = some (if x.del = 0 then erased x y.del else x)
            rw [if_pos (lk_id e), if_pos hd]
          · rw [if_neg ei]
            cases e2 : lk o i with
            | none => rfl
            | some z =>
              show some (if z.id = y.id then erased z y.del else z) = some z
              rw [if_neg (fun e3 => ei (e3.symm.trans (lk_id e2)))]
        · rw [if_neg hd]
          refine ⟨h, fun i => ?_, by omega⟩
          by_cases ei : y.id = i
          · subst ei
            rw [if_pos rfl, e]
            simp [hd]
          · rw [if_neg ei]
    obtain ⟨h1, h2, h3⟩ := fold_m l (stMg o y) hs.1 hl'.2
    refine ⟨h1, fun i => ?_, by simp only [List.length_cons]; omega⟩
    rw [h2 i, hs.2.1 i, lk_cons]
    by_cases ei : y.id = i
    · subst ei
      have h4 : lk l y.id = none := lk_none.2 fun z hz e2 => by have := hl'.1 z hz; rw [e2, ltI_irrefl] at this; cases this
      rw [if_pos rfl, if_pos rfl, h4]
      cases lk o y.id <;> rfl
    · rw [if_neg ei, if_neg ei]
theorem mrg_ref (h m : List Vn) : (onceV m).foldl stMg (onceV h) = mrgV h m := by
  obtain ⟨h1, h2, _⟩ := fold_m (onceV m) (onceV h) (once_srt h) (once_srt m)
  refine srt_eq h1 (mrg_srt h m) fun i => ?_
  rw [h2 i, once_lk, once_lk, mrg_lk]
  cases e1 : lk h i with
  | none =>
    cases e2 : lk m i with
    | none => rfl
    | some y =>
      simp only [Option.none_or, Option.map_some, mrgG, lk_id e2, delOf, e2]
      by_cases hd : y.del = 0
      · rw [if_pos hd, hd, era0 y hd]
      · rw [if_neg hd]
  | some x =>
    cases e2 : lk m i with
    | none =>
      simp only [Option.some_or, Option.map_some, mrgG, lk_id e1, delOf, e2]
      by_cases hd : x.del = 0
      · rw [if_pos hd, era0 x hd]
      · rw [if_neg hd]
    | some y => simp only [Option.some_or, Option.map_some, mrgG, lk_id e1, delOf, e2]
theorem mrg_lkM (h m : List Vn) (i : Int × Int) : lk (mrgV h m) i = match lk h i, lk m i with | none, y => y | some x, none => some x | some x, some y => some (if x.del = 0 then erased x y.del else x) := by
  rw [← mrg_ref]
  obtain ⟨_, h2, _⟩ := fold_m (onceV m) (onceV h) (once_srt h) (once_srt m)
  rw [h2 i, once_lk, once_lk]
end Go.Hay
end

section
namespace Go.Hay
set_option linter.unusedVariables false

/-- Places turned among themselves, from a on and ahead of b. -/
def PermIn (a b : Nat) (s : Nat → Nat) : Prop := (∀ k, a ≤ k → k < b → a ≤ s k ∧ s k < b) ∧ (∀ k, ¬ (a ≤ k ∧ k < b) → s k = k) ∧ ∀ i j, s i = s j → i = j
theorem PermIn.id (a b : Nat) : PermIn a b (fun k => k) := ⟨fun k h1 h2 => ⟨h1, h2⟩, fun _ _ => rfl, fun _ _ h => h⟩
theorem PermIn.comp {a b : Nat} {s t : Nat → Nat} (hs : PermIn a b s) (ht : PermIn a b t) : PermIn a b (fun k => s (t k)) :=
  ⟨fun k h1 h2 => hs.1 _ (ht.1 k h1 h2).1 (ht.1 k h1 h2).2, fun k h => by show s (t k) = k; rw [ht.2.1 k h, hs.2.1 k h], fun i j h => ht.2.2 _ _ (hs.2.2 _ _ h)⟩
theorem PermIn.mono {a b c d : Nat} {s : Nat → Nat} (hs : PermIn a b s) (h1 : c ≤ a) (h2 : b ≤ d) : PermIn c d s :=
  ⟨fun k h3 h4 => by
    by_cases h : a ≤ k ∧ k < b
    · have := hs.1 k h.1 h.2
      omega
    · rw [hs.2.1 k h]; omega, fun k h => hs.2.1 k (by omega), hs.2.2⟩
/-- Two places exchanged. -/
def swp (i j : Nat) : Nat → Nat := fun k => if k = i then j else if k = j then i else k
theorem swp_perm {a b i j : Nat} (h1 : a ≤ i) (h2 : i < b) (h3 : a ≤ j) (h4 : j < b) : PermIn a b (swp i j) := by
  refine ⟨fun k _ _ => ?_, fun k h => ?_, fun x y h => ?_⟩
  · unfold swp; split <;> (try split) <;> omega
  · unfold swp; split <;> (try split) <;> omega
  · unfold swp at h; split at h <;> (try split at h) <;> (try split at h) <;> (try split at h) <;> omega
/-- So many places exchanged with as many others. -/
def swR (a b n : Nat) : Nat → Nat := fun k => if a ≤ k ∧ k < a + n then k - a + b else if b ≤ k ∧ k < b + n then k - b + a else k
theorem swR_zero (a b : Nat) : swR a b 0 = fun k => k := by
  funext k
  unfold swR
  split <;> (try split) <;> omega
theorem swR_succ (a b i : Nat) (h : a + (i + 1) ≤ b) : swR a b (i + 1) = fun k => swR a b i (swp (a + i) (b + i) k) := by
  funext k
  unfold swR swp
  repeat' split
  all_goals omega
theorem swR_perm {lo hi a b n : Nat} (h1 : lo ≤ a) (h2 : a + n ≤ b) (h3 : b + n ≤ hi) : PermIn lo hi (swR a b n) := by
  refine ⟨fun k _ _ => ?_, fun k h => ?_, fun x y h => ?_⟩
  · unfold swR; repeat' split
    all_goals omega
  · unfold swR; repeat' split
    all_goals omega
  · unfold swR at h
    repeat' split at h
    all_goals omega
/-- Two neighbouring rows of places exchanged. -/
def rot (a m b : Nat) : Nat → Nat := fun k => if a ≤ k ∧ k < b then (if k < a + (b - m) then k + (m - a) else k - (b - m)) else k
theorem rot_perm {lo hi a m b : Nat} (h1 : lo ≤ a) (h2 : a ≤ m) (h3 : m ≤ b) (h4 : b ≤ hi) : PermIn lo hi (rot a m b) := by
  refine ⟨fun k _ _ => ?_, fun k h => ?_, fun x y h => ?_⟩
  · unfold rot; repeat' split
    all_goals omega
  · unfold rot; repeat' split
    all_goals omega
  · unfold rot at h
    repeat' split at h
    all_goals omega
theorem rot_left (m b : Nat) : rot m m b = fun k => k := by
  funext k
  unfold rot
  repeat' split
  all_goals omega
theorem rot_right (a m : Nat) (h : a ≤ m) : rot a m m = fun k => k := by
  funext k
  unfold rot
  repeat' split
  all_goals omega
theorem rot_step1 (m i j : Nat) (hi : i ≤ m) (h : j < i) : rot (m - i) m (m + j) = fun k => swR (m - i) m j (rot (m - (i - j)) m (m + j) k) := by
  funext k
  unfold rot swR
  repeat' split
  all_goals omega
theorem rot_step2 (m i j : Nat) (hi : i ≤ m) (h : i < j) : rot (m - i) m (m + j) = fun k => swR (m - i) (m + j - i) i (rot (m - i) m (m + (j - i)) k) := by
  funext k
  unfold rot swR
  repeat' split
  all_goals omega
theorem rot_end (m i : Nat) (hi : i ≤ m) : rot (m - i) m (m + i) = swR (m - i) m i := by
  funext k
  unfold rot swR
  repeat' split
  all_goals omega
theorem rot_pull (j i : Nat) (h : j < i) : rot j i (i + 1) = fun k => rot (j + 1) i (i + 1) (swp (j + 1) j k) := by
  funext k
  unfold rot swp
  repeat' split
  all_goals omega
theorem rot_push (a k i : Nat) (h1 : a ≤ k) (h2 : k + 1 < i) : rot a (a + 1) (k + 2) = fun x => rot a (a + 1) (k + 1) (swp k (k + 1) x) := by
  funext x
  unfold rot swp
  repeat' split
  all_goals omega

/-- Which of two things comes first: by the order, then by place. -/
def bef (lt : Nat → Nat → Prop) (x y : Nat) : Prop := lt x y ∨ (¬ lt y x ∧ x < y)
structure Swo (lt : Nat → Nat → Prop) : Prop where
  asym : ∀ x y, lt x y → ¬ lt y x
  ntr : ∀ x y z, ¬ lt x y → ¬ lt y z → ¬ lt x z
theorem bef_trans {lt : Nat → Nat → Prop} (h : Swo lt) {x y z : Nat} (h1 : bef lt x y) (h2 : bef lt y z) : bef lt x z := by
  have nyx : ¬ lt y x := by rcases h1 with h1 | h1; exact h.asym _ _ h1; exact h1.1
  have nzy : ¬ lt z y := by rcases h2 with h2 | h2; exact h.asym _ _ h2; exact h2.1
  have nzx : ¬ lt z x := h.ntr _ _ _ nzy nyx
  by_cases hxz : lt x z
  · exact .inl hxz
  · right
    refine ⟨nzx, ?_⟩
    rcases h1 with h1 | h1
    · exact absurd h1 (h.ntr _ _ _ hxz nzy)
    · rcases h2 with h2 | h2
      · exact absurd h2 (h.ntr _ _ _ nyx hxz)
      · omega
theorem bef_asym {lt : Nat → Nat → Prop} (h : Swo lt) {x y : Nat} (h1 : bef lt x y) (h2 : bef lt y x) : False := by
  rcases h1 with h1 | h1
  · rcases h2 with h2 | h2
    · exact h.asym _ _ h1 h2
    · exact h2.1 h1
  · rcases h2 with h2 | h2
    · exact h1.1 h2
    · omega
/-- In order, from a on and ahead of b. -/
def Stb (lt : Nat → Nat → Prop) (p : Nat → Nat) (a b : Nat) : Prop := ∀ i j, a ≤ i → i < j → j < b → bef lt (p i) (p j)
/-- What stands in the first part came from further ahead. -/
def Low (p : Nat → Nat) (a m b : Nat) : Prop := ∀ i j, a ≤ i → i < m → m ≤ j → j < b → p i < p j
theorem Stb.one (lt : Nat → Nat → Prop) (p : Nat → Nat) (a b : Nat) (h : b ≤ a + 1) : Stb lt p a b := fun i j h1 h2 h3 => by omega
theorem Stb.sub {lt : Nat → Nat → Prop} {p : Nat → Nat} {a b c d : Nat} (h : Stb lt p a b) (h1 : a ≤ c) (h2 : d ≤ b) : Stb lt p c d := fun i j h3 h4 h5 => h i j (by omega) h4 (by omega)
theorem Stb.to {lt : Nat → Nat → Prop} (hl : Swo lt) {p : Nat → Nat} {a b i j k : Nat} (h : Stb lt p a b) (h1 : a ≤ i) (h2 : i ≤ j) (h3 : j < b) (hb : bef lt (p j) k) : bef lt (p i) k := by
  rcases Nat.lt_or_ge i j with h4 | h4
  · exact bef_trans hl (h i j h1 h4 h3) hb
  · obtain rfl : i = j := by omega
    exact hb
theorem Stb.from {lt : Nat → Nat → Prop} (hl : Swo lt) {p : Nat → Nat} {a b i j k : Nat} (h : Stb lt p a b) (h1 : a ≤ i) (h2 : i ≤ j) (h3 : j < b) (hb : bef lt k (p i)) : bef lt k (p j) := by
  rcases Nat.lt_or_ge i j with h4 | h4
  · exact bef_trans hl hb (h i j h1 h4 h3)
  · obtain rfl : i = j := by omega
    exact hb
/-- The parts behind the turn: where all of the one part come ahead of all of the other, both in order. -/
theorem rot_first (s m e k : Nat) (h1 : s ≤ k) (h2 : k < s + (e - m)) (h3 : s ≤ m) (h4 : m ≤ e) : rot s m e k = k + (m - s) := by unfold rot; rw [if_pos (by omega), if_pos h2]
theorem rot_second (s m e k : Nat) (h1 : s + (e - m) ≤ k) (h2 : k < e) (h3 : s ≤ m) (h4 : m ≤ e) : rot s m e k = k - (e - m) := by unfold rot; rw [if_pos (by omega), if_neg (by omega)]
theorem rot_out (s m e k : Nat) (h : k < s ∨ e ≤ k) : rot s m e k = k := by unfold rot; rw [if_neg (by omega)]
/-- One merge's turn: the two halves stand apart, each made of two rows in order. -/
theorem sym_parts {lt : Nat → Nat → Prop} (hl : Swo lt) {p : Nat → Nat} {a s m e b mid : Nat} (h1 : a ≤ s) (h2 : s ≤ m) (h3 : m ≤ e) (h4 : e ≤ b) (hmid : mid = s + (e - m)) (hA : Stb lt p a m) (hB : Stb lt p m b) (hLo : Low p a m b)
    (F1 : s < m → m < e → lt (p (e - 1)) (p s)) (F2 : a < s → e < b → ¬ lt (p e) (p (s - 1))) :
    (Stb lt (fun k => p (rot s m e k)) a s ∧ Stb lt (fun k => p (rot s m e k)) s mid ∧ Low (fun k => p (rot s m e k)) a s mid) ∧ (Stb lt (fun k => p (rot s m e k)) mid e ∧ Stb lt (fun k => p (rot s m e k)) e b ∧ Low (fun k => p (rot s m e k)) mid e b) ∧ ∀ x y, a ≤ x → x < mid → mid ≤ y → y < b → bef lt (p (rot s m e x)) (p (rot s m e y)) := by
  subst hmid
  refine ⟨⟨fun i j g1 g2 g3 => ?_, fun i j g1 g2 g3 => ?_, fun i j g1 g2 g3 g4 => ?_⟩, ⟨fun i j g1 g2 g3 => ?_, fun i j g1 g2 g3 => ?_, fun i j g1 g2 g3 g4 => ?_⟩, fun x y g1 g2 g3 g4 => ?_⟩
  · show bef lt (p (rot s m e i)) (p (rot s m e j))
    rw [rot_out s m e i (by omega), rot_out s m e j (by omega)]
    exact hA i j g1 g2 (by omega)
  · show bef lt (p (rot s m e i)) (p (rot s m e j))
    rw [rot_first s m e i (by omega) (by omega) h2 h3, rot_first s m e j (by omega) (by omega) h2 h3]
    exact hB _ _ (by omega) (by omega) (by omega)
  · show p (rot s m e i) < p (rot s m e j)
    rw [rot_out s m e i (by omega), rot_first s m e j (by omega) (by omega) h2 h3]
    exact hLo _ _ (by omega) (by omega) (by omega) (by omega)
  · show bef lt (p (rot s m e i)) (p (rot s m e j))
    rw [rot_second s m e i (by omega) (by omega) h2 h3, rot_second s m e j (by omega) (by omega) h2 h3]
    exact hA _ _ (by omega) (by omega) (by omega)
  · show bef lt (p (rot s m e i)) (p (rot s m e j))
    rw [rot_out s m e i (by omega), rot_out s m e j (by omega)]
    exact hB i j (by omega) g2 g3
  · show p (rot s m e i) < p (rot s m e j)
    rw [rot_second s m e i (by omega) (by omega) h2 h3, rot_out s m e j (by omega)]
    exact hLo _ _ (by omega) (by omega) (by omega) (by omega)
  · by_cases c1 : x < s
    · rw [rot_out s m e x (by omega)]
      by_cases c2 : y < e
      · rw [rot_second s m e y (by omega) (by omega) h2 h3]
        exact hA _ _ (by omega) (by omega) (by omega)
      · rw [rot_out s m e y (by omega)]
        have f2 := F2 (by omega) (by omega)
        have hb : bef lt (p (s - 1)) (p e) := .inr ⟨f2, hLo _ _ (by omega) (by omega) (by omega) (by omega)⟩
        exact hB.from hl (i := e) (by omega) (by omega) (by omega) (hA.to hl (j := s - 1) g1 (by omega) (by omega) hb)
    · rw [rot_first s m e x (by omega) (by omega) h2 h3]
      by_cases c2 : y < e
      · rw [rot_second s m e y (by omega) (by omega) h2 h3]
        have f1 := F1 (by omega) (by omega)
        exact hA.from hl (i := s) (by omega) (by omega) (by omega) (hB.to hl (j := e - 1) (by omega) (by omega) (by omega) (.inl f1))
      · rw [rot_out s m e y (by omega)]
        exact hB _ _ (by omega) (by omega) (by omega)
/-- Two halves, each put in order. -/
theorem Stb.join {lt : Nat → Nat → Prop} {p s t : Nat → Nat} {a m b : Nat} (hs : PermIn a m s) (ht : PermIn m b t) (h1 : Stb lt (fun k => p (s k)) a m) (h2 : Stb lt (fun k => p (t k)) m b) (hx : ∀ x y, a ≤ x → x < m → m ≤ y → y < b → bef lt (p x) (p y)) : Stb lt (fun k => p (s (t k))) a b := fun i j g1 g2 g3 => by
  show bef lt (p (s (t i))) (p (s (t j)))
  by_cases c1 : j < m
  · rw [ht.2.1 i (by omega), ht.2.1 j (by omega)]
    exact h1 i j g1 g2 c1
  · have hj := ht.1 j (by omega) g3
    rw [hs.2.1 (t j) (by omega)]
    by_cases c2 : i < m
    · rw [ht.2.1 i (by omega)]
      have hi := hs.1 i g1 c2
      exact hx _ _ hi.1 hi.2 hj.1 hj.2
    · have hi := ht.1 i (by omega) (by omega)
      rw [hs.2.1 (t i) (by omega)]
      exact h2 i j (by omega) g2 g3
/-- One laid into a row that stands behind it. -/
theorem ins_right {lt : Nat → Nat → Prop} (hl : Swo lt) {p : Nat → Nat} {a b i : Nat} (h1 : a + 1 ≤ i) (h2 : i ≤ b) (hB : Stb lt p (a + 1) b) (hLo : Low p a (a + 1) b) (F1 : i = a + 1 ∨ lt (p (i - 1)) (p a)) (F2 : i = b ∨ ¬ lt (p i) (p a)) : Stb lt (fun k => p (rot a (a + 1) i k)) a b := by
  obtain ⟨⟨_, q2, _⟩, ⟨q4, q5, _⟩, q7⟩ := sym_parts hl (p := p) (a := a) (s := a) (m := a + 1) (e := i) (b := b) (mid := a + (i - (a + 1))) (Nat.le_refl _) (by omega) h1 h2 rfl (Stb.one _ _ _ _ (by omega)) hB hLo (fun _ h => by rcases F1 with h' | h'; omega; exact h') (fun h => by omega)
  intro x y g1 g2 g3
  show bef lt (p (rot a (a + 1) i x)) (p (rot a (a + 1) i y))
  by_cases c1 : y < a + (i - (a + 1))
  · exact q2 x y g1 g2 c1
  · by_cases c2 : x < a + (i - (a + 1))
    · exact q7 x y g1 c2 (by omega) g3
    · by_cases c3 : y < i
      · omega
      · by_cases c4 : x < i
        · rw [rot_second a (a + 1) i x (by omega) (by omega) (by omega) h1, rot_out a (a + 1) i y (by omega)]
          have e : x - (i - (a + 1)) = a := by omega
          rw [e]
          have f2 : ¬ lt (p i) (p a) := by rcases F2 with h | h; omega; exact h
          exact hB.from hl (i := i) h1 (by omega) g3 (.inr ⟨f2, hLo _ _ (by omega) (by omega) (by omega) (by omega)⟩)
        · exact q5 x y (by omega) g2 g3
/-- One laid into a row that stands ahead of it. -/
theorem ins_left {lt : Nat → Nat → Prop} (hl : Swo lt) {p : Nat → Nat} {a m i : Nat} (h1 : a ≤ i) (h2 : i ≤ m) (hA : Stb lt p a m) (hLo : Low p a m (m + 1)) (F1 : i = m ∨ lt (p m) (p i)) (F2 : i = a ∨ ¬ lt (p m) (p (i - 1))) : Stb lt (fun k => p (rot i m (m + 1) k)) a (m + 1) := by
  intro x y g1 g2 g3
  show bef lt (p (rot i m (m + 1) x)) (p (rot i m (m + 1) y))
  by_cases c1 : x < i
  · rw [rot_out i m (m + 1) x (by omega)]
    have f2 : i = a ∨ bef lt (p (i - 1)) (p m) := by
      rcases F2 with h | h
      · exact .inl h
      · by_cases hia : i = a
        · exact .inl hia
        · exact .inr (.inr ⟨h, hLo _ _ (by omega) (by omega) (by omega) (by omega)⟩)
    by_cases c2 : y < i
    · rw [rot_out i m (m + 1) y (by omega)]
      exact hA x y g1 g2 (by omega)
    · by_cases c3 : y = i
      · subst c3
        rw [rot_first y m (m + 1) y (by omega) (by omega) h2 (by omega), show y + (m - y) = m by omega]
        rcases f2 with h | h
        · omega
        · exact hA.to hl (j := y - 1) g1 (by omega) (by omega) h
      · rw [rot_second i m (m + 1) y (by omega) (by omega) h2 (by omega)]
        exact hA _ _ g1 (by omega) (by omega)
  · by_cases c3 : x = i
    · subst c3
      rw [rot_first x m (m + 1) x (by omega) (by omega) h2 (by omega), show x + (m - x) = m by omega, rot_second x m (m + 1) y (by omega) (by omega) h2 (by omega)]
      have f1 : lt (p m) (p x) := by rcases F1 with h | h; omega; exact h
      exact hA.from hl (i := x) h1 (by omega) (by omega) (.inl f1)
    · rw [rot_second i m (m + 1) x (by omega) (by omega) h2 (by omega), rot_second i m (m + 1) y (by omega) (by omega) h2 (by omega)]
      exact hA _ _ (by omega) (by omega) (by omega)
end Go.Hay
end

section
namespace Go.Hay
open Go.RowKit
set_option linter.unusedVariables false
set_option linter.unusedSimpArgs false

def ci (x y : Int) : Int := if x < y then -1 else if y < x then 1 else 0
def nmI (i j : Int × Int) : Int := if ci i.1 j.1 = 0 then ci i.2 j.2 else ci i.1 j.1
theorem nmI_zero (i j : Int × Int) : nmI i j = 0 ↔ i = j := by
  obtain ⟨a, b⟩ := i; obtain ⟨c, d⟩ := j
  unfold nmI ci
  simp only [Prod.mk.injEq]
  repeat' split
  all_goals (constructor <;> intro h <;> omega)
theorem nmI_lt (i j : Int × Int) : nmI i j < 0 ↔ ltI i j = true := by
  obtain ⟨a, b⟩ := i; obtain ⟨c, d⟩ := j
  unfold nmI ci ltI
  simp only
  by_cases h1 : a = c
  · subst h1
    by_cases h2 : b < d
    · simp [h2]
    · by_cases h3 : d < b <;> simp [h2, h3]
  · by_cases h2 : a < c
    · simp [h1, h2]
    · have h3 : c < a := by omega
      simp [h1, h2, h3]
theorem perm_of_subR : ∀ (l m : List Nat), l.Nodup → (∀ x ∈ l, x ∈ m) → m.length ≤ l.length → l.Perm m
  | [], m, _, _, h => by
    have : m = [] := List.length_eq_zero_iff.1 (Nat.le_zero.1 h)
    rw [this]
  | a :: l, m, hn, hs, h => by
    have ha : a ∈ m := hs a (List.mem_cons_self ..)
    have hn' := List.nodup_cons.1 hn
    have h1 : l.Perm (m.erase a) := perm_of_subR l (m.erase a) hn'.2 (fun x hx => by
      have hne : x ≠ a := fun e => hn'.1 (e ▸ hx)
      exact (List.mem_erase_of_ne hne).2 (hs x (List.mem_cons_of_mem _ hx))) (by
      rw [List.length_erase_of_mem ha]; simp only [List.length_cons] at h; omega)
    exact (h1.cons a).trans (List.perm_cons_erase ha).symm
theorem PermIn.onto {n : Nat} {s : Nat → Nat} (hp : PermIn 0 n s) {m : Nat} (hm : m < n) : ∃ k, k < n ∧ s k = m := by
  have hnd : ((List.range n).map s).Nodup := by
    unfold List.Nodup
    rw [List.pairwise_map]
    exact List.Pairwise.imp (fun {a b} hab e => hab (hp.2.2 _ _ e)) List.nodup_range
  have h2 : ((List.range n).map s).Perm (List.range n) := by
    refine perm_of_subR _ _ hnd ?_ (by simp)
    intro y hy
    obtain ⟨k, hk, rfl⟩ := List.mem_map.1 hy
    exact List.mem_range.2 (hp.1 k (Nat.zero_le _) (List.mem_range.1 hk)).2
  obtain ⟨k, hk, e⟩ := List.mem_map.1 (h2.mem_iff.2 (List.mem_range.2 hm))
  exact ⟨k, List.mem_range.1 hk, e⟩
/-- Versions as they stand, told by where each came from. -/
def arrN (l : List Vn) (s : Nat → Nat) : List Vn := (List.range l.length).map fun k => l.getD (s k) default
theorem arrN_len (l : List Vn) (s : Nat → Nat) : (arrN l s).length = l.length := by simp [arrN]
theorem arrN_at (l : List Vn) (s : Nat → Nat) {k : Nat} (h : k < l.length) : (arrN l s)[k]? = some (l.getD (s k) default) := by simp [arrN, h]
theorem arrN_id (l : List Vn) : arrN l (fun k => k) = l := by
  apply List.ext_getElem?
  intro k
  by_cases h : k < l.length
  · rw [arrN_at l _ h]; simp [h]
  · rw [List.getElem?_eq_none (by rw [arrN_len]; omega), List.getElem?_eq_none (by omega)]
def ltN (l : List Vn) (x y : Nat) : Prop := nmI (l.getD x default).id (l.getD y default).id < 0
theorem ltN_swo (l : List Vn) : Swo (ltN l) := by
  constructor
  · intro x y h h2
    unfold ltN at h h2
    rw [nmI_lt] at h h2
    rw [ltI_asymm h] at h2
    cases h2
  · intro x y z h1 h2 h3
    unfold ltN at h1 h2 h3
    rw [nmI_lt] at h1 h2 h3
    by_cases e2 : ltI (l.getD y default).id (l.getD x default).id = true
    · exact h2 (ltI_trans e2 h3)
    · have e := ltI_eq (a := (l.getD y default).id) (b := (l.getD x default).id) (by simpa using e2) (by simpa using h1)
      rw [e] at h2; exact h2 h3
/-- The first of a name, at its place. -/
theorem lk_first {l : List Vn} {i : Int × Int} {m : Nat} {x : Vn} (hx : l[m]? = some x) (hi : x.id = i) (hn : ∀ k, k < m → (l.getD k default).id ≠ i) : lk l i = some x := by
  induction l generalizing m with
  | nil => simp at hx
  | cons y l ih =>
    rw [lk_cons]
    cases m with
    | zero => cases hx; rw [if_pos hi]
    | succ m =>
      have h0 := hn 0 (by omega)
      rw [if_neg (by simpa using h0)]
      exact ih (by simpa using hx) (fun k hk => by have := hn (k + 1) (by omega); simpa using this)
theorem lk_place {l : List Vn} {i : Int × Int} {x : Vn} (h : lk l i = some x) : ∃ m, l[m]? = some x ∧ ∀ k, k < m → (l.getD k default).id ≠ i := by
  induction l with
  | nil => cases h
  | cons y l ih =>
    rw [lk_cons] at h
    by_cases e : y.id = i
    · rw [if_pos e] at h; cases h
      exact ⟨0, rfl, fun k hk => by omega⟩
    · rw [if_neg e] at h
      obtain ⟨m, h1, h2⟩ := ih h
      refine ⟨m + 1, by simpa using h1, fun k hk => ?_⟩
      cases k with
      | zero => simpa using e
      | succ k => have := h2 k (by omega); simpa using this
theorem sorted_lk {l : List Vn} {s : Nat → Nat} (hp : PermIn 0 l.length s) (hs : Stb (ltN l) s 0 l.length) (i : Int × Int) : lk (arrN l s) i = lk l i := by
  cases h : lk l i with
  | none =>
    have h0 := lk_none.1 h
    refine lk_none.2 fun x hx => ?_
    obtain ⟨k, hk, rfl⟩ := List.mem_map.1 hx
    have hb := (hp.1 k (Nat.zero_le _) (List.mem_range.1 hk)).2
    exact h0 _ (by simp [hb])
  | some x =>
    obtain ⟨m, h1, h2⟩ := lk_place h
    have hm := (List.getElem?_eq_some_iff.1 h1).1
    obtain ⟨k, hk, e⟩ := hp.onto hm
    have hx : l.getD (s k) default = x := by rw [e, List.getD_eq_getElem?_getD, h1]; rfl
    refine lk_first (m := k) (by rw [arrN_at l s hk, hx]) (lk_id h) fun k' hk' e' => ?_
    have e2 : (arrN l s).getD k' default = l.getD (s k') default := by rw [List.getD_eq_getElem?_getD, arrN_at l s (by omega)]; rfl
    rw [e2] at e'
    rcases hs k' k (Nat.zero_le _) hk' hk with h3 | ⟨_, h3⟩
    · unfold ltN at h3
      rw [e', hx, lk_id h, nmI_lt, ltI_irrefl] at h3
      cases h3
    · rw [e] at h3
      exact h2 _ h3 e'
/-- The first j versions, of each name that is told again and again the first. -/
def cptTo (l : List Vn) : Nat → List Vn
  | 0 => []
  | j + 1 => if j ≠ 0 ∧ (l.getD j default).id = (l.getD (j - 1) default).id then cptTo l j else cptTo l j ++ [l.getD j default]
def cpt (l : List Vn) : List Vn := cptTo l l.length
theorem cptTo_same (l : List Vn) (j : Nat) (h0 : j ≠ 0) (h : (l.getD j default).id = (l.getD (j - 1) default).id) : cptTo l (j + 1) = cptTo l j := by rw [cptTo, if_pos ⟨h0, h⟩]
theorem cptTo_new (l : List Vn) (j : Nat) (h : j = 0 ∨ (l.getD j default).id ≠ (l.getD (j - 1) default).id) : cptTo l (j + 1) = cptTo l j ++ [l.getD j default] := by
  rw [cptTo, if_neg]
  rintro ⟨h1, h2⟩
  rcases h with h | h
  · exact h1 h
  · exact h h2
theorem cptTo_le (l : List Vn) : ∀ j, (cptTo l j).length ≤ j
  | 0 => by simp [cptTo]
  | j + 1 => by
    have := cptTo_le l j
    rw [cptTo]
    split
    · omega
    · simp; omega
theorem cptTo_mem (l : List Vn) : ∀ j, ∀ x ∈ cptTo l j, ∃ k, k < j ∧ x = l.getD k default
  | 0 => fun x hx => by simp [cptTo] at hx
  | j + 1 => fun x hx => by
    have ih := cptTo_mem l j
    rw [cptTo] at hx
    split at hx
    · obtain ⟨k, h1, h2⟩ := ih x hx; exact ⟨k, by omega, h2⟩
    · rcases List.mem_append.1 hx with hx | hx
      · obtain ⟨k, h1, h2⟩ := ih x hx; exact ⟨k, by omega, h2⟩
      · exact ⟨j, by omega, by simpa using hx⟩
theorem take_getD (l : List Vn) (j : Nat) (h : j < l.length) : l.take j ++ [l.getD j default] = l.take (j + 1) := by
  rw [List.take_add_one]; simp [h]
theorem cptTo_lk (l : List Vn) (i : Int × Int) : ∀ j, j ≤ l.length → lk (cptTo l j) i = lk (l.take j) i
  | 0, _ => by simp [cptTo]
  | j + 1, h => by
    have ih := cptTo_lk l i j (by omega)
    rw [← take_getD l j (by omega), lk_append, ← ih]
    by_cases c : j ≠ 0 ∧ (l.getD j default).id = (l.getD (j - 1) default).id
    · rw [cptTo_same l j c.1 c.2, lk_cons, lk_nil]
      by_cases e : (l.getD j default).id = i
      · rw [if_pos e]
        have h1 : hasV (l.take j) i = true := List.any_eq_true.2 ⟨l.getD (j - 1) default, by
          rw [List.mem_take_iff_getElem]
          refine ⟨j - 1, by omega, ?_⟩
          simp [show j - 1 < l.length by omega], by have := c.2.symm.trans e; simpa using this⟩
        rw [has_lk, ← ih] at h1
        obtain ⟨y, hy⟩ := Option.isSome_iff_exists.1 h1
        rw [hy]; rfl
      · rw [if_neg e]; simp
    · have : j = 0 ∨ (l.getD j default).id ≠ (l.getD (j - 1) default).id := by
        by_cases h0 : j = 0
        · exact .inl h0
        · exact .inr fun e => c ⟨h0, e⟩
      rw [cptTo_new l j this, lk_append]
theorem cptTo_srt (l : List Vn) (hl : ∀ a b, a < b → b < l.length → ltI (l.getD a default).id (l.getD b default).id = true ∨ (l.getD a default).id = (l.getD b default).id) : ∀ j, j ≤ l.length → Srt (cptTo l j)
  | 0, _ => by simp [cptTo, Srt]
  | j + 1, h => by
    have ih := cptTo_srt l hl j (by omega)
    by_cases c : j ≠ 0 ∧ (l.getD j default).id = (l.getD (j - 1) default).id
    · rw [cptTo_same l j c.1 c.2]; exact ih
    · have hc : j = 0 ∨ (l.getD j default).id ≠ (l.getD (j - 1) default).id := by
        by_cases h0 : j = 0
        · exact .inl h0
        · exact .inr fun e => c ⟨h0, e⟩
      rw [cptTo_new l j hc]
      unfold Srt
      rw [List.pairwise_append]
      refine ⟨ih, by simp, fun x hx y hy => ?_⟩
      rw [List.mem_singleton.1 hy]
      obtain ⟨k, hk, rfl⟩ := cptTo_mem l j x hx
      have hj : ltI (l.getD (j - 1) default).id (l.getD j default).id = true := by
        rcases hl (j - 1) j (by omega) (by omega) with h1 | h1
        · exact h1
        · rcases hc with h2 | h2
          · omega
          · exact absurd h1.symm h2
      by_cases e : k = j - 1
      · rw [e]; exact hj
      · rcases hl k (j - 1) (by omega) (by omega) with h1 | h1
        · exact ltI_trans h1 hj
        · rw [h1]; exact hj
theorem sorted_once {l : List Vn} {s : Nat → Nat} (hp : PermIn 0 l.length s) (hs : Stb (ltN l) s 0 l.length) : cpt (arrN l s) = onceV l := by
  have hg : ∀ k, k < l.length → (arrN l s).getD k default = l.getD (s k) default := fun k hk => by rw [List.getD_eq_getElem?_getD, arrN_at l s hk]; rfl
  refine srt_eq (cptTo_srt _ (fun a b hab hb => ?_) _ (Nat.le_refl _)) (once_srt l) fun i => ?_
  · rw [arrN_len] at hb
    rw [hg a (by omega), hg b hb]
    rcases hs a b (Nat.zero_le _) hab hb with h3 | ⟨h3, _⟩
    · unfold ltN at h3; rw [nmI_lt] at h3; exact .inl h3
    · unfold ltN at h3
      rw [nmI_lt] at h3
      by_cases e : ltI (l.getD (s a) default).id (l.getD (s b) default).id = true
      · exact .inl e
      · exact .inr (ltI_eq (by simpa using e) (by simpa using h3))
  · unfold cpt
    rw [cptTo_lk _ i _ (Nat.le_refl _), List.take_length, sorted_lk hp hs, once_lk]
end Go.Hay
end

section
namespace Go.Proofs.Ytebkkdoggagcdab
open Go.RowKit Go.Hay
set_option linter.unusedVariables false
set_option linter.unusedSimpArgs false

theorem kpAt {w w' : World} {p : Addr} {v : Value} (hk : Kp [] w w') (h : w.cell? p = some v) : w'.cell? p = some v := (hk.cell (World.block_lt_of_cell? _ _ h) (by simp)).trans h
theorem own_slice (a : Option Addr) (n c : Nat) : own (.slice a n c) = blk a := by cases a <;> rfl
/-- A variable's block of any number of cells. -/
structure Bx (w : World) (q : Nat) (cs : List Value) : Prop where
  get : ∀ i u, cs[i]? = some u → w.cell? ⟨q, i, none⟩ = some u
  free : ∀ i, w.frozen? ⟨q, i, none⟩ = false
theorem Bx.new (w : World) (cs : List Value) (t : TypeId) : Bx (w.alloc (.cells cs.toArray t)) w.heap.size cs :=
  ⟨fun i u hu => by
    have e : (w.alloc (.cells cs.toArray t)).cell? ⟨w.heap.size, i, none⟩ = _ := World.cell?_alloc_new w _ _ i
    rw [e]; simpa using hu, fun i => World.frozen?_alloc_new w _ _ i⟩
theorem Bx.lt {w : World} {q : Nat} {cs : List Value} (h : Bx w q cs) (hn : 0 < cs.length) : q < w.heap.size := World.block_lt_of_cell? _ _ (h.get 0 cs[0] (by simp [hn]))
theorem Bx.keptS {w w' : World} {S : List Nat} {q : Nat} {cs : List Value} (h : Bx w q cs) (hk : Kp S w w') (hq : q ∉ S) (hl : q < w.heap.size) : Bx w' q cs :=
  ⟨fun i u hu => (hk.cell (p := ⟨q, i, none⟩) hl hq).trans (h.get i u hu), fun i => (hk.frozen (p := ⟨q, i, none⟩) hl hq).trans (h.free i)⟩
theorem Bx.kept {w w' : World} {q : Nat} {cs : List Value} (h : Bx w q cs) (hk : Kp [] w w') (hl : q < w.heap.size) : Bx w' q cs := h.keptS hk (by simp) hl
theorem Bx.set {w : World} {q : Nat} {cs : List Value} (h : Bx w q cs) (i : Nat) (hi : i < cs.length) (v : Value) : Bx (w.setCell ⟨q, i, none⟩ v) q (cs.set i v) :=
  ⟨fun j u hu => by
    by_cases e : j = i
    · subst e
      rw [List.getElem?_set_self hi] at hu
      cases hu
      exact World.cell?_setCell_same _ _ _ (h.get j cs[j] (by simp [hi]))
    · rw [List.getElem?_set_ne (fun h => e h.symm)] at hu
      rw [World.cell?_setCell_other _ _ _ _ (by intro h; simp only [Addr.mk.injEq] at h; omega)]
      exact h.get j u hu, fun j => by rw [World.frozen?_setCell]; exact h.free j⟩
/-- Four cells stored at once. -/
theorem Bx.set4 {w : World} {q : Nat} {cs : List Value} (h : Bx w q cs) (hl : cs.length = 4) (v0 v1 v2 v3 : Value) : ∃ W, (((w.setCell ⟨q, 0, none⟩ v0).setCell ⟨q, 1, none⟩ v1).setCell ⟨q, 2, none⟩ v2).setCell ⟨q, 3, none⟩ v3 = W ∧ Bx W q [v0, v1, v2, v3] ∧ Kp [q] w W := by
  refine ⟨_, rfl, ?_, ?_⟩
  · have e : [v0, v1, v2, v3] = (((cs.set 0 v0).set 1 v1).set 2 v2).set 3 v3 := by
      match cs, hl with
      | [_, _, _, _], _ => rfl
    rw [e]
    exact (((h.set 0 (by simp [hl]) _).set 1 (by simp [hl]) _).set 2 (by simp [hl]) _).set 3 (by simp [hl]) _
  · have hk : Kp [q] w w := Kp.refl _ _
    exact (((hk.setCell (.inl (by simp)) _).setCell (.inl (by simp)) _).setCell (.inl (by simp)) _).setCell (.inl (by simp)) _
/-- What a version's row sees, and its room. -/
structure VnOk (w : World) (x : Vn) : Prop where
  see : VE.See w x.a x.row
  cap : x.row.length ≤ x.c
  nil : x.a = none → x.c = 0
  few : x.row.length * 40 ≤ 140737488355328
/-- The block that a version's row lies in. -/
def bkV (x : Vn) : List Nat := if x.row = [] then [] else blk x.a
theorem VnOk.lt {w : World} {x : Vn} (h : VnOk w x) : ∀ k ∈ bkV x, k < w.heap.size := fun k hk => by
  unfold bkV at hk
  split at hk
  · cases hk
  · rename_i hne; exact h.see.lt hne k hk
theorem VnOk.keptS {w w' : World} {x : Vn} {S : List Nat} (h : VnOk w x) (hk : Kp S w w') (hn : ∀ k ∈ bkV x, k ∉ S) : VnOk w' x :=
  ⟨h.see.kept hk (fun hne k hk' => hn k (by unfold bkV; rw [if_neg hne]; exact hk')), h.cap, h.nil, h.few⟩
theorem VnOk.kept {w w' : World} {x : Vn} (h : VnOk w x) (hk : Kp [] w w') : VnOk w' x := h.keptS hk (by simp)
theorem VnOk.era {w : World} {x : Vn} (h : VnOk w x) (e : Int) : VnOk w (erased x e) := ⟨h.see, h.cap, h.nil, h.few⟩

theorem info3 {P : Program} {t : TypeId} {z : Value} {a b : Nat} (h : (P.info? t).map (fun i => (i.zero, i.size, i.bytes)) = some (some z, a, b)) : ∃ i, P.info? t = some i ∧ i.zero = some z ∧ i.size = a ∧ i.bytes = b := by
  cases hp : P.info? t with
  | none => rw [hp] at h; cases h
  | some i =>
    rw [hp] at h
    simp at h
    exact ⟨i, rfl, h.1, h.2.1, h.2.2⟩
theorem infoV : ∃ i : TypeInfo, Try.prog.info? 50 = some i ∧ i.zero = some (.agg #[.int .i64 0, .bool false, .int .i64 0, .string ⟨#[]⟩]) ∧ i.size = 4 ∧ i.bytes = 40 := info3 (by kernel_rfl)
theorem infoN : ∃ i : TypeInfo, Try.prog.info? 29 = some i ∧ i.zero = some (.agg #[.int .u64 0, .int .u32 0, .slice none 0 0, .int .u64 0]) ∧ i.size = 4 ∧ i.bytes = 48 := info3 (by kernel_rfl)

theorem ltI_mk (a b c d : Int) : ltI (a, b) (c, d) = if a = c then decide (b < d) else decide (a < c) := rfl
/-- A slice held against nil. -/
theorem eqNilV (a : Option Addr) (n c : Nat) (w : World) : (binOp .eql 27 (.slice a n c) (.slice none 0 0)).run Try.prog w = .ok (.bool a.isNone) w := by
  simp only [binOp]
  simp [run_equal_slice_nil w 27 50 a n c Try.underlying27]
theorem eqNilN (a : Option Addr) (n c : Nat) (w : World) : (binOp .eql 22 (.slice a n c) (.slice none 0 0)).run Try.prog w = .ok (.bool a.isNone) w := by
  simp only [binOp]
  simp [run_equal_slice_nil w 22 29 a n c Try.underlying22]
/-- A row of none, in a block of its own. -/
theorem rowNone {α : Type} (E : El α) (w : World) {q : Nat} (hq : w.heap.size = q) (C : Array Value) (t : TypeId) : E.Row (w.alloc (.cells C t)) (.slice (some ⟨q, 0, none⟩) 0 0) [] := by
  subst hq
  exact .inr ⟨_, 0, 0, rfl, Nat.le_refl _, Nat.zero_le _, by simp, by intro j u hu; simp [El.cs] at hu, by intro j hj; omega⟩
/-- A copy, all new. -/
def CloneP {α : Type} (E : El α) (l : List α) (w : World) (e : Ending) (w' : World) : Prop := ∃ a c, e = .returned (.slice a l.length c) ∧ E.Row w' (.slice a l.length c) l ∧ Kp [] w w' ∧ ∀ k ∈ blk a, w.heap.size ≤ k
set_option maxHeartbeats 4000000 in
set_option maxRecDepth 100000 in
theorem cCloneV (a : Option Addr) (c : Nat) (l : List Val) (w : World) (hs : VE.See w a l) (hn : a = none → c = 0) (hb : l.length * 40 ≤ 140737488355328) :
    Calls Try.prog 17 #[.slice a l.length c] w (CloneP VE l w) := by
  cases a with
  | none =>
    have hl : l = [] := by rcases hs with h | ⟨g, o, h, _⟩; exact h; cases h
    subst hl
    rw [hn rfl]
    have e1 := eqNilV none 0 0
    go_enter Try.func17, Try.ntmps17
    go_wp2_with fail
    go_ret
    exact ⟨none, 0, rfl, .inl ⟨rfl, rfl⟩, Kp.refl _ _, by simp [blk]⟩
  | some ad =>
    have e0 := eqNilV (some ad) l.length c
    go_enter Try.func17, Try.ntmps17
    have k1 : Kp [] w (w.alloc (.cells #[] 50)) := (Kp.refl _ _).alloc _
    have hr := rowNone VE w rfl #[] 50
    have hsr := (hs.keptNew k1).src (P := Try.prog) Try.underlying27 c
    obtain ⟨i0, hi, hz0, hz1, hz2⟩ := infoV
    go_wp2_with (first | (refine wpAppG (E := VE) rfl _ _ 27 27 50 rfl i0 _ 40 Try.underlying27 hi hz0 hz1 hz2 rfl _ [] rfl hr _ l rfl hsr (by simp; omega) (by simp; omega) ?_; intro ys a' c' w' hy hrow hg hn) | fail)
    go_ret
    have e : ys = l := by rw [hy.out]; rfl
    subst e
    refine ⟨a', c', rfl, hrow, k1.trans hg (fun k hk => .inr ?_), fun k hk => ?_⟩
    · simp [own, Value.ownBlock, Act.eval] at hk; omega
    · rcases hn k hk with h1 | h1
      · simp [own, Value.ownBlock, Act.eval] at h1; omega
      · exact Nat.le_trans k1.size h1
set_option maxHeartbeats 4000000 in
set_option maxRecDepth 100000 in
theorem cCloneN (a : Option Addr) (c : Nat) (l : List Vn) (w : World) (hs : VnE.See w a l) (hn : a = none → c = 0) (hb : l.length ≤ 4000000000000) :
    Calls Try.prog 24 #[.slice a l.length c] w (CloneP VnE l w) := by
  cases a with
  | none =>
    have hl : l = [] := by rcases hs with h | ⟨g, o, h, _⟩; exact h; cases h
    subst hl
    rw [hn rfl]
    have e1 := eqNilN none 0 0
    go_enter Try.func24, Try.ntmps24
    go_wp2_with fail
    go_ret
    exact ⟨none, 0, rfl, .inl ⟨rfl, rfl⟩, Kp.refl _ _, by simp [blk]⟩
  | some ad =>
    have e0 := eqNilN (some ad) l.length c
    go_enter Try.func24, Try.ntmps24
    have k1 : Kp [] w (w.alloc (.cells #[] 29)) := (Kp.refl _ _).alloc _
    have hr := rowNone VnE w rfl #[] 29
    have hsr := (hs.keptNew k1).src (P := Try.prog) Try.underlying22 c
    obtain ⟨i0, hi, hz0, hz1, hz2⟩ := infoN
    go_wp2_with (first | (refine wpAppG (E := VnE) rfl _ _ 22 22 29 rfl i0 _ 48 Try.underlying22 hi hz0 hz1 hz2 rfl _ [] rfl hr _ l rfl hsr (by simp; omega) (by simp; omega) ?_; intro ys a' c' w' hy hrow hg hn) | fail)
    go_ret
    have e : ys = l := by rw [hy.out]; rfl
    subst e
    refine ⟨a', c', rfl, hrow, k1.trans hg (fun k hk => .inr ?_), fun k hk => ?_⟩
    · simp [own, Value.ownBlock, Act.eval] at hk; omega
    · rcases hn k hk with h1 | h1
      · simp [own, Value.ownBlock, Act.eval] at h1; omega
      · exact Nat.le_trans k1.size h1
end Go.Proofs.Ytebkkdoggagcdab
end

section
namespace Go.Proofs.Ytebkkdoggagcdab
open Go.RowKit Go.Hay
set_option linter.unusedVariables false
set_option linter.unusedSimpArgs false

/-- A version whose row is all new. -/
def CopP (x : Vn) (w : World) (e : Ending) (w' : World) : Prop :=
  ∃ a c, e = .returned (.agg #[.int .u64 x.ep, .int .u32 x.num, .slice a x.row.length c, .int .u64 x.del]) ∧ VE.Row w' (.slice a x.row.length c) x.row ∧ Kp [] w w' ∧ ∀ k ∈ blk a, w.heap.size ≤ k
theorem box45 (w : World) (v0 v1 v2 v3 u0 u1 u2 u3 : Value) (t : TypeId) : ∃ w1, (w.alloc (.cells #[v0, v1, v2, v3] t)).alloc (.cells #[u0, u1, u2, u3] t) = w1 ∧ Kp [] w w1 ∧ Bx w1 w.heap.size [v0, v1, v2, v3] ∧ Bx w1 (w.heap.size + 1) [u0, u1, u2, u3] ∧ w.heap.size + 2 ≤ w1.heap.size := by
  refine ⟨_, rfl, ((Kp.refl _ _).alloc _).alloc _, (Bx.new w [v0, v1, v2, v3] t).kept ((Kp.refl _ _).alloc _) (by simp), ?_, by simp⟩
  have := Bx.new (w.alloc (.cells #[v0, v1, v2, v3] t)) [u0, u1, u2, u3] t
  rwa [World.size_alloc] at this
/-- Rows in memory lie at p; its cell holds v. -/
structure Wos (w : World) (p : Nat) (v : Value) (l : List Vn) : Prop where
  c0 : w.cell? ⟨p, 0, none⟩ = some v
  free : ∀ j, w.frozen? ⟨p, j, none⟩ = false
  row : VnE.Row w v l
  ok : ∀ x ∈ l, VnOk w x
  apart : p ∉ own v
  off : ∀ x ∈ l, ∀ k ∈ bkV x, k ∉ p :: own v
  srt : Srt l
  few : l.length ≤ 4000000000000
section
variable {w w' : World} {p : Nat} {v : Value} {l : List Vn}
theorem Wos.lt (h : Wos w p v l) : p < w.heap.size := World.block_lt_of_cell? _ _ h.c0
theorem Wos.ltAll (h : Wos w p v l) : ∀ k ∈ p :: own v, k < w.heap.size := fun k hk => by
  rcases List.mem_cons.1 hk with rfl | hk
  · exact h.lt
  · exact h.row.lt k hk
theorem Wos.kept {S : List Nat} (h : Wos w p v l) (hk : Kp S w w') (hn : ∀ k ∈ p :: own v, k ∉ S) (hr : ∀ x ∈ l, ∀ k ∈ bkV x, k ∉ S) : Wos w' p v l :=
  ⟨(hk.cell (p := ⟨p, 0, none⟩) h.lt (hn p (by simp))).trans h.c0, fun j => (hk.frozen (p := ⟨p, j, none⟩) h.lt (hn p (by simp))).trans (h.free j), h.row.kept hk (fun k hk' => hn k (by simp [hk'])), fun x hx => (h.ok x hx).keptS hk (hr x hx), h.apart, h.off, h.srt, h.few⟩
theorem Wos.keptNew (h : Wos w p v l) (hk : Kp [] w w') : Wos w' p v l := h.kept hk (by simp) (by simp)
end
end Go.Proofs.Ytebkkdoggagcdab
end

section
namespace Go.Proofs.Ytebkkdoggagcdab
open Go.RowKit Go.Hay
set_option linter.unusedVariables false
set_option linter.unusedSimpArgs false

/-- What find's closure reads. -/
structure AtF (q1 q2 p : Nat) (a : Option Addr) (c : Nat) (l : List Vn) (e n : Int) (w : World) : Prop where
  b1 : w.cell? ⟨q1, 0, none⟩ = some (.pointer (some ⟨p, 0, none⟩))
  b2 : w.cell? ⟨q2, 0, none⟩ = some (.int .u64 e)
  b3 : w.cell? ⟨q2, 1, none⟩ = some (.int .u32 n)
  c0 : w.cell? ⟨p, 0, none⟩ = some (.slice a l.length c)
  see : VnE.See w a l
theorem AtF.kept {q1 q2 p : Nat} {a : Option Addr} {c : Nat} {l : List Vn} {e n : Int} {w w' : World} (h : AtF q1 q2 p a c l e n w) (hk : Kp [] w w') : AtF q1 q2 p a c l e n w' :=
  ⟨kpAt hk h.b1, kpAt hk h.b2, kpAt hk h.b3, kpAt hk h.c0, h.see.keptNew hk⟩
theorem idAt {w : World} {a : Option Addr} {l : List Vn} (h : VnE.See w a l) {i : Nat} {x : Vn} (hx : l[i]? = some x) : ∃ g o, a = some ⟨g, o, none⟩ ∧ w.cell? ⟨g, o + i * 4, none⟩ = some (.int .u64 x.ep) ∧ w.cell? ⟨g, o + i * 4 + 1, none⟩ = some (.int .u32 x.num) ∧ w.cell? ⟨g, o + i * 4 + 2, none⟩ = some (.slice x.a x.row.length x.c) ∧ w.cell? ⟨g, o + i * 4 + 3, none⟩ = some (.int .u64 x.del) := by
  obtain ⟨g, o, e, hc⟩ := h.at hx
  exact ⟨g, o, e, hc 0 _ rfl, hc 1 _ rfl, hc 2 _ rfl, hc 3 _ rfl⟩
theorem eqI (a b c d : Int) (w : World) : (binOp .eql 26 (.agg #[.int .u64 a, .int .u32 b]) (.agg #[.int .u64 c, .int .u32 d])).run Try.prog w = .ok (.bool (decide ((a, b) = (c, d)))) w := by
  rw [run_eql_struct, run_equalIn_agg (ht := by kernel_rfl) (hp := by kernel_rfl)]
  by_cases h1 : a = c
  · by_cases h2 : b = d
    · simp [go_sem, h1, h2]
    · simp [go_sem, h1, h2]
  · simp [go_sem, h1]
theorem neI (a b c d : Int) (w : World) : (binOp .neq 26 (.agg #[.int .u64 a, .int .u32 b]) (.agg #[.int .u64 c, .int .u32 d])).run Try.prog w = .ok (.bool (!decide ((a, b) = (c, d)))) w := by
  rw [run_neq_struct, run_equalIn_agg (ht := by kernel_rfl) (hp := by kernel_rfl)]
  by_cases h1 : a = c
  · by_cases h2 : b = d
    · simp [go_sem, h1, h2]
    · simp [go_sem, h1, h2]
  · simp [go_sem, h1]
end Go.Proofs.Ytebkkdoggagcdab
end

section
namespace Go.Hay
open Go.RowKit
set_option linter.unusedVariables false

section
variable {α : Type} {E : El α}
/-- A row written over from its element j on; it may grow into its spare places. -/
theorem El.Row.put {w : World} {g o c : Nat} {l : List α} (h : E.Row w (.slice (some ⟨g, o, none⟩) l.length c) l) (j : Nat) (hj : j ≤ l.length) (bs : List α) (hb : j + bs.length ≤ c) :
    E.Row (w.setCells g (o + j * E.n) (E.cs bs)) (.slice (some ⟨g, o, none⟩) (l.take j ++ bs ++ l.drop (j + bs.length)).length c) (l.take j ++ bs ++ l.drop (j + bs.length)) ∧ Kp [g] w (w.setCells g (o + j * E.n) (E.cs bs)) ∧
      (∀ k, k < (E.cs bs).length → (w.cell? ⟨g, o + j * E.n + k, none⟩).isSome = true) ∧ ∀ k, k < (E.cs bs).length → w.frozen? ⟨g, o + j * E.n + k, none⟩ = false := by
  rcases h with ⟨e, _⟩ | ⟨g', o', cap, e, hl, hm, hg, hc, ht⟩
  · cases e
  · simp only [Value.slice.injEq, Option.some.injEq, Addr.mk.injEq] at e
    obtain ⟨⟨rfl, rfl, _⟩, _, rfl⟩ := e
    have hmul : (j + bs.length) * E.n ≤ c * E.n := Nat.mul_le_mul_right _ hb
    rw [Nat.add_mul] at hmul
    have hsome : ∀ k, k < (E.cs bs).length → (w.cell? ⟨g, o + j * E.n + k, none⟩).isSome = true := fun k hk => by
      rw [El.cs_length] at hk; rw [Nat.add_assoc]; exact (ht _ (by omega)).1
    have hfr : ∀ k, k < (E.cs bs).length → w.frozen? ⟨g, o + j * E.n + k, none⟩ = false := fun k hk => by
      rw [El.cs_length] at hk; rw [Nat.add_assoc]; exact (ht _ (by omega)).2
    have hlen : (l.take j ++ bs ++ l.drop (j + bs.length)).length ≤ c := by simp; omega
    refine ⟨.inr ⟨g, o, c, rfl, hlen, hm, by rw [size_setCells]; exact hg, ?_, ?_⟩, (Kp.refl _ w).setCells (by simp) _ _, hsome, hfr⟩
    · intro k u hu
      rw [El.cs_append, El.cs_append, El.cs_take, El.cs_drop] at hu
      have hjl : ((E.cs l).take (j * E.n)).length = j * E.n := by
        rw [List.length_take, El.cs_length]
        have := Nat.mul_le_mul_right E.n hj
        omega
      by_cases h1 : k < j * E.n
      · rw [List.getElem?_append_left (by rw [List.length_append, hjl]; omega), List.getElem?_append_left (by omega), List.getElem?_take, if_pos h1] at hu
        rw [World.cell?_setCells_out g _ _ _ _ (fun _ _ => Or.inl (by show o + k < o + j * E.n; omega))]
        exact hc k u hu
      · by_cases h2 : k < j * E.n + (E.cs bs).length
        · rw [List.getElem?_append_left (by rw [List.length_append, hjl]; omega), List.getElem?_append_right (by omega), hjl] at hu
          have hj2 : k - j * E.n < (E.cs bs).length := by omega
          have := World.cell?_setCells_in g (E.cs bs) (o + j * E.n) w hsome (k - j * E.n) hj2
          rw [← List.getElem?_eq_getElem hj2, hu] at this
          rw [show o + j * E.n + (k - j * E.n) = o + k by omega] at this
          exact this
        · rw [List.getElem?_append_right (by rw [List.length_append, hjl]; omega), List.length_append, hjl, List.getElem?_drop] at hu
          rw [World.cell?_setCells_out g _ _ _ _ (fun _ _ => Or.inr (by show o + j * E.n + (E.cs bs).length ≤ o + k; omega))]
          refine hc k u ?_
          rw [← hu]
          congr 1
          rw [El.cs_length] at h2 ⊢
          rw [Nat.add_mul]
          omega
    · intro k hk
      refine ⟨?_, (World.frozen?_setCells g _ _ _ _).trans (ht k hk).2⟩
      by_cases hin : j * E.n ≤ k ∧ k < j * E.n + (E.cs bs).length
      · have := World.cell?_setCells_in g (E.cs bs) (o + j * E.n) w hsome (k - j * E.n) (by omega)
        rw [show o + j * E.n + (k - j * E.n) = o + k by omega] at this
        rw [this]; rfl
      · rw [World.cell?_setCells_out g _ _ _ _ (fun _ _ => by show o + k < o + j * E.n ∨ o + j * E.n + (E.cs bs).length ≤ o + k; omega)]
        exact (ht k hk).1
end
theorem El.cs_set {α : Type} (E : El α) (y : α) (j : Nat) (u : Value) (hj : j < E.n) : ∀ (l : List α) (k : Nat) (x : α), l[k]? = some x → E.c y = (E.c x).set j u → E.cs (l.set k y) = (E.cs l).set (k * E.n + j) u
  | [], _, _, h, _ => by simp at h
  | x :: l, 0, z, h, hy => by
    cases h
    rw [List.set_cons_zero, El.cs_cons, El.cs_cons, hy, Nat.zero_mul, Nat.zero_add, List.set_append_left _ _ (by rw [E.len]; exact hj)]
  | x :: l, k + 1, z, h, hy => by
    have h' : l[k]? = some z := by simpa using h
    rw [List.set_cons_succ, El.cs_cons, El.cs_cons, El.cs_set E y j u hj l k z h' hy, List.set_append_right _ _ (by rw [E.len, Nat.succ_mul]; omega)]
    congr 2
    rw [E.len, Nat.succ_mul]; omega
/-- One cell of an element, written over. -/
theorem El.Row.cell1 {α : Type} {E : El α} {w : World} {g o c : Nat} {l : List α} (h : E.Row w (.slice (some ⟨g, o, none⟩) l.length c) l) (k j : Nat) (x y : α) (hx : l[k]? = some x) (hj : j < E.n) (u : Value) (hy : E.c y = (E.c x).set j u) :
    (w.cell? ⟨g, o + k * E.n + j, none⟩).isSome = true ∧ w.frozen? ⟨g, o + k * E.n + j, none⟩ = false ∧ E.Row (w.setCell ⟨g, o + k * E.n + j, none⟩ u) (.slice (some ⟨g, o, none⟩) l.length c) (l.set k y) := by
  have hk : k < l.length := (List.getElem?_eq_some_iff.1 hx).1
  rcases h with ⟨e, _⟩ | ⟨g', o', cap, e, hl, hm, hg, hc, ht⟩
  · cases e
  · simp only [Value.slice.injEq, Option.some.injEq, Addr.mk.injEq] at e
    obtain ⟨⟨rfl, rfl, _⟩, _, rfl⟩ := e
    have hmul : (k + 1) * E.n ≤ c * E.n := Nat.mul_le_mul_right _ (by omega)
    rw [Nat.succ_mul] at hmul
    have hlt : k * E.n + j < c * E.n := by omega
    have h1 := ht _ hlt
    rw [← Nat.add_assoc] at h1
    have hmul2 : (k + 1) * E.n ≤ l.length * E.n := Nat.mul_le_mul_right _ (by omega)
    rw [Nat.succ_mul] at hmul2
    obtain ⟨u0, hu0⟩ := Option.isSome_iff_exists.1 h1.1
    refine ⟨h1.1, h1.2, .inr ⟨g, o, c, by rw [List.length_set], by rw [List.length_set]; exact hl, hm, by simpa [World.setCell] using hg, ?_, ?_⟩⟩
    · intro z v hv
      rw [El.cs_set E y j u hj l k x hx hy] at hv
      by_cases hz : z = k * E.n + j
      · subst hz
        rw [List.getElem?_set_self (by rw [El.cs_length]; omega)] at hv
        cases hv
        rw [← Nat.add_assoc]
        exact World.cell?_setCell_same _ _ _ hu0
      · rw [List.getElem?_set_ne (fun e => hz e.symm)] at hv
        rw [World.cell?_setCell_other _ _ _ _ (by intro e; simp only [Addr.mk.injEq] at e; omega)]
        exact hc z v hv
    · intro z hz
      refine ⟨?_, (World.frozen?_setCell _ _ _ _).trans (ht z hz).2⟩
      by_cases hz2 : z = k * E.n + j
      · subst hz2
        rw [← Nat.add_assoc, World.cell?_setCell_same _ _ _ hu0]; rfl
      · rw [World.cell?_setCell_other _ _ _ _ (by intro e; simp only [Addr.mk.injEq] at e; omega)]
        exact (ht z hz).1
/-- copy(d, s), whichever of the two is longer. -/
theorem run_copyM {P : Program} (w : World) (dT sT ty elem : TypeId) (i : TypeInfo) (hu : P.underlying dT = some (.slice elem)) (hi : P.info? elem = some i) (b o dLen dCap : Nat) (a : Addr) (sLen sCap n : Nat) (hmin : Nat.min sLen dLen = n) (cs : List Value)
    (hn : cs.length = n * i.size) (hsrc : ∀ j v, cs[j]? = some v → w.cell? (a.add j) = some v) (hc : ∀ j, j < cs.length → (w.cell? ⟨b, o + j, none⟩).isSome = true) (hf : ∀ j, j < cs.length → w.frozen? ⟨b, o + j, none⟩ = false) (h1 : ∀ v ∈ cs, v.oneCell' = true) :
    (Builtin.copy_ #[dT, sT] ty #[.slice (some ⟨b, o, none⟩) dLen dCap, .slice (some a) sLen sCap]).run P w = .ok (goInt n) (w.setCells b o cs) := by
  have hl := run_loadCells_list (P := P) w a cs hsrc
  have hst := run_storeCells_cells (P := P) b o cs 0 w (by simpa using hc) (by simpa using hf) h1
  simp only [Nat.add_zero] at hst
  simp [Builtin.copy_, run_underlying hu, Builtin.lenOf, Builtin.firstCells, sizeOf, typeInfo, hi, hmin, ← hn, hl, hst]
/-- A copy whose run is known, for the walk. -/
theorem wpCpyRun {P : Program} {w w' : World} {ops : Array Oper} {rest : List Oper} {o : Oper} {a : Act} {Q : Exit → Act → World → Prop} (hgd : o.guard = none) (s x : Operand) (t tx : TypeId)
    (ho : o.op = .call { callee := .builtin .copy, args := #[s, x], argTypes := #[t, tx] }) (v xv v' : Value) (hv : a.eval s = v) (hx : a.eval x = xv)
    (hrun : (Builtin.copy_ #[t, tx] o.type #[v, xv]).run P w = .ok v' w') (h : wpList P ops Q rest (a.put o.dst v') w') : wpList P ops Q (o :: rest) a w := by
  refine wpList_plain hgd fun K hK' => ?_
  unfold Oper.wp execOp
  simp only [ho, resolve, invoke, builtin, Sem.run_bind, Sem.run_pure, Result.andThen_ok, List.map_toArray, List.map_cons, List.map_nil, hv, hx, hrun]
  exact hK' _ _ h
/-- .. an append. -/
theorem wpAppRun {P : Program} {w w' : World} {ops : Array Oper} {rest : List Oper} {o : Oper} {a : Act} {Q : Exit → Act → World → Prop} (hgd : o.guard = none) (s x : Operand) (t tx : TypeId)
    (ho : o.op = .call { callee := .builtin .append, args := #[s, x], argTypes := #[t, tx] }) (v xv v' : Value) (hv : a.eval s = v) (hx : a.eval x = xv)
    (hrun : (Builtin.append_ #[t, tx] o.type #[v, xv]).run P w = .ok v' w') (h : wpList P ops Q rest (a.put o.dst v') w') : wpList P ops Q (o :: rest) a w := by
  refine wpList_plain hgd fun K hK' => ?_
  unfold Oper.wp execOp
  simp only [ho, resolve, invoke, builtin, Sem.run_bind, Sem.run_pure, Result.andThen_ok, List.map_toArray, List.map_cons, List.map_nil, hv, hx, hrun]
  exact hK' _ _ h
/-- Zero values, as cells. -/
theorem zeroCells_cs {α : Type} (E : El α) (d : α) (z : Array Value) (hz : z.toList = E.c d) (k : Nat) : (Builtin.zeroCells z k).toList = E.cs (List.replicate k d) := by
  have hs : z.size = E.n := by rw [← Array.length_toList, hz, E.len]
  have hpos := E.pos
  apply List.ext_getElem?
  intro j
  by_cases hj : j < k * E.n
  · have hq : j / E.n < k := Nat.div_lt_of_lt_mul (by rw [Nat.mul_comm]; exact hj)
    have hr : j % E.n < E.n := Nat.mod_lt _ hpos
    have hje : j = j / E.n * E.n + j % E.n := by rw [Nat.mul_comm]; exact (Nat.div_add_mod j E.n).symm
    have hget : (List.replicate k d)[j / E.n]? = some d := by rw [List.getElem?_replicate, if_pos hq]
    conv => rhs; rw [hje]
    rw [El.cs_get E hget hr, ← hz]
    simp only [Builtin.zeroCells, hs]
    simp [hj, hr, hs]
  · have h1 : (E.cs (List.replicate k d))[j]? = none := by rw [List.getElem?_eq_none_iff, El.cs_length, List.length_replicate]; omega
    rw [h1, List.getElem?_eq_none_iff]
    simp only [Builtin.zeroCells, hs]
    simp; omega
end Go.Hay
end

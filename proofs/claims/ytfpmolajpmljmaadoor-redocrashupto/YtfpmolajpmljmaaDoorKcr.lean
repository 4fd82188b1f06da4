/- Wherever the disk dies, and whatever survives, also again while the log is opened: what is found are the records of all Appends that were acknowledged, in order; or these, and those of the one that was in flight, as a whole; where what is given is of bulk at most 1048576. -/
import Derived.Test.YtfpmolajpmljmaaDoorB12
import Derived.Test.YtfpmolajpmljmaaDoorB9
import Derived.SizedLaws
import Derived.JoinedCond
import Derived.Deep.CondSized
section
namespace Go.Proofs.YtfpmolajpmljmaaDoor
open Go.ChangeShapes Go.WideShapes Go.ChangeAt Go.RowKit Go.Hay
set_option linter.unusedVariables false
set_option linter.unusedSimpArgs false

/-- A frame of records. -/
def frB (R : List (List UInt8)) : List UInt8 := frameB (recB R)
theorem frB_pos (R : List (List UInt8)) : 12 ≤ (frB R).length := by unfold frB; rw [frameB_length]; omega
def allB (l : List (List (List UInt8))) : List UInt8 := l.flatMap frB
theorem allB_snoc (l : List (List (List UInt8))) (R : List (List UInt8)) : allB (l ++ [R]) = allB l ++ frB R := by simp [allB]
/-- The records of the frames that are whole in so many bytes; how many bytes these have. -/
def torn : List (List (List UInt8)) → Nat → List (List UInt8) × Nat
  | [], _ => ([], 0)
  | R :: l, c => if (frB R).length ≤ c then (R ++ (torn l (c - (frB R).length)).1, (frB R).length + (torn l (c - (frB R).length)).2) else ([], 0)
theorem torn_snoc : ∀ (l : List (List (List UInt8))) (R : List (List UInt8)) (c : Nat), torn (l ++ [R]) c = if (allB (l ++ [R])).length ≤ c then ((torn l c).1 ++ R, (allB (l ++ [R])).length) else torn l c
  | [], R, c => by
    simp only [List.nil_append, torn, allB, List.flatMap_cons, List.flatMap_nil, List.append_nil, List.nil_append, Nat.add_zero]
  | R0 :: l, R, c => by
    have ih := torn_snoc l R (c - (frB R0).length)
    have e : (allB (R0 :: (l ++ [R]))).length = (frB R0).length + (allB (l ++ [R])).length := by simp [allB]
    rw [List.cons_append, torn, torn, e]
    by_cases h : (frB R0).length ≤ c
    · rw [if_pos h, if_pos h, ih]
      by_cases h2 : (allB (l ++ [R])).length ≤ c - (frB R0).length
      · rw [if_pos h2, if_pos (by omega)]; simp [List.append_assoc]
      · rw [if_neg h2, if_neg (by omega)]
    · rw [if_neg h, if_neg h, if_neg (by omega)]
theorem rdQ_torn : ∀ (l : List (List (List UInt8))) (c : Nat), (∀ R ∈ l, (recB R).length ≤ 16777216) → rdQ ((allB l).take c) = ((torn l c).1, (torn l c).2, 0)
  | [], c, _ => by simp [allB, torn, rdQ_nil]
  | R :: l, c, h => by
    have hR := h R (by simp)
    have e : allB (R :: l) = frB R ++ allB l := by simp [allB]
    rw [torn, e]
    by_cases hc : (frB R).length ≤ c
    · rw [if_pos hc, List.take_append, List.take_of_length_le hc]
      unfold frB
      rw [rdQ_frame R hR, rdQ_torn l _ (fun x hx => h x (by simp [hx]))]
      simp [finQ, frB]
    · rw [if_neg hc, List.take_append, show c - (frB R).length = 0 by omega, List.take_zero, List.append_nil]
      have hu := unf_cut (recB R) hR c (by have := frameB_length (recB R); unfold frB at hc; omega)
      exact rdQ_short (by unfold frB; rw [hu])
/-- A slice of slices of bytes, and what it sees. -/
structure Ls where
  a : Option Addr
  c : Nat
  l : List Bs
instance : Inhabited Ls := ⟨⟨none, 0, []⟩⟩
structure Ls.ok (w : World) (x : Ls) : Prop where
  see : BsE.See w x.a x.l
  ok : ∀ y ∈ x.l, y.ok w
theorem Ls.ok.keptNew {w w' : World} {x : Ls} (h : x.ok w) (hk : Kp [] w w') : x.ok w' := ⟨h.see.keptNew hk, fun y hy => (h.ok y hy).keptNew hk⟩
def LsE : El Ls where
  n := 1
  c x := [.slice x.a x.l.length x.c]
  len _ := rfl
  one _ u hu := by simp at hu; subst hu; rfl
  pos := by decide
theorem lsAt {w : World} {a : Option Addr} {l : List Ls} (h : LsE.See w a l) {k : Nat} {x : Ls} (hx : l[k]? = some x) : ∃ g o, a = some ⟨g, o, none⟩ ∧ w.cell? ⟨g, o + k, none⟩ = some (.slice x.a x.l.length x.c) := by
  obtain ⟨g, o, e, hc⟩ := h.at hx
  refine ⟨g, o, e, ?_⟩
  have := hc 0 _ rfl
  simpa [LsE] using this
def bulkL (x : Ls) : Nat := (x.l.map fun y => y.bs.length + 1).sum
theorem cellsLs : Tryd.prog.cellsOf 23 = 1 := by kernel_rfl
theorem bytesLs : Tryd.prog.bytesOf 23 = 24 := by kernel_rfl
section
variable {H : Type} {enc : TypeId × Value → H} {W : World} {a : Option Addr} {len cap : Nat} {d : DataW H} {ps : List MemPlace}
theorem openBlls (h : DataW.Trod enc Tryd.prog W 0 (fun _ => true) true 32 (.slice a len cap) d ps) :
    ∃ l : List Ls, len = l.length ∧ LsE.See W a l ∧ (∀ y ∈ l, y.ok W) ∧ l.length ≤ cap ∧ cap ≤ maxLen ∧ (a = none → cap = 0) ∧ (Fit 32 d → cap * 24 ≤ 140737488351232 ∧ ∀ y ∈ l, True) ∧ (l.map bulkL).sum ≤ Rows.uptoBulk d ∧ cap + 1 ≤ Rows.uptoBulk d :=
  openEls LsE Tryd.underlying32 cellsLs 24 bytesLs (fun y => y.ok W) (fun _ => True) bulkL (fun fuel cs x hx hcs => by
    obtain ⟨v, rfl⟩ := one_of hcs
    have hv : ∃ a len cap, v = .slice a len cap := by
      rcases Go.Deep.open_slice Tryd.underlying23 hx with ⟨hcs, _⟩ | ⟨a, len, cap, _, _, _, _, hcs, _⟩
      · exact ⟨none, 0, 0, by simpa using hcs⟩
      · exact ⟨_, _, _, by simpa using hcs⟩
    obtain ⟨a, len, cap, rfl⟩ := hv
    have ht : DataW.Trod enc Tryd.prog W 0 (fun _ => true) true 23 (.slice a len cap) x.1 x.2 := ⟨fuel, hx⟩
    obtain ⟨l, rfl, hs, hok, hl, hm, hn, _, hbk, _⟩ := openBlists ht
    exact ⟨⟨a, cap, l⟩, ⟨hs, hok⟩, rfl, fun _ => trivial, hbk⟩) h
end
theorem sumB_bulk : ∀ l : List Bs, sumB (bsl l) + l.length = (l.map fun y => y.bs.length + 1).sum
  | [] => rfl
  | x :: l => by
    have := sumB_bulk l
    simp only [bsl, sumB, List.map_cons, List.sum_cons, List.length_cons] at this ⊢
    omega
theorem frB_len (x : Ls) : (frB (bsl x.l)).length ≤ 21 * bulkL x + 21 := by
  have h1 := (recB_len (bsl x.l)).2
  have h2 := sumB_bulk x.l
  rw [bsl_len] at h1
  unfold frB bulkL
  rw [frameB_length, ← h2]
  omega
theorem allB_len : ∀ l : List Ls, (allB (l.map fun x => bsl x.l)).length ≤ 21 * (l.map bulkL).sum + 21 * l.length
  | [] => by simp [allB]
  | x :: l => by
    have h1 := frB_len x
    have h2 := allB_len l
    have e : allB ((x :: l).map fun x => bsl x.l) = frB (bsl x.l) ++ allB (l.map fun x => bsl x.l) := by simp [allB]
    rw [e, List.length_append]
    simp only [List.map_cons, List.sum_cons, List.length_cons] at h2 ⊢
    omega
end Go.Proofs.YtfpmolajpmljmaaDoor
end

section
namespace Go.Proofs.YtfpmolajpmljmaaDoor
open Go.RowKit Go.Hay
set_option linter.unusedVariables false
set_option linter.unusedSimpArgs false

theorem unf_turnedM (bs more : List UInt8) (h : bs.length ≤ 16777216) (i : Nat) (hi : i < (frameB bs).length) (y : UInt8) (hget : (frameB bs ++ more)[i]? ≠ some y) : unf ((frameB bs ++ more).set i y) = ([], 0, 14) := by
  have hl := frameB_length bs
  have key : ∀ (a b : List UInt8) (j : Nat) (z : UInt8), a.length = b.length → j < a.length → a[j]? ≠ some z → a.set j z = b → num a ≠ num b := by
    intro a b j z hab hj hne he hn
    have := num_inj a b hab hn
    subst this
    apply hne
    have h2 := congrArg (fun l => l[j]?) he
    simp only [List.getElem?_set_self hj] at h2
    exact h2.symm
  have fs := frame_split bs more
  rw [fs] at hget ⊢
  have hcL : num (be (crc (be bs.length 4)) 4) = crc (be bs.length 4) := num_be4 _ (crc_lt _)
  by_cases c1 : i < 4
  · rw [List.getElem?_append_left (by rw [be_length]; omega)] at hget
    rw [List.set_append_left _ _ (by rw [be_length]; omega), unf_parts _ _ _ (by rw [List.length_set, be_length]) (be_length _ _), if_pos]
    rw [hcL]
    refine set_split _ i (by rw [be_length]; omega) y (fun e => hget ?_)
    rw [← e, List.getElem?_eq_getElem]
  rw [List.getElem?_append_right (by rw [be_length]; omega)] at hget
  rw [List.set_append_right _ _ (by rw [be_length]; omega)]
  rw [be_length] at hget ⊢
  by_cases c2 : i - 4 < 4
  · rw [List.getElem?_append_left (by rw [be_length]; omega)] at hget
    rw [List.set_append_left _ _ (by rw [be_length]; omega), unf_parts _ _ _ (be_length _ _) (by rw [List.length_set, be_length]), if_pos]
    intro e
    exact key _ _ (i - 4) y (by rw [List.length_set]) (by rw [be_length]; omega) hget rfl (by rw [e, hcL])
  rw [List.getElem?_append_right (by rw [be_length]; omega)] at hget
  rw [List.set_append_right _ _ (by rw [be_length]; omega)]
  rw [be_length] at hget ⊢
  by_cases c3 : i - 4 - 4 < bs.length
  · rw [List.getElem?_append_left c3] at hget
    rw [List.set_append_left _ _ c3]
    have := unf_tail bs (be (crc bs) 4) more h (bs.set (i - 4 - 4) y) (by rw [List.length_set]) (be_length _ _)
    rw [this, if_pos]
    rw [num_be4 _ (crc_lt _)]
    refine set_split _ _ c3 y (fun e => hget ?_)
    rw [← e, List.getElem?_eq_getElem]
  · rw [List.getElem?_append_right (by omega)] at hget
    rw [List.getElem?_append_left (by rw [be_length]; omega)] at hget
    rw [List.set_append_right _ _ (by omega), List.set_append_left _ _ (by rw [be_length]; omega)]
    have := unf_tail bs ((be (crc bs) 4).set (i - 4 - 4 - bs.length) y) more h bs rfl (by rw [List.length_set, be_length])
    rw [this, if_pos]
    intro e
    exact key _ _ (i - 4 - 4 - bs.length) y (by rw [List.length_set]) (by rw [be_length]; omega) hget rfl (by rw [e, num_be4 _ (crc_lt _)])
theorem rdQ_turned : ∀ (l : List (List (List UInt8))) (i : Nat) (y : UInt8), (∀ R ∈ l, (recB R).length ≤ 16777216) → i < (allB l).length → (allB l)[i]? ≠ some y → rdQ ((allB l).set i y) = ([], 0, 91)
  | [], i, y, _, hi, _ => by simp [allB] at hi
  | R :: l, i, y, h, hi, hy => by
    have hR := h R (by simp)
    have e : allB (R :: l) = frB R ++ allB l := by simp [allB]
    rw [e] at hi hy ⊢
    by_cases hc : i < (frB R).length
    · have hu := unf_turnedM (recB R) (allB l) hR i hc y hy
      refine rdQ_bad (fun e => ?_) (by unfold frB; rw [hu]; decide) (by unfold frB; rw [hu]; decide)
      have := congrArg List.length e
      rw [List.length_set] at this
      simp only [List.length_nil] at this
      omega
    · rw [List.getElem?_append_right (by omega)] at hy
      rw [List.set_append_right _ _ (by omega)]
      rw [List.length_append] at hi
      have ih := rdQ_turned l (i - (frB R).length) y (fun x hx => h x (by simp [hx])) (by omega) hy
      unfold frB at ih ⊢
      rw [rdQ_frame R hR, ih]
      simp [finQ]
/-- What is appended. -/
def okR (R : List (List UInt8)) : Bool := decide (R ≠ []) && decide ((recB R).length ≤ 16777216)
def fl (l : List (List (List UInt8))) : List (List (List UInt8)) := l.filter okR
theorem fl_snoc (l : List (List (List UInt8))) (R : List (List UInt8)) : fl (l ++ [R]) = if okR R = true then fl l ++ [R] else fl l := by
  unfold fl
  rw [List.filter_append]
  by_cases h : okR R = true
  · rw [if_pos h]; simp [h]
  · rw [if_neg h]; simp [h]
theorem fl_ok {l : List (List (List UInt8))} {R : List (List UInt8)} (h : R ∈ fl l) : (recB R).length ≤ 16777216 := by
  have := (List.mem_filter.1 h).2
  unfold okR at this
  simp at this
  exact this.2
theorem app_one (r s : Nat) (nm x : List UInt8) (k : Nat) (hn : nameOk nm = true) (R : List (List UInt8)) (h : x.length + (frB R).length ≤ r) :
    (okR R = true → appQ (oneD r s nm x k) nm R = (oneD r (s + 2) nm (x ++ frB R) (x ++ frB R).length, 0) ∧ appS R = (frB R).length) ∧ (okR R = false → (appQ (oneD r s nm x k) nm R).1 = oneD r s nm x k ∧ ((appQ (oneD r s nm x k) nm R).2 = 0 → R = [] ∧ appS R = 0)) := by
  constructor
  · intro ho
    unfold okR at ho
    simp at ho
    have e : frmR R = (frB R, 0) := by unfold frmR frB; rw [if_pos ho.2]
    constructor
    · unfold appQ
      rw [if_neg ho.1, e, if_neg (by simp)]
      exact write_one _ _ _ _ _ _ hn h
    · unfold appS
      rw [if_neg ho.1, e]
  · intro ho
    unfold okR at ho
    simp at ho
    by_cases h0 : R = []
    · subst h0
      exact ⟨by simp [appQ], fun _ => ⟨rfl, by simp [appS]⟩⟩
    · have e : frmR R = ([], 90) := by unfold frmR; rw [if_neg (by have := ho h0; omega)]
      constructor
      · unfold appQ; rw [if_neg h0, e, if_pos (by simp)]
      · intro hh
        unfold appQ at hh
        rw [if_neg h0, e, if_pos (by simp)] at hh
        simp at hh
theorem flip_one (r s : Nat) (nm x : List UInt8) (k : Nat) (i b : Int) : flipOk (oneD r s nm x k) nm i b = (decide (0 ≤ i) && decide (i < x.length) && decide (0 ≤ b) && decide (b ≤ 7)) ∧ (flipOk (oneD r s nm x k) nm i b = true → flipD (oneD r s nm x k) nm i b = oneD r s nm (flipB x i.toNat b.toNat) k) := by
  have hl : lookG Fl.name nm (oneD r s nm x k).files = some ⟨nm, x, k⟩ := by simp [lookG, oneD]
  refine ⟨by unfold flipOk; rw [hl], fun h => ?_⟩
  unfold flipD
  rw [if_pos h, file_one]
  simp [oneD, putG]
  cases leN nm nm <;> rfl
theorem xor_pow (y : UInt8) (b : Nat) (hb : b ≤ 7) : y ^^^ UInt8.ofNat (2 ^ b) ≠ y := by
  intro h
  have h2 := congrArg UInt8.toNat h
  have e : (y ^^^ UInt8.ofNat (2 ^ b)).toNat = y.toNat ^^^ (UInt8.ofNat (2 ^ b)).toNat := UInt8.toNat_xor _ _
  rw [e] at h2
  refine xor_ne y.toNat (UInt8.ofNat (2 ^ b)).toNat ?_ h2
  have : b = 0 ∨ b = 1 ∨ b = 2 ∨ b = 3 ∨ b = 4 ∨ b = 5 ∨ b = 6 ∨ b = 7 := by omega
  rcases this with rfl | rfl | rfl | rfl | rfl | rfl | rfl | rfl <;> decide
theorem flip_turned (l : List (List (List UInt8))) (h : ∀ R ∈ l, (recB R).length ≤ 16777216) (i b : Nat) (hi : i < (allB l).length) (hb : b ≤ 7) : rdQ (flipB (allB l) i b) = ([], 0, 91) := by
  unfold flipB
  refine rdQ_turned l i _ h hi ?_
  rw [List.getElem?_eq_getElem hi]
  intro e
  have e2 := Option.some.inj e
  have e3 : (allB l).getD i 0 = (allB l)[i] := by simp [List.getD, List.getElem?_eq_getElem hi]
  rw [e3] at e2
  exact xor_pow _ b hb e2.symm
theorem open_spoilt (r s : Nat) (nm x : List UInt8) (k : Nat) (h : rdQ x = ([], 0, 91)) : openD rdQ (oneD r s nm x k) nm = (oneD r s nm x k, 91) := by
  unfold openD
  have hl : lookG Fl.name nm (oneD r s nm x k).files = some ⟨nm, x, k⟩ := by simp [lookG, oneD]
  rw [if_neg (by simp [oneD])]
  simp only [hl, h]
  rw [if_pos (by decide)]
end Go.Proofs.YtfpmolajpmljmaaDoor
end

section
namespace Go.Proofs.YtfpmolajpmljmaaDoor
open Go.RowKit Go.Hay
set_option linter.unusedVariables false
set_option linter.unusedSimpArgs false

/-- How the two rows stand. -/
structure TnI (w W : World) (ba : Option Addr) (bc : Nat) (bs : List UInt8) (va : Option Addr) (vc : Nat) (vl : List Bs) : Prop where
  b : Row W (.slice ba bs.length bc) bs
  v : BsE.Row W (.slice va vl.length vc) vl
  bn : ∀ k ∈ blk ba, w.heap.size ≤ k
  vn : ∀ k ∈ blk va, w.heap.size ≤ k
  ne : ∀ k ∈ blk ba, k ∉ blk va
  ok : ∀ y ∈ vl, y.ok w
  kp : Kp [] w W
theorem TnI.keep {w W W' : World} {ba : Option Addr} {bc : Nat} {bs : List UInt8} {va : Option Addr} {vc : Nat} {vl : List Bs} (h : TnI w W ba bc bs va vc vl) (k : Kp [] W W') : TnI w W' ba bc bs va vc vl :=
  ⟨h.b.kept k (by simp), h.v.keptNew k, h.bn, h.vn, h.ne, h.ok, h.kp.trans k (by simp)⟩
theorem TnI.addB {w W W' : World} {ba : Option Addr} {bc : Nat} {bs bs' : List UInt8} {va : Option Addr} {vc : Nat} {vl : List Bs} (h : TnI w W ba bc bs va vc vl) {a' : Option Addr} {c' : Nat} (hr : Row W' (.slice a' bs'.length c') bs') (k : Kp (own (.slice ba bs.length bc)) W W') (hn : ∀ j ∈ own (.slice a' bs'.length c'), j ∈ own (.slice ba bs.length bc) ∨ W.heap.size ≤ j) : TnI w W' a' c' bs' va vc vl := by
  rw [ownQ] at k
  simp only [ownQ] at hn
  refine ⟨hr, h.v.kept k (fun j hj hm => h.ne j hm (by rw [ownQ] at hj; exact hj)), fun j hj => ?_, h.vn, fun j hj hm => ?_, h.ok, h.kp.trans k (fun j hj => .inr (h.bn j hj))⟩
  · rcases hn j hj with e | e
    · exact h.bn j e
    · have := h.kp.size; omega
  · rcases hn j hj with e | e
    · exact h.ne j e hm
    · have := h.v.lt j (by rw [ownQ]; exact hm); omega
theorem TnI.addV {w W W' : World} {ba : Option Addr} {bc : Nat} {bs : List UInt8} {va : Option Addr} {vc : Nat} {vl vl' : List Bs} (h : TnI w W ba bc bs va vc vl) {a' : Option Addr} {c' : Nat} (hr : BsE.Row W' (.slice a' vl'.length c') vl') (k : Kp (own (.slice va vl.length vc)) W W') (hn : ∀ j ∈ own (.slice a' vl'.length c'), j ∈ own (.slice va vl.length vc) ∨ W.heap.size ≤ j) (ho : ∀ y ∈ vl', y.ok w) : TnI w W' ba bc bs a' c' vl' := by
  rw [ownQ] at k
  simp only [ownQ] at hn
  refine ⟨h.b.kept k (fun j hj hm => h.ne j (by rw [ownQ] at hj; exact hj) hm), hr, h.bn, fun j hj => ?_, fun j hj hm => ?_, ho, h.kp.trans k (fun j hj => .inr (h.vn j hj))⟩
  · rcases hn j hj with e | e
    · exact h.vn j e
    · have := h.kp.size; omega
  · rcases hn j hm with e | e
    · exact h.ne j hj e
    · have := h.b.lt j (by rw [ownQ]; exact hj); omega
theorem appBs {W : World} {a : Option Addr} {c : Nat} {l : List Bs} (h : BsE.Row W (.slice a l.length c) l) (a2 : Option Addr) (c2 : Nat) (ys : List Bs) (hs : BsE.See W a2 ys) (hl : l.length + ys.length ≤ 1000000000) :
    ∃ a' c' W', (Builtin.append_ #[23, 23] 23 #[.slice a l.length c, .slice a2 ys.length c2]).run Tryd.prog W = .ok (.slice a' (l ++ ys).length c') W' ∧ BsE.Row W' (.slice a' (l ++ ys).length c') (l ++ ys) ∧ Kp (own (.slice a l.length c)) W W' ∧ ∀ k ∈ own (.slice a' (l ++ ys).length c'), k ∈ own (.slice a l.length c) ∨ W.heap.size ≤ k := by
  obtain ⟨i0, hi, hz0, hz1, hz2⟩ := infoSl
  have hsrc := hs.src (P := Tryd.prog) Tryd.underlying23 c2
  obtain ⟨v6, X4, hrun2, hrow6, kk6, hn6⟩ := run_appendG (E := BsE) (P := Tryd.prog) _ 23 23 23 22 i0 _ 24 Tryd.underlying23 hi hz0 hz1 hz2 rfl (.slice a l.length c) l h _ ys hsrc (by omega) (by omega)
  obtain ⟨a6, c6, rfl, _⟩ := hrow6.see
  exact ⟨a6, c6, X4, hrun2, hrow6, kk6, hn6⟩
def RsL (L : List Ls) : List (List (List UInt8)) := L.map fun x => bsl x.l
theorem RsL_len (L : List Ls) : (RsL L).length = L.length := by simp [RsL]
theorem RsL_take {L : List Ls} {j : Nat} (h : j < L.length) : (RsL L).take (j + 1) = (RsL L).take j ++ [bsl L[j].l] := by
  rw [List.take_succ_eq_append_getElem (by rw [RsL_len]; exact h)]
  simp [RsL]
theorem RsL_takeL (L : List Ls) (j : Nat) : (RsL L).take j = RsL (L.take j) := by simp [RsL]
theorem sum_take_le (L : List Ls) (j : Nat) : ((L.take j).map bulkL).sum ≤ (L.map bulkL).sum := by
  induction L generalizing j with
  | nil => simp
  | cons x L ih =>
    cases j with
    | zero => simp
    | succ j => have := ih j; simp only [List.take_succ_cons, List.map_cons, List.sum_cons]; omega
theorem bulk_mem {L : List Ls} {x : Ls} (h : x ∈ L) : bulkL x ≤ (L.map bulkL).sum := by
  induction L with
  | nil => cases h
  | cons y L ih =>
    simp only [List.map_cons, List.sum_cons]
    rcases List.mem_cons.1 h with rfl | h
    · omega
    · have := ih h; omega
theorem torn_len : ∀ (l : List (List (List UInt8))) (c : Nat), (torn l c).1.length ≤ (torn l c).2 ∧ (torn l c).2 ≤ (allB l).length
  | [], c => by simp [torn, allB]
  | R :: l, c => by
    have ih := torn_len l (c - (frB R).length)
    have e : (allB (R :: l)).length = (frB R).length + (allB l).length := by simp [allB]
    have hr := (recB_len R).1
    have hR : R.length ≤ (frB R).length := by
      have h1 := txB_len R
      have h2 : ∀ S : List (List UInt8), S.length ≤ (txB S).length := by
        intro S
        induction S with
        | nil => simp
        | cons x S ih =>
          have := textB_len x
          have e2 : txB (x :: S) = textB x ++ txB S := by simp [txB]
          rw [e2, List.length_append, List.length_cons]; omega
      have h3 := h2 R
      unfold frB
      rw [frameB_length]
      have e3 : recB R = varB R.length ++ txB R := rfl
      rw [e3, List.length_append]
      omega
    rw [torn, e]
    split
    · simp only [List.length_append]; omega
    · simp
set_option maxHeartbeats 16000000 in
set_option maxRecDepth 100000 in
theorem tornWalk9 (a : Option Addr) (c : Nat) (L : List Ls) (cut : Int) (w : World) (ht : Tab w) (hs : LsE.See w a L) (hok : ∀ x ∈ L, x.ok w) (hL : L.length ≤ 1048576) (hbk : (L.map bulkL).sum ≤ 1048576) (hcut : -9223372036854775808 ≤ cut ∧ cut ≤ 9223372036854775807) :
    Calls Tryd.prog 4 #[.slice a L.length c, .int .i64 cut] w fun e w' => e = .returned (.bool true) ∧ Below w.heap.size w w' := by
  have hal : Hid (∀ W, Kp [] w W → Calls Tryd.prog 12 #[] W fun e w' => e = .returned (.bool true) ∧ Kp [] W w') := fun W k => cAliveQ W (ht.kept k (by simp))
  have hFr : Hid (∀ (j : Nat) (h : j < L.length) (W : World), Kp [] w W → (∃ g o, a = some ⟨g, o, none⟩ ∧ W.cell? ⟨g, o + j, none⟩ = some (.slice L[j].a L[j].l.length L[j].c)) ∧ Calls Tryd.prog 10 #[.slice L[j].a L[j].l.length L[j].c] W (FrP (frmR (bsl L[j].l)) W) ∧ BsE.See W L[j].a L[j].l) := fun j h W k => by
    obtain ⟨g, o, e, hc⟩ := lsAt hs (k := j) (x := L[j]) (by simp [h])
    have ho := hok L[j] (List.getElem_mem h)
    have hb := bulk_mem (List.getElem_mem h)
    have hsb := sumB_bulk L[j].l
    have hk' : bulkL L[j] = (L[j].l.map fun y => y.bs.length + 1).sum := rfl
    exact ⟨⟨g, o, e, (k.cell (p := ⟨g, o + j, none⟩) (World.block_lt_of_cell? _ _ hc) (by simp)).trans hc⟩, cFrames _ _ _ W (ht.kept k (by simp)) (ho.keptNew k).see (ho.keptNew k).ok (by omega), (ho.keptNew k).see⟩
  have hokL : Hid (∀ (j : Nat) (h : j < L.length), (∀ y ∈ L[j].l, y.ok w) ∧ L[j].l.length ≤ 1048576) := fun j h => by
    have hb := bulk_mem (List.getElem_mem h)
    have hsb := sumB_bulk L[j].l
    have hk' : bulkL L[j] = (L[j].l.map fun y => y.bs.length + 1).sum := rfl
    exact ⟨(hok L[j] (List.getElem_mem h)).ok, by omega⟩
  have hTb : Hid (∀ W, Kp [] w W → Tab W) := fun W k => ht.kept k (by simp)
  have hAl : Hid (∀ j, (allB ((RsL L).take j)).length ≤ 50000000) := fun j => by
    rw [RsL_takeL]
    have h1 := allB_len (L.take j)
    have h2 := sum_take_le L j
    have h3 : (L.take j).length ≤ L.length := by rw [List.length_take]; omega
    show (allB (RsL (L.take j))).length ≤ _
    unfold RsL
    omega
  obtain ⟨i0, hi, hz0, hz1, hz2⟩ := info_parts Tryd.infoB
  have hI0 : Hid (TnI w w none 0 [] none 0 []) := ⟨Row.nil _, .inl ⟨rfl, rfl⟩, by simp [blk], by simp [blk], by simp [blk], by simp, Kp.refl _ _⟩
  clear ht hs hok
  go_enter Tryd.func4, Tryd.ntmps4
  go_wp2_with fail
  go_loopw [5, 6, 7, 17] (fun v5 v6 v7 i wn => ∃ (j : Nat) (ba : Option Addr) (bc : Nat) (bs : List UInt8) (va : Option Addr) (vc : Nat) (vl : List Bs) (at' : Nat), j ≤ L.length ∧ i = .int .i64 j ∧ v5 = .slice ba bs.length bc ∧ v6 = .slice va vl.length vc ∧ v7 = .int .i64 at' ∧ Hid (TnI w wn ba bc bs va vc vl) ∧ Hid (bs = allB ((RsL L).take j) ∧ (bsl vl, at') = torn ((RsL L).take j) cut.toNat ∧ ∀ R ∈ (RsL L).take j, (recB R).length ≤ 16777216)) (fun _ _ _ i _ => L.length - (intOf i).toNat)
  case atStart => exact ⟨0, none, 0, [], none, 0, [], 0, Nat.zero_le _, rfl, rfl, rfl, rfl, hI0, by refine ⟨by simp [allB], by simp [torn, bsl], by simp⟩⟩
  case round =>
    obtain ⟨j, ba, bc, bs, va, vc, vl, at', hj, rfl, rfl, rfl, rfl, HI, HB⟩ := hrel
    clear hI0
    have hbl : bs.length ≤ 50000000 := by rw [HB.out.1]; exact hAl.out j
    have htl := torn_len ((RsL L).take j) cut.toNat
    rw [← HB.out.2.1, ← HB.out.1, bsl_len] at htl
    dsimp only at htl
    by_cases hlt : j < L.length
    · obtain ⟨⟨g, o, ea, cL⟩, cF, sL⟩ := hFr.out j hlt _ HI.out.kp
      have hyo := hokL.out j hlt
      have hsn := RsL_take hlt
      have hst := torn_snoc ((RsL L).take j) (bsl L[j].l) cut.toNat
      have hal2 := hAl.out (j + 1)
      have hen := allB_snoc ((RsL L).take j) (bsl L[j].l)
      rw [← hsn] at hst hen
      rw [hen] at hst hal2
      rw [← HB.out.1] at hst hen hal2
      rw [← HB.out.2.1] at hst
      obtain ⟨Y, hY⟩ : ∃ Y, L[j] = Y := ⟨_, rfl⟩
      rw [hY] at cL cF sL hyo hsn hst hal2 hen
      obtain ⟨ya, yc, yl⟩ := Y
      dsimp only at cL cF sL hyo hsn hst hal2 hen
      have hfe1 : Hid ((recB (bsl yl)).length ≤ 16777216 → frmR (bsl yl) = (frB (bsl yl), 0)) := fun h => by unfold frmR frB; rw [if_pos h]
      have hfe2 : Hid (¬ (recB (bsl yl)).length ≤ 16777216 → frmR (bsl yl) = ([], 90)) := fun h => by unfold frmR; rw [if_neg h]
      have hSee : Hid (∀ W, Kp [] w W → BsE.See W ya yl) := fun W k => by
        have := (hFr.out j hlt W k).2.2
        rw [hY] at this
        exact this
      have CF := hid cF
      have HS := hid (And.intro hsn (And.intro hst hen))
      have hal3 := hid hal2
      clear hY cF hsn hst hen hal2
      subst ea
      have dj1 : (j : Int) < (L.length : Int) := by omega
      have dj0 : (0 : Int) ≤ (j : Int) := by omega
      have dj7 : (-9223372036854775808 : Int) ≤ (j : Int) + 1 := by omega
      have dj8 : (j : Int) + 1 ≤ 9223372036854775807 := by omega
      go_wp2_with fail
      refine CF.out.mono ?_
      by_cases hrl : (recB (bsl yl)).length ≤ 16777216
      · rw [hfe1.out hrl]
        rintro e w2 ⟨b2, c2, rfl, hr2, k2, hn2⟩
        dsimp only at hr2 ⊢
        obtain ⟨b2', c2', e2, hs2, -⟩ := hr2.sees
        cases e2
        have hrlo := hid hrl
        have HI2 := hid (HI.out.keep k2)
        obtain ⟨F, hF⟩ : ∃ F, Hid (frB (bsl yl) = F) := ⟨_, rfl⟩
        have hF12 := frB_pos (bsl yl)
        rw [hF.out] at HS hal3 hs2 hF12
        simp only [hF.out]
        have hsrc := hs2.src (P := Tryd.prog) Tryd.underlying22 c2
        have hrow' := HI2.out.b
        have sL2 := sL.keptNew k2
        have HI' := hid sL2
        clear CF hfe1 hfe2 hr2 k2 hn2 hs2 hrl HI sL sL2
        have hbl2 : bs.length + F.length ≤ 200000000000000 := by have := hal3.out; rw [List.length_append] at this; omega
        go_wp2_with (at_builtin; refine wpList_append_src _ rfl (.tmp 33) (.tmp 34) 22 22 rfl i0 Tryd.underlying22 hi hz0 hz1 hz2 _ _ rfl hrow' _ _ rfl hsrc hbl2 ?_)
        intro v8 w8 r8 k8 o8
        obtain ⟨B8, hB8⟩ : ∃ B8, Hid (bs ++ F = B8) := ⟨_, rfl⟩
        rw [hB8.out] at r8 HS hal3
        obtain ⟨a8, c8, rfl, -⟩ := r8.shape
        have HI8 := hid (HI2.out.addB r8 k8 o8)
        have hl8 : 12 ≤ B8.length := by rw [← hB8.out, List.length_append]; omega
        have sL8 := hid (hSee.out w8 HI8.out.kp)
        have hmem : Hid (∀ R ∈ (RsL L).take (j + 1), (recB R).length ≤ 16777216) := fun R hR => by
          rw [HS.out.1] at hR
          rcases List.mem_append.1 hR with h | h
          · exact HB.out.2.2 R h
          · simp at h; subst h; exact hrlo.out
        clear r8 k8 o8 hsrc hrow' HI2
        by_cases hcc : (B8.length : Int) ≤ cut
        · have hcn : B8.length ≤ cut.toNat := by omega
          have dcc : decide ((B8.length : Int) ≤ cut) = true := by simpa using hcc
          obtain ⟨a9, c9, w9, hrun9, hr9, k9, hn9⟩ := appBs HI8.out.v ya yc yl sL8.out (by have := hyo.2; omega)
          have hbs9 : bsl (vl ++ yl) = bsl vl ++ bsl yl := by simp [bsl]
          obtain ⟨V9, hV9⟩ : ∃ V9, Hid (vl ++ yl = V9) := ⟨_, rfl⟩
          rw [hV9.out] at hrun9 hr9 hn9 hbs9
          have HI9 := hid (HI8.out.addV hr9 k9 hn9 (fun y hy => by
            rw [← hV9.out] at hy
            rcases List.mem_append.1 hy with h | h
            · exact HI8.out.ok y h
            · exact hyo.1 y h))
          have hT9 : Hid ((bsl V9, B8.length) = torn ((RsL L).take (j + 1)) cut.toNat) := by
            show _ = _
            rw [HS.out.2.1, if_pos hcn, hbs9]
          have hB9 : Hid (B8 = allB ((RsL L).take (j + 1))) := HS.out.2.2.symm
          clear hr9 k9 hn9 HI8 HS hcc HI' sL8 hbs9
          go_wp2_with (first | (refine wpAppRunQ rfl _ _ 23 23 rfl _ _ _ rfl rfl hrun9 ?_) | fail)
          go_roundw
          case rel => exact ⟨j + 1, a8, c8, B8, a9, c9, V9, B8.length, by omega, by simp, rfl, rfl, rfl, HI9, ⟨hB9.out, hT9.out, hmem.out⟩⟩
          case measure => simp [intOf]; omega
        · have hcn : ¬ B8.length ≤ cut.toNat := by omega
          have dcc : decide ((B8.length : Int) ≤ cut) = false := by simpa using hcc
          have hT9 : Hid ((bsl vl, at') = torn ((RsL L).take (j + 1)) cut.toNat) := by
            show _ = _
            rw [HS.out.2.1, if_neg hcn]
          have hB9 : Hid (B8 = allB ((RsL L).take (j + 1))) := HS.out.2.2.symm
          clear HS HI' sL8
          go_wp2_with fail
          go_roundw
          case rel => exact ⟨j + 1, a8, c8, B8, va, vc, vl, at', by omega, by simp, rfl, rfl, rfl, HI8, ⟨hB9.out, hT9.out, hmem.out⟩⟩
          case measure => simp [intOf]; omega
      · rw [hfe2.out hrl]
        rintro e w2 ⟨b2, c2, rfl, hr2, k2, hn2⟩
        dsimp only
        have aA := hid (hal.out w2 (HI.out.kp.trans k2 (by simp)))
        have HK := hid (HI.out.kp.trans k2 (by simp))
        clear CF hfe1 hfe2 hr2 k2 hn2
        go_wp2_with fail
        refine aA.out.mono ?_
        rintro e w3 ⟨rfl, k3⟩
        have HK3 := hid (HK.out.trans k3 (by simp))
        clear aA k3
        go_wp2_with fail
        go_ret
        exact ⟨rfl, HK3.out.below⟩
    · have dj2 : decide ((j : Int) < (L.length : Int)) = false := by simp; omega
      have hjl : (RsL L).take j = RsL L := List.take_of_length_le (by rw [RsL_len]; omega)
      have HB' := HB.out
      rw [hjl] at HB'
      have hrd := rdQ_torn (RsL L) cut.toNat HB'.2.2
      rw [← HB'.1, ← HB'.2.1] at hrd
      dsimp only at hrd
      have HR := hid hrd
      have hTl := htl
      clear hrd HB' hjl HB
      by_cases hc0 : cut < 0
      · have d0 : decide (cut < 0) = true := by simpa using hc0
        have aA := hid (hal.out _ HI.out.kp)
        go_wp2_with fail
        refine aA.out.mono ?_
        rintro e w3 ⟨rfl, k3⟩
        have HK3 := hid (HI.out.kp.trans k3 (by simp))
        clear aA k3
        go_wp2_with fail
        go_ret
        exact ⟨rfl, HK3.out.below⟩
      · have d0 : decide (cut < 0) = false := by simpa using hc0
        by_cases hcl : (bs.length : Int) < cut
        · have d1 : decide ((bs.length : Int) < cut) = true := by simpa using hcl
          have aA := hid (hal.out _ HI.out.kp)
          go_wp2_with fail
          refine aA.out.mono ?_
          rintro e w3 ⟨rfl, k3⟩
          have HK3 := hid (HI.out.kp.trans k3 (by simp))
          clear aA k3
          go_wp2_with fail
          go_ret
          exact ⟨rfl, HK3.out.below⟩
        · have d1 : decide ((bs.length : Int) < cut) = false := by simpa using hcl
          obtain ⟨n0, rfl⟩ := Int.eq_ofNat_of_zero_le (show (0 : Int) ≤ cut by omega)
          rw [Int.toNat_natCast] at HR
          have hn0 : n0 ≤ bs.length := by omega
          obtain ⟨ra, rc, era, hsB, -⟩ := HI.out.b.sees
          cases era
          obtain ⟨ra', rc', era', hlb⟩ := HI.out.b.shape
          cases era'
          have hcm : bc ≤ maxLen := by
            rcases HI.out.b with ⟨h1, h2⟩ | ⟨g, o, cap, h1, _, h3, _⟩
            · injection h1 with _ _ h4; rw [h4]; unfold maxLen; omega
            · injection h1 with _ _ h4; rw [h4]; exact h3
          have hlt0 : (bs.take n0).length = n0 := by rw [List.length_take]; omega
          have aR := cReadQ ba bc (bs.take n0) _ (hTb.out _ HI.out.kp) (hsB.front n0) (by omega) hcm (by omega)
          rw [hlt0, HR.out] at aR
          have AR := hid aR
          have hnb : (n0 : Int) ≤ (bc : Int) := by omega
          have hn00 : (0 : Int) ≤ (n0 : Int) := by omega
          clear aR hsB HR hcl
          go_wp2_with fail
          refine AR.out.mono ?_
          rintro e w4 ⟨v4, rfl, hr4, k4⟩
          dsimp only at hr4 ⊢
          obtain ⟨a4, c4, l4, rfl, hs4, ho4, hb4⟩ := hr4.bs
          have hl4 : l4.length = vl.length := by rw [← bsl_len l4, hb4, bsl_len]
          have kw4 := HI.out.kp.trans k4 (by simp)
          have aA := hid (hal.out w4 kw4)
          obtain ⟨_, _, ev, hsv, _⟩ := HI.out.v.see
          cases ev
          have H4 := hid (And.intro hs4 (And.intro ho4 (And.intro hb4 (And.intro (hsv.keptNew k4) kw4))))
          clear AR hr4 hs4 ho4 hb4 k4 kw4 hsv
          go_wp2_with fail
          refine aA.out.mono ?_
          rintro e w5 ⟨rfl, k5⟩
          have kw5 := H4.out.2.2.2.2.trans k5 (by simp)
          have aS := cSameQ a4 va c4 vc l4 vl w5 (H4.out.1.keptNew k5) (H4.out.2.2.2.1.keptNew k5) (fun y hy => (H4.out.2.1 y hy).1.keptNew k5) (fun y hy => (HI.out.ok y hy).keptNew kw5) (by omega) (by omega)
          rw [H4.out.2.2.1, show decide (bsl vl = bsl vl) = true by simp, hl4] at aS
          have HS := hid aS
          have HK := hid kw5
          have i1 : ((at' : Int) == (at' : Int)) = true := by simp
          clear aA aS k5 kw5 H4
          go_wp2_with fail
          refine HS.out.mono ?_
          rintro e w6 ⟨rfl, k6⟩
          have HK6 := hid (HK.out.trans k6 (by simp))
          clear HS HK k6
          go_wp2_with fail
          go_ret
          exact ⟨rfl, HK6.out.below⟩
end Go.Proofs.YtfpmolajpmljmaaDoor
end

section
namespace Go.Proofs.YtfpmolajpmljmaaDoor
open Go.RowKit Go.Hay
set_option linter.unusedVariables false
set_option linter.unusedSimpArgs false

def nmL : List UInt8 := [108, 111, 103]
theorem rnL : nameOk nmL = true := by decide
theorem fl_len (l : List Ls) : (allB (fl (l.map fun x => bsl x.l))).length ≤ 21 * (l.map bulkL).sum + 21 * l.length := by
  induction l with
  | nil => simp [fl, allB]
  | cons x l ih =>
    have h1 := frB_len x
    have e : fl ((x :: l).map fun x => bsl x.l) = if okR (bsl x.l) = true then bsl x.l :: fl (l.map fun x => bsl x.l) else fl (l.map fun x => bsl x.l) := by
      unfold fl
      rw [List.map_cons, List.filter_cons]
    rw [e]
    simp only [List.map_cons, List.sum_cons, List.length_cons]
    split
    · have e2 : allB (bsl x.l :: fl (l.map fun x => bsl x.l)) = frB (bsl x.l) ++ allB (fl (l.map fun x => bsl x.l)) := by simp [allB]
      rw [e2, List.length_append]
      omega
    · omega
set_option maxHeartbeats 16000000 in
set_option maxRecDepth 100000 in
theorem spoiltWalk9 (a : Option Addr) (c : Nat) (L : List Ls) (at' : Int) (w : World) (ht : Tab w) (hs : LsE.See w a L) (hok : ∀ x ∈ L, x.ok w) (hL : L.length ≤ 1048576) (hbk : (L.map bulkL).sum ≤ 1048576) (hat : -9223372036854775808 ≤ at' ∧ at' ≤ 9223372036854775807) :
    Calls Tryd.prog 6 #[.slice a L.length c, .int .i64 at'] w fun e w' => e = .returned (.bool true) ∧ Below w.heap.size w w' := by
  have ht' := hid ht
  have aN := hid (cNew 1125899906842624 w (by omega))
  have hcl : Hid (∀ (j : Nat) (h : j < L.length) (W : World), Kp [] w W → (∃ g o, a = some ⟨g, o, none⟩ ∧ W.cell? ⟨g, o + j, none⟩ = some (.slice L[j].a L[j].l.length L[j].c)) ∧ (∀ X : Nat → Prop, (∀ k, X k → w.heap.size ≤ k) → ArgQ W L[j].a L[j].l X) ∧ L[j].l.length ≤ 1048576) := fun j h W k => by
    obtain ⟨g, o, e, hc⟩ := lsAt hs (k := j) (x := L[j]) (by simp [h])
    have ho := hok L[j] (List.getElem_mem h)
    have hb := bulk_mem (List.getElem_mem h)
    have hsb := sumB_bulk L[j].l
    have hk' : bulkL L[j] = (L[j].l.map fun y => y.bs.length + 1).sum := rfl
    refine ⟨⟨g, o, e, (k.cell (p := ⟨g, o + j, none⟩) (World.block_lt_of_cell? _ _ hc) (by simp)).trans hc⟩, fun X hX => ⟨(ho.keptNew k).see, (ho.keptNew k).ok, fun hne q hq hx => ?_, fun y hy hne q hq hx => ?_, by omega, fun y hy => ?_⟩, by omega⟩
    · have h1 := hX q hx
      rcases ho.see with e' | ⟨g', o', e', hc'⟩
      · exact hne e'
      · rw [e'] at hq
        simp [blk] at hq
        subst hq
        have h0 : 0 < (BsE.cs L[j].l).length := by rw [El.cs_length]; have : 0 < L[j].l.length := List.length_pos_iff.2 hne; simp [BsE]; omega
        have := World.block_lt_of_cell? _ _ (hc' 0 _ (List.getElem?_eq_getElem h0))
        simp at this
        omega
    · have h1 := hX q hx
      have := (ho.ok y hy).see.lt hne q hq
      omega
    · have h2 : y.bs.length + 1 ≤ (L[j].l.map fun y => y.bs.length + 1).sum := by
        have : y.bs.length + 1 ∈ L[j].l.map fun y => y.bs.length + 1 := List.mem_map.2 ⟨y, hy, rfl⟩
        generalize (L[j].l.map fun y => y.bs.length + 1) = q at this
        induction q with
        | nil => cases this
        | cons z q ih =>
          rw [List.sum_cons]
          rcases List.mem_cons.1 this with e | h
          · omega
          · have := ih h; omega
      omega
  have hFl : Hid (∀ j, (allB (fl ((RsL L).take j))).length ≤ 50000000) := fun j => by
    rw [RsL_takeL]
    have h1 := fl_len (L.take j)
    have h2 := sum_take_le L j
    have h3 : (L.take j).length ≤ L.length := by rw [List.length_take]; omega
    show (allB (fl (RsL (L.take j)))).length ≤ _
    unfold RsL
    omega
  clear ht hs hok
  go_enter Tryd.func6, Tryd.ntmps6
  go_wp2_with fail
  refine aN.out.mono ?_
  rintro e w1 ⟨dp, mb, rfl, hD1, k1, hdp, hmb⟩
  have hf1 : ∀ k ∈ foot dp mb [], w.heap.size ≤ k := fun k hk => by simp [foot] at hk; rcases hk with rfl | rfl <;> assumption
  have aV := hid (cAliveQ w1 (ht'.out.kept k1 (by simp)))
  have H1 := hid (And.intro hD1 (And.intro k1 hf1))
  clear aN hD1 k1 hf1
  go_wp2_with fail
  refine aV.out.mono ?_
  rintro e w2 ⟨rfl, k2⟩
  have aC := hid (cCreate (H1.out.1.keptNew k2) (by simp [newD]) (by simp [newD]) (by intro f hf; simp [newD] at hf) nmL (by unfold maxLen; simp [nmL]))
  have ec : createD (newD 1125899906842624) nmL = (oneD 1125899906842624 2 nmL [] 0, 0) := create_new 1125899906842624 nmL rnL
  rw [ec] at aC
  have H2 := hid (And.intro (H1.out.2.1.trans k2 (by simp)) H1.out.2.2)
  clear aV k2 H1 ec
  go_wp2_with fail
  refine aC.out.mono ?_
  intro e w3 hO
  obtain ⟨p, v, B, xs, rfl, hLD, _, _⟩ := LD.ofOpn (w0 := w) hO rfl H2.out.1 H2.out.2
  dsimp only at hLD ⊢
  have hI0 := hid hLD
  clear aC hO hLD H2
  go_wp2_with fail
  go_loopw [9, 33, 39] (fun _ i _ wn => ∃ (j : Nat) (xs : List Ent) (s k : Nat) (B : Nat → Prop) (v : Value) (Rc : List (List UInt8)), j ≤ L.length ∧ i = .int .i64 j ∧ s ≤ 2 + 2 * j ∧ Rc.length ≤ ((L.take j).map bulkL).sum ∧ Hid (LD w wn p dp mb xs (oneD 1125899906842624 s nmL (allB (fl ((RsL L).take j))) k) nmL B v Rc ((allB (fl ((RsL L).take j))).length : Int))) (fun _ i _ _ => L.length - (intOf i).toNat)
  case atStart => exact ⟨0, xs, 2, 0, B, v, [], Nat.zero_le _, rfl, by omega, by simp, by simpa [fl, allB] using hI0⟩
  case round =>
    obtain ⟨j, xs, s, k, B, v, Rc, hj, rfl, hsj, hRj, HI⟩ := hrel
    clear hI0
    have hxl := hFl.out j
    have hst := sum_take_le L j
    by_cases hlt : j < L.length
    · obtain ⟨⟨g, o, ea, cL⟩, hAq, hyl⟩ := hcl.out j hlt _ HI.out.kp
      have hAr := hAq (fun k => k ∈ foot dp mb xs ∨ k = p ∨ B k) (fun k hk => by
        rcases hk with h | h | h
        · exact HI.out.lf k h
        · rw [h]; exact HI.out.lp
        · exact (HI.out.lb k h).1)
      have hss : ((L.take (j + 1)).map bulkL).sum = ((L.take j).map bulkL).sum + bulkL L[j] := by rw [List.take_succ_eq_append_getElem hlt, List.map_append, List.sum_append]; simp
      have hsb := sumB_bulk L[j].l
      have hbe : bulkL L[j] = (L[j].l.map fun y => y.bs.length + 1).sum := rfl
      rw [← hbe] at hsb
      have hsn := RsL_take hlt
      have hfs := fl_snoc ((RsL L).take j) (bsl L[j].l)
      have hx2 := hFl.out (j + 1)
      rw [← hsn] at hfs
      obtain ⟨Y, hY⟩ : ∃ Y, L[j] = Y := ⟨_, rfl⟩
      rw [hY] at cL hAr hfs hyl hss hsb
      obtain ⟨ya, yc, yl⟩ := Y
      dsimp only at cL hAr hfs hyl hsb
      obtain ⟨x, hx⟩ : ∃ x, Hid (allB (fl ((RsL L).take j)) = x) := ⟨_, rfl⟩
      rw [hx.out] at HI hxl
      have aA := hid (HI.out.app (by simp only [oneD]; omega) (by simp [oneD]) (small_one (by omega)) (by unfold maxLen; simp [nmL]) (by rw [file_one]; simp only; omega) (by omega) (by omega) ya yc yl hAr ht'.out)
      have hnext : Hid (∀ wn, AppLD w p dp mb xs (oneD 1125899906842624 s nmL x k) nmL B v Rc (x.length : Int) (bsl yl) wr (.returned (.int .i64 (appQ (oneD 1125899906842624 s nmL x k) nmL (bsl yl)).2)) wn → ∃ (xs : List Ent) (s k : Nat) (B : Nat → Prop) (v : Value) (Rc : List (List UInt8)), s ≤ 2 + 2 * (j + 1) ∧ Rc.length ≤ ((L.take (j + 1)).map bulkL).sum ∧ Hid (LD w wn p dp mb xs (oneD 1125899906842624 s nmL (allB (fl ((RsL L).take (j + 1)))) k) nmL B v Rc ((allB (fl ((RsL L).take (j + 1)))).length : Int))) := fun wn hA => by
        obtain ⟨_, xs', _, h1, h2⟩ := hA
        cases hor : okR (bsl yl) with
        | true =>
          rw [hfs, if_pos hor, allB_snoc, hx.out] at hx2 ⊢
          obtain ⟨ho, -⟩ := app_one 1125899906842624 s nmL x k rnL (bsl yl) (by rw [List.length_append] at hx2; omega)
          obtain ⟨e1, e2⟩ := ho hor
          rw [e1, e2] at h2
          obtain ⟨v', B', hl⟩ := h2 rfl
          refine ⟨xs', s + 2, (x ++ frB (bsl yl)).length, B', v', Rc ++ bsl yl, by omega, by rw [List.length_append, bsl_len, hss]; omega, ?_⟩
          rw [show (((x ++ frB (bsl yl)).length : Nat) : Int) = (x.length : Int) + ((frB (bsl yl)).length : Int) by rw [List.length_append]; omega]
          exact hl
        | false =>
          rw [hfs, if_neg (by simp [hor]), hx.out]
          have hnf : x.length + (frB (bsl yl)).length ≤ 1125899906842624 := by
            have hb := bulk_mem (List.getElem_mem hlt)
            have := frB_len L[j]
            rw [hY] at this hb
            dsimp only at this
            omega
          obtain ⟨-, ho⟩ := app_one 1125899906842624 s nmL x k rnL (bsl yl) hnf
          obtain ⟨e1, e2⟩ := ho hor
          rw [e1] at h1 h2
          by_cases h0 : (appQ (oneD 1125899906842624 s nmL x k) nmL (bsl yl)).2 = 0
          · obtain ⟨e3, e4⟩ := e2 h0
            obtain ⟨v', B', hl⟩ := h2 h0
            rw [e4] at hl
            refine ⟨xs', s, k, B', v', Rc ++ bsl yl, by omega, by rw [e3, List.append_nil, hss]; omega, ?_⟩
            rw [Int.add_zero] at hl
            exact hl
          · exact ⟨xs', s, k, B, v, Rc, by omega, by rw [hss]; omega, h1 h0⟩
      have hfst := hid (aA.out.mono (fun e w' (h : AppLD w p dp mb xs (oneD 1125899906842624 s nmL x k) nmL B v Rc (x.length : Int) (bsl yl) wr e w') => And.intro h.1 h))
      clear hAq hAr hsn hfs hx2 hY aA hss hsb hbe
      subst ea
      have dj1 : (j : Int) < (L.length : Int) := by omega
      have dj0 : (0 : Int) ≤ (j : Int) := by omega
      have dj7 : (-9223372036854775808 : Int) ≤ (j : Int) + 1 := by omega
      have dj8 : (j : Int) + 1 ≤ 9223372036854775807 := by omega
      go_wp2_with fail
      refine hfst.out.mono ?_
      rintro e w4 ⟨rfl, h4⟩
      obtain ⟨xs', s', k', B', v', Rc', g1, g2, g3⟩ := hnext.out w4 h4
      clear hfst h4 hnext
      go_wp2_with fail
      go_roundw
      case rel => exact ⟨j + 1, xs', s', k', B', v', Rc', by omega, by simp, by omega, g2, g3⟩
      case measure => simp [intOf]; omega
    · have dj2 : decide ((j : Int) < (L.length : Int)) = false := by simp; omega
      have hjl : (RsL L).take j = RsL L := List.take_of_length_le (by rw [RsL_len]; omega)
      rw [hjl] at HI hxl
      obtain ⟨x, hx⟩ : ∃ x, Hid (allB (fl (RsL L)) = x) := ⟨_, rfl⟩
      have hsp : Hid (∀ i b : Nat, i < x.length → b ≤ 7 → rdQ (flipB x i b) = ([], 0, 91)) := fun i b h1 h2 => by
        rw [← hx.out] at h1 ⊢
        exact flip_turned (fl (RsL L)) (fun R hR => fl_ok hR) i b h1 h2
      rw [hx.out] at HI hxl
      have aR := hid (cRead HI.out.disk (small_one (by omega)) nmL (by unfold maxLen; simp [nmL]))
      have hlk : lookG Fl.name nmL (oneD 1125899906842624 s nmL x k).files = some ⟨nmL, x, k⟩ := by simp [lookG, oneD]
      rw [hlk] at aR
      have aR' : Hid (Calls Tryd.prog 22 #[.pointer (some ⟨dp, 0, none⟩), .string ⟨nmL.toArray⟩] wr fun e w' => ∃ a c, e = .returned (.tuple #[.slice a x.length c, .bool true]) ∧ Row w' (.slice a x.length c) x ∧ Kp [] wr w' ∧ ∀ k ∈ blk a, wr.heap.size ≤ k) := aR
      clear hlk aR hjl hcl hFl
      go_wp2_with fail
      refine aR'.out.mono ?_
      rintro e w5 ⟨b5, c5, rfl, _, k5, _⟩
      have HI5 := hid (HI.out.keep k5)
      have aS := hid (cSizeQ HI5.out.log)
      clear aR' k5 HI
      go_wp2_with fail
      refine aS.out.mono ?_
      rintro e w5 ⟨rfl, rfl⟩
      have i1 : ((x.length : Int) != (x.length : Int)) = false := by simp
      have i2 : ((x.length : Int) == (x.length : Int)) = true := by simp
      by_cases ha : at' < 0
      · have d0 : decide (at' < 0) = true := by simpa using ha
        go_wp2_with fail
        refine aS.out.mono ?_
        rintro e w5 ⟨rfl, rfl⟩
        go_wp2_with fail
        go_ret
        exact ⟨rfl, HI5.out.kp.below⟩
      · have d0 : decide (at' < 0) = false := by simpa using ha
        obtain ⟨n0, rfl⟩ := Int.eq_ofNat_of_zero_le (show (0 : Int) ≤ at' by omega)
        have aF := hid (cFlip HI5.out.disk (small_one (by omega)) nmL (by unfold maxLen; simp [nmL]) ((n0 : Int) / 8) ((n0 : Int) % 8) (by omega) (by omega) (by omega) (by omega))
        obtain ⟨f1, f2⟩ := flip_one 1125899906842624 s nmL x k ((n0 : Int) / 8) ((n0 : Int) % 8)
        by_cases hf : (n0 : Int) / 8 < (x.length : Int)
        · have fo : flipOk (oneD 1125899906842624 s nmL x k) nmL ((n0 : Int) / 8) ((n0 : Int) % 8) = true := by
            rw [f1]
            simp only [Bool.and_eq_true, decide_eq_true_eq]
            refine ⟨⟨⟨?_, hf⟩, ?_⟩, ?_⟩ <;> omega
          rw [fo, f2 fo] at aF
          have hrd := hsp.out ((n0 : Int) / 8).toNat ((n0 : Int) % 8).toNat (by omega) (by omega)
          have hfl6 : (flipB x ((n0 : Int) / 8).toNat ((n0 : Int) % 8).toNat).length = x.length := by unfold flipB; rw [List.length_set]
          obtain ⟨y, hy⟩ : ∃ y, flipB x ((n0 : Int) / 8).toNat ((n0 : Int) % 8).toNat = y := ⟨_, rfl⟩
          rw [hy] at aF hrd hfl6
          have HRD := hid hrd
          have hfl7 := hid hfl6
          clear f1 f2 fo hf hy hrd hfl6 aS
          go_wp2_with fail
          refine aF.out.mono ?_
          rintro e w6 ⟨rfl, xs6, hD6, m6⟩
          have kw6 : Kp [] w w6 := HI5.out.kp.trans m6.kp (fun q hq => .inr (HI5.out.lf q hq))
          have aO := hid (cOpen hD6 (by simp only [oneD]; omega) (small_one (by rw [hfl7.out]; omega)) nmL (by unfold maxLen; simp [nmL]) (ht'.out.kept kw6 (by simp)) (by rw [file_one]; simp only; rw [hfl7.out]; omega))
          rw [open_spoilt _ _ _ _ _ HRD.out] at aO
          have HF6 := hid (And.intro kw6 (fun q (hq : q ∈ foot dp mb xs6) => by rcases m6.new q hq with h | h; exact HI5.out.lf q h; have := HI5.out.kp.size; omega : ∀ q ∈ foot dp mb xs6, w.heap.size ≤ q))
          clear aF hD6 m6 kw6
          go_wp2_with fail
          refine aO.out.mono ?_
          rintro e w7 ⟨v0, xs7, rfl, _, m7, h7, _⟩
          have ev := h7 (by simp)
          subst ev
          have HK7 := hid (HF6.out.1.trans m7.kp (fun q hq => .inr (HF6.out.2 q hq)))
          clear aO m7 h7 HF6
          go_wp2_with fail
          go_ret
          exact ⟨rfl, HK7.out.below⟩
        · have fo : flipOk (oneD 1125899906842624 s nmL x k) nmL ((n0 : Int) / 8) ((n0 : Int) % 8) = false := by
            rw [f1]
            simp [hf]
          rw [fo, flip_not fo] at aF
          clear f1 f2 fo hf aS
          go_wp2_with fail
          refine aF.out.mono ?_
          rintro e w6 ⟨rfl, xs6, hD6, m6⟩
          have aS2 := hid (cSizeQ (HI5.out.log.kept m6.kp (fun hm => (HI5.out.sep p hm).2 rfl) (fun q hq => (HI5.out.sep q hq).1)))
          have HK6 := hid (HI5.out.kp.trans m6.kp (fun q hq => .inr (HI5.out.lf q hq)))
          clear aF hD6 m6
          go_wp2_with fail
          refine aS2.out.mono ?_
          rintro e w6 ⟨rfl, rfl⟩
          clear aS2
          go_wp2_with fail
          go_ret
          exact ⟨rfl, HK6.out.below⟩
end Go.Proofs.YtfpmolajpmljmaaDoor
end

section
namespace Go.Proofs.YtfpmolajpmljmaaDoor
open Go.RowKit Go.Hay
set_option linter.unusedVariables false
set_option linter.unusedSimpArgs false

theorem rdQ_all : ∀ (l : List (List (List UInt8))), (∀ R ∈ l, (recB R).length ≤ 16777216) → rdQ (allB l) = (l.flatten, (allB l).length, 0)
  | [], _ => rfl
  | R :: l, h => by
    have e : allB (R :: l) = frB R ++ allB l := by simp [allB]
    rw [e]
    unfold frB
    rw [rdQ_frame R (h R (by simp)), rdQ_all l (fun x hx => h x (by simp [hx]))]
    simp [finQ]
/-- One record of those that fit into a frame fits into one. -/
theorem rec_one {R : List (List UInt8)} (h : (recB R).length ≤ 16777216) {b : List UInt8} (hb : b ∈ R) : (recB [b]).length ≤ 16777216 := by
  have e : recB R = varB R.length ++ R.flatMap textB := rfl
  have e1 : recB [b] = varB 1 ++ textB b := by simp [recB]
  have hv1 : (varB 1).length = 1 := by decide
  have hv := (varB_length R.length).2
  rw [e, List.length_append] at h
  rw [e1, List.length_append, hv1]
  have key : ∀ S : List (List UInt8), b ∈ S → (textB b).length ≤ (S.flatMap textB).length := by
    intro S
    induction S with
    | nil => intro h; cases h
    | cons x S ih =>
      intro h
      have e2 : ((x :: S).flatMap textB).length = (textB x).length + (S.flatMap textB).length := by simp
      rw [e2]
      rcases List.mem_cons.1 h with rfl | h
      · omega
      · have := ih h; omega
  have := key R hb
  omega
/-- The blocks of a log and its disk. -/
def InL (p dp mb : Nat) (xs : List Ent) (B : Nat → Prop) : Nat → Prop := fun k => k ∈ foot dp mb xs ∨ k = p ∨ B k
theorem LD.inLt {w0 w : World} {p dp mb : Nat} {xs : List Ent} {d : Dk} {nm : List UInt8} {B : Nat → Prop} {v : Value} {L : List (List UInt8)} {sz : Int} (h : LD w0 w p dp mb xs d nm B v L sz) {k : Nat} (hk : InL p dp mb xs B k) : k < w.heap.size ∧ w0.heap.size ≤ k := by
  rcases hk with hk | rfl | hk
  · exact ⟨h.disk.lt k hk, h.lf k hk⟩
  · exact ⟨h.log.box.lt, h.lp⟩
  · exact ⟨(h.lb k hk).2, (h.lb k hk).1⟩
theorem LD.stay {w0 w w' : World} {p dp mb : Nat} {xs : List Ent} {d : Dk} {nm : List UInt8} {B : Nat → Prop} {v : Value} {L : List (List UInt8)} {sz : Int} (h : LD w0 w p dp mb xs d nm B v L sz) {S : List Nat} (k : Kp S w w') (hS : ∀ j ∈ S, ¬ InL p dp mb xs B j ∧ w0.heap.size ≤ j) : LD w0 w' p dp mb xs d nm B v L sz :=
  ⟨h.log.kept k (fun hm => (hS p hm).1 (.inr (.inl rfl))) (fun j hj hb => (hS j hj).1 (.inr (.inr hb))), h.disk.kept k (fun j hj hm => (hS j hm).1 (.inl hj)), h.sep, h.lf, fun j hj => ⟨(h.lb j hj).1, by have := (h.lb j hj).2; have := k.size; omega⟩, h.lp, h.kp.trans k (fun j hj => .inr (hS j hj).2)⟩
/-- Append, of such; where its blocks come from. -/
def AppL2 (w0 : World) (p dp mb : Nat) (xs : List Ent) (d : Dk) (nm : List UInt8) (B : Nat → Prop) (v : Value) (L : List (List UInt8)) (sz : Int) (R : List (List UInt8)) (w : World) (e : Ending) (w' : World) : Prop :=
  e = .returned (.int .i64 (appQ d nm R).2) ∧ Kp (p :: own v ++ foot dp mb xs) w w' ∧ ((appQ d nm R).2 ≠ 0 → Kp [] w0 w') ∧ ((appQ d nm R).2 = 0 → ∃ xs' v' B', LD w0 w' p dp mb xs' (appQ d nm R).1 nm B' v' (L ++ R) (sz + appS R) ∧ ∀ k, InL p dp mb xs' B' k → InL p dp mb xs B k ∨ w.heap.size ≤ k)
theorem LD.app2 {w0 w : World} {p dp mb : Nat} {xs : List Ent} {d : Dk} {nm : List UInt8} {B : Nat → Prop} {v : Value} {L : List (List UInt8)} {sz : Int} (h : LD w0 w p dp mb xs d nm B v L sz)
    (hs : d.steps < 7000000000000000000) (hN : d.files.length < 7000000000000000000) (hB : Small d) (hk : nm.length ≤ maxLen) (hfl : (fileOf d.files nm).bytes.length ≤ 140737400000000) (hLl : L.length ≤ 900000000000) (hsz : 0 ≤ sz ∧ sz ≤ 8000000000000000000)
    (a : Option Addr) (c : Nat) (R : List Bs) (hR : ArgQ w a R (InL p dp mb xs B)) (hTb : Tab w0) :
    Calls Tryd.prog 18 #[.pointer (some ⟨p, 0, none⟩), .slice a R.length c] w (AppL2 w0 p dp mb xs d nm B v L sz (bsl R) w) := by
  have h00 := hTb.1
  refine (cAppendL h.log h.disk h.sep (fun k hk => (h.lb k hk).2) hs hN hB hk hfl hLl hsz a c R hR (hTb.kept h.kp (by simp)) ⟨fun hm => by have := h.lf 0 hm; omega, by have := h.lp; omega, fun hb => by have := (h.lb 0 hb).1; omega⟩).mono ?_
  rintro e w' ⟨he, xs', hD', k', hf', h1, h2⟩
  have kw : Kp [] w0 w' := h.kp.trans k' (fun x hx => .inr (h.own x hx))
  have hz := h.kp.size
  have hz' := k'.size
  have hlf : ∀ k ∈ foot dp mb xs', w0.heap.size ≤ k := fun k hk => by rcases hf' k hk with hh | hh; exact h.lf k hh; omega
  refine ⟨he, k', fun _ => kw, fun h0 => ?_⟩
  obtain ⟨v', B', hl, hb, hsp⟩ := h2 h0
  refine ⟨xs', v', B', ⟨hl, hD', hsp, hlf, fun k hk => by rcases hb k hk with hh | hh; exact ⟨(h.lb k hh).1, by have := (h.lb k hh).2; omega⟩; exact ⟨by omega, hh.2⟩, h.lp, kw⟩, fun k hk => ?_⟩
  rcases hk with hk | rfl | hk
  · rcases hf' k hk with hh | hh
    · exact .inl (.inl hh)
    · exact .inr hh
  · exact .inl (.inr (.inl rfl))
  · rcases hb k hk with hh | hh
    · exact .inl (.inr (.inr hh))
    · exact .inr hh.1
/-- Create and Open, with where the blocks come from. -/
theorem LD.ofOpn2 {w0 w w' : World} {dp mb : Nat} {xs : List Ent} {r : Dk × Int} {nm : List UInt8} {L : List (List UInt8)} {sz : Int} {e : Ending} (h : OpnP dp mb xs r nm L sz w e w') (h0 : r.2 = 0) (hk : Kp [] w0 w) (hf : ∀ k ∈ foot dp mb xs, w0.heap.size ≤ k) :
    ∃ p v B xs', e = .returned (.tuple #[.pointer (some ⟨p, 0, none⟩), .int .i64 r.2]) ∧ LD w0 w' p dp mb xs' r.1 nm B v L sz ∧ Mv (foot dp mb xs) w (foot dp mb xs') w' ∧ ∀ k, InL p dp mb xs' B k → k ∈ foot dp mb xs ∨ w.heap.size ≤ k := by
  obtain ⟨v0, xs', he, hD', m, _, h2⟩ := h
  obtain ⟨p, v, B, rfl, hl, hp, hb, hsp⟩ := h2 h0
  have hz := hk.size
  refine ⟨p, v, B, xs', he, ⟨hl, hD', hsp, fun k hk' => ?_, fun k hk' => ⟨by have := (hb k hk').1; omega, (hb k hk').2⟩, by omega, hk.trans m.kp (fun x hx => .inr (hf x hx))⟩, m, fun k hk' => ?_⟩
  · rcases m.new k hk' with h | h
    · exact hf k h
    · omega
  · rcases hk' with h | rfl | h
    · exact m.new k h
    · exact .inr hp
    · exact .inr (hb k h).1
/-- Two of them, apart. -/
structure Two (w W : World) (p1 dp1 mb1 p2 dp2 mb2 : Nat) (xs1 xs2 : List Ent) (d1 d2 : Dk) (nm : List UInt8) (B1 B2 : Nat → Prop) (v1 v2 : Value) (L1 L2 : List (List UInt8)) (z1 z2 : Int) : Prop where
  a : LD w W p1 dp1 mb1 xs1 d1 nm B1 v1 L1 z1
  b : LD w W p2 dp2 mb2 xs2 d2 nm B2 v2 L2 z2
  ap : ∀ k, InL p1 dp1 mb1 xs1 B1 k → ¬ InL p2 dp2 mb2 xs2 B2 k
theorem setInLD {w0 w : World} {p dp mb : Nat} {xs : List Ent} {d : Dk} {nm : List UInt8} {B : Nat → Prop} {v : Value} {L : List (List UInt8)} {sz : Int} (h : LD w0 w p dp mb xs d nm B v L sz) : ∀ k ∈ p :: own v ++ foot dp mb xs, InL p dp mb xs B k := fun k hk => by
  simp only [List.cons_append, List.mem_cons, List.mem_append] at hk
  rcases hk with rfl | hk | hk
  · exact .inr (.inl rfl)
  · exact .inr (.inr (h.log.row.from k hk))
  · exact .inl hk
theorem Two.keep {w W W' : World} {p1 dp1 mb1 p2 dp2 mb2 : Nat} {xs1 xs2 : List Ent} {d1 d2 : Dk} {nm : List UInt8} {B1 B2 : Nat → Prop} {v1 v2 : Value} {L1 L2 : List (List UInt8)} {z1 z2 : Int} (h : Two w W p1 dp1 mb1 p2 dp2 mb2 xs1 xs2 d1 d2 nm B1 B2 v1 v2 L1 L2 z1 z2) (k : Kp [] W W') : Two w W' p1 dp1 mb1 p2 dp2 mb2 xs1 xs2 d1 d2 nm B1 B2 v1 v2 L1 L2 z1 z2 := ⟨h.a.keep k, h.b.keep k, h.ap⟩
theorem Two.appA {w W W' : World} {p1 dp1 mb1 p2 dp2 mb2 : Nat} {xs1 xs2 xs1' : List Ent} {d1 d2 d1' : Dk} {nm : List UInt8} {B1 B2 B1' : Nat → Prop} {v1 v2 v1' : Value} {L1 L2 L1' : List (List UInt8)} {z1 z2 z1' : Int} (h : Two w W p1 dp1 mb1 p2 dp2 mb2 xs1 xs2 d1 d2 nm B1 B2 v1 v2 L1 L2 z1 z2) (k : Kp (p1 :: own v1 ++ foot dp1 mb1 xs1) W W') (hl : LD w W' p1 dp1 mb1 xs1' d1' nm B1' v1' L1' z1') (hi : ∀ k, InL p1 dp1 mb1 xs1' B1' k → InL p1 dp1 mb1 xs1 B1 k ∨ W.heap.size ≤ k) :
    Two w W' p1 dp1 mb1 p2 dp2 mb2 xs1' xs2 d1' d2 nm B1' B2 v1' v2 L1' L2 z1' z2 :=
  ⟨hl, h.b.stay k (fun j hj => ⟨h.ap j (setInLD h.a j hj), h.a.own j hj⟩), fun j hj hj2 => by
    rcases hi j hj with e | e
    · exact h.ap j e hj2
    · have := (h.b.inLt hj2).1; omega⟩
theorem Two.appB {w W W' : World} {p1 dp1 mb1 p2 dp2 mb2 : Nat} {xs1 xs2 xs2' : List Ent} {d1 d2 d2' : Dk} {nm : List UInt8} {B1 B2 B2' : Nat → Prop} {v1 v2 v2' : Value} {L1 L2 L2' : List (List UInt8)} {z1 z2 z2' : Int} (h : Two w W p1 dp1 mb1 p2 dp2 mb2 xs1 xs2 d1 d2 nm B1 B2 v1 v2 L1 L2 z1 z2) (k : Kp (p2 :: own v2 ++ foot dp2 mb2 xs2) W W') (hl : LD w W' p2 dp2 mb2 xs2' d2' nm B2' v2' L2' z2') (hi : ∀ k, InL p2 dp2 mb2 xs2' B2' k → InL p2 dp2 mb2 xs2 B2 k ∨ W.heap.size ≤ k) :
    Two w W' p1 dp1 mb1 p2 dp2 mb2 xs1 xs2' d1 d2' nm B1 B2' v1 v2' L1 L2' z1 z2' :=
  ⟨h.a.stay k (fun j hj => ⟨fun h1 => h.ap j h1 (setInLD h.b j hj), h.b.own j hj⟩), hl, fun j hj hj2 => by
    rcases hi j hj2 with e | e
    · exact h.ap j hj e
    · have := (h.a.inLt hj).1; omega⟩
/-- Records one by one. -/
def sg (l : List (List (List UInt8))) : List (List (List UInt8)) := l.flatMap fun R => R.map fun r => [r]
theorem sg_flat (l : List (List (List UInt8))) : (sg l).flatten = l.flatten := by
  induction l with
  | nil => rfl
  | cons R l ih =>
    have e : sg (R :: l) = R.map (fun r => [r]) ++ sg l := by simp [sg]
    have e2 : ∀ S : List (List UInt8), (S.map fun r => [r]).flatten = S := by
      intro S
      induction S with
      | nil => rfl
      | cons x S ih => simp only [List.map_cons, List.flatten_cons, ih]; rfl
    rw [e, List.flatten_append, e2, ih, List.flatten_cons]
theorem fl_flat (l : List (List (List UInt8))) (h : ∀ R ∈ l, R = [] ∨ okR R = true) : (fl l).flatten = l.flatten := by
  induction l with
  | nil => rfl
  | cons R l ih =>
    have e : fl (R :: l) = if okR R = true then R :: fl l else fl l := by unfold fl; rw [List.filter_cons]
    have ih' := ih (fun x hx => h x (by simp [hx]))
    rw [e, List.flatten_cons]
    rcases h R (by simp) with rfl | ho
    · have : okR [] = false := by simp [okR]
      rw [this]; simpa using ih'
    · rw [if_pos ho, List.flatten_cons, ih']
theorem sg_snoc (l : List (List (List UInt8))) (R : List (List UInt8)) : sg (l ++ [R]) = sg l ++ R.map fun r => [r] := by simp [sg]
end Go.Proofs.YtfpmolajpmljmaaDoor
end

section
namespace Go.Proofs.YtfpmolajpmljmaaDoor
open Go.RowKit Go.Hay
set_option linter.unusedVariables false
set_option linter.unusedSimpArgs false

/-- A disk of one file, armed or dead. -/
def oneX (r s : Nat) (nm x : List UInt8) (k : Nat) (t : Option Nat) (dd : Bool) : Dk := ⟨r, s, [⟨nm, x, k⟩], t, dd⟩
theorem look_X (r s : Nat) (nm x : List UInt8) (k : Nat) (t : Option Nat) (dd : Bool) : lookG Fl.name nm (oneX r s nm x k t dd).files = some ⟨nm, x, k⟩ := by simp [lookG, oneX]
theorem file_X (r s : Nat) (nm x : List UInt8) (k : Nat) (t : Option Nat) (dd : Bool) : fileOf (oneX r s nm x k t dd).files nm = ⟨nm, x, k⟩ := by simp [fileOf, lookG, oneX]
theorem put_X (nm x y : List UInt8) (k m : Nat) : putG Fl.name ⟨nm, y, m⟩ false [⟨nm, x, k⟩] = [⟨nm, y, m⟩] := by
  simp [putG]
  cases leN nm nm <;> rfl
theorem small_X {r s : Nat} {nm x : List UInt8} {k : Nat} {t : Option Nat} {dd : Bool} (h : x.length ≤ 140737488355328) : Small (oneX r s nm x k t dd) := fun f hf => by simp [oneX] at hf; subst hf; exact h
theorem step_X (r s : Nat) (nm x : List UInt8) (k : Nat) (t : Option Nat) : stepD (oneX r s nm x k t false) = if t = some 0 then (oneX r (s + 1) nm x k t true, true) else (oneX r (s + 1) nm x k (t.map (· - 1)) false, false) := by
  unfold stepD oneX
  split <;> rfl
theorem sync_X (r s : Nat) (nm x : List UInt8) (k : Nat) (t : Option Nat) : doD (oneX r s nm x k t false) 1 nm [] 0 = if t = some 0 then (oneX r (s + 1) nm x k t true, 44) else (oneX r (s + 1) nm x x.length (t.map (· - 1)) false, 0) := by
  have hr : refusedD (oneX r s nm x k t false) 1 nm [] 0 = 0 := by unfold refusedD; rw [look_X]; simp [oneX]
  have hc : changedF (oneX r s nm x k t false).files 1 nm [] 0 = [⟨nm, x, x.length⟩] := by
    unfold changedF
    rw [if_pos rfl, file_X]
    exact put_X _ _ _ _ _
  unfold doD
  rw [hr, if_neg (by simp), step_X, hc]
  split <;> rfl
theorem trunc_X (r s : Nat) (nm x : List UInt8) (k n : Nat) (hn : n ≤ x.length) (t : Option Nat) : doD (oneX r s nm x k t false) 2 nm [] n = if t = some 0 then (oneX r (s + 1) nm x k t true, 44) else (oneX r (s + 1) nm (x.take n) (min k n) (t.map (· - 1)) false, 0) := by
  have hr : refusedD (oneX r s nm x k t false) 2 nm [] n = 0 := by
    unfold refusedD
    rw [look_X]
    simp [oneX]
    omega
  have hc : changedF (oneX r s nm x k t false).files 2 nm [] n = [⟨nm, x.take n, min k n⟩] := by
    unfold changedF
    rw [if_neg (by decide), if_pos rfl, file_X]
    simpa [oneX] using put_X nm x (x.take n) k (min k n)
  unfold doD
  rw [hr, if_neg (by simp), step_X, hc]
  split <;> rfl
theorem append_X (r s : Nat) (nm x b : List UInt8) (k : Nat) (t : Option Nat) (hn : nameOk nm = true) (h : x.length + b.length ≤ r) : appendD (oneX r s nm x k t false) nm b = if t = some 0 then (oneX r (s + 1) nm (x ++ b) k t true, 44) else (oneX r (s + 1) nm (x ++ b) k (t.map (· - 1)) false, 0) := by
  have hg : grownF (oneX r s nm x k t false).files nm b = [⟨nm, x ++ b, k⟩] := by
    unfold grownF
    rw [file_X]
    exact put_X _ _ _ _ _
  unfold appendD
  rw [if_neg (by simp [oneX]), if_neg (by simp [hn]), if_neg (by simp [freeD, oneX, sumF]; omega), hg]
  have e : ({ oneX r s nm x k t false with files := [⟨nm, x ++ b, k⟩] } : Dk) = oneX r s nm (x ++ b) k t false := rfl
  rw [e, step_X]
  split <;> rfl
/-- What is written: whole; or the disk is dead, and of what is new no byte is sure to last. -/
theorem write_X (r s : Nat) (nm x b : List UInt8) (t : Nat) (hn : nameOk nm = true) (h : x.length + b.length ≤ r) :
    (∃ s' t', s' ≤ s + 2 ∧ writeD (oneX r s nm x x.length (some t) false) nm b = (oneX r s' nm (x ++ b) (x ++ b).length (some t') false, 0)) ∨
    ∃ s' t', s' ≤ s + 2 ∧ writeD (oneX r s nm x x.length (some t) false) nm b = (oneX r s' nm (x ++ b) x.length (some t') true, 44) := by
  unfold writeD
  rw [append_X _ _ _ _ _ _ _ hn h]
  by_cases h0 : t = 0
  · subst h0
    rw [if_pos rfl]
    exact .inr ⟨s + 1, 0, by omega, by simp⟩
  · rw [if_neg (by simp [h0])]
    rw [if_neg (by simp [h0])]
    simp only [Option.map_some]
    rw [sync_X]
    by_cases h1 : t = 1
    · subst h1
      exact .inr ⟨s + 2, 0, by omega, by simp⟩
    · rw [if_neg (by simp; omega)]
      exact .inl ⟨s + 2, t - 1 - 1, by omega, by simp⟩
theorem crash_X (r s : Nat) (nm x b : List UInt8) (t : Option Nat) (dd : Bool) (ks : List Int) : ∃ m, crashD (oneX r s nm (x ++ b) x.length t dd) ks = oneX r 0 nm (x ++ b.take m) (x ++ b.take m).length none false := by
  have key : ∀ k : Int, ∃ m, keptF ⟨nm, x ++ b, x.length⟩ k = ⟨nm, x ++ b.take m, (x ++ b.take m).length⟩ := fun k => by
    refine ⟨min k.toNat b.length, ?_⟩
    unfold keptF
    simp only [List.length_append, Nat.add_sub_cancel_left, List.length_take]
    rw [List.take_length_add_append]
    congr 1
    omega
  cases ks with
  | nil =>
    obtain ⟨m, hm⟩ := key 0
    exact ⟨m, by simp [crashD, crashF, oneX, hm]⟩
  | cons k ks =>
    obtain ⟨m, hm⟩ := key k
    exact ⟨m, by simp [crashD, crashF, oneX, hm]⟩
/-- What a file tells, also when what is torn is taken away. -/
structure Tells (y : List UInt8) (M : List (List UInt8)) : Prop where
  e : (rdQ y).2.2 = 0
  m : (rdQ y).1 = M
  n : (rdQ y).2.1 ≤ y.length
  c : rdQ (y.take (rdQ y).2.1) = (M, (rdQ y).2.1, 0)
theorem tells_all (l : List (List (List UInt8))) (h : ∀ R ∈ l, (recB R).length ≤ 16777216) : Tells (allB l) l.flatten := by
  have e := rdQ_all l h
  refine ⟨by rw [e], by rw [e], by rw [e]; exact Nat.le_refl _, ?_⟩
  rw [e]
  dsimp only
  rw [List.take_length, e]
theorem torn_all : ∀ (l : List (List (List UInt8))) (c : Nat), (allB l).length ≤ c → torn l c = (l.flatten, (allB l).length)
  | [], c, h => rfl
  | R :: l, c, h => by
    have e : allB (R :: l) = frB R ++ allB l := by simp [allB]
    rw [e, List.length_append] at h
    unfold torn
    rw [if_pos (by omega), torn_all l _ (by omega), e, List.length_append, List.flatten_cons]
theorem tells_torn (l : List (List (List UInt8))) (R : List (List UInt8)) (h : ∀ R ∈ l, (recB R).length ≤ 16777216) (hR : (recB R).length ≤ 16777216) (m : Nat) :
    Tells (allB l ++ (frB R).take m) l.flatten ∨ Tells (allB l ++ (frB R).take m) (l.flatten ++ R) := by
  have ha : ∀ S ∈ l ++ [R], (recB S).length ≤ 16777216 := fun S hS => by
    rcases List.mem_append.1 hS with h1 | h1
    · exact h S h1
    · simp at h1; subst h1; exact hR
  have e : allB l ++ (frB R).take m = (allB (l ++ [R])).take ((allB l).length + m) := by rw [allB_snoc, List.take_length_add_append]
  have et := rdQ_torn (l ++ [R]) ((allB l).length + m) ha
  rw [← e, torn_snoc, torn_all l _ (by omega)] at et
  by_cases hm : (allB (l ++ [R])).length ≤ (allB l).length + m
  · right
    have e2 : allB l ++ (frB R).take m = allB (l ++ [R]) := by rw [e]; exact List.take_of_length_le hm
    rw [e2]
    have := tells_all (l ++ [R]) ha
    simpa using this
  · left
    rw [if_neg hm] at et
    refine ⟨by rw [et], by rw [et], by rw [et]; simp, ?_⟩
    rw [et]
    dsimp only
    rw [List.take_left' rfl, rdQ_all l h]
theorem Tells.cut {y : List UInt8} {M : List (List UInt8)} (h : Tells y M) : Tells (y.take (rdQ y).2.1) M := by
  have e := h.c
  have hn := h.n
  refine ⟨by rw [e], by rw [e], by rw [e]; simp; omega, ?_⟩
  rw [e]
  dsimp only
  rw [List.take_take, Nat.min_self, e]
/-- Open of what a crash left, armed or not. -/
theorem open_X (r s : Nat) (nm y : List UInt8) (t : Option Nat) {M : List (List UInt8)} (h : Tells y M) :
    (∃ s' t' y' k', s' ≤ s + 2 ∧ openD rdQ (oneX r s nm y y.length t false) nm = (oneX r s' nm y' k' t' false, 0) ∧ y'.length ≤ y.length) ∨
    ∃ s' t' y', t ≠ none ∧ s' ≤ s + 2 ∧ openD rdQ (oneX r s nm y y.length t false) nm = (oneX r s' nm y' y'.length t' true, 44) ∧ Tells y' M ∧ y'.length ≤ y.length := by
  have hn := h.n
  unfold openD
  rw [if_neg (by simp [oneX]), look_X]
  dsimp only
  rw [if_neg (by simp [h.e])]
  by_cases hl : (rdQ y).2.1 < y.length
  · rw [if_pos hl, trunc_X _ _ _ _ _ _ hn]
    by_cases h0 : t = some 0
    · rw [if_pos h0]
      dsimp only
      rw [if_pos (by simp)]
      exact .inr ⟨s + 1, t, y, by simp [h0], by omega, rfl, h, Nat.le_refl _⟩
    · rw [if_neg h0]
      dsimp only
      rw [if_neg (by simp), sync_X]
      have hk : min y.length (rdQ y).2.1 = (y.take (rdQ y).2.1).length := by rw [List.length_take]; omega
      have hle : (y.take (rdQ y).2.1).length ≤ y.length := by rw [List.length_take]; omega
      rw [hk]
      by_cases h1 : t.map (· - 1) = some 0
      · rw [if_pos h1]
        refine .inr ⟨s + 1 + 1, _, _, (by intro hn; rw [hn] at h1; cases h1), by omega, rfl, h.cut, hle⟩
      · rw [if_neg h1]
        exact .inl ⟨s + 1 + 1, _, _, _, by omega, rfl, hle⟩
  · rw [if_neg hl, sync_X]
    by_cases h0 : t = some 0
    · rw [if_pos h0]
      exact .inr ⟨s + 1, t, y, by simp [h0], by omega, rfl, h, Nat.le_refl _⟩
    · rw [if_neg h0]
      exact .inl ⟨s + 1, _, _, _, by omega, rfl, Nat.le_refl _⟩
end Go.Proofs.YtfpmolajpmljmaaDoor
end

section
namespace Go.Proofs.YtfpmolajpmljmaaDoor
open Go.RowKit Go.Hay
set_option linter.unusedVariables false
set_option linter.unusedSimpArgs false

/-- Append, whatever it answers; where its blocks come from. -/
def AppL3 (w0 : World) (p dp mb : Nat) (xs : List Ent) (d : Dk) (nm : List UInt8) (B : Nat → Prop) (v : Value) (L : List (List UInt8)) (sz : Int) (R : List (List UInt8)) (w : World) (e : Ending) (w' : World) : Prop :=
  e = .returned (.int .i64 (appQ d nm R).2) ∧ Kp (p :: own v ++ foot dp mb xs) w w' ∧ ∃ xs' v' B', LD w0 w' p dp mb xs' (appQ d nm R).1 nm B' v' (if (appQ d nm R).2 = 0 then L ++ R else L) (if (appQ d nm R).2 = 0 then sz + appS R else sz) ∧ ∀ k, InL p dp mb xs' B' k → InL p dp mb xs B k ∨ w.heap.size ≤ k
theorem LD.app3 {w0 w : World} {p dp mb : Nat} {xs : List Ent} {d : Dk} {nm : List UInt8} {B : Nat → Prop} {v : Value} {L : List (List UInt8)} {sz : Int} (h : LD w0 w p dp mb xs d nm B v L sz)
    (hs : d.steps < 7000000000000000000) (hN : d.files.length < 7000000000000000000) (hB : Small d) (hk : nm.length ≤ maxLen) (hfl : (fileOf d.files nm).bytes.length ≤ 140737400000000) (hLl : L.length ≤ 900000000000) (hsz : 0 ≤ sz ∧ sz ≤ 8000000000000000000)
    (a : Option Addr) (c : Nat) (R : List Bs) (hR : ArgQ w a R (InL p dp mb xs B)) (hTb : Tab w0) :
    Calls Tryd.prog 18 #[.pointer (some ⟨p, 0, none⟩), .slice a R.length c] w (AppL3 w0 p dp mb xs d nm B v L sz (bsl R) w) := by
  have h00 := hTb.1
  refine (cAppendL h.log h.disk h.sep (fun k hk => (h.lb k hk).2) hs hN hB hk hfl hLl hsz a c R hR (hTb.kept h.kp (by simp)) ⟨fun hm => by have := h.lf 0 hm; omega, by have := h.lp; omega, fun hb => by have := (h.lb 0 hb).1; omega⟩).mono ?_
  rintro e w' ⟨he, xs', hD', k', hf', h1, h2⟩
  have kw : Kp [] w0 w' := h.kp.trans k' (fun x hx => .inr (h.own x hx))
  have hz := h.kp.size
  have hz' := k'.size
  have hlf : ∀ k ∈ foot dp mb xs', w0.heap.size ≤ k := fun k hk => by rcases hf' k hk with hh | hh; exact h.lf k hh; omega
  have hff : ∀ k ∈ foot dp mb xs', InL p dp mb xs B k ∨ w.heap.size ≤ k := fun k hk => by
    rcases hf' k hk with hh | hh
    · exact .inl (.inl hh)
    · exact .inr hh
  refine ⟨he, k', ?_⟩
  by_cases h0 : (appQ d nm (bsl R)).2 = 0
  · obtain ⟨v', B', hl, hb, hsp⟩ := h2 h0
    rw [if_pos h0, if_pos h0]
    refine ⟨xs', v', B', ⟨hl, hD', hsp, hlf, fun k hk => by rcases hb k hk with hh | hh; exact ⟨(h.lb k hh).1, by have := (h.lb k hh).2; omega⟩; exact ⟨by omega, hh.2⟩, h.lp, kw⟩, fun k hk => ?_⟩
    rcases hk with hk | rfl | hk
    · exact hff k hk
    · exact .inl (.inr (.inl rfl))
    · rcases hb k hk with hh | hh
      · exact .inl (.inr (.inr hh))
      · exact .inr hh.1
  · obtain ⟨hl, hsp⟩ := h1 h0
    rw [if_neg h0, if_neg h0]
    refine ⟨xs', v, B, ⟨hl, hD', hsp, hlf, fun k hk => ⟨(h.lb k hk).1, by have := (h.lb k hk).2; omega⟩, h.lp, kw⟩, fun k hk => ?_⟩
    rcases hk with hk | rfl | hk
    · exact hff k hk
    · exact .inl (.inr (.inl rfl))
    · exact .inl (.inr (.inr hk))
/-- What Append makes of a disk that may die. -/
theorem app_X (r s : Nat) (nm x : List UInt8) (t : Nat) (hn : nameOk nm = true) (R : List (List UInt8)) (h : x.length + (frB R).length ≤ r) :
    (okR R = true → appS R = (frB R).length ∧ ((∃ s' t', s' ≤ s + 2 ∧ appQ (oneX r s nm x x.length (some t) false) nm R = (oneX r s' nm (x ++ frB R) (x ++ frB R).length (some t') false, 0)) ∨
      ∃ s' t', s' ≤ s + 2 ∧ appQ (oneX r s nm x x.length (some t) false) nm R = (oneX r s' nm (x ++ frB R) x.length (some t') true, 44))) ∧
    (okR R = false → (R = [] ∧ appS R = 0 ∧ appQ (oneX r s nm x x.length (some t) false) nm R = (oneX r s nm x x.length (some t) false, 0)) ∨ appQ (oneX r s nm x x.length (some t) false) nm R = (oneX r s nm x x.length (some t) false, 90)) := by
  constructor
  · intro ho
    unfold okR at ho
    simp at ho
    have e : frmR R = (frB R, 0) := by unfold frmR frB; rw [if_pos ho.2]
    constructor
    · unfold appS
      rw [if_neg ho.1, e]
    · unfold appQ
      rw [if_neg ho.1, e, if_neg (by simp)]
      exact write_X _ _ _ _ _ _ hn h
  · intro ho
    unfold okR at ho
    simp at ho
    by_cases h0 : R = []
    · subst h0
      exact .inl ⟨rfl, by simp [appS], by simp [appQ]⟩
    · have e : frmR R = ([], 90) := by unfold frmR; rw [if_neg (by have := ho h0; omega)]
      right
      unfold appQ
      rw [if_neg h0, e, if_pos (by simp)]
/-- The log and its disk, by the frames; what is not sure to last; the blocks that are apart from it. -/
def CrX (w : World) (p dp mb : Nat) (l : List (List (List UInt8))) (F : List UInt8) (b : Nat) (dd : Bool) (X : List Nat) (W : World) : Prop :=
  ∃ (xs : List Ent) (s t : Nat) (B : Nat → Prop) (v : Value), s ≤ b ∧ LD w W p dp mb xs (oneX 1125899906842624 s nmL (allB l ++ F) (allB l).length (some t) dd) nmL B v l.flatten ((allB l).length : Int) ∧ ∀ k ∈ X, ¬ InL p dp mb xs B k ∧ k < W.heap.size
theorem CrX.keep {w W W' : World} {p dp mb : Nat} {l : List (List (List UInt8))} {F : List UInt8} {b : Nat} {dd : Bool} {X X' : List Nat} (h : CrX w p dp mb l F b dd X W) {S : List Nat} (k : Kp S W W') (hS : ∀ j ∈ S, j ∈ X ∧ w.heap.size ≤ j) (hX : ∀ j ∈ X', (j ∈ X ∨ W.heap.size ≤ j) ∧ j < W'.heap.size) : CrX w p dp mb l F b dd X' W' := by
  obtain ⟨xs, s, t, B, v, h1, h2, h3⟩ := h
  refine ⟨xs, s, t, B, v, h1, h2.stay k (fun j hj => ⟨(h3 j (hS j hj).1).1, (hS j hj).2⟩), fun j hj => ⟨fun hi => ?_, (hX j hj).2⟩⟩
  rcases (hX j hj).1 with e | e
  · exact (h3 j e).1 hi
  · have := (h2.inLt hi).1; omega
/-- What Append leaves. -/
inductive CrA (w : World) (p dp mb : Nat) (l : List (List (List UInt8))) (b : Nat) (X : List Nat) (R : List (List UInt8)) (W W' : World) : Int → Prop
  | done : (R = [] ∨ okR R = true) → CrX w p dp mb (if okR R = true then l ++ [R] else l) [] (b + 2) false X W' → CrA w p dp mb l b X R W W' 0
  | no : okR R = false → CrX w p dp mb l [] (b + 2) false X W' → CrA w p dp mb l b X R W W' 90
  | died : okR R = true → CrX w p dp mb l (frB R) (b + 2) true X W' → CrA w p dp mb l b X R W W' 44
theorem CrX.app {w W : World} {p dp mb : Nat} {l : List (List (List UInt8))} {b : Nat} {X : List Nat} (h : CrX w p dp mb l [] b false X W) (hb : b ≤ 100000000) (hl : (allB l).length ≤ 100000000) (hf : l.flatten.length ≤ 100000000)
    (a : Option Addr) (c : Nat) (R : List Bs) (hR : ∀ Y : Nat → Prop, (∀ k, Y k → w.heap.size ≤ k) → ArgQ W a R Y) (hRl : (frB (bsl R)).length ≤ 100000000) (hTb : Tab w) :
    Calls Tryd.prog 18 #[.pointer (some ⟨p, 0, none⟩), .slice a R.length c] W fun e W' => ∃ z, e = .returned (.int .i64 z) ∧ CrA w p dp mb l b X (bsl R) W W' z ∧ ∃ S, Kp S W W' ∧ ∀ k ∈ S, k ∉ X ∧ w.heap.size ≤ k := by
  obtain ⟨xs, s, t, B, v, h1, h2, h3⟩ := h
  rw [List.append_nil] at h2
  refine (h2.app3 (by simp only [oneX]; omega) (by simp [oneX]) (small_X (by omega)) (by unfold maxLen; simp [nmL]) (by rw [file_X]; simp only; omega) (by omega) (by omega) a c R (hR _ (fun k hk => (h2.inLt hk).2)) hTb).mono ?_
  rintro e W' ⟨he, hk, xs', v', B', hL', hi'⟩
  have hz := hk.size
  have hX : ∀ k ∈ X, ¬ InL p dp mb xs' B' k ∧ k < W'.heap.size := fun k hk1 => ⟨fun hi => by
    rcases hi' k hi with e1 | e1
    · exact (h3 k hk1).1 e1
    · have := (h3 k hk1).2; omega, by have := (h3 k hk1).2; omega⟩
  refine ⟨_, he, ?_, _, hk, fun k hk1 => ⟨fun hx => (h3 k hx).1 (setInLD h2 k hk1), h2.own k hk1⟩⟩
  obtain ⟨o1, o2⟩ := app_X 1125899906842624 s nmL (allB l) t rnL (bsl R) (by omega)
  cases hor : okR (bsl R) with
  | true =>
    obtain ⟨es, ⟨s', t', hs', e1⟩ | ⟨s', t', hs', e1⟩⟩ := o1 hor
    · rw [e1] at hL' ⊢
      rw [if_pos rfl, if_pos rfl, es] at hL'
      refine .done (.inr hor) ⟨xs', s', t', B', v', by omega, ?_, hX⟩
      rw [if_pos hor, allB_snoc, List.append_nil, List.flatten_append, List.length_append]
      simp only [List.flatten_cons, List.flatten_nil, List.append_nil]
      rw [Int.natCast_add]
      rw [List.length_append] at hL'
      exact hL'
    · rw [e1] at hL' ⊢
      rw [if_neg (by simp), if_neg (by simp)] at hL'
      exact .died hor ⟨xs', s', t', B', v', by omega, hL', hX⟩
  | false =>
    rcases o2 hor with ⟨e0, es, e1⟩ | e1
    · rw [e1] at hL' ⊢
      rw [if_pos rfl, if_pos rfl, es, Int.add_zero, e0, List.append_nil] at hL'
      refine .done (.inl e0) ⟨xs', s, t, B', v', by omega, ?_, hX⟩
      rw [if_neg (by simp [hor]), List.append_nil]
      exact hL'
    · rw [e1] at hL' ⊢
      rw [if_neg (by simp), if_neg (by simp)] at hL'
      exact .no hor ⟨xs', s, t, B', v', by omega, by rw [List.append_nil]; exact hL', hX⟩
end Go.Proofs.YtfpmolajpmljmaaDoor
end

section
namespace Go.Proofs.YtfpmolajpmljmaaDoor
open Go.RowKit Go.Hay
set_option linter.unusedVariables false
set_option linter.unusedSimpArgs false

theorem allB_app (a b : List (List (List UInt8))) : allB (a ++ b) = allB a ++ allB b := by simp [allB]
theorem one_flat : ∀ S : List (List UInt8), (S.map fun r => [r]).flatten = S
  | [] => rfl
  | x :: S => by simp only [List.map_cons, List.flatten_cons, one_flat S]; rfl
theorem recs_len : ∀ (yl : List Bs) (i : Nat), (allB (((bsl yl).take i).map fun r => [r])).length ≤ 42 * (yl.map fun y => y.bs.length + 1).sum
  | [], i => by simp [bsl, allB]
  | y :: yl, 0 => by simp [allB]
  | y :: yl, i + 1 => by
    have ih := recs_len yl i
    have h1 := frB_len ⟨none, 0, [y]⟩
    have e : allB (((bsl (y :: yl)).take (i + 1)).map fun r => [r]) = frB (bsl [y]) ++ allB (((bsl yl).take i).map fun r => [r]) := by simp [bsl, allB]
    have eb : bulkL ⟨none, 0, [y]⟩ = y.bs.length + 1 := by simp [bulkL]
    rw [eb] at h1
    dsimp only at h1
    rw [e, List.length_append, List.map_cons, List.sum_cons]
    omega
theorem sg_len : ∀ L : List Ls, (allB (sg (RsL L))).length ≤ 42 * (L.map bulkL).sum
  | [] => by simp [sg, RsL, allB]
  | x :: L => by
    have ih := sg_len L
    have h1 := recs_len x.l (bsl x.l).length
    rw [List.take_length] at h1
    have e : sg (RsL (x :: L)) = (bsl x.l).map (fun r => [r]) ++ sg (RsL L) := by simp [sg, RsL]
    rw [e, allB_app, List.length_append, List.map_cons, List.sum_cons]
    unfold bulkL at ih ⊢
    omega
theorem flat_len : ∀ L : List Ls, ((RsL L).flatten).length ≤ (L.map bulkL).sum
  | [] => by simp [RsL]
  | x :: L => by
    have ih := flat_len L
    have h1 := sumB_bulk x.l
    have e : (RsL (x :: L)).flatten = bsl x.l ++ (RsL L).flatten := by simp [RsL]
    have hb : bulkL x = (x.l.map fun y => y.bs.length + 1).sum := rfl
    rw [← hb] at h1
    rw [e, List.length_append, bsl_len, List.map_cons, List.sum_cons]
    omega
/-- Both, by the frames of each. -/
def BtS (w : World) (p1 dp1 mb1 p2 dp2 mb2 : Nat) (l1 l2 : List (List (List UInt8))) (b1 b2 : Nat) (W : World) : Prop :=
  ∃ (xs1 xs2 : List Ent) (s1 k1 s2 k2 : Nat) (B1 B2 : Nat → Prop) (v1 v2 : Value), s1 ≤ b1 ∧ s2 ≤ b2 ∧
    Two w W p1 dp1 mb1 p2 dp2 mb2 xs1 xs2 (oneD 1125899906842624 s1 nmL (allB l1) k1) (oneD 1125899906842624 s2 nmL (allB l2) k2) nmL B1 B2 v1 v2 l1.flatten l2.flatten ((allB l1).length : Int) ((allB l2).length : Int)
theorem BtS.keep {w W W' : World} {p1 dp1 mb1 p2 dp2 mb2 : Nat} {l1 l2 : List (List (List UInt8))} {b1 b2 : Nat} (h : BtS w p1 dp1 mb1 p2 dp2 mb2 l1 l2 b1 b2 W) (k : Kp [] W W') : BtS w p1 dp1 mb1 p2 dp2 mb2 l1 l2 b1 b2 W' := by
  obtain ⟨xs1, xs2, s1, k1, s2, k2, B1, B2, v1, v2, h1, h2, hT⟩ := h
  exact ⟨xs1, xs2, s1, k1, s2, k2, B1, B2, v1, v2, h1, h2, hT.keep k⟩
theorem BtS.le {w W : World} {p1 dp1 mb1 p2 dp2 mb2 : Nat} {l1 l2 : List (List (List UInt8))} {b1 b2 b1' b2' : Nat} (h : BtS w p1 dp1 mb1 p2 dp2 mb2 l1 l2 b1 b2 W) (e1 : b1 ≤ b1') (e2 : b2 ≤ b2') : BtS w p1 dp1 mb1 p2 dp2 mb2 l1 l2 b1' b2' W := by
  obtain ⟨xs1, xs2, s1, k1, s2, k2, B1, B2, v1, v2, h1, h2, hT⟩ := h
  exact ⟨xs1, xs2, s1, k1, s2, k2, B1, B2, v1, v2, by omega, by omega, hT⟩
theorem BtS.kp {w W : World} {p1 dp1 mb1 p2 dp2 mb2 : Nat} {l1 l2 : List (List (List UInt8))} {b1 b2 : Nat} (h : BtS w p1 dp1 mb1 p2 dp2 mb2 l1 l2 b1 b2 W) : Kp [] w W := by
  obtain ⟨xs1, xs2, s1, k1, s2, k2, B1, B2, v1, v2, h1, h2, hT⟩ := h
  exact hT.a.kp
/-- Append of rows to the first one. -/
def BtA (w : World) (p1 dp1 mb1 p2 dp2 mb2 : Nat) (l1 l2 : List (List (List UInt8))) (b1 b2 : Nat) (R : List (List UInt8)) (e : Ending) (W' : World) : Prop :=
  ∃ z : Int, e = .returned (.int .i64 z) ∧ Kp [] w W' ∧ (z = 0 → (R = [] ∨ okR R = true) ∧ BtS w p1 dp1 mb1 p2 dp2 mb2 (if okR R = true then l1 ++ [R] else l1) l2 (b1 + 2) b2 W')
theorem BtS.appA {w W : World} {p1 dp1 mb1 p2 dp2 mb2 : Nat} {l1 l2 : List (List (List UInt8))} {b1 b2 : Nat} (h : BtS w p1 dp1 mb1 p2 dp2 mb2 l1 l2 b1 b2 W) (hb1 : b1 ≤ 100000000) (hl : (allB l1).length ≤ 100000000) (hf : l1.flatten.length ≤ 100000000)
    (a : Option Addr) (c : Nat) (R : List Bs) (hR : ∀ X : Nat → Prop, (∀ k, X k → w.heap.size ≤ k) → ArgQ W a R X) (hRl : (frB (bsl R)).length ≤ 100000000) (hTb : Tab w) :
    Calls Tryd.prog 18 #[.pointer (some ⟨p1, 0, none⟩), .slice a R.length c] W (BtA w p1 dp1 mb1 p2 dp2 mb2 l1 l2 b1 b2 (bsl R)) := by
  obtain ⟨xs1, xs2, s1, k1, s2, k2, B1, B2, v1, v2, h1, h2, hT⟩ := h
  refine (hT.a.app2 (by simp only [oneD]; omega) (by simp [oneD]) (small_one (by omega)) (by unfold maxLen; simp [nmL]) (by rw [file_one]; simp only; omega) (by omega) (by omega) a c R (hR _ (fun k hk => (hT.a.inLt hk).2)) hTb).mono ?_
  rintro e W' ⟨he, hk, hn, hy⟩
  obtain ⟨o1, o2⟩ := app_one 1125899906842624 s1 nmL (allB l1) k1 rnL (bsl R) (by omega)
  have kw : Kp [] w W' := hT.a.kp.trans hk (fun x hx => .inr (hT.a.own x hx))
  refine ⟨_, he, kw, fun h0 => ?_⟩
  obtain ⟨xs', v', B', hL', hi'⟩ := hy h0
  cases hor : okR (bsl R) with
  | true =>
    obtain ⟨e1, e2⟩ := o1 hor
    rw [e1, e2] at hL'
    dsimp only at hL'
    refine ⟨.inr rfl, xs', xs2, s1 + 2, (allB l1 ++ frB (bsl R)).length, s2, k2, B', B2, v', v2, by omega, h2, ?_⟩
    rw [if_pos rfl, allB_snoc, List.flatten_append, List.length_append]
    simp only [List.flatten_cons, List.flatten_nil, List.append_nil]
    rw [Int.natCast_add]
    rw [List.length_append] at hL'
    exact hT.appA hk hL' hi'
  | false =>
    obtain ⟨e1, e2⟩ := o2 hor
    obtain ⟨e3, e4⟩ := e2 h0
    rw [e1, e4, e3] at hL'
    rw [List.append_nil, Int.add_zero] at hL'
    refine ⟨.inl e3, xs', xs2, s1, k1, s2, k2, B', B2, v', v2, by omega, h2, ?_⟩
    rw [if_neg (by simp)]
    exact hT.appA hk hL' hi'
/-- Append of one row to the second one. -/
theorem BtS.appB {w W0 W : World} {p1 dp1 mb1 p2 dp2 mb2 : Nat} {l1 l2 : List (List (List UInt8))} {b1 b2 : Nat} (h : BtS w p1 dp1 mb1 p2 dp2 mb2 l1 l2 b1 b2 W0) (k0 : Kp [] W0 W) (hb2 : b2 ≤ 100000000) (hl : (allB l2).length ≤ 100000000) (hf : l2.flatten.length ≤ 100000000)
    (a : Option Addr) (y : Bs) (hR : ∀ X : Nat → Prop, (∀ k, X k → w.heap.size ≤ k ∧ k < W0.heap.size) → ArgQ W a [y] X) (hRl : (frB [y.bs]).length ≤ 100000000) (hok : okR [y.bs] = true) (hTb : Tab w) :
    Calls Tryd.prog 18 #[.pointer (some ⟨p2, 0, none⟩), .slice a 1 1] W fun e W' => e = .returned (.int .i64 0) ∧ BtS w p1 dp1 mb1 p2 dp2 mb2 l1 (l2 ++ [[y.bs]]) b1 (b2 + 2) W' := by
  obtain ⟨xs1, xs2, s1, k1, s2, k2, B1, B2, v1, v2, h1, h2, hT0⟩ := h
  have hT := hT0.keep k0
  have eb : bsl [y] = [y.bs] := by simp [bsl]
  have hA := hT.b.app2 (by simp only [oneD]; omega) (by simp [oneD]) (small_one (by omega)) (by unfold maxLen; simp [nmL]) (by rw [file_one]; simp only; omega) (by omega) (by omega) a 1 [y] (hR _ (fun k hk => ⟨(hT0.b.inLt hk).2, (hT0.b.inLt hk).1⟩)) hTb
  rw [eb] at hA
  refine hA.mono ?_
  rintro e W' ⟨he, hk, hn, hy⟩
  obtain ⟨o1, o2⟩ := app_one 1125899906842624 s2 nmL (allB l2) k2 rnL [y.bs] (by omega)
  obtain ⟨e1, e2⟩ := o1 hok
  rw [e1] at he hy
  obtain ⟨xs', v', B', hL', hi'⟩ := hy rfl
  rw [e2] at hL'
  dsimp only at hL'
  refine ⟨he, xs1, xs', s1, k1, s2 + 2, (allB l2 ++ frB [y.bs]).length, B1, B', v1, v', h1, by omega, ?_⟩
  rw [allB_snoc, List.flatten_append, List.length_append]
  simp only [List.flatten_cons, List.flatten_nil, List.append_nil]
  rw [Int.natCast_add]
  rw [List.length_append] at hL'
  exact hT.appB hk hL' hi'
/-- What gone answers of a log. -/
def SeenQ (M : List (List UInt8)) (W : World) (e : Ending) (W' : World) : Prop := ∃ a c, ∃ l : List Bs, e = .returned (.slice a l.length c) ∧ BsE.See W' a l ∧ (∀ y ∈ l, y.ok W') ∧ bsl l = M ∧ Kp [] W W'
theorem cSeen {w : World} {p dp : Nat} {nm : List UInt8} {B : Nat → Prop} {v : Value} {M : List (List UInt8)} {sz : Int} (h : Log w p dp nm B v M sz) (h1 : M.length ≤ 100000000) (h2 : ∀ x ∈ M, x.length ≤ 100000000) :
    Calls Tryd.prog 21 #[.pointer (some ⟨p, 0, none⟩)] w (SeenQ M w) := by
  refine (cGoneQ h (by omega) (fun x hx => by have := h2 x hx; omega)).mono ?_
  rintro e w' ⟨v', rfl, hr, k⟩
  obtain ⟨a, c, l, rfl, hs, ho, hb⟩ := hr.bs
  exact ⟨a, c, l, rfl, hs, fun y hy => (ho y hy).1, hb, k⟩
theorem flat_mem : ∀ (L : List Ls) (x : List UInt8), x ∈ (RsL L).flatten → x.length ≤ (L.map bulkL).sum
  | [], x, h => by simp [RsL] at h
  | y :: L, x, h => by
    have e : (RsL (y :: L)).flatten = bsl y.l ++ (RsL L).flatten := by simp [RsL]
    rw [e] at h
    rw [List.map_cons, List.sum_cons]
    rcases List.mem_append.1 h with h | h
    · obtain ⟨z, hz, rfl⟩ := List.mem_map.1 h
      have key : ∀ S : List Bs, z ∈ S → z.bs.length ≤ (S.map fun y => y.bs.length + 1).sum := by
        intro S
        induction S with
        | nil => intro h; cases h
        | cons u S ih =>
          intro h
          rw [List.map_cons, List.sum_cons]
          rcases List.mem_cons.1 h with rfl | h
          · omega
          · have := ih h; omega
      have := key y.l hz
      unfold bulkL
      omega
    · have := flat_mem L x h
      omega
/-- Both logs, and both opened anew: all four have the same. -/
structure Four (w W : World) (p1 p2 p3 p4 : Nat) (M : List (List UInt8)) : Prop where
  kp : Kp [] w W
  g1 : ∀ W', Kp [] W W' → Calls Tryd.prog 21 #[.pointer (some ⟨p1, 0, none⟩)] W' (SeenQ M W')
  g2 : ∀ W', Kp [] W W' → Calls Tryd.prog 21 #[.pointer (some ⟨p2, 0, none⟩)] W' (SeenQ M W')
  g3 : ∀ W', Kp [] W W' → Calls Tryd.prog 21 #[.pointer (some ⟨p3, 0, none⟩)] W' (SeenQ M W')
  g4 : ∀ W', Kp [] W W' → Calls Tryd.prog 21 #[.pointer (some ⟨p4, 0, none⟩)] W' (SeenQ M W')
/-- Two answers of gone are the same. -/
theorem cSame2 {M : List (List UInt8)} (hM : M.length ≤ 100000000) {a b : Option Addr} {ca cb : Nat} {L1 L2 : List Bs} {w : World} (h1 : BsE.See w a L1) (h2 : BsE.See w b L2) (o1 : ∀ y ∈ L1, y.ok w) (o2 : ∀ y ∈ L2, y.ok w) (e1 : bsl L1 = M) (e2 : bsl L2 = M) :
    Calls Tryd.prog 13 #[.slice a L1.length ca, .slice b L2.length cb] w fun e w' => e = .returned (.bool true) ∧ Kp [] w w' := by
  have l1 : L1.length = M.length := by rw [← e1, bsl_len]
  have l2 : L2.length = M.length := by rw [← e2, bsl_len]
  have h := cSameQ a b ca cb L1 L2 w h1 h2 o1 o2 (by omega) (by omega)
  rw [e1, e2] at h
  simpa using h
/-- Open of the first; the rest stays. -/
theorem BtS.opn {w W : World} {p1 dp1 mb1 p2 dp2 mb2 : Nat} {l1 l2 : List (List (List UInt8))} {b1 b2 : Nat} (h : BtS w p1 dp1 mb1 p2 dp2 mb2 l1 l2 b1 b2 W) (hb1 : b1 ≤ 100000000) (hb2 : b2 ≤ 100000000) (hl1 : (allB l1).length ≤ 100000000) (hl2 : (allB l2).length ≤ 100000000)
    (ho1 : ∀ R ∈ l1, (recB R).length ≤ 16777216) (ho2 : ∀ R ∈ l2, (recB R).length ≤ 16777216) (M : List (List UInt8)) (hM1 : l1.flatten = M) (hM2 : l2.flatten = M) (hM : M.length ≤ 100000000) (hMx : ∀ x ∈ M, x.length ≤ 100000000) (hTb : Tab w) :
    Calls Tryd.prog 20 #[.pointer (some ⟨dp1, 0, none⟩), .string ⟨nmL.toArray⟩] W fun e W' => ∃ p3, e = .returned (.tuple #[.pointer (some ⟨p3, 0, none⟩), .int .i64 0]) ∧
      Calls Tryd.prog 20 #[.pointer (some ⟨dp2, 0, none⟩), .string ⟨nmL.toArray⟩] W' fun e W2 => ∃ p4, e = .returned (.tuple #[.pointer (some ⟨p4, 0, none⟩), .int .i64 0]) ∧ Four w W2 p1 p2 p3 p4 M := by
  obtain ⟨xs1, xs2, s1, k1, s2, k2, B1, B2, v1, v2, h1, h2, hT⟩ := h
  have r1 := rdQ_all l1 ho1
  have r2 := rdQ_all l2 ho2
  have hO := cOpen hT.a.disk (by simp only [oneD]; omega) (small_one (by omega)) nmL (by unfold maxLen; simp [nmL]) (hTb.kept hT.a.kp (by simp)) (by rw [file_one]; simp only; omega)
  rw [file_one] at hO
  dsimp only at hO
  rw [open_one rdQ _ _ _ _ _ (by rw [r1]) (by rw [r1]), r1, hM1] at hO
  refine hO.mono ?_
  intro e W' hP
  obtain ⟨p3, v3, B3, xs3, rfl, hL3, m3, hi3⟩ := LD.ofOpn2 (w0 := w) hP rfl hT.a.kp hT.a.lf
  have hb3 := hT.b.stay m3.kp (fun k hk => ⟨hT.ap k (.inl hk), hT.a.lf k hk⟩)
  have hg1 := hT.a.log.kept m3.kp (fun hm => (hT.a.sep p1 hm).2 rfl) (fun k hk => (hT.a.sep k hk).1)
  refine ⟨p3, rfl, ?_⟩
  have hO2 := cOpen hb3.disk (by simp only [oneD]; omega) (small_one (by omega)) nmL (by unfold maxLen; simp [nmL]) (hTb.kept hb3.kp (by simp)) (by rw [file_one]; simp only; omega)
  rw [file_one] at hO2
  dsimp only at hO2
  rw [open_one rdQ _ _ _ _ _ (by rw [r2]) (by rw [r2]), r2, hM2] at hO2
  refine hO2.mono ?_
  intro e W2 hP2
  obtain ⟨p4, v4, B4, xs4, rfl, hL4, m4, hi4⟩ := LD.ofOpn2 (w0 := w) hP2 rfl hb3.kp hb3.lf
  have hg1' := hg1.kept m4.kp (fun hm => hT.ap p1 (.inr (.inl rfl)) (.inl hm)) (fun k hk hb => hT.ap k (.inr (.inr hb)) (.inl hk))
  have hg2' := hb3.log.kept m4.kp (fun hm => (hb3.sep p2 hm).2 rfl) (fun k hk => (hb3.sep k hk).1)
  have hn3 : ∀ k ∈ foot dp2 mb2 xs2, ¬ InL p3 dp1 mb1 xs3 B3 k := fun k hk hi => by
    rcases hi3 k hi with h | h
    · exact hT.ap k (.inl h) (.inl hk)
    · have := hT.b.disk.lt k hk; omega
  have hg3' := hL3.log.kept m4.kp (fun hm => hn3 p3 hm (.inr (.inl rfl))) (fun k hk hb => hn3 k hk (.inr (.inr hb)))
  rw [hM1] at hg1'
  rw [hM2] at hg2'
  exact ⟨p4, rfl, hL4.kp, fun X k => cSeen (hg1'.kept k (by simp) (by simp)) hM hMx, fun X k => cSeen (hg2'.kept k (by simp) (by simp)) hM hMx, fun X k => cSeen (hg3'.kept k (by simp) (by simp)) hM hMx, fun X k => cSeen (hL4.log.kept k (by simp) (by simp)) hM hMx⟩
end Go.Proofs.YtfpmolajpmljmaaDoor
end

section
namespace Go.Proofs.YtfpmolajpmljmaaDoor
open Go.RowKit Go.Hay
set_option linter.unusedVariables false
set_option linter.unusedSimpArgs false

/-- A disk with one file that tells M, all of it lasting. -/
def Fnd (w : World) (X : List Nat) (p mb : Nat) (M : List (List UInt8)) (b : Nat) (t : Option Nat) (dd : Bool) (W : World) : Prop :=
  ∃ (xs : List Ent) (s : Nat) (y : List UInt8), Disk W p mb xs (oneX 1125899906842624 s nmL y y.length t dd) ∧ Tells y M ∧ y.length ≤ 300000000 ∧ s ≤ b ∧ (∀ k ∈ foot p mb xs, w.heap.size ≤ k ∧ k ∉ X) ∧ (∀ k ∈ X, k < W.heap.size) ∧ Kp [] w W
theorem Fnd.kp {w W : World} {X : List Nat} {p mb : Nat} {M : List (List UInt8)} {b : Nat} {t : Option Nat} {dd : Bool} (h : Fnd w X p mb M b t dd W) : Kp [] w W := by
  obtain ⟨xs, s, y, h1, h2, h3, h4, h5, h6, h7⟩ := h
  exact h7
theorem Fnd.dead {w W : World} {X : List Nat} {p mb : Nat} {M : List (List UInt8)} {b : Nat} {t : Option Nat} {dd : Bool} (h : Fnd w X p mb M b t dd W) : Calls Tryd.prog 17 #[.pointer (some ⟨p, 0, none⟩)] W fun e w' => e = .returned (.bool dd) ∧ w' = W := by
  obtain ⟨xs, s, y, h1, h2, h3, h4, h5, h6, h7⟩ := h
  exact cDead h1
theorem fnd_of {w W W' : World} {X : List Nat} {ks : List Int} {p mb : Nat} {xs : List Ent} {M : List (List UInt8)} {y : List UInt8} (hD : Disk W' p mb xs (oneX 1125899906842624 0 nmL y y.length none false)) (hT : Tells y M) (hy : y.length ≤ 300000000) (k : Kp [] W W') (hf : ∀ j ∈ foot p mb xs, W.heap.size ≤ j) (hw : Kp [] w W) (hX : ∀ k ∈ X, k < W.heap.size) : Fnd w X p mb M 0 none false W' := by
  have hz := hw.size
  have hz' := k.size
  exact ⟨xs, 0, y, hD, hT, hy, Nat.le_refl _, fun j hj => ⟨by have := hf j hj; omega, fun hx => by have := hf j hj; have := hX j hx; omega⟩, fun j hj => by have := hX j hj; omega, hw.trans k (by simp)⟩
/-- What a crash finds of the log. -/
theorem CrX.crash {w W : World} {p dp mb : Nat} {l : List (List (List UInt8))} {F : List UInt8} {b : Nat} {dd : Bool} {X : List Nat} (h : CrX w p dp mb l F b dd X W) (hl : (allB l).length ≤ 100000000) (hFl : F.length ≤ 100000000) (ho : ∀ R ∈ l, (recB R).length ≤ 16777216) (R : List (List UInt8)) (hF : F = [] ∨ F = frB R ∧ (recB R).length ≤ 16777216)
    (ka : Option Addr) (kc : Nat) (ks : List Int) (hks : Ints W ka ks) (hkl : ks.length ≤ kc) (hkc : kc ≤ 9223372036854775807) (hk64 : ∀ k ∈ ks, -9223372036854775808 ≤ k ∧ k < 9223372036854775808) :
    Calls Tryd.prog 19 #[.pointer (some ⟨dp, 0, none⟩), .slice ka ks.length kc] W fun e W' => ∃ p' mb' M, e = .returned (.pointer (some ⟨p', 0, none⟩)) ∧ (M = l.flatten ∨ F ≠ [] ∧ M = l.flatten ++ R) ∧ Fnd w X p' mb' M 0 none false W' ∧ Kp [] W W' := by
  obtain ⟨xs, s, t, B, v, h1, h2, h3⟩ := h
  have hxl : xs.length = 1 := by
    have := congrArg List.length h2.disk.fl
    simpa [oneX] using this.symm
  obtain ⟨m, hm⟩ := crash_X 1125899906842624 s nmL (allB l) F (some t) dd ks
  have hC := cCrash h2.disk (small_X (by rw [List.length_append]; omega)) (by omega) ka kc ks hks hkl hkc hk64
  rw [hm] at hC
  refine hC.mono ?_
  rintro e W' ⟨p', mb', xs', rfl, hD', k', hf'⟩
  have hyl : (allB l ++ F.take m).length ≤ 300000000 := by rw [List.length_append, List.length_take]; omega
  rcases hF with rfl | ⟨rfl, hR⟩
  · have e0 : allB l ++ ([] : List UInt8).take m = allB l := by simp
    have hT := tells_all l ho
    rw [e0] at hD' hyl
    exact ⟨p', mb', _, rfl, .inl rfl, fnd_of (ks := ks) hD' hT hyl k' hf' h2.kp (fun k hk => (h3 k hk).2), k'⟩
  · have hne : frB R ≠ [] := fun e => by have := frB_pos R; rw [e] at this; simp at this
    rcases tells_torn l R ho hR m with hT | hT
    · exact ⟨p', mb', _, rfl, .inl rfl, fnd_of (ks := ks) hD' hT hyl k' hf' h2.kp (fun k hk => (h3 k hk).2), k'⟩
    · exact ⟨p', mb', _, rfl, .inr ⟨hne, rfl⟩, fnd_of (ks := ks) hD' hT hyl k' hf' h2.kp (fun k hk => (h3 k hk).2), k'⟩
/-- A crash of what was found. -/
theorem Fnd.crash {w W : World} {X : List Nat} {p mb : Nat} {M : List (List UInt8)} {b : Nat} {t : Option Nat} {dd : Bool} (h : Fnd w X p mb M b t dd W)
    (ka : Option Addr) (kc : Nat) (ks : List Int) (hks : Ints W ka ks) (hkl : ks.length ≤ kc) (hkc : kc ≤ 9223372036854775807) (hk64 : ∀ k ∈ ks, -9223372036854775808 ≤ k ∧ k < 9223372036854775808) :
    Calls Tryd.prog 19 #[.pointer (some ⟨p, 0, none⟩), .slice ka ks.length kc] W fun e W' => ∃ p' mb', e = .returned (.pointer (some ⟨p', 0, none⟩)) ∧ Fnd w X p' mb' M 0 none false W' ∧ Kp [] W W' := by
  obtain ⟨xs, s, y, h1, h2, h3, h4, h5, h6, h7⟩ := h
  have hxl : xs.length = 1 := by
    have := congrArg List.length h1.fl
    simpa [oneX] using this.symm
  obtain ⟨m, hm⟩ := crash_X 1125899906842624 s nmL y [] t dd ks
  have hC := cCrash h1 (small_X (by omega)) (by omega) ka kc ks hks hkl hkc hk64
  have e0 : y ++ ([] : List UInt8).take m = y := by simp
  rw [List.append_nil, e0] at hm
  rw [hm] at hC
  refine hC.mono ?_
  rintro e W' ⟨p', mb', xs', rfl, hD', k', hf'⟩
  exact ⟨p', mb', rfl, fnd_of (ks := ks) hD' h2 h3 k' hf' h7 h6, k'⟩
/-- Arm of what was found. -/
theorem Fnd.arm {w W : World} {X : List Nat} {p mb : Nat} {M : List (List UInt8)} {b : Nat} {t : Option Nat} (h : Fnd w X p mb M b t false W) (n : Nat) (hn : (n : Int) < 9223372036854775808) :
    Calls Tryd.prog 16 #[.pointer (some ⟨p, 0, none⟩), .int .i64 n] W fun e W' => e = .returned (.tuple #[]) ∧ Fnd w X p mb M b (some n) false W' ∧ ∃ S, Kp S W W' ∧ ∀ k ∈ S, k ∉ X ∧ w.heap.size ≤ k := by
  obtain ⟨xs, s, y, h1, h2, h3, h4, h5, h6, h7⟩ := h
  have hA := cArm h1 n hn
  have ea : armD (oneX 1125899906842624 s nmL y y.length t false) n = oneX 1125899906842624 s nmL y y.length (some n) false := by simp [armD, oneX]
  rw [ea] at hA
  refine hA.mono ?_
  rintro e W' ⟨rfl, hD, k⟩
  have hz := k.size
  have hp : p ∈ foot p mb xs := by simp [foot]
  exact ⟨rfl, ⟨xs, s, y, hD, h2, h3, h4, h5, fun j hj => by have := h6 j hj; omega, h7.trans k (fun j hj => .inr (by simp at hj; subst hj; exact (h5 _ hp).1))⟩, [p], k, fun j hj => by simp at hj; subst hj; exact ⟨(h5 _ hp).2, (h5 _ hp).1⟩⟩
/-- Open of what was found: opened, or dead. -/
theorem Fnd.open {w W : World} {X : List Nat} {p mb : Nat} {M : List (List UInt8)} {b : Nat} {t : Option Nat} (h : Fnd w X p mb M b t false W) (hb : b ≤ 100000000) (hM : M.length ≤ 100000000) (hMx : ∀ x ∈ M, x.length ≤ 100000000) (hTb : Tab w) :
    Calls Tryd.prog 20 #[.pointer (some ⟨p, 0, none⟩), .string ⟨nmL.toArray⟩] W fun e W' => (∃ S, Kp S W W' ∧ ∀ k ∈ S, k ∉ X ∧ w.heap.size ≤ k) ∧ Kp [] w W' ∧
      ((∃ p4, e = .returned (.tuple #[.pointer (some ⟨p4, 0, none⟩), .int .i64 0]) ∧ (Calls Tryd.prog 17 #[.pointer (some ⟨p, 0, none⟩)] W' fun e w' => e = .returned (.bool false) ∧ w' = W') ∧ ∀ W2, Kp [] W' W2 → Calls Tryd.prog 21 #[.pointer (some ⟨p4, 0, none⟩)] W2 (SeenQ M W2)) ∨
       (t ≠ none ∧ e = .returned (.tuple #[.pointer none, .int .i64 44]) ∧ ∃ t', Fnd w X p mb M (b + 2) t' true W')) := by
  obtain ⟨xs, s, y, h1, h2, h3, h4, h5, h6, h7⟩ := h
  have hO := cOpen h1 (by simp only [oneX]; omega) (small_X (by omega)) nmL (by unfold maxLen; simp [nmL]) (hTb.kept h7 (by simp)) (by rw [file_X]; simp only; omega)
  rw [file_X] at hO
  dsimp only at hO
  rw [h2.m] at hO
  refine hO.mono ?_
  rintro e W' ⟨v0, xs', he, hD', m, hn, hy⟩
  have hz := m.kp.size
  have hzw := h7.size
  have kw : Kp [] w W' := h7.trans m.kp (fun j hj => .inr (h5 j hj).1)
  refine ⟨⟨_, m.kp, fun k hk => ⟨(h5 k hk).2, (h5 k hk).1⟩⟩, kw, ?_⟩
  rcases open_X 1125899906842624 s nmL y t h2 with ⟨s', t', y', k', hs', eO, hle⟩ | ⟨s', t', y', hnt, hs', eO, hT', hle⟩
  · rw [eO] at he hD' hy
    obtain ⟨p4, v, B, rfl, hl, hp, hbb, hsp⟩ := hy rfl
    exact .inl ⟨p4, he, cDead hD', fun W2 k2 => cSeen (hl.kept k2 (by simp) (by simp)) hM hMx⟩
  · rw [eO] at he hD' hn
    have ev := hn (by simp)
    subst ev
    refine .inr ⟨hnt, he, t', xs', s', y', hD', hT', by omega, by omega, fun k hk => ?_, fun k hk => by have := h6 k hk; omega, kw⟩
    rcases m.new k hk with e1 | e1
    · exact h5 k e1
    · exact ⟨by omega, fun hx => by have := h6 k hx; omega⟩
end Go.Proofs.YtfpmolajpmljmaaDoor
end

section
namespace Go.Proofs.YtfpmolajpmljmaaDoor
open Go.RowKit Go.Hay
set_option linter.unusedVariables false
set_option linter.unusedSimpArgs false

theorem fl_flat_le : ∀ l : List (List (List UInt8)), (fl l).flatten.length ≤ l.flatten.length
  | [] => by simp [fl]
  | R :: l => by
    have ih := fl_flat_le l
    have e : fl (R :: l) = if okR R = true then R :: fl l else fl l := by simp [fl, List.filter_cons]
    rw [e]
    split <;> simp only [List.flatten_cons, List.length_append] <;> omega
theorem take_flat_le : ∀ (l : List (List (List UInt8))) (k : Nat), (l.take k).flatten.length ≤ l.flatten.length
  | [], k => by simp
  | R :: l, 0 => by simp
  | R :: l, k + 1 => by
    have ih := take_flat_le l k
    simp only [List.take_succ_cons, List.flatten_cons, List.length_append]
    omega
theorem fl_mem {l : List (List (List UInt8))} {x : List UInt8} (h : x ∈ (fl l).flatten) : x ∈ l.flatten := by
  obtain ⟨S, h1, h2⟩ := List.mem_flatten.1 h
  exact List.mem_flatten.2 ⟨S, (List.mem_filter.1 h1).1, h2⟩
theorem take_mem {l : List (List (List UInt8))} {k : Nat} {x : List UInt8} (h : x ∈ (l.take k).flatten) : x ∈ l.flatten := by
  obtain ⟨S, h1, h2⟩ := List.mem_flatten.1 h
  exact List.mem_flatten.2 ⟨S, List.mem_of_mem_take h1, h2⟩
/-- What is not sure to last: nothing, or the frame of one of the lists. -/
structure CrL (L : List Ls) (j : Nat) (l : List (List (List UInt8))) (F : List UInt8) (dd : Bool) (R : List (List UInt8)) : Prop where
  lk : ∃ k, k ≤ j ∧ l = fl ((RsL L).take k) ∧ (dd = false → k = j)
  al : dd = false → F = []
  de : dd = true → F = frB R ∧ okR R = true ∧ ∃ x ∈ L, R = bsl x.l
theorem CrL.bounds {L : List Ls} {j : Nat} {l : List (List (List UInt8))} {F : List UInt8} {dd : Bool} {R : List (List UInt8)} (h : CrL L j l F dd R) (hL : L.length ≤ 1048576) (hbk : (L.map bulkL).sum ≤ 1048576) :
    (allB l).length ≤ 50000000 ∧ l.flatten.length ≤ 1048576 ∧ (∀ S ∈ l, (recB S).length ≤ 16777216) ∧ (∀ x ∈ l.flatten, x.length ≤ 1048576) ∧ F.length ≤ 50000000 ∧ (dd = true → (recB R).length ≤ 16777216 ∧ R.length ≤ 1048576 ∧ ∀ x ∈ R, x.length ≤ 1048576) := by
  obtain ⟨k, hk, rfl, _⟩ := h.lk
  have hst := sum_take_le L k
  have h1 : (allB (fl ((RsL L).take k))).length ≤ 50000000 := by
    rw [RsL_takeL]
    have h1 := fl_len (L.take k)
    have h3 : (L.take k).length ≤ L.length := by rw [List.length_take]; omega
    show (allB (fl (RsL (L.take k)))).length ≤ _
    unfold RsL
    omega
  have h2 : (fl ((RsL L).take k)).flatten.length ≤ 1048576 := by
    have a1 := fl_flat_le ((RsL L).take k)
    have a2 := take_flat_le (RsL L) k
    have a3 := flat_len L
    omega
  refine ⟨h1, h2, fun S hS => fl_ok hS, fun x hx => ?_, ?_, fun hd => ?_⟩
  · have := flat_mem L x (take_mem (fl_mem hx)); omega
  · cases dd with
    | false => rw [h.al rfl]; simp
    | true =>
      obtain ⟨e, _, x, hx, rfl⟩ := h.de rfl
      rw [e]
      have a1 := frB_len x
      have a2 := bulk_mem hx
      omega
  · obtain ⟨e, ho, x, hx, rfl⟩ := h.de hd
    unfold okR at ho
    simp at ho
    have hm : bsl x.l ∈ RsL L := List.mem_map.2 ⟨x, hx, rfl⟩
    have a2 := bulk_mem hx
    have a3 := sumB_bulk x.l
    have a4 : bulkL x = (x.l.map fun y => y.bs.length + 1).sum := rfl
    refine ⟨ho.2, by rw [bsl_len]; omega, fun y hy => ?_⟩
    have := flat_mem L y (List.mem_flatten.2 ⟨_, hm, hy⟩)
    omega
/-- Where the rounds stand: have, more, the log. -/
structure CrI (w : World) (p dp mb : Nat) (L : List Ls) (j : Nat) (l : List (List (List UInt8))) (F : List UInt8) (dd : Bool) (R : List (List UInt8)) (ha : Option Addr) (hl : List Bs) (ma : Option Addr) (ml : List Bs) (W : World) : Prop where
  x : CrX w p dp mb l F (2 + 2 * j) dd (blk ha ++ blk ma) W
  h : BsE.See W ha hl
  m : BsE.See W ma ml
  ho : ∀ y ∈ hl, y.ok w
  mo : ∀ y ∈ ml, y.ok w
  hb : bsl hl = l.flatten
  ll : CrL L j l F dd R
  mb : dd = true → bsl ml = l.flatten ++ R
  ml : ml.length ≤ 3000000
theorem CrX.kp {w W : World} {p dp mb : Nat} {l : List (List (List UInt8))} {F : List UInt8} {b : Nat} {dd : Bool} {X : List Nat} (h : CrX w p dp mb l F b dd X W) : Kp [] w W := by
  obtain ⟨xs, s, t, B, v, h1, h2, h3⟩ := h
  exact h2.kp
theorem CrX.dead {w W : World} {p dp mb : Nat} {l : List (List (List UInt8))} {F : List UInt8} {b : Nat} {dd : Bool} {X : List Nat} (h : CrX w p dp mb l F b dd X W) : Calls Tryd.prog 17 #[.pointer (some ⟨dp, 0, none⟩)] W fun e w' => e = .returned (.bool dd) ∧ w' = W := by
  obtain ⟨xs, s, t, B, v, h1, h2, h3⟩ := h
  exact cDead h2.disk
/-- More is made: what there is, and the next list. -/
theorem CrI.more {w W : World} {p dp mb : Nat} {L : List Ls} {j : Nat} {l : List (List (List UInt8))} {F : List UInt8} {R : List (List UInt8)} {ha : Option Addr} {hl : List Bs} {ma : Option Addr} {ml : List Bs} (hI : CrI w p dp mb L j l F false R ha hl ma ml W) (hc : Nat) (hll : hl.length ≤ 1048576)
    (ya : Option Addr) (yc : Nat) (yl : List Bs) (hy : ∀ W', Kp [] w W' → BsE.See W' ya yl) (hyo : ∀ y ∈ yl, y.ok w) (hyl : yl.length ≤ 1048576) :
    ∃ a1 c1 W1, (Builtin.append_ #[23, 23] 23 #[.slice none 0 0, .slice ha hl.length hc]).run Tryd.prog W = .ok (.slice a1 hl.length c1) W1 ∧
      ∃ a2 c2 W2, (Builtin.append_ #[23, 23] 23 #[.slice a1 hl.length c1, .slice ya yl.length yc]).run Tryd.prog W1 = .ok (.slice a2 (hl ++ yl).length c2) W2 ∧
        CrX w p dp mb l [] (2 + 2 * j) false (blk ha ++ blk a2) W2 ∧ BsE.See W2 ha hl ∧ BsE.See W2 a2 (hl ++ yl) := by
  have hF := hI.ll.al rfl
  subst hF
  obtain ⟨a1, c1, W1, r1, w1, k1, n1⟩ := appBs (W := W) (a := none) (c := 0) (l := []) (.inl ⟨rfl, rfl⟩) ha hc hl hI.h (by simp; omega)
  rw [List.nil_append] at r1 w1 n1
  have k1' : Kp [] W W1 := by simpa [ownQ, blk] using k1
  have n1' : ∀ k ∈ blk a1, W.heap.size ≤ k := fun k hk => by
    rcases n1 k (by rw [ownQ]; exact hk) with e | e
    · simp [ownQ, blk] at e
    · exact e
  have kw1 := hI.x.kp.trans k1' (by simp)
  obtain ⟨a2, c2, W2, r2, w2, k2, n2⟩ := appBs w1 ya yc yl (hy W1 kw1) (by omega)
  rw [ownQ] at k2
  have k12 : Kp [] W W2 := k1'.trans k2 (fun k hk => .inr (n1' k hk))
  obtain ⟨_, _, e2, s2, _⟩ := w2.see
  cases e2
  have hz := k12.size
  have hz1 := k1'.size
  refine ⟨a1, c1, W1, r1, a2, c2, W2, r2, hI.x.keep k12 (by simp) (fun k hk => ?_), hI.h.keptNew k12, s2⟩
  rcases List.mem_append.1 hk with h | h
  · refine ⟨.inl (List.mem_append_left _ h), ?_⟩
    obtain ⟨xs, s, t, B, v, h1, h2, h3⟩ := hI.x
    have := (h3 k (List.mem_append_left _ h)).2
    omega
  · refine ⟨.inr ?_, w2.lt k (by rw [ownQ]; exact h)⟩
    rcases n2 k (by rw [ownQ]; exact h) with e | e
    · rw [ownQ] at e; exact n1' k e
    · omega
/-- What a round leaves. -/
theorem CrI.next {w W W' : World} {p dp mb : Nat} {L : List Ls} {j : Nat} (hj : j < L.length) {l : List (List (List UInt8))} {R : List (List UInt8)} {ha : Option Addr} {hl : List Bs} {a2 : Option Addr} {yl : List Bs} (hL : L[j].l = yl) (hlk : CrL L j l [] false R)
    (hs : BsE.See W ha hl) (ms : BsE.See W a2 (hl ++ yl)) (ho : ∀ y ∈ hl, y.ok w) (hyo : ∀ y ∈ yl, y.ok w) (hb : bsl hl = l.flatten) (hll : hl.length ≤ 1048576) (hyl : yl.length ≤ 1048576)
    {z : Int} (hA : CrA w p dp mb l (2 + 2 * j) (blk ha ++ blk a2) (bsl yl) W W' z) {S : List Nat} (k : Kp S W W') (hS : ∀ k ∈ S, k ∉ blk ha ++ blk a2 ∧ w.heap.size ≤ k) :
    (z = 0 ∧ ∃ l', CrI w p dp mb L (j + 1) l' [] false [] a2 (hl ++ yl) a2 (hl ++ yl) W') ∨ (z = 90 ∧ CrI w p dp mb L (j + 1) l [] false [] ha hl ha hl W') ∨ (z = 44 ∧ CrI w p dp mb L (j + 1) l (frB (bsl yl)) true (bsl yl) ha hl a2 (hl ++ yl) W') := by
  obtain ⟨q, hq, e, hqj⟩ := hlk.lk
  have hqj := hqj rfl
  subst hqj
  have hsn := RsL_take hj
  rw [hL] at hsn
  have hfs := fl_snoc ((RsL L).take q) (bsl yl)
  rw [← hsn, ← e] at hfs
  have hS1 : BsE.See W' ha hl := hs.kept k (fun _ j hj hm => (hS j hm).1 (List.mem_append_left _ hj))
  have hS2 : BsE.See W' a2 (hl ++ yl) := ms.kept k (fun _ j hj hm => (hS j hm).1 (List.mem_append_right _ hj))
  have hmo : ∀ y ∈ hl ++ yl, y.ok w := fun y hy => by
    rcases List.mem_append.1 hy with h | h
    · exact ho y h
    · exact hyo y h
  have hbm : bsl (hl ++ yl) = l.flatten ++ bsl yl := by rw [← hb]; simp [bsl]
  have hml : (hl ++ yl).length ≤ 3000000 := by rw [List.length_append]; omega
  have hx0 : L[q] ∈ L := List.getElem_mem hj
  cases hA with
  | done h1 h2 =>
    refine .inl ⟨rfl, _, h2.keep (Kp.refl [] _) (by simp) (fun j hj => ?_), hS2, hS2, hmo, hmo, ?_, ⟨⟨q + 1, Nat.le_refl _, hfs.symm, fun _ => rfl⟩, fun _ => rfl, fun h => by cases h⟩, (fun h => by cases h), hml⟩
    · have hj' : j ∈ blk ha ++ blk a2 := by
        rcases List.mem_append.1 hj with h | h <;> exact List.mem_append_right _ h
      obtain ⟨xs, s, t, B, v, g1, g2, g3⟩ := h2
      exact ⟨.inl hj', (g3 j hj').2⟩
    · rw [hbm]
      split
      · simp
      · rename_i hno
        rcases h1 with h | h
        · rw [h]; simp
        · exact absurd h hno
  | no h0 h2 =>
    rw [if_neg (by simp [h0])] at hfs
    refine .inr (.inl ⟨rfl, h2.keep (Kp.refl [] _) (by simp) (fun j hj => ?_), hS1, hS1, ho, ho, hb, ⟨⟨q + 1, Nat.le_refl _, hfs.symm, fun _ => rfl⟩, fun _ => rfl, fun h => by cases h⟩, (fun h => by cases h), by omega⟩)
    have hj' : j ∈ blk ha ++ blk a2 := by
      rcases List.mem_append.1 hj with h | h <;> exact List.mem_append_left _ h
    obtain ⟨xs, s, t, B, v, g1, g2, g3⟩ := h2
    exact ⟨.inl hj', (g3 j hj').2⟩
  | died h0 h2 =>
    exact .inr (.inr ⟨rfl, h2, hS1, hS2, ho, hmo, hb, ⟨⟨q, by omega, e, fun h => by cases h⟩, fun h => (by cases h), fun _ => ⟨rfl, h0, _, hx0, by rw [hL]⟩⟩, fun _ => hbm, hml⟩)
/-- What was found tells what there was, or more. -/
structure CrE (w : World) (M : List (List UInt8)) (ha : Option Addr) (hl : List Bs) (ma : Option Addr) (ml : List Bs) (W : World) : Prop where
  h : BsE.See W ha hl
  m : BsE.See W ma ml
  ho : ∀ y ∈ hl, y.ok w
  mo : ∀ y ∈ ml, y.ok w
  o : M = bsl hl ∨ M = bsl ml
  kp : Kp [] w W
  n : M.length ≤ 100000000
  x : ∀ y ∈ M, y.length ≤ 100000000
  hn : hl.length ≤ 100000000
  mn : ml.length ≤ 100000000
theorem CrE.keep {w W W' : World} {M : List (List UInt8)} {ha : Option Addr} {hl : List Bs} {ma : Option Addr} {ml : List Bs} (h : CrE w M ha hl ma ml W) {S : List Nat} (k : Kp S W W') (hS : ∀ k ∈ S, k ∉ blk ha ++ blk ma ∧ w.heap.size ≤ k) : CrE w M ha hl ma ml W' :=
  ⟨h.h.kept k (fun _ j hj hm => (hS j hm).1 (List.mem_append_left _ hj)), h.m.kept k (fun _ j hj hm => (hS j hm).1 (List.mem_append_right _ hj)), h.ho, h.mo, h.o, h.kp.trans k (fun j hj => .inr (hS j hj).2), h.n, h.x, h.hn, h.mn⟩
theorem CrI.crash {w W : World} {p dp mb : Nat} {L : List Ls} {j : Nat} {l : List (List (List UInt8))} {F : List UInt8} {dd : Bool} {R : List (List UInt8)} {ha : Option Addr} {hl : List Bs} {ma : Option Addr} {ml : List Bs} (hI : CrI w p dp mb L j l F dd R ha hl ma ml W) (hL : L.length ≤ 1048576) (hbk : (L.map bulkL).sum ≤ 1048576)
    (ka : Option Addr) (kc : Nat) (ks : List Int) (hks : Ints W ka ks) (hkl : ks.length ≤ kc) (hkc : kc ≤ 9223372036854775807) (hk64 : ∀ k ∈ ks, -9223372036854775808 ≤ k ∧ k < 9223372036854775808) :
    Calls Tryd.prog 19 #[.pointer (some ⟨dp, 0, none⟩), .slice ka ks.length kc] W fun e W' => ∃ p' mb' M, e = .returned (.pointer (some ⟨p', 0, none⟩)) ∧ CrE w M ha hl ma ml W' ∧ Fnd w (blk ha ++ blk ma) p' mb' M 0 none false W' := by
  obtain ⟨b1, b2, b3, b4, b5, b6⟩ := hI.ll.bounds hL hbk
  have hhl : hl.length ≤ 1048576 := by rw [← bsl_len, hI.hb]; exact b2
  have hF : F = [] ∨ F = frB R ∧ (recB R).length ≤ 16777216 := by
    cases dd with
    | false => exact .inl (hI.ll.al rfl)
    | true => exact .inr ⟨(hI.ll.de rfl).1, (b6 rfl).1⟩
  refine (hI.x.crash (by omega) (by omega) b3 R hF ka kc ks hks hkl hkc hk64).mono ?_
  rintro e W' ⟨p', mb', M, rfl, hM, hf, k⟩
  refine ⟨p', mb', M, rfl, ?_, hf⟩
  rcases hM with rfl | ⟨hne, rfl⟩
  · exact ⟨hI.h.keptNew k, hI.m.keptNew k, hI.ho, hI.mo, .inl hI.hb.symm, hI.x.kp.trans k (by simp), by omega, fun y hy => by have := b4 y hy; omega, by omega, by have := hI.ml; omega⟩
  · have hd : dd = true := by
      cases dd with
      | false => exact absurd (hI.ll.al rfl) hne
      | true => rfl
    obtain ⟨c1, c2, c3⟩ := b6 hd
    refine ⟨hI.h.keptNew k, hI.m.keptNew k, hI.ho, hI.mo, .inr (hI.mb hd).symm, hI.x.kp.trans k (by simp), by rw [List.length_append]; omega, fun y hy => ?_, by omega, by have := hI.ml; omega⟩
    rcases List.mem_append.1 hy with h | h
    · have := b4 y h; omega
    · have := c3 y h; omega
end Go.Proofs.YtfpmolajpmljmaaDoor
end

section
namespace Go.Proofs.YtfpmolajpmljmaaDoor
open Go.RowKit Go.Hay
set_option linter.unusedVariables false
set_option linter.unusedSimpArgs false

set_option maxHeartbeats 16000000 in
set_option maxRecDepth 100000 in
theorem crashWalk9 (a : Option Addr) (c : Nat) (L : List Ls) (at1 at2 : Int) (ka1 ka2 : Option Addr) (kc1 kc2 : Nat) (ks1 ks2 : List Int) (w : World) (ht : Tab w) (hs : LsE.See w a L) (hok : ∀ x ∈ L, x.ok w) (hL : L.length ≤ 1048576) (hbk : (L.map bulkL).sum ≤ 1048576)
    (h1 : -9223372036854775808 ≤ at1 ∧ at1 ≤ 9223372036854775807) (h2 : -9223372036854775808 ≤ at2 ∧ at2 ≤ 9223372036854775807)
    (hk1 : Ints w ka1 ks1 ∧ ks1.length ≤ kc1 ∧ kc1 ≤ 9223372036854775807 ∧ ∀ k ∈ ks1, -9223372036854775808 ≤ k ∧ k < 9223372036854775808) (hk2 : Ints w ka2 ks2 ∧ ks2.length ≤ kc2 ∧ kc2 ≤ 9223372036854775807 ∧ ∀ k ∈ ks2, -9223372036854775808 ≤ k ∧ k < 9223372036854775808) :
    Calls Tryd.prog 5 #[.slice a L.length c, .agg #[.int .i64 at1, .slice ka1 ks1.length kc1], .agg #[.int .i64 at2, .slice ka2 ks2.length kc2]] w fun e w' => e = .returned (.bool true) ∧ Below w.heap.size w w' := by
  have ht' := hid ht
  obtain ⟨wB, hwB⟩ : ∃ y, (w.alloc (.cells #[.int .i64 at1, .slice ka1 ks1.length kc1] 36)).alloc (.cells #[.int .i64 at2, .slice ka2 ks2.length kc2] 36) = y := ⟨_, rfl⟩
  obtain ⟨q1, hq1⟩ : ∃ q, w.heap.size = q := ⟨_, rfl⟩
  have kB : Kp [] w wB := by rw [← hwB]; exact ((Kp.refl _ _).alloc _).alloc _
  have zB : wB.heap.size = w.heap.size + 2 := by rw [← hwB]; simp
  have hbx : Hid (∀ W S, Kp S wB W → q1 ∉ S → q1 + 1 ∉ S → (W.cell? ⟨q1, 0, none⟩ = some (.int .i64 at1) ∧ W.cell? ⟨q1, 1, none⟩ = some (.slice ka1 ks1.length kc1)) ∧ W.cell? ⟨q1 + 1, 0, none⟩ = some (.int .i64 at2) ∧ W.cell? ⟨q1 + 1, 1, none⟩ = some (.slice ka2 ks2.length kc2)) := fun W S k n1 n2 => by
    subst hq1
    have g : ∀ (o : Nat) (u : Value), (w.alloc (.cells #[.int .i64 at1, .slice ka1 ks1.length kc1] 36)).cell? ⟨w.heap.size, o, none⟩ = some u → W.cell? ⟨w.heap.size, o, none⟩ = some u := fun o u hu => by
      have e1 : wB.cell? ⟨w.heap.size, o, none⟩ = some u := by rw [← hwB]; exact ((Kp.refl [] _).alloc _).cell (World.block_lt_of_cell? _ _ hu) (by simp) |>.trans hu
      exact (k.cell (World.block_lt_of_cell? _ _ e1) n1).trans e1
    have z1 : (w.alloc (.cells #[.int .i64 at1, .slice ka1 ks1.length kc1] 36)).heap.size = w.heap.size + 1 := by simp
    have g2 : ∀ (o : Nat) (u : Value), (#[Value.int .i64 at2, .slice ka2 ks2.length kc2] : Array Value)[o]? = some u → W.cell? ⟨w.heap.size + 1, o, none⟩ = some u := fun o u hu => by
      have e1 : wB.cell? ⟨w.heap.size + 1, o, none⟩ = some u := by rw [← hwB, ← z1]; exact (World.cell?_alloc_new _ _ _ o).trans hu
      exact (k.cell (World.block_lt_of_cell? _ _ e1) n2).trans e1
    exact ⟨⟨g 0 _ ((World.cell?_alloc_new w _ _ 0).trans rfl), g 1 _ ((World.cell?_alloc_new w _ _ 1).trans rfl)⟩, g2 0 _ rfl, g2 1 _ rfl⟩
  have aN := hid (cNew 1125899906842624 wB (by omega))
  have hcl : Hid (∀ (j : Nat) (h : j < L.length) (W : World), Kp [] w W → (∃ g o, a = some ⟨g, o, none⟩ ∧ W.cell? ⟨g, o + j, none⟩ = some (.slice L[j].a L[j].l.length L[j].c)) ∧ (∀ X : Nat → Prop, (∀ k, X k → w.heap.size ≤ k) → ArgQ W L[j].a L[j].l X) ∧ L[j].l.length ≤ 1048576) := fun j h W k => by
    obtain ⟨g, o, e, hc⟩ := lsAt hs (k := j) (x := L[j]) (by simp [h])
    have ho := hok L[j] (List.getElem_mem h)
    have hb := bulk_mem (List.getElem_mem h)
    have hsb := sumB_bulk L[j].l
    have hk' : bulkL L[j] = (L[j].l.map fun y => y.bs.length + 1).sum := rfl
    refine ⟨⟨g, o, e, (k.cell (p := ⟨g, o + j, none⟩) (World.block_lt_of_cell? _ _ hc) (by simp)).trans hc⟩, fun X hX => ⟨(ho.keptNew k).see, (ho.keptNew k).ok, fun hne q hq hx => ?_, fun y hy hne q hq hx => ?_, by omega, fun y hy => ?_⟩, by omega⟩
    · have h1 := hX q hx
      rcases ho.see with e' | ⟨g', o', e', hc'⟩
      · exact hne e'
      · rw [e'] at hq
        simp [blk] at hq
        subst hq
        have h0 : 0 < (BsE.cs L[j].l).length := by rw [El.cs_length]; have : 0 < L[j].l.length := List.length_pos_iff.2 hne; simp [BsE]; omega
        have := World.block_lt_of_cell? _ _ (hc' 0 _ (List.getElem?_eq_getElem h0))
        simp at this
        omega
    · have h1 := hX q hx
      have := (ho.ok y hy).see.lt hne q hq
      omega
    · have h2 : y.bs.length + 1 ≤ (L[j].l.map fun y => y.bs.length + 1).sum := by
        have : y.bs.length + 1 ∈ L[j].l.map fun y => y.bs.length + 1 := List.mem_map.2 ⟨y, hy, rfl⟩
        generalize (L[j].l.map fun y => y.bs.length + 1) = q at this
        induction q with
        | nil => cases this
        | cons z q ih =>
          rw [List.sum_cons]
          rcases List.mem_cons.1 this with e | h
          · omega
          · have := ih h; omega
      omega
  have hK := hid (And.intro hk1 hk2)
  clear ht hs hok hk1 hk2
  go_enter Tryd.func5, Tryd.ntmps5
  go_wp2_with fail
  refine aN.out.mono ?_
  rintro e w1 ⟨dp, mb, rfl, hD1, k1b, hdp, hmb⟩
  have hf1 : ∀ k ∈ foot dp mb [], q1 + 2 ≤ k := fun k hk => by simp [foot] at hk; rcases hk with rfl | rfl <;> omega
  have k1 := kB.trans k1b (by simp)
  have aV := hid (cAliveQ w1 (ht'.out.kept k1 (by simp)))
  have H1 := hid (And.intro hD1 (And.intro k1 (And.intro hf1 k1b)))
  have kB' := hid kB
  clear aN hD1 k1 hf1 k1b kB hwB
  go_wp2_with fail
  refine aV.out.mono ?_
  rintro e w2 ⟨rfl, k2⟩
  have aV2 := hid (cAliveQ w2 ((ht'.out.kept H1.out.2.1 (by simp)).kept k2 (by simp)))
  have kw2 := hid (H1.out.2.1.trans k2 (by simp))
  have kb2 := hid (H1.out.2.2.2.trans k2 (by simp))
  obtain ⟨⟨c10, c11⟩, c20, c21⟩ := hbx.out w2 [] kb2.out (by simp) (by simp)
  by_cases ha1 : at1 < 0
  · have d1 : decide (at1 < 0) = true := by simpa using ha1
    clear aV H1 k2 hcl
    go_wp2_with fail
    refine aV2.out.mono ?_
    rintro e w3 ⟨rfl, k3⟩
    have kw3 := hid (kw2.out.trans k3 (by simp))
    clear aV2 k3
    go_wp2_with fail
    go_ret
    exact ⟨rfl, kw3.out.below⟩
  by_cases ha2 : at2 < 0
  · have d1 : decide (at1 < 0) = false := by simpa using ha1
    have d2 : decide (at2 < 0) = true := by simpa using ha2
    clear aV H1 k2 hcl
    go_wp2_with fail
    refine aV2.out.mono ?_
    rintro e w3 ⟨rfl, k3⟩
    have kw3 := hid (kw2.out.trans k3 (by simp))
    clear aV2 k3
    go_wp2_with fail
    go_ret
    exact ⟨rfl, kw3.out.below⟩
  have d1 : decide (at1 < 0) = false := by simpa using ha1
  have d2 : decide (at2 < 0) = false := by simpa using ha2
  obtain ⟨n1, rfl⟩ := Int.eq_ofNat_of_zero_le (show (0 : Int) ≤ at1 by omega)
  obtain ⟨n2, rfl⟩ := Int.eq_ofNat_of_zero_le (show (0 : Int) ≤ at2 by omega)
  have aC := hid (cCreate (H1.out.1.keptNew k2) (by simp [newD]) (by simp [newD]) (by intro f hf; simp [newD] at hf) nmL (by unfold maxLen; simp [nmL]))
  have ec : createD (newD 1125899906842624) nmL = (oneD 1125899906842624 2 nmL [] 0, 0) := create_new 1125899906842624 nmL rnL
  rw [ec] at aC
  have H2 := hid (And.intro kw2.out (And.intro H1.out.2.2.1 kb2.out))
  clear aV aV2 k2 H1 ec kw2 ha1 ha2 kb2
  go_wp2_with fail
  refine aC.out.mono ?_
  intro e w3 hO
  obtain ⟨p, v, B, xs, rfl, hLD, _, _⟩ := LD.ofOpn (w0 := wB) hO rfl H2.out.2.2 (fun k hk => by have := H2.out.2.1 k hk; omega)
  dsimp only at hLD ⊢
  have aA := hid (cArm hLD.disk (n1 : Int) (by omega))
  have hI0 := hid hLD
  clear aC hO hLD H2 c10 c11 c20 c21
  obtain ⟨⟨c10, c11⟩, c20, c21⟩ := hbx.out w3 [] hI0.out.kp (by simp) (by simp)
  go_wp2_with fail
  refine aA.out.mono ?_
  rintro e w4 ⟨rfl, hD4, k4⟩
  have HX0 : Hid (CrX wB p dp mb [] [] 2 false [] w4) := by
    have hdf : dp ∈ foot dp mb xs := by simp [foot]
    have ea : armD (oneD 1125899906842624 2 nmL [] 0) (n1 : Int) = oneX 1125899906842624 2 nmL (allB [] ++ []) (allB []).length (some n1) false := by simp [armD, oneD, oneX, allB]
    rw [ea] at hD4
    have h := hI0.out
    have hz := k4.size
    refine ⟨xs, 2, n1, B, v, Nat.le_refl _, ⟨h.log.kept k4 (fun hm => by simp at hm; exact (h.sep dp hdf).2 hm.symm) (fun k hk => by simp at hk; subst hk; exact (h.sep _ hdf).1), hD4, h.sep, h.lf, fun k hk => ⟨(h.lb k hk).1, by have := (h.lb k hk).2; omega⟩, h.lp, h.kp.trans k4 (fun k hk => .inr (by simp at hk; subst hk; exact h.lf _ hdf))⟩, by simp⟩
  have HI0 : Hid (CrI wB p dp mb L 0 [] [] false [] none [] none [] w4) := by
    refine ⟨by simpa [blk] using HX0.out, .inl rfl, .inl rfl, by simp, by simp, rfl, ⟨⟨0, Nat.le_refl _, by simp [fl], fun _ => rfl⟩, fun _ => rfl, fun h => by cases h⟩, (fun h => by cases h), by simp⟩
  have hTB : Hid (Tab wB) := ht'.out.kept kB'.out (by simp)
  clear aA hD4 k4 hI0 c10 c11 c20 c21 HX0 d1 d2
  go_wp2_with fail
  go_loopw [10, 11, 13, 52] (fun v10 v11 _ i wn => ∃ (j : Nat) (l : List (List (List UInt8))) (F : List UInt8) (dd : Bool) (R : List (List UInt8)) (ha : Option Addr) (hc : Nat) (hl : List Bs) (ma : Option Addr) (mc : Nat) (ml : List Bs), j ≤ L.length ∧ i = .int .i64 j ∧ v10 = .slice ha hl.length hc ∧ v11 = .slice ma ml.length mc ∧ Hid (CrI wB p dp mb L j l F dd R ha hl ma ml wn)) (fun _ _ _ i _ => L.length - (intOf i).toNat)
  case atStart => exact ⟨0, [], [], false, [], none, 0, [], none, 0, [], Nat.zero_le _, rfl, rfl, rfl, HI0⟩
  case round =>
    obtain ⟨j, l, F, dd, R, ha, hc, hl, ma, mc, ml, hj, rfl, rfl, rfl, HI⟩ := hrel
    clear HI0
    obtain ⟨⟨c10, c11⟩, c20, c21⟩ := hbx.out wr [] HI.out.x.kp (by simp) (by simp)
    by_cases hlt : j < L.length
    · have aD := hid HI.out.x.dead
      have dj1 : (j : Int) < (L.length : Int) := by omega
      have dj0 : (0 : Int) ≤ (j : Int) := by omega
      have dj7 : (-9223372036854775808 : Int) ≤ (j : Int) + 1 := by omega
      have dj8 : (j : Int) + 1 ≤ 9223372036854775807 := by omega
      obtain ⟨⟨g, o, ea, cL⟩, hAq, hyl⟩ := hcl.out j hlt _ (kB'.out.trans HI.out.x.kp (by simp))
      subst ea
      cases dd with
      | true =>
        have aCr := hid (HI.out.crash hL hbk ka1 kc1 ks1 (hK.out.1.1.kept (kB'.out.trans HI.out.x.kp (by simp))) hK.out.1.2.1 hK.out.1.2.2.1 hK.out.1.2.2.2)
        go_wp2_with fail
        refine aD.out.mono ?_
        rintro e w8 ⟨rfl, ew⟩
        subst ew
        clear aD cL hAq
        go_wp2_with fail
        refine aCr.out.mono ?_
        rintro e w5 ⟨p5, mb5, M, rfl, hE, hF⟩
        have HE := hid hE
        have aAr := hid (hF.arm n2 (by omega))
        clear c10 c11 c20 c21
        obtain ⟨⟨c10, c11⟩, c20, c21⟩ := hbx.out w5 [] hE.kp (by simp) (by simp)
        clear aCr hE hF HI
        go_wp2_with fail
        refine aAr.out.mono ?_
        rintro e w6 ⟨rfl, hF6, S6, k6, hS6⟩
        have HE6 := hid (HE.out.keep k6 hS6)
        have aO := hid (hF6.open (by omega) HE.out.n HE.out.x hTB.out)
        clear aAr hF6 k6 hS6 HE c10 c11 c20 c21
        go_wp2_with fail
        refine aO.out.mono ?_
        rintro e w7 ⟨⟨S7, k7, hS7⟩, kw7, (⟨p4, rfl, hd, hg⟩ | ⟨_, rfl, t', hF7⟩)⟩
        · have HE7 := hid (HE6.out.keep k7 hS7)
          have aD7 := hid hd
          have hg' := hid hg
          clear aO k7 hS7 HE6 kw7 hd hg
          go_wp2_with fail
          refine aD7.out.mono ?_
          rintro e w8 ⟨rfl, ew⟩
          subst ew
          have hg := hg'.out
          clear aD7 hg'
          have aG := hid (hg w8 (Kp.refl _ _))
          clear hg
          go_wp2_with fail
          refine aG.out.mono ?_
          rintro e w20 ⟨ga, gc, gl, rfl, t1, o1, b1, k20⟩
          have HE20 := hid (HE7.out.keep k20 (by simp))
          have hgl : gl.length ≤ 100000000 := by rw [← bsl_len, b1]; exact HE20.out.n
          have hhn := HE20.out.hn
          have hmn := HE20.out.mn
          have aS1 := cSameQ ga ha gc hc gl hl w20 t1 HE20.out.h o1 (fun y hy => (HE20.out.ho y hy).keptNew HE20.out.kp) (by omega) (by omega)
          rw [b1] at aS1
          have aS2 : Hid (∀ W, Kp [] w20 W → Calls Tryd.prog 13 #[.slice ga gl.length gc, .slice ma ml.length mc] W fun e w' => e = .returned (.bool (decide (M = bsl ml))) ∧ Kp [] W w') := fun W k => by
            have h := cSameQ ga ma gc mc gl ml W (t1.keptNew k) (HE20.out.m.keptNew k) (fun y hy => (o1 y hy).keptNew k) (fun y hy => (HE20.out.mo y hy).keptNew (HE20.out.kp.trans k (by simp))) (by omega) (by omega)
            rw [b1] at h
            exact h
          have kw20 := hid (kB'.out.trans HE20.out.kp (by simp))
          have hMo := hid HE20.out.o
          by_cases hM : M = bsl hl
          · rw [decide_eq_true hM] at aS1
            have AS1 := hid aS1
            clear aS1 aS2 t1 o1 b1 hM hMo aG HE20 k20
            go_wp2_with fail
            refine AS1.out.mono ?_
            rintro e w21 ⟨rfl, k21⟩
            have K21 := hid (kw20.out.trans k21 (by simp))
            clear AS1 k21
            go_wp2_with fail
            go_ret
            exact ⟨rfl, K21.out.below⟩
          · have hM2 : M = bsl ml := hMo.out.resolve_left hM
            rw [decide_eq_false hM] at aS1
            have AS1 := hid aS1
            have hM2' := hid (decide_eq_true hM2)
            clear aS1 t1 o1 b1 hM hM2 hMo aG HE20 k20
            go_wp2_with fail
            refine AS1.out.mono ?_
            rintro e w21 ⟨rfl, k21⟩
            have K21 := hid (kw20.out.trans k21 (by simp))
            have AS2 := hid (aS2.out w21 k21)
            rw [hM2'.out] at AS2
            clear AS1 k21 aS2 hM2'
            go_wp2_with fail
            refine AS2.out.mono ?_
            rintro e w22 ⟨rfl, k22⟩
            have K22 := hid (K21.out.trans k22 (by simp))
            clear AS2 k22
            go_wp2_with fail
            go_ret
            exact ⟨rfl, K22.out.below⟩
        · have HE7 := hid (HE6.out.keep k7 hS7)
          have aD7 := hid hF7.dead
          have HF7 := hid hF7
          obtain ⟨⟨c10, c11⟩, c20, c21⟩ := hbx.out w7 [] kw7 (by simp) (by simp)
          have aC2 := hid (hF7.crash ka2 kc2 ks2 (hK.out.2.1.kept (kB'.out.trans kw7 (by simp))) hK.out.2.2.1 hK.out.2.2.2.1 hK.out.2.2.2.2)
          clear aO k7 hS7 HE6 kw7 hF7
          go_wp2_with fail
          refine aD7.out.mono ?_
          rintro e w8 ⟨rfl, ew⟩
          subst ew
          clear aD7
          go_wp2_with fail
          refine aC2.out.mono ?_
          rintro e w9 ⟨p9, mb9, rfl, hF9, k9⟩
          have HE9 := hid (HE7.out.keep k9 (by simp))
          have aO2 := hid (hF9.open (by omega) HE9.out.n HE9.out.x hTB.out)
          clear aC2 hF9 k9 HE7 c10 c11 c20 c21
          go_wp2_with fail
          refine aO2.out.mono ?_
          rintro e w10 ⟨⟨S10, k10, hS10⟩, kw10, (⟨p11, rfl, hd, hg⟩ | ⟨hno, _⟩)⟩
          · have HE10 := hid (HE9.out.keep k10 hS10)
            clear aO2 k10 hS10 HE9 kw10 hd
            have aG := hid (hg w10 (Kp.refl _ _))
            clear hg
            go_wp2_with fail
            refine aG.out.mono ?_
            rintro e w20 ⟨ga, gc, gl, rfl, t1, o1, b1, k20⟩
            have HE20 := hid (HE10.out.keep k20 (by simp))
            have hgl : gl.length ≤ 100000000 := by rw [← bsl_len, b1]; exact HE20.out.n
            have hhn := HE20.out.hn
            have hmn := HE20.out.mn
            have aS1 := cSameQ ga ha gc hc gl hl w20 t1 HE20.out.h o1 (fun y hy => (HE20.out.ho y hy).keptNew HE20.out.kp) (by omega) (by omega)
            rw [b1] at aS1
            have aS2 : Hid (∀ W, Kp [] w20 W → Calls Tryd.prog 13 #[.slice ga gl.length gc, .slice ma ml.length mc] W fun e w' => e = .returned (.bool (decide (M = bsl ml))) ∧ Kp [] W w') := fun W k => by
              have h := cSameQ ga ma gc mc gl ml W (t1.keptNew k) (HE20.out.m.keptNew k) (fun y hy => (o1 y hy).keptNew k) (fun y hy => (HE20.out.mo y hy).keptNew (HE20.out.kp.trans k (by simp))) (by omega) (by omega)
              rw [b1] at h
              exact h
            have kw20 := hid (kB'.out.trans HE20.out.kp (by simp))
            have hMo := hid HE20.out.o
            by_cases hM : M = bsl hl
            · rw [decide_eq_true hM] at aS1
              have AS1 := hid aS1
              clear aS1 aS2 t1 o1 b1 hM hMo aG HE20 k20
              go_wp2_with fail
              refine AS1.out.mono ?_
              rintro e w21 ⟨rfl, k21⟩
              have K21 := hid (kw20.out.trans k21 (by simp))
              clear AS1 k21
              go_wp2_with fail
              go_ret
              exact ⟨rfl, K21.out.below⟩
            · have hM2 : M = bsl ml := hMo.out.resolve_left hM
              rw [decide_eq_false hM] at aS1
              have AS1 := hid aS1
              have hM2' := hid (decide_eq_true hM2)
              clear aS1 t1 o1 b1 hM hM2 hMo aG HE20 k20
              go_wp2_with fail
              refine AS1.out.mono ?_
              rintro e w21 ⟨rfl, k21⟩
              have K21 := hid (kw20.out.trans k21 (by simp))
              have AS2 := hid (aS2.out w21 k21)
              rw [hM2'.out] at AS2
              clear AS1 k21 aS2 hM2'
              go_wp2_with fail
              refine AS2.out.mono ?_
              rintro e w22 ⟨rfl, k22⟩
              have K22 := hid (K21.out.trans k22 (by simp))
              clear AS2 k22
              go_wp2_with fail
              go_ret
              exact ⟨rfl, K22.out.below⟩
          · exact absurd rfl hno
      | false =>
        obtain ⟨b1, b2, b3, b4, b5, b6⟩ := HI.out.ll.bounds hL hbk
        have hhl : hl.length ≤ 1048576 := by rw [← bsl_len, HI.out.hb]; exact b2
        have hAqW := hid (fun W k => (hcl.out j hlt W k).2.1)
        have hfr := frB_len L[j]
        have hbm := bulk_mem (List.getElem_mem hlt)
        obtain ⟨Y, hY⟩ : ∃ Y, L[j] = Y := ⟨_, rfl⟩
        have hYl : Hid (L[j].l = Y.l) := by show _ = _; rw [hY]
        rw [hY] at cL hAq hyl hAqW hfr hbm
        obtain ⟨ya, yc, yl⟩ := Y
        dsimp only at cL hAq hyl hAqW hYl hfr
        have hyo : ∀ y ∈ yl, y.ok wB := (hAqW.out wB kB'.out (fun _ => False) (fun _ h => h.elim)).ok
        obtain ⟨a1, e1, W1, r1, a2, e2, W2, r2, hx2, hs2, hm2⟩ := HI.out.more hc hhl ya yc yl (fun W' k => (hAqW.out W' (kB'.out.trans k (by simp)) (fun _ => False) (fun _ h => h.elim)).see) hyo hyl
        have aA := hid (hx2.app (by omega) (by omega) (by omega) ya yc yl (fun Y' hY' => hAqW.out W2 (kB'.out.trans hx2.kp (by simp)) Y' (fun k hk => by have := hY' k hk; omega)) (by omega) hTB.out)
        have H2 := hid (And.intro hs2 (And.intro hm2 hyo))
        obtain ⟨ML, hML⟩ : ∃ ML, Hid (hl ++ yl = ML) := ⟨_, rfl⟩
        have hbb := hid (And.intro b1 b2)
        rw [hML.out] at r2
        clear hY hAq hAqW hx2 hs2 hm2 hyo b1 b2 b3 b4 b5 b6 hfr hbm hcl
        go_wp2_with fail
        refine aD.out.mono ?_
        rintro e w8 ⟨rfl, ew⟩
        subst ew
        clear aD
        go_wp2_with (first | (refine wpAppRunQ rfl _ _ 23 23 rfl _ _ _ rfl rfl r1 ?_) | (refine wpAppRunQ rfl _ _ 23 23 rfl _ _ _ rfl rfl r2 ?_) | fail)
        refine aA.out.mono ?_
        rintro e w9 ⟨z, rfl, hA, S, k9, hS9⟩
        have hlk := HI.out.ll
        rw [hlk.al rfl] at hlk
        have hN := CrI.next hlt hYl.out hlk H2.out.1 H2.out.2.1 HI.out.ho H2.out.2.2 HI.out.hb hhl hyl hA k9 hS9
        rw [hML.out] at hN
        clear aA hA k9 hS9 hlk H2 HI r1 r2 hbb cL c10 c11 c20 c21
        rcases hN with ⟨rfl, l', hI'⟩ | ⟨rfl, hI'⟩ | ⟨rfl, hI'⟩
        · have HI' := hid hI'
          clear hI'
          go_wp2_with fail
          go_roundw
          case rel => exact ⟨j + 1, l', [], false, [], a2, e2, ML, a2, e2, ML, by omega, by simp, rfl, rfl, HI'⟩
          case measure => simp [intOf]; omega
        · have HI' := hid hI'
          have aD := hid hI'.x.dead
          clear hI'
          go_wp2_with fail
          refine aD.out.mono ?_
          rintro e w10 ⟨rfl, ew⟩
          subst ew
          clear aD
          go_wp2_with fail
          go_roundw
          case rel => exact ⟨j + 1, l, [], false, [], ha, hc, hl, ha, hc, hl, by omega, by simp, rfl, rfl, HI'⟩
          case measure => simp [intOf]; omega
        · have HI' := hid hI'
          have aD := hid hI'.x.dead
          clear hI'
          go_wp2_with fail
          refine aD.out.mono ?_
          rintro e w10 ⟨rfl, ew⟩
          subst ew
          clear aD
          go_wp2_with fail
          go_roundw
          case rel => exact ⟨j + 1, l, _, true, _, ha, hc, hl, a2, e2, ML, by omega, by simp, rfl, rfl, HI'⟩
          case measure => simp [intOf]; omega
    · have dj2 : decide ((j : Int) < (L.length : Int)) = false := by simp; omega
      have aCr := hid (HI.out.crash hL hbk ka1 kc1 ks1 (hK.out.1.1.kept (kB'.out.trans HI.out.x.kp (by simp))) hK.out.1.2.1 hK.out.1.2.2.1 hK.out.1.2.2.2)
      go_wp2_with fail
      refine aCr.out.mono ?_
      rintro e w5 ⟨p5, mb5, M, rfl, hE, hF⟩
      have HE := hid hE
      have aAr := hid (hF.arm n2 (by omega))
      clear c10 c11 c20 c21
      obtain ⟨⟨c10, c11⟩, c20, c21⟩ := hbx.out w5 [] hE.kp (by simp) (by simp)
      clear aCr hE hF HI
      go_wp2_with fail
      refine aAr.out.mono ?_
      rintro e w6 ⟨rfl, hF6, S6, k6, hS6⟩
      have HE6 := hid (HE.out.keep k6 hS6)
      have aO := hid (hF6.open (by omega) HE.out.n HE.out.x hTB.out)
      clear aAr hF6 k6 hS6 HE c10 c11 c20 c21
      go_wp2_with fail
      refine aO.out.mono ?_
      rintro e w7 ⟨⟨S7, k7, hS7⟩, kw7, (⟨p4, rfl, hd, hg⟩ | ⟨_, rfl, t', hF7⟩)⟩
      · have HE7 := hid (HE6.out.keep k7 hS7)
        have aD7 := hid hd
        have hg' := hid hg
        clear aO k7 hS7 HE6 kw7 hd hg
        go_wp2_with fail
        refine aD7.out.mono ?_
        rintro e w8 ⟨rfl, ew⟩
        subst ew
        have hg := hg'.out
        clear aD7 hg'
        have aG := hid (hg w8 (Kp.refl _ _))
        clear hg
        go_wp2_with fail
        refine aG.out.mono ?_
        rintro e w20 ⟨ga, gc, gl, rfl, t1, o1, b1, k20⟩
        have HE20 := hid (HE7.out.keep k20 (by simp))
        have hgl : gl.length ≤ 100000000 := by rw [← bsl_len, b1]; exact HE20.out.n
        have hhn := HE20.out.hn
        have hmn := HE20.out.mn
        have aS1 := cSameQ ga ha gc hc gl hl w20 t1 HE20.out.h o1 (fun y hy => (HE20.out.ho y hy).keptNew HE20.out.kp) (by omega) (by omega)
        rw [b1] at aS1
        have aS2 : Hid (∀ W, Kp [] w20 W → Calls Tryd.prog 13 #[.slice ga gl.length gc, .slice ma ml.length mc] W fun e w' => e = .returned (.bool (decide (M = bsl ml))) ∧ Kp [] W w') := fun W k => by
          have h := cSameQ ga ma gc mc gl ml W (t1.keptNew k) (HE20.out.m.keptNew k) (fun y hy => (o1 y hy).keptNew k) (fun y hy => (HE20.out.mo y hy).keptNew (HE20.out.kp.trans k (by simp))) (by omega) (by omega)
          rw [b1] at h
          exact h
        have kw20 := hid (kB'.out.trans HE20.out.kp (by simp))
        have hMo := hid HE20.out.o
        by_cases hM : M = bsl hl
        · rw [decide_eq_true hM] at aS1
          have AS1 := hid aS1
          clear aS1 aS2 t1 o1 b1 hM hMo aG HE20 k20
          go_wp2_with fail
          refine AS1.out.mono ?_
          rintro e w21 ⟨rfl, k21⟩
          have K21 := hid (kw20.out.trans k21 (by simp))
          clear AS1 k21
          go_wp2_with fail
          go_ret
          exact ⟨rfl, K21.out.below⟩
        · have hM2 : M = bsl ml := hMo.out.resolve_left hM
          rw [decide_eq_false hM] at aS1
          have AS1 := hid aS1
          have hM2' := hid (decide_eq_true hM2)
          clear aS1 t1 o1 b1 hM hM2 hMo aG HE20 k20
          go_wp2_with fail
          refine AS1.out.mono ?_
          rintro e w21 ⟨rfl, k21⟩
          have K21 := hid (kw20.out.trans k21 (by simp))
          have AS2 := hid (aS2.out w21 k21)
          rw [hM2'.out] at AS2
          clear AS1 k21 aS2 hM2'
          go_wp2_with fail
          refine AS2.out.mono ?_
          rintro e w22 ⟨rfl, k22⟩
          have K22 := hid (K21.out.trans k22 (by simp))
          clear AS2 k22
          go_wp2_with fail
          go_ret
          exact ⟨rfl, K22.out.below⟩
      · have HE7 := hid (HE6.out.keep k7 hS7)
        have aD7 := hid hF7.dead
        have HF7 := hid hF7
        obtain ⟨⟨c10, c11⟩, c20, c21⟩ := hbx.out w7 [] kw7 (by simp) (by simp)
        have aC2 := hid (hF7.crash ka2 kc2 ks2 (hK.out.2.1.kept (kB'.out.trans kw7 (by simp))) hK.out.2.2.1 hK.out.2.2.2.1 hK.out.2.2.2.2)
        clear aO k7 hS7 HE6 kw7 hF7
        go_wp2_with fail
        refine aD7.out.mono ?_
        rintro e w8 ⟨rfl, ew⟩
        subst ew
        clear aD7
        go_wp2_with fail
        refine aC2.out.mono ?_
        rintro e w9 ⟨p9, mb9, rfl, hF9, k9⟩
        have HE9 := hid (HE7.out.keep k9 (by simp))
        have aO2 := hid (hF9.open (by omega) HE9.out.n HE9.out.x hTB.out)
        clear aC2 hF9 k9 HE7 c10 c11 c20 c21
        go_wp2_with fail
        refine aO2.out.mono ?_
        rintro e w10 ⟨⟨S10, k10, hS10⟩, kw10, (⟨p11, rfl, hd, hg⟩ | ⟨hno, _⟩)⟩
        · have HE10 := hid (HE9.out.keep k10 hS10)
          clear aO2 k10 hS10 HE9 kw10 hd
          have aG := hid (hg w10 (Kp.refl _ _))
          clear hg
          go_wp2_with fail
          refine aG.out.mono ?_
          rintro e w20 ⟨ga, gc, gl, rfl, t1, o1, b1, k20⟩
          have HE20 := hid (HE10.out.keep k20 (by simp))
          have hgl : gl.length ≤ 100000000 := by rw [← bsl_len, b1]; exact HE20.out.n
          have hhn := HE20.out.hn
          have hmn := HE20.out.mn
          have aS1 := cSameQ ga ha gc hc gl hl w20 t1 HE20.out.h o1 (fun y hy => (HE20.out.ho y hy).keptNew HE20.out.kp) (by omega) (by omega)
          rw [b1] at aS1
          have aS2 : Hid (∀ W, Kp [] w20 W → Calls Tryd.prog 13 #[.slice ga gl.length gc, .slice ma ml.length mc] W fun e w' => e = .returned (.bool (decide (M = bsl ml))) ∧ Kp [] W w') := fun W k => by
            have h := cSameQ ga ma gc mc gl ml W (t1.keptNew k) (HE20.out.m.keptNew k) (fun y hy => (o1 y hy).keptNew k) (fun y hy => (HE20.out.mo y hy).keptNew (HE20.out.kp.trans k (by simp))) (by omega) (by omega)
            rw [b1] at h
            exact h
          have kw20 := hid (kB'.out.trans HE20.out.kp (by simp))
          have hMo := hid HE20.out.o
          by_cases hM : M = bsl hl
          · rw [decide_eq_true hM] at aS1
            have AS1 := hid aS1
            clear aS1 aS2 t1 o1 b1 hM hMo aG HE20 k20
            go_wp2_with fail
            refine AS1.out.mono ?_
            rintro e w21 ⟨rfl, k21⟩
            have K21 := hid (kw20.out.trans k21 (by simp))
            clear AS1 k21
            go_wp2_with fail
            go_ret
            exact ⟨rfl, K21.out.below⟩
          · have hM2 : M = bsl ml := hMo.out.resolve_left hM
            rw [decide_eq_false hM] at aS1
            have AS1 := hid aS1
            have hM2' := hid (decide_eq_true hM2)
            clear aS1 t1 o1 b1 hM hM2 hMo aG HE20 k20
            go_wp2_with fail
            refine AS1.out.mono ?_
            rintro e w21 ⟨rfl, k21⟩
            have K21 := hid (kw20.out.trans k21 (by simp))
            have AS2 := hid (aS2.out w21 k21)
            rw [hM2'.out] at AS2
            clear AS1 k21 aS2 hM2'
            go_wp2_with fail
            refine AS2.out.mono ?_
            rintro e w22 ⟨rfl, k22⟩
            have K22 := hid (K21.out.trans k22 (by simp))
            clear AS2 k22
            go_wp2_with fail
            go_ret
            exact ⟨rfl, K22.out.below⟩
        · exact absurd rfl hno
end Go.Proofs.YtfpmolajpmljmaaDoor
end

section
namespace Go.Proofs.YtfpmolajpmljmaaDoor
open Go.ChangeShapes Go.WideShapes Go.ChangeAt Go.RowKit Go.Hay
set_option linter.unusedVariables false
set_option linter.unusedSimpArgs false

def IntE : El Int where
  n := 1
  c x := [.int .i64 x]
  len _ := rfl
  one _ u hu := by simp at hu; subst hu; rfl
  pos := by decide
theorem intsSee {w : World} {a : Option Addr} {l : List Int} (h : IntE.See w a l) : Ints w a l := by
  rcases h with h | ⟨g, o, rfl, hc⟩
  · exact .inl h
  · refine .inr ⟨g, o, rfl, fun j k hk => hc j _ ?_⟩
    have := El.cs_get IntE hk (k := 0) (by decide)
    simpa [IntE] using this
theorem cellsCr : Tryd.prog.cellsOf 36 = 2 := by kernel_rfl
theorem cellsInts : Tryd.prog.cellsOf 34 = 1 := by kernel_rfl
theorem cellsInt9 : Tryd.prog.cellsOf 3 = 1 := by kernel_rfl
theorem bytesInt9 : Tryd.prog.bytesOf 3 = 8 := by kernel_rfl
section
variable {H : Type} {enc : TypeId × Value → H} {W : World} {a : Option Addr} {len cap : Nat} {d : DataW H} {ps : List MemPlace}
theorem openInt9 {fuel : Nat} {v : Value} {x : DataW H × List MemPlace} (h : DataW.trod enc Tryd.prog W 0 (fun _ => true) true fuel 3 [v] = some x) : ∃ n : Int, v = .int .i64 n ∧ -9223372036854775808 ≤ n ∧ n ≤ 9223372036854775807 := by
  obtain ⟨n, e, _, hw⟩ := DataW.trod_int Tryd.underlying3 h
  have hb := bounds_i64 hw
  simp at e
  exact ⟨n, e, hb.1, hb.2⟩
theorem openInts9 (h : DataW.Trod enc Tryd.prog W 0 (fun _ => true) true 34 (.slice a len cap) d ps) :
    ∃ l : List Int, len = l.length ∧ IntE.See W a l ∧ (∀ y ∈ l, -9223372036854775808 ≤ y ∧ y < 9223372036854775808) ∧ l.length ≤ cap ∧ cap ≤ maxLen ∧ (a = none → cap = 0) ∧ (Fit 34 d → cap * 8 ≤ 140737488351232 ∧ ∀ y ∈ l, True) ∧ (l.map fun _ => 0).sum ≤ Rows.uptoBulk d ∧ cap + 1 ≤ Rows.uptoBulk d :=
  openEls IntE Tryd.underlying34 cellsInt9 8 bytesInt9 (fun y => -9223372036854775808 ≤ y ∧ y < 9223372036854775808) (fun _ => True) (fun _ => 0) (fun fuel cs x hx hcs => by
    obtain ⟨v, rfl⟩ : ∃ v, cs = [v] := by
      match cs, hcs with
      | [v], _ => exact ⟨v, rfl⟩
    obtain ⟨n, rfl, n0, n1⟩ := openInt9 hx
    exact ⟨n, ⟨n0, by omega⟩, rfl, fun _ => trivial, Nat.zero_le _⟩) h
set_option maxRecDepth 100000 in
theorem openCrash {base : Nat} {v : Value} (hv : Value.okWide Tryd.prog W .any base 36 v)
    (h : DataW.Trod enc Tryd.prog W 0 (fun _ => true) true 36 v d ps) : ∃ (n : Int) (ka : Option Addr) (kc : Nat) (ks : List Int), v = .agg #[.int .i64 n, .slice ka ks.length kc] ∧
      (-9223372036854775808 ≤ n ∧ n ≤ 9223372036854775807) ∧ Ints W ka ks ∧ ks.length ≤ kc ∧ kc ≤ 9223372036854775807 ∧ ∀ k ∈ ks, -9223372036854775808 ≤ k ∧ k < 9223372036854775808 := by
  obtain ⟨cs, rfl, hsz⟩ := okWide_struct Tryd.underlying36 hv
  rw [cellsCr] at hsz
  obtain ⟨fuel, hf⟩ := h
  obtain ⟨l⟩ := cs
  match l, hsz, hf with
  | [c0, c1], _, hf =>
    have hf' : DataW.trod enc Tryd.prog W 0 (fun _ => true) true fuel 36 [c0, c1] = some (d, ps) := hf
    obtain ⟨xs, n, _, he, _, hlen, hff⟩ := DataW.trod_struct Tryd.underlying36 hf'
    match xs, hlen with
    | [y0, y1], _ =>
      have h0 := hff 0 _ rfl
      have h1 := hff 1 _ rfl
      simp [cellsInts, cellsInt9] at h0 h1
      obtain ⟨m, rfl, m0, m1⟩ := openInt9 h0
      have hv : ∃ a len cap, c1 = .slice a len cap := by
        rcases Go.Deep.open_slice Tryd.underlying34 h1 with ⟨hcs, _⟩ | ⟨a, len, cap, _, _, _, _, hcs, _⟩
        · exact ⟨none, 0, 0, by simpa using hcs⟩
        · exact ⟨_, _, _, by simpa using hcs⟩
      obtain ⟨ka, kl, kc, rfl⟩ := hv
      obtain ⟨ks, rfl, hks, hk64, hkl, hkc, _⟩ := openInts9 (d := y1.1) (ps := y1.2) ⟨_, h1⟩
      have hmx : maxLen ≤ 9223372036854775807 := by unfold maxLen; omega
      exact ⟨m, ka, kc, ks, rfl, ⟨m0, m1⟩, intsSee hks, hkl, by omega, hk64⟩
end
end Go.Proofs.YtfpmolajpmljmaaDoor
end

section
namespace Go.Proofs.YtfpmolajpmljmaaDoor
open Go.ChangeShapes Go.WideShapes Go.ChangeAt Go.RowKit Go.Hay
set_option linter.unusedVariables false

set_option maxRecDepth 100000 in
theorem redoCrashContract (H : Type) (enc : TypeId × Value → H) (W : World) (base : Nat) (args : Array Value) (ds gs : List (DataW H)) (before : List MemPlace)
    (hval : ∀ (j : Nat) t v, Tryd.f5.params[j]? = some t → args[j]? = some v → Value.okWide Tryd.prog W .any base t v)
    (hW : DataW.Whole enc Tryd.prog Tryd.f5.params.toList Rows.redoCrashSpec.vars false W args.toList ds gs before)
    (hsz : (DataW.weightsEach Tryd.prog (Tryd.f5.params.toList ++ (Rows.OpenSpec.upto Rows.redoCrashSpec).bare.plain.varTypes Tryd.prog) (ds ++ gs)).all (· ≤ reachBytes) = true)
    (hk : Rows.uptoSmall H (ds ++ gs) = true)
    (hL : laidMetH Tryd.prog Rows.redoCrashUptoRow.laid W) :
    Calls Tryd.prog 5 args W fun e W' => ∃ v, e = .returned v ∧ Rows.redoCrashSpec.post enc Tryd.prog Tryd.f5 false true false false W args v W' := by
  have hW' := hW
  obtain ⟨p, q, hA0, hV, rfl, hfz, hnd⟩ := hW
  have hA : DataW.TrodAll enc Tryd.prog W 0 (fun _ => true) true Tryd.f5.params.toList args.toList ds p := hA0
  rw [Tryd.params5] at hA hval hsz
  obtain ⟨v0, vs0, d0, ds0, p0, q0, hargs, rfl, rfl, h0, r0⟩ := trodAll_cons hA
  obtain ⟨v1, vs1, d1, ds1, p1, q1, rfl, rfl, rfl, h1, r1⟩ := trodAll_cons r0
  obtain ⟨v2, vs2, d2, ds2, p2, q2, rfl, rfl, rfl, h2, r2⟩ := trodAll_cons r1
  obtain ⟨rfl, rfl, rfl⟩ := trodAll_nil r2
  obtain rfl : args = #[v0, v1, v2] := by cases args; simp_all
  obtain ⟨rfl, rfl⟩ := trodVars_none hV
  obtain ⟨a0, len0, cap0, rfl⟩ := okWide_slice Tryd.underlying32 (hval 0 32 v0 rfl rfl)
  have k0 := h0
  have lt0 : ∀ x ∈ p0, x.block < W.heap.size := by obtain ⟨m, hm⟩ := k0; exact DataW.trod_lt m _ _ _ hm
  obtain ⟨l0, rfl, hs0, hok0, hl0, hm0, hn0, hfit0, hbk0, hcp0⟩ := openBlls h0
  obtain ⟨hc0, hq0⟩ := hfit0 (List.all_eq_true.2 fun x hx => List.all_eq_true.1 hsz x (by simp [DataW.weightsEach]; first | exact .inl hx | exact .inr hx | exact .inr (.inl hx) | exact .inr (.inr hx) | exact hx))
  have k1 := h1
  have lt1 : ∀ x ∈ p1, x.block < W.heap.size := by obtain ⟨m, hm⟩ := k1; exact DataW.trod_lt m _ _ _ hm
  obtain ⟨n1, ka1, kc1, ks1, rfl, hb1, hk1⟩ := openCrash (hval 1 36 v1 rfl rfl) h1
  have k2 := h2
  have lt2 : ∀ x ∈ p2, x.block < W.heap.size := by obtain ⟨m, hm⟩ := k2; exact DataW.trod_lt m _ _ _ hm
  obtain ⟨n2, ka2, kc2, ks2, rfl, hb2, hk2⟩ := openCrash (hval 2 36 v2 rfl rfl) h2
  have hbk := of_decide_eq_true hk
  simp only [List.append_nil, Rows.uptoBulkAll] at hbk
  clear hA0
  refine (crashWalk9 a0 cap0 l0 n1 n2 ka1 ka2 kc1 kc2 ks1 ks2 W (table hL) hs0 hok0 (by omega) (by omega) hb1 hb2 hk1 hk2).mono fun e W' ⟨he, bel⟩ => ?_
  subst he
  exact ⟨_, rfl, _, _, _, [], _, [], hW', trodAll_mk1 (shut_bool Tryd.underlying4 _), (trodAll_cons_mk (Below.trod Tryd.laidOut (by kernel_rfl) (of_decide_eq_true (by kernel_rfl)) k0 bel lt0) (trodAll_cons_mk (Below.trod Tryd.laidOut (by kernel_rfl) (of_decide_eq_true (by kernel_rfl)) k1 bel lt1) (trodAll_cons_mk (Below.trod Tryd.laidOut (by kernel_rfl) (of_decide_eq_true (by kernel_rfl)) k2 bel lt2) trodAll_mk0))), rfl, bel.frame _, fun h => by cases h⟩

set_option maxRecDepth 100000 in
theorem redoCrashLifted (os : Os) (started : os.Started) (H : Type) (enc : TypeId × Value → H) (F : Stop.Interp) :
    ReturnsInHanded {} Tryd.checked os 5 .any ((Rows.OpenSpec.upto Rows.redoCrashSpec).preRow enc Tryd.prog Tryd.f5 Rows.redoCrashUptoRow.domain false Rows.redoCrashUptoRow.laid) (((Rows.OpenSpec.upto Rows.redoCrashSpec).at F).post enc Tryd.prog Tryd.f5 false true false false) := by
  refine returnsInHanded_of_row (C := Tryd.checked) (s := Rows.OpenSpec.upto Rows.redoCrashSpec) Tryd.own started (by kernel_rfl) Tryd.func5
    (witness_row_at (enc := enc) (C := Tryd.checked) false ({ World.holding Tryd.prog os ⟨#[], #[], []⟩ with heap := (World.holding Tryd.prog os ⟨#[], #[], []⟩).heap.modify 0 fun
      | .cells _ t frozen => .cells tabCells t frozen
      | o => o }) #[.slice none 0 0, .agg #[.int .i64 0, .slice none 0 0], .agg #[.int .i64 0, .slice none 0 0]] rfl (by kernel_rfl) (by kernel_rfl) (by kernel_rfl)
      (OpenSpec.preRow_of_cond (x := ([.nil, .agg [.lit (.int .i64 0), .nil], .agg [.lit (.int .i64 0), .nil]], [], [])) 8 (by kernel_rfl) (by kernel_rfl) (fun k hk => by cases hk; kernel_rfl) (by kernel_rfl) (laidMet_of_run' 8 (by kernel_rfl) (by kernel_rfl)))) ?_
  intro W base args ds gs before hval hW _ hcond hsz hL _ _
  exact redoCrashContract H enc W base args ds gs before hval hW hsz (hcond _ rfl) hL

theorem redoCrashSaid : Rows.RedoCrashUptoSaid :=
  OpenClaim.holds_of_cond 5 Tryd.f5 rfl rfl rfl rfl rfl rfl rfl ⟨rfl, rfl, rfl, rfl, rfl⟩ rfl rfl rfl rfl rfl (by kernel_rfl) Tryd.func5 (by kernel_rfl)
    (of_decide_eq_true (by kernel_rfl)) (by unfold Func.isWrapper; first | (rw [if_pos (by decide +kernel)]; kernel_rfl) | (rw [if_neg (by decide +kernel)]; exact ⟨rfl, rfl⟩))
    (fun os started H enc _ F => by rw [OpenClaim.pre_eq_preRow]; exact redoCrashLifted os started H enc F)

theorem redoCrashPlain (f : FuncId) (fn : Func) (hf : Tryd.pinned.checked.prog.funcNamed "hayloft/hayloftlaw09.RedoCrash" = some f) (hfn : Tryd.pinned.checked.prog.funcs[f]? = some fn) :
    false = Tryd.pinned.checked.prog.looks [] ∧ ∀ (j : Nat) t, fn.params[j]? = some t → Tryd.pinned.checked.prog.wantsStandIn t = false := by
  obtain rfl : f = 5 := Option.some.inj ((show Tryd.prog.funcNamed "hayloft/hayloftlaw09.RedoCrash" = some 5 by kernel_rfl).symm.trans hf) |>.symm
  obtain rfl : fn = Tryd.f5 := (Option.some.inj (Tryd.func5.symm.trans hfn)).symm
  refine ⟨by kernel_rfl, fun j t ht => ?_⟩
  rw [Tryd.params5] at ht
  have hm := Array.mem_of_getElem? ht
  have h2 : t = 32 ∨ t = 36 := by first | (simpa using hm) | (rcases (show t = 32 ∨ t = 36 ∨ t = 36 from by simpa using hm) with h | h | h <;> simp [h])
  rcases h2 with rfl | rfl
  · exact (show Tryd.prog.wantsStandIn 32 = false by kernel_rfl)
  · exact (show Tryd.prog.wantsStandIn 36 = false by kernel_rfl)

theorem RedoCrash_holds : Rows.RedoCrashUptoCardSaid :=
  Claim7.holds_tied_plain_at .later [] _ _ _ _ redoCrashSaid (fun _ h => by cases h) (by kernel_rfl) (fun _ h => by cases h) redoCrashUpto_row_tie rfl ⟨rfl, rfl⟩ (by kernel_rfl) rfl redoCrashPlain (by kernel_rfl)
#print axioms RedoCrash_holds
end Go.Proofs.YtfpmolajpmljmaaDoor
end

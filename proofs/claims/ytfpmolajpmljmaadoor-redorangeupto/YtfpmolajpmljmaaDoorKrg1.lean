/- RedoCrash: how the rounds stand, and what a crash finds. -/
import Derived.Test.YtfpmolajpmljmaaDoorB12
import Derived.Test.YtfpmolajpmljmaaDoorB11
import Derived.Test.YtfpmolajpmljmaaDoorB7
import Derived.RangeFuncNested
import Derived.RangeFuncBound
import Derived.RangeFuncCalls
import Derived.RangeFuncLeaves
import Derived.RangeFuncSeq
section
namespace Go.Proofs.YtfpmolajpmljmaaDoor
open Go.ChangeShapes Go.WideShapes Go.ChangeAt Go.RowKit Go.Hay
set_option linter.unusedVariables false
set_option linter.unusedSimpArgs false

/-- A frame of records. -/
def frB (R : List (List UInt8)) : List UInt8 := frameB (recB R)
theorem frB_pos (R : List (List UInt8)) : 12 ≤ (frB R).length := by unfold frB; rw [frameB_length]; omega
def allB (l : List (List (List UInt8))) : List UInt8 := l.flatMap frB
theorem allB_snoc (l : List (List (List UInt8))) (R : List (List UInt8)) : allB (l ++ [R]) = allB l ++ frB R := by simp [allB]
/-- The records of the frames that are whole in so many bytes; how many bytes these have. -/
def torn : List (List (List UInt8)) → Nat → List (List UInt8) × Nat
  | [], _ => ([], 0)
  | R :: l, c => if (frB R).length ≤ c then (R ++ (torn l (c - (frB R).length)).1, (frB R).length + (torn l (c - (frB R).length)).2) else ([], 0)
theorem torn_snoc : ∀ (l : List (List (List UInt8))) (R : List (List UInt8)) (c : Nat), torn (l ++ [R]) c = if (allB (l ++ [R])).length ≤ c then ((torn l c).1 ++ R, (allB (l ++ [R])).length) else torn l c
  | [], R, c => by
    simp only [List.nil_append, torn, allB, List.flatMap_cons, List.flatMap_nil, List.append_nil, List.nil_append, Nat.add_zero]
  | R0 :: l, R, c => by
    have ih := torn_snoc l R (c - (frB R0).length)
    have e : (allB (R0 :: (l ++ [R]))).length = (frB R0).length + (allB (l ++ [R])).length := by simp [allB]
    rw [List.cons_append, torn, torn, e]
    by_cases h : (frB R0).length ≤ c
    · rw [if_pos h, if_pos h, ih]
      by_cases h2 : (allB (l ++ [R])).length ≤ c - (frB R0).length
      · rw [if_pos h2, if_pos (by omega)]; simp [List.append_assoc]
      · rw [if_neg h2, if_neg (by omega)]
    · rw [if_neg h, if_neg h, if_neg (by omega)]
theorem rdQ_torn : ∀ (l : List (List (List UInt8))) (c : Nat), (∀ R ∈ l, (recB R).length ≤ 16777216) → rdQ ((allB l).take c) = ((torn l c).1, (torn l c).2, 0)
  | [], c, _ => by simp [allB, torn, rdQ_nil]
  | R :: l, c, h => by
    have hR := h R (by simp)
    have e : allB (R :: l) = frB R ++ allB l := by simp [allB]
    rw [torn, e]
    by_cases hc : (frB R).length ≤ c
    · rw [if_pos hc, List.take_append, List.take_of_length_le hc]
      unfold frB
      rw [rdQ_frame R hR, rdQ_torn l _ (fun x hx => h x (by simp [hx]))]
      simp [finQ, frB]
    · rw [if_neg hc, List.take_append, show c - (frB R).length = 0 by omega, List.take_zero, List.append_nil]
      have hu := unf_cut (recB R) hR c (by have := frameB_length (recB R); unfold frB at hc; omega)
      exact rdQ_short (by unfold frB; rw [hu])
/-- A slice of slices of bytes, and what it sees. -/
structure Ls where
  a : Option Addr
  c : Nat
  l : List Bs
instance : Inhabited Ls := ⟨⟨none, 0, []⟩⟩
structure Ls.ok (w : World) (x : Ls) : Prop where
  see : BsE.See w x.a x.l
  ok : ∀ y ∈ x.l, y.ok w
theorem Ls.ok.keptNew {w w' : World} {x : Ls} (h : x.ok w) (hk : Kp [] w w') : x.ok w' := ⟨h.see.keptNew hk, fun y hy => (h.ok y hy).keptNew hk⟩
def LsE : El Ls where
  n := 1
  c x := [.slice x.a x.l.length x.c]
  len _ := rfl
  one _ u hu := by simp at hu; subst hu; rfl
  pos := by decide
theorem lsAt {w : World} {a : Option Addr} {l : List Ls} (h : LsE.See w a l) {k : Nat} {x : Ls} (hx : l[k]? = some x) : ∃ g o, a = some ⟨g, o, none⟩ ∧ w.cell? ⟨g, o + k, none⟩ = some (.slice x.a x.l.length x.c) := by
  obtain ⟨g, o, e, hc⟩ := h.at hx
  refine ⟨g, o, e, ?_⟩
  have := hc 0 _ rfl
  simpa [LsE] using this
def bulkL (x : Ls) : Nat := (x.l.map fun y => y.bs.length + 1).sum
theorem cellsLs : Tryd.prog.cellsOf 23 = 1 := by kernel_rfl
theorem bytesLs : Tryd.prog.bytesOf 23 = 24 := by kernel_rfl
section
variable {H : Type} {enc : TypeId × Value → H} {W : World} {a : Option Addr} {len cap : Nat} {d : DataW H} {ps : List MemPlace}
theorem openBlls (h : DataW.Trod enc Tryd.prog W 0 (fun _ => true) true 32 (.slice a len cap) d ps) :
    ∃ l : List Ls, len = l.length ∧ LsE.See W a l ∧ (∀ y ∈ l, y.ok W) ∧ l.length ≤ cap ∧ cap ≤ maxLen ∧ (a = none → cap = 0) ∧ (Fit 32 d → cap * 24 ≤ 140737488351232 ∧ ∀ y ∈ l, True) ∧ (l.map bulkL).sum ≤ Rows.uptoBulk d ∧ cap + 1 ≤ Rows.uptoBulk d :=
  openEls LsE Tryd.underlying32 cellsLs 24 bytesLs (fun y => y.ok W) (fun _ => True) bulkL (fun fuel cs x hx hcs => by
    obtain ⟨v, rfl⟩ := one_of hcs
    have hv : ∃ a len cap, v = .slice a len cap := by
      rcases Go.Deep.open_slice Tryd.underlying23 hx with ⟨hcs, _⟩ | ⟨a, len, cap, _, _, _, _, hcs, _⟩
      · exact ⟨none, 0, 0, by simpa using hcs⟩
      · exact ⟨_, _, _, by simpa using hcs⟩
    obtain ⟨a, len, cap, rfl⟩ := hv
    have ht : DataW.Trod enc Tryd.prog W 0 (fun _ => true) true 23 (.slice a len cap) x.1 x.2 := ⟨fuel, hx⟩
    obtain ⟨l, rfl, hs, hok, hl, hm, hn, _, hbk, _⟩ := openBlists ht
    exact ⟨⟨a, cap, l⟩, ⟨hs, hok⟩, rfl, fun _ => trivial, hbk⟩) h
end
theorem sumB_bulk : ∀ l : List Bs, sumB (bsl l) + l.length = (l.map fun y => y.bs.length + 1).sum
  | [] => rfl
  | x :: l => by
    have := sumB_bulk l
    simp only [bsl, sumB, List.map_cons, List.sum_cons, List.length_cons] at this ⊢
    omega
theorem frB_len (x : Ls) : (frB (bsl x.l)).length ≤ 21 * bulkL x + 21 := by
  have h1 := (recB_len (bsl x.l)).2
  have h2 := sumB_bulk x.l
  rw [bsl_len] at h1
  unfold frB bulkL
  rw [frameB_length, ← h2]
  omega
theorem allB_len : ∀ l : List Ls, (allB (l.map fun x => bsl x.l)).length ≤ 21 * (l.map bulkL).sum + 21 * l.length
  | [] => by simp [allB]
  | x :: l => by
    have h1 := frB_len x
    have h2 := allB_len l
    have e : allB ((x :: l).map fun x => bsl x.l) = frB (bsl x.l) ++ allB (l.map fun x => bsl x.l) := by simp [allB]
    rw [e, List.length_append]
    simp only [List.map_cons, List.sum_cons, List.length_cons] at h2 ⊢
    omega
end Go.Proofs.YtfpmolajpmljmaaDoor
end

section
namespace Go.Proofs.YtfpmolajpmljmaaDoor
open Go.RowKit Go.Hay
set_option linter.unusedVariables false
set_option linter.unusedSimpArgs false

theorem unf_turnedM (bs more : List UInt8) (h : bs.length ≤ 16777216) (i : Nat) (hi : i < (frameB bs).length) (y : UInt8) (hget : (frameB bs ++ more)[i]? ≠ some y) : unf ((frameB bs ++ more).set i y) = ([], 0, 14) := by
  have hl := frameB_length bs
  have key : ∀ (a b : List UInt8) (j : Nat) (z : UInt8), a.length = b.length → j < a.length → a[j]? ≠ some z → a.set j z = b → num a ≠ num b := by
    intro a b j z hab hj hne he hn
    have := num_inj a b hab hn
    subst this
    apply hne
    have h2 := congrArg (fun l => l[j]?) he
    simp only [List.getElem?_set_self hj] at h2
    exact h2.symm
  have fs := frame_split bs more
  rw [fs] at hget ⊢
  have hcL : num (be (crc (be bs.length 4)) 4) = crc (be bs.length 4) := num_be4 _ (crc_lt _)
  by_cases c1 : i < 4
  · rw [List.getElem?_append_left (by rw [be_length]; omega)] at hget
    rw [List.set_append_left _ _ (by rw [be_length]; omega), unf_parts _ _ _ (by rw [List.length_set, be_length]) (be_length _ _), if_pos]
    rw [hcL]
    refine set_split _ i (by rw [be_length]; omega) y (fun e => hget ?_)
    rw [← e, List.getElem?_eq_getElem]
  rw [List.getElem?_append_right (by rw [be_length]; omega)] at hget
  rw [List.set_append_right _ _ (by rw [be_length]; omega)]
  rw [be_length] at hget ⊢
  by_cases c2 : i - 4 < 4
  · rw [List.getElem?_append_left (by rw [be_length]; omega)] at hget
    rw [List.set_append_left _ _ (by rw [be_length]; omega), unf_parts _ _ _ (be_length _ _) (by rw [List.length_set, be_length]), if_pos]
    intro e
    exact key _ _ (i - 4) y (by rw [List.length_set]) (by rw [be_length]; omega) hget rfl (by rw [e, hcL])
  rw [List.getElem?_append_right (by rw [be_length]; omega)] at hget
  rw [List.set_append_right _ _ (by rw [be_length]; omega)]
  rw [be_length] at hget ⊢
  by_cases c3 : i - 4 - 4 < bs.length
  · rw [List.getElem?_append_left c3] at hget
    rw [List.set_append_left _ _ c3]
    have := unf_tail bs (be (crc bs) 4) more h (bs.set (i - 4 - 4) y) (by rw [List.length_set]) (be_length _ _)
    rw [this, if_pos]
    rw [num_be4 _ (crc_lt _)]
    refine set_split _ _ c3 y (fun e => hget ?_)
    rw [← e, List.getElem?_eq_getElem]
  · rw [List.getElem?_append_right (by omega)] at hget
    rw [List.getElem?_append_left (by rw [be_length]; omega)] at hget
    rw [List.set_append_right _ _ (by omega), List.set_append_left _ _ (by rw [be_length]; omega)]
    have := unf_tail bs ((be (crc bs) 4).set (i - 4 - 4 - bs.length) y) more h bs rfl (by rw [List.length_set, be_length])
    rw [this, if_pos]
    intro e
    exact key _ _ (i - 4 - 4 - bs.length) y (by rw [List.length_set]) (by rw [be_length]; omega) hget rfl (by rw [e, num_be4 _ (crc_lt _)])
theorem rdQ_turned : ∀ (l : List (List (List UInt8))) (i : Nat) (y : UInt8), (∀ R ∈ l, (recB R).length ≤ 16777216) → i < (allB l).length → (allB l)[i]? ≠ some y → rdQ ((allB l).set i y) = ([], 0, 91)
  | [], i, y, _, hi, _ => by simp [allB] at hi
  | R :: l, i, y, h, hi, hy => by
    have hR := h R (by simp)
    have e : allB (R :: l) = frB R ++ allB l := by simp [allB]
    rw [e] at hi hy ⊢
    by_cases hc : i < (frB R).length
    · have hu := unf_turnedM (recB R) (allB l) hR i hc y hy
      refine rdQ_bad (fun e => ?_) (by unfold frB; rw [hu]; decide) (by unfold frB; rw [hu]; decide)
      have := congrArg List.length e
      rw [List.length_set] at this
      simp only [List.length_nil] at this
      omega
    · rw [List.getElem?_append_right (by omega)] at hy
      rw [List.set_append_right _ _ (by omega)]
      rw [List.length_append] at hi
      have ih := rdQ_turned l (i - (frB R).length) y (fun x hx => h x (by simp [hx])) (by omega) hy
      unfold frB at ih ⊢
      rw [rdQ_frame R hR, ih]
      simp [finQ]
/-- What is appended. -/
def okR (R : List (List UInt8)) : Bool := decide (R ≠ []) && decide ((recB R).length ≤ 16777216)
def fl (l : List (List (List UInt8))) : List (List (List UInt8)) := l.filter okR
theorem fl_snoc (l : List (List (List UInt8))) (R : List (List UInt8)) : fl (l ++ [R]) = if okR R = true then fl l ++ [R] else fl l := by
  unfold fl
  rw [List.filter_append]
  by_cases h : okR R = true
  · rw [if_pos h]; simp [h]
  · rw [if_neg h]; simp [h]
theorem fl_ok {l : List (List (List UInt8))} {R : List (List UInt8)} (h : R ∈ fl l) : (recB R).length ≤ 16777216 := by
  have := (List.mem_filter.1 h).2
  unfold okR at this
  simp at this
  exact this.2
theorem app_one (r s : Nat) (nm x : List UInt8) (k : Nat) (hn : nameOk nm = true) (R : List (List UInt8)) (h : x.length + (frB R).length ≤ r) :
    (okR R = true → appQ (oneD r s nm x k) nm R = (oneD r (s + 2) nm (x ++ frB R) (x ++ frB R).length, 0) ∧ appS R = (frB R).length) ∧ (okR R = false → (appQ (oneD r s nm x k) nm R).1 = oneD r s nm x k ∧ ((appQ (oneD r s nm x k) nm R).2 = 0 → R = [] ∧ appS R = 0)) := by
  constructor
  · intro ho
    unfold okR at ho
    simp at ho
    have e : frmR R = (frB R, 0) := by unfold frmR frB; rw [if_pos ho.2]
    constructor
    · unfold appQ
      rw [if_neg ho.1, e, if_neg (by simp)]
      exact write_one _ _ _ _ _ _ hn h
    · unfold appS
      rw [if_neg ho.1, e]
  · intro ho
    unfold okR at ho
    simp at ho
    by_cases h0 : R = []
    · subst h0
      exact ⟨by simp [appQ], fun _ => ⟨rfl, by simp [appS]⟩⟩
    · have e : frmR R = ([], 90) := by unfold frmR; rw [if_neg (by have := ho h0; omega)]
      constructor
      · unfold appQ; rw [if_neg h0, e, if_pos (by simp)]
      · intro hh
        unfold appQ at hh
        rw [if_neg h0, e, if_pos (by simp)] at hh
        simp at hh
theorem flip_one (r s : Nat) (nm x : List UInt8) (k : Nat) (i b : Int) : flipOk (oneD r s nm x k) nm i b = (decide (0 ≤ i) && decide (i < x.length) && decide (0 ≤ b) && decide (b ≤ 7)) ∧ (flipOk (oneD r s nm x k) nm i b = true → flipD (oneD r s nm x k) nm i b = oneD r s nm (flipB x i.toNat b.toNat) k) := by
  have hl : lookG Fl.name nm (oneD r s nm x k).files = some ⟨nm, x, k⟩ := by simp [lookG, oneD]
  refine ⟨by unfold flipOk; rw [hl], fun h => ?_⟩
  unfold flipD
  rw [if_pos h, file_one]
  simp [oneD, putG]
  cases leN nm nm <;> rfl
theorem xor_pow (y : UInt8) (b : Nat) (hb : b ≤ 7) : y ^^^ UInt8.ofNat (2 ^ b) ≠ y := by
  intro h
  have h2 := congrArg UInt8.toNat h
  have e : (y ^^^ UInt8.ofNat (2 ^ b)).toNat = y.toNat ^^^ (UInt8.ofNat (2 ^ b)).toNat := UInt8.toNat_xor _ _
  rw [e] at h2
  refine xor_ne y.toNat (UInt8.ofNat (2 ^ b)).toNat ?_ h2
  have : b = 0 ∨ b = 1 ∨ b = 2 ∨ b = 3 ∨ b = 4 ∨ b = 5 ∨ b = 6 ∨ b = 7 := by omega
  rcases this with rfl | rfl | rfl | rfl | rfl | rfl | rfl | rfl <;> decide
theorem flip_turned (l : List (List (List UInt8))) (h : ∀ R ∈ l, (recB R).length ≤ 16777216) (i b : Nat) (hi : i < (allB l).length) (hb : b ≤ 7) : rdQ (flipB (allB l) i b) = ([], 0, 91) := by
  unfold flipB
  refine rdQ_turned l i _ h hi ?_
  rw [List.getElem?_eq_getElem hi]
  intro e
  have e2 := Option.some.inj e
  have e3 : (allB l).getD i 0 = (allB l)[i] := by simp [List.getD, List.getElem?_eq_getElem hi]
  rw [e3] at e2
  exact xor_pow _ b hb e2.symm
theorem open_spoilt (r s : Nat) (nm x : List UInt8) (k : Nat) (h : rdQ x = ([], 0, 91)) : openD rdQ (oneD r s nm x k) nm = (oneD r s nm x k, 91) := by
  unfold openD
  have hl : lookG Fl.name nm (oneD r s nm x k).files = some ⟨nm, x, k⟩ := by simp [lookG, oneD]
  rw [if_neg (by simp [oneD])]
  simp only [hl, h]
  rw [if_pos (by decide)]
end Go.Proofs.YtfpmolajpmljmaaDoor
end

section
namespace Go.Proofs.YtfpmolajpmljmaaDoor
open Go.RowKit Go.Hay
set_option linter.unusedVariables false
set_option linter.unusedSimpArgs false

/-- How the two rows stand. -/
structure TnI (w W : World) (ba : Option Addr) (bc : Nat) (bs : List UInt8) (va : Option Addr) (vc : Nat) (vl : List Bs) : Prop where
  b : Row W (.slice ba bs.length bc) bs
  v : BsE.Row W (.slice va vl.length vc) vl
  bn : ∀ k ∈ blk ba, w.heap.size ≤ k
  vn : ∀ k ∈ blk va, w.heap.size ≤ k
  ne : ∀ k ∈ blk ba, k ∉ blk va
  ok : ∀ y ∈ vl, y.ok w
  kp : Kp [] w W
theorem TnI.keep {w W W' : World} {ba : Option Addr} {bc : Nat} {bs : List UInt8} {va : Option Addr} {vc : Nat} {vl : List Bs} (h : TnI w W ba bc bs va vc vl) (k : Kp [] W W') : TnI w W' ba bc bs va vc vl :=
  ⟨h.b.kept k (by simp), h.v.keptNew k, h.bn, h.vn, h.ne, h.ok, h.kp.trans k (by simp)⟩
theorem TnI.addB {w W W' : World} {ba : Option Addr} {bc : Nat} {bs bs' : List UInt8} {va : Option Addr} {vc : Nat} {vl : List Bs} (h : TnI w W ba bc bs va vc vl) {a' : Option Addr} {c' : Nat} (hr : Row W' (.slice a' bs'.length c') bs') (k : Kp (own (.slice ba bs.length bc)) W W') (hn : ∀ j ∈ own (.slice a' bs'.length c'), j ∈ own (.slice ba bs.length bc) ∨ W.heap.size ≤ j) : TnI w W' a' c' bs' va vc vl := by
  rw [ownQ] at k
  simp only [ownQ] at hn
  refine ⟨hr, h.v.kept k (fun j hj hm => h.ne j hm (by rw [ownQ] at hj; exact hj)), fun j hj => ?_, h.vn, fun j hj hm => ?_, h.ok, h.kp.trans k (fun j hj => .inr (h.bn j hj))⟩
  · rcases hn j hj with e | e
    · exact h.bn j e
    · have := h.kp.size; omega
  · rcases hn j hj with e | e
    · exact h.ne j e hm
    · have := h.v.lt j (by rw [ownQ]; exact hm); omega
theorem TnI.addV {w W W' : World} {ba : Option Addr} {bc : Nat} {bs : List UInt8} {va : Option Addr} {vc : Nat} {vl vl' : List Bs} (h : TnI w W ba bc bs va vc vl) {a' : Option Addr} {c' : Nat} (hr : BsE.Row W' (.slice a' vl'.length c') vl') (k : Kp (own (.slice va vl.length vc)) W W') (hn : ∀ j ∈ own (.slice a' vl'.length c'), j ∈ own (.slice va vl.length vc) ∨ W.heap.size ≤ j) (ho : ∀ y ∈ vl', y.ok w) : TnI w W' ba bc bs a' c' vl' := by
  rw [ownQ] at k
  simp only [ownQ] at hn
  refine ⟨h.b.kept k (fun j hj hm => h.ne j (by rw [ownQ] at hj; exact hj) hm), hr, h.bn, fun j hj => ?_, fun j hj hm => ?_, ho, h.kp.trans k (fun j hj => .inr (h.vn j hj))⟩
  · rcases hn j hj with e | e
    · exact h.vn j e
    · have := h.kp.size; omega
  · rcases hn j hm with e | e
    · exact h.ne j hj e
    · have := h.b.lt j (by rw [ownQ]; exact hj); omega
theorem appBs {W : World} {a : Option Addr} {c : Nat} {l : List Bs} (h : BsE.Row W (.slice a l.length c) l) (a2 : Option Addr) (c2 : Nat) (ys : List Bs) (hs : BsE.See W a2 ys) (hl : l.length + ys.length ≤ 1000000000) :
    ∃ a' c' W', (Builtin.append_ #[23, 23] 23 #[.slice a l.length c, .slice a2 ys.length c2]).run Tryd.prog W = .ok (.slice a' (l ++ ys).length c') W' ∧ BsE.Row W' (.slice a' (l ++ ys).length c') (l ++ ys) ∧ Kp (own (.slice a l.length c)) W W' ∧ ∀ k ∈ own (.slice a' (l ++ ys).length c'), k ∈ own (.slice a l.length c) ∨ W.heap.size ≤ k := by
  obtain ⟨i0, hi, hz0, hz1, hz2⟩ := infoSl
  have hsrc := hs.src (P := Tryd.prog) Tryd.underlying23 c2
  obtain ⟨v6, X4, hrun2, hrow6, kk6, hn6⟩ := run_appendG (E := BsE) (P := Tryd.prog) _ 23 23 23 22 i0 _ 24 Tryd.underlying23 hi hz0 hz1 hz2 rfl (.slice a l.length c) l h _ ys hsrc (by omega) (by omega)
  obtain ⟨a6, c6, rfl, _⟩ := hrow6.see
  exact ⟨a6, c6, X4, hrun2, hrow6, kk6, hn6⟩
def RsL (L : List Ls) : List (List (List UInt8)) := L.map fun x => bsl x.l
theorem RsL_len (L : List Ls) : (RsL L).length = L.length := by simp [RsL]
theorem RsL_take {L : List Ls} {j : Nat} (h : j < L.length) : (RsL L).take (j + 1) = (RsL L).take j ++ [bsl L[j].l] := by
  rw [List.take_succ_eq_append_getElem (by rw [RsL_len]; exact h)]
  simp [RsL]
theorem RsL_takeL (L : List Ls) (j : Nat) : (RsL L).take j = RsL (L.take j) := by simp [RsL]
theorem sum_take_le (L : List Ls) (j : Nat) : ((L.take j).map bulkL).sum ≤ (L.map bulkL).sum := by
  induction L generalizing j with
  | nil => simp
  | cons x L ih =>
    cases j with
    | zero => simp
    | succ j => have := ih j; simp only [List.take_succ_cons, List.map_cons, List.sum_cons]; omega
theorem bulk_mem {L : List Ls} {x : Ls} (h : x ∈ L) : bulkL x ≤ (L.map bulkL).sum := by
  induction L with
  | nil => cases h
  | cons y L ih =>
    simp only [List.map_cons, List.sum_cons]
    rcases List.mem_cons.1 h with rfl | h
    · omega
    · have := ih h; omega
theorem torn_len : ∀ (l : List (List (List UInt8))) (c : Nat), (torn l c).1.length ≤ (torn l c).2 ∧ (torn l c).2 ≤ (allB l).length
  | [], c => by simp [torn, allB]
  | R :: l, c => by
    have ih := torn_len l (c - (frB R).length)
    have e : (allB (R :: l)).length = (frB R).length + (allB l).length := by simp [allB]
    have hr := (recB_len R).1
    have hR : R.length ≤ (frB R).length := by
      have h1 := txB_len R
      have h2 : ∀ S : List (List UInt8), S.length ≤ (txB S).length := by
        intro S
        induction S with
        | nil => simp
        | cons x S ih =>
          have := textB_len x
          have e2 : txB (x :: S) = textB x ++ txB S := by simp [txB]
          rw [e2, List.length_append, List.length_cons]; omega
      have h3 := h2 R
      unfold frB
      rw [frameB_length]
      have e3 : recB R = varB R.length ++ txB R := rfl
      rw [e3, List.length_append]
      omega
    rw [torn, e]
    split
    · simp only [List.length_append]; omega
    · simp
set_option maxHeartbeats 16000000 in
set_option maxRecDepth 100000 in
theorem tornWalk9 (a : Option Addr) (c : Nat) (L : List Ls) (cut : Int) (w : World) (ht : Tab w) (hs : LsE.See w a L) (hok : ∀ x ∈ L, x.ok w) (hL : L.length ≤ 1048576) (hbk : (L.map bulkL).sum ≤ 1048576) (hcut : -9223372036854775808 ≤ cut ∧ cut ≤ 9223372036854775807) :
    Calls Tryd.prog 4 #[.slice a L.length c, .int .i64 cut] w fun e w' => e = .returned (.bool true) ∧ Below w.heap.size w w' := by
  have hal : Hid (∀ W, Kp [] w W → Calls Tryd.prog 12 #[] W fun e w' => e = .returned (.bool true) ∧ Kp [] W w') := fun W k => cAliveQ W (ht.kept k (by simp))
  have hFr : Hid (∀ (j : Nat) (h : j < L.length) (W : World), Kp [] w W → (∃ g o, a = some ⟨g, o, none⟩ ∧ W.cell? ⟨g, o + j, none⟩ = some (.slice L[j].a L[j].l.length L[j].c)) ∧ Calls Tryd.prog 10 #[.slice L[j].a L[j].l.length L[j].c] W (FrP (frmR (bsl L[j].l)) W) ∧ BsE.See W L[j].a L[j].l) := fun j h W k => by
    obtain ⟨g, o, e, hc⟩ := lsAt hs (k := j) (x := L[j]) (by simp [h])
    have ho := hok L[j] (List.getElem_mem h)
    have hb := bulk_mem (List.getElem_mem h)
    have hsb := sumB_bulk L[j].l
    have hk' : bulkL L[j] = (L[j].l.map fun y => y.bs.length + 1).sum := rfl
    exact ⟨⟨g, o, e, (k.cell (p := ⟨g, o + j, none⟩) (World.block_lt_of_cell? _ _ hc) (by simp)).trans hc⟩, cFrames _ _ _ W (ht.kept k (by simp)) (ho.keptNew k).see (ho.keptNew k).ok (by omega), (ho.keptNew k).see⟩
  have hokL : Hid (∀ (j : Nat) (h : j < L.length), (∀ y ∈ L[j].l, y.ok w) ∧ L[j].l.length ≤ 1048576) := fun j h => by
    have hb := bulk_mem (List.getElem_mem h)
    have hsb := sumB_bulk L[j].l
    have hk' : bulkL L[j] = (L[j].l.map fun y => y.bs.length + 1).sum := rfl
    exact ⟨(hok L[j] (List.getElem_mem h)).ok, by omega⟩
  have hTb : Hid (∀ W, Kp [] w W → Tab W) := fun W k => ht.kept k (by simp)
  have hAl : Hid (∀ j, (allB ((RsL L).take j)).length ≤ 50000000) := fun j => by
    rw [RsL_takeL]
    have h1 := allB_len (L.take j)
    have h2 := sum_take_le L j
    have h3 : (L.take j).length ≤ L.length := by rw [List.length_take]; omega
    show (allB (RsL (L.take j))).length ≤ _
    unfold RsL
    omega
  obtain ⟨i0, hi, hz0, hz1, hz2⟩ := info_parts Tryd.infoB
  have hI0 : Hid (TnI w w none 0 [] none 0 []) := ⟨Row.nil _, .inl ⟨rfl, rfl⟩, by simp [blk], by simp [blk], by simp [blk], by simp, Kp.refl _ _⟩
  clear ht hs hok
  go_enter Tryd.func4, Tryd.ntmps4
  go_wp2_with fail
  go_loopw [5, 6, 7, 17] (fun v5 v6 v7 i wn => ∃ (j : Nat) (ba : Option Addr) (bc : Nat) (bs : List UInt8) (va : Option Addr) (vc : Nat) (vl : List Bs) (at' : Nat), j ≤ L.length ∧ i = .int .i64 j ∧ v5 = .slice ba bs.length bc ∧ v6 = .slice va vl.length vc ∧ v7 = .int .i64 at' ∧ Hid (TnI w wn ba bc bs va vc vl) ∧ Hid (bs = allB ((RsL L).take j) ∧ (bsl vl, at') = torn ((RsL L).take j) cut.toNat ∧ ∀ R ∈ (RsL L).take j, (recB R).length ≤ 16777216)) (fun _ _ _ i _ => L.length - (intOf i).toNat)
  case atStart => exact ⟨0, none, 0, [], none, 0, [], 0, Nat.zero_le _, rfl, rfl, rfl, rfl, hI0, by refine ⟨by simp [allB], by simp [torn, bsl], by simp⟩⟩
  case round =>
    obtain ⟨j, ba, bc, bs, va, vc, vl, at', hj, rfl, rfl, rfl, rfl, HI, HB⟩ := hrel
    clear hI0
    have hbl : bs.length ≤ 50000000 := by rw [HB.out.1]; exact hAl.out j
    have htl := torn_len ((RsL L).take j) cut.toNat
    rw [← HB.out.2.1, ← HB.out.1, bsl_len] at htl
    dsimp only at htl
    by_cases hlt : j < L.length
    · obtain ⟨⟨g, o, ea, cL⟩, cF, sL⟩ := hFr.out j hlt _ HI.out.kp
      have hyo := hokL.out j hlt
      have hsn := RsL_take hlt
      have hst := torn_snoc ((RsL L).take j) (bsl L[j].l) cut.toNat
      have hal2 := hAl.out (j + 1)
      have hen := allB_snoc ((RsL L).take j) (bsl L[j].l)
      rw [← hsn] at hst hen
      rw [hen] at hst hal2
      rw [← HB.out.1] at hst hen hal2
      rw [← HB.out.2.1] at hst
      obtain ⟨Y, hY⟩ : ∃ Y, L[j] = Y := ⟨_, rfl⟩
      rw [hY] at cL cF sL hyo hsn hst hal2 hen
      obtain ⟨ya, yc, yl⟩ := Y
      dsimp only at cL cF sL hyo hsn hst hal2 hen
      have hfe1 : Hid ((recB (bsl yl)).length ≤ 16777216 → frmR (bsl yl) = (frB (bsl yl), 0)) := fun h => by unfold frmR frB; rw [if_pos h]
      have hfe2 : Hid (¬ (recB (bsl yl)).length ≤ 16777216 → frmR (bsl yl) = ([], 90)) := fun h => by unfold frmR; rw [if_neg h]
      have hSee : Hid (∀ W, Kp [] w W → BsE.See W ya yl) := fun W k => by
        have := (hFr.out j hlt W k).2.2
        rw [hY] at this
        exact this
      have CF := hid cF
      have HS := hid (And.intro hsn (And.intro hst hen))
      have hal3 := hid hal2
      clear hY cF hsn hst hen hal2
      subst ea
      have dj1 : (j : Int) < (L.length : Int) := by omega
      have dj0 : (0 : Int) ≤ (j : Int) := by omega
      have dj7 : (-9223372036854775808 : Int) ≤ (j : Int) + 1 := by omega
      have dj8 : (j : Int) + 1 ≤ 9223372036854775807 := by omega
      go_wp2_with fail
      refine CF.out.mono ?_
      by_cases hrl : (recB (bsl yl)).length ≤ 16777216
      · rw [hfe1.out hrl]
        rintro e w2 ⟨b2, c2, rfl, hr2, k2, hn2⟩
        dsimp only at hr2 ⊢
        obtain ⟨b2', c2', e2, hs2, -⟩ := hr2.sees
        cases e2
        have hrlo := hid hrl
        have HI2 := hid (HI.out.keep k2)
        obtain ⟨F, hF⟩ : ∃ F, Hid (frB (bsl yl) = F) := ⟨_, rfl⟩
        have hF12 := frB_pos (bsl yl)
        rw [hF.out] at HS hal3 hs2 hF12
        simp only [hF.out]
        have hsrc := hs2.src (P := Tryd.prog) Tryd.underlying22 c2
        have hrow' := HI2.out.b
        have sL2 := sL.keptNew k2
        have HI' := hid sL2
        clear CF hfe1 hfe2 hr2 k2 hn2 hs2 hrl HI sL sL2
        have hbl2 : bs.length + F.length ≤ 200000000000000 := by have := hal3.out; rw [List.length_append] at this; omega
        go_wp2_with (at_builtin; refine wpList_append_src _ rfl (.tmp 33) (.tmp 34) 22 22 rfl i0 Tryd.underlying22 hi hz0 hz1 hz2 _ _ rfl hrow' _ _ rfl hsrc hbl2 ?_)
        intro v8 w8 r8 k8 o8
        obtain ⟨B8, hB8⟩ : ∃ B8, Hid (bs ++ F = B8) := ⟨_, rfl⟩
        rw [hB8.out] at r8 HS hal3
        obtain ⟨a8, c8, rfl, -⟩ := r8.shape
        have HI8 := hid (HI2.out.addB r8 k8 o8)
        have hl8 : 12 ≤ B8.length := by rw [← hB8.out, List.length_append]; omega
        have sL8 := hid (hSee.out w8 HI8.out.kp)
        have hmem : Hid (∀ R ∈ (RsL L).take (j + 1), (recB R).length ≤ 16777216) := fun R hR => by
          rw [HS.out.1] at hR
          rcases List.mem_append.1 hR with h | h
          · exact HB.out.2.2 R h
          · simp at h; subst h; exact hrlo.out
        clear r8 k8 o8 hsrc hrow' HI2
        by_cases hcc : (B8.length : Int) ≤ cut
        · have hcn : B8.length ≤ cut.toNat := by omega
          have dcc : decide ((B8.length : Int) ≤ cut) = true := by simpa using hcc
          obtain ⟨a9, c9, w9, hrun9, hr9, k9, hn9⟩ := appBs HI8.out.v ya yc yl sL8.out (by have := hyo.2; omega)
          have hbs9 : bsl (vl ++ yl) = bsl vl ++ bsl yl := by simp [bsl]
          obtain ⟨V9, hV9⟩ : ∃ V9, Hid (vl ++ yl = V9) := ⟨_, rfl⟩
          rw [hV9.out] at hrun9 hr9 hn9 hbs9
          have HI9 := hid (HI8.out.addV hr9 k9 hn9 (fun y hy => by
            rw [← hV9.out] at hy
            rcases List.mem_append.1 hy with h | h
            · exact HI8.out.ok y h
            · exact hyo.1 y h))
          have hT9 : Hid ((bsl V9, B8.length) = torn ((RsL L).take (j + 1)) cut.toNat) := by
            show _ = _
            rw [HS.out.2.1, if_pos hcn, hbs9]
          have hB9 : Hid (B8 = allB ((RsL L).take (j + 1))) := HS.out.2.2.symm
          clear hr9 k9 hn9 HI8 HS hcc HI' sL8 hbs9
          go_wp2_with (first | (refine wpAppRunQ rfl _ _ 23 23 rfl _ _ _ rfl rfl hrun9 ?_) | fail)
          go_roundw
          case rel => exact ⟨j + 1, a8, c8, B8, a9, c9, V9, B8.length, by omega, by simp, rfl, rfl, rfl, HI9, ⟨hB9.out, hT9.out, hmem.out⟩⟩
          case measure => simp [intOf]; omega
        · have hcn : ¬ B8.length ≤ cut.toNat := by omega
          have dcc : decide ((B8.length : Int) ≤ cut) = false := by simpa using hcc
          have hT9 : Hid ((bsl vl, at') = torn ((RsL L).take (j + 1)) cut.toNat) := by
            show _ = _
            rw [HS.out.2.1, if_neg hcn]
          have hB9 : Hid (B8 = allB ((RsL L).take (j + 1))) := HS.out.2.2.symm
          clear HS HI' sL8
          go_wp2_with fail
          go_roundw
          case rel => exact ⟨j + 1, a8, c8, B8, va, vc, vl, at', by omega, by simp, rfl, rfl, rfl, HI8, ⟨hB9.out, hT9.out, hmem.out⟩⟩
          case measure => simp [intOf]; omega
      · rw [hfe2.out hrl]
        rintro e w2 ⟨b2, c2, rfl, hr2, k2, hn2⟩
        dsimp only
        have aA := hid (hal.out w2 (HI.out.kp.trans k2 (by simp)))
        have HK := hid (HI.out.kp.trans k2 (by simp))
        clear CF hfe1 hfe2 hr2 k2 hn2
        go_wp2_with fail
        refine aA.out.mono ?_
        rintro e w3 ⟨rfl, k3⟩
        have HK3 := hid (HK.out.trans k3 (by simp))
        clear aA k3
        go_wp2_with fail
        go_ret
        exact ⟨rfl, HK3.out.below⟩
    · have dj2 : decide ((j : Int) < (L.length : Int)) = false := by simp; omega
      have hjl : (RsL L).take j = RsL L := List.take_of_length_le (by rw [RsL_len]; omega)
      have HB' := HB.out
      rw [hjl] at HB'
      have hrd := rdQ_torn (RsL L) cut.toNat HB'.2.2
      rw [← HB'.1, ← HB'.2.1] at hrd
      dsimp only at hrd
      have HR := hid hrd
      have hTl := htl
      clear hrd HB' hjl HB
      by_cases hc0 : cut < 0
      · have d0 : decide (cut < 0) = true := by simpa using hc0
        have aA := hid (hal.out _ HI.out.kp)
        go_wp2_with fail
        refine aA.out.mono ?_
        rintro e w3 ⟨rfl, k3⟩
        have HK3 := hid (HI.out.kp.trans k3 (by simp))
        clear aA k3
        go_wp2_with fail
        go_ret
        exact ⟨rfl, HK3.out.below⟩
      · have d0 : decide (cut < 0) = false := by simpa using hc0
        by_cases hcl : (bs.length : Int) < cut
        · have d1 : decide ((bs.length : Int) < cut) = true := by simpa using hcl
          have aA := hid (hal.out _ HI.out.kp)
          go_wp2_with fail
          refine aA.out.mono ?_
          rintro e w3 ⟨rfl, k3⟩
          have HK3 := hid (HI.out.kp.trans k3 (by simp))
          clear aA k3
          go_wp2_with fail
          go_ret
          exact ⟨rfl, HK3.out.below⟩
        · have d1 : decide ((bs.length : Int) < cut) = false := by simpa using hcl
          obtain ⟨n0, rfl⟩ := Int.eq_ofNat_of_zero_le (show (0 : Int) ≤ cut by omega)
          rw [Int.toNat_natCast] at HR
          have hn0 : n0 ≤ bs.length := by omega
          obtain ⟨ra, rc, era, hsB, -⟩ := HI.out.b.sees
          cases era
          obtain ⟨ra', rc', era', hlb⟩ := HI.out.b.shape
          cases era'
          have hcm : bc ≤ maxLen := by
            rcases HI.out.b with ⟨h1, h2⟩ | ⟨g, o, cap, h1, _, h3, _⟩
            · injection h1 with _ _ h4; rw [h4]; unfold maxLen; omega
            · injection h1 with _ _ h4; rw [h4]; exact h3
          have hlt0 : (bs.take n0).length = n0 := by rw [List.length_take]; omega
          have aR := cReadQ ba bc (bs.take n0) _ (hTb.out _ HI.out.kp) (hsB.front n0) (by omega) hcm (by omega)
          rw [hlt0, HR.out] at aR
          have AR := hid aR
          have hnb : (n0 : Int) ≤ (bc : Int) := by omega
          have hn00 : (0 : Int) ≤ (n0 : Int) := by omega
          clear aR hsB HR hcl
          go_wp2_with fail
          refine AR.out.mono ?_
          rintro e w4 ⟨v4, rfl, hr4, k4⟩
          dsimp only at hr4 ⊢
          obtain ⟨a4, c4, l4, rfl, hs4, ho4, hb4⟩ := hr4.bs
          have hl4 : l4.length = vl.length := by rw [← bsl_len l4, hb4, bsl_len]
          have kw4 := HI.out.kp.trans k4 (by simp)
          have aA := hid (hal.out w4 kw4)
          obtain ⟨_, _, ev, hsv, _⟩ := HI.out.v.see
          cases ev
          have H4 := hid (And.intro hs4 (And.intro ho4 (And.intro hb4 (And.intro (hsv.keptNew k4) kw4))))
          clear AR hr4 hs4 ho4 hb4 k4 kw4 hsv
          go_wp2_with fail
          refine aA.out.mono ?_
          rintro e w5 ⟨rfl, k5⟩
          have kw5 := H4.out.2.2.2.2.trans k5 (by simp)
          have aS := cSameQ a4 va c4 vc l4 vl w5 (H4.out.1.keptNew k5) (H4.out.2.2.2.1.keptNew k5) (fun y hy => (H4.out.2.1 y hy).1.keptNew k5) (fun y hy => (HI.out.ok y hy).keptNew kw5) (by omega) (by omega)
          rw [H4.out.2.2.1, show decide (bsl vl = bsl vl) = true by simp, hl4] at aS
          have HS := hid aS
          have HK := hid kw5
          have i1 : ((at' : Int) == (at' : Int)) = true := by simp
          clear aA aS k5 kw5 H4
          go_wp2_with fail
          refine HS.out.mono ?_
          rintro e w6 ⟨rfl, k6⟩
          have HK6 := hid (HK.out.trans k6 (by simp))
          clear HS HK k6
          go_wp2_with fail
          go_ret
          exact ⟨rfl, HK6.out.below⟩
end Go.Proofs.YtfpmolajpmljmaaDoor
end

section
namespace Go.Proofs.YtfpmolajpmljmaaDoor
open Go.RowKit Go.Hay
set_option linter.unusedVariables false
set_option linter.unusedSimpArgs false

def nmL : List UInt8 := [108, 111, 103]
theorem rnL : nameOk nmL = true := by decide
theorem fl_len (l : List Ls) : (allB (fl (l.map fun x => bsl x.l))).length ≤ 21 * (l.map bulkL).sum + 21 * l.length := by
  induction l with
  | nil => simp [fl, allB]
  | cons x l ih =>
    have h1 := frB_len x
    have e : fl ((x :: l).map fun x => bsl x.l) = if okR (bsl x.l) = true then bsl x.l :: fl (l.map fun x => bsl x.l) else fl (l.map fun x => bsl x.l) := by
      unfold fl
      rw [List.map_cons, List.filter_cons]
    rw [e]
    simp only [List.map_cons, List.sum_cons, List.length_cons]
    split
    · have e2 : allB (bsl x.l :: fl (l.map fun x => bsl x.l)) = frB (bsl x.l) ++ allB (fl (l.map fun x => bsl x.l)) := by simp [allB]
      rw [e2, List.length_append]
      omega
    · omega
set_option maxHeartbeats 16000000 in
set_option maxRecDepth 100000 in
theorem spoiltWalk9 (a : Option Addr) (c : Nat) (L : List Ls) (at' : Int) (w : World) (ht : Tab w) (hs : LsE.See w a L) (hok : ∀ x ∈ L, x.ok w) (hL : L.length ≤ 1048576) (hbk : (L.map bulkL).sum ≤ 1048576) (hat : -9223372036854775808 ≤ at' ∧ at' ≤ 9223372036854775807) :
    Calls Tryd.prog 6 #[.slice a L.length c, .int .i64 at'] w fun e w' => e = .returned (.bool true) ∧ Below w.heap.size w w' := by
  have ht' := hid ht
  have aN := hid (cNew 1125899906842624 w (by omega))
  have hcl : Hid (∀ (j : Nat) (h : j < L.length) (W : World), Kp [] w W → (∃ g o, a = some ⟨g, o, none⟩ ∧ W.cell? ⟨g, o + j, none⟩ = some (.slice L[j].a L[j].l.length L[j].c)) ∧ (∀ X : Nat → Prop, (∀ k, X k → w.heap.size ≤ k) → ArgQ W L[j].a L[j].l X) ∧ L[j].l.length ≤ 1048576) := fun j h W k => by
    obtain ⟨g, o, e, hc⟩ := lsAt hs (k := j) (x := L[j]) (by simp [h])
    have ho := hok L[j] (List.getElem_mem h)
    have hb := bulk_mem (List.getElem_mem h)
    have hsb := sumB_bulk L[j].l
    have hk' : bulkL L[j] = (L[j].l.map fun y => y.bs.length + 1).sum := rfl
    refine ⟨⟨g, o, e, (k.cell (p := ⟨g, o + j, none⟩) (World.block_lt_of_cell? _ _ hc) (by simp)).trans hc⟩, fun X hX => ⟨(ho.keptNew k).see, (ho.keptNew k).ok, fun hne q hq hx => ?_, fun y hy hne q hq hx => ?_, by omega, fun y hy => ?_⟩, by omega⟩
    · have h1 := hX q hx
      rcases ho.see with e' | ⟨g', o', e', hc'⟩
      · exact hne e'
      · rw [e'] at hq
        simp [blk] at hq
        subst hq
        have h0 : 0 < (BsE.cs L[j].l).length := by rw [El.cs_length]; have : 0 < L[j].l.length := List.length_pos_iff.2 hne; simp [BsE]; omega
        have := World.block_lt_of_cell? _ _ (hc' 0 _ (List.getElem?_eq_getElem h0))
        simp at this
        omega
    · have h1 := hX q hx
      have := (ho.ok y hy).see.lt hne q hq
      omega
    · have h2 : y.bs.length + 1 ≤ (L[j].l.map fun y => y.bs.length + 1).sum := by
        have : y.bs.length + 1 ∈ L[j].l.map fun y => y.bs.length + 1 := List.mem_map.2 ⟨y, hy, rfl⟩
        generalize (L[j].l.map fun y => y.bs.length + 1) = q at this
        induction q with
        | nil => cases this
        | cons z q ih =>
          rw [List.sum_cons]
          rcases List.mem_cons.1 this with e | h
          · omega
          · have := ih h; omega
      omega
  have hFl : Hid (∀ j, (allB (fl ((RsL L).take j))).length ≤ 50000000) := fun j => by
    rw [RsL_takeL]
    have h1 := fl_len (L.take j)
    have h2 := sum_take_le L j
    have h3 : (L.take j).length ≤ L.length := by rw [List.length_take]; omega
    show (allB (fl (RsL (L.take j)))).length ≤ _
    unfold RsL
    omega
  clear ht hs hok
  go_enter Tryd.func6, Tryd.ntmps6
  go_wp2_with fail
  refine aN.out.mono ?_
  rintro e w1 ⟨dp, mb, rfl, hD1, k1, hdp, hmb⟩
  have hf1 : ∀ k ∈ foot dp mb [], w.heap.size ≤ k := fun k hk => by simp [foot] at hk; rcases hk with rfl | rfl <;> assumption
  have aV := hid (cAliveQ w1 (ht'.out.kept k1 (by simp)))
  have H1 := hid (And.intro hD1 (And.intro k1 hf1))
  clear aN hD1 k1 hf1
  go_wp2_with fail
  refine aV.out.mono ?_
  rintro e w2 ⟨rfl, k2⟩
  have aC := hid (cCreate (H1.out.1.keptNew k2) (by simp [newD]) (by simp [newD]) (by intro f hf; simp [newD] at hf) nmL (by unfold maxLen; simp [nmL]))
  have ec : createD (newD 1125899906842624) nmL = (oneD 1125899906842624 2 nmL [] 0, 0) := create_new 1125899906842624 nmL rnL
  rw [ec] at aC
  have H2 := hid (And.intro (H1.out.2.1.trans k2 (by simp)) H1.out.2.2)
  clear aV k2 H1 ec
  go_wp2_with fail
  refine aC.out.mono ?_
  intro e w3 hO
  obtain ⟨p, v, B, xs, rfl, hLD, _, _⟩ := LD.ofOpn (w0 := w) hO rfl H2.out.1 H2.out.2
  dsimp only at hLD ⊢
  have hI0 := hid hLD
  clear aC hO hLD H2
  go_wp2_with fail
  go_loopw [9, 33, 39] (fun _ i _ wn => ∃ (j : Nat) (xs : List Ent) (s k : Nat) (B : Nat → Prop) (v : Value) (Rc : List (List UInt8)), j ≤ L.length ∧ i = .int .i64 j ∧ s ≤ 2 + 2 * j ∧ Rc.length ≤ ((L.take j).map bulkL).sum ∧ Hid (LD w wn p dp mb xs (oneD 1125899906842624 s nmL (allB (fl ((RsL L).take j))) k) nmL B v Rc ((allB (fl ((RsL L).take j))).length : Int))) (fun _ i _ _ => L.length - (intOf i).toNat)
  case atStart => exact ⟨0, xs, 2, 0, B, v, [], Nat.zero_le _, rfl, by omega, by simp, by simpa [fl, allB] using hI0⟩
  case round =>
    obtain ⟨j, xs, s, k, B, v, Rc, hj, rfl, hsj, hRj, HI⟩ := hrel
    clear hI0
    have hxl := hFl.out j
    have hst := sum_take_le L j
    by_cases hlt : j < L.length
    · obtain ⟨⟨g, o, ea, cL⟩, hAq, hyl⟩ := hcl.out j hlt _ HI.out.kp
      have hAr := hAq (fun k => k ∈ foot dp mb xs ∨ k = p ∨ B k) (fun k hk => by
        rcases hk with h | h | h
        · exact HI.out.lf k h
        · rw [h]; exact HI.out.lp
        · exact (HI.out.lb k h).1)
      have hss : ((L.take (j + 1)).map bulkL).sum = ((L.take j).map bulkL).sum + bulkL L[j] := by rw [List.take_succ_eq_append_getElem hlt, List.map_append, List.sum_append]; simp
      have hsb := sumB_bulk L[j].l
      have hbe : bulkL L[j] = (L[j].l.map fun y => y.bs.length + 1).sum := rfl
      rw [← hbe] at hsb
      have hsn := RsL_take hlt
      have hfs := fl_snoc ((RsL L).take j) (bsl L[j].l)
      have hx2 := hFl.out (j + 1)
      rw [← hsn] at hfs
      obtain ⟨Y, hY⟩ : ∃ Y, L[j] = Y := ⟨_, rfl⟩
      rw [hY] at cL hAr hfs hyl hss hsb
      obtain ⟨ya, yc, yl⟩ := Y
      dsimp only at cL hAr hfs hyl hsb
      obtain ⟨x, hx⟩ : ∃ x, Hid (allB (fl ((RsL L).take j)) = x) := ⟨_, rfl⟩
      rw [hx.out] at HI hxl
      have aA := hid (HI.out.app (by simp only [oneD]; omega) (by simp [oneD]) (small_one (by omega)) (by unfold maxLen; simp [nmL]) (by rw [file_one]; simp only; omega) (by omega) (by omega) ya yc yl hAr ht'.out)
      have hnext : Hid (∀ wn, AppLD w p dp mb xs (oneD 1125899906842624 s nmL x k) nmL B v Rc (x.length : Int) (bsl yl) wr (.returned (.int .i64 (appQ (oneD 1125899906842624 s nmL x k) nmL (bsl yl)).2)) wn → ∃ (xs : List Ent) (s k : Nat) (B : Nat → Prop) (v : Value) (Rc : List (List UInt8)), s ≤ 2 + 2 * (j + 1) ∧ Rc.length ≤ ((L.take (j + 1)).map bulkL).sum ∧ Hid (LD w wn p dp mb xs (oneD 1125899906842624 s nmL (allB (fl ((RsL L).take (j + 1)))) k) nmL B v Rc ((allB (fl ((RsL L).take (j + 1)))).length : Int))) := fun wn hA => by
        obtain ⟨_, xs', _, h1, h2⟩ := hA
        cases hor : okR (bsl yl) with
        | true =>
          rw [hfs, if_pos hor, allB_snoc, hx.out] at hx2 ⊢
          obtain ⟨ho, -⟩ := app_one 1125899906842624 s nmL x k rnL (bsl yl) (by rw [List.length_append] at hx2; omega)
          obtain ⟨e1, e2⟩ := ho hor
          rw [e1, e2] at h2
          obtain ⟨v', B', hl⟩ := h2 rfl
          refine ⟨xs', s + 2, (x ++ frB (bsl yl)).length, B', v', Rc ++ bsl yl, by omega, by rw [List.length_append, bsl_len, hss]; omega, ?_⟩
          rw [show (((x ++ frB (bsl yl)).length : Nat) : Int) = (x.length : Int) + ((frB (bsl yl)).length : Int) by rw [List.length_append]; omega]
          exact hl
        | false =>
          rw [hfs, if_neg (by simp [hor]), hx.out]
          have hnf : x.length + (frB (bsl yl)).length ≤ 1125899906842624 := by
            have hb := bulk_mem (List.getElem_mem hlt)
            have := frB_len L[j]
            rw [hY] at this hb
            dsimp only at this
            omega
          obtain ⟨-, ho⟩ := app_one 1125899906842624 s nmL x k rnL (bsl yl) hnf
          obtain ⟨e1, e2⟩ := ho hor
          rw [e1] at h1 h2
          by_cases h0 : (appQ (oneD 1125899906842624 s nmL x k) nmL (bsl yl)).2 = 0
          · obtain ⟨e3, e4⟩ := e2 h0
            obtain ⟨v', B', hl⟩ := h2 h0
            rw [e4] at hl
            refine ⟨xs', s, k, B', v', Rc ++ bsl yl, by omega, by rw [e3, List.append_nil, hss]; omega, ?_⟩
            rw [Int.add_zero] at hl
            exact hl
          · exact ⟨xs', s, k, B, v, Rc, by omega, by rw [hss]; omega, h1 h0⟩
      have hfst := hid (aA.out.mono (fun e w' (h : AppLD w p dp mb xs (oneD 1125899906842624 s nmL x k) nmL B v Rc (x.length : Int) (bsl yl) wr e w') => And.intro h.1 h))
      clear hAq hAr hsn hfs hx2 hY aA hss hsb hbe
      subst ea
      have dj1 : (j : Int) < (L.length : Int) := by omega
      have dj0 : (0 : Int) ≤ (j : Int) := by omega
      have dj7 : (-9223372036854775808 : Int) ≤ (j : Int) + 1 := by omega
      have dj8 : (j : Int) + 1 ≤ 9223372036854775807 := by omega
      go_wp2_with fail
      refine hfst.out.mono ?_
      rintro e w4 ⟨rfl, h4⟩
      obtain ⟨xs', s', k', B', v', Rc', g1, g2, g3⟩ := hnext.out w4 h4
      clear hfst h4 hnext
      go_wp2_with fail
      go_roundw
      case rel => exact ⟨j + 1, xs', s', k', B', v', Rc', by omega, by simp, by omega, g2, g3⟩
      case measure => simp [intOf]; omega
    · have dj2 : decide ((j : Int) < (L.length : Int)) = false := by simp; omega
      have hjl : (RsL L).take j = RsL L := List.take_of_length_le (by rw [RsL_len]; omega)
      rw [hjl] at HI hxl
      obtain ⟨x, hx⟩ : ∃ x, Hid (allB (fl (RsL L)) = x) := ⟨_, rfl⟩
      have hsp : Hid (∀ i b : Nat, i < x.length → b ≤ 7 → rdQ (flipB x i b) = ([], 0, 91)) := fun i b h1 h2 => by
        rw [← hx.out] at h1 ⊢
        exact flip_turned (fl (RsL L)) (fun R hR => fl_ok hR) i b h1 h2
      rw [hx.out] at HI hxl
      have aR := hid (cRead HI.out.disk (small_one (by omega)) nmL (by unfold maxLen; simp [nmL]))
      have hlk : lookG Fl.name nmL (oneD 1125899906842624 s nmL x k).files = some ⟨nmL, x, k⟩ := by simp [lookG, oneD]
      rw [hlk] at aR
      have aR' : Hid (Calls Tryd.prog 22 #[.pointer (some ⟨dp, 0, none⟩), .string ⟨nmL.toArray⟩] wr fun e w' => ∃ a c, e = .returned (.tuple #[.slice a x.length c, .bool true]) ∧ Row w' (.slice a x.length c) x ∧ Kp [] wr w' ∧ ∀ k ∈ blk a, wr.heap.size ≤ k) := aR
      clear hlk aR hjl hcl hFl
      go_wp2_with fail
      refine aR'.out.mono ?_
      rintro e w5 ⟨b5, c5, rfl, _, k5, _⟩
      have HI5 := hid (HI.out.keep k5)
      have aS := hid (cSizeQ HI5.out.log)
      clear aR' k5 HI
      go_wp2_with fail
      refine aS.out.mono ?_
      rintro e w5 ⟨rfl, rfl⟩
      have i1 : ((x.length : Int) != (x.length : Int)) = false := by simp
      have i2 : ((x.length : Int) == (x.length : Int)) = true := by simp
      by_cases ha : at' < 0
      · have d0 : decide (at' < 0) = true := by simpa using ha
        go_wp2_with fail
        refine aS.out.mono ?_
        rintro e w5 ⟨rfl, rfl⟩
        go_wp2_with fail
        go_ret
        exact ⟨rfl, HI5.out.kp.below⟩
      · have d0 : decide (at' < 0) = false := by simpa using ha
        obtain ⟨n0, rfl⟩ := Int.eq_ofNat_of_zero_le (show (0 : Int) ≤ at' by omega)
        have aF := hid (cFlip HI5.out.disk (small_one (by omega)) nmL (by unfold maxLen; simp [nmL]) ((n0 : Int) / 8) ((n0 : Int) % 8) (by omega) (by omega) (by omega) (by omega))
        obtain ⟨f1, f2⟩ := flip_one 1125899906842624 s nmL x k ((n0 : Int) / 8) ((n0 : Int) % 8)
        by_cases hf : (n0 : Int) / 8 < (x.length : Int)
        · have fo : flipOk (oneD 1125899906842624 s nmL x k) nmL ((n0 : Int) / 8) ((n0 : Int) % 8) = true := by
            rw [f1]
            simp only [Bool.and_eq_true, decide_eq_true_eq]
            refine ⟨⟨⟨?_, hf⟩, ?_⟩, ?_⟩ <;> omega
          rw [fo, f2 fo] at aF
          have hrd := hsp.out ((n0 : Int) / 8).toNat ((n0 : Int) % 8).toNat (by omega) (by omega)
          have hfl6 : (flipB x ((n0 : Int) / 8).toNat ((n0 : Int) % 8).toNat).length = x.length := by unfold flipB; rw [List.length_set]
          obtain ⟨y, hy⟩ : ∃ y, flipB x ((n0 : Int) / 8).toNat ((n0 : Int) % 8).toNat = y := ⟨_, rfl⟩
          rw [hy] at aF hrd hfl6
          have HRD := hid hrd
          have hfl7 := hid hfl6
          clear f1 f2 fo hf hy hrd hfl6 aS
          go_wp2_with fail
          refine aF.out.mono ?_
          rintro e w6 ⟨rfl, xs6, hD6, m6⟩
          have kw6 : Kp [] w w6 := HI5.out.kp.trans m6.kp (fun q hq => .inr (HI5.out.lf q hq))
          have aO := hid (cOpen hD6 (by simp only [oneD]; omega) (small_one (by rw [hfl7.out]; omega)) nmL (by unfold maxLen; simp [nmL]) (ht'.out.kept kw6 (by simp)) (by rw [file_one]; simp only; rw [hfl7.out]; omega))
          rw [open_spoilt _ _ _ _ _ HRD.out] at aO
          have HF6 := hid (And.intro kw6 (fun q (hq : q ∈ foot dp mb xs6) => by rcases m6.new q hq with h | h; exact HI5.out.lf q h; have := HI5.out.kp.size; omega : ∀ q ∈ foot dp mb xs6, w.heap.size ≤ q))
          clear aF hD6 m6 kw6
          go_wp2_with fail
          refine aO.out.mono ?_
          rintro e w7 ⟨v0, xs7, rfl, _, m7, h7, _⟩
          have ev := h7 (by simp)
          subst ev
          have HK7 := hid (HF6.out.1.trans m7.kp (fun q hq => .inr (HF6.out.2 q hq)))
          clear aO m7 h7 HF6
          go_wp2_with fail
          go_ret
          exact ⟨rfl, HK7.out.below⟩
        · have fo : flipOk (oneD 1125899906842624 s nmL x k) nmL ((n0 : Int) / 8) ((n0 : Int) % 8) = false := by
            rw [f1]
            simp [hf]
          rw [fo, flip_not fo] at aF
          clear f1 f2 fo hf aS
          go_wp2_with fail
          refine aF.out.mono ?_
          rintro e w6 ⟨rfl, xs6, hD6, m6⟩
          have aS2 := hid (cSizeQ (HI5.out.log.kept m6.kp (fun hm => (HI5.out.sep p hm).2 rfl) (fun q hq => (HI5.out.sep q hq).1)))
          have HK6 := hid (HI5.out.kp.trans m6.kp (fun q hq => .inr (HI5.out.lf q hq)))
          clear aF hD6 m6
          go_wp2_with fail
          refine aS2.out.mono ?_
          rintro e w6 ⟨rfl, rfl⟩
          clear aS2
          go_wp2_with fail
          go_ret
          exact ⟨rfl, HK6.out.below⟩
end Go.Proofs.YtfpmolajpmljmaaDoor
end

section
namespace Go.Proofs.YtfpmolajpmljmaaDoor
open Go.RowKit Go.Hay
set_option linter.unusedVariables false
set_option linter.unusedSimpArgs false

theorem rdQ_all : ∀ (l : List (List (List UInt8))), (∀ R ∈ l, (recB R).length ≤ 16777216) → rdQ (allB l) = (l.flatten, (allB l).length, 0)
  | [], _ => rfl
  | R :: l, h => by
    have e : allB (R :: l) = frB R ++ allB l := by simp [allB]
    rw [e]
    unfold frB
    rw [rdQ_frame R (h R (by simp)), rdQ_all l (fun x hx => h x (by simp [hx]))]
    simp [finQ]
/-- One record of those that fit into a frame fits into one. -/
theorem rec_one {R : List (List UInt8)} (h : (recB R).length ≤ 16777216) {b : List UInt8} (hb : b ∈ R) : (recB [b]).length ≤ 16777216 := by
  have e : recB R = varB R.length ++ R.flatMap textB := rfl
  have e1 : recB [b] = varB 1 ++ textB b := by simp [recB]
  have hv1 : (varB 1).length = 1 := by decide
  have hv := (varB_length R.length).2
  rw [e, List.length_append] at h
  rw [e1, List.length_append, hv1]
  have key : ∀ S : List (List UInt8), b ∈ S → (textB b).length ≤ (S.flatMap textB).length := by
    intro S
    induction S with
    | nil => intro h; cases h
    | cons x S ih =>
      intro h
      have e2 : ((x :: S).flatMap textB).length = (textB x).length + (S.flatMap textB).length := by simp
      rw [e2]
      rcases List.mem_cons.1 h with rfl | h
      · omega
      · have := ih h; omega
  have := key R hb
  omega
/-- The blocks of a log and its disk. -/
def InL (p dp mb : Nat) (xs : List Ent) (B : Nat → Prop) : Nat → Prop := fun k => k ∈ foot dp mb xs ∨ k = p ∨ B k
theorem LD.inLt {w0 w : World} {p dp mb : Nat} {xs : List Ent} {d : Dk} {nm : List UInt8} {B : Nat → Prop} {v : Value} {L : List (List UInt8)} {sz : Int} (h : LD w0 w p dp mb xs d nm B v L sz) {k : Nat} (hk : InL p dp mb xs B k) : k < w.heap.size ∧ w0.heap.size ≤ k := by
  rcases hk with hk | rfl | hk
  · exact ⟨h.disk.lt k hk, h.lf k hk⟩
  · exact ⟨h.log.box.lt, h.lp⟩
  · exact ⟨(h.lb k hk).2, (h.lb k hk).1⟩
theorem LD.stay {w0 w w' : World} {p dp mb : Nat} {xs : List Ent} {d : Dk} {nm : List UInt8} {B : Nat → Prop} {v : Value} {L : List (List UInt8)} {sz : Int} (h : LD w0 w p dp mb xs d nm B v L sz) {S : List Nat} (k : Kp S w w') (hS : ∀ j ∈ S, ¬ InL p dp mb xs B j ∧ w0.heap.size ≤ j) : LD w0 w' p dp mb xs d nm B v L sz :=
  ⟨h.log.kept k (fun hm => (hS p hm).1 (.inr (.inl rfl))) (fun j hj hb => (hS j hj).1 (.inr (.inr hb))), h.disk.kept k (fun j hj hm => (hS j hm).1 (.inl hj)), h.sep, h.lf, fun j hj => ⟨(h.lb j hj).1, by have := (h.lb j hj).2; have := k.size; omega⟩, h.lp, h.kp.trans k (fun j hj => .inr (hS j hj).2)⟩
/-- Append, of such; where its blocks come from. -/
def AppL2 (w0 : World) (p dp mb : Nat) (xs : List Ent) (d : Dk) (nm : List UInt8) (B : Nat → Prop) (v : Value) (L : List (List UInt8)) (sz : Int) (R : List (List UInt8)) (w : World) (e : Ending) (w' : World) : Prop :=
  e = .returned (.int .i64 (appQ d nm R).2) ∧ Kp (p :: own v ++ foot dp mb xs) w w' ∧ ((appQ d nm R).2 ≠ 0 → Kp [] w0 w') ∧ ((appQ d nm R).2 = 0 → ∃ xs' v' B', LD w0 w' p dp mb xs' (appQ d nm R).1 nm B' v' (L ++ R) (sz + appS R) ∧ ∀ k, InL p dp mb xs' B' k → InL p dp mb xs B k ∨ w.heap.size ≤ k)
theorem LD.app2 {w0 w : World} {p dp mb : Nat} {xs : List Ent} {d : Dk} {nm : List UInt8} {B : Nat → Prop} {v : Value} {L : List (List UInt8)} {sz : Int} (h : LD w0 w p dp mb xs d nm B v L sz)
    (hs : d.steps < 7000000000000000000) (hN : d.files.length < 7000000000000000000) (hB : Small d) (hk : nm.length ≤ maxLen) (hfl : (fileOf d.files nm).bytes.length ≤ 140737400000000) (hLl : L.length ≤ 900000000000) (hsz : 0 ≤ sz ∧ sz ≤ 8000000000000000000)
    (a : Option Addr) (c : Nat) (R : List Bs) (hR : ArgQ w a R (InL p dp mb xs B)) (hTb : Tab w0) :
    Calls Tryd.prog 18 #[.pointer (some ⟨p, 0, none⟩), .slice a R.length c] w (AppL2 w0 p dp mb xs d nm B v L sz (bsl R) w) := by
  have h00 := hTb.1
  refine (cAppendL h.log h.disk h.sep (fun k hk => (h.lb k hk).2) hs hN hB hk hfl hLl hsz a c R hR (hTb.kept h.kp (by simp)) ⟨fun hm => by have := h.lf 0 hm; omega, by have := h.lp; omega, fun hb => by have := (h.lb 0 hb).1; omega⟩).mono ?_
  rintro e w' ⟨he, xs', hD', k', hf', h1, h2⟩
  have kw : Kp [] w0 w' := h.kp.trans k' (fun x hx => .inr (h.own x hx))
  have hz := h.kp.size
  have hz' := k'.size
  have hlf : ∀ k ∈ foot dp mb xs', w0.heap.size ≤ k := fun k hk => by rcases hf' k hk with hh | hh; exact h.lf k hh; omega
  refine ⟨he, k', fun _ => kw, fun h0 => ?_⟩
  obtain ⟨v', B', hl, hb, hsp⟩ := h2 h0
  refine ⟨xs', v', B', ⟨hl, hD', hsp, hlf, fun k hk => by rcases hb k hk with hh | hh; exact ⟨(h.lb k hh).1, by have := (h.lb k hh).2; omega⟩; exact ⟨by omega, hh.2⟩, h.lp, kw⟩, fun k hk => ?_⟩
  rcases hk with hk | rfl | hk
  · rcases hf' k hk with hh | hh
    · exact .inl (.inl hh)
    · exact .inr hh
  · exact .inl (.inr (.inl rfl))
  · rcases hb k hk with hh | hh
    · exact .inl (.inr (.inr hh))
    · exact .inr hh.1
/-- Create and Open, with where the blocks come from. -/
theorem LD.ofOpn2 {w0 w w' : World} {dp mb : Nat} {xs : List Ent} {r : Dk × Int} {nm : List UInt8} {L : List (List UInt8)} {sz : Int} {e : Ending} (h : OpnP dp mb xs r nm L sz w e w') (h0 : r.2 = 0) (hk : Kp [] w0 w) (hf : ∀ k ∈ foot dp mb xs, w0.heap.size ≤ k) :
    ∃ p v B xs', e = .returned (.tuple #[.pointer (some ⟨p, 0, none⟩), .int .i64 r.2]) ∧ LD w0 w' p dp mb xs' r.1 nm B v L sz ∧ Mv (foot dp mb xs) w (foot dp mb xs') w' ∧ ∀ k, InL p dp mb xs' B k → k ∈ foot dp mb xs ∨ w.heap.size ≤ k := by
  obtain ⟨v0, xs', he, hD', m, _, h2⟩ := h
  obtain ⟨p, v, B, rfl, hl, hp, hb, hsp⟩ := h2 h0
  have hz := hk.size
  refine ⟨p, v, B, xs', he, ⟨hl, hD', hsp, fun k hk' => ?_, fun k hk' => ⟨by have := (hb k hk').1; omega, (hb k hk').2⟩, by omega, hk.trans m.kp (fun x hx => .inr (hf x hx))⟩, m, fun k hk' => ?_⟩
  · rcases m.new k hk' with h | h
    · exact hf k h
    · omega
  · rcases hk' with h | rfl | h
    · exact m.new k h
    · exact .inr hp
    · exact .inr (hb k h).1
/-- Two of them, apart. -/
structure Two (w W : World) (p1 dp1 mb1 p2 dp2 mb2 : Nat) (xs1 xs2 : List Ent) (d1 d2 : Dk) (nm : List UInt8) (B1 B2 : Nat → Prop) (v1 v2 : Value) (L1 L2 : List (List UInt8)) (z1 z2 : Int) : Prop where
  a : LD w W p1 dp1 mb1 xs1 d1 nm B1 v1 L1 z1
  b : LD w W p2 dp2 mb2 xs2 d2 nm B2 v2 L2 z2
  ap : ∀ k, InL p1 dp1 mb1 xs1 B1 k → ¬ InL p2 dp2 mb2 xs2 B2 k
theorem setInLD {w0 w : World} {p dp mb : Nat} {xs : List Ent} {d : Dk} {nm : List UInt8} {B : Nat → Prop} {v : Value} {L : List (List UInt8)} {sz : Int} (h : LD w0 w p dp mb xs d nm B v L sz) : ∀ k ∈ p :: own v ++ foot dp mb xs, InL p dp mb xs B k := fun k hk => by
  simp only [List.cons_append, List.mem_cons, List.mem_append] at hk
  rcases hk with rfl | hk | hk
  · exact .inr (.inl rfl)
  · exact .inr (.inr (h.log.row.from k hk))
  · exact .inl hk
theorem Two.keep {w W W' : World} {p1 dp1 mb1 p2 dp2 mb2 : Nat} {xs1 xs2 : List Ent} {d1 d2 : Dk} {nm : List UInt8} {B1 B2 : Nat → Prop} {v1 v2 : Value} {L1 L2 : List (List UInt8)} {z1 z2 : Int} (h : Two w W p1 dp1 mb1 p2 dp2 mb2 xs1 xs2 d1 d2 nm B1 B2 v1 v2 L1 L2 z1 z2) (k : Kp [] W W') : Two w W' p1 dp1 mb1 p2 dp2 mb2 xs1 xs2 d1 d2 nm B1 B2 v1 v2 L1 L2 z1 z2 := ⟨h.a.keep k, h.b.keep k, h.ap⟩
theorem Two.appA {w W W' : World} {p1 dp1 mb1 p2 dp2 mb2 : Nat} {xs1 xs2 xs1' : List Ent} {d1 d2 d1' : Dk} {nm : List UInt8} {B1 B2 B1' : Nat → Prop} {v1 v2 v1' : Value} {L1 L2 L1' : List (List UInt8)} {z1 z2 z1' : Int} (h : Two w W p1 dp1 mb1 p2 dp2 mb2 xs1 xs2 d1 d2 nm B1 B2 v1 v2 L1 L2 z1 z2) (k : Kp (p1 :: own v1 ++ foot dp1 mb1 xs1) W W') (hl : LD w W' p1 dp1 mb1 xs1' d1' nm B1' v1' L1' z1') (hi : ∀ k, InL p1 dp1 mb1 xs1' B1' k → InL p1 dp1 mb1 xs1 B1 k ∨ W.heap.size ≤ k) :
    Two w W' p1 dp1 mb1 p2 dp2 mb2 xs1' xs2 d1' d2 nm B1' B2 v1' v2 L1' L2 z1' z2 :=
  ⟨hl, h.b.stay k (fun j hj => ⟨h.ap j (setInLD h.a j hj), h.a.own j hj⟩), fun j hj hj2 => by
    rcases hi j hj with e | e
    · exact h.ap j e hj2
    · have := (h.b.inLt hj2).1; omega⟩
theorem Two.appB {w W W' : World} {p1 dp1 mb1 p2 dp2 mb2 : Nat} {xs1 xs2 xs2' : List Ent} {d1 d2 d2' : Dk} {nm : List UInt8} {B1 B2 B2' : Nat → Prop} {v1 v2 v2' : Value} {L1 L2 L2' : List (List UInt8)} {z1 z2 z2' : Int} (h : Two w W p1 dp1 mb1 p2 dp2 mb2 xs1 xs2 d1 d2 nm B1 B2 v1 v2 L1 L2 z1 z2) (k : Kp (p2 :: own v2 ++ foot dp2 mb2 xs2) W W') (hl : LD w W' p2 dp2 mb2 xs2' d2' nm B2' v2' L2' z2') (hi : ∀ k, InL p2 dp2 mb2 xs2' B2' k → InL p2 dp2 mb2 xs2 B2 k ∨ W.heap.size ≤ k) :
    Two w W' p1 dp1 mb1 p2 dp2 mb2 xs1 xs2' d1 d2' nm B1 B2' v1 v2' L1 L2' z1 z2' :=
  ⟨h.a.stay k (fun j hj => ⟨fun h1 => h.ap j h1 (setInLD h.b j hj), h.b.own j hj⟩), hl, fun j hj hj2 => by
    rcases hi j hj2 with e | e
    · exact h.ap j hj e
    · have := (h.a.inLt hj).1; omega⟩
/-- Records one by one. -/
def sg (l : List (List (List UInt8))) : List (List (List UInt8)) := l.flatMap fun R => R.map fun r => [r]
theorem sg_flat (l : List (List (List UInt8))) : (sg l).flatten = l.flatten := by
  induction l with
  | nil => rfl
  | cons R l ih =>
    have e : sg (R :: l) = R.map (fun r => [r]) ++ sg l := by simp [sg]
    have e2 : ∀ S : List (List UInt8), (S.map fun r => [r]).flatten = S := by
      intro S
      induction S with
      | nil => rfl
      | cons x S ih => simp only [List.map_cons, List.flatten_cons, ih]; rfl
    rw [e, List.flatten_append, e2, ih, List.flatten_cons]
theorem fl_flat (l : List (List (List UInt8))) (h : ∀ R ∈ l, R = [] ∨ okR R = true) : (fl l).flatten = l.flatten := by
  induction l with
  | nil => rfl
  | cons R l ih =>
    have e : fl (R :: l) = if okR R = true then R :: fl l else fl l := by unfold fl; rw [List.filter_cons]
    have ih' := ih (fun x hx => h x (by simp [hx]))
    rw [e, List.flatten_cons]
    rcases h R (by simp) with rfl | ho
    · have : okR [] = false := by simp [okR]
      rw [this]; simpa using ih'
    · rw [if_pos ho, List.flatten_cons, ih']
theorem sg_snoc (l : List (List (List UInt8))) (R : List (List UInt8)) : sg (l ++ [R]) = sg l ++ R.map fun r => [r] := by simp [sg]
end Go.Proofs.YtfpmolajpmljmaaDoor
end

section
namespace Go.Proofs.YtfpmolajpmljmaaDoor
open Go.RowKit Go.Hay
set_option linter.unusedVariables false
set_option linter.unusedSimpArgs false

/-- A disk of one file, armed or dead. -/
def oneX (r s : Nat) (nm x : List UInt8) (k : Nat) (t : Option Nat) (dd : Bool) : Dk := ⟨r, s, [⟨nm, x, k⟩], t, dd⟩
theorem look_X (r s : Nat) (nm x : List UInt8) (k : Nat) (t : Option Nat) (dd : Bool) : lookG Fl.name nm (oneX r s nm x k t dd).files = some ⟨nm, x, k⟩ := by simp [lookG, oneX]
theorem file_X (r s : Nat) (nm x : List UInt8) (k : Nat) (t : Option Nat) (dd : Bool) : fileOf (oneX r s nm x k t dd).files nm = ⟨nm, x, k⟩ := by simp [fileOf, lookG, oneX]
theorem put_X (nm x y : List UInt8) (k m : Nat) : putG Fl.name ⟨nm, y, m⟩ false [⟨nm, x, k⟩] = [⟨nm, y, m⟩] := by
  simp [putG]
  cases leN nm nm <;> rfl
theorem small_X {r s : Nat} {nm x : List UInt8} {k : Nat} {t : Option Nat} {dd : Bool} (h : x.length ≤ 140737488355328) : Small (oneX r s nm x k t dd) := fun f hf => by simp [oneX] at hf; subst hf; exact h
theorem step_X (r s : Nat) (nm x : List UInt8) (k : Nat) (t : Option Nat) : stepD (oneX r s nm x k t false) = if t = some 0 then (oneX r (s + 1) nm x k t true, true) else (oneX r (s + 1) nm x k (t.map (· - 1)) false, false) := by
  unfold stepD oneX
  split <;> rfl
theorem sync_X (r s : Nat) (nm x : List UInt8) (k : Nat) (t : Option Nat) : doD (oneX r s nm x k t false) 1 nm [] 0 = if t = some 0 then (oneX r (s + 1) nm x k t true, 44) else (oneX r (s + 1) nm x x.length (t.map (· - 1)) false, 0) := by
  have hr : refusedD (oneX r s nm x k t false) 1 nm [] 0 = 0 := by unfold refusedD; rw [look_X]; simp [oneX]
  have hc : changedF (oneX r s nm x k t false).files 1 nm [] 0 = [⟨nm, x, x.length⟩] := by
    unfold changedF
    rw [if_pos rfl, file_X]
    exact put_X _ _ _ _ _
  unfold doD
  rw [hr, if_neg (by simp), step_X, hc]
  split <;> rfl
theorem trunc_X (r s : Nat) (nm x : List UInt8) (k n : Nat) (hn : n ≤ x.length) (t : Option Nat) : doD (oneX r s nm x k t false) 2 nm [] n = if t = some 0 then (oneX r (s + 1) nm x k t true, 44) else (oneX r (s + 1) nm (x.take n) (min k n) (t.map (· - 1)) false, 0) := by
  have hr : refusedD (oneX r s nm x k t false) 2 nm [] n = 0 := by
    unfold refusedD
    rw [look_X]
    simp [oneX]
    omega
  have hc : changedF (oneX r s nm x k t false).files 2 nm [] n = [⟨nm, x.take n, min k n⟩] := by
    unfold changedF
    rw [if_neg (by decide), if_pos rfl, file_X]
    simpa [oneX] using put_X nm x (x.take n) k (min k n)
  unfold doD
  rw [hr, if_neg (by simp), step_X, hc]
  split <;> rfl
theorem append_X (r s : Nat) (nm x b : List UInt8) (k : Nat) (t : Option Nat) (hn : nameOk nm = true) (h : x.length + b.length ≤ r) : appendD (oneX r s nm x k t false) nm b = if t = some 0 then (oneX r (s + 1) nm (x ++ b) k t true, 44) else (oneX r (s + 1) nm (x ++ b) k (t.map (· - 1)) false, 0) := by
  have hg : grownF (oneX r s nm x k t false).files nm b = [⟨nm, x ++ b, k⟩] := by
    unfold grownF
    rw [file_X]
    exact put_X _ _ _ _ _
  unfold appendD
  rw [if_neg (by simp [oneX]), if_neg (by simp [hn]), if_neg (by simp [freeD, oneX, sumF]; omega), hg]
  have e : ({ oneX r s nm x k t false with files := [⟨nm, x ++ b, k⟩] } : Dk) = oneX r s nm (x ++ b) k t false := rfl
  rw [e, step_X]
  split <;> rfl
/-- What is written: whole; or the disk is dead, and of what is new no byte is sure to last. -/
theorem write_X (r s : Nat) (nm x b : List UInt8) (t : Nat) (hn : nameOk nm = true) (h : x.length + b.length ≤ r) :
    (∃ s' t', s' ≤ s + 2 ∧ writeD (oneX r s nm x x.length (some t) false) nm b = (oneX r s' nm (x ++ b) (x ++ b).length (some t') false, 0)) ∨
    ∃ s' t', s' ≤ s + 2 ∧ writeD (oneX r s nm x x.length (some t) false) nm b = (oneX r s' nm (x ++ b) x.length (some t') true, 44) := by
  unfold writeD
  rw [append_X _ _ _ _ _ _ _ hn h]
  by_cases h0 : t = 0
  · subst h0
    rw [if_pos rfl]
    exact .inr ⟨s + 1, 0, by omega, by simp⟩
  · rw [if_neg (by simp [h0])]
    rw [if_neg (by simp [h0])]
    simp only [Option.map_some]
    rw [sync_X]
    by_cases h1 : t = 1
    · subst h1
      exact .inr ⟨s + 2, 0, by omega, by simp⟩
    · rw [if_neg (by simp; omega)]
      exact .inl ⟨s + 2, t - 1 - 1, by omega, by simp⟩
theorem crash_X (r s : Nat) (nm x b : List UInt8) (t : Option Nat) (dd : Bool) (ks : List Int) : ∃ m, crashD (oneX r s nm (x ++ b) x.length t dd) ks = oneX r 0 nm (x ++ b.take m) (x ++ b.take m).length none false := by
  have key : ∀ k : Int, ∃ m, keptF ⟨nm, x ++ b, x.length⟩ k = ⟨nm, x ++ b.take m, (x ++ b.take m).length⟩ := fun k => by
    refine ⟨min k.toNat b.length, ?_⟩
    unfold keptF
    simp only [List.length_append, Nat.add_sub_cancel_left, List.length_take]
    rw [List.take_length_add_append]
    congr 1
    omega
  cases ks with
  | nil =>
    obtain ⟨m, hm⟩ := key 0
    exact ⟨m, by simp [crashD, crashF, oneX, hm]⟩
  | cons k ks =>
    obtain ⟨m, hm⟩ := key k
    exact ⟨m, by simp [crashD, crashF, oneX, hm]⟩
/-- What a file tells, also when what is torn is taken away. -/
structure Tells (y : List UInt8) (M : List (List UInt8)) : Prop where
  e : (rdQ y).2.2 = 0
  m : (rdQ y).1 = M
  n : (rdQ y).2.1 ≤ y.length
  c : rdQ (y.take (rdQ y).2.1) = (M, (rdQ y).2.1, 0)
theorem tells_all (l : List (List (List UInt8))) (h : ∀ R ∈ l, (recB R).length ≤ 16777216) : Tells (allB l) l.flatten := by
  have e := rdQ_all l h
  refine ⟨by rw [e], by rw [e], by rw [e]; exact Nat.le_refl _, ?_⟩
  rw [e]
  dsimp only
  rw [List.take_length, e]
theorem torn_all : ∀ (l : List (List (List UInt8))) (c : Nat), (allB l).length ≤ c → torn l c = (l.flatten, (allB l).length)
  | [], c, h => rfl
  | R :: l, c, h => by
    have e : allB (R :: l) = frB R ++ allB l := by simp [allB]
    rw [e, List.length_append] at h
    unfold torn
    rw [if_pos (by omega), torn_all l _ (by omega), e, List.length_append, List.flatten_cons]
theorem tells_torn (l : List (List (List UInt8))) (R : List (List UInt8)) (h : ∀ R ∈ l, (recB R).length ≤ 16777216) (hR : (recB R).length ≤ 16777216) (m : Nat) :
    Tells (allB l ++ (frB R).take m) l.flatten ∨ Tells (allB l ++ (frB R).take m) (l.flatten ++ R) := by
  have ha : ∀ S ∈ l ++ [R], (recB S).length ≤ 16777216 := fun S hS => by
    rcases List.mem_append.1 hS with h1 | h1
    · exact h S h1
    · simp at h1; subst h1; exact hR
  have e : allB l ++ (frB R).take m = (allB (l ++ [R])).take ((allB l).length + m) := by rw [allB_snoc, List.take_length_add_append]
  have et := rdQ_torn (l ++ [R]) ((allB l).length + m) ha
  rw [← e, torn_snoc, torn_all l _ (by omega)] at et
  by_cases hm : (allB (l ++ [R])).length ≤ (allB l).length + m
  · right
    have e2 : allB l ++ (frB R).take m = allB (l ++ [R]) := by rw [e]; exact List.take_of_length_le hm
    rw [e2]
    have := tells_all (l ++ [R]) ha
    simpa using this
  · left
    rw [if_neg hm] at et
    refine ⟨by rw [et], by rw [et], by rw [et]; simp, ?_⟩
    rw [et]
    dsimp only
    rw [List.take_left' rfl, rdQ_all l h]
theorem Tells.cut {y : List UInt8} {M : List (List UInt8)} (h : Tells y M) : Tells (y.take (rdQ y).2.1) M := by
  have e := h.c
  have hn := h.n
  refine ⟨by rw [e], by rw [e], by rw [e]; simp; omega, ?_⟩
  rw [e]
  dsimp only
  rw [List.take_take, Nat.min_self, e]
/-- Open of what a crash left, armed or not. -/
theorem open_X (r s : Nat) (nm y : List UInt8) (t : Option Nat) {M : List (List UInt8)} (h : Tells y M) :
    (∃ s' t' y' k', s' ≤ s + 2 ∧ openD rdQ (oneX r s nm y y.length t false) nm = (oneX r s' nm y' k' t' false, 0) ∧ y'.length ≤ y.length) ∨
    ∃ s' t' y', t ≠ none ∧ s' ≤ s + 2 ∧ openD rdQ (oneX r s nm y y.length t false) nm = (oneX r s' nm y' y'.length t' true, 44) ∧ Tells y' M ∧ y'.length ≤ y.length := by
  have hn := h.n
  unfold openD
  rw [if_neg (by simp [oneX]), look_X]
  dsimp only
  rw [if_neg (by simp [h.e])]
  by_cases hl : (rdQ y).2.1 < y.length
  · rw [if_pos hl, trunc_X _ _ _ _ _ _ hn]
    by_cases h0 : t = some 0
    · rw [if_pos h0]
      dsimp only
      rw [if_pos (by simp)]
      exact .inr ⟨s + 1, t, y, by simp [h0], by omega, rfl, h, Nat.le_refl _⟩
    · rw [if_neg h0]
      dsimp only
      rw [if_neg (by simp), sync_X]
      have hk : min y.length (rdQ y).2.1 = (y.take (rdQ y).2.1).length := by rw [List.length_take]; omega
      have hle : (y.take (rdQ y).2.1).length ≤ y.length := by rw [List.length_take]; omega
      rw [hk]
      by_cases h1 : t.map (· - 1) = some 0
      · rw [if_pos h1]
        refine .inr ⟨s + 1 + 1, _, _, (by intro hn; rw [hn] at h1; cases h1), by omega, rfl, h.cut, hle⟩
      · rw [if_neg h1]
        exact .inl ⟨s + 1 + 1, _, _, _, by omega, rfl, hle⟩
  · rw [if_neg hl, sync_X]
    by_cases h0 : t = some 0
    · rw [if_pos h0]
      exact .inr ⟨s + 1, t, y, by simp [h0], by omega, rfl, h, Nat.le_refl _⟩
    · rw [if_neg h0]
      exact .inl ⟨s + 1, _, _, _, by omega, rfl, Nat.le_refl _⟩
end Go.Proofs.YtfpmolajpmljmaaDoor
end

section
namespace Go.Proofs.YtfpmolajpmljmaaDoor
open Go.RowKit Go.Hay
set_option linter.unusedVariables false
set_option linter.unusedSimpArgs false

/-- Append, whatever it answers; where its blocks come from. -/
def AppL3 (w0 : World) (p dp mb : Nat) (xs : List Ent) (d : Dk) (nm : List UInt8) (B : Nat → Prop) (v : Value) (L : List (List UInt8)) (sz : Int) (R : List (List UInt8)) (w : World) (e : Ending) (w' : World) : Prop :=
  e = .returned (.int .i64 (appQ d nm R).2) ∧ Kp (p :: own v ++ foot dp mb xs) w w' ∧ ∃ xs' v' B', LD w0 w' p dp mb xs' (appQ d nm R).1 nm B' v' (if (appQ d nm R).2 = 0 then L ++ R else L) (if (appQ d nm R).2 = 0 then sz + appS R else sz) ∧ ∀ k, InL p dp mb xs' B' k → InL p dp mb xs B k ∨ w.heap.size ≤ k
theorem LD.app3 {w0 w : World} {p dp mb : Nat} {xs : List Ent} {d : Dk} {nm : List UInt8} {B : Nat → Prop} {v : Value} {L : List (List UInt8)} {sz : Int} (h : LD w0 w p dp mb xs d nm B v L sz)
    (hs : d.steps < 7000000000000000000) (hN : d.files.length < 7000000000000000000) (hB : Small d) (hk : nm.length ≤ maxLen) (hfl : (fileOf d.files nm).bytes.length ≤ 140737400000000) (hLl : L.length ≤ 900000000000) (hsz : 0 ≤ sz ∧ sz ≤ 8000000000000000000)
    (a : Option Addr) (c : Nat) (R : List Bs) (hR : ArgQ w a R (InL p dp mb xs B)) (hTb : Tab w0) :
    Calls Tryd.prog 18 #[.pointer (some ⟨p, 0, none⟩), .slice a R.length c] w (AppL3 w0 p dp mb xs d nm B v L sz (bsl R) w) := by
  have h00 := hTb.1
  refine (cAppendL h.log h.disk h.sep (fun k hk => (h.lb k hk).2) hs hN hB hk hfl hLl hsz a c R hR (hTb.kept h.kp (by simp)) ⟨fun hm => by have := h.lf 0 hm; omega, by have := h.lp; omega, fun hb => by have := (h.lb 0 hb).1; omega⟩).mono ?_
  rintro e w' ⟨he, xs', hD', k', hf', h1, h2⟩
  have kw : Kp [] w0 w' := h.kp.trans k' (fun x hx => .inr (h.own x hx))
  have hz := h.kp.size
  have hz' := k'.size
  have hlf : ∀ k ∈ foot dp mb xs', w0.heap.size ≤ k := fun k hk => by rcases hf' k hk with hh | hh; exact h.lf k hh; omega
  have hff : ∀ k ∈ foot dp mb xs', InL p dp mb xs B k ∨ w.heap.size ≤ k := fun k hk => by
    rcases hf' k hk with hh | hh
    · exact .inl (.inl hh)
    · exact .inr hh
  refine ⟨he, k', ?_⟩
  by_cases h0 : (appQ d nm (bsl R)).2 = 0
  · obtain ⟨v', B', hl, hb, hsp⟩ := h2 h0
    rw [if_pos h0, if_pos h0]
    refine ⟨xs', v', B', ⟨hl, hD', hsp, hlf, fun k hk => by rcases hb k hk with hh | hh; exact ⟨(h.lb k hh).1, by have := (h.lb k hh).2; omega⟩; exact ⟨by omega, hh.2⟩, h.lp, kw⟩, fun k hk => ?_⟩
    rcases hk with hk | rfl | hk
    · exact hff k hk
    · exact .inl (.inr (.inl rfl))
    · rcases hb k hk with hh | hh
      · exact .inl (.inr (.inr hh))
      · exact .inr hh.1
  · obtain ⟨hl, hsp⟩ := h1 h0
    rw [if_neg h0, if_neg h0]
    refine ⟨xs', v, B, ⟨hl, hD', hsp, hlf, fun k hk => ⟨(h.lb k hk).1, by have := (h.lb k hk).2; omega⟩, h.lp, kw⟩, fun k hk => ?_⟩
    rcases hk with hk | rfl | hk
    · exact hff k hk
    · exact .inl (.inr (.inl rfl))
    · exact .inl (.inr (.inr hk))
/-- What Append makes of a disk that may die. -/
theorem app_X (r s : Nat) (nm x : List UInt8) (t : Nat) (hn : nameOk nm = true) (R : List (List UInt8)) (h : x.length + (frB R).length ≤ r) :
    (okR R = true → appS R = (frB R).length ∧ ((∃ s' t', s' ≤ s + 2 ∧ appQ (oneX r s nm x x.length (some t) false) nm R = (oneX r s' nm (x ++ frB R) (x ++ frB R).length (some t') false, 0)) ∨
      ∃ s' t', s' ≤ s + 2 ∧ appQ (oneX r s nm x x.length (some t) false) nm R = (oneX r s' nm (x ++ frB R) x.length (some t') true, 44))) ∧
    (okR R = false → (R = [] ∧ appS R = 0 ∧ appQ (oneX r s nm x x.length (some t) false) nm R = (oneX r s nm x x.length (some t) false, 0)) ∨ appQ (oneX r s nm x x.length (some t) false) nm R = (oneX r s nm x x.length (some t) false, 90)) := by
  constructor
  · intro ho
    unfold okR at ho
    simp at ho
    have e : frmR R = (frB R, 0) := by unfold frmR frB; rw [if_pos ho.2]
    constructor
    · unfold appS
      rw [if_neg ho.1, e]
    · unfold appQ
      rw [if_neg ho.1, e, if_neg (by simp)]
      exact write_X _ _ _ _ _ _ hn h
  · intro ho
    unfold okR at ho
    simp at ho
    by_cases h0 : R = []
    · subst h0
      exact .inl ⟨rfl, by simp [appS], by simp [appQ]⟩
    · have e : frmR R = ([], 90) := by unfold frmR; rw [if_neg (by have := ho h0; omega)]
      right
      unfold appQ
      rw [if_neg h0, e, if_pos (by simp)]
/-- The log and its disk, by the frames; what is not sure to last; the blocks that are apart from it. -/
def CrX (w : World) (p dp mb : Nat) (l : List (List (List UInt8))) (F : List UInt8) (b : Nat) (dd : Bool) (X : List Nat) (W : World) : Prop :=
  ∃ (xs : List Ent) (s t : Nat) (B : Nat → Prop) (v : Value), s ≤ b ∧ LD w W p dp mb xs (oneX 1125899906842624 s nmL (allB l ++ F) (allB l).length (some t) dd) nmL B v l.flatten ((allB l).length : Int) ∧ ∀ k ∈ X, ¬ InL p dp mb xs B k ∧ k < W.heap.size
theorem CrX.keep {w W W' : World} {p dp mb : Nat} {l : List (List (List UInt8))} {F : List UInt8} {b : Nat} {dd : Bool} {X X' : List Nat} (h : CrX w p dp mb l F b dd X W) {S : List Nat} (k : Kp S W W') (hS : ∀ j ∈ S, j ∈ X ∧ w.heap.size ≤ j) (hX : ∀ j ∈ X', (j ∈ X ∨ W.heap.size ≤ j) ∧ j < W'.heap.size) : CrX w p dp mb l F b dd X' W' := by
  obtain ⟨xs, s, t, B, v, h1, h2, h3⟩ := h
  refine ⟨xs, s, t, B, v, h1, h2.stay k (fun j hj => ⟨(h3 j (hS j hj).1).1, (hS j hj).2⟩), fun j hj => ⟨fun hi => ?_, (hX j hj).2⟩⟩
  rcases (hX j hj).1 with e | e
  · exact (h3 j e).1 hi
  · have := (h2.inLt hi).1; omega
/-- What Append leaves. -/
inductive CrA (w : World) (p dp mb : Nat) (l : List (List (List UInt8))) (b : Nat) (X : List Nat) (R : List (List UInt8)) (W W' : World) : Int → Prop
  | done : (R = [] ∨ okR R = true) → CrX w p dp mb (if okR R = true then l ++ [R] else l) [] (b + 2) false X W' → CrA w p dp mb l b X R W W' 0
  | no : okR R = false → CrX w p dp mb l [] (b + 2) false X W' → CrA w p dp mb l b X R W W' 90
  | died : okR R = true → CrX w p dp mb l (frB R) (b + 2) true X W' → CrA w p dp mb l b X R W W' 44
theorem CrX.app {w W : World} {p dp mb : Nat} {l : List (List (List UInt8))} {b : Nat} {X : List Nat} (h : CrX w p dp mb l [] b false X W) (hb : b ≤ 100000000) (hl : (allB l).length ≤ 100000000) (hf : l.flatten.length ≤ 100000000)
    (a : Option Addr) (c : Nat) (R : List Bs) (hR : ∀ Y : Nat → Prop, (∀ k, Y k → w.heap.size ≤ k) → ArgQ W a R Y) (hRl : (frB (bsl R)).length ≤ 100000000) (hTb : Tab w) :
    Calls Tryd.prog 18 #[.pointer (some ⟨p, 0, none⟩), .slice a R.length c] W fun e W' => ∃ z, e = .returned (.int .i64 z) ∧ CrA w p dp mb l b X (bsl R) W W' z ∧ ∃ S, Kp S W W' ∧ ∀ k ∈ S, k ∉ X ∧ w.heap.size ≤ k := by
  obtain ⟨xs, s, t, B, v, h1, h2, h3⟩ := h
  rw [List.append_nil] at h2
  refine (h2.app3 (by simp only [oneX]; omega) (by simp [oneX]) (small_X (by omega)) (by unfold maxLen; simp [nmL]) (by rw [file_X]; simp only; omega) (by omega) (by omega) a c R (hR _ (fun k hk => (h2.inLt hk).2)) hTb).mono ?_
  rintro e W' ⟨he, hk, xs', v', B', hL', hi'⟩
  have hz := hk.size
  have hX : ∀ k ∈ X, ¬ InL p dp mb xs' B' k ∧ k < W'.heap.size := fun k hk1 => ⟨fun hi => by
    rcases hi' k hi with e1 | e1
    · exact (h3 k hk1).1 e1
    · have := (h3 k hk1).2; omega, by have := (h3 k hk1).2; omega⟩
  refine ⟨_, he, ?_, _, hk, fun k hk1 => ⟨fun hx => (h3 k hx).1 (setInLD h2 k hk1), h2.own k hk1⟩⟩
  obtain ⟨o1, o2⟩ := app_X 1125899906842624 s nmL (allB l) t rnL (bsl R) (by omega)
  cases hor : okR (bsl R) with
  | true =>
    obtain ⟨es, ⟨s', t', hs', e1⟩ | ⟨s', t', hs', e1⟩⟩ := o1 hor
    · rw [e1] at hL' ⊢
      rw [if_pos rfl, if_pos rfl, es] at hL'
      refine .done (.inr hor) ⟨xs', s', t', B', v', by omega, ?_, hX⟩
      rw [if_pos hor, allB_snoc, List.append_nil, List.flatten_append, List.length_append]
      simp only [List.flatten_cons, List.flatten_nil, List.append_nil]
      rw [Int.natCast_add]
      rw [List.length_append] at hL'
      exact hL'
    · rw [e1] at hL' ⊢
      rw [if_neg (by simp), if_neg (by simp)] at hL'
      exact .died hor ⟨xs', s', t', B', v', by omega, hL', hX⟩
  | false =>
    rcases o2 hor with ⟨e0, es, e1⟩ | e1
    · rw [e1] at hL' ⊢
      rw [if_pos rfl, if_pos rfl, es, Int.add_zero, e0, List.append_nil] at hL'
      refine .done (.inl e0) ⟨xs', s, t, B', v', by omega, ?_, hX⟩
      rw [if_neg (by simp [hor]), List.append_nil]
      exact hL'
    · rw [e1] at hL' ⊢
      rw [if_neg (by simp), if_neg (by simp)] at hL'
      exact .no hor ⟨xs', s, t, B', v', by omega, by rw [List.append_nil]; exact hL', hX⟩
end Go.Proofs.YtfpmolajpmljmaaDoor
end

section
namespace Go.Proofs.YtfpmolajpmljmaaDoor
open Go.RowKit Go.Hay
set_option linter.unusedVariables false
set_option linter.unusedSimpArgs false

/-- The cells of a slice stand. -/
def KeepS (v : Value) (A B : World) : Prop := ∀ g o n c j u, v = .slice (some ⟨g, o, none⟩) n c → j < n → A.cell? ⟨g, o + j, none⟩ = some u → B.cell? ⟨g, o + j, none⟩ = some u
theorem KeepS.refl (v : Value) (A : World) : KeepS v A A := fun _ _ _ _ _ _ _ _ h => h
theorem KeepS.trans {v : Value} {A B C : World} (h : KeepS v A B) (k : KeepS v B C) : KeepS v A C := fun g o n c j u e hj hc => k g o n c j u e hj (h g o n c j u e hj hc)
theorem KeepS.ofKp {v : Value} {S : List Nat} {A B : World} (k : Kp S A B) (hS : ∀ j ∈ own v, j ∉ S) : KeepS v A B := fun g o n c j u e hj hc =>
  (k.cell (p := ⟨g, o + j, none⟩) (World.block_lt_of_cell? _ _ hc) (hS g (by rw [e]; simp [own, Value.ownBlock]))).trans hc
/-- The row that was stands; the new one is the same, or lies anew. -/
def AppK (v v' : Value) (A B : World) : Prop := KeepS v A B ∧ ((∃ a n n' c c', v = .slice a n c ∧ v' = .slice a n' c' ∧ n ≤ n') ∨ ∀ k ∈ own v', A.heap.size ≤ k)
theorem AppK.refl {B : Nat → Prop} {w : World} {v : Value} {L : List (List UInt8)} (h : RowP B w v L) (A : World) : AppK v v A A := by
  obtain ⟨a, c, e⟩ := rowPshape h
  exact ⟨KeepS.refl _ _, .inl ⟨a, _, _, c, c, e, e, Nat.le_refl _⟩⟩
theorem AppK.step {v v1 v2 : Value} {A B C D E : World} {p : Nat} (h : AppK v v1 A B) (hz : A.heap.size ≤ B.heap.size) (k1 : Kp [] B C) (h2 : AppK v1 v2 C D) (k2 : Kp (own v1) C D) (k3 : Kp [p] D E) (hp : p ∉ own v) : AppK v v2 A E := by
  have z1 := k1.size
  refine ⟨fun g o n c j u e hj hc => ?_, ?_⟩
  · have hB := h.1 g o n c j u e hj hc
    have hC := (k1.cell (p := ⟨g, o + j, none⟩) (World.block_lt_of_cell? _ _ hB) (by simp)).trans hB
    have hg := World.block_lt_of_cell? _ _ hc
    have hD : D.cell? ⟨g, o + j, none⟩ = some u := by
      rcases h.2 with ⟨a, m, m', c1, c2, e1, e2, hm⟩ | hn
      · rw [e] at e1
        injection e1 with e3 e4 e5
        subst e3
        exact h2.1 g o m' c2 j u e2 (by omega) hC
      · exact (k2.cell (p := ⟨g, o + j, none⟩) (World.block_lt_of_cell? _ _ hC) (fun hm => by have := hn g hm; simp at hg; omega)).trans hC
    refine (k3.cell (p := ⟨g, o + j, none⟩) (World.block_lt_of_cell? _ _ hD) (fun hm => hp ?_)).trans hD
    simp at hm
    rw [← hm, e]
    simp [own, Value.ownBlock]
  · rcases h2.2 with ⟨a, m, m', c1, c2, e1, e2, hm⟩ | hn
    · rcases h.2 with ⟨a', q, q', d1, d2, f1, f2, hq⟩ | hn'
      · rw [f2] at e1
        injection e1 with e3 e4 e5
        subst e3
        exact .inl ⟨a', q, m', d1, c2, f1, e2, by omega⟩
      · refine .inr fun k hk => hn' k ?_
        rw [e2] at hk
        rw [e1]
        rw [ownQ] at hk ⊢
        exact hk
    · exact .inr fun k hk => by have := hn k hk; omega
theorem AppK.pre {v v1 : Value} {A B C : World} {S : List Nat} (h : AppK v v1 B C) (k : Kp S A B) (hS : ∀ j ∈ own v, j ∉ S) : AppK v v1 A C := by
  refine ⟨(KeepS.ofKp k hS).trans h.1, ?_⟩
  rcases h.2 with h2 | h2
  · exact .inl h2
  · exact .inr fun j hj => by have := h2 j hj; have := k.size; omega
theorem AppK.post {v v1 : Value} {A B C : World} {S : List Nat} (h : AppK v v1 A B) (k : Kp S B C) (hS : ∀ j ∈ own v, j ∉ S) : AppK v v1 A C := ⟨h.1.trans (KeepS.ofKp k hS), h.2⟩
/-- One behind the other. -/
theorem AppK.then {v v1 v2 : Value} {A B C : World} {S : List Nat} (h : AppK v v1 A B) (hz : A.heap.size ≤ B.heap.size) (h2 : AppK v1 v2 B C) (k : Kp S B C) (hS : ∀ j ∈ own v, j ∈ S → j ∈ own v1) : AppK v v2 A C := by
  refine ⟨fun g o n c j u e hj hc => ?_, ?_⟩
  · have hB := h.1 g o n c j u e hj hc
    have hg := World.block_lt_of_cell? _ _ hc
    rcases h.2 with ⟨a, m, m', c1, c2, e1, e2, hm⟩ | hn
    · rw [e] at e1
      injection e1 with e3 e4 e5
      subst e3
      exact h2.1 g o m' c2 j u e2 (by omega) hB
    · refine (k.cell (p := ⟨g, o + j, none⟩) (World.block_lt_of_cell? _ _ hB) (fun hm => ?_)).trans hB
      have := hn g (hS g (by rw [e]; simp [own, Value.ownBlock]) hm)
      simp at hg
      omega
  · rcases h2.2 with ⟨a, m, m', c1, c2, e1, e2, hm⟩ | hn
    · rcases h.2 with ⟨a', q, q', d1, d2, f1, f2, hq⟩ | hn'
      · rw [f2] at e1
        injection e1 with e3 e4 e5
        subst e3
        exact .inl ⟨a', q, m', d1, c2, f1, e2, by omega⟩
      · refine .inr fun k hk => hn' k ?_
        rw [e2] at hk
        rw [e1]
        rw [ownQ] at hk ⊢
        exact hk
    · exact .inr fun k hk => by have := hn k hk; omega
/-- An append of slices of bytes, as it runs. -/
theorem appKeepS {P : Program} {w : World} (t tx ty : TypeId) (i : TypeInfo) (ht : P.underlying t = some (.slice 22)) (hi : P.info? 22 = some i) (hz : i.zero = some (.slice none 0 0)) (hsize : i.size = 1) (hby : i.bytes = 24)
    (v : Value) (xs : List Value) (hown : RowS w v xs) (x : Value) (bs : List Value) (hs : Src P 1 tx x bs.length bs w) (hb : xs.length + bs.length ≤ 5000000000000) {v' : Value} {w' : World} (hr : (Builtin.append_ #[t, tx] ty #[v, x]).run P w = .ok v' w') : AppK v v' w w' := by
  have hs' := hs
  rw [← hsize] at hs'
  have grow : ∀ (ao : Option Addr) (cap : Nat), v = .slice ao xs.length cap → cap < xs.length + bs.length → (Builtin.firstCells i.size xs.length (.slice ao xs.length cap)).run P w.drew = .ok xs.toArray w.drew → AppK v v' w w' := by
    rintro ao cap rfl hlt hold
    have hrun := run_append_grow_src (P := P) w t tx ty 22 i (.slice none 0 0) ht hi hz ao xs.length cap xs hold x bs.length bs hs' hlt (by omega) (growslice_fits_wide hlt (by rw [hby]; omega))
    rw [hrun] at hr
    injection hr with e1 e2
    subst e1 e2
    refine ⟨KeepS.ofKp (S := []) ((Kp.refl _ w).drew.alloc _) (by simp), .inr fun k hk => ?_⟩
    simp [own, Value.ownBlock] at hk
    omega
  rcases hown with ⟨rfl, rfl⟩ | ⟨g, o, cap, rfl, hl, hm, hg, hc, ht'⟩
  · rcases Nat.eq_zero_or_pos bs.length with h0 | h0
    · obtain rfl : bs = [] := List.length_eq_zero_iff.1 h0
      have hrun := run_append_nothing (P := P) w t tx ty 22 i ht hi none 0 0 (Nat.le_refl _) x hs'
      rw [hrun] at hr
      injection hr with e1 e2
      subst e1 e2
      exact ⟨KeepS.refl _ _, .inl ⟨none, 0, 0, 0, 0, rfl, rfl, Nat.le_refl _⟩⟩
    · exact grow none 0 rfl (by simpa using h0) (run_firstCells_none w.drew i.size 0 0 0)
  · by_cases hroom : xs.length + bs.length ≤ cap
    · have hsome : ∀ j, j < bs.length → (w.cell? ⟨g, o + xs.length * i.size + j, none⟩).isSome = true := fun j hj => by
        rw [hsize, Nat.mul_one, Nat.add_assoc]; exact (ht' (xs.length + j) (by omega)).1
      have hrun := run_append_room_src (P := P) w t tx ty 22 i ht hi g o xs.length cap x bs.length bs hs' hroom hsome
        (fun j hj => by rw [hsize, Nat.mul_one, Nat.add_assoc]; exact (ht' (xs.length + j) (by omega)).2)
      rw [hsize, Nat.mul_one] at hrun
      rw [hrun] at hr
      injection hr with e1 e2
      subst e1 e2
      refine ⟨fun g' o' n' c' j u e hj hcu => ?_, .inl ⟨_, _, _, _, _, rfl, rfl, by omega⟩⟩
      injection e with e1 e2 e3
      injection e1 with e1
      injection e1 with e4 e5
      subst e4 e5
      rw [World.cell?_setCells_out _ _ _ _ _ (fun _ _ => Or.inl (by show o + j < o + xs.length; omega))]
      exact hcu
    · refine grow (some ⟨g, o, none⟩) cap rfl (by omega) ?_
      exact run_firstCells_some w.drew i.size xs.length ⟨g, o, none⟩ xs.length cap xs (by rw [hsize]; omega) (fun j u hu => by rw [Addr.add_lit]; exact hc j u hu)
theorem appKeepP {B : Nat → Prop} {w : World} {v : Value} {L : List (List UInt8)} (h : RowP B w v L) {xv : Value} {bs : List UInt8} (hr : Row w xv bs) (hd : ∀ k ∈ own xv, B k ∧ k ∉ own v) (hB : ∀ k, w.heap.size ≤ k → B k) {q : Nat} (hq : w.heap.size = q) (hb : L.length + 1 ≤ 5000000000000) (ty : TypeId) :
    ∃ v' w', (Builtin.append_ #[23, 23] ty #[v, .slice (some ⟨q, 0, none⟩) 1 1]).run Tryd.prog (w.alloc (.cells #[xv] 22)) = .ok v' w' ∧ RowP B w' v' (L ++ [bs]) ∧ Kp (own v) w w' ∧ (∀ k ∈ own v', k ∈ own v ∨ w.heap.size ≤ k) ∧ AppK v v' w w' := by
  obtain ⟨v', w', h1, h2, h3, h4⟩ := runAppendP h hr hd hB hq hb ty
  refine ⟨v', w', h1, h2, h3, h4, ?_⟩
  subst hq
  obtain ⟨i, hi, hz, hz1, hz2⟩ := infoSl
  obtain ⟨vs, hvl, hs, hfr, hel⟩ := h
  have k0 : Kp [] w (w.alloc (.cells #[xv] 22)) := (Kp.refl _ _).alloc (.cells #[xv] 22)
  have hsA := hs.kept (S := []) k0 (by simp)
  have hsrc : Src Tryd.prog 1 23 (.slice (some ⟨w.heap.size, 0, none⟩) 1 1) [xv].length [xv] (w.alloc (.cells #[xv] 22)) := by
    refine Src.ofSlice _ Tryd.underlying23 ⟨w.heap.size, 0, none⟩ 1 1 [xv] rfl ?_ (by intro u hu; simp at hu; subst hu; exact rowOne hr)
    intro j u hu
    match j, hu with
    | 0, hu => cases hu; rw [Addr.add_lit]; exact World.cell?_alloc_new w _ _ 0
    | j + 1, hu => simp at hu
  have hk := appKeepS (P := Tryd.prog) 23 23 ty i Tryd.underlying23 hi hz hz1 hz2 v vs hsA _ [xv] hsrc (by simp; omega) h1
  refine ⟨(KeepS.ofKp k0 (by simp)).trans hk.1, ?_⟩
  rcases hk.2 with h | h
  · exact .inl h
  · exact .inr fun k hk' => by have := h k hk'; have := k0.size; omega
/-- What Append hands back. -/
def AppPK (p dp mb : Nat) (xs : List Ent) (d : Dk) (nm : List UInt8) (B : Nat → Prop) (v : Value) (L : List (List UInt8)) (sz : Int) (R : List (List UInt8)) (w : World) (e : Ending) (w' : World) : Prop :=
  e = .returned (.int .i64 (appQ d nm R).2) ∧ ∃ xs', Disk w' dp mb xs' (appQ d nm R).1 ∧ Kp (p :: own v ++ foot dp mb xs) w w' ∧ (∀ k ∈ foot dp mb xs', k ∈ foot dp mb xs ∨ w.heap.size ≤ k) ∧
    ((appQ d nm R).2 ≠ 0 → Log w' p dp nm B v L sz ∧ ∀ k ∈ foot dp mb xs', ¬ B k ∧ k ≠ p) ∧
    ((appQ d nm R).2 = 0 → ∃ v' B', Log w' p dp nm B' v' (L ++ R) (sz + appS R) ∧ (∀ k, B' k → B k ∨ (w.heap.size ≤ k ∧ k < w'.heap.size)) ∧ (∀ k ∈ foot dp mb xs', ¬ B' k ∧ k ≠ p) ∧ AppK v v' w w')
/-- How the loop stands. -/
structure ApK (w5 : World) (p dp : Nat) (nm : List UInt8) (B : Nat → Prop) (v : Value) (L : List (List UInt8)) (sz : Int) (R : List (List UInt8)) (W : World) (v1 : Value) : Prop where
  log : Log W p dp nm (fun k => B k ∨ w5.heap.size ≤ k) v1 (L ++ R) sz
  kp : Kp (p :: own v) w5 W
  own : ∀ k ∈ own v1, k ∈ own v ∨ w5.heap.size ≤ k
  ak : AppK v v1 w5 W
set_option maxHeartbeats 16000000 in
set_option maxRecDepth 100000 in
theorem cAppendK {w : World} {p dp mb : Nat} {xs : List Ent} {d : Dk} {nm : List UInt8} {B : Nat → Prop} {v : Value} {L : List (List UInt8)} {sz : Int} (hL : Log w p dp nm B v L sz) (hD : Disk w dp mb xs d) (hsep : ∀ k ∈ foot dp mb xs, ¬ B k ∧ k ≠ p) (hBl : ∀ k, B k → k < w.heap.size)
    (hs : d.steps < 7000000000000000000) (hN : d.files.length < 7000000000000000000) (hB : Small d) (hk : nm.length ≤ maxLen) (hfl : (fileOf d.files nm).bytes.length ≤ 140737400000000) (hLl : L.length ≤ 900000000000) (hsz : 0 ≤ sz ∧ sz ≤ 8000000000000000000)
    (a : Option Addr) (c : Nat) (R : List Bs) (hR : ArgQ w a R (fun k => k ∈ foot dp mb xs ∨ k = p ∨ B k)) (hTb : Tab w) (h0 : 0 ∉ foot dp mb xs ∧ 0 ≠ p ∧ ¬ B 0) :
    Calls Tryd.prog 18 #[.pointer (some ⟨p, 0, none⟩), .slice a R.length c] w (AppPK p dp mb xs d nm B v L sz (bsl R) w) := by
  have c0 := hL.box.c0
  have c1 := hL.box.c1
  have hplt := hL.box.lt
  by_cases hR0 : R.length = 0
  · have e0 : R = [] := List.length_eq_zero_iff.1 hR0
    subst e0
    have hap : appQ d nm (bsl []) = (d, 0) := rfl
    have Hf : Hid (AppPK p dp mb xs d nm B v L sz (bsl []) w (.returned (.int .i64 0)) w) := by
      refine ⟨rfl, xs, hD, Kp.refl _ _, fun k hk => .inl hk, fun h => absurd rfl h, fun _ => ⟨v, B, ?_, fun k hk => .inl hk, hsep, AppK.refl hL.row w⟩⟩
      have e1 : L ++ bsl [] = L := by simp [bsl]
      have e2 : sz + appS (bsl []) = sz := by simp [appS, bsl]
      rw [e1, e2]
      exact hL
    clear hL hD hsep hBl hR hTb hB
    go_enter Tryd.func18, Tryd.ntmps18
    go_wp2_with fail
    go_ret
    exact Hf.out
  · have hne : bsl R ≠ [] := fun h => hR0 (by have := congrArg List.length h; rw [bsl_len] at this; simpa using this)
    have dR0 : ((R.length : Int) == 0) = false := by rw [beq_eq_false_iff_ne]; omega
    have hFr := hid (cFrames a c R w hTb hR.see hR.ok (by have := hR.few; omega))
    have hq1 : Hid ((frmR (bsl R)).2 ≠ 0 → appQ d nm (bsl R) = (d, (frmR (bsl R)).2)) := fun h => by unfold appQ; rw [if_neg hne, if_pos h]
    have hq2 : Hid ((frmR (bsl R)).2 = 0 → appQ d nm (bsl R) = writeD d nm (frmR (bsl R)).1) := fun h => by unfold appQ; rw [if_neg hne, if_neg (by simpa using h)]
    have hqs : Hid (appS (bsl R) = ((frmR (bsl R)).1.length : Int)) := by show _ = _; unfold appS; rw [if_neg hne]
    have hfll : Hid ((frmR (bsl R)).1.length ≤ 16777300) := by
      show _ ≤ _
      unfold frmR
      split
      · rw [frameB_length]; omega
      · simp
    obtain ⟨⟨f1, f2⟩, hfe⟩ : ∃ f, Hid (frmR (bsl R) = f) := ⟨_, rfl⟩
    obtain ⟨Q, hQe⟩ : ∃ Q, Hid (appQ d nm (bsl R) = Q) := ⟨_, rfl⟩
    rw [hfe.out] at hFr hq1 hq2 hqs hfll
    rw [hQe.out] at hq1 hq2
    dsimp only at hq1 hq2 hqs hfll
    have HP : Hid (AppPK p dp mb xs d nm B v L sz (bsl R) w = fun e w' => e = .returned (.int .i64 Q.2) ∧ ∃ xs', Disk w' dp mb xs' Q.1 ∧ Kp (p :: own v ++ foot dp mb xs) w w' ∧ (∀ k ∈ foot dp mb xs', k ∈ foot dp mb xs ∨ w.heap.size ≤ k) ∧
      (Q.2 ≠ 0 → Log w' p dp nm B v L sz ∧ ∀ k ∈ foot dp mb xs', ¬ B k ∧ k ≠ p) ∧
      (Q.2 = 0 → ∃ v' B', Log w' p dp nm B' v' (L ++ bsl R) (sz + f1.length) ∧ (∀ k, B' k → B k ∨ (w.heap.size ≤ k ∧ k < w'.heap.size)) ∧ (∀ k ∈ foot dp mb xs', ¬ B' k ∧ k ≠ p) ∧ AppK v v' w w')) := by
      show _ = _
      unfold AppPK
      rw [hQe.out, hqs.out]
    obtain ⟨PP, hPP⟩ : ∃ PP, Hid (AppPK p dp mb xs d nm B v L sz (bsl R) w = PP) := ⟨_, rfl⟩
    rw [hPP.out]
    have H0 := hid (And.intro hL (And.intro hD (And.intro hsep (And.intro hBl (And.intro hR hB)))))
    clear hL hD hsep hBl hR hTb hB hQe hqs hfe
    go_enter Tryd.func18, Tryd.ntmps18
    go_wp2_with fail
    refine hFr.out.mono ?_
    rintro e w1 ⟨b1, cb1, rfl, hr1, k1, hn1⟩
    dsimp only at hr1
    obtain ⟨b1', cb1', eb, hs1, -⟩ := hr1.sees
    cases eb
    have H1 := hid (And.intro hs1 (And.intro k1 hn1))
    have c0' := (k1.cell (p := ⟨p, 0, none⟩) hplt (by simp)).trans c0
    have c1' := (k1.cell (p := ⟨p, 1, none⟩) hplt (by simp)).trans c1
    have hplt1 : p < w1.heap.size := by have := k1.size; omega
    clear hFr hr1 hs1 k1 hn1 c0 c1
    by_cases hf2 : f2 = 0
    · have hQ := hq2.out hf2
      subst hf2
      have hL1 := H0.out.1.kept H1.out.2.1 (by simp) (by simp)
      have hD1 := H0.out.2.1.keptNew H1.out.2.1
      have hW := hid (cWriteQ (hD1.keptNew ((Kp.refl [] w1).drew)) (by omega) (by rw [foot_len H0.out.2.1]; omega) H0.out.2.2.2.2.2 nm hk b1 cb1 f1 (H1.out.1.kept ((Kp.refl [] w1).drew) (by simp)) (fun _ k hk' hm => by have := H1.out.2.2 k hk'; have := H0.out.2.1.lt k hm; omega) (by have := hfll.out; omega))
      obtain ⟨⟨d5, e5⟩, hr5⟩ : ∃ r, Hid (writeD d nm f1 = r) := ⟨_, rfl⟩
      rw [hr5.out] at hW hQ
      subst hQ
      have HL1 := hid hL1
      clear hq1 hq2 hr5 hL1 hD1
      have HSd : Hid (∀ A, Kp (foot dp mb xs) w1 A → A.cell? ⟨p, 0, none⟩ = some (.pointer (some ⟨dp, 0, none⟩)) ∧ A.cell? ⟨p, 1, none⟩ = some (.string ⟨nm.toArray⟩)) := fun A kA =>
        ⟨(kA.cell (p := ⟨p, 0, none⟩) hplt1 (fun hm => (H0.out.2.2.1 p hm).2 rfl)).trans c0', (kA.cell (p := ⟨p, 1, none⟩) hplt1 (fun hm => (H0.out.2.2.1 p hm).2 rfl)).trans c1'⟩
      have kdr : Kp (foot dp mb xs) w1 w1.drew := (Kp.refl _ _).drew
      have KDR := hid kdr
      have HS0 := HSd.out _ kdr
      clear kdr
      go_wp2_with fail
      refine wp_noPanic ?_
      refine wp_region_held_drew (S := fun A => A.cell? ⟨p, 0, none⟩ = some (.pointer (some ⟨dp, 0, none⟩)) ∧ A.cell? ⟨p, 1, none⟩ = some (.string ⟨nm.toArray⟩)) (by kernel_rfl) ?_ (fun hHeld => ?_)
      · exact HS0
      clear c0' c1'
      generalize w1.drew = wd at *
      refine wpAnyH_take (i := 0) (v := ?_) rfl (by kernel_rfl) (by kernel_rfl) (by kernel_rfl) (fun _ _ _ h => by cases h.1) (Or.inl ⟨by rfl, ?_⟩) (by assumption) ?_
      rotate_left
      · intro w hSw; (try dsimp only at hSw); go_simp <;> with_reducible rfl
      try simp only [Act.put, List.getElem_toArray, List.getElem_cons_zero, List.getElem_cons_succ, List.setIfInBounds_toArray, List.set_cons_zero, List.set_cons_succ]
      refine wpAnyH_take (i := 1) (v := ?_) rfl (by kernel_rfl) (by kernel_rfl) (by kernel_rfl) (fun _ _ _ h => by cases h.1) (Or.inl ⟨by rfl, ?_⟩) (by assumption) ?_
      rotate_left
      · intro w hSw; (try dsimp only at hSw); go_simp <;> with_reducible rfl
      try simp only [Act.put, List.getElem_toArray, List.getElem_cons_zero, List.getElem_cons_succ, List.setIfInBounds_toArray, List.set_cons_zero, List.set_cons_succ]
      refine wpAnyH_take (i := 2) (v := ?_) rfl (by kernel_rfl) (by kernel_rfl) (by kernel_rfl) (fun _ _ _ h => by cases h.1) (Or.inl ⟨by rfl, ?_⟩) (by assumption) ?_
      rotate_left
      · intro w hSw; (try dsimp only at hSw); go_simp <;> with_reducible rfl
      try simp only [Act.put, List.getElem_toArray, List.getElem_cons_zero, List.getElem_cons_succ, List.setIfInBounds_toArray, List.set_cons_zero, List.set_cons_succ]
      refine wpAnyH_take (i := 3) (v := ?_) rfl (by kernel_rfl) (by kernel_rfl) (by kernel_rfl) (fun _ _ _ h => by cases h.1) (Or.inl ⟨by rfl, ?_⟩) (by assumption) ?_
      rotate_left
      · intro w hSw; (try dsimp only at hSw); go_simp <;> with_reducible rfl
      try simp only [Act.put, List.getElem_toArray, List.getElem_cons_zero, List.getElem_cons_succ, List.setIfInBounds_toArray, List.set_cons_zero, List.set_cons_succ]
      refine wpAnyH_take (i := 4) (v := ?_) rfl (by kernel_rfl) (by kernel_rfl) (by kernel_rfl) (fun _ _ _ h => by cases h.1) (Or.inl ⟨by rfl, ?_⟩) (by assumption) ?_
      rotate_left
      · intro w hSw; (try dsimp only at hSw); go_simp <;> with_reducible rfl
      try simp only [Act.put, List.getElem_toArray, List.getElem_cons_zero, List.getElem_cons_succ, List.setIfInBounds_toArray, List.set_cons_zero, List.set_cons_succ]
      refine wpAnyH_take (i := 5) (v := ?_) rfl (by kernel_rfl) (by kernel_rfl) (by kernel_rfl) (fun _ _ _ h => by cases h.1) (Or.inl ⟨by rfl, ?_⟩) (by assumption) ?_
      rotate_left
      · intro w hSw; (try dsimp only at hSw); go_simp <;> with_reducible rfl
      try simp only [Act.put, List.getElem_toArray, List.getElem_cons_zero, List.getElem_cons_succ, List.setIfInBounds_toArray, List.set_cons_zero, List.set_cons_succ]
      refine wpAnyH_take (i := 6) (v := ?_) rfl (by kernel_rfl) (by kernel_rfl) (by kernel_rfl) (fun _ _ _ h => by cases h.1) (Or.inl ⟨by rfl, ?_⟩) (by assumption) ?_
      rotate_left
      · intro w hSw; (try dsimp only at hSw); go_simp <;> with_reducible rfl
      try simp only [Act.put, List.getElem_toArray, List.getElem_cons_zero, List.getElem_cons_succ, List.setIfInBounds_toArray, List.set_cons_zero, List.set_cons_succ]
      refine wpAnyH_take (i := 7) (v := ?_) rfl (by kernel_rfl) (by kernel_rfl) (by kernel_rfl) (fun _ _ _ h => by cases h.1) (Or.inl ⟨by rfl, ?_⟩) (by assumption) ?_
      rotate_left
      · intro w hSw; (try dsimp only at hSw); go_simp <;> with_reducible rfl
      try simp only [Act.put, List.getElem_toArray, List.getElem_cons_zero, List.getElem_cons_succ, List.setIfInBounds_toArray, List.set_cons_zero, List.set_cons_succ]
      refine wpAnyH_take (i := 8) (v := ?_) rfl (by kernel_rfl) (by kernel_rfl) (by kernel_rfl) (fun _ _ _ h => by cases h.1) (Or.inl ⟨by rfl, ?_⟩) (by assumption) ?_
      rotate_left
      · intro w hSw; (try dsimp only at hSw); go_simp <;> with_reducible rfl
      try simp only [Act.put, List.getElem_toArray, List.getElem_cons_zero, List.getElem_cons_succ, List.setIfInBounds_toArray, List.set_cons_zero, List.set_cons_succ]
      refine wpAnyH_ready (rs := [9]) (by kernel_rfl) (by simp) ?_
      refine AllReadyH.cons rfl (fun K hK => ?_) AllReadyH.nil
      go_simp
      refine hW.out.mono ?_
      rintro e w5 ⟨rfl, hm5⟩
      have k5S := hm5.choose_spec.2.kp
      (try go_wp2_with fail)
      refine hK.out _ _ ?_ (fun hHeld => ?_)
      · exact HSd.out _ (KDR.out.trans k5S (fun x hx => .inl hx))
      clear hK K
      try simp only [Act.put, List.getElem_toArray, List.getElem_cons_zero, List.getElem_cons_succ, List.setIfInBounds_toArray, List.set_cons_zero, List.set_cons_succ]
      clear k5S
      refine wpAnyH_take (i := 10) (v := ?_) rfl (by kernel_rfl) (by kernel_rfl) (by kernel_rfl) (fun _ _ _ h => by cases h.1) (Or.inl ⟨by rfl, ?_⟩) (by assumption) ?_
      rotate_left
      · intro w hSw; (try dsimp only at hSw); go_simp <;> with_reducible rfl
      try simp only [Act.put, List.getElem_toArray, List.getElem_cons_zero, List.getElem_cons_succ, List.setIfInBounds_toArray, List.set_cons_zero, List.set_cons_succ]
      refine wpAnyH_done (by kernel_rfl) ⟨rfl, ?_⟩ _
      rcases hm5 with ⟨xs5, hD5, m5⟩
      have H5 := hid (And.intro hD5 m5)
      clear hD5 m5 HS0 hHeld
      by_cases h5 : e5 = 0
      · subst h5
        have k15 : Kp (foot dp mb xs) w1 w5 := KDR.out.trans H5.out.2.kp (fun x hx => .inl hx)
        have kw5 : Kp (foot dp mb xs) w w5 := (H1.out.2.1.mono (by simp)).trans k15 (fun x hx => .inl hx)
        have hL5 : Log w5 p dp nm B v L sz := HL1.out.kept k15 (fun hm => (H0.out.2.2.1 p hm).2 rfl) (fun k hk' => (H0.out.2.2.1 k hk').1)
        have hp5 : p < w5.heap.size := hL5.box.lt
        have hz15 := k15.size
        have hA5 := hid (H0.out.2.2.2.2.1.kept kw5 (fun k hk' => .inl (.inl hk')))
        have hI0 : Hid (ApK w5 p dp nm B v L sz (bsl (R.take 0)) w5 v) := ⟨⟨hL5.box, by simpa [bsl] using hL5.row.mono (fun k _ hk' => .inl hk'), fun h => by rcases h with h | h; exact hL5.np h; omega⟩, Kp.refl _ _, fun k hk' => .inl hk', AppK.refl hL5.row w5⟩
        have HK5 := hid (And.intro k15 (And.intro kw5 hL5))
        have hzw : w.heap.size ≤ w5.heap.size := kw5.size
        have hzd : w1.heap.size ≤ wd.heap.size := KDR.out.size
        clear k15 kw5 hL5 HL1 HSd KDR
        go_wp2_with fail
        go_loopw [9, 36] (fun _ i wn => ∃ (j : Nat) (v1 : Value), j ≤ R.length ∧ i = .int .i64 j ∧ Hid (ApK w5 p dp nm B v L sz (bsl (R.take j)) wn v1)) (fun _ i _ => R.length - (intOf i).toNat)
        case atStart => exact ⟨0, v, Nat.zero_le _, rfl, hI0⟩
        case round =>
          obtain ⟨j, v1, hj, rfl, hI⟩ := hrel
          clear hI0
          by_cases hlt : j < R.length
          · have hAr := hA5.out.kept hI.out.kp (fun k hk' => by
              rcases List.mem_cons.1 hk' with rfl | hk'
              · exact .inl (.inr (.inl rfl))
              · exact .inl (.inr (.inr (HK5.out.2.2.row.from k hk'))))
            obtain ⟨g, o, ea, cR⟩ := bsAt hAr.see (k := j) (x := R[j]) (by simp [hlt])
            have hyo := hAr.ok _ (List.getElem_mem hlt)
            have hyl := hAr.len _ (List.getElem_mem hlt)
            have hTk0 := take_snoc (l := R) (i := j) (y := R[j]) (by simp [hlt])
            obtain ⟨Y, hY⟩ : ∃ Y, R[j] = Y := ⟨_, rfl⟩
            rw [hY] at cR hyo hyl hTk0
            obtain ⟨ya, yc, yb⟩ := Y
            dsimp only at cR hyl hTk0
            have hse : Sees wr ya yb := hyo.see
            obtain ⟨M, hM⟩ : ∃ M, Hid (L ++ bsl (R.take j) = M) := ⟨_, rfl⟩
            have hlen1 : (L ++ bsl (R.take j)).length + 1 ≤ 5000000000000 := by rw [List.length_append, bsl_len, List.length_take]; have := hA5.out.few; omega
            have hIl := hI.out.log
            rw [hM.out] at hIl hlen1
            obtain ⟨av, cv, ev⟩ := rowPshape hIl.row
            subst ev
            have hlw : w5.heap.size ≤ wr.heap.size := hI.out.kp.size
            have hsd : wr.drew.heap.size = wr.heap.size := rfl
            have kd0 : Kp [] wr wr.drew := (Kp.refl _ _).drew
            obtain ⟨M2, hM2⟩ : ∃ M2, Hid (M ++ [yb] = M2) := ⟨_, rfl⟩
            have hTk : Hid (L ++ bsl (R.take (j + 1)) = M2) := by show _ = _; rw [hTk0, ← List.append_assoc, hM.out, hM2.out]
            have hCl : Hid (∀ X, Kp [] wr.drew X → Calls Tryd.prog 45 #[.slice ya yb.length yc] X fun e w' => ∃ v', e = .returned v' ∧ Row w' v' yb ∧ Kp [] X w' ∧ ∀ k ∈ own v', X.heap.size ≤ k) := fun X kX => cClone ya yb.length yc yb X ((hse.kept kd0 (by simp)).kept kX (by simp)) rfl (by omega)
            have hSd : Hid (∀ A, Kp [] wr.drew A → A.cell? ⟨p, 0, none⟩ = some (.pointer (some ⟨dp, 0, none⟩))) := fun A kA => ((kd0.trans kA (by simp)).cell (p := ⟨p, 0, none⟩) hIl.box.lt (by simp)).trans hIl.box.c0
            have hL2 : Hid (∀ A, Kp [] wr.drew A → A.cell? ⟨p, 2, none⟩ = some (.slice av M.length cv)) := fun A kA => ((kd0.trans kA (by simp)).cell (p := ⟨p, 2, none⟩) hIl.box.lt (by simp)).trans hIl.box.c2
            have hApp : Hid (∀ y2 v2, Kp [] wr.drew y2 → Row y2 v2 yb → (∀ k ∈ own v2, wr.drew.heap.size ≤ k) → ∃ v8 w8, (Builtin.append_ #[23, 23] 23 #[.slice av M.length cv, .slice (some ⟨y2.heap.size, 0, none⟩) 1 1]).run Tryd.prog (y2.alloc (.cells #[v2] 22)) = .ok v8 w8 ∧ RowP (fun k => B k ∨ w5.heap.size ≤ k) w8 v8 M2 ∧ Kp (own (.slice av M.length cv)) y2 w8 ∧ (∀ k ∈ own v8, k ∈ own (.slice av M.length cv) ∨ y2.heap.size ≤ k) ∧ AppK (.slice av M.length cv) v8 y2 w8) := fun y2 v2 k2 hr2 hn2 => by
              rw [← hM2.out]
              refine appKeepP ((hIl.row.kept kd0 (by simp)).kept k2 (by simp)) hr2 (fun k hk' => ⟨.inr (by have := hn2 k hk'; omega), fun hm => ?_⟩) (fun k hk' => .inr (by have := k2.size; omega)) rfl hlen1 _
              have := hIl.row.lt k hm
              have := hn2 k hk'
              omega
            have hFin : Hid (∀ y2 a8 c8 w8, Kp [] wr.drew y2 → RowP (fun k => B k ∨ w5.heap.size ≤ k) w8 (.slice a8 M2.length c8) M2 → Kp (own (.slice av M.length cv)) y2 w8 → (∀ k ∈ own (.slice a8 M2.length c8), k ∈ own (.slice av M.length cv) ∨ y2.heap.size ≤ k) → AppK (.slice av M.length cv) (.slice a8 M2.length c8) y2 w8 →
                Lg w8 p dp nm (.slice av M.length cv) sz ∧ ApK w5 p dp nm B v L sz (bsl (R.take (j + 1))) (w8.setCell ⟨p, 2, none⟩ (.slice a8 M2.length c8)) (.slice a8 M2.length c8)) := fun y2 a8 c8 w8 k2 hr8 k8 hn8 ha8 => by
              have hpo : p ∉ own (.slice av M.length cv) := fun hm => hIl.np (hIl.row.from p hm)
              have hLg : Lg w8 p dp nm (.slice av M.length cv) sz := ((hIl.box.kept kd0 (by simp)).kept k2 (by simp)).kept k8 hpo
              have kS : Kp [p] w8 (w8.setCell ⟨p, 2, none⟩ (.slice a8 M2.length c8)) := (Kp.refl _ _).setCell (by simp) _
              have k58 : Kp (p :: own v) w5 (w8.setCell ⟨p, 2, none⟩ (.slice a8 M2.length c8)) := (((hI.out.kp.trans kd0 (by simp)).trans k2 (by simp)).trans k8 (fun x hx => by rcases hI.out.own x hx with h | h; exact .inl (by simp [h]); exact .inr h)).trans kS (fun x hx => .inl (by simp at hx; simp [hx]))
              refine ⟨hLg, ⟨hLg.set2 _, ?_, hIl.np⟩, k58, fun k hk' => ?_, hI.out.ak.step hI.out.kp.size (kd0.trans k2 (by simp)) ha8 k8 kS (fun hm => HK5.out.2.2.np (HK5.out.2.2.row.from p hm))⟩
              · rw [hTk.out]
                exact hr8.kept kS (fun k hk' hb => by simp at hk'; subst hk'; exact hIl.np hb)
              · rcases hn8 k hk' with h | h
                · exact hI.out.own k h
                · exact .inr (by have := k2.size; omega)
            have hS0 := hSd.out _ (Kp.refl _ _)
            have l2 := hL2.out _ (Kp.refl _ _)
            have hL2w := hIl.box.c2
            have dj1 : (j : Int) < (R.length : Int) := by omega
            have dj0 : (0 : Int) ≤ (j : Int) := by omega
            have hRf := hA5.out.few
            have dj7 : (-9223372036854775808 : Int) ≤ (j : Int) + 1 := by omega
            have dj8 : (j : Int) + 1 ≤ 9223372036854775807 := by omega
            have hpr : p < wr.heap.size := hIl.box.lt
            clear hAr hyo hTk0 hY hse hIl hI hsd kd0 hL2w hM hM2
            subst ea
            go_wp2_with fail
            refine wp_noPanic ?_
            refine wp_region_held_drew (S := fun A => A.cell? ⟨p, 0, none⟩ = some (.pointer (some ⟨dp, 0, none⟩))) (by kernel_rfl) ?_ (fun hHeld => ?_)
            · exact hS0
            generalize wr.drew = wd2 at *
            refine wpAnyH_take (i := 0) (v := ?_) rfl (by kernel_rfl) (by kernel_rfl) (by kernel_rfl) (fun _ _ _ h => by cases h.1) (Or.inl ⟨by rfl, ?_⟩) (by assumption) ?_
            rotate_left
            · intro w hSw; (try dsimp only at hSw); go_simp <;> with_reducible rfl
            try simp only [Act.put, List.getElem_toArray, List.getElem_cons_zero, List.getElem_cons_succ, List.setIfInBounds_toArray, List.set_cons_zero, List.set_cons_succ]
            refine wpAnyH_take (i := 1) (v := ?_) rfl (by kernel_rfl) (by kernel_rfl) (by kernel_rfl) (fun _ _ _ h => by cases h.1) (Or.inl ⟨by rfl, ?_⟩) (by assumption) ?_
            rotate_left
            · intro w hSw; (try dsimp only at hSw); go_simp <;> with_reducible rfl
            try simp only [Act.put, List.getElem_toArray, List.getElem_cons_zero, List.getElem_cons_succ, List.setIfInBounds_toArray, List.set_cons_zero, List.set_cons_succ]
            refine wpAnyH_take (i := 2) (v := ?_) rfl (by kernel_rfl) (by kernel_rfl) (by kernel_rfl) (fun _ _ _ h => by cases h.1) (Or.inl ⟨by rfl, ?_⟩) (by assumption) ?_
            rotate_left
            · intro w hSw; (try dsimp only at hSw); go_simp <;> with_reducible rfl
            try simp only [Act.put, List.getElem_toArray, List.getElem_cons_zero, List.getElem_cons_succ, List.setIfInBounds_toArray, List.set_cons_zero, List.set_cons_succ]
            refine wpAnyH_take (i := 3) (v := ?_) rfl (by kernel_rfl) (by kernel_rfl) (by kernel_rfl) (fun _ _ _ h => by cases h.1) (Or.inl ⟨by rfl, ?_⟩) (by assumption) ?_
            rotate_left
            · intro w hSw; (try dsimp only at hSw); go_simp <;> with_reducible rfl
            try simp only [Act.put, List.getElem_toArray, List.getElem_cons_zero, List.getElem_cons_succ, List.setIfInBounds_toArray, List.set_cons_zero, List.set_cons_succ]
            refine wpAnyH_take (i := 5) (v := ?_) rfl (by kernel_rfl) (by kernel_rfl) (by kernel_rfl) (fun _ _ _ h => by cases h.1) (Or.inl ⟨by rfl, ?_⟩) (by assumption) ?_
            rotate_left
            · intro w hSw; (try dsimp only at hSw); go_simp <;> with_reducible rfl
            try simp only [Act.put, List.getElem_toArray, List.getElem_cons_zero, List.getElem_cons_succ, List.setIfInBounds_toArray, List.set_cons_zero, List.set_cons_succ]
            refine wpAnyH_ready (rs := [4, 6]) (by kernel_rfl) (by simp) ?_
            refine (AllReadyH.cons rfl (fun K hK => ?_) (AllReadyH.cons rfl (fun K hK => ?_) AllReadyH.nil))
            · go_simp
              (try go_wp2_with fail)
              refine hK.out _ _ ?_ (fun hHeld => ?_)
              · exact hSd.out _ (Kp.refl _ _)
              clear hK K
              try simp only [Act.put, List.getElem_toArray, List.getElem_cons_zero, List.getElem_cons_succ, List.setIfInBounds_toArray, List.set_cons_zero, List.set_cons_succ]
              refine wpAnyH_ready (rs := [6]) (by kernel_rfl) (by simp) ?_
              refine AllReadyH.cons rfl (fun K hK => ?_) AllReadyH.nil
              go_simp
              refine (hCl.out wd2 (Kp.refl _ _)).mono ?_
              rintro e y2 ⟨v2, rfl, hr2, ky2, hn2⟩
              obtain ⟨a2, c2, rfl, -, -⟩ := hr2.sees
              (try go_wp2_with fail)
              refine hK.out _ _ ?_ (fun hHeld => ?_)
              · exact hSd.out _ ky2
              clear hK K
              try simp only [Act.put, List.getElem_toArray, List.getElem_cons_zero, List.getElem_cons_succ, List.setIfInBounds_toArray, List.set_cons_zero, List.set_cons_succ]
              obtain ⟨v8, w8, hrun8, hr8, k8, hn8, ha8⟩ := hApp.out y2 _ ky2 hr2 hn2
              obtain ⟨a8, c8, rfl⟩ := rowPshape hr8
              obtain ⟨y3, hy3⟩ : ∃ y, y2.alloc (.cells #[.slice a2 yb.length c2] 22) = y := ⟨_, rfl⟩
              rw [hy3] at hrun8
              have k23 : Kp [] y2 y3 := by rw [← hy3]; exact (Kp.refl _ _).alloc _
              have hfin8 := hid (hFin.out y2 a8 c8 w8 ky2 hr8 k8 hn8 ha8)
              have hy3' := hid hy3
              clear hy3 hr8 k8 hn8 ha8 hApp hFin
              refine wpAnyH_ready (rs := [7]) (by kernel_rfl) (by simp) ?_
              refine AllReadyH.cons rfl (fun K hK => ?_) AllReadyH.nil
              go_simp
              rw [hy3'.out]
              (try go_wp2_with fail)
              refine hK.out _ _ ?_ (fun hHeld => ?_)
              · exact hSd.out _ (ky2.trans k23 (by simp))
              clear hK K
              try simp only [Act.put, List.getElem_toArray, List.getElem_cons_zero, List.getElem_cons_succ, List.setIfInBounds_toArray, List.set_cons_zero, List.set_cons_succ]
              refine wpAnyH_ready (rs := [8]) (by kernel_rfl) (by simp) ?_
              refine AllReadyH.cons rfl (fun K hK => ?_) AllReadyH.nil
              refine stepAppRun rfl _ _ 23 23 rfl _ _ _ rfl rfl hrun8 ?_
              refine hK.out _ _ ?_ (fun hHeld => ?_)
              · exact hfin8.out.1.c0
              clear hK K
              try simp only [Act.put, List.getElem_toArray, List.getElem_cons_zero, List.getElem_cons_succ, List.setIfInBounds_toArray, List.set_cons_zero, List.set_cons_succ]
              refine wpAnyH_take (i := 9) (v := ?_) rfl (by kernel_rfl) (by kernel_rfl) (by kernel_rfl) (fun _ _ _ h => by cases h.1) (Or.inl ⟨by rfl, ?_⟩) (by assumption) ?_
              rotate_left
              · intro w hSw; (try dsimp only at hSw); go_simp <;> with_reducible rfl
              try simp only [Act.put, List.getElem_toArray, List.getElem_cons_zero, List.getElem_cons_succ, List.setIfInBounds_toArray, List.set_cons_zero, List.set_cons_succ]
              refine wpAnyH_take (i := 10) (v := ?_) rfl (by kernel_rfl) (by kernel_rfl) (by kernel_rfl) (fun _ _ _ h => by cases h.1) (Or.inl ⟨by rfl, ?_⟩) (by assumption) ?_
              rotate_left
              · intro w hSw; (try dsimp only at hSw); go_simp <;> with_reducible rfl
              try simp only [Act.put, List.getElem_toArray, List.getElem_cons_zero, List.getElem_cons_succ, List.setIfInBounds_toArray, List.set_cons_zero, List.set_cons_succ]
              have s2c := hfin8.out.1.c2
              have s2f := hfin8.out.1.free 2
              refine wpAnyH_ready (rs := [11]) (by kernel_rfl) (by simp) ?_
              refine AllReadyH.cons rfl (fun K hK => ?_) AllReadyH.nil
              go_simp
              (try go_wp2_with fail)
              refine hK.out _ _ ?_ (fun hHeld => ?_)
              · exact hfin8.out.2.log.box.c0
              clear hK K
              try simp only [Act.put, List.getElem_toArray, List.getElem_cons_zero, List.getElem_cons_succ, List.setIfInBounds_toArray, List.set_cons_zero, List.set_cons_succ]
              refine wpAnyH_done (by kernel_rfl) ⟨rfl, ?_⟩ _
              have HN := hid hfin8.out.2
              clear s2c s2f hfin8
              go_wp2_with fail
              go_roundw
              case rel => exact ⟨j + 1, _, by omega, by simp, HN⟩
              case measure => simp [intOf]; omega
            · go_simp
              refine (hCl.out wd2 (Kp.refl _ _)).mono ?_
              rintro e y2 ⟨v2, rfl, hr2, ky2, hn2⟩
              obtain ⟨a2, c2, rfl, -, -⟩ := hr2.sees
              (try go_wp2_with fail)
              refine hK.out _ _ ?_ (fun hHeld => ?_)
              · exact hSd.out _ ky2
              clear hK K
              try simp only [Act.put, List.getElem_toArray, List.getElem_cons_zero, List.getElem_cons_succ, List.setIfInBounds_toArray, List.set_cons_zero, List.set_cons_succ]
              have l2y := (hL2.out y2 ky2)
              refine wpAnyH_ready (rs := [4, 7]) (by kernel_rfl) (by simp) ?_
              refine (AllReadyH.cons rfl (fun K hK => ?_) (AllReadyH.cons rfl (fun K hK => ?_) AllReadyH.nil))
              · go_simp
                (try go_wp2_with fail)
                refine hK.out _ _ ?_ (fun hHeld => ?_)
                · exact hSd.out _ ky2
                clear hK K
                try simp only [Act.put, List.getElem_toArray, List.getElem_cons_zero, List.getElem_cons_succ, List.setIfInBounds_toArray, List.set_cons_zero, List.set_cons_succ]
                clear l2y
                obtain ⟨v8, w8, hrun8, hr8, k8, hn8, ha8⟩ := hApp.out y2 _ ky2 hr2 hn2
                obtain ⟨a8, c8, rfl⟩ := rowPshape hr8
                obtain ⟨y3, hy3⟩ : ∃ y, y2.alloc (.cells #[.slice a2 yb.length c2] 22) = y := ⟨_, rfl⟩
                rw [hy3] at hrun8
                have k23 : Kp [] y2 y3 := by rw [← hy3]; exact (Kp.refl _ _).alloc _
                have hfin8 := hid (hFin.out y2 a8 c8 w8 ky2 hr8 k8 hn8 ha8)
                have hy3' := hid hy3
                clear hy3 hr8 k8 hn8 ha8 hApp hFin
                refine wpAnyH_ready (rs := [7]) (by kernel_rfl) (by simp) ?_
                refine AllReadyH.cons rfl (fun K hK => ?_) AllReadyH.nil
                go_simp
                rw [hy3'.out]
                (try go_wp2_with fail)
                refine hK.out _ _ ?_ (fun hHeld => ?_)
                · exact hSd.out _ (ky2.trans k23 (by simp))
                clear hK K
                try simp only [Act.put, List.getElem_toArray, List.getElem_cons_zero, List.getElem_cons_succ, List.setIfInBounds_toArray, List.set_cons_zero, List.set_cons_succ]
                refine wpAnyH_ready (rs := [8]) (by kernel_rfl) (by simp) ?_
                refine AllReadyH.cons rfl (fun K hK => ?_) AllReadyH.nil
                refine stepAppRun rfl _ _ 23 23 rfl _ _ _ rfl rfl hrun8 ?_
                refine hK.out _ _ ?_ (fun hHeld => ?_)
                · exact hfin8.out.1.c0
                clear hK K
                try simp only [Act.put, List.getElem_toArray, List.getElem_cons_zero, List.getElem_cons_succ, List.setIfInBounds_toArray, List.set_cons_zero, List.set_cons_succ]
                refine wpAnyH_take (i := 9) (v := ?_) rfl (by kernel_rfl) (by kernel_rfl) (by kernel_rfl) (fun _ _ _ h => by cases h.1) (Or.inl ⟨by rfl, ?_⟩) (by assumption) ?_
                rotate_left
                · intro w hSw; (try dsimp only at hSw); go_simp <;> with_reducible rfl
                try simp only [Act.put, List.getElem_toArray, List.getElem_cons_zero, List.getElem_cons_succ, List.setIfInBounds_toArray, List.set_cons_zero, List.set_cons_succ]
                refine wpAnyH_take (i := 10) (v := ?_) rfl (by kernel_rfl) (by kernel_rfl) (by kernel_rfl) (fun _ _ _ h => by cases h.1) (Or.inl ⟨by rfl, ?_⟩) (by assumption) ?_
                rotate_left
                · intro w hSw; (try dsimp only at hSw); go_simp <;> with_reducible rfl
                try simp only [Act.put, List.getElem_toArray, List.getElem_cons_zero, List.getElem_cons_succ, List.setIfInBounds_toArray, List.set_cons_zero, List.set_cons_succ]
                have s2c := hfin8.out.1.c2
                have s2f := hfin8.out.1.free 2
                refine wpAnyH_ready (rs := [11]) (by kernel_rfl) (by simp) ?_
                refine AllReadyH.cons rfl (fun K hK => ?_) AllReadyH.nil
                go_simp
                (try go_wp2_with fail)
                refine hK.out _ _ ?_ (fun hHeld => ?_)
                · exact hfin8.out.2.log.box.c0
                clear hK K
                try simp only [Act.put, List.getElem_toArray, List.getElem_cons_zero, List.getElem_cons_succ, List.setIfInBounds_toArray, List.set_cons_zero, List.set_cons_succ]
                refine wpAnyH_done (by kernel_rfl) ⟨rfl, ?_⟩ _
                have HN := hid hfin8.out.2
                clear s2c s2f hfin8
                go_wp2_with fail
                go_roundw
                case rel => exact ⟨j + 1, _, by omega, by simp, HN⟩
                case measure => simp [intOf]; omega
              · go_simp
                obtain ⟨v8, w8, hrun8, hr8, k8, hn8, ha8⟩ := hApp.out y2 _ ky2 hr2 hn2
                obtain ⟨a8, c8, rfl⟩ := rowPshape hr8
                obtain ⟨y3, hy3⟩ : ∃ y, y2.alloc (.cells #[.slice a2 yb.length c2] 22) = y := ⟨_, rfl⟩
                rw [hy3] at hrun8
                have k23 : Kp [] y2 y3 := by rw [← hy3]; exact (Kp.refl _ _).alloc _
                have hfin8 := hid (hFin.out y2 a8 c8 w8 ky2 hr8 k8 hn8 ha8)
                have hy3' := hid hy3
                clear hy3 hr8 k8 hn8 ha8 hApp hFin
                rw [hy3'.out]
                (try go_wp2_with fail)
                refine hK.out _ _ ?_ (fun hHeld => ?_)
                · exact hSd.out _ (ky2.trans k23 (by simp))
                clear hK K
                try simp only [Act.put, List.getElem_toArray, List.getElem_cons_zero, List.getElem_cons_succ, List.setIfInBounds_toArray, List.set_cons_zero, List.set_cons_succ]
                have l2z := (hL2.out y3 (ky2.trans k23 (by simp)))
                refine wpAnyH_ready (rs := [4]) (by kernel_rfl) (by simp) ?_
                refine AllReadyH.cons rfl (fun K hK => ?_) AllReadyH.nil
                go_simp
                (try go_wp2_with fail)
                refine hK.out _ _ ?_ (fun hHeld => ?_)
                · exact hSd.out _ (ky2.trans k23 (by simp))
                clear hK K
                try simp only [Act.put, List.getElem_toArray, List.getElem_cons_zero, List.getElem_cons_succ, List.setIfInBounds_toArray, List.set_cons_zero, List.set_cons_succ]
                clear l2z
                refine wpAnyH_ready (rs := [8]) (by kernel_rfl) (by simp) ?_
                refine AllReadyH.cons rfl (fun K hK => ?_) AllReadyH.nil
                refine stepAppRun rfl _ _ 23 23 rfl _ _ _ rfl rfl hrun8 ?_
                refine hK.out _ _ ?_ (fun hHeld => ?_)
                · exact hfin8.out.1.c0
                clear hK K
                try simp only [Act.put, List.getElem_toArray, List.getElem_cons_zero, List.getElem_cons_succ, List.setIfInBounds_toArray, List.set_cons_zero, List.set_cons_succ]
                refine wpAnyH_take (i := 9) (v := ?_) rfl (by kernel_rfl) (by kernel_rfl) (by kernel_rfl) (fun _ _ _ h => by cases h.1) (Or.inl ⟨by rfl, ?_⟩) (by assumption) ?_
                rotate_left
                · intro w hSw; (try dsimp only at hSw); go_simp <;> with_reducible rfl
                try simp only [Act.put, List.getElem_toArray, List.getElem_cons_zero, List.getElem_cons_succ, List.setIfInBounds_toArray, List.set_cons_zero, List.set_cons_succ]
                refine wpAnyH_take (i := 10) (v := ?_) rfl (by kernel_rfl) (by kernel_rfl) (by kernel_rfl) (fun _ _ _ h => by cases h.1) (Or.inl ⟨by rfl, ?_⟩) (by assumption) ?_
                rotate_left
                · intro w hSw; (try dsimp only at hSw); go_simp <;> with_reducible rfl
                try simp only [Act.put, List.getElem_toArray, List.getElem_cons_zero, List.getElem_cons_succ, List.setIfInBounds_toArray, List.set_cons_zero, List.set_cons_succ]
                have s2c := hfin8.out.1.c2
                have s2f := hfin8.out.1.free 2
                refine wpAnyH_ready (rs := [11]) (by kernel_rfl) (by simp) ?_
                refine AllReadyH.cons rfl (fun K hK => ?_) AllReadyH.nil
                go_simp
                (try go_wp2_with fail)
                refine hK.out _ _ ?_ (fun hHeld => ?_)
                · exact hfin8.out.2.log.box.c0
                clear hK K
                try simp only [Act.put, List.getElem_toArray, List.getElem_cons_zero, List.getElem_cons_succ, List.setIfInBounds_toArray, List.set_cons_zero, List.set_cons_succ]
                refine wpAnyH_done (by kernel_rfl) ⟨rfl, ?_⟩ _
                have HN := hid hfin8.out.2
                clear s2c s2f hfin8
                go_wp2_with fail
                go_roundw
                case rel => exact ⟨j + 1, _, by omega, by simp, HN⟩
                case measure => simp [intOf]; omega
          · have hjl : R.take j = R := List.take_of_length_le (by omega)
            have dj2 : decide ((j : Int) < (R.length : Int)) = false := by simp; omega
            have hI2 := hI.out
            rw [hjl] at hI2
            have HI2 := hid hI2
            have s3 := hI2.log.box.c3
            have s3f := hI2.log.box.free 3
            have hpr : p < wr.heap.size := hI2.log.box.lt
            have dz1 : (-9223372036854775808 : Int) ≤ sz + (f1.length : Int) := by omega
            have dz2 : sz + (f1.length : Int) ≤ 9223372036854775807 := by have := hfll.out; omega
            clear hI hI2 hjl
            go_wp2_with fail
            rw [← hPP.out, HP.out]
            have kS : Kp [p] wr (wr.setCell ⟨p, 3, none⟩ (.int .i64 (sz + (f1.length : Int)))) := (Kp.refl _ _).setCell (by simp) _
            have hnew : ∀ k ∈ foot dp mb xs5, k ∈ foot dp mb xs ∨ w.heap.size ≤ k := fun k hk' => by rcases H5.out.2.new k hk' with h | h; exact .inl h; exact .inr (by have := H1.out.2.1.size; omega)
            have hsp5 : ∀ k ∈ foot dp mb xs5, ¬ B k ∧ k ≠ p ∧ k < w5.heap.size := fun k hk' => by
              have hl5 := H5.out.1.lt k hk'
              rcases hnew k hk' with h | h
              · exact ⟨(H0.out.2.2.1 k h).1, (H0.out.2.2.1 k h).2, hl5⟩
              · exact ⟨fun hb => by have := H0.out.2.2.2.1 k hb; omega, fun e => by rw [e] at h; omega, hl5⟩
            have hfo : ∀ k ∈ foot dp mb xs5, k ∉ p :: own v := fun k hk' hm => by
              rcases List.mem_cons.1 hm with e | hm
              · exact (hsp5 k hk').2.1 e
              · exact (hsp5 k hk').1 (HK5.out.2.2.row.from k hm)
            have kL : Kp (p :: own v) w5 (wr.setCell ⟨p, 3, none⟩ (.int .i64 (sz + (f1.length : Int)))) := HI2.out.kp.trans kS (fun x hx => .inl (by simp at hx; simp [hx]))
            refine ⟨rfl, xs5, H5.out.1.kept kL hfo, ?_, hnew, fun h => absurd rfl h, fun _ => ⟨v1, fun k => B k ∨ (w5.heap.size ≤ k ∧ k < wr.heap.size), ⟨HI2.out.log.box.set3 _, ?_, ?_⟩, fun k hk' => ?_, fun k hk' => ⟨fun hb => ?_, (hsp5 k hk').2.1⟩, (HI2.out.ak.pre HK5.out.2.1 (fun k hk' hm => (H0.out.2.2.1 k hm).1 (HK5.out.2.2.row.from k hk'))).post kS (fun k hk' hm => by simp at hm; subst hm; exact HK5.out.2.2.np (HK5.out.2.2.row.from _ hk'))⟩⟩
            · refine (HK5.out.2.1.mono (fun x hx => .inl ?_)).trans kL (fun x hx => .inl ?_)
              · simp [hx]
              · rcases List.mem_cons.1 hx with rfl | hx
                · simp
                · simp [hx]
            · exact (HI2.out.log.row.mono (fun k hk1 hk' => by rcases hk' with h | h; exact .inl h; exact .inr ⟨h, hk1⟩)).kept kS (fun k hk' hb => by
                simp at hk'
                subst hk'
                rcases hb with h | h
                · exact HK5.out.2.2.np h
                · omega)
            · intro hb
              rcases hb with h | h
              · exact HK5.out.2.2.np h
              · omega
            · rcases hk' with h | h
              · exact .inl h
              · exact .inr ⟨by omega, by simpa [World.setCell] using h.2⟩
            · rcases hb with h | h
              · exact (hsp5 k hk').1 h
              · have := (hsp5 k hk').2.2; omega
      · have dd : (e5 != 0) = true := by simpa using h5
        have dd2 : (e5 == 0) = false := by simpa using h5
        have k15 : Kp (foot dp mb xs) w1 w5 := KDR.out.trans H5.out.2.kp (fun x hx => .inl hx)
        have kw5 : Kp (foot dp mb xs) w w5 := (H1.out.2.1.mono (by simp)).trans k15 (fun x hx => .inl hx)
        have hL5 := hid (HL1.out.kept k15 (fun hm => (H0.out.2.2.1 p hm).2 rfl) (fun k hk' => (H0.out.2.2.1 k hk').1))
        have HK5 := hid kw5
        have hz15 : w1.heap.size ≤ wd.heap.size := KDR.out.size
        have hzw1 := H1.out.2.1.size
        clear k15 kw5
        go_wp2_with fail
        rw [← hPP.out, HP.out]
        have hnew : ∀ k ∈ foot dp mb xs5, k ∈ foot dp mb xs ∨ w.heap.size ≤ k := fun k hk' => by rcases H5.out.2.new k hk' with h | h; exact .inl h; exact .inr (by omega)
        refine ⟨rfl, xs5, H5.out.1, HK5.out.mono (fun x hx => .inl (by simp [hx])), hnew, fun _ => ⟨hL5.out, fun k hk' => ?_⟩, fun h => absurd h h5⟩
        rcases hnew k hk' with h | h
        · exact H0.out.2.2.1 k h
        · exact ⟨fun hb => by have := H0.out.2.2.2.1 k hb; omega, fun e => by rw [e] at h; omega⟩
    · have hQ := hq1.out hf2
      subst hQ
      have dd : (f2 != 0) = true := by simpa using hf2
      have dd2 : (f2 == 0) = false := by simpa using hf2
      have hL1 := hid (H0.out.1.kept H1.out.2.1 (by simp) (by simp))
      have hD1 := hid (H0.out.2.1.keptNew H1.out.2.1)
      clear hq1 hq2
      go_wp2_with fail
      rw [← hPP.out, HP.out]
      exact ⟨rfl, xs, hD1.out, H1.out.2.1.mono (by simp), fun k hk => .inl hk, fun _ => ⟨hL1.out, H0.out.2.2.1⟩, fun h => absurd h hf2⟩
end Go.Proofs.YtfpmolajpmljmaaDoor
end

section
namespace Go.Proofs.YtfpmolajpmljmaaDoor
open Go.RowKit Go.Hay
set_option linter.unusedVariables false
set_option linter.unusedSimpArgs false

theorem allB_app (a b : List (List (List UInt8))) : allB (a ++ b) = allB a ++ allB b := by simp [allB]
theorem one_flat : ∀ S : List (List UInt8), (S.map fun r => [r]).flatten = S
  | [] => rfl
  | x :: S => by simp only [List.map_cons, List.flatten_cons, one_flat S]; rfl
theorem recs_len : ∀ (yl : List Bs) (i : Nat), (allB (((bsl yl).take i).map fun r => [r])).length ≤ 42 * (yl.map fun y => y.bs.length + 1).sum
  | [], i => by simp [bsl, allB]
  | y :: yl, 0 => by simp [allB]
  | y :: yl, i + 1 => by
    have ih := recs_len yl i
    have h1 := frB_len ⟨none, 0, [y]⟩
    have e : allB (((bsl (y :: yl)).take (i + 1)).map fun r => [r]) = frB (bsl [y]) ++ allB (((bsl yl).take i).map fun r => [r]) := by simp [bsl, allB]
    have eb : bulkL ⟨none, 0, [y]⟩ = y.bs.length + 1 := by simp [bulkL]
    rw [eb] at h1
    dsimp only at h1
    rw [e, List.length_append, List.map_cons, List.sum_cons]
    omega
theorem sg_len : ∀ L : List Ls, (allB (sg (RsL L))).length ≤ 42 * (L.map bulkL).sum
  | [] => by simp [sg, RsL, allB]
  | x :: L => by
    have ih := sg_len L
    have h1 := recs_len x.l (bsl x.l).length
    rw [List.take_length] at h1
    have e : sg (RsL (x :: L)) = (bsl x.l).map (fun r => [r]) ++ sg (RsL L) := by simp [sg, RsL]
    rw [e, allB_app, List.length_append, List.map_cons, List.sum_cons]
    unfold bulkL at ih ⊢
    omega
theorem flat_len : ∀ L : List Ls, ((RsL L).flatten).length ≤ (L.map bulkL).sum
  | [] => by simp [RsL]
  | x :: L => by
    have ih := flat_len L
    have h1 := sumB_bulk x.l
    have e : (RsL (x :: L)).flatten = bsl x.l ++ (RsL L).flatten := by simp [RsL]
    have hb : bulkL x = (x.l.map fun y => y.bs.length + 1).sum := rfl
    rw [← hb] at h1
    rw [e, List.length_append, bsl_len, List.map_cons, List.sum_cons]
    omega
/-- Both, by the frames of each. -/
def BtS (w : World) (p1 dp1 mb1 p2 dp2 mb2 : Nat) (l1 l2 : List (List (List UInt8))) (b1 b2 : Nat) (W : World) : Prop :=
  ∃ (xs1 xs2 : List Ent) (s1 k1 s2 k2 : Nat) (B1 B2 : Nat → Prop) (v1 v2 : Value), s1 ≤ b1 ∧ s2 ≤ b2 ∧
    Two w W p1 dp1 mb1 p2 dp2 mb2 xs1 xs2 (oneD 1125899906842624 s1 nmL (allB l1) k1) (oneD 1125899906842624 s2 nmL (allB l2) k2) nmL B1 B2 v1 v2 l1.flatten l2.flatten ((allB l1).length : Int) ((allB l2).length : Int)
theorem BtS.keep {w W W' : World} {p1 dp1 mb1 p2 dp2 mb2 : Nat} {l1 l2 : List (List (List UInt8))} {b1 b2 : Nat} (h : BtS w p1 dp1 mb1 p2 dp2 mb2 l1 l2 b1 b2 W) (k : Kp [] W W') : BtS w p1 dp1 mb1 p2 dp2 mb2 l1 l2 b1 b2 W' := by
  obtain ⟨xs1, xs2, s1, k1, s2, k2, B1, B2, v1, v2, h1, h2, hT⟩ := h
  exact ⟨xs1, xs2, s1, k1, s2, k2, B1, B2, v1, v2, h1, h2, hT.keep k⟩
theorem BtS.le {w W : World} {p1 dp1 mb1 p2 dp2 mb2 : Nat} {l1 l2 : List (List (List UInt8))} {b1 b2 b1' b2' : Nat} (h : BtS w p1 dp1 mb1 p2 dp2 mb2 l1 l2 b1 b2 W) (e1 : b1 ≤ b1') (e2 : b2 ≤ b2') : BtS w p1 dp1 mb1 p2 dp2 mb2 l1 l2 b1' b2' W := by
  obtain ⟨xs1, xs2, s1, k1, s2, k2, B1, B2, v1, v2, h1, h2, hT⟩ := h
  exact ⟨xs1, xs2, s1, k1, s2, k2, B1, B2, v1, v2, by omega, by omega, hT⟩
theorem BtS.kp {w W : World} {p1 dp1 mb1 p2 dp2 mb2 : Nat} {l1 l2 : List (List (List UInt8))} {b1 b2 : Nat} (h : BtS w p1 dp1 mb1 p2 dp2 mb2 l1 l2 b1 b2 W) : Kp [] w W := by
  obtain ⟨xs1, xs2, s1, k1, s2, k2, B1, B2, v1, v2, h1, h2, hT⟩ := h
  exact hT.a.kp
/-- Append of rows to the first one. -/
def BtA (w : World) (p1 dp1 mb1 p2 dp2 mb2 : Nat) (l1 l2 : List (List (List UInt8))) (b1 b2 : Nat) (R : List (List UInt8)) (e : Ending) (W' : World) : Prop :=
  ∃ z : Int, e = .returned (.int .i64 z) ∧ Kp [] w W' ∧ (z = 0 → (R = [] ∨ okR R = true) ∧ BtS w p1 dp1 mb1 p2 dp2 mb2 (if okR R = true then l1 ++ [R] else l1) l2 (b1 + 2) b2 W')
theorem BtS.appA {w W : World} {p1 dp1 mb1 p2 dp2 mb2 : Nat} {l1 l2 : List (List (List UInt8))} {b1 b2 : Nat} (h : BtS w p1 dp1 mb1 p2 dp2 mb2 l1 l2 b1 b2 W) (hb1 : b1 ≤ 100000000) (hl : (allB l1).length ≤ 100000000) (hf : l1.flatten.length ≤ 100000000)
    (a : Option Addr) (c : Nat) (R : List Bs) (hR : ∀ X : Nat → Prop, (∀ k, X k → w.heap.size ≤ k) → ArgQ W a R X) (hRl : (frB (bsl R)).length ≤ 100000000) (hTb : Tab w) :
    Calls Tryd.prog 18 #[.pointer (some ⟨p1, 0, none⟩), .slice a R.length c] W (BtA w p1 dp1 mb1 p2 dp2 mb2 l1 l2 b1 b2 (bsl R)) := by
  obtain ⟨xs1, xs2, s1, k1, s2, k2, B1, B2, v1, v2, h1, h2, hT⟩ := h
  refine (hT.a.app2 (by simp only [oneD]; omega) (by simp [oneD]) (small_one (by omega)) (by unfold maxLen; simp [nmL]) (by rw [file_one]; simp only; omega) (by omega) (by omega) a c R (hR _ (fun k hk => (hT.a.inLt hk).2)) hTb).mono ?_
  rintro e W' ⟨he, hk, hn, hy⟩
  obtain ⟨o1, o2⟩ := app_one 1125899906842624 s1 nmL (allB l1) k1 rnL (bsl R) (by omega)
  have kw : Kp [] w W' := hT.a.kp.trans hk (fun x hx => .inr (hT.a.own x hx))
  refine ⟨_, he, kw, fun h0 => ?_⟩
  obtain ⟨xs', v', B', hL', hi'⟩ := hy h0
  cases hor : okR (bsl R) with
  | true =>
    obtain ⟨e1, e2⟩ := o1 hor
    rw [e1, e2] at hL'
    dsimp only at hL'
    refine ⟨.inr rfl, xs', xs2, s1 + 2, (allB l1 ++ frB (bsl R)).length, s2, k2, B', B2, v', v2, by omega, h2, ?_⟩
    rw [if_pos rfl, allB_snoc, List.flatten_append, List.length_append]
    simp only [List.flatten_cons, List.flatten_nil, List.append_nil]
    rw [Int.natCast_add]
    rw [List.length_append] at hL'
    exact hT.appA hk hL' hi'
  | false =>
    obtain ⟨e1, e2⟩ := o2 hor
    obtain ⟨e3, e4⟩ := e2 h0
    rw [e1, e4, e3] at hL'
    rw [List.append_nil, Int.add_zero] at hL'
    refine ⟨.inl e3, xs', xs2, s1, k1, s2, k2, B', B2, v', v2, by omega, h2, ?_⟩
    rw [if_neg (by simp)]
    exact hT.appA hk hL' hi'
/-- Append of one row to the second one. -/
theorem BtS.appB {w W0 W : World} {p1 dp1 mb1 p2 dp2 mb2 : Nat} {l1 l2 : List (List (List UInt8))} {b1 b2 : Nat} (h : BtS w p1 dp1 mb1 p2 dp2 mb2 l1 l2 b1 b2 W0) (k0 : Kp [] W0 W) (hb2 : b2 ≤ 100000000) (hl : (allB l2).length ≤ 100000000) (hf : l2.flatten.length ≤ 100000000)
    (a : Option Addr) (y : Bs) (hR : ∀ X : Nat → Prop, (∀ k, X k → w.heap.size ≤ k ∧ k < W0.heap.size) → ArgQ W a [y] X) (hRl : (frB [y.bs]).length ≤ 100000000) (hok : okR [y.bs] = true) (hTb : Tab w) :
    Calls Tryd.prog 18 #[.pointer (some ⟨p2, 0, none⟩), .slice a 1 1] W fun e W' => e = .returned (.int .i64 0) ∧ BtS w p1 dp1 mb1 p2 dp2 mb2 l1 (l2 ++ [[y.bs]]) b1 (b2 + 2) W' := by
  obtain ⟨xs1, xs2, s1, k1, s2, k2, B1, B2, v1, v2, h1, h2, hT0⟩ := h
  have hT := hT0.keep k0
  have eb : bsl [y] = [y.bs] := by simp [bsl]
  have hA := hT.b.app2 (by simp only [oneD]; omega) (by simp [oneD]) (small_one (by omega)) (by unfold maxLen; simp [nmL]) (by rw [file_one]; simp only; omega) (by omega) (by omega) a 1 [y] (hR _ (fun k hk => ⟨(hT0.b.inLt hk).2, (hT0.b.inLt hk).1⟩)) hTb
  rw [eb] at hA
  refine hA.mono ?_
  rintro e W' ⟨he, hk, hn, hy⟩
  obtain ⟨o1, o2⟩ := app_one 1125899906842624 s2 nmL (allB l2) k2 rnL [y.bs] (by omega)
  obtain ⟨e1, e2⟩ := o1 hok
  rw [e1] at he hy
  obtain ⟨xs', v', B', hL', hi'⟩ := hy rfl
  rw [e2] at hL'
  dsimp only at hL'
  refine ⟨he, xs1, xs', s1, k1, s2 + 2, (allB l2 ++ frB [y.bs]).length, B1, B', v1, v', h1, by omega, ?_⟩
  rw [allB_snoc, List.flatten_append, List.length_append]
  simp only [List.flatten_cons, List.flatten_nil, List.append_nil]
  rw [Int.natCast_add]
  rw [List.length_append] at hL'
  exact hT.appB hk hL' hi'
/-- What gone answers of a log. -/
def SeenQ (M : List (List UInt8)) (W : World) (e : Ending) (W' : World) : Prop := ∃ a c, ∃ l : List Bs, e = .returned (.slice a l.length c) ∧ BsE.See W' a l ∧ (∀ y ∈ l, y.ok W') ∧ bsl l = M ∧ Kp [] W W'
theorem cSeen {w : World} {p dp : Nat} {nm : List UInt8} {B : Nat → Prop} {v : Value} {M : List (List UInt8)} {sz : Int} (h : Log w p dp nm B v M sz) (h1 : M.length ≤ 100000000) (h2 : ∀ x ∈ M, x.length ≤ 100000000) :
    Calls Tryd.prog 21 #[.pointer (some ⟨p, 0, none⟩)] w (SeenQ M w) := by
  refine (cGoneQ h (by omega) (fun x hx => by have := h2 x hx; omega)).mono ?_
  rintro e w' ⟨v', rfl, hr, k⟩
  obtain ⟨a, c, l, rfl, hs, ho, hb⟩ := hr.bs
  exact ⟨a, c, l, rfl, hs, fun y hy => (ho y hy).1, hb, k⟩
theorem flat_mem : ∀ (L : List Ls) (x : List UInt8), x ∈ (RsL L).flatten → x.length ≤ (L.map bulkL).sum
  | [], x, h => by simp [RsL] at h
  | y :: L, x, h => by
    have e : (RsL (y :: L)).flatten = bsl y.l ++ (RsL L).flatten := by simp [RsL]
    rw [e] at h
    rw [List.map_cons, List.sum_cons]
    rcases List.mem_append.1 h with h | h
    · obtain ⟨z, hz, rfl⟩ := List.mem_map.1 h
      have key : ∀ S : List Bs, z ∈ S → z.bs.length ≤ (S.map fun y => y.bs.length + 1).sum := by
        intro S
        induction S with
        | nil => intro h; cases h
        | cons u S ih =>
          intro h
          rw [List.map_cons, List.sum_cons]
          rcases List.mem_cons.1 h with rfl | h
          · omega
          · have := ih h; omega
      have := key y.l hz
      unfold bulkL
      omega
    · have := flat_mem L x h
      omega
/-- Both logs, and both opened anew: all four have the same. -/
structure Four (w W : World) (p1 p2 p3 p4 : Nat) (M : List (List UInt8)) : Prop where
  kp : Kp [] w W
  g1 : ∀ W', Kp [] W W' → Calls Tryd.prog 21 #[.pointer (some ⟨p1, 0, none⟩)] W' (SeenQ M W')
  g2 : ∀ W', Kp [] W W' → Calls Tryd.prog 21 #[.pointer (some ⟨p2, 0, none⟩)] W' (SeenQ M W')
  g3 : ∀ W', Kp [] W W' → Calls Tryd.prog 21 #[.pointer (some ⟨p3, 0, none⟩)] W' (SeenQ M W')
  g4 : ∀ W', Kp [] W W' → Calls Tryd.prog 21 #[.pointer (some ⟨p4, 0, none⟩)] W' (SeenQ M W')
/-- Two answers of gone are the same. -/
theorem cSame2 {M : List (List UInt8)} (hM : M.length ≤ 100000000) {a b : Option Addr} {ca cb : Nat} {L1 L2 : List Bs} {w : World} (h1 : BsE.See w a L1) (h2 : BsE.See w b L2) (o1 : ∀ y ∈ L1, y.ok w) (o2 : ∀ y ∈ L2, y.ok w) (e1 : bsl L1 = M) (e2 : bsl L2 = M) :
    Calls Tryd.prog 13 #[.slice a L1.length ca, .slice b L2.length cb] w fun e w' => e = .returned (.bool true) ∧ Kp [] w w' := by
  have l1 : L1.length = M.length := by rw [← e1, bsl_len]
  have l2 : L2.length = M.length := by rw [← e2, bsl_len]
  have h := cSameQ a b ca cb L1 L2 w h1 h2 o1 o2 (by omega) (by omega)
  rw [e1, e2] at h
  simpa using h
/-- Open of the first; the rest stays. -/
theorem BtS.opn {w W : World} {p1 dp1 mb1 p2 dp2 mb2 : Nat} {l1 l2 : List (List (List UInt8))} {b1 b2 : Nat} (h : BtS w p1 dp1 mb1 p2 dp2 mb2 l1 l2 b1 b2 W) (hb1 : b1 ≤ 100000000) (hb2 : b2 ≤ 100000000) (hl1 : (allB l1).length ≤ 100000000) (hl2 : (allB l2).length ≤ 100000000)
    (ho1 : ∀ R ∈ l1, (recB R).length ≤ 16777216) (ho2 : ∀ R ∈ l2, (recB R).length ≤ 16777216) (M : List (List UInt8)) (hM1 : l1.flatten = M) (hM2 : l2.flatten = M) (hM : M.length ≤ 100000000) (hMx : ∀ x ∈ M, x.length ≤ 100000000) (hTb : Tab w) :
    Calls Tryd.prog 20 #[.pointer (some ⟨dp1, 0, none⟩), .string ⟨nmL.toArray⟩] W fun e W' => ∃ p3, e = .returned (.tuple #[.pointer (some ⟨p3, 0, none⟩), .int .i64 0]) ∧
      Calls Tryd.prog 20 #[.pointer (some ⟨dp2, 0, none⟩), .string ⟨nmL.toArray⟩] W' fun e W2 => ∃ p4, e = .returned (.tuple #[.pointer (some ⟨p4, 0, none⟩), .int .i64 0]) ∧ Four w W2 p1 p2 p3 p4 M := by
  obtain ⟨xs1, xs2, s1, k1, s2, k2, B1, B2, v1, v2, h1, h2, hT⟩ := h
  have r1 := rdQ_all l1 ho1
  have r2 := rdQ_all l2 ho2
  have hO := cOpen hT.a.disk (by simp only [oneD]; omega) (small_one (by omega)) nmL (by unfold maxLen; simp [nmL]) (hTb.kept hT.a.kp (by simp)) (by rw [file_one]; simp only; omega)
  rw [file_one] at hO
  dsimp only at hO
  rw [open_one rdQ _ _ _ _ _ (by rw [r1]) (by rw [r1]), r1, hM1] at hO
  refine hO.mono ?_
  intro e W' hP
  obtain ⟨p3, v3, B3, xs3, rfl, hL3, m3, hi3⟩ := LD.ofOpn2 (w0 := w) hP rfl hT.a.kp hT.a.lf
  have hb3 := hT.b.stay m3.kp (fun k hk => ⟨hT.ap k (.inl hk), hT.a.lf k hk⟩)
  have hg1 := hT.a.log.kept m3.kp (fun hm => (hT.a.sep p1 hm).2 rfl) (fun k hk => (hT.a.sep k hk).1)
  refine ⟨p3, rfl, ?_⟩
  have hO2 := cOpen hb3.disk (by simp only [oneD]; omega) (small_one (by omega)) nmL (by unfold maxLen; simp [nmL]) (hTb.kept hb3.kp (by simp)) (by rw [file_one]; simp only; omega)
  rw [file_one] at hO2
  dsimp only at hO2
  rw [open_one rdQ _ _ _ _ _ (by rw [r2]) (by rw [r2]), r2, hM2] at hO2
  refine hO2.mono ?_
  intro e W2 hP2
  obtain ⟨p4, v4, B4, xs4, rfl, hL4, m4, hi4⟩ := LD.ofOpn2 (w0 := w) hP2 rfl hb3.kp hb3.lf
  have hg1' := hg1.kept m4.kp (fun hm => hT.ap p1 (.inr (.inl rfl)) (.inl hm)) (fun k hk hb => hT.ap k (.inr (.inr hb)) (.inl hk))
  have hg2' := hb3.log.kept m4.kp (fun hm => (hb3.sep p2 hm).2 rfl) (fun k hk => (hb3.sep k hk).1)
  have hn3 : ∀ k ∈ foot dp2 mb2 xs2, ¬ InL p3 dp1 mb1 xs3 B3 k := fun k hk hi => by
    rcases hi3 k hi with h | h
    · exact hT.ap k (.inl h) (.inl hk)
    · have := hT.b.disk.lt k hk; omega
  have hg3' := hL3.log.kept m4.kp (fun hm => hn3 p3 hm (.inr (.inl rfl))) (fun k hk hb => hn3 k hk (.inr (.inr hb)))
  rw [hM1] at hg1'
  rw [hM2] at hg2'
  exact ⟨p4, rfl, hL4.kp, fun X k => cSeen (hg1'.kept k (by simp) (by simp)) hM hMx, fun X k => cSeen (hg2'.kept k (by simp) (by simp)) hM hMx, fun X k => cSeen (hg3'.kept k (by simp) (by simp)) hM hMx, fun X k => cSeen (hL4.log.kept k (by simp) (by simp)) hM hMx⟩
end Go.Proofs.YtfpmolajpmljmaaDoor
end

section
namespace Go.Hay
open Go.RowKit
set_option linter.unusedVariables false

variable {F : Fence} {n : Nat} {P : Program} {σ α : Type}

/-- The range's own two records stand. -/
def Recs (B : Nat) (W W' : World) : Prop := W'.heap[B]? = W.heap[B]? ∧ W'.heap[B + 1]? = W.heap[B + 1]?
/-- How a round's body may be left. -/
def leftZ (B : Nat) (K : σ → World → World → Prop) (I : σ → World → Prop) (Ix : Code → σ → World → Prop) (s0 s : σ) (W : World) : Exit → Act → World → Prop
  | .normal, _, W' => Recs B W W' ∧ K s0 W W' ∧ I s W'
  | .ret, _, W' => Recs B W W' ∧ Ix .ret s W'
  | .exit id, _, W' => Recs B W W' ∧ Ix (.exit id) s W'
  | .goto t, _, W' => Recs B W W' ∧ Ix (.goto t) s W'
  | _, _, _ => False

/-- The law. -/
theorem wpRangeZ {g : Operand} {ps : Array Tmp} {assign body : Code} {Q : Exit → Act → World → Prop} {a : Act} {w : World}
    (hro : F.round = none) (h1 : 1 ≤ n) {gf : Nat} {lb : Array Value} (hg : a.eval g = .func (.func gf) #[] lb) (hFg : F.fn gf) (eg : ∀ args w, (callFunc gf args).run P w = .ok (.enter gf args) w)
    {encs : α → Array Value} {T : σ → σ → World → World → Prop} {K : σ → World → World → Prop} {ok : σ → α → Prop} {nx : σ → α → σ} {S Sp : σ → Prop} {s0 : σ} {w0 : World}
    (hseq : SeqS F (n - 1) P gf lb encs T K ok nx S Sp s0 w0) (hps : ∀ x, (encs x).size = ps.size)
    (hKt : ∀ {s : σ} {A B C : World}, K s A B → K s B C → K s A C) (hKa : ∀ s W o, K s W (W.alloc o)) (hKb : ∀ (s : σ) (W : World) (l : Nat) (o o' : Obj), w.heap.size ≤ l → W.heap[l]? = some o → o.isCells = false → o.isWalk = false → K s W (W.putObj l o')) (hb0 : K s0 w0 w)
    (hTk : ∀ s s' A B, T s s' A B → ∀ (k : Nat) (o : Obj), w.heap.size ≤ k → A.heap[k]? = some o → o.isCells = false → o.isWalk = false → B.heap[k]? = some o)
    (I : σ → World → Prop) (Ix : Code → σ → World → Prop) (hI : ∀ s W o', I s W → W.heap.size > w.heap.size + 1 → I s (W.putObj (w.heap.size + 1) o')) (hIx : ∀ c s W o', Ix c s W → W.heap.size > w.heap.size + 1 → Ix c s (W.putObj (w.heap.size + 1) o')) (hIT : ∀ s s' A B, I s A → T s s' A B → I s' B) (h0 : ∀ o1 o2, I s0 ((w.alloc o1).alloc o2))
    (a₁ : α → Act) (hassign : ∀ (l : Nat) (x : α) (W : World) (C : Act → World → Prop), C (a₁ x) W →
      assign.wpIn (F.inRound l) (n - 1 - 1) P (Exit.then C (fun _ _ _ => False)) { tmps := (ps.zip (encs x)).foldl (fun t (p, v) => t.setIfInBounds p v) a.tmps, defers := [] } W)
    (hbody : ∀ (l : Nat) (s : σ) (x : α) (W : World), I s W → ok s x → body.wpIn (F.inRound l) (n - 1 - 1) P (leftZ w.heap.size K I Ix s (nx s x) W) (a₁ x) W)
    (hdone : ∀ (D : Nat) (s : σ) (W : World), w.heap.size ≤ D → S s → I s W → W.heap[D]? = some (.deferred (some [])) → Q .normal { a with defers := { target := .collected D, args := #[] } :: a.defers } W)
    (hstop : ∀ (D : Nat) (c : Code) (s : σ) (W : World), w.heap.size ≤ D → Sp s → Ix c s W → W.heap[D]? = some (.deferred (some [])) → c.wpIn F n P Q { a with defers := { target := .collected D, args := #[] } :: a.defers } W) :
    (Code.rangeFunc g ps assign body).wpIn F n P Q a w := by
  refine wpIn_rangeFunc fun fn hfn => ?_
  rw [hro]
  -- the loop's record, as it may stand
  let R : LoopState → Option Code → Obj := fun st pe => .loop { state := st, pending := pe, fn, tmps := a.tmps, params := ps, assign, body, defers := w.heap.size }
  let Bk : LoopState → Option Code → World → Prop := fun st pe W => W.heap[w.heap.size + 1]? = some (R st pe) ∧ W.heap[w.heap.size]? = some (.deferred (some []))
  have bkK : ∀ {st pe A B}, Recs w.heap.size A B → Bk st pe A → Bk st pe B := fun hk hb => ⟨hk.2.trans hb.1, hk.1.trans hb.2⟩
  have bkP : ∀ {st pe st' pe' A}, Bk st pe A → Bk st' pe' (A.putObj (w.heap.size + 1) (R st' pe')) := fun hb =>
    ⟨World.putObj_heap_same (Array.getElem?_eq_some_iff.1 hb.1).1, (World.putObj_heap_other (by omega)).trans hb.2⟩
  have iP : ∀ {st pe s A} (o : Obj), Bk st pe A → I s A → I s (A.putObj (w.heap.size + 1) o) := fun o hb hi => hI _ _ o hi (Array.getElem?_eq_some_iff.1 hb.1).1
  have ixP : ∀ {st pe s c A} (o : Obj), Bk st pe A → Ix c s A → Ix c s (A.putObj (w.heap.size + 1) o) := fun o hb hi => hIx _ _ _ o hi (Array.getElem?_eq_some_iff.1 hb.1).1
  have kP : ∀ {s st pe A} (o : Obj), Bk st pe A → K s A (A.putObj (w.heap.size + 1) o) := fun o hb => hKb _ _ _ _ _ (by omega) hb.1 rfl rfl
  have bkT : ∀ {s s' st pe A B}, T s s' A B → Bk st pe A → Bk st pe B := fun ht hb => ⟨hTk _ _ _ _ ht _ _ (by omega) hb.1 rfl rfl, hTk _ _ _ _ ht _ _ (Nat.le_refl _) hb.2 rfl rfl⟩
  have b0 : Bk .ready none ((w.alloc (.deferred (some []))).alloc (R .ready none)) :=
    ⟨by have := World.alloc_heap_new (w.alloc (.deferred (some []))) (R .ready none); rwa [World.size_alloc] at this, (Below.heap_alloc _ _ _ (by simp)).trans (World.alloc_heap_new w _)⟩
  refine ⟨w.heap.size + 1, [{ target := .collected w.heap.size, args := #[] }], ((w.alloc (.deferred (some []))).alloc (R .ready none)), { target := .fn (.func gf) lb, args := #[.func (.yield (w.heap.size + 1)) #[] #[]] }, ((w.alloc (.deferred (some []))).alloc (R .ready none)), gf, #[.func (.yield (w.heap.size + 1)) #[] #[]] ++ lb, ((w.alloc (.deferred (some []))).alloc (R .ready none)),
    run_enterLoop_outer _ _ _ _ _, by simp only [resolve, hg]; simp [go_sem], fun f' hf' => by simp [Target.leads] at hf'; subst hf'; exact hFg, by simp [invoke, go_sem, eg], fun _ => h1, ?_⟩
  refine (hseq (w.heap.size + 1) (fun s A => I s A ∧ Bk .ready none A) (fun s A => ∃ c, Ix c s A ∧ Bk .done (some c) A) _ (hKt hb0 (hKt (hKa _ _ _) (hKa _ _ _)))
    (fun s s' A B hs ht => ⟨hIT s s' A B hs.1 ht, bkT ht hs.2⟩) ?_ ⟨h0 _ _, b0⟩).mono ?_
  · -- one round
    rintro s x A ⟨hi, hb⟩ hok
    refine ⟨fn, _, assign, body, run_yield hb.1 (hps x), roundIn_of_wpIn hfn (hassign _ x A _ ⟨_, run_beginRound hb.1 rfl, ?_⟩)⟩
    have hb2 : Bk .busy none (A.putObj (w.heap.size + 1) (R .busy none)) := bkP hb
    refine wpIn_mono (hbody _ s x _ (iP _ hb hi) hok) ?_
    rintro e a3 W3 hp
    cases e with
    | normal =>
      have hb3 := bkK hp.1 hb2
      exact ⟨_, _, run_endRound none hb3.1, .inl ⟨rfl, ⟨iP _ hb3 hp.2.2, bkP hb3⟩, hKt (kP _ hb) (hKt hp.2.1 (kP _ hb3))⟩⟩
    | ret => have hb3 := bkK hp.1 hb2; exact ⟨_, _, run_endRound (some .ret) hb3.1, .inr ⟨rfl, .ret, ixP _ hb3 hp.2, bkP hb3⟩⟩
    | exit id => have hb3 := bkK hp.1 hb2; exact ⟨_, _, run_endRound (some (.exit id)) hb3.1, .inr ⟨rfl, .exit id, ixP _ hb3 hp.2, bkP hb3⟩⟩
    | goto t => have hb3 := bkK hp.1 hb2; exact ⟨_, _, run_endRound (some (.goto t)) hb3.1, .inr ⟨rfl, .goto t, ixP _ hb3 hp.2, bkP hb3⟩⟩
    | panic ch => exact hp.elim
    | outgrown => exact hp.elim
  · -- behind the iterator
    rintro e A ⟨⟨v, rfl⟩, (⟨s, hS, hi, hb⟩ | ⟨s, hSp, c, hi, hb⟩)⟩
    · exact ⟨none, _, run_endLoop hb.1 (by simp), hdone _ s _ (Nat.le_refl _) hS (iP _ hb hi) ((World.putObj_heap_other (by omega)).trans hb.2)⟩
    · exact ⟨some c, _, run_endLoop hb.1 (by simp), hstop _ c s _ (Nat.le_refl _) hSp (ixP _ hb hi) ((World.putObj_heap_other (by omega)).trans hb.2)⟩
end Go.Hay
end

section
namespace Go.Proofs.YtfpmolajpmljmaaDoor
open Go.RowKit Go.Hay
set_option linter.unusedVariables false
set_option linter.unusedSimpArgs false

/-- A row of rows, as slices, all of it. -/
theorem RowP.bs3 {B : Nat → Prop} {w : World} {v : Value} {L : List (List UInt8)} (h : RowP B w v L) : ∃ a c l, v = .slice a (l : List Bs).length c ∧ BsE.See w a l ∧ (∀ y ∈ l, y.ok w ∧ ∀ k ∈ blk y.a, B k ∧ k ∉ own v ∧ k < w.heap.size) ∧ bsl l = L ∧ l.length ≤ c ∧ c ≤ maxLen := by
  obtain ⟨vs, hvl, hs, hfr, hel⟩ := h
  have hex : ∀ i, i < vs.length → ∃ y : Bs, vs[i]? = some (.slice y.a y.bs.length y.c) ∧ L[i]? = some y.bs ∧ y.ok w ∧ ∀ k ∈ blk y.a, B k ∧ k ∉ own v ∧ k < w.heap.size := fun i hi => by
    obtain ⟨hr, hb⟩ := hel i vs[i] (L[i]'(by omega)) (by simp [hi]) (by simp [show i < L.length by omega])
    obtain ⟨a, c, e, hse, ho⟩ := hr.sees
    obtain ⟨a', c', e', hle⟩ := hr.shape
    have hnl : a = none → c = 0 := fun hn => by
      rcases hr with ⟨h1, _⟩ | ⟨g, o, cap, h1, _⟩
      · rw [e] at h1; injection h1
      · rw [e] at h1; injection h1 with h2; rw [h2] at hn; cases hn
    have hlc : (L[i]'(by omega)).length ≤ c := by rw [e] at e'; cases e'; exact hle
    refine ⟨⟨a, c, L[i]'(by omega)⟩, by simp [hi, e], by simp [show i < L.length by omega], ⟨hse, hlc, hnl⟩, fun k hk => ?_⟩
    have hk' : k ∈ own vs[i] := by rw [ho]; exact hk
    exact ⟨(hb k hk').1, (hb k hk').2, hr.lt k hk'⟩
  obtain ⟨Y, hY⟩ := Go.Deep.choose_lt (α := Bs) (n := vs.length) hex
  have hbl : bsl ((List.range vs.length).map Y) = L := by
    refine List.ext_getElem? fun i => ?_
    unfold bsl
    rw [List.getElem?_map, List.getElem?_map]
    by_cases hi : i < vs.length
    · rw [List.getElem?_range hi, (hY i hi).2.1]; rfl
    · rw [List.getElem?_eq_none (by simpa using hi), List.getElem?_eq_none (by omega)]; rfl
  have hoks : ∀ y ∈ (List.range vs.length).map Y, y.ok w ∧ ∀ k ∈ blk y.a, B k ∧ k ∉ own v ∧ k < w.heap.size := fun y hy => by
    obtain ⟨i, hi, rfl⟩ := List.mem_map.1 hy
    exact (hY i (List.mem_range.1 hi)).2.2
  rcases hs with ⟨rfl, rfl⟩ | ⟨g, o, cap, rfl, hl, hm, hg, hc, ht⟩
  · exact ⟨none, 0, [], rfl, .inl rfl, by simp, by simpa using hbl, Nat.le_refl _, by simp⟩
  · refine ⟨some ⟨g, o, none⟩, cap, (List.range vs.length).map Y, by simp, .inr ⟨g, o, rfl, fun j u hu => ?_⟩, hoks, hbl, by simp; exact hl, hm⟩
    have hj : j < vs.length := by
      have := (List.getElem?_eq_some_iff.1 hu).1
      rw [El.cs_length] at this
      simpa [BsE] using this
    have e1 : ((List.range vs.length).map Y)[j]? = some (Y j) := by rw [List.getElem?_map, List.getElem?_range hj]; rfl
    have e2 := El.cs_get BsE e1 (k := 0) (by decide)
    have e3 : BsE.n = 1 := rfl
    rw [e3, Nat.mul_one, Nat.add_zero, hu] at e2
    cases e2
    exact hc j _ (hY j hj).1
/-- The log and its disk, by the frames; the blocks that are apart from it. -/
def RgS (w : World) (p dp mb : Nat) (l : List (List (List UInt8))) (b : Nat) (X : List Nat) (W : World) : Prop :=
  ∃ (xs : List Ent) (s t : Nat) (B : Nat → Prop) (v : Value), s ≤ b ∧ LD w W p dp mb xs (oneD 1125899906842624 s nmL (allB l) t) nmL B v l.flatten ((allB l).length : Int) ∧ ∀ k ∈ X, ¬ InL p dp mb xs B k ∧ k < W.heap.size
theorem RgS.kp {w W : World} {p dp mb : Nat} {l : List (List (List UInt8))} {b : Nat} {X : List Nat} (h : RgS w p dp mb l b X W) : Kp [] w W := by
  obtain ⟨xs, s, t, B, v, h1, h2, h3⟩ := h
  exact h2.kp
theorem RgS.lt {w W : World} {p dp mb : Nat} {l : List (List (List UInt8))} {b : Nat} {X : List Nat} (h : RgS w p dp mb l b X W) : ∀ k ∈ X, k < W.heap.size := by
  obtain ⟨xs, s, t, B, v, h1, h2, h3⟩ := h
  exact fun k hk => (h3 k hk).2
theorem RgS.keep {w W W' : World} {p dp mb : Nat} {l : List (List (List UInt8))} {b : Nat} {X X' : List Nat} (h : RgS w p dp mb l b X W) {S : List Nat} (k : Kp S W W') (hS : ∀ j ∈ S, j ∈ X ∧ w.heap.size ≤ j) (hX : ∀ j ∈ X', (j ∈ X ∨ W.heap.size ≤ j) ∧ j < W'.heap.size) : RgS w p dp mb l b X' W' := by
  obtain ⟨xs, s, t, B, v, h1, h2, h3⟩ := h
  refine ⟨xs, s, t, B, v, h1, h2.stay k (fun j hj => ⟨(h3 j (hS j hj).1).1, (hS j hj).2⟩), fun j hj => ⟨fun hi => ?_, (hX j hj).2⟩⟩
  rcases (hX j hj).1 with e | e
  · exact (h3 j e).1 hi
  · have := (h2.inLt hi).1; omega
/-- Append of rows. -/
theorem RgS.app {w W : World} {p dp mb : Nat} {l : List (List (List UInt8))} {b : Nat} {X : List Nat} (h : RgS w p dp mb l b X W) (hb : b ≤ 100000000) (hl : (allB l).length ≤ 100000000) (hf : l.flatten.length ≤ 100000000)
    (a : Option Addr) (c : Nat) (R : List Bs) (hR : ∀ Y : Nat → Prop, (∀ k, Y k → w.heap.size ≤ k) → ArgQ W a R Y) (hRl : (frB (bsl R)).length ≤ 100000000) (hTb : Tab w) :
    Calls Tryd.prog 18 #[.pointer (some ⟨p, 0, none⟩), .slice a R.length c] W fun e W' => ∃ z, e = .returned (.int .i64 z) ∧ ((z = 0 ∧ (bsl R = [] ∨ okR (bsl R) = true) ∧ RgS w p dp mb (if okR (bsl R) = true then l ++ [bsl R] else l) (b + 2) X W') ∨ (z ≠ 0 ∧ okR (bsl R) = false ∧ RgS w p dp mb l (b + 2) X W')) ∧ ∃ S, Kp S W W' ∧ ∀ k ∈ S, k ∉ X ∧ w.heap.size ≤ k := by
  obtain ⟨xs, s, t, B, v, h1, h2, h3⟩ := h
  refine (h2.app3 (by simp only [oneD]; omega) (by simp [oneD]) (small_one (by omega)) (by unfold maxLen; simp [nmL]) (by rw [file_one]; simp only; omega) (by omega) (by omega) a c R (hR _ (fun k hk => (h2.inLt hk).2)) hTb).mono ?_
  rintro e W' ⟨he, hk, xs', v', B', hL', hi'⟩
  have hz := hk.size
  have hX : ∀ k ∈ X, ¬ InL p dp mb xs' B' k ∧ k < W'.heap.size := fun k hk1 => ⟨fun hi => by
    rcases hi' k hi with e1 | e1
    · exact (h3 k hk1).1 e1
    · have := (h3 k hk1).2; omega, by have := (h3 k hk1).2; omega⟩
  refine ⟨_, he, ?_, _, hk, fun k hk1 => ⟨fun hx => (h3 k hx).1 (setInLD h2 k hk1), h2.own k hk1⟩⟩
  obtain ⟨o1, o2⟩ := app_one 1125899906842624 s nmL (allB l) t rnL (bsl R) (by omega)
  cases hor : okR (bsl R) with
  | true =>
    obtain ⟨e1, es⟩ := o1 hor
    rw [e1] at hL' ⊢
    rw [if_pos rfl, if_pos rfl, es] at hL'
    refine .inl ⟨rfl, .inr rfl, xs', s + 2, (allB l ++ frB (bsl R)).length, B', v', by omega, ?_, hX⟩
    rw [if_pos rfl, allB_snoc, List.flatten_append, List.length_append]
    simp only [List.flatten_cons, List.flatten_nil, List.append_nil]
    rw [Int.natCast_add]
    rw [List.length_append] at hL'
    exact hL'
  | false =>
    obtain ⟨e1, e2⟩ := o2 hor
    by_cases h0 : (appQ (oneD 1125899906842624 s nmL (allB l) t) nmL (bsl R)).2 = 0
    · obtain ⟨e3, e4⟩ := e2 h0
      rw [if_pos h0, if_pos h0, e1, e4, e3, List.append_nil, Int.add_zero] at hL'
      exact .inl ⟨h0, .inl e3, xs', s, t, B', v', by omega, by rw [if_neg (by simp)]; exact hL', hX⟩
    · rw [if_neg h0, if_neg h0, e1] at hL'
      exact .inr ⟨h0, rfl, xs', s, t, B', v', by omega, hL', hX⟩
/-- Where the first rounds stand: the log, the boxes, want. -/
structure RgJ (w : World) (p dp mb q4 q6 : Nat) (b : Nat) (l : List (List (List UInt8))) (va : Option Addr) (vc : Nat) (vl : List Bs) (W : World) : Prop where
  x : RgS w p dp mb l b (q4 :: q6 :: blk va) W
  b4 : W.cell? ⟨q4, 0, none⟩ = some (.pointer (some ⟨p, 0, none⟩))
  b6 : W.cell? ⟨q6, 0, none⟩ = some (.slice va vl.length vc)
  f6 : W.frozen? ⟨q6, 0, none⟩ = false
  v : BsE.Row W (.slice va vl.length vc) vl
  ne : q4 ≠ q6
  n4 : q4 ∉ blk va
  n6 : q6 ∉ blk va
  lo : w.heap.size ≤ q4 ∧ w.heap.size ≤ q6 ∧ ∀ k ∈ blk va, w.heap.size ≤ k
  ok : ∀ y ∈ vl, y.ok w
theorem RgJ.keep {w W W' : World} {p dp mb q4 q6 b : Nat} {l : List (List (List UInt8))} {va : Option Addr} {vc : Nat} {vl : List Bs} (h : RgJ w p dp mb q4 q6 b l va vc vl W) (k : Kp [] W W') : RgJ w p dp mb q4 q6 b l va vc vl W' := by
  have hz := k.size
  have hlt := h.x.lt
  exact ⟨h.x.keep k (by simp) (fun j hj => ⟨.inl hj, by have := hlt j hj; omega⟩), (k.cell (p := ⟨q4, 0, none⟩) (World.block_lt_of_cell? _ _ h.b4) (by simp)).trans h.b4, (k.cell (p := ⟨q6, 0, none⟩) (World.block_lt_of_cell? _ _ h.b6) (by simp)).trans h.b6, (k.frozen (p := ⟨q6, 0, none⟩) (World.block_lt_of_cell? _ _ h.b6) (by simp)).trans h.f6, h.v.keptNew k, h.ne, h.n4, h.n6, h.lo, h.ok⟩
theorem RgJ.app {w W : World} {p dp mb q4 q6 b : Nat} {l : List (List (List UInt8))} {va : Option Addr} {vc : Nat} {vl : List Bs} (h : RgJ w p dp mb q4 q6 b l va vc vl W) (hb : b ≤ 100000000) (hl : (allB l).length ≤ 100000000) (hf : l.flatten.length ≤ 100000000)
    (a : Option Addr) (c : Nat) (R : List Bs) (hR : ∀ Y : Nat → Prop, (∀ k, Y k → w.heap.size ≤ k) → ArgQ W a R Y) (hRl : (frB (bsl R)).length ≤ 100000000) (hTb : Tab w) :
    Calls Tryd.prog 18 #[.pointer (some ⟨p, 0, none⟩), .slice a R.length c] W fun e W' => ∃ z, e = .returned (.int .i64 z) ∧ ((z = 0 ∧ (bsl R = [] ∨ okR (bsl R) = true) ∧ RgJ w p dp mb q4 q6 (b + 2) (if okR (bsl R) = true then l ++ [bsl R] else l) va vc vl W') ∨ (z ≠ 0 ∧ okR (bsl R) = false ∧ RgJ w p dp mb q4 q6 (b + 2) l va vc vl W')) := by
  refine (h.x.app hb hl hf a c R hR hRl hTb).mono ?_
  rintro e W' ⟨z, he, hz, S, k, hS⟩
  have key : ∀ {l'}, RgS w p dp mb l' (b + 2) (q4 :: q6 :: blk va) W' → RgJ w p dp mb q4 q6 (b + 2) l' va vc vl W' := fun hx =>
    ⟨hx, (k.cell (p := ⟨q4, 0, none⟩) (World.block_lt_of_cell? _ _ h.b4) (fun hm => (hS _ hm).1 (by simp))).trans h.b4, (k.cell (p := ⟨q6, 0, none⟩) (World.block_lt_of_cell? _ _ h.b6) (fun hm => (hS _ hm).1 (by simp))).trans h.b6, (k.frozen (p := ⟨q6, 0, none⟩) (World.block_lt_of_cell? _ _ h.b6) (fun hm => (hS _ hm).1 (by simp))).trans h.f6, h.v.kept k (fun j hj hm => (hS j hm).1 (by rw [ownQ] at hj; simp [hj])), h.ne, h.n4, h.n6, h.lo, h.ok⟩
  refine ⟨z, he, ?_⟩
  rcases hz with ⟨h1, h2, h3⟩ | ⟨h1, h2, h3⟩
  · exact .inl ⟨h1, h2, key h3⟩
  · exact .inr ⟨h1, h2, key h3⟩
/-- Want grows. -/
theorem RgJ.push {w W : World} {p dp mb q4 q6 b : Nat} {l : List (List (List UInt8))} {va : Option Addr} {vc : Nat} {vl : List Bs} (h : RgJ w p dp mb q4 q6 b l va vc vl W)
    (ya : Option Addr) (yc : Nat) (yl : List Bs) (hs : BsE.See W ya yl) (hyo : ∀ y ∈ yl, y.ok w) (hl : vl.length + yl.length ≤ 1000000000) :
    ∃ a' c' W1, (Builtin.append_ #[23, 23] 23 #[.slice va vl.length vc, .slice ya yl.length yc]).run Tryd.prog W = .ok (.slice a' (vl ++ yl).length c') W1 ∧ W1.cell? ⟨q6, 0, none⟩ = some (.slice va vl.length vc) ∧ W1.frozen? ⟨q6, 0, none⟩ = false ∧
      RgJ w p dp mb q4 q6 b l a' c' (vl ++ yl) (W1.setCell ⟨q6, 0, none⟩ (.slice a' (vl ++ yl).length c')) := by
  obtain ⟨a', c', W1, r1, w1, k1, n1⟩ := appBs h.v ya yc yl hs hl
  rw [ownQ] at k1
  simp only [ownQ] at n1
  have hlt := h.x.lt
  have hz := k1.size
  have c6 := (k1.cell (p := ⟨q6, 0, none⟩) (World.block_lt_of_cell? _ _ h.b6) h.n6).trans h.b6
  have f6 := (k1.frozen (p := ⟨q6, 0, none⟩) (World.block_lt_of_cell? _ _ h.b6) h.n6).trans h.f6
  have c4 := (k1.cell (p := ⟨q4, 0, none⟩) (World.block_lt_of_cell? _ _ h.b4) h.n4).trans h.b4
  have kS : Kp [q6] W1 (W1.setCell ⟨q6, 0, none⟩ (.slice a' (vl ++ yl).length c')) := (Kp.refl _ _).setCell (by simp) _
  have l4 := hlt q4 (by simp)
  have l6 := hlt q6 (by simp)
  have hn6 : q6 ∉ blk a' := fun hm => by
    rcases n1 q6 hm with e | e
    · exact h.n6 e
    · omega
  have hn4 : q4 ∉ blk a' := fun hm => by
    rcases n1 q4 hm with e | e
    · exact h.n4 e
    · omega
  have kA : Kp (q6 :: blk va) W (W1.setCell ⟨q6, 0, none⟩ (.slice a' (vl ++ yl).length c')) := (k1.mono (fun x hx => .inl (by simp [hx]))).trans kS (fun x hx => .inl (by simp at hx; simp [hx]))
  have hza := kS.size
  refine ⟨a', c', W1, r1, c6, f6, h.x.keep kA (fun j hj => ?_) (fun j hj => ?_), ?_, World.cell?_setCell_same _ _ _ c6, (World.frozen?_setCell _ _ _ _).trans f6, w1.kept kS (fun j hj hm => by rw [ownQ] at hj; simp at hm; subst hm; exact hn6 hj), h.ne, hn4, hn6, ⟨h.lo.1, h.lo.2.1, fun k hk => ?_⟩, fun y hy => ?_⟩
  · rcases List.mem_cons.1 hj with rfl | hj
    · exact ⟨by simp, h.lo.2.1⟩
    · exact ⟨by simp [hj], h.lo.2.2 j hj⟩
  · simp only [List.mem_cons] at hj
    rcases hj with rfl | rfl | hj
    · exact ⟨.inl (by simp), by omega⟩
    · exact ⟨.inl (by simp), by omega⟩
    · have hl1 := w1.lt j (by rw [ownQ]; exact hj)
      rcases n1 j hj with e | e
      · exact ⟨.inl (by simp [e]), by omega⟩
      · exact ⟨.inr e, by omega⟩
  · exact (kS.cell (p := ⟨q4, 0, none⟩) (World.block_lt_of_cell? _ _ c4) (by simpa using h.ne)).trans c4
  · rcases n1 k hk with e | e
    · exact h.lo.2.2 k e
    · have := h.x.kp.size; omega
  · rcases List.mem_append.1 hy with h1 | h1
    · exact h.ok y h1
    · exact hyo y h1
/-- The log's records. -/
theorem RgS.recs {w W : World} {p dp mb : Nat} {l : List (List (List UInt8))} {b : Nat} {X : List Nat} (h : RgS w p dp mb l b X W) (hx : ∀ x ∈ l.flatten, x.length ≤ 100000000) : ∃ a0 c0 l0, W.cell? ⟨p, 2, none⟩ = some (.slice a0 (l0 : List Bs).length c0) ∧ BsE.See W a0 l0 ∧ (∀ y ∈ l0, Sees W y.a y.bs ∧ y.bs.length ≤ 200000000000000) ∧ bsl l0 = l.flatten := by
  obtain ⟨xs, s, t, B, v, h1, h2, h3⟩ := h
  obtain ⟨a0, c0, l0, e, hs, ho, hb, _, _⟩ := h2.log.row.bs3
  refine ⟨a0, c0, l0, by rw [← e]; exact h2.log.box.c2, hs, fun y hy => ⟨(ho y hy).1.see, ?_⟩, hb⟩
  have := hx y.bs (by rw [← hb]; exact List.mem_map.2 ⟨y, hy, rfl⟩)
  omega
end Go.Proofs.YtfpmolajpmljmaaDoor
end

section
namespace Go.Proofs.YtfpmolajpmljmaaDoor
open Go.RowKit Go.Hay
set_option linter.unusedVariables false
set_option linter.unusedSimpArgs false

/-- Append, with what it leaves of the row that was. -/
def AppLK (w0 : World) (p dp mb : Nat) (xs : List Ent) (d : Dk) (nm : List UInt8) (B : Nat → Prop) (v : Value) (L : List (List UInt8)) (sz : Int) (R : List (List UInt8)) (w : World) (e : Ending) (w' : World) : Prop :=
  e = .returned (.int .i64 (appQ d nm R).2) ∧ Kp (p :: own v ++ foot dp mb xs) w w' ∧ ((appQ d nm R).2 = 0 → ∃ xs' v' B', LD w0 w' p dp mb xs' (appQ d nm R).1 nm B' v' (L ++ R) (sz + appS R) ∧ (∀ k, InL p dp mb xs' B' k → InL p dp mb xs B k ∨ w.heap.size ≤ k) ∧ (∀ k ∈ foot dp mb xs', k ∈ foot dp mb xs ∨ w.heap.size ≤ k) ∧ AppK v v' w w')
theorem LD.appK {w0 w : World} {p dp mb : Nat} {xs : List Ent} {d : Dk} {nm : List UInt8} {B : Nat → Prop} {v : Value} {L : List (List UInt8)} {sz : Int} (h : LD w0 w p dp mb xs d nm B v L sz)
    (hs : d.steps < 7000000000000000000) (hN : d.files.length < 7000000000000000000) (hB : Small d) (hk : nm.length ≤ maxLen) (hfl : (fileOf d.files nm).bytes.length ≤ 140737400000000) (hLl : L.length ≤ 900000000000) (hsz : 0 ≤ sz ∧ sz ≤ 8000000000000000000)
    (a : Option Addr) (c : Nat) (R : List Bs) (hR : ArgQ w a R (InL p dp mb xs B)) (hTb : Tab w0) :
    Calls Tryd.prog 18 #[.pointer (some ⟨p, 0, none⟩), .slice a R.length c] w (AppLK w0 p dp mb xs d nm B v L sz (bsl R) w) := by
  have h00 := hTb.1
  refine (cAppendK h.log h.disk h.sep (fun k hk => (h.lb k hk).2) hs hN hB hk hfl hLl hsz a c R hR (hTb.kept h.kp (by simp)) ⟨fun hm => by have := h.lf 0 hm; omega, by have := h.lp; omega, fun hb => by have := (h.lb 0 hb).1; omega⟩).mono ?_
  rintro e w' ⟨he, xs', hD', k', hf', h1, h2⟩
  have kw : Kp [] w0 w' := h.kp.trans k' (fun x hx => .inr (h.own x hx))
  have hz := h.kp.size
  have hz' := k'.size
  have hlf : ∀ k ∈ foot dp mb xs', w0.heap.size ≤ k := fun k hk => by rcases hf' k hk with hh | hh; exact h.lf k hh; omega
  refine ⟨he, k', fun h0 => ?_⟩
  obtain ⟨v', B', hl, hb, hsp, hak⟩ := h2 h0
  refine ⟨xs', v', B', ⟨hl, hD', hsp, hlf, fun k hk => by rcases hb k hk with hh | hh; exact ⟨(h.lb k hh).1, by have := (h.lb k hh).2; omega⟩; exact ⟨by omega, hh.2⟩, h.lp, kw⟩, fun k hk => ?_, hf', hak⟩
  rcases hk with hk | rfl | hk
  · rcases hf' k hk with hh | hh
    · exact .inl (.inl hh)
    · exact .inr hh
  · exact .inl (.inr (.inl rfl))
  · rcases hb k hk with hh | hh
    · exact .inl (.inr (.inr hh))
    · exact .inr hh.1
/-- The blocks of the records' bytes. -/
def X0 (l0 : List Bs) (k : Nat) : Prop := ∃ y ∈ l0, k ∈ blk y.a
/-- A log that grows while its records, as they were at w0, are gone through. -/
structure RgE (w w0 : World) (p dp mb : Nat) (v0 : Value) (l0 : List Bs) (Y : List Nat) (W : World) (xs : List Ent) (B : Nat → Prop) (v : Value) : Prop where
  ak : AppK v0 v w0 W
  y : ∀ k ∈ Y, (¬ InL p dp mb xs B k ∧ k < W.heap.size) ∧ k ∉ own v0 ∧ ¬ X0 l0 k
  x : ∀ k, X0 l0 k → k ∉ p :: own v ++ foot dp mb xs ∧ k < w0.heap.size
  o : ∀ k ∈ own v0, k ≠ p ∧ k ∉ foot dp mb xs ∧ k < w0.heap.size
  z : w0.heap.size ≤ W.heap.size
def RgD (w w0 : World) (p dp mb : Nat) (v0 : Value) (l0 : List Bs) (l : List (List (List UInt8))) (b : Nat) (Y : List Nat) (W : World) : Prop :=
  ∃ (xs : List Ent) (s t : Nat) (B : Nat → Prop) (v : Value), s ≤ b ∧ LD w W p dp mb xs (oneD 1125899906842624 s nmL (allB l) t) nmL B v l.flatten ((allB l).length : Int) ∧ RgE w w0 p dp mb v0 l0 Y W xs B v
theorem RgS.rgd {w w0 : World} {p dp mb : Nat} {l : List (List (List UInt8))} {b : Nat} {X : List Nat} (h : RgS w p dp mb l b X w0) (hx : ∀ x ∈ l.flatten, x.length ≤ 100000000) :
    ∃ a0 c0 l0, w0.cell? ⟨p, 2, none⟩ = some (.slice a0 (l0 : List Bs).length c0) ∧ BsE.See w0 a0 l0 ∧ (∀ y ∈ l0, Sees w0 y.a y.bs ∧ y.bs.length ≤ 200000000000000) ∧ bsl l0 = l.flatten ∧ RgD w w0 p dp mb (.slice a0 l0.length c0) l0 l b X w0 := by
  obtain ⟨xs, s, t, B, v, h1, h2, h3⟩ := h
  obtain ⟨a0, c0, l0, e, hs, ho, hb, _, _⟩ := h2.log.row.bs3
  have hX0 : ∀ k, X0 l0 k → B k ∧ k ∉ own v ∧ k < w0.heap.size := fun k ⟨y, hy, hk⟩ => (ho y hy).2 k hk
  refine ⟨a0, c0, l0, by rw [← e]; exact h2.log.box.c2, hs, fun y hy => ⟨(ho y hy).1.see, ?_⟩, hb, xs, s, t, B, v, h1, h2, ?_⟩
  · have := hx y.bs (by rw [← hb]; exact List.mem_map.2 ⟨y, hy, rfl⟩)
    omega
  · rw [← e]
    refine ⟨AppK.refl h2.log.row _, fun k hk => ⟨h3 k hk, fun hm => (h3 k hk).1 (.inr (.inr (h2.log.row.from k hm))), fun hm => (h3 k hk).1 (.inr (.inr (hX0 k hm).1))⟩, fun k hk => ⟨fun hm => ?_, (hX0 k hk).2.2⟩, fun k hk => ⟨fun e => ?_, fun hm => (h2.sep k hm).1 (h2.log.row.from k hk), h2.log.row.lt k hk⟩, Nat.le_refl _⟩
    · simp only [List.cons_append, List.mem_cons, List.mem_append] at hm
      rcases hm with rfl | hm | hm
      · exact h2.log.np (hX0 _ hk).1
      · exact (hX0 k hk).2.1 hm
      · exact (h2.sep k hm).1 (hX0 k hk).1
    · subst e
      exact h2.log.np (h2.log.row.from _ hk)
theorem RgD.kp {w w0 W : World} {p dp mb : Nat} {v0 : Value} {l0 : List Bs} {l : List (List (List UInt8))} {b : Nat} {Y : List Nat} (h : RgD w w0 p dp mb v0 l0 l b Y W) : Kp [] w W := by
  obtain ⟨xs, s, t, B, v, h1, h2, h3⟩ := h
  exact h2.kp
theorem RgD.lt {w w0 W : World} {p dp mb : Nat} {v0 : Value} {l0 : List Bs} {l : List (List (List UInt8))} {b : Nat} {Y : List Nat} (h : RgD w w0 p dp mb v0 l0 l b Y W) : ∀ k ∈ Y, k < W.heap.size := by
  obtain ⟨xs, s, t, B, v, h1, h2, h3⟩ := h
  exact fun k hk => (h3.y k hk).1.2
theorem RgD.keep {w w0 W W' : World} {p dp mb : Nat} {v0 : Value} {l0 : List Bs} {l : List (List (List UInt8))} {b : Nat} {Y Y' : List Nat} (h : RgD w w0 p dp mb v0 l0 l b Y W) {S : List Nat} (k : Kp S W W') (hS : ∀ j ∈ S, j ∈ Y ∧ w.heap.size ≤ j) (hY : ∀ j ∈ Y', (j ∈ Y ∨ W.heap.size ≤ j) ∧ j < W'.heap.size) : RgD w w0 p dp mb v0 l0 l b Y' W' := by
  obtain ⟨xs, s, t, B, v, h1, h2, h3⟩ := h
  have hz := k.size
  have hz0 := h3.z
  refine ⟨xs, s, t, B, v, h1, h2.stay k (fun j hj => ⟨(h3.y j (hS j hj).1).1.1, (hS j hj).2⟩), h3.ak.post k (fun j hj hm => (h3.y j (hS j hm).1).2.1 hj), fun j hj => ?_, h3.x, h3.o, by omega⟩
  rcases (hY j hj).1 with e | e
  · exact ⟨⟨(h3.y j e).1.1, (hY j hj).2⟩, (h3.y j e).2⟩
  · refine ⟨⟨fun hi => ?_, (hY j hj).2⟩, fun hm => ?_, fun hm => ?_⟩
    · have := (h2.inLt hi).1; omega
    · have := (h3.o j hm).2.2; omega
    · have := (h3.x j hm).2; omega
/-- What turns blocks of Y alone leaves the records. -/
theorem RgD.gr {w w0 W W' : World} {p dp mb : Nat} {a0 : Option Addr} {c0 : Nat} {l0 : List Bs} {l : List (List (List UInt8))} {b : Nat} {Y : List Nat} (h : RgD w w0 p dp mb (.slice a0 l0.length c0) l0 l b Y W) {S : List Nat} (k : Kp S W W') (hS : ∀ j ∈ S, j ∈ Y) : KeepC (Gr a0 l0) W W' := by
  obtain ⟨xs, s, t, B, v, h1, h2, h3⟩ := h
  refine KeepC.ofKp k (fun x hx hm => ?_)
  rcases hx with ⟨g, o, e, hg, _⟩ | hx
  · refine (h3.y _ (hS _ hm)).2.1 ?_
    rw [ownQ, e, hg]
    simp [blk]
  · exact (h3.y _ (hS _ hm)).2.2 hx
/-- Append of one record. -/
theorem RgD.app {w w0 W : World} {p dp mb : Nat} {a0 : Option Addr} {c0 : Nat} {l0 : List Bs} {l : List (List (List UInt8))} {b : Nat} {Y : List Nat} (h : RgD w w0 p dp mb (.slice a0 l0.length c0) l0 l b Y W) (hb : b ≤ 100000000) (hl : (allB l).length ≤ 100000000) (hf : l.flatten.length ≤ 100000000)
    (a : Option Addr) (c : Nat) (y : Bs) (hR : ∀ X : Nat → Prop, (∀ k ∈ Y, ¬ X k) → ArgQ W a [y] X) (hRl : (frB [y.bs]).length ≤ 100000000) (hok : okR [y.bs] = true) (hTb : Tab w) :
    Calls Tryd.prog 18 #[.pointer (some ⟨p, 0, none⟩), .slice a 1 c] W fun e W' => e = .returned (.int .i64 0) ∧ RgD w w0 p dp mb (.slice a0 l0.length c0) l0 (l ++ [[y.bs]]) (b + 2) Y W' ∧ KeepC (Gr a0 l0) W W' ∧ ∃ S, Kp S W W' ∧ ∀ k ∈ S, k ∉ Y ∧ w.heap.size ≤ k := by
  obtain ⟨xs, s, t, B, v, h1, h2, h3⟩ := h
  have eb : bsl [y] = [y.bs] := by simp [bsl]
  have hA := h2.appK (by simp only [oneD]; omega) (by simp [oneD]) (small_one (by omega)) (by unfold maxLen; simp [nmL]) (by rw [file_one]; simp only; omega) (by omega) (by omega) a c [y] (hR _ (fun k hk => (h3.y k hk).1.1)) hTb
  rw [eb] at hA
  refine hA.mono ?_
  rintro e W' ⟨he, hk, hy⟩
  obtain ⟨o1, o2⟩ := app_one 1125899906842624 s nmL (allB l) t rnL [y.bs] (by omega)
  obtain ⟨e1, e2⟩ := o1 hok
  rw [e1] at he hy
  obtain ⟨xs', v', B', hL', hi', hf', hak⟩ := hy rfl
  rw [e2] at hL'
  dsimp only at hL'
  have hz := hk.size
  have hz0 := h3.z
  have hv' : ∀ k ∈ own v', k ∈ own v ∨ W.heap.size ≤ k := fun k hk1 => by
    rcases hak.2 with ⟨a, n, n', c, c', f1, f2, _⟩ | hn
    · left
      rw [f2, ownQ] at hk1
      rw [f1, ownQ]
      exact hk1
    · exact .inr (hn k hk1)
  refine ⟨he, ⟨xs', s + 2, (allB l ++ frB [y.bs]).length, B', v', by omega, ?_, ?_⟩, ⟨hz, fun x u hx hc => ?_⟩, _, hk, fun k hk1 => ⟨fun hx => (h3.y k hx).1.1 (setInLD h2 k hk1), h2.own k hk1⟩⟩
  · rw [allB_snoc, List.flatten_append, List.length_append]
    simp only [List.flatten_cons, List.flatten_nil, List.append_nil]
    rw [Int.natCast_add]
    rw [List.length_append] at hL'
    exact hL'
  · refine ⟨h3.ak.then h3.z hak hk (fun j hj hm => ?_), fun k hk1 => ⟨⟨fun hi => ?_, by have := (h3.y k hk1).1.2; omega⟩, (h3.y k hk1).2⟩, fun k hk1 => ⟨fun hm => ?_, (h3.x k hk1).2⟩, fun k hk1 => ⟨(h3.o k hk1).1, fun hm => ?_, (h3.o k hk1).2.2⟩, by omega⟩
    · simp only [List.cons_append, List.mem_cons, List.mem_append] at hm
      rcases hm with e | hm | hm
      · exact absurd e (h3.o j hj).1
      · exact hm
      · exact absurd hm (h3.o j hj).2.1
    · rcases hi' k hi with e | e
      · exact (h3.y k hk1).1.1 e
      · have := (h3.y k hk1).1.2; omega
    · have hx0 := h3.x k hk1
      simp only [List.cons_append, List.mem_cons, List.mem_append, not_or] at hx0 hm
      rcases hm with e | hm | hm
      · exact hx0.1.1 e
      · rcases hv' k hm with e | e
        · exact hx0.1.2.1 e
        · omega
      · rcases hf' k hm with e | e
        · exact hx0.1.2.2 e
        · omega
    · rcases hf' k hm with e | e
      · exact (h3.o k hk1).2.1 e
      · have := (h3.o k hk1).2.2; omega
  · rcases hx with ⟨g, o, e, hg, h5, h6⟩ | hx
    · obtain ⟨xb, xo, xs0⟩ := x
      have hsp : xs0 = none := by simpa using World.cell?_spot hc
      subst hsp
      dsimp only at hg h5 h6
      subst hg
      have hgo : xb ∈ own (.slice a0 l0.length c0) := by rw [ownQ, e]; simp [blk]
      obtain ⟨j, rfl⟩ : ∃ j, xo = o + j := ⟨xo - o, by omega⟩
      rcases h3.ak.2 with ⟨a, n, n', c1, c2, f1, f2, f3⟩ | hn
      · obtain ⟨f4, f5, f6⟩ := Value.slice.inj f1
        rw [← f4, e] at f2
        exact hak.1 xb o n' c2 j u f2 (by omega) hc
      · refine (hk.cell (p := ⟨xb, o + j, none⟩) (World.block_lt_of_cell? _ _ hc) (fun hm => ?_)).trans hc
        have ho := h3.o _ hgo
        simp only [List.cons_append, List.mem_cons, List.mem_append] at hm
        rcases hm with e | hm | hm
        · exact ho.1 e
        · have h7 := hn xb hm
          exact absurd ho.2.2 (Nat.not_lt.2 h7)
        · exact ho.2.1 hm
    · exact (hk.cell (World.block_lt_of_cell? _ _ hc) (h3.x _ hx).1).trans hc
/-- What gone answers of such a log. -/
theorem RgD.gone {w w0 W : World} {p dp mb : Nat} {v0 : Value} {l0 : List Bs} {l : List (List (List UInt8))} {b : Nat} {Y : List Nat} (h : RgD w w0 p dp mb v0 l0 l b Y W) (h1 : l.flatten.length ≤ 100000000) (h2 : ∀ x ∈ l.flatten, x.length ≤ 100000000) :
    ∀ W2, Kp [] W W2 → Calls Tryd.prog 21 #[.pointer (some ⟨p, 0, none⟩)] W2 fun e W' => ∃ a c, ∃ gl : List Bs, e = .returned (.slice a gl.length c) ∧ BsE.See W' a gl ∧ (∀ y ∈ gl, y.ok W') ∧ bsl gl = l.flatten ∧ gl.length ≤ c ∧ c ≤ maxLen ∧ Kp [] W2 W' := by
  obtain ⟨xs, s, t, B, v, _, h4, _⟩ := h
  intro W2 k2
  refine (cGoneQ (h4.log.kept k2 (by simp) (by simp)) (by omega) (fun x hx => by have := h2 x hx; omega)).mono ?_
  rintro e w' ⟨v', rfl, hr, k⟩
  obtain ⟨a, c, gl, rfl, hs, ho, hb, hl, hm⟩ := hr.bs3
  exact ⟨a, c, gl, rfl, hs, fun y hy => (ho y hy).1, hb, hl, hm, k⟩
end Go.Proofs.YtfpmolajpmljmaaDoor
end

section
namespace Go.Proofs.YtfpmolajpmljmaaDoor
open Go.RowKit Go.Hay
set_option linter.unusedVariables false
set_option linter.unusedSimpArgs false

/-- The blocks of the boxes, of the range's records, of want. -/
def Yk (q4 q6 q9 D1 D : Nat) (va : Option Addr) : List Nat := q4 :: q6 :: q9 :: D :: (D + 1) :: D1 :: blk va
structure Qs (w : World) (q4 q6 q9 D1 D : Nat) (va : Option Addr) : Prop where
  l4 : q4 < D ∧ w.heap.size ≤ q4
  l6 : q6 < D ∧ w.heap.size ≤ q6
  l9 : q9 < D ∧ w.heap.size ≤ q9
  n9 : q9 ≠ q4 ∧ q9 ≠ q6 ∧ q9 ∉ blk va
  l1 : D1 < D ∧ w.heap.size ≤ D1 ∧ q9 ≠ D1
  lv : ∀ k ∈ blk va, k < D ∧ w.heap.size ≤ k
theorem Qs.lo {w : World} {q4 q6 q9 D1 D : Nat} {va : Option Addr} (h : Qs w q4 q6 q9 D1 D va) : ∀ k ∈ Yk q4 q6 q9 D1 D va, w.heap.size ≤ k := fun k hk => by
  have h4 := h.l4
  unfold Yk at hk
  simp only [List.mem_cons] at hk
  rcases hk with rfl | rfl | rfl | rfl | rfl | rfl | hk
  · exact h4.2
  · exact h.l6.2
  · exact h.l9.2
  · omega
  · omega
  · exact h.l1.2.1
  · exact (h.lv k hk).2
/-- The boxes. -/
structure Bxs (p q4 q6 q9 D1 : Nat) (va : Option Addr) (vc : Nat) (vl : List Bs) (kk : Nat) (W : World) : Prop where
  b4 : W.cell? ⟨q4, 0, none⟩ = some (.pointer (some ⟨p, 0, none⟩))
  b6 : W.cell? ⟨q6, 0, none⟩ = some (.slice va vl.length vc)
  b9 : W.cell? ⟨q9, 0, none⟩ = some (.int .i64 kk)
  f9 : W.frozen? ⟨q9, 0, none⟩ = false
  wt : BsE.See W va vl
  d1 : W.heap[D1]? = some (.deferred (some []))
theorem Bxs.kept {p q4 q6 q9 D1 : Nat} {va : Option Addr} {vc : Nat} {vl : List Bs} {kk : Nat} {W W' : World} (h : Bxs p q4 q6 q9 D1 va vc vl kk W) {S : List Nat} (k : Kp S W W') (h4 : q4 ∉ S) (h6 : q6 ∉ S) (h9 : q9 ∉ S) (hv : ∀ j ∈ blk va, j ∉ S) (h1 : D1 ∉ S) : Bxs p q4 q6 q9 D1 va vc vl kk W' :=
  ⟨(k.cell (p := ⟨q4, 0, none⟩) (World.block_lt_of_cell? _ _ h.b4) h4).trans h.b4, (k.cell (p := ⟨q6, 0, none⟩) (World.block_lt_of_cell? _ _ h.b6) h6).trans h.b6, (k.cell (p := ⟨q9, 0, none⟩) (World.block_lt_of_cell? _ _ h.b9) h9).trans h.b9, (k.frozen (p := ⟨q9, 0, none⟩) (World.block_lt_of_cell? _ _ h.b9) h9).trans h.f9, h.wt.kept k (fun _ => hv), (k.block D1 (Array.getElem?_eq_some_iff.1 h.d1).1 h1).trans h.d1⟩
/-- In a round. -/
structure RkB (w w0 : World) (p dp mb q4 q6 q9 D1 : Nat) (v0 : Value) (l0 : List Bs) (l : List (List (List UInt8))) (b : Nat) (va : Option Addr) (vc : Nat) (vl : List Bs) (kk : Nat) (xv : Value) (bs : List UInt8) (W : World) : Prop where
  d : RgD w w0 p dp mb v0 l0 l b (Yk q4 q6 q9 D1 w0.heap.size va ++ own xv) W
  x : Bxs p q4 q6 q9 D1 va vc vl kk W
  r : Row W xv bs
  ap : ∀ k ∈ own xv, k ∉ Yk q4 q6 q9 D1 w0.heap.size va ∧ w.heap.size ≤ k
section
variable {w w0 : World} {p dp mb q4 q6 q9 D1 : Nat} {a0 : Option Addr} {c0 : Nat} {l0 : List Bs} {l : List (List (List UInt8))} {b : Nat} {va : Option Addr} {vc : Nat} {vl : List Bs}
/-- The records, and the cells that are gone through, stand. -/
def Lft (w0 : World) (a0 : Option Addr) (l0 : List Bs) (A W : World) : Prop := Recs w0.heap.size A W ∧ KeepC (Gr a0 l0) A W
theorem Lft.trans {A B C : World} (h : Lft w0 a0 l0 A B) (k : Lft w0 a0 l0 B C) : Lft w0 a0 l0 A C := ⟨⟨k.1.1.trans h.1.1, k.1.2.trans h.1.2⟩, h.2.trans k.2⟩
theorem Lft.refl (A : World) : Lft w0 a0 l0 A A := ⟨⟨rfl, rfl⟩, KeepC.refl _ _⟩
theorem recsKp {S : List Nat} {D : Nat} {A B : World} (k : Kp S A B) (h1 : D ∉ S) (h2 : D + 1 ∉ S) (hz : D + 1 < A.heap.size) : Recs D A B := ⟨k.block D (by omega) h1, k.block (D + 1) hz h2⟩
theorem RgD.recLt {v0 : Value} {l : List (List (List UInt8))} {b : Nat} {Y : List Nat} {W : World} (h : RgD w w0 p dp mb v0 l0 l b (Yk q4 q6 q9 D1 w0.heap.size va ++ Y) W) : w0.heap.size + 1 < W.heap.size := h.lt _ (by simp [Yk])
theorem RkB.keep {kk : Nat} {xv : Value} {bs : List UInt8} {W W' : World} (h : RkB w w0 p dp mb q4 q6 q9 D1 (.slice a0 l0.length c0) l0 l b va vc vl kk xv bs W) (k : Kp [] W W') : RkB w w0 p dp mb q4 q6 q9 D1 (.slice a0 l0.length c0) l0 l b va vc vl kk xv bs W' ∧ Lft w0 a0 l0 W W' := by
  have hz := k.size
  refine ⟨⟨h.d.keep k (by simp) (fun j hj => ⟨.inl hj, by have := h.d.lt j hj; omega⟩), h.x.kept k (by simp) (by simp) (by simp) (by simp) (by simp), h.r.kept k (by simp), h.ap⟩, recsKp k (by simp) (by simp) h.d.recLt, h.d.gr k (by simp)⟩
/-- A byte of what was told is written over. -/
theorem RkB.setB {kk g o n c : Nat} {bs : List UInt8} {W : World} (h : RkB w w0 p dp mb q4 q6 q9 D1 (.slice a0 l0.length c0) l0 l b va vc vl kk (.slice (some ⟨g, o, none⟩) n c) bs W) (i : Nat) (hi : i < bs.length) (y : UInt8) :
    RkB w w0 p dp mb q4 q6 q9 D1 (.slice a0 l0.length c0) l0 l b va vc vl kk (.slice (some ⟨g, o, none⟩) n c) (bs.set i y) (W.setCell ⟨g, o + i, none⟩ (.int .u8 y.toNat)) ∧ Lft w0 a0 l0 W (W.setCell ⟨g, o + i, none⟩ (.int .u8 y.toNat)) := by
  have k : Kp [g] W (W.setCell ⟨g, o + i, none⟩ (.int .u8 y.toNat)) := (Kp.refl _ _).setCell (by simp) _
  have hg : g ∈ own (.slice (some ⟨g, o, none⟩) n c) := by simp [own, Value.ownBlock]
  have hn := h.ap g hg
  have hn1 := hn.1
  unfold Yk at hn1
  simp only [List.mem_cons, not_or] at hn1
  refine ⟨⟨h.d.keep k (fun j hj => ?_) (fun j hj => ⟨.inl hj, by have := h.d.lt j hj; have := k.size; omega⟩), h.x.kept k (by simpa using fun e => hn1.1 e.symm) (by simpa using fun e => hn1.2.1 e.symm) (by simpa using fun e => hn1.2.2.1 e.symm) (fun j hj hm => by simp at hm; subst hm; exact hn1.2.2.2.2.2.2 hj) (by simpa using fun e => hn1.2.2.2.2.2.1 e.symm), Row.put h.r i hi y, h.ap⟩, recsKp k (by simpa using fun e => hn1.2.2.2.1 e.symm) (by simpa using fun e => hn1.2.2.2.2.1 e.symm) h.d.recLt, h.d.gr k (fun j hj => ?_)⟩
  · simp at hj; subst hj; exact ⟨List.mem_append_right _ hg, hn.2⟩
  · simp at hj; subst hj; exact List.mem_append_right _ hg
/-- The counter rises. -/
theorem RkB.setK {kk : Nat} {xv : Value} {bs : List UInt8} {W : World} (hq : Qs w q4 q6 q9 D1 w0.heap.size va) (h : RkB w w0 p dp mb q4 q6 q9 D1 (.slice a0 l0.length c0) l0 l b va vc vl kk xv bs W) :
    RkB w w0 p dp mb q4 q6 q9 D1 (.slice a0 l0.length c0) l0 l b va vc vl (kk + 1) xv bs (W.setCell ⟨q9, 0, none⟩ (.int .i64 ((kk + 1 : Nat) : Int))) ∧ Lft w0 a0 l0 W (W.setCell ⟨q9, 0, none⟩ (.int .i64 ((kk + 1 : Nat) : Int))) := by
  have k : Kp [q9] W (W.setCell ⟨q9, 0, none⟩ (.int .i64 ((kk + 1 : Nat) : Int))) := (Kp.refl _ _).setCell (by simp) _
  have h9 : q9 ∈ Yk q4 q6 q9 D1 w0.heap.size va := by simp [Yk]
  have hl := hq.l9
  refine ⟨⟨h.d.keep k (fun j hj => ?_) (fun j hj => ⟨.inl hj, by have := h.d.lt j hj; have := k.size; omega⟩), ⟨(k.cell (p := ⟨q4, 0, none⟩) (World.block_lt_of_cell? _ _ h.x.b4) (by simpa using hq.n9.1.symm)).trans h.x.b4, (k.cell (p := ⟨q6, 0, none⟩) (World.block_lt_of_cell? _ _ h.x.b6) (by simpa using hq.n9.2.1.symm)).trans h.x.b6, World.cell?_setCell_same _ _ _ h.x.b9, (World.frozen?_setCell _ _ _ _).trans h.x.f9, h.x.wt.kept k (fun _ j hj hm => by simp at hm; subst hm; exact hq.n9.2.2 hj), (k.block D1 (Array.getElem?_eq_some_iff.1 h.x.d1).1 (by simpa using hq.l1.2.2.symm)).trans h.x.d1⟩, h.r.kept k (fun j hj hm => by simp at hm; subst hm; exact (h.ap _ hj).1 h9), h.ap⟩, recsKp k (by simp; omega) (by simp; omega) h.d.recLt, h.d.gr k (fun j hj => ?_)⟩
  · simp at hj; subst hj; exact ⟨List.mem_append_left _ h9, hl.2⟩
  · simp at hj; subst hj; exact List.mem_append_left _ h9
/-- A record is appended. -/
theorem RkB.app {kk : Nat} {xv : Value} {bs : List UInt8} {W : World} (hq : Qs w q4 q6 q9 D1 w0.heap.size va) (h : RkB w w0 p dp mb q4 q6 q9 D1 (.slice a0 l0.length c0) l0 l b va vc vl kk xv bs W) (hb : b ≤ 100000000) (hl : (allB l).length ≤ 90000000) (hf : l.flatten.length ≤ 100000000) (hTb : Tab w) {y2 : World} {q : Nat} (hqz : W.heap.size = q)
    (hy2 : (W.alloc (.cells #[.int .u8 1] 5)).alloc (.cells #[.slice (some ⟨q, 0, none⟩) 1 1] 22) = y2) :
    Calls Tryd.prog 18 #[.pointer (some ⟨p, 0, none⟩), .slice (some ⟨q + 1, 0, none⟩) 1 1] y2 fun e W' => e = .returned (.int .i64 0) ∧ RgD w w0 p dp mb (.slice a0 l0.length c0) l0 (l ++ [[[1]]]) (b + 2) (Yk q4 q6 q9 D1 w0.heap.size va) W' ∧ Bxs p q4 q6 q9 D1 va vc vl kk W' ∧ Lft w0 a0 l0 W W' := by
  subst hqz
  have k2 : Kp [] W y2 := by rw [← hy2]; exact ((Kp.refl _ _).alloc _).alloc _
  have z2 : y2.heap.size = W.heap.size + 2 := by rw [← hy2]; simp
  have z1 : (W.alloc (.cells #[.int .u8 1] 5)).heap.size = W.heap.size + 1 := by simp
  obtain ⟨h2, hL2⟩ := h.keep k2
  have hd2 : RgD w w0 p dp mb (.slice a0 l0.length c0) l0 l b (Yk q4 q6 q9 D1 w0.heap.size va ++ [W.heap.size, W.heap.size + 1]) y2 := by
    refine h.d.keep k2 (by simp) (fun j hj => ?_)
    rcases List.mem_append.1 hj with h1 | h1
    · exact ⟨.inl (List.mem_append_left _ h1), by have := h.d.lt j (List.mem_append_left _ h1); omega⟩
    · simp at h1
      exact ⟨.inr (by omega), by omega⟩
  have hsee : BsE.See y2 (some ⟨W.heap.size + 1, 0, none⟩) [⟨some ⟨W.heap.size, 0, none⟩, 1, [1]⟩] := by
    rw [← hy2]; exact bsNew _ z1 _ _ _ rfl
  have hsy : Sees y2 (some ⟨W.heap.size, 0, none⟩) [1] := by
    refine .inr ⟨W.heap.size, 0, rfl, fun j u hu => ?_⟩
    match j, hu with
    | 0, hu =>
      cases hu
      rw [← hy2]
      exact (((Kp.refl [] _).alloc _).cell (p := ⟨W.heap.size, 0 + 0, none⟩) (by simp) (by simp)).trans (World.cell?_alloc_new W _ _ 0)
    | j + 1, hu => simp at hu
  refine (hd2.app hb (by omega) hf (some ⟨W.heap.size + 1, 0, none⟩) 1 ⟨some ⟨W.heap.size, 0, none⟩, 1, [1]⟩ (fun X hX => ⟨hsee, fun y hy => ?_, fun _ k hk => ?_, fun y hy _ k hk => ?_, by simp, fun y hy => ?_⟩) (by show (frB [[1]]).length ≤ 100000000; unfold frB; rw [frameB_length]; decide) (by show okR [[1]] = true; decide) hTb).mono ?_
  · simp at hy; subst hy; exact ⟨hsy, by simp, by simp⟩
  · simp [blk] at hk; subst hk; exact hX _ (by simp)
  · simp at hy; subst hy; simp [blk] at hk; subst hk; exact hX _ (by simp)
  · simp at hy; subst hy; simp
  rintro e W' ⟨he, hd, hg, S, kS, hS⟩
  have hnS : ∀ k ∈ Yk q4 q6 q9 D1 w0.heap.size va, k ∉ S := fun k hk hm => (hS k hm).1 (List.mem_append_left _ hk)
  refine ⟨he, hd.keep (Kp.refl [] _) (by simp) (fun j hj => ⟨.inl (List.mem_append_left _ hj), hd.lt j (List.mem_append_left _ hj)⟩), h2.x.kept kS (hnS _ (by simp [Yk])) (hnS _ (by simp [Yk])) (hnS _ (by simp [Yk])) (fun j hj => hnS j (by simp [Yk, hj])) (hnS _ (by simp [Yk])), hL2.trans ⟨recsKp kS (hnS _ (by simp [Yk])) (hnS _ (by simp [Yk])) h2.d.recLt, hg⟩⟩
/-- The block of the record at hand. -/
def pbk (s : Sl) : List Nat := match s.pend with
  | some x => own x.1
  | none => []
/-- Between two rounds. -/
structure RkI (w w0 : World) (p dp mb q4 q6 q9 D1 : Nat) (v0 : Value) (l0 : List Bs) (l : List (List (List UInt8))) (b : Nat) (va : Option Addr) (vc : Nat) (vl : List Bs) (s : Sl) (W : World) : Prop where
  d : RgD w w0 p dp mb v0 l0 (l ++ List.replicate s.i [[1]]) (b + 2 * s.i) (Yk q4 q6 q9 D1 w0.heap.size va ++ pbk s) W
  x : Bxs p q4 q6 q9 D1 va vc vl s.i W
  le : s.i ≤ l0.length
  pe : ∀ xv out, s.pend = some (xv, out) → s.go = true ∧ (∃ y, l0[s.i]? = some y ∧ y.bs = out) ∧ Row W xv out ∧ ∀ k ∈ own xv, k ∉ Yk q4 q6 q9 D1 w0.heap.size va ∧ w.heap.size ≤ k
theorem RkI.start (hd : RgD w w0 p dp mb (.slice a0 l0.length c0) l0 l b (q4 :: q6 :: q9 :: D1 :: blk va) w0) (hx : Bxs p q4 q6 q9 D1 va vc vl 0 w0) (o1 o2 : Obj) : RkI w w0 p dp mb q4 q6 q9 D1 (.slice a0 l0.length c0) l0 l b va vc vl ⟨false, 0, none⟩ ((w0.alloc o1).alloc o2) := by
  have k : Kp [] w0 ((w0.alloc o1).alloc o2) := ((Kp.refl _ _).alloc _).alloc _
  refine ⟨?_, hx.kept k (by simp) (by simp) (by simp) (by simp) (by simp), Nat.zero_le _, fun xv out h => by cases h⟩
  simp only [List.replicate_zero, List.append_nil, Nat.mul_zero, Nat.add_zero, pbk]
  refine hd.keep k (by simp) (fun j hj => ?_)
  have hz : ((w0.alloc o1).alloc o2).heap.size = w0.heap.size + 2 := by simp
  unfold Yk at hj
  simp only [List.mem_cons] at hj
  rcases hj with rfl | rfl | rfl | rfl | rfl | rfl | hj
  · exact ⟨.inl (by simp), by have := hd.lt j (by simp); omega⟩
  · exact ⟨.inl (by simp), by have := hd.lt j (by simp); omega⟩
  · exact ⟨.inl (by simp), by have := hd.lt j (by simp); omega⟩
  · exact ⟨.inr (Nat.le_refl _), by omega⟩
  · exact ⟨.inr (by omega), by omega⟩
  · exact ⟨.inl (by simp), by have := hd.lt j (by simp); omega⟩
  · exact ⟨.inl (by simp [hj]), by have := hd.lt j (by simp [hj]); omega⟩
theorem RkI.put {s : Sl} {W : World} (hq : Qs w q4 q6 q9 D1 w0.heap.size va) (h : RkI w w0 p dp mb q4 q6 q9 D1 (.slice a0 l0.length c0) l0 l b va vc vl s W) (o' : Obj) : RkI w w0 p dp mb q4 q6 q9 D1 (.slice a0 l0.length c0) l0 l b va vc vl s (W.putObj (w0.heap.size + 1) o') := by
  have k : Kp [w0.heap.size + 1] W (W.putObj (w0.heap.size + 1) o') := ⟨rfl, rfl, rfl, by simp, fun k hk hn => World.putObj_heap_other (by simpa using hn)⟩
  have hD : w0.heap.size + 1 ∈ Yk q4 q6 q9 D1 w0.heap.size va := by simp [Yk]
  have h4 := hq.l4
  have h6 := hq.l6
  have h9 := hq.l9
  refine ⟨h.d.keep k (fun j hj => ?_) (fun j hj => ⟨.inl hj, by have := h.d.lt j hj; have := k.size; omega⟩), h.x.kept k (by simp; omega) (by simp; omega) (by simp; omega) (fun j hj hm => by have := hq.lv j hj; simp at hm; omega) (by have := hq.l1; simp; omega), h.le, fun xv out hp => ⟨(h.pe xv out hp).1, (h.pe xv out hp).2.1, (h.pe xv out hp).2.2.1.kept k (fun j hj hm => ?_), (h.pe xv out hp).2.2.2⟩⟩
  · simp at hj; subst hj; exact ⟨List.mem_append_left _ hD, by omega⟩
  · simp at hm; subst hm; exact ((h.pe xv out hp).2.2.2 _ hj).1 hD
theorem RkI.step {s s' : Sl} {A B : World} (hq : Qs w q4 q6 q9 D1 w0.heap.size va) (h : RkI w w0 p dp mb q4 q6 q9 D1 (.slice a0 l0.length c0) l0 l b va vc vl s A) (ht : StepL l0 s s' A B) : RkI w w0 p dp mb q4 q6 q9 D1 (.slice a0 l0.length c0) l0 l b va vc vl s' B := by
  have k := ht.kp
  have hz := k.size
  have hw := h.d.kp.size
  rcases ht.how with ⟨_, rfl⟩ | ⟨hgo, _, v', y, hy, rfl, hrow, hown⟩
  · exact ⟨h.d.keep k (by simp) (fun j hj => ⟨.inl (by simp only [pbk, List.append_nil] at hj; exact List.mem_append_left _ hj), by simp only [pbk, List.append_nil] at hj; have := h.d.lt j (List.mem_append_left _ hj); omega⟩), h.x.kept k (by simp) (by simp) (by simp) (by simp) (by simp), h.le, fun xv out hp => by cases hp⟩
  · refine ⟨h.d.keep k (by simp) (fun j hj => ?_), h.x.kept k (by simp) (by simp) (by simp) (by simp) (by simp), h.le, fun xv out hp => ?_⟩
    · rcases List.mem_append.1 hj with e | e
      · exact ⟨.inl (List.mem_append_left _ e), by have := h.d.lt j (List.mem_append_left _ e); omega⟩
      · exact ⟨.inr (hown j e), hrow.lt j e⟩
    · cases hp
      refine ⟨rfl, ⟨y, hy, rfl⟩, hrow, fun k hk => ⟨fun hm => ?_, by have := hown k hk; omega⟩⟩
      have h1 := h.d.lt k (List.mem_append_left _ hm)
      have h2 := hown k hk
      omega
theorem RkI.round {s : Sl} {W : World} (h : RkI w w0 p dp mb q4 q6 q9 D1 (.slice a0 l0.length c0) l0 l b va vc vl s W) {xv : Value} {out : List UInt8} (hp : s.pend = some (xv, out)) : RkB w w0 p dp mb q4 q6 q9 D1 (.slice a0 l0.length c0) l0 (l ++ List.replicate s.i [[1]]) (b + 2 * s.i) va vc vl s.i xv out W := by
  have hpe := h.pe xv out hp
  refine ⟨?_, h.x, hpe.2.2.1, hpe.2.2.2⟩
  have := h.d
  unfold pbk at this
  rw [hp] at this
  exact this
theorem RkI.next {s : Sl} {W : World} (hd : RgD w w0 p dp mb (.slice a0 l0.length c0) l0 ((l ++ List.replicate s.i [[1]]) ++ [[[1]]]) (b + 2 * s.i + 2) (Yk q4 q6 q9 D1 w0.heap.size va) W) (hx : Bxs p q4 q6 q9 D1 va vc vl (s.i + 1) W) (hle : s.i < l0.length) (x : Nat × Value × List UInt8) : RkI w w0 p dp mb q4 q6 q9 D1 (.slice a0 l0.length c0) l0 l b va vc vl (s.nx x) W := by
  refine ⟨?_, hx, hle, fun xv out h => by cases h⟩
  have e : l ++ List.replicate (s.i + 1) [[1]] = (l ++ List.replicate s.i [[1]]) ++ [[[1]]] := by rw [List.replicate_succ', List.append_assoc]
  show RgD w w0 p dp mb _ l0 (l ++ List.replicate (s.i + 1) [[1]]) (b + 2 * (s.i + 1)) (Yk q4 q6 q9 D1 w0.heap.size va ++ []) W
  rw [e, List.append_nil, show b + 2 * (s.i + 1) = b + 2 * s.i + 2 by omega]
  exact hd
end
end Go.Proofs.YtfpmolajpmljmaaDoor
end

section
namespace Go.Proofs.YtfpmolajpmljmaaDoor
open Go.RowKit Go.Hay
set_option linter.unusedVariables false
set_option linter.unusedSimpArgs false

/-- A disk with one file that tells M, all of it lasting. -/
def Fnd (w : World) (X : List Nat) (p mb : Nat) (M : List (List UInt8)) (b : Nat) (t : Option Nat) (dd : Bool) (W : World) : Prop :=
  ∃ (xs : List Ent) (s : Nat) (y : List UInt8), Disk W p mb xs (oneX 1125899906842624 s nmL y y.length t dd) ∧ Tells y M ∧ y.length ≤ 300000000 ∧ s ≤ b ∧ (∀ k ∈ foot p mb xs, w.heap.size ≤ k ∧ k ∉ X) ∧ (∀ k ∈ X, k < W.heap.size) ∧ Kp [] w W
theorem Fnd.kp {w W : World} {X : List Nat} {p mb : Nat} {M : List (List UInt8)} {b : Nat} {t : Option Nat} {dd : Bool} (h : Fnd w X p mb M b t dd W) : Kp [] w W := by
  obtain ⟨xs, s, y, h1, h2, h3, h4, h5, h6, h7⟩ := h
  exact h7
theorem Fnd.dead {w W : World} {X : List Nat} {p mb : Nat} {M : List (List UInt8)} {b : Nat} {t : Option Nat} {dd : Bool} (h : Fnd w X p mb M b t dd W) : Calls Tryd.prog 17 #[.pointer (some ⟨p, 0, none⟩)] W fun e w' => e = .returned (.bool dd) ∧ w' = W := by
  obtain ⟨xs, s, y, h1, h2, h3, h4, h5, h6, h7⟩ := h
  exact cDead h1
theorem fnd_of {w W W' : World} {X : List Nat} {ks : List Int} {p mb : Nat} {xs : List Ent} {M : List (List UInt8)} {y : List UInt8} (hD : Disk W' p mb xs (oneX 1125899906842624 0 nmL y y.length none false)) (hT : Tells y M) (hy : y.length ≤ 300000000) (k : Kp [] W W') (hf : ∀ j ∈ foot p mb xs, W.heap.size ≤ j) (hw : Kp [] w W) (hX : ∀ k ∈ X, k < W.heap.size) : Fnd w X p mb M 0 none false W' := by
  have hz := hw.size
  have hz' := k.size
  exact ⟨xs, 0, y, hD, hT, hy, Nat.le_refl _, fun j hj => ⟨by have := hf j hj; omega, fun hx => by have := hf j hj; have := hX j hx; omega⟩, fun j hj => by have := hX j hj; omega, hw.trans k (by simp)⟩
/-- What a crash finds of the log. -/
theorem CrX.crash {w W : World} {p dp mb : Nat} {l : List (List (List UInt8))} {F : List UInt8} {b : Nat} {dd : Bool} {X : List Nat} (h : CrX w p dp mb l F b dd X W) (hl : (allB l).length ≤ 100000000) (hFl : F.length ≤ 100000000) (ho : ∀ R ∈ l, (recB R).length ≤ 16777216) (R : List (List UInt8)) (hF : F = [] ∨ F = frB R ∧ (recB R).length ≤ 16777216)
    (ka : Option Addr) (kc : Nat) (ks : List Int) (hks : Ints W ka ks) (hkl : ks.length ≤ kc) (hkc : kc ≤ 9223372036854775807) (hk64 : ∀ k ∈ ks, -9223372036854775808 ≤ k ∧ k < 9223372036854775808) :
    Calls Tryd.prog 19 #[.pointer (some ⟨dp, 0, none⟩), .slice ka ks.length kc] W fun e W' => ∃ p' mb' M, e = .returned (.pointer (some ⟨p', 0, none⟩)) ∧ (M = l.flatten ∨ F ≠ [] ∧ M = l.flatten ++ R) ∧ Fnd w X p' mb' M 0 none false W' ∧ Kp [] W W' := by
  obtain ⟨xs, s, t, B, v, h1, h2, h3⟩ := h
  have hxl : xs.length = 1 := by
    have := congrArg List.length h2.disk.fl
    simpa [oneX] using this.symm
  obtain ⟨m, hm⟩ := crash_X 1125899906842624 s nmL (allB l) F (some t) dd ks
  have hC := cCrash h2.disk (small_X (by rw [List.length_append]; omega)) (by omega) ka kc ks hks hkl hkc hk64
  rw [hm] at hC
  refine hC.mono ?_
  rintro e W' ⟨p', mb', xs', rfl, hD', k', hf'⟩
  have hyl : (allB l ++ F.take m).length ≤ 300000000 := by rw [List.length_append, List.length_take]; omega
  rcases hF with rfl | ⟨rfl, hR⟩
  · have e0 : allB l ++ ([] : List UInt8).take m = allB l := by simp
    have hT := tells_all l ho
    rw [e0] at hD' hyl
    exact ⟨p', mb', _, rfl, .inl rfl, fnd_of (ks := ks) hD' hT hyl k' hf' h2.kp (fun k hk => (h3 k hk).2), k'⟩
  · have hne : frB R ≠ [] := fun e => by have := frB_pos R; rw [e] at this; simp at this
    rcases tells_torn l R ho hR m with hT | hT
    · exact ⟨p', mb', _, rfl, .inl rfl, fnd_of (ks := ks) hD' hT hyl k' hf' h2.kp (fun k hk => (h3 k hk).2), k'⟩
    · exact ⟨p', mb', _, rfl, .inr ⟨hne, rfl⟩, fnd_of (ks := ks) hD' hT hyl k' hf' h2.kp (fun k hk => (h3 k hk).2), k'⟩
/-- A crash of what was found. -/
theorem Fnd.crash {w W : World} {X : List Nat} {p mb : Nat} {M : List (List UInt8)} {b : Nat} {t : Option Nat} {dd : Bool} (h : Fnd w X p mb M b t dd W)
    (ka : Option Addr) (kc : Nat) (ks : List Int) (hks : Ints W ka ks) (hkl : ks.length ≤ kc) (hkc : kc ≤ 9223372036854775807) (hk64 : ∀ k ∈ ks, -9223372036854775808 ≤ k ∧ k < 9223372036854775808) :
    Calls Tryd.prog 19 #[.pointer (some ⟨p, 0, none⟩), .slice ka ks.length kc] W fun e W' => ∃ p' mb', e = .returned (.pointer (some ⟨p', 0, none⟩)) ∧ Fnd w X p' mb' M 0 none false W' ∧ Kp [] W W' := by
  obtain ⟨xs, s, y, h1, h2, h3, h4, h5, h6, h7⟩ := h
  have hxl : xs.length = 1 := by
    have := congrArg List.length h1.fl
    simpa [oneX] using this.symm
  obtain ⟨m, hm⟩ := crash_X 1125899906842624 s nmL y [] t dd ks
  have hC := cCrash h1 (small_X (by omega)) (by omega) ka kc ks hks hkl hkc hk64
  have e0 : y ++ ([] : List UInt8).take m = y := by simp
  rw [List.append_nil, e0] at hm
  rw [hm] at hC
  refine hC.mono ?_
  rintro e W' ⟨p', mb', xs', rfl, hD', k', hf'⟩
  exact ⟨p', mb', rfl, fnd_of (ks := ks) hD' h2 h3 k' hf' h7 h6, k'⟩
/-- Arm of what was found. -/
theorem Fnd.arm {w W : World} {X : List Nat} {p mb : Nat} {M : List (List UInt8)} {b : Nat} {t : Option Nat} (h : Fnd w X p mb M b t false W) (n : Nat) (hn : (n : Int) < 9223372036854775808) :
    Calls Tryd.prog 16 #[.pointer (some ⟨p, 0, none⟩), .int .i64 n] W fun e W' => e = .returned (.tuple #[]) ∧ Fnd w X p mb M b (some n) false W' ∧ ∃ S, Kp S W W' ∧ ∀ k ∈ S, k ∉ X ∧ w.heap.size ≤ k := by
  obtain ⟨xs, s, y, h1, h2, h3, h4, h5, h6, h7⟩ := h
  have hA := cArm h1 n hn
  have ea : armD (oneX 1125899906842624 s nmL y y.length t false) n = oneX 1125899906842624 s nmL y y.length (some n) false := by simp [armD, oneX]
  rw [ea] at hA
  refine hA.mono ?_
  rintro e W' ⟨rfl, hD, k⟩
  have hz := k.size
  have hp : p ∈ foot p mb xs := by simp [foot]
  exact ⟨rfl, ⟨xs, s, y, hD, h2, h3, h4, h5, fun j hj => by have := h6 j hj; omega, h7.trans k (fun j hj => .inr (by simp at hj; subst hj; exact (h5 _ hp).1))⟩, [p], k, fun j hj => by simp at hj; subst hj; exact ⟨(h5 _ hp).2, (h5 _ hp).1⟩⟩
/-- Open of what was found: opened, or dead. -/
theorem Fnd.open {w W : World} {X : List Nat} {p mb : Nat} {M : List (List UInt8)} {b : Nat} {t : Option Nat} (h : Fnd w X p mb M b t false W) (hb : b ≤ 100000000) (hM : M.length ≤ 100000000) (hMx : ∀ x ∈ M, x.length ≤ 100000000) (hTb : Tab w) :
    Calls Tryd.prog 20 #[.pointer (some ⟨p, 0, none⟩), .string ⟨nmL.toArray⟩] W fun e W' => (∃ S, Kp S W W' ∧ ∀ k ∈ S, k ∉ X ∧ w.heap.size ≤ k) ∧ Kp [] w W' ∧
      ((∃ p4, e = .returned (.tuple #[.pointer (some ⟨p4, 0, none⟩), .int .i64 0]) ∧ (Calls Tryd.prog 17 #[.pointer (some ⟨p, 0, none⟩)] W' fun e w' => e = .returned (.bool false) ∧ w' = W') ∧ ∀ W2, Kp [] W' W2 → Calls Tryd.prog 21 #[.pointer (some ⟨p4, 0, none⟩)] W2 (SeenQ M W2)) ∨
       (t ≠ none ∧ e = .returned (.tuple #[.pointer none, .int .i64 44]) ∧ ∃ t', Fnd w X p mb M (b + 2) t' true W')) := by
  obtain ⟨xs, s, y, h1, h2, h3, h4, h5, h6, h7⟩ := h
  have hO := cOpen h1 (by simp only [oneX]; omega) (small_X (by omega)) nmL (by unfold maxLen; simp [nmL]) (hTb.kept h7 (by simp)) (by rw [file_X]; simp only; omega)
  rw [file_X] at hO
  dsimp only at hO
  rw [h2.m] at hO
  refine hO.mono ?_
  rintro e W' ⟨v0, xs', he, hD', m, hn, hy⟩
  have hz := m.kp.size
  have hzw := h7.size
  have kw : Kp [] w W' := h7.trans m.kp (fun j hj => .inr (h5 j hj).1)
  refine ⟨⟨_, m.kp, fun k hk => ⟨(h5 k hk).2, (h5 k hk).1⟩⟩, kw, ?_⟩
  rcases open_X 1125899906842624 s nmL y t h2 with ⟨s', t', y', k', hs', eO, hle⟩ | ⟨s', t', y', hnt, hs', eO, hT', hle⟩
  · rw [eO] at he hD' hy
    obtain ⟨p4, v, B, rfl, hl, hp, hbb, hsp⟩ := hy rfl
    exact .inl ⟨p4, he, cDead hD', fun W2 k2 => cSeen (hl.kept k2 (by simp) (by simp)) hM hMx⟩
  · rw [eO] at he hD' hn
    have ev := hn (by simp)
    subst ev
    refine .inr ⟨hnt, he, t', xs', s', y', hD', hT', by omega, by omega, fun k hk => ?_, fun k hk => by have := h6 k hk; omega, kw⟩
    rcases m.new k hk with e1 | e1
    · exact h5 k e1
    · exact ⟨by omega, fun hx => by have := h6 k hx; omega⟩
end Go.Proofs.YtfpmolajpmljmaaDoor
end

section
namespace Go.Proofs.YtfpmolajpmljmaaDoor
open Go.RowKit Go.Hay
set_option linter.unusedVariables false
set_option linter.unusedSimpArgs false

theorem fl_flat_le : ∀ l : List (List (List UInt8)), (fl l).flatten.length ≤ l.flatten.length
  | [] => by simp [fl]
  | R :: l => by
    have ih := fl_flat_le l
    have e : fl (R :: l) = if okR R = true then R :: fl l else fl l := by simp [fl, List.filter_cons]
    rw [e]
    split <;> simp only [List.flatten_cons, List.length_append] <;> omega
theorem take_flat_le : ∀ (l : List (List (List UInt8))) (k : Nat), (l.take k).flatten.length ≤ l.flatten.length
  | [], k => by simp
  | R :: l, 0 => by simp
  | R :: l, k + 1 => by
    have ih := take_flat_le l k
    simp only [List.take_succ_cons, List.flatten_cons, List.length_append]
    omega
theorem fl_mem {l : List (List (List UInt8))} {x : List UInt8} (h : x ∈ (fl l).flatten) : x ∈ l.flatten := by
  obtain ⟨S, h1, h2⟩ := List.mem_flatten.1 h
  exact List.mem_flatten.2 ⟨S, (List.mem_filter.1 h1).1, h2⟩
theorem take_mem {l : List (List (List UInt8))} {k : Nat} {x : List UInt8} (h : x ∈ (l.take k).flatten) : x ∈ l.flatten := by
  obtain ⟨S, h1, h2⟩ := List.mem_flatten.1 h
  exact List.mem_flatten.2 ⟨S, List.mem_of_mem_take h1, h2⟩
/-- What is not sure to last: nothing, or the frame of one of the lists. -/
structure CrL (L : List Ls) (j : Nat) (l : List (List (List UInt8))) (F : List UInt8) (dd : Bool) (R : List (List UInt8)) : Prop where
  lk : ∃ k, k ≤ j ∧ l = fl ((RsL L).take k) ∧ (dd = false → k = j)
  al : dd = false → F = []
  de : dd = true → F = frB R ∧ okR R = true ∧ ∃ x ∈ L, R = bsl x.l
theorem CrL.bounds {L : List Ls} {j : Nat} {l : List (List (List UInt8))} {F : List UInt8} {dd : Bool} {R : List (List UInt8)} (h : CrL L j l F dd R) (hL : L.length ≤ 1048576) (hbk : (L.map bulkL).sum ≤ 1048576) :
    (allB l).length ≤ 50000000 ∧ l.flatten.length ≤ 1048576 ∧ (∀ S ∈ l, (recB S).length ≤ 16777216) ∧ (∀ x ∈ l.flatten, x.length ≤ 1048576) ∧ F.length ≤ 50000000 ∧ (dd = true → (recB R).length ≤ 16777216 ∧ R.length ≤ 1048576 ∧ ∀ x ∈ R, x.length ≤ 1048576) := by
  obtain ⟨k, hk, rfl, _⟩ := h.lk
  have hst := sum_take_le L k
  have h1 : (allB (fl ((RsL L).take k))).length ≤ 50000000 := by
    rw [RsL_takeL]
    have h1 := fl_len (L.take k)
    have h3 : (L.take k).length ≤ L.length := by rw [List.length_take]; omega
    show (allB (fl (RsL (L.take k)))).length ≤ _
    unfold RsL
    omega
  have h2 : (fl ((RsL L).take k)).flatten.length ≤ 1048576 := by
    have a1 := fl_flat_le ((RsL L).take k)
    have a2 := take_flat_le (RsL L) k
    have a3 := flat_len L
    omega
  refine ⟨h1, h2, fun S hS => fl_ok hS, fun x hx => ?_, ?_, fun hd => ?_⟩
  · have := flat_mem L x (take_mem (fl_mem hx)); omega
  · cases dd with
    | false => rw [h.al rfl]; simp
    | true =>
      obtain ⟨e, _, x, hx, rfl⟩ := h.de rfl
      rw [e]
      have a1 := frB_len x
      have a2 := bulk_mem hx
      omega
  · obtain ⟨e, ho, x, hx, rfl⟩ := h.de hd
    unfold okR at ho
    simp at ho
    have hm : bsl x.l ∈ RsL L := List.mem_map.2 ⟨x, hx, rfl⟩
    have a2 := bulk_mem hx
    have a3 := sumB_bulk x.l
    have a4 : bulkL x = (x.l.map fun y => y.bs.length + 1).sum := rfl
    refine ⟨ho.2, by rw [bsl_len]; omega, fun y hy => ?_⟩
    have := flat_mem L y (List.mem_flatten.2 ⟨_, hm, hy⟩)
    omega
/-- Where the rounds stand: have, more, the log. -/
structure CrI (w : World) (p dp mb : Nat) (L : List Ls) (j : Nat) (l : List (List (List UInt8))) (F : List UInt8) (dd : Bool) (R : List (List UInt8)) (ha : Option Addr) (hl : List Bs) (ma : Option Addr) (ml : List Bs) (W : World) : Prop where
  x : CrX w p dp mb l F (2 + 2 * j) dd (blk ha ++ blk ma) W
  h : BsE.See W ha hl
  m : BsE.See W ma ml
  ho : ∀ y ∈ hl, y.ok w
  mo : ∀ y ∈ ml, y.ok w
  hb : bsl hl = l.flatten
  ll : CrL L j l F dd R
  mb : dd = true → bsl ml = l.flatten ++ R
  ml : ml.length ≤ 3000000
theorem CrX.kp {w W : World} {p dp mb : Nat} {l : List (List (List UInt8))} {F : List UInt8} {b : Nat} {dd : Bool} {X : List Nat} (h : CrX w p dp mb l F b dd X W) : Kp [] w W := by
  obtain ⟨xs, s, t, B, v, h1, h2, h3⟩ := h
  exact h2.kp
theorem CrX.dead {w W : World} {p dp mb : Nat} {l : List (List (List UInt8))} {F : List UInt8} {b : Nat} {dd : Bool} {X : List Nat} (h : CrX w p dp mb l F b dd X W) : Calls Tryd.prog 17 #[.pointer (some ⟨dp, 0, none⟩)] W fun e w' => e = .returned (.bool dd) ∧ w' = W := by
  obtain ⟨xs, s, t, B, v, h1, h2, h3⟩ := h
  exact cDead h2.disk
/-- More is made: what there is, and the next list. -/
theorem CrI.more {w W : World} {p dp mb : Nat} {L : List Ls} {j : Nat} {l : List (List (List UInt8))} {F : List UInt8} {R : List (List UInt8)} {ha : Option Addr} {hl : List Bs} {ma : Option Addr} {ml : List Bs} (hI : CrI w p dp mb L j l F false R ha hl ma ml W) (hc : Nat) (hll : hl.length ≤ 1048576)
    (ya : Option Addr) (yc : Nat) (yl : List Bs) (hy : ∀ W', Kp [] w W' → BsE.See W' ya yl) (hyo : ∀ y ∈ yl, y.ok w) (hyl : yl.length ≤ 1048576) :
    ∃ a1 c1 W1, (Builtin.append_ #[23, 23] 23 #[.slice none 0 0, .slice ha hl.length hc]).run Tryd.prog W = .ok (.slice a1 hl.length c1) W1 ∧
      ∃ a2 c2 W2, (Builtin.append_ #[23, 23] 23 #[.slice a1 hl.length c1, .slice ya yl.length yc]).run Tryd.prog W1 = .ok (.slice a2 (hl ++ yl).length c2) W2 ∧
        CrX w p dp mb l [] (2 + 2 * j) false (blk ha ++ blk a2) W2 ∧ BsE.See W2 ha hl ∧ BsE.See W2 a2 (hl ++ yl) := by
  have hF := hI.ll.al rfl
  subst hF
  obtain ⟨a1, c1, W1, r1, w1, k1, n1⟩ := appBs (W := W) (a := none) (c := 0) (l := []) (.inl ⟨rfl, rfl⟩) ha hc hl hI.h (by simp; omega)
  rw [List.nil_append] at r1 w1 n1
  have k1' : Kp [] W W1 := by simpa [ownQ, blk] using k1
  have n1' : ∀ k ∈ blk a1, W.heap.size ≤ k := fun k hk => by
    rcases n1 k (by rw [ownQ]; exact hk) with e | e
    · simp [ownQ, blk] at e
    · exact e
  have kw1 := hI.x.kp.trans k1' (by simp)
  obtain ⟨a2, c2, W2, r2, w2, k2, n2⟩ := appBs w1 ya yc yl (hy W1 kw1) (by omega)
  rw [ownQ] at k2
  have k12 : Kp [] W W2 := k1'.trans k2 (fun k hk => .inr (n1' k hk))
  obtain ⟨_, _, e2, s2, _⟩ := w2.see
  cases e2
  have hz := k12.size
  have hz1 := k1'.size
  refine ⟨a1, c1, W1, r1, a2, c2, W2, r2, hI.x.keep k12 (by simp) (fun k hk => ?_), hI.h.keptNew k12, s2⟩
  rcases List.mem_append.1 hk with h | h
  · refine ⟨.inl (List.mem_append_left _ h), ?_⟩
    obtain ⟨xs, s, t, B, v, h1, h2, h3⟩ := hI.x
    have := (h3 k (List.mem_append_left _ h)).2
    omega
  · refine ⟨.inr ?_, w2.lt k (by rw [ownQ]; exact h)⟩
    rcases n2 k (by rw [ownQ]; exact h) with e | e
    · rw [ownQ] at e; exact n1' k e
    · omega
/-- What a round leaves. -/
theorem CrI.next {w W W' : World} {p dp mb : Nat} {L : List Ls} {j : Nat} (hj : j < L.length) {l : List (List (List UInt8))} {R : List (List UInt8)} {ha : Option Addr} {hl : List Bs} {a2 : Option Addr} {yl : List Bs} (hL : L[j].l = yl) (hlk : CrL L j l [] false R)
    (hs : BsE.See W ha hl) (ms : BsE.See W a2 (hl ++ yl)) (ho : ∀ y ∈ hl, y.ok w) (hyo : ∀ y ∈ yl, y.ok w) (hb : bsl hl = l.flatten) (hll : hl.length ≤ 1048576) (hyl : yl.length ≤ 1048576)
    {z : Int} (hA : CrA w p dp mb l (2 + 2 * j) (blk ha ++ blk a2) (bsl yl) W W' z) {S : List Nat} (k : Kp S W W') (hS : ∀ k ∈ S, k ∉ blk ha ++ blk a2 ∧ w.heap.size ≤ k) :
    (z = 0 ∧ ∃ l', CrI w p dp mb L (j + 1) l' [] false [] a2 (hl ++ yl) a2 (hl ++ yl) W') ∨ (z = 90 ∧ CrI w p dp mb L (j + 1) l [] false [] ha hl ha hl W') ∨ (z = 44 ∧ CrI w p dp mb L (j + 1) l (frB (bsl yl)) true (bsl yl) ha hl a2 (hl ++ yl) W') := by
  obtain ⟨q, hq, e, hqj⟩ := hlk.lk
  have hqj := hqj rfl
  subst hqj
  have hsn := RsL_take hj
  rw [hL] at hsn
  have hfs := fl_snoc ((RsL L).take q) (bsl yl)
  rw [← hsn, ← e] at hfs
  have hS1 : BsE.See W' ha hl := hs.kept k (fun _ j hj hm => (hS j hm).1 (List.mem_append_left _ hj))
  have hS2 : BsE.See W' a2 (hl ++ yl) := ms.kept k (fun _ j hj hm => (hS j hm).1 (List.mem_append_right _ hj))
  have hmo : ∀ y ∈ hl ++ yl, y.ok w := fun y hy => by
    rcases List.mem_append.1 hy with h | h
    · exact ho y h
    · exact hyo y h
  have hbm : bsl (hl ++ yl) = l.flatten ++ bsl yl := by rw [← hb]; simp [bsl]
  have hml : (hl ++ yl).length ≤ 3000000 := by rw [List.length_append]; omega
  have hx0 : L[q] ∈ L := List.getElem_mem hj
  cases hA with
  | done h1 h2 =>
    refine .inl ⟨rfl, _, h2.keep (Kp.refl [] _) (by simp) (fun j hj => ?_), hS2, hS2, hmo, hmo, ?_, ⟨⟨q + 1, Nat.le_refl _, hfs.symm, fun _ => rfl⟩, fun _ => rfl, fun h => by cases h⟩, (fun h => by cases h), hml⟩
    · have hj' : j ∈ blk ha ++ blk a2 := by
        rcases List.mem_append.1 hj with h | h <;> exact List.mem_append_right _ h
      obtain ⟨xs, s, t, B, v, g1, g2, g3⟩ := h2
      exact ⟨.inl hj', (g3 j hj').2⟩
    · rw [hbm]
      split
      · simp
      · rename_i hno
        rcases h1 with h | h
        · rw [h]; simp
        · exact absurd h hno
  | no h0 h2 =>
    rw [if_neg (by simp [h0])] at hfs
    refine .inr (.inl ⟨rfl, h2.keep (Kp.refl [] _) (by simp) (fun j hj => ?_), hS1, hS1, ho, ho, hb, ⟨⟨q + 1, Nat.le_refl _, hfs.symm, fun _ => rfl⟩, fun _ => rfl, fun h => by cases h⟩, (fun h => by cases h), by omega⟩)
    have hj' : j ∈ blk ha ++ blk a2 := by
      rcases List.mem_append.1 hj with h | h <;> exact List.mem_append_left _ h
    obtain ⟨xs, s, t, B, v, g1, g2, g3⟩ := h2
    exact ⟨.inl hj', (g3 j hj').2⟩
  | died h0 h2 =>
    exact .inr (.inr ⟨rfl, h2, hS1, hS2, ho, hmo, hb, ⟨⟨q, by omega, e, fun h => by cases h⟩, fun h => (by cases h), fun _ => ⟨rfl, h0, _, hx0, by rw [hL]⟩⟩, fun _ => hbm, hml⟩)
/-- What was found tells what there was, or more. -/
structure CrE (w : World) (M : List (List UInt8)) (ha : Option Addr) (hl : List Bs) (ma : Option Addr) (ml : List Bs) (W : World) : Prop where
  h : BsE.See W ha hl
  m : BsE.See W ma ml
  ho : ∀ y ∈ hl, y.ok w
  mo : ∀ y ∈ ml, y.ok w
  o : M = bsl hl ∨ M = bsl ml
  kp : Kp [] w W
  n : M.length ≤ 100000000
  x : ∀ y ∈ M, y.length ≤ 100000000
  hn : hl.length ≤ 100000000
  mn : ml.length ≤ 100000000
theorem CrE.keep {w W W' : World} {M : List (List UInt8)} {ha : Option Addr} {hl : List Bs} {ma : Option Addr} {ml : List Bs} (h : CrE w M ha hl ma ml W) {S : List Nat} (k : Kp S W W') (hS : ∀ k ∈ S, k ∉ blk ha ++ blk ma ∧ w.heap.size ≤ k) : CrE w M ha hl ma ml W' :=
  ⟨h.h.kept k (fun _ j hj hm => (hS j hm).1 (List.mem_append_left _ hj)), h.m.kept k (fun _ j hj hm => (hS j hm).1 (List.mem_append_right _ hj)), h.ho, h.mo, h.o, h.kp.trans k (fun j hj => .inr (hS j hj).2), h.n, h.x, h.hn, h.mn⟩
theorem CrI.crash {w W : World} {p dp mb : Nat} {L : List Ls} {j : Nat} {l : List (List (List UInt8))} {F : List UInt8} {dd : Bool} {R : List (List UInt8)} {ha : Option Addr} {hl : List Bs} {ma : Option Addr} {ml : List Bs} (hI : CrI w p dp mb L j l F dd R ha hl ma ml W) (hL : L.length ≤ 1048576) (hbk : (L.map bulkL).sum ≤ 1048576)
    (ka : Option Addr) (kc : Nat) (ks : List Int) (hks : Ints W ka ks) (hkl : ks.length ≤ kc) (hkc : kc ≤ 9223372036854775807) (hk64 : ∀ k ∈ ks, -9223372036854775808 ≤ k ∧ k < 9223372036854775808) :
    Calls Tryd.prog 19 #[.pointer (some ⟨dp, 0, none⟩), .slice ka ks.length kc] W fun e W' => ∃ p' mb' M, e = .returned (.pointer (some ⟨p', 0, none⟩)) ∧ CrE w M ha hl ma ml W' ∧ Fnd w (blk ha ++ blk ma) p' mb' M 0 none false W' := by
  obtain ⟨b1, b2, b3, b4, b5, b6⟩ := hI.ll.bounds hL hbk
  have hhl : hl.length ≤ 1048576 := by rw [← bsl_len, hI.hb]; exact b2
  have hF : F = [] ∨ F = frB R ∧ (recB R).length ≤ 16777216 := by
    cases dd with
    | false => exact .inl (hI.ll.al rfl)
    | true => exact .inr ⟨(hI.ll.de rfl).1, (b6 rfl).1⟩
  refine (hI.x.crash (by omega) (by omega) b3 R hF ka kc ks hks hkl hkc hk64).mono ?_
  rintro e W' ⟨p', mb', M, rfl, hM, hf, k⟩
  refine ⟨p', mb', M, rfl, ?_, hf⟩
  rcases hM with rfl | ⟨hne, rfl⟩
  · exact ⟨hI.h.keptNew k, hI.m.keptNew k, hI.ho, hI.mo, .inl hI.hb.symm, hI.x.kp.trans k (by simp), by omega, fun y hy => by have := b4 y hy; omega, by omega, by have := hI.ml; omega⟩
  · have hd : dd = true := by
      cases dd with
      | false => exact absurd (hI.ll.al rfl) hne
      | true => rfl
    obtain ⟨c1, c2, c3⟩ := b6 hd
    refine ⟨hI.h.keptNew k, hI.m.keptNew k, hI.ho, hI.mo, .inr (hI.mb hd).symm, hI.x.kp.trans k (by simp), by rw [List.length_append]; omega, fun y hy => ?_, by omega, by have := hI.ml; omega⟩
    rcases List.mem_append.1 hy with h | h
    · have := b4 y h; omega
    · have := c3 y h; omega
end Go.Proofs.YtfpmolajpmljmaaDoor
end

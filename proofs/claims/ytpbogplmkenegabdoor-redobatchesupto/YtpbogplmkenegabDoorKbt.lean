/- Records appended together, or one by one: the same log; where what is given is of bulk at most 1048576. -/
import Derived.Test.YtpbogplmkenegabDoorB9
import Derived.SizedLaws
import Derived.JoinedCond
import Derived.Deep.CondSized
section
namespace Go.Proofs.YtpbogplmkenegabDoor
open Go.ChangeShapes Go.WideShapes Go.ChangeAt Go.RowKit Go.Hay
set_option linter.unusedVariables false
set_option linter.unusedSimpArgs false

/-- A frame of records. -/
def frB (R : List (List UInt8)) : List UInt8 := frameB (recB R)
theorem frB_pos (R : List (List UInt8)) : 12 ≤ (frB R).length := by unfold frB; rw [frameB_length]; omega
def allB (l : List (List (List UInt8))) : List UInt8 := l.flatMap frB
theorem allB_snoc (l : List (List (List UInt8))) (R : List (List UInt8)) : allB (l ++ [R]) = allB l ++ frB R := by simp [allB]
/-- The records of the frames that are whole in so many bytes; how many bytes these have. -/
def torn : List (List (List UInt8)) → Nat → List (List UInt8) × Nat
  | [], _ => ([], 0)
  | R :: l, c => if (frB R).length ≤ c then (R ++ (torn l (c - (frB R).length)).1, (frB R).length + (torn l (c - (frB R).length)).2) else ([], 0)
theorem torn_snoc : ∀ (l : List (List (List UInt8))) (R : List (List UInt8)) (c : Nat), torn (l ++ [R]) c = if (allB (l ++ [R])).length ≤ c then ((torn l c).1 ++ R, (allB (l ++ [R])).length) else torn l c
  | [], R, c => by
    simp only [List.nil_append, torn, allB, List.flatMap_cons, List.flatMap_nil, List.append_nil, List.nil_append, Nat.add_zero]
  | R0 :: l, R, c => by
    have ih := torn_snoc l R (c - (frB R0).length)
    have e : (allB (R0 :: (l ++ [R]))).length = (frB R0).length + (allB (l ++ [R])).length := by simp [allB]
    rw [List.cons_append, torn, torn, e]
    by_cases h : (frB R0).length ≤ c
    · rw [if_pos h, if_pos h, ih]
      by_cases h2 : (allB (l ++ [R])).length ≤ c - (frB R0).length
      · rw [if_pos h2, if_pos (by omega)]; simp [List.append_assoc]
      · rw [if_neg h2, if_neg (by omega)]
    · rw [if_neg h, if_neg h, if_neg (by omega)]
theorem rdQ_torn : ∀ (l : List (List (List UInt8))) (c : Nat), (∀ R ∈ l, (recB R).length ≤ 16777216) → rdQ ((allB l).take c) = ((torn l c).1, (torn l c).2, 0)
  | [], c, _ => by simp [allB, torn, rdQ_nil]
  | R :: l, c, h => by
    have hR := h R (by simp)
    have e : allB (R :: l) = frB R ++ allB l := by simp [allB]
    rw [torn, e]
    by_cases hc : (frB R).length ≤ c
    · rw [if_pos hc, List.take_append, List.take_of_length_le hc]
      unfold frB
      rw [rdQ_frame R hR, rdQ_torn l _ (fun x hx => h x (by simp [hx]))]
      simp [finQ, frB]
    · rw [if_neg hc, List.take_append, show c - (frB R).length = 0 by omega, List.take_zero, List.append_nil]
      have hu := unf_cut (recB R) hR c (by have := frameB_length (recB R); unfold frB at hc; omega)
      exact rdQ_short (by unfold frB; rw [hu])
/-- A slice of slices of bytes, and what it sees. -/
structure Ls where
  a : Option Addr
  c : Nat
  l : List Bs
instance : Inhabited Ls := ⟨⟨none, 0, []⟩⟩
structure Ls.ok (w : World) (x : Ls) : Prop where
  see : BsE.See w x.a x.l
  ok : ∀ y ∈ x.l, y.ok w
theorem Ls.ok.keptNew {w w' : World} {x : Ls} (h : x.ok w) (hk : Kp [] w w') : x.ok w' := ⟨h.see.keptNew hk, fun y hy => (h.ok y hy).keptNew hk⟩
def LsE : El Ls where
  n := 1
  c x := [.slice x.a x.l.length x.c]
  len _ := rfl
  one _ u hu := by simp at hu; subst hu; rfl
  pos := by decide
theorem lsAt {w : World} {a : Option Addr} {l : List Ls} (h : LsE.See w a l) {k : Nat} {x : Ls} (hx : l[k]? = some x) : ∃ g o, a = some ⟨g, o, none⟩ ∧ w.cell? ⟨g, o + k, none⟩ = some (.slice x.a x.l.length x.c) := by
  obtain ⟨g, o, e, hc⟩ := h.at hx
  refine ⟨g, o, e, ?_⟩
  have := hc 0 _ rfl
  simpa [LsE] using this
def bulkL (x : Ls) : Nat := (x.l.map fun y => y.bs.length + 1).sum
theorem cellsLs : Tryd.prog.cellsOf 30 = 1 := by kernel_rfl
theorem bytesLs : Tryd.prog.bytesOf 30 = 24 := by kernel_rfl
section
variable {H : Type} {enc : TypeId × Value → H} {W : World} {a : Option Addr} {len cap : Nat} {d : DataW H} {ps : List MemPlace}
theorem openBlls (h : DataW.Trod enc Tryd.prog W 0 (fun _ => true) true 22 (.slice a len cap) d ps) :
    ∃ l : List Ls, len = l.length ∧ LsE.See W a l ∧ (∀ y ∈ l, y.ok W) ∧ l.length ≤ cap ∧ cap ≤ maxLen ∧ (a = none → cap = 0) ∧ (Fit 22 d → cap * 24 ≤ 140737488351232 ∧ ∀ y ∈ l, True) ∧ (l.map bulkL).sum ≤ Rows.uptoBulk d ∧ cap + 1 ≤ Rows.uptoBulk d :=
  openEls LsE Tryd.underlying22 cellsLs 24 bytesLs (fun y => y.ok W) (fun _ => True) bulkL (fun fuel cs x hx hcs => by
    obtain ⟨v, rfl⟩ := one_of hcs
    have hv : ∃ a len cap, v = .slice a len cap := by
      rcases Go.Deep.open_slice Tryd.underlying30 hx with ⟨hcs, _⟩ | ⟨a, len, cap, _, _, _, _, hcs, _⟩
      · exact ⟨none, 0, 0, by simpa using hcs⟩
      · exact ⟨_, _, _, by simpa using hcs⟩
    obtain ⟨a, len, cap, rfl⟩ := hv
    have ht : DataW.Trod enc Tryd.prog W 0 (fun _ => true) true 30 (.slice a len cap) x.1 x.2 := ⟨fuel, hx⟩
    obtain ⟨l, rfl, hs, hok, hl, hm, hn, _, hbk, _⟩ := openBlists ht
    exact ⟨⟨a, cap, l⟩, ⟨hs, hok⟩, rfl, fun _ => trivial, hbk⟩) h
end
theorem sumB_bulk : ∀ l : List Bs, sumB (bsl l) + l.length = (l.map fun y => y.bs.length + 1).sum
  | [] => rfl
  | x :: l => by
    have := sumB_bulk l
    simp only [bsl, sumB, List.map_cons, List.sum_cons, List.length_cons] at this ⊢
    omega
theorem frB_len (x : Ls) : (frB (bsl x.l)).length ≤ 21 * bulkL x + 21 := by
  have h1 := (recB_len (bsl x.l)).2
  have h2 := sumB_bulk x.l
  rw [bsl_len] at h1
  unfold frB bulkL
  rw [frameB_length, ← h2]
  omega
theorem allB_len : ∀ l : List Ls, (allB (l.map fun x => bsl x.l)).length ≤ 21 * (l.map bulkL).sum + 21 * l.length
  | [] => by simp [allB]
  | x :: l => by
    have h1 := frB_len x
    have h2 := allB_len l
    have e : allB ((x :: l).map fun x => bsl x.l) = frB (bsl x.l) ++ allB (l.map fun x => bsl x.l) := by simp [allB]
    rw [e, List.length_append]
    simp only [List.map_cons, List.sum_cons, List.length_cons] at h2 ⊢
    omega
end Go.Proofs.YtpbogplmkenegabDoor
end

section
namespace Go.Proofs.YtpbogplmkenegabDoor
open Go.RowKit Go.Hay
set_option linter.unusedVariables false
set_option linter.unusedSimpArgs false

theorem unf_turnedM (bs more : List UInt8) (h : bs.length ≤ 16777216) (i : Nat) (hi : i < (frameB bs).length) (y : UInt8) (hget : (frameB bs ++ more)[i]? ≠ some y) : unf ((frameB bs ++ more).set i y) = ([], 0, 14) := by
  have hl := frameB_length bs
  have key : ∀ (a b : List UInt8) (j : Nat) (z : UInt8), a.length = b.length → j < a.length → a[j]? ≠ some z → a.set j z = b → num a ≠ num b := by
    intro a b j z hab hj hne he hn
    have := num_inj a b hab hn
    subst this
    apply hne
    have h2 := congrArg (fun l => l[j]?) he
    simp only [List.getElem?_set_self hj] at h2
    exact h2.symm
  have fs := frame_split bs more
  rw [fs] at hget ⊢
  have hcL : num (be (crc (be bs.length 4)) 4) = crc (be bs.length 4) := num_be4 _ (crc_lt _)
  by_cases c1 : i < 4
  · rw [List.getElem?_append_left (by rw [be_length]; omega)] at hget
    rw [List.set_append_left _ _ (by rw [be_length]; omega), unf_parts _ _ _ (by rw [List.length_set, be_length]) (be_length _ _), if_pos]
    rw [hcL]
    refine set_split _ i (by rw [be_length]; omega) y (fun e => hget ?_)
    rw [← e, List.getElem?_eq_getElem]
  rw [List.getElem?_append_right (by rw [be_length]; omega)] at hget
  rw [List.set_append_right _ _ (by rw [be_length]; omega)]
  rw [be_length] at hget ⊢
  by_cases c2 : i - 4 < 4
  · rw [List.getElem?_append_left (by rw [be_length]; omega)] at hget
    rw [List.set_append_left _ _ (by rw [be_length]; omega), unf_parts _ _ _ (be_length _ _) (by rw [List.length_set, be_length]), if_pos]
    intro e
    exact key _ _ (i - 4) y (by rw [List.length_set]) (by rw [be_length]; omega) hget rfl (by rw [e, hcL])
  rw [List.getElem?_append_right (by rw [be_length]; omega)] at hget
  rw [List.set_append_right _ _ (by rw [be_length]; omega)]
  rw [be_length] at hget ⊢
  by_cases c3 : i - 4 - 4 < bs.length
  · rw [List.getElem?_append_left c3] at hget
    rw [List.set_append_left _ _ c3]
    have := unf_tail bs (be (crc bs) 4) more h (bs.set (i - 4 - 4) y) (by rw [List.length_set]) (be_length _ _)
    rw [this, if_pos]
    rw [num_be4 _ (crc_lt _)]
    refine set_split _ _ c3 y (fun e => hget ?_)
    rw [← e, List.getElem?_eq_getElem]
  · rw [List.getElem?_append_right (by omega)] at hget
    rw [List.getElem?_append_left (by rw [be_length]; omega)] at hget
    rw [List.set_append_right _ _ (by omega), List.set_append_left _ _ (by rw [be_length]; omega)]
    have := unf_tail bs ((be (crc bs) 4).set (i - 4 - 4 - bs.length) y) more h bs rfl (by rw [List.length_set, be_length])
    rw [this, if_pos]
    intro e
    exact key _ _ (i - 4 - 4 - bs.length) y (by rw [List.length_set]) (by rw [be_length]; omega) hget rfl (by rw [e, num_be4 _ (crc_lt _)])
theorem rdQ_turned : ∀ (l : List (List (List UInt8))) (i : Nat) (y : UInt8), (∀ R ∈ l, (recB R).length ≤ 16777216) → i < (allB l).length → (allB l)[i]? ≠ some y → rdQ ((allB l).set i y) = ([], 0, 91)
  | [], i, y, _, hi, _ => by simp [allB] at hi
  | R :: l, i, y, h, hi, hy => by
    have hR := h R (by simp)
    have e : allB (R :: l) = frB R ++ allB l := by simp [allB]
    rw [e] at hi hy ⊢
    by_cases hc : i < (frB R).length
    · have hu := unf_turnedM (recB R) (allB l) hR i hc y hy
      refine rdQ_bad (fun e => ?_) (by unfold frB; rw [hu]; decide) (by unfold frB; rw [hu]; decide)
      have := congrArg List.length e
      rw [List.length_set] at this
      simp only [List.length_nil] at this
      omega
    · rw [List.getElem?_append_right (by omega)] at hy
      rw [List.set_append_right _ _ (by omega)]
      rw [List.length_append] at hi
      have ih := rdQ_turned l (i - (frB R).length) y (fun x hx => h x (by simp [hx])) (by omega) hy
      unfold frB at ih ⊢
      rw [rdQ_frame R hR, ih]
      simp [finQ]
/-- What is appended. -/
def okR (R : List (List UInt8)) : Bool := decide (R ≠ []) && decide ((recB R).length ≤ 16777216)
def fl (l : List (List (List UInt8))) : List (List (List UInt8)) := l.filter okR
theorem fl_snoc (l : List (List (List UInt8))) (R : List (List UInt8)) : fl (l ++ [R]) = if okR R = true then fl l ++ [R] else fl l := by
  unfold fl
  rw [List.filter_append]
  by_cases h : okR R = true
  · rw [if_pos h]; simp [h]
  · rw [if_neg h]; simp [h]
theorem fl_ok {l : List (List (List UInt8))} {R : List (List UInt8)} (h : R ∈ fl l) : (recB R).length ≤ 16777216 := by
  have := (List.mem_filter.1 h).2
  unfold okR at this
  simp at this
  exact this.2
theorem app_one (r s : Nat) (nm x : List UInt8) (k : Nat) (hn : nameOk nm = true) (R : List (List UInt8)) (h : x.length + (frB R).length ≤ r) :
    (okR R = true → appQ (oneD r s nm x k) nm R = (oneD r (s + 2) nm (x ++ frB R) (x ++ frB R).length, 0) ∧ appS R = (frB R).length) ∧ (okR R = false → (appQ (oneD r s nm x k) nm R).1 = oneD r s nm x k ∧ ((appQ (oneD r s nm x k) nm R).2 = 0 → R = [] ∧ appS R = 0)) := by
  constructor
  · intro ho
    unfold okR at ho
    simp at ho
    have e : frmR R = (frB R, 0) := by unfold frmR frB; rw [if_pos ho.2]
    constructor
    · unfold appQ
      rw [if_neg ho.1, e, if_neg (by simp)]
      exact write_one _ _ _ _ _ _ hn h
    · unfold appS
      rw [if_neg ho.1, e]
  · intro ho
    unfold okR at ho
    simp at ho
    by_cases h0 : R = []
    · subst h0
      exact ⟨by simp [appQ], fun _ => ⟨rfl, by simp [appS]⟩⟩
    · have e : frmR R = ([], 90) := by unfold frmR; rw [if_neg (by have := ho h0; omega)]
      constructor
      · unfold appQ; rw [if_neg h0, e, if_pos (by simp)]
      · intro hh
        unfold appQ at hh
        rw [if_neg h0, e, if_pos (by simp)] at hh
        simp at hh
theorem flip_one (r s : Nat) (nm x : List UInt8) (k : Nat) (i b : Int) : flipOk (oneD r s nm x k) nm i b = (decide (0 ≤ i) && decide (i < x.length) && decide (0 ≤ b) && decide (b ≤ 7)) ∧ (flipOk (oneD r s nm x k) nm i b = true → flipD (oneD r s nm x k) nm i b = oneD r s nm (flipB x i.toNat b.toNat) k) := by
  have hl : lookG Fl.name nm (oneD r s nm x k).files = some ⟨nm, x, k⟩ := by simp [lookG, oneD]
  refine ⟨by unfold flipOk; rw [hl], fun h => ?_⟩
  unfold flipD
  rw [if_pos h, file_one]
  simp [oneD, putG]
  cases leN nm nm <;> rfl
theorem xor_pow (y : UInt8) (b : Nat) (hb : b ≤ 7) : y ^^^ UInt8.ofNat (2 ^ b) ≠ y := by
  intro h
  have h2 := congrArg UInt8.toNat h
  have e : (y ^^^ UInt8.ofNat (2 ^ b)).toNat = y.toNat ^^^ (UInt8.ofNat (2 ^ b)).toNat := UInt8.toNat_xor _ _
  rw [e] at h2
  refine xor_ne y.toNat (UInt8.ofNat (2 ^ b)).toNat ?_ h2
  have : b = 0 ∨ b = 1 ∨ b = 2 ∨ b = 3 ∨ b = 4 ∨ b = 5 ∨ b = 6 ∨ b = 7 := by omega
  rcases this with rfl | rfl | rfl | rfl | rfl | rfl | rfl | rfl <;> decide
theorem flip_turned (l : List (List (List UInt8))) (h : ∀ R ∈ l, (recB R).length ≤ 16777216) (i b : Nat) (hi : i < (allB l).length) (hb : b ≤ 7) : rdQ (flipB (allB l) i b) = ([], 0, 91) := by
  unfold flipB
  refine rdQ_turned l i _ h hi ?_
  rw [List.getElem?_eq_getElem hi]
  intro e
  have e2 := Option.some.inj e
  have e3 : (allB l).getD i 0 = (allB l)[i] := by simp [List.getD, List.getElem?_eq_getElem hi]
  rw [e3] at e2
  exact xor_pow _ b hb e2.symm
theorem open_spoilt (r s : Nat) (nm x : List UInt8) (k : Nat) (h : rdQ x = ([], 0, 91)) : openD rdQ (oneD r s nm x k) nm = (oneD r s nm x k, 91) := by
  unfold openD
  have hl : lookG Fl.name nm (oneD r s nm x k).files = some ⟨nm, x, k⟩ := by simp [lookG, oneD]
  rw [if_neg (by simp [oneD])]
  simp only [hl, h]
  rw [if_pos (by decide)]
end Go.Proofs.YtpbogplmkenegabDoor
end

section
namespace Go.Proofs.YtpbogplmkenegabDoor
open Go.RowKit Go.Hay
set_option linter.unusedVariables false
set_option linter.unusedSimpArgs false

/-- How the two rows stand. -/
structure TnI (w W : World) (ba : Option Addr) (bc : Nat) (bs : List UInt8) (va : Option Addr) (vc : Nat) (vl : List Bs) : Prop where
  b : Row W (.slice ba bs.length bc) bs
  v : BsE.Row W (.slice va vl.length vc) vl
  bn : ∀ k ∈ blk ba, w.heap.size ≤ k
  vn : ∀ k ∈ blk va, w.heap.size ≤ k
  ne : ∀ k ∈ blk ba, k ∉ blk va
  ok : ∀ y ∈ vl, y.ok w
  kp : Kp [] w W
theorem TnI.keep {w W W' : World} {ba : Option Addr} {bc : Nat} {bs : List UInt8} {va : Option Addr} {vc : Nat} {vl : List Bs} (h : TnI w W ba bc bs va vc vl) (k : Kp [] W W') : TnI w W' ba bc bs va vc vl :=
  ⟨h.b.kept k (by simp), h.v.keptNew k, h.bn, h.vn, h.ne, h.ok, h.kp.trans k (by simp)⟩
theorem TnI.addB {w W W' : World} {ba : Option Addr} {bc : Nat} {bs bs' : List UInt8} {va : Option Addr} {vc : Nat} {vl : List Bs} (h : TnI w W ba bc bs va vc vl) {a' : Option Addr} {c' : Nat} (hr : Row W' (.slice a' bs'.length c') bs') (k : Kp (own (.slice ba bs.length bc)) W W') (hn : ∀ j ∈ own (.slice a' bs'.length c'), j ∈ own (.slice ba bs.length bc) ∨ W.heap.size ≤ j) : TnI w W' a' c' bs' va vc vl := by
  rw [ownQ] at k
  simp only [ownQ] at hn
  refine ⟨hr, h.v.kept k (fun j hj hm => h.ne j hm (by rw [ownQ] at hj; exact hj)), fun j hj => ?_, h.vn, fun j hj hm => ?_, h.ok, h.kp.trans k (fun j hj => .inr (h.bn j hj))⟩
  · rcases hn j hj with e | e
    · exact h.bn j e
    · have := h.kp.size; omega
  · rcases hn j hj with e | e
    · exact h.ne j e hm
    · have := h.v.lt j (by rw [ownQ]; exact hm); omega
theorem TnI.addV {w W W' : World} {ba : Option Addr} {bc : Nat} {bs : List UInt8} {va : Option Addr} {vc : Nat} {vl vl' : List Bs} (h : TnI w W ba bc bs va vc vl) {a' : Option Addr} {c' : Nat} (hr : BsE.Row W' (.slice a' vl'.length c') vl') (k : Kp (own (.slice va vl.length vc)) W W') (hn : ∀ j ∈ own (.slice a' vl'.length c'), j ∈ own (.slice va vl.length vc) ∨ W.heap.size ≤ j) (ho : ∀ y ∈ vl', y.ok w) : TnI w W' ba bc bs a' c' vl' := by
  rw [ownQ] at k
  simp only [ownQ] at hn
  refine ⟨h.b.kept k (fun j hj hm => h.ne j (by rw [ownQ] at hj; exact hj) hm), hr, h.bn, fun j hj => ?_, fun j hj hm => ?_, ho, h.kp.trans k (fun j hj => .inr (h.vn j hj))⟩
  · rcases hn j hj with e | e
    · exact h.vn j e
    · have := h.kp.size; omega
  · rcases hn j hm with e | e
    · exact h.ne j hj e
    · have := h.b.lt j (by rw [ownQ]; exact hj); omega
theorem appBs {W : World} {a : Option Addr} {c : Nat} {l : List Bs} (h : BsE.Row W (.slice a l.length c) l) (a2 : Option Addr) (c2 : Nat) (ys : List Bs) (hs : BsE.See W a2 ys) (hl : l.length + ys.length ≤ 1000000000) :
    ∃ a' c' W', (Builtin.append_ #[30, 30] 30 #[.slice a l.length c, .slice a2 ys.length c2]).run Tryd.prog W = .ok (.slice a' (l ++ ys).length c') W' ∧ BsE.Row W' (.slice a' (l ++ ys).length c') (l ++ ys) ∧ Kp (own (.slice a l.length c)) W W' ∧ ∀ k ∈ own (.slice a' (l ++ ys).length c'), k ∈ own (.slice a l.length c) ∨ W.heap.size ≤ k := by
  obtain ⟨i0, hi, hz0, hz1, hz2⟩ := infoSl
  have hsrc := hs.src (P := Tryd.prog) Tryd.underlying30 c2
  obtain ⟨v6, X4, hrun2, hrow6, kk6, hn6⟩ := run_appendG (E := BsE) (P := Tryd.prog) _ 30 30 30 32 i0 _ 24 Tryd.underlying30 hi hz0 hz1 hz2 rfl (.slice a l.length c) l h _ ys hsrc (by omega) (by omega)
  obtain ⟨a6, c6, rfl, _⟩ := hrow6.see
  exact ⟨a6, c6, X4, hrun2, hrow6, kk6, hn6⟩
def RsL (L : List Ls) : List (List (List UInt8)) := L.map fun x => bsl x.l
theorem RsL_len (L : List Ls) : (RsL L).length = L.length := by simp [RsL]
theorem RsL_take {L : List Ls} {j : Nat} (h : j < L.length) : (RsL L).take (j + 1) = (RsL L).take j ++ [bsl L[j].l] := by
  rw [List.take_succ_eq_append_getElem (by rw [RsL_len]; exact h)]
  simp [RsL]
theorem RsL_takeL (L : List Ls) (j : Nat) : (RsL L).take j = RsL (L.take j) := by simp [RsL]
theorem sum_take_le (L : List Ls) (j : Nat) : ((L.take j).map bulkL).sum ≤ (L.map bulkL).sum := by
  induction L generalizing j with
  | nil => simp
  | cons x L ih =>
    cases j with
    | zero => simp
    | succ j => have := ih j; simp only [List.take_succ_cons, List.map_cons, List.sum_cons]; omega
theorem bulk_mem {L : List Ls} {x : Ls} (h : x ∈ L) : bulkL x ≤ (L.map bulkL).sum := by
  induction L with
  | nil => cases h
  | cons y L ih =>
    simp only [List.map_cons, List.sum_cons]
    rcases List.mem_cons.1 h with rfl | h
    · omega
    · have := ih h; omega
theorem torn_len : ∀ (l : List (List (List UInt8))) (c : Nat), (torn l c).1.length ≤ (torn l c).2 ∧ (torn l c).2 ≤ (allB l).length
  | [], c => by simp [torn, allB]
  | R :: l, c => by
    have ih := torn_len l (c - (frB R).length)
    have e : (allB (R :: l)).length = (frB R).length + (allB l).length := by simp [allB]
    have hr := (recB_len R).1
    have hR : R.length ≤ (frB R).length := by
      have h1 := txB_len R
      have h2 : ∀ S : List (List UInt8), S.length ≤ (txB S).length := by
        intro S
        induction S with
        | nil => simp
        | cons x S ih =>
          have := textB_len x
          have e2 : txB (x :: S) = textB x ++ txB S := by simp [txB]
          rw [e2, List.length_append, List.length_cons]; omega
      have h3 := h2 R
      unfold frB
      rw [frameB_length]
      have e3 : recB R = varB R.length ++ txB R := rfl
      rw [e3, List.length_append]
      omega
    rw [torn, e]
    split
    · simp only [List.length_append]; omega
    · simp
end Go.Proofs.YtpbogplmkenegabDoor
end

section
namespace Go.Proofs.YtpbogplmkenegabDoor
open Go.RowKit Go.Hay
set_option linter.unusedVariables false
set_option linter.unusedSimpArgs false

def nmL : List UInt8 := [108, 111, 103]
theorem rnL : nameOk nmL = true := by decide
theorem fl_len (l : List Ls) : (allB (fl (l.map fun x => bsl x.l))).length ≤ 21 * (l.map bulkL).sum + 21 * l.length := by
  induction l with
  | nil => simp [fl, allB]
  | cons x l ih =>
    have h1 := frB_len x
    have e : fl ((x :: l).map fun x => bsl x.l) = if okR (bsl x.l) = true then bsl x.l :: fl (l.map fun x => bsl x.l) else fl (l.map fun x => bsl x.l) := by
      unfold fl
      rw [List.map_cons, List.filter_cons]
    rw [e]
    simp only [List.map_cons, List.sum_cons, List.length_cons]
    split
    · have e2 : allB (bsl x.l :: fl (l.map fun x => bsl x.l)) = frB (bsl x.l) ++ allB (fl (l.map fun x => bsl x.l)) := by simp [allB]
      rw [e2, List.length_append]
      omega
    · omega
end Go.Proofs.YtpbogplmkenegabDoor
end

section
namespace Go.Proofs.YtpbogplmkenegabDoor
open Go.RowKit Go.Hay
set_option linter.unusedVariables false
set_option linter.unusedSimpArgs false

theorem rdQ_all : ∀ (l : List (List (List UInt8))), (∀ R ∈ l, (recB R).length ≤ 16777216) → rdQ (allB l) = (l.flatten, (allB l).length, 0)
  | [], _ => rfl
  | R :: l, h => by
    have e : allB (R :: l) = frB R ++ allB l := by simp [allB]
    rw [e]
    unfold frB
    rw [rdQ_frame R (h R (by simp)), rdQ_all l (fun x hx => h x (by simp [hx]))]
    simp [finQ]
/-- One record of those that fit into a frame fits into one. -/
theorem rec_one {R : List (List UInt8)} (h : (recB R).length ≤ 16777216) {b : List UInt8} (hb : b ∈ R) : (recB [b]).length ≤ 16777216 := by
  have e : recB R = varB R.length ++ R.flatMap textB := rfl
  have e1 : recB [b] = varB 1 ++ textB b := by simp [recB]
  have hv1 : (varB 1).length = 1 := by decide
  have hv := (varB_length R.length).2
  rw [e, List.length_append] at h
  rw [e1, List.length_append, hv1]
  have key : ∀ S : List (List UInt8), b ∈ S → (textB b).length ≤ (S.flatMap textB).length := by
    intro S
    induction S with
    | nil => intro h; cases h
    | cons x S ih =>
      intro h
      have e2 : ((x :: S).flatMap textB).length = (textB x).length + (S.flatMap textB).length := by simp
      rw [e2]
      rcases List.mem_cons.1 h with rfl | h
      · omega
      · have := ih h; omega
  have := key R hb
  omega
/-- The blocks of a log and its disk. -/
def InL (p dp mb : Nat) (xs : List Ent) (B : Nat → Prop) : Nat → Prop := fun k => k ∈ foot dp mb xs ∨ k = p ∨ B k
theorem LD.inLt {w0 w : World} {p dp mb : Nat} {xs : List Ent} {d : Dk} {nm : List UInt8} {B : Nat → Prop} {v : Value} {L : List (List UInt8)} {sz : Int} (h : LD w0 w p dp mb xs d nm B v L sz) {k : Nat} (hk : InL p dp mb xs B k) : k < w.heap.size ∧ w0.heap.size ≤ k := by
  rcases hk with hk | rfl | hk
  · exact ⟨h.disk.lt k hk, h.lf k hk⟩
  · exact ⟨h.log.box.lt, h.lp⟩
  · exact ⟨(h.lb k hk).2, (h.lb k hk).1⟩
theorem LD.stay {w0 w w' : World} {p dp mb : Nat} {xs : List Ent} {d : Dk} {nm : List UInt8} {B : Nat → Prop} {v : Value} {L : List (List UInt8)} {sz : Int} (h : LD w0 w p dp mb xs d nm B v L sz) {S : List Nat} (k : Kp S w w') (hS : ∀ j ∈ S, ¬ InL p dp mb xs B j ∧ w0.heap.size ≤ j) : LD w0 w' p dp mb xs d nm B v L sz :=
  ⟨h.log.kept k (fun hm => (hS p hm).1 (.inr (.inl rfl))) (fun j hj hb => (hS j hj).1 (.inr (.inr hb))), h.disk.kept k (fun j hj hm => (hS j hm).1 (.inl hj)), h.sep, h.lf, fun j hj => ⟨(h.lb j hj).1, by have := (h.lb j hj).2; have := k.size; omega⟩, h.lp, h.kp.trans k (fun j hj => .inr (hS j hj).2)⟩
/-- Append, of such; where its blocks come from. -/
def AppL2 (w0 : World) (p dp mb : Nat) (xs : List Ent) (d : Dk) (nm : List UInt8) (B : Nat → Prop) (v : Value) (L : List (List UInt8)) (sz : Int) (R : List (List UInt8)) (w : World) (e : Ending) (w' : World) : Prop :=
  e = .returned (.int .i64 (appQ d nm R).2) ∧ Kp (p :: own v ++ foot dp mb xs) w w' ∧ ((appQ d nm R).2 ≠ 0 → Kp [] w0 w') ∧ ((appQ d nm R).2 = 0 → ∃ xs' v' B', LD w0 w' p dp mb xs' (appQ d nm R).1 nm B' v' (L ++ R) (sz + appS R) ∧ ∀ k, InL p dp mb xs' B' k → InL p dp mb xs B k ∨ w.heap.size ≤ k)
theorem LD.app2 {w0 w : World} {p dp mb : Nat} {xs : List Ent} {d : Dk} {nm : List UInt8} {B : Nat → Prop} {v : Value} {L : List (List UInt8)} {sz : Int} (h : LD w0 w p dp mb xs d nm B v L sz)
    (hs : d.steps < 7000000000000000000) (hN : d.files.length < 7000000000000000000) (hB : Small d) (hk : nm.length ≤ maxLen) (hfl : (fileOf d.files nm).bytes.length ≤ 140737400000000) (hLl : L.length ≤ 900000000000) (hsz : 0 ≤ sz ∧ sz ≤ 8000000000000000000)
    (a : Option Addr) (c : Nat) (R : List Bs) (hR : ArgQ w a R (InL p dp mb xs B)) (hTb : Tab w0) :
    Calls Tryd.prog 7 #[.pointer (some ⟨p, 0, none⟩), .slice a R.length c] w (AppL2 w0 p dp mb xs d nm B v L sz (bsl R) w) := by
  have h00 := hTb.1
  refine (cAppendL h.log h.disk h.sep (fun k hk => (h.lb k hk).2) hs hN hB hk hfl hLl hsz a c R hR (hTb.kept h.kp (by simp)) ⟨fun hm => by have := h.lf 0 hm; omega, by have := h.lp; omega, fun hb => by have := (h.lb 0 hb).1; omega⟩).mono ?_
  rintro e w' ⟨he, xs', hD', k', hf', h1, h2⟩
  have kw : Kp [] w0 w' := h.kp.trans k' (fun x hx => .inr (h.own x hx))
  have hz := h.kp.size
  have hz' := k'.size
  have hlf : ∀ k ∈ foot dp mb xs', w0.heap.size ≤ k := fun k hk => by rcases hf' k hk with hh | hh; exact h.lf k hh; omega
  refine ⟨he, k', fun _ => kw, fun h0 => ?_⟩
  obtain ⟨v', B', hl, hb, hsp⟩ := h2 h0
  refine ⟨xs', v', B', ⟨hl, hD', hsp, hlf, fun k hk => by rcases hb k hk with hh | hh; exact ⟨(h.lb k hh).1, by have := (h.lb k hh).2; omega⟩; exact ⟨by omega, hh.2⟩, h.lp, kw⟩, fun k hk => ?_⟩
  rcases hk with hk | rfl | hk
  · rcases hf' k hk with hh | hh
    · exact .inl (.inl hh)
    · exact .inr hh
  · exact .inl (.inr (.inl rfl))
  · rcases hb k hk with hh | hh
    · exact .inl (.inr (.inr hh))
    · exact .inr hh.1
/-- Create and Open, with where the blocks come from. -/
theorem LD.ofOpn2 {w0 w w' : World} {dp mb : Nat} {xs : List Ent} {r : Dk × Int} {nm : List UInt8} {L : List (List UInt8)} {sz : Int} {e : Ending} (h : OpnP dp mb xs r nm L sz w e w') (h0 : r.2 = 0) (hk : Kp [] w0 w) (hf : ∀ k ∈ foot dp mb xs, w0.heap.size ≤ k) :
    ∃ p v B xs', e = .returned (.tuple #[.pointer (some ⟨p, 0, none⟩), .int .i64 r.2]) ∧ LD w0 w' p dp mb xs' r.1 nm B v L sz ∧ Mv (foot dp mb xs) w (foot dp mb xs') w' ∧ ∀ k, InL p dp mb xs' B k → k ∈ foot dp mb xs ∨ w.heap.size ≤ k := by
  obtain ⟨v0, xs', he, hD', m, _, h2⟩ := h
  obtain ⟨p, v, B, rfl, hl, hp, hb, hsp⟩ := h2 h0
  have hz := hk.size
  refine ⟨p, v, B, xs', he, ⟨hl, hD', hsp, fun k hk' => ?_, fun k hk' => ⟨by have := (hb k hk').1; omega, (hb k hk').2⟩, by omega, hk.trans m.kp (fun x hx => .inr (hf x hx))⟩, m, fun k hk' => ?_⟩
  · rcases m.new k hk' with h | h
    · exact hf k h
    · omega
  · rcases hk' with h | rfl | h
    · exact m.new k h
    · exact .inr hp
    · exact .inr (hb k h).1
/-- Two of them, apart. -/
structure Two (w W : World) (p1 dp1 mb1 p2 dp2 mb2 : Nat) (xs1 xs2 : List Ent) (d1 d2 : Dk) (nm : List UInt8) (B1 B2 : Nat → Prop) (v1 v2 : Value) (L1 L2 : List (List UInt8)) (z1 z2 : Int) : Prop where
  a : LD w W p1 dp1 mb1 xs1 d1 nm B1 v1 L1 z1
  b : LD w W p2 dp2 mb2 xs2 d2 nm B2 v2 L2 z2
  ap : ∀ k, InL p1 dp1 mb1 xs1 B1 k → ¬ InL p2 dp2 mb2 xs2 B2 k
theorem setInLD {w0 w : World} {p dp mb : Nat} {xs : List Ent} {d : Dk} {nm : List UInt8} {B : Nat → Prop} {v : Value} {L : List (List UInt8)} {sz : Int} (h : LD w0 w p dp mb xs d nm B v L sz) : ∀ k ∈ p :: own v ++ foot dp mb xs, InL p dp mb xs B k := fun k hk => by
  simp only [List.cons_append, List.mem_cons, List.mem_append] at hk
  rcases hk with rfl | hk | hk
  · exact .inr (.inl rfl)
  · exact .inr (.inr (h.log.row.from k hk))
  · exact .inl hk
theorem Two.keep {w W W' : World} {p1 dp1 mb1 p2 dp2 mb2 : Nat} {xs1 xs2 : List Ent} {d1 d2 : Dk} {nm : List UInt8} {B1 B2 : Nat → Prop} {v1 v2 : Value} {L1 L2 : List (List UInt8)} {z1 z2 : Int} (h : Two w W p1 dp1 mb1 p2 dp2 mb2 xs1 xs2 d1 d2 nm B1 B2 v1 v2 L1 L2 z1 z2) (k : Kp [] W W') : Two w W' p1 dp1 mb1 p2 dp2 mb2 xs1 xs2 d1 d2 nm B1 B2 v1 v2 L1 L2 z1 z2 := ⟨h.a.keep k, h.b.keep k, h.ap⟩
theorem Two.appA {w W W' : World} {p1 dp1 mb1 p2 dp2 mb2 : Nat} {xs1 xs2 xs1' : List Ent} {d1 d2 d1' : Dk} {nm : List UInt8} {B1 B2 B1' : Nat → Prop} {v1 v2 v1' : Value} {L1 L2 L1' : List (List UInt8)} {z1 z2 z1' : Int} (h : Two w W p1 dp1 mb1 p2 dp2 mb2 xs1 xs2 d1 d2 nm B1 B2 v1 v2 L1 L2 z1 z2) (k : Kp (p1 :: own v1 ++ foot dp1 mb1 xs1) W W') (hl : LD w W' p1 dp1 mb1 xs1' d1' nm B1' v1' L1' z1') (hi : ∀ k, InL p1 dp1 mb1 xs1' B1' k → InL p1 dp1 mb1 xs1 B1 k ∨ W.heap.size ≤ k) :
    Two w W' p1 dp1 mb1 p2 dp2 mb2 xs1' xs2 d1' d2 nm B1' B2 v1' v2 L1' L2 z1' z2 :=
  ⟨hl, h.b.stay k (fun j hj => ⟨h.ap j (setInLD h.a j hj), h.a.own j hj⟩), fun j hj hj2 => by
    rcases hi j hj with e | e
    · exact h.ap j e hj2
    · have := (h.b.inLt hj2).1; omega⟩
theorem Two.appB {w W W' : World} {p1 dp1 mb1 p2 dp2 mb2 : Nat} {xs1 xs2 xs2' : List Ent} {d1 d2 d2' : Dk} {nm : List UInt8} {B1 B2 B2' : Nat → Prop} {v1 v2 v2' : Value} {L1 L2 L2' : List (List UInt8)} {z1 z2 z2' : Int} (h : Two w W p1 dp1 mb1 p2 dp2 mb2 xs1 xs2 d1 d2 nm B1 B2 v1 v2 L1 L2 z1 z2) (k : Kp (p2 :: own v2 ++ foot dp2 mb2 xs2) W W') (hl : LD w W' p2 dp2 mb2 xs2' d2' nm B2' v2' L2' z2') (hi : ∀ k, InL p2 dp2 mb2 xs2' B2' k → InL p2 dp2 mb2 xs2 B2 k ∨ W.heap.size ≤ k) :
    Two w W' p1 dp1 mb1 p2 dp2 mb2 xs1 xs2' d1 d2' nm B1 B2' v1 v2' L1 L2' z1 z2' :=
  ⟨h.a.stay k (fun j hj => ⟨fun h1 => h.ap j h1 (setInLD h.b j hj), h.b.own j hj⟩), hl, fun j hj hj2 => by
    rcases hi j hj2 with e | e
    · exact h.ap j hj e
    · have := (h.a.inLt hj).1; omega⟩
/-- Records one by one. -/
def sg (l : List (List (List UInt8))) : List (List (List UInt8)) := l.flatMap fun R => R.map fun r => [r]
theorem sg_flat (l : List (List (List UInt8))) : (sg l).flatten = l.flatten := by
  induction l with
  | nil => rfl
  | cons R l ih =>
    have e : sg (R :: l) = R.map (fun r => [r]) ++ sg l := by simp [sg]
    have e2 : ∀ S : List (List UInt8), (S.map fun r => [r]).flatten = S := by
      intro S
      induction S with
      | nil => rfl
      | cons x S ih => simp only [List.map_cons, List.flatten_cons, ih]; rfl
    rw [e, List.flatten_append, e2, ih, List.flatten_cons]
theorem fl_flat (l : List (List (List UInt8))) (h : ∀ R ∈ l, R = [] ∨ okR R = true) : (fl l).flatten = l.flatten := by
  induction l with
  | nil => rfl
  | cons R l ih =>
    have e : fl (R :: l) = if okR R = true then R :: fl l else fl l := by unfold fl; rw [List.filter_cons]
    have ih' := ih (fun x hx => h x (by simp [hx]))
    rw [e, List.flatten_cons]
    rcases h R (by simp) with rfl | ho
    · have : okR [] = false := by simp [okR]
      rw [this]; simpa using ih'
    · rw [if_pos ho, List.flatten_cons, ih']
theorem sg_snoc (l : List (List (List UInt8))) (R : List (List UInt8)) : sg (l ++ [R]) = sg l ++ R.map fun r => [r] := by simp [sg]
end Go.Proofs.YtpbogplmkenegabDoor
end

section
namespace Go.Proofs.YtpbogplmkenegabDoor
open Go.RowKit Go.Hay
set_option linter.unusedVariables false
set_option linter.unusedSimpArgs false

theorem allB_app (a b : List (List (List UInt8))) : allB (a ++ b) = allB a ++ allB b := by simp [allB]
theorem one_flat : ∀ S : List (List UInt8), (S.map fun r => [r]).flatten = S
  | [] => rfl
  | x :: S => by simp only [List.map_cons, List.flatten_cons, one_flat S]; rfl
theorem recs_len : ∀ (yl : List Bs) (i : Nat), (allB (((bsl yl).take i).map fun r => [r])).length ≤ 42 * (yl.map fun y => y.bs.length + 1).sum
  | [], i => by simp [bsl, allB]
  | y :: yl, 0 => by simp [allB]
  | y :: yl, i + 1 => by
    have ih := recs_len yl i
    have h1 := frB_len ⟨none, 0, [y]⟩
    have e : allB (((bsl (y :: yl)).take (i + 1)).map fun r => [r]) = frB (bsl [y]) ++ allB (((bsl yl).take i).map fun r => [r]) := by simp [bsl, allB]
    have eb : bulkL ⟨none, 0, [y]⟩ = y.bs.length + 1 := by simp [bulkL]
    rw [eb] at h1
    dsimp only at h1
    rw [e, List.length_append, List.map_cons, List.sum_cons]
    omega
theorem sg_len : ∀ L : List Ls, (allB (sg (RsL L))).length ≤ 42 * (L.map bulkL).sum
  | [] => by simp [sg, RsL, allB]
  | x :: L => by
    have ih := sg_len L
    have h1 := recs_len x.l (bsl x.l).length
    rw [List.take_length] at h1
    have e : sg (RsL (x :: L)) = (bsl x.l).map (fun r => [r]) ++ sg (RsL L) := by simp [sg, RsL]
    rw [e, allB_app, List.length_append, List.map_cons, List.sum_cons]
    unfold bulkL at ih ⊢
    omega
theorem flat_len : ∀ L : List Ls, ((RsL L).flatten).length ≤ (L.map bulkL).sum
  | [] => by simp [RsL]
  | x :: L => by
    have ih := flat_len L
    have h1 := sumB_bulk x.l
    have e : (RsL (x :: L)).flatten = bsl x.l ++ (RsL L).flatten := by simp [RsL]
    have hb : bulkL x = (x.l.map fun y => y.bs.length + 1).sum := rfl
    rw [← hb] at h1
    rw [e, List.length_append, bsl_len, List.map_cons, List.sum_cons]
    omega
/-- Both, by the frames of each. -/
def BtS (w : World) (p1 dp1 mb1 p2 dp2 mb2 : Nat) (l1 l2 : List (List (List UInt8))) (b1 b2 : Nat) (W : World) : Prop :=
  ∃ (xs1 xs2 : List Ent) (s1 k1 s2 k2 : Nat) (B1 B2 : Nat → Prop) (v1 v2 : Value), s1 ≤ b1 ∧ s2 ≤ b2 ∧
    Two w W p1 dp1 mb1 p2 dp2 mb2 xs1 xs2 (oneD 1125899906842624 s1 nmL (allB l1) k1) (oneD 1125899906842624 s2 nmL (allB l2) k2) nmL B1 B2 v1 v2 l1.flatten l2.flatten ((allB l1).length : Int) ((allB l2).length : Int)
theorem BtS.keep {w W W' : World} {p1 dp1 mb1 p2 dp2 mb2 : Nat} {l1 l2 : List (List (List UInt8))} {b1 b2 : Nat} (h : BtS w p1 dp1 mb1 p2 dp2 mb2 l1 l2 b1 b2 W) (k : Kp [] W W') : BtS w p1 dp1 mb1 p2 dp2 mb2 l1 l2 b1 b2 W' := by
  obtain ⟨xs1, xs2, s1, k1, s2, k2, B1, B2, v1, v2, h1, h2, hT⟩ := h
  exact ⟨xs1, xs2, s1, k1, s2, k2, B1, B2, v1, v2, h1, h2, hT.keep k⟩
theorem BtS.le {w W : World} {p1 dp1 mb1 p2 dp2 mb2 : Nat} {l1 l2 : List (List (List UInt8))} {b1 b2 b1' b2' : Nat} (h : BtS w p1 dp1 mb1 p2 dp2 mb2 l1 l2 b1 b2 W) (e1 : b1 ≤ b1') (e2 : b2 ≤ b2') : BtS w p1 dp1 mb1 p2 dp2 mb2 l1 l2 b1' b2' W := by
  obtain ⟨xs1, xs2, s1, k1, s2, k2, B1, B2, v1, v2, h1, h2, hT⟩ := h
  exact ⟨xs1, xs2, s1, k1, s2, k2, B1, B2, v1, v2, by omega, by omega, hT⟩
theorem BtS.kp {w W : World} {p1 dp1 mb1 p2 dp2 mb2 : Nat} {l1 l2 : List (List (List UInt8))} {b1 b2 : Nat} (h : BtS w p1 dp1 mb1 p2 dp2 mb2 l1 l2 b1 b2 W) : Kp [] w W := by
  obtain ⟨xs1, xs2, s1, k1, s2, k2, B1, B2, v1, v2, h1, h2, hT⟩ := h
  exact hT.a.kp
/-- Append of rows to the first one. -/
def BtA (w : World) (p1 dp1 mb1 p2 dp2 mb2 : Nat) (l1 l2 : List (List (List UInt8))) (b1 b2 : Nat) (R : List (List UInt8)) (e : Ending) (W' : World) : Prop :=
  ∃ z : Int, e = .returned (.int .i64 z) ∧ Kp [] w W' ∧ (z = 0 → (R = [] ∨ okR R = true) ∧ BtS w p1 dp1 mb1 p2 dp2 mb2 (if okR R = true then l1 ++ [R] else l1) l2 (b1 + 2) b2 W')
theorem BtS.appA {w W : World} {p1 dp1 mb1 p2 dp2 mb2 : Nat} {l1 l2 : List (List (List UInt8))} {b1 b2 : Nat} (h : BtS w p1 dp1 mb1 p2 dp2 mb2 l1 l2 b1 b2 W) (hb1 : b1 ≤ 100000000) (hl : (allB l1).length ≤ 100000000) (hf : l1.flatten.length ≤ 100000000)
    (a : Option Addr) (c : Nat) (R : List Bs) (hR : ∀ X : Nat → Prop, (∀ k, X k → w.heap.size ≤ k) → ArgQ W a R X) (hRl : (frB (bsl R)).length ≤ 100000000) (hTb : Tab w) :
    Calls Tryd.prog 7 #[.pointer (some ⟨p1, 0, none⟩), .slice a R.length c] W (BtA w p1 dp1 mb1 p2 dp2 mb2 l1 l2 b1 b2 (bsl R)) := by
  obtain ⟨xs1, xs2, s1, k1, s2, k2, B1, B2, v1, v2, h1, h2, hT⟩ := h
  refine (hT.a.app2 (by simp only [oneD]; omega) (by simp [oneD]) (small_one (by omega)) (by unfold maxLen; simp [nmL]) (by rw [file_one]; simp only; omega) (by omega) (by omega) a c R (hR _ (fun k hk => (hT.a.inLt hk).2)) hTb).mono ?_
  rintro e W' ⟨he, hk, hn, hy⟩
  obtain ⟨o1, o2⟩ := app_one 1125899906842624 s1 nmL (allB l1) k1 rnL (bsl R) (by omega)
  have kw : Kp [] w W' := hT.a.kp.trans hk (fun x hx => .inr (hT.a.own x hx))
  refine ⟨_, he, kw, fun h0 => ?_⟩
  obtain ⟨xs', v', B', hL', hi'⟩ := hy h0
  cases hor : okR (bsl R) with
  | true =>
    obtain ⟨e1, e2⟩ := o1 hor
    rw [e1, e2] at hL'
    dsimp only at hL'
    refine ⟨.inr rfl, xs', xs2, s1 + 2, (allB l1 ++ frB (bsl R)).length, s2, k2, B', B2, v', v2, by omega, h2, ?_⟩
    rw [if_pos rfl, allB_snoc, List.flatten_append, List.length_append]
    simp only [List.flatten_cons, List.flatten_nil, List.append_nil]
    rw [Int.natCast_add]
    rw [List.length_append] at hL'
    exact hT.appA hk hL' hi'
  | false =>
    obtain ⟨e1, e2⟩ := o2 hor
    obtain ⟨e3, e4⟩ := e2 h0
    rw [e1, e4, e3] at hL'
    rw [List.append_nil, Int.add_zero] at hL'
    refine ⟨.inl e3, xs', xs2, s1, k1, s2, k2, B', B2, v', v2, by omega, h2, ?_⟩
    rw [if_neg (by simp)]
    exact hT.appA hk hL' hi'
/-- Append of one row to the second one. -/
theorem BtS.appB {w W0 W : World} {p1 dp1 mb1 p2 dp2 mb2 : Nat} {l1 l2 : List (List (List UInt8))} {b1 b2 : Nat} (h : BtS w p1 dp1 mb1 p2 dp2 mb2 l1 l2 b1 b2 W0) (k0 : Kp [] W0 W) (hb2 : b2 ≤ 100000000) (hl : (allB l2).length ≤ 100000000) (hf : l2.flatten.length ≤ 100000000)
    (a : Option Addr) (y : Bs) (hR : ∀ X : Nat → Prop, (∀ k, X k → w.heap.size ≤ k ∧ k < W0.heap.size) → ArgQ W a [y] X) (hRl : (frB [y.bs]).length ≤ 100000000) (hok : okR [y.bs] = true) (hTb : Tab w) :
    Calls Tryd.prog 7 #[.pointer (some ⟨p2, 0, none⟩), .slice a 1 1] W fun e W' => e = .returned (.int .i64 0) ∧ BtS w p1 dp1 mb1 p2 dp2 mb2 l1 (l2 ++ [[y.bs]]) b1 (b2 + 2) W' := by
  obtain ⟨xs1, xs2, s1, k1, s2, k2, B1, B2, v1, v2, h1, h2, hT0⟩ := h
  have hT := hT0.keep k0
  have eb : bsl [y] = [y.bs] := by simp [bsl]
  have hA := hT.b.app2 (by simp only [oneD]; omega) (by simp [oneD]) (small_one (by omega)) (by unfold maxLen; simp [nmL]) (by rw [file_one]; simp only; omega) (by omega) (by omega) a 1 [y] (hR _ (fun k hk => ⟨(hT0.b.inLt hk).2, (hT0.b.inLt hk).1⟩)) hTb
  rw [eb] at hA
  refine hA.mono ?_
  rintro e W' ⟨he, hk, hn, hy⟩
  obtain ⟨o1, o2⟩ := app_one 1125899906842624 s2 nmL (allB l2) k2 rnL [y.bs] (by omega)
  obtain ⟨e1, e2⟩ := o1 hok
  rw [e1] at he hy
  obtain ⟨xs', v', B', hL', hi'⟩ := hy rfl
  rw [e2] at hL'
  dsimp only at hL'
  refine ⟨he, xs1, xs', s1, k1, s2 + 2, (allB l2 ++ frB [y.bs]).length, B1, B', v1, v', h1, by omega, ?_⟩
  rw [allB_snoc, List.flatten_append, List.length_append]
  simp only [List.flatten_cons, List.flatten_nil, List.append_nil]
  rw [Int.natCast_add]
  rw [List.length_append] at hL'
  exact hT.appB hk hL' hi'
/-- What gone answers of a log. -/
def SeenQ (M : List (List UInt8)) (W : World) (e : Ending) (W' : World) : Prop := ∃ a c, ∃ l : List Bs, e = .returned (.slice a l.length c) ∧ BsE.See W' a l ∧ (∀ y ∈ l, y.ok W') ∧ bsl l = M ∧ Kp [] W W'
theorem cSeen {w : World} {p dp : Nat} {nm : List UInt8} {B : Nat → Prop} {v : Value} {M : List (List UInt8)} {sz : Int} (h : Log w p dp nm B v M sz) (h1 : M.length ≤ 100000000) (h2 : ∀ x ∈ M, x.length ≤ 100000000) :
    Calls Tryd.prog 10 #[.pointer (some ⟨p, 0, none⟩)] w (SeenQ M w) := by
  refine (cGoneQ h (by omega) (fun x hx => by have := h2 x hx; omega)).mono ?_
  rintro e w' ⟨v', rfl, hr, k⟩
  obtain ⟨a, c, l, rfl, hs, ho, hb⟩ := hr.bs
  exact ⟨a, c, l, rfl, hs, fun y hy => (ho y hy).1, hb, k⟩
theorem flat_mem : ∀ (L : List Ls) (x : List UInt8), x ∈ (RsL L).flatten → x.length ≤ (L.map bulkL).sum
  | [], x, h => by simp [RsL] at h
  | y :: L, x, h => by
    have e : (RsL (y :: L)).flatten = bsl y.l ++ (RsL L).flatten := by simp [RsL]
    rw [e] at h
    rw [List.map_cons, List.sum_cons]
    rcases List.mem_append.1 h with h | h
    · obtain ⟨z, hz, rfl⟩ := List.mem_map.1 h
      have key : ∀ S : List Bs, z ∈ S → z.bs.length ≤ (S.map fun y => y.bs.length + 1).sum := by
        intro S
        induction S with
        | nil => intro h; cases h
        | cons u S ih =>
          intro h
          rw [List.map_cons, List.sum_cons]
          rcases List.mem_cons.1 h with rfl | h
          · omega
          · have := ih h; omega
      have := key y.l hz
      unfold bulkL
      omega
    · have := flat_mem L x h
      omega
/-- Both logs, and both opened anew: all four have the same. -/
structure Four (w W : World) (p1 p2 p3 p4 : Nat) (M : List (List UInt8)) : Prop where
  kp : Kp [] w W
  g1 : ∀ W', Kp [] W W' → Calls Tryd.prog 10 #[.pointer (some ⟨p1, 0, none⟩)] W' (SeenQ M W')
  g2 : ∀ W', Kp [] W W' → Calls Tryd.prog 10 #[.pointer (some ⟨p2, 0, none⟩)] W' (SeenQ M W')
  g3 : ∀ W', Kp [] W W' → Calls Tryd.prog 10 #[.pointer (some ⟨p3, 0, none⟩)] W' (SeenQ M W')
  g4 : ∀ W', Kp [] W W' → Calls Tryd.prog 10 #[.pointer (some ⟨p4, 0, none⟩)] W' (SeenQ M W')
/-- Two answers of gone are the same. -/
theorem cSame2 {M : List (List UInt8)} (hM : M.length ≤ 100000000) {a b : Option Addr} {ca cb : Nat} {L1 L2 : List Bs} {w : World} (h1 : BsE.See w a L1) (h2 : BsE.See w b L2) (o1 : ∀ y ∈ L1, y.ok w) (o2 : ∀ y ∈ L2, y.ok w) (e1 : bsl L1 = M) (e2 : bsl L2 = M) :
    Calls Tryd.prog 9 #[.slice a L1.length ca, .slice b L2.length cb] w fun e w' => e = .returned (.bool true) ∧ Kp [] w w' := by
  have l1 : L1.length = M.length := by rw [← e1, bsl_len]
  have l2 : L2.length = M.length := by rw [← e2, bsl_len]
  have h := cSameQ a b ca cb L1 L2 w h1 h2 o1 o2 (by omega) (by omega)
  rw [e1, e2] at h
  simpa using h
/-- Open of the first; the rest stays. -/
theorem BtS.opn {w W : World} {p1 dp1 mb1 p2 dp2 mb2 : Nat} {l1 l2 : List (List (List UInt8))} {b1 b2 : Nat} (h : BtS w p1 dp1 mb1 p2 dp2 mb2 l1 l2 b1 b2 W) (hb1 : b1 ≤ 100000000) (hb2 : b2 ≤ 100000000) (hl1 : (allB l1).length ≤ 100000000) (hl2 : (allB l2).length ≤ 100000000)
    (ho1 : ∀ R ∈ l1, (recB R).length ≤ 16777216) (ho2 : ∀ R ∈ l2, (recB R).length ≤ 16777216) (M : List (List UInt8)) (hM1 : l1.flatten = M) (hM2 : l2.flatten = M) (hM : M.length ≤ 100000000) (hMx : ∀ x ∈ M, x.length ≤ 100000000) (hTb : Tab w) :
    Calls Tryd.prog 8 #[.pointer (some ⟨dp1, 0, none⟩), .string ⟨nmL.toArray⟩] W fun e W' => ∃ p3, e = .returned (.tuple #[.pointer (some ⟨p3, 0, none⟩), .int .i64 0]) ∧
      Calls Tryd.prog 8 #[.pointer (some ⟨dp2, 0, none⟩), .string ⟨nmL.toArray⟩] W' fun e W2 => ∃ p4, e = .returned (.tuple #[.pointer (some ⟨p4, 0, none⟩), .int .i64 0]) ∧ Four w W2 p1 p2 p3 p4 M := by
  obtain ⟨xs1, xs2, s1, k1, s2, k2, B1, B2, v1, v2, h1, h2, hT⟩ := h
  have r1 := rdQ_all l1 ho1
  have r2 := rdQ_all l2 ho2
  have hO := cOpen hT.a.disk (by simp only [oneD]; omega) (small_one (by omega)) nmL (by unfold maxLen; simp [nmL]) (hTb.kept hT.a.kp (by simp)) (by rw [file_one]; simp only; omega)
  rw [file_one] at hO
  dsimp only at hO
  rw [open_one rdQ _ _ _ _ _ (by rw [r1]) (by rw [r1]), r1, hM1] at hO
  refine hO.mono ?_
  intro e W' hP
  obtain ⟨p3, v3, B3, xs3, rfl, hL3, m3, hi3⟩ := LD.ofOpn2 (w0 := w) hP rfl hT.a.kp hT.a.lf
  have hb3 := hT.b.stay m3.kp (fun k hk => ⟨hT.ap k (.inl hk), hT.a.lf k hk⟩)
  have hg1 := hT.a.log.kept m3.kp (fun hm => (hT.a.sep p1 hm).2 rfl) (fun k hk => (hT.a.sep k hk).1)
  refine ⟨p3, rfl, ?_⟩
  have hO2 := cOpen hb3.disk (by simp only [oneD]; omega) (small_one (by omega)) nmL (by unfold maxLen; simp [nmL]) (hTb.kept hb3.kp (by simp)) (by rw [file_one]; simp only; omega)
  rw [file_one] at hO2
  dsimp only at hO2
  rw [open_one rdQ _ _ _ _ _ (by rw [r2]) (by rw [r2]), r2, hM2] at hO2
  refine hO2.mono ?_
  intro e W2 hP2
  obtain ⟨p4, v4, B4, xs4, rfl, hL4, m4, hi4⟩ := LD.ofOpn2 (w0 := w) hP2 rfl hb3.kp hb3.lf
  have hg1' := hg1.kept m4.kp (fun hm => hT.ap p1 (.inr (.inl rfl)) (.inl hm)) (fun k hk hb => hT.ap k (.inr (.inr hb)) (.inl hk))
  have hg2' := hb3.log.kept m4.kp (fun hm => (hb3.sep p2 hm).2 rfl) (fun k hk => (hb3.sep k hk).1)
  have hn3 : ∀ k ∈ foot dp2 mb2 xs2, ¬ InL p3 dp1 mb1 xs3 B3 k := fun k hk hi => by
    rcases hi3 k hi with h | h
    · exact hT.ap k (.inl h) (.inl hk)
    · have := hT.b.disk.lt k hk; omega
  have hg3' := hL3.log.kept m4.kp (fun hm => hn3 p3 hm (.inr (.inl rfl))) (fun k hk hb => hn3 k hk (.inr (.inr hb)))
  rw [hM1] at hg1'
  rw [hM2] at hg2'
  exact ⟨p4, rfl, hL4.kp, fun X k => cSeen (hg1'.kept k (by simp) (by simp)) hM hMx, fun X k => cSeen (hg2'.kept k (by simp) (by simp)) hM hMx, fun X k => cSeen (hg3'.kept k (by simp) (by simp)) hM hMx, fun X k => cSeen (hL4.log.kept k (by simp) (by simp)) hM hMx⟩
end Go.Proofs.YtpbogplmkenegabDoor
end

section
namespace Go.Proofs.YtpbogplmkenegabDoor
open Go.RowKit Go.Hay
set_option linter.unusedVariables false
set_option linter.unusedSimpArgs false

set_option maxHeartbeats 16000000 in
set_option maxRecDepth 100000 in
theorem batchesWalk9 (a : Option Addr) (c : Nat) (L : List Ls) (w : World) (ht : Tab w) (hs : LsE.See w a L) (hok : ∀ x ∈ L, x.ok w) (hL : L.length ≤ 1048576) (hbk : (L.map bulkL).sum ≤ 1048576) :
    Calls Tryd.prog 3 #[.slice a L.length c] w fun e w' => e = .returned (.bool true) ∧ Below w.heap.size w w' := by
  have ht' := hid ht
  have aN : Hid (∀ W, Calls Tryd.prog 4 #[.int .i64 1125899906842624] W (NewP 1125899906842624 W)) := fun W => cNew 1125899906842624 W (by omega)
  have hcl : Hid (∀ (j : Nat) (h : j < L.length) (W : World), Kp [] w W → (∃ g o, a = some ⟨g, o, none⟩ ∧ W.cell? ⟨g, o + j, none⟩ = some (.slice L[j].a L[j].l.length L[j].c)) ∧ (∀ X : Nat → Prop, (∀ k, X k → w.heap.size ≤ k) → ArgQ W L[j].a L[j].l X) ∧ L[j].l.length ≤ 1048576) := fun j h W k => by
    obtain ⟨g, o, e, hc⟩ := lsAt hs (k := j) (x := L[j]) (by simp [h])
    have ho := hok L[j] (List.getElem_mem h)
    have hb := bulk_mem (List.getElem_mem h)
    have hsb := sumB_bulk L[j].l
    have hk' : bulkL L[j] = (L[j].l.map fun y => y.bs.length + 1).sum := rfl
    refine ⟨⟨g, o, e, (k.cell (p := ⟨g, o + j, none⟩) (World.block_lt_of_cell? _ _ hc) (by simp)).trans hc⟩, fun X hX => ⟨(ho.keptNew k).see, (ho.keptNew k).ok, fun hne q hq hx => ?_, fun y hy hne q hq hx => ?_, by omega, fun y hy => ?_⟩, by omega⟩
    · have h1 := hX q hx
      rcases ho.see with e' | ⟨g', o', e', hc'⟩
      · exact hne e'
      · rw [e'] at hq
        simp [blk] at hq
        subst hq
        have h0 : 0 < (BsE.cs L[j].l).length := by rw [El.cs_length]; have : 0 < L[j].l.length := List.length_pos_iff.2 hne; simp [BsE]; omega
        have := World.block_lt_of_cell? _ _ (hc' 0 _ (List.getElem?_eq_getElem h0))
        simp at this
        omega
    · have h1 := hX q hx
      have := (ho.ok y hy).see.lt hne q hq
      omega
    · have h2 : y.bs.length + 1 ≤ (L[j].l.map fun y => y.bs.length + 1).sum := by
        have : y.bs.length + 1 ∈ L[j].l.map fun y => y.bs.length + 1 := List.mem_map.2 ⟨y, hy, rfl⟩
        generalize (L[j].l.map fun y => y.bs.length + 1) = q at this
        induction q with
        | nil => cases this
        | cons z q ih =>
          rw [List.sum_cons]
          rcases List.mem_cons.1 this with e | h
          · omega
          · have := ih h; omega
      omega
  clear ht hs hok
  go_enter Tryd.func3, Tryd.ntmps3
  go_wp2_with fail
  refine (aN.out w).mono ?_
  rintro e w1 ⟨dp1, mb1, rfl, hD1, k1, hdp1, hmb1⟩
  have H1 := hid (And.intro hD1 k1)
  have hl1 : dp1 < w1.heap.size ∧ mb1 < w1.heap.size := ⟨hD1.lt dp1 (by simp [foot]), hD1.lt mb1 (by simp [foot])⟩
  clear hD1 k1
  go_wp2_with fail
  refine (aN.out w1).mono ?_
  rintro e w2 ⟨dp2, mb2, rfl, hD2, k2, hdp2, hmb2⟩
  have hl2 : dp2 < w2.heap.size ∧ mb2 < w2.heap.size := ⟨hD2.lt dp2 (by simp [foot]), hD2.lt mb2 (by simp [foot])⟩
  have kw2 := H1.out.2.trans k2 (by simp)
  have H2 := hid (And.intro (H1.out.1.keptNew k2) (And.intro hD2 kw2))
  have aV := hid (cAliveQ w2 (ht'.out.kept kw2 (by simp)))
  clear hD2 k2 kw2 H1 aN
  go_wp2_with fail
  refine aV.out.mono ?_
  rintro e w3 ⟨rfl, k3⟩
  have kw3 := H2.out.2.2.trans k3 (by simp)
  have hz3 := k3.size
  have hD13 := H2.out.1.keptNew k3
  have hD23 := H2.out.2.1.keptNew k3
  have ec : createD (newD 1125899906842624) nmL = (oneD 1125899906842624 2 nmL [] 0, 0) := create_new 1125899906842624 nmL rnL
  have aC := hid (cCreate hD13 (by simp [newD]) (by simp [newD]) (by intro f hf; simp [newD] at hf) nmL (by unfold maxLen; simp [nmL]))
  rw [ec] at aC
  have hf1 : ∀ k ∈ foot dp1 mb1 [], w.heap.size ≤ k ∧ k < w1.heap.size := fun k hk => by simp [foot] at hk; rcases hk with rfl | rfl <;> omega
  have hf2 : ∀ k ∈ foot dp2 mb2 [], w1.heap.size ≤ k ∧ k < w3.heap.size := fun k hk => by simp [foot] at hk; rcases hk with rfl | rfl <;> omega
  have hz0 : w.heap.size ≤ w1.heap.size := by omega
  have H3 := hid (And.intro hD23 kw3)
  clear aV k3 H2 hD13 hD23 kw3
  go_wp2_with fail
  refine aC.out.mono ?_
  intro e w4 hO
  obtain ⟨p1, v1, B1, xs1, rfl, hA, m4, hi4⟩ := LD.ofOpn2 (w0 := w) hO rfl H3.out.2 (fun k hk => (hf1 k hk).1)
  dsimp only at hA ⊢
  have hno2 : ∀ k ∈ foot dp2 mb2 [], ¬ InL p1 dp1 mb1 xs1 B1 k := fun k hk hi => by
    have h1 := hf2 k hk
    rcases hi4 k hi with h | h
    · have := hf1 k h; omega
    · omega
  have hD24 := H3.out.1.kept m4.kp (fun k hk hm => by have h1 := hf2 k hk; have h2 := hf1 k hm; omega)
  have aC2 := hid (cCreate hD24 (by simp [newD]) (by simp [newD]) (by intro f hf; simp [newD] at hf) nmL (by unfold maxLen; simp [nmL]))
  rw [ec] at aC2
  have HA := hid hA
  have hno2' := hid hno2
  clear aC hO hA m4 hi4 H3 hD24 hno2 ec
  go_wp2_with fail
  refine aC2.out.mono ?_
  intro e w5 hO
  obtain ⟨p2, v2, B2, xs2, rfl, hBL, m5, hi5⟩ := LD.ofOpn2 (w0 := w) hO rfl HA.out.kp (fun k hk => by have := hf2 k hk; omega)
  dsimp only at hBL ⊢
  have hTw : Two w w5 p1 dp1 mb1 p2 dp2 mb2 xs1 xs2 (oneD 1125899906842624 2 nmL [] 0) (oneD 1125899906842624 2 nmL [] 0) nmL B1 B2 v1 v2 [] [] 0 0 :=
    ⟨HA.out.stay m5.kp (fun k hk => ⟨hno2'.out k hk, by have := hf2 k hk; omega⟩), hBL, fun k h1 h2 => by
      rcases hi5 k h2 with h | h
      · exact hno2'.out k h h1
      · have := (HA.out.inLt h1).1; omega⟩
  have HT : Hid (BtS w p1 dp1 mb1 p2 dp2 mb2 (fl ((RsL L).take 0)) (sg ((RsL L).take 0)) 2 2 w5) := ⟨xs1, xs2, 2, 0, 2, 0, B1, B2, v1, v2, Nat.le_refl _, Nat.le_refl _, by simpa [fl, sg, allB] using hTw⟩
  clear aC2 hO hBL m5 hi5 hTw HA hno2'
  go_wp2_with fail
  go_loopw [10, 12, 55, 65] (fun _ _ i _ wn => ∃ (j : Nat), j ≤ L.length ∧ i = .int .i64 j ∧ (∀ R ∈ (RsL L).take j, R = [] ∨ okR R = true) ∧ Hid (BtS w p1 dp1 mb1 p2 dp2 mb2 (fl ((RsL L).take j)) (sg ((RsL L).take j)) (2 + 2 * j) (2 + 2 * ((L.take j).map bulkL).sum) wn)) (fun _ _ i _ _ => L.length - (intOf i).toNat)
  case atStart => exact ⟨0, Nat.zero_le _, rfl, by simp, by simpa using HT⟩
  case round =>
    obtain ⟨j, hj, rfl, hokj, HI⟩ := hrel
    clear HT
    by_cases hlt : j < L.length
    · have hst := sum_take_le L j
      have hfo := fl_flat _ hokj
      rw [RsL_takeL] at hfo
      have hfle := flat_len (L.take j)
      have hl1 : (allB (fl ((RsL L).take j))).length ≤ 50000000 := by
        rw [RsL_takeL]
        have h1 := fl_len (L.take j)
        have h3 : (L.take j).length ≤ L.length := by rw [List.length_take]; omega
        show (allB (fl (RsL (L.take j)))).length ≤ _
        unfold RsL
        omega
      have hl2 : (allB (sg ((RsL L).take j))).length ≤ 50000000 := by
        rw [RsL_takeL]
        have h1 := sg_len (L.take j)
        omega
      obtain ⟨⟨g, o, ea, cL⟩, hAq, hyl⟩ := hcl.out j hlt _ HI.out.kp
      have hcl2 := hid (fun W k => (hcl.out j hlt W k).2.1)
      have hss : ((L.take (j + 1)).map bulkL).sum = ((L.take j).map bulkL).sum + bulkL L[j] := by rw [List.take_succ_eq_append_getElem hlt, List.map_append, List.sum_append]; simp
      have hst1 := sum_take_le L (j + 1)
      have hfr := frB_len L[j]
      have hsn := RsL_take hlt
      have hsb := sumB_bulk L[j].l
      have hbe : bulkL L[j] = (L[j].l.map fun y => y.bs.length + 1).sum := rfl
      obtain ⟨Y, hY⟩ : ∃ Y, L[j] = Y := ⟨_, rfl⟩
      rw [hY] at cL hAq hyl hss hfr hcl2 hsn hsb hbe
      obtain ⟨ya, yc, yl⟩ := Y
      dsimp only at cL hAq hyl hfr hcl2 hsn hsb hbe
      rw [← hbe] at hsb
      have aA := hid (HI.out.appA (by omega) (by omega) (by rw [RsL_takeL, hfo]; omega) ya yc yl hAq (by omega) ht'.out)
      have hsi : Hid (∀ i, (allB (sg ((RsL L).take j) ++ ((bsl yl).take i).map fun r => [r])).length ≤ 100000000 ∧ (sg ((RsL L).take j) ++ ((bsl yl).take i).map fun r => [r]).flatten.length ≤ 100000000) := fun i => by
        have h1 := recs_len yl i
        have h2 : ((bsl yl).take i).length ≤ (bsl yl).length := by rw [List.length_take]; omega
        rw [bsl_len] at h2
        rw [allB_app, List.length_append, List.flatten_append, List.length_append, one_flat, sg_flat, RsL_takeL]
        rw [RsL_takeL] at hl2
        omega
      have dj1 : (j : Int) < (L.length : Int) := by omega
      have dj0 : (0 : Int) ≤ (j : Int) := by omega
      have dj7 : (-9223372036854775808 : Int) ≤ (j : Int) + 1 := by omega
      have dj8 : (j : Int) + 1 ≤ 9223372036854775807 := by omega
      have hfs := fl_snoc ((RsL L).take j) (bsl yl)
      rw [← hsn] at hfs
      have hsg := sg_snoc ((RsL L).take j) (bsl yl)
      rw [← hsn] at hsg
      have hokn : Hid ((bsl yl = [] ∨ okR (bsl yl) = true) → ∀ R ∈ (RsL L).take (j + 1), R = [] ∨ okR R = true) := fun h R hR => by
        rw [hsn] at hR
        rcases List.mem_append.1 hR with h1 | h1
        · exact hokj R h1
        · simp at h1; subst h1; exact h
      have hfs' := hid hfs
      have hsg' := hid hsg
      clear hAq hsn hfs hsg hfr hokj hfo hfle hl1 hl2 hY hcl
      subst ea
      go_wp2_with fail
      refine aA.out.mono ?_
      rintro e w6 ⟨z, rfl, k6, h6⟩
      rw [← hfs'.out] at h6
      clear aA hfs' cL
      by_cases hz : z = 0
      · subst hz
        obtain ⟨hz1, hB6⟩ := h6 rfl
        have hokn' := hid (hokn.out hz1)
        have hok1 : Hid (∀ y ∈ yl, okR [y.bs] = true ∧ (frB [y.bs]).length ≤ 100000000) := fun y hy => by
          have hm : y.bs ∈ bsl yl := List.mem_map.2 ⟨y, hy, rfl⟩
          have hr : okR (bsl yl) = true := by
            rcases hz1 with h | h
            · rw [h] at hm; cases hm
            · exact h
          unfold okR at hr
          simp at hr
          have h1 := rec_one hr.2 hm
          refine ⟨by unfold okR; simp; exact h1, ?_⟩
          unfold frB
          rw [frameB_length]
          omega
        have HB6 : Hid (BtS w p1 dp1 mb1 p2 dp2 mb2 (fl ((RsL L).take (j + 1))) (sg ((RsL L).take j) ++ ((bsl yl).take 0).map fun r => [r]) (2 + 2 * j + 2) (2 + 2 * ((L.take j).map bulkL).sum + 2 * 0) w6) := by
          show BtS _ _ _ _ _ _ _ _ _ _ _ _
          simpa using hB6
        clear h6 hB6 hz1 hokn HI k6
        go_wp2_with fail
        go_loopw [12, 65] (fun _ i wn => ∃ (n : Nat), n ≤ yl.length ∧ i = .int .i64 n ∧ Hid (BtS w p1 dp1 mb1 p2 dp2 mb2 (fl ((RsL L).take (j + 1))) (sg ((RsL L).take j) ++ ((bsl yl).take n).map fun r => [r]) (2 + 2 * j + 2) (2 + 2 * ((L.take j).map bulkL).sum + 2 * n) wn)) (fun _ i _ => yl.length - (intOf i).toNat)
        case atStart => exact ⟨0, Nat.zero_le _, rfl, HB6⟩
        case round =>
          obtain ⟨n, hn, rfl, HJ⟩ := hrel
          clear HB6
          by_cases hln : n < yl.length
          · have hsz := hsi.out n
            have hmem := List.getElem_mem hln
            have hk1 := hok1.out _ hmem
            have htk : ((bsl yl).take (n + 1)).map (fun r => [r]) = ((bsl yl).take n).map (fun r => [r]) ++ [[yl[n].bs]] := by
              have hbl : n < (bsl yl).length := by rw [bsl_len]; exact hln
              rw [List.take_succ_eq_append_getElem hbl, List.map_append]
              simp [bsl]
            have hA0 := hcl2.out _ HJ.out.kp
            have hsee := (hA0 (fun _ => False) (fun _ h => h.elim)).see
            obtain ⟨g2, o2, ea2, cB⟩ := bsAt hsee (k := n) (x := yl[n]) (by simp [hln])
            have hAy : ∀ X : Nat → Prop, (∀ k, X k → w.heap.size ≤ k) → yl[n].ok wr ∧ (yl[n].bs ≠ [] → ∀ k ∈ blk yl[n].a, ¬ X k) ∧ yl[n].bs.length ≤ 140737488351232 := fun X hX => ⟨(hA0 X hX).ok _ hmem, (hA0 X hX).yb _ hmem, (hA0 X hX).len _ hmem⟩
            obtain ⟨y, hy⟩ : ∃ y, yl[n] = y := ⟨_, rfl⟩
            rw [hy] at cB hAy htk hk1
            obtain ⟨ba, bc, bb⟩ := y
            dsimp only at cB hAy htk hk1
            obtain ⟨y1, hy1⟩ : ∃ y, wr.alloc (.cells #[.slice ba bb.length bc] 32) = y := ⟨_, rfl⟩
            obtain ⟨q1, hq1⟩ : ∃ q, wr.heap.size = q := ⟨_, rfl⟩
            have ky1 : Kp [] wr y1 := by rw [← hy1]; exact (Kp.refl _ _).alloc _
            have hsy : BsE.See y1 (some ⟨q1, 0, none⟩) [⟨ba, bc, bb⟩] := by rw [← hy1]; exact bsNew wr hq1 _ _ _ rfl
            have aB := hid (HJ.out.appB ky1 (by omega) hsz.1 hsz.2 (some ⟨q1, 0, none⟩) ⟨ba, bc, bb⟩ (fun X hX => by
              obtain ⟨i1, i2, i3⟩ := hAy X (fun k hk => (hX k hk).1)
              refine ⟨hsy, fun y hy => ?_, fun _ k hk hx => ?_, fun y hy => ?_, by simp, fun y hy => ?_⟩
              · simp at hy; subst hy; exact i1.keptNew ky1
              · simp [blk] at hk; subst hk; have := (hX _ hx).2; omega
              · simp at hy; subst hy; exact i2
              · simp at hy; subst hy; exact i3) hk1.2 hk1.1 ht'.out)
            have htk' := hid htk
            have di1 : (n : Int) < (yl.length : Int) := by omega
            have di0 : (0 : Int) ≤ (n : Int) := by omega
            have di7 : (-9223372036854775808 : Int) ≤ (n : Int) + 1 := by omega
            have di8 : (n : Int) + 1 ≤ 9223372036854775807 := by omega
            clear hA0 hsee hAy hsy ky1 hy htk hsz hk1 hmem
            subst ea2
            go_wp2_with fail
            refine aB.out.mono ?_
            rintro e w7 ⟨rfl, hB7⟩
            have HB7 := hid hB7
            clear aB hB7
            go_wp2_with fail
            go_roundw
            case rel =>
              refine ⟨n + 1, by omega, by simp, ?_⟩
              rw [htk'.out, ← List.append_assoc]
              exact HB7
            case measure => simp [intOf]; omega
          · have di2 : decide ((n : Int) < (yl.length : Int)) = false := by simp; omega
            have hnl : n = yl.length := by omega
            have HJ2 : Hid (BtS w p1 dp1 mb1 p2 dp2 mb2 (fl ((RsL L).take (j + 1))) (sg ((RsL L).take (j + 1))) (2 + 2 * (j + 1)) (2 + 2 * ((L.take (j + 1)).map bulkL).sum) wr) := by
              have h := HJ.out
              have ht3 : (bsl yl).take n = bsl yl := List.take_of_length_le (by rw [bsl_len]; omega)
              rw [ht3, ← hsg'.out] at h
              exact h.le (by omega) (by rw [hss]; omega)
            clear HJ
            go_wp2_with fail
            go_roundw
            case rel => exact ⟨j + 1, by omega, by simp, hokn'.out, HJ2⟩
            case measure => simp [intOf]; omega
      · have e1 : (z != 0) = true := by simpa using hz
        have e2 : (z == 0) = false := by simpa using hz
        have K6 := hid k6
        clear h6 k6
        go_wp2_with fail
        go_ret
        exact ⟨rfl, K6.out.below⟩
    · have dj2 : decide ((j : Int) < (L.length : Int)) = false := by simp; omega
      have hjl : (RsL L).take j = RsL L := List.take_of_length_le (by rw [RsL_len]; omega)
      have hst := sum_take_le L j
      rw [hjl] at HI hokj
      have hfl := flat_len L
      have hl1 := fl_len L
      have hl2 := sg_len L
      have hM1 := fl_flat _ hokj
      have hM2 := sg_flat (RsL L)
      have hO := hid (HI.out.opn (by omega) (by omega) (by show (allB (fl (L.map fun x => bsl x.l))).length ≤ _; omega) (by omega) (fun R hR => fl_ok hR) (fun R hR => by
        obtain ⟨S, hS, h2⟩ := List.mem_flatMap.1 hR
        obtain ⟨r, hr, rfl⟩ := List.mem_map.1 h2
        rcases hokj S hS with h | h
        · rw [h] at hr; cases hr
        · unfold okR at h
          simp at h
          exact rec_one h.2 hr) (RsL L).flatten hM1 hM2 (by omega) (fun x hx => by have := flat_mem L x hx; omega) ht'.out)
      have hML : Hid ((RsL L).flatten.length ≤ 100000000) := by show _ ≤ _; omega
      clear hcl HI hokj hjl hfl hl1 hl2 hM1 hM2 hst
      go_wp2_with fail
      refine hO.out.mono ?_
      rintro e w6 ⟨p3, rfl, hO2⟩
      have HO2 := hid hO2
      clear hO hO2
      go_wp2_with fail
      refine HO2.out.mono ?_
      rintro e w7 ⟨p4, rfl, hF⟩
      have HF := hid hF
      have a1 := hid (hF.g1 w7 (Kp.refl _ _))
      clear HO2 hF
      go_wp2_with fail
      refine a1.out.mono ?_
      rintro e w8 ⟨r1, c1, m1, rfl, t1, o1, b1, k8⟩
      have a2 := hid (HF.out.g2 w8 k8)
      have H8 := hid (And.intro t1 (And.intro o1 (And.intro b1 k8)))
      clear a1 t1 o1 b1 k8
      go_wp2_with fail
      refine a2.out.mono ?_
      rintro e w9 ⟨r2, c2, m2, rfl, t2, o2, b2, k9⟩
      have a3 := hid (cSame2 (ca := c1) (cb := c2) hML.out (H8.out.1.keptNew k9) t2 (fun y hy => (H8.out.2.1 y hy).keptNew k9) o2 H8.out.2.2.1 b2)
      have H9 := hid (H8.out.2.2.2.trans k9 (by simp))
      clear a2 t2 o2 b2 k9 H8
      go_wp2_with fail
      refine a3.out.mono ?_
      rintro e w10 ⟨rfl, k10⟩
      have H10 := hid (H9.out.trans k10 (by simp))
      have a4 := hid (HF.out.g3 w10 H10.out)
      clear a3 k10 H9
      go_wp2_with fail
      refine a4.out.mono ?_
      rintro e w11 ⟨r3, c3, m3, rfl, t3, o3, b3, k11⟩
      have a5 := hid (HF.out.g4 w11 (H10.out.trans k11 (by simp)))
      have H11 := hid (And.intro t3 (And.intro o3 (And.intro b3 (H10.out.trans k11 (by simp)))))
      clear a4 t3 o3 b3 k11 H10
      go_wp2_with fail
      refine a5.out.mono ?_
      rintro e w12 ⟨r4, c4, m4, rfl, t4, o4, b4, k12⟩
      have a6 := hid (cSame2 (ca := c3) (cb := c4) hML.out (H11.out.1.keptNew k12) t4 (fun y hy => (H11.out.2.1 y hy).keptNew k12) o4 H11.out.2.2.1 b4)
      have H12 := hid (H11.out.2.2.2.trans k12 (by simp))
      clear a5 t4 o4 b4 k12 H11
      go_wp2_with fail
      refine a6.out.mono ?_
      rintro e w13 ⟨rfl, k13⟩
      have H13 := hid (H12.out.trans k13 (by simp))
      have a7 := hid (HF.out.g1 w13 H13.out)
      clear a6 k13 H12
      go_wp2_with fail
      refine a7.out.mono ?_
      rintro e w14 ⟨r5, c5, m5, rfl, t5, o5, b5, k14⟩
      have a8 := hid (HF.out.g3 w14 (H13.out.trans k14 (by simp)))
      have H14 := hid (And.intro t5 (And.intro o5 (And.intro b5 (H13.out.trans k14 (by simp)))))
      clear a7 t5 o5 b5 k14 H13
      go_wp2_with fail
      refine a8.out.mono ?_
      rintro e w15 ⟨r6, c6, m6, rfl, t6, o6, b6, k15⟩
      have a9 := hid (cSame2 (ca := c5) (cb := c6) hML.out (H14.out.1.keptNew k15) t6 (fun y hy => (H14.out.2.1 y hy).keptNew k15) o6 H14.out.2.2.1 b6)
      have H15 := hid (H14.out.2.2.2.trans k15 (by simp))
      clear a8 t6 o6 b6 k15 H14
      go_wp2_with fail
      refine a9.out.mono ?_
      rintro e w16 ⟨rfl, k16⟩
      have H16 := hid (HF.out.kp.trans (H15.out.trans k16 (by simp)) (by simp))
      clear a9 k16 H15
      go_wp2_with fail
      go_ret
      exact ⟨rfl, H16.out.below⟩
end Go.Proofs.YtpbogplmkenegabDoor
end

section
namespace Go.Proofs.YtpbogplmkenegabDoor
open Go.ChangeShapes Go.WideShapes Go.ChangeAt Go.RowKit Go.Hay
set_option linter.unusedVariables false

set_option maxRecDepth 100000 in
theorem redoBatchesContract (H : Type) (enc : TypeId × Value → H) (W : World) (base : Nat) (args : Array Value) (ds gs : List (DataW H)) (before : List MemPlace)
    (hval : ∀ (j : Nat) t v, Tryd.f3.params[j]? = some t → args[j]? = some v → Value.okWide Tryd.prog W .any base t v)
    (hW : DataW.Whole enc Tryd.prog Tryd.f3.params.toList Rows.redoBatchesSpec.vars false W args.toList ds gs before)
    (hsz : (DataW.weightsEach Tryd.prog (Tryd.f3.params.toList ++ (Rows.OpenSpec.upto Rows.redoBatchesSpec).bare.plain.varTypes Tryd.prog) (ds ++ gs)).all (· ≤ reachBytes) = true)
    (hk : Rows.uptoSmall H (ds ++ gs) = true)
    (hL : laidMetH Tryd.prog Rows.redoBatchesUptoRow.laid W) :
    Calls Tryd.prog 3 args W fun e W' => ∃ v, e = .returned v ∧ Rows.redoBatchesSpec.post enc Tryd.prog Tryd.f3 false true false false W args v W' := by
  have hW' := hW
  obtain ⟨p, q, hA0, hV, rfl, hfz, hnd⟩ := hW
  have hA : DataW.TrodAll enc Tryd.prog W 0 (fun _ => true) true Tryd.f3.params.toList args.toList ds p := hA0
  rw [Tryd.params3] at hA hval hsz
  obtain ⟨v0, vs0, d0, ds0, p0, q0, hargs, rfl, rfl, h0, r0⟩ := trodAll_cons hA
  obtain ⟨rfl, rfl, rfl⟩ := trodAll_nil r0
  obtain rfl : args = #[v0] := by cases args; simp_all
  obtain ⟨rfl, rfl⟩ := trodVars_none hV
  obtain ⟨a0, len0, cap0, rfl⟩ := okWide_slice Tryd.underlying22 (hval 0 22 v0 rfl rfl)
  have k0 := h0
  have lt0 : ∀ x ∈ p0, x.block < W.heap.size := by obtain ⟨m, hm⟩ := k0; exact DataW.trod_lt m _ _ _ hm
  obtain ⟨l0, rfl, hs0, hok0, hl0, hm0, hn0, hfit0, hbk0, hcp0⟩ := openBlls h0
  obtain ⟨hc0, hq0⟩ := hfit0 (List.all_eq_true.2 fun x hx => List.all_eq_true.1 hsz x (by simp [DataW.weightsEach]; first | exact .inl hx | exact .inr hx | exact .inr (.inl hx) | exact .inr (.inr hx) | exact hx))
  have hbk := of_decide_eq_true hk
  simp only [List.append_nil, Rows.uptoBulkAll] at hbk
  clear hA0
  refine (batchesWalk9 a0 cap0 l0 W (table hL) hs0 hok0 (by omega) (by omega)).mono fun e W' ⟨he, bel⟩ => ?_
  subst he
  exact ⟨_, rfl, _, _, _, [], _, [], hW', trodAll_mk1 (shut_bool Tryd.underlying4 _), (trodAll_cons_mk (Below.trod Tryd.laidOut (by kernel_rfl) (of_decide_eq_true (by kernel_rfl)) k0 bel lt0) trodAll_mk0), rfl, bel.frame _, fun h => by cases h⟩

set_option maxRecDepth 100000 in
theorem redoBatchesLifted (os : Os) (started : os.Started) (H : Type) (enc : TypeId × Value → H) (F : Stop.Interp) :
    ReturnsInHanded {} Tryd.checked os 3 .any ((Rows.OpenSpec.upto Rows.redoBatchesSpec).preRow enc Tryd.prog Tryd.f3 Rows.redoBatchesUptoRow.domain false Rows.redoBatchesUptoRow.laid) (((Rows.OpenSpec.upto Rows.redoBatchesSpec).at F).post enc Tryd.prog Tryd.f3 false true false false) := by
  refine returnsInHanded_of_row (C := Tryd.checked) (s := Rows.OpenSpec.upto Rows.redoBatchesSpec) Tryd.own started (by kernel_rfl) Tryd.func3
    (witness_row_at (enc := enc) (C := Tryd.checked) false ({ World.holding Tryd.prog os ⟨#[], #[], []⟩ with heap := (World.holding Tryd.prog os ⟨#[], #[], []⟩).heap.modify 0 fun
      | .cells _ t frozen => .cells tabCells t frozen
      | o => o }) #[.slice none 0 0] rfl (by kernel_rfl) (by kernel_rfl) (by kernel_rfl)
      (OpenSpec.preRow_of_cond (x := ([.nil], [], [])) 8 (by kernel_rfl) (by kernel_rfl) (fun k hk => by cases hk; kernel_rfl) (by kernel_rfl) (laidMet_of_run' 8 (by kernel_rfl) (by kernel_rfl)))) ?_
  intro W base args ds gs before hval hW _ hcond hsz hL _ _
  exact redoBatchesContract H enc W base args ds gs before hval hW hsz (hcond _ rfl) hL

theorem redoBatchesSaid : Rows.RedoBatchesUptoSaid :=
  OpenClaim.holds_of_cond 3 Tryd.f3 rfl rfl rfl rfl rfl rfl rfl ⟨rfl, rfl, rfl, rfl, rfl⟩ rfl rfl rfl rfl rfl (by kernel_rfl) Tryd.func3 (by kernel_rfl)
    (of_decide_eq_true (by kernel_rfl)) (by unfold Func.isWrapper; first | (rw [if_pos (by decide +kernel)]; kernel_rfl) | (rw [if_neg (by decide +kernel)]; exact ⟨rfl, rfl⟩))
    (fun os started H enc _ F => by rw [OpenClaim.pre_eq_preRow]; exact redoBatchesLifted os started H enc F)

theorem redoBatchesPlain (f : FuncId) (fn : Func) (hf : Tryd.pinned.checked.prog.funcNamed "hayloft/hayloftlaw09.RedoBatches" = some f) (hfn : Tryd.pinned.checked.prog.funcs[f]? = some fn) :
    false = Tryd.pinned.checked.prog.looks [] ∧ ∀ (j : Nat) t, fn.params[j]? = some t → Tryd.pinned.checked.prog.wantsStandIn t = false := by
  obtain rfl : f = 3 := Option.some.inj ((show Tryd.prog.funcNamed "hayloft/hayloftlaw09.RedoBatches" = some 3 by kernel_rfl).symm.trans hf) |>.symm
  obtain rfl : fn = Tryd.f3 := (Option.some.inj (Tryd.func3.symm.trans hfn)).symm
  refine ⟨by kernel_rfl, fun j t ht => ?_⟩
  rw [Tryd.params3] at ht
  have hm := Array.mem_of_getElem? ht
  have h2 : t = 22 := by simpa using hm
  subst h2
  exact (show Tryd.prog.wantsStandIn 22 = false by kernel_rfl)

theorem RedoBatches_holds : Rows.RedoBatchesUptoCardSaid :=
  Claim7.holds_tied_plain_at .later [] _ _ _ _ redoBatchesSaid (fun _ h => by cases h) (by kernel_rfl) (fun _ h => by cases h) redoBatchesUpto_row_tie rfl ⟨rfl, rfl⟩ (by kernel_rfl) rfl redoBatchesPlain (by kernel_rfl)
#print axioms RedoBatches_holds
end Go.Proofs.YtpbogplmkenegabDoor
end

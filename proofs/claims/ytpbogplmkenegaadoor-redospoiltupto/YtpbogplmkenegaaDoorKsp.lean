/- One bit that is turned in the file of a log that is up, whichever it is, is found: the log is not opened any more; where what is given is of bulk at most 1048576. -/
import Derived.Test.YtpbogplmkenegaaDoorB12
import Derived.SizedLaws
import Derived.JoinedCond
import Derived.Deep.CondSized
section
namespace Go.Proofs.YtpbogplmkenegaaDoor
open Go.ChangeShapes Go.WideShapes Go.ChangeAt Go.RowKit Go.Hay
set_option linter.unusedVariables false
set_option linter.unusedSimpArgs false

/-- A frame of records. -/
def frB (R : List (List UInt8)) : List UInt8 := frameB (recB R)
theorem frB_pos (R : List (List UInt8)) : 12 ≤ (frB R).length := by unfold frB; rw [frameB_length]; omega
def allB (l : List (List (List UInt8))) : List UInt8 := l.flatMap frB
theorem allB_snoc (l : List (List (List UInt8))) (R : List (List UInt8)) : allB (l ++ [R]) = allB l ++ frB R := by simp [allB]
/-- The records of the frames that are whole in so many bytes; how many bytes these have. -/
def torn : List (List (List UInt8)) → Nat → List (List UInt8) × Nat
  | [], _ => ([], 0)
  | R :: l, c => if (frB R).length ≤ c then (R ++ (torn l (c - (frB R).length)).1, (frB R).length + (torn l (c - (frB R).length)).2) else ([], 0)
theorem torn_snoc : ∀ (l : List (List (List UInt8))) (R : List (List UInt8)) (c : Nat), torn (l ++ [R]) c = if (allB (l ++ [R])).length ≤ c then ((torn l c).1 ++ R, (allB (l ++ [R])).length) else torn l c
  | [], R, c => by
    simp only [List.nil_append, torn, allB, List.flatMap_cons, List.flatMap_nil, List.append_nil, List.nil_append, Nat.add_zero]
  | R0 :: l, R, c => by
    have ih := torn_snoc l R (c - (frB R0).length)
    have e : (allB (R0 :: (l ++ [R]))).length = (frB R0).length + (allB (l ++ [R])).length := by simp [allB]
    rw [List.cons_append, torn, torn, e]
    by_cases h : (frB R0).length ≤ c
    · rw [if_pos h, if_pos h, ih]
      by_cases h2 : (allB (l ++ [R])).length ≤ c - (frB R0).length
      · rw [if_pos h2, if_pos (by omega)]; simp [List.append_assoc]
      · rw [if_neg h2, if_neg (by omega)]
    · rw [if_neg h, if_neg h, if_neg (by omega)]
theorem rdQ_torn : ∀ (l : List (List (List UInt8))) (c : Nat), (∀ R ∈ l, (recB R).length ≤ 16777216) → rdQ ((allB l).take c) = ((torn l c).1, (torn l c).2, 0)
  | [], c, _ => by simp [allB, torn, rdQ_nil]
  | R :: l, c, h => by
    have hR := h R (by simp)
    have e : allB (R :: l) = frB R ++ allB l := by simp [allB]
    rw [torn, e]
    by_cases hc : (frB R).length ≤ c
    · rw [if_pos hc, List.take_append, List.take_of_length_le hc]
      unfold frB
      rw [rdQ_frame R hR, rdQ_torn l _ (fun x hx => h x (by simp [hx]))]
      simp [finQ, frB]
    · rw [if_neg hc, List.take_append, show c - (frB R).length = 0 by omega, List.take_zero, List.append_nil]
      have hu := unf_cut (recB R) hR c (by have := frameB_length (recB R); unfold frB at hc; omega)
      exact rdQ_short (by unfold frB; rw [hu])
/-- A slice of slices of bytes, and what it sees. -/
structure Ls where
  a : Option Addr
  c : Nat
  l : List Bs
instance : Inhabited Ls := ⟨⟨none, 0, []⟩⟩
structure Ls.ok (w : World) (x : Ls) : Prop where
  see : BsE.See w x.a x.l
  ok : ∀ y ∈ x.l, y.ok w
theorem Ls.ok.keptNew {w w' : World} {x : Ls} (h : x.ok w) (hk : Kp [] w w') : x.ok w' := ⟨h.see.keptNew hk, fun y hy => (h.ok y hy).keptNew hk⟩
def LsE : El Ls where
  n := 1
  c x := [.slice x.a x.l.length x.c]
  len _ := rfl
  one _ u hu := by simp at hu; subst hu; rfl
  pos := by decide
theorem lsAt {w : World} {a : Option Addr} {l : List Ls} (h : LsE.See w a l) {k : Nat} {x : Ls} (hx : l[k]? = some x) : ∃ g o, a = some ⟨g, o, none⟩ ∧ w.cell? ⟨g, o + k, none⟩ = some (.slice x.a x.l.length x.c) := by
  obtain ⟨g, o, e, hc⟩ := h.at hx
  refine ⟨g, o, e, ?_⟩
  have := hc 0 _ rfl
  simpa [LsE] using this
def bulkL (x : Ls) : Nat := (x.l.map fun y => y.bs.length + 1).sum
theorem cellsLs : Tryd.prog.cellsOf 23 = 1 := by kernel_rfl
theorem bytesLs : Tryd.prog.bytesOf 23 = 24 := by kernel_rfl
section
variable {H : Type} {enc : TypeId × Value → H} {W : World} {a : Option Addr} {len cap : Nat} {d : DataW H} {ps : List MemPlace}
theorem openBlls (h : DataW.Trod enc Tryd.prog W 0 (fun _ => true) true 32 (.slice a len cap) d ps) :
    ∃ l : List Ls, len = l.length ∧ LsE.See W a l ∧ (∀ y ∈ l, y.ok W) ∧ l.length ≤ cap ∧ cap ≤ maxLen ∧ (a = none → cap = 0) ∧ (Fit 32 d → cap * 24 ≤ 140737488351232 ∧ ∀ y ∈ l, True) ∧ (l.map bulkL).sum ≤ Rows.uptoBulk d ∧ cap + 1 ≤ Rows.uptoBulk d :=
  openEls LsE Tryd.underlying32 cellsLs 24 bytesLs (fun y => y.ok W) (fun _ => True) bulkL (fun fuel cs x hx hcs => by
    obtain ⟨v, rfl⟩ := one_of hcs
    have hv : ∃ a len cap, v = .slice a len cap := by
      rcases Go.Deep.open_slice Tryd.underlying23 hx with ⟨hcs, _⟩ | ⟨a, len, cap, _, _, _, _, hcs, _⟩
      · exact ⟨none, 0, 0, by simpa using hcs⟩
      · exact ⟨_, _, _, by simpa using hcs⟩
    obtain ⟨a, len, cap, rfl⟩ := hv
    have ht : DataW.Trod enc Tryd.prog W 0 (fun _ => true) true 23 (.slice a len cap) x.1 x.2 := ⟨fuel, hx⟩
    obtain ⟨l, rfl, hs, hok, hl, hm, hn, _, hbk, _⟩ := openBlists ht
    exact ⟨⟨a, cap, l⟩, ⟨hs, hok⟩, rfl, fun _ => trivial, hbk⟩) h
end
theorem sumB_bulk : ∀ l : List Bs, sumB (bsl l) + l.length = (l.map fun y => y.bs.length + 1).sum
  | [] => rfl
  | x :: l => by
    have := sumB_bulk l
    simp only [bsl, sumB, List.map_cons, List.sum_cons, List.length_cons] at this ⊢
    omega
theorem frB_len (x : Ls) : (frB (bsl x.l)).length ≤ 21 * bulkL x + 21 := by
  have h1 := (recB_len (bsl x.l)).2
  have h2 := sumB_bulk x.l
  rw [bsl_len] at h1
  unfold frB bulkL
  rw [frameB_length, ← h2]
  omega
theorem allB_len : ∀ l : List Ls, (allB (l.map fun x => bsl x.l)).length ≤ 21 * (l.map bulkL).sum + 21 * l.length
  | [] => by simp [allB]
  | x :: l => by
    have h1 := frB_len x
    have h2 := allB_len l
    have e : allB ((x :: l).map fun x => bsl x.l) = frB (bsl x.l) ++ allB (l.map fun x => bsl x.l) := by simp [allB]
    rw [e, List.length_append]
    simp only [List.map_cons, List.sum_cons, List.length_cons] at h2 ⊢
    omega
end Go.Proofs.YtpbogplmkenegaaDoor
end

section
namespace Go.Proofs.YtpbogplmkenegaaDoor
open Go.RowKit Go.Hay
set_option linter.unusedVariables false
set_option linter.unusedSimpArgs false

theorem unf_turnedM (bs more : List UInt8) (h : bs.length ≤ 16777216) (i : Nat) (hi : i < (frameB bs).length) (y : UInt8) (hget : (frameB bs ++ more)[i]? ≠ some y) : unf ((frameB bs ++ more).set i y) = ([], 0, 14) := by
  have hl := frameB_length bs
  have key : ∀ (a b : List UInt8) (j : Nat) (z : UInt8), a.length = b.length → j < a.length → a[j]? ≠ some z → a.set j z = b → num a ≠ num b := by
    intro a b j z hab hj hne he hn
    have := num_inj a b hab hn
    subst this
    apply hne
    have h2 := congrArg (fun l => l[j]?) he
    simp only [List.getElem?_set_self hj] at h2
    exact h2.symm
  have fs := frame_split bs more
  rw [fs] at hget ⊢
  have hcL : num (be (crc (be bs.length 4)) 4) = crc (be bs.length 4) := num_be4 _ (crc_lt _)
  by_cases c1 : i < 4
  · rw [List.getElem?_append_left (by rw [be_length]; omega)] at hget
    rw [List.set_append_left _ _ (by rw [be_length]; omega), unf_parts _ _ _ (by rw [List.length_set, be_length]) (be_length _ _), if_pos]
    rw [hcL]
    refine set_split _ i (by rw [be_length]; omega) y (fun e => hget ?_)
    rw [← e, List.getElem?_eq_getElem]
  rw [List.getElem?_append_right (by rw [be_length]; omega)] at hget
  rw [List.set_append_right _ _ (by rw [be_length]; omega)]
  rw [be_length] at hget ⊢
  by_cases c2 : i - 4 < 4
  · rw [List.getElem?_append_left (by rw [be_length]; omega)] at hget
    rw [List.set_append_left _ _ (by rw [be_length]; omega), unf_parts _ _ _ (be_length _ _) (by rw [List.length_set, be_length]), if_pos]
    intro e
    exact key _ _ (i - 4) y (by rw [List.length_set]) (by rw [be_length]; omega) hget rfl (by rw [e, hcL])
  rw [List.getElem?_append_right (by rw [be_length]; omega)] at hget
  rw [List.set_append_right _ _ (by rw [be_length]; omega)]
  rw [be_length] at hget ⊢
  by_cases c3 : i - 4 - 4 < bs.length
  · rw [List.getElem?_append_left c3] at hget
    rw [List.set_append_left _ _ c3]
    have := unf_tail bs (be (crc bs) 4) more h (bs.set (i - 4 - 4) y) (by rw [List.length_set]) (be_length _ _)
    rw [this, if_pos]
    rw [num_be4 _ (crc_lt _)]
    refine set_split _ _ c3 y (fun e => hget ?_)
    rw [← e, List.getElem?_eq_getElem]
  · rw [List.getElem?_append_right (by omega)] at hget
    rw [List.getElem?_append_left (by rw [be_length]; omega)] at hget
    rw [List.set_append_right _ _ (by omega), List.set_append_left _ _ (by rw [be_length]; omega)]
    have := unf_tail bs ((be (crc bs) 4).set (i - 4 - 4 - bs.length) y) more h bs rfl (by rw [List.length_set, be_length])
    rw [this, if_pos]
    intro e
    exact key _ _ (i - 4 - 4 - bs.length) y (by rw [List.length_set]) (by rw [be_length]; omega) hget rfl (by rw [e, num_be4 _ (crc_lt _)])
theorem rdQ_turned : ∀ (l : List (List (List UInt8))) (i : Nat) (y : UInt8), (∀ R ∈ l, (recB R).length ≤ 16777216) → i < (allB l).length → (allB l)[i]? ≠ some y → rdQ ((allB l).set i y) = ([], 0, 91)
  | [], i, y, _, hi, _ => by simp [allB] at hi
  | R :: l, i, y, h, hi, hy => by
    have hR := h R (by simp)
    have e : allB (R :: l) = frB R ++ allB l := by simp [allB]
    rw [e] at hi hy ⊢
    by_cases hc : i < (frB R).length
    · have hu := unf_turnedM (recB R) (allB l) hR i hc y hy
      refine rdQ_bad (fun e => ?_) (by unfold frB; rw [hu]; decide) (by unfold frB; rw [hu]; decide)
      have := congrArg List.length e
      rw [List.length_set] at this
      simp only [List.length_nil] at this
      omega
    · rw [List.getElem?_append_right (by omega)] at hy
      rw [List.set_append_right _ _ (by omega)]
      rw [List.length_append] at hi
      have ih := rdQ_turned l (i - (frB R).length) y (fun x hx => h x (by simp [hx])) (by omega) hy
      unfold frB at ih ⊢
      rw [rdQ_frame R hR, ih]
      simp [finQ]
/-- What is appended. -/
def okR (R : List (List UInt8)) : Bool := decide (R ≠ []) && decide ((recB R).length ≤ 16777216)
def fl (l : List (List (List UInt8))) : List (List (List UInt8)) := l.filter okR
theorem fl_snoc (l : List (List (List UInt8))) (R : List (List UInt8)) : fl (l ++ [R]) = if okR R = true then fl l ++ [R] else fl l := by
  unfold fl
  rw [List.filter_append]
  by_cases h : okR R = true
  · rw [if_pos h]; simp [h]
  · rw [if_neg h]; simp [h]
theorem fl_ok {l : List (List (List UInt8))} {R : List (List UInt8)} (h : R ∈ fl l) : (recB R).length ≤ 16777216 := by
  have := (List.mem_filter.1 h).2
  unfold okR at this
  simp at this
  exact this.2
theorem app_one (r s : Nat) (nm x : List UInt8) (k : Nat) (hn : nameOk nm = true) (R : List (List UInt8)) (h : x.length + (frB R).length ≤ r) :
    (okR R = true → appQ (oneD r s nm x k) nm R = (oneD r (s + 2) nm (x ++ frB R) (x ++ frB R).length, 0) ∧ appS R = (frB R).length) ∧ (okR R = false → (appQ (oneD r s nm x k) nm R).1 = oneD r s nm x k ∧ ((appQ (oneD r s nm x k) nm R).2 = 0 → R = [] ∧ appS R = 0)) := by
  constructor
  · intro ho
    unfold okR at ho
    simp at ho
    have e : frmR R = (frB R, 0) := by unfold frmR frB; rw [if_pos ho.2]
    constructor
    · unfold appQ
      rw [if_neg ho.1, e, if_neg (by simp)]
      exact write_one _ _ _ _ _ _ hn h
    · unfold appS
      rw [if_neg ho.1, e]
  · intro ho
    unfold okR at ho
    simp at ho
    by_cases h0 : R = []
    · subst h0
      exact ⟨by simp [appQ], fun _ => ⟨rfl, by simp [appS]⟩⟩
    · have e : frmR R = ([], 90) := by unfold frmR; rw [if_neg (by have := ho h0; omega)]
      constructor
      · unfold appQ; rw [if_neg h0, e, if_pos (by simp)]
      · intro hh
        unfold appQ at hh
        rw [if_neg h0, e, if_pos (by simp)] at hh
        simp at hh
theorem flip_one (r s : Nat) (nm x : List UInt8) (k : Nat) (i b : Int) : flipOk (oneD r s nm x k) nm i b = (decide (0 ≤ i) && decide (i < x.length) && decide (0 ≤ b) && decide (b ≤ 7)) ∧ (flipOk (oneD r s nm x k) nm i b = true → flipD (oneD r s nm x k) nm i b = oneD r s nm (flipB x i.toNat b.toNat) k) := by
  have hl : lookG Fl.name nm (oneD r s nm x k).files = some ⟨nm, x, k⟩ := by simp [lookG, oneD]
  refine ⟨by unfold flipOk; rw [hl], fun h => ?_⟩
  unfold flipD
  rw [if_pos h, file_one]
  simp [oneD, putG]
  cases leN nm nm <;> rfl
theorem xor_pow (y : UInt8) (b : Nat) (hb : b ≤ 7) : y ^^^ UInt8.ofNat (2 ^ b) ≠ y := by
  intro h
  have h2 := congrArg UInt8.toNat h
  have e : (y ^^^ UInt8.ofNat (2 ^ b)).toNat = y.toNat ^^^ (UInt8.ofNat (2 ^ b)).toNat := UInt8.toNat_xor _ _
  rw [e] at h2
  refine xor_ne y.toNat (UInt8.ofNat (2 ^ b)).toNat ?_ h2
  have : b = 0 ∨ b = 1 ∨ b = 2 ∨ b = 3 ∨ b = 4 ∨ b = 5 ∨ b = 6 ∨ b = 7 := by omega
  rcases this with rfl | rfl | rfl | rfl | rfl | rfl | rfl | rfl <;> decide
theorem flip_turned (l : List (List (List UInt8))) (h : ∀ R ∈ l, (recB R).length ≤ 16777216) (i b : Nat) (hi : i < (allB l).length) (hb : b ≤ 7) : rdQ (flipB (allB l) i b) = ([], 0, 91) := by
  unfold flipB
  refine rdQ_turned l i _ h hi ?_
  rw [List.getElem?_eq_getElem hi]
  intro e
  have e2 := Option.some.inj e
  have e3 : (allB l).getD i 0 = (allB l)[i] := by simp [List.getD, List.getElem?_eq_getElem hi]
  rw [e3] at e2
  exact xor_pow _ b hb e2.symm
theorem open_spoilt (r s : Nat) (nm x : List UInt8) (k : Nat) (h : rdQ x = ([], 0, 91)) : openD rdQ (oneD r s nm x k) nm = (oneD r s nm x k, 91) := by
  unfold openD
  have hl : lookG Fl.name nm (oneD r s nm x k).files = some ⟨nm, x, k⟩ := by simp [lookG, oneD]
  rw [if_neg (by simp [oneD])]
  simp only [hl, h]
  rw [if_pos (by decide)]
end Go.Proofs.YtpbogplmkenegaaDoor
end

section
namespace Go.Proofs.YtpbogplmkenegaaDoor
open Go.RowKit Go.Hay
set_option linter.unusedVariables false
set_option linter.unusedSimpArgs false

/-- How the two rows stand. -/
structure TnI (w W : World) (ba : Option Addr) (bc : Nat) (bs : List UInt8) (va : Option Addr) (vc : Nat) (vl : List Bs) : Prop where
  b : Row W (.slice ba bs.length bc) bs
  v : BsE.Row W (.slice va vl.length vc) vl
  bn : ∀ k ∈ blk ba, w.heap.size ≤ k
  vn : ∀ k ∈ blk va, w.heap.size ≤ k
  ne : ∀ k ∈ blk ba, k ∉ blk va
  ok : ∀ y ∈ vl, y.ok w
  kp : Kp [] w W
theorem TnI.keep {w W W' : World} {ba : Option Addr} {bc : Nat} {bs : List UInt8} {va : Option Addr} {vc : Nat} {vl : List Bs} (h : TnI w W ba bc bs va vc vl) (k : Kp [] W W') : TnI w W' ba bc bs va vc vl :=
  ⟨h.b.kept k (by simp), h.v.keptNew k, h.bn, h.vn, h.ne, h.ok, h.kp.trans k (by simp)⟩
theorem TnI.addB {w W W' : World} {ba : Option Addr} {bc : Nat} {bs bs' : List UInt8} {va : Option Addr} {vc : Nat} {vl : List Bs} (h : TnI w W ba bc bs va vc vl) {a' : Option Addr} {c' : Nat} (hr : Row W' (.slice a' bs'.length c') bs') (k : Kp (own (.slice ba bs.length bc)) W W') (hn : ∀ j ∈ own (.slice a' bs'.length c'), j ∈ own (.slice ba bs.length bc) ∨ W.heap.size ≤ j) : TnI w W' a' c' bs' va vc vl := by
  rw [ownQ] at k
  simp only [ownQ] at hn
  refine ⟨hr, h.v.kept k (fun j hj hm => h.ne j hm (by rw [ownQ] at hj; exact hj)), fun j hj => ?_, h.vn, fun j hj hm => ?_, h.ok, h.kp.trans k (fun j hj => .inr (h.bn j hj))⟩
  · rcases hn j hj with e | e
    · exact h.bn j e
    · have := h.kp.size; omega
  · rcases hn j hj with e | e
    · exact h.ne j e hm
    · have := h.v.lt j (by rw [ownQ]; exact hm); omega
theorem TnI.addV {w W W' : World} {ba : Option Addr} {bc : Nat} {bs : List UInt8} {va : Option Addr} {vc : Nat} {vl vl' : List Bs} (h : TnI w W ba bc bs va vc vl) {a' : Option Addr} {c' : Nat} (hr : BsE.Row W' (.slice a' vl'.length c') vl') (k : Kp (own (.slice va vl.length vc)) W W') (hn : ∀ j ∈ own (.slice a' vl'.length c'), j ∈ own (.slice va vl.length vc) ∨ W.heap.size ≤ j) (ho : ∀ y ∈ vl', y.ok w) : TnI w W' ba bc bs a' c' vl' := by
  rw [ownQ] at k
  simp only [ownQ] at hn
  refine ⟨h.b.kept k (fun j hj hm => h.ne j (by rw [ownQ] at hj; exact hj) hm), hr, h.bn, fun j hj => ?_, fun j hj hm => ?_, ho, h.kp.trans k (fun j hj => .inr (h.vn j hj))⟩
  · rcases hn j hj with e | e
    · exact h.vn j e
    · have := h.kp.size; omega
  · rcases hn j hm with e | e
    · exact h.ne j hj e
    · have := h.b.lt j (by rw [ownQ]; exact hj); omega
theorem appBs {W : World} {a : Option Addr} {c : Nat} {l : List Bs} (h : BsE.Row W (.slice a l.length c) l) (a2 : Option Addr) (c2 : Nat) (ys : List Bs) (hs : BsE.See W a2 ys) (hl : l.length + ys.length ≤ 1000000000) :
    ∃ a' c' W', (Builtin.append_ #[23, 23] 23 #[.slice a l.length c, .slice a2 ys.length c2]).run Tryd.prog W = .ok (.slice a' (l ++ ys).length c') W' ∧ BsE.Row W' (.slice a' (l ++ ys).length c') (l ++ ys) ∧ Kp (own (.slice a l.length c)) W W' ∧ ∀ k ∈ own (.slice a' (l ++ ys).length c'), k ∈ own (.slice a l.length c) ∨ W.heap.size ≤ k := by
  obtain ⟨i0, hi, hz0, hz1, hz2⟩ := infoSl
  have hsrc := hs.src (P := Tryd.prog) Tryd.underlying23 c2
  obtain ⟨v6, X4, hrun2, hrow6, kk6, hn6⟩ := run_appendG (E := BsE) (P := Tryd.prog) _ 23 23 23 22 i0 _ 24 Tryd.underlying23 hi hz0 hz1 hz2 rfl (.slice a l.length c) l h _ ys hsrc (by omega) (by omega)
  obtain ⟨a6, c6, rfl, _⟩ := hrow6.see
  exact ⟨a6, c6, X4, hrun2, hrow6, kk6, hn6⟩
def RsL (L : List Ls) : List (List (List UInt8)) := L.map fun x => bsl x.l
theorem RsL_len (L : List Ls) : (RsL L).length = L.length := by simp [RsL]
theorem RsL_take {L : List Ls} {j : Nat} (h : j < L.length) : (RsL L).take (j + 1) = (RsL L).take j ++ [bsl L[j].l] := by
  rw [List.take_succ_eq_append_getElem (by rw [RsL_len]; exact h)]
  simp [RsL]
theorem RsL_takeL (L : List Ls) (j : Nat) : (RsL L).take j = RsL (L.take j) := by simp [RsL]
theorem sum_take_le (L : List Ls) (j : Nat) : ((L.take j).map bulkL).sum ≤ (L.map bulkL).sum := by
  induction L generalizing j with
  | nil => simp
  | cons x L ih =>
    cases j with
    | zero => simp
    | succ j => have := ih j; simp only [List.take_succ_cons, List.map_cons, List.sum_cons]; omega
theorem bulk_mem {L : List Ls} {x : Ls} (h : x ∈ L) : bulkL x ≤ (L.map bulkL).sum := by
  induction L with
  | nil => cases h
  | cons y L ih =>
    simp only [List.map_cons, List.sum_cons]
    rcases List.mem_cons.1 h with rfl | h
    · omega
    · have := ih h; omega
theorem torn_len : ∀ (l : List (List (List UInt8))) (c : Nat), (torn l c).1.length ≤ (torn l c).2 ∧ (torn l c).2 ≤ (allB l).length
  | [], c => by simp [torn, allB]
  | R :: l, c => by
    have ih := torn_len l (c - (frB R).length)
    have e : (allB (R :: l)).length = (frB R).length + (allB l).length := by simp [allB]
    have hr := (recB_len R).1
    have hR : R.length ≤ (frB R).length := by
      have h1 := txB_len R
      have h2 : ∀ S : List (List UInt8), S.length ≤ (txB S).length := by
        intro S
        induction S with
        | nil => simp
        | cons x S ih =>
          have := textB_len x
          have e2 : txB (x :: S) = textB x ++ txB S := by simp [txB]
          rw [e2, List.length_append, List.length_cons]; omega
      have h3 := h2 R
      unfold frB
      rw [frameB_length]
      have e3 : recB R = varB R.length ++ txB R := rfl
      rw [e3, List.length_append]
      omega
    rw [torn, e]
    split
    · simp only [List.length_append]; omega
    · simp
set_option maxHeartbeats 16000000 in
set_option maxRecDepth 100000 in
theorem tornWalk9 (a : Option Addr) (c : Nat) (L : List Ls) (cut : Int) (w : World) (ht : Tab w) (hs : LsE.See w a L) (hok : ∀ x ∈ L, x.ok w) (hL : L.length ≤ 1048576) (hbk : (L.map bulkL).sum ≤ 1048576) (hcut : -9223372036854775808 ≤ cut ∧ cut ≤ 9223372036854775807) :
    Calls Tryd.prog 4 #[.slice a L.length c, .int .i64 cut] w fun e w' => e = .returned (.bool true) ∧ Below w.heap.size w w' := by
  have hal : Hid (∀ W, Kp [] w W → Calls Tryd.prog 12 #[] W fun e w' => e = .returned (.bool true) ∧ Kp [] W w') := fun W k => cAliveQ W (ht.kept k (by simp))
  have hFr : Hid (∀ (j : Nat) (h : j < L.length) (W : World), Kp [] w W → (∃ g o, a = some ⟨g, o, none⟩ ∧ W.cell? ⟨g, o + j, none⟩ = some (.slice L[j].a L[j].l.length L[j].c)) ∧ Calls Tryd.prog 10 #[.slice L[j].a L[j].l.length L[j].c] W (FrP (frmR (bsl L[j].l)) W) ∧ BsE.See W L[j].a L[j].l) := fun j h W k => by
    obtain ⟨g, o, e, hc⟩ := lsAt hs (k := j) (x := L[j]) (by simp [h])
    have ho := hok L[j] (List.getElem_mem h)
    have hb := bulk_mem (List.getElem_mem h)
    have hsb := sumB_bulk L[j].l
    have hk' : bulkL L[j] = (L[j].l.map fun y => y.bs.length + 1).sum := rfl
    exact ⟨⟨g, o, e, (k.cell (p := ⟨g, o + j, none⟩) (World.block_lt_of_cell? _ _ hc) (by simp)).trans hc⟩, cFrames _ _ _ W (ht.kept k (by simp)) (ho.keptNew k).see (ho.keptNew k).ok (by omega), (ho.keptNew k).see⟩
  have hokL : Hid (∀ (j : Nat) (h : j < L.length), (∀ y ∈ L[j].l, y.ok w) ∧ L[j].l.length ≤ 1048576) := fun j h => by
    have hb := bulk_mem (List.getElem_mem h)
    have hsb := sumB_bulk L[j].l
    have hk' : bulkL L[j] = (L[j].l.map fun y => y.bs.length + 1).sum := rfl
    exact ⟨(hok L[j] (List.getElem_mem h)).ok, by omega⟩
  have hTb : Hid (∀ W, Kp [] w W → Tab W) := fun W k => ht.kept k (by simp)
  have hAl : Hid (∀ j, (allB ((RsL L).take j)).length ≤ 50000000) := fun j => by
    rw [RsL_takeL]
    have h1 := allB_len (L.take j)
    have h2 := sum_take_le L j
    have h3 : (L.take j).length ≤ L.length := by rw [List.length_take]; omega
    show (allB (RsL (L.take j))).length ≤ _
    unfold RsL
    omega
  obtain ⟨i0, hi, hz0, hz1, hz2⟩ := info_parts Tryd.infoB
  have hI0 : Hid (TnI w w none 0 [] none 0 []) := ⟨Row.nil _, .inl ⟨rfl, rfl⟩, by simp [blk], by simp [blk], by simp [blk], by simp, Kp.refl _ _⟩
  clear ht hs hok
  go_enter Tryd.func4, Tryd.ntmps4
  go_wp2_with fail
  go_loopw [5, 6, 7, 17] (fun v5 v6 v7 i wn => ∃ (j : Nat) (ba : Option Addr) (bc : Nat) (bs : List UInt8) (va : Option Addr) (vc : Nat) (vl : List Bs) (at' : Nat), j ≤ L.length ∧ i = .int .i64 j ∧ v5 = .slice ba bs.length bc ∧ v6 = .slice va vl.length vc ∧ v7 = .int .i64 at' ∧ Hid (TnI w wn ba bc bs va vc vl) ∧ Hid (bs = allB ((RsL L).take j) ∧ (bsl vl, at') = torn ((RsL L).take j) cut.toNat ∧ ∀ R ∈ (RsL L).take j, (recB R).length ≤ 16777216)) (fun _ _ _ i _ => L.length - (intOf i).toNat)
  case atStart => exact ⟨0, none, 0, [], none, 0, [], 0, Nat.zero_le _, rfl, rfl, rfl, rfl, hI0, by refine ⟨by simp [allB], by simp [torn, bsl], by simp⟩⟩
  case round =>
    obtain ⟨j, ba, bc, bs, va, vc, vl, at', hj, rfl, rfl, rfl, rfl, HI, HB⟩ := hrel
    clear hI0
    have hbl : bs.length ≤ 50000000 := by rw [HB.out.1]; exact hAl.out j
    have htl := torn_len ((RsL L).take j) cut.toNat
    rw [← HB.out.2.1, ← HB.out.1, bsl_len] at htl
    dsimp only at htl
    by_cases hlt : j < L.length
    · obtain ⟨⟨g, o, ea, cL⟩, cF, sL⟩ := hFr.out j hlt _ HI.out.kp
      have hyo := hokL.out j hlt
      have hsn := RsL_take hlt
      have hst := torn_snoc ((RsL L).take j) (bsl L[j].l) cut.toNat
      have hal2 := hAl.out (j + 1)
      have hen := allB_snoc ((RsL L).take j) (bsl L[j].l)
      rw [← hsn] at hst hen
      rw [hen] at hst hal2
      rw [← HB.out.1] at hst hen hal2
      rw [← HB.out.2.1] at hst
      obtain ⟨Y, hY⟩ : ∃ Y, L[j] = Y := ⟨_, rfl⟩
      rw [hY] at cL cF sL hyo hsn hst hal2 hen
      obtain ⟨ya, yc, yl⟩ := Y
      dsimp only at cL cF sL hyo hsn hst hal2 hen
      have hfe1 : Hid ((recB (bsl yl)).length ≤ 16777216 → frmR (bsl yl) = (frB (bsl yl), 0)) := fun h => by unfold frmR frB; rw [if_pos h]
      have hfe2 : Hid (¬ (recB (bsl yl)).length ≤ 16777216 → frmR (bsl yl) = ([], 90)) := fun h => by unfold frmR; rw [if_neg h]
      have hSee : Hid (∀ W, Kp [] w W → BsE.See W ya yl) := fun W k => by
        have := (hFr.out j hlt W k).2.2
        rw [hY] at this
        exact this
      have CF := hid cF
      have HS := hid (And.intro hsn (And.intro hst hen))
      have hal3 := hid hal2
      clear hY cF hsn hst hen hal2
      subst ea
      have dj1 : (j : Int) < (L.length : Int) := by omega
      have dj0 : (0 : Int) ≤ (j : Int) := by omega
      have dj7 : (-9223372036854775808 : Int) ≤ (j : Int) + 1 := by omega
      have dj8 : (j : Int) + 1 ≤ 9223372036854775807 := by omega
      go_wp2_with fail
      refine CF.out.mono ?_
      by_cases hrl : (recB (bsl yl)).length ≤ 16777216
      · rw [hfe1.out hrl]
        rintro e w2 ⟨b2, c2, rfl, hr2, k2, hn2⟩
        dsimp only at hr2 ⊢
        obtain ⟨b2', c2', e2, hs2, -⟩ := hr2.sees
        cases e2
        have hrlo := hid hrl
        have HI2 := hid (HI.out.keep k2)
        obtain ⟨F, hF⟩ : ∃ F, Hid (frB (bsl yl) = F) := ⟨_, rfl⟩
        have hF12 := frB_pos (bsl yl)
        rw [hF.out] at HS hal3 hs2 hF12
        simp only [hF.out]
        have hsrc := hs2.src (P := Tryd.prog) Tryd.underlying22 c2
        have hrow' := HI2.out.b
        have sL2 := sL.keptNew k2
        have HI' := hid sL2
        clear CF hfe1 hfe2 hr2 k2 hn2 hs2 hrl HI sL sL2
        have hbl2 : bs.length + F.length ≤ 200000000000000 := by have := hal3.out; rw [List.length_append] at this; omega
        go_wp2_with (at_builtin; refine wpList_append_src _ rfl (.tmp 33) (.tmp 34) 22 22 rfl i0 Tryd.underlying22 hi hz0 hz1 hz2 _ _ rfl hrow' _ _ rfl hsrc hbl2 ?_)
        intro v8 w8 r8 k8 o8
        obtain ⟨B8, hB8⟩ : ∃ B8, Hid (bs ++ F = B8) := ⟨_, rfl⟩
        rw [hB8.out] at r8 HS hal3
        obtain ⟨a8, c8, rfl, -⟩ := r8.shape
        have HI8 := hid (HI2.out.addB r8 k8 o8)
        have hl8 : 12 ≤ B8.length := by rw [← hB8.out, List.length_append]; omega
        have sL8 := hid (hSee.out w8 HI8.out.kp)
        have hmem : Hid (∀ R ∈ (RsL L).take (j + 1), (recB R).length ≤ 16777216) := fun R hR => by
          rw [HS.out.1] at hR
          rcases List.mem_append.1 hR with h | h
          · exact HB.out.2.2 R h
          · simp at h; subst h; exact hrlo.out
        clear r8 k8 o8 hsrc hrow' HI2
        by_cases hcc : (B8.length : Int) ≤ cut
        · have hcn : B8.length ≤ cut.toNat := by omega
          have dcc : decide ((B8.length : Int) ≤ cut) = true := by simpa using hcc
          obtain ⟨a9, c9, w9, hrun9, hr9, k9, hn9⟩ := appBs HI8.out.v ya yc yl sL8.out (by have := hyo.2; omega)
          have hbs9 : bsl (vl ++ yl) = bsl vl ++ bsl yl := by simp [bsl]
          obtain ⟨V9, hV9⟩ : ∃ V9, Hid (vl ++ yl = V9) := ⟨_, rfl⟩
          rw [hV9.out] at hrun9 hr9 hn9 hbs9
          have HI9 := hid (HI8.out.addV hr9 k9 hn9 (fun y hy => by
            rw [← hV9.out] at hy
            rcases List.mem_append.1 hy with h | h
            · exact HI8.out.ok y h
            · exact hyo.1 y h))
          have hT9 : Hid ((bsl V9, B8.length) = torn ((RsL L).take (j + 1)) cut.toNat) := by
            show _ = _
            rw [HS.out.2.1, if_pos hcn, hbs9]
          have hB9 : Hid (B8 = allB ((RsL L).take (j + 1))) := HS.out.2.2.symm
          clear hr9 k9 hn9 HI8 HS hcc HI' sL8 hbs9
          go_wp2_with (first | (refine wpAppRunQ rfl _ _ 23 23 rfl _ _ _ rfl rfl hrun9 ?_) | fail)
          go_roundw
          case rel => exact ⟨j + 1, a8, c8, B8, a9, c9, V9, B8.length, by omega, by simp, rfl, rfl, rfl, HI9, ⟨hB9.out, hT9.out, hmem.out⟩⟩
          case measure => simp [intOf]; omega
        · have hcn : ¬ B8.length ≤ cut.toNat := by omega
          have dcc : decide ((B8.length : Int) ≤ cut) = false := by simpa using hcc
          have hT9 : Hid ((bsl vl, at') = torn ((RsL L).take (j + 1)) cut.toNat) := by
            show _ = _
            rw [HS.out.2.1, if_neg hcn]
          have hB9 : Hid (B8 = allB ((RsL L).take (j + 1))) := HS.out.2.2.symm
          clear HS HI' sL8
          go_wp2_with fail
          go_roundw
          case rel => exact ⟨j + 1, a8, c8, B8, va, vc, vl, at', by omega, by simp, rfl, rfl, rfl, HI8, ⟨hB9.out, hT9.out, hmem.out⟩⟩
          case measure => simp [intOf]; omega
      · rw [hfe2.out hrl]
        rintro e w2 ⟨b2, c2, rfl, hr2, k2, hn2⟩
        dsimp only
        have aA := hid (hal.out w2 (HI.out.kp.trans k2 (by simp)))
        have HK := hid (HI.out.kp.trans k2 (by simp))
        clear CF hfe1 hfe2 hr2 k2 hn2
        go_wp2_with fail
        refine aA.out.mono ?_
        rintro e w3 ⟨rfl, k3⟩
        have HK3 := hid (HK.out.trans k3 (by simp))
        clear aA k3
        go_wp2_with fail
        go_ret
        exact ⟨rfl, HK3.out.below⟩
    · have dj2 : decide ((j : Int) < (L.length : Int)) = false := by simp; omega
      have hjl : (RsL L).take j = RsL L := List.take_of_length_le (by rw [RsL_len]; omega)
      have HB' := HB.out
      rw [hjl] at HB'
      have hrd := rdQ_torn (RsL L) cut.toNat HB'.2.2
      rw [← HB'.1, ← HB'.2.1] at hrd
      dsimp only at hrd
      have HR := hid hrd
      have hTl := htl
      clear hrd HB' hjl HB
      by_cases hc0 : cut < 0
      · have d0 : decide (cut < 0) = true := by simpa using hc0
        have aA := hid (hal.out _ HI.out.kp)
        go_wp2_with fail
        refine aA.out.mono ?_
        rintro e w3 ⟨rfl, k3⟩
        have HK3 := hid (HI.out.kp.trans k3 (by simp))
        clear aA k3
        go_wp2_with fail
        go_ret
        exact ⟨rfl, HK3.out.below⟩
      · have d0 : decide (cut < 0) = false := by simpa using hc0
        by_cases hcl : (bs.length : Int) < cut
        · have d1 : decide ((bs.length : Int) < cut) = true := by simpa using hcl
          have aA := hid (hal.out _ HI.out.kp)
          go_wp2_with fail
          refine aA.out.mono ?_
          rintro e w3 ⟨rfl, k3⟩
          have HK3 := hid (HI.out.kp.trans k3 (by simp))
          clear aA k3
          go_wp2_with fail
          go_ret
          exact ⟨rfl, HK3.out.below⟩
        · have d1 : decide ((bs.length : Int) < cut) = false := by simpa using hcl
          obtain ⟨n0, rfl⟩ := Int.eq_ofNat_of_zero_le (show (0 : Int) ≤ cut by omega)
          rw [Int.toNat_natCast] at HR
          have hn0 : n0 ≤ bs.length := by omega
          obtain ⟨ra, rc, era, hsB, -⟩ := HI.out.b.sees
          cases era
          obtain ⟨ra', rc', era', hlb⟩ := HI.out.b.shape
          cases era'
          have hcm : bc ≤ maxLen := by
            rcases HI.out.b with ⟨h1, h2⟩ | ⟨g, o, cap, h1, _, h3, _⟩
            · injection h1 with _ _ h4; rw [h4]; unfold maxLen; omega
            · injection h1 with _ _ h4; rw [h4]; exact h3
          have hlt0 : (bs.take n0).length = n0 := by rw [List.length_take]; omega
          have aR := cReadQ ba bc (bs.take n0) _ (hTb.out _ HI.out.kp) (hsB.front n0) (by omega) hcm (by omega)
          rw [hlt0, HR.out] at aR
          have AR := hid aR
          have hnb : (n0 : Int) ≤ (bc : Int) := by omega
          have hn00 : (0 : Int) ≤ (n0 : Int) := by omega
          clear aR hsB HR hcl
          go_wp2_with fail
          refine AR.out.mono ?_
          rintro e w4 ⟨v4, rfl, hr4, k4⟩
          dsimp only at hr4 ⊢
          obtain ⟨a4, c4, l4, rfl, hs4, ho4, hb4⟩ := hr4.bs
          have hl4 : l4.length = vl.length := by rw [← bsl_len l4, hb4, bsl_len]
          have kw4 := HI.out.kp.trans k4 (by simp)
          have aA := hid (hal.out w4 kw4)
          obtain ⟨_, _, ev, hsv, _⟩ := HI.out.v.see
          cases ev
          have H4 := hid (And.intro hs4 (And.intro ho4 (And.intro hb4 (And.intro (hsv.keptNew k4) kw4))))
          clear AR hr4 hs4 ho4 hb4 k4 kw4 hsv
          go_wp2_with fail
          refine aA.out.mono ?_
          rintro e w5 ⟨rfl, k5⟩
          have kw5 := H4.out.2.2.2.2.trans k5 (by simp)
          have aS := cSameQ a4 va c4 vc l4 vl w5 (H4.out.1.keptNew k5) (H4.out.2.2.2.1.keptNew k5) (fun y hy => (H4.out.2.1 y hy).1.keptNew k5) (fun y hy => (HI.out.ok y hy).keptNew kw5) (by omega) (by omega)
          rw [H4.out.2.2.1, show decide (bsl vl = bsl vl) = true by simp, hl4] at aS
          have HS := hid aS
          have HK := hid kw5
          have i1 : ((at' : Int) == (at' : Int)) = true := by simp
          clear aA aS k5 kw5 H4
          go_wp2_with fail
          refine HS.out.mono ?_
          rintro e w6 ⟨rfl, k6⟩
          have HK6 := hid (HK.out.trans k6 (by simp))
          clear HS HK k6
          go_wp2_with fail
          go_ret
          exact ⟨rfl, HK6.out.below⟩
end Go.Proofs.YtpbogplmkenegaaDoor
end

section
namespace Go.Proofs.YtpbogplmkenegaaDoor
open Go.RowKit Go.Hay
set_option linter.unusedVariables false
set_option linter.unusedSimpArgs false

def nmL : List UInt8 := [108, 111, 103]
theorem rnL : nameOk nmL = true := by decide
theorem fl_len (l : List Ls) : (allB (fl (l.map fun x => bsl x.l))).length ≤ 21 * (l.map bulkL).sum + 21 * l.length := by
  induction l with
  | nil => simp [fl, allB]
  | cons x l ih =>
    have h1 := frB_len x
    have e : fl ((x :: l).map fun x => bsl x.l) = if okR (bsl x.l) = true then bsl x.l :: fl (l.map fun x => bsl x.l) else fl (l.map fun x => bsl x.l) := by
      unfold fl
      rw [List.map_cons, List.filter_cons]
    rw [e]
    simp only [List.map_cons, List.sum_cons, List.length_cons]
    split
    · have e2 : allB (bsl x.l :: fl (l.map fun x => bsl x.l)) = frB (bsl x.l) ++ allB (fl (l.map fun x => bsl x.l)) := by simp [allB]
      rw [e2, List.length_append]
      omega
    · omega
set_option maxHeartbeats 16000000 in
set_option maxRecDepth 100000 in
theorem spoiltWalk9 (a : Option Addr) (c : Nat) (L : List Ls) (at' : Int) (w : World) (ht : Tab w) (hs : LsE.See w a L) (hok : ∀ x ∈ L, x.ok w) (hL : L.length ≤ 1048576) (hbk : (L.map bulkL).sum ≤ 1048576) (hat : -9223372036854775808 ≤ at' ∧ at' ≤ 9223372036854775807) :
    Calls Tryd.prog 6 #[.slice a L.length c, .int .i64 at'] w fun e w' => e = .returned (.bool true) ∧ Below w.heap.size w w' := by
  have ht' := hid ht
  have aN := hid (cNew 1125899906842624 w (by omega))
  have hcl : Hid (∀ (j : Nat) (h : j < L.length) (W : World), Kp [] w W → (∃ g o, a = some ⟨g, o, none⟩ ∧ W.cell? ⟨g, o + j, none⟩ = some (.slice L[j].a L[j].l.length L[j].c)) ∧ (∀ X : Nat → Prop, (∀ k, X k → w.heap.size ≤ k) → ArgQ W L[j].a L[j].l X) ∧ L[j].l.length ≤ 1048576) := fun j h W k => by
    obtain ⟨g, o, e, hc⟩ := lsAt hs (k := j) (x := L[j]) (by simp [h])
    have ho := hok L[j] (List.getElem_mem h)
    have hb := bulk_mem (List.getElem_mem h)
    have hsb := sumB_bulk L[j].l
    have hk' : bulkL L[j] = (L[j].l.map fun y => y.bs.length + 1).sum := rfl
    refine ⟨⟨g, o, e, (k.cell (p := ⟨g, o + j, none⟩) (World.block_lt_of_cell? _ _ hc) (by simp)).trans hc⟩, fun X hX => ⟨(ho.keptNew k).see, (ho.keptNew k).ok, fun hne q hq hx => ?_, fun y hy hne q hq hx => ?_, by omega, fun y hy => ?_⟩, by omega⟩
    · have h1 := hX q hx
      rcases ho.see with e' | ⟨g', o', e', hc'⟩
      · exact hne e'
      · rw [e'] at hq
        simp [blk] at hq
        subst hq
        have h0 : 0 < (BsE.cs L[j].l).length := by rw [El.cs_length]; have : 0 < L[j].l.length := List.length_pos_iff.2 hne; simp [BsE]; omega
        have := World.block_lt_of_cell? _ _ (hc' 0 _ (List.getElem?_eq_getElem h0))
        simp at this
        omega
    · have h1 := hX q hx
      have := (ho.ok y hy).see.lt hne q hq
      omega
    · have h2 : y.bs.length + 1 ≤ (L[j].l.map fun y => y.bs.length + 1).sum := by
        have : y.bs.length + 1 ∈ L[j].l.map fun y => y.bs.length + 1 := List.mem_map.2 ⟨y, hy, rfl⟩
        generalize (L[j].l.map fun y => y.bs.length + 1) = q at this
        induction q with
        | nil => cases this
        | cons z q ih =>
          rw [List.sum_cons]
          rcases List.mem_cons.1 this with e | h
          · omega
          · have := ih h; omega
      omega
  have hFl : Hid (∀ j, (allB (fl ((RsL L).take j))).length ≤ 50000000) := fun j => by
    rw [RsL_takeL]
    have h1 := fl_len (L.take j)
    have h2 := sum_take_le L j
    have h3 : (L.take j).length ≤ L.length := by rw [List.length_take]; omega
    show (allB (fl (RsL (L.take j)))).length ≤ _
    unfold RsL
    omega
  clear ht hs hok
  go_enter Tryd.func6, Tryd.ntmps6
  go_wp2_with fail
  refine aN.out.mono ?_
  rintro e w1 ⟨dp, mb, rfl, hD1, k1, hdp, hmb⟩
  have hf1 : ∀ k ∈ foot dp mb [], w.heap.size ≤ k := fun k hk => by simp [foot] at hk; rcases hk with rfl | rfl <;> assumption
  have aV := hid (cAliveQ w1 (ht'.out.kept k1 (by simp)))
  have H1 := hid (And.intro hD1 (And.intro k1 hf1))
  clear aN hD1 k1 hf1
  go_wp2_with fail
  refine aV.out.mono ?_
  rintro e w2 ⟨rfl, k2⟩
  have aC := hid (cCreate (H1.out.1.keptNew k2) (by simp [newD]) (by simp [newD]) (by intro f hf; simp [newD] at hf) nmL (by unfold maxLen; simp [nmL]))
  have ec : createD (newD 1125899906842624) nmL = (oneD 1125899906842624 2 nmL [] 0, 0) := create_new 1125899906842624 nmL rnL
  rw [ec] at aC
  have H2 := hid (And.intro (H1.out.2.1.trans k2 (by simp)) H1.out.2.2)
  clear aV k2 H1 ec
  go_wp2_with fail
  refine aC.out.mono ?_
  intro e w3 hO
  obtain ⟨p, v, B, xs, rfl, hLD, _, _⟩ := LD.ofOpn (w0 := w) hO rfl H2.out.1 H2.out.2
  dsimp only at hLD ⊢
  have hI0 := hid hLD
  clear aC hO hLD H2
  go_wp2_with fail
  go_loopw [9, 33, 39] (fun _ i _ wn => ∃ (j : Nat) (xs : List Ent) (s k : Nat) (B : Nat → Prop) (v : Value) (Rc : List (List UInt8)), j ≤ L.length ∧ i = .int .i64 j ∧ s ≤ 2 + 2 * j ∧ Rc.length ≤ ((L.take j).map bulkL).sum ∧ Hid (LD w wn p dp mb xs (oneD 1125899906842624 s nmL (allB (fl ((RsL L).take j))) k) nmL B v Rc ((allB (fl ((RsL L).take j))).length : Int))) (fun _ i _ _ => L.length - (intOf i).toNat)
  case atStart => exact ⟨0, xs, 2, 0, B, v, [], Nat.zero_le _, rfl, by omega, by simp, by simpa [fl, allB] using hI0⟩
  case round =>
    obtain ⟨j, xs, s, k, B, v, Rc, hj, rfl, hsj, hRj, HI⟩ := hrel
    clear hI0
    have hxl := hFl.out j
    have hst := sum_take_le L j
    by_cases hlt : j < L.length
    · obtain ⟨⟨g, o, ea, cL⟩, hAq, hyl⟩ := hcl.out j hlt _ HI.out.kp
      have hAr := hAq (fun k => k ∈ foot dp mb xs ∨ k = p ∨ B k) (fun k hk => by
        rcases hk with h | h | h
        · exact HI.out.lf k h
        · rw [h]; exact HI.out.lp
        · exact (HI.out.lb k h).1)
      have hss : ((L.take (j + 1)).map bulkL).sum = ((L.take j).map bulkL).sum + bulkL L[j] := by rw [List.take_succ_eq_append_getElem hlt, List.map_append, List.sum_append]; simp
      have hsb := sumB_bulk L[j].l
      have hbe : bulkL L[j] = (L[j].l.map fun y => y.bs.length + 1).sum := rfl
      rw [← hbe] at hsb
      have hsn := RsL_take hlt
      have hfs := fl_snoc ((RsL L).take j) (bsl L[j].l)
      have hx2 := hFl.out (j + 1)
      rw [← hsn] at hfs
      obtain ⟨Y, hY⟩ : ∃ Y, L[j] = Y := ⟨_, rfl⟩
      rw [hY] at cL hAr hfs hyl hss hsb
      obtain ⟨ya, yc, yl⟩ := Y
      dsimp only at cL hAr hfs hyl hsb
      obtain ⟨x, hx⟩ : ∃ x, Hid (allB (fl ((RsL L).take j)) = x) := ⟨_, rfl⟩
      rw [hx.out] at HI hxl
      have aA := hid (HI.out.app (by simp only [oneD]; omega) (by simp [oneD]) (small_one (by omega)) (by unfold maxLen; simp [nmL]) (by rw [file_one]; simp only; omega) (by omega) (by omega) ya yc yl hAr ht'.out)
      have hnext : Hid (∀ wn, AppLD w p dp mb xs (oneD 1125899906842624 s nmL x k) nmL B v Rc (x.length : Int) (bsl yl) wr (.returned (.int .i64 (appQ (oneD 1125899906842624 s nmL x k) nmL (bsl yl)).2)) wn → ∃ (xs : List Ent) (s k : Nat) (B : Nat → Prop) (v : Value) (Rc : List (List UInt8)), s ≤ 2 + 2 * (j + 1) ∧ Rc.length ≤ ((L.take (j + 1)).map bulkL).sum ∧ Hid (LD w wn p dp mb xs (oneD 1125899906842624 s nmL (allB (fl ((RsL L).take (j + 1)))) k) nmL B v Rc ((allB (fl ((RsL L).take (j + 1)))).length : Int))) := fun wn hA => by
        obtain ⟨_, xs', _, h1, h2⟩ := hA
        cases hor : okR (bsl yl) with
        | true =>
          rw [hfs, if_pos hor, allB_snoc, hx.out] at hx2 ⊢
          obtain ⟨ho, -⟩ := app_one 1125899906842624 s nmL x k rnL (bsl yl) (by rw [List.length_append] at hx2; omega)
          obtain ⟨e1, e2⟩ := ho hor
          rw [e1, e2] at h2
          obtain ⟨v', B', hl⟩ := h2 rfl
          refine ⟨xs', s + 2, (x ++ frB (bsl yl)).length, B', v', Rc ++ bsl yl, by omega, by rw [List.length_append, bsl_len, hss]; omega, ?_⟩
          rw [show (((x ++ frB (bsl yl)).length : Nat) : Int) = (x.length : Int) + ((frB (bsl yl)).length : Int) by rw [List.length_append]; omega]
          exact hl
        | false =>
          rw [hfs, if_neg (by simp [hor]), hx.out]
          have hnf : x.length + (frB (bsl yl)).length ≤ 1125899906842624 := by
            have hb := bulk_mem (List.getElem_mem hlt)
            have := frB_len L[j]
            rw [hY] at this hb
            dsimp only at this
            omega
          obtain ⟨-, ho⟩ := app_one 1125899906842624 s nmL x k rnL (bsl yl) hnf
          obtain ⟨e1, e2⟩ := ho hor
          rw [e1] at h1 h2
          by_cases h0 : (appQ (oneD 1125899906842624 s nmL x k) nmL (bsl yl)).2 = 0
          · obtain ⟨e3, e4⟩ := e2 h0
            obtain ⟨v', B', hl⟩ := h2 h0
            rw [e4] at hl
            refine ⟨xs', s, k, B', v', Rc ++ bsl yl, by omega, by rw [e3, List.append_nil, hss]; omega, ?_⟩
            rw [Int.add_zero] at hl
            exact hl
          · exact ⟨xs', s, k, B, v, Rc, by omega, by rw [hss]; omega, h1 h0⟩
      have hfst := hid (aA.out.mono (fun e w' (h : AppLD w p dp mb xs (oneD 1125899906842624 s nmL x k) nmL B v Rc (x.length : Int) (bsl yl) wr e w') => And.intro h.1 h))
      clear hAq hAr hsn hfs hx2 hY aA hss hsb hbe
      subst ea
      have dj1 : (j : Int) < (L.length : Int) := by omega
      have dj0 : (0 : Int) ≤ (j : Int) := by omega
      have dj7 : (-9223372036854775808 : Int) ≤ (j : Int) + 1 := by omega
      have dj8 : (j : Int) + 1 ≤ 9223372036854775807 := by omega
      go_wp2_with fail
      refine hfst.out.mono ?_
      rintro e w4 ⟨rfl, h4⟩
      obtain ⟨xs', s', k', B', v', Rc', g1, g2, g3⟩ := hnext.out w4 h4
      clear hfst h4 hnext
      go_wp2_with fail
      go_roundw
      case rel => exact ⟨j + 1, xs', s', k', B', v', Rc', by omega, by simp, by omega, g2, g3⟩
      case measure => simp [intOf]; omega
    · have dj2 : decide ((j : Int) < (L.length : Int)) = false := by simp; omega
      have hjl : (RsL L).take j = RsL L := List.take_of_length_le (by rw [RsL_len]; omega)
      rw [hjl] at HI hxl
      obtain ⟨x, hx⟩ : ∃ x, Hid (allB (fl (RsL L)) = x) := ⟨_, rfl⟩
      have hsp : Hid (∀ i b : Nat, i < x.length → b ≤ 7 → rdQ (flipB x i b) = ([], 0, 91)) := fun i b h1 h2 => by
        rw [← hx.out] at h1 ⊢
        exact flip_turned (fl (RsL L)) (fun R hR => fl_ok hR) i b h1 h2
      rw [hx.out] at HI hxl
      have aR := hid (cRead HI.out.disk (small_one (by omega)) nmL (by unfold maxLen; simp [nmL]))
      have hlk : lookG Fl.name nmL (oneD 1125899906842624 s nmL x k).files = some ⟨nmL, x, k⟩ := by simp [lookG, oneD]
      rw [hlk] at aR
      have aR' : Hid (Calls Tryd.prog 22 #[.pointer (some ⟨dp, 0, none⟩), .string ⟨nmL.toArray⟩] wr fun e w' => ∃ a c, e = .returned (.tuple #[.slice a x.length c, .bool true]) ∧ Row w' (.slice a x.length c) x ∧ Kp [] wr w' ∧ ∀ k ∈ blk a, wr.heap.size ≤ k) := aR
      clear hlk aR hjl hcl hFl
      go_wp2_with fail
      refine aR'.out.mono ?_
      rintro e w5 ⟨b5, c5, rfl, _, k5, _⟩
      have HI5 := hid (HI.out.keep k5)
      have aS := hid (cSizeQ HI5.out.log)
      clear aR' k5 HI
      go_wp2_with fail
      refine aS.out.mono ?_
      rintro e w5 ⟨rfl, rfl⟩
      have i1 : ((x.length : Int) != (x.length : Int)) = false := by simp
      have i2 : ((x.length : Int) == (x.length : Int)) = true := by simp
      by_cases ha : at' < 0
      · have d0 : decide (at' < 0) = true := by simpa using ha
        go_wp2_with fail
        refine aS.out.mono ?_
        rintro e w5 ⟨rfl, rfl⟩
        go_wp2_with fail
        go_ret
        exact ⟨rfl, HI5.out.kp.below⟩
      · have d0 : decide (at' < 0) = false := by simpa using ha
        obtain ⟨n0, rfl⟩ := Int.eq_ofNat_of_zero_le (show (0 : Int) ≤ at' by omega)
        have aF := hid (cFlip HI5.out.disk (small_one (by omega)) nmL (by unfold maxLen; simp [nmL]) ((n0 : Int) / 8) ((n0 : Int) % 8) (by omega) (by omega) (by omega) (by omega))
        obtain ⟨f1, f2⟩ := flip_one 1125899906842624 s nmL x k ((n0 : Int) / 8) ((n0 : Int) % 8)
        by_cases hf : (n0 : Int) / 8 < (x.length : Int)
        · have fo : flipOk (oneD 1125899906842624 s nmL x k) nmL ((n0 : Int) / 8) ((n0 : Int) % 8) = true := by
            rw [f1]
            simp only [Bool.and_eq_true, decide_eq_true_eq]
            refine ⟨⟨⟨?_, hf⟩, ?_⟩, ?_⟩ <;> omega
          rw [fo, f2 fo] at aF
          have hrd := hsp.out ((n0 : Int) / 8).toNat ((n0 : Int) % 8).toNat (by omega) (by omega)
          have hfl6 : (flipB x ((n0 : Int) / 8).toNat ((n0 : Int) % 8).toNat).length = x.length := by unfold flipB; rw [List.length_set]
          obtain ⟨y, hy⟩ : ∃ y, flipB x ((n0 : Int) / 8).toNat ((n0 : Int) % 8).toNat = y := ⟨_, rfl⟩
          rw [hy] at aF hrd hfl6
          have HRD := hid hrd
          have hfl7 := hid hfl6
          clear f1 f2 fo hf hy hrd hfl6 aS
          go_wp2_with fail
          refine aF.out.mono ?_
          rintro e w6 ⟨rfl, xs6, hD6, m6⟩
          have kw6 : Kp [] w w6 := HI5.out.kp.trans m6.kp (fun q hq => .inr (HI5.out.lf q hq))
          have aO := hid (cOpen hD6 (by simp only [oneD]; omega) (small_one (by rw [hfl7.out]; omega)) nmL (by unfold maxLen; simp [nmL]) (ht'.out.kept kw6 (by simp)) (by rw [file_one]; simp only; rw [hfl7.out]; omega))
          rw [open_spoilt _ _ _ _ _ HRD.out] at aO
          have HF6 := hid (And.intro kw6 (fun q (hq : q ∈ foot dp mb xs6) => by rcases m6.new q hq with h | h; exact HI5.out.lf q h; have := HI5.out.kp.size; omega : ∀ q ∈ foot dp mb xs6, w.heap.size ≤ q))
          clear aF hD6 m6 kw6
          go_wp2_with fail
          refine aO.out.mono ?_
          rintro e w7 ⟨v0, xs7, rfl, _, m7, h7, _⟩
          have ev := h7 (by simp)
          subst ev
          have HK7 := hid (HF6.out.1.trans m7.kp (fun q hq => .inr (HF6.out.2 q hq)))
          clear aO m7 h7 HF6
          go_wp2_with fail
          go_ret
          exact ⟨rfl, HK7.out.below⟩
        · have fo : flipOk (oneD 1125899906842624 s nmL x k) nmL ((n0 : Int) / 8) ((n0 : Int) % 8) = false := by
            rw [f1]
            simp [hf]
          rw [fo, flip_not fo] at aF
          clear f1 f2 fo hf aS
          go_wp2_with fail
          refine aF.out.mono ?_
          rintro e w6 ⟨rfl, xs6, hD6, m6⟩
          have aS2 := hid (cSizeQ (HI5.out.log.kept m6.kp (fun hm => (HI5.out.sep p hm).2 rfl) (fun q hq => (HI5.out.sep q hq).1)))
          have HK6 := hid (HI5.out.kp.trans m6.kp (fun q hq => .inr (HI5.out.lf q hq)))
          clear aF hD6 m6
          go_wp2_with fail
          refine aS2.out.mono ?_
          rintro e w6 ⟨rfl, rfl⟩
          clear aS2
          go_wp2_with fail
          go_ret
          exact ⟨rfl, HK6.out.below⟩
end Go.Proofs.YtpbogplmkenegaaDoor
end

section
namespace Go.Proofs.YtpbogplmkenegaaDoor
open Go.ChangeShapes Go.WideShapes Go.ChangeAt Go.RowKit Go.Hay
set_option linter.unusedVariables false

set_option maxRecDepth 100000 in
theorem redoSpoiltContract (H : Type) (enc : TypeId × Value → H) (W : World) (base : Nat) (args : Array Value) (ds gs : List (DataW H)) (before : List MemPlace)
    (hval : ∀ (j : Nat) t v, Tryd.f6.params[j]? = some t → args[j]? = some v → Value.okWide Tryd.prog W .any base t v)
    (hW : DataW.Whole enc Tryd.prog Tryd.f6.params.toList Rows.redoSpoiltSpec.vars false W args.toList ds gs before)
    (hsz : (DataW.weightsEach Tryd.prog (Tryd.f6.params.toList ++ (Rows.OpenSpec.upto Rows.redoSpoiltSpec).bare.plain.varTypes Tryd.prog) (ds ++ gs)).all (· ≤ reachBytes) = true)
    (hk : Rows.uptoSmall H (ds ++ gs) = true)
    (hL : laidMetH Tryd.prog Rows.redoSpoiltUptoRow.laid W) :
    Calls Tryd.prog 6 args W fun e W' => ∃ v, e = .returned v ∧ Rows.redoSpoiltSpec.post enc Tryd.prog Tryd.f6 false true false false W args v W' := by
  have hW' := hW
  obtain ⟨p, q, hA0, hV, rfl, hfz, hnd⟩ := hW
  have hA : DataW.TrodAll enc Tryd.prog W 0 (fun _ => true) true Tryd.f6.params.toList args.toList ds p := hA0
  rw [Tryd.params6] at hA hval hsz
  obtain ⟨v0, vs0, d0, ds0, p0, q0, hargs, rfl, rfl, h0, r0⟩ := trodAll_cons hA
  obtain ⟨v1, vs1, d1, ds1, p1, q1, rfl, rfl, rfl, h1, r1⟩ := trodAll_cons r0
  obtain ⟨rfl, rfl, rfl⟩ := trodAll_nil r1
  obtain rfl : args = #[v0, v1] := by cases args; simp_all
  obtain ⟨rfl, rfl⟩ := trodVars_none hV
  obtain ⟨a0, len0, cap0, rfl⟩ := okWide_slice Tryd.underlying32 (hval 0 32 v0 rfl rfl)
  have k0 := h0
  have lt0 : ∀ x ∈ p0, x.block < W.heap.size := by obtain ⟨m, hm⟩ := k0; exact DataW.trod_lt m _ _ _ hm
  obtain ⟨l0, rfl, hs0, hok0, hl0, hm0, hn0, hfit0, hbk0, hcp0⟩ := openBlls h0
  obtain ⟨hc0, hq0⟩ := hfit0 (List.all_eq_true.2 fun x hx => List.all_eq_true.1 hsz x (by simp [DataW.weightsEach]; first | exact .inl hx | exact .inr hx | exact .inr (.inl hx) | exact .inr (.inr hx) | exact hx))
  obtain ⟨a1, rfl, rfl, rfl, w1⟩ := open_int Tryd.underlying3 (hval 1 3 v1 rfl rfl) h1
  have hb1 := bounds_i64 w1
  have hbk := of_decide_eq_true hk
  simp only [List.append_nil, Rows.uptoBulkAll] at hbk
  clear hA0
  refine (spoiltWalk9 a0 cap0 l0 a1 W (table hL) hs0 hok0 (by omega) (by omega) hb1).mono fun e W' ⟨he, bel⟩ => ?_
  subst he
  exact ⟨_, rfl, _, _, _, [], _, [], hW', trodAll_mk1 (shut_bool Tryd.underlying4 _), (trodAll_cons_mk (Below.trod Tryd.laidOut (by kernel_rfl) (of_decide_eq_true (by kernel_rfl)) k0 bel lt0) (trodAll_cons_mk (shut_int Tryd.underlying3 w1) trodAll_mk0)), rfl, bel.frame _, fun h => by cases h⟩

set_option maxRecDepth 100000 in
theorem redoSpoiltLifted (os : Os) (started : os.Started) (H : Type) (enc : TypeId × Value → H) (F : Stop.Interp) :
    ReturnsInHanded {} Tryd.checked os 6 .any ((Rows.OpenSpec.upto Rows.redoSpoiltSpec).preRow enc Tryd.prog Tryd.f6 Rows.redoSpoiltUptoRow.domain false Rows.redoSpoiltUptoRow.laid) (((Rows.OpenSpec.upto Rows.redoSpoiltSpec).at F).post enc Tryd.prog Tryd.f6 false true false false) := by
  refine returnsInHanded_of_row (C := Tryd.checked) (s := Rows.OpenSpec.upto Rows.redoSpoiltSpec) Tryd.own started (by kernel_rfl) Tryd.func6
    (witness_row_at (enc := enc) (C := Tryd.checked) false ({ World.holding Tryd.prog os ⟨#[], #[], []⟩ with heap := (World.holding Tryd.prog os ⟨#[], #[], []⟩).heap.modify 0 fun
      | .cells _ t frozen => .cells tabCells t frozen
      | o => o }) #[.slice none 0 0, .int .i64 0] rfl (by kernel_rfl) (by kernel_rfl) (by kernel_rfl)
      (OpenSpec.preRow_of_cond (x := ([.nil, .lit (.int .i64 0)], [], [])) 8 (by kernel_rfl) (by kernel_rfl) (fun k hk => by cases hk; kernel_rfl) (by kernel_rfl) (laidMet_of_run' 8 (by kernel_rfl) (by kernel_rfl)))) ?_
  intro W base args ds gs before hval hW _ hcond hsz hL _ _
  exact redoSpoiltContract H enc W base args ds gs before hval hW hsz (hcond _ rfl) hL

theorem redoSpoiltSaid : Rows.RedoSpoiltUptoSaid :=
  OpenClaim.holds_of_cond 6 Tryd.f6 rfl rfl rfl rfl rfl rfl rfl ⟨rfl, rfl, rfl, rfl, rfl⟩ rfl rfl rfl rfl rfl (by kernel_rfl) Tryd.func6 (by kernel_rfl)
    (of_decide_eq_true (by kernel_rfl)) (by unfold Func.isWrapper; first | (rw [if_pos (by decide +kernel)]; kernel_rfl) | (rw [if_neg (by decide +kernel)]; exact ⟨rfl, rfl⟩))
    (fun os started H enc _ F => by rw [OpenClaim.pre_eq_preRow]; exact redoSpoiltLifted os started H enc F)

theorem redoSpoiltPlain (f : FuncId) (fn : Func) (hf : Tryd.pinned.checked.prog.funcNamed "hayloft/hayloftlaw09.RedoSpoilt" = some f) (hfn : Tryd.pinned.checked.prog.funcs[f]? = some fn) :
    false = Tryd.pinned.checked.prog.looks [] ∧ ∀ (j : Nat) t, fn.params[j]? = some t → Tryd.pinned.checked.prog.wantsStandIn t = false := by
  obtain rfl : f = 6 := Option.some.inj ((show Tryd.prog.funcNamed "hayloft/hayloftlaw09.RedoSpoilt" = some 6 by kernel_rfl).symm.trans hf) |>.symm
  obtain rfl : fn = Tryd.f6 := (Option.some.inj (Tryd.func6.symm.trans hfn)).symm
  refine ⟨by kernel_rfl, fun j t ht => ?_⟩
  rw [Tryd.params6] at ht
  have hm := Array.mem_of_getElem? ht
  have h2 : t = 32 ∨ t = 3 := by first | (simpa using hm) | (rcases (show t = 32 ∨ t = 3 from by simpa using hm) with h | h <;> simp [h])
  rcases h2 with rfl | rfl
  · exact (show Tryd.prog.wantsStandIn 32 = false by kernel_rfl)
  · exact (show Tryd.prog.wantsStandIn 3 = false by kernel_rfl)

theorem RedoSpoilt_holds : Rows.RedoSpoiltUptoCardSaid :=
  Claim7.holds_tied_plain_at .later [] _ _ _ _ redoSpoiltSaid (fun _ h => by cases h) (by kernel_rfl) (fun _ h => by cases h) redoSpoiltUpto_row_tie rfl ⟨rfl, rfl⟩ (by kernel_rfl) rfl redoSpoiltPlain (by kernel_rfl)
#print axioms RedoSpoilt_holds
end Go.Proofs.YtpbogplmkenegaaDoor
end

/- What is neither dropped nor doubled, and always taken from the front, is taken in the order in which it was sent: the walk. -/
import Derived.Test.YtgegdlllmpinfaaNbeg
import Derived.Test.YtgegdlllmpinfaaGopn
namespace Go.Proofs.Ytgegdlllmpinfaa
open Go.RowKit Go.Hay
set_option linter.unusedVariables false
set_option linter.unusedSimpArgs false

def BsE : El Bs where
  n := 1
  c x := [x.v]
  len _ := rfl
  one _ u hu := by simp at hu; subst hu; rfl
  pos := by decide
def BoolE : El Bool where
  n := 1
  c x := [.bool x]
  len _ := rfl
  one _ u hu := by simp at hu; subst hu; rfl
  pos := by decide
theorem bsAt {w : World} {a : Option Addr} {l : List Bs} (h : BsE.See w a l) {k : Nat} {x : Bs} (hx : l[k]? = some x) : ∃ g o, a = some ⟨g, o, none⟩ ∧ w.cell? ⟨g, o + k, none⟩ = some (.slice x.a x.bs.length x.c) := by
  obtain ⟨g, o, rfl, hc⟩ := h.at hx
  exact ⟨g, o, rfl, by have := hc 0 _ rfl; simpa [BsE, Bs.v] using this⟩
theorem boolAt {w : World} {a : Option Addr} {l : List Bool} (h : BoolE.See w a l) {k : Nat} {x : Bool} (hx : l[k]? = some x) : ∃ g o, a = some ⟨g, o, none⟩ ∧ w.cell? ⟨g, o + k, none⟩ = some (.bool x) := by
  obtain ⟨g, o, rfl, hc⟩ := h.at hx
  exact ⟨g, o, rfl, by have := hc 0 _ rfl; simpa [BoolE] using this⟩
/-- The bytes at a place. -/
def bsOf (l : List Bs) (k : Nat) : List UInt8 := match l[k]? with | some x => x.bs | none => []
/-- The messages sent and not taken yet. -/
def msgsL (l : List Bs) (s n : Nat) : List Msg := (List.range' s n).map fun k : Nat => ⟨(k : Int), bsOf l k⟩
theorem msgs_len (l : List Bs) (s n : Nat) : (msgsL l s n).length = n := by simp [msgsL]
theorem msgs_snoc (l : List Bs) (s n : Nat) : msgsL l s n ++ [⟨((s + n : Nat) : Int), bsOf l (s + n)⟩] = msgsL l s (n + 1) := by
  unfold msgsL
  rw [List.range'_concat]
  simp
theorem msgs_head (l : List Bs) (s n : Nat) : msgsL l s (n + 1) = ⟨(s : Int), bsOf l s⟩ :: msgsL l (s + 1) n := by
  unfold msgsL
  rw [List.range'_succ]
  rfl
theorem msgs_small {l : List Bs} (h : ∀ x ∈ l, Few x) (room : Int) (s n : Nat) : Smalls ⟨room, msgsL l s n⟩ := by
  intro m hm
  obtain ⟨k, _, rfl⟩ := List.mem_map.1 hm
  simp only [bsOf]
  split
  · rename_i x hx
    have := h x (List.mem_of_getElem? hx)
    unfold Few at this
    omega
  · simp
structure OrdI (p : Nat) (l : List Bs) (W : World) (nx i : Nat) (wn : World) : Prop where
  le : nx ≤ i
  il : i ≤ l.length
  net : ∃ v, Net wn p v ⟨(l.length : Int), msgsL l nx (i - nx)⟩ ∧ ∀ k ∈ own v, W.heap.size ≤ k
  kp : Kp [] W wn
theorem OrdI.sent {p : Nat} {l : List Bs} {W : World} {nx i : Nat} {wn w' : World} {v : Value} (h : OrdI p l W nx i wn) (hp : W.heap.size ≤ p) (hi : i < l.length) (hn : Net wn p v ⟨(l.length : Int), msgsL l nx (i - nx)⟩) (ho : ∀ k ∈ own v, W.heap.size ≤ k) {e : Ending}
    (hc : ChgN p v (putN ⟨(l.length : Int), msgsL l nx (i - nx)⟩ ⟨(i : Int), bsOf l i⟩).1 (.int .i64 (putN ⟨(l.length : Int), msgsL l nx (i - nx)⟩ ⟨(i : Int), bsOf l i⟩).2) wn e w') : e = .returned (.int .i64 0) ∧ OrdI p l W nx (i + 1) w' := by
  have hle := h.le
  have e1 : putN ⟨(l.length : Int), msgsL l nx (i - nx)⟩ ⟨(i : Int), bsOf l i⟩ = (⟨(l.length : Int), msgsL l nx (i + 1 - nx)⟩, 0) := by
    unfold putN
    rw [if_neg (by simp only [msgs_len]; omega)]
    have := msgs_snoc l nx (i - nx)
    rw [show nx + (i - nx) = i by omega, show i - nx + 1 = i + 1 - nx by omega] at this
    rw [← this]
  rw [e1] at hc
  obtain ⟨v', rfl, hN, hW⟩ := hc
  obtain ⟨k1, o1⟩ := stepW h.kp hp ho hW
  exact ⟨rfl, by omega, by omega, ⟨v', hN, o1⟩, k1⟩
theorem OrdI.took {p : Nat} {l : List Bs} {W : World} {nx i : Nat} {wn w' : World} {v : Value} (h : OrdI p l W nx i wn) (hp : W.heap.size ≤ p) (hi : nx < i) (ho : ∀ k ∈ own v, W.heap.size ≤ k) {e : Ending}
    (hc : TakeP p v ⟨(l.length : Int), msgsL l nx (i - nx)⟩ 0 wn e w') : OrdI p l W (nx + 1) i w' ∧ ∃ a c, e = .returned (.tuple #[.int .i64 (nx : Int), .slice a (bsOf l nx).length c, .bool true]) ∧ Row w' (.slice a (bsOf l nx).length c) (bsOf l nx) := by
  have hil := h.il
  have e1 : msgsL l nx (i - nx) = ⟨(nx : Int), bsOf l nx⟩ :: msgsL l (nx + 1) (i - (nx + 1)) := by
    rw [show i - nx = (i - (nx + 1)) + 1 by omega, msgs_head]
  obtain ⟨v', hN, hW, hm⟩ := hc
  rw [e1] at hN hm
  obtain ⟨a, c, rfl, hr, _⟩ := hm
  obtain ⟨k1, o1⟩ := stepW h.kp hp ho hW
  exact ⟨⟨by omega, by omega, ⟨v', hN, o1⟩, k1⟩, a, c, rfl, hr⟩
end Go.Proofs.Ytgegdlllmpinfaa

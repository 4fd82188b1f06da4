/- NetCounts: how a net, and two rows of slices, stand beside each other. -/
import Derived.Test.YtgegdlllmpinfaaNcnt
namespace Go.Proofs.Ytgegdlllmpinfaa
open Go.RowKit Go.Hay
set_option linter.unusedVariables false
set_option linter.unusedSimpArgs false

/-- Its bytes lie outside of F. -/
def Off (F : List Nat) (x : Bs) : Prop := x.bs ≠ [] → ∀ k ∈ blk x.a, k ∉ F
theorem Bs.ok.step {F F' : List Nat} {w w' : World} {x : Bs} (h : x.ok w) (ho : Off F x) (hk : Kp F w w') (hF : ∀ k ∈ F', k ∈ F ∨ w.heap.size ≤ k) : x.ok w' ∧ Off F' x := by
  refine ⟨h.kept hk ho, fun hb k hk' hf => ?_⟩
  rcases hF k hf with h1 | h1
  · exact ho hb k hk' h1
  · have := h.see.lt hb k hk'; omega
def foot3 (p : Nat) (v vi vo : Value) : List Nat := (p :: own v) ++ (own vi ++ own vo)
theorem mem_foot3 {p k : Nat} {v vi vo : Value} : k ∈ foot3 p v vi vo ↔ k = p ∨ k ∈ own v ∨ k ∈ own vi ∨ k ∈ own vo := by simp [foot3]
structure CntI (W : World) (p : Nat) (w : World) (v vi vo : Value) (li lo : List Bs) (n : Nt) : Prop where
  net : Net w p v n
  ri : BsE.Row w vi li
  ro : BsE.Row w vo lo
  xi : ∀ x ∈ li, x.ok w ∧ Off (foot3 p v vi vo) x
  xo : ∀ x ∈ lo, x.ok w ∧ Off (foot3 p v vi vo) x
  kp : Kp [] W w
  nw : ∀ k ∈ foot3 p v vi vo, W.heap.size ≤ k
  ni : ∀ k ∈ p :: own v, k ∉ own vi
  no : ∀ k ∈ p :: own v, k ∉ own vo
  io : ∀ k ∈ own vi, k ∉ own vo
/-- What a step may do. -/
structure Stp (w : World) (F : List Nat) (w' : World) (F' : List Nat) : Prop where
  kp : Kp F w w'
  new : ∀ k ∈ F', k ∈ F ∨ w.heap.size ≤ k
section
variable {W : World} {p : Nat} {w w' : World} {v vi vo v' : Value} {li lo : List Bs} {n n' : Nt}
theorem CntI.lt (h : CntI W p w v vi vo li lo n) : ∀ k ∈ foot3 p v vi vo, k < w.heap.size := fun k hk => by
  rcases mem_foot3.1 hk with h1 | h1 | h1 | h1
  · subst h1; exact h.net.lt
  · exact h.net.row.lt k h1
  · exact h.ri.lt k h1
  · exact h.ro.lt k h1
theorem kpBig {F S : List Nat} {a b : World} (h : Kp S a b) (hS : ∀ k ∈ S, k ∈ F) : Kp F a b := h.mono fun x hx => .inl (hS x hx)
theorem CntI.whole (h : CntI W p w v vi vo li lo n) (s : Stp w (foot3 p v vi vo) w' (foot3 p v' vi vo)) : Kp [] W w' ∧ ∀ k ∈ foot3 p v' vi vo, W.heap.size ≤ k :=
  ⟨h.kp.trans s.kp (fun x hx => .inr (h.nw x hx)), fun k hk => by
    rcases s.new k hk with h1 | h1
    · exact h.nw k h1
    · have := h.kp.size; omega⟩
theorem CntI.keep (h : CntI W p w v vi vo li lo n) (hk : Kp [] w w') : CntI W p w' v vi vo li lo n ∧ Stp w (foot3 p v vi vo) w' (foot3 p v vi vo) := by
  have s : Stp w (foot3 p v vi vo) w' (foot3 p v vi vo) := ⟨kpBig hk (by simp), fun k hk => .inl hk⟩
  refine ⟨⟨h.net.keptNew hk, h.ri.keptNew hk, h.ro.keptNew hk, fun x hx => ?_, fun x hx => ?_, h.kp.trans hk (by simp), h.nw, h.ni, h.no, h.io⟩, s⟩
  · exact ⟨(h.xi x hx).1.keptNew hk, (h.xi x hx).2⟩
  · exact ⟨(h.xo x hx).1.keptNew hk, (h.xo x hx).2⟩
theorem CntI.chg (h : CntI W p w v vi vo li lo n) (hn : Net w' p v' n') (hw : Wrote p v w v' w') : CntI W p w' v' vi vo li lo n' ∧ Stp w (foot3 p v vi vo) w' (foot3 p v' vi vo) := by
  have s : Stp w (foot3 p v vi vo) w' (foot3 p v' vi vo) := ⟨kpBig hw.kp (fun k hk => mem_foot3.2 (by rcases List.mem_cons.1 hk with h | h <;> simp [h])), fun k hk => by
    rcases mem_foot3.1 hk with h1 | h1 | h1 | h1
    · exact .inl (mem_foot3.2 (.inl h1))
    · rcases hw.new k h1 with h2 | h2
      · exact .inl (mem_foot3.2 (.inr (.inl h2)))
      · exact .inr h2
    · exact .inl (mem_foot3.2 (.inr (.inr (.inl h1))))
    · exact .inl (mem_foot3.2 (.inr (.inr (.inr h1))))⟩
  obtain ⟨k1, k2⟩ := h.whole s
  have dj : ∀ (u : Value) (l : List Bs), BsE.Row w u l → (∀ k ∈ p :: own v, k ∉ own u) → ∀ k ∈ p :: own v', k ∉ own u := fun u l hr hd k hk hu => by
    rcases List.mem_cons.1 hk with h1 | h1
    · exact hd k (by simp [h1]) hu
    · rcases hw.new k h1 with h2 | h2
      · exact hd k (by simp [h2]) hu
      · have := hr.lt k hu; omega
  exact ⟨⟨hn, h.ri.kept hw.kp (fun k hk hx => h.ni k hx hk), h.ro.kept hw.kp (fun k hk hx => h.no k hx hk), fun x hx => (h.xi x hx).1.step (h.xi x hx).2 s.kp s.new, fun x hx => (h.xo x hx).1.step (h.xo x hx).2 s.kp s.new, k1, k2, dj vi li h.ri h.ni, dj vo lo h.ro h.no, h.io⟩, s⟩
/-- One more in the first row. -/
theorem CntI.addI (h : CntI W p w v vi vo li lo n) {x : Bs} (hx : x.ok w) (ho : Off (foot3 p v vi vo) x) {vi' : Value} {li' : List Bs} (hl : li' = li ++ [x]) (hr : BsE.Row w' vi' li') (hk : Kp (own vi) w w') (hn : ∀ k ∈ own vi', k ∈ own vi ∨ w.heap.size ≤ k) : CntI W p w' v vi' vo li' lo n := by
  subst hl
  have kb : Kp (foot3 p v vi vo) w w' := kpBig hk (fun k hk => mem_foot3.2 (by simp [hk]))
  have hF : ∀ k ∈ foot3 p v vi' vo, k ∈ foot3 p v vi vo ∨ w.heap.size ≤ k := fun k hk => by
    rcases mem_foot3.1 hk with h1 | h1 | h1 | h1
    · exact .inl (mem_foot3.2 (.inl h1))
    · exact .inl (mem_foot3.2 (.inr (.inl h1)))
    · rcases hn k h1 with h2 | h2
      · exact .inl (mem_foot3.2 (.inr (.inr (.inl h2))))
      · exact .inr h2
    · exact .inl (mem_foot3.2 (.inr (.inr (.inr h1))))
  refine ⟨h.net.kept hk h.ni, hr, h.ro.kept hk (fun k hk hx => h.io k hx hk), fun y hy => ?_, fun y hy => (h.xo y hy).1.step (h.xo y hy).2 kb hF, h.kp.trans kb (fun k hk => .inr (h.nw k hk)), fun k hk => ?_, fun k hk hv => ?_, h.no, fun k hk hv => ?_⟩
  · rcases List.mem_append.1 hy with h1 | h1
    · exact (h.xi y h1).1.step (h.xi y h1).2 kb hF
    · rw [List.mem_singleton] at h1; subst h1; exact hx.step ho kb hF
  · rcases hF k hk with h1 | h1
    · exact h.nw k h1
    · have := h.kp.size; omega
  · rcases hn k hv with h1 | h1
    · exact h.ni k hk h1
    · have := h.net.ltAll k hk; omega
  · rcases hn k hk with h1 | h1
    · exact h.io k h1 hv
    · have := h.ro.lt k hv; omega
/-- One more in the second row. -/
theorem CntI.addO (h : CntI W p w v vi vo li lo n) {x : Bs} (hx : x.ok w) (ho : Off (foot3 p v vi vo) x) {vo' : Value} {lo' : List Bs} (hl : lo' = lo ++ [x]) (hr : BsE.Row w' vo' lo') (hk : Kp (own vo) w w') (hn : ∀ k ∈ own vo', k ∈ own vo ∨ w.heap.size ≤ k) : CntI W p w' v vi vo' li lo' n := by
  subst hl
  have kb : Kp (foot3 p v vi vo) w w' := kpBig hk (fun k hk => mem_foot3.2 (by simp [hk]))
  have hF : ∀ k ∈ foot3 p v vi vo', k ∈ foot3 p v vi vo ∨ w.heap.size ≤ k := fun k hk => by
    rcases mem_foot3.1 hk with h1 | h1 | h1 | h1
    · exact .inl (mem_foot3.2 (.inl h1))
    · exact .inl (mem_foot3.2 (.inr (.inl h1)))
    · exact .inl (mem_foot3.2 (.inr (.inr (.inl h1))))
    · rcases hn k h1 with h2 | h2
      · exact .inl (mem_foot3.2 (.inr (.inr (.inr h2))))
      · exact .inr h2
  refine ⟨h.net.kept hk h.no, h.ri.kept hk (fun k hk hx => h.io k hk hx), hr, fun y hy => (h.xi y hy).1.step (h.xi y hy).2 kb hF, fun y hy => ?_, h.kp.trans kb (fun k hk => .inr (h.nw k hk)), fun k hk => ?_, h.ni, fun k hk hv => ?_, fun k hk hv => ?_⟩
  · rcases List.mem_append.1 hy with h1 | h1
    · exact (h.xo y h1).1.step (h.xo y h1).2 kb hF
    · rw [List.mem_singleton] at h1; subst h1; exact hx.step ho kb hF
  · rcases hF k hk with h1 | h1
    · exact h.nw k h1
    · have := h.kp.size; omega
  · rcases hn k hv with h1 | h1
    · exact h.no k hk h1
    · have := h.net.ltAll k hk; omega
  · rcases hn k hv with h1 | h1
    · exact h.io k hk h1
    · have := h.ri.lt k hk; omega
end
/-- What was sent and doubled is what went out and what is there. -/
def Even (li lo : List Bs) (n : Nt) : Prop := (li.map Bs.bs).Perm (lo.map Bs.bs ++ n.l.map Msg.body)
theorem even_put {li lo : List Bs} {n : Nt} {x : Bs} {to : Int} (h : Even li lo n) : Even (li ++ [x]) lo { n with l := n.l ++ [⟨to, x.bs⟩] } := by
  unfold Even at *
  simp only [List.map_append, List.map_cons, List.map_nil]
  rw [← List.append_assoc]
  exact h.append_right _
theorem erase_perm {l : List Msg} {k : Nat} (hk : k < l.length) : l.Perm (l[k] :: l.eraseIdx k) := by
  induction l generalizing k with
  | nil => simp at hk
  | cons x l ih =>
    cases k with
    | zero => exact List.Perm.refl _
    | succ k =>
      have := ih (k := k) (by simpa using hk)
      simp only [List.getElem_cons_succ, List.eraseIdx_cons_succ]
      exact (this.cons x).trans (List.Perm.swap _ _ _)
theorem even_drop {li lo : List Bs} {n : Nt} {k : Nat} {m : Msg} {x : Bs} (h : Even li lo n) (hm : n.l[k]? = some m) (hx : x.bs = m.body) : Even li (lo ++ [x]) { n with l := n.l.eraseIdx k } := by
  unfold Even at *
  obtain ⟨hk, rfl⟩ := List.getElem?_eq_some_iff.1 hm
  have hp : n.l.Perm (n.l[k] :: n.l.eraseIdx k) := erase_perm hk
  refine h.trans ?_
  simp only [List.map_append, List.map_cons, List.map_nil, List.append_assoc, List.singleton_append, hx]
  exact (hp.map Msg.body).append_left _
theorem even_cnt {li lo : List Bs} {n : Nt} (h : Even li lo n) {lr : List Bs} (hr : lr.map Bs.bs = n.l.map Msg.body) (b : List UInt8) : cntL li b = cntL lo b + cntL lr b := by
  unfold cntL
  rw [h.count_eq, List.count_append, hr]
theorem even_len {li lo : List Bs} {n : Nt} (h : Even li lo n) : li.length = lo.length + n.l.length := by
  have := h.length_eq
  simpa using this
end Go.Proofs.Ytgegdlllmpinfaa

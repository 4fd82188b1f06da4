/- Arguments opened: a slice of a disk's calls. What such calls make of a disk. -/
import Derived.Test.YtgllkonbgigcbabLchg
import Derived.Test.YtgllkonbgigcbabLbeg
namespace Go.Proofs.Ytgllkonbgigcbab
open Go.ChangeShapes Go.WideShapes Go.ChangeAt Go.RowKit Go.Hay
set_option linter.unusedVariables false
set_option linter.unusedSimpArgs false

def DOpE : El DOp where
  n := 7
  c o := [.int .i64 o.kind, .string ⟨o.name.toArray⟩, .string ⟨o.to.toArray⟩, .slice o.b.a o.b.bs.length o.b.c, .int .i64 o.n, .int .i64 o.bit, .slice o.ka o.ks.length o.kc]
  len _ := rfl
  one _ u hu := by simp at hu; rcases hu with rfl | rfl | rfl | rfl | rfl | rfl | rfl <;> rfl
  pos := by decide
def IntE : El Int where
  n := 1
  c x := [.int .i64 x]
  len _ := rfl
  one _ u hu := by simp at hu; subst hu; rfl
  pos := by decide
structure DOp.ok (w : World) (o : DOp) : Prop where
  b : o.b.ok w
  name : o.name.length ≤ maxLen
  to : o.to.length ≤ maxLen
  n0 : -9223372036854775808 ≤ o.n
  n1 : o.n < 9223372036854775808
  b0 : -9223372036854775808 ≤ o.bit
  b1 : o.bit < 9223372036854775808
  ks : Ints w o.ka o.ks
  kl : o.ks.length ≤ o.kc
  kc : o.kc ≤ maxLen
  k64 : ∀ k ∈ o.ks, -9223372036854775808 ≤ k ∧ k < 9223372036854775808
theorem DOp.ok.kept {w w' : World} {o : DOp} (h : o.ok w) (hk : Kp [] w w') : o.ok w' := ⟨h.b.keptNew hk, h.name, h.to, h.n0, h.n1, h.b0, h.b1, h.ks.kept hk, h.kl, h.kc, h.k64⟩
theorem dopAt {w : World} {a : Option Addr} {l : List DOp} (h : DOpE.See w a l) {k : Nat} {o : DOp} (hx : l[k]? = some o) : ∃ g f, a = some ⟨g, f, none⟩ ∧ w.cell? ⟨g, f + k * 7, none⟩ = some (.int .i64 o.kind) ∧ w.cell? ⟨g, f + k * 7 + 1, none⟩ = some (.string ⟨o.name.toArray⟩) ∧ w.cell? ⟨g, f + k * 7 + 2, none⟩ = some (.string ⟨o.to.toArray⟩) ∧ w.cell? ⟨g, f + k * 7 + 3, none⟩ = some (.slice o.b.a o.b.bs.length o.b.c) ∧ w.cell? ⟨g, f + k * 7 + 4, none⟩ = some (.int .i64 o.n) ∧ w.cell? ⟨g, f + k * 7 + 5, none⟩ = some (.int .i64 o.bit) ∧ w.cell? ⟨g, f + k * 7 + 6, none⟩ = some (.slice o.ka o.ks.length o.kc) := by
  obtain ⟨g, f, rfl, hc⟩ := h.at hx
  exact ⟨g, f, rfl, hc 0 _ rfl, hc 1 _ rfl, hc 2 _ rfl, hc 3 _ rfl, hc 4 _ rfl, hc 5 _ rfl, hc 6 _ rfl⟩
theorem intsSee {w : World} {a : Option Addr} {l : List Int} (h : IntE.See w a l) : Ints w a l := by
  rcases h with h | ⟨g, o, rfl, hc⟩
  · exact .inl h
  · refine .inr ⟨g, o, rfl, fun j k hk => hc j _ ?_⟩
    have := El.cs_get IntE hk (k := 0) (by decide)
    simpa [IntE] using this
theorem cellsD : Try.prog.cellsOf 29 = 7 := by kernel_rfl
theorem bytesD : Try.prog.bytesOf 29 = 104 := by kernel_rfl
theorem cellsStr : Try.prog.cellsOf 9 = 1 := by kernel_rfl
theorem cellsInts : Try.prog.cellsOf 27 = 1 := by kernel_rfl
theorem bytesI : Try.prog.bytesOf 3 = 8 := by kernel_rfl
section
variable {H : Type} {enc : TypeId × Value → H} {W : World} {a : Option Addr} {len cap : Nat} {d : DataW H} {ps : List MemPlace}
theorem openS {fuel : Nat} {v : Value} {x : DataW H × List MemPlace} (h : DataW.trod enc Try.prog W 0 (fun _ => true) true fuel 9 [v] = some x) : ∃ s : List UInt8, v = .string ⟨s.toArray⟩ ∧ s.length ≤ maxLen := by
  obtain ⟨s, e, _, hs⟩ := DataW.trod_string Try.underlying9 h
  have hl : s.data.toList.length = s.size := by rw [Array.length_toList]; rfl
  refine ⟨s.data.toList, ?_, by rw [hl]; exact hs⟩
  simp at e
  rw [e]
theorem openInts (h : DataW.Trod enc Try.prog W 0 (fun _ => true) true 27 (.slice a len cap) d ps) :
    ∃ l : List Int, len = l.length ∧ IntE.See W a l ∧ (∀ y ∈ l, -9223372036854775808 ≤ y ∧ y < 9223372036854775808) ∧ l.length ≤ cap ∧ cap ≤ maxLen ∧ (a = none → cap = 0) ∧ (Fit 27 d → cap * 8 ≤ 140737488351232 ∧ ∀ y ∈ l, True) ∧ (l.map fun _ => 0).sum ≤ Rows.uptoBulk d ∧ cap + 1 ≤ Rows.uptoBulk d :=
  openEls IntE Try.underlying27 cellsI 8 bytesI (fun y => -9223372036854775808 ≤ y ∧ y < 9223372036854775808) (fun _ => True) (fun _ => 0) (fun fuel cs x hx hcs => by
    obtain ⟨v, rfl⟩ : ∃ v, cs = [v] := by
      match cs, hcs with
      | [v], _ => exact ⟨v, rfl⟩
    obtain ⟨n, rfl, n0, n1⟩ := openI hx
    exact ⟨n, ⟨n0, by omega⟩, rfl, fun _ => trivial, Nat.zero_le _⟩) h
theorem openDop {fuel : Nat} {cs : List Value} {x : DataW H × List MemPlace} (h : DataW.trod enc Try.prog W 0 (fun _ => true) true fuel 29 cs = some x) (hcs : cs.length = 7) :
    ∃ y : DOp, y.ok W ∧ cs = DOpE.c y ∧ (Fit 29 x.1 → True) ∧ y.b.bs.length + 1 ≤ Rows.uptoBulk x.1 := by
  obtain ⟨c0, c1, c2, c3, c4, c5, c6, rfl⟩ : ∃ c0 c1 c2 c3 c4 c5 c6, cs = [c0, c1, c2, c3, c4, c5, c6] := by
    match cs, hcs with
    | [c0, c1, c2, c3, c4, c5, c6], _ => exact ⟨c0, c1, c2, c3, c4, c5, c6, rfl⟩
  obtain ⟨xs, n, _, rfl, _, hlen, hf⟩ := DataW.trod_struct Try.underlying29 h
  match xs, hlen with
  | [y0, y1, y2, y3, y4, y5, y6], _ =>
    have h0 := hf 0 _ rfl
    have h1 := hf 1 _ rfl
    have h2 := hf 2 _ rfl
    have h3 := hf 3 _ rfl
    have h4 := hf 4 _ rfl
    have h5 := hf 5 _ rfl
    have h6 := hf 6 _ rfl
    simp [cellsI, cellsS, cellsStr, cellsInts] at h0 h1 h2 h3 h4 h5 h6
    obtain ⟨k, rfl, k0, k1⟩ := openI h0
    obtain ⟨nm, rfl, hnm⟩ := openS h1
    obtain ⟨to, rfl, hto⟩ := openS h2
    obtain ⟨b, hb, rfl, hfew, hbk⟩ := openByt h3
    obtain ⟨m, rfl, m0, m1⟩ := openI h4
    obtain ⟨bit, rfl, b0, b1⟩ := openI h5
    have hv : ∃ a len cap, c6 = .slice a len cap := by
      rcases Go.Deep.open_slice Try.underlying27 h6 with ⟨hcs, _⟩ | ⟨a, len, cap, _, _, _, _, hcs, _⟩
      · exact ⟨none, 0, 0, by simpa using hcs⟩
      · exact ⟨_, _, _, by simpa using hcs⟩
    obtain ⟨ka, kl, kc, rfl⟩ := hv
    obtain ⟨ks, rfl, hks, hk64, hkl, hkc, _⟩ := openInts (d := y6.1) (ps := y6.2) ⟨_, h6⟩
    refine ⟨⟨k, nm, to, b, m, bit, ka, kc, ks⟩, ⟨hb, hnm, hto, m0, (show m < 9223372036854775808 by omega), b0, (show bit < 9223372036854775808 by omega), intsSee hks, hkl, hkc, hk64⟩, rfl, fun _ => trivial, ?_⟩
    simp only [List.map_cons, List.map_nil, Rows.uptoBulk, Rows.uptoBulkAll]
    omega
theorem openDops (h : DataW.Trod enc Try.prog W 0 (fun _ => true) true 22 (.slice a len cap) d ps) :
    ∃ l : List DOp, len = l.length ∧ DOpE.See W a l ∧ (∀ y ∈ l, y.ok W) ∧ l.length ≤ cap ∧ cap ≤ maxLen ∧ (a = none → cap = 0) ∧ (Fit 22 d → cap * 104 ≤ 140737488351232 ∧ ∀ y ∈ l, True) ∧ (l.map fun y => y.b.bs.length + 1).sum ≤ Rows.uptoBulk d ∧ cap + 1 ≤ Rows.uptoBulk d :=
  openEls DOpE Try.underlying22 cellsD 104 bytesD (fun y => y.ok W) (fun _ => True) (fun y => y.b.bs.length + 1) (fun fuel cs x hx hcs => openDop hx hcs) h
end
end Go.Proofs.Ytgllkonbgigcbab

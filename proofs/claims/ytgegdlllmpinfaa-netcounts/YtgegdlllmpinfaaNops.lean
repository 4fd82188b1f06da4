/- Arguments opened: a slice of a net's calls. -/
import Derived.Test.YtgegdlllmpinfaaNopn
namespace Go.Proofs.Ytgegdlllmpinfaa
open Go.ChangeShapes Go.WideShapes Go.ChangeAt Go.RowKit Go.Hay
set_option linter.unusedVariables false

/-- A call. -/
structure NOp where
  kind : Int
  to : Int
  n : Int
  raw : Bs
instance : Inhabited NOp := ⟨⟨0, 0, 0, default⟩⟩
def NOpE : El NOp where
  n := 4
  c x := [.int .i64 x.kind, .int .i64 x.to, .int .i64 x.n, x.raw.v]
  len _ := rfl
  one _ u hu := by simp at hu; rcases hu with rfl | rfl | rfl | rfl <;> rfl
  pos := by decide
structure NOp.ok (w : World) (x : NOp) : Prop where
  raw : x.raw.ok w
  k0 : -9223372036854775808 ≤ x.kind
  k1 : x.kind ≤ 9223372036854775807
  t0 : -9223372036854775808 ≤ x.to
  t1 : x.to ≤ 9223372036854775807
  n0 : -9223372036854775808 ≤ x.n
  n1 : x.n ≤ 9223372036854775807
theorem NOp.ok.kept {w w' : World} {x : NOp} {S : List Nat} (h : x.ok w) (hk : Kp S w w') (hn : x.raw.bs ≠ [] → ∀ k ∈ blk x.raw.a, k ∉ S) : x.ok w' := ⟨h.raw.kept hk hn, h.k0, h.k1, h.t0, h.t1, h.n0, h.n1⟩
def FewO (x : NOp) : Prop := Few x.raw
theorem opAt {w : World} {a : Option Addr} {l : List NOp} (h : NOpE.See w a l) {k : Nat} {x : NOp} (hx : l[k]? = some x) : ∃ g o, a = some ⟨g, o, none⟩ ∧ w.cell? ⟨g, o + k * 4, none⟩ = some (.int .i64 x.kind) ∧ w.cell? ⟨g, o + k * 4 + 1, none⟩ = some (.int .i64 x.to) ∧ w.cell? ⟨g, o + k * 4 + 2, none⟩ = some (.int .i64 x.n) ∧ w.cell? ⟨g, o + k * 4 + 3, none⟩ = some (.slice x.raw.a x.raw.bs.length x.raw.c) := by
  obtain ⟨g, o, rfl, hc⟩ := h.at hx
  exact ⟨g, o, rfl, hc 0 _ rfl, hc 1 _ rfl, hc 2 _ rfl, hc 3 _ rfl⟩
theorem cellsO : Try.prog.cellsOf 29 = 4 := by kernel_rfl
theorem bytesO : Try.prog.bytesOf 29 = 48 := by kernel_rfl
section
variable {H : Type} {enc : TypeId × Value → H} {W : World} {a : Option Addr} {len cap : Nat} {d : DataW H} {ps : List MemPlace}
theorem openNop {fuel : Nat} {cs : List Value} {x : DataW H × List MemPlace} (h : DataW.trod enc Try.prog W 0 (fun _ => true) true fuel 29 cs = some x) (hcs : cs.length = 4) :
    ∃ y : NOp, y.ok W ∧ cs = NOpE.c y ∧ (Fit 29 x.1 → FewO y) ∧ y.raw.bs.length + 1 ≤ Rows.uptoBulk x.1 := by
  obtain ⟨c0, c1, c2, c3, rfl⟩ : ∃ c0 c1 c2 c3, cs = [c0, c1, c2, c3] := by
    match cs, hcs with
    | [c0, c1, c2, c3], _ => exact ⟨c0, c1, c2, c3, rfl⟩
  obtain ⟨xs, n, _, rfl, _, hlen, hf⟩ := DataW.trod_struct Try.underlying29 h
  match xs, hlen with
  | [y0, y1, y2, y3], _ =>
    have h0 := hf 0 _ rfl
    have h1 := hf 1 _ rfl
    have h2 := hf 2 _ rfl
    have h3 := hf 3 _ rfl
    simp [cellsI, cellsS] at h0 h1 h2 h3
    obtain ⟨k, rfl, k0, k1⟩ := openI h0
    obtain ⟨t, rfl, t0, t1⟩ := openI h1
    obtain ⟨m, rfl, m0, m1⟩ := openI h2
    obtain ⟨b, hb, rfl, hfew, hbk⟩ := openByt h3
    refine ⟨⟨k, t, m, b⟩, ⟨hb, k0, k1, t0, t1, m0, m1⟩, rfl, fun hfit => hfew (List.all_eq_true.2 fun z hz => List.all_eq_true.1 hfit z ?_), ?_⟩
    · simp only [List.map_cons, List.map_nil, DataW.weights, Try.underlying29]
      simp [DataW.weightsEach, hz]
    · simp only [List.map_cons, List.map_nil, Rows.uptoBulk, Rows.uptoBulkAll]
      omega
theorem openNops (h : DataW.Trod enc Try.prog W 0 (fun _ => true) true 22 (.slice a len cap) d ps) :
    ∃ l : List NOp, len = l.length ∧ NOpE.See W a l ∧ (∀ y ∈ l, y.ok W) ∧ l.length ≤ cap ∧ cap ≤ maxLen ∧ (a = none → cap = 0) ∧ (Fit 22 d → cap * 48 ≤ 140737488351232 ∧ ∀ y ∈ l, FewO y) ∧ (l.map fun y => y.raw.bs.length + 1).sum ≤ Rows.uptoBulk d ∧ cap + 1 ≤ Rows.uptoBulk d :=
  openEls NOpE Try.underlying22 cellsO 48 bytesO (fun y => y.ok W) FewO (fun y => y.raw.bs.length + 1) (fun fuel cs x hx hcs => openNop hx hcs) h
end
end Go.Proofs.Ytgegdlllmpinfaa

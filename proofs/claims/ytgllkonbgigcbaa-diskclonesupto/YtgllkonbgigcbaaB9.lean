/- How each law begins: a new disk, and answers that the document fixes. Arguments opened: a slice of a disk's calls. What such calls make of a disk. What calls make of a disk that was never armed: by its files and its room alone; how great it grows. Any disk, armed or dead: what calls make of its files; how great it grows. The reference's call Do: refused, and at the step at which it dies. -/
import Derived.Test.YtgllkonbgigcbaaB4
import Derived.Test.YtgllkonbgigcbaaB8
import Derived.Test.YtgllkonbgigcbaaB6
section
namespace Go.Proofs.Ytgllkonbgigcbaa
open Go.RowKit Go.Hay Go.Maps
set_option linter.unusedVariables false
set_option linter.unusedSimpArgs false

/-- Bytes that a slice sees, as a string. -/
theorem convSees {w : World} {a : Option Addr} {l : List UInt8} (h : Sees w a l) (c : Nat) : (convert 34 9 (.slice a l.length c)).run Try.prog w = .ok (.string ⟨l.toArray⟩) w := by
  rcases h with rfl | ⟨g, o, rfl, hc⟩
  · cases a with
    | none => exact run_convert_bytes_nil w 34 5 Try.underlying34 Try.underlying5 0 c 9 Try.underlying9
    | some ad => exact run_convert_bytes_back (P := Try.prog) w 34 9 5 ad c [] Try.underlying34 Try.underlying5 Try.underlying9 (fun j hj => by simp at hj)
  · refine run_convert_bytes_back (P := Try.prog) w 34 9 5 ⟨g, o, none⟩ c l Try.underlying34 Try.underlying5 Try.underlying9 (fun j hj => ?_)
    rw [Addr.add_lit]
    exact hc j l[j] (by simp)
theorem dk1 : appendD (newD 10) [97] [1, 2] = (⟨10, 1, [⟨[97], [1, 2], 0⟩], none, false⟩, 0) := by rfl
theorem dk2 : doD ⟨10, 1, [⟨[97], [1, 2], 0⟩], none, false⟩ 1 [97] [] 0 = (⟨10, 2, [⟨[97], [1, 2], 2⟩], none, false⟩, 0) := by rfl
theorem dk3 : appendD ⟨10, 2, [⟨[97], [1, 2], 2⟩], none, false⟩ [97] [3] = (⟨10, 3, [⟨[97], [1, 2, 3], 2⟩], none, false⟩, 0) := by rfl
theorem dk4 : crashD ⟨10, 3, [⟨[97], [1, 2, 3], 2⟩], none, false⟩ [] = ⟨10, 0, [⟨[97], [1, 2], 2⟩], none, false⟩ := by rfl
theorem len_of {w : World} {p mb : Nat} {xs : List Ent} {d : Dk} (h : Disk w p mb xs d) : xs.length = d.files.length := by rw [h.fl]; simp
theorem sees_new (w : World) {q : Nat} (hq : w.heap.size = q) (C : Array Value) (t : TypeId) (bs : List UInt8) (h : C.toList = bcells bs) : Sees (w.alloc (.cells C t)) (some ⟨q, 0, none⟩) bs := by subst hq; exact Sees.new w C t (0, 0) bs h

def BegP (room : Int) (w : World) (e : Ending) (w' : World) : Prop := ∃ p mb, e = .returned (.tuple #[.pointer (some ⟨p, 0, none⟩), .bool true]) ∧ Disk w' p mb [] (newD room) ∧ Kp [] w w' ∧ w.heap.size ≤ p ∧ w.heap.size ≤ mb
theorem smallOne {d : Dk} {n b : List UInt8} {k : Nat} (h : d.files = [⟨n, b, k⟩]) (hb : b.length ≤ 100) : Small d := fun f hf => by rw [h] at hf; simp at hf; subst hf; simp only; omega
set_option maxHeartbeats 8000000 in
set_option maxRecDepth 100000 in
theorem cBegun (room : Int) (w : World) (hroom : room < 9223372036854775808) : Calls Try.prog 9 #[.int .i64 room] w (BegP room w) := by
  go_enter Try.func9, Try.ntmps9
  go_wp2_with fail
  refine (cNew 10 w (by omega)).mono ?_
  rintro e w1 ⟨p, mb, rfl, hD1, k1, hp, hmb⟩
  obtain ⟨w2, hw2⟩ : ∃ w2, w1.alloc (.cells #[.int .u8 1, .int .u8 2] 5) = w2 := ⟨_, rfl⟩
  have k2 : Kp [] w1 w2 := by rw [← hw2]; exact (Kp.refl _ _).alloc _
  have s2 : Sees w2 (some ⟨w1.heap.size, 0, none⟩) [1, 2] := by rw [← hw2]; exact sees_new w1 rfl _ _ _ rfl
  have hD2 := hD1.keptNew k2
  have hlt1 := hD1.lt
  have a1 := cAppend hD2 (by simp [newD]) (by simp) (by intro f hf; simp [newD] at hf) [97] (by unfold maxLen; simp) (some ⟨w1.heap.size, 0, none⟩) 2 [1, 2] s2 (fun _ k hk hf => by simp [blk] at hk; have := hlt1 k hf; omega) (by simp [newD, fileOf, lookG])
  rw [dk1] at a1
  simp only [List.length_cons, List.length_nil, Nat.reduceAdd] at a1
  go_wp2_with fail
  refine a1.mono ?_
  rintro e w3 ⟨rfl, xs3, hD3, mv3⟩
  have a2 := cSync hD3 (by simp) [97] (by unfold maxLen; simp) [] 0
  rw [dk2] at a2
  go_wp2_with fail
  refine a2.mono ?_
  rintro e w4 ⟨rfl, xs4, hD4, mv4⟩
  obtain ⟨w5, hw5⟩ : ∃ w5, w4.alloc (.cells #[.int .u8 3] 5) = w5 := ⟨_, rfl⟩
  have k5 : Kp [] w4 w5 := by rw [← hw5]; exact (Kp.refl _ _).alloc _
  have s5 : Sees w5 (some ⟨w4.heap.size, 0, none⟩) [3] := by rw [← hw5]; exact sees_new w4 rfl _ _ _ rfl
  have hD5 := hD4.keptNew k5
  have hlt4 := hD4.lt
  have a3 := cAppend hD5 (by simp) (by rw [len_of hD5]; simp) (smallOne rfl (by simp)) [97] (by unfold maxLen; simp) (some ⟨w4.heap.size, 0, none⟩) 1 [3] s5 (fun _ k hk hf => by simp [blk] at hk; have := hlt4 k hf; omega) (by simp [fileOf, lookG])
  rw [dk3] at a3
  simp only [List.length_cons, List.length_nil, Nat.reduceAdd] at a3
  go_wp2_with fail
  refine a3.mono ?_
  rintro e w6 ⟨rfl, xs6, hD6, mv6⟩
  have a4 := cRead hD6 (smallOne rfl (by simp)) [97] (by unfold maxLen; simp)
  have e4 : (lookG Fl.name [97] [(⟨[97], [1, 2, 3], 2⟩ : Fl)]).map Fl.bytes = some [1, 2, 3] := by rfl
  simp only at a4
  rw [e4] at a4
  go_wp2_with fail
  refine a4.mono ?_
  rintro e w7 ⟨ra, rc, rfl, hr7, k7, hn7⟩
  have hD7 := hD6.keptNew k7
  have a5 := cCrash hD7 (smallOne rfl (by simp)) (by rw [len_of hD7]; simp) none 0 [] (.inl rfl) (Nat.le_refl _) (by omega) (by simp)
  rw [dk4] at a5
  simp only [List.length_cons, List.length_nil, Nat.reduceAdd] at a5
  simp only [List.length_cons, List.length_nil, Nat.reduceAdd] at hr7 ⊢
  go_wp2_with fail
  refine a5.mono ?_
  rintro e w8 ⟨pc, mc, xc, rfl, hD8, k8, hn8⟩
  have a6 := cRead hD8 (smallOne rfl (by simp)) [97] (by unfold maxLen; simp)
  have e6 : (lookG Fl.name [97] [(⟨[97], [1, 2], 2⟩ : Fl)]).map Fl.bytes = some [1, 2] := by rfl
  simp only at a6
  rw [e6] at a6
  go_wp2_with fail
  refine a6.mono ?_
  rintro e w9 ⟨sa, sc, rfl, hr9, k9, hn9⟩
  simp only [List.length_cons, List.length_nil, Nat.reduceAdd] at hr9 ⊢
  have a7 := cNew room w9 hroom
  go_wp2_with fail
  refine a7.mono ?_
  rintro e wA ⟨pn, mn, rfl, hDA, kA, hpn, hmn⟩
  have k79 : Kp [] w7 wA := (k8.trans k9 (by simp)).trans kA (by simp)
  obtain ⟨_, _, er7, hs7, _⟩ := hr7.sees
  cases er7
  obtain ⟨_, _, er9, hs9, _⟩ := hr9.sees
  cases er9
  have cv1 := convSees (hs7.kept k79 (by simp)) rc
  have cv2 := convSees (hs9.kept kA (by simp)) sc
  simp only [List.length_cons, List.length_nil, Nat.reduceAdd] at cv1 cv2
  have a8 := cSteps (hD7.keptNew k79)
  have kp2 : Kp [] w w2 := k1.trans k2 (by simp)
  have kp3 : Kp [] w w3 := kp2.trans mv3.kp (fun x hx => .inr (by simp [foot] at hx; omega))
  have nw3 : ∀ x ∈ foot p mb xs3, w.heap.size ≤ x := fun x hx => by
    rcases mv3.new x hx with h | h
    · simp [foot] at h; omega
    · have := kp2.size; omega
  have kp4 : Kp [] w w4 := kp3.trans mv4.kp (fun x hx => .inr (nw3 x hx))
  have nw4 : ∀ x ∈ foot p mb xs4, w.heap.size ≤ x := fun x hx => by
    rcases mv4.new x hx with h | h
    · exact nw3 x h
    · have := kp3.size; omega
  have kp6 : Kp [] w w6 := (kp4.trans k5 (by simp)).trans mv6.kp (fun x hx => .inr (nw4 x hx))
  have kpA : Kp [] w wA := (kp6.trans k7 (by simp)).trans k79 (by simp)
  have hsz : w.heap.size ≤ w9.heap.size := by have := kp6.size; have := k7.size; have := k8.size; have := k9.size; omega
  have hfin : BegP room w (.returned (.tuple #[.pointer (some ⟨pn, 0, none⟩), .bool true])) wA := ⟨pn, mn, rfl, hDA, kpA, by omega, by omega⟩
  clear hs7 hs9 hr7 hr9 hn7 hn9
  go_wp2_with fail
  refine a8.mono ?_
  rintro e wB ⟨rfl, rfl⟩
  go_wp2_with fail
  go_returns
  exact hfin
end Go.Proofs.Ytgllkonbgigcbaa
end

section
namespace Go.Proofs.Ytgllkonbgigcbaa
open Go.ChangeShapes Go.WideShapes Go.ChangeAt Go.RowKit Go.Hay
set_option linter.unusedVariables false
set_option linter.unusedSimpArgs false

def DOpE : El DOp where
  n := 7
  c o := [.int .i64 o.kind, .string ⟨o.name.toArray⟩, .string ⟨o.to.toArray⟩, .slice o.b.a o.b.bs.length o.b.c, .int .i64 o.n, .int .i64 o.bit, .slice o.ka o.ks.length o.kc]
  len _ := rfl
  one _ u hu := by simp at hu; rcases hu with rfl | rfl | rfl | rfl | rfl | rfl | rfl <;> rfl
  pos := by decide
def IntE : El Int where
  n := 1
  c x := [.int .i64 x]
  len _ := rfl
  one _ u hu := by simp at hu; subst hu; rfl
  pos := by decide
structure DOp.ok (w : World) (o : DOp) : Prop where
  b : o.b.ok w
  name : o.name.length ≤ maxLen
  to : o.to.length ≤ maxLen
  n0 : -9223372036854775808 ≤ o.n
  n1 : o.n < 9223372036854775808
  b0 : -9223372036854775808 ≤ o.bit
  b1 : o.bit < 9223372036854775808
  ks : Ints w o.ka o.ks
  kl : o.ks.length ≤ o.kc
  kc : o.kc ≤ maxLen
  k64 : ∀ k ∈ o.ks, -9223372036854775808 ≤ k ∧ k < 9223372036854775808
theorem DOp.ok.kept {w w' : World} {o : DOp} (h : o.ok w) (hk : Kp [] w w') : o.ok w' := ⟨h.b.keptNew hk, h.name, h.to, h.n0, h.n1, h.b0, h.b1, h.ks.kept hk, h.kl, h.kc, h.k64⟩
theorem dopAt {w : World} {a : Option Addr} {l : List DOp} (h : DOpE.See w a l) {k : Nat} {o : DOp} (hx : l[k]? = some o) : ∃ g f, a = some ⟨g, f, none⟩ ∧ w.cell? ⟨g, f + k * 7, none⟩ = some (.int .i64 o.kind) ∧ w.cell? ⟨g, f + k * 7 + 1, none⟩ = some (.string ⟨o.name.toArray⟩) ∧ w.cell? ⟨g, f + k * 7 + 2, none⟩ = some (.string ⟨o.to.toArray⟩) ∧ w.cell? ⟨g, f + k * 7 + 3, none⟩ = some (.slice o.b.a o.b.bs.length o.b.c) ∧ w.cell? ⟨g, f + k * 7 + 4, none⟩ = some (.int .i64 o.n) ∧ w.cell? ⟨g, f + k * 7 + 5, none⟩ = some (.int .i64 o.bit) ∧ w.cell? ⟨g, f + k * 7 + 6, none⟩ = some (.slice o.ka o.ks.length o.kc) := by
  obtain ⟨g, f, rfl, hc⟩ := h.at hx
  exact ⟨g, f, rfl, hc 0 _ rfl, hc 1 _ rfl, hc 2 _ rfl, hc 3 _ rfl, hc 4 _ rfl, hc 5 _ rfl, hc 6 _ rfl⟩
theorem intsSee {w : World} {a : Option Addr} {l : List Int} (h : IntE.See w a l) : Ints w a l := by
  rcases h with h | ⟨g, o, rfl, hc⟩
  · exact .inl h
  · refine .inr ⟨g, o, rfl, fun j k hk => hc j _ ?_⟩
    have := El.cs_get IntE hk (k := 0) (by decide)
    simpa [IntE] using this
theorem cellsD : Try.prog.cellsOf 36 = 7 := by kernel_rfl
theorem bytesD : Try.prog.bytesOf 36 = 104 := by kernel_rfl
theorem cellsStr : Try.prog.cellsOf 9 = 1 := by kernel_rfl
theorem cellsInts : Try.prog.cellsOf 33 = 1 := by kernel_rfl
theorem bytesI : Try.prog.bytesOf 3 = 8 := by kernel_rfl
section
variable {H : Type} {enc : TypeId × Value → H} {W : World} {a : Option Addr} {len cap : Nat} {d : DataW H} {ps : List MemPlace}
theorem openS {fuel : Nat} {v : Value} {x : DataW H × List MemPlace} (h : DataW.trod enc Try.prog W 0 (fun _ => true) true fuel 9 [v] = some x) : ∃ s : List UInt8, v = .string ⟨s.toArray⟩ ∧ s.length ≤ maxLen := by
  obtain ⟨s, e, _, hs⟩ := DataW.trod_string Try.underlying9 h
  have hl : s.data.toList.length = s.size := by rw [Array.length_toList]; rfl
  refine ⟨s.data.toList, ?_, by rw [hl]; exact hs⟩
  simp at e
  rw [e]
theorem openInts (h : DataW.Trod enc Try.prog W 0 (fun _ => true) true 33 (.slice a len cap) d ps) :
    ∃ l : List Int, len = l.length ∧ IntE.See W a l ∧ (∀ y ∈ l, -9223372036854775808 ≤ y ∧ y < 9223372036854775808) ∧ l.length ≤ cap ∧ cap ≤ maxLen ∧ (a = none → cap = 0) ∧ (Fit 33 d → cap * 8 ≤ 140737488351232 ∧ ∀ y ∈ l, True) ∧ (l.map fun _ => 0).sum ≤ Rows.uptoBulk d ∧ cap + 1 ≤ Rows.uptoBulk d :=
  openEls IntE Try.underlying33 cellsI 8 bytesI (fun y => -9223372036854775808 ≤ y ∧ y < 9223372036854775808) (fun _ => True) (fun _ => 0) (fun fuel cs x hx hcs => by
    obtain ⟨v, rfl⟩ : ∃ v, cs = [v] := by
      match cs, hcs with
      | [v], _ => exact ⟨v, rfl⟩
    obtain ⟨n, rfl, n0, n1⟩ := openI hx
    exact ⟨n, ⟨n0, by omega⟩, rfl, fun _ => trivial, Nat.zero_le _⟩) h
theorem openDop {fuel : Nat} {cs : List Value} {x : DataW H × List MemPlace} (h : DataW.trod enc Try.prog W 0 (fun _ => true) true fuel 36 cs = some x) (hcs : cs.length = 7) :
    ∃ y : DOp, y.ok W ∧ cs = DOpE.c y ∧ (Fit 36 x.1 → True) ∧ y.b.bs.length + 1 ≤ Rows.uptoBulk x.1 := by
  obtain ⟨c0, c1, c2, c3, c4, c5, c6, rfl⟩ : ∃ c0 c1 c2 c3 c4 c5 c6, cs = [c0, c1, c2, c3, c4, c5, c6] := by
    match cs, hcs with
    | [c0, c1, c2, c3, c4, c5, c6], _ => exact ⟨c0, c1, c2, c3, c4, c5, c6, rfl⟩
  obtain ⟨xs, n, _, rfl, _, hlen, hf⟩ := DataW.trod_struct Try.underlying36 h
  match xs, hlen with
  | [y0, y1, y2, y3, y4, y5, y6], _ =>
    have h0 := hf 0 _ rfl
    have h1 := hf 1 _ rfl
    have h2 := hf 2 _ rfl
    have h3 := hf 3 _ rfl
    have h4 := hf 4 _ rfl
    have h5 := hf 5 _ rfl
    have h6 := hf 6 _ rfl
    simp [cellsI, cellsS, cellsStr, cellsInts] at h0 h1 h2 h3 h4 h5 h6
    obtain ⟨k, rfl, k0, k1⟩ := openI h0
    obtain ⟨nm, rfl, hnm⟩ := openS h1
    obtain ⟨to, rfl, hto⟩ := openS h2
    obtain ⟨b, hb, rfl, hfew, hbk⟩ := openByt h3
    obtain ⟨m, rfl, m0, m1⟩ := openI h4
    obtain ⟨bit, rfl, b0, b1⟩ := openI h5
    have hv : ∃ a len cap, c6 = .slice a len cap := by
      rcases Go.Deep.open_slice Try.underlying33 h6 with ⟨hcs, _⟩ | ⟨a, len, cap, _, _, _, _, hcs, _⟩
      · exact ⟨none, 0, 0, by simpa using hcs⟩
      · exact ⟨_, _, _, by simpa using hcs⟩
    obtain ⟨ka, kl, kc, rfl⟩ := hv
    obtain ⟨ks, rfl, hks, hk64, hkl, hkc, _⟩ := openInts (d := y6.1) (ps := y6.2) ⟨_, h6⟩
    refine ⟨⟨k, nm, to, b, m, bit, ka, kc, ks⟩, ⟨hb, hnm, hto, m0, (show m < 9223372036854775808 by omega), b0, (show bit < 9223372036854775808 by omega), intsSee hks, hkl, hkc, hk64⟩, rfl, fun _ => trivial, ?_⟩
    simp only [List.map_cons, List.map_nil, Rows.uptoBulk, Rows.uptoBulkAll]
    omega
theorem openDops (h : DataW.Trod enc Try.prog W 0 (fun _ => true) true 22 (.slice a len cap) d ps) :
    ∃ l : List DOp, len = l.length ∧ DOpE.See W a l ∧ (∀ y ∈ l, y.ok W) ∧ l.length ≤ cap ∧ cap ≤ maxLen ∧ (a = none → cap = 0) ∧ (Fit 22 d → cap * 104 ≤ 140737488351232 ∧ ∀ y ∈ l, True) ∧ (l.map fun y => y.b.bs.length + 1).sum ≤ Rows.uptoBulk d ∧ cap + 1 ≤ Rows.uptoBulk d :=
  openEls DOpE Try.underlying22 cellsD 104 bytesD (fun y => y.ok W) (fun _ => True) (fun y => y.b.bs.length + 1) (fun fuel cs x hx hcs => openDop hx hcs) h
end
end Go.Proofs.Ytgllkonbgigcbaa
end

section
namespace Go.Proofs.Ytgllkonbgigcbaa
open Go.RowKit Go.Hay
set_option linter.unusedVariables false
set_option linter.unusedSimpArgs false

def chgD (d : Dk) (o : DOp) : Dk :=
  if o.kind = 0 then (appendD d o.name o.b.bs).1 else if o.kind = 1 then (doD d 1 o.name [] 0).1 else if o.kind = 2 then (doD d 2 o.name [] o.n).1
  else if o.kind = 3 then (doD d 3 o.name o.to 0).1 else if o.kind = 4 then (doD d 4 o.name [] 0).1 else flipD d o.name o.n o.bit
theorem step_live (room s : Nat) (files : List Fl) : stepD ⟨room, s, files, none, false⟩ = (⟨room, s + 1, files, none, false⟩, false) := by simp [stepD]
theorem append_form (room : Nat) (files : List Fl) (name b : List UInt8) : ∃ F k, k ≤ 1 ∧ ∀ s, (appendD ⟨room, s, files, none, false⟩ name b).1 = ⟨room, s + k, F, none, false⟩ := by
  by_cases h1 : nameOk name = true
  · by_cases h2 : (b.length : Int) > (room : Int) - sumF files
    · exact ⟨files, 0, by omega, fun s => by simp [appendD, h1, freeD, h2]⟩
    · exact ⟨grownF files name b, 1, by omega, fun s => by simp [appendD, h1, freeD, h2, step_live]⟩
  · exact ⟨files, 0, by omega, fun s => by simp [appendD, h1]⟩
theorem do_form (room : Nat) (files : List Fl) (c : Int) (name to : List UInt8) (n : Int) : ∃ F k, k ≤ 1 ∧ ∀ s, (doD ⟨room, s, files, none, false⟩ c name to n).1 = ⟨room, s + k, F, none, false⟩ := by
  have hr : ∀ s, refusedD ⟨room, s, files, none, false⟩ c name to n = refusedD ⟨room, 0, files, none, false⟩ c name to n := fun s => rfl
  by_cases h1 : refusedD ⟨room, 0, files, none, false⟩ c name to n = 0
  · exact ⟨changedF files c name to n, 1, by omega, fun s => by unfold doD; rw [hr s, h1, step_live]; simp⟩
  · exact ⟨files, 0, by omega, fun s => by unfold doD; rw [hr s, if_pos h1]; rfl⟩
theorem flip_form (room : Nat) (files : List Fl) (name : List UInt8) (i b : Int) : ∃ F k, k ≤ 1 ∧ ∀ s, flipD ⟨room, s, files, none, false⟩ name i b = ⟨room, s + k, F, none, false⟩ := by
  have hr : ∀ s, flipOk ⟨room, s, files, none, false⟩ name i b = flipOk ⟨room, 0, files, none, false⟩ name i b := fun s => rfl
  cases h1 : flipOk ⟨room, 0, files, none, false⟩ name i b with
  | true => exact ⟨putG Fl.name { fileOf files name with bytes := flipB (fileOf files name).bytes i.toNat b.toNat } false files, 0, by omega, fun s => by unfold flipD; rw [hr s, h1]; simp⟩
  | false => exact ⟨files, 0, by omega, fun s => by unfold flipD; rw [hr s, h1]; simp⟩
theorem chg_form (room : Nat) (files : List Fl) (o : DOp) : ∃ F k, k ≤ 1 ∧ ∀ s, chgD ⟨room, s, files, none, false⟩ o = ⟨room, s + k, F, none, false⟩ := by
  unfold chgD
  by_cases h0 : o.kind = 0
  · simp only [h0, if_pos]; exact append_form ..
  by_cases h1 : o.kind = 1
  · simp only [h0, h1, if_pos, if_false]; exact do_form ..
  by_cases h2 : o.kind = 2
  · simp only [h0, h1, h2, if_pos, if_false]; exact do_form ..
  by_cases h3 : o.kind = 3
  · simp only [h0, h1, h2, h3, if_pos, if_false]; exact do_form ..
  by_cases h4 : o.kind = 4
  · simp only [h0, h1, h2, h3, h4, if_pos, if_false]; exact do_form ..
  · simp only [h0, h1, h2, h3, h4, if_false]; exact flip_form ..
theorem len_putG (f : Fl) : ∀ (done : Bool) (l : List Fl), (putG Fl.name f done l).length ≤ l.length + (if done then 0 else 1)
  | done, [] => by cases done <;> simp [putG]
  | done, g :: r => by
    have := len_putG f (done || leN f.name g.name) r
    have h2 : (if g.name = f.name then ([] : List Fl) else [g]).length ≤ 1 := by split <;> simp
    simp only [putG, List.length_append, List.length_cons]
    cases done
    · cases hle : leN f.name g.name <;> simp [hle] at this ⊢ <;> omega
    · simp at this ⊢; omega
theorem len_dropG (k : List UInt8) (l : List Fl) : (dropG Fl.name k l).length ≤ l.length := List.length_filter_le _ _
/-- At most K bytes, in at most J files. -/
structure Low (K J : Nat) (d : Dk) : Prop where
  ok : Okd { d with room := K }
  len : d.files.length ≤ J
theorem okMono {d : Dk} {K K' : Nat} (h : Okd { d with room := K }) (hK : K ≤ K') (hb : K' < 9223372036854775808) : Okd { d with room := K' } :=
  ⟨h.rise, h.last, h.name, Nat.le_trans h.sum hK, hb, h.arm⟩
theorem Low.mono {K J K' J' : Nat} {d : Dk} (h : Low K J d) (hK : K ≤ K') (hJ : J ≤ J') (hb : K' < 9223372036854775808) : Low K' J' d := ⟨okMono h.ok hK hb, Nat.le_trans h.len hJ⟩
theorem le_sumF {l : List Fl} {f : Fl} (h : f ∈ l) : f.bytes.length ≤ sumF l := by
  induction l with
  | nil => cases h
  | cons g l ih =>
    have e : sumF (g :: l) = g.bytes.length + sumF l := by simp [sumF]
    rw [e]
    rcases List.mem_cons.1 h with rfl | h
    · omega
    · have := ih h; omega
theorem Low.file {K J : Nat} {d : Dk} (h : Low K J d) (name : List UInt8) : (fileOf d.files name).bytes.length ≤ K := by
  unfold fileOf
  cases hl : lookG Fl.name name d.files with
  | none => simp
  | some f =>
    have hm := (lookG_some hl).1
    have hs := h.ok.sum
    have := le_sumF hm
    simp only [Option.getD_some]
    simp only at hs
    omega
theorem Low.small {K J : Nat} {d : Dk} (h : Low K J d) (hK : K ≤ 140737488355328) : Small d := fun f hf => by
  have hs := h.ok.sum
  have := le_sumF hf
  simp only at hs
  omega
theorem low_files {K J : Nat} {d d' : Dk} (h : Low K J d) (hf : Okd { d with room := K, files := d'.files }) (hl : d'.files.length ≤ J + 1) (ha : d'.arm = none) : Low K (J + 1) d' :=
  ⟨⟨hf.rise, hf.last, hf.name, hf.sum, hf.room, fun n hn => by simp only [ha] at hn; cases hn⟩, hl⟩
theorem low_append {K J room s : Nat} {files : List Fl} (name b : List UInt8) (h : Low K J ⟨room, s, files, none, false⟩) (hb : K + b.length < 9223372036854775808) : Low (K + b.length) (J + 1) (appendD ⟨room, s, files, none, false⟩ name b).1 := by
  have same := h.mono (K' := K + b.length) (J' := J + 1) (by omega) (by omega) hb
  unfold appendD
  simp only [Bool.false_eq_true, if_false]
  split
  · exact same
  split
  · exact same
  · rename_i h1 h2
    rw [step_live]
    have hn : nameOk name = true := by simpa using h1
    have hg := okGrown (d := ⟨K + b.length, s, files, none, false⟩) same.ok (name := name) (b := b) hn (by unfold freeD; have := h.ok.sum; simp only at this ⊢; omega)
    refine low_files (d := ⟨room, s, files, none, false⟩) ⟨same.ok, h.len⟩ hg ?_ rfl
    have := len_putG { fileOf files name with bytes := (fileOf files name).bytes ++ b } false files
    have hl := h.len
    simp only [grownF] at *
    simp at this
    omega
theorem low_do {K J room s : Nat} {files : List Fl} (c : Int) (hc : c = 1 ∨ c = 2 ∨ c = 3 ∨ c = 4) (name to : List UInt8) (n : Int) (h : Low K J ⟨room, s, files, none, false⟩) : Low K (J + 1) (doD ⟨room, s, files, none, false⟩ c name to n).1 := by
  have same := h.mono (K' := K) (J' := J + 1) (by omega) (by omega) h.ok.room
  unfold doD
  split
  · exact same
  · rename_i h1
    rw [step_live]
    simp only [Bool.false_eq_true, if_false]
    have h1 : refusedD ⟨room, s, files, none, false⟩ c name to n = 0 := by simpa using h1
    have hl := h.len
    simp only at hl
    cases hk : lookG Fl.name name files with
    | none => unfold refusedD at h1; simp [hk] at h1
    | some f =>
      have ef := fileOf_some hk
      unfold refusedD at h1
      simp only [hk, Bool.false_eq_true, if_false] at h1
      have fin : ∀ F, Okd { (⟨room, s, files, none, false⟩ : Dk) with room := K, files := F } → F.length ≤ J + 1 → Low K (J + 1) ⟨room, s + 1, F, none, false⟩ := fun F hF hL => low_files (d := ⟨room, s, files, none, false⟩) (d' := ⟨room, s + 1, F, none, false⟩) h hF hL rfl
      rcases hc with rfl | rfl | rfl | rfl
      · have := len_putG { f with last := f.bytes.length } false files
        simp at this
        simp only [changedF, ef, if_true]
        exact fin _ (okSync (d := ⟨K, s, files, none, false⟩) h.ok hk) (by omega)
      · have hn : ¬ (n < 0) ∧ ¬ (n > (f.bytes.length : Int)) := by
          split at h1
          · cases h1
          · rename_i hh; simpa using hh
        have := len_putG { f with bytes := f.bytes.take n.toNat, last := min f.last n.toNat } false files
        simp at this
        have e : changedF files 2 name to n = putG Fl.name { f with bytes := f.bytes.take n.toNat, last := min f.last n.toNat } false files := by simp [changedF, ef]
        simp only [e]
        exact fin _ (okTrunc (d := ⟨K, s, files, none, false⟩) h.ok hk n.toNat (by omega)) (by omega)
      · have ht : nameOk to = true := by
          simp at h1
          exact h1
        have h2 := len_putG { f with name := to } false (dropG Fl.name name files)
        have h3 := len_dropG name files
        simp at h2
        have e : changedF files 3 name to n = putG Fl.name { f with name := to } false (dropG Fl.name name files) := by simp [changedF, ef]
        simp only [e]
        exact fin _ (okRename (d := ⟨K, s, files, none, false⟩) h.ok hk ht) (by omega)
      · have h3 := len_dropG name files
        have e : changedF files 4 name to n = dropG Fl.name name files := by simp [changedF]
        simp only [e]
        exact fin _ (okDrop (d := ⟨K, s, files, none, false⟩) h.ok name) (by omega)
theorem low_flip {K J room s : Nat} {files : List Fl} (name : List UInt8) (i b : Int) (h : Low K J ⟨room, s, files, none, false⟩) : Low K (J + 1) (flipD ⟨room, s, files, none, false⟩ name i b) := by
  have same := h.mono (K' := K) (J' := J + 1) (by omega) (by omega) h.ok.room
  unfold flipD
  split
  · rename_i h1
    cases hk : lookG Fl.name name files with
    | none => unfold flipOk at h1; simp [hk] at h1
    | some f =>
      have ef := fileOf_some hk
      have := len_putG { f with bytes := flipB f.bytes i.toNat b.toNat } false files
      have hl := h.len
      simp at this
      simp only at hl
      simp only [ef]
      exact low_files (d := ⟨room, s, files, none, false⟩) (d' := ⟨room, s, _, none, false⟩) h (okFlip (d := ⟨K, s, files, none, false⟩) h.ok hk i.toNat b.toNat) (by simp only; omega) rfl
  · exact same
theorem low_chg {K J room s : Nat} {files : List Fl} (o : DOp) (h : Low K J ⟨room, s, files, none, false⟩) (hb : K + o.b.bs.length < 9223372036854775808) : Low (K + o.b.bs.length) (J + 1) (chgD ⟨room, s, files, none, false⟩ o) := by
  unfold chgD
  split
  · exact low_append _ _ h hb
  split
  · exact (low_do 1 (by simp) _ _ _ h).mono (by omega) (by omega) hb
  split
  · exact (low_do 2 (by simp) _ _ _ h).mono (by omega) (by omega) hb
  split
  · exact (low_do 3 (by simp) _ _ _ h).mono (by omega) (by omega) hb
  split
  · exact (low_do 4 (by simp) _ _ _ h).mono (by omega) (by omega) hb
  · exact (low_flip _ _ _ h).mono (by omega) (by omega) hb
end Go.Proofs.Ytgllkonbgigcbaa
end

section
namespace Go.Proofs.Ytgllkonbgigcbaa
open Go.RowKit Go.Hay
set_option linter.unusedVariables false
set_option linter.unusedSimpArgs false

/-- At most K bytes, in at most J files. -/
structure Lw (K J : Nat) (d : Dk) : Prop where
  sum : sumF d.files ≤ K
  len : d.files.length ≤ J
theorem Lw.mono {K J K' J' : Nat} {d : Dk} (h : Lw K J d) (hK : K ≤ K') (hJ : J ≤ J') : Lw K' J' d := ⟨Nat.le_trans h.sum hK, Nat.le_trans h.len hJ⟩
theorem Lw.of {K J : Nat} {d d' : Dk} (h : Lw K J d) (e : d'.files = d.files) : Lw K J d' := ⟨by rw [e]; exact h.sum, by rw [e]; exact h.len⟩
def liveD (d : Dk) : Dk := ⟨d.room, d.steps, d.files, none, false⟩
theorem Lw.low {K J : Nat} {d : Dk} (h : Lw K J d) (ho : Okd d) (hK : K < 9223372036854775808) : Low K J (liveD d) := ⟨⟨ho.rise, ho.last, ho.name, h.sum, hK, fun n hn => by simp [liveD] at hn⟩, h.len⟩
theorem Lw.small {K J : Nat} {d : Dk} (h : Lw K J d) (hK : K ≤ 140737488355328) : Small d := fun f hf => by
  have := le_sumF hf
  have := h.sum
  omega
theorem Lw.file {K J : Nat} {d : Dk} (h : Lw K J d) (name : List UInt8) : (fileOf d.files name).bytes.length ≤ K := by
  unfold fileOf
  cases hl : lookG Fl.name name d.files with
  | none => simp
  | some f =>
    have := le_sumF (lookG_some hl).1
    have := h.sum
    simp only [Option.getD_some]
    omega
theorem append_files (d : Dk) (name b : List UInt8) : (appendD d name b).1.files = d.files ∨ (appendD d name b).1.files = (appendD (liveD d) name b).1.files := by
  cases h : d.dead with
  | true => left; simp [appendD, h]
  | false =>
    right
    have e : freeD (liveD d) = freeD d := rfl
    unfold appendD
    simp only [h, show (liveD d).dead = false from rfl, e, Bool.false_eq_true, if_false]
    split
    · rfl
    split
    · rfl
    · rw [(stepD_files _).1, (stepD_files _).1]; rfl
theorem do_files (d : Dk) (c : Int) (name to : List UInt8) (n : Int) : (doD d c name to n).1.files = d.files ∨ (doD d c name to n).1.files = (doD (liveD d) c name to n).1.files := by
  cases h : d.dead with
  | true => left; rw [ref_dead h]
  | false =>
    have e : refusedD (liveD d) c name to n = refusedD d c name to n := by simp [refusedD, h, liveD]
    by_cases h1 : refusedD d c name to n = 0
    · cases h2 : (stepD d).2 with
      | true => left; rw [do_dies h1 h2]; exact (stepD_files d).1
      | false => right; rw [do_done h1 h2, do_done (e.trans h1) (by simp [liveD, stepD])]; rfl
    · left; simp [doD, h1]
theorem chg_files (d : Dk) (o : DOp) : (chgD d o).files = d.files ∨ (chgD d o).files = (chgD (liveD d) o).files := by
  unfold chgD
  split
  · exact append_files ..
  split
  · exact do_files ..
  split
  · exact do_files ..
  split
  · exact do_files ..
  split
  · exact do_files ..
  · right
    have e : flipOk (liveD d) o.name o.n o.bit = flipOk d o.name o.n o.bit := rfl
    unfold flipD
    rw [e]
    split <;> rfl
theorem lw_chg {K J : Nat} {d : Dk} (o : DOp) (h : Lw K J d) (ho : Okd d) (hb : K + o.b.bs.length < 9223372036854775808) : Lw (K + o.b.bs.length) (J + 1) (chgD d o) := by
  rcases chg_files d o with e | e
  · exact (h.mono (by omega) (by omega)).of e
  · have := low_chg (K := K) (J := J) (room := d.room) (s := d.steps) (files := d.files) o (h.low ho (by omega)) hb
    have hs := this.ok.sum
    have hl := this.len
    exact ⟨by rw [e]; exact hs, by rw [e]; exact hl⟩
/-- What a call of change makes of a disk, Arm and Wipe among them. -/
def chD (d : Dk) (o : DOp) : Dk := if o.kind = 7 then armD d o.n else if o.kind = 11 then wipeD d else chgD d o
/-- What a call of step makes of a disk. -/
def stpD (d : Dk) (o : DOp) : Dk := if o.kind = 5 ∨ o.kind = 6 ∨ o.kind = 9 then d else if o.kind = 10 then crashD d o.ks else chD d o
theorem arm_files (d : Dk) (n : Int) : (armD d n).files = d.files := by unfold armD; split <;> rfl
theorem lw_ch {K J : Nat} {d : Dk} (o : DOp) (h : Lw K J d) (ho : Okd d) (hb : K + o.b.bs.length < 9223372036854775808) : Lw (K + o.b.bs.length) (J + 1) (chD d o) := by
  unfold chD
  split
  · exact (h.mono (by omega) (by omega)).of (arm_files d _)
  split
  · exact ⟨by simp [wipeD, sumF], by simp [wipeD]⟩
  · exact lw_chg o h ho hb
theorem crashF_sum : ∀ (l : List Fl) (ks : List Int), sumF (crashF l ks) ≤ sumF l
  | [], _ => by simp [crashF]
  | f :: r, [] => by
    have := crashF_sum r []
    simp only [crashF, sumF, List.map_cons, List.sum_cons, keptF, List.length_take] at *
    omega
  | f :: r, k :: ks => by
    have := crashF_sum r ks
    simp only [crashF, sumF, List.map_cons, List.sum_cons, keptF, List.length_take] at *
    omega
theorem crashF_len : ∀ (l : List Fl) (ks : List Int), (crashF l ks).length = l.length
  | [], _ => by simp [crashF]
  | f :: r, [] => by simp [crashF, crashF_len r []]
  | f :: r, k :: ks => by simp [crashF, crashF_len r ks]
theorem lw_crash {K J : Nat} {d : Dk} (h : Lw K J d) (ks : List Int) : Lw K J (crashD d ks) := ⟨Nat.le_trans (crashF_sum _ _) h.sum, by simp only [crashD, crashF_len]; exact h.len⟩
theorem lw_stp {K J : Nat} {d : Dk} (o : DOp) (h : Lw K J d) (ho : Okd d) (hb : K + o.b.bs.length < 9223372036854775808) : Lw (K + o.b.bs.length) (J + 1) (stpD d o) := by
  unfold stpD
  split
  · exact h.mono (by omega) (by omega)
  split
  · exact (lw_crash h _).mono (by omega) (by omega)
  · exact lw_ch o h ho hb
theorem append_steps (d : Dk) (name b : List UInt8) : (appendD d name b).1.steps ≤ d.steps + 1 := by
  unfold appendD
  split
  · simp only; omega
  split
  · simp only; omega
  split
  · simp only; omega
  · rw [(stepD_files _).2.2]; simp only; omega
theorem do_steps (d : Dk) (c : Int) (name to : List UInt8) (n : Int) : (doD d c name to n).1.steps ≤ d.steps + 1 := by
  unfold doD
  split
  · simp only; omega
  split
  · rw [(stepD_files _).2.2]; omega
  · simp only [(stepD_files _).2.2]; omega
theorem chg_steps (d : Dk) (o : DOp) : (chgD d o).steps ≤ d.steps + 1 := by
  unfold chgD
  split
  · exact append_steps ..
  split
  · exact do_steps ..
  split
  · exact do_steps ..
  split
  · exact do_steps ..
  split
  · exact do_steps ..
  · unfold flipD
    split <;> simp
theorem arm_steps (d : Dk) (n : Int) : (armD d n).steps = d.steps := by unfold armD; split <;> rfl
theorem ch_steps (d : Dk) (o : DOp) : (chD d o).steps ≤ d.steps + 1 := by
  unfold chD
  split
  · rw [arm_steps]; omega
  split
  · simp [wipeD]
  · exact chg_steps d o
theorem stp_steps (d : Dk) (o : DOp) : (stpD d o).steps ≤ d.steps + 1 := by
  unfold stpD
  split
  · omega
  split
  · simp [crashD]
  · exact ch_steps d o
end Go.Proofs.Ytgllkonbgigcbaa
end

section
namespace Go.Proofs.Ytgllkonbgigcbaa
open Go.RowKit Go.Hay
set_option linter.unusedVariables false
set_option linter.unusedSimpArgs false

set_option maxHeartbeats 16000000 in
set_option maxRecDepth 100000 in
theorem cRefDoR (r : RD) (d : Dk) (w : World) (hr : RdOk w r) (hL : Like r d) (hl : r.l.length ≤ 1000000000) (call : Int) (name to : List UInt8) (hto : to.length ≤ maxLen) (n : Int) (e2 : refusedD d call name to n ≠ 0) :
    Calls Try.prog 32 #[r.v, .int .i64 call, .string ⟨name.toArray⟩, .string ⟨to.toArray⟩, .int .i64 n] w (RefE r.foot (doD d call name to n) w) := by
  obtain ⟨w1, hw1, k1, bx, br, hsz⟩ := boxRR r w
  have e1 : doD d call name to n = (d, refusedD d call name to n) := by unfold doD; rw [if_pos e2]
  have hc := cRefused r d w1 (hr.keptNew k1) hL hl call name to hto n
  have hsame : ∀ W, Kp [] w W → RefE r.foot (doD d call name to n) w (.returned (.tuple #[.agg #[.int .i64 r.room, .int .i64 r.steps, .slice r.fa r.l.length r.fc, .bool r.armed, .bool r.dead, .int .i64 r.left], .int .i64 (refusedD d call name to n)])) W := fun W hkW => RefE.same hr hL hkW e1
  obtain ⟨z, hz⟩ : ∃ z, z = refusedD d call name to n := ⟨_, rfl⟩
  rw [← hz] at hc hsame e2
  clear hz e1 hL hr
  obtain ⟨room, steps, fa, fc, l, armed, dead, left⟩ := r
  simp only [RD.v] at *
  have b0 := bx.c0; have b1 := bx.c1; have b2 := bx.c2; have b3 := bx.c3; have b4 := bx.c4; have b5 := bx.c5
  have r0 := br.c0; have r1 := br.c1; have r2 := br.c2; have r3 := br.c3; have r4 := br.c4; have r5 := br.c5
  go_enter Try.func32, Try.ntmps32
  go_wp2_with fail
  refine hc.mono ?_
  rintro e w2 ⟨rfl, k2⟩
  have bx2 := bx.kept k2
  have br2 := br.kept k2
  have b0 := bx2.c0; have b1 := bx2.c1; have b2 := bx2.c2; have b3 := bx2.c3; have b4 := bx2.c4; have b5 := bx2.c5
  have r0 := br2.c0; have r1 := br2.c1; have r2 := br2.c2; have r3 := br2.c3; have r4 := br2.c4; have r5 := br2.c5
  have g0 := br2.free 0; have g1 := br2.free 1; have g2 := br2.free 2; have g3 := br2.free 3; have g4 := br2.free 4; have g5 := br2.free 5
  have e3 : (z == 0) = false := by simpa using e2
  have e4 : (z != 0) = true := by simpa using e2
  go_wp2_with fail
  obtain ⟨W', hW', hb6, kW'⟩ := set6_ex br2 (.int .i64 room) (.int .i64 steps) (.slice fa l.length fc) (.bool armed) (.bool dead) (.int .i64 left)
  rw [hW']
  obtain ⟨z0, z1, z2, z3, z4, z5, _⟩ := hb6
  refine bodyPost_ret (v := .tuple #[.agg #[.int .i64 room, .int .i64 steps, .slice fa l.length fc, .bool armed, .bool dead, .int .i64 left], .int .i64 z]) (by simp [results, Try.results32, go_sem, z0, z1, z2, z3, z4, z5]) rfl ?_
  exact hsame _ ((k1.trans k2 (by simp)).trans kW' (fun x hx => .inr (by simp at hx; omega)))
/-- The step at which it dies. -/
theorem RefE.stepped {r : RD} {d : Dk} {w w' : World} (hr : RdOk w r) (hL : Like r d) (hk : Kp [] w w') {x : Dk × Int} {n : Int} (e : x = ((stepD d).1, n)) : RefE r.foot x w (.returned (.tuple #[(stepR r).1.v, .int .i64 n])) w' := by
  subst e
  obtain ⟨hf, hll⟩ := stepR_files r
  refine ⟨_, rfl, (stepR r).1, rfl, ⟨?_, ?_⟩, (like_step hL).1, hk, fun k hk => .inl ?_⟩
  · rw [hf, hll]; exact (hr.keptNew hk).fls
  · rw [hll]; exact (hr.keptNew hk).see
  · simpa only [RD.foot, RD.ff, hf, hll] using hk
set_option maxHeartbeats 16000000 in
set_option maxRecDepth 100000 in
theorem cRefDoS (r : RD) (d : Dk) (w : World) (hr : RdOk w r) (hL : Like r d) (hl : r.l.length ≤ 1000000000) (hst : d.steps < 9000000000000000000) (call : Int) (name to : List UInt8) (hto : to.length ≤ maxLen) (n : Int) (e2 : refusedD d call name to n = 0) (e3 : (stepD d).2 = true) :
    Calls Try.prog 32 #[r.v, .int .i64 call, .string ⟨name.toArray⟩, .string ⟨to.toArray⟩, .int .i64 n] w (RefE r.foot (doD d call name to n) w) := by
  obtain ⟨w1, hw1, k1, bx, br, hsz⟩ := boxRR r w
  have e1 : doD d call name to n = ((stepD d).1, 44) := by unfold doD; rw [if_neg (by simpa using e2), if_pos e3]
  have hc := cRefused r d w1 (hr.keptNew k1) hL hl call name to hto n
  rw [e2] at hc
  have hs : 0 ≤ r.steps ∧ r.steps < 9000000000000000000 := by rw [hL.steps]; omega
  have hcs := fun W => cRefStep r W hs
  rw [(like_step hL).2, e3] at hcs
  have hsame : ∀ W, Kp [] w W → RefE r.foot (doD d call name to n) w (.returned (.tuple #[(stepR r).1.v, .int .i64 44])) W := fun W hkW => RefE.stepped hr hL hkW e1
  obtain ⟨r', hr'⟩ : ∃ r', r' = (stepR r).1 := ⟨_, rfl⟩
  rw [← hr'] at hcs hsame
  clear hr' e1 hL hr e2 e3 hs
  obtain ⟨room, steps, fa, fc, l, armed, dead, left⟩ := r
  obtain ⟨room', steps', fa', fc', l', armed', dead', left'⟩ := r'
  simp only [RD.v] at *
  have b0 := bx.c0; have b1 := bx.c1; have b2 := bx.c2; have b3 := bx.c3; have b4 := bx.c4; have b5 := bx.c5
  go_enter Try.func32, Try.ntmps32
  go_wp2_with fail
  refine hc.mono ?_
  rintro e w2 ⟨rfl, k2⟩
  have bx2 := bx.kept k2
  have br2 := br.kept k2
  have b0 := bx2.c0; have b1 := bx2.c1; have b2 := bx2.c2; have b3 := bx2.c3; have b4 := bx2.c4; have b5 := bx2.c5
  go_wp2_with fail
  refine (hcs _).mono ?_
  rintro e w3 ⟨rfl, k3⟩
  have bx3 := bx2.kept k3
  have br3 := br2.kept k3
  clear b0 b1 b2 b3 b4 b5
  have b0 := bx3.c0; have b1 := bx3.c1; have b2 := bx3.c2; have b3 := bx3.c3; have b4 := bx3.c4; have b5 := bx3.c5
  have f0 := bx3.free 0; have f1 := bx3.free 1; have f2 := bx3.free 2; have f3 := bx3.free 3; have f4 := bx3.free 4; have f5 := bx3.free 5
  obtain ⟨w4, hw4, bx4, k4⟩ := set6_ex bx3 (.int .i64 room') (.int .i64 steps') (.slice fa' l'.length fc') (.bool armed') (.bool dead') (.int .i64 left')
  have br4 : B6 w4 (w.heap.size + 1) (.int .i64 0) (.int .i64 0) (.slice none 0 0) (.bool false) (.bool false) (.int .i64 0) := by
    have hq : w.heap.size + 1 ∉ [w.heap.size] := by simp
    exact ⟨(k4.cell (p := ⟨_, 0, none⟩) br3.lt hq).trans br3.c0, (k4.cell (p := ⟨_, 1, none⟩) br3.lt hq).trans br3.c1, (k4.cell (p := ⟨_, 2, none⟩) br3.lt hq).trans br3.c2, (k4.cell (p := ⟨_, 3, none⟩) br3.lt hq).trans br3.c3, (k4.cell (p := ⟨_, 4, none⟩) br3.lt hq).trans br3.c4, (k4.cell (p := ⟨_, 5, none⟩) br3.lt hq).trans br3.c5, fun j => (k4.frozen (p := ⟨_, j, none⟩) br3.lt hq).trans (br3.free j)⟩
  have c0 := bx4.c0; have c1 := bx4.c1; have c2 := bx4.c2; have c3 := bx4.c3; have c4 := bx4.c4; have c5 := bx4.c5
  have r0 := br4.c0; have r1 := br4.c1; have r2 := br4.c2; have r3 := br4.c3; have r4 := br4.c4; have r5 := br4.c5
  have g0 := br4.free 0; have g1 := br4.free 1; have g2 := br4.free 2; have g3 := br4.free 3; have g4 := br4.free 4; have g5 := br4.free 5
  go_wp2_with fail
  obtain ⟨W', hW', hb6, kW'⟩ := set6_ex br4 (.int .i64 room') (.int .i64 steps') (.slice fa' l'.length fc') (.bool armed') (.bool dead') (.int .i64 left')
  rw [hW']
  obtain ⟨z0, z1, z2, z3, z4, z5, _⟩ := hb6
  refine bodyPost_ret (v := .tuple #[.agg #[.int .i64 room', .int .i64 steps', .slice fa' l'.length fc', .bool armed', .bool dead', .int .i64 left'], .int .i64 44]) (by simp [results, Try.results32, go_sem, z0, z1, z2, z3, z4, z5]) rfl ?_
  exact hsame _ (((((k1.trans k2 (by simp)).trans k3 (by simp)).trans k4 (fun x hx => .inr (by simp at hx; omega))).trans kW' (fun x hx => .inr (by simp at hx; omega))))
end Go.Proofs.Ytgllkonbgigcbaa
end

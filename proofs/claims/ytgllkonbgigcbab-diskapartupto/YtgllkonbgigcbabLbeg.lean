/- How each law begins: a new disk, and answers that the document fixes. -/
import Derived.Test.YtgllkonbgigcbabDcrs
namespace Go.Proofs.Ytgllkonbgigcbab
open Go.RowKit Go.Hay Go.Maps
set_option linter.unusedVariables false
set_option linter.unusedSimpArgs false

/-- Bytes that a slice sees, as a string. -/
theorem convSees {w : World} {a : Option Addr} {l : List UInt8} (h : Sees w a l) (c : Nat) : (convert 26 9 (.slice a l.length c)).run Try.prog w = .ok (.string ⟨l.toArray⟩) w := by
  rcases h with rfl | ⟨g, o, rfl, hc⟩
  · cases a with
    | none => exact run_convert_bytes_nil w 26 5 Try.underlying26 Try.underlying5 0 c 9 Try.underlying9
    | some ad => exact run_convert_bytes_back (P := Try.prog) w 26 9 5 ad c [] Try.underlying26 Try.underlying5 Try.underlying9 (fun j hj => by simp at hj)
  · refine run_convert_bytes_back (P := Try.prog) w 26 9 5 ⟨g, o, none⟩ c l Try.underlying26 Try.underlying5 Try.underlying9 (fun j hj => ?_)
    rw [Addr.add_lit]
    exact hc j l[j] (by simp)
theorem dk1 : appendD (newD 10) [97] [1, 2] = (⟨10, 1, [⟨[97], [1, 2], 0⟩], none, false⟩, 0) := by rfl
theorem dk2 : doD ⟨10, 1, [⟨[97], [1, 2], 0⟩], none, false⟩ 1 [97] [] 0 = (⟨10, 2, [⟨[97], [1, 2], 2⟩], none, false⟩, 0) := by rfl
theorem dk3 : appendD ⟨10, 2, [⟨[97], [1, 2], 2⟩], none, false⟩ [97] [3] = (⟨10, 3, [⟨[97], [1, 2, 3], 2⟩], none, false⟩, 0) := by rfl
theorem dk4 : crashD ⟨10, 3, [⟨[97], [1, 2, 3], 2⟩], none, false⟩ [] = ⟨10, 0, [⟨[97], [1, 2], 2⟩], none, false⟩ := by rfl
theorem len_of {w : World} {p mb : Nat} {xs : List Ent} {d : Dk} (h : Disk w p mb xs d) : xs.length = d.files.length := by rw [h.fl]; simp
theorem sees_new (w : World) {q : Nat} (hq : w.heap.size = q) (C : Array Value) (t : TypeId) (bs : List UInt8) (h : C.toList = bcells bs) : Sees (w.alloc (.cells C t)) (some ⟨q, 0, none⟩) bs := by subst hq; exact Sees.new w C t (0, 0) bs h

def BegP (room : Int) (w : World) (e : Ending) (w' : World) : Prop := ∃ p mb, e = .returned (.tuple #[.pointer (some ⟨p, 0, none⟩), .bool true]) ∧ Disk w' p mb [] (newD room) ∧ Kp [] w w' ∧ w.heap.size ≤ p ∧ w.heap.size ≤ mb
theorem smallOne {d : Dk} {n b : List UInt8} {k : Nat} (h : d.files = [⟨n, b, k⟩]) (hb : b.length ≤ 100) : Small d := fun f hf => by rw [h] at hf; simp at hf; subst hf; simp only; omega
set_option maxHeartbeats 8000000 in
set_option maxRecDepth 100000 in
theorem cBegun (room : Int) (w : World) (hroom : room < 9223372036854775808) : Calls Try.prog 5 #[.int .i64 room] w (BegP room w) := by
  go_enter Try.func5, Try.ntmps5
  go_wp2_with fail
  refine (cNew 10 w (by omega)).mono ?_
  rintro e w1 ⟨p, mb, rfl, hD1, k1, hp, hmb⟩
  obtain ⟨w2, hw2⟩ : ∃ w2, w1.alloc (.cells #[.int .u8 1, .int .u8 2] 5) = w2 := ⟨_, rfl⟩
  have k2 : Kp [] w1 w2 := by rw [← hw2]; exact (Kp.refl _ _).alloc _
  have s2 : Sees w2 (some ⟨w1.heap.size, 0, none⟩) [1, 2] := by rw [← hw2]; exact sees_new w1 rfl _ _ _ rfl
  have hD2 := hD1.keptNew k2
  have hlt1 := hD1.lt
  have a1 := cAppend hD2 (by simp [newD]) (by simp) (by intro f hf; simp [newD] at hf) [97] (by unfold maxLen; simp) (some ⟨w1.heap.size, 0, none⟩) 2 [1, 2] s2 (fun _ k hk hf => by simp [blk] at hk; have := hlt1 k hf; omega) (by simp [newD, fileOf, lookG])
  rw [dk1] at a1
  simp only [List.length_cons, List.length_nil, Nat.reduceAdd] at a1
  go_wp2_with fail
  refine a1.mono ?_
  rintro e w3 ⟨rfl, xs3, hD3, mv3⟩
  have a2 := cSync hD3 (by simp) [97] (by unfold maxLen; simp) [] 0
  rw [dk2] at a2
  go_wp2_with fail
  refine a2.mono ?_
  rintro e w4 ⟨rfl, xs4, hD4, mv4⟩
  obtain ⟨w5, hw5⟩ : ∃ w5, w4.alloc (.cells #[.int .u8 3] 5) = w5 := ⟨_, rfl⟩
  have k5 : Kp [] w4 w5 := by rw [← hw5]; exact (Kp.refl _ _).alloc _
  have s5 : Sees w5 (some ⟨w4.heap.size, 0, none⟩) [3] := by rw [← hw5]; exact sees_new w4 rfl _ _ _ rfl
  have hD5 := hD4.keptNew k5
  have hlt4 := hD4.lt
  have a3 := cAppend hD5 (by simp) (by rw [len_of hD5]; simp) (smallOne rfl (by simp)) [97] (by unfold maxLen; simp) (some ⟨w4.heap.size, 0, none⟩) 1 [3] s5 (fun _ k hk hf => by simp [blk] at hk; have := hlt4 k hf; omega) (by simp [fileOf, lookG])
  rw [dk3] at a3
  simp only [List.length_cons, List.length_nil, Nat.reduceAdd] at a3
  go_wp2_with fail
  refine a3.mono ?_
  rintro e w6 ⟨rfl, xs6, hD6, mv6⟩
  have a4 := cRead hD6 (smallOne rfl (by simp)) [97] (by unfold maxLen; simp)
  have e4 : (lookG Fl.name [97] [(⟨[97], [1, 2, 3], 2⟩ : Fl)]).map Fl.bytes = some [1, 2, 3] := by rfl
  simp only at a4
  rw [e4] at a4
  go_wp2_with fail
  refine a4.mono ?_
  rintro e w7 ⟨ra, rc, rfl, hr7, k7, hn7⟩
  have hD7 := hD6.keptNew k7
  have a5 := cCrash hD7 (smallOne rfl (by simp)) (by rw [len_of hD7]; simp) none 0 [] (.inl rfl) (Nat.le_refl _) (by omega) (by simp)
  rw [dk4] at a5
  simp only [List.length_cons, List.length_nil, Nat.reduceAdd] at a5
  simp only [List.length_cons, List.length_nil, Nat.reduceAdd] at hr7 ⊢
  go_wp2_with fail
  refine a5.mono ?_
  rintro e w8 ⟨pc, mc, xc, rfl, hD8, k8, hn8⟩
  have a6 := cRead hD8 (smallOne rfl (by simp)) [97] (by unfold maxLen; simp)
  have e6 : (lookG Fl.name [97] [(⟨[97], [1, 2], 2⟩ : Fl)]).map Fl.bytes = some [1, 2] := by rfl
  simp only at a6
  rw [e6] at a6
  go_wp2_with fail
  refine a6.mono ?_
  rintro e w9 ⟨sa, sc, rfl, hr9, k9, hn9⟩
  simp only [List.length_cons, List.length_nil, Nat.reduceAdd] at hr9 ⊢
  have a7 := cNew room w9 hroom
  go_wp2_with fail
  refine a7.mono ?_
  rintro e wA ⟨pn, mn, rfl, hDA, kA, hpn, hmn⟩
  have k79 : Kp [] w7 wA := (k8.trans k9 (by simp)).trans kA (by simp)
  obtain ⟨_, _, er7, hs7, _⟩ := hr7.sees
  cases er7
  obtain ⟨_, _, er9, hs9, _⟩ := hr9.sees
  cases er9
  have cv1 := convSees (hs7.kept k79 (by simp)) rc
  have cv2 := convSees (hs9.kept kA (by simp)) sc
  simp only [List.length_cons, List.length_nil, Nat.reduceAdd] at cv1 cv2
  have a8 := cSteps (hD7.keptNew k79)
  have kp2 : Kp [] w w2 := k1.trans k2 (by simp)
  have kp3 : Kp [] w w3 := kp2.trans mv3.kp (fun x hx => .inr (by simp [foot] at hx; omega))
  have nw3 : ∀ x ∈ foot p mb xs3, w.heap.size ≤ x := fun x hx => by
    rcases mv3.new x hx with h | h
    · simp [foot] at h; omega
    · have := kp2.size; omega
  have kp4 : Kp [] w w4 := kp3.trans mv4.kp (fun x hx => .inr (nw3 x hx))
  have nw4 : ∀ x ∈ foot p mb xs4, w.heap.size ≤ x := fun x hx => by
    rcases mv4.new x hx with h | h
    · exact nw3 x h
    · have := kp3.size; omega
  have kp6 : Kp [] w w6 := (kp4.trans k5 (by simp)).trans mv6.kp (fun x hx => .inr (nw4 x hx))
  have kpA : Kp [] w wA := (kp6.trans k7 (by simp)).trans k79 (by simp)
  have hsz : w.heap.size ≤ w9.heap.size := by have := kp6.size; have := k7.size; have := k8.size; have := k9.size; omega
  have hfin : BegP room w (.returned (.tuple #[.pointer (some ⟨pn, 0, none⟩), .bool true])) wA := ⟨pn, mn, rfl, hDA, kpA, by omega, by omega⟩
  clear hs7 hs9 hr7 hr9 hn7 hn9
  go_wp2_with fail
  refine a8.mono ?_
  rintro e wB ⟨rfl, rfl⟩
  go_wp2_with fail
  go_returns
  exact hfin
end Go.Proofs.Ytgllkonbgigcbab

/- Arguments opened: a slice of elements of whatever type, told by what it sees; how great it may be. Rows of slices of bytes. Frames, the program's. Rows of rows, and what a range over Items may turn. Rows of rows of bytes whose blocks keep to a set. Marks among the deferred calls, however many: a loop in which there is a range over a function. Read, the program's. The body of a frame, the reference's. Unframe, the reference's; its slice's room too. Read, the reference's. Frames, the reference's. -/
import Derived.Test.YtpbogplmkenegabDoorRows
import Derived.Test.YtpbogplmkenegabDoorB3
import Derived.Test.YtpbogplmkenegabDoorB2
import Derived.ProofKit
import Derived.OpenShut
import Derived.ShutString
import Derived.ChangeOld
import Derived.Below
import Derived.Deep.Slices
import Derived.Test.YtpbogplmkenegabDoorB1
import Derived.RangeFuncLeaves
import Derived.RangeFuncRecord
import Derived.WalkMore
section
namespace Go.Proofs.YtpbogplmkenegabDoor
open Go.ChangeShapes Go.WideShapes Go.ChangeAt Go.RowKit Go.Hay
set_option linter.unusedVariables false

theorem Tryd.own : ownKnob Tryd.prog.godebug = none := by kernel_rfl
theorem Tryd.laidOut : laidOutB Tryd.prog = true := by kernel_rfl

/-- How many values a slice's datum holds, its spare places too. -/
def capD {H : Type} : DataW H → Nat
  | .slice e sp => e.length + sp.length
  | _ => 0
theorem bulk_pos {H : Type} (d : DataW H) : 1 ≤ Rows.uptoBulk d := by
  cases d with
  | lit l => cases l <;> simp [Rows.uptoBulk]
  | _ => simp [Rows.uptoBulk]
theorem bulkAll_ge {H : Type} (l : List (DataW H)) : l.length ≤ Rows.uptoBulkAll l := by
  induction l with
  | nil => simp
  | cons d l ih => have := bulk_pos d; simp only [Rows.uptoBulkAll, List.length_cons]; omega
theorem bulk_cap {H : Type} (d : DataW H) : capD d + 1 ≤ Rows.uptoBulk d := by
  cases d with
  | slice e sp => have := bulkAll_ge e; have := bulkAll_ge sp; simp only [capD, Rows.uptoBulk]; omega
  | lit l => cases l <;> simp [capD, Rows.uptoBulk]
  | _ => simp [capD, Rows.uptoBulk]
theorem bulkAll_map {H : Type} (n : Nat) (D : Nat → DataW H) (f : Nat → Nat) (h : ∀ i, i < n → f i ≤ Rows.uptoBulk (D i)) : ((List.range n).map f).sum ≤ Rows.uptoBulkAll ((List.range n).map D) := by
  have gen : ∀ l : List Nat, (∀ i ∈ l, f i ≤ Rows.uptoBulk (D i)) → (l.map f).sum ≤ Rows.uptoBulkAll (l.map D) := by
    intro l
    induction l with
    | nil => intro _; simp
    | cons i l ih =>
      intro hl
      have h1 := hl i (by simp)
      have h2 := ih (fun j hj => hl j (by simp [hj]))
      simp only [List.map_cons, List.sum_cons, Rows.uptoBulkAll]
      omega
  exact gen _ (fun i hi => h i (List.mem_range.1 hi))
theorem mem_weightsAll {H : Type} {P : Program} {e : TypeId} {l : List (DataW H)} {d : DataW H} (hd : d ∈ l) {x : Nat} (hx : x ∈ d.weights P e) : x ∈ DataW.weightsAll P e l := by
  induction l with
  | nil => cases hd
  | cons y l ih =>
    rw [DataW.weightsAll, List.mem_append]
    rcases List.mem_cons.1 hd with rfl | h
    · exact .inl hx
    · exact .inr (ih h)
/-- Within the form's reach. -/
def Fit {H : Type} (t : TypeId) (d : DataW H) : Prop := (DataW.weights Tryd.prog t d).all (· ≤ reachBytes) = true

theorem openEls {α : Type} [Inhabited α] (E : El α) {t e : TypeId} (ht : Tryd.prog.underlying t = some (.slice e)) (hcells : Tryd.prog.cellsOf e = E.n) (B : Nat) (hB : Tryd.prog.bytesOf e = B)
    {H : Type} {enc : TypeId × Value → H} {W : World} (ok : α → Prop) (Q : α → Prop) (bk : α → Nat)
    (op : ∀ fuel cs x, DataW.trod enc Tryd.prog W 0 (fun _ => true) true fuel e cs = some x → cs.length = E.n → ∃ y : α, ok y ∧ cs = E.c y ∧ (Fit e x.1 → Q y) ∧ bk y ≤ Rows.uptoBulk x.1)
    {a : Option Addr} {len cap : Nat} {d : DataW H} {ps : List MemPlace} (h : DataW.Trod enc Tryd.prog W 0 (fun _ => true) true t (.slice a len cap) d ps) :
    ∃ l : List α, len = l.length ∧ E.See W a l ∧ (∀ y ∈ l, ok y) ∧ l.length ≤ cap ∧ cap ≤ maxLen ∧ (a = none → cap = 0) ∧ (Fit t d → cap * B ≤ 140737488351232 ∧ ∀ y ∈ l, Q y) ∧ (l.map bk).sum ≤ Rows.uptoBulk d ∧ cap + 1 ≤ Rows.uptoBulk d := by
  obtain ⟨fuel, hf⟩ := h
  rcases Go.Deep.open_slice ht hf with ⟨hcs, hx⟩ | ⟨x, len', cap', m, n, D, Pl, hcs, _, hl, hmx, hm, hx, hcell⟩
  · simp [Value.cells] at hcs
    obtain ⟨rfl, rfl, rfl⟩ := hcs
    cases hx
    exact ⟨[], rfl, .inl rfl, by simp, Nat.le_refl _, Nat.zero_le _, fun _ => rfl, fun _ => ⟨by omega, by simp⟩, by simp, by simp [Rows.uptoBulk]⟩
  · simp [Value.cells] at hcs
    obtain ⟨rfl, rfl, rfl⟩ := hcs
    cases hx
    have hm' : m = cap := by simpa using hm
    subst hm'
    rw [hcells] at hcell
    obtain ⟨Y, hY⟩ := Go.Deep.choose_lt (α := α) (n := len) (p := fun i y => ok y ∧ (∀ k u, (E.c y)[k]? = some u → W.cell? ((x.add (i * E.n)).add k) = some u) ∧ (Fit e (D i) → Q y) ∧ bk y ≤ Rows.uptoBulk (D i)) (fun i hi => by
      obtain ⟨cs', h1, h2⟩ := hcell i (by omega)
      obtain ⟨_, hlen, hc⟩ := World.cells?_some h1
      obtain ⟨y, g1, rfl, g2, g3⟩ := op _ _ _ h2 hlen
      refine ⟨y, g1, fun k u hu => ?_, g2, g3⟩
      have hk : k < E.n := by have := (List.getElem?_eq_some_iff.1 hu).1; rwa [E.len] at this
      exact (hc k hk).trans hu)
    refine ⟨(List.range len).map Y, by simp, ?_, ?_, by simpa using hl, hmx, fun h => (by cases h), fun hfit => ?_, ?_, ?_⟩
    · cases hlen : len with
      | zero => exact .inl rfl
      | succ k =>
        obtain ⟨b, off, spot⟩ := x
        have h0 : 0 < (E.c (Y 0)).length := by rw [E.len]; exact E.pos
        have hc0 := (hY 0 (by omega)).2.1 0 _ (List.getElem?_eq_getElem h0)
        have hspot : spot = none := by
          have := World.cell?_spot hc0
          simpa [Addr.add] using this
        subst hspot
        refine .inr ⟨b, off, rfl, fun j u hu => ?_⟩
        rw [← hlen] at hu
        have hj : j < ((List.range len).map Y).length * E.n := by have := (List.getElem?_eq_some_iff.1 hu).1; rwa [El.cs_length] at this
        have hpos := E.pos
        have hq : j / E.n < len := by
          rw [List.length_map, List.length_range] at hj
          exact Nat.div_lt_of_lt_mul (by rw [Nat.mul_comm]; exact hj)
        have hr : j % E.n < E.n := Nat.mod_lt _ hpos
        have hje : j = j / E.n * E.n + j % E.n := by rw [Nat.mul_comm]; exact (Nat.div_add_mod j E.n).symm
        have hget : ((List.range len).map Y)[j / E.n]? = some (Y (j / E.n)) := by rw [List.getElem?_map, List.getElem?_range hq]; rfl
        rw [hje, El.cs_get E hget hr] at hu
        have hcc := (hY _ hq).2.1 _ _ hu
        rw [Addr.add_lit, Addr.add_lit, Nat.add_assoc, ← hje] at hcc
        exact hcc
    · intro y hy
      obtain ⟨i, hi, rfl⟩ := List.mem_map.1 hy
      exact (hY i (List.mem_range.1 hi)).1
    · unfold Fit at hfit
      simp only [DataW.weights, ht] at hfit
      rw [List.all_cons, Bool.and_eq_true] at hfit
      refine ⟨?_, fun y hy => ?_⟩
      · have := of_decide_eq_true hfit.1
        simp only [List.length_map, List.length_range, hB, reachBytes] at this
        rwa [show len + (m - len) = m by omega] at this
      · obtain ⟨i, hi, rfl⟩ := List.mem_map.1 hy
        refine (hY i (List.mem_range.1 hi)).2.2.1 (List.all_eq_true.2 fun x hx => List.all_eq_true.1 hfit.2 x ?_)
        rw [List.mem_append]
        exact .inl (mem_weightsAll (List.mem_map_of_mem hi) hx)
    · have := bulkAll_map len D (fun i => bk (Y i)) (fun i hi => (hY i hi).2.2.2)
      simp only [List.map_map, Rows.uptoBulk]
      have e : (List.range len).map (bk ∘ Y) = (List.range len).map (fun i => bk (Y i)) := rfl
      rw [e]
      omega
    · have := bulk_cap (.slice ((List.range len).map D) ((List.range (m - len)).map fun j => D (len + j)) : DataW H)
      simp only [capD, List.length_map, List.length_range] at this
      omega

/-- A byte. -/
def ByteE : El UInt8 where
  n := 1
  c x := [.int .u8 x.toNat]
  len _ := rfl
  one _ u hu := by simp at hu; subst hu; rfl
  pos := by decide
theorem byteCs (l : List UInt8) : ByteE.cs l = bcells l := by
  induction l with
  | nil => rfl
  | cons x l ih => rw [El.cs_cons, ih]; rfl
theorem byteSee {w : World} {a : Option Addr} {l : List UInt8} (h : ByteE.See w a l) : Sees w a l := by
  rcases h with h | ⟨g, o, rfl, hc⟩
  · exact .inl h
  · refine .inr ⟨g, o, rfl, fun j u hu => hc j _ ?_⟩
    rw [byteCs, bcells_get, hu]
    rfl
/-- A slice of bytes, and what it sees. -/
structure Bs where
  a : Option Addr
  c : Nat
  bs : List UInt8
def Bs.v (x : Bs) : Value := .slice x.a x.bs.length x.c
structure Bs.ok (w : World) (x : Bs) : Prop where
  see : Sees w x.a x.bs
  cap : x.bs.length ≤ x.c
  nil : x.a = none → x.c = 0
theorem Bs.ok.kept {w w' : World} {x : Bs} {S : List Nat} (h : x.ok w) (hk : Kp S w w') (hn : x.bs ≠ [] → ∀ k ∈ blk x.a, k ∉ S) : x.ok w' := ⟨h.see.kept' hk hn, h.cap, h.nil⟩
theorem Bs.ok.keptNew {w w' : World} {x : Bs} (h : x.ok w) (hk : Kp [] w w') : x.ok w' := h.kept hk (by simp)
instance : Inhabited Bs := ⟨⟨none, 0, []⟩⟩
theorem cellsB : Tryd.prog.cellsOf 5 = 1 := by kernel_rfl
theorem bytesB : Tryd.prog.bytesOf 5 = 1 := by kernel_rfl
theorem cellsI : Tryd.prog.cellsOf 3 = 1 := by kernel_rfl
theorem cellsS : Tryd.prog.cellsOf 32 = 1 := by kernel_rfl
theorem bytesS : Tryd.prog.bytesOf 32 = 24 := by kernel_rfl
def Few (x : Bs) : Prop := x.bs.length ≤ 140737488351232
section
variable {H : Type} {enc : TypeId × Value → H} {W : World}
theorem openByt {fuel : Nat} {v : Value} {x : DataW H × List MemPlace} (h : DataW.trod enc Tryd.prog W 0 (fun _ => true) true fuel 32 [v] = some x) :
    ∃ y : Bs, y.ok W ∧ v = y.v ∧ (Fit 32 x.1 → Few y) ∧ y.bs.length + 1 ≤ Rows.uptoBulk x.1 := by
  have hv : ∃ a len cap, v = .slice a len cap := by
    rcases Go.Deep.open_slice Tryd.underlying32 h with ⟨hcs, _⟩ | ⟨a, len, cap, _, _, _, _, hcs, _⟩
    · exact ⟨none, 0, 0, by simpa using hcs⟩
    · exact ⟨_, _, _, by simpa using hcs⟩
  obtain ⟨a, len, cap, rfl⟩ := hv
  obtain ⟨l, rfl, hs, _, hl, hm, hn, hfit, _, hbk⟩ := openEls ByteE Tryd.underlying32 cellsB 1 bytesB (fun _ => True) (fun _ => True) (fun _ => 0)
    (fun fuel cs x hx hcs => by
      obtain ⟨n, rfl, _, hw⟩ := DataW.trod_int Tryd.underlying5 hx
      have hb := bounds_u8 hw
      exact ⟨octet n, trivial, by simp [ByteE]; exact (octet_toNat _ hb.1 hb.2).symm, fun _ => trivial, Nat.zero_le _⟩) (d := x.1) (ps := x.2) ⟨fuel, h⟩
  refine ⟨⟨a, cap, l⟩, ⟨byteSee hs, hl, hn⟩, rfl, fun hf => ?_, ?_⟩
  · have := (hfit hf).1
    unfold Few
    simp only
    omega
  · simp only
    omega
/-- A number among the arguments' cells. -/
theorem openI {fuel : Nat} {v : Value} {x : DataW H × List MemPlace} (h : DataW.trod enc Tryd.prog W 0 (fun _ => true) true fuel 3 [v] = some x) : ∃ n : Int, v = .int .i64 n ∧ -9223372036854775808 ≤ n ∧ n ≤ 9223372036854775807 := by
  obtain ⟨n, e, _, hw⟩ := DataW.trod_int Tryd.underlying3 h
  have hb := bounds_i64 hw
  exact ⟨n, by simpa using e, hb.1, hb.2⟩
end
end Go.Proofs.YtpbogplmkenegabDoor
end

section
namespace Go.Proofs.YtpbogplmkenegabDoor
open Go.RowKit Go.Hay
set_option linter.unusedVariables false
set_option linter.unusedSimpArgs false
def BsE : El Bs where
  n := 1
  c x := [.slice x.a x.bs.length x.c]
  len _ := rfl
  one _ u hu := by simp at hu; subst hu; rfl
  pos := by decide
theorem bsAt {w : World} {a : Option Addr} {l : List Bs} (h : BsE.See w a l) {k : Nat} {x : Bs} (hx : l[k]? = some x) : ∃ g o, a = some ⟨g, o, none⟩ ∧ w.cell? ⟨g, o + k, none⟩ = some (.slice x.a x.bs.length x.c) := by
  obtain ⟨g, o, e, hc⟩ := h.at hx
  refine ⟨g, o, e, ?_⟩
  have := hc 0 _ rfl
  simpa [BsE] using this
/-- What is told of them. -/
def bsl (l : List Bs) : List (List UInt8) := l.map (·.bs)
theorem bsl_len (l : List Bs) : (bsl l).length = l.length := by simp [bsl]
theorem bsl_get {l : List Bs} {k : Nat} (h : k < l.length) : (bsl l)[k]'(by simpa [bsl] using h) = l[k].bs := by simp [bsl]
end Go.Proofs.YtpbogplmkenegabDoor
end

section
namespace Go.Proofs.YtpbogplmkenegabDoor
open Go.RowKit Go.Hay
set_option linter.unusedVariables false
set_option linter.unusedSimpArgs false

/-- The texts of the first ones. -/
def txB (l : List (List UInt8)) : List UInt8 := l.flatMap textB
theorem txB_snoc (l : List (List UInt8)) (k : Nat) (h : k < l.length) : txB (l.take (k + 1)) = txB (l.take k) ++ textB l[k] := by
  unfold txB
  rw [List.take_succ_eq_append_getElem h, List.flatMap_append]
  simp only [List.flatMap_cons, List.flatMap_nil, List.append_nil]
theorem txB_split (l : List (List UInt8)) (k : Nat) (h : k < l.length) : txB l = txB (l.take k) ++ (textB l[k] ++ txB (l.drop (k + 1))) := by
  have e : l = l.take k ++ l[k] :: l.drop (k + 1) := by rw [← List.drop_eq_getElem_cons h, List.take_append_drop]
  conv => lhs; rw [e]
  unfold txB
  rw [List.flatMap_append, List.flatMap_cons]
theorem textB_len (b : List UInt8) : b.length + 1 ≤ (textB b).length ∧ (textB b).length ≤ b.length + 9 := by
  have := varB_length b.length
  unfold textB
  rw [List.length_append]
  omega
/-- New bytes, and an error. -/
def FrP (r : List UInt8 × Int) (w : World) (e : Ending) (w' : World) : Prop := ∃ b c, e = .returned (.tuple #[.slice b r.1.length c, .int .i64 r.2]) ∧ Row w' (.slice b r.1.length c) r.1 ∧ Kp [] w w' ∧ ∀ k ∈ blk b, w.heap.size ≤ k
theorem FrP.none {w w' : World} (k : Kp [] w w') (e : Int) : FrP ([], e) w (.returned (.tuple #[.slice none 0 0, .int .i64 e])) w' := ⟨Option.none, 0, rfl, Row.nil _, k, by simp [blk]⟩

set_option maxHeartbeats 8000000 in
set_option maxRecDepth 100000 in
theorem cFrames (a : Option Addr) (c : Nat) (L : List Bs) (w : World) (ht : Tab w) (hs : BsE.See w a L) (hok : ∀ y ∈ L, y.ok w) (hl : L.length ≤ 6000000000000) :
    Calls Tryd.prog 15 #[.slice a L.length c] w (FrP (frmR (bsl L)) w) := by
  obtain ⟨F, hF⟩ : ∃ F, Hid (frmR (bsl L) = F) := ⟨_, rfl⟩
  rw [hF.out]
  have hlong : Hid (16777216 < (recB (bsl L)).length → F = ([], 90)) := fun h => by rw [← hF.out, frmR, if_neg (by omega)]
  have hshort : Hid ((recB (bsl L)).length ≤ 16777216 → F = (frameB (recB (bsl L)), 0)) := fun h => by rw [← hF.out, frmR, if_pos h]
  have hcell : Hid (∀ (j : Nat) (h : j < L.length) (W : World), Kp [] w W → ∃ g o, a = some ⟨g, o, none⟩ ∧ W.cell? ⟨g, o + j, none⟩ = some (.slice L[j].a L[j].bs.length L[j].c) ∧ Sees W L[j].a L[j].bs ∧ (L[j].bs ≠ [] → ∀ k ∈ blk L[j].a, k < w.heap.size)) := fun j h W k => by
    obtain ⟨g, o, e, hc⟩ := bsAt hs (k := j) (x := L[j]) (by simp [h])
    exact ⟨g, o, e, (k.cell (p := ⟨g, o + j, none⟩) (World.block_lt_of_cell? _ _ hc) (by simp)).trans hc, (hok _ (List.getElem_mem h)).see.kept k (by simp), fun hb => (hok _ (List.getElem_mem h)).see.lt hb⟩
  have ht' := hid ht
  have hcu : IntKind.u64.wrap (L.length : Int) = (L.length : Int) := by rw [IntKind.wrap_u64]; omega
  clear hF hs hok ht
  go_enter Tryd.func15, Tryd.ntmps15
  go_wp2_with fail
  refine (wNew w).mono ?_
  rintro e w1 ⟨p, rfl, hp, hw1, k1⟩
  have hpw : w.heap.size ≤ p := by omega
  have hV := wVar p _ _ (L.length : Int) w1 hw1 (by simp) (by omega) (by omega)
  have H1 := hid k1
  clear hw1 k1 hp
  go_wp2_with fail
  refine hV.mono ?_
  rintro e w2 ⟨rfl, v2, hw2, hr2⟩
  obtain ⟨k2, ho2⟩ := stepW H1.out hpw (by simp [own, Value.ownBlock]) hr2
  rw [List.nil_append] at hw2
  have hI0 := hid (And.intro hw2 (And.intro k2 ho2))
  clear hV hw2 hr2 k2 ho2 H1
  go_wp2_with fail
  go_loopw [6, 17] (fun _ i wn => ∃ (j : Nat) (v : Value), j ≤ L.length ∧ i = .int .i64 j ∧ Hid (Wr wn p v (varB L.length ++ txB ((bsl L).take j)) ∧ Kp [] w wn ∧ ∀ k ∈ own v, w.heap.size ≤ k) ∧ (varB L.length ++ txB ((bsl L).take j)).length ≤ 16777300) (fun _ i _ => L.length - (intOf i).toNat)
  case atStart => exact ⟨0, v2, Nat.zero_le _, rfl, by simpa [txB] using hI0, by have := (varB_length L.length).1; simp [txB]; omega⟩
  case round =>
    obtain ⟨j, v, hj, rfl, HI, hle⟩ := hrel
    clear hI0
    by_cases hlt : j < L.length
    · obtain ⟨T, hT⟩ : ∃ T, Hid (varB L.length ++ txB ((bsl L).take j) = T) := ⟨_, rfl⟩
      rw [hT.out] at HI hle
      have kW := HI.out.2.1
      obtain ⟨g, o, ea, cL, hsee, hblt0⟩ := hcell.out j hlt _ kW
      have hblt := hid hblt0
      have hsn := txB_snoc (bsl L) j (by rw [bsl_len]; exact hlt)
      have hsp := txB_split (bsl L) j (by rw [bsl_len]; exact hlt)
      rw [bsl_get hlt] at hsn hsp
      obtain ⟨Y, hY⟩ : ∃ Y, L[j] = Y := ⟨_, rfl⟩
      rw [hY] at cL hsee hsn hsp hblt
      clear hblt0
      obtain ⟨ya, yc, ybs⟩ := Y
      dsimp only at cL hsee hsn hsp hblt
      have hrl : Hid ((recB (bsl L)).length = T.length + ((textB ybs).length + (txB ((bsl L).drop (j + 1))).length)) := by
        show _ = _
        rw [← hT.out]
        show (varB (bsl L).length ++ txB (bsl L)).length = _
        rw [bsl_len, hsp]
        simp only [List.length_append]
        omega
      have hT2 : Hid (varB L.length ++ txB ((bsl L).take (j + 1)) = T ++ textB ybs) := by
        show _ = _
        rw [hsn, ← List.append_assoc, hT.out]
      clear hsn hsp hY
      subst ea
      have dj1 : (j : Int) < (L.length : Int) := by omega
      have dj0 : (0 : Int) ≤ (j : Int) := by omega
      have hLn := wLen p v T _ HI.out.1
      have htl := textB_len ybs
      clear kW
      go_wp2_with fail
      refine hLn.mono ?_
      rintro e w3 ⟨rfl, rfl⟩
      have dn1 : (-9223372036854775808 : Int) ≤ 16777216 - (T.length : Int) := by omega
      have dn2 : 16777216 - (T.length : Int) ≤ 9223372036854775807 := by omega
      by_cases hgt : (16777216 : Int) - (T.length : Int) < (ybs.length : Int)
      · have hF0 := hlong.out (by rw [hrl.out]; omega)
        subst hF0
        clear hlong hshort hT hT2 hLn
        go_wp2_with fail
        go_ret2
        exact FrP.none HI.out.2.1 90
      · have dg : decide ((16777216 : Int) - (T.length : Int) < (ybs.length : Int)) = false := by simpa using hgt
        have hTx := wText p v T ya ybs.length yc ybs _ HI.out.1 hsee rfl (by omega) (fun hb k hk hm => by have := hblt.out hb k hk; rcases List.mem_cons.1 hm with rfl | hm; omega; have := HI.out.2.2 k hm; omega)
        clear hLn hsee
        go_wp2_with fail
        refine hTx.mono ?_
        rintro e w4 ⟨rfl, v4, hw4, hr4⟩
        obtain ⟨k4, ho4⟩ := stepW HI.out.2.1 hpw HI.out.2.2 hr4
        have H4 := hid (And.intro hw4 (And.intro k4 ho4))
        clear hTx hw4 hr4 k4 ho4 HI
        go_wp2_with fail
        go_roundw
        case rel => exact ⟨j + 1, v4, by omega, by simp, by rw [hT2.out]; exact H4, by rw [hT2.out, List.length_append]; omega⟩
        case measure => simp [intOf]; omega
    · have hjl : (bsl L).take j = bsl L := List.take_of_length_le (by rw [bsl_len]; omega)
      rw [hjl] at HI hle
      have e0 : varB L.length ++ txB (bsl L) = recB (bsl L) := by unfold recB txB; rw [bsl_len]
      rw [e0] at HI hle
      obtain ⟨T, hT⟩ : ∃ T, Hid (recB (bsl L) = T) := ⟨_, rfl⟩
      rw [hT.out] at HI hle hlong hshort
      have dj2 : decide ((j : Int) < (L.length : Int)) = false := by simp; omega
      have hB := wBytes p v T _ HI.out.1 (by omega)
      clear e0 hjl
      go_wp2_with fail
      refine hB.mono ?_
      rintro e w3 ⟨v3, rfl, hr3, k3, hn3⟩
      obtain ⟨a3, c3, rfl, hs3, _⟩ := hr3.sees
      have kW3 := HI.out.2.1.trans k3 (by simp)
      by_cases hlg : T.length ≤ 16777216
      · have hF0 := hshort.out hlg
        have hFm := cFrame a3 T.length c3 T w3 (ht'.out.kept kW3 (by simp)) hs3 rfl hlg
        have HH := hid kW3
        clear hB hr3 k3 hn3 hs3 kW3 hlong hshort HI
        go_wp2_with fail
        refine hFm.mono ?_
        rintro e w5 ⟨v5, rfl, hr5, k5, hn5⟩
        obtain ⟨a5, c5, rfl, hs5, ho5⟩ := hr5.sees
        have hfin := hid (And.intro hr5 (And.intro (HH.out.trans k5 (by simp)) (fun q (hq : q ∈ blk a5) => by have := hn5 q (by rw [ho5]; exact hq); have := HH.out.size; omega : ∀ q ∈ blk a5, w.heap.size ≤ q)))
        subst hF0
        clear hFm hr5 k5 hn5 hs5 ho5
        go_wp2_with fail
        go_ret2
        exact ⟨a5, c5, rfl, hfin.out.1, hfin.out.2.1, hfin.out.2.2⟩
      · have hF0 := hlong.out (by omega)
        subst hF0
        have hFm := cFrameLong a3 T.length c3 T w3 rfl (by omega)
        have HH := hid kW3
        clear hB hr3 k3 hn3 hs3 kW3 hlong hshort HI
        go_wp2_with fail
        refine hFm.mono ?_
        rintro e w5 ⟨rfl, rfl⟩
        clear hFm
        go_wp2_with fail
        go_ret2
        exact FrP.none HH.out 90
end Go.Proofs.YtpbogplmkenegabDoor
end

section
namespace Go.Proofs.YtpbogplmkenegabDoor
open Go.RowKit Go.Hay Go.Shelf
attribute [local go_sem] Oper.semAt_some
set_option linter.unusedVariables false
set_option linter.unusedSimpArgs false

theorem rowLshape {n0 : Nat} {w : World} {v : Value} {L : List (List UInt8)} (h : RowL n0 w v L) : ∃ a c, v = .slice a L.length c := by
  obtain ⟨vs, hvl, hs, _⟩ := h
  rcases hs with ⟨rfl, rfl⟩ | ⟨g, o, cap, rfl, _⟩
  · simp at hvl; exact ⟨none, 0, by rw [← hvl]⟩
  · exact ⟨_, _, by rw [hvl]⟩
theorem cellsOf {W : World} {a : Addr} (h : (W.cell? a).isSome = true) : ∃ o : Obj, W.heap[a.block]? = some o ∧ o.isCells = true := by
  unfold World.cell? at h
  cases ho : W.heap[a.block]? with
  | none => rw [ho] at h; simp at h
  | some o => exact ⟨o, rfl, by rw [ho] at h; cases o <;> simp_all [Obj.isCells]⟩
theorem rowLcel {n0 : Nat} {W : World} {v : Value} {L : List (List UInt8)} (h : RowL n0 W v L) (h0 : L = [] → v = .slice none 0 0) : ∀ k ∈ own v, ∃ o : Obj, W.heap[k]? = some o ∧ o.isCells = true := by
  intro k hk
  obtain ⟨vs, hvl, hs, _⟩ := h
  rcases hs with ⟨rfl, _⟩ | ⟨g, o, cap, rfl, hl, _, _, _, ht⟩
  · simp [own, Value.ownBlock] at hk
  · cases L with
    | nil => have := h0 rfl; cases this
    | cons x L =>
      have hkg : k = g := by simpa [own, Value.ownBlock, eq_comm] using hk
      rw [hkg]
      exact cellsOf (a := ⟨g, o + 0, none⟩) (ht 0 (by simp at hvl; omega)).1
theorem keepsCel {S : List Nat} {W W' : World} (hk : Kp S W W') (hS : ∀ k ∈ S, ∃ o : Obj, W.heap[k]? = some o ∧ o.isCells = true) (B : Nat) : KeepsFrom B W W' :=
  ⟨hk.size, fun k o _ ho hc => (hk.block k (Array.getElem?_eq_some_iff.1 ho).1 (fun hm => by obtain ⟨o', ho', hc'⟩ := hS k hm; rw [ho] at ho'; cases ho'; rw [hc] at hc'; cases hc')).trans ho⟩
theorem keepsTurn {p : Nat} {D : List Nat} {most : Int} {s s' : St} {A B : World} (h : Turn p D most s s' A B) (n : Nat) (hp : p < n) : KeepsFrom n A B :=
  ⟨h.1.size, fun k o hk ho _ => (h.1.block k (Array.getElem?_eq_some_iff.1 ho).1 (by simp; omega)).trans ho⟩

end Go.Proofs.YtpbogplmkenegabDoor
end

section
namespace Go.Proofs.YtpbogplmkenegabDoor
open Go.RowKit Go.Hay
set_option linter.unusedVariables false
set_option linter.unusedSimpArgs false

/-- A row of rows of bytes of the call's own; all its blocks are of B. -/
def RowP (B : Nat → Prop) (w : World) (v : Value) (L : List (List UInt8)) : Prop := ∃ vs : List Value, vs.length = L.length ∧ RowS w v vs ∧ (∀ k ∈ own v, B k) ∧ ∀ (i : Nat) (x : Value) (o : List UInt8), vs[i]? = some x → L[i]? = some o → Row w x o ∧ ∀ k ∈ own x, B k ∧ k ∉ own v
theorem RowP.ofL {n0 : Nat} {w : World} {v : Value} {L : List (List UInt8)} (h : RowL n0 w v L) : RowP (fun k => n0 ≤ k) w v L := h
theorem RowP.toL {n0 : Nat} {w : World} {v : Value} {L : List (List UInt8)} (h : RowP (fun k => n0 ≤ k) w v L) : RowL n0 w v L := h
theorem RowP.nil (B : Nat → Prop) (w : World) : RowP B w (.slice none 0 0) [] := ⟨[], rfl, RowS.nil w, fun k hk => by simp [own, Value.ownBlock] at hk, fun i x o h => by simp at h⟩
theorem RowP.lt {B : Nat → Prop} {w : World} {v : Value} {L : List (List UInt8)} (h : RowP B w v L) : ∀ k ∈ own v, k < w.heap.size := by
  obtain ⟨vs, _, hs, _⟩ := h
  exact hs.lt
theorem RowP.from {B : Nat → Prop} {w : World} {v : Value} {L : List (List UInt8)} (h : RowP B w v L) : ∀ k ∈ own v, B k := by
  obtain ⟨vs, _, _, hf, _⟩ := h
  exact hf
theorem RowP.kept {B : Nat → Prop} {w w' : World} {v : Value} {L : List (List UInt8)} {S : List Nat} (h : RowP B w v L) (hk : Kp S w w') (hS : ∀ k ∈ S, ¬ B k) : RowP B w' v L := by
  obtain ⟨vs, hvl, hs, hfr, hel⟩ := h
  exact ⟨vs, hvl, hs.kept hk (fun k hk' hm => hS k hm (hfr k hk')), hfr, fun i x o hx ho => ⟨(hel i x o hx ho).1.kept hk (fun k hk' hm => hS k hm ((hel i x o hx ho).2 k hk').1), (hel i x o hx ho).2⟩⟩
/-- Another set that has all of its blocks. -/
theorem RowP.mono {B C : Nat → Prop} {w : World} {v : Value} {L : List (List UInt8)} (h : RowP B w v L) (hn : ∀ k, k < w.heap.size → B k → C k) : RowP C w v L := by
  obtain ⟨vs, hvl, hs, hfr, hel⟩ := h
  exact ⟨vs, hvl, hs, fun k hk => hn k (hs.lt k hk) (hfr k hk), fun i x o hx ho => ⟨(hel i x o hx ho).1, fun k hk => ⟨hn k ((hel i x o hx ho).1.lt k hk) ((hel i x o hx ho).2 k hk).1, ((hel i x o hx ho).2 k hk).2⟩⟩⟩
theorem rowPN {S : List Nat} {W W' : World} (hk : Kp S W W') (hn : NoC S W) {B : Nat → Prop} {v : Value} {L : List (List UInt8)} (h : RowP B W v L) : RowP B W' v L := by
  obtain ⟨vs, hvl, hs, hfr, hel⟩ := h
  exact ⟨vs, hvl, rowSN hk hn hs, hfr, fun i x o hx ho => ⟨rowN hk hn (hel i x o hx ho).1, (hel i x o hx ho).2⟩⟩
theorem rowPshape {B : Nat → Prop} {w : World} {v : Value} {L : List (List UInt8)} (h : RowP B w v L) : ∃ a c, v = .slice a L.length c := by
  obtain ⟨vs, hvl, hs, _⟩ := h
  rcases hs with ⟨rfl, rfl⟩ | ⟨g, o, cap, rfl, _⟩
  · simp at hvl; exact ⟨none, 0, by rw [← hvl]⟩
  · exact ⟨_, _, by rw [hvl]⟩
theorem rowPcel {B : Nat → Prop} {W : World} {v : Value} {L : List (List UInt8)} (h : RowP B W v L) (h0 : L = [] → v = .slice none 0 0) : ∀ k ∈ own v, ∃ o : Obj, W.heap[k]? = some o ∧ o.isCells = true := by
  intro k hk
  obtain ⟨vs, hvl, hs, _⟩ := h
  rcases hs with ⟨rfl, _⟩ | ⟨g, o, cap, rfl, hl, _, _, _, ht⟩
  · simp [own, Value.ownBlock] at hk
  · cases L with
    | nil => have := h0 rfl; cases this
    | cons x L =>
      have hkg : k = g := by simpa [own, Value.ownBlock, eq_comm] using hk
      rw [hkg]
      exact cellsOf (a := ⟨g, o + 0, none⟩) (ht 0 (by simp at hvl; omega)).1
/-- An append of one slice, as it runs. -/
theorem runAppendP {B : Nat → Prop} {w : World} {v : Value} {L : List (List UInt8)} (h : RowP B w v L) {xv : Value} {bs : List UInt8} (hr : Row w xv bs) (hd : ∀ k ∈ own xv, B k ∧ k ∉ own v) (hB : ∀ k, w.heap.size ≤ k → B k) {q : Nat} (hq : w.heap.size = q) (hb : L.length + 1 ≤ 5000000000000) (ty : TypeId) :
    ∃ v' w', (Builtin.append_ #[30, 30] ty #[v, .slice (some ⟨q, 0, none⟩) 1 1]).run Tryd.prog (w.alloc (.cells #[xv] 32)) = .ok v' w' ∧ RowP B w' v' (L ++ [bs]) ∧ Kp (own v) w w' ∧ ∀ k ∈ own v', k ∈ own v ∨ w.heap.size ≤ k := by
  subst hq
  obtain ⟨i, hi, hz, hz1, hz2⟩ := infoSl
  obtain ⟨vs, hvl, hs, hfr, hel⟩ := h
  have hkA : Kp (own v) w (w.alloc (.cells #[xv] 32)) := (Kp.refl _ _).alloc _
  have hsA := hs.kept (S := []) ((Kp.refl _ _).alloc (.cells #[xv] 32)) (by simp)
  have hsrc : Src Tryd.prog 1 30 (.slice (some ⟨w.heap.size, 0, none⟩) 1 1) [xv].length [xv] (w.alloc (.cells #[xv] 32)) := by
    refine Src.ofSlice _ Tryd.underlying30 ⟨w.heap.size, 0, none⟩ 1 1 [xv] rfl ?_ (by intro u hu; simp at hu; subst hu; exact rowOne hr)
    intro j u hu
    match j, hu with
    | 0, hu => cases hu; rw [Addr.add_lit]; exact World.cell?_alloc_new w _ _ 0
    | j + 1, hu => simp at hu
  obtain ⟨v', w', hrun, h1, h2, h3⟩ := run_appendS (P := Tryd.prog) _ 30 30 ty i Tryd.underlying30 hi hz hz1 hz2 v vs hsA _ [xv] hsrc (by simp; omega)
  have hkk : Kp (own v) w w' := hkA.trans h2 (fun x hx => .inl hx)
  have hnew : ∀ k ∈ own v', k ∈ own v ∨ w.heap.size ≤ k := by
    intro k hk
    rcases h3 k hk with h | h
    · exact .inl h
    · right; simp at h; omega
  refine ⟨v', w', hrun, ⟨vs ++ [xv], by simp [hvl], h1, fun k hk => (by rcases hnew k hk with h | h; exact hfr k h; exact hB k h), ?_⟩, hkk, hnew⟩
  intro j y ob hy hob
  have key : Row w y ob ∧ ∀ k ∈ own y, B k ∧ k ∉ own v := by
    by_cases hj : j < vs.length
    · rw [List.getElem?_append_left hj] at hy
      rw [List.getElem?_append_left (by omega)] at hob
      exact hel j y ob hy hob
    · rw [List.getElem?_append_right (by omega)] at hy
      rw [List.getElem?_append_right (by omega)] at hob
      have : j - vs.length = 0 := by have := (List.getElem?_eq_some_iff.1 hy).1; simp at this; omega
      rw [this] at hy
      rw [← hvl, this] at hob
      cases hy
      cases hob
      exact ⟨hr, hd⟩
  refine ⟨key.1.kept hkk (fun k hk => (key.2 k hk).2), fun k hk => ⟨(key.2 k hk).1, fun hm => ?_⟩⟩
  rcases hnew k hm with h | h
  · exact (key.2 k hk).2 h
  · have := key.1.lt k hk; omega
/-- .. for the fenced walk. -/
theorem wpAppendPIn {F : Fence} {n : Nat} {B : Nat → Prop} {w : World} {ops : Array Oper} {rest : List Oper} {o : Oper} {a : Act} {Q : Exit → Act → World → Prop} (hgd : o.guard = none) (s x : Operand)
    (ho : o.op = .call { callee := .builtin .append, args := #[s, x], argTypes := #[30, 30] })
    (v : Value) (L : List (List UInt8)) (hv : a.eval s = v) (h : RowP B w v L) (xv : Value) (bs : List UInt8) (hr : Row w xv bs) (hd : ∀ k ∈ own xv, B k ∧ k ∉ own v) (hB : ∀ k, w.heap.size ≤ k → B k)
    {q : Nat} (hq : w.heap.size = q) (hx : a.eval x = .slice (some ⟨q, 0, none⟩) 1 1) (hb : L.length + 1 ≤ 5000000000000)
    (hK : ∀ v' w', RowP B w' v' (L ++ [bs]) → Kp (own v) w w' → (∀ k ∈ own v', k ∈ own v ∨ w.heap.size ≤ k) → wpListIn F n Tryd.prog ops Q rest (a.put o.dst v') w') : wpListIn F n Tryd.prog ops Q (o :: rest) a (w.alloc (.cells #[xv] 32)) := by
  refine wpListIn_plain hgd fun K hK' => ?_
  obtain ⟨v', w', hrun, r1, r2, r3⟩ := runAppendP h hr hd hB hq hb o.type
  unfold Oper.wpIn
  refine ⟨?_, ?_⟩
  · simp [Oper.about, ho, resolve, Target.leads, Sem.run_pure]
  · rw [Oper.semAt_plain F _ _ (by rw [ho]; intro c hc'; cases hc')]
    simp [execOp, ho, resolve, invoke, builtin, hv, hx, hrun, Result.andThen]
    exact hK' _ _ (hK v' w' r1 r2 r3)
end Go.Proofs.YtpbogplmkenegabDoor
end

section
namespace Go.Hay
open Go.RowKit
set_option linter.unusedVariables false
/-- The marks of ranges that are over. -/
def marks (Ds : List Nat) : List Deferred := Ds.map fun D => { target := .collected D, args := #[] }
/-- They stand, and none stands twice. -/
structure Mks (Ds : List Nat) (w : World) : Prop where
  nd : Ds.Nodup
  at_ : ∀ D ∈ Ds, w.heap[D]? = some (.deferred (some []))
theorem Mks.nil (w : World) : Mks [] w := ⟨List.nodup_nil, by simp⟩
theorem Mks.lt {Ds : List Nat} {w : World} (h : Mks Ds w) : ∀ D ∈ Ds, D < w.heap.size := fun D hD => (Array.getElem?_eq_some_iff.1 (h.at_ D hD)).1
theorem Mks.kept {Ds : List Nat} {w w' : World} {S : List Nat} (h : Mks Ds w) (hk : Kp S w w') (hS : ∀ D ∈ Ds, D ∉ S) : Mks Ds w' :=
  ⟨h.nd, fun D hD => (hk.block D (h.lt D hD) (hS D hD)).trans (h.at_ D hD)⟩
theorem Mks.cons {Ds : List Nat} {w : World} {D : Nat} (h : Mks Ds w) (hD : w.heap[D]? = some (.deferred (some []))) (hn : D ∉ Ds) : Mks (D :: Ds) w :=
  ⟨List.nodup_cons.2 ⟨hn, h.nd⟩, fun E hE => by rcases List.mem_cons.1 hE with rfl | hE; exact hD; exact h.at_ E hE⟩
/-- A block that holds cells is no mark. -/
theorem Mks.cell {Ds : List Nat} {w : World} (h : Mks Ds w) {a : Addr} (hc : (w.cell? a).isSome = true) : a.block ∉ Ds := fun hm => by
  have := h.at_ _ hm
  unfold World.cell? at hc
  rw [this] at hc
  simp at hc
theorem leaves_marks {F : Fence} {n : Nat} {P : Program} {fn : Func} {tmps : Array Value} {R : Ending → World → Prop} : ∀ (Ds : List Nat) (w : World), Mks Ds w →
    (∀ w', Kp Ds w w' → ∃ v, (results fn tmps).run P w' = .ok v w' ∧ R (.returned v) w') → LeavesInM F n P fn tmps R (marks Ds) .returning w
  | [], w, _, h => h w (Kp.refl _ _)
  | D :: Ds, w, hM, h => by
    have hD := hM.at_ D (by simp)
    have hnd := List.nodup_cons.1 hM.nd
    have kD : Kp [D] w (w.putObj D (.deferred none)) := ⟨rfl, rfl, rfl, by simp, fun k hk hn => World.putObj_heap_other (by simpa using hn)⟩
    have hM2 : Mks Ds w := ⟨hnd.2, fun E hE => hM.at_ E (by simp [hE])⟩
    refine ⟨by simp, .inl ⟨D, _, rfl, run_takeDeferred hD, leaves_marks Ds _ (hM2.kept kD (fun E hE => by simp; rintro rfl; exact hnd.1 hE)) fun w' hk => h w' ?_⟩⟩
    exact (kD.mono (fun x hx => .inl (by simp at hx; simp [hx]))).trans hk (fun x hx => .inl (by simp [hx]))
end Go.Hay
end

section
namespace Go.Proofs.YtpbogplmkenegabDoor
open Go.RowKit Go.Hay Go.Shelf
attribute [local go_sem] Oper.semAt_some
set_option linter.unusedVariables false
set_option linter.unusedSimpArgs false

/-- What Read hands back. -/
def RdP (r : List (List UInt8) × Nat × Int) (w : World) (e : Ending) (w' : World) : Prop := ∃ v, e = .returned (.tuple #[v, .int .i64 (r.2.1 : Int), .int .i64 r.2.2]) ∧ RowP (fun k => w.heap.size ≤ k) w' v r.1 ∧ Kp [] w w'
/-- The blocks that the records may lie in while one frame is read: what there was when it began, or what came when the range had begun. -/
def Bz (n0 z0 z1 : Nat) : Nat → Prop := fun k => n0 ≤ k ∧ (k < z0 ∨ z1 ≤ k)
/-- How Read's memory stands between two rounds of the range over a frame's records. -/
structure RdI (p : Nat) (D : List Nat) (full : List UInt8) (w : World) (qb z0 z1 : Nat) (acc : List (List UInt8)) (Ds : List Nat) (s : St) (W : World) (L : List (List UInt8)) (v : Value) : Prop where
  run : Run 16777216 full s L
  box : W.cell? ⟨qb, 0, none⟩ = some v
  free : W.frozen? ⟨qb, 0, none⟩ = false
  row : RowP (Bz (qb + 1) z0 z1) W v (acc ++ L)
  rd : Rd W p D s.bs s.e
  kp : Kp [] w W
  size : z1 ≤ W.heap.size
  nil : acc ++ L = [] → v = .slice none 0 0
  pend : ∀ x out, s.pend = some (x, out) → Row W x out ∧ ∀ k ∈ own x, Bz (qb + 1) z0 z1 k ∧ k ∉ own v
  mks : Mks Ds W
def RdJ (p : Nat) (D : List Nat) (full : List UInt8) (w : World) (qb z0 z1 : Nat) (acc : List (List UInt8)) (Ds : List Nat) (s : St) (W : World) : Prop := ∃ L v, RdI p D full w qb z0 z1 acc Ds s W L v
theorem rdOwn (p : Nat) (D : List Nat) (full : List UInt8) (w : World) (qb z0 z1 : Nat) (acc : List (List UInt8)) (Ds : List Nat) (hDs : ∀ k ∈ Ds, k < z1) (hz : w.heap.size ≤ z1) : OwnFrom z1 (RdJ p D full w qb z0 z1 acc Ds) := by
  rintro s W W' row ⟨L, v, h⟩ hg hr
  have hk := kpOfGrown hg
  have hn := nocOf hr
  refine ⟨L, v, h.run, cellN hk hn h.box, (frozenN hk hn (by rw [h.box]; rfl)).trans h.free, rowPN hk hn h.row, rdN hk hn h.rd, h.kp.trans hk (fun x hx => .inr (by have := (hr x (by simpa [Option.mem_toList] using hx)).1; omega)), Nat.le_trans h.size hk.size, h.nil, fun x out hp => ⟨rowN hk hn (h.pend x out hp).1, (h.pend x out hp).2⟩, h.mks.kept hk (fun k hk' hm => by have := (hr k (by simpa [Option.mem_toList] using hm)).1; have := hDs k hk'; omega)⟩
theorem rdTurn (p : Nat) (D : List Nat) (full : List UInt8) (w : World) (qb z0 z1 : Nat) (acc : List (List UInt8)) (Ds : List Nat) (hp0 : z0 ≤ p) (hp1 : p < z1) (hqb : qb < z0) (hw : w.heap.size ≤ qb) (s s' : St) (A B : World) (h : RdJ p D full w qb z0 z1 acc Ds s A) (ht : Turn p D 16777216 s s' A B) : RdJ p D full w qb z0 z1 acc Ds s' B := by
  obtain ⟨L, v, h⟩ := h
  have hk := ht.1
  have hpm : p ∉ Ds := h.mks.cell (a := ⟨p, 1, none⟩) (by rw [h.rd.err]; rfl)
  have hbn : ∀ k ∈ [p], ¬ Bz (qb + 1) z0 z1 k := fun k hk' hb => by
    rw [List.mem_singleton] at hk'
    subst hk'
    rcases hb.2 with h1 | h1 <;> omega
  refine ⟨L, v, run_turn h.run ht, (hk.cell (p := ⟨qb, 0, none⟩) (World.block_lt_of_cell? _ _ h.box) (by simp; omega)).trans h.box, (hk.frozen (p := ⟨qb, 0, none⟩) (World.block_lt_of_cell? _ _ h.box) (by simp; omega)).trans h.free, h.row.kept hk hbn, ht.2.1, h.kp.trans hk (fun x hx => .inr (by simp at hx; omega)), Nat.le_trans h.size hk.size, h.nil, ?_, h.mks.kept hk (fun k hk' => by simp; rintro rfl; exact hpm hk')⟩
  intro x out hpe
  obtain ⟨_, _, ⟨_, n, _, _, hs'⟩ | ⟨_, _, _, _, v', out', _, hs', hrow, hown⟩⟩ := ht
  · rw [hs'] at hpe; cases hpe
  · rw [hs'] at hpe
    cases hpe
    refine ⟨hrow, fun k hk' => ⟨⟨by have := hown k hk'; have := h.size; omega, .inr (by have := hown k hk'; have := h.size; omega)⟩, fun hm => ?_⟩⟩
    have := h.row.lt k hm
    have := hown k hk'
    omega
theorem keepsTurnQ {p : Nat} {D : List Nat} {most : Int} {s s' : St} {A B : World} (h : Turn p D most s s' A B) (n : Nat) (hp : p < n) : KeepsFrom n A B := keepsTurn h n hp

/-- How Read's memory stands between two frames. -/
structure RI (w : World) (qb : Nat) (W : World) (n : Nat) (acc : List (List UInt8)) (v : Value) (Ds : List Nat) : Prop where
  box : W.cell? ⟨qb, 0, none⟩ = some v
  free : W.frozen? ⟨qb, 0, none⟩ = false
  row : RowP (fun k => qb + 1 ≤ k) W v acc
  nil : acc = [] → v = .slice none 0 0
  kp : Kp [] w W
  mks : Mks Ds W
  low : ∀ D ∈ Ds, w.heap.size ≤ D
  len : acc.length ≤ n
theorem mksNoc {Ds : List Nat} {w : World} (h : Mks Ds w) : NoC Ds w := fun r hr => ⟨_, h.at_ r hr, rfl⟩
theorem RI.keep {w : World} {qb : Nat} {W W' : World} {n : Nat} {acc : List (List UInt8)} {v : Value} {Ds : List Nat} (h : RI w qb W n acc v Ds) (k : Kp [] W W') : RI w qb W' n acc v Ds :=
  ⟨(k.cell (p := ⟨qb, 0, none⟩) (World.block_lt_of_cell? _ _ h.box) (by simp)).trans h.box, (k.frozen (p := ⟨qb, 0, none⟩) (World.block_lt_of_cell? _ _ h.box) (by simp)).trans h.free, h.row.kept k (by simp), h.nil, h.kp.trans k (by simp), h.mks.kept k (by simp), h.low, h.len⟩
/-- It is left here: what is told. -/
theorem RI.leave {w : World} {qb : Nat} {W : World} {n : Nat} {acc : List (List UInt8)} {v : Value} {Ds : List Nat} (hq : w.heap.size ≤ qb) (h : RI w qb W n acc v Ds) {w' : World} (k : Kp Ds W w') : RowP (fun k => w.heap.size ≤ k) w' v acc ∧ Kp [] w w' :=
  ⟨(rowPN k (mksNoc h.mks) h.row).mono (fun j _ hj => by omega), h.kp.trans k (fun x hx => .inr (h.low x hx))⟩
set_option maxHeartbeats 16000000 in
set_option maxRecDepth 100000 in
theorem cReadQ (a : Option Addr) (c : Nat) (bs : List UInt8) (w : World) (ht : Tab w) (hs : Sees w a bs) (hl : bs.length ≤ c) (hm : c ≤ maxLen) (hb : bs.length ≤ 4000000000000) :
    Calls Tryd.prog 19 #[.slice a bs.length c] w (RdP (rdQ bs) w) := by
  refine (callsIn_wide (n := 6)).1 ?_
  obtain ⟨w1, hw1⟩ : ∃ w1, w.alloc (.cells #[.slice none 0 0] 30) = w1 := ⟨_, rfl⟩
  obtain ⟨qb, hqb⟩ : ∃ q, Hid (w.heap.size = q) := ⟨_, rfl⟩
  have k1 : Kp [] w w1 := by rw [← hw1]; exact (Kp.refl _ _).alloc _
  have hbx1 : w1.cell? ⟨qb, 0, none⟩ = some (.slice none 0 0) := by rw [← hw1]; exact newCell _ _ _ hqb.out
  have hbf1 : w1.frozen? ⟨qb, 0, none⟩ = false := by rw [← hw1, ← hqb.out]; exact World.frozen?_alloc_new w _ _ 0
  have hqbw : w.heap.size ≤ qb := by rw [hqb.out]; omega
  obtain ⟨F, hF⟩ : ∃ F, Hid (rdQ bs = F) := ⟨_, rfl⟩
  have HF0 : Hid (finQ [] 0 (rdQ (bs.drop 0)) = F) := by show _ = _; rw [List.drop_zero, finQ_start, hF.out]
  rw [hF.out]
  have hTb : Hid (∀ W, Kp [] w W → Tab W ∧ Sees W a bs) := fun W k => ⟨ht.kept k (by simp), hs.kept k (by simp)⟩
  have hm' := hm
  unfold maxLen at hm'
  have H1 : Hid (RI w qb w1 0 [] (.slice none 0 0) []) := ⟨hbx1, hbf1, RowP.nil _ _, fun _ => rfl, k1, Mks.nil _, by simp, Nat.zero_le _⟩
  clear k1 hbx1 hbf1 ht hs hF
  refine callsIn_of_wp_marks Tryd.func19 rfl trivial ?_ rfl
  simp only [Tryd.ntmps19, List.size_toArray, List.length_cons, List.length_nil, Nat.reduceAdd, Nat.reduceSub, Array.replicate_succ, Array.replicate_zero, List.push_toArray, List.append_toArray, List.nil_append, List.cons_append]
  have hqb' := hqb.out
  refine wpIn_wide.2 ?_
  go_wp2_with fail
  go_step3
  go_wp2_with fail
  go_step3
  go_wp2_with fail
  rename_i K hK
  have HK : Hid (∀ (n : Nat) (acc : List (List UInt8)) (v : Value) (Ds : List Nat) (u7 u8 u9 u10 u11 u12 u13 u14 u15 u16 u17 u18 u19 u20 u21 u22 u23 u24 u25 u26 u27 u28 u29 u30 u31 u32 u33 u34 u35 u36 u37 u38 u39 u40 u41 u42 u43 u44 u45 u46 u47 : Value) (W : World), RI w qb W n acc v Ds → F = (acc, n, 0) → K { tmps := #[.slice a bs.length c, undef, .slice none 0 0, .int .i64 0, .int .i64 0, .pointer (some ⟨qb, 0, none⟩), .int .i64 (n : Int), u7, u8, u9, u10, u11, u12, u13, u14, u15, u16, u17, u18, u19, u20, u21, u22, u23, u24, u25, u26, u27, u28, u29, u30, u31, u32, u33, u34, u35, u36, u37, u38, u39, u40, u41, u42, u43, u44, u45, u46, u47], defers := marks Ds } W) := by
    intro n acc v Ds u7 u8 u9 u10 u11 u12 u13 u14 u15 u16 u17 u18 u19 u20 u21 u22 u23 u24 u25 u26 u27 u28 u29 u30 u31 u32 u33 u34 u35 u36 u37 u38 u39 u40 u41 u42 u43 u44 u45 u46 u47 W hR hFe
    refine hK _ _ ?_
    subst hFe
    have hbx := hR.box
    have HR := hid hR
    clear hK hR hw1 HF0 H1 hqb'
    go_wp2_with fail
    rw [Exit.noGoto_ret]
    exact leaves_marks Ds W HR.out.mks fun w' hk => ⟨_, results_tmp3 rfl _ _ _, v, rfl, (HR.out.leave hqbw hk).1, (HR.out.leave hqbw hk).2⟩
  have HB : Hid (∀ (n : Nat) (acc : List (List UInt8)) (v : Value) (Ds : List Nat) (A : Act) (W : World), RI w qb W n acc v Ds → F = ([], 0, 91) → A.defers = marks Ds → A.tmps.getD 2 undef = .slice none 0 0 → A.tmps.getD 3 undef = .int .i64 0 → A.tmps.getD 4 undef = .int .i64 91 → bodyPostM Fence.wide 6 Tryd.prog Tryd.f19 (RdP F w) .ret A W) := by
    intro n acc v Ds A W hR hFe hd h2 h3 h4
    subst hFe
    show LeavesInM _ _ _ _ _ _ A.defers .returning W
    rw [hd]
    refine leaves_marks Ds W hR.mks fun w' hk => ⟨_, results_tmp3 rfl _ _ _, .slice none 0 0, ?_, RowP.nil _ _, (hR.leave hqbw hk).2⟩
    rw [h2, h3, h4]
    rfl
  clear hK hw1 hqb'
  refine wp_loop (fun A W => ∃ (n : Nat) (acc : List (List UInt8)) (v : Value) (Ds : List Nat) (u7 u8 u9 u10 u11 u12 u13 u14 u15 u16 u17 u18 u19 u20 u21 u22 u23 u24 u25 u26 u27 u28 u29 u30 u31 u32 u33 u34 u35 u36 u37 u38 u39 u40 u41 u42 u43 u44 u45 u46 u47 : Value), A = { tmps := #[.slice a bs.length c, undef, .slice none 0 0, .int .i64 0, .int .i64 0, .pointer (some ⟨qb, 0, none⟩), .int .i64 (n : Int), u7, u8, u9, u10, u11, u12, u13, u14, u15, u16, u17, u18, u19, u20, u21, u22, u23, u24, u25, u26, u27, u28, u29, u30, u31, u32, u33, u34, u35, u36, u37, u38, u39, u40, u41, u42, u43, u44, u45, u46, u47], defers := marks Ds } ∧ n ≤ bs.length ∧ Hid (finQ acc n (rdQ (bs.drop n)) = F) ∧ Hid (RI w qb W n acc v Ds)) (fun A _ => bs.length - (intOf (A.tmps.getD 6 undef)).toNat) ⟨0, [], .slice none 0 0, [], undef, undef, undef, undef, undef, undef, undef, undef, undef, undef, undef, undef, undef, undef, undef, undef, undef, undef, undef, undef, undef, undef, undef, undef, undef, undef, undef, undef, undef, undef, undef, undef, undef, undef, undef, undef, undef, undef, undef, undef, undef, rfl, Nat.zero_le _, HF0, H1⟩ ?_
  rintro A W ⟨n, acc, v, Ds, u7, u8, u9, u10, u11, u12, u13, u14, u15, u16, u17, u18, u19, u20, u21, u22, u23, u24, u25, u26, u27, u28, u29, u30, u31, u32, u33, u34, u35, u36, u37, u38, u39, u40, u41, u42, u43, u44, u45, u46, u47, rfl, hn, HF, HR⟩
  clear HF0 H1
  by_cases hlt : n < bs.length
  · have dj1 : (n : Int) < (bs.length : Int) := by omega
    have dj0 : (0 : Int) ≤ (n : Int) := by omega
    obtain ⟨hTW, hSW⟩ := hTb.out W HR.out.kp
    have hU := cUnframe (Option.map (fun x => x.add n) a) (bs.length - n) (c - n) (bs.drop n) W hTW (hSW.tail n) (by simp) (by simp; omega) (by unfold maxLen; omega) (by simp; omega)
    have hne : bs.drop n ≠ [] := fun h => by have := congrArg List.length h; simp at this; omega
    have huk := @unf_ok (bs.drop n)
    have hul := unf_len (bs.drop n)
    have hr10 := @rdQ_short (bs.drop n)
    have hrbad := @rdQ_bad (bs.drop n) hne
    have hrbody := @rdQ_body (bs.drop n) hne
    have hrstep := fun h h2 => finQ_step (bs := bs.drop n) acc n hne h h2
    obtain ⟨⟨bd, un, ue⟩, hu⟩ : ∃ U, unf (bs.drop n) = U := ⟨_, rfl⟩
    rw [hu] at hU huk hul hr10 hrbad hrbody hrstep
    dsimp only at hU huk hul hr10 hrbad hrbody hrstep
    rw [List.length_drop] at huk
    have Hst := hid (And.intro huk (And.intro hr10 (And.intro hrbad (And.intro hrbody hrstep))))
    have HU := hid hU
    clear hu hne huk hr10 hrbad hrbody hrstep hU hTW hSW
    go_wp2_with fail
    refine HU.out.mono ?_
    rintro e w2 ⟨v2, rfl, hr2, k2, hn2⟩
    have HR2 := hid (HR.out.keep k2)
    obtain ⟨b2, c2, rfl, hs2, ho2⟩ := hr2.sees
    have hs2' := hid hs2
    have hz2 := k2.size
    clear HU hr2 hn2 hs2 ho2
    by_cases h10 : ue = 10
    · have hFe : F = (acc, n, 0) := by
        rw [← HF.out, Hst.out.2.1 h10]
        simp [finQ]
      subst h10
      go_wp2_with fail
      exact HK.out n acc v Ds _ _ _ _ _ _ _ _ _ _ _ _ _ _ _ _ _ _ _ _ _ _ _ _ _ _ _ _ _ _ _ _ _ _ _ _ _ _ _ _ _ w2 HR2.out hFe
    by_cases h00 : ue = 0
    · subst h00
      have hR3 := rRead b2 bd.length c2 bd w2 hs2'.out rfl (by omega)
      have HRd := hid hR3
      clear hR3 h10
      go_wp2_with fail
      refine HRd.out.mono ?_
      rintro e w3 ⟨p, D, rfl, hrd3, k3, hp3, hD3⟩
      have hz3 := k3.size
      have hI := cItems p 16777216 w3
      have H3 := hid (And.intro hrd3 (And.intro k3 (And.intro hp3 hD3)))
      clear HRd hrd3 k3 hp3 hD3
      go_wp2_with fail
      refine hI.mono ?_
      rintro e w4 ⟨rfl, k4, hsz4, d1, d2, d3⟩
      clear hI
      have hrd3 := H3.out.1
      have hp3 := H3.out.2.2.1
      have hD3 := H3.out.2.2.2
      have hpl3 := hrd3.lt
      have hdl3 := hrd3.dlt
      have HR4 := (HR2.out.keep H3.out.2.1).keep k4
      have hrd4 := hrd3.kept k4 (by simp) (by simp)
      have hzW : W.heap.size ≤ w2.heap.size := hz2
      have hz4 := k4.size
      have hqbz : qb < w2.heap.size := World.block_lt_of_cell? _ _ HR2.out.box
      have hJs : ∀ j ∈ p :: w3.heap.size :: (w3.heap.size + 1) :: (w3.heap.size + 2) :: D, w2.heap.size ≤ j ∧ j < w4.heap.size := by
        intro j hj
        rcases List.mem_cons.1 hj with rfl | hj
        · omega
        rcases List.mem_cons.1 hj with rfl | hj
        · omega
        rcases List.mem_cons.1 hj with rfl | hj
        · omega
        rcases List.mem_cons.1 hj with rfl | hj
        · omega
        · have := hdl3 j hj; have := hD3 j hj; omega
      have hrow4 : RowP (Bz (qb + 1) w2.heap.size w4.heap.size) w4 v acc := by
        have h0 : RowP (Bz (qb + 1) w2.heap.size w4.heap.size) W v acc := HR.out.row.mono (fun k hk hq => ⟨hq, .inl (by omega)⟩)
        exact ((h0.kept k2 (by simp)).kept H3.out.2.1 (by simp)).kept k4 (by simp)
      have hJ0 : RdJ p D bd w qb w2.heap.size w4.heap.size acc Ds ⟨0, 0, bd, 0, false, none⟩ w4 := ⟨[], v, .inl ⟨rfl, rfl⟩, HR4.box, HR4.free, by rw [List.append_nil]; exact hrow4, hrd4, HR4.kp, Nat.le_refl _, fun h => HR4.nil (by simpa using h), fun x out h => (by cases h), HR4.mks⟩
      have hDs4 := HR4.mks.lt
      have hwz : w.heap.size ≤ w4.heap.size := HR4.kp.size
      have hseq := itemsSeq (6 - 1) (by omega) p w3.heap.size (w3.heap.size + 1) (w3.heap.size + 2) D 16777216 (by omega) (by omega) bd 0 w4 d1 d2 d3 hrd4 ⟨by omega, by omega, by omega⟩ (fun N bs1 e1 h => by have := countS_le h; omega)
      have hlow := hid HR4.low
      have hlen := HR4.len
      clear d1 d2 d3 hrd4 k4 HR4 hrow4 H3 HR HR2 k2 hs2' hsz4
      go_wp2_with fail
      refine (wpIn_wide (n := 6)).1 ?_
      refine wpRangeT rfl (by omega) (gf := 48) (lb := #[.pointer (some ⟨w3.heap.size, 0, none⟩), .pointer (some ⟨w3.heap.size + 1, 0, none⟩), .pointer (some ⟨w3.heap.size + 2, 0, none⟩)]) rfl trivial (enters_of Tryd.func48 (by kernel_rfl) rfl)
        hseq (fun _ => rfl) Away.trans (Away.alloc _) (fun W l o o' hl _ _ => Away.putObj (fun j hj => (hJs j hj).2) W l o' hl) ⟨[], Kp.refl _ _, by simp⟩ (fun s s' A B ht => keepsTurn ht _ (hJs p (by simp)).2)
        (RdJ p D bd w qb w2.heap.size w4.heap.size acc Ds) (fun _ _ _ => False) (rdOwn p D bd w qb _ _ acc Ds hDs4 hwz) (fun _ _ _ _ _ h _ _ => h) (rdTurn p D bd w qb _ _ acc Ds hp3 (hJs p (by simp)).2 hqbz hqbw) hJ0
        (fun x => { tmps := #[.slice a bs.length c, undef, .slice none 0 0, .int .i64 0, .int .i64 0, .pointer (some ⟨qb, 0, none⟩), .int .i64 (n : Int), .slice b2 bd.length c2, .int .i64 un, .int .i64 0, .pointer (some ⟨p, 0, none⟩), u11, x.2.1, .int .i64 (n : Int), .slice a bs.length c, .int .i64 (bs.length : Int), .bool true, .tuple #[.slice b2 bd.length c2, .int .i64 un, .int .i64 0], .slice a bs.length c, .int .i64 (n : Int), .slice (Option.map (fun x => x.add n) a) (bs.length - n) (c - n), .tuple #[.slice b2 bd.length c2, .int .i64 un, .int .i64 0], .slice b2 bd.length c2, .int .i64 un, .int .i64 0, .int .i64 0, .bool true, .bool true, u28, u29, .slice b2 bd.length c2, .pointer (some ⟨p, 0, none⟩), .pointer (some ⟨p, 0, none⟩), .func (.func 48) #[] #[.pointer (some ⟨w3.heap.size, 0, none⟩), .pointer (some ⟨w3.heap.size + 1, 0, none⟩), .pointer (some ⟨w3.heap.size + 2, 0, none⟩)], .int .i64 x.1, x.2.1, u36, u37, u38, u39, u40, u41, u42, u43, u44, u45, u46, u47], defers := [] }) ?assign ?body ?done ?stop
      case assign =>
        intro l x X C hC
        gi_wp2_with fail
        exact hC
      case body =>
        rintro l s ⟨i, xv, out⟩ X ⟨L, vv, h⟩ ⟨he, hpe, hxk⟩
        dsimp only at hpe hxk
        obtain ⟨hrx, hox⟩ := h.pend _ _ hpe
        obtain ⟨hrun, hlen2⟩ := run_next (x := (i, xv, out)) h.run he hpe
        have hcel := rowPcel h.row h.nil
        obtain ⟨ax, cx, rfl, _⟩ := hrx.shape
        obtain ⟨av, cv, rfl⟩ := rowPshape h.row
        have hfrom := h.row.from
        have h2 := h.box
        have h3 := h.free
        have h4 := h.row
        have h7 := h.size
        have hlt2 := World.block_lt_of_cell? _ _ h2
        have hal : (acc ++ L).length + 1 ≤ 5000000000000 := by rw [List.length_append]; have := hul; omega
        obtain ⟨M, hM⟩ : ∃ M, Hid (acc ++ L = M) := ⟨_, rfl⟩
        rw [hM.out] at h4 hcel hfrom hox hal h2
        gi_wp2_with (gi_at_builtin; refine wpAppendPIn rfl _ _ rfl _ M rfl h4 _ out hrx hox (fun k hk => ⟨by have := h7; omega, .inr (by omega)⟩) rfl rfl hal ?_)
        intro v5 w5 r2 k5 hnew
        obtain ⟨a5, c5, rfl⟩ := rowPshape r2
        have hbo : qb ∉ own (.slice av M.length cv) := fun hm => by have := (hfrom _ hm).1; omega
        have b5 : w5.cell? ⟨qb, 0, none⟩ = some (.slice av M.length cv) := (k5.cell (p := ⟨qb, 0, none⟩) hlt2 hbo).trans h2
        have f5 : w5.frozen? ⟨qb, 0, none⟩ = false := (k5.frozen (p := ⟨qb, 0, none⟩) hlt2 hbo).trans h3
        have hnB : ∀ j ∈ p :: w3.heap.size :: (w3.heap.size + 1) :: (w3.heap.size + 2) :: D, j ≠ qb ∧ ¬ Bz (qb + 1) w2.heap.size w4.heap.size j := fun j hj => by
          have := hJs j hj
          refine ⟨by omega, fun hb => ?_⟩
          rcases hb.2 with h1 | h1 <;> omega
        have r2d := h.rd.kept k5 (fun hm => (hnB p (by simp)).2 (hfrom _ hm)) (fun k hk hm => (hnB k (by simp [hk])).2 (hfrom _ hm))
        obtain ⟨L2, hL2⟩ : ∃ L2, Hid (M ++ [out] = L2) := ⟨_, rfl⟩
        rw [hL2.out] at r2 ⊢
        have kS : Kp [qb] w5 (w5.setCell ⟨qb, 0, none⟩ (.slice a5 L2.length c5)) := (Kp.refl _ _).setCell (by simp) _
        have kAll : Kp (qb :: own (.slice av M.length cv)) X (w5.setCell ⟨qb, 0, none⟩ (.slice a5 L2.length c5)) := (k5.mono (T := qb :: own (.slice av M.length cv)) (fun x hx => .inl (by simp [hx]))).trans kS (fun x hx => .inl (by simp at hx; simp [hx]))
        have hbx : ∃ o : Obj, X.heap[qb]? = some o ∧ o.isCells = true := cellsOf (a := ⟨qb, 0, none⟩) (by rw [h2]; rfl)
        have hSc : ∀ k ∈ qb :: own (.slice av M.length cv), ∃ o : Obj, X.heap[k]? = some o ∧ o.isCells = true := fun k hk => by rcases List.mem_cons.1 hk with rfl | hk; exact hbx; exact hcel k hk
        have hmk : Mks Ds (w5.setCell ⟨qb, 0, none⟩ (.slice a5 L2.length c5)) := h.mks.kept kAll (fun k hk hm => by
          obtain ⟨o, ho, hc⟩ := hSc k hm
          rw [h.mks.at_ k hk] at ho
          cases ho
          cases hc)
        have r3 := r2.kept kS (fun k hk hb => by simp at hk; subst hk; have := hb.1; omega)
        have kk : Kp [] w (w5.setCell ⟨qb, 0, none⟩ (.slice a5 L2.length c5)) := h.kp.trans kAll (fun x hx => .inr (by rcases List.mem_cons.1 hx with rfl | hx; omega; have := (hfrom x hx).1; omega))
        have r4 := r2d.kept kS (by have := (hnB p (by simp)).1; simp; omega) (fun k hk => by have := (hnB k (by simp [hk])).1; simp; omega)
        have Hfin := hid (And.intro hmk (And.intro r3 (And.intro kk r4)))
        have hSc' := hid hSc
        have hL3 : Hid (acc ++ (L ++ [out]) = L2) := by show _ = _; rw [← List.append_assoc, hM.out, hL2.out]
        clear hmk r3 kk r4 r2d r2 k5 hnew hSc hbx hcel h4 hrx hox
        gi_wp2_with fail
        refine ⟨keepsCel kAll hSc'.out _, ⟨_, kAll, fun j hj hm => ?_⟩, L ++ [out], .slice a5 L2.length c5, hrun, World.cell?_setCell_same _ _ _ b5, by rw [World.frozen?_setCell]; exact f5, by rw [hL3.out]; exact Hfin.out.2.1, Hfin.out.2.2.2, Hfin.out.2.2.1, Nat.le_trans h7 kAll.size, fun hh => (by simp at hh), fun x o hh => (by cases hh), Hfin.out.1⟩
        rcases List.mem_cons.1 hm with hh | hh
        · exact (hnB j hj).1 hh
        · exact (hnB j hj).2 (hfrom j hh)
      case done =>
        rintro D' s X hDz ⟨hgo, hS⟩ ⟨L, vv, h⟩ hK'
        obtain ⟨N, bs1, e1, hc, hl2⟩ := run_done h.run hgo hS
        have hbd : bdy bd = (L, endE s.bs s.e == 0) := by unfold bdy; rw [hc]; dsimp only; rw [hl2]
        have hEn := hid (rEnd p D s.bs s.e X h.rd)
        have hmk : Mks (D' :: Ds) X := h.mks.cons hK' (fun hm => by have := hDs4 D' hm; omega)
        have hlow2 : ∀ E ∈ D' :: Ds, w.heap.size ≤ E := fun E hE => by
          rcases List.mem_cons.1 hE with rfl | hE
          · omega
          · exact hlow.out E hE
        have hRL : s.e = 0 → L.length ≤ bd.length := fun he => by
          rcases h.run with ⟨hs0, rfl⟩ | ⟨_, _, N', b', e', _, hm2⟩
          · simp
          · rcases hS with ⟨_, hpn⟩ | hne
            · rw [hpn] at hm2
              have := hm2.1
              omega
            · exact absurd he hne
        have HX := hid (And.intro h (And.intro hmk (And.intro hlow2 (And.intro hbd hRL))))
        clear h hc hl2 hbd hmk hlow2 hRL hS hK'
        go_wp2_with fail
        refine hEn.out.mono ?_
        rintro e X ⟨rfl, rfl⟩
        clear hEn
        by_cases hE : endE s.bs s.e = 0
        · have hse : s.e = 0 := by
            unfold endE at hE
            split at hE
            · cases hE
            · exact hE
          have hb2 : (bdy bd).2 = true := by rw [HX.out.2.2.2.1, hE]; rfl
          have hb1 : (bdy bd).1 = L := by rw [HX.out.2.2.2.1]
          have hFn := Hst.out.2.2.2.2 (by trivial) hb2
          rw [hb1] at hFn
          have huk := Hst.out.1 (by trivial)
          have hll := HX.out.2.2.2.2 hse
          obtain ⟨m, rfl⟩ := Int.eq_ofNat_of_zero_le (show (0 : Int) ≤ un by omega)
          rw [List.drop_drop] at hFn
          simp only [Int.toNat_natCast] at hFn huk
          have HF2 : Hid (finQ (acc ++ L) (n + m) (rdQ (bs.drop (n + m))) = F) := by show _ = _; rw [← hFn, HF.out]
          have HR2 : Hid (RI w qb X (n + m) (acc ++ L) vv (D' :: Ds)) := ⟨HX.out.1.box, HX.out.1.free, HX.out.1.row.mono (fun k _ hk => hk.1), HX.out.1.nil, HX.out.1.kp, HX.out.2.1, HX.out.2.2.1, by rw [List.length_append]; omega⟩
          have dz1 : (-9223372036854775808 : Int) ≤ (n : Int) + (m : Int) := by omega
          have dz2 : (n : Int) + (m : Int) ≤ 9223372036854775807 := by omega
          have hnm : n + m ≤ bs.length := by omega
          rw [hE]
          clear HX hFn hb1 hb2 Hst HF hE
          go_wp2_with fail
          refine ⟨⟨n + m, acc ++ L, vv, D' :: Ds, _, _, _, _, _, _, _, _, _, _, _, _, _, _, _, _, _, _, _, _, _, _, _, _, _, _, _, _, _, _, _, _, _, _, _, _, _, _, _, _, _, rfl, hnm, HF2, HR2⟩, ?_⟩
          simp [intOf]
          omega
        · have hb2 : (bdy bd).2 = false := by rw [HX.out.2.2.2.1]; simpa using hE
          have hFe : F = ([], 0, 91) := by
            rw [← HF.out, Hst.out.2.2.2.1 (by trivial) hb2]
            simp [finQ]
          have e1 : (endE s.bs s.e == 0) = false := by simpa using hE
          have e2 : (endE s.bs s.e != 0) = true := by simpa using hE
          have HR2 : Hid (RI w qb X (n + bs.length + acc.length + L.length) (acc ++ L) vv (D' :: Ds)) := ⟨HX.out.1.box, HX.out.1.free, HX.out.1.row.mono (fun k _ hk => hk.1), HX.out.1.nil, HX.out.1.kp, HX.out.2.1, HX.out.2.2.1, by rw [List.length_append]; omega⟩
          clear HX Hst HF hE
          go_wp2_with fail
          rw [Exit.noGoto_ret]
          exact HB.out _ _ vv (D' :: Ds) _ X HR2.out hFe rfl rfl rfl rfl
      case stop =>
        rintro D' c s X _ _ h _
        exact h.elim
    · have hFe : F = ([], 0, 91) := by
        rw [← HF.out, Hst.out.2.2.1 h10 h00]
        simp [finQ]
      have e1 : (ue == 0) = false := by simpa using h00
      have e2 : (ue == 10) = false := by simpa using h10
      go_wp2_with fail
      rw [Exit.noGoto_ret]
      exact HB.out n acc v Ds _ w2 HR2.out hFe rfl rfl rfl rfl
  · have dj1 : decide ((n : Int) < (bs.length : Int)) = false := by simp; omega
    have hFe : F = (acc, n, 0) := by
      rw [← HF.out, List.drop_eq_nil_of_le (by omega), rdQ_nil]
      simp [finQ]
    go_wp2_with fail
    exact HK.out n acc v Ds _ _ _ _ _ _ _ _ _ _ _ _ _ _ _ _ _ _ _ _ _ _ _ _ _ _ _ _ _ _ _ _ _ _ _ _ _ _ _ _ _ W HR.out hFe
end Go.Proofs.YtpbogplmkenegabDoor
end

section
namespace Go.Proofs.YtpbogplmkenegabDoor
open Go.RowKit Go.Hay
set_option linter.unusedVariables false
set_option linter.unusedSimpArgs false

def BatP (r : List (List UInt8) × Bool) (w : World) (e : Ending) (w' : World) : Prop := ∃ v, e = .returned (.tuple #[v, .bool r.2]) ∧ (r.2 = true → RowP (fun k => w.heap.size ≤ k) w' v r.1) ∧ Kp [] w w'
end Go.Proofs.YtpbogplmkenegabDoor
end

section
namespace Go.Proofs.YtpbogplmkenegabDoor
open Go.RowKit Go.Hay
set_option linter.unusedVariables false

end Go.Proofs.YtpbogplmkenegabDoor
end

section
namespace Go.Proofs.YtpbogplmkenegabDoor
open Go.RowKit Go.Hay
set_option linter.unusedVariables false
set_option linter.unusedSimpArgs false

theorem lstS_len : ∀ (n : Nat) (bs : List UInt8), (lstS n bs 0).2.2 = 0 → (lstS n bs 0).1.length + (lstS n bs 0).2.1.length ≤ bs.length
  | 0, bs, _ => by simp [lstS]
  | n + 1, bs, h => by
    obtain ⟨⟨out, r, e⟩, ht⟩ : ∃ T, textS 16777216 bs 0 = T := ⟨_, rfl⟩
    by_cases he : e = 0
    · subst he
      rw [lstS_good _ _ _ _ ht] at h ⊢
      have := lstS_len n r h
      have := textS_shorter ht
      simp only [List.length_cons]
      omega
    · rw [lstS_bad _ _ _ _ _ he ht] at h
      exact absurd h he
theorem bdy_len (bs : List UInt8) (h : (bdy bs).2 = true) : (bdy bs).1.length ≤ bs.length := by
  unfold bdy at h ⊢
  obtain ⟨⟨n, r, e⟩, hc⟩ : ∃ C, countS 16777216 bs 0 = C := ⟨_, rfl⟩
  rw [hc] at h ⊢
  dsimp only at h ⊢
  have hle := countS_le hc
  by_cases he : e = 0
  · subst he
    have h2 : (lstS n.toNat r 0).2.2 = 0 := by
      have h3 : endE (lstS n.toNat r 0).2.1 (lstS n.toNat r 0).2.2 = 0 := by simpa using h
      unfold endE at h3
      split at h3
      · cases h3
      · exact h3
    have := lstS_len n.toNat r h2
    omega
  · rw [lstS_err _ _ _ he]
    simp
/-- A row of rows as what is appended. -/
theorem RowP.src {B : Nat → Prop} {w : World} {x : Value} {M : List (List UInt8)} (h : RowP B w x M) : ∃ ws, ws.length = M.length ∧ Src Tryd.prog 1 30 x ws.length ws w ∧ ∀ (i : Nat) (y : Value) (o : List UInt8), ws[i]? = some y → M[i]? = some o → Row w y o ∧ ∀ k ∈ own y, B k := by
  obtain ⟨ws, hvl, hs, hfr, hel⟩ := h
  refine ⟨ws, hvl, ?_, fun i y o hy ho => ⟨(hel i y o hy ho).1, fun k hk => ((hel i y o hy ho).2 k hk).1⟩⟩
  rcases hs with ⟨rfl, rfl⟩ | ⟨g, o, cap, rfl, hl, hm, hg, hc, ht⟩
  · exact Src.ofNil w Tryd.underlying30 0
  · refine Src.ofSlice _ Tryd.underlying30 ⟨g, o, none⟩ ws.length cap ws (by simp) (fun j u hu => by rw [Addr.add_lit]; exact hc j u hu) (fun u hu => ?_)
    obtain ⟨i, hi, rfl⟩ := List.getElem_of_mem hu
    exact rowOne (hel i ws[i] (M[i]'(by omega)) (by simp [hi]) (by simp [show i < M.length by omega])).1
/-- An append of all that another one has, as it runs. -/
theorem runAppendPP {B : Nat → Prop} {w : World} {v : Value} {L : List (List UInt8)} (h : RowP B w v L) {xv : Value} {M : List (List UInt8)} (ws : List Value) (hwl : ws.length = M.length) (hsrc : Src Tryd.prog 1 30 xv ws.length ws w)
    (hw : ∀ (i : Nat) (y : Value) (o : List UInt8), ws[i]? = some y → M[i]? = some o → Row w y o ∧ ∀ k ∈ own y, B k ∧ k ∉ own v) (hB : ∀ k, w.heap.size ≤ k → B k) (hb : L.length + M.length ≤ 5000000000000) (ty : TypeId) :
    ∃ v' w', (Builtin.append_ #[30, 30] ty #[v, xv]).run Tryd.prog w = .ok v' w' ∧ RowP B w' v' (L ++ M) ∧ Kp (own v) w w' ∧ ∀ k ∈ own v', k ∈ own v ∨ w.heap.size ≤ k := by
  obtain ⟨i, hi, hz, hz1, hz2⟩ := infoSl
  obtain ⟨vs, hvl, hs, hfr, hel⟩ := h
  obtain ⟨v', w', hrun, h1, h2, h3⟩ := run_appendS (P := Tryd.prog) _ 30 30 ty i Tryd.underlying30 hi hz hz1 hz2 v vs hs _ ws hsrc (by omega)
  refine ⟨v', w', hrun, ⟨vs ++ ws, by simp [hvl, hwl], h1, fun k hk => (by rcases h3 k hk with h | h; exact hfr k h; exact hB k h), ?_⟩, h2, h3⟩
  intro j y ob hy hob
  have key : Row w y ob ∧ ∀ k ∈ own y, B k ∧ k ∉ own v := by
    by_cases hj : j < vs.length
    · rw [List.getElem?_append_left hj] at hy
      rw [List.getElem?_append_left (by omega)] at hob
      exact hel j y ob hy hob
    · rw [List.getElem?_append_right (by omega)] at hy
      rw [List.getElem?_append_right (by omega), ← hvl] at hob
      exact hw _ y ob hy hob
  refine ⟨key.1.kept h2 (fun k hk => (key.2 k hk).2), fun k hk => ⟨(key.2 k hk).1, fun hm => ?_⟩⟩
  rcases h3 k hm with h | h
  · exact (key.2 k hk).2 h
  · have := key.1.lt k hk; omega
theorem wpAppRunQ {P : Program} {w w' : World} {ops : Array Oper} {rest : List Oper} {o : Oper} {a : Act} {Q : Exit → Act → World → Prop} (hgd : o.guard = none) (s x : Operand) (t tx : TypeId)
    (ho : o.op = .call { callee := .builtin .append, args := #[s, x], argTypes := #[t, tx] }) (v xv v' : Value) (hv : a.eval s = v) (hx : a.eval x = xv)
    (hrun : (Builtin.append_ #[t, tx] o.type #[v, xv]).run P w = .ok v' w') (hK : wpList P ops Q rest (a.put o.dst v') w') : wpList P ops Q (o :: rest) a w := by
  refine wpList_plain hgd fun K hK' => ?_
  have hfin := hK' _ _ hK
  unfold Oper.wp
  simp [execOp, ho, resolve, invoke, builtin, hv, hx, hrun, Result.andThen]
  exact hfin
end Go.Proofs.YtpbogplmkenegabDoor
end

section
namespace Go.Proofs.YtpbogplmkenegabDoor
open Go.RowKit Go.Hay
set_option linter.unusedVariables false
set_option linter.unusedSimpArgs false

def sumB (l : List (List UInt8)) : Nat := (l.map List.length).sum
theorem sumB_snoc (l : List (List UInt8)) (k : Nat) (h : k < l.length) : sumB (l.take (k + 1)) = sumB (l.take k) + l[k].length := by
  unfold sumB
  rw [List.take_succ_eq_append_getElem h, List.map_append, List.sum_append]
  simp only [List.map_cons, List.map_nil, List.sum_cons, List.sum_nil, Nat.add_zero]
theorem sumB_le (l : List (List UInt8)) (k : Nat) : sumB (l.take k) ≤ sumB l := by
  induction l generalizing k with
  | nil => simp
  | cons x l ih =>
    cases k with
    | zero => simp [sumB]
    | succ k =>
      have := ih k
      simp only [sumB, List.take_succ_cons, List.map_cons, List.sum_cons] at this ⊢
      omega
theorem txB_len (l : List (List UInt8)) : sumB l ≤ (txB l).length ∧ (txB l).length ≤ sumB l + 9 * l.length := by
  induction l with
  | nil => simp [txB, sumB]
  | cons x l ih =>
    have := textB_len x
    have e : txB (x :: l) = textB x ++ txB l := by simp [txB]
    rw [e, List.length_append]
    simp only [sumB, List.map_cons, List.sum_cons, List.length_cons] at ih ⊢
    omega
theorem recB_len (l : List (List UInt8)) : sumB l ≤ (recB l).length ∧ (recB l).length ≤ sumB l + 9 * l.length + 9 := by
  have := txB_len l
  have := varB_length l.length
  have e : recB l = varB l.length ++ txB l := rfl
  rw [e, List.length_append]
  omega
end Go.Proofs.YtpbogplmkenegabDoor
end

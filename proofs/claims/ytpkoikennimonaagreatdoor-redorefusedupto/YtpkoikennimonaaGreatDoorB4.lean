/- What is kept where only blocks that hold no cells have turned. What has come of a list when the iterator stands so; an append of a slice in a round. Plain mathematics of the checksum: a step by half bytes is four single steps; one bit that is turned is found. The checksum's two texts: the program's, by a table of half bytes, and the reference's, bit by bit. The writer's Word. Frames, the program's: word, Frame. Frames, the reference's Frame; Unframe, both. Unframe, the program's. The reference's End. Records and frames, plainly: what is written, what is read. -/
import Derived.Test.YtpkoikennimonaaGreatDoorB3
import Derived.Test.YtpkoikennimonaaGreatDoorB1
import Derived.Test.YtpkoikennimonaaGreatDoorB2
import Derived.Laws.BitsAllLaws
import Derived.Deep.QuietTactic
import Derived.BigQuiet
section
namespace Go.Proofs.YtpkoikennimonaaGreatDoor
open Go.RowKit Go.Hay
set_option linter.unusedVariables false
set_option linter.unusedSimpArgs false

/-- None of these blocks holds cells. -/
def NoC (S : List Nat) (W : World) : Prop := ∀ r ∈ S, ∃ o : Obj, W.heap[r]? = some o ∧ o.isCells = false
theorem NoC.out {S : List Nat} {W : World} (h : NoC S W) {a : Addr} (hc : (W.cell? a).isSome = true) : a.block ∉ S := fun hm => by
  obtain ⟨o, ho, hn⟩ := h _ hm
  unfold World.cell? at hc
  rw [ho] at hc
  cases o <;> simp_all [Obj.isCells]
theorem kpOfGrown {W W' : World} {row : Option Nat} (hg : W.grownBy W' row) : Kp row.toList W W' :=
  ⟨hg.os, hg.tape, hg.output, hg.size, fun k hk hn => hg.block k hk (fun e => hn (by simp [← e]))⟩
theorem nocOf {W : World} {row : Option Nat} {B : Nat} (hr : ∀ r, row = some r → B ≤ r ∧ ∃ o : Obj, W.heap[r]? = some o ∧ o.isCells = false) : NoC row.toList W := fun r hm => (hr r (by simpa [Option.mem_toList] using hm)).2
theorem cellN {S : List Nat} {W W' : World} (hk : Kp S W W') (hn : NoC S W) {a : Addr} {v : Value} (hc : W.cell? a = some v) : W'.cell? a = some v :=
  (hk.cell (World.block_lt_of_cell? _ _ hc) (hn.out (by rw [hc]; rfl))).trans hc
theorem frozenN {S : List Nat} {W W' : World} (hk : Kp S W W') (hn : NoC S W) {a : Addr} (hc : (W.cell? a).isSome = true) : W'.frozen? a = W.frozen? a := by
  obtain ⟨v, hv⟩ := Option.isSome_iff_exists.1 hc
  exact hk.frozen (World.block_lt_of_cell? _ _ hv) (hn.out hc)
theorem someN {S : List Nat} {W W' : World} (hk : Kp S W W') (hn : NoC S W) {a : Addr} (hc : (W.cell? a).isSome = true) : (W'.cell? a).isSome = true := by
  obtain ⟨v, hv⟩ := Option.isSome_iff_exists.1 hc
  rw [cellN hk hn hv]; rfl
theorem rowN {S : List Nat} {W W' : World} (hk : Kp S W W') (hn : NoC S W) {v : Value} {bs : List UInt8} (h : Row W v bs) : Row W' v bs := by
  rcases h with h | ⟨g, o, cap, rfl, hl, hm, hg, hc, ht⟩
  · exact .inl h
  · exact .inr ⟨g, o, cap, rfl, hl, hm, Nat.lt_of_lt_of_le hg hk.size, fun j u hu => cellN hk hn (hc j u hu), fun j hj => ⟨someN hk hn (ht j hj).1, (frozenN hk hn (ht j hj).1).trans (ht j hj).2⟩⟩
theorem seesN {S : List Nat} {W W' : World} (hk : Kp S W W') (hn : NoC S W) {a : Option Addr} {bs : List UInt8} (h : Sees W a bs) : Sees W' a bs := by
  rcases h with h | ⟨g, o, h, hc⟩
  · exact .inl h
  · exact .inr ⟨g, o, h, fun j u hu => cellN hk hn (hc j u hu)⟩
theorem rdN {S : List Nat} {W W' : World} (hk : Kp S W W') (hn : NoC S W) {p : Nat} {D : List Nat} {bs : List UInt8} {e : Int} (h : Rd W p D bs e) : Rd W' p D bs e := by
  obtain ⟨a, c, h1, h2, h3, h4, h5⟩ := h.left
  exact ⟨⟨a, c, cellN hk hn h1, h2, h3, seesN hk hn h4, h5⟩, cellN hk hn h.err, (frozenN hk hn (by rw [h1]; rfl)).trans h.free0, (frozenN hk hn (by rw [h.err]; rfl)).trans h.free1, h.apart, fun k hk' => Nat.lt_of_lt_of_le (h.dlt k hk') hk.size⟩
theorem rowSN {S : List Nat} {W W' : World} (hk : Kp S W W') (hn : NoC S W) {v : Value} {vs : List Value} (h : RowS W v vs) : RowS W' v vs := by
  rcases h with h | ⟨g, o, cap, rfl, hl, hm, hg, hc, ht⟩
  · exact .inl h
  · exact .inr ⟨g, o, cap, rfl, hl, hm, Nat.lt_of_lt_of_le hg hk.size, fun j u hu => cellN hk hn (hc j u hu), fun j hj => ⟨someN hk hn (ht j hj).1, (frozenN hk hn (ht j hj).1).trans (ht j hj).2⟩⟩
theorem rowLN {S : List Nat} {W W' : World} (hk : Kp S W W') (hn : NoC S W) {n0 : Nat} {v : Value} {L : List (List UInt8)} (h : RowL n0 W v L) : RowL n0 W' v L := by
  obtain ⟨vs, hvl, hs, hfr, hel⟩ := h
  exact ⟨vs, hvl, rowSN hk hn hs, hfr, fun j y ob hy hob => ⟨rowN hk hn (hel j y ob hy hob).1, (hel j y ob hy hob).2⟩⟩

theorem newCell (w : World) (v : Value) (t : TypeId) {q : Nat} (hq : w.heap.size = q) : (w.alloc (.cells #[v] t)).cell? ⟨q, 0, none⟩ = some v := by subst hq; exact World.cell?_alloc_new w _ _ 0
theorem oldCell {w : World} {a : Addr} {v : Value} (h : w.cell? a = some v) (o : Obj) : (w.alloc o).cell? a = some v := (World.cell?_alloc_lt _ _ _ (World.block_lt_of_cell? _ _ h)).trans h
/-- What Items hands back: a closure over three boxes. -/
theorem cItems (p : Nat) (most : Int) (w : World) : Calls Tryz.prog 57 #[.pointer (some ⟨p, 0, none⟩), .int .i64 most, .func (.func 58) #[] #[]] w fun e w' =>
    e = .returned (.func (.func 84) #[] #[.pointer (some ⟨w.heap.size, 0, none⟩), .pointer (some ⟨w.heap.size + 1, 0, none⟩), .pointer (some ⟨w.heap.size + 2, 0, none⟩)]) ∧ Kp [] w w' ∧ w'.heap.size = w.heap.size + 3 ∧
    w'.cell? ⟨w.heap.size, 0, none⟩ = some (.pointer (some ⟨p, 0, none⟩)) ∧ w'.cell? ⟨w.heap.size + 1, 0, none⟩ = some (.int .i64 most) ∧ w'.cell? ⟨w.heap.size + 2, 0, none⟩ = some (.func (.func 58) #[] #[]) := by
  go_enter Tryz.func57, Tryz.ntmps57
  go_wp2_with fail
  go_ret
  refine ⟨rfl, (((Kp.refl _ _).alloc _).alloc _).alloc _, by simp, oldCell (oldCell (newCell _ _ _ rfl) _) _, oldCell (newCell _ _ _ (by simp)) _, newCell _ _ _ (by simp)⟩
end Go.Proofs.YtpkoikennimonaaGreatDoor
end

section
namespace Go.Proofs.YtpkoikennimonaaGreatDoor
open Go.RowKit Go.Hay
set_option linter.unusedVariables false
set_option linter.unusedSimpArgs false

/-- The things that have come, and how the iterator stands. -/
def Run (most : Int) (full : List UInt8) (s : St) (L : List (List UInt8)) : Prop :=
  (s = ⟨0, 0, full, 0, false, none⟩ ∧ L = []) ∨
  (s.go = true ∧ L.length = s.k ∧ ∃ N bs1 e1, countS most full 0 = (N, bs1, e1) ∧
    match s.pend with
    | none => L.length + s.bs.length ≤ full.length ∧ lstS N.toNat bs1 e1 = (L ++ (lstS s.m s.bs s.e).1, (lstS s.m s.bs s.e).2)
    | some x => if s.e = 0 then L.length + 1 + s.bs.length ≤ full.length ∧ lstS N.toNat bs1 e1 = (L ++ x.2 :: (lstS (s.m - 1) s.bs 0).1, (lstS (s.m - 1) s.bs 0).2) else lstS N.toNat bs1 e1 = (L, s.bs, s.e))
theorem countS_le {most : Int} {bs bs' : List UInt8} {N e' : Int} (h : countS most bs 0 = (N, bs', e')) : bs'.length ≤ bs.length := by
  unfold countS at h
  split at h
  · exact (varS_cases most bs (by assumption) h).2.2.1
  · simp only [Prod.mk.injEq] at h
    rw [← h.2.1]
    exact Nat.le_refl _
theorem run_turn {most : Int} {full : List UInt8} {s s' : St} {L : List (List UInt8)} {p : Nat} {D : List Nat} {A B : World} (h : Run most full s L) (ht : Turn p D most s s' A B) : Run most full s' L := by
  obtain ⟨_, _, ⟨hg, n, hc, hn, hs'⟩ | ⟨hg, hp, he, hm, v, out, htx, hs', _⟩⟩ := ht
  · rcases h with ⟨rfl, rfl⟩ | ⟨hg', _⟩
    · have hle := countS_le hc
      rw [hs']
      refine .inr ⟨rfl, rfl, n, s'.bs, s'.e, hc, ?_⟩
      exact ⟨by simpa using hle, by simp⟩
    · rw [hg] at hg'; cases hg'
  · rcases h with ⟨rfl, rfl⟩ | ⟨_, hk, N, bs1, e1, hc, hm2⟩
    · cases hg
    · rw [hp, he] at hm2
      obtain ⟨hlen, hl⟩ := hm2
      rw [hs']
      refine .inr ⟨rfl, hk, N, bs1, e1, hc, ?_⟩
      show (if s'.e = 0 then L.length + 1 + s'.bs.length ≤ full.length ∧ _ else _)
      obtain ⟨m', hm'⟩ : ∃ m', s.m = m' + 1 := ⟨s.m - 1, by omega⟩
      by_cases he' : s'.e = 0
      · rw [if_pos he']
        rw [he'] at htx
        have hsh := textS_shorter htx
        refine ⟨by omega, ?_⟩
        rw [hl, hm', lstS_good _ _ _ _ htx]
        simp
      · rw [if_neg he', hl, hm', lstS_bad _ _ _ _ _ he' htx]
        simp
theorem run_next {most : Int} {full : List UInt8} {s : St} {L : List (List UInt8)} {x : Nat × Value × List UInt8} (h : Run most full s L) (he : s.e = 0) (hp : s.pend = some (x.2.1, x.2.2)) : Run most full (s.nx x) (L ++ [x.2.2]) ∧ L.length + 1 ≤ full.length := by
  rcases h with ⟨rfl, rfl⟩ | ⟨hg, hk, N, bs1, e1, hc, hm⟩
  · cases hp
  · rw [hp] at hm
    simp only at hm
    rw [if_pos he] at hm
    refine ⟨.inr ⟨hg, by simp [St.nx, hk], N, bs1, e1, hc, ?_⟩, by omega⟩
    show (L ++ [x.2.2]).length + s.bs.length ≤ full.length ∧ _
    refine ⟨by simp; omega, ?_⟩
    rw [hm.2]
    simp [St.nx, he]
theorem run_done {most : Int} {full : List UInt8} {s : St} {L : List (List UInt8)} (h : Run most full s L) (hg : s.go = true) (hS : (s.m = 0 ∧ s.pend = none) ∨ s.e ≠ 0) : ∃ N bs1 e1, countS most full 0 = (N, bs1, e1) ∧ lstS N.toNat bs1 e1 = (L, s.bs, s.e) := by
  rcases h with ⟨rfl, rfl⟩ | ⟨_, hk, N, bs1, e1, hc, hm⟩
  · cases hg
  · refine ⟨N, bs1, e1, hc, ?_⟩
    rcases hS with ⟨h0, hp⟩ | he
    · rw [hp] at hm
      rw [hm.2, h0, lstS]
      simp
    · cases hp : s.pend with
      | none =>
        rw [hp] at hm
        rw [hm.2, lstS_err _ _ _ he]
        simp
      | some x =>
        rw [hp] at hm
        simp only at hm
        rw [if_neg he] at hm
        exact hm
/-- An append of one slice, as it runs. -/
theorem runAppendL {n0 : Nat} {w : World} {v : Value} {L : List (List UInt8)} (h : RowL n0 w v L) {xv : Value} {bs : List UInt8} (hr : Row w xv bs) (hd : ∀ k ∈ own xv, n0 ≤ k ∧ k ∉ own v) (hn0 : n0 ≤ w.heap.size) {q : Nat} (hq : w.heap.size = q) (hb : L.length + 1 ≤ 5000000000000) (ty : TypeId) :
    ∃ v' w', (Builtin.append_ #[30, 30] ty #[v, .slice (some ⟨q, 0, none⟩) 1 1]).run Tryz.prog (w.alloc (.cells #[xv] 45)) = .ok v' w' ∧ RowL n0 w' v' (L ++ [bs]) ∧ Kp (own v) w w' ∧ ∀ k ∈ own v', k ∈ own v ∨ w.heap.size ≤ k := by
  subst hq
  obtain ⟨i, hi, hz, hz1, hz2⟩ := infoSl
  obtain ⟨vs, hvl, hs, hfr, hel⟩ := h
  have hkA : Kp (own v) w (w.alloc (.cells #[xv] 45)) := (Kp.refl _ _).alloc _
  have hsA := hs.kept (S := []) ((Kp.refl _ _).alloc (.cells #[xv] 45)) (by simp)
  have hsrc : Src Tryz.prog 1 30 (.slice (some ⟨w.heap.size, 0, none⟩) 1 1) [xv].length [xv] (w.alloc (.cells #[xv] 45)) := by
    refine Src.ofSlice _ Tryz.underlying30 ⟨w.heap.size, 0, none⟩ 1 1 [xv] rfl ?_ (by intro u hu; simp at hu; subst hu; exact rowOne hr)
    intro j u hu
    match j, hu with
    | 0, hu => cases hu; rw [Addr.add_lit]; exact World.cell?_alloc_new w _ _ 0
    | j + 1, hu => simp at hu
  obtain ⟨v', w', hrun, h1, h2, h3⟩ := run_appendS (P := Tryz.prog) _ 30 30 ty i Tryz.underlying30 hi hz hz1 hz2 v vs hsA _ [xv] hsrc (by simp; omega)
  have hkk : Kp (own v) w w' := hkA.trans h2 (fun x hx => .inl hx)
  have hnew : ∀ k ∈ own v', k ∈ own v ∨ w.heap.size ≤ k := by
    intro k hk
    rcases h3 k hk with h | h
    · exact .inl h
    · right; simp at h; omega
  refine ⟨v', w', hrun, ⟨vs ++ [xv], by simp [hvl], h1, fun k hk => (by rcases hnew k hk with h | h; exact hfr k h; omega), ?_⟩, hkk, hnew⟩
  intro j y ob hy hob
  have key : Row w y ob ∧ ∀ k ∈ own y, n0 ≤ k ∧ k ∉ own v := by
    by_cases hj : j < vs.length
    · rw [List.getElem?_append_left hj] at hy
      rw [List.getElem?_append_left (by omega)] at hob
      exact hel j y ob hy hob
    · rw [List.getElem?_append_right (by omega)] at hy
      rw [List.getElem?_append_right (by omega)] at hob
      have : j - vs.length = 0 := by have := (List.getElem?_eq_some_iff.1 hy).1; simp at this; omega
      rw [this] at hy
      rw [← hvl, this] at hob
      cases hy
      cases hob
      exact ⟨hr, hd⟩
  refine ⟨key.1.kept hkk (fun k hk => (key.2 k hk).2), fun k hk => ⟨(key.2 k hk).1, fun hm => ?_⟩⟩
  rcases hnew k hm with h | h
  · exact (key.2 k hk).2 h
  · have := key.1.lt k hk; omega
/-- .. for the fenced walk. -/
theorem wpAppendLIn {F : Fence} {n : Nat} {n0 : Nat} {w : World} {ops : Array Oper} {rest : List Oper} {o : Oper} {a : Act} {Q : Exit → Act → World → Prop} (hgd : o.guard = none) (s x : Operand)
    (ho : o.op = .call { callee := .builtin .append, args := #[s, x], argTypes := #[30, 30] })
    (v : Value) (L : List (List UInt8)) (hv : a.eval s = v) (h : RowL n0 w v L) (xv : Value) (bs : List UInt8) (hr : Row w xv bs) (hd : ∀ k ∈ own xv, n0 ≤ k ∧ k ∉ own v) (hn0 : n0 ≤ w.heap.size)
    {q : Nat} (hq : w.heap.size = q) (hx : a.eval x = .slice (some ⟨q, 0, none⟩) 1 1) (hb : L.length + 1 ≤ 5000000000000)
    (hK : ∀ v' w', RowL n0 w' v' (L ++ [bs]) → Kp (own v) w w' → (∀ k ∈ own v', k ∈ own v ∨ w.heap.size ≤ k) → wpListIn F n Tryz.prog ops Q rest (a.put o.dst v') w') : wpListIn F n Tryz.prog ops Q (o :: rest) a (w.alloc (.cells #[xv] 45)) := by
  refine wpListIn_plain hgd fun K hK' => ?_
  obtain ⟨v', w', hrun, r1, r2, r3⟩ := runAppendL h hr hd hn0 hq hb o.type
  unfold Oper.wpIn
  refine ⟨?_, ?_⟩
  · simp [Oper.about, ho, resolve, Target.leads, Sem.run_pure]
  · rw [Oper.semAt_plain F _ _ (by rw [ho]; intro c hc'; cases hc')]
    simp [execOp, ho, resolve, invoke, builtin, hv, hx, hrun, Result.andThen]
    exact hK' _ _ (hK v' w' r1 r2 r3)
end Go.Proofs.YtpkoikennimonaaGreatDoor
end

section
namespace Go.Hay
set_option linter.unusedVariables false

/-- One step of the register. -/
def bit1 (r : Nat) : Nat := if r % 2 = 1 then r / 2 ^^^ 3988292384 else r / 2
def bitN : Nat → Nat → Nat
  | 0, r => r
  | k + 1, r => bit1 (bitN k r)
def crcTab : List Nat := [0, 498536548, 997073096, 651767980, 1994146192, 1802195444, 1303535960, 1342533948, 3988292384, 4027552580, 3604390888, 3412177804, 2607071920, 2262029012, 2685067896, 3183342108]
def nib (r : Nat) : Nat := r / 16 ^^^ crcTab.getD (r % 16) 0
/-- The register behind a byte. -/
def crcStep (r : Nat) (x : UInt8) : Nat := bitN 8 (r ^^^ x.toNat)
def crcR (r : Nat) (bs : List UInt8) : Nat := bs.foldl crcStep r
/-- The checksum. -/
def crc (bs : List UInt8) : Nat := crcR 4294967295 bs ^^^ 4294967295

theorem xor_mod2 (a b : Nat) : (a ^^^ b) % 2 = (a % 2) ^^^ (b % 2) := by simpa using Nat.xor_mod_two_pow (a := a) (b := b) (n := 1)
theorem xor_left (a b c : Nat) (h : a ^^^ b = a ^^^ c) : b = c := by
  have := congrArg (a ^^^ ·) h
  simp only [← Nat.xor_assoc, Nat.xor_self, Nat.zero_xor] at this
  exact this
theorem xor_ne (a b : Nat) (h : b ≠ 0) : a ^^^ b ≠ a := fun e => h (xor_left a b 0 (by rw [e, Nat.xor_zero]))

theorem bit1_eq (r : Nat) : bit1 r = r / 2 ^^^ (if r % 2 = 1 then 3988292384 else 0) := by unfold bit1; split <;> simp
theorem bit1_xor (a b : Nat) : bit1 (a ^^^ b) = bit1 a ^^^ bit1 b := by
  rw [bit1_eq, bit1_eq, bit1_eq, Nat.xor_div_two, xor_mod2]
  have key : ∀ A B C D E : Nat, E = C ^^^ D → (A ^^^ B) ^^^ E = (A ^^^ C) ^^^ (B ^^^ D) := by
    intro A B C D E h
    rw [h, Nat.xor_assoc, Nat.xor_assoc, ← Nat.xor_assoc B, ← Nat.xor_assoc C, Nat.xor_comm B C]
  apply key
  rcases Nat.mod_two_eq_zero_or_one a with h1 | h1 <;> rcases Nat.mod_two_eq_zero_or_one b with h2 | h2 <;> simp [h1, h2]
theorem bit1_lt (r : Nat) (h : r < 4294967296) : bit1 r < 4294967296 := by
  unfold bit1
  split
  · exact Nat.xor_lt_two_pow (n := 32) (by omega) (by omega)
  · omega
theorem bit1_two (a : Nat) : bit1 (2 * a) = a := by unfold bit1; rw [if_neg (by omega)]; omega
theorem bit1_ne (r : Nat) (h : r < 4294967296) (h0 : r ≠ 0) : bit1 r ≠ 0 := by
  unfold bit1
  split
  · intro e
    have := xor_left (r / 2) 3988292384 (r / 2) (by rw [e, Nat.xor_self])
    omega
  · omega
theorem bitN_xor (k a b : Nat) : bitN k (a ^^^ b) = bitN k a ^^^ bitN k b := by
  induction k with
  | zero => rfl
  | succ k ih => simp only [bitN]; rw [ih, bit1_xor]
theorem bitN_lt (k r : Nat) (h : r < 4294967296) : bitN k r < 4294967296 := by
  induction k with
  | zero => exact h
  | succ k ih => exact bit1_lt _ ih
theorem bitN_ne (k r : Nat) (h : r < 4294967296) (h0 : r ≠ 0) : bitN k r ≠ 0 := by
  induction k with
  | zero => exact h0
  | succ k ih => exact bit1_ne _ (bitN_lt k r h) ih
theorem bitN_add (j k r : Nat) : bitN (j + k) r = bitN j (bitN k r) := by
  induction j with
  | zero => rw [Nat.zero_add]; rfl
  | succ j ih => rw [Nat.succ_add]; simp only [bitN]; rw [ih]
theorem split16 (r : Nat) : r = (16 * (r / 16)) ^^^ (r % 16) := by
  have h1 := Nat.xor_div_two_pow (a := 16 * (r / 16)) (b := r % 16) (n := 4)
  have h2 := Nat.xor_mod_two_pow (a := 16 * (r / 16)) (b := r % 16) (n := 4)
  simp only [show (2 : Nat) ^ 4 = 16 from rfl] at h1 h2
  rw [show 16 * (r / 16) / 16 = r / 16 by omega, show r % 16 / 16 = 0 by omega, Nat.xor_zero] at h1
  rw [show 16 * (r / 16) % 16 = 0 by omega, show r % 16 % 16 = r % 16 by omega, Nat.zero_xor] at h2
  omega
theorem tab_bitN : ∀ d, d < 16 → bitN 4 d = crcTab.getD d 0 := by decide +kernel
theorem nib_eq (r : Nat) : nib r = bitN 4 r := by
  conv => rhs; rw [split16 r]
  rw [bitN_xor, tab_bitN (r % 16) (by omega)]
  show r / 16 ^^^ _ = bit1 (bit1 (bit1 (bit1 (16 * (r / 16))))) ^^^ _
  rw [show 16 * (r / 16) = 2 * (2 * (2 * (2 * (r / 16)))) by omega, bit1_two, bit1_two, bit1_two, bit1_two]
theorem step_nib (r : Nat) (x : UInt8) : nib (nib (r ^^^ x.toNat)) = crcStep r x := by
  rw [nib_eq, nib_eq]
  exact (bitN_add 4 4 _).symm
theorem xor_lt32 (a b : Nat) (ha : a < 4294967296) (hb : b < 4294967296) : a ^^^ b < 4294967296 := Nat.xor_lt_two_pow (n := 32) (by omega) (by omega)
theorem crcStep_lt (r : Nat) (x : UInt8) (h : r < 4294967296) : crcStep r x < 4294967296 := bitN_lt 8 _ (xor_lt32 _ _ h (by have := x.toNat_lt; omega))
theorem crcR_lt (bs : List UInt8) (r : Nat) (h : r < 4294967296) : crcR r bs < 4294967296 := by
  induction bs generalizing r with
  | nil => exact h
  | cons x l ih => exact ih _ (crcStep_lt r x h)
theorem crc_lt (bs : List UInt8) : crc bs < 4294967296 := xor_lt32 _ _ (crcR_lt bs _ (by omega)) (by omega)
theorem crcR_snoc (bs : List UInt8) (x : UInt8) (r : Nat) : crcR r (bs ++ [x]) = crcStep (crcR r bs) x := by simp [crcR]
theorem crcR_append (a b : List UInt8) (r : Nat) : crcR r (a ++ b) = crcR (crcR r a) b := by simp [crcR]

/-- What a difference of the register becomes. -/
theorem crcR_diff (bs : List UInt8) (r d : Nat) (hd : d < 4294967296) (h0 : d ≠ 0) : ∃ d', d' ≠ 0 ∧ d' < 4294967296 ∧ crcR (r ^^^ d) bs = crcR r bs ^^^ d' := by
  induction bs generalizing r d with
  | nil => exact ⟨d, h0, hd, rfl⟩
  | cons x l ih =>
    have e : crcStep (r ^^^ d) x = crcStep r x ^^^ bitN 8 d := by
      unfold crcStep
      rw [Nat.xor_assoc, Nat.xor_comm d, ← Nat.xor_assoc, bitN_xor]
    obtain ⟨d', h1, h2, h3⟩ := ih (crcStep r x) (bitN 8 d) (bitN_lt 8 d hd) (bitN_ne 8 d hd h0)
    exact ⟨d', h1, h2, by show crcR (crcStep (r ^^^ d) x) l = _; rw [e, h3]; rfl⟩
/-- A byte that differs is found. -/
theorem crc_byte (a b : List UInt8) (x y : UInt8) (h : x ≠ y) : crc (a ++ x :: b) ≠ crc (a ++ y :: b) := by
  unfold crc
  rw [crcR_append, crcR_append]
  generalize crcR 4294967295 a = r
  have hx := x.toNat_lt
  have hy := y.toNat_lt
  have hne : x.toNat ^^^ y.toNat ≠ 0 := fun e => by
    have := xor_left x.toNat y.toNat x.toNat (by rw [e, Nat.xor_self])
    exact h (UInt8.toNat_inj.1 this.symm)
  have hlt : x.toNat ^^^ y.toNat < 4294967296 := xor_lt32 _ _ (by omega) (by omega)
  have e : crcStep r y = crcStep r x ^^^ bitN 8 (x.toNat ^^^ y.toNat) := by
    unfold crcStep
    rw [← bitN_xor]
    congr 1
    rw [Nat.xor_assoc, ← Nat.xor_assoc x.toNat x.toNat, Nat.xor_self, Nat.zero_xor]
  obtain ⟨d', h1, h2, h3⟩ := crcR_diff b (crcStep r x) _ (bitN_lt 8 _ hlt) (bitN_ne 8 _ hlt hne)
  show crcR (crcStep r x) b ^^^ 4294967295 ≠ crcR (crcStep r y) b ^^^ 4294967295
  rw [e, h3]
  intro e2
  rw [Nat.xor_comm _ 4294967295, Nat.xor_comm _ 4294967295] at e2
  exact xor_ne _ d' h1 (xor_left _ _ _ e2).symm
end Go.Hay
end

section
namespace Go.Proofs.YtpkoikennimonaaGreatDoor
open Go.RowKit Go.Hay
set_option linter.unusedVariables false

/-- The table of half bytes lies in block 0. -/
def Tab (w : World) : Prop := 0 < w.heap.size ∧ ∀ d, d < 16 → w.cell? ⟨0, d, none⟩ = some (.int .u32 (crcTab.getD d 0))
theorem Tab.kept {w w' : World} {S : List Nat} (h : Tab w) (hk : Kp S w w') (h0 : 0 ∉ S) : Tab w' :=
  ⟨Nat.lt_of_lt_of_le h.1 hk.size, fun d hd => (hk.cell (p := ⟨0, d, none⟩) h.1 h0).trans (h.2 d hd)⟩
theorem crcTab_lt (d : Nat) : crcTab.getD d 0 < 4294967296 := by
  by_cases h : d < 16
  · have : ∀ d, d < 16 → crcTab.getD d 0 < 4294967296 := by decide +kernel
    exact this d h
  · have h2 : crcTab[d]? = none := List.getElem?_eq_none (by have : crcTab.length = 16 := rfl; omega)
    simp [List.getD, h2]

theorem xorEnd (xs : List UInt8) : bits BinOp.xor IntKind.u32 ((crcR 4294967295 xs : Nat) : Int) 4294967295 = ((crc xs : Nat) : Int) :=
  u32_xor_nat (crcR 4294967295 xs) 4294967295 (crcR_lt xs _ (by omega)) (by omega)
theorem notEnd (xs : List UInt8) : bits BinOp.xor IntKind.u32 IntKind.u32.max ((crcR 4294967295 xs : Nat) : Int) = ((crc xs : Nat) : Int) := by
  have h := u32_xor_nat 4294967295 (crcR 4294967295 xs) (by omega) (crcR_lt xs _ (by omega))
  rw [Nat.xor_comm] at h
  exact h
theorem crcR_take (xs : List UInt8) (k : Nat) (h : k < xs.length) : crcR 4294967295 (xs.take (k + 1)) = crcStep (crcR 4294967295 (xs.take k)) xs[k] := by
  rw [List.take_succ_eq_append_getElem h, crcR_snoc]

set_option maxHeartbeats 1000000 in
set_option maxRecDepth 100000 in
theorem cSum (a : Option Addr) (n c : Nat) (xs : List UInt8) (w : World) (ht : Tab w) (hs : Sees w a xs) (hn : n = xs.length) (hb : xs.length ≤ 200000000000000) :
    Calls Tryz.prog 80 #[.slice a n c] w fun e w' => e = .returned (.int .u32 (crc xs)) ∧ w' = w := by
  subst hn
  go_enter Tryz.func80, Tryz.ntmps80
  go_wp2_with fail
  go_loop [3, 5, 8] (fun s _ i => ∃ k : Nat, k ≤ xs.length ∧ i = .int .i64 k ∧ s = .int .u32 (crcR 4294967295 (xs.take k))) (fun _ _ i => xs.length - (intOf i).toNat)
  case atStart => exact ⟨0, Nat.zero_le _, rfl, rfl⟩
  case round =>
    obtain ⟨k, hk, rfl, rfl⟩ := hrel
    have hr := crcR_lt (xs.take k) 4294967295 (by omega)
    by_cases hlt : k < xs.length
    · rcases hs with rfl | ⟨g, o, rfl, hc⟩
      · simp at hlt
      have hck := hc k xs[k] (by simp)
      have H := hid (crcR_take xs k hlt)
      have hx : xs[k].toNat < 256 := xs[k].toNat_lt
      clear hc
      generalize crcR 4294967295 (xs.take k) = r at *
      have H1 : Hid (nib (nib (r ^^^ xs[k].toNat)) = crcR 4294967295 (xs.take (k + 1))) := (step_nib r xs[k]).trans H.out.symm
      clear H
      generalize xs[k] = x at *
      have e1 : bits BinOp.xor IntKind.u32 (r : Int) (x.toNat : Int) = ((r ^^^ x.toNat : Nat) : Int) := u32_xor_nat _ _ hr (by omega)
      have b1 := xor_lt32 r x.toNat hr (by omega)
      generalize r ^^^ x.toNat = r1 at *
      have half : ∀ m : Nat, m < 4294967296 → ∃ d t q : Nat, bits BinOp.and IntKind.u32 (m : Int) 15 = (d : Int) ∧ d < 16 ∧ w.cell? ⟨0, d, none⟩ = some (.int .u32 t) ∧ bits BinOp.xor IntKind.u32 ((m : Int) / 16) (t : Int) = (q : Int) ∧ q < 4294967296 ∧ Hid (q = nib m) := by
        intro m hm
        have ht16 := crcTab_lt (m % 16)
        refine ⟨m % 16, crcTab.getD (m % 16) 0, nib m, ?_, by omega, ht.2 _ (by omega), ?_, ?_, rfl⟩
        · have h1 := u32_and_nat m 15 hm (by omega)
          rw [show m &&& 15 = m % 16 from Nat.and_two_pow_sub_one_eq_mod m 4] at h1
          exact h1
        · have h1 := u32_xor_nat (m / 16) (crcTab.getD (m % 16) 0) (by omega) ht16
          rw [Int.natCast_ediv] at h1
          exact h1
        · exact xor_lt32 _ _ (by omega) ht16
      obtain ⟨d1, t1, r2, f1, f2, f3, f4, f5, f6⟩ := half r1 b1
      obtain ⟨d2, t2, r3, g1, g2, g3, g4, g5, g6⟩ := half r2 f5
      have H2 : Hid (r3 = crcR 4294967295 (xs.take (k + 1))) := by show _ = _; rw [g6.out, f6.out]; exact H1.out
      clear half H1 f6 g6 ht
      go_wp2
      exact ⟨⟨k + 1, by omega, by go_num, by rw [H2.out]⟩, by simp [intOf]; omega⟩
    · have H : Hid (xs.take k = xs) := List.take_of_length_le (by omega)
      go_wp2
      go_ret
      exact ⟨ret_int (by rw [H.out]; exact notEnd xs), rfl⟩

set_option maxHeartbeats 1000000 in
set_option maxRecDepth 100000 in
theorem cRefSum (a : Option Addr) (n c : Nat) (xs : List UInt8) (w : World) (hs : Sees w a xs) (hn : n = xs.length) (hb : xs.length ≤ 200000000000000) :
    Calls Tryz.prog 88 #[.slice a n c] w fun e w' => e = .returned (.int .u32 (crc xs)) ∧ w' = w := by
  subst hn
  go_enter Tryz.func88, Tryz.ntmps88
  go_wp2_with fail
  go_loop [3, 4, 5] (fun s i _ => ∃ k : Nat, k ≤ xs.length ∧ i = .int .i64 k ∧ s = .int .u32 (crcR 4294967295 (xs.take k))) (fun _ i _ => xs.length - (intOf i).toNat)
  case atStart => exact ⟨0, Nat.zero_le _, rfl, rfl⟩
  case round =>
    obtain ⟨k, hk, rfl, rfl⟩ := hrel
    have hr := crcR_lt (xs.take k) 4294967295 (by omega)
    by_cases hlt : k < xs.length
    · rcases hs with rfl | ⟨g, o, rfl, hc⟩
      · simp at hlt
      have hck := hc k xs[k] (by simp)
      have H := hid (crcR_take xs k hlt)
      have hx : xs[k].toNat < 256 := xs[k].toNat_lt
      clear hc
      generalize crcR 4294967295 (xs.take k) = r at *
      generalize xs[k] = x at *
      have e1 : bits BinOp.xor IntKind.u32 (r : Int) (x.toNat : Int) = ((r ^^^ x.toNat : Nat) : Int) := u32_xor_nat _ _ hr (by omega)
      have b1 := xor_lt32 r x.toNat hr (by omega)
      have H1 : Hid (bitN 8 (r ^^^ x.toNat) = crcR 4294967295 (xs.take (k + 1))) := H.out.symm
      clear H
      generalize r ^^^ x.toNat = r1 at *
      go_wp2
      go_loop [3, 5] (fun s j => ∃ m : Nat, m ≤ 8 ∧ j = .int .i64 m ∧ s = .int .u32 (bitN m r1)) (fun _ j => 8 - (intOf j).toNat)
      case atStart => exact ⟨0, Nat.zero_le _, rfl, rfl⟩
      case round =>
        obtain ⟨m, hm, rfl, rfl⟩ := hrel
        have hbn := bitN_lt m r1 b1
        by_cases hm8 : m < 8
        · have e2 : bits BinOp.xor IntKind.u32 ((bitN m r1 : Nat) / 2 : Int) 3988292384 = ((bitN m r1 / 2 ^^^ 3988292384 : Nat) : Int) := by
            have := u32_xor_nat (bitN m r1 / 2) 3988292384 (by omega) (by omega)
            rw [Int.natCast_ediv] at this
            exact this
          have HB : Hid (bitN (m + 1) r1 = if bitN m r1 % 2 = 1 then bitN m r1 / 2 ^^^ 3988292384 else bitN m r1 / 2) := rfl
          generalize bitN m r1 = q at *
          by_cases hq : q % 2 = 1
          · have HB2 := hid (HB.out.trans (if_pos hq))
            clear HB
            go_wp2
            exact ⟨⟨m + 1, by omega, by go_num, by rw [HB2.out]⟩, by simp [intOf]; omega⟩
          · have HB2 := hid (HB.out.trans (if_neg hq))
            clear HB
            go_wp2
            exact ⟨⟨m + 1, by omega, by go_num, by rw [HB2.out, Int.natCast_ediv]; rfl⟩, by simp [intOf]; omega⟩
        · have HM : Hid (bitN m r1 = bitN 8 r1) := by show _ = _; rw [show m = 8 by omega]
          go_wp2
          exact ⟨⟨k + 1, by omega, by go_num, by rw [HM.out, H1.out]⟩, by simp [intOf]; omega⟩
    · have H : Hid (xs.take k = xs) := List.take_of_length_le (by omega)
      go_wp2
      go_ret
      exact ⟨ret_int (by rw [H.out]; exact xorEnd xs), rfl⟩
end Go.Proofs.YtpkoikennimonaaGreatDoor
end

section
namespace Go.Proofs.YtpkoikennimonaaGreatDoor
open Go.RowKit Go.Hay
set_option linter.unusedVariables false

set_option maxHeartbeats 400000 in
theorem wWord (p : Nat) (v : Value) (bs : List UInt8) (n : Int) (w : World) (h : Wr w p v bs) (hb : bs.length + 8 ≤ 200000000000000) (h0 : 0 ≤ n) (h1 : n < 4294967296) :
    Calls Tryz.prog 79 #[.pointer (some ⟨p, 0, none⟩), .int .u32 n] w fun e w' => e = .returned (.tuple #[]) ∧ ∃ v', Wr w' p v' (bs ++ be n.toNat 4) ∧ Wrote p v w v' w' := by
  go_enter Tryz.func79, Tryz.ntmps79
  go_wp2_with fail
  refine (wNumber p v bs n 4 _ h (by omega) h0 (by omega) (by omega)).mono ?_
  rintro e w2 ⟨rfl, v2, hw2, hwr2⟩
  go_wp2_with fail
  go_end0
  exact ⟨rfl, v2, hw2, hwr2⟩

end Go.Proofs.YtpkoikennimonaaGreatDoor
end

section
namespace Go.Proofs.YtpkoikennimonaaGreatDoor
open Go.RowKit Go.Hay
set_option linter.unusedVariables false

/-- A frame. -/
def frameB (bs : List UInt8) : List UInt8 := be bs.length 4 ++ be (crc (be bs.length 4)) 4 ++ bs ++ be (crc bs) 4
theorem frameB_length (bs : List UInt8) : (frameB bs).length = bs.length + 12 := by simp only [frameB, List.length_append, be_length]; omega

theorem Row.ofOwns {w : World} {g cap : Nat} (h : w.ownsRow 0 5 1 (.slice (some ⟨g, 0, none⟩) 0 cap) 0 []) : Row w (.slice (some ⟨g, 0, none⟩) 0 cap) [] := by
  rcases h.2 with ⟨h, _⟩ | ⟨g', cap', cur, hv, _, hh, _, hm, hsz, _⟩
  · cases h
  · cases hv
    refine .inr ⟨g, 0, cap, rfl, Nat.zero_le _, hm, (Array.getElem?_eq_some_iff.1 hh).1, by simp, fun j hj => ⟨?_, ?_⟩⟩
    · have : w.cell? ⟨g, 0 + j, none⟩ = cur[0 + j]? := by unfold World.cell?; rw [hh]; rfl
      rw [this, Nat.zero_add, Array.getElem?_eq_getElem (by omega)]
      rfl
    · simp [World.frozen?, hh]

set_option maxHeartbeats 400000 in
theorem cWord (a : Option Addr) (n c : Nat) (bs : List UInt8) (w : World) (hs : Sees w a bs) (hn : n = bs.length) (hl : bs.length ≤ c) (hm : c ≤ maxLen) (h4 : 4 ≤ bs.length) :
    Calls Tryz.prog 83 #[.slice a n c] w fun e w' => e = .returned (.int .u32 (num (bs.take 4))) ∧ w' = w := by
  subst hn
  unfold maxLen at hm
  have hlen : (bs.take 4).length = 4 := by simp; omega
  have hnum := num_lt_of (bs.take 4) 4 (by omega)
  have h4' : (4 : Int) ≤ (c : Int) := by omega
  go_enter Tryz.func83, Tryz.ntmps83
  go_wp2_with fail
  refine (cNumber a 4 c (bs.take 4) _ (hs.front 4) hlen.symm (by omega)).mono ?_
  rintro e w1 ⟨rfl, rfl⟩
  go_wp2_with fail
  go_ret
  exact ⟨rfl, rfl⟩

set_option maxHeartbeats 1000000 in
set_option maxRecDepth 100000 in
theorem cFrameLong (a : Option Addr) (n c : Nat) (bs : List UInt8) (w : World) (hn : n = bs.length) (h : 16777216 < bs.length) :
    Calls Tryz.prog 51 #[.slice a n c] w fun e w' => e = .returned (.tuple #[.slice none 0 0, .int .i64 12]) ∧ w' = w := by
  subst hn
  go_enter Tryz.func51, Tryz.ntmps51
  go_wp2_with fail
  go_ret2
  exact ⟨rfl, rfl⟩

set_option maxHeartbeats 1000000 in
set_option maxRecDepth 100000 in
theorem cFrame (a : Option Addr) (n c : Nat) (bs : List UInt8) (w : World) (ht : Tab w) (hs : Sees w a bs) (hn : n = bs.length) (h : bs.length ≤ 16777216) :
    Calls Tryz.prog 51 #[.slice a n c] w fun e w' => ∃ v, e = .returned (.tuple #[v, .int .i64 0]) ∧ Row w' v (frameB bs) ∧ Kp [] w w' ∧ ∀ k ∈ own v, w.heap.size ≤ k := by
  subst hn
  obtain ⟨i0, hi, hz0, hz1, hz2⟩ := info_parts Tryz.infoB
  go_enter Tryz.func51, Tryz.ntmps51
  go_wp2_with (at_make; refine wpList_make_own _ rfl _ _ 45 rfl 0 5 i0 (.int .u8 0) 1 Tryz.underlying45 hi hz0 hz1 .i64 .i64 _ (8 + bs.length + 4) rfl rfl (by omega) (by rw [hz2]; omega) (by unfold maxLen; omega) (Nat.zero_le _) ?_)
  intro w1 hown hg
  have hrow := Row.ofOwns hown
  have k1 : Kp [] w w1 := (Kp.refl [] w).grown hg (by simp)
  have hgl := hrow.lt w.heap.size (by simp [own, Value.ownBlock])
  clear hown hg hi hz0 hz1 hz2 i0
  have k2 : Kp [] w1 (w1.alloc (.cells #[.slice (some ⟨w.heap.size, 0, none⟩) 0 (8 + bs.length + 4)] 127)) := (Kp.refl _ _).alloc _
  have hw2 : Wr (w1.alloc (.cells #[.slice (some ⟨w.heap.size, 0, none⟩) 0 (8 + bs.length + 4)] 127)) w1.heap.size (.slice (some ⟨w.heap.size, 0, none⟩) 0 (8 + bs.length + 4)) [] :=
    ⟨by simp, by simp, hrow.kept k2 (by simp), by simp [own, Value.ownBlock]; omega⟩
  have k3 := k1.trans k2 (by simp)
  have hpge : w.heap.size ≤ w1.heap.size := k1.size
  have ho2 : ∀ k ∈ own (.slice (some ⟨w.heap.size, 0, none⟩) 0 (8 + bs.length + 4)), w.heap.size ≤ k := by simp [own, Value.ownBlock]
  clear hrow k1 k2
  go_wp2_with fail
  generalize w1.heap.size = p at *
  refine (wWord p _ [] bs.length _ hw2 (by simp) (by omega) (by omega)).mono ?_
  rintro e w2 ⟨rfl, v2, hw2, hr2⟩
  obtain ⟨k4, o2⟩ := stepW k3 hpge ho2 hr2
  have ht2 := ht.kept k4 (by simp)
  have hc2 := hw2.cell
  obtain ⟨a2, c2, rfl, hs2, _⟩ := hw2.row.sees
  rw [List.nil_append, Int.toNat_natCast] at hw2 hs2 hc2 o2
  rw [be_length] at hw2 hc2 o2
  clear hr2 k3 ho2 hgl
  go_wp2_with fail
  refine (cSum a2 _ c2 (be bs.length 4) _ ht2 hs2 (by rw [be_length]) (by rw [be_length]; omega)).mono ?_
  rintro e w3 ⟨rfl, rfl⟩
  have hcr := crc_lt (be bs.length 4)
  go_wp2_with fail
  refine (wWord p _ _ _ _ hw2 (by rw [be_length]; omega) (by omega) (by omega)).mono ?_
  rintro e w4 ⟨rfl, v4, hw4, hr4⟩
  obtain ⟨k5, o4⟩ := stepW k4 hpge o2 hr4
  rw [Int.toNat_natCast] at hw4
  clear hr4 hw2 hs2 hc2 k4 o2 ht2
  go_wp2_with fail
  refine (wRaw p v4 _ a _ c bs _ hw4 (hs.kept k5 (by simp)) rfl (by simp [be_length]; omega)).mono ?_
  rintro e w5 ⟨rfl, v5, hw5, hr5⟩
  obtain ⟨k6, o5⟩ := stepW k5 hpge o4 hr5
  clear hr5 hw4 k5 o4
  go_wp2_with fail
  refine (cSum a _ c bs _ (ht.kept k6 (by simp)) (hs.kept k6 (by simp)) rfl (by omega)).mono ?_
  rintro e w6 ⟨rfl, rfl⟩
  have hcr2 := crc_lt bs
  go_wp2_with fail
  refine (wWord p _ _ _ _ hw5 (by simp [be_length]; omega) (by omega) (by omega)).mono ?_
  rintro e w7 ⟨rfl, v7, hw7, hr7⟩
  obtain ⟨k7, o7⟩ := stepW k6 hpge o5 hr7
  rw [Int.toNat_natCast] at hw7
  have hc7 := hw7.cell
  have hrow := hw7.row
  clear hr7 hw5 k6 o5 hw7
  go_wp2_with fail
  go_ret2
  exact ⟨_, rfl, hrow, k7, o7⟩
end Go.Proofs.YtpkoikennimonaaGreatDoor
end

section
namespace Go.Proofs.YtpkoikennimonaaGreatDoor
open Go.RowKit Go.Hay
set_option linter.unusedVariables false

set_option maxHeartbeats 1000000 in
set_option maxRecDepth 100000 in
theorem cRefFrameLong (a : Option Addr) (n c : Nat) (bs : List UInt8) (w : World) (hn : n = bs.length) (h : 16777216 < bs.length) :
    Calls Tryz.prog 73 #[.slice a n c] w fun e w' => e = .returned (.tuple #[.slice none 0 0, .int .i64 12]) ∧ w' = w := by
  subst hn
  go_enter Tryz.func73, Tryz.ntmps73
  go_wp2_with fail
  go_ret2
  exact ⟨rfl, rfl⟩

set_option maxHeartbeats 1000000 in
set_option maxRecDepth 100000 in
theorem cRefFrame (a : Option Addr) (n c : Nat) (bs : List UInt8) (w : World) (hs : Sees w a bs) (hn : n = bs.length) (h : bs.length ≤ 16777216) :
    Calls Tryz.prog 73 #[.slice a n c] w fun e w' => ∃ v, e = .returned (.tuple #[v, .int .i64 0]) ∧ Row w' v (frameB bs) ∧ Kp [] w w' ∧ ∀ k ∈ own v, w.heap.size ≤ k := by
  subst hn
  obtain ⟨i0, hi, hz0, hz1, hz2⟩ := info_parts Tryz.infoB
  go_enter Tryz.func73, Tryz.ntmps73
  go_wp2_with fail
  refine (cRefNumber bs.length 4 _ (by omega) (by omega) (by omega)).mono ?_
  rintro e w1 ⟨v1, rfl, r1, k1, o1⟩
  rw [Int.toNat_natCast] at r1
  obtain ⟨a1, c1, rfl, s1, _⟩ := r1.sees
  rw [be_length] at r1 o1 ⊢
  go_wp2_with fail
  refine (cRefSum a1 _ c1 (be bs.length 4) _ s1 (by rw [be_length]) (by rw [be_length]; omega)).mono ?_
  rintro e w2 ⟨rfl, rfl⟩
  have hcr := crc_lt (be bs.length 4)
  go_wp2_with fail
  refine (cRefNumber _ 4 _ (by omega) (by omega) (by omega)).mono ?_
  rintro e w3 ⟨v3, rfl, r3, k3, o3⟩
  rw [Int.toNat_natCast] at r3
  obtain ⟨a3, c3, rfl, s3, _⟩ := r3.sees
  have hsrc3 := s3.src (P := Tryz.prog) Tryz.underlying45 c3
  have r1' := r1.kept k3 (by simp)
  clear r1 s1
  go_wp2_with (at_builtin; refine wpList_append_src _ rfl (.tmp 12) (.tmp 16) 45 45 rfl i0 Tryz.underlying45 hi hz0 hz1 hz2 _ _ rfl r1' _ _ rfl hsrc3 (by simp [be_length]) ?_)
  intro v4 w4 r4 k4 o4
  obtain ⟨k5, o5⟩ := stepA (k1.trans k3 (by simp)) o1 k4 o4
  have hsrc5 := (hs.kept k5 (by simp)).src (P := Tryz.prog) Tryz.underlying45 c
  clear r1' hsrc3 s3 r3 k4 o4 k3 k1 o1 o3
  go_wp2_with (at_builtin; refine wpList_append_src _ rfl (.tmp 18) (.tmp 19) 45 45 rfl i0 Tryz.underlying45 hi hz0 hz1 hz2 _ _ rfl r4 _ _ rfl hsrc5 (by simp [be_length]; omega) ?_)
  intro v6 w6 r6 k6 o6
  obtain ⟨k7, o7⟩ := stepA k5 o5 k6 o6
  clear r4 hsrc5 k6 o6 k5 o5
  go_wp2_with fail
  refine (cRefSum a _ c bs _ (hs.kept k7 (by simp)) rfl (by omega)).mono ?_
  rintro e w8 ⟨rfl, rfl⟩
  have hcr2 := crc_lt bs
  go_wp2_with fail
  refine (cRefNumber _ 4 _ (by omega) (by omega) (by omega)).mono ?_
  rintro e w9 ⟨v9, rfl, r9, k9, o9⟩
  rw [Int.toNat_natCast] at r9
  obtain ⟨a9, c9, rfl, s9, _⟩ := r9.sees
  have hsrc9 := s9.src (P := Tryz.prog) Tryz.underlying45 c9
  have r6' := r6.kept k9 (by simp)
  have k10 := k7.trans k9 (by simp)
  clear r6 s9 r9 k9 o9 k7
  go_wp2_with (at_builtin; refine wpList_append_src _ rfl (.tmp 21) (.tmp 25) 45 45 rfl i0 Tryz.underlying45 hi hz0 hz1 hz2 _ _ rfl r6' _ _ rfl hsrc9 (by simp [be_length]; omega) ?_)
  intro v11 w11 r11 k11 o11
  obtain ⟨k12, o12⟩ := stepA k10 o7 k11 o11
  clear r6' hsrc9 k10 k11 o11 o7
  go_wp2_with fail
  go_ret2
  exact ⟨_, rfl, r11, k12, o12⟩
end Go.Proofs.YtpkoikennimonaaGreatDoor
end

section
namespace Go.Proofs.YtpkoikennimonaaGreatDoor
open Go.RowKit Go.Hay
set_option linter.unusedVariables false

/-- What the frame has that bytes begin with; how many bytes it is; what is amiss. -/
def unf (bs : List UInt8) : List UInt8 × Int × Int :=
  if bs.length < 8 then ([], 0, 10)
  else if num ((bs.drop 4).take 4) ≠ crc (bs.take 4) then ([], 0, 14)
  else if 16777216 < num (bs.take 4) then ([], 0, 12)
  else if bs.length < num (bs.take 4) + 12 then ([], 0, 10)
  else if num ((bs.drop (8 + num (bs.take 4))).take 4) ≠ crc ((bs.drop 8).take (num (bs.take 4))) then ([], 0, 14)
  else ((bs.drop 8).take (num (bs.take 4)), ((num (bs.take 4) + 12 : Nat) : Int), 0)

set_option maxHeartbeats 2000000 in
set_option maxRecDepth 100000 in
theorem cUnframe (a : Option Addr) (n c : Nat) (bs : List UInt8) (w : World) (ht : Tab w) (hs : Sees w a bs) (hn : n = bs.length) (hl : bs.length ≤ c) (hm : c ≤ maxLen) (hb : bs.length ≤ 200000000000000) :
    Calls Tryz.prog 55 #[.slice a n c] w fun e w' => ∃ v, e = .returned (.tuple #[v, .int .i64 (unf bs).2.1, .int .i64 (unf bs).2.2]) ∧ Row w' v (unf bs).1 ∧ Kp [] w w' ∧ ∀ k ∈ own v, w.heap.size ≤ k := by
  subst hn
  have hm' := hm
  unfold maxLen at hm
  by_cases h8 : bs.length < 8
  · rw [show unf bs = ([], 0, 10) by rw [unf, if_pos h8]]
    go_enter Tryz.func55, Tryz.ntmps55
    go_wp2_with fail
    go_ret3
    exact ⟨_, rfl, Row.nil _, Kp.refl _ _, by simp [own, Value.ownBlock]⟩
  have hc4 : ¬ c = 4 := by omega
  have hlw : ∀ k, (w.drewN k).heap.size = w.heap.size := fun _ => rfl
  have HW4 := hid (fun k => cWord (a.map (fun x => x.add 4)) (bs.length - 4) (c - 4) (bs.drop 4) (w.drewN k) (hs.tail 4) (by simp) (by simp; omega) (by unfold maxLen; omega) (by simp; omega))
  have HS4 := hid (fun k => cSum a 4 c (bs.take 4) (w.drewN k) ht (hs.front 4) (by simp; omega) (by simp; omega))
  have HW0 := hid (fun k => cWord a bs.length c bs (w.drewN k) hs rfl hl hm' (by omega))
  have hs4 := num_lt_of ((bs.drop 4).take 4) 4 (by simp; omega)
  have hm4 := num_lt_of (bs.take 4) 4 (by simp; omega)
  have hunf : unf bs = if num ((bs.drop 4).take 4) ≠ crc (bs.take 4) then ([], 0, 14)
    else if 16777216 < num (bs.take 4) then ([], 0, 12)
    else if bs.length < num (bs.take 4) + 12 then ([], 0, 10)
    else if num ((bs.drop (8 + num (bs.take 4))).take 4) ≠ crc ((bs.drop 8).take (num (bs.take 4))) then ([], 0, 14)
    else ((bs.drop 8).take (num (bs.take 4)), ((num (bs.take 4) + 12 : Nat) : Int), 0) := by rw [unf, if_neg h8]
  rw [hunf]
  clear hunf
  have hcr := crc_lt (bs.take 4)
  generalize num ((bs.drop 4).take 4) = s at *
  generalize crc (bs.take 4) = q at *
  generalize num (bs.take 4) = m at *
  by_cases hsq : s = q
  · subst hsq
    rw [if_neg (fun h => h rfl)]
    by_cases hbig : 16777216 < m
    · rw [if_pos hbig]
      go_enter Tryz.func55, Tryz.ntmps55
      go_wp2_with fail
      go_quiet (first | (go_at_call 83; refine Calls.quiet_of_same (HW4.out _)) | (go_at_call 80; refine Calls.quiet_of_same (HS4.out _)))
      go_wp2_with fail
      refine (HW0.out nq).mono ?_
      rintro e w1 ⟨rfl, rfl⟩
      go_wp2_with fail
      go_ret3
      exact ⟨_, rfl, Row.nil _, (Kp.refl _ _).drewN _, by simp [own, Value.ownBlock]⟩
    rw [if_neg hbig]
    by_cases hshort : bs.length < m + 12
    · rw [if_pos hshort]
      go_enter Tryz.func55, Tryz.ntmps55
      go_wp2_with fail
      go_quiet (first | (go_at_call 83; refine Calls.quiet_of_same (HW4.out _)) | (go_at_call 80; refine Calls.quiet_of_same (HS4.out _)))
      go_wp2_with fail
      refine (HW0.out nq).mono ?_
      rintro e w1 ⟨rfl, rfl⟩
      go_wp2_with fail
      refine (HW0.out nq).mono ?_
      rintro e w1 ⟨rfl, rfl⟩
      go_wp2_with fail
      go_ret3
      exact ⟨_, rfl, Row.nil _, (Kp.refl _ _).drewN _, by simp [own, Value.ownBlock]⟩
    rw [if_neg hshort]
    have hc8 : ¬ c = 8 := by omega
    have hc8m : ¬ c = 8 + m := by omega
    have HW8 := hid (fun k => cWord (a.map (fun x => x.add (8 + m))) (bs.length - (8 + m)) (c - (8 + m)) (bs.drop (8 + m)) (w.drewN k) (hs.tail (8 + m)) (by simp) (by simp; omega) (by unfold maxLen; omega) (by simp; omega))
    have HS8 := hid (fun k => cSum (a.map (fun x => x.add 8)) m (c - 8) ((bs.drop 8).take m) (w.drewN k) ht ((hs.tail 8).front m) (by simp; omega) (by simp; omega))
    have HC8 := hid (fun k => cClone (a.map (fun x => x.add 8)) m (c - 8) ((bs.drop 8).take m) (w.drewN k) ((hs.tail 8).front m) (by simp; omega) (by simp; omega))
    have hcr2 := crc_lt ((bs.drop 8).take m)
    generalize num ((bs.drop (8 + m)).take 4) = s2 at *
    generalize crc ((bs.drop 8).take m) = q2 at *
    generalize (bs.drop 8).take m = body at *
    by_cases hsq2 : s2 = q2
    · subst hsq2
      rw [if_neg (fun h => h rfl)]
      go_enter Tryz.func55, Tryz.ntmps55
      go_wp2_with fail
      go_quiet (first | (go_at_call 83; refine Calls.quiet_of_same (HW4.out _)) | (go_at_call 80; refine Calls.quiet_of_same (HS4.out _)))
      go_wp2_with fail
      refine (HW0.out nq).mono ?_
      rintro e w1 ⟨rfl, rfl⟩
      go_wp2_with fail
      refine (HW0.out nq).mono ?_
      rintro e w1 ⟨rfl, rfl⟩
      go_wp2_with fail
      refine (HW8.out nq).mono ?_
      rintro e w1 ⟨rfl, rfl⟩
      go_wp2_with fail
      refine (HS8.out nq).mono ?_
      rintro e w1 ⟨rfl, rfl⟩
      go_wp2_with fail
      refine (HC8.out nq).mono ?_
      rintro e w1 ⟨v', rfl, r1, k1, o1⟩
      go_wp2_with fail
      go_ret3
      exact ⟨v', by rw [show ((m + 12 : Nat) : Int) = 8 + (m : Int) + 4 by omega]; rfl, r1, ((Kp.refl _ w).drewN nq).trans k1 (by simp), o1⟩
    · rw [if_pos hsq2]
      have hne : (((s2 : Nat) : Int) != ((q2 : Nat) : Int)) = true := by rw [bne_iff_ne]; omega
      clear HC8
      go_enter Tryz.func55, Tryz.ntmps55
      go_wp2_with fail
      go_quiet (first | (go_at_call 83; refine Calls.quiet_of_same (HW4.out _)) | (go_at_call 80; refine Calls.quiet_of_same (HS4.out _)))
      go_wp2_with fail
      refine (HW0.out nq).mono ?_
      rintro e w1 ⟨rfl, rfl⟩
      go_wp2_with fail
      refine (HW0.out nq).mono ?_
      rintro e w1 ⟨rfl, rfl⟩
      go_wp2_with fail
      refine (HW8.out nq).mono ?_
      rintro e w1 ⟨rfl, rfl⟩
      go_wp2_with fail
      refine (HS8.out nq).mono ?_
      rintro e w1 ⟨rfl, rfl⟩
      go_wp2_with fail
      go_ret3
      exact ⟨_, rfl, Row.nil _, (Kp.refl _ _).drewN _, by simp [own, Value.ownBlock]⟩
  · rw [if_pos hsq]
    have hne : (((s : Nat) : Int) != ((q : Nat) : Int)) = true := by rw [bne_iff_ne]; omega
    clear HW0
    go_enter Tryz.func55, Tryz.ntmps55
    go_wp2_with fail
    go_quiet (first | (go_at_call 83; refine Calls.quiet_of_same (HW4.out _)) | (go_at_call 80; refine Calls.quiet_of_same (HS4.out _)))
    go_wp2_with fail
    go_ret3
    exact ⟨_, rfl, Row.nil _, (Kp.refl _ _).drewN _, by simp [own, Value.ownBlock]⟩
end Go.Proofs.YtpkoikennimonaaGreatDoor
end

section
namespace Go.Proofs.YtpkoikennimonaaGreatDoor
open Go.RowKit Go.Hay
set_option linter.unusedVariables false

theorem endE_more (full : List UInt8) (at' : Nat) (h : at' < full.length) : endE (full.drop at') 0 = 13 := by
  unfold endE
  rw [if_pos]
  simp
  omega
theorem endE_done (full : List UInt8) (at' : Nat) (h : ¬ at' < full.length) : endE (full.drop at') 0 = 0 := by
  unfold endE
  rw [if_neg]
  simp
  omega
theorem endE_bad (full : List UInt8) (at' : Nat) (e : Int) (h : ¬ e = 0) : endE (full.drop at') e = e := by
  unfold endE
  rw [if_neg]
  exact fun hh => h hh.1

/-- What End leaves. -/
def EndPost (full : List UInt8) (at' : Nat) (e0 : Int) (w : World) (e : Ending) (w' : World) : Prop := e = .returned (.int .i64 (endE (full.drop at') e0)) ∧ Kp [] w w'

set_option maxHeartbeats 2000000 in
set_option maxRecDepth 100000 in
theorem cRefEnd (b : Option Addr) (cb : Nat) (full : List UInt8) (at' : Nat) (e0 : Int) (w : World) :
    Calls Tryz.prog 91 #[.agg #[.slice b full.length cb, .int .i64 at', .int .i64 e0]] w (EndPost full at' e0 w) := by
  by_cases he : e0 = 0
  · subst he
    go_enter Tryz.func91, Tryz.ntmps91
    go_wp2_with fail
    · exact bodyPost_ret (v := .int .i64 13) (by simp [results, Tryz.results91, go_sem]) rfl ⟨ret_int (endE_more _ _ (by assumption)).symm, (Kp.refl _ _).alloc _⟩
    · exact bodyPost_ret (v := .int .i64 0) (by simp [results, Tryz.results91, go_sem]) rfl ⟨ret_int (endE_done _ _ (by assumption)).symm, (Kp.refl _ _).alloc _⟩
  · have he' : (e0 == 0) = false := by simpa using he
    go_enter Tryz.func91, Tryz.ntmps91
    go_wp2_with fail
    exact bodyPost_ret (v := .int .i64 e0) (by simp [results, Tryz.results91, go_sem]) rfl ⟨ret_int (endE_bad _ _ _ he).symm, (Kp.refl _ _).alloc _⟩
end Go.Proofs.YtpkoikennimonaaGreatDoor
end

section
namespace Go.Proofs.YtpkoikennimonaaGreatDoor
open Go.RowKit Go.Hay
set_option linter.unusedVariables false
set_option linter.unusedSimpArgs false

/-- What a frame of records has. -/
def recB (l : List (List UInt8)) : List UInt8 := varB l.length ++ l.flatMap textB
/-- What Frames answers. -/
def frmR (l : List (List UInt8)) : List UInt8 × Int := if (recB l).length ≤ 16777216 then (frameB (recB l), 0) else ([], 90)
/-- What the body of a frame tells: the records, and whether nothing is amiss. -/
def bdy (bs : List UInt8) : List (List UInt8) × Bool :=
  let c := countS 16777216 bs 0
  let r := lstS c.1.toNat c.2.1 c.2.2
  (r.1, endE r.2.1 r.2.2 == 0)
/-- What Read answers. -/
def rdF : Nat → List UInt8 → List (List UInt8) × Nat × Int
  | 0, _ => ([], 0, 0)
  | f + 1, bs =>
    if bs = [] then ([], 0, 0)
    else if (unf bs).2.2 = 10 then ([], 0, 0)
    else if (unf bs).2.2 ≠ 0 then ([], 0, 91)
    else if (bdy (unf bs).1).2 = false then ([], 0, 91)
    else
      let r := rdF f (bs.drop (unf bs).2.1.toNat)
      if r.2.2 ≠ 0 then ([], 0, r.2.2) else ((bdy (unf bs).1).1 ++ r.1, (unf bs).2.1.toNat + r.2.1, 0)
def rdQ (bs : List UInt8) : List (List UInt8) × Nat × Int := rdF bs.length bs
theorem unf_ok {bs : List UInt8} (h : (unf bs).2.2 = 0) : 12 ≤ (unf bs).2.1 ∧ (unf bs).2.1 ≤ bs.length ∧ (unf bs).1.length + 12 = (unf bs).2.1.toNat := by
  unfold unf at h ⊢
  by_cases h1 : bs.length < 8
  · rw [if_pos h1] at h; cases h
  rw [if_neg h1] at h ⊢
  by_cases h2 : num ((bs.drop 4).take 4) ≠ crc (bs.take 4)
  · rw [if_pos h2] at h; cases h
  rw [if_neg h2] at h ⊢
  by_cases h3 : 16777216 < num (bs.take 4)
  · rw [if_pos h3] at h; cases h
  rw [if_neg h3] at h ⊢
  by_cases h4 : bs.length < num (bs.take 4) + 12
  · rw [if_pos h4] at h; cases h
  rw [if_neg h4] at h ⊢
  by_cases h5 : num ((bs.drop (8 + num (bs.take 4))).take 4) ≠ crc ((bs.drop 8).take (num (bs.take 4)))
  · rw [if_pos h5] at h; cases h
  rw [if_neg h5]
  refine ⟨by simp only; omega, by simp only; omega, ?_⟩
  simp only [List.length_take, List.length_drop]
  omega
theorem unf_len (bs : List UInt8) : (unf bs).1.length ≤ 16777216 := by
  unfold unf
  split
  · simp
  split
  · simp
  split
  · simp
  split
  · simp
  split
  · simp
  · simp only [List.length_take]; omega
theorem rdF_more : ∀ (f g : Nat) (bs : List UInt8), bs.length ≤ f → bs.length ≤ g → rdF f bs = rdF g bs
  | 0, 0, _, _, _ => rfl
  | 0, g + 1, bs, h, _ => by
    obtain rfl : bs = [] := List.length_eq_zero_iff.1 (by omega)
    simp [rdF]
  | f + 1, 0, bs, _, h => by
    obtain rfl : bs = [] := List.length_eq_zero_iff.1 (by omega)
    simp [rdF]
  | f + 1, g + 1, bs, hf, hg => by
    rw [rdF, rdF]
    by_cases h1 : bs = []
    · rw [if_pos h1, if_pos h1]
    rw [if_neg h1, if_neg h1]
    by_cases h2 : (unf bs).2.2 = 10
    · rw [if_pos h2, if_pos h2]
    rw [if_neg h2, if_neg h2]
    by_cases h3 : (unf bs).2.2 ≠ 0
    · rw [if_pos h3, if_pos h3]
    rw [if_neg h3, if_neg h3]
    have h3' : (unf bs).2.2 = 0 := by simpa using h3
    obtain ⟨u1, u2, _⟩ := unf_ok h3'
    rw [rdF_more f g (bs.drop (unf bs).2.1.toNat) (by rw [List.length_drop]; omega) (by rw [List.length_drop]; omega)]
theorem rdQ_nil : rdQ [] = ([], 0, 0) := rfl
theorem rdQ_short {bs : List UInt8} (h : (unf bs).2.2 = 10) : rdQ bs = ([], 0, 0) := by
  unfold rdQ
  cases bs with
  | nil => rfl
  | cons x r => rw [List.length_cons, rdF, if_neg (by simp), if_pos h]
theorem rdQ_bad {bs : List UInt8} (h0 : bs ≠ []) (h : (unf bs).2.2 ≠ 10) (h2 : (unf bs).2.2 ≠ 0) : rdQ bs = ([], 0, 91) := by
  unfold rdQ
  cases bs with
  | nil => exact absurd rfl h0
  | cons x r => rw [List.length_cons, rdF, if_neg (by simp), if_neg h, if_pos h2]
theorem rdQ_body {bs : List UInt8} (h0 : bs ≠ []) (h : (unf bs).2.2 = 0) (h2 : (bdy (unf bs).1).2 = false) : rdQ bs = ([], 0, 91) := by
  unfold rdQ
  cases bs with
  | nil => exact absurd rfl h0
  | cons x r => rw [List.length_cons, rdF, if_neg (by simp), if_neg (by rw [h]; decide), if_neg (by simp [h]), if_pos h2]
theorem rdQ_step {bs : List UInt8} (h0 : bs ≠ []) (h : (unf bs).2.2 = 0) (h2 : (bdy (unf bs).1).2 = true) :
    rdQ bs = if (rdQ (bs.drop (unf bs).2.1.toNat)).2.2 ≠ 0 then ([], 0, (rdQ (bs.drop (unf bs).2.1.toNat)).2.2) else ((bdy (unf bs).1).1 ++ (rdQ (bs.drop (unf bs).2.1.toNat)).1, (unf bs).2.1.toNat + (rdQ (bs.drop (unf bs).2.1.toNat)).2.1, 0) := by
  obtain ⟨u1, u2, _⟩ := unf_ok h
  have e : rdQ bs = rdF ((bs.length - 1) + 1) bs := by
    unfold rdQ
    exact rdF_more _ _ _ (Nat.le_refl _) (by omega)
  rw [e, rdF, if_neg h0, if_neg (by rw [h]; decide), if_neg (by simp [h]), if_neg (by simp [h2])]
  have e2 : rdF (bs.length - 1) (bs.drop (unf bs).2.1.toNat) = rdQ (bs.drop (unf bs).2.1.toNat) := by
    unfold rdQ
    exact rdF_more _ _ _ (by rw [List.length_drop]; omega) (Nat.le_refl _)
  rw [e2]
/-- What Read answers when so much has been read. -/
def finQ (acc : List (List UInt8)) (n : Nat) (r : List (List UInt8) × Nat × Int) : List (List UInt8) × Nat × Int := if r.2.2 ≠ 0 then ([], 0, r.2.2) else (acc ++ r.1, n + r.2.1, 0)
theorem finQ_step {bs : List UInt8} (acc : List (List UInt8)) (n : Nat) (h0 : bs ≠ []) (h : (unf bs).2.2 = 0) (h2 : (bdy (unf bs).1).2 = true) :
    finQ acc n (rdQ bs) = finQ (acc ++ (bdy (unf bs).1).1) (n + (unf bs).2.1.toNat) (rdQ (bs.drop (unf bs).2.1.toNat)) := by
  rw [rdQ_step h0 h h2]
  unfold finQ
  by_cases h3 : (rdQ (bs.drop (unf bs).2.1.toNat)).2.2 ≠ 0
  · rw [if_pos h3, if_pos h3, if_pos h3]
  · rw [if_neg h3, if_neg h3]
    simp [List.append_assoc, Nat.add_assoc]
theorem finQ_zero (r : List (List UInt8) × Nat × Int) (h : r.2.2 ≠ 0 → r.1 = [] ∧ r.2.1 = 0) : finQ [] 0 r = r := by
  unfold finQ
  split
  · rename_i hn
    obtain ⟨a, b⟩ := h hn
    rw [← a, ← b]
  · rename_i hn
    have : r.2.2 = 0 := by simpa using hn
    simp [← this]
theorem rdF_bad : ∀ (f : Nat) (bs : List UInt8), (rdF f bs).2.2 ≠ 0 → (rdF f bs).1 = [] ∧ (rdF f bs).2.1 = 0 ∧ (rdF f bs).2.2 = 91
  | 0, bs, h => absurd rfl h
  | f + 1, bs, h => by
    rw [rdF] at h ⊢
    by_cases h1 : bs = []
    · rw [if_pos h1] at h; exact absurd rfl h
    rw [if_neg h1] at h ⊢
    by_cases h2 : (unf bs).2.2 = 10
    · rw [if_pos h2] at h; exact absurd rfl h
    rw [if_neg h2] at h ⊢
    by_cases h3 : (unf bs).2.2 ≠ 0
    · rw [if_pos h3]; exact ⟨rfl, rfl, rfl⟩
    rw [if_neg h3] at h ⊢
    by_cases h4 : (bdy (unf bs).1).2 = false
    · rw [if_pos h4]; exact ⟨rfl, rfl, rfl⟩
    rw [if_neg h4] at h ⊢
    by_cases h5 : (rdF f (bs.drop (unf bs).2.1.toNat)).2.2 ≠ 0
    · simp only [if_pos h5]
      exact ⟨trivial, trivial, (rdF_bad f _ h5).2.2⟩
    · simp only [if_neg h5] at h
      exact absurd rfl h
theorem rdQ_spoilt {bs : List UInt8} (h : (rdQ bs).2.2 ≠ 0) : rdQ bs = ([], 0, 91) := by
  obtain ⟨a, b, c⟩ := rdF_bad bs.length bs h
  unfold rdQ
  rw [show rdF bs.length bs = ((rdF bs.length bs).1, (rdF bs.length bs).2.1, (rdF bs.length bs).2.2) from rfl, a, b, c]
theorem finQ_start (bs : List UInt8) : finQ [] 0 (rdQ bs) = rdQ bs := finQ_zero _ fun h => by rw [rdQ_spoilt h]; exact ⟨rfl, rfl⟩
end Go.Proofs.YtpkoikennimonaaGreatDoor
end

/- Runs of values. Runs, as bytes. Differences, as bytes. -/
import Derived.Test.YtohbdbecioanaaaGreatDoorB3
import Derived.Deep.LoopGhost
import Derived.Deep.RegionHeld3
section
namespace Go.Proofs.YtohbdbecioanaaaGreatDoor
open Go.RowKit Go.Hay
set_option linter.unusedVariables false
set_option linter.unusedSimpArgs false

theorem baLoop (b : ByteArray) : ∀ (m i : Nat) (r : List UInt8), b.size - i = m → ByteArray.toList.loop b i r = r.reverse ++ b.data.toList.drop i
  | 0, i, r, h => by
    rw [ByteArray.toList.loop]
    rw [if_neg (by omega), List.drop_eq_nil_of_le (by simp; have : b.data.size = b.size := rfl; omega), List.append_nil]
  | m + 1, i, r, h => by
    rw [ByteArray.toList.loop]
    have hi : i < b.size := by omega
    rw [if_pos hi, baLoop b m (i + 1) _ (by omega)]
    have hi' : i < b.data.toList.length := by simpa using hi
    rw [List.drop_eq_getElem_cons hi']
    simp
    show b.get! i = _
    simp [ByteArray.get!, hi]
theorem baList (b : ByteArray) : b.toList = b.data.toList := by
  unfold ByteArray.toList
  rw [baLoop b _ 0 [] rfl]
  simp
theorem baInj {a b : ByteArray} (h : a.toList = b.toList) : a = b := by
  rw [baList, baList] at h
  cases a; cases b
  simp only [ByteArray.mk.injEq]
  exact Array.toList_inj.1 h
theorem eqv_iff {x y : Val} : x.eqv y = true ↔ x = y := by
  constructor
  · intro h
    obtain ⟨xk, xb, xn, xt⟩ := x
    obtain ⟨yk, yb, yn, yt⟩ := y
    simp [Val.eqv] at h
    obtain ⟨rfl, rfl, rfl, h4⟩ := h
    rw [baInj h4]
  · rintro rfl; exact eqv_self x
/-- So many of a value. -/
structure Rn where
  m : Nat
  v : Val
instance : Inhabited Rn := ⟨⟨0, ⟨0, false, 0, ⟨#[]⟩⟩⟩⟩
/-- Values as runs. -/
def runsV : List Val → List Rn
  | [] => []
  | x :: l => match runsV l with
    | [] => [⟨1, x⟩]
    | r :: rs => if x.eqv r.v = true then ⟨r.m + 1, r.v⟩ :: rs else ⟨1, x⟩ :: r :: rs
theorem runsV_head (x : Val) (l : List Val) : ∃ k rs, runsV (x :: l) = ⟨k, x⟩ :: rs := by
  rw [runsV]
  cases runsV l with
  | nil => exact ⟨1, [], rfl⟩
  | cons r rs =>
    simp only
    split
    · rename_i h; rw [eqv_iff.1 h]; exact ⟨_, _, rfl⟩
    · exact ⟨1, _, rfl⟩
theorem runsV_rep (x : Val) (r : List Val) (hr : ∀ y r', r = y :: r' → x.eqv y = false) : ∀ n, runsV (List.replicate (n + 1) x ++ r) = ⟨n + 1, x⟩ :: runsV r
  | 0 => by
    show runsV (x :: r) = _
    rw [runsV]
    cases r with
    | nil => rfl
    | cons y r' =>
      obtain ⟨k, rs, h⟩ := runsV_head y r'
      rw [h]
      simp only [hr y r' rfl]
      simp
  | n + 1 => by
    show runsV (x :: (List.replicate (n + 1) x ++ r)) = _
    rw [runsV, runsV_rep x r hr n]
    simp [eqv_self]
theorem rep_of {x : Val} {l : List Val} {j : Nat} (hj : j ≤ l.length) (h : ∀ k (hk : k < l.length), k < j → l[k] = x) : l.take j = List.replicate j x := by
  apply List.ext_getElem
  · simp; omega
  · intro k h1 h2
    simp at h1 h2 ⊢
    exact h k (by omega) (by omega)
/-- A run's end found, or none. -/
theorem runsV_cut {x : Val} {l : List Val} {j : Nat} (h0 : 0 < j) (hj : j < l.length) (h : ∀ k (hk : k < l.length), k < j → l[k] = x) (hne : x.eqv l[j] = false) : runsV l = ⟨j, x⟩ :: runsV (l.drop j) := by
  have e : l = List.replicate j x ++ l.drop j := by rw [← rep_of (by omega) h, List.take_append_drop]
  obtain ⟨n, rfl⟩ : ∃ n, j = n + 1 := ⟨j - 1, by omega⟩
  have := runsV_rep x (l.drop (n + 1)) (fun y r' hy => by
    have : l[n + 1]? = some y := by
      have h9 : (l.drop (n + 1))[0]? = some y := by rw [hy]; rfl
      rw [List.getElem?_drop] at h9
      exact h9
    rw [(List.getElem?_eq_some_iff.1 this).2] at hne
    exact hne) n
  rw [← e] at this
  exact this
theorem runsV_all {x : Val} {l : List Val} (h0 : 0 < l.length) (h : ∀ k (hk : k < l.length), l[k] = x) : runsV l = [⟨l.length, x⟩] := by
  have e := rep_of (l := l) (x := x) (Nat.le_refl _) (fun k hk _ => h k hk)
  rw [List.take_length] at e
  obtain ⟨n, hn⟩ : ∃ n, l.length = n + 1 := ⟨l.length - 1, by omega⟩
  rw [hn] at e
  have := runsV_rep x [] (fun y r' hy => by cases hy) n
  rw [List.append_nil, ← e] at this
  rw [this, hn]
  rfl
def RunE : El Rn where
  n := 5
  c x := [.int .i64 x.m, .int .i64 x.v.k, .bool x.v.b, .int .i64 x.v.n, .string x.v.t]
  len _ := rfl
  one _ u hu := by simp at hu; rcases hu with rfl | rfl | rfl | rfl | rfl <;> rfl
  pos := by decide
theorem runE_at {w : World} {a : Option Addr} {l : List Rn} (h : RunE.See w a l) {j : Nat} {x : Rn} (hx : l[j]? = some x) : ∃ g o, a = some ⟨g, o, none⟩ ∧ w.cell? ⟨g, o + j * 5, none⟩ = some (.int .i64 x.m) ∧ w.cell? ⟨g, o + j * 5 + 1, none⟩ = some (.int .i64 x.v.k) ∧ w.cell? ⟨g, o + j * 5 + 2, none⟩ = some (.bool x.v.b) ∧ w.cell? ⟨g, o + j * 5 + 3, none⟩ = some (.int .i64 x.v.n) ∧ w.cell? ⟨g, o + j * 5 + 4, none⟩ = some (.string x.v.t) := by
  obtain ⟨g, o, rfl, hc⟩ := h.at hx
  exact ⟨g, o, rfl, hc 0 _ rfl, hc 1 _ rfl, hc 2 _ rfl, hc 3 _ rfl, hc 4 _ rfl⟩
theorem infoR : ∃ i : TypeInfo, Tryz.prog.info? 129 = some i ∧ i.zero = some (.agg #[.int .i64 0, .int .i64 0, .bool false, .int .i64 0, .string ⟨#[]⟩]) ∧ i.size = 5 ∧ i.bytes = 48 := info4 (by kernel_rfl)
theorem runOne (w : World) {q : Nat} (hq : w.heap.size = q) (x : Rn) (t : TypeId) : RunE.See (w.alloc (.cells #[.int .i64 x.m, .int .i64 x.v.k, .bool x.v.b, .int .i64 x.v.n, .string x.v.t] t)) (some ⟨q, 0, none⟩) [x] := by
  subst hq
  refine .inr ⟨_, 0, rfl, fun j u hu => ?_⟩
  have e : (w.alloc (.cells #[.int .i64 x.m, .int .i64 x.v.k, .bool x.v.b, .int .i64 x.v.n, .string x.v.t] t)).cell? ⟨w.heap.size, 0 + j, none⟩ = _ := World.cell?_alloc_new w _ _ (0 + j)
  rw [e, Nat.zero_add]
  simpa [El.cs, RunE] using hu
theorem Vals.drop {w : World} {g o : Nat} {l : List Val} (h : Vals w (some ⟨g, o, none⟩) l) (i : Nat) : Vals w (some ⟨g, o + i * 4, none⟩) (l.drop i) := by
  rcases h with rfl | ⟨g, o, e, hc⟩
  · exact .inl (by simp)
  · cases e
    refine .inr ⟨g, o + i * 4, rfl, fun j x hx => ?_⟩
    rw [List.getElem?_drop] at hx
    have := hc (i + j) x hx
    rw [show o + (i + j) * 4 = o + i * 4 + j * 4 by omega] at this
    exact this
def lenV : Value → Nat
  | .slice _ n _ => n
  | _ => 0
/-- Runs, all new. -/
def NR (R : List Rn) (w : World) (e : Ending) (w' : World) : Prop := ∃ a c, e = .returned (.slice a R.length c) ∧ RunE.Row w' (.slice a R.length c) R ∧ Kp [] w w' ∧ ∀ k ∈ blk a, w.heap.size ≤ k
structure RuI (l : List Val) (w wn : World) (a : Option Addr) (c : Nat) (rest : List Val) (ra : Option Addr) (rc : Nat) (R : List Rn) : Prop where
  vals : Vals wn a rest
  cap : rest.length ≤ c
  mx : c ≤ maxLen
  row : RunE.Row wn (.slice ra R.length rc) R
  new : ∀ k ∈ blk ra, w.heap.size ≤ k
  kp : Kp [] w wn
  runs : Hid (R ++ runsV rest = runsV l)
  len : R.length + rest.length ≤ l.length
  lo : rest ≠ [] → ∀ k ∈ blk a, k < w.heap.size
theorem RuI.keep {l : List Val} {w wn w' : World} {a : Option Addr} {c : Nat} {rest : List Val} {ra : Option Addr} {rc : Nat} {R : List Rn} (h : RuI l w wn a c rest ra rc R) (k : Kp [] wn w') : RuI l w w' a c rest ra rc R :=
  ⟨h.vals.kept k, h.cap, h.mx, h.row.keptNew k, h.new, h.kp.trans k (by simp), h.runs, h.len, h.lo⟩
theorem Vals.keptS {w w' : World} {a : Option Addr} {l : List Val} {S : List Nat} (h : Vals w a l) (hk : Kp S w w') (hn : l ≠ [] → ∀ k ∈ blk a, k ∉ S) : Vals w' a l := seeV.1 ((seeV.2 h).kept hk hn)
theorem RuI.cut {l : List Val} {w wq wc w' : World} {g o c : Nat} {rest : List Val} {ra a' : Option Addr} {rc c' j : Nat} {R R' : List Rn} {x : Val} (h : RuI l w wq (some ⟨g, o, none⟩) c rest ra rc R) (k : Kp [] wq wc) (hrow : RunE.Row w' (.slice a' R'.length c') R') (hR' : R' = R ++ [⟨j, x⟩]) (hg : Kp (own (.slice ra R.length rc)) wc w') (hn : ∀ k ∈ blk a', k ∈ own (.slice ra R.length rc) ∨ wc.heap.size ≤ k)
    (hr : runsV rest = ⟨j, x⟩ :: runsV (rest.drop j)) (hj0 : 0 < j) (hj : j ≤ rest.length) (hne : rest ≠ []) : RuI l w w' (some ⟨g, o + j * 4, none⟩) (c - j) (rest.drop j) a' c' R' := by
  have hlo := h.lo hne g (by simp [blk])
  have hno : ∀ k ∈ own (.slice ra R.length rc), w.heap.size ≤ k := fun k hk => h.new k (by rw [ownS] at hk; exact hk)
  have hz := h.kp.size
  have hz2 := k.size
  have hv : Vals w' (some ⟨g, o, none⟩) rest := (h.vals.kept k).keptS hg (fun _ m hm hs => by simp [blk] at hm; have := hno m hs; omega)
  refine ⟨hv.drop j, by simp; have := h.cap; omega, by have := h.mx; unfold maxLen at *; omega, hrow, fun m hm => ?_, (h.kp.trans k (by simp)).trans hg (fun m hm => .inr (hno m hm)), ?_, ?_, fun _ m hm => by simp [blk] at hm; omega⟩
  · rcases hn m hm with h1 | h1
    · exact hno m h1
    · omega
  · show _ = _
    rw [hR', ← h.runs.out, hr]; simp
  · rw [hR']; simp; have := h.len; omega
set_option maxHeartbeats 8000000 in
set_option maxRecDepth 100000 in
theorem cRuns (a : Option Addr) (ca : Nat) (l : List Val) (w : World) (ha : Vals w a l) (hc : l.length ≤ ca) (hm : ca ≤ maxLen) (hl : l.length ≤ 3600000000000) :
    Calls Tryz.prog 98 #[.slice a l.length ca] w (NR (runsV l) w) := by
  have I0 : RuI l w w a ca l none 0 [] := ⟨ha, hc, hm, .inl ⟨rfl, rfl⟩, by simp [blk], Kp.refl _ _, rfl, by simp, fun hne => (seeV.2 ha).lt hne⟩
  have I0' := hid I0
  clear I0
  obtain ⟨F, hF⟩ : ∃ F, Hid (runsV l = F) := ⟨_, rfl⟩
  rw [hF.out]
  go_enter Tryz.func98, Tryz.ntmps98
  go_wp2_with fail
  go_step3
  go_wp2_with fail
  go_step3
  go_wp2_with fail
  go_loopw [0, 3] (fun v0 v3 wn => ∃ (a : Option Addr) (c : Nat) (rest : List Val) (ra : Option Addr) (rc : Nat) (R : List Rn), v0 = .slice a rest.length c ∧ v3 = .slice ra R.length rc ∧ RuI l w wn a c rest ra rc R) (fun v0 _ _ => lenV v0)
  case atStart => exact ⟨a, ca, l, none, 0, [], rfl, rfl, I0'.out⟩
  case round =>
    clear I0'
    obtain ⟨a, c, rest, ra, rc, R, rfl, rfl, I⟩ := hrel
    have hIl := I.len
    have hIm := I.mx
    have hIc := I.cap
    unfold maxLen at hIm
    by_cases hr0 : rest.length = 0
    · obtain rfl : rest = [] := List.length_eq_zero_iff.1 hr0
      have hR : Hid (R = F) := by show _ = _; have := I.runs.out; rw [hF.out] at this; simpa [runsV] using this
      have hfin : NR F w (.returned (.slice ra R.length rc)) wr := ⟨ra, rc, by rw [hR.out], by rw [← hR.out]; exact I.row, I.kp, I.new⟩
      clear I hR
      go_wp2_with fail
      (try rw [Exit.noGoto_ret])
      go_ret
      exact hfin
    · obtain ⟨x, hx⟩ : ∃ x, Hid (rest[0]? = some x) := ⟨rest[0]'(by omega), by show _ = _; simp [show 0 < rest.length by omega]⟩
      have h0e : Hid (∀ h : 0 < rest.length, rest[0] = x) := fun h => (List.getElem?_eq_some_iff.1 hx.out).2
      have hpos : 0 < rest.length := by omega
      have hat0 : Hid (∀ W a, Vals W a rest → ∃ g o, a = some ⟨g, o, none⟩ ∧ W.cell? ⟨g, o, none⟩ = some (.int .i64 x.k) ∧ W.cell? ⟨g, o + 1, none⟩ = some (.bool x.b) ∧ W.cell? ⟨g, o + 2, none⟩ = some (.int .i64 x.n) ∧ W.cell? ⟨g, o + 3, none⟩ = some (.string x.t)) := fun W a hv => by
        obtain ⟨g, o, e, y0, y1, y2, y3⟩ := hv.at 0 hpos
        rw [h0e.out hpos] at y0 y1 y2 y3
        exact ⟨g, o, e, by simpa using y0, by simpa using y1, by simpa using y2, by simpa using y3⟩
      obtain ⟨g, o, rfl, _⟩ := hat0.out wr a I.vals
      obtain ⟨xk, xb, xn, xt⟩ := x
      obtain ⟨i0, hi, hz0, hz1, hz2⟩ := infoR
      have hIh := hid I
      clear I
      dsimp only at hat0
      go_wp2_with fail
      go_loopw [0, 3, 11] (fun v0 v3 i wn => ∃ j : Nat, v0 = .slice (some ⟨g, o, none⟩) rest.length c ∧ v3 = .slice ra R.length rc ∧ j ≤ rest.length ∧ i = .int .i64 j ∧ Hid (∀ k (hk : k < rest.length), k < j → rest[k] = ⟨xk, xb, xn, xt⟩) ∧ RuI l w wn (some ⟨g, o, none⟩) c rest ra rc R) (fun _ _ i _ => rest.length - (intOf i).toNat)
      case atStart => exact ⟨0, rfl, rfl, Nat.zero_le _, rfl, fun k hk h => absurd h (Nat.not_lt_zero _), hIh.out⟩
      case round =>
        clear hIh
        obtain ⟨j, rfl, rfl, hj, rfl, hall, I⟩ := hrel
        by_cases hjl : j < rest.length
        · obtain ⟨_, _, e, a0, a1, a2, a3⟩ := I.vals.at j hjl
          cases e
          obtain ⟨y, hy⟩ : ∃ y, Hid (rest[j]'hjl = y) := ⟨rest[j]'hjl, rfl⟩
          rw [hy.out] at a0 a1 a2 a3
          obtain ⟨X, HX, hX⟩ := neV y ⟨xk, xb, xn, xt⟩
          obtain ⟨wb, hwb⟩ : ∃ wb, wr.alloc (.cells #[.int .i64 y.k, .bool y.b, .int .i64 y.n, .string y.t] 30) = wb := ⟨_, rfl⟩
          have kb : Kp [] wr wb := by rw [← hwb]; exact (Kp.refl _ _).alloc _
          have bx : Box4 wb wr.heap.size (.int .i64 y.k) (.bool y.b) (.int .i64 y.n) (.string y.t) := by rw [← hwb]; exact Box4.new _ _ _ _ _ _
          have Ib := I.keep kb
          obtain ⟨_, _, e, f0, f1, f2, f3⟩ := hat0.out wb _ Ib.vals
          cases e
          have p0 := bx.c0; have p1 := bx.c1; have p2 := bx.c2; have p3 := bx.c3
          obtain ⟨yk, yb, yn, yt⟩ := y
          dsimp only at *
          have hwb' := hid hwb
          have hIb := hid Ib
          clear hwb I bx Ib
          go_wp2_with fail
          rw [hwb'.out]
          clear a0 a1 a2 a3
          go_quiet ((fail))
          have kq : Kp [] wb (wb.drewN nq) := (Kp.refl _ _).drewN nq
          have Iq := hIb.out.keep kq
          obtain ⟨_, _, e, f0', f1', f2', f3'⟩ := hat0.out _ _ Iq.vals
          cases e
          generalize wb.drewN nq = wq at *
          have hrne : rest ≠ [] := fun e => by rw [e] at hpos; simp at hpos
          cases X
          · have hne : Hid (Val.eqv ⟨xk, xb, xn, xt⟩ (rest[j]'hjl) = false) := by
              show _ = _
              rw [hy.out]
              have h1 := HX.out
              cases he : Val.eqv ⟨xk, xb, xn, xt⟩ ⟨yk, yb, yn, yt⟩ with
              | false => rfl
              | true => rw [eqv_iff.1 he, eqv_self] at h1; cases h1
            have hj0 : 0 < j := by
              rcases Nat.eq_zero_or_pos j with e | e
              · subst e
                have := hne.out
                rw [h0e.out hpos, eqv_self] at this
                cases this
              · exact e
            have hcut := hid (runsV_cut hj0 hjl hall.out hne.out)
            obtain ⟨wc, hwc⟩ : ∃ wc, wq.alloc (.cells #[.int .i64 (j : Int), .int .i64 xk, .bool xb, .int .i64 xn, .string xt] 129) = wc := ⟨_, rfl⟩
            have kc : Kp [] wq wc := by rw [← hwc]; exact (Kp.refl _ _).alloc _
            have hsee : RunE.See wc (some ⟨wq.heap.size, 0, none⟩) [⟨j, ⟨xk, xb, xn, xt⟩⟩] := by rw [← hwc]; exact runOne wq rfl ⟨j, ⟨xk, xb, xn, xt⟩⟩ _
            have hsr := hsee.src (P := Tryz.prog) Tryz.underlying127 1
            have hrowc := (Iq.keep kc).row
            have hIq := hid Iq
            rw [← hwc] at hsr hrowc
            have hnext : Hid (∀ ys a' c' w', Hid (ys = R ++ [⟨j, ⟨xk, xb, xn, xt⟩⟩]) → RunE.Row w' (.slice a' ys.length c') ys → Kp (own (.slice ra R.length rc)) wc w' → (∀ k ∈ blk a', k ∈ own (.slice ra R.length rc) ∨ wc.heap.size ≤ k) → ∃ (a : Option Addr) (c0 : Nat) (rest0 : List Val) (ra : Option Addr) (rc : Nat) (R : List Rn), (.slice (some ⟨g, o + j * 4, none⟩) (rest.length - j) (c - j) : Value) = .slice a rest0.length c0 ∧ (.slice a' ys.length c' : Value) = .slice ra R.length rc ∧ RuI l w w' a c0 rest0 ra rc R) := fun ys a' c' w' hy' hr' hg' hn' =>
              ⟨_, _, rest.drop j, a', c', ys, by simp, rfl, hIq.out.cut kc hr' hy'.out hg' hn' hcut.out hj0 (by omega) hrne⟩
            rw [← hwc] at hnext
            have hcj : c ≠ j := by omega
            clear hwc Iq hcut hne hall HX hX hsee hIb p0 p1 p2 p3 f0 f1 f2 f3 hwb' hIq
            go_wp2_with (first | (refine wpAppG (E := RunE) rfl _ _ 127 127 129 rfl i0 _ 48 Tryz.underlying127 hi hz0 hz1 hz2 rfl _ R rfl hrowc _ [⟨j, ⟨xk, xb, xn, xt⟩⟩] rfl hsr (by simp; omega) (by simp; omega) ?_; intro ys a' c' w' hy' hrow' hg' hn') | fail)
            exact ⟨hnext.out ys a' c' w' hy' hrow' hg' hn', by simp only [lenV]; omega⟩
          · have hall' : Hid (∀ k (hk : k < rest.length), k < j + 1 → rest[k] = ⟨xk, xb, xn, xt⟩) := fun k hk h1 => by
              by_cases e : k < j
              · exact hall.out k hk e
              · obtain rfl : k = j := by omega
                rw [hy.out]
                exact eqv_iff.1 HX.out.symm
            have hIq := hid Iq
            clear Iq hall HX hX hIb p0 p1 p2 p3 f0 f1 f2 f3 hwb'
            go_wp2_with fail
            exact ⟨⟨j + 1, rfl, rfl, by omega, by go_num, hall', hIq.out⟩, by simp [intOf]; omega⟩
        · obtain rfl : j = rest.length := by omega
          have hrne : rest ≠ [] := fun e => by rw [e] at hpos; simp at hpos
          have hone := hid (runsV_all hpos (fun k hk => hall.out k hk hk))
          obtain ⟨_, _, e, f0, f1, f2, f3⟩ := hat0.out _ _ I.vals
          cases e
          obtain ⟨wc, hwc⟩ : ∃ wc, wr.alloc (.cells #[.int .i64 (rest.length : Int), .int .i64 xk, .bool xb, .int .i64 xn, .string xt] 129) = wc := ⟨_, rfl⟩
          have kc : Kp [] wr wc := by rw [← hwc]; exact (Kp.refl _ _).alloc _
          have hsee : RunE.See wc (some ⟨wr.heap.size, 0, none⟩) [⟨rest.length, ⟨xk, xb, xn, xt⟩⟩] := by rw [← hwc]; exact runOne wr rfl ⟨rest.length, ⟨xk, xb, xn, xt⟩⟩ _
          have hsr := hsee.src (P := Tryz.prog) Tryz.underlying127 1
          have hrowc := (I.keep kc).row
          have hIq := hid I
          rw [← hwc] at hsr hrowc
          have hnext : Hid (∀ ys a' c' w', Hid (ys = R ++ [⟨rest.length, ⟨xk, xb, xn, xt⟩⟩]) → RunE.Row w' (.slice a' ys.length c') ys → Kp (own (.slice ra R.length rc)) wc w' → (∀ k ∈ blk a', k ∈ own (.slice ra R.length rc) ∨ wc.heap.size ≤ k) → NR F w (.returned (.slice a' ys.length c')) w') := fun ys a' c' w' hy' hr' hg' hn' => by
            have J := hIq.out.cut kc hr' hy'.out hg' hn' (by rw [hone.out]; simp [runsV]) hpos (Nat.le_refl _) hrne
            have hF' : ys = F := by
              have := J.runs.out
              rw [hF.out] at this
              simpa [runsV] using this
            exact ⟨a', c', by rw [hF'], by rw [← hF']; exact J.row, J.kp, J.new⟩
          rw [← hwc] at hnext
          clear hwc I hone hall hsee hIq
          go_wp2_with (first | (refine wpAppG (E := RunE) rfl _ _ 127 127 129 rfl i0 _ 48 Tryz.underlying127 hi hz0 hz1 hz2 rfl _ R rfl hrowc _ [⟨rest.length, ⟨xk, xb, xn, xt⟩⟩] rfl hsr (by simp; omega) (by simp; omega) ?_; intro ys a' c' w' hy' hrow' hg' hn') | fail)
          have hfin := hnext.out ys a' c' w' hy' hrow' hg' hn'
          clear hnext hrow' hg' hn' hy'
          (try rw [Exit.noGoto_ret])
          go_ret
          exact hfin
end Go.Proofs.YtohbdbecioanaaaGreatDoor
end

section
namespace Go.Proofs.YtohbdbecioanaaaGreatDoor
open Go.RowKit Go.Hay
set_option linter.unusedVariables false
set_option linter.unusedSimpArgs false

/-- Pieces that are gathered, and what they see. -/
structure PcA (w0 w : World) (pa : Option Addr) (pc : Nat) (ps : List Bs) : Prop where
  row : BsE.Row w (.slice pa ps.length pc) ps
  see : ∀ x ∈ ps, Sees w x.a x.bs ∧ (x.bs ≠ [] → ∀ k ∈ blk x.a, k ∉ blk pa)
  kp : Kp [] w0 w
  new : ∀ k ∈ blk pa, w0.heap.size ≤ k
theorem PcA.keep {w0 w w' : World} {pa : Option Addr} {pc : Nat} {ps : List Bs} (h : PcA w0 w pa pc ps) (k : Kp [] w w') : PcA w0 w' pa pc ps :=
  ⟨h.row.keptNew k, fun x hx => ⟨(h.see x hx).1.kept k (by simp), (h.see x hx).2⟩, h.kp.trans k (by simp), h.new⟩
theorem PcA.app {w0 w wc w' : World} {pa a' : Option Addr} {pc c' : Nat} {ps ps' qs : List Bs} (h : PcA w0 w pa pc ps) (k : Kp [] w wc) (hqs : ∀ x ∈ qs, Sees wc x.a x.bs ∧ (x.bs ≠ [] → ∀ k ∈ blk x.a, k ∉ blk pa)) (hrow : BsE.Row w' (.slice a' ps'.length c') ps') (hy : ps' = ps ++ qs) (hg : Kp (own (.slice pa ps.length pc)) wc w') (hn : ∀ k ∈ blk a', k ∈ own (.slice pa ps.length pc) ∨ wc.heap.size ≤ k) : PcA w0 w' a' c' ps' := by
  rw [ownS] at hg hn
  have hall : ∀ x ∈ ps', Sees wc x.a x.bs ∧ (x.bs ≠ [] → ∀ k ∈ blk x.a, k ∉ blk pa) := fun x hx => by
    rw [hy] at hx
    rcases List.mem_append.1 hx with h1 | h1
    · exact (h.keep k).see x h1
    · exact hqs x h1
  have hz := h.kp.size
  have hz2 := k.size
  refine ⟨hrow, fun x hx => ⟨(hall x hx).1.kept' hg (fun hne m hm => (hall x hx).2 hne m hm), fun hne m hm hm' => ?_⟩, (h.kp.trans k (by simp)).trans hg (fun m hm => .inr (h.new m hm)), fun m hm => ?_⟩
  · rcases hn m hm' with h1 | h1
    · exact (hall x hx).2 hne m hm h1
    · have := (hall x hx).1.lt hne m hm; omega
  · rcases hn m hm with h1 | h1
    · exact h.new m h1
    · omega
/-- A run's bytes. -/
def runB (r : Rn) : List UInt8 := octet r.m :: rowB r.v
theorem runsV_in {l : List Val} : ∀ r ∈ runsV l, r.v ∈ l ∧ r.m ≤ l.length := by
  induction l with
  | nil => intro r hr; cases hr
  | cons x l ih =>
    intro r hr
    rw [runsV] at hr
    cases hl : runsV l with
    | nil => rw [hl] at hr; simp at hr; subst hr; simp
    | cons s rs =>
      rw [hl] at hr ih
      simp only at hr
      split at hr
      · rcases List.mem_cons.1 hr with rfl | hr
        · have := ih s (by simp); exact ⟨List.mem_cons_of_mem _ this.1, by simp; omega⟩
        · have := ih r (by simp [hr]); exact ⟨List.mem_cons_of_mem _ this.1, by simp; omega⟩
      · rcases List.mem_cons.1 hr with rfl | hr
        · simp
        · have := ih r hr; exact ⟨List.mem_cons_of_mem _ this.1, by simp; omega⟩
theorem runsV_len (l : List Val) : (runsV l).length ≤ l.length := by
  induction l with
  | nil => simp [runsV]
  | cons x l ih =>
    rw [runsV]
    cases hl : runsV l with
    | nil => simp
    | cons s rs =>
      rw [hl] at ih
      simp only
      split <;> simp at ih ⊢ <;> omega
theorem flatRun_take (R : List Rn) (j : Nat) (h : j < R.length) : (R.take (j + 1)).flatMap runB = (R.take j).flatMap runB ++ runB R[j] := by
  rw [List.take_succ_eq_append_getElem h, List.flatMap_append]; simp
theorem flatRun_len {R : List Rn} (h : ∀ r ∈ R, r.v.right = true) : (R.flatMap runB).length ≤ 67 * R.length := by
  induction R with
  | nil => simp
  | cons r R ih =>
    have h1 := rowB_length (h r (by simp))
    have h2 := ih (fun s hs => h s (by simp [hs]))
    simp [runB] at h2 ⊢
    omega
theorem octet_nat (m : Nat) (h : m < 256) : (octet m).toNat = m := by simp [octet]; omega
theorem twoBs (w : World) {q : Nat} (hq : w.heap.size = q) (x y : Bs) (t : TypeId) : BsE.See (w.alloc (.cells #[.slice x.a x.bs.length x.c, .slice y.a y.bs.length y.c] t)) (some ⟨q, 0, none⟩) [x, y] := by
  subst hq
  refine .inr ⟨_, 0, rfl, fun j u hu => ?_⟩
  have e : (w.alloc (.cells #[.slice x.a x.bs.length x.c, .slice y.a y.bs.length y.c] t)).cell? ⟨w.heap.size, 0 + j, none⟩ = _ := World.cell?_alloc_new w _ _ (0 + j)
  rw [e, Nat.zero_add]
  simpa [El.cs, BsE] using hu
theorem oneByte (w : World) {q : Nat} (hq : w.heap.size = q) (m : Nat) (hm : (octet m).toNat = m) (t : TypeId) : Sees (w.alloc (.cells #[.int .u8 (m : Int)] t)) (some ⟨q, 0, none⟩) [octet m] := by
  subst hq
  refine .inr ⟨_, 0, rfl, fun j u hu => ?_⟩
  have e : (w.alloc (.cells #[.int .u8 (m : Int)] t)).cell? ⟨w.heap.size, 0 + j, none⟩ = _ := World.cell?_alloc_new w _ _ (0 + j)
  rw [e, Nat.zero_add]
  cases j with
  | zero => simp at hu; subst hu; rw [hm]; rfl
  | succ j => simp at hu
set_option maxHeartbeats 16000000 in
set_option maxRecDepth 100000 in
theorem cPutRuns (a : Option Addr) (ca : Nat) (l : List Val) (w : World) (ha : Vals w a l) (hc : l.length ≤ ca) (hm : ca ≤ maxLen) (hr : allR l = true) (hl : l.length ≤ 64) :
    Calls Tryz.prog 64 #[.slice a l.length ca] w (NB ((runsV l).flatMap runB) w) := by
  have cR := cRuns a ca l w ha hc hm (by omega)
  have hin : Hid (∀ r ∈ runsV l, r.v.right = true ∧ r.m ≤ 64) := fun r hr' => by
    have := runsV_in r hr'
    exact ⟨List.all_eq_true.1 hr _ this.1, by omega⟩
  have hRl : (runsV l).length ≤ 64 := Nat.le_trans (runsV_len l) hl
  obtain ⟨R, hR⟩ : ∃ R, Hid (runsV l = R) := ⟨_, rfl⟩
  rw [hR.out] at cR hin hRl ⊢
  obtain ⟨F, hF⟩ : ∃ F, Hid (R.flatMap runB = F) := ⟨_, rfl⟩
  rw [hF.out]
  clear hR hr
  obtain ⟨i0, hi, hz0, hz1, hz2⟩ := infoS'
  go_enter Tryz.func64, Tryz.ntmps64
  go_wp2_with fail
  refine cR.mono ?_
  rintro e w1 ⟨ra, rc, rfl, hrow, k1, hn1⟩
  obtain ⟨_, _, ee, hsee, _⟩ := hrow.see
  cases ee
  have P0 : Hid (PcA w1 w1 none 0 []) := ⟨.inl ⟨rfl, rfl⟩, by simp, Kp.refl _ _, by simp [blk]⟩
  clear cR
  go_wp2_with fail
  go_loopw [3, 9] (fun v i wn => ∃ (j : Nat) (pa : Option Addr) (pc : Nat) (ps : List Bs), j ≤ R.length ∧ i = .int .i64 j ∧ v = .slice pa ps.length pc ∧ PcA w1 wn pa pc ps ∧ Hid (flatB ps = (R.take j).flatMap runB) ∧ Hid (ps.length = 2 * j)) (fun _ i _ => R.length - (intOf i).toNat)
  case atStart => exact ⟨0, none, 0, [], Nat.zero_le _, rfl, rfl, P0.out, rfl, rfl⟩
  case round =>
    clear P0
    obtain ⟨j, pa, pc, ps, hj, rfl, rfl, P, hfl, hpl⟩ := hrel
    have kn := P.kp
    by_cases hjl : j < R.length
    · obtain ⟨r, hr⟩ : ∃ r, R[j]? = some r := ⟨R[j], by simp [hjl]⟩
      obtain ⟨g, o, rfl, a0, a1, a2, a3, a4⟩ := runE_at (hsee.keptNew kn) hr
      obtain ⟨hxr, hm64⟩ := hin.out r (List.mem_of_getElem? hr)
      have hst := hid (flatRun_take R j hjl)
      have hrj : Hid (R[j] = r) := (List.getElem?_eq_some_iff.1 hr).2
      rw [hrj.out] at hst
      obtain ⟨wb, hwb⟩ : ∃ wb, wr.alloc (.cells #[.int .i64 (r.m : Int), .int .i64 r.v.k, .bool r.v.b, .int .i64 r.v.n, .string r.v.t] 129) = wb := ⟨_, rfl⟩
      have kb : Kp [] wr wb := by rw [← hwb]; exact (Kp.refl _ _).alloc _
      have q0 : ∀ i u, (#[.int .i64 (r.m : Int), .int .i64 r.v.k, .bool r.v.b, .int .i64 r.v.n, .string r.v.t] : Array Value)[i]? = some u → wb.cell? ⟨wr.heap.size, i, none⟩ = some u := fun i u hu => by rw [← hwb]; exact (World.cell?_alloc_new wr _ _ i).trans hu
      have kbd : Kp [] wr wb.drew := kb.drew
      have Pb := P.keep kbd
      have hSS : ∀ A, Kp [] wb.drew A → A.cell? ⟨wr.heap.size, 0, none⟩ = some (.int .i64 (r.m : Int)) ∧ A.cell? ⟨wr.heap.size, 1, none⟩ = some (.int .i64 r.v.k) ∧ A.cell? ⟨wr.heap.size, 2, none⟩ = some (.bool r.v.b) ∧ A.cell? ⟨wr.heap.size, 3, none⟩ = some (.int .i64 r.v.n) ∧ A.cell? ⟨wr.heap.size, 4, none⟩ = some (.string r.v.t) := fun A kA => ⟨kpAt kA (q0 0 _ rfl), kpAt kA (q0 1 _ rfl), kpAt kA (q0 2 _ rfl), kpAt kA (q0 3 _ rfl), kpAt kA (q0 4 _ rfl)⟩
      have hSS' := hid hSS
      have hlt : wr.heap.size < wb.drew.heap.size := by show _ < wb.heap.size; rw [← hwb]; simp
      have hvb := hid (fun W => cValueBytes r.v hxr W)
      have hwr8 : IntKind.u8.wrap (r.m : Int) = (r.m : Int) := by rw [IntKind.wrap_u8]; omega
      have hoc : Hid ((octet r.m).toNat = r.m) := octet_nat r.m (by omega)
      obtain ⟨V, hV⟩ : ∃ V, Hid (rowB r.v = V) := ⟨_, rfl⟩
      simp only [hV.out] at hvb
      have hrb : Hid (runB r = octet r.m :: V) := by show _ = _; unfold runB; rw [hV.out]
      have hpl' : ps.length ≤ 200 := by rw [hpl.out]; omega
      have hS3 : Hid (∀ A B, Kp [] wb.drew A → Kp (blk pa) A B → B.cell? ⟨wr.heap.size, 0, none⟩ = some (.int .i64 (r.m : Int)) ∧ B.cell? ⟨wr.heap.size, 1, none⟩ = some (.int .i64 r.v.k) ∧ B.cell? ⟨wr.heap.size, 2, none⟩ = some (.bool r.v.b) ∧ B.cell? ⟨wr.heap.size, 3, none⟩ = some (.int .i64 r.v.n) ∧ B.cell? ⟨wr.heap.size, 4, none⟩ = some (.string r.v.t)) := fun A B kA kB => by
        obtain ⟨z0, z1, z2, z3, z4⟩ := hSS A kA
        have hq : wr.heap.size ∉ blk pa := fun hm => by have := P.row.lt _ (by rw [ownS]; exact hm); omega
        have hlA : wr.heap.size < A.heap.size := Nat.lt_of_lt_of_le hlt kA.size
        have cc : ∀ i u, A.cell? ⟨wr.heap.size, i, none⟩ = some u → B.cell? ⟨wr.heap.size, i, none⟩ = some u := fun i u hu => (kB.cell (p := ⟨wr.heap.size, i, none⟩) hlA hq).trans hu
        exact ⟨cc _ _ z0, cc _ _ z1, cc _ _ z2, cc _ _ z3, cc _ _ z4⟩
      -- behind both pieces
      have hnext : Hid (∀ X ba va vc, Kp [] wb.drew X → Sees X (some ⟨ba, 0, none⟩) [octet r.m] → wb.drew.heap.size ≤ ba → Sees X va V → (∀ k ∈ blk va, wb.drew.heap.size ≤ k) →
          ∃ X2, X.alloc (.cells #[.slice (some ⟨ba, 0, none⟩) 1 1, .slice va V.length vc] 22) = X2 ∧ Kp [] wb.drew X2 ∧ ∃ v' X3, (Builtin.append_ #[126, 126] 126 #[.slice pa ps.length pc, .slice (some ⟨X.heap.size, 0, none⟩) 2 2]).run Tryz.prog X2 = .ok v' X3 ∧ Kp (blk pa) X2 X3 ∧ ∃ (j' : Nat) (pa' : Option Addr) (pc' : Nat) (ps' : List Bs), j' ≤ R.length ∧ (.int .i64 ((j : Int) + 1) : Value) = .int .i64 j' ∧ v' = .slice pa' ps'.length pc' ∧ PcA w1 X3 pa' pc' ps' ∧ Hid (flatB ps' = (R.take j').flatMap runB) ∧ Hid (ps'.length = 2 * j')) := fun X ba va vc kX hsb hba hsv hvn => by
        have kA : Kp [] X (X.alloc (.cells #[.slice (some ⟨ba, 0, none⟩) 1 1, .slice va V.length vc] 22)) := (Kp.refl _ _).alloc _
        have hs2 := (twoBs X rfl ⟨some ⟨ba, 0, none⟩, 1, [octet r.m]⟩ ⟨va, vc, V⟩ 22)
        have hPX := (Pb.keep kX)
        have hsr := hs2.src (P := Tryz.prog) Tryz.underlying126 2
        have hbn : ∀ k, wb.drew.heap.size ≤ k → k ∉ blk pa := fun k hk hm => by
          have := Pb.row.lt k (by rw [ownS]; exact hm)
          omega
        obtain ⟨v', X3, hrun, hrow3, kk3, hn3⟩ := run_appendG (E := BsE) (P := Tryz.prog) _ 126 126 126 22 i0 (.slice none 0 0) 24 Tryz.underlying126 hi hz0 hz1 hz2 rfl (.slice pa ps.length pc) ps (hPX.keep kA).row _ [⟨some ⟨ba, 0, none⟩, 1, [octet r.m]⟩, ⟨va, vc, V⟩] hsr (by simp; omega) (by simp; omega)
        obtain ⟨a', c', rfl, _⟩ := hrow3.see
        have hn3' : ∀ k ∈ blk a', k ∈ own (.slice pa ps.length pc) ∨ _ ≤ k := fun k hk => hn3 k (by rw [ownS]; exact hk)
        have PP := hPX.app kA (qs := [⟨some ⟨ba, 0, none⟩, 1, [octet r.m]⟩, ⟨va, vc, V⟩]) (fun x hx => by
          simp only [List.mem_cons, List.not_mem_nil, or_false] at hx
          rcases hx with rfl | rfl
          · exact ⟨hsb.kept kA (by simp), fun _ k hk => by simp [blk] at hk; subst hk; exact hbn _ hba⟩
          · exact ⟨hsv.kept kA (by simp), fun _ k hk => hbn k (hvn k hk)⟩) hrow3 rfl kk3 hn3'
        refine ⟨_, rfl, kX.trans kA (by simp), _, X3, hrun, by rw [ownS] at kk3; exact kk3, j + 1, a', c', _, by omega, by go_num, rfl, PP, ?_, ?_⟩
        · show _ = _
          rw [hst.out, ← hfl.out, hrb.out]
          simp [flatB]
        · show _ = _
          simp [hpl.out]; omega
      have hwb' := hid hwb
      obtain ⟨rm, ⟨rk, rb', rn, rt⟩⟩ := r
      dsimp only at *
      unfold Val.v at hvb
      dsimp only at hvb
      clear hwb q0 P Pb kbd hr hst hfl hrb hV hpl hrj hSS
      go_wp2_with fail
      rw [hwb'.out]
      clear a0 a1 a2 a3 a4
      refine wp_region_held_drew (S := (fun A => A.cell? ⟨wr.heap.size, 0, none⟩ = some (.int .i64 (rm : Int)) ∧ A.cell? ⟨wr.heap.size, 1, none⟩ = some (.int .i64 rk) ∧ A.cell? ⟨wr.heap.size, 2, none⟩ = some (.bool rb') ∧ A.cell? ⟨wr.heap.size, 3, none⟩ = some (.int .i64 rn) ∧ A.cell? ⟨wr.heap.size, 4, none⟩ = some (.string rt))) (by kernel_rfl) ?_ (fun hHeld => ?_)
      · exact hSS'.out _ (Kp.refl _ _)
      generalize wb.drew = wd at *
      refine wpAnyH_take (i := 0) (v := ?_) rfl (by kernel_rfl) (by kernel_rfl) (by kernel_rfl) (fun _ _ _ h => h) (Or.inl ⟨by rfl, ?_⟩) (by assumption) ?_
      rotate_left
      · intro w hSw; (try dsimp only at hSw); go_simp <;> with_reducible rfl
      try simp only [Act.put, List.getElem_toArray, List.getElem_cons_zero, List.getElem_cons_succ, List.setIfInBounds_toArray, List.set_cons_zero, List.set_cons_succ]
      refine wpAnyH_take (i := 1) (v := ?_) rfl (by kernel_rfl) (by kernel_rfl) (by kernel_rfl) (fun _ _ _ h => h) (Or.inl ⟨by rfl, ?_⟩) (by assumption) ?_
      rotate_left
      · intro w hSw; (try dsimp only at hSw); go_simp <;> with_reducible rfl
      try simp only [Act.put, List.getElem_toArray, List.getElem_cons_zero, List.getElem_cons_succ, List.setIfInBounds_toArray, List.set_cons_zero, List.set_cons_succ]
      refine wpAnyH_take (i := 2) (v := ?_) rfl (by kernel_rfl) (by kernel_rfl) (by kernel_rfl) (fun _ _ _ h => h) (Or.inl ⟨by rfl, ?_⟩) (by assumption) ?_
      rotate_left
      · intro w hSw; (try dsimp only at hSw); go_simp <;> with_reducible rfl
      try simp only [Act.put, List.getElem_toArray, List.getElem_cons_zero, List.getElem_cons_succ, List.setIfInBounds_toArray, List.set_cons_zero, List.set_cons_succ]
      refine wpAnyH_take (i := 3) (v := ?_) rfl (by kernel_rfl) (by kernel_rfl) (by kernel_rfl) (fun _ _ _ h => h) (Or.inl ⟨by rfl, ?_⟩) (by assumption) ?_
      rotate_left
      · intro w hSw; (try dsimp only at hSw); go_simp <;> with_reducible rfl
      try simp only [Act.put, List.getElem_toArray, List.getElem_cons_zero, List.getElem_cons_succ, List.setIfInBounds_toArray, List.set_cons_zero, List.set_cons_succ]
      refine wpAnyH_take (i := 5) (v := ?_) rfl (by kernel_rfl) (by kernel_rfl) (by kernel_rfl) (fun _ _ _ h => h) (Or.inl ⟨by rfl, ?_⟩) (by assumption) ?_
      rotate_left
      · intro w hSw; (try dsimp only at hSw); go_simp <;> with_reducible rfl
      try simp only [Act.put, List.getElem_toArray, List.getElem_cons_zero, List.getElem_cons_succ, List.setIfInBounds_toArray, List.set_cons_zero, List.set_cons_succ]
      refine wpAnyH_take (i := 6) (v := ?_) rfl (by kernel_rfl) (by kernel_rfl) (by kernel_rfl) (fun _ _ _ h => h) (Or.inl ⟨by rfl, ?_⟩) (by assumption) ?_
      rotate_left
      · intro w hSw; (try dsimp only at hSw); go_simp <;> with_reducible rfl
      try simp only [Act.put, List.getElem_toArray, List.getElem_cons_zero, List.getElem_cons_succ, List.setIfInBounds_toArray, List.set_cons_zero, List.set_cons_succ]
      refine wpAnyH_ready (rs := [4, 7]) (by kernel_rfl) (by simp) ?_
      refine (AllReadyH.cons rfl (fun K hK => ?_) (AllReadyH.cons rfl (fun K hK => ?_) AllReadyH.nil))
      · go_simp
        obtain ⟨y1, hy1, ky1, hsb⟩ : ∃ y, wd.alloc (.cells #[.int .u8 (rm : Int)] 5) = y ∧ Kp [] wd y ∧ Sees y (some ⟨wd.heap.size, 0, none⟩) [octet rm] := ⟨_, rfl, (Kp.refl _ _).alloc _, oneByte wd rfl rm hoc.out _⟩
        rw [hy1]
        (try go_wp2_with fail)
        refine hK.out _ _ ?_ (fun hHeld => ?_)
        · exact hSS'.out _ ky1
        clear hK K
        try simp only [Act.put, List.getElem_toArray, List.getElem_cons_zero, List.getElem_cons_succ, List.setIfInBounds_toArray, List.set_cons_zero, List.set_cons_succ]
        refine wpAnyH_ready (rs := [7]) (by kernel_rfl) (by simp) ?_
        refine AllReadyH.cons rfl (fun K hK => ?_) AllReadyH.nil
        go_simp
        refine (hvb.out y1).mono ?_
        rintro e y2 ⟨va, vc, rfl, hrv, ky2, hvn0⟩
        (try go_wp2_with fail)
        refine hK.out _ _ ?_ (fun hHeld => ?_)
        · exact hSS'.out _ (ky1.trans ky2 (by simp))
        clear hK K
        try simp only [Act.put, List.getElem_toArray, List.getElem_cons_zero, List.getElem_cons_succ, List.setIfInBounds_toArray, List.set_cons_zero, List.set_cons_succ]
        obtain ⟨_, _, ee, hsv, _⟩ := hrv.sees
        cases ee
        have kXX := ky1.trans ky2 (by simp)
        have hsb := hsb.kept ky2 (by simp)
        have hba : wd.heap.size ≤ wd.heap.size := Nat.le_refl _
        have hvn : ∀ k ∈ blk va, wd.heap.size ≤ k := fun k hk => by have := hvn0 k hk; have := ky1.size; omega
        obtain ⟨X2, hX2, kX2, v3, X3, hrun, kk3, hgo⟩ := hnext.out y2 wd.heap.size va vc kXX hsb hba hsv hvn
        have hX2' := hid hX2
        clear hX2 hnext
        refine wpAnyH_ready (rs := [8]) (by kernel_rfl) (by simp) ?_
        refine AllReadyH.cons rfl (fun K hK => ?_) AllReadyH.nil
        go_simp
        rw [hX2'.out]
        (try go_wp2_with fail)
        refine hK.out _ _ ?_ (fun hHeld => ?_)
        · exact hSS'.out _ kX2
        clear hK K
        try simp only [Act.put, List.getElem_toArray, List.getElem_cons_zero, List.getElem_cons_succ, List.setIfInBounds_toArray, List.set_cons_zero, List.set_cons_succ]
        refine wpAnyH_ready (rs := [9]) (by kernel_rfl) (by simp) ?_
        refine AllReadyH.cons rfl (fun K hK => ?_) AllReadyH.nil
        refine stepAppRun rfl _ _ 126 126 rfl _ _ _ rfl rfl hrun ?_
        refine hK.out _ _ ?_ (fun hHeld => ?_)
        · exact hS3.out X2 X3 kX2 kk3
        clear hK K
        try simp only [Act.put, List.getElem_toArray, List.getElem_cons_zero, List.getElem_cons_succ, List.setIfInBounds_toArray, List.set_cons_zero, List.set_cons_succ]
        refine wpAnyH_take (i := 10) (v := ?_) rfl (by kernel_rfl) (by kernel_rfl) (by kernel_rfl) (fun _ _ _ h => h) (Or.inl ⟨by rfl, ?_⟩) (by assumption) ?_
        rotate_left
        · intro w hSw; (try dsimp only at hSw); go_simp <;> with_reducible rfl
        try simp only [Act.put, List.getElem_toArray, List.getElem_cons_zero, List.getElem_cons_succ, List.setIfInBounds_toArray, List.set_cons_zero, List.set_cons_succ]
        refine wpAnyH_done (by kernel_rfl) ?_ _
        go_wp2_with fail
        obtain ⟨j', pa', pc', ps', e1, e2, e3, e4⟩ := hgo
        subst e3
        exact ⟨⟨j', pa', pc', ps', e1, e2, rfl, e4⟩, by simp [intOf]; omega⟩
      · go_simp
        refine (hvb.out wd).mono ?_
        rintro e y2 ⟨va, vc, rfl, hrv, ky2, hvn⟩
        (try go_wp2_with fail)
        refine hK.out _ _ ?_ (fun hHeld => ?_)
        · exact hSS'.out _ ky2
        clear hK K
        try simp only [Act.put, List.getElem_toArray, List.getElem_cons_zero, List.getElem_cons_succ, List.setIfInBounds_toArray, List.set_cons_zero, List.set_cons_succ]
        refine wpAnyH_ready (rs := [4]) (by kernel_rfl) (by simp) ?_
        refine AllReadyH.cons rfl (fun K hK => ?_) AllReadyH.nil
        go_simp
        obtain ⟨y1, hy1, ky1, hsb⟩ : ∃ y, y2.alloc (.cells #[.int .u8 (rm : Int)] 5) = y ∧ Kp [] y2 y ∧ Sees y (some ⟨y2.heap.size, 0, none⟩) [octet rm] := ⟨_, rfl, (Kp.refl _ _).alloc _, oneByte y2 rfl rm hoc.out _⟩
        rw [hy1]
        (try go_wp2_with fail)
        refine hK.out _ _ ?_ (fun hHeld => ?_)
        · exact hSS'.out _ (ky2.trans ky1 (by simp))
        clear hK K
        try simp only [Act.put, List.getElem_toArray, List.getElem_cons_zero, List.getElem_cons_succ, List.setIfInBounds_toArray, List.set_cons_zero, List.set_cons_succ]
        obtain ⟨_, _, ee, hsv0, _⟩ := hrv.sees
        cases ee
        have kXX := ky2.trans ky1 (by simp)
        have hsv := hsv0.kept ky1 (by simp)
        have hba : wd.heap.size ≤ y2.heap.size := ky2.size
        obtain ⟨X2, hX2, kX2, v3, X3, hrun, kk3, hgo⟩ := hnext.out y1 y2.heap.size va vc kXX hsb hba hsv hvn
        have hX2' := hid hX2
        clear hX2 hnext
        refine wpAnyH_ready (rs := [8]) (by kernel_rfl) (by simp) ?_
        refine AllReadyH.cons rfl (fun K hK => ?_) AllReadyH.nil
        go_simp
        rw [hX2'.out]
        (try go_wp2_with fail)
        refine hK.out _ _ ?_ (fun hHeld => ?_)
        · exact hSS'.out _ kX2
        clear hK K
        try simp only [Act.put, List.getElem_toArray, List.getElem_cons_zero, List.getElem_cons_succ, List.setIfInBounds_toArray, List.set_cons_zero, List.set_cons_succ]
        refine wpAnyH_ready (rs := [9]) (by kernel_rfl) (by simp) ?_
        refine AllReadyH.cons rfl (fun K hK => ?_) AllReadyH.nil
        refine stepAppRun rfl _ _ 126 126 rfl _ _ _ rfl rfl hrun ?_
        refine hK.out _ _ ?_ (fun hHeld => ?_)
        · exact hS3.out X2 X3 kX2 kk3
        clear hK K
        try simp only [Act.put, List.getElem_toArray, List.getElem_cons_zero, List.getElem_cons_succ, List.setIfInBounds_toArray, List.set_cons_zero, List.set_cons_succ]
        refine wpAnyH_take (i := 10) (v := ?_) rfl (by kernel_rfl) (by kernel_rfl) (by kernel_rfl) (fun _ _ _ h => h) (Or.inl ⟨by rfl, ?_⟩) (by assumption) ?_
        rotate_left
        · intro w hSw; (try dsimp only at hSw); go_simp <;> with_reducible rfl
        try simp only [Act.put, List.getElem_toArray, List.getElem_cons_zero, List.getElem_cons_succ, List.setIfInBounds_toArray, List.set_cons_zero, List.set_cons_succ]
        refine wpAnyH_done (by kernel_rfl) ?_ _
        go_wp2_with fail
        obtain ⟨j', pa', pc', ps', e1, e2, e3, e4⟩ := hgo
        subst e3
        exact ⟨⟨j', pa', pc', ps', e1, e2, rfl, e4⟩, by simp [intOf]; omega⟩
    · obtain rfl : j = R.length := by omega
      rw [List.take_length, hF.out] at hfl
      have hpl' : ps.length ≤ 1000000 := by rw [hpl.out]; omega
      have hb : (flatB ps).length ≤ 100000000000 := by
        rw [hfl.out, ← hF.out]
        have := flatRun_len (R := R) (fun r hr => (hin.out r hr).1)
        omega
      have hsee2 : BsE.See wr pa ps := by obtain ⟨_, _, e, hs, _⟩ := P.row.see; injection e with e1 e2 e3; rw [e1]; exact hs
      have hjn := cJoin pa pc ps wr hsee2 (fun x hx => (P.see x hx).1) hpl' hb
      rw [hfl.out] at hjn
      have kP := k1.trans P.kp (by simp)
      clear P hsee2 hb hfl
      go_wp2_with fail
      refine hjn.mono ?_
      rintro e w3 ⟨b3, c3, rfl, hrow3, k3, hn3⟩
      go_wp2_with fail
      go_ret
      exact ⟨b3, c3, rfl, hrow3, kP.trans k3 (by simp), fun k hk => by have := hn3 k hk; have := kP.size; omega⟩
end Go.Proofs.YtohbdbecioanaaaGreatDoor
end

section
namespace Go.Proofs.YtohbdbecioanaaaGreatDoor
open Go.RowKit Go.Hay
set_option linter.unusedVariables false
set_option linter.unusedSimpArgs false

theorem octet_shiftS (n : Int) (j : Nat) (hj : j < 8) : octet (n / 2 ^ (8 * j) % 256) = UInt8.ofNat (u64 n / 256 ^ j % 256) := by
  unfold octet u64
  have e : (n / 2 ^ (8 * j) % 256).toNat = (n % 18446744073709551616).toNat / 256 ^ j % 256 := by
    match j, hj with
    | 0, _ | 1, _ | 2, _ | 3, _ | 4, _ | 5, _ | 6, _ | 7, _ => simp; omega
  rw [e]
set_option maxHeartbeats 4000000 in
set_option maxRecDepth 100000 in
theorem cWordBytes (n : Int) (w : World) : Calls Tryz.prog 101 #[.int .i64 n] w (NB (be (u64 n) 8) w) := by
  obtain ⟨i0, hi, hz0, hz1, hz2⟩ := infoU'
  obtain ⟨W1, hmk, hrow1, k1, hs1⟩ := run_makeG (E := BytE) (P := Tryz.prog) w 22 5 i0 (.int .u8 0) 0 1 Tryz.underlying22 hi hz0 hz1 hz2 rfl .i64 .i64 8 (by omega) (by unfold maxLen; omega)
  have hr1 : Row W1 (.slice (some ⟨w.heap.size, 0, none⟩) 8 8) (low8 (u64 n) 0) := rowByt.1 hrow1
  have hmk' : (Instr.makeSlice 22 (.int .i64 8) (.int .i64 8)).run Tryz.prog w = .ok (.slice (some ⟨w.heap.size, 0, none⟩) 8 8) W1 := hmk
  have hlen : (be (u64 n) 8).length = 8 := be_length _ _
  obtain ⟨Bb, hBb⟩ : ∃ Bb, Hid (be (u64 n) 8 = Bb) := ⟨_, rfl⟩
  rw [hBb.out] at hlen ⊢
  have hlen' := hid hlen
  clear hmk hrow1 hlen
  go_enter Tryz.func101, Tryz.ntmps101
  go_wp2_with fail
  go_loopw [6] (fun i wn => ∃ j : Nat, j ≤ 8 ∧ i = .int .i64 j ∧ Row wn (.slice (some ⟨w.heap.size, 0, none⟩) 8 8) (low8 (u64 n) j) ∧ Kp [] w wn) (fun i _ => 8 - (intOf i).toNat)
  case atStart => exact ⟨0, Nat.zero_le _, rfl, hr1, k1⟩
  case round =>
    clear hmk' hr1
    obtain ⟨j, hj, rfl, hrow, kn⟩ := hrel
    by_cases hlt : j < 8
    · have hl8 := low8_length (u64 n) j (by omega)
      have hput := (rowByt.2 hrow).setAt (7 - j) (by rw [hl8]; omega) (UInt8.ofNat (u64 n / 256 ^ j % 256))
      rw [← low8_succ _ _ hlt] at hput
      have hput' := rowByt.1 hput
      have hcf : (∃ u, wr.cell? ⟨w.heap.size, 7 - j, none⟩ = some u) ∧ wr.frozen? ⟨w.heap.size, 7 - j, none⟩ = false := by
        rcases hrow with ⟨e, _⟩ | ⟨g, o, c, e, q1, q2, q3, q4, q5⟩
        · cases e
        · injection e with e1 e2 e3
          injection e1 with e1
          injection e1 with e4 e5
          subst e3 e4 e5
          have := q5 (7 - j) (by omega)
          rw [Nat.zero_add] at this
          exact ⟨Option.isSome_iff_exists.1 this.1, this.2⟩
      obtain ⟨⟨u, hu⟩, hf⟩ := hcf
      have hbd := shift_bd n j
      have hval : Hid ((.int .u8 (n / 2 ^ (8 * j) % 256) : Value) = .int .u8 ((UInt8.ofNat (u64 n / 256 ^ j % 256)).toNat : Int)) := by
        show _ = _
        rw [← octet_shiftS n j hlt, octet_toNat _ hbd.1 hbd.2]
      have eW : Hid (wr.setCells w.heap.size (0 + (7 - j) * BytE.n) (BytE.c (UInt8.ofNat (u64 n / 256 ^ j % 256))) = wr.setCell ⟨w.heap.size, 7 - j, none⟩ (.int .u8 (n / 2 ^ (8 * j) % 256))) := by
        show _ = _
        rw [hval.out]
        have : BytE.n = 1 := rfl
        rw [this]
        simp [BytE, World.setCells]
      rw [eW.out] at hput'
      have kf : Kp [] w (wr.setCell ⟨w.heap.size, 7 - j, none⟩ (.int .u8 (n / 2 ^ (8 * j) % 256))) := kn.setCell (p := ⟨w.heap.size, 7 - j, none⟩) (.inr (by simp)) _
      clear hput hval eW hrow hbd
      go_wp2_with fail
      exact ⟨⟨j + 1, by omega, by go_num, hput', kf⟩, by simp [intOf]; omega⟩
    · obtain rfl : j = 8 := by omega
      rw [low8_all, hBb.out] at hrow
      have hfin : NB Bb w (.returned (.slice (some ⟨w.heap.size, 0, none⟩) 8 8)) wr := ⟨_, 8, by rw [hlen'.out], by rw [hlen'.out]; exact hrow, kn, fun k hk => by simp [blk] at hk; omega⟩
      clear hrow
      go_wp2_with fail
      go_ret
      exact hfin
/-- A difference, folded. -/
def zig (d : Int) : Int := if 0 ≤ d then 2 * d else -2 * d - 1
theorem zig_bd {d : Int} (h1 : -9223372036854775808 ≤ d) (h2 : d < 9223372036854775808) : 0 ≤ zig d ∧ zig d < 18446744073709551616 := by unfold zig; split <;> omega
theorem u64_not (a : Nat) (ha : a < 18446744073709551616) : bits .xor .u64 IntKind.u64.max (a : Int) = 18446744073709551615 - (a : Int) := by
  show IntKind.u64.wrap ((BitVec.ofInt 64 IntKind.u64.max ^^^ BitVec.ofInt 64 (a : Int)).toNat : Int) = _
  have h1 : BitVec.ofInt 64 IntKind.u64.max = BitVec.allOnes 64 := by decide
  rw [h1, BitVec.allOnes_xor, BitVec.toNat_not, ofInt_u64 a (by omega)]
  simp [IntKind.wrap, IntKind.bits, IntKind.signed]
  omega
theorem cFold (d : Int) (w : World) (h1 : -9223372036854775808 ≤ d) (h2 : d < 9223372036854775808) : Calls Tryz.prog 103 #[.int .i64 d] w fun e w' => e = .returned (.int .u64 (zig d)) ∧ w' = w := by
  by_cases h : 0 ≤ d
  · have hz : zig d = 2 * d := by unfold zig; rw [if_pos h]
    rw [hz]
    clear hz
    have hn : ¬ d < 0 := by omega
    go_enter Tryz.func103, Tryz.ntmps103
    go_wp2_with fail
    go_ret
    exact ⟨rfl, rfl⟩
  · have hz : zig d = -2 * d - 1 := by unfold zig; rw [if_neg h]
    rw [hz]
    clear hz
    have hn : d < 0 := by omega
    have e1 : bits BinOp.xor IntKind.u64 IntKind.u64.max (IntKind.u64.wrap (2 * IntKind.u64.wrap d)) = -2 * d - 1 := by
      have e2 : IntKind.u64.wrap (2 * IntKind.u64.wrap d) = ((2 * d + 18446744073709551616).toNat : Int) := by rw [IntKind.wrap_u64, IntKind.wrap_u64]; omega
      rw [e2, u64_not _ (by omega)]
      omega
    have e1' := hid e1
    clear e1
    go_enter Tryz.func103, Tryz.ntmps103
    go_wp2_with fail
    go_ret
    rw [e1'.out]
    exact ⟨rfl, rfl⟩
/-- A number, seven bits a byte. -/
def gB (z : Nat) : List UInt8 := if h : z < 128 then [UInt8.ofNat z] else UInt8.ofNat (z % 128 + 128) :: gB (z / 128)
termination_by z
decreasing_by omega
theorem gB_lo {z : Nat} (h : z < 128) : gB z = [UInt8.ofNat z] := by rw [gB, dif_pos h]
theorem gB_hi {z : Nat} (h : ¬ z < 128) : gB z = UInt8.ofNat (z % 128 + 128) :: gB (z / 128) := by rw [gB, dif_neg h]
theorem gB_len : ∀ (k z : Nat), z < 128 ^ (k + 1) → (gB z).length ≤ k + 1
  | 0, z, h => by rw [gB_lo (by simpa using h)]; simp
  | k + 1, z, h => by
    by_cases h1 : z < 128
    · rw [gB_lo h1]; simp
    · rw [gB_hi h1]
      have := gB_len k (z / 128) (by rw [Nat.div_lt_iff_lt_mul (by omega)]; rw [Nat.pow_succ] at h; exact h)
      simp; omega
theorem gB_len64 (z : Nat) (h : z < 18446744073709551616) : (gB z).length ≤ 10 := gB_len 9 z (by omega)
set_option maxRecDepth 100000 in
theorem or128 (z : Nat) : bits .or .u8 ((z : Int) % 256) 128 = ((UInt8.ofNat (z % 128 + 128)).toNat : Int) := by
  have e : (z : Int) % 256 = ((z % 256 : Nat) : Int) := by omega
  have h := u8_or_nat (z % 256) 128 (by omega) (by omega)
  rw [e]
  show bits .or .u8 ((z % 256 : Nat) : Int) ((128 : Nat) : Int) = _
  rw [h]
  have d : ∀ x, x < 256 → x ||| 128 = x % 128 + 128 := by decide
  rw [d _ (by omega)]
  have : (UInt8.ofNat (z % 128 + 128)).toNat = z % 128 + 128 := by simp; omega
  rw [this]
  omega
theorem oneB (w : World) {q : Nat} (hq : w.heap.size = q) (x : UInt8) (v : Int) (hv : v = (x.toNat : Int)) (t : TypeId) : Sees (w.alloc (.cells #[.int .u8 v] t)) (some ⟨q, 0, none⟩) [x] := by
  subst hq hv
  refine .inr ⟨_, 0, rfl, fun j u hu => ?_⟩
  have e : (w.alloc (.cells #[.int .u8 (x.toNat : Int)] t)).cell? ⟨w.heap.size, 0 + j, none⟩ = _ := World.cell?_alloc_new w _ _ (0 + j)
  rw [e, Nat.zero_add]
  cases j with
  | zero => simp at hu; subst hu; rfl
  | succ j => simp at hu
set_option maxHeartbeats 4000000 in
set_option maxRecDepth 100000 in
theorem cGroups (z : Nat) (w : World) (hz : z < 18446744073709551616) : Calls Tryz.prog 102 #[.int .u64 (z : Int)] w (NB (gB z) w) := by
  obtain ⟨i0, hi, hz0, hz1, hz2⟩ := infoU'
  have hgl := gB_len64 z hz
  obtain ⟨F, hF⟩ : ∃ F, Hid (gB z = F) := ⟨_, rfl⟩
  rw [hF.out] at hgl ⊢
  have R0 : Hid (BytE.Row w (.slice none 0 0) []) := .inl ⟨rfl, rfl⟩
  go_enter Tryz.func102, Tryz.ntmps102
  go_wp2_with fail
  go_loopw [0, 3] (fun vz vb wn => ∃ (y : Nat) (a : Option Addr) (c : Nat) (bs : List UInt8), vz = .int .u64 (y : Int) ∧ vb = .slice a bs.length c ∧ y < 18446744073709551616 ∧ BytE.Row wn (.slice a bs.length c) bs ∧ Kp [] w wn ∧ (∀ k ∈ blk a, w.heap.size ≤ k) ∧ Hid (bs ++ gB y = F)) (fun vz _ _ => (intOf vz).toNat)
  case atStart => exact ⟨z, none, 0, [], rfl, rfl, hz, R0.out, Kp.refl _ _, by simp [blk], hF⟩
  case round =>
    clear R0
    obtain ⟨y, a, c, bs, rfl, rfl, hy, hrow, kn, hn, hbs⟩ := hrel
    have hbl : bs.length ≤ 10 := by have := congrArg List.length hbs.out; simp at this; omega
    have hnw : ∀ k ∈ own (.slice a bs.length c), w.heap.size ≤ k := fun k hk => hn k (by rw [ownS] at hk; exact hk)
    by_cases hlt : y < 128
    · have hb2 : Hid (bs ++ [UInt8.ofNat y] = F) := by show _ = _; rw [← gB_lo hlt]; exact hbs.out
      have hwv : IntKind.u8.wrap (y : Int) = (y : Int) := by rw [IntKind.wrap_u8]; omega
      have ho : (y : Int) = ((UInt8.ofNat y).toNat : Int) := by simp; omega
      have hsee := oneB wr rfl (UInt8.ofNat y) (y : Int) ho 5
      have kb : Kp [] wr (wr.alloc (.cells #[.int .u8 (y : Int)] 5)) := (Kp.refl _ _).alloc _
      have hsr := (seeByt.2 hsee).src (P := Tryz.prog) Tryz.underlying22 1
      have hrowb := hrow.keptNew kb
      have ho' := hid ho
      clear hbs hrow hsee ho
      go_wp2_with (first | (refine wpAppG (E := BytE) rfl _ _ 22 22 5 rfl i0 _ 1 Tryz.underlying22 hi hz0 hz1 hz2 rfl _ bs rfl hrowb _ [UInt8.ofNat y] rfl hsr (by simp; omega) (by simp; omega) ?_; intro ys a' c' w' hy' hrow' hg' hn') | fail)
      go_ret
      have e : ys = F := by rw [hy'.out]; exact hb2.out
      subst e
      refine ⟨a', c', rfl, rowByt.1 hrow', (kn.trans kb (by simp)).trans hg' (fun k hk => .inr (hnw k hk)), fun k hk => ?_⟩
      rcases hn' k hk with h1 | h1
      · exact hnw k h1
      · have := kn.size; have := kb.size; omega
    · have hb2 : Hid (bs ++ [UInt8.ofNat (y % 128 + 128)] ++ gB (y / 128) = F) := by show _ = _; rw [← hbs.out, gB_hi hlt]; simp
      have ho := or128 y
      have hsee := oneB wr rfl (UInt8.ofNat (y % 128 + 128)) _ ho 5
      have kb : Kp [] wr (wr.alloc (.cells #[.int .u8 (bits .or .u8 ((y : Int) % 256) 128)] 5)) := (Kp.refl _ _).alloc _
      have hsr := (seeByt.2 hsee).src (P := Tryz.prog) Tryz.underlying22 1
      have hrowb := hrow.keptNew kb
      obtain ⟨V, hV⟩ : ∃ V, Hid (bits .or .u8 ((y : Int) % 256) 128 = V) := ⟨_, rfl⟩
      have hVe : bits .or .u8 ((y : Int) % 256) 128 = V := hV.out
      rw [hV.out] at hsr hrowb kb
      clear hbs hrow hsee ho
      go_wp2_with (first | (refine wpAppG (E := BytE) rfl _ _ 22 22 5 rfl i0 _ 1 Tryz.underlying22 hi hz0 hz1 hz2 rfl _ bs rfl hrowb _ [UInt8.ofNat (y % 128 + 128)] rfl hsr (by simp; omega) (by simp; omega) ?_; intro ys a' c' w' hy' hrow' hg' hn') | fail)
      refine ⟨⟨y / 128, a', c', ys, by go_num, rfl, by omega, hrow', (kn.trans kb (by simp)).trans hg' (fun k hk => .inr (hnw k hk)), fun k hk => ?_, by show _ = _; rw [hy'.out]; exact hb2.out⟩, ?_⟩
      · rcases hn' k hk with h1 | h1
        · exact hnw k h1
        · have := kn.size; have := kb.size; omega
      · simp [intOf]; omega
end Go.Proofs.YtohbdbecioanaaaGreatDoor
end

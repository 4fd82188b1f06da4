/- Recover: lists as they are told, for the laws; right. Recover: arguments opened. (mkrvx.py) RecoverMissing's walk. -/
import Derived.Test.YtebkkdoggagcdaaB12
import Derived.Test.YtebkkdoggagcdaaB10
import Derived.Test.YtebkkdoggagcdaaB11
section
namespace Go.Proofs.Ytebkkdoggagcdaa
open Go.RowKit Go.Hay
attribute [local go_sem] Oper.semAt_some
set_option linter.unusedVariables false
set_option linter.unusedSimpArgs false

/-- Versions that came in, or that are taken as they are. -/
structure InV (a : Option Addr) (c : Nat) (l : List Vn) (W : World) : Prop where
  see : VnE.See W a l
  nil : a = none → c = 0
  few : l.length ≤ 1000000000000
  ok : ∀ x ∈ l, VnOk W x
  rg : ∀ x ∈ l, VnR x
theorem InV.kp {a : Option Addr} {c : Nat} {l : List Vn} {W W' : World} (h : InV a c l W) (k : Kp [] W W') : InV a c l W' := ⟨h.see.keptNew k, h.nil, h.few, fun x hx => (h.ok x hx).kept k, h.rg⟩
/-- Versions that were told: they are those of R. -/
structure Tld (R : List Vn) (a : Option Addr) (c : Nat) (L : List Vn) (W : World) : Prop where
  i : InV a c L W
  like : Like L R
theorem Tld.kp {R : List Vn} {a : Option Addr} {c : Nat} {L : List Vn} {W W' : World} (h : Tld R a c L W) (k : Kp [] W W') : Tld R a c L W' := ⟨h.i.kp k, h.like⟩
def TldP (R : List Vn) (w : World) (e : Ending) (w' : World) : Prop := ∃ r c L, e = .returned (.slice r L.length c) ∧ Tld R r c L w' ∧ Kp [] w w'
theorem LvP.tld {R : List Vn} {w : World} {e : Ending} {w' : World} (h : LvP R w e w') (hf : R.length ≤ 1000000000000) (hr : ∀ x ∈ R, VnR x) : TldP R w e w' := by
  obtain ⟨ra, rc, M, rfl, hlv, hlk, k⟩ := h
  exact ⟨ra, rc, M, rfl, ⟨⟨hlv.see, hlv.cap, by rw [hlk.len]; exact hf, hlv.ok, like_vnr hlk hr⟩, hlk⟩, k⟩
theorem VnR.era {x : Vn} (h : VnR x) {d : Int} (hd : 0 ≤ d ∧ d < 18446744073709551616) : VnR (erased x d) := ⟨h.e, h.n, hd⟩
theorem upto_rg {l : List Vn} (h : ∀ x ∈ l, VnR x) (e : Int) : ∀ x ∈ uptoV l e, VnR x := fun x hx => by
  unfold uptoV at hx
  obtain ⟨y, hy, rfl⟩ := List.mem_map.1 hx
  have := h y (once_mem (List.mem_filter.1 hy).1)
  unfold Go.Hay.asV
  split
  · exact this.era (by omega)
  · exact this
theorem chg_rg {l : List Vn} (h : ∀ x ∈ l, VnR x) (s e : Int) : ∀ x ∈ chgV l s e, VnR x := fun x hx => upto_rg h e x (beh_sub hx)
theorem mrg_rg {l m : List Vn} (h : ∀ x ∈ l, VnR x) (k : ∀ x ∈ m, VnR x) : ∀ x ∈ mrgV l m, VnR x := fun x hx => by
  unfold mrgV at hx
  obtain ⟨y, hy, rfl⟩ := List.mem_map.1 hx
  have hy' : VnR y := by
    rcases List.mem_append.1 (once_mem hy) with h1 | h1
    · exact h y h1
    · exact k y h1
  unfold mrgG
  split
  · refine hy'.era ?_
    unfold delOf
    cases e : lk m y.id with
    | none => dsimp only; omega
    | some z => exact (k z (lk_mem e)).d
  · exact hy'
theorem tUpto {a : Option Addr} {c : Nat} {l : List Vn} {W : World} (h : InV a c l W) (e : Int) : Calls Try.prog 10 #[.slice a l.length c, .int .u64 e] W (TldP (uptoV l e) W) :=
  (cUpto a c l e W h.see h.nil (by have := h.few; omega) h.ok).mono fun _ _ q => LvP.tld q (Nat.le_trans (upto_len l e) h.few) (upto_rg h.rg e)
theorem tChg {a : Option Addr} {c : Nat} {l : List Vn} {W : World} (h : InV a c l W) (s e : Int) : Calls Try.prog 11 #[.slice a l.length c, .int .u64 s, .int .u64 e] W (TldP (chgV l s e) W) :=
  (cChanges a c l s e W h.see h.nil (by have := h.few; omega) h.ok).mono fun _ _ q => LvP.tld q (Nat.le_trans (chgF_len _ _) (Nat.le_trans (upto_len l e) h.few)) (chg_rg h.rg s e)
theorem tMrg {a b : Option Addr} {c d : Nat} {l m : List Vn} {R S : List Vn} {W : World} (h : InV a c l W) (k : InV b d m W) (hl : Like l R) (hm : Like m S) (hf : R.length + S.length ≤ 1000000000000) : Calls Try.prog 16 #[.slice a l.length c, .slice b m.length d] W (TldP (mrgV R S) W) :=
  (cMerged a b c d l m W h.see h.nil k.see k.nil (by rw [hl.len, hm.len]; omega) (fun x hx => by
    rcases List.mem_append.1 hx with hx | hx
    · exact h.ok x hx
    · exact k.ok x hx) (fun x hx => by
    rcases List.mem_append.1 hx with hx | hx
    · exact h.rg x hx
    · exact k.rg x hx)).mono fun _ _ q => by
    obtain ⟨ra, rc, M, rfl, hlv, hlk, k1⟩ := q
    exact ⟨ra, rc, M, rfl, ⟨⟨hlv.see, hlv.cap, by rw [hlk.len]; exact Nat.le_trans (mrg_len l m) (by rw [hl.len, hm.len]; exact hf), hlv.ok, like_vnr hlk (mrg_rg h.rg k.rg)⟩, hlk.trans (mrg_like hl hm)⟩, k1⟩
theorem tSame {a b : Option Addr} {c d : Nat} {l m : List Vn} {W : World} (h : InV a c l W) (k : InV b d m W) (hl : Like l m) : Calls Try.prog 13 #[.slice a l.length c, .slice b m.length d] W fun e w' => e = .returned (.bool true) ∧ Kp [] W w' :=
  rSameAll a b c d l m W h.see k.see h.ok k.ok hl (by have := h.few; omega)
set_option maxHeartbeats 16000000 in
set_option maxRecDepth 100000 in
theorem rRight (a : Option Addr) (c : Nat) (l : List Vn) (w : World) (hs : VnE.See w a l) (hl : l.length ≤ 4000000000000) :
    Calls Try.prog 18 #[.slice a l.length c] w fun e w' => e = .returned (.bool (rightV l)) ∧ Kp [] w w' := by
  have HS := hid hs
  obtain ⟨U, hU⟩ : ∃ U, Hid (rightV l = U) := ⟨_, hid rfl⟩
  rw [hU.out]
  clear hs
  go_enter Try.func18, Try.ntmps18
  go_wp2_with fail
  go_loopw [7] (fun i wr => ∃ j : Nat, j ≤ l.length ∧ i = .int .i64 (j : Int) ∧ Hid (∀ x ∈ l.take j, rgt x = true) ∧ Hid (Kp [] w wr)) (fun i _ => l.length - (intOf i).toNat)
  case atStart => exact ⟨0, Nat.zero_le _, rfl, hid (by simp), hid (Kp.refl _ _)⟩
  case round =>
    obtain ⟨j, hj, rfl, hall, kr⟩ := hrel
    by_cases hlt : j < l.length
    · have htk : Hid (l.take (j + 1) = l.take j ++ [l[j]]) := hid (List.take_succ_eq_append_getElem hlt)
      obtain ⟨g, o, ea, x0, x1, x2, x3⟩ := idAt (HS.out.keptNew kr.out) (i := j) (x := l[j]) (by simp [hlt])
      have hmem := hid (List.getElem_mem hlt)
      obtain ⟨x, hx⟩ : ∃ x, Hid (l[j] = x) := ⟨l[j], hid rfl⟩
      rw [hx.out] at x0 x1 x2 x3 htk hmem
      have hyes : Hid (rgt x = true → ∀ z ∈ l.take (j + 1), rgt z = true) := hid fun e z hz => by
        rw [htk.out] at hz
        rcases List.mem_append.1 hz with hz | hz
        · exact hall.out z hz
        · rw [List.mem_singleton.1 hz]; exact e
      have hno : Hid (rgt x = false → U = false) := hid fun e => by
        rw [← hU.out]
        unfold rightV
        rw [List.all_eq_false]
        exact ⟨x, hmem.out, by rw [e]; simp⟩
      have hrg : Hid (rgt x = (decide (x.del = 0) || decide (x.ep < x.del))) := hid rfl
      obtain ⟨xe, xn, xa, xc, xr, xd⟩ := x
      dsimp only at x0 x1 x2 x3 hrg
      obtain ⟨q7, W1, W2, eq7, eW1, b1, eW2, b2, kW2⟩ := boxVn wr xe xn xa xr.length xc xd
      have m0 := b1.get 0 _ rfl; have m1 := b1.get 1 _ rfl; have m2 := b1.get 2 _ rfl; have m3 := b1.get 3 _ rfl
      have f0 := b1.free 0; have f1 := b1.free 1; have f2 := b1.free 2; have f3 := b1.free 3
      have v0 := b2.get 0 _ rfl; have v1 := b2.get 1 _ rfl; have v2 := b2.get 2 _ rfl; have v3 := b2.get 3 _ rfl
      have kA1 : Kp [] wr W1 := by rw [← eW1]; exact (Kp.refl [] wr).alloc _
      have g0 := kpAt kA1 x0; have g1 := kpAt kA1 x1; have g2 := kpAt kA1 x2; have g3 := kpAt kA1 x3
      have K2 := hid (kr.out.trans kW2 (by simp))
      have i1 : (0 : Int) ≤ (j : Int) := by omega
      have i2 : (j : Int) < (l.length : Int) := by omega
      have i3 : (j : Int) + 1 ≤ 9223372036854775807 := by omega
      subst ea
      clear b1 b2 kW2 kA1
      by_cases hd : xd = 0
      · have e1 : (xd != 0) = false := by simpa using hd
        have hn := hid (hyes.out (by rw [hrg.out]; simp [hd]))
        clear hd hyes hno hrg
        go_wp2_with fail
        go_roundw
        case rel => exact ⟨j + 1, by omega, by go_num, hn, K2⟩
        case measure => simp [intOf]; omega
      · have e1 : (xd != 0) = true := by simpa using hd
        by_cases he : xd ≤ xe
        · have e2 : decide (xd ≤ xe) = true := decide_eq_true he
          have hn := hid (hno.out (by rw [hrg.out]; simp [hd]; omega))
          clear hd he hyes hno hrg
          go_wp2_with fail
          go_ret
          rw [hn.out]
          exact ⟨rfl, K2.out⟩
        · have e2 : decide (xd ≤ xe) = false := decide_eq_false he
          have hn := hid (hyes.out (by rw [hrg.out]; simp; omega))
          clear hd he hyes hno hrg
          go_wp2_with fail
          go_roundw
          case rel => exact ⟨j + 1, by omega, by go_num, hn, K2⟩
          case measure => simp [intOf]; omega
    · obtain rfl : j = l.length := by omega
      have hfin : Hid (U = true) := hid (by rw [← hU.out]; exact List.all_eq_true.2 (fun x hx => hall.out x (by rw [List.take_length]; exact hx)))
      go_wp2_with fail
      go_ret
      rw [hfin.out]
      exact ⟨rfl, kr.out⟩
end Go.Proofs.Ytebkkdoggagcdaa
end

section
namespace Go.Proofs.Ytebkkdoggagcdaa
open Go.ChangeShapes Go.WideShapes Go.ChangeAt Go.RowKit Go.Hay
set_option linter.unusedVariables false
set_option linter.unusedSimpArgs false

theorem cellsValR : Try.prog.cellsOf 36 = 4 := by kernel_rfl
theorem bytesValR : Try.prog.bytesOf 36 = 40 := by kernel_rfl
theorem cellsInR : Try.prog.cellsOf 3 = 1 := by kernel_rfl
theorem cellsBoR : Try.prog.cellsOf 4 = 1 := by kernel_rfl
theorem cellsLoR : Try.prog.cellsOf 2 = 1 := by kernel_rfl
theorem cellsStR : Try.prog.cellsOf 9 = 1 := by kernel_rfl
theorem cellsU8R : Try.prog.cellsOf 23 = 1 := by kernel_rfl
theorem cellsU4R : Try.prog.cellsOf 29 = 1 := by kernel_rfl
theorem cellsRwR : Try.prog.cellsOf 32 = 1 := by kernel_rfl
theorem cellsRiR : Try.prog.cellsOf 31 = 2 := by kernel_rfl
theorem cellsVnR : Try.prog.cellsOf 34 = 4 := by kernel_rfl
theorem bytesVnR : Try.prog.bytesOf 34 = 48 := by kernel_rfl
/-- A version that came in: all but how great its row may be. -/
structure VnI (w : World) (x : Vn) : Prop where
  rg : VnR x
  see : VE.See w x.a x.row
  cap : x.row.length ≤ x.c
  nil : x.a = none → x.c = 0
def FewV (x : Vn) : Prop := x.row.length * 40 ≤ 140737488355328
theorem VnI.ok {w : World} {x : Vn} (h : VnI w x) (f : FewV x) : VnOk w x := ⟨h.see, h.cap, h.nil, f⟩
section
variable {H : Type} {enc : TypeId × Value → H} {W : World}
theorem openVl {fuel : Nat} {cs : List Value} {x : DataW H × List MemPlace} (h : DataW.trod enc Try.prog W 0 (fun _ => true) true fuel 36 cs = some x) (hcs : cs.length = 4) :
    ∃ t : Val, cs = VE.c t := by
  obtain ⟨c0, c1, c2, c3, rfl⟩ : ∃ c0 c1 c2 c3, cs = [c0, c1, c2, c3] := by
    match cs, hcs with
    | [c0, c1, c2, c3], _ => exact ⟨c0, c1, c2, c3, rfl⟩
  obtain ⟨xs, n, _, rfl, _, hlen, hf⟩ := DataW.trod_struct Try.underlying36 h
  match xs, hlen with
  | [y0, y1, y2, y3], _ =>
    have h0 := hf 0 _ rfl
    have h1 := hf 1 _ rfl
    have h2 := hf 2 _ rfl
    have h3 := hf 3 _ rfl
    simp [cellsInR, cellsBoR, cellsLoR, cellsStR] at h0 h1 h2 h3
    obtain ⟨k, e0, _, w0⟩ := DataW.trod_int Try.underlying3 h0
    obtain ⟨b, e1, _⟩ := DataW.trod_bool Try.underlying4 h1
    obtain ⟨n2, e2, _, w2⟩ := DataW.trod_int Try.underlying2 h2
    obtain ⟨s, e3, _, w3⟩ := DataW.trod_string Try.underlying9 h3
    simp at e0 e1 e2 e3
    subst e0 e1 e2 e3
    exact ⟨⟨k, b, n2, s⟩, rfl⟩
theorem openRw {fuel : Nat} {c : Value} {x : DataW H × List MemPlace} (h : DataW.trod enc Try.prog W 0 (fun _ => true) true fuel 32 [c] = some x) :
    ∃ (a : Option Addr) (cap : Nat) (l : List Val), c = .slice a l.length cap ∧ VE.See W a l ∧ l.length ≤ cap ∧ (a = none → cap = 0) ∧ (Fit 32 x.1 → l.length * 40 ≤ 140737488355328) := by
  have hv : ∃ a len cap, c = .slice a len cap := by
    rcases Go.Deep.open_slice Try.underlying32 h with ⟨hcs, _⟩ | ⟨a, len, cap, _, _, _, _, hcs, _⟩
    · exact ⟨none, 0, 0, by simpa using hcs⟩
    · exact ⟨_, _, _, by simpa using hcs⟩
  obtain ⟨a, len, cap, rfl⟩ := hv
  obtain ⟨l, rfl, hs, _, hl, hm, hn, hfit, _, hbk⟩ := openEls VE Try.underlying32 cellsValR 40 bytesValR (fun _ => True) (fun _ => True) (fun _ => 0)
    (fun fuel cs x hx hcs => by
      obtain ⟨t, e⟩ := openVl hx hcs
      exact ⟨t, trivial, e, fun _ => trivial, Nat.zero_le _⟩) (d := x.1) (ps := x.2) ⟨fuel, h⟩
  exact ⟨a, cap, l, rfl, hs, hl, hn, fun hf => by have := (hfit hf).1; omega⟩
theorem openRi {fuel : Nat} {c0 c1 : Value} {x : DataW H × List MemPlace} (h : DataW.trod enc Try.prog W 0 (fun _ => true) true fuel 31 [c0, c1] = some x) :
    ∃ e n : Int, c0 = .int .u64 e ∧ c1 = .int .u32 n ∧ (0 ≤ e ∧ e < 18446744073709551616) ∧ (0 ≤ n ∧ n < 4294967296) := by
  obtain ⟨xs, n, _, rfl, _, hlen, hf⟩ := DataW.trod_struct Try.underlying31 h
  match xs, hlen with
  | [y0, y1], _ =>
    have h0 := hf 0 _ rfl
    have h1 := hf 1 _ rfl
    simp [cellsU8R, cellsU4R] at h0 h1
    obtain ⟨k, e0, _, w0⟩ := DataW.trod_int Try.underlying23 h0
    obtain ⟨m, e1, _, w1⟩ := DataW.trod_int Try.underlying29 h1
    simp at e0 e1
    have b0 := bounds_u64 w0
    have b1 := bounds_u32 w1
    exact ⟨k, m, e0, e1, by omega, by omega⟩
theorem openVn {fuel : Nat} {cs : List Value} {x : DataW H × List MemPlace} (h : DataW.trod enc Try.prog W 0 (fun _ => true) true fuel 34 cs = some x) (hcs : cs.length = 4) :
    ∃ y : Vn, VnI W y ∧ cs = VnE.c y ∧ (Fit 34 x.1 → FewV y) ∧ 0 ≤ Rows.uptoBulk x.1 := by
  obtain ⟨c0, c1, c2, c3, rfl⟩ : ∃ c0 c1 c2 c3, cs = [c0, c1, c2, c3] := by
    match cs, hcs with
    | [c0, c1, c2, c3], _ => exact ⟨c0, c1, c2, c3, rfl⟩
  obtain ⟨xs, n, _, rfl, _, hlen, hf⟩ := DataW.trod_struct Try.underlying34 h
  match xs, hlen with
  | [y0, y1, y2], _ =>
    have h0 := hf 0 _ rfl
    have h1 := hf 1 _ rfl
    have h2 := hf 2 _ rfl
    simp [cellsRiR, cellsRwR, cellsU8R] at h0 h1 h2
    obtain ⟨e, n, rfl, rfl, e0, n0⟩ := openRi h0
    obtain ⟨a, cap, l, rfl, hs, hl, hn, hfew⟩ := openRw h1
    obtain ⟨d, ed, _, wd⟩ := DataW.trod_int Try.underlying23 h2
    simp at ed
    subst ed
    refine ⟨⟨e, n, a, cap, l, d⟩, ⟨⟨e0, n0, by have b2 := bounds_u64 wd; dsimp only; omega⟩, hs, hl, hn⟩, rfl, fun hfit => hfew (List.all_eq_true.2 fun z hz => List.all_eq_true.1 hfit z ?_), Nat.zero_le _⟩
    simp only [List.map_cons, List.map_nil, DataW.weights, Try.underlying34]
    simp [DataW.weightsEach, hz]
theorem openVers {a : Option Addr} {len cap : Nat} {d : DataW H} {ps : List MemPlace} (h : DataW.Trod enc Try.prog W 0 (fun _ => true) true 22 (.slice a len cap) d ps) :
    ∃ l : List Vn, len = l.length ∧ VnE.See W a l ∧ (∀ y ∈ l, VnI W y) ∧ l.length ≤ cap ∧ cap ≤ maxLen ∧ (a = none → cap = 0) ∧ (Fit 22 d → cap * 48 ≤ 140737488351232 ∧ ∀ y ∈ l, FewV y) ∧ (l.map fun y => 0).sum ≤ Rows.uptoBulk d ∧ cap + 1 ≤ Rows.uptoBulk d :=
  openEls VnE Try.underlying22 cellsVnR 48 bytesVnR (fun y => VnI W y) FewV (fun y => 0) (fun fuel cs x hx hcs => openVn hx hcs) h
theorem cellsSgR : Try.prog.cellsOf 50 = 2 := by kernel_rfl
theorem bytesSgR : Try.prog.bytesOf 50 = 16 := by kernel_rfl
theorem cellsHlR : Try.prog.cellsOf 61 = 3 := by kernel_rfl
theorem bytesHlR : Try.prog.bytesOf 61 = 40 := by kernel_rfl
theorem cellsVsR : Try.prog.cellsOf 22 = 1 := by kernel_rfl
theorem openSgR {fuel : Nat} {cs : List Value} {x : DataW H × List MemPlace} (h : DataW.trod enc Try.prog W 0 (fun _ => true) true fuel 50 cs = some x) (hcs : cs.length = 2) :
    ∃ y : Sgm, (I64 y.p ∧ I64 y.s) ∧ cs = SgE.c y ∧ (Fit 50 x.1 → True) ∧ 0 ≤ Rows.uptoBulk x.1 := by
  obtain ⟨c0, c1, rfl⟩ : ∃ c0 c1, cs = [c0, c1] := by
    match cs, hcs with
    | [c0, c1], _ => exact ⟨c0, c1, rfl⟩
  obtain ⟨xs, n, _, rfl, _, hlen, hf⟩ := DataW.trod_struct Try.underlying50 h
  match xs, hlen with
  | [y0, y1], _ =>
    have h0 := hf 0 _ rfl
    have h1 := hf 1 _ rfl
    simp [cellsInR] at h0 h1
    obtain ⟨k, e0, _, w0⟩ := DataW.trod_int Try.underlying3 h0
    obtain ⟨m, e1, _, w1⟩ := DataW.trod_int Try.underlying3 h1
    simp at e0 e1
    subst e0 e1
    have b0 := bounds_i64 w0
    have b1 := bounds_i64 w1
    exact ⟨⟨k, m⟩, ⟨⟨by dsimp only; omega, by dsimp only; omega⟩, ⟨by dsimp only; omega, by dsimp only; omega⟩⟩, rfl, fun _ => trivial, Nat.zero_le _⟩
theorem openSegs {a : Option Addr} {len cap : Nat} {d : DataW H} {ps : List MemPlace} (h : DataW.Trod enc Try.prog W 0 (fun _ => true) true 46 (.slice a len cap) d ps) :
    ∃ l : List Sgm, len = l.length ∧ SgE.See W a l ∧ (∀ y ∈ l, I64 y.p ∧ I64 y.s) ∧ l.length ≤ cap ∧ cap ≤ maxLen ∧ (a = none → cap = 0) ∧ (Fit 46 d → cap * 16 ≤ 140737488351232 ∧ ∀ y ∈ l, True) ∧ (l.map fun y => 0).sum ≤ Rows.uptoBulk d ∧ cap + 1 ≤ Rows.uptoBulk d :=
  haveI : Inhabited Sgm := ⟨⟨0, 0⟩⟩
  openEls SgE Try.underlying46 cellsSgR 16 bytesSgR (fun y => I64 y.p ∧ I64 y.s) (fun _ => True) (fun _ => 0) (fun fuel cs x hx hcs => openSgR hx hcs) h
theorem openHlR {fuel : Nat} {cs : List Value} {x : DataW H × List MemPlace} (h : DataW.trod enc Try.prog W 0 (fun _ => true) true fuel 61 cs = some x) (hcs : cs.length = 3) :
    ∃ y : Hl, (I64 y.p ∧ I64 y.s) ∧ cs = HlE.c y ∧ (Fit 61 x.1 → True) ∧ 0 ≤ Rows.uptoBulk x.1 := by
  obtain ⟨c0, c1, c2, rfl⟩ : ∃ c0 c1 c2, cs = [c0, c1, c2] := by
    match cs, hcs with
    | [c0, c1, c2], _ => exact ⟨c0, c1, c2, rfl⟩
  obtain ⟨xs, n, _, rfl, _, hlen, hf⟩ := DataW.trod_struct Try.underlying61 h
  match xs, hlen with
  | [y0, y1], _ =>
    have h0 := hf 0 _ rfl
    have h1 := hf 1 _ rfl
    simp [cellsSgR, cellsVsR] at h0 h1
    obtain ⟨y, hy, e, _, _⟩ := openSgR h0 rfl
    have hv : ∃ a len cap, c2 = .slice a len cap := by
      rcases Go.Deep.open_slice Try.underlying22 h1 with ⟨hcs, _⟩ | ⟨a, len, cap, _, _, _, _, hcs, _⟩
      · exact ⟨none, 0, 0, by simpa using hcs⟩
      · exact ⟨_, _, _, by simpa using hcs⟩
    obtain ⟨a, len, cap, rfl⟩ := hv
    simp only [SgE, List.cons.injEq] at e
    obtain ⟨rfl, rfl, _⟩ := e
    exact ⟨⟨y.p, y.s, a, len, cap⟩, hy, rfl, fun _ => trivial, Nat.zero_le _⟩
theorem openHelds {a : Option Addr} {len cap : Nat} {d : DataW H} {ps : List MemPlace} (h : DataW.Trod enc Try.prog W 0 (fun _ => true) true 47 (.slice a len cap) d ps) :
    ∃ l : List Hl, len = l.length ∧ HlE.See W a l ∧ (∀ y ∈ l, I64 y.p ∧ I64 y.s) ∧ l.length ≤ cap ∧ cap ≤ maxLen ∧ (a = none → cap = 0) ∧ (Fit 47 d → cap * 40 ≤ 140737488351232 ∧ ∀ y ∈ l, True) ∧ (l.map fun y => 0).sum ≤ Rows.uptoBulk d ∧ cap + 1 ≤ Rows.uptoBulk d :=
  haveI : Inhabited Hl := ⟨⟨0, 0, none, 0, 0⟩⟩
  openEls HlE Try.underlying47 cellsHlR 40 bytesHlR (fun y => I64 y.p ∧ I64 y.s) (fun _ => True) (fun _ => 0) (fun fuel cs x hx hcs => openHlR hx hcs) h
end
theorem cellsE3R : Try.prog.cellsOf 39 = 3 := by kernel_rfl
theorem okWide_arrR {P : Program} {w : World} {r : Reach} {base : Nat} {t : TypeId} {v : Value} {n : Nat} {e : TypeId} (ht : P.underlying t = some (.array n e)) (h : Value.okWide P w r base t v) : ∃ cs, v = .agg cs ∧ cs.size = P.cellsOf t := by
  simp only [Value.okWide, ht] at h
  obtain ⟨cs, h1, h2, _⟩ := h
  exact ⟨cs, h1, h2⟩
set_option maxRecDepth 100000 in
theorem openEp3 {H : Type} {enc : TypeId × Value → H} {W : World} {d : DataW H} {ps : List MemPlace} {base : Nat} {v : Value} (hv : Value.okWide Try.prog W .any base 39 v) (h : DataW.Trod enc Try.prog W 0 (fun _ => true) true 39 v d ps) : ∃ x y z : Int, v = .agg #[.int .u64 x, .int .u64 y, .int .u64 z] ∧ 0 ≤ x ∧ 0 ≤ y ∧ 0 ≤ z := by
  obtain ⟨cs, rfl, hsz⟩ := okWide_arrR Try.underlying39 hv
  rw [cellsE3R] at hsz
  obtain ⟨fuel, hf⟩ := h
  obtain ⟨l⟩ := cs
  match l, hsz, hf with
  | [c0, c1, c2], _, hf =>
    have hf' : DataW.trod enc Try.prog W 0 (fun _ => true) true fuel 39 [c0, c1, c2] = some (d, ps) := hf
    obtain ⟨xs, n, _, he, _, hlen, hff⟩ := DataW.trod_array Try.underlying39 hf'
    match xs, hlen with
    | [y0, y1, y2], _ =>
      have h0 := hff 0 (by omega)
      have h1 := hff 1 (by omega)
      have h2 := hff 2 (by omega)
      simp [cellsU8R] at h0 h1 h2
      obtain ⟨x, e0, _, w0⟩ := DataW.trod_int Try.underlying23 h0
      obtain ⟨y, e1, _, w1⟩ := DataW.trod_int Try.underlying23 h1
      obtain ⟨z, e2, _, w2⟩ := DataW.trod_int Try.underlying23 h2
      simp at e0 e1 e2
      subst e0 e1 e2
      exact ⟨x, y, z, rfl, (bounds_u64 w0).1, (bounds_u64 w1).1, (bounds_u64 w2).1⟩
end Go.Proofs.Ytebkkdoggagcdaa
end

section
namespace Go.Proofs.Ytebkkdoggagcdaa
open Go.RowKit Go.Hay
attribute [local go_sem] Oper.semAt_some
set_option linter.unusedVariables false
set_option linter.unusedSimpArgs false

theorem neSgS (a b : Int) (w : World) : (binOp .neq 50 (.agg #[.int .i64 a, .int .i64 b]) (.agg #[.int .i64 a, .int .i64 b])).run Try.prog w = .ok (.bool false) w := by
  rw [run_neq_struct, run_equalIn_agg (ht := by kernel_rfl) (hp := by kernel_rfl)]
  simp [go_sem]
set_option maxHeartbeats 16000000 in
set_option maxRecDepth 100000 in
theorem missingWalk (a b : Option Addr) (ca cb : Nat) (Wn : List Sgm) (H : List Hl) (w : World) (hs : SgE.See w a Wn) (ht : HlE.See w b H) (hl : Wn.length ≤ 9000000000000) (hm : H.length ≤ 9000000000000) (hr : ∀ x ∈ Wn, I64 x.p ∧ I64 x.s) (hr2 : ∀ x ∈ H, I64 x.p ∧ I64 x.s) :
    Calls Try.prog 8 #[.slice a Wn.length ca, .slice b H.length cb] w fun e w' => e = .returned (.bool true) ∧ Below w.heap.size w w' := by
  have cM := hid (cMissing a b ca cb Wn H w hs ht hl hm hr hr2)
  have cR := hid (fun W (k : Kp [] w W) => rMissing a b ca cb Wn H W (hs.keptNew k) (ht.keptNew k) hl hm)
  obtain ⟨U, hU⟩ : ∃ U, Hid (misV Wn H = U) := ⟨_, hid rfl⟩
  have hUl : U.length ≤ 9000000000000 := by
    rw [← hU.out]
    exact Nat.le_trans (List.length_filter_le _ _) hl
  simp only [hU.out] at cM cR
  clear hs ht hl hm hr hr2 hU
  go_enter Try.func8, Try.ntmps8
  go_wp2_with fail
  refine cM.out.mono ?_
  rintro e w1 ⟨a1, c1, rfl, hr1, k1, _⟩
  have cR1 := hid (cR.out w1 k1)
  have S1 := hid (See.ofRow hr1)
  have K1 := hid k1
  clear cM cR hr1 k1
  go_wp2_with fail
  refine cR1.out.mono ?_
  rintro e w2 ⟨a2, c2, rfl, hr2, k2, _⟩
  have S2 := hid (And.intro (S1.out.keptNew k2) (See.ofRow hr2))
  have K2 := hid (K1.out.trans k2 (by simp))
  have cA := hid (cAliveR w2)
  clear cR1 hr2 k2 S1 K1
  go_wp2_with fail
  refine cA.out.mono ?_
  rintro e w3 ⟨rfl, k3⟩
  have S3 := hid (And.intro (S2.out.1.keptNew k3) (S2.out.2.keptNew k3))
  have K3 := hid (K2.out.trans k3 (by simp))
  have n3 : ((U.length : Int) != (U.length : Int)) = false := by simp
  clear cA k3 S2 K2
  go_wp2_with fail
  go_loopw [25] (fun i wr => ∃ j : Nat, j ≤ U.length ∧ i = .int .i64 (j : Int) ∧ Hid (Kp [] w3 wr)) (fun i _ => U.length - (intOf i).toNat)
  case atStart => exact ⟨0, Nat.zero_le _, rfl, hid (Kp.refl _ _)⟩
  case round =>
    obtain ⟨j, hj, rfl, kr⟩ := hrel
    by_cases hlt : j < U.length
    · obtain ⟨g, o, ea, x0, x1⟩ := sgAt (S3.out.1.keptNew kr.out) (i := j) (x := U[j]) (by simp [hlt])
      obtain ⟨g2, o2, ea2, y0, y1⟩ := sgAt (S3.out.2.keptNew kr.out) (i := j) (x := U[j]) (by simp [hlt])
      generalize U[j] = x at *
      obtain ⟨xp, xs⟩ := x
      dsimp only at x0 x1 y0 y1
      have q := neSgS xp xs
      have i1 : (0 : Int) ≤ (j : Int) := by omega
      have i2 : (j : Int) < (U.length : Int) := by omega
      have i3 : (j : Int) + 1 ≤ 9223372036854775807 := by omega
      subst ea ea2
      clear n3
      go_wp2_with fail
      go_quiet (fail)
      go_wp2_with fail
      exact ⟨⟨j + 1, by omega, by go_num, hid (kr.out.drewN _)⟩, by simp [intOf]; omega⟩
    · obtain rfl : j = U.length := by omega
      go_wp2_with fail
      go_ret
      exact ⟨rfl, (K3.out.trans kr.out (by simp)).below⟩
end Go.Proofs.Ytebkkdoggagcdaa
end

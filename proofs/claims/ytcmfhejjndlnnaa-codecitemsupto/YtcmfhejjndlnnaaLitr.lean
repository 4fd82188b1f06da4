/- The iterator that codec.Items makes: what it promises. -/
import Derived.Test.YtcmfhejjndlnnaaLsd
import Derived.Test.YtcmfhejjndlnnaaLrng
import Derived.Shelf.Abstract
import Derived.Shelf.RegionOpen
import Derived.WalkKit
import Derived.OwnWalkIn
import Derived.TacticsInMore
import Derived.LoopNIn
import Derived.LoopIn
namespace Go.Proofs.Ytcmfhejjndlnnaa
open Go.RowKit Go.Hay Go.Shelf
attribute [local go_sem] Oper.semAt_some
set_option linter.unusedVariables false
set_option linter.unusedSimpArgs false

/-- How the iterator stands: so many things given, so many left, the reader's bytes and error, whether it has begun, the thing at hand. -/
structure St where
  k : Nat
  m : Nat
  bs : List UInt8
  e : Int
  go : Bool
  pend : Option (Value × List UInt8)
/-- Blocks that are not turned. -/
def Away (Js : List Nat) (A B : World) : Prop := ∃ S, Kp S A B ∧ ∀ j ∈ Js, j ∉ S
theorem Away.trans {Js : List Nat} {A B C : World} (h : Away Js A B) (k : Away Js B C) : Away Js A C := by
  obtain ⟨S, h1, h2⟩ := h
  obtain ⟨S', k1, k2⟩ := k
  exact ⟨S ++ S', (h1.mono (T := S ++ S') (fun x hx => .inl (by simp [hx]))).trans k1 (fun x hx => .inl (by simp [hx])), fun j hj hm => by rcases List.mem_append.1 hm with h | h; exact h2 j hj h; exact k2 j hj h⟩
theorem Away.alloc (Js : List Nat) (W : World) (o : Obj) : Away Js W (W.alloc o) := ⟨[], (Kp.refl _ _).alloc _, fun _ _ h => by cases h⟩
theorem Away.putObj {Js : List Nat} {B : Nat} (hB : ∀ j ∈ Js, j < B) (W : World) (l : Nat) (o : Obj) (hl : B ≤ l) : Away Js W (W.putObj l o) :=
  ⟨[l], ⟨rfl, rfl, rfl, by simp, fun k hk hn => World.putObj_heap_other (by simpa using hn)⟩, fun j hj hm => by have := hB j hj; simp at hm; omega⟩
theorem Away.rd {Js : List Nat} {A B : World} {p : Nat} {D : List Nat} {bs : List UInt8} {e : Int} (h : Away Js A B) (hr : Rd A p D bs e) (hp : p ∈ Js) (hD : ∀ k ∈ D, k ∈ Js) : Rd B p D bs e := by
  obtain ⟨S, h1, h2⟩ := h
  exact hr.kept h1 (h2 p hp) (fun k hk => h2 k (hD k hk))
theorem Away.cell {Js : List Nat} {A B : World} {q : Nat} {v : Value} (h : Away Js A B) (hq : q ∈ Js) (hc : A.cell? ⟨q, 0, none⟩ = some v) : B.cell? ⟨q, 0, none⟩ = some v := by
  obtain ⟨S, h1, h2⟩ := h
  exact (h1.cell (p := ⟨q, 0, none⟩) (World.block_lt_of_cell? _ _ hc) (h2 q hq)).trans hc
/-- A step of the iterator's own: it has counted; or it has read a thing. -/
def Turn (p : Nat) (D : List Nat) (most : Int) (s s' : St) (A B : World) : Prop :=
  Kp [p] A B ∧ Rd B p D s'.bs s'.e ∧
  ((s.go = false ∧ ∃ n, countS most s.bs s.e = (n, s'.bs, s'.e) ∧ 0 ≤ n ∧ s' = ⟨s.k, n.toNat, s'.bs, s'.e, true, none⟩) ∨
   (s.go = true ∧ s.pend = none ∧ s.e = 0 ∧ 0 < s.m ∧ ∃ v out, textS 9 s.bs 0 = (out, s'.bs, s'.e) ∧ s' = ⟨s.k, s.m, s'.bs, s'.e, true, some (v, out)⟩ ∧ Row B v out ∧ ∀ j ∈ own v, A.heap.size ≤ j))
/-- Behind a round. -/
def St.nx (s : St) (x : Nat × Value × List UInt8) : St := ⟨s.k + 1, s.m - 1, s.bs, s.e, s.go, none⟩

theorem textS_le {bs bs' out : List UInt8} {e' : Int} (h : textS 9 bs 0 = (out, bs', e')) : bs'.length ≤ bs.length := by
  by_cases he : e' = 0
  · subst he; exact Nat.le_of_lt (textS_shorter h)
  · rw [textS_same h he]; exact Nat.le_refl _

set_option maxHeartbeats 8000000 in
set_option maxRecDepth 100000 in
theorem itemsSeq (n : Nat) (hn : 1 ≤ n) (p q1 q2 q3 : Nat) (D : List Nat) (most : Int) (hm0 : -9223372036854775808 ≤ most) (hm1 : most ≤ 9223372036854775807) (full : List UInt8) (e0 : Int) (w : World)
    (h1 : w.cell? ⟨q1, 0, none⟩ = some (.pointer (some ⟨p, 0, none⟩))) (h2 : w.cell? ⟨q2, 0, none⟩ = some (.int .i64 most)) (h3 : w.cell? ⟨q3, 0, none⟩ = some (.func (.func 8) #[] #[])) (hr : Rd w p D full e0)
    (hq : p ≠ q1 ∧ p ≠ q2 ∧ p ≠ q3) (hb : ∀ N bs1 e1, countS most full e0 = (N, bs1, e1) → bs1.length ≤ 200000000000000) :
    SeqT Fence.wide n Try.prog 26 #[.pointer (some ⟨q1, 0, none⟩), .pointer (some ⟨q2, 0, none⟩), .pointer (some ⟨q3, 0, none⟩)] (fun x : Nat × Value × List UInt8 => #[.int .i64 x.1, x.2.1]) (Turn p D most) (Away (p :: q1 :: q2 :: q3 :: D))
      (fun s x => s.e = 0 ∧ s.pend = some (x.2.1, x.2.2) ∧ x.1 = s.k) St.nx (fun s => s.go = true ∧ ((s.m = 0 ∧ s.pend = none) ∨ s.e ≠ 0)) (fun s => s.go = true ∧ s.e = 0 ∧ s.pend = none) ⟨0, 0, full, e0, false, none⟩ w := by
  intro l J Jx W hW hT hY h0
  have g1 := hW.cell (by simp) h1
  have g2 := hW.cell (by simp) h2
  have g3 := hW.cell (by simp) h3
  have gr := hW.rd hr (by simp) (fun k hk => by simp [hk])
  have hcells : ∀ {A B : World}, Kp [p] A B → A.cell? ⟨q1, 0, none⟩ = some (.pointer (some ⟨p, 0, none⟩)) → A.cell? ⟨q2, 0, none⟩ = some (.int .i64 most) → A.cell? ⟨q3, 0, none⟩ = some (.func (.func 8) #[] #[]) →
      B.cell? ⟨q1, 0, none⟩ = some (.pointer (some ⟨p, 0, none⟩)) ∧ B.cell? ⟨q2, 0, none⟩ = some (.int .i64 most) ∧ B.cell? ⟨q3, 0, none⟩ = some (.func (.func 8) #[] #[]) := fun hk a b c =>
    ⟨(hk.cell (World.block_lt_of_cell? _ _ a) (by simp; omega)).trans a, (hk.cell (World.block_lt_of_cell? _ _ b) (by simp; omega)).trans b, (hk.cell (World.block_lt_of_cell? _ _ c) (by simp; omega)).trans c⟩
  clear h1 h2 h3 hr hW
  refine callsIn_of_wp Try.func26 rfl trivial ?_ rfl
  simp only [Try.ntmps26, List.size_toArray, List.length_cons, List.length_nil, Nat.reduceAdd, Nat.reduceSub, Array.replicate_succ, Array.replicate_zero, List.push_toArray, List.append_toArray, List.nil_append, List.cons_append]
  gi_wp2_with fail
  refine ⟨trivial, (callsIn_wide.2 (rCount p D full e0 most W gr hm0 hm1)).mono ?_⟩
  rintro e w1 ⟨N, bs1, e1, hc, rfl, hN0, hN1, hrd, hk1⟩
  have hbl := hb N bs1 e1 hc
  have hJ1 : J ⟨0, N.toNat, bs1, e1, true, none⟩ w1 := hT _ _ _ _ h0 ⟨hk1, hrd, .inl ⟨rfl, N, hc, hN0, rfl⟩⟩
  obtain ⟨c1, c2, c3⟩ := hcells hk1 g1 g2 g3
  clear g1 g2 g3 gr hc hk1 h0 hb
  gi_wp2_with fail
  gi_loopw [10] (fun i wr => ∃ s : St, i = .int .i64 s.k ∧ s.go = true ∧ s.pend = none ∧ Hid ((s.k : Int) + s.m = N) ∧ (s.k : Int) ≤ N ∧ J s wr ∧ Rd wr p D s.bs s.e ∧ s.bs.length ≤ 200000000000000 ∧ wr.cell? ⟨q1, 0, none⟩ = some (.pointer (some ⟨p, 0, none⟩)) ∧ wr.cell? ⟨q2, 0, none⟩ = some (.int .i64 most) ∧ wr.cell? ⟨q3, 0, none⟩ = some (.func (.func 8) #[] #[])) (fun i _ => (N - intOf i).toNat)
  case atStart => exact ⟨_, rfl, rfl, rfl, by show ((0 : Nat) : Int) + (N.toNat : Nat) = N; omega, by simpa using hN0, hJ1, hrd, hbl, c1, c2, c3⟩
  case round =>
    obtain ⟨s, rfl, hgo, hpe, hkm, hkN, hJ, hR, hbs, d1, d2, d3⟩ := hrel
    by_cases hkn : (s.k : Int) < N
    · have her := hR.err
      have hplt := hR.lt
      by_cases he : s.e = 0
      · have hSh := cShort p D s.bs s.e wr hR hbs
        rw [he] at her hSh
        have HE := hid he
        clear he
        gi_wp2_with fail
        refine ⟨trivial, (callsIn_wide.2 hSh).mono ?_⟩
        rintro e w2 ⟨out, bs', e', v, ht, rfl, hrow, hown, hrd2, hk2⟩
        have hmp : 0 < s.m := by have := hkm.out; omega
        have hJ2 : J ⟨s.k, s.m, bs', e', true, some (v, out)⟩ w2 := hT s _ _ _ hJ ⟨hk2, hrd2, .inr ⟨hgo, hpe, HE.out, hmp, v, out, ht, rfl, hrow, hown⟩⟩
        have hbs2 : bs'.length ≤ 200000000000000 := Nat.le_trans (textS_le ht) hbs
        obtain ⟨f1, f2, f3⟩ := hcells hk2 d1 d2 d3
        have her2 := hrd2.err
        have hplt2 := hrd2.lt
        obtain ⟨av, cv, rfl, _⟩ := hrow.shape
        clear d1 d2 d3 her hplt hSh ht hown hk2 hJ
        by_cases he2 : e' = 0
        · subst he2
          obtain ⟨fn, tmps, assign, body, hy, hRd⟩ := hY _ (s.k, .slice av out.length cv, out) w2 hJ2 ⟨rfl, rfl, rfl⟩
          dsimp only at hy
          gi_wp2_with fail
          refine hRd.mono ?_
          rintro e w3 (⟨rfl, hJ3, hk3⟩ | ⟨rfl, hJx3⟩)
          · have r3 := hk3.rd hrd2 (by simp) (fun k hk => by simp [hk])
            have x1 := hk3.cell (by simp) f1
            have x2 := hk3.cell (by simp) f2
            have x3 := hk3.cell (by simp) f3
            clear f1 f2 f3 hrow hrd2 her2 hplt2 hy
            gi_wp2_with fail
            go_roundw
            case rel => exact ⟨_, by simp [St.nx], rfl, rfl, by show (((s.k + 1 : Nat) : Int) + ((s.m - 1 : Nat) : Int)) = N; have := hkm.out; omega, by show ((s.k + 1 : Nat) : Int) ≤ N; omega, hJ3, r3, hbs2, x1, x2, x3⟩
            case measure => simp [intOf]; omega
          · gi_wp2_with fail
            refine bodyPost_ret (results_none rfl _ _ _) rfl ?_
            exact ⟨⟨_, rfl⟩, .inr ⟨_, ⟨rfl, rfl, rfl⟩, hJx3⟩⟩
        · have he' : (e' == 0) = false := by simpa using he2
          have he3 : (e' != 0) = true := by simpa using he2
          have HX := hid he2
          clear he2
          gi_wp2_with fail
          refine ⟨fun _ h => (by cases h), ?_⟩
          gi_wp2_with fail
          refine bodyPost_ret (results_none rfl _ _ _) rfl ?_
          exact ⟨⟨_, rfl⟩, .inl ⟨_, ⟨rfl, .inr HX.out⟩, hJ2⟩⟩
      · have he' : (s.e == 0) = false := by simpa using he
        have he2 : (s.e != 0) = true := by simpa using he
        have HX := hid he
        clear he
        gi_wp2_with fail
        refine bodyPost_ret (results_none rfl _ _ _) rfl ?_
        exact ⟨⟨_, rfl⟩, .inl ⟨s, ⟨hgo, .inr HX.out⟩, hJ⟩⟩
    · have hm : s.m = 0 := by have := hkm.out; omega
      gi_wp2_with fail
      go_end0
      exact ⟨⟨_, rfl⟩, .inl ⟨s, ⟨hgo, .inl ⟨hm, hpe⟩⟩, hJ⟩⟩
end Go.Proofs.Ytcmfhejjndlnnaa

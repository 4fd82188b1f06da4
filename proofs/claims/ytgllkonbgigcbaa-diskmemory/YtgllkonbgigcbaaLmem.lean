/- What is handed in, and what is told, may be written over: the law's walk. -/
import Derived.Test.YtgllkonbgigcbaaLbeg
namespace Go.Proofs.Ytgllkonbgigcbaa
open Go.RowKit Go.Hay Go.Maps Go.Sort
set_option linter.unusedVariables false
set_option linter.unusedSimpArgs false

theorem u8add (y : UInt8) (n : Nat) (hn : n < 256) : IntKind.u8.wrap ((y.toNat : Int) + n) = ((UInt8.ofNat (y.toNat + n)).toNat : Int) := by
  have h := UInt8.toNat_lt y
  have e : (UInt8.ofNat (y.toNat + n)).toNat = (y.toNat + n) % 256 := by simp
  rw [e]
  simp [IntKind.wrap, IntKind.bits, IntKind.signed]
theorem dm1 (bs : List UInt8) : appendD (newD (bs.length : Int)) [102] bs = (⟨bs.length, 1, [⟨[102], bs, 0⟩], none, false⟩, 0) := by
  have h : ¬ ((bs.length : Int) > freeD (newD (bs.length : Int))) := by simp [freeD, newD, sumF]
  have hn : nameOk [102] = true := by rfl
  unfold appendD
  rw [if_neg (by simp [newD]), if_neg (by simp [hn]), if_neg h]
  simp [stepD, newD, grownF, fileOf, lookG, putG]
/-- A row of which a byte is written over. -/
theorem rowAt {w : World} {a : Option Addr} {n c : Nat} {bs : List UInt8} (h : Row w (.slice a n c) bs) {i : Nat} {y : UInt8} (hy : bs[i]? = some y) : ∃ g o, a = some ⟨g, o, none⟩ ∧ n = bs.length ∧ w.cell? ⟨g, o + i, none⟩ = some (.int .u8 y.toNat) ∧ w.frozen? ⟨g, o + i, none⟩ = false := by
  have hi : i < bs.length := (List.getElem?_eq_some_iff.1 hy).1
  rcases h with ⟨e, rfl⟩ | ⟨g, o, cap, e, hl, hx, hg, hc, ht⟩
  · simp at hy
  · cases e
    exact ⟨g, o, rfl, rfl, hc i y hy, (ht i (by omega)).2⟩
set_option maxHeartbeats 16000000 in
set_option maxRecDepth 100000 in
theorem memWalk (a : Option Addr) (c : Nat) (bs : List UInt8) (w : World) (hs : Sees w a bs) (hb : bs.length ≤ 140737488351232) :
    Calls Try.prog 8 #[.slice a bs.length c] w fun e w' => e = .returned (.bool true) ∧ Below w.heap.size w w' := by
  go_enter Try.func8, Try.ntmps8
  go_wp2_with fail
  refine (cBegun (bs.length : Int) w (by omega)).mono ?_
  rintro e w1 ⟨p, mb, rfl, hD1, k1, hp, hmb⟩
  have hs1 := hs.kept k1 (by simp)
  have hn1 := Row.nil w1
  go_wp2_with (first | (refine wpAppR rfl _ _ rfl _ [] rfl hn1 _ _ _ bs rfl rfl hs1 (by simp; omega) ?_; intro ys ao co w2 hy2 hyl2 hrow2 hg2) | fail)
  have ey : ys = bs := by rw [hy2.out]; rfl
  subst ey
  have k2 : Kp [] w1 w2 := hg2.kp
  have hon : ∀ k ∈ blk ao, w1.heap.size ≤ k := fun k hk => by
    rcases hg2.new k (by rw [own_slice]; exact hk) with h | h
    · simp [own, Value.ownBlock, Act.eval] at h
    · exact h
  have hol : ∀ k ∈ blk ao, k < w2.heap.size := fun k hk => hrow2.lt k (by rw [own_slice]; exact hk)
  have hD2 := hD1.keptNew k2
  have hlt1 := hD1.lt
  obtain ⟨_, _, eo, hso, _⟩ := hrow2.sees
  cases eo
  have a3 := cAppend hD2 (by simp [newD]) (by simp) (by intro f hf; simp [newD] at hf) [102] (by unfold maxLen; simp) ao co ys hso (fun _ k hk hf => by have := hon k hk; have := hlt1 k hf; omega) (by simp [newD, fileOf, lookG]; omega)
  rw [dm1] at a3
  clear hy2 hyl2 hg2 hn1
  go_wp2_with fail
  refine a3.mono ?_
  rintro e w3 ⟨rfl, xs, hD3, mv3⟩
  have hoff : ∀ k ∈ foot p mb xs, k ∉ blk ao := fun k hk hm => by
    rcases mv3.new k hk with h | h
    · have := hlt1 k h; have := hon k hm; omega
    · have := hol k hm; omega
  have hrow3 : Row w3 (.slice ao ys.length co) ys := hrow2.kept mv3.kp (fun k hk hf => by rw [own_slice] at hk; have := hlt1 k hf; have := hon k hk; omega)
  have kw2 : Kp [] w w2 := k1.trans k2 (by simp)
  have kw3 : Kp [] w w3 := kw2.trans mv3.kp (fun k hk => .inr (by simp [foot] at hk; omega))
  have nw3 : ∀ k ∈ foot p mb xs, w.heap.size ≤ k := fun k hk => by
    rcases mv3.new k hk with h | h
    · simp [foot] at h; omega
    · have := kw2.size; omega
  obtain ⟨L, hL⟩ : ∃ L, Hid (ys.length = L) := ⟨_, rfl⟩
  have hLle : L ≤ 140737488351232 := by rw [← hL.out]; exact hb
  clear a3 hso hs1 hD1 hD2 k2
  go_wp2_with fail
  go_loopw [6, 30] (fun _ i wn => ∃ (j : Nat) (zs : List UInt8), j ≤ ys.length ∧ i = .int .i64 j ∧ Hid (zs.length = ys.length) ∧ Row wn (.slice ao ys.length co) zs ∧ Kp (blk ao) w3 wn) (fun _ i _ => ys.length - (intOf i).toNat)
  case atStart => exact ⟨0, ys, Nat.zero_le _, rfl, rfl, hrow3, Kp.refl _ _⟩
  case round =>
    obtain ⟨j, zs, hj, rfl, hzl, hrz, hkz⟩ := hrel
    by_cases hjl : j < ys.length
    · obtain ⟨y, hy⟩ : ∃ y, zs[j]? = some y := ⟨zs[j]'(by rw [hzl.out]; exact hjl), by simp [hzl.out, hjl]⟩
      obtain ⟨g, o, ea, en, hcell, hfro⟩ := rowAt hrz hy
      have hrz2 := hrz
      rw [ea] at hrz2
      have hput := Row.put hrz2 j (by rw [hzl.out]; exact hjl) (UInt8.ofNat (y.toNat + 1))
      have hw8 := u8add y 1 (by omega)
      have hkz2 : Kp (blk ao) w3 (wr.setCell ⟨g, o + j, none⟩ (.int .u8 (IntKind.u8.wrap ((y.toNat : Int) + (1 : Nat))))) := hkz.setCell (p := ⟨g, o + j, none⟩) (.inl (by rw [ea]; simp [blk])) _
      rw [← hw8] at hput
      have hyl : Hid ((zs.set j (UInt8.ofNat (y.toNat + 1))).length = ys.length) := by show _ = _; rw [List.length_set]; exact hzl.out
      rw [← ea] at hput
      clear hy hzl hrz2 en hw8
      subst ea
      go_wp2_with fail
      exact ⟨⟨j + 1, _, by omega, by go_num, hyl, hput, hkz2⟩, by simp [intOf]; omega⟩
    · have hjn : ¬ ((j : Int) < (ys.length : Int)) := by omega
      have hD4 := hD3.kept hkz hoff
      have kw4 : Kp [] w wr := kw3.trans hkz (fun k hk => .inr (by have := hon k hk; have := k1.size; omega))
      have hsm : Small (⟨ys.length, 1, [⟨[102], ys, 0⟩], none, false⟩ : Dk) := fun f hf => by simp at hf; subst hf; simp only; omega
      have e5 : (lookG Fl.name [102] [(⟨[102], ys, 0⟩ : Fl)]).map Fl.bytes = some ys := by rfl
      have a5 := cRead hD4 hsm [102] (by unfold maxLen; simp)
      simp only at a5
      rw [e5] at a5
      clear hzl e5
      go_wp2_with fail
      refine a5.mono ?_
      rintro e w5 ⟨ra, rc, rfl, hr5, k5, hn5⟩
      have kw5 : Kp [] w w5 := kw4.trans k5 (by simp)
      have hD5 := hD4.keptNew k5
      obtain ⟨_, _, er, hs5, _⟩ := hr5.sees
      cases er
      have cv1 := convSees hs5 rc
      have cv2 := convSees (hs.kept kw5 (by simp)) c
      have hl5 : ∀ k ∈ blk ra, k < w5.heap.size := fun k hk => hr5.lt k (by rw [own_slice]; exact hk)
      clear hs5 a5
      go_wp2_with fail
      have hrn := hr5
      clear hrz hkz hj hjl hjn
      go_loopw [10, 52] (fun _ i wn => ∃ (j : Nat) (zs : List UInt8), j ≤ ys.length ∧ i = .int .i64 j ∧ Hid (zs.length = ys.length) ∧ Row wn (.slice ra ys.length rc) zs ∧ Kp (blk ra) w5 wn) (fun _ i _ => ys.length - (intOf i).toNat)
      case atStart => exact ⟨0, ys, Nat.zero_le _, rfl, rfl, hrn, Kp.refl _ _⟩
      case round =>
        obtain ⟨j, zs, hj, rfl, hzl, hrz, hkz⟩ := hrel
        by_cases hjl : j < ys.length
        · obtain ⟨y, hy⟩ : ∃ y, zs[j]? = some y := ⟨zs[j]'(by rw [hzl.out]; exact hjl), by simp [hzl.out, hjl]⟩
          obtain ⟨g, o, ea, en, hcell, hfro⟩ := rowAt hrz hy
          have hrz2 := hrz
          rw [ea] at hrz2
          have hput := Row.put hrz2 j (by rw [hzl.out]; exact hjl) (UInt8.ofNat (y.toNat + 2))
          have hw8 := u8add y 2 (by omega)
          have hkz2 : Kp (blk ra) w5 (wr.setCell ⟨g, o + j, none⟩ (.int .u8 (IntKind.u8.wrap ((y.toNat : Int) + (2 : Nat))))) := hkz.setCell (p := ⟨g, o + j, none⟩) (.inl (by rw [ea]; simp [blk])) _
          rw [← hw8] at hput
          have hyl : Hid ((zs.set j (UInt8.ofNat (y.toNat + 2))).length = ys.length) := by show _ = _; rw [List.length_set]; exact hzl.out
          rw [← ea] at hput
          clear hy hzl hrz2 en hw8
          subst ea
          go_wp2_with fail
          exact ⟨⟨j + 1, _, by omega, by go_num, hyl, hput, hkz2⟩, by simp [intOf]; omega⟩
        · have hjn : ¬ ((j : Int) < (ys.length : Int)) := by omega
          have hdis : ∀ k ∈ foot p mb xs, k ∉ blk ra := fun k hk hm => by have := hn5 k hm; have := hD4.lt k hk; omega
          have hD6 := hD5.kept hkz hdis
          have kw6 : Kp [] w wr := kw5.trans hkz (fun k hk => .inr (by have := hn5 k hk; have := kw4.size; omega))
          obtain ⟨w7, hw7⟩ : ∃ w7, wr.alloc (.cells #[.int .u8 9] 5) = w7 := ⟨_, rfl⟩
          have k7 : Kp [] wr w7 := by rw [← hw7]; exact (Kp.refl _ _).alloc _
          have s7 : Sees w7 (some ⟨wr.heap.size, 0, none⟩) [9] := by rw [← hw7]; exact sees_new wr rfl _ _ _ rfl
          have hrz7 := hrz.kept k7 (by simp)
          have hD7 := hD6.keptNew k7
          have hzle : zs.length ≤ 140737488351232 := by rw [hzl.out]; omega
          clear hj hrz
          go_wp2_with (first | (refine wpAppR rfl _ _ rfl _ zs rfl hrz7 _ _ _ [9] rfl rfl s7 (by simp only [List.length_cons, List.length_nil]; omega) ?_; intro us ua uc w8 hu8 hul8 hrow8 hg8) | fail)
          have hk8 : Kp (blk ra) w7 w8 := by
            have h := hg8.kp
            have e : own (Value.slice ra ys.length rc) = blk ra := own_slice _ _ _
            rw [← e]; exact h
          have hD8 := hD7.kept hk8 hdis
          have kw8 : Kp [] w w8 := (kw6.trans k7 (by simp)).trans hk8 (fun k hk => .inr (by have := hn5 k hk; have := kw4.size; omega))
          have hul : us.length = ys.length + 1 := by rw [hu8.out, List.length_append, hzl.out]; rfl
          have a9 := cRead hD8 hsm [102] (by unfold maxLen; simp)
          have e9 : (lookG Fl.name [102] [(⟨[102], ys, 0⟩ : Fl)]).map Fl.bytes = some ys := by rfl
          simp only at a9
          rw [e9] at a9
          have Hul := hid hul
          clear e9 hul hzl hu8 hul8 hrow8 hg8 hrz7 s7 hw7
          go_wp2_with fail
          refine a9.mono ?_
          rintro e w9 ⟨ta, tc, rfl, hr9, k9, hn9⟩
          have hD9 := hD8.keptNew k9
          have kw9 : Kp [] w w9 := kw8.trans k9 (by simp)
          have hxl : xs.length = 1 := by rw [len_of hD9]; rfl
          have aA := cNames hD9 (by omega)
          go_wp2_with fail
          refine aA.mono ?_
          rintro e wA ⟨na, nc, rfl, hrA, kA⟩
          have hnm : xs.map Ent.name = [[102]] := by
            have h := congrArg (List.map Fl.name) hD9.fl
            simp only [List.map_map, List.map_cons, List.map_nil] at h
            exact h.symm
          rw [hnm] at hrA
          rw [hxl] at hrA ⊢
          have hDA := hD9.keptNew kA
          have kwA : Kp [] w wA := kw9.trans kA (by simp)
          obtain ⟨_, ⟨e0, _⟩ | ⟨g, cap, cur, e0, hgb, hgc, h1, h2, h3, h4⟩⟩ := hrA
          · cases e0
          cases e0
          have cg : wA.cell? ⟨g, 0, none⟩ = some (.string ⟨#[102]⟩) := by
            have hu : ([[102]].map encStr : List Value)[0]? = some (encStr [102]) := rfl
            rw [← h4, List.getElem?_take] at hu
            split at hu
            · rw [World.cell?, hgc]; simpa using hu
            · cases hu
          have fg : wA.frozen? ⟨g, 0, none⟩ = false := by simp [World.frozen?, hgc]
          obtain ⟨wB, hwB⟩ : ∃ wB, wA.setCell ⟨g, 0, none⟩ (.string ⟨#[103]⟩) = wB := ⟨_, rfl⟩
          have kB : Kp [g] wA wB := by rw [← hwB]; exact (Kp.refl _ _).setCell (p := ⟨g, 0, none⟩) (by simp) _
          have hDB := hDA.kept kB (fun k hk e => by rw [List.mem_singleton] at e; have := hD9.lt k hk; omega)
          have kwB : Kp [] w wB := kwA.trans kB (fun k hk => .inr (by simp at hk; have := kw9.size; omega))
          obtain ⟨_, _, er, hs9, _⟩ := hr9.sees
          cases er
          have hl9 : ∀ k ∈ blk ta, k < w9.heap.size := fun k hk => hr9.lt k (by rw [own_slice]; exact hk)
          have cv3 := convSees ((hs9.kept kA (by simp)).kept kB (fun k hk e => by rw [List.mem_singleton] at e; have := hl9 k hk; omega)) tc
          have cv4 := convSees (hs.kept kwB (by simp)) c
          have hus : ((us.length : Int) == (ys.length : Int) + 1) = true := by rw [Hul.out]; simp
          have aC := cNames hDB (by omega)
          clear h1 h2 h3 h4 hgc hs9 hr9 hnm a9 aA
          have Hxl := hid hxl
          clear hxl
          go_wp2_with fail
          refine aC.mono ?_
          rintro e wC ⟨nb, nd, rfl, hrC, kC⟩
          have hnm : xs.map Ent.name = [[102]] := by
            have h := congrArg (List.map Fl.name) hD9.fl
            simp only [List.map_map, List.map_cons, List.map_nil] at h
            exact h.symm
          have hDC := hDB.keptNew kC
          have aD := cNames hDC (by rw [Hxl.out]; omega)
          rw [Hxl.out]
          clear hnm
          go_wp2_with fail
          refine aD.mono ?_
          rintro e wD ⟨nb2, nd2, rfl, hrD, kD⟩
          have hnm : xs.map Ent.name = [[102]] := by
            have h := congrArg (List.map Fl.name) hD9.fl
            simp only [List.map_map, List.map_cons, List.map_nil] at h
            exact h.symm
          rw [hnm] at hrD
          rw [Hxl.out] at hrD ⊢
          obtain ⟨_, ⟨e0, _⟩ | ⟨g2, cap2, cur2, e0, hgb2, hgc2, _, _, _, h42⟩⟩ := hrD
          · cases e0
          cases e0
          have cg2 : wD.cell? ⟨g2, 0, none⟩ = some (.string ⟨#[102]⟩) := by
            have hu : ([[102]].map encStr : List Value)[0]? = some (encStr [102]) := rfl
            rw [← h42, List.getElem?_take] at hu
            split at hu
            · rw [World.cell?, hgc2]; simpa using hu
            · cases hu
          have kwD : Kp [] w wD := (kwB.trans kC (by simp)).trans kD (by simp)
          clear h42 hgc2 hnm
          go_wp2_with fail
          go_ret
          exact ⟨rfl, kwD.below⟩
theorem memWalk' (a : Option Addr) (n c : Nat) (bs : List UInt8) (w : World) (hn : n = bs.length) (hs : Sees w a bs) (hb : bs.length ≤ 140737488351232) :
    Calls Try.prog 8 #[.slice a n c] w fun e w' => e = .returned (.bool true) ∧ Below w.heap.size w w' := by subst hn; exact memWalk a c bs w hs hb
end Go.Proofs.Ytgllkonbgigcbaa

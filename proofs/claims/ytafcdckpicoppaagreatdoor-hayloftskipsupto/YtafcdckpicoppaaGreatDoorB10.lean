/- takeDict. take and Decode, in every kind. No encoding of so many values is another one's beginning. The law's own test that the program is alive: what is reckoned. alive. EncodeCuts: the law's walk. EncodeBack: the law's walk. What the reference reads, and that it is what the program reads. What is read of a row's bytes is written so. The reader's calls: what each answers, and how the reader stands behind it: number, Read, Err, Left, End, Fail, take. -/
import Derived.Test.YtafcdckpicoppaaGreatDoorB9
import Derived.Test.YtafcdckpicoppaaGreatDoorB8
import Derived.Test.YtafcdckpicoppaaGreatDoorB3
import Derived.Test.YtafcdckpicoppaaGreatDoorB1
import Derived.Test.YtafcdckpicoppaaGreatDoorB5
section
namespace Go.Proofs.YtafcdckpicoppaaGreatDoor
open Go.RowKit Go.Hay
set_option linter.unusedVariables false
set_option linter.unusedSimpArgs false

theorem tkP_len : ∀ (n : Nat) (acc : List Val) (bs : List UInt8) (q : List Val × List UInt8), tkP n acc bs = some q → q.1.length = acc.length + n ∧ q.2.length ≤ bs.length
  | 0, acc, bs, q, h => by rw [tkP] at h; injection h with h; subst h; simp
  | n + 1, acc, bs, q, h => by
    rw [tkP] at h
    split at h
    · cases h
    · obtain ⟨h1, h2⟩ := tkP_len n _ _ q h
      simp at h1 h2
      omega
set_option maxHeartbeats 8000000 in
set_option maxRecDepth 100000 in
theorem cTakeDict (a : Option Addr) (c : Nat) (bs : List UInt8) (many : Nat) (w : World) (hs : Sees w a bs) (hl : bs.length ≤ c) (hm : c ≤ maxLen) (hb : bs.length ≤ 900000000000000) (hmn : many ≤ 64) :
    Calls Tryz.prog 101 #[.slice a bs.length c, .int .i64 many] w (TkL w (okV (tkDc many bs))) := by
  obtain ⟨i0, hi, hz0, hz1, hz2⟩ := infoV'
  unfold maxLen at hm
  obtain ⟨F, hFF⟩ : ∃ F, Hid (tkDc many bs = F) := ⟨_, rfl⟩
  rw [hFF.out]
  by_cases h8 : bs.length = 0
  · have hF : Hid (F = none) := by show _ = _; rw [← hFF.out]; unfold tkDc; rw [if_pos (.inl h8)]
    have hfin : TkL w (okV F) (.returned (.tuple #[.slice none 0 0, .bool false])) w := by rw [hF.out]; exact tkL_none w w (Kp.refl _ _)
    rw [h8]
    clear hs hFF hF h8 hl hb
    go_enter Tryz.func101, Tryz.ntmps101
    go_wp2_with fail
    go_ret2
    exact hfin
  · obtain ⟨g, o, rfl, hc⟩ : ∃ g o, a = some ⟨g, o, none⟩ ∧ ∀ j u, bs[j]? = some u → w.cell? ⟨g, o + j, none⟩ = some (.int .u8 u.toNat) := by
      rcases hs with h | h
      · rw [h] at h8; simp at h8
      · exact h
    have h8' : 0 < bs.length := by omega
    have hcx := hc 0 bs[0] (by simp [h8'])
    rw [Nat.add_zero] at hcx
    have hg8 : Hid (bs.getD 0 0 = bs[0]) := by show _ = _; simp [h8']
    have hx := bs[0].toNat_lt
    obtain ⟨x, hxx⟩ : ∃ x, Hid (bs[0].toNat = x) := ⟨bs[0].toNat, by show _ = _; rfl⟩
    rw [hxx.out] at hcx hx
    have d1 : ((bs.length : Int) == 0) = false := by rw [beq_eq_false_iff_ne]; omega
    by_cases hx0 : x = 0 ∨ many < x
    · have hF : Hid (F = none) := by show _ = _; rw [← hFF.out]; unfold tkDc; rw [if_pos (.inr (by rw [hg8.out, hxx.out]; exact hx0))]
      have hfin : TkL w (okV F) (.returned (.tuple #[.slice none 0 0, .bool false])) w := by rw [hF.out]; exact tkL_none w w (Kp.refl _ _)
      clear hs hFF hF hc
      rcases hx0 with h0 | h0
      · subst h0
        go_enter Tryz.func101, Tryz.ntmps101
        go_wp2_with fail
        go_ret2
        exact hfin
      · have d2 : ((x : Int) == 0) = false := by rw [beq_eq_false_iff_ne]; omega
        have d3 : (many : Int) < (x : Int) := by omega
        go_enter Tryz.func101, Tryz.ntmps101
        go_wp2_with fail
        go_ret2
        exact hfin
    · have hx1 : 0 < x := by omega
      have hx2 : x ≤ many := by omega
      have hF : Hid (F = match tkP x [] (bs.drop 1) with
          | none => none
          | some (u, r) => match upkO r many (Lib.bitLen (u.length - 1)) with
            | none => none
            | some ps => if ps.all (fun p => decide (p < u.length)) = true then some (ps.map fun p => u.getD p nv) else none) := by
        show _ = _
        rw [← hFF.out]; unfold tkDc; rw [hg8.out, hxx.out, if_neg (by omega)]
        all_goals
          rcases tkP x [] (bs.drop 1) with _ | ⟨u, r⟩
          · rfl
          · dsimp only
            cases upkO r many (Lib.bitLen (u.length - 1)) <;> rfl
      have d2 : ((x : Int) == 0) = false := by rw [beq_eq_false_iff_ne]; omega
      have d3 : ¬ (many : Int) < (x : Int) := by omega
      have d3' : ¬ many < x := by omega
      obtain ⟨ba, hba, hsb⟩ : ∃ ba, Hid ((if c = 1 then some ⟨g, o, none⟩ else some ⟨g, o + 1, none⟩ : Option Addr) = ba) ∧ Hid (Sees w ba (bs.drop 1)) := by
        refine ⟨_, rfl, ?_⟩
        show Sees _ _ _
        split
        · have : bs.drop 1 = [] := List.drop_eq_nil_of_le (by omega)
          rw [this]; exact .inl rfl
        · have := Sees.tail hs 1; simpa [Addr.add_lit] using this
      have hdl : (bs.drop 1).length = bs.length - 1 := by simp
      have hcU : Hid (∀ W, Kp [] w W → Calls Tryz.prog 103 #[.slice ba (bs.length - 1) (c - 1), .int .i64 x] W (TkP W (tkP x [] (bs.drop 1)))) := fun W k => by
        have := cTakePlain ba (c - 1) (bs.drop 1) x W (hsb.out.kept k (by simp)) (by rw [hdl]; omega) (by unfold maxLen; omega) (by rw [hdl]; omega) (by omega)
        rw [hdl] at this
        exact this
      have hlen : Hid (∀ q, tkP x [] (bs.drop 1) = some q → q.1.length = x ∧ q.2.length ≤ bs.length) := fun q h => by
        obtain ⟨h1, h2⟩ := tkP_len _ _ _ _ h
        rw [hdl] at h2
        simp at h1
        omega
      obtain ⟨U, hU⟩ : ∃ U, Hid (tkP x [] (bs.drop 1) = U) := ⟨_, rfl⟩
      rw [hU.out] at hF hlen
      simp only [hU.out] at hcU
      have hbe := hba.out
      have kd : Kp [] w w.drew := (Kp.refl _ _).drew
      have hS : Hid (∀ A, Kp [] w A → A.cell? ⟨g, o, none⟩ = some (.int .u8 x)) := fun A kA => kpAt kA hcx
      have d9 : (1 : Int) ≤ (bs.length : Int) := by omega
      have hwx : IntKind.i64.wrap (x : Int) = (x : Int) := by rw [IntKind.wrap_i64]; omega
      clear hs hFF hc hg8 hxx hsb hU hba hdl hx0
      go_enter Tryz.func101, Tryz.ntmps101
      go_wp2_with fail
      clear hcx
      refine wp_region_held_drew (S := (fun A => A.cell? ⟨g, o, none⟩ = some (.int .u8 x))) (by kernel_rfl) ?_ (fun hHeld => ?_)
      · exact hS.out _ kd
      generalize w.drew = wd at *
      refine wpAnyH_take (i := 0) (v := ?_) rfl (by kernel_rfl) (by kernel_rfl) (by kernel_rfl) (fun _ _ _ h => h) (Or.inl ⟨by rfl, ?_⟩) (by assumption) ?_
      rotate_left
      · intro w hSw; (try dsimp only at hSw); go_simp <;> with_reducible rfl
      try simp only [Act.put, List.getElem_toArray, List.getElem_cons_zero, List.getElem_cons_succ, List.setIfInBounds_toArray, List.set_cons_zero, List.set_cons_succ]
      refine wpAnyH_take (i := 1) (v := ?_) rfl (by kernel_rfl) (by kernel_rfl) (by kernel_rfl) (fun _ _ _ h => h) (Or.inl ⟨by rfl, ?_⟩) (by assumption) ?_
      rotate_left
      · intro w hSw; (try dsimp only at hSw); go_simp <;> with_reducible rfl
      try simp only [Act.put, List.getElem_toArray, List.getElem_cons_zero, List.getElem_cons_succ, List.setIfInBounds_toArray, List.set_cons_zero, List.set_cons_succ]
      refine wpAnyH_take (i := 2) (v := ?_) rfl (by kernel_rfl) (by kernel_rfl) (by kernel_rfl) (fun _ _ _ h => h) (Or.inl ⟨by rfl, ?_⟩) (by assumption) ?_
      rotate_left
      · intro w hSw; (try dsimp only at hSw); go_simp <;> with_reducible rfl
      try simp only [Act.put, List.getElem_toArray, List.getElem_cons_zero, List.getElem_cons_succ, List.setIfInBounds_toArray, List.set_cons_zero, List.set_cons_succ]
      refine wpAnyH_take (i := 3) (v := ?_) rfl (by kernel_rfl) (by kernel_rfl) (by kernel_rfl) (fun _ _ _ h => h) (Or.inl ⟨by rfl, ?_⟩) (by assumption) ?_
      rotate_left
      · intro w hSw; (try dsimp only at hSw); go_simp <;> with_reducible rfl
      try simp only [Act.put, List.getElem_toArray, List.getElem_cons_zero, List.getElem_cons_succ, List.setIfInBounds_toArray, List.set_cons_zero, List.set_cons_succ]
      refine wpAnyH_take (i := 4) (v := ?_) rfl (by kernel_rfl) (by kernel_rfl) (by kernel_rfl) (fun _ _ _ h => h) (Or.inl ⟨by rfl, ?_⟩) (by assumption) ?_
      rotate_left
      · intro w hSw; (try dsimp only at hSw); go_simp <;> with_reducible rfl
      try simp only [Act.put, List.getElem_toArray, List.getElem_cons_zero, List.getElem_cons_succ, List.setIfInBounds_toArray, List.set_cons_zero, List.set_cons_succ]
      refine wpAnyH_take (i := 5) (v := ?_) rfl (by kernel_rfl) (by kernel_rfl) (by kernel_rfl) (fun _ _ _ h => h) (Or.inl ⟨by rfl, ?_⟩) (by assumption) ?_
      rotate_left
      · intro w hSw; (try dsimp only at hSw); go_simp <;> with_reducible rfl
      try simp only [Act.put, List.getElem_toArray, List.getElem_cons_zero, List.getElem_cons_succ, List.setIfInBounds_toArray, List.set_cons_zero, List.set_cons_succ]
      cases U with
      | none =>
        refine wpAnyH_ready (rs := [6]) (by kernel_rfl) (by simp) ?_
        refine AllReadyH.cons rfl (fun K hK => ?_) AllReadyH.nil
        go_simp
        refine (hcU.out wd kd).mono ?_
        rintro e w2 ⟨rfl, k2⟩
        (try go_wp2_with fail)
        refine hK.out _ _ ?_ (fun hHeld => ?_)
        · exact hS.out _ (kd.trans k2 (by simp))
        clear hK K
        try simp only [Act.put, List.getElem_toArray, List.getElem_cons_zero, List.getElem_cons_succ, List.setIfInBounds_toArray, List.set_cons_zero, List.set_cons_succ]
        refine wpAnyH_take (i := 7) (v := ?_) rfl (by kernel_rfl) (by kernel_rfl) (by kernel_rfl) (fun _ _ _ h => h) (Or.inl ⟨by rfl, ?_⟩) (by assumption) ?_
        rotate_left
        · intro w hSw; (try dsimp only at hSw); go_simp <;> with_reducible rfl
        try simp only [Act.put, List.getElem_toArray, List.getElem_cons_zero, List.getElem_cons_succ, List.setIfInBounds_toArray, List.set_cons_zero, List.set_cons_succ]
        refine wpAnyH_take (i := 8) (v := ?_) rfl (by kernel_rfl) (by kernel_rfl) (by kernel_rfl) (fun _ _ _ h => h) (Or.inl ⟨by rfl, ?_⟩) (by assumption) ?_
        rotate_left
        · intro w hSw; (try dsimp only at hSw); go_simp <;> with_reducible rfl
        try simp only [Act.put, List.getElem_toArray, List.getElem_cons_zero, List.getElem_cons_succ, List.setIfInBounds_toArray, List.set_cons_zero, List.set_cons_succ]
        refine wpAnyH_take (i := 9) (v := ?_) rfl (by kernel_rfl) (by kernel_rfl) (by kernel_rfl) (fun _ _ _ h => h) (Or.inl ⟨by rfl, ?_⟩) (by assumption) ?_
        rotate_left
        · intro w hSw; (try dsimp only at hSw); go_simp <;> with_reducible rfl
        try simp only [Act.put, List.getElem_toArray, List.getElem_cons_zero, List.getElem_cons_succ, List.setIfInBounds_toArray, List.set_cons_zero, List.set_cons_succ]
        refine wpAnyH_take (i := 10) (v := ?_) rfl (by kernel_rfl) (by kernel_rfl) (by kernel_rfl) (fun _ _ _ h => h) (Or.inl ⟨by rfl, ?_⟩) (by assumption) ?_
        rotate_left
        · intro w hSw; (try dsimp only at hSw); go_simp <;> with_reducible rfl
        try simp only [Act.put, List.getElem_toArray, List.getElem_cons_zero, List.getElem_cons_succ, List.setIfInBounds_toArray, List.set_cons_zero, List.set_cons_succ]
        refine wpAnyH_take (i := 11) (v := ?_) rfl (by kernel_rfl) (by kernel_rfl) (by kernel_rfl) (fun _ _ _ h => h) (Or.inl ⟨by rfl, ?_⟩) (by assumption) ?_
        rotate_left
        · intro w hSw; (try dsimp only at hSw); go_simp <;> with_reducible rfl
        try simp only [Act.put, List.getElem_toArray, List.getElem_cons_zero, List.getElem_cons_succ, List.setIfInBounds_toArray, List.set_cons_zero, List.set_cons_succ]
        refine wpAnyH_take (i := 12) (v := ?_) rfl (by kernel_rfl) (by kernel_rfl) (by kernel_rfl) (fun _ _ _ h => h) (Or.inl ⟨by rfl, ?_⟩) (by assumption) ?_
        rotate_left
        · intro w hSw; (try dsimp only at hSw); go_simp <;> with_reducible rfl
        try simp only [Act.put, List.getElem_toArray, List.getElem_cons_zero, List.getElem_cons_succ, List.setIfInBounds_toArray, List.set_cons_zero, List.set_cons_succ]
        refine wpAnyH_take (i := 13) (v := ?_) rfl (by kernel_rfl) (by kernel_rfl) (by kernel_rfl) (fun _ _ _ h => h) (Or.inl ⟨by rfl, ?_⟩) (by assumption) ?_
        rotate_left
        · intro w hSw; (try dsimp only at hSw); go_simp <;> with_reducible rfl
        try simp only [Act.put, List.getElem_toArray, List.getElem_cons_zero, List.getElem_cons_succ, List.setIfInBounds_toArray, List.set_cons_zero, List.set_cons_succ]
        refine wpAnyH_done (by kernel_rfl) ?_ _
        have hfin : TkL w (okV F) (.returned (.tuple #[.slice none 0 0, .bool false])) w2 := by rw [hF.out]; exact tkL_none w w2 (kd.trans k2 (by simp))
        clear hF hcU hS
        go_wp2_with fail
        go_ret2
        exact hfin
      | some q =>
        obtain ⟨u, r⟩ := q
        refine wpAnyH_ready (rs := [6]) (by kernel_rfl) (by simp) ?_
        refine AllReadyH.cons rfl (fun K hK => ?_) AllReadyH.nil
        go_simp
        refine (hcU.out wd kd).mono ?_
        rintro e w2 ⟨a2, c2, b2, e2, rfl, hrow2, hsr2, hle2, hme2, k2, hn2⟩
        have hrow2' := hid hrow2
        have hsr2' := hid hsr2
        clear hrow2 hsr2
        (try go_wp2_with fail)
        refine hK.out _ _ ?_ (fun hHeld => ?_)
        · exact hS.out _ (kd.trans k2 (by simp))
        clear hK K
        try simp only [Act.put, List.getElem_toArray, List.getElem_cons_zero, List.getElem_cons_succ, List.setIfInBounds_toArray, List.set_cons_zero, List.set_cons_succ]
        refine wpAnyH_take (i := 7) (v := ?_) rfl (by kernel_rfl) (by kernel_rfl) (by kernel_rfl) (fun _ _ _ h => h) (Or.inl ⟨by rfl, ?_⟩) (by assumption) ?_
        rotate_left
        · intro w hSw; (try dsimp only at hSw); go_simp <;> with_reducible rfl
        try simp only [Act.put, List.getElem_toArray, List.getElem_cons_zero, List.getElem_cons_succ, List.setIfInBounds_toArray, List.set_cons_zero, List.set_cons_succ]
        refine wpAnyH_take (i := 8) (v := ?_) rfl (by kernel_rfl) (by kernel_rfl) (by kernel_rfl) (fun _ _ _ h => h) (Or.inl ⟨by rfl, ?_⟩) (by assumption) ?_
        rotate_left
        · intro w hSw; (try dsimp only at hSw); go_simp <;> with_reducible rfl
        try simp only [Act.put, List.getElem_toArray, List.getElem_cons_zero, List.getElem_cons_succ, List.setIfInBounds_toArray, List.set_cons_zero, List.set_cons_succ]
        refine wpAnyH_take (i := 9) (v := ?_) rfl (by kernel_rfl) (by kernel_rfl) (by kernel_rfl) (fun _ _ _ h => h) (Or.inl ⟨by rfl, ?_⟩) (by assumption) ?_
        rotate_left
        · intro w hSw; (try dsimp only at hSw); go_simp <;> with_reducible rfl
        try simp only [Act.put, List.getElem_toArray, List.getElem_cons_zero, List.getElem_cons_succ, List.setIfInBounds_toArray, List.set_cons_zero, List.set_cons_succ]
        refine wpAnyH_take (i := 10) (v := ?_) rfl (by kernel_rfl) (by kernel_rfl) (by kernel_rfl) (fun _ _ _ h => h) (Or.inl ⟨by rfl, ?_⟩) (by assumption) ?_
        rotate_left
        · intro w hSw; (try dsimp only at hSw); go_simp <;> with_reducible rfl
        try simp only [Act.put, List.getElem_toArray, List.getElem_cons_zero, List.getElem_cons_succ, List.setIfInBounds_toArray, List.set_cons_zero, List.set_cons_succ]
        refine wpAnyH_take (i := 11) (v := ?_) rfl (by kernel_rfl) (by kernel_rfl) (by kernel_rfl) (fun _ _ _ h => h) (Or.inl ⟨by rfl, ?_⟩) (by assumption) ?_
        rotate_left
        · intro w hSw; (try dsimp only at hSw); go_simp <;> with_reducible rfl
        try simp only [Act.put, List.getElem_toArray, List.getElem_cons_zero, List.getElem_cons_succ, List.setIfInBounds_toArray, List.set_cons_zero, List.set_cons_succ]
        refine wpAnyH_take (i := 12) (v := ?_) rfl (by kernel_rfl) (by kernel_rfl) (by kernel_rfl) (fun _ _ _ h => h) (Or.inl ⟨by rfl, ?_⟩) (by assumption) ?_
        rotate_left
        · intro w hSw; (try dsimp only at hSw); go_simp <;> with_reducible rfl
        try simp only [Act.put, List.getElem_toArray, List.getElem_cons_zero, List.getElem_cons_succ, List.setIfInBounds_toArray, List.set_cons_zero, List.set_cons_succ]
        refine wpAnyH_take (i := 13) (v := ?_) rfl (by kernel_rfl) (by kernel_rfl) (by kernel_rfl) (fun _ _ _ h => h) (Or.inl ⟨by rfl, ?_⟩) (by assumption) ?_
        rotate_left
        · intro w hSw; (try dsimp only at hSw); go_simp <;> with_reducible rfl
        try simp only [Act.put, List.getElem_toArray, List.getElem_cons_zero, List.getElem_cons_succ, List.setIfInBounds_toArray, List.set_cons_zero, List.set_cons_succ]
        refine wpAnyH_done (by kernel_rfl) ?_ _
        obtain ⟨hul, hrl⟩ := hlen.out (u, r) rfl
        dsimp only at hul hrl hle2
        have hul' := hid hul
        have kw2 := kd.trans k2 (by simp)
        have hu64 : u.length ≤ 64 := by omega
        have hu1 : 0 < u.length := by omega
        clear hul hlen hcU hS hHeld
        have cP := cPlaceWidth u.length hu1 (by omega) w2
        have hwb := bitLen_le64 (u.length - 1)
        try dsimp only at hF
        try dsimp only at hrow2'
        try dsimp only at hsr2'
        obtain ⟨wd9, hwd9⟩ : ∃ q, Hid (Lib.bitLen (u.length - 1) = q) := ⟨_, rfl⟩
        rw [hwd9.out] at hF cP hwb
        have cU := cUnpack b2 e2 r many wd9 w2 (hsr2'.out.kept k2 (by simp)) (by omega) hmn hwb
        have hlen2 := hid (fun ns (h : upkO r many wd9 = some ns) => (upkO_len h).1)
        obtain ⟨U2, hU2⟩ : ∃ U2, Hid (upkO r many wd9 = U2) := ⟨_, rfl⟩
        rw [hU2.out] at hF cU hlen2
        clear hsr2' hU2 hwd9
        go_wp2_with fail
        refine cP.mono ?_
        rintro e w9 ⟨rfl, hw9⟩
        rw [hw9]
        clear hw9 w9 cP
        go_wp2_with fail
        cases U2 with
        | none =>
          refine cU.mono ?_
          rintro e w3 ⟨rfl, k3⟩
          have hfin : TkL w (okV F) (.returned (.tuple #[.slice none 0 0, .bool false])) w3 := by rw [hF.out]; exact tkL_none w w3 (kw2.trans k3 (by simp))
          clear hF cU
          go_wp2_with fail
          go_ret2
          exact hfin
        | some ns =>
          refine cU.mono ?_
          rintro e w3 ⟨a3, c3, rfl, hrow3, k3, hn3⟩
          have hnl := hlen2.out ns rfl
          subst hnl
          have kw3 := kw2.trans k3 (by simp)
          have hsn : Hid (∀ W, Kp [] w3 W → U64E.See W a3 ns) := fun W kW => by
            obtain ⟨_, _, e, h1, _⟩ := hrow3.see
            injection e with e1 e2 e3
            rw [e1]
            exact h1.keptNew kW
          have hsu : Hid (∀ W, Kp [] w3 W → Vals W a2 u) := fun W kW => by
            obtain ⟨_, _, e, h1, _⟩ := hrow2'.out.see
            injection e with e1 e2 e3
            rw [e1]
            exact seeV.1 (h1.keptNew (k3.trans kW (by simp)))
          obtain ⟨W1, hmk, hrow1, k1, hs1⟩ := run_makeG (E := VE) (P := Tryz.prog) w3 32 25 i0 _ nv 40 Tryz.underlying32 hi hz0 hz1 hz2 rfl .i64 .i64 ns.length (by omega) (by unfold maxLen; omega)
          obtain ⟨f, hf⟩ : ∃ f : Nat → Val, Hid ((fun p => u.getD p nv) = f) := ⟨_, rfl⟩
          have hfa : Hid (∀ p (h : p < u.length), f p = u[p]) := fun p h => by rw [← hf.out]; simp [h]
          have hF2 : Hid (F = if ns.all (fun p => decide (p < u.length)) = true then some (ns.map f) else none) := by show _ = _; rw [hF.out, ← hf.out]
          have R0 : Hid (VE.Row W1 (.slice (some ⟨w3.heap.size, 0, none⟩) ns.length ns.length) (mapTo f ns ns.length 0)) := by show VE.Row _ _ _; simpa [mapTo] using hrow1
          clear hF hrow2' hrow1 hf hlen2 hn2 hbe cU hrow3 hn3
          go_wp2_with fail
          go_loopw [57] (fun i wn => ∃ j : Nat, j ≤ ns.length ∧ i = .int .i64 j ∧ Hid ((ns.take j).all (fun p => decide (p < u.length)) = true) ∧ VE.Row wn (.slice (some ⟨w3.heap.size, 0, none⟩) ns.length ns.length) (mapTo f ns ns.length j) ∧ Kp [] w3 wn) (fun i _ => ns.length - (intOf i).toNat)
          case atStart => exact ⟨0, Nat.zero_le _, rfl, by show _ = _; simp, R0.out, k1⟩
          case round =>
            clear hmk R0 k1 hs1
            obtain ⟨j, hj, rfl, hall, hrow, kn⟩ := hrel
            by_cases hlt : j < ns.length
            · obtain ⟨g2, o2, rfl, hcn⟩ := u64At (hsn.out wr kn) j hlt
              by_cases hpu : ns[j] < u.length
              · have hset := rowSetV hrow j (by rw [mapTo_len _ _ _ (by omega)]; exact hlt) (f ns[j])
                have hcl := rowCellsV hrow j (by rw [mapTo_len _ _ _ (by omega)]; exact hlt)
                rw [mapTo_set f ns j hlt] at hset
                have hall' : Hid ((ns.take (j + 1)).all (fun p => decide (p < u.length)) = true) := all_take hall.out hlt (by simpa using hpu)
                obtain ⟨g3, o3, rfl, y0, y1, y2, y3⟩ := (hsu.out wr kn).at ns[j] hpu
                have hfj := hfa.out ns[j] hpu
                rw [hfj] at hset
                generalize ns[j] = m at *
                generalize u[m] = v at *
                obtain ⟨⟨u0, c0⟩, f0⟩ := hcl 0 (by omega)
                obtain ⟨⟨u1, c1⟩, f1⟩ := hcl 1 (by omega)
                obtain ⟨⟨u2, c2'⟩, f2⟩ := hcl 2 (by omega)
                obtain ⟨⟨u3, c3⟩, f3⟩ := hcl 3 (by omega)
                rw [Nat.add_zero] at c0 f0
                have kset := kpSet4 (i := j) kn (Nat.le_refl _) (.int .i64 v.k) (.bool v.b) (.int .i64 v.n) (.string v.t)
                have hs3 := hid hset
                have ks3 := hid kset
                have e1 : ¬ (u.length : Int) ≤ (m : Int) := by omega
                have e2 : ¬ u.length ≤ m := by omega
                obtain ⟨vk, vb, vn, vt⟩ := v
                dsimp only at *
                clear hset kset hcl hfj hrow hall
                go_wp2_with fail
                exact ⟨⟨j + 1, by omega, by go_num, hall', hs3.out, ks3.out⟩, by simp [intOf]; omega⟩
              · have hfin : TkL w (okV F) (.returned (.tuple #[.slice none 0 0, .bool false])) wr := by
                  rw [hF2.out, all_false hlt (by simpa using hpu)]
                  exact tkL_none w wr (kw3.trans kn (by simp))
                generalize ns[j] = m at *
                have e1 : (u.length : Int) ≤ (m : Int) := by omega
                have e2 : u.length ≤ m := by omega
                clear hrow hF2 hall
                go_wp2_with fail
                go_ret2
                exact hfin
            · obtain rfl : j = ns.length := by omega
              rw [mapTo_all] at hrow
              rw [List.take_length] at hall
              have hml : (ns.map f).length = ns.length := by simp
              have hP : TkL w (okV F) (.returned (.tuple #[.slice (some ⟨w3.heap.size, 0, none⟩) ns.length ns.length, .bool true])) wr := by
                rw [hF2.out, if_pos hall.out]
                exact ⟨some ⟨w3.heap.size, 0, none⟩, ns.length, by simp [okV], by show VE.Row _ (.slice _ (ns.map f).length _) _; rw [hml]; exact hrow, kw3.trans kn (by simp), fun k hk => by simp [blk] at hk; have := kw3.size; omega⟩
              clear hrow hF2 hall
              go_wp2_with fail
              go_ret2
              exact hP
end Go.Proofs.YtafcdckpicoppaaGreatDoor
end

section
namespace Go.Proofs.YtafcdckpicoppaaGreatDoor
open Go.RowKit Go.Hay
set_option linter.unusedVariables false
set_option linter.unusedSimpArgs false

set_option maxHeartbeats 4000000 in
theorem cTakeA (k : Int) (a : Option Addr) (c : Nat) (bs : List UInt8) (many : Nat) (w : World) (hs : Sees w a bs) (hl : bs.length ≤ c) (hm : c ≤ maxLen) (hb : bs.length ≤ 900000000000000) (hmn : many ≤ 64) :
    Calls Tryz.prog 91 #[.int .i64 k, .slice a bs.length c, .int .i64 many] w (TkL w (okV (tkA k many bs))) := by
  by_cases h0 : many = 0
  · subst h0
    have hF : Hid (tkA k 0 bs = some []) := by show _ = _; unfold tkA; rw [if_pos rfl]
    rw [hF.out]
    have hfin : TkL w (okV (some [])) (.returned (.tuple #[.slice none 0 0, .bool true])) w := ⟨none, 0, rfl, .inl ⟨rfl, rfl⟩, Kp.refl _ _, by simp [blk]⟩
    clear hs hm
    go_enter Tryz.func91, Tryz.ntmps91
    go_wp2_with fail
    go_ret2
    exact hfin
  · have d0 : ((many : Int) == 0) = false := by rw [beq_eq_false_iff_ne]; omega
    have hF : Hid (tkA k many bs = if k = 1 then tkR many [] bs else if k = 2 then tkDl many bs else if k = 3 then tkDc many bs else if k = 4 then tkBt many bs else (tkP many [] bs).map Prod.fst) := by show _ = _; unfold tkA; rw [if_neg h0]
    by_cases h1 : k = 1
    · subst h1
      rw [if_pos rfl] at hF
      rw [hF.out]
      exact cTake1 a c bs many w hs hl hm hb hmn (by omega)
    · rw [if_neg h1] at hF
      have e1 : (k == 1) = false := by rw [beq_eq_false_iff_ne]; exact h1
      by_cases h2 : k = 2
      · subst h2
        rw [if_pos rfl] at hF
        rw [hF.out]
        have hT := cTakeDelta a c bs many w hs hl hm hb hmn (by omega)
        obtain ⟨⟨L, B⟩, hR⟩ : ∃ R, Hid (okV (tkDl many bs) = R) := ⟨_, rfl⟩
        rw [hR.out] at hT ⊢
        clear hs hm hR hF
        go_enter Tryz.func91, Tryz.ntmps91
        go_wp2_with fail
        refine hT.mono ?_
        rintro e w1 ⟨a1, c1, rfl, hrow, k1, hn1⟩
        dsimp only at hrow
        have hrow' := hid hrow
        clear hrow hT
        go_wp2_with fail
        go_ret2
        exact ⟨a1, c1, rfl, hrow'.out, k1, hn1⟩
      · rw [if_neg h2] at hF
        have e2 : (k == 2) = false := by rw [beq_eq_false_iff_ne]; exact h2
        by_cases h3 : k = 3
        · subst h3
          rw [if_pos rfl] at hF
          rw [hF.out]
          have hT := cTakeDict a c bs many w hs hl hm hb hmn
          obtain ⟨⟨L, B⟩, hR⟩ : ∃ R, Hid (okV (tkDc many bs) = R) := ⟨_, rfl⟩
          rw [hR.out] at hT ⊢
          clear hs hm hR hF
          go_enter Tryz.func91, Tryz.ntmps91
          go_wp2_with fail
          refine hT.mono ?_
          rintro e w1 ⟨a1, c1, rfl, hrow, k1, hn1⟩
          dsimp only at hrow
          have hrow' := hid hrow
          clear hrow hT
          go_wp2_with fail
          go_ret2
          exact ⟨a1, c1, rfl, hrow'.out, k1, hn1⟩
        · rw [if_neg h3] at hF
          have e3 : (k == 3) = false := by rw [beq_eq_false_iff_ne]; exact h3
          by_cases h4 : k = 4
          · subst h4
            rw [if_pos rfl] at hF
            rw [hF.out]
            have hT := cTakeBits a c bs many w hs hl hm hb hmn
            obtain ⟨⟨L, B⟩, hR⟩ : ∃ R, Hid (okV (tkBt many bs) = R) := ⟨_, rfl⟩
            rw [hR.out] at hT ⊢
            clear hs hm hR hF
            go_enter Tryz.func91, Tryz.ntmps91
            go_wp2_with fail
            refine hT.mono ?_
            rintro e w1 ⟨a1, c1, rfl, hrow, k1, hn1⟩
            dsimp only at hrow
            have hrow' := hid hrow
            clear hrow hT
            go_wp2_with fail
            go_ret2
            exact ⟨a1, c1, rfl, hrow'.out, k1, hn1⟩
          · rw [if_neg h4] at hF
            have e4 : (k == 4) = false := by rw [beq_eq_false_iff_ne]; exact h4
            rw [hF.out]
            have hT := cTakePlain a c bs many w hs hl hm hb (by omega)
            obtain ⟨R, hR⟩ : ∃ R, Hid (tkP many [] bs = R) := ⟨_, rfl⟩
            rw [hR.out] at hT ⊢
            clear hs hm hR hF
            cases R with
            | none =>
              have hfin := fun W (k : Kp [] w W) => tkL_none w W k
              go_enter Tryz.func91, Tryz.ntmps91
              go_wp2_with fail
              refine hT.mono ?_
              rintro e w1 ⟨rfl, k1⟩
              have hf := hfin w1 k1
              clear hfin hT
              go_wp2_with fail
              go_ret2
              exact hf
            | some q =>
              go_enter Tryz.func91, Tryz.ntmps91
              go_wp2_with fail
              refine hT.mono ?_
              rintro e w1 ⟨a1, c1, b1, d1, rfl, hrow, _, _, _, k1, hn1⟩
              have hfin : TkL w (okV (Option.map Prod.fst (some q))) (.returned (.tuple #[.slice a1 q.1.length c1, .bool true])) w1 := ⟨a1, c1, rfl, hrow, k1, hn1⟩
              clear hrow hT hn1
              go_wp2_with fail
              go_ret2
              exact hfin
/-- What Decode tells. -/
def decA (k : Int) (bs : List UInt8) (many : Nat) : List Val × Int := if knownB k = false then ([], 62) else if 64 < many then ([], 61) else decE k bs many (okV (tkA k many bs))
theorem decP_err (w : World) (n : Int) : DecP w ([], n) (.returned (.tuple #[.slice none 0 0, .int .i64 n])) w := ⟨none, 0, rfl, .inl ⟨rfl, rfl⟩, Kp.refl _ _, by simp [blk]⟩
set_option maxHeartbeats 2000000 in
theorem cDecA (k : Int) (a : Option Addr) (c : Nat) (bs : List UInt8) (many : Nat) (w : World) (hs : Sees w a bs) (hl : bs.length ≤ c) (hm : c ≤ maxLen) (hb : bs.length ≤ 900000000000000) (hmn : many ≤ 9223372036854775807) :
    Calls Tryz.prog 70 #[.int .i64 k, .slice a bs.length c, .int .i64 many] w (DecP w (decA k bs many)) := by
  have cK := cKnown k w
  unfold decA
  by_cases hk : knownB k = false
  · rw [hk] at cK
    rw [if_pos hk]
    have hfin := decP_err w 62
    clear hs hm hk
    go_enter Tryz.func70, Tryz.ntmps70
    go_wp2_with fail
    refine cK.mono ?_
    rintro e w9 ⟨rfl, hw9⟩
    rw [hw9]
    clear hw9 w9 cK
    go_wp2_with fail
    go_ret2
    exact hfin
  · have hk' : knownB k = true := by simpa using hk
    rw [if_neg hk]
    by_cases h64 : 64 < many
    · rw [if_pos h64]
      rw [hk'] at cK
      have hfin := decP_err w 61
      have d0 : ¬ (many : Int) < 0 := by omega
      have d1 : (64 : Int) < (many : Int) := by omega
      clear hs hm hk hk'
      go_enter Tryz.func70, Tryz.ntmps70
      go_wp2_with fail
      refine cK.mono ?_
      rintro e w9 ⟨rfl, hw9⟩
      rw [hw9]
      clear hw9 w9 cK
      go_wp2_with fail
      go_ret2
      exact hfin
    · rw [if_neg h64]
      exact cDecE k a c bs many _ w hk' hs (by omega) (cTakeA k a c bs many w hs hl hm hb (by omega))
end Go.Proofs.YtafcdckpicoppaaGreatDoor
end

section
namespace Go.Proofs.YtafcdckpicoppaaGreatDoor
open Go.RowKit Go.Hay
set_option linter.unusedVariables false
set_option linter.unusedSimpArgs false

/-- The bytes behind so many values. -/
def skP : Nat → List UInt8 → List UInt8
  | 0, bs => bs
  | n + 1, bs => skP n (bs.drop (vsz bs))
theorem skP_put : ∀ (l : List Val) (s : List UInt8), allR l = true → skP l.length (l.flatMap rowB ++ s) = s
  | [], s, _ => by simp [skP]
  | x :: l, s, h => by
    have hx : x.right = true := by simp [allR] at h; exact h.1
    have hl : allR l = true := by simp [allR] at h ⊢; exact h.2
    rw [List.flatMap_cons, List.append_assoc, List.length_cons, skP, vsz_rowB x hx, List.drop_left, skP_put l s hl]
def skR : Nat → Nat → List UInt8 → List UInt8
  | 0, _, bs => bs
  | f + 1, left, bs => if left = 0 then bs else match bs with
    | [] => []
    | c :: r => skR f (left - c.toNat) (r.drop (vsz r))
theorem skR_put : ∀ (R : List Rn) (s : List UInt8) (f : Nat), (∀ r ∈ R, r.v.right = true ∧ 0 < r.m ∧ r.m < 256) → R.length ≤ f → skR f (R.map Rn.m).sum (R.flatMap runB ++ s) = s
  | [], s, f, _, _ => by
    cases f with
    | zero => simp [skR]
    | succ f => simp [skR]
  | r :: R, s, 0, _, h => by simp at h
  | r :: R, s, f + 1, h, hf => by
    obtain ⟨h1, h2, h3⟩ := h r (by simp)
    have e : (r :: R).flatMap runB ++ s = octet r.m :: (rowB r.v ++ (R.flatMap runB ++ s)) := by simp [runB]
    rw [e, skR, if_neg (by simp; omega)]
    rw [vsz_rowB r.v h1, List.drop_left, octet_nat r.m h3]
    have e2 : ((r :: R).map Rn.m).sum - r.m = (R.map Rn.m).sum := by simp
    rw [e2, skR_put R s f (fun r' hr' => h r' (by simp [hr'])) (by simp at hf; omega)]
def skD : Nat → List UInt8 → List UInt8
  | 0, bs => bs
  | n + 1, bs => skD n (bs.drop (tkG 0 0 bs).2)
theorem skD_put : ∀ (r : List Val) (x : Val) (s : List UInt8), skD r.length (dltL x r ++ s) = s
  | [], x, s => by simp [skD, dltL]
  | y :: r, x, s => by
    have hw := wrap64_bd (y.n - x.n)
    rw [dltL, List.append_assoc, List.length_cons, skD, tkG_zig _ hw.1 hw.2]
    simp only
    rw [List.drop_left, skD_put r y s]
theorem octet_inj {a b : Nat} (ha : a < 256) (hb : b < 256) (h : octet a = octet b) : a = b := by
  rw [← octet_nat a ha, ← octet_nat b hb, h]
/-- No encoding is another one's beginning, of as many values. -/
theorem pre_free (k : Int) (l m : List Val) (s : List UInt8) (hl : refE k l = 0) (hm : refE k m = 0) (hn : l.length = m.length) (h0 : 0 < l.length) (h : putB k l = putB k m ++ s) : s = [] := by
  obtain ⟨_, hl64, hla⟩ := refE_ok hl
  obtain ⟨_, hm64, hma⟩ := refE_ok hm
  have hm0 : 0 < m.length := by omega
  unfold putB at h
  by_cases h1 : k = 1
  · rw [if_pos h1, if_pos h1] at h
    have hr : ∀ l : List Val, allR l = true → l.length ≤ 64 → ∀ s, skR 64 l.length ((runsV l).flatMap runB ++ s) = s := fun l ha h64 s => by
      obtain ⟨q1, q2, q3⟩ := runsV_flat l
      have := skR_put (runsV l) s 64 (fun r hr => by
        have h3 := runsV_in r hr
        exact ⟨List.all_eq_true.1 ha _ h3.1, q2 r hr, by omega⟩) (by have := runsV_len l; omega)
      rw [q3] at this
      exact this
    have e1 := hr l hla hl64 []
    have e2 := hr m hma hm64 s
    rw [List.append_nil, h, hn] at e1
    rw [← e2, e1]
  · rw [if_neg h1, if_neg h1] at h
    by_cases h2 : k = 2
    · rw [if_pos h2, if_pos h2] at h
      have hd : ∀ l : List Val, 0 < l.length → ∀ s, skD (l.length - 1) ((deltaB l ++ s).drop 8) = s := fun l h0 s => by
        cases l with
        | nil => simp at h0
        | cons x r =>
          have e : deltaB (x :: r) ++ s = be (u64 x.n) 8 ++ (dltL x r ++ s) := by
            unfold deltaB
            rw [List.length_cons, Nat.add_sub_cancel, dltL_eq]
            simp
          rw [e, List.drop_left' (be_length _ _), List.length_cons, Nat.add_sub_cancel, skD_put]
      have e1 := hd l h0 []
      have e2 := hd m hm0 s
      rw [List.append_nil, h, hn] at e1
      rw [← e2, e1]
    · rw [if_neg h2, if_neg h2] at h
      by_cases h3 : k = 3
      · rw [if_pos h3, if_pos h3] at h
        unfold dictB at h
        simp only [List.cons_append, List.nil_append, List.append_assoc, List.cons.injEq] at h
        obtain ⟨ho, ht⟩ := h
        have u1 := uniq_len l
        have u2 := uniq_len m
        have hu : (uniq l).length = (uniq m).length := octet_inj (by omega) (by omega) ho
        have e1 := skP_put (uniq l) (packB (plcs (uniq l) l l.length) (Lib.bitLen ((uniq l).length - 1))) (uniq_right l hla)
        have e2 := skP_put (uniq m) (packB (plcs (uniq m) m m.length) (Lib.bitLen ((uniq m).length - 1)) ++ s) (uniq_right m hma)
        rw [ht, hu, e2] at e1
        have e3 := congrArg List.length e1
        rw [List.length_append, packB_length, packB_length, plcs_length, plcs_length, hn] at e3
        exact List.eq_nil_of_length_eq_zero (by omega)
      · rw [if_neg h3, if_neg h3] at h
        by_cases h4 : k = 4
        · rw [if_pos h4, if_pos h4] at h
          unfold bitsB at h
          have w1 := wdt_le l (leastTo l l.length) l.length
          have w2 := wdt_le m (leastTo m m.length) m.length
          have h8 := congrArg (fun q => q.drop 8) h
          simp only [List.append_assoc] at h8
          rw [List.drop_left' (be_length _ _), List.drop_left' (be_length _ _)] at h8
          simp only [List.cons_append, List.nil_append, List.cons.injEq] at h8
          obtain ⟨ho, ht⟩ := h8
          have hw := octet_inj (by omega) (by omega) ho
          have e3 := congrArg List.length ht
          rw [List.length_append, packB_length, packB_length, abvs_length, abvs_length, hw, hn] at e3
          exact List.eq_nil_of_length_eq_zero (by omega)
        · rw [if_neg h4, if_neg h4] at h
          have e1 := skP_put l [] hla
          have e2 := skP_put m s hma
          rw [List.append_nil, h, hn, e2] at e1
          exact e1
end Go.Proofs.YtafcdckpicoppaaGreatDoor
end

section
namespace Go.Proofs.YtafcdckpicoppaaGreatDoor
open Go.RowKit Go.Hay
set_option linter.unusedVariables false
set_option linter.unusedSimpArgs false

def v5 : Val := ⟨2, false, 5, ⟨#[]⟩⟩
def l5 : List Val := [v5, v5, v5]
theorem lt5 : v5.lt v5 = false := Val.lt_irr v5
theorem ref0 : refE 0 l5 = 0 := by decide +kernel
theorem ref1 : refE 1 l5 = 0 := by decide +kernel
theorem ref2 : refE 2 l5 = 0 := by decide +kernel
theorem ref3 : refE 3 l5 = 0 := by decide +kernel
theorem ref4 : refE 4 l5 = 0 := by decide +kernel
theorem runs5 : encR 1 l5 = [3, 2, 0, 0, 0, 0, 0, 0, 0, 5] := by decide +kernel
theorem tk5 : tkV [2, 0, 0, 0, 0, 0, 0, 0, 5] = (v5, 9) := by kernel_rfl
theorem len0 : (encR 0 l5).length = 27 := by decide +kernel
theorem len4 : (encR 4 l5).length = 9 := by decide +kernel
theorem gB0 : gB 0 = [0] := by rw [gB_lo (by omega)]; rfl
theorem len2 : (encR 2 l5).length = 10 := by
  have e : encR 2 l5 = deltaB l5 := by
    unfold encR
    rw [if_pos ⟨ref2, by decide⟩]
    rfl
  rw [e]
  unfold deltaB
  have e1 : dlt l5 (l5.length - 1) = [0, 0] := by
    show dlt l5 2 = _
    rw [dlt_succ, dlt_succ]
    have z0 : (zig (dz l5 0)).toNat = 0 := by decide +kernel
    have z1 : (zig (dz l5 1)).toNat = 0 := by decide +kernel
    rw [z0, z1, gB0]
    rfl
  rw [e1]
  simp [be_length]
theorem sort5 : sortV l5 = l5 := (sortV_of l5 l5 (by decide +kernel) (List.Perm.refl _) (by
  have h := lt5
  simp [l5, h])).symm
theorem uniq5 : uniq l5 = [v5] := by
  unfold uniq
  rw [sort5]
  have e : v5.eqv v5 = true := eqv_iff.2 rfl
  show cptTo l5 3 = _
  rw [cptTo_same l5 2 (by omega) e, cptTo_same l5 1 (by omega) e, cptTo_new l5 0 (.inl rfl)]
  rfl
theorem len3 : (encR 3 l5).length = 10 := by
  have e : encR 3 l5 = dictB l5 := by
    unfold encR
    rw [if_pos ⟨ref3, by decide⟩]
    rfl
  rw [e]
  unfold dictB
  rw [uniq5]
  simp only [List.length_append, packB_length, plcs_length]
  decide +kernel
theorem best5 : bestV l5 = 4 := by
  have l1 : (encR 1 l5).length = 10 := by rw [runs5]; rfl
  unfold bestV
  have b1 : bT l5 1 = (0, 27) := by
    rw [bT, if_pos ⟨ref0, .inl (by decide)⟩]
    show ((0 : Int), ((encR 0 l5).length : Int)) = _
    rw [len0]; rfl
  have b2 : bT l5 2 = (1, 10) := by
    rw [bT, b1, if_pos ⟨ref1, .inr (by show ((encR 1 l5).length : Int) < _; rw [l1]; decide)⟩]
    show ((1 : Int), ((encR 1 l5).length : Int)) = _
    rw [l1]; rfl
  have b3 : bT l5 3 = (1, 10) := by
    rw [bT, b2, if_neg]
    rintro ⟨_, h | h⟩
    · revert h; decide
    · have h' : ((encR 2 l5).length : Int) < 10 := h
      rw [len2] at h'; omega
  have b4 : bT l5 4 = (1, 10) := by
    rw [bT, b3, if_neg]
    rintro ⟨_, h | h⟩
    · revert h; decide
    · have h' : ((encR 3 l5).length : Int) < 10 := h
      rw [len3] at h'; omega
  have b5 : bT l5 5 = (4, 9) := by
    rw [bT, b4, if_pos ⟨ref4, .inr (by show ((encR 4 l5).length : Int) < _; rw [len4]; decide)⟩]
    show ((4 : Int), ((encR 4 l5).length : Int)) = _
    rw [len4]; rfl
  rw [b5]
theorem tkr5 : tkR 3 [] [3, 2, 0, 0, 0, 0, 0, 0, 0, 5] = some l5 := by
  rw [tkR_cons (by decide), tk5]
  rw [if_neg (by decide)]
  rw [tkR_done (by decide)]
  rfl
theorem dec5 : decE 1 [3, 2, 0, 0, 0, 0, 0, 0, 0, 5] 3 (okV (tkR 3 [] [3, 2, 0, 0, 0, 0, 0, 0, 0, 5])) = (l5, 0) := by
  rw [tkr5]
  show decE 1 _ 3 (l5, true) = _
  unfold decE
  rw [if_pos ⟨rfl, rfl, ref1, runs5⟩]
end Go.Proofs.YtafcdckpicoppaaGreatDoor
end

section
namespace Go.Proofs.YtafcdckpicoppaaGreatDoor
open Go.RowKit Go.Hay
set_option linter.unusedVariables false
set_option linter.unusedSimpArgs false

theorem see5 (w : World) (t : TypeId) : VE.See (w.alloc (.cells #[.int .i64 2, .bool false, .int .i64 5, .string ⟨#[]⟩, .int .i64 2, .bool false, .int .i64 5, .string ⟨#[]⟩, .int .i64 2, .bool false, .int .i64 5, .string ⟨#[]⟩] t)) (some ⟨w.heap.size, 0, none⟩) l5 := by
  refine .inr ⟨_, 0, rfl, fun j u hu => ?_⟩
  have e : (w.alloc (.cells #[.int .i64 2, .bool false, .int .i64 5, .string ⟨#[]⟩, .int .i64 2, .bool false, .int .i64 5, .string ⟨#[]⟩, .int .i64 2, .bool false, .int .i64 5, .string ⟨#[]⟩] t)).cell? ⟨w.heap.size, 0 + j, none⟩ = _ := World.cell?_alloc_new w _ _ (0 + j)
  rw [e, Nat.zero_add]
  simpa [El.cs, VE, l5, v5] using hu
end Go.Proofs.YtafcdckpicoppaaGreatDoor
end

section
namespace Go.Proofs.YtafcdckpicoppaaGreatDoor
open Go.RowKit Go.Hay
set_option linter.unusedVariables false
set_option linter.unusedSimpArgs false

theorem packB_le (ns : List Nat) (wd : Nat) (h1 : ns.length ≤ 64) (h2 : wd ≤ 64) : (packB ns wd).length ≤ 513 := by
  rw [packB_length]
  have : ns.length * wd ≤ 64 * 64 := Nat.mul_le_mul h1 h2
  omega
theorem encR_len (k : Int) (l : List Val) : (encR k l).length ≤ 10000 := by
  unfold encR
  split
  · rename_i h
    obtain ⟨_, h64, ha⟩ := refE_ok h.1
    have hp := flat_length (f := rowB) (m := 66) (fun x hx => rowB_length hx) l ha
    unfold putB
    split
    · have h1 := flatRun_len (R := runsV l) (fun r hr => List.all_eq_true.1 ha _ (runsV_in r hr).1)
      have := runsV_len l
      omega
    · split
      · unfold deltaB
        have := dlt_len l (l.length - 1)
        rw [List.length_append, be_length]
        omega
      · split
        · unfold dictB
          have h1 := flat_length (f := rowB) (m := 66) (fun x hx => rowB_length hx) (uniq l) (uniq_right l ha)
          have h2 := uniq_len l
          have h3 := packB_le (plcs (uniq l) l l.length) (Lib.bitLen ((uniq l).length - 1)) (by rw [plcs_length]; exact h64) (bitLen_le64 _)
          rw [List.length_append, List.length_append]
          simp only [List.length_cons, List.length_nil]
          omega
        · split
          · unfold bitsB
            have h3 := packB_le (abvs l (leastTo l l.length) l.length) (wdt l (leastTo l l.length) l.length) (by rw [abvs_length]; exact h64) (wdt_le _ _ _)
            rw [List.length_append, List.length_append, be_length]
            simp only [List.length_cons, List.length_nil]
            omega
          · omega
  · simp
theorem encR_put {k : Int} {l : List Val} (h : refE k l = 0) (h0 : 0 < l.length) : encR k l = putB k l := by unfold encR; rw [if_pos ⟨h, h0⟩]
theorem encR_none {k : Int} {l : List Val} (h : l.length = 0) : encR k l = [] := by unfold encR; rw [if_neg (by omega)]
/-- Bytes that are no encoding of so many values are refused. -/
theorem decA_no (k : Int) (bs : List UInt8) (l : List Val) (hr : refE k l = 0) (h : ∀ m, refE k m = 0 → m.length = l.length → encR k m ≠ bs) : decA k bs l.length = ([], 60) := by
  obtain ⟨h1, h64, _⟩ := refE_ok hr
  unfold decA decE
  rw [if_neg (by simp [h1]), if_neg (by omega), if_neg (fun hc => h _ hc.2.2.1 hc.2.1 hc.2.2.2)]
theorem cut_no (k : Int) (l : List Val) (n : Nat) (hr : refE k l = 0) (h0 : 0 < l.length) (hn : n < (encR k l).length) : decA k ((encR k l).take n) l.length = ([], 60) := by
  refine decA_no k _ l hr (fun m hm hl he => ?_)
  rw [encR_put hm (by omega), encR_put hr h0] at he
  rw [encR_put hr h0] at hn
  have := pre_free k l m ((putB k l).drop n) hr hm hl.symm h0 (by rw [he, List.take_append_drop])
  have h2 := congrArg List.length this
  simp at h2
  omega
theorem more_no (k : Int) (l : List Val) (x : UInt8) (hr : refE k l = 0) (h0 : 0 < l.length) : decA k (encR k l ++ [x]) l.length = ([], 60) := by
  refine decA_no k _ l hr (fun m hm hl he => ?_)
  rw [encR_put hm (by omega), encR_put hr h0] at he
  have := pre_free k m l [x] hm hr hl (by omega) he
  cases this
end Go.Proofs.YtafcdckpicoppaaGreatDoor
end

section
namespace Go.Proofs.YtafcdckpicoppaaGreatDoor
open Go.RowKit Go.Hay
set_option linter.unusedVariables false
set_option linter.unusedSimpArgs false

/-- What was written is read as it was. -/
theorem decA_back (k : Int) (l : List Val) (hi : ∀ x ∈ l, x.in64) (hr : refE k l = 0) : decA k (encR k l) l.length = (l, 0) := by
  obtain ⟨h1, h64, _⟩ := refE_ok hr
  have hT : tkA k l.length (encR k l) = some l := by
    rcases Nat.eq_zero_or_pos l.length with h0 | h0
    · obtain rfl := List.eq_nil_of_length_eq_zero h0
      unfold tkA
      rw [if_pos (show ([] : List Val).length = 0 from rfl)]
    · exact back_all k l hi hr h0
  unfold decA decE
  rw [hT, if_neg (by simp [h1]), if_neg (by omega)]
  show (if true = true ∧ l.length = l.length ∧ refE k l = 0 ∧ encR k l = encR k l then (l, 0) else ([], 60)) = (l, 0)
  rw [if_pos ⟨rfl, rfl, hr, rfl⟩]
/-- What is read is written as the same bytes. -/
theorem decA_put (k : Int) (bs : List UInt8) (n : Nat) (h : (decA k bs n).2 = 0) : refE k (decA k bs n).1 = 0 ∧ encR k (decA k bs n).1 = bs := by
  unfold decA at h ⊢
  split at h
  · simp at h
  · split at h
    · simp at h
    · unfold decE at h ⊢
      split at h
      · rename_i h1 h2 h3
        rw [if_neg h1, if_neg h2, if_pos h3]
        exact ⟨h3.2.2.1, h3.2.2.2⟩
      · simp at h
theorem decA_nil (k : Int) (bs : List UInt8) (n : Nat) (h : (decA k bs n).2 ≠ 0) : (decA k bs n).1 = [] := by
  unfold decA at h ⊢
  split
  · rfl
  · split
    · rfl
    · unfold decE at h ⊢
      rename_i h1 h2
      rw [if_neg h1, if_neg h2] at h
      split
      · rename_i h3
        rw [if_pos h3] at h
        simp at h
      · rfl
theorem rowSee {w : World} {a : Option Addr} {c : Nat} {R : List UInt8} (h : Row w (.slice a R.length c) R) : Sees w a R ∧ R.length ≤ c ∧ c ≤ maxLen := by
  obtain ⟨_, _, e, h1, _⟩ := h.sees
  injection e with e1 e2 e3
  rcases h with ⟨e, h⟩ | ⟨g9, o9, cap, e, hl9, hm9, _⟩
  · injection e with e4 e5 e6
    subst h
    rw [e6]
    exact ⟨.inl rfl, by simp, by unfold maxLen; omega⟩
  · injection e with e4 e5 e6
    rw [e6, e1]
    exact ⟨h1, hl9, hm9⟩
theorem rowVals {w : World} {a : Option Addr} {c : Nat} {L : List Val} (h : VE.Row w (.slice a L.length c) L) : Vals w a L ∧ L.length ≤ c ∧ c ≤ maxLen := by
  obtain ⟨_, _, e, h1, _, h2, h3, _⟩ := h.see
  injection e with e1 e2 e3
  rw [e1, e3]
  exact ⟨seeV.1 h1, h2, h3⟩
theorem sameV_self (l : List Val) : sameV l l = true := by
  induction l with
  | nil => rfl
  | cons x l ih => simp [sameV, eqv_self, ih]
end Go.Proofs.YtafcdckpicoppaaGreatDoor
end

section
namespace Go.Proofs.YtafcdckpicoppaaGreatDoor
open Go.RowKit Go.Hay
set_option linter.unusedVariables false
set_option linter.unusedSimpArgs false

def tkF : Nat → List Val → List UInt8 → Option (List Val × List UInt8)
  | 0, acc, bs => some (acc, bs)
  | n + 1, acc, bs => if (rowF bs).2 = 0 then none else tkF n (acc ++ [(rowF bs).1]) (bs.drop (rowF bs).2)
def orNil : Option (List Val) → List Val
  | none => []
  | some l => l
def rpR (many : Nat) (acc : List Val) (bs : List UInt8) : List Val :=
  match bs with
  | [] => acc
  | c :: r => if many ≤ acc.length then acc else if (rowF r).2 = 0 then [] else rpR many (acc ++ List.replicate c.toNat (rowF r).1) (r.drop (rowF r).2)
termination_by bs.length
decreasing_by simp; omega
theorem rpR_nil (many : Nat) (acc : List Val) : rpR many acc [] = acc := by rw [rpR.eq_def]
theorem rpR_cons (many : Nat) (acc : List Val) (c : UInt8) (r : List UInt8) : rpR many acc (c :: r) = if many ≤ acc.length then acc else if (rowF r).2 = 0 then [] else rpR many (acc ++ List.replicate c.toNat (rowF r).1) (r.drop (rowF r).2) := by rw [rpR.eq_def]
def zz (z s : Nat) (x : UInt8) : Nat := (z + x.toNat % 128 * 2 ^ s % 18446744073709551616) % 18446744073709551616
def rpD (many : Nat) : Int → Nat → Nat → List Val → List UInt8 → List Val
  | n, z, s, acc, [] => acc
  | n, z, s, acc, x :: r => if many ≤ acc.length then acc else if 128 ≤ x.toNat then rpD many n (zz z s x) (s + 7) acc r else rpD many (IntKind.i64.wrap (n + zag (zz z s x))) 0 0 (acc ++ [intV (IntKind.i64.wrap (n + zag (zz z s x)))]) r
def rpDl (many : Nat) (bs : List UInt8) : List Val := if bs.length < 8 then [] else rpD many (wordV bs) 0 0 [intV (wordV bs)] (bs.drop 8)
def rpBt (many : Nat) (bs : List UInt8) : List Val :=
  if bs.length < 9 ∨ 64 < (bs.getD 8 0).toNat ∨ bs.length ≠ 9 + (many * (bs.getD 8 0).toNat + 7) / 8 then [] else (upk (bs.drop 9) many (bs.getD 8 0).toNat).map fun (n : Nat) => intV (IntKind.i64.wrap (wordV bs + (n : Int)))
def rpDc (many : Nat) (bs : List UInt8) : List Val :=
  if bs.length = 0 then [] else match tkF (bs.getD 0 0).toNat [] (bs.drop 1) with
    | none => []
    | some (u, r) => if u.length = 0 then [] else if r.length ≠ (many * Lib.bitLen (u.length - 1) + 7) / 8 then [] else
      if (upk r many (Lib.bitLen (u.length - 1))).all (fun p => decide (p < u.length)) = true then (upk r many (Lib.bitLen (u.length - 1))).map fun p => u.getD p nv else []
/-- What the reference reads. -/
def rpA (k : Int) (many : Nat) (bs : List UInt8) : List Val :=
  if many = 0 then [] else if k = 0 then orNil ((tkF many [] bs).map Prod.fst) else if k = 1 then rpR many [] bs else if k = 2 then rpDl many bs else if k = 3 then rpDc many bs else rpBt many bs

theorem nil_in64 : nilV.in64 := ⟨by decide, by decide⟩
theorem nv_in64 : nv.in64 := ⟨by decide, by decide⟩
theorem wrap_in64 (n : Int) : (intV (IntKind.i64.wrap n)).in64 := by have := wrap64_bd n; exact ⟨this.1, by show IntKind.i64.wrap n ≤ _; omega⟩
theorem word_in64 (bs : List UInt8) : (intV (wordV bs)).in64 := by
  show -9223372036854775808 ≤ wordV bs ∧ wordV bs ≤ 9223372036854775807
  unfold wordV wrap64; omega
theorem rowF_in64 (bs : List UInt8) : (rowF bs).1.in64 := by
  have h0 : ∀ (k : Int) (b : Bool) (t : ByteArray), Val.in64 ⟨k, b, 0, t⟩ := fun k b t => ⟨by show (-9223372036854775808 : Int) ≤ 0; omega, by show (0 : Int) ≤ 9223372036854775807; omega⟩
  have hf : ∀ (add : Int) (bs : List UInt8), (fixF add bs).1.in64 := fun add bs => by
    cases bs with
    | nil => exact nil_in64
    | cons f r =>
      simp only [fixF]
      split
      · exact nil_in64
      · split
        · cases r with
          | nil => exact nil_in64
          | cons y s =>
            simp only
            split
            · exact h0 _ _ _
            · exact nil_in64
        · split
          · split
            · show -9223372036854775808 ≤ wrap64 _ ∧ wrap64 _ ≤ 9223372036854775807
              unfold wrap64; omega
            · exact nil_in64
          · exact nil_in64
  cases bs with
  | nil => exact nil_in64
  | cons f r =>
    simp only [rowF]
    split
    · cases r with
      | nil => exact nil_in64
      | cons y s =>
        simp only
        split
        · exact h0 _ _ _
        · exact nil_in64
    · exact hf 0 _
theorem decL_in64 : ∀ (n : Nat) (bs : List UInt8) (l : List Val), decL n bs = some l → ∀ x ∈ l, x.in64
  | 0, bs, l, h => by
    simp only [decL] at h
    split at h
    · injection h with h; subst h; simp
    · cases h
  | n + 1, bs, l, h => by
    simp only [decL] at h
    split at h
    · cases h
    · cases hd : decL n (bs.drop (rowF bs).2) with
      | none => rw [hd] at h; simp at h
      | some q =>
        rw [hd] at h
        simp at h
        subst h
        intro x hx
        rcases List.mem_cons.1 hx with rfl | hx
        · exact rowF_in64 bs
        · exact decL_in64 n _ q hd x hx
theorem tkV_in64 (bs : List UInt8) : (tkV bs).1.in64 := by
  unfold tkV
  split
  · exact nil_in64
  · split
    · rename_i h
      simp only
      have hd : ∀ x ∈ (decS (1 :: bs.take (vsz bs))).1, x.in64 := by
        simp only [decS]
        rw [if_neg (by decide)]
        cases hq : decL (1 : UInt8).toNat (bs.take (vsz bs)) with
        | none => simp [decO]
        | some q => simp only [decO]; exact decL_in64 _ _ _ hq
      cases hl : (decS (1 :: bs.take (vsz bs))).1 with
      | nil => exact nv_in64
      | cons y r => rw [hl] at hd; exact hd y (by simp)
    · exact nil_in64
theorem tkP_in64 : ∀ (n : Nat) (acc : List Val) (bs : List UInt8) (q : List Val × List UInt8), (∀ x ∈ acc, x.in64) → tkP n acc bs = some q → ∀ x ∈ q.1, x.in64
  | 0, acc, bs, q, ha, h => by rw [tkP] at h; injection h with h; subst h; exact ha
  | n + 1, acc, bs, q, ha, h => by
    rw [tkP] at h
    split at h
    · cases h
    · refine tkP_in64 n _ _ q (fun x hx => ?_) h
      rcases List.mem_append.1 hx with h1 | h1
      · exact ha x h1
      · rw [List.mem_singleton.1 h1]; exact tkV_in64 bs
theorem tkF_in64 : ∀ (n : Nat) (acc : List Val) (bs : List UInt8) (q : List Val × List UInt8), (∀ x ∈ acc, x.in64) → tkF n acc bs = some q → ∀ x ∈ q.1, x.in64
  | 0, acc, bs, q, ha, h => by rw [tkF] at h; injection h with h; subst h; exact ha
  | n + 1, acc, bs, q, ha, h => by
    rw [tkF] at h
    split at h
    · cases h
    · refine tkF_in64 n _ _ q (fun x hx => ?_) h
      rcases List.mem_append.1 hx with h1 | h1
      · exact ha x h1
      · rw [List.mem_singleton.1 h1]; exact rowF_in64 bs
theorem tkR_in64 (many : Nat) : ∀ (f : Nat) (bs : List UInt8) (acc l : List Val), bs.length ≤ f → (∀ x ∈ acc, x.in64) → tkR many acc bs = some l → ∀ x ∈ l, x.in64 := by
  intro f
  induction f with
  | zero =>
    intro bs acc l hf ha h
    obtain rfl : bs = [] := List.eq_nil_of_length_eq_zero (by omega)
    by_cases hd : many ≤ acc.length
    · rw [tkR_done hd] at h; injection h with h; subst h; exact ha
    · rw [tkR_nil hd] at h; cases h
  | succ f ih =>
    intro bs acc l hf ha h
    by_cases hd : many ≤ acc.length
    · rw [tkR_done hd] at h; injection h with h; subst h; exact ha
    · cases bs with
      | nil => rw [tkR_nil hd] at h; cases h
      | cons c r =>
        rw [tkR_cons hd] at h
        split at h
        · cases h
        · refine ih _ _ l (by simp at hf ⊢; omega) (fun x hx => ?_) h
          rcases List.mem_append.1 hx with h1 | h1
          · exact ha x h1
          · rw [(List.mem_replicate.1 h1).2]; exact tkV_in64 r
theorem rpR_in64 (many : Nat) : ∀ (f : Nat) (bs : List UInt8) (acc : List Val), bs.length ≤ f → (∀ x ∈ acc, x.in64) → ∀ x ∈ rpR many acc bs, x.in64 := by
  intro f
  induction f with
  | zero =>
    intro bs acc hf ha
    obtain rfl : bs = [] := List.eq_nil_of_length_eq_zero (by omega)
    rw [rpR_nil]; exact ha
  | succ f ih =>
    intro bs acc hf ha
    cases bs with
    | nil => rw [rpR_nil]; exact ha
    | cons c r =>
      rw [rpR_cons]
      split
      · exact ha
      · split
        · simp
        · refine ih _ _ (by simp at hf ⊢; omega) (fun x hx => ?_)
          rcases List.mem_append.1 hx with h1 | h1
          · exact ha x h1
          · rw [(List.mem_replicate.1 h1).2]; exact rowF_in64 r
theorem tkD_in64 : ∀ (k : Nat) (n : Int) (acc : List Val) (bs : List UInt8) (l : List Val), (∀ x ∈ acc, x.in64) → tkD k n acc bs = some l → ∀ x ∈ l, x.in64
  | 0, n, acc, bs, l, ha, h => by rw [tkD] at h; injection h with h; subst h; exact ha
  | k + 1, n, acc, bs, l, ha, h => by
    rw [tkD] at h
    split at h
    · cases h
    · refine tkD_in64 k _ _ _ l (fun x hx => ?_) h
      rcases List.mem_append.1 hx with h1 | h1
      · exact ha x h1
      · rw [List.mem_singleton.1 h1]; exact wrap_in64 _
theorem rpD_in64 (many : Nat) : ∀ (bs : List UInt8) (n : Int) (z s : Nat) (acc : List Val), (∀ x ∈ acc, x.in64) → ∀ x ∈ rpD many n z s acc bs, x.in64
  | [], n, z, s, acc, ha => by rw [rpD]; exact ha
  | y :: r, n, z, s, acc, ha => by
    rw [rpD]
    split
    · exact ha
    · split
      · exact rpD_in64 many r _ _ _ _ ha
      · refine rpD_in64 many r _ _ _ _ (fun x hx => ?_)
        rcases List.mem_append.1 hx with h1 | h1
        · exact ha x h1
        · rw [List.mem_singleton.1 h1]; exact wrap_in64 _
theorem getD_in64 {u : List Val} (h : ∀ x ∈ u, x.in64) (p : Nat) : (u.getD p nv).in64 := by
  by_cases hp : p < u.length
  · have e : u.getD p nv = u[p] := by simp [hp]
    rw [e]; exact h _ (List.getElem_mem hp)
  · have e : u.getD p nv = nv := by simp [List.getElem?_eq_none (by omega : u.length ≤ p)]
    rw [e]; exact nv_in64
theorem tkA_in64 (k : Int) (many : Nat) (bs : List UInt8) (l : List Val) (h : tkA k many bs = some l) : ∀ x ∈ l, x.in64 := by
  unfold tkA at h
  split at h
  · injection h with h; subst h; simp
  · split at h
    · exact tkR_in64 many bs.length bs [] l (Nat.le_refl _) (by simp) h
    · split at h
      · unfold tkDl at h
        split at h
        · cases h
        · exact tkD_in64 _ _ _ _ l (fun x hx => by rw [List.mem_singleton.1 hx]; exact word_in64 bs) h
      · split at h
        · unfold tkDc at h
          split at h
          · cases h
          · split at h
            · cases h
            · rename_i u r hu
              split at h
              · cases h
              · split at h
                · injection h with h
                  subst h
                  intro x hx
                  obtain ⟨p, _, rfl⟩ := List.mem_map.1 hx
                  exact getD_in64 (tkP_in64 _ _ _ _ (by simp) hu) p
                · cases h
        · split at h
          · unfold tkBt at h
            split at h
            · cases h
            · cases hq : upkO (bs.drop 9) many (bs.getD 8 0).toNat with
              | none => rw [hq] at h; cases h
              | some ns =>
                rw [hq] at h
                injection h with h
                subst h
                intro x hx
                obtain ⟨p, _, rfl⟩ := List.mem_map.1 hx
                exact wrap_in64 _
          · cases hq : tkP many [] bs with
            | none => rw [hq] at h; cases h
            | some q =>
              rw [hq] at h
              injection h with h
              subst h
              exact tkP_in64 _ _ _ _ (by simp) hq
theorem rpA_in64 (k : Int) (many : Nat) (bs : List UInt8) : ∀ x ∈ rpA k many bs, x.in64 := by
  unfold rpA
  split
  · simp
  · split
    · cases hq : tkF many [] bs with
      | none => simp [orNil]
      | some q => exact tkF_in64 _ _ _ _ (by simp) hq
    · split
      · exact rpR_in64 many bs.length bs [] (Nat.le_refl _) (by simp)
      · split
        · unfold rpDl
          split
          · simp
          · exact rpD_in64 many _ _ _ _ _ (fun x hx => by rw [List.mem_singleton.1 hx]; exact word_in64 bs)
        · split
          · unfold rpDc
            split
            · simp
            · split
              · simp
              · rename_i u r hu
                split
                · simp
                · split
                  · simp
                  · split
                    · intro x hx
                      obtain ⟨p, _, rfl⟩ := List.mem_map.1 hx
                      exact getD_in64 (tkF_in64 _ _ _ _ (by simp) hu) p
                    · simp
          · unfold rpBt
            split
            · simp
            · intro x hx
              obtain ⟨p, _, rfl⟩ := List.mem_map.1 hx
              exact wrap_in64 _
end Go.Proofs.YtafcdckpicoppaaGreatDoor
end

section
namespace Go.Proofs.YtafcdckpicoppaaGreatDoor
open Go.RowKit Go.Hay
set_option linter.unusedVariables false
set_option linter.unusedSimpArgs false

theorem u8_of {f : UInt8} {n : Nat} (g : UInt8) (h : f.toNat = n) (hg : g.toNat = n) : f = g := UInt8.toNat_inj.1 (h.trans hg.symm)
/-- What is read is written so. -/
theorem fixF_back (add : Int) (bs : List UInt8) (h : (fixF add bs).2 ≠ 0) : (fixF add bs).1.right = true ∧ (fixF add bs).1.k ≠ 3 ∧ fixB (fixF add bs).1 add = bs.take (fixF add bs).2 := by
  cases bs with
  | nil => simp [fixF] at h
  | cons f r =>
    by_cases h0 : f.toNat = 0
    · obtain rfl := u8_of 0 h0 rfl
      simp [fixF, nilV, Val.right, emptyL, fixB]
    by_cases h1 : f.toNat = 1
    · obtain rfl := u8_of 1 h1 rfl
      cases r with
      | nil => simp [fixF] at h
      | cons y s =>
        by_cases hy : y.toNat ≤ 1
        · have hy2 : y = 0 ∨ y = 1 := by
            rcases (by omega : y.toNat = 0 ∨ y.toNat = 1) with e | e
            · exact .inl (u8_of 0 e rfl)
            · exact .inr (u8_of 1 e rfl)
          rcases hy2 with rfl | rfl <;> simp [fixF, Val.right, emptyL, fixB]
        · simp [fixF, hy] at h
    by_cases h2 : f.toNat = 2
    · obtain rfl := u8_of 2 h2 rfl
      by_cases h8 : 8 ≤ r.length
      · have hl : (r.take 8).length = 8 := by simp; omega
        have hn := num_lt64 (r.take 8) (by omega)
        have hb := be_num (r.take 8)
        rw [hl] at hb
        have hu := u64_s64 (num (r.take 8)) add hn
        have e : fixF add (2 :: r) = (⟨2, false, wrap64 (num (r.take 8) - add), ⟨#[]⟩⟩, 9) := by simp [fixF, h8]
        rw [e]
        refine ⟨by simp [Val.right, emptyL], by simp, ?_⟩
        simp only [fixB, if_neg (by omega : ¬ (2 : Int) = 0), if_neg (by omega : ¬ (2 : Int) = 1), hu, hb, List.take_succ_cons]
      · simp [fixF, h8] at h
    · simp [fixF, h0, h1, h2] at h
theorem rowF_back (bs : List UInt8) (h : (rowF bs).2 ≠ 0) : (rowF bs).1.right = true ∧ rowB (rowF bs).1 = bs.take (rowF bs).2 := by
  cases bs with
  | nil => simp [rowF] at h
  | cons f r =>
    by_cases h3 : f.toNat = 3
    · obtain rfl := u8_of 3 h3 rfl
      cases r with
      | nil => simp [rowF] at h
      | cons y s =>
        by_cases hc : y.toNat ≤ 64 ∧ y.toNat ≤ s.length
        · have e : rowF (3 :: y :: s) = (⟨3, false, 0, ⟨(s.take y.toNat).toArray⟩⟩, 2 + y.toNat) := by simp [rowF, hc]
          have hz : (⟨(s.take y.toNat).toArray⟩ : ByteArray).size = y.toNat := by show (s.take y.toNat).toArray.size = _; simp; omega
          rw [e]
          refine ⟨?_, ?_⟩
          · simp only [Val.right, if_neg (by omega : ¬ (3 : Int) = 0), if_neg (by omega : ¬ (3 : Int) = 1), if_neg (by omega : ¬ (3 : Int) = 2), if_true]
            rw [hz]
            simp
            omega
          · simp only [rowB, if_true]
            rw [hz, Go.Hay.octet_nat, show 2 + y.toNat = y.toNat + 1 + 1 by omega, List.take_succ_cons, List.take_succ_cons]
        · simp [rowF, hc] at h
    · have e : rowF (f :: r) = fixF 0 (f :: r) := by simp only [rowF, if_neg h3]
      rw [e] at h ⊢
      obtain ⟨a, b, c⟩ := fixF_back 0 (f :: r) h
      exact ⟨a, by unfold rowB; rw [if_neg b]; exact c⟩
end Go.Proofs.YtafcdckpicoppaaGreatDoor
end

section
namespace Go.Proofs.YtafcdckpicoppaaGreatDoor
open Go.RowKit Go.Hay
set_option linter.unusedVariables false

set_option maxHeartbeats 400000 in
theorem cNumber (a : Option Addr) (n c : Nat) (xs : List UInt8) (w : World) (hs : Sees w a xs) (hn : n = xs.length) (hb : xs.length ≤ 8) :
    Calls Tryz.prog 58 #[.slice a n c] w fun e w' => e = .returned (.int .u64 (num xs)) ∧ w' = w := by
  subst hn
  go_enter Tryz.func58, Tryz.ntmps58
  go_wp2_with fail
  go_loop [3, 5, 8] (fun s _ i => ∃ k : Nat, k ≤ xs.length ∧ i = .int .i64 k ∧ s = .int .u64 (num (xs.take k))) (fun _ _ i => xs.length - (intOf i).toNat)
  case atStart => exact ⟨0, Nat.zero_le _, rfl, rfl⟩
  case round =>
    obtain ⟨k, hk, rfl, rfl⟩ := hrel
    by_cases hlt : k < xs.length
    · rcases hs with rfl | ⟨g, o, rfl, hc⟩
      · simp at hlt
      have hck := hc k xs[k] (by simp)
      have H := hid (num_take_succ xs k hlt)
      have H2 := hid (num_take_lt xs k (by omega))
      have hx : xs[k].toNat < 256 := xs[k].toNat_lt
      clear hc
      go_wp2
      refine ⟨⟨k + 1, by omega, by go_num, ?_⟩, by simp [intOf]; omega⟩
      rw [or_byte _ _ H2.out hx, ← H.out]
    · go_wp2
      go_ret
      exact ⟨ret_int (by rw [List.take_of_length_le (by omega)]), rfl⟩
/-- A Reader lies in block p: what is left, bs, in blocks of D; what was amiss, e. -/
structure Rd (w : World) (p : Nat) (D : List Nat) (bs : List UInt8) (e : Int) : Prop where
  left : ∃ a c, w.cell? ⟨p, 0, none⟩ = some (.slice a bs.length c) ∧ bs.length ≤ c ∧ c ≤ maxLen ∧ Sees w a bs ∧ ∀ k ∈ blk a, k ∈ D
  err : w.cell? ⟨p, 1, none⟩ = some (.int .i64 e)
  free0 : w.frozen? ⟨p, 0, none⟩ = false
  free1 : w.frozen? ⟨p, 1, none⟩ = false
  apart : p ∉ D
  dlt : ∀ k ∈ D, k < w.heap.size
theorem Rd.lt {w : World} {p : Nat} {D : List Nat} {bs : List UInt8} {e : Int} (h : Rd w p D bs e) : p < w.heap.size := World.block_lt_of_cell? _ _ h.err
theorem Rd.kept {w w' : World} {S : List Nat} {p : Nat} {D : List Nat} {bs : List UInt8} {e : Int} (h : Rd w p D bs e) (hk : Kp S w w') (hp : p ∉ S) (hD : ∀ k ∈ D, k ∉ S) : Rd w' p D bs e := by
  obtain ⟨a, c, h1, h2, h3, h4, h5⟩ := h.left
  exact ⟨⟨a, c, (hk.cell (p := ⟨p, 0, none⟩) h.lt hp).trans h1, h2, h3, h4.kept hk (fun k hk' => hD k (h5 k hk')), h5⟩, (hk.cell (p := ⟨p, 1, none⟩) h.lt hp).trans h.err,
    (hk.frozen (p := ⟨p, 0, none⟩) h.lt hp).trans h.free0, (hk.frozen (p := ⟨p, 1, none⟩) h.lt hp).trans h.free1, h.apart, fun k hk' => Nat.lt_of_lt_of_le (h.dlt k hk') hk.size⟩
theorem Rd.len {w : World} {p : Nat} {D : List Nat} {bs : List UInt8} {e : Int} (h : Rd w p D bs e) : bs.length ≤ maxLen := by
  obtain ⟨a, c, _, h2, h3, _⟩ := h.left
  omega
/-- Behind a store into the reader's second cell. -/
theorem Rd.setErr {w : World} {p : Nat} {D : List Nat} {bs : List UInt8} {e : Int} (h : Rd w p D bs e) (e' : Int) : Rd (w.setCell ⟨p, 1, none⟩ (.int .i64 e')) p D bs e' ∧ Kp [p] w (w.setCell ⟨p, 1, none⟩ (.int .i64 e')) := by
  have k1 : Kp [p] w (w.setCell ⟨p, 1, none⟩ (.int .i64 e')) := (Kp.refl [p] w).setCell (by simp) _
  obtain ⟨a, c, h1, h2, h3, h4, h5⟩ := h.left
  refine ⟨⟨⟨a, c, ?_, h2, h3, h4.kept k1 (fun k hk hm => ?_), h5⟩, World.cell?_setCell_same _ _ _ h.err, ?_, ?_, h.apart, fun k hk => Nat.lt_of_lt_of_le (h.dlt k hk) k1.size⟩, k1⟩
  · rw [World.cell?_setCell_other _ _ _ _ (by simp)]; exact h1
  · rw [List.mem_singleton] at hm; subst hm; exact h.apart (h5 _ hk)
  · rw [World.frozen?_setCell]; exact h.free0
  · rw [World.frozen?_setCell]; exact h.free1
/-- Behind a store into its first one. -/
theorem Rd.setLeft {w : World} {p : Nat} {D : List Nat} {bs bs' : List UInt8} {e : Int} (h : Rd w p D bs e) (a : Option Addr) (c n : Nat) (hn : n = bs'.length) (h2 : bs'.length ≤ c) (h3 : c ≤ maxLen) (h4 : Sees w a bs') (h5 : ∀ k ∈ blk a, k ∈ D) :
    Rd (w.setCell ⟨p, 0, none⟩ (.slice a n c)) p D bs' e ∧ Kp [p] w (w.setCell ⟨p, 0, none⟩ (.slice a n c)) := by
  subst hn
  have k1 : Kp [p] w (w.setCell ⟨p, 0, none⟩ (.slice a bs'.length c)) := (Kp.refl [p] w).setCell (by simp) _
  obtain ⟨a0, c0, h1, _⟩ := h.left
  refine ⟨⟨⟨a, c, World.cell?_setCell_same _ _ _ h1, h2, h3, h4.kept k1 (fun k hk hm => ?_), h5⟩, ?_, ?_, ?_, h.apart, fun k hk => Nat.lt_of_lt_of_le (h.dlt k hk) k1.size⟩, k1⟩
  · rw [List.mem_singleton] at hm; subst hm; exact h.apart (h5 _ hk)
  · rw [World.cell?_setCell_other _ _ _ _ (by simp)]; exact h.err
  · rw [World.frozen?_setCell]; exact h.free0
  · rw [World.frozen?_setCell]; exact h.free1

set_option maxHeartbeats 400000 in
theorem rRead (a : Option Addr) (n c : Nat) (xs : List UInt8) (w : World) (hs : Sees w a xs) (hn : n = xs.length) (hb : xs.length ≤ 200000000000000) :
    Calls Tryz.prog 37 #[.slice a n c] w fun e w' => ∃ p D, e = .returned (.pointer (some ⟨p, 0, none⟩)) ∧ Rd w' p D xs 0 ∧ Kp [] w w' ∧ w.heap.size ≤ p ∧ ∀ k ∈ D, w.heap.size ≤ k := by
  subst hn
  go_enter Tryz.func37, Tryz.ntmps37
  go_wp2_with fail
  refine (cClone a _ c xs _ hs rfl hb).mono ?_
  rintro e w1 ⟨v', rfl, h1, h2, h3⟩
  have hsee := h1.sees
  have hcap : ∀ a c, v' = .slice a xs.length c → c ≤ maxLen ∧ xs.length ≤ c := by
    intro a c e
    rcases h1 with ⟨rfl, rfl⟩ | ⟨g, o, cap, rfl, hl, hm, _⟩
    · cases e; exact ⟨Nat.zero_le _, Nat.le_refl _⟩
    · cases e; exact ⟨hm, hl⟩
  have hlt := h1.lt
  obtain ⟨a', c', rfl, hs', hown⟩ := hsee
  have hc' := hcap a' c' rfl
  clear hcap h1
  go_wp2_with fail
  go_ret
  have k1 : Kp [] w1 (w1.alloc (.cells #[.slice a' xs.length c', .int .i64 0] 95)) := (Kp.refl _ _).alloc _
  have hsz := h2.size
  refine ⟨w1.heap.size, own (.slice a' xs.length c'), rfl, ⟨⟨a', c', by simp, hc'.2, hc'.1, hs'.kept k1 (by simp), fun k hk => by rw [hown]; exact hk⟩, by simp, by simp, by simp, fun hm => ?_, fun k hk => by have := hlt k hk; simp; omega⟩, h2.trans k1 (by simp), hsz, h3⟩
  have := hlt _ hm
  omega

set_option maxHeartbeats 400000 in
theorem rErr (p : Nat) (D : List Nat) (bs : List UInt8) (e0 : Int) (w : World) (h : Rd w p D bs e0) :
    Calls Tryz.prog 41 #[.pointer (some ⟨p, 0, none⟩)] w fun e w' => e = .returned (.int .i64 e0) ∧ w' = w := by
  have h1 := h.err
  go_enter Tryz.func41, Tryz.ntmps41
  go_wp2
  go_ret
  exact ⟨rfl, rfl⟩

set_option maxHeartbeats 400000 in
theorem rLeft (p : Nat) (D : List Nat) (bs : List UInt8) (e0 : Int) (w : World) (h : Rd w p D bs e0) :
    Calls Tryz.prog 40 #[.pointer (some ⟨p, 0, none⟩)] w fun e w' => e = .returned (.int .i64 bs.length) ∧ w' = w := by
  obtain ⟨a, c, h1, _⟩ := h.left
  go_enter Tryz.func40, Tryz.ntmps40
  go_wp2
  go_ret
  exact ⟨rfl, rfl⟩
/-- What End tells. -/
def endE (bs : List UInt8) (e : Int) : Int := if e = 0 ∧ 0 < bs.length then 13 else e

set_option maxHeartbeats 400000 in
theorem rFail (p : Nat) (D : List Nat) (bs : List UInt8) (e0 e1 : Int) (w : World) (h : Rd w p D bs e0) :
    Calls Tryz.prog 67 #[.pointer (some ⟨p, 0, none⟩), .int .i64 e1] w fun e w' => e = .returned (.tuple #[]) ∧ Rd w' p D bs (if e0 = 0 then e1 else e0) ∧ Kp [p] w w' := by
  have h2 := h.err
  have h3 := h.free1
  by_cases he : e0 = 0
  · subst he
    obtain ⟨r1, r2⟩ := h.setErr e1
    go_enter Tryz.func67, Tryz.ntmps67
    go_wp2
    go_end0
    exact ⟨rfl, r1, r2⟩
  · have he' : (e0 == 0) = false := by simpa using he
    rw [if_neg he]
    go_enter Tryz.func67, Tryz.ntmps67
    go_wp2
    go_end0
    exact ⟨rfl, h, Kp.refl _ _⟩
end Go.Proofs.YtafcdckpicoppaaGreatDoor
end

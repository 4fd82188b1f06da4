/- The one value that a text could be: the program's guess. -/
import Derived.Test.YtboibllahibicaaDoorVnum
import Derived.Test.YtboibllahibicaaDoorVuqw
namespace Go.Proofs.YtboibllahibicaaDoor
open Go.RowKit Go.Hay
set_option linter.unusedVariables false
set_option linter.unusedSimpArgs false

def Val.in64 (x : Val) : Prop := -9223372036854775808 ≤ x.n ∧ x.n ≤ 9223372036854775807
/-- What guess hands back. -/
def GuessPost (l : List UInt8) (e : Ending) : Prop := ∃ (x : Val) (ok : Bool), e = .returned (.tuple #[x.v, .bool ok]) ∧ x.in64 ∧ (l = [] → ok = false) ∧ ∀ y : Val, y.right = true → y.in64 → printB y = l → ok = true ∧ x = y

theorem setAll4 {w : World} {q : Nat} {a b c d : Value} (h : Box4 w q a b c d) (x y z u : Value) : Box4 ((((w.setCell ⟨q, 0, none⟩ x).setCell ⟨q, 1, none⟩ y).setCell ⟨q, 2, none⟩ z).setCell ⟨q, 3, none⟩ u) q x y z u ∧ Kp [q] w ((((w.setCell ⟨q, 0, none⟩ x).setCell ⟨q, 1, none⟩ y).setCell ⟨q, 2, none⟩ z).setCell ⟨q, 3, none⟩ u) := by
  have e1 : (w.setCell ⟨q, 0, none⟩ x).cell? ⟨q, 1, none⟩ = some b := by rw [World.cell?_setCell_other _ _ _ _ (by simp)]; exact h.c1
  have e2 : ((w.setCell ⟨q, 0, none⟩ x).setCell ⟨q, 1, none⟩ y).cell? ⟨q, 2, none⟩ = some c := by rw [World.cell?_setCell_other _ _ _ _ (by simp), World.cell?_setCell_other _ _ _ _ (by simp)]; exact h.c2
  have e3 : (((w.setCell ⟨q, 0, none⟩ x).setCell ⟨q, 1, none⟩ y).setCell ⟨q, 2, none⟩ z).cell? ⟨q, 3, none⟩ = some d := by rw [World.cell?_setCell_other _ _ _ _ (by simp), World.cell?_setCell_other _ _ _ _ (by simp), World.cell?_setCell_other _ _ _ _ (by simp)]; exact h.c3
  refine ⟨⟨?_, ?_, ?_, World.cell?_setCell_same _ _ _ e3, fun j => by rw [World.frozen?_setCell, World.frozen?_setCell, World.frozen?_setCell, World.frozen?_setCell]; exact h.free j⟩, ((((Kp.refl [q] w).setCell (by simp) _).setCell (by simp) _).setCell (by simp) _).setCell (by simp) _⟩
  · rw [World.cell?_setCell_other _ _ _ _ (by simp), World.cell?_setCell_other _ _ _ _ (by simp), World.cell?_setCell_other _ _ _ _ (by simp)]; exact World.cell?_setCell_same _ _ _ h.c0
  · rw [World.cell?_setCell_other _ _ _ _ (by simp), World.cell?_setCell_other _ _ _ _ (by simp)]; exact World.cell?_setCell_same _ _ _ e1
  · rw [World.cell?_setCell_other _ _ _ _ (by simp)]; exact World.cell?_setCell_same _ _ _ e2

theorem isNull {y : Val} (hy : y.right = true) (hp : printB y = [110, 117, 108, 108]) : y = ⟨0, false, 0, ⟨#[]⟩⟩ := by
  obtain ⟨c, r, h1, h2⟩ := print_head hy
  rw [hp] at h1
  cases h1
  rcases h2 with ⟨hk, _⟩ | ⟨_, h | h⟩ | ⟨_, h | h⟩ | ⟨_, h⟩
  · exact right_null hy hk
  all_goals exact absurd h (by decide)
theorem isTrue' {y : Val} (hy : y.right = true) (hp : printB y = [116, 114, 117, 101]) : y = ⟨1, true, 0, ⟨#[]⟩⟩ := by
  obtain ⟨c, r, h1, h2⟩ := print_head hy
  rw [hp] at h1
  cases h1
  rcases h2 with ⟨_, h⟩ | ⟨hk, _⟩ | ⟨_, h | h⟩ | ⟨_, h⟩
  · exact absurd h (by decide)
  · have hb := print_bool hy hk
    have he := right_bool hy hk
    rw [hp] at hb
    cases hyb : y.b
    · rw [hyb] at hb; exact absurd hb (by decide)
    · rw [hyb] at he; exact he
  all_goals exact absurd h (by decide)
theorem isFalse' {y : Val} (hy : y.right = true) (hp : printB y = [102, 97, 108, 115, 101]) : y = ⟨1, false, 0, ⟨#[]⟩⟩ := by
  obtain ⟨c, r, h1, h2⟩ := print_head hy
  rw [hp] at h1
  cases h1
  rcases h2 with ⟨_, h⟩ | ⟨hk, _⟩ | ⟨_, h | h⟩ | ⟨_, h⟩
  · exact absurd h (by decide)
  · have hb := print_bool hy hk
    have he := right_bool hy hk
    rw [hp] at hb
    cases hyb : y.b
    · rw [hyb] at he; exact he
    · rw [hyb] at hb; exact absurd hb (by decide)
  all_goals exact absurd h (by decide)
theorem isText {y : Val} {r u : List UInt8} {ok : Bool} (hy : y.right = true) (hp : printB y = 34 :: r) (hu : ∀ t : List UInt8, t.length ≤ 64 → r = bodyB t ++ [34] → u = t ∧ ok = true) : ok = true ∧ (⟨3, false, 0, ⟨u.toArray⟩⟩ : Val) = y := by
  obtain ⟨c, r', h1, h2⟩ := print_head hy
  rw [hp] at h1
  cases h1
  rcases h2 with ⟨_, h⟩ | ⟨_, h | h⟩ | ⟨_, h | h⟩ | ⟨hk, _⟩
  · exact absurd h (by decide)
  · exact absurd h (by decide)
  · exact absurd h (by decide)
  · exact absurd h (by decide)
  · exact absurd h (by decide)
  · obtain ⟨he, h64⟩ := right_txt hy hk
    have ht := print_text hy hk
    rw [hp] at ht
    unfold quoteB at ht
    have hb : r = bodyB y.t.data.toList ++ [34] := by injection ht
    obtain ⟨h3, h4⟩ := hu y.t.data.toList (by rw [← Lib.size_eq]; exact h64) hb
    refine ⟨h4, ?_⟩
    rw [he, h3, Lib.mk_data]
theorem isInt {y : Val} {l : List UInt8} (hy : y.right = true) (h64 : y.in64) (hp : printB y = l) (hn : l ≠ [110, 117, 108, 108]) (ht : l ≠ [116, 114, 117, 101]) (hf : l ≠ [102, 97, 108, 115, 101]) (hq : ∀ r, l ≠ 34 :: r) : ∃ n : Int, y = ⟨2, false, n, ⟨#[]⟩⟩ ∧ Lib.parseIntB 64 l = .ok n := by
  rcases right_kind hy with hk | hk | hk | hk
  · exact absurd (hp.symm.trans (print_null hy hk)) hn
  · have := print_bool hy hk
    cases hb : y.b
    · rw [hb] at this; exact absurd (hp.symm.trans this) hf
    · rw [hb] at this; exact absurd (hp.symm.trans this) ht
  · refine ⟨y.n, right_int hy hk, ?_⟩
    rw [← hp, print_int hy hk]
    exact parse_itoa y.n h64.1 h64.2
  · exact absurd (hp.symm.trans (print_text hy hk)) (hq _)

set_option maxHeartbeats 8000000 in
set_option maxRecDepth 100000 in
theorem cGuess (s : ByteArray) (w : World) (he : Errs w) (hm : s.size ≤ 140737488355328) :
    Calls Tryd.prog 39 #[.string s] w fun e w' => GuessPost s.data.toList e ∧ Kp [] w w' := by
  obtain ⟨l, hl⟩ : ∃ l, s.data.toList = l := ⟨_, rfl⟩
  have hl2 : s.toList = l := by rw [Lib.toList_data]; exact hl
  have hk0 : Kp [] w (w.alloc (.cells #[.int .i64 0, .bool false, .int .i64 0, .string ⟨#[]⟩] 25)) := (Kp.refl _ _).alloc _
  have bR := Box4.new w (.int .i64 0) (.bool false) (.int .i64 0) (.string ⟨#[]⟩) 25
  rw [hl]
  by_cases hn : l = [110, 117, 108, 108]
  · subst hn
    go_enter Tryd.func39, Tryd.ntmps39
    go_wp2_with fail
    refine (cNull _).mono ?_
    rintro e w1 ⟨rfl, k1⟩
    have bR1 := bR.kept k1 (by simp)
    have kk1 := hk0.trans k1 (by simp)
    have q0 := bR1.c0; have q1 := bR1.c1; have q2 := bR1.c2; have q3 := bR1.c3; have qf := bR1.free
    obtain ⟨bR2, ks⟩ := setAll4 bR1 (.int .i64 0) (.bool false) (.int .i64 0) (.string ⟨#[]⟩)
    have kk2 := kk1.trans ks (fun x hx => .inr (by simp at hx; omega))
    have z0 := bR2.c0; have z1 := bR2.c1; have z2 := bR2.c2; have z3 := bR2.c3
    clear bR bR2 ks
    go_wp2_with fail
    exact bodyPost_ret (v := .tuple #[.agg #[.int .i64 0, .bool false, .int .i64 0, .string ⟨#[]⟩], .bool true]) (by simp [results, Tryd.results39, go_sem, z0, z1, z2, z3]) rfl ⟨⟨⟨0, false, 0, ⟨#[]⟩⟩, true, rfl, ⟨by decide, by decide⟩, (fun h => by cases h), fun y hy _ hp => ⟨rfl, (isNull hy hp).symm⟩⟩, kk2⟩
  by_cases ht : l = [116, 114, 117, 101]
  · subst ht
    go_enter Tryd.func39, Tryd.ntmps39
    go_wp2_with fail
    refine (cBool _ _).mono ?_
    rintro e w1 ⟨rfl, k1⟩
    have bR1 := bR.kept k1 (by simp)
    have kk1 := hk0.trans k1 (by simp)
    have q0 := bR1.c0; have q1 := bR1.c1; have q2 := bR1.c2; have q3 := bR1.c3; have qf := bR1.free
    obtain ⟨bR2, ks⟩ := setAll4 bR1 (.int .i64 1) (.bool true) (.int .i64 0) (.string ⟨#[]⟩)
    have kk2 := kk1.trans ks (fun x hx => .inr (by simp at hx; omega))
    have z0 := bR2.c0; have z1 := bR2.c1; have z2 := bR2.c2; have z3 := bR2.c3
    clear bR bR2 ks
    go_wp2_with fail
    exact bodyPost_ret (v := .tuple #[.agg #[.int .i64 1, .bool true, .int .i64 0, .string ⟨#[]⟩], .bool true]) (by simp [results, Tryd.results39, go_sem, z0, z1, z2, z3]) rfl ⟨⟨⟨1, true, 0, ⟨#[]⟩⟩, true, rfl, ⟨by decide, by decide⟩, (fun h => by cases h), fun y hy _ hp => ⟨rfl, (isTrue' hy hp).symm⟩⟩, kk2⟩
  by_cases hf : l = [102, 97, 108, 115, 101]
  · subst hf
    go_enter Tryd.func39, Tryd.ntmps39
    go_wp2_with fail
    refine (cBool _ _).mono ?_
    rintro e w1 ⟨rfl, k1⟩
    have bR1 := bR.kept k1 (by simp)
    have kk1 := hk0.trans k1 (by simp)
    have q0 := bR1.c0; have q1 := bR1.c1; have q2 := bR1.c2; have q3 := bR1.c3; have qf := bR1.free
    obtain ⟨bR2, ks⟩ := setAll4 bR1 (.int .i64 1) (.bool false) (.int .i64 0) (.string ⟨#[]⟩)
    have kk2 := kk1.trans ks (fun x hx => .inr (by simp at hx; omega))
    have z0 := bR2.c0; have z1 := bR2.c1; have z2 := bR2.c2; have z3 := bR2.c3
    clear bR bR2 ks
    go_wp2_with fail
    exact bodyPost_ret (v := .tuple #[.agg #[.int .i64 1, .bool false, .int .i64 0, .string ⟨#[]⟩], .bool true]) (by simp [results, Tryd.results39, go_sem, z0, z1, z2, z3]) rfl ⟨⟨⟨1, false, 0, ⟨#[]⟩⟩, true, rfl, ⟨by decide, by decide⟩, (fun h => by cases h), fun y hy _ hp => ⟨rfl, (isFalse' hy hp).symm⟩⟩, kk2⟩
  have bn : (l == [110, 117, 108, 108]) = false := by simpa using hn
  have bt : (l == [116, 114, 117, 101]) = false := by simpa using ht
  have bf : (l == [102, 97, 108, 115, 101]) = false := by simpa using hf
  have hpre := fun w' => Tryd.strings_HasPrefix s ⟨#[34]⟩ w'
  rw [hl, show (⟨#[34]⟩ : ByteArray).data.toList = [34] from rfl] at hpre
  have hsz : l.length = s.size := by rw [← hl]; exact (Lib.size_eq s).symm
  by_cases hq : Lib.hasPrefix l [34] = true
  · rw [hq] at hpre
    obtain ⟨r, hr⟩ : ∃ r, l = 34 :: r := by
      unfold Lib.hasPrefix at hq
      obtain ⟨r, hr⟩ := List.isPrefixOf_iff_prefix.1 hq
      exact ⟨r, hr.symm⟩
    have h1s : 1 ≤ s.size := by rw [← hsz, hr]; simp
    have hxl : (s.extract 1 s.size).data.toList = r := by rw [extractL, hl, hr]; exact List.take_of_length_le (by rw [← hsz, hr]; simp)
    have hxs : (s.extract 1 s.size).size ≤ 9223372036854775807 := by rw [Lib.size_eq, hxl]; rw [hr] at hsz; simp at hsz; omega
    have hunq := fun w' (k : Errs w') => cUnquote (s.extract 1 s.size) w' k hxs
    rw [hxl] at hunq
    have HQ : Hid (l = 34 :: r) := hr
    clear hq hr hxl hxs hsz
    go_enter Tryd.func39, Tryd.ntmps39
    go_wp2_with fail
    refine (hpre _).mono ?_
    rintro e w1 ⟨rfl, rfl⟩
    go_wp2_with fail
    refine (hunq _ (he.kept hk0)).mono ?_
    rintro e w2 ⟨⟨u, ok, rfl, hu, huq⟩, k2⟩
    have HU := hid huq
    clear huq
    go_wp2_with fail
    refine (cText _ _).mono ?_
    rintro e w3 ⟨rfl, k3⟩
    have bR1 := (bR.kept k2 (by simp)).kept k3 (by simp)
    have kk1 := (hk0.trans k2 (by simp)).trans k3 (by simp)
    have q0 := bR1.c0; have q1 := bR1.c1; have q2 := bR1.c2; have q3 := bR1.c3; have qf := bR1.free
    obtain ⟨bR2, ks⟩ := setAll4 bR1 (.int .i64 3) (.bool false) (.int .i64 0) (.string ⟨u.toArray⟩)
    have kk2 := kk1.trans ks (fun x hx => .inr (by simp at hx; omega))
    have z0 := bR2.c0; have z1 := bR2.c1; have z2 := bR2.c2; have z3 := bR2.c3
    clear bR bR2 ks
    go_wp2_with fail
    exact bodyPost_ret (v := .tuple #[.agg #[.int .i64 3, .bool false, .int .i64 0, .string ⟨u.toArray⟩], .bool ok]) (by simp [results, Tryd.results39, go_sem, z0, z1, z2, z3]) rfl ⟨⟨⟨3, false, 0, ⟨u.toArray⟩⟩, ok, rfl, ⟨by show (-9223372036854775808 : Int) ≤ 0; omega, by show (0 : Int) ≤ 9223372036854775807; omega⟩, (fun h => by rw [HQ.out] at h; cases h), fun y hy _ hp => isText hy (hp.trans HQ.out) HU.out⟩, kk2⟩
  · have hq' : Lib.hasPrefix l [34] = false := by simpa using hq
    rw [hq'] at hpre
    have hnq : ∀ r, l ≠ 34 :: r := by
      intro r hr
      apply hq
      rw [hr]
      rfl
    have HI : Hid (∀ y : Val, y.right = true → y.in64 → printB y = l → ∃ n : Int, y = ⟨2, false, n, ⟨#[]⟩⟩ ∧ Lib.parseIntB 64 l = .ok n) := by
      show ∀ y : Val, _
      exact fun y hy hy2 hp => isInt hy hy2 hp hn ht hf hnq
    clear hq hq' hn ht hf hnq
    cases hpi : Lib.parseIntB 64 l with
    | ok v =>
      have hvb := Lib.parseIntB_bounds hpi
      have hv0 : -9223372036854775808 ≤ v := by have e : (2 : Nat) ^ (64 - 1) = 9223372036854775808 := by decide
                                                rw [e] at hvb; omega
      have hv1 : v ≤ 9223372036854775807 := by have e : (2 : Nat) ^ (64 - 1) = 9223372036854775808 := by decide
                                               rw [e] at hvb; omega
      have HP := hid hpi
      have hle : l = [] → False := fun h => by rw [h] at hpi; cases hpi
      have HL := hid hle
      have hint := fun w' => Tryd.strconv_ParseInt_10_at64_ok s (by omega) v (by rw [hl]; exact hpi) w'
      clear hpi hvb hle
      go_enter Tryd.func39, Tryd.ntmps39
      go_wp2_with fail
      refine (hpre _).mono ?_
      rintro e w1 ⟨rfl, rfl⟩
      go_wp2_with fail
      refine (hint _).mono ?_
      rintro e w2 ⟨rfl, hw2⟩
      have k2 : Kp [] (w.alloc (.cells #[.int .i64 0, .bool false, .int .i64 0, .string ⟨#[]⟩] 25)) w2 := by
        rcases hw2 with rfl | ⟨t, rfl⟩
        · exact Kp.refl _ _
        · exact kpBytes _ _
      clear hw2
      have bR2 := bR.kept k2 (by simp)
      have kk2 := hk0.trans k2 (by simp)
      go_wp2_with fail
      have y0 := bR2.c0; have y1 := bR2.c1; have y2 := bR2.c2; have y3 := bR2.c3; have yf := bR2.free
      go_region_held3 (fun w' => True) (first | trivial)
        (first | (go_at_call 11; refine (cInt _ _).mono ?_; rintro e w3 ⟨rfl, k3⟩; have x0 := (bR2.drew.kept k3 (by simp)).c0; have x1 := (bR2.drew.kept k3 (by simp)).c1; have x2 := (bR2.drew.kept k3 (by simp)).c2; have x3 := (bR2.drew.kept k3 (by simp)).c3; have xf := (bR2.drew.kept k3 (by simp)).free))
      have bR3 := bR2.drew.kept k3 (by simp)
      have kk3 := kk2.drew.trans k3 (by simp)
      obtain ⟨bR4, ks⟩ := setAll4 bR3 (.int .i64 2) (.bool false) (.int .i64 v) (.string ⟨#[]⟩)
      have kk4 := kk3.trans ks (fun x hx => .inr (by simp at hx; omega))
      have z0 := bR4.c0; have z1 := bR4.c1; have z2 := bR4.c2; have z3 := bR4.c3
      clear bR bR2 bR3 bR4 ks k3 x0 x1 x2 x3 xf y0 y1 y2 y3 yf
      go_wp2_with fail
      exact bodyPost_ret (v := .tuple #[.agg #[.int .i64 2, .bool false, .int .i64 v, .string ⟨#[]⟩], .bool true]) (by simp [results, Tryd.results39, go_sem, z0, z1, z2, z3]) rfl ⟨⟨⟨2, false, v, ⟨#[]⟩⟩, true, rfl, ⟨hv0, hv1⟩, (fun h => (HL.out h).elim), fun y hy hy2 hp => by obtain ⟨n, h1, h2⟩ := HI.out y hy hy2 hp; rw [HP.out] at h2; cases h2; exact ⟨rfl, h1.symm⟩⟩, kk4⟩
    | «syntax» =>
      have HP := hid hpi
      go_enter Tryd.func39, Tryd.ntmps39
      go_wp2_with fail
      refine (hpre _).mono ?_
      rintro e w1 ⟨rfl, rfl⟩
      obtain ⟨t1, p1, t2, p2, v1, v2⟩ := he.kept hk0
      have hint := Tryd.strconv_ParseInt_10_at64_syntax_var s (by omega) (by rw [hl]; exact hpi) _ _ _ v1
      clear hpi v1 v2
      go_wp2_with fail
      refine hint.mono ?_
      rintro e w2 ⟨N, rfl, _, _, hb2⟩
      have k2 := Kp.ofBelow hb2 []
      clear hb2
      have bR2 := bR.kept k2 (by simp)
      have kk2 := hk0.trans k2 (by simp)
      go_wp2_with fail
      have y0 := bR2.c0; have y1 := bR2.c1; have y2 := bR2.c2; have y3 := bR2.c3; have yf := bR2.free
      go_region_held3 (fun w' => True) (first | trivial)
        (first | (go_at_call 11; refine (cInt _ _).mono ?_; rintro e w3 ⟨rfl, k3⟩; have x0 := (bR2.drew.kept k3 (by simp)).c0; have x1 := (bR2.drew.kept k3 (by simp)).c1; have x2 := (bR2.drew.kept k3 (by simp)).c2; have x3 := (bR2.drew.kept k3 (by simp)).c3; have xf := (bR2.drew.kept k3 (by simp)).free))
      have bR3 := bR2.drew.kept k3 (by simp)
      have kk3 := kk2.drew.trans k3 (by simp)
      obtain ⟨bR4, ks⟩ := setAll4 bR3 (.int .i64 2) (.bool false) (.int .i64 0) (.string ⟨#[]⟩)
      have kk4 := kk3.trans ks (fun x hx => .inr (by simp at hx; omega))
      have z0 := bR4.c0; have z1 := bR4.c1; have z2 := bR4.c2; have z3 := bR4.c3
      clear bR bR2 bR3 bR4 ks k3 x0 x1 x2 x3 xf y0 y1 y2 y3 yf
      go_wp2_with fail
      exact bodyPost_ret (v := .tuple #[.agg #[.int .i64 2, .bool false, .int .i64 0, .string ⟨#[]⟩], .bool false]) (by simp [results, Tryd.results39, go_sem, z0, z1, z2, z3]) rfl ⟨⟨⟨2, false, 0, ⟨#[]⟩⟩, false, rfl, ⟨by show (-9223372036854775808 : Int) ≤ 0; omega, by show (0 : Int) ≤ 9223372036854775807; omega⟩, (fun _ => rfl), fun y hy hy2 hp => by obtain ⟨n, h1, h2⟩ := HI.out y hy hy2 hp; rw [HP.out] at h2; cases h2⟩, kk4⟩
    | range =>
      have HP := hid hpi
      obtain ⟨iv, Hiv⟩ : ∃ iv : Int, Lib.intSat 64 l = iv := ⟨_, rfl⟩
      have hiv : -9223372036854775808 ≤ iv ∧ iv ≤ 9223372036854775807 := by rw [← Hiv]; unfold Lib.intSat; split <;> (have e : (2 : Nat) ^ (64 - 1) = 9223372036854775808 := by decide) <;> rw [e] <;> omega
      go_enter Tryd.func39, Tryd.ntmps39
      go_wp2_with fail
      refine (hpre _).mono ?_
      rintro e w1 ⟨rfl, rfl⟩
      obtain ⟨t1, p1, t2, p2, v1, v2⟩ := he.kept hk0
      have hint := Tryd.strconv_ParseInt_10_at64_range_var s (by omega) (by rw [hl]; exact hpi) _ _ _ v2
      rw [hl, Hiv] at hint
      clear Hiv
      clear hpi v1 v2
      go_wp2_with fail
      refine hint.mono ?_
      rintro e w2 ⟨N, rfl, _, _, hb2⟩
      have k2 := Kp.ofBelow hb2 []
      clear hb2
      have bR2 := bR.kept k2 (by simp)
      have kk2 := hk0.trans k2 (by simp)
      go_wp2_with fail
      have y0 := bR2.c0; have y1 := bR2.c1; have y2 := bR2.c2; have y3 := bR2.c3; have yf := bR2.free
      go_region_held3 (fun w' => True) (first | trivial)
        (first | (go_at_call 11; refine (cInt _ _).mono ?_; rintro e w3 ⟨rfl, k3⟩; have x0 := (bR2.drew.kept k3 (by simp)).c0; have x1 := (bR2.drew.kept k3 (by simp)).c1; have x2 := (bR2.drew.kept k3 (by simp)).c2; have x3 := (bR2.drew.kept k3 (by simp)).c3; have xf := (bR2.drew.kept k3 (by simp)).free))
      have bR3 := bR2.drew.kept k3 (by simp)
      have kk3 := kk2.drew.trans k3 (by simp)
      obtain ⟨bR4, ks⟩ := setAll4 bR3 (.int .i64 2) (.bool false) (.int .i64 iv) (.string ⟨#[]⟩)
      have kk4 := kk3.trans ks (fun x hx => .inr (by simp at hx; omega))
      have z0 := bR4.c0; have z1 := bR4.c1; have z2 := bR4.c2; have z3 := bR4.c3
      clear bR bR2 bR3 bR4 ks k3 x0 x1 x2 x3 xf y0 y1 y2 y3 yf
      go_wp2_with fail
      exact bodyPost_ret (v := .tuple #[.agg #[.int .i64 2, .bool false, .int .i64 iv, .string ⟨#[]⟩], .bool false]) (by simp [results, Tryd.results39, go_sem, z0, z1, z2, z3]) rfl ⟨⟨⟨2, false, iv, ⟨#[]⟩⟩, false, rfl, ⟨by show (-9223372036854775808 : Int) ≤ iv; omega, by show (iv : Int) ≤ 9223372036854775807; omega⟩, (fun _ => rfl), fun y hy hy2 hp => by obtain ⟨n, h1, h2⟩ := HI.out y hy hy2 hp; rw [HP.out] at h2; cases h2⟩, kk4⟩
end Go.Proofs.YtboibllahibicaaDoor

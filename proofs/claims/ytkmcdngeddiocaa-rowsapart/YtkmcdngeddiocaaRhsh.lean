/- Hashes and segments: the program's, the reference's. -/
import Derived.Test.YtkmcdngeddiocaaRenc
namespace Go.Proofs.Ytkmcdngeddiocaa
open Go.RowKit Go.Hay
set_option linter.unusedVariables false
set_option linter.unusedSimpArgs false

/-- One byte more. -/
def hashStep (h : Int) (y : UInt8) : Int := IntKind.u64.wrap (bits BinOp.xor IntKind.u64 h (IntKind.u64.wrap y.toNat) * 1099511628211)
/-- The hash of bytes. -/
def hashB (l : List UInt8) : Int := l.foldl hashStep 14695981039346656037
theorem hashB_take (l : List UInt8) (j : Nat) (h : j < l.length) : hashB (l.take (j + 1)) = hashStep (hashB (l.take j)) l[j] := by
  unfold hashB
  rw [List.take_succ_eq_append_getElem h, List.foldl_append]
  rfl
/-- A value's hash. -/
def hashV (x : Val) : Int := if x.right = true then hashB (rowB x) else 0
theorem hashB_bd (l : List UInt8) : 0 ≤ hashB l ∧ hashB l < 18446744073709551616 := by
  suffices ∀ (l : List UInt8) (h : Int), (0 ≤ h ∧ h < 18446744073709551616) → 0 ≤ l.foldl hashStep h ∧ l.foldl hashStep h < 18446744073709551616 from this l _ (by omega)
  intro l
  induction l with
  | nil => intro h hh; exact hh
  | cons y l ih =>
    intro h hh
    refine ih _ ?_
    unfold hashStep
    rw [IntKind.wrap_u64]
    omega
theorem hashV_bd (x : Val) : 0 ≤ hashV x ∧ hashV x < 18446744073709551616 := by
  unfold hashV
  split
  · exact hashB_bd _
  · omega
/-- A value's segment. -/
def segV (x : Val) (m : Int) : Int := if m < 1 then 0 else hashV x % m

set_option maxHeartbeats 4000000 in
set_option maxRecDepth 100000 in
theorem cHash (x : Val) (w : World) : Calls Try.prog 21 #[x.v] w fun e w' => e = .returned (.int .u64 (hashV x)) ∧ Kp [] w w' := by
  have hR := cRight x
  obtain ⟨R, HR⟩ : ∃ R : Bool, Hid (x.right = R) := ⟨_, rfl⟩
  rw [HR.out] at hR
  have HS : Hid (hashV x = if R = true then hashB (rowB x) else 0) := by show _ = _; unfold hashV; rw [HR.out]
  have hput := fun (h : R = true) w' => cPutValue x (HR.out.trans h) none 0 [] w' (Row.nil _) (by simp)
  have hlen := fun (h : R = true) => rowB_length (HR.out.trans h)
  clear HR
  obtain ⟨rb, Hrb⟩ : ∃ rb : List UInt8, Hid (rowB x = rb) := ⟨_, rfl⟩
  rw [Hrb.out] at HS hput hlen
  clear Hrb
  generalize hashV x = H at *
  obtain ⟨k, b, n, t⟩ := x
  unfold Val.v at *
  dsimp only at hR hput
  have bA := Box4.new w (.int .i64 k) (.bool b) (.int .i64 n) (.string t) 34
  have kW : Kp [] w (w.alloc (.cells #[.int .i64 k, .bool b, .int .i64 n, .string t] 34)) := (Kp.refl _ _).alloc _
  cases R
  · have HS2 : Hid (H = 0) := HS
    clear HS hput hlen
    go_enter Try.func21, Try.ntmps21
    go_wp2_with fail
    refine (hR _).mono ?_
    rintro e w1 ⟨rfl, k1⟩
    go_wp2_with fail
    go_ret
    exact ⟨by rw [HS2.out]; rfl, kW.trans k1 (by simp)⟩
  · have HS2 : Hid (H = hashB rb) := HS
    have hput2 := hput rfl
    have hlen2 := hlen rfl
    clear HS hput hlen
    go_enter Try.func21, Try.ntmps21
    go_wp2_with fail
    refine (hR _).mono ?_
    rintro e w1 ⟨rfl, k1⟩
    have b1 := boxKeep bA k1
    have q0 := b1.c0; have q1 := b1.c1; have q2 := b1.c2; have q3 := b1.c3
    have kw1 := kW.trans k1 (by simp)
    clear kW k1 bA
    go_wp2_with fail
    refine (hput2 _).mono ?_
    rintro e w2 ⟨v2, rfl, hr2, hg2⟩
    have hk2 := (hg2.fresh kw1 (by simp [own, Value.ownBlock])).1
    rw [List.nil_append] at hr2
    obtain ⟨a2, c2, rfl, hs2, _⟩ := hr2.sees
    clear hput2 q0 q1 q2 q3 hg2 hr2 b1 kw1
    go_wp2_with fail
    go_loopw [3, 13] (fun s i wn => ∃ j : Nat, j ≤ rb.length ∧ i = .int .i64 j ∧ s = .int .u64 (hashB (rb.take j)) ∧ Hid (wn = w2)) (fun _ i _ => rb.length - (intOf i).toNat)
    case atStart => exact ⟨0, Nat.zero_le _, rfl, rfl, rfl⟩
    case round =>
      obtain ⟨j, hj, rfl, rfl, hwn⟩ := hrel
      obtain rfl := hwn.out
      by_cases hjm : j < rb.length
      · rcases hs2 with h | ⟨g, o, rfl, hc⟩
        · subst h; simp at hjm
        have hck := hc j rb[j] (by simp)
        have HT := hid (hashB_take rb j hjm)
        clear hc
        go_wp2_with fail
        refine ⟨⟨j + 1, by omega, by go_num, ?_, trivial⟩, by simp [intOf]; omega⟩
        rw [HT.out]
        unfold hashStep
        rfl
      · obtain rfl : j = rb.length := by omega
        rw [List.take_length]
        go_wp2_with fail
        go_ret
        exact ⟨by rw [HS2.out]; rfl, hk2⟩

set_option maxHeartbeats 4000000 in
set_option maxRecDepth 100000 in
theorem cSegment (x : Val) (m : Int) (w : World) (hm : m ≤ 9223372036854775807) : Calls Try.prog 20 #[x.v, .int .i64 m] w fun e w' => e = .returned (.int .i64 (segV x m)) ∧ Kp [] w w' := by
  have hH := cHash x
  have hbd := hashV_bd x
  have HS : Hid (segV x m = if m < 1 then 0 else hashV x % m) := rfl
  generalize segV x m = S at *
  generalize hashV x = H at *
  obtain ⟨k, b, n, t⟩ := x
  unfold Val.v at *
  dsimp only at hH
  have bA := Box4.new w (.int .i64 k) (.bool b) (.int .i64 n) (.string t) 34
  have kW : Kp [] w (w.alloc (.cells #[.int .i64 k, .bool b, .int .i64 n, .string t] 34)) := (Kp.refl _ _).alloc _
  have q0 := bA.c0; have q1 := bA.c1; have q2 := bA.c2; have q3 := bA.c3
  by_cases h1 : m < 1
  · have HS2 : Hid (S = 0) := by show _ = _; rw [HS.out, if_pos h1]
    clear HS
    go_enter Try.func20, Try.ntmps20
    go_wp2_with fail
    go_ret
    exact ⟨by rw [HS2.out]; rfl, kW⟩
  · have HS2 : Hid (S = H % m) := by show _ = _; rw [HS.out, if_neg h1]
    clear HS
    go_enter Try.func20, Try.ntmps20
    go_wp2_with fail
    refine (hH _).mono ?_
    rintro e w1 ⟨rfl, k1⟩
    have hw1 : IntKind.u64.wrap m = m := by rw [IntKind.wrap_u64]; omega
    have hq0 := Int.emod_nonneg H (by omega : m ≠ 0)
    have hq1 := Int.emod_lt_of_pos H (by omega : 0 < m)
    have hw3 : ∀ q : Int, 0 ≤ q → q < m → wrap64 q = q := by intro q h1 h2; unfold wrap64; omega
    have hw2 : wrap64 (H % m) = H % m := hw3 _ hq0 hq1
    clear hw3
    go_wp2_with fail
    go_ret
    exact ⟨by rw [HS2.out]; rfl, kW.trans k1 (by simp)⟩

set_option maxHeartbeats 4000000 in
set_option maxRecDepth 100000 in
theorem cRefHash (x : Val) (w : World) : Calls Try.prog 22 #[x.v] w fun e w' => e = .returned (.int .u64 (hashV x)) ∧ Kp [] w w' := by
  have hR := cRefRight x
  obtain ⟨R, HR⟩ : ∃ R : Bool, Hid (x.right = R) := ⟨_, rfl⟩
  rw [HR.out] at hR
  have HS : Hid (hashV x = if R = true then hashB (rowB x) else 0) := by show _ = _; unfold hashV; rw [HR.out]
  have hput := fun (h : R = true) w' => cOne x (HR.out.trans h) w'
  have hlen := fun (h : R = true) => rowB_length (HR.out.trans h)
  clear HR
  obtain ⟨rb, Hrb⟩ : ∃ rb : List UInt8, Hid (rowB x = rb) := ⟨_, rfl⟩
  rw [Hrb.out] at HS hput hlen
  clear Hrb
  generalize hashV x = H at *
  obtain ⟨k, b, n, t⟩ := x
  unfold Val.v at *
  dsimp only at hR hput
  have bA := Box4.new w (.int .i64 k) (.bool b) (.int .i64 n) (.string t) 34
  have kW : Kp [] w (w.alloc (.cells #[.int .i64 k, .bool b, .int .i64 n, .string t] 34)) := (Kp.refl _ _).alloc _
  cases R
  · have HS2 : Hid (H = 0) := HS
    clear HS hput hlen
    go_enter Try.func22, Try.ntmps22
    go_wp2_with fail
    refine (hR _).mono ?_
    rintro e w1 ⟨rfl, k1⟩
    go_wp2_with fail
    go_ret
    exact ⟨by rw [HS2.out]; rfl, kW.trans k1 (by simp)⟩
  · have HS2 : Hid (H = hashB rb) := HS
    have hput2 := hput rfl
    have hlen2 := hlen rfl
    clear HS hput hlen
    go_enter Try.func22, Try.ntmps22
    go_wp2_with fail
    refine (hR _).mono ?_
    rintro e w1 ⟨rfl, k1⟩
    have b1 := boxKeep bA k1
    have q0 := b1.c0; have q1 := b1.c1; have q2 := b1.c2; have q3 := b1.c3
    have kw1 := kW.trans k1 (by simp)
    clear kW k1 bA
    go_wp2_with fail
    refine (hput2 _).mono ?_
    rintro e w2 ⟨v2, rfl, hr2, hg2⟩
    have hk2 := kw1.trans hg2.kp (by simp)
    obtain ⟨a2, c2, rfl, hs2, _⟩ := hr2.sees
    clear hput2 q0 q1 q2 q3 hg2 hr2 b1 kw1
    go_wp2_with fail
    go_loopw [4, 6] (fun s i wn => ∃ j : Nat, j ≤ rb.length ∧ i = .int .i64 j ∧ s = .int .u64 (hashB (rb.take j)) ∧ Hid (wn = w2)) (fun _ i _ => rb.length - (intOf i).toNat)
    case atStart => exact ⟨0, Nat.zero_le _, rfl, rfl, rfl⟩
    case round =>
      obtain ⟨j, hj, rfl, rfl, hwn⟩ := hrel
      obtain rfl := hwn.out
      by_cases hjm : j < rb.length
      · rcases hs2 with h | ⟨g, o, rfl, hc⟩
        · subst h; simp at hjm
        have hck := hc j rb[j] (by simp)
        have HT := hid (hashB_take rb j hjm)
        clear hc
        go_wp2_with fail
        refine ⟨⟨j + 1, by omega, by go_num, ?_, trivial⟩, by simp [intOf]; omega⟩
        rw [HT.out]
        unfold hashStep
        rfl
      · obtain rfl : j = rb.length := by omega
        rw [List.take_length]
        go_wp2_with fail
        go_ret
        exact ⟨by rw [HS2.out]; rfl, hk2⟩

set_option maxHeartbeats 4000000 in
set_option maxRecDepth 100000 in
theorem cRefSegment (x : Val) (m : Int) (w : World) (hm : m ≤ 9223372036854775807) : Calls Try.prog 23 #[x.v, .int .i64 m] w fun e w' => e = .returned (.int .i64 (segV x m)) ∧ Kp [] w w' := by
  have hH := cRefHash x
  have hbd := hashV_bd x
  have HS : Hid (segV x m = if m < 1 then 0 else hashV x % m) := rfl
  generalize segV x m = S at *
  generalize hashV x = H at *
  obtain ⟨k, b, n, t⟩ := x
  unfold Val.v at *
  dsimp only at hH
  have bA := Box4.new w (.int .i64 k) (.bool b) (.int .i64 n) (.string t) 34
  have kW : Kp [] w (w.alloc (.cells #[.int .i64 k, .bool b, .int .i64 n, .string t] 34)) := (Kp.refl _ _).alloc _
  have q0 := bA.c0; have q1 := bA.c1; have q2 := bA.c2; have q3 := bA.c3
  by_cases h1 : m < 1
  · have HS2 : Hid (S = 0) := by show _ = _; rw [HS.out, if_pos h1]
    clear HS
    go_enter Try.func23, Try.ntmps23
    go_wp2_with fail
    go_ret
    exact ⟨by rw [HS2.out]; rfl, kW⟩
  · have HS2 : Hid (S = H % m) := by show _ = _; rw [HS.out, if_neg h1]
    clear HS
    go_enter Try.func23, Try.ntmps23
    go_wp2_with fail
    refine (hH _).mono ?_
    rintro e w1 ⟨rfl, k1⟩
    have hw1 : IntKind.u64.wrap m = m := by rw [IntKind.wrap_u64]; omega
    have hq0 := Int.emod_nonneg H (by omega : m ≠ 0)
    have hq1 := Int.emod_lt_of_pos H (by omega : 0 < m)
    have hw3 : ∀ q : Int, 0 ≤ q → q < m → wrap64 q = q := by intro q h1 h2; unfold wrap64; omega
    have hw2 : wrap64 (H % m) = H % m := hw3 _ hq0 hq1
    clear hw3
    go_wp2_with fail
    go_ret
    exact ⟨by rw [HS2.out]; rfl, kW.trans k1 (by simp)⟩
end Go.Proofs.Ytkmcdngeddiocaa

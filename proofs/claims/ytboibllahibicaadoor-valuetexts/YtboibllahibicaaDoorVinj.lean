/- Which text is whose: no two right values have one text. -/
import Derived.Test.YtboibllahibicaaDoorVpar
import Derived.Lib.ItoaLen
namespace Go.Proofs.YtboibllahibicaaDoor
open Go.Hay
set_option linter.unusedVariables false

theorem body_inj : ∀ a b : List UInt8, bodyB a = bodyB b → a = b
  | [], b, h => (bodyB_nil b h.symm).symm
  | c :: a, [], h => by rw [bodyB_nil (c :: a) h]
  | c :: a, d :: b, h => by
    rw [bodyB_cons, bodyB_cons] at h
    have h1 := front_esc c (bodyB a)
    rw [h, front_esc d (bodyB b)] at h1
    have hcd : d = c := congrArg Prod.fst h1
    subst hcd
    rw [body_inj a b (List.append_cancel_left h)]
theorem print_inj {x y : Val} (hx : x.right = true) (hy : y.right = true) (hx6 : x.in64) (hy6 : y.in64) (h : printB x = printB y) : x = y := by
  obtain ⟨c, r, h1, h2⟩ := print_head hx
  obtain ⟨d, q, h3, h4⟩ := print_head hy
  rw [h1, h3] at h
  have hcd : c = d := by injection h
  subst hcd
  have hk : x.k = y.k := by
    rcases h2 with ⟨a, rfl⟩ | ⟨a, rfl | rfl⟩ | ⟨a, h2⟩ | ⟨a, rfl⟩
    all_goals (rcases h4 with ⟨b, h4⟩ | ⟨b, h4 | h4⟩ | ⟨b, h4 | h4⟩ | ⟨b, h4⟩)
    all_goals first | omega | (exact absurd h4 (by decide)) | (rw [h4] at h2; rcases h2 with h2 | h2 <;> exact absurd h2 (by decide))
  have hp : printB x = printB y := by rw [h1, h3]; exact h
  rcases right_kind hx with k | k | k | k
  · rw [right_null hx k, right_null hy (by omega)]
  · have p1 := print_bool hx k
    have p2 := print_bool hy (by omega)
    rw [p1, p2] at hp
    have hb : x.b = y.b := by cases e1 : x.b <;> cases e2 : y.b <;> rw [e1, e2] at hp <;> first | rfl | exact absurd hp (by decide)
    rw [right_bool hx k, right_bool hy (by omega), hb]
  · have p1 := print_int hx k
    have p2 := print_int hy (by omega)
    rw [p1, p2] at hp
    have q1 := parse_itoa x.n hx6.1 hx6.2
    rw [hp, parse_itoa y.n hy6.1 hy6.2] at q1
    have hn : y.n = x.n := by injection q1
    rw [right_int hx k, right_int hy (by omega), hn]
  · have p1 := print_text hx k
    have p2 := print_text hy (by omega)
    rw [p1, p2] at hp
    unfold quoteB at hp
    have hb : bodyB x.t.data.toList ++ [34] = bodyB y.t.data.toList ++ [34] := by injection hp
    have ht := body_inj _ _ (List.append_cancel_right hb)
    have ht2 : x.t = y.t := by rw [← Lib.mk_data x.t, ht, Lib.mk_data]
    rw [(right_txt hx k).1, (right_txt hy (by omega)).1, ht2]
theorem print_none {x : Val} (h : x.right = false) : printB x = [] := by unfold printB; rw [h]; rfl
theorem print_len (x : Val) (h : x.in64) : (printB x).length ≤ 300 := by
  cases hr : x.right with
  | false => rw [print_none hr]; simp
  | true =>
    rcases right_kind hr with k | k | k | k
    · rw [print_null hr k]; simp
    · rw [print_bool hr k]; split <;> simp
    · rw [print_int hr k]; have := Lib.itoa_length_le x.n h.1 h.2; omega
    · rw [print_text hr k]
      have h1 := (right_txt hr k).2
      have h2 := bodyB_length x.t.data.toList
      rw [← Lib.size_eq] at h2
      simp only [quoteB, List.length_cons, List.length_append, List.length_nil]
      omega
/-- What Parse makes of what Print has made. -/
theorem parse_back (v : Val) (hv : v.in64) (e : Ending) (h : ParsePost (printB v) e) : (v.right = true ∧ e = .returned (.tuple #[v.v, .int .i64 0])) ∨ (v.right = false ∧ e = .returned (.tuple #[.agg #[.int .i64 0, .bool false, .int .i64 0, .string ⟨#[]⟩], .int .i64 21])) := by
  rcases h with ⟨x, hx, hx6, hp, he⟩ | ⟨hno, he⟩
  · cases hr : v.right with
    | true =>
      have := print_inj hx hr hx6 hv hp
      subst this
      exact .inl ⟨rfl, he⟩
    | false =>
      rw [print_none hr] at hp
      obtain ⟨c, r, h1, _⟩ := print_head hx
      rw [hp] at h1
      cases h1
  · cases hr : v.right with
    | true => exact absurd rfl (hno v hr hv)
    | false => exact .inr ⟨rfl, he⟩
end Go.Proofs.YtboibllahibicaaDoor

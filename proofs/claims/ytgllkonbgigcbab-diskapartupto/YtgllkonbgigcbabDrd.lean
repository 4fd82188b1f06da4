/- Read; Sync, Truncate, Flip, Append, Remove, Rename, Wipe: the disk's calls on files. -/
import Derived.Test.YtgllkonbgigcbabDapp
import Derived.Test.YtgllkonbgigcbabDop1
import Derived.Test.YtgllkonbgigcbabDnam
namespace Go.Proofs.Ytgllkonbgigcbab
open Go.RowKit Go.Hay Go.Maps
set_option linter.unusedVariables false
set_option linter.unusedSimpArgs false

theorem Row.parts {w : World} {v : Value} {bs : List UInt8} (h : Row w v bs) : ∃ a c, v = .slice a bs.length c ∧ Sees w a bs ∧ (a = none → bs = [] ∧ c = 0) ∧ bs.length ≤ c := by
  rcases h with ⟨rfl, rfl⟩ | ⟨g, o, cap, rfl, hl, hm, hg, hc, ht⟩
  · exact ⟨none, 0, rfl, .inl rfl, fun _ => ⟨rfl, rfl⟩, Nat.le_refl _⟩
  · exact ⟨_, _, rfl, .inr ⟨g, o, rfl, hc⟩, fun h => (by cases h), hl⟩
/-- No file is greater than memory. -/
def Small (d : Dk) : Prop := ∀ f ∈ d.files, f.bytes.length ≤ 140737488355328

theorem Disk.look {w : World} {p mb : Nat} {xs : List Ent} {d : Dk} (h : Disk w p mb xs d) (k : List UInt8) : lookG Fl.name k d.files = (lookG Ent.name k xs).map Ent.fl := by
  rw [h.fl]
  exact lookG_map Ent.fl (fun _ => rfl) k xs

def ReadP (o : Option (List UInt8)) (w : World) (e : Ending) (w' : World) : Prop :=
  match o with
  | none => e = .returned (.tuple #[.slice none 0 0, .bool false]) ∧ w' = w
  | some bs => ∃ a c, e = .returned (.tuple #[.slice a bs.length c, .bool true]) ∧ Row w' (.slice a bs.length c) bs ∧ Kp [] w w' ∧ ∀ k ∈ blk a, w.heap.size ≤ k
theorem cRead {w : World} {p mb : Nat} {xs : List Ent} {d : Dk} (hD : Disk w p mb xs d) (hB : Small d) (k : List UInt8) (hk : k.length ≤ maxLen) :
    Calls Try.prog 8 #[.pointer (some ⟨p, 0, none⟩), .string ⟨k.toArray⟩] w (ReadP ((lookG Fl.name k d.files).map Fl.bytes) w) := by
  have c1 := hD.hd.c1
  have hl := lookF2 hD.map k hk
  rw [hD.look k]
  go_enter Try.func8, Try.ntmps8
  cases hx : lookG Ent.name k xs with
  | none =>
    rw [hx] at hl
    simp only [ptrOf, Option.isSome] at hl
    go_wp2_with fail
    go_returns
    exact ⟨rfl, rfl⟩
  | some x =>
    rw [hx] at hl
    simp only [ptrOf, Option.isSome] at hl
    have hf := hD.files x (lookG_some hx).1
    have hb := hB x.fl (by rw [hD.fl]; exact List.mem_map_of_mem (lookG_some hx).1)
    obtain ⟨nm, bk, v, bs, ls⟩ := x
    simp only [Ent.fl] at hb
    obtain ⟨a, c, ev, hs, hn, _⟩ := Row.parts hf.row
    have c0 := hf.box.c0
    simp only at c0 ev hs hn
    subst ev
    have hc := cCloneB a c bs w hs hn hb
    clear hn hs
    go_wp2_with fail
    refine hc.mono ?_
    rintro e w' ⟨a', c', rfl, hr, hk', hnew⟩
    go_wp2_with fail
    go_returns
    exact ⟨a', c', rfl, hr, hk', hnew⟩
end Go.Proofs.Ytgllkonbgigcbab

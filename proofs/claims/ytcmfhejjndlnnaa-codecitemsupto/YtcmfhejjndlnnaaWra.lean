/- The writer's calls, each by a contract: what stands in the bytes behind it, and what memory it may have turned. -/
import Derived.Test.YtcmfhejjndlnnaaRows
import Derived.Test.YtcmfhejjndlnnaaMem
import Derived.Test.YtcmfhejjndlnnaaMath
namespace Go.Proofs.Ytcmfhejjndlnnaa
open Go.RowKit Go.Hay

theorem Try.infoB : (Try.prog.info? 5).map (fun i => (i.zero, i.size, i.bytes)) = some (some (.int .u8 0), 1, 1) := by kernel_rfl

set_option maxHeartbeats 400000 in
theorem wNew (w : World) : Calls Try.prog 15 #[] w fun e w' => ∃ p, e = .returned (.pointer (some ⟨p, 0, none⟩)) ∧ p = w.heap.size ∧ Wr w' p (.slice none 0 0) [] ∧ Kp [] w w' := by
  go_enter Try.func15, Try.ntmps15
  go_wp2
  go_ret
  refine ⟨_, rfl, rfl, ?_, ?_⟩
  · exact ⟨by simp, by simp, Row.nil _, by simp [own, Value.ownBlock]⟩
  · exact (Kp.refl _ _).alloc _

set_option maxHeartbeats 400000 in
theorem wByte (p : Nat) (v : Value) (bs : List UInt8) (n : Int) (w : World) (h : Wr w p v bs) (hb : bs.length + 1 ≤ 200000000000000) (h0 : 0 ≤ n) (h1 : n ≤ 255) :
    Calls Try.prog 29 #[.pointer (some ⟨p, 0, none⟩), .int .u8 n] w fun e w' => e = .returned (.tuple #[]) ∧ ∃ v', Wr w' p v' (bs ++ [octet n]) ∧ Wrote p v w v' w' := by
  obtain ⟨i0, hi, hz0, hz1, hz2⟩ := info_parts Try.infoB
  have hcell := h.cell
  have hfree := h.free
  have hlt := h.lt
  obtain ⟨a, c, rfl, _⟩ := h.row.shape
  have k0 : Kp [] w (w.alloc (.cells #[.int .u8 n] 5)) := (Kp.refl _ _).alloc _
  have hsrc : Src Try.prog 1 22 (.slice (some ⟨w.heap.size, 0, none⟩) 1 1) [octet n].length (bcells [octet n]) (w.alloc (.cells #[.int .u8 n] 5)) :=
    Src.ofSlice _ Try.underlying22 ⟨w.heap.size, 0, none⟩ 1 1 _ rfl (by intro j u hj; match j, hj with | 0, hj => simp [bcells] at hj; subst hj; rw [octet_toNat n h0 h1]; simp [Addr.add]) (bcells_one _)
  go_enter Try.func29, Try.ntmps29
  go_wp2_with (at_builtin; refine wpList_append_src _ rfl (.tmp 8) (.tmp 10) 22 22 rfl i0 Try.underlying22 hi hz0 hz1 hz2 _ bs rfl (h.row.kept k0 (by simp)) _ [octet n] rfl hsrc hb ?_)
  intro v' w1 hr hk hn
  obtain ⟨c1, f1, hw, hwr⟩ := h.stored k0 hr hk (by simpa using hn)
  obtain ⟨a', c', hv, _⟩ := hr.shape
  rw [List.length_append, List.length_singleton] at hv
  subst hv
  go_wp2
  go_end0
  exact ⟨rfl, _, hw, hwr⟩
end Go.Proofs.Ytcmfhejjndlnnaa

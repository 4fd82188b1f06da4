/- A disk's files changed: one in its place, one more, one less, one renamed. -/
import Derived.Test.YtgllkonbgigcbabDrd
namespace Go.Proofs.Ytgllkonbgigcbab
open Go.RowKit Go.Hay Go.Maps
set_option linter.unusedVariables false
set_option linter.unusedSimpArgs false

theorem dat_same {xs : List Ent} (hr : riseG Ent.name xs) {x x' : Ent} (hx : x ∈ xs) (hn : x'.name = x.name) (hb : x'.blk = x.blk) : (putG Ent.name x' false xs).map Ent.dat = xs.map Ent.dat := by
  rw [putG_set x' xs hr ⟨x, hx, hn.symm⟩, List.map_map]
  refine List.map_congr_left fun g hg => ?_
  simp only [Function.comp_apply]
  split
  · rename_i e
    rw [beq_iff_eq] at e
    obtain rfl := rise_inj hr hg hx (e.trans hn)
    simp [Ent.dat, hn, hb]
  · rfl
theorem put_fl (x : Ent) (xs : List Ent) : (putG Ent.name x false xs).map Ent.fl = putG Fl.name x.fl false (xs.map Ent.fl) := putG_map (nm := Ent.name) (nm' := Fl.name) Ent.fl (fun _ => rfl) x false xs
theorem drop_fl (k : List UInt8) (xs : List Ent) : (dropG Ent.name k xs).map Ent.fl = dropG Fl.name k (xs.map Ent.fl) := dropG_map (nm := Ent.name) (nm' := Fl.name) Ent.fl (fun _ => rfl) k xs

section
variable {w w' : World} {p mb : Nat} {xs : List Ent} {d : Dk}
/-- One file changed in its place. -/
theorem Disk.inPlace (h : Disk w p mb xs d) {x : Ent} (x' : Ent) (hx : x ∈ xs) (hn : x'.name = x.name) (hb : x'.blk = x.blk) (hk : Kp x.foot w w') (hf : FileAt w' x') (hnew : ∀ k ∈ x'.foot, k ∈ x.foot ∨ w.heap.size ≤ k)
    (ok : Okd { d with files := putG Fl.name x'.fl false d.files }) : Disk w' p mb (putG Ent.name x' false xs) { d with files := putG Fl.name x'.fl false d.files } ∧ Mv (foot p mb xs) w (foot p mb (putG Ent.name x' false xs)) w' := by
  have hxf := (h.files x hx).lt
  have hother : ∀ y ∈ xs, y.name ≠ x'.name → ∀ k ∈ y.foot, k ∉ x'.foot := fun y hy hne k hky hk' => by
    rcases hnew k hk' with h1 | h1
    · exact h.xy y hy x hx (fun e => hne (e.trans hn.symm)) k hky h1
    · have := (h.files y hy).lt k hky; omega
  refine ⟨⟨h.hd.kept hk (h.px x hx).1, OwnsM.norm (n := xs.length) ?_, fun y hy => ?_, riseG_put x' h.rise, h.pm, fun y hy => ?_, fun y hy z hz hne k hky => ?_, ?_, ok⟩, ⟨?_, fun k hk' => ?_⟩⟩
  · rw [dat_same h.rise hx hn hb]; exact h.map.kept hk (h.px x hx).2
  · rcases (mem_putG h.rise).1 hy with rfl | ⟨hy, hne⟩
    · exact hf
    · exact (h.files y hy).kept hk (fun k hky hkx => h.xy y hy x hx (fun e => hne (e.trans hn.symm)) k hky hkx)
  · rcases (mem_putG h.rise).1 hy with rfl | ⟨hy, hne⟩
    · constructor
      · intro hp; rcases hnew _ hp with h1 | h1
        · exact (h.px x hx).1 h1
        · have := h.hd.lt; omega
      · intro hp; rcases hnew _ hp with h1 | h1
        · exact (h.px x hx).2 h1
        · have := h.map.lt; omega
    · exact h.px y hy
  · rcases (mem_putG h.rise).1 hy with ey | ⟨hy', hyn⟩ <;> rcases (mem_putG h.rise).1 hz with ez | ⟨hz', hzn⟩
    · exact absurd (by rw [ey, ez]) hne
    · exact fun hkz => hother z hz' hzn k hkz (by rw [← ey]; exact hky)
    · rw [ez]; exact hother y hy' hyn k hky
    · exact h.xy y hy' z hz' hne k hky
  · show putG Fl.name x'.fl false d.files = _; rw [put_fl, h.fl]
  · exact hk.mono (fun k hk' => .inl (mem_foot.2 (.inr (.inr ⟨x, hx, hk'⟩))))
  · rcases mem_foot.1 hk' with rfl | rfl | ⟨y, hy, hky⟩
    · exact .inl (mem_foot.2 (.inl rfl))
    · exact .inl (mem_foot.2 (.inr (.inl rfl)))
    · rcases (mem_putG h.rise).1 hy with rfl | ⟨hy, _⟩
      · exact (hnew k hky).imp (fun h1 => mem_foot.2 (.inr (.inr ⟨x, hx, h1⟩))) id
      · exact .inl (mem_foot.2 (.inr (.inr ⟨y, hy, hky⟩)))
/-- The map turned: its entries are old ones under other names, or new. -/
theorem Disk.reMap (h : Disk w p mb xs d) {ys : List Ent} {d' : Dk} {w1 : World} (k0 : Kp [] w w1) (hk : Kp [mb] w1 w') (hm : OwnsM w' mb ys) (hr : riseG Ent.name ys)
    (hf : ∀ y ∈ ys, FileAt w1 y) (hold : ∀ y ∈ ys, (∃ x ∈ xs, y.foot = x.foot) ∨ ∀ k ∈ y.foot, w.heap.size ≤ k) (hxy : ∀ x ∈ ys, ∀ y ∈ ys, x.name ≠ y.name → ∀ k ∈ x.foot, k ∉ y.foot)
    (e0 : d'.room = d.room) (e1 : d'.steps = d.steps) (e2 : d'.arm = d.arm) (e3 : d'.dead = d.dead) (e4 : d'.files = ys.map Ent.fl) (ok : Okd d') : Disk w' p mb ys d' ∧ Mv (foot p mb xs) w (foot p mb ys) w' := by
  have hpx : ∀ y ∈ ys, p ∉ y.foot ∧ mb ∉ y.foot := fun y hy => by
    rcases hold y hy with ⟨x, hx, e⟩ | hn
    · rw [e]; exact h.px x hx
    · exact ⟨fun hp => by have := hn _ hp; have := h.hd.lt; omega, fun hp => by have := hn _ hp; have := h.map.lt; omega⟩
  have hl : leftOf d' = leftOf d := by simp [leftOf, e2]
  have hkk : Kp [mb] w w' := (k0.mono (T := [mb]) (by simp)).trans hk (fun _ hx => .inl hx)
  refine ⟨⟨?_, hm, fun y hy => (hf y hy).kept hk (fun k hky e => (hpx y hy).2 (by rw [List.mem_singleton] at e; rw [← e]; exact hky)), hr, h.pm, hpx, hxy, e4, ok⟩, ⟨?_, fun k hk' => ?_⟩⟩
  · rw [e0, e1, e3, hl]; exact h.hd.kept hkk (by simpa using h.pm)
  · exact hkk.mono (fun k hk' => .inl (by rw [List.mem_singleton] at hk'; subst hk'; exact mem_foot.2 (.inr (.inl rfl))))
  · rcases mem_foot.1 hk' with rfl | rfl | ⟨y, hy, hky⟩
    · exact .inl (mem_foot.2 (.inl rfl))
    · exact .inl (mem_foot.2 (.inr (.inl rfl)))
    · rcases hold y hy with ⟨x, hx, e⟩ | hn
      · exact .inl (mem_foot.2 (.inr (.inr ⟨x, hx, by rw [← e]; exact hky⟩)))
      · exact .inr (hn k hky)
theorem Disk.removed (h : Disk w p mb xs d) (k : List UInt8) (hk : Kp [mb] w w') (hm : OwnsM w' mb (dropG Ent.name k xs)) : Disk w' p mb (dropG Ent.name k xs) { d with files := dropG Fl.name k d.files } ∧ Mv (foot p mb xs) w (foot p mb (dropG Ent.name k xs)) w' :=
  h.reMap (Kp.refl _ _) hk hm (riseG_drop k h.rise) (fun y hy => h.files y (mem_dropG.1 hy).1) (fun y hy => .inl ⟨y, (mem_dropG.1 hy).1, rfl⟩) (fun y hy z hz => h.xy y (mem_dropG.1 hy).1 z (mem_dropG.1 hz).1) rfl rfl rfl rfl (by rw [drop_fl, ← h.fl]) (okDrop h.ok k)
theorem Disk.renamed (h : Disk w p mb xs d) {x : Ent} {name : List UInt8} (hx : lookG Ent.name name xs = some x) (to : List UInt8) (ht : nameOk to = true) (hk : Kp [mb] w w') (hm : OwnsM w' mb (putG Ent.name { x with name := to } false (dropG Ent.name name xs))) :
    Disk w' p mb (putG Ent.name { x with name := to } false (dropG Ent.name name xs)) { d with files := putG Fl.name { x.fl with name := to } false (dropG Fl.name name d.files) } ∧ Mv (foot p mb xs) w (foot p mb (putG Ent.name { x with name := to } false (dropG Ent.name name xs))) w' := by
  obtain ⟨hxm, hxn⟩ := lookG_some hx
  have hl : lookG Fl.name name d.files = some x.fl := by rw [h.look, hx]; rfl
  have hm1 : ∀ y ∈ putG Ent.name { x with name := to } false (dropG Ent.name name xs), y = { x with name := to } ∨ (y ∈ xs ∧ y.name ≠ name ∧ y.name ≠ to) := fun y hy => by
    rcases (mem_putG (riseG_drop name h.rise)).1 hy with h1 | ⟨h1, h2⟩
    · exact .inl h1
    · exact .inr ⟨(mem_dropG.1 h1).1, (mem_dropG.1 h1).2, h2⟩
  have hfx := h.files x hxm
  refine h.reMap (Kp.refl _ _) hk hm (riseG_put _ (riseG_drop name h.rise)) (fun y hy => ?_) (fun y hy => .inl ?_) (fun y hy z hz hne k hky => ?_) rfl rfl rfl rfl (by rw [put_fl, drop_fl, ← h.fl]; rfl) (okRename h.ok hl ht)
  · rcases hm1 y hy with rfl | ⟨hy, _⟩
    · exact ⟨hfx.box, hfx.row, hfx.ap⟩
    · exact h.files y hy
  · rcases hm1 y hy with rfl | ⟨hy, _⟩
    · exact ⟨x, hxm, rfl⟩
    · exact ⟨y, hy, rfl⟩
  · rcases hm1 y hy with rfl | ⟨hy, hy1, _⟩ <;> rcases hm1 z hz with rfl | ⟨hz, hz1, _⟩
    · exact absurd rfl hne
    · exact h.xy x hxm z hz (by rw [hxn]; exact Ne.symm hz1) k hky
    · exact h.xy y hy x hxm (by rw [hxn]; exact hy1) k hky
    · exact h.xy y hy z hz hne k hky
theorem Disk.added (h : Disk w p mb xs d) (e : Ent) {w1 : World} (k0 : Kp [] w w1) (hfe : FileAt w1 e) (hnew : ∀ k ∈ e.foot, w.heap.size ≤ k) (hk : Kp [mb] w1 w') (hm : OwnsM w' mb (putG Ent.name e false xs)) (ok : Okd { d with files := putG Fl.name e.fl false d.files }) :
    Disk w' p mb (putG Ent.name e false xs) { d with files := putG Fl.name e.fl false d.files } ∧ Mv (foot p mb xs) w (foot p mb (putG Ent.name e false xs)) w' := by
  refine h.reMap k0 hk hm (riseG_put _ h.rise) (fun y hy => ?_) (fun y hy => ?_) (fun y hy z hz hne k hky hkz => ?_) rfl rfl rfl rfl (by rw [put_fl, ← h.fl]) ok
  · rcases (mem_putG h.rise).1 hy with rfl | ⟨hy, _⟩
    · exact hfe
    · exact (h.files y hy).kept k0 (by simp)
  · rcases (mem_putG h.rise).1 hy with rfl | ⟨hy, _⟩
    · exact .inr hnew
    · exact .inl ⟨y, hy, rfl⟩
  · rcases (mem_putG h.rise).1 hy with ey | ⟨hy', _⟩ <;> rcases (mem_putG h.rise).1 hz with ez | ⟨hz', _⟩
    · exact hne (by rw [ey, ez])
    · have := (h.files z hz').lt k hkz; have := hnew k (by rw [← ey]; exact hky); omega
    · have := (h.files y hy').lt k hky; have := hnew k (by rw [← ez]; exact hkz); omega
    · exact h.xy y hy' z hz' hne k hky hkz
end
/-- What a call that changes a disk has made of it. -/
def ChgP (p mb : Nat) (xs : List Ent) (r : Dk × Int) (w : World) (e : Ending) (w' : World) : Prop := e = .returned (.int .i64 r.2) ∧ ∃ xs', Disk w' p mb xs' r.1 ∧ Mv (foot p mb xs) w (foot p mb xs') w'
theorem ChgP.same {w : World} {p mb : Nat} {xs : List Ent} {d : Dk} (h : Disk w p mb xs d) {r : Dk × Int} {n : Int} (e1 : r = (d, n)) : ChgP p mb xs r w (.returned (.int .i64 n)) w := by
  subst e1; exact ⟨rfl, xs, h, Mv.refl _ _⟩
end Go.Proofs.Ytgllkonbgigcbab

/-
  The datas that the model's laws draw with (l9DrawDatas): some, in new memory, of a bounded weight; nothing that was there is turned.
-/
import Derived.Test.YtpdmdcoaaboikaaGreatDoorParseAny
namespace Go.Proofs.YtpdmdcoaaboikaaGreatDoor.tok
open Go Go.RowKit Go.Deep Go.Proofs.YtpdmdcoaaboikaaGreatDoor.rose Go.Proofs.YtpdmdcoaaboikaaGreatDoor
set_option linter.unusedVariables false

set_option maxRecDepth 100000 in
set_option maxHeartbeats 1000000 in
theorem datas_any (w : World) : Calls Tryz.prog 14 #[] w fun e w' => (∃ (v : Value) (ks : List data.DataD), e = .returned v ∧ dataPs.rep w' (fun b => w.heap.size ≤ b ∧ b < w'.heap.size) [v] ks ∧ ks.length + data.wts ks ≤ 40000) ∧ Below w.heap.size w w' := by
  go_enter Tryz.func14, Tryz.ntmps14
  go_wp2_with fail
  refine (parse_any _ w (by decide)).mono ?_
  rintro e w1 ⟨⟨cs, p, n, rfl, hr, hw⟩, hb⟩
  obtain ⟨x0, x1⟩ := p
  obtain ⟨c1, c2, rfl, h0, h1⟩ := hr
  obtain ⟨a0, c0, rfl⟩ := slice_cells (Sh.bare h0)
  obtain ⟨u0, u1, u2, u3, u4, rfl⟩ := node.nd_list h1
  have o0 := node.ndSh.one h1 u0 (by simp)
  have o1 := node.ndSh.one h1 u1 (by simp)
  have o2 := node.ndSh.one h1 u2 (by simp)
  have o3 := node.ndSh.one h1 u3 (by simp)
  have o4 := node.ndSh.one h1 u4 (by simp)
  have so0 := fun (a : Addr) (m : Mode) (w : World) => run_store Tryz.prog w a u0 m o0
  have so1 := fun (a : Addr) (m : Mode) (w : World) => run_store Tryz.prog w a u1 m o1
  have so2 := fun (a : Addr) (m : Mode) (w : World) => run_store Tryz.prog w a u2 m o2
  have so3 := fun (a : Addr) (m : Mode) (w : World) => run_store Tryz.prog w a u3 m o3
  have so4 := fun (a : Addr) (m : Mode) (w : World) => run_store Tryz.prog w a u4 m o4
  have HH : Hid (dataPs.rep w1 (fun b => w.heap.size ≤ b ∧ b < w1.heap.size) [.slice a0 x0.length c0] x0 ∧ x0.length + data.wts x0 ≤ 40000 ∧ Below w.heap.size w w1) := ⟨h0, by simp only [prog.wt] at hw; omega, hb⟩
  clear hw hb h0 h1
  go_wp2
  go_ret
  have hA : Below w1.heap.size w1 (w1.alloc (.cells #[.slice a0 x0.length c0, u0, u1, u2, u3, u4] 62)) := (Below.refl _ _).alloc (Nat.le_refl _) _
  exact ⟨⟨_, x0, rfl, dataPs.mono (dataPs.on HH.out.1 fun b hS => hA.block b hS.2) fun b hS => ⟨hS.1, Nat.lt_of_lt_of_le hS.2 hA.size⟩, HH.out.2.1⟩, HH.out.2.2.trans (hA.mono HH.out.2.2.size)⟩

end Go.Proofs.YtpdmdcoaaboikaaGreatDoor.tok

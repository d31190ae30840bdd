/-
  The model's l3Var: some number; nothing but the cursor is turned.
-/
import Derived.Test.YtpdmdcoaaboikaaGreatDoorParseGen
namespace Go.Proofs.YtpdmdcoaaboikaaGreatDoor.tok
open Go Go.RowKit Go.Deep Go.Proofs.YtpdmdcoaaboikaaGreatDoor.rose Go.Proofs.YtpdmdcoaaboikaaGreatDoor
set_option linter.unusedVariables false
set_option linter.unusedSimpArgs false

/-- That a var is none is told. -/
theorem St.told {E : Env} {w : World} {at_ : Nat} {bad : Int} (h : St E w at_ bad) (b : Bool) : St E (w.setCell ⟨E.cb, 4, none⟩ (.bool b)) at_ bad := by
  obtain ⟨va, vc, names, nn, h1, h2, h3⟩ := h.blk
  have hoth : ∀ k, k ≠ E.cb → (w.setCell ⟨E.cb, 4, none⟩ (.bool b)).heap[k]? = w.heap[k]? := fun k hk => Below.heap_setCell _ _ _ _ hk
  have hz : (w.setCell ⟨E.cb, 4, none⟩ (.bool b)).heap.size = w.heap.size := by simp [World.setCell]
  exact ⟨⟨va, vc, names, b, by simp [World.setCell, Array.getElem?_modify, h1], Sh.str.slice.on h2 fun b hS => hoth b (h.ns b hS).2, h3⟩, fun b hS => ⟨by rw [hz]; exact (h.ns b hS).1, (h.ns b hS).2⟩, tokSh.slice.on h.rep fun b hS => hoth b hS.2, h.lt, h.len, h.fine, h.last, h.bad0, by rw [hz]; exact h.top⟩

set_option maxRecDepth 100000 in
set_option maxHeartbeats 4000000 in
theorem var_any (E : Env) (w : World) (at_ : Nat) (bad : Int) (h : St E w at_ bad) (s : ByteArray) :
    Calls Tryz.prog 95 #[.pointer (some ⟨E.cb, 0, none⟩), .string s] w fun e w' => (∃ n : Nat, e = .returned (.int .i64 n) ∧ n ≤ 3001) ∧ St E w' at_ bad ∧ w.grownBy w' (some E.cb) := by
  have HS : Hid (St E w at_ bad) := h
  obtain ⟨va, vc, names, nn, hblk, hnm, hnl, -⟩ := h.blk
  obtain ⟨a, c, css, e, h1, h2, h5, hrow, hk⟩ := hnm
  simp only [List.cons.injEq, Value.slice.injEq, and_true, true_and] at e
  obtain ⟨rfl, rfl⟩ := e
  have HR : Hid (∀ i (h : i < names.length), ∃ b o, va = some ⟨b, o, none⟩ ∧ w.cell? ⟨b, o + i, none⟩ = some (.string names[i])) := fun i hi => by
    obtain ⟨b, o, e, -, hc⟩ := hrow i hi
    obtain ⟨hcs, -⟩ := hk i hi
    rw [hcs] at hc
    have := hc 0 _ rfl
    exact ⟨b, o, e, by simpa [Sh.str] using this⟩
  have c3 : w.cell? ⟨E.cb, 3, none⟩ = some (.slice va names.length vc) := blk_cellG (i := 3) hblk rfl
  have c4 : w.cell? ⟨E.cb, 4, none⟩ = some (.bool nn) := blk_cellG (i := 4) hblk rfl
  have fz : ∀ o, w.frozen? ⟨E.cb, o, none⟩ = false := fun o => blk_freeG hblk
  have hnl2 : (names.length : Int) ≤ 3001 := by omega
  clear hblk hrow hk h1 h2 h5 h
  go_enter Tryz.func95, Tryz.ntmps95
  go_wp2
  go_loopw [5] (fun v5 wr => ∃ i : Nat, i ≤ names.length ∧ v5 = .int .i64 i ∧ Hid (wr = w)) (fun v5 _ => names.length - (intOf v5).toNat)
  case atStart => exact ⟨0, Nat.zero_le _, rfl, rfl⟩
  case round =>
    obtain ⟨i, hi, rfl, HE⟩ := hrel
    have hwr := HE.out
    subst hwr
    by_cases hlt : i < names.length
    · obtain ⟨b, o, rfl, hc⟩ := HR.out i hlt
      have hii : (i : Int) < (names.length : Int) := by omega
      by_cases heq : (names[i].toList == s.toList) = true
      · go_wp2
        go_ret
        exact ⟨⟨i, rfl, by omega⟩, HS.out, grown_self _ _⟩
      · have heq' : (names[i].toList == s.toList) = false := by simpa using heq
        clear heq
        go_wp2
        go_round
        case rel => exact ⟨i + 1, by omega, by go_num, trivial⟩
        case measure => simp [intOf]; omega
    · obtain rfl : i = names.length := by omega
      go_wp2
      go_ret
      exact ⟨⟨0, rfl, by omega⟩, HS.out.told true, grown_setG _ _ _ _⟩

end Go.Proofs.YtpdmdcoaaboikaaGreatDoor.tok

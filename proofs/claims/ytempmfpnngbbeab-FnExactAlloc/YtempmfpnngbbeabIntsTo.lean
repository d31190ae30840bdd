/-
  The law's copies of slices of ints: the same in new memory, all of it apart; nothing that was there is turned.
-/
import Derived.Test.YtempmfpnngbbeabIntsMk
import Derived.Laws.MakeOwn
import Derived.Deep.OwnRows
namespace Go.Proofs.Ytempmfpnngbbeab.ints
open Go.RowKit Go.Proofs.Ytempmfpnngbbeab.rose Go.Proofs.Ytempmfpnngbbeab
set_option linter.unusedVariables false

theorem infoT_int : (Try.prog.info? 3).map (fun i => (i.zero, i.size, i.bytes)) = some (some (.int .i64 0), 1, 8) := by kernel_rfl

theorem make_int (n : Nat) (h : n ≤ 1048576) (w : World) : (Instr.makeSlice 22 (.int .i64 (n : Int)) (.int .i64 (n : Int))).run Try.prog w = .ok (.slice (some ⟨w.heap.size, 0, none⟩) n n)
    (w.alloc (.cells (madeCells #[.int .i64 0] (n * 1)) 3)) := by
  obtain ⟨i, hi, hzz⟩ := Option.map_eq_some_iff.1 infoT_int
  simp only [Prod.mk.injEq] at hzz
  obtain ⟨hz, hs, hb⟩ := hzz
  have := run_make (P := Try.prog) w 22 3 i _ Try.underlying22 hi hz .i64 .i64 n n (by omega) (by omega) (by rw [hb]; omega) (by omega)
  simpa [hs, Value.cells] using this

set_option maxHeartbeats 1000000 in
theorem toPS_any (ks : List Int) (v : Value) (w : World) (hw : ks.length ≤ 1048576) (h : Sh.int.slice.rep w (· < w.heap.size) [v] ks) :
    Calls Try.prog 19 #[v] w fun e w' => (∃ v', e = .returned v' ∧ Sh.int.sslice.rep w' (fun b => w.heap.size ≤ b ∧ b < w'.heap.size) [v'] ks) ∧ Below w.heap.size w w' := by
  obtain ⟨a, cap, rfl, hcap, hmax, hat⟩ := ints_open h
  have HA : Hid _ := hat
  have hn : ks.length ≤ 1048576 := hw
  clear h hcap hmax hat
  have hmk := make_int ks.length hn
  go_enter Try.func19, Try.ntmps19
  go_wp2
  clear hmk
  generalize hw1 : w.alloc _ = w1
  have F1 : SFilling Sh.int 3 w1 w.heap.size ks.length 0 ks := by
    subst hw1
    have := SFilling.start (A := Sh.int) (t := 3) (w := w) (z := #[.int .i64 0]) (n := ks.length) (xs := ks)
    rwa [show ks.length * Sh.int.k = ks.length from Nat.mul_one _] at this
  have B1 : Below w.heap.size w w1 := by subst hw1; exact (Below.refl _ _).alloc (Nat.le_refl _) _
  have Z1 : w.heap.size < w1.heap.size := by subst hw1; simp
  clear hw1
  go_loopw [4] (fun v4 wr => ∃ i : Nat, i ≤ ks.length ∧ v4 = .int .i64 i ∧ Hid (SFilling Sh.int 3 wr w.heap.size ks.length i ks ∧ Below w.heap.size w wr ∧ w.heap.size < wr.heap.size)) (fun v4 _ => ks.length - (intOf v4).toNat)
  case atStart => exact ⟨0, Nat.zero_le _, rfl, F1, B1, Z1⟩
  case round =>
    obtain ⟨i, hi, rfl, HF⟩ := hrel
    by_cases hlt : i < ks.length
    · obtain ⟨b, o, rfl, hS, hc, hn1, hn2⟩ := HA.out i hlt
      obtain ⟨F, HB, hZ⟩ := HF.out
      have e0 := (HB.cell (p := ⟨b, o + i, none⟩) hS).trans hc
      have hst := F.store (P := Try.prog) (Below.refl _ wr) hZ hlt (cs := [.int .i64 ks[i]]) rfl (by simp [Value.oneCell'])
      have F2 : Hid (SFilling Sh.int 3 (wr.setCells w.heap.size (i * 1) [.int .i64 ks[i]]) w.heap.size ks.length (i + 1) ks) := F.step (Below.refl _ wr) hZ hlt hlt ⟨rfl, hn1, hn2⟩
      have B2 : Hid (Below w.heap.size w (wr.setCells w.heap.size (i * 1) [.int .i64 ks[i]])) := HB.trans (setCells_below (Nat.le_refl _) _ _)
      have Z2 : Hid (w.heap.size < (wr.setCells w.heap.size (i * 1) [.int .i64 ks[i]]).heap.size) := by show _ < _; rw [setCells_size]; exact hZ
      obtain ⟨cur, hcur, hsz⟩ := F.blk
      have fz : ∀ q, wr.frozen? ⟨w.heap.size, q, none⟩ = false := fun q => by simp [World.frozen?, hcur]
      obtain ⟨u, hu⟩ : ∃ u, wr.cell? ⟨w.heap.size, i, none⟩ = some u := ⟨cur[i]'(by simp only [Sh.int] at hsz; omega), by simp [World.cell?, hcur]⟩
      have hk1 : Sh.int.k = 1 := rfl
      rw [hk1] at hst
      clear F HB hZ HF hc hcur
      generalize ks[i] = x0 at e0 hst F2 B2 Z2
      simp only [World.setCells, Nat.mul_one] at F2 B2 Z2
      go_wp2
      go_round
      case rel => exact ⟨i + 1, by omega, by go_num, F2.out, B2.out, Z2.out⟩
      case measure => simp [intOf]; omega
    · obtain rfl : i = ks.length := by omega
      go_wp2
      go_ret
      obtain ⟨F, HB, hZ⟩ := HF.out
      exact ⟨⟨_, rfl, F.done hZ (by unfold maxLen; omega)⟩, HB⟩

theorem toS_any (ks : List Int) (v : Value) (w : World) (hw : ks.length ≤ 1048576) (h : Sh.int.slice.rep w (· < w.heap.size) [v] ks) :
    Calls Try.prog 19 #[v] w fun e w' => (∃ v', e = .returned v' ∧ Sh.int.slice.rep w' (fun b => w.heap.size ≤ b ∧ b < w'.heap.size) [v'] ks) ∧ Below w.heap.size w w' :=
  (toPS_any ks v w hw h).mono fun e w' ⟨⟨v', h1, h2⟩, h3⟩ => ⟨⟨v', h1, intsp_rep h2⟩, h3⟩

end Go.Proofs.Ytempmfpnngbbeab.ints

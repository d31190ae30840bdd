/-
  The model's l17Copy: the same heap in new memory; nothing that was there is turned.
  The model's l1Bit and l17Head.
-/
import Derived.Deep.RegionLaw
import Derived.Deep.RegionHeld3
import Derived.Test.YtigcpigmfcgaoaaB1
import Derived.Test.YtigcpigmfcgaoaaB2
import Derived.Test.YtigcpigmfcgaoaaB3
import Derived.Test.YtigcpigmfcgaoaaB4
import Derived.Test.YtigcpigmfcgaoaaB5
import Derived.Test.YtigcpigmfcgaoaaB6
import Derived.Test.YtigcpigmfcgaoaaB7
import Derived.Test.YtigcpigmfcgaoaaB8
import Derived.Test.YtigcpigmfcgaoaaB9
import Derived.Test.YtigcpigmfcgaoaaB10
namespace Go.Proofs.Ytigcpigmfcgaoaa.heap
open Go Go.RowKit Go.Deep Go.Proofs.Ytigcpigmfcgaoaa.rose Go.Proofs.Ytigcpigmfcgaoaa Go.Proofs.Ytigcpigmfcgaoaa.fun Go.Proofs.Ytigcpigmfcgaoaa.words Go.Proofs.Ytigcpigmfcgaoaa.ints
set_option linter.unusedVariables false
set_option linter.unusedSimpArgs false
set_option linter.unnecessarySimpa false

set_option maxRecDepth 100000 in
set_option maxHeartbeats 8000000 in
theorem copy_is (T : HeapD) (cs : List Value) (w : World) (hw : (wt T) ≤ 1048576) (h : heapSh.rep w (· < w.heap.size) cs T) :
    Calls Try.prog 30 #[.agg cs.toArray] w fun e w' => (∃ a c, e = .returned (.agg #[.slice a T.1.length c, .int .i64 T.2.1, .int .i64 T.2.2.1, .int .i64 T.2.2.2]) ∧ IRow w' w.heap.size (.slice a T.1.length c) T.1) ∧ Below w.heap.size w w' := by
  obtain ⟨W, a0, c0, half, base, next, rfl, rfl, f0, f1, f2, f3⟩ := heap_open h
  obtain ⟨a, cap, e, hcap, hmax, hat⟩ := ints_open f0
  cases e
  dsimp only
  have hwl : W.length ≤ 1048576 := hw
  have HA : Hid _ := hat
  have RNG : Hid (∀ y ∈ W, InR y) := fun y hy => by
    obtain ⟨j, hj, e⟩ := List.getElem_of_mem hy
    obtain ⟨_, _, _, _, _, r3, r4⟩ := HA.out j hj
    rw [← e]; exact ⟨r3, r4⟩
  obtain ⟨ti, hti, hz0, hz1, hz2⟩ := int_info
  have TI : Hid (Try.prog.info? 3 = some ti ∧ ti.zero = some (.int .i64 0) ∧ ti.size = 1 ∧ ti.bytes = 8) := ⟨hti, hz0, hz1, hz2⟩
  clear h f0 f1 f2 f3 hcap hmax hat hw hti hz0 hz1 hz2
  cases a0 with
  | none =>
    have hW : W = [] := by
      cases W with
      | nil => rfl
      | cons x xs => obtain ⟨b, o, e, _⟩ := HA.out 0 (by simp); cases e
    subst hW
    go_enter Try.func30, Try.ntmps30
    go_wp2
    go_region
    all_goals
      go_wp2
      refine bodyPost_ret (v := .agg #[.slice (some ⟨w.heap.size + 1 + 1, 0, none⟩) 0 0, .int .i64 half, .int .i64 base, .int .i64 next]) (by simp [results, Try.f30, go_sem]) rfl ?_
      have hr := irow_lit0 ((w.alloc (.cells #[.slice none 0 c0, .int .i64 half, .int .i64 base, .int .i64 next] 26)).alloc (.cells #[.slice (some ⟨w.heap.size + 1 + 1, 0, none⟩) 0 0, .int .i64 half, .int .i64 base, .int .i64 next] 26)) (base := w.heap.size) (by simp; omega)
      rw [World.size_alloc, World.size_alloc] at hr
      exact ⟨⟨_, _, rfl, hr⟩, ((((Below.refl _ _).alloc (Nat.le_refl _) _).alloc (by simp) _).alloc (by simp; omega) _).drew⟩
  | some ad =>
    have BW : Below w.heap.size w ((w.alloc (.cells #[.slice (some ad) W.length c0, .int .i64 half, .int .i64 base, .int .i64 next] 26)).alloc (.cells #[.slice none 0 0, .int .i64 0, .int .i64 0, .int .i64 0] 26)) := ((Below.refl _ _).alloc (Nat.le_refl _) _).alloc (by simp) _
    have Z2 : Hid (((w.alloc (.cells #[.slice (some ad) W.length c0, .int .i64 half, .int .i64 base, .int .i64 next] 26)).alloc (.cells #[.slice none 0 0, .int .i64 0, .int .i64 0, .int .i64 0] 26)).heap.size = w.heap.size + 2) := by show _ = _; simp
    have X0 : Hid (((w.alloc (.cells #[.slice (some ad) W.length c0, .int .i64 half, .int .i64 base, .int .i64 next] 26)).alloc (.cells #[.slice none 0 0, .int .i64 0, .int .i64 0, .int .i64 0] 26)).heap[w.heap.size]? = some (.cells #[.slice (some ad) W.length c0, .int .i64 half, .int .i64 base, .int .i64 next] 26)) := by
      show _ = _; rw [Below.heap_alloc _ _ _ (by simp)]; exact alloc_top _ _
    have X1 : Hid (((w.alloc (.cells #[.slice (some ad) W.length c0, .int .i64 half, .int .i64 base, .int .i64 next] 26)).alloc (.cells #[.slice none 0 0, .int .i64 0, .int .i64 0, .int .i64 0] 26)).heap[w.heap.size + 1]? = some (.cells #[.slice none 0 0, .int .i64 0, .int .i64 0, .int .i64 0] 26)) := by
      have := alloc_top (w.alloc (.cells #[.slice (some ad) W.length c0, .int .i64 half, .int .i64 base, .int .i64 next] 26)) (.cells #[.slice none 0 0, .int .i64 0, .int .i64 0, .int .i64 0] 26)
      rwa [World.size_alloc] at this
    have L0 : Hid ((((w.alloc (.cells #[.slice (some ad) W.length c0, .int .i64 half, .int .i64 base, .int .i64 next] 26)).alloc (.cells #[.slice none 0 0, .int .i64 0, .int .i64 0, .int .i64 0] 26)).alloc (.cells #[] 3)).drew.ownsRow (w.heap.size + 2) 3 1 (.slice (some ⟨w.heap.size + 1 + 1, 0, none⟩) 0 0) 0 []) := by
      have := World.ownsRow_lit ((w.alloc (.cells #[.slice (some ad) W.length c0, .int .i64 half, .int .i64 base, .int .i64 next] 26)).alloc (.cells #[.slice none 0 0, .int .i64 0, .int .i64 0, .int .i64 0] 26)) #[] (e := 3) (size := 1) (base := w.heap.size + 2) 0 (by rw [Z2.out]; exact Nat.le_refl _) (Nat.zero_le _) rfl
      rw [Z2.out] at this
      exact this
    have NW : Hid (∀ j u, (W.map (Value.int .i64))[j]? = some u → (((w.alloc (.cells #[.slice (some ad) W.length c0, .int .i64 half, .int .i64 base, .int .i64 next] 26)).alloc (.cells #[.slice none 0 0, .int .i64 0, .int .i64 0, .int .i64 0] 26)).alloc (.cells #[] 3)).drew.cell? (ad.add j) = some u) := fun j u hu => by
      rw [List.getElem?_map] at hu
      obtain ⟨y, hy, rfl⟩ := Option.map_eq_some_iff.1 hu
      obtain ⟨hq, rfl⟩ := List.getElem?_eq_some_iff.1 hy
      obtain ⟨b, o, hbo, hS, hc, -, -⟩ := HA.out j hq
      cases hbo
      rw [add_plain]
      exact (((BW.alloc (by rw [Z2.out]; omega) (.cells #[] 3)).drew).cell (p := ⟨b, o + j, none⟩) hS).trans hc
    have LM : Hid ((W.map (Value.int .i64)).length = W.length * 1) := by show _ = _; simp
    have O1 : Hid (∀ u ∈ W.map (Value.int .i64), u.oneCell' = true) := fun u hu => by obtain ⟨y, _, rfl⟩ := List.mem_map.1 hu; rfl
    have XA : (((w.alloc (.cells #[.slice (some ad) W.length c0, .int .i64 half, .int .i64 base, .int .i64 next] 26)).alloc (.cells #[.slice none 0 0, .int .i64 0, .int .i64 0, .int .i64 0] 26)).alloc (.cells #[] 3)).heap[w.heap.size]? = some (.cells #[.slice (some ad) W.length c0, .int .i64 half, .int .i64 base, .int .i64 next] 26) := (Below.heap_alloc _ _ _ (by rw [Z2.out]; omega)).trans X0.out
    have HBW : Hid (Below w.heap.size w ((w.alloc (.cells #[.slice (some ad) W.length c0, .int .i64 half, .int .i64 base, .int .i64 next] 26)).alloc (.cells #[.slice none 0 0, .int .i64 0, .int .i64 0, .int .i64 0] 26))) := BW
    clear BW
    have j0 : ((w.alloc (.cells #[.slice (some ad) W.length c0, .int .i64 half, .int .i64 base, .int .i64 next] 26)).alloc (.cells #[.slice none 0 0, .int .i64 0, .int .i64 0, .int .i64 0] 26)).cell? ⟨w.heap.size, 0, none⟩ = some (.slice (some ad) W.length c0) := by have := X0.out; simp [World.cell?, this]
    have k0 : (((w.alloc (.cells #[.slice (some ad) W.length c0, .int .i64 half, .int .i64 base, .int .i64 next] 26)).alloc (.cells #[.slice none 0 0, .int .i64 0, .int .i64 0, .int .i64 0] 26)).alloc (.cells #[] 3)).cell? ⟨w.heap.size, 0, none⟩ = some (.slice (some ad) W.length c0) := by simp [World.cell?, XA]
    have j1 : ((w.alloc (.cells #[.slice (some ad) W.length c0, .int .i64 half, .int .i64 base, .int .i64 next] 26)).alloc (.cells #[.slice none 0 0, .int .i64 0, .int .i64 0, .int .i64 0] 26)).cell? ⟨w.heap.size, 1, none⟩ = some (.int .i64 half) := by have := X0.out; simp [World.cell?, this]
    have k1 : (((w.alloc (.cells #[.slice (some ad) W.length c0, .int .i64 half, .int .i64 base, .int .i64 next] 26)).alloc (.cells #[.slice none 0 0, .int .i64 0, .int .i64 0, .int .i64 0] 26)).alloc (.cells #[] 3)).cell? ⟨w.heap.size, 1, none⟩ = some (.int .i64 half) := by simp [World.cell?, XA]
    have j2 : ((w.alloc (.cells #[.slice (some ad) W.length c0, .int .i64 half, .int .i64 base, .int .i64 next] 26)).alloc (.cells #[.slice none 0 0, .int .i64 0, .int .i64 0, .int .i64 0] 26)).cell? ⟨w.heap.size, 2, none⟩ = some (.int .i64 base) := by have := X0.out; simp [World.cell?, this]
    have k2 : (((w.alloc (.cells #[.slice (some ad) W.length c0, .int .i64 half, .int .i64 base, .int .i64 next] 26)).alloc (.cells #[.slice none 0 0, .int .i64 0, .int .i64 0, .int .i64 0] 26)).alloc (.cells #[] 3)).cell? ⟨w.heap.size, 2, none⟩ = some (.int .i64 base) := by simp [World.cell?, XA]
    have j3 : ((w.alloc (.cells #[.slice (some ad) W.length c0, .int .i64 half, .int .i64 base, .int .i64 next] 26)).alloc (.cells #[.slice none 0 0, .int .i64 0, .int .i64 0, .int .i64 0] 26)).cell? ⟨w.heap.size, 3, none⟩ = some (.int .i64 next) := by have := X0.out; simp [World.cell?, this]
    have k3 : (((w.alloc (.cells #[.slice (some ad) W.length c0, .int .i64 half, .int .i64 base, .int .i64 next] 26)).alloc (.cells #[.slice none 0 0, .int .i64 0, .int .i64 0, .int .i64 0] 26)).alloc (.cells #[] 3)).cell? ⟨w.heap.size, 3, none⟩ = some (.int .i64 next) := by simp [World.cell?, XA]
    clear XA
    go_enter Try.func30, Try.ntmps30
    go_wp2
    go_region_held3 (fun W' => W'.cell? ⟨w.heap.size, 0, none⟩ = some (.slice (some ad) W.length c0) ∧ W'.cell? ⟨w.heap.size, 1, none⟩ = some (.int .i64 half) ∧ W'.cell? ⟨w.heap.size, 2, none⟩ = some (.int .i64 base) ∧ W'.cell? ⟨w.heap.size, 3, none⟩ = some (.int .i64 next))
      (first | exact ⟨y0, y1, y2, y3⟩ | exact ⟨(by (repeat rw [cell_set_other _ _ _ _ (by show w.heap.size ≠ w.heap.size + 1; omega)]); exact y0), (by (repeat rw [cell_set_other _ _ _ _ (by show w.heap.size ≠ w.heap.size + 1; omega)]); exact y1), (by (repeat rw [cell_set_other _ _ _ _ (by show w.heap.size ≠ w.heap.size + 1; omega)]); exact y2), (by (repeat rw [cell_set_other _ _ _ _ (by show w.heap.size ≠ w.heap.size + 1; omega)]); exact y3)⟩ | exact ⟨by simpa using k0, by simpa using k1, by simpa using k2, by simpa using k3⟩ | exact ⟨by simpa using j0, by simpa using j1, by simpa using j2, by simpa using j3⟩)
      (first
        | (refine step_append_own rfl (.tmp 3) (.tmp 5) 24 rfl (w.heap.size + 2) 3 ti _ 1 8 Try.underlying24 TI.out.1 TI.out.2.1 TI.out.2.2.1 TI.out.2.2.2 rfl (by decide) (.slice (some ⟨w.heap.size + 1 + 1, 0, none⟩) 0 0) 0 [] (by simp [Act.eval, Act.put]) L0.out ad W.length c0 (W.map (Value.int .i64)) (by simp [Act.eval, Act.put]) LM.out NW.out O1.out (by unfold maxLen; omega) (by omega) (by have := Z2.out; simp) ?_; intro ua ul uc w3 hown3 hgrow3 hat3
           have hB3 : Below (w.heap.size + 2) ((w.alloc (.cells #[.slice (some ad) W.length c0, .int .i64 half, .int .i64 base, .int .i64 next] 26)).alloc (.cells #[.slice none 0 0, .int .i64 0, .int .i64 0, .int .i64 0] 26)) w3 := ((Below.refl _ ((w.alloc (.cells #[.slice (some ad) W.length c0, .int .i64 half, .int .i64 base, .int .i64 next] 26)).alloc (.cells #[.slice none 0 0, .int .i64 0, .int .i64 0, .int .i64 0] 26))).alloc (by rw [Z2.out]; exact Nat.le_refl _) _).drew.grown hgrow3 (by simp) (fun k hk => by cases hk; show w.heap.size + 2 ≤ w.heap.size + 1 + 1; omega)
           have hG0 := (hB3.block w.heap.size (by omega)).trans X0.out
           have hG1 := (hB3.block (w.heap.size + 1) (by omega)).trans X1.out
           have y0 : w3.cell? ⟨w.heap.size, 0, none⟩ = some (.slice (some ad) W.length c0) := by simp [World.cell?, hG0]
           have y1 : w3.cell? ⟨w.heap.size, 1, none⟩ = some (.int .i64 half) := by simp [World.cell?, hG0]
           have y2 : w3.cell? ⟨w.heap.size, 2, none⟩ = some (.int .i64 base) := by simp [World.cell?, hG0]
           have y3 : w3.cell? ⟨w.heap.size, 3, none⟩ = some (.int .i64 next) := by simp [World.cell?, hG0]
           have z0 : w3.cell? ⟨w.heap.size + 1, 0, none⟩ = some (.slice none 0 0) := by simp [World.cell?, hG1]
           have z1 : w3.cell? ⟨w.heap.size + 1, 1, none⟩ = some (.int .i64 0) := by simp [World.cell?, hG1]
           have z2 : w3.cell? ⟨w.heap.size + 1, 2, none⟩ = some (.int .i64 0) := by simp [World.cell?, hG1]
           have z3 : w3.cell? ⟨w.heap.size + 1, 3, none⟩ = some (.int .i64 0) := by simp [World.cell?, hG1]
           have zf : ∀ j, w3.frozen? ⟨w.heap.size + 1, j, none⟩ = false := fun j => by simp [World.frozen?, hG1]))
    all_goals
      obtain ⟨ua', uc', hue⟩ := own_form hown3
      cases hue
      have hI3 : IRow w3 (w.heap.size + 2) (.slice ua (0 + W.length) uc) W := ⟨by have := hown3; rw [Nat.zero_add, List.nil_append] at this; rw [Nat.zero_add]; exact this, RNG.out⟩
      have hB : Below w.heap.size w w3 := HBW.out.trans (hB3.mono (by omega))
      go_wp2
      refine bodyPost_ret (v := .agg #[.slice ua (0 + W.length) uc, .int .i64 half, .int .i64 base, .int .i64 next]) (by simp [results, Try.f30, go_sem, z0, z1, z2, z3]) rfl ?_
      refine ⟨⟨ua, uc, by rw [Nat.zero_add], ?_⟩, ?_⟩
      · have hI4 : IRow w3 w.heap.size (.slice ua W.length uc) W := irow_base0 (by have := hI3; rw [Nat.zero_add] at this; exact this) (by omega)
        refine ⟨own_same hI4.1 fun q hq => ?_, RNG.out⟩
        have := (hI3.lt q (by rw [Nat.zero_add]; exact hq)).1
        repeat rw [Below.heap_setCell _ _ _ _ (by show q ≠ w.heap.size + 1; omega)]
      · repeat first | with_reducible exact hB | (refine Below.setCell ?_ (by show w.heap.size ≤ w.heap.size + 1; omega) _)

end Go.Proofs.Ytigcpigmfcgaoaa.heap

namespace Go.Proofs.Ytigcpigmfcgaoaa.heap
open Go Go.RowKit Go.Deep Go.Proofs.Ytigcpigmfcgaoaa.rose Go.Proofs.Ytigcpigmfcgaoaa Go.Proofs.Ytigcpigmfcgaoaa.fun Go.Proofs.Ytigcpigmfcgaoaa.words Go.Proofs.Ytigcpigmfcgaoaa.ints
set_option linter.unusedVariables false
set_option linter.unusedSimpArgs false
set_option linter.unnecessarySimpa false

set_option maxHeartbeats 1000000 in
theorem bit_is (b : Bool) (w : World) : Calls Try.prog 73 #[.bool b] w fun e w' => e = .returned (.int .i64 (if b then 1 else 0)) ∧ w' = w := by
  cases b
  all_goals
    go_enter Try.func73, Try.ntmps73
    go_wp2
    go_ret
    exact ⟨rfl, rfl⟩
set_option maxHeartbeats 1000000 in
theorem head_is (b : Bool) (tag : Int) (m : Nat) (w : World) (h1 : 0 ≤ tag ∧ tag ≤ 3000) (h2 : m ≤ 20) : Calls Try.prog 55 #[.bool b, .int .i64 tag, .int .i64 m] w fun e w' => e = .returned (.int .i64 (headW b tag m)) ∧ w' = w := by
  have hb := bit_is b w
  obtain ⟨z, hz⟩ : ∃ z : Int, z = (if b then 1 else 0) := ⟨_, rfl⟩
  have hz1 : 0 ≤ z ∧ z ≤ 1 := by rw [hz]; split <;> omega
  have HZ : Hid (headW b tag m = 2 * (2 * (64 * tag + m) + z) + 1) := by show _ = _; unfold headW; rw [hz]
  rw [← hz] at hb
  clear hz
  go_enter Try.func55, Try.ntmps55
  go_wp2_with fail
  refine hb.mono ?_
  rintro e w1 ⟨rfl, hx⟩
  subst w1
  clear hb
  go_wp2
  go_ret
  exact ⟨ret_i HZ.out.symm, rfl⟩

end Go.Proofs.Ytigcpigmfcgaoaa.heap

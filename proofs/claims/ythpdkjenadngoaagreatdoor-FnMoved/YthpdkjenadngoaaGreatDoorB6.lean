/-
  The model's l17Copy: the same heap in new memory; nothing that was there is turned.
  The model's l1Bit and l17Head.
  The model's l17Put, where Alloc calls it: a block is put behind all, into words that are the call's own.
  A Heap that lies in memory apart: its slices are all different blocks.
-/
import Derived.Deep.RegionLaw
import Derived.Deep.RegionHeld3
import Derived.Deep.RegionWith
import Derived.Test.YthpdkjenadngoaaGreatDoorB1
import Derived.Test.YthpdkjenadngoaaGreatDoorB2
import Derived.Test.YthpdkjenadngoaaGreatDoorB3
import Derived.Test.YthpdkjenadngoaaGreatDoorB4
import Derived.Test.YthpdkjenadngoaaGreatDoorB5
namespace Go.Proofs.YthpdkjenadngoaaGreatDoor.heap
open Go Go.RowKit Go.Deep Go.Proofs.YthpdkjenadngoaaGreatDoor.rose Go.Proofs.YthpdkjenadngoaaGreatDoor Go.Proofs.YthpdkjenadngoaaGreatDoor.fun Go.Proofs.YthpdkjenadngoaaGreatDoor.words Go.Proofs.YthpdkjenadngoaaGreatDoor.ints
set_option linter.unusedVariables false
set_option linter.unusedSimpArgs false
set_option linter.unnecessarySimpa false

set_option maxRecDepth 100000 in
set_option maxHeartbeats 8000000 in
theorem copy_is (T : HeapD) (cs : List Value) (w : World) (hw : (wt T) ≤ 1048576) (h : heapSh.rep w (· < w.heap.size) cs T) :
    Calls Tryz.prog 27 #[.agg cs.toArray] w fun e w' => (∃ a c, e = .returned (.agg #[.slice a T.1.length c, .int .i64 T.2.1, .int .i64 T.2.2.1, .int .i64 T.2.2.2]) ∧ IRow w' w.heap.size (.slice a T.1.length c) T.1) ∧ Below w.heap.size w w' := by
  obtain ⟨W, a0, c0, half, base, next, rfl, rfl, f0, f1, f2, f3⟩ := heap_open h
  obtain ⟨a, cap, e, hcap, hmax, hat⟩ := ints_open f0
  cases e
  dsimp only
  have hwl : W.length ≤ 1048576 := hw
  have HA : Hid _ := hat
  have RNG : Hid (∀ y ∈ W, InR y) := fun y hy => by
    obtain ⟨j, hj, e⟩ := List.getElem_of_mem hy
    obtain ⟨_, _, _, _, _, r3, r4⟩ := HA.out j hj
    rw [← e]; exact ⟨r3, r4⟩
  obtain ⟨ti, hti, hz0, hz1, hz2⟩ := int_info
  have TI : Hid (Tryz.prog.info? 3 = some ti ∧ ti.zero = some (.int .i64 0) ∧ ti.size = 1 ∧ ti.bytes = 8) := ⟨hti, hz0, hz1, hz2⟩
  clear h f0 f1 f2 f3 hcap hmax hat hw hti hz0 hz1 hz2
  cases a0 with
  | none =>
    have hW : W = [] := by
      cases W with
      | nil => rfl
      | cons x xs => obtain ⟨b, o, e, _⟩ := HA.out 0 (by simp); cases e
    subst hW
    go_enter Tryz.func27, Tryz.ntmps27
    go_wp2
    go_region
    all_goals
      go_wp2
      refine bodyPost_ret (v := .agg #[.slice (some ⟨w.heap.size + 1 + 1, 0, none⟩) 0 0, .int .i64 half, .int .i64 base, .int .i64 next]) (by simp [results, Tryz.f27, go_sem]) rfl ?_
      have hr := irow_lit0 ((w.alloc (.cells #[.slice none 0 c0, .int .i64 half, .int .i64 base, .int .i64 next] 26)).alloc (.cells #[.slice (some ⟨w.heap.size + 1 + 1, 0, none⟩) 0 0, .int .i64 half, .int .i64 base, .int .i64 next] 26)) (base := w.heap.size) (by simp; omega)
      rw [World.size_alloc, World.size_alloc] at hr
      exact ⟨⟨_, _, rfl, hr⟩, ((((Below.refl _ _).alloc (Nat.le_refl _) _).alloc (by simp) _).alloc (by simp; omega) _).drew⟩
  | some ad =>
    have BW : Below w.heap.size w ((w.alloc (.cells #[.slice (some ad) W.length c0, .int .i64 half, .int .i64 base, .int .i64 next] 26)).alloc (.cells #[.slice none 0 0, .int .i64 0, .int .i64 0, .int .i64 0] 26)) := ((Below.refl _ _).alloc (Nat.le_refl _) _).alloc (by simp) _
    have Z2 : Hid (((w.alloc (.cells #[.slice (some ad) W.length c0, .int .i64 half, .int .i64 base, .int .i64 next] 26)).alloc (.cells #[.slice none 0 0, .int .i64 0, .int .i64 0, .int .i64 0] 26)).heap.size = w.heap.size + 2) := by show _ = _; simp
    have X0 : Hid (((w.alloc (.cells #[.slice (some ad) W.length c0, .int .i64 half, .int .i64 base, .int .i64 next] 26)).alloc (.cells #[.slice none 0 0, .int .i64 0, .int .i64 0, .int .i64 0] 26)).heap[w.heap.size]? = some (.cells #[.slice (some ad) W.length c0, .int .i64 half, .int .i64 base, .int .i64 next] 26)) := by
      show _ = _; rw [Below.heap_alloc _ _ _ (by simp)]; exact alloc_top _ _
    have X1 : Hid (((w.alloc (.cells #[.slice (some ad) W.length c0, .int .i64 half, .int .i64 base, .int .i64 next] 26)).alloc (.cells #[.slice none 0 0, .int .i64 0, .int .i64 0, .int .i64 0] 26)).heap[w.heap.size + 1]? = some (.cells #[.slice none 0 0, .int .i64 0, .int .i64 0, .int .i64 0] 26)) := by
      have := alloc_top (w.alloc (.cells #[.slice (some ad) W.length c0, .int .i64 half, .int .i64 base, .int .i64 next] 26)) (.cells #[.slice none 0 0, .int .i64 0, .int .i64 0, .int .i64 0] 26)
      rwa [World.size_alloc] at this
    have L0 : Hid ((((w.alloc (.cells #[.slice (some ad) W.length c0, .int .i64 half, .int .i64 base, .int .i64 next] 26)).alloc (.cells #[.slice none 0 0, .int .i64 0, .int .i64 0, .int .i64 0] 26)).alloc (.cells #[] 3)).drew.ownsRow (w.heap.size + 2) 3 1 (.slice (some ⟨w.heap.size + 1 + 1, 0, none⟩) 0 0) 0 []) := by
      have := World.ownsRow_lit ((w.alloc (.cells #[.slice (some ad) W.length c0, .int .i64 half, .int .i64 base, .int .i64 next] 26)).alloc (.cells #[.slice none 0 0, .int .i64 0, .int .i64 0, .int .i64 0] 26)) #[] (e := 3) (size := 1) (base := w.heap.size + 2) 0 (by rw [Z2.out]; exact Nat.le_refl _) (Nat.zero_le _) rfl
      rw [Z2.out] at this
      exact this
    have NW : Hid (∀ j u, (W.map (Value.int .i64))[j]? = some u → (((w.alloc (.cells #[.slice (some ad) W.length c0, .int .i64 half, .int .i64 base, .int .i64 next] 26)).alloc (.cells #[.slice none 0 0, .int .i64 0, .int .i64 0, .int .i64 0] 26)).alloc (.cells #[] 3)).drew.cell? (ad.add j) = some u) := fun j u hu => by
      rw [List.getElem?_map] at hu
      obtain ⟨y, hy, rfl⟩ := Option.map_eq_some_iff.1 hu
      obtain ⟨hq, rfl⟩ := List.getElem?_eq_some_iff.1 hy
      obtain ⟨b, o, hbo, hS, hc, -, -⟩ := HA.out j hq
      cases hbo
      rw [add_plain]
      exact (((BW.alloc (by rw [Z2.out]; omega) (.cells #[] 3)).drew).cell (p := ⟨b, o + j, none⟩) hS).trans hc
    have LM : Hid ((W.map (Value.int .i64)).length = W.length * 1) := by show _ = _; simp
    have O1 : Hid (∀ u ∈ W.map (Value.int .i64), u.oneCell' = true) := fun u hu => by obtain ⟨y, _, rfl⟩ := List.mem_map.1 hu; rfl
    have XA : (((w.alloc (.cells #[.slice (some ad) W.length c0, .int .i64 half, .int .i64 base, .int .i64 next] 26)).alloc (.cells #[.slice none 0 0, .int .i64 0, .int .i64 0, .int .i64 0] 26)).alloc (.cells #[] 3)).heap[w.heap.size]? = some (.cells #[.slice (some ad) W.length c0, .int .i64 half, .int .i64 base, .int .i64 next] 26) := (Below.heap_alloc _ _ _ (by rw [Z2.out]; omega)).trans X0.out
    have HBW : Hid (Below w.heap.size w ((w.alloc (.cells #[.slice (some ad) W.length c0, .int .i64 half, .int .i64 base, .int .i64 next] 26)).alloc (.cells #[.slice none 0 0, .int .i64 0, .int .i64 0, .int .i64 0] 26))) := BW
    clear BW
    have j0 : ((w.alloc (.cells #[.slice (some ad) W.length c0, .int .i64 half, .int .i64 base, .int .i64 next] 26)).alloc (.cells #[.slice none 0 0, .int .i64 0, .int .i64 0, .int .i64 0] 26)).cell? ⟨w.heap.size, 0, none⟩ = some (.slice (some ad) W.length c0) := by have := X0.out; simp [World.cell?, this]
    have k0 : (((w.alloc (.cells #[.slice (some ad) W.length c0, .int .i64 half, .int .i64 base, .int .i64 next] 26)).alloc (.cells #[.slice none 0 0, .int .i64 0, .int .i64 0, .int .i64 0] 26)).alloc (.cells #[] 3)).cell? ⟨w.heap.size, 0, none⟩ = some (.slice (some ad) W.length c0) := by simp [World.cell?, XA]
    have j1 : ((w.alloc (.cells #[.slice (some ad) W.length c0, .int .i64 half, .int .i64 base, .int .i64 next] 26)).alloc (.cells #[.slice none 0 0, .int .i64 0, .int .i64 0, .int .i64 0] 26)).cell? ⟨w.heap.size, 1, none⟩ = some (.int .i64 half) := by have := X0.out; simp [World.cell?, this]
    have k1 : (((w.alloc (.cells #[.slice (some ad) W.length c0, .int .i64 half, .int .i64 base, .int .i64 next] 26)).alloc (.cells #[.slice none 0 0, .int .i64 0, .int .i64 0, .int .i64 0] 26)).alloc (.cells #[] 3)).cell? ⟨w.heap.size, 1, none⟩ = some (.int .i64 half) := by simp [World.cell?, XA]
    have j2 : ((w.alloc (.cells #[.slice (some ad) W.length c0, .int .i64 half, .int .i64 base, .int .i64 next] 26)).alloc (.cells #[.slice none 0 0, .int .i64 0, .int .i64 0, .int .i64 0] 26)).cell? ⟨w.heap.size, 2, none⟩ = some (.int .i64 base) := by have := X0.out; simp [World.cell?, this]
    have k2 : (((w.alloc (.cells #[.slice (some ad) W.length c0, .int .i64 half, .int .i64 base, .int .i64 next] 26)).alloc (.cells #[.slice none 0 0, .int .i64 0, .int .i64 0, .int .i64 0] 26)).alloc (.cells #[] 3)).cell? ⟨w.heap.size, 2, none⟩ = some (.int .i64 base) := by simp [World.cell?, XA]
    have j3 : ((w.alloc (.cells #[.slice (some ad) W.length c0, .int .i64 half, .int .i64 base, .int .i64 next] 26)).alloc (.cells #[.slice none 0 0, .int .i64 0, .int .i64 0, .int .i64 0] 26)).cell? ⟨w.heap.size, 3, none⟩ = some (.int .i64 next) := by have := X0.out; simp [World.cell?, this]
    have k3 : (((w.alloc (.cells #[.slice (some ad) W.length c0, .int .i64 half, .int .i64 base, .int .i64 next] 26)).alloc (.cells #[.slice none 0 0, .int .i64 0, .int .i64 0, .int .i64 0] 26)).alloc (.cells #[] 3)).cell? ⟨w.heap.size, 3, none⟩ = some (.int .i64 next) := by simp [World.cell?, XA]
    clear XA
    go_enter Tryz.func27, Tryz.ntmps27
    go_wp2
    go_region_held3 (fun W' => W'.cell? ⟨w.heap.size, 0, none⟩ = some (.slice (some ad) W.length c0) ∧ W'.cell? ⟨w.heap.size, 1, none⟩ = some (.int .i64 half) ∧ W'.cell? ⟨w.heap.size, 2, none⟩ = some (.int .i64 base) ∧ W'.cell? ⟨w.heap.size, 3, none⟩ = some (.int .i64 next))
      (first | exact ⟨y0, y1, y2, y3⟩ | exact ⟨(by (repeat rw [cell_set_other _ _ _ _ (by show w.heap.size ≠ w.heap.size + 1; omega)]); exact y0), (by (repeat rw [cell_set_other _ _ _ _ (by show w.heap.size ≠ w.heap.size + 1; omega)]); exact y1), (by (repeat rw [cell_set_other _ _ _ _ (by show w.heap.size ≠ w.heap.size + 1; omega)]); exact y2), (by (repeat rw [cell_set_other _ _ _ _ (by show w.heap.size ≠ w.heap.size + 1; omega)]); exact y3)⟩ | exact ⟨by simpa using k0, by simpa using k1, by simpa using k2, by simpa using k3⟩ | exact ⟨by simpa using j0, by simpa using j1, by simpa using j2, by simpa using j3⟩)
      (first
        | (refine step_append_own rfl (.tmp 3) (.tmp 5) 24 rfl (w.heap.size + 2) 3 ti _ 1 8 Tryz.underlying24 TI.out.1 TI.out.2.1 TI.out.2.2.1 TI.out.2.2.2 rfl (by decide) (.slice (some ⟨w.heap.size + 1 + 1, 0, none⟩) 0 0) 0 [] (by simp [Act.eval, Act.put]) L0.out ad W.length c0 (W.map (Value.int .i64)) (by simp [Act.eval, Act.put]) LM.out NW.out O1.out (by unfold maxLen; omega) (by omega) (by have := Z2.out; simp) ?_; intro ua ul uc w3 hown3 hgrow3 hat3
           have hB3 : Below (w.heap.size + 2) ((w.alloc (.cells #[.slice (some ad) W.length c0, .int .i64 half, .int .i64 base, .int .i64 next] 26)).alloc (.cells #[.slice none 0 0, .int .i64 0, .int .i64 0, .int .i64 0] 26)) w3 := ((Below.refl _ ((w.alloc (.cells #[.slice (some ad) W.length c0, .int .i64 half, .int .i64 base, .int .i64 next] 26)).alloc (.cells #[.slice none 0 0, .int .i64 0, .int .i64 0, .int .i64 0] 26))).alloc (by rw [Z2.out]; exact Nat.le_refl _) _).drew.grown hgrow3 (by simp) (fun k hk => by cases hk; show w.heap.size + 2 ≤ w.heap.size + 1 + 1; omega)
           have hG0 := (hB3.block w.heap.size (by omega)).trans X0.out
           have hG1 := (hB3.block (w.heap.size + 1) (by omega)).trans X1.out
           have y0 : w3.cell? ⟨w.heap.size, 0, none⟩ = some (.slice (some ad) W.length c0) := by simp [World.cell?, hG0]
           have y1 : w3.cell? ⟨w.heap.size, 1, none⟩ = some (.int .i64 half) := by simp [World.cell?, hG0]
           have y2 : w3.cell? ⟨w.heap.size, 2, none⟩ = some (.int .i64 base) := by simp [World.cell?, hG0]
           have y3 : w3.cell? ⟨w.heap.size, 3, none⟩ = some (.int .i64 next) := by simp [World.cell?, hG0]
           have z0 : w3.cell? ⟨w.heap.size + 1, 0, none⟩ = some (.slice none 0 0) := by simp [World.cell?, hG1]
           have z1 : w3.cell? ⟨w.heap.size + 1, 1, none⟩ = some (.int .i64 0) := by simp [World.cell?, hG1]
           have z2 : w3.cell? ⟨w.heap.size + 1, 2, none⟩ = some (.int .i64 0) := by simp [World.cell?, hG1]
           have z3 : w3.cell? ⟨w.heap.size + 1, 3, none⟩ = some (.int .i64 0) := by simp [World.cell?, hG1]
           have zf : ∀ j, w3.frozen? ⟨w.heap.size + 1, j, none⟩ = false := fun j => by simp [World.frozen?, hG1]))
    all_goals
      obtain ⟨ua', uc', hue⟩ := own_form hown3
      cases hue
      have hI3 : IRow w3 (w.heap.size + 2) (.slice ua (0 + W.length) uc) W := ⟨by have := hown3; rw [Nat.zero_add, List.nil_append] at this; rw [Nat.zero_add]; exact this, RNG.out⟩
      have hB : Below w.heap.size w w3 := HBW.out.trans (hB3.mono (by omega))
      go_wp2
      refine bodyPost_ret (v := .agg #[.slice ua (0 + W.length) uc, .int .i64 half, .int .i64 base, .int .i64 next]) (by simp [results, Tryz.f27, go_sem, z0, z1, z2, z3]) rfl ?_
      refine ⟨⟨ua, uc, by rw [Nat.zero_add], ?_⟩, ?_⟩
      · have hI4 : IRow w3 w.heap.size (.slice ua W.length uc) W := irow_base0 (by have := hI3; rw [Nat.zero_add] at this; exact this) (by omega)
        refine ⟨own_same hI4.1 fun q hq => ?_, RNG.out⟩
        have := (hI3.lt q (by rw [Nat.zero_add]; exact hq)).1
        repeat rw [Below.heap_setCell _ _ _ _ (by show q ≠ w.heap.size + 1; omega)]
      · repeat first | with_reducible exact hB | (refine Below.setCell ?_ (by show w.heap.size ≤ w.heap.size + 1; omega) _)

end Go.Proofs.YthpdkjenadngoaaGreatDoor.heap

namespace Go.Proofs.YthpdkjenadngoaaGreatDoor.heap
open Go Go.RowKit Go.Deep Go.Proofs.YthpdkjenadngoaaGreatDoor.rose Go.Proofs.YthpdkjenadngoaaGreatDoor Go.Proofs.YthpdkjenadngoaaGreatDoor.fun Go.Proofs.YthpdkjenadngoaaGreatDoor.words Go.Proofs.YthpdkjenadngoaaGreatDoor.ints
set_option linter.unusedVariables false
set_option linter.unusedSimpArgs false
set_option linter.unnecessarySimpa false

set_option maxHeartbeats 1000000 in
theorem bit_is (b : Bool) (w : World) : Calls Tryz.prog 139 #[.bool b] w fun e w' => e = .returned (.int .i64 (if b then 1 else 0)) ∧ w' = w := by
  cases b
  all_goals
    go_enter Tryz.func139, Tryz.ntmps139
    go_wp2
    go_ret
    exact ⟨rfl, rfl⟩
set_option maxHeartbeats 1000000 in
theorem head_is (b : Bool) (tag : Int) (m : Nat) (w : World) (h1 : 0 ≤ tag ∧ tag ≤ 3000) (h2 : m ≤ 20) : Calls Tryz.prog 126 #[.bool b, .int .i64 tag, .int .i64 m] w fun e w' => e = .returned (.int .i64 (headW b tag m)) ∧ w' = w := by
  have hb := bit_is b w
  obtain ⟨z, hz⟩ : ∃ z : Int, z = (if b then 1 else 0) := ⟨_, rfl⟩
  have hz1 : 0 ≤ z ∧ z ≤ 1 := by rw [hz]; split <;> omega
  have HZ : Hid (headW b tag m = 2 * (2 * (64 * tag + m) + z) + 1) := by show _ = _; unfold headW; rw [hz]
  rw [← hz] at hb
  clear hz
  go_enter Tryz.func126, Tryz.ntmps126
  go_wp2_with fail
  refine hb.mono ?_
  rintro e w1 ⟨rfl, hx⟩
  subst w1
  clear hb
  go_wp2
  go_ret
  exact ⟨ret_i HZ.out.symm, rfl⟩

end Go.Proofs.YthpdkjenadngoaaGreatDoor.heap

namespace Go.Proofs.YthpdkjenadngoaaGreatDoor.heap
open Go Go.RowKit Go.Deep Go.Proofs.YthpdkjenadngoaaGreatDoor.rose Go.Proofs.YthpdkjenadngoaaGreatDoor Go.Proofs.YthpdkjenadngoaaGreatDoor.fun Go.Proofs.YthpdkjenadngoaaGreatDoor.words Go.Proofs.YthpdkjenadngoaaGreatDoor.ints
set_option linter.unusedVariables false
set_option linter.unusedSimpArgs false

/-- Where the writing stands. -/
structure WS (w wr : World) (box : Array Value) (g c B : Nat) (n : Nat) (X : List Int) : Prop where
  row : IRow wr B (.slice (some ⟨g, 0, none⟩) n c) X
  bel : Below B w wr
  box_ : wr.heap[w.heap.size]? = some (.cells box 26)
  res : wr.heap[w.heap.size + 1]? = some (.cells #[.slice none 0 0, .int .i64 0, .int .i64 0, .int .i64 0] 26)
  gl : B ≤ g ∧ g < w.heap.size
theorem WS.set {w wr : World} {box : Array Value} {g c B n : Nat} {X : List Int} (h : WS w wr box g c B n X) (hn : n = X.length) {j : Nat} (hj : j < X.length) {x : Int} (hx : InR x) : WS w (wr.setCell ⟨g, j, none⟩ (.int .i64 x)) box g c B n (X.set j x) := by
  have hg := h.gl
  have hs : ∀ k, k ≠ g → (wr.setCell ⟨g, j, none⟩ (.int .i64 x)).heap[k]? = wr.heap[k]? := fun k hk => Below.heap_setCell _ _ _ _ hk
  refine ⟨⟨?_, fun y hy => ?_⟩, h.bel.setCell (by exact hg.1) _, (hs _ (by omega)).trans h.box_, (hs _ (by omega)).trans h.res, hg⟩
  · have := h.row.1
    rw [hn] at this ⊢
    rw [List.length_set, List.map_set]
    exact own_set this (by omega)
  · rcases List.mem_or_eq_of_mem_set hy with hy | rfl
    · exact h.row.2 y hy
    · exact hx
theorem WS.drew {w wr : World} {box : Array Value} {g c B n : Nat} {X : List Int} (h : WS w wr box g c B n X) : WS w wr.drew box g c B n X := ⟨h.row, h.bel.drew, h.box_, h.res, h.gl⟩

set_option maxRecDepth 100000 in
set_option maxHeartbeats 8000000 in
theorem put_is (W : List Int) (hn bn nx : Nat) (fn : Bool) (tag : Int) (kids : List Int) (g c B : Nat) (vk : Value) (w : World) (hd : headB (W, (hn : Int), (bn : Int), (nx : Int)) = true) (ht : 0 ≤ tag ∧ tag ≤ 3000) (hk : kids.length ≤ 20)
    (hI : IRow w B (.slice (some ⟨g, 0, none⟩) W.length c) W) (hr : intsSh.rep w (· < B) [vk] kids) :
    Calls Tryz.prog 105 #[.agg #[.slice (some ⟨g, 0, none⟩) W.length c, .int .i64 hn, .int .i64 bn, .int .i64 nx], .bool fn, .int .i64 tag, vk] w fun e w' =>
      if (kids.length : Int) < (bn : Int) + hn - nx then
        e = .returned (.tuple #[.agg #[.slice (some ⟨g, 0, none⟩) W.length c, .int .i64 hn, .int .i64 bn, .int .i64 ((nx : Int) + 1 + kids.length)], .int .i64 nx, .bool true]) ∧ IRow w' B (.slice (some ⟨g, 0, none⟩) W.length c) (putW W nx (headW fn tag kids.length :: kids)) ∧ Below B w w'
      else e = .returned (.tuple #[.agg #[.slice (some ⟨g, 0, none⟩) W.length c, .int .i64 hn, .int .i64 bn, .int .i64 nx], .int .i64 0, .bool false]) ∧ Below w.heap.size w w' := by
  have H1 := head_in hd
  dsimp only at H1
  obtain ⟨ak, ck, hvk⟩ : ∃ a c, vk = .slice a kids.length c := by obtain ⟨a, c, e⟩ := slice_cells hr; simp only [List.cons.injEq, and_true] at e; exact ⟨a, c, e⟩
  have hg := hI.lt g rfl
  by_cases hroom : (kids.length : Int) < (bn : Int) + hn - nx
  case neg =>
    simp only [if_neg hroom]
    subst hvk
    have t1 : decide ((bn : Int) + hn - nx ≤ (kids.length : Int)) = true := by simp; omega
    clear hI hr
    go_enter Tryz.func105, Tryz.ntmps105
    go_wp2
    refine bodyPost_ret (v := .tuple #[.agg #[.slice (some ⟨g, 0, none⟩) W.length c, .int .i64 hn, .int .i64 bn, .int .i64 nx], .int .i64 0, .bool false]) (by simp [results, Tryz.f105, go_sem]) rfl ?_
    exact ⟨rfl, ((Below.refl _ _).alloc (Nat.le_refl _) _).alloc (by simp) _⟩
  case pos =>
    simp only [if_pos hroom]
    have t1 : decide ((bn : Int) + hn - nx ≤ (kids.length : Int)) = false := by simp; omega
    subst hvk
    have hbox : Below w.heap.size w ((w.alloc (.cells #[.slice (some ⟨g, 0, none⟩) W.length c, .int .i64 hn, .int .i64 bn, .int .i64 nx] 26)).alloc (.cells #[.slice none 0 0, .int .i64 0, .int .i64 0, .int .i64 0] 26)) := ((Below.refl _ _).alloc (Nat.le_refl _) _).alloc (by simp) _
    have S0 : Hid (WS w ((w.alloc (.cells #[.slice (some ⟨g, 0, none⟩) W.length c, .int .i64 hn, .int .i64 bn, .int .i64 nx] 26)).alloc (.cells #[.slice none 0 0, .int .i64 0, .int .i64 0, .int .i64 0] 26)) #[.slice (some ⟨g, 0, none⟩) W.length c, .int .i64 hn, .int .i64 bn, .int .i64 nx] g c B W.length W) := by
      refine ⟨hI.keep hbox, hbox.mono (by omega), ?_, ?_, hg⟩
      · rw [Below.heap_alloc _ _ _ (by simp)]; exact alloc_top _ _
      · have := alloc_top (w.alloc (.cells #[.slice (some ⟨g, 0, none⟩) W.length c, .int .i64 hn, .int .i64 bn, .int .i64 nx] 26)) (.cells #[.slice none 0 0, .int .i64 0, .int .i64 0, .int .i64 0] 26)
        rwa [World.size_alloc] at this
    have hnl : nx + 1 + kids.length ≤ W.length ∧ W.length ≤ 6000 := by omega
    obtain ⟨hd0, hhd⟩ : ∃ z, z = headW fn tag kids.length := ⟨_, rfl⟩
    have hhr : InR hd0 := by rw [hhd]; unfold headW InR; split <;> omega
    have HH := head_is fn tag kids.length ((w.alloc (.cells #[.slice (some ⟨g, 0, none⟩) W.length c, .int .i64 hn, .int .i64 bn, .int .i64 nx] 26)).alloc (.cells #[.slice none 0 0, .int .i64 0, .int .i64 0, .int .i64 0] 26)).drew ht hk
    rw [← hhd] at HH
    have e0 : ((w.alloc (.cells #[.slice (some ⟨g, 0, none⟩) W.length c, .int .i64 hn, .int .i64 bn, .int .i64 nx] 26)).alloc (.cells #[.slice none 0 0, .int .i64 0, .int .i64 0, .int .i64 0] 26)).cell? ⟨g, nx, none⟩ = some (.int .i64 (W[nx]'(by omega))) := by
      rcases S0.out.row.open with ⟨h0, -⟩ | ⟨g', cp, hv, -, -, -, -, hcl, -⟩
      · cases h0
      · cases hv; exact hcl nx (by omega)
    have ef : ∀ j, ((w.alloc (.cells #[.slice (some ⟨g, 0, none⟩) W.length c, .int .i64 hn, .int .i64 bn, .int .i64 nx] 26)).alloc (.cells #[.slice none 0 0, .int .i64 0, .int .i64 0, .int .i64 0] 26)).frozen? ⟨g, j, none⟩ = false := fun j => by
      rcases S0.out.row.open with ⟨h0, -⟩ | ⟨g', cp, hv, -, -, -, -, -, cu, tt, hcu⟩
      · cases h0
      · cases hv; simp [World.frozen?, hcu]
    have hZs : (w.setCell ⟨g, nx, none⟩ (.int .i64 hd0)).heap.size = w.heap.size := by simp [World.setCell]
    have S1 : Hid (WS w (((w.setCell ⟨g, nx, none⟩ (.int .i64 hd0)).alloc (.cells #[.slice (some ⟨g, 0, none⟩) W.length c, .int .i64 hn, .int .i64 bn, .int .i64 nx] 26)).alloc (.cells #[.slice none 0 0, .int .i64 0, .int .i64 0, .int .i64 0] 26)).drew #[.slice (some ⟨g, 0, none⟩) W.length c, .int .i64 hn, .int .i64 bn, .int .i64 nx] g c B W.length (putW W nx [hd0])) := by
      have hbs : Below B w (w.setCell ⟨g, nx, none⟩ (.int .i64 hd0)) := (Below.refl _ _).setCell (by exact hg.1) _
      have hb2 : Below (w.setCell ⟨g, nx, none⟩ (.int .i64 hd0)).heap.size (w.setCell ⟨g, nx, none⟩ (.int .i64 hd0)) (((w.setCell ⟨g, nx, none⟩ (.int .i64 hd0)).alloc (.cells #[.slice (some ⟨g, 0, none⟩) W.length c, .int .i64 hn, .int .i64 bn, .int .i64 nx] 26)).alloc (.cells #[.slice none 0 0, .int .i64 0, .int .i64 0, .int .i64 0] 26)) := ((Below.refl _ _).alloc (Nat.le_refl _) _).alloc (by simp) _
      have hIs : IRow (w.setCell ⟨g, nx, none⟩ (.int .i64 hd0)) B (.slice (some ⟨g, 0, none⟩) W.length c) (W.set nx hd0) := by
        refine ⟨?_, fun y hy => ?_⟩
        · rw [List.length_set, List.map_set]; exact own_set hI.1 (by omega)
        · rcases List.mem_or_eq_of_mem_set hy with hy | rfl
          · exact hI.2 y hy
          · exact hhr
      refine ⟨hIs.keep hb2.drew, (hbs.trans (hb2.mono (by omega))).drew, ?_, ?_, hg⟩
      · show (World.alloc _ _).heap[w.heap.size]? = _
        rw [Below.heap_alloc _ _ _ (by first | (simp; done) | (simp; omega))]
        have := alloc_top (w.setCell ⟨g, nx, none⟩ (.int .i64 hd0)) (.cells #[.slice (some ⟨g, 0, none⟩) W.length c, .int .i64 hn, .int .i64 bn, .int .i64 nx] 26)
        rwa [hZs] at this
      · have := alloc_top ((w.setCell ⟨g, nx, none⟩ (.int .i64 hd0)).alloc (.cells #[.slice (some ⟨g, 0, none⟩) W.length c, .int .i64 hn, .int .i64 bn, .int .i64 nx] 26)) (.cells #[.slice none 0 0, .int .i64 0, .int .i64 0, .int .i64 0] 26)
        rw [World.size_alloc, hZs] at this
        exact this
    obtain ⟨ak', ck', ekk, -, -, hkat⟩ := ints_open hr
    cases ekk
    have HKA : Hid _ := hkat
    clear hkat
    have HHD : Hid (hd0 = headW fn tag kids.length) := hhd
    have nI : (nx : Int) < (W.length : Int) := by omega
    generalize W[nx]'(by omega) = y0 at e0
    clear hI hr hbox hd hhd
    go_enter Tryz.func105, Tryz.ntmps105
    go_wp2
    go_region_with (go_at_call 126; refine HH.mono ?_; rintro e w' ⟨rfl, hx⟩; subst w')
    all_goals
      go_wp2
      go_loopw [12] (fun v12 wr => ∃ i : Nat, i ≤ kids.length ∧ v12 = .int .i64 i ∧ Hid (WS w wr #[.slice (some ⟨g, 0, none⟩) W.length c, .int .i64 hn, .int .i64 bn, .int .i64 nx] g c B W.length (putW W nx (hd0 :: kids.take i)))) (fun v12 _ => kids.length - (intOf v12).toNat)
      case atStart => exact ⟨0, Nat.zero_le _, rfl, S1.out⟩
      case round =>
        obtain ⟨i, hi, rfl, HS⟩ := hrel
        have hXl : (putW W nx (hd0 :: kids.take i)).length = W.length := putW_length _ _ _
        have b0 : wr.cell? ⟨w.heap.size, 0, none⟩ = some (.slice (some ⟨g, 0, none⟩) W.length c) := by simp [World.cell?, HS.out.box_]
        have b1 : wr.cell? ⟨w.heap.size, 1, none⟩ = some (.int .i64 hn) := by simp [World.cell?, HS.out.box_]
        have b2 : wr.cell? ⟨w.heap.size, 2, none⟩ = some (.int .i64 bn) := by simp [World.cell?, HS.out.box_]
        have b3 : wr.cell? ⟨w.heap.size, 3, none⟩ = some (.int .i64 nx) := by simp [World.cell?, HS.out.box_]
        by_cases hlt : i < kids.length
        · obtain ⟨kb, ko, rfl, hS, hc, r1, r2⟩ := HKA.out i hlt
          have e1 : wr.cell? ⟨kb, ko + i, none⟩ = some (.int .i64 kids[i]) := (HS.out.bel.cell (p := ⟨kb, ko + i, none⟩) hS).trans hc
          have hjl : nx + 1 + i < (putW W nx (hd0 :: kids.take i)).length := by rw [hXl]; omega
          obtain ⟨y2, e2, ef2⟩ : ∃ y2, wr.cell? ⟨g, nx + 1 + i, none⟩ = some (.int .i64 y2) ∧ ∀ j, wr.frozen? ⟨g, j, none⟩ = false := by
            rcases HS.out.row.open with ⟨h0, -⟩ | ⟨g', cp, hv, -, -, -, -, hcl, cu, tt, hcu⟩
            · cases h0
            · rw [hXl] at hv; cases hv; exact ⟨_, hcl (nx + 1 + i) hjl, fun j => by simp [World.frozen?, hcu]⟩
          have NX : Hid (WS w (wr.setCell ⟨g, nx + 1 + i, none⟩ (.int .i64 kids[i])).drew #[.slice (some ⟨g, 0, none⟩) W.length c, .int .i64 hn, .int .i64 bn, .int .i64 nx] g c B W.length (putW W nx (hd0 :: kids.take (i + 1)))) := by
            have h5 : putW W nx (hd0 :: kids.take (i + 1)) = (putW W nx (hd0 :: kids.take i)).set (nx + 1 + i) kids[i] := by
              rw [List.take_succ_eq_append_getElem hlt, ← List.cons_append, putW_push]
              congr 1
              simp; omega
            rw [h5]
            exact (HS.out.set hXl.symm hjl ⟨r1, r2⟩).drew
          have iI : (i : Int) < (kids.length : Int) := by omega
          have jI : (nx : Int) + 1 + (i : Int) < (W.length : Int) := by omega
          generalize kids[i] = kx at e1 NX
          clear hc r1 r2 hjl
          go_wp2
          go_region
          all_goals
            go_wp2
            go_round
            case rel => exact ⟨i + 1, by omega, by go_num, NX⟩
            case measure => simp [intOf]; omega
        · obtain rfl : i = kids.length := by omega
          have z0 : wr.cell? ⟨w.heap.size + 1, 0, none⟩ = some (.slice none 0 0) := by simp [World.cell?, HS.out.res]
          have z1 : wr.cell? ⟨w.heap.size + 1, 1, none⟩ = some (.int .i64 0) := by simp [World.cell?, HS.out.res]
          have z2 : wr.cell? ⟨w.heap.size + 1, 2, none⟩ = some (.int .i64 0) := by simp [World.cell?, HS.out.res]
          have z3 : wr.cell? ⟨w.heap.size + 1, 3, none⟩ = some (.int .i64 0) := by simp [World.cell?, HS.out.res]
          have zf : ∀ j, wr.frozen? ⟨w.heap.size + 1, j, none⟩ = false := fun j => by simp [World.frozen?, HS.out.res]
          have bf : ∀ j, wr.frozen? ⟨w.heap.size, j, none⟩ = false := fun j => by simp [World.frozen?, HS.out.box_]
          have hHE : putW W nx (hd0 :: kids.take kids.length) = putW W nx (headW fn tag kids.length :: kids) := by rw [List.take_length, HHD.out]
          have hgl := HS.out.gl
          go_wp2
          refine bodyPost_ret (v := .tuple #[.agg #[.slice (some ⟨g, 0, none⟩) W.length c, .int .i64 hn, .int .i64 bn, .int .i64 ((nx : Int) + 1 + kids.length)], .int .i64 nx, .bool true]) (by simp [results, Tryz.f105, go_sem, z0, z1, z2, z3]) rfl ?_
          refine ⟨rfl, ?_, ?_⟩
          · rw [← hHE]
            refine ⟨?_, HS.out.row.2⟩
            have h6 := HS.out.row.1
            rw [hXl] at h6 ⊢
            refine own_same h6 fun q hq => ?_
            simp only [Value.ownBlock, Option.some.injEq] at hq
            subst hq
            repeat rw [Below.heap_setCell _ _ _ _ (by first | (show g ≠ w.heap.size + 1; omega) | (show g ≠ w.heap.size; omega))]
          · have hB := HS.out.bel
            repeat first | with_reducible exact hB | (refine Below.setCell ?_ (by first | (show B ≤ w.heap.size + 1; omega) | (show B ≤ w.heap.size; omega)) _)

end Go.Proofs.YthpdkjenadngoaaGreatDoor.heap

namespace Go.Proofs.YthpdkjenadngoaaGreatDoor.heap
open Go.RowKit Go.Proofs.YthpdkjenadngoaaGreatDoor.rose Go.Proofs.YthpdkjenadngoaaGreatDoor
set_option linter.unusedVariables false

abbrev heapSp : Sh HeapD := Sh.int.sslice.spair (Sh.int.spair (Sh.int.spair Sh.int))

theorem heapp_rep {w : World} {S : Nat → Prop} {cs : List Value} {T : HeapD} (h : heapSp.rep w S cs T) : heapSh.rep w S cs T := (fun h => spair_rep (fun h => ints.intsp_rep h) (fun h => spair_rep (fun h => h) (fun h => spair_rep (fun h => h) (fun h => h) h) h) h) h
theorem heapp_shut {w : World} {S : Nat → Prop} {x0 : List Int} {x1 : Int} {x2 : Int} {x3 : Int} {a0 : Option Addr} {c0 : Nat} (h0 : Sh.int.sslice.rep w S [.slice a0 x0.length c0] x0) (h1 : -9223372036854775808 ≤ x1 ∧ x1 ≤ 9223372036854775807) (h2 : -9223372036854775808 ≤ x2 ∧ x2 ≤ 9223372036854775807) (h3 : -9223372036854775808 ≤ x3 ∧ x3 ≤ 9223372036854775807) : heapSp.rep w S [.slice a0 x0.length c0, .int .i64 x1, .int .i64 x2, .int .i64 x3] ((x0, x1, x2, x3)) :=
  ⟨[_], _, S, (fun _ => False), rfl, fun b h => h, fun b h => h.elim, fun b h1 h2 => h2.elim, h0, [_], _, (fun _ => False), (fun _ => False), rfl, fun b h => h.elim, fun b h => h.elim, fun b h => h.elim, ⟨rfl, h1⟩, [_], _, (fun _ => False), (fun _ => False), rfl, fun b h => h.elim, fun b h => h.elim, fun b h => h.elim, ⟨rfl, h2⟩, ⟨rfl, h3⟩⟩
theorem heapp_shutv {w : World} {S : Nat → Prop} {x0 : List Int} {x1 : Int} {x2 : Int} {x3 : Int} {v0 : Value} (h0 : Sh.int.sslice.rep w S [v0] x0) (h1 : -9223372036854775808 ≤ x1 ∧ x1 ≤ 9223372036854775807) (h2 : -9223372036854775808 ≤ x2 ∧ x2 ≤ 9223372036854775807) (h3 : -9223372036854775808 ≤ x3 ∧ x3 ≤ 9223372036854775807) : heapSp.rep w S [v0, .int .i64 x1, .int .i64 x2, .int .i64 x3] ((x0, x1, x2, x3)) :=
  ⟨[_], _, S, (fun _ => False), rfl, fun b h => h, fun b h => h.elim, fun b h1 h2 => h2.elim, h0, [_], _, (fun _ => False), (fun _ => False), rfl, fun b h => h.elim, fun b h => h.elim, fun b h => h.elim, ⟨rfl, h1⟩, [_], _, (fun _ => False), (fun _ => False), rfl, fun b h => h.elim, fun b h => h.elim, fun b h => h.elim, ⟨rfl, h2⟩, ⟨rfl, h3⟩⟩
theorem heapp_open {w : World} {S : Nat → Prop} {cs : List Value} {T : HeapD} (h : heapSp.rep w S cs T) : ∃ x0 a0 c0 x1 x2 x3, T = (x0, x1, x2, x3) ∧ cs = [.slice a0 x0.length c0, .int .i64 x1, .int .i64 x2, .int .i64 x3] ∧ Sh.int.sslice.rep w S [.slice a0 x0.length c0] x0 ∧ (-9223372036854775808 ≤ x1 ∧ x1 ≤ 9223372036854775807) ∧ (-9223372036854775808 ≤ x2 ∧ x2 ≤ 9223372036854775807) ∧ (-9223372036854775808 ≤ x3 ∧ x3 ≤ 9223372036854775807) := by
  obtain ⟨x0, x1, x2, x3⟩ := T
  obtain ⟨_, _, A0, B0, rfl, ua0, ub0, ue0, h0, _, _, A1, B1, rfl, ua1, ub1, ue1, ⟨rfl, h1⟩, _, _, A2, B2, rfl, ua2, ub2, ue2, ⟨rfl, h2⟩, ⟨rfl, h3⟩⟩ := h
  obtain ⟨a0, c0, rfl⟩ := sslice_cells h0
  exact ⟨_, _, _, _, _, _, rfl, rfl, Sh.int.sslice.mono h0 fun b g => ua0 b g, h1, h2, h3⟩

end Go.Proofs.YthpdkjenadngoaaGreatDoor.heap

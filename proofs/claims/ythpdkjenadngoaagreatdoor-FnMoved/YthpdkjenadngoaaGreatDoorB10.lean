/-
  The model's l18Right, at every heap and all roots; nothing that was there is turned.
  What is held while blocks are gone through.
  What the walk of the model's l18Collect stands on.
-/
import Derived.Deep.QuietTactic
import Derived.BigQuiet
import Derived.Test.YthpdkjenadngoaaGreatDoorB1
import Derived.Test.YthpdkjenadngoaaGreatDoorB2
import Derived.Test.YthpdkjenadngoaaGreatDoorB3
import Derived.Test.YthpdkjenadngoaaGreatDoorB4
import Derived.Test.YthpdkjenadngoaaGreatDoorB5
import Derived.Test.YthpdkjenadngoaaGreatDoorB6
import Derived.Test.YthpdkjenadngoaaGreatDoorB7
import Derived.Test.YthpdkjenadngoaaGreatDoorB8
import Derived.Test.YthpdkjenadngoaaGreatDoorB9
namespace Go.Proofs.YthpdkjenadngoaaGreatDoor.heap
open Go Go.RowKit Go.Proofs.YthpdkjenadngoaaGreatDoor.rose Go.Proofs.YthpdkjenadngoaaGreatDoor Go.Proofs.YthpdkjenadngoaaGreatDoor.fun Go.Proofs.YthpdkjenadngoaaGreatDoor.words Go.Proofs.YthpdkjenadngoaaGreatDoor.ints
set_option linter.unusedVariables false
set_option linter.unusedSimpArgs false

set_option maxRecDepth 100000 in
set_option maxHeartbeats 8000000 in
theorem specRight (T : HeapD) (rs : List Int) (cs : List Value) (v : Value) (w : World) (h : heapSh.rep w (· < w.heap.size) cs T) (hv : intsSh.rep w (· < w.heap.size) [v] rs) :
    Calls Tryz.prog 26 #[.agg cs.toArray, v] w fun e w' => e = .returned (.bool (rightB T rs)) ∧ Below w.heap.size w w' := by
  have AH : Hid (∀ w' : World, Below w.heap.size w w' → heapSh.rep w' (· < w'.heap.size) cs T) := fun w' hb => heapSh.mono (heapSh.below h hb) fun b hlt => Nat.lt_of_lt_of_le hlt hb.size
  obtain ⟨W, a0, c0, half, base, next, rfl, rfl, f0, f1, f2, f3⟩ := heap_open h
  obtain ⟨ar, cr, rfl, hcap, hmax, hat⟩ := ints_open hv
  have HA : Hid _ := hat
  have hmx : (rs.length : Int) ≤ 9223372036854775807 := by unfold maxLen at hmax; omega
  obtain ⟨r, hr⟩ : ∃ r, r = rightB (W, half, base, next) rs := ⟨_, rfl⟩
  have HR : Hid (r = rightB (W, half, base, next) rs) := hr
  rw [← hr]
  have BA : Hid (Below w.heap.size w (w.alloc (.cells #[.slice a0 W.length c0, .int .i64 half, .int .i64 base, .int .i64 next] 26))) := (Below.refl _ _).alloc (Nat.le_refl _) _
  have A0 : Hid (ArgK w (w.alloc (.cells #[.slice a0 W.length c0, .int .i64 half, .int .i64 base, .int .i64 next] 26)) [.slice a0 W.length c0, .int .i64 half, .int .i64 base, .int .i64 next] 26) := ArgK.new _ _ _ rfl
  have hcall := specHeapOk (W, half, base, next) _ _ (AH.out _ BA.out)
  clear h hv f0 hr hcap hmax hat f1 f2 f3
  rcases q1 : heapB (W, half, base, next) with _ | _
  · have HF : Hid (r = false) := by show _ = _; rw [HR.out]; exact right_heap q1
    rw [q1] at hcall
    clear q1
    go_enter Tryz.func26, Tryz.ntmps26
    go_wp2_with fail
    refine hcall.mono ?_
    rintro e w1 ⟨rfl, hb⟩
    have A1 := A0.out.on hb
    clear hcall hb
    go_wp2
    go_ret
    exact ⟨ret_b HF.out.symm, A1.bel⟩
  · rw [q1] at hcall
    have Q1 : Hid (heapB (W, half, base, next) = true) := q1
    clear q1
    go_enter Tryz.func26, Tryz.ntmps26
    go_wp2_with fail
    refine hcall.mono ?_
    rintro e w1 ⟨rfl, hb⟩
    have A1 : Hid (ArgK w w1 [.slice a0 W.length c0, .int .i64 half, .int .i64 base, .int .i64 next] 26) := A0.out.on hb
    have hcall2 := specPlacesOf (W, half, base, next) _ w1 (heap_head Q1.out) (AH.out _ A1.out.bel)
    rw [heap_places Q1.out] at hcall2
    have k0 : w1.cell? ⟨w.heap.size, 0, none⟩ = some (.slice a0 W.length c0) := A1.out.cell 0 rfl
    have k1 : w1.cell? ⟨w.heap.size, 1, none⟩ = some (.int .i64 half) := A1.out.cell 1 rfl
    have k2 : w1.cell? ⟨w.heap.size, 2, none⟩ = some (.int .i64 base) := A1.out.cell 2 rfl
    have k3 : w1.cell? ⟨w.heap.size, 3, none⟩ = some (.int .i64 next) := A1.out.cell 3 rfl
    clear hcall hb
    go_wp2_with fail
    refine hcall2.mono ?_
    rintro e w2 ⟨⟨v2, l, rfl, hr2, hl2⟩, hb2⟩
    have hle := hl2 (by first | rfl | trivial)
    have A2 : Hid (Below w.heap.size w w2) := (A1.out.on hb2).bel
    have REP : Hid (intsSh.rep w2 (· < w2.heap.size) [v2] l) := intsSh.mono (intsp_rep hr2.sp) fun q hq => hq.2
    have HLE : Hid (l = (plT (W, half, base, next)).1) := hle
    clear hcall2 hr2 hl2 hb2 hle k0 k1 k2 k3 A1 A0 BA AH
    go_wp2
    go_loopw [7] (fun v7 wr => ∃ i : Nat, i ≤ rs.length ∧ v7 = .int .i64 i ∧ wr = w2 ∧ Hid (∀ j (hj : j < rs.length), j < i → thereB l rs[j] = true)) (fun v7 _ => rs.length - (intOf v7).toNat)
    case atStart => exact ⟨0, Nat.zero_le _, rfl, rfl, fun j _ hj => absurd hj (Nat.not_lt_zero _)⟩
    case round =>
      obtain ⟨i, hi, rfl, hwr, HJ⟩ := hrel
      subst wr
      by_cases hlt : i < rs.length
      · obtain ⟨b', o, rfl, hS, hc, -⟩ := HA.out i hlt
        have e0 : w2.cell? ⟨b', o + i, none⟩ = some (.int .i64 rs[i]) := (A2.out.cell (p := ⟨b', o + i, none⟩) hS).trans hc
        have iI : (i : Int) < (rs.length : Int) := by omega
        clear hc
        rcases q2 : thereB l rs[i] with _ | _
        · have HF : Hid (r = false) := by show _ = _; rw [HR.out]; exact right_root hlt (by rw [← HLE.out]; exact q2)
          have hc3 := there_is v2 w2 q2 REP.out
          generalize rs[i] = y at e0 hc3
          clear q2
          go_wp2_with fail
          refine hc3.mono ?_
          rintro e w3 ⟨rfl, hx⟩
          subst w3
          clear hc3
          go_wp2
          go_ret
          exact ⟨ret_b HF.out.symm, A2.out⟩
        · have HN : Hid (∀ j (hj : j < rs.length), j < i + 1 → thereB l rs[j] = true) := fun j hj h1 => by
            by_cases e : j = i
            · subst e; exact q2
            · exact HJ.out j hj (by omega)
          have hc3 := there_is v2 w2 q2 REP.out
          generalize rs[i] = y at e0 hc3
          clear q2
          go_wp2_with fail
          refine hc3.mono ?_
          rintro e w3 ⟨rfl, hx⟩
          subst w3
          clear hc3
          go_wp2
          go_round
          case rel => exact ⟨i + 1, by omega, by go_num, by first | rfl | trivial, HN⟩
          case measure => simp [intOf]; omega
      · obtain rfl : i = rs.length := by omega
        have HF : Hid (r = true) := by show _ = _; rw [HR.out]; exact right_yes Q1.out fun j hj => by rw [← HLE.out]; exact HJ.out j hj hj
        go_wp2
        go_ret
        exact ⟨ret_b HF.out.symm, A2.out⟩

end Go.Proofs.YthpdkjenadngoaaGreatDoor.heap

namespace Go.Proofs.YthpdkjenadngoaaGreatDoor.heap
open Go Go.RowKit Go.Proofs.YthpdkjenadngoaaGreatDoor.rose Go.Proofs.YthpdkjenadngoaaGreatDoor Go.Proofs.YthpdkjenadngoaaGreatDoor.fun Go.Proofs.YthpdkjenadngoaaGreatDoor.words Go.Proofs.YthpdkjenadngoaaGreatDoor.ints
set_option linter.unusedVariables false
set_option linter.unusedSimpArgs false

theorem getD_in {W : List Int} (h : ∀ x ∈ W, InR x) (p : Nat) : InR (W.getD p 0) := by
  rcases Nat.lt_or_ge p W.length with q | q
  · rw [getD_at q]; exact h _ (List.getElem_mem q)
  · rw [List.getD_eq_getElem?_getD, List.getElem?_eq_none q]; unfold InR; decide
theorem half_in {x : Int} (h : InR x) : InR (x / 2) := by unfold InR at *; omega
/-- The order has grown by one. -/
theorem HK.push {w wr w3 : World} {cs : List Value} {v : Value} {l : List Int} {x : Int} {X : Obj} {a3 : Option Addr} {c3 : Nat} (h : HK w wr cs v l) (hx : InR x) (hX : w.heap.size + 1 ≤ wr.heap.size)
    (o3 : w3.ownsRow (w.heap.size + 1) 3 1 (.slice a3 (l.length + 1) c3) (l.length + 1) (l.map (Value.int .i64) ++ [.int .i64 x])) (g3 : (wr.alloc X).grownBy w3 v.ownBlock) : HK w w3 cs (.slice a3 (l ++ [x]).length c3) (l ++ [x]) := by
  have hl := h.arg.lt
  have hz : (wr.alloc X).heap.size = wr.heap.size + 1 := by simp
  have hs := h.arg.bel.size
  refine ⟨⟨(h.arg.bel.alloc hs _).grown g3 (by omega) (fun k hk => by have := (h.row.lt k hk).1; omega), ?_⟩, irow_push o3 h.row.2 hx⟩
  rw [g3.block w.heap.size (by omega) (fun e => by have := (h.row.lt _ e.symm).1; omega), Below.heap_alloc _ _ _ hl]
  exact h.arg.blk
theorem HK.lt1 {w wr : World} {cs : List Value} {v : Value} {l : List Int} (h : HK w wr cs v l) : w.heap.size + 1 ≤ wr.heap.size := h.arg.lt

end Go.Proofs.YthpdkjenadngoaaGreatDoor.heap

namespace Go.Proofs.YthpdkjenadngoaaGreatDoor.heap
open Go Go.RowKit Go.Deep Go.Proofs.YthpdkjenadngoaaGreatDoor.rose Go.Proofs.YthpdkjenadngoaaGreatDoor Go.Proofs.YthpdkjenadngoaaGreatDoor.fun Go.Proofs.YthpdkjenadngoaaGreatDoor.words Go.Proofs.YthpdkjenadngoaaGreatDoor.ints
set_option linter.unusedVariables false
set_option linter.unusedSimpArgs false

theorem infoC_int : (Tryz.prog.info? 3).map (fun i => (i.zero, i.size, i.bytes)) = some (some (.int .i64 0), 1, 8) := by kernel_rfl
theorem make_zero (n : Nat) (h : n ≤ 6000) (w : World) : (Instr.makeSlice 24 (.int .i64 (n : Int)) (.int .i64 (n : Int))).run Tryz.prog w = .ok (.slice (some ⟨w.heap.size, 0, none⟩) n n)
    (w.alloc (.cells (Array.replicate n (Value.int .i64 0)) 3)) := by
  obtain ⟨i, hi, hzz⟩ := Option.map_eq_some_iff.1 infoC_int
  simp only [Prod.mk.injEq] at hzz
  obtain ⟨hz, hs, hb⟩ := hzz
  have := run_make (P := Tryz.prog) w 24 3 i _ Tryz.underlying24 hi hz .i64 .i64 n n (by omega) (by omega) (by rw [hb]; omega) (by omega)
  have e : madeCells #[Value.int .i64 0] (n * 1) = Array.replicate n (Value.int .i64 0) := by
    apply Array.ext
    · simp [madeCells]
    · intro j h1 h2; simp [madeCells, Nat.mod_one]
  rw [← e]
  simpa [hs, Value.cells] using this
theorem zeros_is (n : Nat) : ((List.replicate n (0 : Int)).map (Value.int .i64)).toArray = Array.replicate n (Value.int .i64 0) := by simp

section
variable {lo : Nat} {w0 wr : World} {g q : Nat} {fw f1 f2 f3 : Value} {half b : Int} {s : CS} {vo vn : Value}
/-- Another row of one's own has grown. -/
theorem MS.other (h : MS lo w0 wr g q fw f1 f2 f3 half b s vo vn) {w3 : World} {X : Obj} {vM : Value} (hM : ∀ k, vM.ownBlock = some k → g < k ∧ vo.ownBlock ≠ some k ∧ vn.ownBlock ≠ some k) (g3 : (wr.alloc X).grownBy w3 vM.ownBlock) : MS lo w0 w3 g q fw f1 f2 f3 half b s vo vn := by
  have ho := h.ord
  have hg := h.lt
  have hZ : (wr.alloc X).heap.size = wr.heap.size + 1 := by simp
  have oth : ∀ k, k < wr.heap.size → vM.ownBlock ≠ some k → w3.heap[k]? = wr.heap[k]? := fun k h1 h2 => (g3.block k (by omega) (fun e => h2 e.symm)).trans (Below.heap_alloc _ _ _ h1)
  refine ⟨(h.bel.alloc (by have := h.bel.size; omega) _).grown g3 (by omega) (fun k hk => by have := (hM k hk).1; omega), ho, (oth g hg fun e => by have := (hM g e).1; omega).trans h.blk, (oth q (by omega) fun e => by have := (hM q e).1; omega).trans h.tw, irow_sameM h.ro fun k hk => oth k (h.ro.lt k hk).2 fun e => (hM k e).2.1 hk, irow_sameM h.rn fun k hk => oth k (h.rn.lt k hk).2 fun e => (hM k e).2.2 hk, h.ap⟩
end
/-- The roots that were moved. -/
structure RM (wr : World) (g : Nat) (vM vo vn : Value) (M : List Int) : Prop where
  row : IRow wr (g + 1) vM M
  ap : ∀ k, vM.ownBlock = some k → vo.ownBlock ≠ some k ∧ vn.ownBlock ≠ some k
theorem RM.left {wr w' : World} {g q : Nat} {vM vo vn vo' vn' : Value} {M : List Int} (h : RM wr g vM vo vn M) (hq : q < g) (hl : Left wr w' g q vo vn vo' vn') : RM w' g vM vo' vn' M := by
  have key : ∀ k, vM.ownBlock = some k → w'.heap[k]? = wr.heap[k]? ∧ vo'.ownBlock ≠ some k ∧ vn'.ownBlock ≠ some k := fun k hk => by
    have h1 := h.row.lt k hk
    exact hl.same k h1.2 (by omega) (by omega) (h.ap k hk).1 (h.ap k hk).2
  exact ⟨irow_sameM h.row fun k hk => (key k hk).1, fun k hk => (key k hk).2⟩
theorem mv_pre (W : List Int) (s : CS) (x : Int) : ∃ X, (mvF W s x).1.2.2.1 = s.2.2.1 ++ X := by
  by_cases h1 : x % 2 = 0
  · by_cases h2 : x / 2 ∈ s.2.2.1
    · rw [mv_old h1 h2]; exact ⟨[], by simp⟩
    · rw [mv_new h1 h2]; exact ⟨[x / 2], rfl⟩
  · rw [mv_odd h1]; exact ⟨[], by simp⟩
theorem scanC_end {W : List Int} {f p : Nat} {s : CS} (h : s.2.1 ≤ p) : scanC W f p s = s := by
  cases f with
  | zero => rfl
  | succ f => rw [scanC, if_neg (by omega)]
theorem scanC_more {W : List Int} {f p : Nat} {s : CS} (h : p < s.2.1) : scanC W (f + 1) p s = scanC W f (p + 1 + (manyF (s.1.getD p 0)).toNat) (scanK W p (manyF (s.1.getD p 0)).toNat 1 s) := by rw [scanC, if_pos h]
theorem CI.lenO {T : HeapD} {k j : Nat} {s : CS} (h : CI T k j s) (hb : heapB T = true) : s.2.2.1.length ≤ T.1.length ∧ s.2.2.1.length ≤ 6000 := by
  have h1 := h.inv.len
  have h2 := places_len hb
  omega

end Go.Proofs.YthpdkjenadngoaaGreatDoor.heap

/-
  The law's look at the marks in slices of Value: where they are what was marked, it tells how far it came; nothing that was there is turned.
-/
import Derived.Test.YtdfpihnddclccaaValueMark
import Derived.Deep.RegionWith
namespace Go.Proofs.Ytdfpihnddclccaa.value
open Go.RowKit Go.Proofs.Ytdfpihnddclccaa.rose Go.Proofs.Ytdfpihnddclccaa
set_option linter.unusedVariables false

def HeldSays (ks : List ValueD) : Prop := ∀ (v : Value) (w : World) (k : Int), 1 ≤ k → k + (cnts ks : Nat) ≤ 1152921504606846976 → valueSh.slice.rep w (· < w.heap.size) [v] (mks k ks) →
  Calls Try.prog 21 #[v, .int .i64 k] w fun e w' => e = .returned (.int .i64 (k + (cnts ks : Nat))) ∧ Below w.heap.size w w'

set_option maxRecDepth 100000 in
set_option maxHeartbeats 4000000 in
theorem held_of (ks : List ValueD) (ih : ∀ t ∈ ks, HeldSays t.kids) : HeldSays ks := by
  intro v w k hk1 hk2 h
  obtain ⟨a, cap, css, rfl, hcap, hmax, hrow, hk⟩ := values_open h
  rw [mks_length] at hcap hrow ⊢
  have hmx : (ks.length : Int) ≤ 9223372036854775807 := by unfold maxLen at hmax; omega
  have IH : Hid (∀ t ∈ ks, HeldSays t.kids) := ih
  have HR : Hid (RowAt w (· < w.heap.size) 4 a ks.length css ∧ ∀ i (h : i < ks.length), valueSh.rep w (· < w.heap.size) (css i) (mk (k + (cnts (ks.take i) : Nat)) ks[i])) := ⟨hrow, fun i h => by have := hk i (by rw [mks_length]; exact h); rwa [mks_get h] at this⟩
  have HK : Hid (k + (cnts ks : Nat) ≤ 1152921504606846976) := hk2
  clear h hcap hmax hrow hk hk2 ih
  go_enter Try.func21, Try.ntmps21
  go_wp2
  go_loopw [1, 5] (fun v1 v5 wr => ∃ (i : Nat), i ≤ ks.length ∧ v5 = .int .i64 i ∧ v1 = .int .i64 (k + (cnts (ks.take i) : Nat)) ∧ Hid (Below w.heap.size w wr)) (fun _ v5 _ => ks.length - (intOf v5).toNat)
  case atStart => exact ⟨0, Nat.zero_le _, rfl, by simp [cnts], Below.refl _ _⟩
  case round =>
    obtain ⟨i, hi, rfl, rfl, HB0⟩ := hrel
    by_cases hlt : i < ks.length
    · obtain ⟨b, o, rfl, hS, hc⟩ := HR.out.1 i hlt
      have hrep := HR.out.2 i hlt
      have W1 : Hid (cnts (ks.take (i + 1)) = cnts (ks.take i) + cnt ks[i]) := cnts_take hlt
      have W2 : Hid (cnts (ks.take (i + 1)) ≤ cnts ks) := cnts_take_le ks (i + 1)
      obtain ⟨k1, hk⟩ : ∃ k1 : Int, k1 = k + (cnts (ks.take i) : Nat) := ⟨_, rfl⟩
      have HK1 : Hid (k1 = k + (cnts (ks.take i) : Nat)) := hk
      rw [← hk] at hrep ⊢
      have IHk := IH.out ks[i] (List.getElem_mem hlt)
      generalize ks[i] = T at W1 hrep IHk
      obtain ⟨⟨x0, x1, x2⟩, x3⟩ := T
      rw [mk_eq] at hrep
      obtain ⟨y0, y1, y2, y3, ba3, bc3, hT, hcs, f0, f1, f2, f3⟩ := value_open hrep
      cases hT
      rw [hcs] at hc
      have ce0_0 : wr.cell? ⟨b, o + i * 4, none⟩ = some (.int .i64 k1) := (HB0.out.cell (p := ⟨b, o + i * 4, none⟩) hS).trans (hc 0 _ rfl)
      have ce0_1 : wr.cell? ⟨b, o + i * 4 + 1, none⟩ = some (.int .i64 (k1 + 1)) := (HB0.out.cell (p := ⟨b, o + i * 4 + 1, none⟩) hS).trans (hc 1 _ rfl)
      have ce0_2 : wr.cell? ⟨b, o + i * 4 + 2, none⟩ = some (.string (mark.txt (k1 + 1 + 1))) := (HB0.out.cell (p := ⟨b, o + i * 4 + 2, none⟩) hS).trans (hc 2 _ rfl)
      have ce0_3 : wr.cell? ⟨b, o + i * 4 + 3, none⟩ = some (.slice ba3 (mks (k1 + 1 + 1 + 1) x3).length bc3) := (HB0.out.cell (p := ⟨b, o + i * 4 + 3, none⟩) hS).trans (hc 3 _ rfl)
      have W3 : Hid (cnt (.mk (x0, x1, x2) x3) = 3 + (cnts x3)) := by show _ = _; simp [cnt]
      have hb1 : 1 ≤ k1 := by omega
      have hb2 : k1 + 3 + (cnts x3 : Nat) ≤ 1152921504606846976 := by have := W1.out; have := W2.out; have := W3.out; have := HK.out; omega
      have IHK : Hid (HeldSays x3) := IHk
      have R_3 : Hid (valueSh.slice.rep w (· < w.heap.size) [.slice ba3 (mks (k1 + 1 + 1 + 1) x3).length bc3] (mks (k1 + 1 + 1 + 1) x3)) := f3
      have z0 : b < wr.heap.size := Nat.lt_of_lt_of_le hS HB0.out.size
      clear hk hrep hcs hc hS IHk f0 f1 f2 f3
      go_wp2
      have hcall := mark.text_any (k1 + 1 + 1) (by omega) (by omega) wr.drew
      go_region_with (go_at_call 23; refine hcall.mono ?_; rintro e w1 ⟨rfl, hb⟩; have ce1_2 := (hb.cell (p := ⟨b, o + i * 4 + 2, none⟩) z0).trans ce0_2; have ce1_3 := (hb.cell (p := ⟨b, o + i * 4 + 3, none⟩) z0).trans ce0_3; have z1 := Nat.lt_of_lt_of_le z0 hb.size; have HB1 : Hid (Below w.heap.size w w1) := HB0.out.drew.trans (hb.mono HB0.out.size))
      all_goals
        clear hb hcall HB0 z0 ce0_0 ce0_1 ce0_2 ce0_3
        have hcall := IHK.out _ w1 (k1 + 1 + 1 + 1) (by omega) (by omega) (valueSh.slice.mono (valueSh.slice.below R_3.out HB1.out) fun q hq => Nat.lt_of_lt_of_le hq HB1.out.size)
        have tt3 : decide (k1 + 1 + 1 + 1 + (cnts x3 : Nat) < 0) = false := by simp; omega
        go_wp2_with fail
        refine hcall.mono ?_
        rintro e w2 ⟨rfl, hb⟩
        have HB2 : Hid (Below w.heap.size w w2) := HB1.out.trans (hb.mono HB1.out.size)
        have z2 := Nat.lt_of_lt_of_le z1 hb.size
        clear hb hcall HB1 z1 ce1_2 ce1_3
        have hx : k1 + 1 + 1 + 1 + (cnts x3 : Nat) = k + (cnts (ks.take (i + 1)) : Nat) := by have := W1.out; have := W3.out; have := HK1.out; omega
        go_wp2
        go_round
        case rel => exact ⟨i + 1, by omega, by go_num, by first | rfl | rw [hx], HB2⟩
        case measure => simp [intOf]; omega
    · obtain rfl : i = ks.length := by omega
      go_wp2
      go_ret
      exact ⟨by rw [List.take_length]; rfl, HB0.out⟩

theorem held_any (T : ValueD) : HeldSays T.kids := by
  induction T using ind with
  | h x ks ih => exact held_of ks fun t ht => ih t ht
theorem heldS_any (ks : List ValueD) : HeldSays ks := held_of ks fun t _ => held_any t


end Go.Proofs.Ytdfpihnddclccaa.value

/-
  The program's Verify, at every list of functions; nothing that was there is turned. Of no function it is true.
  The program's Verify at every list of functions, of none too; IntWord of 0, which leaves the world as it was; nothing that was there is turned.
-/
import Derived.Test.YtjibmpebebephaaGreatDoorC1
import Derived.Test.YtjibmpebebephaaGreatDoorC2
import Derived.Test.YtjibmpebebephaaGreatDoorC3
import Derived.Test.YtjibmpebebephaaGreatDoorC4
import Derived.Test.YtjibmpebebephaaGreatDoorC5
import Derived.Test.YtjibmpebebephaaGreatDoorC6
import Derived.Test.YtjibmpebebephaaGreatDoorC7
import Derived.Test.YtjibmpebebephaaGreatDoorC8
import Derived.Test.YtjibmpebebephaaGreatDoorC9
import Derived.Test.YtjibmpebebephaaGreatDoorC10
import Derived.Test.YtjibmpebebephaaGreatDoorC11
import Derived.Test.YtjibmpebebephaaGreatDoorC12
import Derived.Test.YtjibmpebebephaaGreatDoorC13
import Derived.Test.YtjibmpebebephaaGreatDoorC14
import Derived.Test.YtjibmpebebephaaGreatDoorC15
import Derived.Test.YtjibmpebebephaaGreatDoorC16
import Derived.Test.YtjibmpebebephaaGreatDoorC17
import Derived.Test.YtjibmpebebephaaGreatDoorC18
import Derived.Test.YtjibmpebebephaaGreatDoorC19
import Derived.Test.YtjibmpebebephaaGreatDoorC20
import Derived.Test.YtjibmpebebephaaGreatDoorC21
import Derived.Test.YtjibmpebebephaaGreatDoorC22
import Derived.Test.YtjibmpebebephaaGreatDoorC23
import Derived.Test.YtjibmpebebephaaGreatDoorC24
import Derived.Test.YtjibmpebebephaaGreatDoorC25
import Derived.Test.YtjibmpebebephaaGreatDoorC26
import Derived.Test.YtjibmpebebephaaGreatDoorC27
import Derived.Test.YtjibmpebebephaaGreatDoorC28
import Derived.Test.YtjibmpebebephaaGreatDoorC29
import Derived.Test.YtjibmpebebephaaGreatDoorC30
import Derived.Test.YtjibmpebebephaaGreatDoorC31
import Derived.Test.YtjibmpebebephaaGreatDoorC32
import Derived.Test.YtjibmpebebephaaGreatDoorC33
namespace Go.Proofs.YtjibmpebebephaaGreatDoor.fun
open Go Go.RowKit Go.Deep Go.Proofs.YtjibmpebebephaaGreatDoor.rose Go.Proofs.YtjibmpebebephaaGreatDoor Go.Proofs.YtjibmpebebephaaGreatDoor.ints
set_option linter.unusedVariables false
set_option linter.unusedSimpArgs false

theorem ret_boolVI {a b : Bool} (h : a = b) : Ending.returned (.bool a) = Ending.returned (.bool b) := by rw [h]

set_option maxRecDepth 100000 in
set_option maxHeartbeats 8000000 in
theorem implVerify (ks : List FunD) (v : Value) (w : World) (hw : ks.length + wts ks ≤ 1048576) (h0 : 0 < ks.length) (hN : Names w) (h : funSh.slice.rep w (· < w.heap.size) [v] ks) :
    Calls Tryz.prog 45 #[v] w fun e w' => e = .returned (.bool (verifyF ks)) ∧ Below w.heap.size w w' := by
  obtain ⟨a, cap, css, rfl, hcap, hmax, hrow, hk⟩ := funs_open h
  have HR : Hid (RowAt w (· < w.heap.size) 2 a ks.length css ∧ ∀ i (h : i < ks.length), funSh.rep w (· < w.heap.size) (css i) ks[i]) := ⟨hrow, hk⟩
  have hmx : (ks.length : Int) ≤ 9223372036854775807 := by omega
  have hcall := implFunsOk ks _ w hw hN h
  have h0I : decide ((0 : Int) < (ks.length : Int)) = true := by simp; omega
  have h0N : decide (0 < ks.length) = true := by simp; omega
  obtain ⟨q, hq⟩ : ∃ q, q = verifyF ks := ⟨_, rfl⟩
  rw [← hq]
  have HQ : Hid (q = verifyF ks) := hq
  have H0 : Hid (0 < ks.length) := h0
  clear h hcap hmax hrow hk hw hq h0
  rcases q1 : funsB ks with _ | _
  · have HF : Hid (q = false) := by show _ = _; rw [HQ.out]; unfold verifyF; rw [q1]; rfl
    rw [q1] at hcall
    clear q1
    go_enter Tryz.func45, Tryz.ntmps45
    go_wp2_with fail
    refine hcall.mono ?_
    rintro e w1 ⟨rfl, hb⟩
    clear hcall
    go_wp2
    go_ret
    exact ⟨ret_boolVI HF.out.symm, hb⟩
  · rw [q1] at hcall
    have Q1 : Hid (funsB ks = true) := q1
    clear q1
    go_enter Tryz.func45, Tryz.ntmps45
    go_wp2_with fail
    refine hcall.mono ?_
    rintro e w1 ⟨rfl, hb⟩
    have B1 : Hid (Below w.heap.size w w1) := hb
    clear hcall hb
    go_wp2
    go_loopw [4, 5, 6, 17] (fun v4 v5 v6 v17 wr => ∃ i : Nat, i ≤ ks.length ∧ v17 = .int .i64 i ∧ Hid (∀ j, j < i → (depthsF ks (j : Int)).2 = true) ∧ Hid (Below w.heap.size w wr)) (fun _ _ _ v17 _ => ks.length - (intOf v17).toNat)
    case atStart => exact ⟨0, Nat.zero_le _, rfl, fun j hj => absurd hj (Nat.not_lt_zero _), B1⟩
    case round =>
      clear B1
      obtain ⟨i, hi, rfl, HA, HB⟩ := hrel
      by_cases hlt : i < ks.length
      · obtain ⟨b, o, rfl, hS, hc⟩ := HR.out.1 i hlt
        obtain ⟨y0, os, a2, c2, hT, hcs, g0, hrep⟩ := fun_open (HR.out.2 i hlt)
        rw [hcs] at hc
        have e0 : wr.cell? ⟨b, o + i * 2, none⟩ = some (.int .i64 y0) := (HB.out.cell (p := ⟨b, o + i * 2, none⟩) hS).trans (hc 0 _ rfl)
        have e1 : wr.cell? ⟨b, o + i * 2 + 1, none⟩ = some (.slice a2 os.length c2) := (HB.out.cell (p := ⟨b, o + i * 2 + 1, none⟩) hS).trans (hc 1 _ rfl)
        have HE := funsB_each Q1.out hlt
        have hos : ks[i].2 = os := by rw [hT]
        have iI : (i : Int) < (ks.length : Int) := by omega
        have iI0 : (0 : Int) ≤ (i : Int) := by omega
        obtain ⟨r, hr⟩ : ∃ r, r = depthsF ks (i : Int) := ⟨_, rfl⟩
        have HBAD : ¬ Good os → r = ([], false) := fun hg => by rw [hr]; exact depthsF_bad hlt (by rw [hos]; exact hg)
        have HGOOD : Good os → r = (dOf os, true) := fun hg => by rw [hr, depthsF_good hlt Q1.out (by rw [hos]; exact hg), hos]
        have HL : 1 ≤ os.length ∧ os.length ≤ 3000 := by have := funB_len HE; rw [hos] at this; exact this
        have HIN : ∀ (b : Nat) (hb : b < os.length), ∀ s ∈ leads b os[b], 0 ≤ s ∧ s < os.length := fun b hb => by
          have := leads_in HE (a := b) (by rw [hos]; exact hb)
          simpa only [hos] using this
        have HTK : ∀ (b : Nat) (hb : b < os.length), 0 ≤ takesB os[b].1 os[b].2.2 ∧ takesB os[b].1 os[b].2.2 ≤ 20 := fun b hb => by
          have := takes_pos (free_in Q1.out) (funB_op HE (b := b) (by rw [hos]; exact hb))
          simpa only [hos] using this
        obtain ⟨wk, hwk⟩ : ∃ wk, wk = wr.alloc (.cells #[.int .i64 y0, .slice a2 os.length c2] 60) := ⟨_, rfl⟩
        have BK : Below wr.heap.size wr wk := by rw [hwk]; exact (Below.refl _ _).alloc (Nat.le_refl _) _
        have BW : Hid (Below w.heap.size w wk) := HB.out.trans (BK.mono HB.out.size)
        have hcall2 := depthsOf_any os a2 c2 wk r HL HIN HTK HBAD HGOOD (op.opSh.slice.mono (op.opSh.slice.below hrep BW.out) fun b hlt => Nat.lt_of_lt_of_le hlt BW.out.size)
        have HRD : Hid (r = depthsF ks (i : Int)) := hr
        rw [hwk] at hcall2
        have HWK : Hid (wk = wr.alloc (.cells #[.int .i64 y0, .slice a2 os.length c2] 60)) := hwk
        clear hc hcs hT hrep HE hos HBAD HGOOD HL HIN HTK hr BK hwk
        go_wp2_with fail
        refine hcall2.mono ?_
        rintro e w2 ⟨⟨v2, rfl, -⟩, hb2⟩
        rw [← HWK.out] at hb2
        have B2 : Hid (Below w.heap.size w w2) := BW.out.trans (hb2.mono BW.out.size)
        clear hcall2 hb2 e0 e1
        rcases q4 : r.2 with _ | _
        · have HQ2 : Hid (q = false) := by show _ = _; rw [HQ.out]; exact verifyF_no hlt (by rw [← HRD.out]; exact q4)
          go_wp2
          go_ret
          exact ⟨ret_boolVI HQ2.out.symm, B2.out⟩
        · have HA3 : Hid (∀ j, j < i + 1 → (depthsF ks (j : Int)).2 = true) := fun j h1 => by
            by_cases e : j = i
            · subst e; rw [← HRD.out]; exact q4
            · exact HA.out j (by omega)
          go_wp2
          go_round
          case rel => exact ⟨i + 1, by omega, by go_num, HA3, B2⟩
          case measure => simp [intOf]; omega
      · obtain rfl : i = ks.length := by omega
        have HQ2 : Hid (q = true) := by show _ = _; rw [HQ.out, verifyF_yes HA.out]; exact Q1.out
        go_wp2
        go_ret
        exact ⟨ret_boolVI HQ2.out.symm, HB.out⟩

end Go.Proofs.YtjibmpebebephaaGreatDoor.fun

namespace Go.Proofs.YtjibmpebebephaaGreatDoor.vm
open Go Go.RowKit Go.Deep Go.Proofs.YtjibmpebebephaaGreatDoor.rose Go.Proofs.YtjibmpebebephaaGreatDoor Go.Proofs.YtjibmpebebephaaGreatDoor.fun Go.Proofs.YtjibmpebebephaaGreatDoor.heap
set_option linter.unusedVariables false
set_option linter.unusedSimpArgs false

set_option maxRecDepth 100000 in
set_option maxHeartbeats 8000000 in
theorem implVerifyAll (ks : List FunD) (v : Value) (w : World) (hw : ks.length + wts ks ≤ 1048576) (hN : Names w) (h : funSh.slice.rep w (· < w.heap.size) [v] ks) :
    Calls Tryz.prog 45 #[v] w fun e w' => e = .returned (.bool (ks.isEmpty || verifyF ks)) ∧ Below w.heap.size w w' := by
  rcases ks with _ | ⟨k, l⟩
  · obtain ⟨a, cap, css, rfl, hcap, hmax, hrow, hk⟩ := funs_open h
    simp only [List.length_nil]
    clear h hcap hmax hrow hk hw hN
    have B0 : Hid (Below w.heap.size w w) := Below.refl _ _
    go_enter Tryz.func45, Tryz.ntmps45
    go_wp2
    go_loopw [4, 5, 6, 17] (fun v4 v5 v6 v17 wr => v17 = .int .i64 0 ∧ Hid (Below w.heap.size w wr)) (fun _ _ _ _ _ => 0)
    case atStart => exact ⟨rfl, B0⟩
    case round =>
      clear B0
      obtain ⟨rfl, HB⟩ := hrel
      go_wp2
      go_ret
      exact ⟨rfl, HB.out⟩
  · exact implVerify (k :: l) v w hw (Nat.succ_pos _) hN h

set_option maxHeartbeats 1000000 in
theorem intWord0 (w : World) : Calls Tryz.prog 44 #[.int .i64 0] w fun e w' => e = .returned (.int .i64 1) ∧ w' = w := by
  go_enter Tryz.func44, Tryz.ntmps44
  go_wp2_with (go_at_call 66; refine (wordI_is (n := 0) (b := true) rfl).mono ?_; rintro e w' ⟨rfl, hx⟩; subst w')
  go_ret
  exact ⟨rfl, rfl⟩

theorem noI {ks : List FunD} {n : Int} {each : Bool} (h : (ks.isEmpty || verifyF ks) = false) : newV ks n each = (zeroM, false) := new_no2 (by
  simp only [Bool.or_eq_false_iff] at h
  exact h.2)
theorem yesI {ks : List FunD} {n : Int} {each : Bool} (h2 : (ks.isEmpty || verifyF ks) = true) (h3 : vmB (newM ks n each) = true) : newV ks n each = (newM ks n each, true) ∧ funsB ks = true := by
  have hn : (newF n).2 = true := by
    rcases q : (newF n).2 with _ | _
    · rw [new_half q] at h3; cases h3
    · rfl
  have hf : funsB ks = true := by
    unfold vmB newM at h3
    simp only [Bool.and_eq_true] at h3
    exact h3.1.1.1.1.1
  have hv : verifyF ks = true := by
    rcases ks with _ | ⟨k, l⟩
    · rw [funsB_len (ks := []) rfl] at hf; cases hf
    · simpa using h2
  exact ⟨new_yes hn hv h3, hf⟩

end Go.Proofs.YtjibmpebebephaaGreatDoor.vm

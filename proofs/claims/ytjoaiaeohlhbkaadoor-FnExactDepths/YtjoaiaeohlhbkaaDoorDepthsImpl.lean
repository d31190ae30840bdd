/-
  The program's Depths, at every list of functions; nothing that was there is turned.
-/
import Derived.Test.YtjoaiaeohlhbkaaDoorDepthsRun
import Derived.Test.YtjoaiaeohlhbkaaDoorFunsImpl
import Derived.Test.YtjoaiaeohlhbkaaDoorIsBelow
namespace Go.Proofs.YtjoaiaeohlhbkaaDoor.fun
open Go Go.RowKit Go.Deep Go.Proofs.YtjoaiaeohlhbkaaDoor.rose Go.Proofs.YtjoaiaeohlhbkaaDoor Go.Proofs.YtjoaiaeohlhbkaaDoor.ints
set_option linter.unusedVariables false
set_option linter.unusedSimpArgs false

theorem funsB_each {ks : List FunD} (h : funsB ks = true) {j : Nat} (hj : j < ks.length) : funB ks j ks[j] = true := by
  unfold funsB at h
  simp only [Bool.and_eq_true] at h
  have h2 := List.all_eq_true.1 h.2 j (List.mem_range.2 hj)
  rw [List.getElem?_eq_getElem hj] at h2
  exact h2
theorem funB_len {ks : List FunD} {i : Nat} {k : FunD} (h : funB ks i k = true) : 1 ≤ k.2.length ∧ k.2.length ≤ 3000 := by
  unfold funB at h
  simp only [Bool.and_eq_true] at h
  have := inB_yes h.1.1.2
  omega
theorem funB_free {ks : List FunD} {i : Nat} {k : FunD} (h : funB ks i k = true) : 0 ≤ k.1 ∧ k.1 ≤ 20 := by
  unfold funB at h
  simp only [Bool.and_eq_true] at h
  exact inB_yes h.1.1.1
theorem funB_op {ks : List FunD} {i : Nat} {k : FunD} (h : funB ks i k = true) {b : Nat} (hb : b < k.2.length) : opB ks i k k.2[b].1 k.2[b].2.1 k.2[b].2.2 = true := by
  unfold funB at h
  simp only [Bool.and_eq_true] at h
  exact List.all_eq_true.1 h.1.2 _ (List.getElem_mem hb)
theorem free_in {ks : List FunD} (h : funsB ks = true) (n : Int) : 0 ≤ freeAt ks n ∧ freeAt ks n ≤ 20 := by
  unfold freeAt
  rcases Nat.lt_or_ge n.toNat ks.length with q | q
  · rw [List.getElem?_eq_getElem q]
    exact funB_free (funsB_each h q)
  · rw [List.getElem?_eq_none q]; decide

set_option maxRecDepth 100000 in
set_option maxHeartbeats 8000000 in
theorem implDepths (ks : List FunD) (i : Int) (v : Value) (w : World) (hw : ks.length + wts ks ≤ 1048576) (hi : InR i) (hN : Names w) (h : funSh.slice.rep w (· < w.heap.size) [v] ks) :
    Calls Tryd.prog 7 #[v, .int .i64 i] w fun e w' => (∃ v', e = .returned (.tuple #[v', .bool (depthsF ks i).2]) ∧ IRow w' w.heap.size v' (depthsF ks i).1) ∧ Below w.heap.size w w' := by
  obtain ⟨a, cap, css, rfl, hcap, hmax, hrow, hk⟩ := funs_open h
  have HR : Hid (RowAt w (· < w.heap.size) 2 a ks.length css ∧ ∀ i (h : i < ks.length), funSh.rep w (· < w.heap.size) (css i) ks[i]) := ⟨hrow, hk⟩
  have hmx : (ks.length : Int) ≤ 9223372036854775807 := by omega
  have hcall := implFunsOk ks _ w hw hN h
  have hi1 : -9223372036854775808 ≤ i := hi.1
  have hi2 : i ≤ 9223372036854775807 := hi.2
  obtain ⟨r, hr⟩ : ∃ r, r = depthsF ks i := ⟨_, rfl⟩
  rw [← hr]
  have HQ : Hid (r = depthsF ks i) := hr
  clear h hcap hmax hrow hk hw hr hi
  rcases q1 : funsB ks with _ | _
  · have HF : Hid (r = ([], false)) := by show _ = _; rw [HQ.out]; exact depthsF_off (.inl q1)
    rw [q1] at hcall
    clear q1
    go_enter Tryd.func7, Tryd.ntmps7
    go_wp2_with fail
    refine hcall.mono ?_
    rintro e w1 ⟨rfl, hb⟩
    clear hcall
    go_wp2
    go_ret2
    rw [HF.out]
    exact ⟨⟨_, rfl, IRow.nil _ _⟩, hb⟩
  · rw [q1] at hcall
    have Q1 : Hid (funsB ks = true) := q1
    clear q1
    rcases q2 : inB i 0 ((ks.length : Int) - 1) with _ | _
    · have HF : Hid (r = ([], false)) := by
        show _ = _; rw [HQ.out]
        have := inB_no q2
        exact depthsF_off (by omega)
      go_enter Tryd.func7, Tryd.ntmps7
      go_wp2_with fail
      refine hcall.mono ?_
      rintro e w1 ⟨rfl, hb⟩
      clear hcall
      go_wp2_with (go_at_call 20; refine (bel_is q2 (by omega)).mono ?_; rintro e w' ⟨rfl, hx⟩; subst w')
      go_ret2
      rw [HF.out]
      exact ⟨⟨_, rfl, IRow.nil _ _⟩, hb⟩
    · have q3 := inB_yes q2
      obtain ⟨ii, rfl⟩ : ∃ ii : Nat, i = ii := ⟨i.toNat, by omega⟩
      have hlt : ii < ks.length := by omega
      have hltI : (ii : Int) < (ks.length : Int) := by omega
      obtain ⟨b, o, rfl, hS, hc⟩ := HR.out.1 ii hlt
      obtain ⟨y0, os, a2, c2, hT, hcs, g0, hrep⟩ := fun_open (HR.out.2 ii hlt)
      rw [hcs] at hc
      have d1 : w.cell? ⟨b, o + ii * 2 + 1, none⟩ = some (.slice a2 os.length c2) := hc 1 _ rfl
      have HE := funsB_each Q1.out hlt
      have hos : ks[ii].2 = os := by rw [hT]
      have HOS : Hid (op.opSh.slice.rep w (· < w.heap.size) [.slice a2 os.length c2] os) := hrep
      have HBAD : Hid (¬ Good os → r = ([], false)) := fun hg => by rw [HQ.out]; exact depthsF_bad hlt (by rw [hos]; exact hg)
      have HGOOD : Hid (Good os → r = (dOf os, true)) := fun hg => by rw [HQ.out, depthsF_good hlt Q1.out (by rw [hos]; exact hg), hos]
      have HL : Hid (1 ≤ os.length ∧ os.length ≤ 3000) := by have := funB_len HE; rw [hos] at this; exact this
      have HIN : Hid (∀ (b : Nat) (hb : b < os.length), ∀ s ∈ leads b os[b], 0 ≤ s ∧ s < os.length) := fun b hb => by
        have := leads_in HE (a := b) (by rw [hos]; exact hb)
        simpa only [hos] using this
      have HTK : Hid (∀ (b : Nat) (hb : b < os.length), 0 ≤ takesB os[b].1 os[b].2.2 ∧ takesB os[b].1 os[b].2.2 ≤ 20) := fun b hb => by
        have := takes_pos (free_in Q1.out) (funB_op HE (b := b) (by rw [hos]; exact hb))
        simpa only [hos] using this
      have HD : Hid (b < w.heap.size ∧ w.cell? ⟨b, o + ii * 2 + 1, none⟩ = some (.slice a2 os.length c2)) := ⟨hS, d1⟩
      clear hc hcs hT hrep HE hos d1 q3 hi1 hi2
      go_enter Tryd.func7, Tryd.ntmps7
      go_wp2_with fail
      refine hcall.mono ?_
      rintro e w1 ⟨rfl, hb⟩
      have B1 : Hid (Below w.heap.size w w1) := hb
      have e1 : w1.cell? ⟨b, o + ii * 2 + 1, none⟩ = some (.slice a2 os.length c2) := (hb.cell (p := ⟨b, o + ii * 2 + 1, none⟩) HD.out.1).trans HD.out.2
      have hcall2 := depthsOf_any os a2 c2 w1 r HL.out HIN.out HTK.out HBAD.out HGOOD.out (op.opSh.slice.mono (op.opSh.slice.below HOS.out hb) fun b hlt => Nat.lt_of_lt_of_le hlt hb.size)
      clear hcall hb
      go_wp2_with (first
        | (go_at_call 20; refine (bel_is q2 (by omega)).mono ?_; rintro e w' ⟨rfl, hx⟩; subst w')
        | (go_at_call 21; refine hcall2.mono ?_; rintro e w2 ⟨⟨v2, rfl, hr2⟩, hb2⟩))
      go_ret2
      exact ⟨⟨_, rfl, own_base hr2.1 B1.out.size, hr2.2⟩, B1.out.trans (hb2.mono B1.out.size)⟩

end Go.Proofs.YtjoaiaeohlhbkaaDoor.fun

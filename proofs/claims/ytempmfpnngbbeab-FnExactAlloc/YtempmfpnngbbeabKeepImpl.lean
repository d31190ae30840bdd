/-
  A heap at work looks at the kids of the block that is put next (mayKeep).
-/
import Derived.Test.YtempmfpnngbbeabRoomImpl
namespace Go.Proofs.Ytempmfpnngbbeab.heap
open Go Go.RowKit Go.Proofs.Ytempmfpnngbbeab.rose Go.Proofs.Ytempmfpnngbbeab Go.Proofs.Ytempmfpnngbbeab.fun Go.Proofs.Ytempmfpnngbbeab.words Go.Proofs.Ytempmfpnngbbeab.ints
set_option linter.unusedVariables false
set_option linter.unusedSimpArgs false

/-- Whether a kid is right, the new block's own place among the places. -/
def keepB (base next : Nat) (M : List Bool) (x : Int) : Bool := kidM base next M x || decide (x = 2 * (next : Int))

theorem refWord_same (n : Nat) (w : World) (h : n ≤ 6000) : Calls Try.prog 65 #[.int .i64 n] w fun e w' => e = .returned (.int .i64 (2 * (n : Int))) ∧ w' = w := by
  have t1 : decide ((n : Int) < 0) = false := decide_eq_false (by omega)
  have t2 : decide ((6000 : Int) < (n : Int)) = false := decide_eq_false (by omega)
  go_enter Try.func65, Try.ntmps65
  go_wp2
  go_ret
  exact ⟨rfl, rfl⟩

set_option maxRecDepth 100000 in
set_option maxHeartbeats 4000000 in
theorem mayKeep_is {B hb hm : Nat} {wv : Value} {W : List Int} {half base next : Nat} {lk : Int} {M : List Bool} {w : World} (h : HH B hb hm wv W half base next lk M w) (ak : Option Addr) (ck : Nat) (kids : List Int) (S : Nat → Prop) (hk : intsSh.rep w S [.slice ak kids.length ck] kids) :
    Calls Try.prog 54 #[.pointer (some ⟨hb, 0, none⟩), .slice ak kids.length ck] w fun e w' => e = .returned (.bool (kids.all (keepB base next M))) ∧ ∃ n, w' = w.drewN n := by
  have HW : Hid (HH B hb hm wv W half base next lk M w) := h
  obtain ⟨a, cap, e, hcap, hmax, hat⟩ := ints_open hk
  cases e
  have HA : Hid _ := hat
  have hn6 : next ≤ 6000 := by have := h.siz; omega
  have hkl : (kids.length : Int) ≤ 9223372036854775807 := by unfold maxLen at hmax; omega
  obtain ⟨r, hr⟩ : ∃ r, r = kids.all (keepB base next M) := ⟨_, rfl⟩
  have HR : Hid (r = kids.all (keepB base next M)) := hr
  rw [← hr]
  clear h hk hat hcap hmax hr
  go_enter Try.func54, Try.ntmps54
  go_wp2
  go_loopw [9] (fun v9 wr => ∃ k n : Nat, k ≤ kids.length ∧ v9 = .int .i64 k ∧ Hid (wr = w.drewN n) ∧ Hid (∀ j (hj : j < kids.length), j < k → keepB base next M kids[j] = true)) (fun v9 _ => kids.length + 1 - (intOf v9).toNat)
  case atStart => exact ⟨0, 0, Nat.zero_le _, rfl, rfl, fun j _ hj => absurd hj (Nat.not_lt_zero _)⟩
  case round =>
    obtain ⟨k, n, hkk, rfl, HN, HT⟩ := hrel
    by_cases hlt : k < kids.length
    · obtain ⟨b, o, rfl, -, hc, r1, r2⟩ := HA.out k hlt
      have ck : wr.cell? ⟨b, o + k, none⟩ = some (.int .i64 kids[k]) := by rw [HN.out]; exact hc
      obtain ⟨x, hx⟩ : ∃ x, x = kids[k] := ⟨_, rfl⟩
      rw [← hx] at ck r1 r2
      have HX : Hid (x = kids[k]) := hx
      have HWr : Hid (HH B hb hm wv W half base next lk M wr) := by rw [HN.out]; exact HW.out.drewN n
      have hc2 := okKid_is HWr.out x r1 r2
      have i0 : (0 : Int) ≤ (k : Int) := by omega
      have i1 : (k : Int) < (kids.length : Int) := by omega
      clear hc hx
      rcases q : kidM base next M x with _ | _
      · rw [q] at hc2
        rcases q2 : decide (x = 2 * (next : Int)) with _ | _
        · have HF : Hid (r = false) := by
            show _ = _
            rw [HR.out, List.all_eq_false]
            exact ⟨kids[k], List.getElem_mem hlt, by rw [← HX.out]; unfold keepB; rw [q, q2]; decide⟩
          have t2 : (x != 2 * (next : Int)) = true := by have := of_decide_eq_false q2; simpa using this
          clear q q2
          go_wp2_with fail
          refine hc2.mono ?_
          rintro e w3 ⟨rfl, n3, rfl⟩
          have c5 := (HWr.out.drewN n3).c5
          have hrw := refWord_same next (wr.drewN n3) hn6
          clear hc2
          go_wp2_with fail
          refine hrw.mono ?_
          rintro e w4 ⟨rfl, hw4⟩
          subst hw4
          go_wp2
          go_ret
          exact ⟨ret_b HF.out.symm, ⟨n + n3, by rw [HN.out, World.drewN_drewN]⟩⟩
        · have HQ : Hid (keepB base next M kids[k] = true) := by show _ = _; rw [← HX.out]; unfold keepB; rw [q, q2]; rfl
          have t2 : (x != 2 * (next : Int)) = false := by have := of_decide_eq_true q2; simpa using this
          clear q q2
          go_wp2_with fail
          refine hc2.mono ?_
          rintro e w3 ⟨rfl, n3, rfl⟩
          have c5 := (HWr.out.drewN n3).c5
          have hrw := refWord_same next (wr.drewN n3) hn6
          have HN3 : Hid (wr.drewN n3 = w.drewN (n + n3)) := by show _ = _; rw [HN.out, World.drewN_drewN]
          clear hc2
          go_wp2_with fail
          refine hrw.mono ?_
          rintro e w4 ⟨rfl, hw4⟩
          subst hw4
          go_wp2
          go_round
          case rel => exact ⟨k + 1, n + n3, by omega, by go_num, HN3, fun j hj hjk => by
            by_cases e : j = k
            · subst e; exact HQ.out
            · exact HT.out j hj (by omega)⟩
          case measure => simp [intOf]; omega
      · have HQ : Hid (keepB base next M kids[k] = true) := by show _ = _; rw [← HX.out]; unfold keepB; rw [q]; rfl
        rw [q] at hc2
        clear q
        go_wp2_with fail
        refine hc2.mono ?_
        rintro e w3 ⟨rfl, n3, rfl⟩
        have HN3 : Hid (wr.drewN n3 = w.drewN (n + n3)) := by show _ = _; rw [HN.out, World.drewN_drewN]
        clear hc2
        go_wp2
        go_round
        case rel => exact ⟨k + 1, n + n3, by omega, by go_num, HN3, fun j hj hjk => by
          by_cases e : j = k
          · subst e; exact HQ.out
          · exact HT.out j hj (by omega)⟩
        case measure => simp [intOf]; omega
    · obtain rfl : k = kids.length := by omega
      have HF : Hid (r = true) := by
        show _ = _
        rw [HR.out, List.all_eq_true]
        intro y hy
        obtain ⟨j, hj, e⟩ := List.getElem_of_mem hy
        rw [← e]; exact HT.out j hj hj
      go_wp2
      go_ret
      exact ⟨ret_b HF.out.symm, ⟨n, HN.out⟩⟩

end Go.Proofs.Ytempmfpnngbbeab.heap

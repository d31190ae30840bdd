/-
  The model's GetNum, at every bytes and every place; nothing is turned.
-/
import Derived.Test.YtlfchmmkaflglaaDoorNumBytes
import Derived.Test.YtlfchmmkaflglaaDoorBytesMk
import Derived.WalkSmall
namespace Go.Proofs.YtlfchmmkaflglaaDoor.byts
open Go Go.RowKit Go.Proofs.YtlfchmmkaflglaaDoor.rose Go.Proofs.YtlfchmmkaflglaaDoor Go.Proofs.YtlfchmmkaflglaaDoor.fun
set_option linter.unusedVariables false
set_option linter.unusedSimpArgs false

/-- What is read of the bytes from the k-th on, when the ones ahead were acc. -/
def getF : List Int → Nat → Nat → Option (Nat × Nat)
  | [], _, _ => none
  | d :: l, k, acc =>
    if 5 ≤ k then none
    else if d < 128 then (if (0 < k ∧ d = 0) ∨ 2147483647 < acc + (d % 128).toNat * 128 ^ k then none else some (acc + (d % 128).toNat * 128 ^ k, k + 1))
    else getF l (k + 1) (acc + (d % 128).toNat * 128 ^ k)
theorem getF_five (l : List Int) (acc : Nat) : getF l 5 acc = none := by cases l <;> simp [getF]
/-- The number that begins at that place, the place behind it, and whether there is one. -/
def getB (b : List Int) (at_ : Int) : Int × Int × Bool :=
  if at_ < 0 then (0, 0, false)
  else match getF (b.drop at_.toNat) 0 0 with
    | none => (0, 0, false)
    | some (n, j) => ((n : Int), at_ + (j : Int), true)

theorem or_add {acc x j : Nat} (h : acc < 2 ^ j) (hx : acc + x * 2 ^ j < 9223372036854775808) : bits .or .i64 (acc : Int) (((x * 2 ^ j : Nat)) : Int) = ((acc + x * 2 ^ j : Nat) : Int) := by
  have e : bits .or .i64 (acc : Int) (((x * 2 ^ j : Nat)) : Int) = IntKind.i64.wrap ((BitVec.ofInt 64 (acc : Int) ||| BitVec.ofInt 64 (((x * 2 ^ j : Nat)) : Int)).toNat : Nat) := rfl
  rw [e, BitVec.toNat_or, BitVec.toNat_ofInt, BitVec.toNat_ofInt]
  have h1 : ((acc : Int) % ((2 ^ 64 : Nat) : Int)).toNat = acc := by omega
  have h2 : (((x * 2 ^ j : Nat) : Int) % ((2 ^ 64 : Nat) : Int)).toNat = x * 2 ^ j := by omega
  rw [h1, h2, Nat.or_comm, ← Nat.shiftLeft_eq, ← Nat.shiftLeft_add_eq_or_of_lt h, Nat.shiftLeft_eq, IntKind.wrap_i64]
  omega
theorem ret_three {a b c d : Int} {x y : Bool} (h1 : a = c) (h2 : b = d) (h3 : x = y) : Ending.returned (.tuple #[.int .i64 a, .int .i64 b, .bool x]) = Ending.returned (.tuple #[.int .i64 c, .int .i64 d, .bool y]) := by rw [h1, h2, h3]
theorem getB_none {b : List Int} {p : Nat} (h : getF (b.drop p) 0 0 = none) : getB b (p : Int) = (0, 0, false) := by
  unfold getB; rw [if_neg (by omega), Int.toNat_natCast, h]
theorem getB_some {b : List Int} {p n j : Nat} (h : getF (b.drop p) 0 0 = some (n, j)) : getB b (p : Int) = ((n : Int), (p : Int) + (j : Int), true) := by
  unfold getB; rw [if_neg (by omega), Int.toNat_natCast, h]
/-- One more byte. -/
theorem getF_last {d : Nat} {l : List Int} {k acc n : Nat} (hk : k < 5) (hd : d < 128) (hn : n = acc + d % 128 * 128 ^ k) : getF ((d : Int) :: l) k acc = if (0 < k ∧ d = 0) ∨ 2147483647 < n then none else some (n, k + 1) := by
  unfold getF
  have e : ((d : Int) % 128).toNat = d % 128 := by omega
  rw [if_neg (by omega), if_pos (by omega), e, ← hn]
  simp only [show ((d : Int) = 0) ↔ d = 0 by omega]
theorem getF_more {d : Nat} {l : List Int} {k acc n : Nat} (hk : k < 5) (hd : 128 ≤ d) (hn : n = acc + d % 128 * 128 ^ k) : getF ((d : Int) :: l) k acc = getF l (k + 1) n := by
  rw [getF]
  have e : ((d : Int) % 128).toNat = d % 128 := by omega
  rw [if_neg (by omega), if_neg (by omega), e, ← hn]

set_option maxRecDepth 100000 in
set_option maxHeartbeats 8000000 in
theorem specGetNum (b : List Int) (at_ : Int) (v : Value) (w : World) (hl : b.length ≤ 1048576) (h1 : -9223372036854775808 ≤ at_) (h2 : at_ ≤ 9223372036854775807) (h : bytesSh.rep w (· < w.heap.size) [v] b) :
    Calls Tryd.prog 35 #[v, .int .i64 at_] w fun e w' => e = .returned (.tuple #[.int .i64 (getB b at_).1, .int .i64 (getB b at_).2.1, .bool (getB b at_).2.2]) ∧ Below w.heap.size w w' := by
  obtain ⟨a, cap, rfl, hcap, hmax, hat⟩ := bytes_open h
  have HA : Hid _ := hat
  clear h hcap hmax hat
  obtain ⟨r, hr⟩ : ∃ r, r = getB b at_ := ⟨_, rfl⟩
  rw [← hr]
  have HR : Hid (r = getB b at_) := hr
  clear hr
  by_cases hneg : at_ < 0
  · have HQ : Hid (r = (0, 0, false)) := by show _ = _; rw [HR.out]; unfold getB; rw [if_pos hneg]
    go_enter Tryd.func35, Tryd.ntmps35
    go_wp2
    go_loopw [7, 8] (fun v7 v8 wr => v8 = .int .i64 0 ∧ v7 = .int .i64 0 ∧ wr = w) (fun _ v8 _ => 5 - (intOf v8).toNat)
    case atStart => exact ⟨rfl, rfl, rfl⟩
    case round =>
      obtain ⟨rfl, rfl, hwr⟩ := hrel
      subst wr
      go_wp2
      refine bodyPost_ret (v := .tuple #[.int .i64 0, .int .i64 0, .bool false]) (by simp [results, Tryd.f35, go_sem]) rfl ?_
      rw [HQ.out]
      exact ⟨rfl, Below.refl _ _⟩
  · obtain ⟨p, rfl⟩ : ∃ p : Nat, at_ = p := ⟨at_.toNat, by omega⟩
    have hz : decide ((p : Int) < 0) = false := by simp
    clear hneg
    go_enter Tryd.func35, Tryd.ntmps35
    go_wp2
    go_loopw [7, 8] (fun v7 v8 wr => ∃ (k acc : Nat), k ≤ 5 ∧ v8 = .int .i64 k ∧ v7 = .int .i64 acc ∧ Hid (acc < 128 ^ k) ∧ wr = w ∧ Hid (getF (b.drop p) 0 0 = getF (b.drop (p + k)) k acc)) (fun _ v8 _ => 5 - (intOf v8).toNat)
    case atStart => exact ⟨0, 0, by omega, rfl, rfl, (by show _ < _; decide), rfl, (by show _ = _; rfl)⟩
    case round =>
      obtain ⟨k, acc, hk, rfl, rfl, hacc, hwr, HG⟩ := hrel
      subst wr
      rcases (by omega : k = 0 ∨ k = 1 ∨ k = 2 ∨ k = 3 ∨ k = 4 ∨ k = 5) with rfl | rfl | rfl | rfl | rfl | rfl
      · by_cases hout : b.length ≤ p
        · have t2 : decide ((b.length : Int) ≤ (p : Int)) = true := by simp; omega
          have HQ : Hid (r = (0, 0, false)) := by show _ = _; rw [HR.out]; exact getB_none (by rw [HG.out, List.drop_eq_nil_of_le (by omega)]; rfl)
          clear hacc
          go_wp2
          refine bodyPost_ret (v := .tuple #[.int .i64 0, .int .i64 0, .bool false]) (by simp [results, Tryd.f35, go_sem]) rfl ?_
          rw [HQ.out]
          exact ⟨rfl, Below.refl _ _⟩
        · have t2 : decide ((b.length : Int) ≤ (p : Int)) = false := by simp; omega
          have hin : p < b.length := by omega
          obtain ⟨g, o, rfl, hS, hc, hd1, hd2⟩ := HA.out (p) hin
          have hcb : w.cell? ⟨g, o + p, none⟩ = some (.int .u8 b[p]) := hc
          have HD : Hid (b.drop (p) = b[p] :: b.drop (p + 1)) := List.drop_eq_getElem_cons hin
          generalize b[p] = d at hcb hd1 hd2 HD
          clear hc
          obtain ⟨dn, rfl⟩ : ∃ dn : Nat, d = dn := ⟨d.toNat, by omega⟩
          have hpk : (p : Int) < (b.length : Int) := by omega
          have hpb : (p : Int) ≤ 1048576 := by omega
          have hac : acc < 128 ^ 0 := hacc.out
          obtain ⟨n, hn⟩ : ∃ n : Nat, n = acc + dn % 128 * 128 ^ 0 := ⟨_, rfl⟩
          have hnb : n < 128 ^ 1 := by omega
          have hor : bits .or .i64 (acc : Int) ((dn : Int) % 128) = (n : Int) := by
            have h0 := or_add (acc := acc) (x := dn % 128) (j := 0) (by simpa using hac) (by omega)
            rw [show ((dn : Int) % 128) = ((dn % 128 * 2 ^ 0 : Nat) : Int) by omega, h0, hn]
          have HN : Hid (n = acc + dn % 128 * 128 ^ 0 ∧ n < 128 ^ 1) := ⟨hn, hnb⟩
          have HG2 : Hid (getF (b.drop p) 0 0 = getF ((dn : Int) :: b.drop (p + 1)) 0 acc) := by show _ = _; rw [HG.out]; exact congrArg (fun l => getF l 0 acc) HD.out
          have hn63 : n ≤ 9223372036854775807 := by omega
          clear hn hnb hac hin hout hd1
          by_cases hlo : dn < 128
          · have t3 : decide ((dn : Int) < 128) = true := by simp; omega
            have HL := HG2.out.trans (getF_last (by omega) hlo HN.out.1)
            by_cases hbig : 2147483647 < n
            · have t4 : decide ((2147483647 : Int) < (n : Int)) = true := by simp; omega
              have HQ : Hid (r = (0, 0, false)) := by show _ = _; rw [HR.out]; exact getB_none (by rw [HL, if_pos (.inr hbig)])
              clear HL
              go_wp2
              refine bodyPost_ret (v := .tuple #[.int .i64 0, .int .i64 0, .bool false]) (by simp [results, Tryd.f35, go_sem]) rfl ?_
              rw [HQ.out]
              exact ⟨rfl, Below.refl _ _⟩
            · have t4 : decide ((2147483647 : Int) < (n : Int)) = false := by simp; omega
              have HQ : Hid (r = ((n : Int), (p : Int) + (1 : Nat), true)) := by show _ = _; rw [HR.out]; exact getB_some (by rw [HL, if_neg (by omega)])
              clear HL
              go_wp2
              refine bodyPost_ret (v := .tuple #[.int .i64 n, .int .i64 ((p : Int) + 1), .bool true]) (by simp [results, Tryd.f35, go_sem]; try omega) rfl ?_
              rw [HQ.out]
              exact ⟨rfl, Below.refl _ _⟩
          · have t3 : decide ((dn : Int) < 128) = false := by simp; omega
            have HM : Hid (getF (b.drop p) 0 0 = getF (b.drop (p + 1)) 1 n) := HG2.out.trans (getF_more (by omega) (by omega) HN.out.1)
            go_wp2
            go_round
            case rel => exact ⟨1, n, by omega, by go_num, by go_num, HN.out.2, by first | rfl | trivial, HM⟩
            case measure => simp [intOf]
      · by_cases hout : b.length ≤ p + 1
        · have t2 : decide ((b.length : Int) - 1 ≤ (p : Int)) = true := by simp; omega
          have HQ : Hid (r = (0, 0, false)) := by show _ = _; rw [HR.out]; exact getB_none (by rw [HG.out, List.drop_eq_nil_of_le (by omega)]; rfl)
          clear hacc
          go_wp2
          refine bodyPost_ret (v := .tuple #[.int .i64 0, .int .i64 0, .bool false]) (by simp [results, Tryd.f35, go_sem]) rfl ?_
          rw [HQ.out]
          exact ⟨rfl, Below.refl _ _⟩
        · have t2 : decide ((b.length : Int) - 1 ≤ (p : Int)) = false := by simp; omega
          have hin : p + 1 < b.length := by omega
          obtain ⟨g, o, rfl, hS, hc, hd1, hd2⟩ := HA.out (p + 1) hin
          have hcb : w.cell? ⟨g, o + (p + 1), none⟩ = some (.int .u8 b[p + 1]) := hc
          have HD : Hid (b.drop (p + 1) = b[p + 1] :: b.drop (p + 1 + 1)) := List.drop_eq_getElem_cons hin
          generalize b[p + 1] = d at hcb hd1 hd2 HD
          clear hc
          obtain ⟨dn, rfl⟩ : ∃ dn : Nat, d = dn := ⟨d.toNat, by omega⟩
          have hpk : (p : Int) + 1 < (b.length : Int) := by omega
          have hpb : (p : Int) ≤ 1048576 := by omega
          have hac : acc < 128 ^ 1 := hacc.out
          obtain ⟨n, hn⟩ : ∃ n : Nat, n = acc + dn % 128 * 128 ^ 1 := ⟨_, rfl⟩
          have hnb : n < 128 ^ 2 := by omega
          have hor : bits .or .i64 (acc : Int) ((dn : Int) % 128 * 128) = (n : Int) := by
            have h0 := or_add (acc := acc) (x := dn % 128) (j := 7) (by simpa using hac) (by omega)
            rw [show ((dn : Int) % 128 * 128) = ((dn % 128 * 2 ^ 7 : Nat) : Int) by omega, h0, hn]
          have HN : Hid (n = acc + dn % 128 * 128 ^ 1 ∧ n < 128 ^ 2) := ⟨hn, hnb⟩
          have HG2 : Hid (getF (b.drop p) 0 0 = getF ((dn : Int) :: b.drop (p + 1 + 1)) 1 acc) := by show _ = _; rw [HG.out]; exact congrArg (fun l => getF l 1 acc) HD.out
          have hn63 : n ≤ 9223372036854775807 := by omega
          clear hn hnb hac hin hout hd1
          by_cases hlo : dn < 128
          · have t3 : decide ((dn : Int) < 128) = true := by simp; omega
            have HL := HG2.out.trans (getF_last (by omega) hlo HN.out.1)
            by_cases hzr : dn = 0
            · subst hzr
              have HQ : Hid (r = (0, 0, false)) := by show _ = _; rw [HR.out]; exact getB_none (by rw [HL, if_pos (.inl ⟨by omega, rfl⟩)])
              clear HL
              go_wp2
              refine bodyPost_ret (v := .tuple #[.int .i64 0, .int .i64 0, .bool false]) (by simp [results, Tryd.f35, go_sem]) rfl ?_
              rw [HQ.out]
              exact ⟨rfl, Below.refl _ _⟩
            have hzb : ((dn : Int) == 0) = false := by simp; omega
            by_cases hbig : 2147483647 < n
            · have t4 : decide ((2147483647 : Int) < (n : Int)) = true := by simp; omega
              have HQ : Hid (r = (0, 0, false)) := by show _ = _; rw [HR.out]; exact getB_none (by rw [HL, if_pos (.inr hbig)])
              clear HL
              go_wp2
              refine bodyPost_ret (v := .tuple #[.int .i64 0, .int .i64 0, .bool false]) (by simp [results, Tryd.f35, go_sem]) rfl ?_
              rw [HQ.out]
              exact ⟨rfl, Below.refl _ _⟩
            · have t4 : decide ((2147483647 : Int) < (n : Int)) = false := by simp; omega
              have HQ : Hid (r = ((n : Int), (p : Int) + (2 : Nat), true)) := by show _ = _; rw [HR.out]; exact getB_some (by rw [HL, if_neg (by omega)])
              clear HL
              go_wp2
              refine bodyPost_ret (v := .tuple #[.int .i64 n, .int .i64 ((p : Int) + 2), .bool true]) (by simp [results, Tryd.f35, go_sem]; try omega) rfl ?_
              rw [HQ.out]
              exact ⟨rfl, Below.refl _ _⟩
          · have t3 : decide ((dn : Int) < 128) = false := by simp; omega
            have HM : Hid (getF (b.drop p) 0 0 = getF (b.drop (p + 2)) 2 n) := HG2.out.trans (getF_more (by omega) (by omega) HN.out.1)
            go_wp2
            go_round
            case rel => exact ⟨2, n, by omega, by go_num, by go_num, HN.out.2, by first | rfl | trivial, HM⟩
            case measure => simp [intOf]
      · by_cases hout : b.length ≤ p + 2
        · have t2 : decide ((b.length : Int) - 2 ≤ (p : Int)) = true := by simp; omega
          have HQ : Hid (r = (0, 0, false)) := by show _ = _; rw [HR.out]; exact getB_none (by rw [HG.out, List.drop_eq_nil_of_le (by omega)]; rfl)
          clear hacc
          go_wp2
          refine bodyPost_ret (v := .tuple #[.int .i64 0, .int .i64 0, .bool false]) (by simp [results, Tryd.f35, go_sem]) rfl ?_
          rw [HQ.out]
          exact ⟨rfl, Below.refl _ _⟩
        · have t2 : decide ((b.length : Int) - 2 ≤ (p : Int)) = false := by simp; omega
          have hin : p + 2 < b.length := by omega
          obtain ⟨g, o, rfl, hS, hc, hd1, hd2⟩ := HA.out (p + 2) hin
          have hcb : w.cell? ⟨g, o + (p + 2), none⟩ = some (.int .u8 b[p + 2]) := hc
          have HD : Hid (b.drop (p + 2) = b[p + 2] :: b.drop (p + 2 + 1)) := List.drop_eq_getElem_cons hin
          generalize b[p + 2] = d at hcb hd1 hd2 HD
          clear hc
          obtain ⟨dn, rfl⟩ : ∃ dn : Nat, d = dn := ⟨d.toNat, by omega⟩
          have hpk : (p : Int) + 2 < (b.length : Int) := by omega
          have hpb : (p : Int) ≤ 1048576 := by omega
          have hac : acc < 128 ^ 2 := hacc.out
          obtain ⟨n, hn⟩ : ∃ n : Nat, n = acc + dn % 128 * 128 ^ 2 := ⟨_, rfl⟩
          have hnb : n < 128 ^ 3 := by omega
          have hor : bits .or .i64 (acc : Int) ((dn : Int) % 128 * 16384) = (n : Int) := by
            have h0 := or_add (acc := acc) (x := dn % 128) (j := 14) (by simpa using hac) (by omega)
            rw [show ((dn : Int) % 128 * 16384) = ((dn % 128 * 2 ^ 14 : Nat) : Int) by omega, h0, hn]
          have HN : Hid (n = acc + dn % 128 * 128 ^ 2 ∧ n < 128 ^ 3) := ⟨hn, hnb⟩
          have HG2 : Hid (getF (b.drop p) 0 0 = getF ((dn : Int) :: b.drop (p + 2 + 1)) 2 acc) := by show _ = _; rw [HG.out]; exact congrArg (fun l => getF l 2 acc) HD.out
          have hn63 : n ≤ 9223372036854775807 := by omega
          clear hn hnb hac hin hout hd1
          by_cases hlo : dn < 128
          · have t3 : decide ((dn : Int) < 128) = true := by simp; omega
            have HL := HG2.out.trans (getF_last (by omega) hlo HN.out.1)
            by_cases hzr : dn = 0
            · subst hzr
              have HQ : Hid (r = (0, 0, false)) := by show _ = _; rw [HR.out]; exact getB_none (by rw [HL, if_pos (.inl ⟨by omega, rfl⟩)])
              clear HL
              go_wp2
              refine bodyPost_ret (v := .tuple #[.int .i64 0, .int .i64 0, .bool false]) (by simp [results, Tryd.f35, go_sem]) rfl ?_
              rw [HQ.out]
              exact ⟨rfl, Below.refl _ _⟩
            have hzb : ((dn : Int) == 0) = false := by simp; omega
            by_cases hbig : 2147483647 < n
            · have t4 : decide ((2147483647 : Int) < (n : Int)) = true := by simp; omega
              have HQ : Hid (r = (0, 0, false)) := by show _ = _; rw [HR.out]; exact getB_none (by rw [HL, if_pos (.inr hbig)])
              clear HL
              go_wp2
              refine bodyPost_ret (v := .tuple #[.int .i64 0, .int .i64 0, .bool false]) (by simp [results, Tryd.f35, go_sem]) rfl ?_
              rw [HQ.out]
              exact ⟨rfl, Below.refl _ _⟩
            · have t4 : decide ((2147483647 : Int) < (n : Int)) = false := by simp; omega
              have HQ : Hid (r = ((n : Int), (p : Int) + (3 : Nat), true)) := by show _ = _; rw [HR.out]; exact getB_some (by rw [HL, if_neg (by omega)])
              clear HL
              go_wp2
              refine bodyPost_ret (v := .tuple #[.int .i64 n, .int .i64 ((p : Int) + 3), .bool true]) (by simp [results, Tryd.f35, go_sem]; try omega) rfl ?_
              rw [HQ.out]
              exact ⟨rfl, Below.refl _ _⟩
          · have t3 : decide ((dn : Int) < 128) = false := by simp; omega
            have HM : Hid (getF (b.drop p) 0 0 = getF (b.drop (p + 3)) 3 n) := HG2.out.trans (getF_more (by omega) (by omega) HN.out.1)
            go_wp2
            go_round
            case rel => exact ⟨3, n, by omega, by go_num, by go_num, HN.out.2, by first | rfl | trivial, HM⟩
            case measure => simp [intOf]
      · by_cases hout : b.length ≤ p + 3
        · have t2 : decide ((b.length : Int) - 3 ≤ (p : Int)) = true := by simp; omega
          have HQ : Hid (r = (0, 0, false)) := by show _ = _; rw [HR.out]; exact getB_none (by rw [HG.out, List.drop_eq_nil_of_le (by omega)]; rfl)
          clear hacc
          go_wp2
          refine bodyPost_ret (v := .tuple #[.int .i64 0, .int .i64 0, .bool false]) (by simp [results, Tryd.f35, go_sem]) rfl ?_
          rw [HQ.out]
          exact ⟨rfl, Below.refl _ _⟩
        · have t2 : decide ((b.length : Int) - 3 ≤ (p : Int)) = false := by simp; omega
          have hin : p + 3 < b.length := by omega
          obtain ⟨g, o, rfl, hS, hc, hd1, hd2⟩ := HA.out (p + 3) hin
          have hcb : w.cell? ⟨g, o + (p + 3), none⟩ = some (.int .u8 b[p + 3]) := hc
          have HD : Hid (b.drop (p + 3) = b[p + 3] :: b.drop (p + 3 + 1)) := List.drop_eq_getElem_cons hin
          generalize b[p + 3] = d at hcb hd1 hd2 HD
          clear hc
          obtain ⟨dn, rfl⟩ : ∃ dn : Nat, d = dn := ⟨d.toNat, by omega⟩
          have hpk : (p : Int) + 3 < (b.length : Int) := by omega
          have hpb : (p : Int) ≤ 1048576 := by omega
          have hac : acc < 128 ^ 3 := hacc.out
          obtain ⟨n, hn⟩ : ∃ n : Nat, n = acc + dn % 128 * 128 ^ 3 := ⟨_, rfl⟩
          have hnb : n < 128 ^ 4 := by omega
          have hor : bits .or .i64 (acc : Int) ((dn : Int) % 128 * 2097152) = (n : Int) := by
            have h0 := or_add (acc := acc) (x := dn % 128) (j := 21) (by simpa using hac) (by omega)
            rw [show ((dn : Int) % 128 * 2097152) = ((dn % 128 * 2 ^ 21 : Nat) : Int) by omega, h0, hn]
          have HN : Hid (n = acc + dn % 128 * 128 ^ 3 ∧ n < 128 ^ 4) := ⟨hn, hnb⟩
          have HG2 : Hid (getF (b.drop p) 0 0 = getF ((dn : Int) :: b.drop (p + 3 + 1)) 3 acc) := by show _ = _; rw [HG.out]; exact congrArg (fun l => getF l 3 acc) HD.out
          have hn63 : n ≤ 9223372036854775807 := by omega
          clear hn hnb hac hin hout hd1
          by_cases hlo : dn < 128
          · have t3 : decide ((dn : Int) < 128) = true := by simp; omega
            have HL := HG2.out.trans (getF_last (by omega) hlo HN.out.1)
            by_cases hzr : dn = 0
            · subst hzr
              have HQ : Hid (r = (0, 0, false)) := by show _ = _; rw [HR.out]; exact getB_none (by rw [HL, if_pos (.inl ⟨by omega, rfl⟩)])
              clear HL
              go_wp2
              refine bodyPost_ret (v := .tuple #[.int .i64 0, .int .i64 0, .bool false]) (by simp [results, Tryd.f35, go_sem]) rfl ?_
              rw [HQ.out]
              exact ⟨rfl, Below.refl _ _⟩
            have hzb : ((dn : Int) == 0) = false := by simp; omega
            by_cases hbig : 2147483647 < n
            · have t4 : decide ((2147483647 : Int) < (n : Int)) = true := by simp; omega
              have HQ : Hid (r = (0, 0, false)) := by show _ = _; rw [HR.out]; exact getB_none (by rw [HL, if_pos (.inr hbig)])
              clear HL
              go_wp2
              refine bodyPost_ret (v := .tuple #[.int .i64 0, .int .i64 0, .bool false]) (by simp [results, Tryd.f35, go_sem]) rfl ?_
              rw [HQ.out]
              exact ⟨rfl, Below.refl _ _⟩
            · have t4 : decide ((2147483647 : Int) < (n : Int)) = false := by simp; omega
              have HQ : Hid (r = ((n : Int), (p : Int) + (4 : Nat), true)) := by show _ = _; rw [HR.out]; exact getB_some (by rw [HL, if_neg (by omega)])
              clear HL
              go_wp2
              refine bodyPost_ret (v := .tuple #[.int .i64 n, .int .i64 ((p : Int) + 4), .bool true]) (by simp [results, Tryd.f35, go_sem]; try omega) rfl ?_
              rw [HQ.out]
              exact ⟨rfl, Below.refl _ _⟩
          · have t3 : decide ((dn : Int) < 128) = false := by simp; omega
            have HM : Hid (getF (b.drop p) 0 0 = getF (b.drop (p + 4)) 4 n) := HG2.out.trans (getF_more (by omega) (by omega) HN.out.1)
            go_wp2
            go_round
            case rel => exact ⟨4, n, by omega, by go_num, by go_num, HN.out.2, by first | rfl | trivial, HM⟩
            case measure => simp [intOf]
      · by_cases hout : b.length ≤ p + 4
        · have t2 : decide ((b.length : Int) - 4 ≤ (p : Int)) = true := by simp; omega
          have HQ : Hid (r = (0, 0, false)) := by show _ = _; rw [HR.out]; exact getB_none (by rw [HG.out, List.drop_eq_nil_of_le (by omega)]; rfl)
          clear hacc
          go_wp2
          refine bodyPost_ret (v := .tuple #[.int .i64 0, .int .i64 0, .bool false]) (by simp [results, Tryd.f35, go_sem]) rfl ?_
          rw [HQ.out]
          exact ⟨rfl, Below.refl _ _⟩
        · have t2 : decide ((b.length : Int) - 4 ≤ (p : Int)) = false := by simp; omega
          have hin : p + 4 < b.length := by omega
          obtain ⟨g, o, rfl, hS, hc, hd1, hd2⟩ := HA.out (p + 4) hin
          have hcb : w.cell? ⟨g, o + (p + 4), none⟩ = some (.int .u8 b[p + 4]) := hc
          have HD : Hid (b.drop (p + 4) = b[p + 4] :: b.drop (p + 4 + 1)) := List.drop_eq_getElem_cons hin
          generalize b[p + 4] = d at hcb hd1 hd2 HD
          clear hc
          obtain ⟨dn, rfl⟩ : ∃ dn : Nat, d = dn := ⟨d.toNat, by omega⟩
          have hpk : (p : Int) + 4 < (b.length : Int) := by omega
          have hpb : (p : Int) ≤ 1048576 := by omega
          have hac : acc < 128 ^ 4 := hacc.out
          obtain ⟨n, hn⟩ : ∃ n : Nat, n = acc + dn % 128 * 128 ^ 4 := ⟨_, rfl⟩
          have hnb : n < 128 ^ 5 := by omega
          have hor : bits .or .i64 (acc : Int) ((dn : Int) % 128 * 268435456) = (n : Int) := by
            have h0 := or_add (acc := acc) (x := dn % 128) (j := 28) (by simpa using hac) (by omega)
            rw [show ((dn : Int) % 128 * 268435456) = ((dn % 128 * 2 ^ 28 : Nat) : Int) by omega, h0, hn]
          have HN : Hid (n = acc + dn % 128 * 128 ^ 4 ∧ n < 128 ^ 5) := ⟨hn, hnb⟩
          have HG2 : Hid (getF (b.drop p) 0 0 = getF ((dn : Int) :: b.drop (p + 4 + 1)) 4 acc) := by show _ = _; rw [HG.out]; exact congrArg (fun l => getF l 4 acc) HD.out
          have hn63 : n ≤ 9223372036854775807 := by omega
          clear hn hnb hac hin hout hd1
          by_cases hlo : dn < 128
          · have t3 : decide ((dn : Int) < 128) = true := by simp; omega
            have HL := HG2.out.trans (getF_last (by omega) hlo HN.out.1)
            by_cases hzr : dn = 0
            · subst hzr
              have HQ : Hid (r = (0, 0, false)) := by show _ = _; rw [HR.out]; exact getB_none (by rw [HL, if_pos (.inl ⟨by omega, rfl⟩)])
              clear HL
              go_wp2
              refine bodyPost_ret (v := .tuple #[.int .i64 0, .int .i64 0, .bool false]) (by simp [results, Tryd.f35, go_sem]) rfl ?_
              rw [HQ.out]
              exact ⟨rfl, Below.refl _ _⟩
            have hzb : ((dn : Int) == 0) = false := by simp; omega
            by_cases hbig : 2147483647 < n
            · have t4 : decide ((2147483647 : Int) < (n : Int)) = true := by simp; omega
              have HQ : Hid (r = (0, 0, false)) := by show _ = _; rw [HR.out]; exact getB_none (by rw [HL, if_pos (.inr hbig)])
              clear HL
              go_wp2
              refine bodyPost_ret (v := .tuple #[.int .i64 0, .int .i64 0, .bool false]) (by simp [results, Tryd.f35, go_sem]) rfl ?_
              rw [HQ.out]
              exact ⟨rfl, Below.refl _ _⟩
            · have t4 : decide ((2147483647 : Int) < (n : Int)) = false := by simp; omega
              have HQ : Hid (r = ((n : Int), (p : Int) + (5 : Nat), true)) := by show _ = _; rw [HR.out]; exact getB_some (by rw [HL, if_neg (by omega)])
              clear HL
              go_wp2
              refine bodyPost_ret (v := .tuple #[.int .i64 n, .int .i64 ((p : Int) + 5), .bool true]) (by simp [results, Tryd.f35, go_sem]; try omega) rfl ?_
              rw [HQ.out]
              exact ⟨rfl, Below.refl _ _⟩
          · have t3 : decide ((dn : Int) < 128) = false := by simp; omega
            have HM : Hid (getF (b.drop p) 0 0 = getF (b.drop (p + 5)) 5 n) := HG2.out.trans (getF_more (by omega) (by omega) HN.out.1)
            go_wp2
            go_round
            case rel => exact ⟨5, n, by omega, by go_num, by go_num, HN.out.2, by first | rfl | trivial, HM⟩
            case measure => simp [intOf]
      · have HQ : Hid (r = (0, 0, false)) := by show _ = _; rw [HR.out]; exact getB_none (by rw [HG.out]; exact getF_five _ _)
        go_wp2
        refine bodyPost_ret (v := .tuple #[.int .i64 0, .int .i64 0, .bool false]) (by simp [results, Tryd.f35, go_sem]) rfl ?_
        rw [HQ.out]
        exact ⟨rfl, Below.refl _ _⟩

end Go.Proofs.YtlfchmmkaflglaaDoor.byts

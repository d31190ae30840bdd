/-
  The model's FunsOk, at every list of functions; nothing that was there is turned.
  A row of the call's own that grows by one element after the other, each of which lies in blocks of its own; an append as a step of a region that draws its order.
-/
import Derived.WalkSmall
import Derived.Maps.AppendAt
import Derived.Laws.AppendOwn
import Derived.Deep.RegionLaw
import Derived.Shelf.Abstract
import Derived.Test.YtjibmpebebephaaGreatDoorC1
import Derived.Test.YtjibmpebebephaaGreatDoorC2
import Derived.Test.YtjibmpebebephaaGreatDoorC3
import Derived.Test.YtjibmpebebephaaGreatDoorC4
import Derived.Test.YtjibmpebebephaaGreatDoorC5
import Derived.Test.YtjibmpebebephaaGreatDoorC6
import Derived.Test.YtjibmpebebephaaGreatDoorC7
import Derived.Test.YtjibmpebebephaaGreatDoorC8
import Derived.Test.YtjibmpebebephaaGreatDoorC9
import Derived.Test.YtjibmpebebephaaGreatDoorC10
import Derived.Test.YtjibmpebebephaaGreatDoorC11
import Derived.Test.YtjibmpebebephaaGreatDoorC12
import Derived.Test.YtjibmpebebephaaGreatDoorC13
namespace Go.Proofs.YtjibmpebebephaaGreatDoor.fun
open Go.RowKit Go.Proofs.YtjibmpebebephaaGreatDoor.rose Go.Proofs.YtjibmpebebephaaGreatDoor
set_option linter.unusedVariables false
set_option linter.unusedSimpArgs false

set_option maxRecDepth 100000 in
set_option maxHeartbeats 4000000 in
theorem specFunsOk (ks : List FunD) (v : Value) (w : World) (hw : ks.length + wts ks ≤ 1048576) (h : funSh.slice.rep w (· < w.heap.size) [v] ks) :
    Calls Tryz.prog 21 #[v] w fun e w' => e = .returned (.bool (funsB ks)) ∧ Below w.heap.size w w' := by
  have SL : Hid (∀ w' : World, Below w.heap.size w w' → funSh.slice.rep w' (· < w'.heap.size) [v] ks) := fun w' hb => funSh.slice.mono (funSh.slice.below h hb) fun b hlt => Nat.lt_of_lt_of_le hlt hb.size
  obtain ⟨a, cap, css, rfl, hcap, hmax, hrow, hk⟩ := funs_open h
  have HR : Hid (RowAt w (· < w.heap.size) 2 a ks.length css ∧ ∀ i (h : i < ks.length), funSh.rep w (· < w.heap.size) (css i) ks[i]) := ⟨hrow, hk⟩
  have hmx : (ks.length : Int) ≤ 9223372036854775807 := by omega
  clear h hcap hmax hrow hk hw
  obtain ⟨q, hq⟩ : ∃ q, q = funsB ks := ⟨_, rfl⟩
  rw [← hq]
  rcases q0 : inB ks.length 1 60 with _ | _
  · have HQ : Hid (q = false) := by show _ = _; rw [hq]; exact funsB_len q0
    clear hq
    go_enter Tryz.func21, Tryz.ntmps21
    go_wp2_with (go_at_call 23; refine (in_is q0).mono ?_; rintro e w' ⟨rfl, hx⟩; subst w')
    go_ret
    exact ⟨ret_boolF HQ.out.symm, Below.refl _ _⟩
  · have h1 : 0 < ks.length := by have := inB_yes q0; omega
    have h60 : ks.length ≤ 60 := by have := inB_yes q0; omega
    obtain ⟨b, o, rfl, hS, hc⟩ := HR.out.1 0 h1
    obtain ⟨x0, x1, a1, c1, hT, hcs, g0, -⟩ := fun_open (HR.out.2 0 h1)
    rw [hcs] at hc
    have d0 : w.cell? ⟨b, o, none⟩ = some (.int .i64 x0) := by have := hc 0 _ rfl; simpa using this
    have hf0 : freeAt ks 0 = x0 := by have := freeAt_get h1; rw [hT] at this; exact this
    clear hc hcs hT
    have h1I : (0 : Int) < (ks.length : Int) := by omega
    rcases q1 : decide (x0 = 0) with _ | _
    · have HQ : Hid (q = false) := by show _ = _; rw [hq]; exact funsB_free (by rw [hf0]; exact q1)
      have q1b : (x0 != 0) = true := by have := of_decide_eq_false q1; simp [this]
      clear hq
      go_enter Tryz.func21, Tryz.ntmps21
      go_wp2_with (go_at_call 23; refine (in_is q0).mono ?_; rintro e w' ⟨rfl, hx⟩; subst w')
      go_ret
      exact ⟨ret_boolF HQ.out.symm, Below.refl _ _⟩
    · obtain rfl : x0 = 0 := of_decide_eq_true q1
      have HQ : Hid (q = funsB ks ∧ freeAt ks 0 = 0) := ⟨hq, hf0⟩
      clear hq q1 hf0
      go_enter Tryz.func21, Tryz.ntmps21
      go_wp2_with (go_at_call 23; refine (in_is q0).mono ?_; rintro e w' ⟨rfl, hx⟩; subst w')
      clear d0
      go_loopw [3] (fun v3 wr => ∃ i : Nat, i ≤ ks.length ∧ v3 = .int .i64 i ∧ Hid (∀ j (hj : j < ks.length), j < i → funB ks j ks[j] = true) ∧ Hid (Below w.heap.size w wr)) (fun v3 _ => ks.length - (intOf v3).toNat)
      case atStart => exact ⟨0, Nat.zero_le _, rfl, fun j _ hj => absurd hj (Nat.not_lt_zero _), Below.refl _ _⟩
      case round =>
        obtain ⟨i, hi, rfl, HA, HB⟩ := hrel
        by_cases hlt : i < ks.length
        · obtain ⟨b', o', hbo, hS', hc⟩ := HR.out.1 i hlt
          cases hbo
          obtain ⟨y0, y1, a2, c2, hT, hcs, g2, hrep⟩ := fun_open (HR.out.2 i hlt)
          rw [hcs] at hc
          have e0 := (HB.out.cell (p := ⟨b, o + i * 2, none⟩) hS).trans (hc 0 _ rfl)
          have e1 : wr.cell? ⟨b, o + i * 2 + 1, none⟩ = some (.slice a2 y1.length c2) := (HB.out.cell (p := ⟨b, o + i * 2 + 1, none⟩) hS).trans (hc 1 _ rfl)
          obtain ⟨a3, c3, css3, e3, hcap3, hmax3, hrow3, hk3⟩ := op.ops_open hrep
          cases e3
          have hmy : (y1.length : Int) ≤ 9223372036854775807 := by unfold maxLen at hmax3; omega
          have HO : Hid (RowAt w (· < w.heap.size) 3 a2 y1.length css3 ∧ ∀ i (h : i < y1.length), op.opSh.rep w (· < w.heap.size) (css3 i) y1[i]) := ⟨hrow3, hk3⟩
          have HF : Hid (funB ks i ks[i] = (inB y0 0 20 && inB y1.length 1 3000 && opsB ks i ks[i] y1 && lastB y1)) := by show _ = _; rw [hT]; rfl
          have HT : Hid (ks[i] = (y0, y1)) := hT
          have hc1 : w.cell? ⟨b, o + i * 2 + 1, none⟩ = some (.slice a2 y1.length c2) := hc 1 _ rfl
          clear hc hcs hT hrep hmax3 hrow3 hk3 hcap3
          rcases q2 : inB y0 0 20 with _ | _
          · have HQ2 : Hid (q = false) := by show _ = _; rw [HQ.out.1]; exact funsB_no hlt (by simp only [HF.out, q2, Bool.false_and])
            go_wp2_with (go_at_call 23; refine (in_is q2).mono ?_; rintro e w' ⟨rfl, hx⟩; subst w')
            go_ret
            exact ⟨ret_boolF HQ2.out.symm, HB.out⟩
          · rcases q3 : inB y1.length 1 3000 with _ | _
            · have HQ2 : Hid (q = false) := by show _ = _; rw [HQ.out.1]; exact funsB_no hlt (by simp only [HF.out, q2, q3, Bool.false_and, Bool.and_false])
              go_wp2_with (go_at_call 23; refine (in_is (by assumption)).mono ?_; rintro e w' ⟨rfl, hx⟩; subst w')
              go_ret
              exact ⟨ret_boolF HQ2.out.symm, HB.out⟩
            · have hl1 : 1 ≤ y1.length := by have := inB_yes q3; omega
              have hl2 : y1.length ≤ 3000 := by have := inB_yes q3; omega
              have HF2 : Hid (funB ks i ks[i] = (opsB ks i ks[i] y1 && lastB y1)) := by show _ = _; simp only [HF.out, q2, q3, Bool.true_and]
              have HI : Hid (0 ≤ ks[i].1 ∧ ks[i].1 ≤ 20) := by show _ ∧ _; rw [HT.out]; exact inB_yes q2
              have HL : Hid (1 ≤ ks[i].2.length ∧ ks[i].2.length ≤ 3000) := by show _ ∧ _; rw [HT.out]; exact ⟨hl1, hl2⟩
              have C1 : Hid (w.cell? ⟨b, o + i * 2 + 1, none⟩ = some (.slice a2 y1.length c2)) := hc1
              clear HF HT hc1
              go_wp2_with (go_at_call 23; refine (in_is (by assumption)).mono ?_; rintro e w' ⟨rfl, hx⟩; subst w')
              go_loopw [5] (fun v5 wi => ∃ k : Nat, k ≤ y1.length ∧ v5 = .int .i64 k ∧ Hid (∀ j (hj : j < y1.length), j < k → opB ks i ks[i] y1[j].1 y1[j].2.1 y1[j].2.2 = true) ∧ Hid (Below w.heap.size w wi)) (fun v5 _ => y1.length - (intOf v5).toNat)
              case atStart => exact ⟨0, Nat.zero_le _, rfl, fun j _ hj => absurd hj (Nat.not_lt_zero _), HB⟩
              case round =>
                clear e0 e1
                obtain ⟨k, hk, rfl, HA2, HB2⟩ := hrel
                have e1 : wr.cell? ⟨b, o + i * 2 + 1, none⟩ = some (.slice a2 y1.length c2) := (HB2.out.cell (p := ⟨b, o + i * 2 + 1, none⟩) hS).trans C1.out
                by_cases hlt2 : k < y1.length
                · obtain ⟨b3, o3, rfl, hS3, hc3⟩ := HO.out.1 k hlt2
                  obtain ⟨z0, z1, z2, hT3, hcs3, -, -, -⟩ := op.op_open (HO.out.2 k hlt2)
                  rw [hcs3] at hc3
                  have u0 := (HB2.out.cell (p := ⟨b3, o3 + k * 3, none⟩) hS3).trans (hc3 0 _ rfl)
                  have u1 := (HB2.out.cell (p := ⟨b3, o3 + k * 3 + 1, none⟩) hS3).trans (hc3 1 _ rfl)
                  have u2 := (HB2.out.cell (p := ⟨b3, o3 + k * 3 + 2, none⟩) hS3).trans (hc3 2 _ rfl)
                  have HP : Hid (opB ks i ks[i] y1[k].1 y1[k].2.1 y1[k].2.2 = opB ks i ks[i] z0 z1 z2) := by show _ = _; rw [hT3]
                  have hcall := l13Op_any ks i hlt _ z0 z1 z2 wr (SL.out _ HB2.out) HI.out HL.out
                  clear hc3 hcs3 hT3
                  rcases q4 : opB ks i ks[i] z0 z1 z2 with _ | _
                  · have HQ2 : Hid (q = false) := by show _ = _; rw [HQ.out.1]; exact funsB_no hlt (by rw [HF2.out, opsB_no hlt2 (HP.out.trans q4)]; simp only [Bool.false_and])
                    rw [q4] at hcall
                    clear q4
                    go_wp2_with (go_at_call 56; refine hcall.mono ?_; rintro e w4 ⟨rfl, hb4⟩)
                    go_ret
                    exact ⟨ret_boolF HQ2.out.symm, HB2.out.trans (hb4.mono HB2.out.size)⟩
                  · have HA3 : Hid (∀ j (hj : j < y1.length), j < k + 1 → opB ks i ks[i] y1[j].1 y1[j].2.1 y1[j].2.2 = true) := fun j hj h1 => by
                      by_cases e : j = k
                      · subst e; exact HP.out.trans q4
                      · exact HA2.out j hj (by omega)
                    rw [q4] at hcall
                    clear q4
                    go_wp2_with (go_at_call 56; refine hcall.mono ?_; rintro e w4 ⟨rfl, hb4⟩)
                    go_round
                    case rel => exact ⟨k + 1, by omega, by go_num, HA3, HB2.out.trans (hb4.mono HB2.out.size)⟩
                    case measure => simp [intOf]; omega
                · obtain rfl : k = y1.length := by omega
                  have hz : y1.length - 1 < y1.length := by omega
                  obtain ⟨b3, o3, rfl, hS3, hc3⟩ := HO.out.1 (y1.length - 1) hz
                  obtain ⟨z0, z1, z2, hT3, hcs3, -, -, -⟩ := op.op_open (HO.out.2 (y1.length - 1) hz)
                  rw [hcs3] at hc3
                  have u0 := (HB2.out.cell (p := ⟨b3, o3 + (y1.length - 1) * 3, none⟩) hS3).trans (hc3 0 _ rfl)
                  have HE : Hid (funB ks i ks[i] = endB z0) := by
                    show _ = _
                    rw [HF2.out, opsB_yes fun j hj => HA2.out j hj hj, lastB_get (by omega), hT3]; simp only [Bool.true_and]
                  clear hc3 hcs3 hT3 HA2
                  by_cases h7 : z0 = 7
                  · subst h7
                    have hen : endB 7 = true := rfl
                    have HA3 : Hid (∀ j (hj : j < ks.length), j < i + 1 → funB ks j ks[j] = true) := fun j hj h1 => by
                      by_cases e : j = i
                      · subst e; exact HE.out.trans hen
                      · exact HA.out j hj (by omega)
                    go_wp2
                    go_round
                    case rel => exact ⟨i + 1, by omega, by go_num, HA3, HB2⟩
                    case measure => simp [intOf]; omega
                  · have n7 : (z0 != 7) = true := by simp [h7]
                    by_cases h19 : z0 = 19
                    · subst h19
                      have hen : endB 19 = true := rfl
                      have HA3 : Hid (∀ j (hj : j < ks.length), j < i + 1 → funB ks j ks[j] = true) := fun j hj h1 => by
                        by_cases e : j = i
                        · subst e; exact HE.out.trans hen
                        · exact HA.out j hj (by omega)
                      go_wp2
                      go_round
                      case rel => exact ⟨i + 1, by omega, by go_num, HA3, HB2⟩
                      case measure => simp [intOf]; omega
                    · have n19 : (z0 != 19) = true := by simp [h19]
                      by_cases h21 : z0 = 21
                      · subst h21
                        have hen : endB 21 = true := rfl
                        have HA3 : Hid (∀ j (hj : j < ks.length), j < i + 1 → funB ks j ks[j] = true) := fun j hj h1 => by
                          by_cases e : j = i
                          · subst e; exact HE.out.trans hen
                          · exact HA.out j hj (by omega)
                        go_wp2
                        go_round
                        case rel => exact ⟨i + 1, by omega, by go_num, HA3, HB2⟩
                        case measure => simp [intOf]; omega
                      · have n21 : (z0 != 21) = true := by simp [h21]
                        have hen : endB z0 = false := by simp [endB, h7, h19, h21]
                        have HQ2 : Hid (q = false) := by show _ = _; rw [HQ.out.1]; exact funsB_no hlt (HE.out.trans hen)
                        go_wp2
                        go_ret
                        exact ⟨ret_boolF HQ2.out.symm, HB2.out⟩
        · obtain rfl : i = ks.length := by omega
          have HQ2 : Hid (q = true) := by show _ = _; rw [HQ.out.1]; exact funsB_yes q0 HQ.out.2 fun j hj => HA.out j hj hj
          go_wp2
          go_ret
          exact ⟨ret_boolF HQ2.out.symm, HB.out⟩

end Go.Proofs.YtjibmpebebephaaGreatDoor.fun

namespace Go.Proofs.YtjibmpebebephaaGreatDoor.rose
open Go Go.RowKit Go.Deep Go.ChangeShapes Go.WideShapes
set_option linter.unusedVariables false

/-- An append to a row of the call's own, as one step of a region that draws its order. -/
theorem step_append_own {P : Program} {ops : Array Oper} {o : Oper} {a : Act} {w : World} {K : Act → World → Prop} {Q : Exit → Act → World → Prop} {E : Prop}
    (hg : o.guard = none) (s x : Operand) (t : TypeId) (hop : o.op = Op.call { callee := Callee.builtin Builtin.append, args := #[s, x], argTypes := #[t, t] })
    (base : Nat) (e : TypeId) (i : TypeInfo) (z : Value) (size bytes : Nat) (h1 : P.underlying t = some (.slice e)) (h2 : P.info? e = some i) (h3 : i.zero = some z) (h4 : i.size = size) (h5 : i.bytes = bytes) (h6 : z.cells.size = size) (h7 : 0 < size)
    (v : Value) (n : Nat) (xs : List Value) (hs : a.eval s = v) (hown : w.ownsRow base e size v n xs)
    (ad : Addr) (m c : Nat) (news : List Value) (hx : a.eval x = .slice (some ad) m c) (hn : news.length = m * size) (hc : ∀ j u, news[j]? = some u → w.cell? (ad.add j) = some u) (h1c : ∀ u ∈ news, u.oneCell' = true)
    (b1 : n + m ≤ maxLen) (b2 : (n + m) * bytes ≤ 140737488355328) (hbase : base ≤ w.heap.size)
    (hK : ∀ a' l' c' w', w'.ownsRow base e size (.slice a' l' c') (n + m) (xs ++ news) → w.grownBy w' v.ownBlock → ((Value.slice a' l' c').ownBlock = v.ownBlock ∨ (Value.slice a' l' c').ownBlock = some w.heap.size) → K (a.put o.dst (.slice a' l' c')) w') :
    if Region.wanted o (yielded ops a.tmps) = true then Oper.wp P o a w K Q else E := by
  have hw : Region.wanted o (yielded ops a.tmps) = true := by simp [Region.wanted, hg]
  rw [if_pos hw]
  obtain ⟨v', w', hrun, r1, r2, -, r3⟩ := run_append_own_at (P := P) w base t o.type e i z size bytes h1 h2 h3 h4 h5 h6 h7 v n xs hown ad m c news hn hc h1c b1 b2 hbase
  obtain ⟨a', l', c', rfl⟩ : ∃ a' l' c', v' = .slice a' l' c' := by
    rcases r1.2 with ⟨rfl, _⟩ | ⟨_, _, _, rfl, _⟩
    · exact ⟨_, _, _, rfl⟩
    · exact ⟨_, _, _, rfl⟩
  unfold Oper.wp
  simp [execOp, hop, resolve, invoke, builtin, hs, hx, hrun, Result.andThen]
  exact hK a' l' c' w' r1 r2 r3

/-- A call of a Go function by its contract, as one step of a region that draws its order. -/
theorem step_call {P : Program} {ops : Array Oper} {o : Oper} {a : Act} {w : World} {K : Act → World → Prop} {Q : Exit → Act → World → Prop} {E : Prop}
    (hg : o.guard = none) (f : FuncId) (hent : Enters P f) (xs : Array Operand) (ts : Array TypeId) (hop : o.op = Op.call { callee := Callee.value (Operand.func f), args := xs, argTypes := ts }) (args : Array Value)
    (R : Ending → World → Prop) (h : Calls P f args w R) (ha : xs.map a.eval = args) (hK : ∀ e w', R e w' → ∃ v, e = .returned v ∧ K (a.put o.dst v) w') :
    if Region.wanted o (yielded ops a.tmps) = true then Oper.wp P o a w K Q else E := by
  have hw : Region.wanted o (yielded ops a.tmps) = true := by simp [Region.wanted, hg]
  rw [if_pos hw]
  have hr : (execOp a.eval o).run P w = .ok (.enter f args) w := by
    subst ha
    obtain ⟨dst, op, ty, pos, after, guard⟩ := o
    have hop' : op = Op.call { callee := Callee.value (Operand.func f), args := xs, argTypes := ts } := hop
    subst hop'
    have hx : execOp a.eval { dst, op := .call { callee := .value (.func f), args := xs, argTypes := ts }, type := ty, pos, after, guard } = callFunc f (xs.map a.eval) := by
      show callFunc f (#[] ++ xs.map a.eval ++ #[]) = _
      simp
    rw [hx]
    exact hent _ _
  unfold Oper.wp
  rw [hr, Oper.upon_enter]
  refine h.mono fun e w' hR => ?_
  obtain ⟨v, rfl, hk⟩ := hK e w' hR
  exact hk

/-- The cells of a new block. -/
theorem cells_new (w : World) (cs : List Value) (t : TypeId) (arr : Array Value) (ha : arr = cs.toArray) : ∀ j u, cs[j]? = some u → (w.alloc (.cells arr t)).cell? ((⟨w.heap.size, 0, none⟩ : Addr).add j) = some u := by
  subst ha
  intro j u hj
  have hh : (w.alloc (.cells cs.toArray t)).heap[w.heap.size]? = some (.cells cs.toArray t) := alloc_top w (.cells cs.toArray t)
  rw [add_plain, Nat.zero_add]
  simp only [World.cell?, hh]
  simpa using hj

/-- WHAT HAS GROWN: element i's cells, and the blocks in which the rest of it lies. -/
def Grown {α : Type} (A : Sh α) (t : TypeId) (w : World) (base : Nat) (v : Value) (xs : List α) : Prop :=
  ∃ (css : Nat → List Value) (F : Nat → Nat → Prop), w.ownsRow base t A.k v xs.length (flat css xs.length) ∧ (∀ i (h : i < xs.length), A.rep w (F i) (css i) xs[i]) ∧
    (∀ i, i < xs.length → ∀ b, F i b → base ≤ b ∧ b < w.heap.size ∧ v.ownBlock ≠ some b) ∧ ∀ i j, i < xs.length → j < xs.length → i ≠ j → ∀ b, F i b → ¬ F j b

theorem Grown.nil {α : Type} (A : Sh α) (t : TypeId) (w : World) (base : Nat) : Grown A t w base (.slice none 0 0) ([] : List α) :=
  ⟨fun _ => [], fun _ _ => False, World.ownsRow_nil w base t A.k, fun i h => absurd h (Nat.not_lt_zero _), fun i h => absurd h (Nat.not_lt_zero _), fun i j h => absurd h (Nat.not_lt_zero _)⟩

theorem Grown.on {α : Type} {A : Sh α} {t : TypeId} {w w' : World} {base : Nat} {v : Value} {xs : List α} (h : Grown A t w base v xs) (hs : w.heap.size ≤ w'.heap.size) (hb : ∀ b, base ≤ b → b < w.heap.size → w'.heap[b]? = w.heap[b]?) : Grown A t w' base v xs := by
  obtain ⟨css, F, ⟨hl, hv⟩, hr, hf, ha⟩ := h
  refine ⟨css, F, ⟨hl, ?_⟩, fun i hi => A.on (hr i hi) fun b hS => hb b (hf i hi b hS).1 (hf i hi b hS).2.1, fun i hi b hS => ⟨(hf i hi b hS).1, Nat.lt_of_lt_of_le (hf i hi b hS).2.1 hs, (hf i hi b hS).2.2⟩, ha⟩
  rcases hv with h0 | ⟨g, cap, cur, h1, h2, h3, h4⟩
  · exact Or.inl h0
  · exact Or.inr ⟨g, cap, cur, h1, h2, by rw [hb g h2 (Array.getElem?_eq_some_iff.1 h3).1]; exact h3, h4⟩

theorem Grown.row {α : Type} {A : Sh α} {t : TypeId} {w : World} {base : Nat} {v : Value} {xs : List α} (h : Grown A t w base v xs) : ∃ ys, w.ownsRow base t A.k v xs.length ys := by
  obtain ⟨css, F, h1, -⟩ := h
  exact ⟨_, h1⟩
theorem Grown.slice {α : Type} {A : Sh α} {t : TypeId} {w : World} {base : Nat} {v : Value} {xs : List α} (h : Grown A t w base v xs) : ∃ a c, v = .slice a xs.length c := by
  obtain ⟨css, F, ⟨hl, hv⟩, -⟩ := h
  rcases hv with ⟨rfl, h0⟩ | ⟨g, cap, cur, h1, -⟩
  · exact ⟨_, _, by rw [h0]⟩
  · exact ⟨_, _, h1⟩
theorem Grown.own {α : Type} {A : Sh α} {t : TypeId} {w : World} {base : Nat} {v : Value} {xs : List α} (h : Grown A t w base v xs) {g : Nat} (hg : v.ownBlock = some g) : base ≤ g ∧ g < w.heap.size := by
  obtain ⟨css, F, ⟨hl, hv⟩, -⟩ := h
  rcases hv with ⟨rfl, h0⟩ | ⟨q, cap, cur, rfl, h2, h3, -⟩
  · cases hg
  · simp only [Value.ownBlock, Option.some.injEq] at hg
    subst hg
    exact ⟨h2, (Array.getElem?_eq_some_iff.1 h3).1⟩

/-- One more: its rest lies in blocks that are new since w; the append made w' of w1. -/
theorem Grown.push {α : Type} {A : Sh α} {t : TypeId} {w w1 w' : World} {base : Nat} {v : Value} {xs : List α} {css : Nat → List Value} {F : Nat → Nat → Prop} {a' : Option Addr} {l' c' : Nat} {cs : List Value} {x : α} {lo hi : Nat}
    (hr : ∀ i (h : i < xs.length), A.rep w1 (F i) (css i) xs[i]) (hf : ∀ i, i < xs.length → ∀ b, F i b → base ≤ b ∧ b < lo ∧ v.ownBlock ≠ some b) (ha : ∀ i j, i < xs.length → j < xs.length → i ≠ j → ∀ b, F i b → ¬ F j b)
    (hv : ∀ g, v.ownBlock = some g → g < lo) (hx : A.rep w1 (fun b => lo ≤ b ∧ b < hi) cs x) (hb : base ≤ lo) (h1 : lo ≤ hi) (h2 : hi ≤ w1.heap.size)
    (ho : w'.ownsRow base t A.k (.slice a' l' c') (xs.length + 1) (flat css xs.length ++ cs)) (hg : w1.grownBy w' v.ownBlock) (hat : (Value.slice a' l' c').ownBlock = v.ownBlock ∨ (Value.slice a' l' c').ownBlock = some w1.heap.size) :
    Grown A t w' base (.slice a' l' c') (xs ++ [x]) := by
  have same : ∀ b, b < w1.heap.size → v.ownBlock ≠ some b → w'.heap[b]? = w1.heap[b]? := fun b hb hn => hg.block b hb fun e => hn e.symm
  refine ⟨fun i => if i < xs.length then css i else cs, fun i => if i < xs.length then F i else fun b => lo ≤ b ∧ b < hi, ?_, fun i hi => ?_, fun i hi b => ?_, fun i j hi hj hne b => ?_⟩
  · rw [List.length_append, List.length_singleton, flat_succ, if_neg (Nat.lt_irrefl _)]
    have : flat (fun i => if i < xs.length then css i else cs) xs.length = flat css xs.length := by
      unfold flat
      exact Go.Deep.flatMap_congr_range fun i hi => by simp [hi]
    rw [this]
    exact ho
  · rw [List.length_append, List.length_singleton] at hi
    by_cases hlt : i < xs.length
    · simp only [if_pos hlt]
      rw [List.getElem_append_left hlt]
      exact A.on (hr i hlt) fun b hS => same b (by have := (hf i hlt b hS).2.1; omega) (hf i hlt b hS).2.2
    · simp only [if_neg hlt]
      rw [List.getElem_append_right (by omega)]
      simp only [List.getElem_singleton]
      exact A.on hx fun b hS => same b (by omega) fun e => by have := hv b e; omega
  · rw [List.length_append, List.length_singleton] at hi
    by_cases hlt : i < xs.length
    · simp only [if_pos hlt]
      intro hS
      obtain ⟨q1, q2, q3⟩ := hf i hlt b hS
      refine ⟨q1, by have := hg.size; omega, fun e => ?_⟩
      rcases hat with h | h
      · exact q3 (h.symm.trans e)
      · rw [h] at e; simp only [Option.some.injEq] at e; omega
    · simp only [if_neg hlt]
      intro hS
      refine ⟨by omega, by have := hg.size; omega, fun e => ?_⟩
      rcases hat with h | h
      · have := hv b (h.symm.trans e); omega
      · rw [h] at e; simp only [Option.some.injEq] at e; omega
  · rw [List.length_append, List.length_singleton] at hi hj
    by_cases h1 : i < xs.length
    · by_cases h2 : j < xs.length
      · simp only [if_pos h1, if_pos h2]; exact ha i j h1 h2 hne b
      · simp only [if_pos h1, if_neg h2]
        intro q1 q2
        have := (hf i h1 b q1).2.1; omega
    · by_cases h2 : j < xs.length
      · simp only [if_neg h1, if_pos h2]
        intro q1 q2
        have := (hf j h2 b q2).2.1; omega
      · omega

/-- What has grown lies apart. -/
theorem Grown.sslice {α : Type} {A : Sh α} {t : TypeId} {w : World} {base : Nat} {v : Value} {xs : List α} (h : Grown A t w base v xs) (hk : 0 < A.k) : A.sslice.rep w (fun b => base ≤ b ∧ b < w.heap.size) [v] xs := by
  obtain ⟨css, F, ⟨hl, hv⟩, hr, hf, ha⟩ := h
  rcases hv with ⟨rfl, h0⟩ | ⟨g, cap, cur, rfl, h2, h3, h4, h5, h6, h7⟩
  · have : xs = [] := List.eq_nil_of_length_eq_zero h0
    subst this
    exact ⟨none, 0, fun _ => [], fun _ _ => False, rfl, Nat.le_refl _, Nat.zero_le _, fun _ => rfl, fun h => absurd h (Nat.lt_irrefl _), fun i hi => absurd hi (Nat.not_lt_zero _), fun i j hi => absurd hi (Nat.not_lt_zero _), fun i hi => absurd hi (Nat.not_lt_zero _)⟩
  · have hg : g < w.heap.size := (Array.getElem?_eq_some_iff.1 h3).1
    refine ⟨some ⟨g, 0, none⟩, cap, css, F, rfl, h4, h5, (fun h => by cases h), fun _ => ⟨g, 0, cur, t, rfl, ⟨h2, hg⟩, h3, fun i hi q => (hf i hi g q).2.2 rfl, fun i hi j u hj => ?_⟩, fun i hi b hS => ⟨(hf i hi b hS).1, (hf i hi b hS).2.1⟩, ha, hr⟩
    have hjk : j < A.k := by
      rcases Nat.lt_or_ge j A.k with h' | h'
      · exact h'
      · rw [List.getElem?_eq_none (by rw [A.len (hr i hi)]; exact h')] at hj; cases hj
    have hf' := flat_get (css := css) (n := xs.length) (k := A.k) (fun i hi => A.len (hr i hi)) hi hjk
    rw [hj, ← h7, List.getElem?_take] at hf'
    have hlt : i * A.k + j < xs.length * A.k := by
      have := Nat.mul_le_mul_right A.k (show i + 1 ≤ xs.length by omega)
      rw [Nat.succ_mul] at this; omega
    rw [if_pos hlt] at hf'
    simp only [World.cell?, h3, Nat.zero_add]
    rw [Array.getElem?_toList] at hf'
    exact hf'

end Go.Proofs.YtjibmpebebephaaGreatDoor.rose

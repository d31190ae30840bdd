/-
  The model's tests of a type (l4TyDeep, l4Ty): how deep it is, and whether it is tidy with so many vars; nothing that was there is turned.
  A type that is tidy and has at most so many storeys.
  The model's Deep: how many nodes of a tree are within each other; nothing that was there is turned.
  What a tidy node is: sorts, labels, how many kids, the kids' sorts.
  A node that is tidy, of a sort, and has at most so many storeys.
  What a tidy con, data and program are, and the model's and the program's small facts of them.
-/
import Derived.Test.YtlnpfnglphdaiaaGreatDoorChecked
import Derived.WalkKit
import Derived.WalkLawsBesides
import Derived.Deep.QuietTactic
import Derived.BigQuiet
import Derived.Laws.AppendOwnNone
import Derived.Laws.AppendOwn
import Derived.Test.YtlnpfnglphdaiaaGreatDoorB1
import Derived.Test.YtlnpfnglphdaiaaGreatDoorB2
import Derived.Test.YtlnpfnglphdaiaaGreatDoorB3
import Derived.Test.YtlnpfnglphdaiaaGreatDoorB4
import Derived.Test.YtlnpfnglphdaiaaGreatDoorB5
import Derived.Test.YtlnpfnglphdaiaaGreatDoorB6
import Derived.Test.YtlnpfnglphdaiaaGreatDoorB7
import Derived.Test.YtlnpfnglphdaiaaGreatDoorB8
import Derived.Test.YtlnpfnglphdaiaaGreatDoorB9
import Derived.Test.YtlnpfnglphdaiaaGreatDoorB10
import Derived.Test.YtlnpfnglphdaiaaGreatDoorB11
import Derived.Test.YtlnpfnglphdaiaaGreatDoorB12
import Derived.Test.YtlnpfnglphdaiaaGreatDoorB13
import Derived.Test.YtlnpfnglphdaiaaGreatDoorB14
import Derived.Test.YtlnpfnglphdaiaaGreatDoorB15
import Derived.Test.YtlnpfnglphdaiaaGreatDoorB16
import Derived.Test.YtlnpfnglphdaiaaGreatDoorB17
import Derived.Test.YtlnpfnglphdaiaaGreatDoorB18
import Derived.Test.YtlnpfnglphdaiaaGreatDoorB19
import Derived.Test.YtlnpfnglphdaiaaGreatDoorB20
import Derived.Test.YtlnpfnglphdaiaaGreatDoorB21
import Derived.Test.YtlnpfnglphdaiaaGreatDoorB22
import Derived.Test.YtlnpfnglphdaiaaGreatDoorB23
import Derived.Test.YtlnpfnglphdaiaaGreatDoorB24
import Derived.Test.YtlnpfnglphdaiaaGreatDoorB25
import Derived.Test.YtlnpfnglphdaiaaGreatDoorB26
import Derived.Test.YtlnpfnglphdaiaaGreatDoorB27
import Derived.Test.YtlnpfnglphdaiaaGreatDoorB28
namespace Go.Proofs.YtlnpfnglphdaiaaGreatDoor.ty
open Go.RowKit Go.Proofs.YtlnpfnglphdaiaaGreatDoor.rose Go.Proofs.YtlnpfnglphdaiaaGreatDoor words4
set_option linter.unusedVariables false

mutual
/-- How deep a type is. -/
def dp : TyD → Nat
  | .mk _ ks => dps ks + 1
def dps : List TyD → Nat
  | [] => 0
  | k :: ks => max (dp k) (dps ks)
end

theorem dps_take {ks : List TyD} {i : Nat} (h : i < ks.length) : dps (ks.take (i + 1)) = max (dps (ks.take i)) (dp ks[i]) := by
  induction ks generalizing i with
  | nil => simp at h
  | cons k ks ih =>
    cases i with
    | zero => simp [dps]
    | succ i => simp [dps, ih (by simpa using h)]
theorem dp_le (T : TyD) : dp T ≤ wt T + 1 := by
  induction T using ind with
  | h x ks ih =>
    have : dps ks ≤ ks.length + wts ks := by
      induction ks with
      | nil => simp [dps]
      | cons k ks ih2 =>
        have h1 := ih k (by simp)
        have h2 := ih2 (fun q hq => ih q (by simp [hq]))
        simp [dps, wts]; omega
    obtain ⟨x0, x1, x2⟩ := x
    simp [dp, wt]; omega
theorem dps_take_le (ks : List TyD) (i : Nat) : dps (ks.take i) ≤ dps ks := by
  induction ks generalizing i with
  | nil => simp
  | cons k ks ih =>
    cases i with
    | zero => simp [dps]
    | succ i => simp only [List.take_succ_cons, dps]; have := ih i; omega
theorem dp_mem {ks : List TyD} {k : TyD} (h : k ∈ ks) : dp k ≤ dps ks := by
  induction ks with
  | nil => cases h
  | cons a ks ih =>
    simp only [dps]
    rcases List.mem_cons.1 h with rfl | h
    · omega
    · have := ih h; omega

/-- What a type must be beside its kids. -/
def aloneB (vars op n : Int) (s : ByteArray) (k : Nat) : Bool :=
  if op = 1 then decide (n = 0) && (s.toList == [] && ((k : Int) == 0))
  else if op = 2 then decide (0 ≤ n ∧ n < vars) && (s.toList == [] && ((k : Int) == 0))
  else if op = 3 then decide (n = 0) && (s.toList == [] && ((k : Int) == 2))
  else if op = 4 then decide (n = 0) && conB s
  else false

mutual
/-- Whether it is tidy. -/
def okTy (vars : Int) : TyD → Bool
  | .mk (op, n, s) ks => okTys vars ks && aloneB vars op n s ks.length
def okTys (vars : Int) : List TyD → Bool
  | [] => true
  | k :: ks => okTy vars k && okTys vars ks
end
theorem okTys_take {vars : Int} {ks : List TyD} {i : Nat} (h : i < ks.length) : okTys vars (ks.take (i + 1)) = (okTys vars (ks.take i) && okTy vars ks[i]) := by
  induction ks generalizing i with
  | nil => simp at h
  | cons k ks ih =>
    cases i with
    | zero => simp [okTys]
    | succ i => simp [okTys, ih (by simpa using h), Bool.and_assoc]
theorem okTys_no {vars : Int} {ks : List TyD} {i : Nat} (h : i < ks.length) (hk : okTy vars ks[i] = false) : okTys vars ks = false := by
  induction ks generalizing i with
  | nil => simp at h
  | cons k ks ih =>
    cases i with
    | zero => simp at hk; simp [okTys, hk]
    | succ i => simp [okTys, ih (by simpa using h) (by simpa using hk)]

theorem max_any (x y : Nat) (hx : x ≤ 2000000) (hy : y ≤ 2000000) (w : World) : Calls Tryz.prog 33 #[.int .i64 (x : Nat), .int .i64 (y : Nat)] w fun e w' => e = .returned (.int .i64 ((max x y : Nat) : Int)) ∧ w' = w := by
  by_cases h : (x : Int) > y
  · go_enter Tryz.func33, Tryz.ntmps33
    go_wp2
    go_ret
    exact ⟨by rw [show max x y = x by omega]; rfl, rfl⟩
  · go_enter Tryz.func33, Tryz.ntmps33
    go_wp2
    go_ret
    exact ⟨by rw [show max x y = y by omega]; rfl, rfl⟩

def DpSays (T : TyD) : Prop := ∀ cs w, wt T ≤ 1048576 → tySh.rep w (· < w.heap.size) cs T →
  Calls Tryz.prog 69 #[.agg cs.toArray] w fun e w' => e = .returned (.int .i64 (dp T : Nat)) ∧ Below w.heap.size w w'

set_option maxHeartbeats 1000000 in
theorem deep_any (T : TyD) : DpSays T := by
  induction T using ind with
  | h x ks ih =>
    intro cs w hw h
    obtain ⟨op, n, s, ks', a, cap, hT, rfl, f0, f1, f2, hk⟩ := ty_open h
    cases hT
    clear h
    obtain ⟨a1, cap1, css, e, hcap, hmax, hrow, hk2⟩ := tys_open hk
    cases e
    have hle := dp_le (.mk (op, n, s) ks)
    have hws : wts ks ≤ 1048576 ∧ ks.length ≤ 1048576 ∧ dps ks ≤ 1048576 := by simp [wt, dp] at hw hle; omega
    obtain ⟨hws, hkl, hds⟩ := hws
    have IH : Hid (∀ k ∈ ks, DpSays k) := ih
    have HR : Hid (RowAt w (· < w.heap.size) 4 a ks.length css ∧ ∀ i (h : i < ks.length), tySh.rep w (· < w.heap.size) (css i) ks[i]) := ⟨hrow, hk2⟩
    clear ih hrow hk2 hk hcap hmax hw hle f0 f1 f2
    go_enter Tryz.func69, Tryz.ntmps69
    go_wp2
    have T1 : Hid ((w.alloc (.cells #[.int .i64 op, .int .i64 n, .string s, .slice a ks.length cap] 145)).cell? ⟨w.heap.size, 3, none⟩ = some (.slice a ks.length cap)) := by
      show _ = _
      simp
    have B0 : Hid (Below w.heap.size w (w.alloc (.cells #[.int .i64 op, .int .i64 n, .string s, .slice a ks.length cap] 145))) := (Below.refl _ _).alloc (Nat.le_refl _) _
    have Z0 : Hid ((w.alloc (.cells #[.int .i64 op, .int .i64 n, .string s, .slice a ks.length cap] 145)).heap.size = w.heap.size + 1) := by show _ = _; simp
    generalize w.alloc (.cells #[.int .i64 op, .int .i64 n, .string s, .slice a ks.length cap] 145) = w0 at T1 B0 Z0 ⊢
    go_loopw [3, 4] (fun v3 v4 wr => ∃ i : Nat, i ≤ ks.length ∧ v4 = .int .i64 i ∧ v3 = .int .i64 (dps (ks.take i) : Nat) ∧ Hid (Below w0.heap.size w0 wr)) (fun _ v4 _ => ks.length - (intOf v4).toNat)
    case atStart => exact ⟨0, Nat.zero_le _, rfl, by simp [dps], Below.refl _ _⟩
    case round =>
      obtain ⟨i, hi, rfl, rfl, HB⟩ := hrel
      have c4 : wr.cell? ⟨w.heap.size, 3, none⟩ = some (.slice a ks.length cap) := (HB.out.cell (p := ⟨w.heap.size, 3, none⟩) (by simp [Z0.out])).trans T1.out
      by_cases hlt : i < ks.length
      · obtain ⟨b, o, rfl, hS, hc⟩ := HR.out.1 i hlt
        have hrep := HR.out.2 i hlt
        have BW : Below w.heap.size w wr := B0.out.trans (HB.out.mono (by rw [Z0.out]; omega))
        obtain ⟨v0, v1, v2, v3, hcs, c0, c1, c2, c3⟩ := ty_cells hrep hc
        have e0 := (BW.cell (p := ⟨b, o + i * 4, none⟩) hS).trans c0
        have e1 := (BW.cell (p := ⟨b, o + i * 4 + 1, none⟩) hS).trans c1
        have e2 := (BW.cell (p := ⟨b, o + i * 4 + 2, none⟩) hS).trans c2
        have e3 := (BW.cell (p := ⟨b, o + i * 4 + 3, none⟩) hS).trans c3
        rw [hcs] at hrep
        clear c0 c1 c2 c3 hc hcs
        have hR := tySh.mono (tySh.below hrep BW) (S' := (· < wr.heap.size)) (fun b hb => Nat.lt_of_lt_of_le hb BW.size)
        have hwi : wt ks[i] ≤ 1048576 := by have := wt_mem (List.getElem_mem hlt); omega
        have hdi : dp ks[i] ≤ 2000000 := by have := dp_mem (List.getElem_mem hlt); omega
        have hdt : dps (ks.take i) ≤ 2000000 := by have := dps_take_le ks i; omega
        have D1 : Hid (dps (ks.take (i + 1)) = max (dps (ks.take i)) (dp ks[i])) := dps_take hlt
        have hcall := IH.out ks[i] (List.getElem_mem hlt) [v0, v1, v2, v3] wr hwi hR
        clear hR hrep BW
        go_wp2_with fail
        refine hcall.mono ?_
        clear hcall
        rintro e w1 ⟨rfl, hb⟩
        have B1 : Hid (Below w0.heap.size w0 w1) := HB.out.trans (hb.mono HB.out.size)
        clear hb HB c4 e0 e1 e2 e3
        go_wp2_with fail
        refine (max_any _ _ hdt hdi _).mono ?_
        rintro e w2 ⟨rfl, rfl⟩
        rw [← D1.out]
        go_wp2
        go_round
        case rel => exact ⟨i + 1, by omega, by go_num, rfl, B1⟩
        case measure => simp [intOf]; omega
      · obtain rfl : i = ks.length := by omega
        rw [List.take_length]
        go_wp2
        go_ret
        exact ⟨by simp [dp], B0.out.trans (HB.out.mono (by rw [Z0.out]; omega))⟩

def OkSays (T : TyD) : Prop := ∀ cs w (vars : Int), 0 ≤ vars → vars ≤ 26 → wt T ≤ 1048576 → tySh.rep w (· < w.heap.size) cs T →
  Calls Tryz.prog 70 #[.agg cs.toArray, .int .i64 vars] w fun e w' => e = .returned (.bool (okTy vars T)) ∧ Below w.heap.size w w'

set_option maxHeartbeats 4000000 in
theorem ok_any (T : TyD) : OkSays T := by
  induction T using ind with
  | h x ks ih =>
    intro cs w vars hv0 hv1 hw h
    obtain ⟨op, n, s, ks', a, cap, hT, rfl, f0, f1, f2, hk⟩ := ty_open h
    cases hT
    clear h
    obtain ⟨a1, cap1, css, e, hcap, hmax, hrow, hk2⟩ := tys_open hk
    cases e
    have hws : wts ks ≤ 1048576 ∧ ks.length ≤ 1048576 := by simp [wt] at hw; omega
    obtain ⟨hws, hkl⟩ := hws
    have IH : Hid (∀ k ∈ ks, OkSays k) := ih
    have HR : Hid (RowAt w (· < w.heap.size) 4 a ks.length css ∧ ∀ i (h : i < ks.length), tySh.rep w (· < w.heap.size) (css i) ks[i]) := ⟨hrow, hk2⟩
    have HO : Hid (okTy vars (.mk (op, n, s) ks) = (okTys vars ks && aloneB vars op n s ks.length)) := by show _ = _; rw [okTy]
    generalize okTy vars (.mk (op, n, s) ks) = q at HO ⊢
    clear ih hrow hk2 hk hcap hmax hw
    go_enter Tryz.func70, Tryz.ntmps70
    go_wp2
    have T0 : Hid ((w.alloc (.cells #[.int .i64 op, .int .i64 n, .string s, .slice a ks.length cap] 145)).cell? ⟨w.heap.size, 0, none⟩ = some (.int .i64 op)) := by show _ = _; simp
    have T1 : Hid ((w.alloc (.cells #[.int .i64 op, .int .i64 n, .string s, .slice a ks.length cap] 145)).cell? ⟨w.heap.size, 1, none⟩ = some (.int .i64 n)) := by show _ = _; simp
    have T2 : Hid ((w.alloc (.cells #[.int .i64 op, .int .i64 n, .string s, .slice a ks.length cap] 145)).cell? ⟨w.heap.size, 2, none⟩ = some (.string s)) := by show _ = _; simp
    have T3 : Hid ((w.alloc (.cells #[.int .i64 op, .int .i64 n, .string s, .slice a ks.length cap] 145)).cell? ⟨w.heap.size, 3, none⟩ = some (.slice a ks.length cap)) := by show _ = _; simp
    have B0 : Hid (Below w.heap.size w (w.alloc (.cells #[.int .i64 op, .int .i64 n, .string s, .slice a ks.length cap] 145))) := (Below.refl _ _).alloc (Nat.le_refl _) _
    have Z0 : Hid ((w.alloc (.cells #[.int .i64 op, .int .i64 n, .string s, .slice a ks.length cap] 145)).heap.size = w.heap.size + 1) := by show _ = _; simp
    generalize w.alloc (.cells #[.int .i64 op, .int .i64 n, .string s, .slice a ks.length cap] 145) = w0 at T0 T1 T2 T3 B0 Z0 ⊢
    go_loopw [5] (fun v5 wr => ∃ i : Nat, i ≤ ks.length ∧ v5 = .int .i64 i ∧ Hid (okTys vars (ks.take i) = true) ∧ Hid (Below w0.heap.size w0 wr)) (fun v5 _ => ks.length - (intOf v5).toNat)
    case atStart => exact ⟨0, Nat.zero_le _, rfl, by show _ = _; simp [okTys], Below.refl _ _⟩
    case round =>
      obtain ⟨i, hi, rfl, HA, HB⟩ := hrel
      have c4 : wr.cell? ⟨w.heap.size, 3, none⟩ = some (.slice a ks.length cap) := (HB.out.cell (p := ⟨w.heap.size, 3, none⟩) (by simp [Z0.out])).trans T3.out
      by_cases hlt : i < ks.length
      · obtain ⟨b, o, rfl, hS, hc⟩ := HR.out.1 i hlt
        have hrep := HR.out.2 i hlt
        have BW : Below w.heap.size w wr := B0.out.trans (HB.out.mono (by rw [Z0.out]; omega))
        obtain ⟨v0, v1, v2, v3, hcs, c0, c1, c2, c3⟩ := ty_cells hrep hc
        have e0 := (BW.cell (p := ⟨b, o + i * 4, none⟩) hS).trans c0
        have e1 := (BW.cell (p := ⟨b, o + i * 4 + 1, none⟩) hS).trans c1
        have e2 := (BW.cell (p := ⟨b, o + i * 4 + 2, none⟩) hS).trans c2
        have e3 := (BW.cell (p := ⟨b, o + i * 4 + 3, none⟩) hS).trans c3
        rw [hcs] at hrep
        clear c0 c1 c2 c3 hc hcs
        have hR := tySh.mono (tySh.below hrep BW) (S' := (· < wr.heap.size)) (fun b hb => Nat.lt_of_lt_of_le hb BW.size)
        have hwi : wt ks[i] ≤ 1048576 := by have := wt_mem (List.getElem_mem hlt); omega
        have hcall := IH.out ks[i] (List.getElem_mem hlt) [v0, v1, v2, v3] wr vars hv0 hv1 hwi hR
        clear hR hrep BW
        by_cases hok : okTy vars ks[i] = true
        · have hA2 : Hid (okTys vars (ks.take (i + 1)) = true) := by show _ = _; rw [okTys_take hlt, HA.out, hok]; rfl
          rw [hok] at hcall
          clear hok HA
          go_wp2_with fail
          refine hcall.mono ?_
          clear hcall
          rintro e w1 ⟨rfl, hb⟩
          have B1 : Hid (Below w0.heap.size w0 w1) := HB.out.trans (hb.mono HB.out.size)
          clear hb HB c4 e0 e1 e2 e3
          go_wp2
          go_round
          case rel => exact ⟨i + 1, by omega, by go_num, hA2, B1⟩
          case measure => simp [intOf]; omega
        · have hok' : okTy vars ks[i] = false := by simpa using hok
          have hq : Hid (q = false) := by show _ = _; rw [HO.out, okTys_no hlt hok']; rfl
          rw [hok'] at hcall
          clear hok hok' HA
          go_wp2_with fail
          refine hcall.mono ?_
          clear hcall
          rintro e w1 ⟨rfl, hb⟩
          have B1 : Hid (Below w0.heap.size w0 w1) := HB.out.trans (hb.mono HB.out.size)
          clear hb HB c4 e0 e1 e2 e3
          go_wp2
          go_ret
          exact ⟨ret_bool hq.out.symm, B0.out.trans (B1.out.mono (by rw [Z0.out]; omega))⟩
      · obtain rfl : i = ks.length := by omega
        have hq : Hid (q = aloneB vars op n s ks.length) := by
          have := HA.out
          rw [List.take_length] at this
          show _ = _; rw [HO.out, this]; rfl
        have c0 : wr.cell? ⟨w.heap.size, 0, none⟩ = some (.int .i64 op) := (HB.out.cell (p := ⟨w.heap.size, 0, none⟩) (by simp [Z0.out])).trans T0.out
        have c1 : wr.cell? ⟨w.heap.size, 1, none⟩ = some (.int .i64 n) := (HB.out.cell (p := ⟨w.heap.size, 1, none⟩) (by simp [Z0.out])).trans T1.out
        have c2 : wr.cell? ⟨w.heap.size, 2, none⟩ = some (.string s) := (HB.out.cell (p := ⟨w.heap.size, 2, none⟩) (by simp [Z0.out])).trans T2.out
        have B1 : Hid (Below w.heap.size w wr) := B0.out.trans (HB.out.mono (by rw [Z0.out]; omega))
        have FS : Hid (s.size ≤ maxLen) := f2
        clear HA HO HB T0 T1 T2 T3 B0 Z0 HR IH f0 f1 f2 hi hlt
        by_cases o1 : op = 1
        · subst o1
          go_wp2
          all_goals
            go_ret
            refine ⟨ret_bool ?_, B1.out⟩
            rw [hq.out]
            simp_all [aloneB]
        · by_cases o2 : op = 2
          · subst o2
            by_cases hn0 : 0 ≤ n
            · by_cases hn1 : n ≤ vars - 1
              · have hq2 : Hid (q = (s.toList == [] && ((ks.length : Int) == 0))) := by
                  show _ = _; rw [hq.out]; unfold aloneB; rw [if_neg (by decide), if_pos rfl, decide_eq_true (show 0 ≤ n ∧ n < vars by omega)]; rfl
                clear hq
                go_wp2
                all_goals
                  go_ret
                  refine ⟨ret_bool ?_, B1.out⟩
                  rw [hq2.out]
                  simp_all
              · have hq2 : Hid (q = false) := by
                  show _ = _; rw [hq.out]; unfold aloneB; rw [if_neg (by decide), if_pos rfl, decide_eq_false (show ¬ (0 ≤ n ∧ n < vars) by omega)]; rfl
                clear hq
                go_wp2
                go_ret
                exact ⟨ret_bool hq2.out.symm, B1.out⟩
            · have hq2 : Hid (q = false) := by
                show _ = _; rw [hq.out]; unfold aloneB; rw [if_neg (by decide), if_pos rfl, decide_eq_false (show ¬ (0 ≤ n ∧ n < vars) by omega)]; rfl
              clear hq
              go_wp2
              go_ret
              exact ⟨ret_bool hq2.out.symm, B1.out⟩
          · by_cases o3 : op = 3
            · subst o3
              go_wp2
              all_goals
                go_ret
                refine ⟨ret_bool ?_, B1.out⟩
                rw [hq.out]
                simp_all [aloneB]
            · by_cases o4 : op = 4
              · subst o4
                go_wp2_with (go_at_call 68; refine (specCon s _ FS.out).mono ?_; rintro e w1 ⟨rfl, hb⟩)
                all_goals
                  go_ret
                  first | refine ⟨ret_bool ?_, B1.out⟩ | refine ⟨ret_bool ?_, B1.out.trans (hb.mono B1.out.size)⟩
                  rw [hq.out]
                  simp_all [aloneB]
              · go_wp2
                go_ret
                exact ⟨ret_bool (by rw [hq.out]; simp [aloneB, o1, o2, o3, o4]), B1.out⟩

end Go.Proofs.YtlnpfnglphdaiaaGreatDoor.ty

namespace Go.Proofs.YtlnpfnglphdaiaaGreatDoor.ty
open Go.RowKit Go.Proofs.YtlnpfnglphdaiaaGreatDoor.rose Go.Proofs.YtlnpfnglphdaiaaGreatDoor words4
set_option linter.unusedVariables false

/-- Tidy, and at most so many storeys. -/
def tidyL (vars : Int) : Nat → TyD → Bool
  | 0, _ => false
  | L + 1, .mk (op, n, s) ks => aloneB vars op n s ks.length && ks.all (tidyL vars L)

theorem tidyL_eq (vars : Int) (L : Nat) (T : TyD) : tidyL vars L T = (decide (dp T ≤ L) && okTy vars T) := by
  induction L generalizing T with
  | zero =>
    obtain ⟨x, ks⟩ := T
    simp [tidyL, dp]
  | succ L ih =>
    obtain ⟨⟨op, n, s⟩, ks⟩ := T
    have key : ks.all (tidyL vars L) = (decide (dps ks ≤ L) && okTys vars ks) := by
      induction ks with
      | nil => simp [dps, okTys]
      | cons k ks ih2 =>
        rw [List.all_cons, ih2, ih, dps, okTys]
        by_cases h1 : dp k ≤ L <;> by_cases h2 : dps ks ≤ L <;> simp [h1, h2, Nat.max_le] <;> cases okTy vars k <;> simp
    rw [tidyL, key, dp, okTy]
    cases okTys vars ks <;> cases aloneB vars op n s ks.length <;> simp

theorem all_take {p : TyD → Bool} {ks : List TyD} {i : Nat} (h : i < ks.length) : (ks.take (i + 1)).all p = ((ks.take i).all p && p ks[i]) := by
  rw [List.take_add_one, List.getElem?_eq_getElem h, List.all_append]; simp
theorem all_no {p : TyD → Bool} {ks : List TyD} {i : Nat} (h : i < ks.length) (hk : p ks[i] = false) : ks.all p = false := by
  rw [List.all_eq_false]; exact ⟨ks[i], List.getElem_mem h, by simp [hk]⟩

end Go.Proofs.YtlnpfnglphdaiaaGreatDoor.ty

namespace Go.Proofs.YtlnpfnglphdaiaaGreatDoor.node
open Go.RowKit Go.Proofs.YtlnpfnglphdaiaaGreatDoor.rose
set_option linter.unusedVariables false

mutual
/-- How deep a tree is. -/
def dp : Nd → Nat
  | .mk _ ks => dps ks + 1
def dps : List Nd → Nat
  | [] => 0
  | k :: ks => max (dp k) (dps ks)
end

theorem dps_take {ks : List Nd} {i : Nat} (h : i < ks.length) : dps (ks.take (i + 1)) = max (dps (ks.take i)) (dp ks[i]) := by
  induction ks generalizing i with
  | nil => simp at h
  | cons k ks ih =>
    cases i with
    | zero => simp [dps]
    | succ i => simp [dps, ih (by simpa using h)]
theorem dp_le (T : Nd) : dp T ≤ wt T + 1 := by
  induction T using ind with
  | h x ks ih =>
    have : dps ks ≤ ks.length + wts ks := by
      induction ks with
      | nil => simp [dps]
      | cons k ks ih2 =>
        have h1 := ih k (by simp)
        have h2 := ih2 (fun q hq => ih q (by simp [hq]))
        simp [dps, wts]; omega
    simp [dp, wt]; omega

/-- The storey below. -/
def below (L : List Nd) : List Nd := L.flatMap Rose.kids

theorem dps_append (a b : List Nd) : dps (a ++ b) = max (dps a) (dps b) := by
  induction a with
  | nil => simp [dps]
  | cons k a ih => simp [dps, ih]
theorem dps_below {L : List Nd} (h : L ≠ []) : dps L = dps (below L) + 1 := by
  induction L with
  | nil => exact absurd rfl h
  | cons k L ih =>
    cases k with
    | mk x ks =>
      by_cases hL : L = []
      · subst hL; simp [dps, dp, below, Rose.kids]
      · rw [dps, ih hL]; simp [dp, below, Rose.kids, dps_append]
theorem wts_append (a b : List Nd) : wts (a ++ b) = wts a + wts b := by
  induction a with
  | nil => simp [wts]
  | cons k a ih => simp [wts, ih]; omega
theorem wts_below (L : List Nd) : (below L).length + wts (below L) ≤ wts L := by
  induction L with
  | nil => simp [below, wts]
  | cons k L ih =>
    cases k with
    | mk x ks =>
      have e : below (Rose.mk x ks :: L) = ks ++ below L := by simp [below, Rose.kids]
      rw [e, List.length_append, wts_append, wts, wt]
      omega

def DpSays (T : Nd) : Prop := ∀ cs w, wt T ≤ 1048576 → ndSh.rep w (· < w.heap.size) cs T →
  Calls Tryz.prog 71 #[.agg cs.toArray] w fun e w' => e = .returned (.int .i64 (dp T : Nat)) ∧ Below w.heap.size w w'

theorem max_any (x y : Nat) (hx : x ≤ 2000000) (hy : y ≤ 2000000) (w : World) : Calls Tryz.prog 33 #[.int .i64 (x : Nat), .int .i64 (y : Nat)] w fun e w' => e = .returned (.int .i64 ((max x y : Nat) : Int)) ∧ w' = w := by
  by_cases h : (x : Int) > y
  · go_enter Tryz.func33, Tryz.ntmps33
    go_wp2
    go_ret
    exact ⟨by rw [show max x y = x by omega]; rfl, rfl⟩
  · go_enter Tryz.func33, Tryz.ntmps33
    go_wp2
    go_ret
    exact ⟨by rw [show max x y = y by omega]; rfl, rfl⟩

set_option maxHeartbeats 1000000 in
theorem spec_any (T : Nd) : DpSays T := by
  induction T using ind with
  | h x ks ih =>
    intro cs w hw h
    obtain ⟨op, n, s, t, a, cap, ks', hT, rfl, hs, ht, hk⟩ := nd_open h
    cases hT
    clear h
    obtain ⟨a1, cap1, css, e, hcap, hmax, hrow, hk2⟩ := nds_open hk
    cases e
    have hle := dp_le (.mk (op, n, s, t) ks)
    have hws : wts ks ≤ 1048576 ∧ ks.length ≤ 1048576 ∧ dps ks ≤ 1048576 := by simp [wt, dp] at hw hle; omega
    obtain ⟨hws, hkl, hds⟩ := hws
    have IH : Hid (∀ k ∈ ks, DpSays k) := ih
    have HR : Hid (RowAt w (· < w.heap.size) 5 a ks.length css ∧ ∀ i (h : i < ks.length), ndSh.rep w (· < w.heap.size) (css i) ks[i]) := ⟨hrow, hk2⟩
    clear ih hrow hk2 hk hcap hmax hw hle
    go_enter Tryz.func71, Tryz.ntmps71
    go_wp2
    have T1 : Hid ((w.alloc (.cells #[.int .i64 op, .int .i64 n, .string s, .string t, .slice a ks.length cap] 36)).cell? ⟨w.heap.size, 4, none⟩ = some (.slice a ks.length cap)) := by
      show _ = _
      simp
    have B0 : Hid (Below w.heap.size w (w.alloc (.cells #[.int .i64 op, .int .i64 n, .string s, .string t, .slice a ks.length cap] 36))) := (Below.refl _ _).alloc (Nat.le_refl _) _
    have Z0 : Hid ((w.alloc (.cells #[.int .i64 op, .int .i64 n, .string s, .string t, .slice a ks.length cap] 36)).heap.size = w.heap.size + 1) := by show _ = _; simp
    generalize w.alloc (.cells #[.int .i64 op, .int .i64 n, .string s, .string t, .slice a ks.length cap] 36) = w0 at T1 B0 Z0 ⊢
    go_loopw [3, 4] (fun v3 v4 wr => ∃ i : Nat, i ≤ ks.length ∧ v4 = .int .i64 i ∧ v3 = .int .i64 (dps (ks.take i) : Nat) ∧ Hid (Below w0.heap.size w0 wr)) (fun _ v4 _ => ks.length - (intOf v4).toNat)
    case atStart => exact ⟨0, Nat.zero_le _, rfl, by simp [dps], Below.refl _ _⟩
    case round =>
      obtain ⟨i, hi, rfl, rfl, HB⟩ := hrel
      have c4 : wr.cell? ⟨w.heap.size, 4, none⟩ = some (.slice a ks.length cap) := (HB.out.cell (p := ⟨w.heap.size, 4, none⟩) (by simp [Z0.out])).trans T1.out
      by_cases hlt : i < ks.length
      · obtain ⟨b, o, rfl, hS, hc⟩ := HR.out.1 i hlt
        have hrep := HR.out.2 i hlt
        have BW : Below w.heap.size w wr := B0.out.trans (HB.out.mono (by rw [Z0.out]; omega))
        obtain ⟨v0, v1, v2, v3, v4, hcs, c0, c1, c2, c3, c4'⟩ := nd_cells hrep hc
        have e0 := (BW.cell (p := ⟨b, o + i * 5, none⟩) hS).trans c0
        have e1 := (BW.cell (p := ⟨b, o + i * 5 + 1, none⟩) hS).trans c1
        have e2 := (BW.cell (p := ⟨b, o + i * 5 + 2, none⟩) hS).trans c2
        have e3 := (BW.cell (p := ⟨b, o + i * 5 + 3, none⟩) hS).trans c3
        have e4 := (BW.cell (p := ⟨b, o + i * 5 + 4, none⟩) hS).trans c4'
        rw [hcs] at hrep
        clear c0 c1 c2 c3 c4' hc hcs
        have hR := ndSh.mono (ndSh.below hrep BW) (S' := (· < wr.heap.size)) (fun b hb => Nat.lt_of_lt_of_le hb BW.size)
        have hwt : wt ks[i] ≤ 1048576 := by have := wts_take hlt; have := wts_take_le ks (i + 1); omega
        have hcall := IH.out ks[i] (List.getElem_mem hlt) [v0, v1, v2, v3, v4] wr hwt hR
        have D1 : Hid (dps (ks.take (i + 1)) = max (dps (ks.take i)) (dp ks[i])) := dps_take hlt
        have hx1 : dps (ks.take i) ≤ 2000000 := by
          have : dps ks = max (dps (ks.take i)) (dps (ks.drop i)) := by rw [← dps_append, List.take_append_drop]
          omega
        have hx2 : dp ks[i] ≤ 2000000 := by have := dp_le ks[i]; omega
        clear hrep hR BW hwt
        go_wp2_with fail
        refine hcall.mono ?_
        clear hcall
        rintro e w1 ⟨rfl, hb⟩
        have B1 : Hid (Below w0.heap.size w0 w1) := HB.out.trans (hb.mono HB.out.size)
        clear hb HB
        go_wp2_with fail
        refine (max_any _ _ hx1 hx2 _).mono ?_
        rintro e w2 ⟨rfl, rfl⟩
        rw [← D1.out]
        go_wp2
        go_round
        case rel => exact ⟨i + 1, by omega, by go_num, rfl, B1⟩
        case measure => simp [intOf]; omega
      · obtain rfl : i = ks.length := by omega
        rw [List.take_length]
        go_wp2
        go_ret
        exact ⟨by simp [dp], B0.out.trans (HB.out.mono (by rw [Z0.out]; omega))⟩

end Go.Proofs.YtlnpfnglphdaiaaGreatDoor.node

namespace Go.Proofs.YtlnpfnglphdaiaaGreatDoor.node
open Go.RowKit Go.Proofs.YtlnpfnglphdaiaaGreatDoor.rose Go.Proofs.YtlnpfnglphdaiaaGreatDoor words4
set_option linter.unusedVariables false
set_option linter.unusedSimpArgs false

def sortB (op : Int) : Int := if op = 8 then 2 else if 1 ≤ op ∧ op ≤ 16 then 1 else if 17 ≤ op ∧ op ≤ 20 then 3 else 0
def labelB (op n : Int) (s t : ByteArray) : Bool :=
  if op = 1 ∨ op = 19 then decide (0 ≤ n ∧ n ≤ 1073741823) && (s.toList == [] && t.toList == [])
  else if op = 2 ∨ op = 3 ∨ op = 5 ∨ op = 18 then n == 0 && (nameB s && t.toList == [])
  else if op = 6 then n == 0 && (nameB s && nameB t)
  else if op = 15 ∨ op = 20 then n == 0 && (conB s && t.toList == [])
  else n == 0 && (s.toList == [] && t.toList == [])
def fitB (op : Int) (k : Nat) : Bool :=
  if op = 1 ∨ op = 2 ∨ op = 17 ∨ op = 18 ∨ op = 19 then (k : Int) == 0
  else if op = 3 ∨ op = 16 then (k : Int) == 1
  else if op = 9 then (k : Int) == 3
  else if op = 7 then decide (2 ≤ (k : Int))
  else if op = 15 ∨ op = 20 then true
  else (k : Int) == 2
def kidSortB (op : Int) (i : Nat) : Int := if op = 7 ∧ 0 < i then 2 else if op = 8 then (if i = 0 then 3 else 1) else sortB op

mutual
/-- Whether a node is tidy, where that sort is asked. -/
def okN (sort : Int) : Nd → Bool
  | .mk (op, n, s, t) ks => decide (sortB op = sort) && (labelB op n s t && (fitB op ks.length && okNs op 0 ks))
def okNs (op : Int) (i : Nat) : List Nd → Bool
  | [] => true
  | k :: ks => okN (kidSortB op i) k && okNs op (i + 1) ks
end

theorem op_cases (op : Int) : op = 1 ∨ op = 2 ∨ op = 3 ∨ op = 4 ∨ op = 5 ∨ op = 6 ∨ op = 7 ∨ op = 8 ∨ op = 9 ∨ op = 10 ∨ op = 11 ∨ op = 12 ∨ op = 13 ∨ op = 14 ∨ op = 15 ∨ op = 16 ∨ op = 17 ∨ op = 18 ∨ op = 19 ∨ op = 20 ∨ (op < 1 ∨ 20 < op) := by omega

theorem ret_int {k : IntKind} {a b : Int} (h : a = b) : Ending.returned (.int k a) = .returned (.int k b) := by rw [h]

end Go.Proofs.YtlnpfnglphdaiaaGreatDoor.node

namespace Go.Proofs.YtlnpfnglphdaiaaGreatDoor.node
open Go.RowKit Go.Proofs.YtlnpfnglphdaiaaGreatDoor.rose Go.Proofs.YtlnpfnglphdaiaaGreatDoor words4
set_option linter.unusedVariables false
set_option linter.unusedSimpArgs false

/-- All kids, each by its sort. -/
def goK (f : Int → Nd → Bool) (op : Int) : Nat → List Nd → Bool
  | _, [] => true
  | i, k :: ks => f (kidSortB op i) k && goK f op (i + 1) ks

/-- Tidy, and at most so many storeys. -/
def tidyN : Nat → Int → Nd → Bool
  | 0, _, _ => false
  | L + 1, sort, .mk (op, n, s, t) ks => decide (sortB op = sort) && (labelB op n s t && (fitB op ks.length && goK (tidyN L) op 0 ks))

theorem tidyN_eq (L : Nat) (sort : Int) (T : Nd) : tidyN L sort T = (decide (dp T ≤ L) && okN sort T) := by
  induction L generalizing sort T with
  | zero =>
    obtain ⟨x, ks⟩ := T
    simp [tidyN, dp]
  | succ L ih =>
    obtain ⟨⟨op, n, s, t⟩, ks⟩ := T
    have key : ∀ (ks : List Nd) (i : Nat), goK (tidyN L) op i ks = (decide (dps ks ≤ L) && okNs op i ks) := by
      intro ks
      induction ks with
      | nil => intro i; simp [goK, dps, okNs]
      | cons k ks ih2 =>
        intro i
        rw [goK, ih2, ih, dps, okNs]
        by_cases h1 : dp k ≤ L <;> by_cases h2 : dps ks ≤ L <;> simp [h1, h2, Nat.max_le] <;> cases okN (kidSortB op i) k <;> simp
    rw [tidyN, key, dp, okN]
    by_cases h1 : dps ks ≤ L
    · have h2 : dps ks + 1 ≤ L + 1 := by omega
      simp [h1, h2]
    · have h2 : ¬ dps ks + 1 ≤ L + 1 := by omega
      simp [h1, h2]

theorem goK_take {f : Int → Nd → Bool} {op : Int} {ks : List Nd} {j : Nat} (h : j < ks.length) (i : Nat) : goK f op i (ks.take (j + 1)) = (goK f op i (ks.take j) && f (kidSortB op (i + j)) ks[j]) := by
  induction ks generalizing i j with
  | nil => simp at h
  | cons k ks ih =>
    cases j with
    | zero => simp [goK]
    | succ j =>
      simp only [List.take_succ_cons, goK, List.getElem_cons_succ]
      rw [ih (by simpa using h), Bool.and_assoc, show i + 1 + j = i + (j + 1) by omega]
theorem goK_no {f : Int → Nd → Bool} {op : Int} {ks : List Nd} {j : Nat} (h : j < ks.length) (i : Nat) (hk : f (kidSortB op (i + j)) ks[j] = false) : goK f op i ks = false := by
  induction ks generalizing i j with
  | nil => simp at h
  | cons k ks ih =>
    cases j with
    | zero => simp only [Nat.add_zero, List.getElem_cons_zero] at hk; simp [goK, hk]
    | succ j =>
      simp only [List.getElem_cons_succ] at hk
      rw [goK, ih (by simpa using h) (i + 1) (by rw [show i + 1 + j = i + (j + 1) by omega]; exact hk)]
      simp

end Go.Proofs.YtlnpfnglphdaiaaGreatDoor.node

namespace Go.Proofs.YtlnpfnglphdaiaaGreatDoor.prog
open Go.RowKit Go.Proofs.YtlnpfnglphdaiaaGreatDoor.rose Go.Proofs.YtlnpfnglphdaiaaGreatDoor words4
set_option linter.unusedVariables false

def conOkB (vars : Int) (c : con.ConD) : Bool := conB c.1 && c.2.all (ty.tidyL vars 24)
def dataOkB (d : data.DataD) : Bool := conB d.1 && (decide (0 ≤ d.2.1) && (decide (d.2.1 ≤ 26) && (!((d.2.2.length : Int) == 0) && d.2.2.all (conOkB d.2.1))))
def progOkB (p : ProgD) : Bool := p.1.all dataOkB && node.tidyN 24 1 p.2

theorem all_take {α : Type} {p : α → Bool} {ks : List α} {i : Nat} (h : i < ks.length) : (ks.take (i + 1)).all p = ((ks.take i).all p && p ks[i]) := by
  rw [List.take_add_one, List.getElem?_eq_getElem h, List.all_append]; simp
theorem all_no {α : Type} {p : α → Bool} {ks : List α} {i : Nat} (h : i < ks.length) (hk : p ks[i] = false) : ks.all p = false := by
  rw [List.all_eq_false]; exact ⟨ks[i], List.getElem_mem h, by simp [hk]⟩

end Go.Proofs.YtlnpfnglphdaiaaGreatDoor.prog

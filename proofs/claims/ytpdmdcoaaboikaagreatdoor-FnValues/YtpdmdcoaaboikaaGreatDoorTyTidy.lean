/-
  The model's tests of a type (l4TyDeep, l4Ty): how deep it is, and whether it is tidy with so many vars; nothing that was there is turned.
-/
import Derived.Test.YtpdmdcoaaboikaaGreatDoorTySh
import Derived.Test.YtpdmdcoaaboikaaGreatDoorSpecWords4
namespace Go.Proofs.YtpdmdcoaaboikaaGreatDoor.ty
open Go.RowKit Go.Proofs.YtpdmdcoaaboikaaGreatDoor.rose Go.Proofs.YtpdmdcoaaboikaaGreatDoor words4
set_option linter.unusedVariables false

mutual
/-- How deep a type is. -/
def dp : TyD → Nat
  | .mk _ ks => dps ks + 1
def dps : List TyD → Nat
  | [] => 0
  | k :: ks => max (dp k) (dps ks)
end

theorem dps_take {ks : List TyD} {i : Nat} (h : i < ks.length) : dps (ks.take (i + 1)) = max (dps (ks.take i)) (dp ks[i]) := by
  induction ks generalizing i with
  | nil => simp at h
  | cons k ks ih =>
    cases i with
    | zero => simp [dps]
    | succ i => simp [dps, ih (by simpa using h)]
theorem dp_le (T : TyD) : dp T ≤ wt T + 1 := by
  induction T using ind with
  | h x ks ih =>
    have : dps ks ≤ ks.length + wts ks := by
      induction ks with
      | nil => simp [dps]
      | cons k ks ih2 =>
        have h1 := ih k (by simp)
        have h2 := ih2 (fun q hq => ih q (by simp [hq]))
        simp [dps, wts]; omega
    obtain ⟨x0, x1, x2⟩ := x
    simp [dp, wt]; omega
theorem dps_take_le (ks : List TyD) (i : Nat) : dps (ks.take i) ≤ dps ks := by
  induction ks generalizing i with
  | nil => simp
  | cons k ks ih =>
    cases i with
    | zero => simp [dps]
    | succ i => simp only [List.take_succ_cons, dps]; have := ih i; omega
theorem dp_mem {ks : List TyD} {k : TyD} (h : k ∈ ks) : dp k ≤ dps ks := by
  induction ks with
  | nil => cases h
  | cons a ks ih =>
    simp only [dps]
    rcases List.mem_cons.1 h with rfl | h
    · omega
    · have := ih h; omega

/-- What a type must be beside its kids. -/
def aloneB (vars op n : Int) (s : ByteArray) (k : Nat) : Bool :=
  if op = 1 then decide (n = 0) && (s.toList == [] && ((k : Int) == 0))
  else if op = 2 then decide (0 ≤ n ∧ n < vars) && (s.toList == [] && ((k : Int) == 0))
  else if op = 3 then decide (n = 0) && (s.toList == [] && ((k : Int) == 2))
  else if op = 4 then decide (n = 0) && conB s
  else false

mutual
/-- Whether it is tidy. -/
def okTy (vars : Int) : TyD → Bool
  | .mk (op, n, s) ks => okTys vars ks && aloneB vars op n s ks.length
def okTys (vars : Int) : List TyD → Bool
  | [] => true
  | k :: ks => okTy vars k && okTys vars ks
end
theorem okTys_take {vars : Int} {ks : List TyD} {i : Nat} (h : i < ks.length) : okTys vars (ks.take (i + 1)) = (okTys vars (ks.take i) && okTy vars ks[i]) := by
  induction ks generalizing i with
  | nil => simp at h
  | cons k ks ih =>
    cases i with
    | zero => simp [okTys]
    | succ i => simp [okTys, ih (by simpa using h), Bool.and_assoc]
theorem okTys_no {vars : Int} {ks : List TyD} {i : Nat} (h : i < ks.length) (hk : okTy vars ks[i] = false) : okTys vars ks = false := by
  induction ks generalizing i with
  | nil => simp at h
  | cons k ks ih =>
    cases i with
    | zero => simp at hk; simp [okTys, hk]
    | succ i => simp [okTys, ih (by simpa using h) (by simpa using hk)]

theorem max_any (x y : Nat) (hx : x ≤ 2000000) (hy : y ≤ 2000000) (w : World) : Calls Tryz.prog 33 #[.int .i64 (x : Nat), .int .i64 (y : Nat)] w fun e w' => e = .returned (.int .i64 ((max x y : Nat) : Int)) ∧ w' = w := by
  by_cases h : (x : Int) > y
  · go_enter Tryz.func33, Tryz.ntmps33
    go_wp2
    go_ret
    exact ⟨by rw [show max x y = x by omega]; rfl, rfl⟩
  · go_enter Tryz.func33, Tryz.ntmps33
    go_wp2
    go_ret
    exact ⟨by rw [show max x y = y by omega]; rfl, rfl⟩

def DpSays (T : TyD) : Prop := ∀ cs w, wt T ≤ 1048576 → tySh.rep w (· < w.heap.size) cs T →
  Calls Tryz.prog 69 #[.agg cs.toArray] w fun e w' => e = .returned (.int .i64 (dp T : Nat)) ∧ Below w.heap.size w w'

set_option maxHeartbeats 1000000 in
theorem deep_any (T : TyD) : DpSays T := by
  induction T using ind with
  | h x ks ih =>
    intro cs w hw h
    obtain ⟨op, n, s, ks', a, cap, hT, rfl, f0, f1, f2, hk⟩ := ty_open h
    cases hT
    clear h
    obtain ⟨a1, cap1, css, e, hcap, hmax, hrow, hk2⟩ := tys_open hk
    cases e
    have hle := dp_le (.mk (op, n, s) ks)
    have hws : wts ks ≤ 1048576 ∧ ks.length ≤ 1048576 ∧ dps ks ≤ 1048576 := by simp [wt, dp] at hw hle; omega
    obtain ⟨hws, hkl, hds⟩ := hws
    have IH : Hid (∀ k ∈ ks, DpSays k) := ih
    have HR : Hid (RowAt w (· < w.heap.size) 4 a ks.length css ∧ ∀ i (h : i < ks.length), tySh.rep w (· < w.heap.size) (css i) ks[i]) := ⟨hrow, hk2⟩
    clear ih hrow hk2 hk hcap hmax hw hle f0 f1 f2
    go_enter Tryz.func69, Tryz.ntmps69
    go_wp2
    have T1 : Hid ((w.alloc (.cells #[.int .i64 op, .int .i64 n, .string s, .slice a ks.length cap] 145)).cell? ⟨w.heap.size, 3, none⟩ = some (.slice a ks.length cap)) := by
      show _ = _
      simp
    have B0 : Hid (Below w.heap.size w (w.alloc (.cells #[.int .i64 op, .int .i64 n, .string s, .slice a ks.length cap] 145))) := (Below.refl _ _).alloc (Nat.le_refl _) _
    have Z0 : Hid ((w.alloc (.cells #[.int .i64 op, .int .i64 n, .string s, .slice a ks.length cap] 145)).heap.size = w.heap.size + 1) := by show _ = _; simp
    generalize w.alloc (.cells #[.int .i64 op, .int .i64 n, .string s, .slice a ks.length cap] 145) = w0 at T1 B0 Z0 ⊢
    go_loopw [3, 4] (fun v3 v4 wr => ∃ i : Nat, i ≤ ks.length ∧ v4 = .int .i64 i ∧ v3 = .int .i64 (dps (ks.take i) : Nat) ∧ Hid (Below w0.heap.size w0 wr)) (fun _ v4 _ => ks.length - (intOf v4).toNat)
    case atStart => exact ⟨0, Nat.zero_le _, rfl, by simp [dps], Below.refl _ _⟩
    case round =>
      obtain ⟨i, hi, rfl, rfl, HB⟩ := hrel
      have c4 : wr.cell? ⟨w.heap.size, 3, none⟩ = some (.slice a ks.length cap) := (HB.out.cell (p := ⟨w.heap.size, 3, none⟩) (by simp [Z0.out])).trans T1.out
      by_cases hlt : i < ks.length
      · obtain ⟨b, o, rfl, hS, hc⟩ := HR.out.1 i hlt
        have hrep := HR.out.2 i hlt
        have BW : Below w.heap.size w wr := B0.out.trans (HB.out.mono (by rw [Z0.out]; omega))
        obtain ⟨v0, v1, v2, v3, hcs, c0, c1, c2, c3⟩ := ty_cells hrep hc
        have e0 := (BW.cell (p := ⟨b, o + i * 4, none⟩) hS).trans c0
        have e1 := (BW.cell (p := ⟨b, o + i * 4 + 1, none⟩) hS).trans c1
        have e2 := (BW.cell (p := ⟨b, o + i * 4 + 2, none⟩) hS).trans c2
        have e3 := (BW.cell (p := ⟨b, o + i * 4 + 3, none⟩) hS).trans c3
        rw [hcs] at hrep
        clear c0 c1 c2 c3 hc hcs
        have hR := tySh.mono (tySh.below hrep BW) (S' := (· < wr.heap.size)) (fun b hb => Nat.lt_of_lt_of_le hb BW.size)
        have hwi : wt ks[i] ≤ 1048576 := by have := wt_mem (List.getElem_mem hlt); omega
        have hdi : dp ks[i] ≤ 2000000 := by have := dp_mem (List.getElem_mem hlt); omega
        have hdt : dps (ks.take i) ≤ 2000000 := by have := dps_take_le ks i; omega
        have D1 : Hid (dps (ks.take (i + 1)) = max (dps (ks.take i)) (dp ks[i])) := dps_take hlt
        have hcall := IH.out ks[i] (List.getElem_mem hlt) [v0, v1, v2, v3] wr hwi hR
        clear hR hrep BW
        go_wp2_with fail
        refine hcall.mono ?_
        clear hcall
        rintro e w1 ⟨rfl, hb⟩
        have B1 : Hid (Below w0.heap.size w0 w1) := HB.out.trans (hb.mono HB.out.size)
        clear hb HB c4 e0 e1 e2 e3
        go_wp2_with fail
        refine (max_any _ _ hdt hdi _).mono ?_
        rintro e w2 ⟨rfl, rfl⟩
        rw [← D1.out]
        go_wp2
        go_round
        case rel => exact ⟨i + 1, by omega, by go_num, rfl, B1⟩
        case measure => simp [intOf]; omega
      · obtain rfl : i = ks.length := by omega
        rw [List.take_length]
        go_wp2
        go_ret
        exact ⟨by simp [dp], B0.out.trans (HB.out.mono (by rw [Z0.out]; omega))⟩

def OkSays (T : TyD) : Prop := ∀ cs w (vars : Int), 0 ≤ vars → vars ≤ 26 → wt T ≤ 1048576 → tySh.rep w (· < w.heap.size) cs T →
  Calls Tryz.prog 70 #[.agg cs.toArray, .int .i64 vars] w fun e w' => e = .returned (.bool (okTy vars T)) ∧ Below w.heap.size w w'

set_option maxHeartbeats 4000000 in
theorem ok_any (T : TyD) : OkSays T := by
  induction T using ind with
  | h x ks ih =>
    intro cs w vars hv0 hv1 hw h
    obtain ⟨op, n, s, ks', a, cap, hT, rfl, f0, f1, f2, hk⟩ := ty_open h
    cases hT
    clear h
    obtain ⟨a1, cap1, css, e, hcap, hmax, hrow, hk2⟩ := tys_open hk
    cases e
    have hws : wts ks ≤ 1048576 ∧ ks.length ≤ 1048576 := by simp [wt] at hw; omega
    obtain ⟨hws, hkl⟩ := hws
    have IH : Hid (∀ k ∈ ks, OkSays k) := ih
    have HR : Hid (RowAt w (· < w.heap.size) 4 a ks.length css ∧ ∀ i (h : i < ks.length), tySh.rep w (· < w.heap.size) (css i) ks[i]) := ⟨hrow, hk2⟩
    have HO : Hid (okTy vars (.mk (op, n, s) ks) = (okTys vars ks && aloneB vars op n s ks.length)) := by show _ = _; rw [okTy]
    generalize okTy vars (.mk (op, n, s) ks) = q at HO ⊢
    clear ih hrow hk2 hk hcap hmax hw
    go_enter Tryz.func70, Tryz.ntmps70
    go_wp2
    have T0 : Hid ((w.alloc (.cells #[.int .i64 op, .int .i64 n, .string s, .slice a ks.length cap] 145)).cell? ⟨w.heap.size, 0, none⟩ = some (.int .i64 op)) := by show _ = _; simp
    have T1 : Hid ((w.alloc (.cells #[.int .i64 op, .int .i64 n, .string s, .slice a ks.length cap] 145)).cell? ⟨w.heap.size, 1, none⟩ = some (.int .i64 n)) := by show _ = _; simp
    have T2 : Hid ((w.alloc (.cells #[.int .i64 op, .int .i64 n, .string s, .slice a ks.length cap] 145)).cell? ⟨w.heap.size, 2, none⟩ = some (.string s)) := by show _ = _; simp
    have T3 : Hid ((w.alloc (.cells #[.int .i64 op, .int .i64 n, .string s, .slice a ks.length cap] 145)).cell? ⟨w.heap.size, 3, none⟩ = some (.slice a ks.length cap)) := by show _ = _; simp
    have B0 : Hid (Below w.heap.size w (w.alloc (.cells #[.int .i64 op, .int .i64 n, .string s, .slice a ks.length cap] 145))) := (Below.refl _ _).alloc (Nat.le_refl _) _
    have Z0 : Hid ((w.alloc (.cells #[.int .i64 op, .int .i64 n, .string s, .slice a ks.length cap] 145)).heap.size = w.heap.size + 1) := by show _ = _; simp
    generalize w.alloc (.cells #[.int .i64 op, .int .i64 n, .string s, .slice a ks.length cap] 145) = w0 at T0 T1 T2 T3 B0 Z0 ⊢
    go_loopw [5] (fun v5 wr => ∃ i : Nat, i ≤ ks.length ∧ v5 = .int .i64 i ∧ Hid (okTys vars (ks.take i) = true) ∧ Hid (Below w0.heap.size w0 wr)) (fun v5 _ => ks.length - (intOf v5).toNat)
    case atStart => exact ⟨0, Nat.zero_le _, rfl, by show _ = _; simp [okTys], Below.refl _ _⟩
    case round =>
      obtain ⟨i, hi, rfl, HA, HB⟩ := hrel
      have c4 : wr.cell? ⟨w.heap.size, 3, none⟩ = some (.slice a ks.length cap) := (HB.out.cell (p := ⟨w.heap.size, 3, none⟩) (by simp [Z0.out])).trans T3.out
      by_cases hlt : i < ks.length
      · obtain ⟨b, o, rfl, hS, hc⟩ := HR.out.1 i hlt
        have hrep := HR.out.2 i hlt
        have BW : Below w.heap.size w wr := B0.out.trans (HB.out.mono (by rw [Z0.out]; omega))
        obtain ⟨v0, v1, v2, v3, hcs, c0, c1, c2, c3⟩ := ty_cells hrep hc
        have e0 := (BW.cell (p := ⟨b, o + i * 4, none⟩) hS).trans c0
        have e1 := (BW.cell (p := ⟨b, o + i * 4 + 1, none⟩) hS).trans c1
        have e2 := (BW.cell (p := ⟨b, o + i * 4 + 2, none⟩) hS).trans c2
        have e3 := (BW.cell (p := ⟨b, o + i * 4 + 3, none⟩) hS).trans c3
        rw [hcs] at hrep
        clear c0 c1 c2 c3 hc hcs
        have hR := tySh.mono (tySh.below hrep BW) (S' := (· < wr.heap.size)) (fun b hb => Nat.lt_of_lt_of_le hb BW.size)
        have hwi : wt ks[i] ≤ 1048576 := by have := wt_mem (List.getElem_mem hlt); omega
        have hcall := IH.out ks[i] (List.getElem_mem hlt) [v0, v1, v2, v3] wr vars hv0 hv1 hwi hR
        clear hR hrep BW
        by_cases hok : okTy vars ks[i] = true
        · have hA2 : Hid (okTys vars (ks.take (i + 1)) = true) := by show _ = _; rw [okTys_take hlt, HA.out, hok]; rfl
          rw [hok] at hcall
          clear hok HA
          go_wp2_with fail
          refine hcall.mono ?_
          clear hcall
          rintro e w1 ⟨rfl, hb⟩
          have B1 : Hid (Below w0.heap.size w0 w1) := HB.out.trans (hb.mono HB.out.size)
          clear hb HB c4 e0 e1 e2 e3
          go_wp2
          go_round
          case rel => exact ⟨i + 1, by omega, by go_num, hA2, B1⟩
          case measure => simp [intOf]; omega
        · have hok' : okTy vars ks[i] = false := by simpa using hok
          have hq : Hid (q = false) := by show _ = _; rw [HO.out, okTys_no hlt hok']; rfl
          rw [hok'] at hcall
          clear hok hok' HA
          go_wp2_with fail
          refine hcall.mono ?_
          clear hcall
          rintro e w1 ⟨rfl, hb⟩
          have B1 : Hid (Below w0.heap.size w0 w1) := HB.out.trans (hb.mono HB.out.size)
          clear hb HB c4 e0 e1 e2 e3
          go_wp2
          go_ret
          exact ⟨ret_bool hq.out.symm, B0.out.trans (B1.out.mono (by rw [Z0.out]; omega))⟩
      · obtain rfl : i = ks.length := by omega
        have hq : Hid (q = aloneB vars op n s ks.length) := by
          have := HA.out
          rw [List.take_length] at this
          show _ = _; rw [HO.out, this]; rfl
        have c0 : wr.cell? ⟨w.heap.size, 0, none⟩ = some (.int .i64 op) := (HB.out.cell (p := ⟨w.heap.size, 0, none⟩) (by simp [Z0.out])).trans T0.out
        have c1 : wr.cell? ⟨w.heap.size, 1, none⟩ = some (.int .i64 n) := (HB.out.cell (p := ⟨w.heap.size, 1, none⟩) (by simp [Z0.out])).trans T1.out
        have c2 : wr.cell? ⟨w.heap.size, 2, none⟩ = some (.string s) := (HB.out.cell (p := ⟨w.heap.size, 2, none⟩) (by simp [Z0.out])).trans T2.out
        have B1 : Hid (Below w.heap.size w wr) := B0.out.trans (HB.out.mono (by rw [Z0.out]; omega))
        have FS : Hid (s.size ≤ maxLen) := f2
        clear HA HO HB T0 T1 T2 T3 B0 Z0 HR IH f0 f1 f2 hi hlt
        by_cases o1 : op = 1
        · subst o1
          go_wp2
          all_goals
            go_ret
            refine ⟨ret_bool ?_, B1.out⟩
            rw [hq.out]
            simp_all [aloneB]
        · by_cases o2 : op = 2
          · subst o2
            by_cases hn0 : 0 ≤ n
            · by_cases hn1 : n ≤ vars - 1
              · have hq2 : Hid (q = (s.toList == [] && ((ks.length : Int) == 0))) := by
                  show _ = _; rw [hq.out]; unfold aloneB; rw [if_neg (by decide), if_pos rfl, decide_eq_true (show 0 ≤ n ∧ n < vars by omega)]; rfl
                clear hq
                go_wp2
                all_goals
                  go_ret
                  refine ⟨ret_bool ?_, B1.out⟩
                  rw [hq2.out]
                  simp_all
              · have hq2 : Hid (q = false) := by
                  show _ = _; rw [hq.out]; unfold aloneB; rw [if_neg (by decide), if_pos rfl, decide_eq_false (show ¬ (0 ≤ n ∧ n < vars) by omega)]; rfl
                clear hq
                go_wp2
                go_ret
                exact ⟨ret_bool hq2.out.symm, B1.out⟩
            · have hq2 : Hid (q = false) := by
                show _ = _; rw [hq.out]; unfold aloneB; rw [if_neg (by decide), if_pos rfl, decide_eq_false (show ¬ (0 ≤ n ∧ n < vars) by omega)]; rfl
              clear hq
              go_wp2
              go_ret
              exact ⟨ret_bool hq2.out.symm, B1.out⟩
          · by_cases o3 : op = 3
            · subst o3
              go_wp2
              all_goals
                go_ret
                refine ⟨ret_bool ?_, B1.out⟩
                rw [hq.out]
                simp_all [aloneB]
            · by_cases o4 : op = 4
              · subst o4
                go_wp2_with (go_at_call 68; refine (specCon s _ FS.out).mono ?_; rintro e w1 ⟨rfl, hb⟩)
                all_goals
                  go_ret
                  first | refine ⟨ret_bool ?_, B1.out⟩ | refine ⟨ret_bool ?_, B1.out.trans (hb.mono B1.out.size)⟩
                  rw [hq.out]
                  simp_all [aloneB]
              · go_wp2
                go_ret
                exact ⟨ret_bool (by rw [hq.out]; simp [aloneB, o1, o2, o3, o4]), B1.out⟩

end Go.Proofs.YtpdmdcoaaboikaaGreatDoor.ty

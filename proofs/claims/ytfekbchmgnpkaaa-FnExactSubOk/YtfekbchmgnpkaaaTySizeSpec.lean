/-
  The model's TySize, l5Ty and TyOk, at every type; nothing that was there is turned.
-/
import Derived.Test.YtfekbchmgnpkaaaTysOf
namespace Go.Proofs.Ytfekbchmgnpkaaa.ty
open Go.RowKit Go.Proofs.Ytfekbchmgnpkaaa.rose Go.Proofs.Ytfekbchmgnpkaaa
set_option linter.unusedVariables false
set_option linter.unusedSimpArgs false

theorem allS_take {ks : List TyD} {i : Nat} (h : i < ks.length) : (allS (ks.take (i + 1))).length = (allS (ks.take i)).length + (allT ks[i]).length := by
  rw [List.take_succ_eq_append_getElem h, allS_append, allS_one, List.length_append]
theorem allS_take_le (ks : List TyD) (i : Nat) : (allS (ks.take i)).length ≤ (allS ks).length := by
  have : allS ks = allS (ks.take i) ++ allS (ks.drop i) := by rw [← allS_append, List.take_append_drop]
  rw [this]; simp

theorem ret_bool {a b : Bool} (h : a = b) : Ending.returned (.bool a) = Ending.returned (.bool b) := by rw [h]

/-- What a type must be beside its kids. -/
def aloneA (op n : Int) (s : ByteArray) (k : Nat) : Bool :=
  if op = 1 then decide (n = 0) && (s.toList == [] && ((k : Int) == 0))
  else if op = 2 then decide (0 ≤ n) && (s.toList == [] && ((k : Int) == 0))
  else if op = 3 then decide (n = 0) && (s.toList == [] && ((k : Int) == 2))
  else if op = 4 then decide (n = 0) && !(s.toList == [])
  else false

mutual
/-- Whether it is right. -/
def right : TyD → Bool
  | .mk (op, n, s) ks => rights ks && aloneA op n s ks.length
def rights : List TyD → Bool
  | [] => true
  | k :: ks => right k && rights ks
end
theorem rights_take {ks : List TyD} {i : Nat} (h : i < ks.length) : rights (ks.take (i + 1)) = (rights (ks.take i) && right ks[i]) := by
  induction ks generalizing i with
  | nil => simp at h
  | cons k ks ih =>
    cases i with
    | zero => simp [rights]
    | succ i => simp [rights, ih (by simpa using h), Bool.and_assoc]
theorem rights_no {ks : List TyD} {i : Nat} (h : i < ks.length) (hk : right ks[i] = false) : rights ks = false := by
  induction ks generalizing i with
  | nil => simp at h
  | cons k ks ih =>
    cases i with
    | zero => simp at hk; simp [rights, hk]
    | succ i => simp [rights, ih (by simpa using h) (by simpa using hk)]

def SizeSays (T : TyD) : Prop := ∀ cs w, wt T ≤ 1048576 → tySh.rep w (· < w.heap.size) cs T →
  Calls Try.prog 10 #[.agg cs.toArray] w fun e w' => e = .returned (.int .i64 ((allT T).length : Nat)) ∧ Below w.heap.size w w'

set_option maxHeartbeats 1000000 in
theorem size_any (T : TyD) : SizeSays T := by
  induction T using ind with
  | h x ks ih =>
    intro cs w hw h
    obtain ⟨op, n, s, ks', a, cap, hT, rfl, f0, f1, f2, hk⟩ := ty_open h
    cases hT
    clear h
    obtain ⟨a1, cap1, css, e, hcap, hmax, hrow, hk2⟩ := tys_open hk
    cases e
    have hle := all_le (.mk (op, n, s) ks)
    have hws : wts ks ≤ 1048576 ∧ ks.length ≤ 1048576 ∧ (allS ks).length ≤ 1048576 := by simp [wt, allT] at hw hle; omega
    obtain ⟨hws, hkl, hds⟩ := hws
    have IH : Hid (∀ k ∈ ks, SizeSays k) := ih
    have HR : Hid (RowAt w (· < w.heap.size) 4 a ks.length css ∧ ∀ i (h : i < ks.length), tySh.rep w (· < w.heap.size) (css i) ks[i]) := ⟨hrow, hk2⟩
    clear ih hrow hk2 hk hcap hmax hw hle f0 f1 f2
    go_enter Try.func10, Try.ntmps10
    go_wp2
    have T1 : Hid ((w.alloc (.cells #[.int .i64 op, .int .i64 n, .string s, .slice a ks.length cap] 29)).cell? ⟨w.heap.size, 3, none⟩ = some (.slice a ks.length cap)) := by
      show _ = _
      simp
    have B0 : Hid (Below w.heap.size w (w.alloc (.cells #[.int .i64 op, .int .i64 n, .string s, .slice a ks.length cap] 29))) := (Below.refl _ _).alloc (Nat.le_refl _) _
    have Z0 : Hid ((w.alloc (.cells #[.int .i64 op, .int .i64 n, .string s, .slice a ks.length cap] 29)).heap.size = w.heap.size + 1) := by show _ = _; simp
    generalize w.alloc (.cells #[.int .i64 op, .int .i64 n, .string s, .slice a ks.length cap] 29) = w0 at T1 B0 Z0 ⊢
    go_loopw [3, 4] (fun v3 v4 wr => ∃ i : Nat, i ≤ ks.length ∧ v4 = .int .i64 i ∧ v3 = .int .i64 (((allS (ks.take i)).length + 1 : Nat) : Int) ∧ Hid (Below w0.heap.size w0 wr)) (fun _ v4 _ => ks.length - (intOf v4).toNat)
    case atStart => exact ⟨0, Nat.zero_le _, rfl, by simp [allS], Below.refl _ _⟩
    case round =>
      obtain ⟨i, hi, rfl, rfl, HB⟩ := hrel
      have c4 : wr.cell? ⟨w.heap.size, 3, none⟩ = some (.slice a ks.length cap) := (HB.out.cell (p := ⟨w.heap.size, 3, none⟩) (by simp [Z0.out])).trans T1.out
      by_cases hlt : i < ks.length
      · obtain ⟨b, o, rfl, hS, hc⟩ := HR.out.1 i hlt
        have hrep := HR.out.2 i hlt
        have BW : Below w.heap.size w wr := B0.out.trans (HB.out.mono (by rw [Z0.out]; omega))
        obtain ⟨v0, v1, v2, v3, hcs, c0, c1, c2, c3⟩ := ty_cells hrep hc
        have e0 := (BW.cell (p := ⟨b, o + i * 4, none⟩) hS).trans c0
        have e1 := (BW.cell (p := ⟨b, o + i * 4 + 1, none⟩) hS).trans c1
        have e2 := (BW.cell (p := ⟨b, o + i * 4 + 2, none⟩) hS).trans c2
        have e3 := (BW.cell (p := ⟨b, o + i * 4 + 3, none⟩) hS).trans c3
        rw [hcs] at hrep
        clear c0 c1 c2 c3 hc hcs
        have hR := tySh.mono (tySh.below hrep BW) (S' := (· < wr.heap.size)) (fun b hb => Nat.lt_of_lt_of_le hb BW.size)
        have hwi : wt ks[i] ≤ 1048576 := by have := wt_mem (List.getElem_mem hlt); omega
        have D1 : Hid ((allS (ks.take (i + 1))).length = (allS (ks.take i)).length + (allT ks[i]).length) := allS_take hlt
        have D2 : (allS (ks.take (i + 1))).length ≤ 1048576 := by have := allS_take_le ks (i + 1); omega
        have hcall := IH.out ks[i] (List.getElem_mem hlt) [v0, v1, v2, v3] wr hwi hR
        clear hR hrep BW
        go_wp2_with fail
        refine hcall.mono ?_
        clear hcall
        rintro e w1 ⟨rfl, hb⟩
        have B1 : Hid (Below w0.heap.size w0 w1) := HB.out.trans (hb.mono HB.out.size)
        clear hb HB c4 e0 e1 e2 e3
        have D3 : Hid ((((allS (ks.take i)).length + 1 : Nat) : Int) + ((allT ks[i]).length : Nat) = (((allS (ks.take (i + 1))).length + 1 : Nat) : Int)) := by show _ = _; rw [D1.out]; omega
        have D4 : (((allS (ks.take i)).length + 1 : Nat) : Int) + ((allT ks[i]).length : Nat) ≤ 1048577 := by rw [D3.out]; omega
        obtain ⟨m1, hm1⟩ : ∃ m : Nat, m = (allS (ks.take i)).length + 1 := ⟨_, rfl⟩
        obtain ⟨m2, hm2⟩ : ∃ m : Nat, m = (allT ks[i]).length := ⟨_, rfl⟩
        have HM : Hid (((m1 : Nat) : Int) + (m2 : Nat) = (((allS (ks.take (i + 1))).length + 1 : Nat) : Int)) := by rw [hm1, hm2]; exact D3.out
        rw [← hm1, ← hm2] at D4 ⊢
        clear D3 hm1 hm2 D1 D2
        go_wp2
        go_round
        case rel => exact ⟨i + 1, by omega, by go_num, by rw [HM.out], B1⟩
        case measure => simp [intOf]; omega
      · obtain rfl : i = ks.length := by omega
        rw [List.take_length]
        go_wp2
        go_ret
        exact ⟨by simp [allT], B0.out.trans (HB.out.mono (by rw [Z0.out]; omega))⟩

def RightSays (T : TyD) : Prop := ∀ cs w, wt T ≤ 1048576 → tySh.rep w (· < w.heap.size) cs T →
  Calls Try.prog 40 #[.agg cs.toArray] w fun e w' => e = .returned (.bool (right T)) ∧ Below w.heap.size w w'

set_option maxHeartbeats 4000000 in
theorem right_any (T : TyD) : RightSays T := by
  induction T using ind with
  | h x ks ih =>
    intro cs w hw h
    obtain ⟨op, n, s, ks', a, cap, hT, rfl, f0, f1, f2, hk⟩ := ty_open h
    cases hT
    clear h
    obtain ⟨a1, cap1, css, e, hcap, hmax, hrow, hk2⟩ := tys_open hk
    cases e
    have hws : wts ks ≤ 1048576 ∧ ks.length ≤ 1048576 := by simp [wt] at hw; omega
    obtain ⟨hws, hkl⟩ := hws
    have IH : Hid (∀ k ∈ ks, RightSays k) := ih
    have HR : Hid (RowAt w (· < w.heap.size) 4 a ks.length css ∧ ∀ i (h : i < ks.length), tySh.rep w (· < w.heap.size) (css i) ks[i]) := ⟨hrow, hk2⟩
    have HO : Hid (right (.mk (op, n, s) ks) = (rights ks && aloneA op n s ks.length)) := by show _ = _; rw [right]
    generalize right (.mk (op, n, s) ks) = q at HO ⊢
    clear ih hrow hk2 hk hcap hmax hw
    go_enter Try.func40, Try.ntmps40
    go_wp2
    have T0 : Hid ((w.alloc (.cells #[.int .i64 op, .int .i64 n, .string s, .slice a ks.length cap] 29)).cell? ⟨w.heap.size, 0, none⟩ = some (.int .i64 op)) := by show _ = _; simp
    have T1 : Hid ((w.alloc (.cells #[.int .i64 op, .int .i64 n, .string s, .slice a ks.length cap] 29)).cell? ⟨w.heap.size, 1, none⟩ = some (.int .i64 n)) := by show _ = _; simp
    have T2 : Hid ((w.alloc (.cells #[.int .i64 op, .int .i64 n, .string s, .slice a ks.length cap] 29)).cell? ⟨w.heap.size, 2, none⟩ = some (.string s)) := by show _ = _; simp
    have T3 : Hid ((w.alloc (.cells #[.int .i64 op, .int .i64 n, .string s, .slice a ks.length cap] 29)).cell? ⟨w.heap.size, 3, none⟩ = some (.slice a ks.length cap)) := by show _ = _; simp
    have B0 : Hid (Below w.heap.size w (w.alloc (.cells #[.int .i64 op, .int .i64 n, .string s, .slice a ks.length cap] 29))) := (Below.refl _ _).alloc (Nat.le_refl _) _
    have Z0 : Hid ((w.alloc (.cells #[.int .i64 op, .int .i64 n, .string s, .slice a ks.length cap] 29)).heap.size = w.heap.size + 1) := by show _ = _; simp
    generalize w.alloc (.cells #[.int .i64 op, .int .i64 n, .string s, .slice a ks.length cap] 29) = w0 at T0 T1 T2 T3 B0 Z0 ⊢
    go_loopw [3] (fun v5 wr => ∃ i : Nat, i ≤ ks.length ∧ v5 = .int .i64 i ∧ Hid (rights (ks.take i) = true) ∧ Hid (Below w0.heap.size w0 wr)) (fun v5 _ => ks.length - (intOf v5).toNat)
    case atStart => exact ⟨0, Nat.zero_le _, rfl, by show _ = _; simp [rights], Below.refl _ _⟩
    case round =>
      obtain ⟨i, hi, rfl, HA, HB⟩ := hrel
      have c4 : wr.cell? ⟨w.heap.size, 3, none⟩ = some (.slice a ks.length cap) := (HB.out.cell (p := ⟨w.heap.size, 3, none⟩) (by simp [Z0.out])).trans T3.out
      by_cases hlt : i < ks.length
      · obtain ⟨b, o, rfl, hS, hc⟩ := HR.out.1 i hlt
        have hrep := HR.out.2 i hlt
        have BW : Below w.heap.size w wr := B0.out.trans (HB.out.mono (by rw [Z0.out]; omega))
        obtain ⟨v0, v1, v2, v3, hcs, c0, c1, c2, c3⟩ := ty_cells hrep hc
        have e0 := (BW.cell (p := ⟨b, o + i * 4, none⟩) hS).trans c0
        have e1 := (BW.cell (p := ⟨b, o + i * 4 + 1, none⟩) hS).trans c1
        have e2 := (BW.cell (p := ⟨b, o + i * 4 + 2, none⟩) hS).trans c2
        have e3 := (BW.cell (p := ⟨b, o + i * 4 + 3, none⟩) hS).trans c3
        rw [hcs] at hrep
        clear c0 c1 c2 c3 hc hcs
        have hR := tySh.mono (tySh.below hrep BW) (S' := (· < wr.heap.size)) (fun b hb => Nat.lt_of_lt_of_le hb BW.size)
        have hwi : wt ks[i] ≤ 1048576 := by have := wt_mem (List.getElem_mem hlt); omega
        have hcall := IH.out ks[i] (List.getElem_mem hlt) [v0, v1, v2, v3] wr hwi hR
        clear hR hrep BW
        by_cases hok : right ks[i] = true
        · have hA2 : Hid (rights (ks.take (i + 1)) = true) := by show _ = _; rw [rights_take hlt, HA.out, hok]; rfl
          rw [hok] at hcall
          clear hok HA
          go_wp2_with fail
          refine hcall.mono ?_
          clear hcall
          rintro e w1 ⟨rfl, hb⟩
          have B1 : Hid (Below w0.heap.size w0 w1) := HB.out.trans (hb.mono HB.out.size)
          clear hb HB c4 e0 e1 e2 e3
          go_wp2
          go_round
          case rel => exact ⟨i + 1, by omega, by go_num, hA2, B1⟩
          case measure => simp [intOf]; omega
        · have hok' : right ks[i] = false := by simpa using hok
          have hq : Hid (q = false) := by show _ = _; rw [HO.out, rights_no hlt hok']; rfl
          rw [hok'] at hcall
          clear hok hok' HA
          go_wp2_with fail
          refine hcall.mono ?_
          clear hcall
          rintro e w1 ⟨rfl, hb⟩
          have B1 : Hid (Below w0.heap.size w0 w1) := HB.out.trans (hb.mono HB.out.size)
          clear hb HB c4 e0 e1 e2 e3
          go_wp2
          go_ret
          exact ⟨ret_bool hq.out.symm, B0.out.trans (B1.out.mono (by rw [Z0.out]; omega))⟩
      · obtain rfl : i = ks.length := by omega
        have hq : Hid (q = aloneA op n s ks.length) := by
          have := HA.out
          rw [List.take_length] at this
          show _ = _; rw [HO.out, this]; rfl
        have c0 : wr.cell? ⟨w.heap.size, 0, none⟩ = some (.int .i64 op) := (HB.out.cell (p := ⟨w.heap.size, 0, none⟩) (by simp [Z0.out])).trans T0.out
        have c1 : wr.cell? ⟨w.heap.size, 1, none⟩ = some (.int .i64 n) := (HB.out.cell (p := ⟨w.heap.size, 1, none⟩) (by simp [Z0.out])).trans T1.out
        have c2 : wr.cell? ⟨w.heap.size, 2, none⟩ = some (.string s) := (HB.out.cell (p := ⟨w.heap.size, 2, none⟩) (by simp [Z0.out])).trans T2.out
        have B1 : Hid (Below w.heap.size w wr) := B0.out.trans (HB.out.mono (by rw [Z0.out]; omega))
        have FS : Hid (s.size ≤ maxLen) := f2
        clear HA HO HB T0 T1 T2 T3 B0 Z0 HR IH f0 f1 f2 hi hlt
        by_cases o1 : op = 1
        · subst o1
          go_wp2
          all_goals
            go_ret
            refine ⟨ret_bool ?_, B1.out⟩
            rw [hq.out]
            simp_all [aloneA]
        · by_cases o2 : op = 2
          · subst o2
            go_wp2
            all_goals
              go_ret
              refine ⟨ret_bool ?_, B1.out⟩
              rw [hq.out]
              simp_all [aloneA]
              try (intro h1; omega)
          · by_cases o3 : op = 3
            · subst o3
              go_wp2
              all_goals
                go_ret
                refine ⟨ret_bool ?_, B1.out⟩
                rw [hq.out]
                simp_all [aloneA]
            · by_cases o4 : op = 4
              · subst o4
                go_wp2
                all_goals
                  go_ret
                  refine ⟨ret_bool ?_, B1.out⟩
                  rw [hq.out]
                  simp_all [aloneA]
              · go_wp2
                go_ret
                exact ⟨ret_bool (by rw [hq.out]; simp [aloneA, o1, o2, o3, o4]), B1.out⟩

/-- Whether it is a type. -/
def tyOkB (T : TyD) : Bool := decide ((allT T).length ≤ 200) && right T

set_option maxHeartbeats 1000000 in
theorem specTyOk (T : TyD) (cs : List Value) (w : World) (hw : wt T ≤ 1048576) (h : tySh.rep w (· < w.heap.size) cs T) :
    Calls Try.prog 14 #[.agg cs.toArray] w fun e w' => e = .returned (.bool (tyOkB T)) ∧ Below w.heap.size w w' := by
  obtain ⟨v0, v1, v2, v3, rfl⟩ := ty_list h
  have o0 := tySh.one h v0 (by simp)
  have o1 := tySh.one h v1 (by simp)
  have o2 := tySh.one h v2 (by simp)
  have o3 := tySh.one h v3 (by simp)
  have AT : Hid (∀ w' : World, Below w.heap.size w w' → tySh.rep w' (· < w'.heap.size) [v0, v1, v2, v3] T) := fun w' hb => tySh.mono (tySh.below h hb) fun b hlt => Nat.lt_of_lt_of_le hlt hb.size
  have B0 : Hid (Below w.heap.size w (w.alloc (.cells #[v0, v1, v2, v3] 29))) := (Below.refl _ _).alloc (Nat.le_refl _) _
  clear h
  go_enter Try.func14, Try.ntmps14
  go_wp2_with fail
  refine (size_any T _ _ hw (AT.out _ B0.out)).mono ?_
  rintro e w1 ⟨rfl, hb⟩
  have B1 : Hid (Below w.heap.size w w1) := B0.out.trans (hb.mono B0.out.size)
  have x0 : w1.cell? ⟨w.heap.size, 0, none⟩ = some v0 := (hb.cell (p := ⟨w.heap.size, 0, none⟩) (by simp)).trans (by simp)
  have x1 : w1.cell? ⟨w.heap.size, 1, none⟩ = some v1 := (hb.cell (p := ⟨w.heap.size, 1, none⟩) (by simp)).trans (by simp)
  have x2 : w1.cell? ⟨w.heap.size, 2, none⟩ = some v2 := (hb.cell (p := ⟨w.heap.size, 2, none⟩) (by simp)).trans (by simp)
  have x3 : w1.cell? ⟨w.heap.size, 3, none⟩ = some v3 := (hb.cell (p := ⟨w.heap.size, 3, none⟩) (by simp)).trans (by simp)
  clear hb B0
  obtain ⟨m, hm⟩ : ∃ m, m = (allT T).length := ⟨_, rfl⟩
  have HM : Hid (m = (allT T).length) := hm
  rw [← hm]
  clear hm
  by_cases h2 : m ≤ 200
  · have h3 : ((m : Nat) : Int) ≤ 200 := by omega
    have hq : Hid (tyOkB T = right T) := by show _ = _; unfold tyOkB; rw [← HM.out, decide_eq_true h2]; rfl
    go_wp2_with fail
    refine (right_any T _ _ hw (AT.out _ B1.out)).mono ?_
    rintro e w2 ⟨rfl, hb⟩
    have B2 : Hid (Below w.heap.size w w2) := B1.out.trans (hb.mono B1.out.size)
    clear hb
    go_wp2
    go_ret
    exact ⟨ret_bool hq.out.symm, B2.out⟩
  · have h3 : ¬ ((m : Nat) : Int) ≤ 200 := by omega
    have hq : Hid (tyOkB T = false) := by show _ = _; unfold tyOkB; rw [← HM.out, decide_eq_false h2]; rfl
    go_wp2
    go_ret
    exact ⟨ret_bool hq.out.symm, B1.out⟩

end Go.Proofs.Ytfekbchmgnpkaaa.ty

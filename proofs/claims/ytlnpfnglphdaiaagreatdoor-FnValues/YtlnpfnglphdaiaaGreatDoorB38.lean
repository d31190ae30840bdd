/-
  The model's ConOf, ConTag and TagCon, at every list of datas; nothing that was there is turned.
  The model's ValueOk, at every list of datas and value; nothing that was there is turned.
  The model's ValueOk, at every list of datas and value: what is right, however deep; and the whole.
-/
import Derived.WalkKit
import Derived.WalkLawsBesides
import Derived.Deep.QuietTactic
import Derived.BigQuiet
import Derived.Test.YtlnpfnglphdaiaaGreatDoorB1
import Derived.Test.YtlnpfnglphdaiaaGreatDoorB2
import Derived.Test.YtlnpfnglphdaiaaGreatDoorB3
import Derived.Test.YtlnpfnglphdaiaaGreatDoorB4
import Derived.Test.YtlnpfnglphdaiaaGreatDoorB5
import Derived.Test.YtlnpfnglphdaiaaGreatDoorB6
import Derived.Test.YtlnpfnglphdaiaaGreatDoorB7
import Derived.Test.YtlnpfnglphdaiaaGreatDoorB8
import Derived.Test.YtlnpfnglphdaiaaGreatDoorB9
import Derived.Test.YtlnpfnglphdaiaaGreatDoorB10
import Derived.Test.YtlnpfnglphdaiaaGreatDoorB11
import Derived.Test.YtlnpfnglphdaiaaGreatDoorB12
import Derived.Test.YtlnpfnglphdaiaaGreatDoorB13
import Derived.Test.YtlnpfnglphdaiaaGreatDoorB14
import Derived.Test.YtlnpfnglphdaiaaGreatDoorB15
import Derived.Test.YtlnpfnglphdaiaaGreatDoorB16
import Derived.Test.YtlnpfnglphdaiaaGreatDoorB17
import Derived.Test.YtlnpfnglphdaiaaGreatDoorB18
import Derived.Test.YtlnpfnglphdaiaaGreatDoorB19
import Derived.Test.YtlnpfnglphdaiaaGreatDoorB20
import Derived.Test.YtlnpfnglphdaiaaGreatDoorB21
import Derived.Test.YtlnpfnglphdaiaaGreatDoorB22
import Derived.Test.YtlnpfnglphdaiaaGreatDoorB23
import Derived.Test.YtlnpfnglphdaiaaGreatDoorB24
import Derived.Test.YtlnpfnglphdaiaaGreatDoorB25
import Derived.Test.YtlnpfnglphdaiaaGreatDoorB26
import Derived.Test.YtlnpfnglphdaiaaGreatDoorB27
import Derived.Test.YtlnpfnglphdaiaaGreatDoorB28
import Derived.Test.YtlnpfnglphdaiaaGreatDoorB29
import Derived.Test.YtlnpfnglphdaiaaGreatDoorB30
import Derived.Test.YtlnpfnglphdaiaaGreatDoorB31
import Derived.Test.YtlnpfnglphdaiaaGreatDoorB32
import Derived.Test.YtlnpfnglphdaiaaGreatDoorB33
import Derived.Test.YtlnpfnglphdaiaaGreatDoorB34
import Derived.Test.YtlnpfnglphdaiaaGreatDoorB35
import Derived.Test.YtlnpfnglphdaiaaGreatDoorB36
import Derived.Test.YtlnpfnglphdaiaaGreatDoorB37
namespace Go.Proofs.YtlnpfnglphdaiaaGreatDoor.data
open Go.RowKit Go.Proofs.YtlnpfnglphdaiaaGreatDoor.rose Go.Proofs.YtlnpfnglphdaiaaGreatDoor
set_option linter.unusedVariables false
set_option linter.unusedSimpArgs false

theorem ret_pair {a b c d : Int} (h1 : a = c) (h2 : b = d) : Ending.returned (.tuple #[.int .i64 a, .int .i64 b]) = Ending.returned (.tuple #[.int .i64 c, .int .i64 d]) := by rw [h1, h2]
theorem ret_int {a b : Int} (h : a = b) : Ending.returned (.int .i64 a) = Ending.returned (.int .i64 b) := by rw [h]

theorem wts_con {ks : List DataD} {i : Nat} (h : i < ks.length) : ks[i].2.2.length ≤ wts ks := by
  have h1 := wt_mem (List.getElem_mem h)
  have h2 : ks[i].2.2.length ≤ wt ks[i] := by
    obtain ⟨x0, x1, x2⟩ := ks[i]
    simp [wt]; omega
  omega

/-- None ahead of (i, j) has that name. -/
def NoneYet (ks : List DataD) (name : ByteArray) (i j : Nat) : Prop := ∀ y ∈ ahead ks i j, named name y = false

theorem yet_step {ks : List DataD} {name : ByteArray} {i j : Nat} (h : NoneYet ks name i j) (hi : i < ks.length) (hj : j < ks[i].2.2.length) (hn : (ks[i].2.2[j].1.toList == name.toList) = false) : NoneYet ks name i (j + 1) := by
  intro y hy
  rw [ahead_step hi hj, List.mem_append] at hy
  rcases hy with hy | hy
  · exact h y hy
  · simp at hy
    subst hy
    exact hn
theorem yet_next {ks : List DataD} {name : ByteArray} {i : Nat} (hi : i < ks.length) (h : NoneYet ks name i ks[i].2.2.length) : NoneYet ks name (i + 1) 0 := by
  unfold NoneYet at *
  rw [← ahead_next hi]
  exact h
theorem yet_found {ks : List DataD} {name : ByteArray} {i j : Nat} (h : NoneYet ks name i j) (hi : i < ks.length) (hj : j < ks[i].2.2.length) (hn : (ks[i].2.2[j].1.toList == name.toList) = true) : placeB ks name = (((total (ks.take i) + j : Nat) : Int), (i : Int), (j : Int)) := by
  unfold placeB
  rw [find_pre (x := ⟨total (ks.take i) + j, i, j, ks[i].2.2[j]⟩) (pre := ahead ks i j) (by rw [← ahead_step hi hj]; exact ahead_prefix hi hj) h hn]
  rfl
theorem yet_end {ks : List DataD} {name : ByteArray} (h : NoneYet ks name ks.length 0) : placeB ks name = (-1, -1, -1) := by
  unfold NoneYet at h
  rw [ahead_end] at h
  unfold placeB
  rw [find_no h]
  rfl

set_option maxRecDepth 100000 in
set_option maxHeartbeats 2000000 in
theorem specConOf (ks : List DataD) (v : Value) (name : ByteArray) (w : World) (hw : ks.length + wts ks ≤ 1048576) (h : dataSh.slice.rep w (· < w.heap.size) [v] ks) :
    Calls Tryz.prog 35 #[v, .string name] w fun e w' => e = .returned (.tuple #[.int .i64 (placeB ks name).2.1, .int .i64 (placeB ks name).2.2]) ∧ Below w.heap.size w w' := by
  obtain ⟨a, cap, css, rfl, hcap, hmax, hrow, hk⟩ := datas_open h
  clear h hcap hmax
  have HR : Hid (RowAt w (· < w.heap.size) 3 a ks.length css ∧ ∀ i (h : i < ks.length), dataSh.rep w (· < w.heap.size) (css i) ks[i]) := ⟨hrow, hk⟩
  clear hrow hk
  obtain ⟨p, hp⟩ : ∃ p, p = placeB ks name := ⟨_, rfl⟩
  have HP : Hid (p = placeB ks name) := hp
  rw [← hp]
  clear hp
  obtain ⟨p0, p1, p2⟩ := p
  go_enter Tryz.func35, Tryz.ntmps35
  go_wp2
  go_loopw [6] (fun v6 wr => ∃ i : Nat, i ≤ ks.length ∧ v6 = .int .i64 i ∧ Hid (NoneYet ks name i 0) ∧ wr = w) (fun v6 _ => ks.length - (intOf v6).toNat)
  case atStart => exact ⟨0, Nat.zero_le _, rfl, by intro y hy; simp [ahead_start] at hy, rfl⟩
  case round =>
    obtain ⟨i, hi, rfl, HA, rfl⟩ := hrel
    by_cases hlt : i < ks.length
    · obtain ⟨b, o, rfl, hS, hc⟩ := HR.out.1 i hlt
      obtain ⟨x0, x1, x2, a2, c2, hT, hcs, f0, f1, f2⟩ := data_open (HR.out.2 i hlt)
      rw [hcs] at hc
      have e2 := hc 2 _ rfl
      have hx2 : x2.length ≤ 1048576 := by
        have := wts_con hlt
        rw [hT] at this
        simp at this
        omega
      have HT : Hid (ks[i].2.2 = x2) := by show _ = _; rw [hT]
      have F2 : Hid _ := f2
      clear f2 hcs hc hT
      go_wp2
      go_loopw [7] (fun v7 wi => ∃ j : Nat, j ≤ x2.length ∧ v7 = .int .i64 j ∧ Hid (NoneYet ks name i j) ∧ wi = wr) (fun v7 _ => x2.length - (intOf v7).toNat)
      case atStart => exact ⟨0, Nat.zero_le _, rfl, HA, rfl⟩
      case round =>
        obtain ⟨j, hj, rfl, HAj, hwi⟩ := hrel
        rename World => wi
        subst hwi
        by_cases hlj : j < x2.length
        · obtain ⟨a1, cap1, cs1, ea, -, -, hrow, hk⟩ := con.cons_open F2.out
          cases ea
          obtain ⟨b2, o2, rfl, hS2, hc⟩ := hrow j hlj
          obtain ⟨y0, y1, a3, c3, hT, hcs, g0, g1⟩ := con.con_open (hk j hlj)
          rw [hcs] at hc
          have g2 : World.cell? _ ⟨b2, o2 + j * 2, none⟩ = some (.string y0) := hc 0 _ rfl
          have HN : Hid (∃ hj : j < ks[i].2.2.length, ks[i].2.2[j].1 = y0) := by
            refine ⟨by rw [HT.out]; exact hlj, ?_⟩
            simp only [HT.out]
            rw [hT]
          clear hcs hc hT hrow hk g1
          by_cases hn : (y0.toList == name.toList) = true
          · have HF : Hid ((p0, p1, p2) = (((total (ks.take i) + j : Nat) : Int), (i : Int), (j : Int))) := by
              obtain ⟨hj, hy⟩ := HN.out
              show _ = _
              rw [HP.out, yet_found HAj.out hlt hj (by rw [hy]; exact hn)]
            go_wp2
            go_ret2
            have := HF.out
            simp only [Prod.mk.injEq] at this
            exact ⟨ret_pair this.2.1.symm this.2.2.symm, Below.refl _ _⟩
          · have hn' : (y0.toList == name.toList) = false := by simpa using hn
            have HA2 : Hid (NoneYet ks name i (j + 1)) := by
              obtain ⟨hj, hy⟩ := HN.out
              exact yet_step HAj.out hlt hj (by rw [hy]; exact hn')
            go_wp2
            go_round
            case rel => exact ⟨j + 1, by omega, by go_num, HA2, by first | rfl | trivial⟩
            case measure => simp [intOf]; omega
        · obtain rfl : j = x2.length := by omega
          have HA2 : Hid (NoneYet ks name (i + 1) 0) := yet_next hlt (by rw [HT.out]; exact HAj.out)
          go_wp2
          go_round
          case rel => exact ⟨i + 1, by omega, by go_num, HA2, by first | rfl | trivial⟩
          case measure => simp [intOf]; omega
    · obtain rfl : i = ks.length := by omega
      have HF : Hid ((p0, p1, p2) = (-1, -1, -1)) := by show _ = _; rw [HP.out, yet_end HA.out]
      go_wp2
      go_ret2
      have := HF.out
      simp only [Prod.mk.injEq] at this
      exact ⟨ret_pair this.2.1.symm this.2.2.symm, Below.refl _ _⟩

end Go.Proofs.YtlnpfnglphdaiaaGreatDoor.data

namespace Go.Proofs.YtlnpfnglphdaiaaGreatDoor.value
open Go Go.RowKit Go.Proofs.YtlnpfnglphdaiaaGreatDoor.rose Go.Proofs.YtlnpfnglphdaiaaGreatDoor
set_option linter.unusedVariables false
set_option linter.unusedSimpArgs false

theorem wordB_yes {n : Int} (h1 : -1073741824 ≤ n) (h2 : n ≤ 1073741823) : wordB n = true := by simp [wordB, h1, h2]
theorem wordB_no {n : Int} (h : ¬ (-1073741824 ≤ n ∧ n ≤ 1073741823)) : wordB n = false := by
  by_cases h1 : -1073741824 ≤ n
  · have : ¬ n ≤ 1073741823 := fun q => h ⟨h1, q⟩
    simp [wordB, h1, this]
  · simp [wordB, h1]

theorem specWordOk (n : Int) (w : World) : Calls Tryz.prog 34 #[.int .i64 n] w fun e w' => e = .returned (.bool (wordB n)) ∧ w' = w := by
  by_cases h1 : -1073741824 ≤ n
  · by_cases h2 : n ≤ 1073741823
    · have E : Hid (true = wordB n) := (wordB_yes h1 h2).symm
      go_enter Tryz.func34, Tryz.ntmps34
      go_wp2
      go_ret
      exact ⟨ret_b E.out, rfl⟩
    · have E : Hid (false = wordB n) := (wordB_no (by omega)).symm
      go_enter Tryz.func34, Tryz.ntmps34
      go_wp2
      go_ret
      exact ⟨ret_b E.out, rfl⟩
  · have E : Hid (false = wordB n) := (wordB_no (by omega)).symm
    go_enter Tryz.func34, Tryz.ntmps34
    go_wp2
    go_ret
    exact ⟨ret_b E.out, rfl⟩

theorem max_any (x y : Nat) (hx : x ≤ 2000000) (hy : y ≤ 2000000) (w : World) : Calls Tryz.prog 33 #[.int .i64 (x : Nat), .int .i64 (y : Nat)] w fun e w' => e = .returned (.int .i64 ((max x y : Nat) : Int)) ∧ w' = w := by
  by_cases h : (x : Int) > y
  · go_enter Tryz.func33, Tryz.ntmps33
    go_wp2
    go_ret
    exact ⟨by rw [show max x y = x by omega]; rfl, rfl⟩
  · go_enter Tryz.func33, Tryz.ntmps33
    go_wp2
    go_ret
    exact ⟨by rw [show max x y = y by omega]; rfl, rfl⟩

theorem dps_take_le (ks : List ValueD) (i : Nat) : dps (ks.take i) ≤ dps ks := dps_le.2 fun k hk => dps_le.1 (Nat.le_refl _) k (List.mem_of_mem_take hk)

def DpSays (T : ValueD) : Prop := ∀ cs w, wt T ≤ 1048576 → valueSh.rep w (· < w.heap.size) cs T →
  Calls Tryz.prog 19 #[.agg cs.toArray] w fun e w' => e = .returned (.int .i64 (dp T : Nat)) ∧ Below w.heap.size w w'

set_option maxHeartbeats 1000000 in
theorem deep_any (T : ValueD) : DpSays T := by
  induction T using ind with
  | h x ks ih =>
    intro cs w hw h
    obtain ⟨op, n, s, ks', a, cap, hT, rfl, -, -, -, hk⟩ := value_open h
    cases hT
    clear h
    obtain ⟨a1, cap1, css, e, hcap, hmax, hrow, hk2⟩ := values_open hk
    cases e
    have hle := dp_le (.mk (op, n, s) ks)
    have hws : wts ks ≤ 1048576 ∧ ks.length ≤ 1048576 ∧ dps ks ≤ 1048576 := by simp [wt, dp] at hw hle; omega
    obtain ⟨hws, hkl, hds⟩ := hws
    have IH : Hid (∀ k ∈ ks, DpSays k) := ih
    have HR : Hid (RowAt w (· < w.heap.size) 4 a ks.length css ∧ ∀ i (h : i < ks.length), valueSh.rep w (· < w.heap.size) (css i) ks[i]) := ⟨hrow, hk2⟩
    clear ih hrow hk2 hk hcap hmax hw hle
    go_enter Tryz.func19, Tryz.ntmps19
    go_wp2
    have T1 : Hid ((w.alloc (.cells #[.int .i64 op, .int .i64 n, .string s, .slice a ks.length cap] 26)).cell? ⟨w.heap.size, 3, none⟩ = some (.slice a ks.length cap)) := by
      show _ = _
      simp
    have B0 : Hid (Below w.heap.size w (w.alloc (.cells #[.int .i64 op, .int .i64 n, .string s, .slice a ks.length cap] 26))) := (Below.refl _ _).alloc (Nat.le_refl _) _
    have Z0 : Hid ((w.alloc (.cells #[.int .i64 op, .int .i64 n, .string s, .slice a ks.length cap] 26)).heap.size = w.heap.size + 1) := by show _ = _; simp
    generalize w.alloc (.cells #[.int .i64 op, .int .i64 n, .string s, .slice a ks.length cap] 26) = w0 at T1 B0 Z0 ⊢
    go_loopw [3, 4] (fun v3 v4 wr => ∃ i : Nat, i ≤ ks.length ∧ v4 = .int .i64 i ∧ v3 = .int .i64 (dps (ks.take i) : Nat) ∧ Hid (Below w0.heap.size w0 wr)) (fun _ v4 _ => ks.length - (intOf v4).toNat)
    case atStart => exact ⟨0, Nat.zero_le _, rfl, by simp [dps], Below.refl _ _⟩
    case round =>
      obtain ⟨i, hi, rfl, rfl, HB⟩ := hrel
      have c4 : wr.cell? ⟨w.heap.size, 3, none⟩ = some (.slice a ks.length cap) := (HB.out.cell (p := ⟨w.heap.size, 3, none⟩) (by simp [Z0.out])).trans T1.out
      by_cases hlt : i < ks.length
      · obtain ⟨b, o, rfl, hS, hc⟩ := HR.out.1 i hlt
        have hrep := HR.out.2 i hlt
        have BW : Below w.heap.size w wr := B0.out.trans (HB.out.mono (by rw [Z0.out]; omega))
        obtain ⟨v0, v1, v2, v3, hcs, c0, c1, c2, c3⟩ := value_cells hrep hc
        have e0 := (BW.cell (p := ⟨b, o + i * 4, none⟩) hS).trans c0
        have e1 := (BW.cell (p := ⟨b, o + i * 4 + 1, none⟩) hS).trans c1
        have e2 := (BW.cell (p := ⟨b, o + i * 4 + 2, none⟩) hS).trans c2
        have e3 := (BW.cell (p := ⟨b, o + i * 4 + 3, none⟩) hS).trans c3
        rw [hcs] at hrep
        clear c0 c1 c2 c3 hc hcs
        have hR := valueSh.mono (valueSh.below hrep BW) (S' := (· < wr.heap.size)) (fun b hb => Nat.lt_of_lt_of_le hb BW.size)
        have hwt : wt ks[i] ≤ 1048576 := by have := wts_take hlt; have := wts_take_le ks (i + 1); omega
        have hcall := IH.out ks[i] (List.getElem_mem hlt) [v0, v1, v2, v3] wr hwt hR
        have D1 : Hid (dps (ks.take (i + 1)) = max (dps (ks.take i)) (dp ks[i])) := dps_take hlt
        have hx1 : dps (ks.take i) ≤ 2000000 := by have := dps_take_le ks i; omega
        have hx2 : dp ks[i] ≤ 2000000 := by have := dp_le ks[i]; omega
        clear hrep hR BW hwt
        go_wp2_with fail
        refine hcall.mono ?_
        clear hcall
        rintro e w1 ⟨rfl, hb⟩
        have B1 : Hid (Below w0.heap.size w0 w1) := HB.out.trans (hb.mono HB.out.size)
        clear hb HB
        go_wp2_with fail
        refine (max_any _ _ hx1 hx2 _).mono ?_
        rintro e w2 ⟨rfl, rfl⟩
        rw [← D1.out]
        go_wp2
        go_round
        case rel => exact ⟨i + 1, by omega, by go_num, rfl, B1⟩
        case measure => simp [intOf]; omega
      · obtain rfl : i = ks.length := by omega
        rw [List.take_length]
        go_wp2
        go_ret
        refine ⟨?_, B0.out.trans (HB.out.mono (by rw [Z0.out]; omega))⟩
        show Ending.returned (.int .i64 ((dps ks : Nat) + 1 : Int)) = _
        rfl

end Go.Proofs.YtlnpfnglphdaiaaGreatDoor.value

namespace Go.Proofs.YtlnpfnglphdaiaaGreatDoor.value
open Go Go.RowKit Go.Proofs.YtlnpfnglphdaiaaGreatDoor.rose Go.Proofs.YtlnpfnglphdaiaaGreatDoor
set_option linter.unusedVariables false
set_option linter.unusedSimpArgs false

theorem drewN_below {B : Nat} {w w' : World} (h : Below B w w') (n : Nat) : Below B w (w'.drewN n) := by
  induction n with
  | zero => exact h
  | succ n ih => exact ih.drew

def ValSays (ds : List DataD) (T : ValueD) : Prop := ∀ v cs w, data.dataSh.slice.rep w (· < w.heap.size) [v] ds → valueSh.rep w (· < w.heap.size) cs T →
  Calls Tryz.prog 20 #[v, .agg cs.toArray] w fun e w' => e = .returned (.bool (okB ds T)) ∧ Below w.heap.size w w'

theorem str_eq_no {s : ByteArray} (h : ¬ s = ⟨#[]⟩) : s.toList.isEmpty = false := by
  cases hs : s.toList with
  | nil => exact absurd (bytes_ext (by rw [hs, ByteArray.toList_eq])) h
  | cons a l => rfl

/-- What is told of a value whose kids are right. -/
theorem ok_of {ds : List DataD} {V : ValueD} (hk : ∀ v ∈ V.kids, OkP ds v) {b : Bool} (h : b = true ↔ OkL ds V) : okB ds V = b := by
  by_cases hl : OkL ds V
  · rw [okB_true (okP_iff.2 ⟨hl, hk⟩), h.2 hl]
  · rw [okB_false fun q => hl (okP_iff.1 q).1]
    cases b with
    | true => exact absurd (h.1 rfl) hl
    | false => rfl

theorem okL_1 {ds : List DataD} {n : Int} {s : ByteArray} {vs : List ValueD} : OkL ds (.mk (1, n, s) vs) ↔ wordB n = true ∧ s = ⟨#[]⟩ ∧ vs.length = 0 := by simp [OkL, Rose.x, Rose.kids]
theorem okL_3 {ds : List DataD} {n : Int} {s : ByteArray} {vs : List ValueD} : OkL ds (.mk (3, n, s) vs) ↔ n = 0 ∧ s = ⟨#[]⟩ ∧ vs.length = 0 := by simp [OkL, Rose.x, Rose.kids]
theorem okL_2 {ds : List DataD} {n : Int} {s : ByteArray} {vs : List ValueD} : OkL ds (.mk (2, n, s) vs) ↔ n = 0 ∧ argsOf ds s = some vs.length := by simp [OkL, Rose.x, Rose.kids]
theorem okL_no {ds : List DataD} {k n : Int} {s : ByteArray} {vs : List ValueD} (h1 : ¬ k = 1) (h2 : ¬ k = 2) (h3 : ¬ k = 3) : ¬ OkL ds (.mk (k, n, s) vs) := by simp [OkL, Rose.x, Rose.kids, h1, h2, h3]

/-- Where the first con of that name is. -/
theorem place_cases (ds : List DataD) (s : ByteArray) : (data.placeB ds s = (-1, -1, -1) ∧ argsOf ds s = none) ∨ ∃ (t i j : Nat) (hi : i < ds.length) (hj : j < ds[i].2.2.length), data.placeB ds s = ((t : Int), (i : Int), (j : Int)) ∧ argsOf ds s = some ds[i].2.2[j].2.length := by
  unfold data.placeB argsOf
  cases hf : (data.spots 0 0 ds).find? (data.named s) with
  | none => exact .inl ⟨rfl, rfl⟩
  | some y =>
    obtain ⟨h1, d, h2, h3⟩ := spots_at (List.mem_of_find?_eq_some hf)
    simp only [Nat.sub_zero] at h2
    obtain ⟨hi, rfl⟩ := List.getElem?_eq_some_iff.1 h2
    obtain ⟨hj, he⟩ := List.getElem?_eq_some_iff.1 h3
    exact .inr ⟨y.tag, y.i, y.j, hi, hj, rfl, by rw [he]; rfl⟩

set_option maxRecDepth 100000 in
set_option maxHeartbeats 4000000 in
theorem value_any (ds : List DataD) (hd : ds.length + data.wts ds ≤ 1048576) (T : ValueD) : ValSays ds T := by
  induction T using ind with
  | h x ks ih =>
    intro v cs w hdv h
    obtain ⟨x0, x1, x2, ks', a, cap, hT, rfl, -, -, -, hk⟩ := value_open h
    cases hT
    clear h
    have o0 := data.dataSh.slice.one hdv v (by simp)
    obtain ⟨a1, cap1, css, e, hcap, hmax, hrow, hk2⟩ := values_open hk
    cases e
    have hmx : (ks.length : Int) ≤ 9223372036854775807 := by unfold maxLen at hmax; omega
    have IH : Hid (∀ k ∈ ks, ValSays ds k) := ih
    have HD : Hid (data.dataSh.slice.rep w (· < w.heap.size) [v] ds) := hdv
    have HR : Hid (RowAt w (· < w.heap.size) 4 a ks.length css ∧ ∀ i (h : i < ks.length), valueSh.rep w (· < w.heap.size) (css i) ks[i]) := ⟨hrow, hk2⟩
    clear ih hrow hk2 hk hcap hmax hdv
    go_enter Tryz.func20, Tryz.ntmps20
    go_wp2
    obtain ⟨w0, hw0⟩ : ∃ w0, w0 = w.alloc (.cells #[.int .i64 x0, .int .i64 x1, .string x2, .slice a ks.length cap] 26) := ⟨_, rfl⟩
    rw [← hw0]
    have T1 : Hid (w0.heap[w.heap.size]? = some (.cells #[.int .i64 x0, .int .i64 x1, .string x2, .slice a ks.length cap] 26)) := by show _ = _; rw [hw0]; exact alloc_top _ _
    have B0 : Hid (Below w.heap.size w w0) := by show Below _ _ _; rw [hw0]; exact (Below.refl _ _).alloc (Nat.le_refl _) _
    have Z0 : Hid (w0.heap.size = w.heap.size + 1) := by show _ = _; rw [hw0]; simp
    clear hw0
    go_loopw [5] (fun v5 wr => ∃ i : Nat, i ≤ ks.length ∧ v5 = .int .i64 i ∧ Hid (Below w0.heap.size w0 wr ∧ ∀ j (h : j < ks.length), j < i → OkP ds ks[j])) (fun v5 _ => ks.length - (intOf v5).toNat)
    case atStart => exact ⟨0, Nat.zero_le _, rfl, Below.refl _ _, fun j _ hj => absurd hj (Nat.not_lt_zero _)⟩
    case round =>
      obtain ⟨i, hi, rfl, HB⟩ := hrel
      have TB : Hid (wr.heap[w.heap.size]? = some (.cells #[.int .i64 x0, .int .i64 x1, .string x2, .slice a ks.length cap] 26)) := (HB.out.1.block _ (by rw [Z0.out]; omega)).trans T1.out
      have q3 : wr.cell? ⟨w.heap.size, 3, none⟩ = some (.slice a ks.length cap) := by simp [World.cell?, TB.out]
      have BW : Hid (Below w.heap.size w wr) := B0.out.trans (HB.out.1.mono (by rw [Z0.out]; omega))
      have DW : Hid (data.dataSh.slice.rep wr (· < wr.heap.size) [v] ds) := data.dataSh.slice.mono (data.dataSh.slice.below HD.out BW.out) fun b hb => Nat.lt_of_lt_of_le hb BW.out.size
      by_cases hlt : i < ks.length
      · obtain ⟨b, o, rfl, hS, hc⟩ := HR.out.1 i hlt
        have hrep := HR.out.2 i hlt
        obtain ⟨v0, v1, v2, v3, hcs, c0, c1, c2, c3⟩ := value_cells hrep hc
        have e0 := (BW.out.cell (p := ⟨b, o + i * 4, none⟩) hS).trans c0
        have e1 := (BW.out.cell (p := ⟨b, o + i * 4 + 1, none⟩) hS).trans c1
        have e2 := (BW.out.cell (p := ⟨b, o + i * 4 + 2, none⟩) hS).trans c2
        have e3 := (BW.out.cell (p := ⟨b, o + i * 4 + 3, none⟩) hS).trans c3
        rw [hcs] at hrep
        clear c0 c1 c2 c3 hc hcs
        have hR := valueSh.mono (valueSh.below hrep BW.out) (S' := (· < wr.heap.size)) (fun b hb => Nat.lt_of_lt_of_le hb BW.out.size)
        have hcall := IH.out ks[i] (List.getElem_mem hlt) v [v0, v1, v2, v3] wr DW.out hR
        obtain ⟨r, hr⟩ : ∃ r, r = okB ds ks[i] := ⟨_, rfl⟩
        rw [← hr] at hcall
        have QR : Hid (r = okB ds ks[i]) := hr
        clear hrep hR hr
        go_wp2_with fail
        refine hcall.mono ?_
        clear hcall
        rintro e w1 ⟨rfl, hb⟩
        have B1 : Hid (Below w0.heap.size w0 w1) := HB.out.1.trans (hb.mono HB.out.1.size)
        clear hb
        cases r with
        | true =>
          have Q : Hid (∀ j (h : j < ks.length), j < i + 1 → OkP ds ks[j]) := fun j h1 hj => by
            by_cases e : j = i
            · subst e; exact okB_iff.1 QR.out.symm
            · exact HB.out.2 j h1 (by omega)
          clear HB
          go_wp2
          go_round
          case rel => exact ⟨i + 1, by omega, by go_num, B1.out, Q.out⟩
          case measure => simp [intOf]; omega
        | false =>
          have Q : Hid (okB ds (.mk (x0, x1, x2) ks) = false) := okB_false fun q => by
            have := (okP_iff.1 q).2 ks[i] (List.getElem_mem hlt)
            rw [okB_true this] at QR
            cases QR.out
          clear HB
          go_wp2
          go_ret
          exact ⟨ret_b Q.out.symm, B0.out.trans (B1.out.mono (by rw [Z0.out]; omega))⟩
      · obtain rfl : i = ks.length := by omega
        have HK : Hid (∀ q ∈ (Rose.mk (x0, x1, x2) ks).kids, OkP ds q) := fun q hq => by
          obtain ⟨j, hj, rfl⟩ := List.getElem_of_mem (show q ∈ ks from hq)
          exact HB.out.2 j hj hj
        have q0 : wr.cell? ⟨w.heap.size, 0, none⟩ = some (.int .i64 x0) := by simp [World.cell?, TB.out]
        have q1 : wr.cell? ⟨w.heap.size, 1, none⟩ = some (.int .i64 x1) := by simp [World.cell?, TB.out]
        have q2 : wr.cell? ⟨w.heap.size, 2, none⟩ = some (.string x2) := by simp [World.cell?, TB.out]
        clear HB
        by_cases h1 : x0 = 1
        · subst h1
          have HO : Hid (∀ b : Bool, (b = true ↔ wordB x1 = true ∧ x2 = ⟨#[]⟩ ∧ ks.length = 0) → okB ds (.mk (1, x1, x2) ks) = b) := fun b hb => ok_of HK.out (hb.trans okL_1.symm)
          have hcall := specWordOk x1 wr
          obtain ⟨wb, hwb⟩ : ∃ wb, wb = wordB x1 := ⟨_, rfl⟩
          rw [← hwb] at hcall
          have HWB : Hid (wb = wordB x1) := hwb
          clear hwb
          go_wp2_with fail
          refine hcall.mono ?_
          rintro e w1 ⟨rfl, rfl⟩
          clear hcall
          cases wb with
          | false =>
            have Q : Hid (okB ds (.mk (1, x1, x2) ks) = false) := HO.out false (by rw [← HWB.out]; simp)
            go_wp2
            go_ret
            exact ⟨ret_b Q.out.symm, BW.out⟩
          | true =>
            by_cases h2 : x2 = ⟨#[]⟩
            · subst h2
              by_cases h3 : ks.length = 0
              · have Q : Hid (okB ds (.mk (1, x1, ⟨#[]⟩) ks) = true) := HO.out true (by rw [← HWB.out]; simp [h3])
                rw [h3] at q3
                go_wp2
                go_ret
                exact ⟨ret_b Q.out.symm, BW.out⟩
              · have Q : Hid (okB ds (.mk (1, x1, ⟨#[]⟩) ks) = false) := HO.out false (by rw [← HWB.out]; simpa using h3)
                have h4 : ¬ (ks.length : Int) = 0 := by omega
                have h5 : ((ks.length : Int) == 0) = false := by simpa using h4
                go_wp2
                go_ret
                exact ⟨ret_b (by have q := Q.out; first | exact q.symm | (rw [q]; exact h5) | (rw [q]; simpa using h4)), BW.out⟩
            · have Q : Hid (okB ds (.mk (1, x1, x2) ks) = false) := HO.out false (by rw [← HWB.out]; simp [h2])
              have h4 := str_eq_no h2
              clear h2
              go_wp2
              go_ret
              exact ⟨ret_b Q.out.symm, BW.out⟩
        by_cases h3 : x0 = 3
        · subst h3
          have HO : Hid (∀ b : Bool, (b = true ↔ x1 = 0 ∧ x2 = ⟨#[]⟩ ∧ ks.length = 0) → okB ds (.mk (3, x1, x2) ks) = b) := fun b hb => ok_of HK.out (hb.trans okL_3.symm)
          by_cases h0 : x1 = 0
          · subst h0
            by_cases h2 : x2 = ⟨#[]⟩
            · subst h2
              by_cases h3 : ks.length = 0
              · have Q : Hid (okB ds (.mk (3, 0, ⟨#[]⟩) ks) = true) := HO.out true (by simp [h3])
                rw [h3] at q3
                go_wp2
                go_ret
                exact ⟨ret_b Q.out.symm, BW.out⟩
              · have Q : Hid (okB ds (.mk (3, 0, ⟨#[]⟩) ks) = false) := HO.out false (by simpa using h3)
                have h4 : ¬ (ks.length : Int) = 0 := by omega
                have h5 : ((ks.length : Int) == 0) = false := by simpa using h4
                go_wp2
                go_ret
                exact ⟨ret_b (by have q := Q.out; first | exact q.symm | (rw [q]; exact h5) | (rw [q]; simpa using h4)), BW.out⟩
            · have Q : Hid (okB ds (.mk (3, 0, x2) ks) = false) := HO.out false (by simp [h2])
              have h4 := str_eq_no h2
              clear h2
              go_wp2
              go_ret
              exact ⟨ret_b Q.out.symm, BW.out⟩
          · have Q : Hid (okB ds (.mk (3, x1, x2) ks) = false) := HO.out false (by simp [h0])
            go_wp2
            go_ret
            exact ⟨ret_b Q.out.symm, BW.out⟩
        by_cases h2 : x0 = 2
        case neg =>
          have Q : Hid (okB ds (.mk (x0, x1, x2) ks) = false) := okB_false fun q => okL_no h1 h2 h3 (okP_iff.1 q).1
          go_wp2
          go_ret
          exact ⟨ret_b Q.out.symm, BW.out⟩
        subst h2
        clear h1 h3
        have HO : Hid (∀ b : Bool, (b = true ↔ x1 = 0 ∧ argsOf ds x2 = some ks.length) → okB ds (.mk (2, x1, x2) ks) = b) := fun b hb => ok_of HK.out (hb.trans okL_2.symm)
        have hcall := data.specConOf ds v x2 wr hd DW.out
        rcases place_cases ds x2 with ⟨hp, hno⟩ | ⟨t, i, j, hi, hj, hp, hyes⟩
        · rw [hp] at hcall
          dsimp only at hcall
          go_wp2_with fail
          refine hcall.mono ?_
          rintro e w1 ⟨rfl, hb⟩
          have B1 : Hid (Below w.heap.size w w1) := BW.out.trans (hb.mono BW.out.size)
          have Q : Hid (okB ds (.mk (2, x1, x2) ks) = false) := HO.out false (by simp [hno])
          have TC : Hid (w1.heap[w.heap.size]? = some (.cells #[.int .i64 2, .int .i64 x1, .string x2, .slice a ks.length cap] 26)) := (hb.block _ (Nat.lt_of_lt_of_le (by rw [Z0.out]; omega) (show w0.heap.size ≤ wr.heap.size by have := BW.out.size; have := (Array.getElem?_eq_some_iff.1 TB.out).1; rw [Z0.out]; omega))).trans TB.out
          have q1 : w1.cell? ⟨w.heap.size, 1, none⟩ = some (.int .i64 x1) := by simp [World.cell?, TC.out]
          clear hcall hb hp hno
          by_cases h0 : x1 = 0
          · subst h0
            go_wp2
            go_quiet (fail)
            go_wp2
            go_ret
            exact ⟨ret_b Q.out.symm, (drewN_below B1.out _)⟩
          · have h0' : (x1 == 0) = false := by simpa using h0
            have h0'' : decide (x1 = 0) = false := by simpa using h0
            go_wp2
            go_quiet (fail)
            go_wp2
            go_ret
            exact ⟨ret_b Q.out.symm, (drewN_below B1.out _)⟩
        · rw [hp] at hcall
          dsimp only at hcall
          obtain ⟨av, cv, cssd, rfl, -, hmd, hrowd, hkd⟩ := data.datas_open DW.out
          obtain ⟨b1, o1, rfl, hS1, hc1⟩ := hrowd i hi
          obtain ⟨n0, n1, n2, an, cn, hTd, hcsd, -, -, fd⟩ := data.data_open (hkd i hi)
          rw [hcsd] at hc1
          have hj2 : j < n2.length := by rw [hTd] at hj; exact hj
          obtain ⟨ac, cc, cssc, e, -, hmc, hrowc, hkc⟩ := con.cons_open fd
          cases e
          obtain ⟨b2, o2, rfl, hS2, hc2⟩ := hrowc j hj2
          obtain ⟨y0, y1, ay, cy, hTc, hcsc, -, fy⟩ := con.con_open (hkc j hj2)
          rw [hcsc] at hc2
          have hy1 : ds[i].2.2[j].2.length = y1.length := by
            have : ds[i].2.2[j] = (y0, y1) := by
              rw [← hTc]
              simp only [hTd]
            rw [this]
          rw [hy1] at hyes
          have k1 : wr.cell? ⟨b1, o1 + i * 3 + 2, none⟩ = some (.slice (some ⟨b2, o2, none⟩) n2.length cn) := hc1 2 _ rfl
          have k2 : wr.cell? ⟨b2, o2 + j * 2 + 1, none⟩ = some (.slice ay y1.length cy) := hc2 1 _ rfl
          have hil : (ds.length : Int) ≤ 9223372036854775807 := by omega
          have hyl : (y1.length : Int) ≤ 9223372036854775807 := by
            obtain ⟨_, _, _, _, h1, h2, -⟩ := fy
            unfold maxLen at h2
            omega
          go_wp2_with fail
          refine hcall.mono ?_
          rintro e w1 ⟨rfl, hb⟩
          have B1 : Hid (Below w.heap.size w w1) := BW.out.trans (hb.mono BW.out.size)
          have TC : Hid (w1.heap[w.heap.size]? = some (.cells #[.int .i64 2, .int .i64 x1, .string x2, .slice a ks.length cap] 26)) := (hb.block _ (by have := (Array.getElem?_eq_some_iff.1 TB.out).1; exact this)).trans TB.out
          have q1 : w1.cell? ⟨w.heap.size, 1, none⟩ = some (.int .i64 x1) := by simp [World.cell?, TC.out]
          have q4 : w1.cell? ⟨w.heap.size, 3, none⟩ = some (.slice a ks.length cap) := by simp [World.cell?, TC.out]
          have k3 := (hb.cell (p := ⟨b1, o1 + i * 3 + 2, none⟩) hS1).trans k1
          have k4 := (hb.cell (p := ⟨b2, o2 + j * 2 + 1, none⟩) hS2).trans k2
          clear hcall hb hp k1 k2 hrowd hkd hc1 hcsd fd hrowc hkc hc2 hcsc fy hTc hTd hmc hmd
          by_cases h0 : x1 = 0
          · subst h0
            have j1 : (0 : Int) ≤ (i : Int) := by omega
            have j2 : (i : Int) < (ds.length : Int) := by omega
            have j3 : (0 : Int) ≤ (j : Int) := by omega
            have j4 : (j : Int) < (n2.length : Int) := by omega
            by_cases hl : y1.length = ks.length
            · have Q : Hid (okB ds (.mk (2, 0, x2) ks) = true) := HO.out true (by simp [hyes, hl])
              rw [hl] at k4
              clear hyes hyl
              go_wp2
              go_quiet (fail)
              go_wp2
              go_ret
              exact ⟨ret_b (by have q := Q.out; first | exact q.symm | (rw [q]; simp)), (drewN_below B1.out _)⟩
            · have Q : Hid (okB ds (.mk (2, 0, x2) ks) = false) := HO.out false (by simp [hyes, hl])
              have hl' : ((y1.length : Int) == (ks.length : Int)) = false := by simp; omega
              have hl2 : ¬ (y1.length : Int) = (ks.length : Int) := by omega
              clear hyes
              go_wp2
              go_quiet (fail)
              go_wp2
              go_ret
              exact ⟨ret_b (by have q := Q.out; first | exact q.symm | (rw [q]; exact hl') | (rw [q]; simpa using hl2)), (drewN_below B1.out _)⟩
          · have Q : Hid (okB ds (.mk (2, x1, x2) ks) = false) := HO.out false (by simp [h0])
            have h0' : (x1 == 0) = false := by simpa using h0
            have h0'' : decide (x1 = 0) = false := by simpa using h0
            go_wp2
            go_quiet (fail)
            go_wp2
            go_ret
            exact ⟨ret_b Q.out.symm, (drewN_below B1.out _)⟩

set_option maxHeartbeats 2000000 in
theorem specValueOk (ds : List DataD) (T : ValueD) (v : Value) (cs : List Value) (w : World) (hd : ds.length + data.wts ds ≤ 1048576) (hw : wt T ≤ 1048576) (hdv : data.dataSh.slice.rep w (· < w.heap.size) [v] ds) (h : valueSh.rep w (· < w.heap.size) cs T) :
    Calls Tryz.prog 10 #[v, .agg cs.toArray] w fun e w' => e = .returned (.bool (rightB ds T)) ∧ Below w.heap.size w w' := by
  have o0 := data.dataSh.slice.one hdv v (by simp)
  have one := valueSh.one h
  obtain ⟨v0, v1, v2, v3, rfl⟩ := value_list h
  have p0 := one v0 (by simp)
  have p1 := one v1 (by simp)
  have p2 := one v2 (by simp)
  have p3 := one v3 (by simp)
  have hdp : dp T ≤ 2000000 := by have := dp_le T; omega
  obtain ⟨w0, hw0⟩ : ∃ w0, w0 = w.alloc (.cells #[v0, v1, v2, v3] 26) := ⟨_, rfl⟩
  have HW0 : Hid (w0 = w.alloc (.cells #[v0, v1, v2, v3] 26)) := hw0
  have T1 : Hid (w0.heap[w.heap.size]? = some (.cells #[v0, v1, v2, v3] 26)) := by show _ = _; rw [hw0]; exact alloc_top _ _
  have B0 : Hid (Below w.heap.size w w0) := by show Below _ _ _; rw [hw0]; exact (Below.refl _ _).alloc (Nat.le_refl _) _
  have AT : Hid (∀ w' : World, Below w.heap.size w w' → valueSh.rep w' (· < w'.heap.size) [v0, v1, v2, v3] T ∧ data.dataSh.slice.rep w' (· < w'.heap.size) [v] ds) := fun w' hb => ⟨valueSh.mono (valueSh.below h hb) fun b hlt => Nat.lt_of_lt_of_le hlt hb.size, data.dataSh.slice.mono (data.dataSh.slice.below hdv hb) fun b hlt => Nat.lt_of_lt_of_le hlt hb.size⟩
  clear hw0 h hdv one
  go_enter Tryz.func10, Tryz.ntmps10
  go_wp2_with fail
  rw [← HW0.out]
  refine (deep_any T _ w0 hw (AT.out _ B0.out).1).mono ?_
  rintro e w1 ⟨rfl, hb⟩
  have B1 : Hid (Below w.heap.size w w1) := B0.out.trans (hb.mono B0.out.size)
  have TC : Hid (w1.heap[w.heap.size]? = some (.cells #[v0, v1, v2, v3] 26)) := (hb.block _ (Array.getElem?_eq_some_iff.1 T1.out).1).trans T1.out
  clear hb
  by_cases hdd : dp T ≤ 200
  · have hd2 : (dp T : Int) ≤ 200 := by omega
    have e0 : w1.cell? ⟨w.heap.size, 0, none⟩ = some v0 := by simp [World.cell?, TC.out]
    have e1 : w1.cell? ⟨w.heap.size, 1, none⟩ = some v1 := by simp [World.cell?, TC.out]
    have e2 : w1.cell? ⟨w.heap.size, 2, none⟩ = some v2 := by simp [World.cell?, TC.out]
    have e3 : w1.cell? ⟨w.heap.size, 3, none⟩ = some v3 := by simp [World.cell?, TC.out]
    have Q : Hid (rightB ds T = okB ds T) := by show _ = _; unfold rightB; rw [decide_eq_true hdd, Bool.true_and]
    go_wp2_with fail
    refine (value_any ds hd T v _ w1 (AT.out _ B1.out).2 (AT.out _ B1.out).1).mono ?_
    rintro e w2 ⟨rfl, hb⟩
    have B2 : Hid (Below w.heap.size w w2) := B1.out.trans (hb.mono B1.out.size)
    clear hb
    rw [← Q.out]
    go_wp2
    go_ret
    exact ⟨rfl, B2.out⟩
  · have hd2 : ¬ (dp T : Int) ≤ 200 := by omega
    have Q : Hid (rightB ds T = false) := by show _ = _; unfold rightB; rw [decide_eq_false hdd, Bool.false_and]
    go_wp2
    go_ret
    exact ⟨ret_b Q.out.symm, B1.out⟩

end Go.Proofs.YtlnpfnglphdaiaaGreatDoor.value

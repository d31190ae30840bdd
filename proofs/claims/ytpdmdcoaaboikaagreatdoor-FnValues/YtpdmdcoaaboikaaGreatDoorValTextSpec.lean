/-
  A value as text, and the model's ValueText, at every value; nothing that was there is turned.
-/
import Derived.Test.YtpdmdcoaaboikaaGreatDoorValueSh
import Derived.Test.YtpdmdcoaaboikaaGreatDoorWalks
import Derived.Deep.RegionWith
import Derived.Laws.Strings
import Derived.Laws.IdiomStrings
import Derived.Deep.RegionHeld3
import Derived.Sort.AtCall
import Derived.Deep.QuietTactic
import Derived.BigQuiet
import Derived.WalkSmall
namespace Go.Proofs.YtpdmdcoaaboikaaGreatDoor.vt
open Go Go.RowKit Go.Proofs.YtpdmdcoaaboikaaGreatDoor.rose Go.Proofs.YtpdmdcoaaboikaaGreatDoor.value Go.Proofs.YtpdmdcoaaboikaaGreatDoor
set_option linter.unusedVariables false
set_option linter.unusedSimpArgs false

/-- Bytes as a text. -/
def str (l : List UInt8) : ByteArray := ⟨l.toArray⟩
theorem str_append (a b : List UInt8) : str a ++ str b = str (a ++ b) := by
  apply ByteArray.ext
  simp [str, ByteArray.data_append]
theorem str_of (s : ByteArray) : s = str s.data.toList := by simp [str]
theorem str_size (l : List UInt8) : (str l).size = l.length := by simp [str, ByteArray.size]

/-- The numeral of an int. -/
def dg (n : Int) : List UInt8 := if -9223372036854775808 ≤ n ∧ n ≤ 9223372036854775807 then Lib.itoa n else []
theorem dg_in {n : Int} (h : -9223372036854775808 ≤ n ∧ n ≤ 9223372036854775807) : dg n = Lib.itoa n := by unfold dg; rw [if_pos h]
theorem dg_len (n : Int) : (dg n).length ≤ 21 := by
  unfold dg
  split
  · rename_i h; exact Lib.itoa_length_le n h.1 h.2
  · simp

mutual
def tl : ValueD → List UInt8
  | .mk (op, n, s) ks =>
    if op = 1 then dg n
    else if op = 2 then (if ks.length = 0 then s.data.toList else [40] ++ (s.data.toList ++ (tlS ks).flatMap fun t => 32 :: t) ++ [41])
    else [102, 117, 110]
def tlS : List ValueD → List (List UInt8)
  | [] => []
  | k :: ks => tl k :: tlS ks
end

theorem tlS_eq (ks : List ValueD) : tlS ks = ks.map tl := by
  induction ks with
  | nil => rfl
  | cons k ks ih => simp [tlS, ih]

theorem tl_le (T : ValueD) : (tl T).length ≤ 24 * wt T + 21 := by
  induction T using ind with
  | h x ks ih =>
    obtain ⟨op, n, s⟩ := x
    have hs : s.data.toList.length = s.size := by rw [Array.length_toList]; rfl
    have hsum : ((tlS ks).flatMap fun t => 32 :: t).length ≤ 22 * ks.length + 24 * wts ks := by
      rw [tlS_eq]
      clear hs op n s
      induction ks with
      | nil => simp
      | cons k ks ih2 =>
        have h1 := ih k (by simp)
        have h2 := ih2 fun q hq => ih q (by simp [hq])
        simp only [List.map_cons, List.flatMap_cons, List.length_append, List.length_cons, wts]
        omega
    have hz : ks.length = 0 ∨ 1 ≤ ks.length := by omega
    simp only [tl, wt]
    split
    · have := dg_len n; omega
    · split
      · split
        · omega
        · simp only [List.length_append, List.length_cons, List.length_nil]
          omega
      · simp only [List.length_cons, List.length_nil]; omega

theorem flat_le (ks : List ValueD) : ((tlS ks).flatMap fun t => 32 :: t).length ≤ 22 * ks.length + 24 * wts ks := by
  rw [tlS_eq]
  induction ks with
  | nil => simp
  | cons k ks ih2 =>
    have h1 := tl_le k
    simp only [List.map_cons, List.flatMap_cons, List.length_append, List.length_cons, wts]
    omega
theorem flatTake_le (ks : List ValueD) (i : Nat) : (((tlS ks).take i).flatMap fun t => 32 :: t).length ≤ 22 * ks.length + 24 * wts ks := by
  refine Nat.le_trans ?_ (flat_le ks)
  conv => rhs; rw [← List.take_append_drop i (tlS ks)]
  rw [List.flatMap_append, List.length_append]
  omega
theorem flatTake_succ (ks : List ValueD) {i : Nat} (h : i < ks.length) : (((tlS ks).take (i + 1)).flatMap fun t => 32 :: t) = (((tlS ks).take i).flatMap fun t => 32 :: t) ++ (32 :: tl ks[i]) := by
  rw [tlS_eq, List.take_succ_eq_append_getElem (by simpa using h), List.flatMap_append]
  simp

def TextSays (T : ValueD) : Prop := ∀ cs w, wt T ≤ 1048576 → valueSh.rep w (· < w.heap.size) cs T →
  Calls Tryz.prog 8 #[.agg cs.toArray] w fun e w' => e = .returned (.string (str (tl T))) ∧ Below w.heap.size w w'

set_option maxRecDepth 100000 in
set_option maxHeartbeats 4000000 in
theorem specValueText (T : ValueD) : TextSays T := by
  induction T using ind with
  | h x ks ih =>
    intro cs w hw h
    obtain ⟨op, n, s, ks', a, cap, hT, rfl, f0, f1, f2, fk⟩ := value_open h
    cases hT
    obtain ⟨a', cap', css, e, -, hmax, hrow, hk⟩ := values_open fk
    cases e
    clear h
    have hle : ks.length + wts ks ≤ 1048576 := by simp [wt] at hw; omega
    have IH : Hid (∀ k ∈ ks, TextSays k) := ih
    have HR : Hid (RowAt w (· < w.heap.size) 4 a ks.length css ∧ ∀ i (h : i < ks.length), valueSh.rep w (· < w.heap.size) (css i) ks[i]) := ⟨hrow, hk⟩
    have HSZ : Hid (s.size ≤ 1048576) := by simp [wt] at hw; show _ ≤ _; omega
    clear ih hrow hk hmax hw fk
    obtain ⟨q, hq⟩ : ∃ q, q = tl (.mk (op, n, s) ks) := ⟨_, rfl⟩
    have HQ : Hid (q = tl (.mk (op, n, s) ks)) := hq
    rw [← hq]
    clear hq
    have B0 : Hid (Below w.heap.size w (w.alloc (.cells #[.int .i64 op, .int .i64 n, .string s, .slice a ks.length cap] 26))) := (Below.refl _ _).alloc (Nat.le_refl _) _
    go_enter Tryz.func8, Tryz.ntmps8
    by_cases h1 : op = 1
    · subst h1
      have HV : Hid (q = Lib.itoa n) := by show _ = _; rw [HQ.out]; simp [tl, dg_in f1]
      go_wp2_with fail
      refine (walks.digits_any n f1.1 f1.2 _).mono ?_
      rintro e w1 ⟨rfl, hb⟩
      have B1 : Hid (Below w.heap.size w w1) := B0.out.trans (hb.mono B0.out.size)
      clear hb
      go_wp2
      go_ret
      exact ⟨by rw [HV.out]; rfl, B1.out⟩
    · have h1' : (op == 1) = false := by simpa using h1
      by_cases h4 : op = 2
      · subst h4
        have hsd : s.data.toList.length ≤ 1048576 := by rw [Array.length_toList]; exact HSZ.out
        have HV : Hid (q = if ks.length = 0 then s.data.toList else ([40] : List UInt8) ++ (s.data.toList ++ (tlS ks).flatMap fun t => 32 :: t) ++ ([41] : List UInt8)) := by
          show _ = _
          rw [HQ.out]
          simp only [tl]
          rfl
        clear B0
        go_wp2
        generalize hw0 : w.alloc _ = w0
        have W0 : Hid (Below w.heap.size w w0 ∧ w0.cell? ⟨w.heap.size, 3, none⟩ = some (.slice a ks.length cap) ∧ w.heap.size < w0.heap.size) := by
          subst hw0
          exact ⟨(Below.refl _ _).alloc (Nat.le_refl _) _, by simp, by simp⟩
        clear hw0
        go_loopw [3, 4] (fun v3 v4 wr => ∃ (i : Nat) (t : ByteArray), i ≤ ks.length ∧ v4 = .int .i64 i ∧ v3 = .string t ∧ Hid (t = str (s.data.toList ++ ((tlS ks).take i).flatMap fun t => 32 :: t)) ∧ Hid (Below w.heap.size w wr ∧ wr.cell? ⟨w.heap.size, 3, none⟩ = some (.slice a ks.length cap) ∧ w.heap.size < wr.heap.size)) (fun _ v4 _ => ks.length - (intOf v4).toNat)
        case atStart => exact ⟨0, s, Nat.zero_le _, rfl, rfl, by show _ = _; simp only [List.take_zero, List.flatMap_nil, List.append_nil]; exact str_of s, W0⟩
        case round =>
          obtain ⟨i, t, hi, rfl, rfl, HT, HB⟩ := hrel
          have c3 := HB.out.2.1
          have htz : t.size ≤ 33554432 := by
            rw [HT.out, str_size, List.length_append]
            have := flatTake_le ks i
            omega
          by_cases hlt : i < ks.length
          · obtain ⟨b, o, rfl, hS, hc⟩ := HR.out.1 i hlt
            have hrep := HR.out.2 i hlt
            obtain ⟨v0, v1, v2, v3, hcs, d0, d1, d2, d3⟩ := value_cells hrep hc
            have BW := HB.out.1
            have e0 := (BW.cell (p := ⟨b, o + i * 4, none⟩) hS).trans d0
            have e1 := (BW.cell (p := ⟨b, o + i * 4 + 1, none⟩) hS).trans d1
            have e2 := (BW.cell (p := ⟨b, o + i * 4 + 2, none⟩) hS).trans d2
            have e3 := (BW.cell (p := ⟨b, o + i * 4 + 3, none⟩) hS).trans d3
            rw [hcs] at hrep
            clear d0 d1 d2 d3 hc hcs
            have hR := valueSh.mono (valueSh.below hrep BW) (S' := (· < wr.heap.size)) (fun b hb => Nat.lt_of_lt_of_le hb BW.size)
            have hcall := IH.out ks[i] (List.getElem_mem hlt) [v0, v1, v2, v3] wr (by have := wt_mem (List.getElem_mem hlt); omega) hR
            clear hR hrep BW
            have hzi : (str (tl ks[i])).size ≤ 33554432 := by rw [str_size]; have := tl_le ks[i]; have := wt_mem (List.getElem_mem hlt); omega
            have HT2 : Hid (t ++ ⟨#[32]⟩ ++ str (tl ks[i]) = str (s.data.toList ++ ((tlS ks).take (i + 1)).flatMap fun t => 32 :: t)) := by
              show _ = _
              rw [HT.out, flatTake_succ ks hlt, ← str_append, ← str_append, ← str_append]
              rw [show (32 :: tl ks[i]) = [32] ++ tl ks[i] from rfl, ← str_append]
              apply ByteArray.ext
              simp [ByteArray.data_append, str]
            generalize str (tl ks[i]) = ti at hcall hzi HT2
            have z1 : ¬ (9223372036854775807 < t.size + 1) := by omega
            have z2 : ¬ (9223372036854775807 < t.size + 1 + ti.size) := by omega
            go_wp2_with fail
            refine hcall.mono ?_
            clear hcall
            rintro e w1 ⟨rfl, hb⟩
            have B1 : Hid (Below w.heap.size w w1 ∧ w1.cell? ⟨w.heap.size, 3, none⟩ = some (.slice (some ⟨b, o, none⟩) ks.length cap) ∧ w.heap.size < w1.heap.size) := ⟨HB.out.1.trans (hb.mono HB.out.1.size), (hb.cell (p := ⟨w.heap.size, 3, none⟩) HB.out.2.2).trans HB.out.2.1, Nat.lt_of_lt_of_le HB.out.2.2 hb.size⟩
            clear hb c3 e0 e1 e2 e3
            go_wp2
            go_round
            case rel => exact ⟨i + 1, _, by omega, by go_num, rfl, HT2, B1⟩
            case measure => simp [intOf]; omega
          · obtain rfl : i = ks.length := by omega
            have HT2 : Hid (t = str (s.data.toList ++ (tlS ks).flatMap fun t => 32 :: t)) := by
              have := HT.out
              rwa [List.take_of_length_le (by rw [tlS_eq]; simp)] at this
            by_cases hz : ks.length = 0
            · have HF : Hid (t = str q) := by
                show _ = _
                have hk0 : ks = [] := List.eq_nil_of_length_eq_zero hz
                rw [HT2.out, HV.out, if_pos hz, hk0]
                simp [tlS]
              rw [hz] at c3
              go_wp2
              go_ret
              exact ⟨congrArg (fun x => Ending.returned (.string x)) HF.out, HB.out.1⟩
            · have HF : Hid ((⟨#[40]⟩ : ByteArray) ++ t ++ ⟨#[41]⟩ = str q) := by
                show _ = _
                rw [HT2.out, HV.out, if_neg hz, ← str_append, ← str_append]; rfl
              have hpos : (0 : Int) < (ks.length : Nat) := by omega
              have z1 : ¬ (9223372036854775807 < 1 + t.size) := by omega
              have z2 : ¬ (9223372036854775807 < 1 + t.size + 1) := by omega
              go_wp2
              go_ret
              exact ⟨congrArg (fun x => Ending.returned (.string x)) HF.out, HB.out.1⟩
      · have h4' : (op == 2) = false := by simpa using h4
        have HV : Hid (q = [102, 117, 110]) := by
          show _ = _
          rw [HQ.out]
          simp only [tl, if_neg h1, if_neg h4]
        go_wp2
        go_ret
        exact ⟨by rw [HV.out]; rfl, B0.out⟩

end Go.Proofs.YtpdmdcoaaboikaaGreatDoor.vt

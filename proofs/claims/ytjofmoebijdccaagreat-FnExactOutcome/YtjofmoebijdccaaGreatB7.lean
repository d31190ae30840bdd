/-
  The law's comparison of two Cons and of slices of them: of two that are the same it says true; nothing that was there is turned.
  The law's comparison of two Datas and of slices of them: of two that are the same it says true; nothing that was there is turned.
  The law's markText: of a number from 1 on a text that hangs on it alone; nothing that was there is turned.
  The law's marks in a Ty's kids: where it lies apart, each cell gets a number, or a text, of its own, and what is read back is what was written; nothing else is turned.
-/
import Derived.Deep.RegionWith
import Derived.Test.YtjofmoebijdccaaGreatChecked
import Derived.WalkKit
import Derived.WalkLawsBesides
import Derived.Lib.ItoaNum
import Derived.Laws.IdiomStrings
import Derived.Lib.ItoaLen
import Derived.Test.YtjofmoebijdccaaGreatB1
import Derived.Test.YtjofmoebijdccaaGreatB2
import Derived.Test.YtjofmoebijdccaaGreatB3
import Derived.Test.YtjofmoebijdccaaGreatB4
import Derived.Test.YtjofmoebijdccaaGreatB5
import Derived.Test.YtjofmoebijdccaaGreatB6
namespace Go.Proofs.YtjofmoebijdccaaGreat.con
open Go.RowKit Go.Proofs.YtjofmoebijdccaaGreat.rose Go.Proofs.YtjofmoebijdccaaGreat
set_option linter.unusedVariables false

def EqSays (T : ConD) : Prop := ∀ cs1 cs2 w, conSh.rep w (· < w.heap.size) cs1 T → conSh.rep w (· < w.heap.size) cs2 T →
  Calls Tryz.prog 83 #[.agg cs1.toArray, .agg cs2.toArray] w fun e w' => e = .returned (.bool true) ∧ Below w.heap.size w w'

set_option maxHeartbeats 1000000 in
theorem eq_any (T : ConD) : EqSays T := by
  intro cs1 cs2 w h h'
  obtain ⟨x0, x1, a1, c1, rfl, rfl, f0, f1⟩ := con_open h
  obtain ⟨x0', x1', a1', c1', hT, rfl, g0, g1⟩ := con_open h'
  cases hT
  clear h h'
  have K1 : ∀ (w' : World), Below w.heap.size w w' → Calls Tryz.prog 102 #[.slice a1 x1.length c1, .slice a1' x1.length c1'] w' fun e w'' => e = .returned (.bool true) ∧ Below w'.heap.size w' w'' :=
    fun w' hb => ty.eqS_any x1 _ _ w' (ty.tySh.slice.mono (ty.tySh.slice.below f1 hb) fun b hlt => Nat.lt_of_lt_of_le hlt hb.size) (ty.tySh.slice.mono (ty.tySh.slice.below g1 hb) fun b hlt => Nat.lt_of_lt_of_le hlt hb.size)
  clear f1 g1
  go_enter Tryz.func83, Tryz.ntmps83
  go_wp2_with fail
  refine (K1 _ (((Below.refl _ _).alloc (Nat.le_refl _) _).alloc (by simp) _)).mono ?_
  rintro e w1 ⟨rfl, hb⟩
  have B1 : Hid (Below w.heap.size w w1) := (((Below.refl _ _).alloc (Nat.le_refl _) _).alloc (by simp) _).trans (hb.mono (by simp; omega))
  have z1 : w.heap.size + 2 ≤ w1.heap.size := Nat.le_trans (by simp) hb.size
  clear hb K1
  go_wp2
  go_ret
  exact ⟨rfl, B1.out⟩

set_option maxHeartbeats 2000000 in
theorem eqS_of (ks : List ConD) (ih : ∀ k ∈ ks, EqSays k) (v1 v2 : Value) (w : World) (h : conSh.slice.rep w (· < w.heap.size) [v1] ks) (h' : conSh.slice.rep w (· < w.heap.size) [v2] ks) :
    Calls Tryz.prog 55 #[v1, v2] w fun e w' => e = .returned (.bool true) ∧ Below w.heap.size w w' := by
  obtain ⟨a, cap, css, rfl, hcap, hmax, hrow, hk⟩ := cons_open h
  obtain ⟨a', cap', css', rfl, hcap', hmax', hrow', hk'⟩ := cons_open h'
  have hmx : (ks.length : Int) ≤ 9223372036854775807 := by unfold maxLen at hmax; omega
  clear h hcap hmax h' hcap' hmax'
  have IH : Hid (∀ k ∈ ks, EqSays k) := ih
  have HR : Hid (RowAt w (· < w.heap.size) 2 a ks.length css ∧ ∀ i (h : i < ks.length), conSh.rep w (· < w.heap.size) (css i) ks[i]) := ⟨hrow, hk⟩
  have HR' : Hid (RowAt w (· < w.heap.size) 2 a' ks.length css' ∧ ∀ i (h : i < ks.length), conSh.rep w (· < w.heap.size) (css' i) ks[i]) := ⟨hrow', hk'⟩
  clear ih hrow hk hrow' hk'
  go_enter Tryz.func55, Tryz.ntmps55
  go_wp2
  go_loopw [5] (fun v5 wr => ∃ i : Nat, i ≤ ks.length ∧ v5 = .int .i64 i ∧ Hid (Below w.heap.size w wr)) (fun v5 _ => ks.length - (intOf v5).toNat)
  case atStart => exact ⟨0, Nat.zero_le _, rfl, Below.refl _ _⟩
  case round =>
    obtain ⟨i, hi, rfl, HB⟩ := hrel
    by_cases hlt : i < ks.length
    · obtain ⟨b, o, rfl, hS, hc⟩ := HR.out.1 i hlt
      have hrep := HR.out.2 i hlt
      obtain ⟨v0, v1, hcs, c0, c1⟩ := con_cells hrep hc
      have e0 := (HB.out.cell (p := ⟨b, o + i * 2, none⟩) hS).trans c0
      have e1 := (HB.out.cell (p := ⟨b, o + i * 2 + 1, none⟩) hS).trans c1
      rw [hcs] at hrep
      clear c0 c1 hc hcs
      obtain ⟨b', o', rfl, hS', hc⟩ := HR'.out.1 i hlt
      have hrep' := HR'.out.2 i hlt
      obtain ⟨v0', v1', hcs, c0, c1⟩ := con_cells hrep' hc
      have e0' := (HB.out.cell (p := ⟨b', o' + i * 2, none⟩) hS').trans c0
      have e1' := (HB.out.cell (p := ⟨b', o' + i * 2 + 1, none⟩) hS').trans c1
      rw [hcs] at hrep'
      clear c0 c1 hc hcs
      have hR := conSh.mono (conSh.below hrep HB.out) (S' := (· < wr.heap.size)) (fun b hb => Nat.lt_of_lt_of_le hb HB.out.size)
      have hR' := conSh.mono (conSh.below hrep' HB.out) (S' := (· < wr.heap.size)) (fun b hb => Nat.lt_of_lt_of_le hb HB.out.size)
      clear hrep hrep'
      have hcall := IH.out ks[i] (List.getElem_mem hlt) [v0, v1] [v0', v1'] wr.drew (conSh.on hR fun _ _ => rfl) (conSh.on hR' fun _ _ => rfl)
      clear hR hR'
      go_wp2
      go_region_with (go_at_call 83; refine hcall.mono ?_; rintro e w1 ⟨rfl, hb⟩)
      all_goals
        have B1 : Hid (Below w.heap.size w w1) := (HB.out.drew).trans (hb.mono HB.out.size)
        clear hb hcall HB
        go_wp2
        go_round
        case rel => exact ⟨i + 1, by omega, by go_num, B1⟩
        case measure => simp [intOf]; omega
    · obtain rfl : i = ks.length := by omega
      go_wp2
      go_ret
      exact ⟨rfl, HB.out⟩

theorem eqS_any (ks : List ConD) (v1 v2 : Value) (w : World) (h : conSh.slice.rep w (· < w.heap.size) [v1] ks) (h' : conSh.slice.rep w (· < w.heap.size) [v2] ks) :
    Calls Tryz.prog 55 #[v1, v2] w fun e w' => e = .returned (.bool true) ∧ Below w.heap.size w w' := eqS_of ks (fun k _ => eq_any k) v1 v2 w h h'

end Go.Proofs.YtjofmoebijdccaaGreat.con

namespace Go.Proofs.YtjofmoebijdccaaGreat.data
open Go.RowKit Go.Proofs.YtjofmoebijdccaaGreat.rose Go.Proofs.YtjofmoebijdccaaGreat
set_option linter.unusedVariables false

def EqSays (T : DataD) : Prop := ∀ cs1 cs2 w, dataSh.rep w (· < w.heap.size) cs1 T → dataSh.rep w (· < w.heap.size) cs2 T →
  Calls Tryz.prog 30 #[.agg cs1.toArray, .agg cs2.toArray] w fun e w' => e = .returned (.bool true) ∧ Below w.heap.size w w'

set_option maxHeartbeats 1000000 in
theorem eq_any (T : DataD) : EqSays T := by
  intro cs1 cs2 w h h'
  obtain ⟨x0, x1, x2, a2, c2, rfl, rfl, f0, f1, f2⟩ := data_open h
  obtain ⟨x0', x1', x2', a2', c2', hT, rfl, g0, g1, g2⟩ := data_open h'
  cases hT
  clear h h'
  have K2 : ∀ (w' : World), Below w.heap.size w w' → Calls Tryz.prog 55 #[.slice a2 x2.length c2, .slice a2' x2.length c2'] w' fun e w'' => e = .returned (.bool true) ∧ Below w'.heap.size w' w'' :=
    fun w' hb => con.eqS_any x2 _ _ w' (con.conSh.slice.mono (con.conSh.slice.below f2 hb) fun b hlt => Nat.lt_of_lt_of_le hlt hb.size) (con.conSh.slice.mono (con.conSh.slice.below g2 hb) fun b hlt => Nat.lt_of_lt_of_le hlt hb.size)
  clear f2 g2
  go_enter Tryz.func30, Tryz.ntmps30
  go_wp2_with fail
  refine (K2 _ (((Below.refl _ _).alloc (Nat.le_refl _) _).alloc (by simp) _)).mono ?_
  rintro e w1 ⟨rfl, hb⟩
  have B1 : Hid (Below w.heap.size w w1) := (((Below.refl _ _).alloc (Nat.le_refl _) _).alloc (by simp) _).trans (hb.mono (by simp; omega))
  have z1 : w.heap.size + 2 ≤ w1.heap.size := Nat.le_trans (by simp) hb.size
  clear hb K2
  go_wp2
  go_ret
  exact ⟨rfl, B1.out⟩

set_option maxHeartbeats 2000000 in
theorem eqS_of (ks : List DataD) (ih : ∀ k ∈ ks, EqSays k) (v1 v2 : Value) (w : World) (h : dataSh.slice.rep w (· < w.heap.size) [v1] ks) (h' : dataSh.slice.rep w (· < w.heap.size) [v2] ks) :
    Calls Tryz.prog 11 #[v1, v2] w fun e w' => e = .returned (.bool true) ∧ Below w.heap.size w w' := by
  obtain ⟨a, cap, css, rfl, hcap, hmax, hrow, hk⟩ := datas_open h
  obtain ⟨a', cap', css', rfl, hcap', hmax', hrow', hk'⟩ := datas_open h'
  have hmx : (ks.length : Int) ≤ 9223372036854775807 := by unfold maxLen at hmax; omega
  clear h hcap hmax h' hcap' hmax'
  have IH : Hid (∀ k ∈ ks, EqSays k) := ih
  have HR : Hid (RowAt w (· < w.heap.size) 3 a ks.length css ∧ ∀ i (h : i < ks.length), dataSh.rep w (· < w.heap.size) (css i) ks[i]) := ⟨hrow, hk⟩
  have HR' : Hid (RowAt w (· < w.heap.size) 3 a' ks.length css' ∧ ∀ i (h : i < ks.length), dataSh.rep w (· < w.heap.size) (css' i) ks[i]) := ⟨hrow', hk'⟩
  clear ih hrow hk hrow' hk'
  go_enter Tryz.func11, Tryz.ntmps11
  go_wp2
  go_loopw [5] (fun v5 wr => ∃ i : Nat, i ≤ ks.length ∧ v5 = .int .i64 i ∧ Hid (Below w.heap.size w wr)) (fun v5 _ => ks.length - (intOf v5).toNat)
  case atStart => exact ⟨0, Nat.zero_le _, rfl, Below.refl _ _⟩
  case round =>
    obtain ⟨i, hi, rfl, HB⟩ := hrel
    by_cases hlt : i < ks.length
    · obtain ⟨b, o, rfl, hS, hc⟩ := HR.out.1 i hlt
      have hrep := HR.out.2 i hlt
      obtain ⟨v0, v1, v2, hcs, c0, c1, c2⟩ := data_cells hrep hc
      have e0 := (HB.out.cell (p := ⟨b, o + i * 3, none⟩) hS).trans c0
      have e1 := (HB.out.cell (p := ⟨b, o + i * 3 + 1, none⟩) hS).trans c1
      have e2 := (HB.out.cell (p := ⟨b, o + i * 3 + 2, none⟩) hS).trans c2
      rw [hcs] at hrep
      clear c0 c1 c2 hc hcs
      obtain ⟨b', o', rfl, hS', hc⟩ := HR'.out.1 i hlt
      have hrep' := HR'.out.2 i hlt
      obtain ⟨v0', v1', v2', hcs, c0, c1, c2⟩ := data_cells hrep' hc
      have e0' := (HB.out.cell (p := ⟨b', o' + i * 3, none⟩) hS').trans c0
      have e1' := (HB.out.cell (p := ⟨b', o' + i * 3 + 1, none⟩) hS').trans c1
      have e2' := (HB.out.cell (p := ⟨b', o' + i * 3 + 2, none⟩) hS').trans c2
      rw [hcs] at hrep'
      clear c0 c1 c2 hc hcs
      have hR := dataSh.mono (dataSh.below hrep HB.out) (S' := (· < wr.heap.size)) (fun b hb => Nat.lt_of_lt_of_le hb HB.out.size)
      have hR' := dataSh.mono (dataSh.below hrep' HB.out) (S' := (· < wr.heap.size)) (fun b hb => Nat.lt_of_lt_of_le hb HB.out.size)
      clear hrep hrep'
      have hcall := IH.out ks[i] (List.getElem_mem hlt) [v0, v1, v2] [v0', v1', v2'] wr.drew (dataSh.on hR fun _ _ => rfl) (dataSh.on hR' fun _ _ => rfl)
      clear hR hR'
      go_wp2
      go_region_with (go_at_call 30; refine hcall.mono ?_; rintro e w1 ⟨rfl, hb⟩)
      all_goals
        have B1 : Hid (Below w.heap.size w w1) := (HB.out.drew).trans (hb.mono HB.out.size)
        clear hb hcall HB
        go_wp2
        go_round
        case rel => exact ⟨i + 1, by omega, by go_num, B1⟩
        case measure => simp [intOf]; omega
    · obtain rfl : i = ks.length := by omega
      go_wp2
      go_ret
      exact ⟨rfl, HB.out⟩

theorem eqS_any (ks : List DataD) (v1 v2 : Value) (w : World) (h : dataSh.slice.rep w (· < w.heap.size) [v1] ks) (h' : dataSh.slice.rep w (· < w.heap.size) [v2] ks) :
    Calls Tryz.prog 11 #[v1, v2] w fun e w' => e = .returned (.bool true) ∧ Below w.heap.size w w' := eqS_of ks (fun k _ => eq_any k) v1 v2 w h h'

end Go.Proofs.YtjofmoebijdccaaGreat.data

namespace Go.Proofs.YtjofmoebijdccaaGreat.mark
open Go.RowKit
set_option linter.unusedVariables false

/-- the digits of m, none of 0 -/
def dd (m : Nat) : List UInt8 := if m = 0 then [] else Lib.decDigits m

theorem dd_step (m : Nat) (h : m ≠ 0) : dd m = dd (m / 10) ++ [UInt8.ofNat (48 + m % 10)] := by
  unfold dd
  rw [if_neg h]
  by_cases h10 : m < 10
  · rw [Lib.decDigits_one h10, if_pos (by omega), Nat.mod_eq_of_lt h10]; rfl
  · rw [Lib.decDigits, dif_neg h10, if_neg (by omega)]

def txt (k : Int) : ByteArray := ⟨(109 :: dd k.toNat).toArray⟩

theorem conv_one (w : World) (c : Int) (h0 : 0 ≤ c) (h1 : c < 256) :
    (convert 114 9 (.slice (some ⟨w.heap.size, 0, none⟩) 1 1)).run Tryz.prog (w.alloc (.cells #[.int .u8 c] 5)) = .ok (.string ⟨#[UInt8.ofNat c.toNat]⟩) (w.alloc (.cells #[.int .u8 c] 5)) := by
  have hc : ∀ j (hj : j < [UInt8.ofNat c.toNat].length), (w.alloc (.cells #[.int .u8 c] 5)).cell? ((⟨w.heap.size, 0, none⟩ : Addr).add j) = some (.int .u8 ([UInt8.ofNat c.toNat][j].toNat : Int)) := by
    intro j hj
    obtain rfl : j = 0 := by simpa using hj
    have e : ((UInt8.ofNat c.toNat).toNat : Int) = c := by simp [UInt8.toNat_ofNat']; omega
    simp only [List.getElem_cons_zero, e]
    exact World.cell?_alloc_new w _ 5 0
  exact run_convert_bytes_back (P := Tryz.prog) _ 114 9 5 ⟨w.heap.size, 0, none⟩ 1 [UInt8.ofNat c.toNat] Tryz.underlying114 Tryz.underlying5 Tryz.underlying9 hc

theorem byte_eq (m : Nat) : (48 : UInt8) + UInt8.ofNat (m % 10) = UInt8.ofNat (48 + m % 10) := by
  rw [UInt8.ofNat_add]; rfl
theorem dd_next {m u : Nat} {acc : List UInt8} (h : m ≠ 0) (ha : dd m ++ acc = dd u) : dd (m / 10) ++ (UInt8.ofNat (48 + m % 10) :: acc) = dd u := by
  rw [← ha, dd_step m h]; simp
theorem str_cons (b : UInt8) (acc : List UInt8) : Value.string ({ data := #[b] } ++ { data := acc.toArray }) = .string ⟨(b :: acc).toArray⟩ := by
  congr 1
theorem dd_le {u : Nat} (hu : (u : Int) ≤ 9223372036854775807) : (dd u).length ≤ 20 := by
  unfold dd
  split
  · simp
  · rw [Lib.decDigits_length]; exact Lib.nDigits_le20 u (by omega)
theorem acc_le {m u : Nat} {acc : List UInt8} (hu : (u : Int) ≤ 9223372036854775807) (ha : dd m ++ acc = dd u) : acc.length ≤ 20 := by
  have h := dd_le hu
  rw [← ha, List.length_append] at h
  omega
theorem ret_str {a b : ByteArray} (h : a = b) : Ending.returned (.string a) = .returned (.string b) := by rw [h]
theorem txt_size {k : Int} (h : k ≤ 9223372036854775807) : (txt k).size ≤ maxLen := by
  have := dd_le (u := k.toNat) (by omega)
  show (109 :: dd k.toNat).toArray.size ≤ _
  simp [maxLen]; omega

set_option maxHeartbeats 400000 in
theorem text_pos (u : Nat) (hn : 0 < u) (hn2 : (u : Int) ≤ 9223372036854775807) (w : World) :
    Calls Tryz.prog 35 #[.int .i64 u] w fun e w' => e = .returned (.string ⟨(109 :: dd u).toArray⟩) ∧ Below w.heap.size w w' := by
  have e1 : decide ((u : Int) ≤ 0) = false := by simp; omega
  go_enter Tryz.func35, Tryz.ntmps35
  go_wp2
  go_loopw [0, 3] (fun x o wr => ∃ (m : Nat) (acc : List UInt8), m ≤ u ∧ x = .int .i64 m ∧ o = .string ⟨acc.toArray⟩ ∧ Hid (dd m ++ acc = dd u) ∧ Below w.heap.size w wr) (fun x _ _ => (intOf x).toNat)
  case atStart => exact ⟨u, [], Nat.le_refl _, rfl, rfl, List.append_nil _, Below.refl _ _⟩
  case round =>
    obtain ⟨m, acc, hm, rfl, rfl, ha, hb⟩ := hrel
    have hl := acc_le (by omega) ha.out
    by_cases hz : m = 0
    · subst hz
      go_wp2
      go_ret
      exact ⟨ret_str (by rw [← ha.out]; apply ByteArray.ext; simp [ByteArray.data_append, dd]), hb⟩
    · have hcv := conv_one wr (48 + (m : Int) % 10) (by omega) (by omega)
      clear e1 hn
      have hm0 : 0 < m := by omega
      clear hz
      go_wp2
      refine ⟨⟨m / 10, UInt8.ofNat (48 + m % 10) :: acc, by omega, by go_num, ?_, dd_next (by omega) ha.out, ?_⟩, ?_⟩
      · first | rfl | rw [byte_eq, str_cons]
      · exact hb.alloc hb.size _
      · simp [intOf]; omega

theorem text_any (k : Int) (h0 : 1 ≤ k) (h1 : k ≤ 9223372036854775807) (w : World) :
    Calls Tryz.prog 35 #[.int .i64 k] w fun e w' => e = .returned (.string (txt k)) ∧ Below w.heap.size w w' := by
  obtain ⟨u, rfl⟩ : ∃ u : Nat, k = (u : Int) := ⟨k.toNat, by omega⟩
  exact text_pos u (by omega) h1 w

end Go.Proofs.YtjofmoebijdccaaGreat.mark

namespace Go.Proofs.YtjofmoebijdccaaGreat.ty
open Go.RowKit Go.Proofs.YtjofmoebijdccaaGreat.rose Go.Proofs.YtjofmoebijdccaaGreat
set_option linter.unusedVariables false

mutual
/-- How many marks a Ty takes that is an element. -/
def cnt : TyD → Nat
  | .mk _ ks => 3 + cnts ks
def cnts : List TyD → Nat
  | [] => 0
  | k :: ks => cnt k + cnts ks
end
mutual
def mk (k : Int) : TyD → TyD
  | .mk _ ks => .mk (k, k + 1, mark.txt (k + 1 + 1)) (mks (k + 1 + 1 + 1) ks)
def mks (k : Int) : List TyD → List TyD
  | [] => []
  | t :: ts => mk k t :: mks (k + (cnt t : Nat)) ts
end

theorem mks_length (k : Int) (ks : List TyD) : (mks k ks).length = ks.length := by
  induction ks generalizing k with
  | nil => simp [mks]
  | cons t ts ih => simp [mks, ih]
theorem cnts_take {ks : List TyD} {i : Nat} (h : i < ks.length) : cnts (ks.take (i + 1)) = cnts (ks.take i) + cnt ks[i] := by
  induction ks generalizing i with
  | nil => simp at h
  | cons k ks ih =>
    cases i with
    | zero => simp [cnts]
    | succ i => simp [cnts, ih (by simpa using h)]; omega
theorem cnts_take_le (ks : List TyD) (i : Nat) : cnts (ks.take i) ≤ cnts ks := by
  induction ks generalizing i with
  | nil => simp [cnts]
  | cons k ks ih =>
    cases i with
    | zero => simp [cnts]
    | succ i => simp [cnts]; exact ih i
theorem mks_get {k : Int} {ks : List TyD} {i : Nat} (h : i < ks.length) (h' : i < (mks k ks).length) : (mks k ks)[i] = mk (k + (cnts (ks.take i) : Nat)) ks[i] := by
  induction ks generalizing k i with
  | nil => simp at h
  | cons t ts ih =>
    cases i with
    | zero => simp [mks, cnts]
    | succ i =>
      simp only [mks, List.getElem_cons_succ, List.take_succ_cons, cnts]
      rw [ih (by simpa using h)]
      congr 1
      omega
theorem cnt_le (T : TyD) : cnt T ≤ 3 + 3 * wt T := by
  induction T using ind with
  | h x ks ih =>
    have key : ∀ l : List TyD, (∀ k ∈ l, cnt k ≤ 3 + 3 * wt k) → cnts l ≤ 3 * (l.length + wts l) := by
      intro l
      induction l with
      | nil => intro _; simp [cnts]
      | cons a l ih2 =>
        intro h
        have h1 := h a (by simp)
        have h2 := ih2 fun k hk => h k (by simp [hk])
        simp only [cnts, wts, List.length_cons]
        omega
    have := key ks ih
    obtain ⟨x0, x1, x2⟩ := x
    simp only [cnt, wt]
    omega
theorem cnts_le (ks : List TyD) : cnts ks ≤ 3 * (ks.length + wts ks) := by
  induction ks with
  | nil => simp [cnts]
  | cons a l ih =>
    have := cnt_le a
    simp only [cnts, wts, List.length_cons]
    omega

/-- The first i are marked. -/
def mid (k : Int) (ks : List TyD) (i : Nat) : List TyD := (mks k ks).take i ++ ks.drop i
theorem mid_length (k : Int) (ks : List TyD) {i : Nat} (h : i ≤ ks.length) : (mid k ks i).length = ks.length := by
  simp [mid, mks_length]; omega
theorem mid_zero (k : Int) (ks : List TyD) : mid k ks 0 = ks := by simp [mid]
theorem mid_full (k : Int) (ks : List TyD) : mid k ks ks.length = mks k ks := by
  unfold mid; rw [List.take_of_length_le (by rw [mks_length]; exact Nat.le_refl _)]; simp
theorem mid_get (k : Int) (ks : List TyD) {i : Nat} (h : i < ks.length) (h' : i < (mid k ks i).length) : (mid k ks i)[i] = ks[i] := by
  have e : (mid k ks i)[i]? = ks[i]? := by
    unfold mid
    rw [List.getElem?_append_right (by simp; omega)]
    simp [mks_length, Nat.min_eq_left (Nat.le_of_lt h)]
  rw [List.getElem?_eq_getElem h, List.getElem?_eq_getElem h'] at e
  exact Option.some.inj e
theorem mid_set (k : Int) (ks : List TyD) {i : Nat} (h : i < ks.length) : (mid k ks i).set i (mk (k + (cnts (ks.take i) : Nat)) ks[i]) = mid k ks (i + 1) := by
  unfold mid
  have hl : ((mks k ks).take i).length = i := by simp [mks_length]; omega
  rw [List.set_append, if_neg (by omega), hl, Nat.sub_self, List.drop_eq_getElem_cons h, List.set_cons_zero]
  rw [List.take_succ_eq_append_getElem (show i < (mks k ks).length by rw [mks_length]; exact h), List.append_assoc, mks_get h]
  rfl

def MarkSays (ks : List TyD) : Prop := ∀ (v : Value) (w : World) (k : Int) (S : Nat → Prop), 1 ≤ k → k + (cnts ks : Nat) ≤ 1152921504606846976 → (∀ b, S b → b < w.heap.size) → tySp.sslice.rep w S [v] ks →
  Calls Tryz.prog 58 #[v, .int .i64 k] w fun e w' => e = .returned (.int .i64 (k + (cnts ks : Nat))) ∧ tySp.sslice.rep w' S [v] (mks k ks) ∧ Only S w w'

theorem mk_eq (k x0 x1 : Int) (x2 : ByteArray) (x3 : List TyD) : mk k (.mk (x0, x1, x2) x3) = .mk (k, k + 1, mark.txt (k + 1 + 1)) (mks (k + 1 + 1 + 1) x3) := by simp [mk]

set_option maxHeartbeats 2000000 in
theorem mark_of (ks : List TyD) (ih : ∀ t ∈ ks, MarkSays t.kids) : MarkSays ks := by
  intro v w k S hk1 hk2 hS h
  obtain ⟨a, cap, css, F, rfl, hcap, hmax, hnone, hrow⟩ := typs_open h
  have hmx : (ks.length : Int) ≤ 9223372036854775807 := by unfold maxLen at hmax; omega
  have IH : Hid (∀ t ∈ ks, MarkSays t.kids) := ih
  have HC : Hid (ks.length ≤ cap ∧ cap ≤ maxLen ∧ (a = none → cap = 0)) := ⟨hcap, hmax, hnone⟩
  have HS : Hid (∀ b, S b → b < w.heap.size) := hS
  have HR : Hid (SRow tySp w S a css F (mid k ks 0)) := by show SRow _ _ _ _ _ _ _; rw [mid_zero]; exact hrow
  clear h hcap hmax hnone hS ih hrow
  have HK : Hid (k + (cnts ks : Nat) ≤ 1152921504606846976) := hk2
  clear hk2
  go_enter Tryz.func58, Tryz.ntmps58
  go_wp2
  go_loopw [1, 5] (fun v1 v5 wr => ∃ (i : Nat) (css' : Nat → List Value), i ≤ ks.length ∧ v5 = .int .i64 i ∧ v1 = .int .i64 (k + (cnts (ks.take i) : Nat)) ∧ Hid (SRow tySp wr S a css' F (mid k ks i) ∧ Only S w wr)) (fun _ v5 _ => ks.length - (intOf v5).toNat)
  case atStart => exact ⟨0, css, Nat.zero_le _, rfl, by simp [cnts], HR.out, Only.refl _ _⟩
  case round =>
    obtain ⟨i, css', hi, rfl, rfl, HJ⟩ := hrel
    by_cases hlt : i < ks.length
    · have hlm : i < (mid k ks i).length := by rw [mid_length k ks hi]; exact hlt
      obtain ⟨b, o, rfl, hSb, hFb, hc, hfz, cur, t, hbk⟩ := HJ.out.1.at hlm
      have hrep := HJ.out.1.rep i hlm
      rw [mid_get k ks hlt] at hrep
      obtain ⟨x0, x1, x2, x3, a3, c3, hT, hcs, f0, f1, f2, f3⟩ := typ_open hrep
      rw [hcs] at hc
      have e0 : wr.cell? ⟨b, o + i * 4, none⟩ = some (.int .i64 x0) := hc 0 _ rfl
      have e1 : wr.cell? ⟨b, o + i * 4 + 1, none⟩ = some (.int .i64 x1) := hc 1 _ rfl
      have e2 : wr.cell? ⟨b, o + i * 4 + 2, none⟩ = some (.string x2) := hc 2 _ rfl
      have e3 : wr.cell? ⟨b, o + i * 4 + 3, none⟩ = some (.slice a3 x3.length c3) := hc 3 _ rfl
      have W1 : Hid (cnts (ks.take (i + 1)) = cnts (ks.take i) + cnt ks[i]) := cnts_take hlt
      have W2 : Hid (cnts (ks.take (i + 1)) ≤ cnts ks) := cnts_take_le ks (i + 1)
      have W3 : Hid (cnt ks[i] = 3 + cnts x3) := by show _ = _; rw [hT]; simp [cnt]
      obtain ⟨k1, hk⟩ : ∃ k1 : Int, k1 = k + (cnts (ks.take i) : Nat) := ⟨_, rfl⟩
      have HK1 : Hid (k1 = k + (cnts (ks.take i) : Nat)) := hk
      rw [← hk]
      have hb1 : 1 ≤ k1 := by omega
      have hb2 : k1 + 3 + (cnts x3 : Nat) ≤ 1152921504606846976 := by have := W1.out; have := W2.out; have := W3.out; have := HK.out; omega
      have BK : Hid (wr.heap[b]? = some (.cells cur t)) := hbk
      have IHk := IH.out ks[i] (List.getElem_mem hlt)
      rw [hT] at IHk
      have IHK : Hid (MarkSays x3) := IHk
      have HF : Hid (tySp.sslice.rep wr (F i) [.slice a3 x3.length c3] x3 ∧ ¬ F i b ∧ S b) := ⟨f3, hFb, hSb⟩
      have HT : Hid (ks[i] = .mk ks[i].x x3) := by show _ = _; rw [hT]; rfl
      clear hk hrep hcs hc hbk IHk f3 hFb hSb f0 f1 f2 hT
      go_wp2_with fail
      refine (mark.text_any _ (by omega) (by omega) _).mono ?_
      rintro e w1 ⟨rfl, hb⟩
      have hz : b < wr.heap.size := Nat.lt_of_lt_of_le (HS.out b HF.out.2.2) HJ.out.2.size
      have T0 : Turned b (o + i * 4) (o + i * 4 + 4) wr ((wr.setCell ⟨b, o + i * 4, none⟩ (.int .i64 k1)).setCell ⟨b, o + i * 4 + 1, none⟩ (.int .i64 (k1 + 1))) := (Turned.set _ _ _ (by omega) (by omega)).trans (Turned.set _ _ _ (by omega) (by omega))
      have hz0 : b < ((wr.setCell ⟨b, o + i * 4, none⟩ (.int .i64 k1)).setCell ⟨b, o + i * 4 + 1, none⟩ (.int .i64 (k1 + 1))).heap.size := Nat.lt_of_lt_of_le hz T0.only.size
      have T1 : Turned b (o + i * 4) (o + i * 4 + 4) wr w1 := T0.trans (Turned.below hb hz0)
      have gc0 : w1.cell? ⟨b, o + i * 4, none⟩ = some (.int .i64 k1) := (hb.cell (p := ⟨b, _, none⟩) hz0).trans ((cell_set_ne (by omega)).trans (cell_set_eq e0))
      have gc1 : w1.cell? ⟨b, o + i * 4 + 1, none⟩ = some (.int .i64 (k1 + 1)) := (hb.cell (p := ⟨b, _, none⟩) hz0).trans (cell_set_eq ((cell_set_ne (by omega)).trans e1))
      have gc2 : w1.cell? ⟨b, o + i * 4 + 2, none⟩ = some (.string x2) := (hb.cell (p := ⟨b, _, none⟩) hz0).trans ((cell_set_ne (by omega)).trans ((cell_set_ne (by omega)).trans e2))
      have gc3 : w1.cell? ⟨b, o + i * 4 + 3, none⟩ = some (.slice a3 x3.length c3) := (hb.cell (p := ⟨b, _, none⟩) hz0).trans ((cell_set_ne (by omega)).trans ((cell_set_ne (by omega)).trans e3))
      have fz1 := T1.fz BK.out
      have TT : Hid (Turned b (o + i * 4) (o + i * 4 + 4) wr w1) := T1
      have CC : Hid (w1.cell? ⟨b, o + i * 4, none⟩ = some (.int .i64 k1) ∧ w1.cell? ⟨b, o + i * 4 + 1, none⟩ = some (.int .i64 (k1 + 1)) ∧ w1.cell? ⟨b, o + i * 4 + 2, none⟩ = some (.string x2) ∧ w1.cell? ⟨b, o + i * 4 + 3, none⟩ = some (.slice a3 x3.length c3)) := ⟨gc0, gc1, gc2, gc3⟩
      clear T0 hz0 T1 gc0 gc1 e0 e1 e2 e3 hfz hb hz
      have d3 : (w1.setCell ⟨b, o + i * 4 + 2, none⟩ (.string (mark.txt (k1 + 1 + 1)))).cell? ⟨b, o + i * 4 + 3, none⟩ = some (.slice a3 x3.length c3) := (cell_set_ne (by omega)).trans CC.out.2.2.2
      have T2 : Turned b (o + i * 4) (o + i * 4 + 4) wr (w1.setCell ⟨b, o + i * 4 + 2, none⟩ (.string (mark.txt (k1 + 1 + 1)))) := TT.out.trans (Turned.set _ _ _ (by omega) (by omega))
      have hFs : ∀ q, F i q → q < wr.heap.size := fun q hq => Nat.lt_of_lt_of_le (HS.out q (HJ.out.1.sub i hlm q hq)) HJ.out.2.size
      have hcall := IHK.out (.slice a3 x3.length c3) (w1.setCell ⟨b, o + i * 4 + 2, none⟩ (.string (mark.txt (k1 + 1 + 1)))) (k1 + 1 + 1 + 1) (F i) (by omega) (by omega) (fun q hq => Nat.lt_of_lt_of_le (hFs q hq) T2.only.size)
        (tySp.sslice.on HF.out.1 fun q hq => T2.only.block q (hFs q hq) fun e => HF.out.2.1 (e ▸ hq))
      have CD : Hid (CellsAt (w1.setCell ⟨b, o + i * 4 + 2, none⟩ (.string (mark.txt (k1 + 1 + 1)))) b (o + i * 4) [.int .i64 k1, .int .i64 (k1 + 1), .string (mark.txt (k1 + 1 + 1)), .slice a3 x3.length c3]) := by
        intro q v hq
        obtain ⟨q0, q1, q2, q3⟩ := CC.out
        match q, hq with
        | 0, hq => simp at hq; subst hq; exact (cell_set_ne (by omega)).trans q0
        | 1, hq => simp at hq; subst hq; exact (cell_set_ne (by omega)).trans q1
        | 2, hq => simp at hq; subst hq; exact cell_set_eq q2
        | 3, hq => simp at hq; subst hq; exact (cell_set_ne (by omega)).trans q3
        | _ + 4, hq => simp at hq
      have T2' : Hid (Turned b (o + i * 4) (o + i * 4 + 4) wr (w1.setCell ⟨b, o + i * 4 + 2, none⟩ (.string (mark.txt (k1 + 1 + 1))))) := T2
      clear T2 hFs
      go_wp2_with fail
      refine hcall.mono ?_
      clear hcall
      rintro e w3 ⟨rfl, hr3, ho3⟩
      have hx : k1 + 1 + 1 + 1 + (cnts x3 : Nat) = k + (cnts (ks.take (i + 1)) : Nat) := by have := W1.out; have := W3.out; have := HK1.out; omega
      rw [hx]
      clear hx
      have NX : Hid (∃ css2, SRow tySp w3 S (some ⟨b, o, none⟩) css2 F (mid k ks (i + 1)) ∧ Only S w w3) := by
        have hl3 : (mks (k1 + 1 + 1 + 1) x3).length = x3.length := mks_length _ _
        rw [← hl3] at hr3
        have hsh := typ_shut (x0 := k1) (x1 := k1 + 1) (x2 := mark.txt (k1 + 1 + 1)) (by omega) (by omega) (mark.txt_size (by omega)) hr3
        rw [← mk_eq k1 0 0 ⟨#[]⟩ x3, hl3] at hsh
        have hn := HJ.out.1.turn (fun q hq => Nat.lt_of_lt_of_le (HS.out q hq) HJ.out.2.size) hlm rfl T2'.out ho3 CD.out (x := mk k1 ks[i]) (by
          have hT : ks[i] = .mk ks[i].x x3 := HT.out
          rw [hT]
          obtain ⟨y0, y1, y2⟩ := ks[i].x
          rw [mk_eq]
          rw [mk_eq] at hsh
          exact hsh)
        rw [HK1.out, mid_set k ks hlt] at hn
        exact ⟨_, hn.1, HJ.out.2.trans hn.2⟩
      clear hr3 ho3 d3 fz1 gc2 gc3
      go_wp2
      go_round
      case rel => obtain ⟨css2, n1, n2⟩ := NX.out; exact ⟨i + 1, css2, by omega, by go_num, rfl, n1, n2⟩
      case measure => simp [intOf]; omega
    · obtain rfl : i = ks.length := by omega
      have hq := HJ.out
      rw [mid_full] at hq
      go_wp2
      go_ret
      refine ⟨by rw [List.take_length]; rfl, ?_, hq.2⟩
      have hl := mks_length k ks
      refine ⟨a, cap, css', F, by rw [hl], by rw [hl]; exact HC.out.1, HC.out.2.1, HC.out.2.2, hq.1⟩

theorem mark_any (T : TyD) : MarkSays T.kids := by
  induction T using ind with
  | h x ks ih => exact mark_of ks fun t ht => ih t ht
theorem markS_any (ks : List TyD) : MarkSays ks := mark_of ks fun t _ => mark_any t

end Go.Proofs.YtjofmoebijdccaaGreat.ty

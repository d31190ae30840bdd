/-
  The law's marks in one Value: its slices are marked, nothing else is turned.
  The law's look at the marks in slices of Value: where they are what was marked, it tells how far it came; nothing that was there is turned.
  The law's look at the marks in one Value: where its kids are what was marked, it tells how far it came; nothing that was there is turned.
  Whether a number lies between two; no program named.
  What is right of a heap (chapter 17): told in plain data; no program named.
  The cons of a list of datas, each with its place: how many are ahead of it, in which data, which one of its cons. No program.
-/
import Derived.Deep.RegionWith
import Derived.RowKit
import Derived.Test.YtjofmoebijdccaaB1
import Derived.Test.YtjofmoebijdccaaB2
import Derived.Test.YtjofmoebijdccaaB3
import Derived.Test.YtjofmoebijdccaaB4
import Derived.Test.YtjofmoebijdccaaB5
import Derived.Test.YtjofmoebijdccaaB6
import Derived.Test.YtjofmoebijdccaaB7
import Derived.Test.YtjofmoebijdccaaB8
import Derived.Test.YtjofmoebijdccaaB9
import Derived.Test.YtjofmoebijdccaaB10
namespace Go.Proofs.Ytjofmoebijdccaa.value
open Go.RowKit Go.Proofs.Ytjofmoebijdccaa.rose Go.Proofs.Ytjofmoebijdccaa
set_option linter.unusedVariables false

/-- How many marks the slices of one take. -/
def cntT : ValueD → Nat
  | .mk (x0, x1, x2) x3 => cnts x3

def mkT (k : Int) : ValueD → ValueD
  | .mk (x0, x1, x2) x3 => .mk (x0, x1, x2) (mks k x3)

set_option maxHeartbeats 2000000 in
theorem markT_any (T : ValueD) (cs : List Value) (w : World) (k : Int) (S : Nat → Prop) (hk1 : 1 ≤ k) (hk2 : k + (cntT T : Nat) ≤ 1152921504606846976) (hS : ∀ b, S b → b < w.heap.size) (h : valueSp.rep w S cs T) :
    Calls Try.prog 15 #[.agg cs.toArray, .int .i64 k] w fun e w' => e = .returned (.int .i64 (k + (cntT T : Nat))) ∧ Only S w w' ∧ valueSp.rep w' S cs (mkT k T) := by
  obtain ⟨x0, x1, x2, x3, a3, c3, rfl, rfl, f0, f1, f2, f3⟩ := valuep_open h
  have HSB := valueSp.one h
  clear h HSB
  have HS : Hid (∀ b, S b → b < w.heap.size) := hS
  clear hS
  have hct : cntT (.mk (x0, x1, x2) x3) = cnts x3 := rfl
  rw [hct] at hk2 ⊢
  clear hct
  have BA : Hid (Below w.heap.size w (w.alloc (.cells #[.int .i64 x0, .int .i64 x1, .string x2, .slice a3 x3.length c3] 30))) := (Below.refl _ _).alloc (Nat.le_refl _) _
  have R0_3 : Hid (valueSp.sslice.rep w S [.slice a3 x3.length c3] x3) := f3
  have HF : Hid ((-9223372036854775808 ≤ x0 ∧ x0 ≤ 9223372036854775807) ∧ (-9223372036854775808 ≤ x1 ∧ x1 ≤ 9223372036854775807) ∧ (x2.size ≤ maxLen)) := ⟨f0, f1, f2⟩
  clear f0 f1 f2 f3
  go_enter Try.func15, Try.ntmps15
  go_wp2_with fail
  refine (markS_any x3 _ _ (k) S (by omega) (by omega) (fun b hb => Nat.lt_of_lt_of_le (HS.out b ((fun b h => h) b hb)) BA.out.size) (valueSp.sslice.on R0_3.out fun b hb => BA.out.block b (HS.out b ((fun b h => h) b hb)))).mono ?_
  rintro e w1 ⟨rfl, hr, ho⟩
  have O1 : Hid (Only S (w.alloc (.cells #[.int .i64 x0, .int .i64 x1, .string x2, .slice a3 x3.length c3] 30)) w1) := ho.mono fun b _ hb => (fun b h => h) b hb
  have RF : Hid _ := hr
  clear ho hr
  have hx : k + (cnts x3 : Nat) = k + ((cnts x3 : Nat) : Int) := by omega
  clear hx
  go_wp2
  go_ret
  exact ⟨rfl, (Only.ofBelow BA.out).trans O1.out, valuep_shutv HF.out.1 HF.out.2.1 HF.out.2.2 RF.out⟩

end Go.Proofs.Ytjofmoebijdccaa.value

namespace Go.Proofs.Ytjofmoebijdccaa.value
open Go.RowKit Go.Proofs.Ytjofmoebijdccaa.rose Go.Proofs.Ytjofmoebijdccaa
set_option linter.unusedVariables false

def HeldSays (ks : List ValueD) : Prop := ∀ (v : Value) (w : World) (k : Int), 1 ≤ k → k + (cnts ks : Nat) ≤ 1152921504606846976 → valueSh.slice.rep w (· < w.heap.size) [v] (mks k ks) →
  Calls Try.prog 35 #[v, .int .i64 k] w fun e w' => e = .returned (.int .i64 (k + (cnts ks : Nat))) ∧ Below w.heap.size w w'

set_option maxRecDepth 100000 in
set_option maxHeartbeats 4000000 in
theorem held_of (ks : List ValueD) (ih : ∀ t ∈ ks, HeldSays t.kids) : HeldSays ks := by
  intro v w k hk1 hk2 h
  obtain ⟨a, cap, css, rfl, hcap, hmax, hrow, hk⟩ := values_open h
  rw [mks_length] at hcap hrow ⊢
  have hmx : (ks.length : Int) ≤ 9223372036854775807 := by unfold maxLen at hmax; omega
  have IH : Hid (∀ t ∈ ks, HeldSays t.kids) := ih
  have HR : Hid (RowAt w (· < w.heap.size) 4 a ks.length css ∧ ∀ i (h : i < ks.length), valueSh.rep w (· < w.heap.size) (css i) (mk (k + (cnts (ks.take i) : Nat)) ks[i])) := ⟨hrow, fun i h => by have := hk i (by rw [mks_length]; exact h); rwa [mks_get h] at this⟩
  have HK : Hid (k + (cnts ks : Nat) ≤ 1152921504606846976) := hk2
  clear h hcap hmax hrow hk hk2 ih
  go_enter Try.func35, Try.ntmps35
  go_wp2
  go_loopw [1, 5] (fun v1 v5 wr => ∃ (i : Nat), i ≤ ks.length ∧ v5 = .int .i64 i ∧ v1 = .int .i64 (k + (cnts (ks.take i) : Nat)) ∧ Hid (Below w.heap.size w wr)) (fun _ v5 _ => ks.length - (intOf v5).toNat)
  case atStart => exact ⟨0, Nat.zero_le _, rfl, by simp [cnts], Below.refl _ _⟩
  case round =>
    obtain ⟨i, hi, rfl, rfl, HB0⟩ := hrel
    by_cases hlt : i < ks.length
    · obtain ⟨b, o, rfl, hS, hc⟩ := HR.out.1 i hlt
      have hrep := HR.out.2 i hlt
      have W1 : Hid (cnts (ks.take (i + 1)) = cnts (ks.take i) + cnt ks[i]) := cnts_take hlt
      have W2 : Hid (cnts (ks.take (i + 1)) ≤ cnts ks) := cnts_take_le ks (i + 1)
      obtain ⟨k1, hk⟩ : ∃ k1 : Int, k1 = k + (cnts (ks.take i) : Nat) := ⟨_, rfl⟩
      have HK1 : Hid (k1 = k + (cnts (ks.take i) : Nat)) := hk
      rw [← hk] at hrep ⊢
      have IHk := IH.out ks[i] (List.getElem_mem hlt)
      generalize ks[i] = T at W1 hrep IHk
      obtain ⟨⟨x0, x1, x2⟩, x3⟩ := T
      rw [mk_eq] at hrep
      obtain ⟨y0, y1, y2, y3, ba3, bc3, hT, hcs, f0, f1, f2, f3⟩ := value_open hrep
      cases hT
      rw [hcs] at hc
      have ce0_0 : wr.cell? ⟨b, o + i * 4, none⟩ = some (.int .i64 k1) := (HB0.out.cell (p := ⟨b, o + i * 4, none⟩) hS).trans (hc 0 _ rfl)
      have ce0_1 : wr.cell? ⟨b, o + i * 4 + 1, none⟩ = some (.int .i64 (k1 + 1)) := (HB0.out.cell (p := ⟨b, o + i * 4 + 1, none⟩) hS).trans (hc 1 _ rfl)
      have ce0_2 : wr.cell? ⟨b, o + i * 4 + 2, none⟩ = some (.string (mark.txt (k1 + 1 + 1))) := (HB0.out.cell (p := ⟨b, o + i * 4 + 2, none⟩) hS).trans (hc 2 _ rfl)
      have ce0_3 : wr.cell? ⟨b, o + i * 4 + 3, none⟩ = some (.slice ba3 (mks (k1 + 1 + 1 + 1) x3).length bc3) := (HB0.out.cell (p := ⟨b, o + i * 4 + 3, none⟩) hS).trans (hc 3 _ rfl)
      have W3 : Hid (cnt (.mk (x0, x1, x2) x3) = 3 + (cnts x3)) := by show _ = _; simp [cnt]
      have hb1 : 1 ≤ k1 := by omega
      have hb2 : k1 + 3 + (cnts x3 : Nat) ≤ 1152921504606846976 := by have := W1.out; have := W2.out; have := W3.out; have := HK.out; omega
      have IHK : Hid (HeldSays x3) := IHk
      have R_3 : Hid (valueSh.slice.rep w (· < w.heap.size) [.slice ba3 (mks (k1 + 1 + 1 + 1) x3).length bc3] (mks (k1 + 1 + 1 + 1) x3)) := f3
      have z0 : b < wr.heap.size := Nat.lt_of_lt_of_le hS HB0.out.size
      clear hk hrep hcs hc hS IHk f0 f1 f2 f3
      go_wp2
      have hcall := mark.text_any (k1 + 1 + 1) (by omega) (by omega) wr.drew
      go_region_with (go_at_call 31; refine hcall.mono ?_; rintro e w1 ⟨rfl, hb⟩; have ce1_2 := (hb.cell (p := ⟨b, o + i * 4 + 2, none⟩) z0).trans ce0_2; have ce1_3 := (hb.cell (p := ⟨b, o + i * 4 + 3, none⟩) z0).trans ce0_3; have z1 := Nat.lt_of_lt_of_le z0 hb.size; have HB1 : Hid (Below w.heap.size w w1) := HB0.out.drew.trans (hb.mono HB0.out.size))
      all_goals
        clear hb hcall HB0 z0 ce0_0 ce0_1 ce0_2 ce0_3
        have hcall := IHK.out _ w1 (k1 + 1 + 1 + 1) (by omega) (by omega) (valueSh.slice.mono (valueSh.slice.below R_3.out HB1.out) fun q hq => Nat.lt_of_lt_of_le hq HB1.out.size)
        have tt3 : decide (k1 + 1 + 1 + 1 + (cnts x3 : Nat) < 0) = false := by simp; omega
        go_wp2_with fail
        refine hcall.mono ?_
        rintro e w2 ⟨rfl, hb⟩
        have HB2 : Hid (Below w.heap.size w w2) := HB1.out.trans (hb.mono HB1.out.size)
        have z2 := Nat.lt_of_lt_of_le z1 hb.size
        clear hb hcall HB1 z1 ce1_2 ce1_3
        have hx : k1 + 1 + 1 + 1 + (cnts x3 : Nat) = k + (cnts (ks.take (i + 1)) : Nat) := by have := W1.out; have := W3.out; have := HK1.out; omega
        go_wp2
        go_round
        case rel => exact ⟨i + 1, by omega, by go_num, by first | rfl | rw [hx], HB2⟩
        case measure => simp [intOf]; omega
    · obtain rfl : i = ks.length := by omega
      go_wp2
      go_ret
      exact ⟨by rw [List.take_length]; rfl, HB0.out⟩

theorem held_any (T : ValueD) : HeldSays T.kids := by
  induction T using ind with
  | h x ks ih => exact held_of ks fun t ht => ih t ht
theorem heldS_any (ks : List ValueD) : HeldSays ks := held_of ks fun t _ => held_any t


end Go.Proofs.Ytjofmoebijdccaa.value

namespace Go.Proofs.Ytjofmoebijdccaa.value
open Go.RowKit Go.Proofs.Ytjofmoebijdccaa.rose Go.Proofs.Ytjofmoebijdccaa
set_option linter.unusedVariables false

set_option maxHeartbeats 1000000 in
theorem heldT_any (T : ValueD) (cs : List Value) (w : World) (k : Int) (hk1 : 1 ≤ k) (hk2 : k + (cntT T : Nat) ≤ 1152921504606846976) (h : valueSh.rep w (· < w.heap.size) cs (mkT k T)) :
    Calls Try.prog 16 #[.agg cs.toArray, .int .i64 k] w fun e w' => e = .returned (.int .i64 (k + (cntT T : Nat))) ∧ Below w.heap.size w w' := by
  obtain ⟨⟨x0, x1, x2⟩, x4⟩ := T
  obtain ⟨op, n, s, ks, a, cap, hT, rfl, hs, ht, hu, hk⟩ := value_open h
  simp only [mkT, Rose.mk.injEq] at hT
  obtain ⟨-, hks⟩ := hT
  subst hks
  have hct : cntT (.mk (x0, x1, x2) x4) = cnts x4 := rfl
  rw [hct] at hk2 ⊢
  clear h hct hs ht hu
  have BA : Hid (Below w.heap.size w (w.alloc (.cells #[.int .i64 op, .int .i64 n, .string s, .slice a (mks k x4).length cap] 30))) := (Below.refl _ _).alloc (Nat.le_refl _) _
  have HK : Hid (valueSh.slice.rep w (· < w.heap.size) [.slice a (mks k x4).length cap] (mks k x4)) := hk
  have t0 : decide (k + (cnts x4 : Nat) < 0) = false := by simp; omega
  clear hk
  go_enter Try.func16, Try.ntmps16
  go_wp2_with fail
  refine (heldS_any x4 _ _ k hk1 hk2 (valueSh.slice.mono (valueSh.slice.below HK.out BA.out) fun q hq => Nat.lt_of_lt_of_le hq BA.out.size)).mono ?_
  rintro e w1 ⟨rfl, hb⟩
  have B1 : Hid (Below w.heap.size w w1) := BA.out.trans (hb.mono BA.out.size)
  clear hb
  go_wp2
  go_ret
  exact ⟨rfl, B1.out⟩

end Go.Proofs.Ytjofmoebijdccaa.value

namespace Go.Proofs.Ytjofmoebijdccaa.fun
open Go.RowKit
set_option linter.unusedVariables false

/-- Whether a number lies between two. -/
def inB (n lo hi : Int) : Bool := decide (lo ≤ n) && decide (n ≤ hi)
theorem inB_yes {n lo hi : Int} (h : inB n lo hi = true) : lo ≤ n ∧ n ≤ hi := by
  unfold inB at h; simpa using h
theorem inB_no {n lo hi : Int} (h : inB n lo hi = false) : n < lo ∨ hi < n := by
  unfold inB at h
  by_cases h1 : lo ≤ n
  · right; simp [h1] at h; exact h
  · left; omega

end Go.Proofs.Ytjofmoebijdccaa.fun

namespace Go.Proofs.Ytjofmoebijdccaa.heap
open Go Go.RowKit Go.Proofs.Ytjofmoebijdccaa.rose Go.Proofs.Ytjofmoebijdccaa Go.Proofs.Ytjofmoebijdccaa.fun
set_option linter.unusedVariables false

/-- The parts of a header. -/
def funF (h : Int) : Bool := decide (h / 2 % 2 = 1)
def tagF (h : Int) : Int := Int.tdiv (h / 2 / 2) 64
def manyF (h : Int) : Int := h / 2 / 2 % 64
theorem many_in (h : Int) : 0 ≤ manyF h ∧ manyF h ≤ 63 := by unfold manyF; omega
/-- Whether it is no header of a block that there is room for. -/
def badH (h room : Int) : Bool := decide (h < 0) || decide (h % 2 = 0) || decide (3000 < tagF h) || decide (20 < manyF h) || decide (room ≤ manyF h)
/-- The places of blocks from p on; whether they are one behind the other. -/
def plF (W : List Int) (nx : Nat) (p : Nat) : List Int × Bool :=
  if h : p < nx then
    if badH (W.getD p 0) ((nx : Int) - p) then ([], false)
    else ((p : Int) :: (plF W nx (p + 1 + (manyF (W.getD p 0)).toNat)).1, (plF W nx (p + 1 + (manyF (W.getD p 0)).toNat)).2)
  else ([], true)
termination_by nx - p
decreasing_by all_goals omega
theorem plF_end {W : List Int} {nx p : Nat} (h : nx ≤ p) : plF W nx p = ([], true) := by rw [plF, dif_neg (by omega)]
theorem plF_bad {W : List Int} {nx p : Nat} (h : p < nx) (hb : badH (W.getD p 0) ((nx : Int) - p) = true) : plF W nx p = ([], false) := by rw [plF, dif_pos h, if_pos hb]
theorem plF_more {W : List Int} {nx p : Nat} (h : p < nx) (hb : badH (W.getD p 0) ((nx : Int) - p) = false) : plF W nx p = ((p : Int) :: (plF W nx (p + 1 + (manyF (W.getD p 0)).toNat)).1, (plF W nx (p + 1 + (manyF (W.getD p 0)).toNat)).2) := by
  rw [plF, dif_pos h, hb]; simp
/-- What is known of such a place: its block lies ahead of nx. -/
theorem plF_in {W : List Int} {nx : Nat} : ∀ {p : Nat}, (plF W nx p).2 = true → ∀ x ∈ (plF W nx p).1, ∃ q : Nat, x = q ∧ p ≤ q ∧ q + (manyF (W.getD q 0)).toNat < nx := by
  intro p
  induction hd : nx - p using Nat.strongRecOn generalizing p with
  | _ d ih =>
    intro hok x hx
    by_cases hp : p < nx
    · rcases hb : badH (W.getD p 0) ((nx : Int) - p) with _ | _
      · rw [plF_more hp hb] at hok hx
        rcases List.mem_cons.1 hx with rfl | hx
        · refine ⟨p, rfl, Nat.le_refl _, ?_⟩
          have hm := many_in (W.getD p 0)
          unfold badH at hb
          simp only [Bool.or_eq_false_iff, decide_eq_false_iff_not] at hb
          omega
        · obtain ⟨q, rfl, h1, h2⟩ := ih (nx - (p + 1 + (manyF (W.getD p 0)).toNat)) (by omega) rfl hok x hx
          exact ⟨q, rfl, by omega, h2⟩
      · rw [plF_bad hp hb] at hok; cases hok
    · rw [plF_end (by omega)] at hx; cases hx
theorem plF_len {W : List Int} {nx : Nat} : ∀ {p : Nat}, (plF W nx p).1.length ≤ nx - p := by
  intro p
  induction hd : nx - p using Nat.strongRecOn generalizing p with
  | _ d ih =>
    by_cases hp : p < nx
    · rcases hb : badH (W.getD p 0) ((nx : Int) - p) with _ | _
      · rw [plF_more hp hb, List.length_cons]
        have := ih (nx - (p + 1 + (manyF (W.getD p 0)).toNat)) (by omega) rfl
        omega
      · rw [plF_bad hp hb]; simp
    · rw [plF_end (by omega)]; simp
/-- Whether a word is an int of a word, or one of those places. -/
def thereB (l : List Int) (x : Int) : Bool := if x % 2 = 0 then decide (x / 2 ∈ l) else inB (x / 2) (-1073741824) 1073741823
/-- Whether a heap's numbers are right. -/
def headB (T : HeapD) : Bool := inB T.2.1 1 3000 && decide ((T.1.length : Int) = 2 * T.2.1) && (decide (T.2.2.1 = 0) || decide (T.2.2.1 = T.2.1)) && inB T.2.2.2 T.2.2.1 (T.2.2.1 + T.2.1)
/-- Its blocks' places. -/
def plT (T : HeapD) : List Int × Bool := plF T.1 T.2.2.2.toNat T.2.2.1.toNat
/-- Whether the kids of the block at q are right. -/
def kidsB (T : HeapD) (q : Nat) : Bool := (List.range (manyF (T.1.getD q 0)).toNat).all fun k => thereB (plT T).1 (T.1.getD (q + 1 + k) 0)
def heapB (T : HeapD) : Bool := headB T && (plT T).2 && (plT T).1.all fun x => kidsB T x.toNat
theorem kids_no {T : HeapD} {q k : Nat} (hk : k < (manyF (T.1.getD q 0)).toNat) (h : thereB (plT T).1 (T.1.getD (q + 1 + k) 0) = false) : kidsB T q = false := by
  unfold kidsB; rw [List.all_eq_false]; exact ⟨k, List.mem_range.2 hk, by rw [h]; decide⟩
theorem kids_yes {T : HeapD} {q : Nat} (h : ∀ k, k < (manyF (T.1.getD q 0)).toNat → thereB (plT T).1 (T.1.getD (q + 1 + k) 0) = true) : kidsB T q = true := by
  unfold kidsB; rw [List.all_eq_true]; exact fun k hk => h k (List.mem_range.1 hk)
theorem heapB_head {T : HeapD} (h : headB T = false) : heapB T = false := by unfold heapB; rw [h]; rfl
theorem heapB_places {T : HeapD} (h : (plT T).2 = false) : heapB T = false := by unfold heapB; rw [h]; simp
theorem heapB_kids {T : HeapD} {i : Nat} (hi : i < (plT T).1.length) (h : kidsB T ((plT T).1[i]).toNat = false) : heapB T = false := by
  unfold heapB
  have : ((plT T).1.all fun x => kidsB T x.toNat) = false := by rw [List.all_eq_false]; exact ⟨_, List.getElem_mem hi, by simp [h]⟩
  rw [this]; simp
theorem heapB_yes {T : HeapD} (h1 : headB T = true) (h2 : (plT T).2 = true) (h3 : ∀ i (hi : i < (plT T).1.length), kidsB T ((plT T).1[i]).toNat = true) : heapB T = true := by
  unfold heapB
  have : ((plT T).1.all fun x => kidsB T x.toNat) = true := by
    rw [List.all_eq_true]
    intro x hx
    obtain ⟨i, hi, rfl⟩ := List.getElem_of_mem hx
    exact h3 i hi
  rw [this, h1, h2]; rfl
theorem head_in {T : HeapD} (h : headB T = true) : 1 ≤ T.2.1 ∧ T.2.1 ≤ 3000 ∧ (T.1.length : Int) = 2 * T.2.1 ∧ (T.2.2.1 = 0 ∨ T.2.2.1 = T.2.1) ∧ T.2.2.1 ≤ T.2.2.2 ∧ T.2.2.2 ≤ T.2.2.1 + T.2.1 := by
  unfold headB at h
  simp only [Bool.and_eq_true, Bool.or_eq_true, decide_eq_true_eq] at h
  have h1 := inB_yes h.1.1.1
  have h2 := inB_yes h.2
  exact ⟨h1.1, h1.2, h.1.1.2, h.1.2, h2.1, h2.2⟩

end Go.Proofs.Ytjofmoebijdccaa.heap

namespace Go.Proofs.Ytjofmoebijdccaa.data
open Go.RowKit Go.Proofs.Ytjofmoebijdccaa.rose Go.Proofs.Ytjofmoebijdccaa
set_option linter.unusedVariables false

/-- A con and where it stands. -/
structure Spot where
  tag : Nat
  i : Nat
  j : Nat
  c : con.ConD

def spotsC (t i j : Nat) : List con.ConD → List Spot
  | [] => []
  | c :: cs => ⟨t, i, j, c⟩ :: spotsC (t + 1) i (j + 1) cs
def spots (t i : Nat) : List DataD → List Spot
  | [] => []
  | d :: ds => spotsC t i 0 d.2.2 ++ spots (t + d.2.2.length) (i + 1) ds
def total : List DataD → Nat
  | [] => 0
  | d :: ds => d.2.2.length + total ds

theorem spotsC_append (t i j : Nat) (xs ys : List con.ConD) : spotsC t i j (xs ++ ys) = spotsC t i j xs ++ spotsC (t + xs.length) i (j + xs.length) ys := by
  induction xs generalizing t j with
  | nil => simp [spotsC]
  | cons x xs ih => simp [spotsC, ih]; congr 1 <;> omega
theorem spots_append (t i : Nat) (xs ys : List DataD) : spots t i (xs ++ ys) = spots t i xs ++ spots (t + total xs) (i + xs.length) ys := by
  induction xs generalizing t i with
  | nil => simp [spots, total]
  | cons x xs ih => simp [spots, total, ih, Nat.add_assoc]; congr 1; omega
theorem spotsC_length (t i j : Nat) (xs : List con.ConD) : (spotsC t i j xs).length = xs.length := by
  induction xs generalizing t j with
  | nil => rfl
  | cons x xs ih => simp [spotsC, ih]
theorem spots_length (t i : Nat) (xs : List DataD) : (spots t i xs).length = total xs := by
  induction xs generalizing t i with
  | nil => rfl
  | cons x xs ih => simp [spots, total, ih, spotsC_length]
theorem total_append (xs ys : List DataD) : total (xs ++ ys) = total xs + total ys := by
  induction xs with
  | nil => simp [total]
  | cons x xs ih => simp [total, ih]; omega
theorem total_le (xs : List DataD) : total xs ≤ wts xs := by
  induction xs with
  | nil => simp [total]
  | cons x xs ih =>
    obtain ⟨x0, x1, x2⟩ := x
    simp [total, wts, wt]; omega
theorem total_take {ks : List DataD} {i : Nat} (h : i < ks.length) : total (ks.take (i + 1)) = total (ks.take i) + ks[i].2.2.length := by
  rw [List.take_succ_eq_append_getElem h, total_append]; simp [total]
theorem total_take_le (ks : List DataD) (i : Nat) : total (ks.take i) ≤ total ks := by
  induction ks generalizing i with
  | nil => simp [total]
  | cons k ks ih =>
    cases i with
    | zero => simp [total]
    | succ i => simp [total]; exact ih i

/-- Those ahead of con j of data i. -/
def ahead (ks : List DataD) (i j : Nat) : List Spot := spots 0 0 (ks.take i) ++ spotsC (total (ks.take i)) i 0 (((ks[i]?.map (·.2.2)).getD []).take j)

theorem ahead_zero (ks : List DataD) (i : Nat) : ahead ks i 0 = spots 0 0 (ks.take i) := by simp [ahead, spotsC]
theorem ahead_start (ks : List DataD) : ahead ks 0 0 = [] := by simp [ahead, spots, spotsC]
theorem ahead_step {ks : List DataD} {i j : Nat} (hi : i < ks.length) (hj : j < ks[i].2.2.length) : ahead ks i (j + 1) = ahead ks i j ++ [⟨total (ks.take i) + j, i, j, ks[i].2.2[j]⟩] := by
  unfold ahead
  rw [List.getElem?_eq_getElem hi]
  simp only [Option.map_some, Option.getD_some]
  rw [List.take_succ_eq_append_getElem hj, spotsC_append]
  simp [spotsC, Nat.min_eq_left (Nat.le_of_lt hj)]
theorem ahead_next {ks : List DataD} {i : Nat} (hi : i < ks.length) : ahead ks i ks[i].2.2.length = ahead ks (i + 1) 0 := by
  rw [ahead_zero]
  unfold ahead
  rw [List.getElem?_eq_getElem hi]
  simp only [Option.map_some, Option.getD_some, List.take_length]
  rw [List.take_succ_eq_append_getElem hi, spots_append]
  simp [spots, Nat.min_eq_left (Nat.le_of_lt hi)]
theorem ahead_end (ks : List DataD) : ahead ks ks.length 0 = spots 0 0 ks := by rw [ahead_zero, List.take_length]
theorem ahead_pre (ks : List DataD) (i : Nat) : ahead ks i 0 <+: spots 0 0 ks := by
  rw [ahead_zero]
  conv => rhs; rw [← List.take_append_drop i ks, spots_append]
  exact List.prefix_append _ _
theorem ahead_prefix {ks : List DataD} {i j : Nat} (hi : i < ks.length) (hj : j ≤ ks[i].2.2.length) : ahead ks i j <+: spots 0 0 ks := by
  refine List.IsPrefix.trans ?_ (ahead_pre ks (i + 1))
  rw [← ahead_next hi]
  unfold ahead
  rw [List.getElem?_eq_getElem hi]
  simp only [Option.map_some, Option.getD_some, List.take_length]
  rw [List.prefix_append_right_inj]
  conv => rhs; rw [← List.take_append_drop j ks[i].2.2, spotsC_append]
  exact List.prefix_append _ _
theorem ahead_length {ks : List DataD} {i j : Nat} (hi : i < ks.length) (hj : j ≤ ks[i].2.2.length) : (ahead ks i j).length = total (ks.take i) + j := by
  unfold ahead
  rw [List.getElem?_eq_getElem hi]
  simp [spots_length, spotsC_length, Nat.min_eq_left hj]

/-- The first spot that is so. -/
theorem find_pre {l pre : List Spot} {x : Spot} {p : Spot → Bool} (h : pre ++ [x] <+: l) (hn : ∀ y ∈ pre, p y = false) (hx : p x = true) : l.find? p = some x := by
  obtain ⟨r, rfl⟩ := h
  rw [List.append_assoc, List.find?_append, List.find?_eq_none.2 (by simpa using hn)]
  simp [hx]
theorem find_no {l : List Spot} {p : Spot → Bool} (h : ∀ y ∈ l, p y = false) : l.find? p = none := List.find?_eq_none.2 (by simpa using h)

def named (name : ByteArray) (s : Spot) : Bool := s.c.1.toList == name.toList
def tagged (tag : Int) (s : Spot) : Bool := decide ((s.tag : Int) = tag)

def place (s : Option Spot) : Int × Int × Int := match s with
  | some s => ((s.tag : Int), (s.i : Int), (s.j : Int))
  | none => (-1, -1, -1)
def placeB (ks : List DataD) (name : ByteArray) : Int × Int × Int := place ((spots 0 0 ks).find? (named name))
def tagB (ks : List DataD) (tag : Int) : Int × Int × Int := place ((spots 0 0 ks).find? (tagged tag))

theorem spotsC_tag {t i j : Nat} {xs : List con.ConD} {s : Spot} (h : s ∈ spotsC t i j xs) : t ≤ s.tag ∧ s.tag < t + xs.length := by
  induction xs generalizing t j with
  | nil => simp [spotsC] at h
  | cons x xs ih =>
    simp only [spotsC, List.mem_cons] at h
    rcases h with rfl | h
    · simp
    · have := ih h; simp; omega
theorem spots_tag {t i : Nat} {xs : List DataD} {s : Spot} (h : s ∈ spots t i xs) : t ≤ s.tag ∧ s.tag < t + total xs := by
  induction xs generalizing t i with
  | nil => simp [spots] at h
  | cons x xs ih =>
    simp only [spots, List.mem_append] at h
    rcases h with h | h
    · have := spotsC_tag h; simp [total]; omega
    · have := ih h; simp [total]; omega
/-- A tag that is within data i's. -/
theorem tag_at {ks : List DataD} {i : Nat} (hi : i < ks.length) {tag : Int} (h1 : (total (ks.take i) : Int) ≤ tag) (h2 : tag - total (ks.take i) < ks[i].2.2.length) : tagB ks tag = (tag, (i : Int), tag - total (ks.take i)) := by
  obtain ⟨j, rfl⟩ : ∃ j : Nat, tag = ((total (ks.take i) + j : Nat) : Int) := ⟨(tag - total (ks.take i)).toNat, by omega⟩
  have hj : j < ks[i].2.2.length := by omega
  have hp : ahead ks i j ++ [⟨total (ks.take i) + j, i, j, ks[i].2.2[j]⟩] <+: spots 0 0 ks := by rw [← ahead_step hi hj]; exact ahead_prefix hi hj
  unfold tagB
  rw [find_pre (x := ⟨total (ks.take i) + j, i, j, ks[i].2.2[j]⟩) hp]
  · simp [place]; omega
  · intro y hy
    unfold tagged
    rw [decide_eq_false]
    unfold ahead at hy
    rw [List.getElem?_eq_getElem hi] at hy
    simp only [Option.map_some, Option.getD_some, List.mem_append] at hy
    rcases hy with hy | hy
    · have := spots_tag hy; omega
    · have := spotsC_tag hy
      rw [List.length_take, Nat.min_eq_left (Nat.le_of_lt hj)] at this
      omega
  · simp [tagged]
theorem tag_none {ks : List DataD} {tag : Int} (h : tag < 0 ∨ (total ks : Int) ≤ tag) : tagB ks tag = (-1, -1, -1) := by
  unfold tagB
  rw [find_no]
  · rfl
  · intro y hy
    have := spots_tag hy
    simp [tagged]; omega

end Go.Proofs.Ytjofmoebijdccaa.data

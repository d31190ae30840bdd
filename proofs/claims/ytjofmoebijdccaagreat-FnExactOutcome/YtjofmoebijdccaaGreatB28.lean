/-
  The program's iterator over the cons of a list of datas: what it hands over, in which order.
  The program's iterator over the cons of a list of datas, where a round's body may write into memory of its own that came behind the loop's start.
  The program's consOf: it hands over its iterator, with its argument in a new box; and what lies where behind some new boxes.
  A row that the call itself owns: its last element taken off, its cells read; a kind of data that is one cell; data that lie at one place are one.
-/
import Derived.Shelf.Abstract
import Derived.Shelf.RegionOpen
import Derived.WalkKit
import Derived.OwnWalkIn
import Derived.TacticsInMore
import Derived.LoopNIn
import Derived.LoopIn
import Derived.Sort.LoopGhostIn
import Derived.BigRegionIn
import Derived.Deep.QuietTactic
import Derived.BigQuiet
import Derived.WalkSmall
import Derived.Laws.AppendOwn
import Derived.Laws.AppendOwnNone
import Derived.Maps.OwnIn
import Derived.Test.YtjofmoebijdccaaGreatB1
import Derived.Test.YtjofmoebijdccaaGreatB2
import Derived.Test.YtjofmoebijdccaaGreatB3
import Derived.Test.YtjofmoebijdccaaGreatB4
import Derived.Test.YtjofmoebijdccaaGreatB5
import Derived.Test.YtjofmoebijdccaaGreatB6
import Derived.Test.YtjofmoebijdccaaGreatB7
import Derived.Test.YtjofmoebijdccaaGreatB8
import Derived.Test.YtjofmoebijdccaaGreatB9
import Derived.Test.YtjofmoebijdccaaGreatB10
import Derived.Test.YtjofmoebijdccaaGreatB11
import Derived.Test.YtjofmoebijdccaaGreatB12
import Derived.Test.YtjofmoebijdccaaGreatB13
import Derived.Test.YtjofmoebijdccaaGreatB14
import Derived.Test.YtjofmoebijdccaaGreatB15
import Derived.Test.YtjofmoebijdccaaGreatB16
import Derived.Test.YtjofmoebijdccaaGreatB17
import Derived.Test.YtjofmoebijdccaaGreatB18
import Derived.Test.YtjofmoebijdccaaGreatB19
import Derived.Test.YtjofmoebijdccaaGreatB20
import Derived.Test.YtjofmoebijdccaaGreatB21
import Derived.Test.YtjofmoebijdccaaGreatB22
import Derived.Test.YtjofmoebijdccaaGreatB23
import Derived.Test.YtjofmoebijdccaaGreatB24
import Derived.Test.YtjofmoebijdccaaGreatB25
import Derived.Test.YtjofmoebijdccaaGreatB26
import Derived.Test.YtjofmoebijdccaaGreatB27
namespace Go.Proofs.YtjofmoebijdccaaGreat.data
open Go.RowKit Go.Shelf Go.Proofs.YtjofmoebijdccaaGreat.rose Go.Proofs.YtjofmoebijdccaaGreat.rangeb Go.Proofs.YtjofmoebijdccaaGreat
set_option linter.unusedVariables false
set_option linter.unusedSimpArgs false

/-- What is handed over: a con with its place, and where its types lie. -/
structure CPart (w : World) (n₀ : Nat) where
  s : Spot
  a : Option Addr
  c : Nat
  rep : con.conSh.rep w (· < n₀) [.string s.c.1, .slice a s.c.2.length c] s.c
  t0 : s.tag ≤ 1048576
  t1 : s.i ≤ 1048576
  t2 : s.j ≤ 1048576

def encP {w : World} {n₀ : Nat} (x : CPart w n₀) : Value := .agg #[.int .i64 (x.s.tag : Nat), .int .i64 (x.s.i : Nat), .int .i64 (x.s.j : Nat)]
def encC {w : World} {n₀ : Nat} (x : CPart w n₀) : Value := .agg #[.string x.s.c.1, .slice x.a x.s.c.2.length x.c]
def encs {w : World} {n₀ : Nat} (x : CPart w n₀) : Array Value := #[encP x, encC x]

theorem wts_le {ks : List DataD} {i : Nat} (h : i < ks.length) : ks[i].2.2.length ≤ wts ks := by
  have h1 := wt_mem (List.getElem_mem h)
  have h2 : ks[i].2.2.length ≤ wt ks[i] := by
    obtain ⟨x0, x1, x2⟩ := ks[i]
    simp [wt]; omega
  omega

set_option maxRecDepth 100000 in
set_option maxHeartbeats 2000000 in
theorem consOf_stops (F : Fence) (n : Nat) (hF : F.fn 97) (hro : F.round = none) (hn : 1 ≤ n) (Bt n₀ : Nat) (ks : List DataD) (v : Value) (w : World) (hB : Bt < w.heap.size) (hn0 : n₀ ≤ w.heap.size)
    (hc : w.cell? ⟨Bt, 0, none⟩ = some v) (hrep : dataSh.slice.rep w (· < n₀) [v] ks) (hw : ks.length + wts ks ≤ 1048576) :
    SeqB F n Tryz.prog 97 #[.pointer (some ⟨Bt, 0, none⟩)] (encs (w := w) (n₀ := n₀)) n₀ (fun xs => xs.map (·.s) = spots 0 0 ks) (fun pre => pre.map (·.s) <+: spots 0 0 ks) (total ks) w := by
  intro l J Jx W hW hJ hJx hY h0
  have htl := total_le ks
  have HREP : Hid (dataSh.slice.rep w (· < n₀) [v] ks) := hrep
  obtain ⟨a, cap, css, rfl, hcap, hmax, hrow, hk⟩ := datas_open hrep
  have c0 := (hW.cell (p := ⟨Bt, 0, none⟩) hB).trans hc
  have HW : Hid (n₀ ≤ W.heap.size) := Nat.le_trans hn0 hW.size
  have LW : Hid (∀ b, b < n₀ → W.heap[b]? = w.heap[b]?) := fun b hb => hW.block b (Nat.lt_of_lt_of_le hb hn0)
  have HJ : Hid (Of W.heap.size J) := hJ
  have HY : Hid _ := hY
  have HR : Hid (RowAt w (· < n₀) 3 a ks.length css ∧ ∀ i (h : i < ks.length), dataSh.rep w (· < n₀) (css i) ks[i]) := ⟨hrow, hk⟩
  have H0 : Hid (J [] W) := h0
  clear hY hJ hJx hrep hc hrow hk h0 hcap hmax
  refine callsIn_of_wp Tryz.func97 rfl hF ?_ hro
  simp only [Tryz.ntmps97, List.size_toArray, List.length_cons, List.length_nil, Nat.reduceAdd, Nat.reduceSub, Array.replicate_succ, Array.replicate_zero, List.push_toArray, List.append_toArray, List.nil_append, List.cons_append]
  gi_wp2
  clear c0
  gi_loopg [3, 10] (ks.length) (fun k v3 v10 wr => ∃ i : Nat, k + i = ks.length ∧ v10 = .int .i64 i ∧ v3 = .int .i64 (total (ks.take i) : Nat) ∧ Hid (W.heap.size ≤ wr.heap.size ∧ (∀ b, b < n₀ → wr.heap[b]? = w.heap[b]?) ∧ ∃ pre : List (CPart w n₀), pre.map (·.s) = ahead ks i 0 ∧ J pre wr))
  case atStart => exact ⟨0, rfl, rfl, by simp [total], Nat.le_refl _, LW.out, [], by simp [ahead_start], H0.out⟩
  case round =>
    obtain ⟨i, hki, rfl, rfl, HI⟩ := hrel
    have hti := total_take_le ks i
    by_cases hlt : i < ks.length
    · obtain ⟨b, o, rfl, hS, hc⟩ := HR.out.1 i hlt
      obtain ⟨x0, x1, x2, a2, cc2, hT, hcs, f0, f1, f2⟩ := data_open (HR.out.2 i hlt)
      rw [hcs] at hc
      have blk := HI.out.2.1 b hS
      have e0 := (World.cell?_of_block (w := w) (a := ⟨b, o + i * 3, none⟩) blk).trans (hc 0 _ rfl)
      have e1 := (World.cell?_of_block (w := w) (a := ⟨b, o + i * 3 + 1, none⟩) blk).trans (hc 1 _ rfl)
      have e2 := (World.cell?_of_block (w := w) (a := ⟨b, o + i * 3 + 2, none⟩) blk).trans (hc 2 _ rfl)
      have hx2 : x2.length ≤ 1048576 := by
        have := wts_le hlt
        rw [hT] at this
        simp at this
        omega
      have HT : Hid (ks[i].2.2 = x2) := by show _ = _; rw [hT]
      have htk := total_take hlt
      rw [HT.out] at htk
      have htk2 := total_take_le ks (i + 1)
      have F2 : Hid _ := f2
      clear f2 hcs hc blk hT
      gi_wp2
      have Z0 : Hid (W.heap.size ≤ (wr.alloc (.cells #[.string x0, .int .i64 x1, .slice a2 x2.length cc2] 63)).heap.size ∧ (∀ b, b < n₀ → (wr.alloc (.cells #[.string x0, .int .i64 x1, .slice a2 x2.length cc2] 63)).heap[b]? = w.heap[b]?) ∧ ∃ pre : List (CPart w n₀), pre.map (·.s) = ahead ks i 0 ∧ J pre (wr.alloc (.cells #[.string x0, .int .i64 x1, .slice a2 x2.length cc2] 63))) := by
        obtain ⟨h1, h2, pre, h3, h4⟩ := HI.out
        exact ⟨Nat.le_trans h1 (by simp), fun b hb => (Below.heap_alloc _ _ _ (Nat.lt_of_lt_of_le hb (Nat.le_trans HW.out h1))).trans (h2 b hb), pre, h3, HJ.out _ _ _ h4 ((Below.refl _ _).alloc h1 _)⟩
      clear HI e0 e1 e2
      generalize wr.alloc (.cells #[.string x0, .int .i64 x1, .slice a2 x2.length cc2] 63) = wq at Z0 ⊢
      rename World => wo
      gi_loopg [3, 18] (x2.length) (fun k v3 v18 wi => ∃ j q : Nat, k + j = x2.length ∧ q = total (ks.take i) + j ∧ v18 = .int .i64 j ∧ v3 = .int .i64 (q : Nat) ∧ Hid (W.heap.size ≤ wi.heap.size ∧ (∀ b, b < n₀ → wi.heap[b]? = w.heap[b]?) ∧ ∃ pre : List (CPart w n₀), pre.map (·.s) = ahead ks i j ∧ J pre wi))
      case atStart => exact ⟨0, _, rfl, rfl, rfl, rfl, Z0.out⟩
      case round =>
        obtain ⟨j, q, hkj, hq, rfl, rfl, HI⟩ := hrel
        rename World => wi
        by_cases hlj : j < x2.length
        · obtain ⟨a1, cap1, cs1, ea, -, -, hrow, hk⟩ := con.cons_open F2.out
          cases ea
          obtain ⟨b2, o2, rfl, hS2, hc⟩ := hrow j hlj
          have hrj := hk j hlj
          obtain ⟨y0, y1, a3, c3, hT, hcs, g0, g1⟩ := con.con_open hrj
          rw [hcs] at hc hrj
          have blk := HI.out.2.1 b2 hS2
          have e0 := (World.cell?_of_block (w := w) (a := ⟨b2, o2 + j * 2, none⟩) blk).trans (hc 0 _ rfl)
          have e1 := (World.cell?_of_block (w := w) (a := ⟨b2, o2 + j * 2 + 1, none⟩) blk).trans (hc 1 _ rfl)
          obtain ⟨x, hxs, hxe⟩ : ∃ x : CPart w n₀, x.s = ⟨q, i, j, (y0, y1)⟩ ∧ encs x = #[.agg #[.int .i64 (q : Nat), .int .i64 i, .int .i64 j], .agg #[.string y0, .slice a3 y1.length c3]] :=
            ⟨⟨⟨q, i, j, (y0, y1)⟩, a3, c3, by rw [hT] at hrj; exact hrj, by show q ≤ _; omega, by show i ≤ _; omega, by show j ≤ _; omega⟩, rfl, rfl⟩
          have HX : Hid (x.s = ⟨q, i, j, (y0, y1)⟩) := hxs
          have HST : Hid (ahead ks i (j + 1) = ahead ks i j ++ [⟨q, i, j, (y0, y1)⟩]) := by
            have h := ahead_step hlt (j := j) (by rw [HT.out]; exact hlj)
            simp only [HT.out] at h
            rw [hT, ← hq] at h
            exact h
          have HPX : Hid (ahead ks i (j + 1) <+: spots 0 0 ks) := ahead_prefix hlt (by rw [HT.out]; omega)
          obtain ⟨hz, hlow, pre, hpre, hJp⟩ := HI.out
          have HP : Hid (pre.map (·.s) = ahead ks i j) := hpre
          have hpl : pre.length < total ks := by
            have h1 : pre.length = (ahead ks i j).length := by rw [← hpre, List.length_map]
            rw [ahead_length hlt (by rw [HT.out]; omega)] at h1
            omega
          have hJ1 : J pre (wi.alloc (.cells #[.string y0, .slice a3 y1.length c3] 117)) := HJ.out _ _ _ hJp ((Below.refl _ _).alloc hz _)
          obtain ⟨fn, tmps, assign, body, hy, hR⟩ := HY.out pre x _ hJ1 hpl
          rw [hxe] at hy
          have LO : Hid (∀ b, b < n₀ → (wi.alloc (.cells #[.string y0, .slice a3 y1.length c3] 117)).heap[b]? = w.heap[b]?) := fun b hb => (Below.heap_alloc _ _ _ (Nat.lt_of_lt_of_le hb (Nat.le_trans HW.out hz))).trans (hlow b hb)
          have HZ : Hid (W.heap.size ≤ (wi.alloc (.cells #[.string y0, .slice a3 y1.length c3] 117)).heap.size) := Nat.le_trans hz (by simp)
          have HQ : Hid (q = total (ks.take i) + j) := hq
          have hqb : q ≤ 1048576 := by omega
          clear hJ1 hJp hpre hlow hz blk hc hcs hrj hT hrow hk hxs hxe g1 HI hq
          gi_wp2
          refine hR.mono ?_
          rintro e W3 (⟨rfl, hJ3, hk3⟩ | ⟨rfl, hJx3⟩)
          · have L3 : Hid (∀ b, b < n₀ → W3.heap[b]? = w.heap[b]?) := fun b hb => (hk3.low b hb).trans (LO.out b hb)
            have Z3 : Hid (W.heap.size ≤ W3.heap.size) := Nat.le_trans HZ.out hk3.size
            have HJ3 : Hid (J (pre ++ [x]) W3) := hJ3
            clear hk3 hJ3 hR hy
            gi_wp2
            gi_roundg (x2.length - (j + 1))
            case rel => exact ⟨j + 1, q + 1, by omega, by have := HQ.out; omega, by go_num, by go_num, Z3.out, L3.out, pre ++ [x], by rw [List.map_append, HP.out, HST.out]; simp [HX.out], HJ3.out⟩
            case measure => omega
          · gi_wp2
            refine bodyPost_ret (results_none rfl _ _ _) rfl ?_
            exact ⟨⟨_, rfl⟩, .inr ⟨_, by rw [List.map_append, HP.out]; simp only [List.map_cons, List.map_nil, HX.out]; rw [← HST.out]; exact HPX.out, hJx3⟩⟩
        · obtain rfl : j = x2.length := by omega
          have HQ : Hid (q = total (ks.take i) + x2.length) := hq
          have hqb : q ≤ 1048576 := by omega
          clear hq
          have HN : Hid (ahead ks i x2.length = ahead ks (i + 1) 0) := by
            have := ahead_next hlt
            rw [HT.out] at this
            exact this
          gi_wp2
          gi_roundg (ks.length - (i + 1))
          case rel =>
            obtain ⟨h1, h2, pre, h3, h4⟩ := HI.out
            exact ⟨i + 1, by omega, by go_num, by rw [htk, HQ.out], h1, h2, pre, by rw [h3, HN.out], h4⟩
          case measure => omega
    · obtain rfl : i = ks.length := by omega
      gi_wp2
      go_end0
      obtain ⟨-, -, pre, hp, hj⟩ := HI.out
      exact ⟨⟨_, rfl⟩, .inl ⟨pre, by rw [hp, ahead_end], hj⟩⟩

end Go.Proofs.YtjofmoebijdccaaGreat.data

namespace Go.Proofs.YtjofmoebijdccaaGreat.data
open Go.RowKit Go.Shelf Go.Proofs.YtjofmoebijdccaaGreat.rose Go.Proofs.YtjofmoebijdccaaGreat.rangeb Go.Proofs.YtjofmoebijdccaaGreat
set_option linter.unusedVariables false
set_option linter.unusedSimpArgs false

/-- What is handed over: a con with its place, and where its types lie. -/
structure CPartA (w : World) (S : Nat → Prop) where
  s : Spot
  a : Option Addr
  c : Nat
  rep : con.conSh.rep w S [.string s.c.1, .slice a s.c.2.length c] s.c
  t0 : s.tag ≤ 1048576
  t1 : s.i ≤ 1048576
  t2 : s.j ≤ 1048576

def encPA {w : World} {S : Nat → Prop} (x : CPartA w S) : Value := .agg #[.int .i64 (x.s.tag : Nat), .int .i64 (x.s.i : Nat), .int .i64 (x.s.j : Nat)]
def encCA {w : World} {S : Nat → Prop} (x : CPartA w S) : Value := .agg #[.string x.s.c.1, .slice x.a x.s.c.2.length x.c]
def encsA {w : World} {S : Nat → Prop} (x : CPartA w S) : Array Value := #[encPA x, encCA x]

set_option maxRecDepth 100000 in
set_option maxHeartbeats 2000000 in
theorem consOf_stopsA (F : Fence) (n : Nat) (hF : F.fn 97) (hro : F.round = none) (hn : 1 ≤ n) (Bt n₀ : Nat) (S : Nat → Prop) (hSn : ∀ b, S b → b < n₀) (ks : List DataD) (v : Value) (w : World) (hB : Bt < w.heap.size) (hn0 : n₀ ≤ w.heap.size)
    (hc : w.cell? ⟨Bt, 0, none⟩ = some v) (hrep : dataSh.slice.rep w S [v] ks) (hw : ks.length + wts ks ≤ 1048576) :
    SeqA F n Tryz.prog 97 #[.pointer (some ⟨Bt, 0, none⟩)] (encsA (w := w) (S := S)) n₀ (fun xs => xs.map (·.s) = spots 0 0 ks) (fun pre => pre.map (·.s) <+: spots 0 0 ks) (total ks) w := by
  intro l J Jx W hW hJ hJx hY h0
  have htl := total_le ks
  have HREP : Hid (dataSh.slice.rep w S [v] ks) := hrep
  obtain ⟨a, cap, css, rfl, hcap, hmax, hrow, hk⟩ := datas_open hrep
  have c0 := (hW.cell (p := ⟨Bt, 0, none⟩) hB).trans hc
  have HW : Hid (n₀ ≤ W.heap.size) := Nat.le_trans hn0 hW.size
  have LW : Hid (∀ b, b < n₀ → W.heap[b]? = w.heap[b]?) := fun b hb => hW.block b (Nat.lt_of_lt_of_le hb hn0)
  have HJ : Hid (∀ s W1 W2, J s W1 → Below W1.heap.size W1 W2 → J s W2) := hJ
  have HY : Hid _ := hY
  have HR : Hid (RowAt w S 3 a ks.length css ∧ ∀ i (h : i < ks.length), dataSh.rep w S (css i) ks[i]) := ⟨hrow, hk⟩
  have H0 : Hid (J [] W) := h0
  clear hY hJ hJx hrep hc hrow hk h0 hcap hmax
  refine callsIn_of_wp Tryz.func97 rfl hF ?_ hro
  simp only [Tryz.ntmps97, List.size_toArray, List.length_cons, List.length_nil, Nat.reduceAdd, Nat.reduceSub, Array.replicate_succ, Array.replicate_zero, List.push_toArray, List.append_toArray, List.nil_append, List.cons_append]
  gi_wp2
  clear c0
  gi_loopg [3, 10] (ks.length) (fun k v3 v10 wr => ∃ i : Nat, k + i = ks.length ∧ v10 = .int .i64 i ∧ v3 = .int .i64 (total (ks.take i) : Nat) ∧ Hid (W.heap.size ≤ wr.heap.size ∧ (∀ b, b < n₀ → wr.heap[b]? = w.heap[b]?) ∧ ∃ pre : List (CPartA w S), pre.map (·.s) = ahead ks i 0 ∧ J pre wr))
  case atStart => exact ⟨0, rfl, rfl, by simp [total], Nat.le_refl _, LW.out, [], by simp [ahead_start], H0.out⟩
  case round =>
    obtain ⟨i, hki, rfl, rfl, HI⟩ := hrel
    have hti := total_take_le ks i
    by_cases hlt : i < ks.length
    · obtain ⟨b, o, rfl, hS, hc⟩ := HR.out.1 i hlt
      obtain ⟨x0, x1, x2, a2, cc2, hT, hcs, f0, f1, f2⟩ := data_open (HR.out.2 i hlt)
      rw [hcs] at hc
      have blk := HI.out.2.1 b (hSn b hS)
      have e0 := (World.cell?_of_block (w := w) (a := ⟨b, o + i * 3, none⟩) blk).trans (hc 0 _ rfl)
      have e1 := (World.cell?_of_block (w := w) (a := ⟨b, o + i * 3 + 1, none⟩) blk).trans (hc 1 _ rfl)
      have e2 := (World.cell?_of_block (w := w) (a := ⟨b, o + i * 3 + 2, none⟩) blk).trans (hc 2 _ rfl)
      have hx2 : x2.length ≤ 1048576 := by
        have := wts_le hlt
        rw [hT] at this
        simp at this
        omega
      have HT : Hid (ks[i].2.2 = x2) := by show _ = _; rw [hT]
      have htk := total_take hlt
      rw [HT.out] at htk
      have htk2 := total_take_le ks (i + 1)
      have F2 : Hid _ := f2
      clear f2 hcs hc blk hT
      gi_wp2
      have Z0 : Hid (W.heap.size ≤ (wr.alloc (.cells #[.string x0, .int .i64 x1, .slice a2 x2.length cc2] 63)).heap.size ∧ (∀ b, b < n₀ → (wr.alloc (.cells #[.string x0, .int .i64 x1, .slice a2 x2.length cc2] 63)).heap[b]? = w.heap[b]?) ∧ ∃ pre : List (CPartA w S), pre.map (·.s) = ahead ks i 0 ∧ J pre (wr.alloc (.cells #[.string x0, .int .i64 x1, .slice a2 x2.length cc2] 63))) := by
        obtain ⟨h1, h2, pre, h3, h4⟩ := HI.out
        exact ⟨Nat.le_trans h1 (by simp), fun b hb => (Below.heap_alloc _ _ _ (Nat.lt_of_lt_of_le hb (Nat.le_trans HW.out h1))).trans (h2 b hb), pre, h3, HJ.out _ _ _ h4 ((Below.refl _ _).alloc (Nat.le_refl _) _)⟩
      clear HI e0 e1 e2
      generalize wr.alloc (.cells #[.string x0, .int .i64 x1, .slice a2 x2.length cc2] 63) = wq at Z0 ⊢
      rename World => wo
      gi_loopg [3, 18] (x2.length) (fun k v3 v18 wi => ∃ j q : Nat, k + j = x2.length ∧ q = total (ks.take i) + j ∧ v18 = .int .i64 j ∧ v3 = .int .i64 (q : Nat) ∧ Hid (W.heap.size ≤ wi.heap.size ∧ (∀ b, b < n₀ → wi.heap[b]? = w.heap[b]?) ∧ ∃ pre : List (CPartA w S), pre.map (·.s) = ahead ks i j ∧ J pre wi))
      case atStart => exact ⟨0, _, rfl, rfl, rfl, rfl, Z0.out⟩
      case round =>
        obtain ⟨j, q, hkj, hq, rfl, rfl, HI⟩ := hrel
        rename World => wi
        by_cases hlj : j < x2.length
        · obtain ⟨a1, cap1, cs1, ea, -, -, hrow, hk⟩ := con.cons_open F2.out
          cases ea
          obtain ⟨b2, o2, rfl, hS2, hc⟩ := hrow j hlj
          have hrj := hk j hlj
          obtain ⟨y0, y1, a3, c3, hT, hcs, g0, g1⟩ := con.con_open hrj
          rw [hcs] at hc hrj
          have blk := HI.out.2.1 b2 (hSn b2 hS2)
          have e0 := (World.cell?_of_block (w := w) (a := ⟨b2, o2 + j * 2, none⟩) blk).trans (hc 0 _ rfl)
          have e1 := (World.cell?_of_block (w := w) (a := ⟨b2, o2 + j * 2 + 1, none⟩) blk).trans (hc 1 _ rfl)
          obtain ⟨x, hxs, hxe⟩ : ∃ x : CPartA w S, x.s = ⟨q, i, j, (y0, y1)⟩ ∧ encsA x = #[.agg #[.int .i64 (q : Nat), .int .i64 i, .int .i64 j], .agg #[.string y0, .slice a3 y1.length c3]] :=
            ⟨⟨⟨q, i, j, (y0, y1)⟩, a3, c3, by rw [hT] at hrj; exact hrj, by show q ≤ _; omega, by show i ≤ _; omega, by show j ≤ _; omega⟩, rfl, rfl⟩
          have HX : Hid (x.s = ⟨q, i, j, (y0, y1)⟩) := hxs
          have HST : Hid (ahead ks i (j + 1) = ahead ks i j ++ [⟨q, i, j, (y0, y1)⟩]) := by
            have h := ahead_step hlt (j := j) (by rw [HT.out]; exact hlj)
            simp only [HT.out] at h
            rw [hT, ← hq] at h
            exact h
          have HPX : Hid (ahead ks i (j + 1) <+: spots 0 0 ks) := ahead_prefix hlt (by rw [HT.out]; omega)
          obtain ⟨hz, hlow, pre, hpre, hJp⟩ := HI.out
          have HP : Hid (pre.map (·.s) = ahead ks i j) := hpre
          have hpl : pre.length < total ks := by
            have h1 : pre.length = (ahead ks i j).length := by rw [← hpre, List.length_map]
            rw [ahead_length hlt (by rw [HT.out]; omega)] at h1
            omega
          have hJ1 : J pre (wi.alloc (.cells #[.string y0, .slice a3 y1.length c3] 117)) := HJ.out _ _ _ hJp ((Below.refl _ _).alloc (Nat.le_refl _) _)
          obtain ⟨fn, tmps, assign, body, hy, hR⟩ := HY.out pre x _ hJ1 hpl
          rw [hxe] at hy
          have LO : Hid (∀ b, b < n₀ → (wi.alloc (.cells #[.string y0, .slice a3 y1.length c3] 117)).heap[b]? = w.heap[b]?) := fun b hb => (Below.heap_alloc _ _ _ (Nat.lt_of_lt_of_le hb (Nat.le_trans HW.out hz))).trans (hlow b hb)
          have HZ : Hid (W.heap.size ≤ (wi.alloc (.cells #[.string y0, .slice a3 y1.length c3] 117)).heap.size) := Nat.le_trans hz (by simp)
          have HQ : Hid (q = total (ks.take i) + j) := hq
          have hqb : q ≤ 1048576 := by omega
          clear hJ1 hJp hpre hlow hz blk hc hcs hrj hT hrow hk hxs hxe g1 HI hq
          gi_wp2
          refine hR.mono ?_
          rintro e W3 (⟨rfl, hJ3, hk3⟩ | ⟨rfl, hJx3⟩)
          · have L3 : Hid (∀ b, b < n₀ → W3.heap[b]? = w.heap[b]?) := fun b hb => (hk3.2 b hb).trans (LO.out b hb)
            have Z3 : Hid (W.heap.size ≤ W3.heap.size) := Nat.le_trans HZ.out hk3.1
            have HJ3 : Hid (J (pre ++ [x]) W3) := hJ3
            clear hk3 hJ3 hR hy
            gi_wp2
            gi_roundg (x2.length - (j + 1))
            case rel => exact ⟨j + 1, q + 1, by omega, by have := HQ.out; omega, by go_num, by go_num, Z3.out, L3.out, pre ++ [x], by rw [List.map_append, HP.out, HST.out]; simp [HX.out], HJ3.out⟩
            case measure => omega
          · gi_wp2
            refine bodyPost_ret (results_none rfl _ _ _) rfl ?_
            exact ⟨⟨_, rfl⟩, .inr ⟨_, by rw [List.map_append, HP.out]; simp only [List.map_cons, List.map_nil, HX.out]; rw [← HST.out]; exact HPX.out, hJx3⟩⟩
        · obtain rfl : j = x2.length := by omega
          have HQ : Hid (q = total (ks.take i) + x2.length) := hq
          have hqb : q ≤ 1048576 := by omega
          clear hq
          have HN : Hid (ahead ks i x2.length = ahead ks (i + 1) 0) := by
            have := ahead_next hlt
            rw [HT.out] at this
            exact this
          gi_wp2
          gi_roundg (ks.length - (i + 1))
          case rel =>
            obtain ⟨h1, h2, pre, h3, h4⟩ := HI.out
            exact ⟨i + 1, by omega, by go_num, by rw [htk, HQ.out], h1, h2, pre, by rw [h3, HN.out], h4⟩
          case measure => omega
    · obtain rfl : i = ks.length := by omega
      gi_wp2
      go_end0
      obtain ⟨-, -, pre, hp, hj⟩ := HI.out
      exact ⟨⟨_, rfl⟩, .inl ⟨pre, by rw [hp, ahead_end], hj⟩⟩

end Go.Proofs.YtjofmoebijdccaaGreat.data

namespace Go.Proofs.YtjofmoebijdccaaGreat.data
open Go.RowKit Go.Shelf Go.Proofs.YtjofmoebijdccaaGreat.rose Go.Proofs.YtjofmoebijdccaaGreat.rangeb Go.Proofs.YtjofmoebijdccaaGreat
set_option linter.unusedVariables false
set_option linter.unusedSimpArgs false
attribute [local go_sem] Oper.semAt_some

set_option maxRecDepth 100000 in
theorem consOf_in (F : Fence) (n : Nat) (hF : F.fn 76) (hro : F.round = none) (v : Value) (w : World) (o : v.oneCell' = true) :
    CallsIn F n Tryz.prog 76 #[v] w fun e w' => e = .returned (.func (.func 97) #[] #[.pointer (some ⟨w.heap.size, 0, none⟩)]) ∧ w' = w.alloc (.cells #[v] 37) := by
  refine callsIn_of_wp Tryz.func76 rfl hF ?_ hro
  simp only [Tryz.ntmps76, List.size_toArray, List.length_cons, List.length_nil, Nat.reduceAdd, Nat.reduceSub, Array.replicate_succ, Array.replicate_zero, List.push_toArray, List.append_toArray, List.nil_append, List.cons_append]
  gi_wp2
  refine bodyPost_ret (results_tmp rfl _ _ _) rfl ?_
  exact ⟨rfl, rfl⟩

theorem blk_cell {W : World} {B i : Nat} {cs : Array Value} {t : TypeId} {v : Value} (h : W.heap[B]? = some (.cells cs t)) (hv : cs[i]? = some v) : W.cell? ⟨B, i, none⟩ = some v := by simp [World.cell?, h, hv]
theorem blk_free {W : World} {B i : Nat} {cs : Array Value} {t : TypeId} (h : W.heap[B]? = some (.cells cs t)) : W.frozen? ⟨B, i, none⟩ = false := by simp [World.frozen?, h]

theorem three (w : World) (A B C : Obj) (WL : World) (h : WL = ((w.alloc A).alloc B).alloc C) : WL.heap.size = w.heap.size + 3 ∧ Below w.heap.size w WL ∧ WL.heap[w.heap.size]? = some A ∧ WL.heap[w.heap.size + 1]? = some B ∧ WL.heap[w.heap.size + 2]? = some C := by
  subst h
  refine ⟨by simp, (((Below.refl _ w).alloc (Nat.le_refl _) _).alloc (by simp) _).alloc (by simp only [World.size_alloc]; omega) _, ?_, ?_, ?_⟩
  · exact (Below.heap_alloc _ _ _ (by simp; omega)).trans ((Below.heap_alloc _ _ _ (by simp)).trans (alloc_top _ _))
  · have := alloc_top (w.alloc A) B
    rw [World.size_alloc] at this
    exact (Below.heap_alloc _ _ _ (by simp)).trans this
  · have := alloc_top ((w.alloc A).alloc B) C
    rwa [World.size_alloc, World.size_alloc] at this

theorem four (w : World) (A B C E : Obj) (WL : World) (h : WL = (((w.alloc A).alloc B).alloc C).alloc E) : WL.heap.size = w.heap.size + 4 ∧ Below w.heap.size w WL ∧ WL.heap[w.heap.size]? = some A ∧ WL.heap[w.heap.size + 1]? = some B ∧ WL.heap[w.heap.size + 2]? = some C ∧ WL.heap[w.heap.size + 3]? = some E := by
  obtain ⟨h0, h1, h2, h3, h4⟩ := three w A B C _ rfl
  subst h
  refine ⟨by simp, h1.alloc (by simp only [World.size_alloc]; omega) _, (Below.heap_alloc _ _ _ (by rw [h0]; omega)).trans h2, (Below.heap_alloc _ _ _ (by rw [h0]; omega)).trans h3, (Below.heap_alloc _ _ _ (by rw [h0]; omega)).trans h4, ?_⟩
  have := alloc_top (((w.alloc A).alloc B).alloc C) E
  rwa [h0] at this

theorem heap_drew (w : World) : w.drew.heap = w.heap := rfl
theorem kept_drew {n₀ B : Nat} {W W' : World} (h : Kept n₀ B W W') : Kept n₀ B W W'.drew := ⟨h.size, h.low, h.high⟩

end Go.Proofs.YtjofmoebijdccaaGreat.data

namespace Go.Proofs.YtjofmoebijdccaaGreat.rose
open Go Go.RowKit
set_option linter.unusedVariables false

theorem shrink {w : World} {base : Nat} {t : TypeId} {k j cap g : Nat} {xs : List Value} (h : w.ownsRow base t k (.slice (some ⟨g, 0, none⟩) (j + 1) cap) (j + 1) xs) : w.ownsRow base t k (.slice (some ⟨g, 0, none⟩) j cap) j (xs.take (j * k)) := by
  obtain ⟨hl, hv⟩ := h
  have hle : j * k ≤ (j + 1) * k := Nat.mul_le_mul_right _ (by omega)
  refine ⟨by rw [List.length_take, hl]; omega, Or.inr ?_⟩
  rcases hv with ⟨h, _⟩ | ⟨g', cap', cur, h1, h2, h3, h4, h5, h6, h7⟩
  · cases h
  · cases h1
    exact ⟨g, cap, cur, rfl, h2, h3, by omega, h5, h6, by rw [← h7, List.take_take, Nat.min_eq_left hle]⟩

theorem flat_take (css : Nat → List Value) (n : Nat) {k : Nat} (h : ∀ i, i < n + 1 → (css i).length = k) : (flat css (n + 1)).take (n * k) = flat css n := by
  rw [flat_succ, List.take_left' (flat_length fun i hi => h i (by omega))]

theorem own_cell {w : World} {base : Nat} {t : TypeId} {k g n cap : Nat} {css : Nat → List Value} (h : w.ownsRow base t k (.slice (some ⟨g, 0, none⟩) n cap) n (flat css n)) (hl : ∀ i, i < n → (css i).length = k) {i q : Nat} {v : Value} (hi : i < n) (hq : (css i)[q]? = some v) : w.cell? ⟨g, i * k + q, none⟩ = some v := by
  rcases h.2 with ⟨h, _⟩ | ⟨g', cap', cur, h1, h2, h3, h4, h5, h6, h7⟩
  · cases h
  · cases h1
    have hqk : q < k := by
      rcases Nat.lt_or_ge q k with h' | h'
      · exact h'
      · rw [List.getElem?_eq_none (by rw [hl i hi]; exact h')] at hq; cases hq
    have hf := flat_get (css := css) (n := n) (k := k) hl hi hqk
    rw [hq, ← h7, List.getElem?_take] at hf
    have hlt : i * k + q < n * k := by
      have := Nat.mul_le_mul_right k (show i + 1 ≤ n by omega)
      rw [Nat.succ_mul] at this; omega
    rw [if_pos hlt] at hf
    simp only [World.cell?, h3]
    rw [Array.getElem?_toList] at hf
    exact hf

theorem row_on {w w' : World} {base : Nat} {t : TypeId} {k n : Nat} {v : Value} {xs : List Value} (h : w.ownsRow base t k v n xs) (hb : ∀ g, base ≤ g → g < w.heap.size → w'.heap[g]? = w.heap[g]?) : w'.ownsRow base t k v n xs := by
  obtain ⟨hl, hv⟩ := h
  refine ⟨hl, ?_⟩
  rcases hv with h0 | ⟨g, cap, cur, h1, h2, h3, h4⟩
  · exact Or.inl h0
  · have hg : g < w.heap.size := by
      rcases Nat.lt_or_ge g w.heap.size with h' | h'
      · exact h'
      · rw [Array.getElem?_eq_none h'] at h3; cases h3
    exact Or.inr ⟨g, cap, cur, h1, h2, by rw [hb g h2 hg]; exact h3, h4⟩

/-- An append of one cell to the call's own row, inside a fence: what comes of it is a slice. -/
theorem append_oneIn {F : Fence} {nF : Nat} {P : Program} (w : World) {ops : Array Oper} {rest : List Oper} {o : Oper} {a : Act} {Q : Exit → Act → World → Prop} (hgd : o.guard = none) (s x : Operand) (t : TypeId)
    (ho : o.op = .call { callee := .builtin .append, args := #[s, x], argTypes := #[t, t] })
    (base : Nat) (e : TypeId) (i : TypeInfo) (z : Value) (bytes : Nat) (ht : P.underlying t = some (.slice e)) (hi : P.info? e = some i) (hz : i.zero = some z)
    (hsize : i.size = 1) (hby : i.bytes = bytes) (hzs : z.cells.size = 1)
    (v : Value) (n : Nat) (xs : List Value) (hs : a.eval s = v) (hown : w.ownsRow base e 1 v n xs)
    (ad : Addr) (c : Nat) (y : Value) (hx : a.eval x = .slice (some ad) 1 c) (hnews : ∀ j u, [y][j]? = some u → w.cell? (ad.add j) = some u) (h1 : y.oneCell' = true)
    (h63 : n + 1 ≤ maxLen) (hbytes : (n + 1) * bytes ≤ 140737488355328) (hbase : base ≤ w.heap.size)
    (h : ∀ a' l' c' w', w'.ownsRow base e 1 (.slice a' l' c') (n + 1) (xs ++ [y]) → w.grownBy w' v.ownBlock → wpListIn F nF P ops Q rest (a.put o.dst (.slice a' l' c')) w') :
    wpListIn F nF P ops Q (o :: rest) a w :=
  wpListIn_append_own_at w hgd s x t ho base e i z 1 bytes ht hi hz hsize hby hzs (by decide) v n xs hs hown ad 1 c [y] hx rfl hnews (by simp [h1]) h63 hbytes hbase fun v' w' hown' hg _ _ => by
    obtain ⟨a', l', c', rfl⟩ : ∃ a' l' c', v' = .slice a' l' c' := by
      rcases hown'.2 with ⟨rfl, _⟩ | ⟨_, _, _, rfl, _⟩
      · exact ⟨_, _, _, rfl⟩
      · exact ⟨_, _, _, rfl⟩
    exact h a' l' c' w' hown' hg

/-- One cell, whatever it is. -/
def valSh : Sh Value where
  k := 1
  rep := fun _ _ cs v => cs = [v] ∧ v.oneCell' = true
  len := by rintro _ _ _ _ ⟨rfl, _⟩; rfl
  on := fun h _ => h
  mono := fun h _ => h
  one := by rintro _ _ _ _ ⟨rfl, h⟩ v hv; simp at hv; subst hv; exact h

/-- A kind of data of which cells tell one alone. -/
def Sh.Sole {α : Type} (A : Sh α) : Prop := ∀ w S S' cs x x', A.rep w S cs x → A.rep w S' cs x' → x = x'

theorem Sh.int_sole : Sh.int.Sole := by
  rintro w S S' cs x x' ⟨rfl, _⟩ ⟨h, _⟩
  simpa using h
theorem Sh.str_sole : Sh.str.Sole := by
  rintro w S S' cs x x' ⟨rfl, _⟩ ⟨h, _⟩
  simpa using h
theorem Sh.Sole.pair {α β : Type} {A : Sh α} {B : Sh β} (hA : A.Sole) (hB : B.Sole) : (A.pair B).Sole := by
  rintro w S S' cs ⟨x1, x2⟩ ⟨y1, y2⟩ ⟨c1, c2, rfl, h1, h2⟩ ⟨d1, d2, e, g1, g2⟩
  have hl : c1.length = d1.length := by rw [A.len h1, A.len g1]
  obtain ⟨rfl, rfl⟩ := List.append_inj e hl
  have e1 : x1 = y1 := hA _ _ _ _ _ _ h1 g1
  have e2 : x2 = y2 := hB _ _ _ _ _ _ h2 g2
  rw [e1, e2]

theorem cells_eq {w : World} {b o : Nat} {cs cs' : List Value} (h : CellsAt w b o cs) (h' : CellsAt w b o cs') (hl : cs.length = cs'.length) : cs = cs' := by
  apply List.ext_getElem hl
  intro j h1 h2
  have e1 := h j _ (List.getElem?_eq_getElem h1)
  have e2 := h' j _ (List.getElem?_eq_getElem h2)
  rw [e1] at e2
  exact Option.some.inj e2

theorem Sh.Sole.rose {α : Type} {A : Sh α} (hA : A.Sole) : A.rose.Sole := by
  intro w S S' cs x x' h
  induction h generalizing x' with
  | @mk ps x a cap kids css hp hcap hmax hnone hat hk ih =>
    intro h'
    obtain ⟨y, kids'⟩ := x'
    obtain ⟨ps', kc, e, hp', a', cap', css', rfl, hcap', hmax', hnone', hat', hk'⟩ := rose_iff.1 h'
    have hl : ps.length = ps'.length := by rw [A.len hp, A.len hp']
    obtain ⟨rfl, e2⟩ := List.append_inj e hl
    simp only [List.cons.injEq, Value.slice.injEq, and_true] at e2
    obtain ⟨rfl, hlen, rfl⟩ := e2
    have e1 : x = y := hA _ _ _ _ _ _ hp hp'
    have e3 : kids = kids' := by
      apply List.ext_getElem hlen
      intro j h1 h2
      obtain ⟨b, o, ea, _, hc⟩ := hat j h1
      obtain ⟨b', o', ea', _, hc'⟩ := hat' j h2
      rw [ea] at ea'
      cases ea'
      have he := cells_eq hc hc' (by rw [A.rose.len (hk j h1), A.rose.len (hk' j h2)])
      exact ih j h1 _ (by rw [he]; exact hk' j h2)
    rw [e1, e3]

theorem Sh.Sole.take {α : Type} {A : Sh α} (hA : A.Sole) {w : World} {S S' : Nat → Prop} {a : Addr} {n n' c c' : Nat} {xs xs' : List α} (h : A.slice.rep w S [.slice (some a) n c] xs) (h' : A.slice.rep w S' [.slice (some a) n' c'] xs') (hn : n ≤ n') : xs = xs'.take n := by
  obtain ⟨a1, c1, css, e, hcap, hmax, hnone, hat, hk⟩ := h
  obtain ⟨a2, c2, css', e', hcap', hmax', hnone', hat', hk'⟩ := h'
  simp only [List.cons.injEq, Value.slice.injEq, and_true] at e e'
  obtain ⟨rfl, hl, rfl⟩ := e
  obtain ⟨ea, hl', rfl⟩ := e'
  subst ea
  apply List.ext_getElem (by rw [List.length_take]; omega)
  intro j h1 h2
  rw [List.getElem_take]
  obtain ⟨b, o, ea, _, hc⟩ := hat j h1
  obtain ⟨b', o', ea', _, hc'⟩ := hat' j (by omega)
  rw [ea] at ea'
  cases ea'
  have he := cells_eq hc hc' (by rw [A.len (hk j h1), A.len (hk' j (by omega))])
  exact hA _ _ _ _ _ _ (hk j h1) (by rw [he]; exact hk' j (by omega))

end Go.Proofs.YtjofmoebijdccaaGreat.rose

/-
  The values that the model's laws draw (DrawValueText, DrawValueOk): some, in new memory that nothing froze, of a bounded weight.
  A value as text, and the model's ValueText, at every value; nothing that was there is turned.
  The contract of strconv.Itoa, laid at this program (the shelf's plain words): proved once over any program, applied here; no condition of our own.
-/
import Derived.Deep.RegionWith
import Derived.Laws.Strings
import Derived.Laws.IdiomStrings
import Derived.Deep.RegionHeld3
import Derived.Sort.AtCall
import Derived.Deep.QuietTactic
import Derived.BigQuiet
import Derived.WalkSmall
import Derived.Shelf.Strconv.Itoa0
import Derived.Shelf.Strconv.Itoa1
import Derived.Shelf.LaysM
import Derived.Shelf.Strconv.Itoa2
import Derived.Shelf.Strconv.Itoa3
import Derived.Test.YtlnpfnglphdaiaaGreatDoorProg
import Derived.Test.YtlnpfnglphdaiaaGreatDoorB1
import Derived.Test.YtlnpfnglphdaiaaGreatDoorB2
import Derived.Test.YtlnpfnglphdaiaaGreatDoorB3
import Derived.Test.YtlnpfnglphdaiaaGreatDoorB4
import Derived.Test.YtlnpfnglphdaiaaGreatDoorB5
import Derived.Test.YtlnpfnglphdaiaaGreatDoorB6
import Derived.Test.YtlnpfnglphdaiaaGreatDoorB7
import Derived.Test.YtlnpfnglphdaiaaGreatDoorB8
import Derived.Test.YtlnpfnglphdaiaaGreatDoorB9
import Derived.Test.YtlnpfnglphdaiaaGreatDoorB10
import Derived.Test.YtlnpfnglphdaiaaGreatDoorB11
import Derived.Test.YtlnpfnglphdaiaaGreatDoorB12
import Derived.Test.YtlnpfnglphdaiaaGreatDoorB13
import Derived.Test.YtlnpfnglphdaiaaGreatDoorB14
import Derived.Test.YtlnpfnglphdaiaaGreatDoorB15
import Derived.Test.YtlnpfnglphdaiaaGreatDoorB16
import Derived.Test.YtlnpfnglphdaiaaGreatDoorB17
import Derived.Test.YtlnpfnglphdaiaaGreatDoorB18
import Derived.Test.YtlnpfnglphdaiaaGreatDoorB19
import Derived.Test.YtlnpfnglphdaiaaGreatDoorB20
import Derived.Test.YtlnpfnglphdaiaaGreatDoorB21
import Derived.Test.YtlnpfnglphdaiaaGreatDoorB22
import Derived.Test.YtlnpfnglphdaiaaGreatDoorB23
import Derived.Test.YtlnpfnglphdaiaaGreatDoorB24
import Derived.Test.YtlnpfnglphdaiaaGreatDoorB25
import Derived.Test.YtlnpfnglphdaiaaGreatDoorB26
import Derived.Test.YtlnpfnglphdaiaaGreatDoorB27
import Derived.Test.YtlnpfnglphdaiaaGreatDoorB28
import Derived.Test.YtlnpfnglphdaiaaGreatDoorB29
import Derived.Test.YtlnpfnglphdaiaaGreatDoorB30
import Derived.Test.YtlnpfnglphdaiaaGreatDoorB31
import Derived.Test.YtlnpfnglphdaiaaGreatDoorB32
namespace Go.Proofs.YtlnpfnglphdaiaaGreatDoor.value
open Go Go.RowKit Go.Deep Go.Proofs.YtlnpfnglphdaiaaGreatDoor.rose Go.Proofs.YtlnpfnglphdaiaaGreatDoor Go.Proofs.YtlnpfnglphdaiaaGreatDoor.cur
set_option linter.unusedVariables false
set_option linter.unusedSimpArgs false

set_option maxRecDepth 100000 in
set_option maxHeartbeats 8000000 in
theorem drawText_any (a : Option Addr) (len cap : Nat) (w : World) (hC : cur.Code w.heap.size w a len) : Calls Tryz.prog 5 #[.slice a len cap] w fun e w' => (∃ (cs : List Value) (T : ValueD), e = .returned (.agg cs.toArray) ∧ valueP.rep w' (fun b => w.heap.size ≤ b ∧ b < w'.heap.size) cs T ∧ wt T ≤ 80) ∧ Below w.heap.size w w' := by
  obtain ⟨w0, hw0⟩ : ∃ w0, w0 = w.alloc (.cells #[.int .i64 0, .int .i64 0, .string ⟨#[]⟩, .slice none 0 0] 26) := ⟨_, rfl⟩
  have HW0 : Hid (w0 = w.alloc (.cells #[.int .i64 0, .int .i64 0, .string ⟨#[]⟩, .slice none 0 0] 26)) := hw0
  have b0 : Below w.heap.size w w0 := by rw [hw0]; exact (Below.refl _ _).alloc (Nat.le_refl _) _
  have z0 : w.heap.size + 1 ≤ w0.heap.size ∧ w0.heap.size ≤ w.heap.size + 1 := by rw [hw0]; simp
  have P0 : Hid (w0.heap[w.heap.size]? = some (.cells #[.int .i64 0, .int .i64 0, .string ⟨#[]⟩, .slice none 0 0] 26)) := by show _ = _; rw [hw0]; exact alloc_top _ _
  have HX := new_any a len cap w.heap.size w0 (hC.of_cells fun ad had => World.cell?_of_block (b0.block ad.block had)) (by omega)
  have B0 : Hid (Below w.heap.size w w0) := b0
  clear hw0 hC b0
  go_enter Tryz.func5, Tryz.ntmps5
  go_wp2_with fail
  rw [← HW0.out]
  refine HX.mono ?_
  rintro e w1 ⟨rfl, hc1, hg1, hs1⟩
  replace hs1 := Nat.le_of_eq hs1.symm
  have P1 : Hid (w1.heap[w.heap.size]? = some (.cells #[.int .i64 0, .int .i64 0, .string ⟨#[]⟩, .slice none 0 0] 26)) := (hg1.block _ (by omega) (by simp)).trans P0.out
  have B1 : Hid (Below w.heap.size w w1) := B0.out.grown hg1 B0.out.size (fun k hk => by cases hk)
  have HX2 := v10_any w.heap.size w0.heap.size w1 hc1
  clear HX hc1 hg1
  go_wp2_with fail
  refine HX2.mono ?_
  rintro e w2 ⟨cs, T, rfl, hr, hw, hc2, hg2⟩
  obtain ⟨x0, x1, x2, xk, xa, xc, hTT, rfl, -, -, -, -⟩ := value_open (Sh.bare hr)
  clear hTT
  obtain ⟨xl, hxl⟩ : ∃ n, n = xk.length := ⟨_, rfl⟩
  rw [← hxl] at hr ⊢
  clear hxl
  have P2 : Hid (w2.heap[w.heap.size]? = some (.cells #[.int .i64 0, .int .i64 0, .string ⟨#[]⟩, .slice none 0 0] 26)) := (hg2.block _ (by omega) (fun e => by simp only [Option.some.injEq] at e; omega)).trans P1.out
  have HH : Hid (valueP.rep w2 (fun b => w1.heap.size ≤ b ∧ b < w2.heap.size) [.int .i64 x0, .int .i64 x1, .string x2, .slice xa xl xc] T ∧ wt T ≤ 80 ∧ Below w.heap.size w w2 ∧ w.heap.size < w1.heap.size) := ⟨hr, hw, B1.out.grown hg2 B1.out.size (fun k hk => by simp only [Option.some.injEq] at hk; omega), by omega⟩
  have r0 : w2.cell? ⟨w.heap.size, 0, none⟩ = some (.int .i64 0) := dblk (i := 0) P2.out rfl
  have r1 : w2.cell? ⟨w.heap.size, 1, none⟩ = some (.int .i64 0) := dblk (i := 1) P2.out rfl
  have r2 : w2.cell? ⟨w.heap.size, 2, none⟩ = some (.string ⟨#[]⟩) := dblk (i := 2) P2.out rfl
  have r3 : w2.cell? ⟨w.heap.size, 3, none⟩ = some (.slice none 0 0) := dblk (i := 3) P2.out rfl
  have fr : ∀ o, w2.frozen? ⟨w.heap.size, o, none⟩ = false := fun o => dfree P2.out
  clear HX2 hr hw hc2 hg2
  go_wp2
  refine bodyPost_ret (v := .agg #[.int .i64 x0, .int .i64 x1, .string x2, .slice xa xl xc]) (by simp [results, Tryz.f5, go_sem, r0, r1, r2, r3]) rfl ?_
  refine ⟨⟨[.int .i64 x0, .int .i64 x1, .string x2, .slice xa xl xc], T, rfl, ?_, HH.out.2.1⟩, ?_⟩
  · have h1 := HH.out.2.2.2
    exact valueP.mono (valueP.on HH.out.1 fun b hS => by repeat rw [Below.heap_setCell _ _ _ _ (by simp; omega)]) fun b hS => ⟨by omega, by simp [World.setCell]; exact hS.2⟩
  · repeat first | with_reducible exact HH.out.2.2.1 | (refine Below.setCell ?_ (by first | (simp; done) | (simp; omega)) _)

set_option maxRecDepth 100000 in
set_option maxHeartbeats 8000000 in
theorem drawOk_any (a : Option Addr) (len cap : Nat) (w : World) (hC : cur.Code w.heap.size w a len) : Calls Tryz.prog 6 #[.slice a len cap] w fun e w' => (∃ (v : Value) (ks : List data.DataD) (cs : List Value) (T : ValueD), e = .returned (.tuple #[v, .agg cs.toArray]) ∧ tok.dataPs.rep w' (fun b => w.heap.size ≤ b ∧ b < w'.heap.size) [v] ks ∧ ks.length + data.wts ks ≤ 40000 ∧ valueP.rep w' (fun b => w.heap.size ≤ b ∧ b < w'.heap.size) cs T ∧ wt T ≤ 80) ∧ Below w.heap.size w w' := by
  obtain ⟨w0, hw0⟩ : ∃ w0, w0 = w.alloc (.cells #[.int .i64 0, .int .i64 0, .string ⟨#[]⟩, .slice none 0 0] 26) := ⟨_, rfl⟩
  have HW0 : Hid (w0 = w.alloc (.cells #[.int .i64 0, .int .i64 0, .string ⟨#[]⟩, .slice none 0 0] 26)) := hw0
  have b0 : Below w.heap.size w w0 := by rw [hw0]; exact (Below.refl _ _).alloc (Nat.le_refl _) _
  have z0 : w.heap.size + 1 ≤ w0.heap.size ∧ w0.heap.size ≤ w.heap.size + 1 := by rw [hw0]; simp
  have P0 : Hid (w0.heap[w.heap.size]? = some (.cells #[.int .i64 0, .int .i64 0, .string ⟨#[]⟩, .slice none 0 0] 26)) := by show _ = _; rw [hw0]; exact alloc_top _ _
  have HX := tok.datas_any w0
  have HC : Hid (cur.Code w.heap.size w a len) := hC
  have B0 : Hid (Below w.heap.size w w0) := b0
  clear hw0 hC b0
  go_enter Tryz.func6, Tryz.ntmps6
  go_wp2_with fail
  rw [← HW0.out]
  refine HX.mono ?_
  rintro e wd ⟨⟨v, ks, rfl, hd, hdw⟩, hbd⟩
  obtain ⟨va, vc, hv⟩ := slice_cells hd
  simp only [List.cons.injEq, and_true] at hv
  subst hv
  have zd := hbd.size
  have BD : Hid (Below w.heap.size w wd) := B0.out.trans (hbd.mono B0.out.size)
  have PD : Hid (wd.heap[w.heap.size]? = some (.cells #[.int .i64 0, .int .i64 0, .string ⟨#[]⟩, .slice none 0 0] 26)) := (hbd.block _ (by omega)).trans P0.out
  have RD : Hid (tok.dataPs.rep wd (fun b => w.heap.size < b ∧ b < wd.heap.size) [.slice va ks.length vc] ks ∧ ks.length + data.wts ks ≤ 40000) := ⟨tok.dataPs.mono hd fun b hS => ⟨by omega, hS.2⟩, hdw⟩
  have HX2 := new_any a len cap w.heap.size wd (HC.out.of_cells fun ad had => World.cell?_of_block (BD.out.block ad.block had)) (by omega)
  clear HX hd hdw hbd
  go_wp2_with fail
  refine HX2.mono ?_
  rintro e w1 ⟨rfl, hc1, hg1, hs1⟩
  replace hs1 := Nat.le_of_eq hs1.symm
  have P1 : Hid (w1.heap[w.heap.size]? = some (.cells #[.int .i64 0, .int .i64 0, .string ⟨#[]⟩, .slice none 0 0] 26)) := (hg1.block _ (by omega) (by simp)).trans PD.out
  have B1 : Hid (Below w.heap.size w w1) := BD.out.grown hg1 BD.out.size (fun k hk => by cases hk)
  have R1 : Hid (tok.dataPs.rep w1 (fun b => w.heap.size < b ∧ b < wd.heap.size) [.slice va ks.length vc] ks) := tok.dataPs.on RD.out.1 fun b hS => hg1.block b hS.2 (by simp)
  have HX := v10_any w.heap.size wd.heap.size w1 hc1
  clear HX2 hc1 hg1
  go_wp2_with fail
  refine HX.mono ?_
  rintro e w2 ⟨cs, T, rfl, hr, hw, hc2, hg2⟩
  obtain ⟨x0, x1, x2, xk, xa, xc, hTT, rfl, -, -, -, -⟩ := value_open (Sh.bare hr)
  clear hTT
  obtain ⟨xl, hxl⟩ : ∃ n, n = xk.length := ⟨_, rfl⟩
  rw [← hxl] at hr ⊢
  clear hxl
  have P2 : Hid (w2.heap[w.heap.size]? = some (.cells #[.int .i64 0, .int .i64 0, .string ⟨#[]⟩, .slice none 0 0] 26)) := (hg2.block _ (by omega) (fun e => by simp only [Option.some.injEq] at e; omega)).trans P1.out
  have z2 := hg2.size
  have HH : Hid (valueP.rep w2 (fun b => w1.heap.size ≤ b ∧ b < w2.heap.size) [.int .i64 x0, .int .i64 x1, .string x2, .slice xa xl xc] T ∧ wt T ≤ 80 ∧ Below w.heap.size w w2 ∧ w.heap.size < w1.heap.size ∧ tok.dataPs.rep w2 (fun b => w.heap.size < b ∧ b < w2.heap.size) [.slice va ks.length vc] ks ∧ ks.length + data.wts ks ≤ 40000) := ⟨hr, hw, B1.out.grown hg2 B1.out.size (fun k hk => by simp only [Option.some.injEq] at hk; omega), by omega, tok.dataPs.mono (tok.dataPs.on R1.out fun b hS => hg2.block b (by omega) (fun e => by simp only [Option.some.injEq] at e; omega)) fun b hS => ⟨hS.1, by omega⟩, RD.out.2⟩
  have r0 : w2.cell? ⟨w.heap.size, 0, none⟩ = some (.int .i64 0) := dblk (i := 0) P2.out rfl
  have r1 : w2.cell? ⟨w.heap.size, 1, none⟩ = some (.int .i64 0) := dblk (i := 1) P2.out rfl
  have r2 : w2.cell? ⟨w.heap.size, 2, none⟩ = some (.string ⟨#[]⟩) := dblk (i := 2) P2.out rfl
  have r3 : w2.cell? ⟨w.heap.size, 3, none⟩ = some (.slice none 0 0) := dblk (i := 3) P2.out rfl
  have fr : ∀ o, w2.frozen? ⟨w.heap.size, o, none⟩ = false := fun o => dfree P2.out
  clear HX hr hw hc2 hg2 z2 zd R1 RD
  go_wp2
  refine bodyPost_ret (v := .tuple #[.slice va ks.length vc, .agg #[.int .i64 x0, .int .i64 x1, .string x2, .slice xa xl xc]]) (by simp [results, Tryz.f6, go_sem, r0, r1, r2, r3]) rfl ?_
  have h1 := HH.out.2.2.2.1
  refine ⟨⟨_, ks, [.int .i64 x0, .int .i64 x1, .string x2, .slice xa xl xc], T, rfl, ?_, HH.out.2.2.2.2.2, ?_, HH.out.2.1⟩, ?_⟩
  · exact tok.dataPs.mono (tok.dataPs.on HH.out.2.2.2.2.1 fun b hS => by repeat rw [Below.heap_setCell _ _ _ _ (by simp; omega)]) fun b hS => ⟨by omega, by simp [World.setCell]; exact hS.2⟩
  · exact valueP.mono (valueP.on HH.out.1 fun b hS => by repeat rw [Below.heap_setCell _ _ _ _ (by simp; omega)]) fun b hS => ⟨by omega, by simp [World.setCell]; exact hS.2⟩
  · repeat first | with_reducible exact HH.out.2.2.1 | (refine Below.setCell ?_ (by first | (simp; done) | (simp; omega)) _)

end Go.Proofs.YtlnpfnglphdaiaaGreatDoor.value

namespace Go.Proofs.YtlnpfnglphdaiaaGreatDoor.vt
open Go Go.RowKit Go.Proofs.YtlnpfnglphdaiaaGreatDoor.rose Go.Proofs.YtlnpfnglphdaiaaGreatDoor.value Go.Proofs.YtlnpfnglphdaiaaGreatDoor
set_option linter.unusedVariables false
set_option linter.unusedSimpArgs false

/-- Bytes as a text. -/
def str (l : List UInt8) : ByteArray := ⟨l.toArray⟩
theorem str_append (a b : List UInt8) : str a ++ str b = str (a ++ b) := by
  apply ByteArray.ext
  simp [str, ByteArray.data_append]
theorem str_of (s : ByteArray) : s = str s.data.toList := by simp [str]
theorem str_size (l : List UInt8) : (str l).size = l.length := by simp [str, ByteArray.size]

/-- The numeral of an int. -/
def dg (n : Int) : List UInt8 := if -9223372036854775808 ≤ n ∧ n ≤ 9223372036854775807 then Lib.itoa n else []
theorem dg_in {n : Int} (h : -9223372036854775808 ≤ n ∧ n ≤ 9223372036854775807) : dg n = Lib.itoa n := by unfold dg; rw [if_pos h]
theorem dg_len (n : Int) : (dg n).length ≤ 21 := by
  unfold dg
  split
  · rename_i h; exact Lib.itoa_length_le n h.1 h.2
  · simp

mutual
def tl : ValueD → List UInt8
  | .mk (op, n, s) ks =>
    if op = 1 then dg n
    else if op = 2 then (if ks.length = 0 then s.data.toList else [40] ++ (s.data.toList ++ (tlS ks).flatMap fun t => 32 :: t) ++ [41])
    else [102, 117, 110]
def tlS : List ValueD → List (List UInt8)
  | [] => []
  | k :: ks => tl k :: tlS ks
end

theorem tlS_eq (ks : List ValueD) : tlS ks = ks.map tl := by
  induction ks with
  | nil => rfl
  | cons k ks ih => simp [tlS, ih]

theorem tl_le (T : ValueD) : (tl T).length ≤ 24 * wt T + 21 := by
  induction T using ind with
  | h x ks ih =>
    obtain ⟨op, n, s⟩ := x
    have hs : s.data.toList.length = s.size := by rw [Array.length_toList]; rfl
    have hsum : ((tlS ks).flatMap fun t => 32 :: t).length ≤ 22 * ks.length + 24 * wts ks := by
      rw [tlS_eq]
      clear hs op n s
      induction ks with
      | nil => simp
      | cons k ks ih2 =>
        have h1 := ih k (by simp)
        have h2 := ih2 fun q hq => ih q (by simp [hq])
        simp only [List.map_cons, List.flatMap_cons, List.length_append, List.length_cons, wts]
        omega
    have hz : ks.length = 0 ∨ 1 ≤ ks.length := by omega
    simp only [tl, wt]
    split
    · have := dg_len n; omega
    · split
      · split
        · omega
        · simp only [List.length_append, List.length_cons, List.length_nil]
          omega
      · simp only [List.length_cons, List.length_nil]; omega

theorem flat_le (ks : List ValueD) : ((tlS ks).flatMap fun t => 32 :: t).length ≤ 22 * ks.length + 24 * wts ks := by
  rw [tlS_eq]
  induction ks with
  | nil => simp
  | cons k ks ih2 =>
    have h1 := tl_le k
    simp only [List.map_cons, List.flatMap_cons, List.length_append, List.length_cons, wts]
    omega
theorem flatTake_le (ks : List ValueD) (i : Nat) : (((tlS ks).take i).flatMap fun t => 32 :: t).length ≤ 22 * ks.length + 24 * wts ks := by
  refine Nat.le_trans ?_ (flat_le ks)
  conv => rhs; rw [← List.take_append_drop i (tlS ks)]
  rw [List.flatMap_append, List.length_append]
  omega
theorem flatTake_succ (ks : List ValueD) {i : Nat} (h : i < ks.length) : (((tlS ks).take (i + 1)).flatMap fun t => 32 :: t) = (((tlS ks).take i).flatMap fun t => 32 :: t) ++ (32 :: tl ks[i]) := by
  rw [tlS_eq, List.take_succ_eq_append_getElem (by simpa using h), List.flatMap_append]
  simp

def TextSays (T : ValueD) : Prop := ∀ cs w, wt T ≤ 1048576 → valueSh.rep w (· < w.heap.size) cs T →
  Calls Tryz.prog 8 #[.agg cs.toArray] w fun e w' => e = .returned (.string (str (tl T))) ∧ Below w.heap.size w w'

set_option maxRecDepth 100000 in
set_option maxHeartbeats 4000000 in
theorem specValueText (T : ValueD) : TextSays T := by
  induction T using ind with
  | h x ks ih =>
    intro cs w hw h
    obtain ⟨op, n, s, ks', a, cap, hT, rfl, f0, f1, f2, fk⟩ := value_open h
    cases hT
    obtain ⟨a', cap', css, e, -, hmax, hrow, hk⟩ := values_open fk
    cases e
    clear h
    have hle : ks.length + wts ks ≤ 1048576 := by simp [wt] at hw; omega
    have IH : Hid (∀ k ∈ ks, TextSays k) := ih
    have HR : Hid (RowAt w (· < w.heap.size) 4 a ks.length css ∧ ∀ i (h : i < ks.length), valueSh.rep w (· < w.heap.size) (css i) ks[i]) := ⟨hrow, hk⟩
    have HSZ : Hid (s.size ≤ 1048576) := by simp [wt] at hw; show _ ≤ _; omega
    clear ih hrow hk hmax hw fk
    obtain ⟨q, hq⟩ : ∃ q, q = tl (.mk (op, n, s) ks) := ⟨_, rfl⟩
    have HQ : Hid (q = tl (.mk (op, n, s) ks)) := hq
    rw [← hq]
    clear hq
    have B0 : Hid (Below w.heap.size w (w.alloc (.cells #[.int .i64 op, .int .i64 n, .string s, .slice a ks.length cap] 26))) := (Below.refl _ _).alloc (Nat.le_refl _) _
    go_enter Tryz.func8, Tryz.ntmps8
    by_cases h1 : op = 1
    · subst h1
      have HV : Hid (q = Lib.itoa n) := by show _ = _; rw [HQ.out]; simp [tl, dg_in f1]
      go_wp2_with fail
      refine (walks.digits_any n f1.1 f1.2 _).mono ?_
      rintro e w1 ⟨rfl, hb⟩
      have B1 : Hid (Below w.heap.size w w1) := B0.out.trans (hb.mono B0.out.size)
      clear hb
      go_wp2
      go_ret
      exact ⟨by rw [HV.out]; rfl, B1.out⟩
    · have h1' : (op == 1) = false := by simpa using h1
      by_cases h4 : op = 2
      · subst h4
        have hsd : s.data.toList.length ≤ 1048576 := by rw [Array.length_toList]; exact HSZ.out
        have HV : Hid (q = if ks.length = 0 then s.data.toList else ([40] : List UInt8) ++ (s.data.toList ++ (tlS ks).flatMap fun t => 32 :: t) ++ ([41] : List UInt8)) := by
          show _ = _
          rw [HQ.out]
          simp only [tl]
          rfl
        clear B0
        go_wp2
        generalize hw0 : w.alloc _ = w0
        have W0 : Hid (Below w.heap.size w w0 ∧ w0.cell? ⟨w.heap.size, 3, none⟩ = some (.slice a ks.length cap) ∧ w.heap.size < w0.heap.size) := by
          subst hw0
          exact ⟨(Below.refl _ _).alloc (Nat.le_refl _) _, by simp, by simp⟩
        clear hw0
        go_loopw [3, 4] (fun v3 v4 wr => ∃ (i : Nat) (t : ByteArray), i ≤ ks.length ∧ v4 = .int .i64 i ∧ v3 = .string t ∧ Hid (t = str (s.data.toList ++ ((tlS ks).take i).flatMap fun t => 32 :: t)) ∧ Hid (Below w.heap.size w wr ∧ wr.cell? ⟨w.heap.size, 3, none⟩ = some (.slice a ks.length cap) ∧ w.heap.size < wr.heap.size)) (fun _ v4 _ => ks.length - (intOf v4).toNat)
        case atStart => exact ⟨0, s, Nat.zero_le _, rfl, rfl, by show _ = _; simp only [List.take_zero, List.flatMap_nil, List.append_nil]; exact str_of s, W0⟩
        case round =>
          obtain ⟨i, t, hi, rfl, rfl, HT, HB⟩ := hrel
          have c3 := HB.out.2.1
          have htz : t.size ≤ 33554432 := by
            rw [HT.out, str_size, List.length_append]
            have := flatTake_le ks i
            omega
          by_cases hlt : i < ks.length
          · obtain ⟨b, o, rfl, hS, hc⟩ := HR.out.1 i hlt
            have hrep := HR.out.2 i hlt
            obtain ⟨v0, v1, v2, v3, hcs, d0, d1, d2, d3⟩ := value_cells hrep hc
            have BW := HB.out.1
            have e0 := (BW.cell (p := ⟨b, o + i * 4, none⟩) hS).trans d0
            have e1 := (BW.cell (p := ⟨b, o + i * 4 + 1, none⟩) hS).trans d1
            have e2 := (BW.cell (p := ⟨b, o + i * 4 + 2, none⟩) hS).trans d2
            have e3 := (BW.cell (p := ⟨b, o + i * 4 + 3, none⟩) hS).trans d3
            rw [hcs] at hrep
            clear d0 d1 d2 d3 hc hcs
            have hR := valueSh.mono (valueSh.below hrep BW) (S' := (· < wr.heap.size)) (fun b hb => Nat.lt_of_lt_of_le hb BW.size)
            have hcall := IH.out ks[i] (List.getElem_mem hlt) [v0, v1, v2, v3] wr (by have := wt_mem (List.getElem_mem hlt); omega) hR
            clear hR hrep BW
            have hzi : (str (tl ks[i])).size ≤ 33554432 := by rw [str_size]; have := tl_le ks[i]; have := wt_mem (List.getElem_mem hlt); omega
            have HT2 : Hid (t ++ ⟨#[32]⟩ ++ str (tl ks[i]) = str (s.data.toList ++ ((tlS ks).take (i + 1)).flatMap fun t => 32 :: t)) := by
              show _ = _
              rw [HT.out, flatTake_succ ks hlt, ← str_append, ← str_append, ← str_append]
              rw [show (32 :: tl ks[i]) = [32] ++ tl ks[i] from rfl, ← str_append]
              apply ByteArray.ext
              simp [ByteArray.data_append, str]
            generalize str (tl ks[i]) = ti at hcall hzi HT2
            have z1 : ¬ (9223372036854775807 < t.size + 1) := by omega
            have z2 : ¬ (9223372036854775807 < t.size + 1 + ti.size) := by omega
            go_wp2_with fail
            refine hcall.mono ?_
            clear hcall
            rintro e w1 ⟨rfl, hb⟩
            have B1 : Hid (Below w.heap.size w w1 ∧ w1.cell? ⟨w.heap.size, 3, none⟩ = some (.slice (some ⟨b, o, none⟩) ks.length cap) ∧ w.heap.size < w1.heap.size) := ⟨HB.out.1.trans (hb.mono HB.out.1.size), (hb.cell (p := ⟨w.heap.size, 3, none⟩) HB.out.2.2).trans HB.out.2.1, Nat.lt_of_lt_of_le HB.out.2.2 hb.size⟩
            clear hb c3 e0 e1 e2 e3
            go_wp2
            go_round
            case rel => exact ⟨i + 1, _, by omega, by go_num, rfl, HT2, B1⟩
            case measure => simp [intOf]; omega
          · obtain rfl : i = ks.length := by omega
            have HT2 : Hid (t = str (s.data.toList ++ (tlS ks).flatMap fun t => 32 :: t)) := by
              have := HT.out
              rwa [List.take_of_length_le (by rw [tlS_eq]; simp)] at this
            by_cases hz : ks.length = 0
            · have HF : Hid (t = str q) := by
                show _ = _
                have hk0 : ks = [] := List.eq_nil_of_length_eq_zero hz
                rw [HT2.out, HV.out, if_pos hz, hk0]
                simp [tlS]
              rw [hz] at c3
              go_wp2
              go_ret
              exact ⟨congrArg (fun x => Ending.returned (.string x)) HF.out, HB.out.1⟩
            · have HF : Hid ((⟨#[40]⟩ : ByteArray) ++ t ++ ⟨#[41]⟩ = str q) := by
                show _ = _
                rw [HT2.out, HV.out, if_neg hz, ← str_append, ← str_append]; rfl
              have hpos : (0 : Int) < (ks.length : Nat) := by omega
              have z1 : ¬ (9223372036854775807 < 1 + t.size) := by omega
              have z2 : ¬ (9223372036854775807 < 1 + t.size + 1) := by omega
              go_wp2
              go_ret
              exact ⟨congrArg (fun x => Ending.returned (.string x)) HF.out, HB.out.1⟩
      · have h4' : (op == 2) = false := by simpa using h4
        have HV : Hid (q = [102, 117, 110]) := by
          show _ = _
          rw [HQ.out]
          simp only [tl, if_neg h1, if_neg h4]
        go_wp2
        go_ret
        exact ⟨by rw [HV.out]; rfl, B0.out⟩

end Go.Proofs.YtlnpfnglphdaiaaGreatDoor.vt

namespace Go.Proofs
open Go.Shelf
def Tryz.laysM171_ren : Go.Shelf.Ren := ⟨fun | 171 => 101 | 243 => 103 | 246 => 105 | 283 => 106 | 284 => 107 | 285 => 108 | 286 => 109 | 129 => 111 | 317 => 110 | 318 => 112 | 319 => 113 | 320 => 114 | 337 => 115 | 338 => 116 | n => n, fun | 3 => 3 | 9 => 9 | 2 => 2 | 4 => 4 | 171 => 189 | 0 => 0 | 53 => 190 | 37 => 22 | 5 => 5 | 173 => 193 | 212 => 197 | 51 => 198 | 20 => 20 | 213 => 199 | 46 => 134 | 232 => 202 | 233 => 203 | n => n, fun | 17 => 0 | 18 => 1 | 19 => 2 | n => n⟩
theorem Tryz.laysM171 : Go.Proofs.LaysM.n171 Tryz.prog Tryz.laysM171_ren := {
  mixed := by kernel_rfl
  f129 := Tryz.func111.trans (congrArg some (by kernel_rfl))
  f171 := Tryz.func101.trans (congrArg some (by kernel_rfl))
  f243 := Tryz.func103.trans (congrArg some (by kernel_rfl))
  f246 := Tryz.func105.trans (congrArg some (by kernel_rfl))
  f283 := Tryz.func106.trans (congrArg some (by kernel_rfl))
  f284 := Tryz.func107.trans (congrArg some (by kernel_rfl))
  f285 := Tryz.func108.trans (congrArg some (by kernel_rfl))
  f286 := Tryz.func109.trans (congrArg some (by kernel_rfl))
  f317 := Tryz.func110.trans (congrArg some (by kernel_rfl))
  f318 := Tryz.func112.trans (congrArg some (by kernel_rfl))
  f319 := Tryz.func113.trans (congrArg some (by kernel_rfl))
  f320 := Tryz.func114.trans (congrArg some (by kernel_rfl))
  f337 := Tryz.func115.trans (congrArg some (by kernel_rfl))
  f338 := Tryz.func116.trans (congrArg some (by kernel_rfl))
  t0 := Tryz.underlying0
  a0 := Tryz.isAgg0
  z0 := Tryz.sizeOf0
  v0 := Tryz.zeroValue0
  t2 := Tryz.underlying2
  a2 := Tryz.isAgg2
  z2 := Tryz.sizeOf2
  v2 := Tryz.zeroValue2
  t3 := Tryz.underlying3
  a3 := Tryz.isAgg3
  z3 := Tryz.sizeOf3
  v3 := Tryz.zeroValue3
  t4 := Tryz.underlying4
  a4 := Tryz.isAgg4
  z4 := Tryz.sizeOf4
  v4 := Tryz.zeroValue4
  t5 := Tryz.underlying5
  a5 := Tryz.isAgg5
  z5 := Tryz.sizeOf5
  v5 := Tryz.zeroValue5
  t9 := Tryz.underlying9
  a9 := Tryz.isAgg9
  z9 := Tryz.sizeOf9
  v9 := Tryz.zeroValue9
  t20 := Tryz.underlying20
  a20 := Tryz.isAgg20
  z20 := Tryz.sizeOf20
  v20 := Tryz.zeroValue20
  t37 := Tryz.underlying22
  a37 := Tryz.isAgg22
  z37 := Tryz.sizeOf22
  v37 := Tryz.zeroValue22
  t46 := Tryz.underlying134
  a46 := Tryz.isAgg134
  z46 := Tryz.sizeOf134
  v46 := Tryz.zeroValue134
  t51 := Tryz.underlying198
  a51 := Tryz.isAgg198
  z51 := Tryz.sizeOf198
  v51 := Tryz.zeroValue198
  t53 := Tryz.underlying190
  a53 := Tryz.isAgg190
  z53 := Tryz.sizeOf190
  v53 := Tryz.zeroValue190
  t171 := Tryz.underlying189
  a171 := Tryz.isAgg189
  z171 := Tryz.sizeOf189
  v171 := Tryz.zeroValue189
  t173 := Tryz.underlying193
  a173 := Tryz.isAgg193
  z173 := Tryz.sizeOf193
  v173 := Tryz.zeroValue193
  t212 := Tryz.underlying197
  a212 := Tryz.isAgg197
  z212 := Tryz.sizeOf197
  v212 := Tryz.zeroValue197
  t213 := Tryz.underlying199
  a213 := Tryz.isAgg199
  z213 := Tryz.sizeOf199
  t232 := Tryz.underlying202
  a232 := Tryz.isAgg202
  z232 := Tryz.sizeOf202
  v232 := Tryz.zeroValue202
  t233 := Tryz.underlying203
  a233 := Tryz.isAgg203
  z233 := Tryz.sizeOf203
  v233 := Tryz.zeroValue203
  g17 := by kernel_rfl
  g18 := by kernel_rfl
  g19 := by kernel_rfl
  i0 := by kernel_rfl
  i2 := by kernel_rfl
  i3 := by kernel_rfl
  i4 := by kernel_rfl
  i5 := by kernel_rfl
  i9 := by kernel_rfl
  i20 := by kernel_rfl
  i37 := by kernel_rfl
  i46 := by kernel_rfl
  i51 := by kernel_rfl
  i53 := by kernel_rfl
  i171 := by kernel_rfl
  i173 := by kernel_rfl
  i212 := by kernel_rfl
  i232 := by kernel_rfl
  i233 := by kernel_rfl
  m17 := by kernel_rfl
  m18 := by kernel_rfl
  m19 := by kernel_rfl }
open Go.RowKit Go.Sort Go.Lib in
/-- strconv.Itoa: "Itoa is equivalent to FormatInt(int64(i), 10).": i's DECIMAL NUMERAL ('Lib.itoa': a '-' where i is negative, then the digits), FOR EVERY int. The world behind the call: the world before it, new blocks behind the heap (the library's 'var a [24]byte'), draws. (LAID: no walk: one application.) -/
theorem Tryz.strconv_Itoa (n : Int) (h0 : -9223372036854775808 ≤ n) (h1 : n ≤ 9223372036854775807) (w : World) (htab : Lib.TabIs Tryz.prog w "internal/strconv.uint64pow10" .u64 Lib.pow10Tab) :
    Calls Tryz.prog 101 #[.int .i64 n] w fun e w' => e = .returned (.string ⟨(Lib.itoa n).toArray⟩) ∧ ∃ k os, w' = grow (w.drewN k) os := Any.strconv_Itoa Tryz.laysM171 n h0 h1 w htab
end Go.Proofs

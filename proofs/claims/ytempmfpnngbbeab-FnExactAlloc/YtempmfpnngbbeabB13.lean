/-
  The program's WordOk; nothing is turned.
  The program's header: headerOf, ok, size, word; nothing that was there is turned.
  The numbers under which this program holds sync.Mutex, and that it holds it; the atomic number's Load and Add.
  The program's heap at work (heldHeap): how it lies in memory; what its methods that only read answer.
-/
import Derived.Test.YtempmfpnngbbeabChecked
import Derived.WalkKit
import Derived.WalkLawsBesides
import Derived.OwnWalk
import Derived.Conc.MuLone
import Derived.Deep.QuietTactic
import Derived.BigQuiet
import Derived.Deep.RegionHeld3
import Derived.Test.YtempmfpnngbbeabB1
import Derived.Test.YtempmfpnngbbeabB2
import Derived.Test.YtempmfpnngbbeabB3
import Derived.Test.YtempmfpnngbbeabB4
import Derived.Test.YtempmfpnngbbeabB5
import Derived.Test.YtempmfpnngbbeabB6
import Derived.Test.YtempmfpnngbbeabB7
import Derived.Test.YtempmfpnngbbeabB8
import Derived.Test.YtempmfpnngbbeabB9
import Derived.Test.YtempmfpnngbbeabB10
import Derived.Test.YtempmfpnngbbeabB11
import Derived.Test.YtempmfpnngbbeabB12
namespace Go.Proofs.Ytempmfpnngbbeab.words
open Go Go.RowKit Go.Proofs.Ytempmfpnngbbeab Go.Proofs.Ytempmfpnngbbeab.fun
set_option linter.unusedVariables false
set_option linter.unusedSimpArgs false

theorem ret_bW {a b : Bool} (h : a = b) : Ending.returned (.bool a) = Ending.returned (.bool b) := by rw [h]
set_option maxHeartbeats 1000000 in
theorem wordI_is {n : Int} {b : Bool} {w : World} (h : inB n (-1073741824) 1073741823 = b) :
    Calls Try.prog 69 #[.int .i64 n] w fun e w' => e = .returned (.bool b) ∧ w' = w := by
  by_cases h1 : -1073741824 ≤ n
  · have h6 : decide (-1073741824 ≤ n) = true := decide_eq_true h1
    go_enter Try.func69, Try.ntmps69
    go_wp2
    go_ret
    exact ⟨ret_bW (by rw [← h]; simp only [inB, h6, Bool.true_and]), rfl⟩
  · have h2 : decide (-1073741824 ≤ n) = false := decide_eq_false h1
    go_enter Try.func69, Try.ntmps69
    go_wp2
    go_ret
    exact ⟨ret_bW (by rw [← h]; simp only [inB, h2, Bool.false_and]), rfl⟩

end Go.Proofs.Ytempmfpnngbbeab.words

namespace Go.Proofs.Ytempmfpnngbbeab.heap
open Go Go.RowKit Go.Proofs.Ytempmfpnngbbeab Go.Proofs.Ytempmfpnngbbeab.fun Go.Proofs.Ytempmfpnngbbeab.words
set_option linter.unusedVariables false
set_option linter.unusedSimpArgs false

/-- The tag as a shift tells it, which is cut downwards. -/
def tagS (x : Int) : Int := x / 2 / 2 / 64
def okHdr (tag many : Int) : Bool := decide (0 ≤ tag) && decide (tag ≤ 3000) && decide (many ≤ 20)

set_option maxHeartbeats 2000000 in
theorem headerOf_is (x : Int) (w : World) (h1 : -9223372036854775808 ≤ x) (h2 : x ≤ 9223372036854775807) :
    Calls Try.prog 48 #[.int .i64 x] w fun e w' => e = .returned (.agg #[.bool (funF x), .int .i64 (tagS x), .int .i64 (manyF x)]) ∧ Below w.heap.size w w' := by
  have ha := and_one (x / 2)
  have hb := and_63 (x / 2 / 2)
  have hf : (x / 2 % 2 == 1) = funF x := by unfold funF; rw [Bool.eq_iff_iff]; simp
  go_enter Try.func48, Try.ntmps48
  go_wp2
  refine bodyPost_ret (v := .agg #[.bool (funF x), .int .i64 (tagS x), .int .i64 (manyF x)]) (by simp [results, Try.f48, go_sem, tagS, manyF, hf]) rfl ?_
  refine ⟨rfl, ?_⟩
  exact (Below.refl _ _).alloc (Nat.le_refl _) _

set_option maxHeartbeats 2000000 in
theorem hdrOk_is (f : Bool) (tag many : Int) (w : World) :
    Calls Try.prog 51 #[.agg #[.bool f, .int .i64 tag, .int .i64 many]] w fun e w' => e = .returned (.bool (okHdr tag many)) ∧ Below w.heap.size w w' := by
  have BA : Hid (Below w.heap.size w (w.alloc (.cells #[.bool f, .int .i64 tag, .int .i64 many] 52))) := (Below.refl _ _).alloc (Nat.le_refl _) _
  rcases q1 : decide (0 ≤ tag) with _ | _
  · have HQ : Hid (okHdr tag many = false) := by show _ = _; unfold okHdr; rw [q1]; rfl
    go_enter Try.func51, Try.ntmps51
    go_wp2
    go_ret
    exact ⟨ret_b HQ.out.symm, BA.out⟩
  rcases q2 : decide (tag ≤ 3000) with _ | _
  · have HQ : Hid (okHdr tag many = false) := by show _ = _; unfold okHdr; rw [q1, q2]; rfl
    go_enter Try.func51, Try.ntmps51
    go_wp2
    go_ret
    exact ⟨ret_b HQ.out.symm, BA.out⟩
  rcases q3 : decide (many ≤ 20) with _ | _
  · have HQ : Hid (okHdr tag many = false) := by show _ = _; unfold okHdr; rw [q1, q2, q3]; rfl
    go_enter Try.func51, Try.ntmps51
    go_wp2
    go_ret
    exact ⟨ret_b HQ.out.symm, BA.out⟩
  · have HQ : Hid (okHdr tag many = true) := by show _ = _; unfold okHdr; rw [q1, q2, q3]; rfl
    go_enter Try.func51, Try.ntmps51
    go_wp2
    go_ret
    exact ⟨ret_b HQ.out.symm, BA.out⟩

set_option maxHeartbeats 2000000 in
theorem hdrSize_is (f : Bool) (tag many : Int) (w : World) (h1 : 0 ≤ many) (h2 : many ≤ 1048576) :
    Calls Try.prog 52 #[.agg #[.bool f, .int .i64 tag, .int .i64 many]] w fun e w' => e = .returned (.int .i64 (1 + many)) ∧ Below w.heap.size w w' := by
  go_enter Try.func52, Try.ntmps52
  go_wp2
  go_ret
  exact ⟨rfl, (Below.refl _ _).alloc (Nat.le_refl _) _⟩

set_option maxHeartbeats 4000000 in
theorem hdrWord_is (f : Bool) (tag many : Int) (w : World) (h0 : 0 ≤ tag) (h3 : tag ≤ 3000) (h1 : 0 ≤ many) (h2 : many ≤ 20) :
    Calls Try.prog 55 #[.agg #[.bool f, .int .i64 tag, .int .i64 many]] w fun e w' => e = .returned (.int .i64 (2 * (2 * (64 * tag + many) + (if f then 1 else 0)) + 1)) ∧ Below w.heap.size w w' := by
  have BA : Hid (Below w.heap.size w (w.alloc (.cells #[.bool f, .int .i64 tag, .int .i64 many] 52))) := (Below.refl _ _).alloc (Nat.le_refl _) _
  cases f
  · have hw : inB (2 * (tag * 64 + many)) (-1073741824) 1073741823 = true := by unfold inB; simp; omega
    go_enter Try.func55, Try.ntmps55
    go_wp2_with (go_at_call 66; go_in)
    go_wp2_with (go_at_call 69; refine (wordI_is hw).mono ?_; rintro e w' ⟨rfl, hx⟩; subst w')
    go_ret
    exact ⟨ret_i (by simp; omega), BA.out⟩
  · have hw : inB (2 * (tag * 64 + many) + 1) (-1073741824) 1073741823 = true := by unfold inB; simp; omega
    go_enter Try.func55, Try.ntmps55
    go_wp2_with (go_at_call 66; go_in)
    go_wp2_with (go_at_call 69; refine (wordI_is hw).mono ?_; rintro e w' ⟨rfl, hx⟩; subst w')
    go_ret
    exact ⟨ret_i (by simp; omega), BA.out⟩

end Go.Proofs.Ytempmfpnngbbeab.heap

namespace Go.Proofs.Ytempmfpnngbbeab.lock
open Go Go.RowKit Go.Proofs.Ytempmfpnngbbeab
set_option linter.unusedVariables false
set_option linter.unusedSimpArgs false

abbrev muLink : Go.Conc.Locks.MuLink := { lock := 45, unlock := 46, ilock := 61, iunlock := 62, lockSlow := 74, unlockSlow := 77, disable := 70, enable := 72, acquire := 73, relMerge := 75, cas32 := 71, add32 := 76, tMutex := 70, tIMutex := 68, tPMutex := 86, tPIMutex := 89, tPI32 := 91, tUP := 93, tNoCopy := 65, tU32 := 66 }
theorem muLib : Go.Conc.Locks.MuLib Try.prog muLink :=
  ⟨Try.func45, Try.func46, Try.func61, Try.func62, Try.func70, Try.func72, Try.func73, Try.func75, Try.func71, Try.func76,
    Try.underlying68, Try.runUnderlying68, Try.sizeOf68, Try.isAgg68, Try.zeroValue68,
    Try.underlying70, Try.runUnderlying70, Try.sizeOf70, Try.isAgg70, Try.zeroValue70,
    Try.underlying86, Try.runUnderlying86, Try.sizeOf86, Try.isAgg86, Try.zeroValue86,
    Try.underlying89, Try.runUnderlying89, Try.sizeOf89, Try.isAgg89, Try.zeroValue89,
    Try.underlying91, Try.runUnderlying91, Try.sizeOf91, Try.isAgg91, Try.zeroValue91,
    Try.underlying93, Try.runUnderlying93, Try.sizeOf93, Try.isAgg93, Try.zeroValue93,
    Try.underlying65, Try.runUnderlying65, Try.sizeOf65, Try.isAgg65, Try.zeroValue65,
    Try.underlying21, Try.runUnderlying21, Try.sizeOf21, Try.isAgg21, Try.zeroValue21, (by kernel_rfl)⟩

theorem load_is {a : Addr} {x : Int} {w : World} (hc : w.cell? a = some (.int .i64 x)) :
    Calls Try.prog 67 #[.pointer (some a)] w fun e w' => e = .returned (.int .i64 x) ∧ w' = w := by
  have hl := run_call_load (P := Try.prog) Try.func78 (by kernel_rfl) (by kernel_rfl) (by kernel_rfl) .i64 (by kernel_rfl) hc
  go_enter Try.func67, Try.ntmps67
  go_wp2
  go_ret
  exact ⟨rfl, rfl⟩
theorem add_is {a : Addr} {x y : Int} {w : World} (hc : w.cell? a = some (.int .i64 x)) (hz : w.frozen? a = false) (h1 : -9223372036854775808 ≤ x + y) (h2 : x + y ≤ 9223372036854775807) :
    Calls Try.prog 42 #[.pointer (some a), .int .i64 y] w fun e w' => e = .returned (.int .i64 (x + y)) ∧ w' = w.setCell a (.int .i64 (x + y)) := by
  have hl := run_call_add (P := Try.prog) Try.func58 (by kernel_rfl) (by kernel_rfl) (by kernel_rfl) .i64 (by kernel_rfl) (y := y) (s := x + y) hc hz (by simp [go_sem, IntKind.wrap_i64]; omega)
  go_enter Try.func42, Try.ntmps42
  go_wp2
  go_ret
  exact ⟨rfl, rfl⟩

end Go.Proofs.Ytempmfpnngbbeab.lock

namespace Go.Proofs.Ytempmfpnngbbeab.heap
open Go Go.RowKit Go.Proofs.Ytempmfpnngbbeab.rose Go.Proofs.Ytempmfpnngbbeab Go.Proofs.Ytempmfpnngbbeab.fun Go.Proofs.Ytempmfpnngbbeab.words Go.Proofs.Ytempmfpnngbbeab.ints
set_option linter.unusedVariables false
set_option linter.unusedSimpArgs false

/-- How often it was moved. -/
def timesF (base : Nat) : Int := if base = 0 then 0 else 1
/-- A heap at work: its own block hb, its marks' block hm; the words lie below B. -/
structure HH (B hb hm : Nat) (wv : Value) (W : List Int) (half base next : Nat) (lk : Int) (M : List Bool) (w : World) : Prop where
  lo : B ≤ hb ∧ B ≤ hm ∧ hb ≠ hm
  blk : w.heap[hb]? = some (.cells #[.int .i32 lk, .int .u32 0, .int .i64 (timesF base), wv, .int .i64 half, .int .i64 next, .slice (some ⟨hm, 0, none⟩) half half] 76)
  mks : w.heap[hm]? = some (.cells (M.map Value.bool).toArray 4)
  len : M.length = half
  wds : intsSh.rep w (· < B) [wv] W
  siz : W.length = 2 * half ∧ (base = 0 ∨ base = half) ∧ 1 ≤ half ∧ half ≤ 3000 ∧ base ≤ next ∧ next ≤ base + half

section
variable {B hb hm : Nat} {wv : Value} {W : List Int} {half base next : Nat} {lk : Int} {M : List Bool} {w w' : World}
theorem HH.lt (h : HH B hb hm wv W half base next lk M w) : hb < w.heap.size ∧ hm < w.heap.size := ⟨(Array.getElem?_eq_some_iff.1 h.blk).1, (Array.getElem?_eq_some_iff.1 h.mks).1⟩
theorem HH.on (h : HH B hb hm wv W half base next lk M w) (hB : Below w.heap.size w w') : HH B hb hm wv W half base next lk M w' :=
  ⟨h.lo, (hB.block hb h.lt.1).trans h.blk, (hB.block hm h.lt.2).trans h.mks, h.len, intsSh.on h.wds fun b hb' => hB.block b (by have := h.lo; have := h.lt; omega), h.siz⟩
theorem HH.same (h : HH B hb hm wv W half base next lk M w) (e : w'.heap = w.heap) : HH B hb hm wv W half base next lk M w' :=
  ⟨h.lo, by rw [e]; exact h.blk, by rw [e]; exact h.mks, h.len, intsSh.on h.wds fun b _ => by rw [e], h.siz⟩
theorem HH.drewN (h : HH B hb hm wv W half base next lk M w) (n : Nat) : HH B hb hm wv W half base next lk M (w.drewN n) := h.same rfl
theorem HH.c0 (h : HH B hb hm wv W half base next lk M w) : w.cell? ⟨hb, 0, none⟩ = some (.int .i32 lk) := by simp [World.cell?, h.blk]
theorem HH.c2 (h : HH B hb hm wv W half base next lk M w) : w.cell? ⟨hb, 2, none⟩ = some (.int .i64 (timesF base)) := by simp [World.cell?, h.blk]
theorem HH.c3 (h : HH B hb hm wv W half base next lk M w) : w.cell? ⟨hb, 3, none⟩ = some wv := by simp [World.cell?, h.blk]
theorem HH.c4 (h : HH B hb hm wv W half base next lk M w) : w.cell? ⟨hb, 4, none⟩ = some (.int .i64 half) := by simp [World.cell?, h.blk]
theorem HH.c5 (h : HH B hb hm wv W half base next lk M w) : w.cell? ⟨hb, 5, none⟩ = some (.int .i64 next) := by simp [World.cell?, h.blk]
theorem HH.c6 (h : HH B hb hm wv W half base next lk M w) : w.cell? ⟨hb, 6, none⟩ = some (.slice (some ⟨hm, 0, none⟩) half half) := by simp [World.cell?, h.blk]
theorem HH.frz (h : HH B hb hm wv W half base next lk M w) (j : Nat) : w.frozen? ⟨hb, j, none⟩ = false := by simp [World.frozen?, h.blk]
theorem HH.mfrz (h : HH B hb hm wv W half base next lk M w) (j : Nat) : w.frozen? ⟨hm, j, none⟩ = false := by simp [World.frozen?, h.mks]
theorem HH.mk_ (h : HH B hb hm wv W half base next lk M w) (j : Nat) (hj : j < half) : w.cell? ⟨hm, j, none⟩ = some (.bool (M.getD j false)) := by
  have hl : j < M.length := by rw [h.len]; exact hj
  simp [World.cell?, h.mks, List.getD, hl]
end

set_option maxHeartbeats 2000000 in
theorem base_is {B hb hm : Nat} {wv : Value} {W : List Int} {half base next : Nat} {lk : Int} {M : List Bool} {w : World} (h : HH B hb hm wv W half base next lk M w) :
    Calls Try.prog 56 #[.pointer (some ⟨hb, 0, none⟩)] w fun e w' => e = .returned (.int .i64 base) ∧ ∃ n, w' = w.drewN n := by
  have hs := h.siz
  have c2 := h.c2
  have c4 := h.c4
  have c2n : ∀ n, (w.drewN n).cell? ⟨hb, 2, none⟩ = some (.int .i64 (timesF base)) := fun n => h.c2
  by_cases hz : base = 0
  · subst hz
    have e : timesF 0 = 0 := rfl
    rw [e] at c2 c2n
    clear h e
    go_enter Try.func56, Try.ntmps56
    go_wp2
    go_quiet ((go_at_call 67; exact Calls.quiet_of_same (lock.load_is (c2n _))))
    go_wp2
    go_ret
    exact ⟨ret_i (by first | rfl | (simp; done) | omega), ⟨_, rfl⟩⟩
  · have e : timesF base = 1 := by unfold timesF; rw [if_neg hz]
    rw [e] at c2 c2n
    clear h e
    go_enter Try.func56, Try.ntmps56
    go_wp2
    go_quiet ((go_at_call 67; exact Calls.quiet_of_same (lock.load_is (c2n _))))
    go_wp2
    go_ret
    exact ⟨ret_i (by first | rfl | omega | (simp; omega)), ⟨_, rfl⟩⟩

set_option maxHeartbeats 2000000 in
theorem left_is {B hb hm : Nat} {wv : Value} {W : List Int} {half base next : Nat} {lk : Int} {M : List Bool} {w : World} (h : HH B hb hm wv W half base next lk M w) :
    Calls Try.prog 53 #[.pointer (some ⟨hb, 0, none⟩)] w fun e w' => e = .returned (.int .i64 ((base : Int) + half - next)) ∧ ∃ n, w' = w.drewN n := by
  have hs := h.siz
  have c4 := h.c4
  have c5 := h.c5
  go_enter Try.func53, Try.ntmps53
  go_wp2
  go_quiet ((go_at_call 56; exact Calls.quiet_of (base_is (h.drewN _))))
  go_wp2
  go_ret
  exact ⟨rfl, ⟨_, rfl⟩⟩

/-- Whether a block begins at p, by the marks. -/
def atB (base next : Nat) (M : List Bool) (p : Int) : Bool := decide ((base : Int) ≤ p) && decide (p < (next : Int)) && M.getD (p - base).toNat false

set_option maxHeartbeats 2000000 in
theorem isBlock_is {B hb hm : Nat} {wv : Value} {W : List Int} {half base next : Nat} {lk : Int} {M : List Bool} {w : World} (h : HH B hb hm wv W half base next lk M w) (p : Int) (h1 : -9223372036854775808 ≤ p) (h2 : p ≤ 9223372036854775807) :
    Calls Try.prog 47 #[.pointer (some ⟨hb, 0, none⟩), .int .i64 p] w fun e w' => e = .returned (.bool (atB base next M p)) ∧ ∃ n, w' = w.drewN n := by
  have hs := h.siz
  have hcall := base_is h
  have H : Hid (HH B hb hm wv W half base next lk M w) := h
  rcases q1 : decide ((base : Int) ≤ p) with _ | _
  · have HQ : Hid (atB base next M p = false) := by show _ = _; unfold atB; rw [q1]; rfl
    clear h
    go_enter Try.func47, Try.ntmps47
    go_wp2_with fail
    refine hcall.mono ?_
    rintro e w1 ⟨rfl, n, rfl⟩
    go_wp2
    go_ret
    exact ⟨ret_b HQ.out.symm, ⟨_, rfl⟩⟩
  rcases q2 : decide (p < (next : Int)) with _ | _
  · have HQ : Hid (atB base next M p = false) := by show _ = _; unfold atB; rw [q1, q2]; rfl
    clear h
    go_enter Try.func47, Try.ntmps47
    go_wp2_with fail
    refine hcall.mono ?_
    rintro e w1 ⟨rfl, n, rfl⟩
    have c5 := (H.out.drewN n).c5
    go_wp2
    go_ret
    exact ⟨ret_b HQ.out.symm, ⟨_, rfl⟩⟩
  · have g1 := of_decide_eq_true q1
    have g2 := of_decide_eq_true q2
    obtain ⟨j, hj⟩ : ∃ j : Nat, p = base + j := ⟨(p - base).toNat, by omega⟩
    subst hj
    have hjh : j < half := by omega
    have HQ : Hid (atB base next M ((base : Int) + j) = M.getD j false) := by
      show _ = _; unfold atB; rw [q1, q2]; simp only [Bool.true_and]; rw [show ((base : Int) + j - base).toNat = j by omega]
    clear h
    go_enter Try.func47, Try.ntmps47
    go_wp2_with fail
    refine hcall.mono ?_
    rintro e w1 ⟨rfl, n, rfl⟩
    have c5 := (H.out.drewN n).c5
    have c6 := (H.out.drewN n).c6
    have cm := (H.out.drewN n).mk_ j hjh
    have e1 : (base : Int) + j - base = j := by omega
    go_wp2
    go_ret
    exact ⟨ret_b HQ.out.symm, ⟨_, rfl⟩⟩

/-- Whether a word is an int of a word, or a block's place by the marks. -/
def kidM (base next : Nat) (M : List Bool) (x : Int) : Bool := if x % 2 = 0 then atB base next M (x / 2) else inB (x / 2) (-1073741824) 1073741823

set_option maxHeartbeats 2000000 in
theorem okKid_is {B hb hm : Nat} {wv : Value} {W : List Int} {half base next : Nat} {lk : Int} {M : List Bool} {w : World} (h : HH B hb hm wv W half base next lk M w) (x : Int) (h1 : -9223372036854775808 ≤ x) (h2 : x ≤ 9223372036854775807) :
    Calls Try.prog 60 #[.pointer (some ⟨hb, 0, none⟩), .int .i64 x] w fun e w' => e = .returned (.bool (kidM base next M x)) ∧ ∃ n, w' = w.drewN n := by
  have ha := and_one x
  have hcall := isBlock_is h (x / 2) (by omega) (by omega)
  clear h
  by_cases q : x % 2 = 0
  · have HQ : Hid (kidM base next M x = atB base next M (x / 2)) := by show _ = _; unfold kidM; rw [if_pos q]
    rw [q] at ha
    go_enter Try.func60, Try.ntmps60
    go_wp2_with (first | (go_at_call 59; go_in) | (go_at_call 68; go_in))
    refine hcall.mono ?_
    rintro e w1 ⟨rfl, n, rfl⟩
    go_wp2
    go_ret
    exact ⟨ret_b HQ.out.symm, ⟨_, rfl⟩⟩
  · have HQ : Hid (kidM base next M x = inB (x / 2) (-1073741824) 1073741823) := by show _ = _; unfold kidM; rw [if_neg q]
    have q1 : x % 2 = 1 := by omega
    rw [q1] at ha
    obtain ⟨b, hbx⟩ : ∃ b, inB (x / 2) (-1073741824) 1073741823 = b := ⟨_, rfl⟩
    clear hcall
    go_enter Try.func60, Try.ntmps60
    go_wp2_with (first | (go_at_call 59; go_in) | (go_at_call 63; go_in) | (go_at_call 69; refine (wordI_is hbx).mono ?_; rintro e w' ⟨rfl, hx⟩; subst w'))
    go_ret
    exact ⟨ret_b (by rw [HQ.out, hbx]), ⟨0, rfl⟩⟩

end Go.Proofs.Ytempmfpnngbbeab.heap

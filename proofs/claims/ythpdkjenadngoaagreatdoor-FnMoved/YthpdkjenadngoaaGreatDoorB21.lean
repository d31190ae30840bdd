/-
  What Collect gives, as the law FnMoved keeps it; blocks that are come to, counted (chapter 18).
  The laws' sameInts and sameHeap: of the same true; nothing is turned.
  A heap in a block of its own, as the law FnHeap keeps it.
  The library's table of powers of ten, as a row lists it; it stands as long as nothing of what was there is turned.
  The program's WordOk; nothing is turned.
  The program's header: headerOf, ok, size, word; nothing that was there is turned.
  The numbers under which this program holds sync.Mutex, and that it holds it; the atomic number's Load and Add.
  The program's heap at work (heldHeap): how it lies in memory; what its methods that only read answer.
-/
import Derived.Deep.QuietTactic
import Derived.BigQuiet
import Derived.Deep.RegionWith
import Derived.Test.YthpdkjenadngoaaGreatDoorChecked
import Derived.Lib.LaidTab
import Derived.Lib.AppendIntMem
import Derived.KernelRfl
import Derived.WalkKit
import Derived.WalkLawsBesides
import Derived.OwnWalk
import Derived.Conc.MuLone
import Derived.Deep.RegionHeld3
import Derived.Test.YthpdkjenadngoaaGreatDoorB1
import Derived.Test.YthpdkjenadngoaaGreatDoorB2
import Derived.Test.YthpdkjenadngoaaGreatDoorB3
import Derived.Test.YthpdkjenadngoaaGreatDoorB4
import Derived.Test.YthpdkjenadngoaaGreatDoorB5
import Derived.Test.YthpdkjenadngoaaGreatDoorB6
import Derived.Test.YthpdkjenadngoaaGreatDoorB7
import Derived.Test.YthpdkjenadngoaaGreatDoorB8
import Derived.Test.YthpdkjenadngoaaGreatDoorB9
import Derived.Test.YthpdkjenadngoaaGreatDoorB10
import Derived.Test.YthpdkjenadngoaaGreatDoorB11
import Derived.Test.YthpdkjenadngoaaGreatDoorB12
import Derived.Test.YthpdkjenadngoaaGreatDoorB13
import Derived.Test.YthpdkjenadngoaaGreatDoorB14
import Derived.Test.YthpdkjenadngoaaGreatDoorB15
import Derived.Test.YthpdkjenadngoaaGreatDoorB16
import Derived.Test.YthpdkjenadngoaaGreatDoorB17
import Derived.Test.YthpdkjenadngoaaGreatDoorB18
import Derived.Test.YthpdkjenadngoaaGreatDoorB19
import Derived.Test.YthpdkjenadngoaaGreatDoorB20
namespace Go.Proofs.YthpdkjenadngoaaGreatDoor.heap
open Go Go.RowKit Go.Proofs.YthpdkjenadngoaaGreatDoor.rose Go.Proofs.YthpdkjenadngoaaGreatDoor Go.Proofs.YthpdkjenadngoaaGreatDoor.fun Go.Proofs.YthpdkjenadngoaaGreatDoor.words Go.Proofs.YthpdkjenadngoaaGreatDoor.ints
set_option linter.unusedVariables false
set_option linter.unusedSimpArgs false

theorem col_keep {w w' : World} {e : Ending} {T : HeapD} {rs : List Int} (hz : w.heap.size ≤ w'.heap.size) (h : ColOut w w' e T rs) :
    ∃ a c am cm, e = .returned (.tuple #[.agg #[.slice a T.1.length c, .int .i64 T.2.1, .int .i64 T.2.2.1, .int .i64 T.2.2.2], .slice am rs.length cm]) ∧ heapSh.rep w' (· < w'.heap.size) [.slice a T.1.length c, .int .i64 T.2.1, .int .i64 T.2.2.1, .int .i64 T.2.2.2] T ∧ intsSh.rep w' (· < w'.heap.size) [.slice am rs.length cm] rs := by
  obtain ⟨a, c, v', rfl, h1, h2, -, f1, f2, f3⟩ := h
  have r1 := intsSh.mono (intsp_rep h1.sp) (S' := (· < w'.heap.size)) fun b hb => hb.2
  have r2 := intsSh.mono (intsp_rep h2.sp) (S' := (· < w'.heap.size)) fun b hb => hb.2
  obtain ⟨am, cm, e2⟩ : ∃ a c, v' = .slice a rs.length c := by obtain ⟨a, c, e⟩ := slice_cells r2; simp only [List.cons.injEq, and_true] at e; exact ⟨a, c, e⟩
  subst e2
  obtain ⟨W, x1, x2, x3⟩ := T
  exact ⟨a, c, am, cm, rfl, heap_shut r1 f1 f2 f3, r2⟩
theorem rep_words {w : World} {S : Nat → Prop} {cs : List Value} {T : HeapD} (h : heapSh.rep w S cs T) : ∀ y ∈ T.1, InR y := by
  obtain ⟨W, a, c, x1, x2, x3, rfl, rfl, f0, -⟩ := heap_open h
  obtain ⟨a2, c2, e, -, -, hat⟩ := ints_open f0
  intro y hy
  obtain ⟨j, hj, rfl⟩ := List.getElem_of_mem hy
  obtain ⟨b, o, -, -, hc, r1, r2⟩ := hat j hj
  exact ⟨r1, r2⟩
theorem col_lens {T : HeapD} {rs : List Int} (hW : ∀ y ∈ T.1, InR y) : (collectF T rs).1.1.length = T.1.length ∧ (collectF T rs).2.length = rs.length := by
  rcases h : rightB T rs with _ | _
  · unfold collectF; rw [if_neg (by rw [h]; decide)]; exact ⟨rfl, rfl⟩
  · have := moved_is hW h
    exact ⟨this.wlen, this.rlen⟩
theorem col_no {T : HeapD} {rs : List Int} (h : rightB T rs = false) : collectF T rs = (T, rs) := by
  unfold collectF; rw [if_neg (by rw [h]; decide)]

theorem insR_sum {f : Int → Nat} {n : Int} : ∀ {l : List Int}, n ∉ l → ((insR n l).map f).sum = f n + (l.map f).sum := by
  intro l
  induction l with
  | nil => intro _; simp [insR]
  | cons x xs ih =>
    intro h
    have h1 : n ≠ x := fun e => h (by rw [e]; exact List.mem_cons_self ..)
    have h2 : n ∉ xs := fun e => h (List.mem_cons_of_mem _ e)
    simp only [insR]
    split
    · simp only [List.map_cons, List.sum_cons, ih h2]; omega
    · rw [if_neg (fun e => h1 e.symm)]
      simp only [List.map_cons, List.sum_cons]
theorem insR_fold {f : Int → Nat} : ∀ (O k : List Int), O.Nodup → (∀ x ∈ O, x ∉ k) → ((O.foldl ins k).map f).sum = (k.map f).sum + (O.map f).sum ∧ ∀ x, x ∈ O.foldl ins k → x ∈ k ∨ x ∈ O := by
  intro O
  induction O with
  | nil => intro k _ _; exact ⟨by simp, fun x hx => .inl hx⟩
  | cons y O ih =>
    intro k hn hk
    rw [List.nodup_cons] at hn
    have hy : y ∉ k := hk y (List.mem_cons_self ..)
    rw [List.foldl_cons, ins_eq]
    obtain ⟨a1, a2⟩ := ih (insR y k) hn.2 fun x hx q => by
      rcases mem_insR.1 q with rfl | q
      · exact hn.1 hx
      · exact hk x (List.mem_cons_of_mem _ hx) q
    refine ⟨?_, fun x hx => ?_⟩
    · rw [a1, insR_sum hy, List.map_cons, List.sum_cons]; omega
    · rcases a2 x hx with q | q
      · rcases mem_insR.1 q with rfl | q
        · exact .inr (List.mem_cons_self ..)
        · exact .inl q
      · exact .inr (List.mem_cons_of_mem _ q)
/-- The blocks that are come to, in order. -/
theorem reach_sum {T : HeapD} {rs : List Int} (h : rightB T rs = true) : ((reachF T rs).map (szP T.1)).sum = ((orderF T rs).map (szP T.1)).sum ∧ (∀ x ∈ reachF T rs, x ∈ (plT T).1) ∧ (reachF T rs).length ≤ 6000 := by
  have hi := order_inv h
  obtain ⟨a1, a2⟩ := insR_fold (f := szP T.1) (orderF T rs) [] hi.nodup fun x _ q => by cases q
  have hl := ins_len (orderF T rs)
  have ho := order_len h
  unfold reachF
  rw [if_pos h]
  refine ⟨by rw [a1]; simp, fun x hx => ?_, by omega⟩
  rcases a2 x hx with q | q
  · cases q
  · exact hi.sub x q
theorem block_of {T : HeapD} {x : Int} (h : heapB T = true) (hx : x ∈ (plT T).1) : ∃ fn tag kids, blockF T x = (fn, tag, kids, true) ∧ 1 + (kids : List Int).length = szP T.1 x := by
  refine ⟨_, _, _, by unfold blockF; rw [h, if_pos (by simp [hx])], ?_⟩
  obtain ⟨z, rfl, hz⟩ := place_in h hx
  rw [Int.toNat_natCast, List.length_take, List.length_drop]
  unfold szP
  rw [Int.toNat_natCast]
  omega
theorem sums_le {f : Int → Nat} (l : List Int) (i : Nat) : ((l.take i).map f).sum ≤ (l.map f).sum := by
  induction l generalizing i with
  | nil => simp
  | cons x l ih =>
    cases i with
    | zero => simp
    | succ i => simp only [List.take_succ_cons, List.map_cons, List.sum_cons]; have := ih i; omega
theorem sums_succ {f : Int → Nat} {l : List Int} {i : Nat} (h : i < l.length) : ((l.take (i + 1)).map f).sum = ((l.take i).map f).sum + f l[i] := by
  rw [List.take_succ_eq_append_getElem h, List.map_append, List.sum_append]; simp
/-- All that the law asks, of a heap that was moved twice. -/
theorem moved_twice {T : HeapD} {rs : List Int} (hW : ∀ y ∈ T.1, InR y) (h : rightB T rs = true) :
    ∃ sz : Nat, sz = ((reachF T rs).map (szP T.1)).sum ∧ sz ≤ 3000 ∧ (collectF T rs).1.2.2.2 = (collectF T rs).1.2.2.1 + sz ∧ (collectF (collectF T rs).1 (collectF T rs).2).1.2.2.1 = T.2.2.1 ∧
      (collectF (collectF T rs).1 (collectF T rs).2).1.2.2.2 = T.2.2.1 + sz ∧ heapB (collectF T rs).1 = true ∧ shapeF (collectF T rs).1 (collectF T rs).2 = shapeF T rs ∧
      shapeF (collectF (collectF T rs).1 (collectF T rs).2).1 (collectF (collectF T rs).1 (collectF T rs).2).2 = shapeF T rs ∧ roomF T ≤ roomF (collectF T rs).1 ∧ 0 ≤ T.2.2.1 ∧ T.2.2.1 ≤ 3000 ∧ 0 ≤ (collectF T rs).1.2.2.1 ∧ (collectF T rs).1.2.2.1 ≤ 3000 := by
  have m := moved_is hW h
  have m2 := moved_is m.rng m.right
  have hs := (reach_sum h).1
  have h1 := head_in (heap_head (right_is h).1)
  have h2 := head_in (heap_head (right_is m.right).1)
  have e1 := m.size
  have e2 := m2.size
  have e3 := m2.base
  have e4 := m.base
  have e5 := m.half
  have e6 := m.sum
  refine ⟨_, rfl, ?_, ?_, ?_, ?_, (right_is m.right).1, m.shape, m2.shape.trans m.shape, m.room, ?_, ?_, ?_, ?_⟩ <;> omega

end Go.Proofs.YthpdkjenadngoaaGreatDoor.heap

namespace Go.Proofs.YthpdkjenadngoaaGreatDoor.heap
open Go Go.RowKit Go.Proofs.YthpdkjenadngoaaGreatDoor.rose Go.Proofs.YthpdkjenadngoaaGreatDoor Go.Proofs.YthpdkjenadngoaaGreatDoor.ints
set_option linter.unusedVariables false
set_option linter.unusedSimpArgs false

set_option maxHeartbeats 1000000 in
theorem sameInts_any (ks : List Int) (v1 v2 : Value) (w : World) (h : intsSh.rep w (· < w.heap.size) [v1] ks) (h' : intsSh.rep w (· < w.heap.size) [v2] ks) :
    Calls Tryz.prog 9 #[v1, v2] w fun e w' => e = .returned (.bool true) ∧ Below w.heap.size w w' := by
  obtain ⟨a, cap, rfl, hcap, hmax, hat⟩ := ints_open h
  obtain ⟨a', cap', rfl, hcap', hmax', hat'⟩ := ints_open h'
  have hmx : (ks.length : Int) ≤ 9223372036854775807 := by unfold maxLen at hmax; omega
  have HA : Hid _ := hat
  have HA' : Hid _ := hat'
  clear h h' hcap hmax hcap' hmax' hat hat'
  go_enter Tryz.func9, Tryz.ntmps9
  go_wp2
  go_loopw [5] (fun v5 wr => ∃ i : Nat, i ≤ ks.length ∧ v5 = .int .i64 i ∧ Hid (Below w.heap.size w wr)) (fun v5 _ => ks.length - (intOf v5).toNat)
  case atStart => exact ⟨0, Nat.zero_le _, rfl, Below.refl _ _⟩
  case round =>
    obtain ⟨i, hi, rfl, HB⟩ := hrel
    by_cases hlt : i < ks.length
    · obtain ⟨b, o, rfl, hS, hc, -⟩ := HA.out i hlt
      obtain ⟨b', o', rfl, hS', hc', -⟩ := HA'.out i hlt
      have e0 := (HB.out.cell (p := ⟨b, o + i, none⟩) hS).trans hc
      have e1 := (HB.out.cell (p := ⟨b', o' + i, none⟩) hS').trans hc'
      clear hc hc'
      go_wp2
      (try go_region)
      all_goals
        go_wp2
        go_round
        case rel => exact ⟨i + 1, by omega, by go_num, HB.out.drew⟩
        case measure => simp [intOf]; omega
    · obtain rfl : i = ks.length := by omega
      go_wp2
      go_ret
      exact ⟨rfl, HB.out⟩

set_option maxHeartbeats 1000000 in
theorem sameHeap_any (T : HeapD) (cs cs' : List Value) (w : World) (h : heapSh.rep w (· < w.heap.size) cs T) (h' : heapSh.rep w (· < w.heap.size) cs' T) :
    Calls Tryz.prog 8 #[.agg cs.toArray, .agg cs'.toArray] w fun e w' => e = .returned (.bool true) ∧ Below w.heap.size w w' := by
  obtain ⟨W, a, c, hf, bs, nx, rfl, rfl, f0, -⟩ := heap_open h
  obtain ⟨W', a', c', hf', bs', nx', hT, rfl, f0', -⟩ := heap_open h'
  simp only [Prod.mk.injEq] at hT
  obtain ⟨rfl, rfl, rfl, rfl⟩ := hT
  obtain ⟨V, hV⟩ : ∃ V, V = (w.alloc (.cells #[.slice a W.length c, .int .i64 hf, .int .i64 bs, .int .i64 nx] 26)).alloc (.cells #[.slice a' W.length c', .int .i64 hf, .int .i64 bs, .int .i64 nx] 26) := ⟨_, rfl⟩
  have hB : Below w.heap.size w V := by rw [hV]; exact ((Below.refl _ w).alloc (Nat.le_refl _) _).alloc (by simp) _
  have hcall := sameInts_any W (.slice a W.length c) (.slice a' W.length c') V (intsSh.mono (intsSh.below f0 hB) fun b hb => Nat.lt_of_lt_of_le hb hB.size) (intsSh.mono (intsSh.below f0' hB) fun b hb => Nat.lt_of_lt_of_le hb hB.size)
  have HV : Hid (V = (w.alloc (.cells #[.slice a W.length c, .int .i64 hf, .int .i64 bs, .int .i64 nx] 26)).alloc (.cells #[.slice a' W.length c', .int .i64 hf, .int .i64 bs, .int .i64 nx] 26)) := hV
  have HB : Hid (Below w.heap.size w V) := hB
  clear h h' f0 f0' hB hV
  go_enter Tryz.func8, Tryz.ntmps8
  go_wp2_with fail
  rw [← HV.out]
  refine hcall.mono ?_
  rintro e w1 ⟨rfl, hb⟩
  have B1 : Hid (Below w.heap.size w w1) := HB.out.trans (hb.mono HB.out.size)
  clear hcall hb
  go_wp2
  go_ret
  exact ⟨rfl, B1.out⟩

end Go.Proofs.YthpdkjenadngoaaGreatDoor.heap

namespace Go.Proofs.YthpdkjenadngoaaGreatDoor.heap
open Go Go.RowKit Go.Proofs.YthpdkjenadngoaaGreatDoor.rose Go.Proofs.YthpdkjenadngoaaGreatDoor Go.Proofs.YthpdkjenadngoaaGreatDoor.ints
set_option linter.unusedVariables false

structure KH (V : World) (A : Nat) (a : Option Addr) (c : Nat) (W : List Int) (hf bs nx : Int) : Prop where
  blk : V.heap[A]? = some (.cells #[.slice a W.length c, .int .i64 hf, .int .i64 bs, .int .i64 nx] 26)
  rep : heapSh.rep V (· < V.heap.size) [.slice a W.length c, .int .i64 hf, .int .i64 bs, .int .i64 nx] (W, hf, bs, nx)
section
variable {V V' : World} {A : Nat} {a : Option Addr} {c : Nat} {W : List Int} {hf bs nx : Int}
theorem KH.on (h : KH V A a c W hf bs nx) (hb : Below V.heap.size V V') : KH V' A a c W hf bs nx :=
  ⟨(hb.block A (Array.getElem?_eq_some_iff.1 h.blk).1).trans h.blk, heapSh.mono (heapSh.below h.rep hb) fun b hlt => Nat.lt_of_lt_of_le hlt hb.size⟩
theorem KH.cell (h : KH V A a c W hf bs nx) (j : Nat) {u : Value} (hj : #[Value.slice a W.length c, .int .i64 hf, .int .i64 bs, .int .i64 nx][j]? = some u) : V.cell? ⟨A, j, none⟩ = some u := by simp [World.cell?, h.blk, hj]
theorem KH.new (h : heapSh.rep V (· < V.heap.size) [.slice a W.length c, .int .i64 hf, .int .i64 bs, .int .i64 nx] (W, hf, bs, nx)) : KH (V.alloc (.cells #[.slice a W.length c, .int .i64 hf, .int .i64 bs, .int .i64 nx] 26)) V.heap.size a c W hf bs nx := by
  have hb : Below V.heap.size V (V.alloc (.cells #[.slice a W.length c, .int .i64 hf, .int .i64 bs, .int .i64 nx] 26)) := (Below.refl _ _).alloc (Nat.le_refl _) _
  exact ⟨alloc_top _ _, heapSh.mono (heapSh.below h hb) fun b hlt => Nat.lt_of_lt_of_le hlt hb.size⟩
theorem KH.word (h : KH V A a c W hf bs nx) (k : Nat) (hk : k < W.length) : ∃ b o, a = some ⟨b, o, none⟩ ∧ V.cell? ⟨b, o + k, none⟩ = some (.int .i64 W[k]) ∧ -9223372036854775808 ≤ W[k] ∧ W[k] ≤ 9223372036854775807 := by
  obtain ⟨W', a', c', hf', bs', nx', eT, eC, f0, -⟩ := heap_open h.rep
  simp only [Prod.mk.injEq] at eT
  obtain ⟨rfl, rfl, rfl, rfl⟩ := eT
  simp only [List.cons.injEq, Value.slice.injEq, true_and, and_true] at eC
  obtain ⟨rfl, rfl⟩ := eC
  obtain ⟨a2, c2, e, -, -, hat⟩ := ints_open f0
  cases e
  obtain ⟨b, o, rfl, -, hc, r1, r2⟩ := hat k hk
  exact ⟨b, o, rfl, hc, r1, r2⟩
theorem ki_on {v : Value} {ks : List Int} (h : intsSh.rep V (· < V.heap.size) [v] ks) (hb : Below V.heap.size V V') : intsSh.rep V' (· < V'.heap.size) [v] ks := intsSh.mono (intsSh.below h hb) fun b hlt => Nat.lt_of_lt_of_le hlt hb.size
theorem below_new (V : World) (X : Obj) : Below V.heap.size V (V.alloc X) := (Below.refl _ _).alloc (Nat.le_refl _) X
end

end Go.Proofs.YthpdkjenadngoaaGreatDoor.heap

namespace Go.Proofs.YthpdkjenadngoaaGreatDoor.fun
open Go Go.RowKit Go.Proofs.YthpdkjenadngoaaGreatDoor
set_option linter.unusedVariables false

theorem gPow : Tryz.prog.globalNamed "internal/strconv.uint64pow10" = some 0 := by kernel_rfl
theorem gPowType : (Tryz.prog.globals[0]?).map (·.type) = some 174 := by kernel_rfl
theorem cellsPow : Tryz.prog.cellsOf 174 = 20 := by kernel_rfl
theorem cellsU64 : Tryz.prog.cellsOf 135 = 1 := by kernel_rfl
def Tab (w : World) : Prop := Lib.TabIs Tryz.prog w "internal/strconv.uint64pow10" .u64 Lib.pow10Tab
theorem Tab.on {w w' : World} (h : Tab w) (hb : Below w.heap.size w w') : Tab w' := Lib.tabBelow_of_tabIs h w' hb

end Go.Proofs.YthpdkjenadngoaaGreatDoor.fun

namespace Go.Proofs.YthpdkjenadngoaaGreatDoor.words
open Go Go.RowKit Go.Proofs.YthpdkjenadngoaaGreatDoor Go.Proofs.YthpdkjenadngoaaGreatDoor.fun
set_option linter.unusedVariables false
set_option linter.unusedSimpArgs false

theorem ret_bW {a b : Bool} (h : a = b) : Ending.returned (.bool a) = Ending.returned (.bool b) := by rw [h]
set_option maxHeartbeats 1000000 in
theorem wordI_is {n : Int} {b : Bool} {w : World} (h : inB n (-1073741824) 1073741823 = b) :
    Calls Tryz.prog 107 #[.int .i64 n] w fun e w' => e = .returned (.bool b) ∧ w' = w := by
  by_cases h1 : -1073741824 ≤ n
  · have h6 : decide (-1073741824 ≤ n) = true := decide_eq_true h1
    go_enter Tryz.func107, Tryz.ntmps107
    go_wp2
    go_ret
    exact ⟨ret_bW (by rw [← h]; simp only [inB, h6, Bool.true_and]), rfl⟩
  · have h2 : decide (-1073741824 ≤ n) = false := decide_eq_false h1
    go_enter Tryz.func107, Tryz.ntmps107
    go_wp2
    go_ret
    exact ⟨ret_bW (by rw [← h]; simp only [inB, h2, Bool.false_and]), rfl⟩

end Go.Proofs.YthpdkjenadngoaaGreatDoor.words

namespace Go.Proofs.YthpdkjenadngoaaGreatDoor.heap
open Go Go.RowKit Go.Proofs.YthpdkjenadngoaaGreatDoor Go.Proofs.YthpdkjenadngoaaGreatDoor.fun Go.Proofs.YthpdkjenadngoaaGreatDoor.words
set_option linter.unusedVariables false
set_option linter.unusedSimpArgs false

/-- The tag as a shift tells it, which is cut downwards. -/
def tagS (x : Int) : Int := x / 2 / 2 / 64
def okHdr (tag many : Int) : Bool := decide (0 ≤ tag) && decide (tag ≤ 3000) && decide (many ≤ 20)

set_option maxHeartbeats 2000000 in
theorem headerOf_is (x : Int) (w : World) (h1 : -9223372036854775808 ≤ x) (h2 : x ≤ 9223372036854775807) :
    Calls Tryz.prog 48 #[.int .i64 x] w fun e w' => e = .returned (.agg #[.bool (funF x), .int .i64 (tagS x), .int .i64 (manyF x)]) ∧ Below w.heap.size w w' := by
  have ha := and_one (x / 2)
  have hb := and_63 (x / 2 / 2)
  have hf : (x / 2 % 2 == 1) = funF x := by unfold funF; rw [Bool.eq_iff_iff]; simp
  go_enter Tryz.func48, Tryz.ntmps48
  go_wp2
  refine bodyPost_ret (v := .agg #[.bool (funF x), .int .i64 (tagS x), .int .i64 (manyF x)]) (by simp [results, Tryz.f48, go_sem, tagS, manyF, hf]) rfl ?_
  refine ⟨rfl, ?_⟩
  exact (Below.refl _ _).alloc (Nat.le_refl _) _

set_option maxHeartbeats 2000000 in
theorem hdrOk_is (f : Bool) (tag many : Int) (w : World) :
    Calls Tryz.prog 104 #[.agg #[.bool f, .int .i64 tag, .int .i64 many]] w fun e w' => e = .returned (.bool (okHdr tag many)) ∧ Below w.heap.size w w' := by
  have BA : Hid (Below w.heap.size w (w.alloc (.cells #[.bool f, .int .i64 tag, .int .i64 many] 62))) := (Below.refl _ _).alloc (Nat.le_refl _) _
  rcases q1 : decide (0 ≤ tag) with _ | _
  · have HQ : Hid (okHdr tag many = false) := by show _ = _; unfold okHdr; rw [q1]; rfl
    go_enter Tryz.func104, Tryz.ntmps104
    go_wp2
    go_ret
    exact ⟨ret_b HQ.out.symm, BA.out⟩
  rcases q2 : decide (tag ≤ 3000) with _ | _
  · have HQ : Hid (okHdr tag many = false) := by show _ = _; unfold okHdr; rw [q1, q2]; rfl
    go_enter Tryz.func104, Tryz.ntmps104
    go_wp2
    go_ret
    exact ⟨ret_b HQ.out.symm, BA.out⟩
  rcases q3 : decide (many ≤ 20) with _ | _
  · have HQ : Hid (okHdr tag many = false) := by show _ = _; unfold okHdr; rw [q1, q2, q3]; rfl
    go_enter Tryz.func104, Tryz.ntmps104
    go_wp2
    go_ret
    exact ⟨ret_b HQ.out.symm, BA.out⟩
  · have HQ : Hid (okHdr tag many = true) := by show _ = _; unfold okHdr; rw [q1, q2, q3]; rfl
    go_enter Tryz.func104, Tryz.ntmps104
    go_wp2
    go_ret
    exact ⟨ret_b HQ.out.symm, BA.out⟩

set_option maxHeartbeats 2000000 in
theorem hdrSize_is (f : Bool) (tag many : Int) (w : World) (h1 : 0 ≤ many) (h2 : many ≤ 1048576) :
    Calls Tryz.prog 49 #[.agg #[.bool f, .int .i64 tag, .int .i64 many]] w fun e w' => e = .returned (.int .i64 (1 + many)) ∧ Below w.heap.size w w' := by
  go_enter Tryz.func49, Tryz.ntmps49
  go_wp2
  go_ret
  exact ⟨rfl, (Below.refl _ _).alloc (Nat.le_refl _) _⟩

end Go.Proofs.YthpdkjenadngoaaGreatDoor.heap

namespace Go.Proofs.YthpdkjenadngoaaGreatDoor.lock
open Go Go.RowKit Go.Proofs.YthpdkjenadngoaaGreatDoor
set_option linter.unusedVariables false
set_option linter.unusedSimpArgs false

abbrev muLink : Go.Conc.Locks.MuLink := { lock := 43, unlock := 44, ilock := 79, iunlock := 80, lockSlow := 113, unlockSlow := 116, disable := 109, enable := 111, acquire := 112, relMerge := 114, cas32 := 110, add32 := 115, tMutex := 78, tIMutex := 76, tPMutex := 118, tPIMutex := 141, tPI32 := 143, tUP := 145, tNoCopy := 73, tU32 := 74 }
theorem muLib : Go.Conc.Locks.MuLib Tryz.prog muLink :=
  ⟨Tryz.func43, Tryz.func44, Tryz.func79, Tryz.func80, Tryz.func109, Tryz.func111, Tryz.func112, Tryz.func114, Tryz.func110, Tryz.func115,
    Tryz.underlying76, Tryz.runUnderlying76, Tryz.sizeOf76, Tryz.isAgg76, Tryz.zeroValue76,
    Tryz.underlying78, Tryz.runUnderlying78, Tryz.sizeOf78, Tryz.isAgg78, Tryz.zeroValue78,
    Tryz.underlying118, Tryz.runUnderlying118, Tryz.sizeOf118, Tryz.isAgg118, Tryz.zeroValue118,
    Tryz.underlying141, Tryz.runUnderlying141, Tryz.sizeOf141, Tryz.isAgg141, Tryz.zeroValue141,
    Tryz.underlying143, Tryz.runUnderlying143, Tryz.sizeOf143, Tryz.isAgg143, Tryz.zeroValue143,
    Tryz.underlying145, Tryz.runUnderlying145, Tryz.sizeOf145, Tryz.isAgg145, Tryz.zeroValue145,
    Tryz.underlying73, Tryz.runUnderlying73, Tryz.sizeOf73, Tryz.isAgg73, Tryz.zeroValue73,
    Tryz.underlying21, Tryz.runUnderlying21, Tryz.sizeOf21, Tryz.isAgg21, Tryz.zeroValue21, (by kernel_rfl)⟩

theorem load_is {a : Addr} {x : Int} {w : World} (hc : w.cell? a = some (.int .i64 x)) :
    Calls Tryz.prog 82 #[.pointer (some a)] w fun e w' => e = .returned (.int .i64 x) ∧ w' = w := by
  have hl := run_call_load (P := Tryz.prog) Tryz.func117 (by kernel_rfl) (by kernel_rfl) (by kernel_rfl) .i64 (by kernel_rfl) hc
  go_enter Tryz.func82, Tryz.ntmps82
  go_wp2
  go_ret
  exact ⟨rfl, rfl⟩
theorem add_is {a : Addr} {x y : Int} {w : World} (hc : w.cell? a = some (.int .i64 x)) (hz : w.frozen? a = false) (h1 : -9223372036854775808 ≤ x + y) (h2 : x + y ≤ 9223372036854775807) :
    Calls Tryz.prog 46 #[.pointer (some a), .int .i64 y] w fun e w' => e = .returned (.int .i64 (x + y)) ∧ w' = w.setCell a (.int .i64 (x + y)) := by
  have hl := run_call_add (P := Tryz.prog) Tryz.func81 (by kernel_rfl) (by kernel_rfl) (by kernel_rfl) .i64 (by kernel_rfl) (y := y) (s := x + y) hc hz (by simp [go_sem, IntKind.wrap_i64]; omega)
  go_enter Tryz.func46, Tryz.ntmps46
  go_wp2
  go_ret
  exact ⟨rfl, rfl⟩

end Go.Proofs.YthpdkjenadngoaaGreatDoor.lock

namespace Go.Proofs.YthpdkjenadngoaaGreatDoor.heap
open Go Go.RowKit Go.Proofs.YthpdkjenadngoaaGreatDoor.rose Go.Proofs.YthpdkjenadngoaaGreatDoor Go.Proofs.YthpdkjenadngoaaGreatDoor.fun Go.Proofs.YthpdkjenadngoaaGreatDoor.words Go.Proofs.YthpdkjenadngoaaGreatDoor.ints
set_option linter.unusedVariables false
set_option linter.unusedSimpArgs false

/-- How often it was moved. -/
def timesF (base : Nat) : Int := if base = 0 then 0 else 1
/-- A heap at work: its own block hb, its marks' block hm; the words lie below B. -/
structure HH (B hb hm : Nat) (wv : Value) (W : List Int) (half base next : Nat) (lk : Int) (M : List Bool) (w : World) : Prop where
  lo : B ≤ hb ∧ B ≤ hm ∧ hb ≠ hm
  blk : w.heap[hb]? = some (.cells #[.int .i32 lk, .int .u32 0, .int .i64 (timesF base), wv, .int .i64 half, .int .i64 next, .slice (some ⟨hm, 0, none⟩) half half] 85)
  mks : w.heap[hm]? = some (.cells (M.map Value.bool).toArray 4)
  len : M.length = half
  wds : intsSh.rep w (· < B) [wv] W
  siz : W.length = 2 * half ∧ (base = 0 ∨ base = half) ∧ 1 ≤ half ∧ half ≤ 3000 ∧ base ≤ next ∧ next ≤ base + half

section
variable {B hb hm : Nat} {wv : Value} {W : List Int} {half base next : Nat} {lk : Int} {M : List Bool} {w w' : World}
theorem HH.lt (h : HH B hb hm wv W half base next lk M w) : hb < w.heap.size ∧ hm < w.heap.size := ⟨(Array.getElem?_eq_some_iff.1 h.blk).1, (Array.getElem?_eq_some_iff.1 h.mks).1⟩
theorem HH.on (h : HH B hb hm wv W half base next lk M w) (hB : Below w.heap.size w w') : HH B hb hm wv W half base next lk M w' :=
  ⟨h.lo, (hB.block hb h.lt.1).trans h.blk, (hB.block hm h.lt.2).trans h.mks, h.len, intsSh.on h.wds fun b hb' => hB.block b (by have := h.lo; have := h.lt; omega), h.siz⟩
theorem HH.same (h : HH B hb hm wv W half base next lk M w) (e : w'.heap = w.heap) : HH B hb hm wv W half base next lk M w' :=
  ⟨h.lo, by rw [e]; exact h.blk, by rw [e]; exact h.mks, h.len, intsSh.on h.wds fun b _ => by rw [e], h.siz⟩
theorem HH.drewN (h : HH B hb hm wv W half base next lk M w) (n : Nat) : HH B hb hm wv W half base next lk M (w.drewN n) := h.same rfl
theorem HH.c0 (h : HH B hb hm wv W half base next lk M w) : w.cell? ⟨hb, 0, none⟩ = some (.int .i32 lk) := by simp [World.cell?, h.blk]
theorem HH.c2 (h : HH B hb hm wv W half base next lk M w) : w.cell? ⟨hb, 2, none⟩ = some (.int .i64 (timesF base)) := by simp [World.cell?, h.blk]
theorem HH.c3 (h : HH B hb hm wv W half base next lk M w) : w.cell? ⟨hb, 3, none⟩ = some wv := by simp [World.cell?, h.blk]
theorem HH.c4 (h : HH B hb hm wv W half base next lk M w) : w.cell? ⟨hb, 4, none⟩ = some (.int .i64 half) := by simp [World.cell?, h.blk]
theorem HH.c5 (h : HH B hb hm wv W half base next lk M w) : w.cell? ⟨hb, 5, none⟩ = some (.int .i64 next) := by simp [World.cell?, h.blk]
theorem HH.c6 (h : HH B hb hm wv W half base next lk M w) : w.cell? ⟨hb, 6, none⟩ = some (.slice (some ⟨hm, 0, none⟩) half half) := by simp [World.cell?, h.blk]
theorem HH.frz (h : HH B hb hm wv W half base next lk M w) (j : Nat) : w.frozen? ⟨hb, j, none⟩ = false := by simp [World.frozen?, h.blk]
theorem HH.mfrz (h : HH B hb hm wv W half base next lk M w) (j : Nat) : w.frozen? ⟨hm, j, none⟩ = false := by simp [World.frozen?, h.mks]
theorem HH.mk_ (h : HH B hb hm wv W half base next lk M w) (j : Nat) (hj : j < half) : w.cell? ⟨hm, j, none⟩ = some (.bool (M.getD j false)) := by
  have hl : j < M.length := by rw [h.len]; exact hj
  simp [World.cell?, h.mks, List.getD, hl]
end

set_option maxHeartbeats 2000000 in
theorem base_is {B hb hm : Nat} {wv : Value} {W : List Int} {half base next : Nat} {lk : Int} {M : List Bool} {w : World} (h : HH B hb hm wv W half base next lk M w) :
    Calls Tryz.prog 47 #[.pointer (some ⟨hb, 0, none⟩)] w fun e w' => e = .returned (.int .i64 base) ∧ ∃ n, w' = w.drewN n := by
  have hs := h.siz
  have c2 := h.c2
  have c4 := h.c4
  have c2n : ∀ n, (w.drewN n).cell? ⟨hb, 2, none⟩ = some (.int .i64 (timesF base)) := fun n => h.c2
  by_cases hz : base = 0
  · subst hz
    have e : timesF 0 = 0 := rfl
    rw [e] at c2 c2n
    clear h e
    go_enter Tryz.func47, Tryz.ntmps47
    go_wp2
    go_quiet ((go_at_call 82; exact Calls.quiet_of_same (lock.load_is (c2n _))))
    go_wp2
    go_ret
    exact ⟨ret_i (by first | rfl | (simp; done) | omega), ⟨_, rfl⟩⟩
  · have e : timesF base = 1 := by unfold timesF; rw [if_neg hz]
    rw [e] at c2 c2n
    clear h e
    go_enter Tryz.func47, Tryz.ntmps47
    go_wp2
    go_quiet ((go_at_call 82; exact Calls.quiet_of_same (lock.load_is (c2n _))))
    go_wp2
    go_ret
    exact ⟨ret_i (by first | rfl | omega | (simp; omega)), ⟨_, rfl⟩⟩

/-- Whether a block begins at p, by the marks. -/
def atB (base next : Nat) (M : List Bool) (p : Int) : Bool := decide ((base : Int) ≤ p) && decide (p < (next : Int)) && M.getD (p - base).toNat false

set_option maxHeartbeats 2000000 in
theorem isBlock_is {B hb hm : Nat} {wv : Value} {W : List Int} {half base next : Nat} {lk : Int} {M : List Bool} {w : World} (h : HH B hb hm wv W half base next lk M w) (p : Int) (h1 : -9223372036854775808 ≤ p) (h2 : p ≤ 9223372036854775807) :
    Calls Tryz.prog 69 #[.pointer (some ⟨hb, 0, none⟩), .int .i64 p] w fun e w' => e = .returned (.bool (atB base next M p)) ∧ ∃ n, w' = w.drewN n := by
  have hs := h.siz
  have hcall := base_is h
  have H : Hid (HH B hb hm wv W half base next lk M w) := h
  rcases q1 : decide ((base : Int) ≤ p) with _ | _
  · have HQ : Hid (atB base next M p = false) := by show _ = _; unfold atB; rw [q1]; rfl
    clear h
    go_enter Tryz.func69, Tryz.ntmps69
    go_wp2_with fail
    refine hcall.mono ?_
    rintro e w1 ⟨rfl, n, rfl⟩
    go_wp2
    go_ret
    exact ⟨ret_b HQ.out.symm, ⟨_, rfl⟩⟩
  rcases q2 : decide (p < (next : Int)) with _ | _
  · have HQ : Hid (atB base next M p = false) := by show _ = _; unfold atB; rw [q1, q2]; rfl
    clear h
    go_enter Tryz.func69, Tryz.ntmps69
    go_wp2_with fail
    refine hcall.mono ?_
    rintro e w1 ⟨rfl, n, rfl⟩
    have c5 := (H.out.drewN n).c5
    go_wp2
    go_ret
    exact ⟨ret_b HQ.out.symm, ⟨_, rfl⟩⟩
  · have g1 := of_decide_eq_true q1
    have g2 := of_decide_eq_true q2
    obtain ⟨j, hj⟩ : ∃ j : Nat, p = base + j := ⟨(p - base).toNat, by omega⟩
    subst hj
    have hjh : j < half := by omega
    have HQ : Hid (atB base next M ((base : Int) + j) = M.getD j false) := by
      show _ = _; unfold atB; rw [q1, q2]; simp only [Bool.true_and]; rw [show ((base : Int) + j - base).toNat = j by omega]
    clear h
    go_enter Tryz.func69, Tryz.ntmps69
    go_wp2_with fail
    refine hcall.mono ?_
    rintro e w1 ⟨rfl, n, rfl⟩
    have c5 := (H.out.drewN n).c5
    have c6 := (H.out.drewN n).c6
    have cm := (H.out.drewN n).mk_ j hjh
    have e1 : (base : Int) + j - base = j := by omega
    go_wp2
    go_ret
    exact ⟨ret_b HQ.out.symm, ⟨_, rfl⟩⟩

/-- Whether a word is an int of a word, or a block's place by the marks. -/
def kidM (base next : Nat) (M : List Bool) (x : Int) : Bool := if x % 2 = 0 then atB base next M (x / 2) else inB (x / 2) (-1073741824) 1073741823

set_option maxHeartbeats 2000000 in
theorem okKid_is {B hb hm : Nat} {wv : Value} {W : List Int} {half base next : Nat} {lk : Int} {M : List Bool} {w : World} (h : HH B hb hm wv W half base next lk M w) (x : Int) (h1 : -9223372036854775808 ≤ x) (h2 : x ≤ 9223372036854775807) :
    Calls Tryz.prog 76 #[.pointer (some ⟨hb, 0, none⟩), .int .i64 x] w fun e w' => e = .returned (.bool (kidM base next M x)) ∧ ∃ n, w' = w.drewN n := by
  have ha := and_one x
  have hcall := isBlock_is h (x / 2) (by omega) (by omega)
  clear h
  by_cases q : x % 2 = 0
  · have HQ : Hid (kidM base next M x = atB base next M (x / 2)) := by show _ = _; unfold kidM; rw [if_pos q]
    rw [q] at ha
    go_enter Tryz.func76, Tryz.ntmps76
    go_wp2_with (first | (go_at_call 84; go_in) | (go_at_call 106; go_in))
    refine hcall.mono ?_
    rintro e w1 ⟨rfl, n, rfl⟩
    go_wp2
    go_ret
    exact ⟨ret_b HQ.out.symm, ⟨_, rfl⟩⟩
  · have HQ : Hid (kidM base next M x = inB (x / 2) (-1073741824) 1073741823) := by show _ = _; unfold kidM; rw [if_neg q]
    have q1 : x % 2 = 1 := by omega
    rw [q1] at ha
    obtain ⟨b, hbx⟩ : ∃ b, inB (x / 2) (-1073741824) 1073741823 = b := ⟨_, rfl⟩
    clear hcall
    go_enter Tryz.func76, Tryz.ntmps76
    go_wp2_with (first | (go_at_call 84; go_in) | (go_at_call 83; go_in) | (go_at_call 107; refine (words.wordI_is hbx).mono ?_; rintro e w' ⟨rfl, hx⟩; subst w'))
    go_ret
    exact ⟨ret_b (by rw [HQ.out, hbx]), ⟨0, rfl⟩⟩

end Go.Proofs.YthpdkjenadngoaaGreatDoor.heap

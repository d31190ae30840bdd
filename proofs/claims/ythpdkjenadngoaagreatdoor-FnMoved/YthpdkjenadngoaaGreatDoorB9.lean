/-
  The model's l18Move, where l18Collect calls it: a word as it is behind, its block moved if it was not yet.
-/
import Derived.Deep.RegionWith
import Derived.Test.YthpdkjenadngoaaGreatDoorB1
import Derived.Test.YthpdkjenadngoaaGreatDoorB2
import Derived.Test.YthpdkjenadngoaaGreatDoorB3
import Derived.Test.YthpdkjenadngoaaGreatDoorB4
import Derived.Test.YthpdkjenadngoaaGreatDoorB5
import Derived.Test.YthpdkjenadngoaaGreatDoorB6
import Derived.Test.YthpdkjenadngoaaGreatDoorB7
import Derived.Test.YthpdkjenadngoaaGreatDoorB8
namespace Go.Proofs.YthpdkjenadngoaaGreatDoor.heap
open Go Go.RowKit Go.Deep Go.Proofs.YthpdkjenadngoaaGreatDoor.rose Go.Proofs.YthpdkjenadngoaaGreatDoor Go.Proofs.YthpdkjenadngoaaGreatDoor.fun Go.Proofs.YthpdkjenadngoaaGreatDoor.words Go.Proofs.YthpdkjenadngoaaGreatDoor.ints
set_option linter.unusedVariables false
set_option linter.unusedSimpArgs false

/-- How the mover lies in memory: its block g, the words of the other half in block q. -/
structure MS (lo : Nat) (w0 wr : World) (g q : Nat) (fw f1 f2 f3 : Value) (half b : Int) (s : CS) (vo vn : Value) : Prop where
  bel : Below lo w0 wr
  ord : lo ≤ q ∧ q < g
  blk : wr.heap[g]? = some (.cells #[fw, f1, f2, f3, .slice (some ⟨q, 0, none⟩) s.1.length s.1.length, .int .i64 half, .int .i64 b, .int .i64 s.2.1, vo, vn] 96)
  tw : wr.heap[q]? = some (.cells (s.1.map (Value.int .i64)).toArray 3)
  ro : IRow wr (g + 1) vo s.2.2.1
  rn : IRow wr (g + 1) vn s.2.2.2
  ap : ∀ k, vo.ownBlock = some k → vn.ownBlock ≠ some k
/-- What else was there is left as it was. -/
structure Left (wr w' : World) (g q : Nat) (vo vn vo' vn' : Value) : Prop where
  size : wr.heap.size ≤ w'.heap.size
  same : ∀ k, k < wr.heap.size → k ≠ g → k ≠ q → vo.ownBlock ≠ some k → vn.ownBlock ≠ some k → w'.heap[k]? = wr.heap[k]? ∧ vo'.ownBlock ≠ some k ∧ vn'.ownBlock ≠ some k
theorem Left.refl (wr : World) (g q : Nat) (vo vn : Value) : Left wr wr g q vo vn vo vn := ⟨Nat.le_refl _, fun k _ _ _ h1 h2 => ⟨rfl, h1, h2⟩⟩

theorem blk_cellM {w : World} {b i : Nat} {cur : Array Value} {t : TypeId} {v : Value} (h : w.heap[b]? = some (.cells cur t)) (hi : cur[i]? = some v) : w.cell? ⟨b, i, none⟩ = some v := by simp [World.cell?, h, hi]
theorem blk_freeM {w : World} {b i : Nat} {cur : Array Value} {t : TypeId} (h : w.heap[b]? = some (.cells cur t)) : w.frozen? ⟨b, i, none⟩ = false := by simp [World.frozen?, h]
theorem MS.lt {lo : Nat} {w0 wr : World} {g q : Nat} {fw f1 f2 f3 : Value} {half b : Int} {s : CS} {vo vn : Value} (h : MS lo w0 wr g q fw f1 f2 f3 half b s vo vn) : g < wr.heap.size := (Array.getElem?_eq_some_iff.1 h.blk).1
theorem irow_sameM {w w' : World} {base : Nat} {v : Value} {l : List Int} (h : IRow w base v l) (hb : ∀ q, v.ownBlock = some q → w'.heap[q]? = w.heap[q]?) : IRow w' base v l := ⟨own_same h.1 hb, h.2⟩

set_option maxHeartbeats 1000000 in
theorem refword_is (n : Int) (w : World) : Calls Tryz.prog 75 #[.int .i64 n] w fun e w' => e = .returned (.int .i64 (refWordF n)) ∧ w' = w := by
  rcases q : inB n 0 6000 with _ | _
  · have HQ : Hid (refWordF n = 0) := by show _ = _; unfold refWordF; rw [q]; rfl
    go_enter Tryz.func75, Tryz.ntmps75
    go_wp2_with (go_at_call 87; refine (in_is q).mono ?_; rintro e w' ⟨rfl, hx⟩; subst w')
    go_ret
    exact ⟨ret_i HQ.out.symm, rfl⟩
  · have HQ : Hid (refWordF n = 2 * n) := by show _ = _; unfold refWordF; rw [q]; rfl
    have := inB_yes q
    go_enter Tryz.func75, Tryz.ntmps75
    go_wp2_with (go_at_call 87; refine (in_is q).mono ?_; rintro e w' ⟨rfl, hx⟩; subst w')
    go_ret
    exact ⟨ret_i HQ.out.symm, rfl⟩

section
variable {lo : Nat} {w0 wr : World} {g q : Nat} {fw f1 f2 f3 : Value} {half b : Int} {s : CS} {vo vn : Value}
theorem MS.drew (h : MS lo w0 wr g q fw f1 f2 f3 half b s vo vn) : MS lo w0 wr.drew g q fw f1 f2 f3 half b s vo vn := ⟨h.bel.drew, h.ord, h.blk, h.tw, h.ro, h.rn, h.ap⟩
/-- A word of the other half is turned. -/
theorem MS.word (h : MS lo w0 wr g q fw f1 f2 f3 half b s vo vn) (j : Nat) (x : Int) : MS lo w0 (wr.setCell ⟨q, j, none⟩ (.int .i64 x)) g q fw f1 f2 f3 half b (s.1.set j x, s.2) vo vn ∧ Left wr (wr.setCell ⟨q, j, none⟩ (.int .i64 x)) g q vo vn vo vn := by
  have ho := h.ord
  have oth : ∀ k, k ≠ q → (wr.setCell ⟨q, j, none⟩ (.int .i64 x)).heap[k]? = wr.heap[k]? := fun k hk => Below.heap_setCell _ _ _ _ hk
  refine ⟨⟨h.bel.setCell (by exact ho.1) _, ho, ?_, ?_, irow_sameM h.ro fun k hk => oth k ?_, irow_sameM h.rn fun k hk => oth k ?_, h.ap⟩, ⟨by simp [World.setCell], fun k _ _ hk h1 h2 => ⟨oth k hk, h1, h2⟩⟩⟩
  · rw [oth g (by omega), h.blk]; simp
  · simp [World.setCell, Array.getElem?_modify, h.tw, List.map_set]
  · have := (h.ro.lt k hk).1; omega
  · have := (h.rn.lt k hk).1; omega
/-- How far it is in use. -/
theorem MS.nextTo (h : MS lo w0 wr g q fw f1 f2 f3 half b s vo vn) (n : Nat) : MS lo w0 (wr.setCell ⟨g, 7, none⟩ (.int .i64 n)) g q fw f1 f2 f3 half b (s.1, n, s.2.2) vo vn ∧ Left wr (wr.setCell ⟨g, 7, none⟩ (.int .i64 n)) g q vo vn vo vn := by
  have ho := h.ord
  have oth : ∀ k, k ≠ g → (wr.setCell ⟨g, 7, none⟩ (.int .i64 n)).heap[k]? = wr.heap[k]? := fun k hk => Below.heap_setCell _ _ _ _ hk
  refine ⟨⟨h.bel.setCell (by show lo ≤ g; omega) _, ho, ?_, ?_, irow_sameM h.ro fun k hk => oth k ?_, irow_sameM h.rn fun k hk => oth k ?_, h.ap⟩, ⟨by simp [World.setCell], fun k _ hk _ h1 h2 => ⟨oth k hk, h1, h2⟩⟩⟩
  · simp [World.setCell, Array.getElem?_modify, h.blk]
  · rw [oth q (by omega)]; exact h.tw
  · have := (h.ro.lt k hk).1; omega
  · have := (h.rn.lt k hk).1; omega
/-- A place is told as moved. -/
theorem MS.wasPut (h : MS lo w0 wr g q fw f1 f2 f3 half b s vo vn) {w3 : World} {X : Obj} {a3 : Option Addr} {c3 : Nat} {x : Int} (hx : InR x)
    (o3 : w3.ownsRow (g + 1) 3 1 (.slice a3 (s.2.2.1.length + 1) c3) (s.2.2.1.length + 1) (s.2.2.1.map (Value.int .i64) ++ [.int .i64 x])) (g3 : (wr.alloc X).grownBy w3 vo.ownBlock)
    (e3 : (Value.slice a3 (s.2.2.1.length + 1) c3).ownBlock = vo.ownBlock ∨ (Value.slice a3 (s.2.2.1.length + 1) c3).ownBlock = some (wr.alloc X).heap.size) :
    MS lo w0 (w3.setCell ⟨g, 8, none⟩ (.slice a3 (s.2.2.1.length + 1) c3)) g q fw f1 f2 f3 half b (s.1, s.2.1, s.2.2.1 ++ [x], s.2.2.2) (.slice a3 (s.2.2.1.length + 1) c3) vn ∧ Left wr (w3.setCell ⟨g, 8, none⟩ (.slice a3 (s.2.2.1.length + 1) c3)) g q vo vn (.slice a3 (s.2.2.1.length + 1) c3) vn := by
  have ho := h.ord
  have hg := h.lt
  have hZ : (wr.alloc X).heap.size = wr.heap.size + 1 := by simp
  have hs := g3.size
  have vr := fun k hk => h.ro.lt k hk
  have nr := fun k hk => h.rn.lt k hk
  have oth : ∀ k, k < wr.heap.size → vo.ownBlock ≠ some k → w3.heap[k]? = wr.heap[k]? := fun k h1 h2 => (g3.block k (by omega) (fun e => h2 e.symm)).trans (Below.heap_alloc _ _ _ h1)
  have oth2 : ∀ k, k ≠ g → (w3.setCell ⟨g, 8, none⟩ (.slice a3 (s.2.2.1.length + 1) c3)).heap[k]? = w3.heap[k]? := fun k hk => Below.heap_setCell _ _ _ _ hk
  have hgo : w3.heap[g]? = _ := (oth g hg (fun e => by have := (vr g e).1; omega)).trans h.blk
  have hne : ∀ k, k < wr.heap.size → vo.ownBlock ≠ some k → (Value.slice a3 (s.2.2.1.length + 1) c3).ownBlock ≠ some k := fun k h1 h2 e => by
    rcases e3 with e4 | e4
    · rw [e4] at e; exact h2 e
    · rw [e4] at e; simp only [Option.some.injEq] at e; omega
  refine ⟨⟨?_, ho, ?_, ?_, ?_, irow_sameM h.rn fun k hk => ?_, fun k hk hk2 => ?_⟩, ⟨by simp [World.setCell]; omega, fun k h1 h2 h3 h4 h5 => ⟨(oth2 k h2).trans (oth k h1 h4), hne k h1 h4, h5⟩⟩⟩
  · exact ((h.bel.alloc (by have := h.bel.size; omega) _).grown g3 (by omega) (fun k hk => by have := (vr k hk).1; omega)).setCell (by show lo ≤ g; omega) _
  · simp [World.setCell, Array.getElem?_modify, hgo]
  · rw [oth2 q (by omega), oth q (by omega) (fun e => by have := (vr q e).1; omega)]; exact h.tw
  · refine irow_sameM (w := w3) ⟨?_, fun y hy => ?_⟩ fun k hk => oth2 k ?_
    · rw [List.length_append, List.length_singleton, List.map_append]; exact o3
    · rcases List.mem_append.1 hy with q | q
      · exact h.ro.2 y q
      · simp only [List.mem_singleton] at q; subst q; exact hx
    · intro e; rw [e] at hk
      exact hne g hg (fun e => by have := (vr g e).1; omega) hk
  · have := nr k hk
    rw [oth2 k (by omega)]
    exact oth k this.2 (fun e => h.ap k e hk)
  · have := nr k hk2
    exact hne k this.2 (fun e => h.ap k e hk2) hk
theorem MS.nowPut (h : MS lo w0 wr g q fw f1 f2 f3 half b s vo vn) {w3 : World} {X : Obj} {a3 : Option Addr} {c3 : Nat} {x : Int} (hx : InR x)
    (o3 : w3.ownsRow (g + 1) 3 1 (.slice a3 (s.2.2.2.length + 1) c3) (s.2.2.2.length + 1) (s.2.2.2.map (Value.int .i64) ++ [.int .i64 x])) (g3 : (wr.alloc X).grownBy w3 vn.ownBlock)
    (e3 : (Value.slice a3 (s.2.2.2.length + 1) c3).ownBlock = vn.ownBlock ∨ (Value.slice a3 (s.2.2.2.length + 1) c3).ownBlock = some (wr.alloc X).heap.size) :
    MS lo w0 (w3.setCell ⟨g, 9, none⟩ (.slice a3 (s.2.2.2.length + 1) c3)) g q fw f1 f2 f3 half b (s.1, s.2.1, s.2.2.1, s.2.2.2 ++ [x]) vo (.slice a3 (s.2.2.2.length + 1) c3) ∧ Left wr (w3.setCell ⟨g, 9, none⟩ (.slice a3 (s.2.2.2.length + 1) c3)) g q vo vn vo (.slice a3 (s.2.2.2.length + 1) c3) := by
  have ho := h.ord
  have hg := h.lt
  have hZ : (wr.alloc X).heap.size = wr.heap.size + 1 := by simp
  have hs := g3.size
  have vr := fun k hk => h.ro.lt k hk
  have nr := fun k hk => h.rn.lt k hk
  have oth : ∀ k, k < wr.heap.size → vn.ownBlock ≠ some k → w3.heap[k]? = wr.heap[k]? := fun k h1 h2 => (g3.block k (by omega) (fun e => h2 e.symm)).trans (Below.heap_alloc _ _ _ h1)
  have oth2 : ∀ k, k ≠ g → (w3.setCell ⟨g, 9, none⟩ (.slice a3 (s.2.2.2.length + 1) c3)).heap[k]? = w3.heap[k]? := fun k hk => Below.heap_setCell _ _ _ _ hk
  have hgo : w3.heap[g]? = _ := (oth g hg (fun e => by have := (nr g e).1; omega)).trans h.blk
  have hne : ∀ k, k < wr.heap.size → vn.ownBlock ≠ some k → (Value.slice a3 (s.2.2.2.length + 1) c3).ownBlock ≠ some k := fun k h1 h2 e => by
    rcases e3 with e4 | e4
    · rw [e4] at e; exact h2 e
    · rw [e4] at e; simp only [Option.some.injEq] at e; omega
  refine ⟨⟨?_, ho, ?_, ?_, irow_sameM h.ro fun k hk => ?_, ?_, fun k hk hk2 => ?_⟩, ⟨by simp [World.setCell]; omega, fun k h1 h2 h3 h4 h5 => ⟨(oth2 k h2).trans (oth k h1 h5), h4, hne k h1 h5⟩⟩⟩
  · exact ((h.bel.alloc (by have := h.bel.size; omega) _).grown g3 (by omega) (fun k hk => by have := (nr k hk).1; omega)).setCell (by show lo ≤ g; omega) _
  · simp [World.setCell, Array.getElem?_modify, hgo]
  · rw [oth2 q (by omega), oth q (by omega) (fun e => by have := (nr q e).1; omega)]; exact h.tw
  · have := vr k hk
    rw [oth2 k (by omega)]
    exact oth k this.2 (h.ap k hk)
  · refine irow_sameM (w := w3) ⟨?_, fun y hy => ?_⟩ fun k hk => oth2 k ?_
    · rw [List.length_append, List.length_singleton, List.map_append]; exact o3
    · rcases List.mem_append.1 hy with q | q
      · exact h.rn.2 y q
      · simp only [List.mem_singleton] at q; subst q; exact hx
    · intro e; rw [e] at hk
      exact hne g hg (fun e => by have := (nr g e).1; omega) hk
  · have := vr k hk
    exact hne k this.2 (h.ap k hk) hk2
theorem Left.trans {w2 w3 : World} {g q : Nat} {vo vn vo2 vn2 vo3 vn3 : Value} (h : Left wr w2 g q vo vn vo2 vn2) (h2 : Left w2 w3 g q vo2 vn2 vo3 vn3) : Left wr w3 g q vo vn vo3 vn3 :=
  ⟨Nat.le_trans h.size h2.size, fun k k1 k2 k3 k4 k5 => by
    obtain ⟨e1, e2, e3⟩ := h.same k k1 k2 k3 k4 k5
    obtain ⟨d1, d2, d3⟩ := h2.same k (Nat.lt_of_lt_of_le k1 h.size) k2 k3 e2 e3
    exact ⟨d1.trans e1, d2, d3⟩⟩
theorem Left.drew {g q : Nat} {w2 : World} {vo vn vo2 vn2 : Value} (h : Left wr w2 g q vo vn vo2 vn2) : Left wr w2.drew g q vo vn vo2 vn2 := ⟨h.size, h.same⟩
end

theorem idx_is {O : List Int} {p : Int} : ∀ {i : Nat} (hi : i < O.length), O[i] = p → (∀ m (hm : m < O.length), m < i → O[m] ≠ p) → O.idxOf p = i := by
  induction O with
  | nil => intro i hi; simp at hi
  | cons y O ih =>
    intro i hi he hn
    cases i with
    | zero => simp at he; subst he; simp
    | succ i =>
      have h0 : y ≠ p := by have := hn 0 (by simp) (by omega); simpa using this
      have hbq : (y == p) = false := by simpa using h0
      have e1 : (y :: O).idxOf p = O.idxOf p + 1 := by simp [List.idxOf_cons, hbq]
      rw [e1, ih (by simpa using hi) (by simpa using he) (fun m hm h1 => by have := hn (m + 1) (by simpa using hm) (by omega); simpa using this)]

set_option maxRecDepth 100000 in
set_option maxHeartbeats 16000000 in
theorem move_any (T : HeapD) (lo : Nat) (w0 wb : World) (g q : Nat) (a0 : Option Addr) (c0 : Nat) (f1 f2 f3 : Value) (half b : Int) (s : CS) (vo vn : Value) (k j : Nat) (x : Int) (hb : heapB T = true) (hx : thereB (plT T).1 x = true) (hr : InR x)
    (hW : intsSh.rep w0 (· < lo) [.slice a0 T.1.length c0] T.1) (hci : CI T k j s) (h : MS lo w0 wb g q (.slice a0 T.1.length c0) f1 f2 f3 half b s vo vn) :
    Calls Tryz.prog 55 #[.pointer (some ⟨g, 0, none⟩), .int .i64 x] wb fun e w' => e = .returned (.int .i64 (mvF T.1 s x).2) ∧ ∃ vo' vn', MS lo w0 w' g q (.slice a0 T.1.length c0) f1 f2 f3 half b (mvF T.1 s x).1 vo' vn' ∧ Left wb w' g q vo vn vo' vn' := by
  obtain ⟨W, hf, ba, nxt⟩ := T
  dsimp only at hW h ⊢
  obtain ⟨a, cap, e, hcap0, hmax0, hat0⟩ := ints_open hW
  cases e
  have HW : Hid _ := hat0
  have HM : Hid (MS lo w0 wb g q (.slice a0 W.length c0) f1 f2 f3 half b s vo vn) := h
  have HCI : Hid (CI (W, hf, ba, nxt) k j s) := hci
  have HB : Hid (heapB (W, hf, ba, nxt) = true) := hb
  rcases q1 : decide (x % 2 = 0) with _ | _
  · have HE : Hid (mvF W s x = (s, x)) := mv_odd (of_decide_eq_false q1)
    clear hW h hci hat0 hcap0 hmax0
    go_enter Tryz.func55, Tryz.ntmps55
    go_wp2_with (go_at_call 58; refine (isref_is q1).mono ?_; rintro e w' ⟨rfl, hx⟩; subst w')
    go_ret
    rw [HE.out]
    exact ⟨rfl, vo, vn, HM.out, Left.refl _ _ _ _ _⟩
  · have h2 : x % 2 = 0 := of_decide_eq_true q1
    have hmem : x / 2 ∈ (plT (W, hf, ba, nxt)).1 := by unfold thereB at hx; rw [if_pos h2] at hx; exact of_decide_eq_true hx
    have HMEM : Hid (x / 2 ∈ (plT (W, hf, ba, nxt)).1) := hmem
    have hol : s.2.2.1.length ≤ 6000 := by have := hci.inv.len; have := places_len hb; dsimp only at this; omega
    have g8 : wb.cell? ⟨g, 8, none⟩ = some vo := blk_cellM (i := 8) h.blk rfl
    have g9 : wb.cell? ⟨g, 9, none⟩ = some vn := blk_cellM (i := 9) h.blk rfl
    have g0 : wb.cell? ⟨g, 0, none⟩ = some (.slice a0 W.length c0) := blk_cellM (i := 0) h.blk rfl
    have g7 : wb.cell? ⟨g, 7, none⟩ = some (.int .i64 s.2.1) := blk_cellM (i := 7) h.blk rfl
    obtain ⟨ao, co, hvo⟩ := own_form h.ro.1
    obtain ⟨an, cn, hvn⟩ := own_form h.rn.1
    subst hvo
    subst hvn
    obtain ⟨O, hO⟩ : ∃ O, O = s.2.2.1 := ⟨_, rfl⟩
    obtain ⟨N, hN⟩ : ∃ N, N = s.2.2.2 := ⟨_, rfl⟩
    have HO : Hid (O = s.2.2.1 ∧ N = s.2.2.2) := ⟨hO, hN⟩
    rw [← hO] at g8 hol
    rw [← hN] at g9
    have hRO : IRow wb (g + 1) (.slice ao O.length co) O := by rw [hO]; exact h.ro
    have hRN : IRow wb (g + 1) (.slice an N.length cn) N := by rw [hN]; exact h.rn
    have HRO : Hid (IRow wb (g + 1) (.slice ao O.length co) O) := hRO
    have HRN : Hid (IRow wb (g + 1) (.slice an N.length cn) N) := hRN
    have HMM : Hid (MS lo w0 wb g q (.slice a0 W.length c0) f1 f2 f3 half b s (.slice ao O.length co) (.slice an N.length cn)) := by rw [hO, hN]; exact h
    have hNO : N.length = O.length := by rw [hN, hO]; exact hci.nlen
    by_cases hin : x / 2 ∈ O
    · have HE : Hid (mvF W s x = (s, refWordF (N.getD (O.idxOf (x / 2)) 0))) := by show _ = _; rw [mv_old h2 (by rw [← hO]; exact hin), ← hO, ← hN]
      have HIN : Hid (x / 2 ∈ O) := hin
      rw [← hO, ← hN]
      clear hW h hci hat0 hcap0 hmax0 hRO hRN hO hN hx hmem hin
      go_enter Tryz.func55, Tryz.ntmps55
      go_wp2_with (first
        | (go_at_call 58; refine (isref_is q1).mono ?_; rintro e w' ⟨rfl, hx⟩; subst w')
        | (go_at_call 60; refine (wordref_is _ _).mono ?_; rintro e w' ⟨rfl, hx⟩; subst w'))
      go_loopw [6] (fun v6 wi => ∃ i : Nat, i ≤ O.length ∧ v6 = .int .i64 i ∧ wi = wb ∧ Hid (∀ m (hm : m < O.length), m < i → O[m] ≠ x / 2)) (fun v6 _ => O.length - (intOf v6).toNat)
      case atStart => exact ⟨0, Nat.zero_le _, rfl, rfl, fun m _ hm => absurd hm (Nat.not_lt_zero _)⟩
      case round =>
        obtain ⟨i, hi, rfl, hwr, HJ⟩ := hrel
        subst wr
        by_cases hlt : i < O.length
        · rcases HRO.out.open with ⟨-, h0⟩ | ⟨go, cp, hv, -, -, -, -, hcl, -⟩
          · rw [h0] at hlt; simp at hlt
          cases hv
          have e0 : wb.cell? ⟨go, i, none⟩ = some (.int .i64 O[i]) := hcl i hlt
          have iI : (i : Int) < (O.length : Int) := by omega
          clear hcl
          by_cases he : O[i] = x / 2
          · rw [he] at e0
            rcases HRN.out.open with ⟨-, h0⟩ | ⟨gn, cp2, hv2, -, -, -, -, hcl2, -⟩
            · rw [h0] at hNO; simp at hNO; omega
            cases hv2
            have e1 : wb.cell? ⟨gn, i, none⟩ = some (.int .i64 (N[i]'(by omega))) := hcl2 i (by omega)
            have HID : Hid (O.idxOf (x / 2) = i) := idx_is hlt he HJ.out
            have HG : Hid (N.getD i 0 = N[i]'(by omega)) := by show _ = _; rw [List.getD_eq_getElem?_getD, List.getElem?_eq_getElem (by omega)]; rfl
            have nI : (i : Int) < (N.length : Int) := by omega
            generalize N[i]'(by omega) = y at e1 HG
            clear hcl2
            go_wp2_with (go_at_call 75; refine (refword_is _ _).mono ?_; rintro e w' ⟨rfl, hx⟩; subst w')
            go_ret
            rw [HE.out, HID.out, HG.out]
            exact ⟨rfl, _, _, HMM.out, Left.refl _ _ _ _ _⟩
          · have hne : (O[i] == x / 2) = false := by simpa using he
            have HN2 : Hid (∀ m (hm : m < O.length), m < i + 1 → O[m] ≠ x / 2) := fun m hm h1 => by
              by_cases e : m = i
              · subst e; exact he
              · exact HJ.out m hm (by omega)
            generalize O[i] = y at e0 hne
            clear he
            go_wp2
            go_round
            case rel => exact ⟨i + 1, by omega, by go_num, by first | rfl | trivial, HN2⟩
            case measure => simp [intOf]; omega
        · obtain rfl : i = O.length := by omega
          exfalso
          obtain ⟨m, hm, e⟩ := List.getElem_of_mem HIN.out
          exact HJ.out m hm hm e
    · have HE : Hid (mvF W s x = ((putW s.1 s.2.1 (rawB W (x / 2).toNat), s.2.1 + 1 + (manyF (W.getD (x / 2).toNat 0)).toNat, s.2.2.1 ++ [x / 2], s.2.2.2 ++ [(s.2.1 : Int)]), refWordF s.2.1)) := mv_new h2 (by rw [← hO]; exact hin)
      obtain ⟨z, hz, hzm⟩ := place_in hb hmem
      dsimp only at hzm
      have hroom := hci.room hb hmem (by rw [← hO]; exact hin)
      dsimp only at hroom
      have HINX : Hid ((z : Int) ∉ O) := by rw [← hz]; exact hin
      have hzl : z < W.length := by omega
      obtain ⟨b0, o0, rfl, hS0, hc0, r1, r2⟩ := HW.out z hzl
      have w0c : wb.cell? ⟨b0, o0 + z, none⟩ = some (.int .i64 W[z]) := (h.bel.cell (p := ⟨b0, o0 + z, none⟩) hS0).trans hc0
      have hgd := getD_at hzl
      obtain ⟨hd, hhd⟩ : ∃ y, y = W[z] := ⟨_, rfl⟩
      rw [← hhd] at w0c hgd r1 r2
      have hm := many_in hd
      obtain ⟨mn, hmn⟩ : ∃ t : Nat, (t : Int) = manyF hd := ⟨(manyF hd).toNat, by omega⟩
      have hmt : (manyF hd).toNat = mn := by omega
      have OF : Hid (∀ W' : World, Calls Tryz.prog 34 #[.int .i64 hd] W' fun e w' => e = .returned (.tuple #[.bool (funF hd), .int .i64 (tagF hd), .int .i64 mn]) ∧ w' = W') := fun W' => by rw [hmn]; exact of_is hd W' r1 r2
      have HRL : Hid ((rawB W z).length = mn + 1 ∧ z + mn < W.length) := ⟨by rw [rawB_len, hgd, hmt], by rw [hgd, hmt] at hzm; exact hzm⟩
      rw [hz] at hroom HE
      unfold szP at hroom
      rw [Int.toNat_natCast, hgd, hmt] at hroom
      obtain ⟨TW, nx, O', N'⟩ := s
      dsimp only at hO hN hroom g7 HE HM ⊢
      subst hO hN
      rw [Int.toNat_natCast, hgd, hmt] at HE
      have HTL : Hid (TW.length = W.length) := hci.tlen
      have hw6 : W.length ≤ 6000 := (places_len hb).2
      have hx2 : InR ((z : Int)) := by unfold InR; omega
      have HXZ : Hid (x / 2 = (z : Int)) := hz
      have zI : (z : Int) < (W.length : Int) := by omega
      obtain ⟨ti, hti, hz0, hz1, hz2⟩ := int_info
      have TI : Hid (Tryz.prog.info? 3 = some ti ∧ ti.zero = some (.int .i64 0) ∧ ti.size = 1 ∧ ti.bytes = 8) := ⟨hti, hz0, hz1, hz2⟩
      have HNO : Hid (N.length = O.length) := hNO
      clear hNO
      clear hW h hci hat0 hcap0 hmax0 hRO hRN hx hmem hin hc0 hzm hgd hhd hmn hti hz0 hz1 hz2 HCI HB HMEM hr hb HO r1 r2 hz
      go_enter Tryz.func55, Tryz.ntmps55
      go_wp2_with (first
        | (go_at_call 58; refine (isref_is q1).mono ?_; rintro e w' ⟨rfl, hx⟩; subst w')
        | (go_at_call 60; refine (wordref_is _ _).mono ?_; rintro e w' ⟨rfl, hx⟩; subst w'; rw [HXZ.out]))
      go_loopw [6] (fun v6 wi => ∃ i : Nat, i ≤ O.length ∧ v6 = .int .i64 i ∧ wi = wb ∧ Hid (∀ m (hm : m < O.length), m < i → O[m] ≠ (z : Int))) (fun v6 _ => O.length - (intOf v6).toNat)
      case atStart => exact ⟨0, Nat.zero_le _, rfl, rfl, fun m _ hm => absurd hm (Nat.not_lt_zero _)⟩
      case round =>
        obtain ⟨i, hi, rfl, hwr, HJ⟩ := hrel
        subst wr
        by_cases hlt : i < O.length
        · rcases HRO.out.open with ⟨-, h0⟩ | ⟨go, cp, hv, -, -, -, -, hcl, -⟩
          · rw [h0] at hlt; simp at hlt
          cases hv
          have e0 : wb.cell? ⟨go, i, none⟩ = some (.int .i64 O[i]) := hcl i hlt
          have iI : (i : Int) < (O.length : Int) := by omega
          clear hcl
          have he : O[i] ≠ (z : Int) := fun e => HINX.out (by rw [← e]; exact List.getElem_mem hlt)
          have hne : (O[i] == (z : Int)) = false := by simpa using he
          have HN2 : Hid (∀ m (hm : m < O.length), m < i + 1 → O[m] ≠ (z : Int)) := fun m hm h1 => by
            by_cases e : m = i
            · subst e; exact he
            · exact HJ.out m hm (by omega)
          generalize O[i] = y at e0 hne
          clear he
          go_wp2
          go_round
          case rel => exact ⟨i + 1, by omega, by go_num, by first | rfl | trivial, HN2⟩
          case measure => simp [intOf]; omega
        · obtain rfl : i = O.length := by omega
          clear HJ
          have f0 : ∀ jj, wb.frozen? ⟨g, jj, none⟩ = false := fun jj => blk_freeM HMM.out.blk
          have nxI : (nx : Int) + 1 + (mn : Int) ≤ 6000 := by omega
          go_wp2_with (go_at_call 34; refine (OF.out _).mono ?_; rintro e w' ⟨rfl, hx⟩; subst w')
          go_loopw [11] (fun v11 wi => ∃ m : Nat, m ≤ mn + 1 ∧ v11 = .int .i64 m ∧ Hid (MS lo w0 wi g q (.slice (some ⟨b0, o0, none⟩) W.length c0) f1 f2 f3 half b (putW TW nx ((rawB W z).take m), nx, O, N) (.slice ao O.length co) (.slice an N.length cn) ∧ Left wb wi g q (.slice ao O.length co) (.slice an N.length cn) (.slice ao O.length co) (.slice an N.length cn))) (fun v11 _ => mn + 1 - (intOf v11).toNat)
          case atStart => exact ⟨0, Nat.zero_le _, rfl, ⟨HMM.out, Left.refl _ _ _ _ _⟩⟩
          case round =>
            obtain ⟨m, hm1, rfl, HS⟩ := hrel
            have hTl : (putW TW nx ((rawB W z).take m)).length = W.length := by rw [putW_length, HTL.out]
            have k0 : wr.cell? ⟨g, 0, none⟩ = some (.slice (some ⟨b0, o0, none⟩) W.length c0) := blk_cellM (i := 0) HS.out.1.blk rfl
            have k4 : wr.cell? ⟨g, 4, none⟩ = some (.slice (some ⟨q, 0, none⟩) W.length W.length) := by have := blk_cellM (i := 4) HS.out.1.blk rfl; dsimp only at this; rw [hTl] at this; exact this
            by_cases hlt : m ≤ mn
            · have hzm : z + m < W.length := by have := HRL.out.2; omega
              obtain ⟨b1, o1, hbo, hS1, hc1, r1, r2⟩ := HW.out (z + m) hzm
              cases hbo
              have e1 : wr.cell? ⟨b0, o0 + (z + m), none⟩ = some (.int .i64 W[z + m]) := (HS.out.1.bel.cell (p := ⟨b0, o0 + (z + m), none⟩) hS1).trans hc1
              have hnm : nx + m < (putW TW nx ((rawB W z).take m)).length := by rw [hTl]; omega
              have e2 : wr.cell? ⟨q, nx + m, none⟩ = some (.int .i64 ((putW TW nx ((rawB W z).take m))[nx + m])) := blk_cellM HS.out.1.tw (by simp [hnm])
              have ef : ∀ jj, wr.frozen? ⟨q, jj, none⟩ = false := fun jj => blk_freeM HS.out.1.tw
              have NX : Hid (MS lo w0 (wr.setCell ⟨q, nx + m, none⟩ (.int .i64 W[z + m])).drew g q (.slice (some ⟨b0, o0, none⟩) W.length c0) f1 f2 f3 half b (putW TW nx ((rawB W z).take (m + 1)), nx, O, N) (.slice ao O.length co) (.slice an N.length cn) ∧ Left wb (wr.setCell ⟨q, nx + m, none⟩ (.int .i64 W[z + m])).drew g q (.slice ao O.length co) (.slice an N.length cn) (.slice ao O.length co) (.slice an N.length cn)) := by
                have hml : m < (rawB W z).length := by rw [HRL.out.1]; omega
                have h5 : putW TW nx ((rawB W z).take (m + 1)) = (putW TW nx ((rawB W z).take m)).set (nx + m) W[z + m] := by
                  rw [List.take_succ_eq_append_getElem hml, putW_push, rawB_get hml, getD_at hzm, List.length_take, Nat.min_eq_left (by omega)]
                rw [h5]
                have hw := HS.out.1.word (nx + m) W[z + m]
                exact ⟨hw.1.drew, (HS.out.2.trans hw.2).drew⟩
              have mI : (z : Int) + (m : Int) < (W.length : Int) := by omega
              have nI : (nx : Int) + (m : Int) < (W.length : Int) := by have := HRL.out; rw [hTl] at hnm; omega
              generalize (putW TW nx ((rawB W z).take m))[nx + m] = y2 at e2
              generalize W[z + m] = y1 at e1 NX
              clear hc1 r1 r2 hnm hTl
              go_wp2
              go_region
              all_goals
                go_wp2
                go_round
                case rel => exact ⟨m + 1, by omega, by go_num, NX⟩
                case measure => simp [intOf]; omega
            · obtain rfl : m = mn + 1 := by omega
              have hall : (rawB W z).take (mn + 1) = rawB W z := List.take_of_length_le (by rw [HRL.out.1]; exact Nat.le_refl _)
              rw [hall] at HS hTl
              obtain ⟨TW2, hTW2⟩ : ∃ Y, Y = putW TW nx (rawB W z) := ⟨_, rfl⟩
              rw [← hTW2] at HS
              have HE2 : Hid (mvF W (TW, nx, O, N) x = ((TW2, nx + 1 + mn, O ++ [(z : Int)], N ++ [(nx : Int)]), refWordF nx)) := by show _ = _; rw [HE.out, hTW2]
              have hn1 := HS.out.1.nextTo (nx + 1 + mn)
              have ec : ((nx + 1 + mn : Nat) : Int) = (nx : Int) + 1 + mn := by omega
              rw [ec] at hn1
              have M2 : Hid (MS lo w0 (wr.setCell ⟨g, 7, none⟩ (.int .i64 ((nx : Int) + 1 + mn))) g q (.slice (some ⟨b0, o0, none⟩) W.length c0) f1 f2 f3 half b (TW2, nx + 1 + mn, O, N) (.slice ao O.length co) (.slice an N.length cn) ∧ Left wb (wr.setCell ⟨g, 7, none⟩ (.int .i64 ((nx : Int) + 1 + mn))) g q (.slice ao O.length co) (.slice an N.length cn) (.slice ao O.length co) (.slice an N.length cn)) := ⟨hn1.1, HS.out.2.trans hn1.2⟩
              have k7 : wr.cell? ⟨g, 7, none⟩ = some (.int .i64 nx) := blk_cellM (i := 7) HS.out.1.blk rfl
              have kf : wr.frozen? ⟨g, 7, none⟩ = false := blk_freeM HS.out.1.blk
              have p8 : (wr.setCell ⟨g, 7, none⟩ (.int .i64 ((nx : Int) + 1 + mn))).cell? ⟨g, 8, none⟩ = some (.slice ao O.length co) := blk_cellM (i := 8) M2.out.1.blk rfl
              have hZ : Hid (g < wr.heap.size ∧ (wr.setCell ⟨g, 7, none⟩ (.int .i64 ((nx : Int) + 1 + mn))).heap.size = wr.heap.size) := by
                have e : (wr.setCell ⟨g, 7, none⟩ (.int .i64 ((nx : Int) + 1 + mn))).heap.size = wr.heap.size := by simp [World.setCell]
                exact ⟨by rw [← e]; exact M2.out.1.lt, e⟩
              have RK : Hid (((wr.setCell ⟨g, 7, none⟩ (.int .i64 ((nx : Int) + 1 + mn))).alloc (.cells #[.int .i64 (z : Int)] 3)).ownsRow (g + 1) 3 1 (.slice ao O.length co) O.length (O.map (Value.int .i64))) := M2.out.1.ro.1.alloc _
              have NC : Hid (∀ j u, [Value.int .i64 (z : Int)][j]? = some u → ((wr.setCell ⟨g, 7, none⟩ (.int .i64 ((nx : Int) + 1 + mn))).alloc (.cells #[.int .i64 (z : Int)] 3)).cell? ((⟨wr.heap.size, 0, none⟩ : Addr).add j) = some u) := by
                have := new_cell (wr.setCell ⟨g, 7, none⟩ (.int .i64 ((nx : Int) + 1 + mn))) 3 (.int .i64 (z : Int))
                rw [hZ.out.2] at this
                exact this
              have hnr : InR (nx : Int) := by unfold InR; omega
              clear HS hn1 hall hTW2 k0 k4 HE
              go_wp2_with (first
                | (at_builtin; refine wpList_append_own_at _ rfl (.tmp 98) (.tmp 100) 24 rfl (g + 1) 3 ti _ 1 8 Tryz.underlying24 TI.out.1 TI.out.2.1 TI.out.2.2.1 TI.out.2.2.2 rfl (by decide) (.slice ao O.length co) O.length (O.map (Value.int .i64)) rfl RK.out ⟨wr.heap.size, 0, none⟩ 1 1 [.int .i64 (z : Int)] rfl rfl NC.out (by simp; rfl) (by unfold maxLen; omega) (by omega) (by have := hZ.out; simp; omega) ?_; intro v3 w3 o3 g3 n3 a3
                   obtain ⟨a3', c3', rfl⟩ := own_form o3
                   have hM3 := M2.out.1.wasPut (x := (z : Int)) hx2 o3 g3 a3
                   have hG3 : w3.heap[g]? = _ := (g3.block g (by have := hZ.out; simp; omega) (fun e => by have := (M2.out.1.ro.lt g e.symm).1; omega)).trans ((Below.heap_alloc _ _ _ (by rw [hZ.out.2]; exact hZ.out.1)).trans M2.out.1.blk)
                   have y0 : w3.cell? ⟨g, 8, none⟩ = some (.slice ao O.length co) := blk_cellM (i := 8) hG3 rfl
                   have y1 : w3.frozen? ⟨g, 8, none⟩ = false := blk_freeM hG3
                   have y9 : w3.cell? ⟨g, 9, none⟩ = some (.slice an N.length cn) := blk_cellM (i := 9) hG3 rfl
                   have M3 : Hid _ := hM3
                   have hZ3 : Hid (g < w3.heap.size ∧ (w3.setCell ⟨g, 8, none⟩ (.slice a3' (O.length + 1) c3')).heap.size = w3.heap.size) := by
                     have e : (w3.setCell ⟨g, 8, none⟩ (.slice a3' (O.length + 1) c3')).heap.size = w3.heap.size := by simp [World.setCell]
                     exact ⟨by rw [← e]; exact hM3.1.lt, e⟩
                   have RK2 : Hid (((w3.setCell ⟨g, 8, none⟩ (.slice a3' (O.length + 1) c3')).alloc (.cells #[.int .i64 (nx : Int)] 3)).ownsRow (g + 1) 3 1 (.slice an N.length cn) N.length (N.map (Value.int .i64))) := hM3.1.rn.1.alloc _
                   have NC2 : Hid (∀ j u, [Value.int .i64 (nx : Int)][j]? = some u → ((w3.setCell ⟨g, 8, none⟩ (.slice a3' (O.length + 1) c3')).alloc (.cells #[.int .i64 (nx : Int)] 3)).cell? ((⟨w3.heap.size, 0, none⟩ : Addr).add j) = some u) := by
                     have := new_cell (w3.setCell ⟨g, 8, none⟩ (.slice a3' (O.length + 1) c3')) 3 (.int .i64 (nx : Int))
                     rw [hZ3.out.2] at this
                     exact this
                   have p9 : (w3.setCell ⟨g, 8, none⟩ (.slice a3' (O.length + 1) c3')).cell? ⟨g, 9, none⟩ = some (.slice an N.length cn) := blk_cellM (i := 9) M3.out.1.blk rfl
                   clear hM3 hG3 o3 g3 n3 a3)
                | (at_builtin; refine wpList_append_own_at _ rfl (.tmp 108) (.tmp 110) 24 rfl (g + 1) 3 ti _ 1 8 Tryz.underlying24 TI.out.1 TI.out.2.1 TI.out.2.2.1 TI.out.2.2.2 rfl (by decide) (.slice an N.length cn) N.length (N.map (Value.int .i64)) rfl RK2.out ⟨w3.heap.size, 0, none⟩ 1 1 [.int .i64 (nx : Int)] rfl rfl NC2.out (by simp; rfl) (by have := HNO.out; unfold maxLen; omega) (by have := HNO.out; omega) (by have := hZ3.out; simp; omega) ?_; intro v4 w4 o4 g4 n4 a4
                   obtain ⟨a4', c4', rfl⟩ := own_form o4
                   have hM4 := M3.out.1.nowPut (x := (nx : Int)) hnr o4 g4 a4
                   have hG4 : w4.heap[g]? = _ := (g4.block g (by have := hZ3.out; simp; omega) (fun e => by have := (M3.out.1.rn.lt g e.symm).1; omega)).trans ((Below.heap_alloc _ _ _ (by rw [hZ3.out.2]; exact hZ3.out.1)).trans M3.out.1.blk)
                   have x0 : w4.cell? ⟨g, 9, none⟩ = some (.slice an N.length cn) := blk_cellM (i := 9) hG4 rfl
                   have x1 : w4.frozen? ⟨g, 9, none⟩ = false := blk_freeM hG4
                   have M4 : Hid _ := hM4
                   clear hM4 hG4 o4 g4 n4 a4)
                | (go_at_call 75; refine (refword_is _ _).mono ?_; rintro e w' ⟨rfl, hx⟩; subst w'))
              go_ret
              rw [HE2.out]
              exact ⟨rfl, _, _, M4.out.1, (M2.out.2.trans M3.out.2).trans M4.out.2⟩

end Go.Proofs.YthpdkjenadngoaaGreatDoor.heap

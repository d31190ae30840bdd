/-
  The program's (opName).text, Digits and OpText, at every Op; nothing that was there is turned.
-/
import Derived.Test.YtepcaeajgnabbaaDoorFunNames
import Derived.Test.YtepcaeajgnabbaaDoorOpTextDefs
import Derived.Test.YtepcaeajgnabbaaDoorTrimShelf
import Derived.Test.YtepcaeajgnabbaaDoorItoaShelf
import Derived.Lib.AppendIntMem
namespace Go.Proofs.YtepcaeajgnabbaaDoor.fun
open Go.RowKit Go.Proofs.YtepcaeajgnabbaaDoor
set_option linter.unusedVariables false
set_option linter.unusedSimpArgs false

theorem ret_strT {a b : ByteArray} (h : a = b) : Ending.returned (.string a) = .returned (.string b) := by rw [h]

/-- A name's five bytes. -/
def rowB (i : Nat) : List UInt8 := [UInt8.ofNat (nm i 0).toNat, UInt8.ofNat (nm i 1).toNat, UInt8.ofNat (nm i 2).toNat, UInt8.ofNat (nm i 3).toNat, UInt8.ofNat (nm i 4).toNat]
theorem nm_byte (i r : Nat) : ((UInt8.ofNat (nm i r).toNat).toNat : Int) = nm i r := by
  by_cases hi : i < 22
  · by_cases hr : r < 5
    · have H : ∀ (i : Fin 22) (r : Fin 5), ((UInt8.ofNat (nm i.val r.val).toNat).toNat : Int) = nm i.val r.val := by decide
      exact H ⟨i, hi⟩ ⟨r, hr⟩
    · have : nm i r = 0 := by
        have hl : ∀ i : Fin 22, ((nmT[i.val]?).getD []).length = 5 := by decide
        have hl := hl ⟨i, hi⟩
        unfold nm
        rw [List.getElem?_eq_none (by simp only at hl; omega)]
        rfl
      rw [this]; rfl
  · have : nm i r = 0 := by
      unfold nm
      rw [List.getElem?_eq_none (l := nmT) (by show 22 ≤ i; omega)]
      simp
    rw [this]; rfl
theorem trim_row (i : Nat) (hi : i < 22) : (⟨(Lib.trimRightB (⟨(rowB i).toArray⟩ : ByteArray).data.toList 0).toArray⟩ : ByteArray) = nameS i := by
  rcases (by omega : i = 0 ∨ i = 1 ∨ i = 2 ∨ i = 3 ∨ i = 4 ∨ i = 5 ∨ i = 6 ∨ i = 7 ∨ i = 8 ∨ i = 9 ∨ i = 10 ∨ i = 11 ∨ i = 12 ∨ i = 13 ∨ i = 14 ∨ i = 15 ∨ i = 16 ∨ i = 17 ∨ i = 18 ∨ i = 19 ∨ i = 20 ∨ i = 21) with rfl | rfl | rfl | rfl | rfl | rfl | rfl | rfl | rfl | rfl | rfl | rfl | rfl | rfl | rfl | rfl | rfl | rfl | rfl | rfl | rfl | rfl
  all_goals rfl

theorem conv_five (i : Nat) (w : World) :
    (convert 37 9 (.slice (some ⟨w.heap.size, 0, none⟩) 5 5)).run Tryd.prog (w.alloc (.cells #[.int .u8 (nm i 0), .int .u8 (nm i 1), .int .u8 (nm i 2), .int .u8 (nm i 3), .int .u8 (nm i 4)] 33)) = .ok (.string ⟨(rowB i).toArray⟩) (w.alloc (.cells #[.int .u8 (nm i 0), .int .u8 (nm i 1), .int .u8 (nm i 2), .int .u8 (nm i 3), .int .u8 (nm i 4)] 33)) := by
  have hc : ∀ j (hj : j < (rowB i).length), (w.alloc (.cells #[.int .u8 (nm i 0), .int .u8 (nm i 1), .int .u8 (nm i 2), .int .u8 (nm i 3), .int .u8 (nm i 4)] 33)).cell? ((⟨w.heap.size, 0, none⟩ : Addr).add j) = some (.int .u8 ((rowB i)[j].toNat : Int)) := by
    intro j hj
    have hj5 : j < 5 := hj
    rcases (by omega : j = 0 ∨ j = 1 ∨ j = 2 ∨ j = 3 ∨ j = 4) with rfl | rfl | rfl | rfl | rfl
    · refine (World.cell?_alloc_new w _ 33 0).trans ?_
      show some (Value.int .u8 (nm i 0)) = some (.int .u8 ((UInt8.ofNat (nm i 0).toNat).toNat : Int)); rw [nm_byte]
    · refine (World.cell?_alloc_new w _ 33 1).trans ?_
      show some (Value.int .u8 (nm i 1)) = some (.int .u8 ((UInt8.ofNat (nm i 1).toNat).toNat : Int)); rw [nm_byte]
    · refine (World.cell?_alloc_new w _ 33 2).trans ?_
      show some (Value.int .u8 (nm i 2)) = some (.int .u8 ((UInt8.ofNat (nm i 2).toNat).toNat : Int)); rw [nm_byte]
    · refine (World.cell?_alloc_new w _ 33 3).trans ?_
      show some (Value.int .u8 (nm i 3)) = some (.int .u8 ((UInt8.ofNat (nm i 3).toNat).toNat : Int)); rw [nm_byte]
    · refine (World.cell?_alloc_new w _ 33 4).trans ?_
      show some (Value.int .u8 (nm i 4)) = some (.int .u8 ((UInt8.ofNat (nm i 4).toNat).toNat : Int)); rw [nm_byte]
  exact run_convert_bytes_back (P := Tryd.prog) _ 37 9 5 ⟨w.heap.size, 0, none⟩ 5 (rowB i) Tryd.underlying37 Tryd.underlying5 Tryd.underlying9 hc

set_option maxRecDepth 100000 in
set_option maxHeartbeats 2000000 in
theorem text_any (i : Nat) (hi : i < 22) (w : World) : Calls Tryd.prog 12 #[nameV i] w fun e w' => e = .returned (.string (nameS i)) ∧ Below w.heap.size w w' := by
  unfold nameV
  have hcv := conv_five i w
  have ht := Tryd.strings_TrimRight_one ⟨(rowB i).toArray⟩ 0 (by decide) (w.alloc (.cells #[.int .u8 (nm i 0), .int .u8 (nm i 1), .int .u8 (nm i 2), .int .u8 (nm i 3), .int .u8 (nm i 4)] 33)) (by show (rowB i).toArray.size ≤ _; simp [rowB])
  rw [trim_row i hi] at ht
  go_enter Tryd.func12, Tryd.ntmps12
  go_wp2_with fail
  refine ht.mono ?_
  rintro e w1 ⟨rfl, hx⟩
  subst w1
  go_wp2
  go_ret
  exact ⟨rfl, (Below.refl _ _).alloc (Nat.le_refl _) _⟩

theorem below_growT (w : World) (k : Nat) (os : Array Obj) : Below w.heap.size w (Sort.grow (w.drewN k) os) := by
  refine ⟨rfl, rfl, rfl, ?_, fun j hj => ?_⟩
  · show w.heap.size ≤ (w.heap ++ os).size
    simp
  · show (w.heap ++ os)[j]? = w.heap[j]?
    rw [Array.getElem?_append_left hj]

/-- impl.Digits: the decimal numeral. -/
theorem digitsI (n : Int) (h0 : -9223372036854775808 ≤ n) (h1 : n ≤ 9223372036854775807) (w : World) (htab : Lib.TabIs Tryd.prog w "internal/strconv.uint64pow10" .u64 Lib.pow10Tab) :
    Calls Tryd.prog 13 #[.int .i64 n] w fun e w' => e = .returned (.string (dg n)) ∧ Below w.heap.size w w' := by
  have ht : Hid (Lib.TabIs Tryd.prog w "internal/strconv.uint64pow10" .u64 Lib.pow10Tab) := htab
  clear htab
  go_enter Tryd.func13, Tryd.ntmps13
  go_wp2_with (first | (go_at_call 21; refine (Tryd.strconv_Itoa n h0 h1 _ ht.out).mono ?_; rintro e w' ⟨rfl, k, os, rfl⟩) | go_in)
  go_ret
  exact ⟨rfl, below_growT _ _ _⟩

/-- An Op, and a name, in blocks of their own, ahead of whatever is called. -/
structure Opn2 (w W : World) (c n m : Int) (g i : Nat) : Prop where
  o : Opn w W c n m
  c0 : W.cell? ⟨g, 0, none⟩ = some (.int .u8 (nm i 0))
  c1 : W.cell? ⟨g, 1, none⟩ = some (.int .u8 (nm i 1))
  c2 : W.cell? ⟨g, 2, none⟩ = some (.int .u8 (nm i 2))
  c3 : W.cell? ⟨g, 3, none⟩ = some (.int .u8 (nm i 3))
  c4 : W.cell? ⟨g, 4, none⟩ = some (.int .u8 (nm i 4))
  lt : g < W.heap.size
theorem Opn2.on {w W W' : World} {c n m : Int} {g i : Nat} (h : Opn2 w W c n m g i) (hb : Below W.heap.size W W') : Opn2 w W' c n m g i :=
  ⟨h.o.on hb, (hb.cell (p := ⟨g, 0, none⟩) h.lt).trans h.c0, (hb.cell (p := ⟨g, 1, none⟩) h.lt).trans h.c1, (hb.cell (p := ⟨g, 2, none⟩) h.lt).trans h.c2, (hb.cell (p := ⟨g, 3, none⟩) h.lt).trans h.c3, (hb.cell (p := ⟨g, 4, none⟩) h.lt).trans h.c4, Nat.lt_of_lt_of_le h.lt hb.size⟩
theorem Opn2.new {w W : World} {c n m : Int} (h : Opn w W c n m) (i : Nat) (t : TypeId) : Opn2 w (W.alloc (.cells #[.int .u8 (nm i 0), .int .u8 (nm i 1), .int .u8 (nm i 2), .int .u8 (nm i 3), .int .u8 (nm i 4)] t)) c n m W.heap.size i :=
  ⟨h.on ((Below.refl _ _).alloc (Nat.le_refl _) _), by simp, by simp, by simp, by simp, by simp, by simp⟩
theorem Opn2.drew {w W : World} {c n m : Int} {g i : Nat} (h : Opn2 w W c n m g i) : Opn2 w W.drew c n m g i := ⟨h.o.drew, h.c0, h.c1, h.c2, h.c3, h.c4, h.lt⟩

set_option maxRecDepth 100000 in
set_option maxHeartbeats 4000000 in
theorem implOp (c n m : Int) (dn dm s : ByteArray) (w : World) (hN : Names w) (hs : s.size ≤ 5) (hdn : dn.size ≤ 21) (hdm : dm.size ≤ 21) (hS : nameS (rowOf c) = s)
    (KN : ∀ W, Below w.heap.size w W → Calls Tryd.prog 13 #[.int .i64 n] W fun e W' => e = .returned (.string dn) ∧ Below W.heap.size W W')
    (KM : ∀ W, Below w.heap.size w W → Calls Tryd.prog 13 #[.int .i64 m] W fun e W' => e = .returned (.string dm) ∧ Below W.heap.size W W') :
    Calls Tryd.prog 6 #[.agg #[.int .i64 c, .int .i64 n, .int .i64 m]] w fun e w' => e = .returned (.string (if rowOf c = 0 then ⟨#[]⟩ else s ++ ⟨#[32]⟩ ++ dn ++ ⟨#[32]⟩ ++ dm)) ∧ Below w.heap.size w w' := by
  have z0 : ¬ (9223372036854775807 < s.size + 1) := by omega
  have z1 : ¬ (9223372036854775807 < s.size + 1 + dn.size) := by omega
  have z2 : ¬ (9223372036854775807 < s.size + 1 + dn.size + 1) := by omega
  have z3 : ¬ (9223372036854775807 < s.size + 1 + dn.size + 1 + dm.size) := by omega
  have HN : Hid _ := KN
  have HM : Hid _ := KM
  have HS : Hid _ := hS
  have NS : Hid (Names w) := hN
  have D0 : Hid (Opn w (w.alloc (.cells #[.int .i64 c, .int .i64 n, .int .i64 m] 25)) c n m) := Opn.new _ _ _ _ _
  obtain ⟨y, hy⟩ : ∃ y : ByteArray, y = (if rowOf c = 0 then ⟨#[]⟩ else s ++ ⟨#[32]⟩ ++ dn ++ ⟨#[32]⟩ ++ dm) := ⟨_, rfl⟩
  rw [← hy]
  have HY : Hid (y = (if rowOf c = 0 then ⟨#[]⟩ else s ++ ⟨#[32]⟩ ++ dn ++ ⟨#[32]⟩ ++ dm)) := hy
  clear KN KM hS hs hdn hdm hN hy
  have hc1 := nameOf_any c (w.alloc (.cells #[.int .i64 c, .int .i64 n, .int .i64 m] 25)) (NS.out.on D0.out.bel)
  unfold nameV at hc1
  go_enter Tryd.func6, Tryd.ntmps6
  go_wp2_with fail
  refine hc1.mono ?_
  clear hc1
  rintro e w1 ⟨rfl, hb1⟩
  have D1 : Hid (Opn w w1 c n m) := D0.out.on hb1
  have D2 : Hid (Opn2 w (w1.alloc (.cells #[.int .u8 (nm (rowOf c) 0), .int .u8 (nm (rowOf c) 1), .int .u8 (nm (rowOf c) 2), .int .u8 (nm (rowOf c) 3), .int .u8 (nm (rowOf c) 4)] 33)) c n m w1.heap.size (rowOf c)) := Opn2.new D1.out _ _
  clear hb1 D0 D1
  obtain ⟨i, hi⟩ : ∃ i, i = rowOf c := ⟨_, rfl⟩
  have hi2 : i < 22 := by rw [hi]; exact row_lt c
  rw [← hi] at HS D2 HY ⊢
  clear hi
  have hc2 := isNone_any i hi2 (w1.alloc (.cells #[.int .u8 (nm i 0), .int .u8 (nm i 1), .int .u8 (nm i 2), .int .u8 (nm i 3), .int .u8 (nm i 4)] 33))
  unfold nameV at hc2
  go_wp2_with fail
  refine hc2.mono ?_
  clear hc2
  rintro e w3 ⟨rfl, hb3⟩
  have D3 : Hid (Opn2 w w3 c n m w1.heap.size i) := D2.out.on hb3
  clear hb3 D2
  by_cases h0 : i = 0
  · have HE : Hid (y = ⟨#[]⟩) := by show _ = _; rw [HY.out, if_pos h0]
    rw [decide_eq_true h0]
    go_wp2
    go_ret
    exact ⟨ret_strT HE.out.symm, D3.out.o.bel⟩
  · have HE : Hid (y = s ++ ⟨#[32]⟩ ++ dn ++ ⟨#[32]⟩ ++ dm) := by show _ = _; rw [HY.out, if_neg h0]
    rw [decide_eq_false h0]
    generalize w1.heap.size = g at D3 ⊢
    have D : Hid (Opn2 w w3.drew c n m g i) := D3.out.drew
    clear D3
    go_wp2
    go_region_held3 (fun W => W.cell? ⟨w.heap.size, 1, none⟩ = some (.int .i64 n) ∧ W.cell? ⟨w.heap.size, 2, none⟩ = some (.int .i64 m) ∧ W.cell? ⟨g, 0, none⟩ = some (.int .u8 (nm i 0)) ∧ W.cell? ⟨g, 1, none⟩ = some (.int .u8 (nm i 1)) ∧ W.cell? ⟨g, 2, none⟩ = some (.int .u8 (nm i 2)) ∧ W.cell? ⟨g, 3, none⟩ = some (.int .u8 (nm i 3)) ∧ W.cell? ⟨g, 4, none⟩ = some (.int .u8 (nm i 4)))
      (exact ⟨D.out.o.b1, D.out.o.b2, D.out.c0, D.out.c1, D.out.c2, D.out.c3, D.out.c4⟩)
      (first
        | (go_at_call 12; refine (text_any i hi2 _).mono ?_; rw [HS.out]; rintro e wN ⟨rfl, hbN⟩; replace D : Hid (Opn2 w wN c n m g i) := D.out.on hbN; clear hbN)
        | (go_at_call_has 13 n; refine (HN.out _ D.out.o.bel).mono ?_; rintro e wD ⟨rfl, hbD⟩; replace D : Hid (Opn2 w wD c n m g i) := D.out.on hbD; clear hbD)
        | (go_at_call_has 13 m; refine (HM.out _ D.out.o.bel).mono ?_; rintro e wD ⟨rfl, hbD⟩; replace D : Hid (Opn2 w wD c n m g i) := D.out.on hbD; clear hbD))
    all_goals
      go_wp2
      go_ret
      exact ⟨ret_strT HE.out.symm, D.out.o.bel⟩

theorem row_toNat {c : Int} (h : inB c 1 21 = true) : rowOf c = c.toNat := by
  obtain ⟨h0, h1⟩ := inB_yes h
  have : inB c 0 21 = true := by simp [inB]; omega
  simp [rowOf, this]
theorem implOpText (c n m : Int) (hn : -9223372036854775808 ≤ n ∧ n ≤ 9223372036854775807) (hm : -9223372036854775808 ≤ m ∧ m ≤ 9223372036854775807) (w : World) (hN : Names w) (hT : Lib.TabIs Tryd.prog w "internal/strconv.uint64pow10" .u64 Lib.pow10Tab) :
    Calls Tryd.prog 6 #[.agg #[.int .i64 c, .int .i64 n, .int .i64 m]] w fun e w' => e = .returned (.string (opTx c n m)) ∧ Below w.heap.size w w' := by
  have h := implOp c n m (dg n) (dg m) (nameS (rowOf c)) w hN (nameS_le _) (dg_le n hn.1 hn.2) (dg_le m hm.1 hm.2) rfl
    (fun W hb => digitsI n hn.1 hn.2 W (((Lib.tabBelow_of_tabIs hT).on hb).here)) (fun W hb => digitsI m hm.1 hm.2 W (((Lib.tabBelow_of_tabIs hT).on hb).here))
  have e : (if rowOf c = 0 then ⟨#[]⟩ else nameS (rowOf c) ++ ⟨#[32]⟩ ++ dg n ++ ⟨#[32]⟩ ++ dg m) = opTx c n m := by
    unfold opTx
    rcases q : inB c 1 21 with _ | _
    · rw [if_pos ((named_row c).2 q)]; simp
    · have h0 : ¬ rowOf c = 0 := fun e => by have := (named_row c).1 e; rw [q] at this; cases this
      rw [if_neg h0, if_pos rfl, row_toNat q]
  rw [e] at h
  exact h

end Go.Proofs.YtepcaeajgnabbaaDoor.fun

/-
  The program's copiedFuns of right functions: the same in new memory, all of it apart; nothing that was there is turned.
  The program's HeapNew, at every number; nothing that was there is turned.
  A finder of depths that keeps ways: what is known of what it found and of the ways that it keeps; no program named.
  The program's Effect, at every place.
-/
import Derived.WalkSmall
import Derived.WalkKit
import Derived.WalkLawsBesides
import Derived.Test.YtjibmpebebephaaGreatDoorC1
import Derived.Test.YtjibmpebebephaaGreatDoorC2
import Derived.Test.YtjibmpebebephaaGreatDoorC3
import Derived.Test.YtjibmpebebephaaGreatDoorC4
import Derived.Test.YtjibmpebebephaaGreatDoorC5
import Derived.Test.YtjibmpebebephaaGreatDoorC6
import Derived.Test.YtjibmpebebephaaGreatDoorC7
import Derived.Test.YtjibmpebebephaaGreatDoorC8
import Derived.Test.YtjibmpebebephaaGreatDoorC9
import Derived.Test.YtjibmpebebephaaGreatDoorC10
import Derived.Test.YtjibmpebebephaaGreatDoorC11
import Derived.Test.YtjibmpebebephaaGreatDoorC12
import Derived.Test.YtjibmpebebephaaGreatDoorC13
import Derived.Test.YtjibmpebebephaaGreatDoorC14
import Derived.Test.YtjibmpebebephaaGreatDoorC15
import Derived.Test.YtjibmpebebephaaGreatDoorC16
import Derived.Test.YtjibmpebebephaaGreatDoorC17
import Derived.Test.YtjibmpebebephaaGreatDoorC18
import Derived.Test.YtjibmpebebephaaGreatDoorC19
import Derived.Test.YtjibmpebebephaaGreatDoorC20
import Derived.Test.YtjibmpebebephaaGreatDoorC21
import Derived.Test.YtjibmpebebephaaGreatDoorC22
import Derived.Test.YtjibmpebebephaaGreatDoorC23
import Derived.Test.YtjibmpebebephaaGreatDoorC24
import Derived.Test.YtjibmpebebephaaGreatDoorC25
import Derived.Test.YtjibmpebebephaaGreatDoorC26
import Derived.Test.YtjibmpebebephaaGreatDoorC27
import Derived.Test.YtjibmpebebephaaGreatDoorC28
import Derived.Test.YtjibmpebebephaaGreatDoorC29
import Derived.Test.YtjibmpebebephaaGreatDoorC30
namespace Go.Proofs.YtjibmpebebephaaGreatDoor.fun
open Go Go.RowKit Go.Deep Go.ChangeShapes Go.WideShapes Go.Proofs.YtjibmpebebephaaGreatDoor.rose Go.Proofs.YtjibmpebebephaaGreatDoor
set_option linter.unusedVariables false
set_option linter.unusedSimpArgs false
set_option maxRecDepth 100000

theorem flat_set {css : Nat → List Value} {n i : Nat} {a b u : Value} (hl : ∀ j, j < n → (css j).length = 2) (hi : i < n) (hc : css i = [a, b]) :
    (flat css n).set (i * 2 + 1) u = flat (fun j => if j = i then [a, u] else css j) n := by
  have hl2 : ∀ j, j < n → ((fun j => if j = i then [a, u] else css j) j).length = 2 := fun j hj => by
    dsimp only; split
    · rfl
    · exact hl j hj
  apply List.ext_getElem?
  intro m
  by_cases hm : m < n * 2
  · obtain ⟨q, r, rfl, hr⟩ : ∃ q r, m = q * 2 + r ∧ r < 2 := ⟨m / 2, m % 2, by omega, by omega⟩
    have hq : q < n := by omega
    rw [flat_get hl2 hq hr, List.getElem?_set]
    by_cases e : q = i
    · subst e
      simp only [if_true]
      by_cases e2 : r = 1
      · subst e2
        rw [if_pos rfl, if_pos (by rw [flat_length hl]; omega)]; rfl
      · have : r = 0 := by omega
        subst this
        rw [if_neg (by omega), flat_get hl hq hr, hc]; rfl
    · rw [if_neg (by omega), flat_get hl hq hr]
      simp only [if_neg e]
  · rw [List.getElem?_eq_none (by rw [List.length_set, flat_length hl]; omega), List.getElem?_eq_none (by rw [flat_length hl2]; omega)]

theorem cmp_nilO (ad : Addr) (n c : Nat) (w : World) : (binOp BinOp.eql 58 (.slice (some ad) n c) (.slice none 0 0)).run Tryz.prog w = .ok (.bool false) w := by kernel_rfl
theorem cmp_nilF (ad : Addr) (n c : Nat) (w : World) : (binOp BinOp.eql 31 (.slice (some ad) n c) (.slice none 0 0)).run Tryz.prog w = .ok (.bool false) w := by kernel_rfl
set_option maxHeartbeats 4000000 in
/-- A list of places is cloned. -/
theorem cloneOps {os : List op.OpD} {a : Option Addr} {c : Nat} {w w1 : World} {S : Nat → Prop} (h0 : 0 < os.length) (h1 : os.length ≤ 3000) (h : op.opSh.slice.rep w S [.slice a os.length c] os) (hS : ∀ b, S b → b < w.heap.size) (hB : Below w.heap.size w w1) :
    Calls Tryz.prog 76 #[.slice a os.length c] w1 fun e w' => (∃ a' c', e = .returned (.slice a' os.length c') ∧ op.opSp.sslice.rep w' (fun b => w1.heap.size ≤ b ∧ b < w'.heap.size) [.slice a' os.length c'] os) ∧ Below w1.heap.size w1 w' := by
  obtain ⟨to_, hto, hzo0, hzo1, hzo2⟩ := op_infoC
  obtain ⟨bo, oo, cso, rfl, hSo, hco, hlo, h1o, hmo, hany⟩ := ops_news h h0
  have TO : Hid (Tryz.prog.info? 90 = some to_ ∧ to_.zero = some (.agg #[.int .i64 0, .int .i64 0, .int .i64 0]) ∧ to_.size = 3 ∧ to_.bytes = 24) := ⟨hto, hzo0, hzo1, hzo2⟩
  have L0 : Hid ((w1.alloc (.cells #[] 90)).ownsRow w1.heap.size 90 3 (.slice (some ⟨w1.heap.size, 0, none⟩) 0 0) 0 []) := lit_own 90 3 w1 (Nat.le_refl _)
  have NW : Hid (∀ j u, (flat cso os.length)[j]? = some u → (w1.alloc (.cells #[] 90)).cell? ((⟨bo, oo, none⟩ : Addr).add j) = some u) := fun j u hu => by
    rw [rose.add_plain, World.cell?_alloc_lt _ _ _ (by show bo < _; exact Nat.lt_of_lt_of_le (hS _ hSo) hB.size)]
    exact (hB.cell (p := ⟨bo, oo + j, none⟩) (hS _ hSo)).trans (hco j u hu)
  have LM : Hid ((flat cso os.length).length = os.length * 3) := hlo
  have O1 : Hid (∀ u ∈ flat cso os.length, u.oneCell' = true) := h1o
  have ANY : Hid (∀ (w' : World) (S' : Nat → Prop) i (hi : i < os.length), op.opSp.rep w' S' (cso i) os[i]) := hany
  clear h hco hlo h1o hmo hany hto hzo0 hzo1 hzo2 hS hSo hB
  have hcmp := cmp_nilO ⟨bo, oo, none⟩ os.length c w1
  go_enter Tryz.func76, Tryz.ntmps76
  go_wp2_with (first
    | (at_builtin; refine wpList_append_own_at _ rfl (.tmp 5) (.tmp 6) 58 rfl w1.heap.size 90 to_ _ 3 24 Tryz.underlying58 TO.out.1 TO.out.2.1 TO.out.2.2.1 TO.out.2.2.2 rfl (by decide) (.slice (some ⟨w1.heap.size, 0, none⟩) 0 0) 0 [] rfl L0.out ⟨bo, oo, none⟩ os.length c (flat cso os.length) rfl LM.out NW.out O1.out (by unfold maxLen; omega) (by omega) (by simp) ?_; intro v6 w6 o6 g6 n6 e6))
  rw [Nat.zero_add, List.nil_append] at o6
  obtain ⟨a6, c6, rfl⟩ := own_form o6
  have hF := ops_grown o6 ANY.out
  have hB6 : Below w1.heap.size w1 w6 := ((Below.refl _ w1).alloc (Nat.le_refl _) _).grown g6 (by simp) (fun k hk => by simp only [Value.ownBlock, Option.some.injEq] at hk; omega)
  have HF := And.intro hF hB6
  have HFH : Hid _ := HF
  clear hF hB6 HF o6 g6 n6 e6
  go_ret
  exact ⟨⟨_, _, rfl, HFH.out.1⟩, HFH.out.2⟩

set_option maxHeartbeats 4000000 in
/-- A row of functions is cloned: its lists are those that were there. -/
theorem cloneFuns {ks : List FunD} {b o c : Nat} {css : Nat → List Value} {w : World} (h0 : 0 < ks.length) (h1 : ks.length ≤ 60) (hrow : RowAt w (· < w.heap.size) 2 (some ⟨b, o, none⟩) ks.length css) (hk : ∀ i (h : i < ks.length), funSh.rep w (· < w.heap.size) (css i) ks[i]) :
    Calls Tryz.prog 75 #[.slice (some ⟨b, o, none⟩) ks.length c] w fun e w' => (∃ g c', e = .returned (.slice (some ⟨g, 0, none⟩) ks.length c') ∧ w'.ownsRow w.heap.size 60 2 (.slice (some ⟨g, 0, none⟩) ks.length c') ks.length (flat css ks.length)) ∧ Below w.heap.size w w' := by
  obtain ⟨tf, htf, hzf0, hzf1, hzf2⟩ := fun_infoC
  have TF : Hid (Tryz.prog.info? 60 = some tf ∧ tf.zero = some (.agg #[.int .i64 0, .slice none 0 0]) ∧ tf.size = 2 ∧ tf.bytes = 32) := ⟨htf, hzf0, hzf1, hzf2⟩
  have hlen : ∀ i, i < ks.length → (css i).length = 2 := fun i hi => funSh.len (hk i hi)
  have hcells := flat_row (k := 2) hlen hrow
  obtain ⟨b', o', eb, hS, -⟩ := hrow 0 h0
  cases eb
  have L0 : Hid ((w.alloc (.cells #[] 60)).ownsRow w.heap.size 60 2 (.slice (some ⟨w.heap.size, 0, none⟩) 0 0) 0 []) := lit_own 60 2 w (Nat.le_refl _)
  have NW : Hid (∀ j u, (flat css ks.length)[j]? = some u → (w.alloc (.cells #[] 60)).cell? ((⟨b, o, none⟩ : Addr).add j) = some u) := fun j u hu => by
    rw [rose.add_plain, World.cell?_alloc_lt _ _ _ hS]
    exact hcells j u hu
  have LM : Hid ((flat css ks.length).length = ks.length * 2) := flat_length hlen
  have O1 : Hid (∀ u ∈ flat css ks.length, u.oneCell' = true) := flat_oneC fun i hi => fun_rep_one (hk i hi)
  have H0 : Hid (0 < ks.length) := h0
  clear hrow hk hlen hcells htf hzf0 hzf1 hzf2 hS h0
  have hcmp := cmp_nilF ⟨b, o, none⟩ ks.length c w
  go_enter Tryz.func75, Tryz.ntmps75
  go_wp2_with (first
    | (at_builtin; refine wpList_append_own_at _ rfl (.tmp 5) (.tmp 6) 31 rfl w.heap.size 60 tf _ 2 32 Tryz.underlying31 TF.out.1 TF.out.2.1 TF.out.2.2.1 TF.out.2.2.2 rfl (by decide) (.slice (some ⟨w.heap.size, 0, none⟩) 0 0) 0 [] rfl L0.out ⟨b, o, none⟩ ks.length c (flat css ks.length) rfl LM.out NW.out O1.out (by unfold maxLen; omega) (by omega) (by simp) ?_; intro v6 w6 o6 g6 n6 e6))
  rw [Nat.zero_add, List.nil_append] at o6
  have hB6 : Hid (Below w.heap.size w w6) := ((Below.refl _ w).alloc (Nat.le_refl _) _).grown g6 (by simp) (fun k hk => by simp only [Value.ownBlock, Option.some.injEq] at hk; omega)
  have O6 : Hid (w6.ownsRow w.heap.size 60 2 v6 ks.length (flat css ks.length)) := o6
  have HFm : Hid (∃ g c', v6 = .slice (some ⟨g, 0, none⟩) ks.length c') := by
    rcases o6.2 with ⟨-, h0⟩ | ⟨g, cap, cur, rfl, -⟩
    · exact absurd h0 (by have := H0.out; omega)
    · exact ⟨g, cap, rfl⟩
  clear o6 g6 n6 e6
  obtain ⟨g, c', hv⟩ := HFm.out
  subst hv
  go_ret
  exact ⟨⟨g, c', rfl, O6.out⟩, hB6.out⟩

theorem own_cellC {w : World} {base : Nat} {t : TypeId} {k g n c m : Nat} {xs : List Value} {u : Value} (h : w.ownsRow base t k (.slice (some ⟨g, 0, none⟩) n c) n xs) (hm : xs[m]? = some u) : w.cell? ⟨g, m, none⟩ = some u := by
  rcases h.2 with ⟨h1, -⟩ | ⟨g', cap, cur, e, h2, h3, h4, h5, h6, h7⟩
  · cases h1
  · simp only [Value.slice.injEq, Option.some.injEq, Addr.mk.injEq, and_true, true_and] at e
    obtain ⟨rfl, -⟩ := e
    have hlt := (List.getElem?_eq_some_iff.1 hm).1
    rw [← h7, List.getElem?_take] at hm
    have hl := h.1
    rw [if_pos (by omega)] at hm
    simp only [World.cell?, h3]
    rw [Array.getElem?_toList] at hm
    exact hm
/-- What is held on the way: the lists of the first i functions are renewed. -/
structure CF (w wr : World) (g c : Nat) (css : Nat → List Value) (ks : List FunD) (i : Nat) : Prop where
  bel : Below w.heap.size w wr
  row : ∃ (cs' : Nat → List Value) (F : Nat → Nat → Prop), wr.ownsRow w.heap.size 60 2 (.slice (some ⟨g, 0, none⟩) ks.length c) ks.length (flat cs' ks.length) ∧ (∀ j (h : j < ks.length), j < i → funSp.rep wr (F j) (cs' j) ks[j]) ∧
    (∀ j, j < i → ∀ b, F j b → w.heap.size ≤ b ∧ b < wr.heap.size ∧ b ≠ g) ∧ (∀ j l, j < i → l < i → j ≠ l → ∀ b, F j b → ¬ F l b) ∧ (∀ j, i ≤ j → cs' j = css j) ∧ ∀ j, j < ks.length → (cs' j).length = 2
theorem CF.blk {w wr : World} {g c : Nat} {css : Nat → List Value} {ks : List FunD} {i : Nat} (h : CF w wr g c css ks i) (h0 : 0 < ks.length) : w.heap.size ≤ g ∧ g < wr.heap.size ∧ ∃ cur, wr.heap[g]? = some (.cells cur 60) := by
  obtain ⟨cs', F, ho, -⟩ := h.row
  rcases ho.2 with ⟨h1, -⟩ | ⟨g', cap, cur, e, h2, h3, -⟩
  · cases h1
  · simp only [Value.slice.injEq, Option.some.injEq, Addr.mk.injEq, and_true, true_and] at e
    obtain ⟨rfl, -⟩ := e
    exact ⟨h2, (Array.getElem?_eq_some_iff.1 h3).1, cur, h3⟩
/-- One more. -/
theorem CF.step {w wr w2 : World} {g c : Nat} {css : Nat → List Value} {ks : List FunD} {i : Nat} {y0 : Int} {os : List op.OpD} {b0 v : Value} (h : CF w wr g c css ks i) (hi : i < ks.length) (hT : ks[i] = (y0, os)) (hc : css i = [.int .i64 y0, b0]) (hg0 : -9223372036854775808 ≤ y0 ∧ y0 ≤ 9223372036854775807)
    (hB : Below wr.heap.size wr w2) (hv : op.opSp.sslice.rep w2 (fun b => wr.heap.size ≤ b ∧ b < w2.heap.size) [v] os) : CF w (w2.setCell ⟨g, i * 2 + 1, none⟩ v) g c css ks (i + 1) := by
  obtain ⟨hg1, hg2, -⟩ := h.blk (by omega)
  have hbel := h.bel
  obtain ⟨cs', F, ho, hr, hf, ha, hcs, hl⟩ := h.row
  have ho2 : w2.ownsRow w.heap.size 60 2 (.slice (some ⟨g, 0, none⟩) ks.length c) ks.length (flat cs' ks.length) := own_same ho fun q hq => hB.block q (by simp only [Value.ownBlock, Option.some.injEq] at hq; omega)
  have ho3 := own_set (u := v) ho2 (j := i * 2 + 1) (by omega)
  rw [flat_set hl hi ((hcs i (Nat.le_refl _)).trans hc)] at ho3
  have so : ∀ q, q ≠ g → (w2.setCell ⟨g, i * 2 + 1, none⟩ v).heap[q]? = w2.heap[q]? := fun q hq => Below.heap_setCell _ _ _ _ hq
  have sz : (w2.setCell ⟨g, i * 2 + 1, none⟩ v).heap.size = w2.heap.size := by simp [World.setCell]
  have hsz := hB.size
  have hBw : Below w.heap.size w w2 := hbel.trans (hB.mono hbel.size)
  refine ⟨⟨hBw.os, hBw.tape, hBw.output, by rw [sz]; exact hBw.size, fun k hk => (so k (by omega)).trans (hBw.block k hk)⟩, fun j => if j = i then [.int .i64 y0, v] else cs' j, fun j => if j = i then (fun b => wr.heap.size ≤ b ∧ b < w2.heap.size) else F j, ho3, fun j hj hji => ?_, fun j hji b => ?_, fun j l hji hli hne b => ?_, fun j hj => ?_, fun j hj => ?_⟩
  · by_cases e : j = i
    · subst e
      simp only [if_true]
      rw [hT]
      exact funp_shutv hg0 (op.opSp.sslice.on hv fun q hq => so q (by omega))
    · simp only [if_neg e]
      exact funSp.on (hr j hj (by omega)) fun q hq => (so q (hf j (by omega) q hq).2.2).trans (hB.block q (hf j (by omega) q hq).2.1)
  · by_cases e : j = i
    · simp only [if_pos e]; intro hb; rw [sz]; have := hbel.size; omega
    · simp only [if_neg e]; intro hb; have := hf j (by omega) b hb; rw [sz]; exact ⟨this.1, by omega, this.2.2⟩
  · by_cases e : j = i
    · by_cases e2 : l = i
      · omega
      · simp only [if_pos e, if_neg e2]; intro q1 q2; have := hf l (by omega) b q2; omega
    · by_cases e2 : l = i
      · simp only [if_neg e, if_pos e2]; intro q1 q2; have := hf j (by omega) b q1; omega
      · simp only [if_neg e, if_neg e2]; exact ha j l (by omega) (by omega) hne b
  · dsimp only; rw [if_neg (by omega)]; exact hcs j (by omega)
  · dsimp only; split
    · rfl
    · exact hl j hj
theorem CF.done {w wr : World} {g c : Nat} {css : Nat → List Value} {ks : List FunD} (h : CF w wr g c css ks ks.length) : funSp.sslice.rep wr (fun b => w.heap.size ≤ b ∧ b < wr.heap.size) [.slice (some ⟨g, 0, none⟩) ks.length c] ks := by
  obtain ⟨cs', F, ho, hr, hf, ha, -, -⟩ := h.row
  exact Grown.sslice (A := funSp) (t := 60) ⟨cs', F, ho, fun i hi => hr i hi hi, fun i hi b hb => ⟨(hf i hi b hb).1, (hf i hi b hb).2.1, fun e => (hf i hi b hb).2.2 (by simp only [Value.ownBlock, Option.some.injEq] at e; exact e.symm)⟩, fun i j hi hj hne b => ha i j hi hj hne b⟩ (by decide)

set_option maxRecDepth 100000 in
set_option maxHeartbeats 8000000 in
theorem implCopied (ks : List FunD) (v : Value) (w : World) (hq : funsB ks = true) (h : funSh.slice.rep w (· < w.heap.size) [v] ks) :
    Calls Tryz.prog 46 #[v] w fun e w' => (∃ v', e = .returned v' ∧ funSp.sslice.rep w' (fun b => w.heap.size ≤ b ∧ b < w'.heap.size) [v'] ks) ∧ Below w.heap.size w w' := by
  obtain ⟨a, cap, css, rfl, hcap, hmax, hrow, hk⟩ := funs_open h
  have hkl := len60 hq
  obtain ⟨b0, o0, rfl, -, -⟩ := hrow 0 (by omega)
  have hcall := cloneFuns (c := cap) (by omega) hkl.2 hrow hk
  have HR : Hid (RowAt w (· < w.heap.size) 2 (some ⟨b0, o0, none⟩) ks.length css ∧ ∀ i (h : i < ks.length), funSh.rep w (· < w.heap.size) (css i) ks[i]) := ⟨hrow, hk⟩
  have hmx : (ks.length : Int) ≤ 9223372036854775807 := by omega
  have Q1 : Hid (funsB ks = true) := hq
  clear h hcap hmax hrow hk hq
  go_enter Tryz.func46, Tryz.ntmps46
  go_wp2_with fail
  refine hcall.mono ?_
  rintro e w1 ⟨⟨g, c', rfl, ho⟩, hb⟩
  have C0 : Hid (CF w w1 g c' css ks 0) := ⟨hb, css, fun _ _ => False, ho, fun j hj h => absurd h (Nat.not_lt_zero _), fun j h => absurd h (Nat.not_lt_zero _), fun j l h => absurd h (Nat.not_lt_zero _), fun j _ => rfl, fun j hj => funSh.len (HR.out.2 j hj)⟩
  clear hcall ho hb
  go_wp2
  go_loopw [4, 5, 10] (fun v4 v5 v10 wr => ∃ i : Nat, i ≤ ks.length ∧ v10 = .int .i64 i ∧ Hid (CF w wr g c' css ks i)) (fun _ _ v10 _ => ks.length - (intOf v10).toNat)
  case atStart => exact ⟨0, Nat.zero_le _, rfl, C0⟩
  case round =>
    clear C0
    obtain ⟨i, hi, rfl, HC⟩ := hrel
    by_cases hlt : i < ks.length
    · obtain ⟨b, o, hbo, hS, hc⟩ := HR.out.1 i hlt
      simp only [Option.some.injEq, Addr.mk.injEq, and_true] at hbo
      obtain ⟨rfl, rfl⟩ := hbo
      obtain ⟨y0, os, a2, c2, hT, hcs, g0, hrep⟩ := fun_open (HR.out.2 i hlt)
      have HB := HC.out.bel
      rw [hcs] at hc
      have e0 : wr.cell? ⟨b0, o0 + i * 2, none⟩ = some (.int .i64 y0) := (HB.cell (p := ⟨b0, o0 + i * 2, none⟩) hS).trans (hc 0 _ rfl)
      have e1 : wr.cell? ⟨b0, o0 + i * 2 + 1, none⟩ = some (.slice a2 os.length c2) := (HB.cell (p := ⟨b0, o0 + i * 2 + 1, none⟩) hS).trans (hc 1 _ rfl)
      have HL := funB_len (funsB_each Q1.out hlt)
      rw [hT] at HL
      have HLl : 1 ≤ os.length ∧ os.length ≤ 3000 := HL
      have iI : (i : Int) < (ks.length : Int) := by omega
      have iI0 : (0 : Int) ≤ (i : Int) := by omega
      obtain ⟨wk, hwk⟩ : ∃ wk, wk = wr.alloc (.cells #[.int .i64 y0, .slice a2 os.length c2] 60) := ⟨_, rfl⟩
      have BK : Below wr.heap.size wr wk := by rw [hwk]; exact (Below.refl _ _).alloc (Nat.le_refl _) _
      have BWK : Below w.heap.size w wk := HB.trans (BK.mono HB.size)
      have hcall2 := cloneOps (by omega) HLl.2 hrep (fun b hb => hb) BWK
      obtain ⟨hg1, hg2, cur, hcur⟩ := HC.out.blk (by omega)
      have HKK : Hid (Below wr.heap.size wr wk ∧ w.heap.size ≤ g ∧ g < wr.heap.size ∧ wr.heap[g]? = some (.cells cur 60)) := ⟨BK, hg1, hg2, hcur⟩
      have HWK : Hid (wk = wr.alloc (.cells #[.int .i64 y0, .slice a2 os.length c2] 60)) := hwk
      have HTC : Hid (ks[i] = (y0, os) ∧ css i = [.int .i64 y0, .slice a2 os.length c2] ∧ (-9223372036854775808 ≤ y0 ∧ y0 ≤ 9223372036854775807)) := ⟨hT, hcs, g0⟩
      rw [hwk] at hcall2
      clear hc hcs hT hrep HL HLl BK BWK hwk hg1 hg2 hcur g0 HB
      go_wp2_with fail
      refine hcall2.mono ?_
      rintro e w2 ⟨⟨a3, c3, rfl, hv⟩, hb2⟩
      rw [← HWK.out] at hv hb2
      have hB2 : Below wr.heap.size wr w2 := HKK.out.1.trans (hb2.mono HKK.out.1.size)
      have HN : Hid (CF w (w2.setCell ⟨g, i * 2 + 1, none⟩ (.slice a3 os.length c3)) g c' css ks (i + 1)) := HC.out.step hlt HTC.out.1 HTC.out.2.1 HTC.out.2.2 hB2 (op.opSp.sslice.mono hv fun b hb => ⟨by have := HKK.out.1.size; omega, hb.2⟩)
      have hcu : w2.heap[g]? = some (.cells cur 60) := (hB2.block g HKK.out.2.2.1).trans HKK.out.2.2.2
      have hfz : w2.frozen? ⟨g, i * 2 + 1, none⟩ = false := by simp [World.frozen?, hcu]
      have hcl : w2.cell? ⟨g, i * 2 + 1, none⟩ = some (.slice a2 os.length c2) := by
        obtain ⟨cs', F, ho, -, -, -, hcs, hl⟩ := HC.out.row
        have ho2 : w2.ownsRow w.heap.size 60 2 (.slice (some ⟨g, 0, none⟩) ks.length c') ks.length (flat cs' ks.length) := own_same ho fun q hq => hB2.block q (by simp only [Value.ownBlock, Option.some.injEq] at hq; have := HKK.out.2.2.1; omega)
        exact own_cellC ho2 (by rw [flat_get hl hlt (by decide : 1 < 2), hcs i (Nat.le_refl _), HTC.out.2.1]; rfl)
      clear hcall2 hv hb2 hB2 hcu e0 e1
      go_wp2
      go_round
      case rel => exact ⟨i + 1, by omega, by go_num, HN⟩
      case measure => simp [intOf]; omega
    · obtain rfl : i = ks.length := by omega
      have HF : Hid _ := HC.out.done
      go_wp2
      go_ret
      exact ⟨⟨_, rfl, HF.out⟩, HC.out.bel⟩

end Go.Proofs.YtjibmpebebephaaGreatDoor.fun

namespace Go.Proofs.YtjibmpebebephaaGreatDoor.heap
open Go Go.RowKit Go.Proofs.YtjibmpebebephaaGreatDoor.rose Go.Proofs.YtjibmpebebephaaGreatDoor Go.Proofs.YtjibmpebebephaaGreatDoor.fun Go.Proofs.YtjibmpebebephaaGreatDoor.ints
set_option linter.unusedVariables false
set_option linter.unusedSimpArgs false

set_option maxHeartbeats 2000000 in
theorem implHeapNew (n : Int) (w : World) (h1 : -9223372036854775808 ≤ n) (h2 : n ≤ 9223372036854775807) :
    Calls Tryz.prog 43 #[.int .i64 n] w fun e w' => (∃ cs', e = .returned (.tuple #[.agg cs'.toArray, .bool (newF n).2]) ∧ heapSp.rep w' (fun b => w.heap.size ≤ b ∧ b < w'.heap.size) cs' (newF n).1) ∧ Below w.heap.size w w' := by
  rcases q : inB n 1 3000 with _ | _
  · have HQ : Hid (newF n = (([], 0, 0, 0), false)) := by show _ = _; unfold newF; rw [q]; rfl
    go_enter Tryz.func43, Tryz.ntmps43
    go_wp2_with (go_at_call 73; refine (half_is q).mono ?_; rintro e w' ⟨rfl, hx⟩; subst w')
    refine bodyPost_ret (v := .tuple #[.agg #[.slice none 0 0, .int .i64 0, .int .i64 0, .int .i64 0], .bool false]) (by simp [results, Tryz.f43, go_sem]) rfl ?_
    rw [HQ.out]
    refine ⟨⟨[.slice none 0 0, .int .i64 0, .int .i64 0, .int .i64 0], rfl, heapp_shutv (IRow.nil _ w.heap.size).sp (by omega) (by omega) (by omega)⟩, ?_⟩
    exact (Below.refl _ _).alloc (Nat.le_refl _) _
  · have q1 := inB_yes q
    obtain ⟨m, rfl⟩ : ∃ m : Nat, n = m := ⟨n.toNat, by omega⟩
    have HQ : Hid (newF m = ((List.replicate (2 * m) 0, (m : Int), 0, 0), true)) := by
      show _ = _; unfold newF; rw [q]; simp only [if_true]
      rw [show (2 * (m : Int)).toNat = 2 * m by omega]
    have hmk := make_ints (2 * m) (by omega)
    have hcast : ((2 * m : Nat) : Int) = 2 * (m : Int) := by omega
    rw [hcast] at hmk
    go_enter Tryz.func43, Tryz.ntmps43
    go_wp2_with (go_at_call 73; refine (half_is q).mono ?_; rintro e w' ⟨rfl, hx⟩; subst w')
    refine bodyPost_ret (v := .tuple #[.agg #[.slice (some ⟨w.heap.size + 1, 0, none⟩) (2 * m) (2 * m), .int .i64 m, .int .i64 0, .int .i64 0], .bool true]) (by simp [results, Tryz.f43, go_sem]) rfl ?_
    rw [HQ.out]
    have hr := made_row (2 * m) (by omega) (w.alloc (.cells #[.slice (some ⟨w.heap.size + 1, 0, none⟩) (2 * m) (2 * m), .int .i64 m, .int .i64 0, .int .i64 0] 32)) (base := w.heap.size) (by simp)
    rw [World.size_alloc, Nat.mul_one] at hr
    exact ⟨⟨[.slice (some ⟨w.heap.size + 1, 0, none⟩) (2 * m) (2 * m), .int .i64 m, .int .i64 0, .int .i64 0], rfl, heapp_shutv hr.sp (by omega) (by omega) (by omega)⟩, ((Below.refl _ _).alloc (Nat.le_refl _) _).alloc (by simp) _⟩

end Go.Proofs.YtjibmpebebephaaGreatDoor.heap

namespace Go.Proofs.YtjibmpebebephaaGreatDoor.fun
open Go.RowKit Go.Proofs.YtjibmpebebephaaGreatDoor.rose Go.Proofs.YtjibmpebebephaaGreatDoor
set_option linter.unusedVariables false
set_option linter.unusedSimpArgs false

/-- What is known on the way: D is what was found so far, W are the ways that are still to be gone. -/
structure MInv (os : List op.OpD) (D : List Int) (W : List (Int × Int)) : Prop where
  len : D.length = os.length
  low : ∀ a (h : a < D.length), D[a] < 0 → D[a] = -1
  met : ∀ a (h : a < D.length), 0 ≤ D[a] → Met os (a : Int) D[a] ∧ D[a] ≤ 60
  closed : ∀ a (h : a < D.length) (h' : a < os.length), 0 ≤ D[a] → fineB os[a] D[a] = true ∧ ∀ s ∈ leads a os[a], (∃ b : Nat, s = b ∧ D[b]? = some (nextD os[a] D[a])) ∨ (s, nextD os[a] D[a]) ∈ W
  first : D[0]? = some 1 ∨ ((0 : Int), (1 : Int)) ∈ W
  ways : ∀ x ∈ W, Met os x.1 x.2 ∧ 0 ≤ x.1 ∧ x.1 < os.length ∧ x.2 ≤ 60

section
variable {os : List op.OpD} {D : List Int} {W K : List (Int × Int)}

theorem MInv.start (h0 : 0 < os.length) : MInv os (List.replicate os.length (-1)) [(0, 1)] := by
  refine ⟨by simp, fun a h hl => by simp, fun a h hl => by simp at hl, fun a h h' hl => by simp at hl, .inr (by simp), fun x hx => ?_⟩
  simp only [List.mem_singleton] at hx
  subst hx
  exact ⟨Met.start, by decide, by simpa using h0, by decide⟩
/-- A way to where one has been. -/
theorem MInv.same {b : Nat} {d : Int} (h : MInv os D (((b : Int), d) :: K)) (hd : D[b]? = some d) : MInv os D K := by
  refine ⟨h.len, h.low, h.met, fun a ha h' hl => ?_, ?_, fun x hx => h.ways x (List.mem_cons_of_mem _ hx)⟩
  · obtain ⟨f1, f2⟩ := h.closed a ha h' hl
    refine ⟨f1, fun s hs => ?_⟩
    rcases f2 s hs with q | q
    · exact .inl q
    · rcases List.mem_cons.1 q with e | q
      · simp only [Prod.mk.injEq] at e
        exact .inl ⟨b, e.1, by rw [e.2]; exact hd⟩
      · exact .inr q
  · rcases h.first with q | q
    · exact .inl q
    · rcases List.mem_cons.1 q with e | q
      · simp only [Prod.mk.injEq] at e
        have : b = 0 := by omega
        subst this
        exact .inl (by rw [hd, e.2])
      · exact .inr q
/-- A place that was not met yet. -/
theorem MInv.visit {b : Nat} {d : Int} (h : MInv os D (((b : Int), d) :: K)) (hb : b < D.length) (hbo : b < os.length) (hl : D[b] < 0) (hf : fineB os[b] d = true) (hin : ∀ s ∈ leads b os[b], 0 ≤ s ∧ s < os.length) (hn : nextD os[b] d ≤ 60)
    (h1 : ∀ s ∈ leads b os[b], (s, nextD os[b] d) ∈ W) (h2 : ∀ x ∈ K, x ∈ W) (h3 : ∀ x ∈ W, x ∈ K ∨ ∃ s ∈ leads b os[b], x = (s, nextD os[b] d)) : MInv os (D.set b d) W := by
  obtain ⟨hm, -, -, hd60⟩ := h.ways _ List.mem_cons_self
  dsimp only at hm hd60
  have hpos := hm.pos
  refine ⟨by simpa using h.len, fun a ha hx => ?_, fun a ha hx => ?_, fun a ha h' hx => ?_, ?_, fun x hx => ?_⟩
  · rw [List.getElem_set] at hx ⊢
    split at hx
    · omega
    · rename_i hne; rw [if_neg hne]; exact h.low a (by simpa using ha) hx
  · rw [List.getElem_set] at hx ⊢
    split at hx
    · rename_i e; subst e; simp only [if_true]; exact ⟨hm, hd60⟩
    · rename_i hne; rw [if_neg hne]; exact h.met a (by simpa using ha) hx
  · by_cases e : a = b
    · subst e
      simp only [List.getElem_set_self]
      exact ⟨hf, fun s hs => .inr (h1 s hs)⟩
    · rw [List.getElem_set_ne (Ne.symm e)] at hx ⊢
      obtain ⟨f1, f2⟩ := h.closed a (by simpa using ha) h' hx
      refine ⟨f1, fun s hs => ?_⟩
      rcases f2 s hs with ⟨q, rfl, hq⟩ | q
      · refine .inl ⟨q, rfl, ?_⟩
        by_cases e2 : q = b
        · subst e2
          rw [List.getElem?_eq_getElem hb] at hq
          have := next_pos f1
          simp only [Option.some.injEq] at hq
          omega
        · rw [List.getElem?_set_ne (Ne.symm e2)]; exact hq
      · rcases List.mem_cons.1 q with e3 | q
        · simp only [Prod.mk.injEq] at e3
          exact .inl ⟨b, e3.1, by rw [List.getElem?_set_self hb, e3.2]⟩
        · exact .inr (h2 _ q)
  · rcases h.first with q | q
    · refine .inl ?_
      by_cases e : b = 0
      · subst e
        rw [List.getElem?_eq_getElem hb] at q
        simp only [Option.some.injEq] at q
        omega
      · rw [List.getElem?_set_ne e]; exact q
    · rcases List.mem_cons.1 q with e | q
      · simp only [Prod.mk.injEq] at e
        have : b = 0 := by omega
        subst this
        exact .inl (by rw [List.getElem?_set_self hb, e.2])
      · exact .inr (h2 _ q)
  · rcases h3 x hx with q | ⟨s, hs, rfl⟩
    · exact h.ways x (List.mem_cons_of_mem _ q)
    · exact ⟨met_on hbo hm hf hs, (hin s hs).1, (hin s hs).2, hn⟩
/-- It does not matter in which order the ways are kept. -/
theorem MInv.perm {W W' : List (Int × Int)} (h : MInv os D W) (h1 : ∀ x, x ∈ W → x ∈ W') (h2 : ∀ x, x ∈ W' → x ∈ W) : MInv os D W' := by
  refine ⟨h.len, h.low, h.met, fun a ha h' hl => ?_, ?_, fun x hx => h.ways x (h2 x hx)⟩
  · obtain ⟨f1, f2⟩ := h.closed a ha h' hl
    refine ⟨f1, fun s hs => ?_⟩
    rcases f2 s hs with q | q
    · exact .inl q
    · exact .inr (h1 _ q)
  · rcases h.first with q | q
    · exact .inl q
    · exact .inr (h1 _ q)
/-- The same, with the place written out. -/
theorem MInv.next {b : Nat} {d x : Int} {o : op.OpD} {ls : List Int} (h : MInv os D (((b : Int), d) :: K)) (hb : b < D.length) (hbo : b < os.length) (ho : os[b] = o) (hl : D[b] < 0) (hf : fineB o d = true) (hin : ∀ s ∈ leads b os[b], 0 ≤ s ∧ s < os.length) (hx : nextD o d = x) (hn : x ≤ 60) (hls : leads b o = ls) :
    MInv os (D.set b d) (ls.map (fun s => (s, x)) ++ K) := by
  subst ho hx hls
  refine h.visit hb hbo hl hf hin hn (fun s hs => List.mem_append_left _ (List.mem_map.2 ⟨s, hs, rfl⟩)) (fun x hx => List.mem_append_right _ hx) fun x hx => ?_
  rcases List.mem_append.1 hx with q | q
  · obtain ⟨s, hs, rfl⟩ := List.mem_map.1 q
    exact .inr ⟨s, hs, rfl⟩
  · exact .inl q
/-- Nothing is left. -/
theorem MInv.done (h : MInv os D []) : DInv os D (fun _ => False) := by
  refine ⟨h.len, h.low, h.met, fun a ha h' hl _ => ?_, ?_⟩
  · obtain ⟨f1, f2⟩ := h.closed a ha h' hl
    refine ⟨f1, fun s hs => ?_⟩
    rcases f2 s hs with q | q
    · exact q
    · cases q
  · rcases h.first with q | q
    · exact q
    · cases q
theorem MInv.bad_two {b : Nat} {d : Int} (h : MInv os D (((b : Int), d) :: K)) (hb : b < D.length) (h0 : 0 ≤ D[b]) (hne : D[b] ≠ d) : ¬ Good os :=
  Go.Proofs.YtjibmpebebephaaGreatDoor.fun.bad_two (h.met b hb h0).1 (h.ways _ List.mem_cons_self).1 hne
theorem MInv.bad_fine {b : Nat} {d : Int} (h : MInv os D (((b : Int), d) :: K)) (hbo : b < os.length) (hf : fineB os[b] d = false) : ¬ Good os :=
  Go.Proofs.YtjibmpebebephaaGreatDoor.fun.bad_fine hbo (h.ways _ List.mem_cons_self).1 hf
theorem lead_some {a d : Int} {o : op.OpD} (hf : fineB o d = true) (hd : d ≤ 60) (hn : 60 < nextD o d) : ∃ s, s ∈ leads a o := by
  obtain ⟨c, n, m⟩ := o
  by_cases h7 : c = 7
  · subst h7
    unfold fineB at hf
    simp at hf
    have : nextD (7, n, m) d = d - 1 := by simp [nextD, takesB, putsB]
    omega
  · by_cases h21 : c = 21
    · subst h21
      have : nextD (21, n, m) d = d := by simp [nextD, takesB, putsB]
      omega
    · unfold leads
      dsimp only
      rw [if_neg (by omega)]
      split
      · exact ⟨_, List.mem_singleton.2 rfl⟩
      · split
        · exact ⟨_, List.mem_cons_self⟩
        · split
          · exact ⟨_, List.mem_cons_self⟩
          · exact ⟨_, List.mem_singleton.2 rfl⟩
theorem MInv.bad_many {b : Nat} {d : Int} (h : MInv os D (((b : Int), d) :: K)) (hbo : b < os.length) (hf : fineB os[b] d = true) (hn : 60 < nextD os[b] d) : ¬ Good os := by
  obtain ⟨hm, -, -, hd60⟩ := h.ways _ List.mem_cons_self
  obtain ⟨s, hs⟩ := lead_some (a := (b : Int)) hf hd60 hn
  exact bad_place (met_on hbo hm hf hs) (.inr hn)
end

/-- Where a place of a right function leads, there is one. -/
theorem leads_in {ks : List FunD} {i : Nat} {k : FunD} (h : funB ks i k = true) {a : Nat} (ha : a < k.2.length) : ∀ s ∈ leads a k.2[a], 0 ≤ s ∧ s < k.2.length := by
  unfold funB at h
  simp only [Bool.and_eq_true] at h
  have hop := List.all_eq_true.1 h.1.2 _ (List.getElem_mem ha)
  have hlast := h.2
  rw [lastB_get (by omega)] at hlast
  have hend : a + 1 = k.2.length → endB k.2[a].1 = true := fun e => by
    have : k.2.length - 1 = a := by omega
    simpa only [this] using hlast
  generalize hgo : k.2[a] = o at hop hend ⊢
  obtain ⟨c, n, m⟩ := o
  unfold opB at hop
  unfold endB at hend
  dsimp only at hop hend
  intro s hs
  unfold leads at hs
  dsimp only at hs
  have hnx : ¬ (c = 7 ∨ c = 21) → c ≠ 19 → a + 1 < k.2.length := fun h1 h2 => by
    rcases Nat.lt_or_ge (a + 1) k.2.length with q | q
    · exact q
    · have := hend (by omega)
      simp only [Bool.or_eq_true, decide_eq_true_eq] at this
      omega
  by_cases h1 : c = 7 ∨ c = 21
  · rw [if_pos h1] at hs; cases hs
  · rw [if_neg h1] at hs
    by_cases h2 : c = 19
    · subst h2
      simp only [if_true, List.mem_singleton] at hs
      subst hs
      simp at hop
      have := inB_yes hop.1
      omega
    · rw [if_neg h2] at hs
      have hx := hnx h1 h2
      by_cases h3 : c = 18
      · subst h3
        simp only [if_true] at hs
        simp at hop
        have := inB_yes hop.1
        rcases List.mem_cons.1 hs with e | hs
        · omega
        · simp only [List.mem_singleton] at hs; omega
      · rw [if_neg h3] at hs
        by_cases h4 : c = 10 ∨ c = 11
        · rw [if_pos h4] at hs
          have hm : 0 ≤ m ∧ m ≤ (k.2.length : Int) - 1 := by
            rcases h4 with rfl | rfl
            · simp at hop; exact inB_yes hop.2
            · simp at hop; exact inB_yes hop.2
          rcases List.mem_cons.1 hs with e | hs
          · omega
          · simp only [List.mem_singleton] at hs; omega
        · rw [if_neg h4] at hs
          simp only [List.mem_singleton] at hs; omega

end Go.Proofs.YtjibmpebebephaaGreatDoor.fun

namespace Go.Proofs.YtjibmpebebephaaGreatDoor.fun
open Go Go.RowKit Go.Proofs.YtjibmpebebephaaGreatDoor
set_option linter.unusedVariables false
set_option linter.unusedSimpArgs false

set_option maxRecDepth 100000 in
set_option maxHeartbeats 4000000 in
theorem implEffect (c n m : Int) (w : World) :
    Calls Tryz.prog 117 #[.agg #[.int .i64 c, .int .i64 n, .int .i64 m]] w fun e w' => e = .returned (.tuple #[.int .i64 (takesB c m), .int .i64 (putsB c)]) ∧ Below w.heap.size w w' := by
  by_cases h : 1 ≤ c ∧ c ≤ 20 ∧ c ≠ 19
  · rcases (by omega : c = 1 ∨ c = 2 ∨ c = 3 ∨ c = 4 ∨ c = 5 ∨ c = 6 ∨ c = 7 ∨ c = 8 ∨ c = 9 ∨ c = 10 ∨ c = 11 ∨ c = 12 ∨ c = 13 ∨ c = 14 ∨ c = 15 ∨ c = 16 ∨ c = 17 ∨ c = 18 ∨ c = 20) with rfl | rfl | rfl | rfl | rfl | rfl | rfl | rfl | rfl | rfl | rfl | rfl | rfl | rfl | rfl | rfl | rfl | rfl | rfl
    all_goals
      go_enter Tryz.func117, Tryz.ntmps117
      go_wp2
      go_ret2
      exact ⟨by simp [takesB, putsB], (Below.refl _ _).alloc (Nat.le_refl _) _⟩
  · have e1 : (c == 1) = false := by simp; omega
    have e2 : (c == 2) = false := by simp; omega
    have e3 : (c == 3) = false := by simp; omega
    have e4 : (c == 4) = false := by simp; omega
    have e5 : (c == 5) = false := by simp; omega
    have e6 : (c == 6) = false := by simp; omega
    have e7 : (c == 7) = false := by simp; omega
    have e8 : (c == 8) = false := by simp; omega
    have e9 : (c == 9) = false := by simp; omega
    have e10 : (c == 10) = false := by simp; omega
    have e11 : (c == 11) = false := by simp; omega
    have e12 : (c == 12) = false := by simp; omega
    have e13 : (c == 13) = false := by simp; omega
    have e14 : (c == 14) = false := by simp; omega
    have e15 : (c == 15) = false := by simp; omega
    have e16 : (c == 16) = false := by simp; omega
    have e17 : (c == 17) = false := by simp; omega
    have e18 : (c == 18) = false := by simp; omega
    have e20 : (c == 20) = false := by simp; omega
    have ht : takesB c m = 0 := by unfold takesB; rw [if_neg (by omega), if_neg (by omega), if_neg (by omega)]
    have hp : putsB c = 0 := by unfold putsB; rw [if_neg (by omega)]
    rw [ht, hp]
    clear h ht hp
    go_enter Tryz.func117, Tryz.ntmps117
    go_wp2
    go_ret2
    exact ⟨rfl, (Below.refl _ _).alloc (Nat.le_refl _) _⟩

end Go.Proofs.YtjibmpebebephaaGreatDoor.fun

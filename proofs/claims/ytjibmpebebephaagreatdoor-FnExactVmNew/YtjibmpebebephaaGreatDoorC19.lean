/-
  What is known of right functions, one by one (chapter 13): told in plain data; no program named.
  Copies of functions (chapters 13 and 19): a list of places that is copied; a row of functions whose lists are renewed one by one.
  The model's l13Copy of right functions: the same in new memory, all of it apart; nothing that was there is turned.
-/
import Derived.Maps.AppendAt
import Derived.Laws.OwnMore
import Derived.OwnWalk
import Derived.Deep.RegionHeld3
import Derived.WalkSmall
import Derived.Test.YtjibmpebebephaaGreatDoorC1
import Derived.Test.YtjibmpebebephaaGreatDoorC2
import Derived.Test.YtjibmpebebephaaGreatDoorC3
import Derived.Test.YtjibmpebebephaaGreatDoorC4
import Derived.Test.YtjibmpebebephaaGreatDoorC5
import Derived.Test.YtjibmpebebephaaGreatDoorC6
import Derived.Test.YtjibmpebebephaaGreatDoorC7
import Derived.Test.YtjibmpebebephaaGreatDoorC8
import Derived.Test.YtjibmpebebephaaGreatDoorC9
import Derived.Test.YtjibmpebebephaaGreatDoorC10
import Derived.Test.YtjibmpebebephaaGreatDoorC11
import Derived.Test.YtjibmpebebephaaGreatDoorC12
import Derived.Test.YtjibmpebebephaaGreatDoorC13
import Derived.Test.YtjibmpebebephaaGreatDoorC14
import Derived.Test.YtjibmpebebephaaGreatDoorC15
import Derived.Test.YtjibmpebebephaaGreatDoorC16
import Derived.Test.YtjibmpebebephaaGreatDoorC17
import Derived.Test.YtjibmpebebephaaGreatDoorC18
namespace Go.Proofs.YtjibmpebebephaaGreatDoor.fun
open Go Go.RowKit Go.Proofs.YtjibmpebebephaaGreatDoor.rose Go.Proofs.YtjibmpebebephaaGreatDoor
set_option linter.unusedVariables false
set_option linter.unusedSimpArgs false

theorem funsB_each {ks : List FunD} (h : funsB ks = true) {j : Nat} (hj : j < ks.length) : funB ks j ks[j] = true := by
  unfold funsB at h
  simp only [Bool.and_eq_true] at h
  have h2 := List.all_eq_true.1 h.2 j (List.mem_range.2 hj)
  rw [List.getElem?_eq_getElem hj] at h2
  exact h2
theorem funB_len {ks : List FunD} {i : Nat} {k : FunD} (h : funB ks i k = true) : 1 ≤ k.2.length ∧ k.2.length ≤ 3000 := by
  unfold funB at h
  simp only [Bool.and_eq_true] at h
  have := inB_yes h.1.1.2
  omega
theorem funB_free {ks : List FunD} {i : Nat} {k : FunD} (h : funB ks i k = true) : 0 ≤ k.1 ∧ k.1 ≤ 20 := by
  unfold funB at h
  simp only [Bool.and_eq_true] at h
  exact inB_yes h.1.1.1
theorem funB_op {ks : List FunD} {i : Nat} {k : FunD} (h : funB ks i k = true) {b : Nat} (hb : b < k.2.length) : opB ks i k k.2[b].1 k.2[b].2.1 k.2[b].2.2 = true := by
  unfold funB at h
  simp only [Bool.and_eq_true] at h
  exact List.all_eq_true.1 h.1.2 _ (List.getElem_mem hb)
theorem free_in {ks : List FunD} (h : funsB ks = true) (n : Int) : 0 ≤ freeAt ks n ∧ freeAt ks n ≤ 20 := by
  unfold freeAt
  rcases Nat.lt_or_ge n.toNat ks.length with q | q
  · rw [List.getElem?_eq_getElem q]
    exact funB_free (funsB_each h q)
  · rw [List.getElem?_eq_none q]; decide

end Go.Proofs.YtjibmpebebephaaGreatDoor.fun

namespace Go.Proofs.YtjibmpebebephaaGreatDoor.fun
open Go Go.RowKit Go.Deep Go.ChangeShapes Go.WideShapes Go.Proofs.YtjibmpebebephaaGreatDoor.rose Go.Proofs.YtjibmpebebephaaGreatDoor
set_option linter.unusedVariables false
set_option linter.unusedSimpArgs false

theorem infoFunC : (Tryz.prog.info? 60).map (fun i => (i.zero, i.size, i.bytes)) = some (some (.agg #[.int .i64 0, .slice none 0 0]), 2, 32) := by kernel_rfl
theorem infoOpC : (Tryz.prog.info? 90).map (fun i => (i.zero, i.size, i.bytes)) = some (some (.agg #[.int .i64 0, .int .i64 0, .int .i64 0]), 3, 24) := by kernel_rfl
theorem fun_infoC : ∃ ti, Tryz.prog.info? 60 = some ti ∧ ti.zero = some (.agg #[.int .i64 0, .slice none 0 0]) ∧ ti.size = 2 ∧ ti.bytes = 32 := by
  obtain ⟨i, hi, hz⟩ := Option.map_eq_some_iff.1 infoFunC
  simp only [Prod.mk.injEq] at hz
  exact ⟨i, hi, hz.1, hz.2.1, hz.2.2⟩
theorem op_infoC : ∃ ti, Tryz.prog.info? 90 = some ti ∧ ti.zero = some (.agg #[.int .i64 0, .int .i64 0, .int .i64 0]) ∧ ti.size = 3 ∧ ti.bytes = 24 := by
  obtain ⟨i, hi, hz⟩ := Option.map_eq_some_iff.1 infoOpC
  simp only [Prod.mk.injEq] at hz
  exact ⟨i, hi, hz.1, hz.2.1, hz.2.2⟩
theorem flat_oneC {css : Nat → List Value} {n : Nat} (h : ∀ i, i < n → ∀ u ∈ css i, u.oneCell' = true) : ∀ u ∈ flat css n, u.oneCell' = true := by
  intro u hu
  simp only [flat, List.mem_flatMap, List.mem_range] at hu
  obtain ⟨i, hi, hu⟩ := hu
  exact h i hi u hu
theorem litC {α : Type} (A : Sh α) (t : TypeId) (w : World) {base : Nat} (h : base ≤ w.heap.size) : Grown A t (w.alloc (.cells #[] t)) base (.slice (some ⟨w.heap.size, 0, none⟩) 0 0) ([] : List α) :=
  ⟨fun _ => [], fun _ _ => False, ⟨by simp [flat], Or.inr ⟨w.heap.size, 0, #[], rfl, h, alloc_top _ _, Nat.le_refl _, Nat.zero_le _, by simp, by simp [flat]⟩⟩, fun i h => absurd h (Nat.not_lt_zero _), fun i h => absurd h (Nat.not_lt_zero _), fun i j h => absurd h (Nat.not_lt_zero _)⟩
theorem lit_own (t : TypeId) (k : Nat) (w : World) {base : Nat} (h : base ≤ w.heap.size) : (w.alloc (.cells #[] t)).ownsRow base t k (.slice (some ⟨w.heap.size, 0, none⟩) 0 0) 0 [] :=
  ⟨by simp, Or.inr ⟨w.heap.size, 0, #[], rfl, h, alloc_top _ _, Nat.le_refl _, Nat.zero_le _, by simp, by simp⟩⟩
theorem fun_rep_one {w : World} {S : Nat → Prop} {cs : List Value} {T : FunD} (h : funSh.rep w S cs T) : ∀ u ∈ cs, u.oneCell' = true := by
  obtain ⟨x0, x1, a1, c1, -, rfl, -⟩ := fun_open h
  intro u hu
  simp only [List.mem_cons, List.mem_nil_iff, or_false] at hu
  rcases hu with rfl | rfl <;> rfl

theorem len60 {ks : List FunD} (h : funsB ks = true) : 1 ≤ ks.length ∧ ks.length ≤ 60 := by
  unfold funsB at h
  simp only [Bool.and_eq_true] at h
  have := inB_yes h.1.1
  omega
/-- The cells of a list of places. -/
theorem ops_news {w : World} {S : Nat → Prop} {a : Option Addr} {c : Nat} {os : List op.OpD} (h : op.opSh.slice.rep w S [.slice a os.length c] os) (h0 : 0 < os.length) :
    ∃ b o css, a = some ⟨b, o, none⟩ ∧ S b ∧ CellsAt w b o (flat css os.length) ∧ (flat css os.length).length = os.length * 3 ∧ (∀ u ∈ flat css os.length, u.oneCell' = true) ∧ os.length ≤ maxLen ∧
      ∀ (w' : World) (S' : Nat → Prop) i (hi : i < os.length), op.opSp.rep w' S' (css i) os[i] := by
  obtain ⟨a', cap, css, e, h1, h2, hrow, hk⟩ := op.ops_open h
  simp only [Value.slice.injEq, true_and] at e
  obtain ⟨rfl, rfl⟩ := e
  obtain ⟨b, o, rfl, hS, -⟩ := hrow 0 h0
  have hany : ∀ (w' : World) (S' : Nat → Prop) i (hi : i < os.length), op.opSp.rep w' S' (css i) os[i] := fun w' S' i hi => by
    obtain ⟨x0, x1, x2, hT, hcs, g0, g1, g2⟩ := op.op_open (hk i hi)
    rw [hT, hcs]
    exact op.op_shut g0 g1 g2
  have hlen : ∀ i, i < os.length → (css i).length = 3 := fun i hi => op.opSh.len (hk i hi)
  refine ⟨b, o, css, rfl, hS, flat_row (k := 3) hlen hrow, flat_length hlen, flat_oneC fun i hi u hu => ?_, by omega, hany⟩
  obtain ⟨x0, x1, x2, -, hcs, -⟩ := op.op_open (hk i hi)
  rw [hcs] at hu
  simp only [List.mem_cons, List.mem_nil_iff, or_false] at hu
  rcases hu with rfl | rfl | rfl <;> rfl
theorem ops_grown {w : World} {base : Nat} {v : Value} {os : List op.OpD} {css : Nat → List Value} (ho : w.ownsRow base 90 3 v os.length (flat css os.length)) (hk : ∀ (w' : World) (S' : Nat → Prop) i (hi : i < os.length), op.opSp.rep w' S' (css i) os[i]) :
    op.opSp.sslice.rep w (fun b => base ≤ b ∧ b < w.heap.size) [v] os :=
  Grown.sslice (A := op.opSp) (t := 90) ⟨css, fun _ _ => False, ho, fun i hi => hk w _ i hi, fun i hi b hb => hb.elim, fun i j hi hj hne b hb => hb.elim⟩ (by decide)

end Go.Proofs.YtjibmpebebephaaGreatDoor.fun

namespace Go.Proofs.YtjibmpebebephaaGreatDoor.fun
open Go Go.RowKit Go.Deep Go.ChangeShapes Go.WideShapes Go.Proofs.YtjibmpebebephaaGreatDoor.rose Go.Proofs.YtjibmpebebephaaGreatDoor
set_option linter.unusedVariables false
set_option linter.unusedSimpArgs false

theorem cell_drewC (w : World) (a : Addr) : w.drew.cell? a = w.cell? a := rfl
theorem take_len {α : Type} {l : List α} {i : Nat} (h : i ≤ l.length) : (l.take i).length = i := by rw [List.length_take]; omega

set_option maxRecDepth 100000 in
set_option maxHeartbeats 16000000 in
theorem specCopy (ks : List FunD) (v : Value) (w : World) (hw : ks.length + wts ks ≤ 1048576) (hq : funsB ks = true) (h : funSh.slice.rep w (· < w.heap.size) [v] ks) :
    Calls Tryz.prog 41 #[v] w fun e w' => (∃ v', e = .returned v' ∧ funSp.sslice.rep w' (fun b => w.heap.size ≤ b ∧ b < w'.heap.size) [v'] ks) ∧ Below w.heap.size w w' := by
  obtain ⟨a, cap, css, rfl, hcap, hmax, hrow, hk⟩ := funs_open h
  have HR : Hid (RowAt w (· < w.heap.size) 2 a ks.length css ∧ ∀ i (h : i < ks.length), funSh.rep w (· < w.heap.size) (css i) ks[i]) := ⟨hrow, hk⟩
  have hmx : (ks.length : Int) ≤ 9223372036854775807 := by omega
  have Q1 : Hid (funsB ks = true) := hq
  obtain ⟨tf, htf, hzf0, hzf1, hzf2⟩ := fun_infoC
  have TF : Hid (Tryz.prog.info? 60 = some tf ∧ tf.zero = some (.agg #[.int .i64 0, .slice none 0 0]) ∧ tf.size = 2 ∧ tf.bytes = 32) := ⟨htf, hzf0, hzf1, hzf2⟩
  obtain ⟨to_, hto, hzo0, hzo1, hzo2⟩ := op_infoC
  have TO : Hid (Tryz.prog.info? 90 = some to_ ∧ to_.zero = some (.agg #[.int .i64 0, .int .i64 0, .int .i64 0]) ∧ to_.size = 3 ∧ to_.bytes = 24) := ⟨hto, hzo0, hzo1, hzo2⟩
  have G0 : Hid (Grown funSp 60 (w.alloc (.cells #[] 60)) w.heap.size (.slice (some ⟨w.heap.size, 0, none⟩) 0 0) ([] : List FunD)) := litC _ _ _ (Nat.le_refl _)
  have B0 : Hid (Below w.heap.size w (w.alloc (.cells #[] 60))) := (Below.refl _ _).alloc (Nat.le_refl _) _
  have hkl := (len60 hq)
  clear h hcap hmax hrow hk hw hq htf hzf0 hzf1 hzf2 hto hzo0 hzo1 hzo2
  go_enter Tryz.func41, Tryz.ntmps41
  go_wp2
  go_loopw [3, 4] (fun v3 v4 wr => ∃ (i : Nat) (a3 : Option Addr) (c3 : Nat), i ≤ ks.length ∧ v4 = .int .i64 i ∧ v3 = .slice a3 i c3 ∧ Hid (Grown funSp 60 wr w.heap.size (.slice a3 i c3) (ks.take i)) ∧ Hid (Below w.heap.size w wr)) (fun _ v4 _ => ks.length - (intOf v4).toNat)
  case atStart => exact ⟨0, _, _, Nat.zero_le _, rfl, rfl, G0, B0⟩
  case round =>
    clear G0 B0
    obtain ⟨i, a3, c3, hi, rfl, rfl, HG, HB⟩ := hrel
    by_cases hlt : i < ks.length
    · obtain ⟨b, o, rfl, hS, hc⟩ := HR.out.1 i hlt
      obtain ⟨y0, os, a2, c2, hT, hcs, g0, hrep⟩ := fun_open (HR.out.2 i hlt)
      rw [hcs] at hc
      have e0 : wr.cell? ⟨b, o + i * 2, none⟩ = some (.int .i64 y0) := (HB.out.cell (p := ⟨b, o + i * 2, none⟩) hS).trans (hc 0 _ rfl)
      have e1 : wr.cell? ⟨b, o + i * 2 + 1, none⟩ = some (.slice a2 os.length c2) := (HB.out.cell (p := ⟨b, o + i * 2 + 1, none⟩) hS).trans (hc 1 _ rfl)
      have hos : ks[i].2 = os := by rw [hT]
      have HL := funB_len (funsB_each Q1.out hlt)
      rw [hos] at HL
      obtain ⟨bo, oo, cso, rfl, hSo, hco, hlo, h1o, hmo, hany⟩ := ops_news hrep (by omega)
      have iI : (i : Int) < (ks.length : Int) := by omega
      have iI0 : (0 : Int) ≤ (i : Int) := by omega
      have hbs : b < wr.heap.size := Nat.lt_of_lt_of_le hS HB.out.size
      have HBS : Hid (b < w.heap.size ∧ bo < w.heap.size ∧ w.heap.size ≤ wr.heap.size) := ⟨hS, hSo, HB.out.size⟩
      have HTI : Hid (ks[i] = (y0, os)) := hT
      -- the row so far
      obtain ⟨cssG, FG, grow, grep, gin, gap⟩ := HG.out
      have hti := take_len (l := ks) hi
      simp only [hti] at grow grep gin gap
      have GA : Hid ((∀ j (h : j < (ks.take i).length), funSp.rep wr (FG j) (cssG j) (ks.take i)[j]) ∧ (∀ j, j < (ks.take i).length → ∀ q, FG j q → w.heap.size ≤ q ∧ q < wr.heap.size ∧ (Value.slice a3 i c3).ownBlock ≠ some q) ∧ ∀ j l, j < (ks.take i).length → l < (ks.take i).length → j ≠ l → ∀ q, FG j q → ¬ FG l q) := ⟨fun j hj => grep j (by rw [hti] at hj; exact hj), fun j hj => gin j (by rw [hti] at hj; exact hj), fun j l hj hl => gap j l (by rw [hti] at hj; exact hj) (by rw [hti] at hl; exact hl)⟩
      have GV : Hid (∀ g, (Value.slice a3 i c3).ownBlock = some g → w.heap.size ≤ g ∧ g < wr.heap.size) := fun g hg => grow.lt g hg
      have GR : Hid (wr.ownsRow w.heap.size 60 2 (.slice a3 i c3) i (flat cssG i)) := grow
      -- worlds on the way
      have k0 : (wr.alloc (.cells #[] 90)).cell? ⟨b, o + i * 2, none⟩ = some (.int .i64 y0) := by rw [World.cell?_alloc_lt _ _ _ hbs]; exact e0
      have k1 : (wr.alloc (.cells #[] 90)).cell? ⟨b, o + i * 2 + 1, none⟩ = some (.slice (some ⟨bo, oo, none⟩) os.length c2) := by rw [World.cell?_alloc_lt _ _ _ hbs]; exact e1
      have L0 : Hid ((wr.alloc (.cells #[] 90)).drew.ownsRow wr.heap.size 90 3 (.slice (some ⟨wr.heap.size, 0, none⟩) 0 0) 0 []) := lit_own 90 3 wr (Nat.le_refl _)
      have NW : Hid (∀ j u, (flat cso os.length)[j]? = some u → (wr.alloc (.cells #[] 90)).drew.cell? ((⟨bo, oo, none⟩ : Addr).add j) = some u) := fun j u hu => by
        rw [rose.add_plain, cell_drewC, World.cell?_alloc_lt _ _ _ (by show bo < _; exact Nat.lt_of_lt_of_le hSo HB.out.size)]
        exact (HB.out.cell (p := ⟨bo, oo + j, none⟩) hSo).trans (hco j u hu)
      have LM : Hid ((flat cso os.length).length = os.length * 3) := hlo
      have O1 : Hid (∀ u ∈ flat cso os.length, u.oneCell' = true) := h1o
      have ANY : Hid (∀ (w' : World) (S' : Nat → Prop) i (hi : i < os.length), op.opSp.rep w' S' (cso i) os[i]) := hany
      have G0R : Hid (-9223372036854775808 ≤ y0 ∧ y0 ≤ 9223372036854775807) := g0
      have HOL : Hid (1 ≤ os.length ∧ os.length ≤ 3000) := HL
      clear hc hcs hT hrep hos HL hco hlo h1o hmo hany grow grep gin gap HG hS hSo g0
      go_wp2
      go_region_held3 (fun X => X.cell? ⟨b, o + i * 2, none⟩ = some (.int .i64 y0) ∧ X.cell? ⟨b, o + i * 2 + 1, none⟩ = some (.slice (some ⟨bo, oo, none⟩) os.length c2))
        (exact ⟨(by first | with_reducible exact e0 | with_reducible exact k0 | with_reducible exact y0c | with_reducible exact z0c _ | with_reducible exact q0c | (rw [cell_drewC]; first | with_reducible exact e0 | with_reducible exact k0 | with_reducible exact y0c | with_reducible exact z0c _ | with_reducible exact q0c)), (by first | with_reducible exact e1 | with_reducible exact k1 | with_reducible exact y1c | with_reducible exact z1c _ | with_reducible exact q1c | (rw [cell_drewC]; first | with_reducible exact e1 | with_reducible exact k1 | with_reducible exact y1c | with_reducible exact z1c _ | with_reducible exact q1c))⟩)
        (first
          | (refine step_append_own rfl (.tmp 18) (.tmp 23) 58 rfl wr.heap.size 90 to_ _ 3 24 Tryz.underlying58 TO.out.1 TO.out.2.1 TO.out.2.2.1 TO.out.2.2.2 rfl (by decide) (.slice (some ⟨wr.heap.size, 0, none⟩) 0 0) 0 [] (by simp [Act.eval, Act.put]) L0.out ⟨bo, oo, none⟩ os.length c2 (flat cso os.length) (by simp [Act.eval, Act.put]) LM.out NW.out O1.out (by have := HOL.out; unfold maxLen; omega) (by have := HOL.out; omega) (by simp) ?_
             intro ua ul uc w3 hown3 hgrow3 hat3
             have hB3 : Below wr.heap.size wr w3 := ((Below.refl _ wr).alloc (Nat.le_refl _) _).drew.grown hgrow3 (by simp) (fun k hk => by simp only [Value.ownBlock, Option.some.injEq] at hk; omega)
             have y0c : w3.cell? ⟨b, o + i * 2, none⟩ = some (.int .i64 y0) := (hB3.cell (p := ⟨b, o + i * 2, none⟩) hbs).trans e0
             have y1c : w3.cell? ⟨b, o + i * 2 + 1, none⟩ = some (.slice (some ⟨bo, oo, none⟩) os.length c2) := (hB3.cell (p := ⟨b, o + i * 2 + 1, none⟩) hbs).trans e1
             have z0c : ∀ X : Obj, (w3.alloc X).cell? ⟨b, o + i * 2, none⟩ = some (.int .i64 y0) := fun X => by rw [World.cell?_alloc_lt _ _ _ (Nat.lt_of_lt_of_le hbs hB3.size)]; exact y0c
             have z1c : ∀ X : Obj, (w3.alloc X).cell? ⟨b, o + i * 2 + 1, none⟩ = some (.slice (some ⟨bo, oo, none⟩) os.length c2) := fun X => by rw [World.cell?_alloc_lt _ _ _ (Nat.lt_of_lt_of_le hbs hB3.size)]; exact y1c)
          | (refine step_append_own rfl (.tmp 12) (.tmp 26) 31 rfl w.heap.size 60 tf _ 2 32 Tryz.underlying31 TF.out.1 TF.out.2.1 TF.out.2.2.1 TF.out.2.2.2 rfl (by decide) (.slice a3 i c3) i (flat cssG i) (by simp [Act.eval, Act.put]) (own_same GR.out fun q hq => (Below.heap_alloc _ _ _ (Nat.lt_of_lt_of_le (GV.out q hq).2 hB3.size)).trans (hB3.block q (GV.out q hq).2)) ⟨w3.heap.size, 0, none⟩ 1 1 [.int .i64 y0, .slice ua ul uc] (by simp [Act.eval, Act.put]) rfl (cells_new _ _ _ _ rfl) (by simp; exact ⟨rfl, rfl⟩) (by unfold maxLen; omega) (by omega) (by have := hB3.size; have := HBS.out; simp; omega) ?_
             intro va vl vc w5 hown5 hgrow5 hat5
             have hz5 : (w3.alloc (.cells #[.int .i64 y0, .slice ua ul uc] 60)).heap.size ≤ w5.heap.size := hgrow5.size
             have q0c : w5.cell? ⟨b, o + i * 2, none⟩ = some (.int .i64 y0) := by rw [World.cell?_of_block (w := w3.alloc (.cells #[.int .i64 y0, .slice ua ul uc] 60)) (a := ⟨b, o + i * 2, none⟩) (hgrow5.block b (by have := hB3.size; simp; omega) fun e => by have := (GV.out b e.symm).1; have := HBS.out; omega)]; exact z0c _
             have q1c : w5.cell? ⟨b, o + i * 2 + 1, none⟩ = some (.slice (some ⟨bo, oo, none⟩) os.length c2) := by rw [World.cell?_of_block (w := w3.alloc (.cells #[.int .i64 y0, .slice ua ul uc] 60)) (a := ⟨b, o + i * 2 + 1, none⟩) (hgrow5.block b (by have := hB3.size; simp; omega) fun e => by have := (GV.out b e.symm).1; have := HBS.out; omega)]; exact z1c _))
      all_goals
        have hA : Below w3.heap.size w3 (w3.alloc (.cells #[.int .i64 y0, .slice ua ul uc] 60)) := (Below.refl _ _).alloc (Nat.le_refl _) _
        rw [Nat.zero_add, List.nil_append] at hown3
        obtain ⟨ua', uc', hue⟩ := own_form hown3
        simp only [Value.slice.injEq] at hue
        obtain ⟨rfl, rfl, rfl⟩ := hue
        obtain ⟨va', vc', hve⟩ := own_form hown5
        simp only [Value.slice.injEq] at hve
        obtain ⟨rfl, rfl, rfl⟩ := hve
        have hsl := ops_grown hown3 ANY.out
        have hx : funSp.rep (w3.alloc (.cells #[.int .i64 y0, .slice ua os.length uc] 60)) (fun q => wr.heap.size ≤ q ∧ q < w3.heap.size) [.int .i64 y0, .slice ua os.length uc] (y0, os) :=
          funSp.on (funp_shut G0R.out hsl) fun q hq => hA.block q hq.2
        have hti := take_len (l := ks) hi
        have NX : Hid (Grown funSp 60 w5 w.heap.size (.slice va (i + 1) vc) (ks.take (i + 1))) := by
          show Grown _ _ _ _ _ _
          have hpush := Grown.push (A := funSp) (t := 60) (w := wr) (w1 := w3.alloc (.cells #[.int .i64 y0, .slice ua os.length uc] 60)) (w' := w5) (base := w.heap.size) (xs := ks.take i) (css := cssG) (F := FG) (v := .slice a3 i c3) (a' := va) (l' := i + 1) (c' := vc) (cs := [.int .i64 y0, .slice ua os.length uc]) (x := (y0, os)) (lo := wr.heap.size) (hi := w3.heap.size)
            (fun j hj => funSp.on (GA.out.1 j hj) fun q hq => (Below.heap_alloc _ _ _ (Nat.lt_of_lt_of_le (GA.out.2.1 j hj q hq).2.1 hB3.size)).trans (hB3.block q (GA.out.2.1 j hj q hq).2.1)) GA.out.2.1 GA.out.2.2 (fun g hg => (GV.out g hg).2) hx (by have := HBS.out; omega) hB3.size (by simp) (by rw [hti]; exact hown5) hgrow5 hat5
          rw [List.take_succ_eq_append_getElem hlt, HTI.out]
          exact hpush
        have BX : Hid (Below w.heap.size w w5) := (HB.out.trans ((hB3.trans (hA.mono hB3.size)).mono HBS.out.2.2)).grown hgrow5 (by have := hB3.size; have := HBS.out; simp; omega) fun g hg => (GV.out g hg).1
        clear hA hown3 hown5 hgrow3 hgrow5 hat3 hat5 hB3 y0c y1c z0c z1c q0c q1c k0 k1 e0 e1 hsl hx hti hz5
        go_wp2
        go_round
        case rel => exact ⟨i + 1, va, vc, by omega, by go_num, by first | rfl | trivial, NX, BX⟩
        case measure => simp [intOf]; omega
    · obtain rfl : i = ks.length := by omega
      have hF := HG.out.sslice (by decide)
      rw [List.take_length] at hF
      have HF : Hid _ := hF
      clear hF
      go_wp2
      go_ret
      exact ⟨⟨_, rfl, HF.out⟩, HB.out⟩

end Go.Proofs.YtjibmpebebephaaGreatDoor.fun

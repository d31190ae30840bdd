/-
  The program meets words (metBlocks.add): the blocks that they are places of stand behind those that were met, each once.
  What is known of the blocks that are come to (chapter 18): told in plain data.
  The contract of math/bits.Mul at this program (the shelf's, proved once over any program, applied here); no condition of our own.
  slices.Repeat of a slice of one int: so many of it, in new memory; nothing that was there is turned.
-/
import Derived.Maps.AppendAt
import Derived.Shelf.Lays
import Derived.Shelf.Bits.Mul64
import Derived.Test.YtjibmpebebephaaGreatDoorChecked
import Derived.WalkKit
import Derived.WalkLawsBesides
import Derived.Laws.MakeOwn
import Derived.Laws.CopyOwn
import Derived.Deep.RegionLaw
import Derived.WalkSmall
import Derived.Test.YtjibmpebebephaaGreatDoorB1
import Derived.Test.YtjibmpebebephaaGreatDoorB2
import Derived.Test.YtjibmpebebephaaGreatDoorB3
import Derived.Test.YtjibmpebebephaaGreatDoorB4
import Derived.Test.YtjibmpebebephaaGreatDoorB5
import Derived.Test.YtjibmpebebephaaGreatDoorB6
import Derived.Test.YtjibmpebebephaaGreatDoorB7
import Derived.Test.YtjibmpebebephaaGreatDoorB8
import Derived.Test.YtjibmpebebephaaGreatDoorB9
import Derived.Test.YtjibmpebebephaaGreatDoorB10
import Derived.Test.YtjibmpebebephaaGreatDoorB11
import Derived.Test.YtjibmpebebephaaGreatDoorB12
import Derived.Test.YtjibmpebebephaaGreatDoorB13
import Derived.Test.YtjibmpebebephaaGreatDoorB14
import Derived.Test.YtjibmpebebephaaGreatDoorB15
import Derived.Test.YtjibmpebebephaaGreatDoorB16
import Derived.Test.YtjibmpebebephaaGreatDoorB17
import Derived.Test.YtjibmpebebephaaGreatDoorB18
import Derived.Test.YtjibmpebebephaaGreatDoorB19
import Derived.Test.YtjibmpebebephaaGreatDoorB20
import Derived.Test.YtjibmpebebephaaGreatDoorB21
namespace Go.Proofs.YtjibmpebebephaaGreatDoor.heap
open Go Go.RowKit Go.Deep Go.Proofs.YtjibmpebebephaaGreatDoor.rose Go.Proofs.YtjibmpebebephaaGreatDoor Go.Proofs.YtjibmpebebephaaGreatDoor.fun Go.Proofs.YtjibmpebebephaaGreatDoor.words Go.Proofs.YtjibmpebebephaaGreatDoor.ints
set_option linter.unusedVariables false
set_option linter.unusedSimpArgs false

theorem entR : Enters Tryz.prog 111 := enters_of Tryz.func111 (by kernel_rfl) rfl
/-- Words that lie one behind the other in memory below B. -/
def Piece (w : World) (B : Nat) (a : Option Addr) (xs : List Int) : Prop := ∀ j (hj : j < xs.length), ∃ b o, a = some ⟨b, o, none⟩ ∧ b < B ∧ w.cell? ⟨b, o + j, none⟩ = some (.int .i64 xs[j]) ∧ InR xs[j]
theorem Piece.on {w w' : World} {B : Nat} {a : Option Addr} {xs : List Int} (h : Piece w B a xs) (hb : Below B w w') : Piece w' B a xs := fun j hj => by
  obtain ⟨b, o, h1, h2, h3, h4⟩ := h j hj
  exact ⟨b, o, h1, h2, (hb.cell (p := ⟨b, o + j, none⟩) h2).trans h3, h4⟩
theorem Piece.of {w : World} {B : Nat} {S : Nat → Prop} {a : Option Addr} {c : Nat} {xs : List Int} (h : intsSh.rep w S [.slice a xs.length c] xs) (hS : ∀ b, S b → b < B) : Piece w B a xs := fun j hj => by
  obtain ⟨a0, c0, e, -, -, hat⟩ := ints_open h
  cases e
  obtain ⟨b, o, h1, h2, h3, h4, h5⟩ := hat j hj
  exact ⟨b, o, h1, hS b h2, h3, h4, h5⟩

theorem in_half {base half : Nat} {O : List Int} (hn : O.Nodup) (hr : ∀ x ∈ O, (base : Int) ≤ x ∧ x < base + half) : O.length ≤ half := by
  have := nodup_len (L := (List.range half).map fun j => ((base + j : Nat) : Int)) hn fun x hx => by
    have := hr x hx
    exact List.mem_map.2 ⟨(x - base).toNat, List.mem_range.2 (by omega), by omega⟩
  simpa using this
theorem cell_setM {w : World} {g r i j : Nat} {u : Value} (v : Value) (h : w.cell? ⟨g, j, none⟩ = some u) (hne : ¬ r = g) : (w.setCell ⟨r, i, none⟩ v).cell? ⟨g, j, none⟩ = some u := by
  have e : (w.setCell ⟨r, i, none⟩ v).heap[g]? = w.heap[g]? := Below.heap_setCell _ _ _ _ (by show g ≠ r; omega)
  rw [← h]
  simp only [World.cell?, e]
section
variable {B mb nb : Nat} {v : Value} {base half : Nat} {O : List Int} {w w' : World}
/-- One more block is met. -/
theorem MB.push (h : MB B mb nb v base half O w) {j : Nat} (hj : j < half) (hn : ((base + j : Nat) : Int) ∉ O) {w3 : World} {v' : Value} (e1 : w3.heap[nb]? = (w.setCell ⟨nb, j, none⟩ (.int .i64 (O.length : Nat))).heap[nb]?) (e2 : w3.heap[mb]? = w.heap[mb]?) (hI : IRow w3 B v' (O ++ [((base + j : Nat) : Int)])) (hv : v'.ownBlock ≠ some nb ∧ v'.ownBlock ≠ some mb) :
    MB B mb nb v' base half (O ++ [((base + j : Nat) : Int)]) (w3.setCell ⟨mb, 1, none⟩ v') := by
  have hlo := h.lo
  have hm := h.met
  have hnum : w3.heap[nb]? = some (.cells ((numsO base half (O ++ [((base + j : Nat) : Int)])).map (Value.int .i64)).toArray 3) := by
    rw [e1, numsO_push hj hn]
    simp [World.setCell, Array.getElem?_modify, hm.num, List.map_set]
  have hrr : ∀ x ∈ O ++ [((base + j : Nat) : Int)], (base : Int) ≤ x ∧ x < base + half := fun x hx => by
    rcases List.mem_append.1 hx with q | q
    · exact hm.siz.2.2.2 x q
    · rw [List.mem_singleton] at q; subst q; omega
  have hnd : (O ++ [((base + j : Nat) : Int)]).Nodup := by
    rw [List.nodup_append]
    exact ⟨hm.nod, by simp, fun a ha b hb e => by simp only [List.mem_singleton] at hb; subst hb e; exact hn ha⟩
  refine ⟨⟨⟨hm.lo.1, hv.1⟩, ⟨own_same hI.1 fun q hq => Below.heap_setCell _ _ _ _ (by show q ≠ mb; intro e; exact hv.2 (by rw [hq, e])), hI.2⟩, (Below.heap_setCell _ _ _ _ (by show nb ≠ mb; omega)).trans hnum, ⟨hm.siz.1, hm.siz.2.1, in_half hnd hrr, hrr⟩, hnd⟩, ⟨hlo.1, hlo.2.1, hv.2⟩, ?_⟩
  have hb : w3.heap[mb]? = _ := e2.trans h.blk
  simp [World.setCell, Array.getElem?_modify, hb]
end

set_option maxRecDepth 100000 in
set_option maxHeartbeats 8000000 in
theorem add_any {B mb nb : Nat} {v : Value} {base half : Nat} {O : List Int} {w : World} (h : MB B mb nb v base half O w) (a : Option Addr) (c : Nat) (xs : List Int) (hl : xs.length ≤ 1048576) (hp : Piece w B a xs) (hx : ∀ x ∈ xs, x % 2 = 0 → (base : Int) ≤ x / 2 ∧ x / 2 < base + half) (hB : B ≤ w.heap.size) :
    Calls Tryz.prog 96 #[.pointer (some ⟨mb, 0, none⟩), .slice a xs.length c] w fun e w' => e = .returned (.tuple #[]) ∧ (∃ v', MB B mb nb v' base half (addRs O xs) w') ∧ Below B w w' := by
  obtain ⟨ti, hti, hz0, hz1, hz2⟩ := int_info
  have TI : Hid (Tryz.prog.info? 3 = some ti ∧ ti.zero = some (.int .i64 0) ∧ ti.size = 1 ∧ ti.bytes = 8) := ⟨hti, hz0, hz1, hz2⟩
  have K0 : Hid (MB B mb nb v base half (addRs O (xs.take 0)) w) := h
  have P0 : Hid (Piece w B a xs) := hp
  have HX : Hid (∀ x ∈ xs, x % 2 = 0 → (base : Int) ≤ x / 2 ∧ x / 2 < base + half) := hx
  have HB : Hid (B ≤ w.heap.size) := hB
  have HLO : Hid (B ≤ mb ∧ B ≤ nb ∧ mb ≠ nb) := ⟨h.lo.1, h.met.lo.1, h.lo.2.1⟩
  have HSZ : Hid (half ≤ 3000 ∧ base ≤ 3000) := ⟨h.met.siz.1, h.met.siz.2.1⟩
  clear h hp hx hti hz0 hz1 hz2 hB
  go_enter Tryz.func96, Tryz.ntmps96
  go_wp2
  go_loopw [8] (fun v8 wr => ∃ (i : Nat) (vi : Value), i ≤ xs.length ∧ v8 = .int .i64 i ∧ Hid (MB B mb nb vi base half (addRs O (xs.take i)) wr) ∧ Hid (Below B w wr)) (fun v8 _ => xs.length - (intOf v8).toNat)
  case atStart => exact ⟨0, v, Nat.zero_le _, rfl, K0, Below.refl _ _⟩
  case round =>
    obtain ⟨i, vi, hi, rfl, HM, HW⟩ := hrel
    by_cases hlt : i < xs.length
    · obtain ⟨b, o, rfl, hbB, hc, r1, r2⟩ := (P0.out.on HW.out) i hlt
      have hxi := HX.out xs[i] (List.getElem_mem hlt)
      have htake := addRs_take (out := O) hlt
      obtain ⟨x, hxx⟩ : ∃ x, x = xs[i] := ⟨_, rfl⟩
      rw [← hxx] at hc r1 r2 hxi htake
      obtain ⟨Oi, hOi⟩ : ∃ Oi, Oi = addRs O (xs.take i) := ⟨_, rfl⟩
      rw [← hOi] at HM htake
      have HT : Hid (addRs O (xs.take (i + 1)) = addR Oi x) := htake
      have iI : (i : Int) < (xs.length : Int) := by omega
      have i0 : (0 : Int) ≤ (i : Int) := by omega
      clear hxx hOi htake
      rcases q1 : decide (x % 2 = 0) with _ | _
      · have HN : Hid (MB B mb nb vi base half (addRs O (xs.take (i + 1))) wr) := by
          show MB _ _ _ _ _ _ _ _; rw [HT.out, addR_skip (.inl (of_decide_eq_false q1))]; exact HM.out
        go_wp2_with (go_at_call 105; refine (isRef_b q1 _ r1 r2).mono ?_; rintro e w' ⟨rfl, hx⟩; subst w')
        go_round
        case rel => exact ⟨i + 1, vi, by omega, by go_num, HN, HW⟩
        case measure => simp [intOf]; omega
      · have q2 := of_decide_eq_true q1
        have hr := hxi q2
        obtain ⟨j, hj⟩ : ∃ j : Nat, x / 2 = ((base + j : Nat) : Int) := ⟨(x / 2 - base).toNat, by omega⟩
        have hjh : j < half := by omega
        have c0 := HM.out.c0
        have c1 := HM.out.c1
        have c2 := HM.out.c2
        have hnum := number_is base vi nb half j x (numO base Oi j) wr hj hjh HSZ.out r1 r2 (HM.out.met.nc hjh) HM.out.met.lt
        have hrng := numO_in (base := base) (O := Oi) (by have := HM.out.met.siz; omega) j
        by_cases q3 : ((base + j : Nat) : Int) ∈ Oi
        · have hne : ¬ numO base Oi j = -1 := by unfold numO; rw [if_pos q3]; omega
          have HN0 : Hid (addRs O (xs.take (i + 1)) = Oi) := by show _ = _; rw [HT.out, addR_skip (.inr (by rw [hj]; exact q3))]
          generalize numO base Oi j = r at hnum hrng hne
          clear q3 hr hxi
          go_wp2_with (first
            | (go_at_call 105; refine (isRef_b q1 _ r1 r2).mono ?_; rintro e w' ⟨rfl, hx⟩; subst w'))
          refine hnum.mono ?_
          rintro e w1 ⟨rfl, hb1⟩
          have K1 : Hid (Below wr.heap.size wr w1) := hb1
          clear hb1 hnum
          go_wp2
          have HN : Hid (MB B mb nb vi base half (addRs O (xs.take (i + 1))) w1) := by show MB _ _ _ _ _ _ _ _; rw [HN0.out]; exact HM.out.on K1.out
          have HW1 : Hid (Below B w w1) := HW.out.trans (K1.out.mono (Nat.le_trans HB.out HW.out.size))
          go_round
          case rel => exact ⟨i + 1, vi, by omega, by go_num, HN, HW1⟩
          case measure => simp [intOf]; omega
        · have hr1 : numO base Oi j = -1 := by unfold numO; rw [if_neg q3]
          rw [hr1] at hnum
          have HN0 : Hid (addRs O (xs.take (i + 1)) = Oi ++ [((base + j : Nat) : Int)]) := by show _ = _; rw [HT.out, addR_put q2 (by rw [hj]; exact q3), hj]
          obtain ⟨av, cv, hvi⟩ := own_form HM.out.met.plc.1
          subst hvi
          have HL : Hid (Oi.length ≤ 3000) := by show _ ≤ _; have := HM.out.met.siz; omega
          have Q3 : Hid (((base + j : Nat) : Int) ∉ Oi) := q3
          clear q3 hr hxi hr1 hrng
          go_wp2_with (first
            | (go_at_call 105; refine (isRef_b q1 _ r1 r2).mono ?_; rintro e w' ⟨rfl, hx⟩; subst w'))
          refine hnum.mono ?_
          rintro e w1 ⟨rfl, hb1⟩
          have H1 : Hid (MB B mb nb (.slice av Oi.length cv) base half Oi w1) := HM.out.on hb1
          have W1 : Hid (Below B w w1) := HW.out.trans (hb1.mono (Nat.le_trans HB.out HW.out.size))
          clear hb1 hnum c0 c1 c2
          have c0 := H1.out.c0
          have c1 := H1.out.c1
          have c2 := H1.out.c2
          have c0n : w1.drew.cell? ⟨mb, 0, none⟩ = some (.int .i64 base) := c0
          have c1n : w1.drew.cell? ⟨mb, 1, none⟩ = some (.slice av Oi.length cv) := c1
          have c2n : w1.drew.cell? ⟨mb, 2, none⟩ = some (.slice (some ⟨nb, 0, none⟩) half half) := c2
          have cj := H1.out.met.nc hjh
          have cf := H1.out.nfrz j
          have cjn : w1.drew.cell? ⟨nb, j, none⟩ = some (.int .i64 (numO base Oi j)) := cj
          have cfn : w1.drew.frozen? ⟨nb, j, none⟩ = false := cf
          have hnm : ¬ nb = mb := by have := HLO.out; omega
          have hcw : ∀ X : World, Calls Tryz.prog 111 #[.int .i64 x] X fun e w' => e = .returned (.int .i64 ((base : Int) + j)) ∧ w' = X := fun X => (wordRef_same x X r1 r2).mono fun e w' ⟨he, hb⟩ => ⟨by rw [he, hj]; simp, hb⟩
          have e1 : IntKind.i64.wrap ((base : Int) + j - base) = (j : Int) := by have := HSZ.out; rw [IntKind.wrap_i64]; omega
          have e2 : (base : Int) + j - base = (j : Int) := by omega
          have e3 : IntKind.i64.wrap (j : Int) = (j : Int) := by have := HSZ.out; rw [IntKind.wrap_i64]; omega
          have e4 : ¬ ((j : Int) < 0) := by omega
          have e5 : ((j : Int)).toNat = j := by omega
          have jI : (j : Int) < (half : Int) := by omega
          have j0 : (0 : Int) ≤ (j : Int) := by omega
          go_wp2
          go_region_held3 (fun X => X.cell? ⟨mb, 0, none⟩ = some (.int .i64 base) ∧ X.cell? ⟨mb, 1, none⟩ = some (.slice av Oi.length cv) ∧ X.cell? ⟨mb, 2, none⟩ = some (.slice (some ⟨nb, 0, none⟩) half half))
            (exact ⟨(by first | with_reducible exact c0 | with_reducible exact c0n | exact cell_setM _ c0 hnm), (by first | with_reducible exact c1 | with_reducible exact c1n | exact cell_setM _ c1 hnm), (by first | with_reducible exact c2 | with_reducible exact c2n | exact cell_setM _ c2 hnm)⟩)
            (first
              | (go_at_call 111; refine (hcw _).mono ?_; rintro e w' ⟨rfl, hx⟩; subst w'))
          have U1 : Hid (w1.cell? ⟨mb, 1, none⟩ = some (.slice av Oi.length cv)) := c1
          have HZ : Hid (B ≤ w1.heap.size) := Nat.le_trans HB.out W1.out.size
          obtain ⟨w2, hw2⟩ : ∃ w2, w2 = (w1.setCell ⟨nb, j, none⟩ (.int .i64 (Oi.length : Int))).drew := ⟨_, rfl⟩
          rw [← hw2]
          have S2 : Hid (w2.heap.size = w1.heap.size ∧ w2.heap[nb]? = (w1.setCell ⟨nb, j, none⟩ (.int .i64 (Oi.length : Nat))).heap[nb]? ∧ (∀ q, q ≠ nb → w2.heap[q]? = w1.heap[q]?) ∧ Below B w w2) := by
            rw [hw2]
            refine ⟨by show (w1.setCell _ _).heap.size = _; simp [World.setCell], rfl, fun q hq => Below.heap_setCell _ _ _ _ (by exact hq), (W1.out.setCell (by exact HLO.out.2.1) _).drew⟩
          have RA : Hid (w2.ownsRow B 3 1 (.slice av Oi.length cv) Oi.length (Oi.map (Value.int .i64))) := own_same H1.out.met.plc.1 fun q hq => S2.out.2.2.1 q (fun e => H1.out.met.lo.2 (by rw [hq, e]))
          have M2 : Hid (w2.heap[mb]? = some (.cells #[.int .i64 base, .slice av Oi.length cv, .slice (some ⟨nb, 0, none⟩) half half] 69)) := (S2.out.2.2.1 mb (by have := HLO.out; omega)).trans H1.out.blk
          clear hw2 c0 c1 c2 c0n c1n c2n cj cf cjn cfn U1
          have k1 : w2.cell? ⟨mb, 1, none⟩ = some (.slice av Oi.length cv) := blk_cellH (i := 1) M2.out rfl
          have hcv : Calls Tryz.prog 111 #[.int .i64 x] w2.drew fun e w' => e = .returned (.int .i64 ((base : Int) + j)) ∧ w' = w2.drew := hcw _
          go_wp2
          go_region_law
            (first
              | (refine step_append_own rfl _ _ 23 rfl B 3 ti _ 1 8 Tryz.underlying23 TI.out.1 TI.out.2.1 TI.out.2.2.1 TI.out.2.2.2 rfl (by decide) (.slice av Oi.length cv) Oi.length _ (by first | (simp [Act.eval]; done) | (simp [Act.eval, Act.put]; done) | rfl) RB.out ⟨w2.heap.size, 0, none⟩ 1 1 [.int .i64 ((base : Int) + j)] rfl rfl (cells_new _ _ _ _ rfl) (by simp [Value.oneCell']) (by unfold maxLen; have := HL.out; omega) (by have := HL.out; omega) (by have := HZ.out; have := S2.out.1; simp; omega) ?_; intro ua ul uc w3 hown3 hgrow3 hat3
                 have hO3 : w3.heap[mb]? = some (.cells #[.int .i64 base, .slice av Oi.length cv, .slice (some ⟨nb, 0, none⟩) half half] 69) := (hgrow3.block mb (by have := H1.out.lt; have := S2.out.1; simp; omega) (fun e => H1.out.lo.2.2 e.symm)).trans ((Below.heap_alloc _ _ _ (by have := H1.out.lt; have := S2.out.1; show mb < w2.heap.size; omega)).trans M2.out)
                 have y0 : w3.cell? ⟨mb, 1, none⟩ = some (.slice av Oi.length cv) := blk_cellH (i := 1) hO3 rfl
                 have y1 : w3.frozen? ⟨mb, 1, none⟩ = false := by simp [World.frozen?, hO3])
              | (refine step_call rfl 111 entR _ _ rfl _ _ hcv (by first | (simp [Act.eval]; done) | (simp [Act.eval, Act.put]; done) | rfl) ?_; rintro e w' ⟨rfl, hx⟩; subst w'
                 have k1' : ∀ o', (w2.drew.alloc o').cell? ⟨mb, 1, none⟩ = some (.slice av Oi.length cv) := fun o' => blk_cellH (i := 1) ((Below.heap_alloc _ _ _ (by have := H1.out.lt; have := S2.out.1; show mb < w2.heap.size; omega)).trans M2.out) rfl
                 have k1'' : ∀ o', (w2.alloc o').cell? ⟨mb, 1, none⟩ = some (.slice av Oi.length cv) := k1'
                 have k1d : ∀ o', (w2.alloc o').drew.cell? ⟨mb, 1, none⟩ = some (.slice av Oi.length cv) := k1'
                 have RB : Hid ((w2.drew.alloc (.cells #[.int .i64 ((base : Int) + j)] 3)).ownsRow B 3 1 (.slice av Oi.length cv) Oi.length (Oi.map (Value.int .i64))) := own_same RA.out fun q hq => Below.heap_alloc _ _ _ (by have := (H1.out.met.plc.lt q hq).2; have := S2.out.1; show q < w2.heap.size; omega)
                 refine ⟨_, rfl, ?_⟩))
          all_goals
            have H3 : MB B mb nb (.slice ua ul uc) base half (Oi ++ [((base + j : Nat) : Int)]) (w3.setCell ⟨mb, 1, none⟩ (.slice ua ul uc)) := by
              have hlt1 := H1.out.lt
              have hsz2 := S2.out.1
              have hown : w3.ownsRow B 3 1 (.slice ua ul uc) (Oi ++ [((base + j : Nat) : Int)]).length ((Oi ++ [((base + j : Nat) : Int)]).map (Value.int .i64)) := by
                simpa using hown3
              refine H1.out.push hjh Q3.out ?_ ?_ ⟨hown, fun y hy => ?_⟩ ?_
              · exact ((hgrow3.block nb (by simp; omega) (fun e => H1.out.met.lo.2 e.symm)).trans (Below.heap_alloc _ _ _ (by show nb < w2.heap.size; omega))).trans S2.out.2.1
              · exact ((hgrow3.block mb (by simp; omega) (fun e => H1.out.lo.2.2 e.symm)).trans (Below.heap_alloc _ _ _ (by show mb < w2.heap.size; omega))).trans (S2.out.2.2.1 mb (by have := HLO.out; omega))
              · rcases List.mem_append.1 hy with q | q
                · exact H1.out.met.plc.2 y q
                · rw [List.mem_singleton] at q; subst q; have := HSZ.out; unfold InR; omega
              · rcases hat3 with q | q
                · rw [q]; exact ⟨H1.out.met.lo.2, H1.out.lo.2.2⟩
                · rw [q]; simp; omega
            have HN : Hid (MB B mb nb (.slice ua ul uc) base half (addRs O (xs.take (i + 1))) (w3.setCell ⟨mb, 1, none⟩ (.slice ua ul uc))) := by show MB _ _ _ _ _ _ _ _; rw [HN0.out]; exact H3
            have HA0 : Below B w (w2.alloc (.cells #[.int .i64 ((base : Int) + j)] 3)) := S2.out.2.2.2.alloc (by have := HZ.out; have := S2.out.1; omega) _
            have HA1 : B ≤ (w2.alloc (.cells #[.int .i64 ((base : Int) + j)] 3)).heap.size := by have := HZ.out; have := S2.out.1; simp; omega
            have HA3 : Below B w w3 := by
              first
                | exact HA0.grown hgrow3 HA1 (fun g hg => (H1.out.met.plc.lt g hg).1)
                | exact HA0.drew.grown hgrow3 HA1 (fun g hg => (H1.out.met.plc.lt g hg).1)
            have HW3 : Hid (Below B w (w3.setCell ⟨mb, 1, none⟩ (.slice ua ul uc))) := HA3.setCell HLO.out.1 _
            clear HA0 HA1 HA3
            clear H3
            generalize w3.setCell ⟨mb, 1, none⟩ (.slice ua ul uc) = wF at *
            go_wp2
            exact ⟨⟨i + 1, _, by omega, by first | rfl | go_num, HN, HW3⟩, by simp only [intOf]; omega⟩
    · obtain rfl : i = xs.length := by omega
      go_wp2
      ((try simp only [Exit.inBlock, Exit.then]); (first | refine bodyPost_ret (results_none rfl _ _ _) rfl ?_ | refine bodyPost_end (results_none rfl _ _ _) rfl ?_))
      refine ⟨by first | rfl | trivial, ⟨vi, ?_⟩, HW.out⟩
      have := HM.out
      rwa [List.take_length] at this

end Go.Proofs.YtjibmpebebephaaGreatDoor.heap

namespace Go.Proofs.YtjibmpebebephaaGreatDoor.heap
open Go Go.RowKit Go.Proofs.YtjibmpebebephaaGreatDoor.rose Go.Proofs.YtjibmpebebephaaGreatDoor Go.Proofs.YtjibmpebebephaaGreatDoor.fun
set_option linter.unusedVariables false

theorem scan_inv {T : HeapD} (h : heapB T = true) : ∀ (f k : Nat) (out : List Int), OInv T out → OInv T (scanF T.1 f k out) := by
  intro f
  induction f with
  | zero => intro k out ho; exact ho
  | succ f ih =>
    intro k out ho
    by_cases hk : k < out.length
    · rw [scan_more hk]
      exact ih _ _ (ho.adds (kids_there h (ho.sub _ (List.getElem_mem hk))))
    · rw [scan_end (by omega)]; exact ho
theorem order_inv {T : HeapD} {rs : List Int} (h : rightB T rs = true) : OInv T (orderF T rs) :=
  scan_inv (right_is h).1 _ _ _ ((OInv.nil T).adds (right_is h).2)
theorem order_len {T : HeapD} {rs : List Int} (h : rightB T rs = true) : (orderF T rs).length ≤ 6000 := by
  have := (order_inv h).len
  have := places_len (right_is h).1
  omega

end Go.Proofs.YtjibmpebebephaaGreatDoor.heap

namespace Go.Proofs
open Go.Shelf
def Tryz.lays212_ren : Go.Shelf.Ren := ⟨fun | 212 => 114 | 263 => 127 | 264 => 128 | n => n, fun | 46 => 108 | 51 => 118 | 53 => 171 | 146 => 169 | 148 => 172 | n => n, fun | n => n⟩
theorem Tryz.lays212 : Lays.n212 Tryz.prog Tryz.lays212_ren := {
  mixed := by kernel_rfl
  f212 := Tryz.func114.trans (congrArg some (by kernel_rfl))
  f263 := Tryz.func127.trans (congrArg some (by kernel_rfl))
  f264 := Tryz.func128.trans (congrArg some (by kernel_rfl))
  t46 := Tryz.underlying108
  a46 := Tryz.isAgg108
  z46 := Tryz.sizeOf108
  v46 := Tryz.zeroValue108
  t51 := Tryz.underlying118
  a51 := Tryz.isAgg118
  z51 := Tryz.sizeOf118
  v51 := Tryz.zeroValue118
  t53 := Tryz.underlying171
  a53 := Tryz.isAgg171
  z53 := Tryz.sizeOf171
  v53 := Tryz.zeroValue171
  t146 := Tryz.underlying169
  a146 := Tryz.isAgg169
  z146 := Tryz.sizeOf169
  v146 := Tryz.zeroValue169
  t148 := Tryz.underlying172
  a148 := Tryz.isAgg172
  z148 := Tryz.sizeOf172
  v148 := Tryz.zeroValue172
}
theorem Tryz.bitsMul (x y : Nat) (hx : x < 18446744073709551616) (hy : y < 18446744073709551616) (w : World) :
    Calls Tryz.prog 114 #[.int .u64 x, .int .u64 y] w fun e w' => e = .returned (.tuple #[.int .u64 ((x * y / 18446744073709551616 : Nat) : Int), .int .u64 ((x * y % 18446744073709551616 : Nat) : Int)]) ∧ w' = w :=
  Any.bits_Mul Tryz.lays212 x y hx hy w
end Go.Proofs

namespace Go.Proofs.YtjibmpebebephaaGreatDoor.ints
open Go Go.RowKit Go.Deep Go.Proofs.YtjibmpebebephaaGreatDoor.rose Go.Proofs.YtjibmpebebephaaGreatDoor
set_option linter.unusedVariables false
set_option linter.unusedSimpArgs false

theorem infoR_int : (Tryz.prog.info? 3).map (fun i => (i.zero, i.size, i.bytes)) = some (some (.int .i64 0), 1, 8) := by kernel_rfl
theorem sizeR_int : (Tryz.prog.info? 3).map (·.size) = some 1 := by kernel_rfl

/-- The row on its way: m of them are laid. -/
def laidR (x : Int) (m n : Nat) : List Value := List.replicate m (.int .i64 x) ++ List.replicate (n - m) (.int .i64 0)
theorem laidR_len (x : Int) {m n : Nat} (h : m ≤ n) : (laidR x m n).length = n := by simp [laidR]; omega
theorem laidR_all (x : Int) (n : Nat) : laidR x n n = List.replicate n (.int .i64 x) := by simp [laidR]
theorem laidR_splice (x : Int) {m n k : Nat} (h : m + k ≤ n) : splice (laidR x m n) m (List.replicate k (.int .i64 x)) = laidR x (m + k) n := by
  unfold splice laidR
  rw [List.take_left' (by simp), List.drop_append, List.drop_eq_nil_of_le (by simp)]
  simp only [List.length_replicate, List.nil_append, List.drop_replicate]
  rw [show m + k - m = k by omega, show n - m - k = n - (m + k) by omega, ← List.append_assoc, List.replicate_append_replicate]

theorem make_row (n : Nat) (h : n ≤ 3000) (w : World) : (Instr.makeSlice 23 (.int .i64 (n : Int)) (.int .i64 (n : Int))).run Tryz.prog w = .ok (.slice (some ⟨w.heap.size, 0, none⟩) n n)
    (w.alloc (.cells (laidR 0 0 n).toArray 3)) := by
  obtain ⟨i, hi, hzz⟩ := Option.map_eq_some_iff.1 infoR_int
  simp only [Prod.mk.injEq] at hzz
  obtain ⟨hz, hs, hb⟩ := hzz
  have := run_make (P := Tryz.prog) w 23 3 i _ Tryz.underlying23 hi hz .i64 .i64 n n (by omega) (by omega) (by rw [hb]; omega) (by omega)
  have e : madeCells #[Value.int .i64 0] (n * 1) = (laidR 0 0 n).toArray := by
    apply Array.ext
    · simp [madeCells, laidR]
    · intro j h1 h2; simp [madeCells, laidR, Nat.mod_one]
  rw [← e]
  simpa [hs, Value.cells] using this
theorem laidR_zero (x : Int) (n : Nat) : laidR 0 0 n = laidR x 0 n := by simp [laidR]

set_option maxRecDepth 100000 in
set_option maxHeartbeats 8000000 in
theorem repeat_any (x : Int) (g n : Nat) (w : World) (hn : 1 ≤ n ∧ n ≤ 3000) (hg : g < w.heap.size) (hc : w.cell? ⟨g, 0, none⟩ = some (.int .i64 x)) :
    Calls Tryz.prog 95 #[.slice (some ⟨g, 0, none⟩) 1 1, .int .i64 n] w fun e w' => e = .returned (.slice (some ⟨w.heap.size, 0, none⟩) n n) ∧ w'.heap[w.heap.size]? = some (.cells (List.replicate n (.int .i64 x)).toArray 3) ∧ Below w.heap.size w w' := by
  have hmul := Tryz.bitsMul 1 n (by decide) (by omega)
  have em : ∀ y : Nat, y ≤ 3000 → ((1 * y / 18446744073709551616 : Nat) : Int) = 0 ∧ ((1 * y % 18446744073709551616 : Nat) : Int) = (y : Int) := fun y hy => by omega
  simp only [(em n hn.2).1, (em n hn.2).2] at hmul
  clear em
  have hmk := make_row n hn.2
  have n1 : decide ((n : Int) < 0) = false := by simp
  have nI : (n : Int) ≤ 3000 ∧ 1 ≤ (n : Int) := by omega
  have LZ : Hid (laidR 0 0 n = laidR x 0 n ∧ (laidR x 0 n).length = n) := ⟨laidR_zero x n, laidR_len x (by omega)⟩
  have B0 : Hid (Below w.heap.size w (w.alloc (.cells (laidR 0 0 n).toArray 3))) := (Below.refl _ _).alloc (Nat.le_refl _) _
  have H0 : Hid ((w.alloc (.cells (laidR 0 0 n).toArray 3)).heap[w.heap.size]? = some (.cells (laidR x 0 n).toArray 3 (0, 0))) := by show _ = _; rw [LZ.out.1]; exact alloc_top _ _
  have C0 : Hid (∀ j v, [Value.int .i64 x][j]? = some v → (w.alloc (.cells (laidR 0 0 n).toArray 3)).cell? ((⟨g, 0, none⟩ : Addr).add j) = some v) := fun j v hj => by
    match j, hj with
    | 0, hj =>
      simp at hj; subst hj
      rw [add_plain]
      exact (B0.out.cell (p := ⟨g, 0, none⟩) hg).trans hc
    | _ + 1, hj => simp at hj
  go_enter Tryz.func95, Tryz.ntmps95
  go_wp2_with (first
    | (go_at_call 114; refine (hmul _).mono ?_; rintro e w' ⟨rfl, hx⟩; subst w')
    | (refine wpList_copy_splice rfl (.tmp 31) (.tmp 32) 23 23 rfl 3 Tryz.underlying23 sizeR_int (some ⟨w.heap.size, 0, none⟩) (some ⟨g, 0, none⟩) n n 1 1 rfl rfl w.heap.size 0 (laidR x 0 n) 3 H0.out [.int .i64 x] (Nat.min_eq_left hn.1).symm (fun _ => ⟨rfl, ⟨g, 0, none⟩, rfl, C0.out⟩) (by have := LZ.out.2; simp only [List.length_singleton]; omega) (fun v hv => by simp only [List.mem_singleton] at hv; subst hv; rfl) w.heap.size w B0.out (Nat.le_refl _) ?_
       intro w2 hw2 hb2))
  have e1 : splice (laidR x 0 n) 0 [.int .i64 x] = laidR x 1 n := laidR_splice x (k := 1) (by omega)
  rw [e1] at hw2
  clear hmul hmk H0 C0 B0 LZ e1 n1
  go_loopw [8] (fun v8 wr => ∃ m : Nat, 1 ≤ m ∧ m ≤ n ∧ v8 = .int .i64 m ∧ Hid (wr.heap[w.heap.size]? = some (.cells (laidR x m n).toArray 3 (0, 0)) ∧ Below w.heap.size w wr)) (fun v8 _ => n - (intOf v8).toNat)
  case atStart => exact ⟨1, Nat.le_refl _, hn.1, rfl, hw2.out, hb2⟩
  case round =>
    obtain ⟨m, hm1, hmn, rfl, HK⟩ := hrel
    by_cases hlt : m < n
    · obtain ⟨k, hk⟩ : ∃ k, k = Nat.min m (n - m) := ⟨_, rfl⟩
      have hk1 : 1 ≤ k ∧ m + k ≤ n := by have h1 : Nat.min m (n - m) = min m (n - m) := rfl; rw [hk, h1]; omega
      have HKE : Hid (k = Nat.min m (n - m)) := hk
      have C1 : Hid (∀ j v, (List.replicate k (Value.int .i64 x))[j]? = some v → wr.drew.cell? ((⟨w.heap.size, 0, none⟩ : Addr).add j) = some v) := fun j v hj => by
        obtain ⟨hj1, hj2⟩ := List.getElem?_eq_some_iff.1 hj
        simp only [List.getElem_replicate, List.length_replicate] at hj1 hj2
        subst hj2
        have hjm : j < m := by have h1 : Nat.min m (n - m) = min m (n - m) := rfl; rw [h1] at hk; omega
        rw [add_plain]
        show wr.cell? _ = _
        simp [World.cell?, HK.out.1, laidR, hjm, List.getElem?_append_left]
      clear hk
      have mI : (m : Int) ≤ (n : Int) ∧ (m : Int) < (n : Int) := by omega
      go_wp2
      go_region_law
        (refine step_copy_splice rfl (.tmp 41) (.tmp 44) 23 23 rfl 3 Tryz.underlying23 sizeR_int (some ⟨w.heap.size, m, none⟩) (some ⟨w.heap.size, 0, none⟩) (n - m) (n - m) m n (by simp [Act.eval, Act.put]; try omega) (by simp [Act.eval, Act.put]) w.heap.size m (laidR x m n) 3 HK.out.1 (List.replicate k (.int .i64 x)) (by rw [List.length_replicate]; exact HKE.out) (fun _ => ⟨rfl, ⟨w.heap.size, 0, none⟩, rfl, C1.out⟩) (by rw [List.length_replicate, laidR_len x hmn]; exact hk1.2) (fun v hv => by have := List.eq_of_mem_replicate hv; subst this; rfl) w.heap.size w (by first | exact HK.out.2.drew | exact HK.out.2) (Nat.le_refl _) ?_
         intro w4 hg4 hb4)
      all_goals
        have hg5 := hg4.out
        rw [laidR_splice x hk1.2] at hg5
        have HN : Hid (w4.heap[w.heap.size]? = some (.cells (laidR x (m + k) n).toArray 3 (0, 0)) ∧ Below w.heap.size w w4) := ⟨hg5, hb4⟩
        clear hg4 hg5 hb4 HK C1
        try simp only [List.length_replicate, goInt]
        have ew : IntKind.i64.wrap ((m : Int) + (k : Int)) = ((m + k : Nat) : Int) := by rw [IntKind.wrap_i64]; omega
        go_wp2
        exact ⟨⟨m + k, by omega, hk1.2, by omega, HN⟩, by simp only [intOf]; omega⟩
    · obtain rfl : m = n := by omega
      go_wp2
      go_ret
      exact ⟨rfl, by have := HK.out.1; rw [laidR_all] at this; exact this, HK.out.2⟩

end Go.Proofs.YtjibmpebebephaaGreatDoor.ints

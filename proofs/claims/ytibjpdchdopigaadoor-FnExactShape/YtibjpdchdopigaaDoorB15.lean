/-
  The program meets words (metBlocks.add): the blocks that they are places of stand behind those that were met, each once.
  The contract of strconv.Itoa, laid at this program (the shelf's plain words): proved once over any program, applied here; no condition of our own.
  The contracts of (*strings.Builder).WriteString and String at this program (the shelf's, proved once over any program, applied here); no condition of our own.
  The contract of (*strings.Builder).WriteByte at this program (the shelf's, proved once over any program, applied here); no condition of our own.
-/
import Derived.Maps.AppendAt
import Derived.Shelf.Strconv.Itoa0
import Derived.Shelf.Strconv.Itoa1
import Derived.Shelf.LaysM
import Derived.Shelf.Strconv.Itoa2
import Derived.Shelf.Strconv.Itoa3
import Derived.Test.YtibjpdchdopigaaDoorProg
import Derived.Shelf.Strings.BuilderK
import Derived.Test.YtibjpdchdopigaaDoorB1
import Derived.Test.YtibjpdchdopigaaDoorB2
import Derived.Test.YtibjpdchdopigaaDoorB3
import Derived.Test.YtibjpdchdopigaaDoorB4
import Derived.Test.YtibjpdchdopigaaDoorB5
import Derived.Test.YtibjpdchdopigaaDoorB6
import Derived.Test.YtibjpdchdopigaaDoorB7
import Derived.Test.YtibjpdchdopigaaDoorB8
import Derived.Test.YtibjpdchdopigaaDoorB9
import Derived.Test.YtibjpdchdopigaaDoorB10
import Derived.Test.YtibjpdchdopigaaDoorB11
import Derived.Test.YtibjpdchdopigaaDoorB12
import Derived.Test.YtibjpdchdopigaaDoorB13
import Derived.Test.YtibjpdchdopigaaDoorB14
namespace Go.Proofs.YtibjpdchdopigaaDoor.heap
open Go Go.RowKit Go.Deep Go.Proofs.YtibjpdchdopigaaDoor.rose Go.Proofs.YtibjpdchdopigaaDoor Go.Proofs.YtibjpdchdopigaaDoor.fun Go.Proofs.YtibjpdchdopigaaDoor.words Go.Proofs.YtibjpdchdopigaaDoor.ints
set_option linter.unusedVariables false
set_option linter.unusedSimpArgs false

theorem entR : Enters Tryd.prog 59 := enters_of Tryd.func59 (by kernel_rfl) rfl
/-- Words that lie one behind the other in memory below B. -/
def Piece (w : World) (B : Nat) (a : Option Addr) (xs : List Int) : Prop := ∀ j (hj : j < xs.length), ∃ b o, a = some ⟨b, o, none⟩ ∧ b < B ∧ w.cell? ⟨b, o + j, none⟩ = some (.int .i64 xs[j]) ∧ InR xs[j]
theorem Piece.on {w w' : World} {B : Nat} {a : Option Addr} {xs : List Int} (h : Piece w B a xs) (hb : Below B w w') : Piece w' B a xs := fun j hj => by
  obtain ⟨b, o, h1, h2, h3, h4⟩ := h j hj
  exact ⟨b, o, h1, h2, (hb.cell (p := ⟨b, o + j, none⟩) h2).trans h3, h4⟩
theorem Piece.of {w : World} {B : Nat} {S : Nat → Prop} {a : Option Addr} {c : Nat} {xs : List Int} (h : intsSh.rep w S [.slice a xs.length c] xs) (hS : ∀ b, S b → b < B) : Piece w B a xs := fun j hj => by
  obtain ⟨a0, c0, e, -, -, hat⟩ := ints_open h
  cases e
  obtain ⟨b, o, h1, h2, h3, h4, h5⟩ := hat j hj
  exact ⟨b, o, h1, hS b h2, h3, h4, h5⟩

theorem in_half {base half : Nat} {O : List Int} (hn : O.Nodup) (hr : ∀ x ∈ O, (base : Int) ≤ x ∧ x < base + half) : O.length ≤ half := by
  have := nodup_len (L := (List.range half).map fun j => ((base + j : Nat) : Int)) hn fun x hx => by
    have := hr x hx
    exact List.mem_map.2 ⟨(x - base).toNat, List.mem_range.2 (by omega), by omega⟩
  simpa using this
theorem cell_setM {w : World} {g r i j : Nat} {u : Value} (v : Value) (h : w.cell? ⟨g, j, none⟩ = some u) (hne : ¬ r = g) : (w.setCell ⟨r, i, none⟩ v).cell? ⟨g, j, none⟩ = some u := by
  have e : (w.setCell ⟨r, i, none⟩ v).heap[g]? = w.heap[g]? := Below.heap_setCell _ _ _ _ (by show g ≠ r; omega)
  rw [← h]
  simp only [World.cell?, e]
section
variable {B mb nb : Nat} {v : Value} {base half : Nat} {O : List Int} {w w' : World}
/-- One more block is met. -/
theorem MB.push (h : MB B mb nb v base half O w) {j : Nat} (hj : j < half) (hn : ((base + j : Nat) : Int) ∉ O) {w3 : World} {v' : Value} (e1 : w3.heap[nb]? = (w.setCell ⟨nb, j, none⟩ (.int .i64 (O.length : Nat))).heap[nb]?) (e2 : w3.heap[mb]? = w.heap[mb]?) (hI : IRow w3 B v' (O ++ [((base + j : Nat) : Int)])) (hv : v'.ownBlock ≠ some nb ∧ v'.ownBlock ≠ some mb) :
    MB B mb nb v' base half (O ++ [((base + j : Nat) : Int)]) (w3.setCell ⟨mb, 1, none⟩ v') := by
  have hlo := h.lo
  have hm := h.met
  have hnum : w3.heap[nb]? = some (.cells ((numsO base half (O ++ [((base + j : Nat) : Int)])).map (Value.int .i64)).toArray 3) := by
    rw [e1, numsO_push hj hn]
    simp [World.setCell, Array.getElem?_modify, hm.num, List.map_set]
  have hrr : ∀ x ∈ O ++ [((base + j : Nat) : Int)], (base : Int) ≤ x ∧ x < base + half := fun x hx => by
    rcases List.mem_append.1 hx with q | q
    · exact hm.siz.2.2.2 x q
    · rw [List.mem_singleton] at q; subst q; omega
  have hnd : (O ++ [((base + j : Nat) : Int)]).Nodup := by
    rw [List.nodup_append]
    exact ⟨hm.nod, by simp, fun a ha b hb e => by simp only [List.mem_singleton] at hb; subst hb e; exact hn ha⟩
  refine ⟨⟨⟨hm.lo.1, hv.1⟩, ⟨own_same hI.1 fun q hq => Below.heap_setCell _ _ _ _ (by show q ≠ mb; intro e; exact hv.2 (by rw [hq, e])), hI.2⟩, (Below.heap_setCell _ _ _ _ (by show nb ≠ mb; omega)).trans hnum, ⟨hm.siz.1, hm.siz.2.1, in_half hnd hrr, hrr⟩, hnd⟩, ⟨hlo.1, hlo.2.1, hv.2⟩, ?_⟩
  have hb : w3.heap[mb]? = _ := e2.trans h.blk
  simp [World.setCell, Array.getElem?_modify, hb]
end

set_option maxRecDepth 100000 in
set_option maxHeartbeats 8000000 in
theorem add_any {B mb nb : Nat} {v : Value} {base half : Nat} {O : List Int} {w : World} (h : MB B mb nb v base half O w) (a : Option Addr) (c : Nat) (xs : List Int) (hl : xs.length ≤ 1048576) (hp : Piece w B a xs) (hx : ∀ x ∈ xs, x % 2 = 0 → (base : Int) ≤ x / 2 ∧ x / 2 < base + half) (hB : B ≤ w.heap.size) :
    Calls Tryd.prog 45 #[.pointer (some ⟨mb, 0, none⟩), .slice a xs.length c] w fun e w' => e = .returned (.tuple #[]) ∧ (∃ v', MB B mb nb v' base half (addRs O xs) w') ∧ Below B w w' := by
  obtain ⟨ti, hti, hz0, hz1, hz2⟩ := int_info
  have TI : Hid (Tryd.prog.info? 3 = some ti ∧ ti.zero = some (.int .i64 0) ∧ ti.size = 1 ∧ ti.bytes = 8) := ⟨hti, hz0, hz1, hz2⟩
  have K0 : Hid (MB B mb nb v base half (addRs O (xs.take 0)) w) := h
  have P0 : Hid (Piece w B a xs) := hp
  have HX : Hid (∀ x ∈ xs, x % 2 = 0 → (base : Int) ≤ x / 2 ∧ x / 2 < base + half) := hx
  have HB : Hid (B ≤ w.heap.size) := hB
  have HLO : Hid (B ≤ mb ∧ B ≤ nb ∧ mb ≠ nb) := ⟨h.lo.1, h.met.lo.1, h.lo.2.1⟩
  have HSZ : Hid (half ≤ 3000 ∧ base ≤ 3000) := ⟨h.met.siz.1, h.met.siz.2.1⟩
  clear h hp hx hti hz0 hz1 hz2 hB
  go_enter Tryd.func45, Tryd.ntmps45
  go_wp2
  go_loopw [8] (fun v8 wr => ∃ (i : Nat) (vi : Value), i ≤ xs.length ∧ v8 = .int .i64 i ∧ Hid (MB B mb nb vi base half (addRs O (xs.take i)) wr) ∧ Hid (Below B w wr)) (fun v8 _ => xs.length - (intOf v8).toNat)
  case atStart => exact ⟨0, v, Nat.zero_le _, rfl, K0, Below.refl _ _⟩
  case round =>
    obtain ⟨i, vi, hi, rfl, HM, HW⟩ := hrel
    by_cases hlt : i < xs.length
    · obtain ⟨b, o, rfl, hbB, hc, r1, r2⟩ := (P0.out.on HW.out) i hlt
      have hxi := HX.out xs[i] (List.getElem_mem hlt)
      have htake := addRs_take (out := O) hlt
      obtain ⟨x, hxx⟩ : ∃ x, x = xs[i] := ⟨_, rfl⟩
      rw [← hxx] at hc r1 r2 hxi htake
      obtain ⟨Oi, hOi⟩ : ∃ Oi, Oi = addRs O (xs.take i) := ⟨_, rfl⟩
      rw [← hOi] at HM htake
      have HT : Hid (addRs O (xs.take (i + 1)) = addR Oi x) := htake
      have iI : (i : Int) < (xs.length : Int) := by omega
      have i0 : (0 : Int) ≤ (i : Int) := by omega
      clear hxx hOi htake
      rcases q1 : decide (x % 2 = 0) with _ | _
      · have HN : Hid (MB B mb nb vi base half (addRs O (xs.take (i + 1))) wr) := by
          show MB _ _ _ _ _ _ _ _; rw [HT.out, addR_skip (.inl (of_decide_eq_false q1))]; exact HM.out
        go_wp2_with (go_at_call 48; refine (isRef_b q1 _ r1 r2).mono ?_; rintro e w' ⟨rfl, hx⟩; subst w')
        go_round
        case rel => exact ⟨i + 1, vi, by omega, by go_num, HN, HW⟩
        case measure => simp [intOf]; omega
      · have q2 := of_decide_eq_true q1
        have hr := hxi q2
        obtain ⟨j, hj⟩ : ∃ j : Nat, x / 2 = ((base + j : Nat) : Int) := ⟨(x / 2 - base).toNat, by omega⟩
        have hjh : j < half := by omega
        have c0 := HM.out.c0
        have c1 := HM.out.c1
        have c2 := HM.out.c2
        have hnum := number_is base vi nb half j x (numO base Oi j) wr hj hjh HSZ.out r1 r2 (HM.out.met.nc hjh) HM.out.met.lt
        have hrng := numO_in (base := base) (O := Oi) (by have := HM.out.met.siz; omega) j
        by_cases q3 : ((base + j : Nat) : Int) ∈ Oi
        · have hne : ¬ numO base Oi j = -1 := by unfold numO; rw [if_pos q3]; omega
          have HN0 : Hid (addRs O (xs.take (i + 1)) = Oi) := by show _ = _; rw [HT.out, addR_skip (.inr (by rw [hj]; exact q3))]
          generalize numO base Oi j = r at hnum hrng hne
          clear q3 hr hxi
          go_wp2_with (first
            | (go_at_call 48; refine (isRef_b q1 _ r1 r2).mono ?_; rintro e w' ⟨rfl, hx⟩; subst w'))
          refine hnum.mono ?_
          rintro e w1 ⟨rfl, hb1⟩
          have K1 : Hid (Below wr.heap.size wr w1) := hb1
          clear hb1 hnum
          go_wp2
          have HN : Hid (MB B mb nb vi base half (addRs O (xs.take (i + 1))) w1) := by show MB _ _ _ _ _ _ _ _; rw [HN0.out]; exact HM.out.on K1.out
          have HW1 : Hid (Below B w w1) := HW.out.trans (K1.out.mono (Nat.le_trans HB.out HW.out.size))
          go_round
          case rel => exact ⟨i + 1, vi, by omega, by go_num, HN, HW1⟩
          case measure => simp [intOf]; omega
        · have hr1 : numO base Oi j = -1 := by unfold numO; rw [if_neg q3]
          rw [hr1] at hnum
          have HN0 : Hid (addRs O (xs.take (i + 1)) = Oi ++ [((base + j : Nat) : Int)]) := by show _ = _; rw [HT.out, addR_put q2 (by rw [hj]; exact q3), hj]
          obtain ⟨av, cv, hvi⟩ := own_form HM.out.met.plc.1
          subst hvi
          have HL : Hid (Oi.length ≤ 3000) := by show _ ≤ _; have := HM.out.met.siz; omega
          have Q3 : Hid (((base + j : Nat) : Int) ∉ Oi) := q3
          clear q3 hr hxi hr1 hrng
          go_wp2_with (first
            | (go_at_call 48; refine (isRef_b q1 _ r1 r2).mono ?_; rintro e w' ⟨rfl, hx⟩; subst w'))
          refine hnum.mono ?_
          rintro e w1 ⟨rfl, hb1⟩
          have H1 : Hid (MB B mb nb (.slice av Oi.length cv) base half Oi w1) := HM.out.on hb1
          have W1 : Hid (Below B w w1) := HW.out.trans (hb1.mono (Nat.le_trans HB.out HW.out.size))
          clear hb1 hnum c0 c1 c2
          have c0 := H1.out.c0
          have c1 := H1.out.c1
          have c2 := H1.out.c2
          have c0n : w1.drew.cell? ⟨mb, 0, none⟩ = some (.int .i64 base) := c0
          have c1n : w1.drew.cell? ⟨mb, 1, none⟩ = some (.slice av Oi.length cv) := c1
          have c2n : w1.drew.cell? ⟨mb, 2, none⟩ = some (.slice (some ⟨nb, 0, none⟩) half half) := c2
          have cj := H1.out.met.nc hjh
          have cf := H1.out.nfrz j
          have cjn : w1.drew.cell? ⟨nb, j, none⟩ = some (.int .i64 (numO base Oi j)) := cj
          have cfn : w1.drew.frozen? ⟨nb, j, none⟩ = false := cf
          have hnm : ¬ nb = mb := by have := HLO.out; omega
          have hcw : ∀ X : World, Calls Tryd.prog 59 #[.int .i64 x] X fun e w' => e = .returned (.int .i64 ((base : Int) + j)) ∧ w' = X := fun X => (wordRef_same x X r1 r2).mono fun e w' ⟨he, hb⟩ => ⟨by rw [he, hj]; simp, hb⟩
          have e1 : IntKind.i64.wrap ((base : Int) + j - base) = (j : Int) := by have := HSZ.out; rw [IntKind.wrap_i64]; omega
          have e2 : (base : Int) + j - base = (j : Int) := by omega
          have e3 : IntKind.i64.wrap (j : Int) = (j : Int) := by have := HSZ.out; rw [IntKind.wrap_i64]; omega
          have e4 : ¬ ((j : Int) < 0) := by omega
          have e5 : ((j : Int)).toNat = j := by omega
          have jI : (j : Int) < (half : Int) := by omega
          have j0 : (0 : Int) ≤ (j : Int) := by omega
          go_wp2
          go_region_held3 (fun X => X.cell? ⟨mb, 0, none⟩ = some (.int .i64 base) ∧ X.cell? ⟨mb, 1, none⟩ = some (.slice av Oi.length cv) ∧ X.cell? ⟨mb, 2, none⟩ = some (.slice (some ⟨nb, 0, none⟩) half half))
            (exact ⟨(by first | with_reducible exact c0 | with_reducible exact c0n | exact cell_setM _ c0 hnm), (by first | with_reducible exact c1 | with_reducible exact c1n | exact cell_setM _ c1 hnm), (by first | with_reducible exact c2 | with_reducible exact c2n | exact cell_setM _ c2 hnm)⟩)
            (first
              | (go_at_call 59; refine (hcw _).mono ?_; rintro e w' ⟨rfl, hx⟩; subst w'))
          have U1 : Hid (w1.cell? ⟨mb, 1, none⟩ = some (.slice av Oi.length cv)) := c1
          have HZ : Hid (B ≤ w1.heap.size) := Nat.le_trans HB.out W1.out.size
          obtain ⟨w2, hw2⟩ : ∃ w2, w2 = (w1.setCell ⟨nb, j, none⟩ (.int .i64 (Oi.length : Int))).drew := ⟨_, rfl⟩
          rw [← hw2]
          have S2 : Hid (w2.heap.size = w1.heap.size ∧ w2.heap[nb]? = (w1.setCell ⟨nb, j, none⟩ (.int .i64 (Oi.length : Nat))).heap[nb]? ∧ (∀ q, q ≠ nb → w2.heap[q]? = w1.heap[q]?) ∧ Below B w w2) := by
            rw [hw2]
            refine ⟨by show (w1.setCell _ _).heap.size = _; simp [World.setCell], rfl, fun q hq => Below.heap_setCell _ _ _ _ (by exact hq), (W1.out.setCell (by exact HLO.out.2.1) _).drew⟩
          have RA : Hid (w2.ownsRow B 3 1 (.slice av Oi.length cv) Oi.length (Oi.map (Value.int .i64))) := own_same H1.out.met.plc.1 fun q hq => S2.out.2.2.1 q (fun e => H1.out.met.lo.2 (by rw [hq, e]))
          have M2 : Hid (w2.heap[mb]? = some (.cells #[.int .i64 base, .slice av Oi.length cv, .slice (some ⟨nb, 0, none⟩) half half] 42)) := (S2.out.2.2.1 mb (by have := HLO.out; omega)).trans H1.out.blk
          clear hw2 c0 c1 c2 c0n c1n c2n cj cf cjn cfn U1
          have k1 : w2.cell? ⟨mb, 1, none⟩ = some (.slice av Oi.length cv) := blk_cellH (i := 1) M2.out rfl
          have hcv : Calls Tryd.prog 59 #[.int .i64 x] w2.drew fun e w' => e = .returned (.int .i64 ((base : Int) + j)) ∧ w' = w2.drew := hcw _
          go_wp2
          go_region_law
            (first
              | (refine step_append_own rfl _ _ 22 rfl B 3 ti _ 1 8 Tryd.underlying22 TI.out.1 TI.out.2.1 TI.out.2.2.1 TI.out.2.2.2 rfl (by decide) (.slice av Oi.length cv) Oi.length _ (by first | (simp [Act.eval]; done) | (simp [Act.eval, Act.put]; done) | rfl) RB.out ⟨w2.heap.size, 0, none⟩ 1 1 [.int .i64 ((base : Int) + j)] rfl rfl (cells_new _ _ _ _ rfl) (by simp [Value.oneCell']) (by unfold maxLen; have := HL.out; omega) (by have := HL.out; omega) (by have := HZ.out; have := S2.out.1; simp; omega) ?_; intro ua ul uc w3 hown3 hgrow3 hat3
                 have hO3 : w3.heap[mb]? = some (.cells #[.int .i64 base, .slice av Oi.length cv, .slice (some ⟨nb, 0, none⟩) half half] 42) := (hgrow3.block mb (by have := H1.out.lt; have := S2.out.1; simp; omega) (fun e => H1.out.lo.2.2 e.symm)).trans ((Below.heap_alloc _ _ _ (by have := H1.out.lt; have := S2.out.1; show mb < w2.heap.size; omega)).trans M2.out)
                 have y0 : w3.cell? ⟨mb, 1, none⟩ = some (.slice av Oi.length cv) := blk_cellH (i := 1) hO3 rfl
                 have y1 : w3.frozen? ⟨mb, 1, none⟩ = false := by simp [World.frozen?, hO3])
              | (refine step_call rfl 59 entR _ _ rfl _ _ hcv (by first | (simp [Act.eval]; done) | (simp [Act.eval, Act.put]; done) | rfl) ?_; rintro e w' ⟨rfl, hx⟩; subst w'
                 have k1' : ∀ o', (w2.drew.alloc o').cell? ⟨mb, 1, none⟩ = some (.slice av Oi.length cv) := fun o' => blk_cellH (i := 1) ((Below.heap_alloc _ _ _ (by have := H1.out.lt; have := S2.out.1; show mb < w2.heap.size; omega)).trans M2.out) rfl
                 have k1'' : ∀ o', (w2.alloc o').cell? ⟨mb, 1, none⟩ = some (.slice av Oi.length cv) := k1'
                 have k1d : ∀ o', (w2.alloc o').drew.cell? ⟨mb, 1, none⟩ = some (.slice av Oi.length cv) := k1'
                 have RB : Hid ((w2.drew.alloc (.cells #[.int .i64 ((base : Int) + j)] 3)).ownsRow B 3 1 (.slice av Oi.length cv) Oi.length (Oi.map (Value.int .i64))) := own_same RA.out fun q hq => Below.heap_alloc _ _ _ (by have := (H1.out.met.plc.lt q hq).2; have := S2.out.1; show q < w2.heap.size; omega)
                 refine ⟨_, rfl, ?_⟩))
          all_goals
            have H3 : MB B mb nb (.slice ua ul uc) base half (Oi ++ [((base + j : Nat) : Int)]) (w3.setCell ⟨mb, 1, none⟩ (.slice ua ul uc)) := by
              have hlt1 := H1.out.lt
              have hsz2 := S2.out.1
              have hown : w3.ownsRow B 3 1 (.slice ua ul uc) (Oi ++ [((base + j : Nat) : Int)]).length ((Oi ++ [((base + j : Nat) : Int)]).map (Value.int .i64)) := by
                simpa using hown3
              refine H1.out.push hjh Q3.out ?_ ?_ ⟨hown, fun y hy => ?_⟩ ?_
              · exact ((hgrow3.block nb (by simp; omega) (fun e => H1.out.met.lo.2 e.symm)).trans (Below.heap_alloc _ _ _ (by show nb < w2.heap.size; omega))).trans S2.out.2.1
              · exact ((hgrow3.block mb (by simp; omega) (fun e => H1.out.lo.2.2 e.symm)).trans (Below.heap_alloc _ _ _ (by show mb < w2.heap.size; omega))).trans (S2.out.2.2.1 mb (by have := HLO.out; omega))
              · rcases List.mem_append.1 hy with q | q
                · exact H1.out.met.plc.2 y q
                · rw [List.mem_singleton] at q; subst q; have := HSZ.out; unfold InR; omega
              · rcases hat3 with q | q
                · rw [q]; exact ⟨H1.out.met.lo.2, H1.out.lo.2.2⟩
                · rw [q]; simp; omega
            have HN : Hid (MB B mb nb (.slice ua ul uc) base half (addRs O (xs.take (i + 1))) (w3.setCell ⟨mb, 1, none⟩ (.slice ua ul uc))) := by show MB _ _ _ _ _ _ _ _; rw [HN0.out]; exact H3
            have HA0 : Below B w (w2.alloc (.cells #[.int .i64 ((base : Int) + j)] 3)) := S2.out.2.2.2.alloc (by have := HZ.out; have := S2.out.1; omega) _
            have HA1 : B ≤ (w2.alloc (.cells #[.int .i64 ((base : Int) + j)] 3)).heap.size := by have := HZ.out; have := S2.out.1; simp; omega
            have HA3 : Below B w w3 := by
              first
                | exact HA0.grown hgrow3 HA1 (fun g hg => (H1.out.met.plc.lt g hg).1)
                | exact HA0.drew.grown hgrow3 HA1 (fun g hg => (H1.out.met.plc.lt g hg).1)
            have HW3 : Hid (Below B w (w3.setCell ⟨mb, 1, none⟩ (.slice ua ul uc))) := HA3.setCell HLO.out.1 _
            clear HA0 HA1 HA3
            clear H3
            generalize w3.setCell ⟨mb, 1, none⟩ (.slice ua ul uc) = wF at *
            go_wp2
            exact ⟨⟨i + 1, _, by omega, by first | rfl | go_num, HN, HW3⟩, by simp only [intOf]; omega⟩
    · obtain rfl : i = xs.length := by omega
      go_wp2
      ((try simp only [Exit.inBlock, Exit.then]); (first | refine bodyPost_ret (results_none rfl _ _ _) rfl ?_ | refine bodyPost_end (results_none rfl _ _ _) rfl ?_))
      refine ⟨by first | rfl | trivial, ⟨vi, ?_⟩, HW.out⟩
      have := HM.out
      rwa [List.take_length] at this

end Go.Proofs.YtibjpdchdopigaaDoor.heap

namespace Go.Proofs
open Go.Shelf
def Tryd.laysM171_ren : Go.Shelf.Ren := ⟨fun | 171 => 84 | 243 => 85 | 246 => 86 | 283 => 87 | 284 => 88 | 285 => 89 | 286 => 90 | 129 => 92 | 317 => 91 | 318 => 93 | 319 => 94 | 320 => 95 | 337 => 96 | 338 => 97 | n => n, fun | 3 => 3 | 9 => 9 | 2 => 2 | 4 => 4 | 171 => 120 | 0 => 0 | 53 => 113 | 37 => 53 | 5 => 5 | 173 => 123 | 212 => 126 | 51 => 60 | 20 => 20 | 213 => 127 | 46 => 52 | 232 => 130 | 233 => 131 | n => n, fun | 17 => 0 | 18 => 1 | 19 => 2 | n => n⟩
theorem Tryd.laysM171 : Go.Proofs.LaysM.n171 Tryd.prog Tryd.laysM171_ren := {
  mixed := by kernel_rfl
  f129 := Tryd.func92.trans (congrArg some (by kernel_rfl))
  f171 := Tryd.func84.trans (congrArg some (by kernel_rfl))
  f243 := Tryd.func85.trans (congrArg some (by kernel_rfl))
  f246 := Tryd.func86.trans (congrArg some (by kernel_rfl))
  f283 := Tryd.func87.trans (congrArg some (by kernel_rfl))
  f284 := Tryd.func88.trans (congrArg some (by kernel_rfl))
  f285 := Tryd.func89.trans (congrArg some (by kernel_rfl))
  f286 := Tryd.func90.trans (congrArg some (by kernel_rfl))
  f317 := Tryd.func91.trans (congrArg some (by kernel_rfl))
  f318 := Tryd.func93.trans (congrArg some (by kernel_rfl))
  f319 := Tryd.func94.trans (congrArg some (by kernel_rfl))
  f320 := Tryd.func95.trans (congrArg some (by kernel_rfl))
  f337 := Tryd.func96.trans (congrArg some (by kernel_rfl))
  f338 := Tryd.func97.trans (congrArg some (by kernel_rfl))
  t0 := Tryd.underlying0
  a0 := Tryd.isAgg0
  z0 := Tryd.sizeOf0
  v0 := Tryd.zeroValue0
  t2 := Tryd.underlying2
  a2 := Tryd.isAgg2
  z2 := Tryd.sizeOf2
  v2 := Tryd.zeroValue2
  t3 := Tryd.underlying3
  a3 := Tryd.isAgg3
  z3 := Tryd.sizeOf3
  v3 := Tryd.zeroValue3
  t4 := Tryd.underlying4
  a4 := Tryd.isAgg4
  z4 := Tryd.sizeOf4
  v4 := Tryd.zeroValue4
  t5 := Tryd.underlying5
  a5 := Tryd.isAgg5
  z5 := Tryd.sizeOf5
  v5 := Tryd.zeroValue5
  t9 := Tryd.underlying9
  a9 := Tryd.isAgg9
  z9 := Tryd.sizeOf9
  v9 := Tryd.zeroValue9
  t20 := Tryd.underlying20
  a20 := Tryd.isAgg20
  z20 := Tryd.sizeOf20
  v20 := Tryd.zeroValue20
  t37 := Tryd.underlying53
  a37 := Tryd.isAgg53
  z37 := Tryd.sizeOf53
  v37 := Tryd.zeroValue53
  t46 := Tryd.underlying52
  a46 := Tryd.isAgg52
  z46 := Tryd.sizeOf52
  v46 := Tryd.zeroValue52
  t51 := Tryd.underlying60
  a51 := Tryd.isAgg60
  z51 := Tryd.sizeOf60
  v51 := Tryd.zeroValue60
  t53 := Tryd.underlying113
  a53 := Tryd.isAgg113
  z53 := Tryd.sizeOf113
  v53 := Tryd.zeroValue113
  t171 := Tryd.underlying120
  a171 := Tryd.isAgg120
  z171 := Tryd.sizeOf120
  v171 := Tryd.zeroValue120
  t173 := Tryd.underlying123
  a173 := Tryd.isAgg123
  z173 := Tryd.sizeOf123
  v173 := Tryd.zeroValue123
  t212 := Tryd.underlying126
  a212 := Tryd.isAgg126
  z212 := Tryd.sizeOf126
  v212 := Tryd.zeroValue126
  t213 := Tryd.underlying127
  a213 := Tryd.isAgg127
  z213 := Tryd.sizeOf127
  t232 := Tryd.underlying130
  a232 := Tryd.isAgg130
  z232 := Tryd.sizeOf130
  v232 := Tryd.zeroValue130
  t233 := Tryd.underlying131
  a233 := Tryd.isAgg131
  z233 := Tryd.sizeOf131
  v233 := Tryd.zeroValue131
  g17 := by kernel_rfl
  g18 := by kernel_rfl
  g19 := by kernel_rfl
  i0 := by kernel_rfl
  i2 := by kernel_rfl
  i3 := by kernel_rfl
  i4 := by kernel_rfl
  i5 := by kernel_rfl
  i9 := by kernel_rfl
  i20 := by kernel_rfl
  i37 := by kernel_rfl
  i46 := by kernel_rfl
  i51 := by kernel_rfl
  i53 := by kernel_rfl
  i171 := by kernel_rfl
  i173 := by kernel_rfl
  i212 := by kernel_rfl
  i232 := by kernel_rfl
  i233 := by kernel_rfl
  m17 := by kernel_rfl
  m18 := by kernel_rfl
  m19 := by kernel_rfl }
open Go.RowKit Go.Sort Go.Lib in
/-- strconv.Itoa: "Itoa is equivalent to FormatInt(int64(i), 10).": i's DECIMAL NUMERAL ('Lib.itoa': a '-' where i is negative, then the digits), FOR EVERY int. The world behind the call: the world before it, new blocks behind the heap (the library's 'var a [24]byte'), draws. (LAID: no walk: one application.) -/
theorem Tryd.strconv_Itoa (n : Int) (h0 : -9223372036854775808 ≤ n) (h1 : n ≤ 9223372036854775807) (w : World) (htab : Lib.TabIs Tryd.prog w "internal/strconv.uint64pow10" .u64 Lib.pow10Tab) :
    Calls Tryd.prog 84 #[.int .i64 n] w fun e w' => e = .returned (.string ⟨(Lib.itoa n).toArray⟩) ∧ ∃ k os, w' = grow (w.drewN k) os := Any.strconv_Itoa Tryd.laysM171 n h0 h1 w htab
end Go.Proofs

namespace Go.Proofs
open Go.Shelf
def Tryd.bldRen : Go.Shelf.Ren := ⟨fun | 169 => 35 | 166 => 31 | 240 => 53 | 276 => 72 | n => n, fun | 70 => 72 | 9 => 9 | 0 => 0 | 72 => 74 | 37 => 53 | 127 => 93 | 3 => 3 | 5 => 5 | 4 => 4 | 20 => 20 | 75 => 77 | 80 => 83 | 164 => 105 | n => n, fun | n => n⟩
theorem Tryd.bldString : Go.Proofs.Lays.n169 Tryd.prog Tryd.bldRen := {
  mixed := by kernel_rfl
  f169 := Tryd.func35.trans (congrArg some (by kernel_rfl))
  t0 := Tryd.underlying0
  a0 := Tryd.isAgg0
  z0 := Tryd.sizeOf0
  v0 := Tryd.zeroValue0
  t3 := Tryd.underlying3
  a3 := Tryd.isAgg3
  z3 := Tryd.sizeOf3
  v3 := Tryd.zeroValue3
  t9 := Tryd.underlying9
  a9 := Tryd.isAgg9
  z9 := Tryd.sizeOf9
  v9 := Tryd.zeroValue9
  t37 := Tryd.underlying53
  a37 := Tryd.isAgg53
  z37 := Tryd.sizeOf53
  v37 := Tryd.zeroValue53
  t70 := Tryd.underlying72
  a70 := Tryd.isAgg72
  z70 := Tryd.sizeOf72
  v70 := Tryd.zeroValue72
  t72 := Tryd.underlying74
  a72 := Tryd.isAgg74
  z72 := Tryd.sizeOf74
  v72 := Tryd.zeroValue74
  t127 := Tryd.underlying93
  a127 := Tryd.isAgg93
  z127 := Tryd.sizeOf93
  v127 := Tryd.zeroValue93 }
theorem Tryd.bldWrite : Go.Proofs.Lays.n166 Tryd.prog Tryd.bldRen := {
  mixed := by kernel_rfl
  f166 := Tryd.func31.trans (congrArg some (by kernel_rfl))
  f240 := Tryd.func53.trans (congrArg some (by kernel_rfl))
  f276 := Tryd.func72.trans (congrArg some (by kernel_rfl))
  t0 := Tryd.underlying0
  a0 := Tryd.isAgg0
  z0 := Tryd.sizeOf0
  v0 := Tryd.zeroValue0
  t3 := Tryd.underlying3
  a3 := Tryd.isAgg3
  z3 := Tryd.sizeOf3
  v3 := Tryd.zeroValue3
  t4 := Tryd.underlying4
  a4 := Tryd.isAgg4
  z4 := Tryd.sizeOf4
  v4 := Tryd.zeroValue4
  t9 := Tryd.underlying9
  a9 := Tryd.isAgg9
  z9 := Tryd.sizeOf9
  v9 := Tryd.zeroValue9
  t20 := Tryd.underlying20
  a20 := Tryd.isAgg20
  z20 := Tryd.sizeOf20
  v20 := Tryd.zeroValue20
  t37 := Tryd.underlying53
  a37 := Tryd.isAgg53
  z37 := Tryd.sizeOf53
  v37 := Tryd.zeroValue53
  t70 := Tryd.underlying72
  a70 := Tryd.isAgg72
  z70 := Tryd.sizeOf72
  v70 := Tryd.zeroValue72
  t72 := Tryd.underlying74
  a72 := Tryd.isAgg74
  z72 := Tryd.sizeOf74
  v72 := Tryd.zeroValue74
  t75 := Tryd.underlying77
  a75 := Tryd.isAgg77
  z75 := Tryd.sizeOf77
  v75 := Tryd.zeroValue77
  t164 := Tryd.underlying105
  a164 := Tryd.isAgg105
  z164 := Tryd.sizeOf105
  v164 := Tryd.zeroValue105 }
theorem Tryd.bldExtra : Builder.Extra Tryd.prog Tryd.bldRen := {
  sizeBuilder := by kernel_rfl
  liesBuilder := by kernel_rfl
  t5 := Tryd.underlying5
  a5 := Tryd.isAgg5
  z5 := Tryd.sizeOf5
  v5 := Tryd.zeroValue5
  infoByte := by kernel_rfl
  cellsByte := by kernel_rfl
  sizeByte := by kernel_rfl
  neB5 := by decide }
open Go.RowKit in
theorem Tryd.Builder_WriteString_k (B b : Nat) (bs : List Value) (s : ByteArray) (w : World) (h : Lib.IsBuilderF 74 5 B b bs w) (hlen : bs.length + s.size ≤ 140737488355328) (hBw : B ≤ w.heap.size) :
    Calls Tryd.prog 31 #[.pointer (some ⟨b, 0, none⟩), .string s] w fun e w' => e = .returned (.tuple #[.int .i64 s.size, .nilIface]) ∧ (Lib.BuilderAtF 74 5 B b (.pointer (some ⟨b, 0, none⟩)) (bs ++ Lib.strCells s) w' ∧ Below B w w' ∧ Lib.OthersKept 5 (some b) w w') := Any.Builder_WriteString_k Tryd.bldWrite Tryd.bldExtra B b bs s w h hlen hBw
open Go.RowKit in
theorem Tryd.Builder_String_any_k (B b : Nat) (l : List UInt8) (w : World) (h : Lib.IsBuilderF 74 5 B b (Lib.byteCells l) w) (hBw : B ≤ w.heap.size) :
    Calls Tryd.prog 35 #[.pointer (some ⟨b, 0, none⟩)] w fun e w' => e = .returned (.string ⟨l.toArray⟩) ∧ (Lib.IsBuilderF 74 5 B b (Lib.byteCells l) w' ∧ Below B w w' ∧ Lib.OthersKept 5 (some b) w w') := Any.Builder_String_any_k Tryd.bldString Tryd.bldExtra B b l w h hBw
end Go.Proofs

namespace Go.Proofs
open Go.Shelf
def Tryd.bldRenB : Go.Shelf.Ren := ⟨fun | 169 => 35 | 166 => 31 | 167 => 52 | 240 => 53 | 276 => 72 | n => n, fun | 70 => 72 | 9 => 9 | 0 => 0 | 72 => 74 | 37 => 53 | 127 => 93 | 3 => 3 | 5 => 5 | 4 => 4 | 20 => 20 | 75 => 77 | 80 => 83 | 164 => 105 | n => n, fun | n => n⟩
theorem Tryd.bldByte : Go.Proofs.Lays.n167 Tryd.prog Tryd.bldRenB := {
  mixed := by kernel_rfl
  f167 := Tryd.func52.trans (congrArg some (by kernel_rfl))
  f240 := Tryd.func53.trans (congrArg some (by kernel_rfl))
  f276 := Tryd.func72.trans (congrArg some (by kernel_rfl))
  t0 := Tryd.underlying0
  a0 := Tryd.isAgg0
  z0 := Tryd.sizeOf0
  v0 := Tryd.zeroValue0
  t5 := Tryd.underlying5
  a5 := Tryd.isAgg5
  z5 := Tryd.sizeOf5
  v5 := Tryd.zeroValue5
  t4 := Tryd.underlying4
  a4 := Tryd.isAgg4
  z4 := Tryd.sizeOf4
  v4 := Tryd.zeroValue4
  t9 := Tryd.underlying9
  a9 := Tryd.isAgg9
  z9 := Tryd.sizeOf9
  v9 := Tryd.zeroValue9
  t20 := Tryd.underlying20
  a20 := Tryd.isAgg20
  z20 := Tryd.sizeOf20
  v20 := Tryd.zeroValue20
  t37 := Tryd.underlying53
  a37 := Tryd.isAgg53
  z37 := Tryd.sizeOf53
  v37 := Tryd.zeroValue53
  t70 := Tryd.underlying72
  a70 := Tryd.isAgg72
  z70 := Tryd.sizeOf72
  v70 := Tryd.zeroValue72
  t72 := Tryd.underlying74
  a72 := Tryd.isAgg74
  z72 := Tryd.sizeOf74
  v72 := Tryd.zeroValue74
  t75 := Tryd.underlying77
  a75 := Tryd.isAgg77
  z75 := Tryd.sizeOf77
  v75 := Tryd.zeroValue77
  t164 := Tryd.underlying105
  a164 := Tryd.isAgg105
  z164 := Tryd.sizeOf105
  v164 := Tryd.zeroValue105 }
theorem Tryd.bldExtraB : Builder.Extra Tryd.prog Tryd.bldRenB := {
  sizeBuilder := by kernel_rfl
  liesBuilder := by kernel_rfl
  t5 := Tryd.underlying5
  a5 := Tryd.isAgg5
  z5 := Tryd.sizeOf5
  v5 := Tryd.zeroValue5
  infoByte := by kernel_rfl
  cellsByte := by kernel_rfl
  sizeByte := by kernel_rfl
  neB5 := by decide }
open Go.RowKit in
theorem Tryd.Builder_WriteByte_k (B b : Nat) (bs : List Value) (c : Int) (w : World) (h : Lib.IsBuilderF 74 5 B b bs w) (hlen : bs.length + 1 ≤ 140737488355328) (hBw : B ≤ w.heap.size) :
    Calls Tryd.prog 52 #[.pointer (some ⟨b, 0, none⟩), .int .u8 c] w fun e w' => e = .returned .nilIface ∧ (Lib.BuilderAtF 74 5 B b (.pointer (some ⟨b, 0, none⟩)) (bs ++ [.int .u8 c]) w' ∧ Below B w w' ∧ Lib.OthersKept 5 (some b) w w') := Any.Builder_WriteByte_k Tryd.bldByte Tryd.bldExtraB B b bs c w h hlen hBw
end Go.Proofs

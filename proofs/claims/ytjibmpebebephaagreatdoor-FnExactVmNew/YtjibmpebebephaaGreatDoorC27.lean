/-
  A heap at work while another block is turned.
  The program's blocks that are met (metBlocks): how they lie in memory; number.
  The program meets words (metBlocks.add): the blocks that they are places of stand behind those that were met, each once.
  What is known of the blocks that are come to (chapter 18): told in plain data.
  The contract of math/bits.Mul at this program (the shelf's, proved once over any program, applied here); no condition of our own.
-/
import Derived.Deep.RegionHeld3
import Derived.Maps.AppendAt
import Derived.Shelf.Lays
import Derived.Shelf.Bits.Mul64
import Derived.Test.YtjibmpebebephaaGreatDoorChecked
import Derived.WalkKit
import Derived.WalkLawsBesides
import Derived.Test.YtjibmpebebephaaGreatDoorC1
import Derived.Test.YtjibmpebebephaaGreatDoorC2
import Derived.Test.YtjibmpebebephaaGreatDoorC3
import Derived.Test.YtjibmpebebephaaGreatDoorC4
import Derived.Test.YtjibmpebebephaaGreatDoorC5
import Derived.Test.YtjibmpebebephaaGreatDoorC6
import Derived.Test.YtjibmpebebephaaGreatDoorC7
import Derived.Test.YtjibmpebebephaaGreatDoorC8
import Derived.Test.YtjibmpebebephaaGreatDoorC9
import Derived.Test.YtjibmpebebephaaGreatDoorC10
import Derived.Test.YtjibmpebebephaaGreatDoorC11
import Derived.Test.YtjibmpebebephaaGreatDoorC12
import Derived.Test.YtjibmpebebephaaGreatDoorC13
import Derived.Test.YtjibmpebebephaaGreatDoorC14
import Derived.Test.YtjibmpebebephaaGreatDoorC15
import Derived.Test.YtjibmpebebephaaGreatDoorC16
import Derived.Test.YtjibmpebebephaaGreatDoorC17
import Derived.Test.YtjibmpebebephaaGreatDoorC18
import Derived.Test.YtjibmpebebephaaGreatDoorC19
import Derived.Test.YtjibmpebebephaaGreatDoorC20
import Derived.Test.YtjibmpebebephaaGreatDoorC21
import Derived.Test.YtjibmpebebephaaGreatDoorC22
import Derived.Test.YtjibmpebebephaaGreatDoorC23
import Derived.Test.YtjibmpebebephaaGreatDoorC24
import Derived.Test.YtjibmpebebephaaGreatDoorC25
import Derived.Test.YtjibmpebebephaaGreatDoorC26
namespace Go.Proofs.YtjibmpebebephaaGreatDoor.heap
open Go Go.RowKit Go.Proofs.YtjibmpebebephaaGreatDoor.rose Go.Proofs.YtjibmpebebephaaGreatDoor Go.Proofs.YtjibmpebebephaaGreatDoor.fun Go.Proofs.YtjibmpebebephaaGreatDoor.words Go.Proofs.YtjibmpebebephaaGreatDoor.ints
set_option linter.unusedVariables false
set_option linter.unusedSimpArgs false

/-- A cell of another block is written. -/
theorem HH.other {B hb hm : Nat} {wv : Value} {W : List Int} {half base next : Nat} {lk : Int} {M : List Bool} {w : World} (h : HH B hb hm wv W half base next lk M w) {g : Nat} (j : Nat) (v : Value) (h1 : ¬ g = hb) (h2 : ¬ g = hm) (h3 : B ≤ g) : HH B hb hm wv W half base next lk M (w.setCell ⟨g, j, none⟩ v) :=
  ⟨h.lo, (Below.heap_setCell _ _ _ _ (by show hb ≠ g; omega)).trans h.blk, (Below.heap_setCell _ _ _ _ (by show hm ≠ g; omega)).trans h.mks, h.len, intsSh.on h.wds fun b hb' => Below.heap_setCell _ _ _ _ (by show b ≠ g; omega), h.siz⟩
theorem setr3 {w : World} {r : Nat} {t : TypeId} {u0 u1 u2 : Value} (v0 v1 v2 : Value) (h : w.heap[r]? = some (.cells #[u0, u1, u2] t)) : (((w.setCell ⟨r, 0, none⟩ v0).setCell ⟨r, 1, none⟩ v1).setCell ⟨r, 2, none⟩ v2).heap[r]? = some (.cells #[v0, v1, v2] t) := by
  simp [World.setCell, Array.getElem?_modify, h]
theorem HH.res {B hb hm : Nat} {wv : Value} {W : List Int} {half base next : Nat} {lk : Int} {M : List Bool} {w : World} (h : HH B hb hm wv W half base next lk M w) {g : Nat} (v0 v1 v2 : Value) (h1 : ¬ g = hb) (h2 : ¬ g = hm) (h3 : B ≤ g) : HH B hb hm wv W half base next lk M (((w.setCell ⟨g, 0, none⟩ v0).setCell ⟨g, 1, none⟩ v1).setCell ⟨g, 2, none⟩ v2) :=
  ((h.other 0 v0 h1 h2 h3).other 1 v1 h1 h2 h3).other 2 v2 h1 h2 h3
theorem cell_res3 {w : World} {g r j : Nat} {u : Value} (v0 v1 v2 : Value) (h : w.cell? ⟨g, j, none⟩ = some u) (hne : ¬ r = g) : (((w.setCell ⟨r, 0, none⟩ v0).setCell ⟨r, 1, none⟩ v1).setCell ⟨r, 2, none⟩ v2).cell? ⟨g, j, none⟩ = some u := by
  have e : (((w.setCell ⟨r, 0, none⟩ v0).setCell ⟨r, 1, none⟩ v1).setCell ⟨r, 2, none⟩ v2).heap[g]? = w.heap[g]? :=
    ((Below.heap_setCell _ _ _ _ (by show g ≠ r; omega)).trans (Below.heap_setCell _ _ _ _ (by show g ≠ r; omega))).trans (Below.heap_setCell _ _ _ _ (by show g ≠ r; omega))
  rw [← h]
  simp only [World.cell?, e]
theorem irow_res3 {w : World} {base r : Nat} {v : Value} {l : List Int} (v0 v1 v2 : Value) (h : IRow w base v l) (hr : r < base) : IRow (((w.setCell ⟨r, 0, none⟩ v0).setCell ⟨r, 1, none⟩ v1).setCell ⟨r, 2, none⟩ v2) base v l :=
  ⟨own_same h.1 fun q hq => by
    have := (h.lt q hq).1
    exact ((Below.heap_setCell _ _ _ _ (by show q ≠ r; omega)).trans (Below.heap_setCell _ _ _ _ (by show q ≠ r; omega))).trans (Below.heap_setCell _ _ _ _ (by show q ≠ r; omega)), h.2⟩

end Go.Proofs.YtjibmpebebephaaGreatDoor.heap

namespace Go.Proofs.YtjibmpebebephaaGreatDoor.heap
open Go Go.RowKit Go.Deep Go.Proofs.YtjibmpebebephaaGreatDoor.rose Go.Proofs.YtjibmpebebephaaGreatDoor Go.Proofs.YtjibmpebebephaaGreatDoor.fun Go.Proofs.YtjibmpebebephaaGreatDoor.words Go.Proofs.YtjibmpebebephaaGreatDoor.ints
set_option linter.unusedVariables false
set_option linter.unusedSimpArgs false

theorem blk_cellH {w : World} {g i : Nat} {cs : Array Value} {t : TypeId} {u : Value} (h : w.heap[g]? = some (.cells cs t)) (hi : cs[i]? = some u) : w.cell? ⟨g, i, none⟩ = some u := by simp [World.cell?, h, hi]
theorem wordRef_same (x : Int) (w : World) (h1 : -9223372036854775808 ≤ x) (h2 : x ≤ 9223372036854775807) :
    Calls Tryz.prog 111 #[.int .i64 x] w fun e w' => e = .returned (.int .i64 (x / 2)) ∧ w' = w := by
  go_enter Tryz.func111, Tryz.ntmps111
  go_wp2
  go_ret
  exact ⟨ret_i (by first | rfl | omega | (simp; done) | (simp; omega)), rfl⟩
theorem wordRef_b (x : Int) (w : World) (h1 : -9223372036854775808 ≤ x) (h2 : x ≤ 9223372036854775807) :
    Calls Tryz.prog 111 #[.int .i64 x] w fun e w' => e = .returned (.int .i64 (x / 2)) ∧ Below w.heap.size w w' :=
  (wordRef_same x w h1 h2).mono fun e w' ⟨h, he⟩ => ⟨h, by rw [he]; exact Below.refl _ _⟩
theorem isRef_bel {x : Int} {b : Bool} (hb : decide (x % 2 = 0) = b) (w : World) (h1 : -9223372036854775808 ≤ x) (h2 : x ≤ 9223372036854775807) :
    Calls Tryz.prog 105 #[.int .i64 x] w fun e w' => e = .returned (.bool b) ∧ Below w.heap.size w w' :=
  (isRef_b hb w h1 h2).mono fun e w' ⟨h, he⟩ => ⟨h, by rw [he]; exact Below.refl _ _⟩

/-- Which block of O begins at the j-th place of the half, or -1. -/
def numO (base : Nat) (O : List Int) (j : Nat) : Int := if ((base + j : Nat) : Int) ∈ O then (O.idxOf ((base + j : Nat) : Int) : Nat) else -1
def numsO (base half : Nat) (O : List Int) : List Int := (List.range half).map (numO base O)
theorem numsO_len (base half : Nat) (O : List Int) : (numsO base half O).length = half := by simp [numsO]
theorem numsO_nil (base half : Nat) : numsO base half [] = List.replicate half (-1) := by
  apply List.ext_getElem
  · simp [numsO]
  · intro i h1 h2; simp [numsO, numO]
theorem numsO_push {base half : Nat} {O : List Int} {j : Nat} (hj : j < half) (hn : ((base + j : Nat) : Int) ∉ O) : numsO base half (O ++ [((base + j : Nat) : Int)]) = (numsO base half O).set j O.length := by
  apply List.ext_getElem
  · simp [numsO]
  · intro i h1 h2
    have hi : i < half := by simpa [numsO] using h1
    by_cases e : i = j
    · subst e
      have hn' : ¬ ((base : Int) + (i : Int)) ∈ O := by simpa using hn
      simp [numsO, numO, List.idxOf_append, hn']
    · rw [List.getElem_set_ne (by omega)]
      have e3 : ¬ ((base + i : Nat) : Int) = ((base + j : Nat) : Int) := by omega
      simp only [numsO, List.getElem_map, List.getElem_range, numO, List.mem_append, List.mem_singleton]
      by_cases e2 : ((base + i : Nat) : Int) ∈ O
      · rw [if_pos (.inl e2), if_pos e2, List.idxOf_append, if_pos e2]
      · rw [if_neg (by simp only [e2, e3, or_self, not_false_eq_true]), if_neg e2]

/-- The blocks that were met, as they lie in memory: their places v, their numbers' block nb. -/
structure Met (B nb : Nat) (v : Value) (base half : Nat) (O : List Int) (w : World) : Prop where
  lo : B ≤ nb ∧ v.ownBlock ≠ some nb
  plc : IRow w B v O
  num : w.heap[nb]? = some (.cells ((numsO base half O).map (Value.int .i64)).toArray 3)
  siz : half ≤ 3000 ∧ base ≤ 3000 ∧ O.length ≤ half ∧ (∀ x ∈ O, (base : Int) ≤ x ∧ x < base + half)
  nod : O.Nodup
/-- .. in a block of their own. -/
structure MB (B mb nb : Nat) (v : Value) (base half : Nat) (O : List Int) (w : World) : Prop where
  met : Met B nb v base half O w
  lo : B ≤ mb ∧ mb ≠ nb ∧ v.ownBlock ≠ some mb
  blk : w.heap[mb]? = some (.cells #[.int .i64 base, v, .slice (some ⟨nb, 0, none⟩) half half] 69)
section
variable {B mb nb : Nat} {v : Value} {base half : Nat} {O : List Int} {w w' : World}
theorem Met.lt (h : Met B nb v base half O w) : nb < w.heap.size := (Array.getElem?_eq_some_iff.1 h.num).1
theorem MB.lt (h : MB B mb nb v base half O w) : mb < w.heap.size ∧ nb < w.heap.size := ⟨(Array.getElem?_eq_some_iff.1 h.blk).1, h.met.lt⟩
theorem Met.on (h : Met B nb v base half O w) (hB : Below w.heap.size w w') : Met B nb v base half O w' := ⟨h.lo, h.plc.keep hB, (hB.block nb h.lt).trans h.num, h.siz, h.nod⟩
theorem MB.on (h : MB B mb nb v base half O w) (hB : Below w.heap.size w w') : MB B mb nb v base half O w' := ⟨h.met.on hB, h.lo, (hB.block mb h.lt.1).trans h.blk⟩
/-- Blocks elsewhere may turn. -/
theorem Met.other (h : Met B nb v base half O w) (e1 : w'.heap[nb]? = w.heap[nb]?) (e2 : ∀ q, v.ownBlock = some q → w'.heap[q]? = w.heap[q]?) : Met B nb v base half O w' := ⟨h.lo, ⟨own_same h.plc.1 e2, h.plc.2⟩, e1.trans h.num, h.siz, h.nod⟩
theorem Met.nc (h : Met B nb v base half O w) {j : Nat} (hj : j < half) : w.cell? ⟨nb, j, none⟩ = some (.int .i64 (numO base O j)) := by
  simp [World.cell?, h.num, numsO, hj]
theorem MB.c0 (h : MB B mb nb v base half O w) : w.cell? ⟨mb, 0, none⟩ = some (.int .i64 base) := by simp [World.cell?, h.blk]
theorem MB.c1 (h : MB B mb nb v base half O w) : w.cell? ⟨mb, 1, none⟩ = some v := by simp [World.cell?, h.blk]
theorem MB.c2 (h : MB B mb nb v base half O w) : w.cell? ⟨mb, 2, none⟩ = some (.slice (some ⟨nb, 0, none⟩) half half) := by simp [World.cell?, h.blk]
theorem MB.frz (h : MB B mb nb v base half O w) (j : Nat) : w.frozen? ⟨mb, j, none⟩ = false := by simp [World.frozen?, h.blk]
theorem MB.nfrz (h : MB B mb nb v base half O w) (j : Nat) : w.frozen? ⟨nb, j, none⟩ = false := by simp [World.frozen?, h.met.num]
theorem numO_in (h : O.length ≤ 3000) (j : Nat) : -1 ≤ numO base O j ∧ numO base O j ≤ 3000 := by
  unfold numO
  split
  · rename_i hm
    have := List.idxOf_lt_length_iff.2 hm
    omega
  · omega
end

set_option maxRecDepth 100000 in
set_option maxHeartbeats 4000000 in
theorem number_is (base : Nat) (v : Value) (nb half j : Nat) (x r : Int) (w : World) (hx : x / 2 = ((base + j : Nat) : Int)) (hj : j < half) (hh : half ≤ 3000 ∧ base ≤ 3000) (h1 : -9223372036854775808 ≤ x) (h2 : x ≤ 9223372036854775807) (hc : w.cell? ⟨nb, j, none⟩ = some (.int .i64 r)) (hn : nb < w.heap.size) :
    Calls Tryz.prog 115 #[.agg #[.int .i64 base, v, .slice (some ⟨nb, 0, none⟩) half half], .int .i64 x] w fun e w' => e = .returned (.int .i64 r) ∧ Below w.heap.size w w' := by
  have hcall : ∀ X : World, Calls Tryz.prog 111 #[.int .i64 x] X fun e w' => e = .returned (.int .i64 ((base : Int) + j)) ∧ Below X.heap.size X w' := fun X => (wordRef_b x X h1 h2).mono fun e w' ⟨he, hb⟩ => ⟨by rw [he, hx]; simp, hb⟩
  have T0 := alloc_top w (.cells #[.int .i64 base, v, .slice (some ⟨nb, 0, none⟩) half half] 69)
  have K0 : Hid (Below w.heap.size w (w.alloc (.cells #[.int .i64 base, v, .slice (some ⟨nb, 0, none⟩) half half] 69))) := (Below.refl _ _).alloc (Nat.le_refl _) _
  have hz : w.heap.size < (w.alloc (.cells #[.int .i64 base, v, .slice (some ⟨nb, 0, none⟩) half half] 69)).heap.size := by simp
  have cn : (w.alloc (.cells #[.int .i64 base, v, .slice (some ⟨nb, 0, none⟩) half half] 69)).cell? ⟨nb, j, none⟩ = some (.int .i64 r) := (K0.out.cell (p := ⟨nb, j, none⟩) hn).trans hc
  have hnz : nb < (w.alloc (.cells #[.int .i64 base, v, .slice (some ⟨nb, 0, none⟩) half half] 69)).heap.size := by simp; omega
  have c0 : (w.alloc (.cells #[.int .i64 base, v, .slice (some ⟨nb, 0, none⟩) half half] 69)).cell? ⟨w.heap.size, 0, none⟩ = some (.int .i64 base) := blk_cellH (i := 0) T0 rfl
  have c2 : (w.alloc (.cells #[.int .i64 base, v, .slice (some ⟨nb, 0, none⟩) half half] 69)).cell? ⟨w.heap.size, 2, none⟩ = some (.slice (some ⟨nb, 0, none⟩) half half) := blk_cellH (i := 2) T0 rfl
  have c0n : (w.alloc (.cells #[.int .i64 base, v, .slice (some ⟨nb, 0, none⟩) half half] 69)).drew.cell? ⟨w.heap.size, 0, none⟩ = some (.int .i64 base) := c0
  have c2n : (w.alloc (.cells #[.int .i64 base, v, .slice (some ⟨nb, 0, none⟩) half half] 69)).drew.cell? ⟨w.heap.size, 2, none⟩ = some (.slice (some ⟨nb, 0, none⟩) half half) := c2
  have cnn : (w.alloc (.cells #[.int .i64 base, v, .slice (some ⟨nb, 0, none⟩) half half] 69)).drew.cell? ⟨nb, j, none⟩ = some (.int .i64 r) := cn
  have e1 : IntKind.i64.wrap ((base : Int) + j - base) = (j : Int) := by rw [IntKind.wrap_i64]; omega
  have e2 : (base : Int) + j - base = (j : Int) := by omega
  have e3 : IntKind.i64.wrap (j : Int) = (j : Int) := by rw [IntKind.wrap_i64]; omega
  have e4 : ¬ ((j : Int) < 0) := by omega
  have e5 : ((j : Int)).toNat = j := by omega
  have jI : (j : Int) < (half : Int) := by omega
  have j0 : (0 : Int) ≤ (j : Int) := by omega
  clear T0 hc hx
  go_enter Tryz.func115, Tryz.ntmps115
  go_wp2
  go_region_held3 (fun X => X.cell? ⟨w.heap.size, 0, none⟩ = some (.int .i64 base) ∧ X.cell? ⟨w.heap.size, 2, none⟩ = some (.slice (some ⟨nb, 0, none⟩) half half) ∧ X.cell? ⟨nb, j, none⟩ = some (.int .i64 r))
    (exact ⟨(by first | with_reducible exact c0 | with_reducible exact c0n), (by first | with_reducible exact c2 | with_reducible exact c2n), (by first | with_reducible exact cn | with_reducible exact cnn)⟩)
    (first | (go_at_call 111; refine (hcall _).mono ?_; rintro e w1 ⟨rfl, hB⟩; have K1 : Hid (Below w.heap.size w w1) := K0.out.drew.trans (hB.mono K0.out.size); replace c0 : w1.cell? ⟨w.heap.size, 0, none⟩ = some (.int .i64 base) := (hB.cell (p := ⟨w.heap.size, 0, none⟩) hz).trans c0; replace c2 : w1.cell? ⟨w.heap.size, 2, none⟩ = some (.slice (some ⟨nb, 0, none⟩) half half) := (hB.cell (p := ⟨w.heap.size, 2, none⟩) hz).trans c2; replace cn : w1.cell? ⟨nb, j, none⟩ = some (.int .i64 r) := (hB.cell (p := ⟨nb, j, none⟩) hnz).trans cn; clear hB))
  go_wp2
  go_ret
  exact ⟨rfl, K1.out⟩

end Go.Proofs.YtjibmpebebephaaGreatDoor.heap

namespace Go.Proofs.YtjibmpebebephaaGreatDoor.heap
open Go Go.RowKit Go.Deep Go.Proofs.YtjibmpebebephaaGreatDoor.rose Go.Proofs.YtjibmpebebephaaGreatDoor Go.Proofs.YtjibmpebebephaaGreatDoor.fun Go.Proofs.YtjibmpebebephaaGreatDoor.words Go.Proofs.YtjibmpebebephaaGreatDoor.ints
set_option linter.unusedVariables false
set_option linter.unusedSimpArgs false

theorem entR : Enters Tryz.prog 111 := enters_of Tryz.func111 (by kernel_rfl) rfl
/-- Words that lie one behind the other in memory below B. -/
def Piece (w : World) (B : Nat) (a : Option Addr) (xs : List Int) : Prop := ∀ j (hj : j < xs.length), ∃ b o, a = some ⟨b, o, none⟩ ∧ b < B ∧ w.cell? ⟨b, o + j, none⟩ = some (.int .i64 xs[j]) ∧ InR xs[j]
theorem Piece.on {w w' : World} {B : Nat} {a : Option Addr} {xs : List Int} (h : Piece w B a xs) (hb : Below B w w') : Piece w' B a xs := fun j hj => by
  obtain ⟨b, o, h1, h2, h3, h4⟩ := h j hj
  exact ⟨b, o, h1, h2, (hb.cell (p := ⟨b, o + j, none⟩) h2).trans h3, h4⟩
theorem Piece.of {w : World} {B : Nat} {S : Nat → Prop} {a : Option Addr} {c : Nat} {xs : List Int} (h : intsSh.rep w S [.slice a xs.length c] xs) (hS : ∀ b, S b → b < B) : Piece w B a xs := fun j hj => by
  obtain ⟨a0, c0, e, -, -, hat⟩ := ints_open h
  cases e
  obtain ⟨b, o, h1, h2, h3, h4, h5⟩ := hat j hj
  exact ⟨b, o, h1, hS b h2, h3, h4, h5⟩

theorem in_half {base half : Nat} {O : List Int} (hn : O.Nodup) (hr : ∀ x ∈ O, (base : Int) ≤ x ∧ x < base + half) : O.length ≤ half := by
  have := nodup_len (L := (List.range half).map fun j => ((base + j : Nat) : Int)) hn fun x hx => by
    have := hr x hx
    exact List.mem_map.2 ⟨(x - base).toNat, List.mem_range.2 (by omega), by omega⟩
  simpa using this
theorem cell_setM {w : World} {g r i j : Nat} {u : Value} (v : Value) (h : w.cell? ⟨g, j, none⟩ = some u) (hne : ¬ r = g) : (w.setCell ⟨r, i, none⟩ v).cell? ⟨g, j, none⟩ = some u := by
  have e : (w.setCell ⟨r, i, none⟩ v).heap[g]? = w.heap[g]? := Below.heap_setCell _ _ _ _ (by show g ≠ r; omega)
  rw [← h]
  simp only [World.cell?, e]
section
variable {B mb nb : Nat} {v : Value} {base half : Nat} {O : List Int} {w w' : World}
/-- One more block is met. -/
theorem MB.push (h : MB B mb nb v base half O w) {j : Nat} (hj : j < half) (hn : ((base + j : Nat) : Int) ∉ O) {w3 : World} {v' : Value} (e1 : w3.heap[nb]? = (w.setCell ⟨nb, j, none⟩ (.int .i64 (O.length : Nat))).heap[nb]?) (e2 : w3.heap[mb]? = w.heap[mb]?) (hI : IRow w3 B v' (O ++ [((base + j : Nat) : Int)])) (hv : v'.ownBlock ≠ some nb ∧ v'.ownBlock ≠ some mb) :
    MB B mb nb v' base half (O ++ [((base + j : Nat) : Int)]) (w3.setCell ⟨mb, 1, none⟩ v') := by
  have hlo := h.lo
  have hm := h.met
  have hnum : w3.heap[nb]? = some (.cells ((numsO base half (O ++ [((base + j : Nat) : Int)])).map (Value.int .i64)).toArray 3) := by
    rw [e1, numsO_push hj hn]
    simp [World.setCell, Array.getElem?_modify, hm.num, List.map_set]
  have hrr : ∀ x ∈ O ++ [((base + j : Nat) : Int)], (base : Int) ≤ x ∧ x < base + half := fun x hx => by
    rcases List.mem_append.1 hx with q | q
    · exact hm.siz.2.2.2 x q
    · rw [List.mem_singleton] at q; subst q; omega
  have hnd : (O ++ [((base + j : Nat) : Int)]).Nodup := by
    rw [List.nodup_append]
    exact ⟨hm.nod, by simp, fun a ha b hb e => by simp only [List.mem_singleton] at hb; subst hb e; exact hn ha⟩
  refine ⟨⟨⟨hm.lo.1, hv.1⟩, ⟨own_same hI.1 fun q hq => Below.heap_setCell _ _ _ _ (by show q ≠ mb; intro e; exact hv.2 (by rw [hq, e])), hI.2⟩, (Below.heap_setCell _ _ _ _ (by show nb ≠ mb; omega)).trans hnum, ⟨hm.siz.1, hm.siz.2.1, in_half hnd hrr, hrr⟩, hnd⟩, ⟨hlo.1, hlo.2.1, hv.2⟩, ?_⟩
  have hb : w3.heap[mb]? = _ := e2.trans h.blk
  simp [World.setCell, Array.getElem?_modify, hb]
end

set_option maxRecDepth 100000 in
set_option maxHeartbeats 8000000 in
theorem add_any {B mb nb : Nat} {v : Value} {base half : Nat} {O : List Int} {w : World} (h : MB B mb nb v base half O w) (a : Option Addr) (c : Nat) (xs : List Int) (hl : xs.length ≤ 1048576) (hp : Piece w B a xs) (hx : ∀ x ∈ xs, x % 2 = 0 → (base : Int) ≤ x / 2 ∧ x / 2 < base + half) (hB : B ≤ w.heap.size) :
    Calls Tryz.prog 96 #[.pointer (some ⟨mb, 0, none⟩), .slice a xs.length c] w fun e w' => e = .returned (.tuple #[]) ∧ (∃ v', MB B mb nb v' base half (addRs O xs) w') ∧ Below B w w' := by
  obtain ⟨ti, hti, hz0, hz1, hz2⟩ := int_info
  have TI : Hid (Tryz.prog.info? 3 = some ti ∧ ti.zero = some (.int .i64 0) ∧ ti.size = 1 ∧ ti.bytes = 8) := ⟨hti, hz0, hz1, hz2⟩
  have K0 : Hid (MB B mb nb v base half (addRs O (xs.take 0)) w) := h
  have P0 : Hid (Piece w B a xs) := hp
  have HX : Hid (∀ x ∈ xs, x % 2 = 0 → (base : Int) ≤ x / 2 ∧ x / 2 < base + half) := hx
  have HB : Hid (B ≤ w.heap.size) := hB
  have HLO : Hid (B ≤ mb ∧ B ≤ nb ∧ mb ≠ nb) := ⟨h.lo.1, h.met.lo.1, h.lo.2.1⟩
  have HSZ : Hid (half ≤ 3000 ∧ base ≤ 3000) := ⟨h.met.siz.1, h.met.siz.2.1⟩
  clear h hp hx hti hz0 hz1 hz2 hB
  go_enter Tryz.func96, Tryz.ntmps96
  go_wp2
  go_loopw [8] (fun v8 wr => ∃ (i : Nat) (vi : Value), i ≤ xs.length ∧ v8 = .int .i64 i ∧ Hid (MB B mb nb vi base half (addRs O (xs.take i)) wr) ∧ Hid (Below B w wr)) (fun v8 _ => xs.length - (intOf v8).toNat)
  case atStart => exact ⟨0, v, Nat.zero_le _, rfl, K0, Below.refl _ _⟩
  case round =>
    obtain ⟨i, vi, hi, rfl, HM, HW⟩ := hrel
    by_cases hlt : i < xs.length
    · obtain ⟨b, o, rfl, hbB, hc, r1, r2⟩ := (P0.out.on HW.out) i hlt
      have hxi := HX.out xs[i] (List.getElem_mem hlt)
      have htake := addRs_take (out := O) hlt
      obtain ⟨x, hxx⟩ : ∃ x, x = xs[i] := ⟨_, rfl⟩
      rw [← hxx] at hc r1 r2 hxi htake
      obtain ⟨Oi, hOi⟩ : ∃ Oi, Oi = addRs O (xs.take i) := ⟨_, rfl⟩
      rw [← hOi] at HM htake
      have HT : Hid (addRs O (xs.take (i + 1)) = addR Oi x) := htake
      have iI : (i : Int) < (xs.length : Int) := by omega
      have i0 : (0 : Int) ≤ (i : Int) := by omega
      clear hxx hOi htake
      rcases q1 : decide (x % 2 = 0) with _ | _
      · have HN : Hid (MB B mb nb vi base half (addRs O (xs.take (i + 1))) wr) := by
          show MB _ _ _ _ _ _ _ _; rw [HT.out, addR_skip (.inl (of_decide_eq_false q1))]; exact HM.out
        go_wp2_with (go_at_call 105; refine (isRef_b q1 _ r1 r2).mono ?_; rintro e w' ⟨rfl, hx⟩; subst w')
        go_round
        case rel => exact ⟨i + 1, vi, by omega, by go_num, HN, HW⟩
        case measure => simp [intOf]; omega
      · have q2 := of_decide_eq_true q1
        have hr := hxi q2
        obtain ⟨j, hj⟩ : ∃ j : Nat, x / 2 = ((base + j : Nat) : Int) := ⟨(x / 2 - base).toNat, by omega⟩
        have hjh : j < half := by omega
        have c0 := HM.out.c0
        have c1 := HM.out.c1
        have c2 := HM.out.c2
        have hnum := number_is base vi nb half j x (numO base Oi j) wr hj hjh HSZ.out r1 r2 (HM.out.met.nc hjh) HM.out.met.lt
        have hrng := numO_in (base := base) (O := Oi) (by have := HM.out.met.siz; omega) j
        by_cases q3 : ((base + j : Nat) : Int) ∈ Oi
        · have hne : ¬ numO base Oi j = -1 := by unfold numO; rw [if_pos q3]; omega
          have HN0 : Hid (addRs O (xs.take (i + 1)) = Oi) := by show _ = _; rw [HT.out, addR_skip (.inr (by rw [hj]; exact q3))]
          generalize numO base Oi j = r at hnum hrng hne
          clear q3 hr hxi
          go_wp2_with (first
            | (go_at_call 105; refine (isRef_b q1 _ r1 r2).mono ?_; rintro e w' ⟨rfl, hx⟩; subst w'))
          refine hnum.mono ?_
          rintro e w1 ⟨rfl, hb1⟩
          have K1 : Hid (Below wr.heap.size wr w1) := hb1
          clear hb1 hnum
          go_wp2
          have HN : Hid (MB B mb nb vi base half (addRs O (xs.take (i + 1))) w1) := by show MB _ _ _ _ _ _ _ _; rw [HN0.out]; exact HM.out.on K1.out
          have HW1 : Hid (Below B w w1) := HW.out.trans (K1.out.mono (Nat.le_trans HB.out HW.out.size))
          go_round
          case rel => exact ⟨i + 1, vi, by omega, by go_num, HN, HW1⟩
          case measure => simp [intOf]; omega
        · have hr1 : numO base Oi j = -1 := by unfold numO; rw [if_neg q3]
          rw [hr1] at hnum
          have HN0 : Hid (addRs O (xs.take (i + 1)) = Oi ++ [((base + j : Nat) : Int)]) := by show _ = _; rw [HT.out, addR_put q2 (by rw [hj]; exact q3), hj]
          obtain ⟨av, cv, hvi⟩ := own_form HM.out.met.plc.1
          subst hvi
          have HL : Hid (Oi.length ≤ 3000) := by show _ ≤ _; have := HM.out.met.siz; omega
          have Q3 : Hid (((base + j : Nat) : Int) ∉ Oi) := q3
          clear q3 hr hxi hr1 hrng
          go_wp2_with (first
            | (go_at_call 105; refine (isRef_b q1 _ r1 r2).mono ?_; rintro e w' ⟨rfl, hx⟩; subst w'))
          refine hnum.mono ?_
          rintro e w1 ⟨rfl, hb1⟩
          have H1 : Hid (MB B mb nb (.slice av Oi.length cv) base half Oi w1) := HM.out.on hb1
          have W1 : Hid (Below B w w1) := HW.out.trans (hb1.mono (Nat.le_trans HB.out HW.out.size))
          clear hb1 hnum c0 c1 c2
          have c0 := H1.out.c0
          have c1 := H1.out.c1
          have c2 := H1.out.c2
          have c0n : w1.drew.cell? ⟨mb, 0, none⟩ = some (.int .i64 base) := c0
          have c1n : w1.drew.cell? ⟨mb, 1, none⟩ = some (.slice av Oi.length cv) := c1
          have c2n : w1.drew.cell? ⟨mb, 2, none⟩ = some (.slice (some ⟨nb, 0, none⟩) half half) := c2
          have cj := H1.out.met.nc hjh
          have cf := H1.out.nfrz j
          have cjn : w1.drew.cell? ⟨nb, j, none⟩ = some (.int .i64 (numO base Oi j)) := cj
          have cfn : w1.drew.frozen? ⟨nb, j, none⟩ = false := cf
          have hnm : ¬ nb = mb := by have := HLO.out; omega
          have hcw : ∀ X : World, Calls Tryz.prog 111 #[.int .i64 x] X fun e w' => e = .returned (.int .i64 ((base : Int) + j)) ∧ w' = X := fun X => (wordRef_same x X r1 r2).mono fun e w' ⟨he, hb⟩ => ⟨by rw [he, hj]; simp, hb⟩
          have e1 : IntKind.i64.wrap ((base : Int) + j - base) = (j : Int) := by have := HSZ.out; rw [IntKind.wrap_i64]; omega
          have e2 : (base : Int) + j - base = (j : Int) := by omega
          have e3 : IntKind.i64.wrap (j : Int) = (j : Int) := by have := HSZ.out; rw [IntKind.wrap_i64]; omega
          have e4 : ¬ ((j : Int) < 0) := by omega
          have e5 : ((j : Int)).toNat = j := by omega
          have jI : (j : Int) < (half : Int) := by omega
          have j0 : (0 : Int) ≤ (j : Int) := by omega
          go_wp2
          go_region_held3 (fun X => X.cell? ⟨mb, 0, none⟩ = some (.int .i64 base) ∧ X.cell? ⟨mb, 1, none⟩ = some (.slice av Oi.length cv) ∧ X.cell? ⟨mb, 2, none⟩ = some (.slice (some ⟨nb, 0, none⟩) half half))
            (exact ⟨(by first | with_reducible exact c0 | with_reducible exact c0n | exact cell_setM _ c0 hnm), (by first | with_reducible exact c1 | with_reducible exact c1n | exact cell_setM _ c1 hnm), (by first | with_reducible exact c2 | with_reducible exact c2n | exact cell_setM _ c2 hnm)⟩)
            (first
              | (go_at_call 111; refine (hcw _).mono ?_; rintro e w' ⟨rfl, hx⟩; subst w'))
          have U1 : Hid (w1.cell? ⟨mb, 1, none⟩ = some (.slice av Oi.length cv)) := c1
          have HZ : Hid (B ≤ w1.heap.size) := Nat.le_trans HB.out W1.out.size
          obtain ⟨w2, hw2⟩ : ∃ w2, w2 = (w1.setCell ⟨nb, j, none⟩ (.int .i64 (Oi.length : Int))).drew := ⟨_, rfl⟩
          rw [← hw2]
          have S2 : Hid (w2.heap.size = w1.heap.size ∧ w2.heap[nb]? = (w1.setCell ⟨nb, j, none⟩ (.int .i64 (Oi.length : Nat))).heap[nb]? ∧ (∀ q, q ≠ nb → w2.heap[q]? = w1.heap[q]?) ∧ Below B w w2) := by
            rw [hw2]
            refine ⟨by show (w1.setCell _ _).heap.size = _; simp [World.setCell], rfl, fun q hq => Below.heap_setCell _ _ _ _ (by exact hq), (W1.out.setCell (by exact HLO.out.2.1) _).drew⟩
          have RA : Hid (w2.ownsRow B 3 1 (.slice av Oi.length cv) Oi.length (Oi.map (Value.int .i64))) := own_same H1.out.met.plc.1 fun q hq => S2.out.2.2.1 q (fun e => H1.out.met.lo.2 (by rw [hq, e]))
          have M2 : Hid (w2.heap[mb]? = some (.cells #[.int .i64 base, .slice av Oi.length cv, .slice (some ⟨nb, 0, none⟩) half half] 69)) := (S2.out.2.2.1 mb (by have := HLO.out; omega)).trans H1.out.blk
          clear hw2 c0 c1 c2 c0n c1n c2n cj cf cjn cfn U1
          have k1 : w2.cell? ⟨mb, 1, none⟩ = some (.slice av Oi.length cv) := blk_cellH (i := 1) M2.out rfl
          have hcv : Calls Tryz.prog 111 #[.int .i64 x] w2.drew fun e w' => e = .returned (.int .i64 ((base : Int) + j)) ∧ w' = w2.drew := hcw _
          go_wp2
          go_region_law
            (first
              | (refine step_append_own rfl _ _ 23 rfl B 3 ti _ 1 8 Tryz.underlying23 TI.out.1 TI.out.2.1 TI.out.2.2.1 TI.out.2.2.2 rfl (by decide) (.slice av Oi.length cv) Oi.length _ (by first | (simp [Act.eval]; done) | (simp [Act.eval, Act.put]; done) | rfl) RB.out ⟨w2.heap.size, 0, none⟩ 1 1 [.int .i64 ((base : Int) + j)] rfl rfl (cells_new _ _ _ _ rfl) (by simp [Value.oneCell']) (by unfold maxLen; have := HL.out; omega) (by have := HL.out; omega) (by have := HZ.out; have := S2.out.1; simp; omega) ?_; intro ua ul uc w3 hown3 hgrow3 hat3
                 have hO3 : w3.heap[mb]? = some (.cells #[.int .i64 base, .slice av Oi.length cv, .slice (some ⟨nb, 0, none⟩) half half] 69) := (hgrow3.block mb (by have := H1.out.lt; have := S2.out.1; simp; omega) (fun e => H1.out.lo.2.2 e.symm)).trans ((Below.heap_alloc _ _ _ (by have := H1.out.lt; have := S2.out.1; show mb < w2.heap.size; omega)).trans M2.out)
                 have y0 : w3.cell? ⟨mb, 1, none⟩ = some (.slice av Oi.length cv) := blk_cellH (i := 1) hO3 rfl
                 have y1 : w3.frozen? ⟨mb, 1, none⟩ = false := by simp [World.frozen?, hO3])
              | (refine step_call rfl 111 entR _ _ rfl _ _ hcv (by first | (simp [Act.eval]; done) | (simp [Act.eval, Act.put]; done) | rfl) ?_; rintro e w' ⟨rfl, hx⟩; subst w'
                 have k1' : ∀ o', (w2.drew.alloc o').cell? ⟨mb, 1, none⟩ = some (.slice av Oi.length cv) := fun o' => blk_cellH (i := 1) ((Below.heap_alloc _ _ _ (by have := H1.out.lt; have := S2.out.1; show mb < w2.heap.size; omega)).trans M2.out) rfl
                 have k1'' : ∀ o', (w2.alloc o').cell? ⟨mb, 1, none⟩ = some (.slice av Oi.length cv) := k1'
                 have k1d : ∀ o', (w2.alloc o').drew.cell? ⟨mb, 1, none⟩ = some (.slice av Oi.length cv) := k1'
                 have RB : Hid ((w2.drew.alloc (.cells #[.int .i64 ((base : Int) + j)] 3)).ownsRow B 3 1 (.slice av Oi.length cv) Oi.length (Oi.map (Value.int .i64))) := own_same RA.out fun q hq => Below.heap_alloc _ _ _ (by have := (H1.out.met.plc.lt q hq).2; have := S2.out.1; show q < w2.heap.size; omega)
                 refine ⟨_, rfl, ?_⟩))
          all_goals
            have H3 : MB B mb nb (.slice ua ul uc) base half (Oi ++ [((base + j : Nat) : Int)]) (w3.setCell ⟨mb, 1, none⟩ (.slice ua ul uc)) := by
              have hlt1 := H1.out.lt
              have hsz2 := S2.out.1
              have hown : w3.ownsRow B 3 1 (.slice ua ul uc) (Oi ++ [((base + j : Nat) : Int)]).length ((Oi ++ [((base + j : Nat) : Int)]).map (Value.int .i64)) := by
                simpa using hown3
              refine H1.out.push hjh Q3.out ?_ ?_ ⟨hown, fun y hy => ?_⟩ ?_
              · exact ((hgrow3.block nb (by simp; omega) (fun e => H1.out.met.lo.2 e.symm)).trans (Below.heap_alloc _ _ _ (by show nb < w2.heap.size; omega))).trans S2.out.2.1
              · exact ((hgrow3.block mb (by simp; omega) (fun e => H1.out.lo.2.2 e.symm)).trans (Below.heap_alloc _ _ _ (by show mb < w2.heap.size; omega))).trans (S2.out.2.2.1 mb (by have := HLO.out; omega))
              · rcases List.mem_append.1 hy with q | q
                · exact H1.out.met.plc.2 y q
                · rw [List.mem_singleton] at q; subst q; have := HSZ.out; unfold InR; omega
              · rcases hat3 with q | q
                · rw [q]; exact ⟨H1.out.met.lo.2, H1.out.lo.2.2⟩
                · rw [q]; simp; omega
            have HN : Hid (MB B mb nb (.slice ua ul uc) base half (addRs O (xs.take (i + 1))) (w3.setCell ⟨mb, 1, none⟩ (.slice ua ul uc))) := by show MB _ _ _ _ _ _ _ _; rw [HN0.out]; exact H3
            have HA0 : Below B w (w2.alloc (.cells #[.int .i64 ((base : Int) + j)] 3)) := S2.out.2.2.2.alloc (by have := HZ.out; have := S2.out.1; omega) _
            have HA1 : B ≤ (w2.alloc (.cells #[.int .i64 ((base : Int) + j)] 3)).heap.size := by have := HZ.out; have := S2.out.1; simp; omega
            have HA3 : Below B w w3 := by
              first
                | exact HA0.grown hgrow3 HA1 (fun g hg => (H1.out.met.plc.lt g hg).1)
                | exact HA0.drew.grown hgrow3 HA1 (fun g hg => (H1.out.met.plc.lt g hg).1)
            have HW3 : Hid (Below B w (w3.setCell ⟨mb, 1, none⟩ (.slice ua ul uc))) := HA3.setCell HLO.out.1 _
            clear HA0 HA1 HA3
            clear H3
            generalize w3.setCell ⟨mb, 1, none⟩ (.slice ua ul uc) = wF at *
            go_wp2
            exact ⟨⟨i + 1, _, by omega, by first | rfl | go_num, HN, HW3⟩, by simp only [intOf]; omega⟩
    · obtain rfl : i = xs.length := by omega
      go_wp2
      ((try simp only [Exit.inBlock, Exit.then]); (first | refine bodyPost_ret (results_none rfl _ _ _) rfl ?_ | refine bodyPost_end (results_none rfl _ _ _) rfl ?_))
      refine ⟨by first | rfl | trivial, ⟨vi, ?_⟩, HW.out⟩
      have := HM.out
      rwa [List.take_length] at this

end Go.Proofs.YtjibmpebebephaaGreatDoor.heap

namespace Go.Proofs.YtjibmpebebephaaGreatDoor.heap
open Go Go.RowKit Go.Proofs.YtjibmpebebephaaGreatDoor.rose Go.Proofs.YtjibmpebebephaaGreatDoor Go.Proofs.YtjibmpebebephaaGreatDoor.fun
set_option linter.unusedVariables false

theorem scan_inv {T : HeapD} (h : heapB T = true) : ∀ (f k : Nat) (out : List Int), OInv T out → OInv T (scanF T.1 f k out) := by
  intro f
  induction f with
  | zero => intro k out ho; exact ho
  | succ f ih =>
    intro k out ho
    by_cases hk : k < out.length
    · rw [scan_more hk]
      exact ih _ _ (ho.adds (kids_there h (ho.sub _ (List.getElem_mem hk))))
    · rw [scan_end (by omega)]; exact ho
theorem order_inv {T : HeapD} {rs : List Int} (h : rightB T rs = true) : OInv T (orderF T rs) :=
  scan_inv (right_is h).1 _ _ _ ((OInv.nil T).adds (right_is h).2)
theorem order_len {T : HeapD} {rs : List Int} (h : rightB T rs = true) : (orderF T rs).length ≤ 6000 := by
  have := (order_inv h).len
  have := places_len (right_is h).1
  omega

end Go.Proofs.YtjibmpebebephaaGreatDoor.heap

namespace Go.Proofs
open Go.Shelf
def Tryz.lays212_ren : Go.Shelf.Ren := ⟨fun | 212 => 114 | 263 => 127 | 264 => 128 | n => n, fun | 46 => 108 | 51 => 118 | 53 => 171 | 146 => 169 | 148 => 172 | n => n, fun | n => n⟩
theorem Tryz.lays212 : Lays.n212 Tryz.prog Tryz.lays212_ren := {
  mixed := by kernel_rfl
  f212 := Tryz.func114.trans (congrArg some (by kernel_rfl))
  f263 := Tryz.func127.trans (congrArg some (by kernel_rfl))
  f264 := Tryz.func128.trans (congrArg some (by kernel_rfl))
  t46 := Tryz.underlying108
  a46 := Tryz.isAgg108
  z46 := Tryz.sizeOf108
  v46 := Tryz.zeroValue108
  t51 := Tryz.underlying118
  a51 := Tryz.isAgg118
  z51 := Tryz.sizeOf118
  v51 := Tryz.zeroValue118
  t53 := Tryz.underlying171
  a53 := Tryz.isAgg171
  z53 := Tryz.sizeOf171
  v53 := Tryz.zeroValue171
  t146 := Tryz.underlying169
  a146 := Tryz.isAgg169
  z146 := Tryz.sizeOf169
  v146 := Tryz.zeroValue169
  t148 := Tryz.underlying172
  a148 := Tryz.isAgg172
  z148 := Tryz.sizeOf172
  v148 := Tryz.zeroValue172
}
theorem Tryz.bitsMul (x y : Nat) (hx : x < 18446744073709551616) (hy : y < 18446744073709551616) (w : World) :
    Calls Tryz.prog 114 #[.int .u64 x, .int .u64 y] w fun e w' => e = .returned (.tuple #[.int .u64 ((x * y / 18446744073709551616 : Nat) : Int), .int .u64 ((x * y % 18446744073709551616 : Nat) : Int)]) ∧ w' = w :=
  Any.bits_Mul Tryz.lays212 x y hx hy w
end Go.Proofs

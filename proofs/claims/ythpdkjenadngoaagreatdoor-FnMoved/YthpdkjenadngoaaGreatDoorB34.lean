/-
  The contracts of (*strings.Builder).WriteString and String at this program (the shelf's, proved once over any program, applied here); no condition of our own.
  The contract of (*strings.Builder).WriteByte at this program (the shelf's, proved once over any program, applied here); no condition of our own.
  The program's Digits, at every number; a builder that is kept.
  The program tells words (metBlocks.tell), a block's header (header.text).
-/
import Derived.Shelf.Strings.BuilderK
import Derived.Test.YthpdkjenadngoaaGreatDoorProg
import Derived.Lib.AppendIntMem
import Derived.Test.YthpdkjenadngoaaGreatDoorB1
import Derived.Test.YthpdkjenadngoaaGreatDoorB2
import Derived.Test.YthpdkjenadngoaaGreatDoorB3
import Derived.Test.YthpdkjenadngoaaGreatDoorB4
import Derived.Test.YthpdkjenadngoaaGreatDoorB5
import Derived.Test.YthpdkjenadngoaaGreatDoorB6
import Derived.Test.YthpdkjenadngoaaGreatDoorB7
import Derived.Test.YthpdkjenadngoaaGreatDoorB8
import Derived.Test.YthpdkjenadngoaaGreatDoorB9
import Derived.Test.YthpdkjenadngoaaGreatDoorB10
import Derived.Test.YthpdkjenadngoaaGreatDoorB11
import Derived.Test.YthpdkjenadngoaaGreatDoorB12
import Derived.Test.YthpdkjenadngoaaGreatDoorB13
import Derived.Test.YthpdkjenadngoaaGreatDoorB14
import Derived.Test.YthpdkjenadngoaaGreatDoorB15
import Derived.Test.YthpdkjenadngoaaGreatDoorB16
import Derived.Test.YthpdkjenadngoaaGreatDoorB17
import Derived.Test.YthpdkjenadngoaaGreatDoorB18
import Derived.Test.YthpdkjenadngoaaGreatDoorB19
import Derived.Test.YthpdkjenadngoaaGreatDoorB20
import Derived.Test.YthpdkjenadngoaaGreatDoorB21
import Derived.Test.YthpdkjenadngoaaGreatDoorB22
import Derived.Test.YthpdkjenadngoaaGreatDoorB23
import Derived.Test.YthpdkjenadngoaaGreatDoorB24
import Derived.Test.YthpdkjenadngoaaGreatDoorB25
import Derived.Test.YthpdkjenadngoaaGreatDoorB26
import Derived.Test.YthpdkjenadngoaaGreatDoorB27
import Derived.Test.YthpdkjenadngoaaGreatDoorB28
import Derived.Test.YthpdkjenadngoaaGreatDoorB29
import Derived.Test.YthpdkjenadngoaaGreatDoorB30
import Derived.Test.YthpdkjenadngoaaGreatDoorB31
import Derived.Test.YthpdkjenadngoaaGreatDoorB32
import Derived.Test.YthpdkjenadngoaaGreatDoorB33
namespace Go.Proofs
open Go.Shelf
def Tryz.bldRen : Go.Shelf.Ren := ⟨fun | 169 => 64 | 166 => 62 | 240 => 102 | 276 => 125 | n => n, fun | 70 => 103 | 9 => 9 | 0 => 0 | 72 => 105 | 37 => 22 | 127 => 137 | 3 => 3 | 5 => 5 | 4 => 4 | 20 => 20 | 75 => 108 | 80 => 111 | 164 => 145 | n => n, fun | n => n⟩
theorem Tryz.bldString : Go.Proofs.Lays.n169 Tryz.prog Tryz.bldRen := {
  mixed := by kernel_rfl
  f169 := Tryz.func64.trans (congrArg some (by kernel_rfl))
  t0 := Tryz.underlying0
  a0 := Tryz.isAgg0
  z0 := Tryz.sizeOf0
  v0 := Tryz.zeroValue0
  t3 := Tryz.underlying3
  a3 := Tryz.isAgg3
  z3 := Tryz.sizeOf3
  v3 := Tryz.zeroValue3
  t9 := Tryz.underlying9
  a9 := Tryz.isAgg9
  z9 := Tryz.sizeOf9
  v9 := Tryz.zeroValue9
  t37 := Tryz.underlying22
  a37 := Tryz.isAgg22
  z37 := Tryz.sizeOf22
  v37 := Tryz.zeroValue22
  t70 := Tryz.underlying103
  a70 := Tryz.isAgg103
  z70 := Tryz.sizeOf103
  v70 := Tryz.zeroValue103
  t72 := Tryz.underlying105
  a72 := Tryz.isAgg105
  z72 := Tryz.sizeOf105
  v72 := Tryz.zeroValue105
  t127 := Tryz.underlying137
  a127 := Tryz.isAgg137
  z127 := Tryz.sizeOf137
  v127 := Tryz.zeroValue137 }
theorem Tryz.bldWrite : Go.Proofs.Lays.n166 Tryz.prog Tryz.bldRen := {
  mixed := by kernel_rfl
  f166 := Tryz.func62.trans (congrArg some (by kernel_rfl))
  f240 := Tryz.func102.trans (congrArg some (by kernel_rfl))
  f276 := Tryz.func125.trans (congrArg some (by kernel_rfl))
  t0 := Tryz.underlying0
  a0 := Tryz.isAgg0
  z0 := Tryz.sizeOf0
  v0 := Tryz.zeroValue0
  t3 := Tryz.underlying3
  a3 := Tryz.isAgg3
  z3 := Tryz.sizeOf3
  v3 := Tryz.zeroValue3
  t4 := Tryz.underlying4
  a4 := Tryz.isAgg4
  z4 := Tryz.sizeOf4
  v4 := Tryz.zeroValue4
  t9 := Tryz.underlying9
  a9 := Tryz.isAgg9
  z9 := Tryz.sizeOf9
  v9 := Tryz.zeroValue9
  t20 := Tryz.underlying20
  a20 := Tryz.isAgg20
  z20 := Tryz.sizeOf20
  v20 := Tryz.zeroValue20
  t37 := Tryz.underlying22
  a37 := Tryz.isAgg22
  z37 := Tryz.sizeOf22
  v37 := Tryz.zeroValue22
  t70 := Tryz.underlying103
  a70 := Tryz.isAgg103
  z70 := Tryz.sizeOf103
  v70 := Tryz.zeroValue103
  t72 := Tryz.underlying105
  a72 := Tryz.isAgg105
  z72 := Tryz.sizeOf105
  v72 := Tryz.zeroValue105
  t75 := Tryz.underlying108
  a75 := Tryz.isAgg108
  z75 := Tryz.sizeOf108
  v75 := Tryz.zeroValue108
  t164 := Tryz.underlying145
  a164 := Tryz.isAgg145
  z164 := Tryz.sizeOf145
  v164 := Tryz.zeroValue145 }
theorem Tryz.bldExtra : Builder.Extra Tryz.prog Tryz.bldRen := {
  sizeBuilder := by kernel_rfl
  liesBuilder := by kernel_rfl
  t5 := Tryz.underlying5
  a5 := Tryz.isAgg5
  z5 := Tryz.sizeOf5
  v5 := Tryz.zeroValue5
  infoByte := by kernel_rfl
  cellsByte := by kernel_rfl
  sizeByte := by kernel_rfl
  neB5 := by decide }
open Go.RowKit in
theorem Tryz.Builder_WriteString_k (B b : Nat) (bs : List Value) (s : ByteArray) (w : World) (h : Lib.IsBuilderF 105 5 B b bs w) (hlen : bs.length + s.size ≤ 140737488355328) (hBw : B ≤ w.heap.size) :
    Calls Tryz.prog 62 #[.pointer (some ⟨b, 0, none⟩), .string s] w fun e w' => e = .returned (.tuple #[.int .i64 s.size, .nilIface]) ∧ (Lib.BuilderAtF 105 5 B b (.pointer (some ⟨b, 0, none⟩)) (bs ++ Lib.strCells s) w' ∧ Below B w w' ∧ Lib.OthersKept 5 (some b) w w') := Any.Builder_WriteString_k Tryz.bldWrite Tryz.bldExtra B b bs s w h hlen hBw
open Go.RowKit in
theorem Tryz.Builder_String_any_k (B b : Nat) (l : List UInt8) (w : World) (h : Lib.IsBuilderF 105 5 B b (Lib.byteCells l) w) (hBw : B ≤ w.heap.size) :
    Calls Tryz.prog 64 #[.pointer (some ⟨b, 0, none⟩)] w fun e w' => e = .returned (.string ⟨l.toArray⟩) ∧ (Lib.IsBuilderF 105 5 B b (Lib.byteCells l) w' ∧ Below B w w' ∧ Lib.OthersKept 5 (some b) w w') := Any.Builder_String_any_k Tryz.bldString Tryz.bldExtra B b l w h hBw
end Go.Proofs

namespace Go.Proofs
open Go.Shelf
def Tryz.bldRenB : Go.Shelf.Ren := ⟨fun | 169 => 64 | 166 => 62 | 167 => 101 | 240 => 102 | 276 => 125 | n => n, fun | 70 => 103 | 9 => 9 | 0 => 0 | 72 => 105 | 37 => 22 | 127 => 137 | 3 => 3 | 5 => 5 | 4 => 4 | 20 => 20 | 75 => 108 | 80 => 111 | 164 => 145 | n => n, fun | n => n⟩
theorem Tryz.bldByte : Go.Proofs.Lays.n167 Tryz.prog Tryz.bldRenB := {
  mixed := by kernel_rfl
  f167 := Tryz.func101.trans (congrArg some (by kernel_rfl))
  f240 := Tryz.func102.trans (congrArg some (by kernel_rfl))
  f276 := Tryz.func125.trans (congrArg some (by kernel_rfl))
  t0 := Tryz.underlying0
  a0 := Tryz.isAgg0
  z0 := Tryz.sizeOf0
  v0 := Tryz.zeroValue0
  t5 := Tryz.underlying5
  a5 := Tryz.isAgg5
  z5 := Tryz.sizeOf5
  v5 := Tryz.zeroValue5
  t4 := Tryz.underlying4
  a4 := Tryz.isAgg4
  z4 := Tryz.sizeOf4
  v4 := Tryz.zeroValue4
  t9 := Tryz.underlying9
  a9 := Tryz.isAgg9
  z9 := Tryz.sizeOf9
  v9 := Tryz.zeroValue9
  t20 := Tryz.underlying20
  a20 := Tryz.isAgg20
  z20 := Tryz.sizeOf20
  v20 := Tryz.zeroValue20
  t37 := Tryz.underlying22
  a37 := Tryz.isAgg22
  z37 := Tryz.sizeOf22
  v37 := Tryz.zeroValue22
  t70 := Tryz.underlying103
  a70 := Tryz.isAgg103
  z70 := Tryz.sizeOf103
  v70 := Tryz.zeroValue103
  t72 := Tryz.underlying105
  a72 := Tryz.isAgg105
  z72 := Tryz.sizeOf105
  v72 := Tryz.zeroValue105
  t75 := Tryz.underlying108
  a75 := Tryz.isAgg108
  z75 := Tryz.sizeOf108
  v75 := Tryz.zeroValue108
  t164 := Tryz.underlying145
  a164 := Tryz.isAgg145
  z164 := Tryz.sizeOf145
  v164 := Tryz.zeroValue145 }
theorem Tryz.bldExtraB : Builder.Extra Tryz.prog Tryz.bldRenB := {
  sizeBuilder := by kernel_rfl
  liesBuilder := by kernel_rfl
  t5 := Tryz.underlying5
  a5 := Tryz.isAgg5
  z5 := Tryz.sizeOf5
  v5 := Tryz.zeroValue5
  infoByte := by kernel_rfl
  cellsByte := by kernel_rfl
  sizeByte := by kernel_rfl
  neB5 := by decide }
open Go.RowKit in
theorem Tryz.Builder_WriteByte_k (B b : Nat) (bs : List Value) (c : Int) (w : World) (h : Lib.IsBuilderF 105 5 B b bs w) (hlen : bs.length + 1 ≤ 140737488355328) (hBw : B ≤ w.heap.size) :
    Calls Tryz.prog 101 #[.pointer (some ⟨b, 0, none⟩), .int .u8 c] w fun e w' => e = .returned .nilIface ∧ (Lib.BuilderAtF 105 5 B b (.pointer (some ⟨b, 0, none⟩)) (bs ++ [.int .u8 c]) w' ∧ Below B w w' ∧ Lib.OthersKept 5 (some b) w w') := Any.Builder_WriteByte_k Tryz.bldByte Tryz.bldExtraB B b bs c w h hlen hBw
end Go.Proofs

namespace Go.Proofs.YthpdkjenadngoaaGreatDoor.fun
open Go Go.RowKit Go.Proofs.YthpdkjenadngoaaGreatDoor Go.Proofs.YthpdkjenadngoaaGreatDoor.rose
set_option linter.unusedVariables false
set_option linter.unusedSimpArgs false

theorem below_growD (w : World) (k : Nat) (os : Array Obj) : Below w.heap.size w (Sort.grow (w.drewN k) os) := by
  refine ⟨rfl, rfl, rfl, ?_, fun j hj => ?_⟩
  · show w.heap.size ≤ (w.heap ++ os).size
    simp
  · show (w.heap ++ os)[j]? = w.heap[j]?
    rw [Array.getElem?_append_left hj]
/-- impl.Digits: the decimal numeral. -/
theorem digitsD (n : Int) (h0 : -9223372036854775808 ≤ n) (h1 : n ≤ 9223372036854775807) (w : World) (htab : Tab w) :
    Calls Tryz.prog 100 #[.int .i64 n] w fun e w' => e = .returned (.string (dg n)) ∧ Below w.heap.size w w' := by
  have ht : Hid (Tab w) := htab
  clear htab
  go_enter Tryz.func100, Tryz.ntmps100
  go_wp2_with (first | (go_at_call 138; refine (Tryz.strconv_Itoa n h0 h1 _ ht.out).mono ?_; rintro e w' ⟨rfl, k, os, rfl⟩) | go_in)
  go_ret
  exact ⟨rfl, below_growD _ _ _⟩
/-- A builder at b that holds s. -/
def Bld (b : Nat) (s : ByteArray) (w : World) : Prop := Lib.IsBuilderF 105 5 b b (Lib.strCells s) w
theorem Bld.lt {b : Nat} {s : ByteArray} {w : World} (h : Bld b s w) : b < w.heap.size := h.elim (fun x => x.lt) fun x => x.lt
theorem Bld.on {b : Nat} {s : ByteArray} {w w' : World} (h : Bld b s w) (hb : Below w.heap.size w w') : Bld b s w' := by
  have hlt := h.lt
  have key : ∀ p, Lib.BuilderAtF 105 5 b b p (Lib.strCells s) w → Lib.BuilderAtF 105 5 b b p (Lib.strCells s) w' := fun p hp => by
    obtain ⟨hB, v, hbk, hown, hne⟩ := hp
    refine ⟨hB, v, (hb.block b hlt).trans hbk, ⟨hown.1, ?_⟩, hne⟩
    rcases hown.2 with h0 | ⟨g, cap, cur, fz, r1, r2, r3, r4⟩
    · exact Or.inl h0
    · exact Or.inr ⟨g, cap, cur, fz, r1, r2, (hb.block g (Array.getElem?_eq_some_iff.1 r3).1).trans r3, r4⟩
  exact h.elim (fun x => .inl (key _ x)) fun x => .inr (key _ x)
theorem strCells_app (a b : ByteArray) : Lib.strCells (a ++ b) = Lib.strCells a ++ Lib.strCells b := by
  simp [Lib.strCells]
theorem Bld.new (w : World) : Bld w.heap.size ⟨#[]⟩ (w.alloc (.cells #[.pointer none, .slice none 0 0] 105)) :=
  Or.inl ⟨Nat.le_refl _, .slice none 0 0, alloc_top _ _, World.ownsRowF_nil _ _ _ _, by simp [Value.ownBlock]⟩
/-- Blocks of another kind that lie behind the builder are as they were. -/
def KeptM (b : Nat) (w w' : World) : Prop := ∀ k cs, w.heap[k]? = some (.cells cs 45) → k ≠ b → w'.heap[k]? = some (.cells cs 45)
theorem KeptM.of {b : Nat} {w w' : World} (h : Lib.OthersKept 5 (some b) w w') : KeptM b w w' := fun k cs hk hne => h k _ hk (by simpa using hne) (fun c fz e => by simp only [Obj.cells.injEq] at e; exact absurd e.2.1 (by decide))
theorem writeB {b : Nat} {s t : ByteArray} {w : World} (h : Bld b s w) (hl : s.size + t.size ≤ 140737488355328) :
    Calls Tryz.prog 62 #[.pointer (some ⟨b, 0, none⟩), .string t] w fun e w' => e = .returned (.tuple #[.int .i64 t.size, .nilIface]) ∧ Bld b (s ++ t) w' ∧ Below b w w' ∧ KeptM b w w' := by
  refine (Tryz.Builder_WriteString_k b b (Lib.strCells s) t w h (by rw [Lib.strCells_length]; exact hl) (Nat.le_of_lt h.lt)).mono ?_
  rintro e w' ⟨he, h1, h2, h3⟩
  refine ⟨he, Or.inr ?_, h2, KeptM.of h3⟩
  show Lib.BuilderAtF _ _ _ _ _ _ _
  rw [strCells_app]
  exact h1
theorem writeByteB {b : Nat} {s : ByteArray} {w : World} (h : Bld b s w) (hl : s.size + 1 ≤ 140737488355328) (c : UInt8) :
    Calls Tryz.prog 101 #[.pointer (some ⟨b, 0, none⟩), .int .u8 c.toNat] w fun e w' => e = .returned .nilIface ∧ Bld b (s ++ ⟨#[c]⟩) w' ∧ Below b w w' ∧ KeptM b w w' := by
  refine (Tryz.Builder_WriteByte_k b b (Lib.strCells s) c.toNat w h (by rw [Lib.strCells_length]; exact hl) (Nat.le_of_lt h.lt)).mono ?_
  rintro e w' ⟨he, h1, h2, h3⟩
  refine ⟨he, Or.inr ?_, h2, KeptM.of h3⟩
  show Lib.BuilderAtF _ _ _ _ _ _ _
  rw [strCells_app]
  exact h1
theorem stringB {b : Nat} {s : ByteArray} {w : World} (h : Bld b s w) :
    Calls Tryz.prog 64 #[.pointer (some ⟨b, 0, none⟩)] w fun e w' => e = .returned (.string s) ∧ Below b w w' := by
  refine (Tryz.Builder_String_any_k b b s.data.toList w h (Nat.le_of_lt h.lt)).mono ?_
  rintro e w' ⟨he, -, h2, -⟩
  exact ⟨he, h2⟩

end Go.Proofs.YthpdkjenadngoaaGreatDoor.fun

namespace Go.Proofs.YthpdkjenadngoaaGreatDoor.heap
open Go Go.RowKit Go.Deep Go.Proofs.YthpdkjenadngoaaGreatDoor.rose Go.Proofs.YthpdkjenadngoaaGreatDoor Go.Proofs.YthpdkjenadngoaaGreatDoor.fun Go.Proofs.YthpdkjenadngoaaGreatDoor.words Go.Proofs.YthpdkjenadngoaaGreatDoor.ints
set_option linter.unusedVariables false
set_option linter.unusedSimpArgs false

theorem wordInt_same (x : Int) (w : World) (h1 : -9223372036854775808 ≤ x) (h2 : x ≤ 9223372036854775807) :
    Calls Tryz.prog 83 #[.int .i64 x] w fun e w' => e = .returned (.int .i64 (x / 2)) ∧ w' = w := by
  go_enter Tryz.func83, Tryz.ntmps83
  go_wp2
  go_ret
  exact ⟨ret_i (by first | rfl | omega | (simp; done) | (simp; omega)), rfl⟩
theorem idxOf_at_le {O : List Int} : ∀ {j : Nat} (hj : j < O.length), O.idxOf O[j] ≤ j := by
  induction O with
  | nil => intro j hj; cases hj
  | cons y O ih =>
    intro j hj
    cases j with
    | zero => simp
    | succ j =>
      simp only [List.getElem_cons_succ]
      rw [List.idxOf_cons]
      have := ih (j := j) (by simpa using hj)
      cases y == O[j]'(by simpa using hj) <;> simp <;> omega
theorem wordTx_ref {O : List Int} {x : Int} (he : x % 2 = 0) (hm : x / 2 ∈ O) : wordTx O x = ⟨#[32, 64]⟩ ++ dg (O.idxOf (x / 2) : Nat) := by
  have hl := List.idxOf_lt_length_iff.2 hm
  refine wordTx_at he hl (List.getElem_idxOf hl) fun j hj hji e => ?_
  have h1 : O.idxOf O[j] ≤ j := idxOf_at_le hj
  rw [e] at h1
  omega
theorem wordsTx_take {O xs : List Int} {s : ByteArray} {i : Nat} (h : i < xs.length) : wordsTx O s (xs.take (i + 1)) = wordsTx O s (xs.take i) ++ wordTx O xs[i] := by rw [List.take_succ_eq_append_getElem h, wordsTx_push]
/-- What a header's text is. -/
def headTx (f : Bool) (tag : Int) : ByteArray := (if f then ⟨#[102, 117, 110]⟩ else ⟨#[99, 111, 110]⟩) ++ ⟨#[32]⟩ ++ dg tag

set_option maxRecDepth 100000 in
set_option maxHeartbeats 4000000 in
theorem text_is (f : Bool) (tag many : Int) (w : World) (h0 : -9223372036854775808 ≤ tag) (h1 : tag ≤ 9223372036854775807) (ht : ∀ X, Below w.heap.size w X → Tab X) :
    Calls Tryz.prog 63 #[.agg #[.bool f, .int .i64 tag, .int .i64 many]] w fun e w' => e = .returned (.string (headTx f tag)) ∧ Below w.heap.size w w' := by
  have B0 : Hid (Below w.heap.size w (w.alloc (.cells #[.bool f, .int .i64 tag, .int .i64 many] 62))) := (Below.refl _ _).alloc (Nat.le_refl _) _
  have hd := digitsD tag h0 h1 _ (ht _ B0.out)
  have Z0 : (w.alloc (.cells #[.bool f, .int .i64 tag, .int .i64 many] 62)).heap.size = w.heap.size + 1 := by simp
  have hdl := dg_le tag h0 h1
  have i1 : (#[102, 117, 110] : Array UInt8).size = 3 := rfl
  clear ht
  cases f
  · go_enter Tryz.func63, Tryz.ntmps63
    go_wp2_with fail
    refine hd.mono ?_
    rintro e w1 ⟨rfl, hb⟩
    have B1 : Below w.heap.size w w1 := B0.out.trans (hb.mono (by omega))
    clear hd hb
    go_wp2
    go_ret
    exact ⟨rfl, B1⟩
  · go_enter Tryz.func63, Tryz.ntmps63
    go_wp2_with fail
    refine hd.mono ?_
    rintro e w1 ⟨rfl, hb⟩
    have B1 : Below w.heap.size w w1 := B0.out.trans (hb.mono (by omega))
    clear hd hb
    go_wp2
    go_ret
    exact ⟨rfl, B1⟩

set_option maxRecDepth 100000 in
set_option maxHeartbeats 8000000 in
theorem tell_is {B2 nb : Nat} {v : Value} {base half : Nat} {O : List Int} {w : World} (h : Met B2 nb v base half O w) (b : Nat) (s : ByteArray) (hS : Bld b s w) (hnb : nb < b) (a : Option Addr) (c : Nat) (xs : List Int) (hl : xs.length ≤ 1048576) (hs : s.size ≤ 1000000000) (hp : Piece w b a xs) (hx : ∀ x ∈ xs, x % 2 = 0 → x / 2 ∈ O) (ht : ∀ X, Below b w X → Tab X) :
    Calls Tryz.prog 61 #[.agg #[.int .i64 base, v, .slice (some ⟨nb, 0, none⟩) half half], .pointer (some ⟨b, 0, none⟩), .slice a xs.length c] w fun e w' => e = .returned (.tuple #[]) ∧ Bld b (wordsTx O s xs ++ ⟨#[10]⟩) w' ∧ Below b w w' := by
  obtain ⟨av, cv, hvv⟩ := own_form h.plc.1
  subst hvv
  have hbw : b < w.heap.size := hS.lt
  have P0 : Hid (Piece w b a xs) := hp
  have HX : Hid (∀ x ∈ xs, x % 2 = 0 → x / 2 ∈ O) := hx
  have HT : Hid (∀ X, Below b w X → Tab X) := ht
  have HSS : Hid (s.size ≤ 1000000000) := hs
  have HSZ : Hid _ := h.siz
  have HRX : Hid (∀ x ∈ xs, InR x) := fun x hx => by
    obtain ⟨j, hj, rfl⟩ := List.getElem_of_mem hx
    obtain ⟨_, _, _, _, _, hr⟩ := hp j hj
    exact hr
  have HNC : Hid (∀ j, j < half → ∀ X, Below b w X → X.cell? ⟨nb, j, none⟩ = some (.int .i64 (numO base O j))) := fun j hj X hX => (hX.cell (p := ⟨nb, j, none⟩) hnb).trans (h.nc hj)
  have T0 := alloc_top w (.cells #[.int .i64 base, .slice av O.length cv, .slice (some ⟨nb, 0, none⟩) half half] 45)
  have K0 : Below w.heap.size w (w.alloc (.cells #[.int .i64 base, .slice av O.length cv, .slice (some ⟨nb, 0, none⟩) half half] 45)) := (Below.refl _ _).alloc (Nat.le_refl _) _
  have S0 : Hid (Bld b (wordsTx O s (xs.take 0)) (w.alloc (.cells #[.int .i64 base, .slice av O.length cv, .slice (some ⟨nb, 0, none⟩) half half] 45))) := hS.on K0
  have B0 : Hid (Below b w (w.alloc (.cells #[.int .i64 base, .slice av O.length cv, .slice (some ⟨nb, 0, none⟩) half half] 45))) := K0.mono (Nat.le_of_lt hbw)
  have HLT : Hid (nb < b ∧ b < w.heap.size) := ⟨hnb, hbw⟩
  clear h hS hp hx ht hs K0
  go_enter Tryz.func61, Tryz.ntmps61
  go_wp2
  go_loopw [10] (fun v10 wr => ∃ i : Nat, i ≤ xs.length ∧ v10 = .int .i64 i ∧ Hid (Bld b (wordsTx O s (xs.take i)) wr) ∧ Hid (Below b w wr ∧ wr.heap[w.heap.size]? = some (.cells #[.int .i64 base, .slice av O.length cv, .slice (some ⟨nb, 0, none⟩) half half] 45))) (fun v10 _ => xs.length - (intOf v10).toNat)
  case atStart => exact ⟨0, Nat.zero_le _, rfl, S0, B0.out, T0⟩
  case round =>
    obtain ⟨i, hi, rfl, HS, HB⟩ := hrel
    have hwl := wordsTx_le O (by have := HSZ.out; omega) (xs.take i) s (fun x hx => HRX.out x (List.mem_of_mem_take hx))
    have HWL : Hid ((wordsTx O s (xs.take i)).size ≤ 1000000000 + 23 * 1048576) := by
      show _ ≤ _
      have := HSS.out
      rw [List.length_take] at hwl
      omega
    clear hwl
    by_cases hlt : i < xs.length
    · obtain ⟨bb, o, rfl, hbB, hc, r1, r2⟩ := (P0.out.on HB.out.1) i hlt
      have hxi := HX.out xs[i] (List.getElem_mem hlt)
      have htake := wordsTx_take (O := O) (s := s) hlt
      obtain ⟨x, hxx⟩ : ∃ x, x = xs[i] := ⟨_, rfl⟩
      rw [← hxx] at hc r1 r2 hxi htake
      have HTK : Hid (wordsTx O s (xs.take (i + 1)) = wordsTx O s (xs.take i) ++ wordTx O x) := htake
      have iI : (i : Int) < (xs.length : Int) := by omega
      have i0 : (0 : Int) ≤ (i : Int) := by omega
      have hwx := wordTx_le O x r1 r2 (by have := HSZ.out; omega)
      have HWX : Hid ((wordTx O x).size ≤ 23) := hwx
      have hz0 : w.heap.size < wr.heap.size := (Array.getElem?_eq_some_iff.1 HB.out.2).1
      clear hxx htake hwx
      rcases q1 : decide (x % 2 = 0) with _ | _
      · have hq1 := of_decide_eq_false q1
        have HE : Hid (wordTx O x = ⟨#[32]⟩ ++ dg (x / 2)) := wordTx_int hq1
        have hd := digitsD (x / 2) (by omega) (by omega) wr (HT.out _ HB.out.1)
        have hdl := dg_le (x / 2) (by omega) (by omega)
        go_wp2_with (first
          | (go_at_call 84; refine (isRef_b q1 _ r1 r2).mono ?_; rintro e w' ⟨rfl, hx⟩; subst w')
          | (go_at_call 83; refine (wordInt_same x _ r1 r2).mono ?_; rintro e w' ⟨rfl, hx⟩; subst w'))
        refine hd.mono ?_
        rintro e w1 ⟨rfl, hb1⟩
        have S1 : Hid (Bld b (wordsTx O s (xs.take i)) w1) := HS.out.on hb1
        have B1 : Hid (Below b w w1 ∧ w1.heap[w.heap.size]? = some (.cells #[.int .i64 base, .slice av O.length cv, .slice (some ⟨nb, 0, none⟩) half half] 45)) := ⟨HB.out.1.trans (hb1.mono (by have := HLT.out; omega)), (hb1.block _ hz0).trans HB.out.2⟩
        have hwr := writeB (t := ⟨#[32]⟩ ++ dg (x / 2)) S1.out (by have := HWL.out; have := HWX.out; rw [HE.out] at this; omega)
        clear hd hb1
        go_wp2_with fail
        refine hwr.mono ?_
        rintro e w2 ⟨rfl, hs2, hb2, hk2⟩
        have S2 : Hid (Bld b (wordsTx O s (xs.take (i + 1))) w2) := by show Bld _ _ _; rw [HTK.out, HE.out]; exact hs2
        have B2 : Hid (Below b w w2 ∧ w2.heap[w.heap.size]? = some (.cells #[.int .i64 base, .slice av O.length cv, .slice (some ⟨nb, 0, none⟩) half half] 45)) := ⟨B1.out.1.trans hb2, hk2 _ _ B1.out.2 (by have := HLT.out; omega)⟩
        clear hwr hs2 hb2 hk2
        go_wp2
        go_round
        case rel => exact ⟨i + 1, by omega, by go_num, S2, B2⟩
        case measure => simp [intOf]; omega
      · have hq1 := of_decide_eq_true q1
        have hmem := hxi hq1
        have hran := HSZ.out.2.2.2 _ hmem
        obtain ⟨j, hj⟩ : ∃ j : Nat, x / 2 = ((base + j : Nat) : Int) := ⟨(x / 2 - base).toNat, by omega⟩
        have hjh : j < half := by omega
        have hno : numO base O j = ((O.idxOf (x / 2) : Nat) : Int) := by unfold numO; rw [if_pos (by rw [← hj]; exact hmem), ← hj]
        have HE : Hid (wordTx O x = ⟨#[32, 64]⟩ ++ dg ((O.idxOf (x / 2) : Nat) : Int)) := wordTx_ref hq1 hmem
        have hil := List.idxOf_lt_length_iff.2 hmem
        have k0 : wr.cell? ⟨w.heap.size, 0, none⟩ = some (.int .i64 base) := blk_cellH (i := 0) HB.out.2 rfl
        have k1 : wr.cell? ⟨w.heap.size, 1, none⟩ = some (.slice av O.length cv) := blk_cellH (i := 1) HB.out.2 rfl
        have k2 : wr.cell? ⟨w.heap.size, 2, none⟩ = some (.slice (some ⟨nb, 0, none⟩) half half) := blk_cellH (i := 2) HB.out.2 rfl
        have hnum := number_is base (.slice av O.length cv) nb half j x (numO base O j) wr hj hjh ⟨HSZ.out.1, HSZ.out.2.1⟩ r1 r2 (HNC.out j hjh wr HB.out.1) (by have := HLT.out; have := HS.out.lt; omega)
        rw [hno] at hnum
        obtain ⟨r, hr⟩ : ∃ r : Int, r = ((O.idxOf (x / 2) : Nat) : Int) := ⟨_, rfl⟩
        rw [← hr] at hnum HE
        have hrb : -9223372036854775808 ≤ r ∧ r ≤ 9223372036854775807 := by have := HSZ.out; omega
        have hdl := dg_le r hrb.1 hrb.2
        clear hno hr hil hxi hmem hran hj
        go_wp2_with (first
          | (go_at_call 84; refine (isRef_b q1 _ r1 r2).mono ?_; rintro e w' ⟨rfl, hx⟩; subst w'))
        refine hnum.mono ?_
        rintro e w0 ⟨rfl, hb0⟩
        have S1 : Hid (Bld b (wordsTx O s (xs.take i)) w0) := HS.out.on hb0
        have B1 : Hid (Below b w w0 ∧ w0.heap[w.heap.size]? = some (.cells #[.int .i64 base, .slice av O.length cv, .slice (some ⟨nb, 0, none⟩) half half] 45)) := ⟨HB.out.1.trans (hb0.mono (by have := HLT.out; omega)), (hb0.block _ hz0).trans HB.out.2⟩
        have hz1 : w.heap.size < w0.heap.size := (Array.getElem?_eq_some_iff.1 B1.out.2).1
        have hd := digitsD r hrb.1 hrb.2 w0 (HT.out _ B1.out.1)
        clear hnum hb0 k0 k1 k2
        go_wp2_with fail
        refine hd.mono ?_
        rintro e w1 ⟨rfl, hb1⟩
        have S2 : Hid (Bld b (wordsTx O s (xs.take i)) w1) := S1.out.on hb1
        have B2 : Hid (Below b w w1 ∧ w1.heap[w.heap.size]? = some (.cells #[.int .i64 base, .slice av O.length cv, .slice (some ⟨nb, 0, none⟩) half half] 45)) := ⟨B1.out.1.trans (hb1.mono (by have := HLT.out; omega)), (hb1.block _ hz1).trans B1.out.2⟩
        have hwr := writeB (t := ⟨#[32, 64]⟩ ++ dg r) S2.out (by have := HWL.out; have := HWX.out; rw [HE.out] at this; omega)
        clear hd hb1
        go_wp2_with fail
        refine hwr.mono ?_
        rintro e w2 ⟨rfl, hs2, hb2, hk2⟩
        have S3 : Hid (Bld b (wordsTx O s (xs.take (i + 1))) w2) := by show Bld _ _ _; rw [HTK.out, HE.out]; exact hs2
        have B3 : Hid (Below b w w2 ∧ w2.heap[w.heap.size]? = some (.cells #[.int .i64 base, .slice av O.length cv, .slice (some ⟨nb, 0, none⟩) half half] 45)) := ⟨B2.out.1.trans hb2, hk2 _ _ B2.out.2 (by have := HLT.out; omega)⟩
        clear hwr hs2 hb2 hk2
        go_wp2
        go_round
        case rel => exact ⟨i + 1, by omega, by go_num, S3, B3⟩
        case measure => simp [intOf]; omega
    · obtain rfl : i = xs.length := by omega
      have hwb := writeByteB HS.out (by have := HWL.out; omega) 10
      rw [List.take_length] at hwb
      go_wp2_with fail
      refine hwb.mono ?_
      rintro e w2 ⟨rfl, hs2, hb2, hk2⟩
      have S2 : Hid (Bld b (wordsTx O s xs ++ ⟨#[10]⟩) w2 ∧ Below b w w2) := ⟨hs2, HB.out.1.trans hb2⟩
      clear hwb hs2 hb2 hk2
      go_wp2
      ((try simp only [Exit.inBlock, Exit.then]); (first | refine bodyPost_ret (results_none rfl _ _ _) rfl ?_ | refine bodyPost_end (results_none rfl _ _ _) rfl ?_))
      exact ⟨by first | rfl | trivial, S2.out.1, S2.out.2⟩

end Go.Proofs.YthpdkjenadngoaaGreatDoor.heap

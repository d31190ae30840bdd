/-
  The program's Digits, at every number; a builder that is kept.
  The program tells words (metBlocks.tell), a block's header (header.text).
  A block is put into a heap (chapter 17): told in plain data; no program named.
-/
import Derived.Lib.AppendIntMem
import Derived.Test.YtibjpdchdopigaaDoorB1
import Derived.Test.YtibjpdchdopigaaDoorB2
import Derived.Test.YtibjpdchdopigaaDoorB3
import Derived.Test.YtibjpdchdopigaaDoorB4
import Derived.Test.YtibjpdchdopigaaDoorB5
import Derived.Test.YtibjpdchdopigaaDoorB6
import Derived.Test.YtibjpdchdopigaaDoorB7
import Derived.Test.YtibjpdchdopigaaDoorB8
import Derived.Test.YtibjpdchdopigaaDoorB9
import Derived.Test.YtibjpdchdopigaaDoorB10
import Derived.Test.YtibjpdchdopigaaDoorB11
import Derived.Test.YtibjpdchdopigaaDoorB12
import Derived.Test.YtibjpdchdopigaaDoorB13
import Derived.Test.YtibjpdchdopigaaDoorB14
import Derived.Test.YtibjpdchdopigaaDoorB15
namespace Go.Proofs.YtibjpdchdopigaaDoor.fun
open Go Go.RowKit Go.Proofs.YtibjpdchdopigaaDoor Go.Proofs.YtibjpdchdopigaaDoor.rose
set_option linter.unusedVariables false
set_option linter.unusedSimpArgs false

theorem below_growD (w : World) (k : Nat) (os : Array Obj) : Below w.heap.size w (Sort.grow (w.drewN k) os) := by
  refine ⟨rfl, rfl, rfl, ?_, fun j hj => ?_⟩
  · show w.heap.size ≤ (w.heap ++ os).size
    simp
  · show (w.heap ++ os)[j]? = w.heap[j]?
    rw [Array.getElem?_append_left hj]
/-- impl.Digits: the decimal numeral. -/
theorem digitsD (n : Int) (h0 : -9223372036854775808 ≤ n) (h1 : n ≤ 9223372036854775807) (w : World) (htab : Tab w) :
    Calls Tryd.prog 49 #[.int .i64 n] w fun e w' => e = .returned (.string (dg n)) ∧ Below w.heap.size w w' := by
  have ht : Hid (Tab w) := htab
  clear htab
  go_enter Tryd.func49, Tryd.ntmps49
  go_wp2_with (first | (go_at_call 84; refine (Tryd.strconv_Itoa n h0 h1 _ ht.out).mono ?_; rintro e w' ⟨rfl, k, os, rfl⟩) | go_in)
  go_ret
  exact ⟨rfl, below_growD _ _ _⟩
/-- A builder at b that holds s. -/
def Bld (b : Nat) (s : ByteArray) (w : World) : Prop := Lib.IsBuilderF 74 5 b b (Lib.strCells s) w
theorem Bld.lt {b : Nat} {s : ByteArray} {w : World} (h : Bld b s w) : b < w.heap.size := h.elim (fun x => x.lt) fun x => x.lt
theorem Bld.on {b : Nat} {s : ByteArray} {w w' : World} (h : Bld b s w) (hb : Below w.heap.size w w') : Bld b s w' := by
  have hlt := h.lt
  have key : ∀ p, Lib.BuilderAtF 74 5 b b p (Lib.strCells s) w → Lib.BuilderAtF 74 5 b b p (Lib.strCells s) w' := fun p hp => by
    obtain ⟨hB, v, hbk, hown, hne⟩ := hp
    refine ⟨hB, v, (hb.block b hlt).trans hbk, ⟨hown.1, ?_⟩, hne⟩
    rcases hown.2 with h0 | ⟨g, cap, cur, fz, r1, r2, r3, r4⟩
    · exact Or.inl h0
    · exact Or.inr ⟨g, cap, cur, fz, r1, r2, (hb.block g (Array.getElem?_eq_some_iff.1 r3).1).trans r3, r4⟩
  exact h.elim (fun x => .inl (key _ x)) fun x => .inr (key _ x)
theorem strCells_app (a b : ByteArray) : Lib.strCells (a ++ b) = Lib.strCells a ++ Lib.strCells b := by
  simp [Lib.strCells]
theorem Bld.new (w : World) : Bld w.heap.size ⟨#[]⟩ (w.alloc (.cells #[.pointer none, .slice none 0 0] 74)) :=
  Or.inl ⟨Nat.le_refl _, .slice none 0 0, alloc_top _ _, World.ownsRowF_nil _ _ _ _, by simp [Value.ownBlock]⟩
/-- Blocks of another kind that lie behind the builder are as they were. -/
def KeptM (b : Nat) (w w' : World) : Prop := ∀ k cs, w.heap[k]? = some (.cells cs 42) → k ≠ b → w'.heap[k]? = some (.cells cs 42)
theorem KeptM.of {b : Nat} {w w' : World} (h : Lib.OthersKept 5 (some b) w w') : KeptM b w w' := fun k cs hk hne => h k _ hk (by simpa using hne) (fun c fz e => by simp only [Obj.cells.injEq] at e; exact absurd e.2.1 (by decide))
theorem writeB {b : Nat} {s t : ByteArray} {w : World} (h : Bld b s w) (hl : s.size + t.size ≤ 140737488355328) :
    Calls Tryd.prog 31 #[.pointer (some ⟨b, 0, none⟩), .string t] w fun e w' => e = .returned (.tuple #[.int .i64 t.size, .nilIface]) ∧ Bld b (s ++ t) w' ∧ Below b w w' ∧ KeptM b w w' := by
  refine (Tryd.Builder_WriteString_k b b (Lib.strCells s) t w h (by rw [Lib.strCells_length]; exact hl) (Nat.le_of_lt h.lt)).mono ?_
  rintro e w' ⟨he, h1, h2, h3⟩
  refine ⟨he, Or.inr ?_, h2, KeptM.of h3⟩
  show Lib.BuilderAtF _ _ _ _ _ _ _
  rw [strCells_app]
  exact h1
theorem writeByteB {b : Nat} {s : ByteArray} {w : World} (h : Bld b s w) (hl : s.size + 1 ≤ 140737488355328) (c : UInt8) :
    Calls Tryd.prog 52 #[.pointer (some ⟨b, 0, none⟩), .int .u8 c.toNat] w fun e w' => e = .returned .nilIface ∧ Bld b (s ++ ⟨#[c]⟩) w' ∧ Below b w w' ∧ KeptM b w w' := by
  refine (Tryd.Builder_WriteByte_k b b (Lib.strCells s) c.toNat w h (by rw [Lib.strCells_length]; exact hl) (Nat.le_of_lt h.lt)).mono ?_
  rintro e w' ⟨he, h1, h2, h3⟩
  refine ⟨he, Or.inr ?_, h2, KeptM.of h3⟩
  show Lib.BuilderAtF _ _ _ _ _ _ _
  rw [strCells_app]
  exact h1
theorem stringB {b : Nat} {s : ByteArray} {w : World} (h : Bld b s w) :
    Calls Tryd.prog 35 #[.pointer (some ⟨b, 0, none⟩)] w fun e w' => e = .returned (.string s) ∧ Below b w w' := by
  refine (Tryd.Builder_String_any_k b b s.data.toList w h (Nat.le_of_lt h.lt)).mono ?_
  rintro e w' ⟨he, -, h2, -⟩
  exact ⟨he, h2⟩

end Go.Proofs.YtibjpdchdopigaaDoor.fun

namespace Go.Proofs.YtibjpdchdopigaaDoor.heap
open Go Go.RowKit Go.Deep Go.Proofs.YtibjpdchdopigaaDoor.rose Go.Proofs.YtibjpdchdopigaaDoor Go.Proofs.YtibjpdchdopigaaDoor.fun Go.Proofs.YtibjpdchdopigaaDoor.words Go.Proofs.YtibjpdchdopigaaDoor.ints
set_option linter.unusedVariables false
set_option linter.unusedSimpArgs false

theorem wordInt_same (x : Int) (w : World) (h1 : -9223372036854775808 ≤ x) (h2 : x ≤ 9223372036854775807) :
    Calls Tryd.prog 51 #[.int .i64 x] w fun e w' => e = .returned (.int .i64 (x / 2)) ∧ w' = w := by
  go_enter Tryd.func51, Tryd.ntmps51
  go_wp2
  go_ret
  exact ⟨ret_i (by first | rfl | omega | (simp; done) | (simp; omega)), rfl⟩
theorem idxOf_at_le {O : List Int} : ∀ {j : Nat} (hj : j < O.length), O.idxOf O[j] ≤ j := by
  induction O with
  | nil => intro j hj; cases hj
  | cons y O ih =>
    intro j hj
    cases j with
    | zero => simp
    | succ j =>
      simp only [List.getElem_cons_succ]
      rw [List.idxOf_cons]
      have := ih (j := j) (by simpa using hj)
      cases y == O[j]'(by simpa using hj) <;> simp <;> omega
theorem wordTx_ref {O : List Int} {x : Int} (he : x % 2 = 0) (hm : x / 2 ∈ O) : wordTx O x = ⟨#[32, 64]⟩ ++ dg (O.idxOf (x / 2) : Nat) := by
  have hl := List.idxOf_lt_length_iff.2 hm
  refine wordTx_at he hl (List.getElem_idxOf hl) fun j hj hji e => ?_
  have h1 : O.idxOf O[j] ≤ j := idxOf_at_le hj
  rw [e] at h1
  omega
theorem wordsTx_take {O xs : List Int} {s : ByteArray} {i : Nat} (h : i < xs.length) : wordsTx O s (xs.take (i + 1)) = wordsTx O s (xs.take i) ++ wordTx O xs[i] := by rw [List.take_succ_eq_append_getElem h, wordsTx_push]
/-- What a header's text is. -/
def headTx (f : Bool) (tag : Int) : ByteArray := (if f then ⟨#[102, 117, 110]⟩ else ⟨#[99, 111, 110]⟩) ++ ⟨#[32]⟩ ++ dg tag

set_option maxRecDepth 100000 in
set_option maxHeartbeats 4000000 in
theorem text_is (f : Bool) (tag many : Int) (w : World) (h0 : -9223372036854775808 ≤ tag) (h1 : tag ≤ 9223372036854775807) (ht : ∀ X, Below w.heap.size w X → Tab X) :
    Calls Tryd.prog 33 #[.agg #[.bool f, .int .i64 tag, .int .i64 many]] w fun e w' => e = .returned (.string (headTx f tag)) ∧ Below w.heap.size w w' := by
  have B0 : Hid (Below w.heap.size w (w.alloc (.cells #[.bool f, .int .i64 tag, .int .i64 many] 81))) := (Below.refl _ _).alloc (Nat.le_refl _) _
  have hd := digitsD tag h0 h1 _ (ht _ B0.out)
  have Z0 : (w.alloc (.cells #[.bool f, .int .i64 tag, .int .i64 many] 81)).heap.size = w.heap.size + 1 := by simp
  have hdl := dg_le tag h0 h1
  have i1 : (#[102, 117, 110] : Array UInt8).size = 3 := rfl
  clear ht
  cases f
  · go_enter Tryd.func33, Tryd.ntmps33
    go_wp2_with fail
    refine hd.mono ?_
    rintro e w1 ⟨rfl, hb⟩
    have B1 : Below w.heap.size w w1 := B0.out.trans (hb.mono (by omega))
    clear hd hb
    go_wp2
    go_ret
    exact ⟨rfl, B1⟩
  · go_enter Tryd.func33, Tryd.ntmps33
    go_wp2_with fail
    refine hd.mono ?_
    rintro e w1 ⟨rfl, hb⟩
    have B1 : Below w.heap.size w w1 := B0.out.trans (hb.mono (by omega))
    clear hd hb
    go_wp2
    go_ret
    exact ⟨rfl, B1⟩

set_option maxRecDepth 100000 in
set_option maxHeartbeats 8000000 in
theorem tell_is {B2 nb : Nat} {v : Value} {base half : Nat} {O : List Int} {w : World} (h : Met B2 nb v base half O w) (b : Nat) (s : ByteArray) (hS : Bld b s w) (hnb : nb < b) (a : Option Addr) (c : Nat) (xs : List Int) (hl : xs.length ≤ 1048576) (hs : s.size ≤ 1000000000) (hp : Piece w b a xs) (hx : ∀ x ∈ xs, x % 2 = 0 → x / 2 ∈ O) (ht : ∀ X, Below b w X → Tab X) :
    Calls Tryd.prog 30 #[.agg #[.int .i64 base, v, .slice (some ⟨nb, 0, none⟩) half half], .pointer (some ⟨b, 0, none⟩), .slice a xs.length c] w fun e w' => e = .returned (.tuple #[]) ∧ Bld b (wordsTx O s xs ++ ⟨#[10]⟩) w' ∧ Below b w w' := by
  obtain ⟨av, cv, hvv⟩ := own_form h.plc.1
  subst hvv
  have hbw : b < w.heap.size := hS.lt
  have P0 : Hid (Piece w b a xs) := hp
  have HX : Hid (∀ x ∈ xs, x % 2 = 0 → x / 2 ∈ O) := hx
  have HT : Hid (∀ X, Below b w X → Tab X) := ht
  have HSS : Hid (s.size ≤ 1000000000) := hs
  have HSZ : Hid _ := h.siz
  have HRX : Hid (∀ x ∈ xs, InR x) := fun x hx => by
    obtain ⟨j, hj, rfl⟩ := List.getElem_of_mem hx
    obtain ⟨_, _, _, _, _, hr⟩ := hp j hj
    exact hr
  have HNC : Hid (∀ j, j < half → ∀ X, Below b w X → X.cell? ⟨nb, j, none⟩ = some (.int .i64 (numO base O j))) := fun j hj X hX => (hX.cell (p := ⟨nb, j, none⟩) hnb).trans (h.nc hj)
  have T0 := alloc_top w (.cells #[.int .i64 base, .slice av O.length cv, .slice (some ⟨nb, 0, none⟩) half half] 42)
  have K0 : Below w.heap.size w (w.alloc (.cells #[.int .i64 base, .slice av O.length cv, .slice (some ⟨nb, 0, none⟩) half half] 42)) := (Below.refl _ _).alloc (Nat.le_refl _) _
  have S0 : Hid (Bld b (wordsTx O s (xs.take 0)) (w.alloc (.cells #[.int .i64 base, .slice av O.length cv, .slice (some ⟨nb, 0, none⟩) half half] 42))) := hS.on K0
  have B0 : Hid (Below b w (w.alloc (.cells #[.int .i64 base, .slice av O.length cv, .slice (some ⟨nb, 0, none⟩) half half] 42))) := K0.mono (Nat.le_of_lt hbw)
  have HLT : Hid (nb < b ∧ b < w.heap.size) := ⟨hnb, hbw⟩
  clear h hS hp hx ht hs K0
  go_enter Tryd.func30, Tryd.ntmps30
  go_wp2
  go_loopw [10] (fun v10 wr => ∃ i : Nat, i ≤ xs.length ∧ v10 = .int .i64 i ∧ Hid (Bld b (wordsTx O s (xs.take i)) wr) ∧ Hid (Below b w wr ∧ wr.heap[w.heap.size]? = some (.cells #[.int .i64 base, .slice av O.length cv, .slice (some ⟨nb, 0, none⟩) half half] 42))) (fun v10 _ => xs.length - (intOf v10).toNat)
  case atStart => exact ⟨0, Nat.zero_le _, rfl, S0, B0.out, T0⟩
  case round =>
    obtain ⟨i, hi, rfl, HS, HB⟩ := hrel
    have hwl := wordsTx_le O (by have := HSZ.out; omega) (xs.take i) s (fun x hx => HRX.out x (List.mem_of_mem_take hx))
    have HWL : Hid ((wordsTx O s (xs.take i)).size ≤ 1000000000 + 23 * 1048576) := by
      show _ ≤ _
      have := HSS.out
      rw [List.length_take] at hwl
      omega
    clear hwl
    by_cases hlt : i < xs.length
    · obtain ⟨bb, o, rfl, hbB, hc, r1, r2⟩ := (P0.out.on HB.out.1) i hlt
      have hxi := HX.out xs[i] (List.getElem_mem hlt)
      have htake := wordsTx_take (O := O) (s := s) hlt
      obtain ⟨x, hxx⟩ : ∃ x, x = xs[i] := ⟨_, rfl⟩
      rw [← hxx] at hc r1 r2 hxi htake
      have HTK : Hid (wordsTx O s (xs.take (i + 1)) = wordsTx O s (xs.take i) ++ wordTx O x) := htake
      have iI : (i : Int) < (xs.length : Int) := by omega
      have i0 : (0 : Int) ≤ (i : Int) := by omega
      have hwx := wordTx_le O x r1 r2 (by have := HSZ.out; omega)
      have HWX : Hid ((wordTx O x).size ≤ 23) := hwx
      have hz0 : w.heap.size < wr.heap.size := (Array.getElem?_eq_some_iff.1 HB.out.2).1
      clear hxx htake hwx
      rcases q1 : decide (x % 2 = 0) with _ | _
      · have hq1 := of_decide_eq_false q1
        have HE : Hid (wordTx O x = ⟨#[32]⟩ ++ dg (x / 2)) := wordTx_int hq1
        have hd := digitsD (x / 2) (by omega) (by omega) wr (HT.out _ HB.out.1)
        have hdl := dg_le (x / 2) (by omega) (by omega)
        go_wp2_with (first
          | (go_at_call 48; refine (isRef_b q1 _ r1 r2).mono ?_; rintro e w' ⟨rfl, hx⟩; subst w')
          | (go_at_call 51; refine (wordInt_same x _ r1 r2).mono ?_; rintro e w' ⟨rfl, hx⟩; subst w'))
        refine hd.mono ?_
        rintro e w1 ⟨rfl, hb1⟩
        have S1 : Hid (Bld b (wordsTx O s (xs.take i)) w1) := HS.out.on hb1
        have B1 : Hid (Below b w w1 ∧ w1.heap[w.heap.size]? = some (.cells #[.int .i64 base, .slice av O.length cv, .slice (some ⟨nb, 0, none⟩) half half] 42)) := ⟨HB.out.1.trans (hb1.mono (by have := HLT.out; omega)), (hb1.block _ hz0).trans HB.out.2⟩
        have hwr := writeB (t := ⟨#[32]⟩ ++ dg (x / 2)) S1.out (by have := HWL.out; have := HWX.out; rw [HE.out] at this; omega)
        clear hd hb1
        go_wp2_with fail
        refine hwr.mono ?_
        rintro e w2 ⟨rfl, hs2, hb2, hk2⟩
        have S2 : Hid (Bld b (wordsTx O s (xs.take (i + 1))) w2) := by show Bld _ _ _; rw [HTK.out, HE.out]; exact hs2
        have B2 : Hid (Below b w w2 ∧ w2.heap[w.heap.size]? = some (.cells #[.int .i64 base, .slice av O.length cv, .slice (some ⟨nb, 0, none⟩) half half] 42)) := ⟨B1.out.1.trans hb2, hk2 _ _ B1.out.2 (by have := HLT.out; omega)⟩
        clear hwr hs2 hb2 hk2
        go_wp2
        go_round
        case rel => exact ⟨i + 1, by omega, by go_num, S2, B2⟩
        case measure => simp [intOf]; omega
      · have hq1 := of_decide_eq_true q1
        have hmem := hxi hq1
        have hran := HSZ.out.2.2.2 _ hmem
        obtain ⟨j, hj⟩ : ∃ j : Nat, x / 2 = ((base + j : Nat) : Int) := ⟨(x / 2 - base).toNat, by omega⟩
        have hjh : j < half := by omega
        have hno : numO base O j = ((O.idxOf (x / 2) : Nat) : Int) := by unfold numO; rw [if_pos (by rw [← hj]; exact hmem), ← hj]
        have HE : Hid (wordTx O x = ⟨#[32, 64]⟩ ++ dg ((O.idxOf (x / 2) : Nat) : Int)) := wordTx_ref hq1 hmem
        have hil := List.idxOf_lt_length_iff.2 hmem
        have k0 : wr.cell? ⟨w.heap.size, 0, none⟩ = some (.int .i64 base) := blk_cellH (i := 0) HB.out.2 rfl
        have k1 : wr.cell? ⟨w.heap.size, 1, none⟩ = some (.slice av O.length cv) := blk_cellH (i := 1) HB.out.2 rfl
        have k2 : wr.cell? ⟨w.heap.size, 2, none⟩ = some (.slice (some ⟨nb, 0, none⟩) half half) := blk_cellH (i := 2) HB.out.2 rfl
        have hnum := number_is base (.slice av O.length cv) nb half j x (numO base O j) wr hj hjh ⟨HSZ.out.1, HSZ.out.2.1⟩ r1 r2 (HNC.out j hjh wr HB.out.1) (by have := HLT.out; have := HS.out.lt; omega)
        rw [hno] at hnum
        obtain ⟨r, hr⟩ : ∃ r : Int, r = ((O.idxOf (x / 2) : Nat) : Int) := ⟨_, rfl⟩
        rw [← hr] at hnum HE
        have hrb : -9223372036854775808 ≤ r ∧ r ≤ 9223372036854775807 := by have := HSZ.out; omega
        have hdl := dg_le r hrb.1 hrb.2
        clear hno hr hil hxi hmem hran hj
        go_wp2_with (first
          | (go_at_call 48; refine (isRef_b q1 _ r1 r2).mono ?_; rintro e w' ⟨rfl, hx⟩; subst w'))
        refine hnum.mono ?_
        rintro e w0 ⟨rfl, hb0⟩
        have S1 : Hid (Bld b (wordsTx O s (xs.take i)) w0) := HS.out.on hb0
        have B1 : Hid (Below b w w0 ∧ w0.heap[w.heap.size]? = some (.cells #[.int .i64 base, .slice av O.length cv, .slice (some ⟨nb, 0, none⟩) half half] 42)) := ⟨HB.out.1.trans (hb0.mono (by have := HLT.out; omega)), (hb0.block _ hz0).trans HB.out.2⟩
        have hz1 : w.heap.size < w0.heap.size := (Array.getElem?_eq_some_iff.1 B1.out.2).1
        have hd := digitsD r hrb.1 hrb.2 w0 (HT.out _ B1.out.1)
        clear hnum hb0 k0 k1 k2
        go_wp2_with fail
        refine hd.mono ?_
        rintro e w1 ⟨rfl, hb1⟩
        have S2 : Hid (Bld b (wordsTx O s (xs.take i)) w1) := S1.out.on hb1
        have B2 : Hid (Below b w w1 ∧ w1.heap[w.heap.size]? = some (.cells #[.int .i64 base, .slice av O.length cv, .slice (some ⟨nb, 0, none⟩) half half] 42)) := ⟨B1.out.1.trans (hb1.mono (by have := HLT.out; omega)), (hb1.block _ hz1).trans B1.out.2⟩
        have hwr := writeB (t := ⟨#[32, 64]⟩ ++ dg r) S2.out (by have := HWL.out; have := HWX.out; rw [HE.out] at this; omega)
        clear hd hb1
        go_wp2_with fail
        refine hwr.mono ?_
        rintro e w2 ⟨rfl, hs2, hb2, hk2⟩
        have S3 : Hid (Bld b (wordsTx O s (xs.take (i + 1))) w2) := by show Bld _ _ _; rw [HTK.out, HE.out]; exact hs2
        have B3 : Hid (Below b w w2 ∧ w2.heap[w.heap.size]? = some (.cells #[.int .i64 base, .slice av O.length cv, .slice (some ⟨nb, 0, none⟩) half half] 42)) := ⟨B2.out.1.trans hb2, hk2 _ _ B2.out.2 (by have := HLT.out; omega)⟩
        clear hwr hs2 hb2 hk2
        go_wp2
        go_round
        case rel => exact ⟨i + 1, by omega, by go_num, S3, B3⟩
        case measure => simp [intOf]; omega
    · obtain rfl : i = xs.length := by omega
      have hwb := writeByteB HS.out (by have := HWL.out; omega) 10
      rw [List.take_length] at hwb
      go_wp2_with fail
      refine hwb.mono ?_
      rintro e w2 ⟨rfl, hs2, hb2, hk2⟩
      have S2 : Hid (Bld b (wordsTx O s xs ++ ⟨#[10]⟩) w2 ∧ Below b w w2) := ⟨hs2, HB.out.1.trans hb2⟩
      clear hwb hs2 hb2 hk2
      go_wp2
      ((try simp only [Exit.inBlock, Exit.then]); (first | refine bodyPost_ret (results_none rfl _ _ _) rfl ?_ | refine bodyPost_end (results_none rfl _ _ _) rfl ?_))
      exact ⟨by first | rfl | trivial, S2.out.1, S2.out.2⟩

end Go.Proofs.YtibjpdchdopigaaDoor.heap

namespace Go.Proofs.YtibjpdchdopigaaDoor.heap
open Go Go.RowKit Go.Proofs.YtibjpdchdopigaaDoor.rose Go.Proofs.YtibjpdchdopigaaDoor Go.Proofs.YtibjpdchdopigaaDoor.fun
set_option linter.unusedVariables false

def headW (fn : Bool) (tag : Int) (many : Nat) : Int := 2 * (2 * (64 * tag + many) + (if fn then 1 else 0)) + 1
/-- Words are written from a place on. -/
def putW (W : List Int) (p : Nat) : List Int → List Int
  | [] => W
  | x :: xs => putW (W.set p x) (p + 1) xs
theorem putW_length (W : List Int) (p : Nat) (xs : List Int) : (putW W p xs).length = W.length := by
  induction xs generalizing W p with
  | nil => rfl
  | cons x xs ih => rw [putW, ih, List.length_set]
theorem putW_push (W : List Int) (p : Nat) (xs : List Int) (x : Int) : putW W p (xs ++ [x]) = (putW W p xs).set (p + xs.length) x := by
  induction xs generalizing W p with
  | nil => rfl
  | cons y xs ih =>
    rw [List.cons_append, putW, ih, putW, List.length_cons]
    congr 1
    omega
theorem putW_mem {W : List Int} {p : Nat} {xs : List Int} {y : Int} (h : y ∈ putW W p xs) : y ∈ W ∨ y ∈ xs := by
  induction xs generalizing W p with
  | nil => exact .inl h
  | cons x xs ih =>
    rcases ih h with q | q
    · rcases List.mem_or_eq_of_mem_set q with q | rfl
      · exact .inl q
      · exact .inr (List.mem_cons_self ..)
    · exact .inr (List.mem_cons_of_mem _ q)
/-- The heap with one more block behind all. -/
def moreF (T : HeapD) (fn : Bool) (tag : Int) (kids : List Int) : HeapD := (putW T.1 T.2.2.2.toNat (headW fn tag kids.length :: kids), T.2.1, T.2.2.1, T.2.2.2 + 1 + kids.length)
def allocF (T : HeapD) (fn : Bool) (tag : Int) (kids : List Int) : HeapD × Int × Bool :=
  if heapB T && inB tag 0 3000 && decide (kids.length ≤ 20) && decide ((kids.length : Int) < T.2.2.1 + T.2.1 - T.2.2.2) && heapB (moreF T fn tag kids) then (moreF T fn tag kids, T.2.2.2, true) else (T, 0, false)

end Go.Proofs.YtibjpdchdopigaaDoor.heap

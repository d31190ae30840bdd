/-
  The contracts of (*strings.Builder).WriteString and String at this program (the shelf's, proved once over any program, applied here); no condition of our own.
  The stack of the program's written: what it reads as, what it weighs, and how it lies in memory.
  The program's written: the steps of its stack.
-/
import Derived.Shelf.Strings.BuilderK
import Derived.Test.YtlnpfnglphdaiaaGreatDoorProg
import Derived.Lib.OthersKept
import Derived.Lib.BufferKept
import Derived.Shelf.Strings.MapGrows
import Derived.Test.YtlnpfnglphdaiaaGreatDoorB1
import Derived.Test.YtlnpfnglphdaiaaGreatDoorB2
import Derived.Test.YtlnpfnglphdaiaaGreatDoorB3
import Derived.Test.YtlnpfnglphdaiaaGreatDoorB4
import Derived.Test.YtlnpfnglphdaiaaGreatDoorB5
import Derived.Test.YtlnpfnglphdaiaaGreatDoorB6
import Derived.Test.YtlnpfnglphdaiaaGreatDoorB7
import Derived.Test.YtlnpfnglphdaiaaGreatDoorB8
import Derived.Test.YtlnpfnglphdaiaaGreatDoorB9
import Derived.Test.YtlnpfnglphdaiaaGreatDoorB10
import Derived.Test.YtlnpfnglphdaiaaGreatDoorB11
import Derived.Test.YtlnpfnglphdaiaaGreatDoorB12
import Derived.Test.YtlnpfnglphdaiaaGreatDoorB13
import Derived.Test.YtlnpfnglphdaiaaGreatDoorB14
import Derived.Test.YtlnpfnglphdaiaaGreatDoorB15
import Derived.Test.YtlnpfnglphdaiaaGreatDoorB16
import Derived.Test.YtlnpfnglphdaiaaGreatDoorB17
import Derived.Test.YtlnpfnglphdaiaaGreatDoorB18
import Derived.Test.YtlnpfnglphdaiaaGreatDoorB19
import Derived.Test.YtlnpfnglphdaiaaGreatDoorB20
import Derived.Test.YtlnpfnglphdaiaaGreatDoorB21
import Derived.Test.YtlnpfnglphdaiaaGreatDoorB22
import Derived.Test.YtlnpfnglphdaiaaGreatDoorB23
import Derived.Test.YtlnpfnglphdaiaaGreatDoorB24
import Derived.Test.YtlnpfnglphdaiaaGreatDoorB25
import Derived.Test.YtlnpfnglphdaiaaGreatDoorB26
import Derived.Test.YtlnpfnglphdaiaaGreatDoorB27
import Derived.Test.YtlnpfnglphdaiaaGreatDoorB28
import Derived.Test.YtlnpfnglphdaiaaGreatDoorB29
import Derived.Test.YtlnpfnglphdaiaaGreatDoorB30
import Derived.Test.YtlnpfnglphdaiaaGreatDoorB31
import Derived.Test.YtlnpfnglphdaiaaGreatDoorB32
import Derived.Test.YtlnpfnglphdaiaaGreatDoorB33
import Derived.Test.YtlnpfnglphdaiaaGreatDoorB34
import Derived.Test.YtlnpfnglphdaiaaGreatDoorB35
namespace Go.Proofs
open Go.Shelf
def Tryz.bldRen : Go.Shelf.Ren := ⟨fun | 169 => 30 | 166 => 28 | 240 => 49 | 276 => 73 | n => n, fun | 70 => 65 | 9 => 9 | 0 => 0 | 72 => 67 | 37 => 22 | 127 => 130 | 3 => 3 | 5 => 5 | 4 => 4 | 20 => 20 | 75 => 74 | 80 => 78 | 164 => 148 | n => n, fun | n => n⟩
theorem Tryz.bldString : Go.Proofs.Lays.n169 Tryz.prog Tryz.bldRen := {
  mixed := by kernel_rfl
  f169 := Tryz.func30.trans (congrArg some (by kernel_rfl))
  t0 := Tryz.underlying0
  a0 := Tryz.isAgg0
  z0 := Tryz.sizeOf0
  v0 := Tryz.zeroValue0
  t3 := Tryz.underlying3
  a3 := Tryz.isAgg3
  z3 := Tryz.sizeOf3
  v3 := Tryz.zeroValue3
  t9 := Tryz.underlying9
  a9 := Tryz.isAgg9
  z9 := Tryz.sizeOf9
  v9 := Tryz.zeroValue9
  t37 := Tryz.underlying22
  a37 := Tryz.isAgg22
  z37 := Tryz.sizeOf22
  v37 := Tryz.zeroValue22
  t70 := Tryz.underlying65
  a70 := Tryz.isAgg65
  z70 := Tryz.sizeOf65
  v70 := Tryz.zeroValue65
  t72 := Tryz.underlying67
  a72 := Tryz.isAgg67
  z72 := Tryz.sizeOf67
  v72 := Tryz.zeroValue67
  t127 := Tryz.underlying130
  a127 := Tryz.isAgg130
  z127 := Tryz.sizeOf130
  v127 := Tryz.zeroValue130 }
theorem Tryz.bldWrite : Go.Proofs.Lays.n166 Tryz.prog Tryz.bldRen := {
  mixed := by kernel_rfl
  f166 := Tryz.func28.trans (congrArg some (by kernel_rfl))
  f240 := Tryz.func49.trans (congrArg some (by kernel_rfl))
  f276 := Tryz.func73.trans (congrArg some (by kernel_rfl))
  t0 := Tryz.underlying0
  a0 := Tryz.isAgg0
  z0 := Tryz.sizeOf0
  v0 := Tryz.zeroValue0
  t3 := Tryz.underlying3
  a3 := Tryz.isAgg3
  z3 := Tryz.sizeOf3
  v3 := Tryz.zeroValue3
  t4 := Tryz.underlying4
  a4 := Tryz.isAgg4
  z4 := Tryz.sizeOf4
  v4 := Tryz.zeroValue4
  t9 := Tryz.underlying9
  a9 := Tryz.isAgg9
  z9 := Tryz.sizeOf9
  v9 := Tryz.zeroValue9
  t20 := Tryz.underlying20
  a20 := Tryz.isAgg20
  z20 := Tryz.sizeOf20
  v20 := Tryz.zeroValue20
  t37 := Tryz.underlying22
  a37 := Tryz.isAgg22
  z37 := Tryz.sizeOf22
  v37 := Tryz.zeroValue22
  t70 := Tryz.underlying65
  a70 := Tryz.isAgg65
  z70 := Tryz.sizeOf65
  v70 := Tryz.zeroValue65
  t72 := Tryz.underlying67
  a72 := Tryz.isAgg67
  z72 := Tryz.sizeOf67
  v72 := Tryz.zeroValue67
  t75 := Tryz.underlying74
  a75 := Tryz.isAgg74
  z75 := Tryz.sizeOf74
  v75 := Tryz.zeroValue74
  t164 := Tryz.underlying148
  a164 := Tryz.isAgg148
  z164 := Tryz.sizeOf148
  v164 := Tryz.zeroValue148 }
theorem Tryz.bldExtra : Builder.Extra Tryz.prog Tryz.bldRen := {
  sizeBuilder := by kernel_rfl
  liesBuilder := by kernel_rfl
  t5 := Tryz.underlying5
  a5 := Tryz.isAgg5
  z5 := Tryz.sizeOf5
  v5 := Tryz.zeroValue5
  infoByte := by kernel_rfl
  cellsByte := by kernel_rfl
  sizeByte := by kernel_rfl
  neB5 := by decide }
open Go.RowKit in
theorem Tryz.Builder_WriteString_k (B b : Nat) (bs : List Value) (s : ByteArray) (w : World) (h : Lib.IsBuilderF 67 5 B b bs w) (hlen : bs.length + s.size ≤ 140737488355328) (hBw : B ≤ w.heap.size) :
    Calls Tryz.prog 28 #[.pointer (some ⟨b, 0, none⟩), .string s] w fun e w' => e = .returned (.tuple #[.int .i64 s.size, .nilIface]) ∧ (Lib.BuilderAtF 67 5 B b (.pointer (some ⟨b, 0, none⟩)) (bs ++ Lib.strCells s) w' ∧ Below B w w' ∧ Lib.OthersKept 5 (some b) w w') := Any.Builder_WriteString_k Tryz.bldWrite Tryz.bldExtra B b bs s w h hlen hBw
open Go.RowKit in
theorem Tryz.Builder_String_any_k (B b : Nat) (l : List UInt8) (w : World) (h : Lib.IsBuilderF 67 5 B b (Lib.byteCells l) w) (hBw : B ≤ w.heap.size) :
    Calls Tryz.prog 30 #[.pointer (some ⟨b, 0, none⟩)] w fun e w' => e = .returned (.string ⟨l.toArray⟩) ∧ (Lib.IsBuilderF 67 5 B b (Lib.byteCells l) w' ∧ Below B w w' ∧ Lib.OthersKept 5 (some b) w w') := Any.Builder_String_any_k Tryz.bldString Tryz.bldExtra B b l w h hBw
end Go.Proofs

namespace Go.Proofs.YtlnpfnglphdaiaaGreatDoor.vt
open Go Go.RowKit Go.Deep Go.Proofs.YtlnpfnglphdaiaaGreatDoor.rose Go.Proofs.YtlnpfnglphdaiaaGreatDoor.value Go.Proofs.YtlnpfnglphdaiaaGreatDoor
set_option linter.unusedVariables false
set_option linter.unusedSimpArgs false

mutual
def mt : ValueD → Nat
  | .mk _ ks => 16 + mts ks
def mts : List ValueD → Nat
  | [] => 0
  | k :: ks => 1 + mt k + mts ks
end
def mu : Fm → Nat
  | .plain _ => 1
  | .val T => mt T
  | .con _ ks => 8 + mts ks
def msum : List Fm → Nat
  | [] => 0
  | f :: fs => mu f + msum fs
def ms : List (List Fm) → Nat
  | [] => 0
  | l :: st => 1 + msum l + ms st
def fts : List Fm → List UInt8
  | [] => []
  | f :: fs => ft f ++ fts fs
def rd : List (List Fm) → List UInt8
  | [] => []
  | l :: st => rd st ++ fts l
def okF : Fm → Prop
  | .plain _ => True
  | .val T => wt T ≤ 1048576
  | .con _ ks => ks.length + wts ks ≤ 1048576

theorem msum_append (a b : List Fm) : msum (a ++ b) = msum a + msum b := by
  induction a with
  | nil => simp [msum]
  | cons f a ih => simp [msum, ih]; omega
theorem fts_append (a b : List Fm) : fts (a ++ b) = fts a ++ fts b := by
  induction a with
  | nil => simp [fts]
  | cons f a ih => simp [fts, ih]
theorem ms_snoc (st : List (List Fm)) (l : List Fm) : ms (st ++ [l]) = ms st + 1 + msum l := by
  induction st with
  | nil => simp [ms]
  | cons f a ih => simp [ms, ih]; omega
theorem rd_snoc (st : List (List Fm)) (l : List Fm) : rd (st ++ [l]) = fts l ++ rd st := by
  induction st with
  | nil => simp [rd]
  | cons f a ih => simp [rd, ih]
theorem ms_len (st : List (List Fm)) : st.length ≤ ms st := by
  induction st with
  | nil => simp [ms]
  | cons f a ih => simp [ms]; omega

theorem join_fts (s : ByteArray) (ks : List ValueD) : fts (joinF (conF s ks)) = s.data.toList ++ (tlS ks).flatMap fun t => 32 :: t := by
  simp only [conF, joinF, fts, ft]
  congr 1
  induction ks with
  | nil => simp [fts, tlS]
  | cons k ks ih => simp [fts, tlS, ft, ih]
theorem join_msum (s : ByteArray) (ks : List ValueD) : msum (joinF (conF s ks)) = 1 + mts ks := by
  simp only [conF, joinF, msum, mu]
  congr 1
  induction ks with
  | nil => simp [msum, mts]
  | cons k ks ih => simp [msum, mts, mu, ih]; omega
theorem shape_mu (T : ValueD) : mu (shape T) + 2 ≤ mt T := by
  obtain ⟨⟨op, n, s⟩, ks⟩ := T
  simp only [shape, mt]
  split
  · simp only [mu]; omega
  · split
    · simp only [mu]; omega
    · simp only [mu]; omega
theorem parts_mu (f : Fm) (hf : fits f) : 1 + msum (partsF f) < mu f := by
  cases f with
  | plain l => exact hf.elim
  | val T =>
    have h1 := shape_mu T
    have h2 : msum (partsF (.val T)) = mu (shape T) := by simp only [partsF, msum]; rfl
    have h3 : mu (.val T) = mt T := rfl
    omega
  | con s ks =>
    simp only [partsF, insF]
    split
    · rw [join_msum]; simp only [mu]; omega
    · simp only [List.cons_append, msum, msum_append, join_msum, mu]; omega
theorem parts_fts (f : Fm) (hf : fits f) : fts (partsF f) = ft f := by
  cases f with
  | plain l => exact hf.elim
  | val T =>
    show ft (shape T) ++ [] = tl T
    rw [ft_shape, List.append_nil]
  | con s ks =>
    simp only [partsF, insF, ft]
    split
    · rename_i h
      have hk0 : ks = [] := List.eq_nil_of_length_eq_zero h
      subst hk0
      rw [join_fts]
      simp [tlS]
    · simp only [List.cons_append, fts, fts_append, join_fts, ft]
      simp
theorem ok_shape (T : ValueD) (h : wt T ≤ 1048576) : okF (shape T) := by
  obtain ⟨⟨op, n, s⟩, ks⟩ := T
  simp only [wt] at h
  simp only [shape]
  split
  · trivial
  · split
    · show _ ≤ _; omega
    · trivial
theorem ok_parts (f : Fm) (hf : fits f) (h : okF f) : ∀ g ∈ partsF f, okF g := by
  cases f with
  | plain l => exact hf.elim
  | val T =>
    intro g hg
    simp only [partsF, List.mem_cons, List.mem_nil_iff, or_false] at hg
    subst hg
    exact ok_shape T h
  | con s ks =>
    have hin : ∀ g ∈ insF (.con s ks), okF g := by
      intro g hg
      simp only [insF, conF, joinF, List.mem_cons, List.mem_flatMap, List.mem_map] at hg
      rcases hg with rfl | ⟨q, ⟨k, hk, rfl⟩, hg⟩
      · trivial
      · simp only [List.mem_nil_iff, or_false] at hg
        rcases hg with rfl | rfl
        · trivial
        · show wt k ≤ _
          have h1 : ks.length + wts ks ≤ 1048576 := h
          have := wt_mem hk
          omega
    intro g hg
    simp only [partsF] at hg
    split at hg
    · exact hin g hg
    · simp only [List.cons_append, List.mem_cons, List.mem_append, List.mem_nil_iff, or_false] at hg
      rcases hg with rfl | hg | rfl
      · trivial
      · exact hin g hg
      · trivial
theorem ok_fits (f : Fm) (h : okF f) (hp : ∀ l, f ≠ .plain l) : fits f := by
  cases f with
  | plain l => exact absurd rfl (hp l)
  | val T => exact h
  | con s ks =>
    have h1 : ks.length + wts ks ≤ 1048576 := h
    show ks.length ≤ _
    omega

theorem mt_le (T : ValueD) : mt T ≤ 16 + 18 * wt T := by
  induction T using ind with
  | h x ks ih =>
    obtain ⟨op, n, s⟩ := x
    simp only [mt, wt]
    have : mts ks ≤ 17 * ks.length + 18 * wts ks := by
      clear op n s
      induction ks with
      | nil => simp [mts]
      | cons k ks ih2 =>
        have h1 := ih k (by simp)
        have h2 := ih2 fun q hq => ih q (by simp [hq])
        simp only [mts, wts, List.length_cons]
        omega
    omega

/-! ### In memory -/

/-- One list of the stack. -/
def SlAt (w : World) (S : Nat → Prop) (v : Value) (fs : List Fm) : Prop := ∃ a cap, v = .slice a fs.length cap ∧ fs.length ≤ cap ∧ cap ≤ maxLen ∧ FsAt w S w.heap.size a fs
theorem FsAt.mono {w : World} {S : Nat → Prop} {N N' : Nat} {a : Option Addr} {fs : List Fm} (h : FsAt w S N a fs) (hn : N ≤ N') : FsAt w S N' a fs := fun i hi => by
  obtain ⟨g, o, cur, u, h1, h0, h2, h3, h4⟩ := h i hi
  exact ⟨g, o, cur, u, h1, by omega, h2, h3, h4.mono hn⟩
theorem SlAt.on {w w' : World} {S : Nat → Prop} {v : Value} {fs : List Fm} (h : SlAt w S v fs) (hb : Stays S w.heap.size w w') (hz : w.heap.size ≤ w'.heap.size) : SlAt w' S v fs := by
  obtain ⟨a, cap, h1, h2, h3, h4⟩ := h
  exact ⟨a, cap, h1, h2, h3, (h4.on hb).mono hz⟩
theorem SlAt.own {w : World} {base N : Nat} {S : Nat → Prop} {v : Value} {fs : List Fm} (h : FsOwn w base S N v fs) (hN : N ≤ w.heap.size) : SlAt w S v fs := by
  obtain ⟨a, cap, h1, h2, h3, h4⟩ := h.at hN
  exact ⟨a, cap, h1, h2, h3, h4⟩

theorem stays_kept {w w' : World} {S : Nat → Prop} {t : TypeId} {bo : Option Nat} {N B : Nat} {T : TypeId} {c0 : Array Value} {f0 : Nat × Nat} (hS : ∀ b, S b → b < B) (hb : Below B w w') (hk : Lib.OthersKept t bo w w') (ht : t ≠ 70) (hbo : ∀ b, bo = some b → w.heap[b]? = some (.cells c0 T f0)) (hT : T ≠ 70) : Stays S N w w' := by
  refine ⟨fun b hs => hb.block b (hS b hs), fun g cur hn hg => ?_⟩
  rw [hg]
  refine hk g _ hg (fun e => ?_) fun c fz e => ?_
  · have := hbo g e.symm
    rw [hg] at this
    simp only [Option.some.injEq, Obj.cells.injEq] at this
    exact hT this.2.1.symm
  · simp only [Obj.cells.injEq] at e
    exact ht e.2.1.symm

theorem builder_kept {w w' : World} {t : TypeId} {T e : TypeId} {B b : Nat} {bs : List Value} (h : Lib.IsBuilderF T e B b bs w) (hk : Lib.OthersKept t none w w') (h1 : T ≠ t) (h2 : e ≠ t) : Lib.IsBuilderF T e B b bs w' := by
  have key : ∀ p, Lib.BuilderAtF T e B b p bs w → Lib.BuilderAtF T e B b p bs w' := fun p hp => by
    obtain ⟨hB, v, hb, hown, hne⟩ := hp
    refine ⟨hB, v, hk b _ hb (by simp) (fun c fz e1 => ?_), ⟨hown.1, ?_⟩, hne⟩
    · simp only [Obj.cells.injEq] at e1
      exact h1 e1.2.1
    · rcases hown.2 with h0 | ⟨g, cap, cur, fz, r1, r2, r3, r4⟩
      · exact Or.inl h0
      · refine Or.inr ⟨g, cap, cur, fz, r1, r2, hk g _ r3 (by simp) (fun c fz e1 => ?_), r4⟩
        simp only [Obj.cells.injEq] at e1
        exact h2 e1.2.1
  exact h.elim (fun x => .inl (key _ x)) fun x => .inr (key _ x)

/-- A row of the call's own stays where other rows alone are written. -/
theorem row_kept {w w' : World} {t e : TypeId} {bo : Option Nat} {base k n : Nat} {v : Value} {xs : List Value} (h : w.ownsRow base e k v n xs) (hk : Lib.OthersKept t bo w w') (ht : t ≠ e) {T : TypeId} {c0 : Array Value} {f0 : Nat × Nat} (hbo : ∀ b, bo = some b → w.heap[b]? = some (.cells c0 T f0)) (hT : T ≠ e) : w'.ownsRow base e k v n xs := by
  refine ⟨h.1, ?_⟩
  rcases h.2 with h0 | ⟨g, cap, cur, r1, r2, r3, r4⟩
  · exact Or.inl h0
  · refine Or.inr ⟨g, cap, cur, r1, r2, hk g _ r3 (fun e1 => ?_) (fun c fz e1 => ?_), r4⟩
    · have := hbo g e1.symm
      rw [r3] at this
      simp only [Option.some.injEq, Obj.cells.injEq] at this
      exact hT this.2.1.symm
    · simp only [Obj.cells.injEq] at e1
      exact ht e1.2.1.symm

/-- A store into the last cell of a row of the call's own. -/
theorem row_last {w : World} {base : Nat} {e : TypeId} {g n cap : Nat} {xs : List Value} {x : Value} (h : w.ownsRow base e 1 (.slice (some ⟨g, 0, none⟩) (n + 1) cap) (n + 1) (xs ++ [x])) (y : Value) : (w.setCell ⟨g, n, none⟩ y).ownsRow base e 1 (.slice (some ⟨g, 0, none⟩) (n + 1) cap) (n + 1) (xs ++ [y]) := by
  have hl := h.1
  refine ⟨by simp at hl ⊢; exact hl, ?_⟩
  rcases h.2 with ⟨h0, _⟩ | ⟨g', cap', cur, r1, r2, r3, r4, r5, r6, r7⟩
  · cases h0
  · cases r1
    have hxl : xs.length = n := by simp at hl; exact hl
    refine Or.inr ⟨g, cap, cur.set! n y, rfl, r2, ?_, r4, r5, by simpa using r6, ?_⟩
    · simp [World.setCell, Array.getElem?_modify, r3]
    · have h7 : cur.toList.take (n + 1) = xs ++ [x] := by simpa using r7
      have hn : n < cur.toList.length := by simp; omega
      simp only [Nat.mul_one, Array.set!_eq_setIfInBounds, Array.toList_setIfInBounds]
      rw [List.take_set, h7, List.set_append_right _ _ (by omega), hxl]
      simp

/-- The stack. -/
def StOwn (w : World) (base : Nat) (S : Nat → Prop) (v : Value) (st : List (List Fm)) : Prop := ∃ us : List Value, us.length = st.length ∧ w.ownsRow base 44 1 v st.length us ∧ ∀ i (h : i < st.length) (h' : i < us.length), SlAt w S us[i] st[i]

end Go.Proofs.YtlnpfnglphdaiaaGreatDoor.vt

namespace Go.Proofs.YtlnpfnglphdaiaaGreatDoor.vt
open Go Go.RowKit Go.Deep Go.Proofs.YtlnpfnglphdaiaaGreatDoor.rose Go.Proofs.YtlnpfnglphdaiaaGreatDoor.value Go.Proofs.YtlnpfnglphdaiaaGreatDoor
set_option linter.unusedVariables false
set_option linter.unusedSimpArgs false

theorem least {P : Nat → Prop} (h : ∃ n, P n) : ∃ n, P n ∧ ∀ m, P m → n ≤ m := by
  obtain ⟨n, hn⟩ := h
  induction n using Nat.strongRecOn with
  | ind n ih =>
    by_cases hx : ∃ m, m < n ∧ P m
    · obtain ⟨m, hlt, hm⟩ := hx
      exact ih m hlt hm
    · exact ⟨n, hn, fun m hm => Nat.le_of_not_lt fun h => hx ⟨m, h, hm⟩⟩
noncomputable def leastOf (P : Nat → Prop) : Nat := Classical.epsilon fun n => P n ∧ ∀ m, P m → n ≤ m
theorem leastOf_spec {P : Nat → Prop} (h : ∃ n, P n) : P (leastOf P) ∧ ∀ m, P m → leastOf P ≤ m := Classical.epsilon_spec (least h)

theorem StOwn.top {w : World} {base : Nat} {S : Nat → Prop} {v : Value} {st0 : List (List Fm)} {tp : List Fm} (h : StOwn w base S v (st0 ++ [tp])) : ∃ g cap us0 ut, v = .slice (some ⟨g, 0, none⟩) (st0.length + 1) cap ∧ us0.length = st0.length ∧ w.ownsRow base 44 1 (.slice (some ⟨g, 0, none⟩) (st0.length + 1) cap) (st0.length + 1) (us0 ++ [ut]) ∧ (∀ i (h : i < st0.length) (h' : i < us0.length), SlAt w S us0[i] st0[i]) ∧ SlAt w S ut tp := by
  obtain ⟨us, hl, hrow, hs⟩ := h
  rw [List.length_append] at hl hrow
  simp only [List.length_cons, List.length_nil, Nat.zero_add] at hl hrow
  have hne : us ≠ [] := fun e => by subst e; simp at hl
  obtain ⟨us0, ut, rfl⟩ : ∃ us0 ut, us = us0 ++ [ut] := by
    rcases List.eq_nil_or_concat us with h | ⟨a, b, h⟩
    · exact absurd h hne
    · exact ⟨a, b, by rw [h, List.concat_eq_append]⟩
  have hl0 : us0.length = st0.length := by simp at hl; exact hl
  have hg : ∃ g cap, v = .slice (some ⟨g, 0, none⟩) (st0.length + 1) cap := by
    rcases hrow.2 with ⟨_, h0⟩ | ⟨g, cap, _, h0, _⟩
    · omega
    · exact ⟨g, cap, h0⟩
  obtain ⟨g, cap, rfl⟩ := hg
  refine ⟨g, cap, us0, ut, rfl, hl0, hrow, fun i hi hi' => ?_, ?_⟩
  · have := hs i (by simp; omega) (by simp; omega)
    rwa [List.getElem_append_left hi', List.getElem_append_left hi] at this
  · have := hs st0.length (by simp) (by simp; omega)
    rw [List.getElem_append_right (Nat.le_of_eq hl0), List.getElem_append_right (Nat.le_refl _)] at this
    simp only [hl0, Nat.sub_self, List.getElem_cons_zero] at this
    exact this

theorem StOwn.make {w : World} {base : Nat} {S : Nat → Prop} {v : Value} {st0 : List (List Fm)} {tp : List Fm} {us0 : List Value} {ut : Value} (hl : us0.length = st0.length) (hrow : w.ownsRow base 44 1 v (st0.length + 1) (us0 ++ [ut])) (h0 : ∀ i (h : i < st0.length) (h' : i < us0.length), SlAt w S us0[i] st0[i]) (ht : SlAt w S ut tp) : StOwn w base S v (st0 ++ [tp]) := by
  refine ⟨us0 ++ [ut], by simp [hl], by rw [List.length_append]; exact hrow, fun i hi hi' => ?_⟩
  by_cases e : i < st0.length
  · have e' : i < us0.length := by omega
    rw [List.getElem_append_left e', List.getElem_append_left e]
    exact h0 i e e'
  · have : i = st0.length := by simp at hi; omega
    subst this
    rw [List.getElem_append_right (Nat.le_of_eq hl), List.getElem_append_right (Nat.le_refl _)]
    simp only [hl, Nat.sub_self, List.getElem_cons_zero]
    exact ht

theorem StOwn.pop {w : World} {base : Nat} {S : Nat → Prop} {st0 : List (List Fm)} {g cap : Nat} {us0 : List Value} {ut : Value} (hl : us0.length = st0.length) (hrow : w.ownsRow base 44 1 (.slice (some ⟨g, 0, none⟩) (st0.length + 1) cap) (st0.length + 1) (us0 ++ [ut])) (h0 : ∀ i (h : i < st0.length) (h' : i < us0.length), SlAt w S us0[i] st0[i]) : StOwn w base S (.slice (some ⟨g, 0, none⟩) st0.length cap) st0 := by
  refine ⟨us0, hl, ⟨by omega, ?_⟩, h0⟩
  rcases hrow.2 with ⟨h, _⟩ | ⟨g', cap', cur, r1, r2, r3, r4, r5, r6, r7⟩
  · cases h
  · cases r1
    refine Or.inr ⟨g, cap, cur, rfl, r2, r3, by omega, r5, r6, ?_⟩
    have h7 := congrArg (List.take st0.length) r7
    rw [List.take_take, List.take_left' hl] at h7
    rw [← h7]
    congr 1
    omega

theorem StOwn.stays {w w' : World} {base : Nat} {S : Nat → Prop} {v : Value} {st : List (List Fm)} (h : StOwn w base S v st) (hb : Stays S w.heap.size w w') (hz : w.heap.size ≤ w'.heap.size) (hrow : ∀ n us, w.ownsRow base 44 1 v n us → w'.ownsRow base 44 1 v n us) : StOwn w' base S v st := by
  obtain ⟨us, h1, h2, h3⟩ := h
  exact ⟨us, h1, hrow _ _ h2, fun i hi hi' => (h3 i hi hi').on hb hz⟩

def Inv (w : World) (S : Nat → Prop) (q : List UInt8) (M n : Nat) (v : Value) (wr : World) : Prop := ∃ st out, ms st = n ∧ n ≤ M ∧ StOwn wr w.heap.size S v st ∧ Lib.IsBuilderF 67 5 w.heap.size w.heap.size (Lib.byteCells out) wr ∧ out ++ rd st = q ∧ (∀ l ∈ st, ∀ f ∈ l, okF f) ∧ Below w.heap.size w wr ∧ w.heap.size < wr.heap.size

theorem ta_no' {P : Program} {t s x : TypeId} {v z : Value} (w : World) (hd : P.underlying s = some .string) (hz : ∀ w, (zeroValue s).run P w = .ok z w) (hne : t ≠ s) : (Instr.typeAssert (.iface t v) x s true).run P w = .ok (.tuple #[z, .bool false]) w := by
  simp [Instr.typeAssert, run_underlying hd, hne, hz]
theorem ta_yes' {P : Program} {t x : TypeId} {v : Value} (w : World) (hd : P.underlying t = some .string) : (Instr.typeAssert (.iface t v) x t true).run P w = .ok (.tuple #[v, .bool true]) w := by
  simp [Instr.typeAssert, run_underlying hd]

theorem row_facts {w : World} {base : Nat} {e : TypeId} {g n cap : Nat} {xs : List Value} (h : w.ownsRow base e 1 (.slice (some ⟨g, 0, none⟩) n cap) n xs) : base ≤ g ∧ n ≤ cap ∧ cap ≤ maxLen ∧ g < w.heap.size ∧ (∀ i, w.frozen? ⟨g, i, none⟩ = false) ∧ ∃ cur, w.heap[g]? = some (.cells cur e (0, 0)) := by
  rcases h.2 with ⟨h0, _⟩ | ⟨g', cap', cur, r1, r2, r3, r4, r5, r6, r7⟩
  · cases h0
  · cases r1
    exact ⟨r2, r4, r5, (Array.getElem?_eq_some_iff.1 r3).1, fun i => by simp [World.frozen?, r3], cur, r3⟩

theorem round_end {w : World} {S : Nat → Prop} {q : List UInt8} {M n n' : Nat} {v v' : Value} {wr wr' : World} (hN : leastOf (fun n => Inv w S q M n v wr) = n) (h : Inv w S q M n' v' wr') (hlt : n' < n) : Hid (∃ n, Inv w S q M n v' wr') ∧ leastOf (fun n => Inv w S q M n v' wr') < leastOf (fun n => Inv w S q M n v wr) := by
  refine ⟨⟨n', h⟩, ?_⟩
  have := (leastOf_spec (P := fun n => Inv w S q M n v' wr') ⟨n', h⟩).2 n' h
  omega

/-- The top's first form taken off. -/
theorem popped {w wr : World} {S : Nat → Prop} {st0 : List (List Fm)} {tp : List Fm} {g cp : Nat} {us0 : List Value} {ut nv : Value} {bs : List Value} (hS : ∀ b, S b → b < w.heap.size) (hul : us0.length = st0.length) (hrow : wr.ownsRow w.heap.size 44 1 (.slice (some ⟨g, 0, none⟩) (st0.length + 1) cp) (st0.length + 1) (us0 ++ [ut])) (hs0 : ∀ i (h : i < st0.length) (h' : i < us0.length), SlAt wr S us0[i] st0[i]) (hnv : SlAt wr S nv tp) (hB : Lib.IsBuilderF 67 5 w.heap.size w.heap.size bs wr) (hBel : Below w.heap.size w wr) :
    StOwn (wr.setCell ⟨g, st0.length, none⟩ nv) w.heap.size S (.slice (some ⟨g, 0, none⟩) (st0.length + 1) cp) (st0 ++ [tp]) ∧ Lib.IsBuilderF 67 5 w.heap.size w.heap.size bs (wr.setCell ⟨g, st0.length, none⟩ nv) ∧ Below w.heap.size w (wr.setCell ⟨g, st0.length, none⟩ nv) ∧ (wr.setCell ⟨g, st0.length, none⟩ nv).heap.size = wr.heap.size ∧ Stays S wr.heap.size wr (wr.setCell ⟨g, st0.length, none⟩ nv) := by
  obtain ⟨hgb, hncp, hcpm, hgz, hfr0, curL, hcurL⟩ := row_facts hrow
  have hsz : (wr.setCell ⟨g, st0.length, none⟩ nv).heap.size = wr.heap.size := by simp [World.setCell]
  have hbel : Below w.heap.size wr (wr.setCell ⟨g, st0.length, none⟩ nv) := (Below.refl _ _).setCell hgb _
  have hk : Lib.OthersKept 44 none wr (wr.setCell ⟨g, st0.length, none⟩ nv) := (Lib.OthersKept.refl _ _ _).setRowCell hcurL _ _
  have hst : Stays S wr.heap.size wr (wr.setCell ⟨g, st0.length, none⟩ nv) := stays_kept (T := 0) (c0 := #[]) (f0 := (0, 0)) hS hbel hk (by decide) (fun b h => by cases h) (by decide)
  refine ⟨StOwn.make hul (row_last hrow nv) (fun i hi hi' => (hs0 i hi hi').on hst (Nat.le_of_eq hsz.symm)) (hnv.on hst (Nat.le_of_eq hsz.symm)), builder_kept hB hk (by decide) (by decide), hBel.trans hbel, hsz, hst⟩

/-- A text written. -/
theorem wrote {w wr1 w5 : World} {S : Nat → Prop} {q out l : List UInt8} {M n : Nat} {v : Value} {st0 : List (List Fm)} {tp : List Fm} (hS : ∀ b, S b → b < w.heap.size) (hSt : StOwn wr1 w.heap.size S v (st0 ++ [tp])) (hB : Lib.IsBuilderF 67 5 w.heap.size w.heap.size (Lib.byteCells out) wr1) (hBel : Below w.heap.size w wr1) (hlt : w.heap.size < wr1.heap.size)
    (hB5 : Lib.BuilderAtF 67 5 w.heap.size w.heap.size (.pointer (some ⟨w.heap.size, 0, none⟩)) (Lib.byteCells out ++ Lib.strCells (str l)) w5) (hL5 : Below w.heap.size wr1 w5) (hK5 : Lib.OthersKept 5 (some w.heap.size) wr1 w5)
    (hrd : out ++ (fts (.plain l :: tp) ++ rd st0) = q) (hok : ∀ k ∈ st0 ++ [.plain l :: tp], ∀ f ∈ k, okF f) (hms : ms st0 + 1 + msum (.plain l :: tp) = n) (hn : n ≤ M) : Inv w S q M (n - 1) v w5 := by
  have hbb : ∃ c0, wr1.heap[w.heap.size]? = some (.cells c0 67 (0, 0)) := by
    rcases hB with ⟨_, v, h, _⟩ | ⟨_, v, h, _⟩
    · exact ⟨_, h⟩
    · exact ⟨_, h⟩
  obtain ⟨c0, hbb⟩ := hbb
  have hz : wr1.heap.size ≤ w5.heap.size := hL5.size
  have hst : Stays S wr1.heap.size wr1 w5 := stays_kept hS hL5 hK5 (by decide) (fun b h => by cases h; exact hbb) (by decide)
  refine ⟨st0 ++ [tp], out ++ l, ?_, by omega, hSt.stays hst hz fun n us hr => row_kept hr hK5 (by decide) (fun b h => by cases h; exact hbb) (by decide), Or.inr ?_, ?_, ?_, hBel.trans hL5, by omega⟩
  · rw [ms_snoc]
    simp only [msum, mu] at hms
    omega
  · rw [Lib.byteCells_append]
    rw [Lib.strCells_eq] at hB5
    have : (str l).data.toList = l := by simp [str]
    rwa [this] at hB5
  · rw [rd_snoc, ← hrd]
    simp [fts, ft]
  · intro k hk f hf
    rcases List.mem_append.1 hk with h | h
    · exact hok k (by simp [h]) f hf
    · simp only [List.mem_cons, List.mem_nil_iff, or_false] at h
      subst h
      exact hok (.plain l :: k) (by simp) f (by simp [hf])

/-- A form's parts laid on the stack. -/
theorem pushed {w wr1 w2 w3 : World} {S : Nat → Prop} {q out : List UInt8} {M n g cp : Nat} {v2 v3 nv : Value} {f : Fm} {st0 : List (List Fm)} {tp : List Fm} {us0 : List Value} (hS : ∀ b, S b → b < w.heap.size) (hf : fits f) (hl : us0.length = st0.length)
    (hrow1 : wr1.ownsRow w.heap.size 44 1 (.slice (some ⟨g, 0, none⟩) (st0.length + 1) cp) (st0.length + 1) (us0 ++ [nv])) (hs1 : ∀ i (h : i < st0.length) (h' : i < us0.length), SlAt wr1 S us0[i] st0[i]) (hnv : SlAt wr1 S nv tp)
    (hB : Lib.IsBuilderF 67 5 w.heap.size w.heap.size (Lib.byteCells out) wr1) (hBel : Below w.heap.size w wr1) (hlt : w.heap.size < wr1.heap.size)
    (h2 : SlAt w2 S v2 (partsF f)) (hb2 : Below wr1.heap.size wr1 w2)
    (hrow3 : w3.ownsRow w.heap.size 44 1 v3 (st0.length + 1 + 1) (us0 ++ [nv] ++ [v2])) (hg3 : (w2.alloc (.cells #[v2] 44)).grownBy w3 (some g))
    (hrd : out ++ (fts (f :: tp) ++ rd st0) = q) (hok : ∀ k ∈ st0 ++ [f :: tp], ∀ f ∈ k, okF f) (hms : ms st0 + 1 + msum (f :: tp) = n) (hn : n ≤ M) : ∃ n', n' < n ∧ Inv w S q M n' v3 w3 := by
  obtain ⟨hgb, hncp, hcpm, hgz, hfr0, curL, hcurL⟩ := row_facts hrow1
  have hb2' : Below wr1.heap.size wr1 (w2.alloc (.cells #[v2] 44)) := hb2.alloc hb2.size _
  have hcur2 : (w2.alloc (.cells #[v2] 44)).heap[g]? = some (.cells curL 44 (0, 0)) := (hb2'.block g hgz).trans hcurL
  have hk3 : Lib.OthersKept 44 none (w2.alloc (.cells #[v2] 44)) w3 := (Lib.OthersKept.refl _ _ _).grown hg3 (fun g' e => by cases e; exact ⟨_, _, hcur2⟩)
  have hsz2 : (w2.alloc (.cells #[v2] 44)).heap.size = w2.heap.size + 1 := by simp
  have hz12 := hb2.size
  have hBel3 : Below w.heap.size (w2.alloc (.cells #[v2] 44)) w3 := (Below.refl _ _).grown hg3 (by omega) (fun g' e => by cases e; exact hgb)
  have hz3 := hg3.size
  have st1 : Stays S wr1.heap.size wr1 (w2.alloc (.cells #[v2] 44)) := Stays.of (fun b hb => Nat.lt_trans (hS b hb) hlt) (Nat.le_refl _) hb2'
  have st2 : ∀ N, Stays S N (w2.alloc (.cells #[v2] 44)) w3 := fun N => stays_kept (T := 0) (c0 := #[]) (f0 := (0, 0)) hS hBel3 hk3 (by decide) (fun b h => by cases h) (by decide)
  have st0' : Stays S w2.heap.size w2 (w2.alloc (.cells #[v2] 44)) := Stays.of (fun b hb => by have := hS b hb; omega) (Nat.le_refl _) ((Below.refl _ _).alloc (Nat.le_refl _) _)
  have up : ∀ {v fs}, SlAt wr1 S v fs → SlAt w3 S v fs := fun h => (h.on st1 (by omega)).on (st2 _) hz3
  have hmu := parts_mu f hf
  have hms2 : ms (st0 ++ [tp] ++ [partsF f]) = ms st0 + 1 + msum tp + 1 + msum (partsF f) := by rw [ms_snoc, ms_snoc]
  simp only [msum] at hms
  refine ⟨ms (st0 ++ [tp] ++ [partsF f]), by omega, st0 ++ [tp] ++ [partsF f], out, rfl, by omega, ?_, ?_, ?_, ?_, (hBel.trans (hb2'.mono (Nat.le_of_lt hlt))).trans hBel3, by omega⟩
  · refine StOwn.make (st0 := st0 ++ [tp]) (us0 := us0 ++ [nv]) (by simp [hl]) (by rw [List.length_append]; exact hrow3) (fun i hi hi' => ?_) ((h2.on st0' (by omega)).on (st2 _) hz3)
    by_cases e : i < st0.length
    · have e' : i < us0.length := by omega
      rw [List.getElem_append_left e', List.getElem_append_left e]
      exact up (hs1 i e e')
    · have : i = st0.length := by simp at hi; omega
      subst this
      rw [List.getElem_append_right (Nat.le_of_eq hl), List.getElem_append_right (Nat.le_refl _)]
      simp only [hl, Nat.sub_self, List.getElem_cons_zero]
      exact up hnv
  · exact builder_kept (hB.below hb2') hk3 (by decide) (by decide)
  · rw [rd_snoc, rd_snoc, parts_fts f hf, ← hrd]
    simp [fts]
  · intro k hk f' hf'
    rcases List.mem_append.1 hk with h | h
    · rcases List.mem_append.1 h with h | h
      · exact hok k (by simp [h]) f' hf'
      · simp only [List.mem_cons, List.mem_nil_iff, or_false] at h
        subst h
        exact hok (f :: k) (by simp) f' (by simp [hf'])
    · simp only [List.mem_cons, List.mem_nil_iff, or_false] at h
      subst h
      exact ok_parts f hf (hok (f :: tp) (by simp) f (by simp)) f' hf'

end Go.Proofs.YtlnpfnglphdaiaaGreatDoor.vt

/-
  The stack of the program's written: what it reads as, what it weighs, and how it lies in memory.
-/
import Derived.Test.YtpdmdcoaaboikaaGreatDoorValForms5
import Derived.Test.YtpdmdcoaaboikaaGreatDoorBuilderShelf
import Derived.Lib.OthersKept
import Derived.Lib.BufferKept
import Derived.Shelf.Strings.MapGrows
namespace Go.Proofs.YtpdmdcoaaboikaaGreatDoor.vt
open Go Go.RowKit Go.Deep Go.Proofs.YtpdmdcoaaboikaaGreatDoor.rose Go.Proofs.YtpdmdcoaaboikaaGreatDoor.value Go.Proofs.YtpdmdcoaaboikaaGreatDoor
set_option linter.unusedVariables false
set_option linter.unusedSimpArgs false

mutual
def mt : ValueD → Nat
  | .mk _ ks => 16 + mts ks
def mts : List ValueD → Nat
  | [] => 0
  | k :: ks => 1 + mt k + mts ks
end
def mu : Fm → Nat
  | .plain _ => 1
  | .val T => mt T
  | .con _ ks => 8 + mts ks
def msum : List Fm → Nat
  | [] => 0
  | f :: fs => mu f + msum fs
def ms : List (List Fm) → Nat
  | [] => 0
  | l :: st => 1 + msum l + ms st
def fts : List Fm → List UInt8
  | [] => []
  | f :: fs => ft f ++ fts fs
def rd : List (List Fm) → List UInt8
  | [] => []
  | l :: st => rd st ++ fts l
def okF : Fm → Prop
  | .plain _ => True
  | .val T => wt T ≤ 1048576
  | .con _ ks => ks.length + wts ks ≤ 1048576

theorem msum_append (a b : List Fm) : msum (a ++ b) = msum a + msum b := by
  induction a with
  | nil => simp [msum]
  | cons f a ih => simp [msum, ih]; omega
theorem fts_append (a b : List Fm) : fts (a ++ b) = fts a ++ fts b := by
  induction a with
  | nil => simp [fts]
  | cons f a ih => simp [fts, ih]
theorem ms_snoc (st : List (List Fm)) (l : List Fm) : ms (st ++ [l]) = ms st + 1 + msum l := by
  induction st with
  | nil => simp [ms]
  | cons f a ih => simp [ms, ih]; omega
theorem rd_snoc (st : List (List Fm)) (l : List Fm) : rd (st ++ [l]) = fts l ++ rd st := by
  induction st with
  | nil => simp [rd]
  | cons f a ih => simp [rd, ih]
theorem ms_len (st : List (List Fm)) : st.length ≤ ms st := by
  induction st with
  | nil => simp [ms]
  | cons f a ih => simp [ms]; omega

theorem join_fts (s : ByteArray) (ks : List ValueD) : fts (joinF (conF s ks)) = s.data.toList ++ (tlS ks).flatMap fun t => 32 :: t := by
  simp only [conF, joinF, fts, ft]
  congr 1
  induction ks with
  | nil => simp [fts, tlS]
  | cons k ks ih => simp [fts, tlS, ft, ih]
theorem join_msum (s : ByteArray) (ks : List ValueD) : msum (joinF (conF s ks)) = 1 + mts ks := by
  simp only [conF, joinF, msum, mu]
  congr 1
  induction ks with
  | nil => simp [msum, mts]
  | cons k ks ih => simp [msum, mts, mu, ih]; omega
theorem shape_mu (T : ValueD) : mu (shape T) + 2 ≤ mt T := by
  obtain ⟨⟨op, n, s⟩, ks⟩ := T
  simp only [shape, mt]
  split
  · simp only [mu]; omega
  · split
    · simp only [mu]; omega
    · simp only [mu]; omega
theorem parts_mu (f : Fm) (hf : fits f) : 1 + msum (partsF f) < mu f := by
  cases f with
  | plain l => exact hf.elim
  | val T =>
    have h1 := shape_mu T
    have h2 : msum (partsF (.val T)) = mu (shape T) := by simp only [partsF, msum]; rfl
    have h3 : mu (.val T) = mt T := rfl
    omega
  | con s ks =>
    simp only [partsF, insF]
    split
    · rw [join_msum]; simp only [mu]; omega
    · simp only [List.cons_append, msum, msum_append, join_msum, mu]; omega
theorem parts_fts (f : Fm) (hf : fits f) : fts (partsF f) = ft f := by
  cases f with
  | plain l => exact hf.elim
  | val T =>
    show ft (shape T) ++ [] = tl T
    rw [ft_shape, List.append_nil]
  | con s ks =>
    simp only [partsF, insF, ft]
    split
    · rename_i h
      have hk0 : ks = [] := List.eq_nil_of_length_eq_zero h
      subst hk0
      rw [join_fts]
      simp [tlS]
    · simp only [List.cons_append, fts, fts_append, join_fts, ft]
      simp
theorem ok_shape (T : ValueD) (h : wt T ≤ 1048576) : okF (shape T) := by
  obtain ⟨⟨op, n, s⟩, ks⟩ := T
  simp only [wt] at h
  simp only [shape]
  split
  · trivial
  · split
    · show _ ≤ _; omega
    · trivial
theorem ok_parts (f : Fm) (hf : fits f) (h : okF f) : ∀ g ∈ partsF f, okF g := by
  cases f with
  | plain l => exact hf.elim
  | val T =>
    intro g hg
    simp only [partsF, List.mem_cons, List.mem_nil_iff, or_false] at hg
    subst hg
    exact ok_shape T h
  | con s ks =>
    have hin : ∀ g ∈ insF (.con s ks), okF g := by
      intro g hg
      simp only [insF, conF, joinF, List.mem_cons, List.mem_flatMap, List.mem_map] at hg
      rcases hg with rfl | ⟨q, ⟨k, hk, rfl⟩, hg⟩
      · trivial
      · simp only [List.mem_nil_iff, or_false] at hg
        rcases hg with rfl | rfl
        · trivial
        · show wt k ≤ _
          have h1 : ks.length + wts ks ≤ 1048576 := h
          have := wt_mem hk
          omega
    intro g hg
    simp only [partsF] at hg
    split at hg
    · exact hin g hg
    · simp only [List.cons_append, List.mem_cons, List.mem_append, List.mem_nil_iff, or_false] at hg
      rcases hg with rfl | hg | rfl
      · trivial
      · exact hin g hg
      · trivial
theorem ok_fits (f : Fm) (h : okF f) (hp : ∀ l, f ≠ .plain l) : fits f := by
  cases f with
  | plain l => exact absurd rfl (hp l)
  | val T => exact h
  | con s ks =>
    have h1 : ks.length + wts ks ≤ 1048576 := h
    show ks.length ≤ _
    omega

theorem mt_le (T : ValueD) : mt T ≤ 16 + 18 * wt T := by
  induction T using ind with
  | h x ks ih =>
    obtain ⟨op, n, s⟩ := x
    simp only [mt, wt]
    have : mts ks ≤ 17 * ks.length + 18 * wts ks := by
      clear op n s
      induction ks with
      | nil => simp [mts]
      | cons k ks ih2 =>
        have h1 := ih k (by simp)
        have h2 := ih2 fun q hq => ih q (by simp [hq])
        simp only [mts, wts, List.length_cons]
        omega
    omega

/-! ### In memory -/

/-- One list of the stack. -/
def SlAt (w : World) (S : Nat → Prop) (v : Value) (fs : List Fm) : Prop := ∃ a cap, v = .slice a fs.length cap ∧ fs.length ≤ cap ∧ cap ≤ maxLen ∧ FsAt w S w.heap.size a fs
theorem FsAt.mono {w : World} {S : Nat → Prop} {N N' : Nat} {a : Option Addr} {fs : List Fm} (h : FsAt w S N a fs) (hn : N ≤ N') : FsAt w S N' a fs := fun i hi => by
  obtain ⟨g, o, cur, u, h1, h0, h2, h3, h4⟩ := h i hi
  exact ⟨g, o, cur, u, h1, by omega, h2, h3, h4.mono hn⟩
theorem SlAt.on {w w' : World} {S : Nat → Prop} {v : Value} {fs : List Fm} (h : SlAt w S v fs) (hb : Stays S w.heap.size w w') (hz : w.heap.size ≤ w'.heap.size) : SlAt w' S v fs := by
  obtain ⟨a, cap, h1, h2, h3, h4⟩ := h
  exact ⟨a, cap, h1, h2, h3, (h4.on hb).mono hz⟩
theorem SlAt.own {w : World} {base N : Nat} {S : Nat → Prop} {v : Value} {fs : List Fm} (h : FsOwn w base S N v fs) (hN : N ≤ w.heap.size) : SlAt w S v fs := by
  obtain ⟨a, cap, h1, h2, h3, h4⟩ := h.at hN
  exact ⟨a, cap, h1, h2, h3, h4⟩

theorem stays_kept {w w' : World} {S : Nat → Prop} {t : TypeId} {bo : Option Nat} {N B : Nat} {T : TypeId} {c0 : Array Value} {f0 : Nat × Nat} (hS : ∀ b, S b → b < B) (hb : Below B w w') (hk : Lib.OthersKept t bo w w') (ht : t ≠ 70) (hbo : ∀ b, bo = some b → w.heap[b]? = some (.cells c0 T f0)) (hT : T ≠ 70) : Stays S N w w' := by
  refine ⟨fun b hs => hb.block b (hS b hs), fun g cur hn hg => ?_⟩
  rw [hg]
  refine hk g _ hg (fun e => ?_) fun c fz e => ?_
  · have := hbo g e.symm
    rw [hg] at this
    simp only [Option.some.injEq, Obj.cells.injEq] at this
    exact hT this.2.1.symm
  · simp only [Obj.cells.injEq] at e
    exact ht e.2.1.symm

theorem builder_kept {w w' : World} {t : TypeId} {T e : TypeId} {B b : Nat} {bs : List Value} (h : Lib.IsBuilderF T e B b bs w) (hk : Lib.OthersKept t none w w') (h1 : T ≠ t) (h2 : e ≠ t) : Lib.IsBuilderF T e B b bs w' := by
  have key : ∀ p, Lib.BuilderAtF T e B b p bs w → Lib.BuilderAtF T e B b p bs w' := fun p hp => by
    obtain ⟨hB, v, hb, hown, hne⟩ := hp
    refine ⟨hB, v, hk b _ hb (by simp) (fun c fz e1 => ?_), ⟨hown.1, ?_⟩, hne⟩
    · simp only [Obj.cells.injEq] at e1
      exact h1 e1.2.1
    · rcases hown.2 with h0 | ⟨g, cap, cur, fz, r1, r2, r3, r4⟩
      · exact Or.inl h0
      · refine Or.inr ⟨g, cap, cur, fz, r1, r2, hk g _ r3 (by simp) (fun c fz e1 => ?_), r4⟩
        simp only [Obj.cells.injEq] at e1
        exact h2 e1.2.1
  exact h.elim (fun x => .inl (key _ x)) fun x => .inr (key _ x)

/-- A row of the call's own stays where other rows alone are written. -/
theorem row_kept {w w' : World} {t e : TypeId} {bo : Option Nat} {base k n : Nat} {v : Value} {xs : List Value} (h : w.ownsRow base e k v n xs) (hk : Lib.OthersKept t bo w w') (ht : t ≠ e) {T : TypeId} {c0 : Array Value} {f0 : Nat × Nat} (hbo : ∀ b, bo = some b → w.heap[b]? = some (.cells c0 T f0)) (hT : T ≠ e) : w'.ownsRow base e k v n xs := by
  refine ⟨h.1, ?_⟩
  rcases h.2 with h0 | ⟨g, cap, cur, r1, r2, r3, r4⟩
  · exact Or.inl h0
  · refine Or.inr ⟨g, cap, cur, r1, r2, hk g _ r3 (fun e1 => ?_) (fun c fz e1 => ?_), r4⟩
    · have := hbo g e1.symm
      rw [r3] at this
      simp only [Option.some.injEq, Obj.cells.injEq] at this
      exact hT this.2.1.symm
    · simp only [Obj.cells.injEq] at e1
      exact ht e1.2.1.symm

/-- A store into the last cell of a row of the call's own. -/
theorem row_last {w : World} {base : Nat} {e : TypeId} {g n cap : Nat} {xs : List Value} {x : Value} (h : w.ownsRow base e 1 (.slice (some ⟨g, 0, none⟩) (n + 1) cap) (n + 1) (xs ++ [x])) (y : Value) : (w.setCell ⟨g, n, none⟩ y).ownsRow base e 1 (.slice (some ⟨g, 0, none⟩) (n + 1) cap) (n + 1) (xs ++ [y]) := by
  have hl := h.1
  refine ⟨by simp at hl ⊢; exact hl, ?_⟩
  rcases h.2 with ⟨h0, _⟩ | ⟨g', cap', cur, r1, r2, r3, r4, r5, r6, r7⟩
  · cases h0
  · cases r1
    have hxl : xs.length = n := by simp at hl; exact hl
    refine Or.inr ⟨g, cap, cur.set! n y, rfl, r2, ?_, r4, r5, by simpa using r6, ?_⟩
    · simp [World.setCell, Array.getElem?_modify, r3]
    · have h7 : cur.toList.take (n + 1) = xs ++ [x] := by simpa using r7
      have hn : n < cur.toList.length := by simp; omega
      simp only [Nat.mul_one, Array.set!_eq_setIfInBounds, Array.toList_setIfInBounds]
      rw [List.take_set, h7, List.set_append_right _ _ (by omega), hxl]
      simp

/-- The stack. -/
def StOwn (w : World) (base : Nat) (S : Nat → Prop) (v : Value) (st : List (List Fm)) : Prop := ∃ us : List Value, us.length = st.length ∧ w.ownsRow base 44 1 v st.length us ∧ ∀ i (h : i < st.length) (h' : i < us.length), SlAt w S us[i] st[i]

end Go.Proofs.YtpdmdcoaaboikaaGreatDoor.vt

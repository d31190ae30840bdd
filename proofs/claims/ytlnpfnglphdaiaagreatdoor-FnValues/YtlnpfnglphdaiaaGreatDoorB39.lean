/-
  A range over a function whose iterator keeps memory of its own: the caller's word between two rounds is of what lay when the loop began alone; a round's body writes into nothing but the caller's own boxes, which lie from n₀ on and below where the loop began.
  The program's iterator over the cons of a list of datas: what it hands over, in which order.
  The program's consOf: it hands over its iterator, with its argument in a new box; and what lies where behind some new boxes.
  Maps whose keys are texts and whose elements are numbers: what a look-up finds where it is known. No function of the program.
-/
import Derived.RangeFuncNested
import Derived.RangeFuncBound
import Derived.RangeFuncCalls
import Derived.RangeFuncLeaves
import Derived.Below
import Derived.Shelf.Abstract
import Derived.Shelf.RegionOpen
import Derived.WalkKit
import Derived.OwnWalkIn
import Derived.TacticsInMore
import Derived.LoopNIn
import Derived.LoopIn
import Derived.Sort.LoopGhostIn
import Derived.BigRegionIn
import Derived.Deep.QuietTactic
import Derived.BigQuiet
import Derived.WalkSmall
import Derived.Laws.Strings
import Derived.Maps.OwnIn
import Derived.Maps.RangeWalk
import Derived.Test.YtlnpfnglphdaiaaGreatDoorB1
import Derived.Test.YtlnpfnglphdaiaaGreatDoorB2
import Derived.Test.YtlnpfnglphdaiaaGreatDoorB3
import Derived.Test.YtlnpfnglphdaiaaGreatDoorB4
import Derived.Test.YtlnpfnglphdaiaaGreatDoorB5
import Derived.Test.YtlnpfnglphdaiaaGreatDoorB6
import Derived.Test.YtlnpfnglphdaiaaGreatDoorB7
import Derived.Test.YtlnpfnglphdaiaaGreatDoorB8
import Derived.Test.YtlnpfnglphdaiaaGreatDoorB9
import Derived.Test.YtlnpfnglphdaiaaGreatDoorB10
import Derived.Test.YtlnpfnglphdaiaaGreatDoorB11
import Derived.Test.YtlnpfnglphdaiaaGreatDoorB12
import Derived.Test.YtlnpfnglphdaiaaGreatDoorB13
import Derived.Test.YtlnpfnglphdaiaaGreatDoorB14
import Derived.Test.YtlnpfnglphdaiaaGreatDoorB15
import Derived.Test.YtlnpfnglphdaiaaGreatDoorB16
import Derived.Test.YtlnpfnglphdaiaaGreatDoorB17
import Derived.Test.YtlnpfnglphdaiaaGreatDoorB18
import Derived.Test.YtlnpfnglphdaiaaGreatDoorB19
import Derived.Test.YtlnpfnglphdaiaaGreatDoorB20
import Derived.Test.YtlnpfnglphdaiaaGreatDoorB21
import Derived.Test.YtlnpfnglphdaiaaGreatDoorB22
import Derived.Test.YtlnpfnglphdaiaaGreatDoorB23
import Derived.Test.YtlnpfnglphdaiaaGreatDoorB24
import Derived.Test.YtlnpfnglphdaiaaGreatDoorB25
import Derived.Test.YtlnpfnglphdaiaaGreatDoorB26
import Derived.Test.YtlnpfnglphdaiaaGreatDoorB27
import Derived.Test.YtlnpfnglphdaiaaGreatDoorB28
import Derived.Test.YtlnpfnglphdaiaaGreatDoorB29
import Derived.Test.YtlnpfnglphdaiaaGreatDoorB30
import Derived.Test.YtlnpfnglphdaiaaGreatDoorB31
import Derived.Test.YtlnpfnglphdaiaaGreatDoorB32
import Derived.Test.YtlnpfnglphdaiaaGreatDoorB33
import Derived.Test.YtlnpfnglphdaiaaGreatDoorB34
import Derived.Test.YtlnpfnglphdaiaaGreatDoorB35
import Derived.Test.YtlnpfnglphdaiaaGreatDoorB36
import Derived.Test.YtlnpfnglphdaiaaGreatDoorB37
import Derived.Test.YtlnpfnglphdaiaaGreatDoorB38
namespace Go.Proofs.YtlnpfnglphdaiaaGreatDoor.rangeb
open Go Go.RowKit
set_option linter.unusedVariables false

/-- A word that is of the blocks below B alone. -/
def Of {β : Type} (B : Nat) (J : β → World → Prop) : Prop := ∀ s W W', J s W → Below B W W' → J s W'

/-- All but the blocks from n₀ on and below B stays. -/
structure Kept (n₀ B : Nat) (W W' : World) : Prop where
  size : W.heap.size ≤ W'.heap.size
  low : ∀ k, k < n₀ → W'.heap[k]? = W.heap[k]?
  high : ∀ k, B ≤ k → k < W.heap.size → W'.heap[k]? = W.heap[k]?

theorem Kept.refl (n₀ B : Nat) (W : World) : Kept n₀ B W W := ⟨Nat.le_refl _, fun _ _ => rfl, fun _ _ _ => rfl⟩
theorem Kept.trans {n₀ B : Nat} {W1 W2 W3 : World} (h : Kept n₀ B W1 W2) (k : Kept n₀ B W2 W3) : Kept n₀ B W1 W3 :=
  ⟨Nat.le_trans h.size k.size, fun j hj => (k.low j hj).trans (h.low j hj), fun j h1 h2 => (k.high j h1 (Nat.lt_of_lt_of_le h2 h.size)).trans (h.high j h1 h2)⟩
theorem Kept.wider {n₀ B B' : Nat} {W W' : World} (h : Kept n₀ B W W') (hB : B ≤ B') : Kept n₀ B' W W' := ⟨h.size, h.low, fun j h1 h2 => h.high j (Nat.le_trans hB h1) h2⟩
theorem Kept.put {n₀ B l : Nat} (W : World) (o : Obj) (h1 : n₀ ≤ l) (h2 : l < B) : Kept n₀ B W (W.putObj l o) :=
  ⟨by simp [World.putObj], fun j hj => World.putObj_heap_other (by omega), fun j hj _ => World.putObj_heap_other (by omega)⟩
theorem Kept.box {n₀ B : Nat} {p : Addr} (W : World) (u : Value) (h1 : n₀ ≤ p.block) (h2 : p.block < B) : Kept n₀ B W (W.setCell p u) :=
  ⟨by rw [World.size_setCell]; exact Nat.le_refl _, fun j hj => Below.heap_setCell _ _ _ _ (by omega), fun j hj _ => Below.heap_setCell _ _ _ _ (by omega)⟩
theorem Kept.ofBelow {n₀ B : Nat} {W W' : World} (h : Below W.heap.size W W') (hn : n₀ ≤ W.heap.size) : Kept n₀ B W W' :=
  ⟨h.size, fun j hj => h.block j (by omega), fun j _ hj => h.block j hj⟩

def SeqB {α : Type} (F : Fence) (n : Nat) (P : Program) (g : Nat) (lb : Array Value) (encs : α → Array Value) (n₀ : Nat) (S Sp : List α → Prop) (N : Nat) (w : World) : Prop :=
  ∀ (l : Nat) (J Jx : List α → World → Prop) (W : World), Below w.heap.size w W → Of W.heap.size J → Of W.heap.size Jx →
    (∀ pre x W1, J pre W1 → pre.length < N → YieldAt F (n - 1) P l (encs x) W1 fun e W' =>
      (e = .returned (.bool true) ∧ J (pre ++ [x]) W' ∧ Kept n₀ W.heap.size W1 W') ∨ (e = .returned (.bool false) ∧ Jx (pre ++ [x]) W')) →
    J [] W →
    CallsIn F n P g (#[.func (.yield l) #[] #[]] ++ lb) W fun e W' => (∃ v, e = .returned v) ∧ ((∃ xs, S xs ∧ J xs W') ∨ (∃ pre, Sp pre ∧ Jx pre W'))

/-- How the body of a round may be left. -/
def postB {α : Type} (n₀ B : Nat) (I : List α → World → Prop) (Ix : Code → List α → World → Prop) (xs : List α) (W : World) : Exit → Act → World → Prop
  | .normal, _, W' => Kept n₀ B W W' ∧ I xs W'
  | .ret, _, W' => Kept n₀ B W W' ∧ Ix .ret xs W'
  | .exit id, _, W' => Kept n₀ B W W' ∧ Ix (.exit id) xs W'
  | .goto t, _, W' => Kept n₀ B W W' ∧ Ix (.goto t) xs W'
  | .panic _, _, _ => False
  | .outgrown, _, _ => False

theorem put_below {B l : Nat} (W : World) {o : Obj} (o' : Obj) (h : W.heap[l]? = some o) (hB : B ≤ l) : Below B W (W.putObj l o') :=
  (Below.refl B W).grown (grownBy_putObj' W l o') (by have := (Array.getElem?_eq_some_iff.1 h).1; omega) (fun k e => by cases e; omega)

variable {F : Fence} {n : Nat} {P : Program}

theorem wpIn_rangeFunc_Bx {α : Type} {g : Operand} {ps : Array Tmp} {assign body : Code} {Q : Exit → Act → World → Prop} {a : Act} {w : World}
    (hro : F.round = none) (h1 : 1 ≤ n) {gf : Nat} {lb : Array Value} (hg : a.eval g = .func (.func gf) #[] lb) (hFg : F.fn gf) (eg : ∀ args w, (callFunc gf args).run P w = .ok (.enter gf args) w)
    {encs : α → Array Value} {n₀ : Nat} {S Sp : List α → Prop} {N : Nat} (hn₀ : n₀ ≤ w.heap.size) (hseq : SeqB F (n - 1) P gf lb encs n₀ S Sp N w) (hps : ∀ x, (encs x).size = ps.size)
    (I : List α → World → Prop) (Ix : Code → List α → World → Prop) (hI : Of w.heap.size I) (hIx : ∀ c, Of w.heap.size (Ix c)) (h0 : I [] w) (Ax : α → Act → World → Prop) (hAx : ∀ x a' A B, Ax x a' A → (∀ k, k ≠ w.heap.size + 1 → B.heap[k]? = A.heap[k]?) → Ax x a' B)
    (hassign : ∀ (l : Nat) (pre : List α) (x : α) (W : World) (K : Act → World → Prop), I pre W → w.heap.size + 1 < W.heap.size → (∀ a' W', Kept n₀ w.heap.size W W' → I pre W' → Ax x a' W' → K a' W') →
      assign.wpIn (F.inRound l) (n - 1 - 1) P (Exit.then K (fun _ _ _ => False)) { tmps := (ps.zip (encs x)).foldl (fun t (p, v) => t.setIfInBounds p v) a.tmps, defers := [] } W)
    (hbody : ∀ (l : Nat) (pre : List α) (x : α) (a' : Act) (W : World), I pre W → pre.length < N → w.heap.size + 1 < W.heap.size → Ax x a' W → body.wpIn (F.inRound l) (n - 1 - 1) P (postB n₀ w.heap.size I Ix (pre ++ [x]) W) a' W)
    (hdone : ∀ (D : Nat) (xs : List α) (W : World), w.heap.size ≤ D → S xs → I xs W → W.heap[D]? = some (.deferred (some [])) → Q .normal { a with defers := { target := .collected D, args := #[] } :: a.defers } W)
    (hstop : ∀ (D : Nat) (c : Code) (pre : List α) (W : World), w.heap.size ≤ D → Sp pre → Ix c pre W → W.heap[D]? = some (.deferred (some [])) → c.wpIn F n P Q { a with defers := { target := .collected D, args := #[] } :: a.defers } W) :
    (Code.rangeFunc g ps assign body).wpIn F n P Q a w := by
  refine wpIn_rangeFunc ?_
  intro fn hfn
  rw [hro]
  obtain ⟨rec, hrec⟩ : ∃ rec : LoopState → Option Code → Loop, rec = fun st pe => { state := st, pending := pe, fn, tmps := a.tmps, params := ps, assign, body, defers := w.heap.size } := ⟨_, rfl⟩
  obtain ⟨b0, hb0⟩ : ∃ b0, b0 = w.heap.size := ⟨_, rfl⟩
  obtain ⟨W1, hW1⟩ : ∃ W1, (w.alloc (.deferred (some []))).alloc (.loop (rec .ready none)) = W1 := ⟨_, rfl⟩
  have hZ : W1.heap.size = b0 + 2 := by rw [← hW1, World.size_alloc, World.size_alloc, hb0]
  have hL1 : W1.heap[b0 + 1]? = some (.loop (rec .ready none)) := by
    rw [← hW1, hb0]; have := World.alloc_heap_new (w.alloc (.deferred (some []))) (.loop (rec .ready none)); rwa [World.size_alloc] at this
  have hK1 : W1.heap[b0]? = some (.deferred (some [])) := by
    rw [← hW1, hb0]; exact (Below.heap_alloc _ _ _ (by simp)).trans (World.alloc_heap_new w _)
  have hb1 : Below w.heap.size w W1 := by
    rw [← hW1]; exact ((Below.refl _ w).alloc (Nat.le_refl _) _).alloc (by simp) _
  have hI1 : I [] W1 := hI _ _ _ h0 hb1
  refine ⟨w.heap.size + 1, [{ target := .collected w.heap.size, args := #[] }], W1, { target := .fn (.func gf) lb, args := #[.func (.yield (w.heap.size + 1)) #[] #[]] }, W1, gf,
    #[.func (.yield (w.heap.size + 1)) #[] #[]] ++ lb, W1, ?_, ?_, ?_, ?_, fun _ => h1, ?_⟩
  · rw [← hW1, hrec]; exact run_enterLoop_outer _ _ _ _ _
  · simp only [resolve, hg]
    simp [go_sem]
  · intro f' hf'; simp [Target.leads] at hf'; subst hf'; exact hFg
  · simp [invoke, go_sem, eg]
  · rw [← hb0] at hI hIx hAx hassign hbody hdone hstop hn₀ hrec ⊢
    refine (hseq (b0 + 1)
      (fun pre W => I pre W ∧ W.heap[b0 + 1]? = some (.loop (rec .ready none)) ∧ W.heap[b0]? = some (.deferred (some [])) ∧ b0 ≤ W.heap.size)
      (fun pre W => ∃ c, Ix c pre W ∧ W.heap[b0 + 1]? = some (.loop (rec .done (some c))) ∧ W.heap[b0]? = some (.deferred (some [])))
      W1 hb1
      (fun s A B hs hb => ⟨hI s A B hs.1 (hb.mono (by omega)), (hb.block _ (by omega)).trans hs.2.1, (hb.block _ (by omega)).trans hs.2.2.1, Nat.le_trans hs.2.2.2 hb.size⟩)
      (fun s A B hs hb => by
        obtain ⟨c, hc, hl, hk⟩ := hs
        exact ⟨c, hIx c s A B hc (hb.mono (by omega)), (hb.block _ (by omega)).trans hl, (hb.block _ (by omega)).trans hk⟩)
      ?_ ⟨hI1, hL1, hK1, by omega⟩).mono ?_
    · rintro pre x W ⟨hi, hl, hk, hz⟩ hlen
      have hlt : b0 + 1 < W.heap.size := (Array.getElem?_eq_some_iff.1 hl).1
      have hy := run_yield (P := P) (args := encs x) hl (by rw [hrec]; exact hps x)
      rw [hrec] at hy
      refine ⟨fn, _, assign, body, hy, roundIn_of_wpIn hfn (hassign _ pre x W _ hi hlt fun a1 WA hkA hi hax => ?_)⟩
      have hl0 := hl
      replace hl : WA.heap[b0 + 1]? = some (.loop (rec .ready none)) := (hkA.high _ (by omega) hlt).trans hl
      replace hk : WA.heap[b0]? = some (.deferred (some [])) := (hkA.high _ (by omega) (by omega)).trans hk
      replace hlt : b0 + 1 < WA.heap.size := Nat.lt_of_lt_of_le hlt hkA.size
      replace hz : b0 ≤ WA.heap.size := Nat.le_trans hz hkA.size
      refine ⟨_, run_beginRound hl (by rw [hrec]), ?_⟩
      obtain ⟨W2, hW2⟩ : ∃ W2, WA.putObj (b0 + 1) (.loop { rec .ready none with state := .busy }) = W2 := ⟨_, rfl⟩
      rw [hW2]
      have hl2 : W2.heap[b0 + 1]? = some (.loop { rec .ready none with state := .busy }) := by rw [← hW2]; exact World.putObj_heap_same hlt
      have hk2 : W2.heap[b0]? = some (.deferred (some [])) := by rw [← hW2]; exact (World.putObj_heap_other (by omega)).trans hk
      have hw2 : Kept n₀ W1.heap.size W W2 := by rw [← hW2]; exact (hkA.wider (by omega)).trans (Kept.put _ _ (by omega) (by omega))
      have hax2 : Ax x a1 W2 := by rw [← hW2]; exact hAx _ _ _ _ hax fun k hk => World.putObj_heap_other (by omega)
      have hz2 : b0 + 1 < W2.heap.size := (Array.getElem?_eq_some_iff.1 hl2).1
      have hi2 : I pre W2 := by rw [← hW2]; exact hI _ _ _ hi (put_below _ _ hl (by omega))
      refine wpIn_mono (hbody _ pre x _ _ hi2 hlen hz2 hax2) ?_
      have fin : ∀ (jump : Option Code) (W3 : World), Kept n₀ b0 W2 W3 →
          (Instr.endRound (b0 + 1) jump).run P W3 = .ok (.bool jump.isNone) (W3.putObj (b0 + 1) (.loop (rec (if jump.isNone then .ready else .done) jump))) ∧
          W3.heap[b0 + 1]? = some (.loop { rec .ready none with state := .busy }) ∧
          (W3.putObj (b0 + 1) (.loop (rec (if jump.isNone then .ready else .done) jump))).heap[b0 + 1]? = some (.loop (rec (if jump.isNone then .ready else .done) jump)) ∧
          (W3.putObj (b0 + 1) (.loop (rec (if jump.isNone then .ready else .done) jump))).heap[b0]? = some (.deferred (some [])) := fun jump W3 hk3 => by
        have hl3 := (hk3.high _ (by omega) (Array.getElem?_eq_some_iff.1 hl2).1).trans hl2
        have hk4 := (hk3.high _ (by omega) (Array.getElem?_eq_some_iff.1 hk2).1).trans hk2
        have := run_endRound (P := P) jump hl3
        rw [hrec] at this ⊢
        exact ⟨this, by rw [hrec] at hl3; exact hl3, World.putObj_heap_same (Array.getElem?_eq_some_iff.1 hl3).1, (World.putObj_heap_other (by omega)).trans hk4⟩
      have fin2 : ∀ (o : Obj) (W3 : World), W3.heap[b0 + 1]? = some (.loop { rec .ready none with state := .busy }) → Below b0 W3 (W3.putObj (b0 + 1) o) := fun o W3 h3 => put_below _ _ h3 (by omega)
      rintro e a3 W3 hp
      cases e with
      | normal =>
        obtain ⟨hk3, hi3⟩ := hp
        obtain ⟨hr, hl3, hl4, hk4⟩ := fin none W3 hk3
        refine ⟨_, _, hr, .inl ⟨rfl, ⟨hI _ _ _ hi3 (fin2 _ _ hl3), hl4, hk4, ?_⟩, (hw2.trans (hk3.wider (by omega))).trans (Kept.put _ _ (by omega) (by omega))⟩⟩
        exact Nat.le_trans (Nat.le_of_lt (Nat.lt_of_succ_lt hz2)) (Nat.le_trans hk3.size (Kept.put (n₀ := n₀) (B := b0 + 2) W3 _ (by omega) (by omega)).size)
      | ret =>
        obtain ⟨hk3, hi3⟩ := hp
        obtain ⟨hr, hl3, hl4, hk4⟩ := fin (some .ret) W3 hk3
        exact ⟨_, _, hr, .inr ⟨rfl, .ret, hIx _ _ _ _ hi3 (fin2 _ _ hl3), hl4, hk4⟩⟩
      | exit id =>
        obtain ⟨hk3, hi3⟩ := hp
        obtain ⟨hr, hl3, hl4, hk4⟩ := fin (some (.exit id)) W3 hk3
        exact ⟨_, _, hr, .inr ⟨rfl, .exit id, hIx _ _ _ _ hi3 (fin2 _ _ hl3), hl4, hk4⟩⟩
      | goto t =>
        obtain ⟨hk3, hi3⟩ := hp
        obtain ⟨hr, hl3, hl4, hk4⟩ := fin (some (.goto t)) W3 hk3
        exact ⟨_, _, hr, .inr ⟨rfl, .goto t, hIx _ _ _ _ hi3 (fin2 _ _ hl3), hl4, hk4⟩⟩
      | panic ch => exact hp.elim
      | outgrown => exact hp.elim
    · rintro e W2 ⟨⟨v, rfl⟩, (⟨xs, hS, hi, hl, hk, -⟩ | ⟨pre, hSp, c, hi, hl, hk⟩)⟩
      · exact ⟨none, _, by have := run_endLoop (P := P) hl (by rw [hrec]; simp); rw [hrec] at this; exact this, hdone _ xs _ (Nat.le_refl _) hS (hI _ _ _ hi (put_below _ _ hl (by omega))) ((World.putObj_heap_other (by omega)).trans hk)⟩
      · exact ⟨some c, _, by have := run_endLoop (P := P) hl (by rw [hrec]; simp); rw [hrec] at this; exact this, hstop _ c pre _ (Nat.le_refl _) hSp (hIx c _ _ _ hi (put_below _ _ hl (by omega))) ((World.putObj_heap_other (by omega)).trans hk)⟩

theorem wpIn_rangeFunc_B {α : Type} {g : Operand} {ps : Array Tmp} {assign body : Code} {Q : Exit → Act → World → Prop} {a : Act} {w : World}
    (hro : F.round = none) (h1 : 1 ≤ n) {gf : Nat} {lb : Array Value} (hg : a.eval g = .func (.func gf) #[] lb) (hFg : F.fn gf) (eg : ∀ args w, (callFunc gf args).run P w = .ok (.enter gf args) w)
    {encs : α → Array Value} {n₀ : Nat} {S Sp : List α → Prop} {N : Nat} (hn₀ : n₀ ≤ w.heap.size) (hseq : SeqB F (n - 1) P gf lb encs n₀ S Sp N w) (hps : ∀ x, (encs x).size = ps.size)
    (I : List α → World → Prop) (Ix : Code → List α → World → Prop) (hI : Of w.heap.size I) (hIx : ∀ c, Of w.heap.size (Ix c)) (h0 : I [] w) (a₁ : α → Act)
    (hassign : ∀ (l : Nat) (x : α) (W : World) (K : Act → World → Prop), K (a₁ x) W →
      assign.wpIn (F.inRound l) (n - 1 - 1) P (Exit.then K (fun _ _ _ => False)) { tmps := (ps.zip (encs x)).foldl (fun t (p, v) => t.setIfInBounds p v) a.tmps, defers := [] } W)
    (hbody : ∀ (l : Nat) (pre : List α) (x : α) (W : World), I pre W → pre.length < N → w.heap.size ≤ W.heap.size → body.wpIn (F.inRound l) (n - 1 - 1) P (postB n₀ w.heap.size I Ix (pre ++ [x]) W) (a₁ x) W)
    (hdone : ∀ (D : Nat) (xs : List α) (W : World), w.heap.size ≤ D → S xs → I xs W → W.heap[D]? = some (.deferred (some [])) → Q .normal { a with defers := { target := .collected D, args := #[] } :: a.defers } W)
    (hstop : ∀ (D : Nat) (c : Code) (pre : List α) (W : World), w.heap.size ≤ D → Sp pre → Ix c pre W → W.heap[D]? = some (.deferred (some [])) → c.wpIn F n P Q { a with defers := { target := .collected D, args := #[] } :: a.defers } W) :
    (Code.rangeFunc g ps assign body).wpIn F n P Q a w :=
  wpIn_rangeFunc_Bx hro h1 hg hFg eg hn₀ hseq hps I Ix hI hIx h0 (fun x a' _ => a' = a₁ x) (fun _ _ _ _ h _ => h)
    (fun l pre x W K hi hz hK => hassign l x W K (hK _ _ (Kept.refl _ _ _) hi rfl))
    (fun l pre x a' W hi hlen hz h => by subst h; exact hbody l pre x W hi hlen (by omega)) hdone hstop

end Go.Proofs.YtlnpfnglphdaiaaGreatDoor.rangeb

namespace Go.Proofs.YtlnpfnglphdaiaaGreatDoor.data
open Go.RowKit Go.Shelf Go.Proofs.YtlnpfnglphdaiaaGreatDoor.rose Go.Proofs.YtlnpfnglphdaiaaGreatDoor.rangeb Go.Proofs.YtlnpfnglphdaiaaGreatDoor
set_option linter.unusedVariables false
set_option linter.unusedSimpArgs false

/-- What is handed over: a con with its place, and where its types lie. -/
structure CPart (w : World) (n₀ : Nat) where
  s : Spot
  a : Option Addr
  c : Nat
  rep : con.conSh.rep w (· < n₀) [.string s.c.1, .slice a s.c.2.length c] s.c
  t0 : s.tag ≤ 1048576
  t1 : s.i ≤ 1048576
  t2 : s.j ≤ 1048576

def encP {w : World} {n₀ : Nat} (x : CPart w n₀) : Value := .agg #[.int .i64 (x.s.tag : Nat), .int .i64 (x.s.i : Nat), .int .i64 (x.s.j : Nat)]
def encC {w : World} {n₀ : Nat} (x : CPart w n₀) : Value := .agg #[.string x.s.c.1, .slice x.a x.s.c.2.length x.c]
def encs {w : World} {n₀ : Nat} (x : CPart w n₀) : Array Value := #[encP x, encC x]

theorem wts_le {ks : List DataD} {i : Nat} (h : i < ks.length) : ks[i].2.2.length ≤ wts ks := by
  have h1 := wt_mem (List.getElem_mem h)
  have h2 : ks[i].2.2.length ≤ wt ks[i] := by
    obtain ⟨x0, x1, x2⟩ := ks[i]
    simp [wt]; omega
  omega

set_option maxRecDepth 100000 in
set_option maxHeartbeats 2000000 in
theorem consOf_stops (F : Fence) (n : Nat) (hF : F.fn 51) (hro : F.round = none) (hn : 1 ≤ n) (Bt n₀ : Nat) (ks : List DataD) (v : Value) (w : World) (hB : Bt < w.heap.size) (hn0 : n₀ ≤ w.heap.size)
    (hc : w.cell? ⟨Bt, 0, none⟩ = some v) (hrep : dataSh.slice.rep w (· < n₀) [v] ks) (hw : ks.length + wts ks ≤ 1048576) :
    SeqB F n Tryz.prog 51 #[.pointer (some ⟨Bt, 0, none⟩)] (encs (w := w) (n₀ := n₀)) n₀ (fun xs => xs.map (·.s) = spots 0 0 ks) (fun pre => pre.map (·.s) <+: spots 0 0 ks) (total ks) w := by
  intro l J Jx W hW hJ hJx hY h0
  have htl := total_le ks
  have HREP : Hid (dataSh.slice.rep w (· < n₀) [v] ks) := hrep
  obtain ⟨a, cap, css, rfl, hcap, hmax, hrow, hk⟩ := datas_open hrep
  have c0 := (hW.cell (p := ⟨Bt, 0, none⟩) hB).trans hc
  have HW : Hid (n₀ ≤ W.heap.size) := Nat.le_trans hn0 hW.size
  have LW : Hid (∀ b, b < n₀ → W.heap[b]? = w.heap[b]?) := fun b hb => hW.block b (Nat.lt_of_lt_of_le hb hn0)
  have HJ : Hid (Of W.heap.size J) := hJ
  have HY : Hid _ := hY
  have HR : Hid (RowAt w (· < n₀) 3 a ks.length css ∧ ∀ i (h : i < ks.length), dataSh.rep w (· < n₀) (css i) ks[i]) := ⟨hrow, hk⟩
  have H0 : Hid (J [] W) := h0
  clear hY hJ hJx hrep hc hrow hk h0 hcap hmax
  refine callsIn_of_wp Tryz.func51 rfl hF ?_ hro
  simp only [Tryz.ntmps51, List.size_toArray, List.length_cons, List.length_nil, Nat.reduceAdd, Nat.reduceSub, Array.replicate_succ, Array.replicate_zero, List.push_toArray, List.append_toArray, List.nil_append, List.cons_append]
  gi_wp2
  clear c0
  gi_loopg [3, 10] (ks.length) (fun k v3 v10 wr => ∃ i : Nat, k + i = ks.length ∧ v10 = .int .i64 i ∧ v3 = .int .i64 (total (ks.take i) : Nat) ∧ Hid (W.heap.size ≤ wr.heap.size ∧ (∀ b, b < n₀ → wr.heap[b]? = w.heap[b]?) ∧ ∃ pre : List (CPart w n₀), pre.map (·.s) = ahead ks i 0 ∧ J pre wr))
  case atStart => exact ⟨0, rfl, rfl, by simp [total], Nat.le_refl _, LW.out, [], by simp [ahead_start], H0.out⟩
  case round =>
    obtain ⟨i, hki, rfl, rfl, HI⟩ := hrel
    have hti := total_take_le ks i
    by_cases hlt : i < ks.length
    · obtain ⟨b, o, rfl, hS, hc⟩ := HR.out.1 i hlt
      obtain ⟨x0, x1, x2, a2, cc2, hT, hcs, f0, f1, f2⟩ := data_open (HR.out.2 i hlt)
      rw [hcs] at hc
      have blk := HI.out.2.1 b hS
      have e0 := (World.cell?_of_block (w := w) (a := ⟨b, o + i * 3, none⟩) blk).trans (hc 0 _ rfl)
      have e1 := (World.cell?_of_block (w := w) (a := ⟨b, o + i * 3 + 1, none⟩) blk).trans (hc 1 _ rfl)
      have e2 := (World.cell?_of_block (w := w) (a := ⟨b, o + i * 3 + 2, none⟩) blk).trans (hc 2 _ rfl)
      have hx2 : x2.length ≤ 1048576 := by
        have := wts_le hlt
        rw [hT] at this
        simp at this
        omega
      have HT : Hid (ks[i].2.2 = x2) := by show _ = _; rw [hT]
      have htk := total_take hlt
      rw [HT.out] at htk
      have htk2 := total_take_le ks (i + 1)
      have F2 : Hid _ := f2
      clear f2 hcs hc blk hT
      gi_wp2
      have Z0 : Hid (W.heap.size ≤ (wr.alloc (.cells #[.string x0, .int .i64 x1, .slice a2 x2.length cc2] 97)).heap.size ∧ (∀ b, b < n₀ → (wr.alloc (.cells #[.string x0, .int .i64 x1, .slice a2 x2.length cc2] 97)).heap[b]? = w.heap[b]?) ∧ ∃ pre : List (CPart w n₀), pre.map (·.s) = ahead ks i 0 ∧ J pre (wr.alloc (.cells #[.string x0, .int .i64 x1, .slice a2 x2.length cc2] 97))) := by
        obtain ⟨h1, h2, pre, h3, h4⟩ := HI.out
        exact ⟨Nat.le_trans h1 (by simp), fun b hb => (Below.heap_alloc _ _ _ (Nat.lt_of_lt_of_le hb (Nat.le_trans HW.out h1))).trans (h2 b hb), pre, h3, HJ.out _ _ _ h4 ((Below.refl _ _).alloc h1 _)⟩
      clear HI e0 e1 e2
      generalize wr.alloc (.cells #[.string x0, .int .i64 x1, .slice a2 x2.length cc2] 97) = wq at Z0 ⊢
      rename World => wo
      gi_loopg [3, 18] (x2.length) (fun k v3 v18 wi => ∃ j q : Nat, k + j = x2.length ∧ q = total (ks.take i) + j ∧ v18 = .int .i64 j ∧ v3 = .int .i64 (q : Nat) ∧ Hid (W.heap.size ≤ wi.heap.size ∧ (∀ b, b < n₀ → wi.heap[b]? = w.heap[b]?) ∧ ∃ pre : List (CPart w n₀), pre.map (·.s) = ahead ks i j ∧ J pre wi))
      case atStart => exact ⟨0, _, rfl, rfl, rfl, rfl, Z0.out⟩
      case round =>
        obtain ⟨j, q, hkj, hq, rfl, rfl, HI⟩ := hrel
        rename World => wi
        by_cases hlj : j < x2.length
        · obtain ⟨a1, cap1, cs1, ea, -, -, hrow, hk⟩ := con.cons_open F2.out
          cases ea
          obtain ⟨b2, o2, rfl, hS2, hc⟩ := hrow j hlj
          have hrj := hk j hlj
          obtain ⟨y0, y1, a3, c3, hT, hcs, g0, g1⟩ := con.con_open hrj
          rw [hcs] at hc hrj
          have blk := HI.out.2.1 b2 hS2
          have e0 := (World.cell?_of_block (w := w) (a := ⟨b2, o2 + j * 2, none⟩) blk).trans (hc 0 _ rfl)
          have e1 := (World.cell?_of_block (w := w) (a := ⟨b2, o2 + j * 2 + 1, none⟩) blk).trans (hc 1 _ rfl)
          obtain ⟨x, hxs, hxe⟩ : ∃ x : CPart w n₀, x.s = ⟨q, i, j, (y0, y1)⟩ ∧ encs x = #[.agg #[.int .i64 (q : Nat), .int .i64 i, .int .i64 j], .agg #[.string y0, .slice a3 y1.length c3]] :=
            ⟨⟨⟨q, i, j, (y0, y1)⟩, a3, c3, by rw [hT] at hrj; exact hrj, by show q ≤ _; omega, by show i ≤ _; omega, by show j ≤ _; omega⟩, rfl, rfl⟩
          have HX : Hid (x.s = ⟨q, i, j, (y0, y1)⟩) := hxs
          have HST : Hid (ahead ks i (j + 1) = ahead ks i j ++ [⟨q, i, j, (y0, y1)⟩]) := by
            have h := ahead_step hlt (j := j) (by rw [HT.out]; exact hlj)
            simp only [HT.out] at h
            rw [hT, ← hq] at h
            exact h
          have HPX : Hid (ahead ks i (j + 1) <+: spots 0 0 ks) := ahead_prefix hlt (by rw [HT.out]; omega)
          obtain ⟨hz, hlow, pre, hpre, hJp⟩ := HI.out
          have HP : Hid (pre.map (·.s) = ahead ks i j) := hpre
          have hpl : pre.length < total ks := by
            have h1 : pre.length = (ahead ks i j).length := by rw [← hpre, List.length_map]
            rw [ahead_length hlt (by rw [HT.out]; omega)] at h1
            omega
          have hJ1 : J pre (wi.alloc (.cells #[.string y0, .slice a3 y1.length c3] 86)) := HJ.out _ _ _ hJp ((Below.refl _ _).alloc hz _)
          obtain ⟨fn, tmps, assign, body, hy, hR⟩ := HY.out pre x _ hJ1 hpl
          rw [hxe] at hy
          have LO : Hid (∀ b, b < n₀ → (wi.alloc (.cells #[.string y0, .slice a3 y1.length c3] 86)).heap[b]? = w.heap[b]?) := fun b hb => (Below.heap_alloc _ _ _ (Nat.lt_of_lt_of_le hb (Nat.le_trans HW.out hz))).trans (hlow b hb)
          have HZ : Hid (W.heap.size ≤ (wi.alloc (.cells #[.string y0, .slice a3 y1.length c3] 86)).heap.size) := Nat.le_trans hz (by simp)
          have HQ : Hid (q = total (ks.take i) + j) := hq
          have hqb : q ≤ 1048576 := by omega
          clear hJ1 hJp hpre hlow hz blk hc hcs hrj hT hrow hk hxs hxe g1 HI hq
          gi_wp2
          refine hR.mono ?_
          rintro e W3 (⟨rfl, hJ3, hk3⟩ | ⟨rfl, hJx3⟩)
          · have L3 : Hid (∀ b, b < n₀ → W3.heap[b]? = w.heap[b]?) := fun b hb => (hk3.low b hb).trans (LO.out b hb)
            have Z3 : Hid (W.heap.size ≤ W3.heap.size) := Nat.le_trans HZ.out hk3.size
            have HJ3 : Hid (J (pre ++ [x]) W3) := hJ3
            clear hk3 hJ3 hR hy
            gi_wp2
            gi_roundg (x2.length - (j + 1))
            case rel => exact ⟨j + 1, q + 1, by omega, by have := HQ.out; omega, by go_num, by go_num, Z3.out, L3.out, pre ++ [x], by rw [List.map_append, HP.out, HST.out]; simp [HX.out], HJ3.out⟩
            case measure => omega
          · gi_wp2
            refine bodyPost_ret (results_none rfl _ _ _) rfl ?_
            exact ⟨⟨_, rfl⟩, .inr ⟨_, by rw [List.map_append, HP.out]; simp only [List.map_cons, List.map_nil, HX.out]; rw [← HST.out]; exact HPX.out, hJx3⟩⟩
        · obtain rfl : j = x2.length := by omega
          have HQ : Hid (q = total (ks.take i) + x2.length) := hq
          have hqb : q ≤ 1048576 := by omega
          clear hq
          have HN : Hid (ahead ks i x2.length = ahead ks (i + 1) 0) := by
            have := ahead_next hlt
            rw [HT.out] at this
            exact this
          gi_wp2
          gi_roundg (ks.length - (i + 1))
          case rel =>
            obtain ⟨h1, h2, pre, h3, h4⟩ := HI.out
            exact ⟨i + 1, by omega, by go_num, by rw [htk, HQ.out], h1, h2, pre, by rw [h3, HN.out], h4⟩
          case measure => omega
    · obtain rfl : i = ks.length := by omega
      gi_wp2
      go_end0
      obtain ⟨-, -, pre, hp, hj⟩ := HI.out
      exact ⟨⟨_, rfl⟩, .inl ⟨pre, by rw [hp, ahead_end], hj⟩⟩

end Go.Proofs.YtlnpfnglphdaiaaGreatDoor.data

namespace Go.Proofs.YtlnpfnglphdaiaaGreatDoor.data
open Go.RowKit Go.Shelf Go.Proofs.YtlnpfnglphdaiaaGreatDoor.rose Go.Proofs.YtlnpfnglphdaiaaGreatDoor.rangeb Go.Proofs.YtlnpfnglphdaiaaGreatDoor
set_option linter.unusedVariables false
set_option linter.unusedSimpArgs false
attribute [local go_sem] Oper.semAt_some

set_option maxRecDepth 100000 in
theorem consOf_in (F : Fence) (n : Nat) (hF : F.fn 31) (hro : F.round = none) (v : Value) (w : World) (o : v.oneCell' = true) :
    CallsIn F n Tryz.prog 31 #[v] w fun e w' => e = .returned (.func (.func 51) #[] #[.pointer (some ⟨w.heap.size, 0, none⟩)]) ∧ w' = w.alloc (.cells #[v] 28) := by
  refine callsIn_of_wp Tryz.func31 rfl hF ?_ hro
  simp only [Tryz.ntmps31, List.size_toArray, List.length_cons, List.length_nil, Nat.reduceAdd, Nat.reduceSub, Array.replicate_succ, Array.replicate_zero, List.push_toArray, List.append_toArray, List.nil_append, List.cons_append]
  gi_wp2
  refine bodyPost_ret (results_tmp rfl _ _ _) rfl ?_
  exact ⟨rfl, rfl⟩

theorem blk_cell {W : World} {B i : Nat} {cs : Array Value} {t : TypeId} {v : Value} (h : W.heap[B]? = some (.cells cs t)) (hv : cs[i]? = some v) : W.cell? ⟨B, i, none⟩ = some v := by simp [World.cell?, h, hv]
theorem blk_free {W : World} {B i : Nat} {cs : Array Value} {t : TypeId} (h : W.heap[B]? = some (.cells cs t)) : W.frozen? ⟨B, i, none⟩ = false := by simp [World.frozen?, h]

theorem three (w : World) (A B C : Obj) (WL : World) (h : WL = ((w.alloc A).alloc B).alloc C) : WL.heap.size = w.heap.size + 3 ∧ Below w.heap.size w WL ∧ WL.heap[w.heap.size]? = some A ∧ WL.heap[w.heap.size + 1]? = some B ∧ WL.heap[w.heap.size + 2]? = some C := by
  subst h
  refine ⟨by simp, (((Below.refl _ w).alloc (Nat.le_refl _) _).alloc (by simp) _).alloc (by simp only [World.size_alloc]; omega) _, ?_, ?_, ?_⟩
  · exact (Below.heap_alloc _ _ _ (by simp; omega)).trans ((Below.heap_alloc _ _ _ (by simp)).trans (alloc_top _ _))
  · have := alloc_top (w.alloc A) B
    rw [World.size_alloc] at this
    exact (Below.heap_alloc _ _ _ (by simp)).trans this
  · have := alloc_top ((w.alloc A).alloc B) C
    rwa [World.size_alloc, World.size_alloc] at this

theorem four (w : World) (A B C E : Obj) (WL : World) (h : WL = (((w.alloc A).alloc B).alloc C).alloc E) : WL.heap.size = w.heap.size + 4 ∧ Below w.heap.size w WL ∧ WL.heap[w.heap.size]? = some A ∧ WL.heap[w.heap.size + 1]? = some B ∧ WL.heap[w.heap.size + 2]? = some C ∧ WL.heap[w.heap.size + 3]? = some E := by
  obtain ⟨h0, h1, h2, h3, h4⟩ := three w A B C _ rfl
  subst h
  refine ⟨by simp, h1.alloc (by simp only [World.size_alloc]; omega) _, (Below.heap_alloc _ _ _ (by rw [h0]; omega)).trans h2, (Below.heap_alloc _ _ _ (by rw [h0]; omega)).trans h3, (Below.heap_alloc _ _ _ (by rw [h0]; omega)).trans h4, ?_⟩
  have := alloc_top (((w.alloc A).alloc B).alloc C) E
  rwa [h0] at this

theorem heap_drew (w : World) : w.drew.heap = w.heap := rfl
theorem kept_drew {n₀ B : Nat} {W W' : World} (h : Kept n₀ B W W') : Kept n₀ B W W'.drew := ⟨h.size, h.low, h.high⟩

end Go.Proofs.YtlnpfnglphdaiaaGreatDoor.data

namespace Go.Proofs.YtlnpfnglphdaiaaGreatDoor.data
open Go Go.RowKit Go.Maps Go.Proofs.YtlnpfnglphdaiaaGreatDoor.rose Go.Proofs.YtlnpfnglphdaiaaGreatDoor
set_option linter.unusedVariables false
set_option linter.unusedSimpArgs false

/-- A name as a key. -/
def kl (s : ByteArray) : Lit := .string s.data.toList
theorem kl_ne {s t : ByteArray} (h : (s.toList == t.toList) = false) : kl s ≠ kl t := fun e => by
  unfold kl at e
  injection e with e
  rw [ByteArray.toList_eq, ByteArray.toList_eq, e] at h
  simp at h
theorem kl_eq {s t : ByteArray} (h : (s.toList == t.toList) = true) : kl s = kl t := by
  unfold kl
  rw [ByteArray.toList_eq, ByteArray.toList_eq] at h
  rw [beq_iff_eq.1 h]
theorem kl_key (s : ByteArray) : WideAt.IsKeyLit (kl s) := trivial

theorem strKey : Keyed Tryz.prog 9 := string_keyed Tryz.underlying9
theorem zeroInt (w : World) : (zeroValue 3).run Tryz.prog w = .ok (.int .i64 0) w := by kernel_rfl
theorem wfD {x : Int} (h : -9223372036854775808 ≤ x ∧ x ≤ 9223372036854775807) : (Lit.int .i64 x).wf = true := WalkArith.wf_i64 (by omega)
theorem owns_low {w w' : World} {P : Program} {k : TypeId} {R : Value → Option (DataW Unit × List MemPlace)} {b n B : Nat} {D : DataW Unit} (h : w.ownsMap P k R b n D) (hb : Below B w w') (hB : b < B) : w'.ownsMap P k R b n D := by
  obtain ⟨es, clock, h1, r⟩ := h
  exact ⟨es, clock, (hb.block b hB).trans h1, r⟩

/-- A look-up whose answer is known. -/
theorem lookup_knownIn {F : Fence} {nF : Nat} {P : Program} (w : World) {ops : Array Oper} {rest : List Oper} {o : Oper} {a : Act} {Q : Exit → Act → World → Prop}
    (hg : o.guard = none) (m x : Operand) (t : TypeId) (hop : o.op = Op.lookup t m x false)
    (k e : TypeId) (K : Keyed P k) (ht : P.underlying t = some (.map k e)) (he : P.underlying e = some (.int .i64)) (hz : (zeroValue e).run P w = .ok (.int .i64 0) w) (b n : Nat) (D : DataW Unit)
    (hm : a.eval m = .map (some b)) (hown : w.ownsMap P k (plainElem P e) b n D) (key : Value) (kl : Lit) (hx : a.eval x = key) (hkey : keyOf P k key = some kl) (c : Int) (hat : D.atKey kl (.lit (.int .i64 0)) = .lit (.int .i64 c))
    (hK : wpListIn F nF P ops Q rest (a.put o.dst (.int .i64 c)) w) :
    wpListIn F nF P ops Q (o :: rest) a w :=
  wpListIn_lookup_own_int w hg m x t hop k e .i64 K ht he hz b n D hm hown key kl hx hkey fun c' h _ => by
    rw [hat] at h
    injection h with h
    injection h with _ h
    subst h
    exact hK
theorem lookup_ok_knownIn {F : Fence} {nF : Nat} {P : Program} (w : World) {ops : Array Oper} {rest : List Oper} {o : Oper} {a : Act} {Q : Exit → Act → World → Prop}
    (hg : o.guard = none) (m x : Operand) (t : TypeId) (hop : o.op = Op.lookup t m x true)
    (k e : TypeId) (K : Keyed P k) (ht : P.underlying t = some (.map k e)) (he : P.underlying e = some (.int .i64)) (hz : (zeroValue e).run P w = .ok (.int .i64 0) w) (b n : Nat) (D : DataW Unit)
    (hm : a.eval m = .map (some b)) (hown : w.ownsMap P k (plainElem P e) b n D) (key : Value) (kl : Lit) (hx : a.eval x = key) (hkey : keyOf P k key = some kl) (c : Int) (hat : D.atKey kl (.lit (.int .i64 0)) = .lit (.int .i64 c)) (h : Bool) (hh : Maps.has D kl = h)
    (hK : wpListIn F nF P ops Q rest (a.put o.dst (.tuple #[.int .i64 c, .bool h])) w) :
    wpListIn F nF P ops Q (o :: rest) a w :=
  wpListIn_lookup_own_ok_int w hg m x t hop k e .i64 K ht he hz b n D hm hown key kl hx hkey fun c' h' _ => by
    rw [hat] at h'
    injection h' with h'
    injection h' with _ h'
    subst h' hh
    exact hK

end Go.Proofs.YtlnpfnglphdaiaaGreatDoor.data

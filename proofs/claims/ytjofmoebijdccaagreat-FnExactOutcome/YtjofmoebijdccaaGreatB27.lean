/-
  A range over a function whose iterator keeps memory of its own: the caller's word between two rounds is of what lay when the loop began alone; a round's body writes into nothing but the caller's own boxes, which lie from n₀ on and below where the loop began.
  A range over a function whose iterator only allocates between two rounds: the body of a round may write wherever it likes but into what lies below n₀ and into the range's own two blocks.
-/
import Derived.RangeFuncNested
import Derived.RangeFuncBound
import Derived.RangeFuncCalls
import Derived.RangeFuncLeaves
import Derived.Below
import Derived.Test.YtjofmoebijdccaaGreatB1
import Derived.Test.YtjofmoebijdccaaGreatB2
import Derived.Test.YtjofmoebijdccaaGreatB3
import Derived.Test.YtjofmoebijdccaaGreatB4
import Derived.Test.YtjofmoebijdccaaGreatB5
import Derived.Test.YtjofmoebijdccaaGreatB6
import Derived.Test.YtjofmoebijdccaaGreatB7
import Derived.Test.YtjofmoebijdccaaGreatB8
import Derived.Test.YtjofmoebijdccaaGreatB9
import Derived.Test.YtjofmoebijdccaaGreatB10
import Derived.Test.YtjofmoebijdccaaGreatB11
import Derived.Test.YtjofmoebijdccaaGreatB12
import Derived.Test.YtjofmoebijdccaaGreatB13
import Derived.Test.YtjofmoebijdccaaGreatB14
import Derived.Test.YtjofmoebijdccaaGreatB15
import Derived.Test.YtjofmoebijdccaaGreatB16
import Derived.Test.YtjofmoebijdccaaGreatB17
import Derived.Test.YtjofmoebijdccaaGreatB18
import Derived.Test.YtjofmoebijdccaaGreatB19
import Derived.Test.YtjofmoebijdccaaGreatB20
import Derived.Test.YtjofmoebijdccaaGreatB21
import Derived.Test.YtjofmoebijdccaaGreatB22
import Derived.Test.YtjofmoebijdccaaGreatB23
import Derived.Test.YtjofmoebijdccaaGreatB24
import Derived.Test.YtjofmoebijdccaaGreatB25
import Derived.Test.YtjofmoebijdccaaGreatB26
namespace Go.Proofs.YtjofmoebijdccaaGreat.rangeb
open Go Go.RowKit
set_option linter.unusedVariables false

/-- A word that is of the blocks below B alone. -/
def Of {β : Type} (B : Nat) (J : β → World → Prop) : Prop := ∀ s W W', J s W → Below B W W' → J s W'

/-- All but the blocks from n₀ on and below B stays. -/
structure Kept (n₀ B : Nat) (W W' : World) : Prop where
  size : W.heap.size ≤ W'.heap.size
  low : ∀ k, k < n₀ → W'.heap[k]? = W.heap[k]?
  high : ∀ k, B ≤ k → k < W.heap.size → W'.heap[k]? = W.heap[k]?

theorem Kept.refl (n₀ B : Nat) (W : World) : Kept n₀ B W W := ⟨Nat.le_refl _, fun _ _ => rfl, fun _ _ _ => rfl⟩
theorem Kept.trans {n₀ B : Nat} {W1 W2 W3 : World} (h : Kept n₀ B W1 W2) (k : Kept n₀ B W2 W3) : Kept n₀ B W1 W3 :=
  ⟨Nat.le_trans h.size k.size, fun j hj => (k.low j hj).trans (h.low j hj), fun j h1 h2 => (k.high j h1 (Nat.lt_of_lt_of_le h2 h.size)).trans (h.high j h1 h2)⟩
theorem Kept.wider {n₀ B B' : Nat} {W W' : World} (h : Kept n₀ B W W') (hB : B ≤ B') : Kept n₀ B' W W' := ⟨h.size, h.low, fun j h1 h2 => h.high j (Nat.le_trans hB h1) h2⟩
theorem Kept.put {n₀ B l : Nat} (W : World) (o : Obj) (h1 : n₀ ≤ l) (h2 : l < B) : Kept n₀ B W (W.putObj l o) :=
  ⟨by simp [World.putObj], fun j hj => World.putObj_heap_other (by omega), fun j hj _ => World.putObj_heap_other (by omega)⟩
theorem Kept.box {n₀ B : Nat} {p : Addr} (W : World) (u : Value) (h1 : n₀ ≤ p.block) (h2 : p.block < B) : Kept n₀ B W (W.setCell p u) :=
  ⟨by rw [World.size_setCell]; exact Nat.le_refl _, fun j hj => Below.heap_setCell _ _ _ _ (by omega), fun j hj _ => Below.heap_setCell _ _ _ _ (by omega)⟩
theorem Kept.ofBelow {n₀ B : Nat} {W W' : World} (h : Below W.heap.size W W') (hn : n₀ ≤ W.heap.size) : Kept n₀ B W W' :=
  ⟨h.size, fun j hj => h.block j (by omega), fun j _ hj => h.block j hj⟩

def SeqB {α : Type} (F : Fence) (n : Nat) (P : Program) (g : Nat) (lb : Array Value) (encs : α → Array Value) (n₀ : Nat) (S Sp : List α → Prop) (N : Nat) (w : World) : Prop :=
  ∀ (l : Nat) (J Jx : List α → World → Prop) (W : World), Below w.heap.size w W → Of W.heap.size J → Of W.heap.size Jx →
    (∀ pre x W1, J pre W1 → pre.length < N → YieldAt F (n - 1) P l (encs x) W1 fun e W' =>
      (e = .returned (.bool true) ∧ J (pre ++ [x]) W' ∧ Kept n₀ W.heap.size W1 W') ∨ (e = .returned (.bool false) ∧ Jx (pre ++ [x]) W')) →
    J [] W →
    CallsIn F n P g (#[.func (.yield l) #[] #[]] ++ lb) W fun e W' => (∃ v, e = .returned v) ∧ ((∃ xs, S xs ∧ J xs W') ∨ (∃ pre, Sp pre ∧ Jx pre W'))

/-- How the body of a round may be left. -/
def postB {α : Type} (n₀ B : Nat) (I : List α → World → Prop) (Ix : Code → List α → World → Prop) (xs : List α) (W : World) : Exit → Act → World → Prop
  | .normal, _, W' => Kept n₀ B W W' ∧ I xs W'
  | .ret, _, W' => Kept n₀ B W W' ∧ Ix .ret xs W'
  | .exit id, _, W' => Kept n₀ B W W' ∧ Ix (.exit id) xs W'
  | .goto t, _, W' => Kept n₀ B W W' ∧ Ix (.goto t) xs W'
  | .panic _, _, _ => False
  | .outgrown, _, _ => False

theorem put_below {B l : Nat} (W : World) {o : Obj} (o' : Obj) (h : W.heap[l]? = some o) (hB : B ≤ l) : Below B W (W.putObj l o') :=
  (Below.refl B W).grown (grownBy_putObj' W l o') (by have := (Array.getElem?_eq_some_iff.1 h).1; omega) (fun k e => by cases e; omega)

variable {F : Fence} {n : Nat} {P : Program}

theorem wpIn_rangeFunc_Bx {α : Type} {g : Operand} {ps : Array Tmp} {assign body : Code} {Q : Exit → Act → World → Prop} {a : Act} {w : World}
    (hro : F.round = none) (h1 : 1 ≤ n) {gf : Nat} {lb : Array Value} (hg : a.eval g = .func (.func gf) #[] lb) (hFg : F.fn gf) (eg : ∀ args w, (callFunc gf args).run P w = .ok (.enter gf args) w)
    {encs : α → Array Value} {n₀ : Nat} {S Sp : List α → Prop} {N : Nat} (hn₀ : n₀ ≤ w.heap.size) (hseq : SeqB F (n - 1) P gf lb encs n₀ S Sp N w) (hps : ∀ x, (encs x).size = ps.size)
    (I : List α → World → Prop) (Ix : Code → List α → World → Prop) (hI : Of w.heap.size I) (hIx : ∀ c, Of w.heap.size (Ix c)) (h0 : I [] w) (Ax : α → Act → World → Prop) (hAx : ∀ x a' A B, Ax x a' A → (∀ k, k ≠ w.heap.size + 1 → B.heap[k]? = A.heap[k]?) → Ax x a' B)
    (hassign : ∀ (l : Nat) (pre : List α) (x : α) (W : World) (K : Act → World → Prop), I pre W → w.heap.size + 1 < W.heap.size → (∀ a' W', Kept n₀ w.heap.size W W' → I pre W' → Ax x a' W' → K a' W') →
      assign.wpIn (F.inRound l) (n - 1 - 1) P (Exit.then K (fun _ _ _ => False)) { tmps := (ps.zip (encs x)).foldl (fun t (p, v) => t.setIfInBounds p v) a.tmps, defers := [] } W)
    (hbody : ∀ (l : Nat) (pre : List α) (x : α) (a' : Act) (W : World), I pre W → pre.length < N → w.heap.size + 1 < W.heap.size → Ax x a' W → body.wpIn (F.inRound l) (n - 1 - 1) P (postB n₀ w.heap.size I Ix (pre ++ [x]) W) a' W)
    (hdone : ∀ (D : Nat) (xs : List α) (W : World), w.heap.size ≤ D → S xs → I xs W → W.heap[D]? = some (.deferred (some [])) → Q .normal { a with defers := { target := .collected D, args := #[] } :: a.defers } W)
    (hstop : ∀ (D : Nat) (c : Code) (pre : List α) (W : World), w.heap.size ≤ D → Sp pre → Ix c pre W → W.heap[D]? = some (.deferred (some [])) → c.wpIn F n P Q { a with defers := { target := .collected D, args := #[] } :: a.defers } W) :
    (Code.rangeFunc g ps assign body).wpIn F n P Q a w := by
  refine wpIn_rangeFunc ?_
  intro fn hfn
  rw [hro]
  obtain ⟨rec, hrec⟩ : ∃ rec : LoopState → Option Code → Loop, rec = fun st pe => { state := st, pending := pe, fn, tmps := a.tmps, params := ps, assign, body, defers := w.heap.size } := ⟨_, rfl⟩
  obtain ⟨b0, hb0⟩ : ∃ b0, b0 = w.heap.size := ⟨_, rfl⟩
  obtain ⟨W1, hW1⟩ : ∃ W1, (w.alloc (.deferred (some []))).alloc (.loop (rec .ready none)) = W1 := ⟨_, rfl⟩
  have hZ : W1.heap.size = b0 + 2 := by rw [← hW1, World.size_alloc, World.size_alloc, hb0]
  have hL1 : W1.heap[b0 + 1]? = some (.loop (rec .ready none)) := by
    rw [← hW1, hb0]; have := World.alloc_heap_new (w.alloc (.deferred (some []))) (.loop (rec .ready none)); rwa [World.size_alloc] at this
  have hK1 : W1.heap[b0]? = some (.deferred (some [])) := by
    rw [← hW1, hb0]; exact (Below.heap_alloc _ _ _ (by simp)).trans (World.alloc_heap_new w _)
  have hb1 : Below w.heap.size w W1 := by
    rw [← hW1]; exact ((Below.refl _ w).alloc (Nat.le_refl _) _).alloc (by simp) _
  have hI1 : I [] W1 := hI _ _ _ h0 hb1
  refine ⟨w.heap.size + 1, [{ target := .collected w.heap.size, args := #[] }], W1, { target := .fn (.func gf) lb, args := #[.func (.yield (w.heap.size + 1)) #[] #[]] }, W1, gf,
    #[.func (.yield (w.heap.size + 1)) #[] #[]] ++ lb, W1, ?_, ?_, ?_, ?_, fun _ => h1, ?_⟩
  · rw [← hW1, hrec]; exact run_enterLoop_outer _ _ _ _ _
  · simp only [resolve, hg]
    simp [go_sem]
  · intro f' hf'; simp [Target.leads] at hf'; subst hf'; exact hFg
  · simp [invoke, go_sem, eg]
  · rw [← hb0] at hI hIx hAx hassign hbody hdone hstop hn₀ hrec ⊢
    refine (hseq (b0 + 1)
      (fun pre W => I pre W ∧ W.heap[b0 + 1]? = some (.loop (rec .ready none)) ∧ W.heap[b0]? = some (.deferred (some [])) ∧ b0 ≤ W.heap.size)
      (fun pre W => ∃ c, Ix c pre W ∧ W.heap[b0 + 1]? = some (.loop (rec .done (some c))) ∧ W.heap[b0]? = some (.deferred (some [])))
      W1 hb1
      (fun s A B hs hb => ⟨hI s A B hs.1 (hb.mono (by omega)), (hb.block _ (by omega)).trans hs.2.1, (hb.block _ (by omega)).trans hs.2.2.1, Nat.le_trans hs.2.2.2 hb.size⟩)
      (fun s A B hs hb => by
        obtain ⟨c, hc, hl, hk⟩ := hs
        exact ⟨c, hIx c s A B hc (hb.mono (by omega)), (hb.block _ (by omega)).trans hl, (hb.block _ (by omega)).trans hk⟩)
      ?_ ⟨hI1, hL1, hK1, by omega⟩).mono ?_
    · rintro pre x W ⟨hi, hl, hk, hz⟩ hlen
      have hlt : b0 + 1 < W.heap.size := (Array.getElem?_eq_some_iff.1 hl).1
      have hy := run_yield (P := P) (args := encs x) hl (by rw [hrec]; exact hps x)
      rw [hrec] at hy
      refine ⟨fn, _, assign, body, hy, roundIn_of_wpIn hfn (hassign _ pre x W _ hi hlt fun a1 WA hkA hi hax => ?_)⟩
      have hl0 := hl
      replace hl : WA.heap[b0 + 1]? = some (.loop (rec .ready none)) := (hkA.high _ (by omega) hlt).trans hl
      replace hk : WA.heap[b0]? = some (.deferred (some [])) := (hkA.high _ (by omega) (by omega)).trans hk
      replace hlt : b0 + 1 < WA.heap.size := Nat.lt_of_lt_of_le hlt hkA.size
      replace hz : b0 ≤ WA.heap.size := Nat.le_trans hz hkA.size
      refine ⟨_, run_beginRound hl (by rw [hrec]), ?_⟩
      obtain ⟨W2, hW2⟩ : ∃ W2, WA.putObj (b0 + 1) (.loop { rec .ready none with state := .busy }) = W2 := ⟨_, rfl⟩
      rw [hW2]
      have hl2 : W2.heap[b0 + 1]? = some (.loop { rec .ready none with state := .busy }) := by rw [← hW2]; exact World.putObj_heap_same hlt
      have hk2 : W2.heap[b0]? = some (.deferred (some [])) := by rw [← hW2]; exact (World.putObj_heap_other (by omega)).trans hk
      have hw2 : Kept n₀ W1.heap.size W W2 := by rw [← hW2]; exact (hkA.wider (by omega)).trans (Kept.put _ _ (by omega) (by omega))
      have hax2 : Ax x a1 W2 := by rw [← hW2]; exact hAx _ _ _ _ hax fun k hk => World.putObj_heap_other (by omega)
      have hz2 : b0 + 1 < W2.heap.size := (Array.getElem?_eq_some_iff.1 hl2).1
      have hi2 : I pre W2 := by rw [← hW2]; exact hI _ _ _ hi (put_below _ _ hl (by omega))
      refine wpIn_mono (hbody _ pre x _ _ hi2 hlen hz2 hax2) ?_
      have fin : ∀ (jump : Option Code) (W3 : World), Kept n₀ b0 W2 W3 →
          (Instr.endRound (b0 + 1) jump).run P W3 = .ok (.bool jump.isNone) (W3.putObj (b0 + 1) (.loop (rec (if jump.isNone then .ready else .done) jump))) ∧
          W3.heap[b0 + 1]? = some (.loop { rec .ready none with state := .busy }) ∧
          (W3.putObj (b0 + 1) (.loop (rec (if jump.isNone then .ready else .done) jump))).heap[b0 + 1]? = some (.loop (rec (if jump.isNone then .ready else .done) jump)) ∧
          (W3.putObj (b0 + 1) (.loop (rec (if jump.isNone then .ready else .done) jump))).heap[b0]? = some (.deferred (some [])) := fun jump W3 hk3 => by
        have hl3 := (hk3.high _ (by omega) (Array.getElem?_eq_some_iff.1 hl2).1).trans hl2
        have hk4 := (hk3.high _ (by omega) (Array.getElem?_eq_some_iff.1 hk2).1).trans hk2
        have := run_endRound (P := P) jump hl3
        rw [hrec] at this ⊢
        exact ⟨this, by rw [hrec] at hl3; exact hl3, World.putObj_heap_same (Array.getElem?_eq_some_iff.1 hl3).1, (World.putObj_heap_other (by omega)).trans hk4⟩
      have fin2 : ∀ (o : Obj) (W3 : World), W3.heap[b0 + 1]? = some (.loop { rec .ready none with state := .busy }) → Below b0 W3 (W3.putObj (b0 + 1) o) := fun o W3 h3 => put_below _ _ h3 (by omega)
      rintro e a3 W3 hp
      cases e with
      | normal =>
        obtain ⟨hk3, hi3⟩ := hp
        obtain ⟨hr, hl3, hl4, hk4⟩ := fin none W3 hk3
        refine ⟨_, _, hr, .inl ⟨rfl, ⟨hI _ _ _ hi3 (fin2 _ _ hl3), hl4, hk4, ?_⟩, (hw2.trans (hk3.wider (by omega))).trans (Kept.put _ _ (by omega) (by omega))⟩⟩
        exact Nat.le_trans (Nat.le_of_lt (Nat.lt_of_succ_lt hz2)) (Nat.le_trans hk3.size (Kept.put (n₀ := n₀) (B := b0 + 2) W3 _ (by omega) (by omega)).size)
      | ret =>
        obtain ⟨hk3, hi3⟩ := hp
        obtain ⟨hr, hl3, hl4, hk4⟩ := fin (some .ret) W3 hk3
        exact ⟨_, _, hr, .inr ⟨rfl, .ret, hIx _ _ _ _ hi3 (fin2 _ _ hl3), hl4, hk4⟩⟩
      | exit id =>
        obtain ⟨hk3, hi3⟩ := hp
        obtain ⟨hr, hl3, hl4, hk4⟩ := fin (some (.exit id)) W3 hk3
        exact ⟨_, _, hr, .inr ⟨rfl, .exit id, hIx _ _ _ _ hi3 (fin2 _ _ hl3), hl4, hk4⟩⟩
      | goto t =>
        obtain ⟨hk3, hi3⟩ := hp
        obtain ⟨hr, hl3, hl4, hk4⟩ := fin (some (.goto t)) W3 hk3
        exact ⟨_, _, hr, .inr ⟨rfl, .goto t, hIx _ _ _ _ hi3 (fin2 _ _ hl3), hl4, hk4⟩⟩
      | panic ch => exact hp.elim
      | outgrown => exact hp.elim
    · rintro e W2 ⟨⟨v, rfl⟩, (⟨xs, hS, hi, hl, hk, -⟩ | ⟨pre, hSp, c, hi, hl, hk⟩)⟩
      · exact ⟨none, _, by have := run_endLoop (P := P) hl (by rw [hrec]; simp); rw [hrec] at this; exact this, hdone _ xs _ (Nat.le_refl _) hS (hI _ _ _ hi (put_below _ _ hl (by omega))) ((World.putObj_heap_other (by omega)).trans hk)⟩
      · exact ⟨some c, _, by have := run_endLoop (P := P) hl (by rw [hrec]; simp); rw [hrec] at this; exact this, hstop _ c pre _ (Nat.le_refl _) hSp (hIx c _ _ _ hi (put_below _ _ hl (by omega))) ((World.putObj_heap_other (by omega)).trans hk)⟩

theorem wpIn_rangeFunc_B {α : Type} {g : Operand} {ps : Array Tmp} {assign body : Code} {Q : Exit → Act → World → Prop} {a : Act} {w : World}
    (hro : F.round = none) (h1 : 1 ≤ n) {gf : Nat} {lb : Array Value} (hg : a.eval g = .func (.func gf) #[] lb) (hFg : F.fn gf) (eg : ∀ args w, (callFunc gf args).run P w = .ok (.enter gf args) w)
    {encs : α → Array Value} {n₀ : Nat} {S Sp : List α → Prop} {N : Nat} (hn₀ : n₀ ≤ w.heap.size) (hseq : SeqB F (n - 1) P gf lb encs n₀ S Sp N w) (hps : ∀ x, (encs x).size = ps.size)
    (I : List α → World → Prop) (Ix : Code → List α → World → Prop) (hI : Of w.heap.size I) (hIx : ∀ c, Of w.heap.size (Ix c)) (h0 : I [] w) (a₁ : α → Act)
    (hassign : ∀ (l : Nat) (x : α) (W : World) (K : Act → World → Prop), K (a₁ x) W →
      assign.wpIn (F.inRound l) (n - 1 - 1) P (Exit.then K (fun _ _ _ => False)) { tmps := (ps.zip (encs x)).foldl (fun t (p, v) => t.setIfInBounds p v) a.tmps, defers := [] } W)
    (hbody : ∀ (l : Nat) (pre : List α) (x : α) (W : World), I pre W → pre.length < N → w.heap.size ≤ W.heap.size → body.wpIn (F.inRound l) (n - 1 - 1) P (postB n₀ w.heap.size I Ix (pre ++ [x]) W) (a₁ x) W)
    (hdone : ∀ (D : Nat) (xs : List α) (W : World), w.heap.size ≤ D → S xs → I xs W → W.heap[D]? = some (.deferred (some [])) → Q .normal { a with defers := { target := .collected D, args := #[] } :: a.defers } W)
    (hstop : ∀ (D : Nat) (c : Code) (pre : List α) (W : World), w.heap.size ≤ D → Sp pre → Ix c pre W → W.heap[D]? = some (.deferred (some [])) → c.wpIn F n P Q { a with defers := { target := .collected D, args := #[] } :: a.defers } W) :
    (Code.rangeFunc g ps assign body).wpIn F n P Q a w :=
  wpIn_rangeFunc_Bx hro h1 hg hFg eg hn₀ hseq hps I Ix hI hIx h0 (fun x a' _ => a' = a₁ x) (fun _ _ _ _ h _ => h)
    (fun l pre x W K hi hz hK => hassign l x W K (hK _ _ (Kept.refl _ _ _) hi rfl))
    (fun l pre x a' W hi hlen hz h => by subst h; exact hbody l pre x W hi hlen (by omega)) hdone hstop

end Go.Proofs.YtjofmoebijdccaaGreat.rangeb

namespace Go.Proofs.YtjofmoebijdccaaGreat.rangeb
open Go Go.RowKit
set_option linter.unusedVariables false

/-- W' is W grown; but for block b nothing that was there has turned. -/
structure Ext (b : Nat) (W W' : World) : Prop where
  below : ∀ B, B ≤ W.heap.size → B ≤ b → Below B W W'
  other : ∀ k, k < W.heap.size → k ≠ b → W'.heap[k]? = W.heap[k]?

theorem Ext.size {b : Nat} {W W' : World} (h : Ext b W W') : W.heap.size ≤ W'.heap.size := (h.below 0 (Nat.zero_le _) (Nat.zero_le _)).size
theorem Ext.of {b : Nat} {W W' : World} (h : Below W.heap.size W W') : Ext b W W' := ⟨fun B h1 _ => h.mono h1, fun k hk _ => h.block k hk⟩
theorem Ext.put {b : Nat} (W : World) {o : Obj} (o' : Obj) (h : W.heap[b]? = some o) : Ext b W (W.putObj b o') := ⟨fun B _ h2 => put_below _ _ h h2, fun k _ hk => World.putObj_heap_other (by omega)⟩

def OfA {β : Type} (b : Nat) (J : β → World → Prop) : Prop := ∀ s W W', J s W → Ext b W W' → J s W'

/-- What the body of a round leaves: what lies below n₀, and the range's own two blocks. -/
structure KeptA (n₀ b0 : Nat) (W W' : World) : Prop where
  size : W.heap.size ≤ W'.heap.size
  low : ∀ k, k < n₀ → W'.heap[k]? = W.heap[k]?
  one : W'.heap[b0]? = W.heap[b0]?
  two : W'.heap[b0 + 1]? = W.heap[b0 + 1]?

theorem KeptA.refl (n₀ b0 : Nat) (W : World) : KeptA n₀ b0 W W := ⟨Nat.le_refl _, fun _ _ => rfl, rfl, rfl⟩
theorem KeptA.trans {n₀ b0 : Nat} {W1 W2 W3 : World} (h : KeptA n₀ b0 W1 W2) (k : KeptA n₀ b0 W2 W3) : KeptA n₀ b0 W1 W3 :=
  ⟨Nat.le_trans h.size k.size, fun j hj => (k.low j hj).trans (h.low j hj), k.one.trans h.one, k.two.trans h.two⟩

def SeqA {α : Type} (F : Fence) (n : Nat) (P : Program) (g : Nat) (lb : Array Value) (encs : α → Array Value) (n₀ : Nat) (S Sp : List α → Prop) (N : Nat) (w : World) : Prop :=
  ∀ (l : Nat) (J Jx : List α → World → Prop) (W : World), Below w.heap.size w W → (∀ s W1 W2, J s W1 → Below W1.heap.size W1 W2 → J s W2) → (∀ s W1 W2, Jx s W1 → Below W1.heap.size W1 W2 → Jx s W2) →
    (∀ pre x W1, J pre W1 → pre.length < N → YieldAt F (n - 1) P l (encs x) W1 fun e W' =>
      (e = .returned (.bool true) ∧ J (pre ++ [x]) W' ∧ W1.heap.size ≤ W'.heap.size ∧ ∀ k, k < n₀ → W'.heap[k]? = W1.heap[k]?) ∨ (e = .returned (.bool false) ∧ Jx (pre ++ [x]) W')) →
    J [] W →
    CallsIn F n P g (#[.func (.yield l) #[] #[]] ++ lb) W fun e W' => (∃ v, e = .returned v) ∧ ((∃ xs, S xs ∧ J xs W') ∨ (∃ pre, Sp pre ∧ Jx pre W'))

def postA {α : Type} (n₀ b0 : Nat) (I : List α → World → Prop) (Ix : Code → List α → World → Prop) (xs : List α) (W : World) : Exit → Act → World → Prop
  | .normal, _, W' => KeptA n₀ b0 W W' ∧ I xs W'
  | .ret, _, W' => KeptA n₀ b0 W W' ∧ Ix .ret xs W'
  | .exit id, _, W' => KeptA n₀ b0 W W' ∧ Ix (.exit id) xs W'
  | .goto t, _, W' => KeptA n₀ b0 W W' ∧ Ix (.goto t) xs W'
  | .panic _, _, _ => False
  | .outgrown, _, _ => False

variable {F : Fence} {n : Nat} {P : Program}

theorem wpIn_rangeFunc_Ax {α : Type} {g : Operand} {ps : Array Tmp} {assign body : Code} {Q : Exit → Act → World → Prop} {a : Act} {w : World}
    (hro : F.round = none) (h1 : 1 ≤ n) {gf : Nat} {lb : Array Value} (hg : a.eval g = .func (.func gf) #[] lb) (hFg : F.fn gf) (eg : ∀ args w, (callFunc gf args).run P w = .ok (.enter gf args) w)
    {encs : α → Array Value} {n₀ : Nat} {S Sp : List α → Prop} {N : Nat} (hn₀ : n₀ ≤ w.heap.size) (hseq : SeqA F (n - 1) P gf lb encs n₀ S Sp N w) (hps : ∀ x, (encs x).size = ps.size)
    (I : List α → World → Prop) (Ix : Code → List α → World → Prop) (hI : OfA (w.heap.size + 1) I) (hIx : ∀ c, OfA (w.heap.size + 1) (Ix c)) (h0 : I [] w) (Ax : α → Act → World → Prop) (hAx : ∀ x a' A B, Ax x a' A → (∀ k, k ≠ w.heap.size + 1 → B.heap[k]? = A.heap[k]?) → Ax x a' B)
    (hassign : ∀ (l : Nat) (pre : List α) (x : α) (W : World) (K : Act → World → Prop), I pre W → w.heap.size + 1 < W.heap.size → (∀ a' W', KeptA n₀ w.heap.size W W' → I pre W' → Ax x a' W' → K a' W') →
      assign.wpIn (F.inRound l) (n - 1 - 1) P (Exit.then K (fun _ _ _ => False)) { tmps := (ps.zip (encs x)).foldl (fun t (p, v) => t.setIfInBounds p v) a.tmps, defers := [] } W)
    (hbody : ∀ (l : Nat) (pre : List α) (x : α) (a' : Act) (W : World), I pre W → pre.length < N → w.heap.size + 1 < W.heap.size → Ax x a' W → body.wpIn (F.inRound l) (n - 1 - 1) P (postA n₀ w.heap.size I Ix (pre ++ [x]) W) a' W)
    (hdone : ∀ (D : Nat) (xs : List α) (W : World), w.heap.size ≤ D → S xs → I xs W → W.heap[D]? = some (.deferred (some [])) → Q .normal { a with defers := { target := .collected D, args := #[] } :: a.defers } W)
    (hstop : ∀ (D : Nat) (c : Code) (pre : List α) (W : World), w.heap.size ≤ D → Sp pre → Ix c pre W → W.heap[D]? = some (.deferred (some [])) → c.wpIn F n P Q { a with defers := { target := .collected D, args := #[] } :: a.defers } W) :
    (Code.rangeFunc g ps assign body).wpIn F n P Q a w := by
  refine wpIn_rangeFunc ?_
  intro fn hfn
  rw [hro]
  obtain ⟨rec, hrec⟩ : ∃ rec : LoopState → Option Code → Loop, rec = fun st pe => { state := st, pending := pe, fn, tmps := a.tmps, params := ps, assign, body, defers := w.heap.size } := ⟨_, rfl⟩
  obtain ⟨b0, hb0⟩ : ∃ b0, b0 = w.heap.size := ⟨_, rfl⟩
  obtain ⟨W1, hW1⟩ : ∃ W1, (w.alloc (.deferred (some []))).alloc (.loop (rec .ready none)) = W1 := ⟨_, rfl⟩
  have hZ : W1.heap.size = b0 + 2 := by rw [← hW1, World.size_alloc, World.size_alloc, hb0]
  have hL1 : W1.heap[b0 + 1]? = some (.loop (rec .ready none)) := by
    rw [← hW1, hb0]; have := World.alloc_heap_new (w.alloc (.deferred (some []))) (.loop (rec .ready none)); rwa [World.size_alloc] at this
  have hK1 : W1.heap[b0]? = some (.deferred (some [])) := by
    rw [← hW1, hb0]; exact (Below.heap_alloc _ _ _ (by simp)).trans (World.alloc_heap_new w _)
  have hb1 : Below w.heap.size w W1 := by
    rw [← hW1]; exact ((Below.refl _ w).alloc (Nat.le_refl _) _).alloc (by simp) _
  have hI1 : I [] W1 := hI _ _ _ h0 (Ext.of hb1)
  refine ⟨w.heap.size + 1, [{ target := .collected w.heap.size, args := #[] }], W1, { target := .fn (.func gf) lb, args := #[.func (.yield (w.heap.size + 1)) #[] #[]] }, W1, gf,
    #[.func (.yield (w.heap.size + 1)) #[] #[]] ++ lb, W1, ?_, ?_, ?_, ?_, fun _ => h1, ?_⟩
  · rw [← hW1, hrec]; exact run_enterLoop_outer _ _ _ _ _
  · simp only [resolve, hg]
    simp [go_sem]
  · intro f' hf'; simp [Target.leads] at hf'; subst hf'; exact hFg
  · simp [invoke, go_sem, eg]
  · rw [← hb0] at hI hIx hAx hassign hbody hdone hstop hn₀ hrec ⊢
    refine (hseq (b0 + 1)
      (fun pre W => I pre W ∧ W.heap[b0 + 1]? = some (.loop (rec .ready none)) ∧ W.heap[b0]? = some (.deferred (some [])) ∧ b0 ≤ W.heap.size)
      (fun pre W => ∃ c, Ix c pre W ∧ W.heap[b0 + 1]? = some (.loop (rec .done (some c))) ∧ W.heap[b0]? = some (.deferred (some [])))
      W1 hb1
      (fun s A B hs hb => ⟨hI s A B hs.1 (Ext.of hb), (hb.block _ (Array.getElem?_eq_some_iff.1 hs.2.1).1).trans hs.2.1, (hb.block _ (Array.getElem?_eq_some_iff.1 hs.2.2.1).1).trans hs.2.2.1, Nat.le_trans hs.2.2.2 hb.size⟩)
      (fun s A B hs hb => by
        obtain ⟨c, hc, hl, hk⟩ := hs
        exact ⟨c, hIx c s A B hc (Ext.of hb), (hb.block _ (Array.getElem?_eq_some_iff.1 hl).1).trans hl, (hb.block _ (Array.getElem?_eq_some_iff.1 hk).1).trans hk⟩)
      ?_ ⟨hI1, hL1, hK1, by omega⟩).mono ?_
    · rintro pre x W ⟨hi, hl, hk, hz⟩ hlen
      have hlt : b0 + 1 < W.heap.size := (Array.getElem?_eq_some_iff.1 hl).1
      have hy := run_yield (P := P) (args := encs x) hl (by rw [hrec]; exact hps x)
      rw [hrec] at hy
      refine ⟨fn, _, assign, body, hy, roundIn_of_wpIn hfn (hassign _ pre x W _ hi hlt fun a1 WA hkA hi hax => ?_)⟩
      have hl0 := hl
      replace hl : WA.heap[b0 + 1]? = some (.loop (rec .ready none)) := hkA.two.trans hl
      replace hk : WA.heap[b0]? = some (.deferred (some [])) := hkA.one.trans hk
      replace hlt : b0 + 1 < WA.heap.size := Nat.lt_of_lt_of_le hlt hkA.size
      replace hz : b0 ≤ WA.heap.size := Nat.le_trans hz hkA.size
      refine ⟨_, run_beginRound hl (by rw [hrec]), ?_⟩
      obtain ⟨W2, hW2⟩ : ∃ W2, WA.putObj (b0 + 1) (.loop { rec .ready none with state := .busy }) = W2 := ⟨_, rfl⟩
      rw [hW2]
      have hl2 : W2.heap[b0 + 1]? = some (.loop { rec .ready none with state := .busy }) := by rw [← hW2]; exact World.putObj_heap_same hlt
      have hk2 : W2.heap[b0]? = some (.deferred (some [])) := by rw [← hW2]; exact (World.putObj_heap_other (by omega)).trans hk
      have hw2 : W.heap.size ≤ W2.heap.size ∧ ∀ k, k < n₀ → W2.heap[k]? = W.heap[k]? := by
        rw [← hW2]
        exact ⟨Nat.le_trans hkA.size (by simp [World.putObj]), fun k hk => (World.putObj_heap_other (by omega)).trans (hkA.low k hk)⟩
      have hax2 : Ax x a1 W2 := by rw [← hW2]; exact hAx _ _ _ _ hax fun k hk => World.putObj_heap_other (by omega)
      have hz2 : b0 + 1 < W2.heap.size := (Array.getElem?_eq_some_iff.1 hl2).1
      have hi2 : I pre W2 := by rw [← hW2]; exact hI _ _ _ hi (Ext.put _ _ hl)
      refine wpIn_mono (hbody _ pre x _ _ hi2 hlen hz2 hax2) ?_
      have fin : ∀ (jump : Option Code) (W3 : World), KeptA n₀ b0 W2 W3 →
          (Instr.endRound (b0 + 1) jump).run P W3 = .ok (.bool jump.isNone) (W3.putObj (b0 + 1) (.loop (rec (if jump.isNone then .ready else .done) jump))) ∧
          W3.heap[b0 + 1]? = some (.loop { rec .ready none with state := .busy }) ∧
          (W3.putObj (b0 + 1) (.loop (rec (if jump.isNone then .ready else .done) jump))).heap[b0 + 1]? = some (.loop (rec (if jump.isNone then .ready else .done) jump)) ∧
          (W3.putObj (b0 + 1) (.loop (rec (if jump.isNone then .ready else .done) jump))).heap[b0]? = some (.deferred (some [])) := fun jump W3 hk3 => by
        have hl3 := hk3.two.trans hl2
        have hk4 := hk3.one.trans hk2
        have := run_endRound (P := P) jump hl3
        rw [hrec] at this ⊢
        exact ⟨this, by rw [hrec] at hl3; exact hl3, World.putObj_heap_same (Array.getElem?_eq_some_iff.1 hl3).1, (World.putObj_heap_other (by omega)).trans hk4⟩
      have fin2 : ∀ (o : Obj) (W3 : World), W3.heap[b0 + 1]? = some (.loop { rec .ready none with state := .busy }) → Ext (b0 + 1) W3 (W3.putObj (b0 + 1) o) := fun o W3 h3 => Ext.put _ _ h3
      rintro e a3 W3 hp
      cases e with
      | normal =>
        obtain ⟨hk3, hi3⟩ := hp
        obtain ⟨hr, hl3, hl4, hk4⟩ := fin none W3 hk3
        have hz3 : W3.heap.size ≤ (W3.putObj (b0 + 1) (.loop (rec .ready none))).heap.size := by simp [World.putObj]
        exact ⟨_, _, hr, .inl ⟨rfl, ⟨hI _ _ _ hi3 (fin2 _ _ hl3), hl4, hk4, by have := hk3.size; simp only [Option.isNone_none, if_true]; omega⟩, by have := hk3.size; have := hw2.1; simp only [Option.isNone_none, if_true]; omega, fun k hk => (World.putObj_heap_other (by omega)).trans ((hk3.low k hk).trans (hw2.2 k hk))⟩⟩
      | ret =>
        obtain ⟨hk3, hi3⟩ := hp
        obtain ⟨hr, hl3, hl4, hk4⟩ := fin (some .ret) W3 hk3
        exact ⟨_, _, hr, .inr ⟨rfl, .ret, hIx _ _ _ _ hi3 (fin2 _ _ hl3), hl4, hk4⟩⟩
      | exit id =>
        obtain ⟨hk3, hi3⟩ := hp
        obtain ⟨hr, hl3, hl4, hk4⟩ := fin (some (.exit id)) W3 hk3
        exact ⟨_, _, hr, .inr ⟨rfl, .exit id, hIx _ _ _ _ hi3 (fin2 _ _ hl3), hl4, hk4⟩⟩
      | goto t =>
        obtain ⟨hk3, hi3⟩ := hp
        obtain ⟨hr, hl3, hl4, hk4⟩ := fin (some (.goto t)) W3 hk3
        exact ⟨_, _, hr, .inr ⟨rfl, .goto t, hIx _ _ _ _ hi3 (fin2 _ _ hl3), hl4, hk4⟩⟩
      | panic ch => exact hp.elim
      | outgrown => exact hp.elim
    · rintro e W2 ⟨⟨v, rfl⟩, (⟨xs, hS, hi, hl, hk, -⟩ | ⟨pre, hSp, c, hi, hl, hk⟩)⟩
      · exact ⟨none, _, by have := run_endLoop (P := P) hl (by rw [hrec]; simp); rw [hrec] at this; exact this, hdone _ xs _ (Nat.le_refl _) hS (hI _ _ _ hi (Ext.put _ _ hl)) ((World.putObj_heap_other (by omega)).trans hk)⟩
      · exact ⟨some c, _, by have := run_endLoop (P := P) hl (by rw [hrec]; simp); rw [hrec] at this; exact this, hstop _ c pre _ (Nat.le_refl _) hSp (hIx c _ _ _ hi (Ext.put _ _ hl)) ((World.putObj_heap_other (by omega)).trans hk)⟩


end Go.Proofs.YtjofmoebijdccaaGreat.rangeb

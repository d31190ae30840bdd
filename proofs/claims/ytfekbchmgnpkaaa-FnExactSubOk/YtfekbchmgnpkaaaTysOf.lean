/-
  The program's iterator over a type and all that is within it: what it hands over, from the left; it keeps a stack of its own, and ranges over a list from its end.
-/
import Derived.Test.YtfekbchmgnpkaaaTyAll
import Derived.Test.YtfekbchmgnpkaaaRangeC
import Derived.Test.YtfekbchmgnpkaaaBackTys
import Derived.Shelf.Abstract
import Derived.Shelf.RegionOpen
import Derived.WalkKit
import Derived.OwnWalkIn
import Derived.TacticsInMore
import Derived.LoopNIn
import Derived.LoopIn
import Derived.Sort.LoopGhostIn
import Derived.BigRegionIn
import Derived.Laws.AppendOwnNone
import Derived.Maps.AppendAt
namespace Go.Proofs.Ytfekbchmgnpkaaa.ty
open Go.RowKit Go.Shelf Go.Proofs.Ytfekbchmgnpkaaa.rose Go.Proofs.Ytfekbchmgnpkaaa.rangeb Go.Proofs.Ytfekbchmgnpkaaa
set_option linter.unusedVariables false
set_option linter.unusedSimpArgs false
attribute [local go_sem] Oper.semAt_some

/-- What is handed over: a type, and where its kids lie. -/
structure Part where
  T : TyD
  a : Option Addr
  c : Nat
  n0 : -9223372036854775808 ≤ T.x.2.1
  n1 : T.x.2.1 ≤ 9223372036854775807
  ks : T.kids.length ≤ maxLen

def encV (x : Part) : Value := .agg #[.int .i64 x.T.x.1, .int .i64 x.T.x.2.1, .string x.T.x.2.2, .slice x.a x.T.kids.length x.c]
def enc (x : Part) : Array Value := #[encV x]

theorem Own_kept {w w' : World} {t : TypeId} {base n₀ : Nat} {v : Value} {xs : List TyD} (h : rose.Own tySh t w base (· < n₀) v xs) (hk : Kept n₀ base w w') : rose.Own tySh t w' base (· < n₀) v xs := by
  obtain ⟨css, ⟨hl, hv⟩, hr⟩ := h
  refine ⟨css, ⟨hl, ?_⟩, fun i hi => tySh.on (hr i hi) fun b hS => hk.low b hS⟩
  rcases hv with h0 | ⟨g, cap, cur, h1, h2, h3, h4⟩
  · exact Or.inl h0
  · have hg : g < w.heap.size := by
      rcases Nat.lt_or_ge g w.heap.size with h' | h'
      · exact h'
      · rw [Array.getElem?_eq_none h'] at h3; cases h3
    exact Or.inr ⟨g, cap, cur, h1, h2, by rw [hk.high g h2 hg]; exact h3, h4⟩

theorem shrink {w : World} {base : Nat} {t : TypeId} {k j cap g : Nat} {xs : List Value} (h : w.ownsRow base t k (.slice (some ⟨g, 0, none⟩) (j + 1) cap) (j + 1) xs) : w.ownsRow base t k (.slice (some ⟨g, 0, none⟩) j cap) j (xs.take (j * k)) := by
  obtain ⟨hl, hv⟩ := h
  have hle : j * k ≤ (j + 1) * k := Nat.mul_le_mul_right _ (by omega)
  refine ⟨by rw [List.length_take, hl]; omega, Or.inr ?_⟩
  rcases hv with ⟨h, _⟩ | ⟨g', cap', cur, h1, h2, h3, h4, h5, h6, h7⟩
  · cases h
  · cases h1
    exact ⟨g, cap, cur, rfl, h2, h3, by omega, h5, h6, by rw [← h7, List.take_take, Nat.min_eq_left hle]⟩

theorem flat_take (css : Nat → List Value) (n : Nat) {k : Nat} (h : ∀ i, i < n + 1 → (css i).length = k) : (flat css (n + 1)).take (n * k) = flat css n := by
  rw [flat_succ, List.take_left' (flat_length fun i hi => h i (by omega))]

theorem own_cell {w : World} {base : Nat} {t : TypeId} {k g n cap : Nat} {css : Nat → List Value} (h : w.ownsRow base t k (.slice (some ⟨g, 0, none⟩) n cap) n (flat css n)) (hl : ∀ i, i < n → (css i).length = k) {i q : Nat} {v : Value} (hi : i < n) (hq : (css i)[q]? = some v) : w.cell? ⟨g, i * k + q, none⟩ = some v := by
  rcases h.2 with ⟨h, _⟩ | ⟨g', cap', cur, h1, h2, h3, h4, h5, h6, h7⟩
  · cases h
  · cases h1
    have hqk : q < k := by
      rcases Nat.lt_or_ge q k with h' | h'
      · exact h'
      · rw [List.getElem?_eq_none (by rw [hl i hi]; exact h')] at hq; cases hq
    have hf := flat_get (css := css) (n := n) (k := k) hl hi hqk
    rw [hq, ← h7, List.getElem?_take] at hf
    have hlt : i * k + q < n * k := by
      have := Nat.mul_le_mul_right k (show i + 1 ≤ n by omega)
      rw [Nat.succ_mul] at this; omega
    rw [if_pos hlt] at hf
    simp only [World.cell?, h3]
    rw [Array.getElem?_toList] at hf
    exact hf

theorem row_on {w w' : World} {base : Nat} {t : TypeId} {k n : Nat} {v : Value} {xs : List Value} (h : w.ownsRow base t k v n xs) (hb : ∀ g, base ≤ g → g < w.heap.size → w'.heap[g]? = w.heap[g]?) : w'.ownsRow base t k v n xs := by
  obtain ⟨hl, hv⟩ := h
  refine ⟨hl, ?_⟩
  rcases hv with h0 | ⟨g, cap, cur, h1, h2, h3, h4⟩
  · exact Or.inl h0
  · have hg : g < w.heap.size := by
      rcases Nat.lt_or_ge g w.heap.size with h' | h'
      · exact h'
      · rw [Array.getElem?_eq_none h'] at h3; cases h3
    exact Or.inr ⟨g, cap, cur, h1, h2, by rw [hb g h2 hg]; exact h3, h4⟩

theorem tys_none {w : World} {S : Nat → Prop} {ks : List TyD} {cap : Nat} (h : tySh.slice.rep w S [.slice none ks.length cap] ks) : ks = [] ∧ cap = 0 := by
  obtain ⟨a, c, css, e, h1, -, h5, -⟩ := h
  simp at e
  obtain ⟨rfl, rfl⟩ := e
  have := h5 rfl
  subst this
  exact ⟨List.eq_nil_of_length_eq_zero (by omega), rfl⟩

theorem st_le (st : List TyD) : st.length ≤ (allS st).length := by
  induction st with
  | nil => simp [allS]
  | cons k ks ih => cases k with | mk x q => simp [allS, allT]; omega

theorem stepIn_append {F : Fence} {n : Nat} {P : Program} {o : Oper} {a : Act} {w : World} {K : Act → World → Prop} {Q : Exit → Act → World → Prop} {s x : Operand} {t : TypeId} {v y v' : Value} {w' : World}
    (ho : o.op = .call { callee := .builtin .append, args := #[s, x], argTypes := #[t, t] }) (hs : a.eval s = v) (hx : a.eval x = y) (hrun : (Builtin.append_ #[t, t] o.type #[v, y]).run P w = .ok v' w') (hK : K (a.put o.dst v') w') : Oper.wpIn F n P o a w K Q := by
  unfold Oper.wpIn
  refine ⟨by simp [Oper.about, ho, resolve, Target.leads, Sem.run_pure], ?_⟩
  rw [Oper.semAt_plain F _ _ (by rw [ho]; intro c hc'; cases hc')]
  simp [execOp, ho, resolve, invoke, builtin, hs, hx, hrun, Result.andThen]
  exact hK

theorem info_ty : (Try.prog.info? 29).map (fun i => (i.zero, i.size, i.bytes)) = some (some (.agg #[.int .i64 0, .int .i64 0, .string ⟨#[]⟩, .slice none 0 0]), 4, 56) := by kernel_rfl


theorem stepIn_store {F : Fence} {n : Nat} {P : Program} {o : Oper} {a : Act} {w : World} {K : Act → World → Prop} {Q : Exit → Act → World → Prop} {p x : Operand} {t : TypeId} {v y : Value} {w' : World}
    (ho : o.op = .store t p x) (hs : a.eval p = v) (hx : a.eval x = y) (hrun : (Instr.storeAt t v y).run P w = .ok () w') (hK : K (a.put o.dst undef) w') : Oper.wpIn F n P o a w K Q := by
  unfold Oper.wpIn
  refine ⟨by simp [Oper.about, ho], ?_⟩
  rw [Oper.semAt_plain F _ _ (by rw [ho]; intro c hc'; cases hc')]
  simp [execOp, ho, hs, hx, hrun, Result.andThen]
  exact hK

theorem use_key {G C : Prop} (h : G → C) (k : G) : C := h k

/-- The mark of a range over a function among the deferred calls. -/
def rmark (D : Nat) : Deferred := { target := .collected D, args := #[] }

theorem leaves_rmarks {F : Fence} {n : Nat} {P : Program} {fn : Func} {tmps : Array Value} {R : Ending → World → Prop} {B : Nat} : ∀ (Ds : List Nat) (W : World), Ds.Nodup → (∀ D ∈ Ds, B ≤ D ∧ W.heap[D]? = some (.deferred (some []))) → (∀ W', Below B W W' → LeavesIn F n P fn tmps R [] .returning W') → LeavesInM F n P fn tmps R (Ds.map rmark) .returning W
  | [], W, _, _, h => h W (Below.refl _ _)
  | D :: Ds, W, hn, hD, h => by
    refine ⟨by simp, .inl ⟨_, _, rfl, run_takeDeferred (hD D (by simp)).2, ?_⟩⟩
    have hp := put_below W (.deferred none) (hD D (by simp)).2 (hD D (by simp)).1
    refine leaves_rmarks Ds _ (List.nodup_cons.1 hn).2 (fun D' hD' => ⟨(hD D' (by simp [hD'])).1, ?_⟩) (fun W' hb => h W' (hp.trans hb))
    rw [World.putObj_heap_other (by intro e; exact (List.nodup_cons.1 hn).1 (e ▸ hD'))]
    exact (hD D' (by simp [hD'])).2

/-- The deferred calls are marks of blocks from B on, each once, that hand nothing over. -/
def RMarks (W : World) (B : Nat) (ds : List Deferred) : Prop := ∃ Ds : List Nat, ds = Ds.map rmark ∧ Ds.Nodup ∧ ∀ D ∈ Ds, B ≤ D ∧ W.heap[D]? = some (.deferred (some []))
/-- Marks stay as they were. -/
def MKept (B : Nat) (W W' : World) : Prop := ∀ k, B ≤ k → W.heap[k]? = some (.deferred (some [])) → W'.heap[k]? = W.heap[k]?
theorem MKept.refl (B : Nat) (W : World) : MKept B W W := fun _ _ _ => rfl
theorem MKept.trans {B : Nat} {W1 W2 W3 : World} (h : MKept B W1 W2) (h' : MKept B W2 W3) : MKept B W1 W3 := fun k h1 h2 => (h' k h1 ((h k h1 h2).trans h2)).trans (h k h1 h2)
theorem MKept.of {B : Nat} {W W' : World} (h : ∀ k, B ≤ k → k < W.heap.size → W'.heap[k]? = W.heap[k]?) : MKept B W W' := fun k h1 h2 => h k h1 (Array.getElem?_eq_some_iff.1 h2).1
theorem RMarks.on {W W' : World} {B : Nat} {ds : List Deferred} (h : RMarks W B ds) (hb : MKept B W W') : RMarks W' B ds := by
  obtain ⟨Ds, h1, h2, h3⟩ := h
  exact ⟨Ds, h1, h2, fun D hD => ⟨(h3 D hD).1, (hb D (h3 D hD).1 (h3 D hD).2).trans (h3 D hD).2⟩⟩
theorem RMarks.more {W W' : World} {B D : Nat} {ds : List Deferred} (h : RMarks W B ds) (hb : MKept B W W') (hD : W.heap.size ≤ D) (hB : B ≤ D) (hd : W'.heap[D]? = some (.deferred (some []))) : RMarks W' B (rmark D :: ds) := by
  obtain ⟨Ds, h1, h2, h3⟩ := h
  refine ⟨D :: Ds, by rw [h1]; rfl, List.nodup_cons.2 ⟨fun hm => ?_, h2⟩, fun D' hD' => ?_⟩
  · have := (Array.getElem?_eq_some_iff.1 (h3 D hm).2).1
    omega
  · rcases List.mem_cons.1 hD' with rfl | hm
    · exact ⟨hB, hd⟩
    · exact ⟨(h3 D' hm).1, (hb D' (h3 D' hm).1 (h3 D' hm).2).trans (h3 D' hm).2⟩
theorem RMarks.leave {F : Fence} {n : Nat} {P : Program} {fn : Func} {tmps : Array Value} {R : Ending → World → Prop} {W : World} {B : Nat} {ds : List Deferred} (h : RMarks W B ds) (hl : ∀ W', Below B W W' → LeavesIn F n P fn tmps R [] .returning W') : LeavesInM F n P fn tmps R ds .returning W := by
  obtain ⟨Ds, rfl, h2, h3⟩ := h
  exact leaves_rmarks Ds W h2 h3 hl

/-- WHERE THE GOING-THROUGH STANDS: the box of the stack, the stack, what was handed over, the marks. -/
structure At (W wr : World) (n₀ : Nat) (T : TyD) (J : List Part → World → Prop) (Lb : Nat) (v : Value) (pre : List Part) (st : List TyD) (ds : List Deferred) : Prop where
  all : allT T = pre.map (·.T) ++ allS st.reverse
  box : wr.heap[Lb]? = some (.cells #[v] 27)
  lb : W.heap.size ≤ Lb
  own : rose.Own tySh 29 wr W.heap.size (· < n₀) v st
  ne : v.ownBlock ≠ some Lb
  held : J pre wr
  marks : RMarks wr W.heap.size ds

theorem Own_on2 {w w' : World} {t : TypeId} {base n₀ : Nat} {v : Value} {xs : List TyD} (h : rose.Own tySh t w base (· < n₀) v xs) (hl : ∀ b, b < n₀ → w'.heap[b]? = w.heap[b]?) (hg : ∀ g, v.ownBlock = some g → g < w.heap.size → w'.heap[g]? = w.heap[g]?) : rose.Own tySh t w' base (· < n₀) v xs := by
  obtain ⟨css, ⟨hl2, hv⟩, hr⟩ := h
  refine ⟨css, ⟨hl2, ?_⟩, fun i hi => tySh.on (hr i hi) fun b hS => hl b hS⟩
  rcases hv with h0 | ⟨g, cap, cur, h1, h2, h3, h4⟩
  · exact Or.inl h0
  · have hgz : g < w.heap.size := (Array.getElem?_eq_some_iff.1 h3).1
    exact Or.inr ⟨g, cap, cur, h1, h2, by rw [hg g (by rw [h1]; rfl) hgz]; exact h3, h4⟩

/-- The last type is taken off the stack. -/
theorem Own_pop {w : World} {t : TypeId} {base n₀ g cap : Nat} {st : List TyD} {x : TyD} (h : rose.Own tySh t w base (· < n₀) (.slice (some ⟨g, 0, none⟩) (st.length + 1) cap) (st ++ [x])) : rose.Own tySh t w base (· < n₀) (.slice (some ⟨g, 0, none⟩) st.length cap) st := by
  obtain ⟨css, hown, hr⟩ := h
  simp only [List.length_append, List.length_cons, List.length_nil, Nat.zero_add] at hown hr
  refine ⟨css, ?_, fun i hi => ?_⟩
  · have := shrink hown
    rw [flat_take css st.length (fun i hi => tySh.len (hr i hi))] at this
    exact this
  · have := hr i (by omega)
    rwa [List.getElem_append_left hi] at this

/-- An element's cells are put into the call's own row, at its end. -/
theorem row_put {w : World} {base : Nat} {t : TypeId} {k g n c : Nat} {xs zs cs : List Value} (h : w.ownsRow base t k (.slice (some ⟨g, 0, none⟩) (n + 1) c) (n + 1) (xs ++ zs)) (hx : xs.length = n * k) (hc : cs.length = k) : (w.setCells g (n * k) cs).ownsRow base t k (.slice (some ⟨g, 0, none⟩) (n + 1) c) (n + 1) (xs ++ cs) := by
  obtain ⟨hl, hv⟩ := h
  refine ⟨by rw [List.length_append, hx, hc, Nat.succ_mul], Or.inr ?_⟩
  rcases hv with ⟨h, _⟩ | ⟨g', c', cur, h1, h2, h3, h4, h5, h6, h7⟩
  · cases h
  · cases h1
    have hle : (n + 1) * k ≤ c * k := Nat.mul_le_mul_right _ h4
    obtain ⟨cur', e1, e2⟩ := setCells_block g cs (n * k) w cur h3
    refine ⟨g, c, cur', rfl, h2, e1, h4, h5, by rw [e2, h6], ?_⟩
    have hsz : cur.size = c * k := h6
    apply List.ext_getElem?
    intro j
    rw [List.getElem?_take]
    by_cases hj : j < (n + 1) * k
    · rw [if_pos hj]
      have hcell : (w.setCells g (n * k) cs).cell? ⟨g, j, none⟩ = cur'.toList[j]? := by simp [World.cell?, e1]
      by_cases hjn : j < n * k
      · rw [List.getElem?_append_left (by omega), ← hcell, World.cell?_setCells_out g cs (n * k) w _ (fun _ _ => Or.inl (by simpa using hjn))]
        have h8 := congrArg (fun l => l[j]?) h7
        simp only [List.getElem?_take, if_pos hj] at h8
        rw [List.getElem?_append_left (by omega)] at h8
        rw [← h8]
        simp [World.cell?, h3]
      · rw [List.getElem?_append_right (by omega), hx, ← hcell]
        have hq : j - n * k < cs.length := by rw [hc]; rw [Nat.succ_mul] at hj; omega
        have := World.cell?_setCells_in g cs (n * k) w (fun q hq => by simp [World.cell?, h3, hsz]; rw [Nat.succ_mul] at hle; omega) (j - n * k) hq
        rw [show n * k + (j - n * k) = j by omega] at this
        rw [this, List.getElem?_eq_getElem hq]
    · rw [if_neg hj, List.getElem?_eq_none (by rw [List.length_append, hx, hc]; rw [Nat.succ_mul] at hj; omega)]

theorem own_at {w w' : World} {base : Nat} {t : TypeId} {k g n c : Nat} {xs : List Value} (h : w.ownsRow base t k (.slice (some ⟨g, 0, none⟩) n c) n xs) (hb : w'.heap[g]? = w.heap[g]?) : w'.ownsRow base t k (.slice (some ⟨g, 0, none⟩) n c) n xs := by
  obtain ⟨hl, hv⟩ := h
  refine ⟨hl, ?_⟩
  rcases hv with ⟨h, _⟩ | ⟨g', c', cur, h1, h2, h3, h4⟩
  · cases h
  · cases h1
    exact Or.inr ⟨g, c, cur, rfl, h2, hb.trans h3, h4⟩

/-- WHAT HOLDS WHILE KIDS ARE LAID ON THE STACK. -/
structure Push (W W5 W' : World) (n₀ : Nat) (J' : World → Prop) (Lb Bk : Nat) (v' : Value) (st : List TyD) : Prop where
  size : W5.heap.size ≤ W'.heap.size
  box : W'.heap[Lb]? = some (.cells #[v'] 27)
  own : rose.Own tySh 29 W' W.heap.size (· < n₀) v' st
  ne : ∀ q, v'.ownBlock = some q → q ≠ Lb ∧ q ≠ Bk ∧ q ≠ W5.heap.size ∧ q ≠ W5.heap.size + 1
  low : ∀ b, b < n₀ → W'.heap[b]? = W5.heap[b]?
  kids : W'.heap[Bk]? = W5.heap[Bk]?
  held : J' W'
  marks : MKept W.heap.size W5 W'

theorem Push.ext {W W5 A B : World} {n₀ : Nat} {J' : World → Prop} {Lb Bk : Nat} {v' : Value} {st : List TyD} (h : Push W W5 A n₀ J' Lb Bk v' st) (hJ : ∀ X Y, J' X → Below W.heap.size X Y → J' Y) (hL : Lb < W5.heap.size) (hK : Bk < W5.heap.size) (hn : n₀ ≤ W5.heap.size) (hW : W.heap.size ≤ W5.heap.size) (hb : Ext (W5.heap.size + 1) A B) : Push W W5 B n₀ J' Lb Bk v' st where
  size := Nat.le_trans h.size hb.size
  box := (hb.other Lb (Nat.lt_of_lt_of_le hL h.size) (by omega)).trans h.box
  own := Own_on2 h.own (fun b hlt => hb.other b (by have := h.size; omega) (by omega)) fun g hg hgz => hb.other g hgz (h.ne g hg).2.2.2
  ne := h.ne
  low := fun b hlt => (hb.other b (by have := h.size; omega) (by omega)).trans (h.low b hlt)
  kids := (hb.other Bk (Nat.lt_of_lt_of_le hK h.size) (by omega)).trans h.kids
  held := hJ _ _ h.held (hb.below W.heap.size (Nat.le_trans hW h.size) (by omega))
  marks := fun k h1 h2 => by
    have hk := (Array.getElem?_eq_some_iff.1 h2).1
    exact (hb.other k (Nat.lt_of_lt_of_le hk h.size) (by omega)).trans (h.marks k h1 h2)

set_option maxRecDepth 100000 in
set_option maxHeartbeats 20000000 in
theorem tysOf_stops (F : Fence) (n : Nat) (hF : True) (hro : F = Fence.wide) (hn : 4 ≤ n) (Bt n₀ : Nat) (T : TyD) (cs : List Value) (w : World) (hB : Bt < w.heap.size) (hn0 : n₀ ≤ w.heap.size)
    (hc : CellsAt w Bt 0 cs) (hrep : tySh.rep w (· < n₀) cs T) (hw : wt T ≤ 1048576) :
    SeqC F n Try.prog 69 #[.pointer (some ⟨Bt, 0, none⟩)] enc n₀ (fun xs => xs.map (·.T) = allT T) (fun pre => pre.map (·.T) <+: allT T) (allT T).length w := by
  subst hro
  intro l J Jx W hW hJ hJx hY h0
  have hle := all_le T
  obtain ⟨ti, hti, hzz⟩ := Option.map_eq_some_iff.1 info_ty
  simp only [Prod.mk.injEq] at hzz
  obtain ⟨hz0, hz1, hz2⟩ := hzz
  have TI : Hid (Try.prog.info? 29 = some ti ∧ ti.zero = some (.agg #[.int .i64 0, .int .i64 0, .string ⟨#[]⟩, .slice none 0 0]) ∧ ti.size = 4 ∧ ti.bytes = 56) := ⟨hti, hz0, hz1, hz2⟩
  clear hti hz0 hz1 hz2
  have hrepW : tySh.rep W (· < n₀) cs T := tySh.below hrep (hW.mono hn0)
  obtain ⟨v0, v1, v2, v3, hcs⟩ := ty_list hrep
  have one := tySh.one hrep
  rw [hcs] at hc one hrepW
  have c0 := (hW.cell (p := ⟨Bt, 0, none⟩) hB).trans (hc 0 _ rfl)
  have c1 := (hW.cell (p := ⟨Bt, 1, none⟩) hB).trans (hc 1 _ rfl)
  have c2 := (hW.cell (p := ⟨Bt, 2, none⟩) hB).trans (hc 2 _ rfl)
  have c3 := (hW.cell (p := ⟨Bt, 3, none⟩) hB).trans (hc 3 _ rfl)
  have o0 := one v0 (by simp)
  have o1 := one v1 (by simp)
  have o2 := one v2 (by simp)
  have o3 := one v3 (by simp)
  have HW : Hid (n₀ ≤ W.heap.size) := Nat.le_trans hn0 hW.size
  have HJ : Hid (Of W.heap.size J) := hJ
  have HJX : Hid (Of W.heap.size Jx) := hJx
  have HY : Hid _ := hY
  have A0 : Hid (At W ((W.alloc (.cells #[v0, v1, v2, v3] 29)).alloc (.cells #[.slice (some ⟨W.heap.size, 0, none⟩) 1 1] 27)) n₀ T J (W.heap.size + 1) (.slice (some ⟨W.heap.size, 0, none⟩) 1 1) [] [T] []) := by
    have hb : Below W.heap.size W ((W.alloc (.cells #[v0, v1, v2, v3] 29)).alloc (.cells #[.slice (some ⟨W.heap.size, 0, none⟩) 1 1] 27)) := ((Below.refl _ _).alloc (Nat.le_refl _) _).alloc (by simp) _
    refine ⟨by simp [allS_one], by have := alloc_top (W.alloc (.cells #[v0, v1, v2, v3] 29)) (.cells #[.slice (some ⟨W.heap.size, 0, none⟩) 1 1] 27); simpa using this, by omega, ?_, by simp [Value.ownBlock], HJ.out _ _ _ h0 hb, [], rfl, List.nodup_nil, by simp⟩
    refine ⟨fun _ => [v0, v1, v2, v3], ⟨rfl, Or.inr ⟨W.heap.size, 1, #[v0, v1, v2, v3], rfl, Nat.le_refl _, by rw [Below.heap_alloc _ _ _ (by simp)]; exact alloc_top _ _, Nat.le_refl _, by unfold maxLen; omega, rfl, rfl⟩⟩, fun i hi => ?_⟩
    have : i = 0 := by simp at hi; omega
    subst this
    exact tySh.on hrepW fun b hb' => hb.block b (Nat.lt_of_lt_of_le hb' HW.out)
  clear hY hJ hJx hrep hrepW hc hcs one h0
  refine callsIn_of_wp_marks Try.func69 rfl trivial ?_ rfl
  simp only [Try.ntmps69, List.size_toArray, List.length_cons, List.length_nil, Nat.reduceAdd, Nat.reduceSub, Array.replicate_succ, Array.replicate_zero, List.push_toArray, List.append_toArray, List.nil_append, List.cons_append]
  gi_wp2
  refine wpIn_loop_ghost_k (fun k a' wr => ∃ (ds : List Deferred) (u3 u4 u5 u7 u10 u11 u12 u13 u14 u15 u16 u17 u18 u19 u20 u21 u22 u23 u24 u25 u26 u27 u28 u29 u30 u31 u32 u33 u34 u35 u36 u37 u38 : Value), (∃ (Lb : Nat) (v : Value) (pre : List Part) (st : List TyD), k = (allS st).length ∧ u3 = .pointer (some ⟨Lb, 0, none⟩) ∧ Hid (At W wr n₀ T J Lb v pre st ds)) ∧ a' = { tmps := #[.func (.yield l) #[] #[], .pointer (some ⟨Bt, 0, none⟩), undef, u3, u4, u5, undef, u7, .agg #[v0, v1, v2, v3], .slice (some ⟨W.heap.size, 0, none⟩) 1 1, u10, u11, u12, u13, u14, u15, u16, u17, u18, u19, u20, u21, u22, u23, u24, u25, u26, u27, u28, u29, u30, u31, u32, u33, u34, u35, u36, u37, u38], defers := ds }) ((allT T).length) ?_ ?_
  · exact ⟨[], _, _, _, _, _, _, _, _, _, _, _, _, _, _, _, _, _, _, _, _, _, _, _, _, _, _, _, _, _, _, _, _, _, ⟨W.heap.size + 1, _, [], [T], by rw [allS_one], rfl, A0⟩, rfl⟩
  clear A0
  intro gk a' wr hI
  obtain ⟨ds, u3, u4, u5, u7, u10, u11, u12, u13, u14, u15, u16, u17, u18, u19, u20, u21, u22, u23, u24, u25, u26, u27, u28, u29, u30, u31, u32, u33, u34, u35, u36, u37, u38, ⟨Lb, v, pre, st, hk, rfl, HI⟩, rfl⟩ := hI
  intro _ _ _ _
  have hbx := HI.out.box
  have b0 : wr.cell? ⟨Lb, 0, none⟩ = some v := by simp [World.cell?, hbx]
  rcases List.eq_nil_or_concat st with rfl | ⟨st', t, rfl⟩
  · obtain ⟨a, cap, css, hv, -⟩ := tys_open (HI.out.own.slice (by decide))
    subst hv
    clear hbx
    gi_wp2
    refine HI.out.marks.leave fun W' hb => ?_
    exact ⟨_, results_none rfl _ _ _, ⟨_, rfl⟩, .inl ⟨pre, by have := HI.out.all; simpa [allS] using this.symm, HJ.out _ _ _ HI.out.held hb⟩⟩
  · rw [List.concat_eq_append] at HI hk
    have hlen : (allT T).length = pre.length + (allS (st' ++ t.kids)).length + 1 := by
      rw [HI.out.all, allS_pop, List.length_append, List.length_map, List.length_cons, allS_rev_length]
      simp [allS_append, allS_rev_length]
      omega
    have hkk : gk = (allS (st' ++ t.kids)).length + 1 := by
      rw [hk, ← allS_rev_length, allS_pop, List.length_cons, allS_rev_length]
      simp [allS_append, allS_rev_length]
    obtain ⟨css, hown, hr⟩ := HI.out.own
    obtain ⟨g, cap, hv, hgB, hgz, hc1, hcp⟩ : ∃ g cap, v = .slice (some ⟨g, 0, none⟩) (st'.length + 1) cap ∧ W.heap.size ≤ g ∧ g < wr.heap.size ∧ st'.length + 1 ≤ cap ∧ cap ≤ maxLen := by
      rcases hown.2 with ⟨_, h⟩ | ⟨g, cap, cur, h1, h2, h3, h4, h5, _⟩
      · simp at h
      · exact ⟨g, cap, by rw [h1]; simp, h2, (Array.getElem?_eq_some_iff.1 h3).1, by simpa using h4, h5⟩
    subst hv
    have hst : st'.length ≤ 1048576 := by
      have h1 := st_le st'
      rw [allS_append] at hlen
      simp at hlen
      omega
    have hst2 : st'.length + t.kids.length ≤ 1048576 := by
      have h1 := st_le (st' ++ t.kids)
      simp at h1
      omega
    have hrt := hr st'.length (by simp)
    simp only [List.getElem_append_right (Nat.le_refl _), Nat.sub_self, List.getElem_cons_zero] at hrt
    obtain ⟨x0, x1, x2, ks, ak, ck, hT, hcs, f0, f1, f2, fk⟩ := ty_open hrt
    simp only [List.length_append, List.length_cons, List.length_nil, Nat.zero_add] at hown
    have hcl : ∀ i, i < st'.length + 1 → (css i).length = 4 := fun i hi => tySh.len (hr i (by simpa using hi))
    have e0 : wr.cell? ⟨g, st'.length * 4, none⟩ = some (.int .i64 x0) := own_cell hown hcl (i := st'.length) (q := 0) (v := .int .i64 x0) (by omega) (by rw [hcs]; rfl)
    have e1 : wr.cell? ⟨g, st'.length * 4 + 1, none⟩ = some (.int .i64 x1) := own_cell hown hcl (i := st'.length) (q := 1) (v := .int .i64 x1) (by omega) (by rw [hcs]; rfl)
    have e2 : wr.cell? ⟨g, st'.length * 4 + 2, none⟩ = some (.string x2) := own_cell hown hcl (i := st'.length) (q := 2) (v := .string x2) (by omega) (by rw [hcs]; rfl)
    have e3 : wr.cell? ⟨g, st'.length * 4 + 3, none⟩ = some (.slice ak ks.length ck) := own_cell hown hcl (i := st'.length) (q := 3) (v := .slice ak ks.length ck) (by omega) (by rw [hcs]; rfl)
    subst hT
    simp only [Rose.kids] at hlen hkk hst2
    have hLz : Lb < wr.heap.size := (Array.getElem?_eq_some_iff.1 hbx).1
    have hgL : g ≠ Lb := fun e => HI.out.ne (by rw [← e]; rfl)
    obtain ⟨W1, hW1⟩ : ∃ W1, W1 = wr.alloc (.cells #[.int .i64 x0, .int .i64 x1, .string x2, .slice ak ks.length ck] 29) := ⟨_, rfl⟩
    have hJ1 : J pre W1 := by rw [hW1]; exact HJ.out _ _ _ HI.out.held ((Below.refl _ _).alloc (Nat.le_trans HI.out.lb (Nat.le_of_lt hLz)) _)
    obtain ⟨x, hxT, hxe⟩ : ∃ x : Part, x.T = .mk (x0, x1, x2) ks ∧ enc x = #[.agg #[.int .i64 x0, .int .i64 x1, .string x2, .slice ak ks.length ck]] := ⟨⟨.mk (x0, x1, x2) ks, ak, ck, f1.1, f1.2, by unfold maxLen; simp [Rose.kids]; omega⟩, rfl, rfl⟩
    obtain ⟨fn, tmps, assign, body, hy, hR⟩ := HY.out pre x W1 hJ1 (by omega)
    rw [hxe] at hy
    have HX : Hid (x.T = .mk (x0, x1, x2) ks) := hxT
    rw [hW1] at hy hR
    have FK : Hid (tySh.slice.rep wr (· < n₀) [.slice ak ks.length ck] ks) := fk
    have ALL : Hid (allT T = (pre ++ [x]).map (·.T) ++ allS (st' ++ ks.reverse).reverse) := by
      show _ = _
      rw [HI.out.all, allS_pop, List.map_append, List.map_cons, List.map_nil, HX.out]
      simp [Rose.kids]
    have PRE : Hid ((pre ++ [x]).map (·.T) <+: allT T) := by rw [ALL.out]; exact List.prefix_append _ _
    have HK : Hid (gk = (allS (st' ++ ks)).length + 1) := hkk
    have HL : Hid ((allT T).length = pre.length + (allS (st' ++ ks)).length + 1) := hlen
    have HLB : Hid (W.heap.size ≤ Lb) := HI.out.lb
    clear hrt hown hr hcl hcs fk hxT hxe hJ1 hW1 hkk hlen hk c0 c1 c2 c3 f0 f1 f2
    gi_wp2
    refine ⟨fun _ => by omega, ?_⟩
    refine hR.mono ?_
    rintro e W3 (⟨rfl, hJ3, hk3⟩ | ⟨rfl, hJx3, hk3⟩)
    · have hhi : ∀ q, W.heap.size ≤ q → q < wr.heap.size → W3.heap[q]? = wr.heap[q]? := fun q h1 h2 => (hk3.high q h1 (by simp; omega)).trans (Below.heap_alloc _ _ _ h2)
      have hlo : ∀ b, b < n₀ → W3.heap[b]? = wr.heap[b]? := fun b hb => (hk3.low b hb).trans (Below.heap_alloc _ _ _ (by have h1 := HW.out; have h2 := HLB.out; omega))
      have hz3 : wr.heap.size + 1 ≤ W3.heap.size := Nat.le_trans (by simp) hk3.size
      have hnb : W3.heap[wr.heap.size]? = some (.cells #[.int .i64 x0, .int .i64 x1, .string x2, .slice ak ks.length ck] 29) := (hk3.high wr.heap.size (by have := HLB.out; omega) (by simp)).trans (alloc_top _ _)
      have O3 : Hid (rose.Own tySh 29 W3 W.heap.size (· < n₀) (.slice (some ⟨g, 0, none⟩) st'.length cap) st') := Own_pop (Own_on2 HI.out.own hlo fun q hq hqz => hhi q (by cases hq; exact hgB) hqz)
      have F3 : Hid (tySh.slice.rep W3 (· < n₀) [.slice ak ks.length ck] ks) := tySh.slice.on FK.out fun b hb => hlo b hb
      have M3 : Hid (RMarks W3 W.heap.size ds) := HI.out.marks.on (MKept.of hhi)
      have HJ3 : Hid (J (pre ++ [x]) W3) := hJ3
      have hb3 := (hhi Lb HLB.out hLz).trans hbx
      have b3 : W3.cell? ⟨Lb, 0, none⟩ = some (.slice (some ⟨g, 0, none⟩) (st'.length + 1) cap) := by simp [World.cell?, hb3]
      have z3 : W3.frozen? ⟨Lb, 0, none⟩ = false := by simp [World.frozen?, hb3]
      have n3 : W3.cell? ⟨wr.heap.size, 3, none⟩ = some (.slice ak ks.length ck) := by simp [World.cell?, hnb]
      have HB3 : Hid _ := hb3
      have hL3 : Lb < W3.heap.size := by omega
      have hLn : ¬ wr.heap.size = Lb := by omega
      clear hR hk3 hJ3 hhi hlo hnb hb3 hbx b0 e0 e1 e2 e3 hy FK HI
      obtain ⟨W4, hW4⟩ : ∃ W4, W4 = W3.setCell ⟨Lb, 0, none⟩ (.slice (some ⟨g, 0, none⟩) st'.length cap) := ⟨_, rfl⟩
      have k4 : ∀ q, q ≠ Lb → W4.heap[q]? = W3.heap[q]? := fun q hq => by rw [hW4]; exact Below.heap_setCell _ _ _ _ hq
      have s4 : W4.heap.size = W3.heap.size := by rw [hW4]; exact World.size_setCell _ _ _
      have bx4 : W4.heap[Lb]? = some (.cells #[.slice (some ⟨g, 0, none⟩) st'.length cap] 27) := by
        rw [hW4]
        simp [World.setCell, Array.getElem?_modify, HB3.out]
      have B4 : Hid (Below W.heap.size W3 W4) := by rw [hW4]; exact (Below.refl _ _).setCell (p := ⟨Lb, 0, none⟩) HLB.out _
      have O4 : Hid (rose.Own tySh 29 W4 W.heap.size (· < n₀) (.slice (some ⟨g, 0, none⟩) st'.length cap) st') := Own_on2 O3.out (fun b hb => k4 b (by have h1 := HW.out; have h2 := HLB.out; omega)) fun q hq _ => k4 q (by cases hq; exact hgL)
      have F4 : Hid (tySh.slice.rep W4 (· < n₀) [.slice ak ks.length ck] ks) := tySh.slice.on F3.out fun b hb => k4 b (by have h1 := HW.out; have h2 := HLB.out; omega)
      have M4 : Hid (RMarks W4 W.heap.size ds) := M3.out.on fun k h1 h2 => k4 k (by intro e; subst e; rw [HB3.out] at h2; cases h2)
      have n4 : W4.cell? ⟨wr.heap.size, 3, none⟩ = some (.slice ak ks.length ck) := by rw [World.cell?_of_block (w := W3) (a := ⟨wr.heap.size, 3, none⟩) (k4 _ hLn)]; exact n3
      have HJ4 : Hid (J (pre ++ [x]) W4) := HJ.out _ _ _ HJ3.out B4.out
      have HW4 : Hid (W4 = W3.setCell ⟨Lb, 0, none⟩ (.slice (some ⟨g, 0, none⟩) st'.length cap)) := hW4
      have hcl4 : st'.length ≤ cap := by omega
      rw [hW4] at n4
      gi_wp2
      rw [← hW4]
      refine ⟨trivial, fun _ => by omega, ?_⟩
      refine (backward_in Fence.wide _ trivial rfl _ _ _ _).mono ?_
      rintro e w' ⟨rfl, rfl⟩
      obtain ⟨W5, hW5⟩ : ∃ W5, W5 = W4.alloc (.cells #[.slice ak ks.length ck] 27) := ⟨_, rfl⟩
      have B5 : Below W4.heap.size W4 W5 := by rw [hW5]; exact (Below.refl _ _).alloc (Nat.le_refl _) _
      have z5 : W5.heap.size = W4.heap.size + 1 := by rw [hW5]; simp
      have kb5 : W5.heap[W4.heap.size]? = some (.cells #[.slice ak ks.length ck] 27) := by rw [hW5]; exact alloc_top _ _
      have hn4 : n₀ ≤ W4.heap.size := by have h1 := HW.out; have h2 := HLB.out; omega
      have hWz : W.heap.size ≤ W4.heap.size := by have h2 := HLB.out; omega
      have F5 : tySh.slice.rep W5 (· < n₀) [.slice ak ks.length ck] ks := tySh.slice.on F4.out fun b hb => B5.block b (by omega)
      have M5 : Hid (RMarks W5 W.heap.size ds) := M4.out.on (MKept.of fun k _ hk => B5.block k hk)
      have P5 : Hid (Push W W5 W5 n₀ (J (pre ++ [x])) Lb W4.heap.size (.slice (some ⟨g, 0, none⟩) st'.length cap) st') := by
        refine ⟨Nat.le_refl _, (B5.block Lb (by omega)).trans bx4, Own_on2 O4.out (fun b hb => B5.block b (by omega)) fun q _ hq => B5.block q hq, fun q hq => ?_, fun _ _ => rfl, rfl, HJ.out _ _ _ HJ4.out (B5.mono hWz), MKept.refl _ _⟩
        cases hq
        exact ⟨hgL, by show g ≠ _; omega, by show g ≠ _; omega, by show g ≠ _; omega⟩
      have hks : ks.length ≤ 1048576 := by omega
      have HJJ : Hid (∀ X Y, J (pre ++ [x]) X → Below W.heap.size X Y → J (pre ++ [x]) Y) := fun X Y h1 h2 => HJ.out _ _ _ h1 h2
      have HW5 : Hid (W5 = W4.alloc (.cells #[.slice ak ks.length ck] 27)) := hW5
      clear n4 n3 z3 b3 HB3 O3 F3 M3 HJ3 B4 O4 F4 M4 HJ4 HW4 hW4 k4 bx4 hW5 B5
      have S4 : Hid (W4.heap.size = W3.heap.size) := s4
      have Z5 : Hid (W5.heap.size = W4.heap.size + 1) := z5
      clear s4 z5
      gi_wp2
      rw [← HW5.out]
      have s4 := S4.out
      have z5 := Z5.out
      refine wpIn_rangeFunc_Ex (n₀ := 0) (N := ks.length) rfl (by omega) (gf := 88) (lb := #[.pointer (some ⟨W4.heap.size, 0, none⟩)]) rfl trivial (enters_of Try.func88 (by kernel_rfl) rfl) (Nat.zero_le _)
        (backward_stops Fence.wide _ trivial rfl (by omega) W4.heap.size (· < n₀) ks ak ck W5 kb5 F5 hks) (fun _ => rfl)
        (fun pk W' => ∃ v', Push W W5 W' n₀ (J (pre ++ [x])) Lb W4.heap.size v' (st' ++ pk.map fun (y : KPart W5 (· < n₀)) => y.T))
        (fun _ _ _ => False)
        (fun s A B hs hb => by obtain ⟨v', h⟩ := hs; exact ⟨v', h.ext HJJ.out (by omega) (by omega) (by omega) (by omega) hb⟩)
        (fun _ _ _ _ hs _ => hs)
        ⟨_, by simpa using P5.out⟩
        (fun pk W' hs b hb => by
          obtain ⟨v', h⟩ := hs
          rcases hb with hb | rfl
          · exact h.low b hb
          · exact h.kids)
        (fun y a' W' => ∃ (Bx : Nat) (y0 y1 y2 y4 y5 y6 y8 y9 y10 y11 y12 y13 y14 y15 y16 y17 y18 y19 y20 y21 y22 y23 y24 y25 y26 y27 y28 y29 y30 y31 y32 y33 y34 y35 y36 y37 y38 : Value), W5.heap.size + 1 < Bx ∧ W'.heap[Bx]? = some (.cells #[.int .i64 y.T.x.1, .int .i64 y.T.x.2.1, .string y.T.x.2.2, .slice y.a y.T.kids.length y.c] 29) ∧ (∀ v', W'.heap[Lb]? = some (.cells #[v'] 27) → v'.ownBlock ≠ some Bx) ∧ a' = { tmps := #[y0, y1, y2, .pointer (some ⟨Lb, 0, none⟩), y4, y5, y6, .pointer (some ⟨Bx, 0, none⟩), y8, y9, y10, y11, y12, y13, y14, y15, y16, y17, y18, y19, y20, y21, y22, y23, y24, y25, y26, y27, y28, y29, y30, y31, y32, y33, y34, y35, y36, y37, y38], defers := [] })
        (fun y a' A B hA hb => by
          obtain ⟨Bx, y0, y1, y2, y4, y5, y6, y8, y9, y10, y11, y12, y13, y14, y15, y16, y17, y18, y19, y20, y21, y22, y23, y24, y25, y26, y27, y28, y29, y30, y31, y32, y33, y34, y35, y36, y37, y38, h1, h2, h3, h4⟩ := hA
          exact ⟨Bx, _, _, _, _, _, _, _, _, _, _, _, _, _, _, _, _, _, _, _, _, _, _, _, _, _, _, _, _, _, _, _, _, _, _, _, _, _, h1, (hb Bx (by omega)).trans h2, fun v' hv => h3 v' ((hb Lb (by omega)).symm.trans hv), h4⟩) ?assign ?body ?done ?stop
      case assign =>
        intro l pk y W' K hi hz hK
        obtain ⟨v', h⟩ := hi
        simp only [encK]
        gi_wp2
        have hb : Below W'.heap.size W' (W'.alloc (.cells #[.int .i64 y.T.x.1, .int .i64 y.T.x.2.1, .string y.T.x.2.2, .slice y.a y.T.kids.length y.c] 29)) := (Below.refl _ _).alloc (Nat.le_refl _) _
        have hP := h.ext HJJ.out (by omega) (by omega) (by omega) (by omega) (Ext.of (b := W5.heap.size + 1) hb)
        refine hK _ _ ⟨hb.size, fun q hq => absurd hq (Nat.not_lt_zero _), hb.block _ (by omega), hb.block _ (by omega)⟩ ⟨v', hP⟩ ⟨W'.heap.size, _, _, _, _, _, _, _, _, _, _, _, _, _, _, _, _, _, _, _, _, _, _, _, _, _, _, _, _, _, _, _, _, _, _, _, _, _, by omega, alloc_top _ _, fun v2 hv2 e => ?_, rfl⟩
        rw [hP.box] at hv2
        simp only [Option.some.injEq, Obj.cells.injEq, Array.mk.injEq, List.cons.injEq, and_true] at hv2
        subst hv2
        obtain ⟨css, hown, -⟩ := h.own
        have := (World.ownsRow.lt hown _ e).2
        omega
      case body =>
        rintro l pk y a' W' ⟨v', hP⟩ hlen hz ⟨Bx, y0, y1, y2, y4, y5, y6, y8, y9, y10, y11, y12, y13, y14, y15, y16, y17, y18, y19, y20, y21, y22, y23, y24, y25, y26, y27, y28, y29, y30, y31, y32, y33, y34, y35, y36, y37, y38, hBx, hbx, hvx, rfl⟩
        have g0 : W'.cell? ⟨Bx, 0, none⟩ = some (.int .i64 y.T.x.1) := by simp [World.cell?, hbx]
        have g1 : W'.cell? ⟨Bx, 1, none⟩ = some (.int .i64 y.T.x.2.1) := by simp [World.cell?, hbx]
        have g2 : W'.cell? ⟨Bx, 2, none⟩ = some (.string y.T.x.2.2) := by simp [World.cell?, hbx]
        have g3 : W'.cell? ⟨Bx, 3, none⟩ = some (.slice y.a y.T.kids.length y.c) := by simp [World.cell?, hbx]
        have hpb := hP.box
        have b0 : W'.cell? ⟨Lb, 0, none⟩ = some v' := by simp [World.cell?, hpb]
        have b1 : W'.frozen? ⟨Lb, 0, none⟩ = false := by simp [World.frozen?, hpb]
        obtain ⟨css, hown, hr⟩ := hP.own
        obtain ⟨m, hm⟩ : ∃ m, m = (st' ++ pk.map fun (y : KPart W5 (· < n₀)) => y.T).length := ⟨_, rfl⟩
        rw [← hm] at hown
        have hmB : m ≤ 1048576 := by
          have h1 := hlen
          simp at hm
          omega
        obtain ⟨a1, cp1, hv1⟩ : ∃ a1 cp1, v' = .slice a1 m cp1 := by
          rcases hown.2 with ⟨h, h0⟩ | ⟨g', c', cur, h, _⟩
          · exact ⟨_, _, by rw [h, h0]⟩
          · exact ⟨_, _, h⟩
        obtain ⟨Wz, hWz⟩ : ∃ Wz, Wz = (W'.alloc (.cells #[.int .i64 0, .int .i64 0, .string ⟨#[]⟩, .slice none 0 0] 29)).drew := ⟨_, rfl⟩
        have BZ : Below W'.heap.size W' Wz := by rw [hWz]; exact ((Below.refl _ _).alloc (Nat.le_refl _) _).drew
        have sz : Wz.heap.size = W'.heap.size + 1 := by rw [hWz]; show (World.alloc _ _).heap.size = _; simp
        have cz : Wz.heap[W'.heap.size]? = some (.cells #[.int .i64 0, .int .i64 0, .string ⟨#[]⟩, .slice none 0 0] 29) := by rw [hWz]; exact alloc_top W' _
        have hownz : Wz.ownsRow W.heap.size 29 4 v' m (flat css m) := row_on hown fun q _ hq => BZ.block q hq
        obtain ⟨v2, w2, hrun, hown2, hgrow2, -, hat2⟩ := run_append_own_at (P := Try.prog) Wz W.heap.size 27 27 29 ti _ 4 56 Try.underlying27 TI.out.1 TI.out.2.1 TI.out.2.2.1 TI.out.2.2.2 rfl (by decide) v' m _ hownz ⟨W'.heap.size, 0, none⟩ 1 1 [.int .i64 0, .int .i64 0, .string ⟨#[]⟩, .slice none 0 0] rfl (fun q u hq => by
            rw [add_plain, Nat.zero_add]
            simp only [World.cell?, cz]
            simpa using hq) (by simp [Value.oneCell']) (by unfold maxLen; omega) (by omega) (by have h1 := hP.size; omega)
        obtain ⟨g2, c2, hv2⟩ : ∃ g2 c2, v2 = .slice (some ⟨g2, 0, none⟩) (m + 1) c2 := by
          rcases hown2.2 with ⟨h, h0⟩ | ⟨g', c', cur, h, _⟩
          · omega
          · exact ⟨_, _, h⟩
        subst hv1 hv2
        rw [hWz] at hrun
        have HOWN2 : Hid _ := hown2
        have HG2 : Hid _ := hgrow2
        have HAT : Hid _ := hat2
        have HWZ : Hid (Wz = (W'.alloc (.cells #[.int .i64 0, .int .i64 0, .string ⟨#[]⟩, .slice none 0 0] 29)).drew) := hWz
        have HPP : Hid _ := hP
        have HLEN : Hid _ := hlen
        have HVX : Hid _ := hvx
        have hLz' : Lb < W'.heap.size := (Array.getElem?_eq_some_iff.1 hpb).1
        have hBz' : Bx < W'.heap.size := (Array.getElem?_eq_some_iff.1 hbx).1
        have BZZ : Hid (Below W'.heap.size W' Wz) := BZ
        have SZ : Hid (Wz.heap.size = W'.heap.size + 1) := sz
        have HR : Hid (∀ i (h : i < (st' ++ pk.map fun (y : KPart W5 (· < n₀)) => y.T).length), tySh.rep W' (· < n₀) (css i) (st' ++ pk.map fun (y : KPart W5 (· < n₀)) => y.T)[i]) := hr
        have HOWN : Hid (W'.ownsRow W.heap.size 29 4 (.slice a1 m cp1) m (flat css m)) := hown
        clear hown hownz hown2 hgrow2 hat2 hWz hP hlen hvx hpb hbx BZ sz cz hr
        have hg2 : g2 ≠ Lb ∧ g2 ≠ W4.heap.size ∧ g2 ≠ W5.heap.size ∧ g2 ≠ W5.heap.size + 1 ∧ W.heap.size ≤ g2 := by
          have hw2 := (World.ownsRow.lt HOWN2.out g2 rfl).1
          rcases HAT.out with h | h
          · have := HPP.out.ne g2 (by rw [← h]; rfl)
            exact ⟨this.1, this.2.1, this.2.2.1, this.2.2.2, hw2⟩
          · have h1 : g2 = Wz.heap.size := Option.some.inj h
            have h2 : Wz.heap.size = W'.heap.size + 1 := by rw [HWZ.out]; show (World.alloc _ _).heap.size = _; simp
            have h3 := HPP.out.size
            have h4 := Z5.out
            exact ⟨by omega, by omega, by omega, by omega, hw2⟩
        have HST : Hid (∀ X : World, X.heap[g2]? = w2.heap[g2]? → (Instr.storeAt 29 (.pointer (some ⟨g2, m * 4, none⟩)) (.agg #[.int .i64 y.T.x.1, .int .i64 y.T.x.2.1, .string y.T.x.2.2, .slice y.a y.T.kids.length y.c])).run Try.prog X = .ok () (X.setCells g2 (m * 4) [.int .i64 y.T.x.1, .int .i64 y.T.x.2.1, .string y.T.x.2.2, .slice y.a y.T.kids.length y.c])) := fun X hX => by
          rcases HOWN2.out.2 with ⟨h, _⟩ | ⟨g', c', cur, h1, h2, h3, h4, h5, h6, h7⟩
          · cases h
          · cases h1
            rw [h3] at hX
            have := run_storeCells_cells (P := Try.prog) g2 (m * 4) [.int .i64 y.T.x.1, .int .i64 y.T.x.2.1, .string y.T.x.2.2, .slice y.a y.T.kids.length y.c] 0 X (fun q hq => by simp [World.cell?, hX]; simp at hq; omega) (fun q hq => by simp [World.frozen?, hX]) (by simp [Value.oneCell'])
            have e : Sem.run Try.prog (storeCells ⟨g2, m * 4, none⟩ [.int .i64 y.T.x.1, .int .i64 y.T.x.2.1, .string y.T.x.2.2, .slice y.a y.T.kids.length y.c]) X = .ok () (X.setCells g2 (m * 4) [.int .i64 y.T.x.1, .int .i64 y.T.x.2.1, .string y.T.x.2.2, .slice y.a y.T.kids.length y.c]) := by simpa using this
            have hcs : (Value.agg #[.int .i64 y.T.x.1, .int .i64 y.T.x.2.1, .string y.T.x.2.2, .slice y.a y.T.kids.length y.c]).cells = #[.int .i64 y.T.x.1, .int .i64 y.T.x.2.1, .string y.T.x.2.2, .slice y.a y.T.kids.length y.c] := rfl
            simp only [Instr.storeAt, Instr.sureAddr, storeVar, Sem.run_bind, Sem.run_pure, Result.andThen_ok, sizeOf, typeInfo, run_program, TI.out.1, TI.out.2.2.1, hcs]
            simp only [List.size_toArray, List.length_cons, List.length_nil, Nat.reduceAdd, ne_eq, not_true_eq_false, if_false]
            first | exact e | simpa using e | (simp; exact e)
        have HFIN : Hid (∀ X : World, Below W.heap.size w2 X → X.heap[Lb]? = some (.cells #[.slice (some ⟨g2, 0, none⟩) (m + 1) c2] 27) → X.ownsRow W.heap.size 29 4 (.slice (some ⟨g2, 0, none⟩) (m + 1) c2) (m + 1) (flat css m ++ [.int .i64 y.T.x.1, .int .i64 y.T.x.2.1, .string y.T.x.2.2, .slice y.a y.T.kids.length y.c]) → (∀ q, q ≠ Lb → q ≠ g2 → X.heap[q]? = w2.heap[q]?) →
            KeptA 0 W5.heap.size W' X ∧ ∃ v', Push W W5 X n₀ (J (pre ++ [x])) Lb W4.heap.size v' (st' ++ (pk ++ [y]).map fun (y : KPart W5 (· < n₀)) => y.T)) := by
          intro X hB hL hrow hoth
          have hwz : Wz.heap.size = W'.heap.size + 1 := SZ.out
          have hzz := HG2.out.size
          have hxs := hB.size
          have hP := HPP.out
          have keep : ∀ q, q < W'.heap.size → q ≠ Lb → q ≠ g2 → (Value.slice a1 m cp1).ownBlock ≠ some q → X.heap[q]? = W'.heap[q]? := fun q h1 h2 h3 h4 => by
            rw [hoth q h2 h3, HG2.out.block q (by omega) (fun e => h4 e.symm)]
            exact BZZ.out.block q h1
          have hrowB : ∀ q, (Value.slice a1 m cp1).ownBlock = some q → W.heap.size ≤ q ∧ ∃ cur, W'.heap[q]? = some (.cells cur 29 (0, 0)) := fun q hq => by
            rcases HOWN.out.2 with ⟨h, _⟩ | ⟨g', c', cur, h1, h2, h3, _⟩
            · rw [h] at hq; cases hq
            · rw [h1] at hq; cases hq; exact ⟨h2, cur, h3⟩
          have hlowX : ∀ b, b < n₀ → X.heap[b]? = W'.heap[b]? := fun b hb => keep b (by have := hP.size; omega) (by have := HLB.out; have := HW.out; omega) (by have := hg2.2.2.2.2; have := HW.out; omega) (fun e => by have := (hrowB b e).1; have := HW.out; omega)
          have hBX : Below W.heap.size W' X := by
            refine ((BZZ.out.mono (by have := hP.size; omega)).grown HG2.out (by have := hP.size; omega) fun q e => (hrowB q e).1).trans hB
          refine ⟨⟨by omega, fun q hq => absurd hq (Nat.not_lt_zero _), keep _ (by omega) (by omega) (Ne.symm hg2.2.2.1) (fun e => (hP.ne _ e).2.2.1 rfl), keep _ (by omega) (by omega) (Ne.symm hg2.2.2.2.1) (fun e => (hP.ne _ e).2.2.2 rfl)⟩, .slice (some ⟨g2, 0, none⟩) (m + 1) c2, ?_⟩
          refine ⟨by have := hP.size; omega, hL, ?_, ?_, fun b hb => (hlowX b hb).trans (hP.low b hb), (keep _ (by omega) (by omega) (Ne.symm hg2.2.1) (fun e => (hP.ne _ e).2.1 rfl)).trans hP.kids, HJJ.out _ _ hP.held hBX, ?_⟩
          · have hl1 : (st' ++ (pk ++ [y]).map fun (y : KPart W5 (· < n₀)) => y.T) = (st' ++ pk.map fun (y : KPart W5 (· < n₀)) => y.T) ++ [y.T] := by simp
            rw [hl1]
            have hl2 : ((st' ++ pk.map fun (y : KPart W5 (· < n₀)) => y.T) ++ [y.T]).length = m + 1 := by rw [List.length_append, ← hm]; rfl
            refine ⟨fun i => if i < m then css i else (fun _ => [.int .i64 y.T.x.1, .int .i64 y.T.x.2.1, .string y.T.x.2.2, .slice y.a y.T.kids.length y.c]) (i - m), ?_, fun i hi => ?_⟩
            · rw [hl2, flat_append css (fun _ => [.int .i64 y.T.x.1, .int .i64 y.T.x.2.1, .string y.T.x.2.2, .slice y.a y.T.kids.length y.c]) m 1, show flat (fun _ => [.int .i64 y.T.x.1, .int .i64 y.T.x.2.1, .string y.T.x.2.2, .slice y.a y.T.kids.length y.c]) 1 = [.int .i64 y.T.x.1, .int .i64 y.T.x.2.1, .string y.T.x.2.2, .slice y.a y.T.kids.length y.c] by simp [flat]]
              exact hrow
            · by_cases hlt : i < m
              · simp only [if_pos hlt]
                rw [List.getElem_append_left (by rw [← hm]; exact hlt)]
                exact tySh.on (HR.out i (by rw [← hm]; exact hlt)) fun b hb => hlowX b hb
              · have hie : i = m := by rw [hl2] at hi; omega
                subst hie
                simp only [if_neg (Nat.lt_irrefl _)]
                rw [List.getElem_append_right (by rw [← hm]; exact Nat.le_refl _)]
                simp only [← hm, Nat.sub_self, List.getElem_cons_zero]
                exact tySh.on y.rep fun b hb => (hlowX b hb).trans (hP.low b hb)
          · intro q hq
            cases hq
            exact ⟨hg2.1, hg2.2.1, hg2.2.2.1, hg2.2.2.2.1⟩
          · intro k h1 h2
            have h3 := hP.marks k h1 h2
            rw [h2] at h3
            have hk : k < W'.heap.size := (Array.getElem?_eq_some_iff.1 h3).1
            have hno : (Value.slice a1 m cp1).ownBlock ≠ some k := fun e => by
              obtain ⟨-, cur, hcur⟩ := hrowB k e
              rw [h3] at hcur; cases hcur
            rw [keep k hk (by intro e; subst e; rw [hP.box] at h3; cases h3) (by
              intro e
              subst e
              rcases HAT.out with h | h
              · exact hno h.symm
              · have : k = Wz.heap.size := Option.some.inj h
                omega) hno, h3, h2]
        have z2 : w2.cell? ⟨Lb, 0, none⟩ = some (.slice a1 m cp1) := by
          rw [World.cell?_of_block (w := Wz) (a := ⟨Lb, 0, none⟩) (HG2.out.block Lb (by have := SZ.out; omega) (fun e => (HPP.out.ne Lb e.symm).1 rfl)), World.cell?_of_block (w := W') (a := ⟨Lb, 0, none⟩) (BZZ.out.block Lb hLz')]
          exact b0
        have z3 : w2.frozen? ⟨Lb, 0, none⟩ = false := by
          rw [World.frozen?_of_block (w := Wz) (a := ⟨Lb, 0, none⟩) (HG2.out.block Lb (by have := SZ.out; omega) (fun e => (HPP.out.ne Lb e.symm).1 rfl)), World.frozen?_of_block (w := W') (a := ⟨Lb, 0, none⟩) (BZZ.out.block Lb hLz')]
          exact b1
        have hst1 := HST.out w2 rfl
        have hst2 := HST.out (w2.setCell ⟨Lb, 0, none⟩ (.slice (some ⟨g2, 0, none⟩) (m + 1) c2)) (Below.heap_setCell _ _ _ _ hg2.1)
        have z4 : (w2.setCells g2 (m * 4) [.int .i64 y.T.x.1, .int .i64 y.T.x.2.1, .string y.T.x.2.2, .slice y.a y.T.kids.length y.c]).cell? ⟨Lb, 0, none⟩ = some (.slice a1 m cp1) := by rw [World.cell?_of_block (w := w2) (a := ⟨Lb, 0, none⟩) (setCells_other g2 (Ne.symm hg2.1) _ _ _)]; exact z2
        have z5 : (w2.setCells g2 (m * 4) [.int .i64 y.T.x.1, .int .i64 y.T.x.2.1, .string y.T.x.2.2, .slice y.a y.T.kids.length y.c]).frozen? ⟨Lb, 0, none⟩ = false := by rw [World.frozen?_of_block (w := w2) (a := ⟨Lb, 0, none⟩) (setCells_other g2 (Ne.symm hg2.1) _ _ _)]; exact z3
        have hgW : W.heap.size ≤ g2 := hg2.2.2.2.2
        have hxf : (flat css m).length = m * 4 := by rw [flat_length (k := 4)]; intro i hi; exact tySh.len (HR.out i (by rw [← hm]; exact hi))
        have hL2 : w2.heap[Lb]? = some (.cells #[.slice a1 m cp1] 27) := by
          rw [HG2.out.block Lb (by have := SZ.out; omega) (fun e => (HPP.out.ne Lb e.symm).1 rfl), BZZ.out.block Lb hLz']
          exact HPP.out.box
        have put_box : ∀ X : World, X.heap[Lb]? = some (.cells #[.slice a1 m cp1] 27) → (X.setCell ⟨Lb, 0, none⟩ (.slice (some ⟨g2, 0, none⟩) (m + 1) c2)).heap[Lb]? = some (.cells #[.slice (some ⟨g2, 0, none⟩) (m + 1) c2] 27) := fun X hX => by
          simp [World.setCell, Array.getElem?_modify, hX]
        have FA : Hid (KeptA 0 W5.heap.size W' ((w2.setCells g2 (m * 4) [.int .i64 y.T.x.1, .int .i64 y.T.x.2.1, .string y.T.x.2.2, .slice y.a y.T.kids.length y.c]).setCell ⟨Lb, 0, none⟩ (.slice (some ⟨g2, 0, none⟩) (m + 1) c2)) ∧ ∃ v', Push W W5 ((w2.setCells g2 (m * 4) [.int .i64 y.T.x.1, .int .i64 y.T.x.2.1, .string y.T.x.2.2, .slice y.a y.T.kids.length y.c]).setCell ⟨Lb, 0, none⟩ (.slice (some ⟨g2, 0, none⟩) (m + 1) c2)) n₀ (J (pre ++ [x])) Lb W4.heap.size v' (st' ++ (pk ++ [y]).map fun (y : KPart W5 (· < n₀)) => y.T)) :=
          HFIN.out _ ((setCells_below hgW _ _).setCell (p := ⟨Lb, 0, none⟩) HLB.out _) (put_box _ ((setCells_other g2 (Ne.symm hg2.1) _ _ _).trans hL2)) (own_at (row_put HOWN2.out hxf rfl) (Below.heap_setCell _ _ _ _ hg2.1)) (fun q h1 h2 => (Below.heap_setCell _ _ _ _ h1).trans (setCells_other g2 h2 _ _ _))
        have FB : Hid (KeptA 0 W5.heap.size W' ((w2.setCell ⟨Lb, 0, none⟩ (.slice (some ⟨g2, 0, none⟩) (m + 1) c2)).setCells g2 (m * 4) [.int .i64 y.T.x.1, .int .i64 y.T.x.2.1, .string y.T.x.2.2, .slice y.a y.T.kids.length y.c]) ∧ ∃ v', Push W W5 ((w2.setCell ⟨Lb, 0, none⟩ (.slice (some ⟨g2, 0, none⟩) (m + 1) c2)).setCells g2 (m * 4) [.int .i64 y.T.x.1, .int .i64 y.T.x.2.1, .string y.T.x.2.2, .slice y.a y.T.kids.length y.c]) n₀ (J (pre ++ [x])) Lb W4.heap.size v' (st' ++ (pk ++ [y]).map fun (y : KPart W5 (· < n₀)) => y.T)) :=
          HFIN.out _ (((Below.refl _ _).setCell (p := ⟨Lb, 0, none⟩) HLB.out _).trans (setCells_below hgW _ _)) ((setCells_other g2 (Ne.symm hg2.1) _ _ _).trans (put_box _ hL2)) (row_put (own_at HOWN2.out (Below.heap_setCell _ _ _ _ hg2.1)) hxf rfl) (fun q h1 h2 => (setCells_other g2 h2 _ _ _).trans (Below.heap_setCell _ _ _ _ h1))
        clear hL2 put_box hxf
        have HM : Hid (m = (st' ++ pk.map fun (y : KPart W5 (· < n₀)) => y.T).length) := hm
        have q1 : (0 : Int) ≤ (m : Int) ∧ (m : Int) < (m : Int) + 1 := by omega
        clear hm
        have HRUN : Hid _ := hrun
        have HS1 : Hid _ := hst1
        have HS2 : Hid _ := hst2
        have ZZ : Hid _ := And.intro z2 (And.intro z3 (And.intro z4 z5))
        have HG2' : Hid _ := hg2
        clear hrun hst1 hst2 z2 z3 z4 z5 hg2 b1
        gi_wp2
        refine wpIn_region_any (by kernel_rfl) ?_
        change wpAnyIn _ _ _ _ _ _ _ _ _ (World.drew _)
        refine' use_key (fun KEY => ?walk) ?rest
        case walk =>
         refine wpAnyIn_ready (rs := [0, 1, 3]) (by kernel_rfl) (by simp) ?_
         refine AllReadyIn.cons rfl (fun K hK => ?_) (AllReadyIn.cons rfl (fun K hK => ?_) (AllReadyIn.cons rfl (fun K hK => ?_) AllReadyIn.nil))
         · go_simp
           refine hK _ _ ?_
           clear hK K
           refine wpAnyIn_ready (rs := [1, 2, 3]) (by kernel_rfl) (by simp) ?_
           refine AllReadyIn.cons rfl (fun K hK => ?_) (AllReadyIn.cons rfl (fun K hK => ?_) (AllReadyIn.cons rfl (fun K hK => ?_) AllReadyIn.nil))
           · go_simp
             refine hK _ _ ?_
             clear hK K
             refine wpAnyIn_ready (rs := [2, 3]) (by kernel_rfl) (by simp) ?_
             refine AllReadyIn.cons rfl (fun K hK => ?_) (AllReadyIn.cons rfl (fun K hK => ?_) AllReadyIn.nil)
             · go_simp
               refine hK _ _ ?_
               clear hK K
               refine wpAnyIn_ready (rs := [3]) (by kernel_rfl) (by simp) ?_
               refine AllReadyIn.cons rfl (fun K hK => ?_) AllReadyIn.nil
               go_simp
               refine hK _ _ ?_
               clear hK K
               exact KEY
             · go_simp
               refine hK _ _ ?_
               clear hK K
               refine wpAnyIn_ready (rs := [2]) (by kernel_rfl) (by simp) ?_
               refine AllReadyIn.cons rfl (fun K hK => ?_) AllReadyIn.nil
               go_simp
               refine hK _ _ ?_
               clear hK K
               exact KEY
           · go_simp
             refine hK _ _ ?_
             clear hK K
             refine wpAnyIn_ready (rs := [1, 3]) (by kernel_rfl) (by simp) ?_
             refine AllReadyIn.cons rfl (fun K hK => ?_) (AllReadyIn.cons rfl (fun K hK => ?_) AllReadyIn.nil)
             · go_simp
               refine hK _ _ ?_
               clear hK K
               refine wpAnyIn_ready (rs := [3]) (by kernel_rfl) (by simp) ?_
               refine AllReadyIn.cons rfl (fun K hK => ?_) AllReadyIn.nil
               go_simp
               refine hK _ _ ?_
               clear hK K
               exact KEY
             · go_simp
               refine hK _ _ ?_
               clear hK K
               refine wpAnyIn_ready (rs := [1]) (by kernel_rfl) (by simp) ?_
               refine AllReadyIn.cons rfl (fun K hK => ?_) AllReadyIn.nil
               go_simp
               refine hK _ _ ?_
               clear hK K
               exact KEY
           · go_simp
             refine hK _ _ ?_
             clear hK K
             refine wpAnyIn_ready (rs := [1, 2]) (by kernel_rfl) (by simp) ?_
             refine AllReadyIn.cons rfl (fun K hK => ?_) (AllReadyIn.cons rfl (fun K hK => ?_) AllReadyIn.nil)
             · go_simp
               refine hK _ _ ?_
               clear hK K
               refine wpAnyIn_ready (rs := [2]) (by kernel_rfl) (by simp) ?_
               refine AllReadyIn.cons rfl (fun K hK => ?_) AllReadyIn.nil
               go_simp
               refine hK _ _ ?_
               clear hK K
               exact KEY
             · go_simp
               refine hK _ _ ?_
               clear hK K
               refine wpAnyIn_ready (rs := [1]) (by kernel_rfl) (by simp) ?_
               refine AllReadyIn.cons rfl (fun K hK => ?_) AllReadyIn.nil
               go_simp
               refine hK _ _ ?_
               clear hK K
               exact KEY
         · go_simp
           refine hK _ _ ?_
           clear hK K
           refine wpAnyIn_ready (rs := [0, 3]) (by kernel_rfl) (by simp) ?_
           refine AllReadyIn.cons rfl (fun K hK => ?_) (AllReadyIn.cons rfl (fun K hK => ?_) AllReadyIn.nil)
           · go_simp
             refine hK _ _ ?_
             clear hK K
             refine wpAnyIn_ready (rs := [2, 3]) (by kernel_rfl) (by simp) ?_
             refine AllReadyIn.cons rfl (fun K hK => ?_) (AllReadyIn.cons rfl (fun K hK => ?_) AllReadyIn.nil)
             · go_simp
               refine hK _ _ ?_
               clear hK K
               refine wpAnyIn_ready (rs := [3]) (by kernel_rfl) (by simp) ?_
               refine AllReadyIn.cons rfl (fun K hK => ?_) AllReadyIn.nil
               go_simp
               refine hK _ _ ?_
               clear hK K
               exact KEY
             · go_simp
               refine hK _ _ ?_
               clear hK K
               refine wpAnyIn_ready (rs := [2]) (by kernel_rfl) (by simp) ?_
               refine AllReadyIn.cons rfl (fun K hK => ?_) AllReadyIn.nil
               go_simp
               refine hK _ _ ?_
               clear hK K
               exact KEY
           · go_simp
             refine hK _ _ ?_
             clear hK K
             refine wpAnyIn_ready (rs := [0]) (by kernel_rfl) (by simp) ?_
             refine AllReadyIn.cons rfl (fun K hK => ?_) AllReadyIn.nil
             go_simp
             refine hK _ _ ?_
             clear hK K
             refine wpAnyIn_ready (rs := [2]) (by kernel_rfl) (by simp) ?_
             refine AllReadyIn.cons rfl (fun K hK => ?_) AllReadyIn.nil
             go_simp
             refine hK _ _ ?_
             clear hK K
             exact KEY
         · go_simp
           refine hK _ _ ?_
           clear hK K
           refine wpAnyIn_ready (rs := [0, 1]) (by kernel_rfl) (by simp) ?_
           refine AllReadyIn.cons rfl (fun K hK => ?_) (AllReadyIn.cons rfl (fun K hK => ?_) AllReadyIn.nil)
           · go_simp
             refine hK _ _ ?_
             clear hK K
             refine wpAnyIn_ready (rs := [1, 2]) (by kernel_rfl) (by simp) ?_
             refine AllReadyIn.cons rfl (fun K hK => ?_) (AllReadyIn.cons rfl (fun K hK => ?_) AllReadyIn.nil)
             · go_simp
               refine hK _ _ ?_
               clear hK K
               refine wpAnyIn_ready (rs := [2]) (by kernel_rfl) (by simp) ?_
               refine AllReadyIn.cons rfl (fun K hK => ?_) AllReadyIn.nil
               go_simp
               refine hK _ _ ?_
               clear hK K
               exact KEY
             · go_simp
               refine hK _ _ ?_
               clear hK K
               refine wpAnyIn_ready (rs := [1]) (by kernel_rfl) (by simp) ?_
               refine AllReadyIn.cons rfl (fun K hK => ?_) AllReadyIn.nil
               go_simp
               refine hK _ _ ?_
               clear hK K
               exact KEY
           · go_simp
             refine hK _ _ ?_
             clear hK K
             refine wpAnyIn_ready (rs := [0]) (by kernel_rfl) (by simp) ?_
             refine AllReadyIn.cons rfl (fun K hK => ?_) AllReadyIn.nil
             go_simp
             refine hK _ _ ?_
             clear hK K
             refine wpAnyIn_ready (rs := [2]) (by kernel_rfl) (by simp) ?_
             refine AllReadyIn.cons rfl (fun K hK => ?_) AllReadyIn.nil
             go_simp
             refine hK _ _ ?_
             clear hK K
             exact KEY
        case rest =>
          have hrun := HRUN.out
          refine wpAnyIn_ready (rs := [4]) (by kernel_rfl) (by simp) ?_
          refine AllReadyIn.cons rfl (fun K hK => ?_) AllReadyIn.nil
          refine stepIn_append (by rfl) (by rfl) (by rfl) hrun ?_
          refine hK _ _ ?_
          clear hK K hrun
          obtain ⟨z2, z3, z4, z5⟩ := ZZ.out
          refine wpAnyIn_ready (rs := [5, 7]) (by kernel_rfl) (by simp) ?_
          refine AllReadyIn.cons rfl (fun K hK => ?_) (AllReadyIn.cons rfl (fun K hK => ?_) AllReadyIn.nil)
          · go_simp
            refine hK _ _ ?_
            clear hK K
            refine wpAnyIn_ready (rs := [6, 7]) (by kernel_rfl) (by simp) ?_
            refine AllReadyIn.cons rfl (fun K hK => ?_) (AllReadyIn.cons rfl (fun K hK => ?_) AllReadyIn.nil)
            · refine stepIn_store (by rfl) (by rfl) (by rfl) HS1.out ?_
              refine hK _ _ ?_
              clear hK K
              refine wpAnyIn_ready (rs := [7]) (by kernel_rfl) (by simp) ?_
              refine AllReadyIn.cons rfl (fun K hK => ?_) AllReadyIn.nil
              go_simp
              refine hK _ _ ?_
              clear hK K
              refine wpAnyIn_done (by kernel_rfl) ?_ _
              exact FA.out
            · go_simp
              refine hK _ _ ?_
              clear hK K
              refine wpAnyIn_ready (rs := [6]) (by kernel_rfl) (by simp) ?_
              refine AllReadyIn.cons rfl (fun K hK => ?_) AllReadyIn.nil
              refine stepIn_store (by rfl) (by rfl) (by rfl) HS2.out ?_
              refine hK _ _ ?_
              clear hK K
              refine wpAnyIn_done (by kernel_rfl) ?_ _
              exact FB.out
          · go_simp
            refine hK _ _ ?_
            clear hK K
            refine wpAnyIn_ready (rs := [5]) (by kernel_rfl) (by simp) ?_
            refine AllReadyIn.cons rfl (fun K hK => ?_) AllReadyIn.nil
            go_simp
            refine hK _ _ ?_
            clear hK K
            refine wpAnyIn_ready (rs := [6]) (by kernel_rfl) (by simp) ?_
            refine AllReadyIn.cons rfl (fun K hK => ?_) AllReadyIn.nil
            refine stepIn_store (by rfl) (by rfl) (by rfl) HS2.out ?_
            refine hK _ _ ?_
            clear hK K
            refine wpAnyIn_done (by kernel_rfl) ?_ _
            exact FB.out
      case done =>
        rintro D yk W' hD hS ⟨v', hP⟩ hK
        rw [hS] at hP
        have hb5 := hP.box
        obtain ⟨a5, cp5, css5, hv5, -⟩ := tys_open (hP.own.slice (by decide))
        subst hv5
        have b5 : W'.cell? ⟨Lb, 0, none⟩ = some (.slice a5 (st' ++ ks.reverse).length cp5) := by simp [World.cell?, hb5]
        have hl5 : (st' ++ ks.reverse).length = st'.length + ks.length := by simp
        rw [hl5] at hP b5
        have HP : Hid (Push W W5 W' n₀ (J (pre ++ [x])) Lb W4.heap.size (.slice a5 (st'.length + ks.length) cp5) (st' ++ ks.reverse)) := hP
        have HD : Hid (W5.heap.size ≤ D ∧ W'.heap[D]? = some (.deferred (some []))) := ⟨hD, hK⟩
        clear s4 z5 hP hb5 hl5 hD hK
        gi_wp2
        gi_roundg ((allS (st' ++ ks.reverse)).length)
        case rel =>
          have hb : Below W'.heap.size W' (W'.alloc (.cells #[.slice a5 (st'.length + ks.length) cp5] 27)) := (Below.refl _ _).alloc (Nat.le_refl _) _
          have hz : W.heap.size ≤ W'.heap.size := by have h1 := HP.out.size; have h2 := Z5.out; omega
          have hz' : n₀ ≤ W'.heap.size := by have h1 := HP.out.size; have h2 := Z5.out; omega
          refine ⟨W'.heap.size, .slice a5 (st'.length + ks.length) cp5, pre ++ [x], st' ++ ks.reverse, rfl, rfl, ALL.out, alloc_top _ _, hz, Own_on2 HP.out.own (fun b hlt => hb.block b (by omega)) (fun q _ hq => hb.block q hq), fun e => ?_, HJ.out _ _ _ HP.out.held (hb.mono hz), ?_⟩
          · obtain ⟨css6, hown6, -⟩ := HP.out.own
            have := (World.ownsRow.lt hown6 _ e).2
            omega
          · exact M5.out.more (HP.out.marks.trans (MKept.of fun k _ hk => hb.block k hk)) HD.out.1 (by have h2 := Z5.out; have := HD.out.1; omega) ((hb.block D (Array.getElem?_eq_some_iff.1 HD.out.2).1).trans HD.out.2)
        case measure =>
          rw [HK.out, allS_append, allS_append]
          simp [allS_rev_length]
      case stop =>
        rintro D c pk W' _ _ h _
        exact h.elim
    · gi_wp2
      refine RMarks.leave (B := W.heap.size) (HI.out.marks.on (MKept.of fun q h1 h2 => (hk3.high q h1 (by simp; omega)).trans (Below.heap_alloc _ _ _ h2))) fun W' hb => ?_
      exact ⟨_, results_none rfl _ _ _, ⟨_, rfl⟩, .inr ⟨_, PRE.out, HJX.out _ _ _ hJx3 hb⟩⟩

end Go.Proofs.Ytfekbchmgnpkaaa.ty

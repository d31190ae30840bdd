/-
  The program's written: the steps of its stack.
-/
import Derived.Test.YtpdmdcoaaboikaaGreatDoorValWr1
namespace Go.Proofs.YtpdmdcoaaboikaaGreatDoor.vt
open Go Go.RowKit Go.Deep Go.Proofs.YtpdmdcoaaboikaaGreatDoor.rose Go.Proofs.YtpdmdcoaaboikaaGreatDoor.value Go.Proofs.YtpdmdcoaaboikaaGreatDoor
set_option linter.unusedVariables false
set_option linter.unusedSimpArgs false

theorem least {P : Nat → Prop} (h : ∃ n, P n) : ∃ n, P n ∧ ∀ m, P m → n ≤ m := by
  obtain ⟨n, hn⟩ := h
  induction n using Nat.strongRecOn with
  | ind n ih =>
    by_cases hx : ∃ m, m < n ∧ P m
    · obtain ⟨m, hlt, hm⟩ := hx
      exact ih m hlt hm
    · exact ⟨n, hn, fun m hm => Nat.le_of_not_lt fun h => hx ⟨m, h, hm⟩⟩
noncomputable def leastOf (P : Nat → Prop) : Nat := Classical.epsilon fun n => P n ∧ ∀ m, P m → n ≤ m
theorem leastOf_spec {P : Nat → Prop} (h : ∃ n, P n) : P (leastOf P) ∧ ∀ m, P m → leastOf P ≤ m := Classical.epsilon_spec (least h)

theorem StOwn.top {w : World} {base : Nat} {S : Nat → Prop} {v : Value} {st0 : List (List Fm)} {tp : List Fm} (h : StOwn w base S v (st0 ++ [tp])) : ∃ g cap us0 ut, v = .slice (some ⟨g, 0, none⟩) (st0.length + 1) cap ∧ us0.length = st0.length ∧ w.ownsRow base 44 1 (.slice (some ⟨g, 0, none⟩) (st0.length + 1) cap) (st0.length + 1) (us0 ++ [ut]) ∧ (∀ i (h : i < st0.length) (h' : i < us0.length), SlAt w S us0[i] st0[i]) ∧ SlAt w S ut tp := by
  obtain ⟨us, hl, hrow, hs⟩ := h
  rw [List.length_append] at hl hrow
  simp only [List.length_cons, List.length_nil, Nat.zero_add] at hl hrow
  have hne : us ≠ [] := fun e => by subst e; simp at hl
  obtain ⟨us0, ut, rfl⟩ : ∃ us0 ut, us = us0 ++ [ut] := by
    rcases List.eq_nil_or_concat us with h | ⟨a, b, h⟩
    · exact absurd h hne
    · exact ⟨a, b, by rw [h, List.concat_eq_append]⟩
  have hl0 : us0.length = st0.length := by simp at hl; exact hl
  have hg : ∃ g cap, v = .slice (some ⟨g, 0, none⟩) (st0.length + 1) cap := by
    rcases hrow.2 with ⟨_, h0⟩ | ⟨g, cap, _, h0, _⟩
    · omega
    · exact ⟨g, cap, h0⟩
  obtain ⟨g, cap, rfl⟩ := hg
  refine ⟨g, cap, us0, ut, rfl, hl0, hrow, fun i hi hi' => ?_, ?_⟩
  · have := hs i (by simp; omega) (by simp; omega)
    rwa [List.getElem_append_left hi', List.getElem_append_left hi] at this
  · have := hs st0.length (by simp) (by simp; omega)
    rw [List.getElem_append_right (Nat.le_of_eq hl0), List.getElem_append_right (Nat.le_refl _)] at this
    simp only [hl0, Nat.sub_self, List.getElem_cons_zero] at this
    exact this

theorem StOwn.make {w : World} {base : Nat} {S : Nat → Prop} {v : Value} {st0 : List (List Fm)} {tp : List Fm} {us0 : List Value} {ut : Value} (hl : us0.length = st0.length) (hrow : w.ownsRow base 44 1 v (st0.length + 1) (us0 ++ [ut])) (h0 : ∀ i (h : i < st0.length) (h' : i < us0.length), SlAt w S us0[i] st0[i]) (ht : SlAt w S ut tp) : StOwn w base S v (st0 ++ [tp]) := by
  refine ⟨us0 ++ [ut], by simp [hl], by rw [List.length_append]; exact hrow, fun i hi hi' => ?_⟩
  by_cases e : i < st0.length
  · have e' : i < us0.length := by omega
    rw [List.getElem_append_left e', List.getElem_append_left e]
    exact h0 i e e'
  · have : i = st0.length := by simp at hi; omega
    subst this
    rw [List.getElem_append_right (Nat.le_of_eq hl), List.getElem_append_right (Nat.le_refl _)]
    simp only [hl, Nat.sub_self, List.getElem_cons_zero]
    exact ht

theorem StOwn.pop {w : World} {base : Nat} {S : Nat → Prop} {st0 : List (List Fm)} {g cap : Nat} {us0 : List Value} {ut : Value} (hl : us0.length = st0.length) (hrow : w.ownsRow base 44 1 (.slice (some ⟨g, 0, none⟩) (st0.length + 1) cap) (st0.length + 1) (us0 ++ [ut])) (h0 : ∀ i (h : i < st0.length) (h' : i < us0.length), SlAt w S us0[i] st0[i]) : StOwn w base S (.slice (some ⟨g, 0, none⟩) st0.length cap) st0 := by
  refine ⟨us0, hl, ⟨by omega, ?_⟩, h0⟩
  rcases hrow.2 with ⟨h, _⟩ | ⟨g', cap', cur, r1, r2, r3, r4, r5, r6, r7⟩
  · cases h
  · cases r1
    refine Or.inr ⟨g, cap, cur, rfl, r2, r3, by omega, r5, r6, ?_⟩
    have h7 := congrArg (List.take st0.length) r7
    rw [List.take_take, List.take_left' hl] at h7
    rw [← h7]
    congr 1
    omega

theorem StOwn.stays {w w' : World} {base : Nat} {S : Nat → Prop} {v : Value} {st : List (List Fm)} (h : StOwn w base S v st) (hb : Stays S w.heap.size w w') (hz : w.heap.size ≤ w'.heap.size) (hrow : ∀ n us, w.ownsRow base 44 1 v n us → w'.ownsRow base 44 1 v n us) : StOwn w' base S v st := by
  obtain ⟨us, h1, h2, h3⟩ := h
  exact ⟨us, h1, hrow _ _ h2, fun i hi hi' => (h3 i hi hi').on hb hz⟩

def Inv (w : World) (S : Nat → Prop) (q : List UInt8) (M n : Nat) (v : Value) (wr : World) : Prop := ∃ st out, ms st = n ∧ n ≤ M ∧ StOwn wr w.heap.size S v st ∧ Lib.IsBuilderF 67 5 w.heap.size w.heap.size (Lib.byteCells out) wr ∧ out ++ rd st = q ∧ (∀ l ∈ st, ∀ f ∈ l, okF f) ∧ Below w.heap.size w wr ∧ w.heap.size < wr.heap.size

theorem ta_no' {P : Program} {t s x : TypeId} {v z : Value} (w : World) (hd : P.underlying s = some .string) (hz : ∀ w, (zeroValue s).run P w = .ok z w) (hne : t ≠ s) : (Instr.typeAssert (.iface t v) x s true).run P w = .ok (.tuple #[z, .bool false]) w := by
  simp [Instr.typeAssert, run_underlying hd, hne, hz]
theorem ta_yes' {P : Program} {t x : TypeId} {v : Value} (w : World) (hd : P.underlying t = some .string) : (Instr.typeAssert (.iface t v) x t true).run P w = .ok (.tuple #[v, .bool true]) w := by
  simp [Instr.typeAssert, run_underlying hd]

theorem row_facts {w : World} {base : Nat} {e : TypeId} {g n cap : Nat} {xs : List Value} (h : w.ownsRow base e 1 (.slice (some ⟨g, 0, none⟩) n cap) n xs) : base ≤ g ∧ n ≤ cap ∧ cap ≤ maxLen ∧ g < w.heap.size ∧ (∀ i, w.frozen? ⟨g, i, none⟩ = false) ∧ ∃ cur, w.heap[g]? = some (.cells cur e (0, 0)) := by
  rcases h.2 with ⟨h0, _⟩ | ⟨g', cap', cur, r1, r2, r3, r4, r5, r6, r7⟩
  · cases h0
  · cases r1
    exact ⟨r2, r4, r5, (Array.getElem?_eq_some_iff.1 r3).1, fun i => by simp [World.frozen?, r3], cur, r3⟩

theorem round_end {w : World} {S : Nat → Prop} {q : List UInt8} {M n n' : Nat} {v v' : Value} {wr wr' : World} (hN : leastOf (fun n => Inv w S q M n v wr) = n) (h : Inv w S q M n' v' wr') (hlt : n' < n) : Hid (∃ n, Inv w S q M n v' wr') ∧ leastOf (fun n => Inv w S q M n v' wr') < leastOf (fun n => Inv w S q M n v wr) := by
  refine ⟨⟨n', h⟩, ?_⟩
  have := (leastOf_spec (P := fun n => Inv w S q M n v' wr') ⟨n', h⟩).2 n' h
  omega

/-- The top's first form taken off. -/
theorem popped {w wr : World} {S : Nat → Prop} {st0 : List (List Fm)} {tp : List Fm} {g cp : Nat} {us0 : List Value} {ut nv : Value} {bs : List Value} (hS : ∀ b, S b → b < w.heap.size) (hul : us0.length = st0.length) (hrow : wr.ownsRow w.heap.size 44 1 (.slice (some ⟨g, 0, none⟩) (st0.length + 1) cp) (st0.length + 1) (us0 ++ [ut])) (hs0 : ∀ i (h : i < st0.length) (h' : i < us0.length), SlAt wr S us0[i] st0[i]) (hnv : SlAt wr S nv tp) (hB : Lib.IsBuilderF 67 5 w.heap.size w.heap.size bs wr) (hBel : Below w.heap.size w wr) :
    StOwn (wr.setCell ⟨g, st0.length, none⟩ nv) w.heap.size S (.slice (some ⟨g, 0, none⟩) (st0.length + 1) cp) (st0 ++ [tp]) ∧ Lib.IsBuilderF 67 5 w.heap.size w.heap.size bs (wr.setCell ⟨g, st0.length, none⟩ nv) ∧ Below w.heap.size w (wr.setCell ⟨g, st0.length, none⟩ nv) ∧ (wr.setCell ⟨g, st0.length, none⟩ nv).heap.size = wr.heap.size ∧ Stays S wr.heap.size wr (wr.setCell ⟨g, st0.length, none⟩ nv) := by
  obtain ⟨hgb, hncp, hcpm, hgz, hfr0, curL, hcurL⟩ := row_facts hrow
  have hsz : (wr.setCell ⟨g, st0.length, none⟩ nv).heap.size = wr.heap.size := by simp [World.setCell]
  have hbel : Below w.heap.size wr (wr.setCell ⟨g, st0.length, none⟩ nv) := (Below.refl _ _).setCell hgb _
  have hk : Lib.OthersKept 44 none wr (wr.setCell ⟨g, st0.length, none⟩ nv) := (Lib.OthersKept.refl _ _ _).setRowCell hcurL _ _
  have hst : Stays S wr.heap.size wr (wr.setCell ⟨g, st0.length, none⟩ nv) := stays_kept (T := 0) (c0 := #[]) (f0 := (0, 0)) hS hbel hk (by decide) (fun b h => by cases h) (by decide)
  refine ⟨StOwn.make hul (row_last hrow nv) (fun i hi hi' => (hs0 i hi hi').on hst (Nat.le_of_eq hsz.symm)) (hnv.on hst (Nat.le_of_eq hsz.symm)), builder_kept hB hk (by decide) (by decide), hBel.trans hbel, hsz, hst⟩

/-- A text written. -/
theorem wrote {w wr1 w5 : World} {S : Nat → Prop} {q out l : List UInt8} {M n : Nat} {v : Value} {st0 : List (List Fm)} {tp : List Fm} (hS : ∀ b, S b → b < w.heap.size) (hSt : StOwn wr1 w.heap.size S v (st0 ++ [tp])) (hB : Lib.IsBuilderF 67 5 w.heap.size w.heap.size (Lib.byteCells out) wr1) (hBel : Below w.heap.size w wr1) (hlt : w.heap.size < wr1.heap.size)
    (hB5 : Lib.BuilderAtF 67 5 w.heap.size w.heap.size (.pointer (some ⟨w.heap.size, 0, none⟩)) (Lib.byteCells out ++ Lib.strCells (str l)) w5) (hL5 : Below w.heap.size wr1 w5) (hK5 : Lib.OthersKept 5 (some w.heap.size) wr1 w5)
    (hrd : out ++ (fts (.plain l :: tp) ++ rd st0) = q) (hok : ∀ k ∈ st0 ++ [.plain l :: tp], ∀ f ∈ k, okF f) (hms : ms st0 + 1 + msum (.plain l :: tp) = n) (hn : n ≤ M) : Inv w S q M (n - 1) v w5 := by
  have hbb : ∃ c0, wr1.heap[w.heap.size]? = some (.cells c0 67 (0, 0)) := by
    rcases hB with ⟨_, v, h, _⟩ | ⟨_, v, h, _⟩
    · exact ⟨_, h⟩
    · exact ⟨_, h⟩
  obtain ⟨c0, hbb⟩ := hbb
  have hz : wr1.heap.size ≤ w5.heap.size := hL5.size
  have hst : Stays S wr1.heap.size wr1 w5 := stays_kept hS hL5 hK5 (by decide) (fun b h => by cases h; exact hbb) (by decide)
  refine ⟨st0 ++ [tp], out ++ l, ?_, by omega, hSt.stays hst hz fun n us hr => row_kept hr hK5 (by decide) (fun b h => by cases h; exact hbb) (by decide), Or.inr ?_, ?_, ?_, hBel.trans hL5, by omega⟩
  · rw [ms_snoc]
    simp only [msum, mu] at hms
    omega
  · rw [Lib.byteCells_append]
    rw [Lib.strCells_eq] at hB5
    have : (str l).data.toList = l := by simp [str]
    rwa [this] at hB5
  · rw [rd_snoc, ← hrd]
    simp [fts, ft]
  · intro k hk f hf
    rcases List.mem_append.1 hk with h | h
    · exact hok k (by simp [h]) f hf
    · simp only [List.mem_cons, List.mem_nil_iff, or_false] at h
      subst h
      exact hok (.plain l :: k) (by simp) f (by simp [hf])

/-- A form's parts laid on the stack. -/
theorem pushed {w wr1 w2 w3 : World} {S : Nat → Prop} {q out : List UInt8} {M n g cp : Nat} {v2 v3 nv : Value} {f : Fm} {st0 : List (List Fm)} {tp : List Fm} {us0 : List Value} (hS : ∀ b, S b → b < w.heap.size) (hf : fits f) (hl : us0.length = st0.length)
    (hrow1 : wr1.ownsRow w.heap.size 44 1 (.slice (some ⟨g, 0, none⟩) (st0.length + 1) cp) (st0.length + 1) (us0 ++ [nv])) (hs1 : ∀ i (h : i < st0.length) (h' : i < us0.length), SlAt wr1 S us0[i] st0[i]) (hnv : SlAt wr1 S nv tp)
    (hB : Lib.IsBuilderF 67 5 w.heap.size w.heap.size (Lib.byteCells out) wr1) (hBel : Below w.heap.size w wr1) (hlt : w.heap.size < wr1.heap.size)
    (h2 : SlAt w2 S v2 (partsF f)) (hb2 : Below wr1.heap.size wr1 w2)
    (hrow3 : w3.ownsRow w.heap.size 44 1 v3 (st0.length + 1 + 1) (us0 ++ [nv] ++ [v2])) (hg3 : (w2.alloc (.cells #[v2] 44)).grownBy w3 (some g))
    (hrd : out ++ (fts (f :: tp) ++ rd st0) = q) (hok : ∀ k ∈ st0 ++ [f :: tp], ∀ f ∈ k, okF f) (hms : ms st0 + 1 + msum (f :: tp) = n) (hn : n ≤ M) : ∃ n', n' < n ∧ Inv w S q M n' v3 w3 := by
  obtain ⟨hgb, hncp, hcpm, hgz, hfr0, curL, hcurL⟩ := row_facts hrow1
  have hb2' : Below wr1.heap.size wr1 (w2.alloc (.cells #[v2] 44)) := hb2.alloc hb2.size _
  have hcur2 : (w2.alloc (.cells #[v2] 44)).heap[g]? = some (.cells curL 44 (0, 0)) := (hb2'.block g hgz).trans hcurL
  have hk3 : Lib.OthersKept 44 none (w2.alloc (.cells #[v2] 44)) w3 := (Lib.OthersKept.refl _ _ _).grown hg3 (fun g' e => by cases e; exact ⟨_, _, hcur2⟩)
  have hsz2 : (w2.alloc (.cells #[v2] 44)).heap.size = w2.heap.size + 1 := by simp
  have hz12 := hb2.size
  have hBel3 : Below w.heap.size (w2.alloc (.cells #[v2] 44)) w3 := (Below.refl _ _).grown hg3 (by omega) (fun g' e => by cases e; exact hgb)
  have hz3 := hg3.size
  have st1 : Stays S wr1.heap.size wr1 (w2.alloc (.cells #[v2] 44)) := Stays.of (fun b hb => Nat.lt_trans (hS b hb) hlt) (Nat.le_refl _) hb2'
  have st2 : ∀ N, Stays S N (w2.alloc (.cells #[v2] 44)) w3 := fun N => stays_kept (T := 0) (c0 := #[]) (f0 := (0, 0)) hS hBel3 hk3 (by decide) (fun b h => by cases h) (by decide)
  have st0' : Stays S w2.heap.size w2 (w2.alloc (.cells #[v2] 44)) := Stays.of (fun b hb => by have := hS b hb; omega) (Nat.le_refl _) ((Below.refl _ _).alloc (Nat.le_refl _) _)
  have up : ∀ {v fs}, SlAt wr1 S v fs → SlAt w3 S v fs := fun h => (h.on st1 (by omega)).on (st2 _) hz3
  have hmu := parts_mu f hf
  have hms2 : ms (st0 ++ [tp] ++ [partsF f]) = ms st0 + 1 + msum tp + 1 + msum (partsF f) := by rw [ms_snoc, ms_snoc]
  simp only [msum] at hms
  refine ⟨ms (st0 ++ [tp] ++ [partsF f]), by omega, st0 ++ [tp] ++ [partsF f], out, rfl, by omega, ?_, ?_, ?_, ?_, (hBel.trans (hb2'.mono (Nat.le_of_lt hlt))).trans hBel3, by omega⟩
  · refine StOwn.make (st0 := st0 ++ [tp]) (us0 := us0 ++ [nv]) (by simp [hl]) (by rw [List.length_append]; exact hrow3) (fun i hi hi' => ?_) ((h2.on st0' (by omega)).on (st2 _) hz3)
    by_cases e : i < st0.length
    · have e' : i < us0.length := by omega
      rw [List.getElem_append_left e', List.getElem_append_left e]
      exact up (hs1 i e e')
    · have : i = st0.length := by simp at hi; omega
      subst this
      rw [List.getElem_append_right (Nat.le_of_eq hl), List.getElem_append_right (Nat.le_refl _)]
      simp only [hl, Nat.sub_self, List.getElem_cons_zero]
      exact up hnv
  · exact builder_kept (hB.below hb2') hk3 (by decide) (by decide)
  · rw [rd_snoc, rd_snoc, parts_fts f hf, ← hrd]
    simp [fts]
  · intro k hk f' hf'
    rcases List.mem_append.1 hk with h | h
    · rcases List.mem_append.1 h with h | h
      · exact hok k (by simp [h]) f' hf'
      · simp only [List.mem_cons, List.mem_nil_iff, or_false] at h
        subst h
        exact hok (f :: k) (by simp) f' (by simp [hf'])
    · simp only [List.mem_cons, List.mem_nil_iff, or_false] at h
      subst h
      exact ok_parts f hf (hok (f :: tp) (by simp) f (by simp)) f' hf'

end Go.Proofs.YtpdmdcoaaboikaaGreatDoor.vt

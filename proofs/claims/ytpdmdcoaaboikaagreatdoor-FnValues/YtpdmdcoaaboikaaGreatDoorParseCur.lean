/-
  The model's cursor over tokens (l3Cur) as it lies; l3Now.
-/
import Derived.Test.YtpdmdcoaaboikaaGreatDoorTokSpec3
import Derived.Deep.RegionHeld3
import Derived.Sort.AtCall
namespace Go.Proofs.YtpdmdcoaaboikaaGreatDoor.tok
open Go Go.RowKit Go.Deep Go.Proofs.YtpdmdcoaaboikaaGreatDoor.rose Go.Proofs.YtpdmdcoaaboikaaGreatDoor
set_option linter.unusedVariables false
set_option linter.unusedSimpArgs false

/-- Where a cursor lies, and its tokens: in blocks below B; its vars' names: in blocks NS, their slice nv. -/
structure Env where
  cb : Nat
  ta : Option Addr
  tc : Nat
  toks : List TokD
  B : Nat
  NS : Nat → Prop
  nv : Value

/-- A cursor at a place; bad: where something did not fit, or -1. -/
structure St (E : Env) (w : World) (at_ : Nat) (bad : Int) : Prop where
  blk : ∃ (va : Option Addr) (vc : Nat) (names : List ByteArray) (nn : Bool), w.heap[E.cb]? = some (.cells #[.slice E.ta E.toks.length E.tc, .int .i64 at_, .int .i64 bad, .slice va names.length vc, .bool nn] 120) ∧ Sh.str.slice.rep w E.NS [.slice va names.length vc] names ∧ names.length ≤ 3001 ∧ Value.slice va names.length vc = E.nv
  ns : ∀ b, E.NS b → b < w.heap.size ∧ b ≠ E.cb
  rep : tokSh.slice.rep w (fun b => b < E.B ∧ b ≠ E.cb) [.slice E.ta E.toks.length E.tc] E.toks
  lt : at_ < E.toks.length
  len : E.toks.length ≤ 3001
  fine : Fine E.toks
  last : ∃ l0 t, E.toks = l0 ++ [t] ∧ t.1 = 0
  bad0 : -1 ≤ bad ∧ bad ≤ 3000
  top : E.B ≤ w.heap.size

theorem St.keep {E : Env} {w w' : World} {at_ : Nat} {bad : Int} (h : St E w at_ bad) (hz : w.heap.size ≤ w'.heap.size) (hb : ∀ b, (E.NS b ∨ b < E.B ∨ b = E.cb) → w'.heap[b]? = w.heap[b]?) : St E w' at_ bad := by
  obtain ⟨va, vc, names, nn, h1, h2, h3⟩ := h.blk
  exact ⟨⟨va, vc, names, nn, (hb _ (.inr (.inr rfl))).trans h1, Sh.str.slice.on h2 fun b hS => hb b (.inl hS), h3⟩, fun b hS => ⟨Nat.lt_of_lt_of_le (h.ns b hS).1 hz, (h.ns b hS).2⟩, tokSh.slice.on h.rep fun b hS => hb b (.inr (.inl hS.1)), h.lt, h.len, h.fine, h.last, h.bad0, Nat.le_trans h.top hz⟩
theorem St.cblt {E : Env} {w : World} {at_ : Nat} {bad : Int} (h : St E w at_ bad) : E.cb < w.heap.size := by
  obtain ⟨va, vc, names, nn, h1, -⟩ := h.blk
  exact (Array.getElem?_eq_some_iff.1 h1).1
theorem St.on {E : Env} {w w' : World} {at_ : Nat} {bad : Int} (h : St E w at_ bad) (hb : Below w.heap.size w w') : St E w' at_ bad :=
  h.keep hb.size fun b hS => hb.block b (by
    rcases hS with hS | hS | rfl
    · exact (h.ns b hS).1
    · exact Nat.lt_of_lt_of_le hS h.top
    · exact h.cblt)

/-- What is not of kind 0 is not the last. -/
theorem St.notLast {E : Env} {w : World} {at_ : Nat} {bad : Int} (h : St E w at_ bad) (hk : (E.toks[at_]'h.lt).1 ≠ 0) : at_ + 1 < E.toks.length := by
  obtain ⟨l0, t, he, ht⟩ := h.last
  have hlt := h.lt
  rcases Nat.lt_or_ge (at_ + 1) E.toks.length with h' | h'
  · exact h'
  · exfalso
    apply hk
    have hl : at_ = l0.length := by rw [he] at hlt h'; simp at hlt h'; omega
    simp only [he]
    rw [List.getElem_append_right (by omega)]
    simp [hl, ht]

/-- A number of the cursor is turned. -/
theorem St.turn {E : Env} {w w' : World} {at_ at' : Nat} {bad bad' : Int} (h : St E w at_ bad) (o : Nat) (v : Value) (hw : w' = w.setCell ⟨E.cb, o, none⟩ v) (hov : (o = 1 ∧ v = .int .i64 at' ∧ bad' = bad) ∨ (o = 2 ∧ v = .int .i64 bad' ∧ at' = at_)) (hlt : at' < E.toks.length) (hb0 : -1 ≤ bad' ∧ bad' ≤ 3000) : St E w' at' bad' ∧ w.grownBy w' (some E.cb) := by
  obtain ⟨va, vc, names, nn, h1, h2, h3⟩ := h.blk
  have hz : w'.heap.size = w.heap.size := by rw [hw]; simp [World.setCell]
  have hoth : ∀ k, k ≠ E.cb → w'.heap[k]? = w.heap[k]? := fun k hk => by rw [hw]; exact Below.heap_setCell _ _ _ _ hk
  have hblk : w'.heap[E.cb]? = some (.cells #[.slice E.ta E.toks.length E.tc, .int .i64 at', .int .i64 bad', .slice va names.length vc, .bool nn] 120) := by
    rw [hw]
    rcases hov with ⟨rfl, rfl, rfl⟩ | ⟨rfl, rfl, rfl⟩
    · simp [World.setCell, Array.getElem?_modify, h1]
    · simp [World.setCell, Array.getElem?_modify, h1]
  refine ⟨⟨⟨va, vc, names, nn, hblk, Sh.str.slice.on h2 fun b hS => hoth b (h.ns b hS).2, h3⟩, fun b hS => ⟨by rw [hz]; exact (h.ns b hS).1, (h.ns b hS).2⟩, tokSh.slice.on h.rep fun b hS => hoth b hS.2, hlt, h.len, h.fine, h.last, hb0, by rw [hz]; exact h.top⟩, ?_⟩
  rw [hw]
  exact ⟨rfl, rfl, rfl, by simp [World.setCell], fun k _ hne => Below.heap_setCell _ _ _ _ (fun e => hne (by rw [e]))⟩

/-- The token at hand. -/
theorem St.tok {E : Env} {w : World} {at_ : Nat} {bad : Int} (h : St E w at_ bad) : ∃ k t n p b o, E.toks[at_]'h.lt = (k, t, n, p) ∧ E.ta = some ⟨b, o, none⟩ ∧ b < E.B ∧ b ≠ E.cb ∧ w.cell? ⟨b, o + at_ * 4, none⟩ = some (.int .i64 k) ∧ w.cell? ⟨b, o + at_ * 4 + 1, none⟩ = some (.string t) ∧ w.cell? ⟨b, o + at_ * 4 + 2, none⟩ = some (.int .i64 n) ∧ w.cell? ⟨b, o + at_ * 4 + 3, none⟩ = some (.int .i64 p) ∧ t.size ≤ 8 ∧ 0 ≤ n ∧ n ≤ 1073741823 ∧ 0 ≤ p ∧ p ≤ 3000 := by
  obtain ⟨a, c, css, e, -, -, -, hrow, hk⟩ := h.rep
  simp only [List.cons.injEq, Value.slice.injEq, and_true] at e
  obtain ⟨rfl, -, -⟩ := e
  obtain ⟨b, o, ea, hS, hc⟩ := hrow at_ h.lt
  have hr := hk at_ h.lt
  have hf := h.fine (E.toks[at_]'h.lt) (List.getElem_mem h.lt)
  generalize E.toks[at_]'h.lt = T at hr hf
  obtain ⟨k, t, n, p⟩ := T
  obtain ⟨_, _, hcs, ⟨rfl, _⟩, _, _, rfl, ⟨rfl, _⟩, _, _, rfl, ⟨rfl, _⟩, ⟨rfl, _⟩⟩ := hr
  rw [hcs] at hc
  exact ⟨k, t, n, p, b, o, rfl, ea, hS.1, hS.2, hc 0 _ rfl, hc 1 _ rfl, hc 2 _ rfl, hc 3 _ rfl, hf.1, hf.2.1, hf.2.2.1, hf.2.2.2.1, hf.2.2.2.2⟩

theorem cell_drewP {w : World} {a : Addr} : w.drew.cell? a = w.cell? a := rfl
theorem cell_setP {w : World} {b o q c : Nat} {v : Value} (h : q ≠ b) : (w.setCell ⟨b, o, none⟩ v).cell? ⟨q, c, none⟩ = w.cell? ⟨q, c, none⟩ := World.cell?_of_block (w := w) (a := ⟨q, c, none⟩) (Below.heap_setCell _ _ _ _ h)

set_option maxRecDepth 100000 in
set_option maxHeartbeats 4000000 in
theorem now_any (E : Env) (w : World) (at_ : Nat) (bad : Int) (h : St E w at_ bad) :
    Calls Tryz.prog 46 #[.pointer (some ⟨E.cb, 0, none⟩)] w fun e w' => (∃ k t n p, E.toks[at_]'h.lt = (k, t, n, p) ∧ e = .returned (.agg #[.int .i64 k, .string t, .int .i64 n, .int .i64 p]) ∧ t.size ≤ 8 ∧ 0 ≤ n ∧ n ≤ 1073741823 ∧ 0 ≤ p ∧ p ≤ 3000) ∧ Below w.heap.size w w' := by
  obtain ⟨k, t, n, p, b, o, ht, hta, hbB, hbc, d0, d1, d2, d3, q1, q2, q3, q4, q5⟩ := h.tok
  obtain ⟨va, vc, names, nn, hblk, -, -⟩ := h.blk
  rw [hta] at hblk
  have hcb := h.cblt
  have hlt := h.lt
  have hlen := h.len
  have hbw : b < w.heap.size := Nat.lt_of_lt_of_le hbB h.top
  have HQ : Hid (E.toks[at_]'h.lt = (k, t, n, p) ∧ t.size ≤ 8 ∧ 0 ≤ n ∧ n ≤ 1073741823 ∧ 0 ≤ p ∧ p ≤ 3000) := ⟨ht, q1, q2, q3, q4, q5⟩
  obtain ⟨w0, hw0⟩ : ∃ w0, w0 = w.alloc (.cells #[.int .i64 0, .string ⟨#[]⟩, .int .i64 0, .int .i64 0] 125) := ⟨_, rfl⟩
  have B0 : Hid (Below w.heap.size w w0) := by show Below _ _ _; rw [hw0]; exact (Below.refl _ _).alloc (Nat.le_refl _) _
  have HW0 : Hid (w0 = w.alloc (.cells #[.int .i64 0, .string ⟨#[]⟩, .int .i64 0, .int .i64 0] 125)) := hw0
  have hp : w0.heap[w.heap.size]? = some (.cells #[.int .i64 0, .string ⟨#[]⟩, .int .i64 0, .int .i64 0] 125) := by rw [hw0]; exact alloc_top _ _
  have k0 : w0.cell? ⟨w.heap.size, 0, none⟩ = some (.int .i64 0) := by simp [World.cell?, hp]
  have k1 : w0.cell? ⟨w.heap.size, 1, none⟩ = some (.string ⟨#[]⟩) := by simp [World.cell?, hp]
  have k2 : w0.cell? ⟨w.heap.size, 2, none⟩ = some (.int .i64 0) := by simp [World.cell?, hp]
  have k3 : w0.cell? ⟨w.heap.size, 3, none⟩ = some (.int .i64 0) := by simp [World.cell?, hp]
  have f1 : ∀ o, w0.frozen? ⟨w.heap.size, o, none⟩ = false := fun o => by simp [World.frozen?, hp]
  have hblk0 := (B0.out.block _ hcb).trans hblk
  have c0 : w0.cell? ⟨E.cb, 0, none⟩ = some (.slice (some ⟨b, o, none⟩) E.toks.length E.tc) := by simp [World.cell?, hblk0]
  have c1 : w0.cell? ⟨E.cb, 1, none⟩ = some (.int .i64 at_) := by simp [World.cell?, hblk0]
  have e0 := (B0.out.cell (p := ⟨b, o + at_ * 4, none⟩) hbw).trans d0
  have e1 := (B0.out.cell (p := ⟨b, o + at_ * 4 + 1, none⟩) hbw).trans d1
  have e2 := (B0.out.cell (p := ⟨b, o + at_ * 4 + 2, none⟩) hbw).trans d2
  have e3 := (B0.out.cell (p := ⟨b, o + at_ * 4 + 3, none⟩) hbw).trans d3
  have n1 : E.cb ≠ w.heap.size := by omega
  have n2 : b ≠ w.heap.size := by omega
  have hli : (E.toks.length : Int) ≤ 3001 := by omega
  have hlt' : (at_ : Int) < (E.toks.length : Int) := by omega
  clear hw0 hp hblk hblk0 d0 d1 d2 d3 ht hta q1 q2 q3 q4 q5
  go_enter Tryz.func46, Tryz.ntmps46
  go_wp2
  rw [← HW0.out]
  go_region_held3 (fun W => W.cell? ⟨E.cb, 0, none⟩ = some (.slice (some ⟨b, o, none⟩) E.toks.length E.tc) ∧ W.cell? ⟨E.cb, 1, none⟩ = some (.int .i64 at_) ∧ W.cell? ⟨b, o + at_ * 4, none⟩ = some (.int .i64 k) ∧ W.cell? ⟨b, o + at_ * 4 + 1, none⟩ = some (.string t) ∧ W.cell? ⟨b, o + at_ * 4 + 2, none⟩ = some (.int .i64 n) ∧ W.cell? ⟨b, o + at_ * 4 + 3, none⟩ = some (.int .i64 p))
    (exact ⟨(by first | with_reducible exact c0 | ((repeat (first | rw [cell_drewP] | rw [cell_setP n1])); with_reducible exact c0) | (show w0.cell? _ = _; with_reducible exact c0)), (by first | with_reducible exact c1 | ((repeat (first | rw [cell_drewP] | rw [cell_setP n1])); with_reducible exact c1) | (show w0.cell? _ = _; with_reducible exact c1)), (by first | with_reducible exact e0 | ((repeat (first | rw [cell_drewP] | rw [cell_setP n2])); with_reducible exact e0) | (show w0.cell? _ = _; with_reducible exact e0)), (by first | with_reducible exact e1 | ((repeat (first | rw [cell_drewP] | rw [cell_setP n2])); with_reducible exact e1) | (show w0.cell? _ = _; with_reducible exact e1)), (by first | with_reducible exact e2 | ((repeat (first | rw [cell_drewP] | rw [cell_setP n2])); with_reducible exact e2) | (show w0.cell? _ = _; with_reducible exact e2)), (by first | with_reducible exact e3 | ((repeat (first | rw [cell_drewP] | rw [cell_setP n2])); with_reducible exact e3) | (show w0.cell? _ = _; with_reducible exact e3))⟩)
    (fail)
  go_wp2
  refine bodyPost_ret (v := .agg #[.int .i64 k, .string t, .int .i64 n, .int .i64 p]) (by simp [results, Tryz.f46, go_sem, k0, k1, k2, k3]) rfl ?_
  refine ⟨⟨k, t, n, p, HQ.out.1, rfl, HQ.out.2⟩, ?_⟩
  repeat first | with_reducible exact B0.out | refine Below.drew ?_ | (refine Below.setCell ?_ (by first | (simp; done) | (simp; omega)) _)

end Go.Proofs.YtpdmdcoaaboikaaGreatDoor.tok

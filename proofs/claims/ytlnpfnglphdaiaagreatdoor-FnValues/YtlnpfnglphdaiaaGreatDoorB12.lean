/-
  The cursor whose vars' names are turned: no names, one name more; a block whose row of kids grows, where the names have turned.
-/
import Derived.Test.YtlnpfnglphdaiaaGreatDoorB1
import Derived.Test.YtlnpfnglphdaiaaGreatDoorB2
import Derived.Test.YtlnpfnglphdaiaaGreatDoorB3
import Derived.Test.YtlnpfnglphdaiaaGreatDoorB4
import Derived.Test.YtlnpfnglphdaiaaGreatDoorB5
import Derived.Test.YtlnpfnglphdaiaaGreatDoorB6
import Derived.Test.YtlnpfnglphdaiaaGreatDoorB7
import Derived.Test.YtlnpfnglphdaiaaGreatDoorB8
import Derived.Test.YtlnpfnglphdaiaaGreatDoorB9
import Derived.Test.YtlnpfnglphdaiaaGreatDoorB10
import Derived.Test.YtlnpfnglphdaiaaGreatDoorB11
namespace Go.Proofs.YtlnpfnglphdaiaaGreatDoor.tok
open Go Go.RowKit Go.Deep Go.Proofs.YtlnpfnglphdaiaaGreatDoor.rose Go.Proofs.YtlnpfnglphdaiaaGreatDoor
set_option linter.unusedVariables false
set_option linter.unusedSimpArgs false

/-- With other blocks for the names. -/
def Env.at (E : Env) (NS : Nat → Prop) (nv : Value) : Env := { E with NS := NS, nv := nv }

/-- The names are these, in the row vv of the function's own, from block lo on. -/
structure Nm (E : Env) (wr : World) (lo : Nat) (vv : Value) (names : List ByteArray) (at' : Nat) (bad' : Int) : Prop where
  st : St (E.at (fun b => vv.ownBlock = some b) vv) wr at' bad'
  row : wr.ownsRow lo 9 1 vv names.length (names.map Value.string)
  sz : ∀ s ∈ names, s.size ≤ 8
  lo : E.cb < lo
  len : names.length ≤ at' + (if bad' < 0 then 0 else 1)

theorem Nm.slice {E : Env} {wr : World} {lo : Nat} {vv : Value} {names : List ByteArray} {at' : Nat} {bad' : Int} (h : Nm E wr lo vv names at' bad') : ∃ a c, vv = .slice a names.length c := by
  rcases h.row.2 with ⟨h1, h0⟩ | ⟨g, cap, cur, h1, -⟩
  · exact ⟨none, 0, by rw [h1, h0]⟩
  · exact ⟨_, _, h1⟩
theorem Nm.ownlt {E : Env} {wr : World} {lo : Nat} {vv : Value} {names : List ByteArray} {at' : Nat} {bad' : Int} (h : Nm E wr lo vv names at' bad') {g : Nat} (hg : vv.ownBlock = some g) : lo ≤ g ∧ g < wr.heap.size := World.ownsRow.lt h.row g hg
/-- The cell of the names. -/
theorem St.names {E : Env} {w : World} {at_ : Nat} {bad : Int} (h : St E w at_ bad) : w.cell? ⟨E.cb, 3, none⟩ = some E.nv := by
  obtain ⟨va, vc, names, nn, hblk, -, -, he⟩ := h.blk
  rw [← he]
  exact blk_cellG (i := 3) hblk rfl

/-- The row of names as it lies. -/
theorem names_rep {w : World} {lo : Nat} {vv : Value} {names : List ByteArray} (h : w.ownsRow lo 9 1 vv names.length (names.map Value.string)) (hs : ∀ s ∈ names, s.size ≤ 8) : Sh.str.slice.rep w (fun b => vv.ownBlock = some b) [vv] names := by
  rcases h.2 with ⟨rfl, h0⟩ | ⟨g, cap, cur, rfl, h2, h3, h4, h5, h6, h7⟩
  · have : names = [] := List.eq_nil_of_length_eq_zero h0
    subst this
    exact ⟨none, 0, fun _ => [], rfl, Nat.le_refl _, Nat.zero_le _, fun _ => rfl, fun i hi => absurd hi (Nat.not_lt_zero _), fun i hi => absurd hi (Nat.not_lt_zero _)⟩
  · refine ⟨some ⟨g, 0, none⟩, cap, fun i => [.string (names[i]?.getD ⟨#[]⟩)], rfl, h4, h5, (fun h => by cases h), fun i hi => ⟨g, 0, rfl, rfl, fun j u hj => ?_⟩, fun i hi => ⟨by simp [hi], ?_⟩⟩
    · have hi' : i < names.length := hi
      obtain rfl : j = 0 := by
        rcases Nat.eq_zero_or_pos j with h | h
        · exact h
        · rw [List.getElem?_eq_none (by simp; omega)] at hj; cases hj
      simp at hj
      subst hj
      have hc : cur.toList[i]? = some (.string names[i]) := by
        have : (names.map Value.string)[i]? = some (.string names[i]) := by simp [hi']
        rw [← h7, List.getElem?_take] at this
        split at this
        · exact this
        · cases this
      rw [Array.getElem?_toList] at hc
      simp [World.cell?, h3, Sh.str, hc, hi']
    · have := hs names[i] (List.getElem_mem hi)
      unfold maxLen; omega

/-- The cursor with other names. -/
theorem St.put {E : Env} {w w' : World} {at_ : Nat} {bad : Int} {NS : Nat → Prop} (h : St E w at_ bad) (a : Option Addr) (c : Nat) (names : List ByteArray) (hw : w'.heap[E.cb]? = (w.setCell ⟨E.cb, 3, none⟩ (.slice a names.length c)).heap[E.cb]?) (hz : w.heap.size ≤ w'.heap.size) (hb : ∀ b, b < E.B → b ≠ E.cb → w'.heap[b]? = w.heap[b]?)
    (hr : Sh.str.slice.rep w' NS [.slice a names.length c] names) (hl : names.length ≤ 3001) (hn : ∀ b, NS b → b < w'.heap.size ∧ b ≠ E.cb) : St (E.at NS (.slice a names.length c)) w' at_ bad := by
  obtain ⟨va, vc, names0, nn, h1, h2, h3⟩ := h.blk
  have hblk : w'.heap[E.cb]? = some (.cells #[.slice E.ta E.toks.length E.tc, .int .i64 at_, .int .i64 bad, .slice a names.length c, .bool nn] 120) := by rw [hw]; simp [World.setCell, Array.getElem?_modify, h1]
  exact ⟨⟨a, c, names, nn, hblk, hr, hl, rfl⟩, hn, tokSh.slice.on h.rep fun b hS => hb b hS.1 hS.2, h.lt, h.len, h.fine, h.last, h.bad0, Nat.le_trans h.top hz⟩

/-- No names. -/
theorem Nm.empty {E : Env} {w w' : World} {at_ : Nat} {bad : Int} (h : St E w at_ bad) (hw : w' = w.setCell ⟨E.cb, 3, .none⟩ (.slice .none 0 0)) (lo : Nat) (hlo : E.cb < lo) : Nm E w' lo (.slice .none 0 0) [] at_ bad ∧ w.grownBy w' (some E.cb) := by
  have hz : w'.heap.size = w.heap.size := by rw [hw]; simp [World.setCell]
  refine ⟨⟨h.put .none 0 [] (by rw [hw]; rfl) (by omega) (fun b _ hn => by rw [hw]; exact Below.heap_setCell _ _ _ _ hn) ?_ (Nat.zero_le _) (fun b hS => by cases hS), World.ownsRow_nil _ _ _ _, (fun s hs => by cases hs), hlo, Nat.zero_le _⟩, ?_⟩
  · exact ⟨.none, 0, fun _ => [], rfl, Nat.le_refl _, Nat.zero_le _, fun _ => rfl, fun i hi => absurd hi (Nat.not_lt_zero _), fun i hi => absurd hi (Nat.not_lt_zero _)⟩
  · rw [hw]; exact grown_setG _ _ _ _

/-- The cursor goes on, the names stay. -/
theorem Nm.by {E : Env} {wr w2 : World} {lo : Nat} {vv : Value} {names : List ByteArray} {at' at2 : Nat} {bad' bad2 : Int} (h : Nm E wr lo vv names at' bad') (hg : wr.grownBy w2 (some E.cb)) (hs : St (E.at (fun b => vv.ownBlock = some b) vv) w2 at2 bad2) (hl : names.length ≤ at2 + (if bad2 < 0 then 0 else 1)) : Nm E w2 lo vv names at2 bad2 := by
  refine ⟨hs, ?_, h.sz, h.lo, hl⟩
  obtain ⟨hl', hv⟩ := h.row
  have := h.lo
  refine ⟨hl', ?_⟩
  rcases hv with h0 | ⟨g, cap, cur, h1, h2, h3, h4⟩
  · exact Or.inl h0
  · exact Or.inr ⟨g, cap, cur, h1, h2, by rw [hg.block g (Array.getElem?_eq_some_iff.1 h3).1 fun e => by simp only [Option.some.injEq] at e; omega]; exact h3, h4⟩
theorem Nm.on {E : Env} {wr w2 : World} {lo : Nat} {vv : Value} {names : List ByteArray} {at' : Nat} {bad' : Int} (h : Nm E wr lo vv names at' bad') (hb : Below wr.heap.size wr w2) : Nm E w2 lo vv names at' bad' :=
  h.by (grown_noneG _ hb) (h.st.on hb) h.len

/-- One name more: behind the text's own call, w2 has the text in a new block, w3 the row, w4 the cursor's cell. -/
theorem Nm.push {E : Env} {wr w2 w3 w4 : World} {lo : Nat} {vv : Value} {names : List ByteArray} {t : ByteArray} {at' : Nat} {bad' : Int} {a : Option Addr} {l c : Nat} (h : Nm E wr lo vv names at' bad') (hb2 : Below wr.heap.size wr w2) (ht : t.size ≤ 8) (hlen : names.length + 1 ≤ at' + (if bad' < 0 then 0 else 1))
    (ho : w3.ownsRow lo 9 1 (.slice a l c) (names.length + 1) (names.map Value.string ++ [.string t])) (hg3 : w2.grownBy w3 vv.ownBlock) (hB : E.B ≤ lo) (hw4 : w4 = w3.setCell ⟨E.cb, 3, none⟩ (.slice a l c)) : Nm E w4 lo (.slice a l c) (names ++ [t]) at' bad' ∧ ∀ b, b < wr.heap.size → b ≠ E.cb → vv.ownBlock ≠ some b → w4.heap[b]? = wr.heap[b]? := by
  have hlo := h.lo
  have hcb : E.cb < wr.heap.size := h.st.cblt
  have z2 := hb2.size
  have z3 := hg3.size
  have z4 : w4.heap.size = w3.heap.size := by rw [hw4]; simp [World.setCell]
  have o4 : ∀ b, b ≠ E.cb → w4.heap[b]? = w3.heap[b]? := fun b hb => by rw [hw4]; exact Below.heap_setCell _ _ _ _ hb
  have nlo : ∀ b, b < lo → vv.ownBlock ≠ some b := fun b hb e => by have := (h.ownlt e).1; omega
  have same3 : ∀ b, b < wr.heap.size → vv.ownBlock ≠ some b → w3.heap[b]? = wr.heap[b]? := fun b h1 h2 => (hg3.block b (by omega) fun e => h2 e.symm).trans (hb2.block b h1)
  have hl : l = names.length + 1 := by
    rcases ho.2 with ⟨h1, h0⟩ | ⟨g, cap, cur, h1, -⟩
    · simp at h0
    · cases h1; rfl
  subst hl
  have hrow4 : w4.ownsRow lo 9 1 (.slice a (names.length + 1) c) (names ++ [t]).length ((names ++ [t]).map Value.string) := by
    rw [List.length_append, List.length_singleton, List.map_append]
    obtain ⟨hl', hv⟩ := ho
    refine ⟨hl', ?_⟩
    rcases hv with h0 | ⟨g, cap, cur, h1, h2, h3, h4⟩
    · exact Or.inl h0
    · exact Or.inr ⟨g, cap, cur, h1, h2, by rw [o4 g (by omega)]; exact h3, h4⟩
  have hsz : ∀ s ∈ names ++ [t], s.size ≤ 8 := fun s hs => by
    rcases List.mem_append.1 hs with hs | hs
    · exact h.sz s hs
    · simp at hs; subst hs; exact ht
  have hat := h.st.lt
  have hln := h.st.len
  have hst : St (E.at (fun b => (Value.slice a (names.length + 1) c).ownBlock = some b) (.slice a (names.length + 1) c)) w4 at' bad' := by
    have hp := St.put (w' := w4) (NS := fun b => (Value.slice a (names.length + 1) c).ownBlock = some b) h.st a c (names ++ [t]) ?_ (by omega) (fun b h1 h2 => (o4 b h2).trans (same3 b (Nat.lt_of_lt_of_le h1 h.st.top) (nlo b (Nat.lt_of_lt_of_le h1 hB)))) ?_ ?_ (fun b hb => ?_)
    · have e : (names ++ [t]).length = names.length + 1 := by simp
      rw [e] at hp
      exact hp
    · rw [hw4]
      show (w3.setCell ⟨E.cb, 3, none⟩ _).heap[E.cb]? = (wr.setCell ⟨E.cb, 3, none⟩ _).heap[E.cb]?
      simp [World.setCell, Array.getElem?_modify, same3 E.cb hcb (nlo _ hlo)]
    · have e : (names ++ [t]).length = names.length + 1 := by simp
      rw [e]
      exact names_rep hrow4 hsz
    · rw [List.length_append, List.length_singleton]
      have h5 : at' < E.toks.length := hat
      have h6 : E.toks.length ≤ 3001 := hln
      split at hlen <;> omega
    · have h7 := World.ownsRow.lt hrow4 b hb
      exact ⟨h7.2, fun e => by have h8 : b = E.cb := e; omega⟩
  exact ⟨⟨hst, hrow4, hsz, h.lo, by rw [List.length_append, List.length_singleton]; exact hlen⟩, fun b h1 h2 h3 => (o4 b h2).trans (same3 b h1 h3)⟩

section
variable {α : Type} {A : Sh α} {te : TypeId} {Z : Obj} {hd : Value → Obj} {W : List α → Nat} {E : Env} {w wr w2 : World} {Ab : Nat} {v : Value} {xs : List α} {at_ at' at2 : Nat} {bad bad' bad2 : Int}
/-- The names have turned. -/
theorem Gc.turn {NS : Nat → Prop} {nv : Value} {E0 : Env} (h : Gc A te Z hd W E0 w wr Ab v xs at_ bad at' bad') (hE : E0.cb = E.cb ∧ E0.B = E.B) (hg : wr.grownBy w2 (some E.cb)) (hs : St (E.at NS nv) w2 at2 bad2) (hle : at' ≤ at2) (hx : 0 ≤ bad2 ∨ bad2 = bad') (hns : ∀ b, NS b → wr.heap.size ≤ b ∧ b < w2.heap.size)   : Gc A te Z hd W (E.at NS nv) w w2 Ab v xs at_ bad at2 bad2 := by
  obtain ⟨e1, e2⟩ := hE
  have hc := h.cx.cb
  have ha := h.ab
  have hal := h.ablt
  have hl := h.le
  have hz := hg.size
  have hlt := h.cx.lt
  rw [e1] at hc
  refine ⟨⟨hs, ?_, (hg.block _ hlt fun e => by simp only [Option.some.injEq] at e; omega).trans h.cx.res, hc⟩, (hg.block _ hal fun e => by simp only [Option.some.injEq] at e; omega).trans h.acc, h.ab, h.row.keep hg.size (fun b h1 h2 _ => hg.block b h2 fun e => by simp only [Option.some.injEq] at e; omega) h.own, h.own, by show E.B ≤ _; rw [← e2]; exact h.top, fun b hS => .inr ?_, by omega, ?_⟩
  · have := h.cx.gr
    rw [e1] at this
    exact grown_by_by this hg
  · have := hns b hS
    exact ⟨by omega, fun e => by have := (h.row.ownlt e).2; omega, this.2, by omega⟩
  · rcases hx with hx | rfl
    · exact .inl hx
    · rcases h.hx with h' | ⟨e, h', h''⟩
      · exact .inl h'
      · exact .inr ⟨e, by omega, by omega⟩
end

end Go.Proofs.YtlnpfnglphdaiaaGreatDoor.tok

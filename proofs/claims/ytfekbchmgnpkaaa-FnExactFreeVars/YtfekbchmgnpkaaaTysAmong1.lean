/-
  The program's iterator over types in lists and all that is within them: what it hands over are just these, each at least once.
-/
import Derived.Test.YtfekbchmgnpkaaaTysPure
import Derived.Test.YtfekbchmgnpkaaaRangeD
import Derived.Test.YtfekbchmgnpkaaaPtrMap
import Derived.Test.YtfekbchmgnpkaaaOwnMore
import Derived.Shelf.Abstract
import Derived.Shelf.RegionOpen
import Derived.WalkKit
import Derived.OwnWalkIn
import Derived.TacticsInMore
import Derived.LoopNIn
import Derived.LoopIn
import Derived.Sort.LoopGhostIn
import Derived.BigRegionIn
import Derived.Maps.AppendAt
namespace Go.Proofs.Ytfekbchmgnpkaaa.tys
open Go.RowKit Go.Shelf Go.Proofs.Ytfekbchmgnpkaaa.rose Go.Proofs.Ytfekbchmgnpkaaa.rangeb Go.Proofs.Ytfekbchmgnpkaaa
set_option linter.unusedVariables false
set_option linter.unusedSimpArgs false
attribute [local go_sem] Oper.semAt_some

theorem sole : ty.tySh.Sole := (Sh.int_sole.pair (Sh.int_sole.pair Sh.str_sole)).rose

/-- What is handed over: a type, and where its kids lie. -/
structure TPart (w : World) (S : Nat → Prop) where
  T : ty.TyD
  a : Option Addr
  c : Nat
  rep : ty.tySh.rep w S [.int .i64 T.x.1, .int .i64 T.x.2.1, .string T.x.2.2, .slice a T.kids.length c] T

def encT {w : World} {S : Nat → Prop} (x : TPart w S) : Value := .agg #[.int .i64 x.T.x.1, .int .i64 x.T.x.2.1, .string x.T.x.2.2, .slice x.a x.T.kids.length x.c]
def encTs {w : World} {S : Nat → Prop} (x : TPart w S) : Array Value := #[encT x]

set_option maxRecDepth 100000 in
theorem info_list : (Try.prog.info? 27).map (fun i => (i.zero, i.size, i.bytes)) = some (some (.slice none 0 0), 1, 24) := by kernel_rfl
theorem info_tyD : (Try.prog.info? 29).map (fun i => i.size) = some 4 := by kernel_rfl
theorem zeroIntT (w : World) : (zeroValue 3).run Try.prog w = .ok (.int .i64 0) w := by kernel_rfl

theorem row_cell {w : World} {base : Nat} {t : TypeId} {g n cap : Nat} {xs : List Value} (h : w.ownsRow base t 1 (.slice (some ⟨g, 0, none⟩) n cap) n xs) {i : Nat} {u : Value} (hi : xs[i]? = some u) : w.cell? ⟨g, i, none⟩ = some u := by
  have := h.cells (g := g) rfl i u hi
  rwa [add_plain, Nat.zero_add] at this

theorem cmp_nil (ad : Addr) (n c : Nat) (w : World) : (binOp BinOp.eql 111 (.slice (some ad) n c) (.slice none 0 0)).run Try.prog w = .ok (.bool false) w := by kernel_rfl

set_option maxRecDepth 100000 in
set_option maxHeartbeats 1000000 in
/-- slices.Clone of a slice of slices that is not nil. -/
theorem clone_any (ad : Addr) (n c : Nat) (xs : List Value) (w : World) (hl : xs.length = n) (hx : ∀ j u, xs[j]? = some u → w.cell? (ad.add j) = some u) (hb : xs ≠ [] → ad.block < w.heap.size) (h1 : ∀ u ∈ xs, u.oneCell' = true) (hn : n ≤ 2097152) :
    Calls Try.prog 90 #[.slice (some ad) n c] w fun e w' => (∃ a' l' c', e = .returned (.slice a' l' c') ∧ w'.ownsRow w.heap.size 27 1 (.slice a' l' c') n xs) ∧ Below w.heap.size w w' := by
  obtain ⟨ti, hti, hzz⟩ := Option.map_eq_some_iff.1 info_list
  simp only [Prod.mk.injEq] at hzz
  obtain ⟨hz0, hz1, hz2⟩ := hzz
  have hlit : (w.alloc (.cells #[] 27)).ownsRow w.heap.size 27 1 (.slice (some ⟨w.heap.size, 0, none⟩) 0 0) 0 [] := World.ownsRow_lit w #[] 0 (Nat.le_refl _) (Nat.zero_le _) rfl
  have hx2 : ∀ j u, xs[j]? = some u → (w.alloc (.cells #[] 27)).cell? (ad.add j) = some u := fun j u hj => by
    have hne : xs ≠ [] := fun e => by rw [e] at hj; simp at hj
    have hbl : (ad.add j).block = ad.block := by unfold Addr.add; split <;> rfl
    rw [World.cell?_of_block (w := w) (a := ad.add j) (Below.heap_alloc _ _ _ (by rw [hbl]; exact hb hne))]
    exact hx j u hj
  have hcmp := cmp_nil ad n c w
  go_enter Try.func90, Try.ntmps90
  go_wp2_with (at_builtin; refine wpList_append_own_at _ rfl _ _ 111 rfl w.heap.size 27 ti _ 1 24 Try.underlying111 hti hz0 hz1 hz2 rfl (by decide) _ 0 [] rfl hlit ad n c xs rfl (by rw [hl]; omega) hx2 h1 (by unfold maxLen; omega) (by omega) (by simp) ?_; intro v' w1 hown hgrow hnil hat)
  obtain ⟨a', l', c', rfl⟩ : ∃ a' l' c', v' = .slice a' l' c' := by
    rcases hown.2 with ⟨rfl, _⟩ | ⟨_, _, _, rfl, _⟩
    · exact ⟨_, _, _, rfl⟩
    · exact ⟨_, _, _, rfl⟩
  go_wp2
  go_ret
  refine ⟨⟨a', l', c', rfl, by simpa using hown⟩, ?_⟩
  exact ((Below.refl _ w).alloc (Nat.le_refl _) _).grown hgrow (by simp) (fun g hg => by cases hg; exact Nat.le_refl _)

/-- An append of one cell to the call's own row, inside a fence: what comes of it is a slice, and where it lies. -/
theorem append_oneIn2 {F : Fence} {nF : Nat} {P : Program} (w : World) {ops : Array Oper} {rest : List Oper} {o : Oper} {a : Act} {Q : Exit → Act → World → Prop} (hgd : o.guard = none) (s x : Operand) (t : TypeId)
    (ho : o.op = .call { callee := .builtin .append, args := #[s, x], argTypes := #[t, t] })
    (base : Nat) (e : TypeId) (i : TypeInfo) (z : Value) (bytes : Nat) (ht : P.underlying t = some (.slice e)) (hi : P.info? e = some i) (hz : i.zero = some z)
    (hsize : i.size = 1) (hby : i.bytes = bytes) (hzs : z.cells.size = 1)
    (v : Value) (n : Nat) (xs : List Value) (hs : a.eval s = v) (hown : w.ownsRow base e 1 v n xs)
    (ad : Addr) (c : Nat) (y : Value) (hx : a.eval x = .slice (some ad) 1 c) (hnews : ∀ j u, [y][j]? = some u → w.cell? (ad.add j) = some u) (h1 : y.oneCell' = true)
    (h63 : n + 1 ≤ maxLen) (hbytes : (n + 1) * bytes ≤ 140737488355328) (hbase : base ≤ w.heap.size)
    (h : ∀ a' l' c' w', w'.ownsRow base e 1 (.slice a' l' c') (n + 1) (xs ++ [y]) → w.grownBy w' v.ownBlock → ((Value.slice a' l' c').ownBlock = v.ownBlock ∨ (Value.slice a' l' c').ownBlock = some w.heap.size) → wpListIn F nF P ops Q rest (a.put o.dst (.slice a' l' c')) w') :
    wpListIn F nF P ops Q (o :: rest) a w :=
  wpListIn_append_own_at w hgd s x t ho base e i z 1 bytes ht hi hz hsize hby hzs (by decide) v n xs hs hown ad 1 c [y] hx rfl hnews (by simp [h1]) h63 hbytes hbase fun v' w' hown' hg _ hat => by
    obtain ⟨a', l', c', rfl⟩ : ∃ a' l' c', v' = .slice a' l' c' := by
      rcases hown'.2 with ⟨rfl, _⟩ | ⟨_, _, _, rfl, _⟩
      · exact ⟨_, _, _, rfl⟩
      · exact ⟨_, _, _, rfl⟩
    exact h a' l' c' w' hown' hg hat

/-- WHERE THE GOING-THROUGH STANDS: pre was handed over, st lies on the stack, m was met, cur is being gone through. -/
structure Mid (w : World) (S : Nat → Prop) (ls : List (List ty.TyD)) (J : List (TPart w S) → World → Prop) (Z M : Nat) (wr : World) (v : Value) (pre : List (TPart w S)) (st : List (Value × List ty.TyD)) (m : List (Addr × Int)) (cur : Option (List ty.TyD)) (rest : Nat) : Prop where
  row : wr.ownsRow Z 27 1 v st.length (st.map fun e => e.1)
  held : J pre wr
  size : Z ≤ M ∧ M < wr.heap.size
  own : v.ownBlock ≠ some M
  map : PMap wr M m
  reps : ∀ e ∈ st, ty.tySh.slice.rep w S [e.1] e.2
  pend : Pend ls (pre.map fun y => y.T) (st.map fun e => e.2) cur
  met : ∀ p ∈ m, S p.1.block ∧ ∃ ts c, ty.tySh.slice.rep w S [.slice (some p.1) ts.length c] ts ∧ (ts.length : Int) = p.2 ∧ ((∀ t ∈ ts, t ∈ pre.map fun y => y.T) ∨ cur = some ts)
  cnt : pre.length + inside (st.map fun e => e.2) + rest ≤ (allL ls).length

section
variable {w : World} {S : Nat → Prop} {ls : List (List ty.TyD)} {J : List (TPart w S) → World → Prop} {Z M : Nat} {wr wr' : World} {v v' : Value} {pre : List (TPart w S)} {st : List (Value × List ty.TyD)} {m m' : List (Addr × Int)} {rest : Nat} {ts : List ty.TyD} {x : TPart w S} {cur : Option (List ty.TyD)}

theorem Mid.pop {e0 : Value} {g cap : Nat} (h : Mid w S ls J Z M wr (.slice (some ⟨g, 0, none⟩) (st.length + 1) cap) pre (st ++ [(e0, ts)]) m none 0) :
    Mid w S ls J Z M wr (.slice (some ⟨g, 0, none⟩) st.length cap) pre st m (some ts) (withS ts).length ∧ ∀ t ∈ withS ts, t ∈ allL ls := by
  have hpd := h.pend
  rw [List.map_append] at hpd
  obtain ⟨p1, p2⟩ := hpd.pop
  have hrow := h.row
  rw [List.length_append, List.length_singleton, List.map_append] at hrow
  have hr1 := shrink hrow
  rw [List.take_left' (by simp)] at hr1
  refine ⟨⟨hr1, h.held, h.size, h.own, h.map, fun e he => h.reps e (by simp [he]), p1, ?_, ?_⟩, p2⟩
  · intro p hp
    obtain ⟨q1, q2, c, q3, q4, q5⟩ := h.met p hp
    exact ⟨q1, q2, c, q3, q4, q5.elim .inl fun h => by cases h⟩
  · have := h.cnt
    rw [List.map_append, inside_append] at this
    simp [inside] at this
    omega

theorem Mid.skip (h : Mid w S ls J Z M wr v pre st m (some ts) rest) (hd : ∀ t ∈ ts, t ∈ pre.map fun y => y.T) : Mid w S ls J Z M wr v pre st m none 0 where
  row := h.row
  held := h.held
  size := h.size
  own := h.own
  map := h.map
  reps := h.reps
  pend := h.pend.skip hd
  met := fun p hp => by
    obtain ⟨q1, q2, c, q3, q4, q5⟩ := h.met p hp
    refine ⟨q1, q2, c, q3, q4, .inl ?_⟩
    rcases q5 with q5 | q5
    · exact q5
    · simp only [Option.some.injEq] at q5; subst q5; exact hd
  cnt := by have := h.cnt; omega

theorem Mid.store (h : Mid w S ls J Z M wr v pre st m (some ts) rest) (hJ : Of Z J) {a : Addr} {c : Nat} (ha : S a.block) (hr : ty.tySh.slice.rep w S [.slice (some a) ts.length c] ts) (hg : wr.grownBy wr' (some M)) (hm : PMap wr' M m') (hmm : ∀ p ∈ m', p ∈ m ∨ p = (a, (ts.length : Int))) :
    Mid w S ls J Z M wr' v pre st m' (some ts) rest := by
  have hb : ∀ b, b < wr.heap.size → b ≠ M → wr'.heap[b]? = wr.heap[b]? := fun b h1 h2 => hg.block b h1 fun e => h2 (Option.some.inj e)
  have hsz := h.size
  refine ⟨?_, hJ _ _ _ h.held ((Below.refl _ _).grown hg (by omega) (fun j hj => by cases hj; omega)), ⟨hsz.1, Nat.lt_of_lt_of_le hsz.2 hg.size⟩, h.own, hm, h.reps, h.pend, ?_, h.cnt⟩
  · obtain ⟨hl, hv⟩ := h.row
    refine ⟨hl, ?_⟩
    rcases hv with h0 | ⟨q, cap, cr, h1, h2, h3, h4⟩
    · exact Or.inl h0
    · refine Or.inr ⟨q, cap, cr, h1, h2, ?_, h4⟩
      rw [hb q (Array.getElem?_eq_some_iff.1 h3).1 (fun e => h.own (by rw [h1, ← e]; rfl))]
      exact h3
  · intro p hp
    rcases hmm p hp with h1 | h1
    · exact h.met p h1
    · subst h1
      exact ⟨ha, ts, c, hr, rfl, .inr rfl⟩

theorem Mid.push (h : Mid w S ls J Z M wr v pre st m (some ts) (rest + ((withS x.T.kids).length + 1))) (ht : x.T ∈ ts) (hs : ∀ t ∈ withS ts, t ∈ allL ls) {kv : Value}
    (hrow : wr'.ownsRow Z 27 1 v' (st.length + 1) ((st.map fun e => e.1) ++ [kv])) (hJ : J (pre ++ [x]) wr') (hsz : wr.heap.size ≤ wr'.heap.size) (hM : wr'.heap[M]? = wr.heap[M]?) (hown : v'.ownBlock ≠ some M)
    (hr : ty.tySh.slice.rep w S [kv] x.T.kids) : Mid w S ls J Z M wr' v' (pre ++ [x]) (st ++ [(kv, x.T.kids)]) m (some ts) rest where
  row := by rw [List.length_append, List.map_append]; exact hrow
  held := hJ
  size := ⟨h.size.1, Nat.lt_of_lt_of_le h.size.2 hsz⟩
  own := hown
  map := h.map.on hM
  reps := fun e he => by
    rcases List.mem_append.1 he with h1 | h1
    · exact h.reps e h1
    · simp at h1; subst h1; exact hr
  pend := by
    rw [List.map_append, List.map_append]
    exact h.pend.step ht hs
  met := fun p hp => by
    obtain ⟨q1, q2, c, q3, q4, q5⟩ := h.met p hp
    exact ⟨q1, q2, c, q3, q4, q5.elim (fun q => .inl fun t ht => by rw [List.map_append]; exact List.mem_append.2 (.inl (q t ht))) .inr⟩
  cnt := by
    have := h.cnt
    rw [List.map_append, inside_append, List.length_append]
    simp [inside]
    omega
end

set_option maxRecDepth 100000 in
set_option maxHeartbeats 1000000 in
theorem tysAmong_in (n : Nat) (v : Value) (w : World) (o0 : v.oneCell' = true) :
    CallsIn Fence.wide n Try.prog 72 #[v] w fun e w' => e = .returned (.func (.func 89) #[] #[.pointer (some ⟨w.heap.size, 0, none⟩)]) ∧ w' = w.alloc (.cells #[v] 111) := by
  refine callsIn_wide.2 ?_
  go_enter Try.func72, Try.ntmps72
  go_wp2
  go_ret
  exact ⟨rfl, rfl⟩

end Go.Proofs.Ytfekbchmgnpkaaa.tys

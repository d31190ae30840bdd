/-
  Values as forms (the program's valueForm, conForm and plain) as they lie in memory; what a value unfolds to.
  The program's joined, inside and parts, of forms of types: what they make lies in rows of their own, and reads as the form.
-/
import Derived.Laws.AppendOwn
import Derived.OwnWalk
import Derived.Maps.AppendAt
import Derived.Laws.Runes
import Derived.Lib.LaidTab
import Derived.Lib.AppendIntMem
import Derived.Laws.AppendOwnNone
import Derived.Test.YtlnpfnglphdaiaaGreatDoorB1
import Derived.Test.YtlnpfnglphdaiaaGreatDoorB2
import Derived.Test.YtlnpfnglphdaiaaGreatDoorB3
import Derived.Test.YtlnpfnglphdaiaaGreatDoorB4
import Derived.Test.YtlnpfnglphdaiaaGreatDoorB5
import Derived.Test.YtlnpfnglphdaiaaGreatDoorB6
import Derived.Test.YtlnpfnglphdaiaaGreatDoorB7
import Derived.Test.YtlnpfnglphdaiaaGreatDoorB8
import Derived.Test.YtlnpfnglphdaiaaGreatDoorB9
import Derived.Test.YtlnpfnglphdaiaaGreatDoorB10
import Derived.Test.YtlnpfnglphdaiaaGreatDoorB11
import Derived.Test.YtlnpfnglphdaiaaGreatDoorB12
import Derived.Test.YtlnpfnglphdaiaaGreatDoorB13
import Derived.Test.YtlnpfnglphdaiaaGreatDoorB14
import Derived.Test.YtlnpfnglphdaiaaGreatDoorB15
import Derived.Test.YtlnpfnglphdaiaaGreatDoorB16
import Derived.Test.YtlnpfnglphdaiaaGreatDoorB17
import Derived.Test.YtlnpfnglphdaiaaGreatDoorB18
import Derived.Test.YtlnpfnglphdaiaaGreatDoorB19
import Derived.Test.YtlnpfnglphdaiaaGreatDoorB20
import Derived.Test.YtlnpfnglphdaiaaGreatDoorB21
import Derived.Test.YtlnpfnglphdaiaaGreatDoorB22
import Derived.Test.YtlnpfnglphdaiaaGreatDoorB23
import Derived.Test.YtlnpfnglphdaiaaGreatDoorB24
import Derived.Test.YtlnpfnglphdaiaaGreatDoorB25
import Derived.Test.YtlnpfnglphdaiaaGreatDoorB26
import Derived.Test.YtlnpfnglphdaiaaGreatDoorB27
import Derived.Test.YtlnpfnglphdaiaaGreatDoorB28
import Derived.Test.YtlnpfnglphdaiaaGreatDoorB29
import Derived.Test.YtlnpfnglphdaiaaGreatDoorB30
import Derived.Test.YtlnpfnglphdaiaaGreatDoorB31
import Derived.Test.YtlnpfnglphdaiaaGreatDoorB32
import Derived.Test.YtlnpfnglphdaiaaGreatDoorB33
namespace Go.Proofs.YtlnpfnglphdaiaaGreatDoor.vt
open Go Go.RowKit Go.Proofs.YtlnpfnglphdaiaaGreatDoor.rose Go.Proofs.YtlnpfnglphdaiaaGreatDoor.value Go.Proofs.YtlnpfnglphdaiaaGreatDoor
set_option linter.unusedVariables false
set_option linter.unusedSimpArgs false

/-- What is written: a text, a type, or what a type is at its root. -/
inductive Fm where
  | plain (l : List UInt8)
  | val (T : ValueD)
  | con (s : ByteArray) (ks : List ValueD)

def ft : Fm → List UInt8
  | .plain l => l
  | .val T => tl T
  | .con s ks => if ks.length = 0 then s.data.toList else ([40] : List UInt8) ++ (s.data.toList ++ (tlS ks).flatMap fun t => 32 :: t) ++ ([41] : List UInt8)

def shape : ValueD → Fm
  | .mk (op, n, s) ks => if op = 1 then .plain (dg n) else if op = 2 then .con s ks else .plain [102, 117, 110]

theorem ft_shape (T : ValueD) : ft (shape T) = tl T := by
  obtain ⟨⟨op, n, s⟩, ks⟩ := T
  simp only [shape, tl]
  by_cases h1 : op = 1
  · simp [h1, ft]
  · rw [if_neg h1, if_neg h1]
    by_cases h4 : op = 2
    · simp [h4, ft]
    · simp [h4, ft]

/-- The library's table of powers of ten is as it was laid. -/
def Tab (w : World) : Prop := Lib.TabIs Tryz.prog w "internal/strconv.uint64pow10" .u64 Lib.pow10Tab
theorem Tab.on {w w' : World} (h : Tab w) (hb : Below w.heap.size w w') : Tab w' := Lib.tabBelow_of_tabIs h w' hb

theorem below_growV (w : World) (k : Nat) (os : Array Obj) : Below w.heap.size w (Sort.grow (w.drewN k) os) := by
  refine ⟨rfl, rfl, rfl, ?_, fun j hj => ?_⟩
  · show w.heap.size ≤ (w.heap ++ os).size
    simp
  · show (w.heap ++ os)[j]? = w.heap[j]?
    rw [Array.getElem?_append_left hj]

theorem digits_impl (n : Int) (h0 : -9223372036854775808 ≤ n) (h1 : n ≤ 9223372036854775807) (w : World) (ht : Tab w) :
    Calls Tryz.prog 74 #[.int .i64 n] w fun e w' => e = .returned (.string ⟨(Lib.itoa n).toArray⟩) ∧ Below w.heap.size w w' := by
  have HT : Hid (Tab w) := ht
  clear ht
  go_enter Tryz.func74, Tryz.ntmps74
  go_wp2_with (first | (go_at_call 101; refine (Tryz.strconv_Itoa n h0 h1 _ HT.out).mono ?_; rintro e w' ⟨rfl, k, os, rfl⟩) | go_in)
  go_ret
  exact ⟨rfl, below_growV _ _ _⟩

def TF (w : World) (S : Nat → Prop) (u : Value) (T : ValueD) : Prop := ∃ cs, u = .iface 43 (.agg cs.toArray) ∧ valueSh.rep w S cs T

/-- A row of forms of types, in a block below N. -/
def TFs (w : World) (S : Nat → Prop) (N : Nat) (a : Option Addr) (ks : List ValueD) : Prop := ∀ i (h : i < ks.length), ∃ g o cur u, a = some ⟨g, o, none⟩ ∧ g < N ∧ w.heap[g]? = some (.cells cur 70) ∧ w.cell? ⟨g, o + i, none⟩ = some u ∧ TF w S u ks[i]

/-- A form: its types lie in S, its rows below N. -/
def FV (w : World) (S : Nat → Prop) (N : Nat) (v : Value) : Fm → Prop
  | .plain l => v = .iface 71 (.string (str l))
  | .val T => TF w S v T
  | .con s ks => ∃ a cap, v = .iface 158 (.agg #[.string s, .slice a ks.length cap]) ∧ ks.length ≤ cap ∧ cap ≤ maxLen ∧ s.size ≤ maxLen ∧ (a = none → cap = 0) ∧ TFs w S N a ks

/-- What lies in S, and rows of forms below N, have stayed. -/
def Stays (S : Nat → Prop) (N : Nat) (w w' : World) : Prop := (∀ b, S b → w'.heap[b]? = w.heap[b]?) ∧ ∀ (g : Nat) (cur : Array Value), g < N → w.heap[g]? = some (.cells cur 70) → w'.heap[g]? = w.heap[g]?

theorem Stays.refl (S : Nat → Prop) (N : Nat) (w : World) : Stays S N w w := ⟨fun _ _ => rfl, fun _ _ _ _ => rfl⟩
theorem Stays.trans {S : Nat → Prop} {N : Nat} {a b c : World} (h : Stays S N a b) (k : Stays S N b c) : Stays S N a c :=
  ⟨fun q hq => (k.1 q hq).trans (h.1 q hq), fun g cur hn hg => (k.2 g cur hn ((h.2 g cur hn hg).trans hg)).trans (h.2 g cur hn hg)⟩
theorem Stays.of {S : Nat → Prop} {N B : Nat} {w w' : World} (hS : ∀ b, S b → b < B) (hN : N ≤ B) (h : Below B w w') : Stays S N w w' :=
  ⟨fun b hb => h.block b (hS b hb), fun g cur hn hg => h.block g (by omega)⟩

theorem TF.on {w w' : World} {S : Nat → Prop} {u : Value} {T : ValueD} (h : TF w S u T) (hb : ∀ b, S b → w'.heap[b]? = w.heap[b]?) : TF w' S u T := by
  obtain ⟨cs, h1, h2⟩ := h
  exact ⟨cs, h1, valueSh.on h2 hb⟩
theorem TFs.on {w w' : World} {S : Nat → Prop} {N : Nat} {a : Option Addr} {ks : List ValueD} (h : TFs w S N a ks) (hb : Stays S N w w') : TFs w' S N a ks := fun i hi => by
  obtain ⟨g, o, cur, u, h1, h0, h2, h3, h4⟩ := h i hi
  exact ⟨g, o, cur, u, h1, h0, (hb.2 g cur h0 h2).trans h2, (World.cell?_of_block (w := w) (a := ⟨g, o + i, none⟩) (hb.2 g cur h0 h2)).trans h3, h4.on hb.1⟩
theorem TFs.mono {w : World} {S : Nat → Prop} {N N' : Nat} {a : Option Addr} {ks : List ValueD} (h : TFs w S N a ks) (hn : N ≤ N') : TFs w S N' a ks := fun i hi => by
  obtain ⟨g, o, cur, u, h1, h0, h2⟩ := h i hi
  exact ⟨g, o, cur, u, h1, by omega, h2⟩
theorem FV.on {w w' : World} {S : Nat → Prop} {N : Nat} {v : Value} {f : Fm} (h : FV w S N v f) (hb : Stays S N w w') : FV w' S N v f := by
  cases f with
  | plain l => exact h
  | val T => exact TF.on h hb.1
  | con s ks =>
    obtain ⟨a, cap, h1, h2, h3, h4, h6, h5⟩ := h
    exact ⟨a, cap, h1, h2, h3, h4, h6, h5.on hb⟩
theorem FV.mono {w : World} {S : Nat → Prop} {N N' : Nat} {v : Value} {f : Fm} (h : FV w S N v f) (hn : N ≤ N') : FV w S N' v f := by
  cases f with
  | plain l => exact h
  | val T => exact h
  | con s ks =>
    obtain ⟨a, cap, h1, h2, h3, h4, h6, h5⟩ := h
    exact ⟨a, cap, h1, h2, h3, h4, h6, h5.mono hn⟩
theorem FV.one {w : World} {S : Nat → Prop} {N : Nat} {v : Value} {f : Fm} (h : FV w S N v f) : v.oneCell' = true := by
  cases f with
  | plain l => cases h; rfl
  | val T => obtain ⟨cs, rfl, _⟩ := h; rfl
  | con s ks => obtain ⟨a, cap, rfl, _⟩ := h; rfl

set_option maxRecDepth 100000 in
theorem info_form : (Tryz.prog.info? 70).map (fun i => (i.zero, i.size, i.bytes)) = some (some .nilIface, 1, 16) := by kernel_rfl

/-- An append of one cell to the call's own row: what comes of it is a slice. -/
theorem append_one {P : Program} (w : World) {ops : Array Oper} {rest : List Oper} {o : Oper} {a : Act} {Q : Exit → Act → World → Prop} (hgd : o.guard = none) (s x : Operand) (t : TypeId)
    (ho : o.op = .call { callee := .builtin .append, args := #[s, x], argTypes := #[t, t] })
    (base : Nat) (e : TypeId) (i : TypeInfo) (z : Value) (bytes : Nat) (ht : P.underlying t = some (.slice e)) (hi : P.info? e = some i) (hz : i.zero = some z)
    (hsize : i.size = 1) (hby : i.bytes = bytes) (hzs : z.cells.size = 1)
    (v : Value) (n : Nat) (xs : List Value) (hs : a.eval s = v) (hown : w.ownsRow base e 1 v n xs)
    (ad : Addr) (c : Nat) (y : Value) (hx : a.eval x = .slice (some ad) 1 c) (hnews : ∀ j u, [y][j]? = some u → w.cell? (ad.add j) = some u) (h1 : y.oneCell' = true)
    (h63 : n + 1 ≤ maxLen) (hbytes : (n + 1) * bytes ≤ 140737488355328) (hbase : base ≤ w.heap.size)
    (h : ∀ g' c' w', w'.ownsRow base e 1 (.slice (some ⟨g', 0, none⟩) (n + 1) c') (n + 1) (xs ++ [y]) → w.grownBy w' v.ownBlock → wpList P ops Q rest (a.put o.dst (.slice (some ⟨g', 0, none⟩) (n + 1) c')) w') :
    wpList P ops Q (o :: rest) a w :=
  wpList_append_own_at w hgd s x t ho base e i z 1 bytes ht hi hz hsize hby hzs (by decide) v n xs hs hown ad 1 c [y] hx rfl hnews (by simp [h1]) h63 hbytes hbase fun v' w' hown' hg _ _ => by
    rcases hown'.2 with ⟨rfl, h0⟩ | ⟨g', c', cur, rfl, hr⟩
    · omega
    · exact h _ _ _ hown' hg

/-- An append of several cells to the call's own row. -/
theorem append_many {P : Program} (w : World) {ops : Array Oper} {rest : List Oper} {o : Oper} {a : Act} {Q : Exit → Act → World → Prop} (hgd : o.guard = none) (s x : Operand) (t : TypeId)
    (ho : o.op = .call { callee := .builtin .append, args := #[s, x], argTypes := #[t, t] })
    (base : Nat) (e : TypeId) (i : TypeInfo) (z : Value) (bytes : Nat) (ht : P.underlying t = some (.slice e)) (hi : P.info? e = some i) (hz : i.zero = some z)
    (hsize : i.size = 1) (hby : i.bytes = bytes) (hzs : z.cells.size = 1)
    (v : Value) (n : Nat) (xs : List Value) (hn : 0 < n) (hs : a.eval s = v) (hown : w.ownsRow base e 1 v n xs)
    (ad : Addr) (m c : Nat) (ys : List Value) (hx : a.eval x = .slice (some ad) m c) (hl : ys.length = m) (hnews : ∀ j u, ys[j]? = some u → w.cell? (ad.add j) = some u) (h1 : ∀ u ∈ ys, u.oneCell' = true)
    (h63 : n + m ≤ maxLen) (hbytes : (n + m) * bytes ≤ 140737488355328) (hbase : base ≤ w.heap.size)
    (h : ∀ g' c' w', w'.ownsRow base e 1 (.slice (some ⟨g', 0, none⟩) (n + m) c') (n + m) (xs ++ ys) → w.grownBy w' v.ownBlock → wpList P ops Q rest (a.put o.dst (.slice (some ⟨g', 0, none⟩) (n + m) c')) w') :
    wpList P ops Q (o :: rest) a w :=
  wpList_append_own_at w hgd s x t ho base e i z 1 bytes ht hi hz hsize hby hzs (by decide) v n xs hs hown ad m c ys hx (by rw [hl]; omega) hnews h1 h63 hbytes hbase fun v' w' hown' hg _ _ => by
    rcases hown'.2 with ⟨rfl, h0⟩ | ⟨g', c', cur, rfl, hr⟩
    · omega
    · exact h _ _ _ hown' hg

theorem row_cell {w : World} {base : Nat} {t : TypeId} {g n cap : Nat} {xs : List Value} (h : w.ownsRow base t 1 (.slice (some ⟨g, 0, none⟩) n cap) n xs) {i : Nat} {u : Value} (hi : xs[i]? = some u) : w.cell? ⟨g, i, none⟩ = some u ∧ ∃ cur, w.heap[g]? = some (.cells cur t) := by
  rcases h.2 with ⟨h, _⟩ | ⟨g', cap', cur, h1, h2, h3, h4, h5, h6, h7⟩
  · cases h
  · cases h1
    have hl := h.1
    have hlt : i < n * 1 := by
      have := (List.getElem?_eq_some_iff.1 hi).1
      omega
    rw [← h7, List.getElem?_take, if_pos hlt] at hi
    refine ⟨?_, cur, h3⟩
    simp only [World.cell?, h3]
    rw [Array.getElem?_toList] at hi
    exact hi

/-- The call's own row of forms of types. -/
def KidsOwn (w : World) (base : Nat) (S : Nat → Prop) (v : Value) (ks : List ValueD) : Prop := ∃ us : List Value, us.length = ks.length ∧ w.ownsRow base 70 1 v ks.length us ∧ ∀ i (h : i < ks.length) (h' : i < us.length), TF w S us[i] ks[i]

theorem row_stays {w w' : World} {base : Nat} {t : TypeId} {k n : Nat} {v : Value} {xs : List Value} (h : w.ownsRow base t k v n xs) (hb : ∀ g, base ≤ g → g < w.heap.size → w'.heap[g]? = w.heap[g]?) : w'.ownsRow base t k v n xs := by
  obtain ⟨hl, hv⟩ := h
  refine ⟨hl, ?_⟩
  rcases hv with h0 | ⟨g, cap, cur, h1, h2, h3, h4⟩
  · exact Or.inl h0
  · have hg : g < w.heap.size := (Array.getElem?_eq_some_iff.1 h3).1
    exact Or.inr ⟨g, cap, cur, h1, h2, by rw [hb g h2 hg]; exact h3, h4⟩

theorem KidsOwn.forms {w : World} {base : Nat} {S : Nat → Prop} {v : Value} {ks : List ValueD} (h : KidsOwn w base S v ks) : ∃ a cap, v = .slice a ks.length cap ∧ ks.length ≤ cap ∧ cap ≤ maxLen ∧ (a = none → cap = 0) ∧ TFs w S w.heap.size a ks := by
  obtain ⟨us, hl, hrow, hf⟩ := h
  rcases hrow.2 with ⟨rfl, h0⟩ | ⟨g, cap, cur, rfl, h2, h3, h4, h5, h6, h7⟩
  · have : ks = [] := List.eq_nil_of_length_eq_zero h0
    subst this
    exact ⟨none, 0, rfl, Nat.le_refl _, Nat.zero_le _, fun _ => rfl, fun i hi => absurd hi (Nat.not_lt_zero _)⟩
  · refine ⟨some ⟨g, 0, none⟩, cap, rfl, h4, h5, (fun h => by cases h), fun i hi => ?_⟩
    obtain ⟨hc, -⟩ := row_cell hrow (List.getElem?_eq_getElem (by rw [hl]; exact hi))
    exact ⟨g, 0, cur, us[i]'(by rw [hl]; exact hi), rfl, (Array.getElem?_eq_some_iff.1 h3).1, h3, by rw [Nat.zero_add]; exact hc, hf i hi (by rw [hl]; exact hi)⟩

set_option maxRecDepth 100000 in
set_option maxHeartbeats 4000000 in
theorem unfoldedVal (T : ValueD) (cs : List Value) (w : World) (S : Nat → Prop) (hS : ∀ b, S b → b < w.heap.size) (hw : wt T ≤ 1048576) (ht : Tab w) (h : valueSh.rep w S cs T) :
    Calls Tryz.prog 133 #[.agg cs.toArray] w fun e w' => ∃ v, e = .returned v ∧ FV w' S w'.heap.size v (shape T) ∧ Below w.heap.size w w' := by
  obtain ⟨op, n, s, ks, a, cap, hT, rfl, f0, f1, f2, fk⟩ := value_open h
  subst hT
  obtain ⟨a', cap', css, e, -, -, hrow, hk⟩ := values_open fk
  cases e
  have hle : ks.length ≤ 1048576 := by simp [wt] at hw; omega
  have HR : Hid (RowAt w S 4 a ks.length css ∧ ∀ i (h : i < ks.length), valueSh.rep w S (css i) ks[i]) := ⟨hrow, hk⟩
  obtain ⟨ti, hti, hzz⟩ := Option.map_eq_some_iff.1 info_form
  simp only [Prod.mk.injEq] at hzz
  obtain ⟨hz0, hz1, hz2⟩ := hzz
  have TI : Hid (Tryz.prog.info? 70 = some ti ∧ ti.zero = some .nilIface ∧ ti.size = 1 ∧ ti.bytes = 16) := ⟨hti, hz0, hz1, hz2⟩
  clear hti hz0 hz1 hz2 h hrow hk hw fk
  have HT : Hid (Tab w) := ht
  clear ht
  by_cases h1 : op = 1
  · subst h1
    have HV : Hid (shape (.mk (1, n, s) ks) = .plain (Lib.itoa n)) := by show _ = _; simp [shape, dg_in f1]
    have hal : Below w.heap.size w (w.alloc (.cells #[.int .i64 1, .int .i64 n, .string s, .slice a ks.length cap] 43)) := (Below.refl _ _).alloc (Nat.le_refl _) _
    have B0 : Hid (Below w.heap.size w (w.alloc (.cells #[.int .i64 1, .int .i64 n, .string s, .slice a ks.length cap] 43))) := hal
    have hcall := digits_impl n f1.1 f1.2 (w.alloc (.cells #[.int .i64 1, .int .i64 n, .string s, .slice a ks.length cap] 43)) (HT.out.on hal)
    clear hal
    go_enter Tryz.func133, Tryz.ntmps133
    go_wp2_with fail
    refine hcall.mono ?_
    rintro e w1 ⟨rfl, hb⟩
    have B1 : Hid (Below w.heap.size w w1) := B0.out.trans (hb.mono B0.out.size)
    clear hb hcall
    go_wp2
    go_ret
    exact ⟨_, rfl, by rw [HV.out]; rfl, B1.out⟩
  by_cases h2 : op = 2
  case neg =>
    have HV : Hid (shape (.mk (op, n, s) ks) = .plain [102, 117, 110]) := by show _ = _; simp only [shape, if_neg h1, if_neg h2]
    have B0 : Hid (Below w.heap.size w (w.alloc (.cells #[.int .i64 op, .int .i64 n, .string s, .slice a ks.length cap] 43))) := (Below.refl _ _).alloc (Nat.le_refl _) _
    go_enter Tryz.func133, Tryz.ntmps133
    go_wp2
    go_ret
    exact ⟨_, rfl, by rw [HV.out]; rfl, B0.out⟩
  subst h2
  clear h1
  go_enter Tryz.func133, Tryz.ntmps133
  go_wp2
  generalize hw0 : w.alloc _ = w0
  have W0 : Hid (Below w.heap.size w w0 ∧ w0.heap[w.heap.size]? = some (.cells #[.int .i64 2, .int .i64 n, .string s, .slice a ks.length cap] 43) ∧ w0.heap.size = w.heap.size + 1) := by
    subst hw0
    exact ⟨(Below.refl _ _).alloc (Nat.le_refl _) _, alloc_top _ _, by simp⟩
  clear hw0
  go_loopw [3, 22] (fun v3 v9 wr => ∃ i : Nat, i ≤ ks.length ∧ v9 = .int .i64 i ∧ Hid (KidsOwn wr (w.heap.size + 1) S v3 (ks.take i) ∧ Below (w.heap.size + 1) w0 wr ∧ w.heap.size + 1 ≤ wr.heap.size)) (fun _ v9 _ => ks.length - (intOf v9).toNat)
  case atStart => exact ⟨0, Nat.zero_le _, rfl, ⟨[], rfl, World.ownsRow_nil _ _ _ _, fun i h => absurd h (Nat.not_lt_zero _)⟩, Below.refl _ _, by rw [W0.out.2.2]; exact Nat.le_refl _⟩
  case round =>
    obtain ⟨i, hi, rfl, HI⟩ := hrel
    have BW : Hid (Below w.heap.size w wr) := W0.out.1.trans (HI.out.2.1.mono (by omega))
    have hbox : wr.heap[w.heap.size]? = _ := (HI.out.2.1.block _ (by omega)).trans W0.out.2.1
    have c0 : wr.cell? ⟨w.heap.size, 0, none⟩ = some (.int .i64 2) := by simp [World.cell?, hbox]
    have c1 : wr.cell? ⟨w.heap.size, 1, none⟩ = some (.int .i64 n) := by simp [World.cell?, hbox]
    have c2 : wr.cell? ⟨w.heap.size, 2, none⟩ = some (.string s) := by simp [World.cell?, hbox]
    clear hbox
    by_cases hlt : i < ks.length
    · obtain ⟨b, o, rfl, hSb, hc⟩ := HR.out.1 i hlt
      have hrep := HR.out.2 i hlt
      obtain ⟨x0, x1, x2, xk, ak, ck, hT, hcs, g0, g1, g2, gk⟩ := value_open hrep
      rw [hcs] at hc hrep
      have e0 := (BW.out.cell (p := ⟨b, o + i * 4, none⟩) (hS b hSb)).trans (hc 0 _ rfl)
      have e1 := (BW.out.cell (p := ⟨b, o + i * 4 + 1, none⟩) (hS b hSb)).trans (hc 1 _ rfl)
      have e2 := (BW.out.cell (p := ⟨b, o + i * 4 + 2, none⟩) (hS b hSb)).trans (hc 2 _ rfl)
      have e3 := (BW.out.cell (p := ⟨b, o + i * 4 + 3, none⟩) (hS b hSb)).trans (hc 3 _ rfl)
      have HREP : Hid (valueSh.rep w S [.int .i64 x0, .int .i64 x1, .string x2, .slice ak xk.length ck] ks[i]) := hrep
      obtain ⟨us, hul, hrow, hfs⟩ := HI.out.1
      have hlen : (ks.take i).length = i := by rw [List.length_take]; omega
      rw [hlen] at hrow hul
      have HROW : Hid _ := hrow
      have HFS : Hid _ := hfs
      have HUL : Hid (us.length = i) := hul
      have hz : w.heap.size + 1 ≤ wr.heap.size := HI.out.2.2
      have h2a : ((wr.alloc (.cells #[.int .i64 x0, .int .i64 x1, .string x2, .slice ak xk.length ck] 26)).alloc (.cells #[.iface 43 (.agg #[.int .i64 x0, .int .i64 x1, .string x2, .slice ak xk.length ck])] 70)).ownsRow (w.heap.size + 1) 70 1 u3 i us := row_stays hrow fun g hg hlt' => (Below.heap_alloc _ _ _ (by simp; omega)).trans (Below.heap_alloc _ _ _ hlt')
      have HOB : Hid (∀ g, u3.ownBlock = some g → w.heap.size + 1 ≤ g) := fun g hg => by
        rcases hrow.2 with ⟨rfl, _⟩ | ⟨g', cap, cur, rfl, h, _⟩
        · cases hg
        · simp only [Value.ownBlock, Option.some.injEq] at hg; omega
      have hnew : ∀ j u, [Value.iface 43 (.agg #[.int .i64 x0, .int .i64 x1, .string x2, .slice ak xk.length ck])][j]? = some u → ((wr.alloc (.cells #[.int .i64 x0, .int .i64 x1, .string x2, .slice ak xk.length ck] 26)).alloc (.cells #[.iface 43 (.agg #[.int .i64 x0, .int .i64 x1, .string x2, .slice ak xk.length ck])] 70)).cell? ((⟨wr.heap.size + 1, 0, none⟩ : Addr).add j) = some u := fun j u hj => by
        have := cell_one_new (wr.alloc (.cells #[.int .i64 x0, .int .i64 x1, .string x2, .slice ak xk.length ck] 26)) _ 70 j u hj
        rwa [World.size_alloc] at this
      clear hrow hfs hul hc hcs hrep c0 c1 c2 hT gk
      go_wp2_with (first
        | (at_builtin; go_loud (refine append_one _ rfl _ _ 44 rfl (w.heap.size + 1) 70 ti _ 16 Tryz.underlying44 TI.out.1 TI.out.2.1 TI.out.2.2.1 TI.out.2.2.2 rfl u3 i us rfl h2a ⟨wr.heap.size + 1, 0, none⟩ 1 (.iface 43 (.agg #[.int .i64 x0, .int .i64 x1, .string x2, .slice ak xk.length ck])) rfl hnew rfl (by unfold maxLen; omega) (by omega) (by simp; omega) ?_); intro g' c' w1 hown1 hgrow1)
        | go_in)
      have hal : Below wr.heap.size wr ((wr.alloc (.cells #[.int .i64 x0, .int .i64 x1, .string x2, .slice ak xk.length ck] 26)).alloc (.cells #[.iface 43 (.agg #[.int .i64 x0, .int .i64 x1, .string x2, .slice ak xk.length ck])] 70)) := ((Below.refl _ _).alloc (Nat.le_refl _) _).alloc (by simp) _
      have hb1 : Below (w.heap.size + 1) wr w1 := (hal.mono hz).grown hgrow1 (by simp; omega) (fun g hg => HOB.out g hg)
      have hS1 : ∀ q, S q → w1.heap[q]? = wr.heap[q]? := fun q hq => hb1.block q (by have := hS q hq; omega)
      have HK : Hid (KidsOwn w1 (w.heap.size + 1) S (.slice (some ⟨g', 0, none⟩) (i + 1) c') (ks.take (i + 1))) := by
        refine ⟨us ++ [.iface 43 (.agg #[.int .i64 x0, .int .i64 x1, .string x2, .slice ak xk.length ck])], by rw [List.length_append, HUL.out, List.length_take]; simp; omega, ?_, fun j hj hj' => ?_⟩
        · rw [List.length_take, Nat.min_eq_left (by omega)]; exact hown1
        · rw [List.length_take] at hj
          by_cases e : j = i
          · subst e
            rw [List.getElem_append_right (by rw [HUL.out]; exact Nat.le_refl _), List.getElem_take]
            simp only [HUL.out, Nat.sub_self, List.getElem_cons_zero]
            exact ⟨_, rfl, valueSh.on HREP.out fun q hq => (hS1 q hq).trans (BW.out.block q (hS q hq))⟩
          · rw [List.getElem_append_left (by rw [HUL.out]; omega), List.getElem_take]
            have := HFS.out j (by rw [List.length_take]; omega) (by rw [HUL.out]; omega)
            rw [List.getElem_take] at this
            obtain ⟨cs', q1, q2⟩ := this
            exact ⟨cs', q1, valueSh.on q2 hS1⟩
      have HB2 : Hid (Below (w.heap.size + 1) w0 w1 ∧ w.heap.size + 1 ≤ w1.heap.size) := ⟨HI.out.2.1.trans hb1, Nat.le_trans hz hb1.size⟩
      clear hown1 hgrow1 hb1 hal hS1 h2a
      go_round
      case rel => exact ⟨i + 1, by omega, by go_num, HK.out, HB2.out⟩
      case measure => simp [intOf]; omega
    · obtain rfl : i = ks.length := by omega
      have hkf := HI.out.1
      rw [List.take_length] at hkf
      obtain ⟨a3, cap3, hv3, hc3, hm3, hn3, HTF⟩ := hkf.forms
      subst hv3
      have HT3 : Hid (TFs wr S wr.heap.size a3 ks) := HTF
      clear HTF hkf
      have HV : Hid (shape (.mk (2, n, s) ks) = .con s ks) := by show _ = _; simp [shape]
      go_wp2
      go_ret
      refine ⟨_, rfl, ?_, BW.out⟩
      rw [HV.out]
      exact ⟨a3, cap3, rfl, hc3, hm3, f2, hn3, HT3.out⟩

end Go.Proofs.YtlnpfnglphdaiaaGreatDoor.vt

namespace Go.Proofs.YtlnpfnglphdaiaaGreatDoor.vt
open Go Go.RowKit Go.Proofs.YtlnpfnglphdaiaaGreatDoor.rose Go.Proofs.YtlnpfnglphdaiaaGreatDoor.value Go.Proofs.YtlnpfnglphdaiaaGreatDoor
set_option linter.unusedVariables false
set_option linter.unusedSimpArgs false

theorem FV.iface {w : World} {S : Nat → Prop} {N : Nat} {v : Value} {f : Fm} (h : FV w S N v f) : ∃ t u, v = .iface t u := by
  cases f with
  | plain l => exact ⟨_, _, h⟩
  | val T => obtain ⟨cs, rfl, _⟩ := h; exact ⟨_, _, rfl⟩
  | con s ks => obtain ⟨a, cap, rfl, _⟩ := h; exact ⟨_, _, rfl⟩

/-- The call's own row of forms. -/
def FsOwn (w : World) (base : Nat) (S : Nat → Prop) (N : Nat) (v : Value) (fs : List Fm) : Prop := ∃ us : List Value, us.length = fs.length ∧ w.ownsRow base 70 1 v fs.length us ∧ ∀ i (h : i < fs.length) (h' : i < us.length), FV w S N us[i] fs[i]

theorem FsOwn.nil (w : World) (base : Nat) (S : Nat → Prop) (N : Nat) : FsOwn w base S N (.slice none 0 0) [] := ⟨[], rfl, World.ownsRow_nil _ _ _ _, fun i h => absurd h (Nat.not_lt_zero _)⟩
theorem FsOwn.more {w w' : World} {base : Nat} {S : Nat → Prop} {N : Nat} {v' : Value} {fs : List Fm} {us : List Value} {f : Fm} {u : Value} (hul : us.length = fs.length) (hfs : ∀ i (h : i < fs.length) (h' : i < us.length), FV w S N us[i] fs[i]) (hu : FV w S N u f) (hb : Stays S N w w') (hrow : w'.ownsRow base 70 1 v' (fs.length + 1) (us ++ [u])) : FsOwn w' base S N v' (fs ++ [f]) := by
  refine ⟨us ++ [u], by simp [hul], by rw [List.length_append]; exact hrow, fun j hj hj' => ?_⟩
  by_cases e : j < fs.length
  · rw [List.getElem_append_left (by omega), List.getElem_append_left e]
    exact (hfs j e (by omega)).on hb
  · have : j = fs.length := by simp at hj; omega
    subst this
    rw [List.getElem_append_right (by omega), List.getElem_append_right (Nat.le_refl _)]
    simp only [hul, Nat.sub_self, List.getElem_cons_zero]
    exact hu.on hb

/-- A slice of forms, wherever it lies. -/
def FsAt (w : World) (S : Nat → Prop) (N : Nat) (a : Option Addr) (fs : List Fm) : Prop := ∀ i (h : i < fs.length), ∃ g o cur u, a = some ⟨g, o, none⟩ ∧ g < N ∧ w.heap[g]? = some (.cells cur 70) ∧ w.cell? ⟨g, o + i, none⟩ = some u ∧ FV w S N u fs[i]
theorem FsAt.on {w w' : World} {S : Nat → Prop} {N : Nat} {a : Option Addr} {fs : List Fm} (h : FsAt w S N a fs) (hb : Stays S N w w') : FsAt w' S N a fs := fun i hi => by
  obtain ⟨g, o, cur, u, h1, h0, h2, h3, h4⟩ := h i hi
  exact ⟨g, o, cur, u, h1, h0, (hb.2 g cur h0 h2).trans h2, (World.cell?_of_block (w := w) (a := ⟨g, o + i, none⟩) (hb.2 g cur h0 h2)).trans h3, h4.on hb⟩
theorem FsOwn.at {w : World} {base : Nat} {S : Nat → Prop} {N : Nat} {v : Value} {fs : List Fm} (h : FsOwn w base S N v fs) (hN : N ≤ w.heap.size) : ∃ a cap, v = .slice a fs.length cap ∧ fs.length ≤ cap ∧ cap ≤ maxLen ∧ FsAt w S w.heap.size a fs := by
  obtain ⟨us, hl, hrow, hf⟩ := h
  rcases hrow.2 with ⟨rfl, h0⟩ | ⟨g, cap, cur, rfl, h2, h3, h4, h5, h6, h7⟩
  · have : fs = [] := List.eq_nil_of_length_eq_zero h0
    subst this
    exact ⟨none, 0, rfl, Nat.le_refl _, Nat.zero_le _, fun i hi => absurd hi (Nat.not_lt_zero _)⟩
  · refine ⟨some ⟨g, 0, none⟩, cap, rfl, h4, h5, fun i hi => ?_⟩
    obtain ⟨hc, -⟩ := row_cell hrow (List.getElem?_eq_getElem (by rw [hl]; exact hi))
    exact ⟨g, 0, cur, us[i]'(by rw [hl]; exact hi), rfl, (Array.getElem?_eq_some_iff.1 h3).1, h3, by rw [Nat.zero_add]; exact hc, (hf i hi (by rw [hl]; exact hi)).mono hN⟩

/-- Forms with a blank between. -/
def joinF : List Fm → List Fm
  | [] => []
  | f :: fs => f :: fs.flatMap fun g => [.plain [32], g]
theorem joinF_take {fs : List Fm} {i : Nat} (h : i < fs.length) : joinF (fs.take (i + 1)) = joinF (fs.take i) ++ ((if i = 0 then [] else [.plain [32]]) ++ [fs[i]]) := by
  match fs, i with
  | f :: fs, 0 => simp [joinF]
  | f :: fs, i + 1 =>
    simp only [List.take_succ_cons, joinF, List.getElem_cons_succ]
    rw [List.take_succ_eq_append_getElem (by simpa using h), List.flatMap_append]
    simp
theorem joinF_length (fs : List Fm) : (joinF fs).length ≤ 2 * fs.length := by
  match fs with
  | [] => simp [joinF]
  | f :: fs =>
    simp only [joinF, List.length_cons]
    have : (fs.flatMap fun g => [Fm.plain [32], g]).length = 2 * fs.length := by
      induction fs with
      | nil => rfl
      | cons g fs ih => simp only [List.flatMap_cons, List.length_append, ih, List.length_cons, List.length_nil]; omega
    omega

set_option maxRecDepth 100000 in
set_option maxHeartbeats 4000000 in
theorem joined_any (fs : List Fm) (a : Option Addr) (cap : Nat) (w : World) (S : Nat → Prop) (hS : ∀ b, S b → b < w.heap.size) (hl : fs.length ≤ 2097152) (h : FsAt w S w.heap.size a fs) :
    Calls Tryz.prog 75 #[.slice a fs.length cap, .string (str [32])] w fun e w' => ∃ v, e = .returned v ∧ FsOwn w' w.heap.size S w.heap.size v (joinF fs) ∧ Below w.heap.size w w' := by
  obtain ⟨ti, hti, hzz⟩ := Option.map_eq_some_iff.1 info_form
  simp only [Prod.mk.injEq] at hzz
  obtain ⟨hz0, hz1, hz2⟩ := hzz
  have TI : Hid (Tryz.prog.info? 70 = some ti ∧ ti.zero = some .nilIface ∧ ti.size = 1 ∧ ti.bytes = 16) := ⟨hti, hz0, hz1, hz2⟩
  have HF : Hid (FsAt w S w.heap.size a fs) := h
  clear hti hz0 hz1 hz2 h
  go_enter Tryz.func75, Tryz.ntmps75
  go_wp2
  go_loopw [5, 10] (fun v5 v10 wr => ∃ i : Nat, i ≤ fs.length ∧ v10 = .int .i64 i ∧ Hid (FsOwn wr w.heap.size S w.heap.size v5 (joinF (fs.take i)) ∧ Below w.heap.size w wr)) (fun _ v10 _ => fs.length - (intOf v10).toNat)
  case atStart => exact ⟨0, Nat.zero_le _, rfl, FsOwn.nil _ _ _ _, Below.refl _ _⟩
  case round =>
    obtain ⟨i, hi, rfl, HI⟩ := hrel
    by_cases hlt : i < fs.length
    · obtain ⟨g, o, cur, u, rfl, -, hg, hc, hu⟩ := HF.out i hlt
      have BW := HI.out.2
      have e0 := (BW.cell (p := ⟨g, o + i, none⟩) (Array.getElem?_eq_some_iff.1 hg).1).trans hc
      obtain ⟨tu, vu, rfl⟩ := hu.iface
      have hu1 := hu.one
      have HU : Hid (FV wr S w.heap.size (.iface tu vu) fs[i]) := hu.on (Stays.of hS (Nat.le_refl _) BW)
      obtain ⟨us, hul, hrow, hfs⟩ := HI.out.1
      obtain ⟨m, hm⟩ : ∃ m, m = (joinF (fs.take i)).length := ⟨_, rfl⟩
      have hmb : m ≤ 4194304 := by
        have := joinF_length (fs.take i)
        rw [List.length_take] at this
        omega
      have HM : Hid (m = (joinF (fs.take i)).length) := hm
      rw [← hm] at hrow hul
      have HROW : Hid (wr.ownsRow w.heap.size 70 1 u5 m us) := hrow
      have HFS : Hid _ := hfs
      have HUL : Hid (us.length = m) := hul
      have hz : w.heap.size ≤ wr.heap.size := BW.size
      have HBW : Hid (Below w.heap.size w wr) := BW
      have HOB : Hid (∀ g, u5.ownBlock = some g → w.heap.size ≤ g) := fun g hg => by
        rcases hrow.2 with ⟨rfl, _⟩ | ⟨g', cap, cur, rfl, h, _⟩
        · cases hg
        · simp only [Value.ownBlock, Option.some.injEq] at hg; omega
      clear hm hrow hul hfs hu hc hg BW
      by_cases hi0 : i = 0
      · subst hi0
        rw [Nat.add_zero] at e0
        have h2a : (wr.alloc (.cells #[.iface tu vu] 70)).ownsRow w.heap.size 70 1 u5 m us := row_stays HROW.out fun g hg hlt' => Below.heap_alloc _ _ _ hlt'
        go_wp2_with (first
          | (at_builtin; go_loud (refine append_one _ rfl _ _ 44 rfl w.heap.size 70 ti _ 16 Tryz.underlying44 TI.out.1 TI.out.2.1 TI.out.2.2.1 TI.out.2.2.2 rfl u5 m us rfl h2a ⟨wr.heap.size, 0, none⟩ 1 (.iface tu vu) rfl (cell_one_new _ _ _) hu1 (by unfold maxLen; omega) (by omega) (by simp; omega) ?_); intro g' c' w1 hown1 hgrow1)
          | go_in)
        have hal : Below wr.heap.size wr (wr.alloc (.cells #[.iface tu vu] 70)) := (Below.refl _ _).alloc (Nat.le_refl _) _
        have hb1 : Below w.heap.size wr w1 := (hal.mono hz).grown hgrow1 (by simp; omega) (fun g hg => HOB.out g hg)
        have HN : Hid (FsOwn w1 w.heap.size S w.heap.size (.slice (some ⟨g', 0, none⟩) (m + 1) c') (joinF (fs.take (0 + 1)))) := by
          rw [joinF_take hlt, if_pos rfl, List.nil_append]
          exact FsOwn.more (by rw [HUL.out, HM.out]) HFS.out HU.out (Stays.of hS (Nat.le_refl _) hb1) (by rw [← HM.out]; exact hown1)
        have HB2 : Hid (Below w.heap.size w w1) := HBW.out.trans hb1
        clear hown1 hgrow1 hb1 hal h2a
        go_round
        case rel => exact ⟨0 + 1, by omega, by go_num, HN.out, HB2.out⟩
        case measure => simp [intOf]; omega
      · have hi1 : (0 : Int) < (i : Nat) := by omega
        have h2a : (wr.alloc (.cells #[.iface 71 (.string (str [32]))] 70)).ownsRow w.heap.size 70 1 u5 m us := row_stays HROW.out fun g hg hlt' => Below.heap_alloc _ _ _ hlt'
        go_wp2_with (first
          | (at_builtin; refine append_one _ rfl _ _ 44 rfl w.heap.size 70 ti _ 16 Tryz.underlying44 TI.out.1 TI.out.2.1 TI.out.2.2.1 TI.out.2.2.2 rfl u5 m us rfl h2a ⟨wr.heap.size, 0, none⟩ 1 (.iface 71 (.string (str [32]))) rfl (cell_one_new _ _ _) rfl (by unfold maxLen; omega) (by omega) (by simp; omega) ?_; intro g1 c1 w1 hown1 hgrow1; have h2b : (w1.alloc (.cells #[.iface tu vu] 70)).ownsRow w.heap.size 70 1 (.slice (some ⟨g1, 0, none⟩) (m + 1) c1) (m + 1) (us ++ [.iface 71 (.string (str [32]))]) := row_stays hown1 fun g hg hlt' => Below.heap_alloc _ _ _ hlt'
             have hz1 : w.heap.size ≤ w1.heap.size := Nat.le_trans hz (Nat.le_trans (by simp) hgrow1.size))
          | (at_builtin; go_loud (refine append_one _ rfl _ _ 44 rfl w.heap.size 70 ti _ 16 Tryz.underlying44 TI.out.1 TI.out.2.1 TI.out.2.2.1 TI.out.2.2.2 rfl (.slice (some ⟨g1, 0, none⟩) (m + 1) c1) (m + 1) _ rfl h2b ⟨w1.heap.size, 0, none⟩ 1 (.iface tu vu) rfl (cell_one_new _ _ _) hu1 (by unfold maxLen; omega) (by omega) (by simp; omega) ?_); intro g2 c2 w2 hown2 hgrow2)
          | go_in)
        have hal : Below wr.heap.size wr (wr.alloc (.cells #[.iface 71 (.string (str [32]))] 70)) := (Below.refl _ _).alloc (Nat.le_refl _) _
        have hb1 : Below w.heap.size wr w1 := (hal.mono hz).grown hgrow1 (by simp; omega) (fun g hg => HOB.out g hg)
        have hal2 : Below w1.heap.size w1 (w1.alloc (.cells #[.iface tu vu] 70)) := (Below.refl _ _).alloc (Nat.le_refl _) _
        have hb2 : Below w.heap.size w1 w2 := (hal2.mono hz1).grown hgrow2 (by simp; omega) (fun g hg => by
          rcases hown1.2 with ⟨h, _⟩ | ⟨g', cap, cur, h, hle, _⟩
          · cases h
          · cases h
            simp only [Value.ownBlock, Option.some.injEq] at hg
            omega)
        have HN : Hid (FsOwn w2 w.heap.size S w.heap.size (.slice (some ⟨g2, 0, none⟩) (m + 1 + 1) c2) (joinF (fs.take (i + 1)))) := by
          rw [joinF_take hlt, if_neg hi0, ← List.append_assoc]
          have F1 : FsOwn w1 w.heap.size S w.heap.size (.slice (some ⟨g1, 0, none⟩) (m + 1) c1) (joinF (fs.take i) ++ [.plain [32]]) := FsOwn.more (u := .iface 71 (.string (str [32]))) (by rw [HUL.out, HM.out]) HFS.out rfl (Stays.of hS (Nat.le_refl _) hb1) (by rw [← HM.out]; exact hown1)
          have hst1 : Stays S w.heap.size wr w1 := Stays.of hS (Nat.le_refl _) hb1
          refine FsOwn.more (us := us ++ [.iface 71 (.string (str [32]))]) (by rw [List.length_append, List.length_append, HUL.out, HM.out]; rfl) (fun j hj hj' => ?_) (HU.out.on hst1) (Stays.of hS (Nat.le_refl _) hb2) (by rw [List.length_append, ← HM.out]; exact hown2)
          by_cases e : j < (joinF (fs.take i)).length
          · rw [List.getElem_append_left (by rw [HUL.out, HM.out]; exact e), List.getElem_append_left e]
            exact (HFS.out j e (by rw [HUL.out, HM.out]; exact e)).on hst1
          · have hje : j = (joinF (fs.take i)).length := by rw [List.length_append] at hj; simp at hj; omega
            subst hje
            rw [List.getElem_append_right (by rw [HUL.out, HM.out]; exact Nat.le_refl _), List.getElem_append_right (Nat.le_refl _)]
            simp only [HUL.out, HM.out, Nat.sub_self, List.getElem_cons_zero]
            rfl
        have HB2 : Hid (Below w.heap.size w w2) := (HBW.out.trans hb1).trans hb2
        clear hown1 hgrow1 hb1 hal h2a hown2 hgrow2 hb2 hal2 h2b
        go_round
        case rel => exact ⟨i + 1, by omega, by go_num, HN.out, HB2.out⟩
        case measure => simp [intOf]; omega
    · obtain rfl : i = fs.length := by omega
      have hF := HI.out.1
      rw [List.take_length] at hF
      go_wp2
      go_ret
      exact ⟨_, rfl, hF, HI.out.2⟩

end Go.Proofs.YtlnpfnglphdaiaaGreatDoor.vt

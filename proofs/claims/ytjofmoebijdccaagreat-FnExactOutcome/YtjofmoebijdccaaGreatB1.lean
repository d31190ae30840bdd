/-
  Data that lie in memory as cells: ints, texts, pairs, slices of whatever elements, and trees whose nodes hold a slice of their kids. What lies in blocks that stay as they were lies there still.
-/
import Derived.Below
import Derived.Deep.Slices
import Derived.WalkKit
import Derived.OpenShut
import Derived.Laws.IdiomCopy
import Derived.Laws.MakeOwn
namespace Go.Proofs.YtjofmoebijdccaaGreat.rose
open Go.RowKit Go.Deep Go.ChangeShapes Go.WideShapes
set_option linter.unusedVariables false

/-- A row of cells from an address on. -/
def CellsAt (w : World) (b o : Nat) (cs : List Value) : Prop := ∀ j v, cs[j]? = some v → w.cell? ⟨b, o + j, none⟩ = some v

theorem CellsAt.on {w w' : World} {b o : Nat} {cs : List Value} (h : CellsAt w b o cs) (hb : w'.heap[b]? = w.heap[b]?) : CellsAt w' b o cs :=
  fun j v hj => by rw [World.cell?_of_block (w := w) (a := ⟨b, o + j, none⟩) hb]; exact h j v hj

/-- HOW A KIND OF DATA LIES: so many cells; what they are in a world, its blocks all within S. -/
structure Sh (α : Type) where
  k : Nat
  rep : World → (Nat → Prop) → List Value → α → Prop
  len : ∀ {w S cs x}, rep w S cs x → cs.length = k
  on : ∀ {w w' S cs x}, rep w S cs x → (∀ b, S b → w'.heap[b]? = w.heap[b]?) → rep w' S cs x
  mono : ∀ {w S S' cs x}, rep w S cs x → (∀ b, S b → S' b) → rep w S' cs x
  one : ∀ {w S cs x}, rep w S cs x → ∀ v ∈ cs, v.oneCell' = true

def Sh.int : Sh Int where
  k := 1
  rep := fun _ _ cs n => cs = [.int .i64 n] ∧ -9223372036854775808 ≤ n ∧ n ≤ 9223372036854775807
  len := by rintro _ _ _ _ ⟨rfl, _⟩; rfl
  on := fun h _ => h
  mono := fun h _ => h
  one := by rintro _ _ _ _ ⟨rfl, _⟩ v hv; simp at hv; subst hv; rfl

def Sh.bool : Sh Bool where
  k := 1
  rep := fun _ _ cs n => cs = [.bool n]
  len := by rintro _ _ _ _ rfl; rfl
  on := fun h _ => h
  mono := fun h _ => h
  one := by rintro _ _ _ _ rfl v hv; simp at hv; subst hv; rfl

def Sh.str : Sh ByteArray where
  k := 1
  rep := fun _ _ cs s => cs = [.string s] ∧ s.size ≤ maxLen
  len := by rintro _ _ _ _ ⟨rfl, _⟩; rfl
  on := fun h _ => h
  mono := fun h _ => h
  one := by rintro _ _ _ _ ⟨rfl, _⟩ v hv; simp at hv; subst hv; rfl

def Sh.pair {α β : Type} (A : Sh α) (B : Sh β) : Sh (α × β) where
  k := A.k + B.k
  rep := fun w S cs x => ∃ c1 c2, cs = c1 ++ c2 ∧ A.rep w S c1 x.1 ∧ B.rep w S c2 x.2
  len := by rintro _ _ _ _ ⟨c1, c2, rfl, h1, h2⟩; simp [A.len h1, B.len h2]
  on := by rintro _ _ _ _ _ ⟨c1, c2, rfl, h1, h2⟩ h; exact ⟨c1, c2, rfl, A.on h1 h, B.on h2 h⟩
  mono := by rintro _ _ _ _ _ ⟨c1, c2, rfl, h1, h2⟩ h; exact ⟨c1, c2, rfl, A.mono h1 h, B.mono h2 h⟩
  one := by
    rintro _ _ _ _ ⟨c1, c2, rfl, h1, h2⟩ v hv
    rcases List.mem_append.1 hv with hv | hv
    · exact A.one h1 v hv
    · exact B.one h2 v hv

/-- WHERE THE CELLS OF ELEMENTS LIE: element i's are css i. -/
def RowAt (w : World) (S : Nat → Prop) (k : Nat) (a : Option Addr) (n : Nat) (css : Nat → List Value) : Prop :=
  ∀ i, i < n → ∃ b o, a = some ⟨b, o, none⟩ ∧ S b ∧ CellsAt w b (o + i * k) (css i)

theorem RowAt.on {w w' : World} {S : Nat → Prop} {k : Nat} {a : Option Addr} {n : Nat} {css : Nat → List Value} (h : RowAt w S k a n css) (hb : ∀ b, S b → w'.heap[b]? = w.heap[b]?) : RowAt w' S k a n css := fun i hi => by
  obtain ⟨b, o, e, hs, hc⟩ := h i hi
  exact ⟨b, o, e, hs, hc.on (hb b hs)⟩
theorem RowAt.mono {w : World} {S S' : Nat → Prop} {k : Nat} {a : Option Addr} {n : Nat} {css : Nat → List Value} (h : RowAt w S k a n css) (hb : ∀ b, S b → S' b) : RowAt w S' k a n css := fun i hi => by
  obtain ⟨b, o, e, hs, hc⟩ := h i hi
  exact ⟨b, o, e, hb b hs, hc⟩

/-- A TREE: what a node holds, and its kids. -/
inductive Rose (α : Type) where
  | mk (x : α) (kids : List (Rose α)) : Rose α

def Rose.x {α : Type} : Rose α → α | .mk x _ => x
def Rose.kids {α : Type} : Rose α → List (Rose α) | .mk _ ks => ks
theorem Rose.eta {α : Type} (T : Rose α) : T = .mk T.x T.kids := by cases T; rfl

/-- .. AS IT LIES: the cells of what the node holds, and a slice of the kids' cells. -/
inductive RoseRep {α : Type} (A : Sh α) (w : World) (S : Nat → Prop) : List Value → Rose α → Prop where
  | mk {ps : List Value} {x : α} {a : Option Addr} {cap : Nat} {kids : List (Rose α)} (css : Nat → List Value) (hp : A.rep w S ps x) (hcap : kids.length ≤ cap) (hmax : cap ≤ maxLen) (hnone : a = none → cap = 0)
      (hat : RowAt w S (A.k + 1) a kids.length css) (hk : ∀ i (h : i < kids.length), RoseRep A w S (css i) kids[i]) : RoseRep A w S (ps ++ [.slice a kids.length cap]) (.mk x kids)

def Sh.rose {α : Type} (A : Sh α) : Sh (Rose α) where
  k := A.k + 1
  rep := RoseRep A
  len := by rintro _ _ _ _ ⟨css, hp, _, _, _, _, _⟩; simp [A.len hp]
  on := by
    intro w w' S cs x h hb
    induction h with
    | mk css hp hcap hmax hnone hat hk ih => exact .mk css (A.on hp hb) hcap hmax hnone (hat.on hb) ih
  mono := by
    intro w S S' cs x h hb
    induction h with
    | mk css hp hcap hmax hnone hat hk ih => exact .mk css (A.mono hp hb) hcap hmax hnone (hat.mono hb) ih
  one := by
    rintro _ _ _ _ ⟨css, hp, _, _, _, _, _⟩ v hv
    rcases List.mem_append.1 hv with hv | hv
    · exact A.one hp v hv
    · simp at hv; subst hv; rfl

/-- A SLICE of elements. -/
def SlRep {α : Type} (A : Sh α) (w : World) (S : Nat → Prop) (cs : List Value) (xs : List α) : Prop :=
  ∃ (a : Option Addr) (cap : Nat) (css : Nat → List Value), cs = [.slice a xs.length cap] ∧ xs.length ≤ cap ∧ cap ≤ maxLen ∧ (a = none → cap = 0) ∧ RowAt w S A.k a xs.length css ∧ ∀ i (h : i < xs.length), A.rep w S (css i) xs[i]

def Sh.slice {α : Type} (A : Sh α) : Sh (List α) where
  k := 1
  rep := SlRep A
  len := by rintro _ _ _ _ ⟨a, cap, css, rfl, _⟩; rfl
  on := by rintro _ _ _ _ _ ⟨a, cap, css, rfl, h1, h2, h5, h3, h4⟩ h; exact ⟨a, cap, css, rfl, h1, h2, h5, h3.on h, fun i hi => A.on (h4 i hi) h⟩
  mono := by rintro _ _ _ _ _ ⟨a, cap, css, rfl, h1, h2, h5, h3, h4⟩ h; exact ⟨a, cap, css, rfl, h1, h2, h5, h3.mono h, fun i hi => A.mono (h4 i hi) h⟩
  one := by rintro _ _ _ _ ⟨a, cap, css, rfl, _⟩ v hv; simp at hv; subst hv; rfl

/-- A tree is what its node holds beside the slice of its kids. -/
theorem rose_iff {α : Type} {A : Sh α} {w : World} {S : Nat → Prop} {cs : List Value} {x : α} {kids : List (Rose α)} :
    A.rose.rep w S cs (.mk x kids) ↔ ∃ ps ks, cs = ps ++ ks ∧ A.rep w S ps x ∧ A.rose.slice.rep w S ks kids := by
  constructor
  · intro h
    cases h with
    | mk css hp hcap hmax hnone hat hk => exact ⟨_, _, rfl, hp, _, _, css, rfl, hcap, hmax, hnone, hat, hk⟩
  · rintro ⟨ps, ks, rfl, hp, a, cap, css, rfl, h1, h2, h5, h3, h4⟩
    exact .mk css hp h1 h2 h5 h3 h4

/-- What lies below the heap's end still lies behind a call that turned nothing there. -/
theorem Sh.below {α : Type} (A : Sh α) {w w' : World} {B : Nat} {cs : List Value} {x : α} (h : A.rep w (· < B) cs x) (hb : Below B w w') : A.rep w' (· < B) cs x := A.on h fun b hlt => hb.block b hlt

/-- The cells of a slice's elements, one row behind the other. -/
def flat (css : Nat → List Value) (n : Nat) : List Value := (List.range n).flatMap css
theorem flat_succ (css : Nat → List Value) (n : Nat) : flat css (n + 1) = flat css n ++ css n := by simp [flat, List.range_succ]
theorem flat_length {css : Nat → List Value} {n k : Nat} (h : ∀ i, i < n → (css i).length = k) : (flat css n).length = n * k := by
  induction n with
  | zero => simp [flat]
  | succ n ih => rw [flat_succ, List.length_append, ih fun i hi => h i (by omega), h n (by omega), Nat.succ_mul]
theorem flat_get {css : Nat → List Value} {n k : Nat} (h : ∀ i, i < n → (css i).length = k) {i j : Nat} (hi : i < n) (hj : j < k) : (flat css n)[i * k + j]? = (css i)[j]? := by
  induction n with
  | zero => omega
  | succ n ih =>
    rw [flat_succ]
    have hl := flat_length (css := css) (n := n) (k := k) fun i hi => h i (by omega)
    by_cases he : i < n
    · have : i * k + j < n * k := by
        have := Nat.mul_le_mul_right k (show i + 1 ≤ n by omega)
        rw [Nat.succ_mul] at this; omega
      rw [List.getElem?_append_left (by omega), ih (fun i hi => h i (by omega)) he]
    · obtain rfl : i = n := by omega
      rw [List.getElem?_append_right (by omega), hl, Nat.add_sub_cancel_left]
theorem flat_row {w : World} {S : Nat → Prop} {k n b o : Nat} {css : Nat → List Value} (hl : ∀ i, i < n → (css i).length = k) (h : RowAt w S k (some ⟨b, o, none⟩) n css) : CellsAt w b o (flat css n) := by
  induction n with
  | zero => intro j v hj; simp [flat] at hj
  | succ n ih =>
    intro j v hj
    rw [flat_succ] at hj
    have hln := flat_length (css := css) (n := n) (k := k) fun i hi => hl i (by omega)
    by_cases hlt : j < n * k
    · rw [List.getElem?_append_left (by omega)] at hj
      exact ih (fun i hi => hl i (by omega)) (fun i hi => h i (by omega)) j v hj
    · rw [List.getElem?_append_right (by omega), hln] at hj
      obtain ⟨b', o', e, _, hc⟩ := h n (by omega)
      cases e
      have := hc _ _ hj
      rwa [show o + n * k + (j - n * k) = o + j by omega] at this

/-! ### An argument, as it lies -/

section
variable {H : Type} {enc : TypeId × Value → H} {P : Program} {w : World} {spare : Nat → Bool} {held : Bool}

/-- WHATEVER CELLS ARE READ AS A VALUE OF THAT TYPE (with fuel n at most) LIE AS THAT KIND OF DATA. -/
def OpensAt (enc : TypeId × Value → H) (P : Program) (w : World) (spare : Nat → Bool) (held : Bool) {α : Type} (n : Nat) (A : Sh α) (t : TypeId) : Prop :=
  ∀ fuel cs x, fuel ≤ n → DataW.trod enc P w 0 spare held fuel t cs = some x → ∃ y, A.rep w (· < w.heap.size) cs y

theorem opens_int {t : TypeId} (ht : P.underlying t = some (.int .i64)) (n : Nat) : OpensAt enc P w spare held n Sh.int t := fun fuel cs x _ h => by
  obtain ⟨m, rfl, -, hw⟩ := DataW.trod_int ht h
  have := bounds_i64 hw
  exact ⟨m, rfl, by omega, by omega⟩
theorem opens_bool {t : TypeId} (ht : P.underlying t = some .bool) (n : Nat) : OpensAt enc P w spare held n Sh.bool t := fun fuel cs x _ h => by
  obtain ⟨m, rfl, -⟩ := DataW.trod_bool ht h
  exact ⟨m, rfl⟩
theorem opens_str {t : TypeId} (ht : P.underlying t = some .string) (n : Nat) : OpensAt enc P w spare held n Sh.str t := fun fuel cs x _ h => by
  obtain ⟨m, rfl, -, hw⟩ := DataW.trod_string ht h
  exact ⟨m, rfl, hw⟩

theorem cell_lt {w : World} {b o : Nat} {v : Value} (h : w.cell? ⟨b, o, none⟩ = some v) : b < w.heap.size := by
  rcases Nat.lt_or_ge b w.heap.size with h' | h'
  · exact h'
  · simp [World.cell?, Array.getElem?_eq_none h'] at h
theorem add_plain (b o i : Nat) : (⟨b, o, none⟩ : Addr).add i = ⟨b, o + i, none⟩ := by unfold Addr.add; split <;> simp_all

theorem opens_slice {α : Type} {A : Sh α} {s e : TypeId} {n : Nat} (hs : P.underlying s = some (.slice e)) (hk : P.cellsOf e = A.k) (hk0 : 0 < A.k) (he : OpensAt enc P w spare held n A e) : OpensAt enc P w spare held (n + 1) A.slice s := by
  intro fuel cs x hf h
  rcases DataW.trod_slice hs h with ⟨rfl, -⟩ | ⟨a, len, cap, elems, rest, m, hfu, rfl, -, -, hl, hm, hlen, hel, -, -⟩
  · exact ⟨[], none, 0, fun _ => [], rfl, Nat.le_refl _, Nat.zero_le _, fun _ => rfl, fun i hi => absurd hi (Nat.not_lt_zero _), fun i hi => absurd hi (Nat.not_lt_zero _)⟩
  · have key : ∀ i, i < len → ∃ p : List Value × List Value × α, w.cells? 0 (a.add (i * A.k)) A.k = some p.1 ∧ A.rep w (· < w.heap.size) p.1 p.2.2 := fun i hi => by
      have h1 := hel i hi
      rw [hk, List.getElem?_eq_getElem (by omega)] at h1
      obtain ⟨cs', h2, h3⟩ := Option.bind_eq_some_iff.1 h1
      obtain ⟨y, hy⟩ := he m cs' _ (by omega) h3
      exact ⟨(cs', [], y), h2, hy⟩
    by_cases h0 : len = 0
    · subst h0
      exact ⟨[], some a, cap, fun _ => [], rfl, Nat.zero_le _, hm, (fun h => by cases h), fun i hi => absurd hi (Nat.not_lt_zero _), fun i hi => absurd hi (Nat.not_lt_zero _)⟩
    · obtain ⟨p0, hc0, _⟩ := key 0 (by omega)
      haveI : Inhabited (List Value × List Value × α) := ⟨p0⟩
      obtain ⟨f, hf⟩ := choose_lt key
      obtain ⟨b, o, spot⟩ := a
      have hspot : spot = none := by
        obtain ⟨_, hl1, hc1⟩ := World.cells?_some hc0
        have h1 := hc1 0 hk0
        rw [List.getElem?_eq_getElem (by omega)] at h1
        have := World.cell?_spot h1
        simpa [Addr.add] using this
      subst hspot
      refine ⟨(List.range len).map fun i => (f i).2.2, some ⟨b, o, none⟩, cap, fun i => (f i).1, by simp, by simpa using hl, hm, (fun h => by cases h), ?_, ?_⟩
      · intro i hi
        have hi' : i < len := by simpa using hi
        obtain ⟨h1, h2⟩ := hf i hi'
        obtain ⟨_, hl1, hc1⟩ := World.cells?_some h1
        have hca : CellsAt w b (o + i * A.k) (f i).1 := fun j v hj => by
          have hjl : j < A.k := by
            rcases Nat.lt_or_ge j A.k with h' | h'
            · exact h'
            · rw [List.getElem?_eq_none (by omega)] at hj; cases hj
          have := hc1 j hjl
          rw [hj, add_plain, add_plain] at this
          exact this
        refine ⟨b, o, rfl, ?_, hca⟩
        have : 0 < (f i).1.length := by omega
        exact cell_lt (hca 0 _ (List.getElem?_eq_getElem this))
      · intro i hi
        have hi' : i < len := by simpa using hi
        simpa using (hf i hi').2

/-- A tree's type: told from its node's fields, where the kids' slice is told with less fuel. -/
theorem opens_rose {α : Type} {A : Sh α} {s t : TypeId} (hs : P.underlying s = some (.slice t)) (hk : P.cellsOf t = A.k + 1)
    (step : ∀ n, OpensAt enc P w spare held n A.rose.slice s → OpensAt enc P w spare held (n + 1) A.rose t) : ∀ n, OpensAt enc P w spare held n A.rose t ∧ OpensAt enc P w spare held n A.rose.slice s := by
  have hz : ∀ {β : Type} (B : Sh β) u, OpensAt enc P w spare held 0 B u := fun B u fuel cs x hf h => by
    obtain rfl : fuel = 0 := by omega
    simp [DataW.trod] at h
  intro n
  induction n with
  | zero => exact ⟨hz _ _, hz _ _⟩
  | succ n ih => exact ⟨step n ih.2, opens_slice hs hk (Nat.succ_pos _) ih.1⟩

end

/-! ### A row that a loop fills, an element a round -/

theorem setCells_size (b : Nat) : ∀ (vs : List Value) (o : Nat) (w : World), (w.setCells b o vs).heap.size = w.heap.size
  | [], _, _ => rfl
  | v :: r, o, w => by rw [World.setCells, setCells_size b r]; simp [World.setCell]
theorem setCells_other (b : Nat) {k : Nat} (hk : k ≠ b) : ∀ (vs : List Value) (o : Nat) (w : World), (w.setCells b o vs).heap[k]? = w.heap[k]?
  | [], _, _ => rfl
  | v :: r, o, w => by rw [World.setCells, setCells_other b hk r]; exact Below.heap_setCell _ _ _ _ hk
theorem setCells_block (b : Nat) {t : TypeId} : ∀ (vs : List Value) (o : Nat) (w : World) (cur : Array Value), w.heap[b]? = some (.cells cur t) → ∃ cur', (w.setCells b o vs).heap[b]? = some (.cells cur' t) ∧ cur'.size = cur.size
  | [], _, _, cur, h => ⟨cur, h, rfl⟩
  | v :: r, o, w, cur, h => by
    rw [World.setCells]
    obtain ⟨c, h1, h2⟩ := setCells_block b (t := t) r (o + 1) (w.setCell ⟨b, o, none⟩ v) (cur.setIfInBounds o v) (by simp [World.setCell, Array.getElem?_modify, h])
    exact ⟨c, h1, by rw [h2]; simp⟩
theorem setCells_below {B : Nat} {w : World} {b : Nat} (hb : B ≤ b) (o : Nat) (vs : List Value) : Below B w (w.setCells b o vs) := by
  induction vs generalizing o w with
  | nil => exact Below.refl _ _
  | cons v r ih => rw [World.setCells]; exact ((Below.refl B w).setCell (p := ⟨b, o, none⟩) hb v).trans (ih (o + 1))

/-- BLOCK g IS A ROW of n elements of type t, of which i are laid: they lie in blocks behind g. -/
structure Filling {α : Type} (A : Sh α) (t : TypeId) (w : World) (g n i : Nat) (xs : List α) : Prop where
  blk : ∃ cur, w.heap[g]? = some (.cells cur t) ∧ cur.size = n * A.k
  laid : ∃ css : Nat → List Value, ∀ j (h : j < xs.length), j < i → CellsAt w g (0 + j * A.k) (css j) ∧ A.rep w (fun b => g < b ∧ b < w.heap.size) (css j) xs[j]

theorem Filling.start {α : Type} {A : Sh α} {t : TypeId} {w : World} {z : Array Value} {n : Nat} {xs : List α} : Filling A t (w.alloc (.cells (madeCells z (n * A.k)) t)) w.heap.size n 0 xs :=
  ⟨⟨madeCells z (n * A.k), by show (w.heap.push _)[w.heap.size]? = _; simp, size_madeCells _ _⟩, fun _ => [], fun j _ hj => absurd hj (Nat.not_lt_zero _)⟩

/-- The store of an element's cells. -/
theorem Filling.store {α : Type} {A : Sh α} {t : TypeId} {P : Program} {w w1 : World} {g n i : Nat} {xs : List α} (h : Filling A t w g n i xs) (hb : Below w.heap.size w w1) (hg : g < w.heap.size) (hi : i < n) {cs : List Value} (hl : cs.length = A.k) (h1 : ∀ v ∈ cs, v.oneCell' = true) :
    Sem.run P (storeCells ⟨g, i * A.k, none⟩ cs) w1 = .ok () (w1.setCells g (i * A.k) cs) := by
  obtain ⟨cur, hc, hs⟩ := h.blk
  rw [← hb.block g hg] at hc
  have hle : i * A.k + A.k ≤ n * A.k := by rw [← Nat.succ_mul]; exact Nat.mul_le_mul_right _ hi
  have := run_storeCells_cells (P := P) g (i * A.k) cs 0 w1 (fun j hj => by simp [World.cell?, hc]; omega) (fun j hj => by simp [World.frozen?, hc]) h1
  simpa using this

/-- .. and what is laid then. -/
theorem Filling.step {α : Type} {A : Sh α} {t : TypeId} {w w1 : World} {g n i : Nat} {xs : List α} (h : Filling A t w g n i xs) (hb : Below w.heap.size w w1) (hg : g < w.heap.size) (hi : i < n) (hx : i < xs.length) {cs : List Value}
    (hr : A.rep w1 (fun b => w.heap.size ≤ b ∧ b < w1.heap.size) cs xs[i]) : Filling A t (w1.setCells g (i * A.k) cs) g n (i + 1) xs := by
  obtain ⟨cur, hc, hs⟩ := h.blk
  rw [← hb.block g hg] at hc
  have hl := A.len hr
  have hle : i * A.k + A.k ≤ n * A.k := by rw [← Nat.succ_mul]; exact Nat.mul_le_mul_right _ hi
  obtain ⟨css, hcss⟩ := h.laid
  refine ⟨?_, fun j => if j = i then cs else css j, fun j hj hji => ?_⟩
  · obtain ⟨c, h1, h2⟩ := setCells_block g cs (i * A.k) w1 cur hc
    exact ⟨c, h1, by rw [h2, hs]⟩
  · by_cases he : j = i
    · subst he
      simp only [if_pos]
      refine ⟨fun q v hq => ?_, ?_⟩
      · have hql : q < cs.length := by
          rcases Nat.lt_or_ge q cs.length with h' | h'
          · exact h'
          · rw [List.getElem?_eq_none h'] at hq; cases hq
        have := World.cell?_setCells_in g cs (j * A.k) w1 (fun q' hq' => by simp [World.cell?, hc]; omega) q hql
        rw [Nat.zero_add, this]
        rw [List.getElem?_eq_getElem hql] at hq
        exact hq
      · refine A.mono (A.on hr fun b hS => setCells_other g (by omega) _ _ _) fun b hS => ?_
        rw [setCells_size]
        exact ⟨by omega, hS.2⟩
    · simp only [if_neg he]
      obtain ⟨h1, h2⟩ := hcss j hj (by omega)
      have hjk : j * A.k + A.k ≤ i * A.k := by rw [← Nat.succ_mul]; exact Nat.mul_le_mul_right _ (by omega)
      refine ⟨fun q v hq => ?_, ?_⟩
      · have hql : q < A.k := by
          rcases Nat.lt_or_ge q A.k with h' | h'
          · exact h'
          · rw [List.getElem?_eq_none (by rw [A.len h2]; exact h')] at hq; cases hq
        rw [World.cell?_setCells_out g cs (i * A.k) w1 _ (fun _ _ => Or.inl (by simp; omega)), World.cell?_of_block (w := w) (a := ⟨g, 0 + j * A.k + q, none⟩) (hb.block g hg)]
        exact h1 q v hq
      · refine A.mono (A.on (A.on h2 fun b hS => hb.block b hS.2) fun b hS => setCells_other g (by omega) _ _ _) fun b hS => ?_
        rw [setCells_size]
        exact ⟨hS.1, Nat.lt_of_lt_of_le hS.2 hb.size⟩

theorem Filling.done {α : Type} {A : Sh α} {t : TypeId} {w : World} {g : Nat} {xs : List α} (h : Filling A t w g xs.length xs.length xs) (hg : g < w.heap.size) (hm : xs.length ≤ maxLen) : A.slice.rep w (fun b => g ≤ b ∧ b < w.heap.size) [.slice (some ⟨g, 0, none⟩) xs.length xs.length] xs := by
  obtain ⟨css, hcss⟩ := h.laid
  exact ⟨_, _, css, rfl, Nat.le_refl _, hm, (fun h => by cases h), fun i hi => ⟨g, 0, rfl, ⟨Nat.le_refl _, hg⟩, (hcss i hi hi).1⟩, fun i hi => A.mono (hcss i hi hi).2 fun b hS => ⟨by omega, hS.2⟩⟩

/-! ### A slice that the call itself appends to -/

theorem flat_append (f g : Nat → List Value) (n m : Nat) : flat (fun i => if i < n then f i else g (i - n)) (n + m) = flat f n ++ flat g m := by
  induction m with
  | zero =>
    simp only [Nat.add_zero]
    have : flat (fun i => if i < n then f i else g (i - n)) n = flat f n := by
      unfold flat
      exact Go.Deep.flatMap_congr_range fun i hi => by simp [hi]
    rw [this]; simp [flat]
  | succ m ih =>
    rw [← Nat.add_assoc, flat_succ, ih, flat_succ, List.append_assoc, if_neg (by omega), Nat.add_sub_cancel_left]

/-- THE CALL's OWN SLICE v of those elements, its row from block base on; they lie within S. -/
def Own {α : Type} (A : Sh α) (t : TypeId) (w : World) (base : Nat) (S : Nat → Prop) (v : Value) (xs : List α) : Prop :=
  ∃ css : Nat → List Value, w.ownsRow base t A.k v xs.length (flat css xs.length) ∧ ∀ i (h : i < xs.length), A.rep w S (css i) xs[i]

theorem Own.nil {α : Type} (A : Sh α) (t : TypeId) (w : World) (base : Nat) (S : Nat → Prop) : Own A t w base S (.slice none 0 0) [] :=
  ⟨fun _ => [], World.ownsRow_nil w base t A.k, fun i h => absurd h (Nat.not_lt_zero _)⟩

theorem Own.on {α : Type} {A : Sh α} {t : TypeId} {w w' : World} {base : Nat} {S : Nat → Prop} {v : Value} {xs : List α} (h : Own A t w base S v xs) (hb : ∀ b, (S b ∨ b < w.heap.size) → w'.heap[b]? = w.heap[b]?) : Own A t w' base S v xs := by
  obtain ⟨css, ⟨hl, hv⟩, hr⟩ := h
  refine ⟨css, ⟨hl, ?_⟩, fun i hi => A.on (hr i hi) fun b hS => hb b (Or.inl hS)⟩
  rcases hv with h0 | ⟨g, cap, cur, h1, h2, h3, h4⟩
  · exact Or.inl h0
  · have hg : g < w.heap.size := by
      rcases Nat.lt_or_ge g w.heap.size with h' | h'
      · exact h'
      · rw [Array.getElem?_eq_none h'] at h3; cases h3
    exact Or.inr ⟨g, cap, cur, h1, h2, by rw [hb g (Or.inr hg)]; exact h3, h4⟩

theorem Own.more {α : Type} {A : Sh α} {t : TypeId} {w w' : World} {base : Nat} {S : Nat → Prop} {v v' : Value} {xs ys : List α} {css css2 : Nat → List Value}
    (hv : w.ownsRow base t A.k v xs.length (flat css xs.length)) (hr : ∀ i (h : i < xs.length), A.rep w S (css i) xs[i]) (hr2 : ∀ i (h : i < ys.length), A.rep w S (css2 i) ys[i]) (hS : ∀ b, S b → b < base) (hbase : base ≤ w.heap.size)
    (h' : w'.ownsRow base t A.k v' (xs.length + ys.length) (flat css xs.length ++ flat css2 ys.length)) (hg : w.grownBy w' v.ownBlock) : Own A t w' base S v' (xs ++ ys) := by
  have same : ∀ b, S b → w'.heap[b]? = w.heap[b]? := fun b hb => by
    refine hg.block b (Nat.lt_of_lt_of_le (hS b hb) hbase) fun e => ?_
    rcases hv.2 with ⟨rfl, _⟩ | ⟨g, cap, cur, rfl, h2, _⟩
    · cases e
    · simp only [Value.ownBlock, Option.some.injEq] at e
      have := hS b hb
      omega
  refine ⟨fun i => if i < xs.length then css i else css2 (i - xs.length), by rw [List.length_append, flat_append]; exact h', fun i hi => ?_⟩
  rw [List.length_append] at hi
  by_cases hlt : i < xs.length
  · simp only [if_pos hlt]
    rw [List.getElem_append_left hlt]
    exact A.on (hr i hlt) same
  · simp only [if_neg hlt]
    rw [List.getElem_append_right (by omega)]
    exact A.on (hr2 (i - xs.length) (by omega)) same

theorem Own.slice {α : Type} {A : Sh α} {t : TypeId} {w : World} {base : Nat} {S : Nat → Prop} {v : Value} {xs : List α} (h : Own A t w base S v xs) (hk : 0 < A.k) : A.slice.rep w (fun b => S b ∨ (base ≤ b ∧ b < w.heap.size)) [v] xs := by
  obtain ⟨css, ⟨hl, hv⟩, hr⟩ := h
  rcases hv with ⟨rfl, h0⟩ | ⟨g, cap, cur, rfl, h2, h3, h4, h5, h6, h7⟩
  · have : xs = [] := List.eq_nil_of_length_eq_zero h0
    subst this
    exact ⟨none, 0, fun _ => [], rfl, Nat.le_refl _, Nat.zero_le _, fun _ => rfl, fun i hi => absurd hi (Nat.not_lt_zero _), fun i hi => absurd hi (Nat.not_lt_zero _)⟩
  · have hg : g < w.heap.size := by
      rcases Nat.lt_or_ge g w.heap.size with h' | h'
      · exact h'
      · rw [Array.getElem?_eq_none h'] at h3; cases h3
    refine ⟨some ⟨g, 0, none⟩, cap, css, rfl, h4, h5, (fun h => by cases h), fun i hi => ⟨g, 0, rfl, Or.inr ⟨h2, hg⟩, fun j u hj => ?_⟩, fun i hi => A.mono (hr i hi) fun b hS => Or.inl hS⟩
    have hjk : j < A.k := by
      rcases Nat.lt_or_ge j A.k with h' | h'
      · exact h'
      · rw [List.getElem?_eq_none (by rw [A.len (hr i hi)]; exact h')] at hj; cases hj
    have hf := flat_get (css := css) (n := xs.length) (k := A.k) (fun i hi => A.len (hr i hi)) hi hjk
    rw [hj, ← h7, List.getElem?_take] at hf
    have hlt : i * A.k + j < xs.length * A.k := by
      have := Nat.mul_le_mul_right A.k (show i + 1 ≤ xs.length by omega)
      rw [Nat.succ_mul] at this; omega
    rw [if_pos hlt] at hf
    simp only [World.cell?, h3, Nat.zero_add]
    rw [Array.getElem?_toList] at hf
    exact hf

/-! ### Small things -/

theorem slice_cells {α : Type} {A : Sh α} {w : World} {S : Nat → Prop} {cs : List Value} {xs : List α} (h : A.slice.rep w S cs xs) : ∃ a cap, cs = [.slice a xs.length cap] := by
  obtain ⟨a, cap, css, rfl, _⟩ := h
  exact ⟨a, cap, rfl⟩

theorem ind {α : Type} {P : Rose α → Prop} (h : ∀ x ks, (∀ k ∈ ks, P k) → P (.mk x ks)) : ∀ T, P T
  | .mk x ks => h x ks fun k hk => ind h k
termination_by T => SizeOf.sizeOf T
decreasing_by
  have := List.sizeOf_lt_of_mem hk
  simp; omega

/-- What is left of l when m is taken off it; -1 where it is too little. -/
def left (m : Nat) (l : Int) : Int := if (m : Int) ≤ l then l - m else -1

theorem alloc_top (w : World) (o : Obj) : (w.alloc o).heap[w.heap.size]? = some o := by show (w.heap.push o)[w.heap.size]? = _; simp

end Go.Proofs.YtjofmoebijdccaaGreat.rose

/-
  The program's top, at every word.
  The program's read of words: values within each other, and how many are left; what is turned is the lock's word, which is as it was in the end, and how many are left.
-/
import Derived.Maps.AppendAt
import Derived.Test.YtjofmoebijdccaaGreatB1
import Derived.Test.YtjofmoebijdccaaGreatB2
import Derived.Test.YtjofmoebijdccaaGreatB3
import Derived.Test.YtjofmoebijdccaaGreatB4
import Derived.Test.YtjofmoebijdccaaGreatB5
import Derived.Test.YtjofmoebijdccaaGreatB6
import Derived.Test.YtjofmoebijdccaaGreatB7
import Derived.Test.YtjofmoebijdccaaGreatB8
import Derived.Test.YtjofmoebijdccaaGreatB9
import Derived.Test.YtjofmoebijdccaaGreatB10
import Derived.Test.YtjofmoebijdccaaGreatB11
import Derived.Test.YtjofmoebijdccaaGreatB12
import Derived.Test.YtjofmoebijdccaaGreatB13
import Derived.Test.YtjofmoebijdccaaGreatB14
import Derived.Test.YtjofmoebijdccaaGreatB15
import Derived.Test.YtjofmoebijdccaaGreatB16
import Derived.Test.YtjofmoebijdccaaGreatB17
import Derived.Test.YtjofmoebijdccaaGreatB18
import Derived.Test.YtjofmoebijdccaaGreatB19
import Derived.Test.YtjofmoebijdccaaGreatB20
import Derived.Test.YtjofmoebijdccaaGreatB21
import Derived.Test.YtjofmoebijdccaaGreatB22
import Derived.Test.YtjofmoebijdccaaGreatB23
import Derived.Test.YtjofmoebijdccaaGreatB24
import Derived.Test.YtjofmoebijdccaaGreatB25
import Derived.Test.YtjofmoebijdccaaGreatB26
import Derived.Test.YtjofmoebijdccaaGreatB27
import Derived.Test.YtjofmoebijdccaaGreatB28
import Derived.Test.YtjofmoebijdccaaGreatB29
import Derived.Test.YtjofmoebijdccaaGreatB30
namespace Go.Proofs.YtjofmoebijdccaaGreat.back
open Go Go.RowKit Go.Proofs.YtjofmoebijdccaaGreat.rose Go.Proofs.YtjofmoebijdccaaGreat Go.Proofs.YtjofmoebijdccaaGreat.heap Go.Proofs.YtjofmoebijdccaaGreat.fun Go.Proofs.YtjofmoebijdccaaGreat.words Go.Proofs.YtjofmoebijdccaaGreat.ints
set_option linter.unusedVariables false

/-- What is known of the blocks of a heap at work. -/
structure Known (W : List Int) (half base next : Nat) (M : List Bool) : Prop where
  at_ : ∀ p, atB base next M p = decide (p ∈ (plT (W, (half : Int), (base : Int), (next : Int))).1)
  nat : ∀ p ∈ (plT (W, (half : Int), (base : Int), (next : Int))).1, ∃ z : Nat, p = (z : Int)
  room : ∀ z : Nat, (z : Int) ∈ (plT (W, (half : Int), (base : Int), (next : Int))).1 → z + (manyF (W.getD z 0)).toNat < W.length ∧ 0 ≤ W.getD z 0

theorem top_any {B hb hm : Nat} {wv : Value} {W : List Int} {half base next : Nat} {M : List Bool} {w : World} (h : HH B hb hm wv W half base next 0 M w) (hK : Known W half base next M) (ks : List data.DataD) (lo : Nat) (cv : Value) (hc : data.CRow w lo cv (data.spots 0 0 ks)) (hcv : ∀ g, cv.ownBlock = some g → g ≠ hb) (htl : (data.spots 0 0 ks).length ≤ 1048576) (hnb : ∀ j (hj : j < (data.spots 0 0 ks).length), (data.spots 0 0 ks)[j].c.1.size ≤ 1048576) (x : Int) (hx1 : -9223372036854775808 ≤ x) (hx2 : x ≤ 9223372036854775807) :
    Calls Tryz.prog 54 #[.agg #[.pointer (some ⟨hb, 0, none⟩), cv], .int .i64 x] w fun e w' => TopOut B hb hm wv W half base next M w (topB ks (W, (half : Int), (base : Int), (next : Int)) x) e w' := by
  rcases hx : decide (x % 2 = 0) with _ | _
  · rw [top_int (of_decide_eq_false hx)]
    exact top_atint h ks lo cv hc hcv htl hnb x hx1 hx2 hx
  · have hx' := of_decide_eq_true hx
    by_cases hp : x / 2 ∈ (plT (W, (half : Int), (base : Int), (next : Int))).1
    · obtain ⟨z, hz⟩ := hK.nat _ hp
      have hp2 := hp
      rw [hz] at hp2
      obtain ⟨hr, hpos⟩ := hK.room z hp2
      have hat : atB base next M (z : Int) = true := by rw [hK.at_]; exact decide_eq_true hp2
      have e0 : (x / 2).toNat = z := by omega
      have hmi : manyF (W.getD z 0) = (((manyF (W.getD z 0)).toNat : Nat) : Int) := by have := many_in (W.getD z 0); omega
      rcases hf : funF (W.getD z 0) with _ | _
      · rcases hcn : conAt ks (tagF (W.getD z 0)) with _ | s
        · rw [top_nocon hx' hp (by rw [e0]; exact hf) (by rw [e0]; exact hcn)]
          exact top_atbad h ks lo cv hc hcv htl hnb x hx1 hx2 hx z _ hz hat rfl hr hpos hf hcn
        · by_cases hm5 : (s.c.2.length : Int) = manyF (W.getD z 0)
          · rw [top_con hx' hp (by rw [e0]; exact hf) (by rw [e0]; exact hcn) (by rw [e0]; exact hm5), e0]
            have := top_atcon h ks lo cv hc hcv htl hnb x hx1 hx2 hx z _ hz hat rfl hr hpos hf s hcn (hm5.trans hmi)
            have e : (manyF (W.getD z 0)).toNat = s.c.2.length := by omega
            rw [e] at this
            exact this
          · rw [top_other hx' hp (by rw [e0]; exact hf) (by rw [e0]; exact hcn) (by rw [e0]; exact hm5)]
            exact top_atother h ks lo cv hc hcv htl hnb x hx1 hx2 hx z _ hz hat rfl hr hpos hf s hcn (fun e => hm5 (e.trans hmi.symm))
      · rw [top_fun hx' hp (by rw [e0]; exact hf)]
        exact top_atfun h ks lo cv hc hcv htl hnb x hx1 hx2 hx z _ hz hat rfl hr hpos hf
    · rw [top_nowhere hx' hp]
      exact top_atnone h ks lo cv hc hcv htl hnb x hx1 hx2 hx (by rw [hK.at_]; exact decide_eq_false hp)

end Go.Proofs.YtjofmoebijdccaaGreat.back

namespace Go.Proofs.YtjofmoebijdccaaGreat.back
open Go Go.RowKit Go.Proofs.YtjofmoebijdccaaGreat.rose Go.Proofs.YtjofmoebijdccaaGreat Go.Proofs.YtjofmoebijdccaaGreat.heap Go.Proofs.YtjofmoebijdccaaGreat.fun Go.Proofs.YtjofmoebijdccaaGreat.words Go.Proofs.YtjofmoebijdccaaGreat.ints
set_option linter.unusedVariables false
set_option linter.unusedSimpArgs false

/-- What is known at each call: the heap at work, the cons' row. -/
structure RE (B hb hm : Nat) (wv : Value) (W : List Int) (half base next : Nat) (M : List Bool) (ks : List data.DataD) (lo : Nat) (cv : Value) (kl : Nat) (w : World) : Prop where
  held : HH B hb hm wv W half base next 0 M w
  cons : data.CRow w lo cv (data.spots 0 0 ks)
  ne : ∀ g, cv.ownBlock = some g → g ≠ hb ∧ g ≠ kl
  kne : kl ≠ hb ∧ kl ≠ hm ∧ B ≤ kl

/-- What read leaves. -/
structure ReadOut (B hb hm : Nat) (wv : Value) (W : List Int) (half base next : Nat) (M : List Bool) (kl : Nat) (w : World) (o : Option (VD × Nat)) (e : Ending) (w' : World) : Prop where
  only : Only (fun b => b = hb ∨ b = kl) w w'
  held : HH B hb hm wv W half base next 0 M w'
  no : o = none → e = .returned (.tuple #[.agg #[.int .i64 0, .int .i64 0, .string ⟨#[]⟩, .slice none 0 0], .bool false])
  yes : ∀ V q, o = some (V, q) → (∃ cs' : List Value, e = .returned (.tuple #[.agg cs'.toArray, .bool true]) ∧ value.valueSp.rep w' (fun b => w.heap.size ≤ b ∧ b < w'.heap.size) cs' V) ∧ w'.heap[kl]? = some (.cells #[.int .i64 (q : Nat)] 3)

def ReadSays (B hb hm : Nat) (wv : Value) (W : List Int) (half base next : Nat) (M : List Bool) (ks : List data.DataD) (lo : Nat) (cv : Value) (kl d : Nat) : Prop := ∀ (r : Nat) (x : Int) (w : World), r ≤ 4000 → -9223372036854775808 ≤ x → x ≤ 9223372036854775807 → w.heap[kl]? = some (.cells #[.int .i64 (r : Nat)] 3) → RE B hb hm wv W half base next M ks lo cv kl w →
  Calls Tryz.prog 52 #[.int .i64 x, .func (.func 54) #[.agg #[.pointer (some ⟨hb, 0, none⟩), cv]] #[], .int .i64 (d : Nat), .pointer (some ⟨kl, 0, none⟩)] w fun e w' => ReadOut B hb hm wv W half base next M kl w (backD (topB ks (W, (half : Int), (base : Int), (next : Int))) d r x) e w'

section
variable {B hb hm : Nat} {wv : Value} {W : List Int} {half base next : Nat} {M : List Bool} {ks : List data.DataD} {lo : Nat} {cv : Value} {kl : Nat} {w wr w' : World}
theorem RE.on (h : RE B hb hm wv W half base next M ks lo cv kl w) (ho : Only (fun b => b = hb ∨ b = kl) w w') (hh : HH B hb hm wv W half base next 0 M w') : RE B hb hm wv W half base next M ks lo cv kl w' :=
  ⟨hh, h.cons.on ho.size fun b _ hb' hg => ho.block b hb' (by have := h.ne b hg; omega), h.ne, h.kne⟩
/-- Where a call stands: its result stands behind w; r are left. -/
structure RK (B hb hm : Nat) (wv : Value) (W : List Int) (half base next : Nat) (M : List Bool) (kl : Nat) (w wr : World) (r : Int) : Prop where
  only : Only (fun b => b = hb ∨ b = kl) w wr
  held : HH B hb hm wv W half base next 0 M wr
  res : wr.heap[w.heap.size]? = some (.cells #[.int .i64 0, .int .i64 0, .string ⟨#[]⟩, .slice none 0 0] 34)
  left : wr.heap[kl]? = some (.cells #[.int .i64 r] 3)
  klt : kl < w.heap.size
  hbl : hb < w.heap.size ∧ hm < w.heap.size ∧ B ≤ w.heap.size
  kne : kl ≠ hb ∧ kl ≠ hm ∧ B ≤ kl
theorem rk_new {r : Int} (h : RE B hb hm wv W half base next M ks lo cv kl w) (hk : w.heap[kl]? = some (.cells #[.int .i64 r] 3)) : RK B hb hm wv W half base next M kl w (w.alloc (.cells #[.int .i64 0, .int .i64 0, .string ⟨#[]⟩, .slice none 0 0] 34)) r := by
  have hl := (Array.getElem?_eq_some_iff.1 hk).1
  have hB : Below w.heap.size w (w.alloc (.cells #[.int .i64 0, .int .i64 0, .string ⟨#[]⟩, .slice none 0 0] 34)) := (Below.refl _ _).alloc (Nat.le_refl _) _
  have h1 := h.held.lt
  have h2 := h.held.lo
  exact ⟨Only.ofBelow hB, h.held.on hB, alloc_top _ _, (hB.block _ hl).trans hk, hl, ⟨h1.1, h1.2, by omega⟩, h.kne⟩
theorem RK.put {r : Int} (h : RK B hb hm wv W half base next M kl w wr r) (q : Int) : RK B hb hm wv W half base next M kl w (wr.setCell ⟨kl, 0, none⟩ (.int .i64 q)) q := by
  have hk := h.klt
  have hn := h.kne
  exact ⟨h.only.set kl 0 _ (fun _ => Or.inr rfl), h.held.other 0 _ hn.1 hn.2.1 hn.2.2, (Below.heap_setCell _ _ _ _ (by show w.heap.size ≠ kl; omega)).trans h.res, by simp [World.setCell, Array.getElem?_modify, h.left], hk, h.hbl, h.kne⟩
theorem RK.on {r : Int} (h : RK B hb hm wv W half base next M kl w wr r) (hb' : Below wr.heap.size wr w') : RK B hb hm wv W half base next M kl w w' r :=
  ⟨h.only.bel hb', h.held.on hb', (hb'.block _ (Array.getElem?_eq_some_iff.1 h.res).1).trans h.res, (hb'.block _ (Array.getElem?_eq_some_iff.1 h.left).1).trans h.left, h.klt, h.hbl, h.kne⟩
/-- Behind a call of top. -/
theorem RK.top {r : Int} (h : RK B hb hm wv W half base next M kl w wr r) (ho : Only (· = hb) wr w') (hh : HH B hb hm wv W half base next 0 M w') : RK B hb hm wv W half base next M kl w w' r := by
  have h1 := h.hbl
  exact ⟨h.only.trans (ho.mono fun b _ e => Or.inl e), hh, (ho.block _ (Array.getElem?_eq_some_iff.1 h.res).1 (by omega)).trans h.res, (ho.block _ (Array.getElem?_eq_some_iff.1 h.left).1 h.kne.1).trans h.left, h.klt, h.hbl, h.kne⟩
theorem RK.env {r : Int} (h : RK B hb hm wv W half base next M kl w wr r) (he : RE B hb hm wv W half base next M ks lo cv kl w) : RE B hb hm wv W half base next M ks lo cv kl wr := he.on h.only h.held
theorem rk_no {o : Option (VD × Nat)} {e : Ending} (ho : Only (fun b => b = hb ∨ b = kl) w wr) (hh : HH B hb hm wv W half base next 0 M wr) (hw : hb < w.heap.size ∧ hm < w.heap.size ∧ B ≤ w.heap.size) (hn : o = none) (he : e = .returned (.tuple #[.agg #[.int .i64 0, .int .i64 0, .string ⟨#[]⟩, .slice none 0 0], .bool false])) (n0 n1 n2 n3 : Value) :
    ReadOut B hb hm wv W half base next M kl w o e ((((wr.setCell ⟨w.heap.size, 0, none⟩ n0).setCell ⟨w.heap.size, 1, none⟩ n1).setCell ⟨w.heap.size, 2, none⟩ n2).setCell ⟨w.heap.size, 3, none⟩ n3) :=
  ⟨only4I ho _ _ _ _ _ (fun hl => absurd hl (Nat.lt_irrefl _)), (((hh.other 0 n0 (by omega) (by omega) (by omega)).other 1 n1 (by omega) (by omega) (by omega)).other 2 n2 (by omega) (by omega) (by omega)).other 3 n3 (by omega) (by omega) (by omega), fun _ => he, fun V q hq => by rw [hn] at hq; cases hq⟩

/-- Where the loop over kids stands: the value that is made lies in block g. -/
structure RL (B hb hm : Nat) (wv : Value) (W : List Int) (half base next : Nat) (M : List Bool) (kl : Nat) (w wr : World) (g : Nat) (r : Int) (p : PD) (v kv : Value) (kids : List Int) (vs : List VD) : Prop where
  rk : RK B hb hm wv W half base next M kl w wr r
  out : wr.heap[g]? = some (.cells #[.int .i64 p.1, .int .i64 p.2.1, .string p.2.2, v] 34)
  gge : w.heap.size + 1 ≤ g
  row : IRow wr (w.heap.size + 1) kv kids
  rlt : ∀ q, kv.ownBlock = some q → q < g
  grown : Grown value.valueSp 34 wr (g + 1) v vs
end
section
variable {B hb hm : Nat} {wv : Value} {W : List Int} {half base next : Nat} {M : List Bool} {kl : Nat} {w wr w4 w6 : World} {g : Nat} {r : Int} {p : PD} {v kv : Value} {kids : List Int} {vs : List VD}
theorem RL.only (h : RL B hb hm wv W half base next M kl w wr g r p v kv kids vs) : g < wr.heap.size := (Array.getElem?_eq_some_iff.1 h.out).1
/-- A kid was told, and is put behind the others. -/
theorem RL.kid {q' : Nat} {V : VD} {n0 n1 n2 n3 : Value} {css : Nat → List Value} {F : Nat → Nat → Prop} {X Y : Obj} {ua : Option Addr} {ul uc : Nat}
    (h : RL B hb hm wv W half base next M kl w wr g r p v kv kids vs)
    (grep : ∀ j (h : j < vs.length), value.valueSp.rep wr (F j) (css j) vs[j]) (gin : ∀ j, j < vs.length → ∀ b, F j b → g + 1 ≤ b ∧ b < wr.heap.size ∧ v.ownBlock ≠ some b) (gap : ∀ j l, j < vs.length → l < vs.length → j ≠ l → ∀ b, F j b → ¬ F l b)
    (ho : Only (fun b => b = hb ∨ b = kl) wr w4) (hh : HH B hb hm wv W half base next 0 M w4) (hk : w4.heap[kl]? = some (.cells #[.int .i64 (q' : Nat)] 3)) (hr : value.valueSp.rep w4 (fun b => wr.heap.size ≤ b ∧ b < w4.heap.size) [n0, n1, n2, n3] V)
    (hown : w6.ownsRow (g + 1) 34 4 (.slice ua ul uc) (vs.length + 1) (flat css vs.length ++ [n0, n1, n2, n3])) (hg : ((w4.alloc X).alloc Y).grownBy w6 v.ownBlock) (hat : (Value.slice ua ul uc).ownBlock = v.ownBlock ∨ (Value.slice ua ul uc).ownBlock = some ((w4.alloc X).alloc Y).heap.size) :
    RL B hb hm wv W half base next M kl w (w6.setCell ⟨g, 3, none⟩ (.slice ua ul uc)) g (q' : Int) p (.slice ua ul uc) kv kids (vs ++ [V]) := by
  have hkl := h.rk.klt
  have hbl := h.rk.hbl
  have hge := h.gge
  have hgl := h.only
  have hA : Below w4.heap.size w4 ((w4.alloc X).alloc Y) := ((Below.refl _ _).alloc (Nat.le_refl _) _).alloc (by simp) _
  have hz := ho.size
  have hvo : ∀ q, v.ownBlock = some q → g + 1 ≤ q ∧ q < wr.heap.size := fun q hq => h.grown.own hq
  have hs6 : w4.heap.size ≤ w6.heap.size := by have := hg.size; simp at this; omega
  have same4 : ∀ b, b < w4.heap.size → v.ownBlock ≠ some b → w6.heap[b]? = w4.heap[b]? := fun b hb hn => (hg.block b (by simp; omega) (fun e => hn e.symm)).trans (hA.block b hb)
  have same : ∀ b, b < wr.heap.size → ¬ (b = hb ∨ b = kl) → v.ownBlock ≠ some b → w6.heap[b]? = wr.heap[b]? := fun b hb hne hn => (same4 b (by omega) hn).trans (ho.block b hb hne)
  have hG : Grown value.valueSp 34 w6 (g + 1) (.slice ua ul uc) (vs ++ [V]) := by
    refine Grown.push (w := wr) (w1 := (w4.alloc X).alloc Y) (css := css) (F := F) (v := v) (lo := wr.heap.size) (hi := w4.heap.size) (cs := [n0, n1, n2, n3]) (fun j hj => value.valueSp.on (grep j hj) fun b hb => ?_) gin gap (fun q hq => (hvo q hq).2) (value.valueSp.on hr fun b hb => hA.block b hb.2) (by omega) hz (by simp; omega) hown hg hat
    have := gin j hj b hb
    exact (hA.block b (by omega)).trans (ho.block b this.2.1 (by omega))
  have hh6 : HH B hb hm wv W half base next 0 M w6 :=
    ⟨hh.lo, (same4 hb (by have := hh.lt; omega) (fun e => by have := hvo _ e; omega)).trans hh.blk, (same4 hm (by have := hh.lt; omega) (fun e => by have := hvo _ e; omega)).trans hh.mks, hh.len, intsSh.on hh.wds fun b hb' => same4 b (by have := hh.lo; have := hh.lt; omega) (fun e => by have := hvo _ e; omega), hh.siz⟩
  refine ⟨⟨?_, hh6.other 3 _ (by omega) (by omega) (by omega), ?_, ?_, hkl, hbl, h.rk.kne⟩, ?_, hge, ?_, h.rlt, ?_⟩
  · exact Only.set ((((h.rk.only.trans ho).alloc X).alloc Y).grown hg (fun q hq hl => by have := hvo q hq; omega)) g 3 _ (fun hl => by omega)
  · rw [Below.heap_setCell _ _ _ _ (by show w.heap.size ≠ g; omega)]
    exact (same _ (by omega) (by omega) (fun e => by have := hvo _ e; omega)).trans h.rk.res
  · rw [Below.heap_setCell _ _ _ _ (by show kl ≠ g; omega)]
    exact (same4 kl (by omega) (fun e => by have := hvo _ e; omega)).trans hk
  · have := (same g hgl (by omega) (fun e => by have := hvo _ e; omega)).trans h.out
    simp [World.setCell, Array.getElem?_modify, this]
  · refine ⟨own_same h.row.1 fun q hq => ?_, h.row.2⟩
    have h1 := h.row.lt q hq
    have h2 := h.rlt q hq
    rw [Below.heap_setCell _ _ _ _ (by show q ≠ g; omega)]
    exact same q h1.2 (by omega) (fun e => by have := hvo _ e; omega)
  · exact hG.on (by simp [World.setCell]) fun b h1 h2 => Below.heap_setCell _ _ _ _ (by show b ≠ g; omega)
theorem rl_end {q : Nat} {o : Option (VD × Nat)} {e : Ending} (h : RL B hb hm wv W half base next M kl w wr g (q : Int) p v kv kids vs) (hp : (-9223372036854775808 ≤ p.1 ∧ p.1 ≤ 9223372036854775807) ∧ (-9223372036854775808 ≤ p.2.1 ∧ p.2.1 ≤ 9223372036854775807) ∧ p.2.2.size ≤ maxLen) (ho : o = some (.mk p vs, q))
    (he : e = .returned (.tuple #[.agg #[.int .i64 p.1, .int .i64 p.2.1, .string p.2.2, v], .bool true])) (n0 n1 n2 n3 : Value) :
    ReadOut B hb hm wv W half base next M kl w o e ((((wr.setCell ⟨w.heap.size, 0, none⟩ n0).setCell ⟨w.heap.size, 1, none⟩ n1).setCell ⟨w.heap.size, 2, none⟩ n2).setCell ⟨w.heap.size, 3, none⟩ n3) := by
  have hkl := h.rk.klt
  have hbl := h.rk.hbl
  have hge := h.gge
  have hh := h.rk.held
  refine ⟨only4I h.rk.only _ _ _ _ _ (fun hl => absurd hl (Nat.lt_irrefl _)), (((hh.other 0 n0 (by omega) (by omega) (by omega)).other 1 n1 (by omega) (by omega) (by omega)).other 2 n2 (by omega) (by omega) (by omega)).other 3 n3 (by omega) (by omega) (by omega), fun hn => (by rw [ho] at hn; cases hn), fun V q' hq => ?_⟩
  rw [ho] at hq
  simp only [Option.some.injEq, Prod.mk.injEq] at hq
  obtain ⟨rfl, rfl⟩ := hq
  obtain ⟨x0, x1, x2⟩ := p
  refine ⟨⟨[.int .i64 x0, .int .i64 x1, .string x2, v], he, ?_⟩, ?_⟩
  · refine value.valuep_shutv hp.1 hp.2.1 hp.2.2 ?_
    refine value.valueSp.sslice.mono (value.valueSp.sslice.on (h.grown.sslice (by decide)) fun b hb => s4_other (by omega)) fun b hb => ⟨by omega, by simp [World.setCell]; exact hb.2⟩
  · rw [s4_other (by omega)]
    exact h.rk.left
end

end Go.Proofs.YtjofmoebijdccaaGreat.back

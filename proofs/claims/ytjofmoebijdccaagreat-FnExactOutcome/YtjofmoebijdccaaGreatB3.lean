/-
  What a law's walk keeps across a region that draws its order: the box of an answer may be made ahead of any of the calls. No program is named.
  The type Ty as it lies in memory.
  The law's type Ty as it lies in memory, and the law's measure of it (szTy and of slices): what is left of a number when the weight is taken off it, or -1; nothing that was there is turned.
  The type Con as it lies in memory.
  The law's type Con as it lies in memory, and the law's measure of it (szCon and of slices): what is left of a number when the weight is taken off it, or -1; nothing that was there is turned.
  The type Data as it lies in memory.
-/
import Derived.Test.YtjofmoebijdccaaGreatChecked
import Derived.WalkKit
import Derived.WalkLawsBesides
import Derived.Deep.QuietTactic
import Derived.BigQuiet
import Derived.Test.YtjofmoebijdccaaGreatB1
import Derived.Test.YtjofmoebijdccaaGreatB2
namespace Go.Proofs.YtjofmoebijdccaaGreat.rose
open Go Go.RowKit Go.Deep Go.ChangeShapes Go.WideShapes
set_option linter.unusedVariables false

theorem hidX {p : Prop} (h : p) : Hid p := h

/-- A box that was made already. -/
structure DZ (Wp X : World) (zb : Nat) (Z : Obj) : Prop where
  blk : X.heap[zb]? = some Z
  ge : Wp.heap.size ≤ zb
theorem DZ.lt {Wp X : World} {zb : Nat} {Z : Obj} (h : DZ Wp X zb Z) : zb < X.heap.size := (Array.getElem?_eq_some_iff.1 h.blk).1
theorem DZ.on {Wp X Y : World} {zb : Nat} {Z : Obj} (h : DZ Wp X zb Z) (hb : Below X.heap.size X Y) : DZ Wp Y zb Z := ⟨(hb.block _ h.lt).trans h.blk, h.ge⟩
theorem DZ.new {Wp X : World} {Z : Obj} (h : Below Wp.heap.size Wp X) : DZ Wp (X.alloc Z) X.heap.size Z := ⟨alloc_top _ _, h.size⟩
theorem DZ.new2 {Wp X Y : World} {Z : Obj} (h : Below Wp.heap.size Wp X) (hb : Below (X.alloc Z).heap.size (X.alloc Z) Y) : DZ Wp Y X.heap.size Z := (DZ.new h).on hb
theorem DZ.new2d {Wp X Y : World} {Z : Obj} (h : Below Wp.heap.size Wp X) (hb : Below (X.alloc Z).drew.heap.size (X.alloc Z).drew Y) : DZ Wp Y X.heap.size Z := (DZ.new h).on ⟨hb.os, hb.tape, hb.output, hb.size, hb.block⟩
theorem bel_thruX {w Wp X : World} (h1 : Below w.heap.size w Wp) (h2 : Below Wp.heap.size Wp X) : Below w.heap.size w X := h1.trans (h2.mono h1.size)
theorem bel_stepX {Wp X Y : World} (h1 : Below Wp.heap.size Wp X) (h2 : Below X.heap.size X Y) : Below Wp.heap.size Wp Y := h1.trans (h2.mono h1.size)
theorem bel_zX {X Y : World} {Z : Obj} (h : Below (X.alloc Z).heap.size (X.alloc Z) Y) : Below X.heap.size X Y := ((Below.refl _ _).alloc (Nat.le_refl _) _).trans (h.mono (by simp))
theorem rep_thruX {α : Type} (A : Sh α) {X Y : World} {cs : List Value} {x : α} (h : A.rep X (· < X.heap.size) cs x) (hb : Below X.heap.size X Y) : A.rep Y (· < Y.heap.size) cs x :=
  A.mono (A.on h fun b hlt => hb.block b hlt) fun b hlt => Nat.lt_of_lt_of_le hlt hb.size
theorem cell_alX {w : World} {b j : Nat} {v : Value} {X : Obj} (h : w.cell? ⟨b, j, none⟩ = some v) : (w.alloc X).cell? ⟨b, j, none⟩ = some v := by
  have hb : b < w.heap.size := by
    rcases Nat.lt_or_ge b w.heap.size with q | q
    · exact q
    · simp [World.cell?, Array.getElem?_eq_none q] at h
  exact (((Below.refl _ w).alloc (Nat.le_refl _) X).cell (p := ⟨b, j, none⟩) hb).trans h
theorem blkX {w : World} {b i : Nat} {cur : Array Value} {t : TypeId} {v : Value} (h : w.heap[b]? = some (.cells cur t)) (hi : cur[i]? = some v) : w.cell? ⟨b, i, none⟩ = some v := by simp [World.cell?, h, hi]
theorem frzX {w : World} {b i : Nat} {cur : Array Value} {t : TypeId} (h : w.heap[b]? = some (.cells cur t)) : w.frozen? ⟨b, i, none⟩ = false := by simp [World.frozen?, h]
/-- Four cells are written. -/
theorem s4X {wr : World} {b k : Nat} {n0 n1 n2 n3 : Value} (h : k ≠ b) :
    ((((wr.setCell ⟨b, 0, none⟩ n0).setCell ⟨b, 1, none⟩ n1).setCell ⟨b, 2, none⟩ n2).setCell ⟨b, 3, none⟩ n3).heap[k]? = wr.heap[k]? := by
  repeat rw [Below.heap_setCell _ _ _ _ h]
theorem cell_set4X {w : World} {g b j : Nat} {v n0 n1 n2 n3 : Value} (h : w.cell? ⟨b, j, none⟩ = some v) (hne : b ≠ g) : ((((w.setCell ⟨g, 0, none⟩ n0).setCell ⟨g, 1, none⟩ n1).setCell ⟨g, 2, none⟩ n2).setCell ⟨g, 3, none⟩ n3).cell? ⟨b, j, none⟩ = some v := by
  simp only [World.cell?] at h ⊢
  rw [s4X hne]
  exact h
/-- The answer in a box that is made behind the call. -/
theorem itm_aX {α : Type} {A : Sh α} {Wp X : World} {lo : Nat} {cs : List Value} {arr : Array Value} {t : TypeId} {x : α} (hp : Below Wp.heap.size Wp X) (hl : Wp.heap.size ≤ lo) (hr : A.rep X (fun b => lo ≤ b ∧ b < X.heap.size) cs x) (ha : arr = cs.toArray) :
    Below Wp.heap.size Wp (X.alloc (.cells arr t)) ∧ Itm A (X.alloc (.cells arr t)) X.heap.size cs t lo X.heap.size x ∧ Wp.heap.size ≤ X.heap.size ∧ Wp.heap.size ≤ lo ∧ (X.heap.size < lo ∨ X.heap.size ≤ X.heap.size) :=
  ⟨hp.alloc hp.size _, Itm.new hr (Nat.le_refl _) ha, hp.size, hl, Or.inr (Nat.le_refl _)⟩
/-- .. in one that was made ahead of it. -/
theorem itm_z4X {α : Type} {A : Sh α} {Wp X : World} {lo zb : Nat} {n0 n1 n2 n3 p0 p1 p2 p3 : Value} {t : TypeId} {x : α} (hp : Below Wp.heap.size Wp X) (hl : Wp.heap.size ≤ lo) (hz : DZ Wp X zb (.cells #[p0, p1, p2, p3] t)) (hzl : zb < lo) (hr : A.rep X (fun b => lo ≤ b ∧ b < X.heap.size) [n0, n1, n2, n3] x) :
    Below Wp.heap.size Wp ((((X.setCell ⟨zb, 0, none⟩ n0).setCell ⟨zb, 1, none⟩ n1).setCell ⟨zb, 2, none⟩ n2).setCell ⟨zb, 3, none⟩ n3) ∧ Itm A ((((X.setCell ⟨zb, 0, none⟩ n0).setCell ⟨zb, 1, none⟩ n1).setCell ⟨zb, 2, none⟩ n2).setCell ⟨zb, 3, none⟩ n3) zb [n0, n1, n2, n3] t lo X.heap.size x ∧ Wp.heap.size ≤ zb ∧ Wp.heap.size ≤ lo ∧ (zb < lo ∨ X.heap.size ≤ zb) := by
  have hge := hz.ge
  refine ⟨(((hp.setCell (p := ⟨zb, 0, none⟩) hge _).setCell (p := ⟨zb, 1, none⟩) hge _).setCell (p := ⟨zb, 2, none⟩) hge _).setCell (p := ⟨zb, 3, none⟩) hge _, ⟨?_, by simp [World.setCell], A.on hr fun b hb => s4X (by omega)⟩, hge, hl, Or.inl hzl⟩
  have := hz.blk
  simp [World.setCell, Array.getElem?_modify, this]

end Go.Proofs.YtjofmoebijdccaaGreat.rose

namespace Go.Proofs.YtjofmoebijdccaaGreat.ty
open Go.RowKit Go.Proofs.YtjofmoebijdccaaGreat.rose Go.Proofs.YtjofmoebijdccaaGreat
set_option linter.unusedVariables false

abbrev Pay := Int × Int × ByteArray
abbrev TyD := Rose Pay
abbrev paySh : Sh Pay := Sh.int.pair (Sh.int.pair Sh.str)
abbrev tySh : Sh TyD := paySh.rose

theorem ty_open {w : World} {S : Nat → Prop} {cs : List Value} {T : TyD} (h : tySh.rep w S cs T) : ∃ x0 x1 x2 x3 a3 c3, T = .mk (x0, x1, x2) x3 ∧ cs = [.int .i64 x0, .int .i64 x1, .string x2, .slice a3 x3.length c3] ∧ (-9223372036854775808 ≤ x0 ∧ x0 ≤ 9223372036854775807) ∧ (-9223372036854775808 ≤ x1 ∧ x1 ≤ 9223372036854775807) ∧ x2.size ≤ maxLen ∧ tySh.slice.rep w S [.slice a3 x3.length c3] x3 := by
  obtain ⟨⟨x0, x1, x2⟩, x3⟩ := T
  obtain ⟨ps, kc, rfl, ⟨_, _, rfl, ⟨rfl, h0⟩, _, _, rfl, ⟨rfl, h1⟩, ⟨rfl, h2⟩⟩, h3⟩ := rose_iff.1 h
  obtain ⟨a3, c3, rfl⟩ := slice_cells h3
  exact ⟨_, _, _, _, _, _, rfl, rfl, h0, h1, h2, h3⟩
theorem ty_list {w : World} {S : Nat → Prop} {cs : List Value} {T : TyD} (h : tySh.rep w S cs T) : ∃ v0 v1 v2 v3, cs = [v0, v1, v2, v3] := by
  obtain ⟨x0, x1, x2, x3, a3, c3, -, rfl, -⟩ := ty_open h
  exact ⟨_, _, _, _, rfl⟩
theorem ty_shut {w : World} {S : Nat → Prop} {x0 : Int} {x1 : Int} {x2 : ByteArray} {x3 : List TyD} {a3 : Option Addr} {c3 : Nat} (h0 : -9223372036854775808 ≤ x0 ∧ x0 ≤ 9223372036854775807) (h1 : -9223372036854775808 ≤ x1 ∧ x1 ≤ 9223372036854775807) (h2 : x2.size ≤ maxLen) (h3 : tySh.slice.rep w S [.slice a3 x3.length c3] x3) : tySh.rep w S [.int .i64 x0, .int .i64 x1, .string x2, .slice a3 x3.length c3] (.mk (x0, x1, x2) x3) :=
  rose_iff.2 ⟨[.int .i64 x0, .int .i64 x1, .string x2], [_], rfl, ⟨[_], _, rfl, ⟨rfl, h0⟩, [_], _, rfl, ⟨rfl, h1⟩, ⟨rfl, h2⟩⟩, h3⟩

theorem tys_open {w : World} {S : Nat → Prop} {v : Value} {ks : List TyD} (h : tySh.slice.rep w S [v] ks) : ∃ a cap css, v = .slice a ks.length cap ∧ ks.length ≤ cap ∧ cap ≤ maxLen ∧ RowAt w S 4 a ks.length css ∧ ∀ i (h : i < ks.length), tySh.rep w S (css i) ks[i] := by
  obtain ⟨a, cap, css, e, h1, h2, -, h3, h4⟩ := h
  exact ⟨a, cap, css, by simpa using e, h1, h2, h3, h4⟩

theorem ty_cells {w : World} {S : Nat → Prop} {b o i : Nat} {cs : List Value} {T : TyD} (h : tySh.rep w S cs T) (hc : CellsAt w b (o + i * 4) cs) :
    ∃ v0 v1 v2 v3, cs = [v0, v1, v2, v3] ∧ w.cell? ⟨b, o + i * 4, none⟩ = some v0 ∧ w.cell? ⟨b, o + i * 4 + 1, none⟩ = some v1 ∧ w.cell? ⟨b, o + i * 4 + 2, none⟩ = some v2 ∧ w.cell? ⟨b, o + i * 4 + 3, none⟩ = some v3 := by
  obtain ⟨v0, v1, v2, v3, rfl⟩ := ty_list h
  exact ⟨_, _, _, _, rfl, hc 0 _ rfl, hc 1 _ rfl, hc 2 _ rfl, hc 3 _ rfl⟩

mutual
/-- What it weighs. -/
def wt : TyD → Nat
  | .mk (x0, x1, x2) x3 => x2.size + ((x3.length + wts x3))
def wts : List TyD → Nat
  | [] => 0
  | k :: ks => wt k + wts ks
end

theorem wts_take {ks : List TyD} {i : Nat} (h : i < ks.length) : wts (ks.take (i + 1)) = wts (ks.take i) + wt ks[i] := by
  induction ks generalizing i with
  | nil => simp at h
  | cons k ks ih =>
    cases i with
    | zero => simp [wts]
    | succ i => simp [wts, ih (by simpa using h)]; omega
theorem wts_take_le (ks : List TyD) (i : Nat) : wts (ks.take i) ≤ wts ks := by
  induction ks generalizing i with
  | nil => simp [wts]
  | cons k ks ih =>
    cases i with
    | zero => simp [wts]
    | succ i => simp [wts]; exact ih i
theorem wt_mem {ks : List TyD} {k : TyD} (h : k ∈ ks) : wt k ≤ wts ks := by
  induction ks with
  | nil => cases h
  | cons a ks ih =>
    simp only [wts]
    rcases List.mem_cons.1 h with rfl | h
    · omega
    · have := ih h; omega

end Go.Proofs.YtjofmoebijdccaaGreat.ty

namespace Go.Proofs.YtjofmoebijdccaaGreat.ty
open Go.RowKit Go.Proofs.YtjofmoebijdccaaGreat.rose Go.Proofs.YtjofmoebijdccaaGreat
set_option linter.unusedVariables false

def SzSays (T : TyD) : Prop := ∀ cs w l, 0 ≤ l → l ≤ 1048576 → tySh.rep w (· < w.heap.size) cs T →
  Calls Tryz.prog 104 #[.agg cs.toArray, .int .i64 l] w fun e w' => e = .returned (.int .i64 (left (wt T) l)) ∧ Below w.heap.size w w'

set_option maxHeartbeats 1000000 in
theorem szS_of (ks : List TyD) (ih : ∀ k ∈ ks, SzSays k) (v : Value) (w : World) (l : Int) (h0 : 0 ≤ l) (h1 : l ≤ 1048576) (h : tySh.slice.rep w (· < w.heap.size) [v] ks) :
    Calls Tryz.prog 85 #[v, .int .i64 l] w fun e w' => e = .returned (.int .i64 (left (ks.length + wts ks) l)) ∧ Below w.heap.size w w' := by
  obtain ⟨a, cap, css, rfl, hcap, hmax, hrow, hk⟩ := tys_open h
  have hmx : (ks.length : Int) ≤ 9223372036854775807 := by unfold maxLen at hmax; omega
  clear h hcap hmax
  have IH : Hid (∀ k ∈ ks, SzSays k) := ih
  have HR : Hid (RowAt w (· < w.heap.size) 4 a ks.length css ∧ ∀ i (h : i < ks.length), tySh.rep w (· < w.heap.size) (css i) ks[i]) := ⟨hrow, hk⟩
  clear ih hrow hk
  by_cases hn : (ks.length : Int) ≤ l
  · have t1 : decide (l - (ks.length : Int) < 0) = false := by simp; omega
    go_enter Tryz.func85, Tryz.ntmps85
    go_wp2
    go_loopw [1, 5] (fun v1 v5 wr => ∃ i : Nat, i ≤ ks.length ∧ v5 = .int .i64 i ∧ v1 = .int .i64 (l - ks.length - (wts (ks.take i) : Nat)) ∧ ((wts (ks.take i) : Nat) : Int) ≤ l - ks.length ∧ Hid (Below w.heap.size w wr)) (fun _ v5 _ => ks.length - (intOf v5).toNat)
    case atStart => exact ⟨0, Nat.zero_le _, rfl, by simp [wts], by simp [wts]; omega, Below.refl _ _⟩
    case round =>
      obtain ⟨i, hi, rfl, rfl, hle, HB⟩ := hrel
      by_cases hlt : i < ks.length
      · obtain ⟨b, o, rfl, hS, hc⟩ := HR.out.1 i hlt
        have hrep := HR.out.2 i hlt
        obtain ⟨v0, v1, v2, v3, hcs, c0, c1, c2, c3⟩ := ty_cells hrep hc
        have e0 := (HB.out.cell (p := ⟨b, o + i * 4, none⟩) hS).trans c0
        have e1 := (HB.out.cell (p := ⟨b, o + i * 4 + 1, none⟩) hS).trans c1
        have e2 := (HB.out.cell (p := ⟨b, o + i * 4 + 2, none⟩) hS).trans c2
        have e3 := (HB.out.cell (p := ⟨b, o + i * 4 + 3, none⟩) hS).trans c3
        rw [hcs] at hrep
        clear c0 c1 c2 c3 hc hcs
        have W1 : Hid (wts (ks.take (i + 1)) = wts (ks.take i) + wt ks[i]) := wts_take hlt
        have W2 : Hid (wts (ks.take (i + 1)) ≤ wts ks) := wts_take_le ks (i + 1)
        have hR := tySh.mono (tySh.below hrep HB.out) (S' := (· < wr.heap.size)) (fun b hb => Nat.lt_of_lt_of_le hb HB.out.size)
        clear hrep
        have hcall := IH.out ks[i] (List.getElem_mem hlt) [v0, v1, v2, v3] wr (l - ks.length - (wts (ks.take i) : Nat)) (by omega) (by omega) hR
        clear hR
        go_wp2_with fail
        refine hcall.mono ?_
        clear hcall
        rintro e w1 ⟨rfl, hb⟩
        have B1 : Hid (Below w.heap.size w w1) := HB.out.trans (hb.mono HB.out.size)
        clear hb HB
        by_cases hfit : ((wt ks[i] : Nat) : Int) ≤ l - ks.length - (wts (ks.take i) : Nat)
        · have hl : left (wt ks[i]) (l - ks.length - (wts (ks.take i) : Nat)) = l - ks.length - (wts (ks.take (i + 1)) : Nat) := by
            unfold left; rw [if_pos hfit, W1.out]; omega
          have hq : ((wts (ks.take (i + 1)) : Nat) : Int) ≤ l - ks.length := by rw [W1.out]; omega
          rw [hl]
          clear hl hfit
          have t2 : decide (l - (ks.length : Int) - ((wts (ks.take (i + 1)) : Nat) : Int) < 0) = false := by simp; omega
          go_wp2
          go_round
          case rel => exact ⟨i + 1, by omega, by go_num, rfl, hq, B1⟩
          case measure => simp [intOf]; omega
        · have hl : left (wt ks[i]) (l - ks.length - (wts (ks.take i) : Nat)) = -1 := by
            unfold left; rw [if_neg hfit]
          have hr : left (ks.length + wts ks) l = -1 := by
            unfold left; rw [if_neg]; have := W1.out; have := W2.out; omega
          rw [hl]
          clear hl
          go_wp2
          go_ret
          exact ⟨by rw [hr]; rfl, B1.out⟩
      · obtain rfl : i = ks.length := by omega
        have hr : left (ks.length + wts ks) l = l - ks.length - (wts ks : Nat) := by
          rw [List.take_length] at hle
          unfold left; rw [if_pos (by omega)]; omega
        go_wp2
        go_ret
        exact ⟨by rw [hr, List.take_length]; rfl, HB.out⟩
  · have t1 : decide (l - (ks.length : Int) < 0) = true := by simp; omega
    have hr : left (ks.length + wts ks) l = -1 := by
      unfold left; rw [if_neg]; omega
    go_enter Tryz.func85, Tryz.ntmps85
    go_wp2
    go_ret
    exact ⟨by first | rfl | (rw [hr]; rfl), Below.refl _ _⟩

set_option maxHeartbeats 1000000 in
theorem sz_any (T : TyD) : SzSays T := by
  induction T using ind with
  | h x x3 ih =>
    intro cs w l h0 h1 h
    obtain ⟨x0, x1, x2, x3k, a3, c3, hT, rfl, f0, f1, f2, f3⟩ := ty_open h
    cases hT
    clear h
    have m2 : (x2.size : Int) ≤ 9223372036854775807 := by unfold maxLen at f2; omega
    have K3 : ∀ (l' : Int) (w' : World), 0 ≤ l' → l' ≤ 1048576 → Below w.heap.size w w' → Calls Tryz.prog 85 #[.slice a3 x3.length c3, .int .i64 l'] w' fun e w'' => e = .returned (.int .i64 (left (x3.length + wts x3) l')) ∧ Below w'.heap.size w' w'' :=
      fun l' w' h2 h3 hb => szS_of x3 ih _ w' l' h2 h3 (tySh.slice.mono (tySh.slice.below f3 hb) fun b hlt => Nat.lt_of_lt_of_le hlt hb.size)
    clear ih f0 f1 f2 f3
    have hw : wt (.mk (x0, x1, x2) x3) = x2.size + ((x3.length + wts x3)) := by simp [wt]
    rw [hw]
    generalize x3.length + wts x3 = q3 at K3 hw ⊢
    clear hw
    by_cases h10 : (x2.size : Int) ≤ l
    · have t0 : decide (l - (x2.size : Int) < 0) = false := by simp; omega
      go_enter Tryz.func104, Tryz.ntmps104
      go_wp2_with fail
      refine (K3 _ _ (by omega) (by omega) ((Below.refl _ _).alloc (Nat.le_refl _) _)).mono ?_
      rintro e w2 ⟨rfl, hb⟩
      have B2 : Hid (Below w.heap.size w w2) := ((Below.refl _ _).alloc (Nat.le_refl _) _).trans (hb.mono (by simp))
      have z2 : w.heap.size < w2.heap.size := Nat.lt_of_lt_of_le (by simp) hb.size
      clear hb K3
      by_cases h11 : (x2.size : Int) + ((q3 : Nat) : Int) ≤ l
      · have hl : left q3 (l - (x2.size : Int)) = l - (x2.size : Int) - (q3 : Nat) := by unfold left; rw [if_pos (by omega)]
        rw [hl]
        clear hl
        have t1 : decide (l - (x2.size : Int) - (q3 : Nat) < 0) = false := by simp; omega
        have hr : left (x2.size + (q3)) l = l - (x2.size : Int) - (q3 : Nat) := by unfold left; rw [if_pos (by omega)]; omega
        go_wp2
        go_ret
        exact ⟨by first | rfl | (rw [hr]; rfl), B2.out⟩
      · have hl : left q3 (l - (x2.size : Int)) = -1 := by unfold left; rw [if_neg (by omega)]
        have hr : left (x2.size + (q3)) l = -1 := by unfold left; rw [if_neg (by omega)]
        rw [hl]
        clear hl
        go_wp2
        go_ret
        exact ⟨by first | rfl | (rw [hr]; rfl), B2.out⟩
    · have hr : left (x2.size + (q3)) l = -1 := by unfold left; rw [if_neg (by omega)]
      have t0 : decide (l - (x2.size : Int) < 0) = true := by simp; omega
      rw [hr]
      clear hr
      go_enter Tryz.func104, Tryz.ntmps104
      go_wp2
      go_ret
      exact ⟨rfl, ((Below.refl _ _).alloc (Nat.le_refl _) _)⟩

theorem szS_any (ks : List TyD) (v : Value) (w : World) (l : Int) (h0 : 0 ≤ l) (h1 : l ≤ 1048576) (h : tySh.slice.rep w (· < w.heap.size) [v] ks) :
    Calls Tryz.prog 85 #[v, .int .i64 l] w fun e w' => e = .returned (.int .i64 (left (ks.length + wts ks) l)) ∧ Below w.heap.size w w' := szS_of ks (fun k _ => sz_any k) v w l h0 h1 h

end Go.Proofs.YtjofmoebijdccaaGreat.ty

namespace Go.Proofs.YtjofmoebijdccaaGreat.con
open Go.RowKit Go.Proofs.YtjofmoebijdccaaGreat.rose Go.Proofs.YtjofmoebijdccaaGreat
set_option linter.unusedVariables false

abbrev ConD := ByteArray × List ty.TyD
abbrev conSh : Sh ConD := Sh.str.pair ty.tySh.slice

theorem con_open {w : World} {S : Nat → Prop} {cs : List Value} {T : ConD} (h : conSh.rep w S cs T) : ∃ x0 x1 a1 c1, T = (x0, x1) ∧ cs = [.string x0, .slice a1 x1.length c1] ∧ x0.size ≤ maxLen ∧ ty.tySh.slice.rep w S [.slice a1 x1.length c1] x1 := by
  obtain ⟨x0, x1⟩ := T
  obtain ⟨_, _, rfl, ⟨rfl, h0⟩, h1⟩ := h
  obtain ⟨a1, c1, rfl⟩ := slice_cells h1
  exact ⟨_, _, _, _, rfl, rfl, h0, h1⟩
theorem con_list {w : World} {S : Nat → Prop} {cs : List Value} {T : ConD} (h : conSh.rep w S cs T) : ∃ v0 v1, cs = [v0, v1] := by
  obtain ⟨x0, x1, a1, c1, -, rfl, -⟩ := con_open h
  exact ⟨_, _, rfl⟩
theorem con_shut {w : World} {S : Nat → Prop} {x0 : ByteArray} {x1 : List ty.TyD} {a1 : Option Addr} {c1 : Nat} (h0 : x0.size ≤ maxLen) (h1 : ty.tySh.slice.rep w S [.slice a1 x1.length c1] x1) : conSh.rep w S [.string x0, .slice a1 x1.length c1] ((x0, x1)) :=
  ⟨[_], _, rfl, ⟨rfl, h0⟩, h1⟩

theorem cons_open {w : World} {S : Nat → Prop} {v : Value} {ks : List ConD} (h : conSh.slice.rep w S [v] ks) : ∃ a cap css, v = .slice a ks.length cap ∧ ks.length ≤ cap ∧ cap ≤ maxLen ∧ RowAt w S 2 a ks.length css ∧ ∀ i (h : i < ks.length), conSh.rep w S (css i) ks[i] := by
  obtain ⟨a, cap, css, e, h1, h2, -, h3, h4⟩ := h
  exact ⟨a, cap, css, by simpa using e, h1, h2, h3, h4⟩

theorem con_cells {w : World} {S : Nat → Prop} {b o i : Nat} {cs : List Value} {T : ConD} (h : conSh.rep w S cs T) (hc : CellsAt w b (o + i * 2) cs) :
    ∃ v0 v1, cs = [v0, v1] ∧ w.cell? ⟨b, o + i * 2, none⟩ = some v0 ∧ w.cell? ⟨b, o + i * 2 + 1, none⟩ = some v1 := by
  obtain ⟨v0, v1, rfl⟩ := con_list h
  exact ⟨_, _, rfl, hc 0 _ rfl, hc 1 _ rfl⟩

/-- What it weighs. -/
def wt : ConD → Nat
  | (x0, x1) => x0.size + ((x1.length + ty.wts x1))
def wts : List ConD → Nat
  | [] => 0
  | k :: ks => wt k + wts ks

theorem wts_take {ks : List ConD} {i : Nat} (h : i < ks.length) : wts (ks.take (i + 1)) = wts (ks.take i) + wt ks[i] := by
  induction ks generalizing i with
  | nil => simp at h
  | cons k ks ih =>
    cases i with
    | zero => simp [wts]
    | succ i => simp [wts, ih (by simpa using h)]; omega
theorem wts_take_le (ks : List ConD) (i : Nat) : wts (ks.take i) ≤ wts ks := by
  induction ks generalizing i with
  | nil => simp [wts]
  | cons k ks ih =>
    cases i with
    | zero => simp [wts]
    | succ i => simp [wts]; exact ih i
theorem wt_mem {ks : List ConD} {k : ConD} (h : k ∈ ks) : wt k ≤ wts ks := by
  induction ks with
  | nil => cases h
  | cons a ks ih =>
    simp only [wts]
    rcases List.mem_cons.1 h with rfl | h
    · omega
    · have := ih h; omega

end Go.Proofs.YtjofmoebijdccaaGreat.con

namespace Go.Proofs.YtjofmoebijdccaaGreat.con
open Go.RowKit Go.Proofs.YtjofmoebijdccaaGreat.rose Go.Proofs.YtjofmoebijdccaaGreat
set_option linter.unusedVariables false

def SzSays (T : ConD) : Prop := ∀ cs w l, 0 ≤ l → l ≤ 1048576 → conSh.rep w (· < w.heap.size) cs T →
  Calls Tryz.prog 60 #[.agg cs.toArray, .int .i64 l] w fun e w' => e = .returned (.int .i64 (left (wt T) l)) ∧ Below w.heap.size w w'

set_option maxHeartbeats 1000000 in
theorem sz_any (T : ConD) : SzSays T := by
  intro cs w l h0 h1 h
  obtain ⟨x0, x1, a1, c1, rfl, rfl, f0, f1⟩ := con_open h
  clear h
  have m0 : (x0.size : Int) ≤ 9223372036854775807 := by unfold maxLen at f0; omega
  have K1 : ∀ (l' : Int) (w' : World), 0 ≤ l' → l' ≤ 1048576 → Below w.heap.size w w' → Calls Tryz.prog 85 #[.slice a1 x1.length c1, .int .i64 l'] w' fun e w'' => e = .returned (.int .i64 (left (x1.length + ty.wts x1) l')) ∧ Below w'.heap.size w' w'' :=
    fun l' w' h2 h3 hb => ty.szS_any x1 _ w' l' h2 h3 (ty.tySh.slice.mono (ty.tySh.slice.below f1 hb) fun b hlt => Nat.lt_of_lt_of_le hlt hb.size)
  clear f0 f1
  have hw : wt ((x0, x1)) = x0.size + ((x1.length + ty.wts x1)) := by simp [wt]
  rw [hw]
  generalize x1.length + ty.wts x1 = q1 at K1 hw ⊢
  clear hw
  by_cases h10 : (x0.size : Int) ≤ l
  · have t0 : decide (l - (x0.size : Int) < 0) = false := by simp; omega
    go_enter Tryz.func60, Tryz.ntmps60
    go_wp2_with fail
    refine (K1 _ _ (by omega) (by omega) ((Below.refl _ _).alloc (Nat.le_refl _) _)).mono ?_
    rintro e w2 ⟨rfl, hb⟩
    have B2 : Hid (Below w.heap.size w w2) := ((Below.refl _ _).alloc (Nat.le_refl _) _).trans (hb.mono (by simp))
    have z2 : w.heap.size < w2.heap.size := Nat.lt_of_lt_of_le (by simp) hb.size
    clear hb K1
    by_cases h11 : (x0.size : Int) + ((q1 : Nat) : Int) ≤ l
    · have hl : left q1 (l - (x0.size : Int)) = l - (x0.size : Int) - (q1 : Nat) := by unfold left; rw [if_pos (by omega)]
      rw [hl]
      clear hl
      have t1 : decide (l - (x0.size : Int) - (q1 : Nat) < 0) = false := by simp; omega
      have hr : left (x0.size + (q1)) l = l - (x0.size : Int) - (q1 : Nat) := by unfold left; rw [if_pos (by omega)]; omega
      go_wp2
      go_ret
      exact ⟨by first | rfl | (rw [hr]; rfl), B2.out⟩
    · have hl : left q1 (l - (x0.size : Int)) = -1 := by unfold left; rw [if_neg (by omega)]
      have hr : left (x0.size + (q1)) l = -1 := by unfold left; rw [if_neg (by omega)]
      rw [hl]
      clear hl
      go_wp2
      go_ret
      exact ⟨by first | rfl | (rw [hr]; rfl), B2.out⟩
  · have hr : left (x0.size + (q1)) l = -1 := by unfold left; rw [if_neg (by omega)]
    have t0 : decide (l - (x0.size : Int) < 0) = true := by simp; omega
    rw [hr]
    clear hr
    go_enter Tryz.func60, Tryz.ntmps60
    go_wp2
    go_ret
    exact ⟨rfl, ((Below.refl _ _).alloc (Nat.le_refl _) _)⟩

set_option maxHeartbeats 1000000 in
theorem szS_of (ks : List ConD) (ih : ∀ k ∈ ks, SzSays k) (v : Value) (w : World) (l : Int) (h0 : 0 ≤ l) (h1 : l ≤ 1048576) (h : conSh.slice.rep w (· < w.heap.size) [v] ks) :
    Calls Tryz.prog 43 #[v, .int .i64 l] w fun e w' => e = .returned (.int .i64 (left (ks.length + wts ks) l)) ∧ Below w.heap.size w w' := by
  obtain ⟨a, cap, css, rfl, hcap, hmax, hrow, hk⟩ := cons_open h
  have hmx : (ks.length : Int) ≤ 9223372036854775807 := by unfold maxLen at hmax; omega
  clear h hcap hmax
  have IH : Hid (∀ k ∈ ks, SzSays k) := ih
  have HR : Hid (RowAt w (· < w.heap.size) 2 a ks.length css ∧ ∀ i (h : i < ks.length), conSh.rep w (· < w.heap.size) (css i) ks[i]) := ⟨hrow, hk⟩
  clear ih hrow hk
  by_cases hn : (ks.length : Int) ≤ l
  · have t1 : decide (l - (ks.length : Int) < 0) = false := by simp; omega
    go_enter Tryz.func43, Tryz.ntmps43
    go_wp2
    go_loopw [1, 5] (fun v1 v5 wr => ∃ i : Nat, i ≤ ks.length ∧ v5 = .int .i64 i ∧ v1 = .int .i64 (l - ks.length - (wts (ks.take i) : Nat)) ∧ ((wts (ks.take i) : Nat) : Int) ≤ l - ks.length ∧ Hid (Below w.heap.size w wr)) (fun _ v5 _ => ks.length - (intOf v5).toNat)
    case atStart => exact ⟨0, Nat.zero_le _, rfl, by simp [wts], by simp [wts]; omega, Below.refl _ _⟩
    case round =>
      obtain ⟨i, hi, rfl, rfl, hle, HB⟩ := hrel
      by_cases hlt : i < ks.length
      · obtain ⟨b, o, rfl, hS, hc⟩ := HR.out.1 i hlt
        have hrep := HR.out.2 i hlt
        obtain ⟨v0, v1, hcs, c0, c1⟩ := con_cells hrep hc
        have e0 := (HB.out.cell (p := ⟨b, o + i * 2, none⟩) hS).trans c0
        have e1 := (HB.out.cell (p := ⟨b, o + i * 2 + 1, none⟩) hS).trans c1
        rw [hcs] at hrep
        clear c0 c1 hc hcs
        have W1 : Hid (wts (ks.take (i + 1)) = wts (ks.take i) + wt ks[i]) := wts_take hlt
        have W2 : Hid (wts (ks.take (i + 1)) ≤ wts ks) := wts_take_le ks (i + 1)
        have hR := conSh.mono (conSh.below hrep HB.out) (S' := (· < wr.heap.size)) (fun b hb => Nat.lt_of_lt_of_le hb HB.out.size)
        clear hrep
        have hcall := IH.out ks[i] (List.getElem_mem hlt) [v0, v1] wr (l - ks.length - (wts (ks.take i) : Nat)) (by omega) (by omega) hR
        clear hR
        go_wp2_with fail
        refine hcall.mono ?_
        clear hcall
        rintro e w1 ⟨rfl, hb⟩
        have B1 : Hid (Below w.heap.size w w1) := HB.out.trans (hb.mono HB.out.size)
        clear hb HB
        by_cases hfit : ((wt ks[i] : Nat) : Int) ≤ l - ks.length - (wts (ks.take i) : Nat)
        · have hl : left (wt ks[i]) (l - ks.length - (wts (ks.take i) : Nat)) = l - ks.length - (wts (ks.take (i + 1)) : Nat) := by
            unfold left; rw [if_pos hfit, W1.out]; omega
          have hq : ((wts (ks.take (i + 1)) : Nat) : Int) ≤ l - ks.length := by rw [W1.out]; omega
          rw [hl]
          clear hl hfit
          have t2 : decide (l - (ks.length : Int) - ((wts (ks.take (i + 1)) : Nat) : Int) < 0) = false := by simp; omega
          go_wp2
          go_round
          case rel => exact ⟨i + 1, by omega, by go_num, rfl, hq, B1⟩
          case measure => simp [intOf]; omega
        · have hl : left (wt ks[i]) (l - ks.length - (wts (ks.take i) : Nat)) = -1 := by
            unfold left; rw [if_neg hfit]
          have hr : left (ks.length + wts ks) l = -1 := by
            unfold left; rw [if_neg]; have := W1.out; have := W2.out; omega
          rw [hl]
          clear hl
          go_wp2
          go_ret
          exact ⟨by rw [hr]; rfl, B1.out⟩
      · obtain rfl : i = ks.length := by omega
        have hr : left (ks.length + wts ks) l = l - ks.length - (wts ks : Nat) := by
          rw [List.take_length] at hle
          unfold left; rw [if_pos (by omega)]; omega
        go_wp2
        go_ret
        exact ⟨by rw [hr, List.take_length]; rfl, HB.out⟩
  · have t1 : decide (l - (ks.length : Int) < 0) = true := by simp; omega
    have hr : left (ks.length + wts ks) l = -1 := by
      unfold left; rw [if_neg]; omega
    go_enter Tryz.func43, Tryz.ntmps43
    go_wp2
    go_ret
    exact ⟨by first | rfl | (rw [hr]; rfl), Below.refl _ _⟩

theorem szS_any (ks : List ConD) (v : Value) (w : World) (l : Int) (h0 : 0 ≤ l) (h1 : l ≤ 1048576) (h : conSh.slice.rep w (· < w.heap.size) [v] ks) :
    Calls Tryz.prog 43 #[v, .int .i64 l] w fun e w' => e = .returned (.int .i64 (left (ks.length + wts ks) l)) ∧ Below w.heap.size w w' := szS_of ks (fun k _ => sz_any k) v w l h0 h1 h

end Go.Proofs.YtjofmoebijdccaaGreat.con

namespace Go.Proofs.YtjofmoebijdccaaGreat.data
open Go.RowKit Go.Proofs.YtjofmoebijdccaaGreat.rose Go.Proofs.YtjofmoebijdccaaGreat
set_option linter.unusedVariables false

abbrev DataD := ByteArray × Int × List con.ConD
abbrev dataSh : Sh DataD := Sh.str.pair (Sh.int.pair con.conSh.slice)

theorem data_open {w : World} {S : Nat → Prop} {cs : List Value} {T : DataD} (h : dataSh.rep w S cs T) : ∃ x0 x1 x2 a2 c2, T = (x0, x1, x2) ∧ cs = [.string x0, .int .i64 x1, .slice a2 x2.length c2] ∧ x0.size ≤ maxLen ∧ (-9223372036854775808 ≤ x1 ∧ x1 ≤ 9223372036854775807) ∧ con.conSh.slice.rep w S [.slice a2 x2.length c2] x2 := by
  obtain ⟨x0, x1, x2⟩ := T
  obtain ⟨_, _, rfl, ⟨rfl, h0⟩, _, _, rfl, ⟨rfl, h1⟩, h2⟩ := h
  obtain ⟨a2, c2, rfl⟩ := slice_cells h2
  exact ⟨_, _, _, _, _, rfl, rfl, h0, h1, h2⟩
theorem data_list {w : World} {S : Nat → Prop} {cs : List Value} {T : DataD} (h : dataSh.rep w S cs T) : ∃ v0 v1 v2, cs = [v0, v1, v2] := by
  obtain ⟨x0, x1, x2, a2, c2, -, rfl, -⟩ := data_open h
  exact ⟨_, _, _, rfl⟩
theorem data_shut {w : World} {S : Nat → Prop} {x0 : ByteArray} {x1 : Int} {x2 : List con.ConD} {a2 : Option Addr} {c2 : Nat} (h0 : x0.size ≤ maxLen) (h1 : -9223372036854775808 ≤ x1 ∧ x1 ≤ 9223372036854775807) (h2 : con.conSh.slice.rep w S [.slice a2 x2.length c2] x2) : dataSh.rep w S [.string x0, .int .i64 x1, .slice a2 x2.length c2] ((x0, x1, x2)) :=
  ⟨[_], _, rfl, ⟨rfl, h0⟩, [_], _, rfl, ⟨rfl, h1⟩, h2⟩

theorem datas_open {w : World} {S : Nat → Prop} {v : Value} {ks : List DataD} (h : dataSh.slice.rep w S [v] ks) : ∃ a cap css, v = .slice a ks.length cap ∧ ks.length ≤ cap ∧ cap ≤ maxLen ∧ RowAt w S 3 a ks.length css ∧ ∀ i (h : i < ks.length), dataSh.rep w S (css i) ks[i] := by
  obtain ⟨a, cap, css, e, h1, h2, -, h3, h4⟩ := h
  exact ⟨a, cap, css, by simpa using e, h1, h2, h3, h4⟩

theorem data_cells {w : World} {S : Nat → Prop} {b o i : Nat} {cs : List Value} {T : DataD} (h : dataSh.rep w S cs T) (hc : CellsAt w b (o + i * 3) cs) :
    ∃ v0 v1 v2, cs = [v0, v1, v2] ∧ w.cell? ⟨b, o + i * 3, none⟩ = some v0 ∧ w.cell? ⟨b, o + i * 3 + 1, none⟩ = some v1 ∧ w.cell? ⟨b, o + i * 3 + 2, none⟩ = some v2 := by
  obtain ⟨v0, v1, v2, rfl⟩ := data_list h
  exact ⟨_, _, _, rfl, hc 0 _ rfl, hc 1 _ rfl, hc 2 _ rfl⟩

/-- What it weighs. -/
def wt : DataD → Nat
  | (x0, x1, x2) => x0.size + ((x2.length + con.wts x2))
def wts : List DataD → Nat
  | [] => 0
  | k :: ks => wt k + wts ks

theorem wts_take {ks : List DataD} {i : Nat} (h : i < ks.length) : wts (ks.take (i + 1)) = wts (ks.take i) + wt ks[i] := by
  induction ks generalizing i with
  | nil => simp at h
  | cons k ks ih =>
    cases i with
    | zero => simp [wts]
    | succ i => simp [wts, ih (by simpa using h)]; omega
theorem wts_take_le (ks : List DataD) (i : Nat) : wts (ks.take i) ≤ wts ks := by
  induction ks generalizing i with
  | nil => simp [wts]
  | cons k ks ih =>
    cases i with
    | zero => simp [wts]
    | succ i => simp [wts]; exact ih i
theorem wt_mem {ks : List DataD} {k : DataD} (h : k ∈ ks) : wt k ≤ wts ks := by
  induction ks with
  | nil => cases h
  | cons a ks ih =>
    simp only [wts]
    rcases List.mem_cons.1 h with rfl | h
    · omega
    · have := ih h; omega

end Go.Proofs.YtjofmoebijdccaaGreat.data

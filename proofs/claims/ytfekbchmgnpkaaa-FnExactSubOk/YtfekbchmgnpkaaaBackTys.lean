/-
  slices.Backward over a list of types: it hands over the last one first; it only reads.
-/
import Derived.Test.YtfekbchmgnpkaaaTyAll
import Derived.Test.YtfekbchmgnpkaaaRangeE
import Derived.Shelf.Abstract
import Derived.Shelf.RegionOpen
import Derived.WalkKit
import Derived.OwnWalkIn
import Derived.TacticsInMore
import Derived.LoopNIn
import Derived.LoopIn
import Derived.Sort.LoopGhostIn
import Derived.BigRegionIn
import Derived.Stop.RegionWithIn
namespace Go.Proofs.Ytfekbchmgnpkaaa.ty
open Go.RowKit Go.Shelf Go.Proofs.Ytfekbchmgnpkaaa.rose Go.Proofs.Ytfekbchmgnpkaaa.rangeb Go.Proofs.Ytfekbchmgnpkaaa
set_option linter.unusedVariables false
set_option linter.unusedSimpArgs false
attribute [local go_sem] Oper.semAt_some

/-- What is handed over: a number, a type, and where its kids lie. -/
structure KPart (w : World) (S : Nat → Prop) where
  i : Nat
  T : TyD
  a : Option Addr
  c : Nat
  rep : tySh.rep w S [.int .i64 T.x.1, .int .i64 T.x.2.1, .string T.x.2.2, .slice a T.kids.length c] T

def encK {w : World} {S : Nat → Prop} (x : KPart w S) : Array Value := #[.int .i64 (x.i : Nat), .agg #[.int .i64 x.T.x.1, .int .i64 x.T.x.2.1, .string x.T.x.2.2, .slice x.a x.T.kids.length x.c]]

theorem backward_in (F : Fence) (n : Nat) (hF : F.fn 70) (hro : F.round = none) (a : Option Addr) (len c : Nat) (w : World) :
    CallsIn F n Try.prog 70 #[.slice a len c] w fun e w' => e = .returned (.func (.func 88) #[] #[.pointer (some ⟨w.heap.size, 0, none⟩)]) ∧ w' = w.alloc (.cells #[.slice a len c] 27) := by
  refine callsIn_of_wp Try.func70 rfl hF ?_ hro
  simp only [Try.ntmps70, List.size_toArray, List.length_cons, List.length_nil, Nat.reduceAdd, Nat.reduceSub, Array.replicate_succ, Array.replicate_zero, List.push_toArray, List.append_toArray, List.nil_append, List.cons_append]
  gi_wp2
  refine bodyPost_ret (results_tmp rfl _ _ _) rfl ?_
  exact ⟨rfl, rfl⟩

theorem drop_rev {ks : List TyD} {k : Nat} (h : k < ks.length) : (ks.drop k).reverse = (ks.drop (k + 1)).reverse ++ [ks[k]] := by
  rw [List.drop_eq_getElem_cons h, List.reverse_cons]

set_option maxRecDepth 100000 in
set_option maxHeartbeats 2000000 in
theorem backward_stops (F : Fence) (n : Nat) (hF : F.fn 88) (hro : F.round = none) (hn : 1 ≤ n) (Bt : Nat) (S : Nat → Prop) (ks : List TyD) (a : Option Addr) (c : Nat) (w : World)
    (hc : w.heap[Bt]? = some (.cells #[.slice a ks.length c] 27)) (hrep : tySh.slice.rep w S [.slice a ks.length c] ks) (hm : ks.length ≤ 1048576) :
    SeqE F n Try.prog 88 #[.pointer (some ⟨Bt, 0, none⟩)] (encK (w := w) (S := S)) 0 (fun b => S b ∨ b = Bt) (fun xs => xs.map (fun (y : KPart w S) => y.T) = ks.reverse) (fun _ => True) ks.length w := by
  intro l J Jx W hW hJ hJx hSB hY h0
  obtain ⟨a', c', css, e, hcap, hmax, hrow, hk⟩ := tys_open hrep
  cases e
  have HJ : Hid (∀ s W1 W2, J s W1 → Below W1.heap.size W1 W2 → J s W2) := hJ
  have HSB : Hid (∀ pre W1, J pre W1 → ∀ b, S b ∨ b = Bt → W1.heap[b]? = w.heap[b]?) := hSB
  have HY : Hid _ := hY
  have HR : Hid (RowAt w S 4 a ks.length css ∧ ∀ i (h : i < ks.length), tySh.rep w S (css i) ks[i]) := ⟨hrow, hk⟩
  have H0 : Hid (J [] W) := h0
  have c0 : W.cell? ⟨Bt, 0, none⟩ = some (.slice a ks.length c) := by
    have := (hSB [] W h0 Bt (.inr rfl)).trans hc
    simp [World.cell?, this]
  have HC : Hid (w.heap[Bt]? = some (.cells #[.slice a ks.length c] 27)) := hc
  clear hY hJ hJx hSB hrep hc hrow hk h0 hcap hmax
  refine callsIn_of_wp Try.func88 rfl hF ?_ hro
  simp only [Try.ntmps88, List.size_toArray, List.length_cons, List.length_nil, Nat.reduceAdd, Nat.reduceSub, Array.replicate_succ, Array.replicate_zero, List.push_toArray, List.append_toArray, List.nil_append, List.cons_append]
  gi_wp2
  clear c0
  gi_loopg [3] (ks.length) (fun k v3 wr => v3 = .int .i64 ((k : Int) - 1) ∧ k ≤ ks.length ∧ Hid (∃ pre : List (KPart w S), pre.map (fun (y : KPart w S) => y.T) = (ks.drop k).reverse ∧ J pre wr))
  case atStart => exact ⟨rfl, Nat.le_refl _, [], by simp, H0.out⟩
  case round =>
    obtain ⟨rfl, hgk, HI⟩ := hrel
    cases gk with
    | zero =>
      gi_wp2
      go_end0
      obtain ⟨pre, h1, h2⟩ := HI.out
      exact ⟨⟨_, rfl⟩, .inl ⟨pre, by rw [h1, List.drop_zero], h2⟩⟩
    | succ k =>
      have hk1 : (((k + 1 : Nat) : Int) - 1) = (k : Int) := by omega
      rw [hk1]
      clear hk1
      have hlt : k < ks.length := by omega
      obtain ⟨pre, hpre, hJp⟩ := HI.out
      obtain ⟨b, o, rfl, hS, hc⟩ := HR.out.1 k hlt
      have hrt := HR.out.2 k hlt
      obtain ⟨x0, x1, x2, qs, ak, ck, hT, hcs, f0, f1, f2, fk⟩ := ty_open hrt
      rw [hcs] at hc hrt
      have blk := HSB.out pre wr hJp b (.inl hS)
      have e0 : wr.cell? ⟨b, o + k * 4, none⟩ = some (.int .i64 x0) := (World.cell?_of_block (w := w) (a := ⟨b, o + k * 4, none⟩) blk).trans (hc 0 _ rfl)
      have e1 : wr.cell? ⟨b, o + k * 4 + 1, none⟩ = some (.int .i64 x1) := (World.cell?_of_block (w := w) (a := ⟨b, o + k * 4 + 1, none⟩) blk).trans (hc 1 _ rfl)
      have e2 : wr.cell? ⟨b, o + k * 4 + 2, none⟩ = some (.string x2) := (World.cell?_of_block (w := w) (a := ⟨b, o + k * 4 + 2, none⟩) blk).trans (hc 2 _ rfl)
      have e3 : wr.cell? ⟨b, o + k * 4 + 3, none⟩ = some (.slice ak qs.length ck) := (World.cell?_of_block (w := w) (a := ⟨b, o + k * 4 + 3, none⟩) blk).trans (hc 3 _ rfl)
      have c0 : wr.cell? ⟨Bt, 0, none⟩ = some (.slice (some ⟨b, o, none⟩) ks.length c) := by
        have := (HSB.out pre wr hJp Bt (.inr rfl)).trans HC.out
        simp [World.cell?, this]
      obtain ⟨x, hxT, hxe⟩ : ∃ x : KPart w S, x.T = ks[k] ∧ encK x = #[.int .i64 (k : Nat), .agg #[.int .i64 x0, .int .i64 x1, .string x2, .slice ak qs.length ck]] :=
        ⟨⟨k, .mk (x0, x1, x2) qs, ak, ck, by rw [hT] at hrt; exact hrt⟩, hT.symm, rfl⟩
      have hpl : pre.length < ks.length := by
        have := congrArg List.length hpre
        simp at this
        omega
      obtain ⟨fn, tmps, assign, body, hy, hR⟩ := HY.out pre x wr hJp hpl
      rw [hxe] at hy
      have HX : Hid ((pre ++ [x]).map (fun (y : KPart w S) => y.T) = (ks.drop k).reverse) := by
        show _ = _
        rw [List.map_append, hpre, drop_rev hlt]
        simp [hxT]
      clear hpre hJp hcs hc hrt blk hT fk hxT hxe f0 f1 f2 HI hS
      gi_wp2
      refine hR.mono ?_
      rintro e W3 (⟨rfl, hJ3, hk3⟩ | ⟨rfl, hJx3⟩)
      · have HJ3 : Hid (J (pre ++ [x]) W3) := hJ3
        clear hk3 hJ3 hR hy e0 e1 e2 e3 c0
        gi_wp2
        gi_roundg k
        case rel => exact ⟨by go_num, by omega, pre ++ [x], HX.out, HJ3.out⟩
        case measure => omega
      · gi_wp2
        refine bodyPost_ret (results_none rfl _ _ _) rfl ?_
        exact ⟨⟨_, rfl⟩, .inr ⟨_, trivial, hJx3⟩⟩

end Go.Proofs.Ytfekbchmgnpkaaa.ty

/-
  The program's Alloc, at every argument; nothing that was there is turned.
  How much a heap can hold when a block was put into it.
-/
import Derived.Test.YtempmfpnngbbeabB1
import Derived.Test.YtempmfpnngbbeabB2
import Derived.Test.YtempmfpnngbbeabB3
import Derived.Test.YtempmfpnngbbeabB4
import Derived.Test.YtempmfpnngbbeabB5
import Derived.Test.YtempmfpnngbbeabB6
import Derived.Test.YtempmfpnngbbeabB7
import Derived.Test.YtempmfpnngbbeabB8
import Derived.Test.YtempmfpnngbbeabB9
import Derived.Test.YtempmfpnngbbeabB10
import Derived.Test.YtempmfpnngbbeabB11
import Derived.Test.YtempmfpnngbbeabB12
import Derived.Test.YtempmfpnngbbeabB13
import Derived.Test.YtempmfpnngbbeabB14
import Derived.Test.YtempmfpnngbbeabB15
import Derived.Test.YtempmfpnngbbeabB16
import Derived.Test.YtempmfpnngbbeabB17
import Derived.Test.YtempmfpnngbbeabB18
import Derived.Test.YtempmfpnngbbeabB19
import Derived.Test.YtempmfpnngbbeabB20
import Derived.Test.YtempmfpnngbbeabB21
import Derived.Test.YtempmfpnngbbeabB22
import Derived.Test.YtempmfpnngbbeabB23
import Derived.Test.YtempmfpnngbbeabB24
import Derived.Test.YtempmfpnngbbeabB25
namespace Go.Proofs.Ytempmfpnngbbeab.heap
open Go Go.RowKit Go.Deep Go.Proofs.Ytempmfpnngbbeab.rose Go.Proofs.Ytempmfpnngbbeab Go.Proofs.Ytempmfpnngbbeab.fun Go.Proofs.Ytempmfpnngbbeab.words Go.Proofs.Ytempmfpnngbbeab.ints
set_option linter.unusedVariables false
set_option linter.unusedSimpArgs false

/-- Whether it may be put. -/
def putB (base half next : Nat) (M : List Bool) (tag : Int) (kids : List Int) : Bool := okHdr tag kids.length && !decide ((base : Int) + half - next < 1 + (kids.length : Int)) && kids.all (keepB base next M)
theorem put_no {B hb hm : Nat} {wv : Value} {W : List Int} {half base next : Nat} {M : List Bool} {w : World} (h : HH B hb hm wv W half base next 0 M w) (fn : Bool) (tag : Int) (ak : Option Addr) (ck : Nat) (kids : List Int) (S : Nat → Prop) (hk : intsSh.rep w S [.slice ak kids.length ck] kids) (hS : ∀ b, S b → b < B) (hl : kids.length ≤ 1048576) (hp : putB base half next M tag kids = false) :
    Calls Try.prog 34 #[.pointer (some ⟨hb, 0, none⟩), .agg #[.bool fn, .int .i64 tag, .int .i64 kids.length], .slice ak kids.length ck] w fun e w' => e = .returned (.tuple #[.int .i64 0, .bool false]) ∧ HH B hb hm wv W half base next 0 M w' ∧ Below B w w' := by
  rcases q1 : okHdr tag kids.length with _ | _
  · exact put_no1 h fn tag ak ck kids S hk hS hl q1
  · by_cases q2 : (base : Int) + half - next < 1 + (kids.length : Int)
    · exact put_no2 h fn tag ak ck kids S hk hS hl q1 q2
    · rcases q3 : kids.all (keepB base next M) with _ | _
      · exact put_no3 h fn tag ak ck kids S hk hS hl q1 q2 q3
      · unfold putB at hp; rw [q1, q3, decide_eq_false q2] at hp; cases hp
theorem putB_yes {base half next : Nat} {M : List Bool} {tag : Int} {kids : List Int} (h : putB base half next M tag kids = true) : okHdr tag kids.length = true ∧ (¬ (base : Int) + half - next < 1 + (kids.length : Int)) ∧ kids.all (keepB base next M) = true := by
  unfold putB at h
  simp only [Bool.and_eq_true, Bool.not_eq_true', decide_eq_false_iff_not] at h
  exact ⟨h.1.1, h.1.2, h.2⟩
/-- It is what the model asks. -/
theorem putB_is {W : List Int} {half base next : Nat} {M : List Bool} {fn : Bool} {tag : Int} {kids : List Int} (hT : heapB (W, (half : Int), (base : Int), (next : Int)) = true) (hM : MarksAre half base M (plF W next base).1) (hn : next ≤ base + half) :
    allocF (W, (half : Int), (base : Int), (next : Int)) fn tag kids = if putB base half next M tag kids then (moreF (W, (half : Int), (base : Int), (next : Int)) fn tag kids, (next : Int), true) else ((W, (half : Int), (base : Int), (next : Int)), 0, false) := by
  have HPT : plT (W, (half : Int), (base : Int), (next : Int)) = plF W next base := by unfold plT; simp
  have hplok : (plF W next base).2 = true := by have := heapB_places_ok hT; rwa [HPT] at this
  have hkb : ∀ x, keepB base next M x = (thereB (plF W next base).1 x || decide (x = 2 * (next : Int))) := fun x => by unfold keepB; rw [kidM_is hM hn (plF_span hplok)]
  have e1 : okHdr tag kids.length = (inB tag 0 3000 && decide (kids.length ≤ 20)) := by
    unfold okHdr inB
    congr 1
    exact decide_eq_decide.2 (by omega)
  have e2 : (!decide ((base : Int) + half - next < 1 + (kids.length : Int))) = decide ((kids.length : Int) < (base : Int) + half - next) := by
    rw [← decide_not]; exact decide_eq_decide.2 (by omega)
  unfold allocF putB
  dsimp only
  rw [hT, e1, e2]
  rcases h0 : inB tag 0 3000 with _ | _
  · simp
  by_cases h1 : kids.length ≤ 20
  · by_cases h2 : (kids.length : Int) < (base : Int) + half - next
    · have hr := more_right (fn := fn) hT h0 h1 h2
      rw [HPT] at hr
      have : (kids.all fun x => thereB (plF W next base).1 x || decide (x = 2 * (next : Int))) = kids.all (keepB base next M) := by
        congr 1; funext x; exact (hkb x).symm
      dsimp only at hr
      rw [hr, this]
      simp [h1, h2]
    · simp [h1, h2]
  · simp [h1]

theorem AK.arg0 {w wk : World} {v0 v1 v2 v3 : Value} (h : AK w wk [v0, v1, v2, v3]) (v : Value) : AK w (wk.setCell ⟨w.heap.size, 0, none⟩ v) [v, v1, v2, v3] :=
  ⟨⟨h.arg.bel.setCell (Nat.le_refl _) _, by have := h.arg.blk; simp [World.setCell, Array.getElem?_modify, this]⟩, (Below.heap_setCell _ _ _ _ (by show w.heap.size + 1 ≠ w.heap.size; omega)).trans h.res⟩

set_option maxRecDepth 100000 in
set_option maxHeartbeats 16000000 in
theorem implAlloc (T : HeapD) (fn : Bool) (tag : Int) (kids : List Int) (cs : List Value) (vk : Value) (w : World) (hw : (wt T) ≤ 1048576) (hl : kids.length ≤ 1048576) (h1 : -9223372036854775808 ≤ tag) (h2 : tag ≤ 9223372036854775807) (h : heapSh.rep w (· < w.heap.size) cs T) (hk : intsSh.rep w (· < w.heap.size) [vk] kids) :
    Calls Try.prog 20 #[.agg cs.toArray, .bool fn, .int .i64 tag, vk] w fun e w' => (∃ cs', e = .returned (.tuple #[.agg cs'.toArray, .int .i64 (allocF T fn tag kids).2.1, .bool (allocF T fn tag kids).2.2]) ∧ heapSp.rep w' (fun b => w.heap.size ≤ b ∧ b < w'.heap.size) cs' (allocF T fn tag kids).1) ∧ Below w.heap.size w w' := by
  have HKI : Hid (∀ X : World, (∀ b, b < w.heap.size → X.heap[b]? = w.heap[b]?) → intsSh.rep X (· < w.heap.size) [vk] kids) := fun X hX => intsSh.on hk fun b hb' => hX b hb'
  obtain ⟨ak, ck, hvk⟩ : ∃ a c, vk = .slice a kids.length c := by obtain ⟨a, c, e⟩ := slice_cells hk; simp only [List.cons.injEq, and_true] at e; exact ⟨a, c, e⟩
  subst hvk
  obtain ⟨W, a0, c0, half, base, next, rfl, rfl, f0, f1, f2, f3⟩ := heap_open h
  have hw1 : W.length ≤ 1048576 := hw
  have HW0 : Hid (intsSh.rep w (· < w.heap.size) [.slice a0 W.length c0] W) := f0
  have HFR : Hid ((-9223372036854775808 ≤ half ∧ half ≤ 9223372036854775807) ∧ (-9223372036854775808 ≤ base ∧ base ≤ 9223372036854775807) ∧ (-9223372036854775808 ≤ next ∧ next ≤ 9223372036854775807)) := ⟨f1, f2, f3⟩
  obtain ⟨r, hr⟩ : ∃ r, r = allocF (W, half, base, next) fn tag kids := ⟨_, rfl⟩
  have HR : Hid (r = allocF (W, half, base, next) fn tag kids) := hr
  rw [← hr]
  have K0 : Hid (AK w ((w.alloc (.cells #[.slice a0 W.length c0, .int .i64 half, .int .i64 base, .int .i64 next] 27)).alloc (.cells #[.slice none 0 0, .int .i64 0, .int .i64 0, .int .i64 0] 27)) [.slice a0 W.length c0, .int .i64 half, .int .i64 base, .int .i64 next]) := by
    have hA := ArgK.new w [.slice a0 W.length c0, .int .i64 half, .int .i64 base, .int .i64 next] 27 (arr := #[.slice a0 W.length c0, .int .i64 half, .int .i64 base, .int .i64 next]) rfl
    refine ⟨hA.on ((Below.refl _ _).alloc (Nat.le_refl _) _), ?_⟩
    have := alloc_top (w.alloc (.cells #[.slice a0 W.length c0, .int .i64 half, .int .i64 base, .int .i64 next] 27)) (.cells #[.slice none 0 0, .int .i64 0, .int .i64 0, .int .i64 0] 27)
    rwa [World.size_alloc] at this
  have hz0 := K0.out.lt
  have hk0 : ((w.alloc (.cells #[.slice a0 W.length c0, .int .i64 half, .int .i64 base, .int .i64 next] 27)).alloc (.cells #[.slice none 0 0, .int .i64 0, .int .i64 0, .int .i64 0] 27)).cell? ⟨w.heap.size, 0, none⟩ = some (.slice a0 W.length c0) := K0.out.arg.cell 0 rfl
  clear h hk hr f0 f1 f2 f3 hw
  generalize hwa : (w.alloc (.cells #[.slice a0 W.length c0, .int .i64 half, .int .i64 base, .int .i64 next] 27)).alloc (.cells #[.slice none 0 0, .int .i64 0, .int .i64 0, .int .i64 0] 27) = wa at *
  go_enter Try.func20, Try.ntmps20
  go_wp2_with (first
    | (refine wpList_append_ints _ rfl _ _ rfl (w1 := w) (lo := w.heap.size) (xs := W) (by rfl) (by rfl) HW0.out K0.out.arg.bel K0.out.arg.bel.size hw1 ?_; intro ua uc u1 hB1 HI1
       have K1 : Hid (AK w u1 [.slice a0 W.length c0, .int .i64 half, .int .i64 base, .int .i64 next]) := K0.out.on hB1
       have b0 : u1.cell? ⟨w.heap.size, 0, none⟩ = some (.slice a0 W.length c0) := K1.out.arg.cell 0 rfl
       have b1 : u1.cell? ⟨w.heap.size, 1, none⟩ = some (.int .i64 half) := K1.out.arg.cell 1 rfl
       have b2 : u1.cell? ⟨w.heap.size, 2, none⟩ = some (.int .i64 base) := K1.out.arg.cell 2 rfl
       have b3 : u1.cell? ⟨w.heap.size, 3, none⟩ = some (.int .i64 next) := K1.out.arg.cell 3 rfl
       have bf : ∀ j, u1.frozen? ⟨w.heap.size, j, none⟩ = false := fun j => by simp [World.frozen?, K1.out.arg.blk]))
  have K2 : Hid (AK w (u1.setCell ⟨w.heap.size, 0, none⟩ (.slice ua W.length uc)) [.slice ua W.length uc, .int .i64 half, .int .i64 base, .int .i64 next]) := K1.out.arg0 _
  have I2 : Hid (IRow (u1.setCell ⟨w.heap.size, 0, none⟩ (.slice ua W.length uc)) wa.heap.size (.slice ua W.length uc) W) := ⟨own_same HI1.out.1 fun q hq => Below.heap_setCell _ _ _ _ (by have := (HI1.out.lt q hq).1; show q ≠ w.heap.size; omega), HI1.out.2⟩
  have hcall := hold_is W ua uc half base next (u1.setCell ⟨w.heap.size, 0, none⟩ (.slice ua W.length uc)) (heap_shut (intsSh.mono (intsp_rep I2.out.sp) fun b hb => hb.2) HFR.out.1 HFR.out.2.1 HFR.out.2.2)
  clear b0 b1 b2 b3 bf hB1 HI1 hk0 hwa
  generalize u1.setCell ⟨w.heap.size, 0, none⟩ (.slice ua W.length uc) = u2 at *
  rcases q : heapB (W, half, base, next) with _ | _
  · have HF : Hid (r = ((W, half, base, next), 0, false)) := by show _ = _; rw [HR.out]; unfold allocF; rw [q]; rfl
    refine hcall.mono ?_
    rintro e u3 ⟨ho, hb⟩
    obtain ⟨pp, rfl⟩ := ho.1 q
    have K3 : Hid (AK w u3 [.slice ua W.length uc, .int .i64 half, .int .i64 base, .int .i64 next]) := K2.out.on hb
    have I3 : Hid (IRow u3 wa.heap.size (.slice ua W.length uc) W) := I2.out.keep hb
    clear hcall hb ho q
    have b0 : u3.cell? ⟨w.heap.size, 0, none⟩ = some (.slice ua W.length uc) := K3.out.arg.cell 0 rfl
    have b1 : u3.cell? ⟨w.heap.size, 1, none⟩ = some (.int .i64 half) := K3.out.arg.cell 1 rfl
    have b2 : u3.cell? ⟨w.heap.size, 2, none⟩ = some (.int .i64 base) := K3.out.arg.cell 2 rfl
    have b3 : u3.cell? ⟨w.heap.size, 3, none⟩ = some (.int .i64 next) := K3.out.arg.cell 3 rfl
    have z0 : u3.cell? ⟨w.heap.size + 1, 0, none⟩ = some (.slice none 0 0) := by simp [World.cell?, K3.out.res]
    have z1 : u3.cell? ⟨w.heap.size + 1, 1, none⟩ = some (.int .i64 0) := by simp [World.cell?, K3.out.res]
    have z2 : u3.cell? ⟨w.heap.size + 1, 2, none⟩ = some (.int .i64 0) := by simp [World.cell?, K3.out.res]
    have z3 : u3.cell? ⟨w.heap.size + 1, 3, none⟩ = some (.int .i64 0) := by simp [World.cell?, K3.out.res]
    have zf : ∀ j, u3.frozen? ⟨w.heap.size + 1, j, none⟩ = false := fun j => by simp [World.frozen?, K3.out.res]
    go_wp2
    refine bodyPost_ret (v := .tuple #[.agg #[.slice ua W.length uc, .int .i64 half, .int .i64 base, .int .i64 next], .int .i64 0, .bool false]) (by simp [results, Try.f20, go_sem, z0, z1, z2, z3]) rfl ?_
    rw [HF.out]
    exact fin K3.out I3.out hz0 HFR.out
  · refine hcall.mono ?_
    rintro e u3 ⟨ho, hb⟩
    obtain ⟨hb', hm, hf, bs, nx, M, e1, e2, e3, rfl, hH, hM⟩ := ho.2 q
    subst e1 e2 e3
    have K3 : Hid (AK w u3 [.slice ua W.length uc, .int .i64 hf, .int .i64 bs, .int .i64 nx]) := K2.out.on hb
    have I3 : Hid (IRow u3 wa.heap.size (.slice ua W.length uc) W) := I2.out.keep hb
    have HSZ : Hid _ := hH.siz
    have HU2 : Hid (w.heap.size + 2 ≤ u2.heap.size) := K2.out.lt
    have hal := putB_is (fn := fn) (tag := tag) (kids := kids) q hM HSZ.out.2.2.2.2.2
    have hkr := HKI.out u3 K3.out.arg.bel.block
    rcases q2 : putB bs hf nx M tag kids with _ | _
    · have HF : Hid (r = ((W, (hf : Int), (bs : Int), (nx : Int)), 0, false)) := by show _ = _; rw [HR.out, hal, q2]; rfl
      have hput := put_no hH fn tag ak ck kids (· < w.heap.size) hkr (fun b hbb => Nat.lt_of_lt_of_le hbb (by have := HU2.out; omega)) hl q2
      clear hcall hb ho q q2 hal hkr hM hH
      go_wp2_with fail
      refine hput.mono ?_
      rintro e u4 ⟨rfl, hH4, hB4⟩
      have K4 : Hid (AK w u4 [.slice ua W.length uc, .int .i64 hf, .int .i64 bs, .int .i64 nx]) := K3.out.low HU2.out hB4
      have hback := heap_is hH4
      have I4 : Hid (IRow u4 wa.heap.size (.slice ua W.length uc) W) := ⟨own_same I3.out.1 fun k hk => hB4.block k ((I2.out.lt k hk).2), I3.out.2⟩
      clear hput hH4 hB4
      go_wp2_with fail
      refine hback.mono ?_
      rintro e u5 ⟨rfl, hB5⟩
      have K5 : Hid (AK w u5 [.slice ua W.length uc, .int .i64 hf, .int .i64 bs, .int .i64 nx]) := K4.out.low HU2.out hB5
      have I5 : Hid (IRow u5 wa.heap.size (.slice ua W.length uc) W) := ⟨own_same I4.out.1 fun k hk => hB5.block k ((I2.out.lt k hk).2), I4.out.2⟩
      clear hback hB5
      have z0 : u5.cell? ⟨w.heap.size + 1, 0, none⟩ = some (.slice none 0 0) := by simp [World.cell?, K5.out.res]
      have z1 : u5.cell? ⟨w.heap.size + 1, 1, none⟩ = some (.int .i64 0) := by simp [World.cell?, K5.out.res]
      have z2 : u5.cell? ⟨w.heap.size + 1, 2, none⟩ = some (.int .i64 0) := by simp [World.cell?, K5.out.res]
      have z3 : u5.cell? ⟨w.heap.size + 1, 3, none⟩ = some (.int .i64 0) := by simp [World.cell?, K5.out.res]
      have zf : ∀ j, u5.frozen? ⟨w.heap.size + 1, j, none⟩ = false := fun j => by simp [World.frozen?, K5.out.res]
      go_wp2
      refine bodyPost_ret (v := .tuple #[.agg #[.slice ua W.length uc, .int .i64 hf, .int .i64 bs, .int .i64 nx], .int .i64 0, .bool false]) (by simp [results, Try.f20, go_sem, z0, z1, z2, z3]) rfl ?_
      rw [HF.out]
      exact fin K5.out I5.out hz0 HFR.out
    · obtain ⟨p1, p2, p3⟩ := putB_yes q2
      have hpos : 0 < W.length := by have := HSZ.out; omega
      rcases I3.out.open with ⟨-, h0⟩ | ⟨g, cp, hv, hg1, hg2, -⟩
      · rw [h0] at hpos; cases hpos
      obtain ⟨rfl, rfl⟩ : ua = some ⟨g, 0, none⟩ ∧ uc = cp := by simp only [Value.slice.injEq] at hv; exact ⟨hv.1, hv.2.2⟩
      have hgB : wa.heap.size ≤ g ∧ g < u2.heap.size := ⟨hg1, (I2.out.lt g rfl).2⟩
      obtain ⟨R, hWB⟩ := WB.of_row I3.out
      have hput := put_yes (g := g) (Bw := wa.heap.size) (R := R) hH fn tag ak ck kids (· < w.heap.size) hkr (fun b hbb => Nat.lt_of_lt_of_le hbb (by omega)) hWB hgB hl p1 p2 p3
      obtain ⟨X, hX⟩ : ∃ X, X = putW W nx (headW fn tag kids.length :: kids) := ⟨_, rfl⟩
      have HXL : Hid (X.length = W.length) := by show _ = _; rw [hX]; exact putW_length _ _ _
      have HF : Hid (r = ((X, (hf : Int), (bs : Int), ((nx + 1 + kids.length : Nat) : Int)), (nx : Int), true)) := by
        show _ = _; rw [HR.out, hal, q2]; unfold moreF; dsimp only; rw [if_pos rfl, Int.toNat_natCast, ← hX]
        simp only [Prod.mk.injEq, true_and, and_true]; omega
      have HFX : Hid (nx + 1 + kids.length ≤ 6000) := by have := HSZ.out; show _ ≤ _; unfold okHdr at p1; omega
      rw [← hX] at hput
      have HGB : Hid (wa.heap.size ≤ g ∧ g < u2.heap.size ∧ w.heap.size + 2 ≤ wa.heap.size) := ⟨hgB.1, hgB.2, hz0⟩
      clear hcall hb ho q q2 hal hkr hM hH hX hv hg1 hg2 hgB hWB hpos p1 p2 p3
      go_wp2_with fail
      refine hput.mono ?_
      rintro e u4 ⟨rfl, ⟨M4, hH4⟩, hW4, hB4⟩
      have K4 : Hid (AK w u4 [.slice (some ⟨g, 0, none⟩) W.length uc, .int .i64 hf, .int .i64 bs, .int .i64 nx]) := K3.out.low hz0 hB4
      have hback := heap_is hH4
      have W4 : Hid (WB g uc X R u4) := hW4
      have WL4 : Hid (g < u2.heap.size) := HGB.out.2.1
      clear hput hH4 hB4 hW4
      go_wp2_with fail
      refine hback.mono ?_
      rintro e u5 ⟨rfl, hB5⟩
      have K5 : Hid (AK w u5 [.slice (some ⟨g, 0, none⟩) W.length uc, .int .i64 hf, .int .i64 bs, .int .i64 nx]) := K4.out.low HU2.out hB5
      have W5 : Hid (WB g uc X R u5) := W4.out.same (hB5.block g HGB.out.2.1)
      clear hback hB5
      have z0 : u5.cell? ⟨w.heap.size + 1, 0, none⟩ = some (.slice none 0 0) := by simp [World.cell?, K5.out.res]
      have z1 : u5.cell? ⟨w.heap.size + 1, 1, none⟩ = some (.int .i64 0) := by simp [World.cell?, K5.out.res]
      have z2 : u5.cell? ⟨w.heap.size + 1, 2, none⟩ = some (.int .i64 0) := by simp [World.cell?, K5.out.res]
      have z3 : u5.cell? ⟨w.heap.size + 1, 3, none⟩ = some (.int .i64 0) := by simp [World.cell?, K5.out.res]
      have zf : ∀ j, u5.frozen? ⟨w.heap.size + 1, j, none⟩ = false := fun j => by simp [World.frozen?, K5.out.res]
      obtain ⟨n2, hn2⟩ : ∃ n2 : Nat, n2 = nx + 1 + kids.length := ⟨_, rfl⟩
      rw [← hn2]
      have HN2 : Hid (n2 = nx + 1 + kids.length) := hn2
      clear hn2
      go_wp2
      refine bodyPost_ret (v := .tuple #[.agg #[.slice (some ⟨g, 0, none⟩) W.length uc, .int .i64 hf, .int .i64 bs, .int .i64 n2], .int .i64 nx, .bool true]) (by simp [results, Try.f20, go_sem, z0, z1, z2, z3]) rfl ?_
      rw [HF.out, ← HN2.out, ← HXL.out]
      exact fin K5.out (W5.out.row HGB.out.1) hz0 ⟨HFR.out.1, HFR.out.2.1, by have := HFX.out; have := HN2.out; omega⟩

end Go.Proofs.Ytempmfpnngbbeab.heap

namespace Go.Proofs.Ytempmfpnngbbeab.heap
open Go Go.RowKit Go.Proofs.Ytempmfpnngbbeab.rose Go.Proofs.Ytempmfpnngbbeab Go.Proofs.Ytempmfpnngbbeab.fun Go.Proofs.Ytempmfpnngbbeab.words Go.Proofs.Ytempmfpnngbbeab.ints
theorem cntT_boundA (T : HeapD) (hw : wt T ≤ 1048576) : cntT T ≤ 1073741824 := by
  obtain ⟨W, a, b, c⟩ := T
  have h1 : wt (W, a, b, c) = W.length := rfl
  have h2 : cntT (W, a, b, c) = W.length := rfl
  omega
theorem alloc_bound (T : HeapD) (fn : Bool) (tag : Int) (kids : List Int) (hw : wt T ≤ 1048576) : cntT (allocF T fn tag kids).1 ≤ 1073741824 := by
  unfold allocF
  split
  · obtain ⟨W, a, b, c⟩ := T
    have h1 : wt (W, a, b, c) = W.length := rfl
    show (putW W c.toNat _).length ≤ _
    rw [putW_length]
    omega
  · exact cntT_boundA T hw
end Go.Proofs.Ytempmfpnngbbeab.heap

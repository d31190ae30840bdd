/-
  The model's Erase: of a typed tree the tree without its types, in new memory that lies apart; nothing that was there is turned.
-/
import Derived.Test.YtklcjjckelahcaaTypedSz
import Derived.Test.YtklcjjckelahcaaNodeSp
import Derived.Test.YtklcjjckelahcaaGrown
namespace Go.Proofs.Ytklcjjckelahcaa.typed
open Go.RowKit Go.Proofs.Ytklcjjckelahcaa.rose Go.Proofs.Ytklcjjckelahcaa
set_option linter.unusedVariables false

mutual
/-- The node without types. -/
def er : TypedD → node.Nd
  | .mk (x0, x1, x2, x3, _, _, _) ks => .mk (x0, x1, x2, x3) (ers ks)
def ers : List TypedD → List node.Nd
  | [] => []
  | k :: ks => er k :: ers ks
end
theorem ers_length (ks : List TypedD) : (ers ks).length = ks.length := by
  induction ks with
  | nil => simp [ers]
  | cons k ks ih => simp [ers, ih]
theorem ers_map (ks : List TypedD) : ers ks = ks.map er := by
  induction ks with
  | nil => simp [ers]
  | cons k ks ih => simp [ers, ih]

def SpecSays (T : TypedD) : Prop := ∀ cs w, wt T ≤ 1048576 → typedSh.rep w (· < w.heap.size) cs T →
  Calls Try.prog 6 #[.agg cs.toArray] w fun e w' => (∃ cs', e = .returned (.agg cs'.toArray) ∧ node.ndSp.rep w' (fun b => w.heap.size ≤ b ∧ b < w'.heap.size) cs' (er T)) ∧ Below w.heap.size w w'

theorem infoN : (Try.prog.info? 32).map (fun i => (i.zero, i.size, i.bytes)) = some (some (.agg #[.int .i64 0, .int .i64 0, .string ⟨#[]⟩, .string ⟨#[]⟩, .slice none 0 0]), 5, 72) := by kernel_rfl

theorem cellG {w w' : World} {row : Option Nat} (h : w.grownBy w' row) {b o : Nat} (hb : b < w.heap.size) (hn : row ≠ some b) : w'.cell? ⟨b, o, none⟩ = w.cell? ⟨b, o, none⟩ := World.cell?_of_block (w := w) (a := ⟨b, o, none⟩) (h.block b hb fun e => hn e.symm)

/-- Where the loop stands: i kids were gone through; the new node's own block is g. -/
structure Mid (w wr : World) (cells : Array Value) (g : Nat) (op n : Int) (s t : ByteArray) (v : Value) (xs : List node.Nd) : Prop where
  bel : Below w.heap.size w wr
  box : wr.heap[w.heap.size]? = some (.cells cells 39)
  res : wr.heap[w.heap.size + 1]? = some (.cells #[.int .i64 0, .int .i64 0, .string ⟨#[]⟩, .string ⟨#[]⟩, .slice none 0 0] 32)
  out : wr.heap[w.heap.size + 2]? = some (.cells #[.int .i64 op, .int .i64 n, .string s, .string t, v] 32)
  grown : Grown node.ndSp 32 wr (w.heap.size + 3) v xs

theorem blk_cell {w : World} {b i : Nat} {cur : Array Value} {t : TypeId} {v : Value} (h : w.heap[b]? = some (.cells cur t)) (hi : cur[i]? = some v) : w.cell? ⟨b, i, none⟩ = some v := by simp [World.cell?, h, hi]
theorem blk_free {w : World} {b i : Nat} {cur : Array Value} {t : TypeId} (h : w.heap[b]? = some (.cells cur t)) : w.frozen? ⟨b, i, none⟩ = false := by simp [World.frozen?, h]

theorem entE : Enters Try.prog 6 := enters_of Try.func6 (by kernel_rfl) rfl

theorem three (w : World) (A B C : Obj) (WL : World) (h : WL = ((w.alloc A).alloc B).alloc C) : WL.heap.size = w.heap.size + 3 ∧ Below w.heap.size w WL ∧ WL.heap[w.heap.size]? = some A ∧ WL.heap[w.heap.size + 1]? = some B ∧ WL.heap[w.heap.size + 2]? = some C := by
  subst h
  refine ⟨by simp, (((Below.refl _ w).alloc (Nat.le_refl _) _).alloc (by simp) _).alloc (by simp; omega) _, ?_, ?_, ?_⟩
  · rw [Below.heap_alloc _ _ _ (by simp; omega), Below.heap_alloc _ _ _ (by simp)]; exact alloc_top _ _
  · rw [Below.heap_alloc _ _ _ (by simp)]
    have := alloc_top (w.alloc A) B
    rwa [World.size_alloc] at this
  · have := alloc_top ((w.alloc A).alloc B) C
    rwa [World.size_alloc, World.size_alloc] at this

set_option maxRecDepth 100000 in
set_option maxHeartbeats 1000000 in
theorem spec_any (T : TypedD) : SpecSays T := by
  induction T using ind with
  | h x x7 ih =>
    intro cs w hw h
    obtain ⟨x0, x1, x2, x3, x4, u4_0, u4_1, u4_2, u4_3, x5, a5, c5, x6, a6, c6, x7k, a7, c7, hT, rfl, f0, f1, f2, f3, f4, f5, f6, f7⟩ := typed_open h
    cases hT
    have o0 := ty.tySh.one f4 u4_0 (by simp)
    have o1 := ty.tySh.one f4 u4_1 (by simp)
    have o2 := ty.tySh.one f4 u4_2 (by simp)
    have o3 := ty.tySh.one f4 u4_3 (by simp)
    have q7 : x7.length + wts x7 ≤ 1048576 := by simp [wt] at hw; omega
    have IH : Hid (∀ k ∈ x7, SpecSays k) := ih
    have HF : Hid ((-9223372036854775808 ≤ x0 ∧ x0 ≤ 9223372036854775807) ∧ (-9223372036854775808 ≤ x1 ∧ x1 ≤ 9223372036854775807) ∧ x2.size ≤ maxLen ∧ x3.size ≤ maxLen) := ⟨f0, f1, f2, f3⟩
    obtain ⟨a, cap, css, e7, hcap, hmax, hrow, hk⟩ := typeds_open f7
    cases e7
    have hmx : (x7.length : Int) ≤ 9223372036854775807 := by omega
    have HR : Hid (RowAt w (· < w.heap.size) 11 a7 x7.length css ∧ ∀ i (h : i < x7.length), typedSh.rep w (· < w.heap.size) (css i) x7[i]) := ⟨hrow, hk⟩
    have HW : Hid (x7.length + wts x7 ≤ 1048576) := q7
    obtain ⟨ti, hti, hzz⟩ := Option.map_eq_some_iff.1 infoN
    simp only [Prod.mk.injEq] at hzz
    obtain ⟨hz0, hz1, hz2⟩ := hzz
    have TI : Hid (Try.prog.info? 32 = some ti ∧ ti.zero = some (.agg #[.int .i64 0, .int .i64 0, .string ⟨#[]⟩, .string ⟨#[]⟩, .slice none 0 0]) ∧ ti.size = 5 ∧ ti.bytes = 72) := ⟨hti, hz0, hz1, hz2⟩
    clear h hw ih f0 f1 f2 f3 f4 f5 f6 f7 hcap hmax hrow hk q7 hti hz0 hz1 hz2
    go_enter Try.func6, Try.ntmps6
    go_wp2
    go_loopw [4] (fun v4 wr => ∃ (i : Nat) (v : Value), i ≤ x7.length ∧ v4 = .int .i64 i ∧ Hid (Mid w wr #[.int .i64 x0, .int .i64 x1, .string x2, .string x3, u4_0, u4_1, u4_2, u4_3, .slice a5 x5.length c5, .slice a6 x6.length c6, .slice a7 x7.length c7] (w.heap.size + 2) x0 x1 x2 x3 v (ers (x7.take i)))) (fun v4 _ => x7.length - (intOf v4).toNat)
    case atStart =>
      obtain ⟨z1, z2, z3, z4, z5⟩ := three w _ _ _ _ rfl
      exact ⟨0, .slice none 0 0, Nat.zero_le _, rfl, ⟨z2, z3, z4, z5, Grown.nil _ _ _ _⟩⟩
    case round =>
      obtain ⟨i, v, hi, rfl, HM⟩ := hrel
      have k10 := blk_cell (i := 10) HM.out.box rfl
      by_cases hlt : i < x7.length
      · obtain ⟨b, o, rfl, hS, hc⟩ := HR.out.1 i hlt
        have hrep := HR.out.2 i hlt
        obtain ⟨v0, v1, v2, v3, v4, v5, v6, v7, v8, v9, v10, hcs, c0, c1, c2, c3, c4, c5', c6', c7', c8, c9, c10⟩ := typed_cells hrep hc
        have HB := HM.out.bel
        have e0 := (HB.cell (p := ⟨b, o + i * 11, none⟩) hS).trans c0
        have e1 := (HB.cell (p := ⟨b, o + i * 11 + 1, none⟩) hS).trans c1
        have e2 := (HB.cell (p := ⟨b, o + i * 11 + 2, none⟩) hS).trans c2
        have e3 := (HB.cell (p := ⟨b, o + i * 11 + 3, none⟩) hS).trans c3
        have e4 := (HB.cell (p := ⟨b, o + i * 11 + 4, none⟩) hS).trans c4
        have e5 := (HB.cell (p := ⟨b, o + i * 11 + 5, none⟩) hS).trans c5'
        have e6 := (HB.cell (p := ⟨b, o + i * 11 + 6, none⟩) hS).trans c6'
        have e7 := (HB.cell (p := ⟨b, o + i * 11 + 7, none⟩) hS).trans c7'
        have e8 := (HB.cell (p := ⟨b, o + i * 11 + 8, none⟩) hS).trans c8
        have e9 := (HB.cell (p := ⟨b, o + i * 11 + 9, none⟩) hS).trans c9
        have e10 := (HB.cell (p := ⟨b, o + i * 11 + 10, none⟩) hS).trans c10
        rw [hcs] at hrep
        have hR := typedSh.mono (typedSh.below hrep HB.drew) (S' := (· < wr.drew.heap.size)) (fun b hb => Nat.lt_of_lt_of_le hb HB.size)
        have hcall := IH.out x7[i] (List.getElem_mem hlt) [v0, v1, v2, v3, v4, v5, v6, v7, v8, v9, v10] wr.drew (by have := wts_take hlt; have := wts_take_le x7 (i + 1); have := HW.out; omega) hR
        have g4 : wr.cell? ⟨w.heap.size + 1 + 1, 4, none⟩ = some v := blk_cell (i := 4) HM.out.out rfl
        have hz3 : w.heap.size + 3 ≤ wr.heap.size := by have := (Array.getElem?_eq_some_iff.1 HM.out.out).1; omega
        obtain ⟨av, cv, hv⟩ := HM.out.grown.slice
        have HV : Hid (v = .slice av (ers (x7.take i)).length cv) := hv
        clear hv
        obtain ⟨cssG, FG, grow, grep, gin, gap⟩ := HM.out.grown
        have hlen : (ers (x7.take i)).length = i := by rw [ers_length, List.length_take]; omega
        rw [hlen] at grow
        have GR : Hid (wr.ownsRow (w.heap.size + 3) 32 5 v i (flat cssG i)) := grow
        have GP : Hid ((∀ j (h : j < (ers (x7.take i)).length), node.ndSp.rep wr (FG j) (cssG j) (ers (x7.take i))[j]) ∧ (∀ j, j < (ers (x7.take i)).length → ∀ b, FG j b → w.heap.size + 3 ≤ b ∧ b < wr.heap.size ∧ v.ownBlock ≠ some b) ∧ ∀ j l, j < (ers (x7.take i)).length → l < (ers (x7.take i)).length → j ≠ l → ∀ b, FG j b → ¬ FG l b) := ⟨grep, gin, gap⟩
        have HOB : Hid (∀ g, v.ownBlock = some g → w.heap.size + 3 ≤ g ∧ g < wr.heap.size) := fun g hg => HM.out.grown.own hg
        clear hrep hcs hc c0 c1 c2 c3 c4 c5' c6' c7' c8 c9 c10 hR HB grow grep gin gap
        go_wp2_with fail
        go_region_law
          (first
            | (refine step_append_own rfl _ _ 30 rfl (w.heap.size + 3) 32 ti _ 5 72 Try.underlying30 TI.out.1 TI.out.2.1 TI.out.2.2.1 TI.out.2.2.2 rfl (by decide) v i _ (by simp [Act.eval, HV.out]) RA.out ⟨w1.heap.size, 0, none⟩ 1 1 [n0, n1, n2, n3, n4] rfl rfl (cells_new _ _ _ _ rfl) ON.out (by unfold maxLen; have := HW.out; omega) (by have := HW.out; omega) (by have := Z1.out; simp; omega) ?_; intro ua ul uc w3 hown3 hgrow3 hat3
               have hO3 : w3.heap[w.heap.size + 2]? = some (.cells #[.int .i64 x0, .int .i64 x1, .string x2, .string x3, v] 32) := (hgrow3.block (w.heap.size + 2) (by have := Z1.out; simp; omega) (fun e => by have := (HOB.out _ e.symm).1; omega)).trans ((Below.heap_alloc _ _ _ (by have := Z1.out; omega)).trans O1.out)
               have y0 : w3.cell? ⟨w.heap.size + 1 + 1, 4, none⟩ = some v := blk_cell (i := 4) hO3 rfl
               have y1 : w3.frozen? ⟨w.heap.size + 1 + 1, 4, none⟩ = false := blk_free (i := 4) hO3)
            | (refine step_call rfl 6 entE _ _ rfl _ _ hcall (by simp [Act.eval]) ?_; rintro e w1 ⟨⟨cs', rfl, hrep'⟩, hb⟩
               obtain ⟨n0, n1, n2, n3, n4, rfl⟩ := node.nd_list (node.ndp_rep hrep')
               have ON : Hid (∀ u ∈ [n0, n1, n2, n3, n4], u.oneCell' = true) := node.ndSp.one hrep'
               have on0 := ON.out n0 (by simp)
               have on1 := ON.out n1 (by simp)
               have on2 := ON.out n2 (by simp)
               have on3 := ON.out n3 (by simp)
               have on4 := ON.out n4 (by simp)
               have Z1 : Hid (wr.heap.size ≤ w1.heap.size ∧ w.heap.size + 3 ≤ w1.heap.size) := ⟨hb.size, Nat.le_trans hz3 hb.size⟩
               have O1 : Hid (w1.heap[w.heap.size + 2]? = some (.cells #[.int .i64 x0, .int .i64 x1, .string x2, .string x3, v] 32)) := (hb.block _ (show w.heap.size + 2 < wr.heap.size by omega)).trans HM.out.out
               have g4' : w1.cell? ⟨w.heap.size + 1 + 1, 4, none⟩ = some v := blk_cell (i := 4) O1.out rfl
               have g4'' : ∀ o', (w1.alloc o').cell? ⟨w.heap.size + 1 + 1, 4, none⟩ = some v := fun o' => (((Below.refl _ w1).alloc (Nat.le_refl _) o').cell (p := ⟨w.heap.size + 1 + 1, 4, none⟩) (by have := Z1.out; show w.heap.size + 1 + 1 < _; omega)).trans g4'
               have RA : Hid ((w1.alloc (.cells #[n0, n1, n2, n3, n4] 32)).ownsRow (w.heap.size + 3) 32 5 v i (flat cssG i)) := by
                 obtain ⟨hl, hv⟩ := GR.out
                 refine ⟨hl, ?_⟩
                 rcases hv with h0 | ⟨g, cap, cur, h1, h2, h3, h4⟩
                 · exact Or.inl h0
                 · have hg := (Array.getElem?_eq_some_iff.1 h3).1
                   exact Or.inr ⟨g, cap, cur, h1, h2, by rw [Below.heap_alloc _ _ _ (Nat.lt_of_lt_of_le hg Z1.out.1), hb.block g hg]; exact h3, h4⟩
               refine ⟨_, rfl, ?_⟩))
        all_goals
          have NX : Hid (Mid w (w3.setCell ⟨w.heap.size + 1 + 1, 4, none⟩ (.slice ua ul uc)) #[.int .i64 x0, .int .i64 x1, .string x2, .string x3, u4_0, u4_1, u4_2, u4_3, .slice a5 x5.length c5, .slice a6 x6.length c6, .slice (some ⟨b, o, none⟩) x7.length c7] (w.heap.size + 2) x0 x1 x2 x3 (.slice ua ul uc) (ers (x7.take (i + 1)))) := by
            have hA : Below w1.heap.size w1 (w1.alloc (.cells #[n0, n1, n2, n3, n4] 32)) := (Below.refl _ _).alloc (Nat.le_refl _) _
            have hb' : Below wr.heap.size wr w1 := (Below.refl _ wr).drew.trans hb
            have hle : wr.heap.size ≤ w1.heap.size := Z1.out.1
            have hle2 := Z1.out.2
            have same : ∀ q, q < wr.heap.size → (∀ g, v.ownBlock = some g → q ≠ g) → w3.heap[q]? = wr.heap[q]? := fun q hq hn => (hgrow3.block q (by simp; omega) (fun e => hn q e.symm rfl)).trans ((hA.block q (by omega)).trans (hb'.block q hq))
            have sz : w1.heap.size + 1 ≤ w3.heap.size := by have := hgrow3.size; simpa using this
            have G3 : Grown node.ndSp 32 w3 (w.heap.size + 3) (.slice ua ul uc) (ers (x7.take i) ++ [er x7[i]]) := by
              refine Grown.push (w := wr) (w1 := w1.alloc (.cells #[n0, n1, n2, n3, n4] 32)) (css := cssG) (F := FG) (v := v) (lo := wr.heap.size) (hi := w1.heap.size) (cs := [n0, n1, n2, n3, n4]) (fun j hj => node.ndSp.on (GP.out.1 j hj) fun q hq => (hA.block q (by have := (GP.out.2.1 j hj q hq).2.1; omega)).trans (hb'.block q (GP.out.2.1 j hj q hq).2.1)) GP.out.2.1 GP.out.2.2 (fun g hg => (HOB.out g hg).2) (node.ndSp.on hrep' fun q hq => hA.block q hq.2) (by omega) (by omega) (by simp) ?_ hgrow3 hat3
              rw [hlen]
              exact hown3
            have hers : ers (x7.take (i + 1)) = ers (x7.take i) ++ [er x7[i]] := by
              rw [ers_map, ers_map, List.take_succ_eq_append_getElem hlt, List.map_append]; rfl
            refine ⟨?_, ?_, ?_, ?_, ?_⟩
            · refine Below.setCell ?_ (by simp; omega) _
              refine ((HM.out.bel.trans (hb'.mono (by omega))).trans (hA.mono (by omega))).grown hgrow3 (by simp; omega) (fun g hg => by have := (HOB.out g hg).1; omega)
            · rw [Below.heap_setCell _ _ _ _ (by simp; omega)]
              exact (same _ (by omega) (fun g hg => by have := (HOB.out g hg).1; omega)).trans HM.out.box
            · rw [Below.heap_setCell _ _ _ _ (by simp)]
              exact (same _ (by omega) (fun g hg => by have := (HOB.out g hg).1; omega)).trans HM.out.res
            · simp [World.setCell, Array.getElem?_modify, hO3]
            · rw [hers]
              exact G3.on (by simp [World.setCell]) fun q h1 h2 => Below.heap_setCell _ _ _ _ (by simp; omega)
          clear hown3 hgrow3 hat3 hO3 y0 y1 hrep' hb g4 g4' g4'' O1 RA ON Z1 e0 e1 e2 e3 e4 e5 e6 e7 e8 e9 e10 hcall on0 on1 on2 on3 on4
          go_wp2
          go_round
          case rel => exact ⟨i + 1, _, by omega, by go_num, NX⟩
          case measure => simp [intOf]; omega
      · obtain rfl : i = x7.length := by omega
        have HM' := HM.out
        rw [List.take_length] at HM'
        obtain ⟨av, cv, rfl⟩ := HM'.grown.slice
        have g0 : wr.cell? ⟨w.heap.size + 1 + 1, 0, none⟩ = some (.int .i64 x0) := blk_cell (i := 0) HM'.out rfl
        have g1 : wr.cell? ⟨w.heap.size + 1 + 1, 1, none⟩ = some (.int .i64 x1) := blk_cell (i := 1) HM'.out rfl
        have g2 : wr.cell? ⟨w.heap.size + 1 + 1, 2, none⟩ = some (.string x2) := blk_cell (i := 2) HM'.out rfl
        have g3 : wr.cell? ⟨w.heap.size + 1 + 1, 3, none⟩ = some (.string x3) := blk_cell (i := 3) HM'.out rfl
        have g4 : wr.cell? ⟨w.heap.size + 1 + 1, 4, none⟩ = some (.slice av (ers x7).length cv) := blk_cell (i := 4) HM'.out rfl
        have r0 : wr.cell? ⟨w.heap.size + 1, 0, none⟩ = some (.int .i64 0) := blk_cell (i := 0) HM'.res rfl
        have r1 : wr.cell? ⟨w.heap.size + 1, 1, none⟩ = some (.int .i64 0) := blk_cell (i := 1) HM'.res rfl
        have r2 : wr.cell? ⟨w.heap.size + 1, 2, none⟩ = some (.string ⟨#[]⟩) := blk_cell (i := 2) HM'.res rfl
        have r3 : wr.cell? ⟨w.heap.size + 1, 3, none⟩ = some (.string ⟨#[]⟩) := blk_cell (i := 3) HM'.res rfl
        have r4 : wr.cell? ⟨w.heap.size + 1, 4, none⟩ = some (.slice none 0 0) := blk_cell (i := 4) HM'.res rfl
        have fr : ∀ o, wr.frozen? ⟨w.heap.size + 1, o, none⟩ = false := fun o => blk_free HM'.res
        have HS := HM'.grown.sslice (by decide)
        have hB := HM'.bel
        have hz : w.heap.size + 3 ≤ wr.heap.size := by have := (Array.getElem?_eq_some_iff.1 HM'.out).1; omega
        have HH : Hid (node.ndSp.sslice.rep wr (fun b => w.heap.size + 3 ≤ b ∧ b < wr.heap.size) [.slice av (ers x7).length cv] (ers x7) ∧ Below w.heap.size w wr ∧ w.heap.size + 3 ≤ wr.heap.size) := ⟨HS, hB, hz⟩
        clear HS hB hz HM' HM
        go_wp2
        refine bodyPost_ret (v := .agg #[.int .i64 x0, .int .i64 x1, .string x2, .string x3, .slice av (ers x7).length cv]) (by simp [results, Try.f6, go_sem, r0, r1, r2, r3, r4]) rfl ?_
        obtain ⟨HS, hB, hz⟩ := HH.out
        refine ⟨⟨[.int .i64 x0, .int .i64 x1, .string x2, .string x3, .slice av (ers x7).length cv], by rfl, ?_⟩, ?_⟩
        · have he : er (.mk (x0, x1, x2, x3, x4, x5, x6) x7) = .mk (x0, x1, x2, x3) (ers x7) := by simp [er]
          rw [he]
          exact node.ndp_shut HF.out.1 HF.out.2.1 HF.out.2.2.1 HF.out.2.2.2 (node.ndSp.sslice.mono (node.ndSp.sslice.on HS fun b hS => by repeat rw [Below.heap_setCell _ _ _ _ (by simp; omega)]) fun b hS => ⟨by omega, by simp [World.setCell]; exact hS.2⟩)
        · repeat first | with_reducible exact hB | (refine Below.setCell ?_ (by first | (simp; done) | (simp; omega)) _)

end Go.Proofs.Ytklcjjckelahcaa.typed

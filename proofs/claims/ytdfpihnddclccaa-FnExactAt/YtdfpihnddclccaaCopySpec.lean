/-
  The model's copy of a value: the same in new memory that lies apart; nothing that was there is turned.
-/
import Derived.Test.YtdfpihnddclccaaValueSp
import Derived.Test.YtdfpihnddclccaaGrown
namespace Go.Proofs.Ytdfpihnddclccaa.value
open Go.RowKit Go.Proofs.Ytdfpihnddclccaa.rose Go.Proofs.Ytdfpihnddclccaa
set_option linter.unusedVariables false

def CopySays (T : ValueD) : Prop := ∀ cs w, wt T ≤ 1048576 → valueSh.rep w (· < w.heap.size) cs T →
  Calls Try.prog 15 #[.agg cs.toArray] w fun e w' => (∃ cs', e = .returned (.agg cs'.toArray) ∧ valueSp.rep w' (fun b => w.heap.size ≤ b ∧ b < w'.heap.size) cs' T) ∧ Below w.heap.size w w'

theorem infoV : (Try.prog.info? 29).map (fun i => (i.zero, i.size, i.bytes)) = some (some (.agg #[.int .i64 0, .int .i64 0, .string ⟨#[]⟩, .slice none 0 0]), 4, 56) := by kernel_rfl

theorem cellG {w w' : World} {row : Option Nat} (h : w.grownBy w' row) {b o : Nat} (hb : b < w.heap.size) (hn : row ≠ some b) : w'.cell? ⟨b, o, none⟩ = w.cell? ⟨b, o, none⟩ := World.cell?_of_block (w := w) (a := ⟨b, o, none⟩) (h.block b hb fun e => hn e.symm)

/-- Where the loop stands: i kids were gone through; the new node's own block is g. -/
structure Mid (w wr : World) (cells : Array Value) (g : Nat) (op n : Int) (s : ByteArray) (v : Value) (xs : List ValueD) : Prop where
  bel : Below w.heap.size w wr
  box : wr.heap[w.heap.size]? = some (.cells cells 29)
  res : wr.heap[w.heap.size + 1]? = some (.cells #[.int .i64 0, .int .i64 0, .string ⟨#[]⟩, .slice none 0 0] 29)
  out : wr.heap[w.heap.size + 2]? = some (.cells #[.int .i64 op, .int .i64 n, .string s, v] 29)
  grown : Grown valueSp 29 wr (w.heap.size + 3) v xs

theorem blk_cell {w : World} {b i : Nat} {cur : Array Value} {t : TypeId} {v : Value} (h : w.heap[b]? = some (.cells cur t)) (hi : cur[i]? = some v) : w.cell? ⟨b, i, none⟩ = some v := by simp [World.cell?, h, hi]
theorem blk_free {w : World} {b i : Nat} {cur : Array Value} {t : TypeId} (h : w.heap[b]? = some (.cells cur t)) : w.frozen? ⟨b, i, none⟩ = false := by simp [World.frozen?, h]

theorem entC : Enters Try.prog 15 := enters_of Try.func15 (by kernel_rfl) rfl

theorem three (w : World) (A B C : Obj) (WL : World) (h : WL = ((w.alloc A).alloc B).alloc C) : WL.heap.size = w.heap.size + 3 ∧ Below w.heap.size w WL ∧ WL.heap[w.heap.size]? = some A ∧ WL.heap[w.heap.size + 1]? = some B ∧ WL.heap[w.heap.size + 2]? = some C := by
  subst h
  refine ⟨by simp, (((Below.refl _ w).alloc (Nat.le_refl _) _).alloc (by simp) _).alloc (by simp; omega) _, ?_, ?_, ?_⟩
  · rw [Below.heap_alloc _ _ _ (by simp; omega), Below.heap_alloc _ _ _ (by simp)]; exact alloc_top _ _
  · rw [Below.heap_alloc _ _ _ (by simp)]
    have := alloc_top (w.alloc A) B
    rwa [World.size_alloc] at this
  · have := alloc_top ((w.alloc A).alloc B) C
    rwa [World.size_alloc, World.size_alloc] at this

set_option maxRecDepth 100000 in
set_option maxHeartbeats 1000000 in
theorem copy_any (T : ValueD) : CopySays T := by
  induction T using ind with
  | h x x7 ih =>
    intro cs w hw h
    obtain ⟨x0, x1, x2, x3k, a7, c7, hT, rfl, f0, f1, f2, f7⟩ := value_open h
    cases hT
    have q7 : x7.length + wts x7 ≤ 1048576 := by simp [wt] at hw; omega
    have IH : Hid (∀ k ∈ x7, CopySays k) := ih
    have HF : Hid ((-9223372036854775808 ≤ x0 ∧ x0 ≤ 9223372036854775807) ∧ (-9223372036854775808 ≤ x1 ∧ x1 ≤ 9223372036854775807) ∧ x2.size ≤ maxLen) := ⟨f0, f1, f2⟩
    obtain ⟨a, cap, css, e7, hcap, hmax, hrow, hk⟩ := values_open f7
    cases e7
    have hmx : (x7.length : Int) ≤ 9223372036854775807 := by omega
    have HR : Hid (RowAt w (· < w.heap.size) 4 a7 x7.length css ∧ ∀ i (h : i < x7.length), valueSh.rep w (· < w.heap.size) (css i) x7[i]) := ⟨hrow, hk⟩
    have HW : Hid (x7.length + wts x7 ≤ 1048576) := q7
    obtain ⟨ti, hti, hzz⟩ := Option.map_eq_some_iff.1 infoV
    simp only [Prod.mk.injEq] at hzz
    obtain ⟨hz0, hz1, hz2⟩ := hzz
    have TI : Hid (Try.prog.info? 29 = some ti ∧ ti.zero = some (.agg #[.int .i64 0, .int .i64 0, .string ⟨#[]⟩, .slice none 0 0]) ∧ ti.size = 4 ∧ ti.bytes = 56) := ⟨hti, hz0, hz1, hz2⟩
    clear h hw ih f0 f1 f2 f7 hcap hmax hrow hk q7 hti hz0 hz1 hz2
    go_enter Try.func15, Try.ntmps15
    go_wp2
    go_loopw [4] (fun v4 wr => ∃ (i : Nat) (v : Value), i ≤ x7.length ∧ v4 = .int .i64 i ∧ Hid (Mid w wr #[.int .i64 x0, .int .i64 x1, .string x2, .slice a7 x7.length c7] (w.heap.size + 2) x0 x1 x2 v (x7.take i))) (fun v4 _ => x7.length - (intOf v4).toNat)
    case atStart =>
      obtain ⟨z1, z2, z3, z4, z5⟩ := three w _ _ _ _ rfl
      exact ⟨0, .slice none 0 0, Nat.zero_le _, rfl, ⟨z2, z3, z4, z5, Grown.nil _ _ _ _⟩⟩
    case round =>
      obtain ⟨i, v, hi, rfl, HM⟩ := hrel
      have k10 := blk_cell (i := 3) HM.out.box rfl
      by_cases hlt : i < x7.length
      · obtain ⟨b, o, rfl, hS, hc⟩ := HR.out.1 i hlt
        have hrep := HR.out.2 i hlt
        obtain ⟨v0, v1, v2, v3, hcs, c0, c1, c2, c3⟩ := value_cells hrep hc
        have HB := HM.out.bel
        have e0 := (HB.cell (p := ⟨b, o + i * 4, none⟩) hS).trans c0
        have e1 := (HB.cell (p := ⟨b, o + i * 4 + 1, none⟩) hS).trans c1
        have e2 := (HB.cell (p := ⟨b, o + i * 4 + 2, none⟩) hS).trans c2
        have e3 := (HB.cell (p := ⟨b, o + i * 4 + 3, none⟩) hS).trans c3
        rw [hcs] at hrep
        have hR := valueSh.mono (valueSh.below hrep HB.drew) (S' := (· < wr.drew.heap.size)) (fun b hb => Nat.lt_of_lt_of_le hb HB.size)
        have hcall := IH.out x7[i] (List.getElem_mem hlt) [v0, v1, v2, v3] wr.drew (by have := wts_take hlt; have := wts_take_le x7 (i + 1); have := HW.out; omega) hR
        have g4 : wr.cell? ⟨w.heap.size + 1 + 1, 3, none⟩ = some v := blk_cell (i := 3) HM.out.out rfl
        have hz3 : w.heap.size + 3 ≤ wr.heap.size := by have := (Array.getElem?_eq_some_iff.1 HM.out.out).1; omega
        obtain ⟨av, cv, hv⟩ := HM.out.grown.slice
        have HV : Hid (v = .slice av (x7.take i).length cv) := hv
        clear hv
        obtain ⟨cssG, FG, grow, grep, gin, gap⟩ := HM.out.grown
        have hlen : (x7.take i).length = i := by rw [List.length_take]; omega
        rw [hlen] at grow
        have GR : Hid (wr.ownsRow (w.heap.size + 3) 29 4 v i (flat cssG i)) := grow
        have GP : Hid ((∀ j (h : j < (x7.take i).length), valueSp.rep wr (FG j) (cssG j) (x7.take i)[j]) ∧ (∀ j, j < (x7.take i).length → ∀ b, FG j b → w.heap.size + 3 ≤ b ∧ b < wr.heap.size ∧ v.ownBlock ≠ some b) ∧ ∀ j l, j < (x7.take i).length → l < (x7.take i).length → j ≠ l → ∀ b, FG j b → ¬ FG l b) := ⟨grep, gin, gap⟩
        have HOB : Hid (∀ g, v.ownBlock = some g → w.heap.size + 3 ≤ g ∧ g < wr.heap.size) := fun g hg => HM.out.grown.own hg
        clear hrep hcs hc c0 c1 c2 c3 hR HB grow grep gin gap
        go_wp2_with fail
        go_region_law
          (first
            | (refine step_append_own rfl _ _ 27 rfl (w.heap.size + 3) 29 ti _ 4 56 Try.underlying27 TI.out.1 TI.out.2.1 TI.out.2.2.1 TI.out.2.2.2 rfl (by decide) v i _ (by simp [Act.eval, HV.out]) RA.out ⟨w1.heap.size, 0, none⟩ 1 1 [n0, n1, n2, n3] rfl rfl (cells_new _ _ _ _ rfl) ON.out (by unfold maxLen; have := HW.out; omega) (by have := HW.out; omega) (by have := Z1.out; simp; omega) ?_; intro ua ul uc w3 hown3 hgrow3 hat3
               have hO3 : w3.heap[w.heap.size + 2]? = some (.cells #[.int .i64 x0, .int .i64 x1, .string x2, v] 29) := (hgrow3.block (w.heap.size + 2) (by have := Z1.out; simp; omega) (fun e => by have := (HOB.out _ e.symm).1; omega)).trans ((Below.heap_alloc _ _ _ (by have := Z1.out; omega)).trans O1.out)
               have y0 : w3.cell? ⟨w.heap.size + 1 + 1, 3, none⟩ = some v := blk_cell (i := 3) hO3 rfl
               have y1 : w3.frozen? ⟨w.heap.size + 1 + 1, 3, none⟩ = false := blk_free (i := 3) hO3)
            | (refine step_call rfl 15 entC _ _ rfl _ _ hcall (by simp [Act.eval]) ?_; rintro e w1 ⟨⟨cs', rfl, hrep'⟩, hb⟩
               obtain ⟨n0, n1, n2, n3, rfl⟩ := value_list (valuep_rep hrep')
               have ON : Hid (∀ u ∈ [n0, n1, n2, n3], u.oneCell' = true) := valueSp.one hrep'
               have on0 := ON.out n0 (by simp)
               have on1 := ON.out n1 (by simp)
               have on2 := ON.out n2 (by simp)
               have on3 := ON.out n3 (by simp)
               have Z1 : Hid (wr.heap.size ≤ w1.heap.size ∧ w.heap.size + 3 ≤ w1.heap.size) := ⟨hb.size, Nat.le_trans hz3 hb.size⟩
               have O1 : Hid (w1.heap[w.heap.size + 2]? = some (.cells #[.int .i64 x0, .int .i64 x1, .string x2, v] 29)) := (hb.block _ (show w.heap.size + 2 < wr.heap.size by omega)).trans HM.out.out
               have g4' : w1.cell? ⟨w.heap.size + 1 + 1, 3, none⟩ = some v := blk_cell (i := 3) O1.out rfl
               have g4'' : ∀ o', (w1.alloc o').cell? ⟨w.heap.size + 1 + 1, 3, none⟩ = some v := fun o' => (((Below.refl _ w1).alloc (Nat.le_refl _) o').cell (p := ⟨w.heap.size + 1 + 1, 3, none⟩) (by have := Z1.out; show w.heap.size + 1 + 1 < _; omega)).trans g4'
               have RA : Hid ((w1.alloc (.cells #[n0, n1, n2, n3] 29)).ownsRow (w.heap.size + 3) 29 4 v i (flat cssG i)) := by
                 obtain ⟨hl, hv⟩ := GR.out
                 refine ⟨hl, ?_⟩
                 rcases hv with h0 | ⟨g, cap, cur, h1, h2, h3, h4⟩
                 · exact Or.inl h0
                 · have hg := (Array.getElem?_eq_some_iff.1 h3).1
                   exact Or.inr ⟨g, cap, cur, h1, h2, by rw [Below.heap_alloc _ _ _ (Nat.lt_of_lt_of_le hg Z1.out.1), hb.block g hg]; exact h3, h4⟩
               refine ⟨_, rfl, ?_⟩))
        all_goals
          have NX : Hid (Mid w (w3.setCell ⟨w.heap.size + 1 + 1, 3, none⟩ (.slice ua ul uc)) #[.int .i64 x0, .int .i64 x1, .string x2, .slice (some ⟨b, o, none⟩) x7.length c7] (w.heap.size + 2) x0 x1 x2 (.slice ua ul uc) (x7.take (i + 1))) := by
            have hA : Below w1.heap.size w1 (w1.alloc (.cells #[n0, n1, n2, n3] 29)) := (Below.refl _ _).alloc (Nat.le_refl _) _
            have hb' : Below wr.heap.size wr w1 := (Below.refl _ wr).drew.trans hb
            have hle : wr.heap.size ≤ w1.heap.size := Z1.out.1
            have hle2 := Z1.out.2
            have same : ∀ q, q < wr.heap.size → (∀ g, v.ownBlock = some g → q ≠ g) → w3.heap[q]? = wr.heap[q]? := fun q hq hn => (hgrow3.block q (by simp; omega) (fun e => hn q e.symm rfl)).trans ((hA.block q (by omega)).trans (hb'.block q hq))
            have sz : w1.heap.size + 1 ≤ w3.heap.size := by have := hgrow3.size; simpa using this
            have G3 : Grown valueSp 29 w3 (w.heap.size + 3) (.slice ua ul uc) (x7.take i ++ [x7[i]]) := by
              refine Grown.push (w := wr) (w1 := w1.alloc (.cells #[n0, n1, n2, n3] 29)) (css := cssG) (F := FG) (v := v) (lo := wr.heap.size) (hi := w1.heap.size) (cs := [n0, n1, n2, n3]) (fun j hj => valueSp.on (GP.out.1 j hj) fun q hq => (hA.block q (by have := (GP.out.2.1 j hj q hq).2.1; omega)).trans (hb'.block q (GP.out.2.1 j hj q hq).2.1)) GP.out.2.1 GP.out.2.2 (fun g hg => (HOB.out g hg).2) (valueSp.on hrep' fun q hq => hA.block q hq.2) (by omega) (by omega) (by simp) ?_ hgrow3 hat3
              rw [hlen]
              exact hown3
            have hers : x7.take (i + 1) = x7.take i ++ [x7[i]] := List.take_succ_eq_append_getElem hlt
            refine ⟨?_, ?_, ?_, ?_, ?_⟩
            · refine Below.setCell ?_ (by simp; omega) _
              refine ((HM.out.bel.trans (hb'.mono (by omega))).trans (hA.mono (by omega))).grown hgrow3 (by simp; omega) (fun g hg => by have := (HOB.out g hg).1; omega)
            · rw [Below.heap_setCell _ _ _ _ (by simp; omega)]
              exact (same _ (by omega) (fun g hg => by have := (HOB.out g hg).1; omega)).trans HM.out.box
            · rw [Below.heap_setCell _ _ _ _ (by simp)]
              exact (same _ (by omega) (fun g hg => by have := (HOB.out g hg).1; omega)).trans HM.out.res
            · simp [World.setCell, Array.getElem?_modify, hO3]
            · rw [hers]
              exact G3.on (by simp [World.setCell]) fun q h1 h2 => Below.heap_setCell _ _ _ _ (by simp; omega)
          clear hown3 hgrow3 hat3 hO3 y0 y1 hrep' hb g4 g4' g4'' O1 RA ON Z1 e0 e1 e2 e3 hcall on0 on1 on2 on3
          go_wp2
          go_round
          case rel => exact ⟨i + 1, _, by omega, by go_num, NX⟩
          case measure => simp [intOf]; omega
      · obtain rfl : i = x7.length := by omega
        have HM' := HM.out
        rw [List.take_length] at HM'
        obtain ⟨av, cv, rfl⟩ := HM'.grown.slice
        have g0 : wr.cell? ⟨w.heap.size + 1 + 1, 0, none⟩ = some (.int .i64 x0) := blk_cell (i := 0) HM'.out rfl
        have g1 : wr.cell? ⟨w.heap.size + 1 + 1, 1, none⟩ = some (.int .i64 x1) := blk_cell (i := 1) HM'.out rfl
        have g2 : wr.cell? ⟨w.heap.size + 1 + 1, 2, none⟩ = some (.string x2) := blk_cell (i := 2) HM'.out rfl
        have g4 : wr.cell? ⟨w.heap.size + 1 + 1, 3, none⟩ = some (.slice av x7.length cv) := blk_cell (i := 3) HM'.out rfl
        have r0 : wr.cell? ⟨w.heap.size + 1, 0, none⟩ = some (.int .i64 0) := blk_cell (i := 0) HM'.res rfl
        have r1 : wr.cell? ⟨w.heap.size + 1, 1, none⟩ = some (.int .i64 0) := blk_cell (i := 1) HM'.res rfl
        have r2 : wr.cell? ⟨w.heap.size + 1, 2, none⟩ = some (.string ⟨#[]⟩) := blk_cell (i := 2) HM'.res rfl
        have r4 : wr.cell? ⟨w.heap.size + 1, 3, none⟩ = some (.slice none 0 0) := blk_cell (i := 3) HM'.res rfl
        have fr : ∀ o, wr.frozen? ⟨w.heap.size + 1, o, none⟩ = false := fun o => blk_free HM'.res
        have HS := HM'.grown.sslice (by decide)
        have hB := HM'.bel
        have hz : w.heap.size + 3 ≤ wr.heap.size := by have := (Array.getElem?_eq_some_iff.1 HM'.out).1; omega
        have HH : Hid (valueSp.sslice.rep wr (fun b => w.heap.size + 3 ≤ b ∧ b < wr.heap.size) [.slice av x7.length cv] x7 ∧ Below w.heap.size w wr ∧ w.heap.size + 3 ≤ wr.heap.size) := ⟨HS, hB, hz⟩
        clear HS hB hz HM' HM
        go_wp2
        refine bodyPost_ret (v := .agg #[.int .i64 x0, .int .i64 x1, .string x2, .slice av x7.length cv]) (by simp [results, Try.f15, go_sem, r0, r1, r2, r4]) rfl ?_
        obtain ⟨HS, hB, hz⟩ := HH.out
        refine ⟨⟨[.int .i64 x0, .int .i64 x1, .string x2, .slice av x7.length cv], by rfl, ?_⟩, ?_⟩
        · exact valuep_shut HF.out.1 HF.out.2.1 HF.out.2.2 (valueSp.sslice.mono (valueSp.sslice.on HS fun b hS => by repeat rw [Below.heap_setCell _ _ _ _ (by simp; omega)]) fun b hS => ⟨by omega, by simp [World.setCell]; exact hS.2⟩)
        · repeat first | with_reducible exact hB | (refine Below.setCell ?_ (by first | (simp; done) | (simp; omega)) _)

end Go.Proofs.Ytdfpihnddclccaa.value

/-
  The model's l3Pat, from what l3PatAtom says.
-/
import Derived.Test.YtlnpfnglphdaiaaGreatDoorB1
import Derived.Test.YtlnpfnglphdaiaaGreatDoorB2
import Derived.Test.YtlnpfnglphdaiaaGreatDoorB3
import Derived.Test.YtlnpfnglphdaiaaGreatDoorB4
import Derived.Test.YtlnpfnglphdaiaaGreatDoorB5
import Derived.Test.YtlnpfnglphdaiaaGreatDoorB6
import Derived.Test.YtlnpfnglphdaiaaGreatDoorB7
import Derived.Test.YtlnpfnglphdaiaaGreatDoorB8
import Derived.Test.YtlnpfnglphdaiaaGreatDoorB9
import Derived.Test.YtlnpfnglphdaiaaGreatDoorB10
import Derived.Test.YtlnpfnglphdaiaaGreatDoorB11
import Derived.Test.YtlnpfnglphdaiaaGreatDoorB12
import Derived.Test.YtlnpfnglphdaiaaGreatDoorB13
import Derived.Test.YtlnpfnglphdaiaaGreatDoorB14
import Derived.Test.YtlnpfnglphdaiaaGreatDoorB15
import Derived.Test.YtlnpfnglphdaiaaGreatDoorB16
import Derived.Test.YtlnpfnglphdaiaaGreatDoorB17
import Derived.Test.YtlnpfnglphdaiaaGreatDoorB18
import Derived.Test.YtlnpfnglphdaiaaGreatDoorB19
import Derived.Test.YtlnpfnglphdaiaaGreatDoorB20
import Derived.Test.YtlnpfnglphdaiaaGreatDoorB21
import Derived.Test.YtlnpfnglphdaiaaGreatDoorB22
namespace Go.Proofs.YtlnpfnglphdaiaaGreatDoor.tok
open Go Go.RowKit Go.Deep Go.Proofs.YtlnpfnglphdaiaaGreatDoor.rose Go.Proofs.YtlnpfnglphdaiaaGreatDoor
set_option linter.unusedVariables false
set_option linter.unusedSimpArgs false

theorem entPA : Enters Tryz.prog 97 := enters_of Tryz.func97 (by kernel_rfl) rfl

/-- What another function gave is the answer. -/
theorem through {E : Env} {w w0 w1 w' : World} {Z : Obj} {cs : List Value} {T : node.Nd} {at_ at' : Nat} {bad bad' : Int} (hp0 : w0.heap[w.heap.size]? = some Z) (h : St E w at_ bad) (b0 : Below w.heap.size w w0)
    (hr : node.ndSh.rep w1 (fun b => w0.heap.size ≤ b ∧ b < w1.heap.size) cs T) (hs : St E w1 at' bad') (hg : w0.grownBy w1 (some E.cb)) (hle : at_ ≤ at') (hx : 0 ≤ bad' ∨ (bad' = bad ∧ at_ < at' ∧ node.wt T + 2 ≤ 10 * (at' - at_)))
    (hg' : w1.grownBy w' (some w.heap.size)) : Nodes E w at_ bad (.returned (.agg cs.toArray)) w' := by
  have hc := h.cblt
  have ht := h.top
  have h1 := (Array.getElem?_eq_some_iff.1 hp0).1
  have z1 := hg.size
  have z2 := hg'.size
  refine ⟨at', bad', cs, T, rfl, node.ndSh.mono (node.ndSh.on hr fun b hS => hg'.block b hS.2 fun e => by simp only [Option.some.injEq] at e; omega) fun b hS => ⟨by omega, by omega⟩, hs.keep z2 fun b hS => hg'.block b ?_ fun e => ?_, ⟨hg'.os.trans (hg.os.trans b0.os), hg'.tape.trans (hg.tape.trans b0.tape), hg'.output.trans (hg.output.trans b0.output), by omega, fun q hq hn => (hg'.block q (by omega) fun e => by simp only [Option.some.injEq] at e; omega).trans ((hg.block q (by omega) hn).trans (b0.block q hq))⟩, hle, hx⟩
  · rcases hS with hS | hS | rfl
    · have := (h.ns b hS).1; omega
    · omega
    · omega
  · simp only [Option.some.injEq] at e
    rcases hS with hS | hS | hS
    · have := (h.ns _ hS).1; omega
    · omega
    · omega

set_option maxRecDepth 100000 in
set_option maxHeartbeats 8000000 in
theorem pat_of (E : Env) (N : Nat) (HE : ∀ w at_ bad, St E w at_ bad → E.toks.length - at_ ≤ N → Calls Tryz.prog 97 #[.pointer (some ⟨E.cb, 0, none⟩)] w (Nodes E w at_ bad))
    (w : World) (at_ : Nat) (bad : Int) (h : St E w at_ bad) (hN : E.toks.length - at_ ≤ N) :
    Calls Tryz.prog 87 #[.pointer (some ⟨E.cb, 0, none⟩)] w (Nodes E w at_ bad) := by
  have HEE : Hid (∀ w at_ bad, St E w at_ bad → E.toks.length - at_ ≤ N → Calls Tryz.prog 97 #[.pointer (some ⟨E.cb, 0, none⟩)] w (Nodes E w at_ bad)) := HE
  have HS : Hid (St E w at_ bad) := h
  have HLT : Hid (E.toks.length - at_ ≤ N ∧ E.toks.length ≤ 3001) := ⟨hN, h.len⟩
  obtain ⟨w0, hw0⟩ : ∃ w0, w0 = w.alloc (.cells #[.int .i64 0, .int .i64 0, .string ⟨#[]⟩, .string ⟨#[]⟩, .slice none 0 0] 36) := ⟨_, rfl⟩
  have HW0 : Hid (w0 = w.alloc (.cells #[.int .i64 0, .int .i64 0, .string ⟨#[]⟩, .string ⟨#[]⟩, .slice none 0 0] 36)) := hw0
  have b0 : Below w.heap.size w w0 := by rw [hw0]; exact (Below.refl _ _).alloc (Nat.le_refl _) _
  have B0 : Hid (Below w.heap.size w w0) := b0
  have P0 : Hid (w0.heap[w.heap.size]? = some (.cells #[.int .i64 0, .int .i64 0, .string ⟨#[]⟩, .string ⟨#[]⟩, .slice none 0 0] 36)) := by show _ = _; rw [hw0]; exact alloc_top _ _
  have hz0 : w0.heap.size = w.heap.size + 1 := by rw [hw0]; simp
  have hcb := h.cblt
  obtain ⟨ti, hti, hzz⟩ := Option.map_eq_some_iff.1 infoNd
  simp only [Prod.mk.injEq] at hzz
  obtain ⟨hi0, hi1, hi2⟩ := hzz
  have TI : Hid (Tryz.prog.info? 36 = some ti ∧ ti.zero = some (.agg #[.int .i64 0, .int .i64 0, .string ⟨#[]⟩, .string ⟨#[]⟩, .slice none 0 0]) ∧ ti.size = 5 ∧ ti.bytes = 72) := ⟨hti, hi0, hi1, hi2⟩
  clear hti hi0 hi1 hi2
  have HX := con_any E w0 at_ bad (h.on b0)
  clear hw0 HE h hN b0
  go_enter Tryz.func87, Tryz.ntmps87
  go_wp2_with fail
  rw [← HW0.out]
  refine HX.mono ?_
  rintro e w1 ⟨⟨b, rfl, hb⟩, hB⟩
  have B1 : Hid (Below w.heap.size w w1) := B0.out.trans (hB.mono (by omega))
  have S1 : Hid (St E w1 at_ bad) := HS.out.on B1.out
  have P1 : Hid (w1.heap[w.heap.size]? = some (.cells #[.int .i64 0, .int .i64 0, .string ⟨#[]⟩, .string ⟨#[]⟩, .slice none 0 0] 36)) := (hB.block _ (by omega)).trans P0.out
  have hz1 : w.heap.size < w1.heap.size := by have := hB.size; omega
  clear hB HX B0 P0
  cases b with
  | false =>
    clear hb
    have HX := HEE.out w1 at_ bad S1.out HLT.out.1
    go_wp2_with fail
    refine HX.mono ?_
    rintro e w2 ⟨at2, bad2, cs, T, rfl, hrep, S2, g2, hle2, hx2⟩
    obtain ⟨u0, u1, u2, u3, ua, uc, uk, hTT, rfl, -, -, -⟩ := node.nd_open hrep
    clear hTT
    have P2 : Hid (w2.heap[w.heap.size]? = some (.cells #[.int .i64 0, .int .i64 0, .string ⟨#[]⟩, .string ⟨#[]⟩, .slice none 0 0] 36)) := (g2.block _ hz1 fun e => by simp only [Option.some.injEq] at e; omega).trans P1.out
    have r0 : w2.cell? ⟨w.heap.size, 0, none⟩ = some (.int .i64 0) := blk_cellP (i := 0) P2.out rfl
    have r1 : w2.cell? ⟨w.heap.size, 1, none⟩ = some (.int .i64 0) := blk_cellP (i := 1) P2.out rfl
    have r2 : w2.cell? ⟨w.heap.size, 2, none⟩ = some (.string ⟨#[]⟩) := blk_cellP (i := 2) P2.out rfl
    have r3 : w2.cell? ⟨w.heap.size, 3, none⟩ = some (.string ⟨#[]⟩) := blk_cellP (i := 3) P2.out rfl
    have r4 : w2.cell? ⟨w.heap.size, 4, none⟩ = some (.slice none 0 0) := blk_cellP (i := 4) P2.out rfl
    have fr : ∀ o, w2.frozen? ⟨w.heap.size, o, none⟩ = false := fun o => blk_freeP P2.out
    have HT : Hid (∀ w', w2.grownBy w' (some w.heap.size) → Nodes E w at_ bad (.returned (.agg [.int .i64 u0, .int .i64 u1, .string u2, .string u3, .slice ua uk.length uc].toArray)) w') := fun w' hg' => through P1.out HS.out B1.out hrep S2 g2 hle2 hx2 hg'
    clear HX hrep S2 g2 hle2 hx2
    go_wp2
    refine bodyPost_ret (v := .agg #[.int .i64 u0, .int .i64 u1, .string u2, .string u3, .slice ua uk.length uc]) (by simp [results, Tryz.f87, go_sem, r0, r1, r2, r3, r4]) rfl ?_
    refine HT.out _ ?_
    repeat first | exact grown_self _ _ | (refine grown_by_by ?_ (grown_setP _ _ _ _))
  | true =>
    clear hb
    have HX := text3_any E w1 at_ bad S1.out true
    go_wp2_with fail
    refine HX.mono ?_
    rintro e w2 ⟨at2, bad2, t, rfl, ht, S2, g2, hle2, hx2⟩
    have K3 : Hid (Ks E w (w2.alloc (.cells #[.int .i64 20, .int .i64 0, .string t, .string ⟨#[]⟩, .slice none 0 0] 36)) w2.heap.size 20 t (.slice none 0 0) [] at_ bad at2 bad2) := by
      have b3 : Below w2.heap.size w2 (w2.alloc (.cells #[.int .i64 20, .int .i64 0, .string t, .string ⟨#[]⟩, .slice none 0 0] 36)) := (Below.refl _ _).alloc (Nat.le_refl _) _
      have z2 := g2.size
      refine ⟨S2.on b3, grown_by_below (grown_below_by B1.out g2) b3, (b3.block _ (by omega)).trans ((g2.block _ hz1 fun e => by simp only [Option.some.injEq] at e; omega).trans P1.out), alloc_top _ _, Grown.nil _ _ _ _, hcb, by omega, HS.out.top, fun b hb => (HS.out.ns b hb).1, hle2, ht, ?_⟩
      rcases hx2 with ⟨h1, h2⟩ | h2
      · exact .inr ⟨h2, by omega, by simp [node.wts]; omega⟩
      · exact .inl h2
    have hz2 : w.heap.size < w2.heap.size := by have := g2.size; omega
    clear HX S2 g2 hle2 hx2 ht
    go_wp2
    go_loopw [12] (fun _ wr => ∃ (v : Value) (xs : List node.Nd) (at' : Nat) (bad' : Int), Hid (Ks E w wr w2.heap.size 20 t v xs at_ bad at' bad')) (fun _ wr => msr E wr)
    case atStart => exact ⟨_, [], at2, bad2, K3⟩
    case round =>
      clear K3
      obtain ⟨v, xs, at', bad', HK⟩ := hrel
      have HM : Hid (msr E wr = 2 * (E.toks.length - at') + (if bad' < 0 then 1 else 0)) := HK.out.st.msr
      have HX := atomic_any E wr at' bad' HK.out.st
      go_wp2_with fail
      refine HX.mono ?_
      rintro e w3 ⟨⟨b, rfl, hb⟩, hB⟩
      have K3 : Hid (Ks E w w3 w2.heap.size 20 t v xs at_ bad at' bad') := HK.out.step hB
      clear hB HX
      cases b with
      | true =>
        have HBD : Hid (bad' < 0 ∧ at' + 1 < E.toks.length) := hb rfl
        clear hb
        obtain ⟨av, cv, hv⟩ := K3.out.grown.slice
        have HV : Hid (v = .slice av xs.length cv) := hv
        clear hv
        obtain ⟨cssG, FG, grow, grep, gin, gap⟩ := K3.out.grown
        have GR : Hid (w3.ownsRow (w2.heap.size + 1) 36 5 v xs.length (flat cssG xs.length)) := grow
        have GP : Hid ((∀ j (h : j < xs.length), node.ndSh.rep w3 (FG j) (cssG j) xs[j]) ∧ (∀ j, j < xs.length → ∀ b, FG j b → w2.heap.size + 1 ≤ b ∧ b < w3.heap.size ∧ v.ownBlock ≠ some b) ∧ ∀ j l, j < xs.length → l < xs.length → j ≠ l → ∀ b, FG j b → ¬ FG l b) := ⟨grep, gin, gap⟩
        have HOB : Hid (∀ g, v.ownBlock = some g → w2.heap.size + 1 ≤ g ∧ g < w3.heap.size) := fun g hg => K3.out.grown.own hg
        have hab : w2.heap.size < w3.heap.size := K3.out.ablt
        have g4 : w3.cell? ⟨w2.heap.size, 4, none⟩ = some v := blk_cellP (i := 4) K3.out.acc rfl
        have HLN : Hid (xs.length ≤ 30010) := by
          rcases K3.out.hx with h | ⟨-, h, h'⟩
          · have := HBD.out.1; omega
          · have := HLT.out.2; have := HBD.out.2; show _ ≤ _; omega
        have hcall := HEE.out w3.drew at' bad' (K3.out.st.on (Below.refl _ _).drew) (by have := HLT.out; have := K3.out.le; omega)
        clear grow grep gin gap
        go_wp2_with fail
        go_region_law
          (first
            | (refine step_append_own rfl _ _ 34 rfl (w2.heap.size + 1) 36 ti _ 5 72 Tryz.underlying34 TI.out.1 TI.out.2.1 TI.out.2.2.1 TI.out.2.2.2 rfl (by decide) v xs.length _ (by first | (simp [Act.eval, HV.out]; done) | (simp [Act.eval, Act.put, HV.out]; done)) RA.out ⟨w5.heap.size, 0, none⟩ 1 1 [.int .i64 u0, .int .i64 u1, .string u2, .string u3, .slice ua uk.length uc] rfl rfl (cells_new _ _ _ _ rfl) (by simp [Value.oneCell']) (by unfold maxLen; have := HLN.out; omega) (by have := HLN.out; omega) (by have := Z1.out; simp; omega) ?_; intro qa ql qc w6 hown6 hgrow6 hat6
               have hO6 : w6.heap[w2.heap.size]? = some (.cells #[.int .i64 20, .int .i64 0, .string t, .string ⟨#[]⟩, v] 36) := (hgrow6.block w2.heap.size (by have := Z1.out; simp; omega) (fun e => by have := (HOB.out _ e.symm).1; omega)).trans ((Below.heap_alloc _ _ _ (by have := Z1.out; omega)).trans O1.out)
               have y0 : w6.cell? ⟨w2.heap.size, 4, none⟩ = some v := blk_cellP (i := 4) hO6 rfl
               have y1 : w6.frozen? ⟨w2.heap.size, 4, none⟩ = false := blk_freeP (i := 4) hO6)
            | (refine step_call rfl 97 entPA _ _ rfl _ _ hcall (by first | (simp [Act.eval]; done) | (simp [Act.eval, Act.put]; done) | rfl) ?_; rintro e w5 ⟨at5, bad5, cs, T, rfl, hrep, S5, g5, hle5, hx5⟩
               obtain ⟨u0, u1, u2, u3, ua, uc, uk, hTT, rfl, -, -, -⟩ := node.nd_open hrep
               clear hTT
               have Z1 : Hid (w3.heap.size ≤ w5.heap.size) := g5.size
               have O1 : Hid (w5.heap[w2.heap.size]? = some (.cells #[.int .i64 20, .int .i64 0, .string t, .string ⟨#[]⟩, v] 36)) := (g5.block _ hab fun e => by simp only [Option.some.injEq] at e; omega).trans K3.out.acc
               have g4' : w5.cell? ⟨w2.heap.size, 4, none⟩ = some v := blk_cellP (i := 4) O1.out rfl
               have g4'' : ∀ o', (w5.alloc o').cell? ⟨w2.heap.size, 4, none⟩ = some v := fun o' => (((Below.refl _ w5).alloc (Nat.le_refl _) o').cell (p := ⟨w2.heap.size, 4, none⟩) (by have := Z1.out; show w2.heap.size < _; omega)).trans g4'
               have RA : Hid ((w5.alloc (.cells #[.int .i64 u0, .int .i64 u1, .string u2, .string u3, .slice ua uk.length uc] 36)).ownsRow (w2.heap.size + 1) 36 5 v xs.length (flat cssG xs.length)) := by
                 obtain ⟨hl, hv⟩ := GR.out
                 refine ⟨hl, ?_⟩
                 rcases hv with h0 | ⟨g, cap, cur, h1, h2, h3, h4⟩
                 · exact Or.inl h0
                 · have hg := (Array.getElem?_eq_some_iff.1 h3).1
                   exact Or.inr ⟨g, cap, cur, h1, h2, by rw [Below.heap_alloc _ _ _ (Nat.lt_of_lt_of_le hg Z1.out), g5.block g hg fun e => by simp only [Option.some.injEq] at e; omega]; exact h3, h4⟩
               refine ⟨_, rfl, ?_⟩))
        all_goals
          have NX : Hid (Ks E w (w6.setCell ⟨w2.heap.size, 4, none⟩ (.slice qa ql qc)) w2.heap.size 20 t (.slice qa ql qc) (xs ++ [T]) at_ bad at5 bad5) :=
            K3.out.push (w1 := w5) (w2 := w5.alloc (.cells #[.int .i64 u0, .int .i64 u1, .string u2, .string u3, .slice ua uk.length uc] 36)) (cs := [.int .i64 u0, .int .i64 u1, .string u2, .string u3, .slice ua uk.length uc]) HBD.out.1 ⟨g5.os, g5.tape, g5.output, g5.size, g5.block⟩ S5 hle5 hx5 hrep ((Below.refl _ _).alloc (Nat.le_refl _) _) GP.out.1 GP.out.2.1 GP.out.2.2 HOB.out hown6 hgrow6 hat6 rfl
          have HM5 : Hid (at' ≤ at5 ∧ (0 ≤ bad5 ∨ at' < at5)) := ⟨hle5, by
            rcases hx5 with h | h
            · exact .inl h
            · exact .inr h.2.1⟩
          clear hown6 hgrow6 hat6 hO6 y0 y1 hrep S5 g5 hle5 hx5 g4 g4' g4'' O1 RA Z1 hcall
          go_wp2
          go_round
          case rel => exact ⟨_, _, at5, bad5, NX⟩
          case measure =>
            rw [NX.out.st.msr, HM.out]
            have h1 := HM5.out
            have h2 := HBD.out
            rw [if_pos h2.1]
            split <;> omega
      | false =>
        clear hb
        have HX := sign3_any E w3 at' bad' K3.out.st ⟨#[95]⟩
        go_wp2_with fail
        refine HX.mono ?_
        rintro e w4 ⟨⟨b, rfl, hb⟩, hB⟩
        have K4 : Hid (Ks E w w4 w2.heap.size 20 t v xs at_ bad at' bad') := K3.out.step hB
        clear hB HX
        cases b with
        | true =>
          have HBD : Hid (bad' < 0 ∧ at' + 1 < E.toks.length) := hb rfl
          clear hb
          obtain ⟨av, cv, hv⟩ := K4.out.grown.slice
          have HV : Hid (v = .slice av xs.length cv) := hv
          clear hv
          obtain ⟨cssG, FG, grow, grep, gin, gap⟩ := K4.out.grown
          have GR : Hid (w4.ownsRow (w2.heap.size + 1) 36 5 v xs.length (flat cssG xs.length)) := grow
          have GP : Hid ((∀ j (h : j < xs.length), node.ndSh.rep w4 (FG j) (cssG j) xs[j]) ∧ (∀ j, j < xs.length → ∀ b, FG j b → w2.heap.size + 1 ≤ b ∧ b < w4.heap.size ∧ v.ownBlock ≠ some b) ∧ ∀ j l, j < xs.length → l < xs.length → j ≠ l → ∀ b, FG j b → ¬ FG l b) := ⟨grep, gin, gap⟩
          have HOB : Hid (∀ g, v.ownBlock = some g → w2.heap.size + 1 ≤ g ∧ g < w4.heap.size) := fun g hg => K4.out.grown.own hg
          have hab : w2.heap.size < w4.heap.size := K4.out.ablt
          have g4 : w4.cell? ⟨w2.heap.size, 4, none⟩ = some v := blk_cellP (i := 4) K4.out.acc rfl
          have HLN : Hid (xs.length ≤ 30010) := by
            rcases K4.out.hx with h | ⟨-, h, h'⟩
            · have := HBD.out.1; omega
            · have := HLT.out.2; have := HBD.out.2; show _ ≤ _; omega
          have hcall := HEE.out w4.drew at' bad' (K4.out.st.on (Below.refl _ _).drew) (by have := HLT.out; have := K4.out.le; omega)
          clear grow grep gin gap
          go_wp2_with fail
          go_region_law
            (first
              | (refine step_append_own rfl _ _ 34 rfl (w2.heap.size + 1) 36 ti _ 5 72 Tryz.underlying34 TI.out.1 TI.out.2.1 TI.out.2.2.1 TI.out.2.2.2 rfl (by decide) v xs.length _ (by first | (simp [Act.eval, HV.out]; done) | (simp [Act.eval, Act.put, HV.out]; done)) RA.out ⟨w5.heap.size, 0, none⟩ 1 1 [.int .i64 u0, .int .i64 u1, .string u2, .string u3, .slice ua uk.length uc] rfl rfl (cells_new _ _ _ _ rfl) (by simp [Value.oneCell']) (by unfold maxLen; have := HLN.out; omega) (by have := HLN.out; omega) (by have := Z1.out; simp; omega) ?_; intro qa ql qc w6 hown6 hgrow6 hat6
                 have hO6 : w6.heap[w2.heap.size]? = some (.cells #[.int .i64 20, .int .i64 0, .string t, .string ⟨#[]⟩, v] 36) := (hgrow6.block w2.heap.size (by have := Z1.out; simp; omega) (fun e => by have := (HOB.out _ e.symm).1; omega)).trans ((Below.heap_alloc _ _ _ (by have := Z1.out; omega)).trans O1.out)
                 have y0 : w6.cell? ⟨w2.heap.size, 4, none⟩ = some v := blk_cellP (i := 4) hO6 rfl
                 have y1 : w6.frozen? ⟨w2.heap.size, 4, none⟩ = false := blk_freeP (i := 4) hO6)
              | (refine step_call rfl 97 entPA _ _ rfl _ _ hcall (by first | (simp [Act.eval]; done) | (simp [Act.eval, Act.put]; done) | rfl) ?_; rintro e w5 ⟨at5, bad5, cs, T, rfl, hrep, S5, g5, hle5, hx5⟩
                 obtain ⟨u0, u1, u2, u3, ua, uc, uk, hTT, rfl, -, -, -⟩ := node.nd_open hrep
                 clear hTT
                 have Z1 : Hid (w4.heap.size ≤ w5.heap.size) := g5.size
                 have O1 : Hid (w5.heap[w2.heap.size]? = some (.cells #[.int .i64 20, .int .i64 0, .string t, .string ⟨#[]⟩, v] 36)) := (g5.block _ hab fun e => by simp only [Option.some.injEq] at e; omega).trans K4.out.acc
                 have g4' : w5.cell? ⟨w2.heap.size, 4, none⟩ = some v := blk_cellP (i := 4) O1.out rfl
                 have g4'' : ∀ o', (w5.alloc o').cell? ⟨w2.heap.size, 4, none⟩ = some v := fun o' => (((Below.refl _ w5).alloc (Nat.le_refl _) o').cell (p := ⟨w2.heap.size, 4, none⟩) (by have := Z1.out; show w2.heap.size < _; omega)).trans g4'
                 have RA : Hid ((w5.alloc (.cells #[.int .i64 u0, .int .i64 u1, .string u2, .string u3, .slice ua uk.length uc] 36)).ownsRow (w2.heap.size + 1) 36 5 v xs.length (flat cssG xs.length)) := by
                   obtain ⟨hl, hv⟩ := GR.out
                   refine ⟨hl, ?_⟩
                   rcases hv with h0 | ⟨g, cap, cur, h1, h2, h3, h4⟩
                   · exact Or.inl h0
                   · have hg := (Array.getElem?_eq_some_iff.1 h3).1
                     exact Or.inr ⟨g, cap, cur, h1, h2, by rw [Below.heap_alloc _ _ _ (Nat.lt_of_lt_of_le hg Z1.out), g5.block g hg fun e => by simp only [Option.some.injEq] at e; omega]; exact h3, h4⟩
                 refine ⟨_, rfl, ?_⟩))
          all_goals
            have NX : Hid (Ks E w (w6.setCell ⟨w2.heap.size, 4, none⟩ (.slice qa ql qc)) w2.heap.size 20 t (.slice qa ql qc) (xs ++ [T]) at_ bad at5 bad5) :=
              K4.out.push (w1 := w5) (w2 := w5.alloc (.cells #[.int .i64 u0, .int .i64 u1, .string u2, .string u3, .slice ua uk.length uc] 36)) (cs := [.int .i64 u0, .int .i64 u1, .string u2, .string u3, .slice ua uk.length uc]) HBD.out.1 ⟨g5.os, g5.tape, g5.output, g5.size, g5.block⟩ S5 hle5 hx5 hrep ((Below.refl _ _).alloc (Nat.le_refl _) _) GP.out.1 GP.out.2.1 GP.out.2.2 HOB.out hown6 hgrow6 hat6 rfl
            have HM5 : Hid (at' ≤ at5 ∧ (0 ≤ bad5 ∨ at' < at5)) := ⟨hle5, by
              rcases hx5 with h | h
              · exact .inl h
              · exact .inr h.2.1⟩
            clear hown6 hgrow6 hat6 hO6 y0 y1 hrep S5 g5 hle5 hx5 g4 g4' g4'' O1 RA Z1 hcall
            go_wp2
            go_round
            case rel => exact ⟨_, _, at5, bad5, NX⟩
            case measure =>
              rw [NX.out.st.msr, HM.out]
              have h1 := HM5.out
              have h2 := HBD.out
              rw [if_pos h2.1]
              split <;> omega
        | false =>
          clear hb HM
          obtain ⟨av, cv, hv⟩ := K4.out.grown.slice
          subst hv
          have y0 : w4.cell? ⟨w2.heap.size, 0, none⟩ = some (.int .i64 20) := blk_cellP (i := 0) K4.out.acc rfl
          have y1 : w4.cell? ⟨w2.heap.size, 1, none⟩ = some (.int .i64 0) := blk_cellP (i := 1) K4.out.acc rfl
          have y2 : w4.cell? ⟨w2.heap.size, 2, none⟩ = some (.string t) := blk_cellP (i := 2) K4.out.acc rfl
          have y3 : w4.cell? ⟨w2.heap.size, 3, none⟩ = some (.string ⟨#[]⟩) := blk_cellP (i := 3) K4.out.acc rfl
          have y4 : w4.cell? ⟨w2.heap.size, 4, none⟩ = some (.slice av xs.length cv) := blk_cellP (i := 4) K4.out.acc rfl
          have r0 : w4.cell? ⟨w.heap.size, 0, none⟩ = some (.int .i64 0) := blk_cellP (i := 0) K4.out.res rfl
          have r1 : w4.cell? ⟨w.heap.size, 1, none⟩ = some (.int .i64 0) := blk_cellP (i := 1) K4.out.res rfl
          have r2 : w4.cell? ⟨w.heap.size, 2, none⟩ = some (.string ⟨#[]⟩) := blk_cellP (i := 2) K4.out.res rfl
          have r3 : w4.cell? ⟨w.heap.size, 3, none⟩ = some (.string ⟨#[]⟩) := blk_cellP (i := 3) K4.out.res rfl
          have r4 : w4.cell? ⟨w.heap.size, 4, none⟩ = some (.slice none 0 0) := blk_cellP (i := 4) K4.out.res rfl
          have fr : ∀ o, w4.frozen? ⟨w.heap.size, o, none⟩ = false := fun o => blk_freeP K4.out.res
          go_wp2
          refine bodyPost_ret (v := .agg #[.int .i64 20, .int .i64 0, .string t, .string ⟨#[]⟩, .slice av xs.length cv]) (by simp [results, Tryz.f87, go_sem, r0, r1, r2, r3, r4]) rfl ?_
          refine K4.out.done (by omega) ?_
          repeat first | exact grown_self _ _ | (refine grown_by_by ?_ (grown_setP _ _ _ _))

end Go.Proofs.YtlnpfnglphdaiaaGreatDoor.tok

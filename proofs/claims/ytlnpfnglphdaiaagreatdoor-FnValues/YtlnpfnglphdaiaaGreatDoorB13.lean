/-
  The model's l3Ty, from what it says with fewer tokens left, and from what l3TyAtom says.
-/
import Derived.Test.YtlnpfnglphdaiaaGreatDoorB1
import Derived.Test.YtlnpfnglphdaiaaGreatDoorB2
import Derived.Test.YtlnpfnglphdaiaaGreatDoorB3
import Derived.Test.YtlnpfnglphdaiaaGreatDoorB4
import Derived.Test.YtlnpfnglphdaiaaGreatDoorB5
import Derived.Test.YtlnpfnglphdaiaaGreatDoorB6
import Derived.Test.YtlnpfnglphdaiaaGreatDoorB7
import Derived.Test.YtlnpfnglphdaiaaGreatDoorB8
import Derived.Test.YtlnpfnglphdaiaaGreatDoorB9
import Derived.Test.YtlnpfnglphdaiaaGreatDoorB10
import Derived.Test.YtlnpfnglphdaiaaGreatDoorB11
import Derived.Test.YtlnpfnglphdaiaaGreatDoorB12
namespace Go.Proofs.YtlnpfnglphdaiaaGreatDoor.tok
open Go Go.RowKit Go.Deep Go.Proofs.YtlnpfnglphdaiaaGreatDoor.rose Go.Proofs.YtlnpfnglphdaiaaGreatDoor
set_option linter.unusedVariables false
set_option linter.unusedSimpArgs false

theorem tpair_rep {W : World} {S : Nat → Prop} {q : Nat} {t : TypeId} {a0 a1 a2 a3 b0 b1 b2 b3 : Value} {T T2 : ty.TyD} (hb : W.heap[q]? = some (.cells #[a0, a1, a2, a3, b0, b1, b2, b3] t)) (hq : S q)
    (h1 : ty.tySh.rep W S [a0, a1, a2, a3] T) (h2 : ty.tySh.rep W S [b0, b1, b2, b3] T2) : ty.tySh.slice.rep W S [.slice (some ⟨q, 0, none⟩) [T, T2].length 2] [T, T2] := by
  refine ⟨some ⟨q, 0, none⟩, 2, fun i => if i = 0 then [a0, a1, a2, a3] else [b0, b1, b2, b3], rfl, Nat.le_refl _, by decide, (fun h => by cases h), fun i hi => ⟨q, 0, rfl, hq, fun j u hj => ?_⟩, fun i hi => ?_⟩
  · match i, hi with
    | 0, _ =>
      match j, hj with
      | 0, hj | 1, hj | 2, hj | 3, hj => cases hj; simp [World.cell?, hb]
    | 1, _ =>
      match j, hj with
      | 0, hj => cases hj; show W.cell? ⟨q, 4, none⟩ = _; simp [World.cell?, hb]
      | 1, hj => cases hj; show W.cell? ⟨q, 5, none⟩ = _; simp [World.cell?, hb]
      | 2, hj => cases hj; show W.cell? ⟨q, 6, none⟩ = _; simp [World.cell?, hb]
      | 3, hj => cases hj; show W.cell? ⟨q, 7, none⟩ = _; simp [World.cell?, hb]
  · match i, hi with
    | 0, _ => exact h1
    | 1, _ => exact h2

theorem tpair_wt (op : Int) (T T2 : ty.TyD) : ty.wt (.mk (op, 0, ⟨#[]⟩) [T, T2]) = 2 + (ty.wt T + ty.wt T2) := by
  rw [ty.wt, ty.wts, ty.wts, ty.wts]
  show 0 + (2 + (ty.wt T + (ty.wt T2 + 0))) = _
  omega

set_option maxRecDepth 100000 in
set_option maxHeartbeats 8000000 in
theorem ty_of (E : Env) (N : Nat) (HY : GTold 96 tyP ty.wt E fun at_ => E.toks.length - at_ < N) (HA : GTold 86 tyP ty.wt E fun at_ => E.toks.length - at_ ≤ N) (w : World) (at_ : Nat) (bad : Int) (h : St E w at_ bad) (hN : E.toks.length - at_ ≤ N) :
    Calls Tryz.prog 96 #[.pointer (some ⟨E.cb, 0, none⟩)] w (Gives tyP ty.wt E w at_ bad) := by
  obtain ⟨ti, hti, hzz⟩ := Option.map_eq_some_iff.1 infoTyP
  simp only [Prod.mk.injEq] at hzz
  obtain ⟨hi0, hi1, hi2⟩ := hzz
  have TI : Hid (Tryz.prog.info? 145 = some ti ∧ ti.zero = some (.agg #[.int .i64 0, .int .i64 0, .string ⟨#[]⟩, .slice none 0 0]) ∧ ti.size = 4 ∧ ti.bytes = 56) := ⟨hti, hi0, hi1, hi2⟩
  clear hti hi0 hi1 hi2
  have HY' : Hid _ := HY
  have HA' : Hid _ := HA
  have HS : Hid (St E w at_ bad) := h
  have HN : Hid (E.toks.length - at_ ≤ N) := hN
  obtain ⟨w0, hw0⟩ : ∃ w0, w0 = w.alloc (.cells #[.int .i64 0, .int .i64 0, .string ⟨#[]⟩, .slice none 0 0] 145) := ⟨_, rfl⟩
  have HW0 : Hid (w0 = w.alloc (.cells #[.int .i64 0, .int .i64 0, .string ⟨#[]⟩, .slice none 0 0] 145)) := hw0
  have C0 : Hid (Gx (.cells #[.int .i64 0, .int .i64 0, .string ⟨#[]⟩, .slice none 0 0] 145) E w w0 at_ bad) := Gx.start h hw0
  clear hw0 HY HA h hN
  go_enter Tryz.func96, Tryz.ntmps96
  have HLT : Hid (at_ < E.toks.length ∧ E.toks.length - at_ ≤ N) := ⟨HS.out.lt, HN.out⟩
  obtain ⟨w1, hw1⟩ : ∃ x, x = w0.alloc (.cells #[.int .i64 0, .int .i64 0, .string ⟨#[]⟩, .slice none 0 0] 145) := ⟨_, rfl⟩
  have HW1 : Hid (w1 = w0.alloc (.cells #[.int .i64 0, .int .i64 0, .string ⟨#[]⟩, .slice none 0 0] 145)) := hw1
  have hB : Below w0.heap.size w0 w1 := by rw [hw1]; exact (Below.refl _ _).alloc (Nat.le_refl _) _
  have z0 : w0.heap.size = w.heap.size + 1 := by rw [HW0.out]; simp
  have AB1 : Hid (w1.heap[w.heap.size + 1]? = some (.cells #[.int .i64 0, .int .i64 0, .string ⟨#[]⟩, .slice none 0 0] 145)) := by show _ = _; rw [← z0, hw1]; exact alloc_top _ _
  have C1 : Hid (Gx (.cells #[.int .i64 0, .int .i64 0, .string ⟨#[]⟩, .slice none 0 0] 145) E w w1 at_ bad) := C0.out.on hB
  clear hB hw1
  have HX := con_any E w1 at_ bad C1.out.st
  go_wp2_with fail
  rw [← HW0.out, ← HW1.out]
  refine HX.mono ?_
  rintro e w2 ⟨⟨b, rfl, hb⟩, hB⟩
  have C2 : Hid (Gx (.cells #[.int .i64 0, .int .i64 0, .string ⟨#[]⟩, .slice none 0 0] 145) E w w2 at_ bad) := C1.out.on hB
  have AB2 : Hid (w2.heap[w.heap.size + 1]? = some (.cells #[.int .i64 0, .int .i64 0, .string ⟨#[]⟩, .slice none 0 0] 145)) := (hB.block _ (Array.getElem?_eq_some_iff.1 AB1.out).1).trans AB1.out
  clear hB HX AB1
  cases b with
  | true =>
    clear hb
    have HX := text3_any E w2 at_ bad C2.out.st true
    go_wp2_with fail
    refine HX.mono ?_
    rintro e w5 ⟨at5, bad5, t, rfl, ht, S, g, hle, hx⟩
    have C5 : Hid (Gx (.cells #[.int .i64 0, .int .i64 0, .string ⟨#[]⟩, .slice none 0 0] 145) E w w5 at5 bad5) := C2.out.by g S
    have hA5 : w5.heap[w.heap.size + 1]? = some (.cells #[.int .i64 0, .int .i64 0, .string ⟨#[]⟩, .slice none 0 0] 145) := (g.block _ (Array.getElem?_eq_some_iff.1 AB2.out).1 fun e => by simp only [Option.some.injEq] at e; have := C2.out.cb; omega).trans AB2.out
    have HTS : Hid (t.size ≤ 8) := ht
    obtain ⟨w6, hw6⟩ : ∃ x, x = ((((w5.setCell ⟨w.heap.size + 1, 0, none⟩ (.int .i64 4)).setCell ⟨w.heap.size + 1, 1, none⟩ (.int .i64 0)).setCell ⟨w.heap.size + 1, 2, none⟩ (.string t)).setCell ⟨w.heap.size + 1, 3, none⟩ (.slice none 0 0)) := ⟨_, rfl⟩
    have HW6 : Hid (w6 = ((((w5.setCell ⟨w.heap.size + 1, 0, none⟩ (.int .i64 4)).setCell ⟨w.heap.size + 1, 1, none⟩ (.int .i64 0)).setCell ⟨w.heap.size + 1, 2, none⟩ (.string t)).setCell ⟨w.heap.size + 1, 3, none⟩ (.slice none 0 0))) := hw6
    have K6 : Hid (Gc tyP 145 (.cells #[.int .i64 0, .int .i64 0, .string ⟨#[]⟩, .slice none 0 0] 145) (fun v => .cells #[.int .i64 4, .int .i64 0, .string t, v] 145) (fun xs => 8 + xs.length + ty.wts xs) E w w6 (w.heap.size + 1) (.slice none 0 0) [] at_ bad at5 bad5) := by
      have hoth : ∀ b, b ≠ w.heap.size + 1 → w6.heap[b]? = w5.heap[b]? := fun b hb => by rw [hw6]; repeat rw [Below.heap_setCell _ _ _ _ hb]
      have hz : w6.heap.size = w5.heap.size := by rw [hw6]; simp [World.setCell]
      have hlt5 := (Array.getElem?_eq_some_iff.1 hA5).1
      have hc := C5.out.cb; have ht0 := HS.out.top
      refine ⟨⟨S.keep (by omega) fun b hS => hoth b ?_, ⟨?_, ?_, ?_, by have := C5.out.gr.size; omega, fun q hq hn => (hoth q (by omega)).trans (C5.out.gr.block q hq hn)⟩, (hoth _ (by omega)).trans C5.out.res, C5.out.cb⟩, ?_, by omega, GKids.nil _ _ _, (fun e => by cases e), HS.out.top, fun b hb => .inl (HS.out.ns b hb).1, by omega, ?_⟩
      · rcases hS with hS | hS | rfl
        · have := (HS.out.ns b hS).1; omega
        · omega
        · omega
      · rw [hw6]; exact C5.out.gr.os
      · rw [hw6]; exact C5.out.gr.tape
      · rw [hw6]; exact C5.out.gr.output
      · rw [hw6]; simp [World.setCell, Array.getElem?_modify, hA5]
      · rcases hx with ⟨h1, h2⟩ | h2
        · exact .inr ⟨h2, by omega, by simp [ty.wts]; omega⟩
        · exact .inl h2
    have a0 : w5.cell? ⟨w.heap.size + 1, 0, none⟩ = some (.int .i64 0) := blk_cellG (i := 0) hA5 rfl
    have a1 : w5.cell? ⟨w.heap.size + 1, 1, none⟩ = some (.int .i64 0) := blk_cellG (i := 1) hA5 rfl
    have a2 : w5.cell? ⟨w.heap.size + 1, 2, none⟩ = some (.string ⟨#[]⟩) := blk_cellG (i := 2) hA5 rfl
    have a3 : w5.cell? ⟨w.heap.size + 1, 3, none⟩ = some (.slice none 0 0) := blk_cellG (i := 3) hA5 rfl
    have fa : ∀ o, w5.frozen? ⟨w.heap.size + 1, o, none⟩ = false := fun o => blk_freeG hA5
    clear HX S g hle hx ht hA5 hw6
    go_wp2
    rw [← HW6.out]
    clear a0 a1 a2 a3 fa HW6
    go_loopw [12] (fun _ wr => ∃ (v : Value) (xs : List ty.TyD) (at' : Nat) (bad' : Int), Hid (Gc tyP 145 (.cells #[.int .i64 0, .int .i64 0, .string ⟨#[]⟩, .slice none 0 0] 145) (fun v => .cells #[.int .i64 4, .int .i64 0, .string t, v] 145) (fun xs => 8 + xs.length + ty.wts xs) E w wr (w.heap.size + 1) v xs at_ bad at' bad')) (fun _ wr => msrG E wr)
    case atStart => exact ⟨_, [], at5, bad5, K6⟩
    case round =>
      clear K6
      obtain ⟨v, xs, at', bad', HK⟩ := hrel
      have HM : Hid (msrG E wr = 2 * (E.toks.length - at') + (if bad' < 0 then 1 else 0)) := HK.out.cx.st.msrG
      have HX := small3_any E wr at' bad' HK.out.cx.st
      go_wp2_with fail
      refine HX.mono ?_
      rintro e w3 ⟨⟨b, rfl, hb⟩, hB⟩
      have K3 : Hid (Gc tyP 145 (.cells #[.int .i64 0, .int .i64 0, .string ⟨#[]⟩, .slice none 0 0] 145) (fun v => .cells #[.int .i64 4, .int .i64 0, .string t, v] 145) (fun xs => 8 + xs.length + ty.wts xs) E w w3 (w.heap.size + 1) v xs at_ bad at' bad') := HK.out.on hB
      clear hB HX
      cases b with
      | true =>
        have HBD : Hid (bad' < 0 ∧ at' + 1 < E.toks.length) := hb rfl
        clear hb
        obtain ⟨av, cv, hv⟩ := K3.out.row.slice
        have HV : Hid (v = .slice av xs.length cv) := hv
        clear hv
        obtain ⟨cssG, grow, gk⟩ := K3.out.row
        have GR : Hid (w3.ownsRow (w.heap.size + 1) 145 4 v xs.length (flat cssG xs.length)) := grow
        have GK : Hid (∀ i (h : i < xs.length), tyP.rep w3 (fun b => w.heap.size < b ∧ b < w3.heap.size ∧ b ≠ (w.heap.size + 1) ∧ v.ownBlock ≠ some b) (cssG i) xs[i]) := gk
        have HOR : Hid (∀ g, v.ownBlock = some g → g < w3.heap.size) := fun g e => (K3.out.row.ownlt e).2
        have hab : (w.heap.size + 1) < w3.heap.size := K3.out.ablt
        have hcb := K3.out.cx.cb
        have habw := K3.out.ab
        have hz3 := K3.out.cx.lt
        have g4 : w3.cell? ⟨(w.heap.size + 1), 3, none⟩ = some v := blk_cellG (i := 3) K3.out.acc rfl
        have HLN : Hid (xs.length ≤ 30010) := by
          have h1 := K3.out.hx; have h2 := HBD.out; have h3 := K3.out.cx.st.len; have h4 := K3.out.cx.st.lt; show _ ≤ _; omega
        have hcall := HA'.out w3.drew at' bad' (K3.out.cx.st.on (Below.refl _ _).drew) (by have := HLT.out; have := K3.out.le; omega)
        clear grow gk
        go_wp2_with fail
        go_region_law
          (first
            | (refine step_append_own rfl _ _ 84 rfl (w.heap.size + 1) 145 ti _ 4 56 Tryz.underlying84 TI.out.1 TI.out.2.1 TI.out.2.2.1 TI.out.2.2.2 rfl (by decide) v xs.length _ (by first | (simp [Act.eval, HV.out]; done) | (simp [Act.eval, Act.put, HV.out]; done)) RA.out ⟨w5.heap.size, 0, none⟩ 1 1 [.int .i64 u0, .int .i64 u1, .string u2, .slice ua ul uc] rfl rfl (cells_new _ _ _ _ rfl) (by simp [Value.oneCell']) (by unfold maxLen; have := HLN.out; omega) (by have := HLN.out; omega) (by have := Z5.out; simp; omega) ?_; intro qa ql qc w6 hown6 hgrow6 hat6
               have hO6 : w6.heap[(w.heap.size + 1)]? = some (.cells #[.int .i64 4, .int .i64 0, .string t, v] 145) := (hgrow6.block (w.heap.size + 1) (by have := Z5.out; simp; omega) (fun e => K3.out.own e.symm)).trans ((Below.heap_alloc _ _ _ (by have := Z5.out; omega)).trans O5.out)
               have y0 : w6.cell? ⟨(w.heap.size + 1), 3, none⟩ = some v := blk_cellG (i := 3) hO6 rfl
               have y1 : w6.frozen? ⟨(w.heap.size + 1), 3, none⟩ = false := blk_freeG (i := 3) hO6)
            | (refine step_call rfl 86 entTA _ _ rfl _ _ hcall (by first | (simp [Act.eval]; done) | (simp [Act.eval, Act.put]; done) | rfl) ?_; rintro e w5 ⟨at5, bad5, cs, T, rfl, hrep, S5, g5, hle5, hx5⟩
               obtain ⟨u0, u1, u2, uk, ua, uc, hTT, rfl, -, -, -, -⟩ := ty.ty_open (Sh.bare hrep)
               clear hTT
               obtain ⟨ul, hul⟩ : ∃ n, n = uk.length := ⟨_, rfl⟩
               rw [← hul] at hrep ⊢
               have G5 : Hid (w3.grownBy w5 (some E.cb)) := ⟨g5.os, g5.tape, g5.output, g5.size, g5.block⟩
               have K5 : Hid (Gc tyP 145 (.cells #[.int .i64 0, .int .i64 0, .string ⟨#[]⟩, .slice none 0 0] 145) (fun v => .cells #[.int .i64 4, .int .i64 0, .string t, v] 145) (fun xs => 8 + xs.length + ty.wts xs) E w w5 (w.heap.size + 1) v xs at_ bad at5 bad5) := K3.out.by G5.out S5 hle5 (by rcases hx5 with h | h; exact .inl h; exact .inr h.1)
               have Z5 : Hid (w3.heap.size ≤ w5.heap.size ∧ w.heap.size < w5.heap.size ∧ (w.heap.size + 1) < w5.heap.size) := ⟨g5.size, K5.out.cx.lt, K5.out.ablt⟩
               have O5 : Hid (w5.heap[(w.heap.size + 1)]? = some (.cells #[.int .i64 4, .int .i64 0, .string t, v] 145)) := K5.out.acc
               have g4b : w5.cell? ⟨(w.heap.size + 1), 3, none⟩ = some v := blk_cellG (i := 3) O5.out rfl
               have g4c : ∀ o', (w5.alloc o').cell? ⟨(w.heap.size + 1), 3, none⟩ = some v := fun o' => (((Below.refl _ w5).alloc (Nat.le_refl _) o').cell (p := ⟨(w.heap.size + 1), 3, none⟩) (by have := Z5.out; show (w.heap.size + 1) < _; omega)).trans g4b
               have RA : Hid ((w5.alloc (.cells #[.int .i64 u0, .int .i64 u1, .string u2, .slice ua ul uc] 145)).ownsRow (w.heap.size + 1) 145 4 v xs.length (flat cssG xs.length)) := by
                 obtain ⟨hl, hv⟩ := GR.out
                 refine ⟨hl, ?_⟩
                 rcases hv with h0 | ⟨g, cap, cur, h1, h2, h3, h4⟩
                 · exact Or.inl h0
                 · have hg := (Array.getElem?_eq_some_iff.1 h3).1
                   exact Or.inr ⟨g, cap, cur, h1, h2, by rw [Below.heap_alloc _ _ _ (by have := Z5.out; omega), G5.out.block g hg fun e => by simp only [Option.some.injEq] at e; omega]; exact h3, h4⟩
               have HR5 : Hid (tyP.rep w5 (fun b => w3.heap.size ≤ b ∧ b < w5.heap.size) [.int .i64 u0, .int .i64 u1, .string u2, .slice ua ul uc] T) := hrep
               have HX5 : Hid (at' ≤ at5 ∧ (0 ≤ bad5 ∨ (bad5 = bad' ∧ at' < at5 ∧ ty.wt T + 2 ≤ 10 * (at5 - at')))) := ⟨hle5, hx5⟩
               clear hul hrep S5 g5 hle5 hx5
               refine ⟨_, rfl, ?_⟩))
        all_goals
          have NX : Hid (Gc tyP 145 (.cells #[.int .i64 0, .int .i64 0, .string ⟨#[]⟩, .slice none 0 0] 145) (fun v => .cells #[.int .i64 4, .int .i64 0, .string t, v] 145) (fun xs => 8 + xs.length + ty.wts xs) E w (w6.setCell ⟨(w.heap.size + 1), 3, none⟩ (.slice qa ql qc)) (w.heap.size + 1) (.slice qa ql qc) (xs ++ [T]) at_ bad at5 bad5) := by
            refine K5.out.push (r0 := w3.heap.size) (w2 := w5.alloc (.cells #[.int .i64 u0, .int .i64 u1, .string u2, .slice ua ul uc] 145)) (css := cssG) (fun i hi => tyP.mono (tyP.on (GK.out i hi) fun b hS => G5.out.block b hS.2.1 fun e => by simp only [Option.some.injEq] at e; omega) fun b hS => ⟨hS.1, by have := Z5.out; omega, hS.2.2⟩) HR5.out hab (by omega) HOR.out ((Below.refl _ _).alloc (Nat.le_refl _) _) ?_ hown6 hgrow6 hat6 3 rfl (fun h => by simp [World.setCell, Array.getElem?_modify, h])
            have h1 := HX5.out; have h2 := K3.out.hx; have h3 := HBD.out; have h4 := K3.out.le
            by_cases hb : 0 ≤ bad5
            · exact .inl hb
            · refine .inr ⟨by omega, by omega, ?_⟩
              show 8 + (xs ++ [T]).length + ty.wts (xs ++ [T]) + 2 ≤ _
              rw [twts_snoc, List.length_append, List.length_singleton]
              omega
          have RZ : Hid (at' ≤ at5 ∧ (0 ≤ bad5 ∨ at' < at5)) := ⟨HX5.out.1, by
            rcases HX5.out.2 with h | h
            · exact .inl h
            · exact .inr h.2.1⟩
          clear hown6 hgrow6 hat6 hO6 y0 y1 HR5 RA g4 g4b g4c O5 K5 Z5 hcall GR GK G5 HX5
          go_wp2
          go_round
          case rel => exact ⟨_, _, at5, bad5, NX⟩
          case measure =>
            rw [NX.out.cx.st.msrG, HM.out]
            have h1 := RZ.out; have h2 := HBD.out
            rw [if_pos h2.1]
            split <;> omega
      | false =>
        clear hb HM
        obtain ⟨av, cv, hv⟩ := K3.out.row.slice
        subst hv
        have HD : Hid (Gh tyP 145 w3 (w.heap.size + 1) (w.heap.size + 1) [.int .i64 4, .int .i64 0, .string t, .slice av xs.length cv] (.mk (4, 0, t) xs)) := ⟨K3.out.acc, Nat.le_refl _, Sh.of (ty.ty_shut (by omega) (by omega) (by have := HTS.out; unfold maxLen; omega) (Sh.bare (tyPs.mono (K3.out.row.repP (by decide)) fun b hS => ⟨by omega, hS.2⟩)))⟩
        have CX : Hid (Gx (.cells #[.int .i64 0, .int .i64 0, .string ⟨#[]⟩, .slice none 0 0] 145) E w w3 at' bad') := K3.out.cx
        have WF : Hid (at_ ≤ at' ∧ (0 ≤ bad' ∨ (bad' = bad ∧ at_ < at' ∧ ty.wt (.mk (4, 0, t) xs) + 2 ≤ 10 * (at' - at_)))) := ⟨K3.out.le, by
          rcases K3.out.hx with h | ⟨e, h, h2⟩
          · exact .inl h
          · refine .inr ⟨e, h, ?_⟩
            have h3 : 8 + xs.length + ty.wts xs + 2 ≤ 10 * (at' - at_) := h2
            have := HTS.out; simp only [ty.wt]; omega⟩
        clear K3
        have HX := sign3_any E w3 at' bad' CX.out.st ⟨#[45, 62]⟩
        go_wp2_with fail
        refine HX.mono ?_
        rintro e wa ⟨⟨b, rfl, hb⟩, hB⟩
        have CA : Hid (Gx (.cells #[.int .i64 0, .int .i64 0, .string ⟨#[]⟩, .slice none 0 0] 145) E w wa at' bad') := CX.out.on hB
        have HDa : Hid (Gh tyP 145 wa (w.heap.size + 1) (w.heap.size + 1) [.int .i64 4, .int .i64 0, .string t, .slice av xs.length cv] (.mk (4, 0, t) xs)) := HD.out.on hB
        clear hB HX
        cases b with
        | false =>
          clear hb
          have y0 : wa.cell? ⟨w.heap.size + 1, 0, none⟩ = some (.int .i64 4) := blk_cellG (i := 0) HDa.out.blk rfl
          have y1 : wa.cell? ⟨w.heap.size + 1, 1, none⟩ = some (.int .i64 0) := blk_cellG (i := 1) HDa.out.blk rfl
          have y2 : wa.cell? ⟨w.heap.size + 1, 2, none⟩ = some (.string t) := blk_cellG (i := 2) HDa.out.blk rfl
          have y3 : wa.cell? ⟨w.heap.size + 1, 3, none⟩ = some (.slice av xs.length cv) := blk_cellG (i := 3) HDa.out.blk rfl
          have HT : Hid (∀ w', wa.grownBy w' (some w.heap.size) → Gives tyP ty.wt E w at_ bad (.returned (.agg [.int .i64 4, .int .i64 0, .string t, .slice av xs.length cv].toArray)) w') := fun w' hg' => answerG HS.out CA.out.gr CA.out.lt (tyP.mono HDa.out.rep fun b hS => ⟨by omega, hS.2⟩) CA.out.st (by have := WF.out; omega) (by have h := WF.out; rcases h.2 with h | h; exact .inl h; exact .inr h) hg'
          have r0 : wa.cell? ⟨w.heap.size, 0, none⟩ = some (.int .i64 0) := blk_cellG (i := 0) CA.out.res rfl
          have r1 : wa.cell? ⟨w.heap.size, 1, none⟩ = some (.int .i64 0) := blk_cellG (i := 1) CA.out.res rfl
          have r2 : wa.cell? ⟨w.heap.size, 2, none⟩ = some (.string ⟨#[]⟩) := blk_cellG (i := 2) CA.out.res rfl
          have r3 : wa.cell? ⟨w.heap.size, 3, none⟩ = some (.slice none 0 0) := blk_cellG (i := 3) CA.out.res rfl
          have fr : ∀ o, wa.frozen? ⟨w.heap.size, o, none⟩ = false := fun o => blk_freeG CA.out.res
          go_wp2
          refine bodyPost_ret (v := .agg #[.int .i64 4, .int .i64 0, .string t, .slice av xs.length cv]) (by simp [results, Tryz.f96, go_sem, r0, r1, r2, r3]) rfl ?_
          refine HT.out _ ?_
          repeat first | exact grown_self _ _ | (refine grown_by_by ?_ (grown_setG _ _ _ _))
        | true =>
          have HB : Hid (bad' < 0 ∧ at' + 1 < E.toks.length) := hb rfl
          clear hb
          have HX := next_any E wa at' bad' CA.out.st HB.out.2
          go_wp2_with fail
          refine HX.mono ?_
          rintro e wb ⟨rfl, S, g⟩
          have CB : Hid (Gx (.cells #[.int .i64 0, .int .i64 0, .string ⟨#[]⟩, .slice none 0 0] 145) E w wb (at' + 1) bad') := CA.out.by g S
          have HDb : Hid (Gh tyP 145 wb (w.heap.size + 1) (w.heap.size + 1) [.int .i64 4, .int .i64 0, .string t, .slice av xs.length cv] (.mk (4, 0, t) xs)) := HDa.out.by g (by have := CA.out.cb; omega)
          clear HX S g
          have HX := HY'.out wb (at' + 1) bad' CB.out.st (by have := HLT.out; have := WF.out; omega)
          go_wp2_with fail
          refine HX.mono ?_
          rintro e wc ⟨atc, badc, cs, T2, rfl, hrep, S, g, hle, hx⟩
          obtain ⟨z0, z1, z2, zk, za, zc, hTT, rfl, -, -, -, -⟩ := ty.ty_open (Sh.bare hrep)
          clear hTT
          obtain ⟨zl, hzl⟩ : ∃ n, n = zk.length := ⟨_, rfl⟩
          rw [← hzl] at hrep ⊢
          clear hzl
          have CC : Hid (Gx (.cells #[.int .i64 0, .int .i64 0, .string ⟨#[]⟩, .slice none 0 0] 145) E w wc atc badc) := CB.out.by g S
          have HDc : Hid (Gh tyP 145 wc (w.heap.size + 1) (w.heap.size + 1) [.int .i64 4, .int .i64 0, .string t, .slice av xs.length cv] (.mk (4, 0, t) xs)) := HDb.out.by g (by have := CB.out.cb; omega)
          have RC : Hid (at' + 1 ≤ atc ∧ (0 ≤ badc ∨ (badc = bad' ∧ at' + 1 < atc ∧ ty.wt T2 + 2 ≤ 10 * (atc - (at' + 1))))) := ⟨hle, hx⟩
          obtain ⟨wd, hwd⟩ : ∃ x, x = wc.alloc (.cells #[.int .i64 z0, .int .i64 z1, .string z2, .slice za zl zc] 145) := ⟨_, rfl⟩
          have HWD : Hid (wd = wc.alloc (.cells #[.int .i64 z0, .int .i64 z1, .string z2, .slice za zl zc] 145)) := hwd
          have hB : Below wc.heap.size wc wd := by rw [hwd]; exact (Below.refl _ _).alloc (Nat.le_refl _) _
          have zd : wd.heap.size = wc.heap.size + 1 := by rw [hwd]; simp
          have CD : Hid (Gx (.cells #[.int .i64 0, .int .i64 0, .string ⟨#[]⟩, .slice none 0 0] 145) E w wd atc badc) := CC.out.on hB
          have HDd : Hid (Gh tyP 145 wd (w.heap.size + 1) (w.heap.size + 1) [.int .i64 4, .int .i64 0, .string t, .slice av xs.length cv] (.mk (4, 0, t) xs)) := HDc.out.on hB
          have H2 : Hid (Gh tyP 145 wd (w.heap.size + 1) wc.heap.size [.int .i64 z0, .int .i64 z1, .string z2, .slice za zl zc] T2) := Gh.new (tyP.mono hrep fun b hS => ⟨by have := CB.out.lt; omega, hS.2⟩) (by have := CC.out.lt; omega) hwd
          have y0 : wd.cell? ⟨w.heap.size + 1, 0, none⟩ = some (.int .i64 4) := blk_cellG (i := 0) HDd.out.blk rfl
          have y1 : wd.cell? ⟨w.heap.size + 1, 1, none⟩ = some (.int .i64 0) := blk_cellG (i := 1) HDd.out.blk rfl
          have y2 : wd.cell? ⟨w.heap.size + 1, 2, none⟩ = some (.string t) := blk_cellG (i := 2) HDd.out.blk rfl
          have y3 : wd.cell? ⟨w.heap.size + 1, 3, none⟩ = some (.slice av xs.length cv) := blk_cellG (i := 3) HDd.out.blk rfl
          have q0 : wd.cell? ⟨wc.heap.size, 0, none⟩ = some (.int .i64 z0) := blk_cellG (i := 0) H2.out.blk rfl
          have q1 : wd.cell? ⟨wc.heap.size, 1, none⟩ = some (.int .i64 z1) := blk_cellG (i := 1) H2.out.blk rfl
          have q2 : wd.cell? ⟨wc.heap.size, 2, none⟩ = some (.string z2) := blk_cellG (i := 2) H2.out.blk rfl
          have q3 : wd.cell? ⟨wc.heap.size, 3, none⟩ = some (.slice za zl zc) := blk_cellG (i := 3) H2.out.blk rfl
          rw [HWD.out] at y0 y1 y2 y3 q0 q1 q2 q3
          obtain ⟨we, hwe⟩ : ∃ x, x = wd.alloc (.cells #[.int .i64 4, .int .i64 0, .string t, .slice av xs.length cv, .int .i64 z0, .int .i64 z1, .string z2, .slice za zl zc] 145) := ⟨_, rfl⟩
          have hE : Below wd.heap.size wd we := by rw [hwe]; exact (Below.refl _ _).alloc (Nat.le_refl _) _
          have ze : we.heap.size = wd.heap.size + 1 := by rw [hwe]; simp
          have CE : Hid (Gx (.cells #[.int .i64 0, .int .i64 0, .string ⟨#[]⟩, .slice none 0 0] 145) E w we atc badc) := CD.out.on hE
          have RP : Hid (tyP.rep we (fun b => w.heap.size < b ∧ b < we.heap.size) [.int .i64 3, .int .i64 0, .string ⟨#[]⟩, .slice (some ⟨wd.heap.size, 0, none⟩) 2 2] (.mk (3, 0, ⟨#[]⟩) [(.mk (4, 0, t) xs), T2])) := by
            refine Sh.of (ty.ty_shut (x0 := 3) (x1 := 0) (x2 := ⟨#[]⟩) (x3 := [(.mk (4, 0, t) xs), T2]) (by omega) (by omega) (by decide) ?_)
            exact tpair_rep (by rw [hwe]; exact alloc_top _ _) ⟨⟨by have := CD.out.lt; omega, by omega⟩, _, _, by rw [hwe]; exact alloc_top _ _⟩ (Sh.bare (tyP.mono (HDd.out.on hE).rep fun b hS => ⟨by omega, hS.2⟩)) (Sh.bare (tyP.mono (H2.out.on hE).rep fun b hS => ⟨by omega, hS.2⟩))
          have HT : Hid (∀ w', we.grownBy w' (some w.heap.size) → Gives tyP ty.wt E w at_ bad (.returned (.agg [.int .i64 3, .int .i64 0, .string ⟨#[]⟩, .slice (some ⟨wd.heap.size, 0, none⟩) 2 2].toArray)) w') := fun w' hg' => answerG HS.out CE.out.gr CE.out.lt RP.out CE.out.st (by have := WF.out; have := RC.out; omega) (by
            have h1 := WF.out; have h2 := RC.out; have h3 := HB.out
            by_cases hb : 0 ≤ badc
            · exact .inl hb
            · refine .inr ⟨by omega, by omega, ?_⟩
              rw [tpair_wt]; omega) hg'
          have r0 : we.cell? ⟨w.heap.size, 0, none⟩ = some (.int .i64 0) := blk_cellG (i := 0) CE.out.res rfl
          have r1 : we.cell? ⟨w.heap.size, 1, none⟩ = some (.int .i64 0) := blk_cellG (i := 1) CE.out.res rfl
          have r2 : we.cell? ⟨w.heap.size, 2, none⟩ = some (.string ⟨#[]⟩) := blk_cellG (i := 2) CE.out.res rfl
          have r3 : we.cell? ⟨w.heap.size, 3, none⟩ = some (.slice none 0 0) := blk_cellG (i := 3) CE.out.res rfl
          have fr : ∀ o, we.frozen? ⟨w.heap.size, o, none⟩ = false := fun o => blk_freeG CE.out.res
          rw [hwe, HWD.out] at r0 r1 r2 r3 fr
          rw [zd] at HT
          rw [hwe, HWD.out] at HT
          clear HX hrep S g hle hx hB hwd hwe hE zd ze CE RP
          go_wp2
          refine bodyPost_ret (v := .agg #[.int .i64 3, .int .i64 0, .string ⟨#[]⟩, .slice (some ⟨wc.heap.size + 1, 0, none⟩) 2 2]) (by simp [results, Tryz.f96, go_sem, r0, r1, r2, r3]) rfl ?_
          refine HT.out _ ?_
          repeat first | exact grown_self _ _ | (refine grown_by_by ?_ (grown_setG _ _ _ _))
  | false =>
    clear hb
    have HX := HA'.out w2 at_ bad C2.out.st HLT.out.2
    go_wp2_with fail
    refine HX.mono ?_
    rintro e w5 ⟨at5, bad5, cs, T, rfl, hrep, S, g, hle, hx⟩
    obtain ⟨u0, u1, u2, uk, ua, uc, hTT, rfl, -, -, -, -⟩ := ty.ty_open (Sh.bare hrep)
    clear hTT
    obtain ⟨ul, hul⟩ : ∃ n, n = uk.length := ⟨_, rfl⟩
    rw [← hul] at hrep ⊢
    clear hul
    have C5 : Hid (Gx (.cells #[.int .i64 0, .int .i64 0, .string ⟨#[]⟩, .slice none 0 0] 145) E w w5 at5 bad5) := C2.out.by g S
    have hA5 : w5.heap[w.heap.size + 1]? = some (.cells #[.int .i64 0, .int .i64 0, .string ⟨#[]⟩, .slice none 0 0] 145) := (g.block _ (Array.getElem?_eq_some_iff.1 AB2.out).1 fun e => by simp only [Option.some.injEq] at e; have := C2.out.cb; omega).trans AB2.out
    obtain ⟨w6, hw6⟩ : ∃ x, x = ((((w5.setCell ⟨w.heap.size + 1, 0, none⟩ (.int .i64 u0)).setCell ⟨w.heap.size + 1, 1, none⟩ (.int .i64 u1)).setCell ⟨w.heap.size + 1, 2, none⟩ (.string u2)).setCell ⟨w.heap.size + 1, 3, none⟩ (.slice ua ul uc)) := ⟨_, rfl⟩
    have HW6 : Hid (w6 = ((((w5.setCell ⟨w.heap.size + 1, 0, none⟩ (.int .i64 u0)).setCell ⟨w.heap.size + 1, 1, none⟩ (.int .i64 u1)).setCell ⟨w.heap.size + 1, 2, none⟩ (.string u2)).setCell ⟨w.heap.size + 1, 3, none⟩ (.slice ua ul uc))) := hw6
    have hoth : ∀ b, b ≠ w.heap.size + 1 → w6.heap[b]? = w5.heap[b]? := fun b hb => by rw [hw6]; repeat rw [Below.heap_setCell _ _ _ _ hb]
    have hz : w6.heap.size = w5.heap.size := by rw [hw6]; simp [World.setCell]
    have hlt2 := (Array.getElem?_eq_some_iff.1 AB2.out).1
    have hg5 := g.size
    have CX : Hid (Gx (.cells #[.int .i64 0, .int .i64 0, .string ⟨#[]⟩, .slice none 0 0] 145) E w w6 at5 bad5) := by
      have hc := C5.out.cb; have ht0 := HS.out.top
      refine ⟨S.keep (by omega) fun b hS => hoth b ?_, ⟨?_, ?_, ?_, by have := C5.out.gr.size; omega, fun q hq hn => (hoth q (by omega)).trans (C5.out.gr.block q hq hn)⟩, (hoth _ (by omega)).trans C5.out.res, C5.out.cb⟩
      · rcases hS with hS | hS | rfl
        · have := (HS.out.ns b hS).1; omega
        · omega
        · omega
      · rw [hw6]; exact C5.out.gr.os
      · rw [hw6]; exact C5.out.gr.tape
      · rw [hw6]; exact C5.out.gr.output
    have HD : Hid (Gh tyP 145 w6 (w.heap.size + 1) (w.heap.size + 1) [.int .i64 u0, .int .i64 u1, .string u2, .slice ua ul uc] T) := ⟨by rw [hw6]; simp [World.setCell, Array.getElem?_modify, hA5], Nat.le_refl _, tyP.mono (tyP.on hrep fun b hS => hoth b (by omega)) fun b hS => ⟨by omega, by omega⟩⟩
    have WF : Hid (at_ ≤ at5 ∧ (0 ≤ bad5 ∨ (bad5 = bad ∧ at_ < at5 ∧ ty.wt T + 2 ≤ 10 * (at5 - at_)))) := ⟨hle, hx⟩
    have a0 : w5.cell? ⟨w.heap.size + 1, 0, none⟩ = some (.int .i64 0) := blk_cellG (i := 0) hA5 rfl
    have a1 : w5.cell? ⟨w.heap.size + 1, 1, none⟩ = some (.int .i64 0) := blk_cellG (i := 1) hA5 rfl
    have a2 : w5.cell? ⟨w.heap.size + 1, 2, none⟩ = some (.string ⟨#[]⟩) := blk_cellG (i := 2) hA5 rfl
    have a3 : w5.cell? ⟨w.heap.size + 1, 3, none⟩ = some (.slice none 0 0) := blk_cellG (i := 3) hA5 rfl
    have fa : ∀ o, w5.frozen? ⟨w.heap.size + 1, o, none⟩ = false := fun o => blk_freeG hA5
    clear HX S g hle hx hA5 hw6 hoth hz hlt2 hg5 hrep
    have HXX : Hid True := trivial
    have HX := sign3_any E w6 at5 bad5 CX.out.st ⟨#[45, 62]⟩
    go_wp2_with fail
    rw [← HW6.out]
    clear a0 a1 a2 a3 fa HW6
    refine HX.mono ?_
    rintro e wa ⟨⟨b, rfl, hb⟩, hB⟩
    have CA : Hid (Gx (.cells #[.int .i64 0, .int .i64 0, .string ⟨#[]⟩, .slice none 0 0] 145) E w wa at5 bad5) := CX.out.on hB
    have HDa : Hid (Gh tyP 145 wa (w.heap.size + 1) (w.heap.size + 1) [.int .i64 u0, .int .i64 u1, .string u2, .slice ua ul uc] T) := HD.out.on hB
    clear hB HX
    cases b with
    | false =>
      clear hb
      have y0 : wa.cell? ⟨w.heap.size + 1, 0, none⟩ = some (.int .i64 u0) := blk_cellG (i := 0) HDa.out.blk rfl
      have y1 : wa.cell? ⟨w.heap.size + 1, 1, none⟩ = some (.int .i64 u1) := blk_cellG (i := 1) HDa.out.blk rfl
      have y2 : wa.cell? ⟨w.heap.size + 1, 2, none⟩ = some (.string u2) := blk_cellG (i := 2) HDa.out.blk rfl
      have y3 : wa.cell? ⟨w.heap.size + 1, 3, none⟩ = some (.slice ua ul uc) := blk_cellG (i := 3) HDa.out.blk rfl
      have HT : Hid (∀ w', wa.grownBy w' (some w.heap.size) → Gives tyP ty.wt E w at_ bad (.returned (.agg [.int .i64 u0, .int .i64 u1, .string u2, .slice ua ul uc].toArray)) w') := fun w' hg' => answerG HS.out CA.out.gr CA.out.lt (tyP.mono HDa.out.rep fun b hS => ⟨by omega, hS.2⟩) CA.out.st (by have := WF.out; omega) (by have h := WF.out; rcases h.2 with h | h; exact .inl h; exact .inr h) hg'
      have r0 : wa.cell? ⟨w.heap.size, 0, none⟩ = some (.int .i64 0) := blk_cellG (i := 0) CA.out.res rfl
      have r1 : wa.cell? ⟨w.heap.size, 1, none⟩ = some (.int .i64 0) := blk_cellG (i := 1) CA.out.res rfl
      have r2 : wa.cell? ⟨w.heap.size, 2, none⟩ = some (.string ⟨#[]⟩) := blk_cellG (i := 2) CA.out.res rfl
      have r3 : wa.cell? ⟨w.heap.size, 3, none⟩ = some (.slice none 0 0) := blk_cellG (i := 3) CA.out.res rfl
      have fr : ∀ o, wa.frozen? ⟨w.heap.size, o, none⟩ = false := fun o => blk_freeG CA.out.res
      go_wp2
      refine bodyPost_ret (v := .agg #[.int .i64 u0, .int .i64 u1, .string u2, .slice ua ul uc]) (by simp [results, Tryz.f96, go_sem, r0, r1, r2, r3]) rfl ?_
      refine HT.out _ ?_
      repeat first | exact grown_self _ _ | (refine grown_by_by ?_ (grown_setG _ _ _ _))
    | true =>
      have HB : Hid (bad5 < 0 ∧ at5 + 1 < E.toks.length) := hb rfl
      clear hb
      have HX := next_any E wa at5 bad5 CA.out.st HB.out.2
      go_wp2_with fail
      refine HX.mono ?_
      rintro e wb ⟨rfl, S, g⟩
      have CB : Hid (Gx (.cells #[.int .i64 0, .int .i64 0, .string ⟨#[]⟩, .slice none 0 0] 145) E w wb (at5 + 1) bad5) := CA.out.by g S
      have HDb : Hid (Gh tyP 145 wb (w.heap.size + 1) (w.heap.size + 1) [.int .i64 u0, .int .i64 u1, .string u2, .slice ua ul uc] T) := HDa.out.by g (by have := CA.out.cb; omega)
      clear HX S g
      have HX := HY'.out wb (at5 + 1) bad5 CB.out.st (by have := HLT.out; have := WF.out; omega)
      go_wp2_with fail
      refine HX.mono ?_
      rintro e wc ⟨atc, badc, cs, T2, rfl, hrep, S, g, hle, hx⟩
      obtain ⟨z0, z1, z2, zk, za, zc, hTT, rfl, -, -, -, -⟩ := ty.ty_open (Sh.bare hrep)
      clear hTT
      obtain ⟨zl, hzl⟩ : ∃ n, n = zk.length := ⟨_, rfl⟩
      rw [← hzl] at hrep ⊢
      clear hzl
      have CC : Hid (Gx (.cells #[.int .i64 0, .int .i64 0, .string ⟨#[]⟩, .slice none 0 0] 145) E w wc atc badc) := CB.out.by g S
      have HDc : Hid (Gh tyP 145 wc (w.heap.size + 1) (w.heap.size + 1) [.int .i64 u0, .int .i64 u1, .string u2, .slice ua ul uc] T) := HDb.out.by g (by have := CB.out.cb; omega)
      have RC : Hid (at5 + 1 ≤ atc ∧ (0 ≤ badc ∨ (badc = bad5 ∧ at5 + 1 < atc ∧ ty.wt T2 + 2 ≤ 10 * (atc - (at5 + 1))))) := ⟨hle, hx⟩
      obtain ⟨wd, hwd⟩ : ∃ x, x = wc.alloc (.cells #[.int .i64 z0, .int .i64 z1, .string z2, .slice za zl zc] 145) := ⟨_, rfl⟩
      have HWD : Hid (wd = wc.alloc (.cells #[.int .i64 z0, .int .i64 z1, .string z2, .slice za zl zc] 145)) := hwd
      have hB : Below wc.heap.size wc wd := by rw [hwd]; exact (Below.refl _ _).alloc (Nat.le_refl _) _
      have zd : wd.heap.size = wc.heap.size + 1 := by rw [hwd]; simp
      have CD : Hid (Gx (.cells #[.int .i64 0, .int .i64 0, .string ⟨#[]⟩, .slice none 0 0] 145) E w wd atc badc) := CC.out.on hB
      have HDd : Hid (Gh tyP 145 wd (w.heap.size + 1) (w.heap.size + 1) [.int .i64 u0, .int .i64 u1, .string u2, .slice ua ul uc] T) := HDc.out.on hB
      have H2 : Hid (Gh tyP 145 wd (w.heap.size + 1) wc.heap.size [.int .i64 z0, .int .i64 z1, .string z2, .slice za zl zc] T2) := Gh.new (tyP.mono hrep fun b hS => ⟨by have := CB.out.lt; omega, hS.2⟩) (by have := CC.out.lt; omega) hwd
      have y0 : wd.cell? ⟨w.heap.size + 1, 0, none⟩ = some (.int .i64 u0) := blk_cellG (i := 0) HDd.out.blk rfl
      have y1 : wd.cell? ⟨w.heap.size + 1, 1, none⟩ = some (.int .i64 u1) := blk_cellG (i := 1) HDd.out.blk rfl
      have y2 : wd.cell? ⟨w.heap.size + 1, 2, none⟩ = some (.string u2) := blk_cellG (i := 2) HDd.out.blk rfl
      have y3 : wd.cell? ⟨w.heap.size + 1, 3, none⟩ = some (.slice ua ul uc) := blk_cellG (i := 3) HDd.out.blk rfl
      have q0 : wd.cell? ⟨wc.heap.size, 0, none⟩ = some (.int .i64 z0) := blk_cellG (i := 0) H2.out.blk rfl
      have q1 : wd.cell? ⟨wc.heap.size, 1, none⟩ = some (.int .i64 z1) := blk_cellG (i := 1) H2.out.blk rfl
      have q2 : wd.cell? ⟨wc.heap.size, 2, none⟩ = some (.string z2) := blk_cellG (i := 2) H2.out.blk rfl
      have q3 : wd.cell? ⟨wc.heap.size, 3, none⟩ = some (.slice za zl zc) := blk_cellG (i := 3) H2.out.blk rfl
      rw [HWD.out] at y0 y1 y2 y3 q0 q1 q2 q3
      obtain ⟨we, hwe⟩ : ∃ x, x = wd.alloc (.cells #[.int .i64 u0, .int .i64 u1, .string u2, .slice ua ul uc, .int .i64 z0, .int .i64 z1, .string z2, .slice za zl zc] 145) := ⟨_, rfl⟩
      have hE : Below wd.heap.size wd we := by rw [hwe]; exact (Below.refl _ _).alloc (Nat.le_refl _) _
      have ze : we.heap.size = wd.heap.size + 1 := by rw [hwe]; simp
      have CE : Hid (Gx (.cells #[.int .i64 0, .int .i64 0, .string ⟨#[]⟩, .slice none 0 0] 145) E w we atc badc) := CD.out.on hE
      have RP : Hid (tyP.rep we (fun b => w.heap.size < b ∧ b < we.heap.size) [.int .i64 3, .int .i64 0, .string ⟨#[]⟩, .slice (some ⟨wd.heap.size, 0, none⟩) 2 2] (.mk (3, 0, ⟨#[]⟩) [T, T2])) := by
        refine Sh.of (ty.ty_shut (x0 := 3) (x1 := 0) (x2 := ⟨#[]⟩) (x3 := [T, T2]) (by omega) (by omega) (by decide) ?_)
        exact tpair_rep (by rw [hwe]; exact alloc_top _ _) ⟨⟨by have := CD.out.lt; omega, by omega⟩, _, _, by rw [hwe]; exact alloc_top _ _⟩ (Sh.bare (tyP.mono (HDd.out.on hE).rep fun b hS => ⟨by omega, hS.2⟩)) (Sh.bare (tyP.mono (H2.out.on hE).rep fun b hS => ⟨by omega, hS.2⟩))
      have HT : Hid (∀ w', we.grownBy w' (some w.heap.size) → Gives tyP ty.wt E w at_ bad (.returned (.agg [.int .i64 3, .int .i64 0, .string ⟨#[]⟩, .slice (some ⟨wd.heap.size, 0, none⟩) 2 2].toArray)) w') := fun w' hg' => answerG HS.out CE.out.gr CE.out.lt RP.out CE.out.st (by have := WF.out; have := RC.out; omega) (by
        have h1 := WF.out; have h2 := RC.out; have h3 := HB.out
        by_cases hb : 0 ≤ badc
        · exact .inl hb
        · refine .inr ⟨by omega, by omega, ?_⟩
          rw [tpair_wt]; omega) hg'
      have r0 : we.cell? ⟨w.heap.size, 0, none⟩ = some (.int .i64 0) := blk_cellG (i := 0) CE.out.res rfl
      have r1 : we.cell? ⟨w.heap.size, 1, none⟩ = some (.int .i64 0) := blk_cellG (i := 1) CE.out.res rfl
      have r2 : we.cell? ⟨w.heap.size, 2, none⟩ = some (.string ⟨#[]⟩) := blk_cellG (i := 2) CE.out.res rfl
      have r3 : we.cell? ⟨w.heap.size, 3, none⟩ = some (.slice none 0 0) := blk_cellG (i := 3) CE.out.res rfl
      have fr : ∀ o, we.frozen? ⟨w.heap.size, o, none⟩ = false := fun o => blk_freeG CE.out.res
      rw [hwe, HWD.out] at r0 r1 r2 r3 fr
      rw [zd] at HT
      rw [hwe, HWD.out] at HT
      clear HX hrep S g hle hx hB hwd hwe hE zd ze CE RP
      go_wp2
      refine bodyPost_ret (v := .agg #[.int .i64 3, .int .i64 0, .string ⟨#[]⟩, .slice (some ⟨wc.heap.size + 1, 0, none⟩) 2 2]) (by simp [results, Tryz.f96, go_sem, r0, r1, r2, r3]) rfl ?_
      refine HT.out _ ?_
      repeat first | exact grown_self _ _ | (refine grown_by_by ?_ (grown_setG _ _ _ _))

end Go.Proofs.YtlnpfnglphdaiaaGreatDoor.tok

/-
  The model's l3Apply, from what l3Atom says.
-/
import Derived.Test.YtlnpfnglphdaiaaGreatDoorB1
import Derived.Test.YtlnpfnglphdaiaaGreatDoorB2
import Derived.Test.YtlnpfnglphdaiaaGreatDoorB3
import Derived.Test.YtlnpfnglphdaiaaGreatDoorB4
import Derived.Test.YtlnpfnglphdaiaaGreatDoorB5
import Derived.Test.YtlnpfnglphdaiaaGreatDoorB6
import Derived.Test.YtlnpfnglphdaiaaGreatDoorB7
import Derived.Test.YtlnpfnglphdaiaaGreatDoorB8
import Derived.Test.YtlnpfnglphdaiaaGreatDoorB9
import Derived.Test.YtlnpfnglphdaiaaGreatDoorB10
import Derived.Test.YtlnpfnglphdaiaaGreatDoorB11
import Derived.Test.YtlnpfnglphdaiaaGreatDoorB12
import Derived.Test.YtlnpfnglphdaiaaGreatDoorB13
import Derived.Test.YtlnpfnglphdaiaaGreatDoorB14
import Derived.Test.YtlnpfnglphdaiaaGreatDoorB15
import Derived.Test.YtlnpfnglphdaiaaGreatDoorB16
import Derived.Test.YtlnpfnglphdaiaaGreatDoorB17
import Derived.Test.YtlnpfnglphdaiaaGreatDoorB18
import Derived.Test.YtlnpfnglphdaiaaGreatDoorB19
import Derived.Test.YtlnpfnglphdaiaaGreatDoorB20
import Derived.Test.YtlnpfnglphdaiaaGreatDoorB21
import Derived.Test.YtlnpfnglphdaiaaGreatDoorB22
import Derived.Test.YtlnpfnglphdaiaaGreatDoorB23
namespace Go.Proofs.YtlnpfnglphdaiaaGreatDoor.tok
open Go Go.RowKit Go.Deep Go.Proofs.YtlnpfnglphdaiaaGreatDoor.rose Go.Proofs.YtlnpfnglphdaiaaGreatDoor
set_option linter.unusedVariables false
set_option linter.unusedSimpArgs false

theorem entA : Enters Tryz.prog 104 := enters_of Tryz.func104 (by kernel_rfl) rfl

theorem one_rep {W : World} {S : Nat → Prop} {q : Nat} {t : TypeId} {a0 a1 a2 a3 a4 : Value} {T : node.Nd} (hb : W.heap[q]? = some (.cells #[a0, a1, a2, a3, a4] t)) (hq : S q)
    (h1 : node.ndSh.rep W S [a0, a1, a2, a3, a4] T) : node.ndSh.slice.rep W S [.slice (some ⟨q, 0, none⟩) [T].length 1] [T] := by
  refine ⟨some ⟨q, 0, none⟩, 1, fun _ => [a0, a1, a2, a3, a4], rfl, Nat.le_refl _, by decide, (fun h => by cases h), fun i hi => ⟨q, 0, rfl, hq, fun j u hj => ?_⟩, fun i hi => ?_⟩
  · match i, hi with
    | 0, _ =>
      match j, hj with
      | 0, hj | 1, hj | 2, hj | 3, hj | 4, hj => cases hj; simp [World.cell?, hb]
  · match i, hi with
    | 0, _ => exact h1
theorem one_wt (op : Int) (T : node.Nd) : node.wt (.mk (op, 0, ⟨#[]⟩, ⟨#[]⟩) [T]) = 1 + node.wt T := by
  rw [node.wt, node.wts, node.wts]
  show 0 + 0 + 1 + (node.wt T + 0) = _
  omega

theorem answer {E : Env} {w w1 w' : World} {cs : List Value} {T : node.Nd} {at_ at' : Nat} {bad bad' : Int} (h : St E w at_ bad) (hgw : w.grownBy w1 (some E.cb)) (hz : w.heap.size < w1.heap.size)
    (hr : node.ndSh.rep w1 (fun b => w.heap.size < b ∧ b < w1.heap.size) cs T) (hs : St E w1 at' bad') (hle : at_ ≤ at') (hx : 0 ≤ bad' ∨ (bad' = bad ∧ at_ < at' ∧ node.wt T + 2 ≤ 10 * (at' - at_)))
    (hg' : w1.grownBy w' (some w.heap.size)) : Nodes E w at_ bad (.returned (.agg cs.toArray)) w' := by
  have hc := h.cblt
  have ht := h.top
  have z2 := hg'.size
  refine ⟨at', bad', cs, T, rfl, node.ndSh.mono (node.ndSh.on hr fun b hS => hg'.block b hS.2 fun e => by simp only [Option.some.injEq] at e; omega) fun b hS => ⟨by omega, by omega⟩, hs.keep z2 fun b hS => hg'.block b ?_ fun e => ?_, ⟨hg'.os.trans hgw.os, hg'.tape.trans hgw.tape, hg'.output.trans hgw.output, by omega, fun q hq hn => (hg'.block q (by omega) fun e => by simp only [Option.some.injEq] at e; omega).trans (hgw.block q hq hn)⟩, hle, hx⟩
  · rcases hS with hS | hS | rfl
    · have := (h.ns b hS).1; omega
    · omega
    · omega
  · simp only [Option.some.injEq] at e
    rcases hS with hS | hS | hS
    · have := (h.ns _ hS).1; omega
    · omega
    · omega

theorem Pr.first2 {E : Env} {w w0 w1 w2 : World} {cs : List Value} {T : node.Nd} {at_ at' : Nat} {bad bad' : Int} (hp0 : w0.heap[w.heap.size]? = some (.cells #[.int .i64 0, .int .i64 0, .string ⟨#[]⟩, .string ⟨#[]⟩, .slice none 0 0] 36)) (b0 : Below w.heap.size w w0) (h : St E w at_ bad)
    (hr : node.ndSh.rep w1 (fun b => w0.heap.size ≤ b ∧ b < w1.heap.size) cs T) (hs : St E w1 at' bad') (hg : w0.grownBy w1 (some E.cb)) (hle : at_ ≤ at') (hx : 0 ≤ bad' ∨ (bad' = bad ∧ at_ < at' ∧ node.wt T + 2 ≤ 10 * (at' - at_))) (hw2 : w2 = w1.alloc (.cells cs.toArray 36)) :
    Pr E w w2 w1.heap.size cs T at_ bad at' bad' := by
  have hcb := h.cblt
  have hz0 := (Array.getElem?_eq_some_iff.1 hp0).1
  have hz1 := hg.size
  have b2 : Below w1.heap.size w1 w2 := by rw [hw2]; exact (Below.refl _ _).alloc (Nat.le_refl _) _
  have hz2 : w2.heap.size = w1.heap.size + 1 := by rw [hw2]; simp
  exact ⟨hs.on b2, grown_by_below (grown_below_by b0 hg) b2, (b2.block _ (by omega)).trans ((hg.block _ (by omega) fun e => by simp only [Option.some.injEq] at e; omega).trans hp0), by rw [hw2]; exact alloc_top _ _, node.ndSh.mono (node.ndSh.on hr fun b hS => b2.block b hS.2) fun b hS => ⟨by omega, by omega, by omega⟩, hcb, by omega, h.top, fun b hb => (h.ns b hb).1, hle, hx⟩

set_option maxRecDepth 100000 in
set_option maxHeartbeats 8000000 in
theorem apply_of (E : Env) (N : Nat) (HE : ∀ w at_ bad, St E w at_ bad → E.toks.length - at_ ≤ N → Calls Tryz.prog 104 #[.pointer (some ⟨E.cb, 0, none⟩)] w (Nodes E w at_ bad))
    (w : World) (at_ : Nat) (bad : Int) (h : St E w at_ bad) (hN : E.toks.length - at_ ≤ N) :
    Calls Tryz.prog 102 #[.pointer (some ⟨E.cb, 0, none⟩)] w (Nodes E w at_ bad) := by
  have HEE : Hid (∀ w at_ bad, St E w at_ bad → E.toks.length - at_ ≤ N → Calls Tryz.prog 104 #[.pointer (some ⟨E.cb, 0, none⟩)] w (Nodes E w at_ bad)) := HE
  have HS : Hid (St E w at_ bad) := h
  have HLT : Hid (E.toks.length - at_ ≤ N ∧ E.toks.length ≤ 3001) := ⟨hN, h.len⟩
  obtain ⟨w0, hw0⟩ : ∃ w0, w0 = w.alloc (.cells #[.int .i64 0, .int .i64 0, .string ⟨#[]⟩, .string ⟨#[]⟩, .slice none 0 0] 36) := ⟨_, rfl⟩
  have HW0 : Hid (w0 = w.alloc (.cells #[.int .i64 0, .int .i64 0, .string ⟨#[]⟩, .string ⟨#[]⟩, .slice none 0 0] 36)) := hw0
  have b0 : Below w.heap.size w w0 := by rw [hw0]; exact (Below.refl _ _).alloc (Nat.le_refl _) _
  have B0 : Hid (Below w.heap.size w w0) := b0
  have P0 : Hid (w0.heap[w.heap.size]? = some (.cells #[.int .i64 0, .int .i64 0, .string ⟨#[]⟩, .string ⟨#[]⟩, .slice none 0 0] 36)) := by show _ = _; rw [hw0]; exact alloc_top _ _
  have hz0 : w0.heap.size = w.heap.size + 1 := by rw [hw0]; simp
  have hcb := h.cblt
  obtain ⟨ti, hti, hzz⟩ := Option.map_eq_some_iff.1 infoNd
  simp only [Prod.mk.injEq] at hzz
  obtain ⟨hi0, hi1, hi2⟩ := hzz
  have TI : Hid (Tryz.prog.info? 36 = some ti ∧ ti.zero = some (.agg #[.int .i64 0, .int .i64 0, .string ⟨#[]⟩, .string ⟨#[]⟩, .slice none 0 0]) ∧ ti.size = 5 ∧ ti.bytes = 72) := ⟨hti, hi0, hi1, hi2⟩
  clear hti hi0 hi1 hi2
  have HX := is_any E w0 at_ bad (h.on b0) ⟨#[112, 117, 116]⟩
  clear hw0 HE h hN b0
  go_enter Tryz.func102, Tryz.ntmps102
  go_wp2_with fail
  rw [← HW0.out]
  refine HX.mono ?_
  rintro e wp ⟨⟨b, rfl, hb⟩, hB⟩
  have BP : Hid (Below w.heap.size w wp) := B0.out.trans (hB.mono (by omega))
  have SP : Hid (St E wp at_ bad) := HS.out.on BP.out
  have PP : Hid (wp.heap[w.heap.size]? = some (.cells #[.int .i64 0, .int .i64 0, .string ⟨#[]⟩, .string ⟨#[]⟩, .slice none 0 0] 36)) := (hB.block _ (by omega)).trans P0.out
  have hzp : w.heap.size < wp.heap.size := by have := hB.size; omega
  clear hB HX B0 P0
  cases b with
  | true =>
    have hb' := hb rfl
    have HX := next_any E wp at_ bad SP.out hb'.2
    clear hb hb'
    go_wp2_with fail
    refine HX.mono ?_
    rintro e w2 ⟨rfl, S2, g2⟩
    have S2' : Hid (St E w2 (at_ + 1) bad) := S2
    have G2 : Hid (wp.grownBy w2 (some E.cb)) := g2
    have P2 : Hid (w2.heap[w.heap.size]? = some (.cells #[.int .i64 0, .int .i64 0, .string ⟨#[]⟩, .string ⟨#[]⟩, .slice none 0 0] 36)) := (g2.block _ hzp fun e => by simp only [Option.some.injEq] at e; omega).trans PP.out
    have hz2 : w.heap.size < w2.heap.size := by have := g2.size; omega
    clear HX S2 g2
    have HX := HEE.out w2 (at_ + 1) bad S2'.out (by have := HLT.out; omega)
    go_wp2_with fail
    refine HX.mono ?_
    rintro e w3 ⟨at3, bad3, cs, T, rfl, hrep, S3, g3, hle3, hx3⟩
    obtain ⟨u0, u1, u2, u3, ua, uc, uk, hTT, rfl, -, -, -⟩ := node.nd_open hrep
    clear hTT
    have b4 : Below w3.heap.size w3 (w3.alloc (.cells #[.int .i64 u0, .int .i64 u1, .string u2, .string u3, .slice ua uk.length uc] 36)) := (Below.refl _ _).alloc (Nat.le_refl _) _
    have z3 := g3.size
    have R4 := one_rep (W := w3.alloc (.cells #[.int .i64 u0, .int .i64 u1, .string u2, .string u3, .slice ua uk.length uc] 36)) (S := fun b => w2.heap.size ≤ b ∧ b < w3.heap.size + 1) (alloc_top _ _) ⟨by omega, by omega⟩ (node.ndSh.mono (node.ndSh.on hrep fun b hS => b4.block b hS.2) fun b hS => ⟨hS.1, by omega⟩)
    have HN := node3_any 16 (by omega) [T] w3.heap.size 0 1 _ _ (fun b hS => by simp; omega) (by simp) R4
    have HD : Hid (w.grownBy w3 (some E.cb) ∧ St E w3 at3 bad3 ∧ w3.heap[w.heap.size]? = some (.cells #[.int .i64 0, .int .i64 0, .string ⟨#[]⟩, .string ⟨#[]⟩, .slice none 0 0] 36)) := ⟨grown_below_by BP.out (grown_by_by G2.out g3), S3, (g3.block _ hz2 fun e => by simp only [Option.some.injEq] at e; omega).trans P2.out⟩
    have HX3 : Hid (at_ + 1 ≤ at3 ∧ (0 ≤ bad3 ∨ (bad3 = bad ∧ at_ + 1 < at3 ∧ node.wt T + 2 ≤ 10 * (at3 - (at_ + 1))))) := ⟨hle3, hx3⟩
    have B4 : Hid (Below w3.heap.size w3 (w3.alloc (.cells #[.int .i64 u0, .int .i64 u1, .string u2, .string u3, .slice ua uk.length uc] 36))) := b4
    clear HX hrep S3 g3 hle3 hx3 R4 b4
    go_wp2_with fail
    refine HN.mono ?_
    rintro e w5 ⟨⟨cs5, rfl, hrep5⟩, hB5⟩
    obtain ⟨v0, v1, v2, v3, va, vc, vk, hTT, rfl, -, -, -⟩ := node.nd_open hrep5
    clear hTT
    have B5 : Hid (Below w3.heap.size w3 w5) := B4.out.trans (hB5.mono (by simp))
    have P5 : Hid (w5.heap[w.heap.size]? = some (.cells #[.int .i64 0, .int .i64 0, .string ⟨#[]⟩, .string ⟨#[]⟩, .slice none 0 0] 36)) := (B5.out.block _ (by omega)).trans HD.out.2.2
    have R5 : Hid (node.ndSh.rep w5 (fun b => w2.heap.size ≤ b ∧ b < w5.heap.size) [.int .i64 v0, .int .i64 v1, .string v2, .string v3, .slice va vk.length vc] (.mk (16, 0, ⟨#[]⟩, ⟨#[]⟩) [T])) := node.ndSh.mono hrep5 fun b hS => by
      have := hB5.size
      simp at this
      rcases hS with hS | hS
      · exact ⟨hS.1, by omega⟩
      · have h2 := hS.1
        simp at h2
        exact ⟨by omega, hS.2⟩
    have HT : Hid (∀ w', w5.grownBy w' (some w.heap.size) → Nodes E w at_ bad (.returned (.agg [.int .i64 v0, .int .i64 v1, .string v2, .string v3, .slice va vk.length vc].toArray)) w') := fun w' hg' => by
      have h3 := HX3.out
      refine answer HS.out (grown_by_below HD.out.1 B5.out) (by have := B5.out.size; omega) (node.ndSh.mono R5.out fun b hS => ⟨by omega, hS.2⟩) (HD.out.2.1.on B5.out) (by omega) ?_ hg'
      rcases h3.2 with h | ⟨e, h, h'⟩
      · exact .inl h
      · exact .inr ⟨e, by omega, by rw [one_wt]; omega⟩
    clear HN hrep5 hB5 R5
    have r0 : w5.cell? ⟨w.heap.size, 0, none⟩ = some (.int .i64 0) := blk_cellP (i := 0) P5.out rfl
    have r1 : w5.cell? ⟨w.heap.size, 1, none⟩ = some (.int .i64 0) := blk_cellP (i := 1) P5.out rfl
    have r2 : w5.cell? ⟨w.heap.size, 2, none⟩ = some (.string ⟨#[]⟩) := blk_cellP (i := 2) P5.out rfl
    have r3 : w5.cell? ⟨w.heap.size, 3, none⟩ = some (.string ⟨#[]⟩) := blk_cellP (i := 3) P5.out rfl
    have r4 : w5.cell? ⟨w.heap.size, 4, none⟩ = some (.slice none 0 0) := blk_cellP (i := 4) P5.out rfl
    have fr : ∀ o, w5.frozen? ⟨w.heap.size, o, none⟩ = false := fun o => blk_freeP P5.out
    go_wp2
    refine bodyPost_ret (v := .agg #[.int .i64 v0, .int .i64 v1, .string v2, .string v3, .slice va vk.length vc]) (by simp [results, Tryz.f102, go_sem, r0, r1, r2, r3, r4]) rfl ?_
    refine HT.out _ ?_
    repeat first | exact grown_self _ _ | (refine grown_by_by ?_ (grown_setP _ _ _ _))
  | false =>
    clear hb
    have HX := con_any E wp at_ bad SP.out
    go_wp2_with fail
    refine HX.mono ?_
    rintro e wc ⟨⟨b, rfl, hb⟩, hB⟩
    have BC : Hid (Below w.heap.size w wc) := BP.out.trans (hB.mono (by omega))
    have SC : Hid (St E wc at_ bad) := HS.out.on BC.out
    have PC : Hid (wc.heap[w.heap.size]? = some (.cells #[.int .i64 0, .int .i64 0, .string ⟨#[]⟩, .string ⟨#[]⟩, .slice none 0 0] 36)) := (hB.block _ (by omega)).trans PP.out
    have hzc : w.heap.size < wc.heap.size := by have := hB.size; omega
    clear hB HX BP SP PP
    cases b with
    | true =>
      clear hb
      have HX := text3_any E wc at_ bad SC.out true
      go_wp2_with fail
      refine HX.mono ?_
      rintro e w2 ⟨at2, bad2, t, rfl, ht, S2, g2, hle2, hx2⟩
      have K3 : Hid (Ks E w (w2.alloc (.cells #[.int .i64 15, .int .i64 0, .string t, .string ⟨#[]⟩, .slice none 0 0] 36)) w2.heap.size 15 t (.slice none 0 0) [] at_ bad at2 bad2) := by
        have b3 : Below w2.heap.size w2 (w2.alloc (.cells #[.int .i64 15, .int .i64 0, .string t, .string ⟨#[]⟩, .slice none 0 0] 36)) := (Below.refl _ _).alloc (Nat.le_refl _) _
        have z2 := g2.size
        refine ⟨S2.on b3, grown_by_below (grown_below_by BC.out g2) b3, (b3.block _ (by omega)).trans ((g2.block _ hzc fun e => by simp only [Option.some.injEq] at e; omega).trans PC.out), alloc_top _ _, Grown.nil _ _ _ _, hcb, by omega, HS.out.top, fun b hb => (HS.out.ns b hb).1, hle2, ht, ?_⟩
        rcases hx2 with ⟨h1, h2⟩ | h2
        · exact .inr ⟨h2, by omega, by simp [node.wts]; omega⟩
        · exact .inl h2
      have hz2 : w.heap.size < w2.heap.size := by have := g2.size; omega
      clear HX S2 g2 hle2 hx2 ht
      go_wp2
      go_loopw [19] (fun _ wr => ∃ (v : Value) (xs : List node.Nd) (at' : Nat) (bad' : Int), Hid (Ks E w wr w2.heap.size 15 t v xs at_ bad at' bad')) (fun _ wr => msr E wr)
      case atStart => exact ⟨_, [], at2, bad2, K3⟩
      case round =>
        clear K3
        obtain ⟨v, xs, at', bad', HK⟩ := hrel
        have HM : Hid (msr E wr = 2 * (E.toks.length - at') + (if bad' < 0 then 1 else 0)) := HK.out.st.msr
        have HX := atomic_any E wr at' bad' HK.out.st
        go_wp2_with fail
        refine HX.mono ?_
        rintro e w3 ⟨⟨b, rfl, hb⟩, hB⟩
        have K3 : Hid (Ks E w w3 w2.heap.size 15 t v xs at_ bad at' bad') := HK.out.step hB
        clear hB HX
        cases b with
        | true =>
          have HBD : Hid (bad' < 0 ∧ at' + 1 < E.toks.length) := hb rfl
          clear hb
          obtain ⟨av, cv, hv⟩ := K3.out.grown.slice
          have HV : Hid (v = .slice av xs.length cv) := hv
          clear hv
          obtain ⟨cssG, FG, grow, grep, gin, gap⟩ := K3.out.grown
          have GR : Hid (w3.ownsRow (w2.heap.size + 1) 36 5 v xs.length (flat cssG xs.length)) := grow
          have GP : Hid ((∀ j (h : j < xs.length), node.ndSh.rep w3 (FG j) (cssG j) xs[j]) ∧ (∀ j, j < xs.length → ∀ b, FG j b → w2.heap.size + 1 ≤ b ∧ b < w3.heap.size ∧ v.ownBlock ≠ some b) ∧ ∀ j l, j < xs.length → l < xs.length → j ≠ l → ∀ b, FG j b → ¬ FG l b) := ⟨grep, gin, gap⟩
          have HOB : Hid (∀ g, v.ownBlock = some g → w2.heap.size + 1 ≤ g ∧ g < w3.heap.size) := fun g hg => K3.out.grown.own hg
          have hab : w2.heap.size < w3.heap.size := K3.out.ablt
          have g4 : w3.cell? ⟨w2.heap.size, 4, none⟩ = some v := blk_cellP (i := 4) K3.out.acc rfl
          have HLN : Hid (xs.length ≤ 30010) := by
            rcases K3.out.hx with h | ⟨-, h, h'⟩
            · have := HBD.out.1; omega
            · have := HLT.out.2; have := HBD.out.2; show _ ≤ _; omega
          have hcall := HEE.out w3.drew at' bad' (K3.out.st.on (Below.refl _ _).drew) (by have := HLT.out; have := K3.out.le; omega)
          clear grow grep gin gap
          go_wp2_with fail
          go_region_law
            (first
              | (refine step_append_own rfl _ _ 34 rfl (w2.heap.size + 1) 36 ti _ 5 72 Tryz.underlying34 TI.out.1 TI.out.2.1 TI.out.2.2.1 TI.out.2.2.2 rfl (by decide) v xs.length _ (by first | (simp [Act.eval, HV.out]; done) | (simp [Act.eval, Act.put, HV.out]; done)) RA.out ⟨w5.heap.size, 0, none⟩ 1 1 [.int .i64 u0, .int .i64 u1, .string u2, .string u3, .slice ua uk.length uc] rfl rfl (cells_new _ _ _ _ rfl) (by simp [Value.oneCell']) (by unfold maxLen; have := HLN.out; omega) (by have := HLN.out; omega) (by have := Z1.out; simp; omega) ?_; intro qa ql qc w6 hown6 hgrow6 hat6
                 have hO6 : w6.heap[w2.heap.size]? = some (.cells #[.int .i64 15, .int .i64 0, .string t, .string ⟨#[]⟩, v] 36) := (hgrow6.block w2.heap.size (by have := Z1.out; simp; omega) (fun e => by have := (HOB.out _ e.symm).1; omega)).trans ((Below.heap_alloc _ _ _ (by have := Z1.out; omega)).trans O1.out)
                 have y0 : w6.cell? ⟨w2.heap.size, 4, none⟩ = some v := blk_cellP (i := 4) hO6 rfl
                 have y1 : w6.frozen? ⟨w2.heap.size, 4, none⟩ = false := blk_freeP (i := 4) hO6)
              | (refine step_call rfl 104 entA _ _ rfl _ _ hcall (by first | (simp [Act.eval]; done) | (simp [Act.eval, Act.put]; done) | rfl) ?_; rintro e w5 ⟨at5, bad5, cs, T, rfl, hrep, S5, g5, hle5, hx5⟩
                 obtain ⟨u0, u1, u2, u3, ua, uc, uk, hTT, rfl, -, -, -⟩ := node.nd_open hrep
                 clear hTT
                 have Z1 : Hid (w3.heap.size ≤ w5.heap.size) := g5.size
                 have O1 : Hid (w5.heap[w2.heap.size]? = some (.cells #[.int .i64 15, .int .i64 0, .string t, .string ⟨#[]⟩, v] 36)) := (g5.block _ hab fun e => by simp only [Option.some.injEq] at e; omega).trans K3.out.acc
                 have g4' : w5.cell? ⟨w2.heap.size, 4, none⟩ = some v := blk_cellP (i := 4) O1.out rfl
                 have g4'' : ∀ o', (w5.alloc o').cell? ⟨w2.heap.size, 4, none⟩ = some v := fun o' => (((Below.refl _ w5).alloc (Nat.le_refl _) o').cell (p := ⟨w2.heap.size, 4, none⟩) (by have := Z1.out; show w2.heap.size < _; omega)).trans g4'
                 have RA : Hid ((w5.alloc (.cells #[.int .i64 u0, .int .i64 u1, .string u2, .string u3, .slice ua uk.length uc] 36)).ownsRow (w2.heap.size + 1) 36 5 v xs.length (flat cssG xs.length)) := by
                   obtain ⟨hl, hv⟩ := GR.out
                   refine ⟨hl, ?_⟩
                   rcases hv with h0 | ⟨g, cap, cur, h1, h2, h3, h4⟩
                   · exact Or.inl h0
                   · have hg := (Array.getElem?_eq_some_iff.1 h3).1
                     exact Or.inr ⟨g, cap, cur, h1, h2, by rw [Below.heap_alloc _ _ _ (Nat.lt_of_lt_of_le hg Z1.out), g5.block g hg fun e => by simp only [Option.some.injEq] at e; omega]; exact h3, h4⟩
                 refine ⟨_, rfl, ?_⟩))
          all_goals
            have NX : Hid (Ks E w (w6.setCell ⟨w2.heap.size, 4, none⟩ (.slice qa ql qc)) w2.heap.size 15 t (.slice qa ql qc) (xs ++ [T]) at_ bad at5 bad5) :=
              K3.out.push (w1 := w5) (w2 := w5.alloc (.cells #[.int .i64 u0, .int .i64 u1, .string u2, .string u3, .slice ua uk.length uc] 36)) (cs := [.int .i64 u0, .int .i64 u1, .string u2, .string u3, .slice ua uk.length uc]) HBD.out.1 ⟨g5.os, g5.tape, g5.output, g5.size, g5.block⟩ S5 hle5 hx5 hrep ((Below.refl _ _).alloc (Nat.le_refl _) _) GP.out.1 GP.out.2.1 GP.out.2.2 HOB.out hown6 hgrow6 hat6 rfl
            have HM5 : Hid (at' ≤ at5 ∧ (0 ≤ bad5 ∨ at' < at5)) := ⟨hle5, by
              rcases hx5 with h | h
              · exact .inl h
              · exact .inr h.2.1⟩
            clear hown6 hgrow6 hat6 hO6 y0 y1 hrep S5 g5 hle5 hx5 g4 g4' g4'' O1 RA Z1 hcall
            go_wp2
            go_round
            case rel => exact ⟨_, _, at5, bad5, NX⟩
            case measure =>
              rw [NX.out.st.msr, HM.out]
              have h1 := HM5.out
              have h2 := HBD.out
              rw [if_pos h2.1]
              split <;> omega
        | false =>
          clear hb HM
          obtain ⟨av, cv, hv⟩ := K3.out.grown.slice
          subst hv
          have y0 : w3.cell? ⟨w2.heap.size, 0, none⟩ = some (.int .i64 15) := blk_cellP (i := 0) K3.out.acc rfl
          have y1 : w3.cell? ⟨w2.heap.size, 1, none⟩ = some (.int .i64 0) := blk_cellP (i := 1) K3.out.acc rfl
          have y2 : w3.cell? ⟨w2.heap.size, 2, none⟩ = some (.string t) := blk_cellP (i := 2) K3.out.acc rfl
          have y3 : w3.cell? ⟨w2.heap.size, 3, none⟩ = some (.string ⟨#[]⟩) := blk_cellP (i := 3) K3.out.acc rfl
          have y4 : w3.cell? ⟨w2.heap.size, 4, none⟩ = some (.slice av xs.length cv) := blk_cellP (i := 4) K3.out.acc rfl
          have r0 : w3.cell? ⟨w.heap.size, 0, none⟩ = some (.int .i64 0) := blk_cellP (i := 0) K3.out.res rfl
          have r1 : w3.cell? ⟨w.heap.size, 1, none⟩ = some (.int .i64 0) := blk_cellP (i := 1) K3.out.res rfl
          have r2 : w3.cell? ⟨w.heap.size, 2, none⟩ = some (.string ⟨#[]⟩) := blk_cellP (i := 2) K3.out.res rfl
          have r3 : w3.cell? ⟨w.heap.size, 3, none⟩ = some (.string ⟨#[]⟩) := blk_cellP (i := 3) K3.out.res rfl
          have r4 : w3.cell? ⟨w.heap.size, 4, none⟩ = some (.slice none 0 0) := blk_cellP (i := 4) K3.out.res rfl
          have fr : ∀ o, w3.frozen? ⟨w.heap.size, o, none⟩ = false := fun o => blk_freeP K3.out.res
          go_wp2
          refine bodyPost_ret (v := .agg #[.int .i64 15, .int .i64 0, .string t, .string ⟨#[]⟩, .slice av xs.length cv]) (by simp [results, Tryz.f102, go_sem, r0, r1, r2, r3, r4]) rfl ?_
          refine K3.out.done (by omega) ?_
          repeat first | exact grown_self _ _ | (refine grown_by_by ?_ (grown_setP _ _ _ _))
    | false =>
      clear hb
      have HX := HEE.out wc at_ bad SC.out HLT.out.1
      go_wp2_with fail
      refine HX.mono ?_
      rintro e w1 ⟨at1, bad1, cs, T1, rfl, hrep, S1, g1, hle1, hx1⟩
      obtain ⟨z0, z1, z2, z3, za, zc, zk, hTT, rfl, -, -, -⟩ := node.nd_open hrep
      clear hTT
      have P2 : Hid (Pr E w (w1.alloc (.cells #[.int .i64 z0, .int .i64 z1, .string z2, .string z3, .slice za zk.length zc] 36)) w1.heap.size [.int .i64 z0, .int .i64 z1, .string z2, .string z3, .slice za zk.length zc] T1 at_ bad at1 bad1) := Pr.first2 PC.out BC.out HS.out hrep S1 g1 hle1 hx1 rfl
      clear HX hrep S1 g1 hle1 hx1
      go_wp2
      go_loopw [31] (fun _ wr => ∃ (x0 x1 : Int) (x2 x3 : ByteArray) (xa : Option Addr) (xl xc : Nat) (T : node.Nd) (at' : Nat) (bad' : Int), Hid (Pr E w wr w1.heap.size [.int .i64 x0, .int .i64 x1, .string x2, .string x3, .slice xa xl xc] T at_ bad at' bad')) (fun _ wr => msr E wr)
      case atStart => exact ⟨z0, z1, z2, z3, za, zk.length, zc, T1, at1, bad1, P2⟩
      case round =>
        clear P2
        obtain ⟨x0, x1, x2, x3, xa, xl, xc, T, at', bad', HP⟩ := hrel
        have HM : Hid (msr E wr = 2 * (E.toks.length - at') + (if bad' < 0 then 1 else 0)) := HP.out.st.msr
        have HX := atomic_any E wr at' bad' HP.out.st
        go_wp2_with fail
        refine HX.mono ?_
        rintro e w3 ⟨⟨b, rfl, hb⟩, hB⟩
        have P3 : Hid (Pr E w w3 w1.heap.size [.int .i64 x0, .int .i64 x1, .string x2, .string x3, .slice xa xl xc] T at_ bad at' bad') := HP.out.step (grown_none _ hB) (HP.out.st.on hB) (Nat.le_refl _) (.inr rfl)
        clear hB HX
        cases b with
        | false =>
          clear hb HM
          have y0 : w3.cell? ⟨w1.heap.size, 0, none⟩ = some (.int .i64 x0) := blk_cellP (i := 0) P3.out.acc rfl
          have y1 : w3.cell? ⟨w1.heap.size, 1, none⟩ = some (.int .i64 x1) := blk_cellP (i := 1) P3.out.acc rfl
          have y2 : w3.cell? ⟨w1.heap.size, 2, none⟩ = some (.string x2) := blk_cellP (i := 2) P3.out.acc rfl
          have y3 : w3.cell? ⟨w1.heap.size, 3, none⟩ = some (.string x3) := blk_cellP (i := 3) P3.out.acc rfl
          have y4 : w3.cell? ⟨w1.heap.size, 4, none⟩ = some (.slice xa xl xc) := blk_cellP (i := 4) P3.out.acc rfl
          have r0 : w3.cell? ⟨w.heap.size, 0, none⟩ = some (.int .i64 0) := blk_cellP (i := 0) P3.out.res rfl
          have r1 : w3.cell? ⟨w.heap.size, 1, none⟩ = some (.int .i64 0) := blk_cellP (i := 1) P3.out.res rfl
          have r2 : w3.cell? ⟨w.heap.size, 2, none⟩ = some (.string ⟨#[]⟩) := blk_cellP (i := 2) P3.out.res rfl
          have r3 : w3.cell? ⟨w.heap.size, 3, none⟩ = some (.string ⟨#[]⟩) := blk_cellP (i := 3) P3.out.res rfl
          have r4 : w3.cell? ⟨w.heap.size, 4, none⟩ = some (.slice none 0 0) := blk_cellP (i := 4) P3.out.res rfl
          have fr : ∀ o, w3.frozen? ⟨w.heap.size, o, none⟩ = false := fun o => blk_freeP P3.out.res
          go_wp2
          refine bodyPost_ret (v := .agg #[.int .i64 x0, .int .i64 x1, .string x2, .string x3, .slice xa xl xc]) (by simp [results, Tryz.f102, go_sem, r0, r1, r2, r3, r4]) rfl ?_
          refine P3.out.done ?_
          repeat first | exact grown_self _ _ | (refine grown_by_by ?_ (grown_setP _ _ _ _))
        | true =>
          have HBD : Hid (bad' < 0 ∧ at' + 1 < E.toks.length) := hb rfl
          clear hb
          have HX := HEE.out w3 at' bad' P3.out.st (by have := HLT.out; have := P3.out.le; omega)
          go_wp2_with fail
          refine HX.mono ?_
          rintro e w5 ⟨at5, bad5, cs, T2, rfl, hrep, S5, g5, hle5, hx5⟩
          obtain ⟨u0, u1, u2, u3, ua, uc, uk, hTT, rfl, -, -, -⟩ := node.nd_open hrep
          clear hTT
          obtain ⟨w6, hw6⟩ : ∃ w6, w6 = w5.alloc (.cells #[.int .i64 u0, .int .i64 u1, .string u2, .string u3, .slice ua uk.length uc] 36) := ⟨_, rfl⟩
          have HW6 : Hid (w6 = w5.alloc (.cells #[.int .i64 u0, .int .i64 u1, .string u2, .string u3, .slice ua uk.length uc] 36)) := hw6
          have b6 : Below w5.heap.size w5 w6 := by rw [hw6]; exact (Below.refl _ _).alloc (Nat.le_refl _) _
          have hz6 : w6.heap.size = w5.heap.size + 1 := by rw [hw6]; simp
          have hd5 : 0 ≤ bad5 ∨ bad5 = bad' := by
            rcases hx5 with h | ⟨h, -⟩
            · exact .inl h
            · exact .inr h
          have P6 : Hid (Pr E w w6 w1.heap.size [.int .i64 x0, .int .i64 x1, .string x2, .string x3, .slice xa xl xc] T at_ bad at5 bad5) := (P3.out.step g5 S5 hle5 hd5).step (grown_none _ b6) (S5.on b6) (Nat.le_refl _) (.inr rfl)
          have hab4 := P3.out.ablt
          have hwb := P3.out.ab
          have hz5 := g5.size
          have A6 : Hid (w6.heap[w5.heap.size]? = some (.cells #[.int .i64 u0, .int .i64 u1, .string u2, .string u3, .slice ua uk.length uc] 36)) := by show _ = _; rw [hw6]; exact alloc_top _ _
          obtain ⟨w7, hw7⟩ : ∃ w7, w7 = w6.alloc (.cells #[.int .i64 x0, .int .i64 x1, .string x2, .string x3, .slice xa xl xc, .int .i64 u0, .int .i64 u1, .string u2, .string u3, .slice ua uk.length uc] 36) := ⟨_, rfl⟩
          have HW7 : Hid (w7 = w6.alloc (.cells #[.int .i64 x0, .int .i64 x1, .string x2, .string x3, .slice xa xl xc, .int .i64 u0, .int .i64 u1, .string u2, .string u3, .slice ua uk.length uc] 36)) := hw7
          have b7 : Below w6.heap.size w6 w7 := by rw [hw7]; exact (Below.refl _ _).alloc (Nat.le_refl _) _
          have hz7 : w7.heap.size = w6.heap.size + 1 := by rw [hw7]; simp
          have P7 : Hid (Pr E w w7 w1.heap.size [.int .i64 x0, .int .i64 x1, .string x2, .string x3, .slice xa xl xc] T at_ bad at5 bad5) := P6.out.step (grown_none _ b7) (P6.out.st.on b7) (Nat.le_refl _) (.inr rfl)
          have R7 := pair_rep (W := w7) (S := fun b => w.heap.size < b ∧ b < w7.heap.size ∧ b ≠ w1.heap.size) (by rw [hw7]; exact alloc_top _ _) ⟨by omega, by omega, by omega⟩ P7.out.rep (node.ndSh.mono (node.ndSh.on (node.ndSh.on hrep fun b hS => b6.block b hS.2) fun b hS => b7.block b (by omega)) fun b hS => ⟨by omega, by omega, by omega⟩)
          have HN := node3_any 4 (by omega) [T, T2] w6.heap.size 0 2 w7 _ (fun b hS => hS.2.1) (by simp) R7
          have HWT : Hid (0 ≤ bad5 ∨ (bad5 = bad ∧ at_ < at5 ∧ node.wt (.mk (4, 0, ⟨#[]⟩, ⟨#[]⟩) [T, T2]) + 2 ≤ 10 * (at5 - at_))) := by
            rcases hx5 with h5 | ⟨e5, h5, h5'⟩
            · exact .inl h5
            · rcases P3.out.hx with h4 | ⟨e4, h4, h4'⟩
              · exact .inl (by omega)
              · refine .inr ⟨by omega, by omega, ?_⟩
                rcases P3.out.hx with h3 | ⟨e3, h3, h3'⟩
                · have := HBD.out.1; omega
                · rw [pair_wt]
                  omega
          have HM5 : Hid (at' ≤ at5 ∧ (0 ≤ bad5 ∨ at' < at5)) := ⟨hle5, by rcases hx5 with h | h; exact .inl h; exact .inr h.2.1⟩
          have y0 : w6.cell? ⟨w1.heap.size, 0, none⟩ = some (.int .i64 x0) := blk_cellP (i := 0) P6.out.acc rfl
          have y1 : w6.cell? ⟨w1.heap.size, 1, none⟩ = some (.int .i64 x1) := blk_cellP (i := 1) P6.out.acc rfl
          have y2 : w6.cell? ⟨w1.heap.size, 2, none⟩ = some (.string x2) := blk_cellP (i := 2) P6.out.acc rfl
          have y3 : w6.cell? ⟨w1.heap.size, 3, none⟩ = some (.string x3) := blk_cellP (i := 3) P6.out.acc rfl
          have y4 : w6.cell? ⟨w1.heap.size, 4, none⟩ = some (.slice xa xl xc) := blk_cellP (i := 4) P6.out.acc rfl
          rw [hw6] at y0 y1 y2 y3 y4
          clear HX hrep S5 g5 hle5 hx5 hd5 hw7 b7 R7 b6 hw6
          go_wp2_with fail
          rw [← HW6.out, ← HW7.out]
          rw [hz6] at HN
          refine HN.mono ?_
          rintro e w8 ⟨⟨cs3, rfl, hrep3⟩, hB8⟩
          obtain ⟨v0, v1, v2, v3, va, vc, vk, hTT, rfl, -, -, -⟩ := node.nd_open hrep3
          clear hTT
          have P8 : Hid (Pr E w w8 w1.heap.size [.int .i64 x0, .int .i64 x1, .string x2, .string x3, .slice xa xl xc] T at_ bad at5 bad5) := P7.out.step (grown_none _ hB8) (P7.out.st.on hB8) (Nat.le_refl _) (.inr rfl)
          have R8 : Hid (node.ndSh.rep w8 (fun b => w.heap.size < b ∧ b < w8.heap.size ∧ b ≠ w1.heap.size) [.int .i64 v0, .int .i64 v1, .string v2, .string v3, .slice va vk.length vc] (.mk (4, 0, ⟨#[]⟩, ⟨#[]⟩) [T, T2])) := node.ndSh.mono hrep3 fun b hS => by
            have := hB8.size
            rcases hS with hS | hS
            · exact ⟨hS.1, by omega, hS.2.2⟩
            · exact ⟨by omega, hS.2, by omega⟩
          have k0 : w8.cell? ⟨w1.heap.size, 0, none⟩ = some (.int .i64 x0) := blk_cellP (i := 0) P8.out.acc rfl
          have k1 : w8.cell? ⟨w1.heap.size, 1, none⟩ = some (.int .i64 x1) := blk_cellP (i := 1) P8.out.acc rfl
          have k2 : w8.cell? ⟨w1.heap.size, 2, none⟩ = some (.string x2) := blk_cellP (i := 2) P8.out.acc rfl
          have k3 : w8.cell? ⟨w1.heap.size, 3, none⟩ = some (.string x3) := blk_cellP (i := 3) P8.out.acc rfl
          have k4 : w8.cell? ⟨w1.heap.size, 4, none⟩ = some (.slice xa xl xc) := blk_cellP (i := 4) P8.out.acc rfl
          have fr : ∀ o, w8.frozen? ⟨w1.heap.size, o, none⟩ = false := fun o => blk_freeP P8.out.acc
          clear HN hrep3 hB8 y0 y1 y2 y3 y4
          have NX : Hid (Pr E w (((((w8.setCell ⟨w1.heap.size, 0, none⟩ (.int .i64 v0)).setCell ⟨w1.heap.size, 1, none⟩ (.int .i64 v1)).setCell ⟨w1.heap.size, 2, none⟩ (.string v2)).setCell ⟨w1.heap.size, 3, none⟩ (.string v3)).setCell ⟨w1.heap.size, 4, none⟩ (.slice va vk.length vc)) w1.heap.size [.int .i64 v0, .int .i64 v1, .string v2, .string v3, .slice va vk.length vc] (.mk (4, 0, ⟨#[]⟩, ⟨#[]⟩) [T, T2]) at_ bad at5 bad5) := by
            refine P8.out.put ?_ ?_ R8.out HWT.out
            · repeat first | exact grown_self _ _ | (refine grown_by_by ?_ (grown_setP _ _ _ _))
            · have := P8.out.acc
              simp [World.setCell, Array.getElem?_modify, this]
          go_wp2
          go_round
          case rel => exact ⟨v0, v1, v2, v3, va, vk.length, vc, _, at5, bad5, NX⟩
          case measure =>
            rw [NX.out.st.msr, HM.out]
            have := HM5.out
            have := HBD.out
            rw [if_pos this.1]
            split <;> omega

end Go.Proofs.YtlnpfnglphdaiaaGreatDoor.tok

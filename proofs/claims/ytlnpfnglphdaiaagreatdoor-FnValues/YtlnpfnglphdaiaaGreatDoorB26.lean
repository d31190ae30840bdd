/-
  The model's l3E, from what it says with fewer tokens left, and from what l3Let, l3Rec, l3Case and l3Compare say.
-/
import Derived.Test.YtlnpfnglphdaiaaGreatDoorB1
import Derived.Test.YtlnpfnglphdaiaaGreatDoorB2
import Derived.Test.YtlnpfnglphdaiaaGreatDoorB3
import Derived.Test.YtlnpfnglphdaiaaGreatDoorB4
import Derived.Test.YtlnpfnglphdaiaaGreatDoorB5
import Derived.Test.YtlnpfnglphdaiaaGreatDoorB6
import Derived.Test.YtlnpfnglphdaiaaGreatDoorB7
import Derived.Test.YtlnpfnglphdaiaaGreatDoorB8
import Derived.Test.YtlnpfnglphdaiaaGreatDoorB9
import Derived.Test.YtlnpfnglphdaiaaGreatDoorB10
import Derived.Test.YtlnpfnglphdaiaaGreatDoorB11
import Derived.Test.YtlnpfnglphdaiaaGreatDoorB12
import Derived.Test.YtlnpfnglphdaiaaGreatDoorB13
import Derived.Test.YtlnpfnglphdaiaaGreatDoorB14
import Derived.Test.YtlnpfnglphdaiaaGreatDoorB15
import Derived.Test.YtlnpfnglphdaiaaGreatDoorB16
import Derived.Test.YtlnpfnglphdaiaaGreatDoorB17
import Derived.Test.YtlnpfnglphdaiaaGreatDoorB18
import Derived.Test.YtlnpfnglphdaiaaGreatDoorB19
import Derived.Test.YtlnpfnglphdaiaaGreatDoorB20
import Derived.Test.YtlnpfnglphdaiaaGreatDoorB21
import Derived.Test.YtlnpfnglphdaiaaGreatDoorB22
import Derived.Test.YtlnpfnglphdaiaaGreatDoorB23
import Derived.Test.YtlnpfnglphdaiaaGreatDoorB24
import Derived.Test.YtlnpfnglphdaiaaGreatDoorB25
namespace Go.Proofs.YtlnpfnglphdaiaaGreatDoor.tok
open Go Go.RowKit Go.Deep Go.Proofs.YtlnpfnglphdaiaaGreatDoor.rose Go.Proofs.YtlnpfnglphdaiaaGreatDoor
set_option linter.unusedVariables false
set_option linter.unusedSimpArgs false

def Told (f : FuncId) (E : Env) (ok : Nat → Prop) : Prop := ∀ w at_ bad, St E w at_ bad → ok at_ → Calls Tryz.prog f #[.pointer (some ⟨E.cb, 0, none⟩)] w (Nodes E w at_ bad)

set_option maxRecDepth 100000 in
set_option maxHeartbeats 8000000 in
theorem e_of (E : Env) (N : Nat) (HE : Told 45 E fun at_ => E.toks.length - at_ < N) (HL : Told 63 E fun at_ => E.toks.length - at_ ≤ N ∧ at_ + 1 < E.toks.length) (HR : Told 64 E fun at_ => E.toks.length - at_ ≤ N ∧ at_ + 1 < E.toks.length)
    (HC : Told 65 E fun at_ => E.toks.length - at_ ≤ N ∧ at_ + 1 < E.toks.length) (HM : Told 67 E fun at_ => E.toks.length - at_ ≤ N) (w : World) (at_ : Nat) (bad : Int) (h : St E w at_ bad) (hN : E.toks.length - at_ ≤ N) :
    Calls Tryz.prog 45 #[.pointer (some ⟨E.cb, 0, none⟩)] w (Nodes E w at_ bad) := by
  have HE' : Hid _ := HE
  have HL' : Hid _ := HL
  have HR' : Hid _ := HR
  have HC' : Hid _ := HC
  have HM' : Hid _ := HM
  have HS : Hid (St E w at_ bad) := h
  have HN : Hid (E.toks.length - at_ ≤ N) := hN
  obtain ⟨w0, hw0⟩ : ∃ w0, w0 = w.alloc (.cells #[.int .i64 0, .int .i64 0, .string ⟨#[]⟩, .string ⟨#[]⟩, .slice none 0 0] 36) := ⟨_, rfl⟩
  have HW0 : Hid (w0 = w.alloc (.cells #[.int .i64 0, .int .i64 0, .string ⟨#[]⟩, .string ⟨#[]⟩, .slice none 0 0] 36)) := hw0
  have C0 : Hid (Cx E w w0 at_ bad) := Cx.start h hw0
  clear hw0 HE HL HR HC HM h hN
  go_enter Tryz.func45, Tryz.ntmps45
  have HX := is_any E w0 at_ bad C0.out.st ⟨#[102, 117, 110]⟩
  go_wp2_with fail
  rw [← HW0.out]
  refine HX.mono ?_
  rintro e w1 ⟨⟨b, rfl, hb⟩, hB⟩
  have C1 : Hid (Cx E w w1 at_ bad) := C0.out.on hB
  clear hB HX
  cases b with
  | true =>
    have HB : Hid (bad < 0 ∧ at_ + 1 < E.toks.length) := hb rfl
    clear hb
    have HX := next_any E w1 at_ bad C1.out.st HB.out.2
    go_wp2_with fail
    refine HX.mono ?_
    rintro e w2 ⟨rfl, S, g⟩
    have C2 : Hid (Cx E w w2 (at_ + 1) bad) := C1.out.by g S
    clear HX S g
    have HX := text3_any E w2 (at_ + 1) bad C2.out.st false
    go_wp2_with fail
    refine HX.mono ?_
    rintro e w3 ⟨at3, bad3, t, rfl, ht, S, g, hle, hx⟩
    have C3 : Hid (Cx E w w3 at3 bad3) := C2.out.by g S
    have R3 : Hid (t.size ≤ 8 ∧ (at_ + 1) ≤ at3 ∧ ((at3 = (at_ + 1) + 1 ∧ bad3 = bad) ∨ 0 ≤ bad3)) := ⟨ht, hle, hx⟩
    clear HX S g ht hle hx
    have HX := take_any E w3 at3 bad3 C3.out.st ⟨#[45, 62]⟩
    go_wp2_with fail
    refine HX.mono ?_
    rintro e w4 ⟨at4, bad4, rfl, S, g, hle, hx⟩
    have C4 : Hid (Cx E w w4 at4 bad4) := C3.out.by g S
    have R4 : Hid (at3 ≤ at4 ∧ ((at4 = at3 + 1 ∧ bad4 = bad3) ∨ 0 ≤ bad4)) := ⟨hle, hx⟩
    clear HX S g hle hx
    have HX := HE'.out w4 at4 bad4 C4.out.st (by have := HN.out; have := HB.out; have := R3.out; have := R4.out; omega)
    go_wp2_with fail
    refine HX.mono ?_
    rintro e w5 ⟨at5, bad5, cs, T5, rfl, hrep, S, g, hle, hx⟩
    obtain ⟨u5_0, u5_1, u5_2, u5_3, ua5, uc5, uk, hTT, rfl, -, -, -⟩ := node.nd_open hrep
    clear hTT
    obtain ⟨ul5, hul⟩ : ∃ n, n = uk.length := ⟨_, rfl⟩
    rw [← hul] at hrep ⊢
    clear hul
    have C5 : Hid (Cx E w w5 at5 bad5) := C4.out.by g S
    have R5 : Hid (at4 ≤ at5 ∧ (0 ≤ bad5 ∨ (bad5 = bad4 ∧ at4 < at5 ∧ node.wt T5 + 2 ≤ 10 * (at5 - at4)))) := ⟨hle, hx⟩
    obtain ⟨w6, hw6⟩ : ∃ x, x = w5.alloc (.cells #[.int .i64 u5_0, .int .i64 u5_1, .string u5_2, .string u5_3, .slice ua5 ul5 uc5] 36) := ⟨_, rfl⟩
    have HW6 : Hid (w6 = w5.alloc (.cells #[.int .i64 u5_0, .int .i64 u5_1, .string u5_2, .string u5_3, .slice ua5 ul5 uc5] 36)) := hw6
    have hB : Below w5.heap.size w5 w6 := by rw [hw6]; exact (Below.refl _ _).alloc (Nat.le_refl _) _
    have HD : Hd w6 (w.heap.size + 1) w5.heap.size [.int .i64 u5_0, .int .i64 u5_1, .string u5_2, .string u5_3, .slice ua5 ul5 uc5] T5 := Hd.new (node.ndSh.mono hrep fun b hS => ⟨by have := C4.out.lt; omega, hS.2⟩) (by have := C5.out.lt; omega) hw6
    have C6 : Hid (Cx E w w6 at5 bad5) := C5.out.on hB
    have H5_6 : Hid (Hd w6 (w.heap.size + 1) w5.heap.size [.int .i64 u5_0, .int .i64 u5_1, .string u5_2, .string u5_3, .slice ua5 ul5 uc5] T5) := HD
    clear HX hrep S g hle hx hB HD hw6
    obtain ⟨w7, hw7⟩ : ∃ x, x = w6.alloc (.cells #[.int .i64 u5_0, .int .i64 u5_1, .string u5_2, .string u5_3, .slice ua5 ul5 uc5] 36) := ⟨_, rfl⟩
    have hB : Below w6.heap.size w6 w7 := by rw [hw7]; exact (Below.refl _ _).alloc (Nat.le_refl _) _
    have zz : w7.heap.size = w6.heap.size + 1 := by rw [hw7]; simp
    have CC : Hid (Cx E w w7 at5 bad5) := C6.out.on hB
    have RP : Hid (node.ndSh.rep w7 (fun b => w.heap.size < b ∧ b < w7.heap.size) [.int .i64 3, .int .i64 0, .string t, .string ⟨#[]⟩, .slice (some ⟨w6.heap.size, 0, none⟩) 1 1] (.mk (3, 0, t, ⟨#[]⟩) [T5])) := by
      refine node.nd_shut (by omega) (by omega) (by have := R3.out; unfold maxLen; omega) (by decide) ?_
      exact one_rep (by rw [hw7]; exact alloc_top _ _) ⟨by have := C6.out.lt; omega, by omega⟩ (node.ndSh.mono (H5_6.out.on hB).rep fun b hS => ⟨by omega, hS.2⟩)
    have HT : Hid (∀ w', w7.grownBy w' (some w.heap.size) → Nodes E w at_ bad (.returned (.agg [.int .i64 3, .int .i64 0, .string t, .string ⟨#[]⟩, .slice (some ⟨w6.heap.size, 0, none⟩) 1 1].toArray)) w') := fun w' hg' => answer HS.out CC.out.gr CC.out.lt RP.out CC.out.st (by have := R3.out; have := R4.out; have := R5.out; omega) (by
      have := R3.out; have := R4.out; have := R5.out; have hB := HB.out
      by_cases hb : 0 ≤ bad5
      · exact .inl hb
      · refine .inr ⟨by omega, by omega, ?_⟩
        rw [name_wt]; omega) hg'
    have r0 : w7.cell? ⟨w.heap.size, 0, none⟩ = some (.int .i64 0) := blk_cellP (i := 0) CC.out.res rfl
    have r1 : w7.cell? ⟨w.heap.size, 1, none⟩ = some (.int .i64 0) := blk_cellP (i := 1) CC.out.res rfl
    have r2 : w7.cell? ⟨w.heap.size, 2, none⟩ = some (.string ⟨#[]⟩) := blk_cellP (i := 2) CC.out.res rfl
    have r3 : w7.cell? ⟨w.heap.size, 3, none⟩ = some (.string ⟨#[]⟩) := blk_cellP (i := 3) CC.out.res rfl
    have r4 : w7.cell? ⟨w.heap.size, 4, none⟩ = some (.slice none 0 0) := blk_cellP (i := 4) CC.out.res rfl
    have fr : ∀ o, w7.frozen? ⟨w.heap.size, o, none⟩ = false := fun o => blk_freeP CC.out.res
    rw [hw7, HW6.out] at r0 r1 r2 r3 r4 fr
    have zs : w6.heap.size = w5.heap.size + 1 := by rw [HW6.out]; simp
    rw [zs] at HT
    rw [hw7, HW6.out] at HT
    have y0 : w6.cell? ⟨w5.heap.size, 0, none⟩ = some (.int .i64 u5_0) := blk_cellP (i := 0) H5_6.out.blk rfl
    have y1 : w6.cell? ⟨w5.heap.size, 1, none⟩ = some (.int .i64 u5_1) := blk_cellP (i := 1) H5_6.out.blk rfl
    have y2 : w6.cell? ⟨w5.heap.size, 2, none⟩ = some (.string u5_2) := blk_cellP (i := 2) H5_6.out.blk rfl
    have y3 : w6.cell? ⟨w5.heap.size, 3, none⟩ = some (.string u5_3) := blk_cellP (i := 3) H5_6.out.blk rfl
    have y4 : w6.cell? ⟨w5.heap.size, 4, none⟩ = some (.slice ua5 ul5 uc5) := blk_cellP (i := 4) H5_6.out.blk rfl
    rw [HW6.out] at y0 y1 y2 y3 y4
    clear hw7 hB zz CC RP zs
    go_wp2
    refine bodyPost_ret (v := .agg #[.int .i64 3, .int .i64 0, .string t, .string ⟨#[]⟩, .slice (some ⟨w5.heap.size + 1, 0, none⟩) 1 1]) (by simp [results, Tryz.f45, go_sem, r0, r1, r2, r3, r4]) rfl ?_
    refine HT.out _ ?_
    repeat first | exact grown_self _ _ | (refine grown_by_by ?_ (grown_setP _ _ _ _))
  | false =>
    clear hb
    have HX := is_any E w1 at_ bad C1.out.st ⟨#[108, 101, 116]⟩
    go_wp2_with fail
    refine HX.mono ?_
    rintro e w8 ⟨⟨b, rfl, hb⟩, hB⟩
    have C8 : Hid (Cx E w w8 at_ bad) := C1.out.on hB
    clear hB HX
    cases b with
    | true =>
      have HB : Hid (bad < 0 ∧ at_ + 1 < E.toks.length) := hb rfl
      clear hb
      have HX := HL'.out w8 at_ bad C8.out.st ⟨HN.out, HB.out.2⟩
      go_wp2_with fail
      refine HX.mono ?_
      rintro e w9 ⟨at9, bad9, cs, T9, rfl, hrep, S, g, hle, hx⟩
      obtain ⟨u9_0, u9_1, u9_2, u9_3, ua9, uc9, uk, hTT, rfl, -, -, -⟩ := node.nd_open hrep
      clear hTT
      obtain ⟨ul9, hul⟩ : ∃ n, n = uk.length := ⟨_, rfl⟩
      rw [← hul] at hrep ⊢
      clear hul
      have C9 : Hid (Cx E w w9 at9 bad9) := C8.out.by g S
      have HT : Hid (∀ w', w9.grownBy w' (some w.heap.size) → Nodes E w at_ bad (.returned (.agg [.int .i64 u9_0, .int .i64 u9_1, .string u9_2, .string u9_3, .slice ua9 ul9 uc9].toArray)) w') := fun w' hg' => answer HS.out C9.out.gr C9.out.lt (node.ndSh.mono hrep fun b hS => ⟨by have := C8.out.lt; omega, hS.2⟩) C9.out.st hle hx hg'
      have r0 : w9.cell? ⟨w.heap.size, 0, none⟩ = some (.int .i64 0) := blk_cellP (i := 0) C9.out.res rfl
      have r1 : w9.cell? ⟨w.heap.size, 1, none⟩ = some (.int .i64 0) := blk_cellP (i := 1) C9.out.res rfl
      have r2 : w9.cell? ⟨w.heap.size, 2, none⟩ = some (.string ⟨#[]⟩) := blk_cellP (i := 2) C9.out.res rfl
      have r3 : w9.cell? ⟨w.heap.size, 3, none⟩ = some (.string ⟨#[]⟩) := blk_cellP (i := 3) C9.out.res rfl
      have r4 : w9.cell? ⟨w.heap.size, 4, none⟩ = some (.slice none 0 0) := blk_cellP (i := 4) C9.out.res rfl
      have fr : ∀ o, w9.frozen? ⟨w.heap.size, o, none⟩ = false := fun o => blk_freeP C9.out.res
      clear HX hrep S g hle hx
      go_wp2
      refine bodyPost_ret (v := .agg #[.int .i64 u9_0, .int .i64 u9_1, .string u9_2, .string u9_3, .slice ua9 ul9 uc9]) (by simp [results, Tryz.f45, go_sem, r0, r1, r2, r3, r4]) rfl ?_
      refine HT.out _ ?_
      repeat first | exact grown_self _ _ | (refine grown_by_by ?_ (grown_setP _ _ _ _))
    | false =>
      clear hb
      have HX := is_any E w8 at_ bad C8.out.st ⟨#[114, 101, 99]⟩
      go_wp2_with fail
      refine HX.mono ?_
      rintro e w10 ⟨⟨b, rfl, hb⟩, hB⟩
      have C10 : Hid (Cx E w w10 at_ bad) := C8.out.on hB
      clear hB HX
      cases b with
      | true =>
        have HB : Hid (bad < 0 ∧ at_ + 1 < E.toks.length) := hb rfl
        clear hb
        have HX := HR'.out w10 at_ bad C10.out.st ⟨HN.out, HB.out.2⟩
        go_wp2_with fail
        refine HX.mono ?_
        rintro e w11 ⟨at11, bad11, cs, T11, rfl, hrep, S, g, hle, hx⟩
        obtain ⟨u11_0, u11_1, u11_2, u11_3, ua11, uc11, uk, hTT, rfl, -, -, -⟩ := node.nd_open hrep
        clear hTT
        obtain ⟨ul11, hul⟩ : ∃ n, n = uk.length := ⟨_, rfl⟩
        rw [← hul] at hrep ⊢
        clear hul
        have C11 : Hid (Cx E w w11 at11 bad11) := C10.out.by g S
        have HT : Hid (∀ w', w11.grownBy w' (some w.heap.size) → Nodes E w at_ bad (.returned (.agg [.int .i64 u11_0, .int .i64 u11_1, .string u11_2, .string u11_3, .slice ua11 ul11 uc11].toArray)) w') := fun w' hg' => answer HS.out C11.out.gr C11.out.lt (node.ndSh.mono hrep fun b hS => ⟨by have := C10.out.lt; omega, hS.2⟩) C11.out.st hle hx hg'
        have r0 : w11.cell? ⟨w.heap.size, 0, none⟩ = some (.int .i64 0) := blk_cellP (i := 0) C11.out.res rfl
        have r1 : w11.cell? ⟨w.heap.size, 1, none⟩ = some (.int .i64 0) := blk_cellP (i := 1) C11.out.res rfl
        have r2 : w11.cell? ⟨w.heap.size, 2, none⟩ = some (.string ⟨#[]⟩) := blk_cellP (i := 2) C11.out.res rfl
        have r3 : w11.cell? ⟨w.heap.size, 3, none⟩ = some (.string ⟨#[]⟩) := blk_cellP (i := 3) C11.out.res rfl
        have r4 : w11.cell? ⟨w.heap.size, 4, none⟩ = some (.slice none 0 0) := blk_cellP (i := 4) C11.out.res rfl
        have fr : ∀ o, w11.frozen? ⟨w.heap.size, o, none⟩ = false := fun o => blk_freeP C11.out.res
        clear HX hrep S g hle hx
        go_wp2
        refine bodyPost_ret (v := .agg #[.int .i64 u11_0, .int .i64 u11_1, .string u11_2, .string u11_3, .slice ua11 ul11 uc11]) (by simp [results, Tryz.f45, go_sem, r0, r1, r2, r3, r4]) rfl ?_
        refine HT.out _ ?_
        repeat first | exact grown_self _ _ | (refine grown_by_by ?_ (grown_setP _ _ _ _))
      | false =>
        clear hb
        have HX := is_any E w10 at_ bad C10.out.st ⟨#[99, 97, 115, 101]⟩
        go_wp2_with fail
        refine HX.mono ?_
        rintro e w12 ⟨⟨b, rfl, hb⟩, hB⟩
        have C12 : Hid (Cx E w w12 at_ bad) := C10.out.on hB
        clear hB HX
        cases b with
        | true =>
          have HB : Hid (bad < 0 ∧ at_ + 1 < E.toks.length) := hb rfl
          clear hb
          have HX := HC'.out w12 at_ bad C12.out.st ⟨HN.out, HB.out.2⟩
          go_wp2_with fail
          refine HX.mono ?_
          rintro e w13 ⟨at13, bad13, cs, T13, rfl, hrep, S, g, hle, hx⟩
          obtain ⟨u13_0, u13_1, u13_2, u13_3, ua13, uc13, uk, hTT, rfl, -, -, -⟩ := node.nd_open hrep
          clear hTT
          obtain ⟨ul13, hul⟩ : ∃ n, n = uk.length := ⟨_, rfl⟩
          rw [← hul] at hrep ⊢
          clear hul
          have C13 : Hid (Cx E w w13 at13 bad13) := C12.out.by g S
          have HT : Hid (∀ w', w13.grownBy w' (some w.heap.size) → Nodes E w at_ bad (.returned (.agg [.int .i64 u13_0, .int .i64 u13_1, .string u13_2, .string u13_3, .slice ua13 ul13 uc13].toArray)) w') := fun w' hg' => answer HS.out C13.out.gr C13.out.lt (node.ndSh.mono hrep fun b hS => ⟨by have := C12.out.lt; omega, hS.2⟩) C13.out.st hle hx hg'
          have r0 : w13.cell? ⟨w.heap.size, 0, none⟩ = some (.int .i64 0) := blk_cellP (i := 0) C13.out.res rfl
          have r1 : w13.cell? ⟨w.heap.size, 1, none⟩ = some (.int .i64 0) := blk_cellP (i := 1) C13.out.res rfl
          have r2 : w13.cell? ⟨w.heap.size, 2, none⟩ = some (.string ⟨#[]⟩) := blk_cellP (i := 2) C13.out.res rfl
          have r3 : w13.cell? ⟨w.heap.size, 3, none⟩ = some (.string ⟨#[]⟩) := blk_cellP (i := 3) C13.out.res rfl
          have r4 : w13.cell? ⟨w.heap.size, 4, none⟩ = some (.slice none 0 0) := blk_cellP (i := 4) C13.out.res rfl
          have fr : ∀ o, w13.frozen? ⟨w.heap.size, o, none⟩ = false := fun o => blk_freeP C13.out.res
          clear HX hrep S g hle hx
          go_wp2
          refine bodyPost_ret (v := .agg #[.int .i64 u13_0, .int .i64 u13_1, .string u13_2, .string u13_3, .slice ua13 ul13 uc13]) (by simp [results, Tryz.f45, go_sem, r0, r1, r2, r3, r4]) rfl ?_
          refine HT.out _ ?_
          repeat first | exact grown_self _ _ | (refine grown_by_by ?_ (grown_setP _ _ _ _))
        | false =>
          clear hb
          have HX := is_any E w12 at_ bad C12.out.st ⟨#[105, 102]⟩
          go_wp2_with fail
          refine HX.mono ?_
          rintro e w14 ⟨⟨b, rfl, hb⟩, hB⟩
          have C14 : Hid (Cx E w w14 at_ bad) := C12.out.on hB
          clear hB HX
          cases b with
          | true =>
            have HB : Hid (bad < 0 ∧ at_ + 1 < E.toks.length) := hb rfl
            clear hb
            have HX := next_any E w14 at_ bad C14.out.st HB.out.2
            go_wp2_with fail
            refine HX.mono ?_
            rintro e w15 ⟨rfl, S, g⟩
            have C15 : Hid (Cx E w w15 (at_ + 1) bad) := C14.out.by g S
            clear HX S g
            have HX := HE'.out w15 (at_ + 1) bad C15.out.st (by have := HN.out; have := HB.out; omega)
            go_wp2_with fail
            refine HX.mono ?_
            rintro e w16 ⟨at16, bad16, cs, T16, rfl, hrep, S, g, hle, hx⟩
            obtain ⟨u16_0, u16_1, u16_2, u16_3, ua16, uc16, uk, hTT, rfl, -, -, -⟩ := node.nd_open hrep
            clear hTT
            obtain ⟨ul16, hul⟩ : ∃ n, n = uk.length := ⟨_, rfl⟩
            rw [← hul] at hrep ⊢
            clear hul
            have C16 : Hid (Cx E w w16 at16 bad16) := C15.out.by g S
            have R16 : Hid ((at_ + 1) ≤ at16 ∧ (0 ≤ bad16 ∨ (bad16 = bad ∧ (at_ + 1) < at16 ∧ node.wt T16 + 2 ≤ 10 * (at16 - (at_ + 1))))) := ⟨hle, hx⟩
            obtain ⟨w17, hw17⟩ : ∃ x, x = w16.alloc (.cells #[.int .i64 u16_0, .int .i64 u16_1, .string u16_2, .string u16_3, .slice ua16 ul16 uc16] 36) := ⟨_, rfl⟩
            have HW17 : Hid (w17 = w16.alloc (.cells #[.int .i64 u16_0, .int .i64 u16_1, .string u16_2, .string u16_3, .slice ua16 ul16 uc16] 36)) := hw17
            have hB : Below w16.heap.size w16 w17 := by rw [hw17]; exact (Below.refl _ _).alloc (Nat.le_refl _) _
            have HD : Hd w17 (w.heap.size + 1) w16.heap.size [.int .i64 u16_0, .int .i64 u16_1, .string u16_2, .string u16_3, .slice ua16 ul16 uc16] T16 := Hd.new (node.ndSh.mono hrep fun b hS => ⟨by have := C15.out.lt; omega, hS.2⟩) (by have := C16.out.lt; omega) hw17
            have C17 : Hid (Cx E w w17 at16 bad16) := C16.out.on hB
            have H16_17 : Hid (Hd w17 (w.heap.size + 1) w16.heap.size [.int .i64 u16_0, .int .i64 u16_1, .string u16_2, .string u16_3, .slice ua16 ul16 uc16] T16) := HD
            clear HX hrep S g hle hx hB HD hw17
            have HX := word_any E w17 at16 bad16 C17.out.st ⟨#[116, 104, 101, 110]⟩
            go_wp2_with fail
            rw [← HW17.out]
            refine HX.mono ?_
            rintro e w18 ⟨at18, bad18, rfl, S, g, hle, hx⟩
            have C18 : Hid (Cx E w w18 at18 bad18) := C17.out.by g S
            have H16_18 : Hid (Hd w18 (w.heap.size + 1) w16.heap.size [.int .i64 u16_0, .int .i64 u16_1, .string u16_2, .string u16_3, .slice ua16 ul16 uc16] T16) := H16_17.out.by g (by have := C18.out.cb; omega)
            have R18 : Hid (at16 ≤ at18 ∧ ((at18 = at16 + 1 ∧ bad18 = bad16) ∨ 0 ≤ bad18)) := ⟨hle, hx⟩
            clear HX S g hle hx
            have HX := HE'.out w18 at18 bad18 C18.out.st (by have := HN.out; have := HB.out; have := R16.out; have := R18.out; omega)
            go_wp2_with fail
            refine HX.mono ?_
            rintro e w19 ⟨at19, bad19, cs, T19, rfl, hrep, S, g, hle, hx⟩
            obtain ⟨u19_0, u19_1, u19_2, u19_3, ua19, uc19, uk, hTT, rfl, -, -, -⟩ := node.nd_open hrep
            clear hTT
            obtain ⟨ul19, hul⟩ : ∃ n, n = uk.length := ⟨_, rfl⟩
            rw [← hul] at hrep ⊢
            clear hul
            have C19 : Hid (Cx E w w19 at19 bad19) := C18.out.by g S
            have H16_19 : Hid (Hd w19 (w.heap.size + 1) w16.heap.size [.int .i64 u16_0, .int .i64 u16_1, .string u16_2, .string u16_3, .slice ua16 ul16 uc16] T16) := H16_18.out.by g (by have := C19.out.cb; omega)
            have R19 : Hid (at18 ≤ at19 ∧ (0 ≤ bad19 ∨ (bad19 = bad18 ∧ at18 < at19 ∧ node.wt T19 + 2 ≤ 10 * (at19 - at18)))) := ⟨hle, hx⟩
            obtain ⟨w20, hw20⟩ : ∃ x, x = w19.alloc (.cells #[.int .i64 u19_0, .int .i64 u19_1, .string u19_2, .string u19_3, .slice ua19 ul19 uc19] 36) := ⟨_, rfl⟩
            have HW20 : Hid (w20 = w19.alloc (.cells #[.int .i64 u19_0, .int .i64 u19_1, .string u19_2, .string u19_3, .slice ua19 ul19 uc19] 36)) := hw20
            have hB : Below w19.heap.size w19 w20 := by rw [hw20]; exact (Below.refl _ _).alloc (Nat.le_refl _) _
            have HD : Hd w20 (w.heap.size + 1) w19.heap.size [.int .i64 u19_0, .int .i64 u19_1, .string u19_2, .string u19_3, .slice ua19 ul19 uc19] T19 := Hd.new (node.ndSh.mono hrep fun b hS => ⟨by have := C18.out.lt; omega, hS.2⟩) (by have := C19.out.lt; omega) hw20
            have C20 : Hid (Cx E w w20 at19 bad19) := C19.out.on hB
            have H16_20 : Hid (Hd w20 (w.heap.size + 1) w16.heap.size [.int .i64 u16_0, .int .i64 u16_1, .string u16_2, .string u16_3, .slice ua16 ul16 uc16] T16) := H16_19.out.on hB
            have H19_20 : Hid (Hd w20 (w.heap.size + 1) w19.heap.size [.int .i64 u19_0, .int .i64 u19_1, .string u19_2, .string u19_3, .slice ua19 ul19 uc19] T19) := HD
            clear HX hrep S g hle hx hB HD hw20
            have HX := word_any E w20 at19 bad19 C20.out.st ⟨#[101, 108, 115, 101]⟩
            go_wp2_with fail
            rw [← HW20.out]
            refine HX.mono ?_
            rintro e w21 ⟨at21, bad21, rfl, S, g, hle, hx⟩
            have C21 : Hid (Cx E w w21 at21 bad21) := C20.out.by g S
            have H16_21 : Hid (Hd w21 (w.heap.size + 1) w16.heap.size [.int .i64 u16_0, .int .i64 u16_1, .string u16_2, .string u16_3, .slice ua16 ul16 uc16] T16) := H16_20.out.by g (by have := C21.out.cb; omega)
            have H19_21 : Hid (Hd w21 (w.heap.size + 1) w19.heap.size [.int .i64 u19_0, .int .i64 u19_1, .string u19_2, .string u19_3, .slice ua19 ul19 uc19] T19) := H19_20.out.by g (by have := C21.out.cb; omega)
            have R21 : Hid (at19 ≤ at21 ∧ ((at21 = at19 + 1 ∧ bad21 = bad19) ∨ 0 ≤ bad21)) := ⟨hle, hx⟩
            clear HX S g hle hx
            have HX := HE'.out w21 at21 bad21 C21.out.st (by have := HN.out; have := HB.out; have := R16.out; have := R18.out; have := R19.out; have := R21.out; omega)
            go_wp2_with fail
            refine HX.mono ?_
            rintro e w22 ⟨at22, bad22, cs, T22, rfl, hrep, S, g, hle, hx⟩
            obtain ⟨u22_0, u22_1, u22_2, u22_3, ua22, uc22, uk, hTT, rfl, -, -, -⟩ := node.nd_open hrep
            clear hTT
            obtain ⟨ul22, hul⟩ : ∃ n, n = uk.length := ⟨_, rfl⟩
            rw [← hul] at hrep ⊢
            clear hul
            have C22 : Hid (Cx E w w22 at22 bad22) := C21.out.by g S
            have H16_22 : Hid (Hd w22 (w.heap.size + 1) w16.heap.size [.int .i64 u16_0, .int .i64 u16_1, .string u16_2, .string u16_3, .slice ua16 ul16 uc16] T16) := H16_21.out.by g (by have := C22.out.cb; omega)
            have H19_22 : Hid (Hd w22 (w.heap.size + 1) w19.heap.size [.int .i64 u19_0, .int .i64 u19_1, .string u19_2, .string u19_3, .slice ua19 ul19 uc19] T19) := H19_21.out.by g (by have := C22.out.cb; omega)
            have R22 : Hid (at21 ≤ at22 ∧ (0 ≤ bad22 ∨ (bad22 = bad21 ∧ at21 < at22 ∧ node.wt T22 + 2 ≤ 10 * (at22 - at21)))) := ⟨hle, hx⟩
            obtain ⟨w23, hw23⟩ : ∃ x, x = w22.alloc (.cells #[.int .i64 u22_0, .int .i64 u22_1, .string u22_2, .string u22_3, .slice ua22 ul22 uc22] 36) := ⟨_, rfl⟩
            have HW23 : Hid (w23 = w22.alloc (.cells #[.int .i64 u22_0, .int .i64 u22_1, .string u22_2, .string u22_3, .slice ua22 ul22 uc22] 36)) := hw23
            have hB : Below w22.heap.size w22 w23 := by rw [hw23]; exact (Below.refl _ _).alloc (Nat.le_refl _) _
            have HD : Hd w23 (w.heap.size + 1) w22.heap.size [.int .i64 u22_0, .int .i64 u22_1, .string u22_2, .string u22_3, .slice ua22 ul22 uc22] T22 := Hd.new (node.ndSh.mono hrep fun b hS => ⟨by have := C21.out.lt; omega, hS.2⟩) (by have := C22.out.lt; omega) hw23
            have C23 : Hid (Cx E w w23 at22 bad22) := C22.out.on hB
            have H16_23 : Hid (Hd w23 (w.heap.size + 1) w16.heap.size [.int .i64 u16_0, .int .i64 u16_1, .string u16_2, .string u16_3, .slice ua16 ul16 uc16] T16) := H16_22.out.on hB
            have H19_23 : Hid (Hd w23 (w.heap.size + 1) w19.heap.size [.int .i64 u19_0, .int .i64 u19_1, .string u19_2, .string u19_3, .slice ua19 ul19 uc19] T19) := H19_22.out.on hB
            have H22_23 : Hid (Hd w23 (w.heap.size + 1) w22.heap.size [.int .i64 u22_0, .int .i64 u22_1, .string u22_2, .string u22_3, .slice ua22 ul22 uc22] T22) := HD
            clear HX hrep S g hle hx hB HD hw23
            obtain ⟨w24, hw24⟩ : ∃ x, x = w23.alloc (.cells #[.int .i64 u16_0, .int .i64 u16_1, .string u16_2, .string u16_3, .slice ua16 ul16 uc16, .int .i64 u19_0, .int .i64 u19_1, .string u19_2, .string u19_3, .slice ua19 ul19 uc19, .int .i64 u22_0, .int .i64 u22_1, .string u22_2, .string u22_3, .slice ua22 ul22 uc22] 36) := ⟨_, rfl⟩
            have HW24 : Hid (w24 = w23.alloc (.cells #[.int .i64 u16_0, .int .i64 u16_1, .string u16_2, .string u16_3, .slice ua16 ul16 uc16, .int .i64 u19_0, .int .i64 u19_1, .string u19_2, .string u19_3, .slice ua19 ul19 uc19, .int .i64 u22_0, .int .i64 u22_1, .string u22_2, .string u22_3, .slice ua22 ul22 uc22] 36)) := hw24
            have hB : Below w23.heap.size w23 w24 := by rw [hw24]; exact (Below.refl _ _).alloc (Nat.le_refl _) _
            have zz : w24.heap.size = w23.heap.size + 1 := by rw [hw24]; simp
            have ya0 : w23.cell? ⟨w16.heap.size, 0, none⟩ = some (.int .i64 u16_0) := blk_cellP (i := 0) H16_23.out.blk rfl
            have ya1 : w23.cell? ⟨w16.heap.size, 1, none⟩ = some (.int .i64 u16_1) := blk_cellP (i := 1) H16_23.out.blk rfl
            have ya2 : w23.cell? ⟨w16.heap.size, 2, none⟩ = some (.string u16_2) := blk_cellP (i := 2) H16_23.out.blk rfl
            have ya3 : w23.cell? ⟨w16.heap.size, 3, none⟩ = some (.string u16_3) := blk_cellP (i := 3) H16_23.out.blk rfl
            have ya4 : w23.cell? ⟨w16.heap.size, 4, none⟩ = some (.slice ua16 ul16 uc16) := blk_cellP (i := 4) H16_23.out.blk rfl
            have yb0 : w23.cell? ⟨w19.heap.size, 0, none⟩ = some (.int .i64 u19_0) := blk_cellP (i := 0) H19_23.out.blk rfl
            have yb1 : w23.cell? ⟨w19.heap.size, 1, none⟩ = some (.int .i64 u19_1) := blk_cellP (i := 1) H19_23.out.blk rfl
            have yb2 : w23.cell? ⟨w19.heap.size, 2, none⟩ = some (.string u19_2) := blk_cellP (i := 2) H19_23.out.blk rfl
            have yb3 : w23.cell? ⟨w19.heap.size, 3, none⟩ = some (.string u19_3) := blk_cellP (i := 3) H19_23.out.blk rfl
            have yb4 : w23.cell? ⟨w19.heap.size, 4, none⟩ = some (.slice ua19 ul19 uc19) := blk_cellP (i := 4) H19_23.out.blk rfl
            have yc0 : w23.cell? ⟨w22.heap.size, 0, none⟩ = some (.int .i64 u22_0) := blk_cellP (i := 0) H22_23.out.blk rfl
            have yc1 : w23.cell? ⟨w22.heap.size, 1, none⟩ = some (.int .i64 u22_1) := blk_cellP (i := 1) H22_23.out.blk rfl
            have yc2 : w23.cell? ⟨w22.heap.size, 2, none⟩ = some (.string u22_2) := blk_cellP (i := 2) H22_23.out.blk rfl
            have yc3 : w23.cell? ⟨w22.heap.size, 3, none⟩ = some (.string u22_3) := blk_cellP (i := 3) H22_23.out.blk rfl
            have yc4 : w23.cell? ⟨w22.heap.size, 4, none⟩ = some (.slice ua22 ul22 uc22) := blk_cellP (i := 4) H22_23.out.blk rfl
            rw [HW23.out] at ya0 ya1 ya2 ya3 ya4 yb0 yb1 yb2 yb3 yb4 yc0 yc1 yc2 yc3 yc4
            have SR : Hid (node.ndSh.slice.rep w24 (fun b => w.heap.size < b ∧ b < w24.heap.size) [.slice (some ⟨w23.heap.size, 0, none⟩) [T16, T19, T22].length 3] [T16, T19, T22]) := three_rep (by rw [hw24]; exact alloc_top _ _) ⟨by have := C23.out.lt; omega, by omega⟩ (node.ndSh.mono (H16_23.out.on hB).rep fun b hS => ⟨by omega, hS.2⟩) (node.ndSh.mono (H19_23.out.on hB).rep fun b hS => ⟨by omega, hS.2⟩) (node.ndSh.mono (H22_23.out.on hB).rep fun b hS => ⟨by omega, hS.2⟩)
            have CC : Hid (Cx E w w24 at22 bad22) := C23.out.on hB
            have zs : w23.heap.size = w22.heap.size + 1 := by rw [HW23.out]; simp
            have HX := node3_any 9 (by omega) [T16, T19, T22] w23.heap.size 0 3 w24 (fun b => w.heap.size < b ∧ b < w24.heap.size) (fun b hS => hS.2) (by simp) SR.out
            rw [zs] at HX
            simp only [List.length_cons, List.length_nil, Nat.zero_add, Nat.reduceAdd] at HX
            go_wp2_with fail
            rw [← HW23.out, ← HW24.out]
            refine HX.mono ?_
            rintro e w25 ⟨⟨cs, rfl, hr⟩, hb2⟩
            obtain ⟨n0, n1, n2, n3, na, nc, nk, hTT, rfl, -, -, -⟩ := node.nd_open hr
            clear hTT
            obtain ⟨nl, hnl⟩ : ∃ n, n = nk.length := ⟨_, rfl⟩
            rw [← hnl] at hr ⊢
            clear hnl
            have CD : Hid (Cx E w w25 at22 bad22) := CC.out.on hb2
            have HT : Hid (∀ w', w25.grownBy w' (some w.heap.size) → Nodes E w at_ bad (.returned (.agg [.int .i64 n0, .int .i64 n1, .string n2, .string n3, .slice na nl nc].toArray)) w') := fun w' hg' => answer HS.out CD.out.gr CD.out.lt (node.ndSh.mono hr fun b hS => by have := hb2.size; have := CC.out.lt; omega) CD.out.st (by have := R16.out; have := R18.out; have := R19.out; have := R21.out; have := R22.out; omega) (by
              have := R16.out; have := R18.out; have := R19.out; have := R21.out; have := R22.out; have hB := HB.out
              by_cases hb : 0 ≤ bad22
              · exact .inl hb
              · refine .inr ⟨by omega, by omega, ?_⟩
                rw [three_wt]; omega) hg'
            have r0 : w25.cell? ⟨w.heap.size, 0, none⟩ = some (.int .i64 0) := blk_cellP (i := 0) CD.out.res rfl
            have r1 : w25.cell? ⟨w.heap.size, 1, none⟩ = some (.int .i64 0) := blk_cellP (i := 1) CD.out.res rfl
            have r2 : w25.cell? ⟨w.heap.size, 2, none⟩ = some (.string ⟨#[]⟩) := blk_cellP (i := 2) CD.out.res rfl
            have r3 : w25.cell? ⟨w.heap.size, 3, none⟩ = some (.string ⟨#[]⟩) := blk_cellP (i := 3) CD.out.res rfl
            have r4 : w25.cell? ⟨w.heap.size, 4, none⟩ = some (.slice none 0 0) := blk_cellP (i := 4) CD.out.res rfl
            have fr : ∀ o, w25.frozen? ⟨w.heap.size, o, none⟩ = false := fun o => blk_freeP CD.out.res
            clear HX hr hb2 hB zz zs hw24 SR ya0 ya1 ya2 ya3 ya4 yb0 yb1 yb2 yb3 yb4 yc0 yc1 yc2 yc3 yc4
            go_wp2
            refine bodyPost_ret (v := .agg #[.int .i64 n0, .int .i64 n1, .string n2, .string n3, .slice na nl nc]) (by simp [results, Tryz.f45, go_sem, r0, r1, r2, r3, r4]) rfl ?_
            refine HT.out _ ?_
            repeat first | exact grown_self _ _ | (refine grown_by_by ?_ (grown_setP _ _ _ _))
          | false =>
            clear hb
            have HX := HM'.out w14 at_ bad C14.out.st HN.out
            go_wp2_with fail
            refine HX.mono ?_
            rintro e w26 ⟨at26, bad26, cs, T26, rfl, hrep, S, g, hle, hx⟩
            obtain ⟨u26_0, u26_1, u26_2, u26_3, ua26, uc26, uk, hTT, rfl, -, -, -⟩ := node.nd_open hrep
            clear hTT
            obtain ⟨ul26, hul⟩ : ∃ n, n = uk.length := ⟨_, rfl⟩
            rw [← hul] at hrep ⊢
            clear hul
            have C26 : Hid (Cx E w w26 at26 bad26) := C14.out.by g S
            have HT : Hid (∀ w', w26.grownBy w' (some w.heap.size) → Nodes E w at_ bad (.returned (.agg [.int .i64 u26_0, .int .i64 u26_1, .string u26_2, .string u26_3, .slice ua26 ul26 uc26].toArray)) w') := fun w' hg' => answer HS.out C26.out.gr C26.out.lt (node.ndSh.mono hrep fun b hS => ⟨by have := C14.out.lt; omega, hS.2⟩) C26.out.st hle hx hg'
            have r0 : w26.cell? ⟨w.heap.size, 0, none⟩ = some (.int .i64 0) := blk_cellP (i := 0) C26.out.res rfl
            have r1 : w26.cell? ⟨w.heap.size, 1, none⟩ = some (.int .i64 0) := blk_cellP (i := 1) C26.out.res rfl
            have r2 : w26.cell? ⟨w.heap.size, 2, none⟩ = some (.string ⟨#[]⟩) := blk_cellP (i := 2) C26.out.res rfl
            have r3 : w26.cell? ⟨w.heap.size, 3, none⟩ = some (.string ⟨#[]⟩) := blk_cellP (i := 3) C26.out.res rfl
            have r4 : w26.cell? ⟨w.heap.size, 4, none⟩ = some (.slice none 0 0) := blk_cellP (i := 4) C26.out.res rfl
            have fr : ∀ o, w26.frozen? ⟨w.heap.size, o, none⟩ = false := fun o => blk_freeP C26.out.res
            clear HX hrep S g hle hx
            go_wp2
            refine bodyPost_ret (v := .agg #[.int .i64 u26_0, .int .i64 u26_1, .string u26_2, .string u26_3, .slice ua26 ul26 uc26]) (by simp [results, Tryz.f45, go_sem, r0, r1, r2, r3, r4]) rfl ?_
            refine HT.out _ ?_
            repeat first | exact grown_self _ _ | (refine grown_by_by ?_ (grown_setP _ _ _ _))

end Go.Proofs.YtlnpfnglphdaiaaGreatDoor.tok

/-
  The model's l3Data.
-/
import Derived.Test.YtlnpfnglphdaiaaGreatDoorB1
import Derived.Test.YtlnpfnglphdaiaaGreatDoorB2
import Derived.Test.YtlnpfnglphdaiaaGreatDoorB3
import Derived.Test.YtlnpfnglphdaiaaGreatDoorB4
import Derived.Test.YtlnpfnglphdaiaaGreatDoorB5
import Derived.Test.YtlnpfnglphdaiaaGreatDoorB6
import Derived.Test.YtlnpfnglphdaiaaGreatDoorB7
import Derived.Test.YtlnpfnglphdaiaaGreatDoorB8
import Derived.Test.YtlnpfnglphdaiaaGreatDoorB9
import Derived.Test.YtlnpfnglphdaiaaGreatDoorB10
import Derived.Test.YtlnpfnglphdaiaaGreatDoorB11
import Derived.Test.YtlnpfnglphdaiaaGreatDoorB12
import Derived.Test.YtlnpfnglphdaiaaGreatDoorB13
import Derived.Test.YtlnpfnglphdaiaaGreatDoorB14
namespace Go.Proofs.YtlnpfnglphdaiaaGreatDoor.tok
open Go Go.RowKit Go.Deep Go.Proofs.YtlnpfnglphdaiaaGreatDoor.rose Go.Proofs.YtlnpfnglphdaiaaGreatDoor
set_option linter.unusedVariables false
set_option linter.unusedSimpArgs false

theorem entT3 : Enters Tryz.prog 57 := enters_of Tryz.func57 (by kernel_rfl) rfl
theorem entAl : Enters Tryz.prog 60 := enters_of Tryz.func60 (by kernel_rfl) rfl
theorem infoStr : (Tryz.prog.info? 9).map (fun i => (i.zero, i.size, i.bytes)) = some (some (.string ⟨#[]⟩), 1, 16) := by kernel_rfl
theorem infoCon : (Tryz.prog.info? 86).map (fun i => (i.zero, i.size, i.bytes)) = some (some (.agg #[.string ⟨#[]⟩, .slice none 0 0]), 2, 40) := by kernel_rfl

set_option maxRecDepth 100000 in
set_option maxHeartbeats 8000000 in
theorem data_any (E : Env) (w : World) (at_ : Nat) (bad : Int) (h : St E w at_ bad) :
    Calls Tryz.prog 44 #[.pointer (some ⟨E.cb, 0, none⟩)] w (DataSays E w at_ bad) := by
  obtain ⟨tiS, hti, hzz⟩ := Option.map_eq_some_iff.1 infoStr
  simp only [Prod.mk.injEq] at hzz
  obtain ⟨hi0, hi1, hi2⟩ := hzz
  have TIS : Hid (Tryz.prog.info? 9 = some tiS ∧ tiS.zero = some (.string ⟨#[]⟩) ∧ tiS.size = 1 ∧ tiS.bytes = 16) := ⟨hti, hi0, hi1, hi2⟩
  clear hti hi0 hi1 hi2
  obtain ⟨tiC, hti, hzz⟩ := Option.map_eq_some_iff.1 infoCon
  simp only [Prod.mk.injEq] at hzz
  obtain ⟨hi0, hi1, hi2⟩ := hzz
  have TIC : Hid (Tryz.prog.info? 86 = some tiC ∧ tiC.zero = some (.agg #[.string ⟨#[]⟩, .slice none 0 0]) ∧ tiC.size = 2 ∧ tiC.bytes = 40) := ⟨hti, hi0, hi1, hi2⟩
  clear hti hi0 hi1 hi2
  have hN : True := trivial
  have HS : Hid (St E w at_ bad) := h
  have HN : Hid (True) := hN
  obtain ⟨w0, hw0⟩ : ∃ w0, w0 = w.alloc (.cells #[.string ⟨#[]⟩, .int .i64 0, .slice none 0 0] 97) := ⟨_, rfl⟩
  have HW0 : Hid (w0 = w.alloc (.cells #[.string ⟨#[]⟩, .int .i64 0, .slice none 0 0] 97)) := hw0
  have C0 : Hid (Gx (.cells #[.string ⟨#[]⟩, .int .i64 0, .slice none 0 0] 97) E w w0 at_ bad) := Gx.start h hw0
  clear hw0 h hN
  go_enter Tryz.func44, Tryz.ntmps44
  have HX := word_any E w0 at_ bad C0.out.st ⟨#[100, 97, 116, 97]⟩
  go_wp2_with fail
  rw [← HW0.out]
  refine HX.mono ?_
  rintro e w1 ⟨at1, bad1, rfl, S, g, hle, hx⟩
  have C1 : Hid (Gx (.cells #[.string ⟨#[]⟩, .int .i64 0, .slice none 0 0] 97) E w w1 at1 bad1) := C0.out.by g S
  have R1 : Hid (at_ ≤ at1 ∧ ((at1 = at_ + 1 ∧ bad1 = bad) ∨ 0 ≤ bad1)) := ⟨hle, hx⟩
  clear HX S g hle hx
  have HX := text3_any E w1 at1 bad1 C1.out.st true
  go_wp2_with fail
  refine HX.mono ?_
  rintro e w2 ⟨at2, bad2, t, rfl, ht, S, g, hle, hx⟩
  have C2 : Hid (Gx (.cells #[.string ⟨#[]⟩, .int .i64 0, .slice none 0 0] 97) E w w2 at2 bad2) := C1.out.by g S
  have R2 : Hid (t.size ≤ 8 ∧ at1 ≤ at2 ∧ ((at2 = at1 + 1 ∧ bad2 = bad1) ∨ 0 ≤ bad2)) := ⟨ht, hle, hx⟩
  clear HX S g ht hle hx
  have HTS : Hid (t.size ≤ 8) := R2.out.1
  obtain ⟨w3, hw3⟩ : ∃ x, x = w2.alloc (.cells #[.string t, .int .i64 0, .slice none 0 0] 97) := ⟨_, rfl⟩
  have HW3 : Hid (w3 = w2.alloc (.cells #[.string t, .int .i64 0, .slice none 0 0] 97)) := hw3
  have hB : Below w2.heap.size w2 w3 := by rw [hw3]; exact (Below.refl _ _).alloc (Nat.le_refl _) _
  have C3 : Hid (Gx (.cells #[.string ⟨#[]⟩, .int .i64 0, .slice none 0 0] 97) E w w3 at2 bad2) := C2.out.on hB
  have A3 : Hid (w3.heap[w2.heap.size]? = some (.cells #[.string t, .int .i64 0, .slice none 0 0] 97)) := by show _ = _; rw [hw3]; exact alloc_top _ _
  obtain ⟨Ab, hAb⟩ : ∃ n, n = w2.heap.size := ⟨_, rfl⟩
  have HAB : Hid (Ab = w2.heap.size) := hAb
  have c3 : w3.cell? ⟨E.cb, 3, none⟩ = some E.nv := C3.out.st.names
  obtain ⟨va, vc, nms, nn, hblk, -, -⟩ := C3.out.st.blk
  have f3 : ∀ o, w3.frozen? ⟨E.cb, o, none⟩ = false := fun o => blk_freeG hblk
  have c3e : E.nv = .slice va nms.length vc := by have := blk_cellG (i := 3) (v := .slice va nms.length vc) hblk rfl; rw [c3] at this; exact Option.some.inj this
  rw [c3e] at c3
  clear hblk c3e
  obtain ⟨w4, hw4⟩ : ∃ x, x = w3.setCell ⟨E.cb, 3, none⟩ (.slice none 0 0) := ⟨_, rfl⟩
  have HW4 : Hid (w4 = w3.setCell ⟨E.cb, 3, none⟩ (.slice none 0 0)) := hw4
  have D4 : Hid (Dl E w w4 (.cells #[.string ⟨#[]⟩, .int .i64 0, .slice none 0 0] 97) Ab t (.slice none 0 0) [] at_ bad at2 bad2) := by
    have hc := C3.out.cb; have hl3 := C3.out.lt; have hlk := C2.out.lt
    obtain ⟨hn, hg4⟩ := Nm.empty C3.out.st hw4 (w.heap.size + 1) (by omega)
    have r1 := R1.out; have r2 := R2.out
    refine ⟨hn, ?_, grown_by_by C3.out.gr hg4, (hg4.block _ hl3 fun e => by simp only [Option.some.injEq] at e; omega).trans C3.out.res, hc, by rw [hAb]; exact hlk, (fun e => by cases e), HS.out.top, by omega, ?_⟩
    · rw [hAb]; exact (hg4.block _ (Array.getElem?_eq_some_iff.1 A3.out).1 fun e => by simp only [Option.some.injEq] at e; omega).trans A3.out
    · by_cases hb : 0 ≤ bad2
      · exact .inl hb
      · exact .inr ⟨by omega, by omega⟩
  rw [hw3] at c3 f3
  clear hw3 hw4 hB A3
  go_wp2
  rw [← HW3.out, ← HW4.out, ← HAB.out]
  clear c3 f3 HW3 HW4 hAb
  go_loopw [13] (fun _ wr => ∃ (vv : Value) (names : List ByteArray) (at' : Nat) (bad' : Int), Hid (Dl E w wr (.cells #[.string ⟨#[]⟩, .int .i64 0, .slice none 0 0] 97) Ab t vv names at_ bad at' bad')) (fun _ wr => msrG E wr)
  case atStart => exact ⟨_, [], at2, bad2, D4⟩
  case round =>
    clear D4
    obtain ⟨vv, names, at', bad', HD⟩ := hrel
    have HM : Hid (msrG E wr = 2 * (E.toks.length - at') + (if bad' < 0 then 1 else 0)) := HD.out.nm.st.msrG
    have HX := name_any (E.at (fun b => vv.ownBlock = some b) vv) wr at' bad' HD.out.nm.st
    go_wp2_with fail
    refine HX.mono ?_
    rintro e w3 ⟨⟨b, rfl, hb⟩, hB⟩
    have D3 : Hid (Dl E w w3 (.cells #[.string ⟨#[]⟩, .int .i64 0, .slice none 0 0] 97) Ab t vv names at_ bad at' bad') := HD.out.on hB
    clear hB HX HD
    cases b with
    | true =>
      have HBD : Hid (bad' < 0 ∧ at' + 1 < E.toks.length) := hb rfl
      clear hb
      obtain ⟨av, cv, hv⟩ := D3.out.nm.slice
      have HV : Hid (vv = .slice av names.length cv) := hv
      clear hv
      have GR : Hid (w3.ownsRow (w.heap.size + 1) 9 1 vv names.length (names.map Value.string)) := D3.out.nm.row
      have HOR : Hid (∀ g, vv.ownBlock = some g → w.heap.size + 1 ≤ g ∧ g < w3.heap.size) := fun g e => D3.out.nm.ownlt e
      have hcb := D3.out.cb
      have hz3 := D3.out.lt
      have hcb3 : E.cb < w3.heap.size := by omega
      have g4 : w3.cell? ⟨E.cb, 3, none⟩ = some vv := D3.out.nm.st.names
      have HLN : Hid (names.length ≤ 3001) := by have h1 := D3.out.nm.len; have h2 := HBD.out; have h3 : at' < E.toks.length := D3.out.nm.st.lt; have h4 : E.toks.length ≤ 3001 := D3.out.nm.st.len; rw [if_pos h2.1] at h1; show _ ≤ _; omega
      have hcall : Calls Tryz.prog 57 #[.pointer (some ⟨E.cb, 0, none⟩), .bool false] w3.drew (Texts (E.at (fun b => vv.ownBlock = some b) vv) w3.drew at' bad') := text3_any (E.at (fun b => vv.ownBlock = some b) vv) w3.drew at' bad' (D3.out.nm.st.on (Below.refl _ _).drew) false
      go_wp2_with fail
      go_region_law
        (first
          | (refine step_append_own rfl _ _ 57 rfl (w.heap.size + 1) 9 tiS _ 1 16 Tryz.underlying57 TIS.out.1 TIS.out.2.1 TIS.out.2.2.1 TIS.out.2.2.2 rfl (by decide) vv names.length _ (by first | (simp [Act.eval, HV.out]; done) | (simp [Act.eval, Act.put, HV.out]; done)) RA.out ⟨w5.heap.size, 0, none⟩ 1 1 [.string s] rfl rfl (cells_new _ _ _ _ rfl) (by simp [Value.oneCell']) (by unfold maxLen; have := HLN.out; omega) (by have := HLN.out; omega) (by have := Z5.out; simp; omega) ?_; intro qa ql qc w6 hown6 hgrow6 hat6
             have hO6 : w6.heap[E.cb]? = w5.heap[E.cb]? := (hgrow6.block E.cb (by have := Z5.out; simp; omega) (fun e => by have := (HOR.out _ e.symm).1; omega)).trans (Below.heap_alloc _ _ _ (by have := Z5.out; omega))
             have y0 : w6.cell? ⟨E.cb, 3, none⟩ = some vv := (World.cell?_of_block (w := w5) (a := ⟨E.cb, 3, none⟩) hO6).trans g4b
             have y1 : w6.frozen? ⟨E.cb, 3, none⟩ = false := (World.frozen?_of_block (w := w5) (a := ⟨E.cb, 3, none⟩) hO6).trans (f5 3))
          | (refine step_call rfl 57 entT3 _ _ rfl _ _ hcall (by first | (simp [Act.eval]; done) | (simp [Act.eval, Act.put]; done) | rfl) ?_; rintro e w5 ⟨at5, bad5, s, rfl, hs5, S5, g5, hle5, hx5⟩
             have G5 : Hid (w3.grownBy w5 (some E.cb)) := ⟨g5.os, g5.tape, g5.output, g5.size, g5.block⟩
             have HX5 : Hid (s.size ≤ 8 ∧ at' ≤ at5 ∧ ((at5 = at' + 1 ∧ bad5 = bad') ∨ 0 ≤ bad5)) := ⟨hs5, hle5, hx5⟩
             have D5 : Hid (Dl E w w5 (.cells #[.string ⟨#[]⟩, .int .i64 0, .slice none 0 0] 97) Ab t vv names at_ bad at5 bad5) := D3.out.by G5.out S5 hle5 (by rcases hx5 with h | h; exact .inr h.2; exact .inl h) (by have h1 := D3.out.nm.len; have h2 := HBD.out; rw [if_pos h2.1] at h1; split <;> omega)
             have Z5 : Hid (w3.heap.size ≤ w5.heap.size ∧ w.heap.size < w5.heap.size ∧ E.cb < w5.heap.size) := ⟨g5.size, D5.out.lt, Nat.lt_of_lt_of_le hcb3 g5.size⟩
             obtain ⟨va5, vc5, nm5, nn5, hblk5, -, -⟩ := D5.out.nm.st.blk
             have f5 : ∀ o, w5.frozen? ⟨E.cb, o, none⟩ = false := fun o => blk_freeG hblk5
             clear hblk5
             have g4b : w5.cell? ⟨E.cb, 3, none⟩ = some vv := D5.out.nm.st.names
             have g4c : ∀ o', (w5.alloc o').cell? ⟨E.cb, 3, none⟩ = some vv := fun o' => (((Below.refl _ w5).alloc (Nat.le_refl _) o').cell (p := ⟨E.cb, 3, none⟩) (by have := Z5.out; show E.cb < _; omega)).trans g4b
             have RA : Hid ((w5.alloc (.cells #[.string s] 9)).ownsRow (w.heap.size + 1) 9 1 vv names.length (names.map Value.string)) := by
               obtain ⟨hl, hv⟩ := GR.out
               refine ⟨hl, ?_⟩
               rcases hv with h0 | ⟨g, cap, cur, h1, h2, h3, h4⟩
               · exact Or.inl h0
               · have hg := (Array.getElem?_eq_some_iff.1 h3).1
                 exact Or.inr ⟨g, cap, cur, h1, h2, by rw [Below.heap_alloc _ _ _ (by have := Z5.out; omega), G5.out.block g hg fun e => by simp only [Option.some.injEq] at e; omega]; exact h3, h4⟩
             clear S5 g5 hle5 hx5 hs5
             refine ⟨_, rfl, ?_⟩))
      all_goals
        have NX : Hid (Dl E w (w6.setCell ⟨E.cb, 3, none⟩ (.slice qa ql qc)) (.cells #[.string ⟨#[]⟩, .int .i64 0, .slice none 0 0] 97) Ab t (.slice qa ql qc) (names ++ [s]) at_ bad at5 bad5) := by
          refine D5.out.push (w2 := w5.alloc (.cells #[.string s] 9)) ((Below.refl _ _).alloc (Nat.le_refl _) _) HX5.out.1 ?_ hown6 hgrow6 hat6 rfl
          have h1 := D3.out.nm.len; have h2 := HBD.out; have h3 := HX5.out; rw [if_pos h2.1] at h1; split <;> omega
        clear hown6 hgrow6 hat6 hO6 y0 y1 RA g4 g4b g4c Z5 hcall GR f5
        go_wp2
        go_round
        case rel => exact ⟨_, _, at5, bad5, NX⟩
        case measure =>
          have e := NX.out.nm.st.msrG
          have e2 : msrG E (w6.setCell ⟨E.cb, 3, none⟩ (.slice qa ql qc)) = 2 * (E.toks.length - at5) + (if bad5 < 0 then 1 else 0) := e
          rw [e2, HM.out]
          have h1 := HX5.out; have h2 := HBD.out
          rw [if_pos h2.1]
          split <;> omega
    | false =>
      clear hb HM
      obtain ⟨av, cv, hv⟩ := D3.out.nm.slice
      have HV : Hid (vv = .slice av names.length cv) := hv
      have c3 : w3.cell? ⟨E.cb, 3, none⟩ = some (.slice av names.length cv) := by rw [← hv]; exact D3.out.nm.st.names
      clear hv
      have a1 : w3.cell? ⟨Ab, 1, none⟩ = some (.int .i64 0) := blk_cellG (i := 1) D3.out.acc rfl
      have fa : ∀ o, w3.frozen? ⟨Ab, o, none⟩ = false := fun o => blk_freeG D3.out.acc
      obtain ⟨w4, hw4⟩ : ∃ x, x = w3.setCell ⟨Ab, 1, none⟩ (.int .i64 (names.length : Int)) := ⟨_, rfl⟩
      have HW4 : Hid (w4 = w3.setCell ⟨Ab, 1, none⟩ (.int .i64 (names.length : Int))) := hw4
      have K4 : Hid (Gc conP 86 (.cells #[.string ⟨#[]⟩, .int .i64 0, .slice none 0 0] 97) (fun v => .cells #[.string t, .int .i64 (names.length : Int), v] 97) (fun xs => 8 + xs.length + con.wts xs) (E.at (fun b => vv.ownBlock = some b) vv) w w4 Ab (.slice none 0 0) [] at_ bad at' bad') := D3.out.cons _ hw4
      have HNB : Hid (∀ b, vv.ownBlock = some b → w.heap.size < b) := fun b e => by have := (D3.out.nm.ownlt e).1; omega
      have HNL : Hid ((names.length : Int) ≤ 3001) := by have h1 := D3.out.nm.len; have h3 : at' < E.toks.length := D3.out.nm.st.lt; have h4 : E.toks.length ≤ 3001 := D3.out.nm.st.len; show _ ≤ _; split at h1 <;> omega
      clear hw4 D3
      have HX := take_any (E.at (fun b => vv.ownBlock = some b) vv) w4 at' bad' K4.out.cx.st ⟨#[61]⟩
      go_wp2_with fail
      rw [← HW4.out]
      refine HX.mono ?_
      rintro e w7 ⟨at7, bad7, rfl, S, g, hle, hx⟩
      have K7 : Hid (Gc conP 86 (.cells #[.string ⟨#[]⟩, .int .i64 0, .slice none 0 0] 97) (fun v => .cells #[.string t, .int .i64 (names.length : Int), v] 97) (fun xs => 8 + xs.length + con.wts xs) (E.at (fun b => vv.ownBlock = some b) vv) w w7 Ab (.slice none 0 0) [] at_ bad at7 bad7) := K4.out.by g S hle (by rcases hx with h | h; exact .inr h.2; exact .inl h)
      clear HX S g hle hx c3 a1 fa HW4 K4
      obtain ⟨v, xs, HLN, K7b⟩ : ∃ (v : Value) (xs : List con.ConD), Hid (xs.length ≤ 30010) ∧ Hid (Gc conP 86 (.cells #[.string ⟨#[]⟩, .int .i64 0, .slice none 0 0] 97) (fun v => .cells #[.string t, .int .i64 (names.length : Int), v] 97) (fun xs => 8 + xs.length + con.wts xs) (E.at (fun b => vv.ownBlock = some b) vv) w w7 Ab v xs at_ bad at7 bad7) := ⟨_, [], by show _ ≤ _; simp, K7⟩
      clear K7
      obtain ⟨av, cv, hv⟩ := K7b.out.row.slice
      have HV : Hid (v = .slice av xs.length cv) := hv
      clear hv
      obtain ⟨cssG, grow, gk⟩ := K7b.out.row
      have GR : Hid (w7.ownsRow (w.heap.size + 1) 86 2 v xs.length (flat cssG xs.length)) := grow
      have GK : Hid (∀ i (h : i < xs.length), conP.rep w7 (fun b => w.heap.size < b ∧ b < w7.heap.size ∧ b ≠ Ab ∧ v.ownBlock ≠ some b) (cssG i) xs[i]) := gk
      have HOR : Hid (∀ g, v.ownBlock = some g → g < w7.heap.size) := fun g e => (K7b.out.row.ownlt e).2
      have hab : Ab < w7.heap.size := K7b.out.ablt
      have hcb : E.cb < w.heap.size := K7b.out.cx.cb
      have habw := K7b.out.ab
      have hz3 := K7b.out.cx.lt
      have g4 : w7.cell? ⟨Ab, 2, none⟩ = some v := blk_cellG (i := 2) K7b.out.acc rfl
      have hcall : Calls Tryz.prog 60 #[.pointer (some ⟨E.cb, 0, none⟩)] _ _ := alt_any (E.at (fun b => vv.ownBlock = some b) vv) w7.drew at7 bad7 (K7b.out.cx.st.on (Below.refl _ _).drew) trivial
      clear grow gk
      go_wp2_with fail
      go_region_law
        (first
          | (refine step_append_own rfl _ _ 95 rfl (w.heap.size + 1) 86 tiC _ 2 40 Tryz.underlying95 TIC.out.1 TIC.out.2.1 TIC.out.2.2.1 TIC.out.2.2.2 rfl (by decide) v xs.length _ (by first | (simp [Act.eval, HV.out]; done) | (simp [Act.eval, Act.put, HV.out]; done)) RA.out ⟨w5.heap.size, 0, none⟩ 1 1 [.string u0, .slice ua ul uc] rfl rfl (cells_new _ _ _ _ rfl) (by simp [Value.oneCell']) (by unfold maxLen; have := HLN.out; omega) (by have := HLN.out; omega) (by have := Z5.out; simp; omega) ?_; intro qa ql qc w6 hown6 hgrow6 hat6
             have hO6 : w6.heap[Ab]? = some (.cells #[.string t, .int .i64 (names.length : Int), v] 97) := (hgrow6.block Ab (by have := Z5.out; simp; omega) (fun e => K7b.out.own e.symm)).trans ((Below.heap_alloc _ _ _ (by have := Z5.out; omega)).trans O5.out)
             have y0 : w6.cell? ⟨Ab, 2, none⟩ = some v := blk_cellG (i := 2) hO6 rfl
             have y1 : w6.frozen? ⟨Ab, 2, none⟩ = false := blk_freeG (i := 2) hO6)
          | (refine step_call rfl 60 entAl _ _ rfl _ _ hcall (by first | (simp [Act.eval]; done) | (simp [Act.eval, Act.put]; done) | rfl) ?_; rintro e w5 ⟨at5, bad5, cs, T, rfl, hrep, S5, g5, hle5, hx5⟩
             obtain ⟨u0, uk, ua, uc, hTT, rfl, -, -⟩ := con.con_open (Sh.bare hrep)
             clear hTT
             obtain ⟨ul, hul⟩ : ∃ n, n = uk.length := ⟨_, rfl⟩
             rw [← hul] at hrep ⊢
             have G5 : Hid (w7.grownBy w5 (some E.cb)) := ⟨g5.os, g5.tape, g5.output, g5.size, g5.block⟩
             have K5 : Hid (Gc conP 86 (.cells #[.string ⟨#[]⟩, .int .i64 0, .slice none 0 0] 97) (fun v => .cells #[.string t, .int .i64 (names.length : Int), v] 97) (fun xs => 8 + xs.length + con.wts xs) (E.at (fun b => vv.ownBlock = some b) vv) w w5 Ab v xs at_ bad at5 bad5) := K7b.out.by G5.out S5 hle5 (by rcases hx5 with h | h; exact .inl h; exact .inr h.1)
             have Z5 : Hid (w7.heap.size ≤ w5.heap.size ∧ w.heap.size < w5.heap.size ∧ Ab < w5.heap.size) := ⟨g5.size, K5.out.cx.lt, K5.out.ablt⟩
             have O5 : Hid (w5.heap[Ab]? = some (.cells #[.string t, .int .i64 (names.length : Int), v] 97)) := K5.out.acc
             have g4b : w5.cell? ⟨Ab, 2, none⟩ = some v := blk_cellG (i := 2) O5.out rfl
             have g4c : ∀ o', (w5.alloc o').cell? ⟨Ab, 2, none⟩ = some v := fun o' => (((Below.refl _ w5).alloc (Nat.le_refl _) o').cell (p := ⟨Ab, 2, none⟩) (by have := Z5.out; show Ab < _; omega)).trans g4b
             have RA : Hid ((w5.alloc (.cells #[.string u0, .slice ua ul uc] 86)).ownsRow (w.heap.size + 1) 86 2 v xs.length (flat cssG xs.length)) := by
               obtain ⟨hl, hv⟩ := GR.out
               refine ⟨hl, ?_⟩
               rcases hv with h0 | ⟨g, cap, cur, h1, h2, h3, h4⟩
               · exact Or.inl h0
               · have hg := (Array.getElem?_eq_some_iff.1 h3).1
                 exact Or.inr ⟨g, cap, cur, h1, h2, by rw [Below.heap_alloc _ _ _ (by have := Z5.out; omega), G5.out.block g hg fun e => by simp only [Option.some.injEq] at e; omega]; exact h3, h4⟩
             have HR5 : Hid (conP.rep w5 (fun b => w7.heap.size ≤ b ∧ b < w5.heap.size) [.string u0, .slice ua ul uc] T) := hrep
             have HX5 : Hid (at7 ≤ at5 ∧ (0 ≤ bad5 ∨ (bad5 = bad7 ∧ at7 < at5 ∧ con.wt T + 2 ≤ 10 * (at5 - at7)))) := ⟨hle5, hx5⟩
             clear hul hrep S5 g5 hle5 hx5
             refine ⟨_, rfl, ?_⟩))
      all_goals
        have NX : Hid (Gc conP 86 (.cells #[.string ⟨#[]⟩, .int .i64 0, .slice none 0 0] 97) (fun v => .cells #[.string t, .int .i64 (names.length : Int), v] 97) (fun xs => 8 + xs.length + con.wts xs) (E.at (fun b => vv.ownBlock = some b) vv) w (w6.setCell ⟨Ab, 2, none⟩ (.slice qa ql qc)) Ab (.slice qa ql qc) (xs ++ [T]) at_ bad at5 bad5) := by
          refine K5.out.push (r0 := w7.heap.size) (w2 := w5.alloc (.cells #[.string u0, .slice ua ul uc] 86)) (css := cssG) (fun i hi => conP.mono (conP.on (GK.out i hi) fun b hS => G5.out.block b hS.2.1 fun e => by simp only [Option.some.injEq] at e; omega) fun b hS => ⟨hS.1, by have := Z5.out; omega, hS.2.2⟩) HR5.out hab (by omega) HOR.out ((Below.refl _ _).alloc (Nat.le_refl _) _) ?_ hown6 hgrow6 hat6 2 rfl (fun h => by simp [World.setCell, Array.getElem?_modify, h])
          have h1 := HX5.out; have h2 := K7b.out.hx; have h4 := K7b.out.le
          by_cases hb : 0 ≤ bad5
          · exact .inl hb
          · refine .inr ⟨by omega, by omega, ?_⟩
            show 8 + (xs ++ [T]).length + con.wts (xs ++ [T]) + 2 ≤ _
            rw [cwts_snoc, List.length_append, List.length_singleton]
            have h6 : 0 ≤ bad7 ∨ (bad7 = bad ∧ at_ < at7 ∧ 8 + xs.length + con.wts xs + 2 ≤ 10 * (at7 - at_)) := h2
            omega
        have RZ : Hid (at7 ≤ at5 ∧ (0 ≤ bad5 ∨ (bad5 = bad7 ∧ at7 < at5))) := ⟨HX5.out.1, by
          rcases HX5.out.2 with h | h
          · exact .inl h
          · exact .inr ⟨h.1, h.2.1⟩⟩
        clear hown6 hgrow6 hat6 hO6 y0 y1 HR5 RA g4 g4b g4c O5 K5 Z5 hcall GR GK G5 HX5
        go_wp2
        go_loopw [41] (fun _ wr => ∃ (v : Value) (xs : List con.ConD) (at' : Nat) (bad' : Int), Hid (Gc conP 86 (.cells #[.string ⟨#[]⟩, .int .i64 0, .slice none 0 0] 97) (fun v => .cells #[.string t, .int .i64 (names.length : Int), v] 97) (fun xs => 8 + xs.length + con.wts xs) (E.at (fun b => vv.ownBlock = some b) vv) w wr Ab v xs at_ bad at' bad')) (fun _ wr => msrG E wr)
        case atStart => exact ⟨_, _, at5, bad5, NX⟩
        case round =>
          clear NX RZ HLN K7b HOR hab hcb habw hz3 HV
          obtain ⟨v, xs, at', bad', HK⟩ := hrel
          have HM : Hid (msrG E wr = 2 * (E.toks.length - at') + (if bad' < 0 then 1 else 0)) := HK.out.cx.st.msrG
          have HX := sign3_any (E.at (fun b => vv.ownBlock = some b) vv) wr at' bad' HK.out.cx.st ⟨#[124]⟩
          go_wp2_with fail
          refine HX.mono ?_
          rintro e w8 ⟨⟨b, rfl, hb⟩, hB⟩
          have K8 : Hid (Gc conP 86 (.cells #[.string ⟨#[]⟩, .int .i64 0, .slice none 0 0] 97) (fun v => .cells #[.string t, .int .i64 (names.length : Int), v] 97) (fun xs => 8 + xs.length + con.wts xs) (E.at (fun b => vv.ownBlock = some b) vv) w w8 Ab v xs at_ bad at' bad') := HK.out.on hB
          clear hB HX HK
          cases b with
          | true =>
            have HBD : Hid (bad' < 0 ∧ at' + 1 < E.toks.length) := hb rfl
            clear hb
            have HX := next_any (E.at (fun b => vv.ownBlock = some b) vv) w8 at' bad' K8.out.cx.st HBD.out.2
            go_wp2_with fail
            refine HX.mono ?_
            rintro e w9 ⟨rfl, S, g⟩
            have K9 : Hid (Gc conP 86 (.cells #[.string ⟨#[]⟩, .int .i64 0, .slice none 0 0] 97) (fun v => .cells #[.string t, .int .i64 (names.length : Int), v] 97) (fun xs => 8 + xs.length + con.wts xs) (E.at (fun b => vv.ownBlock = some b) vv) w w9 Ab v xs at_ bad (at' + 1) bad') := K8.out.by g S (by omega) (.inr rfl)
            clear HX S g
            have HLN : Hid (xs.length ≤ 30010) := by have h1 := K9.out.hx; have h2 := HBD.out; have h3 : E.toks.length ≤ 3001 := K9.out.cx.st.len; have h4 : 0 ≤ bad' ∨ (bad' = bad ∧ at_ < at' + 1 ∧ 8 + xs.length + con.wts xs + 2 ≤ 10 * (at' + 1 - at_)) := h1; show _ ≤ _; omega
            obtain ⟨av, cv, hv⟩ := K9.out.row.slice
            have HV : Hid (v = .slice av xs.length cv) := hv
            clear hv
            obtain ⟨cssG, grow, gk⟩ := K9.out.row
            have GR : Hid (w9.ownsRow (w.heap.size + 1) 86 2 v xs.length (flat cssG xs.length)) := grow
            have GK : Hid (∀ i (h : i < xs.length), conP.rep w9 (fun b => w.heap.size < b ∧ b < w9.heap.size ∧ b ≠ Ab ∧ v.ownBlock ≠ some b) (cssG i) xs[i]) := gk
            have HOR : Hid (∀ g, v.ownBlock = some g → g < w9.heap.size) := fun g e => (K9.out.row.ownlt e).2
            have hab : Ab < w9.heap.size := K9.out.ablt
            have hcb : E.cb < w.heap.size := K9.out.cx.cb
            have habw := K9.out.ab
            have hz3 := K9.out.cx.lt
            have g4 : w9.cell? ⟨Ab, 2, none⟩ = some v := blk_cellG (i := 2) K9.out.acc rfl
            have hcall : Calls Tryz.prog 60 #[.pointer (some ⟨E.cb, 0, none⟩)] _ _ := alt_any (E.at (fun b => vv.ownBlock = some b) vv) w9.drew (at' + 1) bad' (K9.out.cx.st.on (Below.refl _ _).drew) trivial
            clear grow gk
            go_wp2_with fail
            go_region_law
              (first
                | (refine step_append_own rfl _ _ 95 rfl (w.heap.size + 1) 86 tiC _ 2 40 Tryz.underlying95 TIC.out.1 TIC.out.2.1 TIC.out.2.2.1 TIC.out.2.2.2 rfl (by decide) v xs.length _ (by first | (simp [Act.eval, HV.out]; done) | (simp [Act.eval, Act.put, HV.out]; done)) RA.out ⟨w5.heap.size, 0, none⟩ 1 1 [.string u0, .slice ua ul uc] rfl rfl (cells_new _ _ _ _ rfl) (by simp [Value.oneCell']) (by unfold maxLen; have := HLN.out; omega) (by have := HLN.out; omega) (by have := Z5.out; simp; omega) ?_; intro qa ql qc w6 hown6 hgrow6 hat6
                   have hO6 : w6.heap[Ab]? = some (.cells #[.string t, .int .i64 (names.length : Int), v] 97) := (hgrow6.block Ab (by have := Z5.out; simp; omega) (fun e => K9.out.own e.symm)).trans ((Below.heap_alloc _ _ _ (by have := Z5.out; omega)).trans O5.out)
                   have y0 : w6.cell? ⟨Ab, 2, none⟩ = some v := blk_cellG (i := 2) hO6 rfl
                   have y1 : w6.frozen? ⟨Ab, 2, none⟩ = false := blk_freeG (i := 2) hO6)
                | (refine step_call rfl 60 entAl _ _ rfl _ _ hcall (by first | (simp [Act.eval]; done) | (simp [Act.eval, Act.put]; done) | rfl) ?_; rintro e w5 ⟨at5, bad5, cs, T, rfl, hrep, S5, g5, hle5, hx5⟩
                   obtain ⟨u0, uk, ua, uc, hTT, rfl, -, -⟩ := con.con_open (Sh.bare hrep)
                   clear hTT
                   obtain ⟨ul, hul⟩ : ∃ n, n = uk.length := ⟨_, rfl⟩
                   rw [← hul] at hrep ⊢
                   have G5 : Hid (w9.grownBy w5 (some E.cb)) := ⟨g5.os, g5.tape, g5.output, g5.size, g5.block⟩
                   have K5 : Hid (Gc conP 86 (.cells #[.string ⟨#[]⟩, .int .i64 0, .slice none 0 0] 97) (fun v => .cells #[.string t, .int .i64 (names.length : Int), v] 97) (fun xs => 8 + xs.length + con.wts xs) (E.at (fun b => vv.ownBlock = some b) vv) w w5 Ab v xs at_ bad at5 bad5) := K9.out.by G5.out S5 hle5 (by rcases hx5 with h | h; exact .inl h; exact .inr h.1)
                   have Z5 : Hid (w9.heap.size ≤ w5.heap.size ∧ w.heap.size < w5.heap.size ∧ Ab < w5.heap.size) := ⟨g5.size, K5.out.cx.lt, K5.out.ablt⟩
                   have O5 : Hid (w5.heap[Ab]? = some (.cells #[.string t, .int .i64 (names.length : Int), v] 97)) := K5.out.acc
                   have g4b : w5.cell? ⟨Ab, 2, none⟩ = some v := blk_cellG (i := 2) O5.out rfl
                   have g4c : ∀ o', (w5.alloc o').cell? ⟨Ab, 2, none⟩ = some v := fun o' => (((Below.refl _ w5).alloc (Nat.le_refl _) o').cell (p := ⟨Ab, 2, none⟩) (by have := Z5.out; show Ab < _; omega)).trans g4b
                   have RA : Hid ((w5.alloc (.cells #[.string u0, .slice ua ul uc] 86)).ownsRow (w.heap.size + 1) 86 2 v xs.length (flat cssG xs.length)) := by
                     obtain ⟨hl, hv⟩ := GR.out
                     refine ⟨hl, ?_⟩
                     rcases hv with h0 | ⟨g, cap, cur, h1, h2, h3, h4⟩
                     · exact Or.inl h0
                     · have hg := (Array.getElem?_eq_some_iff.1 h3).1
                       exact Or.inr ⟨g, cap, cur, h1, h2, by rw [Below.heap_alloc _ _ _ (by have := Z5.out; omega), G5.out.block g hg fun e => by simp only [Option.some.injEq] at e; omega]; exact h3, h4⟩
                   have HR5 : Hid (conP.rep w5 (fun b => w9.heap.size ≤ b ∧ b < w5.heap.size) [.string u0, .slice ua ul uc] T) := hrep
                   have HX5 : Hid ((at' + 1) ≤ at5 ∧ (0 ≤ bad5 ∨ (bad5 = bad' ∧ (at' + 1) < at5 ∧ con.wt T + 2 ≤ 10 * (at5 - (at' + 1))))) := ⟨hle5, hx5⟩
                   clear hul hrep S5 g5 hle5 hx5
                   refine ⟨_, rfl, ?_⟩))
            all_goals
              have NX : Hid (Gc conP 86 (.cells #[.string ⟨#[]⟩, .int .i64 0, .slice none 0 0] 97) (fun v => .cells #[.string t, .int .i64 (names.length : Int), v] 97) (fun xs => 8 + xs.length + con.wts xs) (E.at (fun b => vv.ownBlock = some b) vv) w (w6.setCell ⟨Ab, 2, none⟩ (.slice qa ql qc)) Ab (.slice qa ql qc) (xs ++ [T]) at_ bad at5 bad5) := by
                refine K5.out.push (r0 := w9.heap.size) (w2 := w5.alloc (.cells #[.string u0, .slice ua ul uc] 86)) (css := cssG) (fun i hi => conP.mono (conP.on (GK.out i hi) fun b hS => G5.out.block b hS.2.1 fun e => by simp only [Option.some.injEq] at e; omega) fun b hS => ⟨hS.1, by have := Z5.out; omega, hS.2.2⟩) HR5.out hab (by omega) HOR.out ((Below.refl _ _).alloc (Nat.le_refl _) _) ?_ hown6 hgrow6 hat6 2 rfl (fun h => by simp [World.setCell, Array.getElem?_modify, h])
                have h1 := HX5.out; have h2 := K9.out.hx; have h4 := K9.out.le
                by_cases hb : 0 ≤ bad5
                · exact .inl hb
                · refine .inr ⟨by omega, by omega, ?_⟩
                  show 8 + (xs ++ [T]).length + con.wts (xs ++ [T]) + 2 ≤ _
                  rw [cwts_snoc, List.length_append, List.length_singleton]
                  have h6 : 0 ≤ bad' ∨ (bad' = bad ∧ at_ < (at' + 1) ∧ 8 + xs.length + con.wts xs + 2 ≤ 10 * ((at' + 1) - at_)) := h2
                  omega
              have RZ : Hid ((at' + 1) ≤ at5 ∧ (0 ≤ bad5 ∨ (bad5 = bad' ∧ (at' + 1) < at5))) := ⟨HX5.out.1, by
                rcases HX5.out.2 with h | h
                · exact .inl h
                · exact .inr ⟨h.1, h.2.1⟩⟩
              clear hown6 hgrow6 hat6 hO6 y0 y1 HR5 RA g4 g4b g4c O5 K5 Z5 hcall GR GK G5 HX5
              go_wp2
              go_round
              case rel => exact ⟨_, _, at5, bad5, NX⟩
              case measure =>
                have e2 : msrG E (w6.setCell ⟨Ab, 2, none⟩ (.slice qa ql qc)) = 2 * (E.toks.length - at5) + (if bad5 < 0 then 1 else 0) := NX.out.cx.st.msrG
                rw [e2, HM.out]
                have h1 := RZ.out; have h2 := HBD.out
                rw [if_pos h2.1]
                split <;> omega
          | false =>
            clear hb HM
            have HX := take_any (E.at (fun b => vv.ownBlock = some b) vv) w8 at' bad' K8.out.cx.st ⟨#[59]⟩
            go_wp2_with fail
            refine HX.mono ?_
            rintro e wz ⟨atz, badz, rfl, S, g, hle, hx⟩
            have KZ : Hid (Gc conP 86 (.cells #[.string ⟨#[]⟩, .int .i64 0, .slice none 0 0] 97) (fun v => .cells #[.string t, .int .i64 (names.length : Int), v] 97) (fun xs => 8 + xs.length + con.wts xs) (E.at (fun b => vv.ownBlock = some b) vv) w wz Ab v xs at_ bad atz badz) := K8.out.by g S hle (by rcases hx with h | h; exact .inr h.2; exact .inl h)
            clear HX S g hle hx K8
            obtain ⟨aq, cq, hv⟩ := KZ.out.row.slice
            rw [hv] at KZ
            clear hv
            have y0 : wz.cell? ⟨Ab, 0, none⟩ = some (.string t) := blk_cellG (i := 0) KZ.out.acc rfl
            have y1 : wz.cell? ⟨Ab, 1, none⟩ = some (.int .i64 (names.length : Int)) := blk_cellG (i := 1) KZ.out.acc rfl
            have y2 : wz.cell? ⟨Ab, 2, none⟩ = some (.slice aq xs.length cq) := blk_cellG (i := 2) KZ.out.acc rfl
            have r0 : wz.cell? ⟨w.heap.size, 0, none⟩ = some (.string ⟨#[]⟩) := blk_cellG (i := 0) KZ.out.cx.res rfl
            have r1 : wz.cell? ⟨w.heap.size, 1, none⟩ = some (.int .i64 0) := blk_cellG (i := 1) KZ.out.cx.res rfl
            have r2 : wz.cell? ⟨w.heap.size, 2, none⟩ = some (.slice none 0 0) := blk_cellG (i := 2) KZ.out.cx.res rfl
            have fr : ∀ o, wz.frozen? ⟨w.heap.size, o, none⟩ = false := fun o => blk_freeG KZ.out.cx.res
            have HT : Hid (∀ w', wz.grownBy w' (some w.heap.size) → DataSays E w at_ bad (.returned (.agg [.string t, .int .i64 (names.length : Int), .slice aq xs.length cq].toArray)) w') := fun w' hg' => answerD (T := (t, (names.length : Int), xs)) HS.out KZ.out.cx.gr KZ.out.cx.lt (Sh.of (data.data_shut (by have := HTS.out; unfold maxLen; omega) (by have := HNL.out; omega) (Sh.bare (KZ.out.row.repP (by decide))))) KZ.out.cx.st HNB.out KZ.out.le (by
              rcases KZ.out.hx with h | ⟨e, h, h2⟩
              · exact .inl h
              · refine .inr ⟨e, h, ?_⟩
                have h3 : 8 + xs.length + con.wts xs + 2 ≤ 10 * (atz - at_) := h2
                have := HTS.out; simp only [data.wt]; omega) hg'
            clear KZ
            go_wp2
            refine bodyPost_ret (v := .agg #[.string t, .int .i64 (names.length : Int), .slice aq xs.length cq]) (by simp [results, Tryz.f44, go_sem, r0, r1, r2]) rfl ?_
            refine HT.out _ ?_
            repeat first | exact grown_self _ _ | (refine grown_by_by ?_ (grown_setG _ _ _ _))

end Go.Proofs.YtlnpfnglphdaiaaGreatDoor.tok

/-
  The model's l3Alt, from what l3TyAtom says.
-/
import Derived.Test.YtpdmdcoaaboikaaGreatDoorParseTyAtom
import Derived.Test.YtpdmdcoaaboikaaGreatDoorConSh
namespace Go.Proofs.YtpdmdcoaaboikaaGreatDoor.tok
open Go Go.RowKit Go.Deep Go.Proofs.YtpdmdcoaaboikaaGreatDoor.rose Go.Proofs.YtpdmdcoaaboikaaGreatDoor
set_option linter.unusedVariables false
set_option linter.unusedSimpArgs false

theorem entTA : Enters Tryz.prog 86 := enters_of Tryz.func86 (by kernel_rfl) rfl
theorem infoTyP : (Tryz.prog.info? 145).map (fun i => (i.zero, i.size, i.bytes)) = some (some (.agg #[.int .i64 0, .int .i64 0, .string ⟨#[]⟩, .slice none 0 0]), 4, 56) := by kernel_rfl
theorem twts_snoc (xs : List ty.TyD) (x : ty.TyD) : ty.wts (xs ++ [x]) = ty.wts xs + ty.wt x := by
  induction xs with
  | nil => simp [ty.wts]
  | cons a xs ih => simp [ty.wts, ih]; omega
def atG (E : Env) (w : World) : Nat := match w.cell? ⟨E.cb, 1, none⟩ with | some (.int _ z) => z.toNat | _ => 0
def badG (E : Env) (w : World) : Int := match w.cell? ⟨E.cb, 2, none⟩ with | some (.int _ z) => z | _ => 0
/-- What is left to do. -/
def msrG (E : Env) (w : World) : Nat := 2 * (E.toks.length - atG E w) + (if badG E w < 0 then 1 else 0)
theorem St.msrG {E : Env} {w : World} {at_ : Nat} {bad : Int} (h : St E w at_ bad) : tok.msrG E w = 2 * (E.toks.length - at_) + (if bad < 0 then 1 else 0) := by
  obtain ⟨va, vc, names, nn, hblk, -, -⟩ := h.blk
  have h1 : w.cell? ⟨E.cb, 1, none⟩ = some (.int .i64 at_) := blk_cellG (i := 1) hblk rfl
  have h2 : w.cell? ⟨E.cb, 2, none⟩ = some (.int .i64 bad) := blk_cellG (i := 2) hblk rfl
  unfold tok.msrG
  have e1 : atG E w = at_ := by simp [atG, h1]
  have e2 : badG E w = bad := by simp [badG, h2]
  rw [e1, e2]

set_option maxRecDepth 100000 in
set_option maxHeartbeats 8000000 in
theorem alt_of (E : Env) (HA : GTold 86 tyP ty.wt E fun _ => True) (w : World) (at_ : Nat) (bad : Int) (h : St E w at_ bad) (hN : True) :
    Calls Tryz.prog 60 #[.pointer (some ⟨E.cb, 0, none⟩)] w (Gives conP con.wt E w at_ bad) := by
  obtain ⟨ti, hti, hzz⟩ := Option.map_eq_some_iff.1 infoTyP
  simp only [Prod.mk.injEq] at hzz
  obtain ⟨hi0, hi1, hi2⟩ := hzz
  have TI : Hid (Tryz.prog.info? 145 = some ti ∧ ti.zero = some (.agg #[.int .i64 0, .int .i64 0, .string ⟨#[]⟩, .slice none 0 0]) ∧ ti.size = 4 ∧ ti.bytes = 56) := ⟨hti, hi0, hi1, hi2⟩
  clear hti hi0 hi1 hi2
  have HA' : Hid _ := HA
  have HS : Hid (St E w at_ bad) := h
  have HN : Hid (True) := hN
  obtain ⟨w0, hw0⟩ : ∃ w0, w0 = w.alloc (.cells #[.string ⟨#[]⟩, .slice none 0 0] 86) := ⟨_, rfl⟩
  have HW0 : Hid (w0 = w.alloc (.cells #[.string ⟨#[]⟩, .slice none 0 0] 86)) := hw0
  have C0 : Hid (Gx (.cells #[.string ⟨#[]⟩, .slice none 0 0] 86) E w w0 at_ bad) := Gx.start h hw0
  clear hw0 HA h hN
  go_enter Tryz.func60, Tryz.ntmps60
  have HX := text3_any E w0 at_ bad C0.out.st true
  go_wp2_with fail
  rw [← HW0.out]
  refine HX.mono ?_
  rintro e w1 ⟨at1, bad1, t, rfl, ht, S, g, hle, hx⟩
  have C1 : Hid (Gx (.cells #[.string ⟨#[]⟩, .slice none 0 0] 86) E w w1 at1 bad1) := C0.out.by g S
  have R1 : Hid (t.size ≤ 8 ∧ at_ ≤ at1 ∧ ((at1 = at_ + 1 ∧ bad1 = bad) ∨ 0 ≤ bad1)) := ⟨ht, hle, hx⟩
  clear HX S g ht hle hx
  have K1 : Hid (Gc tyP 145 (.cells #[.string ⟨#[]⟩, .slice none 0 0] 86) (fun v => .cells #[.string t, v] 86) (fun xs => 8 + xs.length + ty.wts xs) E w (w1.alloc (.cells #[.string t, .slice none 0 0] 86)) w1.heap.size (.slice none 0 0) [] at_ bad at1 bad1) := by
    have b3 : Below w1.heap.size w1 (w1.alloc (.cells #[.string t, .slice none 0 0] 86)) := (Below.refl _ _).alloc (Nat.le_refl _) _
    have r := R1.out
    refine ⟨C1.out.on b3, alloc_top _ _, C1.out.lt, GKids.nil _ _ _, (fun e => by cases e), HS.out.top, fun b hb => .inl (HS.out.ns b hb).1, by omega, ?_⟩
    rcases r.2.2 with ⟨h1, h2⟩ | h2
    · exact .inr ⟨h2, by omega, by simp [ty.wts]; omega⟩
    · exact .inl h2
  have HTS : Hid (t.size ≤ 8) := R1.out.1
  go_wp2
  go_loopw [8] (fun _ wr => ∃ (v : Value) (xs : List ty.TyD) (at' : Nat) (bad' : Int), Hid (Gc tyP 145 (.cells #[.string ⟨#[]⟩, .slice none 0 0] 86) (fun v => .cells #[.string t, v] 86) (fun xs => 8 + xs.length + ty.wts xs) E w wr w1.heap.size v xs at_ bad at' bad')) (fun _ wr => msrG E wr)
  case atStart => exact ⟨_, [], at1, bad1, K1⟩
  case round =>
    clear K1
    obtain ⟨v, xs, at', bad', HK⟩ := hrel
    have HM : Hid (msrG E wr = 2 * (E.toks.length - at') + (if bad' < 0 then 1 else 0)) := HK.out.cx.st.msrG
    have HX := small3_any E wr at' bad' HK.out.cx.st
    go_wp2_with fail
    refine HX.mono ?_
    rintro e w3 ⟨⟨b, rfl, hb⟩, hB⟩
    have K3 : Hid (Gc tyP 145 (.cells #[.string ⟨#[]⟩, .slice none 0 0] 86) (fun v => .cells #[.string t, v] 86) (fun xs => 8 + xs.length + ty.wts xs) E w w3 w1.heap.size v xs at_ bad at' bad') := HK.out.on hB
    clear hB HX
    cases b with
    | true =>
      have HBD : Hid (bad' < 0 ∧ at' + 1 < E.toks.length) := hb rfl
      clear hb
      obtain ⟨av, cv, hv⟩ := K3.out.row.slice
      have HV : Hid (v = .slice av xs.length cv) := hv
      clear hv
      obtain ⟨cssG, grow, gk⟩ := K3.out.row
      have GR : Hid (w3.ownsRow (w.heap.size + 1) 145 4 v xs.length (flat cssG xs.length)) := grow
      have GK : Hid (∀ i (h : i < xs.length), tyP.rep w3 (fun b => w.heap.size < b ∧ b < w3.heap.size ∧ b ≠ w1.heap.size ∧ v.ownBlock ≠ some b) (cssG i) xs[i]) := gk
      have HOR : Hid (∀ g, v.ownBlock = some g → g < w3.heap.size) := fun g e => (K3.out.row.ownlt e).2
      have hab : w1.heap.size < w3.heap.size := K3.out.ablt
      have hcb := K3.out.cx.cb
      have habw := K3.out.ab
      have hz3 := K3.out.cx.lt
      have g4 : w3.cell? ⟨w1.heap.size, 1, none⟩ = some v := blk_cellG (i := 1) K3.out.acc rfl
      have HLN : Hid (xs.length ≤ 30010) := by
        have h1 := K3.out.hx; have h2 := HBD.out; have h3 := K3.out.cx.st.len; have h4 := K3.out.cx.st.lt; show _ ≤ _; omega
      have hcall := HA'.out w3.drew at' bad' (K3.out.cx.st.on (Below.refl _ _).drew) trivial
      clear grow gk
      go_wp2_with fail
      go_region_law
        (first
          | (refine step_append_own rfl _ _ 84 rfl (w.heap.size + 1) 145 ti _ 4 56 Tryz.underlying84 TI.out.1 TI.out.2.1 TI.out.2.2.1 TI.out.2.2.2 rfl (by decide) v xs.length _ (by first | (simp [Act.eval, HV.out]; done) | (simp [Act.eval, Act.put, HV.out]; done)) RA.out ⟨w5.heap.size, 0, none⟩ 1 1 [.int .i64 u0, .int .i64 u1, .string u2, .slice ua ul uc] rfl rfl (cells_new _ _ _ _ rfl) (by simp [Value.oneCell']) (by unfold maxLen; have := HLN.out; omega) (by have := HLN.out; omega) (by have := Z5.out; simp; omega) ?_; intro qa ql qc w6 hown6 hgrow6 hat6
             have hO6 : w6.heap[w1.heap.size]? = some (.cells #[.string t, v] 86) := (hgrow6.block w1.heap.size (by have := Z5.out; simp; omega) (fun e => K3.out.own e.symm)).trans ((Below.heap_alloc _ _ _ (by have := Z5.out; omega)).trans O5.out)
             have y0 : w6.cell? ⟨w1.heap.size, 1, none⟩ = some v := blk_cellG (i := 1) hO6 rfl
             have y1 : w6.frozen? ⟨w1.heap.size, 1, none⟩ = false := blk_freeG (i := 1) hO6)
          | (refine step_call rfl 86 entTA _ _ rfl _ _ hcall (by first | (simp [Act.eval]; done) | (simp [Act.eval, Act.put]; done) | rfl) ?_; rintro e w5 ⟨at5, bad5, cs, T, rfl, hrep, S5, g5, hle5, hx5⟩
             obtain ⟨u0, u1, u2, uk, ua, uc, hTT, rfl, -, -, -, -⟩ := ty.ty_open (Sh.bare hrep)
             clear hTT
             obtain ⟨ul, hul⟩ : ∃ n, n = uk.length := ⟨_, rfl⟩
             rw [← hul] at hrep ⊢
             have G5 : Hid (w3.grownBy w5 (some E.cb)) := ⟨g5.os, g5.tape, g5.output, g5.size, g5.block⟩
             have K5 : Hid (Gc tyP 145 (.cells #[.string ⟨#[]⟩, .slice none 0 0] 86) (fun v => .cells #[.string t, v] 86) (fun xs => 8 + xs.length + ty.wts xs) E w w5 w1.heap.size v xs at_ bad at5 bad5) := K3.out.by G5.out S5 hle5 (by rcases hx5 with h | h; exact .inl h; exact .inr h.1)
             have Z5 : Hid (w3.heap.size ≤ w5.heap.size ∧ w.heap.size < w5.heap.size ∧ w1.heap.size < w5.heap.size) := ⟨g5.size, K5.out.cx.lt, K5.out.ablt⟩
             have O5 : Hid (w5.heap[w1.heap.size]? = some (.cells #[.string t, v] 86)) := K5.out.acc
             have g4b : w5.cell? ⟨w1.heap.size, 1, none⟩ = some v := blk_cellG (i := 1) O5.out rfl
             have g4c : ∀ o', (w5.alloc o').cell? ⟨w1.heap.size, 1, none⟩ = some v := fun o' => (((Below.refl _ w5).alloc (Nat.le_refl _) o').cell (p := ⟨w1.heap.size, 1, none⟩) (by have := Z5.out; show w1.heap.size < _; omega)).trans g4b
             have RA : Hid ((w5.alloc (.cells #[.int .i64 u0, .int .i64 u1, .string u2, .slice ua ul uc] 145)).ownsRow (w.heap.size + 1) 145 4 v xs.length (flat cssG xs.length)) := by
               obtain ⟨hl, hv⟩ := GR.out
               refine ⟨hl, ?_⟩
               rcases hv with h0 | ⟨g, cap, cur, h1, h2, h3, h4⟩
               · exact Or.inl h0
               · have hg := (Array.getElem?_eq_some_iff.1 h3).1
                 exact Or.inr ⟨g, cap, cur, h1, h2, by rw [Below.heap_alloc _ _ _ (by have := Z5.out; omega), G5.out.block g hg fun e => by simp only [Option.some.injEq] at e; omega]; exact h3, h4⟩
             have HR5 : Hid (tyP.rep w5 (fun b => w3.heap.size ≤ b ∧ b < w5.heap.size) [.int .i64 u0, .int .i64 u1, .string u2, .slice ua ul uc] T) := hrep
             have HX5 : Hid (at' ≤ at5 ∧ (0 ≤ bad5 ∨ (bad5 = bad' ∧ at' < at5 ∧ ty.wt T + 2 ≤ 10 * (at5 - at')))) := ⟨hle5, hx5⟩
             clear hul hrep S5 g5 hle5 hx5
             refine ⟨_, rfl, ?_⟩))
      all_goals
        have NX : Hid (Gc tyP 145 (.cells #[.string ⟨#[]⟩, .slice none 0 0] 86) (fun v => .cells #[.string t, v] 86) (fun xs => 8 + xs.length + ty.wts xs) E w (w6.setCell ⟨w1.heap.size, 1, none⟩ (.slice qa ql qc)) w1.heap.size (.slice qa ql qc) (xs ++ [T]) at_ bad at5 bad5) := by
          refine K5.out.push (r0 := w3.heap.size) (w2 := w5.alloc (.cells #[.int .i64 u0, .int .i64 u1, .string u2, .slice ua ul uc] 145)) (css := cssG) (fun i hi => tyP.mono (tyP.on (GK.out i hi) fun b hS => G5.out.block b hS.2.1 fun e => by simp only [Option.some.injEq] at e; omega) fun b hS => ⟨hS.1, by have := Z5.out; omega, hS.2.2⟩) HR5.out hab (by omega) HOR.out ((Below.refl _ _).alloc (Nat.le_refl _) _) ?_ hown6 hgrow6 hat6 1 rfl (fun h => by simp [World.setCell, Array.getElem?_modify, h])
          have h1 := HX5.out; have h2 := K3.out.hx; have h3 := HBD.out; have h4 := K3.out.le
          by_cases hb : 0 ≤ bad5
          · exact .inl hb
          · refine .inr ⟨by omega, by omega, ?_⟩
            show 8 + (xs ++ [T]).length + ty.wts (xs ++ [T]) + 2 ≤ _
            rw [twts_snoc, List.length_append, List.length_singleton]
            omega
        have RZ : Hid (at' ≤ at5 ∧ (0 ≤ bad5 ∨ at' < at5)) := ⟨HX5.out.1, by
          rcases HX5.out.2 with h | h
          · exact .inl h
          · exact .inr h.2.1⟩
        clear hown6 hgrow6 hat6 hO6 y0 y1 HR5 RA g4 g4b g4c O5 K5 Z5 hcall GR GK G5 HX5
        go_wp2
        go_round
        case rel => exact ⟨_, _, at5, bad5, NX⟩
        case measure =>
          rw [NX.out.cx.st.msrG, HM.out]
          have h1 := RZ.out; have h2 := HBD.out
          rw [if_pos h2.1]
          split <;> omega
    | false =>
      clear hb HM
      obtain ⟨av, cv, hv⟩ := K3.out.row.slice
      subst hv
      have y0 : w3.cell? ⟨w1.heap.size, 0, none⟩ = some (.string t) := blk_cellG (i := 0) K3.out.acc rfl
      have y1 : w3.cell? ⟨w1.heap.size, 1, none⟩ = some (.slice av xs.length cv) := blk_cellG (i := 1) K3.out.acc rfl
      have r0 : w3.cell? ⟨w.heap.size, 0, none⟩ = some (.string ⟨#[]⟩) := blk_cellG (i := 0) K3.out.cx.res rfl
      have r1 : w3.cell? ⟨w.heap.size, 1, none⟩ = some (.slice none 0 0) := blk_cellG (i := 1) K3.out.cx.res rfl
      have fr : ∀ o, w3.frozen? ⟨w.heap.size, o, none⟩ = false := fun o => blk_freeG K3.out.cx.res
      have HT : Hid (∀ w', w3.grownBy w' (some w.heap.size) → Gives conP con.wt E w at_ bad (.returned (.agg [.string t, .slice av xs.length cv].toArray)) w') := fun w' hg' => answerG (T := (t, xs)) HS.out K3.out.cx.gr K3.out.cx.lt (Sh.of (con.con_shut (by have := HTS.out; unfold maxLen; omega) (Sh.bare (K3.out.row.repP (by decide))))) K3.out.cx.st K3.out.le (by
        rcases K3.out.hx with h | ⟨e, h, h2⟩
        · exact .inl h
        · refine .inr ⟨e, h, ?_⟩
          have h3 : 8 + xs.length + ty.wts xs + 2 ≤ 10 * (at' - at_) := h2
          have := HTS.out; simp only [con.wt]; omega) hg'
      go_wp2
      refine bodyPost_ret (v := .agg #[.string t, .slice av xs.length cv]) (by simp [results, Tryz.f60, go_sem, r0, r1]) rfl ?_
      refine HT.out _ ?_
      repeat first | exact grown_self _ _ | (refine grown_by_by ?_ (grown_setG _ _ _ _))

end Go.Proofs.YtpdmdcoaaboikaaGreatDoor.tok

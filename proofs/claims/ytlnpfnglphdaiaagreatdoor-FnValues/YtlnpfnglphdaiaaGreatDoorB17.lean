/-
  The model's Parse, from what l3E and Tidy say: a program in new memory, of a bounded weight; nothing that was there is turned.
-/
import Derived.Deep.RegionHeld3
import Derived.Test.YtlnpfnglphdaiaaGreatDoorB1
import Derived.Test.YtlnpfnglphdaiaaGreatDoorB2
import Derived.Test.YtlnpfnglphdaiaaGreatDoorB3
import Derived.Test.YtlnpfnglphdaiaaGreatDoorB4
import Derived.Test.YtlnpfnglphdaiaaGreatDoorB5
import Derived.Test.YtlnpfnglphdaiaaGreatDoorB6
import Derived.Test.YtlnpfnglphdaiaaGreatDoorB7
import Derived.Test.YtlnpfnglphdaiaaGreatDoorB8
import Derived.Test.YtlnpfnglphdaiaaGreatDoorB9
import Derived.Test.YtlnpfnglphdaiaaGreatDoorB10
import Derived.Test.YtlnpfnglphdaiaaGreatDoorB11
import Derived.Test.YtlnpfnglphdaiaaGreatDoorB12
import Derived.Test.YtlnpfnglphdaiaaGreatDoorB13
import Derived.Test.YtlnpfnglphdaiaaGreatDoorB14
import Derived.Test.YtlnpfnglphdaiaaGreatDoorB15
import Derived.Test.YtlnpfnglphdaiaaGreatDoorB16
namespace Go.Proofs.YtlnpfnglphdaiaaGreatDoor.tok
open Go Go.RowKit Go.Deep Go.Proofs.YtlnpfnglphdaiaaGreatDoor.rose Go.Proofs.YtlnpfnglphdaiaaGreatDoor
set_option linter.unusedVariables false
set_option linter.unusedSimpArgs false

abbrev progP : Sh prog.ProgD := dataPs.pair node.ndSh
theorem progP_bare {w : World} {S : Nat → Prop} {cs : List Value} {p : prog.ProgD} (h : progP.rep w S cs p) : prog.progSh.rep w S cs p := by
  obtain ⟨c1, c2, e, h1, h2⟩ := h
  exact ⟨c1, c2, e, data.dataSh.slice.mono (Sh.bare h1) fun b hS => hS.1, h2⟩

def ParseSays (w : World) (e : Ending) (w' : World) : Prop :=
  (∃ (cs : List Value) (p : prog.ProgD) (n : Int), e = .returned (.tuple #[.agg cs.toArray, .int .i64 n]) ∧ progP.rep w' (fun b => w.heap.size ≤ b ∧ b < w'.heap.size) cs p ∧ prog.wt p ≤ 40000) ∧ Below w.heap.size w w'

theorem zero_node (w : World) (S : Nat → Prop) : node.ndSh.rep w S [.int .i64 0, .int .i64 0, .string ⟨#[]⟩, .string ⟨#[]⟩, .slice none 0 0] (.mk (0, 0, ⟨#[]⟩, ⟨#[]⟩) []) :=
  node.nd_shut (by omega) (by omega) (by decide) (by decide) ⟨none, 0, fun _ => [], rfl, Nat.le_refl _, Nat.zero_le _, fun _ => rfl, fun i hi => absurd hi (Nat.not_lt_zero _), fun i hi => absurd hi (Nat.not_lt_zero _)⟩
theorem zero_prog (w : World) (S : Nat → Prop) : progP.rep w S [.slice none 0 0, .int .i64 0, .int .i64 0, .string ⟨#[]⟩, .string ⟨#[]⟩, .slice none 0 0] ([], .mk (0, 0, ⟨#[]⟩, ⟨#[]⟩) []) :=
  ⟨[_], _, rfl, ⟨none, 0, fun _ => [], rfl, Nat.le_refl _, Nat.zero_le _, fun _ => rfl, fun i hi => absurd hi (Nat.not_lt_zero _), fun i hi => absurd hi (Nat.not_lt_zero _)⟩, zero_node w S⟩
theorem zero_wt : prog.wt ([], .mk (0, 0, ⟨#[]⟩, ⟨#[]⟩) []) ≤ 40000 := by simp [prog.wt, data.wts, node.wt, node.wts]; decide

theorem entD : Enters Tryz.prog 44 := enters_of Tryz.func44 (by kernel_rfl) rfl
theorem infoData : (Tryz.prog.info? 97).map (fun i => (i.zero, i.size, i.bytes)) = some (some (.agg #[.string ⟨#[]⟩, .int .i64 0, .slice none 0 0]), 3, 48) := by kernel_rfl
theorem field0P (k : Int) (t : ByteArray) (n p : Int) (W : World) : (Instr.field 125 (.agg #[.int .i64 k, .string t, .int .i64 n, .int .i64 p]) 0).run Tryz.prog W = .ok (.int .i64 k) W := by kernel_rfl

theorem below_grown {w wA wB wr w' : World} {c : Nat} (h1 : Below w.heap.size w wB) (h2 : wB.grownBy wr (some c)) (hc : w.heap.size ≤ c) (h3 : Below w.heap.size wr w') : Below w.heap.size w w' :=
  ((h1.grown h2 h1.size (fun k e => by simp only [Option.some.injEq] at e; omega))).trans h3

set_option maxRecDepth 100000 in
set_option maxHeartbeats 16000000 in
theorem parse_of (HE : ∀ (E : Env) w at_ bad, St E w at_ bad → Calls Tryz.prog 45 #[.pointer (some ⟨E.cb, 0, none⟩)] w (Nodes E w at_ bad))
    (tf : prog.ProgD → Bool) (HTd : ∀ (p : prog.ProgD) cs w, prog.wt p ≤ 1048576 → prog.progSh.rep w (· < w.heap.size) cs p → Calls Tryz.prog 48 #[.agg cs.toArray] w fun e w' => e = .returned (.bool (tf p)) ∧ Below w.heap.size w w')
    (s : ByteArray) (w : World) (hs : s.size ≤ maxLen) : Calls Tryz.prog 27 #[.string s] w (ParseSays w) := by
  have HEE : Hid _ := HE
  have HTT : Hid _ := HTd
  obtain ⟨tiD, hti, hzz⟩ := Option.map_eq_some_iff.1 infoData
  simp only [Prod.mk.injEq] at hzz
  obtain ⟨hi0, hi1, hi2⟩ := hzz
  have TID : Hid (Tryz.prog.info? 97 = some tiD ∧ tiD.zero = some (.agg #[.string ⟨#[]⟩, .int .i64 0, .slice none 0 0]) ∧ tiD.size = 3 ∧ tiD.bytes = 48) := ⟨hti, hi0, hi1, hi2⟩
  obtain ⟨w0, hw0⟩ : ∃ w0, w0 = w.alloc (.cells #[.slice none 0 0, .int .i64 0, .int .i64 0, .string ⟨#[]⟩, .string ⟨#[]⟩, .slice none 0 0] 62) := ⟨_, rfl⟩
  have HW0 : Hid (w0 = w.alloc (.cells #[.slice none 0 0, .int .i64 0, .int .i64 0, .string ⟨#[]⟩, .string ⟨#[]⟩, .slice none 0 0] 62)) := hw0
  have B0 : Hid (Below w.heap.size w w0 ∧ w0.heap.size = w.heap.size + 1 ∧ w0.heap[w.heap.size]? = some (.cells #[.slice none 0 0, .int .i64 0, .int .i64 0, .string ⟨#[]⟩, .string ⟨#[]⟩, .slice none 0 0] 62)) := by rw [hw0]; exact ⟨(Below.refl _ _).alloc (Nat.le_refl _) _, by simp, alloc_top _ _⟩
  have HX := tokens_any s w0 hs
  clear hw0 HE HTd hti hi0 hi1 hi2 hs
  go_enter Tryz.func27, Tryz.ntmps27
  go_wp2_with fail
  rw [← HW0.out]
  refine HX.mono ?_
  rintro e wA ⟨⟨v, at_, l, rfl, ha0, ha1, hr, hrest⟩, hb⟩
  have BA : Hid (Below w.heap.size w wA ∧ w.heap.size < wA.heap.size ∧ wA.heap[w.heap.size]? = some (.cells #[.slice none 0 0, .int .i64 0, .int .i64 0, .string ⟨#[]⟩, .string ⟨#[]⟩, .slice none 0 0] 62)) := by
    have h1 := hb.size; have h2 := B0.out.2.1
    exact ⟨B0.out.1.trans (hb.mono (by omega)), by omega, (hb.block _ (by omega)).trans B0.out.2.2⟩
  by_cases hat : 0 ≤ at_
  · clear hrest hr
    have r0 : wA.cell? ⟨w.heap.size, 0, none⟩ = some (.slice none 0 0) := blk_cellG (i := 0) BA.out.2.2 rfl
    have r1 : wA.cell? ⟨w.heap.size, 1, none⟩ = some (.int .i64 0) := blk_cellG (i := 1) BA.out.2.2 rfl
    have r2 : wA.cell? ⟨w.heap.size, 2, none⟩ = some (.int .i64 0) := blk_cellG (i := 2) BA.out.2.2 rfl
    have r3 : wA.cell? ⟨w.heap.size, 3, none⟩ = some (.string ⟨#[]⟩) := blk_cellG (i := 3) BA.out.2.2 rfl
    have r4 : wA.cell? ⟨w.heap.size, 4, none⟩ = some (.string ⟨#[]⟩) := blk_cellG (i := 4) BA.out.2.2 rfl
    have r5 : wA.cell? ⟨w.heap.size, 5, none⟩ = some (.slice none 0 0) := blk_cellG (i := 5) BA.out.2.2 rfl
    have fr : ∀ o, wA.frozen? ⟨w.heap.size, o, none⟩ = false := fun o => blk_freeG BA.out.2.2
    clear HX hb
    go_wp2
    refine bodyPost_ret (v := .tuple #[.agg #[.slice none 0 0, .int .i64 0, .int .i64 0, .string ⟨#[]⟩, .string ⟨#[]⟩, .slice none 0 0], .int .i64 at_]) (by simp [results, Tryz.f27, go_sem, r0, r1, r2, r3, r4, r5]) rfl ?_
    refine ⟨⟨[.slice none 0 0, .int .i64 0, .int .i64 0, .string ⟨#[]⟩, .string ⟨#[]⟩, .slice none 0 0], _, at_, rfl, zero_prog _ _, zero_wt⟩, ?_⟩
    repeat first | with_reducible exact BA.out.1 | with_reducible refine Below.drew ?_ | (refine Below.setCell ?_ (by first | (simp; done) | (simp; omega)) _)
  · obtain ⟨hf, hl, hlast⟩ := hrest (by omega)
    obtain ⟨a, c, hv⟩ := slice_cells hr
    simp only [List.cons.injEq, and_true] at hv
    subst hv
    obtain ⟨wB, hwB⟩ : ∃ x, x = wA.alloc (.cells #[.slice a l.length c, .int .i64 0, .int .i64 (-1), .slice none 0 0, .bool false] 120) := ⟨_, rfl⟩
    have HWB : Hid (wB = wA.alloc (.cells #[.slice a l.length c, .int .i64 0, .int .i64 (-1), .slice none 0 0, .bool false] 120)) := hwB
    obtain ⟨wC, hwC⟩ : ∃ x, x = wB.alloc (.cells #[.slice none 0 0, .int .i64 0, .int .i64 0, .string ⟨#[]⟩, .string ⟨#[]⟩, .slice none 0 0] 62) := ⟨_, rfl⟩
    have HWC : Hid (wC = wB.alloc (.cells #[.slice none 0 0, .int .i64 0, .int .i64 0, .string ⟨#[]⟩, .string ⟨#[]⟩, .slice none 0 0] 62)) := hwC
    obtain ⟨E, hE⟩ : ∃ E : Env, E = ⟨wA.heap.size, a, c, l, wA.heap.size, fun _ => False, .slice none 0 0⟩ := ⟨_, rfl⟩
    have KC : Hid (Pc E wB wC (.slice none 0 0) [] 0 (-1)) := by rw [hE]; exact Pc.start hr hf hl hlast hwB hwC
    have HCB : Hid (E.cb = wA.heap.size ∧ E.toks.length ≤ 3001) := by rw [hE]; exact ⟨rfl, hl⟩
    have BB : Hid (Below w.heap.size w wB ∧ w.heap.size < wB.heap.size ∧ wB.heap[w.heap.size]? = some (.cells #[.slice none 0 0, .int .i64 0, .int .i64 0, .string ⟨#[]⟩, .string ⟨#[]⟩, .slice none 0 0] 62)) := by
      have bB : Below wA.heap.size wA wB := by rw [hwB]; exact (Below.refl _ _).alloc (Nat.le_refl _) _
      have h1 := BA.out; have h2 := bB.size
      exact ⟨h1.1.trans (bB.mono (by omega)), by omega, (bB.block _ h1.2.1).trans h1.2.2⟩
    have zAB : wB.heap.size = wA.heap.size + 1 := by rw [hwB]; simp
    have HAB : Hid (wB.heap.size = wA.heap.size + 1) := zAB
    have hcbe : wA.heap.size = E.cb := HCB.out.1.symm
    clear HX hb hr hf hl hlast ha0 ha1 hwB hwC hE hrest zAB
    go_wp2
    rw [← HWB.out, ← HWC.out]
    obtain ⟨Ab, hAb⟩ : ∃ n, n = wB.heap.size := ⟨_, rfl⟩
    have HABE : Hid (Ab = wB.heap.size) := hAb
    have habe : E.cb + 1 = Ab := by rw [hAb, HAB.out, HCB.out.1]
    rw [habe]
    clear HWB HWC hAb habe hcbe
    go_loopw [22] (fun _ wr => ∃ (NS : Nat → Prop) (nv v : Value) (xs : List data.DataD) (at' : Nat) (bad' : Int), Hid (Pc (E.at NS nv) wB wr v xs at' bad')) (fun _ wr => msrG E wr)
    case atStart => exact ⟨E.NS, E.nv, _, [], 0, -1, KC⟩
    case round =>
      clear KC
      obtain ⟨NS, nv, v, xs, at', bad', HK⟩ := hrel
      have HM : Hid (msrG E wr = 2 * (E.toks.length - at') + (if bad' < 0 then 1 else 0)) := HK.out.st.msrG
      have HX := is_any (E.at NS nv) wr at' bad' HK.out.st ⟨#[100, 97, 116, 97]⟩
      go_wp2_with fail
      refine HX.mono ?_
      rintro e w3 ⟨⟨b, rfl, hb⟩, hB⟩
      have K3 : Hid (Pc (E.at NS nv) wB w3 v xs at' bad') := HK.out.on hB
      clear hB HX HK
      cases b with
      | true =>
        have HBD : Hid (bad' < 0 ∧ at' + 1 < E.toks.length) := hb rfl
        clear hb
        obtain ⟨Ab2, hAb2⟩ : ∃ n, n = wB.heap.size := ⟨_, rfl⟩
        clear hAb2 Ab2
        obtain ⟨av, cv, hv⟩ := K3.out.row.slice
        have HV : Hid (v = .slice av xs.length cv) := hv
        clear hv
        obtain ⟨cssG, grow, gk⟩ := K3.out.row
        have GR : Hid (w3.ownsRow (wB.heap.size + 1) 97 3 v xs.length (flat cssG xs.length)) := grow
        have GK : Hid (∀ i (h : i < xs.length), dataP.rep w3 (fun b => wB.heap.size < b ∧ b < w3.heap.size ∧ b ≠ wB.heap.size ∧ v.ownBlock ≠ some b) (cssG i) xs[i]) := gk
        have HOR : Hid (∀ g, v.ownBlock = some g → wB.heap.size < g ∧ g < w3.heap.size) := fun g e => K3.out.row.ownlt e
        have hab : wB.heap.size < w3.heap.size := K3.out.ablt
        have hcb : E.cb < wB.heap.size := K3.out.cb
        have g4 : w3.cell? ⟨Ab, 0, none⟩ = some v := by rw [HABE.out]; exact blk_cellG (i := 0) K3.out.acc rfl
        have HLN : Hid (xs.length ≤ 30010) := by have h1 := K3.out.hx; have h2 := HBD.out; have h3 := HCB.out.2; show _ ≤ _; omega
        have hcall : Calls Tryz.prog 44 #[.pointer (some ⟨E.cb, 0, none⟩)] w3.drew (DataSays (E.at NS nv) w3.drew at' bad') := data_any (E.at NS nv) w3.drew at' bad' (K3.out.st.on (Below.refl _ _).drew)
        clear grow gk
        go_wp2_with fail
        go_region_law
          (first
            | (refine step_append_own rfl _ _ 28 rfl (wB.heap.size + 1) 97 tiD _ 3 48 Tryz.underlying28 TID.out.1 TID.out.2.1 TID.out.2.2.1 TID.out.2.2.2 rfl (by decide) v xs.length _ (by first | (simp [Act.eval, HV.out]; done) | (simp [Act.eval, Act.put, HV.out]; done)) RA.out ⟨w5.heap.size, 0, none⟩ 1 1 [.string u0, .int .i64 u1, .slice ua ul uc] rfl rfl (cells_new _ _ _ _ rfl) (by simp [Value.oneCell']) (by unfold maxLen; have := HLN.out; omega) (by have := HLN.out; omega) (by have := Z5.out; simp; omega) ?_; intro qa ql qc w6 hown6 hgrow6 hat6
               have hO6 : w6.heap[Ab]? = some (.cells #[v, .int .i64 0, .int .i64 0, .string ⟨#[]⟩, .string ⟨#[]⟩, .slice none 0 0] 62) := (hgrow6.block Ab (by have := Z5.out; have := HABE.out; simp; omega) (fun e => by have := (HOR.out _ e.symm).1; have := HABE.out; omega)).trans ((Below.heap_alloc _ _ _ (by have := Z5.out; have := HABE.out; omega)).trans O5.out)
               have y0 : w6.cell? ⟨Ab, 0, none⟩ = some v := blk_cellG (i := 0) hO6 rfl
               have y1 : w6.frozen? ⟨Ab, 0, none⟩ = false := blk_freeG (i := 0) hO6)
            | (refine step_call rfl 44 entD _ _ rfl _ _ hcall (by first | (simp [Act.eval]; done) | (simp [Act.eval, Act.put]; done) | rfl) ?_; rintro e w5 ⟨NS5, nv5, at5, bad5, cs, T, rfl, hrep, S5, hns5, g5, hle5, hx5⟩
               obtain ⟨u0, u1, uk, ua, uc, hTT, rfl, -, -, -⟩ := data.data_open (Sh.bare hrep)
               clear hTT
               obtain ⟨ul, hul⟩ : ∃ n, n = uk.length := ⟨_, rfl⟩
               rw [← hul] at hrep ⊢
               have G5 : Hid (w3.grownBy w5 (some E.cb)) := ⟨g5.os, g5.tape, g5.output, g5.size, g5.block⟩
               have K5 : Hid (Pc (E.at NS5 nv5) wB w5 v xs at5 bad5) := K3.out.turn (E := E) ⟨rfl, rfl⟩ G5.out S5 hle5 (by rcases hx5 with h | h; exact .inl h; exact .inr h.1) hns5
               have Z5 : Hid (w3.heap.size ≤ w5.heap.size ∧ wB.heap.size < w5.heap.size) := ⟨g5.size, K5.out.ablt⟩
               have O5 : Hid (w5.heap[Ab]? = some (.cells #[v, .int .i64 0, .int .i64 0, .string ⟨#[]⟩, .string ⟨#[]⟩, .slice none 0 0] 62)) := by show _ = _; rw [HABE.out]; exact K5.out.acc
               have g4b : w5.cell? ⟨Ab, 0, none⟩ = some v := blk_cellG (i := 0) O5.out rfl
               have g4c : ∀ o', (w5.alloc o').cell? ⟨Ab, 0, none⟩ = some v := fun o' => (((Below.refl _ w5).alloc (Nat.le_refl _) o').cell (p := ⟨Ab, 0, none⟩) (by have := Z5.out; have := HABE.out; show Ab < _; omega)).trans g4b
               have RA : Hid ((w5.alloc (.cells #[.string u0, .int .i64 u1, .slice ua ul uc] 97)).ownsRow (wB.heap.size + 1) 97 3 v xs.length (flat cssG xs.length)) := by
                 obtain ⟨hl, hv⟩ := GR.out
                 refine ⟨hl, ?_⟩
                 rcases hv with h0 | ⟨g, cap, cur, h1, h2, h3, h4⟩
                 · exact Or.inl h0
                 · have hg := (Array.getElem?_eq_some_iff.1 h3).1
                   exact Or.inr ⟨g, cap, cur, h1, h2, by rw [Below.heap_alloc _ _ _ (by have := Z5.out; omega), G5.out.block g hg fun e => by simp only [Option.some.injEq] at e; omega]; exact h3, h4⟩
               have HR5 : Hid (dataP.rep w5 (fun b => w3.heap.size ≤ b ∧ b < w5.heap.size) [.string u0, .int .i64 u1, .slice ua ul uc] T) := hrep
               have HX5 : Hid (at' ≤ at5 ∧ (0 ≤ bad5 ∨ (bad5 = bad' ∧ at' < at5 ∧ data.wt T + 2 ≤ 10 * (at5 - at')))) := ⟨hle5, hx5⟩
               clear hul hrep S5 g5 hle5 hx5 hns5
               refine ⟨_, rfl, ?_⟩))
        all_goals
          have NX : Hid (Pc (E.at NS5 nv5) wB (w6.setCell ⟨Ab, 0, none⟩ (.slice qa ql qc)) (.slice qa ql qc) (xs ++ [T]) at5 bad5) := by
            refine K5.out.push (r0 := w3.heap.size) (w2 := w5.alloc (.cells #[.string u0, .int .i64 u1, .slice ua ul uc] 97)) (css := cssG) (fun i hi => dataP.mono (dataP.on (GK.out i hi) fun b hS => G5.out.block b hS.2.1 fun e => by simp only [Option.some.injEq] at e; omega) fun b hS => ⟨hS.1, by have := Z5.out; omega, hS.2.2⟩) HR5.out hab (fun g e => (HOR.out g e).2) ((Below.refl _ _).alloc (Nat.le_refl _) _) ?_ hown6 hgrow6 hat6 (by rw [HABE.out])
            have h1 := HX5.out; have h2 := K3.out.hx; have h3 := HBD.out
            by_cases hb : 0 ≤ bad5
            · exact .inl hb
            · refine .inr ⟨by omega, ?_⟩
              rw [dwts_snoc, List.length_append, List.length_singleton]
              omega
          have RZ : Hid (at' ≤ at5 ∧ (0 ≤ bad5 ∨ at' < at5)) := ⟨HX5.out.1, by
            rcases HX5.out.2 with h | h
            · exact .inl h
            · exact .inr h.2.1⟩
          clear hown6 hgrow6 hat6 hO6 y0 y1 HR5 RA g4 g4b g4c O5 K5 Z5 hcall GR GK G5 HX5
          go_wp2
          go_round
          case rel => exact ⟨NS5, nv5, _, _, at5, bad5, NX⟩
          case measure =>
            have e2 : msrG E (w6.setCell ⟨Ab, 0, none⟩ (.slice qa ql qc)) = 2 * (E.toks.length - at5) + (if bad5 < 0 then 1 else 0) := NX.out.st.msrG
            rw [e2, HM.out]
            have h1 := RZ.out; have h2 := HBD.out
            rw [if_pos h2.1]
            split <;> omega
      | false =>
        clear hb HM
        have HX : Calls Tryz.prog 45 #[.pointer (some ⟨E.cb, 0, none⟩)] w3 (Nodes (E.at NS nv) w3 at' bad') := HEE.out (E.at NS nv) w3 at' bad' K3.out.st
        have hab : Ab < w3.heap.size := by rw [HABE.out]; exact K3.out.ablt
        have hcb : E.cb < Ab := by rw [HABE.out]; exact K3.out.cb
        go_wp2_with fail
        refine HX.mono ?_
        rintro e w5 ⟨at5, bad5, cs, T, rfl, hrep, S5, g5, hle5, hx5⟩
        obtain ⟨m0, m1, m2, m3, ma, mc, mk, hTT, rfl, -, -, -⟩ := node.nd_open hrep
        clear hTT
        obtain ⟨ml, hml⟩ : ∃ n, n = mk.length := ⟨_, rfl⟩
        rw [← hml] at hrep ⊢
        clear hml
        obtain ⟨av, cv, hv⟩ := K3.out.row.slice
        have HV : Hid (v = .slice av xs.length cv) := hv
        clear hv
        have K5 : Hid (Pc (E.at NS nv) wB w5 v xs at5 bad5) := K3.out.by g5 S5 hle5 (by rcases hx5 with h | h; exact .inl h; exact .inr h.1)
        have hA5 : w5.heap[Ab]? = some (.cells #[v, .int .i64 0, .int .i64 0, .string ⟨#[]⟩, .string ⟨#[]⟩, .slice none 0 0] 62) := by rw [HABE.out]; exact K5.out.acc
        have a1 : w5.cell? ⟨Ab, 1, none⟩ = some (.int .i64 0) := blk_cellG (i := 1) hA5 rfl
        have a2 : w5.cell? ⟨Ab, 2, none⟩ = some (.int .i64 0) := blk_cellG (i := 2) hA5 rfl
        have a3 : w5.cell? ⟨Ab, 3, none⟩ = some (.string ⟨#[]⟩) := blk_cellG (i := 3) hA5 rfl
        have a4 : w5.cell? ⟨Ab, 4, none⟩ = some (.string ⟨#[]⟩) := blk_cellG (i := 4) hA5 rfl
        have a5 : w5.cell? ⟨Ab, 5, none⟩ = some (.slice none 0 0) := blk_cellG (i := 5) hA5 rfl
        have fa : ∀ o, w5.frozen? ⟨Ab, o, none⟩ = false := fun o => blk_freeG hA5
        obtain ⟨w6, hw6⟩ : ∃ x, x = (((((w5.setCell ⟨Ab, 1, none⟩ (.int .i64 m0)).setCell ⟨Ab, 2, none⟩ (.int .i64 m1)).setCell ⟨Ab, 3, none⟩ (.string m2)).setCell ⟨Ab, 4, none⟩ (.string m3)).setCell ⟨Ab, 5, none⟩ (.slice ma ml mc)) := ⟨_, rfl⟩
        have HW6 : Hid (w6 = (((((w5.setCell ⟨Ab, 1, none⟩ (.int .i64 m0)).setCell ⟨Ab, 2, none⟩ (.int .i64 m1)).setCell ⟨Ab, 3, none⟩ (.string m2)).setCell ⟨Ab, 4, none⟩ (.string m3)).setCell ⟨Ab, 5, none⟩ (.slice ma ml mc))) := hw6
        have hoth : ∀ b, b ≠ Ab → w6.heap[b]? = w5.heap[b]? := fun b hb => by rw [hw6]; repeat rw [Below.heap_setCell _ _ _ _ hb]
        have hz6 : w6.heap.size = w5.heap.size := by rw [hw6]; simp [World.setCell]
        have S6 : Hid (St (E.at NS nv) w6 at5 bad5) := S5.keep (by omega) fun b hS => hoth b (by
          have e := HABE.out; have h1 := K5.out.top
          rcases hS with hS | hS | hS
          · have := (K5.out.ns b hS).1; omega
          · have h2 : b < E.B := hS; have h3 : E.B ≤ wB.heap.size := h1; omega
          · have h2 : b = E.cb := hS; omega)
        have hz35 := g5.size
        have P6 : Hid (w6.heap[Ab]? = some (.cells #[v, .int .i64 m0, .int .i64 m1, .string m2, .string m3, .slice ma ml mc] 62)) := by show _ = _; rw [hw6]; simp [World.setCell, Array.getElem?_modify, hA5]
        have RD : Hid (dataPs.rep w6 (fun b => wB.heap.size < b ∧ b < w6.heap.size) [v] xs) := by
          have e := HABE.out
          exact dataPs.mono (dataPs.on (K5.out.row.repP (by decide)) fun b hS => hoth b (by omega)) fun b hS => by omega
        have RM : Hid (node.ndSh.rep w6 (fun b => wB.heap.size < b ∧ b < w6.heap.size) [.int .i64 m0, .int .i64 m1, .string m2, .string m3, .slice ma ml mc] T) := by
          have e := HABE.out
          exact node.ndSh.mono (node.ndSh.on hrep fun b hS => hoth b (by omega)) fun b hS => by omega
        have GB : Hid (Below w.heap.size w w6 ∧ w6.heap[w.heap.size]? = some (.cells #[.slice none 0 0, .int .i64 0, .int .i64 0, .string ⟨#[]⟩, .string ⟨#[]⟩, .slice none 0 0] 62)) := by
          have e := HABE.out; have h1 := BB.out; have h2 := HCB.out.1; have h3 := HAB.out; have h4 := BA.out.2.1
          have g0 : wB.grownBy w5 (some E.cb) := K5.out.gr
          refine ⟨?_, ?_⟩
          · have hbb : Below w.heap.size w w5 := h1.1.grown g0 h1.1.size (fun k e => by simp only [Option.some.injEq] at e; omega)
            rw [hw6]
            repeat first | with_reducible exact hbb | (refine Below.setCell ?_ (by first | (simp; done) | (simp; omega)) _)
          · rw [hoth _ (by omega), g0.block _ h1.2.1 fun e => by simp only [Option.some.injEq] at e; omega]; exact h1.2.2
        have WT : Hid (at5 < E.toks.length ∧ (0 ≤ bad5 ∨ (bad5 = -1 ∧ xs.length + data.wts xs + node.wt T ≤ 10 * at5))) := ⟨S5.lt, by
          have h1 := K3.out.hx
          by_cases hb : 0 ≤ bad5
          · exact .inl hb
          · refine .inr ⟨by omega, by omega⟩⟩
        clear HX hrep S5 g5 hle5 hx5 hw6 hA5 hoth K3 K5
        obtain ⟨va, vc, nms, nn, hblk, -, -⟩ := S6.out.blk
        have c2 : w6.cell? ⟨E.cb, 2, none⟩ = some (.int .i64 bad5) := blk_cellG (i := 2) hblk rfl
        have c4 : w6.cell? ⟨E.cb, 4, none⟩ = some (.bool nn) := blk_cellG (i := 4) hblk rfl
        clear hblk
        rw [HW6.out] at c2 c4
        by_cases hbn : bad5 < 0
        · rw [← HW6.out] at c2 c4
          have HX : Calls Tryz.prog 46 #[.pointer (some ⟨E.cb, 0, none⟩)] w6 _ := now_any (E.at NS nv) w6 at5 bad5 S6.out
          rw [HW6.out] at c2
          go_wp2_with fail
          rw [← HW6.out]
          refine HX.mono ?_
          rintro e w7 ⟨⟨k, t, n, p, he, rfl, -⟩, hb⟩
          have S7 : Hid (St (E.at NS nv) w7 at5 bad5) := S6.out.on hb
          have P7 : Hid (w7.heap[Ab]? = some (.cells #[v, .int .i64 m0, .int .i64 m1, .string m2, .string m3, .slice ma ml mc] 62)) := (hb.block _ (Array.getElem?_eq_some_iff.1 P6.out).1).trans P6.out
          have GB7 : Hid (Below w.heap.size w w7 ∧ w7.heap[w.heap.size]? = some (.cells #[.slice none 0 0, .int .i64 0, .int .i64 0, .string ⟨#[]⟩, .string ⟨#[]⟩, .slice none 0 0] 62)) := ⟨GB.out.1.trans (hb.mono GB.out.1.size), (hb.block _ (Array.getElem?_eq_some_iff.1 GB.out.2).1).trans GB.out.2⟩
          have RD7 : Hid (dataPs.rep w7 (fun b => wB.heap.size < b ∧ b < w7.heap.size) [v] xs) := dataPs.mono (dataPs.on RD.out fun b hS => hb.block b hS.2) fun b hS => ⟨hS.1, Nat.lt_of_lt_of_le hS.2 hb.size⟩
          have RM7 : Hid (node.ndSh.rep w7 (fun b => wB.heap.size < b ∧ b < w7.heap.size) [.int .i64 m0, .int .i64 m1, .string m2, .string m3, .slice ma ml mc] T) := node.ndSh.mono (node.ndSh.on RM.out fun b hS => hb.block b hS.2) fun b hS => ⟨hS.1, Nat.lt_of_lt_of_le hS.2 hb.size⟩
          have c47 : w7.cell? ⟨E.cb, 4, none⟩ = some (.bool nn) := (hb.cell (p := ⟨E.cb, 4, none⟩) (show E.cb < _ from S6.out.cblt)).trans c4
          have c27 : w7.cell? ⟨E.cb, 2, none⟩ = some (.int .i64 bad5) := by rw [← HW6.out] at c2; exact (hb.cell (p := ⟨E.cb, 2, none⟩) (show E.cb < _ from S6.out.cblt)).trans c2
          have fl := field0P k t n p
          clear HX hb he c2 c4 a1 a2 a3 a4 a5 fa HW6 P6 GB RD RM S6
          by_cases hk : k = 0
          · subst hk
            have HWT : Hid (prog.wt (xs, T) ≤ 40000) := by have h1 := WT.out; have h2 := HCB.out.2; simp only [prog.wt]; show _ ≤ _; omega
            have y0 : w7.cell? ⟨Ab, 0, none⟩ = some v := blk_cellG (i := 0) P7.out rfl
            have y1 : w7.cell? ⟨Ab, 1, none⟩ = some (.int .i64 m0) := blk_cellG (i := 1) P7.out rfl
            have y2 : w7.cell? ⟨Ab, 2, none⟩ = some (.int .i64 m1) := blk_cellG (i := 2) P7.out rfl
            have y3 : w7.cell? ⟨Ab, 3, none⟩ = some (.string m2) := blk_cellG (i := 3) P7.out rfl
            have y4 : w7.cell? ⟨Ab, 4, none⟩ = some (.string m3) := blk_cellG (i := 4) P7.out rfl
            have y5 : w7.cell? ⟨Ab, 5, none⟩ = some (.slice ma ml mc) := blk_cellG (i := 5) P7.out rfl
            have hvv := HV.out
            subst hvv
            have RP : Hid (progP.rep w7 (fun b => wB.heap.size < b ∧ b < w7.heap.size) [.slice av xs.length cv, .int .i64 m0, .int .i64 m1, .string m2, .string m3, .slice ma ml mc] (xs, T)) := ⟨[_], _, rfl, RD7.out, RM7.out⟩
            cases nn with
            | true =>
              have r0 : w7.cell? ⟨w.heap.size, 0, none⟩ = some (.slice none 0 0) := blk_cellG (i := 0) GB7.out.2 rfl
              have r1 : w7.cell? ⟨w.heap.size, 1, none⟩ = some (.int .i64 0) := blk_cellG (i := 1) GB7.out.2 rfl
              have r2 : w7.cell? ⟨w.heap.size, 2, none⟩ = some (.int .i64 0) := blk_cellG (i := 2) GB7.out.2 rfl
              have r3 : w7.cell? ⟨w.heap.size, 3, none⟩ = some (.string ⟨#[]⟩) := blk_cellG (i := 3) GB7.out.2 rfl
              have r4 : w7.cell? ⟨w.heap.size, 4, none⟩ = some (.string ⟨#[]⟩) := blk_cellG (i := 4) GB7.out.2 rfl
              have r5 : w7.cell? ⟨w.heap.size, 5, none⟩ = some (.slice none 0 0) := blk_cellG (i := 5) GB7.out.2 rfl
              have fr : ∀ o, w7.frozen? ⟨w.heap.size, o, none⟩ = false := fun o => blk_freeG GB7.out.2
              go_wp2
              refine bodyPost_ret (v := .tuple #[.agg #[.slice none 0 0, .int .i64 0, .int .i64 0, .string ⟨#[]⟩, .string ⟨#[]⟩, .slice none 0 0], .int .i64 0]) (by simp [results, Tryz.f27, go_sem, r0, r1, r2, r3, r4, r5]) rfl ?_
              refine ⟨⟨[.slice none 0 0, .int .i64 0, .int .i64 0, .string ⟨#[]⟩, .string ⟨#[]⟩, .slice none 0 0], _, 0, rfl, zero_prog _ _, zero_wt⟩, ?_⟩
              repeat first | with_reducible exact GB7.out.1 | with_reducible refine Below.drew ?_ | (refine Below.setCell ?_ (by first | (simp; done) | (simp; omega)) _)
            | false =>
              have HX := HTT.out (xs, T) [.slice av xs.length cv, .int .i64 m0, .int .i64 m1, .string m2, .string m3, .slice ma ml mc] w7 (by have := HWT.out; omega) (prog.progSh.mono (progP_bare RP.out) fun b hS => hS.2)
              go_wp2_with fail
              refine HX.mono ?_
              rintro e w8 ⟨rfl, hb⟩
              have GB8 : Hid (Below w.heap.size w w8 ∧ w8.heap[w.heap.size]? = some (.cells #[.slice none 0 0, .int .i64 0, .int .i64 0, .string ⟨#[]⟩, .string ⟨#[]⟩, .slice none 0 0] 62)) := ⟨GB7.out.1.trans (hb.mono GB7.out.1.size), (hb.block _ (Array.getElem?_eq_some_iff.1 GB7.out.2).1).trans GB7.out.2⟩
              have P8 : Hid (w8.heap[Ab]? = some (.cells #[.slice av xs.length cv, .int .i64 m0, .int .i64 m1, .string m2, .string m3, .slice ma ml mc] 62)) := (hb.block _ (Array.getElem?_eq_some_iff.1 P7.out).1).trans P7.out
              have RP8 : Hid (progP.rep w8 (fun b => wB.heap.size < b ∧ b < w8.heap.size) [.slice av xs.length cv, .int .i64 m0, .int .i64 m1, .string m2, .string m3, .slice ma ml mc] (xs, T)) := progP.mono (progP.on RP.out fun b hS => hb.block b hS.2) fun b hS => ⟨hS.1, Nat.lt_of_lt_of_le hS.2 hb.size⟩
              clear HX hb y0 y1 y2 y3 y4 y5 c47 c27
              have r0 : w8.cell? ⟨w.heap.size, 0, none⟩ = some (.slice none 0 0) := blk_cellG (i := 0) GB8.out.2 rfl
              have r1 : w8.cell? ⟨w.heap.size, 1, none⟩ = some (.int .i64 0) := blk_cellG (i := 1) GB8.out.2 rfl
              have r2 : w8.cell? ⟨w.heap.size, 2, none⟩ = some (.int .i64 0) := blk_cellG (i := 2) GB8.out.2 rfl
              have r3 : w8.cell? ⟨w.heap.size, 3, none⟩ = some (.string ⟨#[]⟩) := blk_cellG (i := 3) GB8.out.2 rfl
              have r4 : w8.cell? ⟨w.heap.size, 4, none⟩ = some (.string ⟨#[]⟩) := blk_cellG (i := 4) GB8.out.2 rfl
              have r5 : w8.cell? ⟨w.heap.size, 5, none⟩ = some (.slice none 0 0) := blk_cellG (i := 5) GB8.out.2 rfl
              have fr : ∀ o, w8.frozen? ⟨w.heap.size, o, none⟩ = false := fun o => blk_freeG GB8.out.2
              have y0 : w8.cell? ⟨Ab, 0, none⟩ = some (.slice av xs.length cv) := blk_cellG (i := 0) P8.out rfl
              have y1 : w8.cell? ⟨Ab, 1, none⟩ = some (.int .i64 m0) := blk_cellG (i := 1) P8.out rfl
              have y2 : w8.cell? ⟨Ab, 2, none⟩ = some (.int .i64 m1) := blk_cellG (i := 2) P8.out rfl
              have y3 : w8.cell? ⟨Ab, 3, none⟩ = some (.string m2) := blk_cellG (i := 3) P8.out rfl
              have y4 : w8.cell? ⟨Ab, 4, none⟩ = some (.string m3) := blk_cellG (i := 4) P8.out rfl
              have y5 : w8.cell? ⟨Ab, 5, none⟩ = some (.slice ma ml mc) := blk_cellG (i := 5) P8.out rfl
              obtain ⟨tb, htb⟩ : ∃ b, b = tf (xs, T) := ⟨_, rfl⟩
              rw [← htb]
              clear htb
              cases tb with
              | false =>
                go_wp2
                refine bodyPost_ret (v := .tuple #[.agg #[.slice none 0 0, .int .i64 0, .int .i64 0, .string ⟨#[]⟩, .string ⟨#[]⟩, .slice none 0 0], .int .i64 0]) (by simp [results, Tryz.f27, go_sem, r0, r1, r2, r3, r4, r5]) rfl ?_
                refine ⟨⟨[.slice none 0 0, .int .i64 0, .int .i64 0, .string ⟨#[]⟩, .string ⟨#[]⟩, .slice none 0 0], _, 0, rfl, zero_prog _ _, zero_wt⟩, ?_⟩
                repeat first | with_reducible exact GB8.out.1 | with_reducible refine Below.drew ?_ | (refine Below.setCell ?_ (by first | (simp; done) | (simp; omega)) _)
              | true =>
                go_wp2
                refine bodyPost_ret (v := .tuple #[.agg #[.slice av xs.length cv, .int .i64 m0, .int .i64 m1, .string m2, .string m3, .slice ma ml mc], .int .i64 (-1)]) (by simp [results, Tryz.f27, go_sem, r0, r1, r2, r3, r4, r5]) rfl ?_
                refine ⟨⟨[.slice av xs.length cv, .int .i64 m0, .int .i64 m1, .string m2, .string m3, .slice ma ml mc], (xs, T), -1, rfl, ?_, HWT.out⟩, ?_⟩
                · have h1 := BB.out.2.1
                  exact progP.mono (progP.on RP8.out fun b hS => by repeat rw [Below.heap_setCell _ _ _ _ (by simp; omega)]) fun b hS => ⟨by omega, by simp [World.setCell]; exact hS.2⟩
                · repeat first | with_reducible exact GB8.out.1 | (refine Below.setCell ?_ (by first | (simp; done) | (simp; omega)) _)
          · have HX : Calls Tryz.prog 47 #[.pointer (some ⟨E.cb, 0, none⟩)] w7 _ := bad_any (E.at NS nv) w7 at5 bad5 S7.out
            go_wp2_with fail
            refine HX.mono ?_
            rintro e w8 ⟨rfl, bad8, S8, g8, hb8⟩
            have GB8 : Hid (Below w.heap.size w w8 ∧ w8.heap[w.heap.size]? = some (.cells #[.slice none 0 0, .int .i64 0, .int .i64 0, .string ⟨#[]⟩, .string ⟨#[]⟩, .slice none 0 0] 62)) := by
              have h2 := HCB.out.1; have h4 := BA.out.2.1
              have g0 : w7.grownBy w8 (some E.cb) := g8
              exact ⟨GB7.out.1.grown g0 GB7.out.1.size (fun k e => by simp only [Option.some.injEq] at e; omega), (g0.block _ (Array.getElem?_eq_some_iff.1 GB7.out.2).1 fun e => by simp only [Option.some.injEq] at e; omega).trans GB7.out.2⟩
            obtain ⟨va, vc, nms, n2, hblk, -, -⟩ := S8.blk
            have c2 : w8.cell? ⟨E.cb, 2, none⟩ = some (.int .i64 bad8) := blk_cellG (i := 2) hblk rfl
            have ncb : E.cb ≠ w.heap.size := by have h2 := HCB.out.1; have h4 := BA.out.2.1; omega
            clear HX S8 g8 hblk c47 c27 hk
            have r0 : w8.cell? ⟨w.heap.size, 0, none⟩ = some (.slice none 0 0) := blk_cellG (i := 0) GB8.out.2 rfl
            have r1 : w8.cell? ⟨w.heap.size, 1, none⟩ = some (.int .i64 0) := blk_cellG (i := 1) GB8.out.2 rfl
            have r2 : w8.cell? ⟨w.heap.size, 2, none⟩ = some (.int .i64 0) := blk_cellG (i := 2) GB8.out.2 rfl
            have r3 : w8.cell? ⟨w.heap.size, 3, none⟩ = some (.string ⟨#[]⟩) := blk_cellG (i := 3) GB8.out.2 rfl
            have r4 : w8.cell? ⟨w.heap.size, 4, none⟩ = some (.string ⟨#[]⟩) := blk_cellG (i := 4) GB8.out.2 rfl
            have r5 : w8.cell? ⟨w.heap.size, 5, none⟩ = some (.slice none 0 0) := blk_cellG (i := 5) GB8.out.2 rfl
            have fr : ∀ o, w8.frozen? ⟨w.heap.size, o, none⟩ = false := fun o => blk_freeG GB8.out.2
            go_wp2
            go_region
            all_goals
              go_wp2
              refine bodyPost_ret (v := .tuple #[.agg #[.slice none 0 0, .int .i64 0, .int .i64 0, .string ⟨#[]⟩, .string ⟨#[]⟩, .slice none 0 0], .int .i64 bad8]) (by simp [results, Tryz.f27, go_sem, r0, r1, r2, r3, r4, r5]) rfl ?_
              refine ⟨⟨[.slice none 0 0, .int .i64 0, .int .i64 0, .string ⟨#[]⟩, .string ⟨#[]⟩, .slice none 0 0], _, bad8, rfl, zero_prog _ _, zero_wt⟩, ?_⟩
              repeat first | with_reducible exact GB8.out.1 | with_reducible refine Below.drew ?_ | (refine Below.setCell ?_ (by first | (simp; done) | (simp; omega)) _)
        · have hb5 : 0 ≤ bad5 := by omega
          have ncb : E.cb ≠ w.heap.size := by have h2 := HCB.out.1; have h4 := BA.out.2.1; omega
          clear hbn
          have C2W : Hid (w6.cell? ⟨E.cb, 2, none⟩ = some (.int .i64 bad5)) := by show _ = _; rw [HW6.out]; exact c2
          go_wp2
          rw [← HW6.out]
          clear c2 c4 a1 a2 a3 a4 a5 fa HW6
          have c2 := C2W.out
          have r0 : w6.cell? ⟨w.heap.size, 0, none⟩ = some (.slice none 0 0) := blk_cellG (i := 0) GB.out.2 rfl
          have r1 : w6.cell? ⟨w.heap.size, 1, none⟩ = some (.int .i64 0) := blk_cellG (i := 1) GB.out.2 rfl
          have r2 : w6.cell? ⟨w.heap.size, 2, none⟩ = some (.int .i64 0) := blk_cellG (i := 2) GB.out.2 rfl
          have r3 : w6.cell? ⟨w.heap.size, 3, none⟩ = some (.string ⟨#[]⟩) := blk_cellG (i := 3) GB.out.2 rfl
          have r4 : w6.cell? ⟨w.heap.size, 4, none⟩ = some (.string ⟨#[]⟩) := blk_cellG (i := 4) GB.out.2 rfl
          have r5 : w6.cell? ⟨w.heap.size, 5, none⟩ = some (.slice none 0 0) := blk_cellG (i := 5) GB.out.2 rfl
          have fr : ∀ o, w6.frozen? ⟨w.heap.size, o, none⟩ = false := fun o => blk_freeG GB.out.2
          go_region
          all_goals
            go_wp2
            refine bodyPost_ret (v := .tuple #[.agg #[.slice none 0 0, .int .i64 0, .int .i64 0, .string ⟨#[]⟩, .string ⟨#[]⟩, .slice none 0 0], .int .i64 bad5]) (by simp [results, Tryz.f27, go_sem, r0, r1, r2, r3, r4, r5]) rfl ?_
            refine ⟨⟨[.slice none 0 0, .int .i64 0, .int .i64 0, .string ⟨#[]⟩, .string ⟨#[]⟩, .slice none 0 0], _, bad5, rfl, zero_prog _ _, zero_wt⟩, ?_⟩
            repeat first | with_reducible exact GB.out.1 | with_reducible refine Below.drew ?_ | (refine Below.setCell ?_ (by first | (simp; done) | (simp; omega)) _)

end Go.Proofs.YtlnpfnglphdaiaaGreatDoor.tok

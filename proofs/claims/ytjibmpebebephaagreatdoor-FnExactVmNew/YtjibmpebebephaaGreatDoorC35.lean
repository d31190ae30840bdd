/-
  The program's VmNew; nothing that was there is turned. Condition: the table of names of ops is as its text lays it.
-/
import Derived.Deep.CutRange
import Derived.Deep.RegionHeld3
import Derived.WalkSmall
import Derived.Test.YtjibmpebebephaaGreatDoorC1
import Derived.Test.YtjibmpebebephaaGreatDoorC2
import Derived.Test.YtjibmpebebephaaGreatDoorC3
import Derived.Test.YtjibmpebebephaaGreatDoorC4
import Derived.Test.YtjibmpebebephaaGreatDoorC5
import Derived.Test.YtjibmpebebephaaGreatDoorC6
import Derived.Test.YtjibmpebebephaaGreatDoorC7
import Derived.Test.YtjibmpebebephaaGreatDoorC8
import Derived.Test.YtjibmpebebephaaGreatDoorC9
import Derived.Test.YtjibmpebebephaaGreatDoorC10
import Derived.Test.YtjibmpebebephaaGreatDoorC11
import Derived.Test.YtjibmpebebephaaGreatDoorC12
import Derived.Test.YtjibmpebebephaaGreatDoorC13
import Derived.Test.YtjibmpebebephaaGreatDoorC14
import Derived.Test.YtjibmpebebephaaGreatDoorC15
import Derived.Test.YtjibmpebebephaaGreatDoorC16
import Derived.Test.YtjibmpebebephaaGreatDoorC17
import Derived.Test.YtjibmpebebephaaGreatDoorC18
import Derived.Test.YtjibmpebebephaaGreatDoorC19
import Derived.Test.YtjibmpebebephaaGreatDoorC20
import Derived.Test.YtjibmpebebephaaGreatDoorC21
import Derived.Test.YtjibmpebebephaaGreatDoorC22
import Derived.Test.YtjibmpebebephaaGreatDoorC23
import Derived.Test.YtjibmpebebephaaGreatDoorC24
import Derived.Test.YtjibmpebebephaaGreatDoorC25
import Derived.Test.YtjibmpebebephaaGreatDoorC26
import Derived.Test.YtjibmpebebephaaGreatDoorC27
import Derived.Test.YtjibmpebebephaaGreatDoorC28
import Derived.Test.YtjibmpebebephaaGreatDoorC29
import Derived.Test.YtjibmpebebephaaGreatDoorC30
import Derived.Test.YtjibmpebebephaaGreatDoorC31
import Derived.Test.YtjibmpebebephaaGreatDoorC32
import Derived.Test.YtjibmpebebephaaGreatDoorC33
import Derived.Test.YtjibmpebebephaaGreatDoorC34
namespace Go.Proofs.YtjibmpebebephaaGreatDoor.vm
open Go Go.RowKit Go.Deep Go.Proofs.YtjibmpebebephaaGreatDoor.rose Go.Proofs.YtjibmpebebephaaGreatDoor Go.Proofs.YtjibmpebebephaaGreatDoor.fun Go.Proofs.YtjibmpebebephaaGreatDoor.heap
set_option linter.unusedVariables false
set_option linter.unusedSimpArgs false
set_option maxRecDepth 100000

theorem entI : Enters Tryz.prog 44 := enters_of Tryz.func44 (by kernel_rfl) rfl
/-- The machine that was made, and what was there; its functions are the argument. -/
def MadeI (w X : World) (hk lo0 gI gC gV : Nat) (aw aa : Option Addr) (n0 cw cap m0 : Nat) (half base next : Int) (T : HeapD) (each : Bool) : Prop :=
  MK w X hk lo0 aw n0 cw half base next T ∧ BlkV X gI #[.int .i64 1, .int .i64 1] 3 ∧ BlkV X gC #[.int .i64 0, .int .i64 0, .int .i64 1] 57 ∧
    BlkV X gV #[.slice aa m0 cap, .slice aw n0 cw, .int .i64 half, .int .i64 base, .int .i64 next, .slice (some ⟨gI, 0, none⟩) 2 2, .slice (some ⟨gC, 0, none⟩) 1 1, .slice none 0 0, .int .i64 0, .bool each] 35 ∧
    hk < gI ∧ hk < gC ∧ hk < gV ∧ gI ≠ gC ∧ gI ≠ gV ∧ gC ≠ gV
theorem leafI {w X Y : World} {hk lo0 gI gC gV n0 cw cap m0 : Nat} {aw aa : Option Addr} {half base next : Int} {T : HeapD} {each : Bool}
    (ar : hk < gI ∧ hk < gC ∧ hk < gV ∧ gI ≠ gC ∧ gI ≠ gV ∧ gC ≠ gV) (m : MK w X hk lo0 aw n0 cw half base next T) (fi : BlkV X gI #[.int .i64 1, .int .i64 1] 3) (fc : BlkV X gC #[.int .i64 0, .int .i64 0, .int .i64 1] 57)
    (hv : Y.heap[gV]? = some (.cells #[.slice aa m0 cap, .slice aw n0 cw, .int .i64 half, .int .i64 base, .int .i64 next, .slice (some ⟨gI, 0, none⟩) 2 2, .slice (some ⟨gC, 0, none⟩) 1 1, .slice none 0 0, .int .i64 0, .bool each] 35)) (ho : ∀ q, q ≠ gV → Y.heap[q]? = X.heap[q]?) (hz : Y.heap.size = X.heap.size) (hbl : ∀ B w0, Below B w0 X → B ≤ gV → Below B w0 Y) :
    MadeI w Y hk lo0 gI gC gV aw aa n0 cw cap m0 half base next T each :=
  ⟨m.put ar.2.2.1 ho hz hbl, (ho _ ar.2.2.2.2.1).trans fi, (ho _ ar.2.2.2.2.2).trans fc, hv, ar⟩
section
variable {w X Y w9 wc : World} {hk lo0 gI gC gV n0 cw cap m0 cf : Nat} {aw aa af : Option Addr} {half base next : Int} {T : HeapD} {ks : List FunD} {each : Bool}
theorem MadeI.on (h : MadeI w X hk lo0 gI gC gV aw aa n0 cw cap m0 half base next T each) (hb : Below X.heap.size X Y) : MadeI w Y hk lo0 gI gC gV aw aa n0 cw cap m0 half base next T each :=
  ⟨h.1.on hb, h.2.1.on hb, h.2.2.1.on hb, h.2.2.2.1.on hb, h.2.2.2.2⟩
theorem MadeI.sh (h : MadeI w X hk lo0 gI gC gV aw aa n0 cw cap ks.length half base next T each) (hf : funSh.slice.rep X (· < X.heap.size) [.slice aa ks.length cap] ks) : vmSh.rep X (· < X.heap.size) [.slice aa ks.length cap, .slice aw n0 cw, .int .i64 half, .int .i64 base, .int .i64 next, .slice (some ⟨gI, 0, none⟩) 2 2, .slice (some ⟨gC, 0, none⟩) 1 1, .slice none 0 0, .int .i64 0, .bool each] (ks, T, [1, 1], [(0, 0, 1)], [], 0, each) := by
  obtain ⟨m, fi, fc, fv, -⟩ := h
  have a3 := m.ar
  have hl1 := fi.lt
  have hl2 := fc.lt
  exact vm_shut (x0 := ks) (x1 := T) (x2 := [1, 1]) (x3 := [(0, 0, 1)]) (x4 := []) (x5 := 0) (x6 := each) hf (heapSh.mono (heapp_rep m.hp) fun b hb => by omega) (words_sh fi hl1) (call1_sh fc hl2) ⟨none, 0, fun _ => [], rfl, Nat.le_refl _, Nat.zero_le _, fun _ => rfl, fun i hi => absurd hi (Nat.not_lt_zero _), fun i hi => absurd hi (Nat.not_lt_zero _)⟩ (by omega)
theorem MadeI.made (h : MadeI w w9 hk lo0 gI gC gV aw aa n0 cw cap m0 half base next T each) (hbc : Below w9.heap.size w9 wc) (hrep : funSp.sslice.rep wc (fun b => w9.heap.size ≤ b ∧ b < wc.heap.size) [.slice af ks.length cf] ks) : Made w (wc.setCell ⟨gV, 0, none⟩ (.slice af ks.length cf)) hk lo0 gI gC gV w9.heap.size wc.heap.size aw af n0 cw cf half base next T ks each := by
  have l1 := h.2.1.lt
  have l2 := h.2.2.1.lt
  have l3 := BlkV.lt h.2.2.2.1
  have a3 := h.1.ar
  have ar := h.2.2.2.2
  have m := h.on hbc
  have ho : ∀ q, q ≠ gV → (wc.setCell ⟨gV, 0, none⟩ (.slice af ks.length cf)).heap[q]? = wc.heap[q]? := fun q hq => Below.heap_setCell _ _ _ _ hq
  have hz : (wc.setCell ⟨gV, 0, none⟩ (.slice af ks.length cf)).heap.size = wc.heap.size := set_size _ _ _
  refine ⟨m.1.put ar.2.2.1 ho hz (fun B w0 hb hB => setN_below [.slice af ks.length cf] 0 hb hB), (ho _ ar.2.2.2.2.1).trans m.2.1, (ho _ ar.2.2.2.2.2).trans m.2.2.1, FunsV.put ⟨hrep, Nat.le_refl _⟩ (Or.inl l3) ho hz, ?_, ar.1, ar.2.1, ar.2.2.1, ar.2.2.2.1, ar.2.2.2.2.1, ar.2.2.2.2.2, a3.2.2, Or.inl l1, Or.inl l2, Or.inl l3⟩
  have hb := set_blk (i := 0) (v := .slice af ks.length cf) m.2.2.2.1
  simp only [List.setIfInBounds_toArray, List.set_cons_zero] at hb
  exact hb
end

set_option maxHeartbeats 64000000 in
theorem implVmNew (ks : List FunD) (n : Int) (each : Bool) (v : Value) (w : World) (hw : ks.length + fun.wts ks ≤ 1048576) (h1 : -9223372036854775808 ≤ n) (h2 : n ≤ 9223372036854775807) (hN : Names w) (h : funSh.slice.rep w (· < w.heap.size) [v] ks) :
    Calls Tryz.prog 13 #[v, .int .i64 n, .bool each] w fun e w' => (∃ cs', e = .returned (.tuple #[.agg cs'.toArray, .bool (newV ks n each).2]) ∧ vmSp.rep w' (fun b => w.heap.size ≤ b ∧ b < w'.heap.size) cs' (newV ks n each).1) ∧ Below w.heap.size w w' := by
  have AT : Hid (∀ w' : World, Below w.heap.size w w' → funSh.slice.rep w' (· < w'.heap.size) [v] ks) := fun w' hb => funSh.slice.mono (funSh.slice.below h hb) fun b hlt => Nat.lt_of_lt_of_le hlt hb.size
  obtain ⟨aa, cap, css, rfl, hcap, hmax, -⟩ := funs_open h
  have HW := hidv hw
  have NS := hidv hN
  obtain ⟨wz, hwz⟩ : ∃ wz, wz = w.alloc (.cells #[.slice none 0 0, .slice none 0 0, .int .i64 0, .int .i64 0, .int .i64 0, .slice none 0 0, .slice none 0 0, .slice none 0 0, .int .i64 0, .bool false] 35) := ⟨_, rfl⟩
  have HWZ := hidv hwz
  have BZ : Hid (Below w.heap.size w wz ∧ wz.heap.size = w.heap.size + 1) := by show _ ∧ _; rw [hwz]; exact ⟨(Below.refl _ _).alloc (Nat.le_refl _) _, by simp⟩
  have RZ : Hid (wz.heap[w.heap.size]? = some (.cells #[.slice none 0 0, .slice none 0 0, .int .i64 0, .int .i64 0, .int .i64 0, .slice none 0 0, .slice none 0 0, .slice none 0 0, .int .i64 0, .bool false] 35)) := by show _ = _; rw [hwz]; exact alloc_top _ _
  have hc1 := implHeapNew n wz h1 h2
  have hnl : (newF n).1.1.length ≤ 6000 := by
    unfold newF
    split
    · rename_i q; have := inB_yes q; show (List.replicate _ _).length ≤ _; rw [List.length_replicate]; omega
    · simp
  have HNL := hidv hnl
  obtain ⟨r, hr⟩ : ∃ r, r = newV ks n each := ⟨_, rfl⟩
  have HR := hidv hr
  rw [← hr]
  clear h hcap hmax hw hwz hr hnl
  go_enter Tryz.func13, Tryz.ntmps13
  go_wp2_with fail
  rw [← HWZ.out]
  refine hc1.mono ?_
  rintro e w1 ⟨⟨hcs, rfl, hrep⟩, hb1⟩
  obtain ⟨W, aw, cw, half, base, next, hT, rfl, -⟩ := heapp_open hrep
  obtain ⟨wh, hwh⟩ : ∃ wh, wh = w1.alloc (.cells #[.slice aw W.length cw, .int .i64 half, .int .i64 base, .int .i64 next] 32) := ⟨_, rfl⟩
  have hbh : Below w1.heap.size w1 wh := by rw [hwh]; exact (Below.refl _ _).alloc (Nat.le_refl _) _
  have BH : Hid (Below w.heap.size w wh ∧ w1.heap.size + 1 = wh.heap.size ∧ w.heap.size < w1.heap.size ∧ wz.heap.size ≤ w1.heap.size) := by
    have := BZ.out
    have := hb1.size
    refine ⟨BZ.out.1.trans ((hb1.trans (hbh.mono hb1.size)).mono (by omega)), by rw [hwh]; simp, by omega, by omega⟩
  have RH : Hid (wh.heap[w.heap.size]? = some (.cells #[.slice none 0 0, .slice none 0 0, .int .i64 0, .int .i64 0, .int .i64 0, .slice none 0 0, .slice none 0 0, .slice none 0 0, .int .i64 0, .bool false] 35)) := (hbh.block _ BH.out.2.2.1).trans ((hb1.block _ (by have := BZ.out.2; omega)).trans RZ.out)
  have KH' : Hid (wh.heap[w1.heap.size]? = some (.cells #[.slice aw W.length cw, .int .i64 half, .int .i64 base, .int .i64 next] 32)) := by show _ = _; rw [hwh]; exact alloc_top _ _
  have HP' : Hid (heapSp.rep wh (fun b => wz.heap.size ≤ b ∧ b < w1.heap.size) [.slice aw W.length cw, .int .i64 half, .int .i64 base, .int .i64 next] (newF n).1) := heapSp.on hrep fun b hb => hbh.block b hb.2
  have HWH := hidv hwh
  have HTT : Hid ((newF n).1 = (W, half, base, next)) := hT
  obtain ⟨made, hmade⟩ : ∃ x, x = (newF n).2 := ⟨_, rfl⟩
  rw [← hmade]
  have HM := hidv hmade
  clear hc1 hrep hb1 hbh hwh hT hmade HWZ RZ
  obtain ⟨hk, hhk⟩ : ∃ z, z = w1.heap.size := ⟨_, rfl⟩
  obtain ⟨lo0, hlo⟩ : ∃ z, z = wz.heap.size := ⟨_, rfl⟩
  have M0 : MK w wh hk lo0 aw W.length cw half base next (newF n).1 := by
    have h1 := BZ.out.2
    have h2 := BH.out
    rw [hhk, hlo]
    exact ⟨BH.out.1, KH'.out, RH.out, HP'.out, by omega, by omega, by omega⟩
  have M1 := hidv M0
  go_upto_region 2 with fail
  rw [← HWH.out]
  rw [← hhk] at *
  clear KH' HP' HWH RH BH hhk hlo BZ M0
  go_cut [10] from 16 to 24 (fun v10 X => ∃ gI gC gV, v10 = .pointer (some ⟨gV, 0, none⟩) ∧ Hid (MadeI w X hk lo0 gI gC gV aw aa W.length cw cap ks.length half base next (newF n).1 each))
  case first =>
    have MM : Hid (MK w wh.drew hk lo0 aw W.length cw half base next (newF n).1) := M1.out.on (Below.refl _ _).drew
    refine wp_region_held_drew (S := (fun X : World => X.cell? ⟨hk, 0, none⟩ = some (.slice aw W.length cw) ∧ X.cell? ⟨hk, 1, none⟩ = some (.int .i64 half) ∧ X.cell? ⟨hk, 2, none⟩ = some (.int .i64 base) ∧ X.cell? ⟨hk, 3, none⟩ = some (.int .i64 next))) (by kernel_rfl) MM.out.cells ?_
    intro hS0
    have Z0 : Hid (hk < wh.drew.heap.size) := MM.out.ar.2.2
    clear M1
    generalize wh.drew = x0 at *
    refine wpAnyH_take (i := 0) (v := .slice aa ks.length cap) rfl (by kernel_rfl) (by kernel_rfl) (by kernel_rfl) (fun _ _ _ h => h) (Or.inl ⟨by kernel_rfl, ?_⟩) hS0 ?_
    · intro W' hSw
      obtain ⟨s0, s1, s2, s3⟩ := hSw
      go_simp
    try simp only [Act.put, List.getElem_toArray, List.getElem_cons_succ, List.getElem_cons_zero, List.setIfInBounds_toArray, List.set_cons_zero, List.set_cons_succ]
    refine wpAnyH_take (i := 1) (v := .agg #[.slice aw W.length cw, .int .i64 half, .int .i64 base, .int .i64 next]) rfl (by kernel_rfl) (by kernel_rfl) (by kernel_rfl) (fun _ _ _ h => h) (Or.inl ⟨by kernel_rfl, ?_⟩) hS0 ?_
    · intro W' hSw
      obtain ⟨s0, s1, s2, s3⟩ := hSw
      go_simp
    try simp only [Act.put, List.getElem_toArray, List.getElem_cons_succ, List.getElem_cons_zero, List.setIfInBounds_toArray, List.set_cons_zero, List.set_cons_succ]
    refine wpAnyH_take (i := 5) (v := .agg #[.int .i64 0, .int .i64 0, .int .i64 1]) rfl (by kernel_rfl) (by kernel_rfl) (by kernel_rfl) (fun _ _ _ h => h) (Or.inl ⟨by kernel_rfl, ?_⟩) hS0 ?_
    · intro W' hSw
      obtain ⟨s0, s1, s2, s3⟩ := hSw
      go_simp
    try simp only [Act.put, List.getElem_toArray, List.getElem_cons_succ, List.getElem_cons_zero, List.setIfInBounds_toArray, List.set_cons_zero, List.set_cons_succ]
    refine wpAnyH_take (i := 7) (v := .bool each) rfl (by kernel_rfl) (by kernel_rfl) (by kernel_rfl) (fun _ _ _ h => h) (Or.inl ⟨by kernel_rfl, ?_⟩) hS0 ?_
    · intro W' hSw
      obtain ⟨s0, s1, s2, s3⟩ := hSw
      go_simp
    try simp only [Act.put, List.getElem_toArray, List.getElem_cons_succ, List.getElem_cons_zero, List.setIfInBounds_toArray, List.set_cons_zero, List.set_cons_succ]
    refine wpAnyH_ready (rs := [2, 6, 9]) (by kernel_rfl) (by simp) ?_
    refine AllReadyH.cons rfl (fun K hK => ?_) (AllReadyH.cons rfl (fun K hK => ?_) (AllReadyH.cons rfl (fun K hK => ?_) (AllReadyH.nil)))
    · refine step_call rfl 44 entI _ _ rfl #[.int .i64 0] _ (intWord0 x0) (by first | rfl | (simp [Act.eval, Act.put]; done)) ?_
      rintro e x1 ⟨rfl, hx⟩
      refine ⟨_, rfl, ?_⟩
      subst x1
      refine hK.out _ _ MM.out.cells (fun hS1 => ?_)
      clear hK K
      try simp only [Act.put, List.getElem_toArray, List.getElem_cons_succ, List.getElem_cons_zero, List.setIfInBounds_toArray, List.set_cons_zero, List.set_cons_succ]
      refine wpAnyH_ready (rs := [3, 6, 9]) (by kernel_rfl) (by simp) ?_
      refine AllReadyH.cons rfl (fun K hK => ?_) (AllReadyH.cons rfl (fun K hK => ?_) (AllReadyH.cons rfl (fun K hK => ?_) (AllReadyH.nil)))
      · refine step_call rfl 44 entI _ _ rfl #[.int .i64 0] _ (intWord0 x0) (by first | rfl | (simp [Act.eval, Act.put]; done)) ?_
        rintro e x2 ⟨rfl, hx⟩
        refine ⟨_, rfl, ?_⟩
        subst x2
        refine hK.out _ _ MM.out.cells (fun hS2 => ?_)
        clear hK K
        try simp only [Act.put, List.getElem_toArray, List.getElem_cons_succ, List.getElem_cons_zero, List.setIfInBounds_toArray, List.set_cons_zero, List.set_cons_succ]
        refine wpAnyH_ready (rs := [4, 6, 9]) (by kernel_rfl) (by simp) ?_
        refine AllReadyH.cons rfl (fun K hK => ?_) (AllReadyH.cons rfl (fun K hK => ?_) (AllReadyH.cons rfl (fun K hK => ?_) (AllReadyH.nil)))
        · refine step_words rfl (.tmp 18) (.tmp 19) rfl (by first | rfl | (simp [Act.eval, Act.put]; done)) (by first | rfl | (simp [Act.eval, Act.put]; done)) ?_
          intro gI x3 hg hb hblk hz
          have Z3 : Hid (x0.heap.size + 1 = x3.heap.size ∧ gI = x0.heap.size) := ⟨hz, hg⟩
          have FI : Hid (BlkV x3 gI #[.int .i64 1, .int .i64 1] 3) := hblk
          replace MM : Hid (MK w x3 hk lo0 aw W.length cw half base next (newF n).1) := MM.out.on hb
          refine hK.out _ _ MM.out.cells (fun hS3 => ?_)
          clear hK K hb hg hblk hz
          try simp only [Act.put, List.getElem_toArray, List.getElem_cons_succ, List.getElem_cons_zero, List.setIfInBounds_toArray, List.set_cons_zero, List.set_cons_succ]
          refine wpAnyH_ready (rs := [6, 9]) (by kernel_rfl) (by simp) ?_
          refine AllReadyH.cons rfl (fun K hK => ?_) (AllReadyH.cons rfl (fun K hK => ?_) (AllReadyH.nil))
          · refine step_calls1 rfl (.tmp 21) rfl (by first | rfl | (simp [Act.eval, Act.put]; done)) ?_
            intro gC x4 hg hb hblk hz
            have Z4 : Hid (x3.heap.size + 1 = x4.heap.size ∧ gC = x3.heap.size) := ⟨hz, hg⟩
            have FC : Hid (BlkV x4 gC #[.int .i64 0, .int .i64 0, .int .i64 1] 57) := hblk
            replace MM : Hid (MK w x4 hk lo0 aw W.length cw half base next (newF n).1) := MM.out.on hb
            replace FI := hidv (FI.out.on hb)
            refine hK.out _ _ MM.out.cells (fun hS4 => ?_)
            clear hK K hb hg hblk hz
            try simp only [Act.put, List.getElem_toArray, List.getElem_cons_succ, List.getElem_cons_zero, List.setIfInBounds_toArray, List.set_cons_zero, List.set_cons_succ]
            refine wpAnyH_take (i := 8) (v := .agg #[.slice aa ks.length cap, .slice aw W.length cw, .int .i64 half, .int .i64 base, .int .i64 next, .slice (some ⟨gI, 0, none⟩) 2 2, .slice (some ⟨gC, 0, none⟩) 1 1, .slice none 0 0, .int .i64 0, .bool each]) rfl (by kernel_rfl) (by kernel_rfl) (by kernel_rfl) (fun _ _ _ h => h) (Or.inl ⟨by kernel_rfl, ?_⟩) hS4 ?_
            · intro W' hSw
              obtain ⟨s0, s1, s2, s3⟩ := hSw
              go_simp
            try simp only [Act.put, List.getElem_toArray, List.getElem_cons_succ, List.getElem_cons_zero, List.setIfInBounds_toArray, List.set_cons_zero, List.set_cons_succ]
            refine wpAnyH_ready (rs := [9]) (by kernel_rfl) (by simp) ?_
            refine AllReadyH.cons rfl (fun K hK => ?_) (AllReadyH.nil)
            · refine step_vm rfl rfl ?_
              intro gV x5 hg hb hblk hz
              have Z5 : Hid (x4.heap.size + 1 = x5.heap.size ∧ gV = x4.heap.size) := ⟨hz, hg⟩
              have FV : Hid (BlkV x5 gV #[.slice none 0 0, .slice none 0 0, .int .i64 0, .int .i64 0, .int .i64 0, .slice none 0 0, .slice none 0 0, .slice none 0 0, .int .i64 0, .bool false] 35) := hblk
              replace MM : Hid (MK w x5 hk lo0 aw W.length cw half base next (newF n).1) := MM.out.on hb
              replace FI := hidv (FI.out.on hb)
              replace FC := hidv (FC.out.on hb)
              refine hK.out _ _ MM.out.cells (fun hS5 => ?_)
              clear hK K hb hg hblk hz
              try simp only [Act.put, List.getElem_toArray, List.getElem_cons_succ, List.getElem_cons_zero, List.setIfInBounds_toArray, List.set_cons_zero, List.set_cons_succ]
              refine wpAnyH_ready (rs := [10]) (by kernel_rfl) (by simp) ?_
              refine AllReadyH.cons rfl (fun K hK => ?_) AllReadyH.nil
              have ar : hk < gI ∧ hk < gC ∧ hk < gV ∧ gI ≠ gC ∧ gI ≠ gV ∧ gC ≠ gV := by
                have := Z0.out
                have := Z3.out
                have := Z4.out
                have := Z5.out
                omega
              have hfv : x5.heap[gV]? = some (.cells #[.slice none 0 0, .slice none 0 0, .int .i64 0, .int .i64 0, .int .i64 0, .slice none 0 0, .slice none 0 0, .slice none 0 0, .int .i64 0, .bool false] 35) := FV.out
              refine step_write (g := gV) (t := 35) (u0 := .slice none 0 0) (u1 := .slice none 0 0) (u2 := .int .i64 0) (u3 := .int .i64 0) (u4 := .int .i64 0) (u5 := .slice none 0 0) (u6 := .slice none 0 0) (u7 := .slice none 0 0) (u8 := .int .i64 0) (u9 := .bool false) (b0 := aa) (l0 := ks.length) (k0 := cap) (b1 := aw) (l1 := W.length) (k1 := cw) (n2 := half) (n3 := base) (n4 := next) (b5 := some ⟨gI, 0, none⟩) (l5 := 2) (k5 := 2) (b6 := some ⟨gC, 0, none⟩) (l6 := 1) (k6 := 1) (b7 := none) (l7 := 0) (k7 := 0) (n8 := 0) (n9 := each) rfl rfl (.tmp 10) (.tmp 24) rfl (by first | rfl | (simp [Act.eval, Act.put]; done)) (by first | rfl | (simp [Act.eval, Act.put]; done)) hfv ?_
              clear hfv
              intro x6 hv ho hz hbl
              have NX := hidv (leafI ar MM.out FI.out FC.out hv ho hz hbl)
              refine hK.out _ _ NX.out.1.cells (fun hS6 => ?_)
              clear hK K hv ho hz hbl ar
              refine wpAnyH_done (by kernel_rfl) ?_ _
              go_wp2_with fail
              go_meet
              exact ⟨gI, gC, gV, rfl, NX⟩
          · refine step_vm rfl rfl ?_
            intro gV x4 hg hb hblk hz
            have Z4 : Hid (x3.heap.size + 1 = x4.heap.size ∧ gV = x3.heap.size) := ⟨hz, hg⟩
            have FV : Hid (BlkV x4 gV #[.slice none 0 0, .slice none 0 0, .int .i64 0, .int .i64 0, .int .i64 0, .slice none 0 0, .slice none 0 0, .slice none 0 0, .int .i64 0, .bool false] 35) := hblk
            replace MM : Hid (MK w x4 hk lo0 aw W.length cw half base next (newF n).1) := MM.out.on hb
            replace FI := hidv (FI.out.on hb)
            refine hK.out _ _ MM.out.cells (fun hS4 => ?_)
            clear hK K hb hg hblk hz
            try simp only [Act.put, List.getElem_toArray, List.getElem_cons_succ, List.getElem_cons_zero, List.setIfInBounds_toArray, List.set_cons_zero, List.set_cons_succ]
            refine wpAnyH_ready (rs := [6]) (by kernel_rfl) (by simp) ?_
            refine AllReadyH.cons rfl (fun K hK => ?_) (AllReadyH.nil)
            · refine step_calls1 rfl (.tmp 21) rfl (by first | rfl | (simp [Act.eval, Act.put]; done)) ?_
              intro gC x5 hg hb hblk hz
              have Z5 : Hid (x4.heap.size + 1 = x5.heap.size ∧ gC = x4.heap.size) := ⟨hz, hg⟩
              have FC : Hid (BlkV x5 gC #[.int .i64 0, .int .i64 0, .int .i64 1] 57) := hblk
              replace MM : Hid (MK w x5 hk lo0 aw W.length cw half base next (newF n).1) := MM.out.on hb
              replace FI := hidv (FI.out.on hb)
              replace FV := hidv (FV.out.on hb)
              refine hK.out _ _ MM.out.cells (fun hS5 => ?_)
              clear hK K hb hg hblk hz
              try simp only [Act.put, List.getElem_toArray, List.getElem_cons_succ, List.getElem_cons_zero, List.setIfInBounds_toArray, List.set_cons_zero, List.set_cons_succ]
              refine wpAnyH_take (i := 8) (v := .agg #[.slice aa ks.length cap, .slice aw W.length cw, .int .i64 half, .int .i64 base, .int .i64 next, .slice (some ⟨gI, 0, none⟩) 2 2, .slice (some ⟨gC, 0, none⟩) 1 1, .slice none 0 0, .int .i64 0, .bool each]) rfl (by kernel_rfl) (by kernel_rfl) (by kernel_rfl) (fun _ _ _ h => h) (Or.inl ⟨by kernel_rfl, ?_⟩) hS5 ?_
              · intro W' hSw
                obtain ⟨s0, s1, s2, s3⟩ := hSw
                go_simp
              try simp only [Act.put, List.getElem_toArray, List.getElem_cons_succ, List.getElem_cons_zero, List.setIfInBounds_toArray, List.set_cons_zero, List.set_cons_succ]
              refine wpAnyH_ready (rs := [10]) (by kernel_rfl) (by simp) ?_
              refine AllReadyH.cons rfl (fun K hK => ?_) AllReadyH.nil
              have ar : hk < gI ∧ hk < gC ∧ hk < gV ∧ gI ≠ gC ∧ gI ≠ gV ∧ gC ≠ gV := by
                have := Z0.out
                have := Z3.out
                have := Z4.out
                have := Z5.out
                omega
              have hfv : x5.heap[gV]? = some (.cells #[.slice none 0 0, .slice none 0 0, .int .i64 0, .int .i64 0, .int .i64 0, .slice none 0 0, .slice none 0 0, .slice none 0 0, .int .i64 0, .bool false] 35) := FV.out
              refine step_write (g := gV) (t := 35) (u0 := .slice none 0 0) (u1 := .slice none 0 0) (u2 := .int .i64 0) (u3 := .int .i64 0) (u4 := .int .i64 0) (u5 := .slice none 0 0) (u6 := .slice none 0 0) (u7 := .slice none 0 0) (u8 := .int .i64 0) (u9 := .bool false) (b0 := aa) (l0 := ks.length) (k0 := cap) (b1 := aw) (l1 := W.length) (k1 := cw) (n2 := half) (n3 := base) (n4 := next) (b5 := some ⟨gI, 0, none⟩) (l5 := 2) (k5 := 2) (b6 := some ⟨gC, 0, none⟩) (l6 := 1) (k6 := 1) (b7 := none) (l7 := 0) (k7 := 0) (n8 := 0) (n9 := each) rfl rfl (.tmp 10) (.tmp 24) rfl (by first | rfl | (simp [Act.eval, Act.put]; done)) (by first | rfl | (simp [Act.eval, Act.put]; done)) hfv ?_
              clear hfv
              intro x6 hv ho hz hbl
              have NX := hidv (leafI ar MM.out FI.out FC.out hv ho hz hbl)
              refine hK.out _ _ NX.out.1.cells (fun hS6 => ?_)
              clear hK K hv ho hz hbl ar
              refine wpAnyH_done (by kernel_rfl) ?_ _
              go_wp2_with fail
              go_meet
              exact ⟨gI, gC, gV, rfl, NX⟩
        · refine step_calls1 rfl (.tmp 21) rfl (by first | rfl | (simp [Act.eval, Act.put]; done)) ?_
          intro gC x3 hg hb hblk hz
          have Z3 : Hid (x0.heap.size + 1 = x3.heap.size ∧ gC = x0.heap.size) := ⟨hz, hg⟩
          have FC : Hid (BlkV x3 gC #[.int .i64 0, .int .i64 0, .int .i64 1] 57) := hblk
          replace MM : Hid (MK w x3 hk lo0 aw W.length cw half base next (newF n).1) := MM.out.on hb
          refine hK.out _ _ MM.out.cells (fun hS3 => ?_)
          clear hK K hb hg hblk hz
          try simp only [Act.put, List.getElem_toArray, List.getElem_cons_succ, List.getElem_cons_zero, List.setIfInBounds_toArray, List.set_cons_zero, List.set_cons_succ]
          refine wpAnyH_ready (rs := [4, 9]) (by kernel_rfl) (by simp) ?_
          refine AllReadyH.cons rfl (fun K hK => ?_) (AllReadyH.cons rfl (fun K hK => ?_) (AllReadyH.nil))
          · refine step_words rfl (.tmp 18) (.tmp 19) rfl (by first | rfl | (simp [Act.eval, Act.put]; done)) (by first | rfl | (simp [Act.eval, Act.put]; done)) ?_
            intro gI x4 hg hb hblk hz
            have Z4 : Hid (x3.heap.size + 1 = x4.heap.size ∧ gI = x3.heap.size) := ⟨hz, hg⟩
            have FI : Hid (BlkV x4 gI #[.int .i64 1, .int .i64 1] 3) := hblk
            replace MM : Hid (MK w x4 hk lo0 aw W.length cw half base next (newF n).1) := MM.out.on hb
            replace FC := hidv (FC.out.on hb)
            refine hK.out _ _ MM.out.cells (fun hS4 => ?_)
            clear hK K hb hg hblk hz
            try simp only [Act.put, List.getElem_toArray, List.getElem_cons_succ, List.getElem_cons_zero, List.setIfInBounds_toArray, List.set_cons_zero, List.set_cons_succ]
            refine wpAnyH_take (i := 8) (v := .agg #[.slice aa ks.length cap, .slice aw W.length cw, .int .i64 half, .int .i64 base, .int .i64 next, .slice (some ⟨gI, 0, none⟩) 2 2, .slice (some ⟨gC, 0, none⟩) 1 1, .slice none 0 0, .int .i64 0, .bool each]) rfl (by kernel_rfl) (by kernel_rfl) (by kernel_rfl) (fun _ _ _ h => h) (Or.inl ⟨by kernel_rfl, ?_⟩) hS4 ?_
            · intro W' hSw
              obtain ⟨s0, s1, s2, s3⟩ := hSw
              go_simp
            try simp only [Act.put, List.getElem_toArray, List.getElem_cons_succ, List.getElem_cons_zero, List.setIfInBounds_toArray, List.set_cons_zero, List.set_cons_succ]
            refine wpAnyH_ready (rs := [9]) (by kernel_rfl) (by simp) ?_
            refine AllReadyH.cons rfl (fun K hK => ?_) (AllReadyH.nil)
            · refine step_vm rfl rfl ?_
              intro gV x5 hg hb hblk hz
              have Z5 : Hid (x4.heap.size + 1 = x5.heap.size ∧ gV = x4.heap.size) := ⟨hz, hg⟩
              have FV : Hid (BlkV x5 gV #[.slice none 0 0, .slice none 0 0, .int .i64 0, .int .i64 0, .int .i64 0, .slice none 0 0, .slice none 0 0, .slice none 0 0, .int .i64 0, .bool false] 35) := hblk
              replace MM : Hid (MK w x5 hk lo0 aw W.length cw half base next (newF n).1) := MM.out.on hb
              replace FC := hidv (FC.out.on hb)
              replace FI := hidv (FI.out.on hb)
              refine hK.out _ _ MM.out.cells (fun hS5 => ?_)
              clear hK K hb hg hblk hz
              try simp only [Act.put, List.getElem_toArray, List.getElem_cons_succ, List.getElem_cons_zero, List.setIfInBounds_toArray, List.set_cons_zero, List.set_cons_succ]
              refine wpAnyH_ready (rs := [10]) (by kernel_rfl) (by simp) ?_
              refine AllReadyH.cons rfl (fun K hK => ?_) AllReadyH.nil
              have ar : hk < gI ∧ hk < gC ∧ hk < gV ∧ gI ≠ gC ∧ gI ≠ gV ∧ gC ≠ gV := by
                have := Z0.out
                have := Z3.out
                have := Z4.out
                have := Z5.out
                omega
              have hfv : x5.heap[gV]? = some (.cells #[.slice none 0 0, .slice none 0 0, .int .i64 0, .int .i64 0, .int .i64 0, .slice none 0 0, .slice none 0 0, .slice none 0 0, .int .i64 0, .bool false] 35) := FV.out
              refine step_write (g := gV) (t := 35) (u0 := .slice none 0 0) (u1 := .slice none 0 0) (u2 := .int .i64 0) (u3 := .int .i64 0) (u4 := .int .i64 0) (u5 := .slice none 0 0) (u6 := .slice none 0 0) (u7 := .slice none 0 0) (u8 := .int .i64 0) (u9 := .bool false) (b0 := aa) (l0 := ks.length) (k0 := cap) (b1 := aw) (l1 := W.length) (k1 := cw) (n2 := half) (n3 := base) (n4 := next) (b5 := some ⟨gI, 0, none⟩) (l5 := 2) (k5 := 2) (b6 := some ⟨gC, 0, none⟩) (l6 := 1) (k6 := 1) (b7 := none) (l7 := 0) (k7 := 0) (n8 := 0) (n9 := each) rfl rfl (.tmp 10) (.tmp 24) rfl (by first | rfl | (simp [Act.eval, Act.put]; done)) (by first | rfl | (simp [Act.eval, Act.put]; done)) hfv ?_
              clear hfv
              intro x6 hv ho hz hbl
              have NX := hidv (leafI ar MM.out FI.out FC.out hv ho hz hbl)
              refine hK.out _ _ NX.out.1.cells (fun hS6 => ?_)
              clear hK K hv ho hz hbl ar
              refine wpAnyH_done (by kernel_rfl) ?_ _
              go_wp2_with fail
              go_meet
              exact ⟨gI, gC, gV, rfl, NX⟩
          · refine step_vm rfl rfl ?_
            intro gV x4 hg hb hblk hz
            have Z4 : Hid (x3.heap.size + 1 = x4.heap.size ∧ gV = x3.heap.size) := ⟨hz, hg⟩
            have FV : Hid (BlkV x4 gV #[.slice none 0 0, .slice none 0 0, .int .i64 0, .int .i64 0, .int .i64 0, .slice none 0 0, .slice none 0 0, .slice none 0 0, .int .i64 0, .bool false] 35) := hblk
            replace MM : Hid (MK w x4 hk lo0 aw W.length cw half base next (newF n).1) := MM.out.on hb
            replace FC := hidv (FC.out.on hb)
            refine hK.out _ _ MM.out.cells (fun hS4 => ?_)
            clear hK K hb hg hblk hz
            try simp only [Act.put, List.getElem_toArray, List.getElem_cons_succ, List.getElem_cons_zero, List.setIfInBounds_toArray, List.set_cons_zero, List.set_cons_succ]
            refine wpAnyH_ready (rs := [4]) (by kernel_rfl) (by simp) ?_
            refine AllReadyH.cons rfl (fun K hK => ?_) (AllReadyH.nil)
            · refine step_words rfl (.tmp 18) (.tmp 19) rfl (by first | rfl | (simp [Act.eval, Act.put]; done)) (by first | rfl | (simp [Act.eval, Act.put]; done)) ?_
              intro gI x5 hg hb hblk hz
              have Z5 : Hid (x4.heap.size + 1 = x5.heap.size ∧ gI = x4.heap.size) := ⟨hz, hg⟩
              have FI : Hid (BlkV x5 gI #[.int .i64 1, .int .i64 1] 3) := hblk
              replace MM : Hid (MK w x5 hk lo0 aw W.length cw half base next (newF n).1) := MM.out.on hb
              replace FC := hidv (FC.out.on hb)
              replace FV := hidv (FV.out.on hb)
              refine hK.out _ _ MM.out.cells (fun hS5 => ?_)
              clear hK K hb hg hblk hz
              try simp only [Act.put, List.getElem_toArray, List.getElem_cons_succ, List.getElem_cons_zero, List.setIfInBounds_toArray, List.set_cons_zero, List.set_cons_succ]
              refine wpAnyH_take (i := 8) (v := .agg #[.slice aa ks.length cap, .slice aw W.length cw, .int .i64 half, .int .i64 base, .int .i64 next, .slice (some ⟨gI, 0, none⟩) 2 2, .slice (some ⟨gC, 0, none⟩) 1 1, .slice none 0 0, .int .i64 0, .bool each]) rfl (by kernel_rfl) (by kernel_rfl) (by kernel_rfl) (fun _ _ _ h => h) (Or.inl ⟨by kernel_rfl, ?_⟩) hS5 ?_
              · intro W' hSw
                obtain ⟨s0, s1, s2, s3⟩ := hSw
                go_simp
              try simp only [Act.put, List.getElem_toArray, List.getElem_cons_succ, List.getElem_cons_zero, List.setIfInBounds_toArray, List.set_cons_zero, List.set_cons_succ]
              refine wpAnyH_ready (rs := [10]) (by kernel_rfl) (by simp) ?_
              refine AllReadyH.cons rfl (fun K hK => ?_) AllReadyH.nil
              have ar : hk < gI ∧ hk < gC ∧ hk < gV ∧ gI ≠ gC ∧ gI ≠ gV ∧ gC ≠ gV := by
                have := Z0.out
                have := Z3.out
                have := Z4.out
                have := Z5.out
                omega
              have hfv : x5.heap[gV]? = some (.cells #[.slice none 0 0, .slice none 0 0, .int .i64 0, .int .i64 0, .int .i64 0, .slice none 0 0, .slice none 0 0, .slice none 0 0, .int .i64 0, .bool false] 35) := FV.out
              refine step_write (g := gV) (t := 35) (u0 := .slice none 0 0) (u1 := .slice none 0 0) (u2 := .int .i64 0) (u3 := .int .i64 0) (u4 := .int .i64 0) (u5 := .slice none 0 0) (u6 := .slice none 0 0) (u7 := .slice none 0 0) (u8 := .int .i64 0) (u9 := .bool false) (b0 := aa) (l0 := ks.length) (k0 := cap) (b1 := aw) (l1 := W.length) (k1 := cw) (n2 := half) (n3 := base) (n4 := next) (b5 := some ⟨gI, 0, none⟩) (l5 := 2) (k5 := 2) (b6 := some ⟨gC, 0, none⟩) (l6 := 1) (k6 := 1) (b7 := none) (l7 := 0) (k7 := 0) (n8 := 0) (n9 := each) rfl rfl (.tmp 10) (.tmp 24) rfl (by first | rfl | (simp [Act.eval, Act.put]; done)) (by first | rfl | (simp [Act.eval, Act.put]; done)) hfv ?_
              clear hfv
              intro x6 hv ho hz hbl
              have NX := hidv (leafI ar MM.out FI.out FC.out hv ho hz hbl)
              refine hK.out _ _ NX.out.1.cells (fun hS6 => ?_)
              clear hK K hv ho hz hbl ar
              refine wpAnyH_done (by kernel_rfl) ?_ _
              go_wp2_with fail
              go_meet
              exact ⟨gI, gC, gV, rfl, NX⟩
        · refine step_vm rfl rfl ?_
          intro gV x3 hg hb hblk hz
          have Z3 : Hid (x0.heap.size + 1 = x3.heap.size ∧ gV = x0.heap.size) := ⟨hz, hg⟩
          have FV : Hid (BlkV x3 gV #[.slice none 0 0, .slice none 0 0, .int .i64 0, .int .i64 0, .int .i64 0, .slice none 0 0, .slice none 0 0, .slice none 0 0, .int .i64 0, .bool false] 35) := hblk
          replace MM : Hid (MK w x3 hk lo0 aw W.length cw half base next (newF n).1) := MM.out.on hb
          refine hK.out _ _ MM.out.cells (fun hS3 => ?_)
          clear hK K hb hg hblk hz
          try simp only [Act.put, List.getElem_toArray, List.getElem_cons_succ, List.getElem_cons_zero, List.setIfInBounds_toArray, List.set_cons_zero, List.set_cons_succ]
          refine wpAnyH_ready (rs := [4, 6]) (by kernel_rfl) (by simp) ?_
          refine AllReadyH.cons rfl (fun K hK => ?_) (AllReadyH.cons rfl (fun K hK => ?_) (AllReadyH.nil))
          · refine step_words rfl (.tmp 18) (.tmp 19) rfl (by first | rfl | (simp [Act.eval, Act.put]; done)) (by first | rfl | (simp [Act.eval, Act.put]; done)) ?_
            intro gI x4 hg hb hblk hz
            have Z4 : Hid (x3.heap.size + 1 = x4.heap.size ∧ gI = x3.heap.size) := ⟨hz, hg⟩
            have FI : Hid (BlkV x4 gI #[.int .i64 1, .int .i64 1] 3) := hblk
            replace MM : Hid (MK w x4 hk lo0 aw W.length cw half base next (newF n).1) := MM.out.on hb
            replace FV := hidv (FV.out.on hb)
            refine hK.out _ _ MM.out.cells (fun hS4 => ?_)
            clear hK K hb hg hblk hz
            try simp only [Act.put, List.getElem_toArray, List.getElem_cons_succ, List.getElem_cons_zero, List.setIfInBounds_toArray, List.set_cons_zero, List.set_cons_succ]
            refine wpAnyH_ready (rs := [6]) (by kernel_rfl) (by simp) ?_
            refine AllReadyH.cons rfl (fun K hK => ?_) (AllReadyH.nil)
            · refine step_calls1 rfl (.tmp 21) rfl (by first | rfl | (simp [Act.eval, Act.put]; done)) ?_
              intro gC x5 hg hb hblk hz
              have Z5 : Hid (x4.heap.size + 1 = x5.heap.size ∧ gC = x4.heap.size) := ⟨hz, hg⟩
              have FC : Hid (BlkV x5 gC #[.int .i64 0, .int .i64 0, .int .i64 1] 57) := hblk
              replace MM : Hid (MK w x5 hk lo0 aw W.length cw half base next (newF n).1) := MM.out.on hb
              replace FV := hidv (FV.out.on hb)
              replace FI := hidv (FI.out.on hb)
              refine hK.out _ _ MM.out.cells (fun hS5 => ?_)
              clear hK K hb hg hblk hz
              try simp only [Act.put, List.getElem_toArray, List.getElem_cons_succ, List.getElem_cons_zero, List.setIfInBounds_toArray, List.set_cons_zero, List.set_cons_succ]
              refine wpAnyH_take (i := 8) (v := .agg #[.slice aa ks.length cap, .slice aw W.length cw, .int .i64 half, .int .i64 base, .int .i64 next, .slice (some ⟨gI, 0, none⟩) 2 2, .slice (some ⟨gC, 0, none⟩) 1 1, .slice none 0 0, .int .i64 0, .bool each]) rfl (by kernel_rfl) (by kernel_rfl) (by kernel_rfl) (fun _ _ _ h => h) (Or.inl ⟨by kernel_rfl, ?_⟩) hS5 ?_
              · intro W' hSw
                obtain ⟨s0, s1, s2, s3⟩ := hSw
                go_simp
              try simp only [Act.put, List.getElem_toArray, List.getElem_cons_succ, List.getElem_cons_zero, List.setIfInBounds_toArray, List.set_cons_zero, List.set_cons_succ]
              refine wpAnyH_ready (rs := [10]) (by kernel_rfl) (by simp) ?_
              refine AllReadyH.cons rfl (fun K hK => ?_) AllReadyH.nil
              have ar : hk < gI ∧ hk < gC ∧ hk < gV ∧ gI ≠ gC ∧ gI ≠ gV ∧ gC ≠ gV := by
                have := Z0.out
                have := Z3.out
                have := Z4.out
                have := Z5.out
                omega
              have hfv : x5.heap[gV]? = some (.cells #[.slice none 0 0, .slice none 0 0, .int .i64 0, .int .i64 0, .int .i64 0, .slice none 0 0, .slice none 0 0, .slice none 0 0, .int .i64 0, .bool false] 35) := FV.out
              refine step_write (g := gV) (t := 35) (u0 := .slice none 0 0) (u1 := .slice none 0 0) (u2 := .int .i64 0) (u3 := .int .i64 0) (u4 := .int .i64 0) (u5 := .slice none 0 0) (u6 := .slice none 0 0) (u7 := .slice none 0 0) (u8 := .int .i64 0) (u9 := .bool false) (b0 := aa) (l0 := ks.length) (k0 := cap) (b1 := aw) (l1 := W.length) (k1 := cw) (n2 := half) (n3 := base) (n4 := next) (b5 := some ⟨gI, 0, none⟩) (l5 := 2) (k5 := 2) (b6 := some ⟨gC, 0, none⟩) (l6 := 1) (k6 := 1) (b7 := none) (l7 := 0) (k7 := 0) (n8 := 0) (n9 := each) rfl rfl (.tmp 10) (.tmp 24) rfl (by first | rfl | (simp [Act.eval, Act.put]; done)) (by first | rfl | (simp [Act.eval, Act.put]; done)) hfv ?_
              clear hfv
              intro x6 hv ho hz hbl
              have NX := hidv (leafI ar MM.out FI.out FC.out hv ho hz hbl)
              refine hK.out _ _ NX.out.1.cells (fun hS6 => ?_)
              clear hK K hv ho hz hbl ar
              refine wpAnyH_done (by kernel_rfl) ?_ _
              go_wp2_with fail
              go_meet
              exact ⟨gI, gC, gV, rfl, NX⟩
          · refine step_calls1 rfl (.tmp 21) rfl (by first | rfl | (simp [Act.eval, Act.put]; done)) ?_
            intro gC x4 hg hb hblk hz
            have Z4 : Hid (x3.heap.size + 1 = x4.heap.size ∧ gC = x3.heap.size) := ⟨hz, hg⟩
            have FC : Hid (BlkV x4 gC #[.int .i64 0, .int .i64 0, .int .i64 1] 57) := hblk
            replace MM : Hid (MK w x4 hk lo0 aw W.length cw half base next (newF n).1) := MM.out.on hb
            replace FV := hidv (FV.out.on hb)
            refine hK.out _ _ MM.out.cells (fun hS4 => ?_)
            clear hK K hb hg hblk hz
            try simp only [Act.put, List.getElem_toArray, List.getElem_cons_succ, List.getElem_cons_zero, List.setIfInBounds_toArray, List.set_cons_zero, List.set_cons_succ]
            refine wpAnyH_ready (rs := [4]) (by kernel_rfl) (by simp) ?_
            refine AllReadyH.cons rfl (fun K hK => ?_) (AllReadyH.nil)
            · refine step_words rfl (.tmp 18) (.tmp 19) rfl (by first | rfl | (simp [Act.eval, Act.put]; done)) (by first | rfl | (simp [Act.eval, Act.put]; done)) ?_
              intro gI x5 hg hb hblk hz
              have Z5 : Hid (x4.heap.size + 1 = x5.heap.size ∧ gI = x4.heap.size) := ⟨hz, hg⟩
              have FI : Hid (BlkV x5 gI #[.int .i64 1, .int .i64 1] 3) := hblk
              replace MM : Hid (MK w x5 hk lo0 aw W.length cw half base next (newF n).1) := MM.out.on hb
              replace FV := hidv (FV.out.on hb)
              replace FC := hidv (FC.out.on hb)
              refine hK.out _ _ MM.out.cells (fun hS5 => ?_)
              clear hK K hb hg hblk hz
              try simp only [Act.put, List.getElem_toArray, List.getElem_cons_succ, List.getElem_cons_zero, List.setIfInBounds_toArray, List.set_cons_zero, List.set_cons_succ]
              refine wpAnyH_take (i := 8) (v := .agg #[.slice aa ks.length cap, .slice aw W.length cw, .int .i64 half, .int .i64 base, .int .i64 next, .slice (some ⟨gI, 0, none⟩) 2 2, .slice (some ⟨gC, 0, none⟩) 1 1, .slice none 0 0, .int .i64 0, .bool each]) rfl (by kernel_rfl) (by kernel_rfl) (by kernel_rfl) (fun _ _ _ h => h) (Or.inl ⟨by kernel_rfl, ?_⟩) hS5 ?_
              · intro W' hSw
                obtain ⟨s0, s1, s2, s3⟩ := hSw
                go_simp
              try simp only [Act.put, List.getElem_toArray, List.getElem_cons_succ, List.getElem_cons_zero, List.setIfInBounds_toArray, List.set_cons_zero, List.set_cons_succ]
              refine wpAnyH_ready (rs := [10]) (by kernel_rfl) (by simp) ?_
              refine AllReadyH.cons rfl (fun K hK => ?_) AllReadyH.nil
              have ar : hk < gI ∧ hk < gC ∧ hk < gV ∧ gI ≠ gC ∧ gI ≠ gV ∧ gC ≠ gV := by
                have := Z0.out
                have := Z3.out
                have := Z4.out
                have := Z5.out
                omega
              have hfv : x5.heap[gV]? = some (.cells #[.slice none 0 0, .slice none 0 0, .int .i64 0, .int .i64 0, .int .i64 0, .slice none 0 0, .slice none 0 0, .slice none 0 0, .int .i64 0, .bool false] 35) := FV.out
              refine step_write (g := gV) (t := 35) (u0 := .slice none 0 0) (u1 := .slice none 0 0) (u2 := .int .i64 0) (u3 := .int .i64 0) (u4 := .int .i64 0) (u5 := .slice none 0 0) (u6 := .slice none 0 0) (u7 := .slice none 0 0) (u8 := .int .i64 0) (u9 := .bool false) (b0 := aa) (l0 := ks.length) (k0 := cap) (b1 := aw) (l1 := W.length) (k1 := cw) (n2 := half) (n3 := base) (n4 := next) (b5 := some ⟨gI, 0, none⟩) (l5 := 2) (k5 := 2) (b6 := some ⟨gC, 0, none⟩) (l6 := 1) (k6 := 1) (b7 := none) (l7 := 0) (k7 := 0) (n8 := 0) (n9 := each) rfl rfl (.tmp 10) (.tmp 24) rfl (by first | rfl | (simp [Act.eval, Act.put]; done)) (by first | rfl | (simp [Act.eval, Act.put]; done)) hfv ?_
              clear hfv
              intro x6 hv ho hz hbl
              have NX := hidv (leafI ar MM.out FI.out FC.out hv ho hz hbl)
              refine hK.out _ _ NX.out.1.cells (fun hS6 => ?_)
              clear hK K hv ho hz hbl ar
              refine wpAnyH_done (by kernel_rfl) ?_ _
              go_wp2_with fail
              go_meet
              exact ⟨gI, gC, gV, rfl, NX⟩
      · refine step_calls1 rfl (.tmp 21) rfl (by first | rfl | (simp [Act.eval, Act.put]; done)) ?_
        intro gC x2 hg hb hblk hz
        have Z2 : Hid (x0.heap.size + 1 = x2.heap.size ∧ gC = x0.heap.size) := ⟨hz, hg⟩
        have FC : Hid (BlkV x2 gC #[.int .i64 0, .int .i64 0, .int .i64 1] 57) := hblk
        replace MM : Hid (MK w x2 hk lo0 aw W.length cw half base next (newF n).1) := MM.out.on hb
        refine hK.out _ _ MM.out.cells (fun hS2 => ?_)
        clear hK K hb hg hblk hz
        try simp only [Act.put, List.getElem_toArray, List.getElem_cons_succ, List.getElem_cons_zero, List.setIfInBounds_toArray, List.set_cons_zero, List.set_cons_succ]
        refine wpAnyH_ready (rs := [3, 9]) (by kernel_rfl) (by simp) ?_
        refine AllReadyH.cons rfl (fun K hK => ?_) (AllReadyH.cons rfl (fun K hK => ?_) (AllReadyH.nil))
        · refine step_call rfl 44 entI _ _ rfl #[.int .i64 0] _ (intWord0 x2) (by first | rfl | (simp [Act.eval, Act.put]; done)) ?_
          rintro e x3 ⟨rfl, hx⟩
          refine ⟨_, rfl, ?_⟩
          subst x3
          refine hK.out _ _ MM.out.cells (fun hS3 => ?_)
          clear hK K
          try simp only [Act.put, List.getElem_toArray, List.getElem_cons_succ, List.getElem_cons_zero, List.setIfInBounds_toArray, List.set_cons_zero, List.set_cons_succ]
          refine wpAnyH_ready (rs := [4, 9]) (by kernel_rfl) (by simp) ?_
          refine AllReadyH.cons rfl (fun K hK => ?_) (AllReadyH.cons rfl (fun K hK => ?_) (AllReadyH.nil))
          · refine step_words rfl (.tmp 18) (.tmp 19) rfl (by first | rfl | (simp [Act.eval, Act.put]; done)) (by first | rfl | (simp [Act.eval, Act.put]; done)) ?_
            intro gI x4 hg hb hblk hz
            have Z4 : Hid (x2.heap.size + 1 = x4.heap.size ∧ gI = x2.heap.size) := ⟨hz, hg⟩
            have FI : Hid (BlkV x4 gI #[.int .i64 1, .int .i64 1] 3) := hblk
            replace MM : Hid (MK w x4 hk lo0 aw W.length cw half base next (newF n).1) := MM.out.on hb
            replace FC := hidv (FC.out.on hb)
            refine hK.out _ _ MM.out.cells (fun hS4 => ?_)
            clear hK K hb hg hblk hz
            try simp only [Act.put, List.getElem_toArray, List.getElem_cons_succ, List.getElem_cons_zero, List.setIfInBounds_toArray, List.set_cons_zero, List.set_cons_succ]
            refine wpAnyH_take (i := 8) (v := .agg #[.slice aa ks.length cap, .slice aw W.length cw, .int .i64 half, .int .i64 base, .int .i64 next, .slice (some ⟨gI, 0, none⟩) 2 2, .slice (some ⟨gC, 0, none⟩) 1 1, .slice none 0 0, .int .i64 0, .bool each]) rfl (by kernel_rfl) (by kernel_rfl) (by kernel_rfl) (fun _ _ _ h => h) (Or.inl ⟨by kernel_rfl, ?_⟩) hS4 ?_
            · intro W' hSw
              obtain ⟨s0, s1, s2, s3⟩ := hSw
              go_simp
            try simp only [Act.put, List.getElem_toArray, List.getElem_cons_succ, List.getElem_cons_zero, List.setIfInBounds_toArray, List.set_cons_zero, List.set_cons_succ]
            refine wpAnyH_ready (rs := [9]) (by kernel_rfl) (by simp) ?_
            refine AllReadyH.cons rfl (fun K hK => ?_) (AllReadyH.nil)
            · refine step_vm rfl rfl ?_
              intro gV x5 hg hb hblk hz
              have Z5 : Hid (x4.heap.size + 1 = x5.heap.size ∧ gV = x4.heap.size) := ⟨hz, hg⟩
              have FV : Hid (BlkV x5 gV #[.slice none 0 0, .slice none 0 0, .int .i64 0, .int .i64 0, .int .i64 0, .slice none 0 0, .slice none 0 0, .slice none 0 0, .int .i64 0, .bool false] 35) := hblk
              replace MM : Hid (MK w x5 hk lo0 aw W.length cw half base next (newF n).1) := MM.out.on hb
              replace FC := hidv (FC.out.on hb)
              replace FI := hidv (FI.out.on hb)
              refine hK.out _ _ MM.out.cells (fun hS5 => ?_)
              clear hK K hb hg hblk hz
              try simp only [Act.put, List.getElem_toArray, List.getElem_cons_succ, List.getElem_cons_zero, List.setIfInBounds_toArray, List.set_cons_zero, List.set_cons_succ]
              refine wpAnyH_ready (rs := [10]) (by kernel_rfl) (by simp) ?_
              refine AllReadyH.cons rfl (fun K hK => ?_) AllReadyH.nil
              have ar : hk < gI ∧ hk < gC ∧ hk < gV ∧ gI ≠ gC ∧ gI ≠ gV ∧ gC ≠ gV := by
                have := Z0.out
                have := Z2.out
                have := Z4.out
                have := Z5.out
                omega
              have hfv : x5.heap[gV]? = some (.cells #[.slice none 0 0, .slice none 0 0, .int .i64 0, .int .i64 0, .int .i64 0, .slice none 0 0, .slice none 0 0, .slice none 0 0, .int .i64 0, .bool false] 35) := FV.out
              refine step_write (g := gV) (t := 35) (u0 := .slice none 0 0) (u1 := .slice none 0 0) (u2 := .int .i64 0) (u3 := .int .i64 0) (u4 := .int .i64 0) (u5 := .slice none 0 0) (u6 := .slice none 0 0) (u7 := .slice none 0 0) (u8 := .int .i64 0) (u9 := .bool false) (b0 := aa) (l0 := ks.length) (k0 := cap) (b1 := aw) (l1 := W.length) (k1 := cw) (n2 := half) (n3 := base) (n4 := next) (b5 := some ⟨gI, 0, none⟩) (l5 := 2) (k5 := 2) (b6 := some ⟨gC, 0, none⟩) (l6 := 1) (k6 := 1) (b7 := none) (l7 := 0) (k7 := 0) (n8 := 0) (n9 := each) rfl rfl (.tmp 10) (.tmp 24) rfl (by first | rfl | (simp [Act.eval, Act.put]; done)) (by first | rfl | (simp [Act.eval, Act.put]; done)) hfv ?_
              clear hfv
              intro x6 hv ho hz hbl
              have NX := hidv (leafI ar MM.out FI.out FC.out hv ho hz hbl)
              refine hK.out _ _ NX.out.1.cells (fun hS6 => ?_)
              clear hK K hv ho hz hbl ar
              refine wpAnyH_done (by kernel_rfl) ?_ _
              go_wp2_with fail
              go_meet
              exact ⟨gI, gC, gV, rfl, NX⟩
          · refine step_vm rfl rfl ?_
            intro gV x4 hg hb hblk hz
            have Z4 : Hid (x2.heap.size + 1 = x4.heap.size ∧ gV = x2.heap.size) := ⟨hz, hg⟩
            have FV : Hid (BlkV x4 gV #[.slice none 0 0, .slice none 0 0, .int .i64 0, .int .i64 0, .int .i64 0, .slice none 0 0, .slice none 0 0, .slice none 0 0, .int .i64 0, .bool false] 35) := hblk
            replace MM : Hid (MK w x4 hk lo0 aw W.length cw half base next (newF n).1) := MM.out.on hb
            replace FC := hidv (FC.out.on hb)
            refine hK.out _ _ MM.out.cells (fun hS4 => ?_)
            clear hK K hb hg hblk hz
            try simp only [Act.put, List.getElem_toArray, List.getElem_cons_succ, List.getElem_cons_zero, List.setIfInBounds_toArray, List.set_cons_zero, List.set_cons_succ]
            refine wpAnyH_ready (rs := [4]) (by kernel_rfl) (by simp) ?_
            refine AllReadyH.cons rfl (fun K hK => ?_) (AllReadyH.nil)
            · refine step_words rfl (.tmp 18) (.tmp 19) rfl (by first | rfl | (simp [Act.eval, Act.put]; done)) (by first | rfl | (simp [Act.eval, Act.put]; done)) ?_
              intro gI x5 hg hb hblk hz
              have Z5 : Hid (x4.heap.size + 1 = x5.heap.size ∧ gI = x4.heap.size) := ⟨hz, hg⟩
              have FI : Hid (BlkV x5 gI #[.int .i64 1, .int .i64 1] 3) := hblk
              replace MM : Hid (MK w x5 hk lo0 aw W.length cw half base next (newF n).1) := MM.out.on hb
              replace FC := hidv (FC.out.on hb)
              replace FV := hidv (FV.out.on hb)
              refine hK.out _ _ MM.out.cells (fun hS5 => ?_)
              clear hK K hb hg hblk hz
              try simp only [Act.put, List.getElem_toArray, List.getElem_cons_succ, List.getElem_cons_zero, List.setIfInBounds_toArray, List.set_cons_zero, List.set_cons_succ]
              refine wpAnyH_take (i := 8) (v := .agg #[.slice aa ks.length cap, .slice aw W.length cw, .int .i64 half, .int .i64 base, .int .i64 next, .slice (some ⟨gI, 0, none⟩) 2 2, .slice (some ⟨gC, 0, none⟩) 1 1, .slice none 0 0, .int .i64 0, .bool each]) rfl (by kernel_rfl) (by kernel_rfl) (by kernel_rfl) (fun _ _ _ h => h) (Or.inl ⟨by kernel_rfl, ?_⟩) hS5 ?_
              · intro W' hSw
                obtain ⟨s0, s1, s2, s3⟩ := hSw
                go_simp
              try simp only [Act.put, List.getElem_toArray, List.getElem_cons_succ, List.getElem_cons_zero, List.setIfInBounds_toArray, List.set_cons_zero, List.set_cons_succ]
              refine wpAnyH_ready (rs := [10]) (by kernel_rfl) (by simp) ?_
              refine AllReadyH.cons rfl (fun K hK => ?_) AllReadyH.nil
              have ar : hk < gI ∧ hk < gC ∧ hk < gV ∧ gI ≠ gC ∧ gI ≠ gV ∧ gC ≠ gV := by
                have := Z0.out
                have := Z2.out
                have := Z4.out
                have := Z5.out
                omega
              have hfv : x5.heap[gV]? = some (.cells #[.slice none 0 0, .slice none 0 0, .int .i64 0, .int .i64 0, .int .i64 0, .slice none 0 0, .slice none 0 0, .slice none 0 0, .int .i64 0, .bool false] 35) := FV.out
              refine step_write (g := gV) (t := 35) (u0 := .slice none 0 0) (u1 := .slice none 0 0) (u2 := .int .i64 0) (u3 := .int .i64 0) (u4 := .int .i64 0) (u5 := .slice none 0 0) (u6 := .slice none 0 0) (u7 := .slice none 0 0) (u8 := .int .i64 0) (u9 := .bool false) (b0 := aa) (l0 := ks.length) (k0 := cap) (b1 := aw) (l1 := W.length) (k1 := cw) (n2 := half) (n3 := base) (n4 := next) (b5 := some ⟨gI, 0, none⟩) (l5 := 2) (k5 := 2) (b6 := some ⟨gC, 0, none⟩) (l6 := 1) (k6 := 1) (b7 := none) (l7 := 0) (k7 := 0) (n8 := 0) (n9 := each) rfl rfl (.tmp 10) (.tmp 24) rfl (by first | rfl | (simp [Act.eval, Act.put]; done)) (by first | rfl | (simp [Act.eval, Act.put]; done)) hfv ?_
              clear hfv
              intro x6 hv ho hz hbl
              have NX := hidv (leafI ar MM.out FI.out FC.out hv ho hz hbl)
              refine hK.out _ _ NX.out.1.cells (fun hS6 => ?_)
              clear hK K hv ho hz hbl ar
              refine wpAnyH_done (by kernel_rfl) ?_ _
              go_wp2_with fail
              go_meet
              exact ⟨gI, gC, gV, rfl, NX⟩
        · refine step_vm rfl rfl ?_
          intro gV x3 hg hb hblk hz
          have Z3 : Hid (x2.heap.size + 1 = x3.heap.size ∧ gV = x2.heap.size) := ⟨hz, hg⟩
          have FV : Hid (BlkV x3 gV #[.slice none 0 0, .slice none 0 0, .int .i64 0, .int .i64 0, .int .i64 0, .slice none 0 0, .slice none 0 0, .slice none 0 0, .int .i64 0, .bool false] 35) := hblk
          replace MM : Hid (MK w x3 hk lo0 aw W.length cw half base next (newF n).1) := MM.out.on hb
          replace FC := hidv (FC.out.on hb)
          refine hK.out _ _ MM.out.cells (fun hS3 => ?_)
          clear hK K hb hg hblk hz
          try simp only [Act.put, List.getElem_toArray, List.getElem_cons_succ, List.getElem_cons_zero, List.setIfInBounds_toArray, List.set_cons_zero, List.set_cons_succ]
          refine wpAnyH_ready (rs := [3]) (by kernel_rfl) (by simp) ?_
          refine AllReadyH.cons rfl (fun K hK => ?_) (AllReadyH.nil)
          · refine step_call rfl 44 entI _ _ rfl #[.int .i64 0] _ (intWord0 x3) (by first | rfl | (simp [Act.eval, Act.put]; done)) ?_
            rintro e x4 ⟨rfl, hx⟩
            refine ⟨_, rfl, ?_⟩
            subst x4
            refine hK.out _ _ MM.out.cells (fun hS4 => ?_)
            clear hK K
            try simp only [Act.put, List.getElem_toArray, List.getElem_cons_succ, List.getElem_cons_zero, List.setIfInBounds_toArray, List.set_cons_zero, List.set_cons_succ]
            refine wpAnyH_ready (rs := [4]) (by kernel_rfl) (by simp) ?_
            refine AllReadyH.cons rfl (fun K hK => ?_) (AllReadyH.nil)
            · refine step_words rfl (.tmp 18) (.tmp 19) rfl (by first | rfl | (simp [Act.eval, Act.put]; done)) (by first | rfl | (simp [Act.eval, Act.put]; done)) ?_
              intro gI x5 hg hb hblk hz
              have Z5 : Hid (x3.heap.size + 1 = x5.heap.size ∧ gI = x3.heap.size) := ⟨hz, hg⟩
              have FI : Hid (BlkV x5 gI #[.int .i64 1, .int .i64 1] 3) := hblk
              replace MM : Hid (MK w x5 hk lo0 aw W.length cw half base next (newF n).1) := MM.out.on hb
              replace FC := hidv (FC.out.on hb)
              replace FV := hidv (FV.out.on hb)
              refine hK.out _ _ MM.out.cells (fun hS5 => ?_)
              clear hK K hb hg hblk hz
              try simp only [Act.put, List.getElem_toArray, List.getElem_cons_succ, List.getElem_cons_zero, List.setIfInBounds_toArray, List.set_cons_zero, List.set_cons_succ]
              refine wpAnyH_take (i := 8) (v := .agg #[.slice aa ks.length cap, .slice aw W.length cw, .int .i64 half, .int .i64 base, .int .i64 next, .slice (some ⟨gI, 0, none⟩) 2 2, .slice (some ⟨gC, 0, none⟩) 1 1, .slice none 0 0, .int .i64 0, .bool each]) rfl (by kernel_rfl) (by kernel_rfl) (by kernel_rfl) (fun _ _ _ h => h) (Or.inl ⟨by kernel_rfl, ?_⟩) hS5 ?_
              · intro W' hSw
                obtain ⟨s0, s1, s2, s3⟩ := hSw
                go_simp
              try simp only [Act.put, List.getElem_toArray, List.getElem_cons_succ, List.getElem_cons_zero, List.setIfInBounds_toArray, List.set_cons_zero, List.set_cons_succ]
              refine wpAnyH_ready (rs := [10]) (by kernel_rfl) (by simp) ?_
              refine AllReadyH.cons rfl (fun K hK => ?_) AllReadyH.nil
              have ar : hk < gI ∧ hk < gC ∧ hk < gV ∧ gI ≠ gC ∧ gI ≠ gV ∧ gC ≠ gV := by
                have := Z0.out
                have := Z2.out
                have := Z3.out
                have := Z5.out
                omega
              have hfv : x5.heap[gV]? = some (.cells #[.slice none 0 0, .slice none 0 0, .int .i64 0, .int .i64 0, .int .i64 0, .slice none 0 0, .slice none 0 0, .slice none 0 0, .int .i64 0, .bool false] 35) := FV.out
              refine step_write (g := gV) (t := 35) (u0 := .slice none 0 0) (u1 := .slice none 0 0) (u2 := .int .i64 0) (u3 := .int .i64 0) (u4 := .int .i64 0) (u5 := .slice none 0 0) (u6 := .slice none 0 0) (u7 := .slice none 0 0) (u8 := .int .i64 0) (u9 := .bool false) (b0 := aa) (l0 := ks.length) (k0 := cap) (b1 := aw) (l1 := W.length) (k1 := cw) (n2 := half) (n3 := base) (n4 := next) (b5 := some ⟨gI, 0, none⟩) (l5 := 2) (k5 := 2) (b6 := some ⟨gC, 0, none⟩) (l6 := 1) (k6 := 1) (b7 := none) (l7 := 0) (k7 := 0) (n8 := 0) (n9 := each) rfl rfl (.tmp 10) (.tmp 24) rfl (by first | rfl | (simp [Act.eval, Act.put]; done)) (by first | rfl | (simp [Act.eval, Act.put]; done)) hfv ?_
              clear hfv
              intro x6 hv ho hz hbl
              have NX := hidv (leafI ar MM.out FI.out FC.out hv ho hz hbl)
              refine hK.out _ _ NX.out.1.cells (fun hS6 => ?_)
              clear hK K hv ho hz hbl ar
              refine wpAnyH_done (by kernel_rfl) ?_ _
              go_wp2_with fail
              go_meet
              exact ⟨gI, gC, gV, rfl, NX⟩
      · refine step_vm rfl rfl ?_
        intro gV x2 hg hb hblk hz
        have Z2 : Hid (x0.heap.size + 1 = x2.heap.size ∧ gV = x0.heap.size) := ⟨hz, hg⟩
        have FV : Hid (BlkV x2 gV #[.slice none 0 0, .slice none 0 0, .int .i64 0, .int .i64 0, .int .i64 0, .slice none 0 0, .slice none 0 0, .slice none 0 0, .int .i64 0, .bool false] 35) := hblk
        replace MM : Hid (MK w x2 hk lo0 aw W.length cw half base next (newF n).1) := MM.out.on hb
        refine hK.out _ _ MM.out.cells (fun hS2 => ?_)
        clear hK K hb hg hblk hz
        try simp only [Act.put, List.getElem_toArray, List.getElem_cons_succ, List.getElem_cons_zero, List.setIfInBounds_toArray, List.set_cons_zero, List.set_cons_succ]
        refine wpAnyH_ready (rs := [3, 6]) (by kernel_rfl) (by simp) ?_
        refine AllReadyH.cons rfl (fun K hK => ?_) (AllReadyH.cons rfl (fun K hK => ?_) (AllReadyH.nil))
        · refine step_call rfl 44 entI _ _ rfl #[.int .i64 0] _ (intWord0 x2) (by first | rfl | (simp [Act.eval, Act.put]; done)) ?_
          rintro e x3 ⟨rfl, hx⟩
          refine ⟨_, rfl, ?_⟩
          subst x3
          refine hK.out _ _ MM.out.cells (fun hS3 => ?_)
          clear hK K
          try simp only [Act.put, List.getElem_toArray, List.getElem_cons_succ, List.getElem_cons_zero, List.setIfInBounds_toArray, List.set_cons_zero, List.set_cons_succ]
          refine wpAnyH_ready (rs := [4, 6]) (by kernel_rfl) (by simp) ?_
          refine AllReadyH.cons rfl (fun K hK => ?_) (AllReadyH.cons rfl (fun K hK => ?_) (AllReadyH.nil))
          · refine step_words rfl (.tmp 18) (.tmp 19) rfl (by first | rfl | (simp [Act.eval, Act.put]; done)) (by first | rfl | (simp [Act.eval, Act.put]; done)) ?_
            intro gI x4 hg hb hblk hz
            have Z4 : Hid (x2.heap.size + 1 = x4.heap.size ∧ gI = x2.heap.size) := ⟨hz, hg⟩
            have FI : Hid (BlkV x4 gI #[.int .i64 1, .int .i64 1] 3) := hblk
            replace MM : Hid (MK w x4 hk lo0 aw W.length cw half base next (newF n).1) := MM.out.on hb
            replace FV := hidv (FV.out.on hb)
            refine hK.out _ _ MM.out.cells (fun hS4 => ?_)
            clear hK K hb hg hblk hz
            try simp only [Act.put, List.getElem_toArray, List.getElem_cons_succ, List.getElem_cons_zero, List.setIfInBounds_toArray, List.set_cons_zero, List.set_cons_succ]
            refine wpAnyH_ready (rs := [6]) (by kernel_rfl) (by simp) ?_
            refine AllReadyH.cons rfl (fun K hK => ?_) (AllReadyH.nil)
            · refine step_calls1 rfl (.tmp 21) rfl (by first | rfl | (simp [Act.eval, Act.put]; done)) ?_
              intro gC x5 hg hb hblk hz
              have Z5 : Hid (x4.heap.size + 1 = x5.heap.size ∧ gC = x4.heap.size) := ⟨hz, hg⟩
              have FC : Hid (BlkV x5 gC #[.int .i64 0, .int .i64 0, .int .i64 1] 57) := hblk
              replace MM : Hid (MK w x5 hk lo0 aw W.length cw half base next (newF n).1) := MM.out.on hb
              replace FV := hidv (FV.out.on hb)
              replace FI := hidv (FI.out.on hb)
              refine hK.out _ _ MM.out.cells (fun hS5 => ?_)
              clear hK K hb hg hblk hz
              try simp only [Act.put, List.getElem_toArray, List.getElem_cons_succ, List.getElem_cons_zero, List.setIfInBounds_toArray, List.set_cons_zero, List.set_cons_succ]
              refine wpAnyH_take (i := 8) (v := .agg #[.slice aa ks.length cap, .slice aw W.length cw, .int .i64 half, .int .i64 base, .int .i64 next, .slice (some ⟨gI, 0, none⟩) 2 2, .slice (some ⟨gC, 0, none⟩) 1 1, .slice none 0 0, .int .i64 0, .bool each]) rfl (by kernel_rfl) (by kernel_rfl) (by kernel_rfl) (fun _ _ _ h => h) (Or.inl ⟨by kernel_rfl, ?_⟩) hS5 ?_
              · intro W' hSw
                obtain ⟨s0, s1, s2, s3⟩ := hSw
                go_simp
              try simp only [Act.put, List.getElem_toArray, List.getElem_cons_succ, List.getElem_cons_zero, List.setIfInBounds_toArray, List.set_cons_zero, List.set_cons_succ]
              refine wpAnyH_ready (rs := [10]) (by kernel_rfl) (by simp) ?_
              refine AllReadyH.cons rfl (fun K hK => ?_) AllReadyH.nil
              have ar : hk < gI ∧ hk < gC ∧ hk < gV ∧ gI ≠ gC ∧ gI ≠ gV ∧ gC ≠ gV := by
                have := Z0.out
                have := Z2.out
                have := Z4.out
                have := Z5.out
                omega
              have hfv : x5.heap[gV]? = some (.cells #[.slice none 0 0, .slice none 0 0, .int .i64 0, .int .i64 0, .int .i64 0, .slice none 0 0, .slice none 0 0, .slice none 0 0, .int .i64 0, .bool false] 35) := FV.out
              refine step_write (g := gV) (t := 35) (u0 := .slice none 0 0) (u1 := .slice none 0 0) (u2 := .int .i64 0) (u3 := .int .i64 0) (u4 := .int .i64 0) (u5 := .slice none 0 0) (u6 := .slice none 0 0) (u7 := .slice none 0 0) (u8 := .int .i64 0) (u9 := .bool false) (b0 := aa) (l0 := ks.length) (k0 := cap) (b1 := aw) (l1 := W.length) (k1 := cw) (n2 := half) (n3 := base) (n4 := next) (b5 := some ⟨gI, 0, none⟩) (l5 := 2) (k5 := 2) (b6 := some ⟨gC, 0, none⟩) (l6 := 1) (k6 := 1) (b7 := none) (l7 := 0) (k7 := 0) (n8 := 0) (n9 := each) rfl rfl (.tmp 10) (.tmp 24) rfl (by first | rfl | (simp [Act.eval, Act.put]; done)) (by first | rfl | (simp [Act.eval, Act.put]; done)) hfv ?_
              clear hfv
              intro x6 hv ho hz hbl
              have NX := hidv (leafI ar MM.out FI.out FC.out hv ho hz hbl)
              refine hK.out _ _ NX.out.1.cells (fun hS6 => ?_)
              clear hK K hv ho hz hbl ar
              refine wpAnyH_done (by kernel_rfl) ?_ _
              go_wp2_with fail
              go_meet
              exact ⟨gI, gC, gV, rfl, NX⟩
          · refine step_calls1 rfl (.tmp 21) rfl (by first | rfl | (simp [Act.eval, Act.put]; done)) ?_
            intro gC x4 hg hb hblk hz
            have Z4 : Hid (x2.heap.size + 1 = x4.heap.size ∧ gC = x2.heap.size) := ⟨hz, hg⟩
            have FC : Hid (BlkV x4 gC #[.int .i64 0, .int .i64 0, .int .i64 1] 57) := hblk
            replace MM : Hid (MK w x4 hk lo0 aw W.length cw half base next (newF n).1) := MM.out.on hb
            replace FV := hidv (FV.out.on hb)
            refine hK.out _ _ MM.out.cells (fun hS4 => ?_)
            clear hK K hb hg hblk hz
            try simp only [Act.put, List.getElem_toArray, List.getElem_cons_succ, List.getElem_cons_zero, List.setIfInBounds_toArray, List.set_cons_zero, List.set_cons_succ]
            refine wpAnyH_ready (rs := [4]) (by kernel_rfl) (by simp) ?_
            refine AllReadyH.cons rfl (fun K hK => ?_) (AllReadyH.nil)
            · refine step_words rfl (.tmp 18) (.tmp 19) rfl (by first | rfl | (simp [Act.eval, Act.put]; done)) (by first | rfl | (simp [Act.eval, Act.put]; done)) ?_
              intro gI x5 hg hb hblk hz
              have Z5 : Hid (x4.heap.size + 1 = x5.heap.size ∧ gI = x4.heap.size) := ⟨hz, hg⟩
              have FI : Hid (BlkV x5 gI #[.int .i64 1, .int .i64 1] 3) := hblk
              replace MM : Hid (MK w x5 hk lo0 aw W.length cw half base next (newF n).1) := MM.out.on hb
              replace FV := hidv (FV.out.on hb)
              replace FC := hidv (FC.out.on hb)
              refine hK.out _ _ MM.out.cells (fun hS5 => ?_)
              clear hK K hb hg hblk hz
              try simp only [Act.put, List.getElem_toArray, List.getElem_cons_succ, List.getElem_cons_zero, List.setIfInBounds_toArray, List.set_cons_zero, List.set_cons_succ]
              refine wpAnyH_take (i := 8) (v := .agg #[.slice aa ks.length cap, .slice aw W.length cw, .int .i64 half, .int .i64 base, .int .i64 next, .slice (some ⟨gI, 0, none⟩) 2 2, .slice (some ⟨gC, 0, none⟩) 1 1, .slice none 0 0, .int .i64 0, .bool each]) rfl (by kernel_rfl) (by kernel_rfl) (by kernel_rfl) (fun _ _ _ h => h) (Or.inl ⟨by kernel_rfl, ?_⟩) hS5 ?_
              · intro W' hSw
                obtain ⟨s0, s1, s2, s3⟩ := hSw
                go_simp
              try simp only [Act.put, List.getElem_toArray, List.getElem_cons_succ, List.getElem_cons_zero, List.setIfInBounds_toArray, List.set_cons_zero, List.set_cons_succ]
              refine wpAnyH_ready (rs := [10]) (by kernel_rfl) (by simp) ?_
              refine AllReadyH.cons rfl (fun K hK => ?_) AllReadyH.nil
              have ar : hk < gI ∧ hk < gC ∧ hk < gV ∧ gI ≠ gC ∧ gI ≠ gV ∧ gC ≠ gV := by
                have := Z0.out
                have := Z2.out
                have := Z4.out
                have := Z5.out
                omega
              have hfv : x5.heap[gV]? = some (.cells #[.slice none 0 0, .slice none 0 0, .int .i64 0, .int .i64 0, .int .i64 0, .slice none 0 0, .slice none 0 0, .slice none 0 0, .int .i64 0, .bool false] 35) := FV.out
              refine step_write (g := gV) (t := 35) (u0 := .slice none 0 0) (u1 := .slice none 0 0) (u2 := .int .i64 0) (u3 := .int .i64 0) (u4 := .int .i64 0) (u5 := .slice none 0 0) (u6 := .slice none 0 0) (u7 := .slice none 0 0) (u8 := .int .i64 0) (u9 := .bool false) (b0 := aa) (l0 := ks.length) (k0 := cap) (b1 := aw) (l1 := W.length) (k1 := cw) (n2 := half) (n3 := base) (n4 := next) (b5 := some ⟨gI, 0, none⟩) (l5 := 2) (k5 := 2) (b6 := some ⟨gC, 0, none⟩) (l6 := 1) (k6 := 1) (b7 := none) (l7 := 0) (k7 := 0) (n8 := 0) (n9 := each) rfl rfl (.tmp 10) (.tmp 24) rfl (by first | rfl | (simp [Act.eval, Act.put]; done)) (by first | rfl | (simp [Act.eval, Act.put]; done)) hfv ?_
              clear hfv
              intro x6 hv ho hz hbl
              have NX := hidv (leafI ar MM.out FI.out FC.out hv ho hz hbl)
              refine hK.out _ _ NX.out.1.cells (fun hS6 => ?_)
              clear hK K hv ho hz hbl ar
              refine wpAnyH_done (by kernel_rfl) ?_ _
              go_wp2_with fail
              go_meet
              exact ⟨gI, gC, gV, rfl, NX⟩
        · refine step_calls1 rfl (.tmp 21) rfl (by first | rfl | (simp [Act.eval, Act.put]; done)) ?_
          intro gC x3 hg hb hblk hz
          have Z3 : Hid (x2.heap.size + 1 = x3.heap.size ∧ gC = x2.heap.size) := ⟨hz, hg⟩
          have FC : Hid (BlkV x3 gC #[.int .i64 0, .int .i64 0, .int .i64 1] 57) := hblk
          replace MM : Hid (MK w x3 hk lo0 aw W.length cw half base next (newF n).1) := MM.out.on hb
          replace FV := hidv (FV.out.on hb)
          refine hK.out _ _ MM.out.cells (fun hS3 => ?_)
          clear hK K hb hg hblk hz
          try simp only [Act.put, List.getElem_toArray, List.getElem_cons_succ, List.getElem_cons_zero, List.setIfInBounds_toArray, List.set_cons_zero, List.set_cons_succ]
          refine wpAnyH_ready (rs := [3]) (by kernel_rfl) (by simp) ?_
          refine AllReadyH.cons rfl (fun K hK => ?_) (AllReadyH.nil)
          · refine step_call rfl 44 entI _ _ rfl #[.int .i64 0] _ (intWord0 x3) (by first | rfl | (simp [Act.eval, Act.put]; done)) ?_
            rintro e x4 ⟨rfl, hx⟩
            refine ⟨_, rfl, ?_⟩
            subst x4
            refine hK.out _ _ MM.out.cells (fun hS4 => ?_)
            clear hK K
            try simp only [Act.put, List.getElem_toArray, List.getElem_cons_succ, List.getElem_cons_zero, List.setIfInBounds_toArray, List.set_cons_zero, List.set_cons_succ]
            refine wpAnyH_ready (rs := [4]) (by kernel_rfl) (by simp) ?_
            refine AllReadyH.cons rfl (fun K hK => ?_) (AllReadyH.nil)
            · refine step_words rfl (.tmp 18) (.tmp 19) rfl (by first | rfl | (simp [Act.eval, Act.put]; done)) (by first | rfl | (simp [Act.eval, Act.put]; done)) ?_
              intro gI x5 hg hb hblk hz
              have Z5 : Hid (x3.heap.size + 1 = x5.heap.size ∧ gI = x3.heap.size) := ⟨hz, hg⟩
              have FI : Hid (BlkV x5 gI #[.int .i64 1, .int .i64 1] 3) := hblk
              replace MM : Hid (MK w x5 hk lo0 aw W.length cw half base next (newF n).1) := MM.out.on hb
              replace FV := hidv (FV.out.on hb)
              replace FC := hidv (FC.out.on hb)
              refine hK.out _ _ MM.out.cells (fun hS5 => ?_)
              clear hK K hb hg hblk hz
              try simp only [Act.put, List.getElem_toArray, List.getElem_cons_succ, List.getElem_cons_zero, List.setIfInBounds_toArray, List.set_cons_zero, List.set_cons_succ]
              refine wpAnyH_take (i := 8) (v := .agg #[.slice aa ks.length cap, .slice aw W.length cw, .int .i64 half, .int .i64 base, .int .i64 next, .slice (some ⟨gI, 0, none⟩) 2 2, .slice (some ⟨gC, 0, none⟩) 1 1, .slice none 0 0, .int .i64 0, .bool each]) rfl (by kernel_rfl) (by kernel_rfl) (by kernel_rfl) (fun _ _ _ h => h) (Or.inl ⟨by kernel_rfl, ?_⟩) hS5 ?_
              · intro W' hSw
                obtain ⟨s0, s1, s2, s3⟩ := hSw
                go_simp
              try simp only [Act.put, List.getElem_toArray, List.getElem_cons_succ, List.getElem_cons_zero, List.setIfInBounds_toArray, List.set_cons_zero, List.set_cons_succ]
              refine wpAnyH_ready (rs := [10]) (by kernel_rfl) (by simp) ?_
              refine AllReadyH.cons rfl (fun K hK => ?_) AllReadyH.nil
              have ar : hk < gI ∧ hk < gC ∧ hk < gV ∧ gI ≠ gC ∧ gI ≠ gV ∧ gC ≠ gV := by
                have := Z0.out
                have := Z2.out
                have := Z3.out
                have := Z5.out
                omega
              have hfv : x5.heap[gV]? = some (.cells #[.slice none 0 0, .slice none 0 0, .int .i64 0, .int .i64 0, .int .i64 0, .slice none 0 0, .slice none 0 0, .slice none 0 0, .int .i64 0, .bool false] 35) := FV.out
              refine step_write (g := gV) (t := 35) (u0 := .slice none 0 0) (u1 := .slice none 0 0) (u2 := .int .i64 0) (u3 := .int .i64 0) (u4 := .int .i64 0) (u5 := .slice none 0 0) (u6 := .slice none 0 0) (u7 := .slice none 0 0) (u8 := .int .i64 0) (u9 := .bool false) (b0 := aa) (l0 := ks.length) (k0 := cap) (b1 := aw) (l1 := W.length) (k1 := cw) (n2 := half) (n3 := base) (n4 := next) (b5 := some ⟨gI, 0, none⟩) (l5 := 2) (k5 := 2) (b6 := some ⟨gC, 0, none⟩) (l6 := 1) (k6 := 1) (b7 := none) (l7 := 0) (k7 := 0) (n8 := 0) (n9 := each) rfl rfl (.tmp 10) (.tmp 24) rfl (by first | rfl | (simp [Act.eval, Act.put]; done)) (by first | rfl | (simp [Act.eval, Act.put]; done)) hfv ?_
              clear hfv
              intro x6 hv ho hz hbl
              have NX := hidv (leafI ar MM.out FI.out FC.out hv ho hz hbl)
              refine hK.out _ _ NX.out.1.cells (fun hS6 => ?_)
              clear hK K hv ho hz hbl ar
              refine wpAnyH_done (by kernel_rfl) ?_ _
              go_wp2_with fail
              go_meet
              exact ⟨gI, gC, gV, rfl, NX⟩
    · refine step_calls1 rfl (.tmp 21) rfl (by first | rfl | (simp [Act.eval, Act.put]; done)) ?_
      intro gC x1 hg hb hblk hz
      have Z1 : Hid (x0.heap.size + 1 = x1.heap.size ∧ gC = x0.heap.size) := ⟨hz, hg⟩
      have FC : Hid (BlkV x1 gC #[.int .i64 0, .int .i64 0, .int .i64 1] 57) := hblk
      replace MM : Hid (MK w x1 hk lo0 aw W.length cw half base next (newF n).1) := MM.out.on hb
      refine hK.out _ _ MM.out.cells (fun hS1 => ?_)
      clear hK K hb hg hblk hz
      try simp only [Act.put, List.getElem_toArray, List.getElem_cons_succ, List.getElem_cons_zero, List.setIfInBounds_toArray, List.set_cons_zero, List.set_cons_succ]
      refine wpAnyH_ready (rs := [2, 9]) (by kernel_rfl) (by simp) ?_
      refine AllReadyH.cons rfl (fun K hK => ?_) (AllReadyH.cons rfl (fun K hK => ?_) (AllReadyH.nil))
      · refine step_call rfl 44 entI _ _ rfl #[.int .i64 0] _ (intWord0 x1) (by first | rfl | (simp [Act.eval, Act.put]; done)) ?_
        rintro e x2 ⟨rfl, hx⟩
        refine ⟨_, rfl, ?_⟩
        subst x2
        refine hK.out _ _ MM.out.cells (fun hS2 => ?_)
        clear hK K
        try simp only [Act.put, List.getElem_toArray, List.getElem_cons_succ, List.getElem_cons_zero, List.setIfInBounds_toArray, List.set_cons_zero, List.set_cons_succ]
        refine wpAnyH_ready (rs := [3, 9]) (by kernel_rfl) (by simp) ?_
        refine AllReadyH.cons rfl (fun K hK => ?_) (AllReadyH.cons rfl (fun K hK => ?_) (AllReadyH.nil))
        · refine step_call rfl 44 entI _ _ rfl #[.int .i64 0] _ (intWord0 x1) (by first | rfl | (simp [Act.eval, Act.put]; done)) ?_
          rintro e x3 ⟨rfl, hx⟩
          refine ⟨_, rfl, ?_⟩
          subst x3
          refine hK.out _ _ MM.out.cells (fun hS3 => ?_)
          clear hK K
          try simp only [Act.put, List.getElem_toArray, List.getElem_cons_succ, List.getElem_cons_zero, List.setIfInBounds_toArray, List.set_cons_zero, List.set_cons_succ]
          refine wpAnyH_ready (rs := [4, 9]) (by kernel_rfl) (by simp) ?_
          refine AllReadyH.cons rfl (fun K hK => ?_) (AllReadyH.cons rfl (fun K hK => ?_) (AllReadyH.nil))
          · refine step_words rfl (.tmp 18) (.tmp 19) rfl (by first | rfl | (simp [Act.eval, Act.put]; done)) (by first | rfl | (simp [Act.eval, Act.put]; done)) ?_
            intro gI x4 hg hb hblk hz
            have Z4 : Hid (x1.heap.size + 1 = x4.heap.size ∧ gI = x1.heap.size) := ⟨hz, hg⟩
            have FI : Hid (BlkV x4 gI #[.int .i64 1, .int .i64 1] 3) := hblk
            replace MM : Hid (MK w x4 hk lo0 aw W.length cw half base next (newF n).1) := MM.out.on hb
            replace FC := hidv (FC.out.on hb)
            refine hK.out _ _ MM.out.cells (fun hS4 => ?_)
            clear hK K hb hg hblk hz
            try simp only [Act.put, List.getElem_toArray, List.getElem_cons_succ, List.getElem_cons_zero, List.setIfInBounds_toArray, List.set_cons_zero, List.set_cons_succ]
            refine wpAnyH_take (i := 8) (v := .agg #[.slice aa ks.length cap, .slice aw W.length cw, .int .i64 half, .int .i64 base, .int .i64 next, .slice (some ⟨gI, 0, none⟩) 2 2, .slice (some ⟨gC, 0, none⟩) 1 1, .slice none 0 0, .int .i64 0, .bool each]) rfl (by kernel_rfl) (by kernel_rfl) (by kernel_rfl) (fun _ _ _ h => h) (Or.inl ⟨by kernel_rfl, ?_⟩) hS4 ?_
            · intro W' hSw
              obtain ⟨s0, s1, s2, s3⟩ := hSw
              go_simp
            try simp only [Act.put, List.getElem_toArray, List.getElem_cons_succ, List.getElem_cons_zero, List.setIfInBounds_toArray, List.set_cons_zero, List.set_cons_succ]
            refine wpAnyH_ready (rs := [9]) (by kernel_rfl) (by simp) ?_
            refine AllReadyH.cons rfl (fun K hK => ?_) (AllReadyH.nil)
            · refine step_vm rfl rfl ?_
              intro gV x5 hg hb hblk hz
              have Z5 : Hid (x4.heap.size + 1 = x5.heap.size ∧ gV = x4.heap.size) := ⟨hz, hg⟩
              have FV : Hid (BlkV x5 gV #[.slice none 0 0, .slice none 0 0, .int .i64 0, .int .i64 0, .int .i64 0, .slice none 0 0, .slice none 0 0, .slice none 0 0, .int .i64 0, .bool false] 35) := hblk
              replace MM : Hid (MK w x5 hk lo0 aw W.length cw half base next (newF n).1) := MM.out.on hb
              replace FC := hidv (FC.out.on hb)
              replace FI := hidv (FI.out.on hb)
              refine hK.out _ _ MM.out.cells (fun hS5 => ?_)
              clear hK K hb hg hblk hz
              try simp only [Act.put, List.getElem_toArray, List.getElem_cons_succ, List.getElem_cons_zero, List.setIfInBounds_toArray, List.set_cons_zero, List.set_cons_succ]
              refine wpAnyH_ready (rs := [10]) (by kernel_rfl) (by simp) ?_
              refine AllReadyH.cons rfl (fun K hK => ?_) AllReadyH.nil
              have ar : hk < gI ∧ hk < gC ∧ hk < gV ∧ gI ≠ gC ∧ gI ≠ gV ∧ gC ≠ gV := by
                have := Z0.out
                have := Z1.out
                have := Z4.out
                have := Z5.out
                omega
              have hfv : x5.heap[gV]? = some (.cells #[.slice none 0 0, .slice none 0 0, .int .i64 0, .int .i64 0, .int .i64 0, .slice none 0 0, .slice none 0 0, .slice none 0 0, .int .i64 0, .bool false] 35) := FV.out
              refine step_write (g := gV) (t := 35) (u0 := .slice none 0 0) (u1 := .slice none 0 0) (u2 := .int .i64 0) (u3 := .int .i64 0) (u4 := .int .i64 0) (u5 := .slice none 0 0) (u6 := .slice none 0 0) (u7 := .slice none 0 0) (u8 := .int .i64 0) (u9 := .bool false) (b0 := aa) (l0 := ks.length) (k0 := cap) (b1 := aw) (l1 := W.length) (k1 := cw) (n2 := half) (n3 := base) (n4 := next) (b5 := some ⟨gI, 0, none⟩) (l5 := 2) (k5 := 2) (b6 := some ⟨gC, 0, none⟩) (l6 := 1) (k6 := 1) (b7 := none) (l7 := 0) (k7 := 0) (n8 := 0) (n9 := each) rfl rfl (.tmp 10) (.tmp 24) rfl (by first | rfl | (simp [Act.eval, Act.put]; done)) (by first | rfl | (simp [Act.eval, Act.put]; done)) hfv ?_
              clear hfv
              intro x6 hv ho hz hbl
              have NX := hidv (leafI ar MM.out FI.out FC.out hv ho hz hbl)
              refine hK.out _ _ NX.out.1.cells (fun hS6 => ?_)
              clear hK K hv ho hz hbl ar
              refine wpAnyH_done (by kernel_rfl) ?_ _
              go_wp2_with fail
              go_meet
              exact ⟨gI, gC, gV, rfl, NX⟩
          · refine step_vm rfl rfl ?_
            intro gV x4 hg hb hblk hz
            have Z4 : Hid (x1.heap.size + 1 = x4.heap.size ∧ gV = x1.heap.size) := ⟨hz, hg⟩
            have FV : Hid (BlkV x4 gV #[.slice none 0 0, .slice none 0 0, .int .i64 0, .int .i64 0, .int .i64 0, .slice none 0 0, .slice none 0 0, .slice none 0 0, .int .i64 0, .bool false] 35) := hblk
            replace MM : Hid (MK w x4 hk lo0 aw W.length cw half base next (newF n).1) := MM.out.on hb
            replace FC := hidv (FC.out.on hb)
            refine hK.out _ _ MM.out.cells (fun hS4 => ?_)
            clear hK K hb hg hblk hz
            try simp only [Act.put, List.getElem_toArray, List.getElem_cons_succ, List.getElem_cons_zero, List.setIfInBounds_toArray, List.set_cons_zero, List.set_cons_succ]
            refine wpAnyH_ready (rs := [4]) (by kernel_rfl) (by simp) ?_
            refine AllReadyH.cons rfl (fun K hK => ?_) (AllReadyH.nil)
            · refine step_words rfl (.tmp 18) (.tmp 19) rfl (by first | rfl | (simp [Act.eval, Act.put]; done)) (by first | rfl | (simp [Act.eval, Act.put]; done)) ?_
              intro gI x5 hg hb hblk hz
              have Z5 : Hid (x4.heap.size + 1 = x5.heap.size ∧ gI = x4.heap.size) := ⟨hz, hg⟩
              have FI : Hid (BlkV x5 gI #[.int .i64 1, .int .i64 1] 3) := hblk
              replace MM : Hid (MK w x5 hk lo0 aw W.length cw half base next (newF n).1) := MM.out.on hb
              replace FC := hidv (FC.out.on hb)
              replace FV := hidv (FV.out.on hb)
              refine hK.out _ _ MM.out.cells (fun hS5 => ?_)
              clear hK K hb hg hblk hz
              try simp only [Act.put, List.getElem_toArray, List.getElem_cons_succ, List.getElem_cons_zero, List.setIfInBounds_toArray, List.set_cons_zero, List.set_cons_succ]
              refine wpAnyH_take (i := 8) (v := .agg #[.slice aa ks.length cap, .slice aw W.length cw, .int .i64 half, .int .i64 base, .int .i64 next, .slice (some ⟨gI, 0, none⟩) 2 2, .slice (some ⟨gC, 0, none⟩) 1 1, .slice none 0 0, .int .i64 0, .bool each]) rfl (by kernel_rfl) (by kernel_rfl) (by kernel_rfl) (fun _ _ _ h => h) (Or.inl ⟨by kernel_rfl, ?_⟩) hS5 ?_
              · intro W' hSw
                obtain ⟨s0, s1, s2, s3⟩ := hSw
                go_simp
              try simp only [Act.put, List.getElem_toArray, List.getElem_cons_succ, List.getElem_cons_zero, List.setIfInBounds_toArray, List.set_cons_zero, List.set_cons_succ]
              refine wpAnyH_ready (rs := [10]) (by kernel_rfl) (by simp) ?_
              refine AllReadyH.cons rfl (fun K hK => ?_) AllReadyH.nil
              have ar : hk < gI ∧ hk < gC ∧ hk < gV ∧ gI ≠ gC ∧ gI ≠ gV ∧ gC ≠ gV := by
                have := Z0.out
                have := Z1.out
                have := Z4.out
                have := Z5.out
                omega
              have hfv : x5.heap[gV]? = some (.cells #[.slice none 0 0, .slice none 0 0, .int .i64 0, .int .i64 0, .int .i64 0, .slice none 0 0, .slice none 0 0, .slice none 0 0, .int .i64 0, .bool false] 35) := FV.out
              refine step_write (g := gV) (t := 35) (u0 := .slice none 0 0) (u1 := .slice none 0 0) (u2 := .int .i64 0) (u3 := .int .i64 0) (u4 := .int .i64 0) (u5 := .slice none 0 0) (u6 := .slice none 0 0) (u7 := .slice none 0 0) (u8 := .int .i64 0) (u9 := .bool false) (b0 := aa) (l0 := ks.length) (k0 := cap) (b1 := aw) (l1 := W.length) (k1 := cw) (n2 := half) (n3 := base) (n4 := next) (b5 := some ⟨gI, 0, none⟩) (l5 := 2) (k5 := 2) (b6 := some ⟨gC, 0, none⟩) (l6 := 1) (k6 := 1) (b7 := none) (l7 := 0) (k7 := 0) (n8 := 0) (n9 := each) rfl rfl (.tmp 10) (.tmp 24) rfl (by first | rfl | (simp [Act.eval, Act.put]; done)) (by first | rfl | (simp [Act.eval, Act.put]; done)) hfv ?_
              clear hfv
              intro x6 hv ho hz hbl
              have NX := hidv (leafI ar MM.out FI.out FC.out hv ho hz hbl)
              refine hK.out _ _ NX.out.1.cells (fun hS6 => ?_)
              clear hK K hv ho hz hbl ar
              refine wpAnyH_done (by kernel_rfl) ?_ _
              go_wp2_with fail
              go_meet
              exact ⟨gI, gC, gV, rfl, NX⟩
        · refine step_vm rfl rfl ?_
          intro gV x3 hg hb hblk hz
          have Z3 : Hid (x1.heap.size + 1 = x3.heap.size ∧ gV = x1.heap.size) := ⟨hz, hg⟩
          have FV : Hid (BlkV x3 gV #[.slice none 0 0, .slice none 0 0, .int .i64 0, .int .i64 0, .int .i64 0, .slice none 0 0, .slice none 0 0, .slice none 0 0, .int .i64 0, .bool false] 35) := hblk
          replace MM : Hid (MK w x3 hk lo0 aw W.length cw half base next (newF n).1) := MM.out.on hb
          replace FC := hidv (FC.out.on hb)
          refine hK.out _ _ MM.out.cells (fun hS3 => ?_)
          clear hK K hb hg hblk hz
          try simp only [Act.put, List.getElem_toArray, List.getElem_cons_succ, List.getElem_cons_zero, List.setIfInBounds_toArray, List.set_cons_zero, List.set_cons_succ]
          refine wpAnyH_ready (rs := [3]) (by kernel_rfl) (by simp) ?_
          refine AllReadyH.cons rfl (fun K hK => ?_) (AllReadyH.nil)
          · refine step_call rfl 44 entI _ _ rfl #[.int .i64 0] _ (intWord0 x3) (by first | rfl | (simp [Act.eval, Act.put]; done)) ?_
            rintro e x4 ⟨rfl, hx⟩
            refine ⟨_, rfl, ?_⟩
            subst x4
            refine hK.out _ _ MM.out.cells (fun hS4 => ?_)
            clear hK K
            try simp only [Act.put, List.getElem_toArray, List.getElem_cons_succ, List.getElem_cons_zero, List.setIfInBounds_toArray, List.set_cons_zero, List.set_cons_succ]
            refine wpAnyH_ready (rs := [4]) (by kernel_rfl) (by simp) ?_
            refine AllReadyH.cons rfl (fun K hK => ?_) (AllReadyH.nil)
            · refine step_words rfl (.tmp 18) (.tmp 19) rfl (by first | rfl | (simp [Act.eval, Act.put]; done)) (by first | rfl | (simp [Act.eval, Act.put]; done)) ?_
              intro gI x5 hg hb hblk hz
              have Z5 : Hid (x3.heap.size + 1 = x5.heap.size ∧ gI = x3.heap.size) := ⟨hz, hg⟩
              have FI : Hid (BlkV x5 gI #[.int .i64 1, .int .i64 1] 3) := hblk
              replace MM : Hid (MK w x5 hk lo0 aw W.length cw half base next (newF n).1) := MM.out.on hb
              replace FC := hidv (FC.out.on hb)
              replace FV := hidv (FV.out.on hb)
              refine hK.out _ _ MM.out.cells (fun hS5 => ?_)
              clear hK K hb hg hblk hz
              try simp only [Act.put, List.getElem_toArray, List.getElem_cons_succ, List.getElem_cons_zero, List.setIfInBounds_toArray, List.set_cons_zero, List.set_cons_succ]
              refine wpAnyH_take (i := 8) (v := .agg #[.slice aa ks.length cap, .slice aw W.length cw, .int .i64 half, .int .i64 base, .int .i64 next, .slice (some ⟨gI, 0, none⟩) 2 2, .slice (some ⟨gC, 0, none⟩) 1 1, .slice none 0 0, .int .i64 0, .bool each]) rfl (by kernel_rfl) (by kernel_rfl) (by kernel_rfl) (fun _ _ _ h => h) (Or.inl ⟨by kernel_rfl, ?_⟩) hS5 ?_
              · intro W' hSw
                obtain ⟨s0, s1, s2, s3⟩ := hSw
                go_simp
              try simp only [Act.put, List.getElem_toArray, List.getElem_cons_succ, List.getElem_cons_zero, List.setIfInBounds_toArray, List.set_cons_zero, List.set_cons_succ]
              refine wpAnyH_ready (rs := [10]) (by kernel_rfl) (by simp) ?_
              refine AllReadyH.cons rfl (fun K hK => ?_) AllReadyH.nil
              have ar : hk < gI ∧ hk < gC ∧ hk < gV ∧ gI ≠ gC ∧ gI ≠ gV ∧ gC ≠ gV := by
                have := Z0.out
                have := Z1.out
                have := Z3.out
                have := Z5.out
                omega
              have hfv : x5.heap[gV]? = some (.cells #[.slice none 0 0, .slice none 0 0, .int .i64 0, .int .i64 0, .int .i64 0, .slice none 0 0, .slice none 0 0, .slice none 0 0, .int .i64 0, .bool false] 35) := FV.out
              refine step_write (g := gV) (t := 35) (u0 := .slice none 0 0) (u1 := .slice none 0 0) (u2 := .int .i64 0) (u3 := .int .i64 0) (u4 := .int .i64 0) (u5 := .slice none 0 0) (u6 := .slice none 0 0) (u7 := .slice none 0 0) (u8 := .int .i64 0) (u9 := .bool false) (b0 := aa) (l0 := ks.length) (k0 := cap) (b1 := aw) (l1 := W.length) (k1 := cw) (n2 := half) (n3 := base) (n4 := next) (b5 := some ⟨gI, 0, none⟩) (l5 := 2) (k5 := 2) (b6 := some ⟨gC, 0, none⟩) (l6 := 1) (k6 := 1) (b7 := none) (l7 := 0) (k7 := 0) (n8 := 0) (n9 := each) rfl rfl (.tmp 10) (.tmp 24) rfl (by first | rfl | (simp [Act.eval, Act.put]; done)) (by first | rfl | (simp [Act.eval, Act.put]; done)) hfv ?_
              clear hfv
              intro x6 hv ho hz hbl
              have NX := hidv (leafI ar MM.out FI.out FC.out hv ho hz hbl)
              refine hK.out _ _ NX.out.1.cells (fun hS6 => ?_)
              clear hK K hv ho hz hbl ar
              refine wpAnyH_done (by kernel_rfl) ?_ _
              go_wp2_with fail
              go_meet
              exact ⟨gI, gC, gV, rfl, NX⟩
      · refine step_vm rfl rfl ?_
        intro gV x2 hg hb hblk hz
        have Z2 : Hid (x1.heap.size + 1 = x2.heap.size ∧ gV = x1.heap.size) := ⟨hz, hg⟩
        have FV : Hid (BlkV x2 gV #[.slice none 0 0, .slice none 0 0, .int .i64 0, .int .i64 0, .int .i64 0, .slice none 0 0, .slice none 0 0, .slice none 0 0, .int .i64 0, .bool false] 35) := hblk
        replace MM : Hid (MK w x2 hk lo0 aw W.length cw half base next (newF n).1) := MM.out.on hb
        replace FC := hidv (FC.out.on hb)
        refine hK.out _ _ MM.out.cells (fun hS2 => ?_)
        clear hK K hb hg hblk hz
        try simp only [Act.put, List.getElem_toArray, List.getElem_cons_succ, List.getElem_cons_zero, List.setIfInBounds_toArray, List.set_cons_zero, List.set_cons_succ]
        refine wpAnyH_ready (rs := [2]) (by kernel_rfl) (by simp) ?_
        refine AllReadyH.cons rfl (fun K hK => ?_) (AllReadyH.nil)
        · refine step_call rfl 44 entI _ _ rfl #[.int .i64 0] _ (intWord0 x2) (by first | rfl | (simp [Act.eval, Act.put]; done)) ?_
          rintro e x3 ⟨rfl, hx⟩
          refine ⟨_, rfl, ?_⟩
          subst x3
          refine hK.out _ _ MM.out.cells (fun hS3 => ?_)
          clear hK K
          try simp only [Act.put, List.getElem_toArray, List.getElem_cons_succ, List.getElem_cons_zero, List.setIfInBounds_toArray, List.set_cons_zero, List.set_cons_succ]
          refine wpAnyH_ready (rs := [3]) (by kernel_rfl) (by simp) ?_
          refine AllReadyH.cons rfl (fun K hK => ?_) (AllReadyH.nil)
          · refine step_call rfl 44 entI _ _ rfl #[.int .i64 0] _ (intWord0 x2) (by first | rfl | (simp [Act.eval, Act.put]; done)) ?_
            rintro e x4 ⟨rfl, hx⟩
            refine ⟨_, rfl, ?_⟩
            subst x4
            refine hK.out _ _ MM.out.cells (fun hS4 => ?_)
            clear hK K
            try simp only [Act.put, List.getElem_toArray, List.getElem_cons_succ, List.getElem_cons_zero, List.setIfInBounds_toArray, List.set_cons_zero, List.set_cons_succ]
            refine wpAnyH_ready (rs := [4]) (by kernel_rfl) (by simp) ?_
            refine AllReadyH.cons rfl (fun K hK => ?_) (AllReadyH.nil)
            · refine step_words rfl (.tmp 18) (.tmp 19) rfl (by first | rfl | (simp [Act.eval, Act.put]; done)) (by first | rfl | (simp [Act.eval, Act.put]; done)) ?_
              intro gI x5 hg hb hblk hz
              have Z5 : Hid (x2.heap.size + 1 = x5.heap.size ∧ gI = x2.heap.size) := ⟨hz, hg⟩
              have FI : Hid (BlkV x5 gI #[.int .i64 1, .int .i64 1] 3) := hblk
              replace MM : Hid (MK w x5 hk lo0 aw W.length cw half base next (newF n).1) := MM.out.on hb
              replace FC := hidv (FC.out.on hb)
              replace FV := hidv (FV.out.on hb)
              refine hK.out _ _ MM.out.cells (fun hS5 => ?_)
              clear hK K hb hg hblk hz
              try simp only [Act.put, List.getElem_toArray, List.getElem_cons_succ, List.getElem_cons_zero, List.setIfInBounds_toArray, List.set_cons_zero, List.set_cons_succ]
              refine wpAnyH_take (i := 8) (v := .agg #[.slice aa ks.length cap, .slice aw W.length cw, .int .i64 half, .int .i64 base, .int .i64 next, .slice (some ⟨gI, 0, none⟩) 2 2, .slice (some ⟨gC, 0, none⟩) 1 1, .slice none 0 0, .int .i64 0, .bool each]) rfl (by kernel_rfl) (by kernel_rfl) (by kernel_rfl) (fun _ _ _ h => h) (Or.inl ⟨by kernel_rfl, ?_⟩) hS5 ?_
              · intro W' hSw
                obtain ⟨s0, s1, s2, s3⟩ := hSw
                go_simp
              try simp only [Act.put, List.getElem_toArray, List.getElem_cons_succ, List.getElem_cons_zero, List.setIfInBounds_toArray, List.set_cons_zero, List.set_cons_succ]
              refine wpAnyH_ready (rs := [10]) (by kernel_rfl) (by simp) ?_
              refine AllReadyH.cons rfl (fun K hK => ?_) AllReadyH.nil
              have ar : hk < gI ∧ hk < gC ∧ hk < gV ∧ gI ≠ gC ∧ gI ≠ gV ∧ gC ≠ gV := by
                have := Z0.out
                have := Z1.out
                have := Z2.out
                have := Z5.out
                omega
              have hfv : x5.heap[gV]? = some (.cells #[.slice none 0 0, .slice none 0 0, .int .i64 0, .int .i64 0, .int .i64 0, .slice none 0 0, .slice none 0 0, .slice none 0 0, .int .i64 0, .bool false] 35) := FV.out
              refine step_write (g := gV) (t := 35) (u0 := .slice none 0 0) (u1 := .slice none 0 0) (u2 := .int .i64 0) (u3 := .int .i64 0) (u4 := .int .i64 0) (u5 := .slice none 0 0) (u6 := .slice none 0 0) (u7 := .slice none 0 0) (u8 := .int .i64 0) (u9 := .bool false) (b0 := aa) (l0 := ks.length) (k0 := cap) (b1 := aw) (l1 := W.length) (k1 := cw) (n2 := half) (n3 := base) (n4 := next) (b5 := some ⟨gI, 0, none⟩) (l5 := 2) (k5 := 2) (b6 := some ⟨gC, 0, none⟩) (l6 := 1) (k6 := 1) (b7 := none) (l7 := 0) (k7 := 0) (n8 := 0) (n9 := each) rfl rfl (.tmp 10) (.tmp 24) rfl (by first | rfl | (simp [Act.eval, Act.put]; done)) (by first | rfl | (simp [Act.eval, Act.put]; done)) hfv ?_
              clear hfv
              intro x6 hv ho hz hbl
              have NX := hidv (leafI ar MM.out FI.out FC.out hv ho hz hbl)
              refine hK.out _ _ NX.out.1.cells (fun hS6 => ?_)
              clear hK K hv ho hz hbl ar
              refine wpAnyH_done (by kernel_rfl) ?_ _
              go_wp2_with fail
              go_meet
              exact ⟨gI, gC, gV, rfl, NX⟩
    · refine step_vm rfl rfl ?_
      intro gV x1 hg hb hblk hz
      have Z1 : Hid (x0.heap.size + 1 = x1.heap.size ∧ gV = x0.heap.size) := ⟨hz, hg⟩
      have FV : Hid (BlkV x1 gV #[.slice none 0 0, .slice none 0 0, .int .i64 0, .int .i64 0, .int .i64 0, .slice none 0 0, .slice none 0 0, .slice none 0 0, .int .i64 0, .bool false] 35) := hblk
      replace MM : Hid (MK w x1 hk lo0 aw W.length cw half base next (newF n).1) := MM.out.on hb
      refine hK.out _ _ MM.out.cells (fun hS1 => ?_)
      clear hK K hb hg hblk hz
      try simp only [Act.put, List.getElem_toArray, List.getElem_cons_succ, List.getElem_cons_zero, List.setIfInBounds_toArray, List.set_cons_zero, List.set_cons_succ]
      refine wpAnyH_ready (rs := [2, 6]) (by kernel_rfl) (by simp) ?_
      refine AllReadyH.cons rfl (fun K hK => ?_) (AllReadyH.cons rfl (fun K hK => ?_) (AllReadyH.nil))
      · refine step_call rfl 44 entI _ _ rfl #[.int .i64 0] _ (intWord0 x1) (by first | rfl | (simp [Act.eval, Act.put]; done)) ?_
        rintro e x2 ⟨rfl, hx⟩
        refine ⟨_, rfl, ?_⟩
        subst x2
        refine hK.out _ _ MM.out.cells (fun hS2 => ?_)
        clear hK K
        try simp only [Act.put, List.getElem_toArray, List.getElem_cons_succ, List.getElem_cons_zero, List.setIfInBounds_toArray, List.set_cons_zero, List.set_cons_succ]
        refine wpAnyH_ready (rs := [3, 6]) (by kernel_rfl) (by simp) ?_
        refine AllReadyH.cons rfl (fun K hK => ?_) (AllReadyH.cons rfl (fun K hK => ?_) (AllReadyH.nil))
        · refine step_call rfl 44 entI _ _ rfl #[.int .i64 0] _ (intWord0 x1) (by first | rfl | (simp [Act.eval, Act.put]; done)) ?_
          rintro e x3 ⟨rfl, hx⟩
          refine ⟨_, rfl, ?_⟩
          subst x3
          refine hK.out _ _ MM.out.cells (fun hS3 => ?_)
          clear hK K
          try simp only [Act.put, List.getElem_toArray, List.getElem_cons_succ, List.getElem_cons_zero, List.setIfInBounds_toArray, List.set_cons_zero, List.set_cons_succ]
          refine wpAnyH_ready (rs := [4, 6]) (by kernel_rfl) (by simp) ?_
          refine AllReadyH.cons rfl (fun K hK => ?_) (AllReadyH.cons rfl (fun K hK => ?_) (AllReadyH.nil))
          · refine step_words rfl (.tmp 18) (.tmp 19) rfl (by first | rfl | (simp [Act.eval, Act.put]; done)) (by first | rfl | (simp [Act.eval, Act.put]; done)) ?_
            intro gI x4 hg hb hblk hz
            have Z4 : Hid (x1.heap.size + 1 = x4.heap.size ∧ gI = x1.heap.size) := ⟨hz, hg⟩
            have FI : Hid (BlkV x4 gI #[.int .i64 1, .int .i64 1] 3) := hblk
            replace MM : Hid (MK w x4 hk lo0 aw W.length cw half base next (newF n).1) := MM.out.on hb
            replace FV := hidv (FV.out.on hb)
            refine hK.out _ _ MM.out.cells (fun hS4 => ?_)
            clear hK K hb hg hblk hz
            try simp only [Act.put, List.getElem_toArray, List.getElem_cons_succ, List.getElem_cons_zero, List.setIfInBounds_toArray, List.set_cons_zero, List.set_cons_succ]
            refine wpAnyH_ready (rs := [6]) (by kernel_rfl) (by simp) ?_
            refine AllReadyH.cons rfl (fun K hK => ?_) (AllReadyH.nil)
            · refine step_calls1 rfl (.tmp 21) rfl (by first | rfl | (simp [Act.eval, Act.put]; done)) ?_
              intro gC x5 hg hb hblk hz
              have Z5 : Hid (x4.heap.size + 1 = x5.heap.size ∧ gC = x4.heap.size) := ⟨hz, hg⟩
              have FC : Hid (BlkV x5 gC #[.int .i64 0, .int .i64 0, .int .i64 1] 57) := hblk
              replace MM : Hid (MK w x5 hk lo0 aw W.length cw half base next (newF n).1) := MM.out.on hb
              replace FV := hidv (FV.out.on hb)
              replace FI := hidv (FI.out.on hb)
              refine hK.out _ _ MM.out.cells (fun hS5 => ?_)
              clear hK K hb hg hblk hz
              try simp only [Act.put, List.getElem_toArray, List.getElem_cons_succ, List.getElem_cons_zero, List.setIfInBounds_toArray, List.set_cons_zero, List.set_cons_succ]
              refine wpAnyH_take (i := 8) (v := .agg #[.slice aa ks.length cap, .slice aw W.length cw, .int .i64 half, .int .i64 base, .int .i64 next, .slice (some ⟨gI, 0, none⟩) 2 2, .slice (some ⟨gC, 0, none⟩) 1 1, .slice none 0 0, .int .i64 0, .bool each]) rfl (by kernel_rfl) (by kernel_rfl) (by kernel_rfl) (fun _ _ _ h => h) (Or.inl ⟨by kernel_rfl, ?_⟩) hS5 ?_
              · intro W' hSw
                obtain ⟨s0, s1, s2, s3⟩ := hSw
                go_simp
              try simp only [Act.put, List.getElem_toArray, List.getElem_cons_succ, List.getElem_cons_zero, List.setIfInBounds_toArray, List.set_cons_zero, List.set_cons_succ]
              refine wpAnyH_ready (rs := [10]) (by kernel_rfl) (by simp) ?_
              refine AllReadyH.cons rfl (fun K hK => ?_) AllReadyH.nil
              have ar : hk < gI ∧ hk < gC ∧ hk < gV ∧ gI ≠ gC ∧ gI ≠ gV ∧ gC ≠ gV := by
                have := Z0.out
                have := Z1.out
                have := Z4.out
                have := Z5.out
                omega
              have hfv : x5.heap[gV]? = some (.cells #[.slice none 0 0, .slice none 0 0, .int .i64 0, .int .i64 0, .int .i64 0, .slice none 0 0, .slice none 0 0, .slice none 0 0, .int .i64 0, .bool false] 35) := FV.out
              refine step_write (g := gV) (t := 35) (u0 := .slice none 0 0) (u1 := .slice none 0 0) (u2 := .int .i64 0) (u3 := .int .i64 0) (u4 := .int .i64 0) (u5 := .slice none 0 0) (u6 := .slice none 0 0) (u7 := .slice none 0 0) (u8 := .int .i64 0) (u9 := .bool false) (b0 := aa) (l0 := ks.length) (k0 := cap) (b1 := aw) (l1 := W.length) (k1 := cw) (n2 := half) (n3 := base) (n4 := next) (b5 := some ⟨gI, 0, none⟩) (l5 := 2) (k5 := 2) (b6 := some ⟨gC, 0, none⟩) (l6 := 1) (k6 := 1) (b7 := none) (l7 := 0) (k7 := 0) (n8 := 0) (n9 := each) rfl rfl (.tmp 10) (.tmp 24) rfl (by first | rfl | (simp [Act.eval, Act.put]; done)) (by first | rfl | (simp [Act.eval, Act.put]; done)) hfv ?_
              clear hfv
              intro x6 hv ho hz hbl
              have NX := hidv (leafI ar MM.out FI.out FC.out hv ho hz hbl)
              refine hK.out _ _ NX.out.1.cells (fun hS6 => ?_)
              clear hK K hv ho hz hbl ar
              refine wpAnyH_done (by kernel_rfl) ?_ _
              go_wp2_with fail
              go_meet
              exact ⟨gI, gC, gV, rfl, NX⟩
          · refine step_calls1 rfl (.tmp 21) rfl (by first | rfl | (simp [Act.eval, Act.put]; done)) ?_
            intro gC x4 hg hb hblk hz
            have Z4 : Hid (x1.heap.size + 1 = x4.heap.size ∧ gC = x1.heap.size) := ⟨hz, hg⟩
            have FC : Hid (BlkV x4 gC #[.int .i64 0, .int .i64 0, .int .i64 1] 57) := hblk
            replace MM : Hid (MK w x4 hk lo0 aw W.length cw half base next (newF n).1) := MM.out.on hb
            replace FV := hidv (FV.out.on hb)
            refine hK.out _ _ MM.out.cells (fun hS4 => ?_)
            clear hK K hb hg hblk hz
            try simp only [Act.put, List.getElem_toArray, List.getElem_cons_succ, List.getElem_cons_zero, List.setIfInBounds_toArray, List.set_cons_zero, List.set_cons_succ]
            refine wpAnyH_ready (rs := [4]) (by kernel_rfl) (by simp) ?_
            refine AllReadyH.cons rfl (fun K hK => ?_) (AllReadyH.nil)
            · refine step_words rfl (.tmp 18) (.tmp 19) rfl (by first | rfl | (simp [Act.eval, Act.put]; done)) (by first | rfl | (simp [Act.eval, Act.put]; done)) ?_
              intro gI x5 hg hb hblk hz
              have Z5 : Hid (x4.heap.size + 1 = x5.heap.size ∧ gI = x4.heap.size) := ⟨hz, hg⟩
              have FI : Hid (BlkV x5 gI #[.int .i64 1, .int .i64 1] 3) := hblk
              replace MM : Hid (MK w x5 hk lo0 aw W.length cw half base next (newF n).1) := MM.out.on hb
              replace FV := hidv (FV.out.on hb)
              replace FC := hidv (FC.out.on hb)
              refine hK.out _ _ MM.out.cells (fun hS5 => ?_)
              clear hK K hb hg hblk hz
              try simp only [Act.put, List.getElem_toArray, List.getElem_cons_succ, List.getElem_cons_zero, List.setIfInBounds_toArray, List.set_cons_zero, List.set_cons_succ]
              refine wpAnyH_take (i := 8) (v := .agg #[.slice aa ks.length cap, .slice aw W.length cw, .int .i64 half, .int .i64 base, .int .i64 next, .slice (some ⟨gI, 0, none⟩) 2 2, .slice (some ⟨gC, 0, none⟩) 1 1, .slice none 0 0, .int .i64 0, .bool each]) rfl (by kernel_rfl) (by kernel_rfl) (by kernel_rfl) (fun _ _ _ h => h) (Or.inl ⟨by kernel_rfl, ?_⟩) hS5 ?_
              · intro W' hSw
                obtain ⟨s0, s1, s2, s3⟩ := hSw
                go_simp
              try simp only [Act.put, List.getElem_toArray, List.getElem_cons_succ, List.getElem_cons_zero, List.setIfInBounds_toArray, List.set_cons_zero, List.set_cons_succ]
              refine wpAnyH_ready (rs := [10]) (by kernel_rfl) (by simp) ?_
              refine AllReadyH.cons rfl (fun K hK => ?_) AllReadyH.nil
              have ar : hk < gI ∧ hk < gC ∧ hk < gV ∧ gI ≠ gC ∧ gI ≠ gV ∧ gC ≠ gV := by
                have := Z0.out
                have := Z1.out
                have := Z4.out
                have := Z5.out
                omega
              have hfv : x5.heap[gV]? = some (.cells #[.slice none 0 0, .slice none 0 0, .int .i64 0, .int .i64 0, .int .i64 0, .slice none 0 0, .slice none 0 0, .slice none 0 0, .int .i64 0, .bool false] 35) := FV.out
              refine step_write (g := gV) (t := 35) (u0 := .slice none 0 0) (u1 := .slice none 0 0) (u2 := .int .i64 0) (u3 := .int .i64 0) (u4 := .int .i64 0) (u5 := .slice none 0 0) (u6 := .slice none 0 0) (u7 := .slice none 0 0) (u8 := .int .i64 0) (u9 := .bool false) (b0 := aa) (l0 := ks.length) (k0 := cap) (b1 := aw) (l1 := W.length) (k1 := cw) (n2 := half) (n3 := base) (n4 := next) (b5 := some ⟨gI, 0, none⟩) (l5 := 2) (k5 := 2) (b6 := some ⟨gC, 0, none⟩) (l6 := 1) (k6 := 1) (b7 := none) (l7 := 0) (k7 := 0) (n8 := 0) (n9 := each) rfl rfl (.tmp 10) (.tmp 24) rfl (by first | rfl | (simp [Act.eval, Act.put]; done)) (by first | rfl | (simp [Act.eval, Act.put]; done)) hfv ?_
              clear hfv
              intro x6 hv ho hz hbl
              have NX := hidv (leafI ar MM.out FI.out FC.out hv ho hz hbl)
              refine hK.out _ _ NX.out.1.cells (fun hS6 => ?_)
              clear hK K hv ho hz hbl ar
              refine wpAnyH_done (by kernel_rfl) ?_ _
              go_wp2_with fail
              go_meet
              exact ⟨gI, gC, gV, rfl, NX⟩
        · refine step_calls1 rfl (.tmp 21) rfl (by first | rfl | (simp [Act.eval, Act.put]; done)) ?_
          intro gC x3 hg hb hblk hz
          have Z3 : Hid (x1.heap.size + 1 = x3.heap.size ∧ gC = x1.heap.size) := ⟨hz, hg⟩
          have FC : Hid (BlkV x3 gC #[.int .i64 0, .int .i64 0, .int .i64 1] 57) := hblk
          replace MM : Hid (MK w x3 hk lo0 aw W.length cw half base next (newF n).1) := MM.out.on hb
          replace FV := hidv (FV.out.on hb)
          refine hK.out _ _ MM.out.cells (fun hS3 => ?_)
          clear hK K hb hg hblk hz
          try simp only [Act.put, List.getElem_toArray, List.getElem_cons_succ, List.getElem_cons_zero, List.setIfInBounds_toArray, List.set_cons_zero, List.set_cons_succ]
          refine wpAnyH_ready (rs := [3]) (by kernel_rfl) (by simp) ?_
          refine AllReadyH.cons rfl (fun K hK => ?_) (AllReadyH.nil)
          · refine step_call rfl 44 entI _ _ rfl #[.int .i64 0] _ (intWord0 x3) (by first | rfl | (simp [Act.eval, Act.put]; done)) ?_
            rintro e x4 ⟨rfl, hx⟩
            refine ⟨_, rfl, ?_⟩
            subst x4
            refine hK.out _ _ MM.out.cells (fun hS4 => ?_)
            clear hK K
            try simp only [Act.put, List.getElem_toArray, List.getElem_cons_succ, List.getElem_cons_zero, List.setIfInBounds_toArray, List.set_cons_zero, List.set_cons_succ]
            refine wpAnyH_ready (rs := [4]) (by kernel_rfl) (by simp) ?_
            refine AllReadyH.cons rfl (fun K hK => ?_) (AllReadyH.nil)
            · refine step_words rfl (.tmp 18) (.tmp 19) rfl (by first | rfl | (simp [Act.eval, Act.put]; done)) (by first | rfl | (simp [Act.eval, Act.put]; done)) ?_
              intro gI x5 hg hb hblk hz
              have Z5 : Hid (x3.heap.size + 1 = x5.heap.size ∧ gI = x3.heap.size) := ⟨hz, hg⟩
              have FI : Hid (BlkV x5 gI #[.int .i64 1, .int .i64 1] 3) := hblk
              replace MM : Hid (MK w x5 hk lo0 aw W.length cw half base next (newF n).1) := MM.out.on hb
              replace FV := hidv (FV.out.on hb)
              replace FC := hidv (FC.out.on hb)
              refine hK.out _ _ MM.out.cells (fun hS5 => ?_)
              clear hK K hb hg hblk hz
              try simp only [Act.put, List.getElem_toArray, List.getElem_cons_succ, List.getElem_cons_zero, List.setIfInBounds_toArray, List.set_cons_zero, List.set_cons_succ]
              refine wpAnyH_take (i := 8) (v := .agg #[.slice aa ks.length cap, .slice aw W.length cw, .int .i64 half, .int .i64 base, .int .i64 next, .slice (some ⟨gI, 0, none⟩) 2 2, .slice (some ⟨gC, 0, none⟩) 1 1, .slice none 0 0, .int .i64 0, .bool each]) rfl (by kernel_rfl) (by kernel_rfl) (by kernel_rfl) (fun _ _ _ h => h) (Or.inl ⟨by kernel_rfl, ?_⟩) hS5 ?_
              · intro W' hSw
                obtain ⟨s0, s1, s2, s3⟩ := hSw
                go_simp
              try simp only [Act.put, List.getElem_toArray, List.getElem_cons_succ, List.getElem_cons_zero, List.setIfInBounds_toArray, List.set_cons_zero, List.set_cons_succ]
              refine wpAnyH_ready (rs := [10]) (by kernel_rfl) (by simp) ?_
              refine AllReadyH.cons rfl (fun K hK => ?_) AllReadyH.nil
              have ar : hk < gI ∧ hk < gC ∧ hk < gV ∧ gI ≠ gC ∧ gI ≠ gV ∧ gC ≠ gV := by
                have := Z0.out
                have := Z1.out
                have := Z3.out
                have := Z5.out
                omega
              have hfv : x5.heap[gV]? = some (.cells #[.slice none 0 0, .slice none 0 0, .int .i64 0, .int .i64 0, .int .i64 0, .slice none 0 0, .slice none 0 0, .slice none 0 0, .int .i64 0, .bool false] 35) := FV.out
              refine step_write (g := gV) (t := 35) (u0 := .slice none 0 0) (u1 := .slice none 0 0) (u2 := .int .i64 0) (u3 := .int .i64 0) (u4 := .int .i64 0) (u5 := .slice none 0 0) (u6 := .slice none 0 0) (u7 := .slice none 0 0) (u8 := .int .i64 0) (u9 := .bool false) (b0 := aa) (l0 := ks.length) (k0 := cap) (b1 := aw) (l1 := W.length) (k1 := cw) (n2 := half) (n3 := base) (n4 := next) (b5 := some ⟨gI, 0, none⟩) (l5 := 2) (k5 := 2) (b6 := some ⟨gC, 0, none⟩) (l6 := 1) (k6 := 1) (b7 := none) (l7 := 0) (k7 := 0) (n8 := 0) (n9 := each) rfl rfl (.tmp 10) (.tmp 24) rfl (by first | rfl | (simp [Act.eval, Act.put]; done)) (by first | rfl | (simp [Act.eval, Act.put]; done)) hfv ?_
              clear hfv
              intro x6 hv ho hz hbl
              have NX := hidv (leafI ar MM.out FI.out FC.out hv ho hz hbl)
              refine hK.out _ _ NX.out.1.cells (fun hS6 => ?_)
              clear hK K hv ho hz hbl ar
              refine wpAnyH_done (by kernel_rfl) ?_ _
              go_wp2_with fail
              go_meet
              exact ⟨gI, gC, gV, rfl, NX⟩
      · refine step_calls1 rfl (.tmp 21) rfl (by first | rfl | (simp [Act.eval, Act.put]; done)) ?_
        intro gC x2 hg hb hblk hz
        have Z2 : Hid (x1.heap.size + 1 = x2.heap.size ∧ gC = x1.heap.size) := ⟨hz, hg⟩
        have FC : Hid (BlkV x2 gC #[.int .i64 0, .int .i64 0, .int .i64 1] 57) := hblk
        replace MM : Hid (MK w x2 hk lo0 aw W.length cw half base next (newF n).1) := MM.out.on hb
        replace FV := hidv (FV.out.on hb)
        refine hK.out _ _ MM.out.cells (fun hS2 => ?_)
        clear hK K hb hg hblk hz
        try simp only [Act.put, List.getElem_toArray, List.getElem_cons_succ, List.getElem_cons_zero, List.setIfInBounds_toArray, List.set_cons_zero, List.set_cons_succ]
        refine wpAnyH_ready (rs := [2]) (by kernel_rfl) (by simp) ?_
        refine AllReadyH.cons rfl (fun K hK => ?_) (AllReadyH.nil)
        · refine step_call rfl 44 entI _ _ rfl #[.int .i64 0] _ (intWord0 x2) (by first | rfl | (simp [Act.eval, Act.put]; done)) ?_
          rintro e x3 ⟨rfl, hx⟩
          refine ⟨_, rfl, ?_⟩
          subst x3
          refine hK.out _ _ MM.out.cells (fun hS3 => ?_)
          clear hK K
          try simp only [Act.put, List.getElem_toArray, List.getElem_cons_succ, List.getElem_cons_zero, List.setIfInBounds_toArray, List.set_cons_zero, List.set_cons_succ]
          refine wpAnyH_ready (rs := [3]) (by kernel_rfl) (by simp) ?_
          refine AllReadyH.cons rfl (fun K hK => ?_) (AllReadyH.nil)
          · refine step_call rfl 44 entI _ _ rfl #[.int .i64 0] _ (intWord0 x2) (by first | rfl | (simp [Act.eval, Act.put]; done)) ?_
            rintro e x4 ⟨rfl, hx⟩
            refine ⟨_, rfl, ?_⟩
            subst x4
            refine hK.out _ _ MM.out.cells (fun hS4 => ?_)
            clear hK K
            try simp only [Act.put, List.getElem_toArray, List.getElem_cons_succ, List.getElem_cons_zero, List.setIfInBounds_toArray, List.set_cons_zero, List.set_cons_succ]
            refine wpAnyH_ready (rs := [4]) (by kernel_rfl) (by simp) ?_
            refine AllReadyH.cons rfl (fun K hK => ?_) (AllReadyH.nil)
            · refine step_words rfl (.tmp 18) (.tmp 19) rfl (by first | rfl | (simp [Act.eval, Act.put]; done)) (by first | rfl | (simp [Act.eval, Act.put]; done)) ?_
              intro gI x5 hg hb hblk hz
              have Z5 : Hid (x2.heap.size + 1 = x5.heap.size ∧ gI = x2.heap.size) := ⟨hz, hg⟩
              have FI : Hid (BlkV x5 gI #[.int .i64 1, .int .i64 1] 3) := hblk
              replace MM : Hid (MK w x5 hk lo0 aw W.length cw half base next (newF n).1) := MM.out.on hb
              replace FV := hidv (FV.out.on hb)
              replace FC := hidv (FC.out.on hb)
              refine hK.out _ _ MM.out.cells (fun hS5 => ?_)
              clear hK K hb hg hblk hz
              try simp only [Act.put, List.getElem_toArray, List.getElem_cons_succ, List.getElem_cons_zero, List.setIfInBounds_toArray, List.set_cons_zero, List.set_cons_succ]
              refine wpAnyH_take (i := 8) (v := .agg #[.slice aa ks.length cap, .slice aw W.length cw, .int .i64 half, .int .i64 base, .int .i64 next, .slice (some ⟨gI, 0, none⟩) 2 2, .slice (some ⟨gC, 0, none⟩) 1 1, .slice none 0 0, .int .i64 0, .bool each]) rfl (by kernel_rfl) (by kernel_rfl) (by kernel_rfl) (fun _ _ _ h => h) (Or.inl ⟨by kernel_rfl, ?_⟩) hS5 ?_
              · intro W' hSw
                obtain ⟨s0, s1, s2, s3⟩ := hSw
                go_simp
              try simp only [Act.put, List.getElem_toArray, List.getElem_cons_succ, List.getElem_cons_zero, List.setIfInBounds_toArray, List.set_cons_zero, List.set_cons_succ]
              refine wpAnyH_ready (rs := [10]) (by kernel_rfl) (by simp) ?_
              refine AllReadyH.cons rfl (fun K hK => ?_) AllReadyH.nil
              have ar : hk < gI ∧ hk < gC ∧ hk < gV ∧ gI ≠ gC ∧ gI ≠ gV ∧ gC ≠ gV := by
                have := Z0.out
                have := Z1.out
                have := Z2.out
                have := Z5.out
                omega
              have hfv : x5.heap[gV]? = some (.cells #[.slice none 0 0, .slice none 0 0, .int .i64 0, .int .i64 0, .int .i64 0, .slice none 0 0, .slice none 0 0, .slice none 0 0, .int .i64 0, .bool false] 35) := FV.out
              refine step_write (g := gV) (t := 35) (u0 := .slice none 0 0) (u1 := .slice none 0 0) (u2 := .int .i64 0) (u3 := .int .i64 0) (u4 := .int .i64 0) (u5 := .slice none 0 0) (u6 := .slice none 0 0) (u7 := .slice none 0 0) (u8 := .int .i64 0) (u9 := .bool false) (b0 := aa) (l0 := ks.length) (k0 := cap) (b1 := aw) (l1 := W.length) (k1 := cw) (n2 := half) (n3 := base) (n4 := next) (b5 := some ⟨gI, 0, none⟩) (l5 := 2) (k5 := 2) (b6 := some ⟨gC, 0, none⟩) (l6 := 1) (k6 := 1) (b7 := none) (l7 := 0) (k7 := 0) (n8 := 0) (n9 := each) rfl rfl (.tmp 10) (.tmp 24) rfl (by first | rfl | (simp [Act.eval, Act.put]; done)) (by first | rfl | (simp [Act.eval, Act.put]; done)) hfv ?_
              clear hfv
              intro x6 hv ho hz hbl
              have NX := hidv (leafI ar MM.out FI.out FC.out hv ho hz hbl)
              refine hK.out _ _ NX.out.1.cells (fun hS6 => ?_)
              clear hK K hv ho hz hbl ar
              refine wpAnyH_done (by kernel_rfl) ?_ _
              go_wp2_with fail
              go_meet
              exact ⟨gI, gC, gV, rfl, NX⟩
  case rest =>
    obtain ⟨gI, gC, gV, rfl, MD⟩ := hcut
    clear M1
    rename World => xf
    have hv := implVerifyAll ks (.slice aa ks.length cap) xf HW.out (NS.out.on MD.out.1.bb) (AT.out _ MD.out.1.bb)
    go_wp2_with fail
    refine hv.mono ?_
    rintro e w3 ⟨rfl, hb3⟩
    have MD3 := hidv (MD.out.on hb3)
    clear hv hb3 MD
    rcases q2 : (ks.isEmpty || verifyF ks) with _ | _
    · have HF : Hid (r = (zeroM, false)) := by show _ = _; rw [HR.out]; exact noI q2
      have z0 : w3.cell? ⟨w.heap.size, 0, none⟩ = some (.slice none 0 0) := by simp [World.cell?, MD3.out.1.hr]
      have z1 : w3.cell? ⟨w.heap.size, 1, none⟩ = some (.slice none 0 0) := by simp [World.cell?, MD3.out.1.hr]
      have z2 : w3.cell? ⟨w.heap.size, 2, none⟩ = some (.int .i64 0) := by simp [World.cell?, MD3.out.1.hr]
      have z3 : w3.cell? ⟨w.heap.size, 3, none⟩ = some (.int .i64 0) := by simp [World.cell?, MD3.out.1.hr]
      have z4 : w3.cell? ⟨w.heap.size, 4, none⟩ = some (.int .i64 0) := by simp [World.cell?, MD3.out.1.hr]
      have z5 : w3.cell? ⟨w.heap.size, 5, none⟩ = some (.slice none 0 0) := by simp [World.cell?, MD3.out.1.hr]
      have z6 : w3.cell? ⟨w.heap.size, 6, none⟩ = some (.slice none 0 0) := by simp [World.cell?, MD3.out.1.hr]
      have z7 : w3.cell? ⟨w.heap.size, 7, none⟩ = some (.slice none 0 0) := by simp [World.cell?, MD3.out.1.hr]
      have z8 : w3.cell? ⟨w.heap.size, 8, none⟩ = some (.int .i64 0) := by simp [World.cell?, MD3.out.1.hr]
      have z9 : w3.cell? ⟨w.heap.size, 9, none⟩ = some (.bool false) := by simp [World.cell?, MD3.out.1.hr]
      have zf : ∀ j, w3.frozen? ⟨w.heap.size, j, none⟩ = false := fun j => by simp [World.frozen?, MD3.out.1.hr]
      go_wp2
      refine bodyPost_ret (v := .tuple #[.agg #[.slice none 0 0, .slice none 0 0, .int .i64 0, .int .i64 0, .int .i64 0, .slice none 0 0, .slice none 0 0, .slice none 0 0, .int .i64 0, .bool false], .bool false]) (by simp [results, Tryz.f13, go_sem, z0, z1, z2, z3, z4, z5, z6, z7, z8, z9]) rfl ?_
      rw [HF.out]
      refine ⟨⟨[.slice none 0 0, .slice none 0 0, .int .i64 0, .int .i64 0, .int .i64 0, .slice none 0 0, .slice none 0 0, .slice none 0 0, .int .i64 0, .bool false], rfl, zero_rep⟩, ?_⟩
      have ZL := MD3.out.1.bb
      repeat first | with_reducible exact ZL | (refine Below.setCell ?_ (by exact Nat.le_refl _) _)
    · have Q2 := hidv q2
      clear q2
      have hc3 := implVmOk (newM ks n each) _ w3 HW.out (show (2 : Nat) ≤ 1048576 by decide) (NS.out.on MD3.out.1.bb) (MD3.out.sh (AT.out _ MD3.out.1.bb))
      have y0 : w3.cell? ⟨gV, 0, none⟩ = some (.slice aa ks.length cap) := by simp [World.cell?, show w3.heap[gV]? = _ from MD3.out.2.2.2.1]
      have y1 : w3.cell? ⟨gV, 1, none⟩ = some (.slice aw W.length cw) := by simp [World.cell?, show w3.heap[gV]? = _ from MD3.out.2.2.2.1]
      have y2 : w3.cell? ⟨gV, 2, none⟩ = some (.int .i64 half) := by simp [World.cell?, show w3.heap[gV]? = _ from MD3.out.2.2.2.1]
      have y3 : w3.cell? ⟨gV, 3, none⟩ = some (.int .i64 base) := by simp [World.cell?, show w3.heap[gV]? = _ from MD3.out.2.2.2.1]
      have y4 : w3.cell? ⟨gV, 4, none⟩ = some (.int .i64 next) := by simp [World.cell?, show w3.heap[gV]? = _ from MD3.out.2.2.2.1]
      have y5 : w3.cell? ⟨gV, 5, none⟩ = some (.slice (some ⟨gI, 0, none⟩) 2 2) := by simp [World.cell?, show w3.heap[gV]? = _ from MD3.out.2.2.2.1]
      have y6 : w3.cell? ⟨gV, 6, none⟩ = some (.slice (some ⟨gC, 0, none⟩) 1 1) := by simp [World.cell?, show w3.heap[gV]? = _ from MD3.out.2.2.2.1]
      have y7 : w3.cell? ⟨gV, 7, none⟩ = some (.slice none 0 0) := by simp [World.cell?, show w3.heap[gV]? = _ from MD3.out.2.2.2.1]
      have y8 : w3.cell? ⟨gV, 8, none⟩ = some (.int .i64 0) := by simp [World.cell?, show w3.heap[gV]? = _ from MD3.out.2.2.2.1]
      have y9 : w3.cell? ⟨gV, 9, none⟩ = some (.bool each) := by simp [World.cell?, show w3.heap[gV]? = _ from MD3.out.2.2.2.1]
      go_wp2_with fail
      refine hc3.mono ?_
      rintro e w9 ⟨rfl, hb9⟩
      have MD9 := hidv (MD3.out.on hb9)
      clear hc3 hb9 MD3 y0 y1 y2 y3 y4 y5 y6 y7 y8 y9
      rcases q3 : vmB (newM ks n each) with _ | _
      · have HF : Hid (r = (zeroM, false)) := by show _ = _; rw [HR.out]; exact new_no3 q3
        have z0 : w9.cell? ⟨w.heap.size, 0, none⟩ = some (.slice none 0 0) := by simp [World.cell?, MD9.out.1.hr]
        have z1 : w9.cell? ⟨w.heap.size, 1, none⟩ = some (.slice none 0 0) := by simp [World.cell?, MD9.out.1.hr]
        have z2 : w9.cell? ⟨w.heap.size, 2, none⟩ = some (.int .i64 0) := by simp [World.cell?, MD9.out.1.hr]
        have z3 : w9.cell? ⟨w.heap.size, 3, none⟩ = some (.int .i64 0) := by simp [World.cell?, MD9.out.1.hr]
        have z4 : w9.cell? ⟨w.heap.size, 4, none⟩ = some (.int .i64 0) := by simp [World.cell?, MD9.out.1.hr]
        have z5 : w9.cell? ⟨w.heap.size, 5, none⟩ = some (.slice none 0 0) := by simp [World.cell?, MD9.out.1.hr]
        have z6 : w9.cell? ⟨w.heap.size, 6, none⟩ = some (.slice none 0 0) := by simp [World.cell?, MD9.out.1.hr]
        have z7 : w9.cell? ⟨w.heap.size, 7, none⟩ = some (.slice none 0 0) := by simp [World.cell?, MD9.out.1.hr]
        have z8 : w9.cell? ⟨w.heap.size, 8, none⟩ = some (.int .i64 0) := by simp [World.cell?, MD9.out.1.hr]
        have z9 : w9.cell? ⟨w.heap.size, 9, none⟩ = some (.bool false) := by simp [World.cell?, MD9.out.1.hr]
        have zf : ∀ j, w9.frozen? ⟨w.heap.size, j, none⟩ = false := fun j => by simp [World.frozen?, MD9.out.1.hr]
        go_wp2
        refine bodyPost_ret (v := .tuple #[.agg #[.slice none 0 0, .slice none 0 0, .int .i64 0, .int .i64 0, .int .i64 0, .slice none 0 0, .slice none 0 0, .slice none 0 0, .int .i64 0, .bool false], .bool false]) (by simp [results, Tryz.f13, go_sem, z0, z1, z2, z3, z4, z5, z6, z7, z8, z9]) rfl ?_
        rw [HF.out]
        refine ⟨⟨[.slice none 0 0, .slice none 0 0, .int .i64 0, .int .i64 0, .int .i64 0, .slice none 0 0, .slice none 0 0, .slice none 0 0, .int .i64 0, .bool false], rfl, zero_rep⟩, ?_⟩
        have ZL := MD9.out.1.bb
        repeat first | with_reducible exact ZL | (refine Below.setCell ?_ (by exact Nat.le_refl _) _)
      · have HF : Hid (r = (newM ks n each, true)) := by show _ = _; rw [HR.out]; exact (yesI Q2.out q3).1
        have hcc := implCopied ks (.slice aa ks.length cap) w9 (yesI Q2.out q3).2 (AT.out _ MD9.out.1.bb)
        clear q3
        go_wp2_with fail
        refine hcc.mono ?_
        rintro e wc ⟨⟨fv, rfl, hrep⟩, hbc⟩
        obtain ⟨af, cf, hfv⟩ := sslice_cells hrep
        simp only [List.cons.injEq, and_true] at hfv
        subst hfv
        have MDD := hidv (MD9.out.made hbc hrep)
        have hgb : wc.heap[gV]? = some (.cells #[.slice aa ks.length cap, .slice aw W.length cw, .int .i64 half, .int .i64 base, .int .i64 next, .slice (some ⟨gI, 0, none⟩) 2 2, .slice (some ⟨gC, 0, none⟩) 1 1, .slice none 0 0, .int .i64 0, .bool each] 35) := (MD9.out.on hbc).2.2.2.1
        have y0 : wc.cell? ⟨gV, 0, none⟩ = some (.slice aa ks.length cap) := by simp [World.cell?, hgb]
        have yf : ∀ j, wc.frozen? ⟨gV, j, none⟩ = false := fun j => by simp [World.frozen?, hgb]
        clear hcc hrep hbc hgb MD9
        go_upto_region 6 with fail
        obtain ⟨wd, hwd⟩ : ∃ wd, wd = wc.setCell ⟨gV, 0, none⟩ (.slice af ks.length cf) := ⟨_, rfl⟩
        rw [← hwd] at MDD ⊢
        clear y0 yf hwd
        have z0 : wd.cell? ⟨w.heap.size, 0, none⟩ = some (.slice none 0 0) := by simp [World.cell?, MDD.out.1.hr]
        have z1 : wd.cell? ⟨w.heap.size, 1, none⟩ = some (.slice none 0 0) := by simp [World.cell?, MDD.out.1.hr]
        have z2 : wd.cell? ⟨w.heap.size, 2, none⟩ = some (.int .i64 0) := by simp [World.cell?, MDD.out.1.hr]
        have z3 : wd.cell? ⟨w.heap.size, 3, none⟩ = some (.int .i64 0) := by simp [World.cell?, MDD.out.1.hr]
        have z4 : wd.cell? ⟨w.heap.size, 4, none⟩ = some (.int .i64 0) := by simp [World.cell?, MDD.out.1.hr]
        have z5 : wd.cell? ⟨w.heap.size, 5, none⟩ = some (.slice none 0 0) := by simp [World.cell?, MDD.out.1.hr]
        have z6 : wd.cell? ⟨w.heap.size, 6, none⟩ = some (.slice none 0 0) := by simp [World.cell?, MDD.out.1.hr]
        have z7 : wd.cell? ⟨w.heap.size, 7, none⟩ = some (.slice none 0 0) := by simp [World.cell?, MDD.out.1.hr]
        have z8 : wd.cell? ⟨w.heap.size, 8, none⟩ = some (.int .i64 0) := by simp [World.cell?, MDD.out.1.hr]
        have z9 : wd.cell? ⟨w.heap.size, 9, none⟩ = some (.bool false) := by simp [World.cell?, MDD.out.1.hr]
        have zf : ∀ j, wd.frozen? ⟨w.heap.size, j, none⟩ = false := fun j => by simp [World.frozen?, MDD.out.1.hr]
        have y0 : wd.cell? ⟨gV, 0, none⟩ = some (.slice af ks.length cf) := by simp [World.cell?, show wd.heap[gV]? = _ from MDD.out.2.2.2.2.1]
        have y1 : wd.cell? ⟨gV, 1, none⟩ = some (.slice aw W.length cw) := by simp [World.cell?, show wd.heap[gV]? = _ from MDD.out.2.2.2.2.1]
        have y2 : wd.cell? ⟨gV, 2, none⟩ = some (.int .i64 half) := by simp [World.cell?, show wd.heap[gV]? = _ from MDD.out.2.2.2.2.1]
        have y3 : wd.cell? ⟨gV, 3, none⟩ = some (.int .i64 base) := by simp [World.cell?, show wd.heap[gV]? = _ from MDD.out.2.2.2.2.1]
        have y4 : wd.cell? ⟨gV, 4, none⟩ = some (.int .i64 next) := by simp [World.cell?, show wd.heap[gV]? = _ from MDD.out.2.2.2.2.1]
        have y5 : wd.cell? ⟨gV, 5, none⟩ = some (.slice (some ⟨gI, 0, none⟩) 2 2) := by simp [World.cell?, show wd.heap[gV]? = _ from MDD.out.2.2.2.2.1]
        have y6 : wd.cell? ⟨gV, 6, none⟩ = some (.slice (some ⟨gC, 0, none⟩) 1 1) := by simp [World.cell?, show wd.heap[gV]? = _ from MDD.out.2.2.2.2.1]
        have y7 : wd.cell? ⟨gV, 7, none⟩ = some (.slice none 0 0) := by simp [World.cell?, show wd.heap[gV]? = _ from MDD.out.2.2.2.2.1]
        have y8 : wd.cell? ⟨gV, 8, none⟩ = some (.int .i64 0) := by simp [World.cell?, show wd.heap[gV]? = _ from MDD.out.2.2.2.2.1]
        have y9 : wd.cell? ⟨gV, 9, none⟩ = some (.bool each) := by simp [World.cell?, show wd.heap[gV]? = _ from MDD.out.2.2.2.2.1]
        go_wp2
        refine bodyPost_ret (v := .tuple #[.agg #[.slice af ks.length cf, .slice aw W.length cw, .int .i64 half, .int .i64 base, .int .i64 next, .slice (some ⟨gI, 0, none⟩) 2 2, .slice (some ⟨gC, 0, none⟩) 1 1, .slice none 0 0, .int .i64 0, .bool each], .bool true]) (by simp [results, Tryz.f13, go_sem, z0, z1, z2, z3, z4, z5, z6, z7, z8, z9]) rfl ?_
        rw [HF.out]
        have hX := setN_below (g := w.heap.size) [.slice af ks.length cf, .slice aw W.length cw, .int .i64 half, .int .i64 base, .int .i64 next, .slice (some ⟨gI, 0, none⟩) 2 2, .slice (some ⟨gC, 0, none⟩) 1 1, .slice none 0 0, .int .i64 0, .bool each] 0 MDD.out.1.bb (Nat.le_refl _)
        have hY := MDD.out.sp (fun q hq => setN_other hq [.slice af ks.length cf, .slice aw W.length cw, .int .i64 half, .int .i64 base, .int .i64 next, .slice (some ⟨gI, 0, none⟩) 2 2, .slice (some ⟨gC, 0, none⟩) 1 1, .slice none 0 0, .int .i64 0, .bool each] wd 0) (setN_size (g := w.heap.size) [.slice af ks.length cf, .slice aw W.length cw, .int .i64 half, .int .i64 base, .int .i64 next, .slice (some ⟨gI, 0, none⟩) 2 2, .slice (some ⟨gC, 0, none⟩) 1 1, .slice none 0 0, .int .i64 0, .bool each] wd 0)
        simp only [setN, Nat.zero_add, Nat.reduceAdd] at hX hY
        exact ⟨⟨[.slice af ks.length cf, .slice aw W.length cw, .int .i64 half, .int .i64 base, .int .i64 next, .slice (some ⟨gI, 0, none⟩) 2 2, .slice (some ⟨gC, 0, none⟩) 1 1, .slice none 0 0, .int .i64 0, .bool each], rfl, hY⟩, hX⟩

end Go.Proofs.YtjibmpebebephaaGreatDoor.vm

/-
  The model's VmNew; nothing that was there is turned.
-/
import Derived.Deep.CutRange
import Derived.Deep.RegionHeld3
import Derived.WalkSmall
import Derived.Test.YtjibmpebebephaaGreatDoorC1
import Derived.Test.YtjibmpebebephaaGreatDoorC2
import Derived.Test.YtjibmpebebephaaGreatDoorC3
import Derived.Test.YtjibmpebebephaaGreatDoorC4
import Derived.Test.YtjibmpebebephaaGreatDoorC5
import Derived.Test.YtjibmpebebephaaGreatDoorC6
import Derived.Test.YtjibmpebebephaaGreatDoorC7
import Derived.Test.YtjibmpebebephaaGreatDoorC8
import Derived.Test.YtjibmpebebephaaGreatDoorC9
import Derived.Test.YtjibmpebebephaaGreatDoorC10
import Derived.Test.YtjibmpebebephaaGreatDoorC11
import Derived.Test.YtjibmpebebephaaGreatDoorC12
import Derived.Test.YtjibmpebebephaaGreatDoorC13
import Derived.Test.YtjibmpebebephaaGreatDoorC14
import Derived.Test.YtjibmpebebephaaGreatDoorC15
import Derived.Test.YtjibmpebebephaaGreatDoorC16
import Derived.Test.YtjibmpebebephaaGreatDoorC17
import Derived.Test.YtjibmpebebephaaGreatDoorC18
import Derived.Test.YtjibmpebebephaaGreatDoorC19
namespace Go.Proofs.YtjibmpebebephaaGreatDoor.vm
open Go Go.RowKit Go.Deep Go.Proofs.YtjibmpebebephaaGreatDoor.rose Go.Proofs.YtjibmpebebephaaGreatDoor Go.Proofs.YtjibmpebebephaaGreatDoor.fun Go.Proofs.YtjibmpebebephaaGreatDoor.heap
set_option linter.unusedVariables false
set_option linter.unusedSimpArgs false
set_option maxRecDepth 100000

theorem entC : Enters Tryz.prog 41 := enters_of Tryz.func41 (by kernel_rfl) rfl
theorem funs_made {X Y : World} {af : Option Addr} {cf : Nat} {ks : List FunD} (h : funSp.sslice.rep Y (fun b => X.heap.size ≤ b ∧ b < Y.heap.size) [.slice af ks.length cf] ks) : ∃ lF hF, lF = X.heap.size ∧ hF = Y.heap.size ∧ FunsV Y lF hF af cf ks := ⟨_, _, rfl, rfl, h, Nat.le_refl _⟩
/-- The machine that was made, and what was there. -/
def Made (w X : World) (hk lo0 gI gC gV lF hF : Nat) (aw af : Option Addr) (n0 cw cf : Nat) (half base next : Int) (T : HeapD) (ks : List FunD) (each : Bool) : Prop :=
  MK w X hk lo0 aw n0 cw half base next T ∧ BlkV X gI #[.int .i64 1, .int .i64 1] 3 ∧ BlkV X gC #[.int .i64 0, .int .i64 0, .int .i64 1] 57 ∧ FunsV X lF hF af cf ks ∧
    BlkV X gV #[.slice af ks.length cf, .slice aw n0 cw, .int .i64 half, .int .i64 base, .int .i64 next, .slice (some ⟨gI, 0, none⟩) 2 2, .slice (some ⟨gC, 0, none⟩) 1 1, .slice none 0 0, .int .i64 0, .bool each] 35 ∧
    hk < gI ∧ hk < gC ∧ hk < gV ∧ gI ≠ gC ∧ gI ≠ gV ∧ gC ≠ gV ∧ hk < lF ∧ (gI < lF ∨ hF ≤ gI) ∧ (gC < lF ∨ hF ≤ gC) ∧ (gV < lF ∨ hF ≤ gV)
theorem leaf {w X Y : World} {hk lo0 gI gC gV lF hF n0 cw cf : Nat} {aw af : Option Addr} {half base next : Int} {T : HeapD} {ks : List FunD} {each : Bool}
    (ar : hk < gI ∧ hk < gC ∧ hk < gV ∧ gI ≠ gC ∧ gI ≠ gV ∧ gC ≠ gV ∧ hk < lF ∧ (gI < lF ∨ hF ≤ gI) ∧ (gC < lF ∨ hF ≤ gC) ∧ (gV < lF ∨ hF ≤ gV)) (m : MK w X hk lo0 aw n0 cw half base next T) (fi : BlkV X gI #[.int .i64 1, .int .i64 1] 3) (fc : BlkV X gC #[.int .i64 0, .int .i64 0, .int .i64 1] 57) (ff : FunsV X lF hF af cf ks)
    (hv : Y.heap[gV]? = some (.cells #[.slice af ks.length cf, .slice aw n0 cw, .int .i64 half, .int .i64 base, .int .i64 next, .slice (some ⟨gI, 0, none⟩) 2 2, .slice (some ⟨gC, 0, none⟩) 1 1, .slice none 0 0, .int .i64 0, .bool each] 35)) (ho : ∀ q, q ≠ gV → Y.heap[q]? = X.heap[q]?) (hz : Y.heap.size = X.heap.size) (hbl : ∀ B w0, Below B w0 X → B ≤ gV → Below B w0 Y) :
    Made w Y hk lo0 gI gC gV lF hF aw af n0 cw cf half base next T ks each :=
  ⟨m.put ar.2.2.1 ho hz hbl, (ho _ ar.2.2.2.2.1).trans fi, (ho _ ar.2.2.2.2.2.1).trans fc, ff.put ar.2.2.2.2.2.2.2.2.2 ho hz, hv, ar⟩
section
variable {w X Y : World} {hk lo0 gI gC gV lF hF n0 cw cf : Nat} {aw af : Option Addr} {half base next : Int} {T : HeapD} {ks : List FunD} {each : Bool}
theorem Made.on (h : Made w X hk lo0 gI gC gV lF hF aw af n0 cw cf half base next T ks each) (hb : Below X.heap.size X Y) : Made w Y hk lo0 gI gC gV lF hF aw af n0 cw cf half base next T ks each :=
  ⟨h.1.on hb, h.2.1.on hb, h.2.2.1.on hb, h.2.2.2.1.on hb, h.2.2.2.2.1.on hb, h.2.2.2.2.2⟩
theorem Made.sh (h : Made w X hk lo0 gI gC gV lF hF aw af n0 cw cf half base next T ks each) : vmSh.rep X (· < X.heap.size) [.slice af ks.length cf, .slice aw n0 cw, .int .i64 half, .int .i64 base, .int .i64 next, .slice (some ⟨gI, 0, none⟩) 2 2, .slice (some ⟨gC, 0, none⟩) 1 1, .slice none 0 0, .int .i64 0, .bool each] (ks, T, [1, 1], [(0, 0, 1)], [], 0, each) := by
  obtain ⟨m, fi, fc, ff, fv, -⟩ := h
  have a3 := m.ar
  have hl1 := fi.lt
  have hl2 := fc.lt
  exact vm_shut (x0 := ks) (x1 := T) (x2 := [1, 1]) (x3 := [(0, 0, 1)]) (x4 := []) (x5 := 0) (x6 := each) (funSh.slice.mono (funps_rep ff.1) fun b hb => by have := ff.2; omega) (heapSh.mono (heapp_rep m.hp) fun b hb => by omega) (words_sh fi hl1) (call1_sh fc hl2) ⟨none, 0, fun _ => [], rfl, Nat.le_refl _, Nat.zero_le _, fun _ => rfl, fun i hi => absurd hi (Nat.not_lt_zero _), fun i hi => absurd hi (Nat.not_lt_zero _)⟩ (by omega)
theorem Made.sp (h : Made w X hk lo0 gI gC gV lF hF aw af n0 cw cf half base next T ks each) (ho : ∀ q, q ≠ w.heap.size → Y.heap[q]? = X.heap[q]?) (hz : Y.heap.size = X.heap.size) : vmSp.rep Y (fun b => w.heap.size ≤ b ∧ b < Y.heap.size) [.slice af ks.length cf, .slice aw n0 cw, .int .i64 half, .int .i64 base, .int .i64 next, .slice (some ⟨gI, 0, none⟩) 2 2, .slice (some ⟨gC, 0, none⟩) 1 1, .slice none 0 0, .int .i64 0, .bool each] (ks, T, [1, 1], [(0, 0, 1)], [], 0, each) := by
  obtain ⟨m, fi, fc, ff, fv, ar⟩ := h
  have a3 := m.ar
  have hl1 := fi.lt
  have hl2 := fc.lt
  have hl3 := ff.2
  exact vmp_shutv (S0 := fun b => lF ≤ b ∧ b < hF) (S1 := fun b => lo0 ≤ b ∧ b < hk) (S2 := fun b => b = gI) (S3 := fun b => b = gC) (S4 := fun _ => False) (x0 := ks) (x1 := T) (x2 := [1, 1]) (x3 := [(0, 0, 1)]) (x4 := []) (x5 := 0) (x6 := each)
    (funSp.sslice.on ff.1 fun b hb => ho b (by omega)) (heapSp.on m.hp fun b hb => ho b (by omega)) (words_rep ((ho _ (by omega)).trans fi)) (call1_rep ((ho _ (by omega)).trans fc)) ⟨none, 0, fun _ => [], fun _ _ => False, rfl, Nat.le_refl _, Nat.zero_le _, fun _ => rfl, fun h => absurd h (Nat.lt_irrefl _), fun i hi => absurd hi (Nat.not_lt_zero _), fun i j hi => absurd hi (Nat.not_lt_zero _), fun i hi => absurd hi (Nat.not_lt_zero _)⟩ (by omega)
    (fun b hb => by omega) (fun b hb => by omega) (fun b hb => by omega) (fun b hb => by omega) (fun b hb => hb.elim)
    (fun b h1 h2 => by omega) (fun b h1 h2 => by omega) (fun b h1 h2 => by omega) (fun b h1 h2 => h2.elim) (fun b h1 h2 => by omega) (fun b h1 h2 => by omega) (fun b h1 h2 => h2.elim) (fun b h1 h2 => by omega) (fun b h1 h2 => h2.elim) (fun b h1 h2 => h2.elim)
end

set_option maxHeartbeats 64000000 in
theorem specVmNew (ks : List FunD) (n : Int) (each : Bool) (v : Value) (w : World) (hw : ks.length + fun.wts ks ≤ 1048576) (h1 : -9223372036854775808 ≤ n) (h2 : n ≤ 9223372036854775807) (h : funSh.slice.rep w (· < w.heap.size) [v] ks) :
    Calls Tryz.prog 11 #[v, .int .i64 n, .bool each] w fun e w' => (∃ cs', e = .returned (.tuple #[.agg cs'.toArray, .bool (newV ks n each).2]) ∧ vmSp.rep w' (fun b => w.heap.size ≤ b ∧ b < w'.heap.size) cs' (newV ks n each).1) ∧ Below w.heap.size w w' := by
  have AT : Hid (∀ w' : World, Below w.heap.size w w' → funSh.slice.rep w' (· < w'.heap.size) [v] ks) := fun w' hb => funSh.slice.mono (funSh.slice.below h hb) fun b hlt => Nat.lt_of_lt_of_le hlt hb.size
  obtain ⟨aa, cap, css, rfl, hcap, hmax, -⟩ := funs_open h
  have HW := hidv hw
  obtain ⟨wz, hwz⟩ : ∃ wz, wz = w.alloc (.cells #[.slice none 0 0, .slice none 0 0, .int .i64 0, .int .i64 0, .int .i64 0, .slice none 0 0, .slice none 0 0, .slice none 0 0, .int .i64 0, .bool false] 35) := ⟨_, rfl⟩
  have HWZ := hidv hwz
  have BZ : Hid (Below w.heap.size w wz ∧ wz.heap.size = w.heap.size + 1) := by show _ ∧ _; rw [hwz]; exact ⟨(Below.refl _ _).alloc (Nat.le_refl _) _, by simp⟩
  have RZ : Hid (wz.heap[w.heap.size]? = some (.cells #[.slice none 0 0, .slice none 0 0, .int .i64 0, .int .i64 0, .int .i64 0, .slice none 0 0, .slice none 0 0, .slice none 0 0, .int .i64 0, .bool false] 35)) := by show _ = _; rw [hwz]; exact alloc_top _ _
  have hc1 := specHeapNew n wz h1 h2
  have hnl : (newF n).1.1.length ≤ 6000 := by
    unfold newF
    split
    · rename_i q; have := inB_yes q; show (List.replicate _ _).length ≤ _; rw [List.length_replicate]; omega
    · simp
  have HNL := hidv hnl
  obtain ⟨r, hr⟩ : ∃ r, r = newV ks n each := ⟨_, rfl⟩
  have HR := hidv hr
  rw [← hr]
  clear h hcap hmax hw hwz hr hnl
  go_enter Tryz.func11, Tryz.ntmps11
  go_wp2_with fail
  rw [← HWZ.out]
  refine hc1.mono ?_
  rintro e w1 ⟨⟨hcs, rfl, hrep⟩, hb1⟩
  obtain ⟨W, aw, cw, half, base, next, hT, rfl, -⟩ := heapp_open hrep
  obtain ⟨wh, hwh⟩ : ∃ wh, wh = w1.alloc (.cells #[.slice aw W.length cw, .int .i64 half, .int .i64 base, .int .i64 next] 32) := ⟨_, rfl⟩
  have hbh : Below w1.heap.size w1 wh := by rw [hwh]; exact (Below.refl _ _).alloc (Nat.le_refl _) _
  have BH : Hid (Below w.heap.size w wh ∧ w1.heap.size + 1 = wh.heap.size ∧ w.heap.size < w1.heap.size ∧ wz.heap.size ≤ w1.heap.size) := by
    have := BZ.out
    have := hb1.size
    refine ⟨BZ.out.1.trans ((hb1.trans (hbh.mono hb1.size)).mono (by omega)), by rw [hwh]; simp, by omega, by omega⟩
  have RH : Hid (wh.heap[w.heap.size]? = some (.cells #[.slice none 0 0, .slice none 0 0, .int .i64 0, .int .i64 0, .int .i64 0, .slice none 0 0, .slice none 0 0, .slice none 0 0, .int .i64 0, .bool false] 35)) := (hbh.block _ BH.out.2.2.1).trans ((hb1.block _ (by have := BZ.out.2; omega)).trans RZ.out)
  have KH' : Hid (wh.heap[w1.heap.size]? = some (.cells #[.slice aw W.length cw, .int .i64 half, .int .i64 base, .int .i64 next] 32)) := by show _ = _; rw [hwh]; exact alloc_top _ _
  have HP' : Hid (heapSp.rep wh (fun b => wz.heap.size ≤ b ∧ b < w1.heap.size) [.slice aw W.length cw, .int .i64 half, .int .i64 base, .int .i64 next] (newF n).1) := heapSp.on hrep fun b hb => hbh.block b hb.2
  have HWH := hidv hwh
  have HTT : Hid ((newF n).1 = (W, half, base, next)) := hT
  obtain ⟨made, hmade⟩ : ∃ x, x = (newF n).2 := ⟨_, rfl⟩
  rw [← hmade]
  have HM := hidv hmade
  clear hc1 hrep hb1 hbh hwh hT hmade HWZ RZ
  cases made with
  | false =>
    have HF : Hid (r = (zeroM, false)) := by show _ = _; rw [HR.out]; exact new_no1 HM.out.symm
    have z0 : wh.cell? ⟨w.heap.size, 0, none⟩ = some (.slice none 0 0) := by simp [World.cell?, RH.out]
    have z1 : wh.cell? ⟨w.heap.size, 1, none⟩ = some (.slice none 0 0) := by simp [World.cell?, RH.out]
    have z2 : wh.cell? ⟨w.heap.size, 2, none⟩ = some (.int .i64 0) := by simp [World.cell?, RH.out]
    have z3 : wh.cell? ⟨w.heap.size, 3, none⟩ = some (.int .i64 0) := by simp [World.cell?, RH.out]
    have z4 : wh.cell? ⟨w.heap.size, 4, none⟩ = some (.int .i64 0) := by simp [World.cell?, RH.out]
    have z5 : wh.cell? ⟨w.heap.size, 5, none⟩ = some (.slice none 0 0) := by simp [World.cell?, RH.out]
    have z6 : wh.cell? ⟨w.heap.size, 6, none⟩ = some (.slice none 0 0) := by simp [World.cell?, RH.out]
    have z7 : wh.cell? ⟨w.heap.size, 7, none⟩ = some (.slice none 0 0) := by simp [World.cell?, RH.out]
    have z8 : wh.cell? ⟨w.heap.size, 8, none⟩ = some (.int .i64 0) := by simp [World.cell?, RH.out]
    have z9 : wh.cell? ⟨w.heap.size, 9, none⟩ = some (.bool false) := by simp [World.cell?, RH.out]
    have zf : ∀ j, wh.frozen? ⟨w.heap.size, j, none⟩ = false := fun j => by simp [World.frozen?, RH.out]
    rw [HWH.out] at z0 z1 z2 z3 z4 z5 z6 z7 z8 z9 zf
    go_wp2
    rw [← HWH.out] at z0 z1 z2 z3 z4 z5 z6 z7 z8 z9 zf ⊢
    refine bodyPost_ret (v := .tuple #[.agg #[.slice none 0 0, .slice none 0 0, .int .i64 0, .int .i64 0, .int .i64 0, .slice none 0 0, .slice none 0 0, .slice none 0 0, .int .i64 0, .bool false], .bool false]) (by simp [results, Tryz.f11, go_sem, z0, z1, z2, z3, z4, z5, z6, z7, z8, z9]) rfl ?_
    rw [HF.out]
    refine ⟨⟨[.slice none 0 0, .slice none 0 0, .int .i64 0, .int .i64 0, .int .i64 0, .slice none 0 0, .slice none 0 0, .slice none 0 0, .int .i64 0, .bool false], rfl, zero_rep⟩, ?_⟩
    have ZL := BH.out.1
    repeat first | with_reducible exact ZL | (refine Below.setCell ?_ (by exact Nat.le_refl _) _)
  | true =>
    have hc2 := specVerify ks (.slice aa ks.length cap) wh HW.out (AT.out _ BH.out.1)
    rw [HWH.out] at hc2
    go_wp2_with fail
    refine hc2.mono ?_
    rintro e w2 ⟨rfl, hb2⟩
    rw [← HWH.out] at hb2
    have B2 : Hid (Below wh.heap.size wh w2) := hb2
    clear hc2 hb2
    rcases q2 : verifyF ks with _ | _
    · have RB : Hid (w2.heap[w.heap.size]? = some (.cells #[.slice none 0 0, .slice none 0 0, .int .i64 0, .int .i64 0, .int .i64 0, .slice none 0 0, .slice none 0 0, .slice none 0 0, .int .i64 0, .bool false] 35)) := (B2.out.block _ (by have := BH.out; omega)).trans RH.out
      have BW2 : Hid (Below w.heap.size w w2) := BH.out.1.trans (B2.out.mono BH.out.1.size)
      have HF : Hid (r = (zeroM, false)) := by show _ = _; rw [HR.out]; exact new_no2 q2
      have z0 : w2.cell? ⟨w.heap.size, 0, none⟩ = some (.slice none 0 0) := by simp [World.cell?, RB.out]
      have z1 : w2.cell? ⟨w.heap.size, 1, none⟩ = some (.slice none 0 0) := by simp [World.cell?, RB.out]
      have z2 : w2.cell? ⟨w.heap.size, 2, none⟩ = some (.int .i64 0) := by simp [World.cell?, RB.out]
      have z3 : w2.cell? ⟨w.heap.size, 3, none⟩ = some (.int .i64 0) := by simp [World.cell?, RB.out]
      have z4 : w2.cell? ⟨w.heap.size, 4, none⟩ = some (.int .i64 0) := by simp [World.cell?, RB.out]
      have z5 : w2.cell? ⟨w.heap.size, 5, none⟩ = some (.slice none 0 0) := by simp [World.cell?, RB.out]
      have z6 : w2.cell? ⟨w.heap.size, 6, none⟩ = some (.slice none 0 0) := by simp [World.cell?, RB.out]
      have z7 : w2.cell? ⟨w.heap.size, 7, none⟩ = some (.slice none 0 0) := by simp [World.cell?, RB.out]
      have z8 : w2.cell? ⟨w.heap.size, 8, none⟩ = some (.int .i64 0) := by simp [World.cell?, RB.out]
      have z9 : w2.cell? ⟨w.heap.size, 9, none⟩ = some (.bool false) := by simp [World.cell?, RB.out]
      have zf : ∀ j, w2.frozen? ⟨w.heap.size, j, none⟩ = false := fun j => by simp [World.frozen?, RB.out]
      go_wp2
      refine bodyPost_ret (v := .tuple #[.agg #[.slice none 0 0, .slice none 0 0, .int .i64 0, .int .i64 0, .int .i64 0, .slice none 0 0, .slice none 0 0, .slice none 0 0, .int .i64 0, .bool false], .bool false]) (by simp [results, Tryz.f11, go_sem, z0, z1, z2, z3, z4, z5, z6, z7, z8, z9]) rfl ?_
      rw [HF.out]
      refine ⟨⟨[.slice none 0 0, .slice none 0 0, .int .i64 0, .int .i64 0, .int .i64 0, .slice none 0 0, .slice none 0 0, .slice none 0 0, .int .i64 0, .bool false], rfl, zero_rep⟩, ?_⟩
      have ZL := BW2.out
      repeat first | with_reducible exact ZL | (refine Below.setCell ?_ (by exact Nat.le_refl _) _)
    · have Q2 := hidv (verify_funs q2)
      have QV := hidv q2
      clear q2
      obtain ⟨hk, hhk⟩ : ∃ z, z = w1.heap.size := ⟨_, rfl⟩
      obtain ⟨lo0, hlo⟩ : ∃ z, z = wz.heap.size := ⟨_, rfl⟩
      have M0 : MK w w2 hk lo0 aw W.length cw half base next (newF n).1 := by
        have h1 := BZ.out.2
        have h2 := BH.out
        have h3 := B2.out.size
        rw [hhk, hlo]
        exact ⟨BH.out.1.trans (B2.out.mono BH.out.1.size), (B2.out.block _ (by omega)).trans KH'.out, (B2.out.block _ (by omega)).trans RH.out, heapSp.on HP'.out fun b hb => B2.out.block b (by omega), by omega, by omega, by omega⟩
      have M1 := hidv M0
      rw [← hhk] at *
      clear KH' HP' HWH RH BH hhk hlo BZ B2 M0
      go_upto_region 4 with fail
      go_cut [10] from 24 to 31 (fun v10 X => ∃ gI gC gV af cf lF hF, v10 = .pointer (some ⟨gV, 0, none⟩) ∧ Hid (Made w X hk lo0 gI gC gV lF hF aw af W.length cw cf half base next (newF n).1 ks each))
      case first =>
        have MM : Hid (MK w w2.drew hk lo0 aw W.length cw half base next (newF n).1) := M1.out.on (Below.refl _ _).drew
        refine wp_region_held_drew (S := (fun X : World => X.cell? ⟨hk, 0, none⟩ = some (.slice aw W.length cw) ∧ X.cell? ⟨hk, 1, none⟩ = some (.int .i64 half) ∧ X.cell? ⟨hk, 2, none⟩ = some (.int .i64 base) ∧ X.cell? ⟨hk, 3, none⟩ = some (.int .i64 next))) (by kernel_rfl) MM.out.cells ?_
        intro hS0
        have Z0 : Hid (hk < w2.drew.heap.size) := MM.out.ar.2.2
        clear M1
        generalize w2.drew = x0 at *
        refine wpAnyH_take (i := 0) (v := .slice aa ks.length cap) rfl (by kernel_rfl) (by kernel_rfl) (by kernel_rfl) (fun _ _ _ h => h) (Or.inl ⟨by kernel_rfl, ?_⟩) hS0 ?_
        · intro W' hSw
          obtain ⟨s0, s1, s2, s3⟩ := hSw
          go_simp
        try simp only [Act.put, List.getElem_toArray, List.getElem_cons_succ, List.getElem_cons_zero, List.setIfInBounds_toArray, List.set_cons_zero, List.set_cons_succ]
        refine wpAnyH_take (i := 2) (v := .agg #[.slice aw W.length cw, .int .i64 half, .int .i64 base, .int .i64 next]) rfl (by kernel_rfl) (by kernel_rfl) (by kernel_rfl) (fun _ _ _ h => h) (Or.inl ⟨by kernel_rfl, ?_⟩) hS0 ?_
        · intro W' hSw
          obtain ⟨s0, s1, s2, s3⟩ := hSw
          go_simp
        try simp only [Act.put, List.getElem_toArray, List.getElem_cons_succ, List.getElem_cons_zero, List.setIfInBounds_toArray, List.set_cons_zero, List.set_cons_succ]
        refine wpAnyH_take (i := 4) (v := .agg #[.int .i64 0, .int .i64 0, .int .i64 1]) rfl (by kernel_rfl) (by kernel_rfl) (by kernel_rfl) (fun _ _ _ h => h) (Or.inl ⟨by kernel_rfl, ?_⟩) hS0 ?_
        · intro W' hSw
          obtain ⟨s0, s1, s2, s3⟩ := hSw
          go_simp
        try simp only [Act.put, List.getElem_toArray, List.getElem_cons_succ, List.getElem_cons_zero, List.setIfInBounds_toArray, List.set_cons_zero, List.set_cons_succ]
        refine wpAnyH_take (i := 6) (v := .bool each) rfl (by kernel_rfl) (by kernel_rfl) (by kernel_rfl) (fun _ _ _ h => h) (Or.inl ⟨by kernel_rfl, ?_⟩) hS0 ?_
        · intro W' hSw
          obtain ⟨s0, s1, s2, s3⟩ := hSw
          go_simp
        try simp only [Act.put, List.getElem_toArray, List.getElem_cons_succ, List.getElem_cons_zero, List.setIfInBounds_toArray, List.set_cons_zero, List.set_cons_succ]
        refine wpAnyH_ready (rs := [1, 3, 5, 8]) (by kernel_rfl) (by simp) ?_
        refine AllReadyH.cons rfl (fun K hK => ?_) (AllReadyH.cons rfl (fun K hK => ?_) (AllReadyH.cons rfl (fun K hK => ?_) (AllReadyH.cons rfl (fun K hK => ?_) (AllReadyH.nil))))
        · refine step_call rfl 41 entC _ _ rfl #[.slice aa ks.length cap] _ (specCopy ks (.slice aa ks.length cap) x0 HW.out Q2.out (AT.out _ MM.out.bb)) (by first | rfl | (simp [Act.eval, Act.put]; done)) ?_
          rintro e x1 ⟨⟨fv, rfl, hrep⟩, hb⟩
          refine ⟨_, rfl, ?_⟩
          obtain ⟨af, cf, hfv⟩ := sslice_cells hrep
          simp only [List.cons.injEq, and_true] at hfv
          subst hfv
          obtain ⟨lF, hF, hlF, hhF, FFx⟩ := funs_made hrep
          have Z1 : Hid (x0.heap.size ≤ x1.heap.size ∧ lF = x0.heap.size ∧ hF = x1.heap.size) := ⟨hb.size, hlF, hhF⟩
          have FF := hidv FFx
          replace MM : Hid (MK w x1 hk lo0 aw W.length cw half base next (newF n).1) := MM.out.on hb
          refine hK.out _ _ MM.out.cells (fun hS1 => ?_)
          clear hK K hb hrep hlF hhF FFx
          try simp only [Act.put, List.getElem_toArray, List.getElem_cons_succ, List.getElem_cons_zero, List.setIfInBounds_toArray, List.set_cons_zero, List.set_cons_succ]
          refine wpAnyH_ready (rs := [3, 5, 8]) (by kernel_rfl) (by simp) ?_
          refine AllReadyH.cons rfl (fun K hK => ?_) (AllReadyH.cons rfl (fun K hK => ?_) (AllReadyH.cons rfl (fun K hK => ?_) (AllReadyH.nil)))
          · refine step_words rfl (.const (.int .i64 1)) (.const (.int .i64 1)) rfl (by first | rfl | (simp [Act.eval, Act.put]; done)) (by first | rfl | (simp [Act.eval, Act.put]; done)) ?_
            intro gI x2 hg hb hblk hz
            have Z2 : Hid (x1.heap.size + 1 = x2.heap.size ∧ gI = x1.heap.size) := ⟨hz, hg⟩
            have FI : Hid (BlkV x2 gI #[.int .i64 1, .int .i64 1] 3) := hblk
            replace MM : Hid (MK w x2 hk lo0 aw W.length cw half base next (newF n).1) := MM.out.on hb
            replace FF := hidv (FF.out.on hb)
            refine hK.out _ _ MM.out.cells (fun hS2 => ?_)
            clear hK K hb hg hblk hz
            try simp only [Act.put, List.getElem_toArray, List.getElem_cons_succ, List.getElem_cons_zero, List.setIfInBounds_toArray, List.set_cons_zero, List.set_cons_succ]
            refine wpAnyH_ready (rs := [5, 8]) (by kernel_rfl) (by simp) ?_
            refine AllReadyH.cons rfl (fun K hK => ?_) (AllReadyH.cons rfl (fun K hK => ?_) (AllReadyH.nil))
            · refine step_calls1 rfl (.tmp 28) rfl (by first | rfl | (simp [Act.eval, Act.put]; done)) ?_
              intro gC x3 hg hb hblk hz
              have Z3 : Hid (x2.heap.size + 1 = x3.heap.size ∧ gC = x2.heap.size) := ⟨hz, hg⟩
              have FC : Hid (BlkV x3 gC #[.int .i64 0, .int .i64 0, .int .i64 1] 57) := hblk
              replace MM : Hid (MK w x3 hk lo0 aw W.length cw half base next (newF n).1) := MM.out.on hb
              replace FF := hidv (FF.out.on hb)
              replace FI := hidv (FI.out.on hb)
              refine hK.out _ _ MM.out.cells (fun hS3 => ?_)
              clear hK K hb hg hblk hz
              try simp only [Act.put, List.getElem_toArray, List.getElem_cons_succ, List.getElem_cons_zero, List.setIfInBounds_toArray, List.set_cons_zero, List.set_cons_succ]
              refine wpAnyH_take (i := 7) (v := .agg #[.slice af ks.length cf, .slice aw W.length cw, .int .i64 half, .int .i64 base, .int .i64 next, .slice (some ⟨gI, 0, none⟩) 2 2, .slice (some ⟨gC, 0, none⟩) 1 1, .slice none 0 0, .int .i64 0, .bool each]) rfl (by kernel_rfl) (by kernel_rfl) (by kernel_rfl) (fun _ _ _ h => h) (Or.inl ⟨by kernel_rfl, ?_⟩) hS3 ?_
              · intro W' hSw
                obtain ⟨s0, s1, s2, s3⟩ := hSw
                go_simp
              try simp only [Act.put, List.getElem_toArray, List.getElem_cons_succ, List.getElem_cons_zero, List.setIfInBounds_toArray, List.set_cons_zero, List.set_cons_succ]
              refine wpAnyH_ready (rs := [8]) (by kernel_rfl) (by simp) ?_
              refine AllReadyH.cons rfl (fun K hK => ?_) (AllReadyH.nil)
              · refine step_vm rfl rfl ?_
                intro gV x4 hg hb hblk hz
                have Z4 : Hid (x3.heap.size + 1 = x4.heap.size ∧ gV = x3.heap.size) := ⟨hz, hg⟩
                have FV : Hid (BlkV x4 gV #[.slice none 0 0, .slice none 0 0, .int .i64 0, .int .i64 0, .int .i64 0, .slice none 0 0, .slice none 0 0, .slice none 0 0, .int .i64 0, .bool false] 35) := hblk
                replace MM : Hid (MK w x4 hk lo0 aw W.length cw half base next (newF n).1) := MM.out.on hb
                replace FF := hidv (FF.out.on hb)
                replace FI := hidv (FI.out.on hb)
                replace FC := hidv (FC.out.on hb)
                refine hK.out _ _ MM.out.cells (fun hS4 => ?_)
                clear hK K hb hg hblk hz
                try simp only [Act.put, List.getElem_toArray, List.getElem_cons_succ, List.getElem_cons_zero, List.setIfInBounds_toArray, List.set_cons_zero, List.set_cons_succ]
                refine wpAnyH_ready (rs := [9]) (by kernel_rfl) (by simp) ?_
                refine AllReadyH.cons rfl (fun K hK => ?_) AllReadyH.nil
                have ar : hk < gI ∧ hk < gC ∧ hk < gV ∧ gI ≠ gC ∧ gI ≠ gV ∧ gC ≠ gV ∧ hk < lF ∧ (gI < lF ∨ hF ≤ gI) ∧ (gC < lF ∨ hF ≤ gC) ∧ (gV < lF ∨ hF ≤ gV) := by
                  have := Z0.out
                  have := Z1.out
                  have := Z2.out
                  have := Z3.out
                  have := Z4.out
                  omega
                have hfv : x4.heap[gV]? = some (.cells #[.slice none 0 0, .slice none 0 0, .int .i64 0, .int .i64 0, .int .i64 0, .slice none 0 0, .slice none 0 0, .slice none 0 0, .int .i64 0, .bool false] 35) := FV.out
                refine step_write (g := gV) (t := 35) (u0 := .slice none 0 0) (u1 := .slice none 0 0) (u2 := .int .i64 0) (u3 := .int .i64 0) (u4 := .int .i64 0) (u5 := .slice none 0 0) (u6 := .slice none 0 0) (u7 := .slice none 0 0) (u8 := .int .i64 0) (u9 := .bool false) (b0 := af) (l0 := ks.length) (k0 := cf) (b1 := aw) (l1 := W.length) (k1 := cw) (n2 := half) (n3 := base) (n4 := next) (b5 := some ⟨gI, 0, none⟩) (l5 := 2) (k5 := 2) (b6 := some ⟨gC, 0, none⟩) (l6 := 1) (k6 := 1) (b7 := none) (l7 := 0) (k7 := 0) (n8 := 0) (n9 := each) rfl rfl (.tmp 10) (.tmp 31) rfl (by first | rfl | (simp [Act.eval, Act.put]; done)) (by first | rfl | (simp [Act.eval, Act.put]; done)) hfv ?_
                clear hfv
                intro x5 hv ho hz hbl
                have NX := hidv (leaf ar MM.out FI.out FC.out FF.out hv ho hz hbl)
                refine hK.out _ _ NX.out.1.cells (fun hS5 => ?_)
                clear hK K hv ho hz hbl ar
                refine wpAnyH_done (by kernel_rfl) ?_ _
                go_wp2_with fail
                go_meet
                exact ⟨gI, gC, gV, af, cf, lF, hF, rfl, NX⟩
            · refine step_vm rfl rfl ?_
              intro gV x3 hg hb hblk hz
              have Z3 : Hid (x2.heap.size + 1 = x3.heap.size ∧ gV = x2.heap.size) := ⟨hz, hg⟩
              have FV : Hid (BlkV x3 gV #[.slice none 0 0, .slice none 0 0, .int .i64 0, .int .i64 0, .int .i64 0, .slice none 0 0, .slice none 0 0, .slice none 0 0, .int .i64 0, .bool false] 35) := hblk
              replace MM : Hid (MK w x3 hk lo0 aw W.length cw half base next (newF n).1) := MM.out.on hb
              replace FF := hidv (FF.out.on hb)
              replace FI := hidv (FI.out.on hb)
              refine hK.out _ _ MM.out.cells (fun hS3 => ?_)
              clear hK K hb hg hblk hz
              try simp only [Act.put, List.getElem_toArray, List.getElem_cons_succ, List.getElem_cons_zero, List.setIfInBounds_toArray, List.set_cons_zero, List.set_cons_succ]
              refine wpAnyH_ready (rs := [5]) (by kernel_rfl) (by simp) ?_
              refine AllReadyH.cons rfl (fun K hK => ?_) (AllReadyH.nil)
              · refine step_calls1 rfl (.tmp 28) rfl (by first | rfl | (simp [Act.eval, Act.put]; done)) ?_
                intro gC x4 hg hb hblk hz
                have Z4 : Hid (x3.heap.size + 1 = x4.heap.size ∧ gC = x3.heap.size) := ⟨hz, hg⟩
                have FC : Hid (BlkV x4 gC #[.int .i64 0, .int .i64 0, .int .i64 1] 57) := hblk
                replace MM : Hid (MK w x4 hk lo0 aw W.length cw half base next (newF n).1) := MM.out.on hb
                replace FF := hidv (FF.out.on hb)
                replace FI := hidv (FI.out.on hb)
                replace FV := hidv (FV.out.on hb)
                refine hK.out _ _ MM.out.cells (fun hS4 => ?_)
                clear hK K hb hg hblk hz
                try simp only [Act.put, List.getElem_toArray, List.getElem_cons_succ, List.getElem_cons_zero, List.setIfInBounds_toArray, List.set_cons_zero, List.set_cons_succ]
                refine wpAnyH_take (i := 7) (v := .agg #[.slice af ks.length cf, .slice aw W.length cw, .int .i64 half, .int .i64 base, .int .i64 next, .slice (some ⟨gI, 0, none⟩) 2 2, .slice (some ⟨gC, 0, none⟩) 1 1, .slice none 0 0, .int .i64 0, .bool each]) rfl (by kernel_rfl) (by kernel_rfl) (by kernel_rfl) (fun _ _ _ h => h) (Or.inl ⟨by kernel_rfl, ?_⟩) hS4 ?_
                · intro W' hSw
                  obtain ⟨s0, s1, s2, s3⟩ := hSw
                  go_simp
                try simp only [Act.put, List.getElem_toArray, List.getElem_cons_succ, List.getElem_cons_zero, List.setIfInBounds_toArray, List.set_cons_zero, List.set_cons_succ]
                refine wpAnyH_ready (rs := [9]) (by kernel_rfl) (by simp) ?_
                refine AllReadyH.cons rfl (fun K hK => ?_) AllReadyH.nil
                have ar : hk < gI ∧ hk < gC ∧ hk < gV ∧ gI ≠ gC ∧ gI ≠ gV ∧ gC ≠ gV ∧ hk < lF ∧ (gI < lF ∨ hF ≤ gI) ∧ (gC < lF ∨ hF ≤ gC) ∧ (gV < lF ∨ hF ≤ gV) := by
                  have := Z0.out
                  have := Z1.out
                  have := Z2.out
                  have := Z3.out
                  have := Z4.out
                  omega
                have hfv : x4.heap[gV]? = some (.cells #[.slice none 0 0, .slice none 0 0, .int .i64 0, .int .i64 0, .int .i64 0, .slice none 0 0, .slice none 0 0, .slice none 0 0, .int .i64 0, .bool false] 35) := FV.out
                refine step_write (g := gV) (t := 35) (u0 := .slice none 0 0) (u1 := .slice none 0 0) (u2 := .int .i64 0) (u3 := .int .i64 0) (u4 := .int .i64 0) (u5 := .slice none 0 0) (u6 := .slice none 0 0) (u7 := .slice none 0 0) (u8 := .int .i64 0) (u9 := .bool false) (b0 := af) (l0 := ks.length) (k0 := cf) (b1 := aw) (l1 := W.length) (k1 := cw) (n2 := half) (n3 := base) (n4 := next) (b5 := some ⟨gI, 0, none⟩) (l5 := 2) (k5 := 2) (b6 := some ⟨gC, 0, none⟩) (l6 := 1) (k6 := 1) (b7 := none) (l7 := 0) (k7 := 0) (n8 := 0) (n9 := each) rfl rfl (.tmp 10) (.tmp 31) rfl (by first | rfl | (simp [Act.eval, Act.put]; done)) (by first | rfl | (simp [Act.eval, Act.put]; done)) hfv ?_
                clear hfv
                intro x5 hv ho hz hbl
                have NX := hidv (leaf ar MM.out FI.out FC.out FF.out hv ho hz hbl)
                refine hK.out _ _ NX.out.1.cells (fun hS5 => ?_)
                clear hK K hv ho hz hbl ar
                refine wpAnyH_done (by kernel_rfl) ?_ _
                go_wp2_with fail
                go_meet
                exact ⟨gI, gC, gV, af, cf, lF, hF, rfl, NX⟩
          · refine step_calls1 rfl (.tmp 28) rfl (by first | rfl | (simp [Act.eval, Act.put]; done)) ?_
            intro gC x2 hg hb hblk hz
            have Z2 : Hid (x1.heap.size + 1 = x2.heap.size ∧ gC = x1.heap.size) := ⟨hz, hg⟩
            have FC : Hid (BlkV x2 gC #[.int .i64 0, .int .i64 0, .int .i64 1] 57) := hblk
            replace MM : Hid (MK w x2 hk lo0 aw W.length cw half base next (newF n).1) := MM.out.on hb
            replace FF := hidv (FF.out.on hb)
            refine hK.out _ _ MM.out.cells (fun hS2 => ?_)
            clear hK K hb hg hblk hz
            try simp only [Act.put, List.getElem_toArray, List.getElem_cons_succ, List.getElem_cons_zero, List.setIfInBounds_toArray, List.set_cons_zero, List.set_cons_succ]
            refine wpAnyH_ready (rs := [3, 8]) (by kernel_rfl) (by simp) ?_
            refine AllReadyH.cons rfl (fun K hK => ?_) (AllReadyH.cons rfl (fun K hK => ?_) (AllReadyH.nil))
            · refine step_words rfl (.const (.int .i64 1)) (.const (.int .i64 1)) rfl (by first | rfl | (simp [Act.eval, Act.put]; done)) (by first | rfl | (simp [Act.eval, Act.put]; done)) ?_
              intro gI x3 hg hb hblk hz
              have Z3 : Hid (x2.heap.size + 1 = x3.heap.size ∧ gI = x2.heap.size) := ⟨hz, hg⟩
              have FI : Hid (BlkV x3 gI #[.int .i64 1, .int .i64 1] 3) := hblk
              replace MM : Hid (MK w x3 hk lo0 aw W.length cw half base next (newF n).1) := MM.out.on hb
              replace FF := hidv (FF.out.on hb)
              replace FC := hidv (FC.out.on hb)
              refine hK.out _ _ MM.out.cells (fun hS3 => ?_)
              clear hK K hb hg hblk hz
              try simp only [Act.put, List.getElem_toArray, List.getElem_cons_succ, List.getElem_cons_zero, List.setIfInBounds_toArray, List.set_cons_zero, List.set_cons_succ]
              refine wpAnyH_take (i := 7) (v := .agg #[.slice af ks.length cf, .slice aw W.length cw, .int .i64 half, .int .i64 base, .int .i64 next, .slice (some ⟨gI, 0, none⟩) 2 2, .slice (some ⟨gC, 0, none⟩) 1 1, .slice none 0 0, .int .i64 0, .bool each]) rfl (by kernel_rfl) (by kernel_rfl) (by kernel_rfl) (fun _ _ _ h => h) (Or.inl ⟨by kernel_rfl, ?_⟩) hS3 ?_
              · intro W' hSw
                obtain ⟨s0, s1, s2, s3⟩ := hSw
                go_simp
              try simp only [Act.put, List.getElem_toArray, List.getElem_cons_succ, List.getElem_cons_zero, List.setIfInBounds_toArray, List.set_cons_zero, List.set_cons_succ]
              refine wpAnyH_ready (rs := [8]) (by kernel_rfl) (by simp) ?_
              refine AllReadyH.cons rfl (fun K hK => ?_) (AllReadyH.nil)
              · refine step_vm rfl rfl ?_
                intro gV x4 hg hb hblk hz
                have Z4 : Hid (x3.heap.size + 1 = x4.heap.size ∧ gV = x3.heap.size) := ⟨hz, hg⟩
                have FV : Hid (BlkV x4 gV #[.slice none 0 0, .slice none 0 0, .int .i64 0, .int .i64 0, .int .i64 0, .slice none 0 0, .slice none 0 0, .slice none 0 0, .int .i64 0, .bool false] 35) := hblk
                replace MM : Hid (MK w x4 hk lo0 aw W.length cw half base next (newF n).1) := MM.out.on hb
                replace FF := hidv (FF.out.on hb)
                replace FC := hidv (FC.out.on hb)
                replace FI := hidv (FI.out.on hb)
                refine hK.out _ _ MM.out.cells (fun hS4 => ?_)
                clear hK K hb hg hblk hz
                try simp only [Act.put, List.getElem_toArray, List.getElem_cons_succ, List.getElem_cons_zero, List.setIfInBounds_toArray, List.set_cons_zero, List.set_cons_succ]
                refine wpAnyH_ready (rs := [9]) (by kernel_rfl) (by simp) ?_
                refine AllReadyH.cons rfl (fun K hK => ?_) AllReadyH.nil
                have ar : hk < gI ∧ hk < gC ∧ hk < gV ∧ gI ≠ gC ∧ gI ≠ gV ∧ gC ≠ gV ∧ hk < lF ∧ (gI < lF ∨ hF ≤ gI) ∧ (gC < lF ∨ hF ≤ gC) ∧ (gV < lF ∨ hF ≤ gV) := by
                  have := Z0.out
                  have := Z1.out
                  have := Z2.out
                  have := Z3.out
                  have := Z4.out
                  omega
                have hfv : x4.heap[gV]? = some (.cells #[.slice none 0 0, .slice none 0 0, .int .i64 0, .int .i64 0, .int .i64 0, .slice none 0 0, .slice none 0 0, .slice none 0 0, .int .i64 0, .bool false] 35) := FV.out
                refine step_write (g := gV) (t := 35) (u0 := .slice none 0 0) (u1 := .slice none 0 0) (u2 := .int .i64 0) (u3 := .int .i64 0) (u4 := .int .i64 0) (u5 := .slice none 0 0) (u6 := .slice none 0 0) (u7 := .slice none 0 0) (u8 := .int .i64 0) (u9 := .bool false) (b0 := af) (l0 := ks.length) (k0 := cf) (b1 := aw) (l1 := W.length) (k1 := cw) (n2 := half) (n3 := base) (n4 := next) (b5 := some ⟨gI, 0, none⟩) (l5 := 2) (k5 := 2) (b6 := some ⟨gC, 0, none⟩) (l6 := 1) (k6 := 1) (b7 := none) (l7 := 0) (k7 := 0) (n8 := 0) (n9 := each) rfl rfl (.tmp 10) (.tmp 31) rfl (by first | rfl | (simp [Act.eval, Act.put]; done)) (by first | rfl | (simp [Act.eval, Act.put]; done)) hfv ?_
                clear hfv
                intro x5 hv ho hz hbl
                have NX := hidv (leaf ar MM.out FI.out FC.out FF.out hv ho hz hbl)
                refine hK.out _ _ NX.out.1.cells (fun hS5 => ?_)
                clear hK K hv ho hz hbl ar
                refine wpAnyH_done (by kernel_rfl) ?_ _
                go_wp2_with fail
                go_meet
                exact ⟨gI, gC, gV, af, cf, lF, hF, rfl, NX⟩
            · refine step_vm rfl rfl ?_
              intro gV x3 hg hb hblk hz
              have Z3 : Hid (x2.heap.size + 1 = x3.heap.size ∧ gV = x2.heap.size) := ⟨hz, hg⟩
              have FV : Hid (BlkV x3 gV #[.slice none 0 0, .slice none 0 0, .int .i64 0, .int .i64 0, .int .i64 0, .slice none 0 0, .slice none 0 0, .slice none 0 0, .int .i64 0, .bool false] 35) := hblk
              replace MM : Hid (MK w x3 hk lo0 aw W.length cw half base next (newF n).1) := MM.out.on hb
              replace FF := hidv (FF.out.on hb)
              replace FC := hidv (FC.out.on hb)
              refine hK.out _ _ MM.out.cells (fun hS3 => ?_)
              clear hK K hb hg hblk hz
              try simp only [Act.put, List.getElem_toArray, List.getElem_cons_succ, List.getElem_cons_zero, List.setIfInBounds_toArray, List.set_cons_zero, List.set_cons_succ]
              refine wpAnyH_ready (rs := [3]) (by kernel_rfl) (by simp) ?_
              refine AllReadyH.cons rfl (fun K hK => ?_) (AllReadyH.nil)
              · refine step_words rfl (.const (.int .i64 1)) (.const (.int .i64 1)) rfl (by first | rfl | (simp [Act.eval, Act.put]; done)) (by first | rfl | (simp [Act.eval, Act.put]; done)) ?_
                intro gI x4 hg hb hblk hz
                have Z4 : Hid (x3.heap.size + 1 = x4.heap.size ∧ gI = x3.heap.size) := ⟨hz, hg⟩
                have FI : Hid (BlkV x4 gI #[.int .i64 1, .int .i64 1] 3) := hblk
                replace MM : Hid (MK w x4 hk lo0 aw W.length cw half base next (newF n).1) := MM.out.on hb
                replace FF := hidv (FF.out.on hb)
                replace FC := hidv (FC.out.on hb)
                replace FV := hidv (FV.out.on hb)
                refine hK.out _ _ MM.out.cells (fun hS4 => ?_)
                clear hK K hb hg hblk hz
                try simp only [Act.put, List.getElem_toArray, List.getElem_cons_succ, List.getElem_cons_zero, List.setIfInBounds_toArray, List.set_cons_zero, List.set_cons_succ]
                refine wpAnyH_take (i := 7) (v := .agg #[.slice af ks.length cf, .slice aw W.length cw, .int .i64 half, .int .i64 base, .int .i64 next, .slice (some ⟨gI, 0, none⟩) 2 2, .slice (some ⟨gC, 0, none⟩) 1 1, .slice none 0 0, .int .i64 0, .bool each]) rfl (by kernel_rfl) (by kernel_rfl) (by kernel_rfl) (fun _ _ _ h => h) (Or.inl ⟨by kernel_rfl, ?_⟩) hS4 ?_
                · intro W' hSw
                  obtain ⟨s0, s1, s2, s3⟩ := hSw
                  go_simp
                try simp only [Act.put, List.getElem_toArray, List.getElem_cons_succ, List.getElem_cons_zero, List.setIfInBounds_toArray, List.set_cons_zero, List.set_cons_succ]
                refine wpAnyH_ready (rs := [9]) (by kernel_rfl) (by simp) ?_
                refine AllReadyH.cons rfl (fun K hK => ?_) AllReadyH.nil
                have ar : hk < gI ∧ hk < gC ∧ hk < gV ∧ gI ≠ gC ∧ gI ≠ gV ∧ gC ≠ gV ∧ hk < lF ∧ (gI < lF ∨ hF ≤ gI) ∧ (gC < lF ∨ hF ≤ gC) ∧ (gV < lF ∨ hF ≤ gV) := by
                  have := Z0.out
                  have := Z1.out
                  have := Z2.out
                  have := Z3.out
                  have := Z4.out
                  omega
                have hfv : x4.heap[gV]? = some (.cells #[.slice none 0 0, .slice none 0 0, .int .i64 0, .int .i64 0, .int .i64 0, .slice none 0 0, .slice none 0 0, .slice none 0 0, .int .i64 0, .bool false] 35) := FV.out
                refine step_write (g := gV) (t := 35) (u0 := .slice none 0 0) (u1 := .slice none 0 0) (u2 := .int .i64 0) (u3 := .int .i64 0) (u4 := .int .i64 0) (u5 := .slice none 0 0) (u6 := .slice none 0 0) (u7 := .slice none 0 0) (u8 := .int .i64 0) (u9 := .bool false) (b0 := af) (l0 := ks.length) (k0 := cf) (b1 := aw) (l1 := W.length) (k1 := cw) (n2 := half) (n3 := base) (n4 := next) (b5 := some ⟨gI, 0, none⟩) (l5 := 2) (k5 := 2) (b6 := some ⟨gC, 0, none⟩) (l6 := 1) (k6 := 1) (b7 := none) (l7 := 0) (k7 := 0) (n8 := 0) (n9 := each) rfl rfl (.tmp 10) (.tmp 31) rfl (by first | rfl | (simp [Act.eval, Act.put]; done)) (by first | rfl | (simp [Act.eval, Act.put]; done)) hfv ?_
                clear hfv
                intro x5 hv ho hz hbl
                have NX := hidv (leaf ar MM.out FI.out FC.out FF.out hv ho hz hbl)
                refine hK.out _ _ NX.out.1.cells (fun hS5 => ?_)
                clear hK K hv ho hz hbl ar
                refine wpAnyH_done (by kernel_rfl) ?_ _
                go_wp2_with fail
                go_meet
                exact ⟨gI, gC, gV, af, cf, lF, hF, rfl, NX⟩
          · refine step_vm rfl rfl ?_
            intro gV x2 hg hb hblk hz
            have Z2 : Hid (x1.heap.size + 1 = x2.heap.size ∧ gV = x1.heap.size) := ⟨hz, hg⟩
            have FV : Hid (BlkV x2 gV #[.slice none 0 0, .slice none 0 0, .int .i64 0, .int .i64 0, .int .i64 0, .slice none 0 0, .slice none 0 0, .slice none 0 0, .int .i64 0, .bool false] 35) := hblk
            replace MM : Hid (MK w x2 hk lo0 aw W.length cw half base next (newF n).1) := MM.out.on hb
            replace FF := hidv (FF.out.on hb)
            refine hK.out _ _ MM.out.cells (fun hS2 => ?_)
            clear hK K hb hg hblk hz
            try simp only [Act.put, List.getElem_toArray, List.getElem_cons_succ, List.getElem_cons_zero, List.setIfInBounds_toArray, List.set_cons_zero, List.set_cons_succ]
            refine wpAnyH_ready (rs := [3, 5]) (by kernel_rfl) (by simp) ?_
            refine AllReadyH.cons rfl (fun K hK => ?_) (AllReadyH.cons rfl (fun K hK => ?_) (AllReadyH.nil))
            · refine step_words rfl (.const (.int .i64 1)) (.const (.int .i64 1)) rfl (by first | rfl | (simp [Act.eval, Act.put]; done)) (by first | rfl | (simp [Act.eval, Act.put]; done)) ?_
              intro gI x3 hg hb hblk hz
              have Z3 : Hid (x2.heap.size + 1 = x3.heap.size ∧ gI = x2.heap.size) := ⟨hz, hg⟩
              have FI : Hid (BlkV x3 gI #[.int .i64 1, .int .i64 1] 3) := hblk
              replace MM : Hid (MK w x3 hk lo0 aw W.length cw half base next (newF n).1) := MM.out.on hb
              replace FF := hidv (FF.out.on hb)
              replace FV := hidv (FV.out.on hb)
              refine hK.out _ _ MM.out.cells (fun hS3 => ?_)
              clear hK K hb hg hblk hz
              try simp only [Act.put, List.getElem_toArray, List.getElem_cons_succ, List.getElem_cons_zero, List.setIfInBounds_toArray, List.set_cons_zero, List.set_cons_succ]
              refine wpAnyH_ready (rs := [5]) (by kernel_rfl) (by simp) ?_
              refine AllReadyH.cons rfl (fun K hK => ?_) (AllReadyH.nil)
              · refine step_calls1 rfl (.tmp 28) rfl (by first | rfl | (simp [Act.eval, Act.put]; done)) ?_
                intro gC x4 hg hb hblk hz
                have Z4 : Hid (x3.heap.size + 1 = x4.heap.size ∧ gC = x3.heap.size) := ⟨hz, hg⟩
                have FC : Hid (BlkV x4 gC #[.int .i64 0, .int .i64 0, .int .i64 1] 57) := hblk
                replace MM : Hid (MK w x4 hk lo0 aw W.length cw half base next (newF n).1) := MM.out.on hb
                replace FF := hidv (FF.out.on hb)
                replace FV := hidv (FV.out.on hb)
                replace FI := hidv (FI.out.on hb)
                refine hK.out _ _ MM.out.cells (fun hS4 => ?_)
                clear hK K hb hg hblk hz
                try simp only [Act.put, List.getElem_toArray, List.getElem_cons_succ, List.getElem_cons_zero, List.setIfInBounds_toArray, List.set_cons_zero, List.set_cons_succ]
                refine wpAnyH_take (i := 7) (v := .agg #[.slice af ks.length cf, .slice aw W.length cw, .int .i64 half, .int .i64 base, .int .i64 next, .slice (some ⟨gI, 0, none⟩) 2 2, .slice (some ⟨gC, 0, none⟩) 1 1, .slice none 0 0, .int .i64 0, .bool each]) rfl (by kernel_rfl) (by kernel_rfl) (by kernel_rfl) (fun _ _ _ h => h) (Or.inl ⟨by kernel_rfl, ?_⟩) hS4 ?_
                · intro W' hSw
                  obtain ⟨s0, s1, s2, s3⟩ := hSw
                  go_simp
                try simp only [Act.put, List.getElem_toArray, List.getElem_cons_succ, List.getElem_cons_zero, List.setIfInBounds_toArray, List.set_cons_zero, List.set_cons_succ]
                refine wpAnyH_ready (rs := [9]) (by kernel_rfl) (by simp) ?_
                refine AllReadyH.cons rfl (fun K hK => ?_) AllReadyH.nil
                have ar : hk < gI ∧ hk < gC ∧ hk < gV ∧ gI ≠ gC ∧ gI ≠ gV ∧ gC ≠ gV ∧ hk < lF ∧ (gI < lF ∨ hF ≤ gI) ∧ (gC < lF ∨ hF ≤ gC) ∧ (gV < lF ∨ hF ≤ gV) := by
                  have := Z0.out
                  have := Z1.out
                  have := Z2.out
                  have := Z3.out
                  have := Z4.out
                  omega
                have hfv : x4.heap[gV]? = some (.cells #[.slice none 0 0, .slice none 0 0, .int .i64 0, .int .i64 0, .int .i64 0, .slice none 0 0, .slice none 0 0, .slice none 0 0, .int .i64 0, .bool false] 35) := FV.out
                refine step_write (g := gV) (t := 35) (u0 := .slice none 0 0) (u1 := .slice none 0 0) (u2 := .int .i64 0) (u3 := .int .i64 0) (u4 := .int .i64 0) (u5 := .slice none 0 0) (u6 := .slice none 0 0) (u7 := .slice none 0 0) (u8 := .int .i64 0) (u9 := .bool false) (b0 := af) (l0 := ks.length) (k0 := cf) (b1 := aw) (l1 := W.length) (k1 := cw) (n2 := half) (n3 := base) (n4 := next) (b5 := some ⟨gI, 0, none⟩) (l5 := 2) (k5 := 2) (b6 := some ⟨gC, 0, none⟩) (l6 := 1) (k6 := 1) (b7 := none) (l7 := 0) (k7 := 0) (n8 := 0) (n9 := each) rfl rfl (.tmp 10) (.tmp 31) rfl (by first | rfl | (simp [Act.eval, Act.put]; done)) (by first | rfl | (simp [Act.eval, Act.put]; done)) hfv ?_
                clear hfv
                intro x5 hv ho hz hbl
                have NX := hidv (leaf ar MM.out FI.out FC.out FF.out hv ho hz hbl)
                refine hK.out _ _ NX.out.1.cells (fun hS5 => ?_)
                clear hK K hv ho hz hbl ar
                refine wpAnyH_done (by kernel_rfl) ?_ _
                go_wp2_with fail
                go_meet
                exact ⟨gI, gC, gV, af, cf, lF, hF, rfl, NX⟩
            · refine step_calls1 rfl (.tmp 28) rfl (by first | rfl | (simp [Act.eval, Act.put]; done)) ?_
              intro gC x3 hg hb hblk hz
              have Z3 : Hid (x2.heap.size + 1 = x3.heap.size ∧ gC = x2.heap.size) := ⟨hz, hg⟩
              have FC : Hid (BlkV x3 gC #[.int .i64 0, .int .i64 0, .int .i64 1] 57) := hblk
              replace MM : Hid (MK w x3 hk lo0 aw W.length cw half base next (newF n).1) := MM.out.on hb
              replace FF := hidv (FF.out.on hb)
              replace FV := hidv (FV.out.on hb)
              refine hK.out _ _ MM.out.cells (fun hS3 => ?_)
              clear hK K hb hg hblk hz
              try simp only [Act.put, List.getElem_toArray, List.getElem_cons_succ, List.getElem_cons_zero, List.setIfInBounds_toArray, List.set_cons_zero, List.set_cons_succ]
              refine wpAnyH_ready (rs := [3]) (by kernel_rfl) (by simp) ?_
              refine AllReadyH.cons rfl (fun K hK => ?_) (AllReadyH.nil)
              · refine step_words rfl (.const (.int .i64 1)) (.const (.int .i64 1)) rfl (by first | rfl | (simp [Act.eval, Act.put]; done)) (by first | rfl | (simp [Act.eval, Act.put]; done)) ?_
                intro gI x4 hg hb hblk hz
                have Z4 : Hid (x3.heap.size + 1 = x4.heap.size ∧ gI = x3.heap.size) := ⟨hz, hg⟩
                have FI : Hid (BlkV x4 gI #[.int .i64 1, .int .i64 1] 3) := hblk
                replace MM : Hid (MK w x4 hk lo0 aw W.length cw half base next (newF n).1) := MM.out.on hb
                replace FF := hidv (FF.out.on hb)
                replace FV := hidv (FV.out.on hb)
                replace FC := hidv (FC.out.on hb)
                refine hK.out _ _ MM.out.cells (fun hS4 => ?_)
                clear hK K hb hg hblk hz
                try simp only [Act.put, List.getElem_toArray, List.getElem_cons_succ, List.getElem_cons_zero, List.setIfInBounds_toArray, List.set_cons_zero, List.set_cons_succ]
                refine wpAnyH_take (i := 7) (v := .agg #[.slice af ks.length cf, .slice aw W.length cw, .int .i64 half, .int .i64 base, .int .i64 next, .slice (some ⟨gI, 0, none⟩) 2 2, .slice (some ⟨gC, 0, none⟩) 1 1, .slice none 0 0, .int .i64 0, .bool each]) rfl (by kernel_rfl) (by kernel_rfl) (by kernel_rfl) (fun _ _ _ h => h) (Or.inl ⟨by kernel_rfl, ?_⟩) hS4 ?_
                · intro W' hSw
                  obtain ⟨s0, s1, s2, s3⟩ := hSw
                  go_simp
                try simp only [Act.put, List.getElem_toArray, List.getElem_cons_succ, List.getElem_cons_zero, List.setIfInBounds_toArray, List.set_cons_zero, List.set_cons_succ]
                refine wpAnyH_ready (rs := [9]) (by kernel_rfl) (by simp) ?_
                refine AllReadyH.cons rfl (fun K hK => ?_) AllReadyH.nil
                have ar : hk < gI ∧ hk < gC ∧ hk < gV ∧ gI ≠ gC ∧ gI ≠ gV ∧ gC ≠ gV ∧ hk < lF ∧ (gI < lF ∨ hF ≤ gI) ∧ (gC < lF ∨ hF ≤ gC) ∧ (gV < lF ∨ hF ≤ gV) := by
                  have := Z0.out
                  have := Z1.out
                  have := Z2.out
                  have := Z3.out
                  have := Z4.out
                  omega
                have hfv : x4.heap[gV]? = some (.cells #[.slice none 0 0, .slice none 0 0, .int .i64 0, .int .i64 0, .int .i64 0, .slice none 0 0, .slice none 0 0, .slice none 0 0, .int .i64 0, .bool false] 35) := FV.out
                refine step_write (g := gV) (t := 35) (u0 := .slice none 0 0) (u1 := .slice none 0 0) (u2 := .int .i64 0) (u3 := .int .i64 0) (u4 := .int .i64 0) (u5 := .slice none 0 0) (u6 := .slice none 0 0) (u7 := .slice none 0 0) (u8 := .int .i64 0) (u9 := .bool false) (b0 := af) (l0 := ks.length) (k0 := cf) (b1 := aw) (l1 := W.length) (k1 := cw) (n2 := half) (n3 := base) (n4 := next) (b5 := some ⟨gI, 0, none⟩) (l5 := 2) (k5 := 2) (b6 := some ⟨gC, 0, none⟩) (l6 := 1) (k6 := 1) (b7 := none) (l7 := 0) (k7 := 0) (n8 := 0) (n9 := each) rfl rfl (.tmp 10) (.tmp 31) rfl (by first | rfl | (simp [Act.eval, Act.put]; done)) (by first | rfl | (simp [Act.eval, Act.put]; done)) hfv ?_
                clear hfv
                intro x5 hv ho hz hbl
                have NX := hidv (leaf ar MM.out FI.out FC.out FF.out hv ho hz hbl)
                refine hK.out _ _ NX.out.1.cells (fun hS5 => ?_)
                clear hK K hv ho hz hbl ar
                refine wpAnyH_done (by kernel_rfl) ?_ _
                go_wp2_with fail
                go_meet
                exact ⟨gI, gC, gV, af, cf, lF, hF, rfl, NX⟩
        · refine step_words rfl (.const (.int .i64 1)) (.const (.int .i64 1)) rfl (by first | rfl | (simp [Act.eval, Act.put]; done)) (by first | rfl | (simp [Act.eval, Act.put]; done)) ?_
          intro gI x1 hg hb hblk hz
          have Z1 : Hid (x0.heap.size + 1 = x1.heap.size ∧ gI = x0.heap.size) := ⟨hz, hg⟩
          have FI : Hid (BlkV x1 gI #[.int .i64 1, .int .i64 1] 3) := hblk
          replace MM : Hid (MK w x1 hk lo0 aw W.length cw half base next (newF n).1) := MM.out.on hb
          refine hK.out _ _ MM.out.cells (fun hS1 => ?_)
          clear hK K hb hg hblk hz
          try simp only [Act.put, List.getElem_toArray, List.getElem_cons_succ, List.getElem_cons_zero, List.setIfInBounds_toArray, List.set_cons_zero, List.set_cons_succ]
          refine wpAnyH_ready (rs := [1, 5, 8]) (by kernel_rfl) (by simp) ?_
          refine AllReadyH.cons rfl (fun K hK => ?_) (AllReadyH.cons rfl (fun K hK => ?_) (AllReadyH.cons rfl (fun K hK => ?_) (AllReadyH.nil)))
          · refine step_call rfl 41 entC _ _ rfl #[.slice aa ks.length cap] _ (specCopy ks (.slice aa ks.length cap) x1 HW.out Q2.out (AT.out _ MM.out.bb)) (by first | rfl | (simp [Act.eval, Act.put]; done)) ?_
            rintro e x2 ⟨⟨fv, rfl, hrep⟩, hb⟩
            refine ⟨_, rfl, ?_⟩
            obtain ⟨af, cf, hfv⟩ := sslice_cells hrep
            simp only [List.cons.injEq, and_true] at hfv
            subst hfv
            obtain ⟨lF, hF, hlF, hhF, FFx⟩ := funs_made hrep
            have Z2 : Hid (x1.heap.size ≤ x2.heap.size ∧ lF = x1.heap.size ∧ hF = x2.heap.size) := ⟨hb.size, hlF, hhF⟩
            have FF := hidv FFx
            replace MM : Hid (MK w x2 hk lo0 aw W.length cw half base next (newF n).1) := MM.out.on hb
            replace FI := hidv (FI.out.on hb)
            refine hK.out _ _ MM.out.cells (fun hS2 => ?_)
            clear hK K hb hrep hlF hhF FFx
            try simp only [Act.put, List.getElem_toArray, List.getElem_cons_succ, List.getElem_cons_zero, List.setIfInBounds_toArray, List.set_cons_zero, List.set_cons_succ]
            refine wpAnyH_ready (rs := [5, 8]) (by kernel_rfl) (by simp) ?_
            refine AllReadyH.cons rfl (fun K hK => ?_) (AllReadyH.cons rfl (fun K hK => ?_) (AllReadyH.nil))
            · refine step_calls1 rfl (.tmp 28) rfl (by first | rfl | (simp [Act.eval, Act.put]; done)) ?_
              intro gC x3 hg hb hblk hz
              have Z3 : Hid (x2.heap.size + 1 = x3.heap.size ∧ gC = x2.heap.size) := ⟨hz, hg⟩
              have FC : Hid (BlkV x3 gC #[.int .i64 0, .int .i64 0, .int .i64 1] 57) := hblk
              replace MM : Hid (MK w x3 hk lo0 aw W.length cw half base next (newF n).1) := MM.out.on hb
              replace FI := hidv (FI.out.on hb)
              replace FF := hidv (FF.out.on hb)
              refine hK.out _ _ MM.out.cells (fun hS3 => ?_)
              clear hK K hb hg hblk hz
              try simp only [Act.put, List.getElem_toArray, List.getElem_cons_succ, List.getElem_cons_zero, List.setIfInBounds_toArray, List.set_cons_zero, List.set_cons_succ]
              refine wpAnyH_take (i := 7) (v := .agg #[.slice af ks.length cf, .slice aw W.length cw, .int .i64 half, .int .i64 base, .int .i64 next, .slice (some ⟨gI, 0, none⟩) 2 2, .slice (some ⟨gC, 0, none⟩) 1 1, .slice none 0 0, .int .i64 0, .bool each]) rfl (by kernel_rfl) (by kernel_rfl) (by kernel_rfl) (fun _ _ _ h => h) (Or.inl ⟨by kernel_rfl, ?_⟩) hS3 ?_
              · intro W' hSw
                obtain ⟨s0, s1, s2, s3⟩ := hSw
                go_simp
              try simp only [Act.put, List.getElem_toArray, List.getElem_cons_succ, List.getElem_cons_zero, List.setIfInBounds_toArray, List.set_cons_zero, List.set_cons_succ]
              refine wpAnyH_ready (rs := [8]) (by kernel_rfl) (by simp) ?_
              refine AllReadyH.cons rfl (fun K hK => ?_) (AllReadyH.nil)
              · refine step_vm rfl rfl ?_
                intro gV x4 hg hb hblk hz
                have Z4 : Hid (x3.heap.size + 1 = x4.heap.size ∧ gV = x3.heap.size) := ⟨hz, hg⟩
                have FV : Hid (BlkV x4 gV #[.slice none 0 0, .slice none 0 0, .int .i64 0, .int .i64 0, .int .i64 0, .slice none 0 0, .slice none 0 0, .slice none 0 0, .int .i64 0, .bool false] 35) := hblk
                replace MM : Hid (MK w x4 hk lo0 aw W.length cw half base next (newF n).1) := MM.out.on hb
                replace FI := hidv (FI.out.on hb)
                replace FF := hidv (FF.out.on hb)
                replace FC := hidv (FC.out.on hb)
                refine hK.out _ _ MM.out.cells (fun hS4 => ?_)
                clear hK K hb hg hblk hz
                try simp only [Act.put, List.getElem_toArray, List.getElem_cons_succ, List.getElem_cons_zero, List.setIfInBounds_toArray, List.set_cons_zero, List.set_cons_succ]
                refine wpAnyH_ready (rs := [9]) (by kernel_rfl) (by simp) ?_
                refine AllReadyH.cons rfl (fun K hK => ?_) AllReadyH.nil
                have ar : hk < gI ∧ hk < gC ∧ hk < gV ∧ gI ≠ gC ∧ gI ≠ gV ∧ gC ≠ gV ∧ hk < lF ∧ (gI < lF ∨ hF ≤ gI) ∧ (gC < lF ∨ hF ≤ gC) ∧ (gV < lF ∨ hF ≤ gV) := by
                  have := Z0.out
                  have := Z1.out
                  have := Z2.out
                  have := Z3.out
                  have := Z4.out
                  omega
                have hfv : x4.heap[gV]? = some (.cells #[.slice none 0 0, .slice none 0 0, .int .i64 0, .int .i64 0, .int .i64 0, .slice none 0 0, .slice none 0 0, .slice none 0 0, .int .i64 0, .bool false] 35) := FV.out
                refine step_write (g := gV) (t := 35) (u0 := .slice none 0 0) (u1 := .slice none 0 0) (u2 := .int .i64 0) (u3 := .int .i64 0) (u4 := .int .i64 0) (u5 := .slice none 0 0) (u6 := .slice none 0 0) (u7 := .slice none 0 0) (u8 := .int .i64 0) (u9 := .bool false) (b0 := af) (l0 := ks.length) (k0 := cf) (b1 := aw) (l1 := W.length) (k1 := cw) (n2 := half) (n3 := base) (n4 := next) (b5 := some ⟨gI, 0, none⟩) (l5 := 2) (k5 := 2) (b6 := some ⟨gC, 0, none⟩) (l6 := 1) (k6 := 1) (b7 := none) (l7 := 0) (k7 := 0) (n8 := 0) (n9 := each) rfl rfl (.tmp 10) (.tmp 31) rfl (by first | rfl | (simp [Act.eval, Act.put]; done)) (by first | rfl | (simp [Act.eval, Act.put]; done)) hfv ?_
                clear hfv
                intro x5 hv ho hz hbl
                have NX := hidv (leaf ar MM.out FI.out FC.out FF.out hv ho hz hbl)
                refine hK.out _ _ NX.out.1.cells (fun hS5 => ?_)
                clear hK K hv ho hz hbl ar
                refine wpAnyH_done (by kernel_rfl) ?_ _
                go_wp2_with fail
                go_meet
                exact ⟨gI, gC, gV, af, cf, lF, hF, rfl, NX⟩
            · refine step_vm rfl rfl ?_
              intro gV x3 hg hb hblk hz
              have Z3 : Hid (x2.heap.size + 1 = x3.heap.size ∧ gV = x2.heap.size) := ⟨hz, hg⟩
              have FV : Hid (BlkV x3 gV #[.slice none 0 0, .slice none 0 0, .int .i64 0, .int .i64 0, .int .i64 0, .slice none 0 0, .slice none 0 0, .slice none 0 0, .int .i64 0, .bool false] 35) := hblk
              replace MM : Hid (MK w x3 hk lo0 aw W.length cw half base next (newF n).1) := MM.out.on hb
              replace FI := hidv (FI.out.on hb)
              replace FF := hidv (FF.out.on hb)
              refine hK.out _ _ MM.out.cells (fun hS3 => ?_)
              clear hK K hb hg hblk hz
              try simp only [Act.put, List.getElem_toArray, List.getElem_cons_succ, List.getElem_cons_zero, List.setIfInBounds_toArray, List.set_cons_zero, List.set_cons_succ]
              refine wpAnyH_ready (rs := [5]) (by kernel_rfl) (by simp) ?_
              refine AllReadyH.cons rfl (fun K hK => ?_) (AllReadyH.nil)
              · refine step_calls1 rfl (.tmp 28) rfl (by first | rfl | (simp [Act.eval, Act.put]; done)) ?_
                intro gC x4 hg hb hblk hz
                have Z4 : Hid (x3.heap.size + 1 = x4.heap.size ∧ gC = x3.heap.size) := ⟨hz, hg⟩
                have FC : Hid (BlkV x4 gC #[.int .i64 0, .int .i64 0, .int .i64 1] 57) := hblk
                replace MM : Hid (MK w x4 hk lo0 aw W.length cw half base next (newF n).1) := MM.out.on hb
                replace FI := hidv (FI.out.on hb)
                replace FF := hidv (FF.out.on hb)
                replace FV := hidv (FV.out.on hb)
                refine hK.out _ _ MM.out.cells (fun hS4 => ?_)
                clear hK K hb hg hblk hz
                try simp only [Act.put, List.getElem_toArray, List.getElem_cons_succ, List.getElem_cons_zero, List.setIfInBounds_toArray, List.set_cons_zero, List.set_cons_succ]
                refine wpAnyH_take (i := 7) (v := .agg #[.slice af ks.length cf, .slice aw W.length cw, .int .i64 half, .int .i64 base, .int .i64 next, .slice (some ⟨gI, 0, none⟩) 2 2, .slice (some ⟨gC, 0, none⟩) 1 1, .slice none 0 0, .int .i64 0, .bool each]) rfl (by kernel_rfl) (by kernel_rfl) (by kernel_rfl) (fun _ _ _ h => h) (Or.inl ⟨by kernel_rfl, ?_⟩) hS4 ?_
                · intro W' hSw
                  obtain ⟨s0, s1, s2, s3⟩ := hSw
                  go_simp
                try simp only [Act.put, List.getElem_toArray, List.getElem_cons_succ, List.getElem_cons_zero, List.setIfInBounds_toArray, List.set_cons_zero, List.set_cons_succ]
                refine wpAnyH_ready (rs := [9]) (by kernel_rfl) (by simp) ?_
                refine AllReadyH.cons rfl (fun K hK => ?_) AllReadyH.nil
                have ar : hk < gI ∧ hk < gC ∧ hk < gV ∧ gI ≠ gC ∧ gI ≠ gV ∧ gC ≠ gV ∧ hk < lF ∧ (gI < lF ∨ hF ≤ gI) ∧ (gC < lF ∨ hF ≤ gC) ∧ (gV < lF ∨ hF ≤ gV) := by
                  have := Z0.out
                  have := Z1.out
                  have := Z2.out
                  have := Z3.out
                  have := Z4.out
                  omega
                have hfv : x4.heap[gV]? = some (.cells #[.slice none 0 0, .slice none 0 0, .int .i64 0, .int .i64 0, .int .i64 0, .slice none 0 0, .slice none 0 0, .slice none 0 0, .int .i64 0, .bool false] 35) := FV.out
                refine step_write (g := gV) (t := 35) (u0 := .slice none 0 0) (u1 := .slice none 0 0) (u2 := .int .i64 0) (u3 := .int .i64 0) (u4 := .int .i64 0) (u5 := .slice none 0 0) (u6 := .slice none 0 0) (u7 := .slice none 0 0) (u8 := .int .i64 0) (u9 := .bool false) (b0 := af) (l0 := ks.length) (k0 := cf) (b1 := aw) (l1 := W.length) (k1 := cw) (n2 := half) (n3 := base) (n4 := next) (b5 := some ⟨gI, 0, none⟩) (l5 := 2) (k5 := 2) (b6 := some ⟨gC, 0, none⟩) (l6 := 1) (k6 := 1) (b7 := none) (l7 := 0) (k7 := 0) (n8 := 0) (n9 := each) rfl rfl (.tmp 10) (.tmp 31) rfl (by first | rfl | (simp [Act.eval, Act.put]; done)) (by first | rfl | (simp [Act.eval, Act.put]; done)) hfv ?_
                clear hfv
                intro x5 hv ho hz hbl
                have NX := hidv (leaf ar MM.out FI.out FC.out FF.out hv ho hz hbl)
                refine hK.out _ _ NX.out.1.cells (fun hS5 => ?_)
                clear hK K hv ho hz hbl ar
                refine wpAnyH_done (by kernel_rfl) ?_ _
                go_wp2_with fail
                go_meet
                exact ⟨gI, gC, gV, af, cf, lF, hF, rfl, NX⟩
          · refine step_calls1 rfl (.tmp 28) rfl (by first | rfl | (simp [Act.eval, Act.put]; done)) ?_
            intro gC x2 hg hb hblk hz
            have Z2 : Hid (x1.heap.size + 1 = x2.heap.size ∧ gC = x1.heap.size) := ⟨hz, hg⟩
            have FC : Hid (BlkV x2 gC #[.int .i64 0, .int .i64 0, .int .i64 1] 57) := hblk
            replace MM : Hid (MK w x2 hk lo0 aw W.length cw half base next (newF n).1) := MM.out.on hb
            replace FI := hidv (FI.out.on hb)
            refine hK.out _ _ MM.out.cells (fun hS2 => ?_)
            clear hK K hb hg hblk hz
            try simp only [Act.put, List.getElem_toArray, List.getElem_cons_succ, List.getElem_cons_zero, List.setIfInBounds_toArray, List.set_cons_zero, List.set_cons_succ]
            refine wpAnyH_ready (rs := [1, 8]) (by kernel_rfl) (by simp) ?_
            refine AllReadyH.cons rfl (fun K hK => ?_) (AllReadyH.cons rfl (fun K hK => ?_) (AllReadyH.nil))
            · refine step_call rfl 41 entC _ _ rfl #[.slice aa ks.length cap] _ (specCopy ks (.slice aa ks.length cap) x2 HW.out Q2.out (AT.out _ MM.out.bb)) (by first | rfl | (simp [Act.eval, Act.put]; done)) ?_
              rintro e x3 ⟨⟨fv, rfl, hrep⟩, hb⟩
              refine ⟨_, rfl, ?_⟩
              obtain ⟨af, cf, hfv⟩ := sslice_cells hrep
              simp only [List.cons.injEq, and_true] at hfv
              subst hfv
              obtain ⟨lF, hF, hlF, hhF, FFx⟩ := funs_made hrep
              have Z3 : Hid (x2.heap.size ≤ x3.heap.size ∧ lF = x2.heap.size ∧ hF = x3.heap.size) := ⟨hb.size, hlF, hhF⟩
              have FF := hidv FFx
              replace MM : Hid (MK w x3 hk lo0 aw W.length cw half base next (newF n).1) := MM.out.on hb
              replace FI := hidv (FI.out.on hb)
              replace FC := hidv (FC.out.on hb)
              refine hK.out _ _ MM.out.cells (fun hS3 => ?_)
              clear hK K hb hrep hlF hhF FFx
              try simp only [Act.put, List.getElem_toArray, List.getElem_cons_succ, List.getElem_cons_zero, List.setIfInBounds_toArray, List.set_cons_zero, List.set_cons_succ]
              refine wpAnyH_take (i := 7) (v := .agg #[.slice af ks.length cf, .slice aw W.length cw, .int .i64 half, .int .i64 base, .int .i64 next, .slice (some ⟨gI, 0, none⟩) 2 2, .slice (some ⟨gC, 0, none⟩) 1 1, .slice none 0 0, .int .i64 0, .bool each]) rfl (by kernel_rfl) (by kernel_rfl) (by kernel_rfl) (fun _ _ _ h => h) (Or.inl ⟨by kernel_rfl, ?_⟩) hS3 ?_
              · intro W' hSw
                obtain ⟨s0, s1, s2, s3⟩ := hSw
                go_simp
              try simp only [Act.put, List.getElem_toArray, List.getElem_cons_succ, List.getElem_cons_zero, List.setIfInBounds_toArray, List.set_cons_zero, List.set_cons_succ]
              refine wpAnyH_ready (rs := [8]) (by kernel_rfl) (by simp) ?_
              refine AllReadyH.cons rfl (fun K hK => ?_) (AllReadyH.nil)
              · refine step_vm rfl rfl ?_
                intro gV x4 hg hb hblk hz
                have Z4 : Hid (x3.heap.size + 1 = x4.heap.size ∧ gV = x3.heap.size) := ⟨hz, hg⟩
                have FV : Hid (BlkV x4 gV #[.slice none 0 0, .slice none 0 0, .int .i64 0, .int .i64 0, .int .i64 0, .slice none 0 0, .slice none 0 0, .slice none 0 0, .int .i64 0, .bool false] 35) := hblk
                replace MM : Hid (MK w x4 hk lo0 aw W.length cw half base next (newF n).1) := MM.out.on hb
                replace FI := hidv (FI.out.on hb)
                replace FC := hidv (FC.out.on hb)
                replace FF := hidv (FF.out.on hb)
                refine hK.out _ _ MM.out.cells (fun hS4 => ?_)
                clear hK K hb hg hblk hz
                try simp only [Act.put, List.getElem_toArray, List.getElem_cons_succ, List.getElem_cons_zero, List.setIfInBounds_toArray, List.set_cons_zero, List.set_cons_succ]
                refine wpAnyH_ready (rs := [9]) (by kernel_rfl) (by simp) ?_
                refine AllReadyH.cons rfl (fun K hK => ?_) AllReadyH.nil
                have ar : hk < gI ∧ hk < gC ∧ hk < gV ∧ gI ≠ gC ∧ gI ≠ gV ∧ gC ≠ gV ∧ hk < lF ∧ (gI < lF ∨ hF ≤ gI) ∧ (gC < lF ∨ hF ≤ gC) ∧ (gV < lF ∨ hF ≤ gV) := by
                  have := Z0.out
                  have := Z1.out
                  have := Z2.out
                  have := Z3.out
                  have := Z4.out
                  omega
                have hfv : x4.heap[gV]? = some (.cells #[.slice none 0 0, .slice none 0 0, .int .i64 0, .int .i64 0, .int .i64 0, .slice none 0 0, .slice none 0 0, .slice none 0 0, .int .i64 0, .bool false] 35) := FV.out
                refine step_write (g := gV) (t := 35) (u0 := .slice none 0 0) (u1 := .slice none 0 0) (u2 := .int .i64 0) (u3 := .int .i64 0) (u4 := .int .i64 0) (u5 := .slice none 0 0) (u6 := .slice none 0 0) (u7 := .slice none 0 0) (u8 := .int .i64 0) (u9 := .bool false) (b0 := af) (l0 := ks.length) (k0 := cf) (b1 := aw) (l1 := W.length) (k1 := cw) (n2 := half) (n3 := base) (n4 := next) (b5 := some ⟨gI, 0, none⟩) (l5 := 2) (k5 := 2) (b6 := some ⟨gC, 0, none⟩) (l6 := 1) (k6 := 1) (b7 := none) (l7 := 0) (k7 := 0) (n8 := 0) (n9 := each) rfl rfl (.tmp 10) (.tmp 31) rfl (by first | rfl | (simp [Act.eval, Act.put]; done)) (by first | rfl | (simp [Act.eval, Act.put]; done)) hfv ?_
                clear hfv
                intro x5 hv ho hz hbl
                have NX := hidv (leaf ar MM.out FI.out FC.out FF.out hv ho hz hbl)
                refine hK.out _ _ NX.out.1.cells (fun hS5 => ?_)
                clear hK K hv ho hz hbl ar
                refine wpAnyH_done (by kernel_rfl) ?_ _
                go_wp2_with fail
                go_meet
                exact ⟨gI, gC, gV, af, cf, lF, hF, rfl, NX⟩
            · refine step_vm rfl rfl ?_
              intro gV x3 hg hb hblk hz
              have Z3 : Hid (x2.heap.size + 1 = x3.heap.size ∧ gV = x2.heap.size) := ⟨hz, hg⟩
              have FV : Hid (BlkV x3 gV #[.slice none 0 0, .slice none 0 0, .int .i64 0, .int .i64 0, .int .i64 0, .slice none 0 0, .slice none 0 0, .slice none 0 0, .int .i64 0, .bool false] 35) := hblk
              replace MM : Hid (MK w x3 hk lo0 aw W.length cw half base next (newF n).1) := MM.out.on hb
              replace FI := hidv (FI.out.on hb)
              replace FC := hidv (FC.out.on hb)
              refine hK.out _ _ MM.out.cells (fun hS3 => ?_)
              clear hK K hb hg hblk hz
              try simp only [Act.put, List.getElem_toArray, List.getElem_cons_succ, List.getElem_cons_zero, List.setIfInBounds_toArray, List.set_cons_zero, List.set_cons_succ]
              refine wpAnyH_ready (rs := [1]) (by kernel_rfl) (by simp) ?_
              refine AllReadyH.cons rfl (fun K hK => ?_) (AllReadyH.nil)
              · refine step_call rfl 41 entC _ _ rfl #[.slice aa ks.length cap] _ (specCopy ks (.slice aa ks.length cap) x3 HW.out Q2.out (AT.out _ MM.out.bb)) (by first | rfl | (simp [Act.eval, Act.put]; done)) ?_
                rintro e x4 ⟨⟨fv, rfl, hrep⟩, hb⟩
                refine ⟨_, rfl, ?_⟩
                obtain ⟨af, cf, hfv⟩ := sslice_cells hrep
                simp only [List.cons.injEq, and_true] at hfv
                subst hfv
                obtain ⟨lF, hF, hlF, hhF, FFx⟩ := funs_made hrep
                have Z4 : Hid (x3.heap.size ≤ x4.heap.size ∧ lF = x3.heap.size ∧ hF = x4.heap.size) := ⟨hb.size, hlF, hhF⟩
                have FF := hidv FFx
                replace MM : Hid (MK w x4 hk lo0 aw W.length cw half base next (newF n).1) := MM.out.on hb
                replace FI := hidv (FI.out.on hb)
                replace FC := hidv (FC.out.on hb)
                replace FV := hidv (FV.out.on hb)
                refine hK.out _ _ MM.out.cells (fun hS4 => ?_)
                clear hK K hb hrep hlF hhF FFx
                try simp only [Act.put, List.getElem_toArray, List.getElem_cons_succ, List.getElem_cons_zero, List.setIfInBounds_toArray, List.set_cons_zero, List.set_cons_succ]
                refine wpAnyH_take (i := 7) (v := .agg #[.slice af ks.length cf, .slice aw W.length cw, .int .i64 half, .int .i64 base, .int .i64 next, .slice (some ⟨gI, 0, none⟩) 2 2, .slice (some ⟨gC, 0, none⟩) 1 1, .slice none 0 0, .int .i64 0, .bool each]) rfl (by kernel_rfl) (by kernel_rfl) (by kernel_rfl) (fun _ _ _ h => h) (Or.inl ⟨by kernel_rfl, ?_⟩) hS4 ?_
                · intro W' hSw
                  obtain ⟨s0, s1, s2, s3⟩ := hSw
                  go_simp
                try simp only [Act.put, List.getElem_toArray, List.getElem_cons_succ, List.getElem_cons_zero, List.setIfInBounds_toArray, List.set_cons_zero, List.set_cons_succ]
                refine wpAnyH_ready (rs := [9]) (by kernel_rfl) (by simp) ?_
                refine AllReadyH.cons rfl (fun K hK => ?_) AllReadyH.nil
                have ar : hk < gI ∧ hk < gC ∧ hk < gV ∧ gI ≠ gC ∧ gI ≠ gV ∧ gC ≠ gV ∧ hk < lF ∧ (gI < lF ∨ hF ≤ gI) ∧ (gC < lF ∨ hF ≤ gC) ∧ (gV < lF ∨ hF ≤ gV) := by
                  have := Z0.out
                  have := Z1.out
                  have := Z2.out
                  have := Z3.out
                  have := Z4.out
                  omega
                have hfv : x4.heap[gV]? = some (.cells #[.slice none 0 0, .slice none 0 0, .int .i64 0, .int .i64 0, .int .i64 0, .slice none 0 0, .slice none 0 0, .slice none 0 0, .int .i64 0, .bool false] 35) := FV.out
                refine step_write (g := gV) (t := 35) (u0 := .slice none 0 0) (u1 := .slice none 0 0) (u2 := .int .i64 0) (u3 := .int .i64 0) (u4 := .int .i64 0) (u5 := .slice none 0 0) (u6 := .slice none 0 0) (u7 := .slice none 0 0) (u8 := .int .i64 0) (u9 := .bool false) (b0 := af) (l0 := ks.length) (k0 := cf) (b1 := aw) (l1 := W.length) (k1 := cw) (n2 := half) (n3 := base) (n4 := next) (b5 := some ⟨gI, 0, none⟩) (l5 := 2) (k5 := 2) (b6 := some ⟨gC, 0, none⟩) (l6 := 1) (k6 := 1) (b7 := none) (l7 := 0) (k7 := 0) (n8 := 0) (n9 := each) rfl rfl (.tmp 10) (.tmp 31) rfl (by first | rfl | (simp [Act.eval, Act.put]; done)) (by first | rfl | (simp [Act.eval, Act.put]; done)) hfv ?_
                clear hfv
                intro x5 hv ho hz hbl
                have NX := hidv (leaf ar MM.out FI.out FC.out FF.out hv ho hz hbl)
                refine hK.out _ _ NX.out.1.cells (fun hS5 => ?_)
                clear hK K hv ho hz hbl ar
                refine wpAnyH_done (by kernel_rfl) ?_ _
                go_wp2_with fail
                go_meet
                exact ⟨gI, gC, gV, af, cf, lF, hF, rfl, NX⟩
          · refine step_vm rfl rfl ?_
            intro gV x2 hg hb hblk hz
            have Z2 : Hid (x1.heap.size + 1 = x2.heap.size ∧ gV = x1.heap.size) := ⟨hz, hg⟩
            have FV : Hid (BlkV x2 gV #[.slice none 0 0, .slice none 0 0, .int .i64 0, .int .i64 0, .int .i64 0, .slice none 0 0, .slice none 0 0, .slice none 0 0, .int .i64 0, .bool false] 35) := hblk
            replace MM : Hid (MK w x2 hk lo0 aw W.length cw half base next (newF n).1) := MM.out.on hb
            replace FI := hidv (FI.out.on hb)
            refine hK.out _ _ MM.out.cells (fun hS2 => ?_)
            clear hK K hb hg hblk hz
            try simp only [Act.put, List.getElem_toArray, List.getElem_cons_succ, List.getElem_cons_zero, List.setIfInBounds_toArray, List.set_cons_zero, List.set_cons_succ]
            refine wpAnyH_ready (rs := [1, 5]) (by kernel_rfl) (by simp) ?_
            refine AllReadyH.cons rfl (fun K hK => ?_) (AllReadyH.cons rfl (fun K hK => ?_) (AllReadyH.nil))
            · refine step_call rfl 41 entC _ _ rfl #[.slice aa ks.length cap] _ (specCopy ks (.slice aa ks.length cap) x2 HW.out Q2.out (AT.out _ MM.out.bb)) (by first | rfl | (simp [Act.eval, Act.put]; done)) ?_
              rintro e x3 ⟨⟨fv, rfl, hrep⟩, hb⟩
              refine ⟨_, rfl, ?_⟩
              obtain ⟨af, cf, hfv⟩ := sslice_cells hrep
              simp only [List.cons.injEq, and_true] at hfv
              subst hfv
              obtain ⟨lF, hF, hlF, hhF, FFx⟩ := funs_made hrep
              have Z3 : Hid (x2.heap.size ≤ x3.heap.size ∧ lF = x2.heap.size ∧ hF = x3.heap.size) := ⟨hb.size, hlF, hhF⟩
              have FF := hidv FFx
              replace MM : Hid (MK w x3 hk lo0 aw W.length cw half base next (newF n).1) := MM.out.on hb
              replace FI := hidv (FI.out.on hb)
              replace FV := hidv (FV.out.on hb)
              refine hK.out _ _ MM.out.cells (fun hS3 => ?_)
              clear hK K hb hrep hlF hhF FFx
              try simp only [Act.put, List.getElem_toArray, List.getElem_cons_succ, List.getElem_cons_zero, List.setIfInBounds_toArray, List.set_cons_zero, List.set_cons_succ]
              refine wpAnyH_ready (rs := [5]) (by kernel_rfl) (by simp) ?_
              refine AllReadyH.cons rfl (fun K hK => ?_) (AllReadyH.nil)
              · refine step_calls1 rfl (.tmp 28) rfl (by first | rfl | (simp [Act.eval, Act.put]; done)) ?_
                intro gC x4 hg hb hblk hz
                have Z4 : Hid (x3.heap.size + 1 = x4.heap.size ∧ gC = x3.heap.size) := ⟨hz, hg⟩
                have FC : Hid (BlkV x4 gC #[.int .i64 0, .int .i64 0, .int .i64 1] 57) := hblk
                replace MM : Hid (MK w x4 hk lo0 aw W.length cw half base next (newF n).1) := MM.out.on hb
                replace FI := hidv (FI.out.on hb)
                replace FV := hidv (FV.out.on hb)
                replace FF := hidv (FF.out.on hb)
                refine hK.out _ _ MM.out.cells (fun hS4 => ?_)
                clear hK K hb hg hblk hz
                try simp only [Act.put, List.getElem_toArray, List.getElem_cons_succ, List.getElem_cons_zero, List.setIfInBounds_toArray, List.set_cons_zero, List.set_cons_succ]
                refine wpAnyH_take (i := 7) (v := .agg #[.slice af ks.length cf, .slice aw W.length cw, .int .i64 half, .int .i64 base, .int .i64 next, .slice (some ⟨gI, 0, none⟩) 2 2, .slice (some ⟨gC, 0, none⟩) 1 1, .slice none 0 0, .int .i64 0, .bool each]) rfl (by kernel_rfl) (by kernel_rfl) (by kernel_rfl) (fun _ _ _ h => h) (Or.inl ⟨by kernel_rfl, ?_⟩) hS4 ?_
                · intro W' hSw
                  obtain ⟨s0, s1, s2, s3⟩ := hSw
                  go_simp
                try simp only [Act.put, List.getElem_toArray, List.getElem_cons_succ, List.getElem_cons_zero, List.setIfInBounds_toArray, List.set_cons_zero, List.set_cons_succ]
                refine wpAnyH_ready (rs := [9]) (by kernel_rfl) (by simp) ?_
                refine AllReadyH.cons rfl (fun K hK => ?_) AllReadyH.nil
                have ar : hk < gI ∧ hk < gC ∧ hk < gV ∧ gI ≠ gC ∧ gI ≠ gV ∧ gC ≠ gV ∧ hk < lF ∧ (gI < lF ∨ hF ≤ gI) ∧ (gC < lF ∨ hF ≤ gC) ∧ (gV < lF ∨ hF ≤ gV) := by
                  have := Z0.out
                  have := Z1.out
                  have := Z2.out
                  have := Z3.out
                  have := Z4.out
                  omega
                have hfv : x4.heap[gV]? = some (.cells #[.slice none 0 0, .slice none 0 0, .int .i64 0, .int .i64 0, .int .i64 0, .slice none 0 0, .slice none 0 0, .slice none 0 0, .int .i64 0, .bool false] 35) := FV.out
                refine step_write (g := gV) (t := 35) (u0 := .slice none 0 0) (u1 := .slice none 0 0) (u2 := .int .i64 0) (u3 := .int .i64 0) (u4 := .int .i64 0) (u5 := .slice none 0 0) (u6 := .slice none 0 0) (u7 := .slice none 0 0) (u8 := .int .i64 0) (u9 := .bool false) (b0 := af) (l0 := ks.length) (k0 := cf) (b1 := aw) (l1 := W.length) (k1 := cw) (n2 := half) (n3 := base) (n4 := next) (b5 := some ⟨gI, 0, none⟩) (l5 := 2) (k5 := 2) (b6 := some ⟨gC, 0, none⟩) (l6 := 1) (k6 := 1) (b7 := none) (l7 := 0) (k7 := 0) (n8 := 0) (n9 := each) rfl rfl (.tmp 10) (.tmp 31) rfl (by first | rfl | (simp [Act.eval, Act.put]; done)) (by first | rfl | (simp [Act.eval, Act.put]; done)) hfv ?_
                clear hfv
                intro x5 hv ho hz hbl
                have NX := hidv (leaf ar MM.out FI.out FC.out FF.out hv ho hz hbl)
                refine hK.out _ _ NX.out.1.cells (fun hS5 => ?_)
                clear hK K hv ho hz hbl ar
                refine wpAnyH_done (by kernel_rfl) ?_ _
                go_wp2_with fail
                go_meet
                exact ⟨gI, gC, gV, af, cf, lF, hF, rfl, NX⟩
            · refine step_calls1 rfl (.tmp 28) rfl (by first | rfl | (simp [Act.eval, Act.put]; done)) ?_
              intro gC x3 hg hb hblk hz
              have Z3 : Hid (x2.heap.size + 1 = x3.heap.size ∧ gC = x2.heap.size) := ⟨hz, hg⟩
              have FC : Hid (BlkV x3 gC #[.int .i64 0, .int .i64 0, .int .i64 1] 57) := hblk
              replace MM : Hid (MK w x3 hk lo0 aw W.length cw half base next (newF n).1) := MM.out.on hb
              replace FI := hidv (FI.out.on hb)
              replace FV := hidv (FV.out.on hb)
              refine hK.out _ _ MM.out.cells (fun hS3 => ?_)
              clear hK K hb hg hblk hz
              try simp only [Act.put, List.getElem_toArray, List.getElem_cons_succ, List.getElem_cons_zero, List.setIfInBounds_toArray, List.set_cons_zero, List.set_cons_succ]
              refine wpAnyH_ready (rs := [1]) (by kernel_rfl) (by simp) ?_
              refine AllReadyH.cons rfl (fun K hK => ?_) (AllReadyH.nil)
              · refine step_call rfl 41 entC _ _ rfl #[.slice aa ks.length cap] _ (specCopy ks (.slice aa ks.length cap) x3 HW.out Q2.out (AT.out _ MM.out.bb)) (by first | rfl | (simp [Act.eval, Act.put]; done)) ?_
                rintro e x4 ⟨⟨fv, rfl, hrep⟩, hb⟩
                refine ⟨_, rfl, ?_⟩
                obtain ⟨af, cf, hfv⟩ := sslice_cells hrep
                simp only [List.cons.injEq, and_true] at hfv
                subst hfv
                obtain ⟨lF, hF, hlF, hhF, FFx⟩ := funs_made hrep
                have Z4 : Hid (x3.heap.size ≤ x4.heap.size ∧ lF = x3.heap.size ∧ hF = x4.heap.size) := ⟨hb.size, hlF, hhF⟩
                have FF := hidv FFx
                replace MM : Hid (MK w x4 hk lo0 aw W.length cw half base next (newF n).1) := MM.out.on hb
                replace FI := hidv (FI.out.on hb)
                replace FV := hidv (FV.out.on hb)
                replace FC := hidv (FC.out.on hb)
                refine hK.out _ _ MM.out.cells (fun hS4 => ?_)
                clear hK K hb hrep hlF hhF FFx
                try simp only [Act.put, List.getElem_toArray, List.getElem_cons_succ, List.getElem_cons_zero, List.setIfInBounds_toArray, List.set_cons_zero, List.set_cons_succ]
                refine wpAnyH_take (i := 7) (v := .agg #[.slice af ks.length cf, .slice aw W.length cw, .int .i64 half, .int .i64 base, .int .i64 next, .slice (some ⟨gI, 0, none⟩) 2 2, .slice (some ⟨gC, 0, none⟩) 1 1, .slice none 0 0, .int .i64 0, .bool each]) rfl (by kernel_rfl) (by kernel_rfl) (by kernel_rfl) (fun _ _ _ h => h) (Or.inl ⟨by kernel_rfl, ?_⟩) hS4 ?_
                · intro W' hSw
                  obtain ⟨s0, s1, s2, s3⟩ := hSw
                  go_simp
                try simp only [Act.put, List.getElem_toArray, List.getElem_cons_succ, List.getElem_cons_zero, List.setIfInBounds_toArray, List.set_cons_zero, List.set_cons_succ]
                refine wpAnyH_ready (rs := [9]) (by kernel_rfl) (by simp) ?_
                refine AllReadyH.cons rfl (fun K hK => ?_) AllReadyH.nil
                have ar : hk < gI ∧ hk < gC ∧ hk < gV ∧ gI ≠ gC ∧ gI ≠ gV ∧ gC ≠ gV ∧ hk < lF ∧ (gI < lF ∨ hF ≤ gI) ∧ (gC < lF ∨ hF ≤ gC) ∧ (gV < lF ∨ hF ≤ gV) := by
                  have := Z0.out
                  have := Z1.out
                  have := Z2.out
                  have := Z3.out
                  have := Z4.out
                  omega
                have hfv : x4.heap[gV]? = some (.cells #[.slice none 0 0, .slice none 0 0, .int .i64 0, .int .i64 0, .int .i64 0, .slice none 0 0, .slice none 0 0, .slice none 0 0, .int .i64 0, .bool false] 35) := FV.out
                refine step_write (g := gV) (t := 35) (u0 := .slice none 0 0) (u1 := .slice none 0 0) (u2 := .int .i64 0) (u3 := .int .i64 0) (u4 := .int .i64 0) (u5 := .slice none 0 0) (u6 := .slice none 0 0) (u7 := .slice none 0 0) (u8 := .int .i64 0) (u9 := .bool false) (b0 := af) (l0 := ks.length) (k0 := cf) (b1 := aw) (l1 := W.length) (k1 := cw) (n2 := half) (n3 := base) (n4 := next) (b5 := some ⟨gI, 0, none⟩) (l5 := 2) (k5 := 2) (b6 := some ⟨gC, 0, none⟩) (l6 := 1) (k6 := 1) (b7 := none) (l7 := 0) (k7 := 0) (n8 := 0) (n9 := each) rfl rfl (.tmp 10) (.tmp 31) rfl (by first | rfl | (simp [Act.eval, Act.put]; done)) (by first | rfl | (simp [Act.eval, Act.put]; done)) hfv ?_
                clear hfv
                intro x5 hv ho hz hbl
                have NX := hidv (leaf ar MM.out FI.out FC.out FF.out hv ho hz hbl)
                refine hK.out _ _ NX.out.1.cells (fun hS5 => ?_)
                clear hK K hv ho hz hbl ar
                refine wpAnyH_done (by kernel_rfl) ?_ _
                go_wp2_with fail
                go_meet
                exact ⟨gI, gC, gV, af, cf, lF, hF, rfl, NX⟩
        · refine step_calls1 rfl (.tmp 28) rfl (by first | rfl | (simp [Act.eval, Act.put]; done)) ?_
          intro gC x1 hg hb hblk hz
          have Z1 : Hid (x0.heap.size + 1 = x1.heap.size ∧ gC = x0.heap.size) := ⟨hz, hg⟩
          have FC : Hid (BlkV x1 gC #[.int .i64 0, .int .i64 0, .int .i64 1] 57) := hblk
          replace MM : Hid (MK w x1 hk lo0 aw W.length cw half base next (newF n).1) := MM.out.on hb
          refine hK.out _ _ MM.out.cells (fun hS1 => ?_)
          clear hK K hb hg hblk hz
          try simp only [Act.put, List.getElem_toArray, List.getElem_cons_succ, List.getElem_cons_zero, List.setIfInBounds_toArray, List.set_cons_zero, List.set_cons_succ]
          refine wpAnyH_ready (rs := [1, 3, 8]) (by kernel_rfl) (by simp) ?_
          refine AllReadyH.cons rfl (fun K hK => ?_) (AllReadyH.cons rfl (fun K hK => ?_) (AllReadyH.cons rfl (fun K hK => ?_) (AllReadyH.nil)))
          · refine step_call rfl 41 entC _ _ rfl #[.slice aa ks.length cap] _ (specCopy ks (.slice aa ks.length cap) x1 HW.out Q2.out (AT.out _ MM.out.bb)) (by first | rfl | (simp [Act.eval, Act.put]; done)) ?_
            rintro e x2 ⟨⟨fv, rfl, hrep⟩, hb⟩
            refine ⟨_, rfl, ?_⟩
            obtain ⟨af, cf, hfv⟩ := sslice_cells hrep
            simp only [List.cons.injEq, and_true] at hfv
            subst hfv
            obtain ⟨lF, hF, hlF, hhF, FFx⟩ := funs_made hrep
            have Z2 : Hid (x1.heap.size ≤ x2.heap.size ∧ lF = x1.heap.size ∧ hF = x2.heap.size) := ⟨hb.size, hlF, hhF⟩
            have FF := hidv FFx
            replace MM : Hid (MK w x2 hk lo0 aw W.length cw half base next (newF n).1) := MM.out.on hb
            replace FC := hidv (FC.out.on hb)
            refine hK.out _ _ MM.out.cells (fun hS2 => ?_)
            clear hK K hb hrep hlF hhF FFx
            try simp only [Act.put, List.getElem_toArray, List.getElem_cons_succ, List.getElem_cons_zero, List.setIfInBounds_toArray, List.set_cons_zero, List.set_cons_succ]
            refine wpAnyH_ready (rs := [3, 8]) (by kernel_rfl) (by simp) ?_
            refine AllReadyH.cons rfl (fun K hK => ?_) (AllReadyH.cons rfl (fun K hK => ?_) (AllReadyH.nil))
            · refine step_words rfl (.const (.int .i64 1)) (.const (.int .i64 1)) rfl (by first | rfl | (simp [Act.eval, Act.put]; done)) (by first | rfl | (simp [Act.eval, Act.put]; done)) ?_
              intro gI x3 hg hb hblk hz
              have Z3 : Hid (x2.heap.size + 1 = x3.heap.size ∧ gI = x2.heap.size) := ⟨hz, hg⟩
              have FI : Hid (BlkV x3 gI #[.int .i64 1, .int .i64 1] 3) := hblk
              replace MM : Hid (MK w x3 hk lo0 aw W.length cw half base next (newF n).1) := MM.out.on hb
              replace FC := hidv (FC.out.on hb)
              replace FF := hidv (FF.out.on hb)
              refine hK.out _ _ MM.out.cells (fun hS3 => ?_)
              clear hK K hb hg hblk hz
              try simp only [Act.put, List.getElem_toArray, List.getElem_cons_succ, List.getElem_cons_zero, List.setIfInBounds_toArray, List.set_cons_zero, List.set_cons_succ]
              refine wpAnyH_take (i := 7) (v := .agg #[.slice af ks.length cf, .slice aw W.length cw, .int .i64 half, .int .i64 base, .int .i64 next, .slice (some ⟨gI, 0, none⟩) 2 2, .slice (some ⟨gC, 0, none⟩) 1 1, .slice none 0 0, .int .i64 0, .bool each]) rfl (by kernel_rfl) (by kernel_rfl) (by kernel_rfl) (fun _ _ _ h => h) (Or.inl ⟨by kernel_rfl, ?_⟩) hS3 ?_
              · intro W' hSw
                obtain ⟨s0, s1, s2, s3⟩ := hSw
                go_simp
              try simp only [Act.put, List.getElem_toArray, List.getElem_cons_succ, List.getElem_cons_zero, List.setIfInBounds_toArray, List.set_cons_zero, List.set_cons_succ]
              refine wpAnyH_ready (rs := [8]) (by kernel_rfl) (by simp) ?_
              refine AllReadyH.cons rfl (fun K hK => ?_) (AllReadyH.nil)
              · refine step_vm rfl rfl ?_
                intro gV x4 hg hb hblk hz
                have Z4 : Hid (x3.heap.size + 1 = x4.heap.size ∧ gV = x3.heap.size) := ⟨hz, hg⟩
                have FV : Hid (BlkV x4 gV #[.slice none 0 0, .slice none 0 0, .int .i64 0, .int .i64 0, .int .i64 0, .slice none 0 0, .slice none 0 0, .slice none 0 0, .int .i64 0, .bool false] 35) := hblk
                replace MM : Hid (MK w x4 hk lo0 aw W.length cw half base next (newF n).1) := MM.out.on hb
                replace FC := hidv (FC.out.on hb)
                replace FF := hidv (FF.out.on hb)
                replace FI := hidv (FI.out.on hb)
                refine hK.out _ _ MM.out.cells (fun hS4 => ?_)
                clear hK K hb hg hblk hz
                try simp only [Act.put, List.getElem_toArray, List.getElem_cons_succ, List.getElem_cons_zero, List.setIfInBounds_toArray, List.set_cons_zero, List.set_cons_succ]
                refine wpAnyH_ready (rs := [9]) (by kernel_rfl) (by simp) ?_
                refine AllReadyH.cons rfl (fun K hK => ?_) AllReadyH.nil
                have ar : hk < gI ∧ hk < gC ∧ hk < gV ∧ gI ≠ gC ∧ gI ≠ gV ∧ gC ≠ gV ∧ hk < lF ∧ (gI < lF ∨ hF ≤ gI) ∧ (gC < lF ∨ hF ≤ gC) ∧ (gV < lF ∨ hF ≤ gV) := by
                  have := Z0.out
                  have := Z1.out
                  have := Z2.out
                  have := Z3.out
                  have := Z4.out
                  omega
                have hfv : x4.heap[gV]? = some (.cells #[.slice none 0 0, .slice none 0 0, .int .i64 0, .int .i64 0, .int .i64 0, .slice none 0 0, .slice none 0 0, .slice none 0 0, .int .i64 0, .bool false] 35) := FV.out
                refine step_write (g := gV) (t := 35) (u0 := .slice none 0 0) (u1 := .slice none 0 0) (u2 := .int .i64 0) (u3 := .int .i64 0) (u4 := .int .i64 0) (u5 := .slice none 0 0) (u6 := .slice none 0 0) (u7 := .slice none 0 0) (u8 := .int .i64 0) (u9 := .bool false) (b0 := af) (l0 := ks.length) (k0 := cf) (b1 := aw) (l1 := W.length) (k1 := cw) (n2 := half) (n3 := base) (n4 := next) (b5 := some ⟨gI, 0, none⟩) (l5 := 2) (k5 := 2) (b6 := some ⟨gC, 0, none⟩) (l6 := 1) (k6 := 1) (b7 := none) (l7 := 0) (k7 := 0) (n8 := 0) (n9 := each) rfl rfl (.tmp 10) (.tmp 31) rfl (by first | rfl | (simp [Act.eval, Act.put]; done)) (by first | rfl | (simp [Act.eval, Act.put]; done)) hfv ?_
                clear hfv
                intro x5 hv ho hz hbl
                have NX := hidv (leaf ar MM.out FI.out FC.out FF.out hv ho hz hbl)
                refine hK.out _ _ NX.out.1.cells (fun hS5 => ?_)
                clear hK K hv ho hz hbl ar
                refine wpAnyH_done (by kernel_rfl) ?_ _
                go_wp2_with fail
                go_meet
                exact ⟨gI, gC, gV, af, cf, lF, hF, rfl, NX⟩
            · refine step_vm rfl rfl ?_
              intro gV x3 hg hb hblk hz
              have Z3 : Hid (x2.heap.size + 1 = x3.heap.size ∧ gV = x2.heap.size) := ⟨hz, hg⟩
              have FV : Hid (BlkV x3 gV #[.slice none 0 0, .slice none 0 0, .int .i64 0, .int .i64 0, .int .i64 0, .slice none 0 0, .slice none 0 0, .slice none 0 0, .int .i64 0, .bool false] 35) := hblk
              replace MM : Hid (MK w x3 hk lo0 aw W.length cw half base next (newF n).1) := MM.out.on hb
              replace FC := hidv (FC.out.on hb)
              replace FF := hidv (FF.out.on hb)
              refine hK.out _ _ MM.out.cells (fun hS3 => ?_)
              clear hK K hb hg hblk hz
              try simp only [Act.put, List.getElem_toArray, List.getElem_cons_succ, List.getElem_cons_zero, List.setIfInBounds_toArray, List.set_cons_zero, List.set_cons_succ]
              refine wpAnyH_ready (rs := [3]) (by kernel_rfl) (by simp) ?_
              refine AllReadyH.cons rfl (fun K hK => ?_) (AllReadyH.nil)
              · refine step_words rfl (.const (.int .i64 1)) (.const (.int .i64 1)) rfl (by first | rfl | (simp [Act.eval, Act.put]; done)) (by first | rfl | (simp [Act.eval, Act.put]; done)) ?_
                intro gI x4 hg hb hblk hz
                have Z4 : Hid (x3.heap.size + 1 = x4.heap.size ∧ gI = x3.heap.size) := ⟨hz, hg⟩
                have FI : Hid (BlkV x4 gI #[.int .i64 1, .int .i64 1] 3) := hblk
                replace MM : Hid (MK w x4 hk lo0 aw W.length cw half base next (newF n).1) := MM.out.on hb
                replace FC := hidv (FC.out.on hb)
                replace FF := hidv (FF.out.on hb)
                replace FV := hidv (FV.out.on hb)
                refine hK.out _ _ MM.out.cells (fun hS4 => ?_)
                clear hK K hb hg hblk hz
                try simp only [Act.put, List.getElem_toArray, List.getElem_cons_succ, List.getElem_cons_zero, List.setIfInBounds_toArray, List.set_cons_zero, List.set_cons_succ]
                refine wpAnyH_take (i := 7) (v := .agg #[.slice af ks.length cf, .slice aw W.length cw, .int .i64 half, .int .i64 base, .int .i64 next, .slice (some ⟨gI, 0, none⟩) 2 2, .slice (some ⟨gC, 0, none⟩) 1 1, .slice none 0 0, .int .i64 0, .bool each]) rfl (by kernel_rfl) (by kernel_rfl) (by kernel_rfl) (fun _ _ _ h => h) (Or.inl ⟨by kernel_rfl, ?_⟩) hS4 ?_
                · intro W' hSw
                  obtain ⟨s0, s1, s2, s3⟩ := hSw
                  go_simp
                try simp only [Act.put, List.getElem_toArray, List.getElem_cons_succ, List.getElem_cons_zero, List.setIfInBounds_toArray, List.set_cons_zero, List.set_cons_succ]
                refine wpAnyH_ready (rs := [9]) (by kernel_rfl) (by simp) ?_
                refine AllReadyH.cons rfl (fun K hK => ?_) AllReadyH.nil
                have ar : hk < gI ∧ hk < gC ∧ hk < gV ∧ gI ≠ gC ∧ gI ≠ gV ∧ gC ≠ gV ∧ hk < lF ∧ (gI < lF ∨ hF ≤ gI) ∧ (gC < lF ∨ hF ≤ gC) ∧ (gV < lF ∨ hF ≤ gV) := by
                  have := Z0.out
                  have := Z1.out
                  have := Z2.out
                  have := Z3.out
                  have := Z4.out
                  omega
                have hfv : x4.heap[gV]? = some (.cells #[.slice none 0 0, .slice none 0 0, .int .i64 0, .int .i64 0, .int .i64 0, .slice none 0 0, .slice none 0 0, .slice none 0 0, .int .i64 0, .bool false] 35) := FV.out
                refine step_write (g := gV) (t := 35) (u0 := .slice none 0 0) (u1 := .slice none 0 0) (u2 := .int .i64 0) (u3 := .int .i64 0) (u4 := .int .i64 0) (u5 := .slice none 0 0) (u6 := .slice none 0 0) (u7 := .slice none 0 0) (u8 := .int .i64 0) (u9 := .bool false) (b0 := af) (l0 := ks.length) (k0 := cf) (b1 := aw) (l1 := W.length) (k1 := cw) (n2 := half) (n3 := base) (n4 := next) (b5 := some ⟨gI, 0, none⟩) (l5 := 2) (k5 := 2) (b6 := some ⟨gC, 0, none⟩) (l6 := 1) (k6 := 1) (b7 := none) (l7 := 0) (k7 := 0) (n8 := 0) (n9 := each) rfl rfl (.tmp 10) (.tmp 31) rfl (by first | rfl | (simp [Act.eval, Act.put]; done)) (by first | rfl | (simp [Act.eval, Act.put]; done)) hfv ?_
                clear hfv
                intro x5 hv ho hz hbl
                have NX := hidv (leaf ar MM.out FI.out FC.out FF.out hv ho hz hbl)
                refine hK.out _ _ NX.out.1.cells (fun hS5 => ?_)
                clear hK K hv ho hz hbl ar
                refine wpAnyH_done (by kernel_rfl) ?_ _
                go_wp2_with fail
                go_meet
                exact ⟨gI, gC, gV, af, cf, lF, hF, rfl, NX⟩
          · refine step_words rfl (.const (.int .i64 1)) (.const (.int .i64 1)) rfl (by first | rfl | (simp [Act.eval, Act.put]; done)) (by first | rfl | (simp [Act.eval, Act.put]; done)) ?_
            intro gI x2 hg hb hblk hz
            have Z2 : Hid (x1.heap.size + 1 = x2.heap.size ∧ gI = x1.heap.size) := ⟨hz, hg⟩
            have FI : Hid (BlkV x2 gI #[.int .i64 1, .int .i64 1] 3) := hblk
            replace MM : Hid (MK w x2 hk lo0 aw W.length cw half base next (newF n).1) := MM.out.on hb
            replace FC := hidv (FC.out.on hb)
            refine hK.out _ _ MM.out.cells (fun hS2 => ?_)
            clear hK K hb hg hblk hz
            try simp only [Act.put, List.getElem_toArray, List.getElem_cons_succ, List.getElem_cons_zero, List.setIfInBounds_toArray, List.set_cons_zero, List.set_cons_succ]
            refine wpAnyH_ready (rs := [1, 8]) (by kernel_rfl) (by simp) ?_
            refine AllReadyH.cons rfl (fun K hK => ?_) (AllReadyH.cons rfl (fun K hK => ?_) (AllReadyH.nil))
            · refine step_call rfl 41 entC _ _ rfl #[.slice aa ks.length cap] _ (specCopy ks (.slice aa ks.length cap) x2 HW.out Q2.out (AT.out _ MM.out.bb)) (by first | rfl | (simp [Act.eval, Act.put]; done)) ?_
              rintro e x3 ⟨⟨fv, rfl, hrep⟩, hb⟩
              refine ⟨_, rfl, ?_⟩
              obtain ⟨af, cf, hfv⟩ := sslice_cells hrep
              simp only [List.cons.injEq, and_true] at hfv
              subst hfv
              obtain ⟨lF, hF, hlF, hhF, FFx⟩ := funs_made hrep
              have Z3 : Hid (x2.heap.size ≤ x3.heap.size ∧ lF = x2.heap.size ∧ hF = x3.heap.size) := ⟨hb.size, hlF, hhF⟩
              have FF := hidv FFx
              replace MM : Hid (MK w x3 hk lo0 aw W.length cw half base next (newF n).1) := MM.out.on hb
              replace FC := hidv (FC.out.on hb)
              replace FI := hidv (FI.out.on hb)
              refine hK.out _ _ MM.out.cells (fun hS3 => ?_)
              clear hK K hb hrep hlF hhF FFx
              try simp only [Act.put, List.getElem_toArray, List.getElem_cons_succ, List.getElem_cons_zero, List.setIfInBounds_toArray, List.set_cons_zero, List.set_cons_succ]
              refine wpAnyH_take (i := 7) (v := .agg #[.slice af ks.length cf, .slice aw W.length cw, .int .i64 half, .int .i64 base, .int .i64 next, .slice (some ⟨gI, 0, none⟩) 2 2, .slice (some ⟨gC, 0, none⟩) 1 1, .slice none 0 0, .int .i64 0, .bool each]) rfl (by kernel_rfl) (by kernel_rfl) (by kernel_rfl) (fun _ _ _ h => h) (Or.inl ⟨by kernel_rfl, ?_⟩) hS3 ?_
              · intro W' hSw
                obtain ⟨s0, s1, s2, s3⟩ := hSw
                go_simp
              try simp only [Act.put, List.getElem_toArray, List.getElem_cons_succ, List.getElem_cons_zero, List.setIfInBounds_toArray, List.set_cons_zero, List.set_cons_succ]
              refine wpAnyH_ready (rs := [8]) (by kernel_rfl) (by simp) ?_
              refine AllReadyH.cons rfl (fun K hK => ?_) (AllReadyH.nil)
              · refine step_vm rfl rfl ?_
                intro gV x4 hg hb hblk hz
                have Z4 : Hid (x3.heap.size + 1 = x4.heap.size ∧ gV = x3.heap.size) := ⟨hz, hg⟩
                have FV : Hid (BlkV x4 gV #[.slice none 0 0, .slice none 0 0, .int .i64 0, .int .i64 0, .int .i64 0, .slice none 0 0, .slice none 0 0, .slice none 0 0, .int .i64 0, .bool false] 35) := hblk
                replace MM : Hid (MK w x4 hk lo0 aw W.length cw half base next (newF n).1) := MM.out.on hb
                replace FC := hidv (FC.out.on hb)
                replace FI := hidv (FI.out.on hb)
                replace FF := hidv (FF.out.on hb)
                refine hK.out _ _ MM.out.cells (fun hS4 => ?_)
                clear hK K hb hg hblk hz
                try simp only [Act.put, List.getElem_toArray, List.getElem_cons_succ, List.getElem_cons_zero, List.setIfInBounds_toArray, List.set_cons_zero, List.set_cons_succ]
                refine wpAnyH_ready (rs := [9]) (by kernel_rfl) (by simp) ?_
                refine AllReadyH.cons rfl (fun K hK => ?_) AllReadyH.nil
                have ar : hk < gI ∧ hk < gC ∧ hk < gV ∧ gI ≠ gC ∧ gI ≠ gV ∧ gC ≠ gV ∧ hk < lF ∧ (gI < lF ∨ hF ≤ gI) ∧ (gC < lF ∨ hF ≤ gC) ∧ (gV < lF ∨ hF ≤ gV) := by
                  have := Z0.out
                  have := Z1.out
                  have := Z2.out
                  have := Z3.out
                  have := Z4.out
                  omega
                have hfv : x4.heap[gV]? = some (.cells #[.slice none 0 0, .slice none 0 0, .int .i64 0, .int .i64 0, .int .i64 0, .slice none 0 0, .slice none 0 0, .slice none 0 0, .int .i64 0, .bool false] 35) := FV.out
                refine step_write (g := gV) (t := 35) (u0 := .slice none 0 0) (u1 := .slice none 0 0) (u2 := .int .i64 0) (u3 := .int .i64 0) (u4 := .int .i64 0) (u5 := .slice none 0 0) (u6 := .slice none 0 0) (u7 := .slice none 0 0) (u8 := .int .i64 0) (u9 := .bool false) (b0 := af) (l0 := ks.length) (k0 := cf) (b1 := aw) (l1 := W.length) (k1 := cw) (n2 := half) (n3 := base) (n4 := next) (b5 := some ⟨gI, 0, none⟩) (l5 := 2) (k5 := 2) (b6 := some ⟨gC, 0, none⟩) (l6 := 1) (k6 := 1) (b7 := none) (l7 := 0) (k7 := 0) (n8 := 0) (n9 := each) rfl rfl (.tmp 10) (.tmp 31) rfl (by first | rfl | (simp [Act.eval, Act.put]; done)) (by first | rfl | (simp [Act.eval, Act.put]; done)) hfv ?_
                clear hfv
                intro x5 hv ho hz hbl
                have NX := hidv (leaf ar MM.out FI.out FC.out FF.out hv ho hz hbl)
                refine hK.out _ _ NX.out.1.cells (fun hS5 => ?_)
                clear hK K hv ho hz hbl ar
                refine wpAnyH_done (by kernel_rfl) ?_ _
                go_wp2_with fail
                go_meet
                exact ⟨gI, gC, gV, af, cf, lF, hF, rfl, NX⟩
            · refine step_vm rfl rfl ?_
              intro gV x3 hg hb hblk hz
              have Z3 : Hid (x2.heap.size + 1 = x3.heap.size ∧ gV = x2.heap.size) := ⟨hz, hg⟩
              have FV : Hid (BlkV x3 gV #[.slice none 0 0, .slice none 0 0, .int .i64 0, .int .i64 0, .int .i64 0, .slice none 0 0, .slice none 0 0, .slice none 0 0, .int .i64 0, .bool false] 35) := hblk
              replace MM : Hid (MK w x3 hk lo0 aw W.length cw half base next (newF n).1) := MM.out.on hb
              replace FC := hidv (FC.out.on hb)
              replace FI := hidv (FI.out.on hb)
              refine hK.out _ _ MM.out.cells (fun hS3 => ?_)
              clear hK K hb hg hblk hz
              try simp only [Act.put, List.getElem_toArray, List.getElem_cons_succ, List.getElem_cons_zero, List.setIfInBounds_toArray, List.set_cons_zero, List.set_cons_succ]
              refine wpAnyH_ready (rs := [1]) (by kernel_rfl) (by simp) ?_
              refine AllReadyH.cons rfl (fun K hK => ?_) (AllReadyH.nil)
              · refine step_call rfl 41 entC _ _ rfl #[.slice aa ks.length cap] _ (specCopy ks (.slice aa ks.length cap) x3 HW.out Q2.out (AT.out _ MM.out.bb)) (by first | rfl | (simp [Act.eval, Act.put]; done)) ?_
                rintro e x4 ⟨⟨fv, rfl, hrep⟩, hb⟩
                refine ⟨_, rfl, ?_⟩
                obtain ⟨af, cf, hfv⟩ := sslice_cells hrep
                simp only [List.cons.injEq, and_true] at hfv
                subst hfv
                obtain ⟨lF, hF, hlF, hhF, FFx⟩ := funs_made hrep
                have Z4 : Hid (x3.heap.size ≤ x4.heap.size ∧ lF = x3.heap.size ∧ hF = x4.heap.size) := ⟨hb.size, hlF, hhF⟩
                have FF := hidv FFx
                replace MM : Hid (MK w x4 hk lo0 aw W.length cw half base next (newF n).1) := MM.out.on hb
                replace FC := hidv (FC.out.on hb)
                replace FI := hidv (FI.out.on hb)
                replace FV := hidv (FV.out.on hb)
                refine hK.out _ _ MM.out.cells (fun hS4 => ?_)
                clear hK K hb hrep hlF hhF FFx
                try simp only [Act.put, List.getElem_toArray, List.getElem_cons_succ, List.getElem_cons_zero, List.setIfInBounds_toArray, List.set_cons_zero, List.set_cons_succ]
                refine wpAnyH_take (i := 7) (v := .agg #[.slice af ks.length cf, .slice aw W.length cw, .int .i64 half, .int .i64 base, .int .i64 next, .slice (some ⟨gI, 0, none⟩) 2 2, .slice (some ⟨gC, 0, none⟩) 1 1, .slice none 0 0, .int .i64 0, .bool each]) rfl (by kernel_rfl) (by kernel_rfl) (by kernel_rfl) (fun _ _ _ h => h) (Or.inl ⟨by kernel_rfl, ?_⟩) hS4 ?_
                · intro W' hSw
                  obtain ⟨s0, s1, s2, s3⟩ := hSw
                  go_simp
                try simp only [Act.put, List.getElem_toArray, List.getElem_cons_succ, List.getElem_cons_zero, List.setIfInBounds_toArray, List.set_cons_zero, List.set_cons_succ]
                refine wpAnyH_ready (rs := [9]) (by kernel_rfl) (by simp) ?_
                refine AllReadyH.cons rfl (fun K hK => ?_) AllReadyH.nil
                have ar : hk < gI ∧ hk < gC ∧ hk < gV ∧ gI ≠ gC ∧ gI ≠ gV ∧ gC ≠ gV ∧ hk < lF ∧ (gI < lF ∨ hF ≤ gI) ∧ (gC < lF ∨ hF ≤ gC) ∧ (gV < lF ∨ hF ≤ gV) := by
                  have := Z0.out
                  have := Z1.out
                  have := Z2.out
                  have := Z3.out
                  have := Z4.out
                  omega
                have hfv : x4.heap[gV]? = some (.cells #[.slice none 0 0, .slice none 0 0, .int .i64 0, .int .i64 0, .int .i64 0, .slice none 0 0, .slice none 0 0, .slice none 0 0, .int .i64 0, .bool false] 35) := FV.out
                refine step_write (g := gV) (t := 35) (u0 := .slice none 0 0) (u1 := .slice none 0 0) (u2 := .int .i64 0) (u3 := .int .i64 0) (u4 := .int .i64 0) (u5 := .slice none 0 0) (u6 := .slice none 0 0) (u7 := .slice none 0 0) (u8 := .int .i64 0) (u9 := .bool false) (b0 := af) (l0 := ks.length) (k0 := cf) (b1 := aw) (l1 := W.length) (k1 := cw) (n2 := half) (n3 := base) (n4 := next) (b5 := some ⟨gI, 0, none⟩) (l5 := 2) (k5 := 2) (b6 := some ⟨gC, 0, none⟩) (l6 := 1) (k6 := 1) (b7 := none) (l7 := 0) (k7 := 0) (n8 := 0) (n9 := each) rfl rfl (.tmp 10) (.tmp 31) rfl (by first | rfl | (simp [Act.eval, Act.put]; done)) (by first | rfl | (simp [Act.eval, Act.put]; done)) hfv ?_
                clear hfv
                intro x5 hv ho hz hbl
                have NX := hidv (leaf ar MM.out FI.out FC.out FF.out hv ho hz hbl)
                refine hK.out _ _ NX.out.1.cells (fun hS5 => ?_)
                clear hK K hv ho hz hbl ar
                refine wpAnyH_done (by kernel_rfl) ?_ _
                go_wp2_with fail
                go_meet
                exact ⟨gI, gC, gV, af, cf, lF, hF, rfl, NX⟩
          · refine step_vm rfl rfl ?_
            intro gV x2 hg hb hblk hz
            have Z2 : Hid (x1.heap.size + 1 = x2.heap.size ∧ gV = x1.heap.size) := ⟨hz, hg⟩
            have FV : Hid (BlkV x2 gV #[.slice none 0 0, .slice none 0 0, .int .i64 0, .int .i64 0, .int .i64 0, .slice none 0 0, .slice none 0 0, .slice none 0 0, .int .i64 0, .bool false] 35) := hblk
            replace MM : Hid (MK w x2 hk lo0 aw W.length cw half base next (newF n).1) := MM.out.on hb
            replace FC := hidv (FC.out.on hb)
            refine hK.out _ _ MM.out.cells (fun hS2 => ?_)
            clear hK K hb hg hblk hz
            try simp only [Act.put, List.getElem_toArray, List.getElem_cons_succ, List.getElem_cons_zero, List.setIfInBounds_toArray, List.set_cons_zero, List.set_cons_succ]
            refine wpAnyH_ready (rs := [1, 3]) (by kernel_rfl) (by simp) ?_
            refine AllReadyH.cons rfl (fun K hK => ?_) (AllReadyH.cons rfl (fun K hK => ?_) (AllReadyH.nil))
            · refine step_call rfl 41 entC _ _ rfl #[.slice aa ks.length cap] _ (specCopy ks (.slice aa ks.length cap) x2 HW.out Q2.out (AT.out _ MM.out.bb)) (by first | rfl | (simp [Act.eval, Act.put]; done)) ?_
              rintro e x3 ⟨⟨fv, rfl, hrep⟩, hb⟩
              refine ⟨_, rfl, ?_⟩
              obtain ⟨af, cf, hfv⟩ := sslice_cells hrep
              simp only [List.cons.injEq, and_true] at hfv
              subst hfv
              obtain ⟨lF, hF, hlF, hhF, FFx⟩ := funs_made hrep
              have Z3 : Hid (x2.heap.size ≤ x3.heap.size ∧ lF = x2.heap.size ∧ hF = x3.heap.size) := ⟨hb.size, hlF, hhF⟩
              have FF := hidv FFx
              replace MM : Hid (MK w x3 hk lo0 aw W.length cw half base next (newF n).1) := MM.out.on hb
              replace FC := hidv (FC.out.on hb)
              replace FV := hidv (FV.out.on hb)
              refine hK.out _ _ MM.out.cells (fun hS3 => ?_)
              clear hK K hb hrep hlF hhF FFx
              try simp only [Act.put, List.getElem_toArray, List.getElem_cons_succ, List.getElem_cons_zero, List.setIfInBounds_toArray, List.set_cons_zero, List.set_cons_succ]
              refine wpAnyH_ready (rs := [3]) (by kernel_rfl) (by simp) ?_
              refine AllReadyH.cons rfl (fun K hK => ?_) (AllReadyH.nil)
              · refine step_words rfl (.const (.int .i64 1)) (.const (.int .i64 1)) rfl (by first | rfl | (simp [Act.eval, Act.put]; done)) (by first | rfl | (simp [Act.eval, Act.put]; done)) ?_
                intro gI x4 hg hb hblk hz
                have Z4 : Hid (x3.heap.size + 1 = x4.heap.size ∧ gI = x3.heap.size) := ⟨hz, hg⟩
                have FI : Hid (BlkV x4 gI #[.int .i64 1, .int .i64 1] 3) := hblk
                replace MM : Hid (MK w x4 hk lo0 aw W.length cw half base next (newF n).1) := MM.out.on hb
                replace FC := hidv (FC.out.on hb)
                replace FV := hidv (FV.out.on hb)
                replace FF := hidv (FF.out.on hb)
                refine hK.out _ _ MM.out.cells (fun hS4 => ?_)
                clear hK K hb hg hblk hz
                try simp only [Act.put, List.getElem_toArray, List.getElem_cons_succ, List.getElem_cons_zero, List.setIfInBounds_toArray, List.set_cons_zero, List.set_cons_succ]
                refine wpAnyH_take (i := 7) (v := .agg #[.slice af ks.length cf, .slice aw W.length cw, .int .i64 half, .int .i64 base, .int .i64 next, .slice (some ⟨gI, 0, none⟩) 2 2, .slice (some ⟨gC, 0, none⟩) 1 1, .slice none 0 0, .int .i64 0, .bool each]) rfl (by kernel_rfl) (by kernel_rfl) (by kernel_rfl) (fun _ _ _ h => h) (Or.inl ⟨by kernel_rfl, ?_⟩) hS4 ?_
                · intro W' hSw
                  obtain ⟨s0, s1, s2, s3⟩ := hSw
                  go_simp
                try simp only [Act.put, List.getElem_toArray, List.getElem_cons_succ, List.getElem_cons_zero, List.setIfInBounds_toArray, List.set_cons_zero, List.set_cons_succ]
                refine wpAnyH_ready (rs := [9]) (by kernel_rfl) (by simp) ?_
                refine AllReadyH.cons rfl (fun K hK => ?_) AllReadyH.nil
                have ar : hk < gI ∧ hk < gC ∧ hk < gV ∧ gI ≠ gC ∧ gI ≠ gV ∧ gC ≠ gV ∧ hk < lF ∧ (gI < lF ∨ hF ≤ gI) ∧ (gC < lF ∨ hF ≤ gC) ∧ (gV < lF ∨ hF ≤ gV) := by
                  have := Z0.out
                  have := Z1.out
                  have := Z2.out
                  have := Z3.out
                  have := Z4.out
                  omega
                have hfv : x4.heap[gV]? = some (.cells #[.slice none 0 0, .slice none 0 0, .int .i64 0, .int .i64 0, .int .i64 0, .slice none 0 0, .slice none 0 0, .slice none 0 0, .int .i64 0, .bool false] 35) := FV.out
                refine step_write (g := gV) (t := 35) (u0 := .slice none 0 0) (u1 := .slice none 0 0) (u2 := .int .i64 0) (u3 := .int .i64 0) (u4 := .int .i64 0) (u5 := .slice none 0 0) (u6 := .slice none 0 0) (u7 := .slice none 0 0) (u8 := .int .i64 0) (u9 := .bool false) (b0 := af) (l0 := ks.length) (k0 := cf) (b1 := aw) (l1 := W.length) (k1 := cw) (n2 := half) (n3 := base) (n4 := next) (b5 := some ⟨gI, 0, none⟩) (l5 := 2) (k5 := 2) (b6 := some ⟨gC, 0, none⟩) (l6 := 1) (k6 := 1) (b7 := none) (l7 := 0) (k7 := 0) (n8 := 0) (n9 := each) rfl rfl (.tmp 10) (.tmp 31) rfl (by first | rfl | (simp [Act.eval, Act.put]; done)) (by first | rfl | (simp [Act.eval, Act.put]; done)) hfv ?_
                clear hfv
                intro x5 hv ho hz hbl
                have NX := hidv (leaf ar MM.out FI.out FC.out FF.out hv ho hz hbl)
                refine hK.out _ _ NX.out.1.cells (fun hS5 => ?_)
                clear hK K hv ho hz hbl ar
                refine wpAnyH_done (by kernel_rfl) ?_ _
                go_wp2_with fail
                go_meet
                exact ⟨gI, gC, gV, af, cf, lF, hF, rfl, NX⟩
            · refine step_words rfl (.const (.int .i64 1)) (.const (.int .i64 1)) rfl (by first | rfl | (simp [Act.eval, Act.put]; done)) (by first | rfl | (simp [Act.eval, Act.put]; done)) ?_
              intro gI x3 hg hb hblk hz
              have Z3 : Hid (x2.heap.size + 1 = x3.heap.size ∧ gI = x2.heap.size) := ⟨hz, hg⟩
              have FI : Hid (BlkV x3 gI #[.int .i64 1, .int .i64 1] 3) := hblk
              replace MM : Hid (MK w x3 hk lo0 aw W.length cw half base next (newF n).1) := MM.out.on hb
              replace FC := hidv (FC.out.on hb)
              replace FV := hidv (FV.out.on hb)
              refine hK.out _ _ MM.out.cells (fun hS3 => ?_)
              clear hK K hb hg hblk hz
              try simp only [Act.put, List.getElem_toArray, List.getElem_cons_succ, List.getElem_cons_zero, List.setIfInBounds_toArray, List.set_cons_zero, List.set_cons_succ]
              refine wpAnyH_ready (rs := [1]) (by kernel_rfl) (by simp) ?_
              refine AllReadyH.cons rfl (fun K hK => ?_) (AllReadyH.nil)
              · refine step_call rfl 41 entC _ _ rfl #[.slice aa ks.length cap] _ (specCopy ks (.slice aa ks.length cap) x3 HW.out Q2.out (AT.out _ MM.out.bb)) (by first | rfl | (simp [Act.eval, Act.put]; done)) ?_
                rintro e x4 ⟨⟨fv, rfl, hrep⟩, hb⟩
                refine ⟨_, rfl, ?_⟩
                obtain ⟨af, cf, hfv⟩ := sslice_cells hrep
                simp only [List.cons.injEq, and_true] at hfv
                subst hfv
                obtain ⟨lF, hF, hlF, hhF, FFx⟩ := funs_made hrep
                have Z4 : Hid (x3.heap.size ≤ x4.heap.size ∧ lF = x3.heap.size ∧ hF = x4.heap.size) := ⟨hb.size, hlF, hhF⟩
                have FF := hidv FFx
                replace MM : Hid (MK w x4 hk lo0 aw W.length cw half base next (newF n).1) := MM.out.on hb
                replace FC := hidv (FC.out.on hb)
                replace FV := hidv (FV.out.on hb)
                replace FI := hidv (FI.out.on hb)
                refine hK.out _ _ MM.out.cells (fun hS4 => ?_)
                clear hK K hb hrep hlF hhF FFx
                try simp only [Act.put, List.getElem_toArray, List.getElem_cons_succ, List.getElem_cons_zero, List.setIfInBounds_toArray, List.set_cons_zero, List.set_cons_succ]
                refine wpAnyH_take (i := 7) (v := .agg #[.slice af ks.length cf, .slice aw W.length cw, .int .i64 half, .int .i64 base, .int .i64 next, .slice (some ⟨gI, 0, none⟩) 2 2, .slice (some ⟨gC, 0, none⟩) 1 1, .slice none 0 0, .int .i64 0, .bool each]) rfl (by kernel_rfl) (by kernel_rfl) (by kernel_rfl) (fun _ _ _ h => h) (Or.inl ⟨by kernel_rfl, ?_⟩) hS4 ?_
                · intro W' hSw
                  obtain ⟨s0, s1, s2, s3⟩ := hSw
                  go_simp
                try simp only [Act.put, List.getElem_toArray, List.getElem_cons_succ, List.getElem_cons_zero, List.setIfInBounds_toArray, List.set_cons_zero, List.set_cons_succ]
                refine wpAnyH_ready (rs := [9]) (by kernel_rfl) (by simp) ?_
                refine AllReadyH.cons rfl (fun K hK => ?_) AllReadyH.nil
                have ar : hk < gI ∧ hk < gC ∧ hk < gV ∧ gI ≠ gC ∧ gI ≠ gV ∧ gC ≠ gV ∧ hk < lF ∧ (gI < lF ∨ hF ≤ gI) ∧ (gC < lF ∨ hF ≤ gC) ∧ (gV < lF ∨ hF ≤ gV) := by
                  have := Z0.out
                  have := Z1.out
                  have := Z2.out
                  have := Z3.out
                  have := Z4.out
                  omega
                have hfv : x4.heap[gV]? = some (.cells #[.slice none 0 0, .slice none 0 0, .int .i64 0, .int .i64 0, .int .i64 0, .slice none 0 0, .slice none 0 0, .slice none 0 0, .int .i64 0, .bool false] 35) := FV.out
                refine step_write (g := gV) (t := 35) (u0 := .slice none 0 0) (u1 := .slice none 0 0) (u2 := .int .i64 0) (u3 := .int .i64 0) (u4 := .int .i64 0) (u5 := .slice none 0 0) (u6 := .slice none 0 0) (u7 := .slice none 0 0) (u8 := .int .i64 0) (u9 := .bool false) (b0 := af) (l0 := ks.length) (k0 := cf) (b1 := aw) (l1 := W.length) (k1 := cw) (n2 := half) (n3 := base) (n4 := next) (b5 := some ⟨gI, 0, none⟩) (l5 := 2) (k5 := 2) (b6 := some ⟨gC, 0, none⟩) (l6 := 1) (k6 := 1) (b7 := none) (l7 := 0) (k7 := 0) (n8 := 0) (n9 := each) rfl rfl (.tmp 10) (.tmp 31) rfl (by first | rfl | (simp [Act.eval, Act.put]; done)) (by first | rfl | (simp [Act.eval, Act.put]; done)) hfv ?_
                clear hfv
                intro x5 hv ho hz hbl
                have NX := hidv (leaf ar MM.out FI.out FC.out FF.out hv ho hz hbl)
                refine hK.out _ _ NX.out.1.cells (fun hS5 => ?_)
                clear hK K hv ho hz hbl ar
                refine wpAnyH_done (by kernel_rfl) ?_ _
                go_wp2_with fail
                go_meet
                exact ⟨gI, gC, gV, af, cf, lF, hF, rfl, NX⟩
        · refine step_vm rfl rfl ?_
          intro gV x1 hg hb hblk hz
          have Z1 : Hid (x0.heap.size + 1 = x1.heap.size ∧ gV = x0.heap.size) := ⟨hz, hg⟩
          have FV : Hid (BlkV x1 gV #[.slice none 0 0, .slice none 0 0, .int .i64 0, .int .i64 0, .int .i64 0, .slice none 0 0, .slice none 0 0, .slice none 0 0, .int .i64 0, .bool false] 35) := hblk
          replace MM : Hid (MK w x1 hk lo0 aw W.length cw half base next (newF n).1) := MM.out.on hb
          refine hK.out _ _ MM.out.cells (fun hS1 => ?_)
          clear hK K hb hg hblk hz
          try simp only [Act.put, List.getElem_toArray, List.getElem_cons_succ, List.getElem_cons_zero, List.setIfInBounds_toArray, List.set_cons_zero, List.set_cons_succ]
          refine wpAnyH_ready (rs := [1, 3, 5]) (by kernel_rfl) (by simp) ?_
          refine AllReadyH.cons rfl (fun K hK => ?_) (AllReadyH.cons rfl (fun K hK => ?_) (AllReadyH.cons rfl (fun K hK => ?_) (AllReadyH.nil)))
          · refine step_call rfl 41 entC _ _ rfl #[.slice aa ks.length cap] _ (specCopy ks (.slice aa ks.length cap) x1 HW.out Q2.out (AT.out _ MM.out.bb)) (by first | rfl | (simp [Act.eval, Act.put]; done)) ?_
            rintro e x2 ⟨⟨fv, rfl, hrep⟩, hb⟩
            refine ⟨_, rfl, ?_⟩
            obtain ⟨af, cf, hfv⟩ := sslice_cells hrep
            simp only [List.cons.injEq, and_true] at hfv
            subst hfv
            obtain ⟨lF, hF, hlF, hhF, FFx⟩ := funs_made hrep
            have Z2 : Hid (x1.heap.size ≤ x2.heap.size ∧ lF = x1.heap.size ∧ hF = x2.heap.size) := ⟨hb.size, hlF, hhF⟩
            have FF := hidv FFx
            replace MM : Hid (MK w x2 hk lo0 aw W.length cw half base next (newF n).1) := MM.out.on hb
            replace FV := hidv (FV.out.on hb)
            refine hK.out _ _ MM.out.cells (fun hS2 => ?_)
            clear hK K hb hrep hlF hhF FFx
            try simp only [Act.put, List.getElem_toArray, List.getElem_cons_succ, List.getElem_cons_zero, List.setIfInBounds_toArray, List.set_cons_zero, List.set_cons_succ]
            refine wpAnyH_ready (rs := [3, 5]) (by kernel_rfl) (by simp) ?_
            refine AllReadyH.cons rfl (fun K hK => ?_) (AllReadyH.cons rfl (fun K hK => ?_) (AllReadyH.nil))
            · refine step_words rfl (.const (.int .i64 1)) (.const (.int .i64 1)) rfl (by first | rfl | (simp [Act.eval, Act.put]; done)) (by first | rfl | (simp [Act.eval, Act.put]; done)) ?_
              intro gI x3 hg hb hblk hz
              have Z3 : Hid (x2.heap.size + 1 = x3.heap.size ∧ gI = x2.heap.size) := ⟨hz, hg⟩
              have FI : Hid (BlkV x3 gI #[.int .i64 1, .int .i64 1] 3) := hblk
              replace MM : Hid (MK w x3 hk lo0 aw W.length cw half base next (newF n).1) := MM.out.on hb
              replace FV := hidv (FV.out.on hb)
              replace FF := hidv (FF.out.on hb)
              refine hK.out _ _ MM.out.cells (fun hS3 => ?_)
              clear hK K hb hg hblk hz
              try simp only [Act.put, List.getElem_toArray, List.getElem_cons_succ, List.getElem_cons_zero, List.setIfInBounds_toArray, List.set_cons_zero, List.set_cons_succ]
              refine wpAnyH_ready (rs := [5]) (by kernel_rfl) (by simp) ?_
              refine AllReadyH.cons rfl (fun K hK => ?_) (AllReadyH.nil)
              · refine step_calls1 rfl (.tmp 28) rfl (by first | rfl | (simp [Act.eval, Act.put]; done)) ?_
                intro gC x4 hg hb hblk hz
                have Z4 : Hid (x3.heap.size + 1 = x4.heap.size ∧ gC = x3.heap.size) := ⟨hz, hg⟩
                have FC : Hid (BlkV x4 gC #[.int .i64 0, .int .i64 0, .int .i64 1] 57) := hblk
                replace MM : Hid (MK w x4 hk lo0 aw W.length cw half base next (newF n).1) := MM.out.on hb
                replace FV := hidv (FV.out.on hb)
                replace FF := hidv (FF.out.on hb)
                replace FI := hidv (FI.out.on hb)
                refine hK.out _ _ MM.out.cells (fun hS4 => ?_)
                clear hK K hb hg hblk hz
                try simp only [Act.put, List.getElem_toArray, List.getElem_cons_succ, List.getElem_cons_zero, List.setIfInBounds_toArray, List.set_cons_zero, List.set_cons_succ]
                refine wpAnyH_take (i := 7) (v := .agg #[.slice af ks.length cf, .slice aw W.length cw, .int .i64 half, .int .i64 base, .int .i64 next, .slice (some ⟨gI, 0, none⟩) 2 2, .slice (some ⟨gC, 0, none⟩) 1 1, .slice none 0 0, .int .i64 0, .bool each]) rfl (by kernel_rfl) (by kernel_rfl) (by kernel_rfl) (fun _ _ _ h => h) (Or.inl ⟨by kernel_rfl, ?_⟩) hS4 ?_
                · intro W' hSw
                  obtain ⟨s0, s1, s2, s3⟩ := hSw
                  go_simp
                try simp only [Act.put, List.getElem_toArray, List.getElem_cons_succ, List.getElem_cons_zero, List.setIfInBounds_toArray, List.set_cons_zero, List.set_cons_succ]
                refine wpAnyH_ready (rs := [9]) (by kernel_rfl) (by simp) ?_
                refine AllReadyH.cons rfl (fun K hK => ?_) AllReadyH.nil
                have ar : hk < gI ∧ hk < gC ∧ hk < gV ∧ gI ≠ gC ∧ gI ≠ gV ∧ gC ≠ gV ∧ hk < lF ∧ (gI < lF ∨ hF ≤ gI) ∧ (gC < lF ∨ hF ≤ gC) ∧ (gV < lF ∨ hF ≤ gV) := by
                  have := Z0.out
                  have := Z1.out
                  have := Z2.out
                  have := Z3.out
                  have := Z4.out
                  omega
                have hfv : x4.heap[gV]? = some (.cells #[.slice none 0 0, .slice none 0 0, .int .i64 0, .int .i64 0, .int .i64 0, .slice none 0 0, .slice none 0 0, .slice none 0 0, .int .i64 0, .bool false] 35) := FV.out
                refine step_write (g := gV) (t := 35) (u0 := .slice none 0 0) (u1 := .slice none 0 0) (u2 := .int .i64 0) (u3 := .int .i64 0) (u4 := .int .i64 0) (u5 := .slice none 0 0) (u6 := .slice none 0 0) (u7 := .slice none 0 0) (u8 := .int .i64 0) (u9 := .bool false) (b0 := af) (l0 := ks.length) (k0 := cf) (b1 := aw) (l1 := W.length) (k1 := cw) (n2 := half) (n3 := base) (n4 := next) (b5 := some ⟨gI, 0, none⟩) (l5 := 2) (k5 := 2) (b6 := some ⟨gC, 0, none⟩) (l6 := 1) (k6 := 1) (b7 := none) (l7 := 0) (k7 := 0) (n8 := 0) (n9 := each) rfl rfl (.tmp 10) (.tmp 31) rfl (by first | rfl | (simp [Act.eval, Act.put]; done)) (by first | rfl | (simp [Act.eval, Act.put]; done)) hfv ?_
                clear hfv
                intro x5 hv ho hz hbl
                have NX := hidv (leaf ar MM.out FI.out FC.out FF.out hv ho hz hbl)
                refine hK.out _ _ NX.out.1.cells (fun hS5 => ?_)
                clear hK K hv ho hz hbl ar
                refine wpAnyH_done (by kernel_rfl) ?_ _
                go_wp2_with fail
                go_meet
                exact ⟨gI, gC, gV, af, cf, lF, hF, rfl, NX⟩
            · refine step_calls1 rfl (.tmp 28) rfl (by first | rfl | (simp [Act.eval, Act.put]; done)) ?_
              intro gC x3 hg hb hblk hz
              have Z3 : Hid (x2.heap.size + 1 = x3.heap.size ∧ gC = x2.heap.size) := ⟨hz, hg⟩
              have FC : Hid (BlkV x3 gC #[.int .i64 0, .int .i64 0, .int .i64 1] 57) := hblk
              replace MM : Hid (MK w x3 hk lo0 aw W.length cw half base next (newF n).1) := MM.out.on hb
              replace FV := hidv (FV.out.on hb)
              replace FF := hidv (FF.out.on hb)
              refine hK.out _ _ MM.out.cells (fun hS3 => ?_)
              clear hK K hb hg hblk hz
              try simp only [Act.put, List.getElem_toArray, List.getElem_cons_succ, List.getElem_cons_zero, List.setIfInBounds_toArray, List.set_cons_zero, List.set_cons_succ]
              refine wpAnyH_ready (rs := [3]) (by kernel_rfl) (by simp) ?_
              refine AllReadyH.cons rfl (fun K hK => ?_) (AllReadyH.nil)
              · refine step_words rfl (.const (.int .i64 1)) (.const (.int .i64 1)) rfl (by first | rfl | (simp [Act.eval, Act.put]; done)) (by first | rfl | (simp [Act.eval, Act.put]; done)) ?_
                intro gI x4 hg hb hblk hz
                have Z4 : Hid (x3.heap.size + 1 = x4.heap.size ∧ gI = x3.heap.size) := ⟨hz, hg⟩
                have FI : Hid (BlkV x4 gI #[.int .i64 1, .int .i64 1] 3) := hblk
                replace MM : Hid (MK w x4 hk lo0 aw W.length cw half base next (newF n).1) := MM.out.on hb
                replace FV := hidv (FV.out.on hb)
                replace FF := hidv (FF.out.on hb)
                replace FC := hidv (FC.out.on hb)
                refine hK.out _ _ MM.out.cells (fun hS4 => ?_)
                clear hK K hb hg hblk hz
                try simp only [Act.put, List.getElem_toArray, List.getElem_cons_succ, List.getElem_cons_zero, List.setIfInBounds_toArray, List.set_cons_zero, List.set_cons_succ]
                refine wpAnyH_take (i := 7) (v := .agg #[.slice af ks.length cf, .slice aw W.length cw, .int .i64 half, .int .i64 base, .int .i64 next, .slice (some ⟨gI, 0, none⟩) 2 2, .slice (some ⟨gC, 0, none⟩) 1 1, .slice none 0 0, .int .i64 0, .bool each]) rfl (by kernel_rfl) (by kernel_rfl) (by kernel_rfl) (fun _ _ _ h => h) (Or.inl ⟨by kernel_rfl, ?_⟩) hS4 ?_
                · intro W' hSw
                  obtain ⟨s0, s1, s2, s3⟩ := hSw
                  go_simp
                try simp only [Act.put, List.getElem_toArray, List.getElem_cons_succ, List.getElem_cons_zero, List.setIfInBounds_toArray, List.set_cons_zero, List.set_cons_succ]
                refine wpAnyH_ready (rs := [9]) (by kernel_rfl) (by simp) ?_
                refine AllReadyH.cons rfl (fun K hK => ?_) AllReadyH.nil
                have ar : hk < gI ∧ hk < gC ∧ hk < gV ∧ gI ≠ gC ∧ gI ≠ gV ∧ gC ≠ gV ∧ hk < lF ∧ (gI < lF ∨ hF ≤ gI) ∧ (gC < lF ∨ hF ≤ gC) ∧ (gV < lF ∨ hF ≤ gV) := by
                  have := Z0.out
                  have := Z1.out
                  have := Z2.out
                  have := Z3.out
                  have := Z4.out
                  omega
                have hfv : x4.heap[gV]? = some (.cells #[.slice none 0 0, .slice none 0 0, .int .i64 0, .int .i64 0, .int .i64 0, .slice none 0 0, .slice none 0 0, .slice none 0 0, .int .i64 0, .bool false] 35) := FV.out
                refine step_write (g := gV) (t := 35) (u0 := .slice none 0 0) (u1 := .slice none 0 0) (u2 := .int .i64 0) (u3 := .int .i64 0) (u4 := .int .i64 0) (u5 := .slice none 0 0) (u6 := .slice none 0 0) (u7 := .slice none 0 0) (u8 := .int .i64 0) (u9 := .bool false) (b0 := af) (l0 := ks.length) (k0 := cf) (b1 := aw) (l1 := W.length) (k1 := cw) (n2 := half) (n3 := base) (n4 := next) (b5 := some ⟨gI, 0, none⟩) (l5 := 2) (k5 := 2) (b6 := some ⟨gC, 0, none⟩) (l6 := 1) (k6 := 1) (b7 := none) (l7 := 0) (k7 := 0) (n8 := 0) (n9 := each) rfl rfl (.tmp 10) (.tmp 31) rfl (by first | rfl | (simp [Act.eval, Act.put]; done)) (by first | rfl | (simp [Act.eval, Act.put]; done)) hfv ?_
                clear hfv
                intro x5 hv ho hz hbl
                have NX := hidv (leaf ar MM.out FI.out FC.out FF.out hv ho hz hbl)
                refine hK.out _ _ NX.out.1.cells (fun hS5 => ?_)
                clear hK K hv ho hz hbl ar
                refine wpAnyH_done (by kernel_rfl) ?_ _
                go_wp2_with fail
                go_meet
                exact ⟨gI, gC, gV, af, cf, lF, hF, rfl, NX⟩
          · refine step_words rfl (.const (.int .i64 1)) (.const (.int .i64 1)) rfl (by first | rfl | (simp [Act.eval, Act.put]; done)) (by first | rfl | (simp [Act.eval, Act.put]; done)) ?_
            intro gI x2 hg hb hblk hz
            have Z2 : Hid (x1.heap.size + 1 = x2.heap.size ∧ gI = x1.heap.size) := ⟨hz, hg⟩
            have FI : Hid (BlkV x2 gI #[.int .i64 1, .int .i64 1] 3) := hblk
            replace MM : Hid (MK w x2 hk lo0 aw W.length cw half base next (newF n).1) := MM.out.on hb
            replace FV := hidv (FV.out.on hb)
            refine hK.out _ _ MM.out.cells (fun hS2 => ?_)
            clear hK K hb hg hblk hz
            try simp only [Act.put, List.getElem_toArray, List.getElem_cons_succ, List.getElem_cons_zero, List.setIfInBounds_toArray, List.set_cons_zero, List.set_cons_succ]
            refine wpAnyH_ready (rs := [1, 5]) (by kernel_rfl) (by simp) ?_
            refine AllReadyH.cons rfl (fun K hK => ?_) (AllReadyH.cons rfl (fun K hK => ?_) (AllReadyH.nil))
            · refine step_call rfl 41 entC _ _ rfl #[.slice aa ks.length cap] _ (specCopy ks (.slice aa ks.length cap) x2 HW.out Q2.out (AT.out _ MM.out.bb)) (by first | rfl | (simp [Act.eval, Act.put]; done)) ?_
              rintro e x3 ⟨⟨fv, rfl, hrep⟩, hb⟩
              refine ⟨_, rfl, ?_⟩
              obtain ⟨af, cf, hfv⟩ := sslice_cells hrep
              simp only [List.cons.injEq, and_true] at hfv
              subst hfv
              obtain ⟨lF, hF, hlF, hhF, FFx⟩ := funs_made hrep
              have Z3 : Hid (x2.heap.size ≤ x3.heap.size ∧ lF = x2.heap.size ∧ hF = x3.heap.size) := ⟨hb.size, hlF, hhF⟩
              have FF := hidv FFx
              replace MM : Hid (MK w x3 hk lo0 aw W.length cw half base next (newF n).1) := MM.out.on hb
              replace FV := hidv (FV.out.on hb)
              replace FI := hidv (FI.out.on hb)
              refine hK.out _ _ MM.out.cells (fun hS3 => ?_)
              clear hK K hb hrep hlF hhF FFx
              try simp only [Act.put, List.getElem_toArray, List.getElem_cons_succ, List.getElem_cons_zero, List.setIfInBounds_toArray, List.set_cons_zero, List.set_cons_succ]
              refine wpAnyH_ready (rs := [5]) (by kernel_rfl) (by simp) ?_
              refine AllReadyH.cons rfl (fun K hK => ?_) (AllReadyH.nil)
              · refine step_calls1 rfl (.tmp 28) rfl (by first | rfl | (simp [Act.eval, Act.put]; done)) ?_
                intro gC x4 hg hb hblk hz
                have Z4 : Hid (x3.heap.size + 1 = x4.heap.size ∧ gC = x3.heap.size) := ⟨hz, hg⟩
                have FC : Hid (BlkV x4 gC #[.int .i64 0, .int .i64 0, .int .i64 1] 57) := hblk
                replace MM : Hid (MK w x4 hk lo0 aw W.length cw half base next (newF n).1) := MM.out.on hb
                replace FV := hidv (FV.out.on hb)
                replace FI := hidv (FI.out.on hb)
                replace FF := hidv (FF.out.on hb)
                refine hK.out _ _ MM.out.cells (fun hS4 => ?_)
                clear hK K hb hg hblk hz
                try simp only [Act.put, List.getElem_toArray, List.getElem_cons_succ, List.getElem_cons_zero, List.setIfInBounds_toArray, List.set_cons_zero, List.set_cons_succ]
                refine wpAnyH_take (i := 7) (v := .agg #[.slice af ks.length cf, .slice aw W.length cw, .int .i64 half, .int .i64 base, .int .i64 next, .slice (some ⟨gI, 0, none⟩) 2 2, .slice (some ⟨gC, 0, none⟩) 1 1, .slice none 0 0, .int .i64 0, .bool each]) rfl (by kernel_rfl) (by kernel_rfl) (by kernel_rfl) (fun _ _ _ h => h) (Or.inl ⟨by kernel_rfl, ?_⟩) hS4 ?_
                · intro W' hSw
                  obtain ⟨s0, s1, s2, s3⟩ := hSw
                  go_simp
                try simp only [Act.put, List.getElem_toArray, List.getElem_cons_succ, List.getElem_cons_zero, List.setIfInBounds_toArray, List.set_cons_zero, List.set_cons_succ]
                refine wpAnyH_ready (rs := [9]) (by kernel_rfl) (by simp) ?_
                refine AllReadyH.cons rfl (fun K hK => ?_) AllReadyH.nil
                have ar : hk < gI ∧ hk < gC ∧ hk < gV ∧ gI ≠ gC ∧ gI ≠ gV ∧ gC ≠ gV ∧ hk < lF ∧ (gI < lF ∨ hF ≤ gI) ∧ (gC < lF ∨ hF ≤ gC) ∧ (gV < lF ∨ hF ≤ gV) := by
                  have := Z0.out
                  have := Z1.out
                  have := Z2.out
                  have := Z3.out
                  have := Z4.out
                  omega
                have hfv : x4.heap[gV]? = some (.cells #[.slice none 0 0, .slice none 0 0, .int .i64 0, .int .i64 0, .int .i64 0, .slice none 0 0, .slice none 0 0, .slice none 0 0, .int .i64 0, .bool false] 35) := FV.out
                refine step_write (g := gV) (t := 35) (u0 := .slice none 0 0) (u1 := .slice none 0 0) (u2 := .int .i64 0) (u3 := .int .i64 0) (u4 := .int .i64 0) (u5 := .slice none 0 0) (u6 := .slice none 0 0) (u7 := .slice none 0 0) (u8 := .int .i64 0) (u9 := .bool false) (b0 := af) (l0 := ks.length) (k0 := cf) (b1 := aw) (l1 := W.length) (k1 := cw) (n2 := half) (n3 := base) (n4 := next) (b5 := some ⟨gI, 0, none⟩) (l5 := 2) (k5 := 2) (b6 := some ⟨gC, 0, none⟩) (l6 := 1) (k6 := 1) (b7 := none) (l7 := 0) (k7 := 0) (n8 := 0) (n9 := each) rfl rfl (.tmp 10) (.tmp 31) rfl (by first | rfl | (simp [Act.eval, Act.put]; done)) (by first | rfl | (simp [Act.eval, Act.put]; done)) hfv ?_
                clear hfv
                intro x5 hv ho hz hbl
                have NX := hidv (leaf ar MM.out FI.out FC.out FF.out hv ho hz hbl)
                refine hK.out _ _ NX.out.1.cells (fun hS5 => ?_)
                clear hK K hv ho hz hbl ar
                refine wpAnyH_done (by kernel_rfl) ?_ _
                go_wp2_with fail
                go_meet
                exact ⟨gI, gC, gV, af, cf, lF, hF, rfl, NX⟩
            · refine step_calls1 rfl (.tmp 28) rfl (by first | rfl | (simp [Act.eval, Act.put]; done)) ?_
              intro gC x3 hg hb hblk hz
              have Z3 : Hid (x2.heap.size + 1 = x3.heap.size ∧ gC = x2.heap.size) := ⟨hz, hg⟩
              have FC : Hid (BlkV x3 gC #[.int .i64 0, .int .i64 0, .int .i64 1] 57) := hblk
              replace MM : Hid (MK w x3 hk lo0 aw W.length cw half base next (newF n).1) := MM.out.on hb
              replace FV := hidv (FV.out.on hb)
              replace FI := hidv (FI.out.on hb)
              refine hK.out _ _ MM.out.cells (fun hS3 => ?_)
              clear hK K hb hg hblk hz
              try simp only [Act.put, List.getElem_toArray, List.getElem_cons_succ, List.getElem_cons_zero, List.setIfInBounds_toArray, List.set_cons_zero, List.set_cons_succ]
              refine wpAnyH_ready (rs := [1]) (by kernel_rfl) (by simp) ?_
              refine AllReadyH.cons rfl (fun K hK => ?_) (AllReadyH.nil)
              · refine step_call rfl 41 entC _ _ rfl #[.slice aa ks.length cap] _ (specCopy ks (.slice aa ks.length cap) x3 HW.out Q2.out (AT.out _ MM.out.bb)) (by first | rfl | (simp [Act.eval, Act.put]; done)) ?_
                rintro e x4 ⟨⟨fv, rfl, hrep⟩, hb⟩
                refine ⟨_, rfl, ?_⟩
                obtain ⟨af, cf, hfv⟩ := sslice_cells hrep
                simp only [List.cons.injEq, and_true] at hfv
                subst hfv
                obtain ⟨lF, hF, hlF, hhF, FFx⟩ := funs_made hrep
                have Z4 : Hid (x3.heap.size ≤ x4.heap.size ∧ lF = x3.heap.size ∧ hF = x4.heap.size) := ⟨hb.size, hlF, hhF⟩
                have FF := hidv FFx
                replace MM : Hid (MK w x4 hk lo0 aw W.length cw half base next (newF n).1) := MM.out.on hb
                replace FV := hidv (FV.out.on hb)
                replace FI := hidv (FI.out.on hb)
                replace FC := hidv (FC.out.on hb)
                refine hK.out _ _ MM.out.cells (fun hS4 => ?_)
                clear hK K hb hrep hlF hhF FFx
                try simp only [Act.put, List.getElem_toArray, List.getElem_cons_succ, List.getElem_cons_zero, List.setIfInBounds_toArray, List.set_cons_zero, List.set_cons_succ]
                refine wpAnyH_take (i := 7) (v := .agg #[.slice af ks.length cf, .slice aw W.length cw, .int .i64 half, .int .i64 base, .int .i64 next, .slice (some ⟨gI, 0, none⟩) 2 2, .slice (some ⟨gC, 0, none⟩) 1 1, .slice none 0 0, .int .i64 0, .bool each]) rfl (by kernel_rfl) (by kernel_rfl) (by kernel_rfl) (fun _ _ _ h => h) (Or.inl ⟨by kernel_rfl, ?_⟩) hS4 ?_
                · intro W' hSw
                  obtain ⟨s0, s1, s2, s3⟩ := hSw
                  go_simp
                try simp only [Act.put, List.getElem_toArray, List.getElem_cons_succ, List.getElem_cons_zero, List.setIfInBounds_toArray, List.set_cons_zero, List.set_cons_succ]
                refine wpAnyH_ready (rs := [9]) (by kernel_rfl) (by simp) ?_
                refine AllReadyH.cons rfl (fun K hK => ?_) AllReadyH.nil
                have ar : hk < gI ∧ hk < gC ∧ hk < gV ∧ gI ≠ gC ∧ gI ≠ gV ∧ gC ≠ gV ∧ hk < lF ∧ (gI < lF ∨ hF ≤ gI) ∧ (gC < lF ∨ hF ≤ gC) ∧ (gV < lF ∨ hF ≤ gV) := by
                  have := Z0.out
                  have := Z1.out
                  have := Z2.out
                  have := Z3.out
                  have := Z4.out
                  omega
                have hfv : x4.heap[gV]? = some (.cells #[.slice none 0 0, .slice none 0 0, .int .i64 0, .int .i64 0, .int .i64 0, .slice none 0 0, .slice none 0 0, .slice none 0 0, .int .i64 0, .bool false] 35) := FV.out
                refine step_write (g := gV) (t := 35) (u0 := .slice none 0 0) (u1 := .slice none 0 0) (u2 := .int .i64 0) (u3 := .int .i64 0) (u4 := .int .i64 0) (u5 := .slice none 0 0) (u6 := .slice none 0 0) (u7 := .slice none 0 0) (u8 := .int .i64 0) (u9 := .bool false) (b0 := af) (l0 := ks.length) (k0 := cf) (b1 := aw) (l1 := W.length) (k1 := cw) (n2 := half) (n3 := base) (n4 := next) (b5 := some ⟨gI, 0, none⟩) (l5 := 2) (k5 := 2) (b6 := some ⟨gC, 0, none⟩) (l6 := 1) (k6 := 1) (b7 := none) (l7 := 0) (k7 := 0) (n8 := 0) (n9 := each) rfl rfl (.tmp 10) (.tmp 31) rfl (by first | rfl | (simp [Act.eval, Act.put]; done)) (by first | rfl | (simp [Act.eval, Act.put]; done)) hfv ?_
                clear hfv
                intro x5 hv ho hz hbl
                have NX := hidv (leaf ar MM.out FI.out FC.out FF.out hv ho hz hbl)
                refine hK.out _ _ NX.out.1.cells (fun hS5 => ?_)
                clear hK K hv ho hz hbl ar
                refine wpAnyH_done (by kernel_rfl) ?_ _
                go_wp2_with fail
                go_meet
                exact ⟨gI, gC, gV, af, cf, lF, hF, rfl, NX⟩
          · refine step_calls1 rfl (.tmp 28) rfl (by first | rfl | (simp [Act.eval, Act.put]; done)) ?_
            intro gC x2 hg hb hblk hz
            have Z2 : Hid (x1.heap.size + 1 = x2.heap.size ∧ gC = x1.heap.size) := ⟨hz, hg⟩
            have FC : Hid (BlkV x2 gC #[.int .i64 0, .int .i64 0, .int .i64 1] 57) := hblk
            replace MM : Hid (MK w x2 hk lo0 aw W.length cw half base next (newF n).1) := MM.out.on hb
            replace FV := hidv (FV.out.on hb)
            refine hK.out _ _ MM.out.cells (fun hS2 => ?_)
            clear hK K hb hg hblk hz
            try simp only [Act.put, List.getElem_toArray, List.getElem_cons_succ, List.getElem_cons_zero, List.setIfInBounds_toArray, List.set_cons_zero, List.set_cons_succ]
            refine wpAnyH_ready (rs := [1, 3]) (by kernel_rfl) (by simp) ?_
            refine AllReadyH.cons rfl (fun K hK => ?_) (AllReadyH.cons rfl (fun K hK => ?_) (AllReadyH.nil))
            · refine step_call rfl 41 entC _ _ rfl #[.slice aa ks.length cap] _ (specCopy ks (.slice aa ks.length cap) x2 HW.out Q2.out (AT.out _ MM.out.bb)) (by first | rfl | (simp [Act.eval, Act.put]; done)) ?_
              rintro e x3 ⟨⟨fv, rfl, hrep⟩, hb⟩
              refine ⟨_, rfl, ?_⟩
              obtain ⟨af, cf, hfv⟩ := sslice_cells hrep
              simp only [List.cons.injEq, and_true] at hfv
              subst hfv
              obtain ⟨lF, hF, hlF, hhF, FFx⟩ := funs_made hrep
              have Z3 : Hid (x2.heap.size ≤ x3.heap.size ∧ lF = x2.heap.size ∧ hF = x3.heap.size) := ⟨hb.size, hlF, hhF⟩
              have FF := hidv FFx
              replace MM : Hid (MK w x3 hk lo0 aw W.length cw half base next (newF n).1) := MM.out.on hb
              replace FV := hidv (FV.out.on hb)
              replace FC := hidv (FC.out.on hb)
              refine hK.out _ _ MM.out.cells (fun hS3 => ?_)
              clear hK K hb hrep hlF hhF FFx
              try simp only [Act.put, List.getElem_toArray, List.getElem_cons_succ, List.getElem_cons_zero, List.setIfInBounds_toArray, List.set_cons_zero, List.set_cons_succ]
              refine wpAnyH_ready (rs := [3]) (by kernel_rfl) (by simp) ?_
              refine AllReadyH.cons rfl (fun K hK => ?_) (AllReadyH.nil)
              · refine step_words rfl (.const (.int .i64 1)) (.const (.int .i64 1)) rfl (by first | rfl | (simp [Act.eval, Act.put]; done)) (by first | rfl | (simp [Act.eval, Act.put]; done)) ?_
                intro gI x4 hg hb hblk hz
                have Z4 : Hid (x3.heap.size + 1 = x4.heap.size ∧ gI = x3.heap.size) := ⟨hz, hg⟩
                have FI : Hid (BlkV x4 gI #[.int .i64 1, .int .i64 1] 3) := hblk
                replace MM : Hid (MK w x4 hk lo0 aw W.length cw half base next (newF n).1) := MM.out.on hb
                replace FV := hidv (FV.out.on hb)
                replace FC := hidv (FC.out.on hb)
                replace FF := hidv (FF.out.on hb)
                refine hK.out _ _ MM.out.cells (fun hS4 => ?_)
                clear hK K hb hg hblk hz
                try simp only [Act.put, List.getElem_toArray, List.getElem_cons_succ, List.getElem_cons_zero, List.setIfInBounds_toArray, List.set_cons_zero, List.set_cons_succ]
                refine wpAnyH_take (i := 7) (v := .agg #[.slice af ks.length cf, .slice aw W.length cw, .int .i64 half, .int .i64 base, .int .i64 next, .slice (some ⟨gI, 0, none⟩) 2 2, .slice (some ⟨gC, 0, none⟩) 1 1, .slice none 0 0, .int .i64 0, .bool each]) rfl (by kernel_rfl) (by kernel_rfl) (by kernel_rfl) (fun _ _ _ h => h) (Or.inl ⟨by kernel_rfl, ?_⟩) hS4 ?_
                · intro W' hSw
                  obtain ⟨s0, s1, s2, s3⟩ := hSw
                  go_simp
                try simp only [Act.put, List.getElem_toArray, List.getElem_cons_succ, List.getElem_cons_zero, List.setIfInBounds_toArray, List.set_cons_zero, List.set_cons_succ]
                refine wpAnyH_ready (rs := [9]) (by kernel_rfl) (by simp) ?_
                refine AllReadyH.cons rfl (fun K hK => ?_) AllReadyH.nil
                have ar : hk < gI ∧ hk < gC ∧ hk < gV ∧ gI ≠ gC ∧ gI ≠ gV ∧ gC ≠ gV ∧ hk < lF ∧ (gI < lF ∨ hF ≤ gI) ∧ (gC < lF ∨ hF ≤ gC) ∧ (gV < lF ∨ hF ≤ gV) := by
                  have := Z0.out
                  have := Z1.out
                  have := Z2.out
                  have := Z3.out
                  have := Z4.out
                  omega
                have hfv : x4.heap[gV]? = some (.cells #[.slice none 0 0, .slice none 0 0, .int .i64 0, .int .i64 0, .int .i64 0, .slice none 0 0, .slice none 0 0, .slice none 0 0, .int .i64 0, .bool false] 35) := FV.out
                refine step_write (g := gV) (t := 35) (u0 := .slice none 0 0) (u1 := .slice none 0 0) (u2 := .int .i64 0) (u3 := .int .i64 0) (u4 := .int .i64 0) (u5 := .slice none 0 0) (u6 := .slice none 0 0) (u7 := .slice none 0 0) (u8 := .int .i64 0) (u9 := .bool false) (b0 := af) (l0 := ks.length) (k0 := cf) (b1 := aw) (l1 := W.length) (k1 := cw) (n2 := half) (n3 := base) (n4 := next) (b5 := some ⟨gI, 0, none⟩) (l5 := 2) (k5 := 2) (b6 := some ⟨gC, 0, none⟩) (l6 := 1) (k6 := 1) (b7 := none) (l7 := 0) (k7 := 0) (n8 := 0) (n9 := each) rfl rfl (.tmp 10) (.tmp 31) rfl (by first | rfl | (simp [Act.eval, Act.put]; done)) (by first | rfl | (simp [Act.eval, Act.put]; done)) hfv ?_
                clear hfv
                intro x5 hv ho hz hbl
                have NX := hidv (leaf ar MM.out FI.out FC.out FF.out hv ho hz hbl)
                refine hK.out _ _ NX.out.1.cells (fun hS5 => ?_)
                clear hK K hv ho hz hbl ar
                refine wpAnyH_done (by kernel_rfl) ?_ _
                go_wp2_with fail
                go_meet
                exact ⟨gI, gC, gV, af, cf, lF, hF, rfl, NX⟩
            · refine step_words rfl (.const (.int .i64 1)) (.const (.int .i64 1)) rfl (by first | rfl | (simp [Act.eval, Act.put]; done)) (by first | rfl | (simp [Act.eval, Act.put]; done)) ?_
              intro gI x3 hg hb hblk hz
              have Z3 : Hid (x2.heap.size + 1 = x3.heap.size ∧ gI = x2.heap.size) := ⟨hz, hg⟩
              have FI : Hid (BlkV x3 gI #[.int .i64 1, .int .i64 1] 3) := hblk
              replace MM : Hid (MK w x3 hk lo0 aw W.length cw half base next (newF n).1) := MM.out.on hb
              replace FV := hidv (FV.out.on hb)
              replace FC := hidv (FC.out.on hb)
              refine hK.out _ _ MM.out.cells (fun hS3 => ?_)
              clear hK K hb hg hblk hz
              try simp only [Act.put, List.getElem_toArray, List.getElem_cons_succ, List.getElem_cons_zero, List.setIfInBounds_toArray, List.set_cons_zero, List.set_cons_succ]
              refine wpAnyH_ready (rs := [1]) (by kernel_rfl) (by simp) ?_
              refine AllReadyH.cons rfl (fun K hK => ?_) (AllReadyH.nil)
              · refine step_call rfl 41 entC _ _ rfl #[.slice aa ks.length cap] _ (specCopy ks (.slice aa ks.length cap) x3 HW.out Q2.out (AT.out _ MM.out.bb)) (by first | rfl | (simp [Act.eval, Act.put]; done)) ?_
                rintro e x4 ⟨⟨fv, rfl, hrep⟩, hb⟩
                refine ⟨_, rfl, ?_⟩
                obtain ⟨af, cf, hfv⟩ := sslice_cells hrep
                simp only [List.cons.injEq, and_true] at hfv
                subst hfv
                obtain ⟨lF, hF, hlF, hhF, FFx⟩ := funs_made hrep
                have Z4 : Hid (x3.heap.size ≤ x4.heap.size ∧ lF = x3.heap.size ∧ hF = x4.heap.size) := ⟨hb.size, hlF, hhF⟩
                have FF := hidv FFx
                replace MM : Hid (MK w x4 hk lo0 aw W.length cw half base next (newF n).1) := MM.out.on hb
                replace FV := hidv (FV.out.on hb)
                replace FC := hidv (FC.out.on hb)
                replace FI := hidv (FI.out.on hb)
                refine hK.out _ _ MM.out.cells (fun hS4 => ?_)
                clear hK K hb hrep hlF hhF FFx
                try simp only [Act.put, List.getElem_toArray, List.getElem_cons_succ, List.getElem_cons_zero, List.setIfInBounds_toArray, List.set_cons_zero, List.set_cons_succ]
                refine wpAnyH_take (i := 7) (v := .agg #[.slice af ks.length cf, .slice aw W.length cw, .int .i64 half, .int .i64 base, .int .i64 next, .slice (some ⟨gI, 0, none⟩) 2 2, .slice (some ⟨gC, 0, none⟩) 1 1, .slice none 0 0, .int .i64 0, .bool each]) rfl (by kernel_rfl) (by kernel_rfl) (by kernel_rfl) (fun _ _ _ h => h) (Or.inl ⟨by kernel_rfl, ?_⟩) hS4 ?_
                · intro W' hSw
                  obtain ⟨s0, s1, s2, s3⟩ := hSw
                  go_simp
                try simp only [Act.put, List.getElem_toArray, List.getElem_cons_succ, List.getElem_cons_zero, List.setIfInBounds_toArray, List.set_cons_zero, List.set_cons_succ]
                refine wpAnyH_ready (rs := [9]) (by kernel_rfl) (by simp) ?_
                refine AllReadyH.cons rfl (fun K hK => ?_) AllReadyH.nil
                have ar : hk < gI ∧ hk < gC ∧ hk < gV ∧ gI ≠ gC ∧ gI ≠ gV ∧ gC ≠ gV ∧ hk < lF ∧ (gI < lF ∨ hF ≤ gI) ∧ (gC < lF ∨ hF ≤ gC) ∧ (gV < lF ∨ hF ≤ gV) := by
                  have := Z0.out
                  have := Z1.out
                  have := Z2.out
                  have := Z3.out
                  have := Z4.out
                  omega
                have hfv : x4.heap[gV]? = some (.cells #[.slice none 0 0, .slice none 0 0, .int .i64 0, .int .i64 0, .int .i64 0, .slice none 0 0, .slice none 0 0, .slice none 0 0, .int .i64 0, .bool false] 35) := FV.out
                refine step_write (g := gV) (t := 35) (u0 := .slice none 0 0) (u1 := .slice none 0 0) (u2 := .int .i64 0) (u3 := .int .i64 0) (u4 := .int .i64 0) (u5 := .slice none 0 0) (u6 := .slice none 0 0) (u7 := .slice none 0 0) (u8 := .int .i64 0) (u9 := .bool false) (b0 := af) (l0 := ks.length) (k0 := cf) (b1 := aw) (l1 := W.length) (k1 := cw) (n2 := half) (n3 := base) (n4 := next) (b5 := some ⟨gI, 0, none⟩) (l5 := 2) (k5 := 2) (b6 := some ⟨gC, 0, none⟩) (l6 := 1) (k6 := 1) (b7 := none) (l7 := 0) (k7 := 0) (n8 := 0) (n9 := each) rfl rfl (.tmp 10) (.tmp 31) rfl (by first | rfl | (simp [Act.eval, Act.put]; done)) (by first | rfl | (simp [Act.eval, Act.put]; done)) hfv ?_
                clear hfv
                intro x5 hv ho hz hbl
                have NX := hidv (leaf ar MM.out FI.out FC.out FF.out hv ho hz hbl)
                refine hK.out _ _ NX.out.1.cells (fun hS5 => ?_)
                clear hK K hv ho hz hbl ar
                refine wpAnyH_done (by kernel_rfl) ?_ _
                go_wp2_with fail
                go_meet
                exact ⟨gI, gC, gV, af, cf, lF, hF, rfl, NX⟩
      case rest =>
        obtain ⟨gI, gC, gV, af, cf, lF, hF, rfl, MD⟩ := hcut
        clear M1
        rename World => xf
        have hc3 := specVmOk (newM ks n each) _ xf HW.out MD.out.sh
        have y0 : xf.cell? ⟨gV, 0, none⟩ = some (.slice af ks.length cf) := by simp [World.cell?, show xf.heap[gV]? = _ from MD.out.2.2.2.2.1]
        have y1 : xf.cell? ⟨gV, 1, none⟩ = some (.slice aw W.length cw) := by simp [World.cell?, show xf.heap[gV]? = _ from MD.out.2.2.2.2.1]
        have y2 : xf.cell? ⟨gV, 2, none⟩ = some (.int .i64 half) := by simp [World.cell?, show xf.heap[gV]? = _ from MD.out.2.2.2.2.1]
        have y3 : xf.cell? ⟨gV, 3, none⟩ = some (.int .i64 base) := by simp [World.cell?, show xf.heap[gV]? = _ from MD.out.2.2.2.2.1]
        have y4 : xf.cell? ⟨gV, 4, none⟩ = some (.int .i64 next) := by simp [World.cell?, show xf.heap[gV]? = _ from MD.out.2.2.2.2.1]
        have y5 : xf.cell? ⟨gV, 5, none⟩ = some (.slice (some ⟨gI, 0, none⟩) 2 2) := by simp [World.cell?, show xf.heap[gV]? = _ from MD.out.2.2.2.2.1]
        have y6 : xf.cell? ⟨gV, 6, none⟩ = some (.slice (some ⟨gC, 0, none⟩) 1 1) := by simp [World.cell?, show xf.heap[gV]? = _ from MD.out.2.2.2.2.1]
        have y7 : xf.cell? ⟨gV, 7, none⟩ = some (.slice none 0 0) := by simp [World.cell?, show xf.heap[gV]? = _ from MD.out.2.2.2.2.1]
        have y8 : xf.cell? ⟨gV, 8, none⟩ = some (.int .i64 0) := by simp [World.cell?, show xf.heap[gV]? = _ from MD.out.2.2.2.2.1]
        have y9 : xf.cell? ⟨gV, 9, none⟩ = some (.bool each) := by simp [World.cell?, show xf.heap[gV]? = _ from MD.out.2.2.2.2.1]
        go_wp2_with fail
        refine hc3.mono ?_
        rintro e w9 ⟨rfl, hb9⟩
        have MD9 := hidv (MD.out.on hb9)
        clear hc3 hb9 MD y0 y1 y2 y3 y4 y5 y6 y7 y8 y9
        rcases q3 : vmB (newM ks n each) with _ | _
        · have HF : Hid (r = (zeroM, false)) := by show _ = _; rw [HR.out]; exact new_no3 q3
          have z0 : w9.cell? ⟨w.heap.size, 0, none⟩ = some (.slice none 0 0) := by simp [World.cell?, MD9.out.1.hr]
          have z1 : w9.cell? ⟨w.heap.size, 1, none⟩ = some (.slice none 0 0) := by simp [World.cell?, MD9.out.1.hr]
          have z2 : w9.cell? ⟨w.heap.size, 2, none⟩ = some (.int .i64 0) := by simp [World.cell?, MD9.out.1.hr]
          have z3 : w9.cell? ⟨w.heap.size, 3, none⟩ = some (.int .i64 0) := by simp [World.cell?, MD9.out.1.hr]
          have z4 : w9.cell? ⟨w.heap.size, 4, none⟩ = some (.int .i64 0) := by simp [World.cell?, MD9.out.1.hr]
          have z5 : w9.cell? ⟨w.heap.size, 5, none⟩ = some (.slice none 0 0) := by simp [World.cell?, MD9.out.1.hr]
          have z6 : w9.cell? ⟨w.heap.size, 6, none⟩ = some (.slice none 0 0) := by simp [World.cell?, MD9.out.1.hr]
          have z7 : w9.cell? ⟨w.heap.size, 7, none⟩ = some (.slice none 0 0) := by simp [World.cell?, MD9.out.1.hr]
          have z8 : w9.cell? ⟨w.heap.size, 8, none⟩ = some (.int .i64 0) := by simp [World.cell?, MD9.out.1.hr]
          have z9 : w9.cell? ⟨w.heap.size, 9, none⟩ = some (.bool false) := by simp [World.cell?, MD9.out.1.hr]
          have zf : ∀ j, w9.frozen? ⟨w.heap.size, j, none⟩ = false := fun j => by simp [World.frozen?, MD9.out.1.hr]
          go_wp2
          refine bodyPost_ret (v := .tuple #[.agg #[.slice none 0 0, .slice none 0 0, .int .i64 0, .int .i64 0, .int .i64 0, .slice none 0 0, .slice none 0 0, .slice none 0 0, .int .i64 0, .bool false], .bool false]) (by simp [results, Tryz.f11, go_sem, z0, z1, z2, z3, z4, z5, z6, z7, z8, z9]) rfl ?_
          rw [HF.out]
          refine ⟨⟨[.slice none 0 0, .slice none 0 0, .int .i64 0, .int .i64 0, .int .i64 0, .slice none 0 0, .slice none 0 0, .slice none 0 0, .int .i64 0, .bool false], rfl, zero_rep⟩, ?_⟩
          have ZL := MD9.out.1.bb
          repeat first | with_reducible exact ZL | (refine Below.setCell ?_ (by exact Nat.le_refl _) _)
        · have HF : Hid (r = (newM ks n each, true)) := by show _ = _; rw [HR.out]; exact new_yes HM.out.symm QV.out q3
          have z0 : w9.cell? ⟨w.heap.size, 0, none⟩ = some (.slice none 0 0) := by simp [World.cell?, MD9.out.1.hr]
          have z1 : w9.cell? ⟨w.heap.size, 1, none⟩ = some (.slice none 0 0) := by simp [World.cell?, MD9.out.1.hr]
          have z2 : w9.cell? ⟨w.heap.size, 2, none⟩ = some (.int .i64 0) := by simp [World.cell?, MD9.out.1.hr]
          have z3 : w9.cell? ⟨w.heap.size, 3, none⟩ = some (.int .i64 0) := by simp [World.cell?, MD9.out.1.hr]
          have z4 : w9.cell? ⟨w.heap.size, 4, none⟩ = some (.int .i64 0) := by simp [World.cell?, MD9.out.1.hr]
          have z5 : w9.cell? ⟨w.heap.size, 5, none⟩ = some (.slice none 0 0) := by simp [World.cell?, MD9.out.1.hr]
          have z6 : w9.cell? ⟨w.heap.size, 6, none⟩ = some (.slice none 0 0) := by simp [World.cell?, MD9.out.1.hr]
          have z7 : w9.cell? ⟨w.heap.size, 7, none⟩ = some (.slice none 0 0) := by simp [World.cell?, MD9.out.1.hr]
          have z8 : w9.cell? ⟨w.heap.size, 8, none⟩ = some (.int .i64 0) := by simp [World.cell?, MD9.out.1.hr]
          have z9 : w9.cell? ⟨w.heap.size, 9, none⟩ = some (.bool false) := by simp [World.cell?, MD9.out.1.hr]
          have zf : ∀ j, w9.frozen? ⟨w.heap.size, j, none⟩ = false := fun j => by simp [World.frozen?, MD9.out.1.hr]
          have y0 : w9.cell? ⟨gV, 0, none⟩ = some (.slice af ks.length cf) := by simp [World.cell?, show w9.heap[gV]? = _ from MD9.out.2.2.2.2.1]
          have y1 : w9.cell? ⟨gV, 1, none⟩ = some (.slice aw W.length cw) := by simp [World.cell?, show w9.heap[gV]? = _ from MD9.out.2.2.2.2.1]
          have y2 : w9.cell? ⟨gV, 2, none⟩ = some (.int .i64 half) := by simp [World.cell?, show w9.heap[gV]? = _ from MD9.out.2.2.2.2.1]
          have y3 : w9.cell? ⟨gV, 3, none⟩ = some (.int .i64 base) := by simp [World.cell?, show w9.heap[gV]? = _ from MD9.out.2.2.2.2.1]
          have y4 : w9.cell? ⟨gV, 4, none⟩ = some (.int .i64 next) := by simp [World.cell?, show w9.heap[gV]? = _ from MD9.out.2.2.2.2.1]
          have y5 : w9.cell? ⟨gV, 5, none⟩ = some (.slice (some ⟨gI, 0, none⟩) 2 2) := by simp [World.cell?, show w9.heap[gV]? = _ from MD9.out.2.2.2.2.1]
          have y6 : w9.cell? ⟨gV, 6, none⟩ = some (.slice (some ⟨gC, 0, none⟩) 1 1) := by simp [World.cell?, show w9.heap[gV]? = _ from MD9.out.2.2.2.2.1]
          have y7 : w9.cell? ⟨gV, 7, none⟩ = some (.slice none 0 0) := by simp [World.cell?, show w9.heap[gV]? = _ from MD9.out.2.2.2.2.1]
          have y8 : w9.cell? ⟨gV, 8, none⟩ = some (.int .i64 0) := by simp [World.cell?, show w9.heap[gV]? = _ from MD9.out.2.2.2.2.1]
          have y9 : w9.cell? ⟨gV, 9, none⟩ = some (.bool each) := by simp [World.cell?, show w9.heap[gV]? = _ from MD9.out.2.2.2.2.1]
          go_wp2
          refine bodyPost_ret (v := .tuple #[.agg #[.slice af ks.length cf, .slice aw W.length cw, .int .i64 half, .int .i64 base, .int .i64 next, .slice (some ⟨gI, 0, none⟩) 2 2, .slice (some ⟨gC, 0, none⟩) 1 1, .slice none 0 0, .int .i64 0, .bool each], .bool true]) (by simp [results, Tryz.f11, go_sem, z0, z1, z2, z3, z4, z5, z6, z7, z8, z9]) rfl ?_
          rw [HF.out]
          have hX := setN_below (g := w.heap.size) [.slice af ks.length cf, .slice aw W.length cw, .int .i64 half, .int .i64 base, .int .i64 next, .slice (some ⟨gI, 0, none⟩) 2 2, .slice (some ⟨gC, 0, none⟩) 1 1, .slice none 0 0, .int .i64 0, .bool each] 0 MD9.out.1.bb (Nat.le_refl _)
          have hY := MD9.out.sp (fun q hq => setN_other hq [.slice af ks.length cf, .slice aw W.length cw, .int .i64 half, .int .i64 base, .int .i64 next, .slice (some ⟨gI, 0, none⟩) 2 2, .slice (some ⟨gC, 0, none⟩) 1 1, .slice none 0 0, .int .i64 0, .bool each] w9 0) (setN_size (g := w.heap.size) [.slice af ks.length cf, .slice aw W.length cw, .int .i64 half, .int .i64 base, .int .i64 next, .slice (some ⟨gI, 0, none⟩) 2 2, .slice (some ⟨gC, 0, none⟩) 1 1, .slice none 0 0, .int .i64 0, .bool each] w9 0)
          simp only [setN, Nat.zero_add, Nat.reduceAdd] at hX hY
          exact ⟨⟨[.slice af ks.length cf, .slice aw W.length cw, .int .i64 half, .int .i64 base, .int .i64 next, .slice (some ⟨gI, 0, none⟩) 2 2, .slice (some ⟨gC, 0, none⟩) 1 1, .slice none 0 0, .int .i64 0, .bool each], rfl, hY⟩, hX⟩

end Go.Proofs.YtjibmpebebephaaGreatDoor.vm

/-
  The program's Back, at every list of datas, heap and word; nothing that was there is turned.
-/
import Derived.Test.YtjofmoebijdccaaGreatB1
import Derived.Test.YtjofmoebijdccaaGreatB2
import Derived.Test.YtjofmoebijdccaaGreatB3
import Derived.Test.YtjofmoebijdccaaGreatB4
import Derived.Test.YtjofmoebijdccaaGreatB5
import Derived.Test.YtjofmoebijdccaaGreatB6
import Derived.Test.YtjofmoebijdccaaGreatB7
import Derived.Test.YtjofmoebijdccaaGreatB8
import Derived.Test.YtjofmoebijdccaaGreatB9
import Derived.Test.YtjofmoebijdccaaGreatB10
import Derived.Test.YtjofmoebijdccaaGreatB11
import Derived.Test.YtjofmoebijdccaaGreatB12
import Derived.Test.YtjofmoebijdccaaGreatB13
import Derived.Test.YtjofmoebijdccaaGreatB14
import Derived.Test.YtjofmoebijdccaaGreatB15
import Derived.Test.YtjofmoebijdccaaGreatB16
import Derived.Test.YtjofmoebijdccaaGreatB17
import Derived.Test.YtjofmoebijdccaaGreatB18
import Derived.Test.YtjofmoebijdccaaGreatB19
import Derived.Test.YtjofmoebijdccaaGreatB20
import Derived.Test.YtjofmoebijdccaaGreatB21
import Derived.Test.YtjofmoebijdccaaGreatB22
import Derived.Test.YtjofmoebijdccaaGreatB23
import Derived.Test.YtjofmoebijdccaaGreatB24
import Derived.Test.YtjofmoebijdccaaGreatB25
import Derived.Test.YtjofmoebijdccaaGreatB26
import Derived.Test.YtjofmoebijdccaaGreatB27
import Derived.Test.YtjofmoebijdccaaGreatB28
import Derived.Test.YtjofmoebijdccaaGreatB29
import Derived.Test.YtjofmoebijdccaaGreatB30
import Derived.Test.YtjofmoebijdccaaGreatB31
import Derived.Test.YtjofmoebijdccaaGreatB32
namespace Go.Proofs.YtjofmoebijdccaaGreat.back
open Go Go.RowKit Go.Proofs.YtjofmoebijdccaaGreat.rose Go.Proofs.YtjofmoebijdccaaGreat Go.Proofs.YtjofmoebijdccaaGreat.heap Go.Proofs.YtjofmoebijdccaaGreat.fun Go.Proofs.YtjofmoebijdccaaGreat.words Go.Proofs.YtjofmoebijdccaaGreat.ints
set_option linter.unusedVariables false
set_option linter.unusedSimpArgs false

theorem read_any {B hb hm : Nat} {wv : Value} {W : List Int} {half base next : Nat} {M : List Bool} {ks : List data.DataD} {lo : Nat} {cv : Value} {kl : Nat} (hKn : Known W half base next M) (htl : (data.spots 0 0 ks).length ≤ 1048576) (hnb : ∀ j (hj : j < (data.spots 0 0 ks).length), (data.spots 0 0 ks)[j].c.1.size ≤ 1048576) (d : Nat) (hd : d ≤ 200) :
    ReadSays B hb hm wv W half base next M ks lo cv kl d := by
  induction d with
  | zero => exact fun r x w hr hx1 hx2 hk he => read_zero 0 r _ _ x w rfl hr rfl hx1 hx2 hk he
  | succ d ih =>
    have IH := ih (by omega)
    intro r x w hr hx1 hx2 hk he
    cases r with
    | zero => exact read_full d 0 _ _ x w (by omega) (by omega) (by omega) rfl hx1 hx2 hk he
    | succ n =>
      rcases ht : topB ks (W, (half : Int), (base : Int), (next : Int)) x with _ | ⟨⟨x0, x1, x2⟩, kids⟩
      · exact read_none d n _ _ x w (by omega) (by omega) (by omega) (by push_cast; rfl) hx1 hx2 hk he hKn htl hnb ht
      · exact read_some d n _ _ x w (by omega) (by omega) (by omega) (by push_cast; rfl) hx1 hx2 hk he hKn htl hnb (by push_cast; omega) IH x0 x1 x2 kids ht

theorem zero_repI (w : World) (F : Nat → Prop) : value.valueSp.rep w F [.int .i64 0, .int .i64 0, .string ⟨#[]⟩, .slice none 0 0] zeroV :=
  value.valuep_shutv (by omega) (by omega) (by simp [ByteArray.size]) ⟨none, 0, fun _ => [], fun _ _ => False, rfl, Nat.le_refl _, Nat.zero_le _, fun _ => rfl, fun h => absurd h (Nat.lt_irrefl _), fun i hi => absurd hi (Nat.not_lt_zero _), fun i j hi => absurd hi (Nat.not_lt_zero _), fun i hi => absurd hi (Nat.not_lt_zero _)⟩
theorem con_name (c : con.ConD) : c.1.size ≤ con.wt c := by obtain ⟨a, b⟩ := c; simp only [con.wt]; omega
theorem data_cons (d : data.DataD) : con.wts d.2.2 ≤ data.wt d := by obtain ⟨a, b, c⟩ := d; simp only [data.wt]; omega
theorem names_in {ks : List data.DataD} (hw : ks.length + data.wts ks ≤ 1048576) : (data.spots 0 0 ks).length ≤ 1048576 ∧ ∀ j (hj : j < (data.spots 0 0 ks).length), (data.spots 0 0 ks)[j].c.1.size ≤ 1048576 := by
  refine ⟨by rw [data.spots_length]; have := data.total_le ks; omega, fun j hj => ?_⟩
  obtain ⟨p, q, hp, hq, -, -, h3⟩ := spots_mem (List.getElem_mem hj)
  rw [h3]
  have h1 := data.wt_mem (List.getElem_mem hp)
  have h2 := con.wt_mem (List.getElem_mem hq)
  have h4 := con_name ks[p].2.2[q]
  have h5 := data_cons ks[p]
  omega

set_option maxRecDepth 100000 in
set_option maxHeartbeats 8000000 in
theorem implBack (ks : List data.DataD) (T : HeapD) (x : Int) (v : Value) (cs : List Value) (w : World) (hw : (ks.length + data.wts ks) + heap.wt T ≤ 1048576) (hx1 : -9223372036854775808 ≤ x) (hx2 : x ≤ 9223372036854775807) (h : data.dataSh.slice.rep w (· < w.heap.size) [v] ks) (h' : heapSh.rep w (· < w.heap.size) cs T) :
    Calls Tryz.prog 28 #[v, .agg cs.toArray, .int .i64 x] w fun e w' => (∃ cs', e = .returned (.tuple #[.agg cs'.toArray, .bool (backF ks T x).2]) ∧ value.valueSp.rep w' (fun b => w.heap.size ≤ b ∧ b < w'.heap.size) cs' (backF ks T x).1) ∧ Below w.heap.size w w' := by
  have HDS : Hid (data.dataSh.slice.rep w (· < w.heap.size) [v] ks) := h
  have HW : Hid (ks.length + data.wts ks ≤ 1048576) := by show _ ≤ _; omega
  have o0 := data.dataSh.slice.one h v (by simp)
  obtain ⟨W, a0, c0, half, base, next, rfl, rfl, f0, f1, f2, f3⟩ := heap_open h'
  obtain ⟨r, hr⟩ : ∃ r, r = backF ks (W, half, base, next) x := ⟨_, rfl⟩
  have HR : Hid (r = backF ks (W, half, base, next) x) := hr
  rw [← hr]
  have B0 : Hid (Below w.heap.size w ((w.alloc (.cells #[.slice a0 W.length c0, .int .i64 half, .int .i64 base, .int .i64 next] 40)).alloc (.cells #[.int .i64 0, .int .i64 0, .string ⟨#[]⟩, .slice none 0 0] 34))) := ((Below.refl _ _).alloc (Nat.le_refl _) _).alloc (by simp) _
  have S0 : Hid ((((w.alloc (.cells #[.slice a0 W.length c0, .int .i64 half, .int .i64 base, .int .i64 next] 40)).alloc (.cells #[.int .i64 0, .int .i64 0, .string ⟨#[]⟩, .slice none 0 0] 34))).heap.size = w.heap.size + 2) := by show _ = _; simp
  have R0 : Hid ((((w.alloc (.cells #[.slice a0 W.length c0, .int .i64 half, .int .i64 base, .int .i64 next] 40)).alloc (.cells #[.int .i64 0, .int .i64 0, .string ⟨#[]⟩, .slice none 0 0] 34))).heap[w.heap.size + 1]? = some (.cells #[.int .i64 0, .int .i64 0, .string ⟨#[]⟩, .slice none 0 0] 34)) := by
    have := alloc_top (w.alloc (.cells #[.slice a0 W.length c0, .int .i64 half, .int .i64 base, .int .i64 next] 40)) (.cells #[.int .i64 0, .int .i64 0, .string ⟨#[]⟩, .slice none 0 0] 34)
    rwa [World.size_alloc] at this
  have hcall := hold_is W a0 c0 half base next ((w.alloc (.cells #[.slice a0 W.length c0, .int .i64 half, .int .i64 base, .int .i64 next] 40)).alloc (.cells #[.int .i64 0, .int .i64 0, .string ⟨#[]⟩, .slice none 0 0] 34)) (heapSh.mono (heapSh.below h' B0.out) fun b hlt => Nat.lt_of_lt_of_le hlt B0.out.size)
  clear h h' f0 f1 f2 f3 hw hr
  rcases q : heapB (W, half, base, next) with _ | _
  · have HF : Hid (r = (zeroV, false)) := by show _ = _; rw [HR.out]; unfold backF; rw [q]; rfl
    go_enter Tryz.func28, Tryz.ntmps28
    go_wp2_with fail
    refine hcall.mono ?_
    rintro e w1 ⟨ho, hb⟩
    obtain ⟨pp, rfl⟩ := ho.1 q
    have B1 : Hid (Below w.heap.size w w1) := B0.out.trans (hb.mono B0.out.size)
    have R1 : Hid (w1.heap[w.heap.size + 1]? = some (.cells #[.int .i64 0, .int .i64 0, .string ⟨#[]⟩, .slice none 0 0] 34)) := (hb.block _ (by rw [S0.out]; omega)).trans R0.out
    clear hcall hb ho
    have r0 : World.cell? w1 ⟨w.heap.size + 1, 0, none⟩ = some (.int .i64 0) := blkI (i := 0) R1.out rfl
    have r1 : World.cell? w1 ⟨w.heap.size + 1, 1, none⟩ = some (.int .i64 0) := blkI (i := 1) R1.out rfl
    have r2 : World.cell? w1 ⟨w.heap.size + 1, 2, none⟩ = some (.string ⟨#[]⟩) := blkI (i := 2) R1.out rfl
    have r3 : World.cell? w1 ⟨w.heap.size + 1, 3, none⟩ = some (.slice none 0 0) := blkI (i := 3) R1.out rfl
    have fr : ∀ o, World.frozen? w1 ⟨w.heap.size + 1, o, none⟩ = false := fun o => frzI R1.out
    go_wp2
    refine bodyPost_ret (v := .tuple #[.agg #[.int .i64 0, .int .i64 0, .string ⟨#[]⟩, .slice none 0 0], .bool false]) (by simp [results, Tryz.f28, go_sem, r0, r1, r2, r3]) rfl ?_
    rw [HF.out]
    exact ⟨⟨_, rfl, zero_repI _ _⟩, ((((B1.out.setCell (by simp) _).setCell (by simp) _).setCell (by simp) _).setCell (by simp) _)⟩
  · go_enter Tryz.func28, Tryz.ntmps28
    go_wp2_with fail
    refine hcall.mono ?_
    rintro e w1 ⟨ho, hb⟩
    obtain ⟨hb', hm, hf, bs, nx, M, e1, e2, e3, rfl, hH, hM⟩ := ho.2 q
    subst e1 e2 e3
    have HPT : plT (W, (hf : Int), (bs : Int), (nx : Int)) = plF W nx bs := by unfold plT; simp
    have hplok : (plF W nx bs).2 = true := by have := heapB_places_ok q; rwa [HPT] at this
    have HKn : Hid (Known W hf bs nx M) := by
      refine ⟨fun p => ?_, fun p hp => ?_, fun z hz => ?_⟩
      · rw [HPT]; exact atB_is hM (by have := hH.siz; omega) (plF_span hplok) p
      · rw [HPT] at hp
        obtain ⟨z, hz, -, -⟩ := plF_in hplok p hp
        exact ⟨z, hz⟩
      · rw [HPT] at hz
        obtain ⟨z', hz', -, h2⟩ := plF_in hplok _ hz
        obtain rfl : z = z' := by omega
        exact ⟨by have := hH.siz; omega, head_pos hplok z hz⟩
    have Q : Hid (heapB (W, (hf : Int), (bs : Int), (nx : Int)) = true) := q
    have B1 : Hid (Below w.heap.size w w1) := B0.out.trans (hb.mono B0.out.size)
    have R1 : Hid (w1.heap[w.heap.size + 1]? = some (.cells #[.int .i64 0, .int .i64 0, .string ⟨#[]⟩, .slice none 0 0] 34)) := (hb.block _ (by rw [S0.out]; omega)).trans R0.out
    have HH1 : Hid (HH (((w.alloc (.cells #[.slice a0 W.length c0, .int .i64 (hf : Int), .int .i64 (bs : Int), .int .i64 (nx : Int)] 40)).alloc (.cells #[.int .i64 0, .int .i64 0, .string ⟨#[]⟩, .slice none 0 0] 34))).heap.size hb' hm (.slice a0 W.length c0) W hf bs nx 0 M w1) := hH
    have hlt := hH.lt
    have hlo := hH.lo
    rw [S0.out] at hlo
    have hL : Below w1.heap.size w1 (w1.alloc (.cells #[.int .i64 4000] 3)) := (Below.refl _ _).alloc (Nat.le_refl _) _
    have DS2 : data.dataSh.slice.rep (w1.alloc (.cells #[.int .i64 4000] 3)) (· < w.heap.size) [v] ks := data.dataSh.slice.below HDS.out (B1.out.trans (hL.mono B1.out.size))
    have hcall2 := data.consByTag_any ks v (w1.alloc (.cells #[.int .i64 4000] 3)) (· < w.heap.size) (fun b hlt => by have := B1.out.size; simp; omega) HW.out DS2
    have S2 : Hid ((w1.alloc (.cells #[.int .i64 4000] 3)).heap.size = w1.heap.size + 1) := by show _ = _; simp
    clear hcall hb ho hH hM HPT hplok q DS2 hL
    go_wp2_with fail
    refine hcall2.mono ?_
    rintro e w3 ⟨⟨u, rfl, hcr⟩, hb3⟩
    have HB3 : Hid (Below w1.heap.size w1 w3) := by
      have := hb3
      rw [S2.out] at this
      exact ((Below.refl _ _).alloc (Nat.le_refl _) _).trans (this.mono (by omega))
    have hz3 : w1.heap.size + 1 ≤ w3.heap.size := by have := hb3.size; rw [S2.out] at this; exact this
    have L3 : Hid (w3.heap[w1.heap.size]? = some (.cells #[.int .i64 4000] 3)) := (hb3.block _ (by rw [S2.out]; omega)).trans (alloc_top _ _)
    have RE3 : Hid (RE (((w.alloc (.cells #[.slice a0 W.length c0, .int .i64 (hf : Int), .int .i64 (bs : Int), .int .i64 (nx : Int)] 40)).alloc (.cells #[.int .i64 0, .int .i64 0, .string ⟨#[]⟩, .slice none 0 0] 34))).heap.size hb' hm (.slice a0 W.length c0) W hf bs nx M ks (w1.alloc (.cells #[.int .i64 4000] 3)).heap.size u w1.heap.size w3) := by
      refine ⟨HH1.out.on HB3.out, hcr, fun g hg => ?_, by omega, by omega, ?_⟩
      · have := hcr.own g hg
        rw [S2.out] at this
        omega
      · rw [S0.out]; have := B1.out.size; have := (Array.getElem?_eq_some_iff.1 R1.out).1; omega
    obtain ⟨htl, hnb⟩ := names_in HW.out
    have hcall3 := read_any HKn.out htl hnb 200 (Nat.le_refl _) 4000 x w3 (Nat.le_refl _) hx1 hx2 L3.out RE3.out
    have R3 : Hid (w3.heap[w.heap.size + 1]? = some (.cells #[.int .i64 0, .int .i64 0, .string ⟨#[]⟩, .slice none 0 0] 34)) := (HB3.out.block _ (Array.getElem?_eq_some_iff.1 R1.out).1).trans R1.out
    have B3 : Hid (Below w.heap.size w w3) := B1.out.trans (HB3.out.mono B1.out.size)
    obtain ⟨au, cu, ru⟩ : ∃ a c, u = .slice a (data.spots 0 0 ks).length c := by obtain ⟨⟨a, c, e, -⟩, -⟩ := hcr; exact ⟨a, c, e⟩
    subst ru
    have hz1 : w.heap.size + 2 ≤ w1.heap.size := (Array.getElem?_eq_some_iff.1 R1.out).1
    clear hcall2 hb3 hcr htl hnb
    go_wp2_with fail
    refine hcall3.mono ?_
    rintro e w4 ho
    have R4 : Hid (w4.heap[w.heap.size + 1]? = some (.cells #[.int .i64 0, .int .i64 0, .string ⟨#[]⟩, .slice none 0 0] 34)) := (ho.only.block _ (by omega) (by omega)).trans R3.out
    have B4 : Hid (Below w.heap.size w w4) := B3.out.trans (ho.only.below B3.out.size (fun b hb => by omega))
    have hz4 := ho.only.size
    clear hcall3
    have r0 : World.cell? w4 ⟨w.heap.size + 1, 0, none⟩ = some (.int .i64 0) := blkI (i := 0) R4.out rfl
    have r1 : World.cell? w4 ⟨w.heap.size + 1, 1, none⟩ = some (.int .i64 0) := blkI (i := 1) R4.out rfl
    have r2 : World.cell? w4 ⟨w.heap.size + 1, 2, none⟩ = some (.string ⟨#[]⟩) := blkI (i := 2) R4.out rfl
    have r3 : World.cell? w4 ⟨w.heap.size + 1, 3, none⟩ = some (.slice none 0 0) := blkI (i := 3) R4.out rfl
    have fr : ∀ o, World.frozen? w4 ⟨w.heap.size + 1, o, none⟩ = false := fun o => frzI R4.out
    rcases hq : backD (topB ks (W, (hf : Int), (bs : Int), (nx : Int))) 200 4000 x with _ | ⟨V, q⟩
    · have HF : Hid (r = (zeroV, false)) := by show _ = _; rw [HR.out]; unfold backF; rw [Q.out, hq]; rfl
      obtain rfl := ho.no hq
      clear ho hq
      go_wp2
      refine bodyPost_ret (v := .tuple #[.agg #[.int .i64 0, .int .i64 0, .string ⟨#[]⟩, .slice none 0 0], .bool false]) (by simp [results, Tryz.f28, go_sem, r0, r1, r2, r3]) rfl ?_
      rw [HF.out]
      exact ⟨⟨_, rfl, zero_repI _ _⟩, ((((B4.out.setCell (by simp) _).setCell (by simp) _).setCell (by simp) _).setCell (by simp) _)⟩
    · have HF : Hid (r = (V, true)) := by show _ = _; rw [HR.out]; unfold backF; rw [Q.out, hq]; rfl
      obtain ⟨⟨cs', rfl, hrep⟩, hwk⟩ := ho.yes V q hq
      obtain ⟨n0, n1, n2, n3, rfl⟩ := value.value_list (value.valuep_rep hrep)
      have ON : Hid (∀ u ∈ [n0, n1, n2, n3], u.oneCell' = true) := value.valueSp.one hrep
      have on0 := ON.out n0 (by simp)
      have on1 := ON.out n1 (by simp)
      have on2 := ON.out n2 (by simp)
      have on3 := ON.out n3 (by simp)
      have so0 := fun (a : Addr) (m : Mode) (w : World) => run_store Tryz.prog w a n0 m on0
      have so1 := fun (a : Addr) (m : Mode) (w : World) => run_store Tryz.prog w a n1 m on1
      have so2 := fun (a : Addr) (m : Mode) (w : World) => run_store Tryz.prog w a n2 m on2
      have so3 := fun (a : Addr) (m : Mode) (w : World) => run_store Tryz.prog w a n3 m on3
      have HV : Hid (value.valueSp.rep w4 (fun b => w3.heap.size ≤ b ∧ b < w4.heap.size) [n0, n1, n2, n3] V) := hrep
      clear ho hq hrep hwk
      go_wp2
      refine bodyPost_ret (v := .tuple #[.agg #[n0, n1, n2, n3], .bool true]) (by simp [results, Tryz.f28, go_sem, r0, r1, r2, r3]) rfl ?_
      rw [HF.out]
      refine ⟨⟨[n0, n1, n2, n3], rfl, ?_⟩, ((((B4.out.setCell (by simp) _).setCell (by simp) _).setCell (by simp) _).setCell (by simp) _)⟩
      exact value.valueSp.mono (value.valueSp.on HV.out fun b hb => s4_other (by omega)) fun b hb => ⟨by omega, by simp [World.setCell]; omega⟩

end Go.Proofs.YtjofmoebijdccaaGreat.back

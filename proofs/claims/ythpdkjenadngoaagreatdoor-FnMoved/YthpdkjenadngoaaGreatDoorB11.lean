/-
  The model's l18Collect, of what is right; nothing that was there is turned.
-/
import Derived.Deep.RegionHeld3
import Derived.Test.YthpdkjenadngoaaGreatDoorB1
import Derived.Test.YthpdkjenadngoaaGreatDoorB2
import Derived.Test.YthpdkjenadngoaaGreatDoorB3
import Derived.Test.YthpdkjenadngoaaGreatDoorB4
import Derived.Test.YthpdkjenadngoaaGreatDoorB5
import Derived.Test.YthpdkjenadngoaaGreatDoorB6
import Derived.Test.YthpdkjenadngoaaGreatDoorB7
import Derived.Test.YthpdkjenadngoaaGreatDoorB8
import Derived.Test.YthpdkjenadngoaaGreatDoorB9
import Derived.Test.YthpdkjenadngoaaGreatDoorB10
namespace Go.Proofs.YthpdkjenadngoaaGreatDoor.heap
open Go Go.RowKit Go.Deep Go.Proofs.YthpdkjenadngoaaGreatDoor.rose Go.Proofs.YthpdkjenadngoaaGreatDoor Go.Proofs.YthpdkjenadngoaaGreatDoor.fun Go.Proofs.YthpdkjenadngoaaGreatDoor.words Go.Proofs.YthpdkjenadngoaaGreatDoor.ints
set_option linter.unusedVariables false
set_option linter.unusedSimpArgs false

set_option maxRecDepth 100000 in
set_option maxHeartbeats 64000000 in
theorem specCollectW (T : HeapD) (rs : List Int) (cs : List Value) (v : Value) (w : World) (hR : rightB T rs = true) (hrl : rs.length ≤ 1048576) (h : heapSh.rep w (· < w.heap.size) cs T) (hv : intsSh.rep w (· < w.heap.size) [v] rs) :
    Calls Tryz.prog 28 #[.agg cs.toArray, v] w fun e w' => (∃ q v', e = .returned (.tuple #[.agg #[.slice (some ⟨q, 0, none⟩) (endC T rs).1.length (endC T rs).1.length, .int .i64 T.2.1, .int .i64 (T.2.1 - T.2.2.1), .int .i64 (endC T rs).2.1], v']) ∧
      IRow w' w.heap.size (.slice (some ⟨q, 0, none⟩) (endC T rs).1.length (endC T rs).1.length) (endC T rs).1 ∧ IRow w' w.heap.size v' (rootsC T.1 (startC T) rs).2 ∧ v'.ownBlock ≠ some q ∧ (endC T rs).2.1 ≤ 6000) ∧ Below w.heap.size w w' := by
  obtain ⟨hb, hth⟩ := right_is hR
  have AV : Hid (intsSh.rep w (· < w.heap.size) [v] rs) := hv
  obtain ⟨W, a0, c0, half, base, next, rfl, rfl, f0, f1, f2, f3⟩ := heap_open h
  obtain ⟨aw, capw, ew, hcapw, hmaxw, hatw⟩ := ints_open f0
  cases ew
  have RNG : Hid (∀ y ∈ W, InR y) := fun y hy => by
    obtain ⟨j, hj, e⟩ := List.getElem_of_mem hy
    obtain ⟨_, _, _, _, _, r3, r4⟩ := hatw j hj
    rw [← e]; exact ⟨r3, r4⟩
  obtain ⟨ar, cr, rfl, hcap, hmax, hat⟩ := ints_open hv
  have HA : Hid _ := hat
  have hmx : (rs.length : Int) ≤ 9223372036854775807 := by omega
  have HB : Hid (heapB (W, half, base, next) = true) := hb
  have HT : Hid (∀ x ∈ rs, thereB (plT (W, half, base, next)).1 x = true) := hth
  have hin := head_in (heap_head hb)
  dsimp only at hin
  obtain ⟨hn, rfl⟩ : ∃ z : Nat, half = z := ⟨half.toNat, by omega⟩
  obtain ⟨bn, rfl⟩ : ∃ z : Nat, base = z := ⟨base.toNat, by omega⟩
  have hwl : W.length = 2 * hn := by omega
  have HWL : Hid (W.length = 2 * hn ∧ W.length ≤ 6000) := ⟨hwl, by omega⟩
  have hmk := make_zero (2 * hn) (by omega)
  have ec2 : ((2 * hn : Nat) : Int) = 2 * (hn : Int) := by omega
  rw [ec2] at hmk
  obtain ⟨b2, hb2⟩ : ∃ z : Nat, z = ((hn : Int) - bn).toNat := ⟨_, rfl⟩
  have HB2 : Hid ((b2 : Int) = (hn : Int) - bn ∧ ((hn : Int) - bn).toNat = b2) := ⟨by omega, hb2.symm⟩
  have hhb : (hn : Int) ≤ 3000 ∧ (bn : Int) ≤ hn := by omega
  obtain ⟨T, hT⟩ : ∃ T : HeapD, T = (W, (hn : Int), (bn : Int), next) := ⟨_, rfl⟩
  have HTT : Hid (T.1 = W ∧ T.2.1 = hn ∧ T.2.2.1 = bn ∧ (T.2.1 - T.2.2.1).toNat = b2) := by rw [hT]; exact ⟨rfl, rfl, rfl, HB2.out.2⟩
  rw [← hT] at HB HT ⊢
  have hBt := HB.out
  obtain ⟨w0, hw0⟩ : ∃ w0, w0 = (w.alloc (.cells #[.slice a0 W.length c0, .int .i64 hn, .int .i64 bn, .int .i64 next] 26)).alloc (.cells #[.slice none 0 0, .int .i64 0, .int .i64 0, .int .i64 0] 26) := ⟨_, rfl⟩
  have B0 : Hid (Below w.heap.size w w0) := by rw [hw0]; exact ((Below.refl _ _).alloc (Nat.le_refl _) _).alloc (by simp) _
  have Z0 : Hid (w0.heap.size = w.heap.size + 2) := by show _ = _; rw [hw0]; simp
  have HW0 : Hid (intsSh.rep w0 (· < w.heap.size + 2) [.slice a0 T.1.length c0] T.1) := by
    show intsSh.rep _ _ _ _
    rw [HTT.out.1]
    exact intsSh.mono (intsSh.below f0 B0.out) fun b hlt => by show b < _; have : b < w.heap.size := hlt; omega
  have X0 : Hid (w0.heap[w.heap.size]? = some (.cells #[.slice a0 W.length c0, .int .i64 hn, .int .i64 bn, .int .i64 next] 26) ∧ w0.heap[w.heap.size + 1]? = some (.cells #[.slice none 0 0, .int .i64 0, .int .i64 0, .int .i64 0] 26)) := by
    rw [hw0]
    refine ⟨?_, ?_⟩
    · rw [Below.heap_alloc _ _ _ (by simp)]; exact alloc_top _ _
    · have := alloc_top (w.alloc (.cells #[.slice a0 W.length c0, .int .i64 hn, .int .i64 bn, .int .i64 next] 26)) (.cells #[.slice none 0 0, .int .i64 0, .int .i64 0, .int .i64 0] 26)
      rwa [World.size_alloc] at this
  obtain ⟨ti, hti, hz0, hz1, hz2⟩ := int_info
  have TI : Hid (Tryz.prog.info? 3 = some ti ∧ ti.zero = some (.int .i64 0) ∧ ti.size = 1 ∧ ti.bytes = 8) := ⟨hti, hz0, hz1, hz2⟩
  have HST : Hid (startC T = (List.replicate (2 * hn) 0, b2, [], [])) := by show _ = _; unfold startC; rw [HTT.out.1, HTT.out.2.2.2, HWL.out.1]
  have HEN : Hid (∀ s M, rootsC W (startC T) rs = (s, M) → endC T rs = scanC W (W.length + 1) b2 s ∧ (rootsC T.1 (startC T) rs).2 = M) := fun s M hs => by
    unfold endC; rw [HTT.out.1, HTT.out.2.2.2, hs]; exact ⟨rfl, rfl⟩
  have HW00 : Hid (w0 = (w.alloc (.cells #[.slice a0 W.length c0, .int .i64 hn, .int .i64 bn, .int .i64 next] 26)).alloc (.cells #[.slice none 0 0, .int .i64 0, .int .i64 0, .int .i64 0] 26)) := hw0
  clear h hv f0 hcap hmax hat f1 f2 f3 hcapw hmaxw hatw hT hw0 hwl hb2 hb hth hBt ec2 hti hz0 hz1 hz2 hR
  go_enter Tryz.func28, Tryz.ntmps28
  have y0 : ((w.alloc (.cells #[.slice a0 W.length c0, .int .i64 hn, .int .i64 bn, .int .i64 next] 26)).alloc (.cells #[.slice none 0 0, .int .i64 0, .int .i64 0, .int .i64 0] 26)).cell? ⟨w.heap.size, 1, none⟩ = some (.int .i64 hn) := by rw [← HW00.out]; exact blk_cellM (i := 1) X0.out.1 rfl
  have y1 : ((w.alloc (.cells #[.slice a0 W.length c0, .int .i64 hn, .int .i64 bn, .int .i64 next] 26)).alloc (.cells #[.slice none 0 0, .int .i64 0, .int .i64 0, .int .i64 0] 26)).cell? ⟨w.heap.size, 2, none⟩ = some (.int .i64 bn) := by rw [← HW00.out]; exact blk_cellM (i := 2) X0.out.1 rfl
  have ew1 : IntKind.i64.wrap (2 * (hn : Int)) = 2 * (hn : Int) := by rw [IntKind.wrap_i64]; omega
  have ew2 : IntKind.i64.wrap ((hn : Int) - (bn : Int)) = (hn : Int) - bn := by rw [IntKind.wrap_i64]; omega
  go_wp2
  go_region_held3 (fun W' => W'.cell? ⟨w.heap.size, 1, none⟩ = some (.int .i64 hn) ∧ W'.cell? ⟨w.heap.size, 2, none⟩ = some (.int .i64 bn) ∧ w.heap.size + 2 ≤ W'.heap.size)
    (first | exact ⟨y0, y1, by simp⟩ | go_keep | (refine ⟨?_, ?_, ?_⟩ <;> first | assumption | (simp; done) | (simp; omega) | (simp [*]; done)))
    (first | fail)
  · clear hmk y0 y1
    generalize hwA : World.drew _ = wA
    have F : Hid (Below w0.heap.size w0 wA ∧ wA.heap.size = w.heap.size + 4 ∧ wA.heap[w.heap.size + 1 + 1]? = some (.cells (Array.replicate (2 * hn) (Value.int .i64 0)) 3) ∧ wA.heap[w.heap.size + 1 + 1 + 1]? = some (.cells #[.slice (some ⟨w.heap.size + 1 + 1, 0, none⟩) (2 * hn) (2 * hn), .int .i64 hn, .int .i64 ((hn : Int) - bn), .int .i64 ((hn : Int) - bn)] 26)) := by
      rw [← hwA, ← HW00.out]
      refine ⟨?_, ?_, ?_, ?_⟩
      · exact (((Below.refl _ w0).alloc (Nat.le_refl _) _).alloc (by simp) _).drew
      · show (World.alloc _ _).heap.size = _; rw [World.size_alloc, World.size_alloc, Z0.out]
      · show (World.alloc _ _).heap[w.heap.size + 1 + 1]? = _
        rw [Below.heap_alloc _ _ _ (by rw [World.size_alloc, Z0.out]; omega)]
        have := alloc_top w0 (.cells (Array.replicate (2 * hn) (Value.int .i64 0)) 3)
        rw [Z0.out] at this
        exact this
      · show (World.alloc _ _).heap[w.heap.size + 1 + 1 + 1]? = _
        have := alloc_top (w0.alloc (.cells (Array.replicate (2 * hn) (Value.int .i64 0)) 3)) (.cells #[.slice (some ⟨w.heap.size + 1 + 1, 0, none⟩) (2 * hn) (2 * hn), .int .i64 hn, .int .i64 ((hn : Int) - bn), .int .i64 ((hn : Int) - bn)] 26)
        rw [World.size_alloc, Z0.out] at this
        exact this
    clear hwA
    obtain ⟨x3, hx3⟩ : ∃ x, x = w.heap.size + 1 + 1 + 1 := ⟨_, rfl⟩
    rw [← hx3] at F ⊢
    obtain ⟨x2, hx2⟩ : ∃ x, x = w.heap.size + 1 + 1 := ⟨_, rfl⟩
    rw [← hx2] at F ⊢
    have ORD : Hid (x2 = w.heap.size + 2 ∧ x3 = w.heap.size + 3) := ⟨by omega, by omega⟩
    clear hx2 hx3
    have a0c : wA.cell? ⟨w.heap.size, 0, none⟩ = some (.slice a0 W.length c0) := blk_cellM (i := 0) ((F.out.1.block _ (by have := Z0.out; omega)).trans X0.out.1) rfl
    have a1c : wA.cell? ⟨w.heap.size, 1, none⟩ = some (.int .i64 hn) := blk_cellM (i := 1) ((F.out.1.block _ (by have := Z0.out; omega)).trans X0.out.1) rfl
    have a2c : wA.cell? ⟨w.heap.size, 2, none⟩ = some (.int .i64 bn) := blk_cellM (i := 2) ((F.out.1.block _ (by have := Z0.out; omega)).trans X0.out.1) rfl
    have a3c : wA.cell? ⟨w.heap.size, 3, none⟩ = some (.int .i64 next) := blk_cellM (i := 3) ((F.out.1.block _ (by have := Z0.out; omega)).trans X0.out.1) rfl
    have t0c : wA.cell? ⟨x3, 0, none⟩ = some (.slice (some ⟨x2, 0, none⟩) (2 * hn) (2 * hn)) := blk_cellM (i := 0) F.out.2.2.2 rfl
    have t1c : wA.cell? ⟨x3, 1, none⟩ = some (.int .i64 hn) := blk_cellM (i := 1) F.out.2.2.2 rfl
    have t2c : wA.cell? ⟨x3, 2, none⟩ = some (.int .i64 ((hn : Int) - bn)) := blk_cellM (i := 2) F.out.2.2.2 rfl
    have t3c : wA.cell? ⟨x3, 3, none⟩ = some (.int .i64 ((hn : Int) - bn)) := blk_cellM (i := 3) F.out.2.2.2 rfl
    have S0 : Hid (MS (w.heap.size + 2) w0 ((wA.alloc (.cells #[.slice a0 W.length c0, .int .i64 hn, .int .i64 bn, .int .i64 next, .slice (some ⟨x2, 0, none⟩) (2 * hn) (2 * hn), .int .i64 hn, .int .i64 ((hn : Int) - bn), .int .i64 ((hn : Int) - bn), .slice none 0 0, .slice none 0 0] 96)).alloc (.cells #[] 3)) wA.heap.size x2 (.slice a0 W.length c0) (.int .i64 hn) (.int .i64 bn) (.int .i64 next) hn b2 (startC T) (.slice none 0 0) (.slice none 0 0) ∧ RM ((wA.alloc (.cells #[.slice a0 W.length c0, .int .i64 hn, .int .i64 bn, .int .i64 next, .slice (some ⟨x2, 0, none⟩) (2 * hn) (2 * hn), .int .i64 hn, .int .i64 ((hn : Int) - bn), .int .i64 ((hn : Int) - bn), .slice none 0 0, .slice none 0 0] 96)).alloc (.cells #[] 3)) wA.heap.size (.slice (some ⟨wA.heap.size + 1, 0, none⟩) 0 0) (.slice none 0 0) (.slice none 0 0) []) := by
      rw [HST.out]
      have hs := F.out.2.1
      have ho := ORD.out
      refine ⟨⟨?_, by omega, ?_, ?_, IRow.nil _ _, IRow.nil _ _, fun k hk => by cases hk⟩, ⟨?_, fun k hk => ⟨(fun e => by cases e), (fun e => by cases e)⟩⟩⟩
      · have := F.out.1
        rw [Z0.out] at this
        exact (this.alloc (by omega) _).alloc (by simp; omega) _
      · rw [Below.heap_alloc _ _ _ (by simp), alloc_top]
        simp [HB2.out.1]
      · rw [Below.heap_alloc _ _ _ (by simp; omega), Below.heap_alloc _ _ _ (by omega), zeros_is]
        exact F.out.2.2.1
      · have := irow_lit0 (wA.alloc (.cells #[.slice a0 W.length c0, .int .i64 hn, .int .i64 bn, .int .i64 next, .slice (some ⟨x2, 0, none⟩) (2 * hn) (2 * hn), .int .i64 hn, .int .i64 ((hn : Int) - bn), .int .i64 ((hn : Int) - bn), .slice none 0 0, .slice none 0 0] 96)) (base := wA.heap.size + 1) (by simp)
        rwa [World.size_alloc] at this
    have LO : Hid (w.heap.size + 2 ≤ x2 ∧ x2 < wA.heap.size) := ⟨by have := ORD.out; omega, by have := ORD.out; have := F.out.2.1; omega⟩
    obtain ⟨g, hg⟩ : ∃ g, g = wA.heap.size := ⟨_, rfl⟩
    rw [← hg] at S0 LO
    go_wp2
    clear a0c a1c a2c a3c t0c t1c t2c t3c
    rw [← hg]
    clear hg
    go_loopw [8, 9] (fun v8 v9 wr => ∃ (i : Nat) (s : CS) (M : List Int) (aM : Option Addr) (cM : Nat) (vo vn : Value), i ≤ rs.length ∧ v9 = .int .i64 i ∧ v8 = .slice aM M.length cM ∧ Hid (MS (w.heap.size + 2) w0 wr g x2 (.slice a0 W.length c0) (.int .i64 hn) (.int .i64 bn) (.int .i64 next) hn b2 s vo vn ∧ CI T 0 1 s ∧ RM wr g (.slice aM M.length cM) vo vn M ∧ rootsC W (startC T) (rs.take i) = (s, M) ∧ M.length = i)) (fun _ v9 _ => rs.length - (intOf v9).toNat)
    case atStart => exact ⟨0, startC T, [], _, _, _, _, Nat.zero_le _, rfl, rfl, ⟨S0.out.1, CI.start, S0.out.2, by simp [rootsC], rfl⟩⟩
    case round =>
      clear S0
      obtain ⟨i, s, M, aM, cM, vo, vn, hi, rfl, rfl, HK⟩ := hrel
      by_cases hlt : i < rs.length
      · obtain ⟨b', o, rfl, hS, hc, r1, r2⟩ := HA.out i hlt
        have hB1 : Below w.heap.size w wr := B0.out.trans (HK.out.1.bel.mono (by omega))
        have e0 : wr.cell? ⟨b', o + i, none⟩ = some (.int .i64 rs[i]) := (hB1.cell (p := ⟨b', o + i, none⟩) hS).trans hc
        have iI : (i : Int) < (rs.length : Int) := by omega
        have hxr : InR rs[i] := ⟨r1, r2⟩
        have hmv := move_any T (w.heap.size + 2) w0 wr g x2 a0 c0 (.int .i64 hn) (.int .i64 bn) (.int .i64 next) hn b2 s vo vn 0 1 rs[i] HB.out (HT.out _ (List.getElem_mem hlt)) hxr HW0.out HK.out.2.1 (by rw [HTT.out.1]; exact HK.out.1)
        have hci := HK.out.2.1.mv (by rw [HTT.out.1]; exact RNG.out) HB.out (HT.out _ (List.getElem_mem hlt)) hxr
        have hrt := roots_take (W := W) (s := startC T) hlt
        rw [HK.out.2.2.2.1] at hrt
        dsimp only at hrt
        rw [HTT.out.1] at hmv hci
        obtain ⟨mv, hmve⟩ : ∃ mv, mv = mvF W s rs[i] := ⟨_, rfl⟩
        rw [← hmve] at hmv hci hrt
        have HCI : Hid (CI T 0 1 mv.1 ∧ InR mv.2) := hci
        have HRT : Hid (rootsC W (startC T) (rs.take (i + 1)) = (mv.1, M ++ [mv.2])) := hrt
        have HML : Hid (M.length = i ∧ i ≤ 1048576) := ⟨HK.out.2.2.2.2, by omega⟩
        generalize rs[i] = x at e0 hmv
        clear hc r1 r2 hxr hci hrt hmve hB1
        go_wp2_with fail
        refine hmv.mono ?_
        rintro e w1 ⟨rfl, vo1, vn1, hms, hlf⟩
        have hrm := HK.out.2.2.1.left LO.out.2 hlf
        have K1 : Hid (MS (w.heap.size + 2) w0 w1 g x2 (.slice a0 W.length c0) (.int .i64 hn) (.int .i64 bn) (.int .i64 next) hn b2 mv.1 vo1 vn1 ∧ RM w1 g (.slice aM M.length cM) vo1 vn1 M) := ⟨hms, hrm⟩
        have R1 : Hid ((w1.alloc (.cells #[.int .i64 mv.2] 3)).ownsRow (g + 1) 3 1 (.slice aM M.length cM) M.length (M.map (Value.int .i64))) := hrm.row.1.alloc _
        have NC : Hid (∀ j u, [Value.int .i64 mv.2][j]? = some u → (w1.alloc (.cells #[.int .i64 mv.2] 3)).cell? ((⟨w1.heap.size, 0, none⟩ : Addr).add j) = some u) := new_cell w1 3 (.int .i64 mv.2)
        have ZW : Hid (g < w1.heap.size) := hms.lt
        clear hmv hms hlf hrm HK
        obtain ⟨s1, y⟩ := mv
        dsimp only at HCI HRT K1 R1 NC ⊢
        go_wp2_with (at_builtin; refine wpList_append_own_at _ rfl (.tmp 44) (.tmp 51) 24 rfl (g + 1) 3 ti _ 1 8 Tryz.underlying24 TI.out.1 TI.out.2.1 TI.out.2.2.1 TI.out.2.2.2 rfl (by decide) (.slice aM M.length cM) M.length (M.map (Value.int .i64)) rfl R1.out ⟨w1.heap.size, 0, none⟩ 1 1 [.int .i64 y] rfl rfl NC.out (by simp; rfl) (by have := HML.out; unfold maxLen; omega) (by have := HML.out; omega) (by have := ZW.out; simp; omega) ?_; intro v3 w3 o3 g3 n3 a3
                     obtain ⟨a3', c3', rfl⟩ := own_form o3
                     have K3 : Hid (MS (w.heap.size + 2) w0 w3 g x2 (.slice a0 W.length c0) (.int .i64 hn) (.int .i64 bn) (.int .i64 next) hn b2 s1 vo1 vn1 ∧ RM w3 g (.slice a3' (M ++ [y]).length c3') vo1 vn1 (M ++ [y])) := by
                       have hz1 : (w1.alloc (.cells #[.int .i64 y] 3)).heap.size = w1.heap.size + 1 := by simp
                       refine ⟨K1.out.1.other (fun k hk => ⟨by have := (K1.out.2.row.lt k hk).1; omega, K1.out.2.ap k hk⟩) g3, ⟨irow_push o3 K1.out.2.row.2 HCI.out.2, fun k hk => ?_⟩⟩
                       rw [List.length_append, List.length_singleton] at hk
                       rcases a3 with e | e
                       · rw [e] at hk; exact K1.out.2.ap k hk
                       · rw [e] at hk
                         simp only [Option.some.injEq] at hk
                         exact ⟨fun e2 => by have := (K1.out.1.ro.lt k e2).2; omega, fun e2 => by have := (K1.out.1.rn.lt k e2).2; omega⟩
                     clear o3 g3 n3 a3)
        go_round
        case rel => exact ⟨i + 1, s1, M ++ [y], a3', c3', vo1, vn1, by omega, by go_num, by simp, ⟨K3.out.1, HCI.out.1, K3.out.2, HRT.out, by have := HML.out.1; simp; omega⟩⟩
        case measure => simp [intOf]; omega
      · obtain rfl : i = rs.length := by omega
        have HE0 : Hid (endC T rs = scanC W (W.length + 1) b2 s ∧ (rootsC T.1 (startC T) rs).2 = M) := HEN.out s M (by have := HK.out.2.2.2.1; rw [List.take_length] at this; exact this)
        have k6 : wr.cell? ⟨g, 6, none⟩ = some (.int .i64 b2) := blk_cellM (i := 6) HK.out.1.blk rfl
        have HK1 : Hid (MS (w.heap.size + 2) w0 wr g x2 (.slice a0 W.length c0) (.int .i64 hn) (.int .i64 bn) (.int .i64 next) hn b2 s vo vn ∧ CI T 0 1 s ∧ RM wr g (.slice aM M.length cM) vo vn M) := ⟨HK.out.1, HK.out.2.1, HK.out.2.2.1⟩
        clear HK
        go_wp2
        clear k6
        rename World => wo
        go_loopw [10] (fun v10 wr => ∃ (k p : Nat) (s : CS) (vo vn : Value), v10 = .int .i64 p ∧ Hid (MS (w.heap.size + 2) w0 wr g x2 (.slice a0 W.length c0) (.int .i64 hn) (.int .i64 bn) (.int .i64 next) hn b2 s vo vn ∧ CI T k 1 s ∧ RM wr g (.slice aM M.length cM) vo vn M ∧ k ≤ s.2.2.1.length ∧ p = posO W b2 s.2.2.1 k ∧ endC T rs = scanC W (W.length + 1 - k) p s)) (fun v10 _ => 6001 - (intOf v10).toNat)
        case atStart => exact ⟨0, b2, s, vo, vn, rfl, ⟨HK1.out.1, HK1.out.2.1, HK1.out.2.2, Nat.zero_le _, by rw [posO_zero], HE0.out.1⟩⟩
        case round =>
          clear HK1
          obtain ⟨k, p, s, vo, vn, rfl, HK⟩ := hrel
          have HP : Hid (∀ {k j s}, CI T k j s → s.2.1 = posO W b2 s.2.2.1 s.2.2.1.length) := fun h => by have := h.next; rw [HTT.out.1, HTT.out.2.2.2] at this; exact this
          have htop := HK.out.2.1.top HB.out
          have k7 : wr.cell? ⟨g, 7, none⟩ = some (.int .i64 s.2.1) := blk_cellM (i := 7) HK.out.1.blk rfl
          have k4 : wr.cell? ⟨g, 4, none⟩ = some (.slice (some ⟨x2, 0, none⟩) s.1.length s.1.length) := blk_cellM (i := 4) HK.out.1.blk rfl
          have htl : s.1.length = W.length := by have := HK.out.2.1.tlen; rw [HTT.out.1] at this; exact this
          rw [htl] at k4
          by_cases hlt : k < s.2.2.1.length
          · have hp1 := HK.out.2.1.pos_in HB.out hlt
            rw [HTT.out.1, HTT.out.2.2.2, ← HK.out.2.2.2.2.1] at hp1
            have hsz : 1 ≤ szP W s.2.2.1[k] := by unfold szP; omega
            obtain ⟨z, hz, hzm⟩ := place_in HB.out (HK.out.2.1.inv.sub _ (List.getElem_mem hlt))
            rw [HTT.out.1] at hzm
            have hraw : ∀ m, m < szP W s.2.2.1[k] → s.1.getD (p + m) 0 = W.getD (z + m) 0 := fun m hm => by
              have := HK.out.2.1.raw k hlt (Nat.le_refl _) m (by rw [HTT.out.1]; exact hm) (by omega)
              rw [HTT.out.1, HTT.out.2.2.2, ← HK.out.2.2.2.2.1, hz, Int.toNat_natCast] at this
              exact this
            have hzl : z < W.length := by omega
            have hpl : p < s.1.length := by rw [htl]; have := HTT.out.1; rw [this] at htop; omega
            obtain ⟨hd, hhd⟩ : ∃ y, y = W.getD z 0 := ⟨_, rfl⟩
            have hp0 : s.1[p] = hd := by have := hraw 0 (by omega); rw [Nat.add_zero, Nat.add_zero, getD_at hpl] at this; rw [this, hhd]
            have e0 : wr.cell? ⟨x2, p, none⟩ = some (.int .i64 hd) := by rw [← hp0]; exact blk_cellM HK.out.1.tw (by simp [hpl])
            have hdr : InR hd := by rw [hhd]; exact getD_mem_or RNG.out
            have hm := many_in hd
            obtain ⟨mn, hmn⟩ : ∃ t : Nat, (t : Int) = manyF hd := ⟨(manyF hd).toNat, by omega⟩
            have hszm : szP W s.2.2.1[k] = 1 + mn := by unfold szP; rw [hz, Int.toNat_natCast, ← hhd]; omega
            have OF : Hid (∀ W' : World, Calls Tryz.prog 34 #[.int .i64 hd] W' fun e w' => e = .returned (.tuple #[.bool (funF hd), .int .i64 (tagF hd), .int .i64 mn]) ∧ w' = W') := fun W' => by rw [hmn]; exact of_is hd W' hdr.1 hdr.2
            have hzmn : z + mn < W.length := by rw [← hhd] at hzm; omega
            have HTP : Hid (s.2.1 ≤ W.length ∧ s.2.1 ≤ 6000 ∧ p + 1 + mn ≤ s.2.1) := ⟨by rw [← HTT.out.1]; exact htop.1, htop.2, by rw [hszm] at hp1; omega⟩
            have HKT : Hid (∀ m, 1 ≤ m → m ≤ mn → thereB (plT T).1 (W.getD (z + m) 0) = true) := fun m h1 h2 => by
              have h3 := kids_there HB.out (HK.out.2.1.inv.sub _ (List.getElem_mem hlt)) (kidAt W z (m - 1)) (by
                rw [hz, Int.toNat_natCast, HTT.out.1]
                unfold kidsL
                refine List.mem_map.2 ⟨m - 1, List.mem_range.2 ?_, rfl⟩
                rw [← hhd]; omega)
              unfold kidAt at h3
              rw [show z + 1 + (m - 1) = z + m by omega] at h3
              exact h3
            have HSC : Hid (endC T rs = scanC W (W.length + 1 - (k + 1)) (p + 1 + mn) (scanK W p mn 1 s)) := by
              have h1 := HK.out.2.2.2.2.2
              have hkl := HK.out.2.1.lenO HB.out
              rw [HTT.out.1] at hkl
              rw [show W.length + 1 - k = (W.length + 1 - (k + 1)) + 1 by omega, scanC_more (by have := HTP.out; omega)] at h1
              rw [getD_at hpl, hp0, show (manyF hd).toNat = mn by omega] at h1
              exact h1
            have HPZ : Hid (s.2.2.1[k]? = some (z : Int) ∧ p = posO W b2 s.2.2.1 k) := ⟨by rw [List.getElem?_eq_getElem hlt, hz], HK.out.2.2.2.2.1⟩
            have pI : (p : Int) < (s.2.1 : Int) := by have := HTP.out; omega
            have pW : (p : Int) < (W.length : Int) := by have := HTP.out; omega
            have p6 : (p : Int) + 1 + (mn : Int) ≤ 6000 := by have := HTP.out; omega
            have HM63 : Hid (mn ≤ 63 ∧ szP W (z : Int) = 1 + mn) := ⟨by omega, by rw [← hz]; exact hszm⟩
            have HKK : Hid (MS (w.heap.size + 2) w0 wr g x2 (.slice a0 W.length c0) (.int .i64 hn) (.int .i64 bn) (.int .i64 next) hn b2 s vo vn ∧ CI T k 1 s ∧ RM wr g (.slice aM M.length cM) vo vn M) := ⟨HK.out.1, HK.out.2.1, HK.out.2.2.1⟩
            have HZ6 : Hid (z + mn < W.length) := hzmn
            clear hraw hp1 hsz hz hzm hzl hpl hhd hp0 hdr hm hmn hszm hzmn htop htl HK hlt
            go_wp2_with (go_at_call 34; refine (OF.out _).mono ?_; rintro e w' ⟨rfl, hx⟩; subst w')
            clear k7 k4 e0
            rename World => wp
            go_loopw [14] (fun v14 wr => ∃ (j : Nat) (s2 : CS) (vo vn : Value), 1 ≤ j ∧ j ≤ mn + 1 ∧ v14 = .int .i64 j ∧ Hid (MS (w.heap.size + 2) w0 wr g x2 (.slice a0 W.length c0) (.int .i64 hn) (.int .i64 bn) (.int .i64 next) hn b2 s2 vo vn ∧ CI T k j s2 ∧ RM wr g (.slice aM M.length cM) vo vn M ∧ s2.2.2.1[k]? = some (z : Int) ∧ p = posO W b2 s2.2.2.1 k ∧ scanK W p (mn + 1 - j) j s2 = scanK W p mn 1 s)) (fun v14 _ => mn + 2 - (intOf v14).toNat)
            case atStart => exact ⟨1, s, vo, vn, Nat.le_refl _, by omega, rfl, ⟨HKK.out.1, HKK.out.2.1, HKK.out.2.2, HPZ.out.1, HPZ.out.2, by rw [show mn + 1 - 1 = mn by omega]⟩⟩
            case round =>
              clear HKK
              obtain ⟨j, s2, vo, vn, hj1, hj2, rfl, HL⟩ := hrel
              have htl : s2.1.length = W.length := by have := HL.out.2.1.tlen; rw [HTT.out.1] at this; exact this
              have k4 : wr.cell? ⟨g, 4, none⟩ = some (.slice (some ⟨x2, 0, none⟩) W.length W.length) := by have := blk_cellM (i := 4) HL.out.1.blk rfl; rw [htl] at this; exact this
              by_cases hjm : j ≤ mn
              · have hk2 : k < s2.2.2.1.length := by
                  rcases Nat.lt_or_ge k s2.2.2.1.length with y | y
                  · exact y
                  · have := HL.out.2.2.2.1; rw [List.getElem?_eq_none y] at this; cases this
                have hkz : s2.2.2.1[k] = (z : Int) := by have := HL.out.2.2.2.1; rw [List.getElem?_eq_getElem hk2] at this; simpa using this
                have hpj : p + j < s2.1.length := by rw [htl]; have := HTP.out; omega
                have hx0 : s2.1.getD (p + j) 0 = W.getD (z + j) 0 := by
                  have := HL.out.2.1.raw k hk2 (Nat.le_refl _) j (by rw [HTT.out.1, hkz, HM63.out.2]; omega) (by omega)
                  rw [HTT.out.1, HTT.out.2.2.2, ← HL.out.2.2.2.2.1, hkz, Int.toNat_natCast] at this
                  exact this
                obtain ⟨x, hx⟩ : ∃ x, x = s2.1.getD (p + j) 0 := ⟨_, rfl⟩
                have e0 : wr.cell? ⟨x2, p + j, none⟩ = some (.int .i64 x) := by rw [hx, getD_at hpj]; exact blk_cellM HL.out.1.tw (by simp [hpj])
                have hxr : InR x := by rw [hx]; exact getD_mem_or HL.out.2.1.rng
                have hth : thereB (plT T).1 x = true := by rw [hx, hx0]; exact HKT.out j hj1 hjm
                have hmv := move_any T (w.heap.size + 2) w0 wr g x2 a0 c0 (.int .i64 hn) (.int .i64 bn) (.int .i64 next) hn b2 s2 vo vn k j x HB.out hth hxr HW0.out HL.out.2.1 (by rw [HTT.out.1]; exact HL.out.1)
                have hci := HL.out.2.1.mv (by rw [HTT.out.1]; exact RNG.out) HB.out hth hxr
                rw [HTT.out.1] at hmv hci
                obtain ⟨X, hX⟩ := mv_pre W s2 x
                obtain ⟨mv, hmve⟩ : ∃ mv, mv = mvF W s2 x := ⟨_, rfl⟩
                have hsk := HL.out.2.2.2.2.2
                rw [show mn + 1 - j = (mn + 1 - (j + 1)) + 1 by omega, scanK, ← hx, ← hmve] at hsk
                rw [← hmve] at hmv hci hX
                have hk3 : k < mv.1.2.2.1.length := by rw [hX, List.length_append]; omega
                have hpz : mv.1.2.2.1[k]? = some (z : Int) := by rw [hX, List.getElem?_append_left hk2]; exact HL.out.2.2.2.1
                have hkz3 : mv.1.2.2.1[k] = (z : Int) := by rw [List.getElem?_eq_getElem hk3] at hpz; simpa using hpz
                have hpp : p = posO W b2 mv.1.2.2.1 k := by rw [hX, posO_append (by omega)]; exact HL.out.2.2.2.2.1
                have hcs := hci.1.set HB.out hk3 hj1 (by rw [HTT.out.1, hkz3, HM63.out.2]; omega) hci.2
                rw [HTT.out.1, HTT.out.2.2.2, ← hpp] at hcs
                have HC : Hid (CI T k (j + 1) (mv.1.1.set (p + j) mv.2, mv.1.2) ∧ mv.1.2.2.1[k]? = some (z : Int) ∧ p = posO W b2 mv.1.2.2.1 k ∧ scanK W p (mn + 1 - (j + 1)) (j + 1) (mv.1.1.set (p + j) mv.2, mv.1.2) = scanK W p mn 1 s ∧ mv.1.1.length = W.length) := ⟨hcs, hpz, hpp, hsk, by have := hci.1.tlen; rw [HTT.out.1] at this; exact this⟩
                have RL : Hid (RM wr g (.slice aM M.length cM) vo vn M) := HL.out.2.2.1
                have jI : (p : Int) + (j : Int) < (W.length : Int) := by have := HTP.out; omega
                clear hcs hpz hpp hsk hci hX hk3 hkz3 hk2 hkz hx0 hx hxr hth hmve HL htl hpj
                go_wp2_with fail
                refine hmv.mono ?_
                rintro e w3 ⟨rfl, vo3, vn3, hms, hlf⟩
                have hrm := RL.out.left LO.out.2 hlf
                have hpj3 : p + j < mv.1.1.length := by rw [HC.out.2.2.2.2]; omega
                have f4 : w3.cell? ⟨g, 4, none⟩ = some (.slice (some ⟨x2, 0, none⟩) W.length W.length) := by have := blk_cellM (i := 4) hms.blk rfl; rw [HC.out.2.2.2.2] at this; exact this
                have f5 : w3.cell? ⟨x2, p + j, none⟩ = some (.int .i64 (mv.1.1[p + j])) := blk_cellM hms.tw (by simp [hpj3])
                have f6 : w3.frozen? ⟨x2, p + j, none⟩ = false := blk_freeM hms.tw
                have hwd := hms.word (p + j) mv.2
                have K3 : Hid (MS (w.heap.size + 2) w0 (w3.setCell ⟨x2, p + j, none⟩ (.int .i64 mv.2)) g x2 (.slice a0 W.length c0) (.int .i64 hn) (.int .i64 bn) (.int .i64 next) hn b2 (mv.1.1.set (p + j) mv.2, mv.1.2) vo3 vn3 ∧ RM (w3.setCell ⟨x2, p + j, none⟩ (.int .i64 mv.2)) g (.slice aM M.length cM) vo3 vn3 M) := ⟨hwd.1, hrm.left LO.out.2 hwd.2⟩
                generalize mv.1.1[p + j] = y5 at f5
                clear hmv hms hlf hrm hwd hpj3 k4 e0
                go_wp2
                go_round
                case rel => exact ⟨j + 1, _, vo3, vn3, by omega, by omega, by go_num, ⟨K3.out.1, HC.out.1, K3.out.2, HC.out.2.1, HC.out.2.2.1, HC.out.2.2.2.1⟩⟩
                case measure => simp [intOf]; omega
              · obtain rfl : j = mn + 1 := by omega
                have hk2 : k < s2.2.2.1.length := by
                  rcases Nat.lt_or_ge k s2.2.2.1.length with y | y
                  · exact y
                  · have := HL.out.2.2.2.1; rw [List.getElem?_eq_none y] at this; cases this
                have hkz : s2.2.2.1[k] = (z : Int) := by have := HL.out.2.2.2.1; rw [List.getElem?_eq_getElem hk2] at this; simpa using this
                have hsk := HL.out.2.2.2.2.2
                rw [show mn + 1 - (mn + 1) = 0 by omega, scanK] at hsk
                have HF : Hid (k + 1 ≤ s2.2.2.1.length ∧ p + 1 + mn = posO W b2 s2.2.2.1 (k + 1) ∧ endC T rs = scanC W (W.length + 1 - (k + 1)) (p + 1 + mn) s2) := ⟨hk2, by rw [posO_succ hk2, ← HL.out.2.2.2.2.1, hkz, HM63.out.2]; omega, by rw [hsk]; exact HSC.out⟩
                clear hk2 hkz hsk k4 htl
                go_wp2
                go_round
                case rel => exact ⟨k + 1, p + 1 + mn, s2, vo, vn, by go_num, ⟨HL.out.1, HL.out.2.1.done, HL.out.2.2.1, HF.out.1, HF.out.2.1, HF.out.2.2⟩⟩
                case measure => have := HTP.out; simp [intOf]; omega
          · have hke : k = s.2.2.1.length := by have := HK.out.2.2.2.1; omega
            have hpe : p = s.2.1 := by rw [HP.out HK.out.2.1, HK.out.2.2.2.2.1, hke]
            have HEE : Hid (endC T rs = s) := by show _ = _; rw [HK.out.2.2.2.2.2, scanC_end (by omega)]
            have k5 : wr.cell? ⟨g, 5, none⟩ = some (.int .i64 hn) := blk_cellM (i := 5) HK.out.1.blk rfl
            have k6 : wr.cell? ⟨g, 6, none⟩ = some (.int .i64 b2) := blk_cellM (i := 6) HK.out.1.blk rfl
            have hRb : wr.heap[w.heap.size + 1]? = some (.cells #[.slice none 0 0, .int .i64 0, .int .i64 0, .int .i64 0] 26) := (HK.out.1.bel.block _ (by omega)).trans X0.out.2
            have r0 : wr.cell? ⟨w.heap.size + 1, 0, none⟩ = some (.slice none 0 0) := blk_cellM (i := 0) hRb rfl
            have r1 : wr.cell? ⟨w.heap.size + 1, 1, none⟩ = some (.int .i64 0) := blk_cellM (i := 1) hRb rfl
            have r2 : wr.cell? ⟨w.heap.size + 1, 2, none⟩ = some (.int .i64 0) := blk_cellM (i := 2) hRb rfl
            have r3 : wr.cell? ⟨w.heap.size + 1, 3, none⟩ = some (.int .i64 0) := blk_cellM (i := 3) hRb rfl
            have rf : ∀ jj, wr.frozen? ⟨w.heap.size + 1, jj, none⟩ = false := fun jj => blk_freeM hRb
            have pI : (p : Int) = (s.2.1 : Int) := by omega
            have HPE : Hid (p = s.2.1 ∧ s.1.length = W.length) := ⟨hpe, by assumption⟩
            clear hke hpe hRb htop hlt
            go_wp2
            have oth : ∀ k, k ≠ w.heap.size + 1 → ((((wr.setCell ⟨w.heap.size + 1, 0, none⟩ (.slice (some ⟨x2, 0, none⟩) W.length W.length)).setCell ⟨w.heap.size + 1, 1, none⟩ (.int .i64 hn)).setCell ⟨w.heap.size + 1, 2, none⟩ (.int .i64 b2)).setCell ⟨w.heap.size + 1, 3, none⟩ (.int .i64 s.2.1)).heap[k]? = wr.heap[k]? := fun k hk => by
              rw [Below.heap_setCell _ _ _ _ (by exact hk), Below.heap_setCell _ _ _ _ (by exact hk), Below.heap_setCell _ _ _ _ (by exact hk), Below.heap_setCell _ _ _ _ (by exact hk)]
            have hRb : wr.heap[w.heap.size + 1]? = some (.cells #[.slice none 0 0, .int .i64 0, .int .i64 0, .int .i64 0] 26) := (HK.out.1.bel.block _ (by omega)).trans X0.out.2
            have hRn : ((((wr.setCell ⟨w.heap.size + 1, 0, none⟩ (.slice (some ⟨x2, 0, none⟩) W.length W.length)).setCell ⟨w.heap.size + 1, 1, none⟩ (.int .i64 hn)).setCell ⟨w.heap.size + 1, 2, none⟩ (.int .i64 b2)).setCell ⟨w.heap.size + 1, 3, none⟩ (.int .i64 s.2.1)).heap[w.heap.size + 1]? = some (.cells #[.slice (some ⟨x2, 0, none⟩) W.length W.length, .int .i64 hn, .int .i64 b2, .int .i64 s.2.1] 26) := by
              simp [World.setCell, Array.getElem?_modify, hRb]
            have n0 : ((((wr.setCell ⟨w.heap.size + 1, 0, none⟩ (.slice (some ⟨x2, 0, none⟩) W.length W.length)).setCell ⟨w.heap.size + 1, 1, none⟩ (.int .i64 hn)).setCell ⟨w.heap.size + 1, 2, none⟩ (.int .i64 b2)).setCell ⟨w.heap.size + 1, 3, none⟩ (.int .i64 s.2.1)).cell? ⟨w.heap.size + 1, 0, none⟩ = some (.slice (some ⟨x2, 0, none⟩) W.length W.length) := blk_cellM (i := 0) hRn rfl
            have n1 : ((((wr.setCell ⟨w.heap.size + 1, 0, none⟩ (.slice (some ⟨x2, 0, none⟩) W.length W.length)).setCell ⟨w.heap.size + 1, 1, none⟩ (.int .i64 hn)).setCell ⟨w.heap.size + 1, 2, none⟩ (.int .i64 b2)).setCell ⟨w.heap.size + 1, 3, none⟩ (.int .i64 s.2.1)).cell? ⟨w.heap.size + 1, 1, none⟩ = some (.int .i64 hn) := blk_cellM (i := 1) hRn rfl
            have n2 : ((((wr.setCell ⟨w.heap.size + 1, 0, none⟩ (.slice (some ⟨x2, 0, none⟩) W.length W.length)).setCell ⟨w.heap.size + 1, 1, none⟩ (.int .i64 hn)).setCell ⟨w.heap.size + 1, 2, none⟩ (.int .i64 b2)).setCell ⟨w.heap.size + 1, 3, none⟩ (.int .i64 s.2.1)).cell? ⟨w.heap.size + 1, 2, none⟩ = some (.int .i64 b2) := blk_cellM (i := 2) hRn rfl
            have n3 : ((((wr.setCell ⟨w.heap.size + 1, 0, none⟩ (.slice (some ⟨x2, 0, none⟩) W.length W.length)).setCell ⟨w.heap.size + 1, 1, none⟩ (.int .i64 hn)).setCell ⟨w.heap.size + 1, 2, none⟩ (.int .i64 b2)).setCell ⟨w.heap.size + 1, 3, none⟩ (.int .i64 s.2.1)).cell? ⟨w.heap.size + 1, 3, none⟩ = some (.int .i64 s.2.1) := blk_cellM (i := 3) hRn rfl
            have hBW : Below w.heap.size w ((((wr.setCell ⟨w.heap.size + 1, 0, none⟩ (.slice (some ⟨x2, 0, none⟩) W.length W.length)).setCell ⟨w.heap.size + 1, 1, none⟩ (.int .i64 hn)).setCell ⟨w.heap.size + 1, 2, none⟩ (.int .i64 b2)).setCell ⟨w.heap.size + 1, 3, none⟩ (.int .i64 s.2.1)) := ((((B0.out.trans (HK.out.1.bel.mono (by omega))).setCell (by show w.heap.size ≤ w.heap.size + 1; omega) _).setCell (by show w.heap.size ≤ w.heap.size + 1; omega) _).setCell (by show w.heap.size ≤ w.heap.size + 1; omega) _).setCell (by show w.heap.size ≤ w.heap.size + 1; omega) _
            generalize ((((wr.setCell ⟨w.heap.size + 1, 0, none⟩ (.slice (some ⟨x2, 0, none⟩) W.length W.length)).setCell ⟨w.heap.size + 1, 1, none⟩ (.int .i64 hn)).setCell ⟨w.heap.size + 1, 2, none⟩ (.int .i64 b2)).setCell ⟨w.heap.size + 1, 3, none⟩ (.int .i64 s.2.1)) = wE at oth hRn n0 n1 n2 n3 hBW ⊢
            refine bodyPost_ret (v := .tuple #[.agg #[.slice (some ⟨x2, 0, none⟩) W.length W.length, .int .i64 hn, .int .i64 b2, .int .i64 s.2.1], .slice aM M.length cM]) (by simp [results, Tryz.f28, go_sem, n0, n1, n2, n3]) rfl ?_
            have hlo := LO.out
            have hlen := HPE.out.2
            refine ⟨⟨x2, .slice aM M.length cM, ?_, ?_, ?_, ?_, by rw [HEE.out]; exact (HK.out.2.1.top HB.out).2⟩, hBW⟩
            · rw [HEE.out, hlen, HTT.out.2.1, HTT.out.2.2.1, ← HB2.out.1]
            · rw [HEE.out]
              refine ⟨⟨by simp, Or.inr ⟨x2, s.1.length, (s.1.map (Value.int .i64)).toArray, rfl, by omega, (oth x2 (by omega)).trans HK.out.1.tw, Nat.le_refl _, by unfold maxLen; have := HWL.out.2; omega, by simp, by simp only [Nat.mul_one]; exact List.take_of_length_le (by simp)⟩⟩, HK.out.2.1.rng⟩
            · rw [HE0.out.2]
              refine irow_base0 (irow_sameM HK.out.2.2.1.row fun k hk => oth k ?_) (by omega)
              have := (HK.out.2.2.1.row.lt k hk).1; omega
            · intro e
              have := (HK.out.2.2.1.row.lt _ e).1; omega
  · clear hmk y0 y1
    generalize hwA : World.drew _ = wA
    have F : Hid (Below w0.heap.size w0 wA ∧ wA.heap.size = w.heap.size + 4 ∧ wA.heap[w.heap.size + 1 + 1 + 1]? = some (.cells (Array.replicate (2 * hn) (Value.int .i64 0)) 3) ∧ wA.heap[w.heap.size + 1 + 1]? = some (.cells #[.slice (some ⟨w.heap.size + 1 + 1 + 1, 0, none⟩) (2 * hn) (2 * hn), .int .i64 hn, .int .i64 ((hn : Int) - bn), .int .i64 ((hn : Int) - bn)] 26)) := by
      rw [← hwA, ← HW00.out]
      refine ⟨?_, ?_, ?_, ?_⟩
      · exact (((Below.refl _ w0).alloc (Nat.le_refl _) _).alloc (by simp) _).drew
      · show (World.alloc _ _).heap.size = _; rw [World.size_alloc, World.size_alloc, Z0.out]
      · show (World.alloc _ _).heap[w.heap.size + 1 + 1 + 1]? = _
        have := alloc_top (w0.alloc (.cells #[.slice (some ⟨w.heap.size + 1 + 1 + 1, 0, none⟩) (2 * hn) (2 * hn), .int .i64 hn, .int .i64 ((hn : Int) - bn), .int .i64 ((hn : Int) - bn)] 26)) (.cells (Array.replicate (2 * hn) (Value.int .i64 0)) 3)
        rw [World.size_alloc, Z0.out] at this
        exact this
      · show (World.alloc _ _).heap[w.heap.size + 1 + 1]? = _
        rw [Below.heap_alloc _ _ _ (by rw [World.size_alloc, Z0.out]; omega)]
        have := alloc_top w0 (.cells #[.slice (some ⟨w.heap.size + 1 + 1 + 1, 0, none⟩) (2 * hn) (2 * hn), .int .i64 hn, .int .i64 ((hn : Int) - bn), .int .i64 ((hn : Int) - bn)] 26)
        rw [Z0.out] at this
        exact this
    clear hwA
    obtain ⟨x3, hx3⟩ : ∃ x, x = w.heap.size + 1 + 1 + 1 := ⟨_, rfl⟩
    rw [← hx3] at F ⊢
    obtain ⟨x2, hx2⟩ : ∃ x, x = w.heap.size + 1 + 1 := ⟨_, rfl⟩
    rw [← hx2] at F ⊢
    have ORD : Hid (x2 = w.heap.size + 2 ∧ x3 = w.heap.size + 3) := ⟨by omega, by omega⟩
    clear hx2 hx3
    have a0c : wA.cell? ⟨w.heap.size, 0, none⟩ = some (.slice a0 W.length c0) := blk_cellM (i := 0) ((F.out.1.block _ (by have := Z0.out; omega)).trans X0.out.1) rfl
    have a1c : wA.cell? ⟨w.heap.size, 1, none⟩ = some (.int .i64 hn) := blk_cellM (i := 1) ((F.out.1.block _ (by have := Z0.out; omega)).trans X0.out.1) rfl
    have a2c : wA.cell? ⟨w.heap.size, 2, none⟩ = some (.int .i64 bn) := blk_cellM (i := 2) ((F.out.1.block _ (by have := Z0.out; omega)).trans X0.out.1) rfl
    have a3c : wA.cell? ⟨w.heap.size, 3, none⟩ = some (.int .i64 next) := blk_cellM (i := 3) ((F.out.1.block _ (by have := Z0.out; omega)).trans X0.out.1) rfl
    have t0c : wA.cell? ⟨x2, 0, none⟩ = some (.slice (some ⟨x3, 0, none⟩) (2 * hn) (2 * hn)) := blk_cellM (i := 0) F.out.2.2.2 rfl
    have t1c : wA.cell? ⟨x2, 1, none⟩ = some (.int .i64 hn) := blk_cellM (i := 1) F.out.2.2.2 rfl
    have t2c : wA.cell? ⟨x2, 2, none⟩ = some (.int .i64 ((hn : Int) - bn)) := blk_cellM (i := 2) F.out.2.2.2 rfl
    have t3c : wA.cell? ⟨x2, 3, none⟩ = some (.int .i64 ((hn : Int) - bn)) := blk_cellM (i := 3) F.out.2.2.2 rfl
    have S0 : Hid (MS (w.heap.size + 2) w0 ((wA.alloc (.cells #[.slice a0 W.length c0, .int .i64 hn, .int .i64 bn, .int .i64 next, .slice (some ⟨x3, 0, none⟩) (2 * hn) (2 * hn), .int .i64 hn, .int .i64 ((hn : Int) - bn), .int .i64 ((hn : Int) - bn), .slice none 0 0, .slice none 0 0] 96)).alloc (.cells #[] 3)) wA.heap.size x3 (.slice a0 W.length c0) (.int .i64 hn) (.int .i64 bn) (.int .i64 next) hn b2 (startC T) (.slice none 0 0) (.slice none 0 0) ∧ RM ((wA.alloc (.cells #[.slice a0 W.length c0, .int .i64 hn, .int .i64 bn, .int .i64 next, .slice (some ⟨x3, 0, none⟩) (2 * hn) (2 * hn), .int .i64 hn, .int .i64 ((hn : Int) - bn), .int .i64 ((hn : Int) - bn), .slice none 0 0, .slice none 0 0] 96)).alloc (.cells #[] 3)) wA.heap.size (.slice (some ⟨wA.heap.size + 1, 0, none⟩) 0 0) (.slice none 0 0) (.slice none 0 0) []) := by
      rw [HST.out]
      have hs := F.out.2.1
      have ho := ORD.out
      refine ⟨⟨?_, by omega, ?_, ?_, IRow.nil _ _, IRow.nil _ _, fun k hk => by cases hk⟩, ⟨?_, fun k hk => ⟨(fun e => by cases e), (fun e => by cases e)⟩⟩⟩
      · have := F.out.1
        rw [Z0.out] at this
        exact (this.alloc (by omega) _).alloc (by simp; omega) _
      · rw [Below.heap_alloc _ _ _ (by simp), alloc_top]
        simp [HB2.out.1]
      · rw [Below.heap_alloc _ _ _ (by simp; omega), Below.heap_alloc _ _ _ (by omega), zeros_is]
        exact F.out.2.2.1
      · have := irow_lit0 (wA.alloc (.cells #[.slice a0 W.length c0, .int .i64 hn, .int .i64 bn, .int .i64 next, .slice (some ⟨x3, 0, none⟩) (2 * hn) (2 * hn), .int .i64 hn, .int .i64 ((hn : Int) - bn), .int .i64 ((hn : Int) - bn), .slice none 0 0, .slice none 0 0] 96)) (base := wA.heap.size + 1) (by simp)
        rwa [World.size_alloc] at this
    have LO : Hid (w.heap.size + 2 ≤ x3 ∧ x3 < wA.heap.size) := ⟨by have := ORD.out; omega, by have := ORD.out; have := F.out.2.1; omega⟩
    obtain ⟨g, hg⟩ : ∃ g, g = wA.heap.size := ⟨_, rfl⟩
    rw [← hg] at S0 LO
    go_wp2
    clear a0c a1c a2c a3c t0c t1c t2c t3c
    rw [← hg]
    clear hg
    go_loopw [8, 9] (fun v8 v9 wr => ∃ (i : Nat) (s : CS) (M : List Int) (aM : Option Addr) (cM : Nat) (vo vn : Value), i ≤ rs.length ∧ v9 = .int .i64 i ∧ v8 = .slice aM M.length cM ∧ Hid (MS (w.heap.size + 2) w0 wr g x3 (.slice a0 W.length c0) (.int .i64 hn) (.int .i64 bn) (.int .i64 next) hn b2 s vo vn ∧ CI T 0 1 s ∧ RM wr g (.slice aM M.length cM) vo vn M ∧ rootsC W (startC T) (rs.take i) = (s, M) ∧ M.length = i)) (fun _ v9 _ => rs.length - (intOf v9).toNat)
    case atStart => exact ⟨0, startC T, [], _, _, _, _, Nat.zero_le _, rfl, rfl, ⟨S0.out.1, CI.start, S0.out.2, by simp [rootsC], rfl⟩⟩
    case round =>
      clear S0
      obtain ⟨i, s, M, aM, cM, vo, vn, hi, rfl, rfl, HK⟩ := hrel
      by_cases hlt : i < rs.length
      · obtain ⟨b', o, rfl, hS, hc, r1, r2⟩ := HA.out i hlt
        have hB1 : Below w.heap.size w wr := B0.out.trans (HK.out.1.bel.mono (by omega))
        have e0 : wr.cell? ⟨b', o + i, none⟩ = some (.int .i64 rs[i]) := (hB1.cell (p := ⟨b', o + i, none⟩) hS).trans hc
        have iI : (i : Int) < (rs.length : Int) := by omega
        have hxr : InR rs[i] := ⟨r1, r2⟩
        have hmv := move_any T (w.heap.size + 2) w0 wr g x3 a0 c0 (.int .i64 hn) (.int .i64 bn) (.int .i64 next) hn b2 s vo vn 0 1 rs[i] HB.out (HT.out _ (List.getElem_mem hlt)) hxr HW0.out HK.out.2.1 (by rw [HTT.out.1]; exact HK.out.1)
        have hci := HK.out.2.1.mv (by rw [HTT.out.1]; exact RNG.out) HB.out (HT.out _ (List.getElem_mem hlt)) hxr
        have hrt := roots_take (W := W) (s := startC T) hlt
        rw [HK.out.2.2.2.1] at hrt
        dsimp only at hrt
        rw [HTT.out.1] at hmv hci
        obtain ⟨mv, hmve⟩ : ∃ mv, mv = mvF W s rs[i] := ⟨_, rfl⟩
        rw [← hmve] at hmv hci hrt
        have HCI : Hid (CI T 0 1 mv.1 ∧ InR mv.2) := hci
        have HRT : Hid (rootsC W (startC T) (rs.take (i + 1)) = (mv.1, M ++ [mv.2])) := hrt
        have HML : Hid (M.length = i ∧ i ≤ 1048576) := ⟨HK.out.2.2.2.2, by omega⟩
        generalize rs[i] = x at e0 hmv
        clear hc r1 r2 hxr hci hrt hmve hB1
        go_wp2_with fail
        refine hmv.mono ?_
        rintro e w1 ⟨rfl, vo1, vn1, hms, hlf⟩
        have hrm := HK.out.2.2.1.left LO.out.2 hlf
        have K1 : Hid (MS (w.heap.size + 2) w0 w1 g x3 (.slice a0 W.length c0) (.int .i64 hn) (.int .i64 bn) (.int .i64 next) hn b2 mv.1 vo1 vn1 ∧ RM w1 g (.slice aM M.length cM) vo1 vn1 M) := ⟨hms, hrm⟩
        have R1 : Hid ((w1.alloc (.cells #[.int .i64 mv.2] 3)).ownsRow (g + 1) 3 1 (.slice aM M.length cM) M.length (M.map (Value.int .i64))) := hrm.row.1.alloc _
        have NC : Hid (∀ j u, [Value.int .i64 mv.2][j]? = some u → (w1.alloc (.cells #[.int .i64 mv.2] 3)).cell? ((⟨w1.heap.size, 0, none⟩ : Addr).add j) = some u) := new_cell w1 3 (.int .i64 mv.2)
        have ZW : Hid (g < w1.heap.size) := hms.lt
        clear hmv hms hlf hrm HK
        obtain ⟨s1, y⟩ := mv
        dsimp only at HCI HRT K1 R1 NC ⊢
        go_wp2_with (at_builtin; refine wpList_append_own_at _ rfl (.tmp 44) (.tmp 51) 24 rfl (g + 1) 3 ti _ 1 8 Tryz.underlying24 TI.out.1 TI.out.2.1 TI.out.2.2.1 TI.out.2.2.2 rfl (by decide) (.slice aM M.length cM) M.length (M.map (Value.int .i64)) rfl R1.out ⟨w1.heap.size, 0, none⟩ 1 1 [.int .i64 y] rfl rfl NC.out (by simp; rfl) (by have := HML.out; unfold maxLen; omega) (by have := HML.out; omega) (by have := ZW.out; simp; omega) ?_; intro v3 w3 o3 g3 n3 a3
                     obtain ⟨a3', c3', rfl⟩ := own_form o3
                     have K3 : Hid (MS (w.heap.size + 2) w0 w3 g x3 (.slice a0 W.length c0) (.int .i64 hn) (.int .i64 bn) (.int .i64 next) hn b2 s1 vo1 vn1 ∧ RM w3 g (.slice a3' (M ++ [y]).length c3') vo1 vn1 (M ++ [y])) := by
                       have hz1 : (w1.alloc (.cells #[.int .i64 y] 3)).heap.size = w1.heap.size + 1 := by simp
                       refine ⟨K1.out.1.other (fun k hk => ⟨by have := (K1.out.2.row.lt k hk).1; omega, K1.out.2.ap k hk⟩) g3, ⟨irow_push o3 K1.out.2.row.2 HCI.out.2, fun k hk => ?_⟩⟩
                       rw [List.length_append, List.length_singleton] at hk
                       rcases a3 with e | e
                       · rw [e] at hk; exact K1.out.2.ap k hk
                       · rw [e] at hk
                         simp only [Option.some.injEq] at hk
                         exact ⟨fun e2 => by have := (K1.out.1.ro.lt k e2).2; omega, fun e2 => by have := (K1.out.1.rn.lt k e2).2; omega⟩
                     clear o3 g3 n3 a3)
        go_round
        case rel => exact ⟨i + 1, s1, M ++ [y], a3', c3', vo1, vn1, by omega, by go_num, by simp, ⟨K3.out.1, HCI.out.1, K3.out.2, HRT.out, by have := HML.out.1; simp; omega⟩⟩
        case measure => simp [intOf]; omega
      · obtain rfl : i = rs.length := by omega
        have HE0 : Hid (endC T rs = scanC W (W.length + 1) b2 s ∧ (rootsC T.1 (startC T) rs).2 = M) := HEN.out s M (by have := HK.out.2.2.2.1; rw [List.take_length] at this; exact this)
        have k6 : wr.cell? ⟨g, 6, none⟩ = some (.int .i64 b2) := blk_cellM (i := 6) HK.out.1.blk rfl
        have HK1 : Hid (MS (w.heap.size + 2) w0 wr g x3 (.slice a0 W.length c0) (.int .i64 hn) (.int .i64 bn) (.int .i64 next) hn b2 s vo vn ∧ CI T 0 1 s ∧ RM wr g (.slice aM M.length cM) vo vn M) := ⟨HK.out.1, HK.out.2.1, HK.out.2.2.1⟩
        clear HK
        go_wp2
        clear k6
        rename World => wo
        go_loopw [10] (fun v10 wr => ∃ (k p : Nat) (s : CS) (vo vn : Value), v10 = .int .i64 p ∧ Hid (MS (w.heap.size + 2) w0 wr g x3 (.slice a0 W.length c0) (.int .i64 hn) (.int .i64 bn) (.int .i64 next) hn b2 s vo vn ∧ CI T k 1 s ∧ RM wr g (.slice aM M.length cM) vo vn M ∧ k ≤ s.2.2.1.length ∧ p = posO W b2 s.2.2.1 k ∧ endC T rs = scanC W (W.length + 1 - k) p s)) (fun v10 _ => 6001 - (intOf v10).toNat)
        case atStart => exact ⟨0, b2, s, vo, vn, rfl, ⟨HK1.out.1, HK1.out.2.1, HK1.out.2.2, Nat.zero_le _, by rw [posO_zero], HE0.out.1⟩⟩
        case round =>
          clear HK1
          obtain ⟨k, p, s, vo, vn, rfl, HK⟩ := hrel
          have HP : Hid (∀ {k j s}, CI T k j s → s.2.1 = posO W b2 s.2.2.1 s.2.2.1.length) := fun h => by have := h.next; rw [HTT.out.1, HTT.out.2.2.2] at this; exact this
          have htop := HK.out.2.1.top HB.out
          have k7 : wr.cell? ⟨g, 7, none⟩ = some (.int .i64 s.2.1) := blk_cellM (i := 7) HK.out.1.blk rfl
          have k4 : wr.cell? ⟨g, 4, none⟩ = some (.slice (some ⟨x3, 0, none⟩) s.1.length s.1.length) := blk_cellM (i := 4) HK.out.1.blk rfl
          have htl : s.1.length = W.length := by have := HK.out.2.1.tlen; rw [HTT.out.1] at this; exact this
          rw [htl] at k4
          by_cases hlt : k < s.2.2.1.length
          · have hp1 := HK.out.2.1.pos_in HB.out hlt
            rw [HTT.out.1, HTT.out.2.2.2, ← HK.out.2.2.2.2.1] at hp1
            have hsz : 1 ≤ szP W s.2.2.1[k] := by unfold szP; omega
            obtain ⟨z, hz, hzm⟩ := place_in HB.out (HK.out.2.1.inv.sub _ (List.getElem_mem hlt))
            rw [HTT.out.1] at hzm
            have hraw : ∀ m, m < szP W s.2.2.1[k] → s.1.getD (p + m) 0 = W.getD (z + m) 0 := fun m hm => by
              have := HK.out.2.1.raw k hlt (Nat.le_refl _) m (by rw [HTT.out.1]; exact hm) (by omega)
              rw [HTT.out.1, HTT.out.2.2.2, ← HK.out.2.2.2.2.1, hz, Int.toNat_natCast] at this
              exact this
            have hzl : z < W.length := by omega
            have hpl : p < s.1.length := by rw [htl]; have := HTT.out.1; rw [this] at htop; omega
            obtain ⟨hd, hhd⟩ : ∃ y, y = W.getD z 0 := ⟨_, rfl⟩
            have hp0 : s.1[p] = hd := by have := hraw 0 (by omega); rw [Nat.add_zero, Nat.add_zero, getD_at hpl] at this; rw [this, hhd]
            have e0 : wr.cell? ⟨x3, p, none⟩ = some (.int .i64 hd) := by rw [← hp0]; exact blk_cellM HK.out.1.tw (by simp [hpl])
            have hdr : InR hd := by rw [hhd]; exact getD_mem_or RNG.out
            have hm := many_in hd
            obtain ⟨mn, hmn⟩ : ∃ t : Nat, (t : Int) = manyF hd := ⟨(manyF hd).toNat, by omega⟩
            have hszm : szP W s.2.2.1[k] = 1 + mn := by unfold szP; rw [hz, Int.toNat_natCast, ← hhd]; omega
            have OF : Hid (∀ W' : World, Calls Tryz.prog 34 #[.int .i64 hd] W' fun e w' => e = .returned (.tuple #[.bool (funF hd), .int .i64 (tagF hd), .int .i64 mn]) ∧ w' = W') := fun W' => by rw [hmn]; exact of_is hd W' hdr.1 hdr.2
            have hzmn : z + mn < W.length := by rw [← hhd] at hzm; omega
            have HTP : Hid (s.2.1 ≤ W.length ∧ s.2.1 ≤ 6000 ∧ p + 1 + mn ≤ s.2.1) := ⟨by rw [← HTT.out.1]; exact htop.1, htop.2, by rw [hszm] at hp1; omega⟩
            have HKT : Hid (∀ m, 1 ≤ m → m ≤ mn → thereB (plT T).1 (W.getD (z + m) 0) = true) := fun m h1 h2 => by
              have h3 := kids_there HB.out (HK.out.2.1.inv.sub _ (List.getElem_mem hlt)) (kidAt W z (m - 1)) (by
                rw [hz, Int.toNat_natCast, HTT.out.1]
                unfold kidsL
                refine List.mem_map.2 ⟨m - 1, List.mem_range.2 ?_, rfl⟩
                rw [← hhd]; omega)
              unfold kidAt at h3
              rw [show z + 1 + (m - 1) = z + m by omega] at h3
              exact h3
            have HSC : Hid (endC T rs = scanC W (W.length + 1 - (k + 1)) (p + 1 + mn) (scanK W p mn 1 s)) := by
              have h1 := HK.out.2.2.2.2.2
              have hkl := HK.out.2.1.lenO HB.out
              rw [HTT.out.1] at hkl
              rw [show W.length + 1 - k = (W.length + 1 - (k + 1)) + 1 by omega, scanC_more (by have := HTP.out; omega)] at h1
              rw [getD_at hpl, hp0, show (manyF hd).toNat = mn by omega] at h1
              exact h1
            have HPZ : Hid (s.2.2.1[k]? = some (z : Int) ∧ p = posO W b2 s.2.2.1 k) := ⟨by rw [List.getElem?_eq_getElem hlt, hz], HK.out.2.2.2.2.1⟩
            have pI : (p : Int) < (s.2.1 : Int) := by have := HTP.out; omega
            have pW : (p : Int) < (W.length : Int) := by have := HTP.out; omega
            have p6 : (p : Int) + 1 + (mn : Int) ≤ 6000 := by have := HTP.out; omega
            have HM63 : Hid (mn ≤ 63 ∧ szP W (z : Int) = 1 + mn) := ⟨by omega, by rw [← hz]; exact hszm⟩
            have HKK : Hid (MS (w.heap.size + 2) w0 wr g x3 (.slice a0 W.length c0) (.int .i64 hn) (.int .i64 bn) (.int .i64 next) hn b2 s vo vn ∧ CI T k 1 s ∧ RM wr g (.slice aM M.length cM) vo vn M) := ⟨HK.out.1, HK.out.2.1, HK.out.2.2.1⟩
            have HZ6 : Hid (z + mn < W.length) := hzmn
            clear hraw hp1 hsz hz hzm hzl hpl hhd hp0 hdr hm hmn hszm hzmn htop htl HK hlt
            go_wp2_with (go_at_call 34; refine (OF.out _).mono ?_; rintro e w' ⟨rfl, hx⟩; subst w')
            clear k7 k4 e0
            rename World => wp
            go_loopw [14] (fun v14 wr => ∃ (j : Nat) (s2 : CS) (vo vn : Value), 1 ≤ j ∧ j ≤ mn + 1 ∧ v14 = .int .i64 j ∧ Hid (MS (w.heap.size + 2) w0 wr g x3 (.slice a0 W.length c0) (.int .i64 hn) (.int .i64 bn) (.int .i64 next) hn b2 s2 vo vn ∧ CI T k j s2 ∧ RM wr g (.slice aM M.length cM) vo vn M ∧ s2.2.2.1[k]? = some (z : Int) ∧ p = posO W b2 s2.2.2.1 k ∧ scanK W p (mn + 1 - j) j s2 = scanK W p mn 1 s)) (fun v14 _ => mn + 2 - (intOf v14).toNat)
            case atStart => exact ⟨1, s, vo, vn, Nat.le_refl _, by omega, rfl, ⟨HKK.out.1, HKK.out.2.1, HKK.out.2.2, HPZ.out.1, HPZ.out.2, by rw [show mn + 1 - 1 = mn by omega]⟩⟩
            case round =>
              clear HKK
              obtain ⟨j, s2, vo, vn, hj1, hj2, rfl, HL⟩ := hrel
              have htl : s2.1.length = W.length := by have := HL.out.2.1.tlen; rw [HTT.out.1] at this; exact this
              have k4 : wr.cell? ⟨g, 4, none⟩ = some (.slice (some ⟨x3, 0, none⟩) W.length W.length) := by have := blk_cellM (i := 4) HL.out.1.blk rfl; rw [htl] at this; exact this
              by_cases hjm : j ≤ mn
              · have hk2 : k < s2.2.2.1.length := by
                  rcases Nat.lt_or_ge k s2.2.2.1.length with y | y
                  · exact y
                  · have := HL.out.2.2.2.1; rw [List.getElem?_eq_none y] at this; cases this
                have hkz : s2.2.2.1[k] = (z : Int) := by have := HL.out.2.2.2.1; rw [List.getElem?_eq_getElem hk2] at this; simpa using this
                have hpj : p + j < s2.1.length := by rw [htl]; have := HTP.out; omega
                have hx0 : s2.1.getD (p + j) 0 = W.getD (z + j) 0 := by
                  have := HL.out.2.1.raw k hk2 (Nat.le_refl _) j (by rw [HTT.out.1, hkz, HM63.out.2]; omega) (by omega)
                  rw [HTT.out.1, HTT.out.2.2.2, ← HL.out.2.2.2.2.1, hkz, Int.toNat_natCast] at this
                  exact this
                obtain ⟨x, hx⟩ : ∃ x, x = s2.1.getD (p + j) 0 := ⟨_, rfl⟩
                have e0 : wr.cell? ⟨x3, p + j, none⟩ = some (.int .i64 x) := by rw [hx, getD_at hpj]; exact blk_cellM HL.out.1.tw (by simp [hpj])
                have hxr : InR x := by rw [hx]; exact getD_mem_or HL.out.2.1.rng
                have hth : thereB (plT T).1 x = true := by rw [hx, hx0]; exact HKT.out j hj1 hjm
                have hmv := move_any T (w.heap.size + 2) w0 wr g x3 a0 c0 (.int .i64 hn) (.int .i64 bn) (.int .i64 next) hn b2 s2 vo vn k j x HB.out hth hxr HW0.out HL.out.2.1 (by rw [HTT.out.1]; exact HL.out.1)
                have hci := HL.out.2.1.mv (by rw [HTT.out.1]; exact RNG.out) HB.out hth hxr
                rw [HTT.out.1] at hmv hci
                obtain ⟨X, hX⟩ := mv_pre W s2 x
                obtain ⟨mv, hmve⟩ : ∃ mv, mv = mvF W s2 x := ⟨_, rfl⟩
                have hsk := HL.out.2.2.2.2.2
                rw [show mn + 1 - j = (mn + 1 - (j + 1)) + 1 by omega, scanK, ← hx, ← hmve] at hsk
                rw [← hmve] at hmv hci hX
                have hk3 : k < mv.1.2.2.1.length := by rw [hX, List.length_append]; omega
                have hpz : mv.1.2.2.1[k]? = some (z : Int) := by rw [hX, List.getElem?_append_left hk2]; exact HL.out.2.2.2.1
                have hkz3 : mv.1.2.2.1[k] = (z : Int) := by rw [List.getElem?_eq_getElem hk3] at hpz; simpa using hpz
                have hpp : p = posO W b2 mv.1.2.2.1 k := by rw [hX, posO_append (by omega)]; exact HL.out.2.2.2.2.1
                have hcs := hci.1.set HB.out hk3 hj1 (by rw [HTT.out.1, hkz3, HM63.out.2]; omega) hci.2
                rw [HTT.out.1, HTT.out.2.2.2, ← hpp] at hcs
                have HC : Hid (CI T k (j + 1) (mv.1.1.set (p + j) mv.2, mv.1.2) ∧ mv.1.2.2.1[k]? = some (z : Int) ∧ p = posO W b2 mv.1.2.2.1 k ∧ scanK W p (mn + 1 - (j + 1)) (j + 1) (mv.1.1.set (p + j) mv.2, mv.1.2) = scanK W p mn 1 s ∧ mv.1.1.length = W.length) := ⟨hcs, hpz, hpp, hsk, by have := hci.1.tlen; rw [HTT.out.1] at this; exact this⟩
                have RL : Hid (RM wr g (.slice aM M.length cM) vo vn M) := HL.out.2.2.1
                have jI : (p : Int) + (j : Int) < (W.length : Int) := by have := HTP.out; omega
                clear hcs hpz hpp hsk hci hX hk3 hkz3 hk2 hkz hx0 hx hxr hth hmve HL htl hpj
                go_wp2_with fail
                refine hmv.mono ?_
                rintro e w3 ⟨rfl, vo3, vn3, hms, hlf⟩
                have hrm := RL.out.left LO.out.2 hlf
                have hpj3 : p + j < mv.1.1.length := by rw [HC.out.2.2.2.2]; omega
                have f4 : w3.cell? ⟨g, 4, none⟩ = some (.slice (some ⟨x3, 0, none⟩) W.length W.length) := by have := blk_cellM (i := 4) hms.blk rfl; rw [HC.out.2.2.2.2] at this; exact this
                have f5 : w3.cell? ⟨x3, p + j, none⟩ = some (.int .i64 (mv.1.1[p + j])) := blk_cellM hms.tw (by simp [hpj3])
                have f6 : w3.frozen? ⟨x3, p + j, none⟩ = false := blk_freeM hms.tw
                have hwd := hms.word (p + j) mv.2
                have K3 : Hid (MS (w.heap.size + 2) w0 (w3.setCell ⟨x3, p + j, none⟩ (.int .i64 mv.2)) g x3 (.slice a0 W.length c0) (.int .i64 hn) (.int .i64 bn) (.int .i64 next) hn b2 (mv.1.1.set (p + j) mv.2, mv.1.2) vo3 vn3 ∧ RM (w3.setCell ⟨x3, p + j, none⟩ (.int .i64 mv.2)) g (.slice aM M.length cM) vo3 vn3 M) := ⟨hwd.1, hrm.left LO.out.2 hwd.2⟩
                generalize mv.1.1[p + j] = y5 at f5
                clear hmv hms hlf hrm hwd hpj3 k4 e0
                go_wp2
                go_round
                case rel => exact ⟨j + 1, _, vo3, vn3, by omega, by omega, by go_num, ⟨K3.out.1, HC.out.1, K3.out.2, HC.out.2.1, HC.out.2.2.1, HC.out.2.2.2.1⟩⟩
                case measure => simp [intOf]; omega
              · obtain rfl : j = mn + 1 := by omega
                have hk2 : k < s2.2.2.1.length := by
                  rcases Nat.lt_or_ge k s2.2.2.1.length with y | y
                  · exact y
                  · have := HL.out.2.2.2.1; rw [List.getElem?_eq_none y] at this; cases this
                have hkz : s2.2.2.1[k] = (z : Int) := by have := HL.out.2.2.2.1; rw [List.getElem?_eq_getElem hk2] at this; simpa using this
                have hsk := HL.out.2.2.2.2.2
                rw [show mn + 1 - (mn + 1) = 0 by omega, scanK] at hsk
                have HF : Hid (k + 1 ≤ s2.2.2.1.length ∧ p + 1 + mn = posO W b2 s2.2.2.1 (k + 1) ∧ endC T rs = scanC W (W.length + 1 - (k + 1)) (p + 1 + mn) s2) := ⟨hk2, by rw [posO_succ hk2, ← HL.out.2.2.2.2.1, hkz, HM63.out.2]; omega, by rw [hsk]; exact HSC.out⟩
                clear hk2 hkz hsk k4 htl
                go_wp2
                go_round
                case rel => exact ⟨k + 1, p + 1 + mn, s2, vo, vn, by go_num, ⟨HL.out.1, HL.out.2.1.done, HL.out.2.2.1, HF.out.1, HF.out.2.1, HF.out.2.2⟩⟩
                case measure => have := HTP.out; simp [intOf]; omega
          · have hke : k = s.2.2.1.length := by have := HK.out.2.2.2.1; omega
            have hpe : p = s.2.1 := by rw [HP.out HK.out.2.1, HK.out.2.2.2.2.1, hke]
            have HEE : Hid (endC T rs = s) := by show _ = _; rw [HK.out.2.2.2.2.2, scanC_end (by omega)]
            have k5 : wr.cell? ⟨g, 5, none⟩ = some (.int .i64 hn) := blk_cellM (i := 5) HK.out.1.blk rfl
            have k6 : wr.cell? ⟨g, 6, none⟩ = some (.int .i64 b2) := blk_cellM (i := 6) HK.out.1.blk rfl
            have hRb : wr.heap[w.heap.size + 1]? = some (.cells #[.slice none 0 0, .int .i64 0, .int .i64 0, .int .i64 0] 26) := (HK.out.1.bel.block _ (by omega)).trans X0.out.2
            have r0 : wr.cell? ⟨w.heap.size + 1, 0, none⟩ = some (.slice none 0 0) := blk_cellM (i := 0) hRb rfl
            have r1 : wr.cell? ⟨w.heap.size + 1, 1, none⟩ = some (.int .i64 0) := blk_cellM (i := 1) hRb rfl
            have r2 : wr.cell? ⟨w.heap.size + 1, 2, none⟩ = some (.int .i64 0) := blk_cellM (i := 2) hRb rfl
            have r3 : wr.cell? ⟨w.heap.size + 1, 3, none⟩ = some (.int .i64 0) := blk_cellM (i := 3) hRb rfl
            have rf : ∀ jj, wr.frozen? ⟨w.heap.size + 1, jj, none⟩ = false := fun jj => blk_freeM hRb
            have pI : (p : Int) = (s.2.1 : Int) := by omega
            have HPE : Hid (p = s.2.1 ∧ s.1.length = W.length) := ⟨hpe, by assumption⟩
            clear hke hpe hRb htop hlt
            go_wp2
            have oth : ∀ k, k ≠ w.heap.size + 1 → ((((wr.setCell ⟨w.heap.size + 1, 0, none⟩ (.slice (some ⟨x3, 0, none⟩) W.length W.length)).setCell ⟨w.heap.size + 1, 1, none⟩ (.int .i64 hn)).setCell ⟨w.heap.size + 1, 2, none⟩ (.int .i64 b2)).setCell ⟨w.heap.size + 1, 3, none⟩ (.int .i64 s.2.1)).heap[k]? = wr.heap[k]? := fun k hk => by
              rw [Below.heap_setCell _ _ _ _ (by exact hk), Below.heap_setCell _ _ _ _ (by exact hk), Below.heap_setCell _ _ _ _ (by exact hk), Below.heap_setCell _ _ _ _ (by exact hk)]
            have hRb : wr.heap[w.heap.size + 1]? = some (.cells #[.slice none 0 0, .int .i64 0, .int .i64 0, .int .i64 0] 26) := (HK.out.1.bel.block _ (by omega)).trans X0.out.2
            have hRn : ((((wr.setCell ⟨w.heap.size + 1, 0, none⟩ (.slice (some ⟨x3, 0, none⟩) W.length W.length)).setCell ⟨w.heap.size + 1, 1, none⟩ (.int .i64 hn)).setCell ⟨w.heap.size + 1, 2, none⟩ (.int .i64 b2)).setCell ⟨w.heap.size + 1, 3, none⟩ (.int .i64 s.2.1)).heap[w.heap.size + 1]? = some (.cells #[.slice (some ⟨x3, 0, none⟩) W.length W.length, .int .i64 hn, .int .i64 b2, .int .i64 s.2.1] 26) := by
              simp [World.setCell, Array.getElem?_modify, hRb]
            have n0 : ((((wr.setCell ⟨w.heap.size + 1, 0, none⟩ (.slice (some ⟨x3, 0, none⟩) W.length W.length)).setCell ⟨w.heap.size + 1, 1, none⟩ (.int .i64 hn)).setCell ⟨w.heap.size + 1, 2, none⟩ (.int .i64 b2)).setCell ⟨w.heap.size + 1, 3, none⟩ (.int .i64 s.2.1)).cell? ⟨w.heap.size + 1, 0, none⟩ = some (.slice (some ⟨x3, 0, none⟩) W.length W.length) := blk_cellM (i := 0) hRn rfl
            have n1 : ((((wr.setCell ⟨w.heap.size + 1, 0, none⟩ (.slice (some ⟨x3, 0, none⟩) W.length W.length)).setCell ⟨w.heap.size + 1, 1, none⟩ (.int .i64 hn)).setCell ⟨w.heap.size + 1, 2, none⟩ (.int .i64 b2)).setCell ⟨w.heap.size + 1, 3, none⟩ (.int .i64 s.2.1)).cell? ⟨w.heap.size + 1, 1, none⟩ = some (.int .i64 hn) := blk_cellM (i := 1) hRn rfl
            have n2 : ((((wr.setCell ⟨w.heap.size + 1, 0, none⟩ (.slice (some ⟨x3, 0, none⟩) W.length W.length)).setCell ⟨w.heap.size + 1, 1, none⟩ (.int .i64 hn)).setCell ⟨w.heap.size + 1, 2, none⟩ (.int .i64 b2)).setCell ⟨w.heap.size + 1, 3, none⟩ (.int .i64 s.2.1)).cell? ⟨w.heap.size + 1, 2, none⟩ = some (.int .i64 b2) := blk_cellM (i := 2) hRn rfl
            have n3 : ((((wr.setCell ⟨w.heap.size + 1, 0, none⟩ (.slice (some ⟨x3, 0, none⟩) W.length W.length)).setCell ⟨w.heap.size + 1, 1, none⟩ (.int .i64 hn)).setCell ⟨w.heap.size + 1, 2, none⟩ (.int .i64 b2)).setCell ⟨w.heap.size + 1, 3, none⟩ (.int .i64 s.2.1)).cell? ⟨w.heap.size + 1, 3, none⟩ = some (.int .i64 s.2.1) := blk_cellM (i := 3) hRn rfl
            have hBW : Below w.heap.size w ((((wr.setCell ⟨w.heap.size + 1, 0, none⟩ (.slice (some ⟨x3, 0, none⟩) W.length W.length)).setCell ⟨w.heap.size + 1, 1, none⟩ (.int .i64 hn)).setCell ⟨w.heap.size + 1, 2, none⟩ (.int .i64 b2)).setCell ⟨w.heap.size + 1, 3, none⟩ (.int .i64 s.2.1)) := ((((B0.out.trans (HK.out.1.bel.mono (by omega))).setCell (by show w.heap.size ≤ w.heap.size + 1; omega) _).setCell (by show w.heap.size ≤ w.heap.size + 1; omega) _).setCell (by show w.heap.size ≤ w.heap.size + 1; omega) _).setCell (by show w.heap.size ≤ w.heap.size + 1; omega) _
            generalize ((((wr.setCell ⟨w.heap.size + 1, 0, none⟩ (.slice (some ⟨x3, 0, none⟩) W.length W.length)).setCell ⟨w.heap.size + 1, 1, none⟩ (.int .i64 hn)).setCell ⟨w.heap.size + 1, 2, none⟩ (.int .i64 b2)).setCell ⟨w.heap.size + 1, 3, none⟩ (.int .i64 s.2.1)) = wE at oth hRn n0 n1 n2 n3 hBW ⊢
            refine bodyPost_ret (v := .tuple #[.agg #[.slice (some ⟨x3, 0, none⟩) W.length W.length, .int .i64 hn, .int .i64 b2, .int .i64 s.2.1], .slice aM M.length cM]) (by simp [results, Tryz.f28, go_sem, n0, n1, n2, n3]) rfl ?_
            have hlo := LO.out
            have hlen := HPE.out.2
            refine ⟨⟨x3, .slice aM M.length cM, ?_, ?_, ?_, ?_, by rw [HEE.out]; exact (HK.out.2.1.top HB.out).2⟩, hBW⟩
            · rw [HEE.out, hlen, HTT.out.2.1, HTT.out.2.2.1, ← HB2.out.1]
            · rw [HEE.out]
              refine ⟨⟨by simp, Or.inr ⟨x3, s.1.length, (s.1.map (Value.int .i64)).toArray, rfl, by omega, (oth x3 (by omega)).trans HK.out.1.tw, Nat.le_refl _, by unfold maxLen; have := HWL.out.2; omega, by simp, by simp only [Nat.mul_one]; exact List.take_of_length_le (by simp)⟩⟩, HK.out.2.1.rng⟩
            · rw [HE0.out.2]
              refine irow_base0 (irow_sameM HK.out.2.2.1.row fun k hk => oth k ?_) (by omega)
              have := (HK.out.2.2.1.row.lt k hk).1; omega
            · intro e
              have := (HK.out.2.2.1.row.lt _ e).1; omega

end Go.Proofs.YthpdkjenadngoaaGreatDoor.heap

/-
  The model's At: what is at a path, in new memory that lies apart; nothing that was there is turned.
-/
import Derived.Test.YtdfpihnddclccaaAtDefs
import Derived.Test.YtdfpihnddclccaaCopySpec
import Derived.Deep.RegionHeld3
namespace Go.Proofs.Ytdfpihnddclccaa.value
open Go.RowKit Go.Proofs.Ytdfpihnddclccaa.rose Go.Proofs.Ytdfpihnddclccaa
set_option linter.unusedVariables false

set_option maxRecDepth 100000 in
set_option maxHeartbeats 4000000 in
theorem specAt (T : ValueD) (ks : List Int) (v : Value) (cs : List Value) (w : World) (hw : wt T ≤ 1048576) (h : valueSh.rep w (· < w.heap.size) cs T) (h' : ints.intsSh.rep w (· < w.heap.size) [v] ks) :
    Calls Try.prog 5 #[.agg cs.toArray, v] w fun e w' => (∃ cs', e = .returned (.tuple #[.agg cs'.toArray, .bool (atD ks T).2]) ∧ valueSp.rep w' (fun b => w.heap.size ≤ b ∧ b < w'.heap.size) cs' (atD ks T).1) ∧ Below w.heap.size w w' := by
  obtain ⟨v0, v1, v2, v3, rfl⟩ := value_list h
  have o0 := valueSh.one h v0 (by simp)
  have o1 := valueSh.one h v1 (by simp)
  have o2 := valueSh.one h v2 (by simp)
  have o3 := valueSh.one h v3 (by simp)
  obtain ⟨a, cap, rfl, hcap, hmax, hat⟩ := ints.ints_open h'
  have hmx : (ks.length : Int) ≤ 9223372036854775807 := by unfold maxLen at hmax; omega
  have HA : Hid _ := hat
  have HT : Hid (valueSh.rep w (· < w.heap.size) [v0, v1, v2, v3] T ∧ wt T ≤ 1048576) := ⟨h, hw⟩
  clear h h' hcap hmax hat hw
  go_enter Try.func5, Try.ntmps5
  go_wp2
  go_loopw [6] (fun v6 wr => ∃ (i : Nat) (T' : ValueD) (cs' : List Value), i ≤ ks.length ∧ v6 = .int .i64 i ∧ Hid (AtS w wr ks T i T' cs')) (fun v6 _ => ks.length - (intOf v6).toNat)
  case atStart =>
    refine ⟨0, T, [v0, v1, v2, v3], Nat.zero_le _, rfl, ⟨((Below.refl _ w).alloc (Nat.le_refl _) _).alloc (by simp) _, ?_, ?_, HT.out.1, rfl, HT.out.2⟩⟩
    · rw [Below.heap_alloc _ _ _ (by simp)]; exact alloc_top _ _
    · have := alloc_top (w.alloc (.cells #[v0, v1, v2, v3] 29)) (.cells #[.int .i64 0, .int .i64 0, .string ⟨#[]⟩, .slice none 0 0] 29)
      rwa [World.size_alloc] at this
  case round =>
    obtain ⟨i, T', cs', hi, rfl, HJ⟩ := hrel
    obtain ⟨⟨y0, y1, y2⟩, kk⟩ := T'
    obtain ⟨x0, x1, x2, x3, a3, c3, hT, hcs, f0, f1, f2, f3⟩ := value_open HJ.out.rep
    cases hT
    subst hcs
    have b0 : wr.cell? ⟨w.heap.size, 0, none⟩ = some (.int .i64 y0) := blk_cell (i := 0) HJ.out.box rfl
    have b1 : wr.cell? ⟨w.heap.size, 1, none⟩ = some (.int .i64 y1) := blk_cell (i := 1) HJ.out.box rfl
    have b2 : wr.cell? ⟨w.heap.size, 2, none⟩ = some (.string y2) := blk_cell (i := 2) HJ.out.box rfl
    have b3 : wr.cell? ⟨w.heap.size, 3, none⟩ = some (.slice a3 kk.length c3) := blk_cell (i := 3) HJ.out.box rfl
    have fb : ∀ o, wr.frozen? ⟨w.heap.size, o, none⟩ = false := fun o => blk_free HJ.out.box
    have r0 : wr.cell? ⟨w.heap.size + 1, 0, none⟩ = some (.int .i64 0) := blk_cell (i := 0) HJ.out.res rfl
    have r1 : wr.cell? ⟨w.heap.size + 1, 1, none⟩ = some (.int .i64 0) := blk_cell (i := 1) HJ.out.res rfl
    have r2 : wr.cell? ⟨w.heap.size + 1, 2, none⟩ = some (.string ⟨#[]⟩) := blk_cell (i := 2) HJ.out.res rfl
    have r3 : wr.cell? ⟨w.heap.size + 1, 3, none⟩ = some (.slice none 0 0) := blk_cell (i := 3) HJ.out.res rfl
    have fr : ∀ o, wr.frozen? ⟨w.heap.size + 1, o, none⟩ = false := fun o => blk_free HJ.out.res
    by_cases hlt : i < ks.length
    · obtain ⟨b, o, rfl, hS, hc, hp0, hp1⟩ := HA.out i hlt
      have e0 := (HJ.out.bel.cell (p := ⟨b, o + i, none⟩) hS).trans hc
      clear hc
      have HD : Hid (ks.drop i = ks[i] :: ks.drop (i + 1)) := List.drop_eq_getElem_cons hlt
      obtain ⟨ka, kcap, kcss, ke, kl, kmax, krow, krep⟩ := values_open f3
      cases ke
      have hkm : (kk.length : Int) ≤ 9223372036854775807 := by unfold maxLen at kmax; omega
      have HKR : Hid (RowAt w (· < w.heap.size) 4 a3 kk.length kcss ∧ ∀ i (h : i < kk.length), valueSh.rep w (· < w.heap.size) (kcss i) kk[i]) := ⟨krow, krep⟩
      clear f0 f1 f2 f3 krow krep
      by_cases hneg : ks[i] < 0
      · have hd : decide (ks[i] < 0) = true := by simp [hneg]
        have HE : Hid (atD ks T = (zeroV, false)) := by have := HJ.out.step; rw [HD.out, atD_low hneg] at this; exact this.symm
        go_wp2
        go_region
        all_goals
          go_wp2
          refine bodyPost_ret (v := .tuple #[.agg #[.int .i64 0, .int .i64 0, .string ⟨#[]⟩, .slice none 0 0], .bool false]) (by simp [results, Try.f5, go_sem, r0, r1, r2, r3]) rfl ?_
          refine ⟨⟨[.int .i64 0, .int .i64 0, .string ⟨#[]⟩, .slice none 0 0], by rw [HE.out], ?_⟩, ?_⟩
          · rw [HE.out]; exact zero_rep _ _
          · repeat first | with_reducible exact HJ.out.bel | with_reducible refine Below.drew ?_ | (refine Below.setCell ?_ (by first | (simp; done) | (simp; omega)) _)
      · by_cases hhi : (kk.length : Int) ≤ ks[i]
        · have hd : decide (ks[i] < 0) = false := by simp; omega
          have hd2 : decide ((kk.length : Int) ≤ ks[i]) = true := by simp; omega
          have HE : Hid (atD ks T = (zeroV, false)) := by have := HJ.out.step; rw [HD.out, atD_high hhi] at this; exact this.symm
          go_wp2
          go_region
          all_goals
            go_wp2
            refine bodyPost_ret (v := .tuple #[.agg #[.int .i64 0, .int .i64 0, .string ⟨#[]⟩, .slice none 0 0], .bool false]) (by simp [results, Try.f5, go_sem, r0, r1, r2, r3]) rfl ?_
            refine ⟨⟨[.int .i64 0, .int .i64 0, .string ⟨#[]⟩, .slice none 0 0], by rw [HE.out], ?_⟩, ?_⟩
            · rw [HE.out]; exact zero_rep _ _
            · repeat first | with_reducible exact HJ.out.bel | with_reducible refine Below.drew ?_ | (refine Below.setCell ?_ (by first | (simp; done) | (simp; omega)) _)
        · obtain ⟨q, hq⟩ : ∃ q : Nat, ks[i] = (q : Int) := ⟨ks[i].toNat, by omega⟩
          have hqk : q < kk.length := by omega
          rw [hq] at e0
          have HQ : Hid (ks[i] = (q : Int)) := hq
          obtain ⟨kb, ko, rfl, kS, kc⟩ := HKR.out.1 q hqk
          have krep := HKR.out.2 q hqk
          obtain ⟨n0, n1, n2, n3, ncs, nc0, nc1, nc2, nc3⟩ := value_cells krep kc
          rw [ncs] at krep
          have on0 := valueSh.one krep n0 (by simp)
          have on1 := valueSh.one krep n1 (by simp)
          have on2 := valueSh.one krep n2 (by simp)
          have on3 := valueSh.one krep n3 (by simp)
          have so0 := fun (a : Addr) (m : Mode) (w : World) => run_store Try.prog w a n0 m on0
          have so1 := fun (a : Addr) (m : Mode) (w : World) => run_store Try.prog w a n1 m on1
          have so2 := fun (a : Addr) (m : Mode) (w : World) => run_store Try.prog w a n2 m on2
          have so3 := fun (a : Addr) (m : Mode) (w : World) => run_store Try.prog w a n3 m on3
          have HB := HJ.out.bel
          have m0 := (HB.cell (p := ⟨kb, ko + q * 4, none⟩) kS).trans nc0
          have m1 := (HB.cell (p := ⟨kb, ko + q * 4 + 1, none⟩) kS).trans nc1
          have m2 := (HB.cell (p := ⟨kb, ko + q * 4 + 2, none⟩) kS).trans nc2
          have m3 := (HB.cell (p := ⟨kb, ko + q * 4 + 3, none⟩) kS).trans nc3
          have KR : Hid (valueSh.rep w (· < w.heap.size) [n0, n1, n2, n3] kk[q]) := krep
          have hd : decide ((q : Int) < 0) = false := by simp
          have hd2 : decide ((kk.length : Int) ≤ (q : Int)) = false := by simp; omega
          have hkl : (q : Int) < (kk.length : Int) := by omega
          clear hneg hhi hq krep ncs kc nc0 nc1 nc2 nc3 HKR HB
          go_wp2
          go_region
          all_goals
            go_wp2
            go_region
            all_goals
              have NX : Hid (AtS w ((((wr.drew.drew.setCell ⟨w.heap.size, 0, none⟩ n0).setCell ⟨w.heap.size, 1, none⟩ n1).setCell ⟨w.heap.size, 2, none⟩ n2).setCell ⟨w.heap.size, 3, none⟩ n3) ks T (i + 1) kk[q] [n0, n1, n2, n3]) := by
                refine HJ.out.next (T' := .mk (y0, y1, y2) kk) hlt HQ.out hqk KR.out ?_ (set4_blk HJ.out.box) ?_
                · repeat first | with_reducible exact HJ.out.bel.drew.drew | (refine Below.setCell ?_ (by first | (simp; done) | (simp; omega)) _)
                · repeat rw [Below.heap_setCell _ _ _ _ (by simp)]
                  rfl
              go_wp2
              go_round
              case rel => exact ⟨i + 1, _, _, by omega, by go_num, NX⟩
              case measure => simp [intOf]; omega
    · obtain rfl : i = ks.length := by omega
      have HE : Hid (atD ks T = (.mk (y0, y1, y2) kk, true)) := by have := HJ.out.step; rw [List.drop_length, atD_nil] at this; exact this.symm
      have HC : Hid (valueSh.rep wr (· < wr.heap.size) [.int .i64 y0, .int .i64 y1, .string y2, .slice a3 kk.length c3] (.mk (y0, y1, y2) kk)) := valueSh.mono (valueSh.below HJ.out.rep HJ.out.bel) fun b hb => Nat.lt_of_lt_of_le hb HJ.out.bel.size
      have hz : w.heap.size + 1 < wr.heap.size := (Array.getElem?_eq_some_iff.1 HJ.out.res).1
      clear f0 f1 f2 f3
      go_wp2_with fail
      refine (copy_any _ _ _ HJ.out.wt HC.out).mono ?_
      rintro e w1 ⟨⟨cs1, rfl, hr1⟩, hb⟩
      obtain ⟨n0, n1, n2, n3, rfl⟩ := value_list (valuep_rep hr1)
      have on0 := valueSp.one hr1 n0 (by simp)
      have on1 := valueSp.one hr1 n1 (by simp)
      have on2 := valueSp.one hr1 n2 (by simp)
      have on3 := valueSp.one hr1 n3 (by simp)
      have so0 := fun (a : Addr) (m : Mode) (w : World) => run_store Try.prog w a n0 m on0
      have so1 := fun (a : Addr) (m : Mode) (w : World) => run_store Try.prog w a n1 m on1
      have so2 := fun (a : Addr) (m : Mode) (w : World) => run_store Try.prog w a n2 m on2
      have so3 := fun (a : Addr) (m : Mode) (w : World) => run_store Try.prog w a n3 m on3
      have hR1 := (hb.block _ hz).trans HJ.out.res
      have q0 : w1.cell? ⟨w.heap.size + 1, 0, none⟩ = some (.int .i64 0) := blk_cell (i := 0) hR1 rfl
      have q1 : w1.cell? ⟨w.heap.size + 1, 1, none⟩ = some (.int .i64 0) := blk_cell (i := 1) hR1 rfl
      have q2 : w1.cell? ⟨w.heap.size + 1, 2, none⟩ = some (.string ⟨#[]⟩) := blk_cell (i := 2) hR1 rfl
      have q3 : w1.cell? ⟨w.heap.size + 1, 3, none⟩ = some (.slice none 0 0) := blk_cell (i := 3) hR1 rfl
      have fq : ∀ o, w1.frozen? ⟨w.heap.size + 1, o, none⟩ = false := fun o => blk_free hR1
      have HH : Hid (valueSp.rep w1 (fun b => wr.heap.size ≤ b ∧ b < w1.heap.size) [n0, n1, n2, n3] (.mk (y0, y1, y2) kk) ∧ Below w.heap.size w w1) := ⟨hr1, HJ.out.bel.trans (hb.mono HJ.out.bel.size)⟩
      clear hr1 hb hR1
      go_wp2
      refine bodyPost_ret (v := .tuple #[.agg #[n0, n1, n2, n3], .bool true]) (by simp [results, Try.f5, go_sem, q0, q1, q2, q3]) rfl ?_
      refine ⟨⟨[n0, n1, n2, n3], by rw [HE.out], ?_⟩, ?_⟩
      · rw [HE.out]
        refine valueSp.mono (valueSp.on HH.out.1 fun b hS => by repeat rw [Below.heap_setCell _ _ _ _ (by simp; omega)]) fun b hS => ⟨by omega, by simp [World.setCell]; exact hS.2⟩
      · repeat first | with_reducible exact HH.out.2 | (refine Below.setCell ?_ (by first | (simp; done) | (simp; omega)) _)

end Go.Proofs.Ytdfpihnddclccaa.value

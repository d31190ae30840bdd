/-
  The program's takeNums: numbers are taken off the bytes, each to its place; nothing else is turned.
-/
import Derived.Test.YtlfchmmkaflglaaDoorTakeNum
import Derived.Test.YtlfchmmkaflglaaDoorWrG
import Derived.Test.YtlfchmmkaflglaaDoorFunsOfDefs
namespace Go.Proofs.YtlfchmmkaflglaaDoor.fun
open Go Go.RowKit Go.Proofs.YtlfchmmkaflglaaDoor.rose Go.Proofs.YtlfchmmkaflglaaDoor Go.Proofs.YtlfchmmkaflglaaDoor.byts
set_option linter.unusedVariables false
set_option linter.unusedSimpArgs false

/-- So many numbers, one behind the other. -/
def numsS (b : List Int) : Nat → Nat → Bool → List Nat × Nat × Bool
  | 0, p, ok => ([], p, ok)
  | k + 1, p, ok => ((numS b p ok).1 :: (numsS b k (numS b p ok).2.1 (numS b p ok).2.2).1, (numsS b k (numS b p ok).2.1 (numS b p ok).2.2).2)
theorem numS_off (b : List Int) (p : Nat) : numS b p false = (0, p, false) := by unfold numS; simp
theorem numsS_off (b : List Int) (k p : Nat) : (numsS b k p false).2.2 = false := by
  induction k generalizing p with
  | zero => rfl
  | succ k ih => simp only [numsS, numS_off]; exact ih p
theorem numS_no {b : List Int} {p : Nat} (h : (getB b (p : Int)).2.2 = false) : numS b p true = (0, p, false) := by unfold numS; rw [h]; simp
theorem numS_yes {b : List Int} {p n j : Nat} (h : getB b (p : Int) = ((n : Int), (j : Int), true)) : numS b p true = (n, j, true) := by unfold numS; rw [h]; simp

/-- The cells that are written. -/
def Those (ga oa : Nat) (ps : List (Nat × Nat)) (k o : Nat) : Prop := (k = ga ∧ o = oa) ∨ (k, o) ∈ ps
/-- How far it is. -/
structure TS (b : List Int) (w wr : World) (ga oa : Nat) (ps : List (Nat × Nat)) (p0 i p : Nat) (ns : List Nat) : Prop where
  old : Wr (Those ga oa ps) w wr
  at_ : Cell wr ga oa (.int .i64 (p : Nat))
  pl : p ≤ b.length
  len : ns.length = i
  num : ∀ j (h : j < ns.length) (h2 : j < ps.length), Cell wr ps[j].1 ps[j].2 (.int .i64 (ns[j] : Nat))
  all : numsS b ps.length p0 true = (ns ++ (numsS b (ps.length - i) p true).1, (numsS b (ps.length - i) p true).2)

theorem bytes_wr {S : Nat → Nat → Prop} {w wr : World} {X : Nat → Prop} {v : Value} {b : List Int} (h : bytesSh.rep w X [v] b) (hw : Wr S w wr) (hX : ∀ k o, X k → ¬ S k o) : bytesSh.rep wr X [v] b := bytesSh.on h fun k hk => hw.block k fun o => hX k o hk

set_option maxRecDepth 100000 in
set_option maxHeartbeats 8000000 in
theorem takeNums_any (b : List Int) (p : Nat) (v : Value) (ga oa gs : Nat) (ps : List (Nat × Nat)) (w : World) (hl : b.length ≤ 1048576) (hp : p ≤ b.length) (hpl : ps.length ≤ 3) (h : bytesSh.rep w (fun k => k < w.heap.size ∧ k ≠ ga ∧ ∀ x ∈ ps, k ≠ x.1) [v] b)
    (ha : Cell w ga oa (.int .i64 (p : Nat))) (hn : ∀ j (h : j < ps.length), ∃ u, Cell w ps[j].1 ps[j].2 u) (hs : ∀ j (h : j < ps.length), w.cell? ⟨gs, j, none⟩ = some (.pointer (some ⟨ps[j].1, ps[j].2, none⟩))) (hgs : gs ≠ ga ∧ ∀ x ∈ ps, gs ≠ x.1)
    (hne : ∀ j (h : j < ps.length), ¬ (ga = ps[j].1 ∧ oa = ps[j].2)) (hap : ∀ i j (h : i < ps.length) (h2 : j < ps.length), i ≠ j → ps[i] ≠ ps[j]) :
    Calls Tryd.prog 48 #[v, .pointer (some ⟨ga, oa, none⟩), .slice (some ⟨gs, 0, none⟩) ps.length ps.length] w fun e w' => e = .returned (.bool (numsS b ps.length p true).2.2) ∧ Wr (Those ga oa ps) w w' ∧
      ((numsS b ps.length p true).2.2 = true → (numsS b ps.length p true).2.1 ≤ b.length ∧ Cell w' ga oa (.int .i64 ((numsS b ps.length p true).2.1 : Nat)) ∧ (numsS b ps.length p true).1.length = ps.length ∧ ∀ j (h : j < (numsS b ps.length p true).1.length) (h2 : j < ps.length), Cell w' ps[j].1 ps[j].2 (.int .i64 ((numsS b ps.length p true).1[j] : Nat))) := by
  obtain ⟨a, cap, hv⟩ : ∃ a c, v = .slice a b.length c := by obtain ⟨a, c, e⟩ := slice_cells h; simp only [List.cons.injEq, and_true] at e; exact ⟨a, c, e⟩
  subst hv
  have HP : Hid (∀ wr, Wr (Those ga oa ps) w wr → ∀ j (h : j < ps.length), wr.cell? ⟨gs, j, none⟩ = some (.pointer (some ⟨ps[j].1, ps[j].2, none⟩))) := fun wr hw j hj =>
    (World.cell?_of_block (a := ⟨gs, j, none⟩) (hw.block gs fun o ho => by
      rcases ho with ho | ho
      · exact hgs.1 ho.1
      · exact hgs.2 _ ho rfl)).trans (hs j hj)
  have HB : Hid (∀ wr, Wr (Those ga oa ps) w wr → ∀ j (h : j < ps.length), bytesSh.rep wr (fun k => k < wr.heap.size ∧ k ≠ ga ∧ k ≠ ps[j].1) [.slice a b.length cap] b) := fun wr hw j hj => by
    refine bytesSh.mono (bytes_wr h hw fun k o hk ho => ?_) fun k hk => ⟨by rw [hw.size]; exact hk.1, hk.2.1, hk.2.2 _ (List.getElem_mem hj)⟩
    rcases ho with ho | ho
    · exact hk.2.1 ho.1
    · exact hk.2.2 _ ho rfl
  have HN : Hid (∀ wr, Wr (Those ga oa ps) w wr → ∀ j (h : j < ps.length), ∃ u, Cell wr ps[j].1 ps[j].2 u) := fun wr hw j hj => by obtain ⟨u, hu⟩ := hn j hj; exact hu.stay hw
  have NE : Hid (∀ j (h : j < ps.length), ¬ (ga = ps[j].1 ∧ oa = ps[j].2)) := hne
  have AP : Hid (∀ i j (h : i < ps.length) (h2 : j < ps.length), i ≠ j → ps[i] ≠ ps[j]) := hap
  have T0 : Hid (TS b w w ga oa ps p 0 p []) := ⟨Wr.refl _ _, ha, hp, rfl, fun j h => absurd h (Nat.not_lt_zero _), by simp⟩
  obtain ⟨R, hR⟩ : ∃ R, R = numsS b ps.length p true := ⟨_, rfl⟩
  rw [← hR]
  have HR : Hid (R = numsS b ps.length p true) := hR
  clear h ha hn hs hgs hne hap hR
  go_enter Tryd.func48, Tryd.ntmps48
  go_wp2
  go_loopw [11] (fun v11 wr => ∃ (i q : Nat) (ns : List Nat), i ≤ ps.length ∧ v11 = .int .i64 i ∧ Hid (TS b w wr ga oa ps p i q ns)) (fun v11 _ => ps.length - (intOf v11).toNat)
  case atStart => exact ⟨0, p, [], Nat.zero_le _, rfl, T0.out⟩
  case round =>
    obtain ⟨i, q, ns, hi, rfl, HT⟩ := hrel
    by_cases hlt : i < ps.length
    · have e0 := HP.out wr HT.out.old i hlt
      obtain ⟨u, hu⟩ := HN.out wr HT.out.old i hlt
      have hq := HT.out.pl
      have hcall := takeNum_any b (q : Int) _ u ga oa ps[i].1 ps[i].2 wr hl (by omega) (by omega) (HB.out wr HT.out.old i hlt) HT.out.at_ hu (NE.out i hlt)
      have HTW : Hid (∀ k o, Two ga oa ps[i].1 ps[i].2 k o → Those ga oa ps k o) := fun k o ho => by
        rcases ho with ho | ho
        · exact .inl ho
        · rw [ho.1, ho.2]; exact .inr (List.getElem_mem hlt)
      have hstep : ps.length - i = (ps.length - (i + 1)) + 1 := by omega
      have HALL : Hid (R = (ns ++ (numS b q true).1 :: (numsS b (ps.length - (i + 1)) (numS b q true).2.1 (numS b q true).2.2).1, (numsS b (ps.length - (i + 1)) (numS b q true).2.1 (numS b q true).2.2).2)) := by
        show _ = _
        rw [HR.out, HT.out.all, hstep]; rfl
      clear hu hstep
      rcases q5 : (getB b (q : Int)).2.2 with _ | _
      · have HF : Hid (R.2.2 = false) := by show _ = _; rw [HALL.out, numS_no q5]; exact numsS_off _ _ _
        rw [q5] at hcall
        clear q5
        go_wp2_with fail
        refine hcall.mono ?_
        rintro e w1 ⟨rfl, z, n, hT, -⟩
        have W1 : Hid (Wr (Those ga oa ps) w w1) := HT.out.old.trans (hT.old.mono HTW.out)
        clear hcall hT e0
        go_wp2
        go_ret
        rw [HF.out]
        exact ⟨rfl, W1.out, fun e => by cases e⟩
      · obtain ⟨n, j, hg, h3, h4, h5⟩ := getB_yes q5
        rw [q5] at hcall
        have HS : Hid (numS b q true = (n, j, true)) := numS_yes hg
        have HG : Hid (getB b (q : Int) = ((n : Int), (j : Int), true)) := hg
        clear q5 hg
        go_wp2_with fail
        refine hcall.mono ?_
        rintro e w1 ⟨rfl, z, n', hT, hK⟩
        have hK2 := hK (by rw [HG.out])
        rw [HG.out] at hK2
        dsimp only at hK2
        obtain ⟨rfl, rfl⟩ := hK2
        have T1 : Hid (TS b w w1 ga oa ps p (i + 1) j (ns ++ [n])) := by
          refine ⟨HT.out.old.trans (hT.old.mono HTW.out), hT.at_, h4, by rw [List.length_append, HT.out.len]; rfl, fun x hx hx2 => ?_, ?_⟩
          · have hlen := HT.out.len
            rw [List.length_append, List.length_singleton] at hx
            by_cases hxi : x < ns.length
            · rw [List.getElem_append_left hxi]
              refine (HT.out.num x hxi hx2).wr hT.old fun e => ?_
              rcases e with e | e
              · exact NE.out x hx2 ⟨e.1.symm, e.2.symm⟩
              · exact AP.out x i hx2 hlt (by omega) (Prod.ext e.1 e.2)
            · have hxe : x = i := by omega
              subst hxe
              rw [List.getElem_append_right (by omega)]
              simp only [List.getElem_singleton]
              exact hT.num
          · rw [← HR.out, HALL.out, HS.out]; simp
        clear hcall hT hK e0
        go_wp2
        go_round
        case rel => exact ⟨i + 1, j, ns ++ [n], by omega, by go_num, T1.out⟩
        case measure => simp [intOf]; omega
    · obtain rfl : i = ps.length := by omega
      have HRE : Hid (R = (ns, q, true)) := by show _ = _; rw [HR.out, HT.out.all, Nat.sub_self]; simp [numsS]
      go_wp2
      go_ret
      rw [HRE.out]
      exact ⟨rfl, HT.out.old, fun _ => ⟨HT.out.pl, HT.out.at_, HT.out.len, HT.out.num⟩⟩

theorem takeNums_is (R : List Nat × Nat × Bool) (b : List Int) (p : Nat) (v : Value) (ga oa gs : Nat) (ps : List (Nat × Nat)) (w : World) (hl : b.length ≤ 1048576) (hp : p ≤ b.length) (hpl : ps.length ≤ 3) (h : bytesSh.rep w (fun k => k < w.heap.size ∧ k ≠ ga ∧ ∀ x ∈ ps, k ≠ x.1) [v] b)
    (ha : Cell w ga oa (.int .i64 (p : Nat))) (hn : ∀ j (h : j < ps.length), ∃ u, Cell w ps[j].1 ps[j].2 u) (hs : ∀ j (h : j < ps.length), w.cell? ⟨gs, j, none⟩ = some (.pointer (some ⟨ps[j].1, ps[j].2, none⟩))) (hgs : gs ≠ ga ∧ ∀ x ∈ ps, gs ≠ x.1)
    (hR : numsS b ps.length p true = R) (hne : ∀ j (h : j < ps.length), ¬ (ga = ps[j].1 ∧ oa = ps[j].2)) (hap : ∀ i j (h : i < ps.length) (h2 : j < ps.length), i ≠ j → ps[i] ≠ ps[j]) :
    Calls Tryd.prog 48 #[v, .pointer (some ⟨ga, oa, none⟩), .slice (some ⟨gs, 0, none⟩) ps.length ps.length] w fun e w' => e = .returned (.bool R.2.2) ∧ Wr (Those ga oa ps) w w' ∧
      (R.2.2 = true → R.2.1 ≤ b.length ∧ Cell w' ga oa (.int .i64 (R.2.1 : Nat)) ∧ R.1.length = ps.length ∧ ∀ j (h : j < R.1.length) (h2 : j < ps.length), Cell w' ps[j].1 ps[j].2 (.int .i64 (R.1[j] : Nat))) := by
  subst hR
  exact takeNums_any b p v ga oa gs ps w hl hp hpl h ha hn hs hgs hne hap

end Go.Proofs.YtlfchmmkaflglaaDoor.fun

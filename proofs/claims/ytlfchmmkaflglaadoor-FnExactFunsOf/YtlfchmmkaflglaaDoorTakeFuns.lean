/-
  The program's takeFuns: functions are taken off the bytes.
-/
import Derived.Test.YtlfchmmkaflglaaDoorTakeFunRun
import Derived.Test.YtlfchmmkaflglaaDoorFunsBytesDefs
namespace Go.Proofs.YtlfchmmkaflglaaDoor.fun
open Go Go.RowKit Go.Proofs.YtlfchmmkaflglaaDoor.rose Go.Proofs.YtlfchmmkaflglaaDoor Go.Proofs.YtlfchmmkaflglaaDoor.byts
set_option linter.unusedVariables false
set_option linter.unusedSimpArgs false

theorem infoFunZ : (Tryd.prog.info? 45).map (fun i => (i.zero, i.size, i.bytes)) = some (some (.agg #[.int .i64 0, .slice none 0 0]), 2, 32) := by kernel_rfl
theorem make_funz (n : Nat) (h : n ≤ 60) (w : World) : (Instr.makeSlice 26 (.int .i64 (n : Int)) (.int .i64 (n : Int))).run Tryd.prog w = .ok (.slice (some ⟨w.heap.size, 0, none⟩) n n)
    (w.alloc (.cells (madeCells #[.int .i64 0, .slice none 0 0] (n * 2)) 45)) := by
  obtain ⟨i, hi, hzz⟩ := Option.map_eq_some_iff.1 infoFunZ
  simp only [Prod.mk.injEq] at hzz
  obtain ⟨hz, hs, hb⟩ := hzz
  have := run_make (P := Tryd.prog) w 26 45 i _ Tryd.underlying26 hi hz .i64 .i64 n n (by omega) (by omega) (by rw [hb]; omega) (by omega)
  simpa [hs, Value.cells] using this
theorem funsS_len (b : List Int) : ∀ (n p : Nat) (ok : Bool), (funsS b n p ok).2.2 = true → (funsS b n p ok).1.length = n
  | 0, _, _, _ => rfl
  | n + 1, p, true, h => by
    rw [funsS_step] at h ⊢
    dsimp only at h ⊢
    rw [List.length_cons, funsS_len b n _ _ h]
  | n + 1, p, false, h => by rw [funsS_off] at h; cases h
/-- What is right is not long. -/
theorem funs_short {ks : List FunD} (h : funsB ks = true) : ks.length ≤ 60 ∧ ∀ x ∈ ks, x.2.length ≤ 3000 :=
  ⟨(funs_len h).2, fun x hx => by obtain ⟨j, hj, rfl⟩ := List.getElem_of_mem hx; exact (fun_parts h hj).2.1.2⟩

/-- The cell that is written of what was there. -/
def One (ga k o : Nat) : Prop := k = ga ∧ o = 0
/-- What is held while functions are taken. -/
structure GI (b : List Int) (w wr : World) (ga gf n i p : Nat) (xs : List FunD) : Prop where
  old : Wg (One ga) w wr
  at_ : Cell wr ga 0 (.int .i64 (p : Nat))
  row : Grown funSp 45 wr w.heap.size (.slice (some ⟨gf, 0, none⟩) xs.length n) xs
  len : xs.length = i
  pl : p ≤ b.length
  all : allS b = (xs ++ (funsS b (n - i) p true).1, (funsS b (n - i) p true).2)
  shr : ∀ x ∈ xs, x.2.length ≤ 3000
theorem GI.step {b : List Int} {w wr w1 : World} {ga gf n i p : Nat} {xs : List FunD} (h : GI b w wr ga gf n i p xs) (hga : ga < w.heap.size) (hi : i < n) (hF : FR b wr w1 ga 0 gf (i * 2) p true) : GI b w w1 ga gf n (i + 1) (funZ b p).2.2.1 (xs ++ [((((funZ b p).1 : Nat) : Int), (funZ b p).2.1)]) := by
  have hgf := (h.row.own (g := gf) rfl).1
  have hlen := h.len
  obtain ⟨y1, y2, y3, y4, y5, y6, vl, y7, y8⟩ := hF.yes rfl
  refine ⟨h.old.trans hF.old fun k o hk e => ?_, y5, ?_, by rw [List.length_append, hlen]; rfl, y3, ?_, fun x hx => ?_⟩
  · rcases e with e | e
    · exact e
    · omega
  · refine h.row.put (lo := wr.heap.size) (hi := w1.heap.size) (cs := [.int .i64 ((funZ b p).1 : Nat), vl]) (by omega) hF.old (fun o e => ?_) (fun b' hb1 hb2 hb3 o e => ?_) (funp_shutv (by omega) y8) (fun j u hj => ?_) (Nat.le_refl _) (Nat.le_refl _)
    · show xs.length * 2 ≤ o
      rcases e with e | e <;> omega
    · rcases e with e | e <;> omega
    · show Cell _ gf (xs.length * 2 + j) u
      rw [hlen]
      match j, hj with
      | 0, hj => simp only [List.getElem?_cons_zero, Option.some.injEq] at hj; subst hj; exact y6
      | 1, hj => simp only [List.getElem?_cons_succ, List.getElem?_cons_zero, Option.some.injEq] at hj; subst hj; exact y7
      | _ + 2, hj => simp at hj
  · rw [h.all, show n - i = (n - (i + 1)) + 1 by omega, funsS_step, y1]; simp
  · rcases List.mem_append.1 hx with hx | hx
    · exact h.shr x hx
    · simp only [List.mem_singleton] at hx; subst hx; exact y2
theorem GI.no {b : List Int} {w wr w1 : World} {ga gf n i p : Nat} {xs : List FunD} (h : GI b w wr ga gf n i p xs) (hi : i < n) (hF : FR b wr w1 ga 0 gf (i * 2) p false) : (allS b).2.2 = false ∨ funsB (allS b).1 = false := by
  have ha := h.all
  rw [show n - i = (n - (i + 1)) + 1 by omega, funsS_step] at ha
  rcases hF.no rfl with q | q
  · left; rw [ha, q, funsS_off]
  · right
    rcases q2 : funsB (allS b).1 with _ | _
    · rfl
    · have := (funs_short q2).2 ((((funZ b p).1 : Nat) : Int), (funZ b p).2.1) (by rw [ha]; simp)
      dsimp only at this
      omega

/-- What is told of functions that were taken, or not. -/
structure GR (b : List Int) (w w' : World) (ga : Nat) (r : Bool) (vl : Value) : Prop where
  old : Wg (One ga) w w'
  no : r = false → (allS b).2.2 = false ∨ funsB (allS b).1 = false
  yes : r = true → (allS b).2.2 = true ∧ (allS b).2.1 ≤ b.length ∧ Cell w' ga 0 (.int .i64 ((allS b).2.1 : Nat)) ∧ Grown funSp 45 w' w.heap.size vl (allS b).1 ∧ (allS b).1.length ≤ 60 ∧ ∀ x ∈ (allS b).1, x.2.length ≤ 3000

set_option maxRecDepth 100000 in
set_option maxHeartbeats 16000000 in
theorem takeFuns_any (b : List Int) (v : Value) (ga : Nat) (w : World) (hl : b.length ≤ 1048576) (h : bytesSh.rep w (fun k => k < w.heap.size ∧ k ≠ ga) [v] b) (ha : Cell w ga 0 (.int .i64 0)) :
    Calls Tryd.prog 27 #[v, .pointer (some ⟨ga, 0, none⟩)] w fun e w' => ∃ r vl, e = .returned (.tuple #[vl, .bool r]) ∧ GR b w w' ga r vl := by
  obtain ⟨a, cap, hv⟩ : ∃ a c, v = .slice a b.length c := by obtain ⟨a, c, e⟩ := slice_cells h; simp only [List.cons.injEq, and_true] at e; exact ⟨a, c, e⟩
  subst hv
  have hga := ha.lt
  obtain ⟨W1, hW1⟩ : ∃ W1, W1 = w.alloc (.cells #[.int .i64 0] 3) := ⟨_, rfl⟩
  have hB1 : Below w.heap.size w W1 := by rw [hW1]; exact (Below.refl _ _).alloc (Nat.le_refl _) _
  have hM1 : Cell W1 w.heap.size 0 (.int .i64 0) := by rw [hW1]; exact Cell.new w _ #[.int .i64 0] 0 _ rfl
  have hs1 : W1.heap.size = w.heap.size + 1 := by rw [hW1]; simp
  have hcall := takeNum_any b 0 (.slice a b.length cap) (.int .i64 0) ga 0 w.heap.size 0 W1 hl (by omega) (by omega)
    (bytesSh.mono (bytesSh.on h fun k hk => hB1.block k hk.1) fun k hk => ⟨by omega, hk.2, Nat.ne_of_lt hk.1⟩) (ha.on hB1) hM1 (fun e => by omega)
  have HBY : Hid (bytesSh.rep w (fun k => k < w.heap.size ∧ k ≠ ga) [.slice a b.length cap] b) := h
  have HW1 : Hid (W1 = w.alloc (.cells #[.int .i64 0] 3)) := hW1
  have HTH : Hid (∀ w1, Wr (Two ga 0 w.heap.size 0) W1 w1 → Wg (One ga) w w1) := fun w1 hw => (Wg.ofBelow hB1).trans hw.wg fun k o hk e => by
    rcases e with e | e
    · exact e
    · omega
  clear h ha hM1 hB1 hW1
  rcases q5 : (getB b ((0 : Nat) : Int)).2.2 with _ | _
  · have HNO : Hid ((allS b).2.2 = false) := by show _ = _; unfold allS; rw [numS_no q5]; rfl
    rw [show (getB b 0).2.2 = false from q5] at hcall
    clear q5
    go_enter Tryd.func27, Tryd.ntmps27
    go_wp2_with fail
    rw [← HW1.out]
    refine hcall.mono ?_
    rintro e w1 ⟨rfl, z, n, hT, -⟩
    have HG : Hid (GR b w w1 ga false (.slice none 0 0)) := ⟨HTH.out w1 hT.old, fun _ => .inl HNO.out, fun e => by cases e⟩
    clear hcall hT
    go_wp2
    go_ret2
    exact ⟨false, _, rfl, HG.out⟩
  · obtain ⟨n, j, hg, h3, h4, h5⟩ := getB_yes q5
    have HALL : Hid (allS b = funsS b n j true) := by show _ = _; unfold allS; rw [numS_yes hg]
    have hg0 : getB b 0 = ((n : Int), (j : Int), true) := hg
    rw [hg0] at hcall
    dsimp only at hcall
    have HG0 : Hid (getB b 0 = ((n : Int), (j : Int), true)) := hg0
    clear q5 hg hg0
    go_enter Tryd.func27, Tryd.ntmps27
    go_wp2_with fail
    rw [← HW1.out]
    refine hcall.mono ?_
    rintro e w1 ⟨rfl, z, n', hT, hK⟩
    have hK2 := hK (by rw [HG0.out])
    rw [HG0.out] at hK2
    dsimp only at hK2
    obtain ⟨rfl, rfl⟩ := hK2
    have m0 : w1.cell? ⟨w.heap.size, 0, none⟩ = some (.int .i64 (n : Int)) := hT.num.cell
    have HSZ : Hid (w1.heap.size = w.heap.size + 1) := by show _ = _; rw [hT.old.size, hs1]
    have W1o : Hid (Wg (One ga) w w1) := HTH.out w1 hT.old
    have A1 : Hid (Cell w1 ga 0 (.int .i64 (j : Nat))) := hT.at_
    clear hcall hK hT hs1
    by_cases h6 : n ≤ 60
    · have t3 : decide ((60 : Int) < (n : Int)) = false := by simp; omega
      have hmk := make_funz n h6
      have F0 : Hid (GI b w (w1.alloc (.cells (madeCells #[.int .i64 0, .slice none 0 0] (n * 2)) 45)) ga w1.heap.size n 0 j []) :=
        ⟨W1o.out.alloc _, A1.out.on ((Below.refl _ _).alloc (Nat.le_refl _) _), Grown.made funSp _ w1 _ n (by unfold maxLen; omega) (by have := HSZ.out; omega), rfl, h4, by rw [HALL.out]; simp, fun x hx => by cases hx⟩
      go_wp2
      clear m0
      obtain ⟨gf, HGF⟩ : ∃ gf, Hid (w1.heap.size = gf) := ⟨_, rfl⟩
      rw [HGF.out] at F0 ⊢
      go_loopw [21] (fun v21 wr => ∃ (i p : Nat) (xs : List FunD), i ≤ n ∧ v21 = .int .i64 i ∧ p ≤ b.length ∧ Hid (GI b w wr ga gf n i p xs)) (fun v21 _ => n - (intOf v21).toNat)
      case atStart => exact ⟨0, j, [], Nat.zero_le _, rfl, h4, F0.out⟩
      case round =>
        obtain ⟨i, p, xs, hi, rfl, hp, HI⟩ := hrel
        by_cases hlt : i < n
        · have hO := HI.out.row.own (g := gf) rfl
          obtain ⟨u0, hu0⟩ := HI.out.row.spare (o := i * 2) (by show _ < n * 2; omega)
          obtain ⟨u1, hu1⟩ := HI.out.row.spare (o := i * 2 + 1) (by show _ < n * 2; omega)
          have hcall := takeFun_any b p (.slice a b.length cap) u0 u1 ga 0 gf (i * 2) wr hl hp
            (bytesSh.mono (bytesSh.on HBY.out fun k' hk' => HI.out.old.block k' hk'.1 fun o e => hk'.2 e.1) fun k' hk' => ⟨Nat.lt_of_lt_of_le hk'.1 HI.out.old.size, hk'.2, by omega⟩) HI.out.at_ hu0 hu1 (by omega)
          have hltI : (i : Int) < (n : Int) := by omega
          clear hu0 hu1
          go_wp2_with fail
          refine hcall.mono ?_
          rintro e w2 ⟨r, rfl, hF⟩
          cases r with
          | false =>
            have HG : Hid (GR b w w2 ga false (.slice none 0 0)) := ⟨HI.out.old.trans hF.old fun k o hk e => e.elim (fun e => e) fun e => by omega, fun _ => HI.out.no hlt hF, fun e => by cases e⟩
            clear hF hcall
            go_wp2
            go_ret2
            exact ⟨false, _, rfl, HG.out⟩
          | true =>
            have hp2 : (funZ b p).2.2.1 ≤ b.length := (hF.yes rfl).2.2.1
            have NX : Hid (GI b w w2 ga gf n (i + 1) (funZ b p).2.2.1 (xs ++ [((((funZ b p).1 : Nat) : Int), (funZ b p).2.1)])) := HI.out.step hga hlt hF
            clear hF hcall
            go_wp2
            go_round
            case rel => exact ⟨i + 1, _, _, by omega, by go_num, hp2, NX⟩
            case measure => simp [intOf]; omega
        · obtain rfl : i = n := by omega
          have HG : Hid (GR b w wr ga true (.slice (some ⟨gf, 0, none⟩) i i)) := by
            have hf := HI.out.all
            rw [Nat.sub_self] at hf
            have hz : allS b = (xs, p, true) := by rw [hf]; simp [funsS]
            refine ⟨HI.out.old, fun e => (by cases e), fun _ => ?_⟩
            rw [hz]
            have hr := HI.out.row
            rw [HI.out.len] at hr
            exact ⟨rfl, hp, HI.out.at_, hr, by rw [HI.out.len]; exact h6, HI.out.shr⟩
          go_wp2
          go_ret2
          exact ⟨true, _, rfl, HG.out⟩
    · have t3 : decide ((60 : Int) < (n : Int)) = true := by simp; omega
      have HG : Hid (GR b w w1 ga false (.slice none 0 0)) := ⟨W1o.out, fun _ => by
        rcases q : (allS b).2.2 with _ | _
        · exact .inl rfl
        · right
          rcases q2 : funsB (allS b).1 with _ | _
          · rfl
          · have := (funs_short q2).1
            rw [HALL.out] at q this
            rw [funsS_len b _ _ _ q] at this
            omega, fun e => by cases e⟩
      go_wp2
      go_ret2
      exact ⟨false, _, rfl, HG.out⟩

end Go.Proofs.YtlfchmmkaflglaaDoor.fun

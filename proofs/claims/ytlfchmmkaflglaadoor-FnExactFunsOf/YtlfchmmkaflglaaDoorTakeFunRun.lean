/-
  The program's takeFun, at all bytes and places.
-/
import Derived.Test.YtlfchmmkaflglaaDoorTakeFun
import Derived.WalkSmall
import Derived.BigQuiet
namespace Go.Proofs.YtlfchmmkaflglaaDoor.fun
open Go Go.RowKit Go.Proofs.YtlfchmmkaflglaaDoor.rose Go.Proofs.YtlfchmmkaflglaaDoor Go.Proofs.YtlfchmmkaflglaaDoor.byts
set_option linter.unusedVariables false
set_option linter.unusedSimpArgs false

/-- What is told of a function that was taken, or not. -/
structure FR (b : List Int) (w w' : World) (ga oa gf of_ p : Nat) (r : Bool) : Prop where
  old : Wg (Three ga oa gf of_) w w'
  no : r = false → (funZ b p).2.2.2 = false ∨ 3000 < (funZ b p).2.1.length
  yes : r = true → (funZ b p).2.2.2 = true ∧ (funZ b p).2.1.length ≤ 3000 ∧ (funZ b p).2.2.1 ≤ b.length ∧ (funZ b p).1 ≤ 2147483647 ∧ Cell w' ga oa (.int .i64 ((funZ b p).2.2.1 : Nat)) ∧ Cell w' gf of_ (.int .i64 ((funZ b p).1 : Nat)) ∧
    ∃ vl, Cell w' gf (of_ + 1) vl ∧ op.opSp.sslice.rep w' (fun k => w.heap.size ≤ k ∧ k < w'.heap.size) [vl] (funZ b p).2.1

theorem numsS2 (b : List Int) (p : Nat) : numsS b 2 p true = ([(numS b p true).1, (numS b (numS b p true).2.1 (numS b p true).2.2).1], (numS b (numS b p true).2.1 (numS b p true).2.2).2) := rfl
theorem numsS3_in {b : List Int} {q : Nat} (hq : q ≤ b.length) : ∃ c nn m q2 r, numsS b 3 q true = ([c, nn, m], q2, r) ∧ c ≤ 2147483647 ∧ nn ≤ 2147483647 ∧ m ≤ 2147483647 := by
  have h1 := numS_in b q true hq
  have h2 := numS_in b (numS b q true).2.1 (numS b q true).2.2 h1.2.2.1
  have h3 := numS_in b (numS b (numS b q true).2.1 (numS b q true).2.2).2.1 (numS b (numS b q true).2.1 (numS b q true).2.2).2.2 h2.2.2.1
  exact ⟨_, _, _, _, _, rfl, h1.1, h2.1, h3.1⟩

set_option maxRecDepth 100000 in
set_option maxHeartbeats 16000000 in
theorem takeFun_any (b : List Int) (p : Nat) (v u0 u1 : Value) (ga oa gf of_ : Nat) (w : World) (hl : b.length ≤ 1048576) (hp : p ≤ b.length) (h : bytesSh.rep w (fun k => k < w.heap.size ∧ k ≠ ga ∧ k ≠ gf) [v] b)
    (ha : Cell w ga oa (.int .i64 (p : Nat))) (h0 : Cell w gf of_ u0) (h1 : Cell w gf (of_ + 1) u1) (hne : ga ≠ gf) :
    Calls Tryd.prog 37 #[v, .pointer (some ⟨ga, oa, none⟩), .pointer (some ⟨gf, of_, none⟩)] w fun e w' => ∃ r, e = .returned (.bool r) ∧ FR b w w' ga oa gf of_ p r := by
  obtain ⟨a, cap, hv⟩ : ∃ a c, v = .slice a b.length c := by obtain ⟨a, c, e⟩ := slice_cells h; simp only [List.cons.injEq, and_true] at e; exact ⟨a, c, e⟩
  subst hv
  have hga := ha.lt
  have hgf := h0.lt
  obtain ⟨W1, hW1⟩ : ∃ W1, W1 = (w.alloc (.cells #[.int .i64 0] 3)).alloc (.cells #[.pointer (some ⟨gf, of_, none⟩), .pointer (some ⟨w.heap.size, 0, none⟩)] 57) := ⟨_, rfl⟩
  have hB0 : Below w.heap.size w (w.alloc (.cells #[.int .i64 0] 3)) := (Below.refl _ _).alloc (Nat.le_refl _) _
  have hB1 : Below w.heap.size w W1 := by rw [hW1]; exact hB0.alloc (by simp) _
  have hM1 : Cell W1 w.heap.size 0 (.int .i64 0) := by rw [hW1]; exact (Cell.new w _ #[.int .i64 0] 0 _ rfl).on ((Below.refl _ _).alloc (Nat.le_refl _) _)
  have hs1 : W1.heap.size = w.heap.size + 2 := by rw [hW1]; simp
  have N1 := numS_in b p true hp
  have N2 := numS_in b (numS b p true).2.1 (numS b p true).2.2 N1.2.2.1
  have HZ : Hid (funZ b p = ((numS b p true).1, opsS b (numS b (numS b p true).2.1 (numS b p true).2.2).1 (numS b (numS b p true).2.1 (numS b p true).2.2).2.1 (numS b (numS b p true).2.1 (numS b p true).2.2).2.2)) := rfl
  obtain ⟨x1, p1, k1, hX⟩ : ∃ x y z, numS b p true = (x, y, z) := ⟨_, _, _, rfl⟩
  rw [hX] at N1 N2 HZ
  dsimp only at N1 N2 HZ
  obtain ⟨y1, p2, k2, hY⟩ : ∃ x y z, numS b p1 k1 = (x, y, z) := ⟨_, _, _, rfl⟩
  rw [hY] at N2 HZ
  dsimp only at N2 HZ
  have hcall := takeNums_is ([x1, y1], p2, k2) b p (.slice a b.length cap) ga oa (w.heap.size + 1) [(gf, of_), (w.heap.size, 0)] W1 hl hp (by simp)
    (bytesSh.mono (bytesSh.on h fun k hk => hB1.block k hk.1) fun k hk => ⟨by omega, hk.2.1, fun x hx => by
      simp only [List.mem_cons, List.not_mem_nil, or_false] at hx
      rcases hx with rfl | rfl
      · exact hk.2.2
      · exact Nat.ne_of_lt hk.1⟩)
    (ha.on hB1) (fun j hj => match j, hj with | 0, _ => ⟨_, h0.on hB1⟩ | 1, _ => ⟨_, hM1⟩)
    (fun j hj => by
      have hc := alloc_top (w.alloc (.cells #[.int .i64 0] 3)) (.cells #[.pointer (some ⟨gf, of_, none⟩), .pointer (some ⟨w.heap.size, 0, none⟩)] 57)
      rw [← hW1, World.size_alloc] at hc
      match j, hj with
      | 0, _ => simp [World.cell?, hc]
      | 1, _ => simp [World.cell?, hc])
    ⟨by omega, fun x hx => by
      simp only [List.mem_cons, List.not_mem_nil, or_false] at hx
      rcases hx with rfl | rfl <;> dsimp only <;> omega⟩
    (by show numsS b 2 p true = _; rw [numsS2, hX]; dsimp only; rw [hY])
    (fun j hj => match j, hj with | 0, _ => fun e => hne e.1 | 1, _ => fun e => by have := e.1; dsimp only [List.getElem_cons_succ, List.getElem_cons_zero] at this; omega)
    (fun i j hi hj hij => by
      match i, hi, j, hj with
      | 0, _, 0, _ => exact absurd rfl hij
      | 0, _, 1, _ => intro e; simp only [List.getElem_cons_zero, List.getElem_cons_succ, Prod.mk.injEq] at e; omega
      | 1, _, 0, _ => intro e; simp only [List.getElem_cons_zero, List.getElem_cons_succ, Prod.mk.injEq] at e; omega
      | 1, _, 1, _ => exact absurd rfl hij)
  have hx31 : x1 ≤ 2147483647 := N1.1
  have hy31 : y1 ≤ 2147483647 := N2.1
  have hp2 : p2 ≤ b.length := N2.2.2.1
  have HW1 : Hid (W1 = (w.alloc (.cells #[.int .i64 0] 3)).alloc (.cells #[.pointer (some ⟨gf, of_, none⟩), .pointer (some ⟨w.heap.size, 0, none⟩)] 57)) := hW1
  have HB1 : Hid (Below w.heap.size w W1) := hB1
  have HA1 : Hid (Cell W1 ga oa (.int .i64 (p : Nat)) ∧ Cell W1 gf of_ u0 ∧ Cell W1 gf (of_ + 1) u1) := ⟨ha.on hB1, h0.on hB1, h1.on hB1⟩
  have HBY : Hid (bytesSh.rep w (fun k => k < w.heap.size ∧ k ≠ ga ∧ k ≠ gf) [.slice a b.length cap] b) := h
  have HTH : Hid (∀ w1, Wr (Those ga oa [(gf, of_), (w.heap.size, 0)]) W1 w1 → Wg (Three ga oa gf of_) w w1) := fun w1 hw => (Wg.ofBelow hB1).trans hw.wg fun k o hk e => by
    rcases e with e | e
    · exact .inl e
    · simp only [List.mem_cons, Prod.mk.injEq, List.not_mem_nil, or_false] at e
      rcases e with e | e
      · exact .inr ⟨e.1, .inl e.2⟩
      · omega
  clear h ha h0 h1 hW1 hB0 hB1 hM1 N1 N2 hX hY
  go_enter Tryd.func37, Tryd.ntmps37
  go_wp2_with fail
  rw [← HW1.out]
  refine hcall.mono ?_
  rintro e w1 ⟨rfl, hT, hK⟩
  have W1o : Hid (Wg (Three ga oa gf of_) w w1) := HTH.out w1 hT
  have HSZ : Hid (w1.heap.size = w.heap.size + 2) := by show _ = _; rw [hT.size, hs1]
  clear hs1
  cases k2 with
  | false =>
    have HF : Hid (FR b w w1 ga oa gf of_ p false) := ⟨W1o.out, fun _ => .inl (by rw [HZ.out]; dsimp only; rw [opsS_off]), fun e => by cases e⟩
    clear hcall hT hK
    go_wp2
    go_ret
    exact ⟨false, rfl, HF.out⟩
  | true =>
    obtain ⟨-, ca, -, hj⟩ := hK rfl
    have cf := hj 0 (by simp) (by simp)
    have cm := hj 1 (by simp) (by simp)
    simp only [List.getElem_cons_zero, List.getElem_cons_succ] at cf cm
    have cl : Cell w1 gf (of_ + 1) u1 := HA1.out.2.2.wr hT fun e => by
      rcases e with e | e
      · exact hne e.1.symm
      · simp only [List.mem_cons, Prod.mk.injEq, List.not_mem_nil, or_false] at e; omega
    have m0 : w1.cell? ⟨w.heap.size, 0, none⟩ = some (.int .i64 (y1 : Nat)) := cm.cell
    clear hcall hK hj
    by_cases h3 : y1 ≤ 3000
    · have t3 : decide ((3000 : Int) < (y1 : Int)) = false := by simp; omega
      have hmk := make_opz y1 h3
      obtain ⟨W2, hW2⟩ : ∃ W2, W2 = w1.alloc (.cells (madeCells #[.int .i64 0, .int .i64 0, .int .i64 0] (y1 * 3)) 47) := ⟨_, rfl⟩
      have hB2 : Below w1.heap.size w1 W2 := by rw [hW2]; exact (Below.refl _ _).alloc (Nat.le_refl _) _
      have HW2 : Hid (w1.alloc (.cells (madeCells #[.int .i64 0, .int .i64 0, .int .i64 0] (y1 * 3)) 47) = W2) := hW2.symm
      have cl2 := cl.on hB2
      have c2 : (w1.alloc (.cells (madeCells #[.int .i64 0, .int .i64 0, .int .i64 0] (y1 * 3)) 47)).cell? ⟨gf, of_ + 1, none⟩ = some u1 := by rw [HW2.out]; exact cl2.cell
      have f2 : (w1.alloc (.cells (madeCells #[.int .i64 0, .int .i64 0, .int .i64 0] (y1 * 3)) 47)).frozen? ⟨gf, of_ + 1, none⟩ = false := by rw [HW2.out]; exact cl2.frz
      have hsl3 := cl2.set (.slice (some ⟨w1.heap.size, 0, none⟩) y1 y1)
      have c3 : ((w1.alloc (.cells (madeCells #[.int .i64 0, .int .i64 0, .int .i64 0] (y1 * 3)) 47)).setCell ⟨gf, of_ + 1, none⟩ (.slice (some ⟨w1.heap.size, 0, none⟩) y1 y1)).cell? ⟨gf, of_ + 1, none⟩ = some (.slice (some ⟨w1.heap.size, 0, none⟩) y1 y1) := by rw [HW2.out]; exact hsl3.cell
      have F0 : Hid (FI b w ((w1.alloc (.cells (madeCells #[.int .i64 0, .int .i64 0, .int .i64 0] (y1 * 3)) 47)).setCell ⟨gf, of_ + 1, none⟩ (.slice (some ⟨w1.heap.size, 0, none⟩) y1 y1)) ga oa gf of_ w1.heap.size x1 y1 p2 0 p2 []) := by
        rw [HW2.out]
        refine ⟨(W1o.out.trans (T := Three ga oa gf of_) (Wg.ofBelow hB2) fun _ _ _ q => q).set _ _ _ fun _ => .inr ⟨rfl, .inr rfl⟩, (ca.on hB2).other _ fun e => hne e.1, (cf.on hB2).other _ fun e => by omega, hsl3, ?_, rfl, hp2, by simp⟩
        have hg : Grown op.opSp 47 W2 w.heap.size (.slice (some ⟨w1.heap.size, 0, none⟩) 0 y1) [] := by rw [hW2]; exact Grown.made op.opSp _ w1 _ y1 (by unfold maxLen; omega) (by have := HSZ.out; omega)
        exact hg.on (by simp [World.setCell]) fun k hk1 hk2 => Below.heap_setCell _ _ _ _ (show k ≠ gf by omega)
      clear ca cf cm cl hT cl2 hsl3 hW2 hB2
      go_wp2
      clear c2 f2 c3 m0
      obtain ⟨ob, HOB⟩ : ∃ ob, Hid (ob = w1.heap.size) := ⟨_, rfl⟩
      go_loopw [32] (fun v32 wr => ∃ (k q : Nat) (os : List op.OpD), k ≤ y1 ∧ v32 = .int .i64 k ∧ q ≤ b.length ∧ Hid (FI b w wr ga oa gf of_ ob x1 y1 p2 k q os)) (fun v32 _ => y1 - (intOf v32).toNat)
      case atStart => exact ⟨0, p2, [], Nat.zero_le _, rfl, hp2, by rw [HOB.out]; exact F0.out⟩
      case round =>
        obtain ⟨k, q, os, hk, rfl, hq, HF⟩ := hrel
        by_cases hlt : k < y1
        · have cl : wr.cell? ⟨gf, of_ + 1, none⟩ = some (.slice (some ⟨ob, 0, none⟩) y1 y1) := HF.out.lst.cell
          have hO := HF.out.row.own (g := ob) rfl
          obtain ⟨c, nn, m, q2, r, hS, hc1, hc2, hc3⟩ := numsS3_in hq
          have hgw : ga < wr.heap.size := HF.out.at_.lt
          have hfw : gf < wr.heap.size := HF.out.fre.lt
          obtain ⟨W, hW⟩ : ∃ W, W = (wr.alloc (.cells #[.pointer (some ⟨ob, k * 3, none⟩), .pointer (some ⟨ob, k * 3 + 1, none⟩), .pointer (some ⟨ob, k * 3 + 2, none⟩)] 57)).drew := ⟨_, rfl⟩
          have hB : Below wr.heap.size wr W := by rw [hW]; exact ((Below.refl _ wr).alloc (Nat.le_refl _) _).drew
          have hsp : ∀ o, o < y1 * 3 → ∃ u, Cell W ob o u := fun o ho => by obtain ⟨u, hu⟩ := HF.out.row.spare (o := o) ho; exact ⟨u, hu.on hB⟩
          have hWs : W.heap.size = wr.heap.size + 1 := by rw [hW]; simp
          have hcall := takeNums_is ([c, nn, m], q2, r) b q (.slice a b.length cap) ga oa wr.heap.size (placeOf ob k) W hl hq (by simp [placeOf])
            (bytesSh.mono (bytesSh.on HBY.out fun k' hk' => (hB.block k' (Nat.lt_of_lt_of_le hk'.1 HF.out.old.size)).trans (HF.out.old.block k' hk'.1 fun o e => by rcases e with e | e <;> omega)) fun k' hk' => ⟨by have := HF.out.old.size; omega, hk'.2.1, fun x hx => by
              simp only [placeOf, List.mem_cons, List.not_mem_nil, or_false] at hx
              rcases hx with rfl | rfl | rfl <;> dsimp only <;> omega⟩)
            (HF.out.at_.on hB) (fun j hj => match j, hj with | 0, _ => show ∃ u, Cell W ob (k * 3) u from hsp _ (by omega) | 1, _ => show ∃ u, Cell W ob (k * 3 + 1) u from hsp _ (by omega) | 2, _ => show ∃ u, Cell W ob (k * 3 + 2) u from hsp _ (by omega))
            (fun j hj => by
              have hc := alloc_top wr (.cells #[.pointer (some ⟨ob, k * 3, none⟩), .pointer (some ⟨ob, k * 3 + 1, none⟩), .pointer (some ⟨ob, k * 3 + 2, none⟩)] 57)
              have hc' : W.heap[wr.heap.size]? = some (.cells #[.pointer (some ⟨ob, k * 3, none⟩), .pointer (some ⟨ob, k * 3 + 1, none⟩), .pointer (some ⟨ob, k * 3 + 2, none⟩)] 57) := by rw [hW]; exact hc
              match j, hj with
              | 0, _ => simp [World.cell?, hc', placeOf]
              | 1, _ => simp [World.cell?, hc', placeOf]
              | 2, _ => simp [World.cell?, hc', placeOf])
            ⟨by omega, fun x hx => by
              simp only [placeOf, List.mem_cons, List.not_mem_nil, or_false] at hx
              rcases hx with rfl | rfl | rfl <;> dsimp only <;> omega⟩ hS
            (fun j hj e => by
              have e1 := e.1
              match j, hj with
              | 0, _ => simp only [placeOf, List.getElem_cons_zero] at e1; omega
              | 1, _ => simp only [placeOf, List.getElem_cons_zero, List.getElem_cons_succ] at e1; omega
              | 2, _ => simp only [placeOf, List.getElem_cons_zero, List.getElem_cons_succ] at e1; omega)
            (fun i j hi hj hij e => by
              match i, hi, j, hj with
              | 0, _, 0, _ => exact absurd rfl hij
              | 0, _, 1, _ => simp only [placeOf, List.getElem_cons_zero, List.getElem_cons_succ, Prod.mk.injEq] at e; omega
              | 0, _, 2, _ => simp only [placeOf, List.getElem_cons_zero, List.getElem_cons_succ, Prod.mk.injEq] at e; omega
              | 1, _, 0, _ => simp only [placeOf, List.getElem_cons_zero, List.getElem_cons_succ, Prod.mk.injEq] at e; omega
              | 1, _, 1, _ => exact absurd rfl hij
              | 1, _, 2, _ => simp only [placeOf, List.getElem_cons_zero, List.getElem_cons_succ, Prod.mk.injEq] at e; omega
              | 2, _, 0, _ => simp only [placeOf, List.getElem_cons_zero, List.getElem_cons_succ, Prod.mk.injEq] at e; omega
              | 2, _, 1, _ => simp only [placeOf, List.getElem_cons_zero, List.getElem_cons_succ, Prod.mk.injEq] at e; omega
              | 2, _, 2, _ => exact absurd rfl hij)
          have HW : Hid ((wr.alloc (.cells #[.pointer (some ⟨ob, k * 3, none⟩), .pointer (some ⟨ob, k * 3 + 1, none⟩), .pointer (some ⟨ob, k * 3 + 2, none⟩)] 57)).drew = W) := hW.symm
          have HB : Hid (Below wr.heap.size wr W) := hB
          have HS : Hid (numsS b 3 q true = ([c, nn, m], q2, r)) := hS
          clear hW hB hsp hS hWs
          have hkI : (k : Int) < (y1 : Int) := by omega
          have HTW : Hid (∀ w2, Wr (Those ga oa (placeOf ob k)) W w2 → Wg (Three ga oa gf of_) w w2) := fun w2 hw => (HF.out.old.trans (T := Three ga oa gf of_) (Wg.ofBelow HB.out) fun _ _ _ q => q).trans hw.wg fun k' o hk' e => by
            rcases e with e | e
            · exact .inl e
            · simp only [placeOf, List.mem_cons, Prod.mk.injEq, List.not_mem_nil, or_false] at e
              omega
          cases r with
          | false =>
            have HNO : Hid ((funZ b p).2.2.2 = false) := by
              show _ = _
              rw [HZ.out]
              dsimp only
              rw [HF.out.all, show y1 - k = (y1 - (k + 1)) + 1 by omega, opsS_one b _ q c nn m q2 false HS.out, opsS_off]
            go_wp2
            go_region_with (go_at_call 48; rw [HW.out]; refine hcall.mono ?_; rintro e w2 ⟨rfl, hT2, hK2⟩)
            all_goals
              have HFR : Hid (FR b w w2 ga oa gf of_ p false) := ⟨HTW.out w2 hT2, fun _ => .inl HNO.out, fun e => by cases e⟩
              clear hT2 hK2 hcall
              go_wp2
              go_ret
              exact ⟨false, rfl, HFR.out⟩
          | true =>
            have hadd : IntKind.i64.wrap ((nn : Int) + -1073741824) = (nn : Int) - 1073741824 := by rw [IntKind.wrap_i64]; omega
            go_wp2
            go_region_with (go_at_call 48; rw [HW.out]; refine hcall.mono ?_; rintro e w2 ⟨rfl, hT2, hK2⟩)
            all_goals
              obtain ⟨hq2, ca2, -, hj⟩ := hK2 (by first | trivial | rfl)
              have c0 : Cell w2 ob (k * 3) (.int .i64 (c : Nat)) := hj 0 (by simp) (by simp [placeOf])
              have c1 : Cell w2 ob (k * 3 + 1) (.int .i64 (nn : Nat)) := hj 1 (by simp) (by simp [placeOf])
              have c2 : Cell w2 ob (k * 3 + 2) (.int .i64 (m : Nat)) := hj 2 (by simp) (by simp [placeOf])
              (try dsimp only at hq2 ca2)
              have NX : Hid (FI b w (w2.setCell ⟨ob, k * 3 + 1, none⟩ (.int .i64 ((nn : Int) - 1073741824))) ga oa gf of_ ob x1 y1 p2 (k + 1) q2 (os ++ [((c : Int), (nn : Int) - 1073741824, (m : Int))])) := HF.out.step hga hgf hne hlt HB.out hT2 ca2 c0 c1 c2 HS.out hq2 ⟨hc1, hc2, hc3⟩
              have d1 : w2.cell? ⟨ob, k * 3 + 1, none⟩ = some (.int .i64 (nn : Nat)) := c1.cell
              have f1 : w2.frozen? ⟨ob, k * 3 + 1, none⟩ = false := c1.frz
              clear hT2 hK2 hcall hj ca2 c0 c1 c2
              go_wp2
              go_round
              case rel => exact ⟨k + 1, q2, _, by omega, by go_num, hq2, NX⟩
              case measure => simp [intOf]; omega
        · obtain rfl : k = y1 := by omega
          have HFR : Hid (FR b w wr ga oa gf of_ p true) := by
            have hf := HF.out.all
            rw [Nat.sub_self] at hf
            have hz : funZ b p = (x1, os, q, true) := by rw [HZ.out, hf]; simp [opsS]
            refine ⟨HF.out.old, fun e => (by cases e), fun _ => ?_⟩
            rw [hz]
            dsimp only
            refine ⟨rfl, by rw [HF.out.len]; exact h3, hq, hx31, HF.out.at_, HF.out.fre, _, HF.out.lst, ?_⟩
            have := HF.out.row.sslice (by decide)
            rw [HF.out.len] at this
            exact this
          go_wp2
          go_ret
          exact ⟨true, rfl, HFR.out⟩
    · have t3 : decide ((3000 : Int) < (y1 : Int)) = true := by simp; omega
      have HF : Hid (FR b w w1 ga oa gf of_ p false) := ⟨W1o.out, fun _ => by
        rcases q : (funZ b p).2.2.2 with _ | _
        · exact .inl rfl
        · right
          rw [HZ.out] at q ⊢
          dsimp only at q ⊢
          rw [opsS_len b _ _ _ q]; omega, fun e => by cases e⟩
      clear ca cf cm cl hT
      go_wp2
      go_ret
      exact ⟨false, rfl, HF.out⟩

end Go.Proofs.YtlfchmmkaflglaaDoor.fun

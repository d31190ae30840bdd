/-
  The program's okAlone and TyOk, at every type; nothing that was there is turned.
-/
import Derived.Test.YtfekbchmgnpkaaaTySizeSpec
import Derived.Test.YtfekbchmgnpkaaaTysOfIn
namespace Go.Proofs.Ytfekbchmgnpkaaa.ty
open Go.RowKit Go.Shelf Go.Proofs.Ytfekbchmgnpkaaa.rose Go.Proofs.Ytfekbchmgnpkaaa.rangeb Go.Proofs.Ytfekbchmgnpkaaa
set_option linter.unusedVariables false
set_option linter.unusedSimpArgs false

def aloneT (T : TyD) : Bool := aloneA T.x.1 T.x.2.1 T.x.2.2 T.kids.length

theorem right_all (T : TyD) : right T = (allT T).all aloneT := by
  induction T using ind with
  | h x ks ih =>
    obtain ⟨op, n, s⟩ := x
    have : rights ks = (allS ks).all aloneT := by
      clear op n s
      induction ks with
      | nil => simp [rights, allS]
      | cons k ks ih2 =>
        have h1 := ih k (by simp)
        have h2 := ih2 fun q hq => ih q (by simp [hq])
        simp [rights, allS, h1, h2, Bool.and_comm]
    simp [right, allT, this, aloneT, Rose.x, Rose.kids, Bool.and_comm]

set_option maxHeartbeats 4000000 in
theorem okAlone_any (op n : Int) (s : ByteArray) (a : Option Addr) (k c : Nat) (hk : k ≤ maxLen) (w : World) :
    Calls Try.prog 41 #[.agg #[.int .i64 op, .int .i64 n, .string s, .slice a k c]] w fun e w' => e = .returned (.bool (aloneA op n s k)) ∧ Below w.heap.size w w' := by
  have hkm : (k : Int) ≤ 9223372036854775807 := by unfold maxLen at hk; omega
  obtain ⟨q, hq⟩ : ∃ q, q = aloneA op n s k := ⟨_, rfl⟩
  have HQ : Hid (q = aloneA op n s k) := hq
  rw [← hq]
  clear hq hk
  by_cases o1 : op = 1
  · subst o1
    go_enter Try.func41, Try.ntmps41
    go_wp2
    all_goals
      go_ret
      refine ⟨ret_bool ?_, (Below.refl _ _).alloc (Nat.le_refl _) _⟩
      rw [HQ.out]
      simp_all [aloneA]
  · by_cases o2 : op = 2
    · subst o2
      go_enter Try.func41, Try.ntmps41
      go_wp2
      all_goals
        go_ret
        refine ⟨ret_bool ?_, (Below.refl _ _).alloc (Nat.le_refl _) _⟩
        rw [HQ.out]
        simp_all [aloneA]
        try (intro h1; omega)
    · by_cases o3 : op = 3
      · subst o3
        go_enter Try.func41, Try.ntmps41
        go_wp2
        all_goals
          go_ret
          refine ⟨ret_bool ?_, (Below.refl _ _).alloc (Nat.le_refl _) _⟩
          rw [HQ.out]
          simp_all [aloneA]
      · by_cases o4 : op = 4
        · subst o4
          go_enter Try.func41, Try.ntmps41
          go_wp2
          all_goals
            go_ret
            refine ⟨ret_bool ?_, (Below.refl _ _).alloc (Nat.le_refl _) _⟩
            rw [HQ.out]
            simp_all [aloneA]
        · go_enter Try.func41, Try.ntmps41
          go_wp2
          go_ret
          exact ⟨ret_bool (by rw [HQ.out]; simp [aloneA, o1, o2, o3, o4]), (Below.refl _ _).alloc (Nat.le_refl _) _⟩

theorem box_new (w : World) (v : Value) (t : TypeId) : (w.alloc (.cells #[v] t)).cell? ⟨w.heap.size, 0, none⟩ = some v ∧ (w.alloc (.cells #[v] t)).frozen? ⟨w.heap.size, 0, none⟩ = false := by constructor <;> simp

attribute [local go_sem] Oper.semAt_some

set_option maxRecDepth 100000 in
set_option maxHeartbeats 2000000 in
theorem implTyOk (T : TyD) (cs : List Value) (w : World) (hw : wt T ≤ 1048576) (h : tySh.rep w (· < w.heap.size) cs T) :
    Calls Try.prog 15 #[.agg cs.toArray] w fun e w' => e = .returned (.bool (tyOkB T)) ∧ Below w.heap.size w w' := by
  refine (callsIn_wide (n := 5)).1 ?_
  obtain ⟨v0, v1, v2, v3, rfl⟩ := ty_list h
  have o0 := tySh.one h v0 (by simp)
  have o1 := tySh.one h v1 (by simp)
  have o2 := tySh.one h v2 (by simp)
  have o3 := tySh.one h v3 (by simp)
  have HR : Hid _ := h
  clear h
  refine callsIn_of_wp_marks Try.func15 rfl trivial ?_ rfl
  simp only [Try.ntmps15, List.size_toArray, List.length_cons, List.length_nil, Nat.reduceAdd, Nat.reduceSub, Array.replicate_succ, Array.replicate_zero, List.push_toArray, List.append_toArray, List.nil_append, List.cons_append]
  gi_wp2_with (refine ⟨trivial, ?_⟩; gi_at_call 38; refine (tysOf_in Fence.wide _ trivial rfl v0 v1 v2 v3 _ o0 o1 o2 o3).mono ?_; rintro e w' ⟨rfl, rfl⟩)
  obtain ⟨W0, hW0⟩ : ∃ W0, W0 = ((w.alloc (.cells #[v0, v1, v2, v3] 29)).alloc (.cells #[.bool false] 4)).alloc (.cells #[.int .i64 0] 3) := ⟨_, rfl⟩
  have z0 : W0.heap.size = w.heap.size + 3 := by rw [hW0]; simp
  have b0 : Below w.heap.size w W0 := by rw [hW0]; exact (((Below.refl _ w).alloc (Nat.le_refl _) _).alloc (by simp) _).alloc (by simp only [World.size_alloc]; omega) _
  have d0 := box_new ((w.alloc (.cells #[v0, v1, v2, v3] 29)).alloc (.cells #[.bool false] 4)) (.int .i64 0) 3
  have d1 := box_new (w.alloc (.cells #[v0, v1, v2, v3] 29)) (.bool false) 4
  simp only [World.size_alloc] at d0 d1
  have k0 : W0.cell? ⟨w.heap.size + 2, 0, none⟩ = some (.int .i64 0) := by rw [hW0]; exact d0.1
  have q0 : W0.frozen? ⟨w.heap.size + 2, 0, none⟩ = false := by rw [hW0]; exact d0.2
  have k1 : W0.cell? ⟨w.heap.size + 1, 0, none⟩ = some (.bool false) := by rw [hW0]; exact (((Below.refl _ _).alloc (Nat.le_refl _) _).cell (p := ⟨w.heap.size + 1, 0, none⟩) (by simp)).trans d1.1
  have q1 : W0.frozen? ⟨w.heap.size + 1, 0, none⟩ = false := by rw [hW0]; exact (((Below.refl _ _).alloc (Nat.le_refl _) _).frozen (p := ⟨w.heap.size + 1, 0, none⟩) (by simp)).trans d1.2
  clear d0 d1
  rw [← hW0]
  clear hW0
  obtain ⟨WL, hWL⟩ : ∃ WL, WL = W0.alloc (.cells #[v0, v1, v2, v3] 29) := ⟨_, rfl⟩
  have zL : WL.heap.size = w.heap.size + 4 := by rw [hWL]; simp [z0]
  have bl : Below W0.heap.size W0 WL := by rw [hWL]; exact (Below.refl _ _).alloc (Nat.le_refl _) _
  have cL : CellsAt WL W0.heap.size 0 [v0, v1, v2, v3] := by
    rw [hWL]
    intro j v hj
    match j, hj with
    | 0, hj | 1, hj | 2, hj | 3, hj => simp at hj; subst hj; simp
    | _ + 4, hj => simp at hj
  rw [z0] at cL
  rw [← hWL]
  refine wpIn_rangeFunc_Cx (n₀ := w.heap.size) (N := (allT T).length) rfl (by omega) (gf := 69) (lb := #[.pointer (some ⟨w.heap.size + 3, 0, none⟩)]) rfl trivial (enters_of Try.func69 (by kernel_rfl) rfl) (by omega)
    (tysOf_stops Fence.wide _ trivial rfl (by omega) (w.heap.size + 3) w.heap.size T [v0, v1, v2, v3] WL (by omega) (by omega) cL (tySh.below HR.out (b0.trans (bl.mono (by omega)))) hw) (fun _ => rfl)
    (fun pre W => W.cell? ⟨w.heap.size + 2, 0, none⟩ = some (.int .i64 (pre.length : Nat)) ∧ W.frozen? ⟨w.heap.size + 2, 0, none⟩ = false ∧ W.cell? ⟨w.heap.size + 1, 0, none⟩ = some (.bool false) ∧ W.frozen? ⟨w.heap.size + 1, 0, none⟩ = false ∧ pre.length ≤ 200 ∧ (pre.map (·.T)).all aloneT = true ∧ Below w.heap.size w W)
    (fun c pre W => c = .ret ∧ W.cell? ⟨w.heap.size + 1, 0, none⟩ = some (.bool false) ∧ (200 < pre.length ∨ (pre.map (·.T)).all aloneT = false) ∧ Below w.heap.size w W)
    (fun s A B hs hb => ⟨(hb.cell (p := ⟨w.heap.size + 2, 0, none⟩) (by simp; omega)).trans hs.1, (hb.frozen (p := ⟨w.heap.size + 2, 0, none⟩) (by simp; omega)).trans hs.2.1, (hb.cell (p := ⟨w.heap.size + 1, 0, none⟩) (by simp; omega)).trans hs.2.2.1, (hb.frozen (p := ⟨w.heap.size + 1, 0, none⟩) (by simp; omega)).trans hs.2.2.2.1, hs.2.2.2.2.1, hs.2.2.2.2.2.1, hs.2.2.2.2.2.2.trans (hb.mono (by omega))⟩)
    (fun c s A B hs hb => ⟨hs.1, (hb.cell (p := ⟨w.heap.size + 1, 0, none⟩) (by simp; omega)).trans hs.2.1, hs.2.2.1, hs.2.2.2.trans (hb.mono (by omega))⟩)
    ⟨(bl.cell (p := ⟨w.heap.size + 2, 0, none⟩) (by simp; omega)).trans k0, (bl.frozen (p := ⟨w.heap.size + 2, 0, none⟩) (by simp; omega)).trans q0, (bl.cell (p := ⟨w.heap.size + 1, 0, none⟩) (by simp; omega)).trans k1, (bl.frozen (p := ⟨w.heap.size + 1, 0, none⟩) (by simp; omega)).trans q1, by simp, rfl, b0.trans (bl.mono (by omega))⟩
    (fun x a' W => ∃ Bx, w.heap.size + 5 < Bx ∧ (W.cell? ⟨Bx, 0, none⟩ = some (.int .i64 x.T.x.1) ∧ W.cell? ⟨Bx, 1, none⟩ = some (.int .i64 x.T.x.2.1) ∧ W.cell? ⟨Bx, 2, none⟩ = some (.string x.T.x.2.2) ∧ W.cell? ⟨Bx, 3, none⟩ = some (.slice x.a x.T.kids.length x.c)) ∧
      a' = { tmps := #[.agg #[v0, v1, v2, v3], .pointer (some ⟨w.heap.size, 0, none⟩), .pointer (some ⟨w.heap.size + 1, 0, none⟩), .pointer (some ⟨w.heap.size + 2, 0, none⟩), .pointer (some ⟨Bx, 0, none⟩), .agg #[v0, v1, v2, v3], .func (.func 69) #[] #[.pointer (some ⟨w.heap.size + 3, 0, none⟩)], encV x, undef, undef, undef, undef, undef, undef, undef, undef, undef], defers := [] })
    (fun x a' A B hA hb => by
      obtain ⟨Bx, h1, h2, h3⟩ := hA
      have e : B.heap[Bx]? = A.heap[Bx]? := hb Bx (by omega)
      exact ⟨Bx, h1, ⟨(World.cell?_of_block (w := A) (a := ⟨Bx, 0, none⟩) e).trans h2.1, (World.cell?_of_block (w := A) (a := ⟨Bx, 1, none⟩) e).trans h2.2.1, (World.cell?_of_block (w := A) (a := ⟨Bx, 2, none⟩) e).trans h2.2.2.1, (World.cell?_of_block (w := A) (a := ⟨Bx, 3, none⟩) e).trans h2.2.2.2⟩, h3⟩) ?assign ?body ?done ?stop
  case assign =>
    intro l pre x W K hi hz hK
    simp only [enc, encV]
    gi_wp2
    obtain ⟨hc, hf, hc1, hf1, hp2, hall, hB⟩ := hi
    have hb : Below W.heap.size W (W.alloc (.cells #[.int .i64 x.T.x.1, .int .i64 x.T.x.2.1, .string x.T.x.2.2, .slice x.a x.T.kids.length x.c] 29)) := (Below.refl _ _).alloc (Nat.le_refl _) _
    refine hK _ _ (Kept.ofBelow hb (by omega)) ⟨(hb.cell (p := ⟨w.heap.size + 2, 0, none⟩) (by simp; omega)).trans hc, (hb.frozen (p := ⟨w.heap.size + 2, 0, none⟩) (by simp; omega)).trans hf, (hb.cell (p := ⟨w.heap.size + 1, 0, none⟩) (by simp; omega)).trans hc1, (hb.frozen (p := ⟨w.heap.size + 1, 0, none⟩) (by simp; omega)).trans hf1, hp2, hall, hB.trans (hb.mono (by omega))⟩ ⟨W.heap.size, by omega, ⟨?_, ?_, ?_, ?_⟩, rfl⟩
    all_goals simp
  case body =>
    rintro l pre x a' W ⟨hc, hf, hc1, hf1, hp2, hall, hB⟩ hlen hz ⟨Bx, hBx, ⟨e0, e1, e2, e3⟩, rfl⟩
    have hp : (pre.length : Int) + 1 ≤ 9223372036854775807 := by omega
    obtain ⟨W1, hW1⟩ : ∃ W1, W1 = W.setCell ⟨w.heap.size + 2, 0, none⟩ (.int .i64 ((pre.length : Int) + 1)) := ⟨_, rfl⟩
    have K1 : Kept w.heap.size WL.heap.size W W1 := by rw [hW1]; exact Kept.box (p := ⟨w.heap.size + 2, 0, none⟩) W _ (by simp) (by simp; omega)
    have z1 : W1.heap.size = W.heap.size := by rw [hW1, World.size_setCell]
    have m0 : W1.cell? ⟨w.heap.size + 2, 0, none⟩ = some (.int .i64 ((pre.length : Int) + 1)) := by rw [hW1]; exact World.cell?_setCell_same' _ _ _ (by rw [hc]; rfl)
    have m1 : W1.frozen? ⟨w.heap.size + 2, 0, none⟩ = false := by rw [hW1, World.frozen?_setCell]; exact hf
    have m2 : W1.cell? ⟨w.heap.size + 1, 0, none⟩ = some (.bool false) := by rw [hW1, World.cell?_of_block (w := W) (a := ⟨w.heap.size + 1, 0, none⟩) (Below.heap_setCell _ _ _ _ (by simp))]; exact hc1
    have m3 : W1.frozen? ⟨w.heap.size + 1, 0, none⟩ = false := by rw [hW1, World.frozen?_setCell]; exact hf1
    have eB : W1.heap[Bx]? = W.heap[Bx]? := by rw [hW1]; exact Below.heap_setCell _ _ _ _ (by simp; omega)
    have f0 := (World.cell?_of_block (w := W) (a := ⟨Bx, 0, none⟩) eB).trans e0
    have f1 := (World.cell?_of_block (w := W) (a := ⟨Bx, 1, none⟩) eB).trans e1
    have f2 := (World.cell?_of_block (w := W) (a := ⟨Bx, 2, none⟩) eB).trans e2
    have f3 := (World.cell?_of_block (w := W) (a := ⟨Bx, 3, none⟩) eB).trans e3
    have B1 : Below w.heap.size w W1 := by rw [hW1]; exact hB.setCell (p := ⟨w.heap.size + 2, 0, none⟩) (by simp) _
    have HC : Hid (CallsIn (Fence.wide.inRound l) 2 Try.prog 41 #[.agg #[.int .i64 x.T.x.1, .int .i64 x.T.x.2.1, .string x.T.x.2.2, .slice x.a x.T.kids.length x.c]] W1 fun e w' => e = .returned (.bool (aloneA x.T.x.1 x.T.x.2.1 x.T.x.2.2 x.T.kids.length)) ∧ Below W1.heap.size W1 w') :=
      CallsIn.inRound l (callsIn_wide.2 (okAlone_any x.T.x.1 x.T.x.2.1 x.T.x.2.2 x.a x.T.kids.length x.c x.ks W1))
    have HK1 : Hid _ := K1
    have HZ1 : Hid (W1.heap.size = W.heap.size) := z1
    have HB1 : Hid _ := B1
    clear K1 B1 eB e0 e1 e2 e3 z1
    subst hW1
    by_cases h2 : pre.length + 1 ≤ 200
    · have h3 : ¬ (200 : Int) < (pre.length : Int) + 1 := by omega
      have h4 : (pre.length : Int) + 1 ≤ 200 := by omega
      gi_wp2_with fail
      refine ⟨trivial, ?_⟩
      refine HC.out.mono ?_
      rintro e w2 ⟨rfl, hb⟩
      have y0 := (hb.cell (p := ⟨w.heap.size + 2, 0, none⟩) (by rw [HZ1.out]; simp; omega)).trans m0
      have y1 := (hb.frozen (p := ⟨w.heap.size + 2, 0, none⟩) (by rw [HZ1.out]; simp; omega)).trans m1
      have y2 := (hb.cell (p := ⟨w.heap.size + 1, 0, none⟩) (by rw [HZ1.out]; simp; omega)).trans m2
      have y3 := (hb.frozen (p := ⟨w.heap.size + 1, 0, none⟩) (by rw [HZ1.out]; simp; omega)).trans m3
      have K2 : Hid (Kept w.heap.size WL.heap.size W w2) := HK1.out.trans (Kept.ofBelow hb (by rw [HZ1.out]; omega))
      have B2 : Hid (Below w.heap.size w w2) := HB1.out.trans (hb.mono (by rw [HZ1.out]; omega))
      clear hb m0 m1 m2 m3 hc hf hc1 hf1 f0 f1 f2 f3 HC HK1 HB1 HZ1
      by_cases hok : aloneA x.T.x.1 x.T.x.2.1 x.T.x.2.2 x.T.kids.length = true
      · rw [hok]
        have HA : Hid (((pre ++ [x]).map (·.T)).all aloneT = true) := by
          show _ = _
          rw [List.map_append, List.all_append, hall]
          simpa [aloneT] using hok
        gi_wp2
        exact ⟨K2.out, by rw [y0]; simp, y1, y2, y3, by simp; omega, HA.out, B2.out⟩
      · have hok' : aloneA x.T.x.1 x.T.x.2.1 x.T.x.2.2 x.T.kids.length = false := by simpa using hok
        rw [hok']
        have HA : Hid (((pre ++ [x]).map (·.T)).all aloneT = false) := by
          show _ = _
          rw [List.map_append, List.all_append]
          simp [aloneT, hok']
        gi_wp2
        exact ⟨K2.out.trans (Kept.box (p := ⟨w.heap.size + 1, 0, none⟩) _ _ (by simp) (by simp; omega)), rfl, World.cell?_setCell_same' _ _ _ (by rw [y2]; rfl), .inr HA.out, B2.out.setCell (p := ⟨w.heap.size + 1, 0, none⟩) (by simp) _⟩
    · have h3 : (200 : Int) < (pre.length : Int) + 1 := by omega
      have h4 : ¬ (pre.length : Int) + 1 ≤ 200 := by omega
      gi_wp2
      refine ⟨trivial, ?_⟩
      gi_wp2
      exact ⟨HK1.out.trans (Kept.box (p := ⟨w.heap.size + 1, 0, none⟩) _ _ (by simp) (by simp; omega)), rfl, World.cell?_setCell_same' _ _ _ (by rw [m2]; rfl), .inl (by simp; omega), HB1.out.setCell (p := ⟨w.heap.size + 1, 0, none⟩) (by simp) _⟩
  case done =>
    rintro D ys W hD hS ⟨hc, hf, hc1, hf1, hp2, hall, hB⟩ hK
    have hv : tyOkB T = true := by
      have hl : ys.length = (allT T).length := by rw [← hS, List.length_map]
      unfold tyOkB
      rw [right_all, ← hS, hall, List.length_map, decide_eq_true hp2]; rfl
    gi_wp2
    have hK' : (W.setCell ⟨w.heap.size + 1, 0, none⟩ (.bool true)).heap[D]? = some (.deferred (some [])) := (Below.heap_setCell _ _ _ _ (by simp; omega)).trans hK
    refine ⟨by simp, .inl ⟨_, _, rfl, run_takeDeferred hK', ?_⟩⟩
    have hc5 : ((W.setCell ⟨w.heap.size + 1, 0, none⟩ (.bool true)).putObj D (.deferred none)).cell? ⟨w.heap.size + 1, 0, none⟩ = some (.bool true) := by
      rw [World.cell?_of_block (w := W.setCell ⟨w.heap.size + 1, 0, none⟩ (.bool true)) (a := ⟨w.heap.size + 1, 0, none⟩) (World.putObj_heap_other (by simp; omega))]
      exact World.cell?_setCell_same' _ _ _ (by rw [hc1]; rfl)
    refine ⟨.bool true, ?_, by rw [hv], (hB.setCell (p := ⟨w.heap.size + 1, 0, none⟩) (by simp) _).trans (put_below _ _ hK' (by omega))⟩
    simp [results, Try.f15, go_sem, hc5]
  case stop =>
    rintro D c pre W hD hpre ⟨rfl, hc1, hbad, hB⟩ hK
    have hv : tyOkB T = false := by
      obtain ⟨t, ht⟩ := hpre
      unfold tyOkB
      rw [right_all, ← ht]
      rcases hbad with h | h
      · rw [decide_eq_false (by simp; omega)]; rfl
      · rw [List.all_append, h]; simp
    gi_wp2
    refine ⟨by simp, .inl ⟨_, _, rfl, run_takeDeferred hK, ?_⟩⟩
    have hc5 : (W.putObj D (.deferred none)).cell? ⟨w.heap.size + 1, 0, none⟩ = some (.bool false) := by
      rw [World.cell?_of_block (w := W) (a := ⟨w.heap.size + 1, 0, none⟩) (World.putObj_heap_other (by simp; omega))]
      exact hc1
    refine ⟨.bool false, ?_, by rw [hv], hB.trans (put_below _ _ hK (by omega))⟩
    simp [results, Try.f15, go_sem, hc5]

end Go.Proofs.Ytfekbchmgnpkaaa.ty

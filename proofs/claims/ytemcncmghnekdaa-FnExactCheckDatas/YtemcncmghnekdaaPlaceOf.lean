/-
  The program's placeOf, ConOf, ConTag and TagCon, at every list of datas; nothing that was there is turned.
-/
import Derived.Test.YtemcncmghnekdaaConsOf
import Derived.Deep.QuietTactic
import Derived.BigQuiet
import Derived.WalkSmall
namespace Go.Proofs.Ytemcncmghnekdaa.data
open Go.RowKit Go.Shelf Go.Proofs.Ytemcncmghnekdaa.rose Go.Proofs.Ytemcncmghnekdaa.rangeb Go.Proofs.Ytemcncmghnekdaa
set_option linter.unusedVariables false
set_option linter.unusedSimpArgs false
attribute [local go_sem] Oper.semAt_some

set_option maxRecDepth 100000 in
theorem consOf_in (F : Fence) (n : Nat) (hF : F.fn 29) (hro : F.round = none) (v : Value) (w : World) (o : v.oneCell' = true) :
    CallsIn F n Try.prog 29 #[v] w fun e w' => e = .returned (.func (.func 45) #[] #[.pointer (some ⟨w.heap.size, 0, none⟩)]) ∧ w' = w.alloc (.cells #[v] 24) := by
  refine callsIn_of_wp Try.func29 rfl hF ?_ hro
  simp only [Try.ntmps29, List.size_toArray, List.length_cons, List.length_nil, Nat.reduceAdd, Nat.reduceSub, Array.replicate_succ, Array.replicate_zero, List.push_toArray, List.append_toArray, List.nil_append, List.cons_append]
  gi_wp2
  refine bodyPost_ret (results_tmp rfl _ _ _) rfl ?_
  exact ⟨rfl, rfl⟩

theorem blk_cell {W : World} {B i : Nat} {cs : Array Value} {t : TypeId} {v : Value} (h : W.heap[B]? = some (.cells cs t)) (hv : cs[i]? = some v) : W.cell? ⟨B, i, none⟩ = some v := by simp [World.cell?, h, hv]
theorem blk_free {W : World} {B i : Nat} {cs : Array Value} {t : TypeId} (h : W.heap[B]? = some (.cells cs t)) : W.frozen? ⟨B, i, none⟩ = false := by simp [World.frozen?, h]

theorem three (w : World) (A B C : Obj) (WL : World) (h : WL = ((w.alloc A).alloc B).alloc C) : WL.heap.size = w.heap.size + 3 ∧ Below w.heap.size w WL ∧ WL.heap[w.heap.size]? = some A ∧ WL.heap[w.heap.size + 1]? = some B ∧ WL.heap[w.heap.size + 2]? = some C := by
  subst h
  refine ⟨by simp, (((Below.refl _ w).alloc (Nat.le_refl _) _).alloc (by simp) _).alloc (by simp only [World.size_alloc]; omega) _, ?_, ?_, ?_⟩
  · exact (Below.heap_alloc _ _ _ (by simp; omega)).trans ((Below.heap_alloc _ _ _ (by simp)).trans (alloc_top _ _))
  · have := alloc_top (w.alloc A) B
    rw [World.size_alloc] at this
    exact (Below.heap_alloc _ _ _ (by simp)).trans this
  · have := alloc_top ((w.alloc A).alloc B) C
    rwa [World.size_alloc, World.size_alloc] at this

theorem four (w : World) (A B C E : Obj) (WL : World) (h : WL = (((w.alloc A).alloc B).alloc C).alloc E) : WL.heap.size = w.heap.size + 4 ∧ Below w.heap.size w WL ∧ WL.heap[w.heap.size]? = some A ∧ WL.heap[w.heap.size + 1]? = some B ∧ WL.heap[w.heap.size + 2]? = some C ∧ WL.heap[w.heap.size + 3]? = some E := by
  obtain ⟨h0, h1, h2, h3, h4⟩ := three w A B C _ rfl
  subst h
  refine ⟨by simp, h1.alloc (by simp only [World.size_alloc]; omega) _, (Below.heap_alloc _ _ _ (by rw [h0]; omega)).trans h2, (Below.heap_alloc _ _ _ (by rw [h0]; omega)).trans h3, (Below.heap_alloc _ _ _ (by rw [h0]; omega)).trans h4, ?_⟩
  have := alloc_top (((w.alloc A).alloc B).alloc C) E
  rwa [h0] at this

theorem heap_drew (w : World) : w.drew.heap = w.heap := rfl
theorem kept_drew {n₀ B : Nat} {W W' : World} (h : Kept n₀ B W W') : Kept n₀ B W W'.drew := ⟨h.size, h.low, h.high⟩

def placeV (p : Int × Int × Int) : Value := .agg #[.int .i64 p.1, .int .i64 p.2.1, .int .i64 p.2.2]

theorem named_pre {w : World} {n₀ : Nat} {ks : List DataD} {pre : List (CPart w n₀)} {x : CPart w n₀} {p : Spot → Bool} (h : (pre ++ [x]).map (·.s) <+: spots 0 0 ks) (hn : ∀ y ∈ pre, p y.s = false) (hx : p x.s = true) : (spots 0 0 ks).find? p = some x.s := by
  rw [List.map_append] at h
  refine find_pre h ?_ hx
  intro y hy
  obtain ⟨z, hz, rfl⟩ := List.mem_map.1 hy
  exact hn z hz

set_option maxRecDepth 100000 in
set_option maxHeartbeats 2000000 in
theorem implPlaceOf (ks : List DataD) (v : Value) (name : ByteArray) (w : World) (hw : ks.length + wts ks ≤ 1048576) (h : dataSh.slice.rep w (· < w.heap.size) [v] ks) :
    Calls Try.prog 27 #[v, .string name] w fun e w' => e = .returned (placeV (placeB ks name)) ∧ Below w.heap.size w w' := by
  refine (callsIn_wide (n := 5)).1 ?_
  have o0 := dataSh.slice.one h v (by simp)
  have HR : Hid _ := h
  clear h
  refine callsIn_of_wp_marks Try.func27 rfl trivial ?_ rfl
  simp only [Try.ntmps27, List.size_toArray, List.length_cons, List.length_nil, Nat.reduceAdd, Nat.reduceSub, Array.replicate_succ, Array.replicate_zero, List.push_toArray, List.append_toArray, List.nil_append, List.cons_append]
  gi_wp2_with (refine ⟨trivial, ?_⟩; gi_at_call 29; refine (consOf_in Fence.wide _ trivial rfl v _ o0).mono ?_; rintro e w' ⟨rfl, rfl⟩)
  obtain ⟨WL, hWL⟩ : ∃ WL, WL = ((w.alloc (.cells #[.string name] 9)).alloc (.cells #[.int .i64 0, .int .i64 0, .int .i64 0] 58)).alloc (.cells #[v] 24) := ⟨_, rfl⟩
  obtain ⟨zL, bL, k0, k1, k2⟩ := three w _ _ _ WL hWL
  rw [← hWL]
  clear hWL
  refine wpIn_rangeFunc_Bx (n₀ := w.heap.size) (N := total ks) rfl (by omega) (gf := 45) (lb := #[.pointer (some ⟨w.heap.size + 2, 0, none⟩)]) rfl trivial (enters_of Try.func45 (by kernel_rfl) rfl) (by omega)
    (consOf_stops Fence.wide _ trivial rfl (by omega) (w.heap.size + 2) w.heap.size ks v WL (by omega) (by omega) (blk_cell k2 rfl) (dataSh.slice.below HR.out bL) hw) (fun _ => rfl)
    (fun pre W => W.heap[w.heap.size]? = some (.cells #[.string name] 9) ∧ W.heap[w.heap.size + 1]? = some (.cells #[.int .i64 0, .int .i64 0, .int .i64 0] 58) ∧ (∀ y ∈ pre, named name y.s = false) ∧ Below w.heap.size w W)
    (fun c pre W => c = .ret ∧ (∃ pr x, pre = pr ++ [x] ∧ (∀ y ∈ pr, named name y.s = false) ∧ named name x.s = true ∧ W.heap[w.heap.size + 1]? = some (.cells #[.int .i64 (x.s.tag : Nat), .int .i64 (x.s.i : Nat), .int .i64 (x.s.j : Nat)] 58)) ∧ Below w.heap.size w W)
    (fun s A B hs hb => ⟨(hb.block _ (by omega)).trans hs.1, (hb.block _ (by omega)).trans hs.2.1, hs.2.2.1, hs.2.2.2.trans (hb.mono (by omega))⟩)
    (fun c s A B hs hb => ⟨hs.1, (by obtain ⟨pr, x, h1, h2, h3, h4⟩ := hs.2.1; exact ⟨pr, x, h1, h2, h3, (hb.block _ (by omega)).trans h4⟩), hs.2.2.trans (hb.mono (by omega))⟩)
    ⟨k0, k1, by simp, bL⟩
    (fun x a' W => ∃ Bx By, w.heap.size + 4 < Bx ∧ w.heap.size + 4 < By ∧ W.heap[Bx]? = some (.cells #[.int .i64 (x.s.tag : Nat), .int .i64 (x.s.i : Nat), .int .i64 (x.s.j : Nat)] 58) ∧ W.heap[By]? = some (.cells #[.string x.s.c.1, .slice x.a x.s.c.2.length x.c] 37) ∧
      a' = { tmps := #[v, .string name, undef, .pointer (some ⟨w.heap.size, 0, none⟩), .pointer (some ⟨w.heap.size + 1, 0, none⟩), .pointer (some ⟨Bx, 0, none⟩), .pointer (some ⟨By, 0, none⟩), v, .func (.func 45) #[] #[.pointer (some ⟨w.heap.size + 2, 0, none⟩)], encP x, encC x, undef, undef, undef, undef, undef, undef], defers := [] })
    (fun x a' A B hA hb => by
      obtain ⟨Bx, By, h1, h2, h3, h4, h5⟩ := hA
      exact ⟨Bx, By, h1, h2, (hb Bx (by omega)).trans h3, (hb By (by omega)).trans h4, h5⟩) ?assign ?body ?done ?stop
  case assign =>
    intro l pre x W K hi hz hK
    simp only [encs, encP, encC]
    gi_wp2
    obtain ⟨hc, hc1, hall, hB⟩ := hi
    have hb : Below W.heap.size W ((W.alloc (.cells #[.int .i64 (x.s.tag : Nat), .int .i64 (x.s.i : Nat), .int .i64 (x.s.j : Nat)] 58)).alloc (.cells #[.string x.s.c.1, .slice x.a x.s.c.2.length x.c] 37)) := ((Below.refl _ _).alloc (Nat.le_refl _) _).alloc (by simp) _
    refine hK _ _ (Kept.ofBelow hb (by omega)) ⟨(hb.block _ (by omega)).trans hc, (hb.block _ (by omega)).trans hc1, hall, hB.trans (hb.mono (by omega))⟩ ⟨W.heap.size, W.heap.size + 1, by omega, by omega, ?_, ?_, rfl⟩
    · exact (Below.heap_alloc _ _ _ (by simp)).trans (alloc_top _ _)
    · have := alloc_top (W.alloc (.cells #[.int .i64 (x.s.tag : Nat), .int .i64 (x.s.i : Nat), .int .i64 (x.s.j : Nat)] 58)) (.cells #[.string x.s.c.1, .slice x.a x.s.c.2.length x.c] 37)
      rwa [World.size_alloc] at this
  case body =>
    rintro l pre x a' W ⟨hc, hc1, hall, hB⟩ hlen hz ⟨Bx, By, hBx, hBy, ex, ey, rfl⟩
    have e0 := blk_cell ex (i := 0) rfl
    have e1 := blk_cell ex (i := 1) rfl
    have e2 := blk_cell ex (i := 2) rfl
    have g0 := blk_cell ey (i := 0) rfl
    have m0 := blk_cell hc (i := 0) rfl
    have n0 := blk_cell hc1 (i := 0) rfl
    have n1 := blk_cell hc1 (i := 1) rfl
    have n2 := blk_cell hc1 (i := 2) rfl
    have p0 := blk_free (i := 0) hc1
    have p1 := blk_free (i := 1) hc1
    have p2 := blk_free (i := 2) hc1
    have HC : Hid _ := hc
    have HC1 : Hid _ := hc1
    clear ex ey hc hc1
    by_cases hx : (x.s.c.1.toList == name.toList) = true
    · gi_wp2
      refine ⟨?_, rfl, ⟨pre, x, rfl, hall, hx, ?_⟩, ?_⟩
      · exact ((Kept.box (p := ⟨w.heap.size + 1, 0, none⟩) _ _ (by simp) (by simp; omega)).trans (Kept.box (p := ⟨w.heap.size + 1, 1, none⟩) _ _ (by simp) (by simp; omega))).trans (Kept.box (p := ⟨w.heap.size + 1, 2, none⟩) _ _ (by simp) (by simp; omega))
      · simp [World.setCell, Array.getElem?_modify, HC1.out]
      · exact ((hB.setCell (p := ⟨w.heap.size + 1, 0, none⟩) (by simp) _).setCell (p := ⟨w.heap.size + 1, 1, none⟩) (by simp) _).setCell (p := ⟨w.heap.size + 1, 2, none⟩) (by simp) _
    · have hx' : (x.s.c.1.toList == name.toList) = false := by simpa using hx
      gi_wp2
      exact ⟨Kept.refl _ _ _, HC.out, HC1.out, fun y hy => by rcases List.mem_append.1 hy with h | h; exact hall y h; simp at h; subst h; exact hx', hB⟩
  case done =>
    rintro D ys W hD hS ⟨hc, hc1, hall, hB⟩ hK
    have hv : placeB ks name = (-1, -1, -1) := by
      unfold placeB
      rw [find_no]
      · rfl
      · intro y hy
        rw [← hS] at hy
        obtain ⟨z, hz, rfl⟩ := List.mem_map.1 hy
        exact hall z hz
    have n0 := blk_cell hc1 (i := 0) rfl
    have n1 := blk_cell hc1 (i := 1) rfl
    have n2 := blk_cell hc1 (i := 2) rfl
    have p0 := blk_free (i := 0) hc1
    have p1 := blk_free (i := 1) hc1
    have p2 := blk_free (i := 2) hc1
    gi_wp2
    have hK' : (((W.setCell ⟨w.heap.size + 1, 0, none⟩ (.int .i64 (-1))).setCell ⟨w.heap.size + 1, 1, none⟩ (.int .i64 (-1))).setCell ⟨w.heap.size + 1, 2, none⟩ (.int .i64 (-1))).heap[D]? = some (.deferred (some [])) := (Below.heap_setCell _ _ _ _ (by simp; omega)).trans ((Below.heap_setCell _ _ _ _ (by simp; omega)).trans ((Below.heap_setCell _ _ _ _ (by simp; omega)).trans hK))
    refine ⟨by simp, .inl ⟨_, _, rfl, run_takeDeferred hK', ?_⟩⟩
    have hc4 : (((W.setCell ⟨w.heap.size + 1, 0, none⟩ (.int .i64 (-1))).setCell ⟨w.heap.size + 1, 1, none⟩ (.int .i64 (-1))).setCell ⟨w.heap.size + 1, 2, none⟩ (.int .i64 (-1))).heap[w.heap.size + 1]? = some (.cells #[.int .i64 (-1), .int .i64 (-1), .int .i64 (-1)] 58) := by simp [World.setCell, Array.getElem?_modify, hc1]
    have hc5 := (World.putObj_heap_other (w := _) (o := .deferred none) (show w.heap.size + 1 ≠ D by omega)).trans hc4
    have n0 := blk_cell hc5 (i := 0) rfl
    have n1 := blk_cell hc5 (i := 1) rfl
    have n2 := blk_cell hc5 (i := 2) rfl
    refine ⟨placeV (-1, -1, -1), ?_, by rw [hv], (((hB.setCell (p := ⟨w.heap.size + 1, 0, none⟩) (by simp) _).setCell (p := ⟨w.heap.size + 1, 1, none⟩) (by simp) _).setCell (p := ⟨w.heap.size + 1, 2, none⟩) (by simp) _).trans (put_below _ _ hK' (by omega))⟩
    simp [results, Try.f27, go_sem, n0, n1, n2, placeV]
  case stop =>
    rintro D c pre W hD hpre ⟨rfl, ⟨pr, x, rfl, hall, hx, hc1⟩, hB⟩ hK
    have hv : placeB ks name = ((x.s.tag : Int), (x.s.i : Int), (x.s.j : Int)) := by
      unfold placeB
      rw [named_pre hpre hall hx]
      rfl
    gi_wp2
    refine ⟨by simp, .inl ⟨_, _, rfl, run_takeDeferred hK, ?_⟩⟩
    have hc5 := (World.putObj_heap_other (w := W) (o := .deferred none) (show w.heap.size + 1 ≠ D by omega)).trans hc1
    have n0 := blk_cell hc5 (i := 0) rfl
    have n1 := blk_cell hc5 (i := 1) rfl
    have n2 := blk_cell hc5 (i := 2) rfl
    refine ⟨placeV ((x.s.tag : Int), (x.s.i : Int), (x.s.j : Int)), ?_, by rw [hv], hB.trans (put_below _ _ hK (by omega))⟩
    simp [results, Try.f27, go_sem, n0, n1, n2, placeV]

set_option maxRecDepth 100000 in
theorem implConTag (ks : List DataD) (v : Value) (name : ByteArray) (w : World) (hw : ks.length + wts ks ≤ 1048576) (h : dataSh.slice.rep w (· < w.heap.size) [v] ks) :
    Calls Try.prog 10 #[v, .string name] w fun e w' => e = .returned (.int .i64 (placeB ks name).1) ∧ Below w.heap.size w w' := by
  have K : Hid (Calls Try.prog 27 #[v, .string name] w fun e w' => e = .returned (placeV (placeB ks name)) ∧ Below w.heap.size w w') := implPlaceOf ks v name w hw h
  generalize placeB ks name = p at K ⊢
  obtain ⟨p0, p1, p2⟩ := p
  go_enter Try.func10, Try.ntmps10
  go_wp2_with fail
  refine K.out.mono ?_
  rintro e w1 ⟨rfl, hb⟩
  have B1 : Hid (Below w.heap.size w w1) := hb
  clear hb
  simp only [placeV]
  have hf : (Instr.field 58 (.agg #[.int .i64 p0, .int .i64 p1, .int .i64 p2]) 0).run Try.prog w1 = .ok (.int .i64 p0) w1 := by kernel_rfl
  go_wp2
  go_ret
  exact ⟨rfl, B1.out⟩

set_option maxRecDepth 100000 in
theorem implConOf (ks : List DataD) (v : Value) (name : ByteArray) (w : World) (hw : ks.length + wts ks ≤ 1048576) (h : dataSh.slice.rep w (· < w.heap.size) [v] ks) :
    Calls Try.prog 15 #[v, .string name] w fun e w' => e = .returned (.tuple #[.int .i64 (placeB ks name).2.1, .int .i64 (placeB ks name).2.2]) ∧ Below w.heap.size w w' := by
  have K : Hid (Calls Try.prog 27 #[v, .string name] w fun e w' => e = .returned (placeV (placeB ks name)) ∧ Below w.heap.size w w') := implPlaceOf ks v name w hw h
  generalize placeB ks name = p at K ⊢
  obtain ⟨p0, p1, p2⟩ := p
  go_enter Try.func15, Try.ntmps15
  go_wp2_with fail
  refine K.out.mono ?_
  rintro e w1 ⟨rfl, hb⟩
  have B1 : Hid (Below w.heap.size w (w1.alloc (.cells #[.int .i64 p0, .int .i64 p1, .int .i64 p2] 58))) := hb.alloc hb.size _
  clear hb
  simp only [placeV]
  go_wp2
  go_quiet (fail)
  go_wp2
  go_ret2
  exact ⟨rfl, below_drewN B1.out _⟩

set_option maxRecDepth 100000 in
set_option maxHeartbeats 2000000 in
theorem implTagCon (ks : List DataD) (v : Value) (tag : Int) (w : World) (hw : ks.length + wts ks ≤ 1048576) (h : dataSh.slice.rep w (· < w.heap.size) [v] ks) :
    Calls Try.prog 12 #[v, .int .i64 tag] w fun e w' => e = .returned (.tuple #[.int .i64 (tagB ks tag).2.1, .int .i64 (tagB ks tag).2.2]) ∧ Below w.heap.size w w' := by
  refine (callsIn_wide (n := 5)).1 ?_
  have o0 := dataSh.slice.one h v (by simp)
  have HR : Hid _ := h
  clear h
  refine callsIn_of_wp_marks Try.func12 rfl trivial ?_ rfl
  simp only [Try.ntmps12, List.size_toArray, List.length_cons, List.length_nil, Nat.reduceAdd, Nat.reduceSub, Array.replicate_succ, Array.replicate_zero, List.push_toArray, List.append_toArray, List.nil_append, List.cons_append]
  gi_wp2_with (refine ⟨trivial, ?_⟩; gi_at_call 29; refine (consOf_in Fence.wide _ trivial rfl v _ o0).mono ?_; rintro e w' ⟨rfl, rfl⟩)
  obtain ⟨WL, hWL⟩ : ∃ WL, WL = (((w.alloc (.cells #[.int .i64 tag] 3)).alloc (.cells #[.int .i64 0] 3)).alloc (.cells #[.int .i64 0] 3)).alloc (.cells #[v] 24) := ⟨_, rfl⟩
  obtain ⟨zL, bL, k0, k1, k2, k3⟩ := four w _ _ _ _ WL hWL
  rw [← hWL]
  clear hWL
  refine wpIn_rangeFunc_Bx (n₀ := w.heap.size) (N := total ks) rfl (by omega) (gf := 45) (lb := #[.pointer (some ⟨w.heap.size + 3, 0, none⟩)]) rfl trivial (enters_of Try.func45 (by kernel_rfl) rfl) (by omega)
    (consOf_stops Fence.wide _ trivial rfl (by omega) (w.heap.size + 3) w.heap.size ks v WL (by omega) (by omega) (blk_cell k3 rfl) (dataSh.slice.below HR.out bL) hw) (fun _ => rfl)
    (fun pre W => W.heap[w.heap.size]? = some (.cells #[.int .i64 tag] 3) ∧ W.heap[w.heap.size + 1]? = some (.cells #[.int .i64 0] 3) ∧ W.heap[w.heap.size + 2]? = some (.cells #[.int .i64 0] 3) ∧ (∀ y ∈ pre, tagged tag y.s = false) ∧ Below w.heap.size w W)
    (fun c pre W => c = .ret ∧ (∃ pr x, pre = pr ++ [x] ∧ (∀ y ∈ pr, tagged tag y.s = false) ∧ tagged tag x.s = true ∧ W.heap[w.heap.size + 1]? = some (.cells #[.int .i64 (x.s.i : Nat)] 3) ∧ W.heap[w.heap.size + 2]? = some (.cells #[.int .i64 (x.s.j : Nat)] 3)) ∧ Below w.heap.size w W)
    (fun s A B hs hb => ⟨(hb.block _ (by omega)).trans hs.1, (hb.block _ (by omega)).trans hs.2.1, (hb.block _ (by omega)).trans hs.2.2.1, hs.2.2.2.1, hs.2.2.2.2.trans (hb.mono (by omega))⟩)
    (fun c s A B hs hb => ⟨hs.1, (by obtain ⟨pr, x, h1, h2, h3, h4, h5⟩ := hs.2.1; exact ⟨pr, x, h1, h2, h3, (hb.block _ (by omega)).trans h4, (hb.block _ (by omega)).trans h5⟩), hs.2.2.trans (hb.mono (by omega))⟩)
    ⟨k0, k1, k2, by simp, bL⟩
    (fun x a' W => ∃ Bx, w.heap.size + 5 < Bx ∧ W.heap[Bx]? = some (.cells #[.int .i64 (x.s.tag : Nat), .int .i64 (x.s.i : Nat), .int .i64 (x.s.j : Nat)] 58) ∧
      a' = { tmps := #[v, .int .i64 tag, undef, .pointer (some ⟨w.heap.size, 0, none⟩), .pointer (some ⟨w.heap.size + 1, 0, none⟩), .pointer (some ⟨w.heap.size + 2, 0, none⟩), .pointer (some ⟨Bx, 0, none⟩), v, .func (.func 45) #[] #[.pointer (some ⟨w.heap.size + 3, 0, none⟩)], encP x, encC x, undef, undef, undef, undef, undef, undef, undef, undef], defers := [] })
    (fun x a' A B hA hb => by
      obtain ⟨Bx, h1, h3, h5⟩ := hA
      exact ⟨Bx, h1, (hb Bx (by omega)).trans h3, h5⟩) ?assign ?body ?done ?stop
  case assign =>
    intro l pre x W K hi hz hK
    simp only [encs, encP, encC]
    gi_wp2
    obtain ⟨hc, hc1, hc2, hall, hB⟩ := hi
    have hb : Below W.heap.size W (W.alloc (.cells #[.int .i64 (x.s.tag : Nat), .int .i64 (x.s.i : Nat), .int .i64 (x.s.j : Nat)] 58)) := (Below.refl _ _).alloc (Nat.le_refl _) _
    exact hK _ _ (Kept.ofBelow hb (by omega)) ⟨(hb.block _ (by omega)).trans hc, (hb.block _ (by omega)).trans hc1, (hb.block _ (by omega)).trans hc2, hall, hB.trans (hb.mono (by omega))⟩ ⟨W.heap.size, by omega, alloc_top _ _, rfl⟩
  case body =>
    rintro l pre x a' W ⟨hc, hc1, hc2, hall, hB⟩ hlen hz ⟨Bx, hBx, ex, rfl⟩
    have e0 := blk_cell ex (i := 0) rfl
    have e1 := blk_cell ex (i := 1) rfl
    have e2 := blk_cell ex (i := 2) rfl
    have m0 := blk_cell hc (i := 0) rfl
    have n1 := blk_cell hc1 (i := 0) rfl
    have n2 := blk_cell hc2 (i := 0) rfl
    have p1 := blk_free (i := 0) hc1
    have p2 := blk_free (i := 0) hc2
    have HC : Hid _ := hc
    have HC1 : Hid _ := hc1
    have HC2 : Hid _ := hc2
    clear ex hc hc1 hc2
    by_cases hx : ((x.s.tag : Nat) : Int) = tag
    · have hx2 : (((x.s.tag : Nat) : Int) == tag) = true := by simp [hx]
      have HX : Hid (tagged tag x.s = true) := by show _ = _; simp [tagged, hx]
      clear hx
      gi_wp2
      gi_region
      all_goals
        gi_wp2
        refine ⟨?_, rfl, ⟨pre, x, rfl, hall, HX.out, ?_, ?_⟩, ?_⟩
        · first
            | exact kept_drew ((Kept.box (n₀ := w.heap.size) (B := WL.heap.size) (p := ⟨w.heap.size + 1, 0, none⟩) _ _ (by simp) (by simp; omega)).trans (Kept.box (p := ⟨w.heap.size + 2, 0, none⟩) _ _ (by simp) (by simp; omega)))
            | exact kept_drew ((Kept.box (n₀ := w.heap.size) (B := WL.heap.size) (p := ⟨w.heap.size + 2, 0, none⟩) _ _ (by simp) (by simp; omega)).trans (Kept.box (p := ⟨w.heap.size + 1, 0, none⟩) _ _ (by simp) (by simp; omega)))
        · rw [heap_drew]; simp [World.setCell, Array.getElem?_modify, HC1.out]
        · rw [heap_drew]; simp [World.setCell, Array.getElem?_modify, HC2.out]
        · first
            | exact ((hB.setCell (p := ⟨w.heap.size + 1, 0, none⟩) (by simp) _).setCell (p := ⟨w.heap.size + 2, 0, none⟩) (by simp) _).drew
            | exact ((hB.setCell (p := ⟨w.heap.size + 2, 0, none⟩) (by simp) _).setCell (p := ⟨w.heap.size + 1, 0, none⟩) (by simp) _).drew
    · have hx2 : (((x.s.tag : Nat) : Int) == tag) = false := by simpa using hx
      gi_wp2
      exact ⟨Kept.refl _ _ _, HC.out, HC1.out, HC2.out, fun y hy => by rcases List.mem_append.1 hy with h | h; exact hall y h; simp at h; subst h; simpa [tagged] using hx, hB⟩
  case done =>
    rintro D ys W hD hS ⟨hc, hc1, hc2, hall, hB⟩ hK
    have hv : tagB ks tag = (-1, -1, -1) := by
      unfold tagB
      rw [find_no]
      · rfl
      · intro y hy
        rw [← hS] at hy
        obtain ⟨z, hz, rfl⟩ := List.mem_map.1 hy
        exact hall z hz
    have n1 := blk_cell hc1 (i := 0) rfl
    have n2 := blk_cell hc2 (i := 0) rfl
    have p1 := blk_free (i := 0) hc1
    have p2 := blk_free (i := 0) hc2
    gi_wp2
    have hK' : ((W.setCell ⟨w.heap.size + 1, 0, none⟩ (.int .i64 (-1))).setCell ⟨w.heap.size + 2, 0, none⟩ (.int .i64 (-1))).heap[D]? = some (.deferred (some [])) := (Below.heap_setCell _ _ _ _ (by simp; omega)).trans ((Below.heap_setCell _ _ _ _ (by simp; omega)).trans hK)
    refine ⟨by simp, .inl ⟨_, _, rfl, run_takeDeferred hK', ?_⟩⟩
    have hc3 : ((W.setCell ⟨w.heap.size + 1, 0, none⟩ (.int .i64 (-1))).setCell ⟨w.heap.size + 2, 0, none⟩ (.int .i64 (-1))).heap[w.heap.size + 1]? = some (.cells #[.int .i64 (-1)] 3) := by simp [World.setCell, Array.getElem?_modify, hc1]
    have hc4 : ((W.setCell ⟨w.heap.size + 1, 0, none⟩ (.int .i64 (-1))).setCell ⟨w.heap.size + 2, 0, none⟩ (.int .i64 (-1))).heap[w.heap.size + 2]? = some (.cells #[.int .i64 (-1)] 3) := by simp [World.setCell, Array.getElem?_modify, hc2]
    have r1 := blk_cell ((World.putObj_heap_other (w := _) (o := .deferred none) (show w.heap.size + 1 ≠ D by omega)).trans hc3) (i := 0) rfl
    have r2 := blk_cell ((World.putObj_heap_other (w := _) (o := .deferred none) (show w.heap.size + 2 ≠ D by omega)).trans hc4) (i := 0) rfl
    refine ⟨.tuple #[.int .i64 (-1), .int .i64 (-1)], ?_, by rw [hv], ((hB.setCell (p := ⟨w.heap.size + 1, 0, none⟩) (by simp) _).setCell (p := ⟨w.heap.size + 2, 0, none⟩) (by simp) _).trans (put_below _ _ hK' (by omega))⟩
    simp [results, Try.f12, go_sem, r1, r2]
  case stop =>
    rintro D c pre W hD hpre ⟨rfl, ⟨pr, x, rfl, hall, hx, hc1, hc2⟩, hB⟩ hK
    have hv : tagB ks tag = ((x.s.tag : Int), (x.s.i : Int), (x.s.j : Int)) := by
      unfold tagB
      rw [named_pre hpre hall hx]
      rfl
    gi_wp2
    refine ⟨by simp, .inl ⟨_, _, rfl, run_takeDeferred hK, ?_⟩⟩
    have r1 := blk_cell ((World.putObj_heap_other (w := W) (o := .deferred none) (show w.heap.size + 1 ≠ D by omega)).trans hc1) (i := 0) rfl
    have r2 := blk_cell ((World.putObj_heap_other (w := W) (o := .deferred none) (show w.heap.size + 2 ≠ D by omega)).trans hc2) (i := 0) rfl
    refine ⟨.tuple #[.int .i64 (x.s.i : Nat), .int .i64 (x.s.j : Nat)], ?_, by rw [hv], hB.trans (put_below _ _ hK (by omega))⟩
    simp [results, Try.f12, go_sem, r1, r2]

end Go.Proofs.Ytemcncmghnekdaa.data

/-
  The program's Erase: of a typed tree the tree without its types, in new memory that lies apart; nothing that was there is turned.
-/
import Derived.Test.YtklcjjckelahcaaEraseImpl1
import Derived.Test.YtklcjjckelahcaaEraseBare
import Derived.Deep.RegionHeld3
import Derived.Deep.LoopGhost
import Derived.Laws.MakeOwn
import Derived.Deep.OwnRows
namespace Go.Proofs.Ytklcjjckelahcaa.typed
open Go.RowKit Go.Proofs.Ytklcjjckelahcaa.rose Go.Proofs.Ytklcjjckelahcaa
set_option linter.unusedVariables false

theorem make_nd (n : Nat) (h : n ≤ 1048577) (w : World) : (Instr.makeSlice 30 (.int .i64 (n : Int)) (.int .i64 (n : Int))).run Try.prog w = .ok (.slice (some ⟨w.heap.size, 0, none⟩) n n)
    (w.alloc (.cells (madeCells #[.int .i64 0, .int .i64 0, .string ⟨#[]⟩, .string ⟨#[]⟩, .slice none 0 0] (n * 5)) 32)) := by
  obtain ⟨i, hi, hzz⟩ := Option.map_eq_some_iff.1 infoN
  simp only [Prod.mk.injEq] at hzz
  obtain ⟨hz, hs, hb⟩ := hzz
  have := run_make (P := Try.prog) w 30 32 i _ Try.underlying30 hi hz .i64 .i64 n n (by omega) (by omega) (by rw [hb]; omega) (by omega)
  simpa [hs, Value.cells] using this
theorem make_one (w : World) : (Instr.makeSlice 30 (.int .i64 1) (.int .i64 1)).run Try.prog w = .ok (.slice (some ⟨w.heap.size, 0, none⟩) 1 1)
    (w.alloc (.cells (madeCells #[.int .i64 0, .int .i64 0, .string ⟨#[]⟩, .string ⟨#[]⟩, .slice none 0 0] 5) 32)) := make_nd 1 (by omega) w
theorem infoB : (Try.prog.info? 66).map (fun i => (i.zero, i.size, i.bytes)) = some (some (.agg #[.slice none 0 0, .slice none 0 0]), 2, 48) := by kernel_rfl

theorem five (w : World) (A B C E G : Obj) (WL : World) (h : WL = ((((w.alloc A).alloc B).alloc C).alloc E).alloc G) : WL.heap.size = w.heap.size + 5 ∧ Below w.heap.size w WL ∧ WL.heap[w.heap.size]? = some A ∧ WL.heap[w.heap.size + 1]? = some B ∧ WL.heap[w.heap.size + 2]? = some C ∧ WL.heap[w.heap.size + 3]? = some E ∧ WL.heap[w.heap.size + 4]? = some G := by
  subst h
  refine ⟨by simp, (((((Below.refl _ w).alloc (Nat.le_refl _) _).alloc (by simp) _).alloc (by simp <;> omega) _).alloc (by simp <;> omega) _).alloc (by simp <;> omega) _, ?_, ?_, ?_, ?_, ?_⟩
  · rw [Below.heap_alloc _ _ _ (by simp <;> omega), Below.heap_alloc _ _ _ (by simp <;> omega), Below.heap_alloc _ _ _ (by simp <;> omega), Below.heap_alloc _ _ _ (by simp)]; exact alloc_top _ _
  · rw [Below.heap_alloc _ _ _ (by simp <;> omega), Below.heap_alloc _ _ _ (by simp <;> omega), Below.heap_alloc _ _ _ (by simp)]
    have := alloc_top (w.alloc A) B
    rwa [World.size_alloc] at this
  · rw [Below.heap_alloc _ _ _ (by simp <;> omega), Below.heap_alloc _ _ _ (by simp)]
    have := alloc_top ((w.alloc A).alloc B) C
    rwa [World.size_alloc, World.size_alloc] at this
  · rw [Below.heap_alloc _ _ _ (by simp)]
    have := alloc_top (((w.alloc A).alloc B).alloc C) E
    rwa [World.size_alloc, World.size_alloc, World.size_alloc] at this
  · have := alloc_top ((((w.alloc A).alloc B).alloc C).alloc E) G
    rwa [World.size_alloc, World.size_alloc, World.size_alloc, World.size_alloc] at this

theorem start_st {w WL : World} {T : TypedD} {v0 v1 v2 v3 v4 v5 v6 v7 v8 v9 v10 : Value} (hw : wt T ≤ 1048576) (h : typedSh.rep w (· < w.heap.size) [v0, v1, v2, v3, v4, v5, v6, v7, v8, v9, v10] T) (hz : WL.heap.size = w.heap.size + 5) (hb : Below w.heap.size w WL)
    (k1 : WL.heap[w.heap.size + 1]? = some (.cells #[.int .i64 0, .int .i64 0, .string ⟨#[]⟩, .string ⟨#[]⟩, .slice none 0 0] 32)) (k2 : WL.heap[w.heap.size + 2]? = some (.cells (madeCells #[.int .i64 0, .int .i64 0, .string ⟨#[]⟩, .string ⟨#[]⟩, .slice none 0 0] 5) 32))
    (k3 : WL.heap[w.heap.size + 3]? = some (.cells #[v0, v1, v2, v3, v4, v5, v6, v7, v8, v9, v10] 39)) (k4 : WL.heap[w.heap.size + 4]? = some (.cells #[.slice (some ⟨w.heap.size + 3, 0, none⟩) 1 1, .slice (some ⟨w.heap.size + 2, 0, none⟩) 1 1] 66)) :
    Bs w WL (.slice (some ⟨w.heap.size + 4, 0, none⟩) 1 1) [⟨[T], w.heap.size + 2, .slice (some ⟨w.heap.size + 3, 0, none⟩) 1 1⟩] (fun _ => False) := by
  refine ⟨hb, by omega, k1, fun k hk => ?_, ?_, fun k hk => ?_, fun k hk => ?_, fun g hg => ?_, List.pairwise_singleton _ _, fun b hD => hD.elim, fun k hk => ?_⟩
  · obtain rfl := List.mem_singleton.1 hk
    refine ⟨some ⟨w.heap.size + 3, 0, none⟩, 1, fun _ => [v0, v1, v2, v3, v4, v5, v6, v7, v8, v9, v10], rfl, Nat.le_refl _, by unfold maxLen; omega, (fun h => by cases h), fun i hi => ⟨w.heap.size + 3, 0, rfl, Or.inr rfl, fun j u hj => ?_⟩, fun i hi => ?_⟩
    · obtain rfl : i = 0 := by simpa using hi
      simp only [World.cell?, Nat.zero_mul, Nat.zero_add, k3]
      simpa using hj
    · obtain rfl : i = 0 := by simpa using hi
      exact typedSh.mono (typedSh.below h hb) fun b hlt => Or.inl hlt
  · refine ⟨rfl, Or.inr ⟨w.heap.size + 4, 1, _, rfl, Nat.le_refl _, k4, Nat.le_refl _, by unfold maxLen; omega, rfl, ?_⟩⟩
    simp [rows, Tk.cells, Tk.to]
  · obtain rfl := List.mem_singleton.1 hk
    exact ⟨_, k2, by simp [size_madeCells]⟩
  · obtain rfl := List.mem_singleton.1 hk
    exact ⟨by simp, Or.inl rfl, fun h => h⟩
  · simp only [Value.ownBlock, Option.some.injEq] at hg
    subst hg
    refine ⟨fun k hk => ?_, fun h => h⟩
    obtain rfl := List.mem_singleton.1 hk
    show w.heap.size + 2 ≠ w.heap.size + 4
    omega
  · obtain rfl := List.mem_singleton.1 hk
    simp [wts]; omega

theorem cell_set_blk {w : World} {b o q c : Nat} {v : Value} (h : q ≠ b) : (w.setCell ⟨b, o, none⟩ v).cell? ⟨q, c, none⟩ = w.cell? ⟨q, c, none⟩ := World.cell?_of_block (w := w) (a := ⟨q, c, none⟩) (Below.heap_setCell _ _ _ _ h)
theorem cell_alloc {w : World} {q c : Nat} {o : Obj} (h : q < w.heap.size) : (w.alloc o).cell? ⟨q, c, none⟩ = w.cell? ⟨q, c, none⟩ := World.cell?_of_block (w := w) (a := ⟨q, c, none⟩) (Below.heap_alloc _ _ _ h)

theorem cell_drew {w : World} {a : Addr} : w.drew.cell? a = w.cell? a := rfl

/-- Five cells of a row are put. -/
theorem put5 {w1 : World} {g i n : Nat} {cur : Array Value} {t : TypeId} (h : w1.heap[g]? = some (.cells cur t)) (hs : cur.size = n * 5) (hi : i < n) (cs : List Value) (hl : cs.length = 5) :
    (w1.setCells g (i * 5) cs).heap.size = w1.heap.size ∧ (∀ b, b ≠ g → (w1.setCells g (i * 5) cs).heap[b]? = w1.heap[b]?) ∧ (∃ cur', (w1.setCells g (i * 5) cs).heap[g]? = some (.cells cur' t) ∧ cur'.size = n * 5) ∧ CellsAt (w1.setCells g (i * 5) cs) g (i * 5) cs ∧
      (∀ q, q < i * 5 → (w1.setCells g (i * 5) cs).cell? ⟨g, q, none⟩ = w1.cell? ⟨g, q, none⟩) ∧ (∀ B, B ≤ g → Below B w1 (w1.setCells g (i * 5) cs)) := by
  refine ⟨setCells_size _ _ _ _, fun b hb => setCells_other g hb _ _ _, ?_, fun j v hj => ?_, fun q hq => ?_, fun B hB => setCells_below hB _ _⟩
  · obtain ⟨c, h1, h2⟩ := setCells_block g cs (i * 5) w1 cur h
    exact ⟨c, h1, by rw [h2, hs]⟩
  · have hjl : j < cs.length := by
      rcases Nat.lt_or_ge j cs.length with h' | h'
      · exact h'
      · rw [List.getElem?_eq_none h'] at hj; cases hj
    have hle : i * 5 + 5 ≤ n * 5 := by omega
    have := World.cell?_setCells_in g cs (i * 5) w1 (fun q' hq' => by simp [World.cell?, h]; omega) j hjl
    rw [this]
    rw [List.getElem?_eq_getElem hjl] at hj
    exact hj
  · exact World.cell?_setCells_out g cs (i * 5) w1 _ (fun _ _ => Or.inl (by simp; omega))

set_option maxRecDepth 100000 in
set_option maxHeartbeats 4000000 in
theorem implErase (T : TypedD) (cs : List Value) (w : World) (hw : wt T ≤ 1048576) (h : typedSh.rep w (· < w.heap.size) cs T) :
    Calls Try.prog 8 #[.agg cs.toArray] w fun e w' => (∃ cs', e = .returned (.agg cs'.toArray) ∧ node.ndSp.rep w' (fun b => w.heap.size ≤ b ∧ b < w'.heap.size) cs' (er T)) ∧ Below w.heap.size w w' := by
  obtain ⟨v0, v1, v2, v3, v4, v5, v6, v7, v8, v9, v10, rfl⟩ := typed_list h
  have HT : Hid (typedSh.rep w (· < w.heap.size) [v0, v1, v2, v3, v4, v5, v6, v7, v8, v9, v10] T) := h
  have o0 := typedSh.one h v0 (by simp)
  have o1 := typedSh.one h v1 (by simp)
  have o2 := typedSh.one h v2 (by simp)
  have o3 := typedSh.one h v3 (by simp)
  have o4 := typedSh.one h v4 (by simp)
  have o5 := typedSh.one h v5 (by simp)
  have o6 := typedSh.one h v6 (by simp)
  have o7 := typedSh.one h v7 (by simp)
  have o8 := typedSh.one h v8 (by simp)
  have o9 := typedSh.one h v9 (by simp)
  have o10 := typedSh.one h v10 (by simp)
  clear h
  have hm1 := make_one
  obtain ⟨ti, hti, hzz⟩ := Option.map_eq_some_iff.1 infoB
  simp only [Prod.mk.injEq] at hzz
  obtain ⟨hz0, hz1, hz2⟩ := hzz
  have TI : Hid (Try.prog.info? 66 = some ti ∧ ti.zero = some (.agg #[.slice none 0 0, .slice none 0 0]) ∧ ti.size = 2 ∧ ti.bytes = 48) := ⟨hti, hz0, hz1, hz2⟩
  clear hti hz0 hz1 hz2
  go_enter Try.func8, Try.ntmps8
  go_wp2
  obtain ⟨WL, hWL⟩ : ∃ WL, WL = ((((w.alloc (.cells #[v0, v1, v2, v3, v4, v5, v6, v7, v8, v9, v10] 39)).alloc (.cells #[.int .i64 0, .int .i64 0, .string ⟨#[]⟩, .string ⟨#[]⟩, .slice none 0 0] 32)).alloc (.cells (madeCells #[.int .i64 0, .int .i64 0, .string ⟨#[]⟩, .string ⟨#[]⟩, .slice none 0 0] 5) 32)).alloc (.cells #[v0, v1, v2, v3, v4, v5, v6, v7, v8, v9, v10] 39)).alloc (.cells #[.slice (some ⟨w.heap.size + 3, 0, none⟩) 1 1, .slice (some ⟨w.heap.size + 2, 0, none⟩) 1 1] 66) := ⟨_, rfl⟩
  obtain ⟨z0, b0, -, k1, k2, k3, k4⟩ := five w _ _ _ _ _ WL hWL
  have B0 : Hid (Bs w WL (.slice (some ⟨w.heap.size + 4, 0, none⟩) 1 1) [⟨[T], w.heap.size + 2, .slice (some ⟨w.heap.size + 3, 0, none⟩) 1 1⟩] (fun _ => False)) := start_st hw HT.out z0 b0 k1 k2 k3 k4
  have hnn : nn T ≤ 1048577 := by have := nn_le T; omega
  first | rw [← hWL] | skip
  clear z0 b0 k1 k2 k3 k4 hWL hm1
  go_loopg [4] (nn T) (fun k v4 wr => ∃ (st : List Tk) (D : Nat → Prop), k = nodes st ∧ k ≤ 1048577 ∧ Hid (Bs w wr v4 st D ∧ Wand wr D st (w.heap.size + 2) T))
  case atStart => exact ⟨_, _, by simp [nodes, nns], hnn, B0.out, Wand.first _ _ _ _⟩
  case round =>
    obtain ⟨st, D, hk, hkb, HI⟩ := hrel
    clear B0
    cases st with
    | nil =>
      have HS := HI.out.2.last
      obtain ⟨aw, cw, css, F, e, -, -, -, hrow⟩ := HS
      simp only [List.length_singleton, List.cons.injEq, Value.slice.injEq, and_true] at e
      obtain ⟨rfl, -, rfl⟩ := e
      obtain ⟨b1, o1', cur, t1, e1, hD1, -, hF1, hc1⟩ := hrow.row (by simp)
      simp only [Option.some.injEq, Addr.mk.injEq, and_true] at e1
      obtain ⟨rfl, rfl⟩ := e1
      have hrep := hrow.rep 0 (by simp)
      have hc := hc1 0 (by simp)
      have hsub := hrow.sub 0 (by simp)
      obtain ⟨n0, n1, n2, n3, n4, hcs⟩ := node.nd_list (node.ndp_rep hrep)
      rw [hcs] at hrep hc
      have on0 := node.ndSp.one hrep n0 (by simp)
      have on1 := node.ndSp.one hrep n1 (by simp)
      have on2 := node.ndSp.one hrep n2 (by simp)
      have on3 := node.ndSp.one hrep n3 (by simp)
      have on4 := node.ndSp.one hrep n4 (by simp)
      have so0 := fun (a : Addr) (m : Mode) (w : World) => run_store Try.prog w a n0 m on0
      have so1 := fun (a : Addr) (m : Mode) (w : World) => run_store Try.prog w a n1 m on1
      have so2 := fun (a : Addr) (m : Mode) (w : World) => run_store Try.prog w a n2 m on2
      have so3 := fun (a : Addr) (m : Mode) (w : World) => run_store Try.prog w a n3 m on3
      have so4 := fun (a : Addr) (m : Mode) (w : World) => run_store Try.prog w a n4 m on4
      have g0 : wr.cell? ⟨w.heap.size + 1 + 1, 0, none⟩ = some n0 := hc 0 _ rfl
      have g1 : wr.cell? ⟨w.heap.size + 1 + 1, 1, none⟩ = some n1 := hc 1 _ rfl
      have g2 : wr.cell? ⟨w.heap.size + 1 + 1, 2, none⟩ = some n2 := hc 2 _ rfl
      have g3 : wr.cell? ⟨w.heap.size + 1 + 1, 3, none⟩ = some n3 := hc 3 _ rfl
      have g4 : wr.cell? ⟨w.heap.size + 1 + 1, 4, none⟩ = some n4 := hc 4 _ rfl
      have r0 : wr.cell? ⟨w.heap.size + 1, 0, none⟩ = some (.int .i64 0) := blk_cell (i := 0) HI.out.1.res rfl
      have r1 : wr.cell? ⟨w.heap.size + 1, 1, none⟩ = some (.int .i64 0) := blk_cell (i := 1) HI.out.1.res rfl
      have r2 : wr.cell? ⟨w.heap.size + 1, 2, none⟩ = some (.string ⟨#[]⟩) := blk_cell (i := 2) HI.out.1.res rfl
      have r3 : wr.cell? ⟨w.heap.size + 1, 3, none⟩ = some (.string ⟨#[]⟩) := blk_cell (i := 3) HI.out.1.res rfl
      have r4 : wr.cell? ⟨w.heap.size + 1, 4, none⟩ = some (.slice none 0 0) := blk_cell (i := 4) HI.out.1.res rfl
      have fr : ∀ o, wr.frozen? ⟨w.heap.size + 1, o, none⟩ = false := fun o => blk_free HI.out.1.res
      obtain ⟨av, cv, hv⟩ : ∃ a c, u4 = .slice a 0 c := by
        rcases HI.out.1.row.2 with ⟨rfl, _⟩ | ⟨q, cap, cur, h1, _⟩
        · exact ⟨_, _, rfl⟩
        · exact ⟨_, _, h1⟩
      have HH : Hid (node.ndSp.rep wr (F 0) [n0, n1, n2, n3, n4] (er T) ∧ (∀ b, F 0 b → D b) ∧ (∀ b, D b → R w b ∧ b < wr.heap.size) ∧ Below w.heap.size w wr ∧ w.heap.size + 5 ≤ wr.heap.size) := ⟨hrep, hsub, HI.out.1.dn, HI.out.1.bel, HI.out.1.size⟩
      subst hv
      clear hrep hc hsub hrow hcs HI hF1 hc1 hD1
      go_wp2
      refine bodyPost_ret (v := .agg #[n0, n1, n2, n3, n4]) (by simp [results, Try.f8, go_sem, r0, r1, r2, r3, r4]) rfl ?_
      obtain ⟨hrep, hsub, hdn, hB, hz⟩ := HH.out
      refine ⟨⟨[n0, n1, n2, n3, n4], by rfl, ?_⟩, ?_⟩
      · refine node.ndSp.mono (node.ndSp.on hrep fun b hS => ?_) fun b hS => ?_
        · have := (hdn b (hsub b hS)).1
          repeat rw [Below.heap_setCell _ _ _ _ (by simp; rcases this with h | h <;> omega)]
        · have := hdn b (hsub b hS)
          exact ⟨by rcases this.1 with h | h <;> omega, by simp [World.setCell]; exact this.2⟩
      · repeat first | with_reducible exact hB | (refine Below.setCell ?_ (by first | (simp; done) | (simp; omega)) _)
    | cons k st =>
      obtain ⟨ts, g, vf⟩ := k
      obtain ⟨gs, cap, hv⟩ := HI.out.1.slice
      subst hv
      obtain ⟨d0, d1⟩ := HI.out.1.top
      simp only [Tk.to] at d1
      obtain ⟨af, cf, css, e, hcap, hmax, -, -⟩ := typeds_open (HI.out.1.reps _ List.mem_cons_self)
      simp only at e
      subst e
      have hn1 : (ts.length : Int) ≤ 9223372036854775807 := by unfold maxLen at hmax; simp only at hcap; omega
      have hcp : (st.length : Int) + 1 ≤ cap ∧ (cap : Int) ≤ 9223372036854775807 := by
        rcases HI.out.1.row.2 with ⟨h, _⟩ | ⟨q, cap', cur, h1, h2, h3, h4, h5, h6⟩
        · cases h
        · cases h1
          unfold maxLen at h5
          simp only [List.length_cons] at h4
          omega
      obtain ⟨hcp1, hcp2⟩ := hcp
      have IN : Hid (In w (wr.alloc (.cells #[.slice af ts.length cf, .slice (some ⟨g, 0, none⟩) ts.length ts.length] 66)) T (.slice (some ⟨gs, 0, none⟩) st.length cap) st D ts g 0 wr.heap.size (.slice af ts.length cf) gk) := by rw [hk]; exact In.start HI.out.1 HI.out.2
      have HTP : Hid (0 < ts.length) := (HI.out.1.tk _ List.mem_cons_self).1
      have HZ : Hid (w.heap.size + 5 ≤ wr.heap.size) := HI.out.1.size
      clear HI hcap hmax hk
      obtain ⟨wo, rfl⟩ : ∃ wo, wo = wr := ⟨_, rfl⟩
      go_wp2
      go_loopw [4, 31] (fun u4 u31 wi => ∃ (i : Nat) (st2 : List Tk), i ≤ ts.length ∧ u31 = .int .i64 i ∧ Hid (In w wi T u4 st2 D ts g i wo.heap.size (.slice af ts.length cf) gk)) (fun _ u31 _ => ts.length - (intOf u31).toNat)
      case atStart => exact ⟨0, st, Nat.zero_le _, rfl, IN⟩
      case round =>
        obtain ⟨i, st2, hi, rfl, HJ⟩ := hrel
        clear IN
        by_cases hlt : i < ts.length
        · obtain ⟨af', cf', css, e, -, -, hrow, hrk⟩ := typeds_open HJ.out.src
          cases e
          obtain ⟨b, o, rfl, hQ, hc⟩ := hrow i hlt
          have hrep := hrk i hlt
          obtain ⟨x0, x1, x2, x3, x4, p4_0, p4_1, p4_2, p4_3, x5, a5, c5, x6, a6, c6, x7, a7, c7, hT, hcs, f0, f1, f2, f3, f4, f5, f6, f7⟩ := typed_open hrep
          rw [hcs] at hc
          have e0 : wr.cell? ⟨b, o + i * 11, none⟩ = some (.int .i64 x0) := hc 0 _ rfl
          have e1 : wr.cell? ⟨b, o + i * 11 + 1, none⟩ = some (.int .i64 x1) := hc 1 _ rfl
          have e2 : wr.cell? ⟨b, o + i * 11 + 2, none⟩ = some (.string x2) := hc 2 _ rfl
          have e3 : wr.cell? ⟨b, o + i * 11 + 3, none⟩ = some (.string x3) := hc 3 _ rfl
          have e4 : wr.cell? ⟨b, o + i * 11 + 4, none⟩ = some (p4_0) := hc 4 _ rfl
          have e5 : wr.cell? ⟨b, o + i * 11 + 5, none⟩ = some (p4_1) := hc 5 _ rfl
          have e6 : wr.cell? ⟨b, o + i * 11 + 6, none⟩ = some (p4_2) := hc 6 _ rfl
          have e7 : wr.cell? ⟨b, o + i * 11 + 7, none⟩ = some (p4_3) := hc 7 _ rfl
          have e8 : wr.cell? ⟨b, o + i * 11 + 8, none⟩ = some (.slice a5 x5.length c5) := hc 8 _ rfl
          have e9 : wr.cell? ⟨b, o + i * 11 + 9, none⟩ = some (.slice a6 x6.length c6) := hc 9 _ rfl
          have e10 : wr.cell? ⟨b, o + i * 11 + 10, none⟩ = some (.slice a7 x7.length c7) := hc 10 _ rfl
          have op0 := ty.tySh.one f4 p4_0 (by simp)
          have sp0 := fun (a : Addr) (m : Mode) (w : World) => run_store Try.prog w a p4_0 m op0
          have op1 := ty.tySh.one f4 p4_1 (by simp)
          have sp1 := fun (a : Addr) (m : Mode) (w : World) => run_store Try.prog w a p4_1 m op1
          have op2 := ty.tySh.one f4 p4_2 (by simp)
          have sp2 := fun (a : Addr) (m : Mode) (w : World) => run_store Try.prog w a p4_2 m op2
          have op3 := ty.tySh.one f4 p4_3 (by simp)
          have sp3 := fun (a : Addr) (m : Mode) (w : World) => run_store Try.prog w a p4_3 m op3
          have HF : Hid ((-9223372036854775808 ≤ x0 ∧ x0 ≤ 9223372036854775807) ∧ (-9223372036854775808 ≤ x1 ∧ x1 ≤ 9223372036854775807) ∧ x2.size ≤ maxLen ∧ x3.size ≤ maxLen) := ⟨f0, f1, f2, f3⟩
          have HK7 : Hid (typedSh.slice.rep wr (Qf w) [.slice a7 x7.length c7] x7) := f7
          have HTi : Hid (ts[i] = .mk (x0, x1, x2, x3, x4, x5, x6) x7) := hT
          have hbd : x2.size ≤ 1048576 ∧ x3.size ≤ 1048576 ∧ x7.length + wts x7 ≤ 1048576 := by
            have h1 := wts_take hlt
            have h2 := wts_take_le ts (i + 1)
            have h3 := HJ.out.bnd
            rw [hT] at h1
            simp only [wt] at h1
            omega
          obtain ⟨hb2, hb3, hb7⟩ := hbd
          obtain ⟨cur, hcur, hcs5⟩ := HJ.out.gb
          have hgl := HJ.out.glt
          have hNg : wo.heap.size ≠ g := HJ.out.nr.2.1
          have hPg : wr.heap.size ≠ g := by omega
          have hNl : wo.heap.size < wr.heap.size := (Array.getElem?_eq_some_iff.1 HJ.out.now).1
          have GB : Hid (wr.heap[g]? = some (.cells cur 32) ∧ cur.size = ts.length * 5) := ⟨hcur, hcs5⟩
          have s0 : wr.cell? ⟨wo.heap.size, 0, none⟩ = some (.slice (some ⟨b, o, none⟩) ts.length cf) := blk_cell (i := 0) HJ.out.now rfl
          clear f0 f1 f2 f3 f4 f5 f6 f7 hrep hcs hc hrow hrk hT hQ hcur hcs5
          go_wp2_with fail
          obtain ⟨wa, hwa⟩ : ∃ wa, wa = wr.alloc (.cells #[.int .i64 x0, .int .i64 x1, .string x2, .string x3, p4_0, p4_1, p4_2, p4_3, .slice a5 x5.length c5, .slice a6 x6.length c6, .slice a7 x7.length c7] 39) := ⟨_, rfl⟩
          have za : wa.heap.size = wr.heap.size + 1 := by rw [hwa]; simp
          have ba : Below wr.heap.size wr wa := by rw [hwa]; exact (Below.refl _ _).alloc (Nat.le_refl _) _
          have ka : wa.heap[wr.heap.size]? = some (.cells #[.int .i64 x0, .int .i64 x1, .string x2, .string x3, p4_0, p4_1, p4_2, p4_3, .slice a5 x5.length c5, .slice a6 x6.length c6, .slice a7 x7.length c7] 39) := by rw [hwa]; exact alloc_top _ _
          rw [← hwa]
          have s1 : wa.cell? ⟨wo.heap.size, 1, none⟩ = some (.slice (some ⟨g, 0, none⟩) ts.length ts.length) := (ba.cell (p := ⟨wo.heap.size, 1, none⟩) hNl).trans (blk_cell (i := 1) HJ.out.now rfl)
          have p0 : wa.cell? ⟨wr.heap.size, 0, none⟩ = some (.int .i64 x0) := blk_cell (i := 0) ka rfl
          have p1 : wa.cell? ⟨wr.heap.size, 1, none⟩ = some (.int .i64 x1) := blk_cell (i := 1) ka rfl
          have p2 : wa.cell? ⟨wr.heap.size, 2, none⟩ = some (.string x2) := blk_cell (i := 2) ka rfl
          have p3 : wa.cell? ⟨wr.heap.size, 3, none⟩ = some (.string x3) := blk_cell (i := 3) ka rfl
          have p4 : wa.cell? ⟨wr.heap.size, 4, none⟩ = some (p4_0) := blk_cell (i := 4) ka rfl
          have p5 : wa.cell? ⟨wr.heap.size, 5, none⟩ = some (p4_1) := blk_cell (i := 5) ka rfl
          have p6 : wa.cell? ⟨wr.heap.size, 6, none⟩ = some (p4_2) := blk_cell (i := 6) ka rfl
          have p7 : wa.cell? ⟨wr.heap.size, 7, none⟩ = some (p4_3) := blk_cell (i := 7) ka rfl
          have p8 : wa.cell? ⟨wr.heap.size, 8, none⟩ = some (.slice a5 x5.length c5) := blk_cell (i := 8) ka rfl
          have p9 : wa.cell? ⟨wr.heap.size, 9, none⟩ = some (.slice a6 x6.length c6) := blk_cell (i := 9) ka rfl
          have p10 : wa.cell? ⟨wr.heap.size, 10, none⟩ = some (.slice a7 x7.length c7) := blk_cell (i := 10) ka rfl
          have PP : Hid (wa.cell? ⟨wo.heap.size, 1, none⟩ = some (.slice (some ⟨g, 0, none⟩) ts.length ts.length) ∧ wa.cell? ⟨wr.heap.size, 0, none⟩ = some (.int .i64 x0) ∧ wa.cell? ⟨wr.heap.size, 1, none⟩ = some (.int .i64 x1) ∧ wa.cell? ⟨wr.heap.size, 2, none⟩ = some (.string x2) ∧ wa.cell? ⟨wr.heap.size, 3, none⟩ = some (.string x3) ∧ wa.cell? ⟨wr.heap.size, 4, none⟩ = some (p4_0) ∧ wa.cell? ⟨wr.heap.size, 5, none⟩ = some (p4_1) ∧ wa.cell? ⟨wr.heap.size, 6, none⟩ = some (p4_2) ∧ wa.cell? ⟨wr.heap.size, 7, none⟩ = some (p4_3) ∧ wa.cell? ⟨wr.heap.size, 8, none⟩ = some (.slice a5 x5.length c5) ∧ wa.cell? ⟨wr.heap.size, 9, none⟩ = some (.slice a6 x6.length c6) ∧ wa.cell? ⟨wr.heap.size, 10, none⟩ = some (.slice a7 x7.length c7)) := ⟨s1, p0, p1, p2, p3, p4, p5, p6, p7, p8, p9, p10⟩
          have BA : Hid (Below wr.heap.size wr wa ∧ wa.heap.size = wr.heap.size + 1) := ⟨ba, za⟩
          clear hwa ka ba e0 e1 e2 e3 e4 e5 e6 e7 e8 e9 e10 s0
          go_region_held3 (fun W => W.cell? ⟨wo.heap.size, 1, none⟩ = some (.slice (some ⟨g, 0, none⟩) ts.length ts.length) ∧ W.cell? ⟨wr.heap.size, 0, none⟩ = some (.int .i64 x0) ∧ W.cell? ⟨wr.heap.size, 1, none⟩ = some (.int .i64 x1) ∧ W.cell? ⟨wr.heap.size, 2, none⟩ = some (.string x2) ∧ W.cell? ⟨wr.heap.size, 3, none⟩ = some (.string x3) ∧ W.cell? ⟨wr.heap.size, 4, none⟩ = some (p4_0) ∧ W.cell? ⟨wr.heap.size, 5, none⟩ = some (p4_1) ∧ W.cell? ⟨wr.heap.size, 6, none⟩ = some (p4_2) ∧ W.cell? ⟨wr.heap.size, 7, none⟩ = some (p4_3) ∧ W.cell? ⟨wr.heap.size, 8, none⟩ = some (.slice a5 x5.length c5) ∧ W.cell? ⟨wr.heap.size, 9, none⟩ = some (.slice a6 x6.length c6) ∧ W.cell? ⟨wr.heap.size, 10, none⟩ = some (.slice a7 x7.length c7))
            (exact ⟨(by first | with_reducible exact s1 | ((repeat rw [cell_set_blk hNg]); with_reducible exact s1) | (show wa.cell? _ = _; with_reducible exact s1)), (by first | with_reducible exact p0 | ((repeat rw [cell_set_blk hPg]); with_reducible exact p0) | (show wa.cell? _ = _; with_reducible exact p0)), (by first | with_reducible exact p1 | ((repeat rw [cell_set_blk hPg]); with_reducible exact p1) | (show wa.cell? _ = _; with_reducible exact p1)), (by first | with_reducible exact p2 | ((repeat rw [cell_set_blk hPg]); with_reducible exact p2) | (show wa.cell? _ = _; with_reducible exact p2)), (by first | with_reducible exact p3 | ((repeat rw [cell_set_blk hPg]); with_reducible exact p3) | (show wa.cell? _ = _; with_reducible exact p3)), (by first | with_reducible exact p4 | ((repeat rw [cell_set_blk hPg]); with_reducible exact p4) | (show wa.cell? _ = _; with_reducible exact p4)), (by first | with_reducible exact p5 | ((repeat rw [cell_set_blk hPg]); with_reducible exact p5) | (show wa.cell? _ = _; with_reducible exact p5)), (by first | with_reducible exact p6 | ((repeat rw [cell_set_blk hPg]); with_reducible exact p6) | (show wa.cell? _ = _; with_reducible exact p6)), (by first | with_reducible exact p7 | ((repeat rw [cell_set_blk hPg]); with_reducible exact p7) | (show wa.cell? _ = _; with_reducible exact p7)), (by first | with_reducible exact p8 | ((repeat rw [cell_set_blk hPg]); with_reducible exact p8) | (show wa.cell? _ = _; with_reducible exact p8)), (by first | with_reducible exact p9 | ((repeat rw [cell_set_blk hPg]); with_reducible exact p9) | (show wa.cell? _ = _; with_reducible exact p9)), (by first | with_reducible exact p10 | ((repeat rw [cell_set_blk hPg]); with_reducible exact p10) | (show wa.cell? _ = _; with_reducible exact p10))⟩)
            (first
              | (go_at_call 33; refine (bare_any x0 x1 x2 x3 p4_0 p4_1 p4_2 p4_3 _ _ _ _ hb2 hb3 op0 op1 op2 op3 rfl rfl rfl).mono ?_
                 rintro e w1 ⟨rfl, hb⟩
                 have hb1 : Below wa.heap.size wa w1 := (Below.refl _ wa).drew.trans hb
                 replace s1 : w1.cell? ⟨wo.heap.size, 1, none⟩ = some (.slice (some ⟨g, 0, none⟩) ts.length ts.length) := (hb1.cell (p := ⟨wo.heap.size, 1, none⟩) (show wo.heap.size < _ by omega)).trans PP.out.1
                 replace p0 : w1.cell? ⟨wr.heap.size, 0, none⟩ = some (.int .i64 x0) := (hb1.cell (p := ⟨wr.heap.size, 0, none⟩) (show wr.heap.size < _ by omega)).trans PP.out.2.1
                 replace p1 : w1.cell? ⟨wr.heap.size, 1, none⟩ = some (.int .i64 x1) := (hb1.cell (p := ⟨wr.heap.size, 1, none⟩) (show wr.heap.size < _ by omega)).trans PP.out.2.2.1
                 replace p2 : w1.cell? ⟨wr.heap.size, 2, none⟩ = some (.string x2) := (hb1.cell (p := ⟨wr.heap.size, 2, none⟩) (show wr.heap.size < _ by omega)).trans PP.out.2.2.2.1
                 replace p3 : w1.cell? ⟨wr.heap.size, 3, none⟩ = some (.string x3) := (hb1.cell (p := ⟨wr.heap.size, 3, none⟩) (show wr.heap.size < _ by omega)).trans PP.out.2.2.2.2.1
                 replace p4 : w1.cell? ⟨wr.heap.size, 4, none⟩ = some (p4_0) := (hb1.cell (p := ⟨wr.heap.size, 4, none⟩) (show wr.heap.size < _ by omega)).trans PP.out.2.2.2.2.2.1
                 replace p5 : w1.cell? ⟨wr.heap.size, 5, none⟩ = some (p4_1) := (hb1.cell (p := ⟨wr.heap.size, 5, none⟩) (show wr.heap.size < _ by omega)).trans PP.out.2.2.2.2.2.2.1
                 replace p6 : w1.cell? ⟨wr.heap.size, 6, none⟩ = some (p4_2) := (hb1.cell (p := ⟨wr.heap.size, 6, none⟩) (show wr.heap.size < _ by omega)).trans PP.out.2.2.2.2.2.2.2.1
                 replace p7 : w1.cell? ⟨wr.heap.size, 7, none⟩ = some (p4_3) := (hb1.cell (p := ⟨wr.heap.size, 7, none⟩) (show wr.heap.size < _ by omega)).trans PP.out.2.2.2.2.2.2.2.2.1
                 replace p8 : w1.cell? ⟨wr.heap.size, 8, none⟩ = some (.slice a5 x5.length c5) := (hb1.cell (p := ⟨wr.heap.size, 8, none⟩) (show wr.heap.size < _ by omega)).trans PP.out.2.2.2.2.2.2.2.2.2.1
                 replace p9 : w1.cell? ⟨wr.heap.size, 9, none⟩ = some (.slice a6 x6.length c6) := (hb1.cell (p := ⟨wr.heap.size, 9, none⟩) (show wr.heap.size < _ by omega)).trans PP.out.2.2.2.2.2.2.2.2.2.2.1
                 replace p10 : w1.cell? ⟨wr.heap.size, 10, none⟩ = some (.slice a7 x7.length c7) := (hb1.cell (p := ⟨wr.heap.size, 10, none⟩) (show wr.heap.size < _ by omega)).trans PP.out.2.2.2.2.2.2.2.2.2.2.2
                 have G1 : Hid (w1.heap[g]? = some (.cells cur 32)) := (hb1.block g (by omega)).trans ((BA.out.1.block g hgl).trans GB.out.1)
                 have fz : ∀ q, w1.frozen? ⟨g, q, none⟩ = false := fun q => blk_free G1.out
                 obtain ⟨q0, y0⟩ : ∃ q, w1.cell? ⟨g, i * 5, none⟩ = some q := ⟨cur[i * 5]'(by have := GB.out.2; omega), by simp [World.cell?, G1.out]⟩
                 obtain ⟨q1, y1⟩ : ∃ q, w1.cell? ⟨g, i * 5 + 1, none⟩ = some q := ⟨cur[i * 5 + 1]'(by have := GB.out.2; omega), by simp [World.cell?, G1.out]⟩
                 obtain ⟨q2, y2⟩ : ∃ q, w1.cell? ⟨g, i * 5 + 2, none⟩ = some q := ⟨cur[i * 5 + 2]'(by have := GB.out.2; omega), by simp [World.cell?, G1.out]⟩
                 obtain ⟨q3, y3⟩ : ∃ q, w1.cell? ⟨g, i * 5 + 3, none⟩ = some q := ⟨cur[i * 5 + 3]'(by have := GB.out.2; omega), by simp [World.cell?, G1.out]⟩
                 obtain ⟨q4, y4⟩ : ∃ q, w1.cell? ⟨g, i * 5 + 4, none⟩ = some q := ⟨cur[i * 5 + 4]'(by have := GB.out.2; omega), by simp [World.cell?, G1.out]⟩
                 have B1 : Hid (Below wa.heap.size wa w1) := hb1
                 clear hb hb1))
          all_goals
            obtain ⟨w2, hw2⟩ : ∃ w2, w2 = (((((w1.setCell ⟨g, i * 5, none⟩ (.int .i64 x0)).setCell ⟨g, i * 5 + 1, none⟩ (.int .i64 x1)).setCell ⟨g, i * 5 + 2, none⟩ (.string x2)).setCell ⟨g, i * 5 + 3, none⟩ (.string x3)).setCell ⟨g, i * 5 + 4, none⟩ (.slice none 0 0)) := ⟨_, rfl⟩
            rw [← hw2]
            have hset : w2 = w1.setCells g (i * 5) [.int .i64 x0, .int .i64 x1, .string x2, .string x3, .slice none 0 0] := hw2
            obtain ⟨m1, m2, m3, m4, m5, m6⟩ := put5 G1.out GB.out.2 hlt [.int .i64 x0, .int .i64 x1, .string x2, .string x3, .slice none 0 0] rfl
            rw [← hset] at m1 m2 m3 m4 m5 m6
            have pk2 : w2.cell? ⟨wr.heap.size, 10, none⟩ = some (.slice a7 x7.length c7) := (World.cell?_of_block (w := w1) (a := ⟨wr.heap.size, 10, none⟩) (m2 _ hPg)).trans p10
            have sk2 : w2.cell? ⟨wo.heap.size, 1, none⟩ = some (.slice (some ⟨g, 0, none⟩) ts.length ts.length) := (World.cell?_of_block (w := w1) (a := ⟨wo.heap.size, 1, none⟩) (m2 _ hNg)).trans s1
            have hz1 : wr.heap.size + 1 ≤ w1.heap.size := by have := B1.out.size; have := BA.out.2; omega
            have MB : Hid (Below w.heap.size w w2) := HJ.out.bs.bel.trans ((BA.out.1.mono (by have := HJ.out.bs.size; omega)).trans ((B1.out.mono (by have := BA.out.1.size; have := HJ.out.bs.size; omega)).trans (m6 _ (by rcases HJ.out.gr.1 with h | h <;> omega))))
            have MS : Hid (∀ b, b < wr.heap.size → b ≠ g → w2.heap[b]? = wr.heap[b]?) := fun b h1 h2 => (m2 b h2).trans ((B1.out.block b (by have := BA.out.2; omega)).trans (BA.out.1.block b h1))
            have MO : Hid (∀ q, q < i * 5 → w2.cell? ⟨g, q, none⟩ = wr.cell? ⟨g, q, none⟩) := fun q hq => (m5 q hq).trans ((B1.out.cell (p := ⟨g, q, none⟩) (show g < _ by have := BA.out.2; omega)).trans (BA.out.1.cell (p := ⟨g, q, none⟩) hgl))
            have M3 : Hid (∃ cur, w2.heap[g]? = some (.cells cur 32) ∧ cur.size = ts.length * 5) := m3
            have M4 : Hid (CellsAt w2 g (i * 5) [.int .i64 x0, .int .i64 x1, .string x2, .string x3, .slice none 0 0]) := m4
            have hz2 : wr.heap.size + 1 ≤ w2.heap.size := by omega
            clear hw2 hset m1 m2 m3 m4 m5 m6 G1 fz y0 y1 y2 y3 y4 B1 s1 PP hz1 p0 p1 p2 p3 p4 p5 p6 p7 p8 p9 p10
            by_cases h7 : x7.length = 0
            · obtain rfl : x7 = [] := List.eq_nil_of_length_eq_zero h7
              replace pk2 : w2.cell? ⟨wr.heap.size, 10, none⟩ = some (.slice a7 0 c7) := pk2
              clear h7
              have NX : Hid (In w w2 T u4 st2 D ts g (i + 1) wo.heap.size (.slice (some ⟨b, o, none⟩) ts.length cf) gk) := by
                refine HJ.out.leaf hlt MB.out (by omega) MS.out M3.out MO.out M4.out rfl (fun w' => ?_) (by rw [HTi.out]; rfl)
                rw [HTi.out]
                have he : er (.mk (x0, x1, x2, x3, x4, x5, x6) []) = .mk (x0, x1, x2, x3) [] := by simp [er, ers]
                rw [he]
                exact node.ndp_shutv HF.out.1 HF.out.2.1 HF.out.2.2.1 HF.out.2.2.2 ⟨none, 0, fun _ => [], fun _ _ => False, rfl, Nat.le_refl _, Nat.zero_le _, fun _ => rfl, fun h => absurd h (Nat.lt_irrefl _), fun i hi => absurd hi (Nat.not_lt_zero _), fun i j hi => absurd hi (Nat.not_lt_zero _), fun i hi => absurd hi (Nat.not_lt_zero _)⟩
              go_wp2
              go_round
              case rel => exact ⟨i + 1, st2, by omega, by go_num, NX⟩
              case measure => simp [intOf]; omega
            · have h7p : (0 : Int) < (x7.length : Int) := by omega
              have hmk := make_nd x7.length (by omega)
              obtain ⟨cur2, hc2, hcs2⟩ := M3.out
              have fz2 : ∀ q, w2.frozen? ⟨g, q, none⟩ = false := fun q => blk_free hc2
              have y4 : w2.cell? ⟨g, i * 5 + 4, none⟩ = some (.slice none 0 0) := M4.out 4 _ rfl
              have hgw : g < w2.heap.size := (Array.getElem?_eq_some_iff.1 hc2).1
              have yA : ∀ o', (w2.alloc o').cell? ⟨g, i * 5 + 4, none⟩ = some (.slice none 0 0) := fun o' => (cell_alloc hgw).trans y4
              have fA : ∀ o' q, (w2.alloc o').frozen? ⟨g, q, none⟩ = false := fun o' q => (World.frozen?_of_block (w := w2) (a := ⟨g, q, none⟩) (Below.heap_alloc _ _ _ hgw)).trans (fz2 q)
              go_wp2_with fail
              go_region_held3 (fun W => W.cell? ⟨wo.heap.size, 1, none⟩ = some (.slice (some ⟨g, 0, none⟩) ts.length ts.length) ∧ W.cell? ⟨wr.heap.size, 10, none⟩ = some (.slice a7 x7.length c7))
                (exact ⟨(by first | with_reducible exact sk2 | ((repeat (first | rw [cell_drew] | rw [cell_set_blk hNg] | rw [cell_alloc (by first | omega | (simp only [size_set]; omega))])); with_reducible exact sk2) | (show w2.cell? _ = _; with_reducible exact sk2)), (by first | with_reducible exact pk2 | ((repeat (first | rw [cell_drew] | rw [cell_set_blk hPg] | rw [cell_alloc (by first | omega | (simp only [size_set]; omega))])); with_reducible exact pk2) | (show w2.cell? _ = _; with_reducible exact pk2))⟩)
                (fail)
              all_goals
                obtain ⟨w3, hw3⟩ : ∃ w3, w3 = (w2.setCell ⟨g, i * 5 + 4, none⟩ (.slice (some ⟨w2.heap.size, 0, none⟩) x7.length x7.length)).alloc (.cells (madeCells #[.int .i64 0, .int .i64 0, .string ⟨#[]⟩, .string ⟨#[]⟩, .slice none 0 0] (x7.length * 5)) 32) := ⟨_, rfl⟩
                rw [← hw3]
                have z3 : w3.heap.size = w2.heap.size + 1 := by rw [hw3]; simp
                have n1 : Hid (∀ b, b < w2.heap.size → b ≠ g → w3.heap[b]? = w2.heap[b]?) := fun b h1 h2 => by rw [hw3, Below.heap_alloc _ _ _ (by rw [size_set]; exact h1), block_set h2]
                have n2 : Hid (∃ cur, w3.heap[g]? = some (.cells cur 32) ∧ cur.size = ts.length * 5) := by
                  obtain ⟨c, h1, h2⟩ := setCells_block g [.slice (some ⟨w2.heap.size, 0, none⟩) x7.length x7.length] (i * 5 + 4) w2 cur2 hc2
                  exact ⟨c, by rw [hw3, Below.heap_alloc _ _ _ (by rw [size_set]; exact hgw)]; exact h1, by rw [h2, hcs2]⟩
                have n3 : Hid (∀ q, q ≠ i * 5 + 4 → w3.cell? ⟨g, q, none⟩ = w2.cell? ⟨g, q, none⟩) := fun q hq => by rw [hw3, cell_alloc (by rw [size_set]; exact hgw), cell_set_ne hq]
                have y3 : w3.cell? ⟨g, i * 5 + 4, none⟩ = some (.slice (some ⟨w2.heap.size, 0, none⟩) x7.length x7.length) := by rw [hw3, cell_alloc (by rw [size_set]; exact hgw)]; exact cell_set_eq y4
                have n4 : Hid (w3.heap[w2.heap.size]? = some (.cells (madeCells #[.int .i64 0, .int .i64 0, .string ⟨#[]⟩, .string ⟨#[]⟩, .slice none 0 0] (x7.length * 5)) 32)) := by
                  have := alloc_top (w2.setCell ⟨g, i * 5 + 4, none⟩ (.slice (some ⟨w2.heap.size, 0, none⟩) x7.length x7.length)) (.cells (madeCells #[.int .i64 0, .int .i64 0, .string ⟨#[]⟩, .string ⟨#[]⟩, .slice none 0 0] (x7.length * 5)) 32)
                  rw [size_set] at this
                  rw [hw3]; exact this
                have s3 : w3.cell? ⟨wo.heap.size, 1, none⟩ = some (.slice (some ⟨g, 0, none⟩) ts.length ts.length) := (World.cell?_of_block (w := w2) (a := ⟨wo.heap.size, 1, none⟩) (n1.out wo.heap.size (by omega) hNg)).trans sk2
                have p3 : w3.cell? ⟨wr.heap.size, 10, none⟩ = some (.slice a7 x7.length c7) := (World.cell?_of_block (w := w2) (a := ⟨wr.heap.size, 10, none⟩) (n1.out wr.heap.size (by omega) hPg)).trans pk2
                have B3 : Hid (Below w.heap.size w w3) := by rw [hw3]; exact (MB.out.setCell (p := ⟨g, i * 5 + 4, none⟩) (by rcases HJ.out.gr.1 with h | h <;> (show w.heap.size ≤ g; omega)) _).alloc (by rw [size_set]; exact MB.out.size) _
                have RW : Hid (wr.ownsRow (w.heap.size + 4) 66 2 u4 st2.length (rows st2)) := HJ.out.bs.row
                have HOW : Hid (∀ q, u4.ownBlock = some q → w.heap.size + 4 ≤ q ∧ q < wr.heap.size) := fun q e => HJ.out.bs.ownge e
                have HNO : Hid (u4.ownBlock ≠ some g ∧ u4.ownBlock ≠ some wo.heap.size) := ⟨HJ.out.gr.2.2.1, HJ.out.nr.2.2.2.1⟩
                have RA : Hid (World.ownsRow ((w3.alloc (.cells #[.slice a7 x7.length c7, .slice (some ⟨w2.heap.size, 0, none⟩) x7.length x7.length] 66)).drew.drew) (w.heap.size + 4) 66 2 u4 st2.length (rows st2)) := by
                  show World.ownsRow (w3.alloc (.cells #[.slice a7 x7.length c7, .slice (some ⟨w2.heap.size, 0, none⟩) x7.length x7.length] 66)) (w.heap.size + 4) 66 2 u4 st2.length (rows st2)
                  obtain ⟨hl, hv⟩ := RW.out
                  refine ⟨hl, ?_⟩
                  rcases hv with h0 | ⟨q, cp, cr, h1, h2, h3, h4⟩
                  · exact Or.inl h0
                  · have hq := (Array.getElem?_eq_some_iff.1 h3).1
                    have hqg : q ≠ g := fun e => HNO.out.1 (by rw [h1, ← e]; rfl)
                    exact Or.inr ⟨q, cp, cr, h1, h2, by rw [Below.heap_alloc _ _ _ (by omega), n1.out q (by omega) hqg, MS.out q hq hqg]; exact h3, h4⟩
                have SZ : Hid (w.heap.size + 5 ≤ wr.heap.size) := HJ.out.bs.size
                have LST : Hid (st2.length ≤ 1048577) := by
                  show _ ≤ _
                  have h1 := HJ.out.cnt
                  have h2 : st2.length ≤ nodes st2 := len_nodes (fun k hk => (HJ.out.bs.tk k hk).1)
                  omega
                have S3 : Hid (w3.cell? ⟨wo.heap.size, 1, none⟩ = some (.slice (some ⟨g, 0, none⟩) ts.length ts.length) ∧ w3.cell? ⟨wr.heap.size, 10, none⟩ = some (.slice a7 x7.length c7) ∧ w3.cell? ⟨g, i * 5 + 4, none⟩ = some (.slice (some ⟨w2.heap.size, 0, none⟩) x7.length x7.length)) := ⟨s3, p3, y3⟩
                clear hw3 fA yA y4 fz2 hmk sk2 pk2
                go_wp2_with fail
                go_region_held3 (fun W => W.cell? ⟨wo.heap.size, 1, none⟩ = some (.slice (some ⟨g, 0, none⟩) ts.length ts.length) ∧ W.cell? ⟨wr.heap.size, 10, none⟩ = some (.slice a7 x7.length c7) ∧ W.cell? ⟨g, i * 5 + 4, none⟩ = some (.slice (some ⟨w2.heap.size, 0, none⟩) x7.length x7.length))
                  (exact ⟨(by first | with_reducible exact s3 | ((repeat (first | rw [cell_drew] | rw [cell_alloc (by omega)])); with_reducible exact s3)), (by first | with_reducible exact p3 | ((repeat (first | rw [cell_drew] | rw [cell_alloc (by omega)])); with_reducible exact p3)), (by first | with_reducible exact y3 | ((repeat (first | rw [cell_drew] | rw [cell_alloc (by omega)])); with_reducible exact y3))⟩)
                  (first
                    | (refine step_append_own rfl _ _ 67 rfl (w.heap.size + 4) 66 ti _ 2 48 Try.underlying67 TI.out.1 TI.out.2.1 TI.out.2.2.1 TI.out.2.2.2 rfl (by decide) u4 st2.length _ (by simp [Act.eval]) RA.out ⟨w3.heap.size, 0, none⟩ 1 1 [.slice a7 x7.length c7, .slice (some ⟨w2.heap.size, 0, none⟩) x7.length x7.length] (by simp [Act.eval]) rfl (fun j u hj => cells_new w3 _ _ _ rfl j u hj) (by simp [Value.oneCell']) (by unfold maxLen; have := LST.out; omega) (by have := LST.out; omega) (by have := SZ.out; show _ ≤ (w3.alloc _).heap.size; simp; omega) ?_; intro ua ul uc w5 hown5 hgrow5 hat5
                       replace s3 : w5.cell? ⟨wo.heap.size, 1, none⟩ = some (.slice (some ⟨g, 0, none⟩) ts.length ts.length) := (cellG hgrow5 (b := wo.heap.size) (o := 1) (show _ < (w3.alloc _).heap.size by simp; omega) HNO.out.2).trans ((cell_alloc (w := w3) (by omega)).trans S3.out.1)
                       replace p3 : w5.cell? ⟨wr.heap.size, 10, none⟩ = some (.slice a7 x7.length c7) := (cellG hgrow5 (b := wr.heap.size) (o := 10) (show _ < (w3.alloc _).heap.size by simp; omega) (fun e => by have := (HOW.out _ e).2; omega)).trans ((cell_alloc (w := w3) (by omega)).trans S3.out.2.1)
                       replace y3 : w5.cell? ⟨g, i * 5 + 4, none⟩ = some (.slice (some ⟨w2.heap.size, 0, none⟩) x7.length x7.length) := (cellG hgrow5 (b := g) (o := i * 5 + 4) (show _ < (w3.alloc _).heap.size by simp; omega) HNO.out.1).trans ((cell_alloc (w := w3) (by omega)).trans S3.out.2.2)))
                all_goals
                  have NX : Hid (In w w5 T (.slice ua ul uc) (⟨x7, w2.heap.size, .slice a7 x7.length c7⟩ :: st2) D ts g (i + 1) wo.heap.size (.slice (some ⟨b, o, none⟩) ts.length cf) gk) := by
                    refine HJ.out.more (k := ⟨x7, w2.heap.size, .slice a7 x7.length c7⟩) (cs := [.int .i64 x0, .int .i64 x1, .string x2, .string x3, .slice (some ⟨w2.heap.size, 0, none⟩) x7.length x7.length]) (w3 := w3) (w4 := (w3.alloc (.cells #[.slice a7 x7.length c7, .slice (some ⟨w2.heap.size, 0, none⟩) x7.length x7.length] 66)).drew.drew) hlt B3.out (by omega) (fun b h1 h2 => (n1.out b (by omega) h2).trans (MS.out b h1 h2)) n2.out (fun q hq => (n3.out q (by omega)).trans (MO.out q hq)) ?_ rfl ?_ (by rw [HTi.out]; rfl) (by show 0 < x7.length; omega) ⟨by show wr.heap.size ≤ w2.heap.size; omega, by show w2.heap.size < w3.heap.size; omega⟩ ⟨_, n4.out, by simp [size_madeCells]⟩ HK7.out (((Below.refl _ w3).alloc (Nat.le_refl _) _).drew.drew) hown5 hgrow5 hat5
                    · intro q v hq
                      match q, hq with
                      | 0, hq => rw [n3.out _ (by omega)]; exact M4.out 0 _ hq
                      | 1, hq => rw [n3.out _ (by omega)]; exact M4.out 1 _ hq
                      | 2, hq => rw [n3.out _ (by omega)]; exact M4.out 2 _ hq
                      | 3, hq => rw [n3.out _ (by omega)]; exact M4.out 3 _ hq
                      | 4, hq => simp at hq; subst hq; exact S3.out.2.2
                      | _ + 5, hq => simp at hq
                    · intro w' F hF
                      rw [HTi.out]
                      have he : er (.mk (x0, x1, x2, x3, x4, x5, x6) x7) = .mk (x0, x1, x2, x3) (ers x7) := by simp [er]
                      rw [he]
                      exact node.ndp_shutv HF.out.1 HF.out.2.1 HF.out.2.2.1 HF.out.2.2.2 hF
                  clear hown5 hgrow5 hat5 s3 p3 y3
                  go_wp2
                  go_round
                  case rel => exact ⟨i + 1, _, by omega, by go_num, NX⟩
                  case measure => simp [intOf]; omega
        · obtain rfl : i = ts.length := by omega
          obtain ⟨h1, h2, h3⟩ := HJ.out.done
          have HD : Hid (Bs w wr u4 st2 (fun b => D b ∨ b = g) ∧ Wand wr (fun b => D b ∨ b = g) st2 (w.heap.size + 2) T) := ⟨h1, h2⟩
          clear h1 h2 HJ
          go_wp2
          go_roundg (nodes st2)
          case rel => exact ⟨st2, _, rfl, by have := HTP.out; omega, HD⟩
          case measure => have := HTP.out; omega

end Go.Proofs.Ytklcjjckelahcaa.typed

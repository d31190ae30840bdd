/-
  The program's SubOk, at every list of Binds; nothing that was there is turned.
-/
import Derived.Test.YtfekbchmgnpkaaaTyOkImpl
import Derived.Test.YtfekbchmgnpkaaaStandings
import Derived.Maps.OwnIn
import Derived.Maps.OwnOps
import Derived.Maps.OwnSet
import Derived.Sort.LoopGhostIn
namespace Go.Proofs.Ytfekbchmgnpkaaa.bind
open Go.RowKit Go.Shelf Go.Maps Go.Proofs.Ytfekbchmgnpkaaa.rose Go.Proofs.Ytfekbchmgnpkaaa.rangeb Go.Proofs.Ytfekbchmgnpkaaa.keys Go.Proofs.Ytfekbchmgnpkaaa
set_option linter.unusedVariables false
set_option linter.unusedSimpArgs false
attribute [local go_sem] Oper.semAt_some

def goodB (b : BindD) : Bool := decide (0 ≤ b.1) && ty.tyOkB b.2
/-- The vars of the Binds' types. -/
def vs (s : List BindD) : List Int := s.flatMap fun b => ty.varsL (ty.allT b.2)
def subOkB (s : List BindD) : Bool := s.all goodB && (decide (nums s).Nodup && (nums s).all fun x => !decide (x ∈ vs s))

theorem nums_length (s : List BindD) : (nums s).length = s.length := by simp [nums]

theorem full_iff (s : List BindD) : decide (((once [] (nums s)).filter fun x => !decide (x ∈ vs s)).length = s.length) = (decide (nums s).Nodup && (nums s).all fun x => !decide (x ∈ vs s)) := by
  have h1 := List.length_filter_le (fun x => !decide (x ∈ vs s)) (once [] (nums s))
  have h2 := once_le [] (nums s)
  rw [nums_length] at h2
  simp at h2
  by_cases hn : (nums s).Nodup
  · have h3 := once_nodup (ks := []) hn (by simp)
    rw [nums_length] at h3
    simp at h3
    rw [decide_eq_true hn, Bool.true_and]
    by_cases ha : (nums s).all (fun x => !decide (x ∈ vs s)) = true
    · rw [ha, decide_eq_true]
      rw [← h3, List.length_filter_eq_length_iff]
      intro x hx
      rw [mem_once] at hx
      exact List.all_eq_true.1 ha x (by simpa using hx)
    · have ha' : (nums s).all (fun x => !decide (x ∈ vs s)) = false := by simpa using ha
      rw [ha', decide_eq_false]
      intro he
      rw [← h3, List.length_filter_eq_length_iff] at he
      exact ha (List.all_eq_true.2 fun x hx => he x (by rw [mem_once]; exact Or.inr hx))
  · rw [decide_eq_false hn, Bool.false_and, decide_eq_false]
    intro he
    have h3 : (once [] (nums s)).length = ([] : List Int).length + (nums s).length := by rw [nums_length]; simp; omega
    exact hn (once_full h3).2

theorem strike_filter {L done : List Int} (x : Int) : ((L.filter fun y => !decide (y ∈ done)).filter fun y => !decide (y = x)) = L.filter fun y => !decide (y ∈ done ++ [x]) := by
  rw [List.filter_filter]
  refine List.filter_congr fun y _ => ?_
  by_cases e : y = x <;> simp [e]
theorem filter_next {L a b c : List Int} (h : ∀ x, x ∈ c ↔ x ∈ b) : ((L.filter fun y => !decide (y ∈ a)).filter fun y => !decide (y ∈ c)) = L.filter fun y => !decide (y ∈ a ++ b) := by
  rw [List.filter_filter]
  refine List.filter_congr fun y _ => ?_
  have := h y
  by_cases h1 : y ∈ a <;> by_cases h2 : y ∈ b <;> simp_all

theorem vs_take {s : List BindD} {i : Nat} (h : i < s.length) : vs (s.take (i + 1)) = vs (s.take i) ++ ty.varsL (ty.allT s[i].2) := by
  unfold vs
  rw [List.take_succ_eq_append_getElem h, List.flatMap_append]
  simp
theorem good_take {s : List BindD} {i : Nat} (h : i < s.length) : (s.take (i + 1)).all goodB = ((s.take i).all goodB && goodB s[i]) := by
  rw [List.take_succ_eq_append_getElem h, List.all_append]
  simp
theorem good_no {s : List BindD} {i : Nat} (h : i < s.length) (hk : goodB s[i] = false) : s.all goodB = false := by
  rw [List.all_eq_false]
  exact ⟨s[i], List.getElem_mem h, by simp [hk]⟩

theorem ret_bool {a b : Bool} (h : a = b) : Ending.returned (.bool a) = Ending.returned (.bool b) := by rw [h]

theorem owns_belowS {w w' : World} {P : Program} {k : TypeId} {R : Value → Option (DataW Unit × List MemPlace)} {b n B : Nat} {D : DataW Unit} (h : w.ownsMap P k R b n D) (hb : Below B w w') (hB : b < B) : w'.ownsMap P k R b n D := by
  obtain ⟨es, clock, h1, r⟩ := h
  exact ⟨es, clock, (hb.block b hB).trans h1, r⟩

/-- The mark of a range over a function among the deferred calls. -/
def mark (D : Nat) : Deferred := { target := .collected D, args := #[] }

/-- A frame leaves through any row of marks whose blocks hand nothing over. -/
theorem leaves_marks {F : Fence} {n : Nat} {P : Program} {fn : Func} {tmps : Array Value} {R : Ending → World → Prop} {B : Nat} : ∀ (Ds : List Nat) (W : World), Ds.Nodup → (∀ D ∈ Ds, B ≤ D ∧ W.heap[D]? = some (.deferred (some []))) → (∀ W', Below B W W' → LeavesIn F n P fn tmps R [] .returning W') → LeavesInM F n P fn tmps R (Ds.map mark) .returning W
  | [], W, _, _, h => h W (Below.refl _ _)
  | D :: Ds, W, hn, hD, h => by
    refine ⟨by simp, .inl ⟨_, _, rfl, run_takeDeferred (hD D (by simp)).2, ?_⟩⟩
    have hp := put_below W (.deferred none) (hD D (by simp)).2 (hD D (by simp)).1
    refine leaves_marks Ds _ (List.nodup_cons.1 hn).2 (fun D' hD' => ⟨(hD D' (by simp [hD'])).1, ?_⟩) (fun W' hb => h W' (hp.trans hb))
    rw [World.putObj_heap_other (by intro e; exact (List.nodup_cons.1 hn).1 (e ▸ hD'))]
    exact (hD D' (by simp [hD'])).2

/-- The deferred calls are marks of blocks behind B3, each once, that hand nothing over. -/
def Marks (W : World) (B3 : Nat) (ds : List Deferred) : Prop := ∃ Ds : List Nat, ds = Ds.map mark ∧ Ds.Nodup ∧ ∀ D ∈ Ds, B3 < D ∧ W.heap[D]? = some (.deferred (some []))
theorem Marks.on {W W' : World} {B3 : Nat} {ds : List Deferred} (h : Marks W B3 ds) (hb : ∀ k, B3 < k → k < W.heap.size → W'.heap[k]? = W.heap[k]?) : Marks W' B3 ds := by
  obtain ⟨Ds, h1, h2, h3⟩ := h
  exact ⟨Ds, h1, h2, fun D hD => ⟨(h3 D hD).1, (hb D (h3 D hD).1 (Array.getElem?_eq_some_iff.1 (h3 D hD).2).1).trans (h3 D hD).2⟩⟩
theorem Marks.more {W W' : World} {B3 Z D : Nat} {ds : List Deferred} (h : Marks W B3 ds) (hb : ∀ k, B3 < k → k < W.heap.size → W'.heap[k]? = W.heap[k]?) (hD : W.heap.size ≤ D) (hB : B3 < D) (hd : W'.heap[D]? = some (.deferred (some []))) : Marks W' B3 (mark D :: ds) := by
  obtain ⟨Ds, h1, h2, h3⟩ := h
  refine ⟨D :: Ds, by rw [h1]; rfl, List.nodup_cons.2 ⟨fun hm => ?_, h2⟩, fun D' hD' => ?_⟩
  · have := (Array.getElem?_eq_some_iff.1 (h3 D hm).2).1
    omega
  · rcases List.mem_cons.1 hD' with rfl | hm
    · exact ⟨hB, hd⟩
    · exact ⟨(h3 D' hm).1, (hb D' (h3 D' hm).1 (Array.getElem?_eq_some_iff.1 (h3 D' hm).2).1).trans (h3 D' hm).2⟩
theorem Marks.leave {F : Fence} {n : Nat} {P : Program} {fn : Func} {tmps : Array Value} {R : Ending → World → Prop} {W : World} {B3 B : Nat} {ds : List Deferred} (h : Marks W B3 ds) (hB : B ≤ B3) (hl : ∀ W', Below B W W' → LeavesIn F n P fn tmps R [] .returning W') : LeavesInM F n P fn tmps R ds .returning W := by
  obtain ⟨Ds, rfl, h2, h3⟩ := h
  exact leaves_marks Ds W h2 (fun D hD => ⟨by have := (h3 D hD).1; omega, (h3 D hD).2⟩) hl

/-- What stands behind i Binds. -/
structure Now (w wr : World) (s : List BindD) (B3 : Nat) (ds : List Deferred) (i : Nat) : Prop where
  good : (s.take i).all goodB = true
  bel : Below w.heap.size w wr
  box : wr.heap[B3]? = some (.cells #[.map (some w.heap.size)] 71)
  lt : w.heap.size < B3
  map : ∃ D, wr.ownsMap Try.prog 3 standElem w.heap.size s.length D ∧ Keys D ((once [] (nums s)).filter fun x => !decide (x ∈ vs (s.take i)))
  marks : Marks wr B3 ds
theorem Now.ltB {w wr : World} {s : List BindD} {B3 : Nat} {ds : List Deferred} {i : Nat} (h : Now w wr s B3 ds i) : B3 < wr.heap.size := (Array.getElem?_eq_some_iff.1 h.box).1
theorem Now.on {w wr wr' : World} {s : List BindD} {B3 : Nat} {ds : List Deferred} {i : Nat} (h : Now w wr s B3 ds i) (hb : Below wr.heap.size wr wr') : Now w wr' s B3 ds i := by
  refine ⟨h.good, h.bel.trans (hb.mono h.bel.size), (hb.block _ h.ltB).trans h.box, h.lt, ?_, h.marks.on fun k _ hk => hb.block k hk⟩
  obtain ⟨D, h1, h2⟩ := h.map
  exact ⟨D, owns_belowS h1 hb (Nat.lt_trans h.lt h.ltB), h2⟩

set_option maxRecDepth 100000 in
set_option maxHeartbeats 4000000 in
theorem implSubOk (s : List BindD) (v : Value) (w : World) (hw : s.length + wts s ≤ 1048576) (h : bindSh.slice.rep w (· < w.heap.size) [v] s) :
    Calls Try.prog 19 #[v] w fun e w' => e = .returned (.bool (subOkB s)) ∧ Below w.heap.size w w' := by
  refine (callsIn_wide (n := 6)).1 ?_
  have hst := standings_any s v w (by omega) h
  obtain ⟨a, cap, css, rfl, hcap, hmax, hrow, hk⟩ := binds_open h
  have HR : Hid (RowAt w (· < w.heap.size) 5 a s.length css ∧ ∀ i (h : i < s.length), bindSh.rep w (· < w.heap.size) (css i) s[i]) := ⟨hrow, hk⟩
  clear hrow hk h hcap hmax
  have hmx : (s.length : Int) ≤ 9223372036854775807 := by omega
  obtain ⟨q, hq⟩ : ∃ q, q = subOkB s := ⟨_, rfl⟩
  have HQ : Hid (q = subOkB s) := hq
  rw [← hq]
  clear hq
  refine callsIn_of_wp_marks Try.func19 rfl trivial ?_ rfl
  simp only [Try.ntmps19, List.size_toArray, List.length_cons, List.length_nil, Nat.reduceAdd, Nat.reduceSub, Array.replicate_succ, Array.replicate_zero, List.push_toArray, List.append_toArray, List.nil_append, List.cons_append]
  gi_wp2_with fail
  refine ⟨trivial, ?_⟩
  refine (callsIn_wide.2 hst).mono ?_
  clear hst
  rintro e w0 ⟨rfl, hb0, D0, hD0, hK0⟩
  have N0 : Hid (Now w (w0.alloc (.cells #[.map (some w.heap.size)] 71)) s w0.heap.size [] 0) := ⟨by simp, hb0.alloc hb0.size _, alloc_top _ _, hD0.lt, ⟨D0, hD0.alloc _, by rw [List.filter_eq_self.2 (by simp [vs])]; exact hK0⟩, [], rfl, List.nodup_nil, by simp⟩
  clear hb0 D0 hD0 hK0
  gi_wp2
  refine wpIn_loop_ghost_k (fun k a' wr => ∃ (ds : List Deferred) (u11 u5 u6 u12 u13 u14 u15 u16 u17 u18 u19 u20 u21 u22 u23 u24 u25 u26 u27 u28 u29 u30 u31 u32 u33 u34 : Value), (∃ i : Nat, k + i = s.length ∧ u11 = .int .i64 i ∧ Hid (Now w wr s w0.heap.size ds i)) ∧ a' = { tmps := #[.slice a s.length cap, undef, .bool false, .pointer (some ⟨w0.heap.size, 0, none⟩), undef, u5, u6, .slice a s.length cap, .map (some w.heap.size), .slice a s.length cap, .int .i64 s.length, u11, u12, u13, u14, u15, u16, u17, u18, u19, u20, u21, u22, u23, u24, u25, u26, u27, u28, u29, u30, u31, u32, u33, u34, undef, undef, undef, undef, undef], defers := ds }) s.length ?_ ?_
  · exact ⟨[], _, _, _, _, _, _, _, _, _, _, _, _, _, _, _, _, _, _, _, _, _, _, _, _, _, _, ⟨0, rfl, rfl, N0⟩, rfl⟩
  clear N0
  intro gk a' wr hI
  obtain ⟨ds, u11, u5, u6, u12, u13, u14, u15, u16, u17, u18, u19, u20, u21, u22, u23, u24, u25, u26, u27, u28, u29, u30, u31, u32, u33, u34, ⟨i, hki, rfl, HI⟩, rfl⟩ := hI
  intro _ _ _ _
  by_cases hlt : i < s.length
  · obtain ⟨b, o, rfl, hS, hc⟩ := HR.out.1 i hlt
    obtain ⟨x0, T, v0, v1, v2, v3, hT, hcs, f0, f1⟩ := bind_open (HR.out.2 i hlt)
    rw [hcs] at hc
    have hBW := HI.out.bel
    have e0 := (hBW.cell (p := ⟨b, o + i * 5, none⟩) hS).trans (hc 0 _ rfl)
    have e1 := (hBW.cell (p := ⟨b, o + i * 5 + 1, none⟩) hS).trans (hc 1 _ rfl)
    have e2 := (hBW.cell (p := ⟨b, o + i * 5 + 2, none⟩) hS).trans (hc 2 _ rfl)
    have e3 := (hBW.cell (p := ⟨b, o + i * 5 + 3, none⟩) hS).trans (hc 3 _ rfl)
    have e4 := (hBW.cell (p := ⟨b, o + i * 5 + 4, none⟩) hS).trans (hc 4 _ rfl)
    have hwT : ty.wt T ≤ 1048576 := by
      have h1 := wt_mem (List.getElem_mem hlt)
      rw [hT] at h1
      simp [wt] at h1
      omega
    have hle := ty.all_le T
    have HN : Hid (vs (s.take (i + 1)) = vs (s.take i) ++ ty.varsL (ty.allT T)) := by show _ = _; rw [vs_take hlt, hT]
    have HX : Hid (goodB s[i] = (decide (0 ≤ x0) && ty.tyOkB T)) := by show _ = _; rw [hT]; rfl
    have RT : Hid (ty.tySh.rep w (· < w.heap.size) [v0, v1, v2, v3] T) := f1
    have AT : Hid (∀ w' : World, Below w.heap.size w w' → ty.tySh.rep w' (· < w'.heap.size) [v0, v1, v2, v3] T) := fun w' hb => ty.tySh.mono (ty.tySh.below f1 hb) fun b hlt => Nat.lt_of_lt_of_le hlt hb.size
    obtain ⟨t0, t1, t2, tk, ta, tc, hTT, hu, -⟩ := ty.ty_open f1
    simp only [List.cons.injEq, and_true] at hu
    obtain ⟨rfl, rfl, rfl, rfl⟩ := hu
    have HI1 : Hid (Now w (wr.alloc (.cells #[.int .i64 x0, .int .i64 t0, .int .i64 t1, .string t2, .slice ta tk.length tc] 67)) s w0.heap.size ds i) := HI.out.on ((Below.refl _ _).alloc (Nat.le_refl _) _)
    clear hT hcs hc f1 hTT HI hBW
    have OUT : Hid (goodB s[i] = false → q = false) := fun h => by rw [HQ.out]; unfold subOkB; rw [good_no hlt h]; rfl
    by_cases hx : x0 < 0
    · have hq2 : Hid (q = false) := OUT.out (by rw [HX.out, decide_eq_false (by omega)]; rfl)
      gi_wp2
      refine ⟨trivial, ?_⟩
      gi_wp2
      refine HI1.out.marks.leave (Nat.le_of_lt HI1.out.lt) fun W' hb => ?_
      exact ⟨_, results_tmp (t := 2) rfl _ _ _, ret_bool hq2.out.symm, HI1.out.bel.trans hb⟩
    · have hx' : 0 ≤ x0 := by omega
      gi_wp2_with fail
      refine ⟨trivial, ?_⟩
      refine (callsIn_wide.2 (ty.implTyOk T _ _ hwT (AT.out _ HI1.out.bel))).mono ?_
      rintro e w2 ⟨rfl, hb⟩
      have HI2 : Hid (Now w w2 s w0.heap.size ds i) := HI1.out.on hb
      by_cases hok : ty.tyOkB T = true
      · rw [hok]
        have hG2 : Hid ((s.take (i + 1)).all goodB = true) := by show _ = _; rw [good_take hlt, HI2.out.good, HX.out, hok, decide_eq_true hx']; rfl
        have y1 : w2.cell? ⟨wr.heap.size, 1, none⟩ = some (.int .i64 t0) := (hb.cell (p := ⟨wr.heap.size, 1, none⟩) (by simp)).trans (by simp)
        have y2 : w2.cell? ⟨wr.heap.size, 2, none⟩ = some (.int .i64 t1) := (hb.cell (p := ⟨wr.heap.size, 2, none⟩) (by simp)).trans (by simp)
        have y3 : w2.cell? ⟨wr.heap.size, 3, none⟩ = some (.string t2) := (hb.cell (p := ⟨wr.heap.size, 3, none⟩) (by simp)).trans (by simp)
        have y4 : w2.cell? ⟨wr.heap.size, 4, none⟩ = some (.slice ta tk.length tc) := (hb.cell (p := ⟨wr.heap.size, 4, none⟩) (by simp)).trans (by simp)
        have hz2 : w0.heap.size < w2.heap.size := HI2.out.ltB
        have hz0 : w.heap.size < w0.heap.size := HI2.out.lt
        clear hb hok HI1 OUT HX e0 e1 e2 e3 e4
        gi_wp2_with (refine ⟨trivial, ?_⟩; gi_at_call 38; refine (ty.tysOf_in Fence.wide _ trivial rfl _ _ _ _ _ rfl rfl rfl rfl).mono ?_; rintro e w' ⟨rfl, rfl⟩)
        obtain ⟨base, hbase⟩ : ∃ base, base = (once [] (nums s)).filter fun x => !decide (x ∈ vs (s.take i)) := ⟨_, rfl⟩
        obtain ⟨WL, hWL⟩ : ∃ WL, WL = w2.alloc (.cells #[.int .i64 t0, .int .i64 t1, .string t2, .slice ta tk.length tc] 29) := ⟨_, rfl⟩
        have zL : WL.heap.size = w2.heap.size + 1 := by rw [hWL]; simp
        have bl : Below w2.heap.size w2 WL := by rw [hWL]; exact (Below.refl _ _).alloc (Nat.le_refl _) _
        have cL : CellsAt WL w2.heap.size 0 [.int .i64 t0, .int .i64 t1, .string t2, .slice ta tk.length tc] := by
          rw [hWL]
          intro j v hj
          match j, hj with
          | 0, hj | 1, hj | 2, hj | 3, hj => simp at hj; subst hj; simp
          | _ + 4, hj => simp at hj
        have HIL : Hid (Now w WL s w0.heap.size ds i) := HI2.out.on bl
        have hm := HIL.out.map
        rw [← hbase] at hm
        have HBs : Hid (base = (once [] (nums s)).filter fun x => !decide (x ∈ vs (s.take i))) := hbase
        clear hbase
        rw [← hWL]
        clear hWL
        refine wpIn_rangeFunc_Cx (n₀ := w.heap.size) (N := (ty.allT T).length) rfl (by omega) (gf := 69) (lb := #[.pointer (some ⟨w2.heap.size, 0, none⟩)]) rfl trivial (enters_of Try.func69 (by kernel_rfl) rfl) (by omega)
          (ty.tysOf_stops Fence.wide _ trivial rfl (by omega) w2.heap.size w.heap.size T _ WL (by omega) (by omega) cL (ty.tySh.below RT.out HIL.out.bel) hwT) (fun _ => rfl)
          (fun pre W => W.heap[w0.heap.size]? = some (.cells #[.map (some w.heap.size)] 71) ∧ (∃ D, W.ownsMap Try.prog 3 standElem w.heap.size s.length D ∧ Keys D (base.filter fun y => !decide (y ∈ ty.varsL (pre.map (·.T))))) ∧ Below w.heap.size w W ∧ (∀ k, w0.heap.size < k → k < WL.heap.size → W.heap[k]? = WL.heap[k]?))
          (fun _ _ _ => False)
          (fun s A B hs hb => ⟨(hb.block _ (by omega)).trans hs.1, (by obtain ⟨D, h1, h2⟩ := hs.2.1; exact ⟨D, owns_belowS h1 hb (by omega), h2⟩), hs.2.2.1.trans (hb.mono (by omega)), fun k h1 h2 => (hb.block _ h2).trans (hs.2.2.2 k h1 h2)⟩)
          (fun _ _ _ _ hs _ => hs)
          ⟨HIL.out.box, by obtain ⟨D, h1, h2⟩ := hm; exact ⟨D, h1, by rw [List.filter_eq_self.2 (by simp [ty.varsL])]; exact h2⟩, HIL.out.bel, fun k _ _ => rfl⟩
          (fun x a' W => ∃ (Bx : Nat) (y0 y1 y2 y4 y5 y7 y8 y9 y10 y11 y12 y13 y14 y15 y16 y17 y18 y19 y20 y21 y22 y23 y24 y25 y26 y27 y28 y29 y30 y31 y32 y33 y34 y35 y36 y37 y38 y39 : Value), WL.heap.size + 1 < Bx ∧ W.heap[Bx]? = some (.cells #[.int .i64 x.T.x.1, .int .i64 x.T.x.2.1, .string x.T.x.2.2, .slice x.a x.T.kids.length x.c] 29) ∧ a' = { tmps := #[y0, y1, y2, .pointer (some ⟨w0.heap.size, 0, none⟩), y4, y5, .pointer (some ⟨Bx, 0, none⟩), y7, y8, y9, y10, y11, y12, y13, y14, y15, y16, y17, y18, y19, y20, y21, y22, y23, y24, y25, y26, y27, y28, y29, y30, y31, y32, y33, y34, y35, y36, y37, y38, y39], defers := [] })
          (fun x a' A B hA hb => by
            obtain ⟨Bx, y0, y1, y2, y4, y5, y7, y8, y9, y10, y11, y12, y13, y14, y15, y16, y17, y18, y19, y20, y21, y22, y23, y24, y25, y26, y27, y28, y29, y30, y31, y32, y33, y34, y35, y36, y37, y38, y39, h1, h2, h3⟩ := hA
            exact ⟨Bx, _, _, _, _, _, _, _, _, _, _, _, _, _, _, _, _, _, _, _, _, _, _, _, _, _, _, _, _, _, _, _, _, _, _, _, _, _, _, h1, (hb Bx (by omega)).trans h2, h3⟩) ?assign ?body ?done ?stop
        case assign =>
          intro l pre x W K hi hz hK
          simp only [ty.enc, ty.encV]
          gi_wp2
          obtain ⟨hc, ⟨D, hD, hKs⟩, hB, hH⟩ := hi
          have hb : Below W.heap.size W (W.alloc (.cells #[.int .i64 x.T.x.1, .int .i64 x.T.x.2.1, .string x.T.x.2.2, .slice x.a x.T.kids.length x.c] 29)) := (Below.refl _ _).alloc (Nat.le_refl _) _
          exact hK _ _ (Kept.ofBelow hb (by omega)) ⟨(hb.block _ (by omega)).trans hc, ⟨D, owns_belowS hD hb (by omega), hKs⟩, hB.trans (hb.mono (by omega)), fun k h1 h2 => (hb.block _ (by omega)).trans (hH k h1 h2)⟩ ⟨W.heap.size, _, _, _, _, _, _, _, _, _, _, _, _, _, _, _, _, _, _, _, _, _, _, _, _, _, _, _, _, _, _, _, _, _, _, _, _, _, _, by omega, alloc_top _ _, rfl⟩
        case body =>
          rintro l pre x a' W ⟨hc, ⟨D, hown, hKs⟩, hB, hH⟩ hlen hz ⟨Bx, y0, y1, y2, y4, y5, y7, y8, y9, y10, y11, y12, y13, y14, y15, y16, y17, y18, y19, y20, y21, y22, y23, y24, y25, y26, y27, y28, y29, y30, y31, y32, y33, y34, y35, y36, y37, y38, y39, hBx, hbx, rfl⟩
          have g0 : W.cell? ⟨Bx, 0, none⟩ = some (.int .i64 x.T.x.1) := by simp [World.cell?, hbx]
          have g1 : W.cell? ⟨Bx, 1, none⟩ = some (.int .i64 x.T.x.2.1) := by simp [World.cell?, hbx]
          have g3 : W.cell? ⟨w0.heap.size, 0, none⟩ = some (.map (some w.heap.size)) := by simp [World.cell?, hc]
          have hkey : keyOf Try.prog 3 (.int .i64 x.T.x.2.1) = some (.int .i64 x.T.x.2.1) := keyOf_int_mk Try.underlying3 (wf64 ⟨x.n0, x.n1⟩)
          have HK : Hid _ := hKs
          have HC : Hid _ := hc
          have HH : Hid _ := hH
          clear hKs hc hbx hH
          by_cases hop : x.T.x.1 = 2
          · have hop' : (x.T.x.1 == 2) = true := by simp [hop]
            have HV : Hid (ty.varsL ((pre ++ [x]).map (·.T)) = ty.varsL (pre.map (·.T)) ++ [x.T.x.2.1]) := by
              show _ = _
              rw [List.map_append, List.map_cons, List.map_nil, ty.varsL_yes hop]
            gi_wp2_with (first
              | (gi_at_delete; refine wpListIn_delete_own _ rfl _ _ 71 3 rfl 107 intKey Try.underlying71 _ w.heap.size s.length _ rfl hown _ _ rfl hkey ?_; intro w1 hown1 hturn1)
              | fail)
            have hgrow1 := hturn1.grown
            have hb1 : Below w.heap.size W w1 := (Below.refl _ _).grown hgrow1 (by omega) (fun j hj => by cases hj; exact Nat.le_refl _)
            have hkp : Kept w.heap.size (w2.heap.size + 1) W w1 := ⟨hgrow1.size, fun j hj => hb1.block j hj, fun j h1 h2 => hgrow1.block j h2 (fun e => by have := Option.some.inj e; omega)⟩
            refine ⟨hkp, (hgrow1.block _ (by omega) (fun e => by have := Option.some.inj e; omega)).trans HC.out, ⟨_, hown1, ?_⟩, hB.trans hb1, fun k h1 h2 => (hgrow1.block _ (by omega) (fun e => by have := Option.some.inj e; omega)).trans (HH.out k h1 (by omega))⟩
            rw [HV.out, ← strike_filter]
            exact HK.out.strike (hown.tidy intKey) _
          · have hop' : (x.T.x.1 == 2) = false := by simpa using hop
            have HV : Hid (ty.varsL ((pre ++ [x]).map (·.T)) = ty.varsL (pre.map (·.T))) := by
              show _ = _
              rw [List.map_append, List.map_cons, List.map_nil, ty.varsL_no hop]
            gi_wp2
            exact ⟨Kept.refl _ _ _, HC.out, ⟨D, hown, by rw [HV.out]; exact HK.out⟩, hB, fun k h1 h2 => HH.out k h1 (by omega)⟩
        case done =>
          rintro D ys W hD hS ⟨hc, ⟨Dm, hown, hKs⟩, hB, hH⟩ hK
          rw [hS, HBs.out, filter_next (b := ty.varsL (ty.allT T)) (fun x => Iff.rfl), ← HN.out] at hKs
          have HI3 : Hid (Now w W s w0.heap.size (mark D :: ds) (i + 1)) := ⟨hG2.out, hB, hc, hz0, ⟨Dm, hown, hKs⟩, HIL.out.marks.more (Z := 0) hH hD (by omega) hK⟩
          clear hKs hown hB hc hH hK hm
          gi_wp2
          gi_roundg (s.length - (i + 1))
          case rel => exact ⟨i + 1, by omega, by go_num, HI3⟩
          case measure => omega
        case stop =>
          rintro D c pre W _ _ h _
          exact h.elim
      · have hok' : ty.tyOkB T = false := by simpa using hok
        rw [hok']
        have hq2 : Hid (q = false) := OUT.out (by rw [HX.out, hok']; simp)
        clear hb
        gi_wp2
        refine HI2.out.marks.leave (Nat.le_of_lt HI2.out.lt) fun W' hb => ?_
        exact ⟨_, results_tmp (t := 2) rfl _ _ _, ret_bool hq2.out.symm, HI2.out.bel.trans hb⟩
  · obtain rfl : i = s.length := by omega
    have hA := HI.out.good
    obtain ⟨D, hD, hKD⟩ := HI.out.map
    rw [List.take_length] at hA hKD
    have hsz : Maps.size D = ((once [] (nums s)).filter fun x => !decide (x ∈ vs s)).length := hKD.size
    have hq2 : Hid (q = decide (Maps.size D = s.length)) := by show _ = _; rw [HQ.out, hsz, full_iff]; unfold subOkB; rw [hA]; rfl
    have hlen : (Builtin.len_ #[71] 3 #[.map (some w.heap.size)]).run Try.prog wr = .ok (.int .i64 (Maps.size D : Nat)) wr := hD.len Try.underlying71 3
    have g3 : wr.cell? ⟨w0.heap.size, 0, none⟩ = some (.map (some w.heap.size)) := by have := HI.out.box; simp [World.cell?, this]
    clear hA hKD hsz hD
    gi_wp2
    refine HI.out.marks.leave (Nat.le_of_lt HI.out.lt) fun W' hb => ?_
    refine ⟨_, results_tmp (t := 2) rfl _ _ _, ?_, HI.out.bel.trans hb⟩
    show Ending.returned (.bool (((Maps.size D : Nat) : Int) == ((s.length : Nat) : Int))) = _
    refine ret_bool ?_
    rw [hq2.out]
    by_cases he : Maps.size D = s.length
    · rw [decide_eq_true he, he]; simp
    · rw [decide_eq_false he]
      have : ¬ ((Maps.size D : Nat) : Int) = (s.length : Nat) := by omega
      simp [this]

end Go.Proofs.Ytfekbchmgnpkaaa.bind

/-
  The program's SubOk, at every list of Binds; nothing that was there is turned.
-/
import Derived.Test.YtkojogfljnnfhaaVarsOf
import Derived.Maps.RangeWalk
namespace Go.Proofs.Ytkojogfljnnfhaa.bind
open Go.RowKit Go.Maps Go.Proofs.Ytkojogfljnnfhaa.rose Go.Proofs.Ytkojogfljnnfhaa.keys Go.Proofs.Ytkojogfljnnfhaa
set_option linter.unusedVariables false
set_option linter.unusedSimpArgs false

def goodB (b : BindD) : Bool := decide (0 ≤ b.1) && ty.tyOkB b.2
/-- The vars of the Binds' types. -/
def vs (s : List BindD) : List Int := s.flatMap fun b => ty.varsL (ty.allT b.2)
def subOkB (s : List BindD) : Bool := s.all goodB && (decide (nums s).Nodup && (nums s).all fun x => !decide (x ∈ vs s))

theorem nums_length (s : List BindD) : (nums s).length = s.length := by simp [nums]

theorem full_iff (s : List BindD) : decide (((once [] (nums s)).filter fun x => !decide (x ∈ vs s)).length = s.length) = (decide (nums s).Nodup && (nums s).all fun x => !decide (x ∈ vs s)) := by
  have h1 := List.length_filter_le (fun x => !decide (x ∈ vs s)) (once [] (nums s))
  have h2 := once_le [] (nums s)
  rw [nums_length] at h2
  simp at h2
  by_cases hn : (nums s).Nodup
  · have h3 := once_nodup (ks := []) hn (by simp)
    rw [nums_length] at h3
    simp at h3
    rw [decide_eq_true hn, Bool.true_and]
    by_cases ha : (nums s).all (fun x => !decide (x ∈ vs s)) = true
    · rw [ha, decide_eq_true]
      rw [← h3, List.length_filter_eq_length_iff]
      intro x hx
      rw [mem_once] at hx
      exact List.all_eq_true.1 ha x (by simpa using hx)
    · have ha' : (nums s).all (fun x => !decide (x ∈ vs s)) = false := by simpa using ha
      rw [ha', decide_eq_false]
      intro he
      rw [← h3, List.length_filter_eq_length_iff] at he
      exact ha (List.all_eq_true.2 fun x hx => he x (by rw [mem_once]; exact Or.inr hx))
  · rw [decide_eq_false hn, Bool.false_and, decide_eq_false]
    intro he
    have h3 : (once [] (nums s)).length = ([] : List Int).length + (nums s).length := by rw [nums_length]; simp; omega
    exact hn (once_full h3).2

theorem strike_filter {L done : List Int} (x : Int) : ((L.filter fun y => !decide (y ∈ done)).filter fun y => !decide (y = x)) = L.filter fun y => !decide (y ∈ done ++ [x]) := by
  rw [List.filter_filter]
  refine List.filter_congr fun y _ => ?_
  by_cases e : y = x <;> simp [e]
theorem filter_next {L a b c : List Int} (h : ∀ x, x ∈ c ↔ x ∈ b) : ((L.filter fun y => !decide (y ∈ a)).filter fun y => !decide (y ∈ c)) = L.filter fun y => !decide (y ∈ a ++ b) := by
  rw [List.filter_filter]
  refine List.filter_congr fun y _ => ?_
  have := h y
  by_cases h1 : y ∈ a <;> by_cases h2 : y ∈ b <;> simp_all

theorem vs_take {s : List BindD} {i : Nat} (h : i < s.length) : vs (s.take (i + 1)) = vs (s.take i) ++ ty.varsL (ty.allT s[i].2) := by
  unfold vs
  rw [List.take_succ_eq_append_getElem h, List.flatMap_append]
  simp
theorem good_take {s : List BindD} {i : Nat} (h : i < s.length) : (s.take (i + 1)).all goodB = ((s.take i).all goodB && goodB s[i]) := by
  rw [List.take_succ_eq_append_getElem h, List.all_append]
  simp
theorem good_no {s : List BindD} {i : Nat} (h : i < s.length) (hk : goodB s[i] = false) : s.all goodB = false := by
  rw [List.all_eq_false]
  exact ⟨s[i], List.getElem_mem h, by simp [hk]⟩

theorem ret_bool {a b : Bool} (h : a = b) : Ending.returned (.bool a) = Ending.returned (.bool b) := by rw [h]

set_option maxRecDepth 100000 in
set_option maxHeartbeats 4000000 in
theorem implSubOk (s : List BindD) (v : Value) (w : World) (hw : s.length + wts s ≤ 1048576) (h : bindSh.slice.rep w (· < w.heap.size) [v] s) :
    Calls Try.prog 18 #[v] w fun e w' => e = .returned (.bool (subOkB s)) ∧ Below w.heap.size w w' := by
  have hst := standings_any s v w (by omega) h
  obtain ⟨a, cap, css, rfl, hcap, hmax, hrow, hk⟩ := binds_open h
  have HR : Hid (RowAt w (· < w.heap.size) 5 a s.length css ∧ ∀ i (h : i < s.length), bindSh.rep w (· < w.heap.size) (css i) s[i]) := ⟨hrow, hk⟩
  clear hrow hk h hcap hmax
  obtain ⟨q, hq⟩ : ∃ q, q = subOkB s := ⟨_, rfl⟩
  have HQ : Hid (q = subOkB s) := hq
  rw [← hq]
  clear hq
  go_enter Try.func18, Try.ntmps18
  go_wp2_with fail
  refine hst.mono ?_
  clear hst
  rintro e w0 ⟨rfl, hb0, D0, hD0, hK0⟩
  have I0 : Hid (Below w.heap.size w w0 ∧ ∃ D, w0.ownsMap Try.prog 3 standElem w.heap.size s.length D ∧ Keys D ((once [] (nums s)).filter fun x => !decide (x ∈ vs (s.take 0)))) := ⟨hb0, D0, hD0, by
    rw [List.filter_eq_self.2 (by simp [vs])]; exact hK0⟩
  clear hb0 D0 hD0 hK0
  go_wp2
  go_loopw [11] (fun v11 wr => ∃ i : Nat, i ≤ s.length ∧ v11 = .int .i64 i ∧ Hid ((s.take i).all goodB = true) ∧ Hid (Below w.heap.size w wr ∧ ∃ D, wr.ownsMap Try.prog 3 standElem w.heap.size s.length D ∧ Keys D ((once [] (nums s)).filter fun x => !decide (x ∈ vs (s.take i))))) (fun v11 _ => s.length - (intOf v11).toNat)
  case atStart => exact ⟨0, Nat.zero_le _, rfl, by show _ = _; simp, I0⟩
  case round =>
    obtain ⟨i, hi, rfl, HG, HI⟩ := hrel
    by_cases hlt : i < s.length
    · obtain ⟨b, o, rfl, hS, hc⟩ := HR.out.1 i hlt
      obtain ⟨x0, T, u0, u1, u2, u3, hT, hcs, f0, f1⟩ := bind_open (HR.out.2 i hlt)
      rw [hcs] at hc
      have hBW := HI.out.1
      have e0 := (hBW.cell (p := ⟨b, o + i * 5, none⟩) hS).trans (hc 0 _ rfl)
      have e1 := (hBW.cell (p := ⟨b, o + i * 5 + 1, none⟩) hS).trans (hc 1 _ rfl)
      have e2 := (hBW.cell (p := ⟨b, o + i * 5 + 2, none⟩) hS).trans (hc 2 _ rfl)
      have e3 := (hBW.cell (p := ⟨b, o + i * 5 + 3, none⟩) hS).trans (hc 3 _ rfl)
      have e4 := (hBW.cell (p := ⟨b, o + i * 5 + 4, none⟩) hS).trans (hc 4 _ rfl)
      have hwT : ty.wt T ≤ 1048576 := by
        have h1 := wt_mem (List.getElem_mem hlt)
        rw [hT] at h1
        simp [wt] at h1
        omega
      have HN : Hid (vs (s.take (i + 1)) = vs (s.take i) ++ ty.varsL (ty.allT T)) := by show _ = _; rw [vs_take hlt, hT]
      have HX : Hid (goodB s[i] = (decide (0 ≤ x0) && ty.tyOkB T)) := by show _ = _; rw [hT]; rfl
      have RT : Hid (ty.tySh.rep w (· < w.heap.size) [u0, u1, u2, u3] T) := f1
      have AT : Hid (∀ w' : World, Below w.heap.size w w' → ty.tySh.rep w' (· < w'.heap.size) [u0, u1, u2, u3] T) := fun w' hb => ty.tySh.mono (ty.tySh.below f1 hb) fun b hlt => Nat.lt_of_lt_of_le hlt hb.size
      obtain ⟨t0, t1, t2, tk, ta, tc, hTT, hu, -⟩ := ty.ty_open f1
      simp only [List.cons.injEq, and_true] at hu
      obtain ⟨rfl, rfl, rfl, rfl⟩ := hu
      have BW1 : Hid (Below w.heap.size w (wr.alloc (.cells #[.int .i64 x0, .int .i64 t0, .int .i64 t1, .string t2, .slice ta tk.length tc] 60))) := hBW.alloc hBW.size _
      clear hT hcs hc f1 hTT
      have OUT : Hid (goodB s[i] = false → q = false) := fun h => by rw [HQ.out]; unfold subOkB; rw [good_no hlt h]; rfl
      by_cases hx : x0 < 0
      · have hq2 : Hid (q = false) := OUT.out (by rw [HX.out, decide_eq_false (by omega)]; rfl)
        go_wp2
        go_ret
        exact ⟨ret_bool hq2.out.symm, BW1.out⟩
      · have hx' : 0 ≤ x0 := by omega
        go_wp2_with fail
        refine (ty.implTyOk T _ _ hwT (AT.out _ BW1.out)).mono ?_
        rintro e w2 ⟨rfl, hb⟩
        have B2 : Hid (Below w.heap.size w w2) := BW1.out.trans (hb.mono BW1.out.size)
        by_cases hok : ty.tyOkB T = true
        · rw [hok]
          have hG2 : Hid ((s.take (i + 1)).all goodB = true) := by show _ = _; rw [good_take hlt, HG.out, HX.out, hok, decide_eq_true hx']; rfl
          have y1 : w2.cell? ⟨wr.heap.size, 1, none⟩ = some (.int .i64 t0) := (hb.cell (p := ⟨wr.heap.size, 1, none⟩) (by simp)).trans (by simp)
          have y2 : w2.cell? ⟨wr.heap.size, 2, none⟩ = some (.int .i64 t1) := (hb.cell (p := ⟨wr.heap.size, 2, none⟩) (by simp)).trans (by simp)
          have y3 : w2.cell? ⟨wr.heap.size, 3, none⟩ = some (.string t2) := (hb.cell (p := ⟨wr.heap.size, 3, none⟩) (by simp)).trans (by simp)
          have y4 : w2.cell? ⟨wr.heap.size, 4, none⟩ = some (.slice ta tk.length tc) := (hb.cell (p := ⟨wr.heap.size, 4, none⟩) (by simp)).trans (by simp)
          obtain ⟨D, hD, hKD⟩ := HI.out.2
          have OD : Hid (w2.ownsMap Try.prog 3 standElem w.heap.size s.length D) := ty.owns_below (hD.alloc _) hb (Nat.lt_of_lt_of_le hD.lt (by simp))
          have KD : Hid _ := hKD
          clear hb hok hD hKD HI HG hBW BW1 OUT HX e0 e1 e2 e3 e4
          go_wp2_with fail
          refine (ty.varsOf_any T _ _ hwT (AT.out _ B2.out)).mono ?_
          rintro e w3 ⟨rfl, hb, D2, hD2, hKD2, hlt3⟩
          have B3 : Hid (Below w.heap.size w w3) := B2.out.trans (hb.mono B2.out.size)
          have O3 : Hid (w3.ownsMap Try.prog 3 standElem w.heap.size s.length D) := ty.owns_below OD.out hb OD.out.lt
          have HZ : Hid (w.heap.size < w2.heap.size) := OD.out.lt
          have OD2 : Hid _ := hD2
          have KD2 : Hid _ := hKD2
          have HL3 : Hid (w2.heap.size + 1 < w3.heap.size) := hlt3
          clear hb hD2 hKD2 OD y1 y2 y3 y4 hlt3
          go_wp2_with (first
            | (at_range; refine wpList_range_own _ rfl _ 66 rfl 3 3 intKey Try.underlying66 _ (w2.heap.size + 1) _ _ rfl OD2.out ?_; intro w4 hrg4 hg4 hs4)
            | go_in)
          go_frame
          have B4 : Hid (Below w.heap.size w w4) := B3.out.grown hg4 B3.out.size (fun j hj => by cases hj)
          have O4 : Hid (w4.ownsMap Try.prog 3 standElem w.heap.size s.length D) := O3.out.kept hg4 (by simp)
          obtain ⟨base, hbase⟩ : ∃ base, base = (once [] (nums s)).filter fun x => !decide (x ∈ vs (s.take i)) := ⟨_, rfl⟩
          have HB : Hid (base = (once [] (nums s)).filter fun x => !decide (x ∈ vs (s.take i))) := hbase
          rw [← hbase] at KD
          clear hbase
          have R4 : Hid _ := hrg4
          have Z4 : Hid (w3.heap.size < w4.heap.size) := by show _ < _; omega
          clear hrg4 hs4 hg4 O3 B3
          go_loopw [6] (fun _ wi => ∃ (left : Lit → Bool) (cnt : Nat) (done : List Int) (Dl : DataW Unit), wi.ranges Try.prog 3 (plainElem Try.prog 3) (w2.heap.size + 1) w3.heap.size (ty.allT T).length D2 left cnt ∧
              Hid ((∀ x : Int, Maps.has D2 (.int .i64 x) = true → left (.int .i64 x) = true ∨ x ∈ done) ∧ (∀ x ∈ done, x ∈ ty.varsL (ty.allT T)) ∧ Keys Dl (base.filter fun y => !decide (y ∈ done)) ∧ Below w.heap.size w wi) ∧ wi.ownsMap Try.prog 3 standElem w.heap.size s.length Dl)
            (fun _ wi => wi.rangeLeft (w2.heap.size + 1) w3.heap.size)
          case atStart =>
            exact ⟨_, _, [], D, R4.out, ⟨fun x hx => Or.inl hx, by simp, by rw [List.filter_eq_self.2 (by simp)]; exact KD.out, B4.out⟩, O4.out⟩
          case round =>
            obtain ⟨left, cnt, done, Dl, hrg, HJ, hDl⟩ := hrel
            rename World => wi
            go_wp2_with (first
              | (at_next; refine wpList_next_ranges_ii _ rfl _ rfl 3 3 .i64 .i64 intKey Try.underlying3 Try.underlying3 (w2.heap.size + 1) w3.heap.size _ _ _ _ rfl hrg ?_ ?_)
              | go_in)
            · intro hc0 hl0
              have hfin : Hid (Keys Dl ((once [] (nums s)).filter fun x => !decide (x ∈ vs (s.take (i + 1))))) := by
                have h1 := HJ.out.2.2.1
                rw [HB.out, filter_next (b := ty.varsL (ty.allT T)) (fun x => ⟨HJ.out.2.1 x, fun hx => ?_⟩)] at h1
                · rw [HN.out]; exact h1
                · rcases HJ.out.1 x (by rw [KD2.out.has]; exact decide_eq_true (mem_once.2 (Or.inr hx))) with h2 | h2
                  · rw [hl0] at h2; cases h2
                  · exact h2
              go_wp2
              go_round
              case rel => exact ⟨i + 1, by omega, by go_num, hG2, HJ.out.2.2.2, Dl, hDl, hfin.out⟩
              case measure => simp [intOf]; omega
            · intro x c w1 cnt1 hwx hwc hlx hat hrg1 hlt1 hg1 hs1 hen
              have hD1 := hDl.kept hg1 (fun e => by have := Option.some.inj e; have := HZ.out; have := HL3.out; omega)
              have hkey : keyOf Try.prog 3 (.int .i64 x) = some (.int .i64 x) := keyOf_int_mk Try.underlying3 hwx
              go_wp2_with (first
                | (at_delete; refine wpList_delete_own _ rfl _ _ 64 3 rfl 76 intKey Try.underlying64 _ w.heap.size s.length _ rfl hD1 _ _ rfl hkey ?_; intro w5 hD5 hturn; go_frame)
                | go_in)
              have hg5 := hturn.grown
              have hrg5 := hrg1.kept hg5 (fun e => by have := Option.some.inj e; have := HZ.out; omega) (fun e => by have := Option.some.inj e; have := HZ.out; have := HL3.out; omega)
              have hx2 : x ∈ ty.varsL (ty.allT T) := by
                have h1 := has_true_of_atKey hat
                rw [KD2.out.has] at h1
                have h2 := mem_once.1 (of_decide_eq_true h1)
                simpa using h2
              refine ⟨⟨_, cnt1, done ++ [x], _, hrg5, ⟨fun y hy => ?_, fun y hy => ?_, ?_, ?_⟩, hD5⟩, ?_⟩
              · by_cases e : y = x
                · exact Or.inr (by simp [e])
                · rcases HJ.out.1 y hy with h1 | h1
                  · exact Or.inl (by simp [h1, sameKey_ne (lit_ne e)])
                  · exact Or.inr (by simp [h1])
              · rcases List.mem_append.1 hy with h1 | h1
                · exact HJ.out.2.1 y h1
                · simp at h1; subst h1; exact hx2
              · rw [← strike_filter]
                exact HJ.out.2.2.1.strike (hD1.tidy intKey) x
              · exact (HJ.out.2.2.2.grown hg1 HJ.out.2.2.2.size (fun j hj => by cases hj; have := HZ.out; have := HL3.out; omega)).grown hg5 (by have := HJ.out.2.2.2.size; omega) (fun j hj => by cases hj; exact Nat.le_refl _)
              · rw [hrg5.left_eq, hrg.left_eq]; exact hlt1
        · have hok' : ty.tyOkB T = false := by simpa using hok
          rw [hok']
          have hq2 : Hid (q = false) := OUT.out (by rw [HX.out, hok']; simp)
          clear hb
          go_wp2
          go_ret
          exact ⟨ret_bool hq2.out.symm, B2.out⟩
    · obtain rfl : i = s.length := by omega
      have hA := HG.out
      have hI := HI.out
      rw [List.take_length] at hA hI
      obtain ⟨hB, D, hD, hKD⟩ := hI
      have hsz : Maps.size D = ((once [] (nums s)).filter fun x => !decide (x ∈ vs s)).length := hKD.size
      have hq2 : Hid (q = decide (Maps.size D = s.length)) := by show _ = _; rw [HQ.out, hsz, full_iff]; unfold subOkB; rw [hA]; rfl
      have HB : Hid _ := hB
      clear hA hB hKD hsz HG HI
      go_wp2_with (first
        | (at_len; refine wpList_len_own _ rfl _ 64 rfl 3 76 Try.underlying64 _ w.heap.size s.length D rfl hD ?_)
        | go_in)
      go_ret
      refine ⟨ret_bool ?_, HB.out⟩
      rw [hq2.out]
      by_cases he : size D = s.length
      · rw [decide_eq_true he, he]; simp
      · rw [decide_eq_false he]
        have : ¬ ((size D : Nat) : Int) = (s.length : Nat) := by omega
        simp [this]

end Go.Proofs.Ytkojogfljnnfhaa.bind

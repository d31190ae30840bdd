/-
  The program's joined, inside and parts, of forms of types: what they make lies in rows of their own, and reads as the form.
-/
import Derived.Test.YtpdmdcoaaboikaaGreatDoorValForms
import Derived.Laws.AppendOwnNone
namespace Go.Proofs.YtpdmdcoaaboikaaGreatDoor.vt
open Go Go.RowKit Go.Proofs.YtpdmdcoaaboikaaGreatDoor.rose Go.Proofs.YtpdmdcoaaboikaaGreatDoor.value Go.Proofs.YtpdmdcoaaboikaaGreatDoor
set_option linter.unusedVariables false
set_option linter.unusedSimpArgs false

theorem FV.iface {w : World} {S : Nat → Prop} {N : Nat} {v : Value} {f : Fm} (h : FV w S N v f) : ∃ t u, v = .iface t u := by
  cases f with
  | plain l => exact ⟨_, _, h⟩
  | val T => obtain ⟨cs, rfl, _⟩ := h; exact ⟨_, _, rfl⟩
  | con s ks => obtain ⟨a, cap, rfl, _⟩ := h; exact ⟨_, _, rfl⟩

/-- The call's own row of forms. -/
def FsOwn (w : World) (base : Nat) (S : Nat → Prop) (N : Nat) (v : Value) (fs : List Fm) : Prop := ∃ us : List Value, us.length = fs.length ∧ w.ownsRow base 70 1 v fs.length us ∧ ∀ i (h : i < fs.length) (h' : i < us.length), FV w S N us[i] fs[i]

theorem FsOwn.nil (w : World) (base : Nat) (S : Nat → Prop) (N : Nat) : FsOwn w base S N (.slice none 0 0) [] := ⟨[], rfl, World.ownsRow_nil _ _ _ _, fun i h => absurd h (Nat.not_lt_zero _)⟩
theorem FsOwn.more {w w' : World} {base : Nat} {S : Nat → Prop} {N : Nat} {v' : Value} {fs : List Fm} {us : List Value} {f : Fm} {u : Value} (hul : us.length = fs.length) (hfs : ∀ i (h : i < fs.length) (h' : i < us.length), FV w S N us[i] fs[i]) (hu : FV w S N u f) (hb : Stays S N w w') (hrow : w'.ownsRow base 70 1 v' (fs.length + 1) (us ++ [u])) : FsOwn w' base S N v' (fs ++ [f]) := by
  refine ⟨us ++ [u], by simp [hul], by rw [List.length_append]; exact hrow, fun j hj hj' => ?_⟩
  by_cases e : j < fs.length
  · rw [List.getElem_append_left (by omega), List.getElem_append_left e]
    exact (hfs j e (by omega)).on hb
  · have : j = fs.length := by simp at hj; omega
    subst this
    rw [List.getElem_append_right (by omega), List.getElem_append_right (Nat.le_refl _)]
    simp only [hul, Nat.sub_self, List.getElem_cons_zero]
    exact hu.on hb

/-- A slice of forms, wherever it lies. -/
def FsAt (w : World) (S : Nat → Prop) (N : Nat) (a : Option Addr) (fs : List Fm) : Prop := ∀ i (h : i < fs.length), ∃ g o cur u, a = some ⟨g, o, none⟩ ∧ g < N ∧ w.heap[g]? = some (.cells cur 70) ∧ w.cell? ⟨g, o + i, none⟩ = some u ∧ FV w S N u fs[i]
theorem FsAt.on {w w' : World} {S : Nat → Prop} {N : Nat} {a : Option Addr} {fs : List Fm} (h : FsAt w S N a fs) (hb : Stays S N w w') : FsAt w' S N a fs := fun i hi => by
  obtain ⟨g, o, cur, u, h1, h0, h2, h3, h4⟩ := h i hi
  exact ⟨g, o, cur, u, h1, h0, (hb.2 g cur h0 h2).trans h2, (World.cell?_of_block (w := w) (a := ⟨g, o + i, none⟩) (hb.2 g cur h0 h2)).trans h3, h4.on hb⟩
theorem FsOwn.at {w : World} {base : Nat} {S : Nat → Prop} {N : Nat} {v : Value} {fs : List Fm} (h : FsOwn w base S N v fs) (hN : N ≤ w.heap.size) : ∃ a cap, v = .slice a fs.length cap ∧ fs.length ≤ cap ∧ cap ≤ maxLen ∧ FsAt w S w.heap.size a fs := by
  obtain ⟨us, hl, hrow, hf⟩ := h
  rcases hrow.2 with ⟨rfl, h0⟩ | ⟨g, cap, cur, rfl, h2, h3, h4, h5, h6, h7⟩
  · have : fs = [] := List.eq_nil_of_length_eq_zero h0
    subst this
    exact ⟨none, 0, rfl, Nat.le_refl _, Nat.zero_le _, fun i hi => absurd hi (Nat.not_lt_zero _)⟩
  · refine ⟨some ⟨g, 0, none⟩, cap, rfl, h4, h5, fun i hi => ?_⟩
    obtain ⟨hc, -⟩ := row_cell hrow (List.getElem?_eq_getElem (by rw [hl]; exact hi))
    exact ⟨g, 0, cur, us[i]'(by rw [hl]; exact hi), rfl, (Array.getElem?_eq_some_iff.1 h3).1, h3, by rw [Nat.zero_add]; exact hc, (hf i hi (by rw [hl]; exact hi)).mono hN⟩

/-- Forms with a blank between. -/
def joinF : List Fm → List Fm
  | [] => []
  | f :: fs => f :: fs.flatMap fun g => [.plain [32], g]
theorem joinF_take {fs : List Fm} {i : Nat} (h : i < fs.length) : joinF (fs.take (i + 1)) = joinF (fs.take i) ++ ((if i = 0 then [] else [.plain [32]]) ++ [fs[i]]) := by
  match fs, i with
  | f :: fs, 0 => simp [joinF]
  | f :: fs, i + 1 =>
    simp only [List.take_succ_cons, joinF, List.getElem_cons_succ]
    rw [List.take_succ_eq_append_getElem (by simpa using h), List.flatMap_append]
    simp
theorem joinF_length (fs : List Fm) : (joinF fs).length ≤ 2 * fs.length := by
  match fs with
  | [] => simp [joinF]
  | f :: fs =>
    simp only [joinF, List.length_cons]
    have : (fs.flatMap fun g => [Fm.plain [32], g]).length = 2 * fs.length := by
      induction fs with
      | nil => rfl
      | cons g fs ih => simp only [List.flatMap_cons, List.length_append, ih, List.length_cons, List.length_nil]; omega
    omega

set_option maxRecDepth 100000 in
set_option maxHeartbeats 4000000 in
theorem joined_any (fs : List Fm) (a : Option Addr) (cap : Nat) (w : World) (S : Nat → Prop) (hS : ∀ b, S b → b < w.heap.size) (hl : fs.length ≤ 2097152) (h : FsAt w S w.heap.size a fs) :
    Calls Tryz.prog 75 #[.slice a fs.length cap, .string (str [32])] w fun e w' => ∃ v, e = .returned v ∧ FsOwn w' w.heap.size S w.heap.size v (joinF fs) ∧ Below w.heap.size w w' := by
  obtain ⟨ti, hti, hzz⟩ := Option.map_eq_some_iff.1 info_form
  simp only [Prod.mk.injEq] at hzz
  obtain ⟨hz0, hz1, hz2⟩ := hzz
  have TI : Hid (Tryz.prog.info? 70 = some ti ∧ ti.zero = some .nilIface ∧ ti.size = 1 ∧ ti.bytes = 16) := ⟨hti, hz0, hz1, hz2⟩
  have HF : Hid (FsAt w S w.heap.size a fs) := h
  clear hti hz0 hz1 hz2 h
  go_enter Tryz.func75, Tryz.ntmps75
  go_wp2
  go_loopw [5, 10] (fun v5 v10 wr => ∃ i : Nat, i ≤ fs.length ∧ v10 = .int .i64 i ∧ Hid (FsOwn wr w.heap.size S w.heap.size v5 (joinF (fs.take i)) ∧ Below w.heap.size w wr)) (fun _ v10 _ => fs.length - (intOf v10).toNat)
  case atStart => exact ⟨0, Nat.zero_le _, rfl, FsOwn.nil _ _ _ _, Below.refl _ _⟩
  case round =>
    obtain ⟨i, hi, rfl, HI⟩ := hrel
    by_cases hlt : i < fs.length
    · obtain ⟨g, o, cur, u, rfl, -, hg, hc, hu⟩ := HF.out i hlt
      have BW := HI.out.2
      have e0 := (BW.cell (p := ⟨g, o + i, none⟩) (Array.getElem?_eq_some_iff.1 hg).1).trans hc
      obtain ⟨tu, vu, rfl⟩ := hu.iface
      have hu1 := hu.one
      have HU : Hid (FV wr S w.heap.size (.iface tu vu) fs[i]) := hu.on (Stays.of hS (Nat.le_refl _) BW)
      obtain ⟨us, hul, hrow, hfs⟩ := HI.out.1
      obtain ⟨m, hm⟩ : ∃ m, m = (joinF (fs.take i)).length := ⟨_, rfl⟩
      have hmb : m ≤ 4194304 := by
        have := joinF_length (fs.take i)
        rw [List.length_take] at this
        omega
      have HM : Hid (m = (joinF (fs.take i)).length) := hm
      rw [← hm] at hrow hul
      have HROW : Hid (wr.ownsRow w.heap.size 70 1 u5 m us) := hrow
      have HFS : Hid _ := hfs
      have HUL : Hid (us.length = m) := hul
      have hz : w.heap.size ≤ wr.heap.size := BW.size
      have HBW : Hid (Below w.heap.size w wr) := BW
      have HOB : Hid (∀ g, u5.ownBlock = some g → w.heap.size ≤ g) := fun g hg => by
        rcases hrow.2 with ⟨rfl, _⟩ | ⟨g', cap, cur, rfl, h, _⟩
        · cases hg
        · simp only [Value.ownBlock, Option.some.injEq] at hg; omega
      clear hm hrow hul hfs hu hc hg BW
      by_cases hi0 : i = 0
      · subst hi0
        rw [Nat.add_zero] at e0
        have h2a : (wr.alloc (.cells #[.iface tu vu] 70)).ownsRow w.heap.size 70 1 u5 m us := row_stays HROW.out fun g hg hlt' => Below.heap_alloc _ _ _ hlt'
        go_wp2_with (first
          | (at_builtin; go_loud (refine append_one _ rfl _ _ 44 rfl w.heap.size 70 ti _ 16 Tryz.underlying44 TI.out.1 TI.out.2.1 TI.out.2.2.1 TI.out.2.2.2 rfl u5 m us rfl h2a ⟨wr.heap.size, 0, none⟩ 1 (.iface tu vu) rfl (cell_one_new _ _ _) hu1 (by unfold maxLen; omega) (by omega) (by simp; omega) ?_); intro g' c' w1 hown1 hgrow1)
          | go_in)
        have hal : Below wr.heap.size wr (wr.alloc (.cells #[.iface tu vu] 70)) := (Below.refl _ _).alloc (Nat.le_refl _) _
        have hb1 : Below w.heap.size wr w1 := (hal.mono hz).grown hgrow1 (by simp; omega) (fun g hg => HOB.out g hg)
        have HN : Hid (FsOwn w1 w.heap.size S w.heap.size (.slice (some ⟨g', 0, none⟩) (m + 1) c') (joinF (fs.take (0 + 1)))) := by
          rw [joinF_take hlt, if_pos rfl, List.nil_append]
          exact FsOwn.more (by rw [HUL.out, HM.out]) HFS.out HU.out (Stays.of hS (Nat.le_refl _) hb1) (by rw [← HM.out]; exact hown1)
        have HB2 : Hid (Below w.heap.size w w1) := HBW.out.trans hb1
        clear hown1 hgrow1 hb1 hal h2a
        go_round
        case rel => exact ⟨0 + 1, by omega, by go_num, HN.out, HB2.out⟩
        case measure => simp [intOf]; omega
      · have hi1 : (0 : Int) < (i : Nat) := by omega
        have h2a : (wr.alloc (.cells #[.iface 71 (.string (str [32]))] 70)).ownsRow w.heap.size 70 1 u5 m us := row_stays HROW.out fun g hg hlt' => Below.heap_alloc _ _ _ hlt'
        go_wp2_with (first
          | (at_builtin; refine append_one _ rfl _ _ 44 rfl w.heap.size 70 ti _ 16 Tryz.underlying44 TI.out.1 TI.out.2.1 TI.out.2.2.1 TI.out.2.2.2 rfl u5 m us rfl h2a ⟨wr.heap.size, 0, none⟩ 1 (.iface 71 (.string (str [32]))) rfl (cell_one_new _ _ _) rfl (by unfold maxLen; omega) (by omega) (by simp; omega) ?_; intro g1 c1 w1 hown1 hgrow1; have h2b : (w1.alloc (.cells #[.iface tu vu] 70)).ownsRow w.heap.size 70 1 (.slice (some ⟨g1, 0, none⟩) (m + 1) c1) (m + 1) (us ++ [.iface 71 (.string (str [32]))]) := row_stays hown1 fun g hg hlt' => Below.heap_alloc _ _ _ hlt'
             have hz1 : w.heap.size ≤ w1.heap.size := Nat.le_trans hz (Nat.le_trans (by simp) hgrow1.size))
          | (at_builtin; go_loud (refine append_one _ rfl _ _ 44 rfl w.heap.size 70 ti _ 16 Tryz.underlying44 TI.out.1 TI.out.2.1 TI.out.2.2.1 TI.out.2.2.2 rfl (.slice (some ⟨g1, 0, none⟩) (m + 1) c1) (m + 1) _ rfl h2b ⟨w1.heap.size, 0, none⟩ 1 (.iface tu vu) rfl (cell_one_new _ _ _) hu1 (by unfold maxLen; omega) (by omega) (by simp; omega) ?_); intro g2 c2 w2 hown2 hgrow2)
          | go_in)
        have hal : Below wr.heap.size wr (wr.alloc (.cells #[.iface 71 (.string (str [32]))] 70)) := (Below.refl _ _).alloc (Nat.le_refl _) _
        have hb1 : Below w.heap.size wr w1 := (hal.mono hz).grown hgrow1 (by simp; omega) (fun g hg => HOB.out g hg)
        have hal2 : Below w1.heap.size w1 (w1.alloc (.cells #[.iface tu vu] 70)) := (Below.refl _ _).alloc (Nat.le_refl _) _
        have hb2 : Below w.heap.size w1 w2 := (hal2.mono hz1).grown hgrow2 (by simp; omega) (fun g hg => by
          rcases hown1.2 with ⟨h, _⟩ | ⟨g', cap, cur, h, hle, _⟩
          · cases h
          · cases h
            simp only [Value.ownBlock, Option.some.injEq] at hg
            omega)
        have HN : Hid (FsOwn w2 w.heap.size S w.heap.size (.slice (some ⟨g2, 0, none⟩) (m + 1 + 1) c2) (joinF (fs.take (i + 1)))) := by
          rw [joinF_take hlt, if_neg hi0, ← List.append_assoc]
          have F1 : FsOwn w1 w.heap.size S w.heap.size (.slice (some ⟨g1, 0, none⟩) (m + 1) c1) (joinF (fs.take i) ++ [.plain [32]]) := FsOwn.more (u := .iface 71 (.string (str [32]))) (by rw [HUL.out, HM.out]) HFS.out rfl (Stays.of hS (Nat.le_refl _) hb1) (by rw [← HM.out]; exact hown1)
          have hst1 : Stays S w.heap.size wr w1 := Stays.of hS (Nat.le_refl _) hb1
          refine FsOwn.more (us := us ++ [.iface 71 (.string (str [32]))]) (by rw [List.length_append, List.length_append, HUL.out, HM.out]; rfl) (fun j hj hj' => ?_) (HU.out.on hst1) (Stays.of hS (Nat.le_refl _) hb2) (by rw [List.length_append, ← HM.out]; exact hown2)
          by_cases e : j < (joinF (fs.take i)).length
          · rw [List.getElem_append_left (by rw [HUL.out, HM.out]; exact e), List.getElem_append_left e]
            exact (HFS.out j e (by rw [HUL.out, HM.out]; exact e)).on hst1
          · have hje : j = (joinF (fs.take i)).length := by rw [List.length_append] at hj; simp at hj; omega
            subst hje
            rw [List.getElem_append_right (by rw [HUL.out, HM.out]; exact Nat.le_refl _), List.getElem_append_right (Nat.le_refl _)]
            simp only [HUL.out, HM.out, Nat.sub_self, List.getElem_cons_zero]
            rfl
        have HB2 : Hid (Below w.heap.size w w2) := (HBW.out.trans hb1).trans hb2
        clear hown1 hgrow1 hb1 hal h2a hown2 hgrow2 hb2 hal2 h2b
        go_round
        case rel => exact ⟨i + 1, by omega, by go_num, HN.out, HB2.out⟩
        case measure => simp [intOf]; omega
    · obtain rfl : i = fs.length := by omega
      have hF := HI.out.1
      rw [List.take_length] at hF
      go_wp2
      go_ret
      exact ⟨_, rfl, hF, HI.out.2⟩

end Go.Proofs.YtpdmdcoaaboikaaGreatDoor.vt

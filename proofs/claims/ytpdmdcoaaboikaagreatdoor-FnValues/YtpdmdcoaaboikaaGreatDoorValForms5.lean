/-
  The program's parts, of forms of types.
-/
import Derived.Test.YtpdmdcoaaboikaaGreatDoorValForms4
import Derived.Handy
namespace Go.Proofs.YtpdmdcoaaboikaaGreatDoor.vt
open Go Go.RowKit Go.Deep Go.Proofs.YtpdmdcoaaboikaaGreatDoor.rose Go.Proofs.YtpdmdcoaaboikaaGreatDoor.value Go.Proofs.YtpdmdcoaaboikaaGreatDoor
set_option linter.unusedVariables false
set_option linter.unusedSimpArgs false

/-- What is inside a form. -/
def insF : Fm → List Fm
  | .plain l => [.plain l]
  | .val T => [shape T]
  | .con s ks => joinF (conF s ks)
def fits : Fm → Prop
  | .plain _ => False
  | .val T => wt T ≤ 1048576
  | .con _ ks => ks.length ≤ 1048576
/-- A form's parts. -/
def partsF : Fm → List Fm
  | .plain l => [.plain l]
  | .val T => [shape T]
  | .con s ks => if ks.length = 0 then insF (.con s ks) else .plain [40] :: insF (.con s ks) ++ [.plain [41]]

theorem inside_any (f : Fm) (v : Value) (w : World) (ht : Tab w) (S : Nat → Prop) (hS : ∀ b, S b → b < w.heap.size) (hf : fits f) (h : FV w S w.heap.size v f) :
    Calls Tryz.prog 50 #[v] w fun e w' => ∃ v', e = .returned v' ∧ FsOwn w' w.heap.size S w'.heap.size v' (insF f) ∧ Below w.heap.size w w' := by
  cases f with
  | plain l => exact hf.elim
  | val T => exact insideVal T v w S hS hf ht h
  | con s ks => exact insideCon s ks v w S hS hf h

def low : Fm → Prop
  | .plain _ => True
  | .val _ => True
  | _ => False
theorem FV.low {w w' : World} {S : Nat → Prop} {N N' : Nat} {v : Value} {f : Fm} (h : FV w S N v f) (hl : low f) (hm : ∀ b, S b → w'.heap[b]? = w.heap[b]?) : FV w' S N' v f := by
  cases f with
  | plain l => exact h
  | val T => exact TF.on h hm
  | con s ks => exact hl.elim
theorem low_join {fs : List Fm} (h : ∀ f ∈ fs, low f) : ∀ f ∈ joinF fs, low f := by
  match fs, h with
  | [], _ => simp [joinF]
  | f :: fs, h =>
    intro g hg
    simp only [joinF, List.mem_cons, List.mem_flatMap] at hg
    rcases hg with rfl | ⟨k, hk, hg⟩
    · exact h _ (by simp)
    · simp only [List.mem_nil_iff, or_false] at hg
      rcases hg with rfl | rfl
      · trivial
      · exact h _ (by simp [hk])
theorem low_con (s : ByteArray) (ks : List ValueD) : ∀ f ∈ insF (.con s ks), low f := by
  show ∀ f ∈ joinF (conF s ks), low f
  refine low_join fun f hf => ?_
  simp only [conF, List.mem_cons, List.mem_map] at hf
  rcases hf with rfl | ⟨k, _, rfl⟩ <;> trivial
theorem ins_len (f : Fm) (hf : fits f) : (insF f).length ≤ 4194304 := by
  cases f with
  | plain l => simp [insF]
  | val T => simp [insF]
  | con s ks =>
    have h1 := joinF_length (conF s ks)
    have h2 : (conF s ks).length = ks.length + 1 := by simp [conF]
    have h3 : ks.length ≤ 1048576 := hf
    simp only [insF]
    omega

set_option maxRecDepth 100000 in
set_option maxHeartbeats 4000000 in
theorem partsVal (T : ValueD) (cs : List Value) (w : World) (ht : Tab w) (S : Nat → Prop) (hS : ∀ b, S b → b < w.heap.size) (hw : wt T ≤ 1048576) (h : FV w S w.heap.size (.iface 43 (.agg cs.toArray)) (.val T)) :
    Calls Tryz.prog 29 #[.iface 43 (.agg cs.toArray)] w fun e w' => ∃ v', e = .returned v' ∧ FsOwn w' w.heap.size S w'.heap.size v' (insF (.val T)) ∧ Below w.heap.size w w' := by
  have hal : Below w.heap.size w (w.alloc (.cells cs.toArray 43)) := (Below.refl _ _).alloc (Nat.le_refl _) _
  have HIN := inside_any (.val T) (.iface 43 (.agg cs.toArray)) (w.alloc (.cells cs.toArray 43)) (ht.on hal) S (fun b hb => Nat.lt_of_lt_of_le (hS b hb) hal.size) hw ((h.on (Stays.of hS (Nat.le_refl _) hal)).mono hal.size)
  have HA : Hid (Below w.heap.size w (w.alloc (.cells cs.toArray 43))) := hal
  clear h hal
  go_enter Tryz.func29, Tryz.ntmps29
  go_wp2_with (first
    | (go_at_call 50; refine HIN.mono ?_; rintro e w1 ⟨v1, rfl, hv1, hb1⟩; have HV1 : Hid _ := hv1; have HB1 : Hid _ := hb1; clear hv1 hb1)
    | go_in)
  go_ret
  refine ⟨_, rfl, ?_, HA.out.trans (HB1.out.mono HA.out.size)⟩
  obtain ⟨us, h1, h2, h3⟩ := HV1.out
  refine ⟨us, h1, ⟨h2.1, ?_⟩, h3⟩
  have hsz := HA.out.size
  rcases h2.2 with h | ⟨g, c, cur, r1, r2, r3⟩
  · exact Or.inl h
  · exact Or.inr ⟨g, c, cur, r1, by omega, r3⟩

set_option maxRecDepth 100000 in
set_option maxHeartbeats 4000000 in
theorem partsCon0 (s : ByteArray) (a : Option Addr) (cap : Nat) (w : World) (ht : Tab w) (S : Nat → Prop) (hS : ∀ b, S b → b < w.heap.size)  (h : FV w S w.heap.size (.iface 158 (.agg #[.string s, .slice a 0 cap])) (.con s [])) :
    Calls Tryz.prog 29 #[.iface 158 (.agg #[.string s, .slice a 0 cap])] w fun e w' => ∃ v', e = .returned v' ∧ FsOwn w' w.heap.size S w'.heap.size v' (insF (.con s [])) ∧ Below w.heap.size w w' := by
  have hal : Below w.heap.size w (w.alloc (.cells #[.string s, .slice a 0 cap] 158)) := (Below.refl _ _).alloc (Nat.le_refl _) _
  have HIN := inside_any (.con s []) (.iface 158 (.agg #[.string s, .slice a 0 cap])) (w.alloc (.cells #[.string s, .slice a 0 cap] 158)) (ht.on hal) S (fun b hb => Nat.lt_of_lt_of_le (hS b hb) hal.size) (Nat.zero_le _) ((h.on (Stays.of hS (Nat.le_refl _) hal)).mono hal.size)
  have HA : Hid (Below w.heap.size w (w.alloc (.cells #[.string s, .slice a 0 cap] 158))) := hal
  clear h hal
  go_enter Tryz.func29, Tryz.ntmps29
  go_wp2_with (first
    | (go_at_call 50; refine HIN.mono ?_; rintro e w1 ⟨v1, rfl, hv1, hb1⟩; have HV1 : Hid _ := hv1; have HB1 : Hid _ := hb1; clear hv1 hb1)
    | go_in)
  go_ret
  refine ⟨_, rfl, ?_, HA.out.trans (HB1.out.mono HA.out.size)⟩
  obtain ⟨us, h1, h2, h3⟩ := HV1.out
  refine ⟨us, h1, ⟨h2.1, ?_⟩, h3⟩
  have hsz := HA.out.size
  rcases h2.2 with h | ⟨g, c, cur, r1, r2, r3⟩
  · exact Or.inl h
  · exact Or.inr ⟨g, c, cur, r1, by omega, r3⟩

set_option maxRecDepth 100000 in
set_option maxHeartbeats 4000000 in
theorem partsConK (s : ByteArray) (ks : List ValueD) (a : Option Addr) (cap : Nat) (w : World) (ht : Tab w) (S : Nat → Prop) (hS : ∀ b, S b → b < w.heap.size) (hk : ks.length ≤ 1048576) (hp : 0 < ks.length) (h : FV w S w.heap.size (.iface 158 (.agg #[.string s, .slice a ks.length cap])) (.con s ks)) :
    Calls Tryz.prog 29 #[.iface 158 (.agg #[.string s, .slice a ks.length cap])] w fun e w' => ∃ v', e = .returned v' ∧ FsOwn w' w.heap.size S w'.heap.size v' (.plain [40] :: insF (.con s ks) ++ [.plain [41]]) ∧ Below w.heap.size w w' := by
  have hkz : (((ks.length : Nat) : Int) == 0) = false := by simp only [beq_eq_false_iff_ne, ne_eq]; omega
  obtain ⟨ti, hti, hzz⟩ := Option.map_eq_some_iff.1 info_form
  simp only [Prod.mk.injEq] at hzz
  obtain ⟨hz0, hz1, hz2⟩ := hzz
  have TI : Hid (Tryz.prog.info? 70 = some ti ∧ ti.zero = some .nilIface ∧ ti.size = 1 ∧ ti.bytes = 16) := ⟨hti, hz0, hz1, hz2⟩
  clear hti hz0 hz1 hz2
  have hal : Below w.heap.size w (w.alloc (.cells #[.string s, .slice a ks.length cap] 158)) := (Below.refl _ _).alloc (Nat.le_refl _) _
  have hzw : (w.alloc (.cells #[.string s, .slice a ks.length cap] 158)).heap.size = w.heap.size + 1 := by simp
  have hrow0 := FsOwn.one (w := w.alloc (.cells #[.string s, .slice a ks.length cap] 158)) (base := w.heap.size) (S := S) (N := 0) (t := 71) (u := .string ⟨#[40]⟩) (f := .plain [40]) rfl (by simp) (fun b hb => by have := hS b hb; simp; omega) (by simp)
  rw [hzw] at hrow0
  have hal2 : Below w.heap.size w ((w.alloc (.cells #[.string s, .slice a ks.length cap] 158)).alloc (.cells #[.iface 71 (.string ⟨#[40]⟩)] 70)) := hal.alloc hal.size _
  have hzw2 : ((w.alloc (.cells #[.string s, .slice a ks.length cap] 158)).alloc (.cells #[.iface 71 (.string ⟨#[40]⟩)] 70)).heap.size = w.heap.size + 2 := by simp
  have HIN := inside_any (.con s ks) (.iface 158 (.agg #[.string s, .slice a ks.length cap])) ((w.alloc (.cells #[.string s, .slice a ks.length cap] 158)).alloc (.cells #[.iface 71 (.string ⟨#[40]⟩)] 70)) (ht.on hal2) S (fun b hb => Nat.lt_of_lt_of_le (hS b hb) hal2.size) hk ((h.on (Stays.of hS (Nat.le_refl _) hal2)).mono hal2.size)
  have HA : Hid (Below w.heap.size w ((w.alloc (.cells #[.string s, .slice a ks.length cap] 158)).alloc (.cells #[.iface 71 (.string ⟨#[40]⟩)] 70))) := hal2
  have HLEN : Hid ((insF (.con s ks)).length ≤ 4194304) := ins_len _ hk
  have HROW0 : Hid _ := hrow0
  clear h hal hal2 hrow0 hzw
  generalize hins : insF (.con s ks) = fs at HIN HLEN
  have HLOW : Hid (∀ f ∈ fs, low f) := by show ∀ f ∈ fs, low f; rw [← hins]; exact low_con s ks
  go_enter Tryz.func29, Tryz.ntmps29
  go_wp2_with (first
    | (go_at_call 50; refine HIN.mono ?_)
    | go_in)
  rintro e w1 ⟨v1, rfl, hv1, hb1⟩
  rw [hzw2] at hv1 hb1
  have hsz1 : w.heap.size + 2 ≤ w1.heap.size := by have := hb1.size; rw [hzw2] at this; exact this
  obtain ⟨us, hul, hown1, hfv1⟩ := hv1
  have HFV1 : Hid _ := hfv1
  have HUL : Hid (us.length = fs.length) := hul
  have HO : Hid (∀ u ∈ us, u.oneCell' = true) := fun u hu => by
    obtain ⟨i, hi, rfl⟩ := List.mem_iff_getElem.1 hu
    exact (hfv1 i (by omega) hi).one
  have hne : fs.length ≠ 0 := by
    rw [← hins]; simp [insF, joinF, conF]
  obtain ⟨us0, hul0, hr0, hfs0⟩ := HROW0.out
  simp only [List.length_cons, List.length_nil, Nat.zero_add] at hr0 hul0
  have hrow1 : w1.ownsRow w.heap.size 70 1 (.slice (some ⟨w.heap.size + 1, 0, none⟩) 1 1) 1 us0 := row_stays hr0 fun g hg hlt => hb1.block g (by omega)
  have hB1 : Below w.heap.size w w1 := HA.out.trans (hb1.mono (by omega))
  obtain ⟨g1, k1, hv1⟩ : ∃ g1 k1, v1 = .slice (some ⟨g1, 0, none⟩) fs.length k1 := by
    rcases hown1.2 with ⟨_, h0⟩ | ⟨g1, k1, _, h0, _⟩
    · exact absurd h0 hne
    · exact ⟨g1, k1, h0⟩
  subst hv1
  have HC : Hid (∀ j u, us[j]? = some u → w1.cell? ((⟨g1, 0, none⟩ : Addr).add j) = some u) := fun j u hj => by
    have h3 := (row_cell hown1 hj).1
    have h4 : (⟨g1, 0, none⟩ : Addr).add j = ⟨g1, j, none⟩ := by
      unfold Addr.add
      split
      · next h => subst h; rfl
      · simp
    rw [h4]
    exact h3
  have HB1 : Hid (Below w.heap.size w w1) := hB1
  have HE0 : Hid (us0 = [.iface 71 (.string ⟨#[40]⟩)]) := by
    match us0, hul0, hfs0 with
    | [u], _, h => have := h 0 (by simp) (by simp); exact congrArg (fun x => [x]) this
  have hl1 := HLEN.out
  clear hown1 hfv1 hb1 hB1 hr0 hul0 hul hfs0 hne
  go_wp2_with (first
    | (at_builtin; (refine append_many _ rfl _ _ 44 rfl w.heap.size 70 ti _ 16 Tryz.underlying44 TI.out.1 TI.out.2.1 TI.out.2.2.1 TI.out.2.2.2 rfl (.slice (some ⟨w.heap.size + 1, 0, none⟩) 1 1) 1 us0 (by decide) rfl hrow1 ⟨g1, 0, none⟩ fs.length k1 us rfl HUL.out HC.out HO.out (by unfold maxLen; omega) (by omega) (by omega) ?_); intro g2 c2 w2 hown2 hgrow2
       have h2b : (w2.alloc (.cells #[.iface 71 (.string ⟨#[41]⟩)] 70)).ownsRow w.heap.size 70 1 (.slice (some ⟨g2, 0, none⟩) (1 + fs.length) c2) (1 + fs.length) (us0 ++ us) := row_stays hown2 fun g hg hlt' => Below.heap_alloc _ _ _ hlt'
       have hz1 : w.heap.size ≤ w2.heap.size := Nat.le_trans (by omega) hgrow2.size)
    | (at_builtin; go_loud (refine append_one _ rfl _ _ 44 rfl w.heap.size 70 ti _ 16 Tryz.underlying44 TI.out.1 TI.out.2.1 TI.out.2.2.1 TI.out.2.2.2 rfl (.slice (some ⟨g2, 0, none⟩) (1 + fs.length) c2) (1 + fs.length) _ rfl h2b ⟨w2.heap.size, 0, none⟩ 1 (.iface 71 (.string ⟨#[41]⟩)) rfl (cell_one_new _ _ _) rfl (by unfold maxLen; omega) (by omega) (by simp; omega) ?_); intro g3 c3 w3 hown3 hgrow3)
    | go_in)
  have hb2 : Below w.heap.size w w2 := HB1.out.grown hgrow2 (by omega) (fun g hg => by cases hg; exact Nat.le_succ _)
  have hal3 : Below w.heap.size w (w2.alloc (.cells #[.iface 71 (.string ⟨#[41]⟩)] 70)) := hb2.alloc hz1 _
  have hb3 : Below w.heap.size w w3 := hal3.grown hgrow3 (by simp; omega) (fun g hg => by
    rcases hown2.2 with ⟨h, _⟩ | ⟨g', cap, cur, h, hle, _⟩
    · cases h
    · cases h
      cases hg
      exact hle)
  have HF : Hid (FsOwn w3 w.heap.size S w3.heap.size (.slice (some ⟨g3, 0, none⟩) (1 + fs.length + 1) c3) (.plain [40] :: fs ++ [.plain [41]])) := by
    have hlen : (Fm.plain [40] :: fs ++ [Fm.plain [41]]).length = 1 + fs.length + 1 := by simp; omega
    have hE0 := HE0.out
    clear HE0
    subst hE0
    refine ⟨[.iface 71 (.string ⟨#[40]⟩)] ++ us ++ [.iface 71 (.string ⟨#[41]⟩)], by rw [hlen]; simp [HUL.out]; omega, by rw [hlen]; exact hown3, fun i hi hi' => ?_⟩
    have hm : ∀ b, S b → w3.heap[b]? = w1.heap[b]? := fun b hb => (hb3.block b (hS b hb)).trans (HB1.out.block b (hS b hb)).symm
    have hul := HUL.out
    match i with
    | 0 => rfl
    | i + 1 =>
      simp only [List.singleton_append, List.cons_append, List.getElem_cons_succ, List.nil_append]
      by_cases e : i < fs.length
      · have e' : i < us.length := by rw [hul]; exact e
        rw [List.getElem_append_left e', List.getElem_append_left e]
        exact (HFV1.out i e (by omega)).low (HLOW.out _ (List.getElem_mem e)) hm
      · have : i = fs.length := by rw [hlen] at hi; omega
        subst this
        rw [List.getElem_append_right (Nat.le_of_eq hul), List.getElem_append_right (Nat.le_refl _)]
        simp only [hul, Nat.sub_self, List.getElem_cons_zero]
        rfl
  have HB3 : Hid (Below w.heap.size w w3) := hb3
  clear hown2 hgrow2 hown3 hgrow3 hb2 hal3 hb3 h2b hrow1
  go_ret
  exact ⟨_, rfl, HF.out, HB3.out⟩

theorem parts_any (f : Fm) (v : Value) (w : World) (ht : Tab w) (S : Nat → Prop) (hS : ∀ b, S b → b < w.heap.size) (hf : fits f) (h : FV w S w.heap.size v f) :
    Calls Tryz.prog 29 #[v] w fun e w' => ∃ v', e = .returned v' ∧ FsOwn w' w.heap.size S w'.heap.size v' (partsF f) ∧ Below w.heap.size w w' := by
  cases f with
  | plain l => exact hf.elim
  | val T =>
    have h' := h
    obtain ⟨cs, rfl, _⟩ := h'
    exact partsVal T cs w ht S hS hf h
  | con s ks =>
    have h' := h
    obtain ⟨a, cap, rfl, _⟩ := h'
    by_cases hk : ks.length = 0
    · have hk0 : ks = [] := List.eq_nil_of_length_eq_zero hk
      subst hk0
      exact partsCon0 s a cap w ht S hS h
    · simp only [partsF, if_neg hk]
      exact partsConK s ks a cap w ht S hS hf (by omega) h

end Go.Proofs.YtpdmdcoaaboikaaGreatDoor.vt

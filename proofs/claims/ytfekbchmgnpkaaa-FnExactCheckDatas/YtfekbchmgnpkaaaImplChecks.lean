/-
  The program's varsByName, anyConTwice and hasMoreCons, at every list of datas; nothing that was there is turned.
-/
import Derived.Test.YtfekbchmgnpkaaaChecks
import Derived.Test.YtfekbchmgnpkaaaConsOfIn
import Derived.Maps.OwnIn
import Derived.Maps.RangeWalk
namespace Go.Proofs.Ytfekbchmgnpkaaa.data
open Go.RowKit Go.Shelf Go.Maps Go.Proofs.Ytfekbchmgnpkaaa.rose Go.Proofs.Ytfekbchmgnpkaaa.rangeb Go.Proofs.Ytfekbchmgnpkaaa
set_option linter.unusedVariables false
set_option linter.unusedSimpArgs false
attribute [local go_sem] Oper.semAt_some

/-- A name as a key. -/
def kl (s : ByteArray) : Lit := .string s.data.toList
theorem kl_ne {s t : ByteArray} (h : (s.toList == t.toList) = false) : kl s ≠ kl t := fun e => by
  unfold kl at e
  injection e with e
  rw [ByteArray.toList_eq, ByteArray.toList_eq, e] at h
  simp at h
theorem kl_eq {s t : ByteArray} (h : (s.toList == t.toList) = true) : kl s = kl t := by
  unfold kl
  rw [ByteArray.toList_eq, ByteArray.toList_eq] at h
  rw [beq_iff_eq.1 h]
theorem kl_key (s : ByteArray) : WideAt.IsKeyLit (kl s) := trivial

theorem strKey : Keyed Try.prog 9 := string_keyed Try.underlying9
theorem zeroInt (w : World) : (zeroValue 3).run Try.prog w = .ok (.int .i64 0) w := by kernel_rfl
theorem wfD {x : Int} (h : -9223372036854775808 ≤ x ∧ x ≤ 9223372036854775807) : (Lit.int .i64 x).wf = true := WalkArith.wf_i64 (by omega)
theorem owns_low {w w' : World} {P : Program} {k : TypeId} {R : Value → Option (DataW Unit × List MemPlace)} {b n B : Nat} {D : DataW Unit} (h : w.ownsMap P k R b n D) (hb : Below B w w') (hB : b < B) : w'.ownsMap P k R b n D := by
  obtain ⟨es, clock, h1, r⟩ := h
  exact ⟨es, clock, (hb.block b hB).trans h1, r⟩

/-- A look-up whose answer is known. -/
theorem lookup_knownIn {F : Fence} {nF : Nat} {P : Program} (w : World) {ops : Array Oper} {rest : List Oper} {o : Oper} {a : Act} {Q : Exit → Act → World → Prop}
    (hg : o.guard = none) (m x : Operand) (t : TypeId) (hop : o.op = Op.lookup t m x false)
    (k e : TypeId) (K : Keyed P k) (ht : P.underlying t = some (.map k e)) (he : P.underlying e = some (.int .i64)) (hz : (zeroValue e).run P w = .ok (.int .i64 0) w) (b n : Nat) (D : DataW Unit)
    (hm : a.eval m = .map (some b)) (hown : w.ownsMap P k (plainElem P e) b n D) (key : Value) (kl : Lit) (hx : a.eval x = key) (hkey : keyOf P k key = some kl) (c : Int) (hat : D.atKey kl (.lit (.int .i64 0)) = .lit (.int .i64 c))
    (hK : wpListIn F nF P ops Q rest (a.put o.dst (.int .i64 c)) w) :
    wpListIn F nF P ops Q (o :: rest) a w :=
  wpListIn_lookup_own_int w hg m x t hop k e .i64 K ht he hz b n D hm hown key kl hx hkey fun c' h _ => by
    rw [hat] at h
    injection h with h
    injection h with _ h
    subst h
    exact hK
theorem lookup_ok_knownIn {F : Fence} {nF : Nat} {P : Program} (w : World) {ops : Array Oper} {rest : List Oper} {o : Oper} {a : Act} {Q : Exit → Act → World → Prop}
    (hg : o.guard = none) (m x : Operand) (t : TypeId) (hop : o.op = Op.lookup t m x true)
    (k e : TypeId) (K : Keyed P k) (ht : P.underlying t = some (.map k e)) (he : P.underlying e = some (.int .i64)) (hz : (zeroValue e).run P w = .ok (.int .i64 0) w) (b n : Nat) (D : DataW Unit)
    (hm : a.eval m = .map (some b)) (hown : w.ownsMap P k (plainElem P e) b n D) (key : Value) (kl : Lit) (hx : a.eval x = key) (hkey : keyOf P k key = some kl) (c : Int) (hat : D.atKey kl (.lit (.int .i64 0)) = .lit (.int .i64 c)) (h : Bool) (hh : Maps.has D kl = h)
    (hK : wpListIn F nF P ops Q rest (a.put o.dst (.tuple #[.int .i64 c, .bool h])) w) :
    wpListIn F nF P ops Q (o :: rest) a w :=
  wpListIn_lookup_own_ok_int w hg m x t hop k e .i64 K ht he hz b n D hm hown key kl hx hkey fun c' h' _ => by
    rw [hat] at h'
    injection h' with h'
    injection h' with _ h'
    subst h' hh
    exact hK

def lastV (l : List DataD) (s : ByteArray) : Int := match l.reverse.find? (namedD s) with
  | some d => d.2.1
  | none => 0

/-- The map tells of each name the Vars of the last data that has it. -/
structure Tells (D : DataW Unit) (l : List DataD) : Prop where
  has : ∀ s, Maps.has D (kl s) = l.any (namedD s)
  at_ : ∀ s, D.atKey (kl s) (.lit (.int .i64 0)) = .lit (.int .i64 (lastV l s))
  le : Maps.size D ≤ l.length
  full : Maps.size D = l.length ↔ namesOk l

theorem Tells.made : Tells (.map []) [] := ⟨fun s => by simp [Maps.has], fun s => by simp [DataW.atKey, lastV], by simp [Maps.size], by simp [Maps.size, namesOk]⟩

theorem lastV_snoc (l : List DataD) (d : DataD) (s : ByteArray) : lastV (l ++ [d]) s = if namedD s d = true then d.2.1 else lastV l s := by
  unfold lastV
  rw [List.reverse_append]
  simp only [List.reverse_cons, List.reverse_nil, List.nil_append, List.singleton_append, List.find?_cons]
  by_cases h : namedD s d = true
  · simp [h]
  · have : namedD s d = false := by simpa using h
    simp [this]

theorem Tells.put {D : DataW Unit} {l : List DataD} (h : Tells D l) (hT : Tidy D) (hM : IsMap D) (d : DataD) : Tells (D.put (kl d.1) (.lit (.int .i64 d.2.1))) (l ++ [d]) := by
  have hany : ∀ s, (l ++ [d]).any (namedD s) = (l.any (namedD s) || namedD s d) := fun s => by simp
  refine ⟨fun s => ?_, fun s => ?_, ?_, ?_⟩
  · rw [hany]
    by_cases e : namedD s d = true
    · rw [← kl_eq (s := d.1) (t := s) e, has_put_same hM (kl_key _), e]; simp
    · have e' : namedD s d = false := by simpa using e
      rw [has_put_other (fun q => kl_ne (s := d.1) (t := s) e' q.symm), h.has, e']; simp
  · rw [lastV_snoc]
    by_cases e : namedD s d = true
    · rw [← kl_eq (s := d.1) (t := s) e, atKey_put_same hM (kl_key _), if_pos e]
    · have e' : namedD s d = false := by simpa using e
      rw [atKey_put_other (fun q => kl_ne (s := d.1) (t := s) e' q.symm), h.at_, if_neg e]
  · rw [size_put hT]
    have := h.le
    split <;> simp <;> omega
  · rw [size_put hT, h.has, namesOk_snoc, List.length_append]
    have h1 := h.le
    have h2 := h.full
    by_cases e : l.any (namedD d.1) = true
    · rw [if_pos e]
      constructor
      · intro q; simp at q; omega
      · rintro ⟨-, q⟩
        obtain ⟨y, hy, hn⟩ := List.any_eq_true.1 e
        rw [q y hy] at hn
        cases hn
    · rw [if_neg e]
      have e' : ∀ y ∈ l, namedD d.1 y = false := fun y hy => by
        cases hq : namedD d.1 y
        · rfl
        · exact absurd (List.any_eq_true.2 ⟨y, hy, hq⟩) e
      constructor
      · intro q
        exact ⟨h2.1 (by simp at q; omega), e'⟩
      · rintro ⟨q, -⟩
        rw [h2.2 q]; simp

theorem same_name {l : List DataD} (h : namesOk l) : ∀ d ∈ l, ∀ d' ∈ l, d.1.toList = d'.1.toList → d = d' := by
  induction l with
  | nil => intro d hd; cases hd
  | cons x l ih =>
    unfold namesOk at h
    rw [List.map_cons, List.nodup_cons] at h
    intro d hd d' hd' e
    rcases List.mem_cons.1 hd with h1 | h1
    · rcases List.mem_cons.1 hd' with h2 | h2
      · rw [h1, h2]
      · exact absurd (List.mem_map.2 ⟨d', h2, by rw [← e, h1]⟩) h.1
    · rcases List.mem_cons.1 hd' with h2 | h2
      · exact absurd (List.mem_map.2 ⟨d, h1, by rw [e, h2]⟩) h.1
      · exact ih h.2 d h1 d' h2 e
theorem lastV_of {l : List DataD} (h : namesOk l) {s : ByteArray} {d : DataD} (hf : l.find? (namedD s) = some d) : lastV l s = d.2.1 := by
  have hd := List.mem_of_find?_eq_some hf
  have hn := List.find?_some hf
  unfold lastV
  cases hq : l.reverse.find? (namedD s) with
  | none =>
    have := List.find?_eq_none.1 hq d (by simpa using hd)
    exact absurd hn this
  | some d' =>
    have hd' := List.mem_of_find?_eq_some hq
    have hn' := List.find?_some hq
    have e : d = d' := same_name h d hd d' (by simpa using hd') (by
      have h1 : d.1.toList = s.toList := beq_iff_eq.1 hn
      have h2 : d'.1.toList = s.toList := beq_iff_eq.1 hn'
      rw [h1, h2])
    rw [e]

set_option maxRecDepth 100000 in
set_option maxHeartbeats 2000000 in
theorem varsByName_any (ks : List DataD) (v : Value) (w : World) (hw : ks.length + wts ks ≤ 1048576) (h : dataSh.slice.rep w (· < w.heap.size) [v] ks) :
    Calls Try.prog 64 #[v] w fun e w' => e = .returned (.map (some w.heap.size)) ∧ Below w.heap.size w w' ∧ ∃ D, w'.ownsMap Try.prog 9 (plainElem Try.prog 3) w.heap.size ks.length D ∧ Tells D ks := by
  obtain ⟨a, cap, css, rfl, hcap, hmax, hrow, hk⟩ := datas_open h
  have HR : Hid (RowAt w (· < w.heap.size) 3 a ks.length css ∧ ∀ i (h : i < ks.length), dataSh.rep w (· < w.heap.size) (css i) ks[i]) := ⟨hrow, hk⟩
  clear hrow hk h hcap hmax
  have hmm := @run_makeMap Try.prog
  go_enter Try.func64, Try.ntmps64
  go_wp2
  go_loopw [9] (fun v9 wr => ∃ i : Nat, i ≤ ks.length ∧ v9 = .int .i64 i ∧ Hid (Below w.heap.size w wr ∧ ∃ D, wr.ownsMap Try.prog 9 (plainElem Try.prog 3) w.heap.size i D ∧ Tells D (ks.take i))) (fun v9 _ => ks.length - (intOf v9).toNat)
  case atStart => exact ⟨0, Nat.zero_le _, rfl, (Below.refl _ _).alloc (Nat.le_refl _) _, .map [], World.ownsMap_made _ _ _ _, by rw [List.take_zero]; exact Tells.made⟩
  case round =>
    obtain ⟨i, hi, rfl, HI⟩ := hrel
    by_cases hlt : i < ks.length
    · obtain ⟨b, o, rfl, hS, hc⟩ := HR.out.1 i hlt
      obtain ⟨x0, x1, x2, a2, c2, hT, hcs, f0, f1, f2⟩ := data_open (HR.out.2 i hlt)
      rw [hcs] at hc
      have hBW := HI.out.1
      have e0 := (hBW.cell (p := ⟨b, o + i * 3, none⟩) hS).trans (hc 0 _ rfl)
      have e1 := (hBW.cell (p := ⟨b, o + i * 3 + 1, none⟩) hS).trans (hc 1 _ rfl)
      have e2 := (hBW.cell (p := ⟨b, o + i * 3 + 2, none⟩) hS).trans (hc 2 _ rfl)
      obtain ⟨D, hown, htells⟩ := HI.out.2
      have HP : Hid (Tells (D.put (kl x0) (.lit (.int .i64 x1))) (ks.take (i + 1))) := by
        rw [List.take_succ_eq_append_getElem hlt, hT]
        exact htells.put (hown.tidy strKey) hown.isMap (x0, x1, x2)
      have hkey : keyOf Try.prog 9 (.string x0) = some (kl x0) := WideMaps.keyOf_string_mk Try.underlying9 f0
      have OW1 : Hid ((wr.alloc (.cells #[.string x0, .int .i64 x1, .slice a2 x2.length c2] 89)).ownsMap Try.prog 9 (plainElem Try.prog 3) w.heap.size i D) := hown.alloc _
      have BW1 : Hid (Below w.heap.size w (wr.alloc (.cells #[.string x0, .int .i64 x1, .slice a2 x2.length c2] 89))) := hBW.alloc hBW.size _
      have hval : plainElem (H := Unit) Try.prog 3 (.int .i64 x1) = some (.lit (.int .i64 x1), []) := plainElem_int Try.underlying3 (wfD f1)
      clear hown htells hT hcs hc f2 hBW HI
      go_wp2_with (first | (at_mapUpdate; refine wpList_mapUpdate_own _ rfl _ _ _ 96 rfl 9 3 strKey Try.underlying96 _ w.heap.size i _ rfl OW1.out (by unfold maxLen; omega) _ _ _ rfl rfl hkey _ [] hval ?_; intro w1 hown1 hgrow1) | go_in)
      go_round
      case rel => exact ⟨i + 1, by omega, by go_num, BW1.out.grown hgrow1 BW1.out.size (fun j hj => by cases hj; exact Nat.le_refl _), _, hown1, HP.out⟩
      case measure => simp [intOf]; omega
    · obtain rfl : i = ks.length := by omega
      go_wp2
      go_ret
      refine ⟨rfl, HI.out.1, ?_⟩
      have := HI.out.2
      rwa [List.take_length] at this

/-- The map tells of each name 1, if one has it. -/
structure Counts (D : DataW Unit) (l : List Spot) : Prop where
  at_ : ∀ s, D.atKey (kl s) (.lit (.int .i64 0)) = .lit (.int .i64 (if l.any (named s) = true then 1 else 0))

theorem Counts.made : Counts (.map []) [] := ⟨fun s => by simp [DataW.atKey]⟩
theorem Counts.put {D : DataW Unit} {l : List Spot} (h : Counts D l) (hM : IsMap D) (x : Spot) : Counts (D.put (kl x.c.1) (.lit (.int .i64 1))) (l ++ [x]) := by
  refine ⟨fun s => ?_⟩
  have hany : (l ++ [x]).any (named s) = (l.any (named s) || named s x) := by simp
  rw [hany]
  by_cases e : named s x = true
  · rw [← kl_eq (s := x.c.1) (t := s) e, atKey_put_same hM (kl_key _), e]; simp
  · have e' : named s x = false := by simpa using e
    rw [atKey_put_other (fun q => kl_ne (s := x.c.1) (t := s) e' q.symm), h.at_, e']; simp

theorem boolOf (b : Bool) : Value.bool b = .bool b := rfl

set_option maxRecDepth 100000 in
set_option maxHeartbeats 4000000 in
theorem anyConTwice_any (ks : List DataD) (v : Value) (w : World) (hw : ks.length + wts ks ≤ 1048576) (h : dataSh.slice.rep w (· < w.heap.size) [v] ks) :
    Calls Try.prog 65 #[v] w fun e w' => e = .returned (.bool (!decide (consOk (spots 0 0 ks)))) ∧ Below w.heap.size w w' := by
  refine (callsIn_wide (n := 5)).1 ?_
  have htl := total_le ks
  have hmm := @run_makeMap Try.prog
  have o0 := dataSh.slice.one h v (by simp)
  have HR : Hid _ := h
  clear h
  refine callsIn_of_wp_marks Try.func65 rfl trivial ?_ rfl
  simp only [Try.ntmps65, List.size_toArray, List.length_cons, List.length_nil, Nat.reduceAdd, Nat.reduceSub, Array.replicate_succ, Array.replicate_zero, List.push_toArray, List.append_toArray, List.nil_append, List.cons_append]
  gi_wp2_with (refine ⟨trivial, ?_⟩; gi_at_call 86; refine (consOf_in Fence.wide _ trivial rfl v _ o0).mono ?_; rintro e w' ⟨rfl, rfl⟩)
  obtain ⟨WL, hWL⟩ : ∃ WL, WL = (((w.alloc (.cells #[.bool false] 4)).alloc (.map #[] 0)).alloc (.cells #[.map (some (w.heap.size + 1))] 96)).alloc (.cells #[v] 53) := ⟨_, rfl⟩
  obtain ⟨zL, bL, k0, k1, k2, k3⟩ := four w _ _ _ _ WL hWL
  have d1 := World.ownsMap_made (H := Unit) (w.alloc (.cells #[.bool false] 4)) Try.prog 9 (plainElem Try.prog 3)
  simp only [World.size_alloc] at d1
  have m1 : WL.ownsMap (H := Unit) Try.prog 9 (plainElem Try.prog 3) (w.heap.size + 1) 0 (.map []) := by rw [hWL]; exact (d1.alloc _).alloc _
  clear d1
  rw [← hWL]
  clear hWL
  refine wpIn_rangeFunc_Bx (n₀ := w.heap.size) (N := total ks) rfl (by omega) (gf := 106) (lb := #[.pointer (some ⟨w.heap.size + 3, 0, none⟩)]) rfl trivial (enters_of Try.func106 (by kernel_rfl) rfl) (by omega)
    (consOf_stops Fence.wide _ trivial rfl (by omega) (w.heap.size + 3) w.heap.size ks v WL (by omega) (by omega) (blk_cell k3 rfl) (dataSh.slice.below HR.out bL) hw) (fun _ => rfl)
    (fun (pre : List (CPart WL w.heap.size)) W => W.heap[w.heap.size]? = some (.cells #[.bool false] 4) ∧ W.heap[w.heap.size + 2]? = some (.cells #[.map (some (w.heap.size + 1))] 96) ∧ (∃ D, W.ownsMap Try.prog 9 (plainElem Try.prog 3) (w.heap.size + 1) pre.length D ∧ Counts D (pre.map fun (y : CPart WL w.heap.size) => y.s)) ∧ consOk (pre.map fun (y : CPart WL w.heap.size) => y.s) ∧ Below w.heap.size w W)
    (fun c (pre : List (CPart WL w.heap.size)) W => c = .ret ∧ ¬ consOk (pre.map fun (y : CPart WL w.heap.size) => y.s) ∧ W.heap[w.heap.size]? = some (.cells #[.bool true] 4) ∧ Below w.heap.size w W)
    (fun s A B hs hb => ⟨(hb.block _ (by omega)).trans hs.1, (hb.block _ (by omega)).trans hs.2.1, (by obtain ⟨D, h1, h2⟩ := hs.2.2.1; exact ⟨D, owns_low h1 hb (by omega), h2⟩), hs.2.2.2.1, hs.2.2.2.2.trans (hb.mono (by omega))⟩)
    (fun c s A B hs hb => ⟨hs.1, hs.2.1, (hb.block _ (by omega)).trans hs.2.2.1, hs.2.2.2.trans (hb.mono (by omega))⟩)
    ⟨k0, k2, ⟨_, m1, Counts.made⟩, by simp [consOk], bL⟩
    (fun x a' W => ∃ By, w.heap.size + 5 < By ∧ W.heap[By]? = some (.cells #[.string x.s.c.1, .slice x.a x.s.c.2.length x.c] 93) ∧
      a' = { tmps := #[v, undef, .pointer (some ⟨w.heap.size, 0, none⟩), .pointer (some ⟨w.heap.size + 2, 0, none⟩), undef, .pointer (some ⟨By, 0, none⟩), .map (some (w.heap.size + 1)), v, .func (.func 106) #[] #[.pointer (some ⟨w.heap.size + 3, 0, none⟩)], encP x, encC x, undef, undef, undef, undef, undef, undef, undef, undef, undef, undef], defers := [] })
    (fun x a' A B hA hb => by
      obtain ⟨By, h2, h4, h5⟩ := hA
      exact ⟨By, h2, (hb By (by omega)).trans h4, h5⟩) ?assign ?body ?done ?stop
  case assign =>
    intro l pre x W K hi hz hK
    simp only [encs, encP, encC]
    gi_wp2
    obtain ⟨hc, hc2, ⟨D, hD, hCn⟩, hok, hB⟩ := hi
    have hb : Below W.heap.size W (W.alloc (.cells #[.string x.s.c.1, .slice x.a x.s.c.2.length x.c] 93)) := (Below.refl _ _).alloc (Nat.le_refl _) _
    exact hK _ _ (Kept.ofBelow hb (by omega)) ⟨(hb.block _ (by omega)).trans hc, (hb.block _ (by omega)).trans hc2, ⟨D, owns_low hD hb (by omega), hCn⟩, hok, hB.trans (hb.mono (by omega))⟩ ⟨W.heap.size, by omega, alloc_top _ _, rfl⟩
  case body =>
    rintro l pre x a' W ⟨hc, hc2, ⟨D, hD, hCn⟩, hok, hB⟩ hlen hz ⟨By, hBy, ey, rfl⟩
    have g0 := blk_cell ey (i := 0) rfl
    have m0 := blk_cell hc2 (i := 0) rfl
    have n0 := blk_cell hc (i := 0) rfl
    have p0 := blk_free (i := 0) hc
    have hsz : x.s.c.1.size ≤ maxLen := by
      obtain ⟨_, _, _, _, hT, hcs, f0, -⟩ := con.con_open x.rep
      simp at hcs
      rw [hcs.1]; exact f0
    have hkey : keyOf Try.prog 9 (.string x.s.c.1) = some (kl x.s.c.1) := WideMaps.keyOf_string_mk Try.underlying9 hsz
    have HC : Hid _ := hc
    have HC2 : Hid _ := hc2
    have EY : Hid _ := ey
    have HX : Hid (IsMap D) := hD.isMap
    have HCn : Hid _ := hCn
    have hat := hCn.at_ x.s.c.1
    clear hc hc2 ey hCn
    by_cases hx : (pre.map (·.s)).any (named x.s.c.1) = true
    · rw [if_pos hx] at hat
      have hat2 : (D.put (kl x.s.c.1) (.lit (.int .i64 2))).atKey (kl x.s.c.1) (.lit (.int .i64 0)) = .lit (.int .i64 2) := atKey_put_same HX.out (kl_key _) _ _
      have hval : plainElem (H := Unit) Try.prog 3 (.int .i64 2) = some (.lit (.int .i64 2), []) := plainElem_int Try.underlying3 (wfD (by omega))
      gi_wp2_with (first
        | (gi_at_lookup; refine lookup_knownIn _ rfl _ _ 96 rfl 9 3 strKey Try.underlying96 Try.underlying3 (zeroInt _) (w.heap.size + 1) pre.length _ rfl hD _ _ rfl hkey 1 hat ?_)
        | (gi_at_lookup; refine lookup_knownIn _ rfl _ _ 96 rfl 9 3 strKey Try.underlying96 Try.underlying3 (zeroInt _) (w.heap.size + 1) (pre.length + 1) _ rfl hown1 _ _ rfl hkey 2 hat2 ?_)
        | (gi_at_mapUpdate; refine wpListIn_mapUpdate_own _ rfl _ _ _ 96 rfl 9 3 strKey Try.underlying96 _ (w.heap.size + 1) pre.length _ rfl hD (by unfold maxLen; omega) _ _ _ rfl rfl hkey _ [] hval ?_; intro w1 hown1 hgrow1
           have y0 := blk_cell (i := 0) ((hgrow1.block w.heap.size (by omega) (fun e => by have := Option.some.inj e; omega)).trans HC.out) rfl
           have y1 := blk_free (i := 0) ((hgrow1.block w.heap.size (by omega) (fun e => by have := Option.some.inj e; omega)).trans HC.out)
           have y2 := blk_cell (i := 0) ((hgrow1.block (w.heap.size + 2) (by omega) (fun e => by have := Option.some.inj e; omega)).trans HC2.out) rfl
           have y3 := blk_cell (i := 0) ((hgrow1.block By (Array.getElem?_eq_some_iff.1 EY.out).1 (fun e => by have := Option.some.inj e; omega)).trans EY.out) rfl))
      have hb1 : Below w.heap.size W w1 := (Below.refl _ _).grown hgrow1 (by omega) (fun j hj => by cases hj; omega)
      have hkp : Kept w.heap.size WL.heap.size W w1 := ⟨hgrow1.size, fun j hj => hb1.block j hj, fun j h1 h2 => hgrow1.block j h2 (fun e => by have := Option.some.inj e; omega)⟩
      refine ⟨hkp.trans (Kept.box (p := ⟨w.heap.size, 0, none⟩) _ _ (by simp) (by simp; omega)), rfl, ?_, ?_, (hB.trans hb1).setCell (p := ⟨w.heap.size, 0, none⟩) (by simp) _⟩
      · rw [List.map_append, List.map_cons, List.map_nil, consOk_snoc]
        rintro ⟨-, q⟩
        obtain ⟨y, hy, hn⟩ := List.any_eq_true.1 hx
        rw [q y hy] at hn
        cases hn
      · have := (hgrow1.block w.heap.size (by omega) (fun e => by have := Option.some.inj e; omega)).trans HC.out
        simp [World.setCell, Array.getElem?_modify, this]
    · rw [if_neg hx] at hat
      have hat2 : (D.put (kl x.s.c.1) (.lit (.int .i64 1))).atKey (kl x.s.c.1) (.lit (.int .i64 0)) = .lit (.int .i64 1) := atKey_put_same HX.out (kl_key _) _ _
      have hval : plainElem (H := Unit) Try.prog 3 (.int .i64 1) = some (.lit (.int .i64 1), []) := plainElem_int Try.underlying3 (wfD (by omega))
      gi_wp2_with (first
        | (gi_at_lookup; refine lookup_knownIn _ rfl _ _ 96 rfl 9 3 strKey Try.underlying96 Try.underlying3 (zeroInt _) (w.heap.size + 1) pre.length _ rfl hD _ _ rfl hkey 0 hat ?_)
        | (gi_at_lookup; refine lookup_knownIn _ rfl _ _ 96 rfl 9 3 strKey Try.underlying96 Try.underlying3 (zeroInt _) (w.heap.size + 1) (pre.length + 1) _ rfl hown1 _ _ rfl hkey 1 hat2 ?_)
        | (gi_at_mapUpdate; refine wpListIn_mapUpdate_own _ rfl _ _ _ 96 rfl 9 3 strKey Try.underlying96 _ (w.heap.size + 1) pre.length _ rfl hD (by unfold maxLen; omega) _ _ _ rfl rfl hkey _ [] hval ?_; intro w1 hown1 hgrow1
           have y2 := blk_cell (i := 0) ((hgrow1.block (w.heap.size + 2) (by omega) (fun e => by have := Option.some.inj e; omega)).trans HC2.out) rfl
           have y3 := blk_cell (i := 0) ((hgrow1.block By (Array.getElem?_eq_some_iff.1 EY.out).1 (fun e => by have := Option.some.inj e; omega)).trans EY.out) rfl))
      have hb1 : Below w.heap.size W w1 := (Below.refl _ _).grown hgrow1 (by omega) (fun j hj => by cases hj; omega)
      have hkp : Kept w.heap.size WL.heap.size W w1 := ⟨hgrow1.size, fun j hj => hb1.block j hj, fun j h1 h2 => hgrow1.block j h2 (fun e => by have := Option.some.inj e; omega)⟩
      refine ⟨hkp, (hgrow1.block w.heap.size (by omega) (fun e => by have := Option.some.inj e; omega)).trans HC.out, (hgrow1.block (w.heap.size + 2) (by omega) (fun e => by have := Option.some.inj e; omega)).trans HC2.out, ⟨_, by rw [List.length_append]; exact hown1, ?_⟩, ?_, hB.trans hb1⟩
      · rw [List.map_append, List.map_cons, List.map_nil]
        exact HCn.out.put HX.out x.s
      · rw [List.map_append, List.map_cons, List.map_nil, consOk_snoc]
        refine ⟨hok, fun y hy => ?_⟩
        cases hq : named x.s.c.1 y
        · rfl
        · exact absurd (List.any_eq_true.2 ⟨y, hy, hq⟩) hx
  case done =>
    rintro D ys W hD hS ⟨hc, hc2, -, hok, hB⟩ hK
    rw [hS] at hok
    have n0 := blk_cell hc (i := 0) rfl
    have p0 := blk_free (i := 0) hc
    gi_wp2
    have hK' : (W.setCell ⟨w.heap.size, 0, none⟩ (.bool false)).heap[D]? = some (.deferred (some [])) := (Below.heap_setCell _ _ _ _ (by simp; omega)).trans hK
    refine ⟨by simp, .inl ⟨_, _, rfl, run_takeDeferred hK', ?_⟩⟩
    have hc3 : (W.setCell ⟨w.heap.size, 0, none⟩ (.bool false)).heap[w.heap.size]? = some (.cells #[.bool false] 4) := by simp [World.setCell, Array.getElem?_modify, hc]
    have r1 := blk_cell ((World.putObj_heap_other (w := _) (o := .deferred none) (show w.heap.size ≠ D by omega)).trans hc3) (i := 0) rfl
    refine ⟨.bool false, ?_, by rw [decide_eq_true hok]; rfl, (hB.setCell (p := ⟨w.heap.size, 0, none⟩) (by simp) _).trans (put_below _ _ hK' (by omega))⟩
    simp [results, Try.f65, go_sem, r1]
  case stop =>
    rintro D c pre W hD hpre ⟨rfl, hno, hc, hB⟩ hK
    have hno2 : ¬ consOk (spots 0 0 ks) := fun q => hno (consOk_pre hpre q)
    gi_wp2
    refine ⟨by simp, .inl ⟨_, _, rfl, run_takeDeferred hK, ?_⟩⟩
    have r1 := blk_cell ((World.putObj_heap_other (w := W) (o := .deferred none) (show w.heap.size ≠ D by omega)).trans hc) (i := 0) rfl
    refine ⟨.bool true, ?_, by rw [decide_eq_false hno2]; rfl, hB.trans (put_below _ _ hK (by omega))⟩
    simp [results, Try.f65, go_sem, r1]

set_option maxRecDepth 100000 in
set_option maxHeartbeats 2000000 in
theorem hasMoreCons_any (ks : List DataD) (v : Value) (most : Nat) (w : World) (hw : ks.length + wts ks ≤ 1048576) (h : dataSh.slice.rep w (· < w.heap.size) [v] ks) :
    Calls Try.prog 66 #[v, .int .i64 (most : Nat)] w fun e w' => e = .returned (.bool (!decide (total ks ≤ most))) ∧ Below w.heap.size w w' := by
  refine (callsIn_wide (n := 5)).1 ?_
  have o0 := dataSh.slice.one h v (by simp)
  have HR : Hid _ := h
  clear h
  refine callsIn_of_wp_marks Try.func66 rfl trivial ?_ rfl
  simp only [Try.ntmps66, List.size_toArray, List.length_cons, List.length_nil, Nat.reduceAdd, Nat.reduceSub, Array.replicate_succ, Array.replicate_zero, List.push_toArray, List.append_toArray, List.nil_append, List.cons_append]
  gi_wp2_with (refine ⟨trivial, ?_⟩; gi_at_call 86; refine (consOf_in Fence.wide _ trivial rfl v _ o0).mono ?_; rintro e w' ⟨rfl, rfl⟩)
  obtain ⟨WL, hWL⟩ : ∃ WL, WL = ((w.alloc (.cells #[.int .i64 (most : Nat)] 3)).alloc (.cells #[.bool false] 4)).alloc (.cells #[v] 53) := ⟨_, rfl⟩
  obtain ⟨zL, bL, k0, k1, k2⟩ := three w _ _ _ WL hWL
  rw [← hWL]
  clear hWL
  refine wpIn_rangeFunc_Bx (n₀ := w.heap.size) (N := total ks) rfl (by omega) (gf := 106) (lb := #[.pointer (some ⟨w.heap.size + 2, 0, none⟩)]) rfl trivial (enters_of Try.func106 (by kernel_rfl) rfl) (by omega)
    (consOf_stops Fence.wide _ trivial rfl (by omega) (w.heap.size + 2) w.heap.size ks v WL (by omega) (by omega) (blk_cell k2 rfl) (dataSh.slice.below HR.out bL) hw) (fun _ => rfl)
    (fun (pre : List (CPart WL w.heap.size)) W => W.heap[w.heap.size]? = some (.cells #[.int .i64 (most : Nat)] 3) ∧ W.heap[w.heap.size + 1]? = some (.cells #[.bool false] 4) ∧ (∀ y ∈ pre, y.s.tag < most) ∧ Below w.heap.size w W)
    (fun c (pre : List (CPart WL w.heap.size)) W => c = .ret ∧ (∃ y ∈ pre, most ≤ y.s.tag) ∧ W.heap[w.heap.size + 1]? = some (.cells #[.bool true] 4) ∧ Below w.heap.size w W)
    (fun s A B hs hb => ⟨(hb.block _ (by omega)).trans hs.1, (hb.block _ (by omega)).trans hs.2.1, hs.2.2.1, hs.2.2.2.trans (hb.mono (by omega))⟩)
    (fun c s A B hs hb => ⟨hs.1, hs.2.1, (hb.block _ (by omega)).trans hs.2.2.1, hs.2.2.2.trans (hb.mono (by omega))⟩)
    ⟨k0, k1, by simp, bL⟩
    (fun x a' W => ∃ Bx, w.heap.size + 4 < Bx ∧ W.heap[Bx]? = some (.cells #[.int .i64 (x.s.tag : Nat), .int .i64 (x.s.i : Nat), .int .i64 (x.s.j : Nat)] 127) ∧
      a' = { tmps := #[v, .int .i64 (most : Nat), undef, .pointer (some ⟨w.heap.size, 0, none⟩), .pointer (some ⟨w.heap.size + 1, 0, none⟩), .pointer (some ⟨Bx, 0, none⟩), v, .func (.func 106) #[] #[.pointer (some ⟨w.heap.size + 2, 0, none⟩)], encP x, encC x, undef, undef, undef, undef], defers := [] })
    (fun x a' A B hA hb => by
      obtain ⟨Bx, h1, h3, h5⟩ := hA
      exact ⟨Bx, h1, (hb Bx (by omega)).trans h3, h5⟩) ?assign ?body ?done ?stop
  case assign =>
    intro l pre x W K hi hz hK
    simp only [encs, encP, encC]
    gi_wp2
    obtain ⟨hc, hc1, hall, hB⟩ := hi
    have hb : Below W.heap.size W (W.alloc (.cells #[.int .i64 (x.s.tag : Nat), .int .i64 (x.s.i : Nat), .int .i64 (x.s.j : Nat)] 127)) := (Below.refl _ _).alloc (Nat.le_refl _) _
    exact hK _ _ (Kept.ofBelow hb (by omega)) ⟨(hb.block _ (by omega)).trans hc, (hb.block _ (by omega)).trans hc1, hall, hB.trans (hb.mono (by omega))⟩ ⟨W.heap.size, by omega, alloc_top _ _, rfl⟩
  case body =>
    rintro l pre x a' W ⟨hc, hc1, hall, hB⟩ hlen hz ⟨Bx, hBx, ex, rfl⟩
    have e0 := blk_cell ex (i := 0) rfl
    have m0 := blk_cell hc (i := 0) rfl
    have n1 := blk_cell hc1 (i := 0) rfl
    have p1 := blk_free (i := 0) hc1
    have HC : Hid _ := hc
    have HC1 : Hid _ := hc1
    clear ex hc hc1
    by_cases hx : most ≤ x.s.tag
    · have hx2 : ((most : Nat) : Int) ≤ ((x.s.tag : Nat) : Int) := by omega
      gi_wp2
      refine ⟨Kept.box (p := ⟨w.heap.size + 1, 0, none⟩) _ _ (by simp) (by simp; omega), rfl, ⟨x, by simp, hx⟩, ?_, hB.setCell (p := ⟨w.heap.size + 1, 0, none⟩) (by simp) _⟩
      simp [World.setCell, Array.getElem?_modify, HC1.out]
    · have hx2 : ¬ ((most : Nat) : Int) ≤ ((x.s.tag : Nat) : Int) := by omega
      gi_wp2
      exact ⟨Kept.refl _ _ _, HC.out, HC1.out, fun y hy => by rcases List.mem_append.1 hy with h | h; exact hall y h; simp at h; subst h; omega, hB⟩
  case done =>
    rintro D ys W hD hS ⟨hc, hc1, hall, hB⟩ hK
    have hv : total ks ≤ most := by
      rcases Nat.lt_or_ge most (total ks) with h | h
      · have hl : most < (spots 0 0 ks).length := by rw [spots_length]; exact h
        have h1 := spots_get 0 0 ks most hl
        have h2 : (spots 0 0 ks)[most] ∈ ys.map (·.s) := by rw [hS]; exact List.getElem_mem hl
        obtain ⟨z, hz, e⟩ := List.mem_map.1 h2
        have := hall z hz
        rw [e, h1] at this
        omega
      · exact h
    have n1 := blk_cell hc1 (i := 0) rfl
    have p1 := blk_free (i := 0) hc1
    gi_wp2
    have hK' : (W.setCell ⟨w.heap.size + 1, 0, none⟩ (.bool false)).heap[D]? = some (.deferred (some [])) := (Below.heap_setCell _ _ _ _ (by simp; omega)).trans hK
    refine ⟨by simp, .inl ⟨_, _, rfl, run_takeDeferred hK', ?_⟩⟩
    have hc3 : (W.setCell ⟨w.heap.size + 1, 0, none⟩ (.bool false)).heap[w.heap.size + 1]? = some (.cells #[.bool false] 4) := by simp [World.setCell, Array.getElem?_modify, hc1]
    have r1 := blk_cell ((World.putObj_heap_other (w := _) (o := .deferred none) (show w.heap.size + 1 ≠ D by omega)).trans hc3) (i := 0) rfl
    refine ⟨.bool false, ?_, by rw [decide_eq_true hv]; rfl, (hB.setCell (p := ⟨w.heap.size + 1, 0, none⟩) (by simp) _).trans (put_below _ _ hK' (by omega))⟩
    simp [results, Try.f66, go_sem, r1]
  case stop =>
    rintro D c pre W hD hpre ⟨rfl, ⟨y, hy, hty⟩, hc1, hB⟩ hK
    have hv : ¬ total ks ≤ most := by
      have hm : y.s ∈ spots 0 0 ks := hpre.subset (List.mem_map.2 ⟨y, hy, rfl⟩)
      have := spots_tag hm
      omega
    gi_wp2
    refine ⟨by simp, .inl ⟨_, _, rfl, run_takeDeferred hK, ?_⟩⟩
    have r1 := blk_cell ((World.putObj_heap_other (w := W) (o := .deferred none) (show w.heap.size + 1 ≠ D by omega)).trans hc1) (i := 0) rfl
    refine ⟨.bool true, ?_, by rw [decide_eq_false hv]; rfl, hB.trans (put_below _ _ hK (by omega))⟩
    simp [results, Try.f66, go_sem, r1]

end Go.Proofs.Ytfekbchmgnpkaaa.data

/-
  The model's l20Back, each way in which nothing stands within a word.
-/
import Derived.Test.YtjofmoebijdccaaB1
import Derived.Test.YtjofmoebijdccaaB2
import Derived.Test.YtjofmoebijdccaaB3
import Derived.Test.YtjofmoebijdccaaB4
import Derived.Test.YtjofmoebijdccaaB5
import Derived.Test.YtjofmoebijdccaaB6
import Derived.Test.YtjofmoebijdccaaB7
import Derived.Test.YtjofmoebijdccaaB8
import Derived.Test.YtjofmoebijdccaaB9
import Derived.Test.YtjofmoebijdccaaB10
import Derived.Test.YtjofmoebijdccaaB11
import Derived.Test.YtjofmoebijdccaaB12
import Derived.Test.YtjofmoebijdccaaB13
import Derived.Test.YtjofmoebijdccaaB14
import Derived.Test.YtjofmoebijdccaaB15
namespace Go.Proofs.Ytjofmoebijdccaa.back
open Go Go.RowKit Go.Proofs.Ytjofmoebijdccaa.rose Go.Proofs.Ytjofmoebijdccaa Go.Proofs.Ytjofmoebijdccaa.heap Go.Proofs.Ytjofmoebijdccaa.words
set_option linter.unusedVariables false
set_option linter.unusedSimpArgs false

set_option maxRecDepth 100000 in
set_option maxHeartbeats 8000000 in
/-- None is left. -/
theorem spec_full (L : Nat) (ks : List data.DataD) (T : HeapD) (vl vp : Value) (cs : List Value) (d n k : Nat) (D ρ x : Int) (w : World) (hD1 : 1 ≤ D) (hD2 : D ≤ 200) (hn : n < 4000) (hρ : ρ = 0) (hx1 : -9223372036854775808 ≤ x) (hx2 : x ≤ 9223372036854775807) (hL : L ≤ k)
    (hk : w.heap[k]? = some (.cells #[.int .i64 ρ] 55)) (he : SE L w vl vp cs ks T) :
    Calls Try.prog 21 #[.pointer (some ⟨k, 0, none⟩), vl, .agg cs.toArray, vp, .int .i64 x, .int .i64 D] w fun e w' => SpecOut k w (backD (topB ks T) (d + 1) (0) x) e w' := by
  obtain ⟨W, a0, c0, half, base, next, rfl, rfl, f0, f1, f2, f3⟩ := heap_open he.heap
  have H0 : Hid (SK w _ [.slice a0 W.length c0, .int .i64 half, .int .i64 base, .int .i64 next] k ρ) := sk_two hk
  have H1 : Hid (SK w _ [.slice a0 W.length c0, .int .i64 half, .int .i64 base, .int .i64 next] k (ρ - 1)) := H0.out.put _
  have c1 := H0.out.k1
  have z1 := blk_free (i := 0) H0.out.work
  have c2 := H1.out.k1
  have fr := H1.out.rfree
  have r0 := H1.out.r0
  have r1 := H1.out.r1
  have r2 := H1.out.r2
  have r3 := H1.out.r3
  have o0 := data.dataSh.slice.one he.list vl (by simp)
  have o1 := ints.intsSh.one he.plcs vp (by simp)
  have t0 : (D == 0) = false := by simp; omega
  have p1 : 0 ≤ ρ ∧ ρ ≤ 4000 := by omega
  have t1 : decide (ρ - 1 < 0) = true := by simp; omega
  have HN : Hid (backD (topB ks (W, half, base, next)) (d + 1) 0 x = none) := back_full _ _ _
  clear he f0 f1 f2 f3 hk hρ
  go_enter Try.func21, Try.ntmps21
  go_wp2_with fail
  refine bodyPost_ret (v := .tuple #[.agg #[.int .i64 0, .int .i64 0, .string ⟨#[]⟩, .slice none 0 0], .bool false]) (by simp [results, Try.f21, go_sem, r0, r1, r2, r3]) rfl ?_
  exact sk_no H1.out HN.out rfl _ _ _ _

set_option maxRecDepth 100000 in
set_option maxHeartbeats 8000000 in
/-- An int. -/
theorem spec_int (L : Nat) (ks : List data.DataD) (T : HeapD) (vl vp : Value) (cs : List Value) (d n k : Nat) (D ρ x : Int) (w : World) (hD1 : 1 ≤ D) (hD2 : D ≤ 200) (hn : n < 4000) (hρ : ρ = (n : Int) + 1) (hx1 : -9223372036854775808 ≤ x) (hx2 : x ≤ 9223372036854775807) (hL : L ≤ k)
    (hk : w.heap[k]? = some (.cells #[.int .i64 ρ] 55)) (he : SE L w vl vp cs ks T) (hx : decide (x % 2 = 0) = false) :
    Calls Try.prog 21 #[.pointer (some ⟨k, 0, none⟩), vl, .agg cs.toArray, vp, .int .i64 x, .int .i64 D] w fun e w' => SpecOut k w (backD (topB ks T) (d + 1) (n + 1) x) e w' := by
  obtain ⟨W, a0, c0, half, base, next, rfl, rfl, f0, f1, f2, f3⟩ := heap_open he.heap
  have H0 : Hid (SK w _ [.slice a0 W.length c0, .int .i64 half, .int .i64 base, .int .i64 next] k ρ) := sk_two hk
  have H1 : Hid (SK w _ [.slice a0 W.length c0, .int .i64 half, .int .i64 base, .int .i64 next] k (ρ - 1)) := H0.out.put _
  have c1 := H0.out.k1
  have z1 := blk_free (i := 0) H0.out.work
  have c2 := H1.out.k1
  have fr := H1.out.rfree
  have r0 := H1.out.r0
  have r1 := H1.out.r1
  have r2 := H1.out.r2
  have r3 := H1.out.r3
  have o0 := data.dataSh.slice.one he.list vl (by simp)
  have o1 := ints.intsSh.one he.plcs vp (by simp)
  have t0 : (D == 0) = false := by simp; omega
  have p1 : 0 ≤ ρ ∧ ρ ≤ 4000 := by omega
  have t1 : decide (ρ - 1 < 0) = false := by simp; omega
  have HR : Hid (ρ - 1 = (n : Int)) := by show _ = _; omega
  have HN : Hid (backD (topB ks (W, half, base, next)) (d + 1) (n + 1) x = some (.mk (1, x / 2, ⟨#[]⟩) [], n)) := back_leaf (top_int (of_decide_eq_false hx))
  clear he f0 f1 f2 f3 hk hρ
  go_enter Try.func21, Try.ntmps21
  go_wp2_with (first | (go_at_call 40; refine (isref_is hx).mono ?_; rintro e w' ⟨rfl, hxx⟩; subst w') | (go_at_call 41; refine (wordint_is _ _).mono ?_; rintro e w' ⟨rfl, hxx⟩; subst w'))
  refine bodyPost_ret (v := .tuple #[.agg #[.int .i64 1, .int .i64 (x / 2), .string ⟨#[]⟩, .slice none 0 0], .bool true]) (by simp [results, Try.f21, go_sem, r0, r1, r2, r3]) rfl ?_
  exact sk_leaf H1.out HR.out HN.out (by omega) (by omega) rfl _ _ _ _

set_option maxRecDepth 100000 in
set_option maxHeartbeats 8000000 in
/-- A place of no block. -/
theorem spec_nowhere (L : Nat) (ks : List data.DataD) (T : HeapD) (vl vp : Value) (cs : List Value) (d n k : Nat) (D ρ x : Int) (w : World) (hD1 : 1 ≤ D) (hD2 : D ≤ 200) (hn : n < 4000) (hρ : ρ = (n : Int) + 1) (hx1 : -9223372036854775808 ≤ x) (hx2 : x ≤ 9223372036854775807) (hL : L ≤ k)
    (hk : w.heap[k]? = some (.cells #[.int .i64 ρ] 55)) (he : SE L w vl vp cs ks T) (hx : decide (x % 2 = 0) = true) (hp : decide (x / 2 ∈ (plT T).1) = false) :
    Calls Try.prog 21 #[.pointer (some ⟨k, 0, none⟩), vl, .agg cs.toArray, vp, .int .i64 x, .int .i64 D] w fun e w' => SpecOut k w (backD (topB ks T) (d + 1) (n + 1) x) e w' := by
  obtain ⟨W, a0, c0, half, base, next, rfl, rfl, f0, f1, f2, f3⟩ := heap_open he.heap
  have H0 : Hid (SK w _ [.slice a0 W.length c0, .int .i64 half, .int .i64 base, .int .i64 next] k ρ) := sk_two hk
  have H1 : Hid (SK w _ [.slice a0 W.length c0, .int .i64 half, .int .i64 base, .int .i64 next] k (ρ - 1)) := H0.out.put _
  have c1 := H0.out.k1
  have z1 := blk_free (i := 0) H0.out.work
  have c2 := H1.out.k1
  have fr := H1.out.rfree
  have r0 := H1.out.r0
  have r1 := H1.out.r1
  have r2 := H1.out.r2
  have r3 := H1.out.r3
  have o0 := data.dataSh.slice.one he.list vl (by simp)
  have o1 := ints.intsSh.one he.plcs vp (by simp)
  have t0 : (D == 0) = false := by simp; omega
  have p1 : 0 ≤ ρ ∧ ρ ≤ 4000 := by omega
  have t1 : decide (ρ - 1 < 0) = false := by simp; omega
  have HR : Hid (ρ - 1 = (n : Int)) := by show _ = _; omega
  have HN : Hid (backD (topB ks (W, half, base, next)) (d + 1) (n + 1) x = none) := back_none (top_nowhere (of_decide_eq_true hx) (of_decide_eq_false hp))
  have hin := in7_is vp _ hp (ints.intsSh.mono (H1.out.env hL he).plcs fun b hb => by have := H1.out.klt; have := H1.out.le; omega)
  clear he f0 f1 f2 f3 hk hρ
  go_enter Try.func21, Try.ntmps21
  go_wp2_with (first | (go_at_call 40; refine (isref_is hx).mono ?_; rintro e w' ⟨rfl, hxx⟩; subst w') | (go_at_call 42; refine (wordref_is _ _).mono ?_; rintro e w' ⟨rfl, hxx⟩; subst w') | (go_at_call 43; refine hin.mono ?_; rintro e w' ⟨rfl, hxx⟩; subst w'))
  refine bodyPost_ret (v := .tuple #[.agg #[.int .i64 0, .int .i64 0, .string ⟨#[]⟩, .slice none 0 0], .bool false]) (by simp [results, Try.f21, go_sem, r0, r1, r2, r3]) rfl ?_
  exact sk_no H1.out HN.out rfl _ _ _ _

set_option maxRecDepth 100000 in
set_option maxHeartbeats 8000000 in
/-- A function. -/
theorem spec_fun (L : Nat) (ks : List data.DataD) (T : HeapD) (vl vp : Value) (cs : List Value) (d n k : Nat) (D ρ x : Int) (w : World) (hD1 : 1 ≤ D) (hD2 : D ≤ 200) (hn : n < 4000) (hρ : ρ = (n : Int) + 1) (hx1 : -9223372036854775808 ≤ x) (hx2 : x ≤ 9223372036854775807) (hL : L ≤ k)
    (hk : w.heap[k]? = some (.cells #[.int .i64 ρ] 55)) (he : SE L w vl vp cs ks T) (hx : decide (x % 2 = 0) = true) (hp : decide (x / 2 ∈ (plT T).1) = true) (z : Nat) (hz : x / 2 = (z : Int)) (hzl : z < T.1.length) (hf : funF (T.1.getD z 0) = true) :
    Calls Try.prog 21 #[.pointer (some ⟨k, 0, none⟩), vl, .agg cs.toArray, vp, .int .i64 x, .int .i64 D] w fun e w' => SpecOut k w (backD (topB ks T) (d + 1) (n + 1) x) e w' := by
  obtain ⟨W, a0, c0, half, base, next, rfl, rfl, f0, f1, f2, f3⟩ := heap_open he.heap
  have H0 : Hid (SK w _ [.slice a0 W.length c0, .int .i64 half, .int .i64 base, .int .i64 next] k ρ) := sk_two hk
  have H1 : Hid (SK w _ [.slice a0 W.length c0, .int .i64 half, .int .i64 base, .int .i64 next] k (ρ - 1)) := H0.out.put _
  have c1 := H0.out.k1
  have z1 := blk_free (i := 0) H0.out.work
  have c2 := H1.out.k1
  have fr := H1.out.rfree
  have r0 := H1.out.r0
  have r1 := H1.out.r1
  have r2 := H1.out.r2
  have r3 := H1.out.r3
  have o0 := data.dataSh.slice.one he.list vl (by simp)
  have o1 := ints.intsSh.one he.plcs vp (by simp)
  have t0 : (D == 0) = false := by simp; omega
  have p1 : 0 ≤ ρ ∧ ρ ≤ 4000 := by omega
  have t1 : decide (ρ - 1 < 0) = false := by simp; omega
  have HR : Hid (ρ - 1 = (n : Int)) := by show _ = _; omega
  have HN : Hid (backD (topB ks (W, half, base, next)) (d + 1) (n + 1) x = some (.mk (3, 0, ⟨#[]⟩) [], n)) := back_leaf (top_fun (of_decide_eq_true hx) (of_decide_eq_true hp) (by rw [hz, Int.toNat_natCast]; exact hf))
  obtain ⟨a, cap, ea, hcap, hmax, hat⟩ := ints.ints_open (words_rep (H1.out.env hL he).heap)
  cases ea
  obtain ⟨b, o, rfl, hS, hc, q1, q2⟩ := hat z hzl
  have hgd := getD_at hzl
  rw [← hgd] at hc q1 q2
  obtain ⟨X, hX⟩ : ∃ X, X = W.getD z 0 := ⟨_, rfl⟩
  rw [← hX] at hc q1 q2
  have b0 := blk_cell (i := 0) H1.out.box rfl
  have zI : (z : Int) < (W.length : Int) := by have hzl2 : z < W.length := hzl; omega
  have z0 : (0 : Int) ≤ (z : Int) := by omega
  have hin := in7_is vp _ hp (ints.intsSh.mono (H1.out.env hL he).plcs fun b hb => by have := H1.out.klt; have := H1.out.le; omega)
  have hfx : funF X = true := by rw [hX]; exact hf
  rw [hz] at hin
  have hwr : ∀ W' : World, Calls Try.prog 42 #[.int .i64 x] W' fun e w' => e = .returned (.int .i64 (z : Int)) ∧ w' = W' := fun W' => by rw [← hz]; exact wordref_is x W'
  clear he f0 f1 f2 f3 hk hρ hX hgd hat hcap hmax hz hp hf
  go_enter Try.func21, Try.ntmps21
  go_wp2_with (first | (go_at_call 40; refine (isref_is hx).mono ?_; rintro e w' ⟨rfl, hxx⟩; subst w') | (go_at_call 42; refine (hwr _).mono ?_; rintro e w' ⟨rfl, hxx⟩; subst w') | (go_at_call 43; refine hin.mono ?_; rintro e w' ⟨rfl, hxx⟩; subst w') | (go_at_call 38; refine (of_is X _ q1 q2).mono ?_; rintro e w' ⟨rfl, hxx⟩; subst w'))
  refine bodyPost_ret (v := .tuple #[.agg #[.int .i64 3, .int .i64 0, .string ⟨#[]⟩, .slice none 0 0], .bool true]) (by simp [results, Try.f21, go_sem, r0, r1, r2, r3]) rfl ?_
  exact sk_leaf H1.out HR.out HN.out (by omega) (by omega) rfl _ _ _ _

set_option maxRecDepth 100000 in
set_option maxHeartbeats 8000000 in
/-- No con. -/
theorem spec_nocon (L : Nat) (ks : List data.DataD) (T : HeapD) (vl vp : Value) (cs : List Value) (d n k : Nat) (D ρ x : Int) (w : World) (hD1 : 1 ≤ D) (hD2 : D ≤ 200) (hn : n < 4000) (hρ : ρ = (n : Int) + 1) (hx1 : -9223372036854775808 ≤ x) (hx2 : x ≤ 9223372036854775807) (hL : L ≤ k)
    (hk : w.heap[k]? = some (.cells #[.int .i64 ρ] 55)) (he : SE L w vl vp cs ks T) (hx : decide (x % 2 = 0) = true) (hp : decide (x / 2 ∈ (plT T).1) = true) (z : Nat) (hz : x / 2 = (z : Int)) (hzl : z < T.1.length) (hf : funF (T.1.getD z 0) = false) (hw : ks.length + data.wts ks ≤ 1048576) (hcn : conAt ks (tagF (T.1.getD z 0)) = none) :
    Calls Try.prog 21 #[.pointer (some ⟨k, 0, none⟩), vl, .agg cs.toArray, vp, .int .i64 x, .int .i64 D] w fun e w' => SpecOut k w (backD (topB ks T) (d + 1) (n + 1) x) e w' := by
  obtain ⟨W, a0, c0, half, base, next, rfl, rfl, f0, f1, f2, f3⟩ := heap_open he.heap
  have H0 : Hid (SK w _ [.slice a0 W.length c0, .int .i64 half, .int .i64 base, .int .i64 next] k ρ) := sk_two hk
  have H1 : Hid (SK w _ [.slice a0 W.length c0, .int .i64 half, .int .i64 base, .int .i64 next] k (ρ - 1)) := H0.out.put _
  have c1 := H0.out.k1
  have z1 := blk_free (i := 0) H0.out.work
  have c2 := H1.out.k1
  have fr := H1.out.rfree
  have r0 := H1.out.r0
  have r1 := H1.out.r1
  have r2 := H1.out.r2
  have r3 := H1.out.r3
  have o0 := data.dataSh.slice.one he.list vl (by simp)
  have o1 := ints.intsSh.one he.plcs vp (by simp)
  have t0 : (D == 0) = false := by simp; omega
  have p1 : 0 ≤ ρ ∧ ρ ≤ 4000 := by omega
  have t1 : decide (ρ - 1 < 0) = false := by simp; omega
  have HR : Hid (ρ - 1 = (n : Int)) := by show _ = _; omega
  have HN : Hid (backD (topB ks (W, half, base, next)) (d + 1) (n + 1) x = none) := back_none (top_nocon (of_decide_eq_true hx) (of_decide_eq_true hp) (by rw [hz, Int.toNat_natCast]; exact hf) (by rw [hz, Int.toNat_natCast]; exact hcn))
  obtain ⟨a, cap, ea, hcap, hmax, hat⟩ := ints.ints_open (words_rep (H1.out.env hL he).heap)
  cases ea
  obtain ⟨b, o, rfl, hS, hc, q1, q2⟩ := hat z hzl
  have hgd := getD_at hzl
  rw [← hgd] at hc q1 q2
  obtain ⟨X, hX⟩ : ∃ X, X = W.getD z 0 := ⟨_, rfl⟩
  rw [← hX] at hc q1 q2
  have b0 := blk_cell (i := 0) H1.out.box rfl
  have zI : (z : Int) < (W.length : Int) := by have hzl2 : z < W.length := hzl; omega
  have z0 : (0 : Int) ≤ (z : Int) := by omega
  have hin := in7_is vp _ hp (ints.intsSh.mono (H1.out.env hL he).plcs fun b hb => by have := H1.out.klt; have := H1.out.le; omega)
  have hfx : funF X = false := by rw [hX]; exact hf
  have htg : -9223372036854775808 ≤ tagF X ∧ tagF X ≤ 9223372036854775807 := tag_in q1 q2
  have hcall := data.specTagCon ks vl (tagF X) _ htg.1 htg.2 hw (data.dataSh.slice.mono (H1.out.env hL he).list fun b hb => by have := H1.out.klt; have := H1.out.le; omega)
  rw [con_nowhere (by rw [hX]; exact hcn)] at hcall
  dsimp only at hcall
  clear he
  rw [hz] at hin
  have hwr : ∀ W' : World, Calls Try.prog 42 #[.int .i64 x] W' fun e w' => e = .returned (.int .i64 (z : Int)) ∧ w' = W' := fun W' => by rw [← hz]; exact wordref_is x W'
  clear f0 f1 f2 f3 hk hρ hX hgd hat hcap hmax hz hp hf
  go_enter Try.func21, Try.ntmps21
  go_wp2_with (first | (go_at_call 40; refine (isref_is hx).mono ?_; rintro e w' ⟨rfl, hxx⟩; subst w') | (go_at_call 42; refine (hwr _).mono ?_; rintro e w' ⟨rfl, hxx⟩; subst w') | (go_at_call 43; refine hin.mono ?_; rintro e w' ⟨rfl, hxx⟩; subst w') | (go_at_call 38; refine (of_is X _ q1 q2).mono ?_; rintro e w' ⟨rfl, hxx⟩; subst w'))
  refine hcall.mono ?_
  rintro e w2 ⟨rfl, hb2⟩
  have H2 : Hid (SK w w2 [.slice (some ⟨b, o, none⟩) W.length c0, .int .i64 half, .int .i64 base, .int .i64 next] k (ρ - 1)) := H1.out.on hb2
  clear hcall hb2 c1 z1 c2 fr r0 r1 r2 r3 b0 hc
  have fr := H2.out.rfree
  have r0 := H2.out.r0
  have r1 := H2.out.r1
  have r2 := H2.out.r2
  have r3 := H2.out.r3
  go_wp2
  refine bodyPost_ret (v := .tuple #[.agg #[.int .i64 0, .int .i64 0, .string ⟨#[]⟩, .slice none 0 0], .bool false]) (by simp [results, Try.f21, go_sem, r0, r1, r2, r3]) rfl ?_
  exact sk_no H2.out HN.out rfl _ _ _ _

set_option maxRecDepth 100000 in
set_option maxHeartbeats 8000000 in
/-- Other than its kids. -/
theorem spec_other (L : Nat) (ks : List data.DataD) (T : HeapD) (vl vp : Value) (cs : List Value) (d n k : Nat) (D ρ x : Int) (w : World) (hD1 : 1 ≤ D) (hD2 : D ≤ 200) (hn : n < 4000) (hρ : ρ = (n : Int) + 1) (hx1 : -9223372036854775808 ≤ x) (hx2 : x ≤ 9223372036854775807) (hL : L ≤ k)
    (hk : w.heap[k]? = some (.cells #[.int .i64 ρ] 55)) (he : SE L w vl vp cs ks T) (hx : decide (x % 2 = 0) = true) (hp : decide (x / 2 ∈ (plT T).1) = true) (z : Nat) (hz : x / 2 = (z : Int)) (hzl : z < T.1.length) (hf : funF (T.1.getD z 0) = false) (hw : ks.length + data.wts ks ≤ 1048576) (s : data.Spot) (hcn : conAt ks (tagF (T.1.getD z 0)) = some s) (hm : ¬ (s.c.2.length : Int) = manyF (T.1.getD z 0)) :
    Calls Try.prog 21 #[.pointer (some ⟨k, 0, none⟩), vl, .agg cs.toArray, vp, .int .i64 x, .int .i64 D] w fun e w' => SpecOut k w (backD (topB ks T) (d + 1) (n + 1) x) e w' := by
  obtain ⟨W, a0, c0, half, base, next, rfl, rfl, f0, f1, f2, f3⟩ := heap_open he.heap
  have H0 : Hid (SK w _ [.slice a0 W.length c0, .int .i64 half, .int .i64 base, .int .i64 next] k ρ) := sk_two hk
  have H1 : Hid (SK w _ [.slice a0 W.length c0, .int .i64 half, .int .i64 base, .int .i64 next] k (ρ - 1)) := H0.out.put _
  have c1 := H0.out.k1
  have z1 := blk_free (i := 0) H0.out.work
  have c2 := H1.out.k1
  have fr := H1.out.rfree
  have r0 := H1.out.r0
  have r1 := H1.out.r1
  have r2 := H1.out.r2
  have r3 := H1.out.r3
  have o0 := data.dataSh.slice.one he.list vl (by simp)
  have o1 := ints.intsSh.one he.plcs vp (by simp)
  have t0 : (D == 0) = false := by simp; omega
  have p1 : 0 ≤ ρ ∧ ρ ≤ 4000 := by omega
  have t1 : decide (ρ - 1 < 0) = false := by simp; omega
  have HR : Hid (ρ - 1 = (n : Int)) := by show _ = _; omega
  have HN : Hid (backD (topB ks (W, half, base, next)) (d + 1) (n + 1) x = none) := back_none (top_other (of_decide_eq_true hx) (of_decide_eq_true hp) (by rw [hz, Int.toNat_natCast]; exact hf) (by rw [hz, Int.toNat_natCast]; exact hcn) (by rw [hz, Int.toNat_natCast]; exact hm))
  obtain ⟨a, cap, ea, hcap, hmax, hat⟩ := ints.ints_open (words_rep (H1.out.env hL he).heap)
  cases ea
  obtain ⟨b, o, rfl, hS, hc, q1, q2⟩ := hat z hzl
  have hgd := getD_at hzl
  rw [← hgd] at hc q1 q2
  obtain ⟨X, hX⟩ : ∃ X, X = W.getD z 0 := ⟨_, rfl⟩
  rw [← hX] at hc q1 q2
  have b0 := blk_cell (i := 0) H1.out.box rfl
  have zI : (z : Int) < (W.length : Int) := by have hzl2 : z < W.length := hzl; omega
  have z0 : (0 : Int) ≤ (z : Int) := by omega
  have hin := in7_is vp _ hp (ints.intsSh.mono (H1.out.env hL he).plcs fun b hb => by have := H1.out.klt; have := H1.out.le; omega)
  have hfx : funF X = false := by rw [hX]; exact hf
  have htg : -9223372036854775808 ≤ tagF X ∧ tagF X ≤ 9223372036854775807 := tag_in q1 q2
  have hcall := data.specTagCon ks vl (tagF X) _ htg.1 htg.2 hw (data.dataSh.slice.mono (H1.out.env hL he).list fun b hb => by have := H1.out.klt; have := H1.out.le; omega)
  obtain ⟨hsp, hsi, hsj, hsc⟩ := con_spot (show conAt ks (tagF X) = some s by rw [hX]; exact hcn)
  rw [hsp] at hcall
  dsimp only at hcall
  have hmx : ¬ (s.c.2.length : Int) = manyF X := by rw [hX]; exact hm
  rw [hz] at hin
  have hwr : ∀ W' : World, Calls Try.prog 42 #[.int .i64 x] W' fun e w' => e = .returned (.int .i64 (z : Int)) ∧ w' = W' := fun W' => by rw [← hz]; exact wordref_is x W'
  clear f0 f1 f2 f3 hk hρ hX hgd hat hcap hmax hz hp hf
  go_enter Try.func21, Try.ntmps21
  go_wp2_with (first | (go_at_call 40; refine (isref_is hx).mono ?_; rintro e w' ⟨rfl, hxx⟩; subst w') | (go_at_call 42; refine (hwr _).mono ?_; rintro e w' ⟨rfl, hxx⟩; subst w') | (go_at_call 43; refine hin.mono ?_; rintro e w' ⟨rfl, hxx⟩; subst w') | (go_at_call 38; refine (of_is X _ q1 q2).mono ?_; rintro e w' ⟨rfl, hxx⟩; subst w'))
  refine hcall.mono ?_
  rintro e w2 ⟨rfl, hb2⟩
  have H2 : Hid (SK w w2 [.slice (some ⟨b, o, none⟩) W.length c0, .int .i64 half, .int .i64 base, .int .i64 next] k (ρ - 1)) := H1.out.on hb2
  clear hcall hb2 c1 z1 c2 fr r0 r1 r2 r3 b0 hc
  have fr := H2.out.rfree
  have r0 := H2.out.r0
  have r1 := H2.out.r1
  have r2 := H2.out.r2
  have r3 := H2.out.r3
  have E2 : Hid (SE L w2 vl vp [.slice (some ⟨b, o, none⟩) W.length c0, .int .i64 half, .int .i64 base, .int .i64 next] ks (W, half, base, next)) := H2.out.env hL he
  obtain ⟨al, capl, cssl, rfl, hcl, hml, hrl, hkl⟩ := data.datas_open E2.out.list
  obtain ⟨bl, ol, rfl, hSl, hcd⟩ := hrl s.i hsi
  obtain ⟨y0, y1, y2, a2, cc2, hT, hcs, g0, g1, g2⟩ := data.data_open (hkl s.i hsi)
  rw [hcs] at hcd
  have d2 := hcd 2 _ rfl
  obtain ⟨a1, cap1, cs1, e1, -, -, hrow, hk1⟩ := con.cons_open g2
  cases e1
  have hsj' : s.j < y2.length := by rw [hT] at hsj; exact hsj
  obtain ⟨bc, oc, rfl, hSc, hcc⟩ := hrow s.j hsj'
  obtain ⟨u0, u1, a3, c3, hT2, hcs2, g3, g4⟩ := con.con_open (hk1 s.j hsj')
  rw [hcs2] at hcc
  have hu : s.c = (u0, u1) := by rw [← hsc, ← hT2]; simp only [hT]
  have n0 : w2.cell? ⟨bc, oc + s.j * 2, none⟩ = some (.string u0) := hcc 0 _ rfl
  have n1 := hcc 1 _ rfl
  have iI : (s.i : Int) < (ks.length : Int) := by omega
  have i0 : (0 : Int) ≤ (s.i : Int) := by omega
  have i1 : decide ((s.i : Int) < 0) = false := by simp
  have jI : (s.j : Int) < (y2.length : Int) := by omega
  have j0 : (0 : Int) ≤ (s.j : Int) := by omega
  have tm : ((u1.length : Int) != manyF X) = true := by rw [hu] at hmx; simpa using hmx
  clear he hcl hml hrl hkl hSl hcd hT hcs g0 g1 g2 hrow hk1 hSc hcc hT2 hcs2 g3 g4 hu hsc hsj hsp hm hmx E2
  go_wp2
  refine bodyPost_ret (v := .tuple #[.agg #[.int .i64 0, .int .i64 0, .string ⟨#[]⟩, .slice none 0 0], .bool false]) (by simp [results, Try.f21, go_sem, r0, r1, r2, r3]) rfl ?_
  exact sk_no H2.out HN.out rfl _ _ _ _

end Go.Proofs.Ytjofmoebijdccaa.back

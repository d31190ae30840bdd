/-
  The model's l18Word, at every word and list of places.
  A cell of a row of the call's own is turned; a row that is kept elsewhere.
  The model's l17There and l17Places, where HeapOk calls them.
-/
import Derived.Deep.QuietTactic
import Derived.BigQuiet
import Derived.Laws.AppendOwn
import Derived.Maps.AppendAt
import Derived.WalkSmall
import Derived.Test.YtibjpdchdopigaaDoorB1
import Derived.Test.YtibjpdchdopigaaDoorB2
import Derived.Test.YtibjpdchdopigaaDoorB3
import Derived.Test.YtibjpdchdopigaaDoorB4
import Derived.Test.YtibjpdchdopigaaDoorB5
namespace Go.Proofs.YtibjpdchdopigaaDoor.heap
open Go Go.RowKit Go.Proofs.YtibjpdchdopigaaDoor.rose Go.Proofs.YtibjpdchdopigaaDoor Go.Proofs.YtibjpdchdopigaaDoor.fun Go.Proofs.YtibjpdchdopigaaDoor.words Go.Proofs.YtibjpdchdopigaaDoor.ints
set_option linter.unusedVariables false
set_option linter.unusedSimpArgs false

theorem ret_s {a b : ByteArray} (h : a = b) : Ending.returned (.string a) = Ending.returned (.string b) := by rw [h]
theorem digitsB (n : Int) (w : World) (h1 : -9223372036854775808 ≤ n) (h2 : n ≤ 9223372036854775807) : Calls Tryd.prog 16 #[.int .i64 n] w fun e w' => e = .returned (.string (dg n)) ∧ Below w.heap.size w w' := walks.digits_any n h1 h2 w

set_option maxRecDepth 100000 in
set_option maxHeartbeats 4000000 in
theorem word18_is (x : Int) (O : List Int) (ao : Option Addr) (co : Nat) (w : World) (h1 : -9223372036854775808 ≤ x) (h2 : x ≤ 9223372036854775807) (hO : O.length ≤ 1048576) (hr : intsSh.rep w (· < w.heap.size) [.slice ao O.length co] O) :
    Calls Tryd.prog 14 #[.int .i64 x, .slice ao O.length co] w fun e w' => e = .returned (.string (wordTx O x)) ∧ Below w.heap.size w w' := by
  by_cases he : x % 2 = 0
  case neg =>
    have HF : Hid (wordTx O x = ⟨#[32]⟩ ++ dg (x / 2)) := wordTx_int he
    have q : decide (x % 2 = 0) = false := decide_eq_false he
    have hd := dg_le (x / 2) (by omega) (by omega)
    have hc := digitsB (x / 2) w (by omega) (by omega)
    obtain ⟨d, hdd⟩ : ∃ d, d = dg (x / 2) := ⟨_, rfl⟩
    rw [← hdd] at hc hd HF
    have z0 : ¬ (9223372036854775807 < 1 + d.size) := by omega
    clear hdd he hr
    go_enter Tryd.func14, Tryd.ntmps14
    go_wp2_with (first
      | (go_at_call 22; refine (isref_is q).mono ?_; rintro e w' ⟨rfl, hx⟩; subst w')
      | (go_at_call 25; refine (wordint_is x _).mono ?_; rintro e w' ⟨rfl, hx⟩; subst w')
      | (go_at_call 16; refine hc.mono ?_; rintro e w' ⟨rfl, hB⟩))
    go_ret
    exact ⟨ret_s (by rw [HF.out]), hB⟩
  case pos =>
    have q : decide (x % 2 = 0) = true := decide_eq_true he
    have HE : Hid (x % 2 = 0) := he
    obtain ⟨a, cap, e, hcap, hmax, hat⟩ := ints_open hr
    cases e
    have HA : Hid _ := hat
    have hOI : (O.length : Int) ≤ 1048576 := by omega
    obtain ⟨r, hrr⟩ : ∃ r, r = wordTx O x := ⟨_, rfl⟩
    have HR : Hid (r = wordTx O x) := hrr
    rw [← hrr]
    clear hr hat hcap hmax he hrr
    go_enter Tryd.func14, Tryd.ntmps14
    go_wp2_with (first
      | (go_at_call 22; refine (isref_is q).mono ?_; rintro e w' ⟨rfl, hx⟩; subst w'))
    go_loopw [5] (fun v5 wr => ∃ i n : Nat, i ≤ O.length ∧ v5 = .int .i64 i ∧ Hid (wr = w.drewN n) ∧ Hid (∀ j (hj : j < O.length), j < i → ¬ O[j] = x / 2)) (fun v5 _ => O.length + 1 - (intOf v5).toNat)
    case atStart => exact ⟨0, 0, Nat.zero_le _, rfl, rfl, fun j _ hj => absurd hj (Nat.not_lt_zero _)⟩
    case round =>
      obtain ⟨i, n, hi, rfl, HN, HB⟩ := hrel
      by_cases hlt : i < O.length
      · obtain ⟨b, o, rfl, -, hc, r1, r2⟩ := HA.out i hlt
        have ck : wr.cell? ⟨b, o + i, none⟩ = some (.int .i64 O[i]) := by rw [HN.out]; exact hc
        obtain ⟨y, hy⟩ : ∃ y, y = O[i] := ⟨_, rfl⟩
        rw [← hy] at ck r1 r2
        have HY : Hid (y = O[i]) := hy
        have i0 : (0 : Int) ≤ (i : Int) := by omega
        have i1 : (i : Int) < (O.length : Int) := by omega
        clear hc hy
        rcases qy : decide (y = x / 2) with _ | _
        · have ty : (y == x / 2) = false := by have := of_decide_eq_false qy; simpa using this
          have HNE : Hid (¬ y = x / 2) := of_decide_eq_false qy
          clear qy
          go_wp2
          go_quiet ((go_at_call 24; exact Calls.quiet_of_same (wordref_is x _)))
          have HN3 : Hid (wr.drewN nq = w.drewN (n + nq)) := by show _ = _; rw [HN.out, World.drewN_drewN]
          go_wp2
          go_round
          case rel => exact ⟨i + 1, n + nq, by omega, by go_num, HN3, fun j hj hji => by
            by_cases e : j = i
            · subst e; rw [← HY.out]; exact HNE.out
            · exact HB.out j hj (by omega)⟩
          case measure => simp [intOf]; omega
        · have ty : (y == x / 2) = true := by have := of_decide_eq_true qy; simpa using this
          have HF : Hid (r = ⟨#[32, 64]⟩ ++ dg i) := by show _ = _; rw [HR.out]; exact wordTx_at HE.out hlt (by rw [← HY.out]; exact of_decide_eq_true qy) HB.out
          have hd := dg_le (i : Int) (by omega) (by omega)
          have hcd := fun W => digitsB (i : Int) W (by omega) (by omega)
          obtain ⟨d, hdd⟩ : ∃ d, d = dg (i : Int) := ⟨_, rfl⟩
          rw [← hdd] at hd HF
          simp only [← hdd] at hcd
          have z0 : ¬ (9223372036854775807 < 2 + d.size) := by omega
          clear hdd qy
          go_wp2
          go_quiet ((go_at_call 24; exact Calls.quiet_of_same (wordref_is x _)))
          have BN : Hid (Below w.heap.size w (wr.drewN nq)) := by show Below _ _ _; rw [HN.out]; exact ⟨rfl, rfl, rfl, Nat.le_refl _, fun _ _ => rfl⟩
          go_wp2_with (first
            | (go_at_call 16; refine (hcd _).mono ?_; rintro e w' ⟨rfl, hB⟩))
          go_ret
          exact ⟨ret_s HF.out.symm, BN.out.trans (hB.mono BN.out.size)⟩
      · have hil : i = O.length := by omega
        have hnl : ¬ (i : Int) < (O.length : Int) := by omega
        have HF : Hid (r = ⟨#[32, 64]⟩) := by show _ = _; rw [HR.out]; exact wordTx_none HE.out fun j hj => HB.out j hj (by omega)
        have BN : Hid (Below w.heap.size w wr) := by show Below _ _ _; rw [HN.out]; exact ⟨rfl, rfl, rfl, Nat.le_refl _, fun _ _ => rfl⟩
        go_wp2
        go_ret
        exact ⟨ret_s HF.out.symm, BN.out⟩

end Go.Proofs.YtibjpdchdopigaaDoor.heap

namespace Go.Proofs.YtibjpdchdopigaaDoor.rose
open Go Go.RowKit
set_option linter.unusedVariables false

theorem own_set {w : World} {base : Nat} {t : TypeId} {k g n c j : Nat} {xs : List Value} {u : Value} (h : w.ownsRow base t k (.slice (some ⟨g, 0, none⟩) n c) n xs) (hj : j < n * k) : (w.setCell ⟨g, j, none⟩ u).ownsRow base t k (.slice (some ⟨g, 0, none⟩) n c) n (xs.set j u) := by
  obtain ⟨hl, hv⟩ := h
  refine ⟨by simpa using hl, Or.inr ?_⟩
  rcases hv with ⟨h, _⟩ | ⟨g', c', cur, h1, h2, h3, h4, h5, h6, h7⟩
  · cases h
  · cases h1
    refine ⟨g, c, cur.setIfInBounds j u, rfl, h2, by simp [World.setCell, Array.getElem?_modify, h3], h4, h5, by simpa using h6, ?_⟩
    rw [← h7]
    simp [List.take_set]
theorem own_same {w w' : World} {base : Nat} {t : TypeId} {k n : Nat} {v : Value} {xs : List Value} (h : w.ownsRow base t k v n xs) (hb : ∀ q, v.ownBlock = some q → w'.heap[q]? = w.heap[q]?) : w'.ownsRow base t k v n xs := by
  refine ⟨h.1, ?_⟩
  rcases h.2 with h0 | ⟨g, cap, cur, h1, h2, h3, h4⟩
  · exact Or.inl h0
  · exact Or.inr ⟨g, cap, cur, h1, h2, (hb g (by rw [h1]; rfl)).trans h3, h4⟩
theorem own_form {w : World} {base : Nat} {t : TypeId} {k n : Nat} {v : Value} {xs : List Value} (h : w.ownsRow base t k v n xs) : ∃ a c, v = .slice a n c := by
  rcases h.2 with ⟨rfl, h0⟩ | ⟨_, _, _, rfl, _⟩
  · exact ⟨_, _, by rw [h0]⟩
  · exact ⟨_, _, rfl⟩
theorem new_cell (w : World) (t : TypeId) (u : Value) : ∀ j x, [u][j]? = some x → (w.alloc (.cells #[u] t)).cell? ((⟨w.heap.size, 0, none⟩ : Addr).add j) = some x := by
  intro j x hj
  match j, hj with
  | 0, hj =>
    simp at hj; subst hj
    rw [add_plain]
    simp
  | _ + 1, hj => simp at hj
theorem own_base {w : World} {base base' : Nat} {t : TypeId} {k n : Nat} {v : Value} {xs : List Value} (h : w.ownsRow base t k v n xs) (hb : base' ≤ base) : w.ownsRow base' t k v n xs := by
  refine ⟨h.1, ?_⟩
  rcases h.2 with h0 | ⟨g, cap, cur, h1, h2, h3, h4⟩
  · exact Or.inl h0
  · exact Or.inr ⟨g, cap, cur, h1, by omega, h3, h4⟩
theorem below_block {B : Nat} {w w' : World} (h : Below B w w') {b : Nat} (hb : b < B) : w'.heap[b]? = w.heap[b]? := h.block b hb

end Go.Proofs.YtibjpdchdopigaaDoor.rose

namespace Go.Proofs.YtibjpdchdopigaaDoor.heap
open Go Go.RowKit Go.Proofs.YtibjpdchdopigaaDoor.rose Go.Proofs.YtibjpdchdopigaaDoor Go.Proofs.YtibjpdchdopigaaDoor.fun Go.Proofs.YtibjpdchdopigaaDoor.words Go.Proofs.YtibjpdchdopigaaDoor.ints
set_option linter.unusedVariables false
set_option linter.unusedSimpArgs false

set_option maxHeartbeats 2000000 in
theorem there_is {l : List Int} {x : Int} {b : Bool} (v : Value) (w : World) (hb : thereB l x = b) (h : intsSh.rep w (· < w.heap.size) [v] l) : Calls Tryd.prog 21 #[v, .int .i64 x] w fun e w' => e = .returned (.bool b) ∧ w' = w := by
  unfold thereB at hb
  obtain ⟨a, cap, hv⟩ : ∃ a c, v = .slice a l.length c := by obtain ⟨a, c, e⟩ := slice_cells h; simp only [List.cons.injEq, and_true] at e; exact ⟨a, c, e⟩
  rcases q : decide (x % 2 = 0) with _ | _
  · rw [if_neg (of_decide_eq_false q)] at hb
    clear h
    subst hv
    go_enter Tryd.func21, Tryd.ntmps21
    go_wp2_with (first | (go_at_call 22; refine (isref_is q).mono ?_; rintro e w' ⟨rfl, hx⟩; subst w') | (go_at_call 25; refine (wordint_is _ _).mono ?_; rintro e w' ⟨rfl, hx⟩; subst w') | (go_at_call 37; refine (word_is hb).mono ?_; rintro e w' ⟨rfl, hx⟩; subst w'))
    go_ret
    exact ⟨rfl, rfl⟩
  · rw [if_pos (of_decide_eq_true q)] at hb
    have hcall : Hid (Calls Tryd.prog 23 #[v, .int .i64 (x / 2)] w fun e w' => e = .returned (.bool b) ∧ w' = w) := in7_is v w hb h
    clear h hb
    subst hv
    go_enter Tryd.func21, Tryd.ntmps21
    go_wp2_with (first | (go_at_call 22; refine (isref_is q).mono ?_; rintro e w' ⟨rfl, hx⟩; subst w') | (go_at_call 24; refine (wordref_is _ _).mono ?_; rintro e w' ⟨rfl, hx⟩; subst w') | (go_at_call 23; refine hcall.out.mono ?_; rintro e w' ⟨rfl, hx⟩; subst w'))
    go_ret
    exact ⟨rfl, rfl⟩

theorem irow_push {w : World} {base : Nat} {a : Option Addr} {c : Nat} {l : List Int} {x : Int} (h : w.ownsRow base 3 1 (.slice a (l.length + 1) c) (l.length + 1) (l.map (Value.int .i64) ++ [.int .i64 x])) (hl : ∀ y ∈ l, InR y) (hx : InR x) : IRow w base (.slice a (l ++ [x]).length c) (l ++ [x]) := by
  refine ⟨by rw [List.length_append, List.length_singleton, List.map_append]; exact h, fun y hy => ?_⟩
  rcases List.mem_append.1 hy with hy | hy
  · exact hl y hy
  · simp only [List.mem_singleton] at hy; subst hy; exact hx
theorem irow_lit0 (w : World) {base : Nat} (h : base ≤ w.heap.size) : IRow (w.alloc (.cells #[] 3)) base (.slice (some ⟨w.heap.size, 0, none⟩) 0 0) [] :=
  ⟨World.ownsRow_lit w #[] 0 h (Nat.zero_le _) rfl, fun x hx => by cases hx⟩
theorem irow_base0 {w : World} {base base' : Nat} {v : Value} {l : List Int} (h : IRow w base v l) (hb : base' ≤ base) : IRow w base' v l := ⟨own_base h.1 hb, h.2⟩

/-- Where the loop over blocks stands. -/
structure LS (w wr : World) (cs : List Value) (v : Value) (T : HeapD) (p : Nat) (l : List Int) : Prop where
  arg : ArgK w wr cs 27
  row : IRow wr (w.heap.size + 1) v l
  all : plT T = (l ++ (plF T.1 T.2.2.2.toNat p).1, (plF T.1 T.2.2.2.toNat p).2)
  len : l.length ≤ p

set_option maxRecDepth 100000 in
set_option maxHeartbeats 8000000 in
theorem specPlacesOf (T : HeapD) (cs : List Value) (w : World) (hd : headB T = true) (h : heapSh.rep w (· < w.heap.size) cs T) :
    Calls Tryd.prog 20 #[.agg cs.toArray] w fun e w' => (∃ v' l, e = .returned (.tuple #[v', .bool (plT T).2]) ∧ IRow w' w.heap.size v' l ∧ ((plT T).2 = true → l = (plT T).1)) ∧ Below w.heap.size w w' := by
  obtain ⟨W, a0, c0, half, base, next, rfl, rfl, f0, f1, f2, f3⟩ := heap_open h
  obtain ⟨a, cap, e, hcap, hmax, hat⟩ := ints_open f0
  cases e
  have HA : Hid _ := hat
  have H1 := head_in hd
  dsimp only at H1
  obtain ⟨g1, g2, g3, g4, g5, g6⟩ := H1
  obtain ⟨hn, rfl⟩ : ∃ z : Nat, half = z := ⟨half.toNat, by omega⟩
  obtain ⟨bn, rfl⟩ : ∃ z : Nat, base = z := ⟨base.toNat, by omega⟩
  obtain ⟨nx, rfl⟩ : ∃ z : Nat, next = z := ⟨next.toNat, by omega⟩
  have hnl : nx ≤ W.length ∧ W.length ≤ 6000 := by omega
  obtain ⟨r, hr⟩ : ∃ r, r = plT (W, (hn : Int), (bn : Int), (nx : Int)) := ⟨_, rfl⟩
  have HR : Hid (r = plT (W, (hn : Int), (bn : Int), (nx : Int))) := hr
  rw [← hr]
  obtain ⟨ti, hti, hz0, hz1, hz2⟩ := int_info
  have TI : Hid (Tryd.prog.info? 3 = some ti ∧ ti.zero = some (.int .i64 0) ∧ ti.size = 1 ∧ ti.bytes = 8) := ⟨hti, hz0, hz1, hz2⟩
  obtain ⟨cs, hcs⟩ : ∃ cs : List Value, cs = [.slice a0 W.length c0, .int .i64 hn, .int .i64 bn, .int .i64 nx] := ⟨_, rfl⟩
  have HCS : Hid (cs = [.slice a0 W.length c0, .int .i64 hn, .int .i64 bn, .int .i64 nx]) := hcs
  have A0 : Hid (ArgK w (w.alloc (.cells #[.slice a0 W.length c0, .int .i64 hn, .int .i64 bn, .int .i64 nx] 27)) cs 27) := ArgK.new _ _ _ (by rw [hcs])
  have HPL : Hid (plT (W, (hn : Int), (bn : Int), (nx : Int)) = plF W nx bn) := by show _ = _; simp [plT]
  have hmx : (W.length : Int) ≤ 9223372036854775807 := by omega
  clear h f0 f1 f2 f3 hcap hmax hat hd hr hti hz0 hz1 hz2 hcs
  go_enter Tryd.func20, Tryd.ntmps20
  go_wp2
  go_loopw [4, 5] (fun v4 v5 wr => ∃ (p : Nat) (l : List Int) (a4 : Option Addr) (c4 : Nat), bn ≤ p ∧ p ≤ 6100 ∧ v5 = .int .i64 p ∧ v4 = .slice a4 l.length c4 ∧ Hid (LS w wr cs (.slice a4 l.length c4) (W, (hn : Int), (bn : Int), (nx : Int)) p l)) (fun _ v5 _ => 6200 - (intOf v5).toNat)
  case atStart =>
    refine ⟨bn, [], _, _, Nat.le_refl _, by omega, rfl, rfl, ⟨A0.out.on ((Below.refl _ _).alloc (Nat.le_refl _) _), ?_, by simp [plT], Nat.zero_le _⟩⟩
    have := irow_lit0 (w.alloc (.cells #[.slice a0 W.length c0, .int .i64 hn, .int .i64 bn, .int .i64 nx] 27)) (base := w.heap.size + 1) (by simp)
    rw [World.size_alloc] at this
    exact this
  case round =>
    obtain ⟨p, l, a4, c4, hbp, hp6, rfl, rfl, HL⟩ := hrel
    have k0 : wr.cell? ⟨w.heap.size, 0, none⟩ = some (.slice a0 W.length c0) := HL.out.arg.cell 0 (by rw [HCS.out]; rfl)
    have k3 : wr.cell? ⟨w.heap.size, 3, none⟩ = some (.int .i64 nx) := HL.out.arg.cell 3 (by rw [HCS.out]; rfl)
    have BW : Hid (Below w.heap.size w wr) := HL.out.arg.bel
    by_cases hlt : p < nx
    · obtain ⟨b, o, rfl, hS, hc, hr1, hr2⟩ := HA.out p (by omega)
      have e0 : wr.cell? ⟨b, o + p, none⟩ = some (.int .i64 W[p]) := (BW.out.cell (p := ⟨b, o + p, none⟩) hS).trans hc
      have hgd : W.getD p 0 = W[p] := by rw [List.getD_eq_getElem?_getD, List.getElem?_eq_getElem (by omega)]; rfl
      have pI : (p : Int) < (W.length : Int) := by omega
      have hcall := of_is W[p] wr hr1 hr2
      have hm := many_in W[p]
      obtain ⟨x, hx⟩ : ∃ x, x = W[p] := ⟨_, rfl⟩
      rw [← hx] at e0 hgd hcall hm hr1 hr2
      have HX : Hid (W.getD p 0 = x) := hgd
      obtain ⟨tg, htg⟩ : ∃ t, t = tagF x := ⟨_, rfl⟩
      obtain ⟨mn, hmn⟩ : ∃ t : Nat, (t : Int) = manyF x := ⟨(manyF x).toNat, by omega⟩
      rw [← htg, ← hmn] at hcall
      have HB : Hid (badH (W.getD p 0) ((nx : Int) - p) = (decide (x < 0) || decide (x % 2 = 0) || decide (3000 < tg) || decide (20 < (mn : Int)) || decide ((nx : Int) - p ≤ (mn : Int)))) := by show _ = _; rw [HX.out]; unfold badH; rw [← htg, ← hmn]
      have HMN : Hid ((manyF (W.getD p 0)).toNat = mn) := by show _ = _; rw [HX.out]; omega
      have hm63 : mn ≤ 63 := by omega
      have HBAD : Hid (badH (W.getD p 0) ((nx : Int) - p) = true → r = (l, false)) := fun hbd => by
        rw [HR.out, HL.out.all]
        show (l ++ (plF W (nx : Int).toNat p).1, (plF W (nx : Int).toNat p).2) = _
        rw [Int.toNat_natCast, plF_bad hlt hbd]; simp
      clear hc hx htg hmn hgd hm
      by_cases c1 : x < 0
      · have t1 : decide (x < 0) = true := by simpa using c1
        have HF : Hid (r = (l, false)) := HBAD.out (by rw [HB.out, t1]; rfl)
        go_wp2_with (first | (go_at_call 15; refine hcall.mono ?_; rintro e w' ⟨rfl, hx'⟩; subst w') | (go_at_call 22; refine (isref_is (by assumption)).mono ?_; rintro e w' ⟨rfl, hx'⟩; subst w'))
        go_ret2
        rw [HF.out]
        exact ⟨⟨_, l, rfl, irow_base0 HL.out.row (by omega), fun e => by cases e⟩, BW.out⟩
      have t1 : decide (x < 0) = false := by simpa using c1
      rcases t2 : decide (x % 2 = 0) with _ | _
      · by_cases c3 : 3000 < tg
        · have t3 : decide ((3000 : Int) < tg) = true := by simpa using c3
          have HF : Hid (r = (l, false)) := HBAD.out (by rw [HB.out, t3]; simp)
          go_wp2_with (first | (go_at_call 15; refine hcall.mono ?_; rintro e w' ⟨rfl, hx'⟩; subst w') | (go_at_call 22; refine (isref_is (by assumption)).mono ?_; rintro e w' ⟨rfl, hx'⟩; subst w'))
          go_ret2
          rw [HF.out]
          exact ⟨⟨_, l, rfl, irow_base0 HL.out.row (by omega), fun e => by cases e⟩, BW.out⟩
        have t3 : decide ((3000 : Int) < tg) = false := by simpa using c3
        by_cases z4 : 20 < mn
        · have t4 : decide ((20 : Int) < (mn : Int)) = true := by simp; omega
          have HF : Hid (r = (l, false)) := HBAD.out (by rw [HB.out, t4]; simp)
          go_wp2_with (first | (go_at_call 15; refine hcall.mono ?_; rintro e w' ⟨rfl, hx'⟩; subst w') | (go_at_call 22; refine (isref_is (by assumption)).mono ?_; rintro e w' ⟨rfl, hx'⟩; subst w'))
          go_ret2
          rw [HF.out]
          exact ⟨⟨_, l, rfl, irow_base0 HL.out.row (by omega), fun e => by cases e⟩, BW.out⟩
        have t4 : decide ((20 : Int) < (mn : Int)) = false := by simp; omega
        by_cases c5 : (nx : Int) - p ≤ (mn : Int)
        · have t5 : decide ((nx : Int) - (p : Int) ≤ (mn : Int)) = true := by simpa using c5
          have HF : Hid (r = (l, false)) := HBAD.out (by rw [HB.out, t5]; simp)
          go_wp2_with (first | (go_at_call 15; refine hcall.mono ?_; rintro e w' ⟨rfl, hx'⟩; subst w') | (go_at_call 22; refine (isref_is (by assumption)).mono ?_; rintro e w' ⟨rfl, hx'⟩; subst w'))
          go_ret2
          rw [HF.out]
          exact ⟨⟨_, l, rfl, irow_base0 HL.out.row (by omega), fun e => by cases e⟩, BW.out⟩
        have t5 : decide ((nx : Int) - (p : Int) ≤ (mn : Int)) = false := by simpa using c5
        have HF : Hid (badH (W.getD p 0) ((nx : Int) - p) = false) := by show _ = _; rw [HB.out, t1, t2, t3, t4, t5]; rfl
        have HO : Hid (∀ g, (Value.slice a4 l.length c4).ownBlock = some g → w.heap.size + 1 ≤ g ∧ g < wr.heap.size) := fun g hg => HL.out.row.lt g hg
        have RD : Hid (∀ X, (wr.alloc X).ownsRow (w.heap.size + 1) 3 1 (.slice a4 l.length c4) l.length (l.map (Value.int .i64))) := fun X => (HL.out.row.keep ((Below.refl _ _).alloc (Nat.le_refl _) X)).1
        have hll : l.length ≤ 6100 := by have := HL.out.len; omega
        have ZW : Hid (w.heap.size < wr.heap.size) := HL.out.arg.lt
        go_wp2_with (first
          | (go_at_call 15; refine hcall.mono ?_; rintro e w' ⟨rfl, hx'⟩; subst w')
          | (go_at_call 22; refine (isref_is (by assumption)).mono ?_; rintro e w' ⟨rfl, hx'⟩; subst w')
          | (at_builtin; refine wpList_append_own_at _ rfl (.tmp 51) (.tmp 53) 22 rfl (w.heap.size + 1) 3 ti _ 1 8 Tryd.underlying22 TI.out.1 TI.out.2.1 TI.out.2.2.1 TI.out.2.2.2 rfl (by decide) (.slice a4 l.length c4) _ _ rfl (RD.out _) ⟨wr.heap.size, 0, none⟩ 1 1 [.int .i64 p] rfl rfl (new_cell _ _ _) (by simp; rfl) (by unfold maxLen; omega) (by omega) (by have := ZW.out; simp; omega) ?_; intro v6 w6 o6 g6 n6 e6; obtain ⟨a6, c6, rfl⟩ := own_form o6))
        have NX : Hid (LS w w6 cs (.slice a6 (l ++ [(p : Int)]).length c6) (W, (hn : Int), (bn : Int), (nx : Int)) (p + 1 + mn) (l ++ [(p : Int)])) := by
          have hA : Below wr.heap.size wr (wr.alloc (.cells #[.int .i64 p] 3)) := (Below.refl _ _).alloc (Nat.le_refl _) _
          have hz := ZW.out
          refine ⟨⟨(BW.out.trans (hA.mono (by omega))).grown g6 (by simp; omega) fun g hg => by have := (HO.out g hg).1; omega, ?_⟩, irow_push o6 HL.out.row.2 (by unfold InR; omega), ?_, by rw [List.length_append, List.length_singleton]; have := HL.out.len; omega⟩
          · exact (g6.block _ (by simp; omega) fun e => by have := (HO.out _ e.symm).1; omega).trans ((hA.block _ hz).trans HL.out.arg.blk)
          · rw [HL.out.all]
            show (l ++ (plF W (nx : Int).toNat p).1, (plF W (nx : Int).toNat p).2) = (_ ++ (plF W (nx : Int).toNat _).1, (plF W (nx : Int).toNat _).2)
            rw [Int.toNat_natCast, plF_more hlt HF.out, HMN.out]; simp
        clear o6 g6 n6 e6
        go_round
        case rel => exact ⟨p + 1 + mn, l ++ [(p : Int)], a6, c6, by omega, by omega, by go_num, by simp, NX⟩
        case measure => simp [intOf]; omega
      · have HF : Hid (r = (l, false)) := HBAD.out (by rw [HB.out, t2]; simp)
        go_wp2_with (first | (go_at_call 15; refine hcall.mono ?_; rintro e w' ⟨rfl, hx'⟩; subst w') | (go_at_call 22; refine (isref_is (by assumption)).mono ?_; rintro e w' ⟨rfl, hx'⟩; subst w'))
        go_ret2
        rw [HF.out]
        exact ⟨⟨_, l, rfl, irow_base0 HL.out.row (by omega), fun e => by cases e⟩, BW.out⟩
    · have HE : Hid (r = (l, true)) := by
        show _ = _; rw [HR.out, HL.out.all]
        show (l ++ (plF W (nx : Int).toNat p).1, (plF W (nx : Int).toNat p).2) = _
        rw [Int.toNat_natCast, plF_end (by omega)]; simp
      go_wp2
      go_ret2
      rw [HE.out]
      exact ⟨⟨_, l, rfl, irow_base0 HL.out.row (by omega), fun _ => rfl⟩, BW.out⟩

end Go.Proofs.YtibjpdchdopigaaDoor.heap

/-
  The program's test of a node (tidyNode): tidy, of that sort, and at most so many storeys; nothing that was there is turned.
-/
import Derived.Test.YtkojogfljnnfhabNodeTidy
import Derived.Deep.RegionWith
namespace Go.Proofs.Ytkojogfljnnfhab.node
open Go.RowKit Go.Proofs.Ytkojogfljnnfhab.rose Go.Proofs.Ytkojogfljnnfhab words4
set_option linter.unusedVariables false
set_option linter.unusedSimpArgs false

/-- All kids, each by its sort. -/
def goK (f : Int → Nd → Bool) (op : Int) : Nat → List Nd → Bool
  | _, [] => true
  | i, k :: ks => f (kidSortB op i) k && goK f op (i + 1) ks

/-- Tidy, and at most so many storeys. -/
def tidyN : Nat → Int → Nd → Bool
  | 0, _, _ => false
  | L + 1, sort, .mk (op, n, s, t) ks => decide (sortB op = sort) && (labelB op n s t && (fitB op ks.length && goK (tidyN L) op 0 ks))

theorem tidyN_eq (L : Nat) (sort : Int) (T : Nd) : tidyN L sort T = (decide (dp T ≤ L) && okN sort T) := by
  induction L generalizing sort T with
  | zero =>
    obtain ⟨x, ks⟩ := T
    simp [tidyN, dp]
  | succ L ih =>
    obtain ⟨⟨op, n, s, t⟩, ks⟩ := T
    have key : ∀ (ks : List Nd) (i : Nat), goK (tidyN L) op i ks = (decide (dps ks ≤ L) && okNs op i ks) := by
      intro ks
      induction ks with
      | nil => intro i; simp [goK, dps, okNs]
      | cons k ks ih2 =>
        intro i
        rw [goK, ih2, ih, dps, okNs]
        by_cases h1 : dp k ≤ L <;> by_cases h2 : dps ks ≤ L <;> simp [h1, h2, Nat.max_le] <;> cases okN (kidSortB op i) k <;> simp
    rw [tidyN, key, dp, okN]
    by_cases h1 : dps ks ≤ L
    · have h2 : dps ks + 1 ≤ L + 1 := by omega
      simp [h1, h2]
    · have h2 : ¬ dps ks + 1 ≤ L + 1 := by omega
      simp [h1, h2]

theorem goK_take {f : Int → Nd → Bool} {op : Int} {ks : List Nd} {j : Nat} (h : j < ks.length) (i : Nat) : goK f op i (ks.take (j + 1)) = (goK f op i (ks.take j) && f (kidSortB op (i + j)) ks[j]) := by
  induction ks generalizing i j with
  | nil => simp at h
  | cons k ks ih =>
    cases j with
    | zero => simp [goK]
    | succ j =>
      simp only [List.take_succ_cons, goK, List.getElem_cons_succ]
      rw [ih (by simpa using h), Bool.and_assoc, show i + 1 + j = i + (j + 1) by omega]
theorem goK_no {f : Int → Nd → Bool} {op : Int} {ks : List Nd} {j : Nat} (h : j < ks.length) (i : Nat) (hk : f (kidSortB op (i + j)) ks[j] = false) : goK f op i ks = false := by
  induction ks generalizing i j with
  | nil => simp at h
  | cons k ks ih =>
    cases j with
    | zero => simp only [Nat.add_zero, List.getElem_cons_zero] at hk; simp [goK, hk]
    | succ j =>
      simp only [List.getElem_cons_succ] at hk
      rw [goK, ih (by simpa using h) (i + 1) (by rw [show i + 1 + j = i + (j + 1) by omega]; exact hk)]
      simp

def TidySays (L : Nat) : Prop := ∀ (T : Nd) cs w (sort l : Int), l = (L : Nat) → wt T ≤ 1048576 → ndSh.rep w (· < w.heap.size) cs T →
  Calls Try.prog 23 #[.agg cs.toArray, .int .i64 sort, .int .i64 l] w fun e w' => e = .returned (.bool (tidyN L sort T)) ∧ Below w.heap.size w w'

set_option maxHeartbeats 2000000 in
theorem tidy_any (L : Nat) (hL : L ≤ 24) : TidySays L := by
  induction L with
  | zero =>
    intro T cs w sort l hl hw h
    obtain ⟨op, n, s, t, a, cap, ks, rfl, rfl, f2, f3, hk⟩ := nd_open h
    clear h hk
    have t0 : l = 0 := by simpa using hl
    subst t0
    clear hl
    rw [show tidyN 0 sort (.mk (op, n, s, t) ks) = false by simp [tidyN]]
    go_enter Try.func23, Try.ntmps23
    go_wp2
    go_ret
    exact ⟨rfl, (Below.refl _ _).alloc (Nat.le_refl _) _⟩
  | succ L ih0 =>
    have IH : Hid (TidySays L) := ih0 (by omega)
    clear ih0
    intro T cs w sort l hl hw h
    obtain ⟨op, n, s, t, a, cap, ks, rfl, rfl, f2, f3, hk⟩ := nd_open h
    clear h
    obtain ⟨a1, cap1, css, e, hcap, hmax, hrow, hk2⟩ := nds_open hk
    cases e
    have hws : wts ks ≤ 1048576 ∧ ks.length ≤ 1048576 := by simp [wt] at hw; omega
    obtain ⟨hws, hkl⟩ := hws
    have hl1 : 1 ≤ l := by omega
    have hl2 : l ≤ 24 := by omega
    have HL : Hid (l = ((L + 1 : Nat) : Int)) := hl
    have WR : Hid (IntKind.i64.wrap (l - 1) = l - 1) := by show _ = _; rw [IntKind.wrap_i64]; omega
    clear hl
    have HR : Hid (RowAt w (· < w.heap.size) 5 a ks.length css ∧ ∀ i (h : i < ks.length), ndSh.rep w (· < w.heap.size) (css i) ks[i]) := ⟨hrow, hk2⟩
    have HO : Hid (tidyN (L + 1) sort (.mk (op, n, s, t) ks) = (decide (sortB op = sort) && (labelB op n s t && (fitB op ks.length && goK (tidyN L) op 0 ks)))) := by show _ = _; rw [tidyN]
    generalize tidyN (L + 1) sort (.mk (op, n, s, t) ks) = q at HO ⊢
    have B0 : Hid (Below w.heap.size w (w.alloc (.cells #[.int .i64 op, .int .i64 n, .string s, .string t, .slice a ks.length cap] 33))) := (Below.refl _ _).alloc (Nat.le_refl _) _
    have X0 : Hid ((w.alloc (.cells #[.int .i64 op, .int .i64 n, .string s, .string t, .slice a ks.length cap] 33)).cell? ⟨w.heap.size, 0, none⟩ = some (.int .i64 op)) := by show _ = _; simp
    have X4 : Hid ((w.alloc (.cells #[.int .i64 op, .int .i64 n, .string s, .string t, .slice a ks.length cap] 33)).cell? ⟨w.heap.size, 4, none⟩ = some (.slice a ks.length cap)) := by show _ = _; simp
    have Z0 : Hid (w.heap.size < (w.alloc (.cells #[.int .i64 op, .int .i64 n, .string s, .string t, .slice a ks.length cap] 33)).heap.size) := by show _ < _; simp
    clear hrow hk2 hk hcap hmax hw
    have t0 : (l == 0) = false := by simp; omega
    have hso := implSort op
    by_cases hsrt : sortB op = sort
    · have t1 : (sortB op == sort) = true := by simp [hsrt]
      have hcall := implLabel op n s t a ks.length cap f2 f3 (w.alloc (.cells #[.int .i64 op, .int .i64 n, .string s, .string t, .slice a ks.length cap] 33))
      rw [decide_eq_true hsrt, Bool.true_and] at HO
      by_cases hlab : labelB op n s t = true
      · rw [hlab] at hcall HO
        go_enter Try.func23, Try.ntmps23
        go_wp2_with (first | (go_at_call 38; refine (implSort op _).mono ?_; rintro e w1 ⟨rfl, rfl⟩) | (go_at_call 39; refine hcall.mono ?_; clear hcall; rintro e w1 ⟨rfl, hb⟩; have B1 : Hid (Below w.heap.size w w1) := B0.out.trans (hb.mono B0.out.size); have c0 : w1.cell? ⟨w.heap.size, 0, none⟩ = some (.int .i64 op) := (hb.cell (p := ⟨w.heap.size, 0, none⟩) Z0.out).trans X0.out; have c4 : w1.cell? ⟨w.heap.size, 4, none⟩ = some (.slice a ks.length cap) := (hb.cell (p := ⟨w.heap.size, 4, none⟩) Z0.out).trans X4.out; have z1 : Hid (w.heap.size < w1.heap.size) := Nat.lt_of_lt_of_le Z0.out hb.size; clear hb))
        refine (implFit op ks.length w1).mono ?_
        rintro e w2 ⟨rfl, rfl⟩
        clear X0 X4 B0 Z0 hso
        by_cases hfit : fitB op ks.length = true
        · rw [hfit] at HO
          rw [hfit]
          go_wp2
          clear c4
          have C0 : Hid (w2.cell? ⟨w.heap.size, 0, none⟩ = some (.int .i64 op)) := c0
          clear c0
          go_loopw [35] (fun v35 wr => ∃ i : Nat, i ≤ ks.length ∧ v35 = .int .i64 i ∧ Hid (goK (tidyN L) op 0 (ks.take i) = true) ∧ Hid (Below w.heap.size w wr) ∧ Hid (Below w2.heap.size w2 wr)) (fun v35 _ => ks.length - (intOf v35).toNat)
          case atStart => exact ⟨0, Nat.zero_le _, rfl, by show _ = _; simp [goK], B1, Below.refl _ _⟩
          case round =>
            obtain ⟨i, hi, rfl, HA, HB, HB2⟩ := hrel
            by_cases hlt : i < ks.length
            · obtain ⟨b, o, rfl, hS, hc⟩ := HR.out.1 i hlt
              have hrep := HR.out.2 i hlt
              have BW := HB.out
              obtain ⟨op', n', s', t', a', cap', ks', hT', hcs, g2, g3, -⟩ := nd_open hrep
              rw [hcs] at hc hrep
              have e0 := (BW.cell (p := ⟨b, o + i * 5, none⟩) hS).trans (hc 0 _ rfl)
              have e1 := (BW.cell (p := ⟨b, o + i * 5 + 1, none⟩) hS).trans (hc 1 _ rfl)
              have e2 := (BW.cell (p := ⟨b, o + i * 5 + 2, none⟩) hS).trans (hc 2 _ rfl)
              have e3 := (BW.cell (p := ⟨b, o + i * 5 + 3, none⟩) hS).trans (hc 3 _ rfl)
              have e4 := (BW.cell (p := ⟨b, o + i * 5 + 4, none⟩) hS).trans (hc 4 _ rfl)
              have hwi : wt ks[i] ≤ 1048576 := by have := wt_mem (List.getElem_mem hlt); omega
              have hcall : ∀ wk : World, Below w.heap.size w wk → Calls Try.prog 23 #[.agg #[.int .i64 op', .int .i64 n', .string s', .string t', .slice a' ks'.length cap'], .int .i64 (kidSortB op i), .int .i64 (l - 1)] wk fun e w' => e = .returned (.bool (tidyN L (kidSortB op i) ks[i])) ∧ Below wk.heap.size wk w' := fun wk hbk =>
                IH.out ks[i] _ wk (kidSortB op i) (l - 1) (by have := HL.out; omega) hwi (ndSh.mono (ndSh.below hrep hbk) fun b hb => Nat.lt_of_lt_of_le hb hbk.size)
              have BK : Hid (Below w.heap.size w (wr.alloc (.cells #[.int .i64 op', .int .i64 n', .string s', .string t', .slice a' ks'.length cap'] 33))) := BW.alloc BW.size _
              have BK2 : Hid (Below w2.heap.size w2 (wr.alloc (.cells #[.int .i64 op', .int .i64 n', .string s', .string t', .slice a' ks'.length cap'] 33))) := HB2.out.alloc HB2.out.size _
              have c0 : (wr.alloc (.cells #[.int .i64 op', .int .i64 n', .string s', .string t', .slice a' ks'.length cap'] 33)).cell? ⟨w.heap.size, 0, none⟩ = some (.int .i64 op) := (BK2.out.cell (p := ⟨w.heap.size, 0, none⟩) z1.out).trans C0.out
              clear BW hT' hcs g2 g3 hc HB HB2 hrep
              by_cases hok : tidyN L (kidSortB op i) ks[i] = true
              · have hA2 : Hid (goK (tidyN L) op 0 (ks.take (i + 1)) = true) := by show _ = _; rw [goK_take hlt, HA.out, Nat.zero_add, hok]; rfl
                rw [hok] at hcall
                clear hok HA
                go_wp2
                go_region_with (first | (go_at_call 41; refine (implKidSort op i _).mono ?_; rintro e w5 ⟨rfl, rfl⟩) | (go_at_call 23; rw [WR.out]; refine (hcall _ (by first | exact BK.out.drew | exact BK.out)).mono ?_; rintro e w6 ⟨rfl, hb⟩))
                all_goals
                  have B6 : Hid (Below w.heap.size w w6) := BK.out.drew.trans (hb.mono BK.out.size)
                  have B7 : Hid (Below w2.heap.size w2 w6) := BK2.out.drew.trans (hb.mono BK2.out.size)
                  clear hb BK BK2 hcall e0 e1 e2 e3 e4 c0
                  go_wp2
                  go_round
                  case rel => exact ⟨i + 1, by omega, by go_num, hA2, B6, B7⟩
                  case measure => simp [intOf]; omega
              · have hok' : tidyN L (kidSortB op i) ks[i] = false := by simpa using hok
                have hq : Hid (q = false) := by show _ = _; rw [HO.out, goK_no hlt 0 (by rw [Nat.zero_add]; exact hok')]; rfl
                rw [hok'] at hcall
                clear hok hok' HA
                go_wp2
                go_region_with (first | (go_at_call 41; refine (implKidSort op i _).mono ?_; rintro e w5 ⟨rfl, rfl⟩) | (go_at_call 23; rw [WR.out]; refine (hcall _ (by first | exact BK.out.drew | exact BK.out)).mono ?_; rintro e w6 ⟨rfl, hb⟩))
                all_goals
                  have B6 : Hid (Below w.heap.size w w6) := BK.out.drew.trans (hb.mono BK.out.size)
                  clear hb BK BK2 hcall e0 e1 e2 e3 e4 c0
                  go_wp2
                  go_ret
                  exact ⟨ret_bool hq.out.symm, B6.out⟩
            · obtain rfl : i = ks.length := by omega
              have hq : Hid (q = true) := by
                have := HA.out
                rw [List.take_length] at this
                show _ = _; rw [HO.out, this]; rfl
              go_wp2
              go_ret
              exact ⟨ret_bool hq.out.symm, HB.out⟩
        · have hfit' : fitB op ks.length = false := by simpa using hfit
          have hq : Hid (q = false) := by show _ = _; rw [HO.out, hfit']; rfl
          rw [hfit']
          go_wp2
          go_ret
          exact ⟨ret_bool hq.out.symm, B1.out⟩
      · have hlab' : labelB op n s t = false := by simpa using hlab
        have hq : Hid (q = false) := by show _ = _; rw [HO.out, hlab']; rfl
        rw [hlab'] at hcall
        clear hlab hlab' HO
        go_enter Try.func23, Try.ntmps23
        go_wp2_with (first | (go_at_call 38; refine (implSort op _).mono ?_; rintro e w1 ⟨rfl, rfl⟩) | (go_at_call 39; refine hcall.mono ?_; clear hcall; rintro e w1 ⟨rfl, hb⟩; have B1 : Hid (Below w.heap.size w w1) := B0.out.trans (hb.mono B0.out.size); clear hb))
        go_ret
        exact ⟨ret_bool hq.out.symm, B1.out⟩
    · have t1 : (sortB op == sort) = false := by simpa using hsrt
      have t2 : (sortB op != sort) = true := by simp [bne, t1]
      have hq : Hid (q = false) := by show _ = _; rw [HO.out, decide_eq_false hsrt]; rfl
      clear HO hsrt
      go_enter Try.func23, Try.ntmps23
      go_wp2_with (go_at_call 38; refine (implSort op _).mono ?_; rintro e w1 ⟨rfl, rfl⟩)
      go_ret
      exact ⟨ret_bool hq.out.symm, B0.out⟩

end Go.Proofs.Ytkojogfljnnfhab.node

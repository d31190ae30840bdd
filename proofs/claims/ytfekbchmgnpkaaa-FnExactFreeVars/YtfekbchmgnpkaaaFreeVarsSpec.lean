/-
  The model's l5Insert, l5Vars and FreeVars: a list that ascends, in new memory; nothing that was there is turned.
-/
import Derived.Test.YtfekbchmgnpkaaaIntRows
import Derived.Test.YtfekbchmgnpkaaaTySz
namespace Go.Proofs.Ytfekbchmgnpkaaa.ints
open Go.RowKit Go.Proofs.Ytfekbchmgnpkaaa.rose Go.Proofs.Ytfekbchmgnpkaaa
set_option linter.unusedVariables false

def cut (n : Int) : List Int → Nat
  | [] => 0
  | x :: xs => if x < n then cut n xs + 1 else 0
theorem cut_le (n : Int) (l : List Int) : cut n l ≤ l.length := by
  induction l with
  | nil => simp [cut]
  | cons x xs ih => simp only [cut]; split <;> simp <;> omega
theorem cut_of {n : Int} {l : List Int} {i : Nat} (h1 : i ≤ l.length) (h2 : ∀ j (h : j < l.length), j < i → l[j] < n) (h3 : ∀ h : i < l.length, ¬ l[i] < n) : cut n l = i := by
  induction l generalizing i with
  | nil => simp at h1; simp [cut, h1]
  | cons x xs ih =>
    cases i with
    | zero => have := h3 (by simp); simp at this; simp [cut]; omega
    | succ i =>
      have := h2 0 (by simp) (by omega)
      simp at this
      simp only [cut, if_pos this]
      rw [ih (by simpa using h1) (fun j hj hji => by have := h2 (j + 1) (by simp; omega) (by omega); simpa using this) (fun h => by have := h3 (by simp; omega); simpa using this)]
/-- n put into a list that ascends, once. -/
def ins (l : List Int) (n : Int) : List Int := if l[cut n l]? = some n then l else l.take (cut n l) ++ ([n] ++ l.drop (cut n l))

theorem ins_length (l : List Int) (n : Int) : (ins l n).length ≤ l.length + 1 := by
  unfold ins
  split
  · omega
  · have := cut_le n l; simp; omega

theorem wp_bounds {l : List Int} {n : Int} (h : ∀ x ∈ l, InR x) (hn : InR n) : ∀ x ∈ ins l n, InR x := by
  intro x hx
  unfold ins at hx
  split at hx
  · exact h x hx
  · simp only [List.mem_append, List.mem_singleton] at hx
    rcases hx with hx | rfl | hx
    · exact h x (List.mem_of_mem_take hx)
    · exact hn
    · exact h x (List.mem_of_mem_drop hx)

theorem own_less {w : World} {base base' : Nat} {v : Value} {n : Nat} {xs : List Value} (h : w.ownsRow base 3 1 v n xs) (hb : base' ≤ base) : w.ownsRow base' 3 1 v n xs := by
  refine ⟨h.1, ?_⟩
  rcases h.2 with h0 | ⟨g, cap, cur, h1, h2, h3⟩
  · exact Or.inl h0
  · exact Or.inr ⟨g, cap, cur, h1, Nat.le_trans hb h2, h3⟩

theorem one_cell (w : World) (n : Int) : ∀ j u, [Value.int .i64 n][j]? = some u → (w.alloc (.cells #[.int .i64 n] 3)).cell? ((⟨w.heap.size, 0, none⟩ : Addr).add j) = some u := by
  intro j u hu
  match j, hu with
  | 0, hu =>
    simp at hu; subst hu
    exact World.cell?_alloc_new w _ 3 0
  | _ + 1, hu => simp at hu
theorem one_one (n : Int) : ∀ u ∈ [Value.int .i64 n], u.oneCell' = true := by
  intro u hu; simp at hu; subst hu; rfl

set_option maxHeartbeats 2000000 in
theorem insert_any (l : List Int) (n : Int) (hn : InR n) (v : Value) (w : World) (base : Nat) (hl : l.length ≤ 2097152) (hb : base ≤ w.heap.size) (hv : v ≠ .slice none 0 0) (h : IRow w base v l) :
    Calls Try.prog 71 #[v, .int .i64 n] w fun e w' => (∃ v', e = .returned v' ∧ v' ≠ .slice none 0 0 ∧ IRow w' base v' (ins l n)) ∧ Below w.heap.size w w' := by
  obtain ⟨ti, hti⟩ := int_info
  have TI : Hid _ := hti
  rcases h.open with ⟨rfl, -⟩ | ⟨g, cap, rfl, h2, h3, h4, h5, h6, cur, t, h7⟩
  · exact absurd rfl hv
  have HI : Hid (IRow w base (.slice (some ⟨g, 0, none⟩) l.length cap) l) := h
  have HC : Hid (∀ i (hi : i < l.length), w.cell? ⟨g, i, none⟩ = some (.int .i64 l[i])) := h6
  have hmx : (cap : Int) ≤ 9223372036854775807 := by unfold maxLen at h5; omega
  have HN : Hid (InR n) := hn
  obtain ⟨q, hq⟩ : ∃ q, q = ins l n := ⟨_, rfl⟩
  have HQ : Hid (q = ins l n) := hq
  rw [← hq]
  clear hti h h6 h7 h5 hq hv hn
  go_enter Try.func71, Try.ntmps71
  go_wp2
  go_loopw [5] (fun v5 wr => ∃ i : Nat, i ≤ l.length ∧ v5 = .int .i64 i ∧ wr = w ∧ Hid (∀ j (h : j < l.length), j < i → l[j] < n)) (fun v5 _ => l.length - (intOf v5).toNat)
  case atStart => exact ⟨0, Nat.zero_le _, rfl, rfl, fun j _ hj => absurd hj (Nat.not_lt_zero _)⟩
  case round =>
    obtain ⟨i, hi, rfl, hwr, HJ⟩ := hrel
    subst hwr
    have FIN : ∀ (K : Prop), (Hid (cut n l = i) → Hid (l[i]? ≠ some n) → K) → (∀ h : i < l.length, ¬ l[i] < n) → (∀ h : i < l.length, l[i] ≠ n) → K := fun K hK hc hne => hK (cut_of hi HJ.out hc) (fun e => by
      obtain ⟨h1, h2⟩ := List.getElem?_eq_some_iff.1 e
      exact hne h1 h2)
    by_cases hlt : i < l.length
    · have e0 := HC.out i hlt
      by_cases hle : l[i] < n
      · have t1 : decide (l[i] < n) = true := by simpa using hle
        have NJ : Hid (∀ j (h : j < l.length), j < i + 1 → l[j] < n) := fun j hj hji => by
          by_cases e : j = i
          · subst e; exact hle
          · exact HJ.out j hj (by omega)
        generalize l[i] = x at e0 t1
        clear hle
        go_wp2
        go_round
        case rel => exact ⟨i + 1, by omega, by go_num, trivial, NJ⟩
        case measure => simp [intOf]; omega
      · by_cases heq : l[i] = n
        · have hcut := cut_of hi HJ.out (fun _ => hle)
          have hq : Hid (q = l) := by
            show _ = _
            rw [HQ.out]; unfold ins; rw [hcut, List.getElem?_eq_getElem hlt, heq, if_pos rfl]
          clear FIN hcut
          rw [heq] at e0
          clear heq hle
          go_wp2
          go_ret
          refine ⟨⟨_, rfl, by simp, ?_⟩, Below.refl _ _⟩
          rw [hq.out]; exact HI.out
        · refine FIN _ (fun hcut hne => ?_) (fun _ => hle) (fun _ => heq)
          clear FIN
          have t1 : decide (l[i] < n) = false := by simpa using hle
          have t2 : (l[i] == n) = false := by simpa using heq
          generalize l[i] = x at e0 t1 t2
          clear hle heq
          have N1 : Hid (∀ j u, ((l.take i).map (Value.int .i64))[j]? = some u → (wr.alloc (.cells #[] 3)).cell? ((⟨g, 0, none⟩ : Addr).add j) = some u) := fun j u hu => by
            rw [add_plain, Nat.zero_add, (((Below.refl _ wr).alloc (Nat.le_refl _) _).cell (p := ⟨g, j, none⟩) h3)]
            rw [List.getElem?_map] at hu
            obtain ⟨y, hy, rfl⟩ := Option.map_eq_some_iff.1 hu
            rw [List.getElem?_take] at hy
            split at hy
            · obtain ⟨h1, rfl⟩ := List.getElem?_eq_some_iff.1 hy
              exact HC.out j h1
            · cases hy
          have N3 : Hid (∀ w2 : World, Below wr.heap.size wr w2 → ∀ j u, ((l.drop i).map (Value.int .i64))[j]? = some u → w2.cell? ((⟨g, i, none⟩ : Addr).add j) = some u) := fun w2 hb2 j u hu => by
            rw [add_plain, hb2.cell (p := ⟨g, i + j, none⟩) h3]
            rw [List.getElem?_map] at hu
            obtain ⟨y, hy, rfl⟩ := Option.map_eq_some_iff.1 hu
            rw [List.getElem?_drop] at hy
            obtain ⟨h1, rfl⟩ := List.getElem?_eq_some_iff.1 hy
            exact HC.out (i + j) h1
          have O1 : Hid (∀ u ∈ (l.take i).map (Value.int .i64), u.oneCell' = true) := fun u hu => by
            obtain ⟨y, _, rfl⟩ := List.mem_map.1 hu; rfl
          have O3 : Hid (∀ u ∈ (l.drop i).map (Value.int .i64), u.oneCell' = true) := fun u hu => by
            obtain ⟨y, _, rfl⟩ := List.mem_map.1 hu; rfl
          have L0 : Hid ((wr.alloc (.cells #[] 3)).ownsRow wr.heap.size 3 1 (.slice (some ⟨wr.heap.size, 0, none⟩) 0 0) 0 []) := World.ownsRow_lit wr #[] 0 (Nat.le_refl _) (Nat.zero_le _) rfl
          have X1 : Hid (((l.take i).map (Value.int .i64)).length = i * 1) := by show _ = _; simp; omega
          have X3 : Hid (((l.drop i).map (Value.int .i64)).length = (l.length - i) * 1) := by show _ = _; simp
          go_wp2_with (first
            | (at_builtin; refine wpList_append_own _ rfl (.tmp 34) (.tmp 37) 41 rfl wr.heap.size 3 ti _ 1 8 Try.underlying41 TI.out.1 TI.out.2.1 TI.out.2.2.1 TI.out.2.2.2 rfl (by decide) _ _ _ rfl L0.out ⟨g, 0, none⟩ i cap ((l.take i).map (Value.int .i64)) rfl X1.out N1.out O1.out (by unfold maxLen; omega) (by omega) (by simp) ?_; intro v1 w1 o1 g1 n1; have B1 : Hid (Below wr.heap.size wr w1) := ((Below.refl _ wr).alloc (Nat.le_refl _) _).grown g1 (by simp) (fun k hk => by cases hk; exact Nat.le_refl _); have Q1 : Hid (w1.ownsRow wr.heap.size 3 1 v1 (0 + i) ([] ++ (l.take i).map (Value.int .i64))) := o1; clear o1 g1 n1)
            | (at_builtin; refine wpList_append_own _ rfl (.tmp 39) (.tmp 41) 41 rfl wr.heap.size 3 ti _ 1 8 Try.underlying41 TI.out.1 TI.out.2.1 TI.out.2.2.1 TI.out.2.2.2 rfl (by decide) _ _ _ rfl (Q1.out.alloc _) ⟨w1.heap.size, 0, none⟩ 1 1 [.int .i64 n] rfl rfl (one_cell w1 n) (one_one n) (by unfold maxLen; omega) (by omega) (by have := B1.out.size; simp; omega) ?_; intro v2 w2 o2 g2 n2; have B2 : Hid (Below wr.heap.size wr w2) := (B1.out.alloc B1.out.size _).grown g2 (by have := B1.out.size; simp; omega) (fun k hk => (Q1.out.lt k hk).1); have Q2 : Hid (w2.ownsRow wr.heap.size 3 1 v2 (0 + i + 1) ([] ++ (l.take i).map (Value.int .i64) ++ [.int .i64 n])) := o2; clear o2 g2 n2)
            | (at_builtin; refine wpList_append_own _ rfl (.tmp 43) (.tmp 46) 41 rfl wr.heap.size 3 ti _ 1 8 Try.underlying41 TI.out.1 TI.out.2.1 TI.out.2.2.1 TI.out.2.2.2 rfl (by decide) _ _ _ rfl Q2.out ⟨g, i, none⟩ (l.length - i) (cap - i) ((l.drop i).map (Value.int .i64)) rfl X3.out (N3.out w2 B2.out) O3.out (by unfold maxLen; omega) (by omega) (by have := B2.out.size; omega) ?_; intro v3 w3 o3 g3 n3; have B3 : Hid (Below wr.heap.size wr w3) := B2.out.grown g3 (by have := B2.out.size; omega) (fun k hk => (Q2.out.lt k hk).1); have Q3 : Hid (w3.ownsRow wr.heap.size 3 1 v3 (0 + i + 1 + (l.length - i)) ([] ++ (l.take i).map (Value.int .i64) ++ [.int .i64 n] ++ (l.drop i).map (Value.int .i64))) := o3; clear o3 g3 n3)
            | go_in)
          go_ret
          refine ⟨⟨_, rfl, ?_, ?_⟩, B3.out⟩
          · intro e
            have e' : v3 = .slice none 0 0 := e
            rcases Q3.out.2 with ⟨_, h0⟩ | ⟨g', c', cu', h0, _⟩
            · omega
            · rw [h0] at e'; cases e'
          · have hq : q = l.take i ++ ([n] ++ l.drop i) := by
              rw [HQ.out]; unfold ins; rw [hcut.out, if_neg hne.out]
            rw [hq]
            have hR := HI.out.2
            refine ⟨?_, fun y hy => ?_⟩
            · have hl2 : (l.take i ++ ([n] ++ l.drop i)).length = 0 + i + 1 + (l.length - i) := by simp; omega
              rw [hl2]
              have := own_less Q3.out hb
              simpa using this
            · simp only [List.mem_append, List.mem_singleton] at hy
              rcases hy with hy | rfl | hy
              · exact hR y (List.mem_of_mem_take hy)
              · exact HN.out
              · exact hR y (List.mem_of_mem_drop hy)
    · refine FIN _ (fun hcut hne => ?_) (fun h => absurd h hlt) (fun h => absurd h hlt)
      clear FIN
      by_cases hci : cap = i
      · have N1 : Hid (∀ j u, ((l.take i).map (Value.int .i64))[j]? = some u → (wr.alloc (.cells #[] 3)).cell? ((⟨g, 0, none⟩ : Addr).add j) = some u) := fun j u hu => by
          rw [add_plain, Nat.zero_add, (((Below.refl _ wr).alloc (Nat.le_refl _) _).cell (p := ⟨g, j, none⟩) h3)]
          rw [List.getElem?_map] at hu
          obtain ⟨y, hy, rfl⟩ := Option.map_eq_some_iff.1 hu
          rw [List.getElem?_take] at hy
          split at hy
          · obtain ⟨h1, rfl⟩ := List.getElem?_eq_some_iff.1 hy
            exact HC.out j h1
          · cases hy
        have N3 : Hid (∀ w2 : World, Below wr.heap.size wr w2 → ∀ j u, ((l.drop i).map (Value.int .i64))[j]? = some u → w2.cell? ((⟨g, 0, none⟩ : Addr).add j) = some u) := fun w2 hb2 j u hu => by
          rw [List.drop_eq_nil_of_le (by omega)] at hu
          cases hu
        have O1 : Hid (∀ u ∈ (l.take i).map (Value.int .i64), u.oneCell' = true) := fun u hu => by
          obtain ⟨y, _, rfl⟩ := List.mem_map.1 hu; rfl
        have O3 : Hid (∀ u ∈ (l.drop i).map (Value.int .i64), u.oneCell' = true) := fun u hu => by
          obtain ⟨y, _, rfl⟩ := List.mem_map.1 hu; rfl
        have L0 : Hid ((wr.alloc (.cells #[] 3)).ownsRow wr.heap.size 3 1 (.slice (some ⟨wr.heap.size, 0, none⟩) 0 0) 0 []) := World.ownsRow_lit wr #[] 0 (Nat.le_refl _) (Nat.zero_le _) rfl
        have X1 : Hid (((l.take i).map (Value.int .i64)).length = i * 1) := by show _ = _; simp; omega
        have X3 : Hid (((l.drop i).map (Value.int .i64)).length = (l.length - i) * 1) := by show _ = _; simp
        go_wp2_with (first
          | (at_builtin; refine wpList_append_own _ rfl (.tmp 34) (.tmp 37) 41 rfl wr.heap.size 3 ti _ 1 8 Try.underlying41 TI.out.1 TI.out.2.1 TI.out.2.2.1 TI.out.2.2.2 rfl (by decide) _ _ _ rfl L0.out ⟨g, 0, none⟩ i i ((l.take i).map (Value.int .i64)) rfl X1.out N1.out O1.out (by unfold maxLen; omega) (by omega) (by simp) ?_; intro v1 w1 o1 g1 n1; have B1 : Hid (Below wr.heap.size wr w1) := ((Below.refl _ wr).alloc (Nat.le_refl _) _).grown g1 (by simp) (fun k hk => by cases hk; exact Nat.le_refl _); have Q1 : Hid (w1.ownsRow wr.heap.size 3 1 v1 (0 + i) ([] ++ (l.take i).map (Value.int .i64))) := o1; clear o1 g1 n1)
          | (at_builtin; refine wpList_append_own _ rfl (.tmp 39) (.tmp 41) 41 rfl wr.heap.size 3 ti _ 1 8 Try.underlying41 TI.out.1 TI.out.2.1 TI.out.2.2.1 TI.out.2.2.2 rfl (by decide) _ _ _ rfl (Q1.out.alloc _) ⟨w1.heap.size, 0, none⟩ 1 1 [.int .i64 n] rfl rfl (one_cell w1 n) (one_one n) (by unfold maxLen; omega) (by omega) (by have := B1.out.size; simp; omega) ?_; intro v2 w2 o2 g2 n2; have B2 : Hid (Below wr.heap.size wr w2) := (B1.out.alloc B1.out.size _).grown g2 (by have := B1.out.size; simp; omega) (fun k hk => (Q1.out.lt k hk).1); have Q2 : Hid (w2.ownsRow wr.heap.size 3 1 v2 (0 + i + 1) ([] ++ (l.take i).map (Value.int .i64) ++ [.int .i64 n])) := o2; clear o2 g2 n2)
          | (at_builtin; refine wpList_append_own _ rfl (.tmp 43) (.tmp 46) 41 rfl wr.heap.size 3 ti _ 1 8 Try.underlying41 TI.out.1 TI.out.2.1 TI.out.2.2.1 TI.out.2.2.2 rfl (by decide) _ _ _ rfl Q2.out ⟨g, 0, none⟩ (l.length - i) 0 ((l.drop i).map (Value.int .i64)) rfl X3.out (N3.out w2 B2.out) O3.out (by unfold maxLen; omega) (by omega) (by have := B2.out.size; omega) ?_; intro v3 w3 o3 g3 n3; have B3 : Hid (Below wr.heap.size wr w3) := B2.out.grown g3 (by have := B2.out.size; omega) (fun k hk => (Q2.out.lt k hk).1); have Q3 : Hid (w3.ownsRow wr.heap.size 3 1 v3 (0 + i + 1 + (l.length - i)) ([] ++ (l.take i).map (Value.int .i64) ++ [.int .i64 n] ++ (l.drop i).map (Value.int .i64))) := o3; clear o3 g3 n3)
          | go_in)
        go_ret
        refine ⟨⟨_, rfl, ?_, ?_⟩, B3.out⟩
        · intro e
          have e' : v3 = .slice none 0 0 := e
          rcases Q3.out.2 with ⟨_, h0⟩ | ⟨g', c', cu', h0, _⟩
          · omega
          · rw [h0] at e'; cases e'
        · have hq : q = l.take i ++ ([n] ++ l.drop i) := by
            rw [HQ.out]; unfold ins; rw [hcut.out, if_neg hne.out]
          rw [hq]
          have hR := HI.out.2
          refine ⟨?_, fun y hy => ?_⟩
          · have hl2 : (l.take i ++ ([n] ++ l.drop i)).length = 0 + i + 1 + (l.length - i) := by simp; omega
            rw [hl2]
            have := own_less Q3.out hb
            simpa using this
          · simp only [List.mem_append, List.mem_singleton] at hy
            rcases hy with hy | rfl | hy
            · exact hR y (List.mem_of_mem_take hy)
            · exact HN.out
            · exact hR y (List.mem_of_mem_drop hy)
      · have N1 : Hid (∀ j u, ((l.take i).map (Value.int .i64))[j]? = some u → (wr.alloc (.cells #[] 3)).cell? ((⟨g, 0, none⟩ : Addr).add j) = some u) := fun j u hu => by
          rw [add_plain, Nat.zero_add, (((Below.refl _ wr).alloc (Nat.le_refl _) _).cell (p := ⟨g, j, none⟩) h3)]
          rw [List.getElem?_map] at hu
          obtain ⟨y, hy, rfl⟩ := Option.map_eq_some_iff.1 hu
          rw [List.getElem?_take] at hy
          split at hy
          · obtain ⟨h1, rfl⟩ := List.getElem?_eq_some_iff.1 hy
            exact HC.out j h1
          · cases hy
        have N3 : Hid (∀ w2 : World, Below wr.heap.size wr w2 → ∀ j u, ((l.drop i).map (Value.int .i64))[j]? = some u → w2.cell? ((⟨g, i, none⟩ : Addr).add j) = some u) := fun w2 hb2 j u hu => by
          rw [add_plain, hb2.cell (p := ⟨g, i + j, none⟩) h3]
          rw [List.getElem?_map] at hu
          obtain ⟨y, hy, rfl⟩ := Option.map_eq_some_iff.1 hu
          rw [List.getElem?_drop] at hy
          obtain ⟨h1, rfl⟩ := List.getElem?_eq_some_iff.1 hy
          exact HC.out (i + j) h1
        have O1 : Hid (∀ u ∈ (l.take i).map (Value.int .i64), u.oneCell' = true) := fun u hu => by
          obtain ⟨y, _, rfl⟩ := List.mem_map.1 hu; rfl
        have O3 : Hid (∀ u ∈ (l.drop i).map (Value.int .i64), u.oneCell' = true) := fun u hu => by
          obtain ⟨y, _, rfl⟩ := List.mem_map.1 hu; rfl
        have L0 : Hid ((wr.alloc (.cells #[] 3)).ownsRow wr.heap.size 3 1 (.slice (some ⟨wr.heap.size, 0, none⟩) 0 0) 0 []) := World.ownsRow_lit wr #[] 0 (Nat.le_refl _) (Nat.zero_le _) rfl
        have X1 : Hid (((l.take i).map (Value.int .i64)).length = i * 1) := by show _ = _; simp; omega
        have X3 : Hid (((l.drop i).map (Value.int .i64)).length = (l.length - i) * 1) := by show _ = _; simp
        go_wp2_with (first
          | (at_builtin; refine wpList_append_own _ rfl (.tmp 34) (.tmp 37) 41 rfl wr.heap.size 3 ti _ 1 8 Try.underlying41 TI.out.1 TI.out.2.1 TI.out.2.2.1 TI.out.2.2.2 rfl (by decide) _ _ _ rfl L0.out ⟨g, 0, none⟩ i cap ((l.take i).map (Value.int .i64)) rfl X1.out N1.out O1.out (by unfold maxLen; omega) (by omega) (by simp) ?_; intro v1 w1 o1 g1 n1; have B1 : Hid (Below wr.heap.size wr w1) := ((Below.refl _ wr).alloc (Nat.le_refl _) _).grown g1 (by simp) (fun k hk => by cases hk; exact Nat.le_refl _); have Q1 : Hid (w1.ownsRow wr.heap.size 3 1 v1 (0 + i) ([] ++ (l.take i).map (Value.int .i64))) := o1; clear o1 g1 n1)
          | (at_builtin; refine wpList_append_own _ rfl (.tmp 39) (.tmp 41) 41 rfl wr.heap.size 3 ti _ 1 8 Try.underlying41 TI.out.1 TI.out.2.1 TI.out.2.2.1 TI.out.2.2.2 rfl (by decide) _ _ _ rfl (Q1.out.alloc _) ⟨w1.heap.size, 0, none⟩ 1 1 [.int .i64 n] rfl rfl (one_cell w1 n) (one_one n) (by unfold maxLen; omega) (by omega) (by have := B1.out.size; simp; omega) ?_; intro v2 w2 o2 g2 n2; have B2 : Hid (Below wr.heap.size wr w2) := (B1.out.alloc B1.out.size _).grown g2 (by have := B1.out.size; simp; omega) (fun k hk => (Q1.out.lt k hk).1); have Q2 : Hid (w2.ownsRow wr.heap.size 3 1 v2 (0 + i + 1) ([] ++ (l.take i).map (Value.int .i64) ++ [.int .i64 n])) := o2; clear o2 g2 n2)
          | (at_builtin; refine wpList_append_own _ rfl (.tmp 43) (.tmp 46) 41 rfl wr.heap.size 3 ti _ 1 8 Try.underlying41 TI.out.1 TI.out.2.1 TI.out.2.2.1 TI.out.2.2.2 rfl (by decide) _ _ _ rfl Q2.out ⟨g, i, none⟩ (l.length - i) (cap - i) ((l.drop i).map (Value.int .i64)) rfl X3.out (N3.out w2 B2.out) O3.out (by unfold maxLen; omega) (by omega) (by have := B2.out.size; omega) ?_; intro v3 w3 o3 g3 n3; have B3 : Hid (Below wr.heap.size wr w3) := B2.out.grown g3 (by have := B2.out.size; omega) (fun k hk => (Q2.out.lt k hk).1); have Q3 : Hid (w3.ownsRow wr.heap.size 3 1 v3 (0 + i + 1 + (l.length - i)) ([] ++ (l.take i).map (Value.int .i64) ++ [.int .i64 n] ++ (l.drop i).map (Value.int .i64))) := o3; clear o3 g3 n3)
          | go_in)
        go_ret
        refine ⟨⟨_, rfl, ?_, ?_⟩, B3.out⟩
        · intro e
          have e' : v3 = .slice none 0 0 := e
          rcases Q3.out.2 with ⟨_, h0⟩ | ⟨g', c', cu', h0, _⟩
          · omega
          · rw [h0] at e'; cases e'
        · have hq : q = l.take i ++ ([n] ++ l.drop i) := by
            rw [HQ.out]; unfold ins; rw [hcut.out, if_neg hne.out]
          rw [hq]
          have hR := HI.out.2
          refine ⟨?_, fun y hy => ?_⟩
          · have hl2 : (l.take i ++ ([n] ++ l.drop i)).length = 0 + i + 1 + (l.length - i) := by simp; omega
            rw [hl2]
            have := own_less Q3.out hb
            simpa using this
          · simp only [List.mem_append, List.mem_singleton] at hy
            rcases hy with hy | rfl | hy
            · exact hR y (List.mem_of_mem_take hy)
            · exact HN.out
            · exact hR y (List.mem_of_mem_drop hy)

mutual
/-- What l5Vars makes of a list. -/
def vrs : ty.TyD → List Int → List Int
  | .mk (x0, x1, _) ks, l => vrsS ks (if x0 = 2 then ins l x1 else l)
def vrsS : List ty.TyD → List Int → List Int
  | [], l => l
  | k :: ks, l => vrsS ks (vrs k l)
end
theorem vrsS_append (a b : List ty.TyD) (l : List Int) : vrsS (a ++ b) l = vrsS b (vrsS a l) := by
  induction a generalizing l with
  | nil => simp [vrsS]
  | cons k ks ih => simp [vrsS, ih]
theorem vrsS_take {ks : List ty.TyD} {i : Nat} {l : List Int} (h : i < ks.length) : vrsS (ks.take (i + 1)) l = vrs ks[i] (vrsS (ks.take i) l) := by
  rw [List.take_succ_eq_append_getElem h, vrsS_append]; simp [vrsS]
theorem vrs_length (T : ty.TyD) : ∀ l, (vrs T l).length ≤ l.length + 1 + ty.wt T := by
  induction T using ind with
  | h x ks ih =>
    intro l
    obtain ⟨x0, x1, x2⟩ := x
    have key : ∀ (q : List ty.TyD), (∀ k ∈ q, ∀ l, (vrs k l).length ≤ l.length + 1 + ty.wt k) → ∀ l, (vrsS q l).length ≤ l.length + (q.length + ty.wts q) := by
      intro q
      induction q with
      | nil => intro _ l; simp [vrsS]
      | cons a q ih2 =>
        intro h l
        have h1 := h a (by simp) l
        have h2 := ih2 (fun k hk => h k (by simp [hk])) (vrs a l)
        simp only [vrsS, ty.wts, List.length_cons]
        omega
    have h1 := key ks ih (if x0 = 2 then ins l x1 else l)
    have h2 := ins_length l x1
    simp only [vrs, ty.wt]
    split at h1 <;> split <;> first | omega | contradiction
theorem vrsS_length (q : List ty.TyD) (l : List Int) : (vrsS q l).length ≤ l.length + (q.length + ty.wts q) := by
  induction q generalizing l with
  | nil => simp [vrsS]
  | cons a q ih2 =>
    have h1 := vrs_length a l
    have h2 := ih2 (vrs a l)
    simp only [vrsS, ty.wts, List.length_cons]
    omega

def VarsSays (T : ty.TyD) : Prop := ∀ cs w base v l, ty.wt T ≤ 1048576 → l.length + 1 + ty.wt T ≤ 2097152 → base ≤ w.heap.size → v ≠ .slice none 0 0 → ty.tySh.rep w (· < w.heap.size) cs T → IRow w base v l →
  Calls Try.prog 48 #[.agg cs.toArray, v] w fun e w' => (∃ v', e = .returned v' ∧ v' ≠ .slice none 0 0 ∧ IRow w' base v' (vrs T l)) ∧ Below w.heap.size w w'

set_option maxHeartbeats 4000000 in
theorem vars_any (T : ty.TyD) : VarsSays T := by
  induction T using ind with
  | h x ks ih =>
    intro cs w base v l hw hlw hb hv h hI
    obtain ⟨op, n, s, ks', a, cap, hT, rfl, f0, f1, f2, hk⟩ := ty.ty_open h
    cases hT
    clear h
    obtain ⟨a1, cap1, css, e, hcap, hmax, hrow, hk2⟩ := ty.tys_open hk
    cases e
    have hws : ty.wts ks ≤ 1048576 ∧ ks.length ≤ 1048576 := by simp [ty.wt] at hw; omega
    obtain ⟨hws, hkl⟩ := hws
    have IH : Hid (∀ k ∈ ks, VarsSays k) := ih
    have HR : Hid (RowAt w (· < w.heap.size) 4 a ks.length css ∧ ∀ i (h : i < ks.length), ty.tySh.rep w (· < w.heap.size) (css i) ks[i]) := ⟨hrow, hk2⟩
    obtain ⟨q, hq⟩ : ∃ q, q = vrs (.mk (op, n, s) ks) l := ⟨_, rfl⟩
    have HQ : Hid (q = vrsS ks (if op = 2 then ins l n else l)) := by show _ = _; rw [hq, vrs]
    rw [← hq]
    have hlw2 : l.length + 1 + (ks.length + ty.wts ks) ≤ 2097152 := by simp [ty.wt] at hlw; omega
    have HV0 : Hid (v ≠ .slice none 0 0 ∧ IRow w base v l) := ⟨hv, hI⟩
    clear ih hrow hk2 hk hcap hmax hw hq hlw f2 f0 hv hI
    have HF1 : Hid (InR n) := f1
    by_cases hop : op = 2
    · subst hop
      have hins := ins_length l n
      have LB : Hid ((ins l n).length + (ks.length + ty.wts ks) ≤ 2097152) := by show _ ≤ _; omega
      have HV : Hid (q = vrsS ks (ins l n)) := by show _ = _; rw [HQ.out, if_pos rfl]
      go_enter Try.func48, Try.ntmps48
      go_wp2_with fail
      have BA : Below w.heap.size w (w.alloc (.cells #[.int .i64 2, .int .i64 n, .string s, .slice a ks.length cap] 29)) := (Below.refl _ _).alloc (Nat.le_refl _) _
      refine (insert_any l n HF1.out v _ base (by omega) (Nat.le_trans hb BA.size) HV0.out.1 (HV0.out.2.keep BA)).mono ?_
      rintro e w0 ⟨⟨v0, rfl, hv0, hI0⟩, hb0⟩
      have V0 : Hid (v0 ≠ .slice none 0 0 ∧ IRow w0 base v0 (ins l n)) := ⟨hv0, hI0⟩
      have T3 : Hid (w0.cell? ⟨w.heap.size, 3, none⟩ = some (.slice a ks.length cap)) := (hb0.cell (p := ⟨w.heap.size, 3, none⟩) (by simp)).trans (by simp)
      have B0 : Hid (Below w.heap.size w w0) := BA.trans (hb0.mono (by simp))
      have Z0 : Hid (w.heap.size < w0.heap.size) := by have := hb0.size; simp at this; show _ < _; omega
      obtain ⟨l0, hl0⟩ : ∃ l0, l0 = ins l n := ⟨_, rfl⟩
      rw [← hl0] at V0 LB HV
      clear hv0 hI0 hb0 BA hl0 hins hlw2
      go_wp2
      go_loopw [1, 5] (fun v1 v5 wr => ∃ i : Nat, i ≤ ks.length ∧ v5 = .int .i64 i ∧ Hid (v1 ≠ .slice none 0 0 ∧ IRow wr base v1 (vrsS (ks.take i) l0) ∧ Below w0.heap.size w0 wr)) (fun _ v5 _ => ks.length - (intOf v5).toNat)
      case atStart => exact ⟨0, Nat.zero_le _, rfl, V0.out.1, by simpa [vrsS] using V0.out.2, Below.refl _ _⟩
      case round =>
        obtain ⟨i, hi, rfl, HB⟩ := hrel
        have c4 : wr.cell? ⟨w.heap.size, 3, none⟩ = some (.slice a ks.length cap) := (HB.out.2.2.cell (p := ⟨w.heap.size, 3, none⟩) Z0.out).trans T3.out
        by_cases hlt : i < ks.length
        · obtain ⟨b, o, rfl, hS, hc⟩ := HR.out.1 i hlt
          have hrep := HR.out.2 i hlt
          have BW : Below w.heap.size w wr := B0.out.trans (HB.out.2.2.mono B0.out.size)
          obtain ⟨v0, v1, v2, v3, hcs, c0, c1, c2, c3⟩ := ty.ty_cells hrep hc
          have e0 := (BW.cell (p := ⟨b, o + i * 4, none⟩) hS).trans c0
          have e1 := (BW.cell (p := ⟨b, o + i * 4 + 1, none⟩) hS).trans c1
          have e2 := (BW.cell (p := ⟨b, o + i * 4 + 2, none⟩) hS).trans c2
          have e3 := (BW.cell (p := ⟨b, o + i * 4 + 3, none⟩) hS).trans c3
          rw [hcs] at hrep
          clear c0 c1 c2 c3 hc hcs
          have hR := ty.tySh.mono (ty.tySh.below hrep BW) (S' := (· < wr.heap.size)) (fun b hb => Nat.lt_of_lt_of_le hb BW.size)
          have hwi : ty.wt ks[i] ≤ 1048576 := by have := ty.wt_mem (List.getElem_mem hlt); omega
          have D1 : Hid (vrsS (ks.take (i + 1)) l0 = vrs ks[i] (vrsS (ks.take i) l0)) := vrsS_take hlt
          have hcall := IH.out ks[i] (List.getElem_mem hlt) [v0, v1, v2, v3] wr base _ (vrsS (ks.take i) l0) hwi (by
            have h1 := vrsS_length (ks.take i) l0
            have h2 := ty.wts_take hlt
            have h3 := ty.wts_take_le ks (i + 1)
            have h4 := LB.out
            simp at h1
            omega) (Nat.le_trans hb BW.size) HB.out.1 hR HB.out.2.1
          have CB : Hid (Below w0.heap.size w0 wr) := HB.out.2.2
          clear hR hrep BW HB
          go_wp2_with fail
          refine hcall.mono ?_
          clear hcall
          rintro e w1 ⟨⟨v', rfl, hv', hI'⟩, hb1⟩
          have B1 : Hid (v' ≠ .slice none 0 0 ∧ IRow w1 base v' (vrsS (ks.take (i + 1)) l0) ∧ Below w0.heap.size w0 w1) := ⟨hv', by rw [D1.out]; exact hI', CB.out.trans (hb1.mono CB.out.size)⟩
          clear hb1 hv' hI' CB c4 e0 e1 e2 e3
          go_wp2
          go_round
          case rel => exact ⟨i + 1, by omega, by go_num, B1.out⟩
          case measure => simp [intOf]; omega
        · obtain rfl : i = ks.length := by omega
          have hq := HB.out
          rw [List.take_length] at hq
          go_wp2
          go_ret
          refine ⟨⟨_, rfl, hq.1, ?_⟩, B0.out.trans (hq.2.2.mono B0.out.size)⟩
          rw [HV.out]; exact hq.2.1
    · have hop' : (op == 2) = false := by simpa using hop
      have LB : Hid (l.length + (ks.length + ty.wts ks) ≤ 2097152) := by show _ ≤ _; omega
      have HV : Hid (q = vrsS ks l) := by show _ = _; rw [HQ.out, if_neg hop]
      obtain ⟨l0, hl0⟩ : ∃ l0, l0 = l := ⟨_, rfl⟩
      rw [← hl0] at LB HV HV0
      clear hl0 hlw2 HQ hop
      go_enter Try.func48, Try.ntmps48
      go_wp2
      obtain ⟨w0, hw0⟩ : ∃ w0, w0 = w.alloc (.cells #[.int .i64 op, .int .i64 n, .string s, .slice a ks.length cap] 29) := ⟨_, rfl⟩
      have BA : Below w.heap.size w w0 := by rw [hw0]; exact (Below.refl _ _).alloc (Nat.le_refl _) _
      have V0 : Hid (v ≠ .slice none 0 0 ∧ IRow w0 base v l0) := ⟨HV0.out.1, HV0.out.2.keep BA⟩
      have T3 : Hid (w0.cell? ⟨w.heap.size, 3, none⟩ = some (.slice a ks.length cap)) := by show _ = _; rw [hw0]; simp
      have B0 : Hid (Below w.heap.size w w0) := BA
      have Z0 : Hid (w.heap.size < w0.heap.size) := by show _ < _; rw [hw0]; simp
      rw [← hw0]
      clear hw0 BA
      go_loopw [1, 5] (fun v1 v5 wr => ∃ i : Nat, i ≤ ks.length ∧ v5 = .int .i64 i ∧ Hid (v1 ≠ .slice none 0 0 ∧ IRow wr base v1 (vrsS (ks.take i) l0) ∧ Below w0.heap.size w0 wr)) (fun _ v5 _ => ks.length - (intOf v5).toNat)
      case atStart => exact ⟨0, Nat.zero_le _, rfl, V0.out.1, by simpa [vrsS] using V0.out.2, Below.refl _ _⟩
      case round =>
        obtain ⟨i, hi, rfl, HB⟩ := hrel
        have c4 : wr.cell? ⟨w.heap.size, 3, none⟩ = some (.slice a ks.length cap) := (HB.out.2.2.cell (p := ⟨w.heap.size, 3, none⟩) Z0.out).trans T3.out
        by_cases hlt : i < ks.length
        · obtain ⟨b, o, rfl, hS, hc⟩ := HR.out.1 i hlt
          have hrep := HR.out.2 i hlt
          have BW : Below w.heap.size w wr := B0.out.trans (HB.out.2.2.mono B0.out.size)
          obtain ⟨v0, v1, v2, v3, hcs, c0, c1, c2, c3⟩ := ty.ty_cells hrep hc
          have e0 := (BW.cell (p := ⟨b, o + i * 4, none⟩) hS).trans c0
          have e1 := (BW.cell (p := ⟨b, o + i * 4 + 1, none⟩) hS).trans c1
          have e2 := (BW.cell (p := ⟨b, o + i * 4 + 2, none⟩) hS).trans c2
          have e3 := (BW.cell (p := ⟨b, o + i * 4 + 3, none⟩) hS).trans c3
          rw [hcs] at hrep
          clear c0 c1 c2 c3 hc hcs
          have hR := ty.tySh.mono (ty.tySh.below hrep BW) (S' := (· < wr.heap.size)) (fun b hb => Nat.lt_of_lt_of_le hb BW.size)
          have hwi : ty.wt ks[i] ≤ 1048576 := by have := ty.wt_mem (List.getElem_mem hlt); omega
          have D1 : Hid (vrsS (ks.take (i + 1)) l0 = vrs ks[i] (vrsS (ks.take i) l0)) := vrsS_take hlt
          have hcall := IH.out ks[i] (List.getElem_mem hlt) [v0, v1, v2, v3] wr base _ (vrsS (ks.take i) l0) hwi (by
            have h1 := vrsS_length (ks.take i) l0
            have h2 := ty.wts_take hlt
            have h3 := ty.wts_take_le ks (i + 1)
            have h4 := LB.out
            simp at h1
            omega) (Nat.le_trans hb BW.size) HB.out.1 hR HB.out.2.1
          have CB : Hid (Below w0.heap.size w0 wr) := HB.out.2.2
          clear hR hrep BW HB
          go_wp2_with fail
          refine hcall.mono ?_
          clear hcall
          rintro e w1 ⟨⟨v', rfl, hv', hI'⟩, hb1⟩
          have B1 : Hid (v' ≠ .slice none 0 0 ∧ IRow w1 base v' (vrsS (ks.take (i + 1)) l0) ∧ Below w0.heap.size w0 w1) := ⟨hv', by rw [D1.out]; exact hI', CB.out.trans (hb1.mono CB.out.size)⟩
          clear hb1 hv' hI' CB c4 e0 e1 e2 e3
          go_wp2
          go_round
          case rel => exact ⟨i + 1, by omega, by go_num, B1.out⟩
          case measure => simp [intOf]; omega
        · obtain rfl : i = ks.length := by omega
          have hq := HB.out
          rw [List.take_length] at hq
          go_wp2
          go_ret
          refine ⟨⟨_, rfl, hq.1, ?_⟩, B0.out.trans (hq.2.2.mono B0.out.size)⟩
          rw [HV.out]; exact hq.2.1

theorem lit_row (w : World) (base : Nat) (h : base ≤ w.heap.size) : IRow (w.alloc (.cells #[] 3)) base (.slice (some ⟨w.heap.size, 0, none⟩) 0 0) [] :=
  ⟨World.ownsRow_lit w #[] 0 h (Nat.zero_le _) rfl, fun x hx => by cases hx⟩

theorem specFreeVars (T : ty.TyD) (cs : List Value) (w : World) (hw : ty.wt T ≤ 1048576) (h : ty.tySh.rep w (· < w.heap.size) cs T) :
    Calls Try.prog 21 #[.agg cs.toArray] w fun e w' => (∃ v', e = .returned v' ∧ IRow w' w.heap.size v' (vrs T [])) ∧ Below w.heap.size w w' := by
  obtain ⟨v0, v1, v2, v3, rfl⟩ := ty.ty_list h
  have o0 := ty.tySh.one h v0 (by simp)
  have o1 := ty.tySh.one h v1 (by simp)
  have o2 := ty.tySh.one h v2 (by simp)
  have o3 := ty.tySh.one h v3 (by simp)
  have HR : Hid (ty.tySh.rep w (· < w.heap.size) [v0, v1, v2, v3] T) := h
  clear h
  go_enter Try.func21, Try.ntmps21
  go_wp2_with fail
  have BA : Below w.heap.size w ((w.alloc (.cells #[v0, v1, v2, v3] 29)).alloc (.cells #[] 3)) := ((Below.refl _ _).alloc (Nat.le_refl _) _).alloc (by simp) _
  refine (vars_any T _ _ w.heap.size _ [] hw (by simp; omega) BA.size (by simp) (ty.tySh.mono (ty.tySh.below HR.out BA) fun b hb => Nat.lt_of_lt_of_le hb BA.size) (by have := lit_row (w.alloc (.cells #[v0, v1, v2, v3] 29)) w.heap.size (by simp); simpa using this)).mono ?_
  rintro e w1 ⟨⟨v', rfl, -, hI⟩, hb⟩
  have B1 : Hid (Below w.heap.size w w1) := BA.trans (hb.mono BA.size)
  have I1 : Hid (IRow w1 w.heap.size v' (vrs T [])) := hI
  clear hb BA hI
  go_wp2
  go_ret
  exact ⟨⟨_, rfl, I1.out⟩, B1.out⟩

end Go.Proofs.Ytfekbchmgnpkaaa.ints

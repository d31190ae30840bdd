/-
  The model's l5Insert: a list that ascends, in new memory; nothing that was there is turned.
  The model's Reach, at every heap and all roots; nothing that was there is turned.
  A list that ascends is told by what is in it; numbers put into an ascending list one by one are the list in order.
  The block at a place of a heap (chapter 17): told in plain data; no program named.
-/
import Derived.Test.YthpdkjenadngoaaGreatDoorB1
import Derived.Test.YthpdkjenadngoaaGreatDoorB2
import Derived.Test.YthpdkjenadngoaaGreatDoorB3
import Derived.Test.YthpdkjenadngoaaGreatDoorB4
import Derived.Test.YthpdkjenadngoaaGreatDoorB5
import Derived.Test.YthpdkjenadngoaaGreatDoorB6
import Derived.Test.YthpdkjenadngoaaGreatDoorB7
import Derived.Test.YthpdkjenadngoaaGreatDoorB8
import Derived.Test.YthpdkjenadngoaaGreatDoorB9
import Derived.Test.YthpdkjenadngoaaGreatDoorB10
import Derived.Test.YthpdkjenadngoaaGreatDoorB11
import Derived.Test.YthpdkjenadngoaaGreatDoorB12
import Derived.Test.YthpdkjenadngoaaGreatDoorB13
import Derived.Test.YthpdkjenadngoaaGreatDoorB14
import Derived.Test.YthpdkjenadngoaaGreatDoorB15
import Derived.Test.YthpdkjenadngoaaGreatDoorB16
import Derived.Test.YthpdkjenadngoaaGreatDoorB17
import Derived.Test.YthpdkjenadngoaaGreatDoorB18
import Derived.Test.YthpdkjenadngoaaGreatDoorB19
namespace Go.Proofs.YthpdkjenadngoaaGreatDoor.ints
open Go.RowKit Go.Proofs.YthpdkjenadngoaaGreatDoor.rose Go.Proofs.YthpdkjenadngoaaGreatDoor
set_option linter.unusedVariables false

def cut (n : Int) : List Int → Nat
  | [] => 0
  | x :: xs => if x < n then cut n xs + 1 else 0
theorem cut_le (n : Int) (l : List Int) : cut n l ≤ l.length := by
  induction l with
  | nil => simp [cut]
  | cons x xs ih => simp only [cut]; split <;> simp <;> omega
theorem cut_of {n : Int} {l : List Int} {i : Nat} (h1 : i ≤ l.length) (h2 : ∀ j (h : j < l.length), j < i → l[j] < n) (h3 : ∀ h : i < l.length, ¬ l[i] < n) : cut n l = i := by
  induction l generalizing i with
  | nil => simp at h1; simp [cut, h1]
  | cons x xs ih =>
    cases i with
    | zero => have := h3 (by simp); simp at this; simp [cut]; omega
    | succ i =>
      have := h2 0 (by simp) (by omega)
      simp at this
      simp only [cut, if_pos this]
      rw [ih (by simpa using h1) (fun j hj hji => by have := h2 (j + 1) (by simp; omega) (by omega); simpa using this) (fun h => by have := h3 (by simp; omega); simpa using this)]
/-- n put into a list that ascends, once. -/
def ins (l : List Int) (n : Int) : List Int := if l[cut n l]? = some n then l else l.take (cut n l) ++ ([n] ++ l.drop (cut n l))

theorem ins_length (l : List Int) (n : Int) : (ins l n).length ≤ l.length + 1 := by
  unfold ins
  split
  · omega
  · have := cut_le n l; simp; omega

theorem wp_bounds {l : List Int} {n : Int} (h : ∀ x ∈ l, InR x) (hn : InR n) : ∀ x ∈ ins l n, InR x := by
  intro x hx
  unfold ins at hx
  split at hx
  · exact h x hx
  · simp only [List.mem_append, List.mem_singleton] at hx
    rcases hx with hx | rfl | hx
    · exact h x (List.mem_of_mem_take hx)
    · exact hn
    · exact h x (List.mem_of_mem_drop hx)

theorem own_less {w : World} {base base' : Nat} {v : Value} {n : Nat} {xs : List Value} (h : w.ownsRow base 3 1 v n xs) (hb : base' ≤ base) : w.ownsRow base' 3 1 v n xs := by
  refine ⟨h.1, ?_⟩
  rcases h.2 with h0 | ⟨g, cap, cur, h1, h2, h3⟩
  · exact Or.inl h0
  · exact Or.inr ⟨g, cap, cur, h1, Nat.le_trans hb h2, h3⟩

theorem one_cell (w : World) (n : Int) : ∀ j u, [Value.int .i64 n][j]? = some u → (w.alloc (.cells #[.int .i64 n] 3)).cell? ((⟨w.heap.size, 0, none⟩ : Addr).add j) = some u := by
  intro j u hu
  match j, hu with
  | 0, hu =>
    simp at hu; subst hu
    exact World.cell?_alloc_new w _ 3 0
  | _ + 1, hu => simp at hu
theorem one_one (n : Int) : ∀ u ∈ [Value.int .i64 n], u.oneCell' = true := by
  intro u hu; simp at hu; subst hu; rfl

set_option maxHeartbeats 2000000 in
theorem insert_any (l : List Int) (n : Int) (hn : InR n) (v : Value) (w : World) (base : Nat) (hl : l.length ≤ 2097152) (hb : base ≤ w.heap.size) (hv : v ≠ .slice none 0 0) (h : IRow w base v l) :
    Calls Tryz.prog 31 #[v, .int .i64 n] w fun e w' => (∃ v', e = .returned v' ∧ v' ≠ .slice none 0 0 ∧ IRow w' base v' (ins l n)) ∧ Below w.heap.size w w' := by
  obtain ⟨ti, hti⟩ := int_info
  have TI : Hid _ := hti
  rcases h.open with ⟨rfl, -⟩ | ⟨g, cap, rfl, h2, h3, h4, h5, h6, cur, t, h7⟩
  · exact absurd rfl hv
  have HI : Hid (IRow w base (.slice (some ⟨g, 0, none⟩) l.length cap) l) := h
  have HC : Hid (∀ i (hi : i < l.length), w.cell? ⟨g, i, none⟩ = some (.int .i64 l[i])) := h6
  have hmx : (cap : Int) ≤ 9223372036854775807 := by unfold maxLen at h5; omega
  have HN : Hid (InR n) := hn
  obtain ⟨q, hq⟩ : ∃ q, q = ins l n := ⟨_, rfl⟩
  have HQ : Hid (q = ins l n) := hq
  rw [← hq]
  clear hti h h6 h7 h5 hq hv hn
  go_enter Tryz.func31, Tryz.ntmps31
  go_wp2
  go_loopw [5] (fun v5 wr => ∃ i : Nat, i ≤ l.length ∧ v5 = .int .i64 i ∧ wr = w ∧ Hid (∀ j (h : j < l.length), j < i → l[j] < n)) (fun v5 _ => l.length - (intOf v5).toNat)
  case atStart => exact ⟨0, Nat.zero_le _, rfl, rfl, fun j _ hj => absurd hj (Nat.not_lt_zero _)⟩
  case round =>
    obtain ⟨i, hi, rfl, hwr, HJ⟩ := hrel
    subst hwr
    have FIN : ∀ (K : Prop), (Hid (cut n l = i) → Hid (l[i]? ≠ some n) → K) → (∀ h : i < l.length, ¬ l[i] < n) → (∀ h : i < l.length, l[i] ≠ n) → K := fun K hK hc hne => hK (cut_of hi HJ.out hc) (fun e => by
      obtain ⟨h1, h2⟩ := List.getElem?_eq_some_iff.1 e
      exact hne h1 h2)
    by_cases hlt : i < l.length
    · have e0 := HC.out i hlt
      by_cases hle : l[i] < n
      · have t1 : decide (l[i] < n) = true := by simpa using hle
        have NJ : Hid (∀ j (h : j < l.length), j < i + 1 → l[j] < n) := fun j hj hji => by
          by_cases e : j = i
          · subst e; exact hle
          · exact HJ.out j hj (by omega)
        generalize l[i] = x at e0 t1
        clear hle
        go_wp2
        go_round
        case rel => exact ⟨i + 1, by omega, by go_num, trivial, NJ⟩
        case measure => simp [intOf]; omega
      · by_cases heq : l[i] = n
        · have hcut := cut_of hi HJ.out (fun _ => hle)
          have hq : Hid (q = l) := by
            show _ = _
            rw [HQ.out]; unfold ins; rw [hcut, List.getElem?_eq_getElem hlt, heq, if_pos rfl]
          clear FIN hcut
          rw [heq] at e0
          clear heq hle
          go_wp2
          go_ret
          refine ⟨⟨_, rfl, by simp, ?_⟩, Below.refl _ _⟩
          rw [hq.out]; exact HI.out
        · refine FIN _ (fun hcut hne => ?_) (fun _ => hle) (fun _ => heq)
          clear FIN
          have t1 : decide (l[i] < n) = false := by simpa using hle
          have t2 : (l[i] == n) = false := by simpa using heq
          generalize l[i] = x at e0 t1 t2
          clear hle heq
          have N1 : Hid (∀ j u, ((l.take i).map (Value.int .i64))[j]? = some u → (wr.alloc (.cells #[] 3)).cell? ((⟨g, 0, none⟩ : Addr).add j) = some u) := fun j u hu => by
            rw [add_plain, Nat.zero_add, (((Below.refl _ wr).alloc (Nat.le_refl _) _).cell (p := ⟨g, j, none⟩) h3)]
            rw [List.getElem?_map] at hu
            obtain ⟨y, hy, rfl⟩ := Option.map_eq_some_iff.1 hu
            rw [List.getElem?_take] at hy
            split at hy
            · obtain ⟨h1, rfl⟩ := List.getElem?_eq_some_iff.1 hy
              exact HC.out j h1
            · cases hy
          have N3 : Hid (∀ w2 : World, Below wr.heap.size wr w2 → ∀ j u, ((l.drop i).map (Value.int .i64))[j]? = some u → w2.cell? ((⟨g, i, none⟩ : Addr).add j) = some u) := fun w2 hb2 j u hu => by
            rw [add_plain, hb2.cell (p := ⟨g, i + j, none⟩) h3]
            rw [List.getElem?_map] at hu
            obtain ⟨y, hy, rfl⟩ := Option.map_eq_some_iff.1 hu
            rw [List.getElem?_drop] at hy
            obtain ⟨h1, rfl⟩ := List.getElem?_eq_some_iff.1 hy
            exact HC.out (i + j) h1
          have O1 : Hid (∀ u ∈ (l.take i).map (Value.int .i64), u.oneCell' = true) := fun u hu => by
            obtain ⟨y, _, rfl⟩ := List.mem_map.1 hu; rfl
          have O3 : Hid (∀ u ∈ (l.drop i).map (Value.int .i64), u.oneCell' = true) := fun u hu => by
            obtain ⟨y, _, rfl⟩ := List.mem_map.1 hu; rfl
          have L0 : Hid ((wr.alloc (.cells #[] 3)).ownsRow wr.heap.size 3 1 (.slice (some ⟨wr.heap.size, 0, none⟩) 0 0) 0 []) := World.ownsRow_lit wr #[] 0 (Nat.le_refl _) (Nat.zero_le _) rfl
          have X1 : Hid (((l.take i).map (Value.int .i64)).length = i * 1) := by show _ = _; simp; omega
          have X3 : Hid (((l.drop i).map (Value.int .i64)).length = (l.length - i) * 1) := by show _ = _; simp
          go_wp2_with (first
            | (at_builtin; refine wpList_append_own _ rfl (.tmp 34) (.tmp 37) 24 rfl wr.heap.size 3 ti _ 1 8 Tryz.underlying24 TI.out.1 TI.out.2.1 TI.out.2.2.1 TI.out.2.2.2 rfl (by decide) _ _ _ rfl L0.out ⟨g, 0, none⟩ i cap ((l.take i).map (Value.int .i64)) rfl X1.out N1.out O1.out (by unfold maxLen; omega) (by omega) (by simp) ?_; intro v1 w1 o1 g1 n1; have B1 : Hid (Below wr.heap.size wr w1) := ((Below.refl _ wr).alloc (Nat.le_refl _) _).grown g1 (by simp) (fun k hk => by cases hk; exact Nat.le_refl _); have Q1 : Hid (w1.ownsRow wr.heap.size 3 1 v1 (0 + i) ([] ++ (l.take i).map (Value.int .i64))) := o1; clear o1 g1 n1)
            | (at_builtin; refine wpList_append_own _ rfl (.tmp 39) (.tmp 41) 24 rfl wr.heap.size 3 ti _ 1 8 Tryz.underlying24 TI.out.1 TI.out.2.1 TI.out.2.2.1 TI.out.2.2.2 rfl (by decide) _ _ _ rfl (Q1.out.alloc _) ⟨w1.heap.size, 0, none⟩ 1 1 [.int .i64 n] rfl rfl (one_cell w1 n) (one_one n) (by unfold maxLen; omega) (by omega) (by have := B1.out.size; simp; omega) ?_; intro v2 w2 o2 g2 n2; have B2 : Hid (Below wr.heap.size wr w2) := (B1.out.alloc B1.out.size _).grown g2 (by have := B1.out.size; simp; omega) (fun k hk => (Q1.out.lt k hk).1); have Q2 : Hid (w2.ownsRow wr.heap.size 3 1 v2 (0 + i + 1) ([] ++ (l.take i).map (Value.int .i64) ++ [.int .i64 n])) := o2; clear o2 g2 n2)
            | (at_builtin; refine wpList_append_own _ rfl (.tmp 43) (.tmp 46) 24 rfl wr.heap.size 3 ti _ 1 8 Tryz.underlying24 TI.out.1 TI.out.2.1 TI.out.2.2.1 TI.out.2.2.2 rfl (by decide) _ _ _ rfl Q2.out ⟨g, i, none⟩ (l.length - i) (cap - i) ((l.drop i).map (Value.int .i64)) rfl X3.out (N3.out w2 B2.out) O3.out (by unfold maxLen; omega) (by omega) (by have := B2.out.size; omega) ?_; intro v3 w3 o3 g3 n3; have B3 : Hid (Below wr.heap.size wr w3) := B2.out.grown g3 (by have := B2.out.size; omega) (fun k hk => (Q2.out.lt k hk).1); have Q3 : Hid (w3.ownsRow wr.heap.size 3 1 v3 (0 + i + 1 + (l.length - i)) ([] ++ (l.take i).map (Value.int .i64) ++ [.int .i64 n] ++ (l.drop i).map (Value.int .i64))) := o3; clear o3 g3 n3)
            | go_in)
          go_ret
          refine ⟨⟨_, rfl, ?_, ?_⟩, B3.out⟩
          · intro e
            have e' : v3 = .slice none 0 0 := e
            rcases Q3.out.2 with ⟨_, h0⟩ | ⟨g', c', cu', h0, _⟩
            · omega
            · rw [h0] at e'; cases e'
          · have hq : q = l.take i ++ ([n] ++ l.drop i) := by
              rw [HQ.out]; unfold ins; rw [hcut.out, if_neg hne.out]
            rw [hq]
            have hR := HI.out.2
            refine ⟨?_, fun y hy => ?_⟩
            · have hl2 : (l.take i ++ ([n] ++ l.drop i)).length = 0 + i + 1 + (l.length - i) := by simp; omega
              rw [hl2]
              have := own_less Q3.out hb
              simpa using this
            · simp only [List.mem_append, List.mem_singleton] at hy
              rcases hy with hy | rfl | hy
              · exact hR y (List.mem_of_mem_take hy)
              · exact HN.out
              · exact hR y (List.mem_of_mem_drop hy)
    · refine FIN _ (fun hcut hne => ?_) (fun h => absurd h hlt) (fun h => absurd h hlt)
      clear FIN
      by_cases hci : cap = i
      · have N1 : Hid (∀ j u, ((l.take i).map (Value.int .i64))[j]? = some u → (wr.alloc (.cells #[] 3)).cell? ((⟨g, 0, none⟩ : Addr).add j) = some u) := fun j u hu => by
          rw [add_plain, Nat.zero_add, (((Below.refl _ wr).alloc (Nat.le_refl _) _).cell (p := ⟨g, j, none⟩) h3)]
          rw [List.getElem?_map] at hu
          obtain ⟨y, hy, rfl⟩ := Option.map_eq_some_iff.1 hu
          rw [List.getElem?_take] at hy
          split at hy
          · obtain ⟨h1, rfl⟩ := List.getElem?_eq_some_iff.1 hy
            exact HC.out j h1
          · cases hy
        have N3 : Hid (∀ w2 : World, Below wr.heap.size wr w2 → ∀ j u, ((l.drop i).map (Value.int .i64))[j]? = some u → w2.cell? ((⟨g, 0, none⟩ : Addr).add j) = some u) := fun w2 hb2 j u hu => by
          rw [List.drop_eq_nil_of_le (by omega)] at hu
          cases hu
        have O1 : Hid (∀ u ∈ (l.take i).map (Value.int .i64), u.oneCell' = true) := fun u hu => by
          obtain ⟨y, _, rfl⟩ := List.mem_map.1 hu; rfl
        have O3 : Hid (∀ u ∈ (l.drop i).map (Value.int .i64), u.oneCell' = true) := fun u hu => by
          obtain ⟨y, _, rfl⟩ := List.mem_map.1 hu; rfl
        have L0 : Hid ((wr.alloc (.cells #[] 3)).ownsRow wr.heap.size 3 1 (.slice (some ⟨wr.heap.size, 0, none⟩) 0 0) 0 []) := World.ownsRow_lit wr #[] 0 (Nat.le_refl _) (Nat.zero_le _) rfl
        have X1 : Hid (((l.take i).map (Value.int .i64)).length = i * 1) := by show _ = _; simp; omega
        have X3 : Hid (((l.drop i).map (Value.int .i64)).length = (l.length - i) * 1) := by show _ = _; simp
        go_wp2_with (first
          | (at_builtin; refine wpList_append_own _ rfl (.tmp 34) (.tmp 37) 24 rfl wr.heap.size 3 ti _ 1 8 Tryz.underlying24 TI.out.1 TI.out.2.1 TI.out.2.2.1 TI.out.2.2.2 rfl (by decide) _ _ _ rfl L0.out ⟨g, 0, none⟩ i i ((l.take i).map (Value.int .i64)) rfl X1.out N1.out O1.out (by unfold maxLen; omega) (by omega) (by simp) ?_; intro v1 w1 o1 g1 n1; have B1 : Hid (Below wr.heap.size wr w1) := ((Below.refl _ wr).alloc (Nat.le_refl _) _).grown g1 (by simp) (fun k hk => by cases hk; exact Nat.le_refl _); have Q1 : Hid (w1.ownsRow wr.heap.size 3 1 v1 (0 + i) ([] ++ (l.take i).map (Value.int .i64))) := o1; clear o1 g1 n1)
          | (at_builtin; refine wpList_append_own _ rfl (.tmp 39) (.tmp 41) 24 rfl wr.heap.size 3 ti _ 1 8 Tryz.underlying24 TI.out.1 TI.out.2.1 TI.out.2.2.1 TI.out.2.2.2 rfl (by decide) _ _ _ rfl (Q1.out.alloc _) ⟨w1.heap.size, 0, none⟩ 1 1 [.int .i64 n] rfl rfl (one_cell w1 n) (one_one n) (by unfold maxLen; omega) (by omega) (by have := B1.out.size; simp; omega) ?_; intro v2 w2 o2 g2 n2; have B2 : Hid (Below wr.heap.size wr w2) := (B1.out.alloc B1.out.size _).grown g2 (by have := B1.out.size; simp; omega) (fun k hk => (Q1.out.lt k hk).1); have Q2 : Hid (w2.ownsRow wr.heap.size 3 1 v2 (0 + i + 1) ([] ++ (l.take i).map (Value.int .i64) ++ [.int .i64 n])) := o2; clear o2 g2 n2)
          | (at_builtin; refine wpList_append_own _ rfl (.tmp 43) (.tmp 46) 24 rfl wr.heap.size 3 ti _ 1 8 Tryz.underlying24 TI.out.1 TI.out.2.1 TI.out.2.2.1 TI.out.2.2.2 rfl (by decide) _ _ _ rfl Q2.out ⟨g, 0, none⟩ (l.length - i) 0 ((l.drop i).map (Value.int .i64)) rfl X3.out (N3.out w2 B2.out) O3.out (by unfold maxLen; omega) (by omega) (by have := B2.out.size; omega) ?_; intro v3 w3 o3 g3 n3; have B3 : Hid (Below wr.heap.size wr w3) := B2.out.grown g3 (by have := B2.out.size; omega) (fun k hk => (Q2.out.lt k hk).1); have Q3 : Hid (w3.ownsRow wr.heap.size 3 1 v3 (0 + i + 1 + (l.length - i)) ([] ++ (l.take i).map (Value.int .i64) ++ [.int .i64 n] ++ (l.drop i).map (Value.int .i64))) := o3; clear o3 g3 n3)
          | go_in)
        go_ret
        refine ⟨⟨_, rfl, ?_, ?_⟩, B3.out⟩
        · intro e
          have e' : v3 = .slice none 0 0 := e
          rcases Q3.out.2 with ⟨_, h0⟩ | ⟨g', c', cu', h0, _⟩
          · omega
          · rw [h0] at e'; cases e'
        · have hq : q = l.take i ++ ([n] ++ l.drop i) := by
            rw [HQ.out]; unfold ins; rw [hcut.out, if_neg hne.out]
          rw [hq]
          have hR := HI.out.2
          refine ⟨?_, fun y hy => ?_⟩
          · have hl2 : (l.take i ++ ([n] ++ l.drop i)).length = 0 + i + 1 + (l.length - i) := by simp; omega
            rw [hl2]
            have := own_less Q3.out hb
            simpa using this
          · simp only [List.mem_append, List.mem_singleton] at hy
            rcases hy with hy | rfl | hy
            · exact hR y (List.mem_of_mem_take hy)
            · exact HN.out
            · exact hR y (List.mem_of_mem_drop hy)
      · have N1 : Hid (∀ j u, ((l.take i).map (Value.int .i64))[j]? = some u → (wr.alloc (.cells #[] 3)).cell? ((⟨g, 0, none⟩ : Addr).add j) = some u) := fun j u hu => by
          rw [add_plain, Nat.zero_add, (((Below.refl _ wr).alloc (Nat.le_refl _) _).cell (p := ⟨g, j, none⟩) h3)]
          rw [List.getElem?_map] at hu
          obtain ⟨y, hy, rfl⟩ := Option.map_eq_some_iff.1 hu
          rw [List.getElem?_take] at hy
          split at hy
          · obtain ⟨h1, rfl⟩ := List.getElem?_eq_some_iff.1 hy
            exact HC.out j h1
          · cases hy
        have N3 : Hid (∀ w2 : World, Below wr.heap.size wr w2 → ∀ j u, ((l.drop i).map (Value.int .i64))[j]? = some u → w2.cell? ((⟨g, i, none⟩ : Addr).add j) = some u) := fun w2 hb2 j u hu => by
          rw [add_plain, hb2.cell (p := ⟨g, i + j, none⟩) h3]
          rw [List.getElem?_map] at hu
          obtain ⟨y, hy, rfl⟩ := Option.map_eq_some_iff.1 hu
          rw [List.getElem?_drop] at hy
          obtain ⟨h1, rfl⟩ := List.getElem?_eq_some_iff.1 hy
          exact HC.out (i + j) h1
        have O1 : Hid (∀ u ∈ (l.take i).map (Value.int .i64), u.oneCell' = true) := fun u hu => by
          obtain ⟨y, _, rfl⟩ := List.mem_map.1 hu; rfl
        have O3 : Hid (∀ u ∈ (l.drop i).map (Value.int .i64), u.oneCell' = true) := fun u hu => by
          obtain ⟨y, _, rfl⟩ := List.mem_map.1 hu; rfl
        have L0 : Hid ((wr.alloc (.cells #[] 3)).ownsRow wr.heap.size 3 1 (.slice (some ⟨wr.heap.size, 0, none⟩) 0 0) 0 []) := World.ownsRow_lit wr #[] 0 (Nat.le_refl _) (Nat.zero_le _) rfl
        have X1 : Hid (((l.take i).map (Value.int .i64)).length = i * 1) := by show _ = _; simp; omega
        have X3 : Hid (((l.drop i).map (Value.int .i64)).length = (l.length - i) * 1) := by show _ = _; simp
        go_wp2_with (first
          | (at_builtin; refine wpList_append_own _ rfl (.tmp 34) (.tmp 37) 24 rfl wr.heap.size 3 ti _ 1 8 Tryz.underlying24 TI.out.1 TI.out.2.1 TI.out.2.2.1 TI.out.2.2.2 rfl (by decide) _ _ _ rfl L0.out ⟨g, 0, none⟩ i cap ((l.take i).map (Value.int .i64)) rfl X1.out N1.out O1.out (by unfold maxLen; omega) (by omega) (by simp) ?_; intro v1 w1 o1 g1 n1; have B1 : Hid (Below wr.heap.size wr w1) := ((Below.refl _ wr).alloc (Nat.le_refl _) _).grown g1 (by simp) (fun k hk => by cases hk; exact Nat.le_refl _); have Q1 : Hid (w1.ownsRow wr.heap.size 3 1 v1 (0 + i) ([] ++ (l.take i).map (Value.int .i64))) := o1; clear o1 g1 n1)
          | (at_builtin; refine wpList_append_own _ rfl (.tmp 39) (.tmp 41) 24 rfl wr.heap.size 3 ti _ 1 8 Tryz.underlying24 TI.out.1 TI.out.2.1 TI.out.2.2.1 TI.out.2.2.2 rfl (by decide) _ _ _ rfl (Q1.out.alloc _) ⟨w1.heap.size, 0, none⟩ 1 1 [.int .i64 n] rfl rfl (one_cell w1 n) (one_one n) (by unfold maxLen; omega) (by omega) (by have := B1.out.size; simp; omega) ?_; intro v2 w2 o2 g2 n2; have B2 : Hid (Below wr.heap.size wr w2) := (B1.out.alloc B1.out.size _).grown g2 (by have := B1.out.size; simp; omega) (fun k hk => (Q1.out.lt k hk).1); have Q2 : Hid (w2.ownsRow wr.heap.size 3 1 v2 (0 + i + 1) ([] ++ (l.take i).map (Value.int .i64) ++ [.int .i64 n])) := o2; clear o2 g2 n2)
          | (at_builtin; refine wpList_append_own _ rfl (.tmp 43) (.tmp 46) 24 rfl wr.heap.size 3 ti _ 1 8 Tryz.underlying24 TI.out.1 TI.out.2.1 TI.out.2.2.1 TI.out.2.2.2 rfl (by decide) _ _ _ rfl Q2.out ⟨g, i, none⟩ (l.length - i) (cap - i) ((l.drop i).map (Value.int .i64)) rfl X3.out (N3.out w2 B2.out) O3.out (by unfold maxLen; omega) (by omega) (by have := B2.out.size; omega) ?_; intro v3 w3 o3 g3 n3; have B3 : Hid (Below wr.heap.size wr w3) := B2.out.grown g3 (by have := B2.out.size; omega) (fun k hk => (Q2.out.lt k hk).1); have Q3 : Hid (w3.ownsRow wr.heap.size 3 1 v3 (0 + i + 1 + (l.length - i)) ([] ++ (l.take i).map (Value.int .i64) ++ [.int .i64 n] ++ (l.drop i).map (Value.int .i64))) := o3; clear o3 g3 n3)
          | go_in)
        go_ret
        refine ⟨⟨_, rfl, ?_, ?_⟩, B3.out⟩
        · intro e
          have e' : v3 = .slice none 0 0 := e
          rcases Q3.out.2 with ⟨_, h0⟩ | ⟨g', c', cu', h0, _⟩
          · omega
          · rw [h0] at e'; cases e'
        · have hq : q = l.take i ++ ([n] ++ l.drop i) := by
            rw [HQ.out]; unfold ins; rw [hcut.out, if_neg hne.out]
          rw [hq]
          have hR := HI.out.2
          refine ⟨?_, fun y hy => ?_⟩
          · have hl2 : (l.take i ++ ([n] ++ l.drop i)).length = 0 + i + 1 + (l.length - i) := by simp; omega
            rw [hl2]
            have := own_less Q3.out hb
            simpa using this
          · simp only [List.mem_append, List.mem_singleton] at hy
            rcases hy with hy | rfl | hy
            · exact hR y (List.mem_of_mem_take hy)
            · exact HN.out
            · exact hR y (List.mem_of_mem_drop hy)

end Go.Proofs.YthpdkjenadngoaaGreatDoor.ints

namespace Go.Proofs.YthpdkjenadngoaaGreatDoor.heap
open Go Go.RowKit Go.Proofs.YthpdkjenadngoaaGreatDoor.rose Go.Proofs.YthpdkjenadngoaaGreatDoor Go.Proofs.YthpdkjenadngoaaGreatDoor.fun Go.Proofs.YthpdkjenadngoaaGreatDoor.words Go.Proofs.YthpdkjenadngoaaGreatDoor.ints
set_option linter.unusedVariables false
set_option linter.unusedSimpArgs false

/-- The places of blocks that are come to, ascending. -/
def reachF (T : HeapD) (rs : List Int) : List Int := if rightB T rs then (orderF T rs).foldl ins [] else []
theorem ins_take {l : List Int} {i : Nat} (h : i < l.length) : (l.take (i + 1)).foldl ins [] = ins ((l.take i).foldl ins []) l[i] := by
  rw [List.take_succ_eq_append_getElem h, List.foldl_append]; rfl
theorem ins_len (l : List Int) : (l.foldl ins []).length ≤ l.length := by
  have : ∀ (l : List Int) (k : List Int), (l.foldl ins k).length ≤ k.length + l.length := by
    intro l
    induction l with
    | nil => intro k; simp
    | cons x l ih => intro k; have := ih (ins k x); have := ins_length k x; simp only [List.foldl_cons, List.length_cons]; omega
  have := this l []
  simpa using this
set_option maxRecDepth 100000 in
set_option maxHeartbeats 8000000 in
theorem specReach (T : HeapD) (rs : List Int) (cs : List Value) (v : Value) (w : World) (hrl : rs.length ≤ 1048576) (h : heapSh.rep w (· < w.heap.size) cs T) (hv : intsSh.rep w (· < w.heap.size) [v] rs) :
    Calls Tryz.prog 13 #[.agg cs.toArray, v] w fun e w' => (∃ v', e = .returned v' ∧ IRow w' w.heap.size v' (reachF T rs)) ∧ Below w.heap.size w w' := by
  have AH : Hid (∀ w' : World, Below w.heap.size w w' → heapSh.rep w' (· < w'.heap.size) cs T) := fun w' hb => heapSh.mono (heapSh.below h hb) fun b hlt => Nat.lt_of_lt_of_le hlt hb.size
  have AV : Hid (∀ w' : World, Below w.heap.size w w' → intsSh.rep w' (· < w'.heap.size) [v] rs) := fun w' hb => intsSh.mono (intsSh.below hv hb) fun b hlt => Nat.lt_of_lt_of_le hlt hb.size
  obtain ⟨W, a0, c0, half, base, next, rfl, rfl, f0, f1, f2, f3⟩ := heap_open h
  obtain ⟨ar, cr, rfl, hcap, hmax, hat⟩ := ints_open hv
  have BA : Hid (Below w.heap.size w ((w.alloc (.cells #[.slice a0 W.length c0, .int .i64 half, .int .i64 base, .int .i64 next] 26)).alloc (.cells #[] 3))) := ((Below.refl _ _).alloc (Nat.le_refl _) _).alloc (by simp) _
  have A0 : Hid (ArgK w ((w.alloc (.cells #[.slice a0 W.length c0, .int .i64 half, .int .i64 base, .int .i64 next] 26)).alloc (.cells #[] 3)) [.slice a0 W.length c0, .int .i64 half, .int .i64 base, .int .i64 next] 26) := (ArgK.new _ _ _ rfl).on ((Below.refl _ _).alloc (Nat.le_refl _) _)
  have L0 : Hid (IRow ((w.alloc (.cells #[.slice a0 W.length c0, .int .i64 half, .int .i64 base, .int .i64 next] 26)).alloc (.cells #[] 3)) w.heap.size (.slice (some ⟨w.heap.size + 1, 0, none⟩) 0 0) []) := by
    show IRow _ _ _ _
    have := irow_lit0 (w.alloc (.cells #[.slice a0 W.length c0, .int .i64 half, .int .i64 base, .int .i64 next] 26)) (base := w.heap.size) (by simp)
    simpa using this
  obtain ⟨r, hr⟩ : ∃ r, r = reachF (W, half, base, next) rs := ⟨_, rfl⟩
  have HR : Hid (r = reachF (W, half, base, next) rs) := hr
  rw [← hr]
  have hcall := specRight (W, half, base, next) rs _ _ _ (AH.out _ BA.out) (AV.out _ BA.out)
  clear h hv f0 hr hcap hmax hat f1 f2 f3
  rcases q1 : rightB (W, half, base, next) rs with _ | _
  · have HF : Hid (r = []) := by show _ = _; rw [HR.out]; unfold reachF; rw [q1]; rfl
    rw [q1] at hcall
    clear q1
    go_enter Tryz.func13, Tryz.ntmps13
    go_wp2_with fail
    refine hcall.mono ?_
    rintro e w1 ⟨rfl, hb⟩
    have A1 := A0.out.on hb
    have L1 := L0.out.keep hb
    clear hcall hb
    go_wp2
    go_ret
    rw [HF.out]
    exact ⟨⟨_, rfl, L1⟩, A1.bel⟩
  · rw [q1] at hcall
    have Q1 : Hid (rightB (W, half, base, next) rs = true) := q1
    have HF : Hid (r = (orderF (W, half, base, next) rs).foldl ins []) := by show _ = _; rw [HR.out]; unfold reachF; rw [q1]; rfl
    clear q1
    go_enter Tryz.func13, Tryz.ntmps13
    go_wp2_with fail
    refine hcall.mono ?_
    rintro e w1 ⟨rfl, hb⟩
    have A1 : Hid (ArgK w w1 [.slice a0 W.length c0, .int .i64 half, .int .i64 base, .int .i64 next] 26) := A0.out.on hb
    have L1 : Hid (IRow w1 w.heap.size (.slice (some ⟨w.heap.size + 1, 0, none⟩) 0 0) []) := L0.out.keep hb
    have hcall2 := specOrder (W, half, base, next) rs _ _ w1 Q1.out hrl (AH.out _ A1.out.bel) (AV.out _ A1.out.bel)
    have k0 : w1.cell? ⟨w.heap.size, 0, none⟩ = some (.slice a0 W.length c0) := A1.out.cell 0 rfl
    have k1 : w1.cell? ⟨w.heap.size, 1, none⟩ = some (.int .i64 half) := A1.out.cell 1 rfl
    have k2 : w1.cell? ⟨w.heap.size, 2, none⟩ = some (.int .i64 base) := A1.out.cell 2 rfl
    have k3 : w1.cell? ⟨w.heap.size, 3, none⟩ = some (.int .i64 next) := A1.out.cell 3 rfl
    clear hcall hb
    obtain ⟨l, hl⟩ : ∃ l, l = orderF (W, half, base, next) rs := ⟨_, rfl⟩
    have HL : Hid (r = l.foldl ins []) := by show _ = _; rw [HF.out, hl]
    have hll : l.length ≤ 6000 := by rw [hl]; exact order_len Q1.out
    rw [← hl] at hcall2
    clear hl HF
    go_wp2_with fail
    refine hcall2.mono ?_
    rintro e w2 ⟨⟨v2, rfl, hr2⟩, hb2⟩
    have B2 : Hid (Below w.heap.size w w2) := A1.out.bel.trans (hb2.mono A1.out.bel.size)
    have L2 : Hid (IRow w2 w.heap.size (.slice (some ⟨w.heap.size + 1, 0, none⟩) 0 0) []) := L1.out.keep hb2
    have HO : Hid (IRow w2 w.heap.size v2 l) := irow_base0 hr2 A1.out.bel.size
    obtain ⟨a2, c2, hv2⟩ := own_form hr2.1
    subst hv2
    clear hcall2 hr2 hb2 k0 k1 k2 k3 L1 A1 L0 A0 BA
    go_wp2
    go_loopw [5, 7] (fun v5 v7 wr => ∃ (i : Nat), i ≤ l.length ∧ v7 = .int .i64 i ∧ Hid (v5 ≠ .slice none 0 0 ∧ IRow wr w.heap.size v5 ((l.take i).foldl ins []) ∧ Below w2.heap.size w2 wr)) (fun _ v7 _ => l.length - (intOf v7).toNat)
    case atStart => exact ⟨0, Nat.zero_le _, rfl, ⟨(fun e => by injection e with e1; cases e1), by simpa using L2.out, Below.refl _ _⟩⟩
    case round =>
      obtain ⟨i, hi, rfl, HQ⟩ := hrel
      by_cases hlt : i < l.length
      · rcases HO.out.open with ⟨-, h0⟩ | ⟨g, cp, hv, -, hg, -, -, hcl, -⟩
        · rw [h0] at hlt; simp at hlt
        cases hv
        have e0 : wr.cell? ⟨g, i, none⟩ = some (.int .i64 l[i]) := (HQ.out.2.2.cell (p := ⟨g, i, none⟩) hg).trans (hcl i hlt)
        have iI : (i : Int) < (l.length : Int) := by omega
        have hlen : ((l.take i).foldl ins []).length ≤ 2097152 := by have := ins_len (l.take i); rw [List.length_take] at this; omega
        have hc3 := insert_any ((l.take i).foldl ins []) l[i] (HO.out.2 _ (List.getElem_mem hlt)) u5 wr w.heap.size hlen (Nat.le_trans B2.out.size HQ.out.2.2.size) HQ.out.1 HQ.out.2.1
        rw [← ins_take hlt] at hc3
        generalize l[i] = y at e0 hc3
        clear hcl
        go_wp2_with fail
        refine hc3.mono ?_
        rintro e w3 ⟨⟨v3, rfl, hv3, hr3⟩, hb3⟩
        have HN : Hid (v3 ≠ .slice none 0 0 ∧ IRow w3 w.heap.size v3 ((l.take (i + 1)).foldl ins []) ∧ Below w2.heap.size w2 w3) := ⟨hv3, hr3, HQ.out.2.2.trans (hb3.mono HQ.out.2.2.size)⟩
        clear hc3 hv3 hr3 hb3
        go_wp2
        go_round
        case rel => exact ⟨i + 1, by omega, by go_num, HN⟩
        case measure => simp [intOf]; omega
      · obtain rfl : i = l.length := by omega
        go_wp2
        go_ret
        rw [HL.out]
        have := HQ.out.2.1
        rw [List.take_length] at this
        exact ⟨⟨_, rfl, this⟩, B2.out.trans (HQ.out.2.2.mono B2.out.size)⟩

end Go.Proofs.YthpdkjenadngoaaGreatDoor.heap

namespace Go.Proofs.YthpdkjenadngoaaGreatDoor.ints
open Go.RowKit Go.Proofs.YthpdkjenadngoaaGreatDoor.rose Go.Proofs.YthpdkjenadngoaaGreatDoor
set_option linter.unusedVariables false

def insR (n : Int) : List Int → List Int
  | [] => [n]
  | x :: xs => if x < n then x :: insR n xs else if x = n then x :: xs else n :: x :: xs

theorem ins_eq (l : List Int) (n : Int) : ins l n = insR n l := by
  induction l with
  | nil => simp [ins, insR, cut]
  | cons x xs ih =>
    unfold ins at ih ⊢
    by_cases h : x < n
    · simp only [cut, if_pos h, insR, List.getElem?_cons_succ, List.take_succ_cons, List.drop_succ_cons]
      rw [← ih]
      split <;> simp
    · by_cases h2 : x = n
      · subst h2; simp [cut, insR]
      · simp [cut, insR, h, h2]
theorem mem_insR {n y : Int} {l : List Int} : y ∈ insR n l ↔ y = n ∨ y ∈ l := by
  induction l with
  | nil => simp [insR]
  | cons x xs ih =>
    simp only [insR]
    split
    · rw [List.mem_cons, ih, List.mem_cons]
      constructor
      · rintro (h | h | h)
        · exact Or.inr (Or.inl h)
        · exact Or.inl h
        · exact Or.inr (Or.inr h)
      · rintro (h | h | h)
        · exact Or.inr (Or.inl h)
        · exact Or.inl h
        · exact Or.inr (Or.inr h)
    · split
      · rename_i h1 h2
        subst h2
        simp
      · simp
theorem insR_sorted {n : Int} {l : List Int} (h : l.Pairwise (· < ·)) : (insR n l).Pairwise (· < ·) := by
  induction l with
  | nil => simp [insR]
  | cons x xs ih =>
    rw [List.pairwise_cons] at h
    simp only [insR]
    split
    · rename_i hx
      rw [List.pairwise_cons]
      refine ⟨fun y hy => ?_, ih h.2⟩
      rcases mem_insR.1 hy with rfl | hy
      · exact hx
      · exact h.1 y hy
    · split
      · exact List.pairwise_cons.2 h
      · rename_i h1 h2
        rw [List.pairwise_cons]
        refine ⟨fun y hy => ?_, List.pairwise_cons.2 h⟩
        rcases List.mem_cons.1 hy with rfl | hy
        · omega
        · have := h.1 y hy; omega

theorem sorted_unique {a b : List Int} (ha : a.Pairwise (· < ·)) (hb : b.Pairwise (· < ·)) (h : ∀ x, x ∈ a ↔ x ∈ b) : a = b := by
  induction a generalizing b with
  | nil =>
    cases b with
    | nil => rfl
    | cons y ys => exact absurd ((h y).2 (by simp)) (by simp)
  | cons x xs ih =>
    cases b with
    | nil => exact absurd ((h x).1 (by simp)) (by simp)
    | cons y ys =>
      rw [List.pairwise_cons] at ha hb
      have hxy : x = y := by
        have h1 := (h x).1 (by simp)
        have h2 := (h y).2 (by simp)
        rcases List.mem_cons.1 h1 with e | e
        · exact e
        · rcases List.mem_cons.1 h2 with e2 | e2
          · exact e2.symm
          · have := ha.1 y e2; have := hb.1 x e; omega
      subst hxy
      rw [ih ha.2 hb.2 fun z => ?_]
      constructor
      · intro hz
        have := (h z).1 (by simp [hz])
        rcases List.mem_cons.1 this with e | e
        · subst e; have := ha.1 z hz; omega
        · exact e
      · intro hz
        have := (h z).2 (by simp [hz])
        rcases List.mem_cons.1 this with e | e
        · subst e; have := hb.1 z hz; omega
        · exact e

theorem fold_ins (d : List Int) : ∀ l : List Int, l.Pairwise (· < ·) → (d.foldl ins l).Pairwise (· < ·) ∧ ∀ x, x ∈ d.foldl ins l ↔ x ∈ l ∨ x ∈ d := by
  induction d with
  | nil => intro l h; exact ⟨h, fun x => by simp⟩
  | cons y d ih =>
    intro l h
    have h1 : (ins l y).Pairwise (· < ·) := by rw [ins_eq]; exact insR_sorted h
    obtain ⟨h2, h3⟩ := ih (ins l y) h1
    refine ⟨h2, fun x => ?_⟩
    rw [List.foldl_cons, h3, ins_eq, mem_insR, List.mem_cons]
    constructor
    · rintro ((h | h) | h)
      · exact Or.inr (Or.inl h)
      · exact Or.inl h
      · exact Or.inr (Or.inr h)
    · rintro (h | h | h)
      · exact Or.inl (Or.inr h)
      · exact Or.inl (Or.inl h)
      · exact Or.inr h
theorem sort_ins {d : List Int} (hn : d.Nodup) : (d.mergeSort fun x y => decide (x ≤ y)) = d.foldl ins [] := by
  obtain ⟨h1, h2⟩ := fold_ins d [] List.Pairwise.nil
  refine sorted_unique ?_ h1 fun x => ?_
  · have h1 : (d.mergeSort fun x y => decide (x ≤ y)).Pairwise (fun x y => decide (x ≤ y) = true) := List.pairwise_mergeSort (fun a b c h1 h2 => by simp at *; omega) (fun a b => by simp; omega) d
    have h2 : (d.mergeSort fun x y => decide (x ≤ y)).Nodup := (List.mergeSort_perm d _).nodup_iff.2 hn
    refine (h1.and h2).imp ?_
    rintro a b ⟨q1, q2⟩
    simp at q1
    omega
  · rw [(List.mergeSort_perm d _).mem_iff, h2]
    simp

end Go.Proofs.YthpdkjenadngoaaGreatDoor.ints

namespace Go.Proofs.YthpdkjenadngoaaGreatDoor.heap
open Go Go.RowKit Go.Proofs.YthpdkjenadngoaaGreatDoor.rose Go.Proofs.YthpdkjenadngoaaGreatDoor Go.Proofs.YthpdkjenadngoaaGreatDoor.fun
set_option linter.unusedVariables false

/-- The block at a place: whether it is a function, its tag, its kids. -/
def blockF (T : HeapD) (p : Int) : Bool × Int × List Int × Bool :=
  if heapB T && decide (p ∈ (plT T).1) then (funF (T.1.getD p.toNat 0), tagF (T.1.getD p.toNat 0), (T.1.drop (p.toNat + 1)).take (manyF (T.1.getD p.toNat 0)).toNat, true) else (false, 0, [], false)
theorem heapB_places_ok {T : HeapD} (h : heapB T = true) : (plT T).2 = true := by
  unfold heapB at h
  simp only [Bool.and_eq_true] at h
  exact h.1.2

end Go.Proofs.YthpdkjenadngoaaGreatDoor.heap

/-
  The model's cursor over a draw's bytes: l1New lays one; l1Byte, l1Below, l1PickInt and l1Pick read it, give what they say, and turn nothing but the cursor's own block.
  The model's draws out of a cursor: l1Below is below its bound, l1PickInt gives one of its list; nothing but the cursor's own block has turned.
  Lists that a draw picks from; what a draw has turned.
  More draws of the model out of a cursor: l1PickInt gives one of its list (what all of them are, it is), l1Once; nothing but the cursor's own block has turned.
-/
import Derived.Test.YthpdkjenadngoaaGreatDoorChecked
import Derived.WalkKit
import Derived.WalkLawsBesides
import Derived.Deep.QuietTactic
import Derived.BigQuiet
import Derived.Maps.Range
import Derived.Deep.RegionHeld
import Derived.Maps.AppendAt
import Derived.Deep.RegionWith
namespace Go.Proofs.YthpdkjenadngoaaGreatDoor.cur
open Go.RowKit
set_option linter.unusedVariables false

/-- THE BYTES OF A DRAW: a slice below block B whose cells are bytes. -/
def Code (B : Nat) (w : World) (a : Option Addr) (len : Nat) : Prop :=
  len ≤ 1048576 ∧ (0 < len → ∃ b off, a = some ⟨b, off, none⟩ ∧ b < B ∧ ∀ j, j < len → ∃ z : Int, w.cell? ⟨b, off + j, none⟩ = some (.int .u8 z) ∧ 0 ≤ z ∧ z ≤ 255)

/-- A CURSOR in block p. -/
def Cur (B : Nat) (w : World) (p : Nat) : Prop :=
  ∃ (a : Option Addr) (len cap i : Nat) (h : Int), w.heap[p]? = some (.cells #[.slice a len cap, .int .i64 i, .int .i64 h] 67) ∧ i ≤ len ∧ Code B w a len ∧ B ≤ p

theorem Code.of_cells {B : Nat} {w w' : World} {a : Option Addr} {len : Nat} (h : Code B w a len) (hc : ∀ ad : Addr, ad.block < B → w'.cell? ad = w.cell? ad) : Code B w' a len := by
  refine ⟨h.1, fun hl => ?_⟩
  obtain ⟨b, off, e, hb, hz⟩ := h.2 hl
  refine ⟨b, off, e, hb, fun j hj => ?_⟩
  obtain ⟨z, hc1, h0, h1⟩ := hz j hj
  exact ⟨z, by rw [hc _ hb]; exact hc1, h0, h1⟩

theorem new_empty (a : Option Addr) (cap : Nat) (w : World) :
    Calls Tryz.prog 19 #[.slice a 0 cap] w fun e w' => e = .returned (.pointer (some ⟨w.heap.size, 0, none⟩)) ∧ ∃ h : Int, w' = w.alloc (.cells #[.slice a 0 cap, .int .i64 0, .int .i64 h] 67) := by
  go_enter Tryz.func19, Tryz.ntmps19
  go_wp2
  go_loop [3, 4] (fun t i => i = .int .i64 0 ∧ ∃ h : Int, t = .int .i64 h) (fun _ _ => 0)
  case atStart => exact ⟨rfl, _, rfl⟩
  case round =>
    obtain ⟨rfl, h, rfl⟩ := hrel
    go_wp2
    go_ret
    exact ⟨rfl, h, rfl⟩

set_option maxHeartbeats 400000 in
theorem new_some (b off : Nat) (len cap : Nat) (B : Nat) (w : World) (hC : Code B w (some ⟨b, off, none⟩) len) :
    Calls Tryz.prog 19 #[.slice (some ⟨b, off, none⟩) len cap] w fun e w' => e = .returned (.pointer (some ⟨w.heap.size, 0, none⟩)) ∧ ∃ h : Int, w' = w.alloc (.cells #[.slice (some ⟨b, off, none⟩) len cap, .int .i64 0, .int .i64 h] 67) := by
  have hl := hC.1
  have HC : Hid (Code B w (some ⟨b, off, none⟩) len) := hC
  clear hC
  go_enter Tryz.func19, Tryz.ntmps19
  go_wp2
  go_loop [3, 4] (fun t i => ∃ (k : Nat) (h : Int), k ≤ len ∧ i = .int .i64 k ∧ t = .int .i64 h) (fun _ i => len - (intOf i).toNat)
  case atStart => exact ⟨0, _, Nat.zero_le _, rfl, rfl⟩
  case round =>
    obtain ⟨k, h, hk, rfl, rfl⟩ := hrel
    by_cases hlt : k < len
    · by_cases h4 : (k : Int) < 4000
      · obtain ⟨b', off', e, hb, hz⟩ := HC.out.2 (by omega)
        cases e
        obtain ⟨z, hz1, hz2, hz3⟩ := hz k hlt
        clear hz
        go_wp2
        go_round
        case rel => exact ⟨k + 1, _, by omega, by go_num, rfl⟩
        case measure => simp [intOf]; omega
      · go_wp2
        go_ret
        exact ⟨rfl, h, rfl⟩
    · go_wp2
      go_ret
      exact ⟨rfl, h, rfl⟩

/-- l1New: a cursor in a new block. -/
theorem new_any (a : Option Addr) (len cap : Nat) (B : Nat) (w : World) (hC : Code B w a len) (hB : B ≤ w.heap.size) :
    Calls Tryz.prog 19 #[.slice a len cap] w fun e w' => e = .returned (.pointer (some ⟨w.heap.size, 0, none⟩)) ∧ Cur B w' w.heap.size ∧ w.grownBy w' none ∧ w'.heap.size = w.heap.size + 1 := by
  have fin : ∀ h : Int, Cur B (w.alloc (.cells #[.slice a len cap, .int .i64 0, .int .i64 h] 67)) w.heap.size := fun h =>
    ⟨a, len, cap, 0, h, by show (w.heap.push _)[w.heap.size]? = _; simp, Nat.zero_le _, hC.of_cells fun ad had => World.cell?_alloc_lt w _ ad (by omega), hB⟩
  have key : Calls Tryz.prog 19 #[.slice a len cap] w fun e w' => e = .returned (.pointer (some ⟨w.heap.size, 0, none⟩)) ∧ ∃ h : Int, w' = w.alloc (.cells #[.slice a len cap, .int .i64 0, .int .i64 h] 67) := by
    by_cases hl : len = 0
    · subst hl; exact new_empty a cap w
    · obtain ⟨b, off, e, _, _⟩ := hC.2 (by omega)
      subst e
      exact new_some b off len cap B w hC
  refine key.mono ?_
  rintro e w' ⟨rfl, h, rfl⟩
  exact ⟨rfl, fin h, World.grownBy_alloc w _ none, by simp⟩

theorem mask255 (n : Int) : 0 ≤ bits .and .i64 n 255 ∧ bits .and .i64 n 255 ≤ 255 := by
  have h255 : (BitVec.ofInt 64 255).toNat = 2 ^ 8 - 1 := by decide
  have key : (BitVec.ofInt 64 n &&& BitVec.ofInt 64 255).toNat = (n % ((2 ^ 64 : Nat) : Int)).toNat % 2 ^ 8 := by
    rw [BitVec.toNat_and, BitVec.toNat_ofInt, h255, Nat.and_two_pow_sub_one_eq_mod]
  have e : bits .and .i64 n 255 = IntKind.i64.wrap ((BitVec.ofInt 64 n &&& BitVec.ofInt 64 255).toNat : Nat) := rfl
  rw [e, key, IntKind.wrap_i64]
  omega

theorem heap_set (w : World) (p o : Nat) (v : Value) (c : Array Value) (t : TypeId) (h : w.heap[p]? = some (.cells c t)) : (w.setCell ⟨p, o, none⟩ v).heap[p]? = some (.cells (c.setIfInBounds o v) t) := by
  simp [World.setCell, Array.getElem?_modify, h]
theorem grown_set (w : World) (p o : Nat) (v : Value) : w.grownBy (w.setCell ⟨p, o, none⟩ v) (some p) :=
  ⟨rfl, rfl, rfl, by simp [World.setCell], fun k _ hne => Below.heap_setCell w ⟨p, o, none⟩ v k (fun e => hne (by rw [e]))⟩
theorem grown_drewN {w w' : World} {row : Option Nat} (h : w.grownBy w' row) (n : Nat) : w.grownBy (w'.drewN n) row := ⟨h.os, h.tape, h.output, h.size, h.block⟩

set_option maxHeartbeats 1000000 in
theorem byte_some (p : Nat) (b off : Nat) (len cap i : Nat) (h : Int) (w : World) (hp : w.heap[p]? = some (.cells #[.slice (some ⟨b, off, none⟩) len cap, .int .i64 i, .int .i64 h] 67))
    (hl : len ≤ 1048576) (hi : i < len) (z : Int) (hz : w.cell? ⟨b, off + i, none⟩ = some (.int .u8 z)) (hz0 : 0 ≤ z) (hz1 : z ≤ 255) (hb : b < p) :
    Calls Tryz.prog 41 #[.pointer (some ⟨p, 0, none⟩)] w fun e w' => (∃ x : Int, e = .returned (.int .i64 x) ∧ 0 ≤ x ∧ x ≤ 255) ∧ (∃ h' : Int, w'.heap[p]? = some (.cells #[.slice (some ⟨b, off, none⟩) len cap, .int .i64 ((i + 1 : Nat) : Int), .int .i64 h'] 67)) ∧ w.grownBy w' (some p) := by
  have c0 : w.cell? ⟨p, 0, none⟩ = some (.slice (some ⟨b, off, none⟩) len cap) := by simp [World.cell?, hp]
  have c1 : w.cell? ⟨p, 1, none⟩ = some (.int .i64 i) := by simp [World.cell?, hp]
  have c2 : w.cell? ⟨p, 2, none⟩ = some (.int .i64 h) := by simp [World.cell?, hp]
  have f1 : w.frozen? ⟨p, 1, none⟩ = false := by simp [World.frozen?, hp]
  have f2 : w.frozen? ⟨p, 2, none⟩ = false := by simp [World.frozen?, hp]
  have HP : Hid (w.heap[p]? = some (.cells #[.slice (some ⟨b, off, none⟩) len cap, .int .i64 i, .int .i64 h] 67)) := hp
  clear hp
  go_enter Tryz.func41, Tryz.ntmps41
  go_wp2
  generalize wrap64 (wrap64 (h * 6364136223846793005) + 1442695040888963407) = h'
  have hz' : (w.setCell ⟨p, 2, none⟩ (.int .i64 h')).cell? ⟨b, off + i, none⟩ = some (.int .u8 z) := by
    rw [World.cell?_setCell_far _ _ _ _ (by simp; omega)]; exact hz
  go_quiet (fail)
  go_wp2
  go_quiet (fail)
  go_wp2
  go_quiet (fail)
  go_wp2
  go_ret
  refine ⟨⟨_, rfl, (mask255 _).1, (mask255 _).2⟩, ⟨h', ?_⟩, ?_⟩
  · have e1 := heap_set w p 2 (.int .i64 h') _ _ HP.out
    have e2 := heap_set (w.setCell ⟨p, 2, none⟩ (.int .i64 h')) p 1 (.int .i64 ((i + 1 : Nat) : Int)) _ _ e1
    exact e2
  · have g1 := grown_set w p 2 (.int .i64 h')
    have g2 := g1.trans (grown_set _ p 1 (.int .i64 ((i : Int) + 1)))
    exact ⟨g2.os, g2.tape, g2.output, g2.size, g2.block⟩

set_option maxHeartbeats 1000000 in
theorem byte_end (p : Nat) (a : Option Addr) (len cap i : Nat) (h : Int) (w : World) (hp : w.heap[p]? = some (.cells #[.slice a len cap, .int .i64 i, .int .i64 h] 67))
    (hl : len ≤ 1048576) (hi : ¬ i < len) :
    Calls Tryz.prog 41 #[.pointer (some ⟨p, 0, none⟩)] w fun e w' => (∃ x : Int, e = .returned (.int .i64 x) ∧ 0 ≤ x ∧ x ≤ 255) ∧ (∃ h' : Int, w'.heap[p]? = some (.cells #[.slice a len cap, .int .i64 i, .int .i64 h'] 67)) ∧ w.grownBy w' (some p) := by
  have c0 : w.cell? ⟨p, 0, none⟩ = some (.slice a len cap) := by simp [World.cell?, hp]
  have c1 : w.cell? ⟨p, 1, none⟩ = some (.int .i64 i) := by simp [World.cell?, hp]
  have c2 : w.cell? ⟨p, 2, none⟩ = some (.int .i64 h) := by simp [World.cell?, hp]
  have f2 : w.frozen? ⟨p, 2, none⟩ = false := by simp [World.frozen?, hp]
  have HP : Hid (w.heap[p]? = some (.cells #[.slice a len cap, .int .i64 i, .int .i64 h] 67)) := hp
  clear hp
  go_enter Tryz.func41, Tryz.ntmps41
  go_wp2
  generalize wrap64 (wrap64 (h * 6364136223846793005) + 1442695040888963407) = h'
  go_quiet (fail)
  go_wp2
  go_quiet (fail)
  go_wp2
  go_ret
  refine ⟨⟨_, rfl, (mask255 _).1, (mask255 _).2⟩, ⟨h', ?_⟩, ?_⟩
  · exact heap_set w p 2 (.int .i64 h') _ _ HP.out
  · have g1 := grown_set w p 2 (.int .i64 h')
    exact ⟨g1.os, g1.tape, g1.output, g1.size, g1.block⟩

theorem Cur.code {B p : Nat} {w w' : World} {a : Option Addr} {len : Nat} (h : Code B w a len) (hB : B ≤ p) (hpw : p < w.heap.size) (hg : w.grownBy w' (some p)) : Code B w' a len :=
  h.of_cells fun ad had => World.cell?_of_block (hg.block ad.block (by omega) (by simp; omega))

/-- l1Byte: a byte; the cursor stands; nothing else has turned. -/
theorem byte_any (B p : Nat) (w : World) (hc : Cur B w p) :
    Calls Tryz.prog 41 #[.pointer (some ⟨p, 0, none⟩)] w fun e w' => ∃ x : Int, e = .returned (.int .i64 x) ∧ 0 ≤ x ∧ x ≤ 255 ∧ Cur B w' p ∧ w.grownBy w' (some p) := by
  obtain ⟨a, len, cap, i, h, hp, hi, hC, hB⟩ := hc
  have hpw : p < w.heap.size := by
    rcases Nat.lt_or_ge p w.heap.size with h' | h'
    · exact h'
    · rw [Array.getElem?_eq_none h'] at hp; cases hp
  by_cases hlt : i < len
  · obtain ⟨b, off, e, hb, hz⟩ := hC.2 (by omega)
    subst e
    obtain ⟨z, hz0, hz1, hz2⟩ := hz i hlt
    refine (byte_some p b off len cap i h w hp hC.1 hlt z hz0 hz1 hz2 (by omega)).mono ?_
    rintro e w' ⟨⟨x, rfl, hx0, hx1⟩, ⟨h', hp'⟩, hg⟩
    exact ⟨x, rfl, hx0, hx1, ⟨_, len, cap, i + 1, h', hp', by omega, Cur.code hC hB hpw hg, hB⟩, hg⟩
  · refine (byte_end p a len cap i h w hp hC.1 hlt).mono ?_
    rintro e w' ⟨⟨x, rfl, hx0, hx1⟩, ⟨h', hp'⟩, hg⟩
    exact ⟨x, rfl, hx0, hx1, ⟨_, len, cap, i, h', hp', hi, Cur.code hC hB hpw hg, hB⟩, hg⟩
end Go.Proofs.YthpdkjenadngoaaGreatDoor.cur

namespace Go.Proofs.YthpdkjenadngoaaGreatDoor.cur
open Go.RowKit
set_option linter.unusedVariables false

theorem Cur.lt {B p : Nat} {w : World} (hc : Cur B w p) : p < w.heap.size := by
  obtain ⟨a, len, cap, i, h, hp, hi, hC, hB⟩ := hc
  rcases Nat.lt_or_ge p w.heap.size with h' | h'
  · exact h'
  · rw [Array.getElem?_eq_none h'] at hp; cases hp
theorem Cur.le {B p : Nat} {w : World} (hc : Cur B w p) : B ≤ p := hc.choose_spec.choose_spec.choose_spec.choose_spec.choose_spec.2.2.2
theorem Cur.on {B p : Nat} {w w' : World} (hc : Cur B w p) (hg : w.grownBy w' none) : Cur B w' p := by
  have hlt := hc.lt
  obtain ⟨a, len, cap, i, h, hp, hi, hC, hB⟩ := hc
  exact ⟨a, len, cap, i, h, by rw [hg.block p hlt (by simp)]; exact hp, hi, hC.of_cells fun ad had => World.cell?_of_block (hg.block ad.block (by omega) (by simp)), hB⟩

set_option maxHeartbeats 400000 in
/-- l1Below, at a bound up to 256. -/
theorem below_small (B p : Nat) (n : Int) (w : World) (hc : Cur B w p) (h0 : 0 < n) (h1 : n ≤ 256) :
    Calls Tryz.prog 21 #[.pointer (some ⟨p, 0, none⟩), .int .i64 n] w fun e w' => ∃ x : Int, e = .returned (.int .i64 x) ∧ 0 ≤ x ∧ x < n ∧ Cur B w' p ∧ w.grownBy w' (some p) := by
  have HC : Hid (Cur B w p) := hc
  clear hc
  have t1 : decide (n ≤ 0) = false := by simp; omega
  have t2 : decide (n ≤ 256) = true := by simp; omega
  have t3 : (n == 0) = false := beq_eq_false_iff_ne.2 (by omega)
  go_enter Tryz.func21, Tryz.ntmps21
  go_wp2_with fail
  refine (byte_any B p _ HC.out).mono ?_
  rintro e w1 ⟨x, rfl, hx0, hx1, hc1, hg1⟩
  have H1 : Hid (Cur B w1 p) := hc1
  have G1 : Hid (w.grownBy w1 (some p)) := hg1
  clear hc1 hg1
  go_wp2
  go_ret
  exact ⟨_, rfl, Int.emod_nonneg _ (by omega), Int.emod_lt_of_pos _ h0, H1.out, G1.out⟩

set_option maxHeartbeats 400000 in
/-- l1PickInt: one of the list. -/
theorem pickInt_any (B p q n : Nat) (w : World) (hc : Cur B w p) (h0 : 0 < n) (h1 : n ≤ 256) (hq : q ≠ p) (hqw : q < w.heap.size)
    (hz : ∀ j, j < n → ∃ z : Int, w.cell? ⟨q, j, none⟩ = some (.int .i64 z) ∧ -9223372036854775808 ≤ z ∧ z ≤ 9223372036854775807) :
    Calls Tryz.prog 40 #[.pointer (some ⟨p, 0, none⟩), .slice (some ⟨q, 0, none⟩) n n] w fun e w' => ∃ x : Int, e = .returned (.int .i64 x) ∧ -9223372036854775808 ≤ x ∧ x ≤ 9223372036854775807 ∧ Cur B w' p ∧ w.grownBy w' (some p) := by
  have HC : Hid (Cur B w p) := hc
  have HZ : Hid (∀ j, j < n → ∃ z : Int, w.cell? ⟨q, j, none⟩ = some (.int .i64 z) ∧ -9223372036854775808 ≤ z ∧ z ≤ 9223372036854775807) := hz
  clear hc hz
  go_enter Tryz.func40, Tryz.ntmps40
  go_wp2_with fail
  refine (below_small B p (n : Int) _ HC.out (by omega) (by omega)).mono ?_
  rintro e w1 ⟨x, rfl, hx0, hx1, hc1, hg1⟩
  have H1 : Hid (Cur B w1 p) := hc1
  have G1 : Hid (w.grownBy w1 (some p)) := hg1
  clear hc1 hg1
  obtain ⟨k, rfl⟩ := Int.eq_ofNat_of_zero_le hx0
  obtain ⟨z, hz1, hz2, hz3⟩ := HZ.out k (by omega)
  have hcell : w1.cell? ⟨q, k, none⟩ = some (.int .i64 z) := by
    rw [World.cell?_of_block (G1.out.block q hqw (by simpa using hq))]; exact hz1
  clear hz1
  go_wp2
  go_ret
  exact ⟨z, rfl, hz2, hz3, H1.out, G1.out⟩

end Go.Proofs.YthpdkjenadngoaaGreatDoor.cur

namespace Go.Proofs.YthpdkjenadngoaaGreatDoor.cur
open Go.RowKit
set_option linter.unusedVariables false

theorem grown_drew {w w' : World} {row : Option Nat} (h : w.grownBy w' row) : w.grownBy w'.drew row := ⟨h.os, h.tape, h.output, h.size, h.block⟩

theorem ints_new (w : World) (zs : List Int) (t : TypeId) (hz : ∀ z ∈ zs, -9223372036854775808 ≤ z ∧ z ≤ 9223372036854775807) :
    ∀ j, j < zs.length → ∃ z : Int, (w.alloc (.cells (zs.map (Value.int .i64)).toArray t)).cell? ⟨w.heap.size, j, none⟩ = some (.int .i64 z) ∧ -9223372036854775808 ≤ z ∧ z ≤ 9223372036854775807 := by
  intro j hj
  refine ⟨zs[j], ?_, hz _ (List.getElem_mem hj)⟩
  rw [World.cell?_alloc_new]
  simp [hj]
theorem strs_new (w : World) (ss : List ByteArray) (t : TypeId) (m : Nat) (hz : ∀ s ∈ ss, s.size ≤ m) :
    ∀ j, j < ss.length → ∃ s : ByteArray, (w.alloc (.cells (ss.map Value.string).toArray t)).cell? ⟨w.heap.size, j, none⟩ = some (.string s) ∧ s.size ≤ m := by
  intro j hj
  refine ⟨ss[j], ?_, hz _ (List.getElem_mem hj)⟩
  rw [World.cell?_alloc_new]
  simp [hj]
theorem below_of {B p : Nat} {w w1 w2 : World} (hB : B = w.heap.size) (h1 : w.grownBy w1 none) (h2 : w1.grownBy w2 (some p)) (hp : B ≤ p) : Below w.heap.size w w2 := by
  subst hB
  exact ((Below.refl _ w).grown h1 (Nat.le_refl _) (fun k hk => by cases hk)).grown h2 h1.size (fun k hk => by cases hk; exact hp)

end Go.Proofs.YthpdkjenadngoaaGreatDoor.cur

namespace Go.Proofs.YthpdkjenadngoaaGreatDoor.cur
open Go.RowKit
set_option linter.unusedVariables false

set_option maxHeartbeats 400000 in
/-- l1PickInt: one of the list, and what they all are. -/
theorem pickInt_of (P : Int → Prop) (B p q n : Nat) (w : World) (hc : Cur B w p) (h0 : 0 < n) (h1 : n ≤ 256) (hq : q ≠ p) (hqw : q < w.heap.size)
    (hz : ∀ j, j < n → ∃ z : Int, w.cell? ⟨q, j, none⟩ = some (.int .i64 z) ∧ P z) :
    Calls Tryz.prog 40 #[.pointer (some ⟨p, 0, none⟩), .slice (some ⟨q, 0, none⟩) n n] w fun e w' => ∃ x : Int, e = .returned (.int .i64 x) ∧ P x ∧ Cur B w' p ∧ w.grownBy w' (some p) := by
  have HC : Hid (Cur B w p) := hc
  have HZ : Hid (∀ j, j < n → ∃ z : Int, w.cell? ⟨q, j, none⟩ = some (.int .i64 z) ∧ P z) := hz
  clear hc hz
  go_enter Tryz.func40, Tryz.ntmps40
  go_wp2_with fail
  refine (below_small B p (n : Int) _ HC.out (by omega) (by omega)).mono ?_
  rintro e w1 ⟨x, rfl, hx0, hx1, hc1, hg1⟩
  have H1 : Hid (Cur B w1 p) := hc1
  have G1 : Hid (w.grownBy w1 (some p)) := hg1
  clear hc1 hg1
  obtain ⟨k, rfl⟩ := Int.eq_ofNat_of_zero_le hx0
  obtain ⟨z, hz1, hz2⟩ := HZ.out k (by omega)
  have hcell : w1.cell? ⟨q, k, none⟩ = some (.int .i64 z) := by
    rw [World.cell?_of_block (G1.out.block q hqw (by simpa using hq))]; exact hz1
  have HZ2 : Hid (P z) := hz2
  clear hz1 hz2
  go_wp2
  go_ret
  exact ⟨z, rfl, HZ2.out, H1.out, G1.out⟩
theorem ints_of (P : Int → Prop) (w : World) (zs : List Int) (t : TypeId) (hz : ∀ z ∈ zs, P z) :
    ∀ j, j < zs.length → ∃ z : Int, (w.alloc (.cells (zs.map (Value.int .i64)).toArray t)).cell? ⟨w.heap.size, j, none⟩ = some (.int .i64 z) ∧ P z := by
  intro j hj
  refine ⟨zs[j], ?_, hz _ (List.getElem_mem hj)⟩
  rw [World.cell?_alloc_new]
  simp [hj]

set_option maxHeartbeats 400000 in
theorem once_any (B p : Nat) (n : Int) (w : World) (hc : Cur B w p) (h0 : 0 < n) (h1 : n ≤ 256) :
    Calls Tryz.prog 74 #[.pointer (some ⟨p, 0, none⟩), .int .i64 n] w fun e w' => ∃ x : Bool, e = .returned (.bool x) ∧ Cur B w' p ∧ w.grownBy w' (some p) := by
  have HC : Hid (Cur B w p) := hc
  clear hc
  go_enter Tryz.func74, Tryz.ntmps74
  go_wp2_with fail
  refine (below_small B p n _ HC.out h0 h1).mono ?_
  rintro e w1 ⟨x, rfl, hx0, hx1, hc1, hg1⟩
  have H1 : Hid (Cur B w1 p) := hc1
  have G1 : Hid (w.grownBy w1 (some p)) := hg1
  clear hc1 hg1
  go_wp2
  go_ret
  exact ⟨_, rfl, H1.out, G1.out⟩

end Go.Proofs.YthpdkjenadngoaaGreatDoor.cur
